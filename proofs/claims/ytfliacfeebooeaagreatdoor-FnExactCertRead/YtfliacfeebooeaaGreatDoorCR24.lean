/- spec.l05Seven, walked. spec.l05Oid, walked. spec.l06Seq, spec.l06Name, walked. spec.l06Kind, walked. spec.l06Time, spec.NameRight, walked. spec.l06Time, spec.l06Names, walked. spec.l06Right, walked. spec.l04In, spec.SigRight, walked. spec.l06Right, spec.CertRight, walked. The specification's papers in bytes: spec.l06Seq, l06Kind, l06Name, l06Hosts, walked. -/
import Derived.Test.YtfliacfeebooeaaGreatDoorCR03
import Derived.Test.YtfliacfeebooeaaGreatDoorCR01
import Derived.Test.YtfliacfeebooeaaGreatDoorCR06
import Derived.Deep.RegionHeld3
import Derived.Test.YtfliacfeebooeaaGreatDoorCR04
import Derived.Test.YtfliacfeebooeaaGreatDoorCR08
import Derived.WalkLawsBesides
import Derived.Deep.Cut
namespace Go.Proofs.YtfliacfeebooeaaGreatDoor
open Go.RowKit

theorem own_sliceW {w : World} {B e n : Nat} {v : Value} {xs : List Value} (h : w.ownsRow B e 1 v n xs) (hn : 0 < n) : ∃ g cap, v = .slice (some ⟨g, 0, none⟩) n cap := by
  rcases h.2 with ⟨_, h'⟩ | ⟨g, cap, _, h', _⟩
  · omega
  · exact ⟨g, cap, h'⟩
def sLenW : Value → Nat
  | .slice _ n _ => n
  | _ => 0
set_option maxHeartbeats 1000000 in
set_option maxRecDepth 100000 in
theorem specSeven (x : Nat) (w : World) (hx : x < 9223372036854775808) :
    Calls Tryz.prog 88 #[.int .i64 (x : Int)] w fun e w' => e = .returned (.string (strOfNums (sevL x))) ∧ Below w.heap.size w w' := by
  obtain ⟨i0, hi, hz0, hz1, hz2⟩ := info_parts infoByte
  go_enter Tryz.func88, Tryz.ntmps88
  go_wp2_with fail
  go_loopw [0, 3] (fun n b wr => ∃ (y f g c : Nat) (tl : List Int), y < 128 ^ f ∧ y < 9223372036854775808 ∧ f + tl.length ≤ 9 ∧ n = .int .i64 (y : Int) ∧ b = .slice (some ⟨g, 0, none⟩) (tl.length + 1) c ∧
      wr.ownsRow w.heap.size 5 1 (.slice (some ⟨g, 0, none⟩) (tl.length + 1) c) (tl.length + 1) ((tl ++ [((x % 128 : Nat) : Int)]).map (Value.int .u8)) ∧ Below w.heap.size w wr ∧ w.heap.size ≤ wr.heap.size ∧ sevH f y ++ (tl ++ [((x % 128 : Nat) : Int)]) = sevL x)
    (fun _ b _ => 20 - sLenW b)
  case atStart =>
    refine ⟨x / 128, 9, _, 1, [], by rw [p9]; omega, by omega, by simp, by simp, rfl, ?_, (Below.refl _ _).alloc (Nat.le_refl _) _, by simp, by simp [sevL]⟩
    have := World.ownsRow_lit (base := w.heap.size) (e := 5) (size := 1) w #[.int .u8 ((x : Int) % 128)] 1 (Nat.le_refl _) (by decide) rfl
    simpa using this
  case round =>
    obtain ⟨y, f, g, c, tl, hf, hy, hlen, rfl, rfl, hown, hbel, hsz, heq⟩ := hrel
    have HE : Hid (sevH f y ++ (tl ++ [((x % 128 : Nat) : Int)]) = sevL x) := heq
    have HF : Hid (y < 128 ^ f) := hf
    generalize hz : ((x % 128 : Nat) : Int) = z at *
    clear heq hf
    by_cases h0 : y = 0
    · have HS : Hid (sevL x = tl ++ [z]) := by
        show _ = _
        rw [← HE.out, h0, sevH_zero]; rfl
      have hcv := run_convert_own (P := Tryz.prog) (src := 94) (dst := 9) Tryz.underlying94 Tryz.underlying5 Tryz.underlying9 hown
      clear hown HE HF
      subst h0
      go_wp2
      go_ret
      exact ⟨by rw [HS.out]; rfl, hbel⟩
    · have HN : Hid (y ≠ 0) := h0
      have hp : 0 < y := by omega
      have HSRC : Hid (∀ j u, ((tl ++ [z]).map (Value.int .u8))[j]? = some u → wr.cell? ⟨g, j, none⟩ = some u) := fun j u hj => by
        rw [hown.cellAt j (by
          rcases Nat.lt_or_ge j (tl.length + 1) with h | h
          · omega
          · rw [List.getElem?_eq_none (by simpa using h)] at hj; cases hj)]
        exact hj
      clear h0
      have hlt := (hown.lt g rfl).2
      go_wp2_with (at_builtin; refine wpList_append_own _ rfl _ _ 94 rfl w.heap.size 5 i0 (.int .u8 0) 1 1 Tryz.underlying94 hi hz0 hz1 hz2 rfl (by decide) _ 1 _ rfl (World.ownsRow_lit _ _ 1 hsz (by decide) rfl) ⟨g, 0, none⟩ (tl.length + 1) c ((tl ++ [z]).map (Value.int .u8)) rfl (by simp) ?c1 ?c2 ?c3 ?c4 ?c5 ?_)
      case c1 =>
        intro j u hj
        rw [Addr.add_lit, Nat.zero_add, World.cell?_alloc_lt _ _ ⟨g, j, none⟩ hlt]
        exact HSRC.out j u hj
      case c2 => intro u hu; exact oneCell_ints .u8 _ u hu
      case c3 => unfold maxLen; omega
      case c4 => omega
      case c5 => simp; omega
      intro v' w1 hown' hgrow hx'
      obtain ⟨g', cap, rfl⟩ := own_sliceW hown' (by omega)
      have hb1 : Below w.heap.size w w1 := (hbel.alloc hsz _).grown hgrow (by simp; omega) (fun k hk => (World.ownsRow_lit (base := w.heap.size) (e := 5) (size := 1) wr #[.int .u8 0] 1 hsz (by decide) rfl).lt k hk |>.1)
      have hs1 : w.heap.size ≤ w1.heap.size := hb1.size
      have HO : Hid (w1.ownsRow w.heap.size 5 1 (.slice (some ⟨g', 0, none⟩) ((((y % 128 + 128 : Nat) : Int) :: tl).length + 1) cap) ((((y % 128 + 128 : Nat) : Int) :: tl).length + 1) (((((y % 128 + 128 : Nat) : Int) :: tl) ++ [z]).map (Value.int .u8))) := by
        show World.ownsRow _ _ _ _ _ _ _
        have e1 : 1 + (tl.length + 1) = (((y % 128 + 128 : Nat) : Int) :: tl).length + 1 := by simp; omega
        rw [e1] at hown'
        have e2 : (128 : Int) + (y : Int) % 128 = (y : Int) % 128 + 128 := by omega
        simpa [e2] using hown'
      have hw : 1 + (tl.length + 1) = (((y % 128 + 128 : Nat) : Int) :: tl).length + 1 := by simp; omega
      rw [hw]
      clear hown' hgrow hx' hown hbel hlt HSRC hz
      go_wp2
      go_roundw
      case rel =>
        obtain ⟨f', rfl, hf', he⟩ := sevH_more HN.out HF.out
        refine ⟨y / 128, f', g', cap, ((y % 128 + 128 : Nat) : Int) :: tl, hf', by omega, by simp; omega, by simp, rfl, HO.out, hb1, hs1, ?_⟩
        rw [← HE.out, he]; simp
      case measure => simp [sLenW]; omega
end Go.Proofs.YtfliacfeebooeaaGreatDoor
namespace Go.Proofs.YtfliacfeebooeaaGreatDoor
open Go.RowKit

theorem arcs_nat {zs : List Int} (h : arcsB zs = true) (i : Nat) (h2 : 2 ≤ i) (hi : i < zs.length) : ∃ x : Nat, zs.getD i 0 = (x : Int) ∧ x ≤ 2147483647 := by
  have := (arcsB_iff.1 h).2.2.2.2.2.2 i h2 hi
  exact ⟨(zs.getD i 0).toNat, by omega, by omega⟩
set_option maxHeartbeats 1000000 in
set_option maxRecDepth 100000 in
theorem specOid (a : Option Addr) (zs : List Int) (c : Nat) (w : World) (hr : arcsB zs = true) (ha : IsInts w a zs) :
    Calls Tryz.prog 54 #[.slice a zs.length c] w fun e w' => e = .returned (.string (thingD 6 (strOfNums (oidL zs)))) ∧ Below w.heap.size w w' := by
  obtain ⟨r2, r10, r0, r0', r1, r1', _⟩ := arcsB_iff.1 hr
  have hm2 : most2 (zs.getD 0 0) ≤ 100 := by unfold most2; split <;> omega
  have hlt := ha.lt
  obtain ⟨b, o, rfl, hc⟩ := ha.at (by intro h; rw [h] at r2; simp at r2)
  have hbw : b < w.heap.size := by
    rcases hlt with h | h
    · rw [h] at r2; simp at r2
    · exact h _ rfl
  have c0 := hc 0 (by omega)
  have c1 := hc 1 (by omega)
  rw [Nat.add_zero] at c0
  have HI : Hid (∀ W, Below w.heap.size w W → ∀ i, i < zs.length → W.cell? ⟨b, o + i, none⟩ = some (.int .i64 (zs.getD i 0))) := fun W hW i hi => by
    rw [hW.cell (p := ⟨b, o + i, none⟩) hbw]; exact hc i hi
  obtain ⟨y, hy⟩ : ∃ y : Nat, y = (40 * zs.getD 0 0 + zs.getD 1 0).toNat := ⟨_, rfl⟩
  have H0 : Hid (oidTo zs 0 = sevL y) := by rw [hy]; rfl
  have hyi : 40 * zs.getD 0 0 + zs.getD 1 0 = (y : Int) := by omega
  have hy2 : y ≤ 180 := by omega
  obtain ⟨n, hn⟩ : ∃ n, n = zs.length := ⟨_, rfl⟩
  have HL : Hid (oidL zs = oidTo zs (n - 2)) := by rw [hn]; rfl
  have HLen : Hid (∀ k, k + 2 ≤ n → (strOfNums (oidTo zs k)).size ≤ 45) := fun k hk => by
    rw [strOfNums_size]
    have := oidTo_len hr k (by omega)
    omega
  have HN : Hid (∀ i, 2 ≤ i → i < n → ∃ x : Nat, zs.getD i 0 = (x : Int) ∧ x ≤ 2147483647) := fun i h1 h2 => arcs_nat hr i h1 (by omega)
  rw [← hn] at HI r2 r10 ⊢
  generalize zs.getD 0 0 = x0 at *
  generalize zs.getD 1 0 = x1 at *
  clear hc ha hr hlt hn hy
  go_enter Tryz.func54, Tryz.ntmps54
  go_wp2_with fail
  have ew1 : IntKind.i64.wrap (40 * x0) = 40 * x0 := by rw [IntKind.wrap_i64]; omega
  have ew2 : IntKind.i64.wrap (y : Int) = (y : Int) := by rw [IntKind.wrap_i64]; omega
  have i0 : (0 : Int) < (n : Int) := by omega
  have i1 : (1 : Int) < (n : Int) := by omega
  have j0 : 0 < n := by omega
  have j1 : 1 < n := by omega
  have HT : Hid (∀ V : World, Hid (Below w.heap.size w V) → Calls Tryz.prog 88 #[.int .i64 (y : Int)] V fun e W => e = .returned (.string (strOfNums (sevL y))) ∧ Hid (Below w.heap.size w W) ∧ W.cell? ⟨b, o, none⟩ = some (.int .i64 x0) ∧ W.cell? ⟨b, o + 1, none⟩ = some (.int .i64 x1)) := fun V hV => by
    refine (specSeven y V (by omega)).mono ?_
    rintro e W ⟨rfl, hW⟩
    have hB := hV.out.trans (hW.mono hV.out.size)
    exact ⟨rfl, hB, by rw [hB.cell (p := ⟨b, o, none⟩) hbw]; exact c0, by rw [hB.cell (p := ⟨b, o + 1, none⟩) hbw]; exact c1⟩
  have HD : Hid (Below w.heap.size w w.drew) := (Below.refl _ w).drew
  go_region_held3 (fun V => V.cell? ⟨b, o, none⟩ = some (.int .i64 x0) ∧ V.cell? ⟨b, o + 1, none⟩ = some (.int .i64 x1)) (first | exact ⟨k0, k1⟩ | go_keep)
    (first | (go_at_call 88; refine (HT.out _ (by assumption)).mono ?_; rintro r w1 ⟨rfl, kk, k0, k1⟩))
  have hb1 := kk.out
  clear kk HD HT k0 k1 ew1 ew2 i0 i1 j0 j1 c0 c1
  go_wp2_with fail
  go_loopw [3, 4] (fun t i wr => ∃ k : Nat, k + 2 ≤ n ∧ t = .string (strOfNums (oidTo zs k)) ∧ i = .int .i64 ((k : Int) + 2) ∧ Below w.heap.size w wr ∧ w.heap.size ≤ wr.heap.size)
    (fun _ i _ => n - (intOf i).toNat)
  case atStart => exact ⟨0, by omega, by rw [H0.out], rfl, hb1, hb1.size⟩
  case round =>
    obtain ⟨k, hk, rfl, rfl, hbr, hsr⟩ := hrel
    have hls := HLen.out k hk
    by_cases hlt : k + 2 < n
    · have ck := HI.out wr hbr (k + 2) hlt
      obtain ⟨x, hx, hxm⟩ := HN.out (k + 2) (by omega) hlt
      rw [hx] at ck
      have HS : Hid (strOfNums (oidTo zs (k + 1)) = strOfNums (oidTo zs k) ++ strOfNums (sevL x)) := by
        show _ = _
        rw [oidTo, strOfNums_append, hx]; rfl
      have hls2 := HLen.out (k + 1) (by omega)
      have hsz : (strOfNums (oidTo zs k) ++ strOfNums (sevL x)).size ≤ 45 := by rw [← HS.out]; exact hls2
      have HSv : Hid (∀ V : World, Calls Tryz.prog 88 #[.int .i64 (x : Int)] V fun e w' => e = .returned (.string (strOfNums (sevL x))) ∧ Below V.heap.size V w') := fun V => specSeven x V (by omega)
      have hsx : (strOfNums (sevL x)).size ≤ 45 := by rw [ByteArray.size_append] at hsz; omega
      generalize strOfNums (oidTo zs k) = t at *
      generalize strOfNums (sevL x) = u at *
      go_wp2_with fail
      refine (HSv.out _).mono ?_
      rintro e w2 ⟨rfl, hb2⟩
      have HB2 : Hid (Below w.heap.size w w2) := hbr.trans (hb2.mono hsr)
      clear hb2 hbr ck
      go_wp2_with fail
      go_roundw
      case rel => exact ⟨k + 1, by omega, by rw [HS.out], by go_num, HB2.out, HB2.out.size⟩
      case measure => simp [intOf]; omega
    · obtain rfl : n = k + 2 := by omega
      have HL2 : Hid (∀ V : World, Calls Tryz.prog 49 #[.int .i64 6, .string (strOfNums (oidTo zs k))] V fun e w' => e = .returned (.string (thingD 6 (strOfNums (oidL zs)))) ∧ Below V.heap.size V w') := fun V => by
        have h := specThing 6 (strOfNums (oidTo zs k)) V (by decide) (by decide) (by omega)
        rw [HL.out, show k + 2 - 2 = k from by omega]
        exact h
      generalize strOfNums (oidTo zs k) = t at *
      go_wp2_with fail
      refine (HL2.out _).mono ?_
      rintro e w2 ⟨rfl, hb2⟩
      go_wp2_with fail
      go_ret
      exact ⟨rfl, hbr.trans (hb2.mono hsr)⟩
end Go.Proofs.YtfliacfeebooeaaGreatDoor
namespace Go.Proofs.YtfliacfeebooeaaGreatDoor
open Go.RowKit

theorem specSeq (b : ByteArray) (w : World) (hb : b.size ≤ 20000) :
    Calls Tryz.prog 25 #[.string b] w fun e w' => e = .returned (.string (seqD b)) ∧ Below w.heap.size w w' := by
  have H : Hid (Calls Tryz.prog 49 #[.int .i64 48, .string b] w fun e w' => e = .returned (.string (seqD b)) ∧ Below w.heap.size w w') := specThing 48 b w (by omega) (by omega) hb
  generalize seqD b = q at *
  go_enter Tryz.func25, Tryz.ntmps25
  go_wp2_with fail
  refine H.out.mono ?_
  rintro e w2 ⟨rfl, b2⟩
  have B2 : Hid (Below w.heap.size w w2) := b2
  clear b2
  go_wp2
  go_ret
  exact ⟨rfl, B2.out⟩
/-- Four arcs that were just laid. -/
theorem specOid4 (x y z u : Int) (w : World) (h : arcsB [x, y, z, u] = true) :
    Calls Tryz.prog 54 #[.slice (some ⟨w.heap.size, 0, none⟩) 4 4] (w.alloc (.cells #[.int .i64 x, .int .i64 y, .int .i64 z, .int .i64 u] 2 (0, 0))) fun e w' => e = .returned (.string (oidT [x, y, z, u])) ∧ Below w.heap.size w w' := by
  refine (specOid (some ⟨w.heap.size, 0, none⟩) [x, y, z, u] 4 _ h (IsInts.row (rest := []) (heap_alloc_new w _))).mono ?_
  rintro e w' ⟨rfl, hb⟩
  exact ⟨rfl, ((Below.refl _ w).alloc (Nat.le_refl _) _).trans (hb.mono (by simp))⟩
set_option maxHeartbeats 1000000 in
theorem specNameD (t : ByteArray) (w : World) (ht : t.size ≤ 4000) :
    Calls Tryz.prog 51 #[.string t] w fun e w' => e = .returned (.string (nameD t)) ∧ Below w.heap.size w w' := by
  have h1 := arcs_lit arcsName
  have h2 := thingD_le 12 t
  have H1 : Hid (Calls Tryz.prog 54 #[.slice (some ⟨w.heap.size, 0, none⟩) 4 4] (w.alloc (.cells #[.int .i64 2, .int .i64 5, .int .i64 4, .int .i64 3] 2 (0, 0))) fun e w' => e = .returned (.string (oidT [2, 5, 4, 3])) ∧ Below w.heap.size w w') := specOid4 2 5 4 3 w arcsName
  have H2 : Hid (∀ V, Calls Tryz.prog 49 #[.int .i64 12, .string t] V fun e w' => e = .returned (.string (thingD 12 t)) ∧ Below V.heap.size V w') := fun V => specThing 12 t V (by omega) (by omega) (by omega)
  have e3 : (oidT [2, 5, 4, 3] ++ thingD 12 t).size ≤ 4053 := by rw [ByteArray.size_append]; omega
  have H3 : Hid (∀ V, Calls Tryz.prog 25 #[.string (oidT [2, 5, 4, 3] ++ thingD 12 t)] V fun e w' => e = .returned (.string (seqD (oidT [2, 5, 4, 3] ++ thingD 12 t))) ∧ Below V.heap.size V w') := fun V => specSeq _ V (by omega)
  have e4 := seqD_le (oidT [2, 5, 4, 3] ++ thingD 12 t)
  have e5 := thingD_le 49 (seqD (oidT [2, 5, 4, 3] ++ thingD 12 t))
  have H4 : Hid (∀ V, Calls Tryz.prog 49 #[.int .i64 49, .string (seqD (oidT [2, 5, 4, 3] ++ thingD 12 t))] V fun e w' => e = .returned (.string (thingD 49 (seqD (oidT [2, 5, 4, 3] ++ thingD 12 t)))) ∧ Below V.heap.size V w') := fun V => specThing 49 _ V (by omega) (by omega) (by omega)
  have H5 : Hid (∀ V, Calls Tryz.prog 25 #[.string (thingD 49 (seqD (oidT [2, 5, 4, 3] ++ thingD 12 t)))] V fun e w' => e = .returned (.string (nameD t)) ∧ Below V.heap.size V w') := fun V => specSeq _ V (by omega)
  clear e3 e4 e5
  generalize nameD t = n at *
  generalize thingD 49 (seqD (oidT [2, 5, 4, 3] ++ thingD 12 t)) = q4 at *
  generalize seqD (oidT [2, 5, 4, 3] ++ thingD 12 t) = q3 at *
  obtain ⟨q, hq⟩ : ∃ q, oidT [2, 5, 4, 3] ++ thingD 12 t = q := ⟨_, rfl⟩
  rw [hq] at H3
  generalize oidT [2, 5, 4, 3] = q1 at *
  generalize thingD 12 t = q2 at *
  go_enter Tryz.func51, Tryz.ntmps51
  go_wp2_with fail
  refine H1.out.mono ?_
  rintro e w2 ⟨rfl, b2⟩
  have B2 : Hid (Below w.heap.size w w2) := b2
  clear b2
  go_wp2_with fail
  refine (H2.out _).mono ?_
  rintro e w3 ⟨rfl, b3⟩
  have B3 : Hid (Below w.heap.size w w3) := B2.out.trans (b3.mono B2.out.size)
  clear b3
  go_wp2_with fail
  refine (H3.out _).mono ?_
  rintro e w4 ⟨rfl, b4⟩
  have B4 : Hid (Below w.heap.size w w4) := B3.out.trans (b4.mono B3.out.size)
  clear b4
  go_wp2_with fail
  refine (H4.out _).mono ?_
  rintro e w5 ⟨rfl, b5⟩
  have B5 : Hid (Below w.heap.size w w5) := B4.out.trans (b5.mono B4.out.size)
  clear b5
  go_wp2_with fail
  refine (H5.out _).mono ?_
  rintro e w6 ⟨rfl, b6⟩
  have B6 : Hid (Below w.heap.size w w6) := B5.out.trans (b6.mono B5.out.size)
  clear b6
  go_wp2
  go_ret
  exact ⟨rfl, B6.out⟩
end Go.Proofs.YtfliacfeebooeaaGreatDoor
namespace Go.Proofs.YtfliacfeebooeaaGreatDoor
open Go.RowKit

theorem specKind (w : World) :
    Calls Tryz.prog 27 #[] w fun e w' => e = .returned (.string kindD) ∧ Below w.heap.size w w' := by
  have H1 : Hid (Calls Tryz.prog 54 #[.slice (some ⟨w.heap.size, 0, none⟩) 4 4] (w.alloc (.cells #[.int .i64 1, .int .i64 3, .int .i64 101, .int .i64 112] 2 (0, 0))) fun e w' => e = .returned (.string (oidT [1, 3, 101, 112])) ∧ Below w.heap.size w w') := specOid4 1 3 101 112 w arcsKind
  have H2 : Hid (∀ V, Calls Tryz.prog 25 #[.string (oidT [1, 3, 101, 112])] V fun e w' => e = .returned (.string kindD) ∧ Below V.heap.size V w') := fun V => specSeq _ V (by have := arcs_lit arcsKind; omega)
  generalize oidT [1, 3, 101, 112] = q at *
  generalize kindD = k at *
  go_enter Tryz.func27, Tryz.ntmps27
  go_wp2_with fail
  refine H1.out.mono ?_
  rintro e w2 ⟨rfl, b2⟩
  have B2 : Hid (Below w.heap.size w w2) := b2
  clear b2
  go_wp2_with fail
  refine (H2.out _).mono ?_
  rintro e w3 ⟨rfl, b3⟩
  have B3 : Hid (Below w.heap.size w w3) := B2.out.trans (b3.mono B2.out.size)
  clear b3
  go_wp2
  go_ret
  exact ⟨rfl, B3.out⟩
end Go.Proofs.YtfliacfeebooeaaGreatDoor
namespace Go.Proofs.YtfliacfeebooeaaGreatDoor
open Go.RowKit

theorem specTime (n : Int) (w : World) :
    Calls Tryz.prog 82 #[.int .i64 n] w fun e w' => e = .returned (.bool (timeB n)) ∧ w' = w := by
  go_enter Tryz.func82, Tryz.ntmps82
  go_wp2_with fail
  refine (specIs n 0 1000000000 _).mono ?_
  rintro e w' ⟨rfl, rfl⟩
  go_wp2
  go_ret
  exact ⟨rfl, rfl⟩
theorem specNameB (s : ByteArray) (w : World) (hs : s.size ≤ maxLen) :
    Calls Tryz.prog 81 #[.string s] w fun e w' => e = .returned (.bool (nameB s)) ∧ w' = w :=
  (specName s w hs).mono fun _ _ h => ⟨ans_name h.1, h.2⟩
end Go.Proofs.YtfliacfeebooeaaGreatDoor
namespace Go.Proofs.YtfliacfeebooeaaGreatDoor
open Go.RowKit

set_option maxHeartbeats 1000000 in
set_option maxRecDepth 100000 in
theorem specNames (a : Option Addr) (ss : List ByteArray) (c : Nat) (w : World) (hl : ss.length ≤ 1048576) (hs : totS ss ss.length ≤ 1048576) (ha : IsStrs w a ss) :
    Calls Tryz.prog 84 #[.slice a ss.length c] w fun e w' => e = .returned (.bool (namesB ss)) ∧ Below w.heap.size w w' := by
  have HSz : Hid (∀ k, k < ss.length → (tAt ss k).size ≤ 1048576) := fun k hk => Nat.le_trans (totS_at ss hk) hs
  clear hs
  go_enter Tryz.func84, Tryz.ntmps84
  go_wp2
  go_loopw [3] (fun i wr => ∃ k : Nat, k ≤ ss.length ∧ i = .int .i64 k ∧ okTo ss k = true ∧ Below w.heap.size w wr) (fun i _ => ss.length - (intOf i).toNat)
  case atStart => exact ⟨0, Nat.zero_le _, rfl, rfl, Below.refl _ _⟩
  case round =>
    obtain ⟨k, hk, rfl, hok, hbr⟩ := hrel
    have HOk : Hid (okTo ss k = true) := hok
    have HB : Hid (Below w.heap.size w wr) := hbr
    clear hok
    by_cases hlt : k < ss.length
    · obtain ⟨x, o, rfl, hc⟩ : ∃ x o, a = some ⟨x, o, none⟩ ∧ ∀ i, i < ss.length → wr.cell? ⟨x, o + i, none⟩ = some (.string (tAt ss i)) := by
        rcases ha.below hbr ha.lt with rfl | h
        · simp at hlt
        · exact h
      have hck := hc k hlt
      have hz := HSz.out k hlt
      have HNm : Hid (∀ V : World, Calls Tryz.prog 81 #[.string (tAt ss k)] V fun e w' => e = .returned (.bool (nameB (tAt ss k))) ∧ w' = V) := fun V => specNameB _ V (by unfold maxLen; omega)
      clear hz
      have a0 : (0 : Int) ≤ (k : Int) := by omega
      have b0 : (k : Int) < (ss.length : Int) := by omega
      cases hn : nameB (tAt ss k) with
      | false =>
        have HF : Hid (namesB ss = false) := by show _ = _; rw [namesB, okTo_no (okN_not hn) hlt]; rfl
        rw [hn] at HNm
        generalize tAt ss k = z at *
        generalize ss.length = n at *
        clear hc ha hbr hn HSz
        go_wp2_with fail
        go_quiet ((go_at_call 81; exact Calls.quiet_of_same (HNm.out _)))
        go_wp2
        go_ret
        exact ⟨by rw [HF.out]; rfl, below_drewN HB.out _⟩
      | true =>
        rw [hn] at HNm
        by_cases h0 : k = 0
        · subst h0
          have HF : Hid (okN ss 0 = true) := okN_zero hn
          rw [Nat.add_zero] at hck
          generalize tAt ss 0 = z at *
          generalize ss.length = n at *
          clear hc ha hbr hn HSz
          go_wp2_with fail
          go_quiet ((go_at_call 81; exact Calls.quiet_of_same (HNm.out _)))
          go_wp2
          go_roundw
          case rel => exact ⟨1, by omega, by go_num, okTo_yes HOk.out HF.out, below_drewN HB.out _⟩
          case measure => simp [intOf]; omega
        · have hck1 := hc (k - 1) (by omega)
          have ek : ((k : Int) - 1) = ((k - 1 : Nat) : Int) := by omega
          have ew : IntKind.i64.wrap ((k : Int) - 1) = ((k - 1 : Nat) : Int) := by rw [IntKind.wrap_i64]; omega
          have a1 : (0 : Int) < (k : Int) := by omega
          have a2 : 0 < k := by omega
          have g1 : decide ((0 : Int) < (k : Int)) = true := decide_eq_true a1
          have b1 : ((k - 1 : Nat) : Int) < (ss.length : Int) := by omega
          have hbl := okN_more (ss := ss) (k := k) (by omega) hn
          cases hr : Op.bytesLess (tAt ss (k - 1)).toList (tAt ss k).toList with
          | false =>
            have HF : Hid (namesB ss = false) := by show _ = _; rw [namesB, okTo_no (hbl.trans hr) hlt]; rfl
            generalize tAt ss k = z at *
            generalize tAt ss (k - 1) = y at *
            generalize k - 1 = k1 at *
            generalize ss.length = n at *
            clear hc ha hbr hn HSz hbl
            go_wp2_with fail
            go_quiet ((go_at_call 81; exact Calls.quiet_of_same (HNm.out _)))
            go_wp2
            go_ret
            exact ⟨by rw [HF.out]; rfl, below_drewN HB.out _⟩
          | true =>
            have HF : Hid (okN ss k = true) := hbl.trans hr
            generalize tAt ss k = z at *
            generalize tAt ss (k - 1) = y at *
            generalize k - 1 = k1 at *
            generalize ss.length = n at *
            clear hc ha hbr hn HSz hbl
            go_wp2_with fail
            go_quiet ((go_at_call 81; exact Calls.quiet_of_same (HNm.out _)))
            go_wp2
            go_roundw
            case rel => exact ⟨k + 1, by omega, by go_num, okTo_yes HOk.out HF.out, below_drewN HB.out _⟩
            case measure => simp [intOf]; omega
    · obtain rfl : k = ss.length := by omega
      have HF : Hid (namesB ss = decide (ss.length ≤ 5)) := by show _ = _; rw [namesB, HOk.out]; rfl
      clear ha hbr
      by_cases h5 : ss.length ≤ 5
      · rw [decide_eq_true h5] at HF
        go_wp2
        go_ret
        exact ⟨by rw [HF.out]; first | rfl | (simp; omega), HB.out⟩
      · rw [decide_eq_false h5] at HF
        go_wp2
        go_ret
        exact ⟨by rw [HF.out]; first | rfl | (simp; omega), HB.out⟩
end Go.Proofs.YtfliacfeebooeaaGreatDoor
namespace Go.Proofs.YtfliacfeebooeaaGreatDoor
open Go.RowKit

set_option maxHeartbeats 2000000 in
set_option maxRecDepth 100000 in
theorem specPaper (c : Paper) (a : Option Addr) (cap : Nat) (w : World) (hi : c.issuer.size ≤ maxLen) (hs : c.subject.size ≤ maxLen) (hl : c.names.length ≤ 1048576) (ht : totS c.names c.names.length ≤ 1048576) (ha : IsStrs w a c.names) :
    Calls Tryz.prog 47 #[c.val (.slice a c.names.length cap)] w fun e w' => e = .returned (.bool (paperB c)) ∧ Below w.heap.size w w' := by
  obtain ⟨ser, iss, sub, fr, till, key, names, ca, sk, se, ss⟩ := c
  simp only at hi hs hl ht ha
  unfold Paper.val
  simp only
  obtain ⟨R, hR⟩ : ∃ R, R = paperB ⟨ser, iss, sub, fr, till, key, names, ca, sk, se, ss⟩ := ⟨_, rfl⟩
  rw [← hR]
  have HR : Hid (R = (decide (1 ≤ ser) && decide (ser ≤ 1000000000) && nameB iss && nameB sub && timeB fr && timeB till && decide (fr ≤ till) && rightG key && namesB names)) := hR
  clear hR
  obtain ⟨w1, hw1⟩ : ∃ w1, w1 = w.alloc (.cells #[.int .i64 ser, .string iss, .string sub, .int .i64 fr, .int .i64 till, .int .i64 key, .slice a names.length cap, .bool ca, .int .i64 sk, .int .i64 se, .int .i64 ss] 26 (0, 0)) := ⟨_, rfl⟩
  have hrow : w1.heap[w.heap.size]? = some (.cells [Value.int .i64 ser, .string iss, .string sub, .int .i64 fr, .int .i64 till, .int .i64 key, .slice a names.length cap, .bool ca, .int .i64 sk, .int .i64 se, .int .i64 ss].toArray 26 (0, 0)) := by rw [hw1]; exact heap_alloc_new w _
  have B1 : Hid (Below w.heap.size w w1) := by rw [hw1]; exact (Below.refl _ _).alloc (Nat.le_refl _) _
  have A1 : Hid (IsStrs w1 a names) := ha.keep B1.out
  have c0 := rowFacts hrow 0 _ rfl
  have c1 := rowFacts hrow 1 _ rfl
  have c2 := rowFacts hrow 2 _ rfl
  have c3 := rowFacts hrow 3 _ rfl
  have c4 := rowFacts hrow 4 _ rfl
  have c5 := rowFacts hrow 5 _ rfl
  have c6 := rowFacts hrow 6 _ rfl
  have HNm : Hid (∀ V, IsStrs V a names → Calls Tryz.prog 84 #[.slice a names.length cap] V fun e w' => e = .returned (.bool (namesB names)) ∧ Below V.heap.size V w') := fun V hV => specNames a names cap V hl ht hV
  have HRow : Hid (w1.heap[w.heap.size]? = some (.cells [Value.int .i64 ser, .string iss, .string sub, .int .i64 fr, .int .i64 till, .int .i64 key, .slice a names.length cap, .bool ca, .int .i64 sk, .int .i64 se, .int .i64 ss].toArray 26 (0, 0))) := hrow
  generalize names.length = nl at *
  clear hrow ha hl ht
  go_enter Tryz.func47, Tryz.ntmps47
  go_upto_region 1 with fail
  rw [← hw1]
  clear hw1
  go_wp2_with fail
  refine (specIs ser 1 1000000000 _).mono ?_
  rintro e w2 ⟨rfl, rfl⟩
  cases h1 : (decide (1 ≤ ser) && decide (ser ≤ 1000000000)) with
  | false =>
    have HF : Hid (R = false) := by show _ = _; rw [HR.out]; simp [h1]
    go_wp2
    go_ret
    exact ⟨by rw [HF.out]; rfl, B1.out⟩
  | true =>
  rw [h1] at HR
  go_wp2_with fail
  refine (specNameB iss _ hi).mono ?_
  rintro e w2 ⟨rfl, rfl⟩
  cases h3 : nameB iss with
  | false =>
    have HF : Hid (R = false) := by show _ = _; rw [HR.out]; simp [h3]
    go_wp2
    go_ret
    exact ⟨by rw [HF.out]; rfl, B1.out⟩
  | true =>
  rw [h3] at HR
  go_wp2_with fail
  refine (specNameB sub _ hs).mono ?_
  rintro e w2 ⟨rfl, rfl⟩
  cases h4 : nameB sub with
  | false =>
    have HF : Hid (R = false) := by show _ = _; rw [HR.out]; simp [h4]
    go_wp2
    go_ret
    exact ⟨by rw [HF.out]; rfl, B1.out⟩
  | true =>
  rw [h4] at HR
  go_wp2_with fail
  refine (specTime fr _).mono ?_
  rintro e w2 ⟨rfl, rfl⟩
  cases h5 : timeB fr with
  | false =>
    have HF : Hid (R = false) := by show _ = _; rw [HR.out]; simp [h5]
    go_wp2
    go_ret
    exact ⟨by rw [HF.out]; rfl, B1.out⟩
  | true =>
  rw [h5] at HR
  go_wp2_with fail
  refine (specTime till _).mono ?_
  rintro e w2 ⟨rfl, rfl⟩
  cases h6 : timeB till with
  | false =>
    have HF : Hid (R = false) := by show _ = _; rw [HR.out]; simp [h6]
    go_wp2
    go_ret
    exact ⟨by rw [HF.out]; rfl, B1.out⟩
  | true =>
  rw [h6] at HR
  by_cases h7 : fr ≤ till
  rotate_left
  · have h7' : till < fr := by omega
    have HF : Hid (R = false) := by show _ = _; rw [HR.out]; simp [h7]
    go_wp2
    go_ret
    exact ⟨by rw [HF.out]; rfl, B1.out⟩
  rw [decide_eq_true h7] at HR
  go_wp2_with fail
  refine (specGroupRight key _).mono ?_
  rintro e w2 ⟨rfl, rfl⟩
  cases h8 : rightG key with
  | false =>
    have HF : Hid (R = false) := by show _ = _; rw [HR.out]; simp [h8]
    go_wp2
    go_ret
    exact ⟨by rw [HF.out]; rfl, B1.out⟩
  | true =>
  rw [h8] at HR
  have HF : Hid (R = namesB names) := by show _ = _; rw [HR.out]; simp
  go_wp2_with fail
  refine (HNm.out _ A1.out).mono ?_
  rintro e w4 ⟨rfl, b4⟩
  rw [← HF.out]
  have B4 : Hid (Below w.heap.size w w4) := B1.out.trans (b4.mono B1.out.size)
  clear b4
  go_wp2
  go_ret
  exact ⟨rfl, B4.out⟩
end Go.Proofs.YtfliacfeebooeaaGreatDoor
namespace Go.Proofs.YtfliacfeebooeaaGreatDoor
open Go.RowKit

theorem specRem (n : Int) (w : World) :
    Calls Tryz.prog 85 #[.int .i64 n] w fun e w' => e = .returned (.bool (remB n)) ∧ w' = w := by
  by_cases h1 : 0 ≤ n
  · by_cases h2 : n < 1073741789
    · have e : remB n = true := decide_eq_true ⟨h1, h2⟩
      rw [e]
      go_enter Tryz.func85, Tryz.ntmps85
      go_wp2
      go_ret
      exact ⟨rfl, rfl⟩
    · have e : remB n = false := decide_eq_false (by omega)
      rw [e]
      go_enter Tryz.func85, Tryz.ntmps85
      go_wp2
      go_ret
      exact ⟨rfl, rfl⟩
  · have e : remB n = false := decide_eq_false (by omega)
    rw [e]
    go_enter Tryz.func85, Tryz.ntmps85
    go_wp2
    go_ret
    exact ⟨rfl, rfl⟩
set_option maxHeartbeats 1000000 in
set_option maxRecDepth 100000 in
theorem specSigRight (k e s : Int) (w : World) :
    Calls Tryz.prog 48 #[.agg #[.int .i64 k, .int .i64 e, .int .i64 s]] w fun r w' => r = .returned (.bool (sigRB k e s)) ∧ Below w.heap.size w w' := by
  go_enter Tryz.func48, Tryz.ntmps48
  go_wp2_with fail
  refine (specGroupRight k _).mono ?_
  rintro e1 w1 ⟨rfl, rfl⟩
  by_cases h1 : rightG k = true
  · rw [h1]
    go_wp2_with fail
    refine (specRem e _).mono ?_
    rintro e2 w2 ⟨rfl, rfl⟩
    by_cases h2 : remB e = true
    · rw [h2]
      go_wp2_with fail
      refine (specRem s _).mono ?_
      rintro e3 w3 ⟨rfl, rfl⟩
      generalize hb3 : remB s = b
      go_wp2
      go_ret
      exact ⟨by simp [sigRB, *], allocBelow _ _⟩
    · rw [Bool.not_eq_true] at h2
      rw [h2]
      go_wp2
      go_ret
      exact ⟨by simp [sigRB, *], allocBelow _ _⟩
  · rw [Bool.not_eq_true] at h1
    rw [h1]
    go_wp2
    go_ret
    exact ⟨by simp [sigRB, *], allocBelow _ _⟩
end Go.Proofs.YtfliacfeebooeaaGreatDoor
namespace Go.Proofs.YtfliacfeebooeaaGreatDoor
open Go.RowKit

set_option maxHeartbeats 2000000 in
set_option maxRecDepth 100000 in
theorem specCert (c : Paper) (a : Option Addr) (cap : Nat) (w : World) (hi : c.issuer.size ≤ maxLen) (hs : c.subject.size ≤ maxLen) (hl : c.names.length ≤ 1048576) (ht : totS c.names c.names.length ≤ 1048576) (ha : IsStrs w a c.names) :
    Calls Tryz.prog 24 #[c.val (.slice a c.names.length cap)] w fun e w' => e = .returned (.bool (certB c)) ∧ Below w.heap.size w w' := by
  have HP : Hid (∀ V, IsStrs V a c.names → Calls Tryz.prog 47 #[c.val (.slice a c.names.length cap)] V fun e w' => e = .returned (.bool (paperB c)) ∧ Below V.heap.size V w') := fun V hV => specPaper c a cap V hi hs hl ht hV
  obtain ⟨R, hR⟩ : ∃ R, R = certB c := ⟨_, rfl⟩
  rw [← hR]
  obtain ⟨P, hP⟩ : ∃ P, P = paperB c := ⟨_, rfl⟩
  rw [← hP] at HP
  have HR : Hid (R = (P && sigRB c.sk c.se c.ss)) := by show _ = _; rw [hR, hP]; rfl
  clear hR hP
  obtain ⟨ser, iss, sub, fr, till, key, names, ca, sk, se, ss⟩ := c
  simp only at hi hs hl ht ha HP HR
  unfold Paper.val at HP ⊢
  simp only at HP ⊢
  generalize names.length = nl at *
  obtain ⟨w1, hw1⟩ : ∃ w1, w1 = w.alloc (.cells #[.int .i64 ser, .string iss, .string sub, .int .i64 fr, .int .i64 till, .int .i64 key, .slice a nl cap, .bool ca, .int .i64 sk, .int .i64 se, .int .i64 ss] 26 (0, 0)) := ⟨_, rfl⟩
  have hrow : w1.heap[w.heap.size]? = some (.cells [Value.int .i64 ser, .string iss, .string sub, .int .i64 fr, .int .i64 till, .int .i64 key, .slice a nl cap, .bool ca, .int .i64 sk, .int .i64 se, .int .i64 ss].toArray 26 (0, 0)) := by rw [hw1]; exact heap_alloc_new w _
  have B1 : Hid (Below w.heap.size w w1) := by rw [hw1]; exact (Below.refl _ _).alloc (Nat.le_refl _) _
  have A1 : Hid (IsStrs w1 a names) := ha.keep B1.out
  have c0 := rowFacts hrow 0 _ rfl
  have c1 := rowFacts hrow 1 _ rfl
  have c2 := rowFacts hrow 2 _ rfl
  have c3 := rowFacts hrow 3 _ rfl
  have c4 := rowFacts hrow 4 _ rfl
  have c5 := rowFacts hrow 5 _ rfl
  have c6 := rowFacts hrow 6 _ rfl
  have c7 := rowFacts hrow 7 _ rfl
  have c8 := rowFacts hrow 8 _ rfl
  have c9 := rowFacts hrow 9 _ rfl
  have c10 := rowFacts hrow 10 _ rfl
  have HRow : Hid (w1.heap[w.heap.size]? = some (.cells [Value.int .i64 ser, .string iss, .string sub, .int .i64 fr, .int .i64 till, .int .i64 key, .slice a nl cap, .bool ca, .int .i64 sk, .int .i64 se, .int .i64 ss].toArray 26 (0, 0))) := hrow
  clear hrow ha hl ht hi hs
  go_enter Tryz.func24, Tryz.ntmps24
  go_upto_region 1 with fail
  rw [← hw1]
  clear hw1
  go_wp2_with fail
  refine (HP.out _ A1.out).mono ?_
  rintro e w2 ⟨rfl, b2⟩
  have B2 : Hid (Below w.heap.size w w2) := B1.out.trans (b2.mono B1.out.size)
  have d8 := (b2.cell (p := ⟨w.heap.size, 8, none⟩) (heap_lt HRow.out)).trans c8
  have d9 := (b2.cell (p := ⟨w.heap.size, 9, none⟩) (heap_lt HRow.out)).trans c9
  have d10 := (b2.cell (p := ⟨w.heap.size, 10, none⟩) (heap_lt HRow.out)).trans c10
  clear b2 c0 c1 c2 c3 c4 c5 c6 c7 c8 c9 c10 HP A1 HRow
  cases P with
  | false =>
    have HF : Hid (R = false) := HR.out
    go_wp2
    go_ret
    exact ⟨by rw [HF.out]; rfl, B2.out⟩
  | true =>
  have HF : Hid (R = sigRB sk se ss) := HR.out
  go_wp2_with fail
  refine (specSigRight sk se ss _).mono ?_
  rintro e w4 ⟨rfl, b4⟩
  rw [← HF.out]
  have B4 : Hid (Below w.heap.size w w4) := B2.out.trans (b4.mono B2.out.size)
  clear b4
  go_wp2
  go_ret
  exact ⟨rfl, B4.out⟩
end Go.Proofs.YtfliacfeebooeaaGreatDoor
namespace Go.Proofs.YtfliacfeebooeaaGreatDoor
open Go.RowKit

set_option maxHeartbeats 1000000 in
set_option maxRecDepth 100000 in
theorem specHosts (a : Option Addr) (ss : List ByteArray) (c : Nat) (w : World) (hl : ss.length ≤ 5) (hs : ∀ i, i < ss.length → (tAt ss i).size ≤ 40) (ha : IsStrs w a ss) :
    Calls Tryz.prog 87 #[.slice a ss.length c] w fun e w' => e = .returned (.string (seqD (hostsD ss ss.length))) ∧ Below w.heap.size w w' := by
  have HS : Hid (∀ i, i < ss.length → (tAt ss i).size ≤ 40) := hs
  have HL : Hid (∀ k, k ≤ ss.length → (hostsD ss k).size ≤ 44 * k) := fun k hk => hostsD_le k (fun i hi => hs i (by omega))
  clear hs
  go_enter Tryz.func87, Tryz.ntmps87
  go_wp2
  go_loopw [3, 4] (fun t i wr => ∃ k : Nat, k ≤ ss.length ∧ i = .int .i64 k ∧ t = .string (hostsD ss k) ∧ Below w.heap.size w wr) (fun _ i _ => ss.length - (intOf i).toNat)
  case atStart => exact ⟨0, Nat.zero_le _, rfl, rfl, Below.refl _ _⟩
  case round =>
    obtain ⟨k, hk, rfl, rfl, hbr⟩ := hrel
    have HB : Hid (Below w.heap.size w wr) := hbr
    by_cases hlt : k < ss.length
    · obtain ⟨x, o, rfl, hc⟩ : ∃ x o, a = some ⟨x, o, none⟩ ∧ ∀ i, i < ss.length → wr.cell? ⟨x, o + i, none⟩ = some (.string (tAt ss i)) := by
        rcases ha.below hbr ha.lt with rfl | h
        · simp at hlt
        · exact h
      have hck := hc k hlt
      have hz := HS.out k hlt
      have HP : Hid (∀ V, Calls Tryz.prog 49 #[.int .i64 130, .string (tAt ss k)] V fun e w' => e = .returned (.string (thingD 130 (tAt ss k))) ∧ Below V.heap.size V w') := fun V => specThing 130 _ V (by omega) (by omega) (by omega)
      have he : hostsD ss k ++ thingD 130 (tAt ss k) = hostsD ss (k + 1) := rfl
      have a0 : (0 : Int) ≤ (k : Int) := by omega
      have b0 : (k : Int) < (ss.length : Int) := by omega
      have z0 := HL.out k (by omega)
      have z1 := thingD_le 130 (tAt ss k)
      have HR : Hid (∃ j : Nat, j ≤ ss.length ∧ Value.int .i64 ((k : Int) + 1) = .int .i64 (j : Int) ∧ Value.string (hostsD ss (k + 1)) = .string (hostsD ss j)) := ⟨k + 1, by omega, by congr 1, rfl⟩
      generalize hostsD ss (k + 1) = h1 at *
      generalize thingD 130 (tAt ss k) = h2 at *
      generalize tAt ss k = z at *
      clear hc ha hbr HS HL
      go_wp2_with fail
      refine (HP.out _).mono ?_
      rintro e w2 ⟨rfl, b2⟩
      have B2 : Hid (Below w.heap.size w w2) := HB.out.trans (b2.mono HB.out.size)
      clear b2
      go_wp2_with fail
      go_roundw
      case rel =>
        obtain ⟨j, j1, j2, j3⟩ := HR.out
        exact ⟨j, j1, by first | exact j2 | (rw [← j2]; simp; omega), j3, B2.out⟩
      case measure => simp [intOf]; omega
    · obtain rfl : k = ss.length := by omega
      have z0 := HL.out ss.length (Nat.le_refl _)
      have HP : Hid (∀ V, Calls Tryz.prog 25 #[.string (hostsD ss ss.length)] V fun e w' => e = .returned (.string (seqD (hostsD ss ss.length))) ∧ Below V.heap.size V w') := fun V => specSeq _ V (by omega)
      clear ha hbr HS HL
      go_wp2_with fail
      refine (HP.out _).mono ?_
      rintro e w2 ⟨rfl, b2⟩
      have B2 : Hid (Below w.heap.size w w2) := HB.out.trans (b2.mono HB.out.size)
      clear b2
      go_wp2
      go_ret
      exact ⟨rfl, B2.out⟩
end Go.Proofs.YtfliacfeebooeaaGreatDoor
