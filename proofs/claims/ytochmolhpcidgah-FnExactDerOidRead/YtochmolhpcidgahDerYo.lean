/- spec.l05Oid, spec.DerOid, walked. -/
import Derived.Test.YtochmolhpcidgahDerY
import Derived.Deep.RegionHeld3
namespace Go.Proofs.Ytochmolhpcidgah
open Go.RowKit

theorem arcs_nat {zs : List Int} (h : arcsB zs = true) (i : Nat) (h2 : 2 ≤ i) (hi : i < zs.length) : ∃ x : Nat, zs.getD i 0 = (x : Int) ∧ x ≤ 2147483647 := by
  have := (arcsB_iff.1 h).2.2.2.2.2.2 i h2 hi
  exact ⟨(zs.getD i 0).toNat, by omega, by omega⟩
set_option maxHeartbeats 1000000 in
set_option maxRecDepth 100000 in
theorem specOid (a : Option Addr) (zs : List Int) (c : Nat) (w : World) (hr : arcsB zs = true) (ha : IsInts w a zs) :
    Calls Try.prog 29 #[.slice a zs.length c] w fun e w' => e = .returned (.string (thingD 6 (strOfNums (oidL zs)))) ∧ Below w.heap.size w w' := by
  obtain ⟨r2, r10, r0, r0', r1, r1', _⟩ := arcsB_iff.1 hr
  have hm2 : most2 (zs.getD 0 0) ≤ 100 := by unfold most2; split <;> omega
  have hlt := ha.lt
  obtain ⟨b, o, rfl, hc⟩ := ha.at (by intro h; rw [h] at r2; simp at r2)
  have hbw : b < w.heap.size := by
    rcases hlt with h | h
    · rw [h] at r2; simp at r2
    · exact h _ rfl
  have c0 := hc 0 (by omega)
  have c1 := hc 1 (by omega)
  rw [Nat.add_zero] at c0
  have HI : Hid (∀ W, Below w.heap.size w W → ∀ i, i < zs.length → W.cell? ⟨b, o + i, none⟩ = some (.int .i64 (zs.getD i 0))) := fun W hW i hi => by
    rw [hW.cell (p := ⟨b, o + i, none⟩) hbw]; exact hc i hi
  obtain ⟨y, hy⟩ : ∃ y : Nat, y = (40 * zs.getD 0 0 + zs.getD 1 0).toNat := ⟨_, rfl⟩
  have H0 : Hid (oidTo zs 0 = sevL y) := by rw [hy]; rfl
  have hyi : 40 * zs.getD 0 0 + zs.getD 1 0 = (y : Int) := by omega
  have hy2 : y ≤ 180 := by omega
  obtain ⟨n, hn⟩ : ∃ n, n = zs.length := ⟨_, rfl⟩
  have HL : Hid (oidL zs = oidTo zs (n - 2)) := by rw [hn]; rfl
  have HLen : Hid (∀ k, k + 2 ≤ n → (strOfNums (oidTo zs k)).size ≤ 45) := fun k hk => by
    rw [strOfNums_size]
    have := oidTo_len hr k (by omega)
    omega
  have HN : Hid (∀ i, 2 ≤ i → i < n → ∃ x : Nat, zs.getD i 0 = (x : Int) ∧ x ≤ 2147483647) := fun i h1 h2 => arcs_nat hr i h1 (by omega)
  rw [← hn] at HI r2 r10 ⊢
  generalize zs.getD 0 0 = x0 at *
  generalize zs.getD 1 0 = x1 at *
  clear hc ha hr hlt hn hy
  go_enter Try.func29, Try.ntmps29
  go_wp2_with fail
  have ew1 : IntKind.i64.wrap (40 * x0) = 40 * x0 := by rw [IntKind.wrap_i64]; omega
  have ew2 : IntKind.i64.wrap (y : Int) = (y : Int) := by rw [IntKind.wrap_i64]; omega
  have i0 : (0 : Int) < (n : Int) := by omega
  have i1 : (1 : Int) < (n : Int) := by omega
  have j0 : 0 < n := by omega
  have j1 : 1 < n := by omega
  have HT : Hid (∀ V : World, Hid (Below w.heap.size w V) → Calls Try.prog 40 #[.int .i64 (y : Int)] V fun e W => e = .returned (.string (strOfNums (sevL y))) ∧ Hid (Below w.heap.size w W) ∧ W.cell? ⟨b, o, none⟩ = some (.int .i64 x0) ∧ W.cell? ⟨b, o + 1, none⟩ = some (.int .i64 x1)) := fun V hV => by
    refine (specSeven y V (by omega)).mono ?_
    rintro e W ⟨rfl, hW⟩
    have hB := hV.out.trans (hW.mono hV.out.size)
    exact ⟨rfl, hB, by rw [hB.cell (p := ⟨b, o, none⟩) hbw]; exact c0, by rw [hB.cell (p := ⟨b, o + 1, none⟩) hbw]; exact c1⟩
  have HD : Hid (Below w.heap.size w w.drew) := (Below.refl _ w).drew
  go_region_held3 (fun V => V.cell? ⟨b, o, none⟩ = some (.int .i64 x0) ∧ V.cell? ⟨b, o + 1, none⟩ = some (.int .i64 x1)) (first | exact ⟨k0, k1⟩ | go_keep)
    (first | (go_at_call 40; refine (HT.out _ (by assumption)).mono ?_; rintro r w1 ⟨rfl, kk, k0, k1⟩))
  have hb1 := kk.out
  clear kk HD HT k0 k1 ew1 ew2 i0 i1 j0 j1 c0 c1
  go_wp2_with fail
  go_loopw [3, 4] (fun t i wr => ∃ k : Nat, k + 2 ≤ n ∧ t = .string (strOfNums (oidTo zs k)) ∧ i = .int .i64 ((k : Int) + 2) ∧ Below w.heap.size w wr ∧ w.heap.size ≤ wr.heap.size)
    (fun _ i _ => n - (intOf i).toNat)
  case atStart => exact ⟨0, by omega, by rw [H0.out], rfl, hb1, hb1.size⟩
  case round =>
    obtain ⟨k, hk, rfl, rfl, hbr, hsr⟩ := hrel
    have hls := HLen.out k hk
    by_cases hlt : k + 2 < n
    · have ck := HI.out wr hbr (k + 2) hlt
      obtain ⟨x, hx, hxm⟩ := HN.out (k + 2) (by omega) hlt
      rw [hx] at ck
      have HS : Hid (strOfNums (oidTo zs (k + 1)) = strOfNums (oidTo zs k) ++ strOfNums (sevL x)) := by
        show _ = _
        rw [oidTo, strOfNums_append, hx]; rfl
      have hls2 := HLen.out (k + 1) (by omega)
      have hsz : (strOfNums (oidTo zs k) ++ strOfNums (sevL x)).size ≤ 45 := by rw [← HS.out]; exact hls2
      have HSv : Hid (∀ V : World, Calls Try.prog 40 #[.int .i64 (x : Int)] V fun e w' => e = .returned (.string (strOfNums (sevL x))) ∧ Below V.heap.size V w') := fun V => specSeven x V (by omega)
      have hsx : (strOfNums (sevL x)).size ≤ 45 := by rw [ByteArray.size_append] at hsz; omega
      generalize strOfNums (oidTo zs k) = t at *
      generalize strOfNums (sevL x) = u at *
      go_wp2_with fail
      refine (HSv.out _).mono ?_
      rintro e w2 ⟨rfl, hb2⟩
      have HB2 : Hid (Below w.heap.size w w2) := hbr.trans (hb2.mono hsr)
      clear hb2 hbr ck
      go_wp2_with fail
      go_roundw
      case rel => exact ⟨k + 1, by omega, by rw [HS.out], by go_num, HB2.out, HB2.out.size⟩
      case measure => simp [intOf]; omega
    · obtain rfl : n = k + 2 := by omega
      have HL2 : Hid (∀ V : World, Calls Try.prog 21 #[.int .i64 6, .string (strOfNums (oidTo zs k))] V fun e w' => e = .returned (.string (thingD 6 (strOfNums (oidL zs)))) ∧ Below V.heap.size V w') := fun V => by
        have h := specThing 6 (strOfNums (oidTo zs k)) V (by decide) (by decide) (by omega)
        rw [HL.out, show k + 2 - 2 = k from by omega]
        exact h
      generalize strOfNums (oidTo zs k) = t at *
      go_wp2_with fail
      refine (HL2.out _).mono ?_
      rintro e w2 ⟨rfl, hb2⟩
      go_wp2_with fail
      go_ret
      exact ⟨rfl, hbr.trans (hb2.mono hsr)⟩
set_option maxHeartbeats 1000000 in
theorem specDerOid (a : Option Addr) (zs : List Int) (c : Nat) (w : World) (hl : zs.length ≤ 1048576) (ha : IsInts w a zs) :
    Calls Try.prog 12 #[.slice a zs.length c] w fun e w' => e = .returned (.string (oidD zs)) ∧ Below w.heap.size w w' := by
  cases hr : arcsB zs with
  | false =>
    have HF : Hid (oidD zs = ByteArray.empty) := by unfold Hid oidD; rw [if_neg (by simp [hr])]
    have HA : Hid (∀ V : World, V = w → Calls Try.prog 28 #[.slice a zs.length c] V fun e w' => e = .returned (.bool false) ∧ w' = V) := fun V hV => by
      subst hV
      have := specArcs a zs c V hl ha
      rw [hr] at this
      exact this
    generalize zs.length = n at *
    clear ha hr
    by_cases h4 : 400 < n
    · go_enter Try.func12, Try.ntmps12
      go_wp2_with fail
      go_ret
      exact ⟨by rw [HF.out]; rfl, Below.refl _ _⟩
    · go_enter Try.func12, Try.ntmps12
      go_wp2_with fail
      refine (HA.out _ rfl).mono ?_
      rintro e w1 ⟨rfl, rfl⟩
      go_wp2_with fail
      go_ret
      exact ⟨by rw [HF.out]; rfl, Below.refl _ _⟩
  | true =>
    have h10 := (arcsB_iff.1 hr).2.1
    have HF : Hid (oidD zs = thingD 6 (strOfNums (oidL zs))) := by unfold Hid oidD; rw [if_pos hr]
    have HA : Hid (∀ V : World, V = w → Calls Try.prog 28 #[.slice a zs.length c] V fun e w' => e = .returned (.bool true) ∧ w' = V) := fun V hV => by
      subst hV
      have := specArcs a zs c V hl ha
      rw [hr] at this
      exact this
    have HO : Hid (Calls Try.prog 29 #[.slice a zs.length c] w fun e w' => e = .returned (.string (thingD 6 (strOfNums (oidL zs)))) ∧ Below w.heap.size w w') := specOid a zs c w hr ha
    generalize zs.length = n at *
    generalize thingD 6 (strOfNums (oidL zs)) = s at *
    clear ha hr
    go_enter Try.func12, Try.ntmps12
    go_wp2_with fail
    refine (HA.out _ rfl).mono ?_
    rintro e w1 ⟨rfl, rfl⟩
    go_wp2_with fail
    refine HO.out.mono ?_
    rintro e w2 ⟨rfl, hb2⟩
    go_wp2_with fail
    go_ret
    exact ⟨by rw [HF.out]; rfl, hb2⟩
end Go.Proofs.Ytochmolhpcidgah
