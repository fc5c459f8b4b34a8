/- impl.putSevens, walked. (impl.arcsThing).body, walked. impl.layThing at arcs, impl.DerOid, walked. strings.Join without a separator, in own words; impl.putParts, putSeq, putName, walked. strings.Join without a separator, in own words; impl.putParts, putSeq, putKind, putName, walked. A row of the three numbers of a Sig. -/
import Derived.Test.YtkinobpchocooaaGreatDoorCGd11
import Derived.Test.YtkinobpchocooaaGreatDoorCGd03
import Derived.Laws.BitsAllLaws
import Derived.Test.YtkinobpchocooaaGreatDoorCGd04
import Derived.Test.YtkinobpchocooaaGreatDoorCGd05
import Derived.Deep.RegionWith
import Derived.Test.YtkinobpchocooaaGreatDoorCGd01
namespace Go.Proofs.YtkinobpchocooaaGreatDoor
open Go.RowKit

theorem and127 (a : Int) (h0 : 0 ≤ a) (h1 : a < 256) : bits BinOp.and IntKind.u8 a 127 = a % 128 := by
  rw [u8_and a 127 h0 h1 (by decide) (by decide), show (127 : Int).toNat = 2 ^ 7 - 1 from rfl, Nat.and_two_pow_sub_one_eq_mod]
  omega
theorem or128I (x : Int) (h : 0 ≤ x) : bits BinOp.or IntKind.u8 (x % 256) 128 = x % 128 + 128 := by
  obtain ⟨n, rfl⟩ := Int.eq_ofNat_of_zero_le h
  exact or128 n
set_option maxHeartbeats 1000000 in
set_option maxRecDepth 100000 in
theorem putSevens (x : Nat) (w : World) (hx : x < 9223372036854775808) :
    Calls Tryz.prog 139 #[.int .i64 (x : Int)] w fun e w' => e = .returned (.string (strOfNums (sevL x))) ∧ Below w.heap.size w w' := by
  obtain ⟨i0, hi, hz0, hz1, hz2⟩ := info_parts infoByte
  have hcn := sevL_count hx
  go_enter Tryz.func139, Tryz.ntmps139
  go_wp2_with fail
  refine (len64 _ _ (by omega) (by omega)).mono ?_
  rintro e w' ⟨rfl, rfl⟩
  rw [show ((x : Int).toNat) = x from rfl]
  obtain ⟨c, hc⟩ : ∃ c, c = (sevL x).length := ⟨_, rfl⟩
  have hb64 : Lib.bitLen x ≤ 63 := Lib.bitLen_le _ 63 (by omega) (by omega)
  have hc1 : 1 ≤ c := by rw [hc]; exact sevL_pos x
  have HA : Hid (∀ i, 0 < i → i < c → (sevL x).getD (c - 1 - i) 0 = ((x / 128 ^ i % 128 + 128 : Nat) : Int)) := fun i h0 hi => by rw [hc]; exact sevL_at hx h0 (by omega)
  have HZ : Hid ((sevL x).getD (c - 1) 0 = ((x % 128 : Nat) : Int)) := by rw [hc]; exact sevL_last x
  have HC : Hid (c = (sevL x).length) := hc
  rw [← hc] at hcn
  generalize Lib.bitLen x = L at *
  clear hc
  have hmx : max (1 : Int) (((L : Int) + 6) / 7) = (c : Int) := by omega
  have hc9 : c ≤ 9 := by omega
  clear hcn
  go_wp2_with (at_make; refine wpList_make_full _ rfl _ _ 64 rfl w'.heap.size 5 i0 (.int .u8 0) 1 Tryz.underlying64 hi hz0 hz1 .i64 .i64 _ _ c rfl rfl ?c1 ?c2 ?c3 ?c4 ?c5 ?_)
  case c1 => omega
  case c2 => omega
  case c3 => rw [hz2]; omega
  case c4 => unfold maxLen; omega
  case c5 => exact Nat.le_refl _
  intro w1 hown hgrow
  have hB1 : Below w'.heap.size w' w1 := (Below.refl _ w').grown hgrow (Nat.le_refl _) (fun k hk => by cases hk)
  obtain ⟨hrow, hlen⟩ := rowOf hown rfl
  generalize (madeCells #[Value.int IntKind.u8 0] c).toList = M0 at hrow hlen
  clear hgrow hown
  go_wp2_with fail
  go_loopw [15] (fun i wr => ∃ (k : Nat) (M : List Value), k ≤ c ∧ i = .int .i64 (k : Int) ∧ M.length = c ∧ wr.heap[w'.heap.size]? = some (.cells M.toArray 5 (0, 0)) ∧
      (∀ j, j < c → c - k ≤ j → M[j]? = some (.int .u8 ((x / 128 ^ (c - 1 - j) % 128 + 128 : Nat) : Int))) ∧ Below w'.heap.size w' wr)
    (fun i _ => c - (intOf i).toNat)
  case atStart => exact ⟨0, M0, Nat.zero_le _, rfl, hlen, hrow, fun j h1 h2 => by omega, hB1⟩
  case round =>
    obtain ⟨k, M, hk, rfl, hM, hr, hat, hbel⟩ := hrel
    have HAt : Hid (∀ j, j < c → c - k ≤ j → M[j]? = some (.int .u8 ((x / 128 ^ (c - 1 - j) % 128 + 128 : Nat) : Int))) := hat
    have HR : Hid (wr.heap[w'.heap.size]? = some (.cells M.toArray 5 (0, 0))) := hr
    clear hat hrow hlen hB1
    by_cases hlt : k < c
    · obtain ⟨j, hj⟩ : ∃ j, j = c - 1 - k := ⟨_, rfl⟩
      have hjc : j < c := by omega
      have e1 : (c : Int) - 1 - (k : Int) = (j : Int) := by omega
      have hv : wr.cell? ⟨w'.heap.size, j, none⟩ = some (M[j]'(by omega)) := rowFacts hr j _ (List.getElem?_eq_getElem (by omega))
      generalize M[j]'(by omega) = v0 at hv
      have hf : wr.frozen? ⟨w'.heap.size, j, none⟩ = false := frozen_of_row wr _ j _ _ hr
      have HJ : Hid (j = c - 1 - k) := hj
      have ho := or128I ((x : Int) / 2 ^ (7 * k)) (Int.ediv_nonneg (by omega) (Int.le_of_lt (Int.pow_pos (by decide))))
      have HB2 : Hid (∀ v, Below w'.heap.size w' (wr.setCell ⟨w'.heap.size, j, none⟩ v)) := fun v => hbel.setCell (Nat.le_refl _) v
      have HV : Hid (((x / 128 ^ k % 128 + 128 : Nat) : Int) = (x : Int) / 2 ^ (7 * k) % 128 + 128) := by
        show _ = _
        have : (128 : Nat) ^ k = 2 ^ (7 * k) := by rw [Nat.pow_mul]
        rw [this]; simp
      clear hj hr hbel
      go_wp2
      go_roundw
      case rel =>
        have hj := HJ.out
        refine ⟨k + 1, M.set j (.int .u8 ((x : Int) / 2 ^ (7 * k) % 128 + 128)), by omega, by go_num, by simpa using hM, rowSet _ HR.out, ?_, HB2.out _⟩
        intro i hi1 hi2
        by_cases ei : i = j
        · subst ei
          rw [List.getElem?_set_self (by omega), show c - 1 - i = k from by omega, HV.out]
        · rw [List.getElem?_set_ne (by omega)]
          exact HAt.out i hi1 (by omega)
      case measure => simp [intOf]; omega
    · obtain rfl : k = c := by omega
      obtain ⟨j, hj⟩ : ∃ j, j = k - 1 := ⟨_, rfl⟩
      have hjk : j < k := by omega
      have e1 : (k : Int) - 1 = (j : Int) := by omega
      have hv : wr.cell? ⟨w'.heap.size, j, none⟩ = some (.int .u8 ((x : Int) % 128 + 128)) := by
        refine rowFacts hr j _ ?_
        rw [HAt.out j (by omega) (by omega), show k - 1 - j = 0 from by omega]
        simp
      have hf : wr.frozen? ⟨w'.heap.size, j, none⟩ = false := frozen_of_row wr _ j _ _ hr
      have hand : bits BinOp.and IntKind.u8 ((x : Int) % 128 + 128) 127 = (x : Int) % 128 := by
        rw [and127 _ (by omega) (by omega)]; omega
      have hcv := convertRow (wr.setCell ⟨w'.heap.size, j, none⟩ (.int .u8 ((x : Int) % 128))) w'.heap.size (sevL x) 5 k k HC.out.symm (by
        rw [rowSet _ hr]
        congr 3
        apply List.ext_getElem?
        intro i
        rcases Nat.lt_or_ge i k with h | h
        · have hl := HC.out
          by_cases ei : i = j
          · subst ei
            have hz := HZ.out
            rw [List.getElem?_set_self (by omega)]
            rw [← hj, List.getD, List.getElem?_eq_getElem (by omega)] at hz
            simp only [Option.getD_some] at hz
            rw [List.getElem?_map, List.getElem?_eq_getElem (by omega), hz]
            simp
          · rw [List.getElem?_set_ne (by omega), HAt.out i h (by omega)]
            have hz := HA.out (k - 1 - i) (by omega) (by omega)
            rw [show k - 1 - (k - 1 - i) = i from by omega, List.getD, List.getElem?_eq_getElem (by omega)] at hz
            simp only [Option.getD_some] at hz
            rw [List.getElem?_map, List.getElem?_eq_getElem (by omega), hz]
            rfl
        · rw [List.getElem?_eq_none (by simp; omega), List.getElem?_eq_none (by have := HC.out; simp; omega)])
      have HB2 : Hid (∀ v, Below w'.heap.size w' (wr.setCell ⟨w'.heap.size, j, none⟩ v)) := fun v => hbel.setCell (Nat.le_refl _) v
      clear hr HR HAt hbel hj
      go_wp2
      go_ret
      exact ⟨rfl, HB2.out _⟩
end Go.Proofs.YtkinobpchocooaaGreatDoor
namespace Go.Proofs.YtkinobpchocooaaGreatDoor
open Go.RowKit

theorem arcs_natZ {zs : List Int} (h : arcsB zs = true) (i : Nat) (h2 : 2 ≤ i) (hi : i < zs.length) : ∃ x : Nat, zs.getD i 0 = (x : Int) ∧ x ≤ 2147483647 := by
  have := (arcsB_iff.1 h).2.2.2.2.2.2 i h2 hi
  exact ⟨(zs.getD i 0).toNat, by omega, by omega⟩
set_option maxHeartbeats 1000000 in
set_option maxRecDepth 100000 in
theorem bodyArcs (a : Option Addr) (zs : List Int) (c : Nat) (w : World) (hr : arcsB zs = true) (hcap : zs.length ≤ c) (ha : IsInts w a zs) :
    Calls Tryz.prog 138 #[.agg #[.slice a zs.length c]] w fun e w' => e = .returned (.string (strOfNums (oidL zs))) ∧ Below w.heap.size w w' := by
  obtain ⟨r2, r10, r0, r0', r1, r1', _⟩ := arcsB_iff.1 hr
  have hm2 : most2 (zs.getD 0 0) ≤ 100 := by unfold most2; split <;> omega
  have hlt := ha.lt
  obtain ⟨b, o, rfl, hc⟩ := ha.atZ (by intro h; rw [h] at r2; simp at r2)
  have hbw : b < w.heap.size := by
    rcases hlt with h | h
    · rw [h] at r2; simp at r2
    · exact h _ rfl
  obtain ⟨w0, hw0⟩ : ∃ w0, w0 = w.alloc (.cells #[.slice (some ⟨b, o, none⟩) zs.length c] 97) := ⟨_, rfl⟩
  have hB0 : Below w.heap.size w w0 := by rw [hw0]; exact (Below.refl _ _).alloc (Nat.le_refl _) _
  have hs0 : w0.heap.size = w.heap.size + 1 := by rw [hw0]; simp
  have t0 : w0.cell? ⟨w.heap.size, 0, none⟩ = some (.slice (some ⟨b, o, none⟩) zs.length c) := by rw [hw0]; simp
  have c0 : w0.cell? ⟨b, o, none⟩ = some (.int .i64 (zs.getD 0 0)) := by have := hc 0 (by omega); rw [hB0.cell (p := ⟨b, o, none⟩) hbw]; simpa using this
  have c1 : w0.cell? ⟨b, o + 1, none⟩ = some (.int .i64 (zs.getD 1 0)) := by rw [hB0.cell (p := ⟨b, o + 1, none⟩) hbw]; exact hc 1 (by omega)
  have HI : Hid (∀ W, Below w.heap.size w W → ∀ i, i < zs.length → W.cell? ⟨b, o + i, none⟩ = some (.int .i64 (zs.getD i 0))) := fun W hW i hi => by
    rw [hW.cell (p := ⟨b, o + i, none⟩) hbw]; exact hc i hi
  obtain ⟨y, hy⟩ : ∃ y : Nat, y = (40 * zs.getD 0 0 + zs.getD 1 0).toNat := ⟨_, rfl⟩
  have H0 : Hid (oidTo zs 0 = sevL y) := by rw [hy]; rfl
  have hyi : 40 * zs.getD 0 0 + zs.getD 1 0 = (y : Int) := by omega
  have hy2 : y ≤ 180 := by omega
  obtain ⟨n, hn⟩ : ∃ n, n = zs.length := ⟨_, rfl⟩
  have HL : Hid (oidL zs = oidTo zs (n - 2)) := by rw [hn]; rfl
  have HLen : Hid (∀ k, k + 2 ≤ n → (strOfNums (oidTo zs k)).size ≤ 45) := fun k hk => by
    rw [strOfNums_size]
    have := oidTo_len hr k (by omega)
    omega
  have HN : Hid (∀ i, 2 ≤ i → i < n → ∃ x : Nat, zs.getD i 0 = (x : Int) ∧ x ≤ 2147483647) := fun i h1 h2 => arcs_natZ hr i h1 (by omega)
  rw [← hn] at HI r2 r10 hcap t0 hw0 ⊢
  generalize zs.getD 0 0 = x0 at *
  generalize zs.getD 1 0 = x1 at *
  have ew1 : IntKind.i64.wrap (40 * x0) = 40 * x0 := by rw [IntKind.wrap_i64]; omega
  have ew2 : IntKind.i64.wrap (y : Int) = (y : Int) := by rw [IntKind.wrap_i64]; omega
  have i0 : (0 : Int) < (n : Int) := by omega
  have i1 : (1 : Int) < (n : Int) := by omega
  have j0 : 0 < n := by omega
  have j1 : 1 < n := by omega
  have HT : Hid (∀ V : World, Hid (Below (w.heap.size + 1) w0 V) → Calls Tryz.prog 139 #[.int .i64 (y : Int)] V fun e W => e = .returned (.string (strOfNums (sevL y))) ∧ Hid (Below (w.heap.size + 1) w0 W) ∧ W.cell? ⟨w.heap.size, 0, none⟩ = some (.slice (some ⟨b, o, none⟩) n c) ∧ W.cell? ⟨b, o, none⟩ = some (.int .i64 x0) ∧ W.cell? ⟨b, o + 1, none⟩ = some (.int .i64 x1)) := fun V hV => by
    refine (putSevens y V (by omega)).mono ?_
    rintro e W ⟨rfl, hW⟩
    have hB := hV.out.trans (hW.mono (by have := hV.out.size; omega))
    exact ⟨rfl, hB, by rw [hB.cell (p := ⟨w.heap.size, 0, none⟩) (by simp)]; exact t0, by rw [hB.cell (p := ⟨b, o, none⟩) (by simp; omega)]; exact c0, by rw [hB.cell (p := ⟨b, o + 1, none⟩) (by simp; omega)]; exact c1⟩
  have HD : Hid (Below (w.heap.size + 1) w0 w0.drew) := (Below.refl _ w0).drew
  have HB0 : Hid (Below w.heap.size w w0) := hB0
  clear hc ha hr hlt hn hy hB0
  go_enter Tryz.func138, Tryz.ntmps138
  go_wp2_with fail
  rw [← hw0]
  clear hw0
  go_region_held3 (fun V => V.cell? ⟨w.heap.size, 0, none⟩ = some (.slice (some ⟨b, o, none⟩) n c) ∧ V.cell? ⟨b, o, none⟩ = some (.int .i64 x0) ∧ V.cell? ⟨b, o + 1, none⟩ = some (.int .i64 x1)) (first | exact ⟨kt, k0, k1⟩ | go_keep)
    (first | (go_at_call 139; refine (HT.out _ (by assumption)).mono ?_; rintro r w1 ⟨rfl, kk, kt, k0, k1⟩))
  have hb1 := kk.out
  have HB1 : Hid (Below w.heap.size w w1) := HB0.out.trans (hb1.mono (Nat.le_succ _))
  clear kk HD HT k0 k1 ew1 ew2 i0 i1 j0 j1 c0 c1 t0
  go_wp2_with fail
  case inl =>
    have hn2 : n = 2 := by omega
    subst hn2
    have HF : Hid (strOfNums (oidL zs) = strOfNums (sevL y)) := by
      show _ = _
      rw [HL.out, ← H0.out]
    refine wp_loop_rounds 1 ?_
    rw [rounds_succ]
    go_wp2_with fail
    go_ret
    exact ⟨by rw [HF.out]; rfl, HB1.out⟩
  case inr =>
    clear kt hs0 hyi
    go_loopw [3, 21] (fun t i wr => ∃ k : Nat, k + 2 ≤ n ∧ t = .string (strOfNums (oidTo zs k)) ∧ i = .int .i64 (k : Int) ∧ Below w.heap.size w wr ∧ w.heap.size ≤ wr.heap.size)
      (fun _ i _ => n - (intOf i).toNat)
    case atStart => exact ⟨0, by omega, by rw [H0.out], rfl, HB1.out, HB1.out.size⟩
    case round =>
      obtain ⟨k, hk, rfl, rfl, hbr, hsr⟩ := hrel
      have hls := HLen.out k hk
      by_cases hlt : k + 2 < n
      · have ck : wr.cell? ⟨b, o + 2 + k, none⟩ = some (.int .i64 (zs.getD (k + 2) 0)) := by
          have := HI.out wr hbr (k + 2) hlt
          rw [show o + (k + 2) = o + 2 + k from by omega] at this
          exact this
        have hki : (k : Int) < ((n - 2 : Nat) : Int) := by omega
        have hkn : k < n - 2 := by omega
        obtain ⟨x, hx, hxm⟩ := HN.out (k + 2) (by omega) hlt
        rw [hx] at ck
        have HS : Hid (strOfNums (oidTo zs (k + 1)) = strOfNums (oidTo zs k) ++ strOfNums (sevL x)) := by
          show _ = _
          rw [oidTo, strOfNums_append, hx]; rfl
        have hls2 := HLen.out (k + 1) (by omega)
        have hsz : (strOfNums (oidTo zs k) ++ strOfNums (sevL x)).size ≤ 45 := by rw [← HS.out]; exact hls2
        have HSv : Hid (∀ V : World, Calls Tryz.prog 139 #[.int .i64 (x : Int)] V fun e w' => e = .returned (.string (strOfNums (sevL x))) ∧ Below V.heap.size V w') := fun V => putSevens x V (by omega)
        have hsx : (strOfNums (sevL x)).size ≤ 45 := by rw [ByteArray.size_append] at hsz; omega
        generalize strOfNums (oidTo zs k) = t at *
        generalize strOfNums (sevL x) = u at *
        go_wp2_with fail
        refine (HSv.out _).mono ?_
        rintro e w2 ⟨rfl, hb2⟩
        have HB2 : Hid (Below w.heap.size w w2) := hbr.trans (hb2.mono hsr)
        have hs2 := HB2.out.size
        clear hb2 hbr ck
        go_wp2_with fail
        refine (joinTexts t u _ (by omega) (by omega)).mono ?_
        rintro e w3 ⟨rfl, hb3⟩
        have HB3 : Hid (Below w.heap.size w w3) := HB2.out.trans (hb3.mono hs2)
        clear hb3
        go_wp2_with fail
        go_roundw
        case rel => exact ⟨k + 1, by omega, by rw [HS.out], by go_num, HB3.out, HB3.out.size⟩
        case measure => simp [intOf]; omega
      · obtain rfl : n = k + 2 := by omega
        have HF : Hid (strOfNums (oidL zs) = strOfNums (oidTo zs k)) := by
          show _ = _
          rw [HL.out, show k + 2 - 2 = k from by omega]
        have hki : ¬ (k : Int) < ((k + 2 - 2 : Nat) : Int) := by omega
        generalize strOfNums (oidTo zs k) = t at *
        go_wp2_with fail
        go_ret
        exact ⟨by rw [HF.out]; rfl, hbr⟩
end Go.Proofs.YtkinobpchocooaaGreatDoor
namespace Go.Proofs.YtkinobpchocooaaGreatDoor
open Go.RowKit

theorem tagArcs (a : Option Addr) (n c : Nat) (w : World) :
    Calls Tryz.prog 83 #[.iface 97 (.agg #[.slice a n c])] w fun e w' => e = .returned (.int .i64 6) ∧ Below w.heap.size w w' := by
  have x0 := as20
  have x1 := as21
  go_enter Tryz.func83, Tryz.ntmps83
  go_wp2
  go_ret
  exact ⟨rfl, by repeat (first | exact Below.refl _ _ | refine Below.alloc ?_ (by simp) _)⟩
theorem methodArcs (v : Value) (w : World) : (Go.method 246 97 v "loop.example/g00371/impl.body").run Tryz.prog w = .ok (138, v) w := by kernel_rfl
set_option maxHeartbeats 1000000 in
set_option maxRecDepth 100000 in
theorem layArcs (a : Option Addr) (zs : List Int) (c : Nat) (b : ByteArray) (w : World) (hr : arcsB zs = true) (hcap : zs.length ≤ c) (ha : IsInts w a zs) (heq : b = strOfNums (oidL zs)) :
    Calls Tryz.prog 65 #[.iface 97 (.agg #[.slice a zs.length c])] w fun e w' => e = .returned (.string (thingD 6 b)) ∧ Below w.heap.size w w' := by
  have hb : b.size ≤ 4000 := by have := oidL_len hr; rw [heq, strOfNums_size]; omega
  have hmt := methodArcs
  have ew : IntKind.u8.wrap 6 = 6 := by rw [IntKind.wrap_u8]; rfl
  go_enter Tryz.func65, Tryz.ntmps65
  go_wp2_with fail
  refine (bodyArcs a zs c _ hr hcap ha).mono ?_
  rintro e w1 ⟨rfl, hb1⟩
  rw [← heq]
  clear heq hr ha
  generalize zs.length = n at *
  have s1 := hb1.size
  have HT1 : Hid (∀ V : World, Hid (Below w.heap.size w V) → Calls Tryz.prog 83 #[.iface 97 (.agg #[.slice a n c])] V fun e W => e = .returned (.int .i64 6) ∧ Hid (Below w.heap.size w W)) := fun V hV => by
    refine (tagArcs a n c V).mono ?_
    rintro e W ⟨rfl, hW⟩
    exact ⟨rfl, hV.out.trans (hW.mono hV.out.size)⟩
  have HT2 : Hid (∀ V : World, Hid (Below w.heap.size w V) → Calls Tryz.prog 84 #[.int .i64 (b.size : Int)] V fun e W => e = .returned (.string (strOfNums (lenD b.size))) ∧ Hid (Below w.heap.size w W) ∧ Hid (∀ k o, V.heap[k]? = some o → W.heap[k]? = some o)) := fun V hV => by
    refine (putLength b.size V hb).mono ?_
    rintro e W ⟨rfl, hW⟩
    refine ⟨rfl, hV.out.trans (hW.mono hV.out.size), fun k o hk => ?_⟩
    rw [hW.block k (heap_lt hk)]; exact hk
  have HF : Hid (∀ s l, s = strOfNums [6] → l = strOfNums (lenD b.size) → s ++ l ++ b = thingD 6 b) := fun s l hs hl => by
    subst hs hl
    unfold thingD headD
    congr 1
  have hl1 : (strOfNums [6]).size = 1 := rfl
  have hl2 : (strOfNums (lenD b.size)).size ≤ 3 := by rw [strOfNums_size]; exact lenD_le _
  have hcv := fun V => convertLit V #[.int .u8 6] [6] rfl 1 rfl 5
  have HE := HF.out _ _ rfl rfl
  have HCR := fun W2 k h => convertRow W2 k [6] 5 1 1 rfl h
  generalize strOfNums [6] = s at *
  generalize strOfNums (lenD b.size) = l at *
  have HE : Hid (s ++ l ++ b = thingD 6 b) := HE
  have HCR : Hid (∀ (W2 : World) (k : Nat), W2.heap[k]? = some (.cells ([6].map (Value.int .u8)).toArray 5 (0, 0)) → (convert 64 9 (.slice (some ⟨k, 0, none⟩) 1 1)).run Tryz.prog W2 = .ok (.string s) W2) := HCR
  have HJ : Hid (∀ (V : World) (x y : ByteArray), Hid (Below w.heap.size w V) → x.size ≤ 4 → y.size ≤ 4000 → Calls Tryz.prog 67 #[.string x, .string y] V fun e W => e = .returned (.string (x ++ y)) ∧ Hid (Below w.heap.size w W)) := fun V x y hV hx hy => by
    refine (joinTexts x y V (by omega) (by omega)).mono ?_
    rintro e W ⟨rfl, hW⟩
    exact ⟨rfl, hV.out.trans (hW.mono hV.out.size)⟩
  have B1 : Hid (Below w.heap.size w w1) := hb1
  have HA : Hid (∀ V o, Hid (Below w.heap.size w V) → Hid (Below w.heap.size w (V.alloc o))) := fun V o h => h.out.alloc h.out.size o
  clear hb1 hmt HF
  go_wp2_with fail
  have D1 : Hid (Below w.heap.size w w1.drew) := B1.out.drew
  go_region_with (first
    | (go_at_call 83; refine (HT1.out _ (by first | assumption | exact HA.out _ _ (by assumption))).mono ?_; rintro r W1 ⟨rfl, k1⟩)
    | (go_at_call 84; refine (HT2.out _ (by first | assumption | exact HA.out _ _ (by assumption))).mono ?_; rintro r W2 ⟨rfl, k2, e2⟩; (first | have hcv2 := HCR.out W2 _ (e2.out _ _ (heap_alloc_new _ _)) | skip))
    | (go_at_call 67; refine (HJ.out _ _ _ (by first | assumption | exact HA.out _ _ (by assumption)) (by omega) (by omega)).mono ?_; rintro r W3 ⟨rfl, k3⟩))
  all_goals
    have hl3 : (s ++ l).size ≤ 4 := by rw [ByteArray.size_append]; omega
    have HQ := HJ.out W3 (s ++ l) b k3 hl3 hb
    rw [HE.out] at HQ
    generalize s ++ l = q at *
    have HQ : Hid (Calls Tryz.prog 67 #[.string q, .string b] W3 fun e W => e = .returned (.string (thingD 6 b)) ∧ Hid (Below w.heap.size w W)) := HQ
    clear HT1 HT2 HJ HCR HE hcv
    go_wp2_with fail
    refine HQ.out.mono ?_
    rintro r W4 ⟨rfl, k4⟩
    go_wp2
    go_ret
    exact ⟨rfl, k4.out⟩

set_option maxHeartbeats 1000000 in
theorem implDerOid (a : Option Addr) (zs : List Int) (c : Nat) (w : World) (hl : zs.length ≤ 1048576) (hcap : zs.length ≤ c) (ha : IsInts w a zs) :
    Calls Tryz.prog 66 #[.slice a zs.length c] w fun e w' => e = .returned (.string (oidD zs)) ∧ Below w.heap.size w w' := by
  have HA : Hid (Calls Tryz.prog 85 #[.slice a zs.length c] w fun e w' => e = .returned (.bool (arcsB zs)) ∧ Below w.heap.size w w') := arcsRight a zs c w hl hcap ha
  cases hr : arcsB zs with
  | false =>
    have HF : Hid (oidD zs = ByteArray.empty) := by unfold Hid oidD; rw [if_neg (by simp [hr])]
    rw [hr] at HA
    generalize zs.length = n at *
    clear ha hr
    go_enter Tryz.func66, Tryz.ntmps66
    go_wp2_with fail
    refine HA.out.mono ?_
    rintro e w1 ⟨rfl, hb1⟩
    go_wp2_with fail
    go_ret
    exact ⟨by rw [HF.out]; rfl, hb1⟩
  | true =>
    have HF : Hid (oidD zs = thingD 6 (strOfNums (oidL zs))) := by unfold Hid oidD; rw [if_pos hr]
    have HO : Hid (∀ V : World, Below w.heap.size w V → Calls Tryz.prog 65 #[.iface 97 (.agg #[.slice a zs.length c])] V fun e w' => e = .returned (.string (thingD 6 (strOfNums (oidL zs)))) ∧ Below V.heap.size V w') := fun V hV => layArcs a zs c _ V hr hcap (ha.below hV ha.lt) rfl
    rw [hr] at HA
    generalize zs.length = n at *
    generalize thingD 6 (strOfNums (oidL zs)) = s at *
    clear ha hr
    go_enter Tryz.func66, Tryz.ntmps66
    go_wp2_with fail
    refine HA.out.mono ?_
    rintro e w1 ⟨rfl, hb1⟩
    go_wp2_with fail
    refine (HO.out _ hb1).mono ?_
    rintro e w2 ⟨rfl, hb2⟩
    go_wp2_with fail
    go_ret
    exact ⟨by rw [HF.out]; rfl, hb1.trans (hb2.mono hb1.size)⟩
end Go.Proofs.YtkinobpchocooaaGreatDoor
namespace Go.Proofs.YtkinobpchocooaaGreatDoor
open Go.RowKit

/-- Texts, one behind the other. -/
def catS : List ByteArray → ByteArray
  | [] => ⟨#[]⟩
  | x :: r => x ++ catS r
theorem catS_list : ∀ xs : List ByteArray, (catS xs).data.toList = (xs.map (·.data.toList)).flatten
  | [] => rfl
  | x :: r => by rw [catS, ByteArray.data_append, Array.toList_append, catS_list r]; rfl
theorem join_cat (xs : List ByteArray) : Lib.join (xs.map (·.data.toList)) ([] : List UInt8) = (catS xs).data.toList := by
  rw [catS_list]
  cases xs with
  | nil => rfl
  | cons x r =>
    rw [List.map_cons, Lib.join_cons, Lib.joinTail, List.flatten_cons]
    simp
    rfl
theorem joinAll (g c : Nat) (xs : List ByteArray) (w : World) (hg : w.heap[g]? = some (.cells (sCells xs).toArray 9 (0, 0))) (hs : (catS xs).size ≤ 100000) (hl : xs.length ≤ 100000) (hc : xs.length ≤ c) :
    Calls Tryz.prog 64 #[.slice (some ⟨g, 0, none⟩) xs.length c, .string ⟨#[]⟩] w fun e w' => e = .returned (.string (catS xs)) ∧ Below w.heap.size w w' := by
  have h := Any.strings_Join joinLays joinExtra g 0 c xs ⟨#[]⟩ w (fun j x hx => by
    rw [Nat.zero_add, cell_of_row w g j _ _ (0, 0) hg]
    simp [sCells, hx]) (heap_lt hg) (by omega) hc (by
    show (Lib.join (xs.map (·.data.toList)) ([] : List UInt8)).length ≤ _
    rw [join_cat, ← Lib.size_eq]
    omega)
  refine h.mono ?_
  rintro e w' ⟨rfl, hb⟩
  refine ⟨?_, hb⟩
  have e1 : (⟨(Lib.join (xs.map (·.data.toList)) (⟨#[]⟩ : ByteArray).data.toList).toArray⟩ : ByteArray) = catS xs := by
    show (⟨(Lib.join (xs.map (·.data.toList)) ([] : List UInt8)).toArray⟩ : ByteArray) = catS xs
    rw [join_cat]
  rw [e1]
theorem implParts (t : Int) (g c : Nat) (xs : List ByteArray) (w : World) (ht : tagB t = true) (hg : w.heap[g]? = some (.cells (sCells xs).toArray 9 (0, 0))) (hs : (catS xs).size ≤ 4000) (hl : xs.length ≤ 100) (hc : xs.length ≤ c) :
    Calls Tryz.prog 36 #[.int .i64 t, .slice (some ⟨g, 0, none⟩) xs.length c] w fun e w' => e = .returned (.string (thingD t (catS xs))) ∧ Below w.heap.size w w' := by
  have HJ : Hid (Calls Tryz.prog 64 #[.slice (some ⟨g, 0, none⟩) xs.length c, .string ⟨#[]⟩] w fun e w' => e = .returned (.string (catS xs)) ∧ Below w.heap.size w w') := joinAll g c xs w hg (by omega) (by omega) hc
  have HP : Hid (∀ V : World, Calls Tryz.prog 63 #[.int .i64 t, .string (catS xs)] V fun e w' => e = .returned (.string (thingD t (catS xs))) ∧ Below V.heap.size V w') := fun V => by
    have := implDerPut t (catS xs) V (by unfold maxLen; omega)
    rw [putD_right ht hs] at this
    exact this
  clear hg hs hl hc
  generalize thingD t (catS xs) = q at *
  generalize catS xs = x at *
  generalize xs.length = n at *
  go_enter Tryz.func36, Tryz.ntmps36
  go_wp2_with fail
  refine HJ.out.mono ?_
  rintro e w2 ⟨rfl, b2⟩
  have B2 : Hid (Below w.heap.size w w2) := b2
  clear b2
  go_wp2_with fail
  refine (HP.out _).mono ?_
  rintro e w3 ⟨rfl, b3⟩
  have B3 : Hid (Below w.heap.size w w3) := B2.out.trans (b3.mono B2.out.size)
  clear b3
  go_wp2
  go_ret
  exact ⟨rfl, B3.out⟩
theorem implSeq (g c : Nat) (xs : List ByteArray) (w : World) (hg : w.heap[g]? = some (.cells (sCells xs).toArray 9 (0, 0))) (hs : (catS xs).size ≤ 4000) (hl : xs.length ≤ 100) (hc : xs.length ≤ c) :
    Calls Tryz.prog 35 #[.slice (some ⟨g, 0, none⟩) xs.length c] w fun e w' => e = .returned (.string (seqD (catS xs))) ∧ Below w.heap.size w w' := by
  have HP : Hid (Calls Tryz.prog 36 #[.int .i64 48, .slice (some ⟨g, 0, none⟩) xs.length c] w fun e w' => e = .returned (.string (seqD (catS xs))) ∧ Below w.heap.size w w') := implParts 48 g c xs w (by decide) hg hs hl hc
  clear hg hs hl hc
  generalize seqD (catS xs) = q at *
  generalize xs.length = n at *
  go_enter Tryz.func35, Tryz.ntmps35
  go_wp2_with fail
  refine HP.out.mono ?_
  rintro e w2 ⟨rfl, b2⟩
  have B2 : Hid (Below w.heap.size w w2) := b2
  clear b2
  go_wp2
  go_ret
  exact ⟨rfl, B2.out⟩
/-- Arcs that lie in a row of their own. -/
theorem implOid4 (x y z u : Int) (g : Nat) (w : World) (h : arcsB [x, y, z, u] = true) (hg : w.heap[g]? = some (.cells #[.int .i64 x, .int .i64 y, .int .i64 z, .int .i64 u] 2 (0, 0))) :
    Calls Tryz.prog 66 #[.slice (some ⟨g, 0, none⟩) 4 4] w fun e w' => e = .returned (.string (oidT [x, y, z, u])) ∧ Below w.heap.size w w' := by
  have k := implDerOid (some ⟨g, 0, none⟩) [x, y, z, u] 4 w (by simp) (Nat.le_refl _) (IsInts.row (rest := []) hg)
  unfold oidD at k
  rw [if_pos h] at k
  exact k
theorem one_cat (x : ByteArray) : catS [x] = x := by show x ++ (⟨#[]⟩ : ByteArray) = x; exact ByteArray.append_empty
theorem two_cat (x y : ByteArray) : catS [x, y] = x ++ y := by show x ++ (y ++ (⟨#[]⟩ : ByteArray)) = x ++ y; rw [show y ++ (⟨#[]⟩ : ByteArray) = y from ByteArray.append_empty]
theorem three_cat (x y z : ByteArray) : catS [x, y, z] = x ++ (y ++ z) := by show x ++ catS [y, z] = _; rw [two_cat]
/-- One text in a row of its own, as a thing of it. -/
theorem implSeq1 (x : ByteArray) (g : Nat) (w : World) (hx : x.size ≤ 4000) (hg : w.heap[g]? = some (.cells #[.string x] 9 (0, 0))) :
    Calls Tryz.prog 35 #[.slice (some ⟨g, 0, none⟩) 1 1] w fun e w' => e = .returned (.string (seqD x)) ∧ Below w.heap.size w w' := by
  have h := implSeq g 1 [x] w hg (by rw [one_cat]; exact hx) (by simp) (Nat.le_refl _)
  rw [one_cat] at h
  exact h
theorem implParts1 (t : Int) (x : ByteArray) (g : Nat) (w : World) (ht : tagB t = true) (hx : x.size ≤ 4000) (hg : w.heap[g]? = some (.cells #[.string x] 9 (0, 0))) :
    Calls Tryz.prog 36 #[.int .i64 t, .slice (some ⟨g, 0, none⟩) 1 1] w fun e w' => e = .returned (.string (thingD t x)) ∧ Below w.heap.size w w' := by
  have h := implParts t g 1 [x] w ht hg (by rw [one_cat]; exact hx) (by simp) (Nat.le_refl _)
  rw [one_cat] at h
  exact h
theorem implSeq2 (x y : ByteArray) (g : Nat) (w : World) (hx : x.size + y.size ≤ 4000) (hg : w.heap[g]? = some (.cells #[.string x, .string y] 9 (0, 0))) :
    Calls Tryz.prog 35 #[.slice (some ⟨g, 0, none⟩) 2 2] w fun e w' => e = .returned (.string (seqD (x ++ y))) ∧ Below w.heap.size w w' := by
  have h := implSeq g 2 [x, y] w hg (by rw [two_cat, ByteArray.size_append]; exact hx) (by simp) (Nat.le_refl _)
  rw [two_cat] at h
  exact h
theorem implSeq3 (x y z : ByteArray) (g : Nat) (w : World) (hx : x.size + (y.size + z.size) ≤ 4000) (hg : w.heap[g]? = some (.cells #[.string x, .string y, .string z] 9 (0, 0))) :
    Calls Tryz.prog 35 #[.slice (some ⟨g, 0, none⟩) 3 3] w fun e w' => e = .returned (.string (seqD (x ++ (y ++ z)))) ∧ Below w.heap.size w w' := by
  have h := implSeq g 3 [x, y, z] w hg (by rw [three_cat, ByteArray.size_append, ByteArray.size_append]; exact hx) (by simp) (Nat.le_refl _)
  rw [three_cat] at h
  exact h
set_option maxHeartbeats 1000000 in
theorem implNameD (t : ByteArray) (w : World) (ht : t.size ≤ 40) :
    Calls Tryz.prog 39 #[.string t] w fun e w' => e = .returned (.string (nameD t)) ∧ Below w.heap.size w w' := by
  have h1 := arcs_lit arcsName
  have h2 := thingD_le 12 t
  have h3 := seqD_le (oidT [2, 5, 4, 3] ++ thingD 12 t)
  have h4 := thingD_le 49 (seqD (oidT [2, 5, 4, 3] ++ thingD 12 t))
  rw [ByteArray.size_append] at h3
  have H1 : Hid (∀ V (g : Nat), V.heap[g]? = some (.cells #[.int .i64 2, .int .i64 5, .int .i64 4, .int .i64 3] 2 (0, 0)) → Calls Tryz.prog 66 #[.slice (some ⟨g, 0, none⟩) 4 4] V fun e w' => e = .returned (.string (oidT [2, 5, 4, 3])) ∧ Below V.heap.size V w') := fun V g hg => implOid4 2 5 4 3 g V arcsName hg
  have H2 : Hid (∀ V, Calls Tryz.prog 63 #[.int .i64 12, .string t] V fun e w' => e = .returned (.string (thingD 12 t)) ∧ Below V.heap.size V w') := fun V => by
    have := implDerPut 12 t V (by unfold maxLen; omega)
    rw [putD_right (by decide) (by omega)] at this
    exact this
  have H3 : Hid (∀ V (g : Nat), V.heap[g]? = some (.cells #[.string (oidT [2, 5, 4, 3]), .string (thingD 12 t)] 9 (0, 0)) → Calls Tryz.prog 35 #[.slice (some ⟨g, 0, none⟩) 2 2] V fun e w' => e = .returned (.string (seqD (oidT [2, 5, 4, 3] ++ thingD 12 t))) ∧ Below V.heap.size V w') := fun V g hg => implSeq2 _ _ g V (by omega) hg
  have H4 : Hid (∀ V (g : Nat), V.heap[g]? = some (.cells #[.string (seqD (oidT [2, 5, 4, 3] ++ thingD 12 t))] 9 (0, 0)) → Calls Tryz.prog 36 #[.int .i64 49, .slice (some ⟨g, 0, none⟩) 1 1] V fun e w' => e = .returned (.string (thingD 49 (seqD (oidT [2, 5, 4, 3] ++ thingD 12 t)))) ∧ Below V.heap.size V w') := fun V g hg => implParts1 49 _ g V (by decide) (by omega) hg
  have H5 : Hid (∀ V (g : Nat), V.heap[g]? = some (.cells #[.string (thingD 49 (seqD (oidT [2, 5, 4, 3] ++ thingD 12 t)))] 9 (0, 0)) → Calls Tryz.prog 35 #[.slice (some ⟨g, 0, none⟩) 1 1] V fun e w' => e = .returned (.string (nameD t)) ∧ Below V.heap.size V w') := fun V g hg => implSeq1 _ g V (by omega) hg
  clear h1 h2 h3 h4
  generalize nameD t = n at *
  generalize thingD 49 (seqD (oidT [2, 5, 4, 3] ++ thingD 12 t)) = q4 at *
  generalize seqD (oidT [2, 5, 4, 3] ++ thingD 12 t) = q3 at *
  generalize oidT [2, 5, 4, 3] = q1 at *
  generalize thingD 12 t = q2 at *
  have AL : Hid (∀ V o, Hid (Below w.heap.size w V) → Hid (Below w.heap.size w (V.alloc o))) := fun V o h => h.out.alloc h.out.size o
  have I0 : Hid (Below w.heap.size w w) := Below.refl _ _
  have TR : Hid (∀ V W, Hid (Below w.heap.size w V) → Below V.heap.size V W → Hid (Below w.heap.size w W)) := fun V W h k => h.out.trans (k.mono h.out.size)
  go_enter Tryz.func39, Tryz.ntmps39
  go_wp2_with fail
  refine (H1.out _ _ (heap_alloc_new w _)).mono ?_
  rintro e w2 ⟨rfl, b2⟩
  have B2 := TR.out _ _ (AL.out _ _ I0) b2
  clear b2
  go_wp2_with fail
  refine (H2.out _).mono ?_
  rintro e w3 ⟨rfl, b3⟩
  have B3 := TR.out _ _ B2 b3
  clear b3
  go_wp2_with fail
  refine (H3.out _ _ (heap_alloc_new w3 _)).mono ?_
  rintro e w4 ⟨rfl, b4⟩
  have B4 := TR.out _ _ (AL.out _ _ B3) b4
  clear b4
  go_wp2_with fail
  refine (H4.out _ _ (heap_alloc_new w4 _)).mono ?_
  rintro e w5 ⟨rfl, b5⟩
  have B5 := TR.out _ _ (AL.out _ _ B4) b5
  clear b5
  go_wp2_with fail
  refine (H5.out _ _ (heap_alloc_new w5 _)).mono ?_
  rintro e w6 ⟨rfl, b6⟩
  have B6 := TR.out _ _ (AL.out _ _ B5) b6
  clear b6
  go_wp2
  go_ret
  exact ⟨rfl, B6.out⟩
end Go.Proofs.YtkinobpchocooaaGreatDoor
namespace Go.Proofs.YtkinobpchocooaaGreatDoor
open Go.RowKit

theorem implKind (w : World) :
    Calls Tryz.prog 38 #[] w fun e w' => e = .returned (.string kindD) ∧ Below w.heap.size w w' := by
  have z := arcs_lit arcsKind
  have H1 : Hid (∀ V (g : Nat), V.heap[g]? = some (.cells #[.int .i64 1, .int .i64 3, .int .i64 101, .int .i64 112] 2 (0, 0)) → Calls Tryz.prog 66 #[.slice (some ⟨g, 0, none⟩) 4 4] V fun e w' => e = .returned (.string (oidT [1, 3, 101, 112])) ∧ Below V.heap.size V w') := fun V g hg => implOid4 1 3 101 112 g V arcsKind hg
  have H2 : Hid (∀ V (g : Nat), V.heap[g]? = some (.cells #[.string (oidT [1, 3, 101, 112])] 9 (0, 0)) → Calls Tryz.prog 35 #[.slice (some ⟨g, 0, none⟩) 1 1] V fun e w' => e = .returned (.string kindD) ∧ Below V.heap.size V w') := fun V g hg => implSeq1 _ g V (by omega) hg
  clear z
  generalize oidT [1, 3, 101, 112] = q at *
  generalize kindD = k at *
  go_enter Tryz.func38, Tryz.ntmps38
  go_wp2_with fail
  refine (H1.out _ _ (heap_alloc_new w _)).mono ?_
  rintro e w2 ⟨rfl, b2⟩
  have B2 : Hid (Below w.heap.size w w2) := ((Below.refl _ w).alloc (Nat.le_refl _) _).trans (b2.mono (by simp))
  clear b2
  go_wp2_with fail
  refine (H2.out _ _ (heap_alloc_new w2 _)).mono ?_
  rintro e w3 ⟨rfl, b3⟩
  have B3 : Hid (Below w.heap.size w w3) := (B2.out.alloc B2.out.size _).trans (b3.mono (by have := B2.out.size; simp; omega))
  clear b3
  go_wp2
  go_ret
  exact ⟨rfl, B3.out⟩
end Go.Proofs.YtkinobpchocooaaGreatDoor
namespace Go.Proofs.YtkinobpchocooaaGreatDoor
open Go.RowKit

/-- A row of the three numbers of a Sig stands in block b. -/
def Row3 (x y z : Int) (V : World) (b : Nat) : Prop := V.heap[b]? = some (.cells #[.int .i64 x, .int .i64 y, .int .i64 z] 2 (0, 0))
theorem Row3.keep {x y z : Int} {V W : World} {b : Nat} (h : Row3 x y z V b) (hb : Below V.heap.size V W) : Row3 x y z W b := (hb.block b (heap_lt h)).trans h
theorem Row3.al {x y z : Int} {V : World} {b : Nat} {o : Obj} (h : Row3 x y z V b) : Row3 x y z (V.alloc o) b := by
  unfold Row3
  rw [Below.heap_alloc _ _ _ (heap_lt h)]
  exact h
theorem alKeep {V : World} {g : Nat} {o r : Obj} (h : V.heap[g]? = some r) : (V.alloc o).heap[g]? = some r := by
  rw [Below.heap_alloc _ _ _ (heap_lt h)]
  exact h
end Go.Proofs.YtkinobpchocooaaGreatDoor
