/- FnDer, walked: a drawn thing is got back, whatever stands behind it, and of fewer bytes it is short; two are got as a row; numbers and arcs come back from their bodies. -/
import Derived.Test.YtjllcflnmopnpaaDoorM02
import Derived.Test.YtjllcflnmopnpaaDoorM04
import Derived.Test.YtjllcflnmopnpaaDoorM05
import Derived.Test.YtjllcflnmopnpaaDoorM06
import Derived.Test.YtjllcflnmopnpaaDoorM07
import Derived.Test.YtjllcflnmopnpaaDoorM09
import Derived.Test.YtjllcflnmopnpaaDoorM11
import Derived.Test.YtjllcflnmopnpaaDoorM12
import Derived.Test.YtjllcflnmopnpaaDoorM13
import Derived.Deep.RegionHeld3
import Derived.Deep.Cut
namespace Go.Proofs.YtjllcflnmopnpaaDoor
open Go.RowKit

theorem field_out (a d : Int) (b : ByteArray) (c : Int) (W : World) : (Instr.field 29 (.agg #[.int .i64 a, .string b, .int .i64 c, .int .i64 d]) 2).run Tryd.prog W = .ok (.int .i64 d) W := by kernel_rfl
theorem field_all0 (a : Option Addr) (n c : Nat) (z : Int) (W : World) : (Instr.field 34 (.agg #[.slice a n c, .int .i64 z]) 0).run Tryd.prog W = .ok (.slice a n c) W := by kernel_rfl
theorem field_all1 (a : Option Addr) (n c : Nat) (z : Int) (W : World) : (Instr.field 34 (.agg #[.slice a n c, .int .i64 z]) 1).run Tryd.prog W = .ok (.int .i64 z) W := by kernel_rfl
theorem field_oid0 (a : Option Addr) (n c : Nat) (z : Int) (W : World) : (Instr.field 50 (.agg #[.slice a n c, .int .i64 z]) 0).run Tryd.prog W = .ok (.slice a n c) W := by kernel_rfl
theorem field_oid1 (a : Option Addr) (n c : Nat) (z : Int) (W : World) : (Instr.field 50 (.agg #[.slice a n c, .int .i64 z]) 1).run Tryd.prog W = .ok (.int .i64 z) W := by kernel_rfl
set_option linter.unusedSimpArgs false in
set_option maxHeartbeats 4000000 in
set_option maxRecDepth 100000 in
theorem derTop (w : World) (a0 : Option Addr) (len0 cap0 : Nat) (z0 : List Int) (w0 : IsRow .u8 w a0 len0 cap0 z0) (a1 : Option Addr) (len1 cap1 : Nat) (z1 : List Int) (w1' : IsRow .u8 w a1 len1 cap1 z1) (hg : ErrType w) :
    Calls Tryd.prog 3 #[.slice a0 len0 cap0, .slice a1 len1 cap1] w fun e w' => e = .returned (.bool true) ∧ Below w.heap.size w w' := by
  have HG : Hid (ErrType w) := hg
  have hpos := hg.pos
  clear hg
  have hl0 := w0.len_le
  have hl1 := w1'.len_le
  unfold maxLen at hl0 hl1
  obtain ⟨hc0, hk0⟩ := w0.code
  obtain ⟨hc1, hk1⟩ := w1'.code
  clear w0 w1'
  by_cases h0 : 1048576 < len0
  · clear hc0 hk0 hc1 hk1
    go_enter Tryd.func3, Tryd.ntmps3
    go_wp2
    go_ret
    exact ⟨rfl, Below.refl _ _⟩
  by_cases h1 : 1048576 < len1
  · clear hc0 hk0 hc1 hk1
    go_enter Tryd.func3, Tryd.ntmps3
    go_wp2
    go_ret
    exact ⟨rfl, Below.refl _ _⟩
  have C0 : Hid (CodeAt a0 len0 w) := hc0
  have K0 : Hid (∀ x, 0 < len0 → a0 = some x → x.block < w.heap.size) := hk0
  have C1 : Hid (CodeAt a1 len1 w) := hc1
  have K1 : Hid (∀ x, 0 < len1 → a1 = some x → x.block < w.heap.size) := hk1
  clear hc0 hk0 hc1 hk1
  go_enter Tryd.func3, Tryd.ntmps3
  go_wp2_with fail
  refine (drawDerPut a0 len0 cap0 _ (by omega) C0.out K0.out).mono ?_
  rintro e w1 ⟨⟨t, b, ht, hb, rfl⟩, hb1⟩
  have B1 : Hid (Below w.heap.size w w1) := hb1
  clear hb1
  have hbm : b.size ≤ maxLen := by unfold maxLen; omega
  obtain ⟨T, hT⟩ : ∃ T, T = putD t b := ⟨_, rfl⟩
  have HI : Hid (∀ V : World, Calls Tryd.prog 5 #[.int .i64 t, .string b] V fun e w' => e = .returned (.string T) ∧ Below V.heap.size V w') := fun V => by rw [hT]; exact implDerPut t b V hbm
  have HS : Hid (∀ V : World, Calls Tryd.prog 6 #[.int .i64 t, .string b] V fun e w' => e = .returned (.string T) ∧ Below V.heap.size V w') := fun V => by rw [hT]; exact specDerPut t b V hbm
  have HTT : Hid (T = putD t b) := hT
  clear hT hbm
  go_wp2_with fail
  refine (HI.out _).mono ?_
  rintro e w2 ⟨rfl, hb2⟩
  have B2 : Hid (Below w.heap.size w w2) := B1.out.trans (hb2.mono B1.out.size)
  clear hb2 B1
  go_wp2_with fail
  refine (HS.out _).mono ?_
  rintro e w3 ⟨rfl, hb3⟩
  have B3 : Hid (Below w.heap.size w w3) := B2.out.trans (hb3.mono B2.out.size)
  clear hb3 B2 HI HS
  go_upto_if 43 with fail
  go_cut [8, 9, 10] from 43 (fun s8 s9 s10 wx => Below w.heap.size w wx)
  case first =>
    by_cases hT0 : T.size = 0
    · have he : T.toList.isEmpty = true := by rw [List.isEmpty_iff, Lib.toList_data, List.eq_nil_iff_length_eq_zero, ← Lib.size_eq]; exact hT0
      rw [he]
      go_wp2_with fail
      go_meet
      case rel => exact B3.out
    · have he : T.toList.isEmpty = false := by
        rw [← Bool.not_eq_true, List.isEmpty_iff, Lib.toList_data, List.eq_nil_iff_length_eq_zero, ← Lib.size_eq]; exact hT0
      obtain ⟨hT, htg, hb4⟩ : T = thingD t b ∧ tagB t = true ∧ b.size ≤ 4000 := by
        have h' := HTT.out
        unfold putD at h'
        split at h'
        · rename_i hh; exact ⟨h', hh.1, hh.2⟩
        · rw [h'] at hT0; exact absurd rfl hT0
      obtain ⟨tn, rfl⟩ : ∃ tn : Nat, t = (tn : Int) := ⟨t.toNat, by have := (tagB_iff.1 htg).1; omega⟩
      have hle := thingD_le (tn : Int) b
      rw [← hT] at hle
      have hn2 : 2 ≤ T.size := by rw [hT, thingD_size]; have := lenD_one b.size; omega
      have G1 : Hid (∀ V : World, ErrType V → Calls Tryd.prog 7 #[.string (T ++ ⟨#[48]⟩), .int .i64 0] V fun e w' => e = .returned (.agg #[.int .i64 (tn : Int), .string b, .int .i64 (T.size : Int), .int .i64 0]) ∧ Below V.heap.size V w') := fun V hV => by
        have hsz : (T ++ ⟨#[48]⟩).size = T.size + 1 := by rw [ByteArray.size_append]; rfl
        have h := implDerGet (T ++ ⟨#[48]⟩) 0 V (by rw [hsz]; unfold maxLen; omega) (by omega) hV
        have hb := get_back ByteArray.empty ⟨#[48]⟩ (t := tn) (b := b) htg hb4
        rw [← hT, ByteArray.empty_append] at hb
        have hv : getD (T ++ ⟨#[48]⟩) 0 = ⟨(tn : Int), b, (T.size : Int), 0⟩ := by
          rw [getD, if_neg (by rw [hsz]; omega), if_neg (by omega)]
          have e0 : (0 : Int).toNat = ByteArray.empty.size := rfl
          rw [e0, hb]
          congr 2
          show 0 + T.size = T.size
          omega
        rw [hv] at h
        exact h
      have G2 : Hid (∀ (V : World) (k : Nat), ErrType V → k < T.size → ∃ c, Calls Tryd.prog 7 #[.string (T.extract 0 k), .int .i64 0] V fun e w' => e = .returned (.agg #[.int .i64 0, .string ⟨#[]⟩, .int .i64 0, .int .i64 c]) ∧ c = 4 ∧ Below V.heap.size V w') := fun V k hV hk => by
        have hsz : (T.extract 0 k).size = k := by rw [ByteArray.size_extract]; omega
        have h := implDerGet (T.extract 0 k) 0 V (by rw [hsz]; unfold maxLen; omega) (by omega) hV
        have hv : getD (T.extract 0 k) 0 = .bad 4 := by
          rw [getD, if_neg (by rw [hsz]; omega), if_neg (by omega)]
          show getAt _ 0 = _
          rw [hT]
          exact get_short htg hb4 (by rw [← hT]; exact hk)
        rw [hv] at h
        exact ⟨4, h.mono fun e W h => ⟨h.1, rfl, h.2⟩⟩
      have G3 : Hid (∀ V : World, ErrType V → Calls Tryd.prog 9 #[.string (T ++ T)] V fun e w' => ∃ v, e = .returned (.agg #[v, .int .i64 0]) ∧ OwnT w' V.heap.size v [((tn : Int), b), ((tn : Int), b)] ∧ Below V.heap.size V w') := fun V hV => by
        have hsz : (T ++ T).size = T.size + T.size := by rw [ByteArray.size_append]
        have h := implDerAll (T ++ T) V (by rw [hsz]; unfold maxLen; omega) hV
        rw [hT, all_two htg hb4, ← hT] at h
        exact h
      clear hT htg HTT ht hb
      have HGk : Hid (∀ V, Below w.heap.size w V → ErrType V) := fun V hV => HG.out.below hV hpos
      have HCk : Hid (∀ V, Below w.heap.size w V → CodeAt a1 len1 V) := fun V hV => C1.out.below hV K1.out
      rw [he]
      clear he
      go_wp2_with fail
      refine (G1.out _ (HGk.out _ B3.out)).mono ?_
      rintro e w4 ⟨rfl, hb4'⟩
      have B4 : Hid (Below w.heap.size w w4) := B3.out.trans (hb4'.mono B3.out.size)
      clear hb4' B3 G1
      obtain ⟨w5, hw5⟩ : ∃ w5, w5 = w4.alloc (.cells #[.int .i64 (tn : Int), .string b, .int .i64 (T.size : Int), .int .i64 0] 29 (0, 0)) := ⟨_, rfl⟩
      have B5 : Hid (Below w.heap.size w w5) := by rw [hw5]; exact B4.out.alloc B4.out.size _
      have R5 : Hid (w5.heap[w4.heap.size]? = some (.cells [Value.int .i64 (tn : Int), .string b, .int .i64 (T.size : Int), .int .i64 0].toArray 29 (0, 0))) := by rw [hw5]; exact heap_alloc_new w4 _
      go_wp2_with fail
      rw [← hw5]
      clear hw5
      refine (lwAt a1 len1 cap1 0 256 _ (by omega) (by omega) (HCk.out _ B5.out)).mono ?_
      rintro e w6 ⟨⟨k, hk, rfl⟩, rfl⟩
      have hk' : k < 256 := by omega
      clear hk
      have hsi : (T.size : Int) ≠ 0 := by omega
      obtain ⟨kk, hkk⟩ : ∃ kk : Nat, (k : Int).tmod (T.size : Int) = (kk : Int) ∧ kk < T.size := ⟨k % T.size, by rw [Int.ofNat_tmod], Nat.mod_lt _ (by omega)⟩
      have hkm := hkk.1
      have hkl := hkk.2
      clear hkk
      go_wp2_with fail
      refine (G3.out _ (HGk.out _ B5.out)).mono ?_
      rintro e w7 ⟨v, rfl, hown, hb7⟩
      obtain ⟨x1, y1, rfl⟩ := OwnT.form hown
      have B7 : Hid (Below w.heap.size w w7) := B5.out.trans (hb7.mono B5.out.size)
      have R7 : Hid (w7.heap[w4.heap.size]? = some (.cells [Value.int .i64 (tn : Int), .string b, .int .i64 (T.size : Int), .int .i64 0].toArray 29 (0, 0))) := by show _ = _; rw [hb7.block _ (heap_lt R5.out)]; exact R5.out
      have I7 : Hid (IsT w7 x1 [((tn : Int), b), ((tn : Int), b)]) := OwnT.isT hown
      clear hown hb7 B5 R5 G3
      obtain ⟨w8, hw8⟩ : ∃ w8, w8 = w7.alloc (.cells #[.slice x1 2 y1, .int .i64 0] 34 (0, 0)) := ⟨_, rfl⟩
      have b8 : Below w7.heap.size w7 w8 := by rw [hw8]; exact (Below.refl _ _).alloc (Nat.le_refl _) _
      have B8 : Hid (Below w.heap.size w w8) := B7.out.trans (b8.mono B7.out.size)
      have R8 : Hid (w8.heap[w4.heap.size]? = some (.cells [Value.int .i64 (tn : Int), .string b, .int .i64 (T.size : Int), .int .i64 0].toArray 29 (0, 0))) := by show _ = _; rw [b8.block _ (heap_lt R7.out)]; exact R7.out
      have Y8 : Hid (w8.heap[w7.heap.size]? = some (.cells [Value.slice x1 2 y1, .int .i64 0].toArray 34 (0, 0))) := by rw [hw8]; exact heap_alloc_new w7 _
      have I8 : Hid (IsT w8 x1 [((tn : Int), b), ((tn : Int), b)]) := IsT.keep I7.out b8
      clear b8 I7 B7
      go_upto_region 11 with fail
      rw [← hw8]
      clear hw8 R7
      have c0 : w8.cell? ⟨w4.heap.size, 0, none⟩ = some (.int .i64 (tn : Int)) := rowFacts R8.out 0 _ rfl
      have c1 : w8.cell? ⟨w4.heap.size, 1, none⟩ = some (.string b) := rowFacts R8.out 1 _ rfl
      have c2 : w8.cell? ⟨w4.heap.size, 2, none⟩ = some (.int .i64 (T.size : Int)) := rowFacts R8.out 2 _ rfl
      have c3 : w8.cell? ⟨w4.heap.size, 3, none⟩ = some (.int .i64 0) := rowFacts R8.out 3 _ rfl
      obtain ⟨c, G2'⟩ := G2.out w8 kk (HGk.out _ B8.out) hkl
      have HG2 : Hid (Calls Tryd.prog 7 #[.string (T.extract 0 kk), .int .i64 0] w8 fun e w' => e = .returned (.agg #[.int .i64 0, .string ⟨#[]⟩, .int .i64 0, .int .i64 c]) ∧ c = 4 ∧ Below w8.heap.size w8 w') := G2'
      have hki : (kk : Int) ≤ (T.size : Int) := by omega
      clear G2 G2'
      go_wp2_with fail
      refine HG2.out.mono ?_
      rintro e w9 ⟨rfl, rfl, b9⟩
      have B9 : Hid (Below w.heap.size w w9) := B8.out.trans (b9.mono B8.out.size)
      have R9 : w9.heap[w4.heap.size]? = some (.cells [Value.int .i64 (tn : Int), .string b, .int .i64 (T.size : Int), .int .i64 0].toArray 29 (0, 0)) := by rw [b9.block _ (heap_lt R8.out)]; exact R8.out
      have Y9 : w9.heap[w7.heap.size]? = some (.cells [Value.slice x1 2 y1, .int .i64 0].toArray 34 (0, 0)) := by rw [b9.block _ (heap_lt Y8.out)]; exact Y8.out
      have I9 : Hid (IsT w9 x1 [((tn : Int), b), ((tn : Int), b)]) := IsT.keep I8.out b9
      have d0 : w9.cell? ⟨w4.heap.size, 0, none⟩ = some (.int .i64 (tn : Int)) := rowFacts R9 0 _ rfl
      have d1 : w9.cell? ⟨w4.heap.size, 1, none⟩ = some (.string b) := rowFacts R9 1 _ rfl
      have d2 : w9.cell? ⟨w7.heap.size, 0, none⟩ = some (.slice x1 2 y1) := rowFacts Y9 0 _ rfl
      clear b9 R9 Y9 c0 c1 c2 c3 HG2 R8 Y8 I8 B8
      obtain ⟨w10, hw10⟩ : ∃ w10, w10 = w9.alloc (.cells #[.int .i64 (tn : Int), .string b, .int .i64 (tn : Int), .string b] 27 (0, 0)) := ⟨_, rfl⟩
      have b10 : Below w9.heap.size w9 w10 := by rw [hw10]; exact (Below.refl _ _).alloc (Nat.le_refl _) _
      have B10 : Hid (Below w.heap.size w w10) := B9.out.trans (b10.mono B9.out.size)
      have hz10 : w9.heap.size < w10.heap.size := by rw [hw10]; simp
      have J10 : IsT w10 (some ⟨w9.heap.size, 0, none⟩) [((tn : Int), b), ((tn : Int), b)] := .inr ⟨_, rfl, hz10, fun i p hp => by
        have hrow : w10.heap[w9.heap.size]? = some (.cells #[.int .i64 (tn : Int), .string b, .int .i64 (tn : Int), .string b] 27 (0, 0)) := by rw [hw10]; exact heap_alloc_new w9 _
        rw [cell_of_row w10 _ _ _ _ (0, 0) hrow, cell_of_row w10 _ _ _ _ (0, 0) hrow]
        have hi : i = 0 ∨ i = 1 := by
          rcases Nat.lt_or_ge i 2 with h | h
          · omega
          · rw [List.getElem?_eq_none (by simpa using h)] at hp; cases hp
        rcases hi with rfl | rfl <;> (cases hp; exact ⟨rfl, rfl⟩)⟩
      have HLw : Hid (Calls Tryd.prog 10 #[.slice x1 2 y1, .slice (some ⟨w9.heap.size, 0, none⟩) 2 2] w10 fun e w' => e = .returned (.bool true) ∧ Below w10.heap.size w10 w') := lwTlvs x1 (some ⟨w9.heap.size, 0, none⟩) [((tn : Int), b), ((tn : Int), b)] y1 2 w10 (by simp) (IsT.keep I9.out b10) J10
      clear b10 J10 I9 hz10 B9
      have ef := field_out 0 4 ⟨#[]⟩ 0 w9
      go_wp2_with fail
      rw [← hw10]
      clear hw10
      refine HLw.out.mono ?_
      rintro e w11 ⟨rfl, b11⟩
      have B11 : Hid (Below w.heap.size w w11) := B10.out.trans (b11.mono B10.out.size)
      clear b11 B10 HLw
      go_wp2_with fail
      go_meet
      case rel => exact B11.out
  case rest =>
    have B4 : Hid (Below w.heap.size w wc) := hcut
    have HGk : Hid (∀ V, Below w.heap.size w V → ErrType V) := fun V hV => HG.out.below hV hpos
    have HC0 : Hid (∀ V, Below w.heap.size w V → CodeAt a0 len0 V) := fun V hV => C0.out.below hV K0.out
    have HC1 : Hid (∀ V, Below w.heap.size w V → CodeAt a1 len1 V) := fun V hV => C1.out.below hV K1.out
    have HK0 : Hid (∀ V, Below w.heap.size w V → ∀ x, 0 < len0 → a0 = some x → x.block < V.heap.size) := fun V hV x h0 hx => Nat.lt_of_lt_of_le (K0.out x h0 hx) hV.size
    have HK1 : Hid (∀ V, Below w.heap.size w V → ∀ x, 0 < len1 → a1 = some x → x.block < V.heap.size) := fun V hV x h0 hx => Nat.lt_of_lt_of_le (K1.out x h0 hx) hV.size
    clear hcut B3 HG C0 C1 K0 K1 HTT ht hb
    generalize Value.int IntKind.i64 t = vt
    generalize Value.string T = vT
    generalize Value.string b = vb
    go_wp2_with fail
    refine (drawDerGet a1 len1 cap1 _ (by omega) (HC1.out _ B4.out) (HK1.out _ B4.out)).mono ?_
    rintro e w5 ⟨⟨u, p, hu, hp, rfl⟩, b5⟩
    have B5 : Hid (Below w.heap.size w w5) := B4.out.trans (b5.mono B4.out.size)
    clear b5 B4
    obtain ⟨R, hR⟩ : ∃ R, R = getD u p := ⟨_, rfl⟩
    have hum : u.size ≤ maxLen := by unfold maxLen; omega
    have G1 : Hid (∀ V : World, ErrType V → Calls Tryd.prog 7 #[.string u, .int .i64 p] V fun e w' => e = .returned R.val ∧ Below V.heap.size V w') := fun V hV => by rw [hR]; exact implDerGet u p V hum hp.2 hV
    have G2 : Hid (∀ V : World, Calls Tryd.prog 12 #[.string u, .int .i64 p] V fun e w' => e = .returned R.val ∧ Below V.heap.size V w') := fun V => by rw [hR]; exact specDerGet u p V hum
    have HW : Hid (R.code = 0 → ∃ pn an : Nat, p = (pn : Int) ∧ R.at' = (an : Int) ∧ pn ≤ an ∧ an ≤ u.size ∧ u.extract pn an = putD R.tag R.body ∧ R.body.size ≤ 5000) := fun hc => by
      rw [hR] at hc ⊢
      unfold getD at hc ⊢
      rw [if_neg (by omega)] at hc ⊢
      by_cases hp0 : p < 0
      · rw [if_pos hp0] at hc; simp [GetR.bad] at hc
      · rw [if_neg hp0] at hc ⊢
        obtain ⟨q1, q2, q3⟩ := getAt_at hc
        refine ⟨p.toNat, (getAt u p.toNat).at'.toNat, by omega, by omega, by omega, q2, get_written hc, ?_⟩
        obtain ⟨n, n1, n2, n3, n4, _⟩ := getAt_form hc
        rw [n4]
        show (u.extract _ _).size ≤ 5000
        rw [ByteArray.size_extract]
        omega
    clear hR hum
    obtain ⟨tg, bd, an, cd⟩ := R
    unfold GetR.val at G1 G2
    simp only at HW G1 G2
    go_wp2_with fail
    refine (G1.out _ (HGk.out _ B5.out)).mono ?_
    rintro e w6 ⟨rfl, b6⟩
    have B6 : Hid (Below w.heap.size w w6) := B5.out.trans (b6.mono B5.out.size)
    clear b6 B5 G1
    obtain ⟨w7, hw7⟩ : ∃ w7, w7 = w6.alloc (.cells #[.int .i64 tg, .string bd, .int .i64 an, .int .i64 cd] 29 (0, 0)) := ⟨_, rfl⟩
    have B7 : Hid (Below w.heap.size w w7) := by rw [hw7]; exact B6.out.alloc B6.out.size _
    have R7 : Hid (w7.heap[w6.heap.size]? = some (.cells [Value.int .i64 tg, .string bd, .int .i64 an, .int .i64 cd].toArray 29 (0, 0))) := by rw [hw7]; exact heap_alloc_new w6 _
    go_upto_region 15 with fail
    rw [← hw7]
    clear hw7
    go_cut [115] from 91 (fun s115 wx => s115 = .bool false ∧ Below w.heap.size w wx)
    case first =>
      have q0 : w7.cell? ⟨w6.heap.size, 0, none⟩ = some (.int .i64 tg) := rowFacts R7.out 0 _ rfl
      have q1 : w7.cell? ⟨w6.heap.size, 1, none⟩ = some (.string bd) := rowFacts R7.out 1 _ rfl
      have q2 : w7.cell? ⟨w6.heap.size, 2, none⟩ = some (.int .i64 an) := rowFacts R7.out 2 _ rfl
      have q3 : w7.cell? ⟨w6.heap.size, 3, none⟩ = some (.int .i64 cd) := rowFacts R7.out 3 _ rfl
      have HT : Hid (∀ V, Hid (Below w7.heap.size w7 V) → V.cell? ⟨w6.heap.size, 0, none⟩ = some (.int .i64 tg) ∧ V.cell? ⟨w6.heap.size, 1, none⟩ = some (.string bd) ∧ V.cell? ⟨w6.heap.size, 2, none⟩ = some (.int .i64 an) ∧ V.cell? ⟨w6.heap.size, 3, none⟩ = some (.int .i64 cd)) := fun V hV => by
        have hP : V.heap[w6.heap.size]? = _ := (hV.out.block _ (heap_lt R7.out)).trans R7.out
        exact ⟨rowFacts hP 0 _ rfl, rowFacts hP 1 _ rfl, rowFacts hP 2 _ rfl, rowFacts hP 3 _ rfl⟩
      have T2 : Hid (∀ V, Hid (Below w7.heap.size w7 V) → Calls Tryd.prog 12 #[.string u, .int .i64 p] V fun e W => e = .returned (.agg #[.int .i64 tg, .string bd, .int .i64 an, .int .i64 cd]) ∧ Hid (Below w7.heap.size w7 W) ∧ (W.cell? ⟨w6.heap.size, 0, none⟩ = some (.int .i64 tg) ∧ W.cell? ⟨w6.heap.size, 1, none⟩ = some (.string bd) ∧ W.cell? ⟨w6.heap.size, 2, none⟩ = some (.int .i64 an) ∧ W.cell? ⟨w6.heap.size, 3, none⟩ = some (.int .i64 cd))) := fun V hV => by
        refine (G2.out V).mono ?_
        rintro e W ⟨rfl, hb⟩
        have hbW : Below w7.heap.size w7 W := hV.out.trans (hb.mono hV.out.size)
        exact ⟨rfl, hbW, HT.out W hbW⟩
      have HD7 : Hid (Below w7.heap.size w7 w7.drew) := (Below.refl _ w7).drew
      by_cases hcd : cd = 0
      · subst hcd
        obtain ⟨pn, aq, rfl, rfl, ha1, ha2, hex, hbs⟩ := HW.out rfl
        obtain ⟨X, hX⟩ : ∃ X, X = putD tg bd := ⟨_, rfl⟩
        have hbm : bd.size ≤ maxLen := by unfold maxLen; omega
        have T3 : Hid (∀ V, Hid (Below w7.heap.size w7 V) → Calls Tryd.prog 5 #[.int .i64 tg, .string bd] V fun e W => e = .returned (.string X) ∧ Hid (Below w7.heap.size w7 W) ∧ (W.cell? ⟨w6.heap.size, 0, none⟩ = some (.int .i64 tg) ∧ W.cell? ⟨w6.heap.size, 1, none⟩ = some (.string bd) ∧ W.cell? ⟨w6.heap.size, 2, none⟩ = some (.int .i64 (aq : Int)) ∧ W.cell? ⟨w6.heap.size, 3, none⟩ = some (.int .i64 0))) := fun V hV => by
          rw [hX]
          refine (implDerPut tg bd V hbm).mono ?_
          rintro e W ⟨rfl, hb⟩
          have hbW : Below w7.heap.size w7 W := hV.out.trans (hb.mono hV.out.size)
          exact ⟨rfl, hbW, HT.out W hbW⟩
        rw [← hX] at hex
        have i1 : (pn : Int) ≤ (aq : Int) := by omega
        have i2 : (aq : Int) ≤ (u.size : Int) := by omega
        clear hX HW HT G2 hbs hbm hp
        go_region_held3 (fun V => V.cell? ⟨w6.heap.size, 0, none⟩ = some (.int .i64 tg) ∧ V.cell? ⟨w6.heap.size, 1, none⟩ = some (.string bd) ∧ V.cell? ⟨w6.heap.size, 2, none⟩ = some (.int .i64 (aq : Int)) ∧ V.cell? ⟨w6.heap.size, 3, none⟩ = some (.int .i64 0)) (first | (refine ⟨?_, ?_, ?_, ?_⟩ <;> assumption) | go_keep)
          (first | (go_at_call 12; refine (T2.out _ (by assumption)).mono ?_; rintro r V1 ⟨rfl, kV1, x0, x1, x2, x3⟩) | (go_at_call 5; refine (T3.out _ (by assumption)).mono ?_; rintro r V2 ⟨rfl, kV2, y0, y1, y2, y3⟩))
        have BV : Hid (Below w.heap.size w V2) := B7.out.trans (kV2.out.mono B7.out.size)
        go_wp2_with fail
        go_meet
        case rel => exact ⟨by first | rfl | simp, BV.out⟩
      · have hz : (cd == 0) = false := by rw [beq_eq_false_iff_ne]; exact hcd
        clear HW HT hp
        refine wp_region_held_drew (S := fun V => V.cell? ⟨w6.heap.size, 0, none⟩ = some (.int .i64 tg) ∧ V.cell? ⟨w6.heap.size, 1, none⟩ = some (.string bd) ∧ V.cell? ⟨w6.heap.size, 2, none⟩ = some (.int .i64 an) ∧ V.cell? ⟨w6.heap.size, 3, none⟩ = some (.int .i64 cd)) (by kernel_rfl) ?_ (fun hHeld => ?_)
        · exact ⟨q0, q1, q2, q3⟩
        refine wpAnyH_take (i := 0) (oi := ⟨some 91, _, _, _, _, _⟩) (v := ?_) rfl (by kernel_rfl) (by kernel_rfl) (by kernel_rfl) (fun _ _ _ h => h) (Or.inl ⟨by kernel_rfl, ?_⟩) (by assumption) ?_
        rotate_left
        · (intro w hSw; (try dsimp only at hSw); go_simp; try with_reducible rfl)
        (try simp only [Act.put, List.setIfInBounds_toArray, List.set_cons_zero, List.set_cons_succ])
        refine wpAnyH_take (i := 1) (oi := ⟨some 92, _, _, _, _, _⟩) (v := ?_) rfl (by kernel_rfl) (by kernel_rfl) (by kernel_rfl) (fun _ _ _ h => h) (Or.inl ⟨by kernel_rfl, ?_⟩) (by assumption) ?_
        rotate_left
        · (intro w hSw; (try dsimp only at hSw); go_simp; try with_reducible rfl)
        (try simp only [Act.put, List.setIfInBounds_toArray, List.set_cons_zero, List.set_cons_succ])
        refine wpAnyH_take (i := 2) (oi := ⟨some 93, _, _, _, _, _⟩) (v := ?_) rfl (by kernel_rfl) (by kernel_rfl) (by kernel_rfl) (fun _ _ _ h => h) (Or.inl ⟨by kernel_rfl, ?_⟩) (by assumption) ?_
        rotate_left
        · (intro w hSw; (try dsimp only at hSw); go_simp; try with_reducible rfl)
        (try simp only [Act.put, List.setIfInBounds_toArray, List.set_cons_zero, List.set_cons_succ])
        refine wpAnyH_ready (rs := [3]) (by kernel_rfl) (by simp) ?_
        refine AllReadyH.cons (o := ⟨some 94, _, _, _, _, _⟩) rfl (fun K hK => ?_) AllReadyH.nil
        go_simp
        refine (T2.out _ HD7).mono ?_
        rintro r V1 ⟨rfl, kV1, x0, x1, x2, x3⟩
        refine hK.out _ _ ?_ (fun hHeld => ?_)
        · exact ⟨x0, x1, x2, x3⟩
        clear hK K
        refine wpAnyH_take (i := 4) (oi := ⟨some 95, _, _, _, _, _⟩) (v := ?_) rfl (by kernel_rfl) (by kernel_rfl) (by kernel_rfl) (fun _ _ _ h => h) (Or.inl ⟨by kernel_rfl, ?_⟩) (by assumption) ?_
        rotate_left
        · (intro w hSw; (try dsimp only at hSw); go_simp; try with_reducible rfl)
        (try simp only [Act.put, List.setIfInBounds_toArray, List.set_cons_zero, List.set_cons_succ])
        refine wpAnyH_take (i := 5) (oi := ⟨some 96, _, _, _, _, _⟩) (v := ?_) rfl (by kernel_rfl) (by kernel_rfl) (by kernel_rfl) (fun _ _ _ h => h) (Or.inl ⟨by kernel_rfl, ?_⟩) (by assumption) ?_
        rotate_left
        · (intro w hSw; (try dsimp only at hSw); go_simp; try with_reducible rfl)
        (try simp only [Act.put, List.setIfInBounds_toArray, List.set_cons_zero, List.set_cons_succ])
        refine wpAnyH_take (i := 6) (oi := ⟨some 97, _, _, _, _, _⟩) (v := ?_) rfl (by kernel_rfl) (by kernel_rfl) (by kernel_rfl) (fun _ _ _ h => h) (Or.inl ⟨by kernel_rfl, ?_⟩) (by assumption) ?_
        rotate_left
        · (intro w hSw; (try dsimp only at hSw); go_simp; try with_reducible rfl)
        (try simp only [Act.put, List.setIfInBounds_toArray, List.set_cons_zero, List.set_cons_succ])
        refine wpAnyH_take (i := 7) (oi := ⟨some 98, _, _, _, _, _⟩) (v := ?_) rfl (by kernel_rfl) (by kernel_rfl) (by kernel_rfl) (fun _ _ _ h => h) (Or.inl ⟨by kernel_rfl, ?_⟩) (by assumption) ?_
        rotate_left
        · (intro w hSw; (try dsimp only at hSw); go_simp; try with_reducible rfl)
        (try simp only [Act.put, List.setIfInBounds_toArray, List.set_cons_zero, List.set_cons_succ])
        refine wpAnyH_take (i := 8) (oi := ⟨some 99, _, _, _, _, _⟩) (v := ?_) rfl (by kernel_rfl) (by kernel_rfl) (by kernel_rfl) (fun _ _ _ h => h) (Or.inl ⟨by kernel_rfl, ?_⟩) (by assumption) ?_
        rotate_left
        · (intro w hSw; (try dsimp only at hSw); go_simp; try with_reducible rfl)
        (try simp only [Act.put, List.setIfInBounds_toArray, List.set_cons_zero, List.set_cons_succ])
        refine wpAnyH_take (i := 9) (oi := ⟨some 100, _, _, _, _, _⟩) (v := ?_) rfl (by kernel_rfl) (by kernel_rfl) (by kernel_rfl) (fun _ _ _ h => h) (Or.inl ⟨by kernel_rfl, ?_⟩) (by assumption) ?_
        rotate_left
        · (intro w hSw; (try dsimp only at hSw); go_simp; try with_reducible rfl)
        (try simp only [Act.put, List.setIfInBounds_toArray, List.set_cons_zero, List.set_cons_succ])
        refine wpAnyH_take (i := 10) (oi := ⟨some 101, _, _, _, _, _⟩) (v := undef) rfl (by kernel_rfl) (by kernel_rfl) (by kernel_rfl) (fun _ _ _ h => h) (Or.inr ⟨by kernel_rfl, rfl⟩) (by assumption) ?_
        (try simp only [Act.put, List.setIfInBounds_toArray, List.set_cons_zero, List.set_cons_succ])
        refine wpAnyH_take (i := 11) (oi := ⟨some 102, _, _, _, _, _⟩) (v := undef) rfl (by kernel_rfl) (by kernel_rfl) (by kernel_rfl) (fun _ _ _ h => h) (Or.inr ⟨by kernel_rfl, rfl⟩) (by assumption) ?_
        (try simp only [Act.put, List.setIfInBounds_toArray, List.set_cons_zero, List.set_cons_succ])
        refine wpAnyH_take (i := 12) (oi := ⟨some 103, _, _, _, _, _⟩) (v := undef) rfl (by kernel_rfl) (by kernel_rfl) (by kernel_rfl) (fun _ _ _ h => h) (Or.inr ⟨by kernel_rfl, rfl⟩) (by assumption) ?_
        (try simp only [Act.put, List.setIfInBounds_toArray, List.set_cons_zero, List.set_cons_succ])
        refine wpAnyH_take (i := 13) (oi := ⟨some 104, _, _, _, _, _⟩) (v := undef) rfl (by kernel_rfl) (by kernel_rfl) (by kernel_rfl) (fun _ _ _ h => h) (Or.inr ⟨by kernel_rfl, rfl⟩) (by assumption) ?_
        (try simp only [Act.put, List.setIfInBounds_toArray, List.set_cons_zero, List.set_cons_succ])
        refine wpAnyH_take (i := 14) (oi := ⟨some 105, _, _, _, _, _⟩) (v := undef) rfl (by kernel_rfl) (by kernel_rfl) (by kernel_rfl) (fun _ _ _ h => h) (Or.inr ⟨by kernel_rfl, rfl⟩) (by assumption) ?_
        (try simp only [Act.put, List.setIfInBounds_toArray, List.set_cons_zero, List.set_cons_succ])
        refine wpAnyH_take (i := 15) (oi := ⟨some 106, _, _, _, _, _⟩) (v := undef) rfl (by kernel_rfl) (by kernel_rfl) (by kernel_rfl) (fun _ _ _ h => h) (Or.inr ⟨by kernel_rfl, rfl⟩) (by assumption) ?_
        (try simp only [Act.put, List.setIfInBounds_toArray, List.set_cons_zero, List.set_cons_succ])
        refine wpAnyH_take (i := 16) (oi := ⟨some 107, _, _, _, _, _⟩) (v := undef) rfl (by kernel_rfl) (by kernel_rfl) (by kernel_rfl) (fun _ _ _ h => h) (Or.inr ⟨by kernel_rfl, rfl⟩) (by assumption) ?_
        (try simp only [Act.put, List.setIfInBounds_toArray, List.set_cons_zero, List.set_cons_succ])
        refine wpAnyH_take (i := 17) (oi := ⟨some 108, _, _, _, _, _⟩) (v := undef) rfl (by kernel_rfl) (by kernel_rfl) (by kernel_rfl) (fun _ _ _ h => h) (Or.inr ⟨by kernel_rfl, rfl⟩) (by assumption) ?_
        (try simp only [Act.put, List.setIfInBounds_toArray, List.set_cons_zero, List.set_cons_succ])
        refine wpAnyH_take (i := 18) (oi := ⟨some 109, _, _, _, _, _⟩) (v := undef) rfl (by kernel_rfl) (by kernel_rfl) (by kernel_rfl) (fun _ _ _ h => h) (Or.inr ⟨by kernel_rfl, rfl⟩) (by assumption) ?_
        (try simp only [Act.put, List.setIfInBounds_toArray, List.set_cons_zero, List.set_cons_succ])
        refine wpAnyH_take (i := 19) (oi := ⟨some 110, _, _, _, _, _⟩) (v := undef) rfl (by kernel_rfl) (by kernel_rfl) (by kernel_rfl) (fun _ _ _ h => h) (Or.inr ⟨by kernel_rfl, rfl⟩) (by assumption) ?_
        (try simp only [Act.put, List.setIfInBounds_toArray, List.set_cons_zero, List.set_cons_succ])
        refine wpAnyH_take (i := 20) (oi := ⟨some 111, _, _, _, _, _⟩) (v := undef) rfl (by kernel_rfl) (by kernel_rfl) (by kernel_rfl) (fun _ _ _ h => h) (Or.inr ⟨by kernel_rfl, rfl⟩) (by assumption) ?_
        (try simp only [Act.put, List.setIfInBounds_toArray, List.set_cons_zero, List.set_cons_succ])
        refine wpAnyH_take (i := 21) (oi := ⟨some 112, _, _, _, _, _⟩) (v := undef) rfl (by kernel_rfl) (by kernel_rfl) (by kernel_rfl) (fun _ _ _ h => h) (Or.inr ⟨by kernel_rfl, rfl⟩) (by assumption) ?_
        (try simp only [Act.put, List.setIfInBounds_toArray, List.set_cons_zero, List.set_cons_succ])
        refine wpAnyH_take (i := 22) (oi := ⟨some 113, _, _, _, _, _⟩) (v := undef) rfl (by kernel_rfl) (by kernel_rfl) (by kernel_rfl) (fun _ _ _ h => h) (Or.inr ⟨by kernel_rfl, rfl⟩) (by assumption) ?_
        (try simp only [Act.put, List.setIfInBounds_toArray, List.set_cons_zero, List.set_cons_succ])
        refine wpAnyH_take (i := 23) (oi := ⟨some 114, _, _, _, _, _⟩) (v := ?_) rfl (by kernel_rfl) (by kernel_rfl) (by kernel_rfl) (fun _ _ _ h => h) (Or.inl ⟨by kernel_rfl, ?_⟩) (by assumption) ?_
        rotate_left
        · (intro w hSw; (try dsimp only at hSw); go_simp; try with_reducible rfl)
        (try simp only [Act.put, List.setIfInBounds_toArray, List.set_cons_zero, List.set_cons_succ])
        refine wpAnyH_take (i := 24) (oi := ⟨some 115, _, _, _, _, _⟩) (v := ?_) rfl (by kernel_rfl) (by kernel_rfl) (by kernel_rfl) (fun _ _ _ h => h) (Or.inl ⟨by kernel_rfl, ?_⟩) (by assumption) ?_
        rotate_left
        · (intro w hSw; (try dsimp only at hSw); go_simp; try with_reducible rfl)
        (try simp only [Act.put, List.setIfInBounds_toArray, List.set_cons_zero, List.set_cons_succ])
        refine wpAnyH_done (by kernel_rfl) ?_ _
        have BV : Hid (Below w.heap.size w V1) := B7.out.trans (kV1.out.mono B7.out.size)
        go_wp2_with fail
        go_meet
        case rel => exact ⟨by first | rfl | simp, BV.out⟩
    case rest =>
      obtain ⟨rfl, hcut⟩ := hcut
      have B8 : Hid (Below w.heap.size w wc) := hcut
      clear hcut R7 B6 B7 G2 HW hu hp
      generalize Value.string u = vu
      generalize Value.int IntKind.i64 p = vp
      go_wp2_with fail
      refine (drawDerAll a1 len1 cap1 _ (by omega) (HC1.out _ B8.out) (HK1.out _ B8.out)).mono ?_
      rintro e w9 ⟨⟨v, hv, rfl⟩, b9⟩
      have B9 : Hid (Below w.heap.size w w9) := B8.out.trans (b9.mono B8.out.size)
      clear b9 B8
      have hvm : v.size ≤ maxLen := by unfold maxLen; omega
      have hl := allD_len v
      have HS : Hid (∀ V : World, Calls Tryd.prog 14 #[.string v] V fun e w' => ∃ v', e = .returned (.agg #[v', .int .i64 (allD v).2]) ∧ OwnT w' V.heap.size v' (allD v).1 ∧ Below V.heap.size V w') := fun V => specDerAll v V hvm
      have HI : Hid (∀ V : World, ErrType V → Calls Tryd.prog 9 #[.string v] V fun e w' => ∃ v', e = .returned (.agg #[v', .int .i64 (allD v).2]) ∧ OwnT w' V.heap.size v' (allD v).1 ∧ Below V.heap.size V w') := fun V hV => implDerAll v V hvm hV
      generalize allD v = R at *
      obtain ⟨l, z⟩ := R
      simp only at hl HS HI
      clear hvm hv
      have HL : Hid (l.length ≤ 60) := hl
      clear hl
      go_wp2_with fail
      refine (HI.out _ (HGk.out _ B9.out)).mono ?_
      rintro e w10 ⟨v1, rfl, o1, b10⟩
      obtain ⟨x1, y1, rfl⟩ := OwnT.form o1
      have B10 : Hid (Below w.heap.size w w10) := B9.out.trans (b10.mono B9.out.size)
      clear b10 B9 o1
      have f1 := field_all1 x1 l.length y1 z w10
      go_wp2_with fail
      refine (HS.out _).mono ?_
      rintro e w11 ⟨v2, rfl, o2, b11⟩
      obtain ⟨x2, y2, rfl⟩ := OwnT.form o2
      have B11 : Hid (Below w.heap.size w w11) := B10.out.trans (b11.mono B10.out.size)
      clear b11 B10 o2 f1
      have f2 := field_all1 x2 l.length y2 z w11
      go_wp2_with fail
      refine (HI.out _ (HGk.out _ B11.out)).mono ?_
      rintro e w12 ⟨v3, rfl, o3, b12⟩
      obtain ⟨x3, y3, rfl⟩ := OwnT.form o3
      have B12 : Hid (Below w.heap.size w w12) := B11.out.trans (b12.mono B11.out.size)
      have I12 : Hid (IsT w12 x3 l) := OwnT.isT o3
      clear b12 B11 o3 f2
      have f3 := field_all0 x3 l.length y3 z w12
      go_wp2_with fail
      refine (HS.out _).mono ?_
      rintro e w13 ⟨v4, rfl, o4, b13⟩
      obtain ⟨x4, y4, rfl⟩ := OwnT.form o4
      have B13 : Hid (Below w.heap.size w w13) := B12.out.trans (b13.mono B12.out.size)
      have HLw : Hid (Calls Tryd.prog 10 #[.slice x3 l.length y3, .slice x4 l.length y4] w13 fun e w' => e = .returned (.bool true) ∧ Below w13.heap.size w13 w') := lwTlvs x3 x4 l y3 y4 w13 HL.out (IsT.keep I12.out b13) (OwnT.isT o4)
      clear b13 B12 o4 f3 I12
      have f4 := field_all0 x4 l.length y4 z w13
      go_wp2_with fail
      refine HLw.out.mono ?_
      rintro e w14 ⟨rfl, b14⟩
      have B14 : Hid (Below w.heap.size w w14) := B13.out.trans (b14.mono B13.out.size)
      clear b14 B13 HLw f4 HS HI HL
      go_wp2_with fail
      refine (drawDerInt a0 len0 cap0 _ (by omega) (HC0.out _ B14.out) (HK0.out _ B14.out)).mono ?_
      rintro e w15 ⟨⟨n, hn, rfl⟩, b15⟩
      have B15 : Hid (Below w.heap.size w w15) := B14.out.trans (b15.mono B14.out.size)
      clear b15 B14
      go_wp2_with fail
      refine (drawDerOid a0 len0 cap0 _ (by omega) (HC0.out _ B15.out) (HK0.out _ B15.out)).mono ?_
      rintro e w16 ⟨⟨ga, gc, zs, rfl, hz20, hzc, hints⟩, b16⟩
      have B16 : Hid (Below w.heap.size w w16) := B15.out.trans (b16.mono B15.out.size)
      clear b16 B15
      have H16 : Hid (IsInts w16 ga zs) := hints
      obtain ⟨X, hX⟩ : ∃ X, X = thingD 2 (strOfNums (intL n)) := ⟨_, rfl⟩
      have tb := thing_body (t := 2) (b := strOfNums (intL n)) (by rw [strOfNums_size]; have := (intL_len n).2; omega)
      rw [← hX] at tb
      have hX3 : 3 ≤ X.size := by rw [tb.2, strOfNums_size]; have := (intL_len n).1; omega
      have JI : Hid (∀ V : World, Calls Tryd.prog 17 #[.int .i64 n] V fun e w' => e = .returned (.string X) ∧ Below V.heap.size V w') := fun V => by rw [hX]; exact implDerInt n V hn.1 hn.2
      have JS : Hid (∀ V : World, Calls Tryd.prog 19 #[.int .i64 n] V fun e w' => e = .returned (.string X) ∧ Below V.heap.size V w') := fun V => by rw [hX]; exact specDerInt n V hn.1 hn.2
      have JR : Hid (∀ V : World, Calls Tryd.prog 21 #[.string (X.extract 2 X.size)] V fun e w' => e = .returned (.agg #[.int .i64 n, .int .i64 0, .int .i64 0]) ∧ Below V.heap.size V w') := fun V => by
        rw [tb.1]
        have h := implIntRead (strOfNums (intL n)) V (by rw [strOfNums_size]; have := (intL_len n).2; unfold maxLen; omega)
        rw [int_back hn.1 hn.2] at h
        exact h
      obtain ⟨O, hO⟩ : ∃ O, O = oidD zs := ⟨_, rfl⟩
      have KI : Hid (∀ V : World, IsInts V ga zs → Calls Tryd.prog 18 #[.slice ga zs.length gc] V fun e w' => e = .returned (.string O) ∧ Below V.heap.size V w') := fun V hV => by rw [hO]; exact implDerOid ga zs gc V (by omega) hzc hV
      have KS : Hid (∀ V : World, IsInts V ga zs → Calls Tryd.prog 20 #[.slice ga zs.length gc] V fun e w' => e = .returned (.string O) ∧ Below V.heap.size V w') := fun V hV => by rw [hO]; exact specDerOid ga zs gc V (by omega) hV
      have hXi : (3 : Int) ≤ (X.size : Int) := by omega
      have hXj : (2 : Int) ≤ (X.size : Int) := by omega
      have HO : Hid (O = oidD zs) := hO
      have HZ : Hid (zs.length ≤ 20) := hz20
      clear hX tb hX3 hn hO hints hz20 hzc
      obtain ⟨zl, hzl⟩ : ∃ zl, zl = zs.length := ⟨_, rfl⟩
      rw [← hzl] at KI KS ⊢
      have HZl : Hid (zl = zs.length) := hzl
      clear hzl
      go_wp2_with fail
      refine (JI.out _).mono ?_
      rintro e w17 ⟨rfl, b17⟩
      have B17 : Hid (Below w.heap.size w w17) := B16.out.trans (b17.mono B16.out.size)
      have H17 : Hid (IsInts w17 ga zs) := H16.out.below b17 H16.out.lt
      clear b17 B16 H16 JI
      go_wp2_with fail
      refine (KI.out _ H17.out).mono ?_
      rintro e w18 ⟨rfl, b18⟩
      have B18 : Hid (Below w.heap.size w w18) := B17.out.trans (b18.mono B17.out.size)
      have H18 : Hid (IsInts w18 ga zs) := H17.out.below b18 H17.out.lt
      clear b18 B17 H17 KI
      go_upto_region 24 with fail
      go_cut [178] from 143 (fun s178 wx => s178 = .bool false ∧ Below w.heap.size w wx)
      case first =>
        go_wp2_with fail
        refine (JS.out _).mono ?_
        rintro e w19 ⟨rfl, b19⟩
        have B19 : Hid (Below w.heap.size w w19) := B18.out.trans (b19.mono B18.out.size)
        have H19 : Hid (IsInts w19 ga zs) := H18.out.below b19 H18.out.lt
        clear b19 B18 H18 JS
        go_wp2_with fail
        refine (KS.out _ H19.out).mono ?_
        rintro e w20 ⟨rfl, b20⟩
        have B20 : Hid (Below w.heap.size w w20) := B19.out.trans (b20.mono B19.out.size)
        have H20 : Hid (IsInts w20 ga zs) := H19.out.below b20 H19.out.lt
        clear b20 B19 H19 KS
        go_wp2_with fail
        refine (JR.out _).mono ?_
        rintro e w21 ⟨rfl, b21⟩
        have B21 : Hid (Below w.heap.size w w21) := B20.out.trans (b21.mono B20.out.size)
        have H21 : Hid (IsInts w21 ga zs) := H20.out.below b21 H20.out.lt
        clear b21 B20 H20 JR
        cases ha : arcsB zs with
        | false =>
          obtain rfl : O = ⟨#[]⟩ := by rw [HO.out, oidD, if_neg (by rw [ha]; simp)]; rfl
          go_wp2_with fail
          go_meet
          case rel => exact ⟨by first | rfl | (simp; omega), B21.out⟩
        | true =>
          have hOe : O = thingD 6 (strOfNums (oidL zs)) := by rw [HO.out, oidD, if_pos ha]
          have tb := thing_body (t := 6) (b := strOfNums (oidL zs)) (by rw [strOfNums_size]; have := oidL_len ha; omega)
          rw [← hOe] at tb
          have JO : Hid (∀ V : World, Calls Tryd.prog 23 #[.string (O.extract 2 O.size)] V fun e w' => ∃ v', e = .returned (.agg #[v', .int .i64 0]) ∧ OwnL w' V.heap.size v' zs ∧ Below V.heap.size V w') := fun V => by
            rw [tb.1]
            have h := implOidRead (strOfNums (oidL zs)) V (by rw [strOfNums_size]; have := oidL_len ha; unfold maxLen; omega)
            rw [oid_back ha] at h
            exact h
          have hO2 : 2 ≤ O.size := by rw [tb.2]; omega
          have hOi : (2 : Int) ≤ (O.size : Int) := by omega
          have he : O.toList.isEmpty = false := by
            rw [← Bool.not_eq_true, List.isEmpty_iff, Lib.toList_data, List.eq_nil_iff_length_eq_zero, ← Lib.size_eq]; omega
          clear hOe tb hO2 ha HO
          go_wp2_with fail
          refine (JO.out _).mono ?_
          rintro e w22 ⟨v5, rfl, o5, b22⟩
          obtain ⟨x5, y5, rfl, _⟩ := OwnL.form o5
          have B22 : Hid (Below w.heap.size w w22) := B21.out.trans (b22.mono B21.out.size)
          have f5 := field_oid0 x5 zs.length y5 0 w22
          have HLw : Hid (Calls Tryd.prog 22 #[.slice x5 zs.length y5, .slice ga zl gc] w22 fun e w' => e = .returned (.bool true) ∧ Below w22.heap.size w22 w') := by
            rw [HZl.out]
            exact lwNums x5 ga zs y5 gc w22 (by have := HZ.out; omega) (OwnL.ints o5) (H21.out.below b22 H21.out.lt)
          clear b22 B21 o5 H21 JO
          go_wp2_with fail
          refine HLw.out.mono ?_
          rintro e w23 ⟨rfl, b23⟩
          have B23 : Hid (Below w.heap.size w w23) := B22.out.trans (b23.mono B22.out.size)
          clear b23 B22 f5 HLw
          go_wp2_with fail
          go_meet
          case rel => exact ⟨by first | rfl | (simp; omega), B23.out⟩
      case rest =>
        obtain ⟨rfl, hcut⟩ := hcut
        have B22 : Hid (Below w.heap.size w wc) := hcut
        clear hcut B18 H18 JS JR KS HO HZ HZl
        go_wp2_with fail
        refine (drawDerIntRead a1 len1 cap1 _ (by omega) (HC1.out _ B22.out) (HK1.out _ B22.out)).mono ?_
        rintro e w23 ⟨⟨P, hP, rfl⟩, b23⟩
        have B23 : Hid (Below w.heap.size w w23) := B22.out.trans (b23.mono B22.out.size)
        clear b23 B22
        go_wp2_with fail
        refine (drawDerOidRead a1 len1 cap1 _ (by omega) (HC1.out _ B23.out) (HK1.out _ B23.out) (fun a len cap V h1 h2 h3 => drawDerOid a len cap V h1 h2 h3)).mono ?_
        rintro e w24 ⟨⟨q, hq, rfl⟩, b24⟩
        have B24 : Hid (Below w.heap.size w w24) := B23.out.trans (b24.mono B23.out.size)
        clear b24 B23
        have hPm : P.size ≤ maxLen := by unfold maxLen; omega
        have hqm : q.size ≤ maxLen := by unfold maxLen; omega
        have M1 : Hid (∀ V : World, Calls Tryd.prog 21 #[.string P] V fun e w' => e = .returned (.agg #[.int .i64 (intR P).1, .int .i64 0, .int .i64 (intR P).2]) ∧ Below V.heap.size V w') := fun V => implIntRead P V hPm
        have M2 : Hid (∀ V : World, Calls Tryd.prog 26 #[.string P] V fun e w' => e = .returned (.agg #[.int .i64 (intR P).1, .int .i64 0, .int .i64 (intR P).2]) ∧ Below V.heap.size V w') := fun V => specIntRead P V hPm
        have M3 : Hid (∀ V : World, Calls Tryd.prog 23 #[.string q] V fun e w' => ∃ v', e = .returned (.agg #[v', .int .i64 (oidR q).2]) ∧ OwnL w' V.heap.size v' (oidR q).1 ∧ Below V.heap.size V w') := fun V => implOidRead q V hqm
        have M4 : Hid (∀ V : World, Calls Tryd.prog 27 #[.string q] V fun e w' => ∃ v', e = .returned (.agg #[v', .int .i64 (oidR q).2]) ∧ OwnL w' V.heap.size v' (oidR q).1 ∧ Below V.heap.size V w') := fun V => specOidRead q V hqm
        have hrl := oidR_len q
        generalize intR P = R1 at *
        generalize oidR q = R2 at *
        obtain ⟨r1, r2⟩ := R1
        obtain ⟨l2, z2⟩ := R2
        simp only at M1 M2 M3 M4 hrl
        have HRl : Hid (l2.length ≤ 10) := hrl
        clear hrl hPm hqm hP hq
        go_wp2_with fail
        refine (M1.out _).mono ?_
        rintro e w25 ⟨rfl, b25⟩
        have B25 : Hid (Below w.heap.size w w25) := B24.out.trans (b25.mono B24.out.size)
        clear b25 B24 M1
        go_wp2_with fail
        refine (M2.out _).mono ?_
        rintro e w26 ⟨rfl, b26⟩
        have B26 : Hid (Below w.heap.size w w26) := B25.out.trans (b26.mono B25.out.size)
        clear b26 B25 M2
        go_wp2_with fail
        refine (M3.out _).mono ?_
        rintro e w27 ⟨v6, rfl, o6, b27⟩
        obtain ⟨x6, y6, rfl, _⟩ := OwnL.form o6
        have B27 : Hid (Below w.heap.size w w27) := B26.out.trans (b27.mono B26.out.size)
        have f6 := field_oid1 x6 l2.length y6 z2 w27
        clear b27 B26 o6
        go_wp2_with fail
        refine (M4.out _).mono ?_
        rintro e w28 ⟨v7, rfl, o7, b28⟩
        obtain ⟨x7, y7, rfl, _⟩ := OwnL.form o7
        have B28 : Hid (Below w.heap.size w w28) := B27.out.trans (b28.mono B27.out.size)
        have f7 := field_oid1 x7 l2.length y7 z2 w28
        clear b28 B27 o7 f6
        go_wp2_with fail
        refine (M3.out _).mono ?_
        rintro e w29 ⟨v8, rfl, o8, b29⟩
        obtain ⟨x8, y8, rfl, _⟩ := OwnL.form o8
        have B29 : Hid (Below w.heap.size w w29) := B28.out.trans (b29.mono B28.out.size)
        have I29 : Hid (IsInts w29 x8 l2) := OwnL.ints o8
        have f8 := field_oid0 x8 l2.length y8 z2 w29
        clear b29 B28 o8 f7
        go_wp2_with fail
        refine (M4.out _).mono ?_
        rintro e w30 ⟨v9, rfl, o9, b30⟩
        obtain ⟨x9, y9, rfl, _⟩ := OwnL.form o9
        have B30 : Hid (Below w.heap.size w w30) := B29.out.trans (b30.mono B29.out.size)
        have HLw : Hid (Calls Tryd.prog 22 #[.slice x8 l2.length y8, .slice x9 l2.length y9] w30 fun e w' => e = .returned (.bool true) ∧ Below w30.heap.size w30 w') := lwNums x8 x9 l2 y8 y9 w30 (by have := HRl.out; omega) (I29.out.below b30 I29.out.lt) (OwnL.ints o9)
        have f9 := field_oid0 x9 l2.length y9 z2 w30
        clear b30 B29 o9 f8 I29
        go_wp2_with fail
        refine HLw.out.mono ?_
        rintro e w31 ⟨rfl, b31⟩
        have B31 : Hid (Below w.heap.size w w31) := B30.out.trans (b31.mono B30.out.size)
        clear b31 B30 HLw f9
        go_wp2_with fail
        go_ret
        exact ⟨rfl, B31.out⟩
end Go.Proofs.YtjllcflnmopnpaaDoor
