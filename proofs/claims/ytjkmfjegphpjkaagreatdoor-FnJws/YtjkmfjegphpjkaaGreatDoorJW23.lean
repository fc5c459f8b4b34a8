/- FnJws, walked: a drawn text comes back from its Base64; what a secret asks for comes back from its request, with its key; what is read of a text is told as the specification tells it. What the listed table gives the walks: the numbers of the rounds, each in its cell. What the listed variables give the walks: the kind of errors, the table. As many variables are read as are named. No program is named. -/
import Derived.Test.YtjkmfjegphpjkaaGreatDoorJW06
import Derived.Test.YtjkmfjegphpjkaaGreatDoorJW15
import Derived.Test.YtjkmfjegphpjkaaGreatDoorJW16
import Derived.Test.YtjkmfjegphpjkaaGreatDoorJW17
import Derived.Test.YtjkmfjegphpjkaaGreatDoorJW19
import Derived.Test.YtjkmfjegphpjkaaGreatDoorJW20
import Derived.Test.YtjkmfjegphpjkaaGreatDoorJW22
import Derived.Test.YtjkmfjegphpjkaaGreatDoorJW12
import Derived.Test.YtjkmfjegphpjkaaGreatDoorJW01
import Derived.Deep.Cut
import Derived.Deep.RegionHeld3
import Derived.Test.YtjkmfjegphpjkaaGreatDoorJW04
import Derived.ProofKit
import Derived.OpenShut
import Derived.LaidMore
import Derived.Stop.Joined
import Derived.OpenVars
import Derived.Lay
import Derived.Stop.LaidErr
import Derived.LaidSub
import Derived.ChangeShapes
import Derived.Test.YtjkmfjegphpjkaaGreatDoorRows
namespace Go.Proofs.YtjkmfjegphpjkaaGreatDoor
open Go.RowKit

theorem empty_of {b : ByteArray} (h : b.size = 0) : b.toList.isEmpty = true := by rw [List.isEmpty_iff, Lib.toList_data, List.eq_nil_iff_length_eq_zero, ← Lib.size_eq]; exact h
theorem empty_not {b : ByteArray} (h : b.size ≠ 0) : b.toList.isEmpty = false := by
  rw [← Bool.not_eq_true, List.isEmpty_iff, Lib.toList_data, List.eq_nil_iff_length_eq_zero, ← Lib.size_eq]; exact h
set_option maxHeartbeats 8000000 in
set_option maxRecDepth 100000 in
theorem jwsTop (w : World) (a0 : Option Addr) (len0 cap0 : Nat) (z0 : List Int) (w0 : IsRow .u8 w a0 len0 cap0 z0) (a1 : Option Addr) (len1 cap1 : Nat) (z1 : List Int) (w1' : IsRow .u8 w a1 len1 cap1 z1) (hk : Keys w ∧ ErrType w) :
    Calls Tryz.prog 3 #[.slice a0 len0 cap0, .slice a1 len1 cap1] w fun e w' => e = .returned (.bool true) ∧ Below w.heap.size w w' := by
  have hkp := hk.1.pos
  have hep := hk.2.pos
  have HKE : Hid (∀ V, Below w.heap.size w V → Keys V ∧ ErrType V) := fun V hV => ⟨hk.1.below hV hkp, hk.2.below hV hep⟩
  clear hk hkp hep
  have hl0 := w0.len_le
  have hl1 := w1'.len_le
  unfold maxLen at hl0 hl1
  obtain ⟨hc0, hk0⟩ := w0.code
  obtain ⟨hc1, hk1⟩ := w1'.code
  clear w0 w1'
  by_cases h0 : 1048576 < len0
  · clear hc0 hk0 hc1 hk1
    go_enter Tryz.func3, Tryz.ntmps3
    go_wp2
    go_ret
    exact ⟨rfl, Below.refl _ _⟩
  by_cases h1 : 1048576 < len1
  · clear hc0 hk0 hc1 hk1
    go_enter Tryz.func3, Tryz.ntmps3
    go_wp2
    go_ret
    exact ⟨rfl, Below.refl _ _⟩
  have HC0 : Hid (∀ V, Below w.heap.size w V → CodeAt a0 len0 V) := fun V hV => hc0.below hV hk0
  have HB0 : Hid (∀ V, Below w.heap.size w V → ∀ x, 0 < len0 → a0 = some x → x.block < V.heap.size) := fun V hV x hx hx' => Nat.lt_of_lt_of_le (hk0 x hx hx') hV.size
  have HC1 : Hid (∀ V, Below w.heap.size w V → CodeAt a1 len1 V) := fun V hV => hc1.below hV hk1
  have HB1 : Hid (∀ V, Below w.heap.size w V → ∀ x, 0 < len1 → a1 = some x → x.block < V.heap.size) := fun V hV x hx hx' => Nat.lt_of_lt_of_le (hk1 x hx hx') hV.size
  clear hc0 hk0 hc1 hk1
  go_enter Tryz.func3, Tryz.ntmps3
  go_wp2_with fail
  refine (drawBase64 a0 len0 cap0 _ (by omega) (HC0.out _ (Below.refl _ _)) (HB0.out _ (Below.refl _ _))).mono ?_
  rintro e w1 ⟨⟨t, ht, rfl⟩, hb1⟩
  have B1 : Hid (Below w.heap.size w w1) := hb1
  clear hb1
  have htm : t.size ≤ maxLen := by unfold maxLen; omega
  have hback := base64_back t
  have hbz := base64D_le t
  have HI : Hid (∀ V : World, Calls Tryz.prog 6 #[.string t] V fun e w' => e = .returned (.string (base64D t)) ∧ Below V.heap.size V w') := fun V => implBase64 t V htm
  have HS : Hid (∀ V : World, Calls Tryz.prog 7 #[.string t] V fun e w' => e = .returned (.string (base64D t)) ∧ Below V.heap.size V w') := fun V => specBase64 t V htm
  have HR : Hid (∀ V : World, (base64D t).size ≠ 0 → Calls Tryz.prog 8 #[.string (base64D t)] V fun e w' => e = .returned (.agg #[.string t, .int .i64 0, .int .i64 0]) ∧ Below V.heap.size V w') := fun V hn => by
    have h := implBase64Read (base64D t) V (by unfold maxLen; omega)
    rcases hback with h0 | h1
    · exact absurd h0 hn
    · rw [h1] at h; exact h
  generalize base64D t = b at *
  clear hback hbz
  go_wp2_with fail
  refine (HI.out _).mono ?_
  rintro e w2 ⟨rfl, hb2⟩
  have B2 : Hid (Below w.heap.size w w2) := B1.out.trans (hb2.mono B1.out.size)
  clear hb2 B1 HI
  go_upto_region 5 with fail
  go_cut [42] from 26 (fun s42 wx => s42 = .bool false ∧ Below w.heap.size w wx)
  case first =>
    go_wp2_with fail
    refine (HS.out _).mono ?_
    rintro e w3 ⟨rfl, hb3⟩
    have B3 : Hid (Below w.heap.size w w3) := B2.out.trans (hb3.mono B2.out.size)
    clear hb3 B2 HS
    by_cases hn : b.size = 0
    · have he := empty_of hn
      go_wp2_with fail
      go_meet
      case rel => exact ⟨by first | rfl | simp, B3.out⟩
    · have he := empty_not hn
      have HR' : Hid (∀ V : World, Calls Tryz.prog 8 #[.string b] V fun e w' => e = .returned (.agg #[.string t, .int .i64 0, .int .i64 0]) ∧ Below V.heap.size V w') := fun V => HR.out V hn
      clear HR
      go_wp2_with fail
      refine (HR'.out _).mono ?_
      rintro e w4 ⟨rfl, hb4⟩
      have B4 : Hid (Below w.heap.size w w4) := B3.out.trans (hb4.mono B3.out.size)
      clear hb4 B3
      go_wp2_with fail
      go_meet
      case rel => exact ⟨by first | rfl | simp, B4.out⟩
  case rest =>
  obtain ⟨rfl, hcut⟩ := hcut
  have B4 : Hid (Below w.heap.size w wc) := hcut
  clear hcut B2 HS HR
  generalize Value.string t = vt
  generalize Value.string b = vb
  clear ht htm
  go_wp2_with fail
  refine (drawBase64Read a1 len1 cap1 _ (by omega) (HC1.out _ B4.out) (HB1.out _ B4.out)).mono ?_
  rintro e w5 ⟨⟨u, hu, rfl⟩, hb5⟩
  have B5 : Hid (Below w.heap.size w w5) := B4.out.trans (hb5.mono B4.out.size)
  clear hb5 B4
  have hum : u.size ≤ maxLen := by unfold maxLen; omega
  have hxs : (readTD u).1.size ≤ 2 * u.size := readTD_size u
  have htold : (readTD u).2 = 0 → base64D (readTD u).1 = u := readTD_told
  have HI : Hid (∀ V : World, Calls Tryz.prog 8 #[.string u] V fun e w' => e = .returned (txtV (readTD u)) ∧ Below V.heap.size V w') := fun V => implBase64Read u V hum
  have HS : Hid (∀ V : World, Calls Tryz.prog 10 #[.string u] V fun e w' => e = .returned (txtV (readTD u)) ∧ Below V.heap.size V w') := fun V => specBase64Read u V hum
  generalize readTD u = R at *
  obtain ⟨x, c⟩ := R
  unfold txtV at HI HS
  simp only at HI HS hxs htold
  have hxm : x.size ≤ maxLen := by unfold maxLen; omega
  have HB : Hid (c = 0 → ∀ V : World, Calls Tryz.prog 6 #[.string x] V fun e w' => e = .returned (.string u) ∧ Below V.heap.size V w') := fun hc V => by have h := implBase64 x V hxm; rw [htold hc] at h; exact h
  clear htold hxm hxs hum hu
  go_wp2_with fail
  refine (HI.out _).mono ?_
  rintro e w6 ⟨rfl, hb6⟩
  have B6 : Hid (Below w.heap.size w w6) := B5.out.trans (hb6.mono B5.out.size)
  clear hb6 B5 HI
  obtain ⟨w7, hw7⟩ : ∃ w7, w7 = w6.alloc (.cells #[.string x, .int .i64 0, .int .i64 c] 26 (0, 0)) := ⟨_, rfl⟩
  have B7 : Hid (Below w.heap.size w w7) := by rw [hw7]; exact B6.out.alloc B6.out.size _
  have R7 : Hid (w7.heap[w6.heap.size]? = some (.cells [Value.string x, .int .i64 0, .int .i64 c].toArray 26 (0, 0))) := by rw [hw7]; exact heap_alloc_new w6 _
  go_upto_region 9 with fail
  rw [← hw7]
  clear hw7
  go_cut [62] from 47 (fun s62 wx => s62 = .bool false ∧ Below w.heap.size w wx)
  case first =>
    have q0 : w7.cell? ⟨w6.heap.size, 0, none⟩ = some (.string x) := rowFacts R7.out 0 _ rfl
    have q1 : w7.cell? ⟨w6.heap.size, 1, none⟩ = some (.int .i64 0) := rowFacts R7.out 1 _ rfl
    have q2 : w7.cell? ⟨w6.heap.size, 2, none⟩ = some (.int .i64 c) := rowFacts R7.out 2 _ rfl
    have HT : Hid (∀ V, Hid (Below w7.heap.size w7 V) → V.cell? ⟨w6.heap.size, 0, none⟩ = some (.string x) ∧ V.cell? ⟨w6.heap.size, 1, none⟩ = some (.int .i64 0) ∧ V.cell? ⟨w6.heap.size, 2, none⟩ = some (.int .i64 c)) := fun V hV => by
      have hP : V.heap[w6.heap.size]? = _ := (hV.out.block _ (heap_lt R7.out)).trans R7.out
      exact ⟨rowFacts hP 0 _ rfl, rowFacts hP 1 _ rfl, rowFacts hP 2 _ rfl⟩
    have T2 : Hid (∀ V, Hid (Below w7.heap.size w7 V) → Calls Tryz.prog 10 #[.string u] V fun e W => e = .returned (.agg #[.string x, .int .i64 0, .int .i64 c]) ∧ Hid (Below w7.heap.size w7 W) ∧ (W.cell? ⟨w6.heap.size, 0, none⟩ = some (.string x) ∧ W.cell? ⟨w6.heap.size, 1, none⟩ = some (.int .i64 0) ∧ W.cell? ⟨w6.heap.size, 2, none⟩ = some (.int .i64 c))) := fun V hV => by
      refine (HS.out V).mono ?_
      rintro e W ⟨rfl, hb⟩
      have hbW : Below w7.heap.size w7 W := hV.out.trans (hb.mono hV.out.size)
      exact ⟨rfl, hbW, HT.out W hbW⟩
    have HD7 : Hid (Below w7.heap.size w7 w7.drew) := (Below.refl _ w7).drew
    by_cases hcd : c = 0
    · subst hcd
      have T3 : Hid (∀ V, Hid (Below w7.heap.size w7 V) → Calls Tryz.prog 6 #[.string x] V fun e W => e = .returned (.string u) ∧ Hid (Below w7.heap.size w7 W) ∧ (W.cell? ⟨w6.heap.size, 0, none⟩ = some (.string x) ∧ W.cell? ⟨w6.heap.size, 1, none⟩ = some (.int .i64 0) ∧ W.cell? ⟨w6.heap.size, 2, none⟩ = some (.int .i64 0))) := fun V hV => by
        refine (HB.out rfl V).mono ?_
        rintro e W ⟨rfl, hb⟩
        have hbW : Below w7.heap.size w7 W := hV.out.trans (hb.mono hV.out.size)
        exact ⟨rfl, hbW, HT.out W hbW⟩
      clear HT HS HB
      go_region_held3 (fun V => V.cell? ⟨w6.heap.size, 0, none⟩ = some (.string x) ∧ V.cell? ⟨w6.heap.size, 1, none⟩ = some (.int .i64 0) ∧ V.cell? ⟨w6.heap.size, 2, none⟩ = some (.int .i64 0)) (first | (refine ⟨?_, ?_, ?_⟩ <;> assumption) | go_keep)
        (first | (go_at_call 10; refine (T2.out _ (by assumption)).mono ?_; rintro r V1 ⟨rfl, kV1, x0, x1, x2⟩) | (go_at_call 6; refine (T3.out _ (by assumption)).mono ?_; rintro r V2 ⟨rfl, kV2, y0, y1, y2⟩))
      have BV : Hid (Below w.heap.size w V2) := B7.out.trans (kV2.out.mono B7.out.size)
      go_wp2_with fail
      go_meet
      case rel => exact ⟨by first | rfl | simp, BV.out⟩
    · have hz : (c == 0) = false := by rw [beq_eq_false_iff_ne]; exact hcd
      clear HT HB
      refine wp_region_held_drew (S := fun V => V.cell? ⟨w6.heap.size, 0, none⟩ = some (.string x) ∧ V.cell? ⟨w6.heap.size, 1, none⟩ = some (.int .i64 0) ∧ V.cell? ⟨w6.heap.size, 2, none⟩ = some (.int .i64 c)) (by kernel_rfl) ?_ (fun hHeld => ?_)
      · exact ⟨q0, q1, q2⟩
      refine wpAnyH_take (i := 0) (oi := ⟨some 47, _, _, _, _, _⟩) (v := ?_) rfl (by kernel_rfl) (by kernel_rfl) (by kernel_rfl) (fun _ _ _ h => h) (Or.inl ⟨by kernel_rfl, ?_⟩) (by assumption) ?_
      rotate_left
      · (intro w hSw; (try dsimp only at hSw); go_simp; try with_reducible rfl)
      (try simp only [Act.put, List.setIfInBounds_toArray, List.set_cons_zero, List.set_cons_succ])
      refine wpAnyH_take (i := 1) (oi := ⟨some 48, _, _, _, _, _⟩) (v := ?_) rfl (by kernel_rfl) (by kernel_rfl) (by kernel_rfl) (fun _ _ _ h => h) (Or.inl ⟨by kernel_rfl, ?_⟩) (by assumption) ?_
      rotate_left
      · (intro w hSw; (try dsimp only at hSw); go_simp; try with_reducible rfl)
      (try simp only [Act.put, List.setIfInBounds_toArray, List.set_cons_zero, List.set_cons_succ])
      refine wpAnyH_ready (rs := [2]) (by kernel_rfl) (by simp) ?_
      refine AllReadyH.cons (o := ⟨some 49, _, _, _, _, _⟩) rfl (fun K hK => ?_) AllReadyH.nil
      go_simp
      refine (T2.out _ HD7).mono ?_
      rintro r V1 ⟨rfl, kV1, x0, x1, x2⟩
      refine hK.out _ _ ?_ (fun hHeld => ?_)
      · exact ⟨x0, x1, x2⟩
      clear hK K
      refine wpAnyH_take (i := 3) (oi := ⟨some 50, _, _, _, _, _⟩) (v := ?_) rfl (by kernel_rfl) (by kernel_rfl) (by kernel_rfl) (fun _ _ _ h => h) (Or.inl ⟨by kernel_rfl, ?_⟩) (by assumption) ?_
      rotate_left
      · (intro w hSw; (try dsimp only at hSw); go_simp; try with_reducible rfl)
      (try simp only [Act.put, List.setIfInBounds_toArray, List.set_cons_zero, List.set_cons_succ])
      refine wpAnyH_take (i := 4) (oi := ⟨some 51, _, _, _, _, _⟩) (v := ?_) rfl (by kernel_rfl) (by kernel_rfl) (by kernel_rfl) (fun _ _ _ h => h) (Or.inl ⟨by kernel_rfl, ?_⟩) (by assumption) ?_
      rotate_left
      · (intro w hSw; (try dsimp only at hSw); go_simp; try with_reducible rfl)
      (try simp only [Act.put, List.setIfInBounds_toArray, List.set_cons_zero, List.set_cons_succ])
      refine wpAnyH_take (i := 5) (oi := ⟨some 52, _, _, _, _, _⟩) (v := ?_) rfl (by kernel_rfl) (by kernel_rfl) (by kernel_rfl) (fun _ _ _ h => h) (Or.inl ⟨by kernel_rfl, ?_⟩) (by assumption) ?_
      rotate_left
      · (intro w hSw; (try dsimp only at hSw); go_simp; try with_reducible rfl)
      (try simp only [Act.put, List.setIfInBounds_toArray, List.set_cons_zero, List.set_cons_succ])
      refine wpAnyH_take (i := 6) (oi := ⟨some 53, _, _, _, _, _⟩) (v := ?_) rfl (by kernel_rfl) (by kernel_rfl) (by kernel_rfl) (fun _ _ _ h => h) (Or.inl ⟨by kernel_rfl, ?_⟩) (by assumption) ?_
      rotate_left
      · (intro w hSw; (try dsimp only at hSw); go_simp; try with_reducible rfl)
      (try simp only [Act.put, List.setIfInBounds_toArray, List.set_cons_zero, List.set_cons_succ])
      refine wpAnyH_take (i := 7) (oi := ⟨some 54, _, _, _, _, _⟩) (v := ?_) rfl (by kernel_rfl) (by kernel_rfl) (by kernel_rfl) (fun _ _ _ h => h) (Or.inl ⟨by kernel_rfl, ?_⟩) (by assumption) ?_
      rotate_left
      · (intro w hSw; (try dsimp only at hSw); go_simp; try with_reducible rfl)
      (try simp only [Act.put, List.setIfInBounds_toArray, List.set_cons_zero, List.set_cons_succ])
      refine wpAnyH_take (i := 8) (oi := ⟨some 55, _, _, _, _, _⟩) (v := ?_) rfl (by kernel_rfl) (by kernel_rfl) (by kernel_rfl) (fun _ _ _ h => h) (Or.inl ⟨by kernel_rfl, ?_⟩) (by assumption) ?_
      rotate_left
      · (intro w hSw; (try dsimp only at hSw); go_simp; try with_reducible rfl)
      (try simp only [Act.put, List.setIfInBounds_toArray, List.set_cons_zero, List.set_cons_succ])
      refine wpAnyH_take (i := 9) (oi := ⟨some 56, _, _, _, _, _⟩) (v := undef) rfl (by kernel_rfl) (by kernel_rfl) (by kernel_rfl) (fun _ _ _ h => h) (Or.inr ⟨by kernel_rfl, rfl⟩) (by assumption) ?_
      (try simp only [Act.put, List.setIfInBounds_toArray, List.set_cons_zero, List.set_cons_succ])
      refine wpAnyH_take (i := 10) (oi := ⟨some 57, _, _, _, _, _⟩) (v := undef) rfl (by kernel_rfl) (by kernel_rfl) (by kernel_rfl) (fun _ _ _ h => h) (Or.inr ⟨by kernel_rfl, rfl⟩) (by assumption) ?_
      (try simp only [Act.put, List.setIfInBounds_toArray, List.set_cons_zero, List.set_cons_succ])
      refine wpAnyH_take (i := 11) (oi := ⟨some 58, _, _, _, _, _⟩) (v := undef) rfl (by kernel_rfl) (by kernel_rfl) (by kernel_rfl) (fun _ _ _ h => h) (Or.inr ⟨by kernel_rfl, rfl⟩) (by assumption) ?_
      (try simp only [Act.put, List.setIfInBounds_toArray, List.set_cons_zero, List.set_cons_succ])
      refine wpAnyH_take (i := 12) (oi := ⟨some 59, _, _, _, _, _⟩) (v := undef) rfl (by kernel_rfl) (by kernel_rfl) (by kernel_rfl) (fun _ _ _ h => h) (Or.inr ⟨by kernel_rfl, rfl⟩) (by assumption) ?_
      (try simp only [Act.put, List.setIfInBounds_toArray, List.set_cons_zero, List.set_cons_succ])
      refine wpAnyH_take (i := 13) (oi := ⟨some 60, _, _, _, _, _⟩) (v := undef) rfl (by kernel_rfl) (by kernel_rfl) (by kernel_rfl) (fun _ _ _ h => h) (Or.inr ⟨by kernel_rfl, rfl⟩) (by assumption) ?_
      (try simp only [Act.put, List.setIfInBounds_toArray, List.set_cons_zero, List.set_cons_succ])
      refine wpAnyH_take (i := 14) (oi := ⟨some 61, _, _, _, _, _⟩) (v := ?_) rfl (by kernel_rfl) (by kernel_rfl) (by kernel_rfl) (fun _ _ _ h => h) (Or.inl ⟨by kernel_rfl, ?_⟩) (by assumption) ?_
      rotate_left
      · (intro w hSw; (try dsimp only at hSw); go_simp; try with_reducible rfl)
      (try simp only [Act.put, List.setIfInBounds_toArray, List.set_cons_zero, List.set_cons_succ])
      refine wpAnyH_take (i := 15) (oi := ⟨some 62, _, _, _, _, _⟩) (v := ?_) rfl (by kernel_rfl) (by kernel_rfl) (by kernel_rfl) (fun _ _ _ h => h) (Or.inl ⟨by kernel_rfl, ?_⟩) (by assumption) ?_
      rotate_left
      · (intro w hSw; (try dsimp only at hSw); go_simp; try with_reducible rfl)
      (try simp only [Act.put, List.setIfInBounds_toArray, List.set_cons_zero, List.set_cons_succ])
      refine wpAnyH_done (by kernel_rfl) ?_ _
      have BV : Hid (Below w.heap.size w V1) := B7.out.trans (kV1.out.mono B7.out.size)
      go_wp2_with fail
      go_meet
      case rel => exact ⟨by first | rfl | simp, BV.out⟩
  case rest =>
  obtain ⟨rfl, hcut⟩ := hcut
  have B8 : Hid (Below w.heap.size w wc) := hcut
  clear hcut R7 B6 B7 HS HB
  generalize Value.string u = vu
  go_wp2_with fail
  refine (drawJwsSign a0 len0 cap0 _ (by omega) (HC0.out _ B8.out) (HB0.out _ B8.out)).mono ?_
  rintro e w9 ⟨⟨s, n, url, body, hs, hn, hurl, hbody, rfl⟩, hb9⟩
  have B9 : Hid (Below w.heap.size w w9) := B8.out.trans (hb9.mono B8.out.size)
  clear hb9 B8
  have HI : Hid (∀ V : World, Keys V → Calls Tryz.prog 12 #[.int .i64 s, .int .i64 n, .string url, .string body] V fun e w' => e = .returned (.string (jSign s n url body)) ∧ Below V.heap.size V w') := fun V hV => implJwsSign s n url body V hn.1 hn.2 (by unfold maxLen; omega) (by unfold maxLen; omega) hV
  have HS : Hid (∀ V : World, Calls Tryz.prog 13 #[.int .i64 s, .int .i64 n, .string url, .string body] V fun e w' => e = .returned (.string (jSign s n url body)) ∧ Below V.heap.size V w') := fun V => specJwsSign s n url body V hs.1 hs.2 hn.1 hn.2 (by omega) (by omega)
  have HP : Hid (∀ V : World, Calls Tryz.prog 15 #[.int .i64 s] V fun e w' => e = .returned (.int .i64 (pubA s)) ∧ Below V.heap.size V w') := fun V => (specPublic s V).mono fun e w' h => ⟨h.1, by rw [h.2]; exact Below.refl _ _⟩
  have hread := jSign_read s n url body
  generalize jSign s n url body = j at *
  generalize pubA s = k at *
  obtain ⟨hjr⟩ : Nonempty (j.size = 0 ∨ ∃ (ee ss : Int), j.size ≠ 0 ∧ j.size ≤ 5000 ∧ jwsR j = (⟨k, n, url, body, ee, ss⟩, 0)) := ⟨by
    rcases hread with rfl | ⟨ee, ss, h1, h2, h3, _⟩
    · exact .inl rfl
    · exact .inr ⟨ee, ss, by omega, h2, h3⟩⟩
  have HJR : Hid _ := hjr
  clear hread hjr hs hn hurl hbody
  go_wp2_with fail
  refine (HI.out _ (HKE.out _ B9.out).1).mono ?_
  rintro e w10 ⟨rfl, hb10⟩
  have B10 : Hid (Below w.heap.size w w10) := B9.out.trans (hb10.mono B9.out.size)
  clear hb10 B9 HI
  go_wp2_with fail
  refine (HS.out _).mono ?_
  rintro e w11 ⟨rfl, hb11⟩
  have B11 : Hid (Below w.heap.size w w11) := B10.out.trans (hb11.mono B10.out.size)
  clear hb11 B10 HS
  go_upto_if 83 with fail
  go_cut [14] from 83 (fun _ wx => Below w.heap.size w wx)
  case first =>
    rcases HJR.out with hj0 | ⟨ee, ss, hj0, hjz, hjr⟩
    · have he := empty_of hj0
      rw [he]
      go_wp2_with fail
      go_meet
      case rel => exact B11.out
    · have he := empty_not hj0
      have HRd : Hid (∀ V : World, Below w.heap.size w V → Calls Tryz.prog 14 #[.string j] V fun e w' => e = .returned (.agg #[.int .i64 k, .int .i64 n, .string url, .string body, .int .i64 k, .int .i64 ee, .int .i64 ss, .int .i64 0]) ∧ Below V.heap.size V w') := fun V hV => by
        have h := implJwsRead j V (by unfold maxLen; omega) (HKE.out V hV).1 (HKE.out V hV).2
        rw [hjr] at h
        exact h
      rw [he]
      clear hjr hjz hj0 he
      go_wp2_with fail
      refine (HRd.out _ B11.out).mono ?_
      rintro e w12 ⟨rfl, hb12⟩
      have B12 : Hid (Below w.heap.size w w12) := B11.out.trans (hb12.mono B11.out.size)
      clear hb12 B11 HRd
      obtain ⟨w13, hw13⟩ : ∃ w13, w13 = w12.alloc (.cells #[.int .i64 k, .int .i64 n, .string url, .string body, .int .i64 k, .int .i64 ee, .int .i64 ss, .int .i64 0] 36 (0, 0)) := ⟨_, rfl⟩
      have B13 : Hid (Below w.heap.size w w13) := by rw [hw13]; exact B12.out.alloc B12.out.size _
      have R13 : Hid (w13.heap[w12.heap.size]? = some (.cells [Value.int .i64 k, .int .i64 n, .string url, .string body, .int .i64 k, .int .i64 ee, .int .i64 ss, .int .i64 0].toArray 36 (0, 0))) := by rw [hw13]; exact heap_alloc_new w12 _
      go_upto_region 17 with fail
      rw [← hw13]
      clear hw13
      have q0 : w13.cell? ⟨w12.heap.size, 0, none⟩ = some (.int .i64 k) := rowFacts R13.out 0 _ rfl
      have q1 : w13.cell? ⟨w12.heap.size, 1, none⟩ = some (.int .i64 n) := rowFacts R13.out 1 _ rfl
      have q2 : w13.cell? ⟨w12.heap.size, 2, none⟩ = some (.string url) := rowFacts R13.out 2 _ rfl
      have q3 : w13.cell? ⟨w12.heap.size, 3, none⟩ = some (.string body) := rowFacts R13.out 3 _ rfl
      have q7 : w13.cell? ⟨w12.heap.size, 7, none⟩ = some (.int .i64 0) := rowFacts R13.out 7 _ rfl
      have T2 : Hid (∀ V, Hid (Below w13.heap.size w13 V) → Calls Tryz.prog 15 #[.int .i64 s] V fun e W => e = .returned (.int .i64 k) ∧ Hid (Below w13.heap.size w13 W) ∧ (W.cell? ⟨w12.heap.size, 0, none⟩ = some (.int .i64 k) ∧ W.cell? ⟨w12.heap.size, 1, none⟩ = some (.int .i64 n) ∧ W.cell? ⟨w12.heap.size, 2, none⟩ = some (.string url) ∧ W.cell? ⟨w12.heap.size, 3, none⟩ = some (.string body) ∧ W.cell? ⟨w12.heap.size, 7, none⟩ = some (.int .i64 0))) := fun V hV => by
        refine (HP.out V).mono ?_
        rintro e W ⟨rfl, hb⟩
        have hbW : Below w13.heap.size w13 W := hV.out.trans (hb.mono hV.out.size)
        have hP : W.heap[w12.heap.size]? = _ := (hbW.block _ (heap_lt R13.out)).trans R13.out
        exact ⟨rfl, hbW, rowFacts hP 0 _ rfl, rowFacts hP 1 _ rfl, rowFacts hP 2 _ rfl, rowFacts hP 3 _ rfl, rowFacts hP 7 _ rfl⟩
      have HD13 : Hid (Below w13.heap.size w13 w13.drew) := (Below.refl _ w13).drew
      have e1 : (k != k) = false := by simp
      have e2 : (n != n) = false := by simp
      go_region_held3 (fun V => V.cell? ⟨w12.heap.size, 0, none⟩ = some (.int .i64 k) ∧ V.cell? ⟨w12.heap.size, 1, none⟩ = some (.int .i64 n) ∧ V.cell? ⟨w12.heap.size, 2, none⟩ = some (.string url) ∧ V.cell? ⟨w12.heap.size, 3, none⟩ = some (.string body) ∧ V.cell? ⟨w12.heap.size, 7, none⟩ = some (.int .i64 0)) (first | (refine ⟨?_, ?_, ?_, ?_, ?_⟩ <;> assumption) | go_keep)
        (first | (go_at_call 15; refine (T2.out _ (by assumption)).mono ?_; rintro r V1 ⟨rfl, kV1, x0, x1, x2, x3, x7⟩))
      have BV : Hid (Below w.heap.size w V1) := B13.out.trans (kV1.out.mono B13.out.size)
      go_wp2_with fail
      go_meet
      case rel => exact BV.out
  case rest =>
  have B12 : Hid (Below w.heap.size w wc) := hcut
  clear hcut HP HJR B11
  go_wp2_with fail
  refine (drawJwsRead a1 len1 cap1 _ (by omega) (HC1.out _ B12.out) (HB1.out _ B12.out)).mono ?_
  rintro e w13 ⟨⟨v, hv, rfl⟩, hb13⟩
  have B13 : Hid (Below w.heap.size w w13) := B12.out.trans (hb13.mono B12.out.size)
  clear hb13 B12
  have hvm : v.size ≤ maxLen := by unfold maxLen; omega
  have HI : Hid (∀ V : World, Keys V → ErrType V → Calls Tryz.prog 14 #[.string v] V fun e w' => e = .returned (Rq.outV (jwsR v)) ∧ Below V.heap.size V w') := fun V h1 h2 => implJwsRead v V hvm h1 h2
  have HS : Hid (∀ V : World, Calls Tryz.prog 17 #[.string v] V fun e w' => e = .returned (Rq.outV (jwsR v)) ∧ Below V.heap.size V w') := fun V => specJwsRead v V hvm
  generalize jwsR v = R at *
  obtain ⟨⟨key, nonce, url2, body2, se, ss⟩, c2⟩ := R
  unfold Rq.outV at HI HS
  simp only at HI HS
  go_wp2_with fail
  refine (HI.out _ (HKE.out _ B13.out).1 (HKE.out _ B13.out).2).mono ?_
  rintro e w14 ⟨rfl, hb14⟩
  have B14 : Hid (Below w.heap.size w w14) := B13.out.trans (hb14.mono B13.out.size)
  clear hb14 B13 HI
  go_wp2_with fail
  refine (HS.out _).mono ?_
  rintro e w15 ⟨rfl, hb15⟩
  have B15 : Hid (Below w.heap.size w w15) := B14.out.trans (hb15.mono B14.out.size)
  clear hb15 B14 HS
  have f1 : (key == key) = true := by simp
  have f2 : (nonce == nonce) = true := by simp
  have f3 : (se == se) = true := by simp
  have f4 : (ss == ss) = true := by simp
  have f5 : (c2 == c2) = true := by simp
  go_wp2
  go_ret
  exact ⟨rfl, B15.out⟩
end Go.Proofs.YtjkmfjegphpjkaaGreatDoor
namespace Go.Proofs.YtjkmfjegphpjkaaGreatDoor
open Go.ChangeShapes Go.WideShapes Go.ChangeAt Go.RowKit

theorem key_gv : Tryz.prog.globalNamed "loop.example/g00371/impl.roundNumbers" = some 1 := by kernel_rfl
theorem key_gt : (Tryz.prog.globals[1]?).map (·.type) = some 161 := by kernel_rfl
theorem key_c : Tryz.prog.cellsOf 110 = 1 := by kernel_rfl
theorem keyLaid {H : Type} : (Rows.laid_loop_example_g00371_impl_roundNumbers : DataW H) = .agg (keyL.map fun n : Nat => .lit (.int .u32 (n : Int))) := rfl
theorem key_num (k : Nat) (h : k < 64) : ((keyL.getD k 0 : Nat) : Int) = uI (kAt k) := by
  have hl : k < keyL.length := h
  have hb : ∀ n ∈ keyL, n < 4294967296 := by decide
  have := hb _ (List.getElem_mem hl)
  unfold kAt uI
  rw [BitVec.toNat_ofNat, List.getD, List.getElem?_eq_getElem hl]
  simp only [Option.getD_some]
  rw [Nat.mod_eq_of_lt (by simpa using this)]
theorem keys_of_trod {W : World} {enc : TypeId × Value → Unit} {base g0 : Nat} {sp : Nat → Bool} {t0 : TypeId} {cs0 : Array Value} {f0 : Nat} {p0 : List MemPlace}
    (hg0 : Tryz.prog.globalNamed "loop.example/g00371/impl.roundNumbers" = some g0) (ht0 : (Tryz.prog.globals[g0]?).map (·.type) = some t0) (hv0 : W.var? Tryz.prog "loop.example/g00371/impl.roundNumbers" = some cs0)
    (hd0 : DataW.trod enc Tryz.prog W base sp false f0 t0 cs0.toList = some (Rows.laid_loop_example_g00371_impl_roundNumbers, p0)) : Keys W := by
  obtain rfl := Option.some.inj (key_gv.symm.trans hg0)
  obtain rfl := Option.some.inj (key_gt.symm.trans ht0)
  obtain ⟨xs, m1, rfl, hx1, hlen, hn, hel⟩ := DataW.trod_array Tryz.underlying161 hd0
  rw [keyLaid] at hx1
  simp only [Prod.mk.injEq, DataW.agg.injEq] at hx1
  intro i hi
  have h1 := hel i hi
  have hxi : i < xs.length := by omega
  rw [List.getElem?_eq_getElem hxi] at h1
  obtain ⟨k, e1, e2, _⟩ := DataW.trod_int Tryz.underlying110 h1
  have h2 : xs[i].1 = .lit (.int .u32 (uI (kAt i))) := by
    have h3 : (xs.map (·.1))[i]? = (keyL.map fun n : Nat => DataW.lit (.int .u32 (n : Int)))[i]? := by rw [← hx1.1]
    rw [List.getElem?_map, List.getElem?_map, List.getElem?_eq_getElem hxi, List.getElem?_eq_getElem (show i < keyL.length from hi)] at h3
    have h4 : xs[i].1 = _ := Option.some.inj h3
    rw [h4, ← key_num i hi, List.getD, List.getElem?_eq_getElem (show i < keyL.length from hi)]
    rfl
  rw [e2] at h2
  have hk : k = uI (kAt i) := by simpa using h2
  subst hk
  have hc := World.var?_cell hg0 hv0 i
  rw [hc]
  rw [key_c, Nat.mul_one] at e1
  have h5 := congrArg (fun l => l[0]?) e1
  simp only [List.getElem?_take, List.getElem?_drop] at h5
  simpa using h5
theorem keys_of_laid {W : World} (h : laidMetH Tryz.prog [("loop.example/g00371/impl.roundNumbers", Rows.laid_loop_example_g00371_impl_roundNumbers)] W) : Keys W := by
  rw [MakeChecks.laidMetH_plain _ _ _ (by kernel_rfl)] at h
  obtain ⟨ps, ⟨g0, t0, cs0, f0, p0, q0, hg0, ht0, hv0, hd0, _⟩, _⟩ := h
  exact keys_of_trod hg0 ht0 hv0 hd0
end Go.Proofs.YtjkmfjegphpjkaaGreatDoor
namespace Go.Proofs.YtjkmfjegphpjkaaGreatDoor
open Go.ChangeShapes Go.WideShapes Go.ChangeAt Go.RowKit

theorem gvJ_errorType : Tryz.prog.globalNamed "errors.errorType" = some 0 := by kernel_rfl
theorem cutRtJ : (Tryz.prog.cutTypes.find? (·.1 == "internal/reflectlite.rtype")).map (·.2) = some 147 := by kernel_rfl
theorem oneRowJ : ((List.range 200).filter fun t => Tryz.prog.rowNamed t [101, 114, 114, 111, 114]) = [99] := by kernel_rfl
theorem sizeTypesJ : Tryz.prog.types.size = 200 := by kernel_rfl
theorem errType_ofJ {W : World} (h : handlesMet Tryz.prog [("errors.errorType", Rows.laid_errors_errorType)] W) : ErrType W := by
  obtain ⟨name, u, ty, e1, e2, e3, e4, e5⟩ := h _ (List.mem_singleton.2 rfl)
  have en : name = [101, 114, 114, 111, 114] := (Option.some.inj e1).symm
  subst en
  obtain rfl := Option.some.inj (cutRtJ.symm.trans e2)
  have hm : ty ∈ (List.range 200).filter fun t => Tryz.prog.rowNamed t [101, 114, 114, 111, 114] := List.mem_filter.2 ⟨List.mem_range.2 (by rw [← sizeTypesJ]; exact e3), e4⟩
  rw [oneRowJ] at hm
  obtain rfl := List.mem_singleton.1 hm
  have hh : typeHandle Tryz.prog 99 = .pointer (some ⟨5, 99, none⟩) := by kernel_rfl
  rw [hh] at e5
  unfold ErrType
  simpa using World.var?_cell gvJ_errorType e5 0
set_option maxRecDepth 100000 in
set_option maxHeartbeats 2000000 in
theorem laid_J2 {W : World} (h : laidMetH Tryz.prog [("unicode/utf8.acceptRanges", Rows.laid_unicode_utf8_acceptRanges), ("errors.errorType", Rows.laid_errors_errorType), ("loop.example/g00371/impl.roundNumbers", Rows.laid_loop_example_g00371_impl_roundNumbers), ("unicode/utf8.first", Rows.laid_unicode_utf8_first)] W) : Keys W ∧ ErrType W := by
  obtain ⟨h1, h2⟩ := laidMetH_iff.1 h
  have hty : ErrType W := errType_ofJ h2
  replace h1 : laidMet Tryz.prog [("unicode/utf8.acceptRanges", Rows.laid_unicode_utf8_acceptRanges), ("loop.example/g00371/impl.roundNumbers", Rows.laid_loop_example_g00371_impl_roundNumbers), ("unicode/utf8.first", Rows.laid_unicode_utf8_first)] W := h1
  obtain ⟨ps, ⟨gA, tA, csA, fA, pA, qA, hgA, htA, hvA, hdA, ⟨gK, tK, csK, fK, pK, qK, hgK, htK, hvK, hdK, ⟨gF, tF, csF, fF, pF, qF, hgF, htF, hvF, hdF, hn, eF⟩, eK⟩, eA⟩, hnd, hrows⟩ := h1
  exact ⟨keys_of_trod hgK htK hvK hdK, hty⟩
end Go.Proofs.YtjkmfjegphpjkaaGreatDoor
namespace Go.Proofs.YtjkmfjegphpjkaaGreatDoor

theorem trodVars_len {H : Type} {enc : TypeId × Value → H} {P : Program} {w : World} {spare : Nat → Bool} : ∀ {ns : List String} {gs : List (DataW H)} {ps : List MemPlace}, DataW.TrodVars enc P w spare ns gs ps → gs.length = ns.length
  | [], [], _, _ => rfl
  | [], _ :: _, _, h => by simp [DataW.TrodVars] at h
  | _ :: _, [], _, h => by simp [DataW.TrodVars] at h
  | _ :: _, _ :: _, _, h => by
    obtain ⟨g, t, cs, fuel, p, q, _, _, _, _, hs, _⟩ := h
    simp only [List.length_cons, trodVars_len hs]
end Go.Proofs.YtjkmfjegphpjkaaGreatDoor
