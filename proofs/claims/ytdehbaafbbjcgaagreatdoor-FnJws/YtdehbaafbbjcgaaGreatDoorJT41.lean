/- FnJws, walked: a drawn text comes back from its Base64; what a secret asks for comes back from its request, with its key; what is read of a text is told as the specification tells it. -/
import Derived.Test.YtdehbaafbbjcgaaGreatDoorJT11
import Derived.Test.YtdehbaafbbjcgaaGreatDoorJT28
import Derived.Test.YtdehbaafbbjcgaaGreatDoorJT29
import Derived.Test.YtdehbaafbbjcgaaGreatDoorJT31
import Derived.Test.YtdehbaafbbjcgaaGreatDoorJT34
import Derived.Test.YtdehbaafbbjcgaaGreatDoorJT35
import Derived.Test.YtdehbaafbbjcgaaGreatDoorJT40
import Derived.Test.YtdehbaafbbjcgaaGreatDoorJT22
import Derived.Test.YtdehbaafbbjcgaaGreatDoorJT03
import Derived.Deep.Cut
import Derived.Deep.RegionHeld3
namespace Go.Proofs.YtdehbaafbbjcgaaGreatDoor
open Go.RowKit

theorem empty_of {b : ByteArray} (h : b.size = 0) : b.toList.isEmpty = true := by rw [List.isEmpty_iff, Lib.toList_data, List.eq_nil_iff_length_eq_zero, ← Lib.size_eq]; exact h
theorem empty_not {b : ByteArray} (h : b.size ≠ 0) : b.toList.isEmpty = false := by
  rw [← Bool.not_eq_true, List.isEmpty_iff, Lib.toList_data, List.eq_nil_iff_length_eq_zero, ← Lib.size_eq]; exact h
set_option maxHeartbeats 8000000 in
set_option maxRecDepth 100000 in
theorem jwsTop (w : World) (a0 : Option Addr) (len0 cap0 : Nat) (z0 : List Int) (w0 : IsRow .u8 w a0 len0 cap0 z0) (a1 : Option Addr) (len1 cap1 : Nat) (z1 : List Int) (w1' : IsRow .u8 w a1 len1 cap1 z1) (hk : Keys w ∧ ErrType w) :
    Calls Tryz.prog 3 #[.slice a0 len0 cap0, .slice a1 len1 cap1] w fun e w' => e = .returned (.bool true) ∧ Below w.heap.size w w' := by
  have hkp := hk.1.pos
  have hep := hk.2.pos
  have HKE : Hid (∀ V, Below w.heap.size w V → Keys V ∧ ErrType V) := fun V hV => ⟨hk.1.below hV hkp, hk.2.below hV hep⟩
  clear hk hkp hep
  have hl0 := w0.len_le
  have hl1 := w1'.len_le
  unfold maxLen at hl0 hl1
  obtain ⟨hc0, hk0⟩ := w0.code
  obtain ⟨hc1, hk1⟩ := w1'.code
  clear w0 w1'
  by_cases h0 : 1048576 < len0
  · clear hc0 hk0 hc1 hk1
    go_enter Tryz.func3, Tryz.ntmps3
    go_wp2
    go_ret
    exact ⟨rfl, Below.refl _ _⟩
  by_cases h1 : 1048576 < len1
  · clear hc0 hk0 hc1 hk1
    go_enter Tryz.func3, Tryz.ntmps3
    go_wp2
    go_ret
    exact ⟨rfl, Below.refl _ _⟩
  have HC0 : Hid (∀ V, Below w.heap.size w V → CodeAt a0 len0 V) := fun V hV => hc0.below hV hk0
  have HB0 : Hid (∀ V, Below w.heap.size w V → ∀ x, 0 < len0 → a0 = some x → x.block < V.heap.size) := fun V hV x hx hx' => Nat.lt_of_lt_of_le (hk0 x hx hx') hV.size
  have HC1 : Hid (∀ V, Below w.heap.size w V → CodeAt a1 len1 V) := fun V hV => hc1.below hV hk1
  have HB1 : Hid (∀ V, Below w.heap.size w V → ∀ x, 0 < len1 → a1 = some x → x.block < V.heap.size) := fun V hV x hx hx' => Nat.lt_of_lt_of_le (hk1 x hx hx') hV.size
  clear hc0 hk0 hc1 hk1
  go_enter Tryz.func3, Tryz.ntmps3
  go_wp2_with fail
  refine (drawBase64 a0 len0 cap0 _ (by omega) (HC0.out _ (Below.refl _ _)) (HB0.out _ (Below.refl _ _))).mono ?_
  rintro e w1 ⟨⟨t, ht, rfl⟩, hb1⟩
  have B1 : Hid (Below w.heap.size w w1) := hb1
  clear hb1
  have htm : t.size ≤ maxLen := by unfold maxLen; omega
  have hback := base64_back t
  have hbz := base64D_le t
  have HI : Hid (∀ V : World, Calls Tryz.prog 5 #[.string t] V fun e w' => e = .returned (.string (base64D t)) ∧ Below V.heap.size V w') := fun V => implBase64 t V htm
  have HS : Hid (∀ V : World, Calls Tryz.prog 6 #[.string t] V fun e w' => e = .returned (.string (base64D t)) ∧ Below V.heap.size V w') := fun V => specBase64 t V htm
  have HR : Hid (∀ V : World, (base64D t).size ≠ 0 → Calls Tryz.prog 7 #[.string (base64D t)] V fun e w' => e = .returned (.agg #[.string t, .int .i64 0, .int .i64 0]) ∧ Below V.heap.size V w') := fun V hn => by
    have h := implBase64Read (base64D t) V (by unfold maxLen; omega)
    rcases hback with h0 | h1
    · exact absurd h0 hn
    · rw [h1] at h; exact h
  generalize base64D t = b at *
  clear hback hbz
  go_wp2_with fail
  refine (HI.out _).mono ?_
  rintro e w2 ⟨rfl, hb2⟩
  have B2 : Hid (Below w.heap.size w w2) := B1.out.trans (hb2.mono B1.out.size)
  clear hb2 B1 HI
  go_upto_region 5 with fail
  go_cut [42] from 26 (fun s42 wx => s42 = .bool false ∧ Below w.heap.size w wx)
  case first =>
    go_wp2_with fail
    refine (HS.out _).mono ?_
    rintro e w3 ⟨rfl, hb3⟩
    have B3 : Hid (Below w.heap.size w w3) := B2.out.trans (hb3.mono B2.out.size)
    clear hb3 B2 HS
    by_cases hn : b.size = 0
    · have he := empty_of hn
      go_wp2_with fail
      go_meet
      case rel => exact ⟨by first | rfl | simp, B3.out⟩
    · have he := empty_not hn
      have HR' : Hid (∀ V : World, Calls Tryz.prog 7 #[.string b] V fun e w' => e = .returned (.agg #[.string t, .int .i64 0, .int .i64 0]) ∧ Below V.heap.size V w') := fun V => HR.out V hn
      clear HR
      go_wp2_with fail
      refine (HR'.out _).mono ?_
      rintro e w4 ⟨rfl, hb4⟩
      have B4 : Hid (Below w.heap.size w w4) := B3.out.trans (hb4.mono B3.out.size)
      clear hb4 B3
      go_wp2_with fail
      go_meet
      case rel => exact ⟨by first | rfl | simp, B4.out⟩
  case rest =>
  obtain ⟨rfl, hcut⟩ := hcut
  have B4 : Hid (Below w.heap.size w wc) := hcut
  clear hcut B2 HS HR
  generalize Value.string t = vt
  generalize Value.string b = vb
  clear ht htm
  go_wp2_with fail
  refine (drawBase64Read a1 len1 cap1 _ (by omega) (HC1.out _ B4.out) (HB1.out _ B4.out)).mono ?_
  rintro e w5 ⟨⟨u, hu, rfl⟩, hb5⟩
  have B5 : Hid (Below w.heap.size w w5) := B4.out.trans (hb5.mono B4.out.size)
  clear hb5 B4
  have hum : u.size ≤ maxLen := by unfold maxLen; omega
  have hxs : (readTD u).1.size ≤ 2 * u.size := readTD_size u
  have htold : (readTD u).2 = 0 → base64D (readTD u).1 = u := readTD_told
  have HI : Hid (∀ V : World, Calls Tryz.prog 7 #[.string u] V fun e w' => e = .returned (txtV (readTD u)) ∧ Below V.heap.size V w') := fun V => implBase64Read u V hum
  have HS : Hid (∀ V : World, Calls Tryz.prog 9 #[.string u] V fun e w' => e = .returned (txtV (readTD u)) ∧ Below V.heap.size V w') := fun V => specBase64Read u V hum
  generalize readTD u = R at *
  obtain ⟨x, c⟩ := R
  unfold txtV at HI HS
  simp only at HI HS hxs htold
  have hxm : x.size ≤ maxLen := by unfold maxLen; omega
  have HB : Hid (c = 0 → ∀ V : World, Calls Tryz.prog 5 #[.string x] V fun e w' => e = .returned (.string u) ∧ Below V.heap.size V w') := fun hc V => by have h := implBase64 x V hxm; rw [htold hc] at h; exact h
  clear htold hxm hxs hum hu
  go_wp2_with fail
  refine (HI.out _).mono ?_
  rintro e w6 ⟨rfl, hb6⟩
  have B6 : Hid (Below w.heap.size w w6) := B5.out.trans (hb6.mono B5.out.size)
  clear hb6 B5 HI
  obtain ⟨w7, hw7⟩ : ∃ w7, w7 = w6.alloc (.cells #[.string x, .int .i64 0, .int .i64 c] 26 (0, 0)) := ⟨_, rfl⟩
  have B7 : Hid (Below w.heap.size w w7) := by rw [hw7]; exact B6.out.alloc B6.out.size _
  have R7 : Hid (w7.heap[w6.heap.size]? = some (.cells [Value.string x, .int .i64 0, .int .i64 c].toArray 26 (0, 0))) := by rw [hw7]; exact heap_alloc_new w6 _
  go_upto_region 9 with fail
  rw [← hw7]
  clear hw7
  go_cut [62] from 47 (fun s62 wx => s62 = .bool false ∧ Below w.heap.size w wx)
  case first =>
    have q0 : w7.cell? ⟨w6.heap.size, 0, none⟩ = some (.string x) := rowFacts R7.out 0 _ rfl
    have q1 : w7.cell? ⟨w6.heap.size, 1, none⟩ = some (.int .i64 0) := rowFacts R7.out 1 _ rfl
    have q2 : w7.cell? ⟨w6.heap.size, 2, none⟩ = some (.int .i64 c) := rowFacts R7.out 2 _ rfl
    have HT : Hid (∀ V, Hid (Below w7.heap.size w7 V) → V.cell? ⟨w6.heap.size, 0, none⟩ = some (.string x) ∧ V.cell? ⟨w6.heap.size, 1, none⟩ = some (.int .i64 0) ∧ V.cell? ⟨w6.heap.size, 2, none⟩ = some (.int .i64 c)) := fun V hV => by
      have hP : V.heap[w6.heap.size]? = _ := (hV.out.block _ (heap_lt R7.out)).trans R7.out
      exact ⟨rowFacts hP 0 _ rfl, rowFacts hP 1 _ rfl, rowFacts hP 2 _ rfl⟩
    have T2 : Hid (∀ V, Hid (Below w7.heap.size w7 V) → Calls Tryz.prog 9 #[.string u] V fun e W => e = .returned (.agg #[.string x, .int .i64 0, .int .i64 c]) ∧ Hid (Below w7.heap.size w7 W) ∧ (W.cell? ⟨w6.heap.size, 0, none⟩ = some (.string x) ∧ W.cell? ⟨w6.heap.size, 1, none⟩ = some (.int .i64 0) ∧ W.cell? ⟨w6.heap.size, 2, none⟩ = some (.int .i64 c))) := fun V hV => by
      refine (HS.out V).mono ?_
      rintro e W ⟨rfl, hb⟩
      have hbW : Below w7.heap.size w7 W := hV.out.trans (hb.mono hV.out.size)
      exact ⟨rfl, hbW, HT.out W hbW⟩
    have HD7 : Hid (Below w7.heap.size w7 w7.drew) := (Below.refl _ w7).drew
    by_cases hcd : c = 0
    · subst hcd
      have T3 : Hid (∀ V, Hid (Below w7.heap.size w7 V) → Calls Tryz.prog 5 #[.string x] V fun e W => e = .returned (.string u) ∧ Hid (Below w7.heap.size w7 W) ∧ (W.cell? ⟨w6.heap.size, 0, none⟩ = some (.string x) ∧ W.cell? ⟨w6.heap.size, 1, none⟩ = some (.int .i64 0) ∧ W.cell? ⟨w6.heap.size, 2, none⟩ = some (.int .i64 0))) := fun V hV => by
        refine (HB.out rfl V).mono ?_
        rintro e W ⟨rfl, hb⟩
        have hbW : Below w7.heap.size w7 W := hV.out.trans (hb.mono hV.out.size)
        exact ⟨rfl, hbW, HT.out W hbW⟩
      clear HT HS HB
      go_region_held3 (fun V => V.cell? ⟨w6.heap.size, 0, none⟩ = some (.string x) ∧ V.cell? ⟨w6.heap.size, 1, none⟩ = some (.int .i64 0) ∧ V.cell? ⟨w6.heap.size, 2, none⟩ = some (.int .i64 0)) (first | (refine ⟨?_, ?_, ?_⟩ <;> assumption) | go_keep)
        (first | (go_at_call 9; refine (T2.out _ (by assumption)).mono ?_; rintro r V1 ⟨rfl, kV1, x0, x1, x2⟩) | (go_at_call 5; refine (T3.out _ (by assumption)).mono ?_; rintro r V2 ⟨rfl, kV2, y0, y1, y2⟩))
      have BV : Hid (Below w.heap.size w V2) := B7.out.trans (kV2.out.mono B7.out.size)
      go_wp2_with fail
      go_meet
      case rel => exact ⟨by first | rfl | simp, BV.out⟩
    · have hz : (c == 0) = false := by rw [beq_eq_false_iff_ne]; exact hcd
      clear HT HB
      refine wp_region_held_drew (S := fun V => V.cell? ⟨w6.heap.size, 0, none⟩ = some (.string x) ∧ V.cell? ⟨w6.heap.size, 1, none⟩ = some (.int .i64 0) ∧ V.cell? ⟨w6.heap.size, 2, none⟩ = some (.int .i64 c)) (by kernel_rfl) ?_ (fun hHeld => ?_)
      · exact ⟨q0, q1, q2⟩
      refine wpAnyH_take (i := 0) (oi := ⟨some 47, _, _, _, _, _⟩) (v := ?_) rfl (by kernel_rfl) (by kernel_rfl) (by kernel_rfl) (fun _ _ _ h => h) (Or.inl ⟨by kernel_rfl, ?_⟩) (by assumption) ?_
      rotate_left
      · (intro w hSw; (try dsimp only at hSw); go_simp; try with_reducible rfl)
      (try simp only [Act.put, List.setIfInBounds_toArray, List.set_cons_zero, List.set_cons_succ])
      refine wpAnyH_take (i := 1) (oi := ⟨some 48, _, _, _, _, _⟩) (v := ?_) rfl (by kernel_rfl) (by kernel_rfl) (by kernel_rfl) (fun _ _ _ h => h) (Or.inl ⟨by kernel_rfl, ?_⟩) (by assumption) ?_
      rotate_left
      · (intro w hSw; (try dsimp only at hSw); go_simp; try with_reducible rfl)
      (try simp only [Act.put, List.setIfInBounds_toArray, List.set_cons_zero, List.set_cons_succ])
      refine wpAnyH_ready (rs := [2]) (by kernel_rfl) (by simp) ?_
      refine AllReadyH.cons (o := ⟨some 49, _, _, _, _, _⟩) rfl (fun K hK => ?_) AllReadyH.nil
      go_simp
      refine (T2.out _ HD7).mono ?_
      rintro r V1 ⟨rfl, kV1, x0, x1, x2⟩
      refine hK.out _ _ ?_ (fun hHeld => ?_)
      · exact ⟨x0, x1, x2⟩
      clear hK K
      refine wpAnyH_take (i := 3) (oi := ⟨some 50, _, _, _, _, _⟩) (v := ?_) rfl (by kernel_rfl) (by kernel_rfl) (by kernel_rfl) (fun _ _ _ h => h) (Or.inl ⟨by kernel_rfl, ?_⟩) (by assumption) ?_
      rotate_left
      · (intro w hSw; (try dsimp only at hSw); go_simp; try with_reducible rfl)
      (try simp only [Act.put, List.setIfInBounds_toArray, List.set_cons_zero, List.set_cons_succ])
      refine wpAnyH_take (i := 4) (oi := ⟨some 51, _, _, _, _, _⟩) (v := ?_) rfl (by kernel_rfl) (by kernel_rfl) (by kernel_rfl) (fun _ _ _ h => h) (Or.inl ⟨by kernel_rfl, ?_⟩) (by assumption) ?_
      rotate_left
      · (intro w hSw; (try dsimp only at hSw); go_simp; try with_reducible rfl)
      (try simp only [Act.put, List.setIfInBounds_toArray, List.set_cons_zero, List.set_cons_succ])
      refine wpAnyH_take (i := 5) (oi := ⟨some 52, _, _, _, _, _⟩) (v := ?_) rfl (by kernel_rfl) (by kernel_rfl) (by kernel_rfl) (fun _ _ _ h => h) (Or.inl ⟨by kernel_rfl, ?_⟩) (by assumption) ?_
      rotate_left
      · (intro w hSw; (try dsimp only at hSw); go_simp; try with_reducible rfl)
      (try simp only [Act.put, List.setIfInBounds_toArray, List.set_cons_zero, List.set_cons_succ])
      refine wpAnyH_take (i := 6) (oi := ⟨some 53, _, _, _, _, _⟩) (v := ?_) rfl (by kernel_rfl) (by kernel_rfl) (by kernel_rfl) (fun _ _ _ h => h) (Or.inl ⟨by kernel_rfl, ?_⟩) (by assumption) ?_
      rotate_left
      · (intro w hSw; (try dsimp only at hSw); go_simp; try with_reducible rfl)
      (try simp only [Act.put, List.setIfInBounds_toArray, List.set_cons_zero, List.set_cons_succ])
      refine wpAnyH_take (i := 7) (oi := ⟨some 54, _, _, _, _, _⟩) (v := ?_) rfl (by kernel_rfl) (by kernel_rfl) (by kernel_rfl) (fun _ _ _ h => h) (Or.inl ⟨by kernel_rfl, ?_⟩) (by assumption) ?_
      rotate_left
      · (intro w hSw; (try dsimp only at hSw); go_simp; try with_reducible rfl)
      (try simp only [Act.put, List.setIfInBounds_toArray, List.set_cons_zero, List.set_cons_succ])
      refine wpAnyH_take (i := 8) (oi := ⟨some 55, _, _, _, _, _⟩) (v := ?_) rfl (by kernel_rfl) (by kernel_rfl) (by kernel_rfl) (fun _ _ _ h => h) (Or.inl ⟨by kernel_rfl, ?_⟩) (by assumption) ?_
      rotate_left
      · (intro w hSw; (try dsimp only at hSw); go_simp; try with_reducible rfl)
      (try simp only [Act.put, List.setIfInBounds_toArray, List.set_cons_zero, List.set_cons_succ])
      refine wpAnyH_take (i := 9) (oi := ⟨some 56, _, _, _, _, _⟩) (v := undef) rfl (by kernel_rfl) (by kernel_rfl) (by kernel_rfl) (fun _ _ _ h => h) (Or.inr ⟨by kernel_rfl, rfl⟩) (by assumption) ?_
      (try simp only [Act.put, List.setIfInBounds_toArray, List.set_cons_zero, List.set_cons_succ])
      refine wpAnyH_take (i := 10) (oi := ⟨some 57, _, _, _, _, _⟩) (v := undef) rfl (by kernel_rfl) (by kernel_rfl) (by kernel_rfl) (fun _ _ _ h => h) (Or.inr ⟨by kernel_rfl, rfl⟩) (by assumption) ?_
      (try simp only [Act.put, List.setIfInBounds_toArray, List.set_cons_zero, List.set_cons_succ])
      refine wpAnyH_take (i := 11) (oi := ⟨some 58, _, _, _, _, _⟩) (v := undef) rfl (by kernel_rfl) (by kernel_rfl) (by kernel_rfl) (fun _ _ _ h => h) (Or.inr ⟨by kernel_rfl, rfl⟩) (by assumption) ?_
      (try simp only [Act.put, List.setIfInBounds_toArray, List.set_cons_zero, List.set_cons_succ])
      refine wpAnyH_take (i := 12) (oi := ⟨some 59, _, _, _, _, _⟩) (v := undef) rfl (by kernel_rfl) (by kernel_rfl) (by kernel_rfl) (fun _ _ _ h => h) (Or.inr ⟨by kernel_rfl, rfl⟩) (by assumption) ?_
      (try simp only [Act.put, List.setIfInBounds_toArray, List.set_cons_zero, List.set_cons_succ])
      refine wpAnyH_take (i := 13) (oi := ⟨some 60, _, _, _, _, _⟩) (v := undef) rfl (by kernel_rfl) (by kernel_rfl) (by kernel_rfl) (fun _ _ _ h => h) (Or.inr ⟨by kernel_rfl, rfl⟩) (by assumption) ?_
      (try simp only [Act.put, List.setIfInBounds_toArray, List.set_cons_zero, List.set_cons_succ])
      refine wpAnyH_take (i := 14) (oi := ⟨some 61, _, _, _, _, _⟩) (v := ?_) rfl (by kernel_rfl) (by kernel_rfl) (by kernel_rfl) (fun _ _ _ h => h) (Or.inl ⟨by kernel_rfl, ?_⟩) (by assumption) ?_
      rotate_left
      · (intro w hSw; (try dsimp only at hSw); go_simp; try with_reducible rfl)
      (try simp only [Act.put, List.setIfInBounds_toArray, List.set_cons_zero, List.set_cons_succ])
      refine wpAnyH_take (i := 15) (oi := ⟨some 62, _, _, _, _, _⟩) (v := ?_) rfl (by kernel_rfl) (by kernel_rfl) (by kernel_rfl) (fun _ _ _ h => h) (Or.inl ⟨by kernel_rfl, ?_⟩) (by assumption) ?_
      rotate_left
      · (intro w hSw; (try dsimp only at hSw); go_simp; try with_reducible rfl)
      (try simp only [Act.put, List.setIfInBounds_toArray, List.set_cons_zero, List.set_cons_succ])
      refine wpAnyH_done (by kernel_rfl) ?_ _
      have BV : Hid (Below w.heap.size w V1) := B7.out.trans (kV1.out.mono B7.out.size)
      go_wp2_with fail
      go_meet
      case rel => exact ⟨by first | rfl | simp, BV.out⟩
  case rest =>
  obtain ⟨rfl, hcut⟩ := hcut
  have B8 : Hid (Below w.heap.size w wc) := hcut
  clear hcut R7 B6 B7 HS HB
  generalize Value.string u = vu
  go_wp2_with fail
  refine (drawJwsSign a0 len0 cap0 _ (by omega) (HC0.out _ B8.out) (HB0.out _ B8.out)).mono ?_
  rintro e w9 ⟨⟨s, n, url, body, hs, hn, hurl, hbody, rfl⟩, hb9⟩
  have B9 : Hid (Below w.heap.size w w9) := B8.out.trans (hb9.mono B8.out.size)
  clear hb9 B8
  have HI : Hid (∀ V : World, Keys V → Calls Tryz.prog 11 #[.int .i64 s, .int .i64 n, .string url, .string body] V fun e w' => e = .returned (.string (jSign s n url body)) ∧ Below V.heap.size V w') := fun V hV => implJwsSign s n url body V hn.1 hn.2 (by unfold maxLen; omega) (by unfold maxLen; omega) hV
  have HS : Hid (∀ V : World, Calls Tryz.prog 12 #[.int .i64 s, .int .i64 n, .string url, .string body] V fun e w' => e = .returned (.string (jSign s n url body)) ∧ Below V.heap.size V w') := fun V => specJwsSign s n url body V hs.1 hs.2 hn.1 hn.2 (by omega) (by omega)
  have HP : Hid (∀ V : World, Calls Tryz.prog 14 #[.int .i64 s] V fun e w' => e = .returned (.int .i64 (pubA s)) ∧ Below V.heap.size V w') := fun V => (specPublic s V).mono fun e w' h => ⟨h.1, by rw [h.2]; exact Below.refl _ _⟩
  have hread := jSign_read s n url body
  generalize jSign s n url body = j at *
  generalize pubA s = k at *
  obtain ⟨hjr⟩ : Nonempty (j.size = 0 ∨ ∃ (ee ss : Int), j.size ≠ 0 ∧ j.size ≤ 5000 ∧ jwsR j = (⟨k, n, url, body, ee, ss⟩, 0)) := ⟨by
    rcases hread with rfl | ⟨ee, ss, h1, h2, h3, _⟩
    · exact .inl rfl
    · exact .inr ⟨ee, ss, by omega, h2, h3⟩⟩
  have HJR : Hid _ := hjr
  clear hread hjr hs hn hurl hbody
  go_wp2_with fail
  refine (HI.out _ (HKE.out _ B9.out).1).mono ?_
  rintro e w10 ⟨rfl, hb10⟩
  have B10 : Hid (Below w.heap.size w w10) := B9.out.trans (hb10.mono B9.out.size)
  clear hb10 B9 HI
  go_wp2_with fail
  refine (HS.out _).mono ?_
  rintro e w11 ⟨rfl, hb11⟩
  have B11 : Hid (Below w.heap.size w w11) := B10.out.trans (hb11.mono B10.out.size)
  clear hb11 B10 HS
  go_upto_if 83 with fail
  go_cut [14] from 83 (fun _ wx => Below w.heap.size w wx)
  case first =>
    rcases HJR.out with hj0 | ⟨ee, ss, hj0, hjz, hjr⟩
    · have he := empty_of hj0
      rw [he]
      go_wp2_with fail
      go_meet
      case rel => exact B11.out
    · have he := empty_not hj0
      have HRd : Hid (∀ V : World, Below w.heap.size w V → Calls Tryz.prog 13 #[.string j] V fun e w' => e = .returned (.agg #[.int .i64 k, .int .i64 n, .string url, .string body, .int .i64 k, .int .i64 ee, .int .i64 ss, .int .i64 0]) ∧ Below V.heap.size V w') := fun V hV => by
        have h := implJwsRead j V (by unfold maxLen; omega) (HKE.out V hV).1 (HKE.out V hV).2
        rw [hjr] at h
        exact h
      rw [he]
      clear hjr hjz hj0 he
      go_wp2_with fail
      refine (HRd.out _ B11.out).mono ?_
      rintro e w12 ⟨rfl, hb12⟩
      have B12 : Hid (Below w.heap.size w w12) := B11.out.trans (hb12.mono B11.out.size)
      clear hb12 B11 HRd
      obtain ⟨w13, hw13⟩ : ∃ w13, w13 = w12.alloc (.cells #[.int .i64 k, .int .i64 n, .string url, .string body, .int .i64 k, .int .i64 ee, .int .i64 ss, .int .i64 0] 36 (0, 0)) := ⟨_, rfl⟩
      have B13 : Hid (Below w.heap.size w w13) := by rw [hw13]; exact B12.out.alloc B12.out.size _
      have R13 : Hid (w13.heap[w12.heap.size]? = some (.cells [Value.int .i64 k, .int .i64 n, .string url, .string body, .int .i64 k, .int .i64 ee, .int .i64 ss, .int .i64 0].toArray 36 (0, 0))) := by rw [hw13]; exact heap_alloc_new w12 _
      go_upto_region 17 with fail
      rw [← hw13]
      clear hw13
      have q0 : w13.cell? ⟨w12.heap.size, 0, none⟩ = some (.int .i64 k) := rowFacts R13.out 0 _ rfl
      have q1 : w13.cell? ⟨w12.heap.size, 1, none⟩ = some (.int .i64 n) := rowFacts R13.out 1 _ rfl
      have q2 : w13.cell? ⟨w12.heap.size, 2, none⟩ = some (.string url) := rowFacts R13.out 2 _ rfl
      have q3 : w13.cell? ⟨w12.heap.size, 3, none⟩ = some (.string body) := rowFacts R13.out 3 _ rfl
      have q7 : w13.cell? ⟨w12.heap.size, 7, none⟩ = some (.int .i64 0) := rowFacts R13.out 7 _ rfl
      have T2 : Hid (∀ V, Hid (Below w13.heap.size w13 V) → Calls Tryz.prog 14 #[.int .i64 s] V fun e W => e = .returned (.int .i64 k) ∧ Hid (Below w13.heap.size w13 W) ∧ (W.cell? ⟨w12.heap.size, 0, none⟩ = some (.int .i64 k) ∧ W.cell? ⟨w12.heap.size, 1, none⟩ = some (.int .i64 n) ∧ W.cell? ⟨w12.heap.size, 2, none⟩ = some (.string url) ∧ W.cell? ⟨w12.heap.size, 3, none⟩ = some (.string body) ∧ W.cell? ⟨w12.heap.size, 7, none⟩ = some (.int .i64 0))) := fun V hV => by
        refine (HP.out V).mono ?_
        rintro e W ⟨rfl, hb⟩
        have hbW : Below w13.heap.size w13 W := hV.out.trans (hb.mono hV.out.size)
        have hP : W.heap[w12.heap.size]? = _ := (hbW.block _ (heap_lt R13.out)).trans R13.out
        exact ⟨rfl, hbW, rowFacts hP 0 _ rfl, rowFacts hP 1 _ rfl, rowFacts hP 2 _ rfl, rowFacts hP 3 _ rfl, rowFacts hP 7 _ rfl⟩
      have HD13 : Hid (Below w13.heap.size w13 w13.drew) := (Below.refl _ w13).drew
      have e1 : (k != k) = false := by simp
      have e2 : (n != n) = false := by simp
      go_region_held3 (fun V => V.cell? ⟨w12.heap.size, 0, none⟩ = some (.int .i64 k) ∧ V.cell? ⟨w12.heap.size, 1, none⟩ = some (.int .i64 n) ∧ V.cell? ⟨w12.heap.size, 2, none⟩ = some (.string url) ∧ V.cell? ⟨w12.heap.size, 3, none⟩ = some (.string body) ∧ V.cell? ⟨w12.heap.size, 7, none⟩ = some (.int .i64 0)) (first | (refine ⟨?_, ?_, ?_, ?_, ?_⟩ <;> assumption) | go_keep)
        (first | (go_at_call 14; refine (T2.out _ (by assumption)).mono ?_; rintro r V1 ⟨rfl, kV1, x0, x1, x2, x3, x7⟩))
      have BV : Hid (Below w.heap.size w V1) := B13.out.trans (kV1.out.mono B13.out.size)
      go_wp2_with fail
      go_meet
      case rel => exact BV.out
  case rest =>
  have B12 : Hid (Below w.heap.size w wc) := hcut
  clear hcut HP HJR B11
  go_wp2_with fail
  refine (drawJwsRead a1 len1 cap1 _ (by omega) (HC1.out _ B12.out) (HB1.out _ B12.out)).mono ?_
  rintro e w13 ⟨⟨v, hv, rfl⟩, hb13⟩
  have B13 : Hid (Below w.heap.size w w13) := B12.out.trans (hb13.mono B12.out.size)
  clear hb13 B12
  have hvm : v.size ≤ maxLen := by unfold maxLen; omega
  have HI : Hid (∀ V : World, Keys V → ErrType V → Calls Tryz.prog 13 #[.string v] V fun e w' => e = .returned (Rq.outV (jwsR v)) ∧ Below V.heap.size V w') := fun V h1 h2 => implJwsRead v V hvm h1 h2
  have HS : Hid (∀ V : World, Calls Tryz.prog 16 #[.string v] V fun e w' => e = .returned (Rq.outV (jwsR v)) ∧ Below V.heap.size V w') := fun V => specJwsRead v V hvm
  generalize jwsR v = R at *
  obtain ⟨⟨key, nonce, url2, body2, se, ss⟩, c2⟩ := R
  unfold Rq.outV at HI HS
  simp only at HI HS
  go_wp2_with fail
  refine (HI.out _ (HKE.out _ B13.out).1 (HKE.out _ B13.out).2).mono ?_
  rintro e w14 ⟨rfl, hb14⟩
  have B14 : Hid (Below w.heap.size w w14) := B13.out.trans (hb14.mono B13.out.size)
  clear hb14 B13 HI
  go_wp2_with fail
  refine (HS.out _).mono ?_
  rintro e w15 ⟨rfl, hb15⟩
  have B15 : Hid (Below w.heap.size w w15) := B14.out.trans (hb15.mono B14.out.size)
  clear hb15 B14 HS
  have f1 : (key == key) = true := by simp
  have f2 : (nonce == nonce) = true := by simp
  have f3 : (se == se) = true := by simp
  have f4 : (ss == ss) = true := by simp
  have f5 : (c2 == c2) = true := by simp
  go_wp2
  go_ret
  exact ⟨rfl, B15.out⟩
end Go.Proofs.YtdehbaafbbjcgaaGreatDoor
