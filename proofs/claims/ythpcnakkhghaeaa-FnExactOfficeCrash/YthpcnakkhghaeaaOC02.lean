/- spec.OfficeCrash and impl.OfficeCrash, walked. -/
import Derived.Test.YthpcnakkhghaeaaOC01
namespace Go.Proofs.Ythpcnakkhghaeaa
open Go.RowKit

theorem crK_low {b : ByteArray} {m : Nat} {q : Int} (h : q ≤ 0) (hm : m ≤ b.size) : crK b m q = m := by unfold crK; omega
theorem crK_mid {b : ByteArray} {m q : Nat} (h : q < b.size - m) (hm : m ≤ b.size) : crK b m q = m + q := by unfold crK; omega
theorem crK_le {b : ByteArray} {m q : Nat} (h : q ≤ b.size - m) (hm : m ≤ b.size) : crK b m q = m + q := by unfold crK; omega
theorem crK_top {b : ByteArray} {m : Nat} {q : Int} (h : (b.size : Int) - m ≤ q) (hm : m ≤ b.size) : crK b m q = b.size := by unfold crK; omega
theorem crashV_in {b : ByteArray} {m k : Nat} {q : Int} (hm : m ≤ b.size) (hk : crK b m q = k) : crashV b m q = .agg #[.string (b.extract 0 k), .int .i64 (k : Int)] := by
  unfold crashV
  rw [if_pos ⟨by omega, by omega⟩, hk]
  rfl
set_option maxHeartbeats 1000000 in
theorem specMin (x y : Int) (w : World) : Calls Try.prog 10 #[.int .i64 x, .int .i64 y] w fun e w' => e = .returned (.int .i64 (min x y)) ∧ w' = w := by
  by_cases h : x < y
  · rw [show min x y = x by omega]
    go_enter Try.func10, Try.ntmps10
    go_wp2
    go_ret
    exact ⟨rfl, rfl⟩
  · rw [show min x y = y by omega]
    go_enter Try.func10, Try.ntmps10
    go_wp2
    go_ret
    exact ⟨rfl, rfl⟩
set_option linter.unusedSimpArgs false in
set_option maxHeartbeats 2000000 in
set_option maxRecDepth 100000 in
theorem specCrashNo (b : ByteArray) (n q : Int) (w : World) (_ : b.size ≤ 1048576) (h : ¬ (0 ≤ n ∧ n ≤ (b.size : Int))) :
    Calls Try.prog 5 #[.agg #[.string b, .int .i64 n], .int .i64 q] w fun r w' => r = .returned (.agg #[.string b, .int .i64 n]) ∧ Below w.heap.size w w' := by
  have hd : (decide (0 ≤ n) && decide (n ≤ (b.size : Int))) = false := by rw [← Bool.not_eq_true]; simpa using h
  have HS : Hid (∀ V, Calls Try.prog 9 #[.int .i64 n, .int .i64 0, .int .i64 (b.size : Int)] V fun e w' => e = .returned (.bool false) ∧ w' = V) := fun V => by have := specIs n 0 b.size V; rwa [hd] at this
  clear h hd
  obtain ⟨w1, hw1⟩ : ∃ w1, w1 = (w.alloc (.cells #[.string b, .int .i64 n] 25 (0, 0))).alloc (.cells #[.string ⟨#[]⟩, .int .i64 0] 25 (0, 0)) := ⟨_, rfl⟩
  have r0 : w1.heap[w.heap.size]? = some (.cells [Value.string b, .int .i64 n].toArray 25 (0, 0)) := by rw [hw1, Below.heap_alloc _ _ _ (by simp)]; exact heap_alloc_new w _
  have r1 : w1.heap[w.heap.size + 1]? = some (.cells [Value.string ⟨#[]⟩, .int .i64 0].toArray 25 (0, 0)) := by rw [hw1]; exact heap_alloc2 w _ _
  have B1 : Hid (Below w.heap.size w w1) := by rw [hw1]; exact ((Below.refl _ _).alloc (Nat.le_refl _) _).alloc (by simp) _
  have hl1 := run_loadVar_mid (P := Try.prog) _ w.heap.size 0 25 _ _ (rangeRow r0) Try.underlying25 rfl sizeOffice
  have c0 : w1.cell? ⟨w.heap.size, 0, none⟩ = some (.string b) := rowFacts r0 0 _ rfl
  have c1 : w1.cell? ⟨w.heap.size, 1, none⟩ = some (.int .i64 n) := rowFacts r0 1 _ rfl
  have HR1 : Hid (w1.heap[w.heap.size + 1]? = some (.cells [Value.string ⟨#[]⟩, .int .i64 0].toArray 25 (0, 0))) := r1
  have HR0 : Hid (w1.heap[w.heap.size]? = some (.cells [Value.string b, .int .i64 n].toArray 25 (0, 0))) := r0
  clear r0 r1
  go_enter Try.func5, Try.ntmps5
  go_upto_region 1 with fail
  rw [← hw1]
  clear hw1
  go_wp2_with fail
  refine (HS.out _).mono ?_
  rintro e w2 ⟨rfl, rfl⟩
  have h1 : ∀ v ∈ [Value.string b, .int .i64 n], v.oneCell' = true := by simp [Value.oneCell']
  have hR := HR1.out
  go_wp2_with (refine wpList_store_row rfl 25 _ _ rfl (w.heap.size + 1) [Value.string ⟨#[]⟩, .int .i64 0] [Value.string b, .int .i64 n] 25 rfl rfl hR rfl sizeOffice h1 ?_)
  intro w3 hrow ho hs3 hbb
  have B3 : Hid (Below w.heap.size w w3) := hbb _ _ (by omega) B1.out
  have hl := run_loadVar_mid (P := Try.prog) _ (w.heap.size + 1) 0 25 _ _ (rangeRow hrow) Try.underlying25 rfl sizeOffice
  clear ho hs3 hbb h1 hrow hR
  go_wp2
  refine bodyPost_ret (v := .agg [Value.string b, .int .i64 n].toArray) ?_ rfl ⟨rfl, B3.out⟩
  simp [results, Try.results5, asAddr, hl]
set_option linter.unusedSimpArgs false in
set_option maxHeartbeats 2000000 in
set_option maxRecDepth 100000 in
theorem implCrashNo (b : ByteArray) (n q : Int) (w : World) (hb : b.size ≤ 1048576) (h : ¬ (0 ≤ n ∧ n ≤ (b.size : Int))) :
    Calls Try.prog 7 #[.agg #[.string b, .int .i64 n], .int .i64 q] w fun r w' => r = .returned (.agg #[.string b, .int .i64 n]) ∧ Below w.heap.size w w' := by
  have hd : withinB n 0 (b.size : Int) = false := by unfold withinB; rw [← Bool.not_eq_true]; simpa using h
  have HS : Hid (∀ V, Calls Try.prog 11 #[.int .i64 n, .int .i64 0, .int .i64 (b.size : Int)] V fun e w' => e = .returned (.bool false) ∧ w' = V) := fun V => by have := implWithin n 0 b.size V; rwa [hd] at this
  have HC : Hid (∀ V, Calls Try.prog 12 #[.agg #[.string b, .int .i64 n]] V fun r w' => r = .returned (.agg #[.string b, .int .i64 n]) ∧ Below V.heap.size V w') := fun V => copyOffice b n V hb
  clear h hd
  obtain ⟨w1, hw1⟩ : ∃ w1, w1 = (w.alloc (.cells #[.string b, .int .i64 n] 25 (0, 0))).alloc (.cells #[.string ⟨#[]⟩, .int .i64 0] 25 (0, 0)) := ⟨_, rfl⟩
  have r0 : w1.heap[w.heap.size]? = some (.cells [Value.string b, .int .i64 n].toArray 25 (0, 0)) := by rw [hw1, Below.heap_alloc _ _ _ (by simp)]; exact heap_alloc_new w _
  have r1 : w1.heap[w.heap.size + 1]? = some (.cells [Value.string ⟨#[]⟩, .int .i64 0].toArray 25 (0, 0)) := by rw [hw1]; exact heap_alloc2 w _ _
  have B1 : Hid (Below w.heap.size w w1) := by rw [hw1]; exact ((Below.refl _ _).alloc (Nat.le_refl _) _).alloc (by simp) _
  have hl1 := run_loadVar_mid (P := Try.prog) _ w.heap.size 0 25 _ _ (rangeRow r0) Try.underlying25 rfl sizeOffice
  have c0 : w1.cell? ⟨w.heap.size, 0, none⟩ = some (.string b) := rowFacts r0 0 _ rfl
  have c1 : w1.cell? ⟨w.heap.size, 1, none⟩ = some (.int .i64 n) := rowFacts r0 1 _ rfl
  have HR1 : Hid (w1.heap[w.heap.size + 1]? = some (.cells [Value.string ⟨#[]⟩, .int .i64 0].toArray 25 (0, 0))) := r1
  have HR0 : Hid (w1.heap[w.heap.size]? = some (.cells [Value.string b, .int .i64 n].toArray 25 (0, 0))) := r0
  clear r0 r1
  go_enter Try.func7, Try.ntmps7
  go_upto_region 1 with fail
  rw [← hw1]
  clear hw1
  go_wp2_with fail
  refine (HS.out _).mono ?_
  rintro e w2 ⟨rfl, rfl⟩
  go_wp2_with fail
  refine (HC.out _).mono ?_
  rintro e w4 ⟨rfl, b4⟩
  have B4 : Hid (Below w.heap.size w w4) := B1.out.trans (b4.mono B1.out.size)
  have HR4 : Hid (w4.heap[w.heap.size + 1]? = some (.cells [Value.string ⟨#[]⟩, .int .i64 0].toArray 25 (0, 0))) := (b4.block _ (heap_lt HR1.out)).trans HR1.out
  clear b4
  have h1 : ∀ v ∈ [Value.string b, .int .i64 n], v.oneCell' = true := by simp [Value.oneCell']
  have hR := HR4.out
  go_wp2_with (refine wpList_store_row rfl 25 _ _ rfl (w.heap.size + 1) [Value.string ⟨#[]⟩, .int .i64 0] [Value.string b, .int .i64 n] 25 rfl rfl hR rfl sizeOffice h1 ?_)
  intro w3 hrow ho hs3 hbb
  have B3 : Hid (Below w.heap.size w w3) := hbb _ _ (by omega) B4.out
  have hl := run_loadVar_mid (P := Try.prog) _ (w.heap.size + 1) 0 25 _ _ (rangeRow hrow) Try.underlying25 rfl sizeOffice
  clear ho hs3 hbb h1 hrow hR
  go_wp2
  refine bodyPost_ret (v := .agg [Value.string b, .int .i64 n].toArray) ?_ rfl ⟨rfl, B3.out⟩
  simp [results, Try.results7, asAddr, hl]
set_option linter.unusedSimpArgs false in
set_option maxHeartbeats 2000000 in
set_option maxRecDepth 100000 in
theorem specCrashLow (b : ByteArray) (m : Nat) (q : Int) (w : World) (_ : b.size ≤ 1048576) (hm : m ≤ b.size) (h : q ≤ 0) :
    Calls Try.prog 5 #[.agg #[.string b, .int .i64 (m : Int)], .int .i64 q] w fun r w' => r = .returned (crashV b m q) ∧ Below w.heap.size w w' := by
  rw [crashV_in hm (crK_low h hm)]
  have hd : (decide (0 ≤ (m : Int)) && decide ((m : Int) ≤ (b.size : Int))) = true := by (try unfold withinB); simp; omega
  have HS : Hid (∀ V, Calls Try.prog 9 #[.int .i64 (m : Int), .int .i64 0, .int .i64 (b.size : Int)] V fun e w' => e = .returned (.bool true) ∧ w' = V) := fun V => by have := specIs m 0 b.size V; rwa [hd] at this
  clear hd
  obtain ⟨w1, hw1⟩ : ∃ w1, w1 = (w.alloc (.cells #[.string b, .int .i64 (m : Int)] 25 (0, 0))).alloc (.cells #[.string ⟨#[]⟩, .int .i64 0] 25 (0, 0)) := ⟨_, rfl⟩
  have r0 : w1.heap[w.heap.size]? = some (.cells [Value.string b, .int .i64 (m : Int)].toArray 25 (0, 0)) := by rw [hw1, Below.heap_alloc _ _ _ (by simp)]; exact heap_alloc_new w _
  have r1 : w1.heap[w.heap.size + 1]? = some (.cells [Value.string ⟨#[]⟩, .int .i64 0].toArray 25 (0, 0)) := by rw [hw1]; exact heap_alloc2 w _ _
  have B1 : Hid (Below w.heap.size w w1) := by rw [hw1]; exact ((Below.refl _ _).alloc (Nat.le_refl _) _).alloc (by simp) _
  have hl1 := run_loadVar_mid (P := Try.prog) _ w.heap.size 0 25 _ _ (rangeRow r0) Try.underlying25 rfl sizeOffice
  have c0 : w1.cell? ⟨w.heap.size, 0, none⟩ = some (.string b) := rowFacts r0 0 _ rfl
  have c1 : w1.cell? ⟨w.heap.size, 1, none⟩ = some (.int .i64 (m : Int)) := rowFacts r0 1 _ rfl
  have HR1 : Hid (w1.heap[w.heap.size + 1]? = some (.cells [Value.string ⟨#[]⟩, .int .i64 0].toArray 25 (0, 0))) := r1
  have HR0 : Hid (w1.heap[w.heap.size]? = some (.cells [Value.string b, .int .i64 (m : Int)].toArray 25 (0, 0))) := r0
  clear r0 r1
  go_enter Try.func5, Try.ntmps5
  go_upto_region 1 with fail
  rw [← hw1]
  clear hw1
  go_wp2_with fail
  refine (HS.out _).mono ?_
  rintro e w2 ⟨rfl, rfl⟩
  have h1 : ∀ v ∈ [Value.string (b.extract 0 m), .int .i64 (m : Int)], v.oneCell' = true := by simp [Value.oneCell']
  have hR := HR1.out
  go_wp2_with (refine wpList_store_row rfl 25 _ _ rfl (w.heap.size + 1) [Value.string ⟨#[]⟩, .int .i64 0] [Value.string (b.extract 0 m), .int .i64 (m : Int)] 25 rfl rfl hR rfl sizeOffice h1 ?_)
  intro w3 hrow ho hs3 hbb
  have B3 : Hid (Below w.heap.size w w3) := hbb _ _ (by omega) B1.out
  have hl := run_loadVar_mid (P := Try.prog) _ (w.heap.size + 1) 0 25 _ _ (rangeRow hrow) Try.underlying25 rfl sizeOffice
  clear ho hs3 hbb h1 hrow hR
  go_wp2
  refine bodyPost_ret (v := .agg [Value.string (b.extract 0 m), .int .i64 (m : Int)].toArray) ?_ rfl ⟨rfl, B3.out⟩
  simp [results, Try.results5, asAddr, hl]
set_option linter.unusedSimpArgs false in
set_option maxHeartbeats 2000000 in
set_option maxRecDepth 100000 in
theorem specCrashMid (b : ByteArray) (m : Nat) (q : Nat) (w : World) (hb : b.size ≤ 1048576) (hm : m ≤ b.size) (h : q < b.size - m) (h0 : 0 < q) :
    Calls Try.prog 5 #[.agg #[.string b, .int .i64 (m : Int)], .int .i64 q] w fun r w' => r = .returned (crashV b m q) ∧ Below w.heap.size w w' := by
  rw [crashV_in hm (crK_mid h hm)]
  have hd : (decide (0 ≤ (m : Int)) && decide ((m : Int) ≤ (b.size : Int))) = true := by (try unfold withinB); simp; omega
  have HS : Hid (∀ V, Calls Try.prog 9 #[.int .i64 (m : Int), .int .i64 0, .int .i64 (b.size : Int)] V fun e w' => e = .returned (.bool true) ∧ w' = V) := fun V => by have := specIs m 0 b.size V; rwa [hd] at this
  clear hd
  obtain ⟨w1, hw1⟩ : ∃ w1, w1 = (w.alloc (.cells #[.string b, .int .i64 (m : Int)] 25 (0, 0))).alloc (.cells #[.string ⟨#[]⟩, .int .i64 0] 25 (0, 0)) := ⟨_, rfl⟩
  have r0 : w1.heap[w.heap.size]? = some (.cells [Value.string b, .int .i64 (m : Int)].toArray 25 (0, 0)) := by rw [hw1, Below.heap_alloc _ _ _ (by simp)]; exact heap_alloc_new w _
  have r1 : w1.heap[w.heap.size + 1]? = some (.cells [Value.string ⟨#[]⟩, .int .i64 0].toArray 25 (0, 0)) := by rw [hw1]; exact heap_alloc2 w _ _
  have B1 : Hid (Below w.heap.size w w1) := by rw [hw1]; exact ((Below.refl _ _).alloc (Nat.le_refl _) _).alloc (by simp) _
  have hl1 := run_loadVar_mid (P := Try.prog) _ w.heap.size 0 25 _ _ (rangeRow r0) Try.underlying25 rfl sizeOffice
  have c0 : w1.cell? ⟨w.heap.size, 0, none⟩ = some (.string b) := rowFacts r0 0 _ rfl
  have c1 : w1.cell? ⟨w.heap.size, 1, none⟩ = some (.int .i64 (m : Int)) := rowFacts r0 1 _ rfl
  have HR1 : Hid (w1.heap[w.heap.size + 1]? = some (.cells [Value.string ⟨#[]⟩, .int .i64 0].toArray 25 (0, 0))) := r1
  have HR0 : Hid (w1.heap[w.heap.size]? = some (.cells [Value.string b, .int .i64 (m : Int)].toArray 25 (0, 0))) := r0
  clear r0 r1
  go_enter Try.func5, Try.ntmps5
  go_upto_region 1 with fail
  rw [← hw1]
  clear hw1
  go_wp2_with fail
  refine (HS.out _).mono ?_
  rintro e w2 ⟨rfl, rfl⟩
  go_wp2_with fail
  refine (specMin _ _ _).mono ?_
  rintro e w2 ⟨rfl, rfl⟩
  rw [show min (q : Int) ((b.size : Int) - m) = q by omega]
  have h1 : ∀ v ∈ [Value.string (b.extract 0 (m + q)), .int .i64 ((m + q : Nat) : Int)], v.oneCell' = true := by simp [Value.oneCell']
  have hR := HR1.out
  go_wp2_with (refine wpList_store_row rfl 25 _ _ rfl (w.heap.size + 1) [Value.string ⟨#[]⟩, .int .i64 0] [Value.string (b.extract 0 (m + q)), .int .i64 ((m + q : Nat) : Int)] 25 rfl rfl hR rfl sizeOffice h1 ?_)
  intro w3 hrow ho hs3 hbb
  have B3 : Hid (Below w.heap.size w w3) := hbb _ _ (by omega) B1.out
  have hl := run_loadVar_mid (P := Try.prog) _ (w.heap.size + 1) 0 25 _ _ (rangeRow hrow) Try.underlying25 rfl sizeOffice
  clear ho hs3 hbb h1 hrow hR
  go_wp2
  refine bodyPost_ret (v := .agg [Value.string (b.extract 0 (m + q)), .int .i64 ((m + q : Nat) : Int)].toArray) ?_ rfl ⟨rfl, B3.out⟩
  simp [results, Try.results5, asAddr, hl]
set_option linter.unusedSimpArgs false in
set_option maxHeartbeats 2000000 in
set_option maxRecDepth 100000 in
theorem specCrashTop (b : ByteArray) (m : Nat) (q : Int) (w : World) (hb : b.size ≤ 1048576) (hm : m ≤ b.size) (h : (b.size : Int) - m ≤ q) (h0 : 0 < q) (hq : q ≤ 9223372036854775807) :
    Calls Try.prog 5 #[.agg #[.string b, .int .i64 (m : Int)], .int .i64 q] w fun r w' => r = .returned (crashV b m q) ∧ Below w.heap.size w w' := by
  obtain ⟨d, hd⟩ : ∃ d : Nat, b.size = m + d := ⟨b.size - m, by omega⟩
  have hle : m + d ≤ b.size := by omega
  have hmin : min q ((b.size : Int) - m) = (d : Int) := by omega
  rw [crashV_in hm ((crK_top h hm).trans hd)]
  clear hd
  have hd : (decide (0 ≤ (m : Int)) && decide ((m : Int) ≤ (b.size : Int))) = true := by (try unfold withinB); simp; omega
  have HS : Hid (∀ V, Calls Try.prog 9 #[.int .i64 (m : Int), .int .i64 0, .int .i64 (b.size : Int)] V fun e w' => e = .returned (.bool true) ∧ w' = V) := fun V => by have := specIs m 0 b.size V; rwa [hd] at this
  clear hd
  obtain ⟨w1, hw1⟩ : ∃ w1, w1 = (w.alloc (.cells #[.string b, .int .i64 (m : Int)] 25 (0, 0))).alloc (.cells #[.string ⟨#[]⟩, .int .i64 0] 25 (0, 0)) := ⟨_, rfl⟩
  have r0 : w1.heap[w.heap.size]? = some (.cells [Value.string b, .int .i64 (m : Int)].toArray 25 (0, 0)) := by rw [hw1, Below.heap_alloc _ _ _ (by simp)]; exact heap_alloc_new w _
  have r1 : w1.heap[w.heap.size + 1]? = some (.cells [Value.string ⟨#[]⟩, .int .i64 0].toArray 25 (0, 0)) := by rw [hw1]; exact heap_alloc2 w _ _
  have B1 : Hid (Below w.heap.size w w1) := by rw [hw1]; exact ((Below.refl _ _).alloc (Nat.le_refl _) _).alloc (by simp) _
  have hl1 := run_loadVar_mid (P := Try.prog) _ w.heap.size 0 25 _ _ (rangeRow r0) Try.underlying25 rfl sizeOffice
  have c0 : w1.cell? ⟨w.heap.size, 0, none⟩ = some (.string b) := rowFacts r0 0 _ rfl
  have c1 : w1.cell? ⟨w.heap.size, 1, none⟩ = some (.int .i64 (m : Int)) := rowFacts r0 1 _ rfl
  have HR1 : Hid (w1.heap[w.heap.size + 1]? = some (.cells [Value.string ⟨#[]⟩, .int .i64 0].toArray 25 (0, 0))) := r1
  have HR0 : Hid (w1.heap[w.heap.size]? = some (.cells [Value.string b, .int .i64 (m : Int)].toArray 25 (0, 0))) := r0
  clear r0 r1
  go_enter Try.func5, Try.ntmps5
  go_upto_region 1 with fail
  rw [← hw1]
  clear hw1
  go_wp2_with fail
  refine (HS.out _).mono ?_
  rintro e w2 ⟨rfl, rfl⟩
  go_wp2_with fail
  refine (specMin _ _ _).mono ?_
  rintro e w2 ⟨rfl, rfl⟩
  rw [hmin]
  clear hmin
  have h1 : ∀ v ∈ [Value.string (b.extract 0 (m + d)), .int .i64 ((m + d : Nat) : Int)], v.oneCell' = true := by simp [Value.oneCell']
  have hR := HR1.out
  go_wp2_with (refine wpList_store_row rfl 25 _ _ rfl (w.heap.size + 1) [Value.string ⟨#[]⟩, .int .i64 0] [Value.string (b.extract 0 (m + d)), .int .i64 ((m + d : Nat) : Int)] 25 rfl rfl hR rfl sizeOffice h1 ?_)
  intro w3 hrow ho hs3 hbb
  have B3 : Hid (Below w.heap.size w w3) := hbb _ _ (by omega) B1.out
  have hl := run_loadVar_mid (P := Try.prog) _ (w.heap.size + 1) 0 25 _ _ (rangeRow hrow) Try.underlying25 rfl sizeOffice
  clear ho hs3 hbb h1 hrow hR
  go_wp2
  refine bodyPost_ret (v := .agg [Value.string (b.extract 0 (m + d)), .int .i64 ((m + d : Nat) : Int)].toArray) ?_ rfl ⟨rfl, B3.out⟩
  simp [results, Try.results5, asAddr, hl]
theorem extract_size (b : ByteArray) (k : Nat) (h : k ≤ b.size) : (b.extract 0 k).size = k := by rw [ByteArray.size_extract]; omega
set_option linter.unusedSimpArgs false in
set_option maxHeartbeats 2000000 in
set_option maxRecDepth 100000 in
theorem implCrashLow (b : ByteArray) (m : Nat) (q : Int) (w : World) (hb : b.size ≤ 1048576) (hm : m ≤ b.size) (h : q < 0) :
    Calls Try.prog 7 #[.agg #[.string b, .int .i64 (m : Int)], .int .i64 q] w fun r w' => r = .returned (crashV b m q) ∧ Below w.heap.size w w' := by
  rw [crashV_in hm (crK_low (Int.le_of_lt h) hm)]
  have HC : Hid (∀ V, Calls Try.prog 13 #[.string (b.extract 0 m)] V fun r w' => r = .returned (.agg #[.string (b.extract 0 m), .int .i64 ((m : Nat) : Int)]) ∧ Below V.heap.size V w') := fun V => by have := syncedOffice (b.extract 0 m) V (by rw [extract_size _ _ (by omega)]; omega); rwa [extract_size _ _ (by omega)] at this
  have hd : withinB m 0 (b.size : Int) = true := by (try unfold withinB); simp; omega
  have HS : Hid (∀ V, Calls Try.prog 11 #[.int .i64 (m : Int), .int .i64 0, .int .i64 (b.size : Int)] V fun e w' => e = .returned (.bool true) ∧ w' = V) := fun V => by have := implWithin m 0 b.size V; rwa [hd] at this
  clear hd
  obtain ⟨w1, hw1⟩ : ∃ w1, w1 = (w.alloc (.cells #[.string b, .int .i64 (m : Int)] 25 (0, 0))).alloc (.cells #[.string ⟨#[]⟩, .int .i64 0] 25 (0, 0)) := ⟨_, rfl⟩
  have r0 : w1.heap[w.heap.size]? = some (.cells [Value.string b, .int .i64 (m : Int)].toArray 25 (0, 0)) := by rw [hw1, Below.heap_alloc _ _ _ (by simp)]; exact heap_alloc_new w _
  have r1 : w1.heap[w.heap.size + 1]? = some (.cells [Value.string ⟨#[]⟩, .int .i64 0].toArray 25 (0, 0)) := by rw [hw1]; exact heap_alloc2 w _ _
  have B1 : Hid (Below w.heap.size w w1) := by rw [hw1]; exact ((Below.refl _ _).alloc (Nat.le_refl _) _).alloc (by simp) _
  have hl1 := run_loadVar_mid (P := Try.prog) _ w.heap.size 0 25 _ _ (rangeRow r0) Try.underlying25 rfl sizeOffice
  have c0 : w1.cell? ⟨w.heap.size, 0, none⟩ = some (.string b) := rowFacts r0 0 _ rfl
  have c1 : w1.cell? ⟨w.heap.size, 1, none⟩ = some (.int .i64 (m : Int)) := rowFacts r0 1 _ rfl
  have HR1 : Hid (w1.heap[w.heap.size + 1]? = some (.cells [Value.string ⟨#[]⟩, .int .i64 0].toArray 25 (0, 0))) := r1
  have HR0 : Hid (w1.heap[w.heap.size]? = some (.cells [Value.string b, .int .i64 (m : Int)].toArray 25 (0, 0))) := r0
  clear r0 r1
  go_enter Try.func7, Try.ntmps7
  go_upto_region 1 with fail
  rw [← hw1]
  clear hw1
  go_wp2_with fail
  refine (HS.out _).mono ?_
  rintro e w2 ⟨rfl, rfl⟩
  go_wp2_with fail
  refine (HC.out _).mono ?_
  rintro e w4 ⟨rfl, b4⟩
  have B4 : Hid (Below w.heap.size w w4) := B1.out.trans (b4.mono B1.out.size)
  have HR4 : Hid (w4.heap[w.heap.size + 1]? = some (.cells [Value.string ⟨#[]⟩, .int .i64 0].toArray 25 (0, 0))) := (b4.block _ (heap_lt HR1.out)).trans HR1.out
  clear b4
  have h1 : ∀ v ∈ [Value.string (b.extract 0 m), .int .i64 ((m : Nat) : Int)], v.oneCell' = true := by simp [Value.oneCell']
  have hR := HR4.out
  go_wp2_with (refine wpList_store_row rfl 25 _ _ rfl (w.heap.size + 1) [Value.string ⟨#[]⟩, .int .i64 0] [Value.string (b.extract 0 m), .int .i64 ((m : Nat) : Int)] 25 rfl rfl hR rfl sizeOffice h1 ?_)
  intro w3 hrow ho hs3 hbb
  have B3 : Hid (Below w.heap.size w w3) := hbb _ _ (by omega) B4.out
  have hl := run_loadVar_mid (P := Try.prog) _ (w.heap.size + 1) 0 25 _ _ (rangeRow hrow) Try.underlying25 rfl sizeOffice
  clear ho hs3 hbb h1 hrow hR
  go_wp2
  refine bodyPost_ret (v := .agg [Value.string (b.extract 0 m), .int .i64 ((m : Nat) : Int)].toArray) ?_ rfl ⟨rfl, B3.out⟩
  simp [results, Try.results7, asAddr, hl]
set_option linter.unusedSimpArgs false in
set_option maxHeartbeats 2000000 in
set_option maxRecDepth 100000 in
theorem implCrashMid (b : ByteArray) (m : Nat) (q : Nat) (w : World) (hb : b.size ≤ 1048576) (hm : m ≤ b.size) (h : q ≤ b.size - m) :
    Calls Try.prog 7 #[.agg #[.string b, .int .i64 (m : Int)], .int .i64 q] w fun r w' => r = .returned (crashV b m q) ∧ Below w.heap.size w w' := by
  rw [crashV_in hm (crK_le h hm)]
  have HC : Hid (∀ V, Calls Try.prog 13 #[.string (b.extract 0 (m + q))] V fun r w' => r = .returned (.agg #[.string (b.extract 0 (m + q)), .int .i64 (((m + q) : Nat) : Int)]) ∧ Below V.heap.size V w') := fun V => by have := syncedOffice (b.extract 0 (m + q)) V (by rw [extract_size _ _ (by omega)]; omega); rwa [extract_size _ _ (by omega)] at this
  have hd : withinB m 0 (b.size : Int) = true := by (try unfold withinB); simp; omega
  have HS : Hid (∀ V, Calls Try.prog 11 #[.int .i64 (m : Int), .int .i64 0, .int .i64 (b.size : Int)] V fun e w' => e = .returned (.bool true) ∧ w' = V) := fun V => by have := implWithin m 0 b.size V; rwa [hd] at this
  clear hd
  obtain ⟨w1, hw1⟩ : ∃ w1, w1 = (w.alloc (.cells #[.string b, .int .i64 (m : Int)] 25 (0, 0))).alloc (.cells #[.string ⟨#[]⟩, .int .i64 0] 25 (0, 0)) := ⟨_, rfl⟩
  have r0 : w1.heap[w.heap.size]? = some (.cells [Value.string b, .int .i64 (m : Int)].toArray 25 (0, 0)) := by rw [hw1, Below.heap_alloc _ _ _ (by simp)]; exact heap_alloc_new w _
  have r1 : w1.heap[w.heap.size + 1]? = some (.cells [Value.string ⟨#[]⟩, .int .i64 0].toArray 25 (0, 0)) := by rw [hw1]; exact heap_alloc2 w _ _
  have B1 : Hid (Below w.heap.size w w1) := by rw [hw1]; exact ((Below.refl _ _).alloc (Nat.le_refl _) _).alloc (by simp) _
  have hl1 := run_loadVar_mid (P := Try.prog) _ w.heap.size 0 25 _ _ (rangeRow r0) Try.underlying25 rfl sizeOffice
  have c0 : w1.cell? ⟨w.heap.size, 0, none⟩ = some (.string b) := rowFacts r0 0 _ rfl
  have c1 : w1.cell? ⟨w.heap.size, 1, none⟩ = some (.int .i64 (m : Int)) := rowFacts r0 1 _ rfl
  have HR1 : Hid (w1.heap[w.heap.size + 1]? = some (.cells [Value.string ⟨#[]⟩, .int .i64 0].toArray 25 (0, 0))) := r1
  have HR0 : Hid (w1.heap[w.heap.size]? = some (.cells [Value.string b, .int .i64 (m : Int)].toArray 25 (0, 0))) := r0
  clear r0 r1
  go_enter Try.func7, Try.ntmps7
  go_upto_region 1 with fail
  rw [← hw1]
  clear hw1
  go_wp2_with fail
  refine (HS.out _).mono ?_
  rintro e w2 ⟨rfl, rfl⟩
  go_wp2_with fail
  refine (HC.out _).mono ?_
  rintro e w4 ⟨rfl, b4⟩
  have B4 : Hid (Below w.heap.size w w4) := B1.out.trans (b4.mono B1.out.size)
  have HR4 : Hid (w4.heap[w.heap.size + 1]? = some (.cells [Value.string ⟨#[]⟩, .int .i64 0].toArray 25 (0, 0))) := (b4.block _ (heap_lt HR1.out)).trans HR1.out
  clear b4
  have h1 : ∀ v ∈ [Value.string (b.extract 0 (m + q)), .int .i64 (((m + q) : Nat) : Int)], v.oneCell' = true := by simp [Value.oneCell']
  have hR := HR4.out
  go_wp2_with (refine wpList_store_row rfl 25 _ _ rfl (w.heap.size + 1) [Value.string ⟨#[]⟩, .int .i64 0] [Value.string (b.extract 0 (m + q)), .int .i64 (((m + q) : Nat) : Int)] 25 rfl rfl hR rfl sizeOffice h1 ?_)
  intro w3 hrow ho hs3 hbb
  have B3 : Hid (Below w.heap.size w w3) := hbb _ _ (by omega) B4.out
  have hl := run_loadVar_mid (P := Try.prog) _ (w.heap.size + 1) 0 25 _ _ (rangeRow hrow) Try.underlying25 rfl sizeOffice
  clear ho hs3 hbb h1 hrow hR
  go_wp2
  refine bodyPost_ret (v := .agg [Value.string (b.extract 0 (m + q)), .int .i64 (((m + q) : Nat) : Int)].toArray) ?_ rfl ⟨rfl, B3.out⟩
  simp [results, Try.results7, asAddr, hl]
set_option linter.unusedSimpArgs false in
set_option maxHeartbeats 2000000 in
set_option maxRecDepth 100000 in
theorem implCrashTop (b : ByteArray) (m : Nat) (q : Int) (w : World) (hb : b.size ≤ 1048576) (hm : m ≤ b.size) (h : (b.size : Int) - m < q) (h0 : 0 ≤ q) (hq : q ≤ 9223372036854775807) :
    Calls Try.prog 7 #[.agg #[.string b, .int .i64 (m : Int)], .int .i64 q] w fun r w' => r = .returned (crashV b m q) ∧ Below w.heap.size w w' := by
  obtain ⟨d, hd⟩ : ∃ d : Nat, b.size = m + d := ⟨b.size - m, by omega⟩
  have hle : m + d ≤ b.size := by omega
  have hsub : (b.size : Int) - m = (d : Int) := by omega
  have hdq : (d : Int) < q := by omega
  rw [crashV_in hm ((crK_top (Int.le_of_lt h) hm).trans hd)]
  clear hd
  have HC : Hid (∀ V, Calls Try.prog 13 #[.string (b.extract 0 (m + d))] V fun r w' => r = .returned (.agg #[.string (b.extract 0 (m + d)), .int .i64 (((m + d) : Nat) : Int)]) ∧ Below V.heap.size V w') := fun V => by have := syncedOffice (b.extract 0 (m + d)) V (by rw [extract_size _ _ (by omega)]; omega); rwa [extract_size _ _ (by omega)] at this
  have hd : withinB m 0 (b.size : Int) = true := by (try unfold withinB); simp; omega
  have HS : Hid (∀ V, Calls Try.prog 11 #[.int .i64 (m : Int), .int .i64 0, .int .i64 (b.size : Int)] V fun e w' => e = .returned (.bool true) ∧ w' = V) := fun V => by have := implWithin m 0 b.size V; rwa [hd] at this
  clear hd
  obtain ⟨w1, hw1⟩ : ∃ w1, w1 = (w.alloc (.cells #[.string b, .int .i64 (m : Int)] 25 (0, 0))).alloc (.cells #[.string ⟨#[]⟩, .int .i64 0] 25 (0, 0)) := ⟨_, rfl⟩
  have r0 : w1.heap[w.heap.size]? = some (.cells [Value.string b, .int .i64 (m : Int)].toArray 25 (0, 0)) := by rw [hw1, Below.heap_alloc _ _ _ (by simp)]; exact heap_alloc_new w _
  have r1 : w1.heap[w.heap.size + 1]? = some (.cells [Value.string ⟨#[]⟩, .int .i64 0].toArray 25 (0, 0)) := by rw [hw1]; exact heap_alloc2 w _ _
  have B1 : Hid (Below w.heap.size w w1) := by rw [hw1]; exact ((Below.refl _ _).alloc (Nat.le_refl _) _).alloc (by simp) _
  have hl1 := run_loadVar_mid (P := Try.prog) _ w.heap.size 0 25 _ _ (rangeRow r0) Try.underlying25 rfl sizeOffice
  have c0 : w1.cell? ⟨w.heap.size, 0, none⟩ = some (.string b) := rowFacts r0 0 _ rfl
  have c1 : w1.cell? ⟨w.heap.size, 1, none⟩ = some (.int .i64 (m : Int)) := rowFacts r0 1 _ rfl
  have HR1 : Hid (w1.heap[w.heap.size + 1]? = some (.cells [Value.string ⟨#[]⟩, .int .i64 0].toArray 25 (0, 0))) := r1
  have HR0 : Hid (w1.heap[w.heap.size]? = some (.cells [Value.string b, .int .i64 (m : Int)].toArray 25 (0, 0))) := r0
  clear r0 r1
  go_enter Try.func7, Try.ntmps7
  go_upto_region 1 with fail
  rw [← hw1]
  clear hw1
  go_wp2_with fail
  refine (HS.out _).mono ?_
  rintro e w2 ⟨rfl, rfl⟩
  go_wp2_with fail
  refine (HC.out _).mono ?_
  rintro e w4 ⟨rfl, b4⟩
  have B4 : Hid (Below w.heap.size w w4) := B1.out.trans (b4.mono B1.out.size)
  have HR4 : Hid (w4.heap[w.heap.size + 1]? = some (.cells [Value.string ⟨#[]⟩, .int .i64 0].toArray 25 (0, 0))) := (b4.block _ (heap_lt HR1.out)).trans HR1.out
  clear b4
  have h1 : ∀ v ∈ [Value.string (b.extract 0 (m + d)), .int .i64 (((m + d) : Nat) : Int)], v.oneCell' = true := by simp [Value.oneCell']
  have hR := HR4.out
  go_wp2_with (refine wpList_store_row rfl 25 _ _ rfl (w.heap.size + 1) [Value.string ⟨#[]⟩, .int .i64 0] [Value.string (b.extract 0 (m + d)), .int .i64 (((m + d) : Nat) : Int)] 25 rfl rfl hR rfl sizeOffice h1 ?_)
  intro w3 hrow ho hs3 hbb
  have B3 : Hid (Below w.heap.size w w3) := hbb _ _ (by omega) B4.out
  have hl := run_loadVar_mid (P := Try.prog) _ (w.heap.size + 1) 0 25 _ _ (rangeRow hrow) Try.underlying25 rfl sizeOffice
  clear ho hs3 hbb h1 hrow hR
  go_wp2
  refine bodyPost_ret (v := .agg [Value.string (b.extract 0 (m + d)), .int .i64 (((m + d) : Nat) : Int)].toArray) ?_ rfl ⟨rfl, B3.out⟩
  simp [results, Try.results7, asAddr, hl]
theorem specCrash (b : ByteArray) (n q : Int) (w : World) (hb : b.size ≤ 1048576) (hq : q ≤ 9223372036854775807) :
    Calls Try.prog 5 #[.agg #[.string b, .int .i64 n], .int .i64 q] w fun r w' => r = .returned (crashV b n q) ∧ Below w.heap.size w w' := by
  by_cases h : 0 ≤ n ∧ n ≤ (b.size : Int)
  · obtain ⟨m, rfl⟩ : ∃ m : Nat, n = m := ⟨n.toNat, by omega⟩
    by_cases h1 : q ≤ 0
    · exact specCrashLow b m q w hb (by omega) h1
    · by_cases h2 : q < (b.size : Int) - m
      · obtain ⟨p, rfl⟩ : ∃ p : Nat, q = p := ⟨q.toNat, by omega⟩
        exact specCrashMid b m p w hb (by omega) (by omega) (by omega)
      · exact specCrashTop b m q w hb (by omega) (by omega) (by omega) hq
  · have e : crashV b n q = .agg #[.string b, .int .i64 n] := if_neg h
    rw [e]
    exact specCrashNo b n q w hb h
theorem implCrash (b : ByteArray) (n q : Int) (w : World) (hb : b.size ≤ 1048576) (hq : q ≤ 9223372036854775807) :
    Calls Try.prog 7 #[.agg #[.string b, .int .i64 n], .int .i64 q] w fun r w' => r = .returned (crashV b n q) ∧ Below w.heap.size w w' := by
  by_cases h : 0 ≤ n ∧ n ≤ (b.size : Int)
  · obtain ⟨m, rfl⟩ : ∃ m : Nat, n = m := ⟨n.toNat, by omega⟩
    by_cases h1 : q < 0
    · exact implCrashLow b m q w hb (by omega) h1
    · by_cases h2 : q ≤ (b.size : Int) - m
      · obtain ⟨p, rfl⟩ : ∃ p : Nat, q = p := ⟨q.toNat, by omega⟩
        exact implCrashMid b m p w hb (by omega) (by omega)
      · exact implCrashTop b m q w hb (by omega) (by omega) (by omega) hq
  · have e : crashV b n q = .agg #[.string b, .int .i64 n] := if_neg h
    rw [e]
    exact implCrashNo b n q w hb h
theorem crashV_is (b : ByteArray) (n q : Int) : ∃ c m, crashV b n q = .agg #[.string c, .int .i64 m] := by
  unfold crashV offV
  split
  · exact ⟨_, _, rfl⟩
  · exact ⟨_, _, rfl⟩
end Go.Proofs.Ythpcnakkhghaeaa
