/- impl.Base64Read, spec.Base64Read, walked. -/
import Derived.Test.YtiflnlaapkbofaaB64V
import Derived.Test.YtiflnlaapkbofaaB64X
import Derived.Test.YtiflnlaapkbofaaB64J
import Derived.Test.YtiflnlaapkbofaaB64K
import Derived.Test.YtiflnlaapkbofaaLong
import Derived.Test.YtiflnlaapkbofaaStoreR
import Derived.Deep.MidRow
namespace Go.Proofs.Ytiflnlaapkbofaa
open Go.RowKit Go.Lib

theorem sizeTextOut : (Try.prog.info? 25).map (·.size) = some 3 := by kernel_rfl
def txtV (x : ByteArray × Int) : Value := .agg #[.string x.1, .int .i64 0, .int .i64 x.2]
set_option linter.unusedSimpArgs false in
set_option maxHeartbeats 4000000 in
set_option maxRecDepth 100000 in
theorem specBase64Read (s : ByteArray) (w : World) (hm : s.size ≤ maxLen) :
    Calls Try.prog 7 #[.string s] w fun e w' => e = .returned (txtV (readTD s)) ∧ Below w.heap.size w w' := by
  unfold maxLen at hm
  obtain ⟨w1, hw1⟩ : ∃ y, y = w.alloc (.cells #[.string ⟨#[]⟩, .int .i64 0, .int .i64 0] 25 (0, 0)) := ⟨_, rfl⟩
  have hz : w1.heap.size = w.heap.size + 1 := by rw [hw1]; simp
  have hg1 : w1.heap[w.heap.size]? = some (.cells [Value.string ⟨#[]⟩, .int .i64 0, .int .i64 0].toArray 25 (0, 0)) := by rw [hw1]; exact heap_alloc_new w _
  have hB1 : Below w.heap.size w w1 := by rw [hw1]; exact (Below.refl _ w).alloc (Nat.le_refl _) _
  have HB : Hid (∀ V, Below w1.heap.size w1 V → Below w.heap.size w V) := fun V hV => hB1.trans (hV.mono (by omega))
  have HRes : Hid (∀ V, Below w1.heap.size w1 V → V.heap[w.heap.size]? = some (.cells [Value.string ⟨#[]⟩, .int .i64 0, .int .i64 0].toArray 25 (0, 0))) := fun V hV => by rw [hV.block _ (by omega)]; exact hg1
  have I1 : Hid (Below w1.heap.size w1 w1) := Below.refl _ _
  have Z1 : Hid (w1.heap.size = w.heap.size + 1) := hz
  clear hg1 hB1 hz
  by_cases hl : 20000 < s.size
  · have HF : Hid (readTD s = (⟨#[]⟩, 2)) := by show _ = _; rw [readTD, if_pos hl]
    go_enter Try.func7, Try.ntmps7
    go_upto_region 2 with fail
    rw [← hw1]
    clear hw1
    go_wp2_with (refine wpList_store_row rfl 25 _ _ rfl (w.heap.size) _ [Value.string ⟨#[]⟩, .int .i64 0, .int .i64 2] 25 rfl rfl (HRes.out _ I1.out) rfl sizeTextOut (by simp [Value.oneCell']) ?_)
    intro w8 hrow ho hs8 hbb
    have HROW : Hid _ := hrow
    have HB8 : Hid (Below w.heap.size w w8) := hbb _ _ (Nat.le_refl _) (HB.out _ I1.out)
    clear ho hs8 hbb hrow
    go_wp2
    refine bodyPost_ret (v := .agg [Value.string ⟨#[]⟩, .int .i64 0, .int .i64 2].toArray) ?_ rfl ⟨by rw [HF.out]; rfl, HB8.out⟩
    have hl3 := run_loadVar_mid (P := Try.prog) _ (w.heap.size) 0 25 _ _ (rangeRow HROW.out) Try.underlying25 rfl sizeTextOut
    simp [results, Try.results7, asAddr, hl3]
  have HL : Hid (∀ V, Calls Try.prog 12 #[.string s] V fun e w' => e = .returned (.tuple #[.string (readLT s).1, .bool (readLT s).2]) ∧ Below V.heap.size V w') := fun V => specReadL s V (by omega)
  have hE : readTD s = if (readLT s).2 = true then ((readLT s).1, 0) else (⟨#[]⟩, 3) := by
    unfold readTD readLT
    rw [if_neg hl]
    cases hv : readV (bts s) with
    | none => rfl
    | some vs =>
      have hr := read_same hv
      simp only [decide_eq_true_eq]
      by_cases h : base64D (natT (rgi vs 0 0).1) = s
      · rw [if_pos h, if_pos (hr.1 h)]
      · rw [if_neg h, if_neg (fun h' => h (hr.2 h'))]
  obtain ⟨⟨X, ok⟩, hX⟩ : ∃ x, x = readLT s := ⟨_, rfl⟩
  rw [← hX] at HL hE
  simp only at HL hE
  have HE : Hid (readTD s = if ok = true then (X, 0) else (⟨#[]⟩, 3)) := hE
  clear hX hE
  go_enter Try.func7, Try.ntmps7
  go_wp2_with fail
  rw [← hw1]
  refine (HL.out w1).mono ?_
  rintro e w2 ⟨rfl, b2⟩
  have K2 : Hid (Below w1.heap.size w1 w2) := b2
  clear b2 hw1 HL
  cases ok with
  | false =>
    have HF : Hid (readTD s = (⟨#[]⟩, 3)) := by show _ = _; rw [HE.out]; rfl
    go_wp2_with (refine wpList_store_row rfl 25 _ _ rfl (w.heap.size) _ [Value.string ⟨#[]⟩, .int .i64 0, .int .i64 3] 25 rfl rfl (HRes.out _ K2.out) rfl sizeTextOut (by simp [Value.oneCell']) ?_)
    intro w8 hrow ho hs8 hbb
    have HROW : Hid _ := hrow
    have HB8 : Hid (Below w.heap.size w w8) := hbb _ _ (Nat.le_refl _) (HB.out _ K2.out)
    clear ho hs8 hbb hrow
    go_wp2
    refine bodyPost_ret (v := .agg [Value.string ⟨#[]⟩, .int .i64 0, .int .i64 3].toArray) ?_ rfl ⟨by rw [HF.out]; rfl, HB8.out⟩
    have hl3 := run_loadVar_mid (P := Try.prog) _ (w.heap.size) 0 25 _ _ (rangeRow HROW.out) Try.underlying25 rfl sizeTextOut
    simp [results, Try.results7, asAddr, hl3]
  | true =>
    have HF : Hid (readTD s = (X, 0)) := by show _ = _; rw [HE.out]; rfl
    go_wp2_with (refine wpList_store_row rfl 25 _ _ rfl (w.heap.size) _ [Value.string X, .int .i64 0, .int .i64 0] 25 rfl rfl (HRes.out _ K2.out) rfl sizeTextOut (by simp [Value.oneCell']) ?_)
    intro w8 hrow ho hs8 hbb
    have HROW : Hid _ := hrow
    have HB8 : Hid (Below w.heap.size w w8) := hbb _ _ (Nat.le_refl _) (HB.out _ K2.out)
    clear ho hs8 hbb hrow
    go_wp2
    refine bodyPost_ret (v := .agg [Value.string X, .int .i64 0, .int .i64 0].toArray) ?_ rfl ⟨by rw [HF.out]; rfl, HB8.out⟩
    have hl3 := run_loadVar_mid (P := Try.prog) _ (w.heap.size) 0 25 _ _ (rangeRow HROW.out) Try.underlying25 rfl sizeTextOut
    simp [results, Try.results7, asAddr, hl3]
set_option linter.unusedSimpArgs false in
set_option maxHeartbeats 4000000 in
set_option maxRecDepth 100000 in
theorem implBase64Read (s : ByteArray) (w : World) (hm : s.size ≤ maxLen) :
    Calls Try.prog 8 #[.string s] w fun e w' => e = .returned (txtV (readTD s)) ∧ Below w.heap.size w w' := by
  obtain ⟨w1, hw1⟩ : ∃ y, y = w.alloc (.cells #[.string ⟨#[]⟩, .int .i64 0, .int .i64 0] 25 (0, 0)) := ⟨_, rfl⟩
  have hz : w1.heap.size = w.heap.size + 1 := by rw [hw1]; simp
  have hg1 : w1.heap[w.heap.size]? = some (.cells [Value.string ⟨#[]⟩, .int .i64 0, .int .i64 0].toArray 25 (0, 0)) := by rw [hw1]; exact heap_alloc_new w _
  have hB1 : Below w.heap.size w w1 := by rw [hw1]; exact (Below.refl _ w).alloc (Nat.le_refl _) _
  have HB : Hid (∀ V, Below w1.heap.size w1 V → Below w.heap.size w V) := fun V hV => hB1.trans (hV.mono (by omega))
  have HRes : Hid (∀ V, Below w1.heap.size w1 V → V.heap[w.heap.size]? = some (.cells [Value.string ⟨#[]⟩, .int .i64 0, .int .i64 0].toArray 25 (0, 0))) := fun V hV => by rw [hV.block _ (by omega)]; exact hg1
  have I1 : Hid (Below w1.heap.size w1 w1) := Below.refl _ _
  have Z1 : Hid (w1.heap.size = w.heap.size + 1) := hz
  clear hg1 hB1 hz
  have HLg : Hid (∀ V, Calls Try.prog 13 #[.string s] V fun e w' => e = .returned (.bool (decide (20000 < s.size))) ∧ w' = V) := fun V => tooLong s V hm
  by_cases hl : 20000 < s.size
  · have HF : Hid (readTD s = (⟨#[]⟩, 2)) := by show _ = _; rw [readTD, if_pos hl]
    rw [decide_eq_true hl] at HLg
    clear hl
    go_enter Try.func8, Try.ntmps8
    go_wp2_with fail
    rw [← hw1]
    refine (HLg.out w1).mono ?_
    rintro e w2 ⟨rfl, rfl⟩
    clear hw1
    go_wp2_with (refine wpList_store_row rfl 25 _ _ rfl (w.heap.size) _ [Value.string ⟨#[]⟩, .int .i64 0, .int .i64 2] 25 rfl rfl (HRes.out _ I1.out) rfl sizeTextOut (by simp [Value.oneCell']) ?_)
    intro w8 hrow ho hs8 hbb
    have HROW : Hid _ := hrow
    have HB8 : Hid (Below w.heap.size w w8) := hbb _ _ (Nat.le_refl _) (HB.out _ I1.out)
    clear ho hs8 hbb hrow
    go_wp2
    refine bodyPost_ret (v := .agg [Value.string ⟨#[]⟩, .int .i64 0, .int .i64 2].toArray) ?_ rfl ⟨by rw [HF.out]; rfl, HB8.out⟩
    have hl3 := run_loadVar_mid (P := Try.prog) _ (w.heap.size) 0 25 _ _ (rangeRow HROW.out) Try.underlying25 rfl sizeTextOut
    simp [results, Try.results8, asAddr, hl3]
  rw [decide_eq_false hl] at HLg
  have HS : Hid (∀ V, Calls Try.prog 14 #[.string s] V fun e w' => ∃ v, e = .returned (.tuple #[v, .bool (readV (bts s)).isSome]) ∧ OwnB w' V.heap.size v ((readV (bts s)).getD []) ∧ Below V.heap.size V w') := fun V => implReadSigns s V (by omega)
  have hE : readTD s = match readV (bts s) with
    | none => (⟨#[]⟩, 3)
    | some vs => if base64D (natT (rgi vs 0 0).1) = s then (natT (rgi vs 0 0).1, 0) else (⟨#[]⟩, 3) := by
    rw [readTD, if_neg hl]
    cases readV (bts s) <;> rfl
  cases hv : readV (bts s) with
  | none =>
    have HF : Hid (readTD s = (⟨#[]⟩, 3)) := by show _ = _; rw [hE, hv]
    rw [hv] at HS
    clear hE hv hl
    go_enter Try.func8, Try.ntmps8
    go_wp2_with fail
    rw [← hw1]
    refine (HLg.out w1).mono ?_
    rintro e w2 ⟨rfl, rfl⟩
    clear hw1
    go_wp2_with fail
    refine (HS.out _).mono ?_
    rintro e w3 ⟨v, rfl, o3, b3⟩
    have K3 : Hid (Below w2.heap.size w2 w3) := b3
    clear b3 o3
    go_wp2_with (refine wpList_store_row rfl 25 _ _ rfl (w.heap.size) _ [Value.string ⟨#[]⟩, .int .i64 0, .int .i64 3] 25 rfl rfl (HRes.out _ K3.out) rfl sizeTextOut (by simp [Value.oneCell']) ?_)
    intro w8 hrow ho hs8 hbb
    have HROW : Hid _ := hrow
    have HB8 : Hid (Below w.heap.size w w8) := hbb _ _ (Nat.le_refl _) (HB.out _ K3.out)
    clear ho hs8 hbb hrow
    go_wp2
    refine bodyPost_ret (v := .agg [Value.string ⟨#[]⟩, .int .i64 0, .int .i64 3].toArray) ?_ rfl ⟨by rw [HF.out]; rfl, HB8.out⟩
    have hl3 := run_loadVar_mid (P := Try.prog) _ (w.heap.size) 0 25 _ _ (rangeRow HROW.out) Try.underlying25 rfl sizeTextOut
    simp [results, Try.results8, asAddr, hl3]
  | some vs =>
  rw [hv] at HS hE
  simp only at hE
  have hvl := readV_len _ _ hv
  rw [bts_len] at hvl
  have hv64 := readV_lt _ _ hv
  have HRg : Hid (∀ V a cap, IsBts V a vs → Calls Try.prog 11 #[.slice a vs.length cap, .int .i64 6, .int .i64 8] V fun e w' => ∃ v, e = .returned (.tuple #[v, .int .u8 (((rgi vs 0 0).2.1 : Nat) : Int), .int .i64 (((rgi vs 0 0).2.2 : Nat) : Int)]) ∧ OwnB w' V.heap.size v (rgi vs 0 0).1 ∧ Below V.heap.size V w') := fun V a cap h => implRegroup68 vs a cap V (by omega) hv64 h
  have hrl := rgi_len vs 0 0
  obtain ⟨⟨R, RH, RC⟩, hR⟩ : ∃ R, R = rgi vs 0 0 := ⟨_, rfl⟩
  rw [← hR] at HRg hE hrl
  simp only at HRg hE hrl
  have HBa : Hid (∀ V, Calls Try.prog 6 #[.string (natT R)] V fun e w' => e = .returned (.string (base64D (natT R))) ∧ Below V.heap.size V w') := fun V => implBase64 (natT R) V (by rw [natT_size]; unfold maxLen; omega)
  have HE : Hid (readTD s = if base64D (natT R) = s then (natT R, 0) else (⟨#[]⟩, 3)) := hE
  clear hE hv hl hvl hv64 hR hrl hm
  go_enter Try.func8, Try.ntmps8
  go_wp2_with fail
  rw [← hw1]
  refine (HLg.out w1).mono ?_
  rintro e w2 ⟨rfl, rfl⟩
  clear hw1
  go_wp2_with fail
  refine (HS.out _).mono ?_
  rintro e w3 ⟨v, rfl, o3, b3⟩
  have K3 : Hid (Below w2.heap.size w2 w3) := b3
  have O3 : Hid (OwnB w3 w2.heap.size v vs) := o3
  clear b3 o3 HS HLg
  obtain ⟨va, vc, rfl, _⟩ := OwnB.form O3.out
  go_wp2_with fail
  refine (HRg.out w3 va vc O3.out.bts).mono ?_
  rintro e w4 ⟨y, rfl, o4, b4⟩
  have K4 : Hid (Below w2.heap.size w2 w4) := K3.out.trans (b4.mono K3.out.size)
  have hcv := run_convert_own (P := Try.prog) (src := 28) (dst := 9) Try.underlying28 Try.underlying5 Try.underlying9 o4
  have hnt : strOfNums (R.map fun x : Nat => (x : Int)) = natT R := rfl
  rw [hnt] at hcv
  clear b4 o4 O3 K3 HRg hnt
  generalize natT R = N at *
  go_wp2_with fail
  refine (HBa.out w4).mono ?_
  rintro e w5 ⟨rfl, b5⟩
  have K5 : Hid (Below w2.heap.size w2 w5) := K4.out.trans (b5.mono K4.out.size)
  clear b5 K4 HBa hcv
  generalize base64D N = BT at *
  by_cases hY : BT = s
  rotate_left
  · have HF : Hid (readTD s = (⟨#[]⟩, 3)) := by show _ = _; rw [HE.out, if_neg hY]
    have e1 : (BT.toList == s.toList) = false := by rw [same_text', decide_eq_false hY]
    have e2 : (BT.toList != s.toList) = true := by rw [bne, e1]; rfl
    go_wp2_with (refine wpList_store_row rfl 25 _ _ rfl (w.heap.size) _ [Value.string ⟨#[]⟩, .int .i64 0, .int .i64 3] 25 rfl rfl (HRes.out _ K5.out) rfl sizeTextOut (by simp [Value.oneCell']) ?_)
    intro w8 hrow ho hs8 hbb
    have HROW : Hid _ := hrow
    have HB8 : Hid (Below w.heap.size w w8) := hbb _ _ (Nat.le_refl _) (HB.out _ K5.out)
    clear ho hs8 hbb hrow
    go_wp2
    refine bodyPost_ret (v := .agg [Value.string ⟨#[]⟩, .int .i64 0, .int .i64 3].toArray) ?_ rfl ⟨by rw [HF.out]; rfl, HB8.out⟩
    have hl3 := run_loadVar_mid (P := Try.prog) _ (w.heap.size) 0 25 _ _ (rangeRow HROW.out) Try.underlying25 rfl sizeTextOut
    simp [results, Try.results8, asAddr, hl3]
  have HF : Hid (readTD s = (N, 0)) := by show _ = _; rw [HE.out, if_pos hY]
  have e2 : (BT.toList != s.toList) = false := by rw [bne, same_text', decide_eq_true hY]; rfl
  go_wp2_with (refine wpList_store_row rfl 25 _ _ rfl (w.heap.size) _ [Value.string N, .int .i64 0, .int .i64 0] 25 rfl rfl (HRes.out _ K5.out) rfl sizeTextOut (by simp [Value.oneCell']) ?_)
  intro w8 hrow ho hs8 hbb
  have HROW : Hid _ := hrow
  have HB8 : Hid (Below w.heap.size w w8) := hbb _ _ (Nat.le_refl _) (HB.out _ K5.out)
  clear ho hs8 hbb hrow
  go_wp2
  refine bodyPost_ret (v := .agg [Value.string N, .int .i64 0, .int .i64 0].toArray) ?_ rfl ⟨by rw [HF.out]; rfl, HB8.out⟩
  have hl3 := run_loadVar_mid (P := Try.prog) _ (w.heap.size) 0 25 _ _ (rangeRow HROW.out) Try.underlying25 rfl sizeTextOut
  simp [results, Try.results8, asAddr, hl3]
end Go.Proofs.Ytiflnlaapkbofaa
