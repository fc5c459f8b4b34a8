/- spec.CsrRead, walked; it tells what the program tells. Names' things come back. Plain mathematics: no program is named here. Lists of what is taken back come back when they are read. Plain mathematics: no program is named here. What the specification's readers read of a list that was laid. Plain mathematics: no program is named here. impl.serialsRight, putSerials, walked. -/
import Derived.Test.YtkhdjmjbdpmdnaaGreatDoorCR23
import Derived.Test.YtkhdjmjbdpmdnaaGreatDoorCR29
import Derived.Test.YtkhdjmjbdpmdnaaGreatDoorCR19
import Derived.Test.YtkhdjmjbdpmdnaaGreatDoorCR06
import Derived.Test.YtkhdjmjbdpmdnaaGreatDoorCR22
import Derived.Test.YtkhdjmjbdpmdnaaGreatDoorCR26
import Derived.Deep.Cut
namespace Go.Proofs.YtkhdjmjbdpmdnaaGreatDoor
open Go.RowKit

theorem askS_fit (s : ByteArray) : (askS s).names.length ≤ 1048576 ∧ totS (askS s).names (askS s).names.length ≤ 1048576 := by
  obtain ⟨hl, hb, h1, h2, h3⟩ : ∃ l b, (askS s).names = hostsR l b ∧ l.length ≤ 60 ∧ ∀ q ∈ l, q.2.size ≤ 4000 := by
    refine ⟨_, _, rfl, ?_, ?_⟩
    · exact allD_len _
    · exact allD_4000 _
  rw [h1]
  have h4 := hostsR_len hl hb
  have h5 := totS_le (hostsR hl hb) 4000 (hostsR_each hl hb h3) _ (Nat.le_refl _)
  generalize totS (hostsR hl hb) (hostsR hl hb).length = T at *
  generalize (hostsR hl hb).length = n at *
  omega
theorem askS_sk (s : ByteArray) : (askS s).sk = (askS s).key := by simp only [askS]
/-- What the specification tells of a text. -/
noncomputable def csrS (s : ByteArray) : Ask × Int :=
  if 20000 < s.size then (zeroA, 2)
  else if formB (askS s) = true ∧ askY (askS s) = s then (if askR (askS s) = true then (askS s, 0) else (zeroA, 6)) else (zeroA, 3)
theorem csrS_fit (s : ByteArray) : (csrS s).1.names.length ≤ 1048576 := by
  have h := (askS_fit s).1
  unfold csrS
  split
  · exact Nat.zero_le _
  · split
    · split
      · exact h
      · exact Nat.zero_le _
    · exact Nat.zero_le _
theorem askT_nums (e s : Int) : numsD [e, s] 2 = askT e s := rfl
theorem csrR_eq (s : ByteArray) : csrR s = csrS s := by
  have hc : ((decide ((askE (readA s)).size ≠ 0) && sigRB (readA s).sk (readA s).se (readA s).ss) = true ∧ seqD (askE (readA s) ++ thingD 3 (numsD [(readA s).se, (readA s).ss] 2)) = s) ↔ (formB (readA s) = true ∧ askY (readA s) = s) := by
    rw [askE_ne, askT_nums]
    have hf : formB (readA s) = (askB (readA s) && sigRB (readA s).sk (readA s).se (readA s).ss) := by
      unfold formB
      rw [readA_sk, decide_eq_true rfl, Bool.and_true]
    rw [hf]
    constructor
    · rintro ⟨h1, h2⟩
      refine ⟨h1, ?_⟩
      rw [Bool.and_eq_true] at h1
      unfold askY
      unfold askE at h2
      rw [if_pos h1.1] at h2
      exact h2
    · rintro ⟨h1, h2⟩
      refine ⟨h1, ?_⟩
      rw [Bool.and_eq_true] at h1
      unfold askY at h2
      unfold askE
      rw [if_pos h1.1]
      exact h2
  unfold csrR csrS
  by_cases hl : 20000 < s.size
  · rw [if_pos hl, if_pos hl]
  rw [if_neg hl, if_neg hl]
  by_cases h1 : formB (readA s) = true ∧ askY (readA s) = s
  · have he : askS s = readA s := by
      have := askS_back h1.1
      rw [h1.2] at this
      exact this
    rw [if_pos (hc.2 h1), he, if_pos h1]
    have ha : askE (readA s) = askD (readA s) := by
      unfold askE
      rw [if_pos (formB_ask h1.1)]
    rw [ha]
    unfold askR
    rw [h1.1, Bool.true_and]
  · rw [if_neg (fun h => h1 (hc.1 h))]
    rw [if_neg]
    intro h2
    have he : readA s = askS s := by
      have := readA_back h2.1
      rw [h2.2] at this
      exact this
    rw [he] at h1
    exact h1 h2
set_option linter.unusedSimpArgs false in
set_option maxHeartbeats 1000000 in
set_option maxRecDepth 100000 in
theorem specCsrRead (s : ByteArray) (w : World) :
    Calls Tryz.prog 40 #[.string s] w fun e w' => ∃ v, e = .returned (csrV (csrS s).1 v (csrS s).2) ∧ OwnS w' w.heap.size v (csrS s).1.names ∧ Below w.heap.size w w' := by
  obtain ⟨w1, hw1⟩ : ∃ y, y = w.alloc (.cells #[.int .i64 0, .slice none 0 0, .int .i64 0, .int .i64 0, .int .i64 0, .int .i64 0] 49 (0, 0)) := ⟨_, rfl⟩
  have hz : w1.heap.size = w.heap.size + 1 := by rw [hw1]; simp
  have hg1 : w1.heap[w.heap.size]? = some (.cells [Value.int .i64 0, .slice none 0 0, .int .i64 0, .int .i64 0, .int .i64 0, .int .i64 0].toArray 49 (0, 0)) := by rw [hw1]; exact heap_alloc_new w _
  have hB1 : Below w.heap.size w w1 := by rw [hw1]; exact (Below.refl _ w).alloc (Nat.le_refl _) _
  have HB : Hid (∀ V, Below w1.heap.size w1 V → Below w.heap.size w V) := fun V hV => hB1.trans (hV.mono (by omega))
  have HRes : Hid (∀ V, Below w1.heap.size w1 V → V.heap[w.heap.size]? = some (.cells [Value.int .i64 0, .slice none 0 0, .int .i64 0, .int .i64 0, .int .i64 0, .int .i64 0].toArray 49 (0, 0))) := fun V hV => by rw [hV.block _ (by omega)]; exact hg1
  have HRd : Hid (¬ 20000 < s.size → ∀ V, Calls Tryz.prog 102 #[.string s] V fun e w' => ∃ v, e = .returned ((askS s).val v) ∧ OwnS w' V.heap.size v (askS s).names ∧ Below V.heap.size V w') := fun h V => specRead7 s V (by omega)
  have HNf : Hid ((askS s).names.length ≤ 1048576 ∧ totS (askS s).names (askS s).names.length ≤ 1048576) := askS_fit s
  have HRn : Hid (¬ 20000 < s.size → csrS s = if formB (askS s) = true ∧ askY (askS s) = s then (if askR (askS s) = true then (askS s, 0) else (zeroA, 6)) else (zeroA, 3)) := fun h => by show _ = _; rw [csrS, if_neg h]
  obtain ⟨R, hR⟩ : ∃ R, R = csrS s := ⟨_, rfl⟩
  rw [← hR]
  have HR : Hid (R = csrS s) := hR
  have I1 : Hid (Below w1.heap.size w1 w1) := Below.refl _ _
  have Z1 : Hid (w1.heap.size = w.heap.size + 1) := hz
  clear hR hg1 hB1 hz
  go_enter Tryz.func40, Tryz.ntmps40
  by_cases hl : 20000 < s.size
  · have HF : Hid (R = (zeroA, 2)) := by show _ = _; rw [HR.out, csrS, if_pos hl]
    go_upto_region 2 with fail
    rw [← hw1]
    clear hw1
    go_wp2_with (refine wpList_store_row rfl 49 _ _ rfl (w.heap.size) _ [Value.int .i64 0, .slice none 0 0, .int .i64 0, .int .i64 0, .int .i64 0, .int .i64 2] 49 rfl rfl (HRes.out _ I1.out) rfl sizeCsrOut (by simp [Value.oneCell']) ?_)
    intro w8 hrow ho hs8 hbb
    have HROW : Hid _ := hrow
    have HB8 : Hid (Below w.heap.size w w8) := hbb _ _ (by omega) (HB.out _ I1.out)
    clear ho hs8 hbb hrow
    go_wp2
    refine bodyPost_ret (v := .agg [Value.int .i64 0, .slice none 0 0, .int .i64 0, .int .i64 0, .int .i64 0, .int .i64 2].toArray) ?_ rfl ⟨.slice none 0 0, by rw [HF.out]; rfl, by rw [HF.out]; exact ownS_nil _ _, HB8.out⟩
    have hl3 := run_loadVar_mid (P := Tryz.prog) _ (w.heap.size) 0 49 _ _ (rangeRow HROW.out) Tryz.underlying49 rfl sizeCsrOut
    simp [results, Tryz.results40, asAddr, hl3]
  · have HRd' : Hid _ := HRd.out hl
    have HRn' : Hid _ := HRn.out hl
    rw [← HR.out] at HRn'
    clear HRd HRn
    go_wp2_with fail
    rw [← hw1]
    refine (HRd'.out w1).mono ?_
    rintro e w3 ⟨v, rfl, o3, b3⟩
    clear HRd' hw1
    obtain ⟨va, vc, rfl, _⟩ := OwnS.form o3
    have O3 : Hid (OwnS w3 (w.heap.size + 1) (.slice va (askS s).names.length vc) (askS s).names) := o3.mono (by rw [Z1.out]; omega)
    have B3 : Hid (Below w1.heap.size w1 w3) := b3
    clear o3 b3
    obtain ⟨c, hc⟩ : ∃ c, c = askS s := ⟨_, rfl⟩
    rw [← hc] at O3 HNf HRn'
    rw [← hc]
    have HIs : Hid (∀ V, Below w3.heap.size w3 V → IsStrs V va c.names) := fun V hV => O3.out.strs.keep hV
    have HFm : Hid (∀ V, Below w3.heap.size w3 V → Calls Tryz.prog 103 #[c.val (.slice va c.names.length vc)] V fun e w' => e = .returned (.bool (formB c)) ∧ Below V.heap.size V w') := fun V hV => specForm c va vc V HNf.out.1 HNf.out.2 (HIs.out V hV)
    have HRt : Hid (∀ V, Below w3.heap.size w3 V → Calls Tryz.prog 85 #[c.val (.slice va c.names.length vc)] V fun e w' => e = .returned (.bool (askR c)) ∧ Below V.heap.size V w') := fun V hV => specAskR c va vc V HNf.out.1 HNf.out.2 (HIs.out V hV)
    have HBy : Hid (formB c = true → ∀ V, Below w3.heap.size w3 V → Calls Tryz.prog 86 #[c.val (.slice va c.names.length vc)] V fun e w' => e = .returned (.string (askY c)) ∧ Below V.heap.size V w') := fun h V hV => by
      obtain ⟨f1, f2, f3, f4⟩ := ask_fits (formB_ask h)
      obtain ⟨_, g1, g2⟩ := sigRB_lt (formB_sig h)
      exact specAskY c va vc V (by omega) (by omega) (by omega) f2 f4 (HIs.out V hV)
    have HYs : Hid (formB c = true → (askY c).size ≤ 1000) := fun h => by
      have h1 := (askL2_ok (formB_ask h)).2
      have h2 := thingD_le 48 (catT (askL2 c))
      show (askY c).size ≤ 1000
      rw [askY_cat, catT_one]
      show (thingD 48 (catT (askL2 c))).size ≤ 1000
      omega
    clear hc HNf HIs HR
    generalize formB c = P at *
    generalize askY c = Y at *
    generalize askR c = T at *
    obtain ⟨key, names, sk, se, ss⟩ := c
    unfold Ask.val at *
    simp only at HFm HRt HBy O3 ⊢
    obtain ⟨w4, hw4⟩ : ∃ y, y = w3.alloc (.cells #[.int .i64 key, .slice va names.length vc, .int .i64 sk, .int .i64 se, .int .i64 ss] 44 (0, 0)) := ⟨_, rfl⟩
    have b4 : Below w3.heap.size w3 w4 := by rw [hw4]; exact (Below.refl _ w3).alloc (Nat.le_refl _) _
    have G4 : Hid (w4.heap[w3.heap.size]? = some (.cells [Value.int .i64 key, .slice va names.length vc, .int .i64 sk, .int .i64 se, .int .i64 ss].toArray 44 (0, 0))) := by show _ = _; rw [hw4]; exact heap_alloc_new w3 _
    have B4 : Hid (Below w3.heap.size w3 w4) := b4
    have O4 : Hid (OwnS w4 (w.heap.size + 1) (.slice va names.length vc) names) := O3.out.keep b4
    have K4 : Hid (Below w1.heap.size w1 w4) := B3.out.trans (b4.mono B3.out.size)
    clear b4 O3
    have d0 := rowFacts G4.out 0 _ rfl
    have d1 := rowFacts G4.out 1 _ rfl
    have d2 := rowFacts G4.out 2 _ rfl
    have d3 := rowFacts G4.out 3 _ rfl
    have d4 := rowFacts G4.out 4 _ rfl
    go_upto_region 4 with fail
    rw [← hw4]
    clear hw4
    go_wp2_with fail
    refine (HFm.out w4 B4.out).mono ?_
    rintro e w5 ⟨rfl, b5⟩
    have B5 : Hid (Below w3.heap.size w3 w5) := B4.out.trans (b5.mono B4.out.size)
    have K5 : Hid (Below w1.heap.size w1 w5) := K4.out.trans (b5.mono K4.out.size)
    have G5 : Hid (w5.heap[w3.heap.size]? = some (.cells [Value.int .i64 key, .slice va names.length vc, .int .i64 sk, .int .i64 se, .int .i64 ss].toArray 44 (0, 0))) := (b5.block _ (heap_lt G4.out)).trans G4.out
    have O5 : Hid (OwnS w5 (w.heap.size + 1) (.slice va names.length vc) names) := O4.out.keep b5
    clear b5 d0 d1 d2 d3 d4 HFm B4 K4 G4 O4
    cases P with
    | false =>
      have HF : Hid (R = (zeroA, 3)) := by show _ = _; rw [HRn'.out, if_neg (by simp)]
      go_wp2_with (refine wpList_store_row rfl 49 _ _ rfl (w.heap.size) _ [Value.int .i64 0, .slice none 0 0, .int .i64 0, .int .i64 0, .int .i64 0, .int .i64 3] 49 rfl rfl (HRes.out _ K5.out) rfl sizeCsrOut (by simp [Value.oneCell']) ?_)
      intro w8 hrow ho hs8 hbb
      have HROW : Hid _ := hrow
      have HB8 : Hid (Below w.heap.size w w8) := hbb _ _ (by omega) (HB.out _ K5.out)
      clear ho hs8 hbb hrow
      go_wp2
      refine bodyPost_ret (v := .agg [Value.int .i64 0, .slice none 0 0, .int .i64 0, .int .i64 0, .int .i64 0, .int .i64 3].toArray) ?_ rfl ⟨.slice none 0 0, by rw [HF.out]; rfl, by rw [HF.out]; exact ownS_nil _ _, HB8.out⟩
      have hl3 := run_loadVar_mid (P := Tryz.prog) _ (w.heap.size) 0 49 _ _ (rangeRow HROW.out) Tryz.underlying49 rfl sizeCsrOut
      simp [results, Tryz.results40, asAddr, hl3]
    | true =>
    have HBy' : Hid _ := HBy.out rfl
    have HYs' := HYs.out rfl
    have d0 := rowFacts G5.out 0 _ rfl
    have d1 := rowFacts G5.out 1 _ rfl
    have d2 := rowFacts G5.out 2 _ rfl
    have d3 := rowFacts G5.out 3 _ rfl
    have d4 := rowFacts G5.out 4 _ rfl
    go_wp2_with fail
    refine (HBy'.out w5 B5.out).mono ?_
    rintro e w6 ⟨rfl, b6⟩
    have B6 : Hid (Below w3.heap.size w3 w6) := B5.out.trans (b6.mono B5.out.size)
    have K6 : Hid (Below w1.heap.size w1 w6) := K5.out.trans (b6.mono K5.out.size)
    have G6 : Hid (w6.heap[w3.heap.size]? = some (.cells [Value.int .i64 key, .slice va names.length vc, .int .i64 sk, .int .i64 se, .int .i64 ss].toArray 44 (0, 0))) := (b6.block _ (heap_lt G5.out)).trans G5.out
    have O6 : Hid (OwnS w6 (w.heap.size + 1) (.slice va names.length vc) names) := O5.out.keep b6
    clear b6 d0 d1 d2 d3 d4 HBy HBy' HYs B5 K5 G5 O5
    by_cases hY : Y = s
    rotate_left
    · have HF : Hid (R = (zeroA, 3)) := by show _ = _; rw [HRn'.out, if_neg (fun h => hY h.2)]
      have e1 : (Y.toList == s.toList) = false := by rw [same_text, decide_eq_false hY]
      have e2 : (Y.toList != s.toList) = true := by rw [bne, e1]; rfl
      go_wp2_with (refine wpList_store_row rfl 49 _ _ rfl (w.heap.size) _ [Value.int .i64 0, .slice none 0 0, .int .i64 0, .int .i64 0, .int .i64 0, .int .i64 3] 49 rfl rfl (HRes.out _ K6.out) rfl sizeCsrOut (by simp [Value.oneCell']) ?_)
      intro w8 hrow ho hs8 hbb
      have HROW : Hid _ := hrow
      have HB8 : Hid (Below w.heap.size w w8) := hbb _ _ (by omega) (HB.out _ K6.out)
      clear ho hs8 hbb hrow
      go_wp2
      refine bodyPost_ret (v := .agg [Value.int .i64 0, .slice none 0 0, .int .i64 0, .int .i64 0, .int .i64 0, .int .i64 3].toArray) ?_ rfl ⟨.slice none 0 0, by rw [HF.out]; rfl, by rw [HF.out]; exact ownS_nil _ _, HB8.out⟩
      have hl3 := run_loadVar_mid (P := Tryz.prog) _ (w.heap.size) 0 49 _ _ (rangeRow HROW.out) Tryz.underlying49 rfl sizeCsrOut
      simp [results, Tryz.results40, asAddr, hl3]
    have HT : Hid (R = if T = true then (⟨key, names, sk, se, ss⟩, 0) else (zeroA, 6)) := by show _ = _; rw [HRn'.out, if_pos ⟨trivial, hY⟩]
    have e2 : (Y.toList != s.toList) = false := by rw [bne, same_text, decide_eq_true hY]; rfl
    clear HRn'
    have d0 := rowFacts G6.out 0 _ rfl
    have d1 := rowFacts G6.out 1 _ rfl
    have d2 := rowFacts G6.out 2 _ rfl
    have d3 := rowFacts G6.out 3 _ rfl
    have d4 := rowFacts G6.out 4 _ rfl
    go_wp2_with fail
    refine (HRt.out w6 B6.out).mono ?_
    rintro e w7 ⟨rfl, b7⟩
    have K7 : Hid (Below w1.heap.size w1 w7) := K6.out.trans (b7.mono K6.out.size)
    have G7 : Hid (w7.heap[w3.heap.size]? = some (.cells [Value.int .i64 key, .slice va names.length vc, .int .i64 sk, .int .i64 se, .int .i64 ss].toArray 44 (0, 0))) := (b7.block _ (heap_lt G6.out)).trans G6.out
    have O7 : Hid (OwnS w7 (w.heap.size + 1) (.slice va names.length vc) names) := O6.out.keep b7
    clear b7 d0 d1 d2 d3 d4 HRt B6 K6 G6 O6 hY e2
    cases T with
    | false =>
      have HF : Hid (R = (zeroA, 6)) := by show _ = _; rw [HT.out]; simp
      go_wp2_with (refine wpList_store_row rfl 49 _ _ rfl (w.heap.size) _ [Value.int .i64 0, .slice none 0 0, .int .i64 0, .int .i64 0, .int .i64 0, .int .i64 6] 49 rfl rfl (HRes.out _ K7.out) rfl sizeCsrOut (by simp [Value.oneCell']) ?_)
      intro w8 hrow ho hs8 hbb
      have HROW : Hid _ := hrow
      have HB8 : Hid (Below w.heap.size w w8) := hbb _ _ (by omega) (HB.out _ K7.out)
      clear ho hs8 hbb hrow
      go_wp2
      refine bodyPost_ret (v := .agg [Value.int .i64 0, .slice none 0 0, .int .i64 0, .int .i64 0, .int .i64 0, .int .i64 6].toArray) ?_ rfl ⟨.slice none 0 0, by rw [HF.out]; rfl, by rw [HF.out]; exact ownS_nil _ _, HB8.out⟩
      have hl3 := run_loadVar_mid (P := Tryz.prog) _ (w.heap.size) 0 49 _ _ (rangeRow HROW.out) Tryz.underlying49 rfl sizeCsrOut
      simp [results, Tryz.results40, asAddr, hl3]
    | true =>
      have HF : Hid (R = (⟨key, names, sk, se, ss⟩, 0)) := by show _ = _; rw [HT.out]; simp
      have d0 := rowFacts G7.out 0 _ rfl
      have d1 := rowFacts G7.out 1 _ rfl
      have d2 := rowFacts G7.out 2 _ rfl
      have d3 := rowFacts G7.out 3 _ rfl
      have d4 := rowFacts G7.out 4 _ rfl
      go_wp2_with (refine wpList_store_row rfl 49 _ _ rfl (w.heap.size) _ [Value.int .i64 key, .slice va names.length vc, .int .i64 sk, .int .i64 se, .int .i64 ss, .int .i64 0] 49 rfl rfl (HRes.out _ K7.out) rfl sizeCsrOut (by simp [Value.oneCell']) ?_)
      intro w8 hrow ho hs8 hbb
      have HROW : Hid _ := hrow
      have HB8 : Hid (Below w.heap.size w w8) := hbb _ _ (by omega) (HB.out _ K7.out)
      have O8 : Hid (OwnS w8 (w.heap.size + 1) (.slice va names.length vc) names) := O7.out.same fun b h1 h2 => ho b (by omega)
      clear ho hs8 hbb hrow
      go_wp2
      refine bodyPost_ret (v := .agg [Value.int .i64 key, .slice va names.length vc, .int .i64 sk, .int .i64 se, .int .i64 ss, .int .i64 0].toArray) ?_ rfl ⟨.slice va names.length vc, by rw [HF.out]; rfl, by rw [HF.out]; exact O8.out.mono (by omega), HB8.out⟩
      have hl3 := run_loadVar_mid (P := Tryz.prog) _ (w.heap.size) 0 49 _ _ (rangeRow HROW.out) Tryz.underlying49 rfl sizeCsrOut
      simp [results, Tryz.results40, asAddr, hl3]
end Go.Proofs.YtkhdjmjbdpmdnaaGreatDoor
namespace Go.Proofs.YtkhdjmjbdpmdnaaGreatDoor
open Go.RowKit

def nameL0 (t : ByteArray) : List (Nat × ByteArray) := [(6, strOfNums (oidL [2, 5, 4, 3])), (12, t)]
def nameL1 (t : ByteArray) : List (Nat × ByteArray) := [(48, catT (nameL0 t))]
def nameL (t : ByteArray) : List (Nat × ByteArray) := [(49, catT (nameL1 t))]
theorem nameD_cat (t : ByteArray) : nameD t = thingD 48 (catT (nameL t)) := by
  rw [nameL, catT_one, nameL1, catT_one, nameL0, catT_cons, catT_one]
  rfl
theorem name_ok {t : ByteArray} (h : t.size ≤ 40) : ThingsOk (nameL0 t) ∧ ThingsOk (nameL1 t) ∧ ThingsOk (nameL t) ∧ (catT (nameL t)).size ≤ 105 := by
  have h0 := nameD_le t
  rw [nameD_cat, thingD_size, nameL, catT_one, thingD_size, nameL1, catT_one, thingD_size] at h0
  have e1 : (catT (nameL t)).size = 1 + (lenD (catT (nameL1 t)).size).length + (catT (nameL1 t)).size := by rw [nameL, catT_one, thingD_size]
  have e2 : (catT (nameL1 t)).size = 1 + (lenD (catT (nameL0 t)).size).length + (catT (nameL0 t)).size := by rw [nameL1, catT_one, thingD_size]
  have e3 : (catT (nameL0 t)).size = (oidT [2, 5, 4, 3]).size + (thingD 12 t).size := by rw [nameL0, catT_cons, catT_one, ByteArray.size_append]; rfl
  have h5 := arcs_lit arcsName
  have h6 := thingD_le 12 t
  have s3 : (catT (nameL0 t)).size ≤ 93 := by omega
  have s2 : (catT (nameL1 t)).size ≤ 97 := by
    have := thingD_le ((48 : Nat) : Int) (catT (nameL0 t))
    rw [nameL1, catT_one]
    omega
  have s1 : (catT (nameL t)).size ≤ 101 := by
    have := thingD_le ((49 : Nat) : Int) (catT (nameL1 t))
    rw [nameL, catT_one]
    omega
  have ho : (strOfNums (oidL [2, 5, 4, 3])).size ≤ 45 := by rw [strOfNums_size]; exact oidL_len arcsName
  refine ⟨⟨fun q hq => ?_, by simp [nameL0], by omega⟩, ⟨fun q hq => ?_, by simp [nameL1], by omega⟩, ⟨fun q hq => ?_, by simp [nameL], by omega⟩, by omega⟩
  · unfold nameL0 at hq
    simp only [List.mem_cons, List.not_mem_nil, or_false] at hq
    rcases hq with rfl | rfl
    · exact ⟨tag6, by show (strOfNums (oidL [2, 5, 4, 3])).size ≤ _; omega⟩
    · exact ⟨tag12, by show t.size ≤ _; omega⟩
  · obtain rfl := List.mem_singleton.1 hq
    exact ⟨tag48, by show (catT (nameL0 t)).size ≤ _; omega⟩
  · obtain rfl := List.mem_singleton.1 hq
    exact ⟨tag49, by show (catT (nameL1 t)).size ≤ _; omega⟩
theorem name_back {t : ByteArray} (h : t.size ≤ 40) : atP (catT (nameL t)) [0, 0, 1] = t := by
  obtain ⟨o0, o1, o2, _⟩ := name_ok h
  rw [atP_cat o2 rfl, atP_cat o1 rfl, atP_cat o0 rfl, atP_nil]
end Go.Proofs.YtkhdjmjbdpmdnaaGreatDoor
namespace Go.Proofs.YtkhdjmjbdpmdnaaGreatDoor
open Go.RowKit

def serL (zs : List Int) : List (Nat × ByteArray) := zs.map fun n => (2, strOfNums (intL n))
theorem serD_cat (zs : List Int) : ∀ k, k ≤ zs.length → serD zs k = catT (serL (zs.take k))
  | 0, _ => rfl
  | k + 1, hk => by
    have hlt : k < zs.length := by omega
    rw [serD, serD_cat zs k (by omega), List.take_add_one, serL, serL, List.map_append, catT_app]
    congr 1
    rw [List.getElem?_eq_getElem hlt]
    show _ = catT [(2, strOfNums (intL zs[k]))]
    rw [catT_one]
    show intD (zs.getD k 0) = thingD 2 (strOfNums (intL zs[k]))
    rw [List.getD_eq_getElem?_getD, List.getElem?_eq_getElem hlt]
    rfl
theorem intB_size (n : Int) : (strOfNums (intL n)).size ≤ 8 := by rw [strOfNums_size]; exact (intL_len n).2
theorem ser_ok {zs : List Int} (h : zs.length ≤ 40) : serD zs zs.length = catT (serL zs) ∧ ThingsOk (serL zs) := by
  have e : serD zs zs.length = catT (serL zs) := by rw [serD_cat zs _ (Nat.le_refl _), List.take_length]
  have hs := serD_le zs zs.length
  refine ⟨e, fun q hq => ?_, by rw [serL, List.length_map]; omega, by rw [← e]; omega⟩
  obtain ⟨n, hn, rfl⟩ := List.mem_map.1 hq
  exact ⟨tag2, by have := intB_size n; show (strOfNums (intL n)).size ≤ _; omega⟩
theorem ser_back {zs : List Int} (h : zs.length ≤ 40) (h' : ∀ n ∈ zs, -9223372036854775808 ≤ n ∧ n ≤ 9223372036854775807) : serialsR (serD zs zs.length) = zs := by
  obtain ⟨e, o⟩ := ser_ok h
  rw [e, serialsR_cat o, serL, List.map_map]
  have : ∀ n ∈ zs, ((fun q : Nat × ByteArray => (intR q.2).1) ∘ fun n => (2, strOfNums (intL n))) n = n := fun n hn => by
    obtain ⟨h0, h1⟩ := h' n hn
    show (intR (strOfNums (intL n))).1 = n
    rw [int_back h0 h1]
  rw [List.map_congr_left this, List.map_id']
def listL (c : Lst) : List (Nat × ByteArray) := [(48, catT (nameL c.issuer)), (2, strOfNums (intL c.fr)), (2, strOfNums (intL c.till)), (48, serD c.serials c.serials.length)]
def listL2 (c : Lst) : List (Nat × ByteArray) := [(48, catT (listL c)), (3, sigT c.sk c.se c.ss)]
theorem listD_cat (c : Lst) : listD c = thingD 48 (catT (listL c)) := by
  rw [listL, catT_cons, catT_cons, catT_cons, catT_one]
  unfold listD seqD intD
  rw [nameD_cat]
  rfl
theorem listY_cat (c : Lst) : listY c = catT [(48, catT (listL2 c))] := by
  rw [catT_one, listL2, catT_cons, catT_one]
  unfold listY
  rw [listD_cat]
  rfl
theorem list_ok {c : Lst} (h : LFits c) : ThingsOk (listL c) ∧ ThingsOk (listL2 c) ∧ ThingsOk [(48, catT (listL2 c))] := by
  have hD := listD_le h
  have hi := (name_ok h.iss).2.2.2
  have hf := intB_size c.fr
  have ht := intB_size c.till
  have hz := serD_le c.serials c.serials.length
  have hl := h.len
  have hS := sigT_le c.sk c.se c.ss
  have s1 : (catT (listL c)).size ≤ 700 := by rw [listD_cat, thingD_size] at hD; omega
  have s2 : (catT (listL2 c)).size ≤ 800 := by
    have h3 := thingD_le 48 (catT (listL c))
    have h4 := thingD_le 3 (sigT c.sk c.se c.ss)
    rw [listL2, catT_cons, catT_one, ByteArray.size_append]
    show (thingD 48 _).size + (thingD 3 _).size ≤ _
    omega
  have s3 : (catT [(48, catT (listL2 c))]).size ≤ 900 := by
    have h3 := thingD_le 48 (catT (listL2 c))
    rw [catT_one]
    show (thingD 48 _).size ≤ _
    omega
  refine ⟨⟨fun q hq => ?_, by simp [listL], by omega⟩, ⟨fun q hq => ?_, by simp [listL2], by omega⟩, ⟨fun q hq => ?_, by simp, by omega⟩⟩
  · unfold listL at hq
    simp only [List.mem_cons, List.not_mem_nil, or_false] at hq
    rcases hq with rfl | rfl | rfl | rfl
    · exact ⟨tag48, by show (catT (nameL c.issuer)).size ≤ _; omega⟩
    · exact ⟨tag2, by show (strOfNums (intL c.fr)).size ≤ _; omega⟩
    · exact ⟨tag2, by show (strOfNums (intL c.till)).size ≤ _; omega⟩
    · exact ⟨tag48, by show (serD c.serials c.serials.length).size ≤ _; omega⟩
  · unfold listL2 at hq
    simp only [List.mem_cons, List.not_mem_nil, or_false] at hq
    rcases hq with rfl | rfl
    · exact ⟨tag48, by show (catT (listL c)).size ≤ _; omega⟩
    · exact ⟨tag3, by show (sigT c.sk c.se c.ss).size ≤ _; omega⟩
  · obtain rfl := List.mem_singleton.1 hq
    exact ⟨tag48, by show (catT (listL2 c)).size ≤ _; omega⟩
theorem ser_nums {zs : List Int} (h : ∀ i, i < zs.length → 1 ≤ zs.getD i 0 ∧ zs.getD i 0 ≤ 1000000000) : ∀ n ∈ zs, -9223372036854775808 ≤ n ∧ n ≤ 9223372036854775807 := by
  intro n hn
  obtain ⟨i, hi, rfl⟩ := List.getElem_of_mem hn
  have := h i hi
  rw [List.getD_eq_getElem?_getD, List.getElem?_eq_getElem hi] at this
  simp only [Option.getD_some] at this
  omega
/-- The parts of a list, as they lie. -/
theorem list_back {c : Lst} (h : crlB c = true) : atP (listY c) [0] = catT (listL2 c) ∧ atP (catT (listL2 c)) [0] = catT (listL c) ∧ atP (catT (listL2 c)) [1] = sigT c.sk c.se c.ss ∧ atP (catT (listL c)) [0] = catT (nameL c.issuer) ∧ atP (catT (listL c)) [1] = strOfNums (intL c.fr) ∧ atP (catT (listL c)) [2] = strOfNums (intL c.till) ∧ atP (catT (listL c)) [3] = serD c.serials c.serials.length ∧
    numsGo (sigT c.sk c.se c.ss) 3 1 = [c.sk, c.se, c.ss] ∧ bitsQ (sigT c.sk c.se c.ss) 3 1 = [c.sk, c.se, c.ss] := by
  have hf := list_fits (crlB_list h)
  obtain ⟨s0, s1, s2⟩ := sigRB_lt (crlB_sig h)
  obtain ⟨o1, o2, o3⟩ := list_ok hf
  have ht := sigT_le c.sk c.se c.ss
  obtain ⟨n1, n2⟩ := rowN_zero (zs := [c.sk, c.se, c.ss]) (fun n hn => by simp at hn; rcases hn with rfl | rfl | rfl <;> omega) (by rw [← sigT_row]; omega)
  exact ⟨by rw [listY_cat, atP_cat o3 rfl, atP_nil], by rw [atP_cat o2 rfl, atP_nil], by rw [atP_cat o2 rfl, atP_nil], by rw [atP_cat o1 rfl, atP_nil], by rw [atP_cat o1 rfl, atP_nil], by rw [atP_cat o1 rfl, atP_nil], by rw [atP_cat o1 rfl, atP_nil], by rw [sigT_row]; exact n1, by rw [sigT_row]; exact n2⟩
/-- What the program reads of a list. -/
def readL (s : ByteArray) : Lst :=
  let w := atP s [0]
  let b := atP w [0]
  let n := numsGo (atP w [1]) 3 1
  ⟨atP (atP b [0]) [0, 0, 1], (intR (atP b [1])).1, (intR (atP b [2])).1, serialsR (atP b [3]), n.getD 0 0, n.getD 1 0, n.getD 2 0⟩
theorem readL_back {c : Lst} (h : crlB c = true) : readL (listY c) = c := by
  obtain ⟨a1, a2, a3, a4, a5, a6, a7, n1, _⟩ := list_back h
  have hf := list_fits (crlB_list h)
  obtain ⟨f0, f1, t0, t1⟩ := And.intro hf.fr0 (And.intro hf.fr1 (And.intro hf.till0 hf.till1))
  unfold readL
  simp only [a1, a2, a3, a4, a5, a6, a7, n1, List.getD_cons_zero, List.getD_cons_succ]
  rw [name_back hf.iss, int_back (by omega) (by omega), int_back (by omega) (by omega), ser_back hf.len (ser_nums hf.each)]
end Go.Proofs.YtkhdjmjbdpmdnaaGreatDoor
namespace Go.Proofs.YtkhdjmjbdpmdnaaGreatDoor
open Go.RowKit

theorem nameR_cons {t : ByteArray} (h : t.size ≤ 40) (r : List (Int × ByteArray)) : nameR ((48, catT (nameL t)) :: r) false = (t, r, false) := by
  obtain ⟨o0, o1, o2, _⟩ := name_ok h
  unfold nameR
  have x2 : asI (nameL t) = ((49 : Int), catT (nameL1 t)) :: [] := rfl
  have x1 : asI (nameL1 t) = ((48 : Int), catT (nameL0 t)) :: [] := rfl
  have x0 : asI (nameL0 t) = ((6 : Int), strOfNums (oidL [2, 5, 4, 3])) :: ((12 : Int), t) :: [] := rfl
  simp only [inR_cons _ o2, x2, inR_cons _ o1, x1, inR_cons _ o0, x0, takeR_cons, Bool.or_false]
/-- The numbers that are taken one by one. -/
noncomputable def numsL : List (Int × ByteArray) → Bool → List Int
  | [], _ => []
  | p :: r, bad => if bad = true then [] else if p.1 = 2 then (intQ p.2).1 :: numsL r (!(intQ p.2).2) else [0]
theorem numsL_bad (l : List (Int × ByteArray)) : numsL l true = [] := by cases l <;> simp [numsL]
theorem numsL_nil (b : Bool) : numsL [] b = [] := rfl
theorem intQ_none : intQ ⟨#[]⟩ = (0, false) := by
  unfold intQ
  exact if_pos (Or.inl rfl)
theorem numsL_step (p : Int × ByteArray) (r : List (Int × ByteArray)) : numsL (p :: r) false = (numR (p :: r) false).1 :: numsL (numR (p :: r) false).2.1 (numR (p :: r) false).2.2 := by
  by_cases h : p.1 = 2
  · simp [numsL, numR, takeR, h]
  · simp [numsL, numR, takeR, h, intQ_none, numsL_bad]
theorem numR_less (p : Int × ByteArray) (r : List (Int × ByteArray)) : (numR (p :: r) false).2.1.length + (if (numR (p :: r) false).2.2 then 0 else 1) < (p :: r).length + 1 := by
  by_cases h : p.1 = 2
  · simp only [numR, takeR, h, if_true, List.length_cons, Bool.false_eq_true, if_false, Bool.false_or]
    split <;> omega
  · simp [numR, takeR, h]
theorem numsL_cat (zs : List Int) (h : ∀ n ∈ zs, -9223372036854775808 ≤ n ∧ n ≤ 9223372036854775807) : numsL (asI (serL zs)) false = zs := by
  induction zs with
  | nil => rfl
  | cons n r ih =>
    obtain ⟨h0, h1⟩ := h n (List.mem_cons_self ..)
    have ih' := ih fun m hm => h m (List.mem_cons_of_mem _ hm)
    have e : asI (serL (n :: r)) = ((2 : Int), strOfNums (intL n)) :: asI (serL r) := rfl
    rw [e, numsL, if_neg (by simp), if_pos rfl, intQ_back h0 h1]
    simp only [Bool.not_true]
    rw [ih']
theorem numsL_len : ∀ (l : List (Int × ByteArray)) (b : Bool), (numsL l b).length ≤ l.length
  | [], _ => Nat.le_refl _
  | p :: r, b => by
    rw [numsL]
    split
    · exact Nat.zero_le _
    · split
      · have := numsL_len r (!(intQ p.2).2)
        simp only [List.length_cons]
        omega
      · simp
/-- What the specification reads of a list. -/
noncomputable def listS (s : ByteArray) : Lst :=
  let r := (inR (openR s).1 (openR s).2 48).1
  let b := inR r.1 r.2 48
  let nm := nameR b.1.1 b.1.2
  let x := numR nm.2.1 nm.2.2
  let y := numR x.2.1 x.2.2
  let h := (inR y.2.1 y.2.2 48).1
  let n := bitsQ (takeR b.2.1 b.2.2 3).1 3 1
  ⟨nm.1, x.1, y.1, numsL h.1 h.2, n.getD 0 0, n.getD 1 0, n.getD 2 0⟩
theorem listS_back {c : Lst} (h : crlB c = true) : listS (listY c) = c := by
  have hf := list_fits (crlB_list h)
  obtain ⟨o1, o2, o3⟩ := list_ok hf
  obtain ⟨_, _, _, _, _, _, _, _, n2⟩ := list_back h
  obtain ⟨e, oh⟩ := ser_ok hf.len
  have f0 := hf.fr0
  have f1 := hf.fr1
  have t0 := hf.till0
  have t1 := hf.till1
  have x0 : openR (listY c) = (((48 : Int), catT (listL2 c)) :: [], false) := by rw [listY_cat, openR_cat o3]; rfl
  have x1 : asI (listL2 c) = ((48 : Int), catT (listL c)) :: ((3 : Int), sigT c.sk c.se c.ss) :: [] := rfl
  have x2 : asI (listL c) = ((48 : Int), catT (nameL c.issuer)) :: ((2 : Int), strOfNums (intL c.fr)) :: ((2 : Int), strOfNums (intL c.till)) :: ((48 : Int), serD c.serials c.serials.length) :: [] := rfl
  unfold listS
  simp only [x0, inR_cons _ o2, x1, inR_cons _ o1, x2, nameR_cons hf.iss, numR_cons (n := c.fr) (by omega) (by omega), numR_cons (n := c.till) (by omega) (by omega), takeR_cons, n2]
  rw [e]
  simp only [inR_cons _ oh, numsL_cat _ (ser_nums hf.each), List.getD_cons_zero, List.getD_cons_succ]
end Go.Proofs.YtkhdjmjbdpmdnaaGreatDoor
namespace Go.Proofs.YtkhdjmjbdpmdnaaGreatDoor
open Go.RowKit

set_option linter.unusedSimpArgs false in
set_option maxHeartbeats 4000000 in
set_option maxRecDepth 100000 in
theorem implSerials (a : Option Addr) (zs : List Int) (c : Nat) (w : World) (hl : zs.length ≤ 1048576) (ha : IsInts w a zs) :
    Calls Tryz.prog 190 #[.slice a zs.length c] w fun e w' => e = .returned (.bool (serialsB zs)) ∧ Below w.heap.size w w' := by
  by_cases h5 : 40 < zs.length
  · have HF : Hid (serialsB zs = false) := by show _ = _; rw [serialsB, decide_eq_false (by omega)]; simp
    go_enter Tryz.func190, Tryz.ntmps190
    go_wp2
    go_ret
    exact ⟨by rw [HF.out]; rfl, Below.refl _ _⟩
  go_enter Tryz.func190, Tryz.ntmps190
  go_wp2
  go_loopw [10] (fun i wr => ∃ k : Nat, k ≤ zs.length ∧ i = .int .i64 k ∧ okSTo zs k = true ∧ Below w.heap.size w wr) (fun i _ => zs.length - (intOf i).toNat)
  case atStart => exact ⟨0, Nat.zero_le _, rfl, rfl, Below.refl _ _⟩
  case round =>
    obtain ⟨k, hk, rfl, hok, hbr⟩ := hrel
    have HOk : Hid (okSTo zs k = true) := hok
    have HB : Hid (Below w.heap.size w wr) := hbr
    clear hok
    by_cases hlt : k < zs.length
    · obtain ⟨x, o, rfl, hc⟩ : ∃ x o, a = some ⟨x, o, none⟩ ∧ ∀ i, i < zs.length → wr.cell? ⟨x, o + i, none⟩ = some (.int .i64 (zs.getD i 0)) := by
        rcases ha.below hbr ha.lt with rfl | h
        · simp at hlt
        · exact h
      have hck := hc k hlt
      have HNm : Hid (∀ V : World, Calls Tryz.prog 112 #[.int .i64 (zs.getD k 0)] V fun e w' => e = .returned (.bool (serB (zs.getD k 0))) ∧ w' = V) := fun V => implSerial _ V
      have a0 : (0 : Int) ≤ (k : Int) := by omega
      have b0 : (k : Int) < (zs.length : Int) := by omega
      cases hn : serB (zs.getD k 0) with
      | false =>
        have HF : Hid (serialsB zs = false) := by show _ = _; rw [serialsB, okSTo_no (okS_not hn) hlt]; rfl
        rw [hn] at HNm
        generalize zs.getD k 0 = z at *
        generalize zs.length = n at *
        clear hc ha hbr hn
        go_wp2_with fail
        refine (HNm.out _).mono ?_
        rintro e w2 ⟨rfl, rfl⟩
        go_wp2
        go_ret
        exact ⟨by rw [HF.out]; rfl, HB.out⟩
      | true =>
        rw [hn] at HNm
        by_cases h0 : k = 0
        · subst h0
          have HF : Hid (okS zs 0 = true) := okS_zero hn
          rw [Nat.add_zero] at hck
          generalize zs.getD 0 0 = z at *
          generalize zs.length = n at *
          clear hc ha hbr hn
          go_wp2_with fail
          refine (HNm.out _).mono ?_
          rintro e w2 ⟨rfl, rfl⟩
          go_wp2
          go_roundw
          case rel => exact ⟨1, by omega, by go_num, okSTo_yes HOk.out HF.out, HB.out⟩
          case measure => simp [intOf]; omega
        · have hck1 := hc (k - 1) (by omega)
          have ek : ((k : Int) - 1) = ((k - 1 : Nat) : Int) := by omega
          have ew : IntKind.i64.wrap ((k : Int) - 1) = ((k - 1 : Nat) : Int) := by rw [IntKind.wrap_i64]; omega
          have a1 : (0 : Int) < (k : Int) := by omega
          have b1 : ((k - 1 : Nat) : Int) < (zs.length : Int) := by omega
          have hbl := okS_more (zs := zs) (k := k) (by omega) hn
          by_cases hr : zs.getD (k - 1) 0 < zs.getD k 0
          rotate_left
          · have HF : Hid (serialsB zs = false) := by show _ = _; rw [serialsB, okSTo_no (hbl.trans (decide_eq_false hr)) hlt]; rfl
            generalize zs.getD k 0 = z at *
            generalize zs.getD (k - 1) 0 = y at *
            generalize k - 1 = k1 at *
            generalize zs.length = n at *
            clear hc ha hbr hn hbl
            go_wp2_with fail
            refine (HNm.out _).mono ?_
            rintro e w2 ⟨rfl, rfl⟩
            go_wp2
            go_ret
            exact ⟨by rw [HF.out]; rfl, HB.out⟩
          · have HF : Hid (okS zs k = true) := hbl.trans (decide_eq_true hr)
            generalize zs.getD k 0 = z at *
            generalize zs.getD (k - 1) 0 = y at *
            generalize k - 1 = k1 at *
            generalize zs.length = n at *
            clear hc ha hbr hn hbl
            go_wp2_with fail
            refine (HNm.out _).mono ?_
            rintro e w2 ⟨rfl, rfl⟩
            go_wp2
            go_roundw
            case rel => exact ⟨k + 1, by omega, by go_num, okSTo_yes HOk.out HF.out, HB.out⟩
            case measure => simp [intOf]; omega
    · obtain rfl : k = zs.length := by omega
      have HF : Hid (serialsB zs = true) := by show _ = _; rw [serialsB, HOk.out, decide_eq_true (by omega)]; rfl
      clear ha hbr
      go_wp2
      go_ret
      exact ⟨by rw [HF.out]; rfl, HB.out⟩
set_option linter.unusedSimpArgs false in
set_option maxHeartbeats 4000000 in
set_option maxRecDepth 100000 in
theorem implPutSerials (a : Option Addr) (zs : List Int) (c : Nat) (w : World) (hl : zs.length ≤ 40) (hz : ∀ i, i < zs.length → -9223372036854775808 ≤ zs.getD i 0 ∧ zs.getD i 0 ≤ 9223372036854775807) (ha : IsInts w a zs) :
    Calls Tryz.prog 191 #[.slice a zs.length c] w fun e w' => e = .returned (.string (seqD (serD zs zs.length))) ∧ Below w.heap.size w w' := by
  have HS : Hid (∀ i, i < zs.length → -9223372036854775808 ≤ zs.getD i 0 ∧ zs.getD i 0 ≤ 9223372036854775807) := hz
  clear hz
  go_enter Tryz.func191, Tryz.ntmps191
  go_wp2
  go_loopw [3, 8] (fun t i wr => ∃ k : Nat, k ≤ zs.length ∧ i = .int .i64 k ∧ t = .string (serD zs k) ∧ Below w.heap.size w wr) (fun _ i _ => zs.length - (intOf i).toNat)
  case atStart => exact ⟨0, Nat.zero_le _, rfl, rfl, Below.refl _ _⟩
  case round =>
    obtain ⟨k, hk, rfl, rfl, hbr⟩ := hrel
    have HB : Hid (Below w.heap.size w wr) := hbr
    by_cases hlt : k < zs.length
    · obtain ⟨x, o, rfl, hc⟩ : ∃ x o, a = some ⟨x, o, none⟩ ∧ ∀ i, i < zs.length → wr.cell? ⟨x, o + i, none⟩ = some (.int .i64 (zs.getD i 0)) := by
        rcases ha.below hbr ha.lt with rfl | h
        · simp at hlt
        · exact h
      have hck := hc k hlt
      obtain ⟨hz0, hz1⟩ := HS.out k hlt
      have HP : Hid (∀ V, Calls Tryz.prog 62 #[.int .i64 (zs.getD k 0)] V fun e w' => e = .returned (.string (intD (zs.getD k 0))) ∧ Below V.heap.size V w') := fun V => implDerInt _ V hz0 hz1
      have z0 := serD_le zs k
      have z1 := intD_le (zs.getD k 0)
      have HJ : Hid (∀ V, Calls Tryz.prog 122 #[.string (serD zs k), .string (intD (zs.getD k 0))] V fun e w' => e = .returned (.string (serD zs (k + 1))) ∧ Below V.heap.size V w') := fun V => joinTexts _ _ V (by omega) (by omega)
      have a0 : (0 : Int) ≤ (k : Int) := by omega
      have b0 : (k : Int) < (zs.length : Int) := by omega
      have HR : Hid (∃ j : Nat, j ≤ zs.length ∧ Value.int .i64 ((k : Int) + 1) = .int .i64 (j : Int) ∧ Value.string (serD zs (k + 1)) = .string (serD zs j)) := ⟨k + 1, by omega, by congr 1, rfl⟩
      generalize serD zs (k + 1) = h1 at *
      generalize intD (zs.getD k 0) = h2 at *
      generalize zs.getD k 0 = z at *
      clear hc ha hbr HS z0 z1
      go_wp2_with fail
      refine (HP.out _).mono ?_
      rintro e w2 ⟨rfl, b2⟩
      have B2 : Hid (Below w.heap.size w w2) := HB.out.trans (b2.mono HB.out.size)
      clear b2
      go_wp2_with fail
      refine (HJ.out _).mono ?_
      rintro e w3 ⟨rfl, b3⟩
      have B3 : Hid (Below w.heap.size w w3) := B2.out.trans (b3.mono B2.out.size)
      clear b3
      go_wp2_with fail
      go_roundw
      case rel =>
        obtain ⟨j, j1, j2, j3⟩ := HR.out
        exact ⟨j, j1, by first | exact j2 | (rw [← j2]; simp; omega), j3, B3.out⟩
      case measure => simp [intOf]; omega
    · obtain rfl : k = zs.length := by omega
      have z0 := serD_le zs zs.length
      have HP : Hid (∀ V (g : Nat), V.heap[g]? = some (.cells #[.string (serD zs zs.length)] 9 (0, 0)) → Calls Tryz.prog 50 #[.slice (some ⟨g, 0, none⟩) 1 1] V fun e w' => e = .returned (.string (seqD (serD zs zs.length))) ∧ Below V.heap.size V w') := fun V g hg => implSeq1 _ g V (by omega) hg
      clear ha hbr HS
      go_wp2_with fail
      refine (HP.out _ _ (heap_alloc_new wr _)).mono ?_
      rintro e w2 ⟨rfl, b2⟩
      have B2 : Hid (Below w.heap.size w w2) := (HB.out.alloc HB.out.size _).trans (b2.mono (by have := HB.out.size; simp; omega))
      clear b2
      go_wp2
      go_ret
      exact ⟨rfl, B2.out⟩
end Go.Proofs.YtkhdjmjbdpmdnaaGreatDoor
