/- spec.CsrRead, walked; it tells what the program tells. What CsrRead tells, as a value. laws.eqStringS, walked. laws.eqSig, walked: of a Sig and itself. laws.eqCsr, walked: of one and itself. laws.markText, walked. What marks a row of texts, and what looks for the marks: laws.markStringS, heldStringS, walked. A row of texts that bears the marks. -/
import Derived.Test.YtekflbicjokdnaaGreatDoorCR14
import Derived.Test.YtekflbicjokdnaaGreatDoorCR21
import Derived.Test.YtekflbicjokdnaaGreatDoorCR24
import Derived.Test.YtekflbicjokdnaaGreatDoorCR03
import Derived.Test.YtekflbicjokdnaaGreatDoorCR19
import Derived.Handy
import Derived.Test.YtekflbicjokdnaaGreatDoorCR13
import Derived.Deep.Cut
import Derived.Test.YtekflbicjokdnaaGreatDoorCR05
import Derived.Test.YtekflbicjokdnaaGreatDoorCR11
import Derived.Test.YtekflbicjokdnaaGreatDoorCR08
import Derived.Deep.RegionHeld3
namespace Go.Proofs.YtekflbicjokdnaaGreatDoor
open Go.RowKit

theorem askS_fit (s : ByteArray) : (askS s).names.length ≤ 1048576 ∧ totS (askS s).names (askS s).names.length ≤ 1048576 := by
  obtain ⟨hl, hb, h1, h2, h3⟩ : ∃ l b, (askS s).names = hostsR l b ∧ l.length ≤ 60 ∧ ∀ q ∈ l, q.2.size ≤ 4000 := by
    refine ⟨_, _, rfl, ?_, ?_⟩
    · exact allD_len _
    · exact allD_4000 _
  rw [h1]
  have h4 := hostsR_len hl hb
  have h5 := totS_le (hostsR hl hb) 4000 (hostsR_each hl hb h3) _ (Nat.le_refl _)
  generalize totS (hostsR hl hb) (hostsR hl hb).length = T at *
  generalize (hostsR hl hb).length = n at *
  omega
theorem askS_sk (s : ByteArray) : (askS s).sk = (askS s).key := by simp only [askS]
/-- What the specification tells of a text. -/
noncomputable def csrS (s : ByteArray) : Ask × Int :=
  if 20000 < s.size then (zeroA, 2)
  else if formB (askS s) = true ∧ askY (askS s) = s then (if askR (askS s) = true then (askS s, 0) else (zeroA, 6)) else (zeroA, 3)
theorem csrS_fit (s : ByteArray) : (csrS s).1.names.length ≤ 1048576 := by
  have h := (askS_fit s).1
  unfold csrS
  split
  · exact Nat.zero_le _
  · split
    · split
      · exact h
      · exact Nat.zero_le _
    · exact Nat.zero_le _
theorem askT_nums (e s : Int) : numsD [e, s] 2 = askT e s := rfl
theorem csrR_eq (s : ByteArray) : csrR s = csrS s := by
  have hc : ((decide ((askE (readA s)).size ≠ 0) && sigRB (readA s).sk (readA s).se (readA s).ss) = true ∧ seqD (askE (readA s) ++ thingD 3 (numsD [(readA s).se, (readA s).ss] 2)) = s) ↔ (formB (readA s) = true ∧ askY (readA s) = s) := by
    rw [askE_ne, askT_nums]
    have hf : formB (readA s) = (askB (readA s) && sigRB (readA s).sk (readA s).se (readA s).ss) := by
      unfold formB
      rw [readA_sk, decide_eq_true rfl, Bool.and_true]
    rw [hf]
    constructor
    · rintro ⟨h1, h2⟩
      refine ⟨h1, ?_⟩
      rw [Bool.and_eq_true] at h1
      unfold askY
      unfold askE at h2
      rw [if_pos h1.1] at h2
      exact h2
    · rintro ⟨h1, h2⟩
      refine ⟨h1, ?_⟩
      rw [Bool.and_eq_true] at h1
      unfold askY at h2
      unfold askE
      rw [if_pos h1.1]
      exact h2
  unfold csrR csrS
  by_cases hl : 20000 < s.size
  · rw [if_pos hl, if_pos hl]
  rw [if_neg hl, if_neg hl]
  by_cases h1 : formB (readA s) = true ∧ askY (readA s) = s
  · have he : askS s = readA s := by
      have := askS_back h1.1
      rw [h1.2] at this
      exact this
    rw [if_pos (hc.2 h1), he, if_pos h1]
    have ha : askE (readA s) = askD (readA s) := by
      unfold askE
      rw [if_pos (formB_ask h1.1)]
    rw [ha]
    unfold askR
    rw [h1.1, Bool.true_and]
  · rw [if_neg (fun h => h1 (hc.1 h))]
    rw [if_neg]
    intro h2
    have he : readA s = askS s := by
      have := readA_back h2.1
      rw [h2.2] at this
      exact this
    rw [he] at h1
    exact h1 h2
set_option linter.unusedSimpArgs false in
set_option maxHeartbeats 1000000 in
set_option maxRecDepth 100000 in
theorem specCsrRead (s : ByteArray) (w : World) :
    Calls Tryz.prog 11 #[.string s] w fun e w' => ∃ v, e = .returned (csrV (csrS s).1 v (csrS s).2) ∧ OwnS w' w.heap.size v (csrS s).1.names ∧ Below w.heap.size w w' := by
  obtain ⟨w1, hw1⟩ : ∃ y, y = w.alloc (.cells #[.int .i64 0, .slice none 0 0, .int .i64 0, .int .i64 0, .int .i64 0, .int .i64 0] 36 (0, 0)) := ⟨_, rfl⟩
  have hz : w1.heap.size = w.heap.size + 1 := by rw [hw1]; simp
  have hg1 : w1.heap[w.heap.size]? = some (.cells [Value.int .i64 0, .slice none 0 0, .int .i64 0, .int .i64 0, .int .i64 0, .int .i64 0].toArray 36 (0, 0)) := by rw [hw1]; exact heap_alloc_new w _
  have hB1 : Below w.heap.size w w1 := by rw [hw1]; exact (Below.refl _ w).alloc (Nat.le_refl _) _
  have HB : Hid (∀ V, Below w1.heap.size w1 V → Below w.heap.size w V) := fun V hV => hB1.trans (hV.mono (by omega))
  have HRes : Hid (∀ V, Below w1.heap.size w1 V → V.heap[w.heap.size]? = some (.cells [Value.int .i64 0, .slice none 0 0, .int .i64 0, .int .i64 0, .int .i64 0, .int .i64 0].toArray 36 (0, 0))) := fun V hV => by rw [hV.block _ (by omega)]; exact hg1
  have HRd : Hid (¬ 20000 < s.size → ∀ V, Calls Tryz.prog 30 #[.string s] V fun e w' => ∃ v, e = .returned ((askS s).val v) ∧ OwnS w' V.heap.size v (askS s).names ∧ Below V.heap.size V w') := fun h V => specRead7 s V (by omega)
  have HNf : Hid ((askS s).names.length ≤ 1048576 ∧ totS (askS s).names (askS s).names.length ≤ 1048576) := askS_fit s
  have HRn : Hid (¬ 20000 < s.size → csrS s = if formB (askS s) = true ∧ askY (askS s) = s then (if askR (askS s) = true then (askS s, 0) else (zeroA, 6)) else (zeroA, 3)) := fun h => by show _ = _; rw [csrS, if_neg h]
  obtain ⟨R, hR⟩ : ∃ R, R = csrS s := ⟨_, rfl⟩
  rw [← hR]
  have HR : Hid (R = csrS s) := hR
  have I1 : Hid (Below w1.heap.size w1 w1) := Below.refl _ _
  have Z1 : Hid (w1.heap.size = w.heap.size + 1) := hz
  clear hR hg1 hB1 hz
  go_enter Tryz.func11, Tryz.ntmps11
  by_cases hl : 20000 < s.size
  · have HF : Hid (R = (zeroA, 2)) := by show _ = _; rw [HR.out, csrS, if_pos hl]
    go_upto_region 2 with fail
    rw [← hw1]
    clear hw1
    go_wp2_with (refine wpList_store_row rfl 36 _ _ rfl (w.heap.size) _ [Value.int .i64 0, .slice none 0 0, .int .i64 0, .int .i64 0, .int .i64 0, .int .i64 2] 36 rfl rfl (HRes.out _ I1.out) rfl sizeCsrOut (by simp [Value.oneCell']) ?_)
    intro w8 hrow ho hs8 hbb
    have HROW : Hid _ := hrow
    have HB8 : Hid (Below w.heap.size w w8) := hbb _ _ (by omega) (HB.out _ I1.out)
    clear ho hs8 hbb hrow
    go_wp2
    refine bodyPost_ret (v := .agg [Value.int .i64 0, .slice none 0 0, .int .i64 0, .int .i64 0, .int .i64 0, .int .i64 2].toArray) ?_ rfl ⟨.slice none 0 0, by rw [HF.out]; rfl, by rw [HF.out]; exact ownS_nil _ _, HB8.out⟩
    have hl3 := run_loadVar_mid (P := Tryz.prog) _ (w.heap.size) 0 36 _ _ (rangeRow HROW.out) Tryz.underlying36 rfl sizeCsrOut
    simp [results, Tryz.results11, asAddr, hl3]
  · have HRd' : Hid _ := HRd.out hl
    have HRn' : Hid _ := HRn.out hl
    rw [← HR.out] at HRn'
    clear HRd HRn
    go_wp2_with fail
    rw [← hw1]
    refine (HRd'.out w1).mono ?_
    rintro e w3 ⟨v, rfl, o3, b3⟩
    clear HRd' hw1
    obtain ⟨va, vc, rfl, _⟩ := OwnS.form o3
    have O3 : Hid (OwnS w3 (w.heap.size + 1) (.slice va (askS s).names.length vc) (askS s).names) := o3.mono (by rw [Z1.out]; omega)
    have B3 : Hid (Below w1.heap.size w1 w3) := b3
    clear o3 b3
    obtain ⟨c, hc⟩ : ∃ c, c = askS s := ⟨_, rfl⟩
    rw [← hc] at O3 HNf HRn'
    rw [← hc]
    have HIs : Hid (∀ V, Below w3.heap.size w3 V → IsStrs V va c.names) := fun V hV => O3.out.strs.keep hV
    have HFm : Hid (∀ V, Below w3.heap.size w3 V → Calls Tryz.prog 31 #[c.val (.slice va c.names.length vc)] V fun e w' => e = .returned (.bool (formB c)) ∧ Below V.heap.size V w') := fun V hV => specForm c va vc V HNf.out.1 HNf.out.2 (HIs.out V hV)
    have HRt : Hid (∀ V, Below w3.heap.size w3 V → Calls Tryz.prog 33 #[c.val (.slice va c.names.length vc)] V fun e w' => e = .returned (.bool (askR c)) ∧ Below V.heap.size V w') := fun V hV => specAskR c va vc V HNf.out.1 HNf.out.2 (HIs.out V hV)
    have HBy : Hid (formB c = true → ∀ V, Below w3.heap.size w3 V → Calls Tryz.prog 32 #[c.val (.slice va c.names.length vc)] V fun e w' => e = .returned (.string (askY c)) ∧ Below V.heap.size V w') := fun h V hV => by
      obtain ⟨f1, f2, f3, f4⟩ := ask_fits (formB_ask h)
      obtain ⟨_, g1, g2⟩ := sigRB_lt (formB_sig h)
      exact specAskY c va vc V (by omega) (by omega) (by omega) f2 f4 (HIs.out V hV)
    have HYs : Hid (formB c = true → (askY c).size ≤ 1000) := fun h => by
      have h1 := (askL2_ok (formB_ask h)).2
      have h2 := thingD_le 48 (catT (askL2 c))
      show (askY c).size ≤ 1000
      rw [askY_cat, catT_one]
      show (thingD 48 (catT (askL2 c))).size ≤ 1000
      omega
    clear hc HNf HIs HR
    generalize formB c = P at *
    generalize askY c = Y at *
    generalize askR c = T at *
    obtain ⟨key, names, sk, se, ss⟩ := c
    unfold Ask.val at *
    simp only at HFm HRt HBy O3 ⊢
    obtain ⟨w4, hw4⟩ : ∃ y, y = w3.alloc (.cells #[.int .i64 key, .slice va names.length vc, .int .i64 sk, .int .i64 se, .int .i64 ss] 34 (0, 0)) := ⟨_, rfl⟩
    have b4 : Below w3.heap.size w3 w4 := by rw [hw4]; exact (Below.refl _ w3).alloc (Nat.le_refl _) _
    have G4 : Hid (w4.heap[w3.heap.size]? = some (.cells [Value.int .i64 key, .slice va names.length vc, .int .i64 sk, .int .i64 se, .int .i64 ss].toArray 34 (0, 0))) := by show _ = _; rw [hw4]; exact heap_alloc_new w3 _
    have B4 : Hid (Below w3.heap.size w3 w4) := b4
    have O4 : Hid (OwnS w4 (w.heap.size + 1) (.slice va names.length vc) names) := O3.out.keep b4
    have K4 : Hid (Below w1.heap.size w1 w4) := B3.out.trans (b4.mono B3.out.size)
    clear b4 O3
    have d0 := rowFacts G4.out 0 _ rfl
    have d1 := rowFacts G4.out 1 _ rfl
    have d2 := rowFacts G4.out 2 _ rfl
    have d3 := rowFacts G4.out 3 _ rfl
    have d4 := rowFacts G4.out 4 _ rfl
    go_upto_region 4 with fail
    rw [← hw4]
    clear hw4
    go_wp2_with fail
    refine (HFm.out w4 B4.out).mono ?_
    rintro e w5 ⟨rfl, b5⟩
    have B5 : Hid (Below w3.heap.size w3 w5) := B4.out.trans (b5.mono B4.out.size)
    have K5 : Hid (Below w1.heap.size w1 w5) := K4.out.trans (b5.mono K4.out.size)
    have G5 : Hid (w5.heap[w3.heap.size]? = some (.cells [Value.int .i64 key, .slice va names.length vc, .int .i64 sk, .int .i64 se, .int .i64 ss].toArray 34 (0, 0))) := (b5.block _ (heap_lt G4.out)).trans G4.out
    have O5 : Hid (OwnS w5 (w.heap.size + 1) (.slice va names.length vc) names) := O4.out.keep b5
    clear b5 d0 d1 d2 d3 d4 HFm B4 K4 G4 O4
    cases P with
    | false =>
      have HF : Hid (R = (zeroA, 3)) := by show _ = _; rw [HRn'.out, if_neg (by simp)]
      go_wp2_with (refine wpList_store_row rfl 36 _ _ rfl (w.heap.size) _ [Value.int .i64 0, .slice none 0 0, .int .i64 0, .int .i64 0, .int .i64 0, .int .i64 3] 36 rfl rfl (HRes.out _ K5.out) rfl sizeCsrOut (by simp [Value.oneCell']) ?_)
      intro w8 hrow ho hs8 hbb
      have HROW : Hid _ := hrow
      have HB8 : Hid (Below w.heap.size w w8) := hbb _ _ (by omega) (HB.out _ K5.out)
      clear ho hs8 hbb hrow
      go_wp2
      refine bodyPost_ret (v := .agg [Value.int .i64 0, .slice none 0 0, .int .i64 0, .int .i64 0, .int .i64 0, .int .i64 3].toArray) ?_ rfl ⟨.slice none 0 0, by rw [HF.out]; rfl, by rw [HF.out]; exact ownS_nil _ _, HB8.out⟩
      have hl3 := run_loadVar_mid (P := Tryz.prog) _ (w.heap.size) 0 36 _ _ (rangeRow HROW.out) Tryz.underlying36 rfl sizeCsrOut
      simp [results, Tryz.results11, asAddr, hl3]
    | true =>
    have HBy' : Hid _ := HBy.out rfl
    have HYs' := HYs.out rfl
    have d0 := rowFacts G5.out 0 _ rfl
    have d1 := rowFacts G5.out 1 _ rfl
    have d2 := rowFacts G5.out 2 _ rfl
    have d3 := rowFacts G5.out 3 _ rfl
    have d4 := rowFacts G5.out 4 _ rfl
    go_wp2_with fail
    refine (HBy'.out w5 B5.out).mono ?_
    rintro e w6 ⟨rfl, b6⟩
    have B6 : Hid (Below w3.heap.size w3 w6) := B5.out.trans (b6.mono B5.out.size)
    have K6 : Hid (Below w1.heap.size w1 w6) := K5.out.trans (b6.mono K5.out.size)
    have G6 : Hid (w6.heap[w3.heap.size]? = some (.cells [Value.int .i64 key, .slice va names.length vc, .int .i64 sk, .int .i64 se, .int .i64 ss].toArray 34 (0, 0))) := (b6.block _ (heap_lt G5.out)).trans G5.out
    have O6 : Hid (OwnS w6 (w.heap.size + 1) (.slice va names.length vc) names) := O5.out.keep b6
    clear b6 d0 d1 d2 d3 d4 HBy HBy' HYs B5 K5 G5 O5
    by_cases hY : Y = s
    rotate_left
    · have HF : Hid (R = (zeroA, 3)) := by show _ = _; rw [HRn'.out, if_neg (fun h => hY h.2)]
      have e1 : (Y.toList == s.toList) = false := by rw [same_text, decide_eq_false hY]
      have e2 : (Y.toList != s.toList) = true := by rw [bne, e1]; rfl
      go_wp2_with (refine wpList_store_row rfl 36 _ _ rfl (w.heap.size) _ [Value.int .i64 0, .slice none 0 0, .int .i64 0, .int .i64 0, .int .i64 0, .int .i64 3] 36 rfl rfl (HRes.out _ K6.out) rfl sizeCsrOut (by simp [Value.oneCell']) ?_)
      intro w8 hrow ho hs8 hbb
      have HROW : Hid _ := hrow
      have HB8 : Hid (Below w.heap.size w w8) := hbb _ _ (by omega) (HB.out _ K6.out)
      clear ho hs8 hbb hrow
      go_wp2
      refine bodyPost_ret (v := .agg [Value.int .i64 0, .slice none 0 0, .int .i64 0, .int .i64 0, .int .i64 0, .int .i64 3].toArray) ?_ rfl ⟨.slice none 0 0, by rw [HF.out]; rfl, by rw [HF.out]; exact ownS_nil _ _, HB8.out⟩
      have hl3 := run_loadVar_mid (P := Tryz.prog) _ (w.heap.size) 0 36 _ _ (rangeRow HROW.out) Tryz.underlying36 rfl sizeCsrOut
      simp [results, Tryz.results11, asAddr, hl3]
    have HT : Hid (R = if T = true then (⟨key, names, sk, se, ss⟩, 0) else (zeroA, 6)) := by show _ = _; rw [HRn'.out, if_pos ⟨trivial, hY⟩]
    have e2 : (Y.toList != s.toList) = false := by rw [bne, same_text, decide_eq_true hY]; rfl
    clear HRn'
    have d0 := rowFacts G6.out 0 _ rfl
    have d1 := rowFacts G6.out 1 _ rfl
    have d2 := rowFacts G6.out 2 _ rfl
    have d3 := rowFacts G6.out 3 _ rfl
    have d4 := rowFacts G6.out 4 _ rfl
    go_wp2_with fail
    refine (HRt.out w6 B6.out).mono ?_
    rintro e w7 ⟨rfl, b7⟩
    have K7 : Hid (Below w1.heap.size w1 w7) := K6.out.trans (b7.mono K6.out.size)
    have G7 : Hid (w7.heap[w3.heap.size]? = some (.cells [Value.int .i64 key, .slice va names.length vc, .int .i64 sk, .int .i64 se, .int .i64 ss].toArray 34 (0, 0))) := (b7.block _ (heap_lt G6.out)).trans G6.out
    have O7 : Hid (OwnS w7 (w.heap.size + 1) (.slice va names.length vc) names) := O6.out.keep b7
    clear b7 d0 d1 d2 d3 d4 HRt B6 K6 G6 O6 hY e2
    cases T with
    | false =>
      have HF : Hid (R = (zeroA, 6)) := by show _ = _; rw [HT.out]; simp
      go_wp2_with (refine wpList_store_row rfl 36 _ _ rfl (w.heap.size) _ [Value.int .i64 0, .slice none 0 0, .int .i64 0, .int .i64 0, .int .i64 0, .int .i64 6] 36 rfl rfl (HRes.out _ K7.out) rfl sizeCsrOut (by simp [Value.oneCell']) ?_)
      intro w8 hrow ho hs8 hbb
      have HROW : Hid _ := hrow
      have HB8 : Hid (Below w.heap.size w w8) := hbb _ _ (by omega) (HB.out _ K7.out)
      clear ho hs8 hbb hrow
      go_wp2
      refine bodyPost_ret (v := .agg [Value.int .i64 0, .slice none 0 0, .int .i64 0, .int .i64 0, .int .i64 0, .int .i64 6].toArray) ?_ rfl ⟨.slice none 0 0, by rw [HF.out]; rfl, by rw [HF.out]; exact ownS_nil _ _, HB8.out⟩
      have hl3 := run_loadVar_mid (P := Tryz.prog) _ (w.heap.size) 0 36 _ _ (rangeRow HROW.out) Tryz.underlying36 rfl sizeCsrOut
      simp [results, Tryz.results11, asAddr, hl3]
    | true =>
      have HF : Hid (R = (⟨key, names, sk, se, ss⟩, 0)) := by show _ = _; rw [HT.out]; simp
      have d0 := rowFacts G7.out 0 _ rfl
      have d1 := rowFacts G7.out 1 _ rfl
      have d2 := rowFacts G7.out 2 _ rfl
      have d3 := rowFacts G7.out 3 _ rfl
      have d4 := rowFacts G7.out 4 _ rfl
      go_wp2_with (refine wpList_store_row rfl 36 _ _ rfl (w.heap.size) _ [Value.int .i64 key, .slice va names.length vc, .int .i64 sk, .int .i64 se, .int .i64 ss, .int .i64 0] 36 rfl rfl (HRes.out _ K7.out) rfl sizeCsrOut (by simp [Value.oneCell']) ?_)
      intro w8 hrow ho hs8 hbb
      have HROW : Hid _ := hrow
      have HB8 : Hid (Below w.heap.size w w8) := hbb _ _ (by omega) (HB.out _ K7.out)
      have O8 : Hid (OwnS w8 (w.heap.size + 1) (.slice va names.length vc) names) := O7.out.same fun b h1 h2 => ho b (by omega)
      clear ho hs8 hbb hrow
      go_wp2
      refine bodyPost_ret (v := .agg [Value.int .i64 key, .slice va names.length vc, .int .i64 sk, .int .i64 se, .int .i64 ss, .int .i64 0].toArray) ?_ rfl ⟨.slice va names.length vc, by rw [HF.out]; rfl, by rw [HF.out]; exact O8.out.mono (by omega), HB8.out⟩
      have hl3 := run_loadVar_mid (P := Tryz.prog) _ (w.heap.size) 0 36 _ _ (rangeRow HROW.out) Tryz.underlying36 rfl sizeCsrOut
      simp [results, Tryz.results11, asAddr, hl3]
end Go.Proofs.YtekflbicjokdnaaGreatDoor
namespace Go.Proofs.YtekflbicjokdnaaGreatDoor
end Go.Proofs.YtekflbicjokdnaaGreatDoor
namespace Go.Proofs.YtekflbicjokdnaaGreatDoor
open Go.RowKit

set_option maxHeartbeats 1000000 in
set_option maxRecDepth 100000 in
theorem eqStrs (a b : Option Addr) (zs : List ByteArray) (c d : Nat) (w : World) (hl : zs.length ≤ 2000000) (ha : IsStrs w a zs) (hb : IsStrs w b zs) :
    Calls Tryz.prog 71 #[.slice a zs.length c, .slice b zs.length d] w fun e w' => e = .returned (.bool true) ∧ Below w.heap.size w w' := by
  go_enter Tryz.func71, Tryz.ntmps71
  go_wp2
  go_loopw [5] (fun i wr => ∃ k : Nat, k ≤ zs.length ∧ i = .int .i64 k ∧ Below w.heap.size w wr) (fun i _ => zs.length - (intOf i).toNat)
  case atStart => exact ⟨0, Nat.zero_le _, rfl, Below.refl _ _⟩
  case round =>
    obtain ⟨k, hk, rfl, hbr⟩ := hrel
    by_cases hlt : k < zs.length
    · obtain ⟨x, o, rfl, hc⟩ : ∃ x o, a = some ⟨x, o, none⟩ ∧ ∀ i, i < zs.length → wr.cell? ⟨x, o + i, none⟩ = some (.string (tAt zs i)) := by
        rcases ha.below hbr ha.lt with rfl | h
        · simp at hlt
        · exact h
      obtain ⟨y, p, rfl, hd⟩ : ∃ x o, b = some ⟨x, o, none⟩ ∧ ∀ i, i < zs.length → wr.cell? ⟨x, o + i, none⟩ = some (.string (tAt zs i)) := by
        rcases hb.below hbr hb.lt with rfl | h
        · simp at hlt
        · exact h
      have hck := hc k hlt
      have hdk := hd k hlt
      have HB : Hid (Below w.heap.size w wr) := hbr
      generalize tAt zs k = z at hck hdk
      generalize hn : zs.length = n at *
      clear hc hd ha hb hbr hn
      go_wp2
      go_quiet (fail)
      go_wp2
      go_roundw
      case rel => exact ⟨k + 1, by omega, by go_num, below_drewN HB.out _⟩
      case measure => simp [intOf]; omega
    · go_wp2
      go_ret
      exact ⟨rfl, hbr⟩
end Go.Proofs.YtekflbicjokdnaaGreatDoor
namespace Go.Proofs.YtekflbicjokdnaaGreatDoor
open Go.RowKit

set_option maxHeartbeats 1000000 in
set_option maxRecDepth 100000 in
theorem eqSig (k e s : Int) (w : World) :
    Calls Tryz.prog 72 #[.agg #[.int .i64 k, .int .i64 e, .int .i64 s], .agg #[.int .i64 k, .int .i64 e, .int .i64 s]] w fun r w' => r = .returned (.bool true) ∧ Below w.heap.size w w' := by
  go_enter Tryz.func72, Tryz.ntmps72
  go_wp2
  go_ret
  exact ⟨rfl, (allocBelow w _).alloc (by simp) _⟩
end Go.Proofs.YtekflbicjokdnaaGreatDoor
namespace Go.Proofs.YtekflbicjokdnaaGreatDoor
open Go.RowKit

set_option maxHeartbeats 4000000 in
set_option maxRecDepth 100000 in
theorem eqCsr (c : Ask) (a b : Option Addr) (ca1 cb : Nat) (w : World) (hl : c.names.length ≤ 1048576) (ha : IsStrs w a c.names) (hb : IsStrs w b c.names) :
    Calls Tryz.prog 39 #[c.val (.slice a c.names.length ca1), c.val (.slice b c.names.length cb)] w fun e w' => e = .returned (.bool true) ∧ Below w.heap.size w w' := by
  obtain ⟨key, names, sk, se, ss⟩ := c
  simp only at hl ha hb
  unfold Ask.val
  simp only
  have HE : Hid (∀ V, IsStrs V a names → IsStrs V b names → Calls Tryz.prog 71 #[.slice a names.length ca1, .slice b names.length cb] V fun e w' => e = .returned (.bool true) ∧ Below V.heap.size V w') := fun V h1 h2 => eqStrs a b names ca1 cb V (by omega) h1 h2
  generalize names.length = nl at *
  obtain ⟨w0, hw0⟩ : ∃ w0, w0 = w.alloc (.cells #[.int .i64 key, .slice a nl ca1, .int .i64 sk, .int .i64 se, .int .i64 ss] 34 (0, 0)) := ⟨_, rfl⟩
  obtain ⟨w1, hw1⟩ : ∃ w1, w1 = w0.alloc (.cells #[.int .i64 key, .slice b nl cb, .int .i64 sk, .int .i64 se, .int .i64 ss] 34 (0, 0)) := ⟨_, rfl⟩
  have z0 : w0.heap.size = w.heap.size + 1 := by rw [hw0]; simp
  have r1 : w1.heap[w.heap.size + 1]? = some (.cells [Value.int .i64 key, .slice b nl cb, .int .i64 sk, .int .i64 se, .int .i64 ss].toArray 34 (0, 0)) := by rw [hw1, ← z0]; exact heap_alloc_new w0 _
  have r0 : w1.heap[w.heap.size]? = some (.cells [Value.int .i64 key, .slice a nl ca1, .int .i64 sk, .int .i64 se, .int .i64 ss].toArray 34 (0, 0)) := by rw [hw1, Below.heap_alloc _ _ _ (by omega), hw0]; exact heap_alloc_new w _
  have B1 : Hid (Below w.heap.size w w1) := by rw [hw1, hw0]; exact ((Below.refl _ _).alloc (Nat.le_refl _) _).alloc (by simp) _
  have A1 : Hid (IsStrs w1 a names) := ha.keep B1.out
  have A2 : Hid (IsStrs w1 b names) := hb.keep B1.out
  have c0 := rowFacts r0 0 _ rfl
  have d0 := rowFacts r1 0 _ rfl
  have c1 := rowFacts r0 1 _ rfl
  have d1 := rowFacts r1 1 _ rfl
  have c2 := rowFacts r0 2 _ rfl
  have d2 := rowFacts r1 2 _ rfl
  have c3 := rowFacts r0 3 _ rfl
  have d3 := rowFacts r1 3 _ rfl
  have c4 := rowFacts r0 4 _ rfl
  have d4 := rowFacts r1 4 _ rfl
  have R0 : Hid (w.heap.size < w1.heap.size) := heap_lt r0
  have R1 : Hid (w.heap.size + 1 < w1.heap.size) := heap_lt r1
  rw [hw0] at hw1
  clear r0 r1 ha hb hw0 z0
  go_enter Tryz.func39, Tryz.ntmps39
  go_upto_region 1 with fail
  rw [← hw1]
  clear hw1
  go_wp2_with fail
  refine (HE.out _ A1.out A2.out).mono ?_
  rintro e w2 ⟨rfl, b2⟩
  have B2 : Hid (Below w.heap.size w w2) := B1.out.trans (b2.mono B1.out.size)
  have e2 := (b2.cell (p := ⟨w.heap.size, 2, none⟩) R0.out).trans c2
  have f2 := (b2.cell (p := ⟨w.heap.size + 1, 2, none⟩) R1.out).trans d2
  have e3 := (b2.cell (p := ⟨w.heap.size, 3, none⟩) R0.out).trans c3
  have f3 := (b2.cell (p := ⟨w.heap.size + 1, 3, none⟩) R1.out).trans d3
  have e4 := (b2.cell (p := ⟨w.heap.size, 4, none⟩) R0.out).trans c4
  have f4 := (b2.cell (p := ⟨w.heap.size + 1, 4, none⟩) R1.out).trans d4
  clear b2 B1 A1 A2 HE R0 R1 c0 d0 c1 d1 c2 d2 c3 d3 c4 d4
  go_wp2_with fail
  refine (eqSig sk se ss _).mono ?_
  rintro e w3 ⟨rfl, b3⟩
  have B3 : Hid (Below w.heap.size w w3) := B2.out.trans (b3.mono B2.out.size)
  clear b3 B2
  go_wp2
  go_ret
  exact ⟨rfl, B3.out⟩
end Go.Proofs.YtekflbicjokdnaaGreatDoor
namespace Go.Proofs.YtekflbicjokdnaaGreatDoor
open Go.RowKit

/-- A number's digits of ten. -/
def digK : Nat → Nat → List Int
  | 0, _ => []
  | f + 1, k => if k = 0 then [] else digK f (k / 10) ++ [((k % 10 + 48 : Nat) : Int)]
def mkT (k : Nat) : ByteArray := ⟨#[109]⟩ ++ strOfNums (digK 7 k)
theorem digK_zero (f : Nat) : digK f 0 = [] := by cases f <;> simp [digK]
theorem digK_more {f k : Nat} (h : k ≠ 0) (hf : k < 10 ^ f) : ∃ g, f = g + 1 ∧ k / 10 < 10 ^ g ∧ digK f k = digK g (k / 10) ++ [((k % 10 + 48 : Nat) : Int)] := by
  cases f with
  | zero => simp at hf; omega
  | succ g => exact ⟨g, rfl, by rw [Nat.pow_succ] at hf; omega, by rw [digK, if_neg h]⟩
theorem strCons (x : Int) (l : List Int) : strOfNums [x] ++ strOfNums l = strOfNums (x :: l) := by
  rw [strOfNums, strOfNums, strOfNums, ByteArray.mk_append_mk]; rfl
set_option maxHeartbeats 1000000 in
set_option maxRecDepth 100000 in
theorem markText (k : Nat) (w : World) (h0 : 1 ≤ k) (hk : k < 10000000) :
    Calls Tryz.prog 127 #[.int .i64 (k : Int)] w fun e w' => e = .returned (.string (mkT k)) ∧ Below w.heap.size w w' := by
  go_enter Tryz.func127, Tryz.ntmps127
  go_wp2_with fail
  go_loopw [0, 3] (fun q t wr => ∃ (j f : Nat) (tl : List Int), q = .int .i64 (j : Int) ∧ j < 10 ^ f ∧ j < 10000000 ∧ f + tl.length ≤ 7 ∧ t = .string (strOfNums tl) ∧ digK f j ++ tl = digK 7 k ∧ Below w.heap.size w wr ∧ w.heap.size ≤ wr.heap.size)
    (fun q _ _ => (intOf q).toNat)
  case atStart => exact ⟨k, 7, [], rfl, by omega, hk, by simp, rfl, by simp, Below.refl _ _, Nat.le_refl _⟩
  case round =>
    obtain ⟨j, f, tl, rfl, hf, hj, hlen, rfl, heq, hbel, hsz⟩ := hrel
    have HE : Hid (digK f j ++ tl = digK 7 k) := heq
    have HF : Hid (j < 10 ^ f) := hf
    have hts : (strOfNums tl).size ≤ 7 := by rw [strOfNums_size]; omega
    clear heq hf
    by_cases h0 : j = 0
    · have HS : Hid (mkT k = ⟨#[109]⟩ ++ strOfNums tl) := by
        show _ = _
        rw [mkT, ← HE.out, h0, digK_zero]; rfl
      subst h0
      generalize strOfNums tl = u at *
      go_wp2_with fail
      go_ret
      exact ⟨by rw [HS.out]; rfl, hbel⟩
    · have HN : Hid (j ≠ 0) := h0
      have hp : 0 < j := by omega
      have hcv := fun V => convertRow (V.alloc (.cells #[.int .u8 (48 + (j : Int) % 10)] 5 (0, 0))) V.heap.size [48 + (j : Int) % 10] 5 1 1 rfl (heap_alloc_new V _)
      have HC : Hid (strOfNums [48 + (j : Int) % 10] ++ strOfNums tl = strOfNums (((j % 10 + 48 : Nat) : Int) :: tl)) := by
        show _ = _
        rw [strCons, show (48 + (j : Int) % 10) = ((j % 10 + 48 : Nat) : Int) from by omega]
      have h1s : (strOfNums [48 + (j : Int) % 10]).size = 1 := rfl
      have HBA : Hid (∀ o, Below w.heap.size w (wr.alloc o)) := fun o => hbel.alloc hsz o
      clear h0 hbel
      generalize strOfNums [48 + (j : Int) % 10] = s1 at *
      generalize strOfNums tl = u at *
      go_wp2_with fail
      go_roundw
      case rel =>
        obtain ⟨f', rfl, hf', he⟩ := digK_more HN.out HF.out
        refine ⟨j / 10, f', ((j % 10 + 48 : Nat) : Int) :: tl, by simp, hf', by omega, by simp; omega, by rw [HC.out], ?_, HBA.out _, by simp; omega⟩
        rw [← HE.out, he]; simp
      case measure => simp [intOf]; omega
/-- The marks from k on in a row of n things. -/
def MarksT (k n : Nat) (M : List Value) : Prop := ∀ i, i < n → M[i * 2]? = some (.int .i64 ((k + 2 * i : Nat) : Int)) ∧ M[i * 2 + 1]? = some (.string (mkT (k + 2 * i + 1)))
end Go.Proofs.YtekflbicjokdnaaGreatDoor
namespace Go.Proofs.YtekflbicjokdnaaGreatDoor
open Go.RowKit

def MarksS (k n : Nat) (M : List Value) : Prop := ∀ i, i < n → M[i]? = some (.string (mkT (k + i)))
set_option maxHeartbeats 2000000 in
set_option maxRecDepth 100000 in
theorem markStrs (g n c k : Nat) (L : List Value) (w : World) (hn : n ≤ 1048576) (hk0 : 1 ≤ k) (hk : k ≤ 1048577) (hL : n ≤ L.length) (hg : w.heap[g]? = some (.cells L.toArray 9 (0, 0))) :
    Calls Tryz.prog 73 #[.slice (some ⟨g, 0, none⟩) n c, .int .i64 (k : Int)] w fun e w' => e = .returned (.int .i64 ((k + n : Nat) : Int)) ∧ (∃ M, w'.heap[g]? = some (.cells M.toArray 9 (0, 0)) ∧ MarksS k n M) ∧
      (∀ b, b ≠ g → b < w.heap.size → w'.heap[b]? = w.heap[b]?) ∧ w.heap.size ≤ w'.heap.size ∧ ∀ B w0, B ≤ g → B ≤ w.heap.size → Below B w0 w → Below B w0 w' := by
  go_enter Tryz.func73, Tryz.ntmps73
  go_wp2_with fail
  go_loopw [1, 5] (fun q i wr => ∃ (j : Nat) (M : List Value), j ≤ n ∧ q = .int .i64 ((k + j : Nat) : Int) ∧ i = .int .i64 (j : Int) ∧ n ≤ M.length ∧ wr.heap[g]? = some (.cells M.toArray 9 (0, 0)) ∧ MarksS k j M ∧
      (∀ b, b ≠ g → b < w.heap.size → wr.heap[b]? = w.heap[b]?) ∧ w.heap.size ≤ wr.heap.size ∧ ∀ B w0, B ≤ g → B ≤ w.heap.size → Below B w0 w → Below B w0 wr)
    (fun _ i _ => n - (intOf i).toNat)
  case atStart => exact ⟨0, L, Nat.zero_le _, by simp, rfl, hL, hg, fun i hi => by omega, fun _ _ _ => rfl, Nat.le_refl _, fun _ _ _ _ h => h⟩
  case round =>
    clear hg hL
    obtain ⟨j, M, hj, rfl, rfl, hM, hgr, hc, ho, hsz, hbl⟩ := hrel
    by_cases hlt : j < n
    · obtain ⟨q, hq⟩ : ∃ q, q = k + j := ⟨_, rfl⟩
      rw [← hq]
      have hq1 : 1 ≤ q := by omega
      have hq2 : q ≤ 2100000 := by omega
      have HMk : Hid (∀ V : World, Calls Tryz.prog 127 #[.int .i64 (q : Int)] V fun e w' => e = .returned (.string (mkT q)) ∧ Below V.heap.size V w') := fun V => markText q V hq1 (by omega)
      have HC : Hid (MarksS k (j + 1) (M.set j (.string (mkT q)))) := fun i hi => by
        by_cases e : i = j
        · subst e
          rw [List.getElem?_set_self (by omega), hq]
        · rw [List.getElem?_set_ne (by omega)]
          exact hc i (by omega)
      have HLn : Hid (∀ v, n ≤ (M.set j v).length) := fun v => by simpa using hM
      have HOt : Hid (∀ b, b ≠ g → b < w.heap.size → wr.heap[b]? = w.heap[b]?) := ho
      have HBl : Hid (∀ B w0, B ≤ g → B ≤ w.heap.size → Below B w0 w → Below B w0 wr) := hbl
      have hgl : g < wr.heap.size := heap_lt hgr
      have HQ : Hid (q = k + j) := hq
      have HML : Hid (j < M.length) := by show _ < _; omega
      have HGr : Hid (wr.heap[g]? = some (.cells M.toArray 9 (0, 0))) := hgr
      have a0 : (0 : Int) ≤ (j : Int) := by omega
      have b0 : (j : Int) < (n : Int) := by omega
      clear hc ho hgr hM hbl hq
      generalize mkT q = u at *
      go_wp2_with fail
      refine (HMk.out _).mono ?_
      rintro e w1 ⟨rfl, hb1⟩
      have hs1 := hb1.size
      have hr1 : w1.heap[g]? = some (.cells M.toArray 9 (0, 0)) := by rw [hb1.block g hgl]; exact HGr.out
      have d1 := rowFacts hr1 j _ (List.getElem?_eq_getElem HML.out)
      have z1 := rowFree hr1 j
      generalize M[j]'HML.out = v1 at d1
      have HR1 : Hid (∀ v, (w1.setCell ⟨g, j, none⟩ v).heap[g]? = some (.cells (M.set j v).toArray 9 (0, 0))) := fun v => rowSet v hr1
      have HO1 : Hid (∀ v b, b ≠ g → b < w.heap.size → (w1.setCell ⟨g, j, none⟩ v).heap[b]? = w.heap[b]?) := fun v b hb hl => by
        rw [heap_setCell_other _ _ _ _ hb, hb1.block b (by omega)]
        exact HOt.out b hb hl
      have HB1 : Hid (∀ v B w0, B ≤ g → B ≤ w.heap.size → Below B w0 w → Below B w0 (w1.setCell ⟨g, j, none⟩ v)) := fun v B w0 h1 h2 h3 =>
        ((HBl.out B w0 h1 h2 h3).trans (hb1.mono (by omega))).setCell h1 v
      clear hb1 hr1 HMk HOt HBl
      go_wp2_with fail
      go_roundw
      case rel => exact ⟨j + 1, _, by omega, by have := HQ.out; go_num, by go_num, HLn.out _, HR1.out _, HC.out, HO1.out _, by simp; omega, HB1.out _⟩
      case measure => simp [intOf]; omega
    · obtain rfl : j = n := by omega
      have HC : Hid (∃ M : List Value, wr.heap[g]? = some (.cells M.toArray 9 (0, 0)) ∧ MarksS k j M) := ⟨M, hgr, hc⟩
      have HOt : Hid (∀ b, b ≠ g → b < w.heap.size → wr.heap[b]? = w.heap[b]?) := ho
      have HBl : Hid (∀ B w0, B ≤ g → B ≤ w.heap.size → Below B w0 w → Below B w0 wr) := hbl
      clear hc ho hgr hbl
      go_wp2_with fail
      go_ret
      exact ⟨rfl, HC.out, HOt.out, hsz, HBl.out⟩
set_option maxHeartbeats 2000000 in
set_option maxRecDepth 100000 in
theorem heldStrs (g n c k : Nat) (M : List Value) (w : World) (hn : n ≤ 1048576) (hk0 : 1 ≤ k) (hk : k ≤ 1048577) (hg : w.heap[g]? = some (.cells M.toArray 9 (0, 0))) (hm : MarksS k n M) :
    Calls Tryz.prog 74 #[.slice (some ⟨g, 0, none⟩) n c, .int .i64 (k : Int)] w fun e w' => e = .returned (.int .i64 ((k + n : Nat) : Int)) ∧ Below w.heap.size w w' := by
  have hgl : g < w.heap.size := heap_lt hg
  have HC : Hid (∀ W, Below w.heap.size w W → ∀ i, i < n → W.cell? ⟨g, i, none⟩ = some (.string (mkT (k + i)))) := fun W hW i hi => by
    rw [hW.cell (p := ⟨g, i, none⟩) hgl]
    exact rowFacts hg _ _ (hm i hi)
  clear hg hm
  go_enter Tryz.func74, Tryz.ntmps74
  go_wp2_with fail
  go_loopw [1, 5] (fun q i wr => ∃ j : Nat, j ≤ n ∧ q = .int .i64 ((k + j : Nat) : Int) ∧ i = .int .i64 (j : Int) ∧ Below w.heap.size w wr)
    (fun _ i _ => n - (intOf i).toNat)
  case atStart => exact ⟨0, Nat.zero_le _, by simp, rfl, Below.refl _ _⟩
  case round =>
    obtain ⟨j, hj, rfl, rfl, hbr⟩ := hrel
    by_cases hlt : j < n
    · obtain ⟨q, hq⟩ : ∃ q, q = k + j := ⟨_, rfl⟩
      have c1 := HC.out wr hbr j hlt
      rw [← hq] at c1 ⊢
      have hq1 : 1 ≤ q := by omega
      have hq2 : q ≤ 2100000 := by omega
      have hsr := hbr.size
      have hgr : g < wr.heap.size := by omega
      have HQ : Hid (q = k + j) := hq
      have HMk : Hid (∀ V : World, Hid (Below wr.heap.size wr V) → Calls Tryz.prog 127 #[.int .i64 (q : Int)] V fun e W => e = .returned (.string (mkT q)) ∧ Hid (Below wr.heap.size wr W) ∧ W.cell? ⟨g, j, none⟩ = some (.string (mkT q))) := fun V hV => by
        refine (markText q V hq1 (by omega)).mono ?_
        rintro e W ⟨rfl, hW⟩
        have hB := hV.out.trans (hW.mono hV.out.size)
        exact ⟨rfl, hB, by rw [hB.cell (p := ⟨g, j, none⟩) hgr]; exact c1⟩
      have HBr : Hid (Below w.heap.size w wr) := hbr
      have HD : Hid (Below wr.heap.size wr wr.drew) := (Below.refl _ wr).drew
      have hji : (j : Int) < (n : Int) := by omega
      have hj0 : (0 : Int) ≤ (j : Int) := by omega
      clear hq hbr
      generalize mkT q = u at *
      go_wp2_with fail
      go_region_held3 (fun V => V.cell? ⟨g, j, none⟩ = some (.string u)) (first | exact p0 | go_keep)
        (first | (go_at_call 127; refine (HMk.out _ (by assumption)).mono ?_; rintro r w1 ⟨rfl, kk, p0⟩))
      have HB1 : Hid (Below w.heap.size w w1) := HBr.out.trans (kk.out.mono hsr)
      clear kk HMk HD p0 c1
      go_wp2_with fail
      go_roundw
      case rel => exact ⟨j + 1, by omega, by have := HQ.out; go_num, by go_num, HB1.out⟩
      case measure => simp [intOf]; omega
    · obtain rfl : j = n := by omega
      go_wp2_with fail
      go_ret
      exact ⟨rfl, hbr⟩
end Go.Proofs.YtekflbicjokdnaaGreatDoor
namespace Go.Proofs.YtekflbicjokdnaaGreatDoor
open Go.RowKit

/-- A row of n texts bears the marks. -/
def MkS (w : World) (v : Value) (n : Nat) : Prop := (n = 0 ∧ ∃ a c, v = .slice a 0 c) ∨ ∃ g cap M, v = .slice (some ⟨g, 0, none⟩) n cap ∧ w.heap[g]? = some (.cells M.toArray 9 (0, 0)) ∧ MarksS 1 n M
theorem MkS.keep {w w' : World} {v : Value} {n : Nat} (h : MkS w v n) (hb : Below w.heap.size w w') : MkS w' v n := by
  rcases h with h | ⟨g, cap, M, e, hg, hm⟩
  · exact .inl h
  · exact .inr ⟨g, cap, M, e, by rw [hb.block g (heap_lt hg)]; exact hg, hm⟩
end Go.Proofs.YtekflbicjokdnaaGreatDoor
