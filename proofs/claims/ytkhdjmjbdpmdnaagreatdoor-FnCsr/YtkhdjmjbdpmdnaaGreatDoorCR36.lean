/- impl.CrlRead, walked. CrlRead: the program and the specification tell the same. Plain, but for where both are told. -/
import Derived.Test.YtkhdjmjbdpmdnaaGreatDoorCR31
import Derived.Test.YtkhdjmjbdpmdnaaGreatDoorCR34
import Derived.Test.YtkhdjmjbdpmdnaaGreatDoorCR35
import Derived.Test.YtkhdjmjbdpmdnaaGreatDoorCR17
import Derived.Test.YtkhdjmjbdpmdnaaGreatDoorCR32
namespace Go.Proofs.YtkhdjmjbdpmdnaaGreatDoor
open Go.RowKit

set_option linter.unusedSimpArgs false in
set_option maxHeartbeats 1000000 in
set_option maxRecDepth 100000 in
theorem implCrlRead (s : ByteArray) (w : World) (hs : s.size ≤ maxLen) (hE : ErrType w) (h2 : Err2 w) :
    Calls Tryz.prog 35 #[.string s] w fun e w' => ∃ v, e = .returned (crlV (crlR s).1 v (crlR s).2) ∧ OwnL w' w.heap.size v (crlR s).1.serials ∧ Below w.heap.size w w' := by
  obtain ⟨w1, hw1⟩ : ∃ y, y = w.alloc (.cells #[Value.string ⟨#[]⟩, .int .i64 0, .int .i64 0, .slice none 0 0, .int .i64 0, .int .i64 0, .int .i64 0, .int .i64 0] 60 (0, 0)) := ⟨_, rfl⟩
  have hz : w1.heap.size = w.heap.size + 1 := by rw [hw1]; simp
  have hg1 : w1.heap[w.heap.size]? = some (.cells [Value.string ⟨#[]⟩, .int .i64 0, .int .i64 0, .slice none 0 0, .int .i64 0, .int .i64 0, .int .i64 0, .int .i64 0].toArray 60 (0, 0)) := by rw [hw1]; exact heap_alloc_new w _
  have hB1 : Below w.heap.size w w1 := by rw [hw1]; exact (Below.refl _ w).alloc (Nat.le_refl _) _
  have HB : Hid (∀ V, Below w1.heap.size w1 V → Below w.heap.size w V) := fun V hV => hB1.trans (hV.mono (by omega))
  have HRes : Hid (∀ V, Below w1.heap.size w1 V → V.heap[w.heap.size]? = some (.cells [Value.string ⟨#[]⟩, .int .i64 0, .int .i64 0, .slice none 0 0, .int .i64 0, .int .i64 0, .int .i64 0, .int .i64 0].toArray 60 (0, 0))) := fun V hV => by rw [hV.block _ (by omega)]; exact hg1
  have HTl : Hid (∀ V, Calls Tryz.prog 69 #[.string s] V fun e w' => e = .returned (.bool (decide (20000 < s.size))) ∧ w' = V) := fun V => tooLong s V hs
  have hEp := hE.pos
  have HRd : Hid (¬ 20000 < s.size → ∀ V, Below w1.heap.size w1 V → Calls Tryz.prog 99 #[.string s] V fun e w' => ∃ v, e = .returned ((readL s).val v) ∧ OwnL w' V.heap.size v (readL s).serials ∧ Below V.heap.size V w') := fun h V hV => implReadCrl s V (by omega) (hE.below (HB.out V hV) hEp)
  have HNf : Hid (¬ 20000 < s.size → (readL s).issuer.size ≤ maxLen ∧ (readL s).serials.length ≤ 1048576) := fun h => by
    have h1 := readL_fit s
    have h2 := readL_iss (s := s) (by omega)
    unfold maxLen
    exact ⟨by omega, by omega⟩
  have HRn : Hid (¬ 20000 < s.size → crlR s = if (decide ((listE (readL s)).size ≠ 0) && sigRB (readL s).sk (readL s).se (readL s).ss) = true ∧ seqD (listE (readL s) ++ thingD 3 (numsD [(readL s).sk, (readL s).se, (readL s).ss] 3)) = s then (readL s, 0) else (zeroLst, 3)) := fun h => by show _ = _; rw [crlR, if_neg h]
  have H2 : Hid (∀ V, Below w1.heap.size w1 V → Err2 V) := fun V hV => h2.keep (HB.out V hV)
  clear h2 hE hEp
  obtain ⟨R, hR⟩ : ∃ R, R = crlR s := ⟨_, rfl⟩
  rw [← hR]
  have HR : Hid (R = crlR s) := hR
  have I1 : Hid (Below w1.heap.size w1 w1) := Below.refl _ _
  have Z1 : Hid (w1.heap.size = w.heap.size + 1) := hz
  clear hR hg1 hB1 hz
  go_enter Tryz.func35, Tryz.ntmps35
  go_upto_region 1 with fail
  rw [← hw1]
  clear hw1
  go_wp2_with fail
  refine (HTl.out _).mono ?_
  rintro e w2 ⟨rfl, rfl⟩
  by_cases hl : 20000 < s.size
  · have HF : Hid (R = (zeroLst, 2)) := by show _ = _; rw [HR.out, crlR, if_pos hl]
    have hd : decide (20000 < s.size) = true := decide_eq_true hl
    rw [hd]
    go_wp2_with (refine wpList_store_row rfl 60 _ _ rfl (w.heap.size) _ [Value.string ⟨#[]⟩, .int .i64 0, .int .i64 0, .slice none 0 0, .int .i64 0, .int .i64 0, .int .i64 0, .int .i64 2] 60 rfl rfl (HRes.out _ I1.out) rfl sizeCrlOut (by simp [Value.oneCell']) ?_)
    intro w8 hrow ho hs8 hbb
    have HROW : Hid _ := hrow
    have HB8 : Hid (Below w.heap.size w w8) := hbb _ _ (by omega) (HB.out _ I1.out)
    clear ho hs8 hbb hrow
    go_wp2
    refine bodyPost_ret (v := .agg [Value.string ⟨#[]⟩, .int .i64 0, .int .i64 0, .slice none 0 0, .int .i64 0, .int .i64 0, .int .i64 0, .int .i64 2].toArray) ?_ rfl ⟨.slice none 0 0, by rw [HF.out]; rfl, by rw [HF.out]; exact ownL_nil _ _, HB8.out⟩
    have hl3 := run_loadVar_mid (P := Tryz.prog) _ (w.heap.size) 0 60 _ _ (rangeRow HROW.out) Tryz.underlying60 rfl sizeCrlOut
    simp [results, Tryz.results35, asAddr, hl3]
  · have hd : decide (20000 < s.size) = false := decide_eq_false hl
    rw [hd]
    have HRd' := HRd.out hl
    have HNf' := HNf.out hl
    have HRn' := HRn.out hl
    rw [← HR.out] at HRn'
    clear HRd HNf HRn
    obtain ⟨c, hc⟩ : ∃ c, c = readL s := ⟨_, rfl⟩
    rw [← hc] at HRd' HNf' HRn'
    have HRd : Hid (∀ V, Below w2.heap.size w2 V → Calls Tryz.prog 99 #[.string s] V fun e w' => ∃ v, e = .returned (c.val v) ∧ OwnL w' V.heap.size v c.serials ∧ Below V.heap.size V w') := HRd'
    have HRn : Hid _ := HRn'
    have HNf : Hid _ := HNf'
    clear HRd' HNf' HRn' hc
    go_wp2_with fail
    refine (HRd.out _ I1.out).mono ?_
    rintro e w3 ⟨v, rfl, o3, b3⟩
    obtain ⟨va, vc, rfl, _⟩ := OwnL.form o3
    have O3 : Hid (OwnL w3 (w.heap.size + 1) (.slice va c.serials.length vc) c.serials) := o3.mono (by rw [Z1.out]; omega)
    have B3 : Hid (Below w2.heap.size w2 w3) := b3
    clear o3 b3
    have HBx := boxCrl c va vc w3 HNf.out.1 HNf.out.2 O3.out.ints
    obtain ⟨iss, fr, till, serials, sk, se, ss⟩ := c
    obtain ⟨D, hD⟩ : ∃ D, D = listE ⟨iss, fr, till, serials, sk, se, ss⟩ := ⟨_, rfl⟩
    have HDz : Hid (D.size ≤ 700) := by show _ ≤ _; rw [hD]; exact listE_size _
    rw [← hD] at HBx HRn
    unfold Lst.val Lst.box at HBx
    unfold Lst.val
    simp only at HBx HRn O3 ⊢
    have HBX : Hid _ := HBx
    have HLa : Hid (∀ V g E E0 tE pE, E = .iface tE pE → Row3 sk se ss V g → V.cell? ⟨1, 0, none⟩ = some E → V.cell? ⟨3, 0, none⟩ = some E0 → Calls Tryz.prog 100 #[.agg #[.string iss, .int .i64 fr, .int .i64 till, .slice va serials.length vc, .int .i64 sk, .int .i64 se, .int .i64 ss, .string D, .int .i64 sk, .int .i64 se, .int .i64 ss, .slice (some ⟨g, 0, none⟩) 3 3], .string s] V fun r w' => r = .returned (if (decide (D.size ≠ 0) && sigRB sk se ss) = true then (if seqD (D ++ thingD 3 (numsD [sk, se, ss] 3)) = s then .nilIface else E0) else E) ∧ Below V.heap.size V w') := fun V g E E0 tE pE h1 h2 h3 h5 => laidAsCrl ⟨iss, fr, till, serials, sk, se, ss⟩ _ D s g E E0 tE pE h1 V (by have := HDz.out; omega) h2 h3 h5
    clear HBx hD HNf HDz
    go_wp2_with fail
    refine Calls.mono HBX.out ?_
    rintro e w5 ⟨g, rfl, r5, b5⟩
    have K5 : Hid (Below w2.heap.size w2 w5) := B3.out.trans (b5.mono B3.out.size)
    obtain ⟨w6, hw6⟩ : ∃ y, y = w5.alloc (.cells #[.string iss, .int .i64 fr, .int .i64 till, .slice va serials.length vc, .int .i64 sk, .int .i64 se, .int .i64 ss, .string D, .int .i64 sk, .int .i64 se, .int .i64 ss, .slice (some ⟨g, 0, none⟩) 3 3] 102 (0, 0)) := ⟨_, rfl⟩
    have b6 : Below w5.heap.size w5 w6 := by rw [hw6]; exact (Below.refl _ w5).alloc (Nat.le_refl _) _
    have g6 : w6.heap[w5.heap.size]? = some (.cells [Value.string iss, .int .i64 fr, .int .i64 till, .slice va serials.length vc, .int .i64 sk, .int .i64 se, .int .i64 ss, .string D, .int .i64 sk, .int .i64 se, .int .i64 ss, .slice (some ⟨g, 0, none⟩) 3 3].toArray 102 (0, 0)) := by rw [hw6]; exact heap_alloc_new w5 _
    have K6 : Hid (Below w2.heap.size w2 w6) := K5.out.trans (b6.mono K5.out.size)
    have Q6 : Hid (Row3 sk se ss w6 g) := r5.keep b6
    have O6 : Hid (OwnL w6 (w.heap.size + 1) (.slice va serials.length vc) serials) := O3.out.keep (b5.trans (b6.mono b5.size))
    have G6 : Hid _ := g6
    have d0 := rowFacts g6 0 _ rfl
    have d1 := rowFacts g6 1 _ rfl
    have d2 := rowFacts g6 2 _ rfl
    have d3 := rowFacts g6 3 _ rfl
    have d4 := rowFacts g6 4 _ rfl
    have d5 := rowFacts g6 5 _ rfl
    have d6 := rowFacts g6 6 _ rfl
    have d7 := rowFacts g6 7 _ rfl
    have d8 := rowFacts g6 8 _ rfl
    have d9 := rowFacts g6 9 _ rfl
    have d10 := rowFacts g6 10 _ rfl
    have d11 := rowFacts g6 11 _ rfl
    clear b5 r5 b6 g6 HBX O3 K5
    go_upto_region 4 with fail
    rw [← hw6]
    clear hw6
    obtain ⟨b1, b3, e1, e3⟩ := H2.out w6 K6.out
    go_wp2_with fail
    refine (HLa.out w6 g _ _ _ _ rfl Q6.out e1.1 e3.1).mono ?_
    rintro e w7 ⟨rfl, b7⟩
    clear d0 d1 d2 d3 d4 d5 d6 d7 d8 d9 d10 d11 e1 e3
    have K7 : Hid (Below w2.heap.size w2 w7) := K6.out.trans (b7.mono K6.out.size)
    have G7 : Hid _ := (b7.block _ (heap_lt G6.out)).trans G6.out
    have O7 : Hid (OwnL w7 (w.heap.size + 1) (.slice va serials.length vc) serials) := O6.out.keep b7
    clear b7 Q6 G6 O6 K6 HLa
    by_cases hP : (decide (D.size ≠ 0) && sigRB sk se ss) = true ∧ seqD (D ++ thingD 3 (numsD [sk, se, ss] 3)) = s
    · have HF : Hid (R = (⟨iss, fr, till, serials, sk, se, ss⟩, 0)) := by show _ = _; rw [HRn.out, if_pos hP]
      rw [if_pos hP.1, if_pos hP.2]
      clear hP HRn
      have d0 := rowFacts G7.out 0 _ rfl
      have d1 := rowFacts G7.out 1 _ rfl
      have d2 := rowFacts G7.out 2 _ rfl
      have d3 := rowFacts G7.out 3 _ rfl
      have d4 := rowFacts G7.out 4 _ rfl
      have d5 := rowFacts G7.out 5 _ rfl
      have d6 := rowFacts G7.out 6 _ rfl
      have d7 := rowFacts G7.out 7 _ rfl
      have d8 := rowFacts G7.out 8 _ rfl
      have d9 := rowFacts G7.out 9 _ rfl
      have d10 := rowFacts G7.out 10 _ rfl
      have d11 := rowFacts G7.out 11 _ rfl
      go_wp2_with (refine wpList_store_row rfl 60 _ _ rfl (w.heap.size) _ [Value.string iss, .int .i64 fr, .int .i64 till, .slice va serials.length vc, .int .i64 sk, .int .i64 se, .int .i64 ss, .int .i64 0] 60 rfl rfl (HRes.out _ K7.out) rfl sizeCrlOut (by simp [Value.oneCell']) ?_)
      intro w8 hrow ho hs8 hbb
      have HROW : Hid _ := hrow
      have HB8 : Hid (Below w.heap.size w w8) := hbb _ _ (by omega) (HB.out _ K7.out)
      have O8 : Hid (OwnL w8 (w.heap.size + 1) (.slice va serials.length vc) serials) := O7.out.same fun b h1 h2 => ho b (by omega)
      clear ho hs8 hbb hrow
      go_wp2
      refine bodyPost_ret (v := .agg [Value.string iss, .int .i64 fr, .int .i64 till, .slice va serials.length vc, .int .i64 sk, .int .i64 se, .int .i64 ss, .int .i64 0].toArray) ?_ rfl ⟨.slice va serials.length vc, by rw [HF.out]; rfl, by rw [HF.out]; exact O8.out.mono (by omega), HB8.out⟩
      have hl3 := run_loadVar_mid (P := Tryz.prog) _ (w.heap.size) 0 60 _ _ (rangeRow HROW.out) Tryz.underlying60 rfl sizeCrlOut
      simp [results, Tryz.results35, asAddr, hl3]
    · have HF : Hid (R = (zeroLst, 3)) := by show _ = _; rw [HRn.out, if_neg hP]
      obtain ⟨b, hb⟩ : ∃ b, (if (decide (D.size ≠ 0) && sigRB sk se ss) = true then (if seqD (D ++ thingD 3 (numsD [sk, se, ss] 3)) = s then Value.nilIface else .iface 260 (.pointer (some b3))) else .iface 260 (.pointer (some b1))) = .iface 260 (.pointer (some b)) := by
        by_cases h1 : (decide (D.size ≠ 0) && sigRB sk se ss) = true
        · rw [if_pos h1, if_neg (fun h => hP ⟨h1, h⟩)]
          exact ⟨b3, rfl⟩
        · rw [if_neg h1]
          exact ⟨b1, rfl⟩
      rw [hb]
      clear hb hP HRn
      go_wp2_with (refine wpList_store_row rfl 60 _ _ rfl (w.heap.size) _ [Value.string ⟨#[]⟩, .int .i64 0, .int .i64 0, .slice none 0 0, .int .i64 0, .int .i64 0, .int .i64 0, .int .i64 3] 60 rfl rfl (HRes.out _ K7.out) rfl sizeCrlOut (by simp [Value.oneCell']) ?_)
      intro w8 hrow ho hs8 hbb
      have HROW : Hid _ := hrow
      have HB8 : Hid (Below w.heap.size w w8) := hbb _ _ (by omega) (HB.out _ K7.out)
      clear ho hs8 hbb hrow
      go_wp2
      refine bodyPost_ret (v := .agg [Value.string ⟨#[]⟩, .int .i64 0, .int .i64 0, .slice none 0 0, .int .i64 0, .int .i64 0, .int .i64 0, .int .i64 3].toArray) ?_ rfl ⟨.slice none 0 0, by rw [HF.out]; rfl, by rw [HF.out]; exact ownL_nil _ _, HB8.out⟩
      have hl3 := run_loadVar_mid (P := Tryz.prog) _ (w.heap.size) 0 60 _ _ (rangeRow HROW.out) Tryz.underlying60 rfl sizeCrlOut
      simp [results, Tryz.results35, asAddr, hl3]
end Go.Proofs.YtkhdjmjbdpmdnaaGreatDoor
namespace Go.Proofs.YtkhdjmjbdpmdnaaGreatDoor
open Go.RowKit

theorem sigT_nums (k e s : Int) : numsD [k, e, s] 3 = sigT k e s := rfl
theorem crlR_eq (s : ByteArray) : crlR s = crlS s := by
  have hc : ((decide ((listE (readL s)).size ≠ 0) && sigRB (readL s).sk (readL s).se (readL s).ss) = true ∧ seqD (listE (readL s) ++ thingD 3 (numsD [(readL s).sk, (readL s).se, (readL s).ss] 3)) = s) ↔ (crlB (readL s) = true ∧ listY (readL s) = s) := by
    rw [listE_ne, sigT_nums]
    constructor
    · rintro ⟨h1, h2⟩
      refine ⟨h1, ?_⟩
      rw [Bool.and_eq_true] at h1
      unfold listE at h2
      rw [if_pos h1.1] at h2
      exact h2
    · rintro ⟨h1, h2⟩
      refine ⟨h1, ?_⟩
      have h3 := crlB_list h1
      unfold listE
      rw [if_pos h3]
      exact h2
  unfold crlR crlS
  by_cases hl : 20000 < s.size
  · rw [if_pos hl, if_pos hl]
  rw [if_neg hl, if_neg hl]
  by_cases h1 : crlB (readL s) = true ∧ listY (readL s) = s
  · have he : listS s = readL s := by
      have := listS_back h1.1
      rw [h1.2] at this
      exact this
    have hb : crlBytesD (readL s) = s := by
      unfold crlBytesD
      rw [if_pos h1.1, h1.2]
    have hz : s.size ≠ 0 := by
      have := thing_pos 48 (listD (readL s) ++ sigD (readL s).sk (readL s).se (readL s).ss)
      have h2 : s = thingD 48 (listD (readL s) ++ sigD (readL s).sk (readL s).se (readL s).ss) := h1.2.symm
      rw [← h2] at this
      omega
    rw [if_pos (hc.2 h1), he, if_neg]
    rintro (h | h)
    · exact hz h
    · exact h hb
  · rw [if_neg (fun h => h1 (hc.1 h)), if_pos]
    by_cases hz : s.size = 0
    · exact .inl hz
    refine .inr (fun h2 => ?_)
    by_cases hb : crlB (listS s) = true
    · unfold crlBytesD at h2
      rw [if_pos hb] at h2
      have he : readL s = listS s := by
        have := readL_back hb
        rw [h2] at this
        exact this
      rw [← he] at hb h2
      exact h1 ⟨hb, h2⟩
    · unfold crlBytesD at h2
      rw [if_neg hb] at h2
      rw [← h2] at hz
      exact hz rfl
end Go.Proofs.YtkhdjmjbdpmdnaaGreatDoor
