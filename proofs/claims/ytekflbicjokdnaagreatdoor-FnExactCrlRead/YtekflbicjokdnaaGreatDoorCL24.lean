/- impl.CrlRead, walked. CrlRead: the program and the specification tell the same. Plain, but for where both are told. laws.eqInt64S, walked. A Sig in memory. laws.eqSig, walked: of a Sig and itself. laws.eqCrl, walked: of one and itself. What marks a row of numbers, and what looks for the marks: laws.markInt64S, heldInt64S, walked. A row of numbers that bears the marks. laws.markCrl, heldCrl, walked. -/
import Derived.Test.YtekflbicjokdnaaGreatDoorCL16
import Derived.Test.YtekflbicjokdnaaGreatDoorCL22
import Derived.Test.YtekflbicjokdnaaGreatDoorCL23
import Derived.Test.YtekflbicjokdnaaGreatDoorCL05
import Derived.Test.YtekflbicjokdnaaGreatDoorCL18
import Derived.Test.YtekflbicjokdnaaGreatDoorCL06
import Derived.Test.YtekflbicjokdnaaGreatDoorCL04
import Derived.Test.YtekflbicjokdnaaGreatDoorCL03
import Derived.Handy
import Derived.Deep.Cut
import Derived.Test.YtekflbicjokdnaaGreatDoorCL10
namespace Go.Proofs.YtekflbicjokdnaaGreatDoor
open Go.RowKit

set_option linter.unusedSimpArgs false in
set_option maxHeartbeats 1000000 in
set_option maxRecDepth 100000 in
theorem implCrlRead (s : ByteArray) (w : World) (hs : s.size ≤ maxLen) (hE : ErrType w) (h2 : Err2 w) :
    Calls Tryz.prog 17 #[.string s] w fun e w' => ∃ v, e = .returned (crlV (crlR s).1 v (crlR s).2) ∧ OwnL w' w.heap.size v (crlR s).1.serials ∧ Below w.heap.size w w' := by
  obtain ⟨w1, hw1⟩ : ∃ y, y = w.alloc (.cells #[Value.string ⟨#[]⟩, .int .i64 0, .int .i64 0, .slice none 0 0, .int .i64 0, .int .i64 0, .int .i64 0, .int .i64 0] 44 (0, 0)) := ⟨_, rfl⟩
  have hz : w1.heap.size = w.heap.size + 1 := by rw [hw1]; simp
  have hg1 : w1.heap[w.heap.size]? = some (.cells [Value.string ⟨#[]⟩, .int .i64 0, .int .i64 0, .slice none 0 0, .int .i64 0, .int .i64 0, .int .i64 0, .int .i64 0].toArray 44 (0, 0)) := by rw [hw1]; exact heap_alloc_new w _
  have hB1 : Below w.heap.size w w1 := by rw [hw1]; exact (Below.refl _ w).alloc (Nat.le_refl _) _
  have HB : Hid (∀ V, Below w1.heap.size w1 V → Below w.heap.size w V) := fun V hV => hB1.trans (hV.mono (by omega))
  have HRes : Hid (∀ V, Below w1.heap.size w1 V → V.heap[w.heap.size]? = some (.cells [Value.string ⟨#[]⟩, .int .i64 0, .int .i64 0, .slice none 0 0, .int .i64 0, .int .i64 0, .int .i64 0, .int .i64 0].toArray 44 (0, 0))) := fun V hV => by rw [hV.block _ (by omega)]; exact hg1
  have HTl : Hid (∀ V, Calls Tryz.prog 23 #[.string s] V fun e w' => e = .returned (.bool (decide (20000 < s.size))) ∧ w' = V) := fun V => tooLong s V hs
  have hEp := hE.pos
  have HRd : Hid (¬ 20000 < s.size → ∀ V, Below w1.heap.size w1 V → Calls Tryz.prog 50 #[.string s] V fun e w' => ∃ v, e = .returned ((readL s).val v) ∧ OwnL w' V.heap.size v (readL s).serials ∧ Below V.heap.size V w') := fun h V hV => implReadCrl s V (by omega) (hE.below (HB.out V hV) hEp)
  have HNf : Hid (¬ 20000 < s.size → (readL s).issuer.size ≤ maxLen ∧ (readL s).serials.length ≤ 1048576) := fun h => by
    have h1 := readL_fit s
    have h2 := readL_iss (s := s) (by omega)
    unfold maxLen
    exact ⟨by omega, by omega⟩
  have HRn : Hid (¬ 20000 < s.size → crlR s = if (decide ((listE (readL s)).size ≠ 0) && sigRB (readL s).sk (readL s).se (readL s).ss) = true ∧ seqD (listE (readL s) ++ thingD 3 (numsD [(readL s).sk, (readL s).se, (readL s).ss] 3)) = s then (readL s, 0) else (zeroLst, 3)) := fun h => by show _ = _; rw [crlR, if_neg h]
  have H2 : Hid (∀ V, Below w1.heap.size w1 V → Err2 V) := fun V hV => h2.keep (HB.out V hV)
  clear h2 hE hEp
  obtain ⟨R, hR⟩ : ∃ R, R = crlR s := ⟨_, rfl⟩
  rw [← hR]
  have HR : Hid (R = crlR s) := hR
  have I1 : Hid (Below w1.heap.size w1 w1) := Below.refl _ _
  have Z1 : Hid (w1.heap.size = w.heap.size + 1) := hz
  clear hR hg1 hB1 hz
  go_enter Tryz.func17, Tryz.ntmps17
  go_upto_region 1 with fail
  rw [← hw1]
  clear hw1
  go_wp2_with fail
  refine (HTl.out _).mono ?_
  rintro e w2 ⟨rfl, rfl⟩
  by_cases hl : 20000 < s.size
  · have HF : Hid (R = (zeroLst, 2)) := by show _ = _; rw [HR.out, crlR, if_pos hl]
    have hd : decide (20000 < s.size) = true := decide_eq_true hl
    rw [hd]
    go_wp2_with (refine wpList_store_row rfl 44 _ _ rfl (w.heap.size) _ [Value.string ⟨#[]⟩, .int .i64 0, .int .i64 0, .slice none 0 0, .int .i64 0, .int .i64 0, .int .i64 0, .int .i64 2] 44 rfl rfl (HRes.out _ I1.out) rfl sizeCrlOut (by simp [Value.oneCell']) ?_)
    intro w8 hrow ho hs8 hbb
    have HROW : Hid _ := hrow
    have HB8 : Hid (Below w.heap.size w w8) := hbb _ _ (by omega) (HB.out _ I1.out)
    clear ho hs8 hbb hrow
    go_wp2
    refine bodyPost_ret (v := .agg [Value.string ⟨#[]⟩, .int .i64 0, .int .i64 0, .slice none 0 0, .int .i64 0, .int .i64 0, .int .i64 0, .int .i64 2].toArray) ?_ rfl ⟨.slice none 0 0, by rw [HF.out]; rfl, by rw [HF.out]; exact ownL_nil _ _, HB8.out⟩
    have hl3 := run_loadVar_mid (P := Tryz.prog) _ (w.heap.size) 0 44 _ _ (rangeRow HROW.out) Tryz.underlying44 rfl sizeCrlOut
    simp [results, Tryz.results17, asAddr, hl3]
  · have hd : decide (20000 < s.size) = false := decide_eq_false hl
    rw [hd]
    have HRd' := HRd.out hl
    have HNf' := HNf.out hl
    have HRn' := HRn.out hl
    rw [← HR.out] at HRn'
    clear HRd HNf HRn
    obtain ⟨c, hc⟩ : ∃ c, c = readL s := ⟨_, rfl⟩
    rw [← hc] at HRd' HNf' HRn'
    have HRd : Hid (∀ V, Below w2.heap.size w2 V → Calls Tryz.prog 50 #[.string s] V fun e w' => ∃ v, e = .returned (c.val v) ∧ OwnL w' V.heap.size v c.serials ∧ Below V.heap.size V w') := HRd'
    have HRn : Hid _ := HRn'
    have HNf : Hid _ := HNf'
    clear HRd' HNf' HRn' hc
    go_wp2_with fail
    refine (HRd.out _ I1.out).mono ?_
    rintro e w3 ⟨v, rfl, o3, b3⟩
    obtain ⟨va, vc, rfl, _⟩ := OwnL.form o3
    have O3 : Hid (OwnL w3 (w.heap.size + 1) (.slice va c.serials.length vc) c.serials) := o3.mono (by rw [Z1.out]; omega)
    have B3 : Hid (Below w2.heap.size w2 w3) := b3
    clear o3 b3
    have HBx := boxCrl c va vc w3 HNf.out.1 HNf.out.2 O3.out.ints
    obtain ⟨iss, fr, till, serials, sk, se, ss⟩ := c
    obtain ⟨D, hD⟩ : ∃ D, D = listE ⟨iss, fr, till, serials, sk, se, ss⟩ := ⟨_, rfl⟩
    have HDz : Hid (D.size ≤ 700) := by show _ ≤ _; rw [hD]; exact listE_size _
    rw [← hD] at HBx HRn
    unfold Lst.val Lst.box at HBx
    unfold Lst.val
    simp only at HBx HRn O3 ⊢
    have HBX : Hid _ := HBx
    have HLa : Hid (∀ V g E E0 tE pE, E = .iface tE pE → Row3 sk se ss V g → V.cell? ⟨3, 0, none⟩ = some E → V.cell? ⟨1, 0, none⟩ = some E0 → Calls Tryz.prog 51 #[.agg #[.string iss, .int .i64 fr, .int .i64 till, .slice va serials.length vc, .int .i64 sk, .int .i64 se, .int .i64 ss, .string D, .int .i64 sk, .int .i64 se, .int .i64 ss, .slice (some ⟨g, 0, none⟩) 3 3], .string s] V fun r w' => r = .returned (if (decide (D.size ≠ 0) && sigRB sk se ss) = true then (if seqD (D ++ thingD 3 (numsD [sk, se, ss] 3)) = s then .nilIface else E0) else E) ∧ Below V.heap.size V w') := fun V g E E0 tE pE h1 h2 h3 h5 => laidAsCrl ⟨iss, fr, till, serials, sk, se, ss⟩ _ D s g E E0 tE pE h1 V (by have := HDz.out; omega) h2 h3 h5
    clear HBx hD HNf HDz
    go_wp2_with fail
    refine Calls.mono HBX.out ?_
    rintro e w5 ⟨g, rfl, r5, b5⟩
    have K5 : Hid (Below w2.heap.size w2 w5) := B3.out.trans (b5.mono B3.out.size)
    obtain ⟨w6, hw6⟩ : ∃ y, y = w5.alloc (.cells #[.string iss, .int .i64 fr, .int .i64 till, .slice va serials.length vc, .int .i64 sk, .int .i64 se, .int .i64 ss, .string D, .int .i64 sk, .int .i64 se, .int .i64 ss, .slice (some ⟨g, 0, none⟩) 3 3] 78 (0, 0)) := ⟨_, rfl⟩
    have b6 : Below w5.heap.size w5 w6 := by rw [hw6]; exact (Below.refl _ w5).alloc (Nat.le_refl _) _
    have g6 : w6.heap[w5.heap.size]? = some (.cells [Value.string iss, .int .i64 fr, .int .i64 till, .slice va serials.length vc, .int .i64 sk, .int .i64 se, .int .i64 ss, .string D, .int .i64 sk, .int .i64 se, .int .i64 ss, .slice (some ⟨g, 0, none⟩) 3 3].toArray 78 (0, 0)) := by rw [hw6]; exact heap_alloc_new w5 _
    have K6 : Hid (Below w2.heap.size w2 w6) := K5.out.trans (b6.mono K5.out.size)
    have Q6 : Hid (Row3 sk se ss w6 g) := r5.keep b6
    have O6 : Hid (OwnL w6 (w.heap.size + 1) (.slice va serials.length vc) serials) := O3.out.keep (b5.trans (b6.mono b5.size))
    have G6 : Hid _ := g6
    have d0 := rowFacts g6 0 _ rfl
    have d1 := rowFacts g6 1 _ rfl
    have d2 := rowFacts g6 2 _ rfl
    have d3 := rowFacts g6 3 _ rfl
    have d4 := rowFacts g6 4 _ rfl
    have d5 := rowFacts g6 5 _ rfl
    have d6 := rowFacts g6 6 _ rfl
    have d7 := rowFacts g6 7 _ rfl
    have d8 := rowFacts g6 8 _ rfl
    have d9 := rowFacts g6 9 _ rfl
    have d10 := rowFacts g6 10 _ rfl
    have d11 := rowFacts g6 11 _ rfl
    clear b5 r5 b6 g6 HBX O3 K5
    go_upto_region 4 with fail
    rw [← hw6]
    clear hw6
    obtain ⟨b1, b3, e1, e3⟩ := H2.out w6 K6.out
    go_wp2_with fail
    refine (HLa.out w6 g _ _ _ _ rfl Q6.out e1.1 e3.1).mono ?_
    rintro e w7 ⟨rfl, b7⟩
    clear d0 d1 d2 d3 d4 d5 d6 d7 d8 d9 d10 d11 e1 e3
    have K7 : Hid (Below w2.heap.size w2 w7) := K6.out.trans (b7.mono K6.out.size)
    have G7 : Hid _ := (b7.block _ (heap_lt G6.out)).trans G6.out
    have O7 : Hid (OwnL w7 (w.heap.size + 1) (.slice va serials.length vc) serials) := O6.out.keep b7
    clear b7 Q6 G6 O6 K6 HLa
    by_cases hP : (decide (D.size ≠ 0) && sigRB sk se ss) = true ∧ seqD (D ++ thingD 3 (numsD [sk, se, ss] 3)) = s
    · have HF : Hid (R = (⟨iss, fr, till, serials, sk, se, ss⟩, 0)) := by show _ = _; rw [HRn.out, if_pos hP]
      rw [if_pos hP.1, if_pos hP.2]
      clear hP HRn
      have d0 := rowFacts G7.out 0 _ rfl
      have d1 := rowFacts G7.out 1 _ rfl
      have d2 := rowFacts G7.out 2 _ rfl
      have d3 := rowFacts G7.out 3 _ rfl
      have d4 := rowFacts G7.out 4 _ rfl
      have d5 := rowFacts G7.out 5 _ rfl
      have d6 := rowFacts G7.out 6 _ rfl
      have d7 := rowFacts G7.out 7 _ rfl
      have d8 := rowFacts G7.out 8 _ rfl
      have d9 := rowFacts G7.out 9 _ rfl
      have d10 := rowFacts G7.out 10 _ rfl
      have d11 := rowFacts G7.out 11 _ rfl
      go_wp2_with (refine wpList_store_row rfl 44 _ _ rfl (w.heap.size) _ [Value.string iss, .int .i64 fr, .int .i64 till, .slice va serials.length vc, .int .i64 sk, .int .i64 se, .int .i64 ss, .int .i64 0] 44 rfl rfl (HRes.out _ K7.out) rfl sizeCrlOut (by simp [Value.oneCell']) ?_)
      intro w8 hrow ho hs8 hbb
      have HROW : Hid _ := hrow
      have HB8 : Hid (Below w.heap.size w w8) := hbb _ _ (by omega) (HB.out _ K7.out)
      have O8 : Hid (OwnL w8 (w.heap.size + 1) (.slice va serials.length vc) serials) := O7.out.same fun b h1 h2 => ho b (by omega)
      clear ho hs8 hbb hrow
      go_wp2
      refine bodyPost_ret (v := .agg [Value.string iss, .int .i64 fr, .int .i64 till, .slice va serials.length vc, .int .i64 sk, .int .i64 se, .int .i64 ss, .int .i64 0].toArray) ?_ rfl ⟨.slice va serials.length vc, by rw [HF.out]; rfl, by rw [HF.out]; exact O8.out.mono (by omega), HB8.out⟩
      have hl3 := run_loadVar_mid (P := Tryz.prog) _ (w.heap.size) 0 44 _ _ (rangeRow HROW.out) Tryz.underlying44 rfl sizeCrlOut
      simp [results, Tryz.results17, asAddr, hl3]
    · have HF : Hid (R = (zeroLst, 3)) := by show _ = _; rw [HRn.out, if_neg hP]
      obtain ⟨b, hb⟩ : ∃ b, (if (decide (D.size ≠ 0) && sigRB sk se ss) = true then (if seqD (D ++ thingD 3 (numsD [sk, se, ss] 3)) = s then Value.nilIface else .iface 246 (.pointer (some b3))) else .iface 246 (.pointer (some b1))) = .iface 246 (.pointer (some b)) := by
        by_cases h1 : (decide (D.size ≠ 0) && sigRB sk se ss) = true
        · rw [if_pos h1, if_neg (fun h => hP ⟨h1, h⟩)]
          exact ⟨b3, rfl⟩
        · rw [if_neg h1]
          exact ⟨b1, rfl⟩
      rw [hb]
      clear hb hP HRn
      go_wp2_with (refine wpList_store_row rfl 44 _ _ rfl (w.heap.size) _ [Value.string ⟨#[]⟩, .int .i64 0, .int .i64 0, .slice none 0 0, .int .i64 0, .int .i64 0, .int .i64 0, .int .i64 3] 44 rfl rfl (HRes.out _ K7.out) rfl sizeCrlOut (by simp [Value.oneCell']) ?_)
      intro w8 hrow ho hs8 hbb
      have HROW : Hid _ := hrow
      have HB8 : Hid (Below w.heap.size w w8) := hbb _ _ (by omega) (HB.out _ K7.out)
      clear ho hs8 hbb hrow
      go_wp2
      refine bodyPost_ret (v := .agg [Value.string ⟨#[]⟩, .int .i64 0, .int .i64 0, .slice none 0 0, .int .i64 0, .int .i64 0, .int .i64 0, .int .i64 3].toArray) ?_ rfl ⟨.slice none 0 0, by rw [HF.out]; rfl, by rw [HF.out]; exact ownL_nil _ _, HB8.out⟩
      have hl3 := run_loadVar_mid (P := Tryz.prog) _ (w.heap.size) 0 44 _ _ (rangeRow HROW.out) Tryz.underlying44 rfl sizeCrlOut
      simp [results, Tryz.results17, asAddr, hl3]
end Go.Proofs.YtekflbicjokdnaaGreatDoor
namespace Go.Proofs.YtekflbicjokdnaaGreatDoor
open Go.RowKit

theorem sigT_nums (k e s : Int) : numsD [k, e, s] 3 = sigT k e s := rfl
theorem crlR_eq (s : ByteArray) : crlR s = crlS s := by
  have hc : ((decide ((listE (readL s)).size ≠ 0) && sigRB (readL s).sk (readL s).se (readL s).ss) = true ∧ seqD (listE (readL s) ++ thingD 3 (numsD [(readL s).sk, (readL s).se, (readL s).ss] 3)) = s) ↔ (crlB (readL s) = true ∧ listY (readL s) = s) := by
    rw [listE_ne, sigT_nums]
    constructor
    · rintro ⟨h1, h2⟩
      refine ⟨h1, ?_⟩
      rw [Bool.and_eq_true] at h1
      unfold listE at h2
      rw [if_pos h1.1] at h2
      exact h2
    · rintro ⟨h1, h2⟩
      refine ⟨h1, ?_⟩
      have h3 := crlB_list h1
      unfold listE
      rw [if_pos h3]
      exact h2
  unfold crlR crlS
  by_cases hl : 20000 < s.size
  · rw [if_pos hl, if_pos hl]
  rw [if_neg hl, if_neg hl]
  by_cases h1 : crlB (readL s) = true ∧ listY (readL s) = s
  · have he : listS s = readL s := by
      have := listS_back h1.1
      rw [h1.2] at this
      exact this
    have hb : crlBytesD (readL s) = s := by
      unfold crlBytesD
      rw [if_pos h1.1, h1.2]
    have hz : s.size ≠ 0 := by
      have := thing_pos 48 (listD (readL s) ++ sigD (readL s).sk (readL s).se (readL s).ss)
      have h2 : s = thingD 48 (listD (readL s) ++ sigD (readL s).sk (readL s).se (readL s).ss) := h1.2.symm
      rw [← h2] at this
      omega
    rw [if_pos (hc.2 h1), he, if_neg]
    rintro (h | h)
    · exact hz h
    · exact h hb
  · rw [if_neg (fun h => h1 (hc.1 h)), if_pos]
    by_cases hz : s.size = 0
    · exact .inl hz
    refine .inr (fun h2 => ?_)
    by_cases hb : crlB (listS s) = true
    · unfold crlBytesD at h2
      rw [if_pos hb] at h2
      have he : readL s = listS s := by
        have := readL_back hb
        rw [h2] at this
        exact this
      rw [← he] at hb h2
      exact h1 ⟨hb, h2⟩
    · unfold crlBytesD at h2
      rw [if_neg hb] at h2
      rw [← h2] at hz
      exact hz rfl
end Go.Proofs.YtekflbicjokdnaaGreatDoor
namespace Go.Proofs.YtekflbicjokdnaaGreatDoor
open Go.RowKit

set_option maxHeartbeats 1000000 in
set_option maxRecDepth 100000 in
theorem eqInts (a b : Option Addr) (zs : List Int) (c d : Nat) (w : World) (hl : zs.length ≤ 2000000) (ha : IsInts w a zs) (hb : IsInts w b zs) :
    Calls Tryz.prog 100 #[.slice a zs.length c, .slice b zs.length d] w fun e w' => e = .returned (.bool true) ∧ Below w.heap.size w w' := by
  go_enter Tryz.func100, Tryz.ntmps100
  go_wp2
  go_loopw [5] (fun i wr => ∃ k : Nat, k ≤ zs.length ∧ i = .int .i64 k ∧ Below w.heap.size w wr) (fun i _ => zs.length - (intOf i).toNat)
  case atStart => exact ⟨0, Nat.zero_le _, rfl, Below.refl _ _⟩
  case round =>
    obtain ⟨k, hk, rfl, hbr⟩ := hrel
    by_cases hlt : k < zs.length
    · obtain ⟨x, o, rfl, hc⟩ : ∃ x o, a = some ⟨x, o, none⟩ ∧ ∀ i, i < zs.length → wr.cell? ⟨x, o + i, none⟩ = some (.int .i64 (zs.getD i 0)) := by
        rcases ha.below hbr ha.lt with rfl | h
        · simp at hlt
        · exact h
      obtain ⟨y, p, rfl, hd⟩ : ∃ x o, b = some ⟨x, o, none⟩ ∧ ∀ i, i < zs.length → wr.cell? ⟨x, o + i, none⟩ = some (.int .i64 (zs.getD i 0)) := by
        rcases hb.below hbr hb.lt with rfl | h
        · simp at hlt
        · exact h
      have hck := hc k hlt
      have hdk := hd k hlt
      have HB : Hid (Below w.heap.size w wr) := hbr
      generalize zs.getD k 0 = z at hck hdk
      generalize hn : zs.length = n at *
      clear hc hd ha hb hbr hn
      go_wp2
      go_quiet (fail)
      go_wp2
      go_roundw
      case rel => exact ⟨k + 1, by omega, by go_num, below_drewN HB.out _⟩
      case measure => simp [intOf]; omega
    · go_wp2
      go_ret
      exact ⟨rfl, hbr⟩
end Go.Proofs.YtekflbicjokdnaaGreatDoor
namespace Go.Proofs.YtekflbicjokdnaaGreatDoor
open Go.RowKit

theorem sigRow {w : World} {g : Nat} {t : TypeId} {x y z : Value} (hg : w.heap[g]? = some (.cells [x, y, z].toArray t (0, 0))) (a b c : Value) :
    (((w.setCell ⟨g, 0, none⟩ a).setCell ⟨g, 1, none⟩ b).setCell ⟨g, 2, none⟩ c).heap[g]? = some (.cells [a, b, c].toArray t (0, 0)) := rowSet c (rowSet b (rowSet a hg))
theorem sizeSig : (Tryz.prog.info? 24).map (·.size) = some 3 := by kernel_rfl
end Go.Proofs.YtekflbicjokdnaaGreatDoor
namespace Go.Proofs.YtekflbicjokdnaaGreatDoor
open Go.RowKit

set_option maxHeartbeats 1000000 in
set_option maxRecDepth 100000 in
theorem eqSig (k e s : Int) (w : World) :
    Calls Tryz.prog 72 #[.agg #[.int .i64 k, .int .i64 e, .int .i64 s], .agg #[.int .i64 k, .int .i64 e, .int .i64 s]] w fun r w' => r = .returned (.bool true) ∧ Below w.heap.size w w' := by
  go_enter Tryz.func72, Tryz.ntmps72
  go_wp2
  go_ret
  exact ⟨rfl, (allocBelow w _).alloc (by simp) _⟩
end Go.Proofs.YtekflbicjokdnaaGreatDoor
namespace Go.Proofs.YtekflbicjokdnaaGreatDoor
open Go.RowKit

set_option maxHeartbeats 4000000 in
set_option maxRecDepth 100000 in
theorem eqCrl (c : Lst) (a b : Option Addr) (ca1 cb : Nat) (w : World) (hl : c.serials.length ≤ 1048576) (ha : IsInts w a c.serials) (hb : IsInts w b c.serials) :
    Calls Tryz.prog 52 #[c.val (.slice a c.serials.length ca1), c.val (.slice b c.serials.length cb)] w fun e w' => e = .returned (.bool true) ∧ Below w.heap.size w w' := by
  obtain ⟨iss, fr, till, serials, sk, se, ss⟩ := c
  simp only at hl ha hb
  unfold Lst.val
  simp only
  have HE : Hid (∀ V, IsInts V a serials → IsInts V b serials → Calls Tryz.prog 100 #[.slice a serials.length ca1, .slice b serials.length cb] V fun e w' => e = .returned (.bool true) ∧ Below V.heap.size V w') := fun V h1 h2 => eqInts a b serials ca1 cb V (by omega) h1 h2
  generalize serials.length = nl at *
  obtain ⟨w0, hw0⟩ : ∃ w0, w0 = w.alloc (.cells #[.string iss, .int .i64 fr, .int .i64 till, .slice a nl ca1, .int .i64 sk, .int .i64 se, .int .i64 ss] 42 (0, 0)) := ⟨_, rfl⟩
  obtain ⟨w1, hw1⟩ : ∃ w1, w1 = w0.alloc (.cells #[.string iss, .int .i64 fr, .int .i64 till, .slice b nl cb, .int .i64 sk, .int .i64 se, .int .i64 ss] 42 (0, 0)) := ⟨_, rfl⟩
  have z0 : w0.heap.size = w.heap.size + 1 := by rw [hw0]; simp
  have r1 : w1.heap[w.heap.size + 1]? = some (.cells [Value.string iss, .int .i64 fr, .int .i64 till, .slice b nl cb, .int .i64 sk, .int .i64 se, .int .i64 ss].toArray 42 (0, 0)) := by rw [hw1, ← z0]; exact heap_alloc_new w0 _
  have r0 : w1.heap[w.heap.size]? = some (.cells [Value.string iss, .int .i64 fr, .int .i64 till, .slice a nl ca1, .int .i64 sk, .int .i64 se, .int .i64 ss].toArray 42 (0, 0)) := by rw [hw1, Below.heap_alloc _ _ _ (by omega), hw0]; exact heap_alloc_new w _
  have B1 : Hid (Below w.heap.size w w1) := by rw [hw1, hw0]; exact ((Below.refl _ _).alloc (Nat.le_refl _) _).alloc (by simp) _
  have A1 : Hid (IsInts w1 a serials) := ha.keep B1.out
  have A2 : Hid (IsInts w1 b serials) := hb.keep B1.out
  have c0 := rowFacts r0 0 _ rfl
  have d0 := rowFacts r1 0 _ rfl
  have c1 := rowFacts r0 1 _ rfl
  have d1 := rowFacts r1 1 _ rfl
  have c2 := rowFacts r0 2 _ rfl
  have d2 := rowFacts r1 2 _ rfl
  have c3 := rowFacts r0 3 _ rfl
  have d3 := rowFacts r1 3 _ rfl
  have c4 := rowFacts r0 4 _ rfl
  have d4 := rowFacts r1 4 _ rfl
  have c5 := rowFacts r0 5 _ rfl
  have d5 := rowFacts r1 5 _ rfl
  have c6 := rowFacts r0 6 _ rfl
  have d6 := rowFacts r1 6 _ rfl
  have R0 : Hid (w.heap.size < w1.heap.size) := heap_lt r0
  have R1 : Hid (w.heap.size + 1 < w1.heap.size) := heap_lt r1
  rw [hw0] at hw1
  clear r0 r1 ha hb hw0 z0
  go_enter Tryz.func52, Tryz.ntmps52
  go_upto_region 1 with fail
  rw [← hw1]
  clear hw1
  go_wp2_with fail
  refine (HE.out _ A1.out A2.out).mono ?_
  rintro e w2 ⟨rfl, b2⟩
  have B2 : Hid (Below w.heap.size w w2) := B1.out.trans (b2.mono B1.out.size)
  have e4 := (b2.cell (p := ⟨w.heap.size, 4, none⟩) R0.out).trans c4
  have f4 := (b2.cell (p := ⟨w.heap.size + 1, 4, none⟩) R1.out).trans d4
  have e5 := (b2.cell (p := ⟨w.heap.size, 5, none⟩) R0.out).trans c5
  have f5 := (b2.cell (p := ⟨w.heap.size + 1, 5, none⟩) R1.out).trans d5
  have e6 := (b2.cell (p := ⟨w.heap.size, 6, none⟩) R0.out).trans c6
  have f6 := (b2.cell (p := ⟨w.heap.size + 1, 6, none⟩) R1.out).trans d6
  clear b2 B1 A1 A2 HE R0 R1 c0 d0 c1 d1 c2 d2 c3 d3 c4 d4 c5 d5 c6 d6
  go_wp2_with fail
  refine (eqSig sk se ss _).mono ?_
  rintro e w3 ⟨rfl, b3⟩
  have B3 : Hid (Below w.heap.size w w3) := B2.out.trans (b3.mono B2.out.size)
  clear b3 B2
  go_wp2
  go_ret
  exact ⟨rfl, B3.out⟩
end Go.Proofs.YtekflbicjokdnaaGreatDoor
namespace Go.Proofs.YtekflbicjokdnaaGreatDoor
open Go.RowKit

/-- The first n cells count on from k. -/
def Counts (k : Int) (n : Nat) (M : List Value) : Prop := ∀ j, j < n → M[j]? = some (.int .i64 (k + j))
/-- A row was written, nothing else. -/
def RowOnly (g : Nat) (w w' : World) : Prop := w'.heap.size = w.heap.size ∧ (∀ b, b ≠ g → w'.heap[b]? = w.heap[b]?) ∧ ∀ B w0, B ≤ g → Below B w0 w → Below B w0 w'
theorem RowOnly.refl (g : Nat) (w : World) : RowOnly g w w := ⟨rfl, fun _ _ => rfl, fun _ _ _ h => h⟩
theorem RowOnly.set {g : Nat} {w w' : World} (h : RowOnly g w w') (i : Nat) (v : Value) : RowOnly g w (w'.setCell ⟨g, i, none⟩ v) :=
  ⟨by rw [← h.1]; simp, fun b hb => by rw [heap_setCell_other _ _ _ _ hb]; exact h.2.1 b hb, fun B w0 hB hw => (h.2.2 B w0 hB hw).setCell hB v⟩
set_option maxHeartbeats 1000000 in
set_option maxRecDepth 100000 in
theorem markInts (g n c : Nat) (L : List Value) (k : Int) (w : World) (hn : n ≤ 1048576) (hk0 : 0 ≤ k) (hk : k ≤ 1048576) (hL : n ≤ L.length) (hg : w.heap[g]? = some (.cells L.toArray 2 (0, 0))) :
    Calls Tryz.prog 101 #[.slice (some ⟨g, 0, none⟩) n c, .int .i64 k] w fun e w' => e = .returned (.int .i64 (k + n)) ∧ (∃ M, w'.heap[g]? = some (.cells M.toArray 2 (0, 0)) ∧ Counts k n M) ∧ RowOnly g w w' := by
  go_enter Tryz.func101, Tryz.ntmps101
  go_wp2_with fail
  go_loopw [1, 5] (fun q i wr => ∃ (j : Nat) (M : List Value), j ≤ n ∧ q = .int .i64 (k + j) ∧ i = .int .i64 j ∧ n ≤ M.length ∧ wr.heap[g]? = some (.cells M.toArray 2 (0, 0)) ∧ Counts k j M ∧ RowOnly g w wr)
    (fun _ i _ => n - (intOf i).toNat)
  case atStart => exact ⟨0, L, Nat.zero_le _, by simp, rfl, hL, hg, fun j hj => by omega, RowOnly.refl _ _⟩
  case round =>
    clear hg hL
    obtain ⟨j, M, hj, rfl, rfl, hM, hgr, hc, ho⟩ := hrel
    by_cases hlt : j < n
    · have hd := rowFacts hgr j M[j] (List.getElem?_eq_getElem (by omega))
      have hz := frozen_of_row wr _ j _ _ hgr
      have HG : Hid (∀ v, (wr.setCell ⟨g, j, none⟩ v).heap[g]? = some (.cells (M.set j v).toArray 2 (0, 0))) := fun v => rowSet v hgr
      have HC : Hid (Counts k (j + 1) (M.set j (.int .i64 (k + j)))) := fun t ht => by
        by_cases e : t = j
        · subst e; rw [List.getElem?_set_self (by omega)]
        · rw [List.getElem?_set_ne (by omega), hc t (by omega)]
      have HL : Hid (∀ v, n ≤ (M.set j v).length) := fun v => by simpa using hM
      have HO : Hid (∀ v, RowOnly g w (wr.setCell ⟨g, j, none⟩ v)) := fun v => ho.set j v
      generalize M[j] = v0 at hd
      clear hc ho hgr hM
      go_wp2
      go_roundw
      case rel => exact ⟨j + 1, _, by omega, by go_num, by go_num, HL.out _, HG.out _, HC.out, HO.out _⟩
      case measure => simp [intOf]; omega
    · have hjn : j = n := by omega
      have HC : Hid (∃ M : List Value, wr.heap[g]? = some (.cells M.toArray 2 (0, 0)) ∧ Counts k n M) := ⟨M, hgr, by rw [← hjn]; exact hc⟩
      have HO : Hid (RowOnly g w wr) := ho
      clear hc ho hgr
      go_wp2
      go_ret
      exact ⟨ret_int (by rw [← hjn]), HC.out, HO.out⟩
set_option maxHeartbeats 1000000 in
set_option maxRecDepth 100000 in
theorem heldInts (g n c : Nat) (M : List Value) (k : Int) (w : World) (hn : n ≤ 1048576) (hk0 : 0 ≤ k) (hk : k ≤ 1048576) (hg : w.heap[g]? = some (.cells M.toArray 2 (0, 0))) (hc : Counts k n M) :
    Calls Tryz.prog 102 #[.slice (some ⟨g, 0, none⟩) n c, .int .i64 k] w fun e w' => e = .returned (.int .i64 (k + n)) ∧ w' = w := by
  go_enter Tryz.func102, Tryz.ntmps102
  go_wp2_with fail
  go_loopw [1, 5] (fun q i wr => ∃ j : Nat, j ≤ n ∧ q = .int .i64 (k + j) ∧ i = .int .i64 j ∧ wr = w)
    (fun _ i _ => n - (intOf i).toNat)
  case atStart => exact ⟨0, Nat.zero_le _, by simp, rfl, rfl⟩
  case round =>
    obtain ⟨j, hj, rfl, rfl, rfl⟩ := hrel
    by_cases hlt : j < n
    · have hd := rowFacts hg j _ (hc j hlt)
      clear hc hg
      go_wp2
      go_roundw
      case rel => exact ⟨j + 1, by omega, by go_num, by go_num, trivial⟩
      case measure => simp [intOf]; omega
    · have hjn : j = n := by omega
      clear hc hg
      go_wp2
      go_ret
      exact ⟨ret_int (by rw [← hjn]), rfl⟩
end Go.Proofs.YtekflbicjokdnaaGreatDoor
namespace Go.Proofs.YtekflbicjokdnaaGreatDoor
open Go.RowKit

/-- A row of n numbers bears the marks. -/
def MkL (w : World) (v : Value) (n : Nat) : Prop := (n = 0 ∧ ∃ a c, v = .slice a 0 c) ∨ ∃ g cap M, v = .slice (some ⟨g, 0, none⟩) n cap ∧ w.heap[g]? = some (.cells M.toArray 2 (0, 0)) ∧ Counts 1 n M
theorem MkL.keep {w w' : World} {v : Value} {n : Nat} (h : MkL w v n) (hb : Below w.heap.size w w') : MkL w' v n := by
  rcases h with h | ⟨g, cap, M, e, hg, hm⟩
  · exact .inl h
  · exact .inr ⟨g, cap, M, e, by rw [hb.block g (heap_lt hg)]; exact hg, hm⟩
end Go.Proofs.YtekflbicjokdnaaGreatDoor
namespace Go.Proofs.YtekflbicjokdnaaGreatDoor
open Go.RowKit

set_option maxHeartbeats 2000000 in
set_option maxRecDepth 100000 in
theorem markCrlC (c : Lst) (v : Value) (l : List Int) (B : Nat) (w : World) (hl : l.length ≤ 1048576) (ho : OwnL w B v l) :
    Calls Tryz.prog 53 #[c.val v, .int .i64 1] w fun e w' => e = .returned (.int .i64 ((1 + l.length : Nat) : Int)) ∧ MkL w' v l.length ∧
      (∀ b, v.ownBlock ≠ some b → b < w.heap.size → w'.heap[b]? = w.heap[b]?) ∧ w.heap.size ≤ w'.heap.size ∧ ∀ B' w0, B' ≤ B → B' ≤ w.heap.size → Below B' w0 w → Below B' w0 w' := by
  obtain ⟨iss, fr, till, serials, sk, se, ss⟩ := c
  unfold Lst.val
  simp only
  rcases ho.2 with ⟨rfl, h0⟩ | ⟨g, cap, cur, rfl, hBg, hg, hnc, hcm, hcs, ht⟩
  · rw [h0]
    have HMk : Hid (∀ V : World, Calls Tryz.prog 101 #[.slice none 0 0, .int .i64 1] V fun e w' => e = .returned (.int .i64 1) ∧ w' = V) := fun V => by
      go_enter Tryz.func101, Tryz.ntmps101
      go_wp2_with fail
      refine wp_loop_rounds 1 ?_
      rw [rounds_succ]
      go_wp2_with fail
      go_ret
      exact ⟨rfl, rfl⟩
    clear ho h0
    go_enter Tryz.func53, Tryz.ntmps53
    go_wp2_with fail
    refine (HMk.out _).mono ?_
    rintro e w1 ⟨rfl, rfl⟩
    go_wp2_with fail
    go_ret
    refine ⟨rfl, .inl ⟨rfl, _, _, rfl⟩, fun b _ hb => Below.heap_alloc _ _ _ hb, by simp, fun B' w0 _ h2 h3 => h3.alloc h2 _⟩
  · have hgl : g < w.heap.size := heap_lt hg
    have HMk : Hid (∀ o, Calls Tryz.prog 101 #[.slice (some ⟨g, 0, none⟩) l.length cap, .int .i64 1] (w.alloc o) fun e w' => e = .returned (.int .i64 ((1 + l.length : Nat) : Int)) ∧ (∃ M, w'.heap[g]? = some (.cells M.toArray 2 (0, 0)) ∧ Counts 1 l.length M) ∧
        (∀ b, b ≠ g → b < w.heap.size + 1 → w'.heap[b]? = (w.alloc o).heap[b]?) ∧ w.heap.size ≤ w'.heap.size ∧ ∀ B w0, B ≤ g → B ≤ w.heap.size + 1 → Below B w0 (w.alloc o) → Below B w0 w') := fun o => by
      have := markInts g l.length cap cur.toList 1 (w.alloc o) (by omega) (by omega) (by omega) (by simp only [Array.length_toList, hcs]; omega) (by rw [Below.heap_alloc _ _ _ hgl]; simpa using hg)
      rw [show (1 : Int) + (l.length : Int) = ((1 + l.length : Nat) : Int) from by omega] at this
      refine this.mono ?_
      rintro e w' ⟨he, h1, ho⟩
      have hsz : (w.alloc o).heap.size = w.heap.size + 1 := by simp
      exact ⟨he, h1, fun b hb _ => ho.2.1 b hb, by have := ho.1; omega, fun B w0 hB1 _ hB3 => ho.2.2 B w0 hB1 hB3⟩
    obtain ⟨n, hn⟩ : ∃ n, n = l.length := ⟨_, rfl⟩
    rw [← hn] at hl HMk ⊢
    clear ho hg ht hcs hcm hnc hn
    go_enter Tryz.func53, Tryz.ntmps53
    go_wp2_with fail
    refine (HMk.out _).mono ?_
    rintro e w1 ⟨rfl, ⟨M, hM, hMk⟩, h2, h3, h4⟩
    have HM : Hid (w1.heap[g]? = some (.cells M.toArray 2 (0, 0)) ∧ Counts 1 n M) := ⟨hM, hMk⟩
    have H2 : Hid (∀ b, b ≠ g → b < w.heap.size → w1.heap[b]? = w.heap[b]?) := fun b hb hl => by
      rw [h2 b hb (by omega)]; exact Below.heap_alloc _ _ _ hl
    have H4 : Hid (∀ B' w0, B' ≤ B → B' ≤ w.heap.size → Below B' w0 w → Below B' w0 w1) := fun B' w0 hB1 hB2 hB3 => h4 B' w0 (by omega) (by omega) (hB3.alloc hB2 _)
    clear hM hMk h2 h4 HMk
    go_wp2_with fail
    go_ret
    refine ⟨rfl, .inr ⟨g, cap, M, rfl, HM.out.1, HM.out.2⟩, fun b hb hl => H2.out b (fun e => hb (by rw [e]; rfl)) hl, h3, H4.out⟩
set_option maxHeartbeats 1000000 in
set_option maxRecDepth 100000 in
theorem heldCrlC (c : Lst) (v : Value) (n : Nat) (w : World) (hl : n ≤ 1048576) (hm : MkL w v n) :
    Calls Tryz.prog 54 #[c.val v, .int .i64 1] w fun e w' => e = .returned (.int .i64 ((1 + n : Nat) : Int)) ∧ Below w.heap.size w w' := by
  obtain ⟨iss, fr, till, serials, sk, se, ss⟩ := c
  unfold Lst.val
  simp only
  rcases hm with ⟨rfl, a, c, rfl⟩ | ⟨g, cap, M, rfl, hg, hm⟩
  · have HMk : Hid (∀ V : World, Calls Tryz.prog 102 #[.slice a 0 c, .int .i64 1] V fun e w' => e = .returned (.int .i64 1) ∧ w' = V) := fun V => by
      go_enter Tryz.func102, Tryz.ntmps102
      go_wp2_with fail
      refine wp_loop_rounds 1 ?_
      rw [rounds_succ]
      go_wp2_with fail
      go_ret
      exact ⟨rfl, rfl⟩
    go_enter Tryz.func54, Tryz.ntmps54
    go_wp2_with fail
    refine (HMk.out _).mono ?_
    rintro e w1 ⟨rfl, rfl⟩
    go_wp2_with fail
    go_ret
    exact ⟨rfl, (Below.refl _ _).alloc (Nat.le_refl _) _⟩
  · have hgl : g < w.heap.size := heap_lt hg
    have HMk : Hid (∀ o, Calls Tryz.prog 102 #[.slice (some ⟨g, 0, none⟩) n cap, .int .i64 1] (w.alloc o) fun e w' => e = .returned (.int .i64 ((1 + n : Nat) : Int)) ∧ Below (w.alloc o).heap.size (w.alloc o) w') := fun o => by
      have := heldInts g n cap M 1 (w.alloc o) (by omega) (by omega) (by omega) (by rw [Below.heap_alloc _ _ _ hgl]; exact hg) hm
      rw [show (1 : Int) + (n : Int) = ((1 + n : Nat) : Int) from by omega] at this
      exact this.mono fun e w' h => ⟨h.1, by rw [h.2]; exact Below.refl _ _⟩
    clear hg hm
    obtain ⟨m, hmm⟩ : ∃ m, m = 1 + n := ⟨_, rfl⟩
    rw [← hmm] at HMk ⊢
    have hm1 : 1 ≤ m := by omega
    clear hmm
    go_enter Tryz.func54, Tryz.ntmps54
    go_wp2_with fail
    refine (HMk.out _).mono ?_
    rintro e w1 ⟨rfl, hb1⟩
    have HB : Hid (Below w.heap.size w w1) := ((Below.refl _ w).alloc (Nat.le_refl _) _).trans (hb1.mono (by simp))
    clear hb1 HMk
    go_wp2_with fail
    go_ret
    exact ⟨rfl, HB.out⟩
end Go.Proofs.YtekflbicjokdnaaGreatDoor
