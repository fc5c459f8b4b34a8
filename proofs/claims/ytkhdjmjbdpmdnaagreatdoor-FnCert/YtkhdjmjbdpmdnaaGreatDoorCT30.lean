/- impl.CertRead, walked. Readers: what is left of one, how much it has still to be asked; a row of numbers by its cells. An append to a row of the call's own: the row that comes of it lies where the old one lay, or in a new block. No program is named. The specification at work on a paper: the paper's cells, the readers that are open (the last one first), the names gathered so far. The names that the specification's readers gather stay within bounds. Plain mathematics: no program is named here. -/
import Derived.Test.YtkhdjmjbdpmdnaaGreatDoorCT26
import Derived.Test.YtkhdjmjbdpmdnaaGreatDoorCT29
import Derived.Test.YtkhdjmjbdpmdnaaGreatDoorCT28
import Derived.Test.YtkhdjmjbdpmdnaaGreatDoorCT17
import Derived.Test.YtkhdjmjbdpmdnaaGreatDoorCT27
import Derived.Test.YtkhdjmjbdpmdnaaGreatDoorCT02
import Derived.Test.YtkhdjmjbdpmdnaaGreatDoorCT20
import Derived.Test.YtkhdjmjbdpmdnaaGreatDoorCT01
import Derived.Laws.AppendOwn
import Derived.Below
import Derived.Test.YtkhdjmjbdpmdnaaGreatDoorCT23
namespace Go.Proofs.YtkhdjmjbdpmdnaaGreatDoor
open Go.RowKit

set_option linter.unusedSimpArgs false in
set_option maxHeartbeats 8000000 in
set_option maxRecDepth 100000 in
theorem implCertRead (s : ByteArray) (w : World) (hs : s.size ≤ maxLen) (hE : ErrType w) :
    Calls Tryz.prog 17 #[.string s] w fun e w' => ∃ v, e = .returned (certV (certR s).1 v (certR s).2) ∧ OwnS w' w.heap.size v (certR s).1.names ∧ Below w.heap.size w w' := by
  obtain ⟨w1, hw1⟩ : ∃ y, y = w.alloc (.cells #[Value.int .i64 0, .string ⟨#[]⟩, .string ⟨#[]⟩, .int .i64 0, .int .i64 0, .int .i64 0, .slice none 0 0, .bool false, .int .i64 0, .int .i64 0, .int .i64 0, .int .i64 0] 37 (0, 0)) := ⟨_, rfl⟩
  have hz : w1.heap.size = w.heap.size + 1 := by rw [hw1]; simp
  have hg1 : w1.heap[w.heap.size]? = some (.cells [Value.int .i64 0, .string ⟨#[]⟩, .string ⟨#[]⟩, .int .i64 0, .int .i64 0, .int .i64 0, .slice none 0 0, .bool false, .int .i64 0, .int .i64 0, .int .i64 0, .int .i64 0].toArray 37 (0, 0)) := by rw [hw1]; exact heap_alloc_new w _
  have hB1 : Below w.heap.size w w1 := by rw [hw1]; exact (Below.refl _ w).alloc (Nat.le_refl _) _
  have HB : Hid (∀ V, Below w1.heap.size w1 V → Below w.heap.size w V) := fun V hV => hB1.trans (hV.mono (by omega))
  have HRes : Hid (∀ V, Below w1.heap.size w1 V → V.heap[w.heap.size]? = some (.cells [Value.int .i64 0, .string ⟨#[]⟩, .string ⟨#[]⟩, .int .i64 0, .int .i64 0, .int .i64 0, .slice none 0 0, .bool false, .int .i64 0, .int .i64 0, .int .i64 0, .int .i64 0].toArray 37 (0, 0))) := fun V hV => by rw [hV.block _ (by omega)]; exact hg1
  have HTl : Hid (∀ V, Calls Tryz.prog 69 #[.string s] V fun e w' => e = .returned (.bool (decide (20000 < s.size))) ∧ w' = V) := fun V => tooLong s V hs
  have hEp := hE.pos
  have HRd : Hid (¬ 20000 < s.size → ∀ V, Below w1.heap.size w1 V → Calls Tryz.prog 70 #[.string s] V fun e w' => ∃ v, e = .returned ((readP s).val v) ∧ OwnS w' V.heap.size v (readP s).names ∧ Below V.heap.size V w') := fun h V hV => implReadCert s V (by omega) (hE.below (HB.out V hV) hEp)
  have HNf : Hid (((readP s).issuer.size ≤ maxLen ∧ (readP s).subject.size ≤ maxLen) ∧ (readP s).names.length ≤ 1048576 ∧ totS (readP s).names (readP s).names.length ≤ 1048576) := ⟨readP_texts s, readP_names s⟩
  have HRn : Hid (¬ 20000 < s.size → certR s = if certB (readP s) = true ∧ certBytesD (readP s) = s then (readP s, 0) else (zeroPaper, 3)) := fun h => by show _ = _; rw [certR, if_neg h]
  obtain ⟨R, hR⟩ : ∃ R, R = certR s := ⟨_, rfl⟩
  rw [← hR]
  have HR : Hid (R = certR s) := hR
  have I1 : Hid (Below w1.heap.size w1 w1) := Below.refl _ _
  have Z1 : Hid (w1.heap.size = w.heap.size + 1) := hz
  clear hR hg1 hB1 hz hE hEp
  go_enter Tryz.func17, Tryz.ntmps17
  go_upto_region 1 with fail
  rw [← hw1]
  clear hw1
  go_wp2_with fail
  refine (HTl.out _).mono ?_
  rintro e w2 ⟨rfl, rfl⟩
  by_cases hl : 20000 < s.size
  · have HF : Hid (R = (zeroPaper, 2)) := by show _ = _; rw [HR.out, certR, if_pos hl]
    have hd : decide (20000 < s.size) = true := decide_eq_true hl
    rw [hd]
    go_wp2_with (refine wpList_store_row rfl 37 _ _ rfl (w.heap.size) _ [Value.int .i64 0, .string ⟨#[]⟩, .string ⟨#[]⟩, .int .i64 0, .int .i64 0, .int .i64 0, .slice none 0 0, .bool false, .int .i64 0, .int .i64 0, .int .i64 0, .int .i64 2] 37 rfl rfl (HRes.out _ I1.out) rfl sizeCertOut (by simp [Value.oneCell']) ?_)
    intro w8 hrow ho hs8 hbb
    have HROW : Hid _ := hrow
    have HB8 : Hid (Below w.heap.size w w8) := hbb _ _ (Nat.le_refl _) (HB.out _ I1.out)
    clear ho hs8 hbb hrow
    go_wp2
    refine bodyPost_ret (v := .agg [Value.int .i64 0, .string ⟨#[]⟩, .string ⟨#[]⟩, .int .i64 0, .int .i64 0, .int .i64 0, .slice none 0 0, .bool false, .int .i64 0, .int .i64 0, .int .i64 0, .int .i64 2].toArray) ?_ rfl ⟨.slice none 0 0, by rw [HF.out]; rfl, by rw [HF.out]; exact ownS_nil _ _, HB8.out⟩
    have hl3 := run_loadVar_mid (P := Tryz.prog) _ (w.heap.size) 0 37 _ _ (rangeRow HROW.out) Tryz.underlying37 rfl sizeCertOut
    simp [results, Tryz.results17, asAddr, hl3]
  · have hd : decide (20000 < s.size) = false := decide_eq_false hl
    rw [hd]
    have HRd' : Hid _ := HRd.out hl
    have HRn' : Hid _ := HRn.out hl
    rw [← HR.out] at HRn'
    clear HRd HRn HR
    go_wp2_with fail
    refine (HRd'.out _ I1.out).mono ?_
    rintro e w3 ⟨v, rfl, o3, b3⟩
    clear HRd'
    obtain ⟨va, vc, rfl, _⟩ := OwnS.form o3
    have O3 : Hid (OwnS w3 (w.heap.size + 1) (.slice va (readP s).names.length vc) (readP s).names) := o3.mono (by rw [Z1.out]; omega)
    have B3 : Hid (Below w2.heap.size w2 w3) := b3
    clear o3 b3
    obtain ⟨c, hc⟩ : ∃ c, c = readP s := ⟨_, rfl⟩
    rw [← hc] at O3 HNf HRn'
    rw [← hc]
    have HIs : Hid (∀ V, Below w3.heap.size w3 V → IsStrs V va c.names) := fun V hV => O3.out.strs.keep hV
    have HCr : Hid (∀ V, Below w3.heap.size w3 V → Calls Tryz.prog 13 #[c.val (.slice va c.names.length vc)] V fun e w' => e = .returned (.bool (certB c)) ∧ Below V.heap.size V w') := fun V hV => implCert c va vc V HNf.out.1.1 HNf.out.1.2 HNf.out.2.1 HNf.out.2.2 (HIs.out V hV)
    have HCb : Hid (∀ V, Below w3.heap.size w3 V → Calls Tryz.prog 7 #[c.val (.slice va c.names.length vc)] V fun e w' => e = .returned (.string (certBytesD c)) ∧ Below V.heap.size V w') := fun V hV => implCertBytes c va vc V HNf.out.1.1 HNf.out.1.2 HNf.out.2.1 HNf.out.2.2 (HIs.out V hV)
    clear hc HNf HIs
    generalize certB c = P at *
    generalize certBytesD c = Y at *
    obtain ⟨serial, iss, sub, fr, till, key, names, ca, sk, se, ss⟩ := c
    unfold Paper.val at *
    simp only at HCr HCb O3 ⊢
    obtain ⟨w4, hw4⟩ : ∃ y, y = w3.alloc (.cells #[Value.int .i64 serial, .string iss, .string sub, .int .i64 fr, .int .i64 till, .int .i64 key, .slice va names.length vc, .bool ca, .int .i64 sk, .int .i64 se, .int .i64 ss] 27 (0, 0)) := ⟨_, rfl⟩
    have b4 : Below w3.heap.size w3 w4 := by rw [hw4]; exact (Below.refl _ w3).alloc (Nat.le_refl _) _
    have G4 : Hid (w4.heap[w3.heap.size]? = some (.cells [Value.int .i64 serial, .string iss, .string sub, .int .i64 fr, .int .i64 till, .int .i64 key, .slice va names.length vc, .bool ca, .int .i64 sk, .int .i64 se, .int .i64 ss].toArray 27 (0, 0))) := by show _ = _; rw [hw4]; exact heap_alloc_new w3 _
    have B4 : Hid (Below w3.heap.size w3 w4) := b4
    have O4 : Hid (OwnS w4 (w.heap.size + 1) (.slice va names.length vc) names) := O3.out.keep b4
    have K4 : Hid (Below w2.heap.size w2 w4) := B3.out.trans (b4.mono B3.out.size)
    clear b4 O3
    have d0 := rowFacts G4.out 0 _ rfl
    have d1 := rowFacts G4.out 1 _ rfl
    have d2 := rowFacts G4.out 2 _ rfl
    have d3 := rowFacts G4.out 3 _ rfl
    have d4 := rowFacts G4.out 4 _ rfl
    have d5 := rowFacts G4.out 5 _ rfl
    have d6 := rowFacts G4.out 6 _ rfl
    have d7 := rowFacts G4.out 7 _ rfl
    have d8 := rowFacts G4.out 8 _ rfl
    have d9 := rowFacts G4.out 9 _ rfl
    have d10 := rowFacts G4.out 10 _ rfl
    go_upto_region 4 with fail
    rw [← hw4]
    clear hw4
    go_wp2_with fail
    refine (HCr.out w4 B4.out).mono ?_
    rintro e w5 ⟨rfl, b5⟩
    have B5 : Hid (Below w3.heap.size w3 w5) := B4.out.trans (b5.mono B4.out.size)
    have K5 : Hid (Below w2.heap.size w2 w5) := K4.out.trans (b5.mono K4.out.size)
    have G5 : Hid (w5.heap[w3.heap.size]? = some (.cells [Value.int .i64 serial, .string iss, .string sub, .int .i64 fr, .int .i64 till, .int .i64 key, .slice va names.length vc, .bool ca, .int .i64 sk, .int .i64 se, .int .i64 ss].toArray 27 (0, 0))) := (b5.block _ (heap_lt G4.out)).trans G4.out
    have O5 : Hid (OwnS w5 (w.heap.size + 1) (.slice va names.length vc) names) := O4.out.keep b5
    clear b5 d0 d1 d2 d3 d4 d5 d6 d7 d8 d9 d10 HCr B4 K4 G4 O4
    cases P with
    | false =>
      have HF : Hid (R = (zeroPaper, 3)) := by show _ = _; rw [HRn'.out, if_neg (by simp)]
      go_wp2_with (refine wpList_store_row rfl 37 _ _ rfl (w.heap.size) _ [Value.int .i64 0, .string ⟨#[]⟩, .string ⟨#[]⟩, .int .i64 0, .int .i64 0, .int .i64 0, .slice none 0 0, .bool false, .int .i64 0, .int .i64 0, .int .i64 0, .int .i64 3] 37 rfl rfl (HRes.out _ K5.out) rfl sizeCertOut (by simp [Value.oneCell']) ?_)
      intro w8 hrow ho hs8 hbb
      have HROW : Hid _ := hrow
      have HB8 : Hid (Below w.heap.size w w8) := hbb _ _ (Nat.le_refl _) (HB.out _ K5.out)
      clear ho hs8 hbb hrow
      go_wp2
      refine bodyPost_ret (v := .agg [Value.int .i64 0, .string ⟨#[]⟩, .string ⟨#[]⟩, .int .i64 0, .int .i64 0, .int .i64 0, .slice none 0 0, .bool false, .int .i64 0, .int .i64 0, .int .i64 0, .int .i64 3].toArray) ?_ rfl ⟨.slice none 0 0, by rw [HF.out]; rfl, by rw [HF.out]; exact ownS_nil _ _, HB8.out⟩
      have hl3 := run_loadVar_mid (P := Tryz.prog) _ (w.heap.size) 0 37 _ _ (rangeRow HROW.out) Tryz.underlying37 rfl sizeCertOut
      simp [results, Tryz.results17, asAddr, hl3]
    | true =>
    have d0 := rowFacts G5.out 0 _ rfl
    have d1 := rowFacts G5.out 1 _ rfl
    have d2 := rowFacts G5.out 2 _ rfl
    have d3 := rowFacts G5.out 3 _ rfl
    have d4 := rowFacts G5.out 4 _ rfl
    have d5 := rowFacts G5.out 5 _ rfl
    have d6 := rowFacts G5.out 6 _ rfl
    have d7 := rowFacts G5.out 7 _ rfl
    have d8 := rowFacts G5.out 8 _ rfl
    have d9 := rowFacts G5.out 9 _ rfl
    have d10 := rowFacts G5.out 10 _ rfl
    go_wp2_with fail
    refine (HCb.out w5 B5.out).mono ?_
    rintro e w6 ⟨rfl, b6⟩
    have K6 : Hid (Below w2.heap.size w2 w6) := K5.out.trans (b6.mono K5.out.size)
    have G6 : Hid (w6.heap[w3.heap.size]? = some (.cells [Value.int .i64 serial, .string iss, .string sub, .int .i64 fr, .int .i64 till, .int .i64 key, .slice va names.length vc, .bool ca, .int .i64 sk, .int .i64 se, .int .i64 ss].toArray 27 (0, 0))) := (b6.block _ (heap_lt G5.out)).trans G5.out
    have O6 : Hid (OwnS w6 (w.heap.size + 1) (.slice va names.length vc) names) := O5.out.keep b6
    clear b6 d0 d1 d2 d3 d4 d5 d6 d7 d8 d9 d10 HCb B5 K5 G5 O5
    by_cases hY : Y = s
    rotate_left
    · have HF : Hid (R = (zeroPaper, 3)) := by show _ = _; rw [HRn'.out, if_neg (fun h => hY h.2)]
      have e1 : (Y.toList == s.toList) = false := by rw [same_text, decide_eq_false hY]
      have e2 : (Y.toList != s.toList) = true := by rw [bne, e1]; rfl
      go_wp2_with (refine wpList_store_row rfl 37 _ _ rfl (w.heap.size) _ [Value.int .i64 0, .string ⟨#[]⟩, .string ⟨#[]⟩, .int .i64 0, .int .i64 0, .int .i64 0, .slice none 0 0, .bool false, .int .i64 0, .int .i64 0, .int .i64 0, .int .i64 3] 37 rfl rfl (HRes.out _ K6.out) rfl sizeCertOut (by simp [Value.oneCell']) ?_)
      intro w8 hrow ho hs8 hbb
      have HROW : Hid _ := hrow
      have HB8 : Hid (Below w.heap.size w w8) := hbb _ _ (Nat.le_refl _) (HB.out _ K6.out)
      clear ho hs8 hbb hrow
      go_wp2
      refine bodyPost_ret (v := .agg [Value.int .i64 0, .string ⟨#[]⟩, .string ⟨#[]⟩, .int .i64 0, .int .i64 0, .int .i64 0, .slice none 0 0, .bool false, .int .i64 0, .int .i64 0, .int .i64 0, .int .i64 3].toArray) ?_ rfl ⟨.slice none 0 0, by rw [HF.out]; rfl, by rw [HF.out]; exact ownS_nil _ _, HB8.out⟩
      have hl3 := run_loadVar_mid (P := Tryz.prog) _ (w.heap.size) 0 37 _ _ (rangeRow HROW.out) Tryz.underlying37 rfl sizeCertOut
      simp [results, Tryz.results17, asAddr, hl3]
    have HF : Hid (R = (⟨serial, iss, sub, fr, till, key, names, ca, sk, se, ss⟩, 0)) := by show _ = _; rw [HRn'.out, if_pos ⟨trivial, hY⟩]
    have e2 : (Y.toList != s.toList) = false := by rw [bne, same_text, decide_eq_true hY]; rfl
    clear HRn'
    have d0 := rowFacts G6.out 0 _ rfl
    have d1 := rowFacts G6.out 1 _ rfl
    have d2 := rowFacts G6.out 2 _ rfl
    have d3 := rowFacts G6.out 3 _ rfl
    have d4 := rowFacts G6.out 4 _ rfl
    have d5 := rowFacts G6.out 5 _ rfl
    have d6 := rowFacts G6.out 6 _ rfl
    have d7 := rowFacts G6.out 7 _ rfl
    have d8 := rowFacts G6.out 8 _ rfl
    have d9 := rowFacts G6.out 9 _ rfl
    have d10 := rowFacts G6.out 10 _ rfl
    go_wp2_with (refine wpList_store_row rfl 37 _ _ rfl (w.heap.size) _ [Value.int .i64 serial, .string iss, .string sub, .int .i64 fr, .int .i64 till, .int .i64 key, .slice va names.length vc, .bool ca, .int .i64 sk, .int .i64 se, .int .i64 ss, .int .i64 0] 37 rfl rfl (HRes.out _ K6.out) rfl sizeCertOut (by simp [Value.oneCell']) ?_)
    intro w8 hrow ho hs8 hbb
    have HROW : Hid _ := hrow
    have HB8 : Hid (Below w.heap.size w w8) := hbb _ _ (Nat.le_refl _) (HB.out _ K6.out)
    have O8 : Hid (OwnS w8 (w.heap.size + 1) (.slice va names.length vc) names) := O6.out.same fun b h1 h2 => ho b (by omega)
    clear ho hs8 hbb hrow
    go_wp2
    refine bodyPost_ret (v := .agg [Value.int .i64 serial, .string iss, .string sub, .int .i64 fr, .int .i64 till, .int .i64 key, .slice va names.length vc, .bool ca, .int .i64 sk, .int .i64 se, .int .i64 ss, .int .i64 0].toArray) ?_ rfl ⟨.slice va names.length vc, by rw [HF.out]; rfl, by rw [HF.out]; exact O8.out.mono (by omega), HB8.out⟩
    have hl3 := run_loadVar_mid (P := Tryz.prog) _ (w.heap.size) 0 37 _ _ (rangeRow HROW.out) Tryz.underlying37 rfl sizeCertOut
    simp [results, Tryz.results17, asAddr, hl3]
end Go.Proofs.YtkhdjmjbdpmdnaaGreatDoor
namespace Go.Proofs.YtkhdjmjbdpmdnaaGreatDoor
open Go.RowKit

theorem takeR_rest {l : List (Int × ByteArray)} {bad : Bool} {t : Int} {m : Nat} (hl : ∀ p ∈ l, p.2.size ≤ m) : ∀ p ∈ (takeR l bad t).2.1, p.2.size ≤ m := by
  unfold takeR
  cases l with
  | nil => simp
  | cons p r =>
    simp only
    split
    · exact hl
    · split
      · exact fun q hq => hl q (List.mem_cons_of_mem _ hq)
      · exact hl
theorem OwnL.at {w : World} {B : Nat} {v : Value} {l : List Int} (h : OwnL w B v l) (h0 : 0 < l.length) : ∃ g c, v = .slice (some ⟨g, 0, none⟩) l.length c ∧ B ≤ g ∧ l.length ≤ c ∧ ∀ i z, l[i]? = some z → w.cell? ⟨g, i, none⟩ = some (.int .i64 z) := by
  obtain ⟨hl, h | ⟨g, cap, cur, e, hB, hg, hc, hm, hz, ht⟩⟩ := id h
  · omega
  · refine ⟨g, cap, e, hB, hc, fun i z hi => ?_⟩
    have hi' : i < l.length := by
      rcases Nat.lt_or_ge i l.length with h | h
      · exact h
      · rw [List.getElem?_eq_none h] at hi; cases hi
    have hii := (e ▸ h : OwnL w B (.slice (some ⟨g, 0, none⟩) l.length cap) l).ints
    rcases hii with h2 | ⟨b, o, e2, hc2⟩
    · rw [h2] at hi'; simp at hi'
    · simp only [Option.some.injEq, Addr.mk.injEq, and_true] at e2
      have := hc2 i hi'
      rw [← e2.1, ← e2.2, Nat.zero_add, List.getD_eq_getElem?_getD, hi] at this
      exact this
/-- How much a reader has still to be asked. -/
def measR (w : World) (x : Nat) : Nat := match w.cell? ⟨x, 0, none⟩, w.cell? ⟨x, 1, none⟩ with
  | some (.slice _ n _), some (.bool b) => n + (if b then 0 else 1)
  | _, _ => 0
theorem measR_is {w : World} {B x : Nat} {l : List (Int × ByteArray)} {b : Bool} (h : IsRd w B x l b) : measR w x = l.length + (if b then 0 else 1) := by
  obtain ⟨a, c, hg, _⟩ := h
  unfold measR
  rw [rowFacts hg 0 _ rfl, rowFacts hg 1 _ rfl]
theorem IsRd.put {w : World} {B g q o : Nat} {l : List (Int × ByteArray)} {b : Bool} (h : IsRd w B g l b) (hq : q < B) (v : Value) : IsRd (w.setCell ⟨q, o, none⟩ v) B g l b :=
  h.same fun k hk _ => heap_setCell_other w _ k _ (by show k ≠ q; omega)
theorem takeR_less (p : Int × ByteArray) (r : List (Int × ByteArray)) (t : Int) : (takeR (p :: r) false t).2.1.length + (if (takeR (p :: r) false t).2.2 then 0 else 1) < (p :: r).length + 1 := by
  by_cases h : p.1 = t
  · simp [takeR, h]
  · simp [takeR, h]
end Go.Proofs.YtkhdjmjbdpmdnaaGreatDoor
namespace Go.Proofs.YtkhdjmjbdpmdnaaGreatDoor

theorem ownsRow_mono {w : World} {base base' : Nat} {e : TypeId} {size : Nat} {v : Value} {n : Nat} {xs : List Value} (h : w.ownsRow base e size v n xs) (hb : base' ≤ base) : w.ownsRow base' e size v n xs := by
  refine ⟨h.1, ?_⟩
  rcases h.2 with h | ⟨g, cap, cur, e, h1, h2⟩
  · exact .inl h
  · exact .inr ⟨g, cap, cur, e, Nat.le_trans hb h1, h2⟩
theorem run_append_new {P : Program} (w : World) (base : Nat) (t ty e : TypeId) (i : TypeInfo) (z : Value) (size bytes : Nat) (ht : P.underlying t = some (.slice e)) (hi : P.info? e = some i) (hz : i.zero = some z)
    (hsize : i.size = size) (hby : i.bytes = bytes) (hzs : z.cells.size = size) (hsz : 0 < size)
    (v : Value) (n : Nat) (xs : List Value) (hown : w.ownsRow base e size v n xs)
    (a : Addr) (m c : Nat) (news : List Value) (hl : news.length = m * size) (hnews : ∀ j u, news[j]? = some u → w.cell? (a.add j) = some u) (h1 : ∀ u ∈ news, u.oneCell' = true)
    (h63 : n + m ≤ maxLen) (hbytes : (n + m) * bytes ≤ 140737488355328) (hbase : base ≤ w.heap.size) :
    ∃ v' w', (Builtin.append_ #[t, t] ty #[v, .slice (some a) m c]).run P w = .ok v' w' ∧ w'.ownsRow base e size v' (n + m) (xs ++ news) ∧ w.grownBy w' v.ownBlock ∧
      (v'.ownBlock = v.ownBlock ∨ ∀ k, v'.ownBlock = some k → w.heap.size ≤ k) := by
  rcases hown.2 with ⟨rfl, rfl⟩ | ⟨g, cap, cur, rfl, hbg, hg, hnc, hcm, hcs, htake⟩
  · have hx : xs = [] := List.eq_nil_of_length_eq_zero (by simpa using hown.1)
    subst hx
    obtain ⟨v', w', h2, h3, h4, _⟩ := run_append_own (P := P) w w.heap.size t ty e i z size bytes ht hi hz hsize hby hzs hsz _ 0 [] (World.ownsRow_nil w _ e size) a m c news hl hnews h1 h63 hbytes (Nat.le_refl _)
    exact ⟨v', w', h2, ownsRow_mono h3 hbase, h4, .inr fun k hk => (h3.lt k hk).1⟩
  · obtain ⟨v', w', h2, h3, h4, _⟩ := run_append_own (P := P) w base t ty e i z size bytes ht hi hz hsize hby hzs hsz _ n xs hown a m c news hl hnews h1 h63 hbytes hbase
    refine ⟨v', w', h2, h3, h4, ?_⟩
    have hsmall : n + m ≤ 9223372036854775807 := by simp only [maxLen] at h63; omega
    subst hsize
    subst hby
    by_cases hroom : n + m ≤ cap
    · have hfit : n * i.size + news.length ≤ cur.size := by rw [hl, hcs, ← Nat.add_mul]; exact Nat.mul_le_mul_right _ hroom
      have hr := run_append_room (P := P) w t ty e i ht hi g n cap cur hg a m c news hl hnews h1 hroom hfit
      rw [h2] at hr
      injection hr with e1 e2
      subst e1
      exact .inl rfl
    · have holds : ∀ j u, xs[j]? = some u → w.cell? ((⟨g, 0, none⟩ : Addr).add j) = some u := hown.cells (g := g) rfl
      have hr := run_append_grow (P := P) w t ty e i z ht hi hz ⟨g, 0, none⟩ n cap xs hown.1 holds a m c news hl hnews (by omega) (by omega) (growslice_fits (by omega) hbytes)
      rw [h2] at hr
      injection hr with e1 e2
      subst e1
      refine .inr fun k hk => ?_
      simp only [Value.ownBlock, Option.some.injEq] at hk
      subst hk
      simp
section
variable {P : Program} {w : World}
theorem wp_append_new {o : Oper} {a : Act} {K : Act → World → Prop} {Q : Exit → Act → World → Prop} (s x : Operand) (t : TypeId)
    (ho : o.op = .call { callee := .builtin .append, args := #[s, x], argTypes := #[t, t] })
    (base : Nat) (e : TypeId) (i : TypeInfo) (z : Value) (size bytes : Nat) (ht : P.underlying t = some (.slice e)) (hi : P.info? e = some i) (hz : i.zero = some z)
    (hsize : i.size = size) (hby : i.bytes = bytes) (hzs : z.cells.size = size) (hsz : 0 < size)
    (v : Value) (n : Nat) (xs : List Value) (hs : a.eval s = v) (hown : w.ownsRow base e size v n xs)
    (ad : Addr) (m c : Nat) (news : List Value) (hx : a.eval x = .slice (some ad) m c) (hl : news.length = m * size) (hnews : ∀ j u, news[j]? = some u → w.cell? (ad.add j) = some u) (h1 : ∀ u ∈ news, u.oneCell' = true)
    (h63 : n + m ≤ maxLen) (hbytes : (n + m) * bytes ≤ 140737488355328) (hbase : base ≤ w.heap.size)
    (h : ∀ v' w', w'.ownsRow base e size v' (n + m) (xs ++ news) → w.grownBy w' v.ownBlock → (v'.ownBlock = v.ownBlock ∨ ∀ k, v'.ownBlock = some k → w.heap.size ≤ k) → K (a.put o.dst v') w') : o.wp P a w K Q := by
  obtain ⟨v', w', hr, h2, h3, h4⟩ := run_append_new (P := P) w base t o.type e i z size bytes ht hi hz hsize hby hzs hsz v n xs hown ad m c news hl hnews h1 h63 hbytes hbase
  unfold Oper.wp execOp
  simp only [ho, resolve, invoke, builtin, Sem.run_bind, Sem.run_pure, Result.andThen_ok, List.map_toArray, List.map_cons, List.map_nil, hs, hx, hr]
  exact h v' w' h2 h3 h4
end
end Go.Proofs.YtkhdjmjbdpmdnaaGreatDoor
namespace Go.Proofs.YtkhdjmjbdpmdnaaGreatDoor
open Go.RowKit

theorem IsRd.within {w w' : World} {B g : Nat} {l : List (Int × ByteArray)} {b : Bool} (h : IsRd w B g l b) (hz : w.heap.size ≤ w'.heap.size) (hs : ∀ k, B ≤ k → k ≤ g → w'.heap[k]? = w.heap[k]?) : IsRd w' B g l b := by
  obtain ⟨a, c, hg, hc, ht, h1, hne⟩ := h
  refine ⟨a, c, by rw [hs g h1 (Nat.le_refl _)]; exact hg, hc, ?_, h1, hne⟩
  rcases ht with h | ⟨g2, o, rfl, hg2, hcs⟩
  · exact .inl h
  · have hlt := hne _ rfl
    have e := hs g2 hlt.1 (Nat.le_of_lt hlt.2)
    have ec : ∀ o, w'.cell? ⟨g2, o, none⟩ = w.cell? ⟨g2, o, none⟩ := fun o => by unfold World.cell?; simp only [e]
    refine .inr ⟨g2, o, rfl, Nat.lt_of_lt_of_le hg2 hz, fun i p hp => ?_⟩
    rw [ec, ec]
    exact hcs i p hp
theorem OwnS.off' {w w' : World} {B q : Nat} {v : Value} {l : List ByteArray} (h : OwnS w B v l) (hq : v.ownBlock ≠ some q) (hs : ∀ k, k < w.heap.size → k ≠ q → w'.heap[k]? = w.heap[k]?) : OwnS w' B v l := by
  refine ⟨h.1, ?_⟩
  rcases h.2 with h | ⟨g, cap, cur, e, h1, h2, h3⟩
  · exact .inl h
  · exact .inr ⟨g, cap, cur, e, h1, by rw [hs g (heap_lt h2) (fun e' => hq (by rw [e, ← e']; rfl))]; exact h2, h3⟩
/-- A reader that is open: its block, its things, its word; the names do not lie among its blocks. -/
def RdOk (W : World) (A : Nat) (v : Value) (q : Nat × List (Int × ByteArray) × Bool) : Prop := ∃ B, A ≤ B ∧ IsRd W B q.1 q.2.1 q.2.2 ∧ ∀ g, v.ownBlock = some g → g < B ∨ q.1 < g
def Rds (W : World) (A : Nat) (v : Value) : List (Nat × List (Int × ByteArray) × Bool) → Prop
  | [] => True
  | q :: S => RdOk W A v q ∧ (∀ p ∈ S, p.1 < q.1) ∧ Rds W A v S
theorem RdOk.ge {W : World} {A : Nat} {v : Value} {q : Nat × List (Int × ByteArray) × Bool} (h : RdOk W A v q) : A ≤ q.1 ∧ q.1 < W.heap.size := by
  obtain ⟨B, h1, h2, _⟩ := h
  have := h2.ge
  omega
theorem RdOk.at {W : World} {A : Nat} {v : Value} {q : Nat × List (Int × ByteArray) × Bool} (h : RdOk W A v q) : ∃ a c, W.heap[q.1]? = some (.cells [Value.slice a q.2.1.length c, .bool q.2.2].toArray 114 (0, 0)) ∧ q.2.1.length ≤ c ∧ True := by
  obtain ⟨B, _, ⟨a, c, h1, h2, _⟩, _⟩ := h
  exact ⟨a, c, h1, h2, trivial⟩
theorem RdOk.far {W W' : World} {A : Nat} {v : Value} {q : Nat × List (Int × ByteArray) × Bool} (h : RdOk W A v q) (hb : Below (q.1 + 1) W W') : RdOk W' A v q := by
  obtain ⟨B, h1, h2, h3⟩ := h
  exact ⟨B, h1, h2.far hb, h3⟩
theorem RdOk.put {W : World} {A p o : Nat} {v : Value} {q : Nat × List (Int × ByteArray) × Bool} (h : RdOk W A v q) (hp : p < A) (u : Value) : RdOk (W.setCell ⟨p, o, none⟩ u) A v q := by
  obtain ⟨B, h1, h2, h3⟩ := h
  exact ⟨B, h1, h2.put (by omega) u, h3⟩
theorem RdOk.grown {W W' : World} {A : Nat} {v v' : Value} {q : Nat × List (Int × ByteArray) × Bool} (h : RdOk W A v q) (hg : W.grownBy W' v.ownBlock) (hv : v'.ownBlock = v.ownBlock ∨ ∀ k, v'.ownBlock = some k → W.heap.size ≤ k) : RdOk W' A v' q := by
  obtain ⟨B, h1, h2, h3⟩ := h
  have hq := h2.ge.2
  refine ⟨B, h1, h2.within hg.size fun k hk1 hk2 => hg.block k (by omega) fun e => ?_, fun g hgv => ?_⟩
  · have := h3 k e.symm
    omega
  · rcases hv with e | e
    · exact h3 g (e ▸ hgv)
    · exact .inr (Nat.lt_of_lt_of_le hq (e g hgv))
theorem Rds.ge {W : World} {A : Nat} {v : Value} : ∀ {S : List (Nat × List (Int × ByteArray) × Bool)}, Rds W A v S → ∀ p ∈ S, A ≤ p.1 ∧ p.1 < W.heap.size
  | [], _, p, hp => by cases hp
  | _ :: _, h, p, hp => by
    rcases List.mem_cons.1 hp with rfl | hp
    · exact h.1.ge
    · exact Rds.ge h.2.2 p hp
theorem Rds.imp {W W' : World} {A : Nat} {v v' : Value} : ∀ {S : List (Nat × List (Int × ByteArray) × Bool)}, Rds W A v S → (∀ q ∈ S, RdOk W A v q → RdOk W' A v' q) → Rds W' A v' S
  | [], _, _ => trivial
  | q :: _, h, hi => ⟨hi q (List.mem_cons_self ..) h.1, h.2.1, Rds.imp h.2.2 fun p hp => hi p (List.mem_cons_of_mem _ hp)⟩

def zCert : List Value := [.int .i64 0, .string ⟨#[]⟩, .string ⟨#[]⟩, .int .i64 0, .int .i64 0, .int .i64 0, .slice none 0 0, .bool false, .int .i64 0, .int .i64 0, .int .i64 0]
structure Stk (w W : World) (cs : List Value) (v : Value) (ns : List ByteArray) (S : List (Nat × List (Int × ByteArray) × Bool)) : Prop where
  c : W.heap[w.heap.size + 1]? = some (.cells cs.toArray 27 (0, 0))
  r : W.heap[w.heap.size]? = some (.cells zCert.toArray 27 (0, 0))
  b : Below w.heap.size w W
  rd : Rds W (w.heap.size + 2) v S
  o : OwnS W (w.heap.size + 2) v ns
section
variable {w W W' : World} {cs : List Value} {v : Value} {ns : List ByteArray} {S : List (Nat × List (Int × ByteArray) × Bool)} {x y : Nat} {l l' : List (Int × ByteArray)} {b b' : Bool}
theorem Stk.size (h : Stk w W cs v ns S) : w.heap.size + 2 ≤ W.heap.size := by
  have := heap_lt h.c
  omega
theorem Stk.top (h : Stk w W cs v ns ((x, l, b) :: S)) : ∃ B, IsRd W B x l b := by
  obtain ⟨B, _, h2, _⟩ := h.rd.1
  exact ⟨B, h2⟩
theorem Stk.pop {q : Nat × List (Int × ByteArray) × Bool} (h : Stk w W cs v ns (q :: S)) : Stk w W cs v ns S := ⟨h.c, h.r, h.b, h.rd.2.2, h.o⟩
theorem Stk.drop2 {q p : Nat × List (Int × ByteArray) × Bool} (h : Stk w W cs v ns (q :: p :: S)) : Stk w W cs v ns (q :: S) := ⟨h.c, h.r, h.b, ⟨h.rd.1, fun z hz => h.rd.2.1 z (List.mem_cons_of_mem _ hz), h.rd.2.2.2.2⟩, h.o⟩
theorem Stk.drop1 {q : Nat × List (Int × ByteArray) × Bool} (h : Stk w W cs v ns (q :: S)) : Stk w W cs v ns S := h.pop
theorem Stk.put (h : Stk w W cs v ns S) (k : Nat) (u : Value) : Stk w (W.setCell ⟨w.heap.size + 1, k, none⟩ u) (cs.set k u) v ns S := by
  refine ⟨rowSet _ h.c, ?_, h.b.setCell (by simp) _, h.rd.imp fun q _ hq => hq.put (by omega) u, h.o.same fun k hk _ => heap_setCell_other W _ _ _ (by show _ ≠ w.heap.size + 1; omega)⟩
  rw [heap_setCell_other W _ _ _ (by show w.heap.size ≠ w.heap.size + 1; omega)]
  exact h.r
theorem Stk.keep (h : Stk w W cs v ns S) (hb : Below W.heap.size W W') : Stk w W' cs v ns S := by
  have hz := h.size
  refine ⟨by rw [hb.block _ (by omega)]; exact h.c, by rw [hb.block _ (by omega)]; exact h.r, h.b.trans (hb.mono (by omega)), h.rd.imp fun q _ hq => hq.far (hb.mono hq.ge.2), h.o.keep hb⟩
theorem Stk.step (h : Stk w W cs v ns ((x, l, b) :: S)) {B : Nat} (hB : w.heap.size + 2 ≤ B) (hv : ∀ g, v.ownBlock = some g → g < B ∨ x < g) (hr : IsRd W' B x l' b') (hk : ∀ k, k < W.heap.size → k ≠ x → W'.heap[k]? = W.heap[k]?) (hb : ∀ A, A ≤ x → Below A W W') : Stk w W' cs v ns ((x, l', b') :: S) := by
  have hz := h.size
  have hx := h.rd.1.ge
  simp only at hx
  refine ⟨by rw [hk _ (by omega) (by omega)]; exact h.c, by rw [hk _ (by omega) (by omega)]; exact h.r, h.b.trans (hb _ (by omega)), ⟨⟨B, hB, hr, hv⟩, h.rd.2.1, h.rd.2.2.imp fun q hq hr => hr.far (hb _ (h.rd.2.1 q hq))⟩, ?_⟩
  have hg := hr.ge
  exact h.o.off' (q := x) (fun e => by have := hv x e; omega) hk
theorem Stk.push (h : Stk w W cs v ns S) {B : Nat} (hB : w.heap.size + 2 ≤ B) (hy : ∀ p ∈ S, p.1 < B) (hv : ∀ g, v.ownBlock = some g → g < B) (hr : IsRd W B y l b) : Stk w W cs v ns ((y, l, b) :: S) :=
  ⟨h.c, h.r, h.b, ⟨⟨B, hB, hr, fun g hg => .inl (hv g hg)⟩, fun p hp => Nat.lt_of_lt_of_le (hy p hp) hr.ge.1, h.rd⟩, h.o⟩
theorem Stk.own (h : Stk w W cs v ns S) : ∀ g, v.ownBlock = some g → g < W.heap.size := fun _ hg => (h.o.ge hg).2
/-- The names grow. -/
theorem Stk.grow (h : Stk w W cs v ns S) {v' : Value} {ns' : List ByteArray} (hg : W.grownBy W' v.ownBlock) (hv : v'.ownBlock = v.ownBlock ∨ ∀ k, v'.ownBlock = some k → W.heap.size ≤ k) (ho : OwnS W' (w.heap.size + 2) v' ns') : Stk w W' cs v' ns' S := by
  have hz := h.size
  have hn : ∀ k, k < w.heap.size + 2 → W'.heap[k]? = W.heap[k]? := fun k hk => hg.block k (by omega) fun e => by have := h.o.ge e.symm; omega
  exact ⟨by rw [hn _ (by omega)]; exact h.c, by rw [hn _ (by omega)]; exact h.r, h.b.grown hg (by omega) (fun k hk => by have := h.o.ge hk; omega), h.rd.imp fun q _ hq => hq.grown hg hv, ho⟩

theorem Stk.drew (h : Stk w W cs v ns S) : Stk w W.drew cs v ns S := h.keep (Below.refl _ _).drew
theorem stkTake (h : Stk w W cs v ns ((x, l, b) :: S)) (t : Int) :
    Calls Tryz.prog 109 #[.pointer (some ⟨x, 0, none⟩), .int .i64 t] W fun e W' => e = .returned (.string (takeR l b t).1) ∧ Stk w W' cs v ns ((x, (takeR l b t).2.1, (takeR l b t).2.2) :: S) := by
  obtain ⟨B, h1, h2, h3⟩ := h.rd.1
  exact (rdTake B x l b t W h2).mono fun e W' ⟨e1, r, k, bb⟩ => ⟨e1, h.step h1 h3 r k bb⟩
theorem stkNum (h : Stk w W cs v ns ((x, l, b) :: S)) (hl : ∀ p ∈ l, p.2.size ≤ 4000) :
    Calls Tryz.prog 107 #[.pointer (some ⟨x, 0, none⟩)] W fun e W' => e = .returned (.int .i64 (numR l b).1) ∧ Stk w W' cs v ns ((x, (numR l b).2.1, (numR l b).2.2) :: S) := by
  obtain ⟨B, h1, h2, h3⟩ := h.rd.1
  exact (rdNum B x l b W h2 hl).mono fun e W' ⟨e1, r, k, bb⟩ => ⟨e1, h.step h1 h3 r k bb⟩
theorem stkName (h : Stk w W cs v ns ((x, l, b) :: S)) (hl : ∀ p ∈ l, p.2.size ≤ 4000) :
    Calls Tryz.prog 106 #[.pointer (some ⟨x, 0, none⟩)] W fun e W' => e = .returned (.string (nameR l b).1) ∧ Stk w W' cs v ns ((x, (nameR l b).2.1, (nameR l b).2.2) :: S) := by
  obtain ⟨B, h1, h2, h3⟩ := h.rd.1
  exact (rdName B x l b W h2 hl).mono fun e W' ⟨e1, r, k, bb⟩ => ⟨e1, h.step h1 h3 r k bb⟩
theorem stkIn (h : Stk w W cs v ns ((x, l, b) :: S)) (t : Int) (hl : ∀ p ∈ l, p.2.size ≤ 4000) :
    Calls Tryz.prog 105 #[.pointer (some ⟨x, 0, none⟩), .int .i64 t] W fun e W' => ∃ y, e = .returned (.pointer (some ⟨y, 0, none⟩)) ∧ Stk w W' cs v ns ((y, (inR l b t).1.1, (inR l b t).1.2) :: (x, (inR l b t).2.1, (inR l b t).2.2) :: S) := by
  obtain ⟨B, h1, h2, h3⟩ := h.rd.1
  have hz := h.size
  exact (rdIn B x l b t W h2 hl).mono fun e W' ⟨y, e1, hy, ry, r, k, bb⟩ => ⟨y, e1, (h.step h1 h3 r k bb).push hz (fun p hp => by
    rcases List.mem_cons.1 hp with rfl | hp
    · exact h.rd.1.ge.2
    · exact (h.rd.2.2.ge p hp).2) h.own ry⟩
theorem stkBits (h : Stk w W cs v ns S) (s : ByteArray) (n : Nat) (hs : s.size ≤ 20000) (hn : n ≤ 3) (h0 : 0 < n) :
    Calls Tryz.prog 108 #[.string s, .int .i64 n] W fun e W' => ∃ g c, e = .returned (.slice (some ⟨g, 0, none⟩) n c) ∧ n ≤ c ∧ w.heap.size + 2 ≤ g ∧ (∀ i z, (bitsQ s n 1)[i]? = some z → W'.cell? ⟨g, i, none⟩ = some (.int .i64 z)) ∧ Stk w W' cs v ns S := by
  have hz := h.size
  refine (specBits s n W hs hn).mono fun e W' ⟨u, e1, o, bb⟩ => ?_
  have hl : (bitsQ s n 1).length = n := by
    clear h hz o bb e1
    suffices ∀ (n : Nat) (a : Int), (bitsQ s n a).length = n from this n 1
    intro n
    induction n with
    | zero => intro a; rfl
    | succ n ih => intro a; rw [bitsQ, List.length_cons, ih]
  obtain ⟨g, c, rfl, hg, hc, hcs⟩ := OwnL.at o (by omega)
  rw [hl] at hc e1
  exact ⟨g, c, e1, hc, by omega, hcs, h.keep bb⟩
end
end Go.Proofs.YtkhdjmjbdpmdnaaGreatDoor
namespace Go.Proofs.YtkhdjmjbdpmdnaaGreatDoor
open Go.RowKit

def sumT (l : List (Int × ByteArray)) : Nat := (l.map fun p => p.2.size).sum
def sumS (l : List ByteArray) : Nat := (l.map fun p => p.size).sum
theorem sumT_snoc (l : List (Int × ByteArray)) (p : Int × ByteArray) : sumT (l ++ [p]) = sumT l + p.2.size := by simp [sumT]
theorem sumS_app (l m : List ByteArray) : sumS (l ++ m) = sumS l + sumS m := by simp [sumS]
theorem totS_take (l : List ByteArray) : ∀ k, k ≤ l.length → totS l k = sumS (l.take k)
  | 0, _ => by simp [totS, sumS]
  | k + 1, hk => by
    rw [totS, totS_take l k (by omega), List.take_add_one, sumS_app, List.getElem?_eq_getElem (by omega)]
    congr 1
    unfold tAt
    rw [List.getD_eq_getElem?_getD, List.getElem?_eq_getElem (by omega)]
    simp [sumS]
theorem totS_all (l : List ByteArray) : totS l l.length = sumS l := by rw [totS_take l _ (Nat.le_refl _), List.take_length]
theorem getAt_room {s : ByteArray} {k : Nat} (h : (getAt s k).code = 0) : k + (getAt s k).body.size ≤ (getAt s k).at'.toNat ∧ (getAt s k).at'.toNat ≤ s.size := by
  obtain ⟨n, _, h2, _, e, _⟩ := getAt_form h
  rw [e]
  simp only [ByteArray.size_extract, Int.toNat_natCast]
  omega
theorem allR_sum (s : ByteArray) : ∀ (f k : Nat) (acc : List (Int × ByteArray)), sumT acc ≤ k → k ≤ s.size → sumT (allR s f k acc).1 ≤ s.size
  | 0, _, acc, h, h' => Nat.le_trans h h'
  | f + 1, k, acc, h, h' => by
    rw [allR]
    split
    · exact Nat.le_trans h h'
    · split
      · simp [sumT]
      · rename_i hc
        split
        · simp [sumT]
        · have hr := getAt_room (Decidable.not_not.1 hc)
          refine allR_sum s f _ _ ?_ hr.2
          rw [sumT_snoc]
          show sumT acc + (getAt s k).body.size ≤ _
          omega
theorem allD_sum (s : ByteArray) : sumT (allD s).1 ≤ s.size := by
  unfold allD
  split
  · simp [sumT]
  · exact allR_sum s _ _ _ (by simp [sumT]) (Nat.zero_le _)
theorem hostsR_sum : ∀ (l : List (Int × ByteArray)) (b : Bool), sumS (hostsR l b) ≤ sumT l
  | [], _ => Nat.le_refl _
  | p :: r, b => by
    have ih := hostsR_sum r false
    have e : sumT (p :: r) = p.2.size + sumT r := by simp [sumT]
    rw [hostsR, e]
    split
    · exact Nat.zero_le _
    · split
      · have e2 : sumS (p.2 :: hostsR r false) = p.2.size + sumS (hostsR r false) := by simp [sumS]
        omega
      · have e2 : sumS [(⟨#[]⟩ : ByteArray)] = 0 := rfl
        omega
theorem partS_fit (m : List ByteArray × Bool) (l : List (Int × ByteArray)) (bad : Bool) : (partS m l bad).1.length ≤ m.1.length + 60 ∧ sumS (partS m l bad).1 ≤ sumS m.1 + 4000 := by
  unfold partS
  simp only
  split
  · generalize (takeR (takeR l bad 6).2.1 (takeR l bad 6).2.2 4).2.2 = b1
    obtain ⟨x, hx, y, c, e⟩ : ∃ x : ByteArray, x.size ≤ 4000 ∧ ∃ b c, (inR (inR (takeR l bad 6).2.1 (takeR l bad 6).2.2 4).1.1 (inR (takeR l bad 6).2.1 (takeR l bad 6).2.2 4).1.2 48).1 = ((allD x).1, b) ∧ c = b :=
      ⟨_, takeR_sz (allD_4000 _), _, _, rfl, rfl⟩
    rw [e.1]
    have h1 := hostsR_len (allD x).1 y
    have h2 := hostsR_sum (allD x).1 y
    have h3 := allD_len x
    have h4 := allD_sum x
    simp only [List.length_append, sumS_app]
    omega
  · simp only
    omega
theorem moreS_fit : ∀ (l : List (Int × ByteArray)) (bad : Bool) (m : List ByteArray × Bool), (moreS l bad m).1.length ≤ m.1.length + 60 * l.length ∧ sumS (moreS l bad m).1 ≤ sumS m.1 + 4000 * l.length
  | [], _, m => ⟨Nat.le_refl _, Nat.le_refl _⟩
  | p :: r, bad, m => by
    have h1 := partS_fit m (openR p.2).1 (openR p.2).2
    have h2 := moreS_fit r false (partS m (openR p.2).1 (openR p.2).2)
    rw [moreS, List.length_cons]
    split
    · omega
    · split
      · omega
      · simp only
        omega
theorem tailS_fit (l : List (Int × ByteArray)) (bad : Bool) : (tailS l bad).1.length ≤ 3600 ∧ sumS (tailS l bad).1 ≤ 240000 := by
  unfold tailS
  split
  · simp only
    obtain ⟨x, y, e⟩ : ∃ x b, (inR (inR l bad 163).1.1 (inR l bad 163).1.2 48).1 = ((allD x).1, b) := ⟨_, _, rfl⟩
    rw [e]
    have h1 := moreS_fit (allD x).1 y ([], false)
    have h2 := allD_len x
    have e1 : ([] : List ByteArray).length = 0 := rfl
    have e2 : sumS [] = 0 := rfl
    rw [e1, e2] at h1
    show (moreS (allD x).1 y ([], false)).1.length ≤ _ ∧ sumS (moreS (allD x).1 y ([], false)).1 ≤ _
    omega
  · exact ⟨Nat.zero_le _, Nat.zero_le _⟩
theorem certSP_fit (s : ByteArray) : (certSP s).names.length ≤ 1048576 ∧ totS (certSP s).names (certSP s).names.length ≤ 1048576 := by
  obtain ⟨l, b, e⟩ : ∃ l b, (certSP s).names = (tailS l b).1 := ⟨_, _, rfl⟩
  rw [totS_all, e]
  have h := tailS_fit l b
  omega
end Go.Proofs.YtkhdjmjbdpmdnaaGreatDoor
