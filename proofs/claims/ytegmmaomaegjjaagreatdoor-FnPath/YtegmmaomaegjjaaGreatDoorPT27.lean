/- spec.l08In, spec.PathCheck, walked. One of a paper's names: plain mathematics; slices.Index, slices.Contains, walked. impl.PathName, walked. -/
import Derived.Test.YtegmmaomaegjjaaGreatDoorPT18
import Derived.Test.YtegmmaomaegjjaaGreatDoorPT25
import Derived.Test.YtegmmaomaegjjaaGreatDoorPT26
import Derived.Test.YtegmmaomaegjjaaGreatDoorPT07
import Derived.Deep.Cut
import Derived.Test.YtegmmaomaegjjaaGreatDoorPT24
namespace Go.Proofs.YtegmmaomaegjjaaGreatDoor
open Go.RowKit

set_option linter.unusedSimpArgs false in
set_option maxHeartbeats 1000000 in
set_option maxRecDepth 100000 in
theorem specIn (n : Int) (a : Option Addr) (zs : List Int) (c : Nat) (w : World) (hl : zs.length ≤ 1048576) (ha : IsInts w a zs) :
    Calls Tryz.prog 39 #[.slice a zs.length c, .int .i64 n] w fun e w' => e = .returned (.bool (hasB zs n)) ∧ Below w.heap.size w w' := by
  go_enter Tryz.func39, Tryz.ntmps39
  go_wp2
  go_loopw [5] (fun i wr => ∃ k : Nat, k ≤ zs.length ∧ i = .int .i64 k ∧ hasTo zs n k = false ∧ wr = w) (fun i _ => zs.length - (intOf i).toNat)
  case atStart => exact ⟨0, Nat.zero_le _, rfl, rfl, rfl⟩
  case round =>
    obtain ⟨k, hk, rfl, hok, rfl⟩ := hrel
    have HOk : Hid (hasTo zs n k = false) := hok
    clear hok
    by_cases hlt : k < zs.length
    · obtain ⟨x, o, rfl, hc⟩ : ∃ x o, a = some ⟨x, o, none⟩ ∧ ∀ i, i < zs.length → wr.cell? ⟨x, o + i, none⟩ = some (.int .i64 (zs.getD i 0)) := by
        rcases ha with rfl | h
        · simp at hlt
        · exact h
      have hck := hc k hlt
      have a0 : (0 : Int) ≤ (k : Int) := by omega
      have b0 : (k : Int) < (zs.length : Int) := by omega
      by_cases he : zs.getD k 0 = n
      · have HF : Hid (hasB zs n = true) := hasTo_yes he hlt
        rw [he] at hck
        generalize zs.length = m at *
        clear hc ha he
        go_wp2
        go_ret
        exact ⟨by rw [HF.out]; rfl, Below.refl _ _⟩
      · have HF : Hid (hasTo zs n (k + 1) = false) := hasTo_more HOk.out he
        generalize zs.getD k 0 = z at *
        generalize zs.length = m at *
        clear hc ha
        go_wp2
        go_roundw
        case rel => exact ⟨k + 1, by omega, by go_num, HF.out, by first | rfl | trivial⟩
        case measure => simp [intOf]; omega
    · obtain rfl : k = zs.length := by omega
      have HF : Hid (hasB zs n = false) := HOk.out
      clear ha
      go_wp2
      go_ret
      exact ⟨by rw [HF.out]; rfl, Below.refl _ _⟩
set_option linter.unusedSimpArgs false in
set_option maxHeartbeats 4000000 in
set_option maxRecDepth 100000 in
theorem specPath (r c : Paper) (l : Lst) (t : Int) (ra ca la : Option Addr) (rc cc lc : Nat) (w : World) (hr : PIn r) (hc : PIn c) (hl : LIn l) (hra : IsStrs w ra r.names) (hca : IsStrs w ca c.names) (hla : IsInts w la l.serials) :
    Calls Tryz.prog 6 #[r.val (.slice ra r.names.length rc), c.val (.slice ca c.names.length cc), l.val (.slice la l.serials.length lc), .int .i64 t] w fun e w' => e = .returned (.int .i64 (pathC r c l t)) ∧ Below w.heap.size w w' := by
  have HRi : Hid (∀ V, Below w.heap.size w V → IsStrs V ra r.names ∧ IsStrs V ca c.names ∧ IsInts V la l.serials) := fun V hV => ⟨hra.keep hV, hca.keep hV, hla.keep hV⟩
  have C1 : Hid (∀ V, Below w.heap.size w V → Calls Tryz.prog 32 #[r.val (.slice ra r.names.length rc)] V fun e W => e = .returned (.bool (certB r)) ∧ Below V.heap.size V W) := fun V hV => specCert r ra rc V hr.1 hr.2.1 hr.2.2.1 hr.2.2.2 (HRi.out V hV).1
  have C2 : Hid (∀ V, Below w.heap.size w V → Calls Tryz.prog 32 #[c.val (.slice ca c.names.length cc)] V fun e W => e = .returned (.bool (certB c)) ∧ Below V.heap.size V W) := fun V hV => specCert c ca cc V hc.1 hc.2.1 hc.2.2.1 hc.2.2.2 (HRi.out V hV).2.1
  have C3 : Hid (∀ V, Below w.heap.size w V → Calls Tryz.prog 33 #[l.val (.slice la l.serials.length lc)] V fun e W => e = .returned (.bool (listB l)) ∧ Below V.heap.size V W) := fun V hV => specList l la lc V hl.1 hl.2 (HRi.out V hV).2.2
  have C4 : Hid (∀ V, Below w.heap.size w V → Calls Tryz.prog 34 #[.agg #[.int .i64 l.sk, .int .i64 l.se, .int .i64 l.ss]] V fun e W => e = .returned (.bool (sigRB l.sk l.se l.ss)) ∧ Below V.heap.size V W) := fun V _ => specSigRight l.sk l.se l.ss V
  have C5 : Hid (∀ V, Calls Tryz.prog 35 #[.int .i64 t] V fun e W => e = .returned (.bool (timeB t)) ∧ W = V) := fun V => specTime t V
  have C6 : Hid (∀ V, Below w.heap.size w V → Calls Tryz.prog 36 #[.int .i64 r.key, r.val (.slice ra r.names.length rc)] V fun e W => e = .returned (.bool (goodB r.key r)) ∧ Below V.heap.size V W) := fun V hV => specGood r.key r ra rc V hr.1 hr.2.1 hr.2.2.1 hr.2.2.2 (HRi.out V hV).1
  have C8 : Hid (∀ V, Below w.heap.size w V → Calls Tryz.prog 36 #[.int .i64 r.key, c.val (.slice ca c.names.length cc)] V fun e W => e = .returned (.bool (goodB r.key c)) ∧ Below V.heap.size V W) := fun V hV => specGood r.key c ca cc V hc.1 hc.2.1 hc.2.2.1 hc.2.2.2 (HRi.out V hV).2.1
  have C9 : Hid (∀ V, Calls Tryz.prog 37 #[.int .i64 t, .int .i64 r.fr, .int .i64 r.till] V fun e W => e = .returned (.bool (withinB t r.fr r.till)) ∧ W = V) := fun V => specIs t _ _ V
  have C10 : Hid (∀ V, Calls Tryz.prog 37 #[.int .i64 t, .int .i64 c.fr, .int .i64 c.till] V fun e W => e = .returned (.bool (withinB t c.fr c.till)) ∧ W = V) := fun V => specIs t _ _ V
  have C12 : Hid (∀ V, Below w.heap.size w V → Calls Tryz.prog 38 #[.int .i64 r.key, l.val (.slice la l.serials.length lc)] V fun e W => e = .returned (.bool (crlGoodB r.key l)) ∧ Below V.heap.size V W) := fun V hV => specCrlGood r.key l la lc V hl.1 hl.2 (HRi.out V hV).2.2
  have C13 : Hid (∀ V, Calls Tryz.prog 37 #[.int .i64 t, .int .i64 l.fr, .int .i64 l.till] V fun e W => e = .returned (.bool (withinB t l.fr l.till)) ∧ W = V) := fun V => specIs t _ _ V
  have C14 : Hid (∀ V, Below w.heap.size w V → Calls Tryz.prog 39 #[.slice la l.serials.length lc, .int .i64 c.serial] V fun e W => e = .returned (.bool (hasB l.serials c.serial)) ∧ Below V.heap.size V W) := fun V hV => specIn _ la l.serials lc V hl.2 (HRi.out V hV).2.2
  have HV : Hid (pathC r c l t = if (certB r && certB c && (listB l && sigRB l.sk l.se l.ss) && timeB t) = true then if (r.ca && goodB r.key r && (c.issuer.toList == r.subject.toList)) = true then if goodB r.key c = true then if (withinB t r.fr r.till && withinB t c.fr c.till) = true then if ((l.issuer.toList == r.subject.toList) && crlGoodB r.key l && withinB t l.fr l.till) = true then if hasB l.serials c.serial = true then 14 else 0 else 8 else 12 else 6 else 13 else 1) := rfl
  clear hr hc hl hra hca hla HRi
  generalize pathC r c l t = R at *
  generalize certB r = X1 at *
  generalize certB c = X2 at *
  generalize listB l = X3 at *
  generalize sigRB l.sk l.se l.ss = X3b at *
  generalize timeB t = X4 at *
  generalize goodB r.key r = X6 at *
  generalize goodB r.key c = X8 at *
  generalize withinB t r.fr r.till = X9 at *
  generalize withinB t c.fr c.till = X10 at *
  generalize crlGoodB r.key l = X12 at *
  generalize withinB t l.fr l.till = X13 at *
  generalize hasB l.serials c.serial = X14 at *
  obtain ⟨rser, riss, rsub, rfr, rtill, rkey, rnames, rca, rsk, rse, rss⟩ := r
  obtain ⟨cser, ciss, csub, cfr, ctill, ckey, cnames, cca, csk, cse, css⟩ := c
  obtain ⟨liss, lfr, ltill, lserials, lsk, lse, lss⟩ := l
  unfold Paper.val at *
  unfold Lst.val at *
  simp only at C1 C2 C3 C4 C6 C8 C9 C10 C12 C13 C14 HV ⊢
  generalize rnames.length = rn at *
  generalize cnames.length = cn at *
  generalize lserials.length = ln at *
  obtain ⟨w1, hw1⟩ : ∃ w1, w1 = ((w.alloc (.cells #[.int .i64 rser, .string riss, .string rsub, .int .i64 rfr, .int .i64 rtill, .int .i64 rkey, .slice ra rn rc, .bool rca, .int .i64 rsk, .int .i64 rse, .int .i64 rss] 27 (0, 0))).alloc (.cells #[.int .i64 cser, .string ciss, .string csub, .int .i64 cfr, .int .i64 ctill, .int .i64 ckey, .slice ca cn cc, .bool cca, .int .i64 csk, .int .i64 cse, .int .i64 css] 27 (0, 0))).alloc (.cells #[.string liss, .int .i64 lfr, .int .i64 ltill, .slice la ln lc, .int .i64 lsk, .int .i64 lse, .int .i64 lss] 30 (0, 0)) := ⟨_, rfl⟩
  have q0 : w1.heap[w.heap.size]? = some (.cells [Value.int .i64 rser, .string riss, .string rsub, .int .i64 rfr, .int .i64 rtill, .int .i64 rkey, .slice ra rn rc, .bool rca, .int .i64 rsk, .int .i64 rse, .int .i64 rss].toArray 27 (0, 0)) := by rw [hw1, Below.heap_alloc _ _ _ (by simp; omega), Below.heap_alloc _ _ _ (by simp)]; exact heap_alloc_new w _
  have q1 : w1.heap[w.heap.size + 1]? = some (.cells [Value.int .i64 cser, .string ciss, .string csub, .int .i64 cfr, .int .i64 ctill, .int .i64 ckey, .slice ca cn cc, .bool cca, .int .i64 csk, .int .i64 cse, .int .i64 css].toArray 27 (0, 0)) := by rw [hw1, Below.heap_alloc _ _ _ (by simp)]; exact heap_alloc2 w _ _
  have q2 : w1.heap[w.heap.size + 1 + 1]? = some (.cells [Value.string liss, .int .i64 lfr, .int .i64 ltill, .slice la ln lc, .int .i64 lsk, .int .i64 lse, .int .i64 lss].toArray 30 (0, 0)) := by rw [hw1]; have := heap_alloc_new ((w.alloc (.cells #[.int .i64 rser, .string riss, .string rsub, .int .i64 rfr, .int .i64 rtill, .int .i64 rkey, .slice ra rn rc, .bool rca, .int .i64 rsk, .int .i64 rse, .int .i64 rss] 27 (0, 0))).alloc (.cells #[.int .i64 cser, .string ciss, .string csub, .int .i64 cfr, .int .i64 ctill, .int .i64 ckey, .slice ca cn cc, .bool cca, .int .i64 csk, .int .i64 cse, .int .i64 css] 27 (0, 0))) (.cells #[.string liss, .int .i64 lfr, .int .i64 ltill, .slice la ln lc, .int .i64 lsk, .int .i64 lse, .int .i64 lss] 30 (0, 0)); simpa using this
  have P1 : Hid (Below w.heap.size w w1) := by rw [hw1]; exact (((Below.refl _ _).alloc (Nat.le_refl _) _).alloc (by simp) _).alloc (by simp; omega) _
  have HB : Hid (∀ V, Below w1.heap.size w1 V → Below w.heap.size w V) := fun V hV => P1.out.trans (hV.mono P1.out.size)
  have I1 : Hid (Below w1.heap.size w1 w1) := Below.refl _ _
  have KR : Hid (∀ V, Hid (Below w1.heap.size w1 V) → V.cell? ⟨w.heap.size, 0, none⟩ = some (.int .i64 rser) ∧ V.cell? ⟨w.heap.size, 1, none⟩ = some (.string riss) ∧ V.cell? ⟨w.heap.size, 2, none⟩ = some (.string rsub) ∧ V.cell? ⟨w.heap.size, 3, none⟩ = some (.int .i64 rfr) ∧ V.cell? ⟨w.heap.size, 4, none⟩ = some (.int .i64 rtill) ∧ V.cell? ⟨w.heap.size, 5, none⟩ = some (.int .i64 rkey) ∧ V.cell? ⟨w.heap.size, 6, none⟩ = some (.slice ra rn rc) ∧ V.cell? ⟨w.heap.size, 7, none⟩ = some (.bool rca) ∧ V.cell? ⟨w.heap.size, 8, none⟩ = some (.int .i64 rsk) ∧ V.cell? ⟨w.heap.size, 9, none⟩ = some (.int .i64 rse) ∧ V.cell? ⟨w.heap.size, 10, none⟩ = some (.int .i64 rss)) := fun V hV => by
    have hP := (hV.out.block _ (heap_lt q0)).trans q0
    exact ⟨rowFacts hP 0 _ rfl, rowFacts hP 1 _ rfl, rowFacts hP 2 _ rfl, rowFacts hP 3 _ rfl, rowFacts hP 4 _ rfl, rowFacts hP 5 _ rfl, rowFacts hP 6 _ rfl, rowFacts hP 7 _ rfl, rowFacts hP 8 _ rfl, rowFacts hP 9 _ rfl, rowFacts hP 10 _ rfl⟩
  have KC : Hid (∀ V, Hid (Below w1.heap.size w1 V) → V.cell? ⟨w.heap.size + 1, 0, none⟩ = some (.int .i64 cser) ∧ V.cell? ⟨w.heap.size + 1, 1, none⟩ = some (.string ciss) ∧ V.cell? ⟨w.heap.size + 1, 2, none⟩ = some (.string csub) ∧ V.cell? ⟨w.heap.size + 1, 3, none⟩ = some (.int .i64 cfr) ∧ V.cell? ⟨w.heap.size + 1, 4, none⟩ = some (.int .i64 ctill) ∧ V.cell? ⟨w.heap.size + 1, 5, none⟩ = some (.int .i64 ckey) ∧ V.cell? ⟨w.heap.size + 1, 6, none⟩ = some (.slice ca cn cc) ∧ V.cell? ⟨w.heap.size + 1, 7, none⟩ = some (.bool cca) ∧ V.cell? ⟨w.heap.size + 1, 8, none⟩ = some (.int .i64 csk) ∧ V.cell? ⟨w.heap.size + 1, 9, none⟩ = some (.int .i64 cse) ∧ V.cell? ⟨w.heap.size + 1, 10, none⟩ = some (.int .i64 css)) := fun V hV => by
    have hP := (hV.out.block _ (heap_lt q1)).trans q1
    exact ⟨rowFacts hP 0 _ rfl, rowFacts hP 1 _ rfl, rowFacts hP 2 _ rfl, rowFacts hP 3 _ rfl, rowFacts hP 4 _ rfl, rowFacts hP 5 _ rfl, rowFacts hP 6 _ rfl, rowFacts hP 7 _ rfl, rowFacts hP 8 _ rfl, rowFacts hP 9 _ rfl, rowFacts hP 10 _ rfl⟩
  have KL : Hid (∀ V, Hid (Below w1.heap.size w1 V) → V.cell? ⟨w.heap.size + 1 + 1, 0, none⟩ = some (.string liss) ∧ V.cell? ⟨w.heap.size + 1 + 1, 1, none⟩ = some (.int .i64 lfr) ∧ V.cell? ⟨w.heap.size + 1 + 1, 2, none⟩ = some (.int .i64 ltill) ∧ V.cell? ⟨w.heap.size + 1 + 1, 3, none⟩ = some (.slice la ln lc) ∧ V.cell? ⟨w.heap.size + 1 + 1, 4, none⟩ = some (.int .i64 lsk) ∧ V.cell? ⟨w.heap.size + 1 + 1, 5, none⟩ = some (.int .i64 lse) ∧ V.cell? ⟨w.heap.size + 1 + 1, 6, none⟩ = some (.int .i64 lss)) := fun V hV => by
    have hP := (hV.out.block _ (heap_lt q2)).trans q2
    exact ⟨rowFacts hP 0 _ rfl, rowFacts hP 1 _ rfl, rowFacts hP 2 _ rfl, rowFacts hP 3 _ rfl, rowFacts hP 4 _ rfl, rowFacts hP 5 _ rfl, rowFacts hP 6 _ rfl⟩
  clear q0 q1 q2
  go_enter Tryz.func6, Tryz.ntmps6
  go_upto_region 1 with fail
  rw [← hw1]
  clear hw1
  obtain ⟨x0, x1, x2, x3, x4, x5, x6, x7, x8, x9, x10⟩ := KR.out _ I1
  go_wp2_with fail
  refine (C1.out _ (HB.out _ I1.out)).mono ?_
  rintro e v1 ⟨rfl, k1⟩
  have K1 : Hid (Below w1.heap.size w1 v1) := I1.out.trans (k1.mono I1.out.size)
  clear k1 C1
  clear x0 x1 x2 x3 x4 x5 x6 x7 x8 x9 x10
  cases X1 with
  | false =>
    have HF : Hid (R = 1) := by show _ = _; rw [HV.out]; simp
    go_wp2
    go_ret
    exact ⟨by rw [HF.out]; rfl, HB.out _ K1.out⟩
  | true =>
  obtain ⟨y0, y1, y2, y3, y4, y5, y6, y7, y8, y9, y10⟩ := KC.out _ K1
  go_wp2_with fail
  refine (C2.out _ (HB.out _ K1.out)).mono ?_
  rintro e v2 ⟨rfl, k2⟩
  have K2 : Hid (Below w1.heap.size w1 v2) := K1.out.trans (k2.mono K1.out.size)
  clear k2 C2
  clear y0 y1 y2 y3 y4 y5 y6 y7 y8 y9 y10
  cases X2 with
  | false =>
    have HF : Hid (R = 1) := by show _ = _; rw [HV.out]; simp
    go_wp2
    go_ret
    exact ⟨by rw [HF.out]; rfl, HB.out _ K2.out⟩
  | true =>
  obtain ⟨z0, z1, z2, z3, z4, z5, z6⟩ := KL.out _ K2
  go_wp2_with fail
  refine (C3.out _ (HB.out _ K2.out)).mono ?_
  rintro e v3 ⟨rfl, k3⟩
  have K3 : Hid (Below w1.heap.size w1 v3) := K2.out.trans (k3.mono K2.out.size)
  clear k3 C3
  clear z0 z1 z2 z3 z4 z5 z6
  cases X3 with
  | false =>
    have HF : Hid (R = 1) := by show _ = _; rw [HV.out]; simp
    go_wp2
    go_ret
    exact ⟨by rw [HF.out]; rfl, HB.out _ K3.out⟩
  | true =>
  obtain ⟨z0, z1, z2, z3, z4, z5, z6⟩ := KL.out _ K3
  go_wp2_with fail
  refine (C4.out _ (HB.out _ K3.out)).mono ?_
  rintro e v4 ⟨rfl, k4⟩
  have K4 : Hid (Below w1.heap.size w1 v4) := K3.out.trans (k4.mono K3.out.size)
  clear k4 C4
  clear z0 z1 z2 z3 z4 z5 z6
  cases X3b with
  | false =>
    have HF : Hid (R = 1) := by show _ = _; rw [HV.out]; simp
    go_wp2
    go_ret
    exact ⟨by rw [HF.out]; rfl, HB.out _ K4.out⟩
  | true =>
  go_wp2_with fail
  refine (C5.out _).mono ?_
  rintro e _ ⟨rfl, rfl⟩
  clear C5
  cases X4 with
  | false =>
    have HF : Hid (R = 1) := by show _ = _; rw [HV.out]; simp
    go_wp2
    go_ret
    exact ⟨by rw [HF.out]; rfl, HB.out _ K4.out⟩
  | true =>
  obtain ⟨x0, x1, x2, x3, x4, x5, x6, x7, x8, x9, x10⟩ := KR.out _ K4
  cases rca with
  | false =>
    have HF : Hid (R = 13) := by show _ = _; rw [HV.out]; simp
    go_wp2
    go_ret
    exact ⟨by rw [HF.out]; rfl, HB.out _ K4.out⟩
  | true =>
  clear x0 x1 x2 x3 x4 x5 x6 x7 x8 x9 x10
  obtain ⟨x0, x1, x2, x3, x4, x5, x6, x7, x8, x9, x10⟩ := KR.out _ K4
  go_wp2_with fail
  refine (C6.out _ (HB.out _ K4.out)).mono ?_
  rintro e v6 ⟨rfl, k6⟩
  have K6 : Hid (Below w1.heap.size w1 v6) := K4.out.trans (k6.mono K4.out.size)
  clear k6 C6
  clear x0 x1 x2 x3 x4 x5 x6 x7 x8 x9 x10
  cases X6 with
  | false =>
    have HF : Hid (R = 13) := by show _ = _; rw [HV.out]; simp
    go_wp2
    go_ret
    exact ⟨by rw [HF.out]; rfl, HB.out _ K6.out⟩
  | true =>
  obtain ⟨x0, x1, x2, x3, x4, x5, x6, x7, x8, x9, x10⟩ := KR.out _ K6
  obtain ⟨y0, y1, y2, y3, y4, y5, y6, y7, y8, y9, y10⟩ := KC.out _ K6
  by_cases hi : (ciss.toList == rsub.toList) = true
  rotate_left
  · have hi1 : (ciss.toList == rsub.toList) = false := by simpa using hi
    have hi2 : (ciss.toList != rsub.toList) = true := by rw [bne, hi1]; rfl
    rw [hi1] at HV
    have HF : Hid (R = 13) := by show _ = _; rw [HV.out]; simp
    go_wp2
    go_ret
    exact ⟨by rw [HF.out]; rfl, HB.out _ K6.out⟩
  have hi2 : (ciss.toList != rsub.toList) = false := by rw [bne, hi]; rfl
  rw [hi] at HV
  go_wp2_with fail
  refine (C8.out _ (HB.out _ K6.out)).mono ?_
  rintro e v7 ⟨rfl, k7⟩
  have K7 : Hid (Below w1.heap.size w1 v7) := K6.out.trans (k7.mono K6.out.size)
  clear k7 C8
  clear x0 x1 x2 x3 x4 x5 x6 x7 x8 x9 x10 y0 y1 y2 y3 y4 y5 y6 y7 y8 y9 y10
  clear hi hi2
  cases X8 with
  | false =>
    have HF : Hid (R = 6) := by show _ = _; rw [HV.out]; simp
    go_wp2
    go_ret
    exact ⟨by rw [HF.out]; rfl, HB.out _ K7.out⟩
  | true =>
  obtain ⟨x0, x1, x2, x3, x4, x5, x6, x7, x8, x9, x10⟩ := KR.out _ K7
  go_wp2_with fail
  refine (C9.out _).mono ?_
  rintro e _ ⟨rfl, rfl⟩
  clear C9
  clear x0 x1 x2 x3 x4 x5 x6 x7 x8 x9 x10
  cases X9 with
  | false =>
    have HF : Hid (R = 12) := by show _ = _; rw [HV.out]; simp
    go_wp2
    go_ret
    exact ⟨by rw [HF.out]; rfl, HB.out _ K7.out⟩
  | true =>
  obtain ⟨y0, y1, y2, y3, y4, y5, y6, y7, y8, y9, y10⟩ := KC.out _ K7
  go_wp2_with fail
  refine (C10.out _).mono ?_
  rintro e _ ⟨rfl, rfl⟩
  clear C10
  clear y0 y1 y2 y3 y4 y5 y6 y7 y8 y9 y10
  cases X10 with
  | false =>
    have HF : Hid (R = 12) := by show _ = _; rw [HV.out]; simp
    go_wp2
    go_ret
    exact ⟨by rw [HF.out]; rfl, HB.out _ K7.out⟩
  | true =>
  obtain ⟨x0, x1, x2, x3, x4, x5, x6, x7, x8, x9, x10⟩ := KR.out _ K7
  obtain ⟨z0, z1, z2, z3, z4, z5, z6⟩ := KL.out _ K7
  by_cases hj : (liss.toList == rsub.toList) = true
  rotate_left
  · have hi1 : (liss.toList == rsub.toList) = false := by simpa using hj
    have hi2 : (liss.toList != rsub.toList) = true := by rw [bne, hi1]; rfl
    rw [hi1] at HV
    have HF : Hid (R = 8) := by show _ = _; rw [HV.out]; simp
    go_wp2
    go_ret
    exact ⟨by rw [HF.out]; rfl, HB.out _ K7.out⟩
  have hj2 : (liss.toList != rsub.toList) = false := by rw [bne, hj]; rfl
  rw [hj] at HV
  go_wp2_with fail
  refine (C12.out _ (HB.out _ K7.out)).mono ?_
  rintro e v10 ⟨rfl, k10⟩
  have K10 : Hid (Below w1.heap.size w1 v10) := K7.out.trans (k10.mono K7.out.size)
  clear k10 C12
  clear x0 x1 x2 x3 x4 x5 x6 x7 x8 x9 x10 z0 z1 z2 z3 z4 z5 z6
  clear hj hj2
  cases X12 with
  | false =>
    have HF : Hid (R = 8) := by show _ = _; rw [HV.out]; simp
    go_wp2
    go_ret
    exact ⟨by rw [HF.out]; rfl, HB.out _ K10.out⟩
  | true =>
  obtain ⟨z0, z1, z2, z3, z4, z5, z6⟩ := KL.out _ K10
  go_wp2_with fail
  refine (C13.out _).mono ?_
  rintro e _ ⟨rfl, rfl⟩
  clear C13
  clear z0 z1 z2 z3 z4 z5 z6
  cases X13 with
  | false =>
    have HF : Hid (R = 8) := by show _ = _; rw [HV.out]; simp
    go_wp2
    go_ret
    exact ⟨by rw [HF.out]; rfl, HB.out _ K10.out⟩
  | true =>
  obtain ⟨y0, y1, y2, y3, y4, y5, y6, y7, y8, y9, y10⟩ := KC.out _ K10
  obtain ⟨z0, z1, z2, z3, z4, z5, z6⟩ := KL.out _ K10
  go_wp2_with fail
  refine (C14.out _ (HB.out _ K10.out)).mono ?_
  rintro e v12 ⟨rfl, k12⟩
  have K12 : Hid (Below w1.heap.size w1 v12) := K10.out.trans (k12.mono K10.out.size)
  clear k12 C14
  clear y0 y1 y2 y3 y4 y5 y6 y7 y8 y9 y10 z0 z1 z2 z3 z4 z5 z6
  cases X14 with
  | false =>
    have HF : Hid (R = 0) := by show _ = _; rw [HV.out]; simp
    go_wp2
    go_ret
    exact ⟨by rw [HF.out]; rfl, HB.out _ K12.out⟩
  | true =>
    have HF : Hid (R = 14) := by show _ = _; rw [HV.out]; simp
    go_wp2
    go_ret
    exact ⟨by rw [HF.out]; rfl, HB.out _ K12.out⟩
end Go.Proofs.YtegmmaomaegjjaaGreatDoor
namespace Go.Proofs.YtegmmaomaegjjaaGreatDoor
open Go.RowKit

theorem textTo_yes {ss : List ByteArray} {n : ByteArray} {k : Nat} (h : ((tAt ss k).toList == n.toList) = true) : ∀ {m : Nat}, k < m → textTo ss n m = true := by
  intro m
  induction m with
  | zero => intro h'; omega
  | succ m ih =>
    intro h'
    show (textTo ss n m || ((tAt ss m).toList == n.toList)) = true
    by_cases e : k = m
    · subst e; rw [h, Bool.or_true]
    · rw [ih (by omega)]; rfl
theorem textTo_more {ss : List ByteArray} {n : ByteArray} {k : Nat} (h : textTo ss n k = false) (h' : ((tAt ss k).toList == n.toList) = false) : textTo ss n (k + 1) = false := by
  show (textTo ss n k || ((tAt ss k).toList == n.toList)) = false
  rw [h, h']; rfl
theorem textTo_none {ss : List ByteArray} {n : ByteArray} : ∀ {m : Nat}, (∀ i, i < m → (tAt ss i).size < n.size) → textTo ss n m = false
  | 0, _ => rfl
  | m + 1, h => by
    refine textTo_more (textTo_none fun i hi => h i (by omega)) ?_
    rw [beq_eq_false_iff_ne]
    intro e
    have h1 := h m (by omega)
    have h2 := congrArg List.length e
    simp only [ByteArray.toList_eq, Array.length_toList] at h2
    have h3 : (tAt ss m).size = n.size := h2
    omega
theorem pathN_long {r c : Paper} {l : Lst} {t : Int} {n : ByteArray} (h : 20000 < n.size) : pathN r c l t n = false := by
  unfold pathN
  by_cases h0 : pathC r c l t = 0
  · have hf : formP r c l t = true := by
      by_cases hf : formP r c l t = true
      · exact hf
      · unfold pathC at h0
        rw [if_neg hf] at h0
        omega
    have hc : certB c = true := by
      unfold formP at hf
      simp only [Bool.and_eq_true] at hf
      exact hf.1.1.2
    have hp := paper_fits (certB_paper hc)
    rw [textTo_none (fun i hi => by have := hp.each i hi; omega), Bool.and_false]
  · rw [decide_eq_false h0]; rfl
set_option linter.unusedSimpArgs false in
set_option maxHeartbeats 1000000 in
set_option maxRecDepth 100000 in
theorem sliceIndex (n : ByteArray) (a : Option Addr) (ss : List ByteArray) (c : Nat) (w : World) (hl : ss.length ≤ 1048576) (ha : IsStrs w a ss) :
    Calls Tryz.prog 64 #[.slice a ss.length c, .string n] w fun e w' => ∃ z : Int, e = .returned (.int .i64 z) ∧ decide (0 ≤ z) = textTo ss n ss.length ∧ w' = w := by
  obtain ⟨T, hT⟩ : ∃ T, T = textTo ss n ss.length := ⟨_, rfl⟩
  rw [← hT]
  have HT : Hid (T = textTo ss n ss.length) := hT
  clear hT
  go_enter Tryz.func64, Tryz.ntmps64
  go_wp2
  go_loopw [8] (fun i wr => ∃ k : Nat, k ≤ ss.length ∧ i = .int .i64 k ∧ textTo ss n k = false ∧ wr = w) (fun i _ => ss.length - (intOf i).toNat)
  case atStart => exact ⟨0, Nat.zero_le _, rfl, rfl, rfl⟩
  case round =>
    obtain ⟨k, hk, rfl, hok, rfl⟩ := hrel
    have HOk : Hid (textTo ss n k = false) := hok
    clear hok
    by_cases hlt : k < ss.length
    · obtain ⟨x, o, rfl, hc⟩ : ∃ x o, a = some ⟨x, o, none⟩ ∧ ∀ i, i < ss.length → wr.cell? ⟨x, o + i, none⟩ = some (.string (tAt ss i)) := by
        rcases ha with rfl | h
        · simp at hlt
        · exact h
      have hck := hc k hlt
      have a0 : (0 : Int) ≤ (k : Int) := by omega
      have b0 : (k : Int) < (ss.length : Int) := by omega
      by_cases he : ((tAt ss k).toList == n.toList) = true
      · have HF : Hid (T = true) := by show _ = _; rw [HT.out]; exact textTo_yes he hlt
        have he2 : (n.toList == (tAt ss k).toList) = true := by rw [beq_iff_eq] at he ⊢; exact he.symm
        generalize tAt ss k = t at *
        clear HT
        generalize ss.length = m at *
        clear hc ha he
        go_wp2
        try rw [Exit.noGoto_ret]
        go_ret
        exact ⟨_, rfl, by rw [HF.out]; simp, rfl⟩
      · have he1 : ((tAt ss k).toList == n.toList) = false := by simpa using he
        have he2 : (n.toList == (tAt ss k).toList) = false := by rw [beq_eq_false_iff_ne] at he1 ⊢; exact fun h => he1 h.symm
        have HF : Hid (textTo ss n (k + 1) = false) := textTo_more HOk.out he1
        generalize tAt ss k = t at *
        generalize ss.length = m at *
        clear hc ha he he1
        go_wp2
        go_roundw
        case rel => exact ⟨k + 1, by omega, by go_num, HF.out, by first | rfl | trivial⟩
        case measure => simp [intOf]; omega
    · obtain rfl : k = ss.length := by omega
      have HF : Hid (T = false) := by show _ = _; rw [HT.out]; exact HOk.out
      clear ha
      go_wp2
      try rw [Exit.noGoto_ret]
      go_ret
      exact ⟨_, rfl, by rw [HF.out]; simp, rfl⟩
set_option linter.unusedSimpArgs false in
set_option maxHeartbeats 1000000 in
set_option maxRecDepth 100000 in
theorem sliceHas (n : ByteArray) (a : Option Addr) (ss : List ByteArray) (c : Nat) (w : World) (hl : ss.length ≤ 1048576) (ha : IsStrs w a ss) :
    Calls Tryz.prog 41 #[.slice a ss.length c, .string n] w fun e w' => e = .returned (.bool (textTo ss n ss.length)) ∧ w' = w := by
  have HI : Hid (Calls Tryz.prog 64 #[.slice a ss.length c, .string n] w fun e w' => ∃ z : Int, e = .returned (.int .i64 z) ∧ decide (0 ≤ z) = textTo ss n ss.length ∧ w' = w) := sliceIndex n a ss c w hl ha
  generalize textTo ss n ss.length = T at *
  generalize ss.length = m at *
  clear ha hl
  go_enter Tryz.func41, Tryz.ntmps41
  go_wp2_with fail
  refine HI.out.mono ?_
  rintro e _ ⟨z, rfl, hz, rfl⟩
  have HZ : Hid (decide (0 ≤ z) = T) := hz
  clear hz
  go_wp2
  go_ret
  exact ⟨by rw [← HZ.out]; rfl, rfl⟩
end Go.Proofs.YtegmmaomaegjjaaGreatDoor
namespace Go.Proofs.YtegmmaomaegjjaaGreatDoor
open Go.RowKit

set_option linter.unusedSimpArgs false in
set_option maxHeartbeats 4000000 in
set_option maxRecDepth 100000 in
theorem implPathN (r c : Paper) (l : Lst) (t : Int) (name : ByteArray) (ra ca la : Option Addr) (rc cc lc : Nat) (w : World) (hr : PIn r) (hc : PIn c) (hl : LIn l) (hra : IsStrs w ra r.names) (hca : IsStrs w ca c.names) (hla : IsInts w la l.serials) (hk : Keys w) (hE : Err3 w) (_ : name.size ≤ maxLen) :
    Calls Tryz.prog 8 #[r.val (.slice ra r.names.length rc), c.val (.slice ca c.names.length cc), l.val (.slice la l.serials.length lc), .int .i64 t, .string name] w fun e w' => e = .returned (.bool (pathN r c l t name)) ∧ Below w.heap.size w w' := by
  have hkp := hk.pos
  have HP : Hid (∀ V, Below w.heap.size w V → Calls Tryz.prog 5 #[r.val (.slice ra r.names.length rc), c.val (.slice ca c.names.length cc), l.val (.slice la l.serials.length lc), .int .i64 t] V fun e W => e = .returned (.int .i64 (pathC r c l t)) ∧ Below V.heap.size V W) := fun V hV => implPath r c l t ra ca la rc cc lc V hr hc hl (hra.keep hV) (hca.keep hV) (hla.keep hV) (hk.below hV hkp) (hE.keep hV)
  have HH : Hid (∀ V, Below w.heap.size w V → Calls Tryz.prog 41 #[.slice ca c.names.length cc, .string name] V fun e W => e = .returned (.bool (textTo c.names name c.names.length)) ∧ W = V) := fun V hV => sliceHas name ca c.names cc V (by have := hc.2.2.1; omega) (hca.keep hV)
  have HV : Hid (pathN r c l t name = (decide (pathC r c l t = 0) && textTo c.names name c.names.length)) := rfl
  clear hr hc hl hra hca hla hk hkp hE
  generalize pathN r c l t name = R at *
  generalize pathC r c l t = X at *
  generalize textTo c.names name c.names.length = Y at *
  obtain ⟨rser, riss, rsub, rfr, rtill, rkey, rnames, rca, rsk, rse, rss⟩ := r
  obtain ⟨cser, ciss, csub, cfr, ctill, ckey, cnames, cca, csk, cse, css⟩ := c
  obtain ⟨liss, lfr, ltill, lserials, lsk, lse, lss⟩ := l
  unfold Paper.val at *
  unfold Lst.val at *
  simp only at HP HH ⊢
  generalize rnames.length = rn at *
  generalize cnames.length = cn at *
  generalize lserials.length = ln at *
  obtain ⟨w1, hw1⟩ : ∃ w1, w1 = ((w.alloc (.cells #[.int .i64 rser, .string riss, .string rsub, .int .i64 rfr, .int .i64 rtill, .int .i64 rkey, .slice ra rn rc, .bool rca, .int .i64 rsk, .int .i64 rse, .int .i64 rss] 27 (0, 0))).alloc (.cells #[.int .i64 cser, .string ciss, .string csub, .int .i64 cfr, .int .i64 ctill, .int .i64 ckey, .slice ca cn cc, .bool cca, .int .i64 csk, .int .i64 cse, .int .i64 css] 27 (0, 0))).alloc (.cells #[.string liss, .int .i64 lfr, .int .i64 ltill, .slice la ln lc, .int .i64 lsk, .int .i64 lse, .int .i64 lss] 30 (0, 0)) := ⟨_, rfl⟩
  have q0 : w1.heap[w.heap.size]? = some (.cells [Value.int .i64 rser, .string riss, .string rsub, .int .i64 rfr, .int .i64 rtill, .int .i64 rkey, .slice ra rn rc, .bool rca, .int .i64 rsk, .int .i64 rse, .int .i64 rss].toArray 27 (0, 0)) := by rw [hw1, Below.heap_alloc _ _ _ (by simp; omega), Below.heap_alloc _ _ _ (by simp)]; exact heap_alloc_new w _
  have q1 : w1.heap[w.heap.size + 1]? = some (.cells [Value.int .i64 cser, .string ciss, .string csub, .int .i64 cfr, .int .i64 ctill, .int .i64 ckey, .slice ca cn cc, .bool cca, .int .i64 csk, .int .i64 cse, .int .i64 css].toArray 27 (0, 0)) := by rw [hw1, Below.heap_alloc _ _ _ (by simp)]; exact heap_alloc2 w _ _
  have q2 : w1.heap[w.heap.size + 1 + 1]? = some (.cells [Value.string liss, .int .i64 lfr, .int .i64 ltill, .slice la ln lc, .int .i64 lsk, .int .i64 lse, .int .i64 lss].toArray 30 (0, 0)) := by rw [hw1]; have := heap_alloc_new ((w.alloc (.cells #[.int .i64 rser, .string riss, .string rsub, .int .i64 rfr, .int .i64 rtill, .int .i64 rkey, .slice ra rn rc, .bool rca, .int .i64 rsk, .int .i64 rse, .int .i64 rss] 27 (0, 0))).alloc (.cells #[.int .i64 cser, .string ciss, .string csub, .int .i64 cfr, .int .i64 ctill, .int .i64 ckey, .slice ca cn cc, .bool cca, .int .i64 csk, .int .i64 cse, .int .i64 css] 27 (0, 0))) (.cells #[.string liss, .int .i64 lfr, .int .i64 ltill, .slice la ln lc, .int .i64 lsk, .int .i64 lse, .int .i64 lss] 30 (0, 0)); simpa using this
  have P1 : Hid (Below w.heap.size w w1) := by rw [hw1]; exact (((Below.refl _ _).alloc (Nat.le_refl _) _).alloc (by simp) _).alloc (by simp; omega) _
  have HB : Hid (∀ V, Below w1.heap.size w1 V → Below w.heap.size w V) := fun V hV => P1.out.trans (hV.mono P1.out.size)
  have I1 : Hid (Below w1.heap.size w1 w1) := Below.refl _ _
  have KR : Hid (∀ V, Hid (Below w1.heap.size w1 V) → V.cell? ⟨w.heap.size, 0, none⟩ = some (.int .i64 rser) ∧ V.cell? ⟨w.heap.size, 1, none⟩ = some (.string riss) ∧ V.cell? ⟨w.heap.size, 2, none⟩ = some (.string rsub) ∧ V.cell? ⟨w.heap.size, 3, none⟩ = some (.int .i64 rfr) ∧ V.cell? ⟨w.heap.size, 4, none⟩ = some (.int .i64 rtill) ∧ V.cell? ⟨w.heap.size, 5, none⟩ = some (.int .i64 rkey) ∧ V.cell? ⟨w.heap.size, 6, none⟩ = some (.slice ra rn rc) ∧ V.cell? ⟨w.heap.size, 7, none⟩ = some (.bool rca) ∧ V.cell? ⟨w.heap.size, 8, none⟩ = some (.int .i64 rsk) ∧ V.cell? ⟨w.heap.size, 9, none⟩ = some (.int .i64 rse) ∧ V.cell? ⟨w.heap.size, 10, none⟩ = some (.int .i64 rss)) := fun V hV => by
    have hP := (hV.out.block _ (heap_lt q0)).trans q0
    exact ⟨rowFacts hP 0 _ rfl, rowFacts hP 1 _ rfl, rowFacts hP 2 _ rfl, rowFacts hP 3 _ rfl, rowFacts hP 4 _ rfl, rowFacts hP 5 _ rfl, rowFacts hP 6 _ rfl, rowFacts hP 7 _ rfl, rowFacts hP 8 _ rfl, rowFacts hP 9 _ rfl, rowFacts hP 10 _ rfl⟩
  have KC : Hid (∀ V, Hid (Below w1.heap.size w1 V) → V.cell? ⟨w.heap.size + 1, 0, none⟩ = some (.int .i64 cser) ∧ V.cell? ⟨w.heap.size + 1, 1, none⟩ = some (.string ciss) ∧ V.cell? ⟨w.heap.size + 1, 2, none⟩ = some (.string csub) ∧ V.cell? ⟨w.heap.size + 1, 3, none⟩ = some (.int .i64 cfr) ∧ V.cell? ⟨w.heap.size + 1, 4, none⟩ = some (.int .i64 ctill) ∧ V.cell? ⟨w.heap.size + 1, 5, none⟩ = some (.int .i64 ckey) ∧ V.cell? ⟨w.heap.size + 1, 6, none⟩ = some (.slice ca cn cc) ∧ V.cell? ⟨w.heap.size + 1, 7, none⟩ = some (.bool cca) ∧ V.cell? ⟨w.heap.size + 1, 8, none⟩ = some (.int .i64 csk) ∧ V.cell? ⟨w.heap.size + 1, 9, none⟩ = some (.int .i64 cse) ∧ V.cell? ⟨w.heap.size + 1, 10, none⟩ = some (.int .i64 css)) := fun V hV => by
    have hP := (hV.out.block _ (heap_lt q1)).trans q1
    exact ⟨rowFacts hP 0 _ rfl, rowFacts hP 1 _ rfl, rowFacts hP 2 _ rfl, rowFacts hP 3 _ rfl, rowFacts hP 4 _ rfl, rowFacts hP 5 _ rfl, rowFacts hP 6 _ rfl, rowFacts hP 7 _ rfl, rowFacts hP 8 _ rfl, rowFacts hP 9 _ rfl, rowFacts hP 10 _ rfl⟩
  have KL : Hid (∀ V, Hid (Below w1.heap.size w1 V) → V.cell? ⟨w.heap.size + 1 + 1, 0, none⟩ = some (.string liss) ∧ V.cell? ⟨w.heap.size + 1 + 1, 1, none⟩ = some (.int .i64 lfr) ∧ V.cell? ⟨w.heap.size + 1 + 1, 2, none⟩ = some (.int .i64 ltill) ∧ V.cell? ⟨w.heap.size + 1 + 1, 3, none⟩ = some (.slice la ln lc) ∧ V.cell? ⟨w.heap.size + 1 + 1, 4, none⟩ = some (.int .i64 lsk) ∧ V.cell? ⟨w.heap.size + 1 + 1, 5, none⟩ = some (.int .i64 lse) ∧ V.cell? ⟨w.heap.size + 1 + 1, 6, none⟩ = some (.int .i64 lss)) := fun V hV => by
    have hP := (hV.out.block _ (heap_lt q2)).trans q2
    exact ⟨rowFacts hP 0 _ rfl, rowFacts hP 1 _ rfl, rowFacts hP 2 _ rfl, rowFacts hP 3 _ rfl, rowFacts hP 4 _ rfl, rowFacts hP 5 _ rfl, rowFacts hP 6 _ rfl⟩
  clear q0 q1 q2
  go_enter Tryz.func8, Tryz.ntmps8
  go_upto_region 1 with fail
  rw [← hw1]
  clear hw1
  obtain ⟨x0, x1, x2, x3, x4, x5, x6, x7, x8, x9, x10⟩ := KR.out _ I1
  obtain ⟨y0, y1, y2, y3, y4, y5, y6, y7, y8, y9, y10⟩ := KC.out _ I1
  obtain ⟨z0, z1, z2, z3, z4, z5, z6⟩ := KL.out _ I1
  go_wp2_with fail
  refine (HP.out _ (HB.out _ I1.out)).mono ?_
  rintro e v1 ⟨rfl, k1⟩
  have K1 : Hid (Below w1.heap.size w1 v1) := I1.out.trans (k1.mono I1.out.size)
  clear k1 x0 x1 x2 x3 x4 x5 x6 x7 x8 x9 x10 y0 y1 y2 y3 y4 y5 y6 y7 y8 y9 y10 z0 z1 z2 z3 z4 z5 z6
  by_cases h0 : X = 0
  rotate_left
  · have HF : Hid (R = false) := by show _ = _; rw [HV.out, decide_eq_false h0]; rfl
    have hx : (X == 0) = false := by simpa using h0
    go_wp2
    go_ret
    exact ⟨by rw [HF.out]; rfl, HB.out _ K1.out⟩
  subst h0
  have HF : Hid (R = Y) := by show _ = _; rw [HV.out]; simp
  obtain ⟨y0, y1, y2, y3, y4, y5, y6, y7, y8, y9, y10⟩ := KC.out _ K1
  go_wp2_with fail
  refine (HH.out _ (HB.out _ K1.out)).mono ?_
  rintro e _ ⟨rfl, rfl⟩
  go_wp2
  go_ret
  exact ⟨by rw [HF.out]; rfl, HB.out _ K1.out⟩
end Go.Proofs.YtegmmaomaegjjaaGreatDoor
