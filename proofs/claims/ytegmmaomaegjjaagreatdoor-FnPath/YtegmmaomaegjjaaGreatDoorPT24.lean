/- The method signedWith of impl.signedBox over impl.Crl, walked. What impl.crlBody hands back, in words. The errors of what is signed. impl.CrlGood, walked. impl.PathCheck, walked. spec.l04In, spec.SigRight, walked. spec.l06Right, spec.CertRight, walked. -/
import Derived.Test.YtegmmaomaegjjaaGreatDoorPT23
import Derived.Test.YtegmmaomaegjjaaGreatDoorPT09
import Derived.Test.YtegmmaomaegjjaaGreatDoorPT04
import Derived.Test.YtegmmaomaegjjaaGreatDoorPT06
import Derived.Test.YtegmmaomaegjjaaGreatDoorPT22
import Derived.Deep.Cut
import Derived.Test.YtegmmaomaegjjaaGreatDoorPT12
import Derived.Test.YtegmmaomaegjjaaGreatDoorPT18
import Derived.Test.YtegmmaomaegjjaaGreatDoorPT07
import Derived.Test.YtegmmaomaegjjaaGreatDoorPT03
import Derived.Test.YtegmmaomaegjjaaGreatDoorPT02
namespace Go.Proofs.YtegmmaomaegjjaaGreatDoor
open Go.RowKit

set_option linter.unusedSimpArgs false in
set_option maxHeartbeats 4000000 in
set_option maxRecDepth 100000 in
theorem signedWithCrl (c : Lst) (v nv : Value) (D : ByteArray) (key' : Int) (E E0 E2 : Value) (tE : TypeId) (pE : Value) (qE : E = .iface tE pE) (w : World) (hD : D.size ≤ 20000) (hw : Keys w) (hE : w.cell? ⟨0, 0, none⟩ = some E) (hE0 : w.cell? ⟨2, 0, none⟩ = some E0) (hE2 : w.cell? ⟨1, 0, none⟩ = some E2) :
    Calls Tryz.prog 59 #[c.box v D nv, .int .i64 key'] w fun r w' => r = .returned (if (decide (D.size ≠ 0) && sigRB c.sk c.se c.ss) = true then (if c.sk = key' then (if sigCB c.sk c.se c.ss D = true then .nilIface else E0) else E2) else E) ∧ Below w.heap.size w w' := by
  have HRt : Hid (∀ V, V.cell? ⟨0, 0, none⟩ = some E → Calls Tryz.prog 26 #[c.box v D nv] V fun e w' => e = .returned (if (decide (D.size ≠ 0) && sigRB c.sk c.se c.ss) = true then .nilIface else E) ∧ Below V.heap.size V w') := fun V hV => rightCrl c v nv D E V hV
  have hEl := World.block_lt_of_cell? w _ hE
  have hEl0 := World.block_lt_of_cell? w _ hE0
  have hEl2 := World.block_lt_of_cell? w _ hE2
  have hkp := hw.pos
  have HKy : Hid (∀ V, Below w.heap.size w V → Keys V) := fun V hV => hw.below hV hkp
  have HE : Hid (∀ V, Below w.heap.size w V → V.cell? ⟨0, 0, none⟩ = some E ∧ V.cell? ⟨2, 0, none⟩ = some E0 ∧ V.cell? ⟨1, 0, none⟩ = some E2) := fun V hV => ⟨by rw [hV.cell hEl]; exact hE, by rw [hV.cell hEl0]; exact hE0, by rw [hV.cell hEl2]; exact hE2⟩
  have HCk : Hid (∀ V, Keys V → Calls Tryz.prog 58 #[.agg #[.int .i64 c.sk, .int .i64 c.se, .int .i64 c.ss], .string D] V fun r w' => r = .returned (.bool (sigCB c.sk c.se c.ss D)) ∧ Below V.heap.size V w') := fun V hV => implSigCheck c.sk c.se c.ss D V (by unfold maxLen; omega) hV
  obtain ⟨P, hP⟩ : ∃ P, P = (decide (D.size ≠ 0) && sigRB c.sk c.se c.ss) := ⟨_, rfl⟩
  rw [← hP] at HRt ⊢
  obtain ⟨Q, hQ⟩ : ∃ Q, Q = sigCB c.sk c.se c.ss D := ⟨_, rfl⟩
  rw [← hQ] at HCk ⊢
  obtain ⟨R, hR⟩ : ∃ R : Value, R = if P = true then (if c.sk = key' then (if Q = true then .nilIface else E0) else E2) else E := ⟨_, rfl⟩
  rw [← hR]
  have HR : Hid (R = if P = true then (if c.sk = key' then (if Q = true then .nilIface else E0) else E2) else E) := hR
  clear hP hQ hE hE0 hE2 hEl hEl0 hEl2 hw hkp hR
  obtain ⟨iss, fr, till, serials, sk, se, ss⟩ := c
  unfold Lst.box at *
  simp only at HRt HCk HR ⊢
  obtain ⟨w1, hw1⟩ : ∃ w1, w1 = w.alloc (.cells #[.string iss, .int .i64 fr, .int .i64 till, v, .int .i64 sk, .int .i64 se, .int .i64 ss, .string D, .int .i64 sk, .int .i64 se, .int .i64 ss, nv] 54 (0, 0)) := ⟨_, rfl⟩
  have r0 : w1.heap[w.heap.size]? = some (.cells [Value.string iss, .int .i64 fr, .int .i64 till, v, .int .i64 sk, .int .i64 se, .int .i64 ss, .string D, .int .i64 sk, .int .i64 se, .int .i64 ss, nv].toArray 54 (0, 0)) := by rw [hw1]; exact heap_alloc_new w _
  have B1 : Hid (Below w.heap.size w w1) := by rw [hw1]; exact (Below.refl _ _).alloc (Nat.le_refl _) _
  have z1 : w.heap.size < w1.heap.size := by rw [hw1]; simp
  have HK : Hid (∀ V, Below w1.heap.size w1 V → V.cell? ⟨w.heap.size, 0, none⟩ = some (.string iss) ∧ V.cell? ⟨w.heap.size, 1, none⟩ = some (.int .i64 fr) ∧ V.cell? ⟨w.heap.size, 2, none⟩ = some (.int .i64 till) ∧ V.cell? ⟨w.heap.size, 3, none⟩ = some (v) ∧ V.cell? ⟨w.heap.size, 4, none⟩ = some (.int .i64 sk) ∧ V.cell? ⟨w.heap.size, 5, none⟩ = some (.int .i64 se) ∧ V.cell? ⟨w.heap.size, 6, none⟩ = some (.int .i64 ss) ∧ V.cell? ⟨w.heap.size, 7, none⟩ = some (.string D) ∧ V.cell? ⟨w.heap.size, 8, none⟩ = some (.int .i64 sk) ∧ V.cell? ⟨w.heap.size, 9, none⟩ = some (.int .i64 se) ∧ V.cell? ⟨w.heap.size, 10, none⟩ = some (.int .i64 ss) ∧ V.cell? ⟨w.heap.size, 11, none⟩ = some (nv)) := fun V hV => by
    have hP := (hV.block _ z1).trans r0
    exact ⟨rowFacts hP 0 _ rfl, rowFacts hP 1 _ rfl, rowFacts hP 2 _ rfl, rowFacts hP 3 _ rfl, rowFacts hP 4 _ rfl, rowFacts hP 5 _ rfl, rowFacts hP 6 _ rfl, rowFacts hP 7 _ rfl, rowFacts hP 8 _ rfl, rowFacts hP 9 _ rfl, rowFacts hP 10 _ rfl, rowFacts hP 11 _ rfl⟩
  have HB : Hid (∀ V, Below w1.heap.size w1 V → Below w.heap.size w V) := fun V hV => B1.out.trans (hV.mono B1.out.size)
  have I1 : Hid (Below w1.heap.size w1 w1) := Below.refl _ _
  have D1 : Hid (Below w1.heap.size w1 w1.drew) := I1.out.drew
  clear r0 z1 B1
  obtain ⟨c0, c1, c2, c3, c4, c5, c6, c7, c8, c9, c10, c11⟩ := HK.out w1 I1.out
  go_enter Tryz.func59, Tryz.ntmps59
  go_upto_region 1 with fail
  rw [← hw1]
  clear hw1
  go_wp2_with fail
  refine (HRt.out _ (HE.out _ (HB.out _ I1.out)).1).mono ?_
  rintro r w2 ⟨rfl, b2⟩
  have K2 : Hid (Below w1.heap.size w1 w2) := b2
  clear b2 c0 c1 c2 c3 c4 c5 c6 c7 c8 c9 c10 c11
  obtain ⟨c0, c1, c2, c3, c4, c5, c6, c7, c8, c9, c10, c11⟩ := HK.out w2 K2.out
  obtain ⟨e1, e0, e2⟩ := HE.out _ (HB.out _ K2.out)
  cases P with
  | false =>
    have HF : Hid (R = E) := HR.out
    rw [qE] at e1 HF ⊢
    go_wp2
    go_ret
    exact ⟨by rw [HF.out]; rfl, HB.out _ K2.out⟩
  | true =>
  by_cases hk : sk = key'
  rotate_left
  · have HF : Hid (R = E2) := by show _ = _; rw [HR.out, if_neg hk]; rfl
    go_wp2
    go_ret
    exact ⟨by rw [HF.out]; rfl, HB.out _ K2.out⟩
  subst hk
  go_wp2_with fail
  refine (HCk.out _ (HKy.out _ (HB.out _ K2.out))).mono ?_
  rintro r w3 ⟨rfl, b3⟩
  have K3 : Hid (Below w1.heap.size w1 w3) := K2.out.trans (b3.mono K2.out.size)
  clear b3 c0 c1 c2 c3 c4 c5 c6 c7 c8 c9 c10 c11 e1 e0 e2
  obtain ⟨e1, e0, e2⟩ := HE.out _ (HB.out _ K3.out)
  cases Q with
  | false =>
    have HF : Hid (R = E0) := by show _ = _; rw [HR.out]; simp
    go_wp2
    go_ret
    exact ⟨by rw [HF.out]; rfl, HB.out _ K3.out⟩
  | true =>
    have HF : Hid (R = .nilIface) := by show _ = _; rw [HR.out]; simp
    go_wp2
    go_ret
    exact ⟨by rw [HF.out]; rfl, HB.out _ K3.out⟩
end Go.Proofs.YtegmmaomaegjjaaGreatDoor
namespace Go.Proofs.YtegmmaomaegjjaaGreatDoor
open Go.RowKit

theorem listE_size (c : Lst) : (listE c).size ≤ 700 := by
  unfold listE
  split
  · exact listD_le (list_fits (by assumption))
  · exact Nat.zero_le _
theorem listE_ne {c : Lst} : decide ((listE c).size ≠ 0) = listB c := by
  unfold listE
  cases h : listB c with
  | true =>
    rw [if_pos rfl]
    have := thing_pos 48 (nameD c.issuer ++ (intD c.fr ++ (intD c.till ++ seqD (serD c.serials c.serials.length))))
    refine decide_eq_true (fun h0 => ?_)
    have h1 : (thingD 48 (nameD c.issuer ++ (intD c.fr ++ (intD c.till ++ seqD (serD c.serials c.serials.length))))).size = 0 := h0
    omega
  | false => rfl
end Go.Proofs.YtegmmaomaegjjaaGreatDoor
namespace Go.Proofs.YtegmmaomaegjjaaGreatDoor
open Go.RowKit

/-- The variables 'not right', 'other key', 'no check' hold errors, the last one another than the first two. -/
def Err3 (w : World) : Prop := ∃ b1 b2 b0, ErrV 0 w b1 ∧ ErrV 1 w b2 ∧ ErrV 2 w b0 ∧ b1 ≠ b0 ∧ b2 ≠ b0
theorem Err3.keep {w w' : World} (h : Err3 w) (hb : Below w.heap.size w w') : Err3 w' := by
  obtain ⟨b1, b2, b0, h1, h2, h0, n1, n2⟩ := h
  exact ⟨b1, b2, b0, h1.keep hb, h2.keep hb, h0.keep hb, n1, n2⟩
end Go.Proofs.YtegmmaomaegjjaaGreatDoor
namespace Go.Proofs.YtegmmaomaegjjaaGreatDoor
open Go.RowKit

set_option linter.unusedSimpArgs false in
set_option maxHeartbeats 4000000 in
set_option maxRecDepth 100000 in
theorem implCrlGood (k : Int) (c : Lst) (a : Option Addr) (cap : Nat) (w : World) (hi : c.issuer.size ≤ maxLen) (hl : c.serials.length ≤ 1048576) (ha : IsInts w a c.serials) (hw : Keys w) (hE : Err3 w) :
    Calls Tryz.prog 30 #[.int .i64 k, c.val (.slice a c.serials.length cap)] w fun e w' => e = .returned (.bool (crlGoodB k c)) ∧ Below w.heap.size w w' := by
  have HBx : Hid (∀ V, IsInts V a c.serials → Calls Tryz.prog 25 #[c.val (.slice a c.serials.length cap)] V fun e w' => ∃ g, e = .returned (c.box (.slice a c.serials.length cap) (listE c) (.slice (some ⟨g, 0, none⟩) 3 3)) ∧ Row3 c.sk c.se c.ss w' g ∧ Below V.heap.size V w') := fun V hV => boxCrl c a cap V hi hl hV
  obtain ⟨b1, b2, b0, h1, h2, h0, _, _⟩ := hE
  have hkp := hw.pos
  have zE := listE_size c
  have HSw : Hid (∀ V v nv, Below w.heap.size w V → Calls Tryz.prog 59 #[c.box v (listE c) nv, .int .i64 k] V fun r w' => (∃ t p, (crlGoodB k c = false ∧ r = .returned (.iface t p)) ∨ (crlGoodB k c = true ∧ r = .returned .nilIface)) ∧ Below V.heap.size V w') := fun V v nv hV => by
    refine (signedWithCrl c v nv (listE c) k _ _ _ _ _ rfl V (by omega) (hw.below hV hkp) (h1.keep hV).1 (h0.keep hV).1 (h2.keep hV).1).mono ?_
    rintro r w' ⟨rfl, hb⟩
    refine ⟨?_, hb⟩
    rw [listE_ne]
    cases e1 : (listB c && sigRB c.sk c.se c.ss) with
    | false =>
      refine ⟨_, _, .inl ⟨?_, rfl⟩⟩
      show (listB c && sigRB c.sk c.se c.ss && _ && _) = false
      rw [e1]; rfl
    | true =>
      rw [if_pos rfl]
      by_cases e2 : c.sk = k
      · rw [if_pos e2]
        have hD : listE c = listD c := if_pos (Bool.and_eq_true _ _ ▸ e1 |>.1)
        cases e3 : sigCB c.sk c.se c.ss (listE c) with
        | false =>
          refine ⟨_, _, .inl ⟨?_, rfl⟩⟩
          show (_ && sigCB c.sk c.se c.ss (listD c)) = false
          rw [← hD, e3, Bool.and_false]
        | true =>
          refine ⟨0, .nilIface, .inr ⟨?_, rfl⟩⟩
          show (listB c && sigRB c.sk c.se c.ss && decide (c.sk = k) && sigCB c.sk c.se c.ss (listD c)) = true
          rw [← hD, e3, e1, decide_eq_true e2]; rfl
      · rw [if_neg e2]
        refine ⟨_, _, .inl ⟨?_, rfl⟩⟩
        show (listB c && sigRB c.sk c.se c.ss && decide (c.sk = k) && _) = false
        rw [decide_eq_false e2, Bool.and_false]; rfl
  clear hi hl hw hkp zE h0 h1 h2
  generalize crlGoodB k c = R at *
  generalize listE c = D at *
  obtain ⟨iss, fr, till, serials, sk, se, ss⟩ := c
  unfold Lst.val at *
  unfold Lst.box at *
  simp only at HBx HSw ha ⊢
  generalize serials.length = nl at *
  obtain ⟨w1, hw1⟩ : ∃ w1, w1 = w.alloc (.cells #[.string iss, .int .i64 fr, .int .i64 till, .slice a nl cap, .int .i64 sk, .int .i64 se, .int .i64 ss] 30 (0, 0)) := ⟨_, rfl⟩
  have r0 : w1.heap[w.heap.size]? = some (.cells [Value.string iss, .int .i64 fr, .int .i64 till, .slice a nl cap, .int .i64 sk, .int .i64 se, .int .i64 ss].toArray 30 (0, 0)) := by rw [hw1]; exact heap_alloc_new w _
  have B1 : Hid (Below w.heap.size w w1) := by rw [hw1]; exact (Below.refl _ _).alloc (Nat.le_refl _) _
  have z1 : w.heap.size < w1.heap.size := by rw [hw1]; simp
  have HK : Hid (∀ V, Below w1.heap.size w1 V → V.cell? ⟨w.heap.size, 0, none⟩ = some (.string iss) ∧ V.cell? ⟨w.heap.size, 1, none⟩ = some (.int .i64 fr) ∧ V.cell? ⟨w.heap.size, 2, none⟩ = some (.int .i64 till) ∧ V.cell? ⟨w.heap.size, 3, none⟩ = some (.slice a nl cap) ∧ V.cell? ⟨w.heap.size, 4, none⟩ = some (.int .i64 sk) ∧ V.cell? ⟨w.heap.size, 5, none⟩ = some (.int .i64 se) ∧ V.cell? ⟨w.heap.size, 6, none⟩ = some (.int .i64 ss)) := fun V hV => by
    have hP := (hV.block _ z1).trans r0
    exact ⟨rowFacts hP 0 _ rfl, rowFacts hP 1 _ rfl, rowFacts hP 2 _ rfl, rowFacts hP 3 _ rfl, rowFacts hP 4 _ rfl, rowFacts hP 5 _ rfl, rowFacts hP 6 _ rfl⟩
  have HA : Hid (∀ V, Below w1.heap.size w1 V → IsInts V a serials) := fun V hV => (ha.keep B1.out).keep hV
  have HB : Hid (∀ V, Below w1.heap.size w1 V → Below w.heap.size w V) := fun V hV => B1.out.trans (hV.mono B1.out.size)
  have I1 : Hid (Below w1.heap.size w1 w1) := Below.refl _ _
  have D1 : Hid (Below w1.heap.size w1 w1.drew) := I1.out.drew
  clear r0 z1 B1 ha
  go_enter Tryz.func30, Tryz.ntmps30
  go_upto_region 1 with fail
  rw [← hw1]
  clear hw1
  obtain ⟨c0, c1, c2, c3, c4, c5, c6⟩ := HK.out w1 I1.out
  go_wp2_with fail
  refine (HBx.out _ (HA.out _ I1.out)).mono ?_
  rintro e w2 ⟨g, rfl, r2, b2⟩
  have K2 : Hid (Below w1.heap.size w1 w2) := b2
  clear b2 c0 c1 c2 c3 c4 c5 c6
  go_wp2_with fail
  refine (HSw.out _ _ _ (HB.out _ K2.out)).mono ?_
  rintro e w4 ⟨⟨t4, p4, h4⟩, b4⟩
  have K4 : Hid (Below w1.heap.size w1 w4) := K2.out.trans (b4.mono K2.out.size)
  clear b4 r2
  rcases h4 with ⟨hP, rfl⟩ | ⟨hP, rfl⟩
  · have HF : Hid (R = false) := hP
    clear hP
    go_wp2
    go_ret
    exact ⟨by rw [HF.out]; rfl, HB.out _ K4.out⟩
  · have HF : Hid (R = true) := hP
    clear hP
    go_wp2
    go_ret
    exact ⟨by rw [HF.out]; rfl, HB.out _ K4.out⟩
end Go.Proofs.YtegmmaomaegjjaaGreatDoor
namespace Go.Proofs.YtegmmaomaegjjaaGreatDoor
open Go.RowKit

set_option linter.unusedSimpArgs false in
set_option maxHeartbeats 4000000 in
set_option maxRecDepth 100000 in
theorem implPath (r c : Paper) (l : Lst) (t : Int) (ra ca la : Option Addr) (rc cc lc : Nat) (w : World) (hr : PIn r) (hc : PIn c) (hl : LIn l) (hra : IsStrs w ra r.names) (hca : IsStrs w ca c.names) (hla : IsInts w la l.serials) (hk : Keys w) (hE : Err3 w) :
    Calls Tryz.prog 5 #[r.val (.slice ra r.names.length rc), c.val (.slice ca c.names.length cc), l.val (.slice la l.serials.length lc), .int .i64 t] w fun e w' => e = .returned (.int .i64 (pathC r c l t)) ∧ Below w.heap.size w w' := by
  have hkp := hk.pos
  obtain ⟨b1, b2, b0, e1, e2, e0, f1, f2⟩ := hE
  have HRi : Hid (∀ V, Below w.heap.size w V → Keys V ∧ Err3 V ∧ IsStrs V ra r.names ∧ IsStrs V ca c.names ∧ IsInts V la l.serials) := fun V hV => ⟨hk.below hV hkp, ⟨b1, b2, b0, (e1.keep hV), (e2.keep hV), (e0.keep hV), f1, f2⟩, hra.keep hV, hca.keep hV, hla.keep hV⟩
  have C1 : Hid (∀ V, Below w.heap.size w V → Calls Tryz.prog 24 #[r.val (.slice ra r.names.length rc)] V fun e W => e = .returned (.bool (certB r)) ∧ Below V.heap.size V W) := fun V hV => implCert r ra rc V hr.1 hr.2.1 hr.2.2.1 hr.2.2.2 (HRi.out V hV).2.2.1
  have C2 : Hid (∀ V, Below w.heap.size w V → Calls Tryz.prog 24 #[c.val (.slice ca c.names.length cc)] V fun e W => e = .returned (.bool (certB c)) ∧ Below V.heap.size V W) := fun V hV => implCert c ca cc V hc.1 hc.2.1 hc.2.2.1 hc.2.2.2 (HRi.out V hV).2.2.2.1
  have C3 : Hid (∀ V, Below w.heap.size w V → Calls Tryz.prog 25 #[l.val (.slice la l.serials.length lc)] V fun e W => ∃ g, e = .returned (l.box (.slice la l.serials.length lc) (listE l) (.slice (some ⟨g, 0, none⟩) 3 3)) ∧ Below V.heap.size V W) := fun V hV => (boxCrl l la lc V hl.1 hl.2 (HRi.out V hV).2.2.2.2).mono fun e W h => by
    obtain ⟨g, h1, _, h3⟩ := h
    exact ⟨g, h1, h3⟩
  have C4 : Hid (∀ V v nv, Below w.heap.size w V → Calls Tryz.prog 26 #[l.box v (listE l) nv] V fun e W => (∃ t p, (crlB l = false ∧ e = .returned (.iface t p)) ∨ (crlB l = true ∧ e = .returned .nilIface)) ∧ Below V.heap.size V W) := fun V v nv hV => by
    refine (rightCrl l v nv (listE l) _ V (e1.keep hV).1).mono ?_
    rintro e W ⟨rfl, hb⟩
    refine ⟨?_, hb⟩
    rw [listE_ne]
    cases hx : (listB l && sigRB l.sk l.se l.ss) with
    | false => exact ⟨_, _, .inl ⟨hx, rfl⟩⟩
    | true => exact ⟨0, .nilIface, .inr ⟨hx, rfl⟩⟩
  have C5 : Hid (∀ V, Calls Tryz.prog 27 #[.int .i64 t] V fun e W => e = .returned (.bool (timeB t)) ∧ W = V) := fun V => implTime t V
  have C6 : Hid (∀ V, Below w.heap.size w V → Calls Tryz.prog 28 #[.int .i64 r.key, r.val (.slice ra r.names.length rc)] V fun e W => e = .returned (.bool (goodB r.key r)) ∧ Below V.heap.size V W) := fun V hV => implGood r.key r ra rc V hr.1 hr.2.1 hr.2.2.1 hr.2.2.2 (HRi.out V hV).2.2.1 (HRi.out V hV).1
  have C8 : Hid (∀ V, Below w.heap.size w V → Calls Tryz.prog 28 #[.int .i64 r.key, c.val (.slice ca c.names.length cc)] V fun e W => e = .returned (.bool (goodB r.key c)) ∧ Below V.heap.size V W) := fun V hV => implGood r.key c ca cc V hc.1 hc.2.1 hc.2.2.1 hc.2.2.2 (HRi.out V hV).2.2.2.1 (HRi.out V hV).1
  have C9 : Hid (∀ V, Calls Tryz.prog 29 #[.int .i64 t, .int .i64 r.fr, .int .i64 r.till] V fun e W => e = .returned (.bool (withinB t r.fr r.till)) ∧ W = V) := fun V => implWithin t _ _ V
  have C10 : Hid (∀ V, Calls Tryz.prog 29 #[.int .i64 t, .int .i64 c.fr, .int .i64 c.till] V fun e W => e = .returned (.bool (withinB t c.fr c.till)) ∧ W = V) := fun V => implWithin t _ _ V
  have C12 : Hid (∀ V, Below w.heap.size w V → Calls Tryz.prog 30 #[.int .i64 r.key, l.val (.slice la l.serials.length lc)] V fun e W => e = .returned (.bool (crlGoodB r.key l)) ∧ Below V.heap.size V W) := fun V hV => implCrlGood r.key l la lc V hl.1 hl.2 (HRi.out V hV).2.2.2.2 (HRi.out V hV).1 (HRi.out V hV).2.1
  have C13 : Hid (∀ V, Calls Tryz.prog 29 #[.int .i64 t, .int .i64 l.fr, .int .i64 l.till] V fun e W => e = .returned (.bool (withinB t l.fr l.till)) ∧ W = V) := fun V => implWithin t _ _ V
  have C14 : Hid (crlB l = true → ∀ V, Below w.heap.size w V → Calls Tryz.prog 31 #[.int .i64 c.serial, .slice la l.serials.length lc] V fun e W => e = .returned (.bool (hasB l.serials c.serial)) ∧ Below V.heap.size V W) := fun h V hV => implListed _ la l.serials lc V hl.2 (HRi.out V hV).2.2.2.2 (crlB_ok h)
  have HV : Hid (pathC r c l t = if (certB r && certB c && crlB l && timeB t) = true then if (r.ca && goodB r.key r && (c.issuer.toList == r.subject.toList)) = true then if goodB r.key c = true then if (withinB t r.fr r.till && withinB t c.fr c.till) = true then if ((l.issuer.toList == r.subject.toList) && crlGoodB r.key l && withinB t l.fr l.till) = true then if hasB l.serials c.serial = true then 14 else 0 else 8 else 12 else 6 else 13 else 1) := rfl
  clear hr hc hl hra hca hla hk hkp e0 e1 e2 f1 f2 HRi
  generalize pathC r c l t = R at *
  generalize certB r = X1 at *
  generalize certB c = X2 at *
  generalize crlB l = X3 at *
  generalize timeB t = X4 at *
  generalize goodB r.key r = X6 at *
  generalize goodB r.key c = X8 at *
  generalize withinB t r.fr r.till = X9 at *
  generalize withinB t c.fr c.till = X10 at *
  generalize crlGoodB r.key l = X12 at *
  generalize withinB t l.fr l.till = X13 at *
  generalize hasB l.serials c.serial = X14 at *
  generalize listE l = LE at *
  obtain ⟨rser, riss, rsub, rfr, rtill, rkey, rnames, rca, rsk, rse, rss⟩ := r
  obtain ⟨cser, ciss, csub, cfr, ctill, ckey, cnames, cca, csk, cse, css⟩ := c
  obtain ⟨liss, lfr, ltill, lserials, lsk, lse, lss⟩ := l
  unfold Paper.val at *
  unfold Lst.val at *
  unfold Lst.box at *
  simp only at C1 C2 C3 C4 C6 C8 C9 C10 C12 C13 C14 HV ⊢
  generalize rnames.length = rn at *
  generalize cnames.length = cn at *
  generalize lserials.length = ln at *
  obtain ⟨w1, hw1⟩ : ∃ w1, w1 = ((w.alloc (.cells #[.int .i64 rser, .string riss, .string rsub, .int .i64 rfr, .int .i64 rtill, .int .i64 rkey, .slice ra rn rc, .bool rca, .int .i64 rsk, .int .i64 rse, .int .i64 rss] 27 (0, 0))).alloc (.cells #[.int .i64 cser, .string ciss, .string csub, .int .i64 cfr, .int .i64 ctill, .int .i64 ckey, .slice ca cn cc, .bool cca, .int .i64 csk, .int .i64 cse, .int .i64 css] 27 (0, 0))).alloc (.cells #[.string liss, .int .i64 lfr, .int .i64 ltill, .slice la ln lc, .int .i64 lsk, .int .i64 lse, .int .i64 lss] 30 (0, 0)) := ⟨_, rfl⟩
  have q0 : w1.heap[w.heap.size]? = some (.cells [Value.int .i64 rser, .string riss, .string rsub, .int .i64 rfr, .int .i64 rtill, .int .i64 rkey, .slice ra rn rc, .bool rca, .int .i64 rsk, .int .i64 rse, .int .i64 rss].toArray 27 (0, 0)) := by rw [hw1, Below.heap_alloc _ _ _ (by simp; omega), Below.heap_alloc _ _ _ (by simp)]; exact heap_alloc_new w _
  have q1 : w1.heap[w.heap.size + 1]? = some (.cells [Value.int .i64 cser, .string ciss, .string csub, .int .i64 cfr, .int .i64 ctill, .int .i64 ckey, .slice ca cn cc, .bool cca, .int .i64 csk, .int .i64 cse, .int .i64 css].toArray 27 (0, 0)) := by rw [hw1, Below.heap_alloc _ _ _ (by simp)]; exact heap_alloc2 w _ _
  have q2 : w1.heap[w.heap.size + 1 + 1]? = some (.cells [Value.string liss, .int .i64 lfr, .int .i64 ltill, .slice la ln lc, .int .i64 lsk, .int .i64 lse, .int .i64 lss].toArray 30 (0, 0)) := by rw [hw1]; have := heap_alloc_new ((w.alloc (.cells #[.int .i64 rser, .string riss, .string rsub, .int .i64 rfr, .int .i64 rtill, .int .i64 rkey, .slice ra rn rc, .bool rca, .int .i64 rsk, .int .i64 rse, .int .i64 rss] 27 (0, 0))).alloc (.cells #[.int .i64 cser, .string ciss, .string csub, .int .i64 cfr, .int .i64 ctill, .int .i64 ckey, .slice ca cn cc, .bool cca, .int .i64 csk, .int .i64 cse, .int .i64 css] 27 (0, 0))) (.cells #[.string liss, .int .i64 lfr, .int .i64 ltill, .slice la ln lc, .int .i64 lsk, .int .i64 lse, .int .i64 lss] 30 (0, 0)); simpa using this
  have P1 : Hid (Below w.heap.size w w1) := by rw [hw1]; exact (((Below.refl _ _).alloc (Nat.le_refl _) _).alloc (by simp) _).alloc (by simp; omega) _
  have HB : Hid (∀ V, Below w1.heap.size w1 V → Below w.heap.size w V) := fun V hV => P1.out.trans (hV.mono P1.out.size)
  have I1 : Hid (Below w1.heap.size w1 w1) := Below.refl _ _
  have KR : Hid (∀ V, Hid (Below w1.heap.size w1 V) → V.cell? ⟨w.heap.size, 0, none⟩ = some (.int .i64 rser) ∧ V.cell? ⟨w.heap.size, 1, none⟩ = some (.string riss) ∧ V.cell? ⟨w.heap.size, 2, none⟩ = some (.string rsub) ∧ V.cell? ⟨w.heap.size, 3, none⟩ = some (.int .i64 rfr) ∧ V.cell? ⟨w.heap.size, 4, none⟩ = some (.int .i64 rtill) ∧ V.cell? ⟨w.heap.size, 5, none⟩ = some (.int .i64 rkey) ∧ V.cell? ⟨w.heap.size, 6, none⟩ = some (.slice ra rn rc) ∧ V.cell? ⟨w.heap.size, 7, none⟩ = some (.bool rca) ∧ V.cell? ⟨w.heap.size, 8, none⟩ = some (.int .i64 rsk) ∧ V.cell? ⟨w.heap.size, 9, none⟩ = some (.int .i64 rse) ∧ V.cell? ⟨w.heap.size, 10, none⟩ = some (.int .i64 rss)) := fun V hV => by
    have hP := (hV.out.block _ (heap_lt q0)).trans q0
    exact ⟨rowFacts hP 0 _ rfl, rowFacts hP 1 _ rfl, rowFacts hP 2 _ rfl, rowFacts hP 3 _ rfl, rowFacts hP 4 _ rfl, rowFacts hP 5 _ rfl, rowFacts hP 6 _ rfl, rowFacts hP 7 _ rfl, rowFacts hP 8 _ rfl, rowFacts hP 9 _ rfl, rowFacts hP 10 _ rfl⟩
  have KC : Hid (∀ V, Hid (Below w1.heap.size w1 V) → V.cell? ⟨w.heap.size + 1, 0, none⟩ = some (.int .i64 cser) ∧ V.cell? ⟨w.heap.size + 1, 1, none⟩ = some (.string ciss) ∧ V.cell? ⟨w.heap.size + 1, 2, none⟩ = some (.string csub) ∧ V.cell? ⟨w.heap.size + 1, 3, none⟩ = some (.int .i64 cfr) ∧ V.cell? ⟨w.heap.size + 1, 4, none⟩ = some (.int .i64 ctill) ∧ V.cell? ⟨w.heap.size + 1, 5, none⟩ = some (.int .i64 ckey) ∧ V.cell? ⟨w.heap.size + 1, 6, none⟩ = some (.slice ca cn cc) ∧ V.cell? ⟨w.heap.size + 1, 7, none⟩ = some (.bool cca) ∧ V.cell? ⟨w.heap.size + 1, 8, none⟩ = some (.int .i64 csk) ∧ V.cell? ⟨w.heap.size + 1, 9, none⟩ = some (.int .i64 cse) ∧ V.cell? ⟨w.heap.size + 1, 10, none⟩ = some (.int .i64 css)) := fun V hV => by
    have hP := (hV.out.block _ (heap_lt q1)).trans q1
    exact ⟨rowFacts hP 0 _ rfl, rowFacts hP 1 _ rfl, rowFacts hP 2 _ rfl, rowFacts hP 3 _ rfl, rowFacts hP 4 _ rfl, rowFacts hP 5 _ rfl, rowFacts hP 6 _ rfl, rowFacts hP 7 _ rfl, rowFacts hP 8 _ rfl, rowFacts hP 9 _ rfl, rowFacts hP 10 _ rfl⟩
  have KL : Hid (∀ V, Hid (Below w1.heap.size w1 V) → V.cell? ⟨w.heap.size + 1 + 1, 0, none⟩ = some (.string liss) ∧ V.cell? ⟨w.heap.size + 1 + 1, 1, none⟩ = some (.int .i64 lfr) ∧ V.cell? ⟨w.heap.size + 1 + 1, 2, none⟩ = some (.int .i64 ltill) ∧ V.cell? ⟨w.heap.size + 1 + 1, 3, none⟩ = some (.slice la ln lc) ∧ V.cell? ⟨w.heap.size + 1 + 1, 4, none⟩ = some (.int .i64 lsk) ∧ V.cell? ⟨w.heap.size + 1 + 1, 5, none⟩ = some (.int .i64 lse) ∧ V.cell? ⟨w.heap.size + 1 + 1, 6, none⟩ = some (.int .i64 lss)) := fun V hV => by
    have hP := (hV.out.block _ (heap_lt q2)).trans q2
    exact ⟨rowFacts hP 0 _ rfl, rowFacts hP 1 _ rfl, rowFacts hP 2 _ rfl, rowFacts hP 3 _ rfl, rowFacts hP 4 _ rfl, rowFacts hP 5 _ rfl, rowFacts hP 6 _ rfl⟩
  clear q0 q1 q2
  go_enter Tryz.func5, Tryz.ntmps5
  go_upto_region 1 with fail
  rw [← hw1]
  clear hw1
  obtain ⟨x0, x1, x2, x3, x4, x5, x6, x7, x8, x9, x10⟩ := KR.out _ I1
  go_wp2_with fail
  refine (C1.out _ (HB.out _ I1.out)).mono ?_
  rintro e v1 ⟨rfl, k1⟩
  have K1 : Hid (Below w1.heap.size w1 v1) := I1.out.trans (k1.mono I1.out.size)
  clear k1 C1
  clear x0 x1 x2 x3 x4 x5 x6 x7 x8 x9 x10
  cases X1 with
  | false =>
    have HF : Hid (R = 1) := by show _ = _; rw [HV.out]; simp
    go_wp2
    go_ret
    exact ⟨by rw [HF.out]; rfl, HB.out _ K1.out⟩
  | true =>
  obtain ⟨y0, y1, y2, y3, y4, y5, y6, y7, y8, y9, y10⟩ := KC.out _ K1
  go_wp2_with fail
  refine (C2.out _ (HB.out _ K1.out)).mono ?_
  rintro e v2 ⟨rfl, k2⟩
  have K2 : Hid (Below w1.heap.size w1 v2) := K1.out.trans (k2.mono K1.out.size)
  clear k2 C2
  clear y0 y1 y2 y3 y4 y5 y6 y7 y8 y9 y10
  cases X2 with
  | false =>
    have HF : Hid (R = 1) := by show _ = _; rw [HV.out]; simp
    go_wp2
    go_ret
    exact ⟨by rw [HF.out]; rfl, HB.out _ K2.out⟩
  | true =>
  obtain ⟨z0, z1, z2, z3, z4, z5, z6⟩ := KL.out _ K2
  go_wp2_with fail
  refine (C3.out _ (HB.out _ K2.out)).mono ?_
  rintro e v3 ⟨g, rfl, k3⟩
  have K3 : Hid (Below w1.heap.size w1 v3) := K2.out.trans (k3.mono K2.out.size)
  clear k3 C3
  clear z0 z1 z2 z3 z4 z5 z6
  go_wp2_with fail
  refine (C4.out _ _ _ (HB.out _ K3.out)).mono ?_
  rintro e v4 ⟨⟨t4, p4, h4⟩, k4⟩
  have K4 : Hid (Below w1.heap.size w1 v4) := K3.out.trans (k4.mono K3.out.size)
  clear k4 C4
  rcases h4 with ⟨hX3, rfl⟩ | ⟨hX3, rfl⟩
  · subst hX3
    have HF : Hid (R = 1) := by show _ = _; rw [HV.out]; simp
    go_wp2
    go_ret
    exact ⟨by rw [HF.out]; rfl, HB.out _ K4.out⟩
  subst hX3
  go_wp2_with fail
  refine (C5.out _).mono ?_
  rintro e _ ⟨rfl, rfl⟩
  clear C5
  cases X4 with
  | false =>
    have HF : Hid (R = 1) := by show _ = _; rw [HV.out]; simp
    go_wp2
    go_ret
    exact ⟨by rw [HF.out]; rfl, HB.out _ K4.out⟩
  | true =>
  obtain ⟨x0, x1, x2, x3, x4, x5, x6, x7, x8, x9, x10⟩ := KR.out _ K4
  cases rca with
  | false =>
    have HF : Hid (R = 13) := by show _ = _; rw [HV.out]; simp
    go_wp2
    go_ret
    exact ⟨by rw [HF.out]; rfl, HB.out _ K4.out⟩
  | true =>
  clear x0 x1 x2 x3 x4 x5 x6 x7 x8 x9 x10
  obtain ⟨x0, x1, x2, x3, x4, x5, x6, x7, x8, x9, x10⟩ := KR.out _ K4
  go_wp2_with fail
  refine (C6.out _ (HB.out _ K4.out)).mono ?_
  rintro e v6 ⟨rfl, k6⟩
  have K6 : Hid (Below w1.heap.size w1 v6) := K4.out.trans (k6.mono K4.out.size)
  clear k6 C6
  clear x0 x1 x2 x3 x4 x5 x6 x7 x8 x9 x10
  cases X6 with
  | false =>
    have HF : Hid (R = 13) := by show _ = _; rw [HV.out]; simp
    go_wp2
    go_ret
    exact ⟨by rw [HF.out]; rfl, HB.out _ K6.out⟩
  | true =>
  obtain ⟨x0, x1, x2, x3, x4, x5, x6, x7, x8, x9, x10⟩ := KR.out _ K6
  obtain ⟨y0, y1, y2, y3, y4, y5, y6, y7, y8, y9, y10⟩ := KC.out _ K6
  by_cases hi : (ciss.toList == rsub.toList) = true
  rotate_left
  · have hi1 : (ciss.toList == rsub.toList) = false := by simpa using hi
    have hi2 : (ciss.toList != rsub.toList) = true := by rw [bne, hi1]; rfl
    rw [hi1] at HV
    have HF : Hid (R = 13) := by show _ = _; rw [HV.out]; simp
    go_wp2
    go_ret
    exact ⟨by rw [HF.out]; rfl, HB.out _ K6.out⟩
  have hi2 : (ciss.toList != rsub.toList) = false := by rw [bne, hi]; rfl
  rw [hi] at HV
  go_upto_region 8 with fail
  clear x0 x1 x2 x3 x4 x5 x6 x7 x8 x9 x10 y0 y1 y2 y3 y4 y5 y6 y7 y8 y9 y10
  clear hi hi2
  obtain ⟨x0, x1, x2, x3, x4, x5, x6, x7, x8, x9, x10⟩ := KR.out _ K6
  obtain ⟨y0, y1, y2, y3, y4, y5, y6, y7, y8, y9, y10⟩ := KC.out _ K6
  go_wp2_with fail
  refine (C8.out _ (HB.out _ K6.out)).mono ?_
  rintro e v7 ⟨rfl, k7⟩
  have K7 : Hid (Below w1.heap.size w1 v7) := K6.out.trans (k7.mono K6.out.size)
  clear k7 C8
  clear x0 x1 x2 x3 x4 x5 x6 x7 x8 x9 x10 y0 y1 y2 y3 y4 y5 y6 y7 y8 y9 y10
  cases X8 with
  | false =>
    have HF : Hid (R = 6) := by show _ = _; rw [HV.out]; simp
    go_wp2
    go_ret
    exact ⟨by rw [HF.out]; rfl, HB.out _ K7.out⟩
  | true =>
  obtain ⟨x0, x1, x2, x3, x4, x5, x6, x7, x8, x9, x10⟩ := KR.out _ K7
  go_wp2_with fail
  refine (C9.out _).mono ?_
  rintro e _ ⟨rfl, rfl⟩
  clear C9
  clear x0 x1 x2 x3 x4 x5 x6 x7 x8 x9 x10
  cases X9 with
  | false =>
    have HF : Hid (R = 12) := by show _ = _; rw [HV.out]; simp
    go_wp2
    go_ret
    exact ⟨by rw [HF.out]; rfl, HB.out _ K7.out⟩
  | true =>
  obtain ⟨y0, y1, y2, y3, y4, y5, y6, y7, y8, y9, y10⟩ := KC.out _ K7
  go_wp2_with fail
  refine (C10.out _).mono ?_
  rintro e _ ⟨rfl, rfl⟩
  clear C10
  clear y0 y1 y2 y3 y4 y5 y6 y7 y8 y9 y10
  cases X10 with
  | false =>
    have HF : Hid (R = 12) := by show _ = _; rw [HV.out]; simp
    go_wp2
    go_ret
    exact ⟨by rw [HF.out]; rfl, HB.out _ K7.out⟩
  | true =>
  obtain ⟨x0, x1, x2, x3, x4, x5, x6, x7, x8, x9, x10⟩ := KR.out _ K7
  obtain ⟨z0, z1, z2, z3, z4, z5, z6⟩ := KL.out _ K7
  by_cases hj : (liss.toList == rsub.toList) = true
  rotate_left
  · have hi1 : (liss.toList == rsub.toList) = false := by simpa using hj
    have hi2 : (liss.toList != rsub.toList) = true := by rw [bne, hi1]; rfl
    rw [hi1] at HV
    have HF : Hid (R = 8) := by show _ = _; rw [HV.out]; simp
    go_wp2
    go_ret
    exact ⟨by rw [HF.out]; rfl, HB.out _ K7.out⟩
  have hj2 : (liss.toList != rsub.toList) = false := by rw [bne, hj]; rfl
  rw [hj] at HV
  go_upto_region 12 with fail
  clear x0 x1 x2 x3 x4 x5 x6 x7 x8 x9 x10 z0 z1 z2 z3 z4 z5 z6
  clear hj hj2
  obtain ⟨x0, x1, x2, x3, x4, x5, x6, x7, x8, x9, x10⟩ := KR.out _ K7
  obtain ⟨z0, z1, z2, z3, z4, z5, z6⟩ := KL.out _ K7
  go_wp2_with fail
  refine (C12.out _ (HB.out _ K7.out)).mono ?_
  rintro e v10 ⟨rfl, k10⟩
  have K10 : Hid (Below w1.heap.size w1 v10) := K7.out.trans (k10.mono K7.out.size)
  clear k10 C12
  clear x0 x1 x2 x3 x4 x5 x6 x7 x8 x9 x10 z0 z1 z2 z3 z4 z5 z6
  cases X12 with
  | false =>
    have HF : Hid (R = 8) := by show _ = _; rw [HV.out]; simp
    go_wp2
    go_ret
    exact ⟨by rw [HF.out]; rfl, HB.out _ K10.out⟩
  | true =>
  obtain ⟨z0, z1, z2, z3, z4, z5, z6⟩ := KL.out _ K10
  go_wp2_with fail
  refine (C13.out _).mono ?_
  rintro e _ ⟨rfl, rfl⟩
  clear C13
  clear z0 z1 z2 z3 z4 z5 z6
  cases X13 with
  | false =>
    have HF : Hid (R = 8) := by show _ = _; rw [HV.out]; simp
    go_wp2
    go_ret
    exact ⟨by rw [HF.out]; rfl, HB.out _ K10.out⟩
  | true =>
  obtain ⟨y0, y1, y2, y3, y4, y5, y6, y7, y8, y9, y10⟩ := KC.out _ K10
  obtain ⟨z0, z1, z2, z3, z4, z5, z6⟩ := KL.out _ K10
  go_wp2_with fail
  refine (C14.out (by first | rfl | trivial) _ (HB.out _ K10.out)).mono ?_
  rintro e v12 ⟨rfl, k12⟩
  have K12 : Hid (Below w1.heap.size w1 v12) := K10.out.trans (k12.mono K10.out.size)
  clear k12 C14
  clear y0 y1 y2 y3 y4 y5 y6 y7 y8 y9 y10 z0 z1 z2 z3 z4 z5 z6
  cases X14 with
  | false =>
    have HF : Hid (R = 0) := by show _ = _; rw [HV.out]; simp
    go_wp2
    go_ret
    exact ⟨by rw [HF.out]; rfl, HB.out _ K12.out⟩
  | true =>
    have HF : Hid (R = 14) := by show _ = _; rw [HV.out]; simp
    go_wp2
    go_ret
    exact ⟨by rw [HF.out]; rfl, HB.out _ K12.out⟩
end Go.Proofs.YtegmmaomaegjjaaGreatDoor
namespace Go.Proofs.YtegmmaomaegjjaaGreatDoor
open Go.RowKit

theorem specRem (n : Int) (w : World) :
    Calls Tryz.prog 62 #[.int .i64 n] w fun e w' => e = .returned (.bool (remB n)) ∧ w' = w := by
  by_cases h1 : 0 ≤ n
  · by_cases h2 : n < 1073741789
    · have e : remB n = true := decide_eq_true ⟨h1, h2⟩
      rw [e]
      go_enter Tryz.func62, Tryz.ntmps62
      go_wp2
      go_ret
      exact ⟨rfl, rfl⟩
    · have e : remB n = false := decide_eq_false (by omega)
      rw [e]
      go_enter Tryz.func62, Tryz.ntmps62
      go_wp2
      go_ret
      exact ⟨rfl, rfl⟩
  · have e : remB n = false := decide_eq_false (by omega)
    rw [e]
    go_enter Tryz.func62, Tryz.ntmps62
    go_wp2
    go_ret
    exact ⟨rfl, rfl⟩
set_option maxHeartbeats 1000000 in
set_option maxRecDepth 100000 in
theorem specSigRight (k e s : Int) (w : World) :
    Calls Tryz.prog 34 #[.agg #[.int .i64 k, .int .i64 e, .int .i64 s]] w fun r w' => r = .returned (.bool (sigRB k e s)) ∧ Below w.heap.size w w' := by
  go_enter Tryz.func34, Tryz.ntmps34
  go_wp2_with fail
  refine (specGroupRight k _).mono ?_
  rintro e1 w1 ⟨rfl, rfl⟩
  by_cases h1 : rightG k = true
  · rw [h1]
    go_wp2_with fail
    refine (specRem e _).mono ?_
    rintro e2 w2 ⟨rfl, rfl⟩
    by_cases h2 : remB e = true
    · rw [h2]
      go_wp2_with fail
      refine (specRem s _).mono ?_
      rintro e3 w3 ⟨rfl, rfl⟩
      generalize hb3 : remB s = b
      go_wp2
      go_ret
      exact ⟨by simp [sigRB, *], allocBelow _ _⟩
    · rw [Bool.not_eq_true] at h2
      rw [h2]
      go_wp2
      go_ret
      exact ⟨by simp [sigRB, *], allocBelow _ _⟩
  · rw [Bool.not_eq_true] at h1
    rw [h1]
    go_wp2
    go_ret
    exact ⟨by simp [sigRB, *], allocBelow _ _⟩
end Go.Proofs.YtegmmaomaegjjaaGreatDoor
namespace Go.Proofs.YtegmmaomaegjjaaGreatDoor
open Go.RowKit

set_option maxHeartbeats 2000000 in
set_option maxRecDepth 100000 in
theorem specCert (c : Paper) (a : Option Addr) (cap : Nat) (w : World) (hi : c.issuer.size ≤ maxLen) (hs : c.subject.size ≤ maxLen) (hl : c.names.length ≤ 1048576) (ht : totS c.names c.names.length ≤ 1048576) (ha : IsStrs w a c.names) :
    Calls Tryz.prog 32 #[c.val (.slice a c.names.length cap)] w fun e w' => e = .returned (.bool (certB c)) ∧ Below w.heap.size w w' := by
  have HP : Hid (∀ V, IsStrs V a c.names → Calls Tryz.prog 51 #[c.val (.slice a c.names.length cap)] V fun e w' => e = .returned (.bool (paperB c)) ∧ Below V.heap.size V w') := fun V hV => specPaper c a cap V hi hs hl ht hV
  obtain ⟨R, hR⟩ : ∃ R, R = certB c := ⟨_, rfl⟩
  rw [← hR]
  obtain ⟨P, hP⟩ : ∃ P, P = paperB c := ⟨_, rfl⟩
  rw [← hP] at HP
  have HR : Hid (R = (P && sigRB c.sk c.se c.ss)) := by show _ = _; rw [hR, hP]; rfl
  clear hR hP
  obtain ⟨ser, iss, sub, fr, till, key, names, ca, sk, se, ss⟩ := c
  simp only at hi hs hl ht ha HP HR
  unfold Paper.val at HP ⊢
  simp only at HP ⊢
  generalize names.length = nl at *
  obtain ⟨w1, hw1⟩ : ∃ w1, w1 = w.alloc (.cells #[.int .i64 ser, .string iss, .string sub, .int .i64 fr, .int .i64 till, .int .i64 key, .slice a nl cap, .bool ca, .int .i64 sk, .int .i64 se, .int .i64 ss] 27 (0, 0)) := ⟨_, rfl⟩
  have hrow : w1.heap[w.heap.size]? = some (.cells [Value.int .i64 ser, .string iss, .string sub, .int .i64 fr, .int .i64 till, .int .i64 key, .slice a nl cap, .bool ca, .int .i64 sk, .int .i64 se, .int .i64 ss].toArray 27 (0, 0)) := by rw [hw1]; exact heap_alloc_new w _
  have B1 : Hid (Below w.heap.size w w1) := by rw [hw1]; exact (Below.refl _ _).alloc (Nat.le_refl _) _
  have A1 : Hid (IsStrs w1 a names) := ha.keep B1.out
  have c0 := rowFacts hrow 0 _ rfl
  have c1 := rowFacts hrow 1 _ rfl
  have c2 := rowFacts hrow 2 _ rfl
  have c3 := rowFacts hrow 3 _ rfl
  have c4 := rowFacts hrow 4 _ rfl
  have c5 := rowFacts hrow 5 _ rfl
  have c6 := rowFacts hrow 6 _ rfl
  have c7 := rowFacts hrow 7 _ rfl
  have c8 := rowFacts hrow 8 _ rfl
  have c9 := rowFacts hrow 9 _ rfl
  have c10 := rowFacts hrow 10 _ rfl
  have HRow : Hid (w1.heap[w.heap.size]? = some (.cells [Value.int .i64 ser, .string iss, .string sub, .int .i64 fr, .int .i64 till, .int .i64 key, .slice a nl cap, .bool ca, .int .i64 sk, .int .i64 se, .int .i64 ss].toArray 27 (0, 0))) := hrow
  clear hrow ha hl ht hi hs
  go_enter Tryz.func32, Tryz.ntmps32
  go_upto_region 1 with fail
  rw [← hw1]
  clear hw1
  go_wp2_with fail
  refine (HP.out _ A1.out).mono ?_
  rintro e w2 ⟨rfl, b2⟩
  have B2 : Hid (Below w.heap.size w w2) := B1.out.trans (b2.mono B1.out.size)
  have d8 := (b2.cell (p := ⟨w.heap.size, 8, none⟩) (heap_lt HRow.out)).trans c8
  have d9 := (b2.cell (p := ⟨w.heap.size, 9, none⟩) (heap_lt HRow.out)).trans c9
  have d10 := (b2.cell (p := ⟨w.heap.size, 10, none⟩) (heap_lt HRow.out)).trans c10
  clear b2 c0 c1 c2 c3 c4 c5 c6 c7 c8 c9 c10 HP A1 HRow
  cases P with
  | false =>
    have HF : Hid (R = false) := HR.out
    go_wp2
    go_ret
    exact ⟨by rw [HF.out]; rfl, B2.out⟩
  | true =>
  have HF : Hid (R = sigRB sk se ss) := HR.out
  go_wp2_with fail
  refine (specSigRight sk se ss _).mono ?_
  rintro e w4 ⟨rfl, b4⟩
  rw [← HF.out]
  have B4 : Hid (Below w.heap.size w w4) := B2.out.trans (b4.mono B2.out.size)
  clear b4
  go_wp2
  go_ret
  exact ⟨rfl, B4.out⟩
end Go.Proofs.YtegmmaomaegjjaaGreatDoor
