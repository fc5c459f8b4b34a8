/- spec.CertGood, walked. math/bits.Len64 and Len, walked. impl.lengthBytes, walked. Rows of bytes that are known whole, made into texts. impl.putLength, walked. Kinds of thing, told apart. impl.layThing at a thing whose body is laid already, walked. -/
import Derived.Test.YtkopinnhicoggaaGreatDoorMG05
import Derived.Test.YtkopinnhicoggaaGreatDoorMG07
import Derived.Test.YtkopinnhicoggaaGreatDoorMG09
import Derived.Deep.RegionHeld3
import Derived.Test.YtkopinnhicoggaaGreatDoorMG01
import Derived.Lib.BitFns
import Derived.Lib.Walk
import Derived.Test.YtkopinnhicoggaaGreatDoorMG02
import Derived.Test.YtkopinnhicoggaaGreatDoorMG04
import Derived.Deep.RegionWith
namespace Go.Proofs.YtkopinnhicoggaaGreatDoor
open Go.RowKit

set_option linter.unusedSimpArgs false in
set_option maxHeartbeats 4000000 in
set_option maxRecDepth 100000 in
theorem specGood (k : Int) (c : Paper) (a : Option Addr) (cap : Nat) (w : World) (hi : c.issuer.size ≤ maxLen) (hs : c.subject.size ≤ maxLen) (hl : c.names.length ≤ 1048576) (ht : totS c.names c.names.length ≤ 1048576) (ha : IsStrs w a c.names) :
    Calls Tryz.prog 23 #[.int .i64 k, c.val (.slice a c.names.length cap)] w fun e w' => e = .returned (.bool (goodB k c)) ∧ Below w.heap.size w w' := by
  have HP : Hid (∀ V, IsStrs V a c.names → Calls Tryz.prog 16 #[c.val (.slice a c.names.length cap)] V fun e w' => e = .returned (.bool (certB c)) ∧ Below V.heap.size V w') := fun V hV => specCert c a cap V hi hs hl ht hV
  have HQ : Hid (certB c = true → ∀ V, IsStrs V a c.names → Calls Tryz.prog 47 #[c.val (.slice a c.names.length cap)] V fun e w' => e = .returned (.string (bodyD c)) ∧ Below V.heap.size V w') := fun h V hV => specBody c a cap V (paper_fits (certB_paper h)) hV
  have HZ : Hid (certB c = true → (bodyD c).size ≤ 900) := fun h => bodyD_le (paper_fits (certB_paper h))
  have HG : Hid (goodB k c = (certB c && decide (k = c.sk) && sigCB c.sk c.se c.ss (bodyD c))) := rfl
  generalize goodB k c = R at *
  generalize certB c = P at *
  generalize bodyD c = D at *
  clear hi hs hl ht
  obtain ⟨ser, iss, sub, fr, till, key, names, ca, sk, se, ss⟩ := c
  unfold Paper.val at *
  simp only at HP HQ HG ha ⊢
  generalize names.length = nl at *
  obtain ⟨w1, hw1⟩ : ∃ w1, w1 = w.alloc (.cells #[.int .i64 ser, .string iss, .string sub, .int .i64 fr, .int .i64 till, .int .i64 key, .slice a nl cap, .bool ca, .int .i64 sk, .int .i64 se, .int .i64 ss] 27 (0, 0)) := ⟨_, rfl⟩
  have r0 : w1.heap[w.heap.size]? = some (.cells [Value.int .i64 ser, .string iss, .string sub, .int .i64 fr, .int .i64 till, .int .i64 key, .slice a nl cap, .bool ca, .int .i64 sk, .int .i64 se, .int .i64 ss].toArray 27 (0, 0)) := by rw [hw1]; exact heap_alloc_new w _
  have B1 : Hid (Below w.heap.size w w1) := by rw [hw1]; exact (Below.refl _ _).alloc (Nat.le_refl _) _
  have z1 : w.heap.size < w1.heap.size := by rw [hw1]; simp
  have HK : Hid (∀ V, Below w1.heap.size w1 V → V.cell? ⟨w.heap.size, 0, none⟩ = some (.int .i64 ser) ∧ V.cell? ⟨w.heap.size, 1, none⟩ = some (.string iss) ∧ V.cell? ⟨w.heap.size, 2, none⟩ = some (.string sub) ∧ V.cell? ⟨w.heap.size, 3, none⟩ = some (.int .i64 fr) ∧ V.cell? ⟨w.heap.size, 4, none⟩ = some (.int .i64 till) ∧ V.cell? ⟨w.heap.size, 5, none⟩ = some (.int .i64 key) ∧ V.cell? ⟨w.heap.size, 6, none⟩ = some (.slice a nl cap) ∧ V.cell? ⟨w.heap.size, 7, none⟩ = some (.bool ca) ∧ V.cell? ⟨w.heap.size, 8, none⟩ = some (.int .i64 sk) ∧ V.cell? ⟨w.heap.size, 9, none⟩ = some (.int .i64 se) ∧ V.cell? ⟨w.heap.size, 10, none⟩ = some (.int .i64 ss)) := fun V hV => by
    have hP := (hV.block _ z1).trans r0
    exact ⟨rowFacts hP 0 _ rfl, rowFacts hP 1 _ rfl, rowFacts hP 2 _ rfl, rowFacts hP 3 _ rfl, rowFacts hP 4 _ rfl, rowFacts hP 5 _ rfl, rowFacts hP 6 _ rfl, rowFacts hP 7 _ rfl, rowFacts hP 8 _ rfl, rowFacts hP 9 _ rfl, rowFacts hP 10 _ rfl⟩
  have HA : Hid (∀ V, Below w1.heap.size w1 V → IsStrs V a names) := fun V hV => (ha.keep B1.out).keep hV
  have HB : Hid (∀ V, Below w1.heap.size w1 V → Below w.heap.size w V) := fun V hV => B1.out.trans (hV.mono B1.out.size)
  have PC : Hid (∀ V, Hid (Below w1.heap.size w1 V) → Calls Tryz.prog 16 #[.agg #[.int .i64 ser, .string iss, .string sub, .int .i64 fr, .int .i64 till, .int .i64 key, .slice a nl cap, .bool ca, .int .i64 sk, .int .i64 se, .int .i64 ss]] V fun e W => e = .returned (.bool P) ∧ Hid (Below w1.heap.size w1 W)) := fun V hV => (HP.out V (HA.out V hV.out)).mono fun e W h => ⟨h.1, hV.out.trans (h.2.mono hV.out.size)⟩
  have I1 : Hid (Below w1.heap.size w1 w1) := Below.refl _ _
  have D1 : Hid (Below w1.heap.size w1 w1.drew) := I1.out.drew
  clear r0 ha z1 B1 HP
  go_enter Tryz.func23, Tryz.ntmps23
  go_upto_region 1 with fail
  rw [← hw1]
  clear hw1
  obtain ⟨c0, c1, c2, c3, c4, c5, c6, c7, c8, c9, c10⟩ := HK.out w1 I1.out
  cases P with
  | false =>
    have HF : Hid (R = false) := HG.out
    refine wp_region_held_drew (S := fun V => V.cell? ⟨w.heap.size, 0, none⟩ = some (.int .i64 ser) ∧ V.cell? ⟨w.heap.size, 1, none⟩ = some (.string iss) ∧ V.cell? ⟨w.heap.size, 2, none⟩ = some (.string sub) ∧ V.cell? ⟨w.heap.size, 3, none⟩ = some (.int .i64 fr) ∧ V.cell? ⟨w.heap.size, 4, none⟩ = some (.int .i64 till) ∧ V.cell? ⟨w.heap.size, 5, none⟩ = some (.int .i64 key) ∧ V.cell? ⟨w.heap.size, 6, none⟩ = some (.slice a nl cap) ∧ V.cell? ⟨w.heap.size, 7, none⟩ = some (.bool ca) ∧ V.cell? ⟨w.heap.size, 8, none⟩ = some (.int .i64 sk) ∧ V.cell? ⟨w.heap.size, 9, none⟩ = some (.int .i64 se) ∧ V.cell? ⟨w.heap.size, 10, none⟩ = some (.int .i64 ss)) (by kernel_rfl) ?_ (fun hHeld => ?_)
    · exact HK.out _ D1.out
    refine wpAnyH_take (i := 0) (oi := ⟨some 5, _, _, _, _, _⟩) (v := ?_) rfl (by kernel_rfl) (by kernel_rfl) (by kernel_rfl) (fun _ _ _ h => h) (Or.inl ⟨by kernel_rfl, ?_⟩) (by assumption) ?_
    rotate_left
    · (intro w hSw; (try dsimp only at hSw); go_simp; try with_reducible rfl)
    (try simp only [Act.put, List.setIfInBounds_toArray, List.set_cons_zero, List.set_cons_succ])
    refine wpAnyH_ready (rs := [1]) (by kernel_rfl) (by simp) ?_
    refine AllReadyH.cons (o := ⟨some 6, _, _, _, _, _⟩) rfl (fun K hK => ?_) AllReadyH.nil
    go_simp
    refine (PC.out _ D1).mono ?_
    rintro r V1 ⟨rfl, k1⟩
    refine hK.out _ _ ?_ (fun hHeld => ?_)
    · exact HK.out _ k1.out
    clear hK K
    (try simp only [Act.put, List.setIfInBounds_toArray, List.set_cons_zero, List.set_cons_succ])
    refine wpAnyH_take (i := 2) (oi := ⟨some 7, _, _, _, _, _⟩) (v := ?_) rfl (by kernel_rfl) (by kernel_rfl) (by kernel_rfl) (fun _ _ _ h => h) (Or.inl ⟨by kernel_rfl, ?_⟩) (by assumption) ?_
    rotate_left
    · (intro w hSw; (try dsimp only at hSw); go_simp; try with_reducible rfl)
    (try simp only [Act.put, List.setIfInBounds_toArray, List.set_cons_zero, List.set_cons_succ])
    refine wpAnyH_take (i := 3) (oi := ⟨some 8, _, _, _, _, _⟩) (v := undef) rfl (by kernel_rfl) (by kernel_rfl) (by kernel_rfl) (fun _ _ _ h => h) (Or.inr ⟨by kernel_rfl, rfl⟩) (by assumption) ?_
    (try simp only [Act.put, List.setIfInBounds_toArray, List.set_cons_zero, List.set_cons_succ])
    refine wpAnyH_take (i := 4) (oi := ⟨some 9, _, _, _, _, _⟩) (v := undef) rfl (by kernel_rfl) (by kernel_rfl) (by kernel_rfl) (fun _ _ _ h => h) (Or.inr ⟨by kernel_rfl, rfl⟩) (by assumption) ?_
    (try simp only [Act.put, List.setIfInBounds_toArray, List.set_cons_zero, List.set_cons_succ])
    refine wpAnyH_take (i := 5) (oi := ⟨some 10, _, _, _, _, _⟩) (v := undef) rfl (by kernel_rfl) (by kernel_rfl) (by kernel_rfl) (fun _ _ _ h => h) (Or.inr ⟨by kernel_rfl, rfl⟩) (by assumption) ?_
    (try simp only [Act.put, List.setIfInBounds_toArray, List.set_cons_zero, List.set_cons_succ])
    refine wpAnyH_take (i := 6) (oi := ⟨some 11, _, _, _, _, _⟩) (v := undef) rfl (by kernel_rfl) (by kernel_rfl) (by kernel_rfl) (fun _ _ _ h => h) (Or.inr ⟨by kernel_rfl, rfl⟩) (by assumption) ?_
    (try simp only [Act.put, List.setIfInBounds_toArray, List.set_cons_zero, List.set_cons_succ])
    refine wpAnyH_take (i := 7) (oi := ⟨some 12, _, _, _, _, _⟩) (v := undef) rfl (by kernel_rfl) (by kernel_rfl) (by kernel_rfl) (fun _ _ _ h => h) (Or.inr ⟨by kernel_rfl, rfl⟩) (by assumption) ?_
    (try simp only [Act.put, List.setIfInBounds_toArray, List.set_cons_zero, List.set_cons_succ])
    refine wpAnyH_take (i := 8) (oi := ⟨some 13, _, _, _, _, _⟩) (v := ?_) rfl (by kernel_rfl) (by kernel_rfl) (by kernel_rfl) (fun _ _ _ h => h) (Or.inl ⟨by kernel_rfl, ?_⟩) (by assumption) ?_
    rotate_left
    · (intro w hSw; (try dsimp only at hSw); go_simp; try with_reducible rfl)
    (try simp only [Act.put, List.setIfInBounds_toArray, List.set_cons_zero, List.set_cons_succ])
    refine wpAnyH_take (i := 9) (oi := ⟨some 14, _, _, _, _, _⟩) (v := ?_) rfl (by kernel_rfl) (by kernel_rfl) (by kernel_rfl) (fun _ _ _ h => h) (Or.inl ⟨by kernel_rfl, ?_⟩) (by assumption) ?_
    rotate_left
    · (intro w hSw; (try dsimp only at hSw); go_simp; try with_reducible rfl)
    (try simp only [Act.put, List.setIfInBounds_toArray, List.set_cons_zero, List.set_cons_succ])
    refine wpAnyH_take (i := 10) (oi := ⟨some 15, _, _, _, _, _⟩) (v := undef) rfl (by kernel_rfl) (by kernel_rfl) (by kernel_rfl) (fun _ _ _ h => h) (Or.inr ⟨by kernel_rfl, rfl⟩) (by assumption) ?_
    (try simp only [Act.put, List.setIfInBounds_toArray, List.set_cons_zero, List.set_cons_succ])
    refine wpAnyH_take (i := 11) (oi := ⟨some 16, _, _, _, _, _⟩) (v := undef) rfl (by kernel_rfl) (by kernel_rfl) (by kernel_rfl) (fun _ _ _ h => h) (Or.inr ⟨by kernel_rfl, rfl⟩) (by assumption) ?_
    (try simp only [Act.put, List.setIfInBounds_toArray, List.set_cons_zero, List.set_cons_succ])
    refine wpAnyH_take (i := 12) (oi := ⟨some 17, _, _, _, _, _⟩) (v := undef) rfl (by kernel_rfl) (by kernel_rfl) (by kernel_rfl) (fun _ _ _ h => h) (Or.inr ⟨by kernel_rfl, rfl⟩) (by assumption) ?_
    (try simp only [Act.put, List.setIfInBounds_toArray, List.set_cons_zero, List.set_cons_succ])
    refine wpAnyH_take (i := 13) (oi := ⟨some 18, _, _, _, _, _⟩) (v := undef) rfl (by kernel_rfl) (by kernel_rfl) (by kernel_rfl) (fun _ _ _ h => h) (Or.inr ⟨by kernel_rfl, rfl⟩) (by assumption) ?_
    (try simp only [Act.put, List.setIfInBounds_toArray, List.set_cons_zero, List.set_cons_succ])
    refine wpAnyH_take (i := 14) (oi := ⟨some 19, _, _, _, _, _⟩) (v := undef) rfl (by kernel_rfl) (by kernel_rfl) (by kernel_rfl) (fun _ _ _ h => h) (Or.inr ⟨by kernel_rfl, rfl⟩) (by assumption) ?_
    (try simp only [Act.put, List.setIfInBounds_toArray, List.set_cons_zero, List.set_cons_succ])
    refine wpAnyH_take (i := 15) (oi := ⟨some 20, _, _, _, _, _⟩) (v := ?_) rfl (by kernel_rfl) (by kernel_rfl) (by kernel_rfl) (fun _ _ _ h => h) (Or.inl ⟨by kernel_rfl, ?_⟩) (by assumption) ?_
    rotate_left
    · (intro w hSw; (try dsimp only at hSw); go_simp; try with_reducible rfl)
    (try simp only [Act.put, List.setIfInBounds_toArray, List.set_cons_zero, List.set_cons_succ])
    refine wpAnyH_take (i := 16) (oi := ⟨some 4, _, _, _, _, _⟩) (v := ?_) rfl (by kernel_rfl) (by kernel_rfl) (by kernel_rfl) (fun _ _ _ h => h) (Or.inl ⟨by kernel_rfl, ?_⟩) (by assumption) ?_
    rotate_left
    · (intro w hSw; (try dsimp only at hSw); go_simp; try with_reducible rfl)
    (try simp only [Act.put, List.setIfInBounds_toArray, List.set_cons_zero, List.set_cons_succ])
    refine wpAnyH_done (by kernel_rfl) ?_ _
    go_wp2
    go_ret
    exact ⟨by rw [HF.out]; rfl, HB.out _ k1.out⟩
  | true =>
  by_cases hks : k = sk
  rotate_left
  · have HF : Hid (R = false) := by show _ = _; rw [HG.out, decide_eq_false hks]; rfl
    have e1 : (sk == k) = false := by rw [beq_eq_false_iff_ne]; exact fun h => hks h.symm
    have e2 : (k == sk) = false := by rw [beq_eq_false_iff_ne]; exact hks
    refine wp_region_held_drew (S := fun V => V.cell? ⟨w.heap.size, 0, none⟩ = some (.int .i64 ser) ∧ V.cell? ⟨w.heap.size, 1, none⟩ = some (.string iss) ∧ V.cell? ⟨w.heap.size, 2, none⟩ = some (.string sub) ∧ V.cell? ⟨w.heap.size, 3, none⟩ = some (.int .i64 fr) ∧ V.cell? ⟨w.heap.size, 4, none⟩ = some (.int .i64 till) ∧ V.cell? ⟨w.heap.size, 5, none⟩ = some (.int .i64 key) ∧ V.cell? ⟨w.heap.size, 6, none⟩ = some (.slice a nl cap) ∧ V.cell? ⟨w.heap.size, 7, none⟩ = some (.bool ca) ∧ V.cell? ⟨w.heap.size, 8, none⟩ = some (.int .i64 sk) ∧ V.cell? ⟨w.heap.size, 9, none⟩ = some (.int .i64 se) ∧ V.cell? ⟨w.heap.size, 10, none⟩ = some (.int .i64 ss)) (by kernel_rfl) ?_ (fun hHeld => ?_)
    · exact HK.out _ D1.out
    refine wpAnyH_take (i := 0) (oi := ⟨some 5, _, _, _, _, _⟩) (v := ?_) rfl (by kernel_rfl) (by kernel_rfl) (by kernel_rfl) (fun _ _ _ h => h) (Or.inl ⟨by kernel_rfl, ?_⟩) (by assumption) ?_
    rotate_left
    · (intro w hSw; (try dsimp only at hSw); go_simp; try with_reducible rfl)
    (try simp only [Act.put, List.setIfInBounds_toArray, List.set_cons_zero, List.set_cons_succ])
    refine wpAnyH_ready (rs := [1]) (by kernel_rfl) (by simp) ?_
    refine AllReadyH.cons (o := ⟨some 6, _, _, _, _, _⟩) rfl (fun K hK => ?_) AllReadyH.nil
    go_simp
    refine (PC.out _ D1).mono ?_
    rintro r V1 ⟨rfl, k1⟩
    refine hK.out _ _ ?_ (fun hHeld => ?_)
    · exact HK.out _ k1.out
    clear hK K
    (try simp only [Act.put, List.setIfInBounds_toArray, List.set_cons_zero, List.set_cons_succ])
    refine wpAnyH_take (i := 2) (oi := ⟨some 7, _, _, _, _, _⟩) (v := ?_) rfl (by kernel_rfl) (by kernel_rfl) (by kernel_rfl) (fun _ _ _ h => h) (Or.inl ⟨by kernel_rfl, ?_⟩) (by assumption) ?_
    rotate_left
    · (intro w hSw; (try dsimp only at hSw); go_simp; try with_reducible rfl)
    (try simp only [Act.put, List.setIfInBounds_toArray, List.set_cons_zero, List.set_cons_succ])
    refine wpAnyH_take (i := 3) (oi := ⟨some 8, _, _, _, _, _⟩) (v := ?_) rfl (by kernel_rfl) (by kernel_rfl) (by kernel_rfl) (fun _ _ _ h => h) (Or.inl ⟨by kernel_rfl, ?_⟩) (by assumption) ?_
    rotate_left
    · (intro w hSw; (try dsimp only at hSw); go_simp; try with_reducible rfl)
    (try simp only [Act.put, List.setIfInBounds_toArray, List.set_cons_zero, List.set_cons_succ])
    refine wpAnyH_take (i := 4) (oi := ⟨some 9, _, _, _, _, _⟩) (v := ?_) rfl (by kernel_rfl) (by kernel_rfl) (by kernel_rfl) (fun _ _ _ h => h) (Or.inl ⟨by kernel_rfl, ?_⟩) (by assumption) ?_
    rotate_left
    · (intro w hSw; (try dsimp only at hSw); go_simp; try with_reducible rfl)
    (try simp only [Act.put, List.setIfInBounds_toArray, List.set_cons_zero, List.set_cons_succ])
    refine wpAnyH_take (i := 5) (oi := ⟨some 10, _, _, _, _, _⟩) (v := ?_) rfl (by kernel_rfl) (by kernel_rfl) (by kernel_rfl) (fun _ _ _ h => h) (Or.inl ⟨by kernel_rfl, ?_⟩) (by assumption) ?_
    rotate_left
    · (intro w hSw; (try dsimp only at hSw); go_simp; try with_reducible rfl)
    (try simp only [Act.put, List.setIfInBounds_toArray, List.set_cons_zero, List.set_cons_succ])
    refine wpAnyH_take (i := 6) (oi := ⟨some 11, _, _, _, _, _⟩) (v := ?_) rfl (by kernel_rfl) (by kernel_rfl) (by kernel_rfl) (fun _ _ _ h => h) (Or.inl ⟨by kernel_rfl, ?_⟩) (by assumption) ?_
    rotate_left
    · (intro w hSw; (try dsimp only at hSw); go_simp; try with_reducible rfl)
    (try simp only [Act.put, List.setIfInBounds_toArray, List.set_cons_zero, List.set_cons_succ])
    refine wpAnyH_take (i := 7) (oi := ⟨some 12, _, _, _, _, _⟩) (v := ?_) rfl (by kernel_rfl) (by kernel_rfl) (by kernel_rfl) (fun _ _ _ h => h) (Or.inl ⟨by kernel_rfl, ?_⟩) (by assumption) ?_
    rotate_left
    · (intro w hSw; (try dsimp only at hSw); go_simp; try with_reducible rfl)
    (try simp only [Act.put, List.setIfInBounds_toArray, List.set_cons_zero, List.set_cons_succ])
    refine wpAnyH_take (i := 8) (oi := ⟨some 13, _, _, _, _, _⟩) (v := ?_) rfl (by kernel_rfl) (by kernel_rfl) (by kernel_rfl) (fun _ _ _ h => h) (Or.inl ⟨by kernel_rfl, ?_⟩) (by assumption) ?_
    rotate_left
    · (intro w hSw; (try dsimp only at hSw); go_simp; try with_reducible rfl)
    (try simp only [Act.put, List.setIfInBounds_toArray, List.set_cons_zero, List.set_cons_succ])
    refine wpAnyH_take (i := 9) (oi := ⟨some 14, _, _, _, _, _⟩) (v := ?_) rfl (by kernel_rfl) (by kernel_rfl) (by kernel_rfl) (fun _ _ _ h => h) (Or.inl ⟨by kernel_rfl, ?_⟩) (by assumption) ?_
    rotate_left
    · (intro w hSw; (try dsimp only at hSw); go_simp; try with_reducible rfl)
    (try simp only [Act.put, List.setIfInBounds_toArray, List.set_cons_zero, List.set_cons_succ])
    refine wpAnyH_take (i := 10) (oi := ⟨some 15, _, _, _, _, _⟩) (v := undef) rfl (by kernel_rfl) (by kernel_rfl) (by kernel_rfl) (fun _ _ _ h => h) (Or.inr ⟨by kernel_rfl, rfl⟩) (by assumption) ?_
    (try simp only [Act.put, List.setIfInBounds_toArray, List.set_cons_zero, List.set_cons_succ])
    refine wpAnyH_take (i := 11) (oi := ⟨some 16, _, _, _, _, _⟩) (v := undef) rfl (by kernel_rfl) (by kernel_rfl) (by kernel_rfl) (fun _ _ _ h => h) (Or.inr ⟨by kernel_rfl, rfl⟩) (by assumption) ?_
    (try simp only [Act.put, List.setIfInBounds_toArray, List.set_cons_zero, List.set_cons_succ])
    refine wpAnyH_take (i := 12) (oi := ⟨some 17, _, _, _, _, _⟩) (v := undef) rfl (by kernel_rfl) (by kernel_rfl) (by kernel_rfl) (fun _ _ _ h => h) (Or.inr ⟨by kernel_rfl, rfl⟩) (by assumption) ?_
    (try simp only [Act.put, List.setIfInBounds_toArray, List.set_cons_zero, List.set_cons_succ])
    refine wpAnyH_take (i := 13) (oi := ⟨some 18, _, _, _, _, _⟩) (v := undef) rfl (by kernel_rfl) (by kernel_rfl) (by kernel_rfl) (fun _ _ _ h => h) (Or.inr ⟨by kernel_rfl, rfl⟩) (by assumption) ?_
    (try simp only [Act.put, List.setIfInBounds_toArray, List.set_cons_zero, List.set_cons_succ])
    refine wpAnyH_take (i := 14) (oi := ⟨some 19, _, _, _, _, _⟩) (v := undef) rfl (by kernel_rfl) (by kernel_rfl) (by kernel_rfl) (fun _ _ _ h => h) (Or.inr ⟨by kernel_rfl, rfl⟩) (by assumption) ?_
    (try simp only [Act.put, List.setIfInBounds_toArray, List.set_cons_zero, List.set_cons_succ])
    refine wpAnyH_take (i := 15) (oi := ⟨some 20, _, _, _, _, _⟩) (v := ?_) rfl (by kernel_rfl) (by kernel_rfl) (by kernel_rfl) (fun _ _ _ h => h) (Or.inl ⟨by kernel_rfl, ?_⟩) (by assumption) ?_
    rotate_left
    · (intro w hSw; (try dsimp only at hSw); go_simp; try with_reducible rfl)
    (try simp only [Act.put, List.setIfInBounds_toArray, List.set_cons_zero, List.set_cons_succ])
    refine wpAnyH_take (i := 16) (oi := ⟨some 4, _, _, _, _, _⟩) (v := ?_) rfl (by kernel_rfl) (by kernel_rfl) (by kernel_rfl) (fun _ _ _ h => h) (Or.inl ⟨by kernel_rfl, ?_⟩) (by assumption) ?_
    rotate_left
    · (intro w hSw; (try dsimp only at hSw); go_simp; try with_reducible rfl)
    (try simp only [Act.put, List.setIfInBounds_toArray, List.set_cons_zero, List.set_cons_succ])
    refine wpAnyH_done (by kernel_rfl) ?_ _
    go_wp2
    go_ret
    exact ⟨by rw [HF.out]; rfl, HB.out _ k1.out⟩
  · subst hks
    have hR : R = sigCB k se ss D := by rw [HG.out]; simp
    have zD := HZ.out rfl
    have Q1 := HQ.out rfl
    have PB : Hid (∀ V, Hid (Below w1.heap.size w1 V) → Calls Tryz.prog 47 #[.agg #[.int .i64 ser, .string iss, .string sub, .int .i64 fr, .int .i64 till, .int .i64 key, .slice a nl cap, .bool ca, .int .i64 k, .int .i64 se, .int .i64 ss]] V fun e W => e = .returned (.string D) ∧ Hid (Below w1.heap.size w1 W)) := fun V hV => (Q1 V (HA.out V hV.out)).mono fun e W h => ⟨h.1, hV.out.trans (h.2.mono hV.out.size)⟩
    have PG : Hid (∀ V, Hid (Below w1.heap.size w1 V) → Calls Tryz.prog 65 #[.agg #[.int .i64 k, .int .i64 se, .int .i64 ss], .string D] V fun e W => e = .returned (.bool R) ∧ Hid (Below w1.heap.size w1 W)) := fun V hV => by
      rw [hR]
      exact (specSigCheck k se ss D V (by unfold maxLen; omega)).mono fun e W h => ⟨h.1, hV.out.trans (h.2.mono hV.out.size)⟩
    clear hR zD Q1 HQ HZ HG HA
    go_region_held3 (fun V => V.cell? ⟨w.heap.size, 0, none⟩ = some (.int .i64 ser) ∧ V.cell? ⟨w.heap.size, 1, none⟩ = some (.string iss) ∧ V.cell? ⟨w.heap.size, 2, none⟩ = some (.string sub) ∧ V.cell? ⟨w.heap.size, 3, none⟩ = some (.int .i64 fr) ∧ V.cell? ⟨w.heap.size, 4, none⟩ = some (.int .i64 till) ∧ V.cell? ⟨w.heap.size, 5, none⟩ = some (.int .i64 key) ∧ V.cell? ⟨w.heap.size, 6, none⟩ = some (.slice a nl cap) ∧ V.cell? ⟨w.heap.size, 7, none⟩ = some (.bool ca) ∧ V.cell? ⟨w.heap.size, 8, none⟩ = some (.int .i64 k) ∧ V.cell? ⟨w.heap.size, 9, none⟩ = some (.int .i64 se) ∧ V.cell? ⟨w.heap.size, 10, none⟩ = some (.int .i64 ss)) (first | (refine ⟨?_, ?_, ?_, ?_, ?_, ?_, ?_, ?_, ?_, ?_, ?_⟩ <;> assumption) | exact HK.out _ (Hid.out (by assumption)))
      (first
        | (go_at_call 16; refine (PC.out _ (by assumption)).mono ?_; rintro r V1 ⟨rfl, k1⟩)
        | (go_at_call 47; refine (PB.out _ (by assumption)).mono ?_; rintro r V2 ⟨rfl, k2⟩)
        | (go_at_call 65; refine (PG.out _ (by assumption)).mono ?_; rintro r V3 ⟨rfl, k3⟩))
    go_wp2
    go_ret
    exact ⟨rfl, HB.out _ k3.out⟩
end Go.Proofs.YtkopinnhicoggaaGreatDoor
namespace Go.Proofs.YtkopinnhicoggaaGreatDoor
open Go.RowKit Go.Lib

/-- The table's byte at the top of a number. -/
theorem lenTop (x y : Int) (k : Nat) (hx0 : 0 ≤ x) (hx : x < 18446744073709551616) (hy : y = x / 2 ^ k) (hy1 : y ≤ 255) (hk : (2 : Int) ^ k ≤ x ∨ k = 0) : (k : Int) + Lib.len8 y = (Lib.bitLen x.toNat : Int) := by
  have hp : (0 : Int) < 2 ^ k := Int.pow_pos (by decide)
  have hy0 : 0 ≤ y := by rw [hy]; exact Int.ediv_nonneg hx0 (Int.le_of_lt hp)
  rw [Lib.len8_of y hy0 hy1]
  have e : y.toNat = x.toNat / 2 ^ k := by
    obtain ⟨n, rfl⟩ := Int.eq_ofNat_of_zero_le hx0
    rw [hy]
    have : ((n : Int) / 2 ^ k) = ((n / 2 ^ k : Nat) : Int) := by simp
    rw [this]; rfl
  rcases hk with hk | rfl
  · have h2 : 2 ^ k ≤ x.toNat := by
      obtain ⟨n, rfl⟩ := Int.eq_ofNat_of_zero_le hx0
      have : ((2 ^ k : Nat) : Int) ≤ (n : Int) := by simpa using hk
      show 2 ^ k ≤ n
      exact_mod_cast this
    have h3 : x.toNat < 2 ^ 64 := by
      have : (2 : Nat) ^ 64 = 18446744073709551616 := by decide
      omega
    rw [e, Lib.bitLen_shift k x.toNat h2 h3]
    omega
  · rw [e]; simp
theorem tabAt (y : Int) (h : y.toNat < len8tab.size) : (len8tab[y.toNat].toNat : Int) = Lib.len8 y := by
  unfold Lib.len8
  rw [getElem?_pos len8tab y.toNat h]; rfl
theorem lenGoal (x y : Int) (k : Nat) (h : y.toNat < len8tab.size) (hx0 : 0 ≤ x) (hx : x < 18446744073709551616) (hy : y = x / 2 ^ k) (hy1 : y ≤ 255) (hk : (2 : Int) ^ k ≤ x ∨ k = 0) :
    wrap64 ((k : Int) + wrap64 (len8tab[y.toNat].toNat : Int)) = (Lib.bitLen x.toNat : Int) := by
  have e := lenTop x y k hx0 hx hy hy1 hk
  have l := Lib.bitLen_le x.toNat 64 (by omega) (by have : (2 : Nat) ^ 64 = 18446744073709551616 := by decide
                                                    omega)
  rw [tabAt y h]
  have b : 0 ≤ Lib.len8 y := by unfold Lib.len8; omega
  have w1 : wrap64 (Lib.len8 y) = Lib.len8 y := by unfold wrap64; omega
  rw [w1]
  unfold wrap64
  omega
set_option maxHeartbeats 4000000 in
set_option maxRecDepth 100000 in
theorem len64 (x : Int) (w : World) (h0 : 0 ≤ x) (h1 : x ≤ 18446744073709551615) :
    Calls Tryz.prog 193 #[.int .u64 x] w fun e w' => e = .returned (.int .i64 (Lib.bitLen x.toNat : Int)) ∧ w' = w := by
  have hts : (len8tab.size : Int) = 256 := by rw [len8tab_size]; rfl
  go_enter Tryz.func193, Tryz.ntmps193
  go_wp2
  all_goals
    go_ret
    refine ⟨ret_int ?_, rfl⟩
    first
      | exact lenGoal x _ 56 (by omega) h0 (by omega) (by omega) (by omega) (by omega)
      | exact lenGoal x _ 48 (by omega) h0 (by omega) (by omega) (by omega) (by omega)
      | exact lenGoal x _ 40 (by omega) h0 (by omega) (by omega) (by omega) (by omega)
      | exact lenGoal x _ 32 (by omega) h0 (by omega) (by omega) (by omega) (by omega)
      | exact lenGoal x _ 24 (by omega) h0 (by omega) (by omega) (by omega) (by omega)
      | exact lenGoal x _ 16 (by omega) h0 (by omega) (by omega) (by omega) (by omega)
      | exact lenGoal x _ 8 (by omega) h0 (by omega) (by omega) (by omega) (by omega)
      | (have e := lenGoal x x 0 (by omega) h0 (by omega) (by simp) (by omega) (.inr rfl)
         rw [← e]
         simp)
theorem lenUint (x : Int) (w : World) (h0 : 0 ≤ x) (h1 : x ≤ 18446744073709551615) :
    Calls Tryz.prog 186 #[.int .u64 x] w fun e w' => e = .returned (.int .i64 (Lib.bitLen x.toNat : Int)) ∧ w' = w := by
  go_enter Tryz.func186, Tryz.ntmps186
  go_wp2_with fail
  refine (len64 x _ h0 h1).mono ?_
  rintro e w' ⟨rfl, rfl⟩
  go_wp2
  go_ret
  exact ⟨rfl, rfl⟩
end Go.Proofs.YtkopinnhicoggaaGreatDoor
namespace Go.Proofs.YtkopinnhicoggaaGreatDoor
open Go.RowKit Go.Lib

/-- How many bytes a length needs behind the first one. -/
def moreL (n : Nat) : Nat := if n < 128 then 0 else if n < 256 then 1 else 2
theorem bitLen_top {x k : Nat} (h0 : 2 ^ k ≤ x) (h1 : x < 2 ^ (k + 1)) (hk : k < 64) : Lib.bitLen x = k + 1 := by
  have hx : x < 2 ^ 64 := Nat.lt_of_lt_of_le h1 (Nat.pow_le_pow_right (by omega) (by omega))
  rw [Lib.bitLen_shift k x h0 hx]
  have e : x / 2 ^ k = 1 := by
    have := Nat.two_pow_pos k
    have a : 1 ≤ x / 2 ^ k := (Nat.le_div_iff_mul_le this).2 (by omega)
    have b : x / 2 ^ k < 2 := (Nat.div_lt_iff_lt_mul this).2 (by rw [Nat.pow_succ] at h1; omega)
    omega
  rw [e]
  have : Lib.bitLen 1 = 1 := by decide
  omega
theorem moreL_bits {n : Nat} (h0 : 128 ≤ n) (h1 : n < 65536) : (Lib.bitLen n + 7) / 8 = moreL n := by
  unfold moreL
  rw [if_neg (by omega)]
  split
  · rw [bitLen_top (k := 7) (by omega) (by omega) (by omega)]
  · have l := Lib.bitLen_le n 16 (by omega) (by omega)
    have g := Lib.bitLen_shift 8 n (by omega) (by omega)
    have g1 : 1 ≤ Lib.bitLen (n / 2 ^ 8) := by
      have := Lib.bitLen_half (n / 2 ^ 8) (by omega) (by omega)
      omega
    omega
set_option maxRecDepth 100000 in
theorem lengthBytes (n : Nat) (w : World) (h : n < 65536) :
    Calls Tryz.prog 168 #[.int .i64 (n : Int)] w fun e w' => e = .returned (.int .i64 (moreL n : Int)) ∧ w' = w := by
  by_cases h1 : n < 128
  · have HF : Hid (moreL n = 0) := if_pos h1
    go_enter Tryz.func168, Tryz.ntmps168
    go_wp2
    go_ret
    exact ⟨by rw [HF.out]; rfl, rfl⟩
  · have HF : Hid ((Lib.bitLen n + 7) / 8 = moreL n) := moreL_bits (by omega) h
    have l := Lib.bitLen_le n 16 (by omega) (by omega)
    go_enter Tryz.func168, Tryz.ntmps168
    go_wp2_with fail
    refine (lenUint _ _ (by omega) (by omega)).mono ?_
    rintro e w' ⟨rfl, rfl⟩
    rw [show ((n : Int).toNat) = n from rfl]
    generalize Lib.bitLen n = c at *
    go_wp2
    go_ret
    exact ⟨ret_int (by rw [← HF.out]; omega), rfl⟩
end Go.Proofs.YtkopinnhicoggaaGreatDoor
namespace Go.Proofs.YtkopinnhicoggaaGreatDoor
open Go.RowKit Go.Lib

theorem madeN (n : Nat) : (madeCells #[Value.int .u8 0] n).toList = List.replicate n (.int .u8 0) := by
  simp [madeCells, Nat.mod_one, List.map_const']
theorem made2 : (madeCells #[Value.int .u8 0] 2).toList = [.int .u8 0, .int .u8 0] := madeN 2
theorem made3 : (madeCells #[Value.int .u8 0] 3).toList = [.int .u8 0, .int .u8 0, .int .u8 0] := madeN 3
/-- 'string(b)' of a row that is known whole. -/
theorem convertRow (w : World) (g : Nat) (xs : List Int) (T n c : Nat) (hn : xs.length = n) (h : w.heap[g]? = some (.cells (xs.map (Value.int .u8)).toArray T (0, 0))) :
    (convert 22 9 (.slice (some ⟨g, 0, none⟩) n c)).run Tryz.prog w = .ok (.string (strOfNums xs)) w := by
  refine run_convert_bytes_arg _ 22 5 Tryz.underlying22 Tryz.underlying5 g 0 n c xs hn ?_ 9 Tryz.underlying9
  intro i hi
  rw [Nat.zero_add, cell_of_row _ _ i _ T (0, 0) h]
  have hi' : i < xs.length := by omega
  simp [hi', List.getD]
end Go.Proofs.YtkopinnhicoggaaGreatDoor
namespace Go.Proofs.YtkopinnhicoggaaGreatDoor
open Go.RowKit Go.Lib

set_option maxHeartbeats 1000000 in
set_option maxRecDepth 100000 in
theorem putLength (n : Nat) (w : World) (h : n ≤ 4000) :
    Calls Tryz.prog 143 #[.int .i64 (n : Int)] w fun e w' => e = .returned (.string (strOfNums (lenD n))) ∧ Below w.heap.size w w' := by
  obtain ⟨i0, hi, hz0, hz1, hz2⟩ := info_parts infoByte
  go_enter Tryz.func143, Tryz.ntmps143
  go_wp2_with fail
  refine (lengthBytes n _ (by omega)).mono ?_
  rintro e w' ⟨rfl, rfl⟩
  by_cases c1 : n < 128
  · have hm : moreL n = 0 := if_pos c1
    have HF : Hid (lenD n = [(n : Int)]) := by unfold Hid lenD; rw [if_pos c1]
    have hcv := convertRow (w'.alloc (.cells #[.int .u8 (n : Int)] 5 (0, 0))) w'.heap.size [(n : Int)] 5 1 1 rfl (heap_alloc_new _ _)
    rw [hm]
    go_wp2
    go_ret
    exact ⟨by rw [HF.out]; rfl, (Below.refl _ _).alloc (Nat.le_refl _) _⟩
  · by_cases c2 : n < 256
    · have hm : moreL n = 1 := by rw [moreL, if_neg c1, if_pos c2]
      have HF : Hid (lenD n = [129, (n : Int)]) := by unfold Hid lenD; rw [if_neg c1, if_pos c2]
      rw [hm]
      go_wp2_with (at_make; refine wpList_make_full _ rfl _ _ 22 rfl w'.heap.size 5 i0 (.int .u8 0) 1 Tryz.underlying22 hi hz0 hz1 .i64 .i64 _ _ 2 rfl rfl ?c1 ?c2 ?c3 ?c4 ?c5 ?_)
      case c1 => omega
      case c2 => omega
      case c3 => rw [hz2]; omega
      case c4 => unfold maxLen; omega
      case c5 => exact Nat.le_refl _
      intro w1 hown hgrow
      have hrow : w1.heap[w'.heap.size]? = some (.cells [Value.int .u8 0, .int .u8 0].toArray 5 (0, 0)) := by rw [(rowOf hown rfl).1, made2]
      have hB1 : Below w'.heap.size w' w1 := (Below.refl _ w').grown hgrow (Nat.le_refl _) (fun k hk => by cases hk)
      have r0 := rowFacts hrow 0 _ rfl
      have r1 := rowFacts hrow 1 _ rfl
      have f0 := frozen_of_row w1 w'.heap.size 0 _ 5 hrow
      have f1 := frozen_of_row w1 w'.heap.size 1 _ 5 hrow
      have hcv := convertRow _ w'.heap.size [129, (n : Int)] 5 2 2 rfl (rowSet (i := 1) (.int .u8 (n : Int)) (rowSet (i := 0) (.int .u8 129) hrow))
      have HB : Hid (∀ a b, Below w'.heap.size w' ((w1.setCell ⟨w'.heap.size, 0, none⟩ a).setCell ⟨w'.heap.size, 1, none⟩ b)) := fun a b => (hB1.setCell (Nat.le_refl _) a).setCell (Nat.le_refl _) b
      clear hown hgrow hrow hB1
      go_wp2_with fail
      refine wp_loop_rounds 2 ?_
      rw [rounds_succ]
      go_wp2
      rw [rounds_succ]
      go_wp2
      go_ret
      exact ⟨by rw [HF.out]; rfl, HB.out _ _⟩
    · have hm : moreL n = 2 := by rw [moreL, if_neg c1, if_neg c2]
      have HF : Hid (lenD n = [130, (n : Int) / 256, (n : Int) % 256]) := by unfold Hid lenD; rw [if_neg c1, if_neg c2]; simp
      rw [hm]
      go_wp2_with (at_make; refine wpList_make_full _ rfl _ _ 22 rfl w'.heap.size 5 i0 (.int .u8 0) 1 Tryz.underlying22 hi hz0 hz1 .i64 .i64 _ _ 3 rfl rfl ?c1 ?c2 ?c3 ?c4 ?c5 ?_)
      case c1 => omega
      case c2 => omega
      case c3 => rw [hz2]; omega
      case c4 => unfold maxLen; omega
      case c5 => exact Nat.le_refl _
      intro w1 hown hgrow
      have hrow : w1.heap[w'.heap.size]? = some (.cells [Value.int .u8 0, .int .u8 0, .int .u8 0].toArray 5 (0, 0)) := by rw [(rowOf hown rfl).1, made3]
      have hB1 : Below w'.heap.size w' w1 := (Below.refl _ w').grown hgrow (Nat.le_refl _) (fun k hk => by cases hk)
      have r0 := rowFacts hrow 0 _ rfl
      have r1 := rowFacts hrow 1 _ rfl
      have r2 := rowFacts hrow 2 _ rfl
      have f0 := frozen_of_row w1 w'.heap.size 0 _ 5 hrow
      have f1 := frozen_of_row w1 w'.heap.size 1 _ 5 hrow
      have f2 := frozen_of_row w1 w'.heap.size 2 _ 5 hrow
      have hcv := convertRow _ w'.heap.size [130, (n : Int) / 256, (n : Int) % 256] 5 3 3 rfl (rowSet (i := 1) (.int .u8 ((n : Int) / 256)) (rowSet (i := 2) (.int .u8 ((n : Int) % 256)) (rowSet (i := 0) (.int .u8 130) hrow)))
      have HB : Hid (∀ a b c, Below w'.heap.size w' (((w1.setCell ⟨w'.heap.size, 0, none⟩ a).setCell ⟨w'.heap.size, 2, none⟩ b).setCell ⟨w'.heap.size, 1, none⟩ c)) := fun a b c => ((hB1.setCell (Nat.le_refl _) a).setCell (Nat.le_refl _) b).setCell (Nat.le_refl _) c
      clear hown hgrow hrow hB1
      go_wp2_with fail
      refine wp_loop_rounds 3 ?_
      rw [rounds_succ]
      go_wp2
      rw [rounds_succ]
      go_wp2
      rw [rounds_succ]
      go_wp2
      go_ret
      exact ⟨by rw [HF.out]; rfl, HB.out _ _ _⟩
end Go.Proofs.YtkopinnhicoggaaGreatDoor
namespace Go.Proofs.YtkopinnhicoggaaGreatDoor
open Go.RowKit Go.Lib

theorem as00 (a : Int) (b : ByteArray) (w : World) : (Instr.typeAssert (.iface 123 (.agg #[.int .i64 a, .string b])) 138 97 true).run Tryz.prog w = .ok (.tuple #[.agg #[.int .i64 0], .bool false]) w := by kernel_rfl
theorem as01 (a : Int) (b : ByteArray) (w : World) : (Instr.typeAssert (.iface 123 (.agg #[.int .i64 a, .string b])) 138 119 true).run Tryz.prog w = .ok (.tuple #[.agg #[.slice none 0 0], .bool false]) w := by kernel_rfl
theorem as02 (a : Int) (b : ByteArray) (w : World) : (Instr.typeAssert (.iface 123 (.agg #[.int .i64 a, .string b])) 138 123 true).run Tryz.prog w = .ok (.tuple #[.agg #[.int .i64 a, .string b], .bool true]) w := by kernel_rfl
theorem as10 (a : Int) (w : World) : (Instr.typeAssert (.iface 97 (.agg #[.int .i64 a])) 138 97 true).run Tryz.prog w = .ok (.tuple #[.agg #[.int .i64 a], .bool true]) w := by kernel_rfl
theorem as20 (a : Value) (w : World) : (Instr.typeAssert (.iface 119 (.agg #[a])) 138 97 true).run Tryz.prog w = .ok (.tuple #[.agg #[.int .i64 0], .bool false]) w := by kernel_rfl
theorem as21 (a : Value) (w : World) : (Instr.typeAssert (.iface 119 (.agg #[a])) 138 119 true).run Tryz.prog w = .ok (.tuple #[.agg #[a], .bool true]) w := by kernel_rfl
end Go.Proofs.YtkopinnhicoggaaGreatDoor
namespace Go.Proofs.YtkopinnhicoggaaGreatDoor
open Go.RowKit Go.Lib

theorem tagPlain (t : Int) (b : ByteArray) (w : World) :
    Calls Tryz.prog 142 #[.iface 123 (.agg #[.int .i64 t, .string b])] w fun e w' => e = .returned (.int .i64 t) ∧ Below w.heap.size w w' := by
  have x0 := as00
  have x1 := as01
  have x2 := as02
  go_enter Tryz.func142, Tryz.ntmps142
  go_wp2
  go_ret
  exact ⟨rfl, (Below.refl _ _).alloc (Nat.le_refl _) _⟩
theorem bodyPlain (t : Int) (b : ByteArray) (w : World) :
    Calls Tryz.prog 225 #[.agg #[.int .i64 t, .string b]] w fun e w' => e = .returned (.string b) ∧ Below w.heap.size w w' := by
  go_enter Tryz.func225, Tryz.ntmps225
  go_wp2
  go_ret
  exact ⟨rfl, by repeat (first | exact Below.refl _ _ | refine Below.setCell ?_ (by simp) _ | refine Below.alloc ?_ (by simp) _)⟩
theorem methodPlain (v : Value) (w : World) : (Go.method 357 123 v "loop.example/g00371/impl.body").run Tryz.prog w = .ok (225, v) w := by kernel_rfl
set_option maxHeartbeats 1000000 in
set_option maxRecDepth 100000 in
/-- layThing at a thing whose body is laid already. -/
theorem layPlain (t : Int) (b : ByteArray) (w : World) (h0 : 0 ≤ t) (h1 : t ≤ 255) (hb : b.size ≤ 4000) :
    Calls Tryz.prog 104 #[.iface 123 (.agg #[.int .i64 t, .string b])] w fun e w' => e = .returned (.string (thingD t b)) ∧ Below w.heap.size w w' := by
  have hmt := methodPlain
  have ew : IntKind.u8.wrap t = t := by rw [IntKind.wrap_u8]; omega
  go_enter Tryz.func104, Tryz.ntmps104
  go_wp2_with fail
  refine (bodyPlain t b _).mono ?_
  rintro e w1 ⟨rfl, hb1⟩
  have s1 := hb1.size
  have HT1 : Hid (∀ V : World, Hid (Below w.heap.size w V) → Calls Tryz.prog 142 #[.iface 123 (.agg #[.int .i64 t, .string b])] V fun e W => e = .returned (.int .i64 t) ∧ Hid (Below w.heap.size w W)) := fun V hV => by
    refine (tagPlain t b V).mono ?_
    rintro e W ⟨rfl, hW⟩
    exact ⟨rfl, hV.out.trans (hW.mono hV.out.size)⟩
  have HT2 : Hid (∀ V : World, Hid (Below w.heap.size w V) → Calls Tryz.prog 143 #[.int .i64 (b.size : Int)] V fun e W => e = .returned (.string (strOfNums (lenD b.size))) ∧ Hid (Below w.heap.size w W) ∧ Hid (∀ k o, V.heap[k]? = some o → W.heap[k]? = some o)) := fun V hV => by
    refine (putLength b.size V hb).mono ?_
    rintro e W ⟨rfl, hW⟩
    refine ⟨rfl, hV.out.trans (hW.mono hV.out.size), fun k o hk => ?_⟩
    rw [hW.block k (heap_lt hk)]; exact hk
  have HF : Hid (∀ s l, s = strOfNums [t] → l = strOfNums (lenD b.size) → s ++ l ++ b = thingD t b) := fun s l hs hl => by
    subst hs hl
    unfold thingD headD
    congr 1
  have hl1 : (strOfNums [t]).size = 1 := rfl
  have hl2 : (strOfNums (lenD b.size)).size ≤ 3 := by rw [strOfNums_size]; exact lenD_le _
  have hcv := fun V => convertLit V #[.int .u8 t] [t] rfl 1 rfl 5
  have HE := HF.out _ _ rfl rfl
  have HCR := fun W2 k h => convertRow W2 k [t] 5 1 1 rfl h
  generalize strOfNums [t] = s at *
  generalize strOfNums (lenD b.size) = l at *
  have HE : Hid (s ++ l ++ b = thingD t b) := HE
  have HCR : Hid (∀ (W2 : World) (k : Nat), W2.heap[k]? = some (.cells ([t].map (Value.int .u8)).toArray 5 (0, 0)) → (convert 22 9 (.slice (some ⟨k, 0, none⟩) 1 1)).run Tryz.prog W2 = .ok (.string s) W2) := HCR
  have HJ : Hid (∀ (V : World) (x y : ByteArray), Hid (Below w.heap.size w V) → x.size ≤ 4 → y.size ≤ 4000 → Calls Tryz.prog 87 #[.string x, .string y] V fun e W => e = .returned (.string (x ++ y)) ∧ Hid (Below w.heap.size w W)) := fun V x y hV hx hy => by
    refine (joinTexts x y V (by omega) (by omega)).mono ?_
    rintro e W ⟨rfl, hW⟩
    exact ⟨rfl, hV.out.trans (hW.mono hV.out.size)⟩
  have B1 : Hid (Below w.heap.size w w1) := hb1
  have HA : Hid (∀ V o, Hid (Below w.heap.size w V) → Hid (Below w.heap.size w (V.alloc o))) := fun V o h => h.out.alloc h.out.size o
  clear hb1 hmt HF
  go_wp2_with fail
  have D1 : Hid (Below w.heap.size w w1.drew) := B1.out.drew
  go_region_with (first
    | (go_at_call 142; refine (HT1.out _ (by first | assumption | exact HA.out _ _ (by assumption))).mono ?_; rintro r W1 ⟨rfl, k1⟩)
    | (go_at_call 143; refine (HT2.out _ (by first | assumption | exact HA.out _ _ (by assumption))).mono ?_; rintro r W2 ⟨rfl, k2, e2⟩; (first | have hcv2 := HCR.out W2 _ (e2.out _ _ (heap_alloc_new _ _)) | skip))
    | (go_at_call 87; refine (HJ.out _ _ _ (by first | assumption | exact HA.out _ _ (by assumption)) (by omega) (by omega)).mono ?_; rintro r W3 ⟨rfl, k3⟩))
  all_goals
    have hl3 : (s ++ l).size ≤ 4 := by rw [ByteArray.size_append]; omega
    have HQ := HJ.out W3 (s ++ l) b k3 hl3 hb
    rw [HE.out] at HQ
    generalize s ++ l = q at *
    have HQ : Hid (Calls Tryz.prog 87 #[.string q, .string b] W3 fun e W => e = .returned (.string (thingD t b)) ∧ Hid (Below w.heap.size w W)) := HQ
    clear HT1 HT2 HJ HCR HE hcv
    go_wp2_with fail
    refine HQ.out.mono ?_
    rintro r W4 ⟨rfl, k4⟩
    go_wp2
    go_ret
    exact ⟨rfl, k4.out⟩
end Go.Proofs.YtkopinnhicoggaaGreatDoor
