/- impl.boxCrl, walked. impl.isRemainder, impl.SigRight, walked. An error of errors.New's make in one of the program's variables. The methods of impl.signedBox over impl.Crl: right, walked. impl.SecretRight, walked. impl.digestNumber, walked: the number of the digest of two texts, the one behind the other. impl.tooLong, walked. impl.GroupPow, walked. impl.Challenge, walked. -/
import Derived.Test.YthofeoelndplpaaGreatDoorLGd12
import Derived.Test.YthofeoelndplpaaGreatDoorLGd04
import Derived.Deep.RegionHeld3
import Derived.Test.YthofeoelndplpaaGreatDoorLGd02
import Derived.Test.YthofeoelndplpaaGreatDoorLGd01
import Derived.Below
import Derived.Deep.Cut
import Derived.Test.YthofeoelndplpaaGreatDoorLGd05
import Derived.Test.YthofeoelndplpaaGreatDoorLGd11
namespace Go.Proofs.YthofeoelndplpaaGreatDoor
open Go.RowKit

/-- The box, its text D, its numbers behind n, its list behind v. -/
def Lst.box (c : Lst) (v : Value) (D : ByteArray) (n : Value) : Value := .agg #[.string c.issuer, .int .i64 c.fr, .int .i64 c.till, v, .int .i64 c.sk, .int .i64 c.se, .int .i64 c.ss, .string D, .int .i64 c.sk, .int .i64 c.se, .int .i64 c.ss, n]
theorem sizeBoxCrl : (Tryz.prog.info? 75).map (·.size) = some 12 := by kernel_rfl
set_option linter.unusedSimpArgs false in
set_option maxHeartbeats 4000000 in
set_option maxRecDepth 100000 in
theorem boxCrl (c : Lst) (a : Option Addr) (cap : Nat) (w : World) (hi : c.issuer.size ≤ maxLen) (hl : c.serials.length ≤ 1048576) (ha : IsInts w a c.serials) :
    Calls Tryz.prog 50 #[c.val (.slice a c.serials.length cap)] w fun e w' => ∃ g, e = .returned (c.box (.slice a c.serials.length cap) (listE c) (.slice (some ⟨g, 0, none⟩) 3 3)) ∧ Row3 c.sk c.se c.ss w' g ∧ Below w.heap.size w w' := by
  have HP : Hid (∀ V, IsInts V a c.serials → Calls Tryz.prog 81 #[c.val (.slice a c.serials.length cap)] V fun e w' => e = .returned (.string (listE c)) ∧ Below V.heap.size V w') := fun V hV => implListD c a cap V hi hl hV
  generalize listE c = D at *
  clear hi hl
  obtain ⟨iss, fr, till, serials, sk, se, ss⟩ := c
  unfold Lst.val at *
  unfold Lst.box
  simp only at HP ha ⊢
  generalize serials.length = nl at *
  obtain ⟨w1, hw1⟩ : ∃ w1, w1 = (w.alloc (.cells #[.string iss, .int .i64 fr, .int .i64 till, .slice a nl cap, .int .i64 sk, .int .i64 se, .int .i64 ss] 46 (0, 0))).alloc (.cells #[.string ⟨#[]⟩, .int .i64 0, .int .i64 0, .slice none 0 0, .int .i64 0, .int .i64 0, .int .i64 0, .string ⟨#[]⟩, .int .i64 0, .int .i64 0, .int .i64 0, .slice none 0 0] 75 (0, 0)) := ⟨_, rfl⟩
  have r0 : w1.heap[w.heap.size]? = some (.cells [Value.string iss, .int .i64 fr, .int .i64 till, .slice a nl cap, .int .i64 sk, .int .i64 se, .int .i64 ss].toArray 46 (0, 0)) := by rw [hw1, Below.heap_alloc _ _ _ (by simp)]; exact heap_alloc_new w _
  have r1 : w1.heap[w.heap.size + 1]? = some (.cells [Value.string ⟨#[]⟩, .int .i64 0, .int .i64 0, .slice none 0 0, .int .i64 0, .int .i64 0, .int .i64 0, .string ⟨#[]⟩, .int .i64 0, .int .i64 0, .int .i64 0, .slice none 0 0].toArray 75 (0, 0)) := by rw [hw1]; exact heap_alloc2 w _ _
  have B1 : Hid (Below w.heap.size w w1) := by rw [hw1]; exact ((Below.refl _ _).alloc (Nat.le_refl _) _).alloc (by simp) _
  have HRw : Hid (∀ V, Below w1.heap.size w1 V → V.heap[w.heap.size]? = some (.cells [Value.string iss, .int .i64 fr, .int .i64 till, .slice a nl cap, .int .i64 sk, .int .i64 se, .int .i64 ss].toArray 46 (0, 0)) ∧ V.heap[w.heap.size + 1]? = some (.cells [Value.string ⟨#[]⟩, .int .i64 0, .int .i64 0, .slice none 0 0, .int .i64 0, .int .i64 0, .int .i64 0, .string ⟨#[]⟩, .int .i64 0, .int .i64 0, .int .i64 0, .slice none 0 0].toArray 75 (0, 0))) := fun V hV => ⟨(hV.block _ (heap_lt r0)).trans r0, (hV.block _ (heap_lt r1)).trans r1⟩
  have HC : Hid (∀ V : World, V.heap[w.heap.size]? = some (.cells [Value.string iss, .int .i64 fr, .int .i64 till, .slice a nl cap, .int .i64 sk, .int .i64 se, .int .i64 ss].toArray 46 (0, 0)) → V.cell? ⟨w.heap.size, 0, none⟩ = some (.string iss) ∧ V.cell? ⟨w.heap.size, 1, none⟩ = some (.int .i64 fr) ∧ V.cell? ⟨w.heap.size, 2, none⟩ = some (.int .i64 till) ∧ V.cell? ⟨w.heap.size, 3, none⟩ = some (.slice a nl cap) ∧ V.cell? ⟨w.heap.size, 4, none⟩ = some (.int .i64 sk) ∧ V.cell? ⟨w.heap.size, 5, none⟩ = some (.int .i64 se) ∧ V.cell? ⟨w.heap.size, 6, none⟩ = some (.int .i64 ss)) := fun V hP => ⟨rowFacts hP 0 _ rfl, rowFacts hP 1 _ rfl, rowFacts hP 2 _ rfl, rowFacts hP 3 _ rfl, rowFacts hP 4 _ rfl, rowFacts hP 5 _ rfl, rowFacts hP 6 _ rfl⟩
  have HK : Hid (∀ V, Below w1.heap.size w1 V → V.cell? ⟨w.heap.size, 0, none⟩ = some (.string iss) ∧ V.cell? ⟨w.heap.size, 1, none⟩ = some (.int .i64 fr) ∧ V.cell? ⟨w.heap.size, 2, none⟩ = some (.int .i64 till) ∧ V.cell? ⟨w.heap.size, 3, none⟩ = some (.slice a nl cap) ∧ V.cell? ⟨w.heap.size, 4, none⟩ = some (.int .i64 sk) ∧ V.cell? ⟨w.heap.size, 5, none⟩ = some (.int .i64 se) ∧ V.cell? ⟨w.heap.size, 6, none⟩ = some (.int .i64 ss)) := fun V hV => HC.out V (HRw.out V hV).1
  have HA : Hid (∀ V, Below w1.heap.size w1 V → IsInts V a serials) := fun V hV => (ha.keep B1.out).keep hV
  have HB : Hid (∀ V, Below w1.heap.size w1 V → Below w.heap.size w V) := fun V hV => B1.out.trans (hV.mono B1.out.size)
  have Z1 : Hid (w1.heap.size = w.heap.size + 2) := by show _ = _; rw [hw1]; simp
  have I1 : Hid (Below w1.heap.size w1 w1) := Below.refl _ _
  have D1 : Hid (Below w1.heap.size w1 w1.drew) := I1.out.drew
  clear r0 r1 B1 ha
  obtain ⟨c0, c1, c2, c3, c4, c5, c6⟩ := HK.out w1 I1.out
  go_enter Tryz.func50, Tryz.ntmps50
  go_upto_region 1 with fail
  rw [← hw1]
  clear hw1
  refine wp_region_held_drew (S := fun V => V.cell? ⟨w.heap.size, 0, none⟩ = some (.string iss) ∧ V.cell? ⟨w.heap.size, 1, none⟩ = some (.int .i64 fr) ∧ V.cell? ⟨w.heap.size, 2, none⟩ = some (.int .i64 till) ∧ V.cell? ⟨w.heap.size, 3, none⟩ = some (.slice a nl cap) ∧ V.cell? ⟨w.heap.size, 4, none⟩ = some (.int .i64 sk) ∧ V.cell? ⟨w.heap.size, 5, none⟩ = some (.int .i64 se) ∧ V.cell? ⟨w.heap.size, 6, none⟩ = some (.int .i64 ss)) (by kernel_rfl) ?_ (fun hHeld => ?_)
  · exact HK.out _ D1.out
  refine wpAnyH_take (i := 0) (oi := ⟨some 3, _, _, _, _, _⟩) (v := ?_) rfl (by kernel_rfl) (by kernel_rfl) (by kernel_rfl) (fun _ _ _ h => h) (Or.inl ⟨by kernel_rfl, ?_⟩) (by assumption) ?_
  rotate_left
  · (intro w hSw; (try dsimp only at hSw); go_simp; try with_reducible rfl)
  (try simp only [Act.put, List.setIfInBounds_toArray, List.set_cons_zero, List.set_cons_succ])
  refine wpAnyH_take (i := 1) (oi := ⟨some 4, _, _, _, _, _⟩) (v := ?_) rfl (by kernel_rfl) (by kernel_rfl) (by kernel_rfl) (fun _ _ _ h => h) (Or.inl ⟨by kernel_rfl, ?_⟩) (by assumption) ?_
  rotate_left
  · (intro w hSw; (try dsimp only at hSw); go_simp; try with_reducible rfl)
  (try simp only [Act.put, List.setIfInBounds_toArray, List.set_cons_zero, List.set_cons_succ])
  refine wpAnyH_take (i := 3) (oi := ⟨some 6, _, _, _, _, _⟩) (v := ?_) rfl (by kernel_rfl) (by kernel_rfl) (by kernel_rfl) (fun _ _ _ h => h) (Or.inl ⟨by kernel_rfl, ?_⟩) (by assumption) ?_
  rotate_left
  · (intro w hSw; (try dsimp only at hSw); go_simp; try with_reducible rfl)
  (try simp only [Act.put, List.setIfInBounds_toArray, List.set_cons_zero, List.set_cons_succ])
  refine wpAnyH_take (i := 4) (oi := ⟨some 7, _, _, _, _, _⟩) (v := ?_) rfl (by kernel_rfl) (by kernel_rfl) (by kernel_rfl) (fun _ _ _ h => h) (Or.inl ⟨by kernel_rfl, ?_⟩) (by assumption) ?_
  rotate_left
  · (intro w hSw; (try dsimp only at hSw); go_simp; try with_reducible rfl)
  (try simp only [Act.put, List.setIfInBounds_toArray, List.set_cons_zero, List.set_cons_succ])
  refine wpAnyH_take (i := 5) (oi := ⟨some 8, _, _, _, _, _⟩) (v := ?_) rfl (by kernel_rfl) (by kernel_rfl) (by kernel_rfl) (fun _ _ _ h => h) (Or.inl ⟨by kernel_rfl, ?_⟩) (by assumption) ?_
  rotate_left
  · (intro w hSw; (try dsimp only at hSw); go_simp; try with_reducible rfl)
  (try simp only [Act.put, List.setIfInBounds_toArray, List.set_cons_zero, List.set_cons_succ])
  refine wpAnyH_take (i := 6) (oi := ⟨some 9, _, _, _, _, _⟩) (v := ?_) rfl (by kernel_rfl) (by kernel_rfl) (by kernel_rfl) (fun _ _ _ h => h) (Or.inl ⟨by kernel_rfl, ?_⟩) (by assumption) ?_
  rotate_left
  · (intro w hSw; (try dsimp only at hSw); go_simp; try with_reducible rfl)
  (try simp only [Act.put, List.setIfInBounds_toArray, List.set_cons_zero, List.set_cons_succ])
  refine wpAnyH_take (i := 7) (oi := ⟨some 10, _, _, _, _, _⟩) (v := ?_) rfl (by kernel_rfl) (by kernel_rfl) (by kernel_rfl) (fun _ _ _ h => h) (Or.inl ⟨by kernel_rfl, ?_⟩) (by assumption) ?_
  rotate_left
  · (intro w hSw; (try dsimp only at hSw); go_simp; try with_reducible rfl)
  (try simp only [Act.put, List.setIfInBounds_toArray, List.set_cons_zero, List.set_cons_succ])
  refine wpAnyH_take (i := 8) (oi := ⟨some 11, _, _, _, _, _⟩) (v := ?_) rfl (by kernel_rfl) (by kernel_rfl) (by kernel_rfl) (fun _ _ _ h => h) (Or.inl ⟨by kernel_rfl, ?_⟩) (by assumption) ?_
  rotate_left
  · (intro w hSw; (try dsimp only at hSw); go_simp; try with_reducible rfl)
  (try simp only [Act.put, List.setIfInBounds_toArray, List.set_cons_zero, List.set_cons_succ])
  refine wpAnyH_take (i := 9) (oi := ⟨some 12, _, _, _, _, _⟩) (v := ?_) rfl (by kernel_rfl) (by kernel_rfl) (by kernel_rfl) (fun _ _ _ h => h) (Or.inl ⟨by kernel_rfl, ?_⟩) (by assumption) ?_
  rotate_left
  · (intro w hSw; (try dsimp only at hSw); go_simp; try with_reducible rfl)
  (try simp only [Act.put, List.setIfInBounds_toArray, List.set_cons_zero, List.set_cons_succ])
  refine wpAnyH_take (i := 10) (oi := ⟨some 13, _, _, _, _, _⟩) (v := ?_) rfl (by kernel_rfl) (by kernel_rfl) (by kernel_rfl) (fun _ _ _ h => h) (Or.inl ⟨by kernel_rfl, ?_⟩) (by assumption) ?_
  rotate_left
  · (intro w hSw; (try dsimp only at hSw); go_simp; try with_reducible rfl)
  (try simp only [Act.put, List.setIfInBounds_toArray, List.set_cons_zero, List.set_cons_succ])
  refine wpAnyH_take (i := 11) (oi := ⟨some 14, _, _, _, _, _⟩) (v := ?_) rfl (by kernel_rfl) (by kernel_rfl) (by kernel_rfl) (fun _ _ _ h => h) (Or.inl ⟨by kernel_rfl, ?_⟩) (by assumption) ?_
  rotate_left
  · (intro w hSw; (try dsimp only at hSw); go_simp; try with_reducible rfl)
  (try simp only [Act.put, List.setIfInBounds_toArray, List.set_cons_zero, List.set_cons_succ])
  refine wpAnyH_take (i := 12) (oi := ⟨some 15, _, _, _, _, _⟩) (v := ?_) rfl (by kernel_rfl) (by kernel_rfl) (by kernel_rfl) (fun _ _ _ h => h) (Or.inl ⟨by kernel_rfl, ?_⟩) (by assumption) ?_
  rotate_left
  · (intro w hSw; (try dsimp only at hSw); go_simp; try with_reducible rfl)
  (try simp only [Act.put, List.setIfInBounds_toArray, List.set_cons_zero, List.set_cons_succ])
  refine wpAnyH_take (i := 13) (oi := ⟨some 16, _, _, _, _, _⟩) (v := ?_) rfl (by kernel_rfl) (by kernel_rfl) (by kernel_rfl) (fun _ _ _ h => h) (Or.inl ⟨by kernel_rfl, ?_⟩) (by assumption) ?_
  rotate_left
  · (intro w hSw; (try dsimp only at hSw); go_simp; try with_reducible rfl)
  (try simp only [Act.put, List.setIfInBounds_toArray, List.set_cons_zero, List.set_cons_succ])
  refine wpAnyH_ready (rs := [2, 14]) (by kernel_rfl) (by simp) ?_
  refine AllReadyH.cons (o := ⟨some 5, _, _, _, _, _⟩) rfl (fun K hK => ?_) (AllReadyH.cons (o := ⟨some 17, _, _, _, _, _⟩) rfl (fun K hK => ?_) AllReadyH.nil)
  · -- the body first
    go_simp
    refine (HP.out _ (HA.out _ D1.out)).mono ?_
    rintro r V1 ⟨rfl, bV⟩
    have J1 : Hid (Below w1.heap.size w1 V1) := D1.out.trans (bV.mono D1.out.size)
    refine hK.out _ _ ?_ (fun hHeld => ?_)
    · exact HK.out _ J1.out
    clear hK K bV
    (try simp only [Act.put, List.setIfInBounds_toArray, List.set_cons_zero, List.set_cons_succ])
    refine wpAnyH_ready (rs := [14]) (by kernel_rfl) (by simp) ?_
    refine AllReadyH.cons (o := ⟨some 17, _, _, _, _, _⟩) rfl (fun K hK => ?_) AllReadyH.nil
    go_simp
    have J2 : Hid (Below w1.heap.size w1 (World.alloc V1 (.cells #[.int .i64 sk, .int .i64 se, .int .i64 ss] 2 (0, 0)))) := J1.out.alloc J1.out.size _
    refine hK.out _ _ ?_ (fun hHeld => ?_)
    · exact HK.out _ J2.out
    clear hK K
    (try simp only [Act.put, List.setIfInBounds_toArray, List.set_cons_zero, List.set_cons_succ])
    refine wpAnyH_take (i := 15) (oi := ⟨some 18, _, _, _, _, _⟩) (v := ?_) rfl (by kernel_rfl) (by kernel_rfl) (by kernel_rfl) (fun _ _ _ h => h) (Or.inl ⟨by kernel_rfl, ?_⟩) (by assumption) ?_
    rotate_left
    · (intro w hSw; (try dsimp only at hSw); go_simp; try with_reducible rfl)
    (try simp only [Act.put, List.setIfInBounds_toArray, List.set_cons_zero, List.set_cons_succ])
    refine wpAnyH_ready (rs := [16]) (by kernel_rfl) (by simp) ?_
    refine AllReadyH.cons (o := ⟨none, _, _, _, _, _⟩) rfl (fun K hK => ?_) AllReadyH.nil
    rw [if_pos (by rfl)]
    refine wp_store_row 75 _ _ rfl (w.heap.size + 1) [Value.string ⟨#[]⟩, .int .i64 0, .int .i64 0, .slice none 0 0, .int .i64 0, .int .i64 0, .int .i64 0, .string ⟨#[]⟩, .int .i64 0, .int .i64 0, .int .i64 0, .slice none 0 0] [Value.string iss, .int .i64 fr, .int .i64 till, .slice a nl cap, .int .i64 sk, .int .i64 se, .int .i64 ss, .string D, .int .i64 sk, .int .i64 se, .int .i64 ss, .slice (some ⟨V1.heap.size, 0, none⟩) 3 3] 75 rfl rfl (HRw.out _ J2.out).2 rfl sizeBoxCrl (by simp [Value.oneCell']) ?_
    intro w9 hrow ho hs9 hbb
    have HROW : Hid _ := hrow
    have HB9 : Hid (Below w.heap.size w w9) := hbb _ _ (by omega) (HB.out _ J2.out)
    have HO9 : Hid (∀ k, k ≠ w.heap.size + 1 → w9.heap[k]? = (World.alloc V1 (.cells #[.int .i64 sk, .int .i64 se, .int .i64 ss] 2 (0, 0))).heap[k]?) := ho
    refine hK.out _ _ ?_ (fun hHeld => ?_)
    · exact HC.out _ ((ho _ (by omega)).trans (HRw.out _ J2.out).1)
    clear hK K ho hs9 hbb hrow
    (try simp only [Act.put, List.setIfInBounds_toArray, List.set_cons_zero, List.set_cons_succ])
    refine wpAnyH_done (by kernel_rfl) ?_ _
    go_wp2
    refine bodyPost_ret (v := .agg [Value.string iss, .int .i64 fr, .int .i64 till, .slice a nl cap, .int .i64 sk, .int .i64 se, .int .i64 ss, .string D, .int .i64 sk, .int .i64 se, .int .i64 ss, .slice (some ⟨V1.heap.size, 0, none⟩) 3 3].toArray) ?_ rfl ⟨V1.heap.size, rfl, (HO9.out _ (by have h1 := J1.out.size; have h2 := Z1.out; omega)).trans (heap_alloc_new V1 _), HB9.out⟩
    have hl3 := run_loadVar_mid (P := Tryz.prog) _ (w.heap.size + 1) 0 75 _ _ (rangeRow HROW.out) Tryz.underlying75 rfl sizeBoxCrl
    simp [results, Tryz.results50, asAddr, hl3]
  · -- the numbers first
    go_simp
    have J1 : Hid (Below w1.heap.size w1 (World.alloc w1.drew (.cells #[.int .i64 sk, .int .i64 se, .int .i64 ss] 2 (0, 0)))) := D1.out.alloc D1.out.size _
    refine hK.out _ _ ?_ (fun hHeld => ?_)
    · exact HK.out _ J1.out
    clear hK K
    (try simp only [Act.put, List.setIfInBounds_toArray, List.set_cons_zero, List.set_cons_succ])
    refine wpAnyH_ready (rs := [2]) (by kernel_rfl) (by simp) ?_
    refine AllReadyH.cons (o := ⟨some 5, _, _, _, _, _⟩) rfl (fun K hK => ?_) AllReadyH.nil
    go_simp
    refine (HP.out _ (HA.out _ J1.out)).mono ?_
    rintro r V2 ⟨rfl, bV⟩
    have J2 : Hid (Below w1.heap.size w1 V2) := J1.out.trans (bV.mono J1.out.size)
    have G2 : Hid (Row3 sk se ss V2 w1.drew.heap.size) := (bV.block _ (by simp)).trans (heap_alloc_new w1.drew _)
    refine hK.out _ _ ?_ (fun hHeld => ?_)
    · exact HK.out _ J2.out
    clear hK K bV
    (try simp only [Act.put, List.setIfInBounds_toArray, List.set_cons_zero, List.set_cons_succ])
    refine wpAnyH_take (i := 15) (oi := ⟨some 18, _, _, _, _, _⟩) (v := ?_) rfl (by kernel_rfl) (by kernel_rfl) (by kernel_rfl) (fun _ _ _ h => h) (Or.inl ⟨by kernel_rfl, ?_⟩) (by assumption) ?_
    rotate_left
    · (intro w hSw; (try dsimp only at hSw); go_simp; try with_reducible rfl)
    (try simp only [Act.put, List.setIfInBounds_toArray, List.set_cons_zero, List.set_cons_succ])
    refine wpAnyH_ready (rs := [16]) (by kernel_rfl) (by simp) ?_
    refine AllReadyH.cons (o := ⟨none, _, _, _, _, _⟩) rfl (fun K hK => ?_) AllReadyH.nil
    rw [if_pos (by rfl)]
    refine wp_store_row 75 _ _ rfl (w.heap.size + 1) [Value.string ⟨#[]⟩, .int .i64 0, .int .i64 0, .slice none 0 0, .int .i64 0, .int .i64 0, .int .i64 0, .string ⟨#[]⟩, .int .i64 0, .int .i64 0, .int .i64 0, .slice none 0 0] [Value.string iss, .int .i64 fr, .int .i64 till, .slice a nl cap, .int .i64 sk, .int .i64 se, .int .i64 ss, .string D, .int .i64 sk, .int .i64 se, .int .i64 ss, .slice (some ⟨w1.drew.heap.size, 0, none⟩) 3 3] 75 rfl rfl (HRw.out _ J2.out).2 rfl sizeBoxCrl (by simp [Value.oneCell']) ?_
    intro w9 hrow ho hs9 hbb
    have HROW : Hid _ := hrow
    have HB9 : Hid (Below w.heap.size w w9) := hbb _ _ (by omega) (HB.out _ J2.out)
    have HO9 : Hid (∀ k, k ≠ w.heap.size + 1 → w9.heap[k]? = (V2).heap[k]?) := ho
    refine hK.out _ _ ?_ (fun hHeld => ?_)
    · exact HC.out _ ((ho _ (by omega)).trans (HRw.out _ J2.out).1)
    clear hK K ho hs9 hbb hrow
    (try simp only [Act.put, List.setIfInBounds_toArray, List.set_cons_zero, List.set_cons_succ])
    refine wpAnyH_done (by kernel_rfl) ?_ _
    go_wp2
    refine bodyPost_ret (v := .agg [Value.string iss, .int .i64 fr, .int .i64 till, .slice a nl cap, .int .i64 sk, .int .i64 se, .int .i64 ss, .string D, .int .i64 sk, .int .i64 se, .int .i64 ss, .slice (some ⟨w1.drew.heap.size, 0, none⟩) 3 3].toArray) ?_ rfl ⟨w1.drew.heap.size, rfl, (HO9.out _ (by have h2 := Z1.out; have h3 : w1.drew.heap.size = w1.heap.size := rfl; omega)).trans G2.out, HB9.out⟩
    have hl3 := run_loadVar_mid (P := Tryz.prog) _ (w.heap.size + 1) 0 75 _ _ (rangeRow HROW.out) Tryz.underlying75 rfl sizeBoxCrl
    simp [results, Tryz.results50, asAddr, hl3]
end Go.Proofs.YthofeoelndplpaaGreatDoor
namespace Go.Proofs.YthofeoelndplpaaGreatDoor
open Go.RowKit

theorem implRem (n : Int) (w : World) :
    Calls Tryz.prog 120 #[.int .i64 n] w fun e w' => e = .returned (.bool (remB n)) ∧ w' = w := by
  by_cases h1 : 0 ≤ n
  · by_cases h2 : n < 1073741789
    · have e : remB n = true := decide_eq_true ⟨h1, h2⟩
      rw [e]
      go_enter Tryz.func120, Tryz.ntmps120
      go_wp2
      go_ret
      exact ⟨rfl, rfl⟩
    · have e : remB n = false := decide_eq_false (by omega)
      rw [e]
      go_enter Tryz.func120, Tryz.ntmps120
      go_wp2
      go_ret
      exact ⟨rfl, rfl⟩
  · have e : remB n = false := decide_eq_false (by omega)
    rw [e]
    go_enter Tryz.func120, Tryz.ntmps120
    go_wp2
    go_ret
    exact ⟨rfl, rfl⟩
set_option maxHeartbeats 1000000 in
set_option maxRecDepth 100000 in
theorem implSigRight (k e s : Int) (w : World) :
    Calls Tryz.prog 100 #[.agg #[.int .i64 k, .int .i64 e, .int .i64 s]] w fun r w' => r = .returned (.bool (sigRB k e s)) ∧ Below w.heap.size w w' := by
  go_enter Tryz.func100, Tryz.ntmps100
  go_wp2_with fail
  refine (implGroupRight k _).mono ?_
  rintro e1 w1 ⟨rfl, hb1⟩
  have HB : Hid (Below w.heap.size w w1) := ((Below.refl _ w).alloc (Nat.le_refl _) _).trans (hb1.mono (by simp))
  have c1 : w1.cell? ⟨w.heap.size, 1, none⟩ = some (.int .i64 e) := by rw [hb1.cell (p := ⟨w.heap.size, 1, none⟩) (by simp)]; simp
  have c2 : w1.cell? ⟨w.heap.size, 2, none⟩ = some (.int .i64 s) := by rw [hb1.cell (p := ⟨w.heap.size, 2, none⟩) (by simp)]; simp
  clear hb1
  by_cases h1 : rightG k = true
  · rw [h1]
    go_wp2_with fail
    refine (implRem e _).mono ?_
    rintro e2 w2 ⟨rfl, rfl⟩
    by_cases h2 : remB e = true
    · rw [h2]
      go_wp2_with fail
      refine (implRem s _).mono ?_
      rintro e3 w3 ⟨rfl, rfl⟩
      generalize hb3 : remB s = b
      go_wp2
      go_ret
      exact ⟨by simp [sigRB, *], HB.out⟩
    · rw [Bool.not_eq_true] at h2
      rw [h2]
      go_wp2
      go_ret
      exact ⟨by simp [sigRB, *], HB.out⟩
  · rw [Bool.not_eq_true] at h1
    rw [h1]
    go_wp2
    go_ret
    exact ⟨by simp [sigRB, *], HB.out⟩
end Go.Proofs.YthofeoelndplpaaGreatDoor
namespace Go.Proofs.YthofeoelndplpaaGreatDoor
open Go.RowKit

/-- Variable g holds the error at b. -/
def ErrV (g : Nat) (w : World) (b : Addr) : Prop := w.cell? ⟨g, 0, none⟩ = some (.iface 159 (.pointer (some b))) ∧ ∃ c t, w.heap[b.block]? = some (.cells c t (0, 0))
theorem ErrV.lt {g : Nat} {w : World} {b : Addr} (h : ErrV g w b) : g < w.heap.size := World.block_lt_of_cell? w _ h.1
theorem ErrV.keep {g : Nat} {w w' : World} {b : Addr} (h : ErrV g w b) (hb : Below w.heap.size w w') : ErrV g w' b := by
  refine ⟨by rw [hb.cell h.lt]; exact h.1, ?_⟩
  obtain ⟨c, t, e⟩ := h.2
  exact ⟨c, t, by rw [hb.block _ (heap_lt e)]; exact e⟩
/-- The variable 'not right' holds an error. -/
def Err1 (w : World) : Prop := ∃ b, ErrV 0 w b
theorem Err1.keep {w w' : World} (h : Err1 w) (hb : Below w.heap.size w w') : Err1 w' := by obtain ⟨b, h⟩ := h; exact ⟨b, h.keep hb⟩
end Go.Proofs.YthofeoelndplpaaGreatDoor
namespace Go.Proofs.YthofeoelndplpaaGreatDoor
open Go.RowKit

set_option linter.unusedSimpArgs false in
set_option maxHeartbeats 4000000 in
set_option maxRecDepth 100000 in
theorem rightCrl (c : Lst) (v nv : Value) (D : ByteArray) (E : Value) (w : World) (hE : w.cell? ⟨0, 0, none⟩ = some E) :
    Calls Tryz.prog 85 #[c.box v D nv] w fun e w' => e = .returned (if (decide (D.size ≠ 0) && sigRB c.sk c.se c.ss) = true then .nilIface else E) ∧ Below w.heap.size w w' := by
  obtain ⟨R, hR⟩ : ∃ R : Value, R = if (decide (D.size ≠ 0) && sigRB c.sk c.se c.ss) = true then .nilIface else E := ⟨_, rfl⟩
  rw [← hR]
  have HR : Hid (R = if (decide (D.size ≠ 0) && sigRB c.sk c.se c.ss) = true then .nilIface else E) := hR
  clear hR
  obtain ⟨iss, fr, till, serials, sk, se, ss⟩ := c
  unfold Lst.box
  simp only at HR ⊢
  have hEl := World.block_lt_of_cell? w _ hE
  obtain ⟨w1, hw1⟩ : ∃ w1, w1 = w.alloc (.cells #[.string iss, .int .i64 fr, .int .i64 till, v, .int .i64 sk, .int .i64 se, .int .i64 ss, .string D, .int .i64 sk, .int .i64 se, .int .i64 ss, nv] 75 (0, 0)) := ⟨_, rfl⟩
  have r0 : w1.heap[w.heap.size]? = some (.cells [Value.string iss, .int .i64 fr, .int .i64 till, v, .int .i64 sk, .int .i64 se, .int .i64 ss, .string D, .int .i64 sk, .int .i64 se, .int .i64 ss, nv].toArray 75 (0, 0)) := by rw [hw1]; exact heap_alloc_new w _
  have B1 : Hid (Below w.heap.size w w1) := by rw [hw1]; exact (Below.refl _ _).alloc (Nat.le_refl _) _
  have z1 : w.heap.size < w1.heap.size := by rw [hw1]; simp
  have HK : Hid (∀ V, Below w1.heap.size w1 V → V.cell? ⟨w.heap.size, 0, none⟩ = some (.string iss) ∧ V.cell? ⟨w.heap.size, 1, none⟩ = some (.int .i64 fr) ∧ V.cell? ⟨w.heap.size, 2, none⟩ = some (.int .i64 till) ∧ V.cell? ⟨w.heap.size, 3, none⟩ = some (v) ∧ V.cell? ⟨w.heap.size, 4, none⟩ = some (.int .i64 sk) ∧ V.cell? ⟨w.heap.size, 5, none⟩ = some (.int .i64 se) ∧ V.cell? ⟨w.heap.size, 6, none⟩ = some (.int .i64 ss) ∧ V.cell? ⟨w.heap.size, 7, none⟩ = some (.string D) ∧ V.cell? ⟨w.heap.size, 8, none⟩ = some (.int .i64 sk) ∧ V.cell? ⟨w.heap.size, 9, none⟩ = some (.int .i64 se) ∧ V.cell? ⟨w.heap.size, 10, none⟩ = some (.int .i64 ss) ∧ V.cell? ⟨w.heap.size, 11, none⟩ = some (nv)) := fun V hV => by
    have hP := (hV.block _ z1).trans r0
    exact ⟨rowFacts hP 0 _ rfl, rowFacts hP 1 _ rfl, rowFacts hP 2 _ rfl, rowFacts hP 3 _ rfl, rowFacts hP 4 _ rfl, rowFacts hP 5 _ rfl, rowFacts hP 6 _ rfl, rowFacts hP 7 _ rfl, rowFacts hP 8 _ rfl, rowFacts hP 9 _ rfl, rowFacts hP 10 _ rfl, rowFacts hP 11 _ rfl⟩
  have HB : Hid (∀ V, Below w1.heap.size w1 V → Below w.heap.size w V) := fun V hV => B1.out.trans (hV.mono B1.out.size)
  have I1 : Hid (Below w1.heap.size w1 w1) := Below.refl _ _
  have D1 : Hid (Below w1.heap.size w1 w1.drew) := I1.out.drew
  clear r0 z1 B1
  have HE : Hid (∀ V, Below w.heap.size w V → V.cell? ⟨0, 0, none⟩ = some E) := fun V hV => by rw [hV.cell hEl]; exact hE
  clear hE hEl
  obtain ⟨c0, c1, c2, c3, c4, c5, c6, c7, c8, c9, c10, c11⟩ := HK.out w1 I1.out
  go_enter Tryz.func85, Tryz.ntmps85
  go_upto_region 1 with fail
  rw [← hw1]
  clear hw1
  by_cases h0 : D.size = 0
  · have e0 := HE.out _ (HB.out _ I1.out)
    have x0 := isEmpty_of h0
    have HF : Hid (R = E) := by show _ = _; rw [HR.out, if_neg (by simp [h0])]
    go_wp2
    go_ret
    exact ⟨by rw [HF.out]; rfl, HB.out _ I1.out⟩
  · have x0 := isEmpty_not h0
    go_wp2_with fail
    refine (implSigRight sk se ss _).mono ?_
    rintro e w2 ⟨rfl, b2⟩
    have K2 : Hid (Below w1.heap.size w1 w2) := b2
    clear b2 c0 c1 c2 c3 c4 c5 c6 c7 c8 c9 c10 c11
    cases hs : sigRB sk se ss with
    | false =>
      have e0 := HE.out _ (HB.out _ K2.out)
      have HF : Hid (R = E) := by show _ = _; rw [HR.out, hs, if_neg (by simp)]
      go_wp2
      go_ret
      exact ⟨by rw [HF.out]; rfl, HB.out _ K2.out⟩
    | true =>
      have HF : Hid (R = .nilIface) := by show _ = _; rw [HR.out, hs, decide_eq_true h0]; rfl
      go_wp2
      go_ret
      exact ⟨by rw [HF.out]; rfl, HB.out _ K2.out⟩
end Go.Proofs.YthofeoelndplpaaGreatDoor
namespace Go.Proofs.YthofeoelndplpaaGreatDoor
open Go.RowKit

theorem implSecret (x : Int) (w : World) :
    Calls Tryz.prog 69 #[.int .i64 x] w fun e w' => e = .returned (.bool (secB x)) ∧ w' = w := by
  by_cases h1 : 1 ≤ x
  · by_cases h2 : x < 1073741789
    · have e : secB x = true := decide_eq_true ⟨h1, h2⟩
      rw [e]
      go_enter Tryz.func69, Tryz.ntmps69
      go_wp2
      go_ret
      exact ⟨rfl, rfl⟩
    · have e : secB x = false := decide_eq_false (by omega)
      rw [e]
      go_enter Tryz.func69, Tryz.ntmps69
      go_wp2
      go_ret
      exact ⟨rfl, rfl⟩
  · have e : secB x = false := decide_eq_false (by omega)
    rw [e]
    go_enter Tryz.func69, Tryz.ntmps69
    go_wp2
    go_ret
    exact ⟨rfl, rfl⟩
end Go.Proofs.YthofeoelndplpaaGreatDoor
namespace Go.Proofs.YthofeoelndplpaaGreatDoor
open Go.RowKit

set_option maxHeartbeats 1000000 in
set_option maxRecDepth 100000 in
theorem digestNumber (h t : ByteArray) (w : World) (hh : h.size ≤ 100) (ht : t.size ≤ 20000) (hk : Keys w) :
    Calls Tryz.prog 118 #[.string h, .string t] w fun e w' => e = .returned (.int .i64 (dnum (h ++ t) : Nat)) ∧ Below w.heap.size w w' := by
  have hkp := hk.pos
  go_enter Tryz.func118, Tryz.ntmps118
  go_wp2_with fail
  refine (beginW w).mono ?_
  rintro e w1 ⟨rfl, hb1⟩
  have hs1 := hb1.size
  have HB1 : Hid (Below w.heap.size w w1) := hb1
  clear hb1
  go_wp2_with fail
  generalize hw2 : w1.alloc _ = w2
  have hg2 : w2.heap[w1.heap.size]? = some (.cells (workCells st0 ByteArray.empty 0).toArray 134 (0, 0)) := by rw [← hw2]; exact heap_alloc_new w1 _
  have hb2 : Below w.heap.size w w2 := by rw [← hw2]; exact HB1.out.alloc hs1 _
  refine (takeW st0 ByteArray.empty h 0 w2 w w1.heap.size w.heap.size 134 (by simp) (by omega) (by omega) (by omega) hg2 hb2 hs1 hk hkp).mono ?_
  rintro e w3 ⟨rfl, hg3, hb3⟩
  rw [empty_append] at hg3
  have hg3' : w3.heap[w1.heap.size]? = some (.cells (workCells (more st0 h) (restOf h) (h.size : Nat)).toArray 134 (0, 0)) := by simpa using hg3
  have HG3 : Hid _ := hg3'
  have HB3 : Hid (Below w.heap.size w w3) := hb3
  have HK : Hid (Keys w) := hk
  clear hg3 hg3' hb3 hg2 hb2 hw2 hk
  go_wp2_with fail
  refine (takeW (more st0 h) (restOf h) t (h.size : Nat) w3 w w1.heap.size w.heap.size 134 (by rw [size_restOf]; omega) (by omega) (by omega) (by omega) HG3.out HB3.out hs1 HK.out hkp).mono ?_
  rintro e w4 ⟨rfl, hg4, hb4⟩
  rw [more_more, rest_more] at hg4
  have hg4' : w4.heap[w1.heap.size]? = some (.cells (workCells (more st0 (h ++ t)) (restOf (h ++ t)) ((h ++ t).size : Nat)).toArray 134 (0, 0)) := by rw [size_append]; simpa using hg4
  have HG4 : Hid _ := hg4'
  have HB4 : Hid (Below w.heap.size w w4) := hb4
  clear hg4 hg4' hb4
  go_wp2_with fail
  refine (endW (more st0 (h ++ t)) (restOf (h ++ t)) (h ++ t).size w4 w w1.heap.size w.heap.size 134 (by rw [size_restOf]; omega) (by rw [size_append]; omega) HG4.out HB4.out hs1 HK.out hkp).mono ?_
  rintro e w5 ⟨rfl, hb5⟩
  have HB5 : Hid (Below w.heap.size w w5) := hb5
  clear hb5 HG3 HG4 HB3 HB4 HK HB1
  have hd := digOf_size (h ++ t)
  obtain ⟨D, hD⟩ : ∃ D, strOfNums (digL (endSt (more st0 (h ++ t)) (restOf (h ++ t)) (h ++ t).size)) = D := ⟨_, rfl⟩
  have HD : Hid (digOf (h ++ t) = D) := hD
  rw [show digOf (h ++ t) = D from hD] at hd
  rw [hD]
  clear hD
  go_wp2_with fail
  go_loopw [15, 7] (fun i n wr => ∃ k : Nat, k ≤ 7 ∧ i = .int .i64 k ∧ n = .int .i64 (bnum D k : Nat) ∧ wr = w5) (fun i _ _ => 7 - (intOf i).toNat)
  case atStart => exact ⟨0, by omega, rfl, rfl, rfl⟩
  case round =>
    obtain ⟨k, hk7, rfl, rfl, rfl⟩ := hrel
    by_cases hlt : k < 7
    · have hb := bnum_le D (k := k) (by omega)
      have hc := (byteAt D k).toNat_lt
      have hj := i64_join (bnum D k) (byteAt D k).toNat hb (by omega)
      have hg : byteAt D k = D[k] := byteAt_get D k (by omega)
      have HN : Hid (bnum D (k + 1) = 256 * bnum D k + (byteAt D k).toNat) := rfl
      rw [hg] at hj
      have HG : Hid (byteAt D k = D[k]) := hg
      clear hg hc
      have hb' : (bnum D k : Int) ≤ 281474976710655 := by omega
      have hb0 : (0 : Int) ≤ (bnum D k : Int) := by omega
      obtain ⟨y, hy⟩ : ∃ y : Int, y = (bnum D k : Int) := ⟨_, rfl⟩
      have HY : Hid (y = (bnum D k : Int)) := hy
      obtain ⟨v, hv⟩ : ∃ v : Int, v = ((256 * bnum D k + D[k].toNat : Nat) : Int) := ⟨_, rfl⟩
      have HV : Hid (v = ((256 * bnum D k + D[k].toNat : Nat) : Int)) := hv
      rw [← hv] at hj
      rw [← hy] at hb' hb0 hj ⊢
      have hc' := u8_lt D[k]
      clear hb hy hv
      go_wp2
      go_roundw
      case rel => exact ⟨k + 1, by omega, by go_num, by rw [HN.out, HG.out, HV.out], trivial⟩
      case measure => simp [intOf]; omega
    · go_wp2
      go_ret
      exact ⟨ret_int (by unfold dnum; rw [HD.out, show k = 7 from by omega]), HB5.out⟩
end Go.Proofs.YthofeoelndplpaaGreatDoor
namespace Go.Proofs.YthofeoelndplpaaGreatDoor
open Go.RowKit

theorem tooLong (s : ByteArray) (w : World) (hs : s.size ≤ maxLen) :
    Calls Tryz.prog 97 #[.string s] w fun e w' => e = .returned (.bool (decide (20000 < s.size))) ∧ w' = w := by
  unfold maxLen at hs
  go_enter Tryz.func97, Tryz.ntmps97
  go_wp2
  go_ret
  exact ⟨by simp; omega, rfl⟩
end Go.Proofs.YthofeoelndplpaaGreatDoor
namespace Go.Proofs.YthofeoelndplpaaGreatDoor
open Go.RowKit

set_option maxHeartbeats 1000000 in
set_option maxRecDepth 100000 in
theorem implGroupPow (y n : Int) (w : World) (hn : n ≤ 9223372036854775807) :
    Calls Tryz.prog 70 #[.int .i64 y, .int .i64 n] w fun e w' => e = .returned (.int .i64 (gpowA y n)) ∧ Below w.heap.size w w' := by
  by_cases h1 : unitB y = true
  · by_cases h2 : n < 0
    · have ea : Hid (gpowA y n = 0) := by
        show _ = _
        rw [gpowA, if_neg (by omega)]
      go_enter Tryz.func70, Tryz.ntmps70
      go_wp2_with fail
      refine (implUnit y _).mono ?_
      rintro e w' ⟨rfl, rfl⟩
      rw [h1]
      go_wp2
      go_ret
      exact ⟨ret_int ea.out.symm, Below.refl _ _⟩
    · obtain ⟨x, rfl, x1, x2⟩ := unitB_nat h1
      obtain ⟨k, rfl⟩ := nat_of h2
      rw [gpowA_nat x k h1]
      have t1 : (k : Int).tmod 1073741789 = ((k % 1073741789 : Nat) : Int) := tmodN k 1073741789
      have hb1 : k % 1073741789 ≤ 9223372036854775807 := by omega
      generalize k % 1073741789 = j at *
      have HC : Hid (∀ v : World, Calls Tryz.prog 96 #[.int .i64 (x : Int), .int .i64 (j : Int), .int .i64 2147483579] v fun e w' => e = .returned (.int .i64 ((pm x j 2147483579 : Nat) : Int)) ∧ Below v.heap.size v w') := fun v => by
        have h := implModPow x j 2147483579 v (by omega)
        rw [show (2147483579 : Int) = ((2147483579 : Nat) : Int) from rfl, powA_nat x j 2147483579 modP] at h
        exact h
      generalize pm x j 2147483579 = z at *
      go_enter Tryz.func70, Tryz.ntmps70
      go_wp2_with fail
      refine (implUnit x _).mono ?_
      rintro e w' ⟨rfl, rfl⟩
      rw [h1]
      go_wp2_with fail
      refine (HC.out _).mono ?_
      rintro e w' ⟨rfl, hb⟩
      have HB : Hid _ := hb
      clear hb
      go_wp2
      go_ret
      exact ⟨rfl, HB.out⟩
  · rw [Bool.not_eq_true] at h1
    have ea : Hid (gpowA y n = 0) := by
      show _ = _
      rw [gpowA, if_neg (by rw [h1]; simp)]
    go_enter Tryz.func70, Tryz.ntmps70
    go_wp2_with fail
    refine (implUnit y _).mono ?_
    rintro e w' ⟨rfl, rfl⟩
    rw [h1]
    go_wp2
    go_ret
    exact ⟨ret_int ea.out.symm, Below.refl _ _⟩
end Go.Proofs.YthofeoelndplpaaGreatDoor
namespace Go.Proofs.YthofeoelndplpaaGreatDoor
open Go.RowKit

set_option maxHeartbeats 1000000 in
set_option maxRecDepth 100000 in
theorem implChallenge (r key : Int) (t : ByteArray) (w : World) (ht : t.size ≤ maxLen) (hk : Keys w) :
    Calls Tryz.prog 119 #[.int .i64 r, .int .i64 key, .string t] w fun e w' => e = .returned (.int .i64 (challA r key t)) ∧ Below w.heap.size w w' := by
  have HK : Hid (Keys w) := hk
  have hkp := hk.pos
  clear hk
  by_cases h1 : 20000 < t.size
  · have ea : Hid (challA r key t = 0) := by
      show _ = _
      rw [challA, if_neg (by omega)]
    have hd : decide (20000 < t.size) = true := decide_eq_true h1
    go_enter Tryz.func119, Tryz.ntmps119
    go_wp2_with fail
    refine (tooLong t _ ht).mono ?_
    rintro e w' ⟨rfl, rfl⟩
    rw [hd]
    clear h1 hd ht
    go_wp2
    go_ret
    exact ⟨ret_int ea.out.symm, Below.refl _ _⟩
  have hd : decide (20000 < t.size) = false := decide_eq_false h1
  by_cases h2 : unitB r = true
  · by_cases h3 : unitB key = true
    · have ea : Hid (challA r key t = (chal r key t : Int)) := by
        show _ = _
        rw [challA, if_pos ⟨by omega, h2, h3⟩]
      have b2 : 1 ≤ r ∧ r < 2147483579 := of_decide_eq_true h2
      have b3 : 1 ≤ key ∧ key < 2147483579 := of_decide_eq_true h3
      have s2 := putS_size r
      have s3 := putS_size key
      have P2 : Hid (∀ v : World, Calls Tryz.prog 104 #[.int .i64 r] v fun e w' => e = .returned (.string (putS r)) ∧ Below v.heap.size v w') := fun v => implPut r v (by omega) (by omega)
      have P3 : Hid (∀ v : World, Calls Tryz.prog 104 #[.int .i64 key] v fun e w' => e = .returned (.string (putS key)) ∧ Below v.heap.size v w') := fun v => implPut key v (by omega) (by omega)
      have EC : Hid ((dnum (putS r ++ putS key ++ t) % 1073741789 : Nat) = chal r key t) := rfl
      have ld := dnum_lt (putS r ++ putS key ++ t)
      have LD : Hid (∀ a b : ByteArray, a = putS r → b = putS key → dnum (a ++ b ++ t) < 72057594037927936 ∧ dnum (a ++ b ++ t) % 1073741789 = chal r key t) := fun a b ha hb => by subst ha hb; exact ⟨ld, EC.out⟩
      generalize hp : putS r = p at s2 P2
      generalize hq : putS key = q at s3 P3
      have LD' := LD.out p q hp.symm hq.symm
      have LE : Hid (dnum (p ++ q ++ t) < 72057594037927936 ∧ dnum (p ++ q ++ t) % 1073741789 = chal r key t) := LD'
      clear LD LD' ld EC hp hq
      go_enter Tryz.func119, Tryz.ntmps119
      go_wp2_with fail
      refine (tooLong t _ ht).mono ?_
      rintro e w' ⟨rfl, rfl⟩
      rw [hd]
      go_wp2_with fail
      refine (implUnit r _).mono ?_
      rintro e w' ⟨rfl, rfl⟩
      rw [h2]
      go_wp2_with fail
      refine (implUnit key _).mono ?_
      rintro e w' ⟨rfl, rfl⟩
      rw [h3]
      go_wp2_with fail
      refine (P2.out _).mono ?_
      rintro e w1 ⟨rfl, hb1⟩
      have B1 : Hid (Below w'.heap.size w' w1) := hb1
      have z1 := hb1.size
      clear hb1
      go_wp2_with fail
      refine (P3.out _).mono ?_
      rintro e w2 ⟨rfl, hb2⟩
      have B2 : Hid (Below w'.heap.size w' w2) := B1.out.trans (hb2.mono z1)
      have z2 := B2.out.size
      clear hb2
      go_wp2_with fail
      refine (joinTexts p q _ (by omega) (by omega)).mono ?_
      rintro e w3 ⟨rfl, hb3⟩
      have B3 : Hid (Below w'.heap.size w' w3) := B2.out.trans (hb3.mono z2)
      have z3 := B3.out.size
      have K3 : Hid (Keys w3) := HK.out.below B3.out hkp
      clear hb3
      go_wp2_with fail
      refine (digestNumber (p ++ q) t _ (by rw [size_append]; omega) (by omega) K3.out).mono ?_
      rintro e w4 ⟨rfl, hb4⟩
      have B4 : Hid (Below w'.heap.size w' w4) := B3.out.trans (hb4.mono z3)
      clear hb4
      obtain ⟨l1, l2⟩ := LE.out
      generalize dnum (p ++ q ++ t) = d at l1 l2
      have t1 : (d : Int).tmod 1073741789 = ((d % 1073741789 : Nat) : Int) := tmodN d 1073741789
      rw [l2] at t1
      clear LE l1 l2
      go_wp2
      go_ret
      exact ⟨ret_int ea.out.symm, B4.out⟩
    · rw [Bool.not_eq_true] at h3
      have ea : Hid (challA r key t = 0) := by
        show _ = _
        rw [challA, if_neg (by rw [h3]; simp)]
      go_enter Tryz.func119, Tryz.ntmps119
      go_wp2_with fail
      refine (tooLong t _ ht).mono ?_
      rintro e w' ⟨rfl, rfl⟩
      rw [hd]
      go_wp2_with fail
      refine (implUnit r _).mono ?_
      rintro e w' ⟨rfl, rfl⟩
      rw [h2]
      go_wp2_with fail
      refine (implUnit key _).mono ?_
      rintro e w' ⟨rfl, rfl⟩
      rw [h3]
      go_wp2
      go_ret
      exact ⟨ret_int ea.out.symm, Below.refl _ _⟩
  · rw [Bool.not_eq_true] at h2
    have ea : Hid (challA r key t = 0) := by
      show _ = _
      rw [challA, if_neg (by rw [h2]; simp)]
    go_enter Tryz.func119, Tryz.ntmps119
    go_wp2_with fail
    refine (tooLong t _ ht).mono ?_
    rintro e w' ⟨rfl, rfl⟩
    rw [hd]
    go_wp2_with fail
    refine (implUnit r _).mono ?_
    rintro e w' ⟨rfl, rfl⟩
    rw [h2]
    go_wp2
    go_ret
    exact ⟨ret_int ea.out.symm, Below.refl _ _⟩
end Go.Proofs.YthofeoelndplpaaGreatDoor
