/- FnExactOfficeCrash: at every argument OfficeCrash answers as the specification, field by field. No condition. -/
import Derived.Test.YthpcnakkhghaeaaOC02
import Derived.ProofKit
import Derived.OpenShut
import Derived.ShutString
import Derived.ChangeOld
import Derived.Below
import Derived.Lib.SmallJoins
namespace Go.Proofs.Ythpcnakkhghaeaa
open Go.RowKit

set_option linter.unusedSimpArgs false in
set_option maxHeartbeats 2000000 in
set_option maxRecDepth 100000 in
theorem crashWalk (w : World) (b : ByteArray) (hb0 : b.size ≤ maxLen) (n : Int) (_ : (Lit.int .i64 n).wf = true) (q : Int) (hq0 : (Lit.int .i64 q).wf = true) :
    Calls Try.prog 3 #[.agg #[.string b, .int .i64 n], .int .i64 q] w fun r w' => r = .returned (.bool true) ∧ Below w.heap.size w w' := by
  obtain ⟨_, hq1⟩ := bounds_i64 hq0
  have hq : q ≤ 9223372036854775807 := by omega
  obtain ⟨w1, hw1⟩ : ∃ w1, w1 = w.alloc (.cells #[.string b, .int .i64 n] 23 (0, 0)) := ⟨_, rfl⟩
  have r0 : w1.heap[w.heap.size]? = some (.cells [Value.string b, .int .i64 n].toArray 23 (0, 0)) := by rw [hw1]; exact heap_alloc_new w _
  have B1 : Hid (Below w.heap.size w w1) := by rw [hw1]; exact (Below.refl _ _).alloc (Nat.le_refl _) _
  have HL : Hid (∀ V, Below w1.heap.size w1 V → V.cell? ⟨w.heap.size, 0, none⟩ = some (.string b) ∧ V.cell? ⟨w.heap.size, 1, none⟩ = some (.int .i64 n)) := fun V hV => by
    have e : V.heap[w.heap.size]? = some (.cells [Value.string b, .int .i64 n].toArray 23 (0, 0)) := (hV.block _ (heap_lt r0)).trans r0
    exact ⟨rowFacts e 0 _ rfl, rowFacts e 1 _ rfl⟩
  have HSz : Hid (∀ V, Calls Try.prog 4 #[.agg #[.string b, .int .i64 n], .int .i64 1048576] V fun r w' => r = .returned (.int .i64 (if b.size ≤ 1048576 then (1048576 : Int) - b.size else -1)) ∧ Below V.heap.size V w') := fun V => szOffice b n V hb0
  have J1 : Hid (Below w1.heap.size w1 w1) := Below.refl _ _
  have HB : Hid (∀ V, Below w1.heap.size w1 V → Below w.heap.size w V) := fun V hV => B1.out.trans (hV.mono B1.out.size)
  clear r0 B1 hq0 hb0
  go_enter Try.func3, Try.ntmps3
  go_upto_region 1 with fail
  rw [← hw1]
  clear hw1
  obtain ⟨c0, c1⟩ := HL.out _ J1.out
  go_wp2_with fail
  refine (HSz.out _).mono ?_
  rintro e w2 ⟨rfl, b2⟩
  have J2 : Hid (Below w1.heap.size w1 w2) := b2
  clear HSz b2 c0 c1
  by_cases hs : b.size ≤ 1048576
  · rw [if_pos hs]
    obtain ⟨c, m, hcr⟩ := crashV_is b n q
    have HT : Hid (∀ V, Calls Try.prog 6 #[.agg #[.string b, .int .i64 n]] V fun r w' => r = .returned (.agg #[.string b, .int .i64 n]) ∧ Below V.heap.size V w') := fun V => toOffice b n V
    have HE : Hid (∀ V, Calls Try.prog 8 #[.agg #[.string c, .int .i64 m], .agg #[.string c, .int .i64 m]] V fun r w' => r = .returned (.bool true) ∧ Below V.heap.size V w') := fun V => eqOffice c m V
    have HS : Hid (∀ V, Calls Try.prog 5 #[.agg #[.string b, .int .i64 n], .int .i64 q] V fun r w' => r = .returned (.agg #[.string c, .int .i64 m]) ∧ Below V.heap.size V w') := fun V => by have := specCrash b n q V hs hq; rwa [hcr] at this
    have HI : Hid (∀ V, Calls Try.prog 7 #[.agg #[.string b, .int .i64 n], .int .i64 q] V fun r w' => r = .returned (.agg #[.string c, .int .i64 m]) ∧ Below V.heap.size V w') := fun V => by have := implCrash b n q V hs hq; rwa [hcr] at this
    clear hcr hq
    obtain ⟨c0, c1⟩ := HL.out _ J2.out
    go_wp2_with fail
    refine (HT.out _).mono ?_
    rintro e w3 ⟨rfl, b3⟩
    have J3 : Hid (Below w1.heap.size w1 w3) := J2.out.trans (b3.mono J2.out.size)
    clear b3 c0 c1
    go_wp2_with fail
    refine (HS.out _).mono ?_
    rintro e w4 ⟨rfl, b4⟩
    obtain ⟨w5, hw5⟩ : ∃ w5, w5 = w4.alloc (.cells #[.string c, .int .i64 m] 25 (0, 0)) := ⟨_, rfl⟩
    have J4 : Hid (Below w1.heap.size w1 w4) := J3.out.trans (b4.mono J3.out.size)
    have r5 : w5.heap[w4.heap.size]? = some (.cells [Value.string c, .int .i64 m].toArray 25 (0, 0)) := by rw [hw5]; exact heap_alloc_new w4 _
    have J5 : Hid (Below w1.heap.size w1 w5) := by rw [hw5]; exact J4.out.alloc J4.out.size _
    have HP5 : Hid (∀ V, Below w5.heap.size w5 V → V.cell? ⟨w4.heap.size, 0, none⟩ = some (.string c) ∧ V.cell? ⟨w4.heap.size, 1, none⟩ = some (.int .i64 m)) := fun V hV => by
      have e : V.heap[w4.heap.size]? = some (.cells [Value.string c, .int .i64 m].toArray 25 (0, 0)) := (hV.block _ (heap_lt r5)).trans r5
      exact ⟨rowFacts e 0 _ rfl, rowFacts e 1 _ rfl⟩
    have I5 : Hid (Below w5.heap.size w5 w5) := Below.refl _ _
    clear b4 r5
    go_upto_region 6 with fail
    rw [← hw5]
    clear hw5
    obtain ⟨c0, c1⟩ := HL.out _ J5.out
    go_wp2_with fail
    refine (HT.out _).mono ?_
    rintro e w6 ⟨rfl, b6⟩
    have J6 : Hid (Below w5.heap.size w5 w6) := b6
    clear b6 c0 c1
    go_wp2_with fail
    refine (HI.out _).mono ?_
    rintro e w7 ⟨rfl, b7⟩
    have J7 : Hid (Below w5.heap.size w5 w7) := J6.out.trans (b7.mono J6.out.size)
    obtain ⟨w8, hw8⟩ : ∃ w8, w8 = w7.alloc (.cells #[.string c, .int .i64 m] 25 (0, 0)) := ⟨_, rfl⟩
    have r8 : w8.heap[w7.heap.size]? = some (.cells [Value.string c, .int .i64 m].toArray 25 (0, 0)) := by rw [hw8]; exact heap_alloc_new w7 _
    have J8 : Hid (Below w5.heap.size w5 w8) := by rw [hw8]; exact J7.out.alloc J7.out.size _
    have d0 : w8.cell? ⟨w7.heap.size, 0, none⟩ = some (.string c) := rowFacts r8 0 _ rfl
    have d1 : w8.cell? ⟨w7.heap.size, 1, none⟩ = some (.int .i64 m) := rowFacts r8 1 _ rfl
    have B8 : Hid (Below w.heap.size w w8) := HB.out _ (J5.out.trans (J8.out.mono J5.out.size))
    clear b7 r8
    go_upto_region 7 with fail
    rw [← hw8]
    clear hw8
    obtain ⟨c0, c1⟩ := HP5.out _ J8.out
    go_wp2_with fail
    refine (HE.out _).mono ?_
    rintro e w9 ⟨rfl, b9⟩
    have B9 : Hid (Below w.heap.size w w9) := B8.out.trans (b9.mono B8.out.size)
    clear b9 c0 c1 d0 d1
    go_wp2
    go_ret
    exact ⟨rfl, B9.out⟩
  · rw [if_neg hs]
    have B2 : Hid (Below w.heap.size w w2) := HB.out _ J2.out
    go_wp2
    go_ret
    exact ⟨rfl, B2.out⟩
namespace fnExactOfficeCrashDone
open Go.ChangeShapes Go.WideShapes Go.ChangeAt Go.RowKit
open Go.ChangeMaps (open_string shut_string)
theorem own : ownKnob Try.prog.godebug = none := by kernel_rfl
theorem laidOut : laidOutB Try.prog = true := by kernel_rfl
set_option linter.unusedVariables false
set_option maxRecDepth 100000 in
theorem lifted (os : Os) (started : os.Started) (H : Type) (enc : TypeId × Value → H) :
    ReturnsInHanded {} Try.checked os 3 .any (Rows.fnExactOfficeCrashSpec.pre6 enc Try.prog Try.f3 Rows.fnExactOfficeCrashRow.domain false) (Rows.fnExactOfficeCrashSpec.post enc Try.prog Try.f3 false true false false) := by
  refine returnsInHanded_of_change (C := Try.checked) own started (by kernel_rfl) Try.func3
    (ChangeSpec.witness6 (enc := enc) (C := Try.checked) false ⟨#[], #[.agg #[.string ByteArray.empty, .int .i64 0], .int .i64 0], []⟩ 8 (by kernel_rfl) (by kernel_rfl) (by kernel_rfl) (by kernel_rfl)) ?_
  intro W base args ds gs before hval0 hW hcnd _
  have hval : ∀ (j : Nat) t v, Try.f3.params[j]? = some t → args[j]? = some v → Value.okWide Try.prog W .any base t v := hval0
  have hW' := hW
  obtain ⟨p, q, hA0, hV, rfl, hfz, hnd⟩ := hW
  have hA : DataW.TrodAll enc Try.prog W 0 (fun _ => true) true Try.f3.params.toList args.toList ds p := hA0
  rw [Try.params3] at hA hval
  obtain ⟨v0, vs0, d0, ds0, p0, q0, hargs, rfl, rfl, h0, r0⟩ := trodAll_cons hA
  obtain ⟨v1, vs1, d1, ds1, p1, q1, rfl, rfl, rfl, h1, r1⟩ := trodAll_cons r0
  obtain ⟨rfl, rfl, rfl⟩ := trodAll_nil r1
  obtain rfl : args = #[v0, v1] := by cases args; simp_all
  obtain ⟨rfl, rfl⟩ := trodVars_none hV
  have k0 := h0
  have lt0 : ∀ x ∈ p0, x.block < W.heap.size := by obtain ⟨m, hm⟩ := k0; exact DataW.trod_lt m _ _ _ hm
  obtain ⟨x00, x10, y00, y10, n0, rfl, _, _, t00, t10⟩ := Joins.open_agg2 Try.underlying23 (by kernel_rfl) (by kernel_rfl) (hval 0 23 v0 rfl rfl) h0
  obtain ⟨s0_0, f0_0, _, ws0_0⟩ := DataW.trod_string Try.underlying9 t00
  obtain rfl := (List.cons.inj f0_0).1
  obtain ⟨i1_0, g1_0, _, wi1_0⟩ := DataW.trod_int Try.underlying2 t10
  obtain rfl := (List.cons.inj g1_0).1
  obtain ⟨a1, rfl, rfl, rfl, w1⟩ := open_int Try.underlying2 (hval 1 2 v1 rfl rfl) h1
  clear hA0 hval0
  refine (crashWalk W s0_0 ws0_0 i1_0 wi1_0 a1 w1).mono fun e W' ⟨he, bel⟩ => ?_
  subst he
  exact ⟨_, rfl, _, _, _, [], _, [], hW', trodAll_mk1 (shut_bool Try.underlying4 _), (trodAll_cons_mk (Below.trod laidOut (by kernel_rfl) (of_decide_eq_true (by kernel_rfl)) k0 bel lt0) (trodAll_cons_mk (shut_int Try.underlying2 w1) trodAll_mk0)), rfl, bel.frame _, fun h => by cases h⟩
theorem over : Rows.fnExactOfficeCrashRow.holds Try.pinned (OpenSpec.ofChange Rows.fnExactOfficeCrashSpec) :=
  OpenClaim.holds_of_wide 3 Try.f3 rfl rfl rfl rfl rfl rfl rfl ⟨rfl, rfl, rfl, rfl, rfl⟩ rfl rfl rfl rfl rfl (by as_aux_lemma => kernel_rfl) Try.func3 (by as_aux_lemma => kernel_rfl)
    (of_decide_eq_true (by as_aux_lemma => kernel_rfl)) (by unfold Func.isWrapper; first | (rw [if_pos (by decide +kernel)]; kernel_rfl) | (rw [if_neg (by decide +kernel)]; exact ⟨rfl, rfl⟩))
    (fun os started H enc _ => lifted os started H enc)
end fnExactOfficeCrashDone
theorem fnExactOfficeCrash_holds : Rows.FnExactOfficeCrashSaid := fnExactOfficeCrashDone.over
#print axioms fnExactOfficeCrash_holds
end Go.Proofs.Ythpcnakkhghaeaa
