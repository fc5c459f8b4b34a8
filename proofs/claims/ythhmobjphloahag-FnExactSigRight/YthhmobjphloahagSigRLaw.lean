/- FnExactSigRight: at every Sig SigRight answers as the specification's. No condition. -/
import Derived.Test.YthhmobjphloahagRemI
import Derived.Test.YthhmobjphloahagRemS
import Derived.Test.YthhmobjphloahagToSig
import Derived.ProofKit
import Derived.OpenShut
import Derived.ShutString
import Derived.ChangeOld
import Derived.Below
import Derived.Lib.SmallJoins
namespace Go.Proofs.Ythhmobjphloahag
open Go.RowKit
set_option maxHeartbeats 1000000 in
set_option maxRecDepth 100000 in
theorem sigRightWalk (w : World) (k : Int) (_ : (Lit.int .i64 k).wf = true) (e : Int) (_ : (Lit.int .i64 e).wf = true) (s : Int) (_ : (Lit.int .i64 s).wf = true) :
    Calls Try.prog 4 #[.agg #[.int .i64 k, .int .i64 e, .int .i64 s]] w fun r w' => r = .returned (.bool true) ∧ Below w.heap.size w w' := by
  go_enter Try.func4, Try.ntmps4
  go_wp2_with fail
  obtain ⟨w0, hw0⟩ : ∃ w0, w.alloc (.cells #[.int .i64 k, .int .i64 e, .int .i64 s] 25 (0, 0)) = w0 := ⟨_, rfl⟩
  have hg0 : w0.heap[w.heap.size]? = some (.cells [Value.int .i64 k, .int .i64 e, .int .i64 s].toArray 25 (0, 0)) := by rw [← hw0]; exact heap_alloc_new w _
  have hb0 : Below w.heap.size w w0 := by rw [← hw0]; exact allocBelow w _
  have hs0 : w0.heap.size = w.heap.size + 1 := by rw [← hw0]; simp
  rw [hw0]
  have HKEEP : Hid (∀ W, Below w0.heap.size w0 W → W.cell? ⟨w.heap.size, 0, none⟩ = some (.int .i64 k) ∧ W.cell? ⟨w.heap.size, 1, none⟩ = some (.int .i64 e) ∧ W.cell? ⟨w.heap.size, 2, none⟩ = some (.int .i64 s)) := fun W hW => by
    have hP : W.heap[w.heap.size]? = some (.cells [Value.int .i64 k, .int .i64 e, .int .i64 s].toArray 25 (0, 0)) := by rw [hW.block _ (by omega)]; exact hg0
    exact ⟨rowFacts hP 0 _ rfl, rowFacts hP 1 _ rfl, rowFacts hP 2 _ rfl⟩
  have B0 : Hid (Below w.heap.size w w0) := hb0
  clear hw0 hg0 hb0 hs0
  refine (toSig k e s w0).mono ?_
  rintro r w1 ⟨rfl, hb1⟩
  have b1 : Hid (Below w0.heap.size w0 w1) := hb1
  have z1 := hb1.size
  clear hb1
  go_wp2_with fail
  refine (specSigRight k e s _).mono ?_
  rintro r w2 ⟨rfl, hb2⟩
  have b2 : Hid (Below w0.heap.size w0 w2) := b1.out.trans (hb2.mono z1)
  have z2 := b2.out.size
  obtain ⟨c0, c1, c2⟩ := HKEEP.out _ b2.out
  clear hb2
  go_wp2_with fail
  refine (toSig k e s w2).mono ?_
  rintro r w3 ⟨rfl, hb3⟩
  have b3 : Hid (Below w0.heap.size w0 w3) := b2.out.trans (hb3.mono z2)
  have z3 := b3.out.size
  clear hb3
  go_wp2_with fail
  refine (implSigRight k e s _).mono ?_
  rintro r w4 ⟨rfl, hb4⟩
  have B4 : Hid (Below w.heap.size w w4) := B0.out.trans ((b3.out.trans (hb4.mono z3)).mono B0.out.size)
  clear hb4
  generalize sigRB k e s = b
  go_wp2
  go_ret
  exact ⟨rfl, B4.out⟩
namespace fnExactSigRightDone
open Go.ChangeShapes Go.WideShapes Go.ChangeAt Go.RowKit
open Go.ChangeMaps (open_string shut_string)
theorem own : ownKnob Try.prog.godebug = none := by kernel_rfl
theorem laidOut : laidOutB Try.prog = true := by kernel_rfl
set_option linter.unusedVariables false
set_option maxRecDepth 100000 in
theorem lifted (os : Os) (started : os.Started) (H : Type) (enc : TypeId × Value → H) :
    ReturnsInHanded {} Try.checked os 4 .any (Rows.fnExactSigRightSpec.pre6 enc Try.prog Try.f4 Rows.fnExactSigRightRow.domain false) (Rows.fnExactSigRightSpec.post enc Try.prog Try.f4 false true false false) := by
  refine returnsInHanded_of_change (C := Try.checked) own started (by kernel_rfl) Try.func4
    (ChangeSpec.witness6 (enc := enc) (C := Try.checked) false ⟨#[], #[.agg #[.int .i64 0, .int .i64 0, .int .i64 0]], []⟩ 8 (by kernel_rfl) (by kernel_rfl) (by kernel_rfl) (by kernel_rfl)) ?_
  intro W base args ds gs before hval0 hW hcnd _
  have hval : ∀ (j : Nat) t v, Try.f4.params[j]? = some t → args[j]? = some v → Value.okWide Try.prog W .any base t v := hval0
  have hW' := hW
  obtain ⟨p, q, hA0, hV, rfl, hfz, hnd⟩ := hW
  have hA : DataW.TrodAll enc Try.prog W 0 (fun _ => true) true Try.f4.params.toList args.toList ds p := hA0
  rw [Try.params4] at hA hval
  obtain ⟨v0, vs0, d0, ds0, p0, q0, hargs, rfl, rfl, h0, r0⟩ := trodAll_cons hA
  obtain ⟨rfl, rfl, rfl⟩ := trodAll_nil r0
  obtain rfl : args = #[v0] := by cases args; simp_all
  obtain ⟨rfl, rfl⟩ := trodVars_none hV
  have k0 := h0
  have lt0 : ∀ x ∈ p0, x.block < W.heap.size := by obtain ⟨m, hm⟩ := k0; exact DataW.trod_lt m _ _ _ hm
  obtain ⟨x00, x10, x20, y00, y10, y20, n0, rfl, _, _, t00, t10, t20⟩ := Joins.open_agg3 Try.underlying25 (by kernel_rfl) (by kernel_rfl) (hval 0 25 v0 rfl rfl) h0
  obtain ⟨i0_0, g0_0, _, wi0_0⟩ := DataW.trod_int Try.underlying2 t00
  obtain rfl := (List.cons.inj g0_0).1
  obtain ⟨i1_0, g1_0, _, wi1_0⟩ := DataW.trod_int Try.underlying2 t10
  obtain rfl := (List.cons.inj g1_0).1
  obtain ⟨i2_0, g2_0, _, wi2_0⟩ := DataW.trod_int Try.underlying2 t20
  obtain rfl := (List.cons.inj g2_0).1
  clear hA0 hval0
  refine (sigRightWalk W i0_0 wi0_0 i1_0 wi1_0 i2_0 wi2_0).mono fun e W' ⟨he, bel⟩ => ?_
  subst he
  exact ⟨_, rfl, _, _, _, [], _, [], hW', trodAll_mk1 (shut_bool Try.underlying4 _), (trodAll_cons_mk (Below.trod laidOut (by kernel_rfl) (of_decide_eq_true (by kernel_rfl)) k0 bel lt0) trodAll_mk0), rfl, bel.frame _, fun h => by cases h⟩
theorem over : Rows.fnExactSigRightRow.holds Try.pinned (OpenSpec.ofChange Rows.fnExactSigRightSpec) :=
  OpenClaim.holds_of_wide 4 Try.f4 rfl rfl rfl rfl rfl rfl rfl ⟨rfl, rfl, rfl, rfl, rfl⟩ rfl rfl rfl rfl rfl (by kernel_rfl) Try.func4 (by kernel_rfl)
    (of_decide_eq_true (by kernel_rfl)) (by unfold Func.isWrapper; first | (rw [if_pos (by decide +kernel)]; kernel_rfl) | (rw [if_neg (by decide +kernel)]; exact ⟨rfl, rfl⟩))
    (fun os started H enc _ => lifted os started H enc)
end fnExactSigRightDone
theorem fnExactSigRight_holds : Rows.FnExactSigRightSaid := fnExactSigRightDone.over
#print axioms fnExactSigRight_holds
end Go.Proofs.Ythhmobjphloahag
