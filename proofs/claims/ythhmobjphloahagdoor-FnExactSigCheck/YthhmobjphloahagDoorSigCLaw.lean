/- FnExactSigCheck, its tied card: at every argument SigCheck answers as the specification's. The listed table is tied to the program's text; no other condition. -/
import Derived.Test.YthhmobjphloahagDoorSc07
import Derived.Test.YthhmobjphloahagDoorSc04
import Derived.Test.YthhmobjphloahagDoorCards
import Derived.Test.YthhmobjphloahagDoorTie
import Derived.ShutString
import Derived.ChangeOld
import Derived.SevenTiedAt
import Derived.Lib.SmallJoins
namespace Go.Proofs.YthhmobjphloahagDoor
open Go.RowKit
set_option maxHeartbeats 1000000 in
set_option maxRecDepth 100000 in
theorem sigCheckWalk (w : World) (k : Int) (_ : (Lit.int .i64 k).wf = true) (e : Int) (_ : (Lit.int .i64 e).wf = true) (s : Int) (_ : (Lit.int .i64 s).wf = true) (t : ByteArray) (ht : t.size ≤ maxLen) (hk : Keys w) :
    Calls Tryd.prog 5 #[.agg #[.int .i64 k, .int .i64 e, .int .i64 s], .string t] w fun r w' => r = .returned (.bool true) ∧ Below w.heap.size w w' := by
  have hm := ht
  unfold maxLen at hm
  have HK : Hid (Keys w) := hk
  have hkp := hk.pos
  clear hk
  by_cases hb : 1048576 < t.size
  · go_enter Tryd.func5, Tryd.ntmps5
    go_wp2
    go_ret
    exact ⟨rfl, allocBelow _ _⟩
  go_enter Tryd.func5, Tryd.ntmps5
  go_wp2_with fail
  obtain ⟨w0, hw0⟩ : ∃ w0, w.alloc (.cells #[.int .i64 k, .int .i64 e, .int .i64 s] 29 (0, 0)) = w0 := ⟨_, rfl⟩
  have hg0 : w0.heap[w.heap.size]? = some (.cells [Value.int .i64 k, .int .i64 e, .int .i64 s].toArray 29 (0, 0)) := by rw [← hw0]; exact heap_alloc_new w _
  have hb0 : Below w.heap.size w w0 := by rw [← hw0]; exact allocBelow w _
  have hs0 : w0.heap.size = w.heap.size + 1 := by rw [← hw0]; simp
  rw [hw0]
  have HKEEP : Hid (∀ W, Below w0.heap.size w0 W → W.cell? ⟨w.heap.size, 0, none⟩ = some (.int .i64 k) ∧ W.cell? ⟨w.heap.size, 1, none⟩ = some (.int .i64 e) ∧ W.cell? ⟨w.heap.size, 2, none⟩ = some (.int .i64 s)) := fun W hW => by
    have hP : W.heap[w.heap.size]? = some (.cells [Value.int .i64 k, .int .i64 e, .int .i64 s].toArray 29 (0, 0)) := by rw [hW.block _ (by omega)]; exact hg0
    exact ⟨rowFacts hP 0 _ rfl, rowFacts hP 1 _ rfl, rowFacts hP 2 _ rfl⟩
  have B0 : Hid (Below w.heap.size w w0) := hb0
  clear hw0 hg0 hb0 hs0
  refine (toSig k e s w0).mono ?_
  rintro r w1 ⟨rfl, hb1⟩
  have b1 : Hid (Below w0.heap.size w0 w1) := hb1
  have z1 := hb1.size
  clear hb1
  go_wp2_with fail
  refine (specSigCheck k e s t _ ht).mono ?_
  rintro r w2 ⟨rfl, hb2⟩
  have b2 : Hid (Below w0.heap.size w0 w2) := b1.out.trans (hb2.mono z1)
  have z2 := b2.out.size
  obtain ⟨c0, c1, c2⟩ := HKEEP.out _ b2.out
  clear hb2
  go_wp2_with fail
  refine (toSig k e s w2).mono ?_
  rintro r w3 ⟨rfl, hb3⟩
  have b3 : Hid (Below w0.heap.size w0 w3) := b2.out.trans (hb3.mono z2)
  have z3 := b3.out.size
  have B3 : Hid (Below w.heap.size w w3) := B0.out.trans (b3.out.mono B0.out.size)
  have K3 : Hid (Keys w3) := HK.out.below B3.out hkp
  clear hb3
  go_wp2_with fail
  refine (implSigCheck k e s t _ ht K3.out).mono ?_
  rintro r w4 ⟨rfl, hb4⟩
  have B4 : Hid (Below w.heap.size w w4) := B3.out.trans (hb4.mono B3.out.size)
  clear hb4
  generalize sigCB k e s t = b
  go_wp2
  go_ret
  exact ⟨rfl, B4.out⟩
namespace fnExactSigCheckDone
open Go.ChangeShapes Go.WideShapes Go.ChangeAt Go.RowKit
open Go.ChangeMaps (open_string shut_string)
theorem own : ownKnob Tryd.prog.godebug = none := by kernel_rfl
theorem laidOut : laidOutB Tryd.prog = true := by kernel_rfl
set_option linter.unusedVariables false
theorem laid_met (os : Os) (args : Array Value) : laidMetH Tryd.prog Rows.fnExactSigCheckRow.laid ((World.doorLaid Tryd.prog 400 os).forCall (fun _ _ => 0) ⟨#[], args, []⟩).memory :=
  laidMetH_of_parts3 (fuel := 8) (laidMet_of_run' 8 (by kernel_rfl) (by kernel_rfl)) (by kernel_rfl) (by kernel_rfl)
set_option maxRecDepth 100000 in
theorem lifted (os : Os) (started : os.Started) (H : Type) (enc : TypeId × Value → H) :
    ReturnsInHanded {} Tryd.checked os 5 .any (fun w args => (Rows.fnExactSigCheckSpec.pre enc Tryd.prog Tryd.f5 [] false w args ∧ laidMetH Tryd.prog Rows.fnExactSigCheckRow.laid w) ∧ sizedMet enc Tryd.prog Tryd.f5 (OpenSpec.ofChange Rows.fnExactSigCheckSpec) false w args)
      (Rows.fnExactSigCheckSpec.post enc Tryd.prog Tryd.f5 false true false false) := by
  refine returnsInHanded_of_change_and (C := Tryd.checked) (X := fun w _ => laidMetH Tryd.prog Rows.fnExactSigCheckRow.laid w) (fun _ _ _ hh h => h.of_heap hh) own started (by kernel_rfl) Tryd.func5
    (ChangeSpec.witness_shaped (enc := enc) (C := Tryd.checked) (os := os) (X := fun w _ => laidMetH Tryd.prog Rows.fnExactSigCheckRow.laid w) false (World.doorLaid Tryd.prog 400 os) #[.agg #[.int .i64 0, .int .i64 0, .int .i64 0], .string ByteArray.empty] 8 rfl (World.shaped_of_RefB (by kernel_rfl) (by kernel_rfl)) (by kernel_rfl) (by kernel_rfl) (by kernel_rfl) (laid_met os _)) ?_
  intro W base args ds gs before hval0 hW _ _ hL _
  have hval : ∀ (j : Nat) t v, Tryd.f5.params[j]? = some t → args[j]? = some v → Value.okWide Tryd.prog W .any base t v := hval0
  have hW' := hW
  obtain ⟨p, q, hA0, hV, rfl, hfz, hnd⟩ := hW
  have hV0 := hV
  obtain ⟨_, _, _, _, dv, _, rfl, _⟩ := trodVars_one hV
  have hA : DataW.TrodAll enc Tryd.prog W 0 (fun _ => true) true Tryd.f5.params.toList args.toList ds p := hA0
  rw [Tryd.params5] at hA hval
  obtain ⟨v0, vs0, d0, ds0, p0, q0, hargs, rfl, rfl, h0, r0⟩ := trodAll_cons hA
  obtain ⟨v1, vs1, d1, ds1, p1, q1, rfl, rfl, rfl, h1, r1⟩ := trodAll_cons r0
  obtain ⟨rfl, rfl, rfl⟩ := trodAll_nil r1
  obtain rfl : args = #[v0, v1] := by cases args; simp_all
  have k0 := h0
  have lt0 : ∀ x ∈ p0, x.block < W.heap.size := by obtain ⟨m, hm⟩ := k0; exact DataW.trod_lt m _ _ _ hm
  obtain ⟨x00, x10, x20, y00, y10, y20, n0, rfl, _, _, t00, t10, t20⟩ := Joins.open_agg3 Tryd.underlying29 (by kernel_rfl) (by kernel_rfl) (hval 0 29 v0 rfl rfl) h0
  obtain ⟨i0_0, g0_0, _, wi0_0⟩ := DataW.trod_int Tryd.underlying2 t00
  obtain rfl := (List.cons.inj g0_0).1
  obtain ⟨i1_0, g1_0, _, wi1_0⟩ := DataW.trod_int Tryd.underlying2 t10
  obtain rfl := (List.cons.inj g1_0).1
  obtain ⟨i2_0, g2_0, _, wi2_0⟩ := DataW.trod_int Tryd.underlying2 t20
  obtain rfl := (List.cons.inj g2_0).1
  obtain ⟨a1, rfl, rfl, rfl, w1⟩ := open_string Tryd.underlying9 (hval 1 9 v1 rfl rfl) h1
  clear hA0 hval0
  refine (sigCheckWalk W i0_0 wi0_0 i1_0 wi1_0 i2_0 wi2_0 a1 w1 (keys_of_laid hL)).mono fun e W' ⟨he, bel⟩ => ?_
  subst he
  exact ⟨_, rfl, _, _, _, [], _, _, hW', trodAll_mk1 (shut_bool Tryd.underlying4 _), (trodAll_cons_mk (Below.trod laidOut (by kernel_rfl) (of_decide_eq_true (by kernel_rfl)) k0 bel lt0) (trodAll_cons_mk (shut_string Tryd.underlying9 w1) trodAll_mk0)), bel.trodVars laidOut (by kernel_rfl) hV0, bel.frame _, fun h => by cases h⟩
theorem said : Rows.FnExactSigCheckSaid :=
  OpenClaim.holds_of_wide 5 Tryd.f5 rfl rfl rfl rfl rfl rfl rfl ⟨rfl, rfl, rfl, rfl, rfl⟩ rfl rfl rfl rfl rfl (by kernel_rfl) Tryd.func5 (by kernel_rfl)
    (of_decide_eq_true (by kernel_rfl)) (by unfold Func.isWrapper; first | (rw [if_pos (by decide +kernel)]; kernel_rfl) | (rw [if_neg (by decide +kernel)]; exact ⟨rfl, rfl⟩))
    (fun os started H enc _ => lifted os started H enc)
theorem plain (f : FuncId) (fn : Func) (hf : Tryd.pinned.checked.prog.funcNamed "loop.example/g00371/laws.FnExactSigCheck" = some f) (hfn : Tryd.pinned.checked.prog.funcs[f]? = some fn) :
    false = Tryd.pinned.checked.prog.looks [] ∧ ∀ (j : Nat) t, fn.params[j]? = some t → Tryd.pinned.checked.prog.wantsStandIn t = false := by
  obtain rfl : f = 5 := Option.some.inj ((show Tryd.prog.funcNamed "loop.example/g00371/laws.FnExactSigCheck" = some 5 by kernel_rfl).symm.trans hf) |>.symm
  obtain rfl : fn = Tryd.f5 := (Option.some.inj (Tryd.func5.symm.trans hfn)).symm
  refine ⟨by kernel_rfl, fun j t ht => ?_⟩
  rw [Tryd.params5] at ht
  have hm : t = 29 ∨ t = 9 := by simpa using Array.mem_of_getElem? ht
  rcases hm with rfl | rfl <;> (show _ = _; kernel_rfl)
end fnExactSigCheckDone
theorem fnExactSigCheck_card : Rows.FnExactSigCheckCardSaid :=
  Claim7.holds_tied_plain_at .later [] _ _ _ _ fnExactSigCheckDone.said (fun _ h => by cases h) (by kernel_rfl) (fun _ h => by cases h) fnExactSigCheck_row_tie rfl ⟨rfl, rfl⟩ (by kernel_rfl) rfl fnExactSigCheckDone.plain (by kernel_rfl)
#print axioms fnExactSigCheck_card
end Go.Proofs.YthhmobjphloahagDoor
