/- FnExactSignText, its tied card: at every argument SignText answers as the specification's, field by field. The listed table is tied to the program's text; no other condition. -/
import Derived.Test.YthhmobjphloahagDoorSg07
import Derived.Test.YthhmobjphloahagDoorSg04
import Derived.Test.YthhmobjphloahagDoorCards
import Derived.Test.YthhmobjphloahagDoorTie
import Derived.ShutString
import Derived.ChangeOld
import Derived.SevenTiedAt
namespace Go.Proofs.YthhmobjphloahagDoor
open Go.RowKit
theorem signV_some (x : Int) (t : ByteArray) : ∃ k e s : Int, signV x t = .agg #[.int .i64 k, .int .i64 e, .int .i64 s] := by
  unfold signV
  split
  · exact ⟨_, _, _, rfl⟩
  · exact ⟨_, _, _, rfl⟩
set_option maxHeartbeats 1000000 in
set_option maxRecDepth 100000 in
theorem signTextWalk (a0 : Int) (_ : (Lit.int .i64 a0).wf = true) (a1 : ByteArray) (w1 : a1.size ≤ maxLen) (w : World) (hk : Keys w) :
    Calls Tryd.prog 4 #[.int .i64 a0, .string a1] w fun e w' => e = .returned (.bool true) ∧ Below w.heap.size w w' := by
  have hm := w1
  unfold maxLen at hm
  have HK : Hid (Keys w) := hk
  have hkp := hk.pos
  clear hk
  by_cases hb : 1048576 < a1.size
  · go_enter Tryd.func4, Tryd.ntmps4
    go_wp2
    go_ret
    exact ⟨rfl, Below.refl _ _⟩
  · obtain ⟨k, e, s, hv⟩ := signV_some a0 a1
    have HS : Hid (∀ v : World, Calls Tryd.prog 8 #[.int .i64 a0, .string a1] v fun r w' => r = .returned (.agg #[.int .i64 k, .int .i64 e, .int .i64 s]) ∧ Below v.heap.size v w') := fun v => by rw [← hv]; exact specSign a0 a1 v w1
    have HI : Hid (∀ v : World, Keys v → Calls Tryd.prog 9 #[.int .i64 a0, .string a1] v fun r w' => r = .returned (.agg #[.int .i64 k, .int .i64 e, .int .i64 s]) ∧ Below v.heap.size v w') := fun v h => by rw [← hv]; exact implSign a0 a1 v w1 h
    clear hv
    go_enter Tryd.func4, Tryd.ntmps4
    go_wp2_with fail
    refine (HS.out _).mono ?_
    rintro r w2 ⟨rfl, hb2⟩
    have B2 : Hid (Below w.heap.size w w2) := hb2
    have z2 := hb2.size
    clear hb2
    go_wp2_with fail
    obtain ⟨w3, hw3⟩ : ∃ w3, w2.alloc (.cells #[.int .i64 k, .int .i64 e, .int .i64 s] 25 (0, 0)) = w3 := ⟨_, rfl⟩
    have hg3 : w3.heap[w2.heap.size]? = some (.cells [Value.int .i64 k, .int .i64 e, .int .i64 s].toArray 25 (0, 0)) := by rw [← hw3]; exact heap_alloc_new w2 _
    have hb3 : Below w.heap.size w w3 := by rw [← hw3]; exact B2.out.alloc z2 _
    have hz3 : w3.heap.size = w2.heap.size + 1 := by rw [← hw3]; simp
    rw [hw3]
    have K3 : Hid (Keys w3) := HK.out.below hb3 hkp
    have B3 : Hid (Below w.heap.size w w3) := hb3
    have G3 : Hid _ := hg3
    clear hw3 hg3 hb3
    refine (HI.out _ K3.out).mono ?_
    rintro r w4 ⟨rfl, hb4⟩
    have hg4 : w4.heap[w2.heap.size]? = some (.cells [Value.int .i64 k, .int .i64 e, .int .i64 s].toArray 25 (0, 0)) := by rw [hb4.block _ (by omega)]; exact G3.out
    have hl4 : w2.heap.size < w4.heap.size := heap_lt hg4
    have B4 : Hid (Below w.heap.size w w4) := B3.out.trans (hb4.mono B3.out.size)
    have c0 := rowFacts hg4 0 _ rfl
    have c1 := rowFacts hg4 1 _ rfl
    have c2 := rowFacts hg4 2 _ rfl
    clear hb4 hg4 G3 hz3
    have z4 := B4.out.size
    go_wp2_with fail
    refine (eqSig k e s _).mono ?_
    rintro r w5 ⟨rfl, hb5⟩
    have B5 : Hid (Below w.heap.size w w5) := (B4.out.alloc z4 _).trans (hb5.mono (by simp; omega))
    clear hb5
    go_wp2
    go_ret
    exact ⟨rfl, B5.out⟩
namespace fnExactSignTextDone
open Go.ChangeShapes Go.WideShapes Go.ChangeAt Go.RowKit
open Go.ChangeMaps (open_string shut_string)
theorem own : ownKnob Tryd.prog.godebug = none := by kernel_rfl
theorem laidOut : laidOutB Tryd.prog = true := by kernel_rfl
set_option linter.unusedVariables false
theorem laid_met (os : Os) (args : Array Value) : laidMetH Tryd.prog Rows.fnExactSignTextRow.laid ((World.doorLaid Tryd.prog 400 os).forCall (fun _ _ => 0) ⟨#[], args, []⟩).memory :=
  laidMetH_of_parts3 (fuel := 8) (laidMet_of_run' 8 (by kernel_rfl) (by kernel_rfl)) (by kernel_rfl) (by kernel_rfl)
set_option maxRecDepth 100000 in
theorem lifted (os : Os) (started : os.Started) (H : Type) (enc : TypeId × Value → H) :
    ReturnsInHanded {} Tryd.checked os 4 .any (fun w args => (Rows.fnExactSignTextSpec.pre enc Tryd.prog Tryd.f4 [] false w args ∧ laidMetH Tryd.prog Rows.fnExactSignTextRow.laid w) ∧ sizedMet enc Tryd.prog Tryd.f4 (OpenSpec.ofChange Rows.fnExactSignTextSpec) false w args)
      (Rows.fnExactSignTextSpec.post enc Tryd.prog Tryd.f4 false true false false) := by
  refine returnsInHanded_of_change_and (C := Tryd.checked) (X := fun w _ => laidMetH Tryd.prog Rows.fnExactSignTextRow.laid w) (fun _ _ _ hh h => h.of_heap hh) own started (by kernel_rfl) Tryd.func4
    (ChangeSpec.witness_shaped (enc := enc) (C := Tryd.checked) (os := os) (X := fun w _ => laidMetH Tryd.prog Rows.fnExactSignTextRow.laid w) false (World.doorLaid Tryd.prog 400 os) #[.int .i64 0, .string ByteArray.empty] 8 rfl (World.shaped_of_RefB (by kernel_rfl) (by kernel_rfl)) (by kernel_rfl) (by kernel_rfl) (by kernel_rfl) (laid_met os _)) ?_
  intro W base args ds gs before hval0 hW _ _ hL _
  have hval : ∀ (j : Nat) t v, Tryd.f4.params[j]? = some t → args[j]? = some v → Value.okWide Tryd.prog W .any base t v := hval0
  have hW' := hW
  obtain ⟨p, q, hA0, hV, rfl, hfz, hnd⟩ := hW
  have hV0 := hV
  obtain ⟨_, _, _, _, dv, _, rfl, _⟩ := trodVars_one hV
  have hA : DataW.TrodAll enc Tryd.prog W 0 (fun _ => true) true Tryd.f4.params.toList args.toList ds p := hA0
  rw [Tryd.params4] at hA hval
  obtain ⟨v0, vs0, d0, ds0, p0, q0, hargs, rfl, rfl, h0, r0⟩ := trodAll_cons hA
  obtain ⟨v1, vs1, d1, ds1, p1, q1, rfl, rfl, rfl, h1, r1⟩ := trodAll_cons r0
  obtain ⟨rfl, rfl, rfl⟩ := trodAll_nil r1
  obtain rfl : args = #[v0, v1] := by cases args; simp_all
  obtain ⟨a0, rfl, rfl, rfl, w0⟩ := open_int Tryd.underlying2 (hval 0 2 v0 rfl rfl) h0
  obtain ⟨a1, rfl, rfl, rfl, w1⟩ := open_string Tryd.underlying9 (hval 1 9 v1 rfl rfl) h1
  clear hA0 hval0
  refine (signTextWalk a0 w0 a1 w1 W (keys_of_laid hL)).mono fun e W' ⟨he, bel⟩ => ?_
  subst he
  exact ⟨_, rfl, _, _, _, [], _, _, hW', trodAll_mk1 (shut_bool Tryd.underlying4 _), (trodAll_cons_mk (shut_int Tryd.underlying2 w0) (trodAll_cons_mk (shut_string Tryd.underlying9 w1) trodAll_mk0)), bel.trodVars laidOut (by kernel_rfl) hV0, bel.frame _, fun h => by cases h⟩
theorem said : Rows.FnExactSignTextSaid :=
  OpenClaim.holds_of_wide 4 Tryd.f4 rfl rfl rfl rfl rfl rfl rfl ⟨rfl, rfl, rfl, rfl, rfl⟩ rfl rfl rfl rfl rfl (by kernel_rfl) Tryd.func4 (by kernel_rfl)
    (of_decide_eq_true (by kernel_rfl)) (by unfold Func.isWrapper; first | (rw [if_pos (by decide +kernel)]; kernel_rfl) | (rw [if_neg (by decide +kernel)]; exact ⟨rfl, rfl⟩))
    (fun os started H enc _ => lifted os started H enc)
theorem plain (f : FuncId) (fn : Func) (hf : Tryd.pinned.checked.prog.funcNamed "loop.example/g00371/laws.FnExactSignText" = some f) (hfn : Tryd.pinned.checked.prog.funcs[f]? = some fn) :
    false = Tryd.pinned.checked.prog.looks [] ∧ ∀ (j : Nat) t, fn.params[j]? = some t → Tryd.pinned.checked.prog.wantsStandIn t = false := by
  obtain rfl : f = 4 := Option.some.inj ((show Tryd.prog.funcNamed "loop.example/g00371/laws.FnExactSignText" = some 4 by kernel_rfl).symm.trans hf) |>.symm
  obtain rfl : fn = Tryd.f4 := (Option.some.inj (Tryd.func4.symm.trans hfn)).symm
  refine ⟨by kernel_rfl, fun j t ht => ?_⟩
  rw [Tryd.params4] at ht
  have hm : t = 2 ∨ t = 9 := by simpa using Array.mem_of_getElem? ht
  rcases hm with rfl | rfl <;> (show _ = _; kernel_rfl)
end fnExactSignTextDone
theorem fnExactSignText_card : Rows.FnExactSignTextCardSaid :=
  Claim7.holds_tied_plain_at .later [] _ _ _ _ fnExactSignTextDone.said (fun _ h => by cases h) (by kernel_rfl) (fun _ h => by cases h) fnExactSignText_row_tie rfl ⟨rfl, rfl⟩ (by kernel_rfl) rfl fnExactSignTextDone.plain (by kernel_rfl)
#print axioms fnExactSignText_card
end Go.Proofs.YthhmobjphloahagDoor
