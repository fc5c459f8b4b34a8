/- FnExactDerIntRead: at every text DerIntRead answers as the specification's, every field. No condition. -/
import Derived.Test.YtochmolhpcidgahDerK
import Derived.Test.YtochmolhpcidgahDerL
import Derived.ProofKit
import Derived.OpenShut
import Derived.ShutString
import Derived.ChangeOld
import Derived.Below
namespace Go.Proofs.Ytochmolhpcidgah
open Go.RowKit
theorem eqNumT (n c : Int) (w : World) :
    Calls Try.prog 11 #[.agg #[.int .i64 n, .int .i64 0, .int .i64 c], .agg #[.int .i64 n, .int .i64 0, .int .i64 c]] w fun e w' => e = .returned (.bool true) ∧ Below w.heap.size w w' := by
  have e0 : (n != n) = false := by simp
  have e2 : (c != c) = false := by simp
  go_enter Try.func11, Try.ntmps11
  go_wp2
  go_ret
  exact ⟨rfl, by repeat (first | exact Below.refl _ _ | refine Below.setCell ?_ (by simp) _ | refine Below.alloc ?_ (by simp) _)⟩
set_option maxHeartbeats 1000000 in
theorem intReadWalk (a0 : ByteArray) (w0 : a0.size ≤ maxLen) (w : World) :
    Calls Try.prog 4 #[.string a0] w fun e w' => e = .returned (.bool true) ∧ Below w.heap.size w w' := by
  have hm := w0
  unfold maxLen at hm
  by_cases hb : 1048576 < a0.size
  · go_enter Try.func4, Try.ntmps4
    go_wp2
    go_ret
    exact ⟨rfl, Below.refl _ _⟩
  have HS : Hid (∀ v : World, Calls Try.prog 9 #[.string a0] v fun e w' => e = .returned (numT (intR a0).1 (intR a0).2) ∧ Below v.heap.size v w') := fun v => specIntRead a0 v w0
  have HI : Hid (∀ v : World, Calls Try.prog 10 #[.string a0] v fun e w' => e = .returned (numT (intR a0).1 (intR a0).2) ∧ Below v.heap.size v w') := fun v => implIntRead a0 v w0
  unfold numT at HS HI
  generalize (intR a0).1 = n at *
  generalize (intR a0).2 = c at *
  go_enter Try.func4, Try.ntmps4
  go_wp2_with fail
  refine (HS.out _).mono ?_
  rintro e w1 ⟨rfl, hb1⟩
  go_wp2_with fail
  refine (HI.out _).mono ?_
  rintro e w2 ⟨rfl, hb2⟩
  obtain ⟨hr, hB, hz⟩ := resKeep (cs := [.int .i64 n, .int .i64 0, .int .i64 c]) (T := 25) hb2
  obtain ⟨⟨k0, k1, k2⟩, _⟩ := row3 hr
  have HB : Hid (Below w.heap.size w w2) := hb1.trans (hB.mono hb1.size)
  have hs1 : w.heap.size ≤ w2.heap.size := HB.out.size
  clear hb1 hb2 hr hB
  go_wp2_with fail
  refine (eqNumT n c _).mono ?_
  rintro e w3 ⟨rfl, hb3⟩
  have HB3 : Hid (Below w.heap.size w w3) := (HB.out.alloc hs1 _).trans (hb3.mono (by simp; omega))
  clear hb3
  go_wp2
  go_ret
  exact ⟨rfl, HB3.out⟩
namespace fnExactDerIntReadDone
open Go.ChangeShapes Go.WideShapes Go.ChangeAt Go.RowKit
open Go.ChangeMaps (open_string shut_string)
theorem own : ownKnob Try.prog.godebug = none := by kernel_rfl
theorem laidOut : laidOutB Try.prog = true := by kernel_rfl
set_option linter.unusedVariables false
set_option maxRecDepth 100000 in
theorem lifted (os : Os) (started : os.Started) (H : Type) (enc : TypeId × Value → H) :
    ReturnsInHanded {} Try.checked os 4 .any (Rows.fnExactDerIntReadSpec.pre6 enc Try.prog Try.f4 Rows.fnExactDerIntReadRow.domain false) (Rows.fnExactDerIntReadSpec.post enc Try.prog Try.f4 false true false false) := by
  refine returnsInHanded_of_change (C := Try.checked) own started (by kernel_rfl) Try.func4
    (ChangeSpec.witness6 (enc := enc) (C := Try.checked) false ⟨#[], #[.string ByteArray.empty], []⟩ 8 (by kernel_rfl) (by kernel_rfl) (by kernel_rfl) (by kernel_rfl)) ?_
  intro W base args ds gs before hval0 hW hcnd _
  have hval : ∀ (j : Nat) t v, Try.f4.params[j]? = some t → args[j]? = some v → Value.okWide Try.prog W .any base t v := hval0
  have hW' := hW
  obtain ⟨p, q, hA0, hV, rfl, hfz, hnd⟩ := hW
  have hA : DataW.TrodAll enc Try.prog W 0 (fun _ => true) true Try.f4.params.toList args.toList ds p := hA0
  rw [Try.params4] at hA hval
  obtain ⟨v0, vs0, d0, ds0, p0, q0, hargs, rfl, rfl, h0, r0⟩ := trodAll_cons hA
  obtain ⟨rfl, rfl, rfl⟩ := trodAll_nil r0
  obtain rfl : args = #[v0] := by cases args; simp_all
  obtain ⟨rfl, rfl⟩ := trodVars_none hV
  obtain ⟨a0, rfl, rfl, rfl, w0⟩ := open_string Try.underlying9 (hval 0 9 v0 rfl rfl) h0
  clear hA0 hval0
  simp only [List.append_nil] at hW'
  refine (intReadWalk a0 w0 W).mono fun e W' ⟨he, bel⟩ => ?_
  subst he
  exact ⟨_, rfl, _, _, _, [], [], [], hW', trodAll_mk1 (shut_bool Try.underlying4 _), (trodAll_cons_mk (shut_string Try.underlying9 w0) trodAll_mk0), rfl, bel.frame _, fun h => by cases h⟩
theorem over : Rows.fnExactDerIntReadRow.holds Try.pinned (OpenSpec.ofChange Rows.fnExactDerIntReadSpec) :=
  OpenClaim.holds_of_wide 4 Try.f4 rfl rfl rfl rfl rfl rfl rfl ⟨rfl, rfl, rfl, rfl, rfl⟩ rfl rfl rfl rfl rfl (by kernel_rfl) Try.func4 (by kernel_rfl)
    (of_decide_eq_true (by kernel_rfl)) (by unfold Func.isWrapper; first | (rw [if_pos (by decide +kernel)]; kernel_rfl) | (rw [if_neg (by decide +kernel)]; exact ⟨rfl, rfl⟩))
    (fun os started H enc _ => lifted os started H enc)
end fnExactDerIntReadDone
theorem fnExactDerIntRead_holds : Rows.FnExactDerIntReadSaid := fnExactDerIntReadDone.over
#print axioms fnExactDerIntRead_holds
end Go.Proofs.Ytochmolhpcidgah
