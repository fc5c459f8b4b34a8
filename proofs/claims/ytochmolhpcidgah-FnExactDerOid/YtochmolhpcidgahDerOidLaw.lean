/- FnExactDerOid: at every list of arcs DerOid answers as the specification's, and leaves the list as it was. No condition. -/
import Derived.Test.YtochmolhpcidgahDerYo
import Derived.Test.YtochmolhpcidgahDerZc
import Derived.Test.YtochmolhpcidgahIntsE
import Derived.Test.YtochmolhpcidgahIntsT
import Derived.Test.YtochmolhpcidgahIsRowJ
import Derived.ProofKit
import Derived.OpenShut
import Derived.ShutString
import Derived.ChangeOld
import Derived.Below
namespace Go.Proofs.Ytochmolhpcidgah
open Go.RowKit

set_option maxHeartbeats 1000000 in
set_option maxRecDepth 100000 in
theorem derOidWalk (w : World) (a0 : Option Addr) (len0 cap0 : Nat) (z0 : List Int) (w0 : IsRow .i64 w a0 len0 cap0 z0) :
    Calls Try.prog 5 #[.slice a0 len0 cap0] w fun e w' => e = .returned (.bool true) ∧ Below w.heap.size w w' := by
  have hm := w0.len_le
  unfold maxLen at hm
  obtain ⟨zs, hz, hI, _⟩ := w0.ints
  clear w0
  by_cases hb : 1048576 < len0
  · clear hI
    go_enter Try.func5, Try.ntmps5
    go_wp2_with fail
    go_ret
    exact ⟨rfl, Below.refl _ _⟩
  have hl : zs.length ≤ 1048576 := by omega
  have hA := hI.lt
  have HT : Hid (∀ V : World, Below w.heap.size w V → Calls Try.prog 13 #[.slice a0 len0 cap0] V fun e w' => e = .returned (.slice (some ⟨V.heap.size, 0, none⟩) len0 len0) ∧ IsInts w' (some ⟨V.heap.size, 0, none⟩) zs ∧ Below V.heap.size V w' ∧ V.heap.size < w'.heap.size) := fun V hV => by
    have := toInts a0 zs cap0 V hl (hI.below hV hA)
    rw [hz] at this
    refine this.mono ?_
    rintro e w' ⟨rfl, hr, hb⟩
    refine ⟨rfl, IsInts.row (rest := []) (by simpa using hr), hb, heap_lt hr⟩
  have HS : Hid (∀ (V : World) (g : Nat), IsInts V (some ⟨g, 0, none⟩) zs → Calls Try.prog 12 #[.slice (some ⟨g, 0, none⟩) len0 len0] V fun e w' => e = .returned (.string (oidD zs)) ∧ Below V.heap.size V w') := fun V g hV => by
    have := specDerOid (some ⟨g, 0, none⟩) zs len0 V hl hV
    rw [hz] at this
    exact this
  have HM : Hid (∀ (V : World) (g : Nat), IsInts V (some ⟨g, 0, none⟩) zs → Calls Try.prog 14 #[.slice (some ⟨g, 0, none⟩) len0 len0] V fun e w' => e = .returned (.string (oidD zs)) ∧ Below V.heap.size V w') := fun V g hV => by
    have := implDerOid (some ⟨g, 0, none⟩) zs len0 V hl (by omega) hV
    rw [hz] at this
    exact this
  have HE : Hid (∀ (V : World) (g h : Nat), IsInts V (some ⟨g, 0, none⟩) zs → IsInts V (some ⟨h, 0, none⟩) zs → Calls Try.prog 15 #[.slice (some ⟨g, 0, none⟩) len0 len0, .slice (some ⟨h, 0, none⟩) len0 len0] V fun e w' => e = .returned (.bool true) ∧ Below V.heap.size V w') := fun V g h hV hW => by
    have := eqInts (some ⟨g, 0, none⟩) (some ⟨h, 0, none⟩) zs len0 len0 V (by omega) hV hW
    rw [hz] at this
    exact this
  generalize oidD zs = s at *
  clear hI hA hl
  go_enter Try.func5, Try.ntmps5
  go_wp2_with fail
  refine (HT.out _ (Below.refl _ _)).mono ?_
  rintro e w1 ⟨rfl, i1, b1, s1⟩
  have I1 : Hid (IsInts w1 (some ⟨w.heap.size, 0, none⟩) zs) := i1
  have B1 : Hid (Below w.heap.size w w1) := b1
  clear i1 b1
  go_wp2_with fail
  refine (HS.out _ _ I1.out).mono ?_
  rintro e w2 ⟨rfl, b2⟩
  have B2 : Hid (Below w.heap.size w w2) := B1.out.trans (b2.mono (by omega))
  have z2 := B2.out.size
  clear b2
  go_wp2_with fail
  refine (HT.out _ B2.out).mono ?_
  rintro e w3 ⟨rfl, i3, b3, s3⟩
  have I3 : Hid (IsInts w3 (some ⟨w2.heap.size, 0, none⟩) zs) := i3
  have B3 : Hid (Below w.heap.size w w3) := B2.out.trans (b3.mono z2)
  have z3 := B3.out.size
  clear i3 b3
  go_wp2_with fail
  refine (HM.out _ _ I3.out).mono ?_
  rintro e w4 ⟨rfl, b4⟩
  have I4 : Hid (IsInts w4 (some ⟨w2.heap.size, 0, none⟩) zs) := I3.out.below b4 I3.out.lt
  have B4 : Hid (Below w.heap.size w w4) := B3.out.trans (b4.mono z3)
  have z4 := B4.out.size
  clear b4
  go_wp2_with fail
  refine (HT.out _ B4.out).mono ?_
  rintro e w5 ⟨rfl, i5, b5, s5⟩
  have I5 : Hid (IsInts w5 (some ⟨w4.heap.size, 0, none⟩) zs) := i5
  have J5 : Hid (IsInts w5 (some ⟨w2.heap.size, 0, none⟩) zs) := I4.out.below b5 I4.out.lt
  have B5 : Hid (Below w.heap.size w w5) := B4.out.trans (b5.mono z4)
  have z5 := B5.out.size
  clear i5 b5
  go_wp2_with fail
  refine (HE.out _ _ _ J5.out I5.out).mono ?_
  rintro e w6 ⟨rfl, b6⟩
  have B6 : Hid (Below w.heap.size w w6) := B5.out.trans (b6.mono z5)
  clear b6
  go_wp2_with fail
  go_ret
  exact ⟨rfl, B6.out⟩
namespace fnExactDerOidDone
open Go.ChangeShapes Go.WideShapes Go.ChangeAt Go.RowKit
open Go.ChangeMaps (open_string shut_string)
theorem own : ownKnob Try.prog.godebug = none := by kernel_rfl
theorem laidOut : laidOutB Try.prog = true := by kernel_rfl
set_option linter.unusedVariables false
set_option maxRecDepth 100000 in
theorem lifted (os : Os) (started : os.Started) (H : Type) (enc : TypeId × Value → H) :
    ReturnsInHanded {} Try.checked os 5 .any (Rows.fnExactDerOidSpec.pre6 enc Try.prog Try.f5 Rows.fnExactDerOidRow.domain false) (Rows.fnExactDerOidSpec.post enc Try.prog Try.f5 false true false false) := by
  refine returnsInHanded_of_change (C := Try.checked) own started (by kernel_rfl) Try.func5
    (ChangeSpec.witness6 (enc := enc) (C := Try.checked) false ⟨#[], #[.slice none 0 0], []⟩ 8 (by kernel_rfl) (by kernel_rfl) (by kernel_rfl) (by kernel_rfl)) ?_
  intro W base args ds gs before hval0 hW hcnd _
  have hval : ∀ (j : Nat) t v, Try.f5.params[j]? = some t → args[j]? = some v → Value.okWide Try.prog W .any base t v := hval0
  have hW' := hW
  obtain ⟨p, q, hA0, hV, rfl, hfz, hnd⟩ := hW
  have hA : DataW.TrodAll enc Try.prog W 0 (fun _ => true) true Try.f5.params.toList args.toList ds p := hA0
  rw [Try.params5] at hA hval
  obtain ⟨v0, vs0, d0, ds0, p0, q0, hargs, rfl, rfl, h0, r0⟩ := trodAll_cons hA
  obtain ⟨rfl, rfl, rfl⟩ := trodAll_nil r0
  obtain rfl : args = #[v0] := by cases args; simp_all
  obtain ⟨rfl, rfl⟩ := trodVars_none hV
  obtain ⟨a0, len0, cap0, rfl⟩ := okWide_slice Try.underlying29 (hval 0 29 v0 rfl rfl)
  have k0 := h0
  have lt0 : ∀ x ∈ p0, x.block < W.heap.size := by obtain ⟨m, hm⟩ := k0; exact DataW.trod_lt m _ _ _ hm
  obtain ⟨z0, w0⟩ : ∃ zs, IsRow .i64 W a0 len0 cap0 zs := by
    obtain ⟨fuel, hf⟩ := h0
    rcases open_ints Try.underlying29 Try.underlying2 (by kernel_rfl) hf with ⟨hcs, _⟩ | ⟨x, l, c, zs, hcs, _, hl, hm, hz, _, hcell, hwz⟩
    · simp [Value.cells] at hcs
      obtain ⟨rfl, rfl, rfl⟩ := hcs
      exact ⟨[], .inl ⟨rfl, rfl, rfl, rfl⟩⟩
    · simp [Value.cells] at hcs
      obtain ⟨rfl, rfl, rfl⟩ := hcs
      exact ⟨zs, .inr ⟨_, rfl, hl, hm, by simpa using hz, hcell, hwz⟩⟩
  clear hA0 hval0
  refine (derOidWalk W a0 len0 cap0 z0 w0).mono fun e W' ⟨he, bel⟩ => ?_
  subst he
  exact ⟨_, rfl, _, _, _, [], _, [], hW', trodAll_mk1 (shut_bool Try.underlying4 _), (trodAll_cons_mk (Below.trod laidOut (by kernel_rfl) (of_decide_eq_true (by kernel_rfl)) k0 bel lt0) trodAll_mk0), rfl, bel.frame _, fun h => by cases h⟩
theorem over : Rows.fnExactDerOidRow.holds Try.pinned (OpenSpec.ofChange Rows.fnExactDerOidSpec) :=
  OpenClaim.holds_of_wide 5 Try.f5 rfl rfl rfl rfl rfl rfl rfl ⟨rfl, rfl, rfl, rfl, rfl⟩ rfl rfl rfl rfl rfl (by kernel_rfl) Try.func5 (by kernel_rfl)
    (of_decide_eq_true (by kernel_rfl)) (by unfold Func.isWrapper; first | (rw [if_pos (by decide +kernel)]; kernel_rfl) | (rw [if_neg (by decide +kernel)]; exact ⟨rfl, rfl⟩))
    (fun os started H enc _ => lifted os started H enc)
end fnExactDerOidDone
theorem fnExactDerOid_holds : Rows.FnExactDerOidSaid := fnExactDerOidDone.over
#print axioms fnExactDerOid_holds
end Go.Proofs.Ytochmolhpcidgah
