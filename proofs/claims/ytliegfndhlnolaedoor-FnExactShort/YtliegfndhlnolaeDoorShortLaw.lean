/- FnExactShort, its tied card: at every text Short answers as the specification's. The listed table is tied to the program's text; no other condition. -/
import Derived.Test.YtliegfndhlnolaeDoorShaN
import Derived.Test.YtliegfndhlnolaeDoorHexB
import Derived.Test.YtliegfndhlnolaeDoorTabLaid
import Derived.Test.YtliegfndhlnolaeDoorCards
import Derived.Test.YtliegfndhlnolaeDoorTie
import Derived.ShutString
import Derived.ChangeOld
import Derived.SevenTiedAt
namespace Go.Proofs.YtliegfndhlnolaeDoor
open Go.RowKit
theorem digOf_size (t : ByteArray) : (digOf t).size = 32 := by unfold digOf; rw [strOfNums_size]; rfl
theorem hexL_four (l : List UInt8) (h : 4 ≤ l.length) : hexL (l.take 4) = (hexL l).take 8 := by
  match l, h with
  | a :: b :: c :: d :: r, _ => simp [hexL]
/-- The first eight digits of a digest's. -/
def shortS (d : ByteArray) : ByteArray := strOfNums (hexL (d.extract 0 4).data.toList)
theorem shortS_eq (d : ByteArray) : strOfNums (hexL (d.extract 0 4).data.toList) = shortS d := rfl
theorem short_eq (d : ByteArray) (h : d.size = 32) : (strOfNums (hexL d.data.toList)).extract 0 8 = shortS d := by
  have hl : d.data.toList.length = d.size := by simp
  unfold shortS
  apply ByteArray.ext
  apply Array.ext'
  rw [list_extract, List.drop_zero, strOfNums_data, strOfNums_data, list_extract, List.drop_zero, hexL_four _ (by omega), List.map_take]
theorem hexSize (d : ByteArray) (h : d.size = 32) : (strOfNums (hexL d.data.toList)).size = 64 := by
  rw [strOfNums_size, hexL_len]
  have : d.data.toList.length = d.size := by simp
  omega
set_option maxHeartbeats 1000000 in
set_option maxRecDepth 100000 in
theorem specShort (t : ByteArray) (w : World) (ht : t.size ≤ 20000) :
    Calls Tryd.prog 15 #[.string t] w fun e w' => e = .returned (.string (shortS (digOf t))) ∧ Below w.heap.size w w' := by
  have hs := digOf_size t
  go_enter Tryd.func15, Tryd.ntmps15
  go_wp2_with fail
  refine (specDigest t w ht).mono ?_
  rintro e w1 ⟨rfl, hb1⟩
  generalize hD : digOf t = d at hs ⊢
  have HD : Hid (digOf t = d) := hD
  clear hD
  have HB1 : Hid (Below w.heap.size w w1) := hb1
  clear hb1
  go_wp2_with fail
  refine (specHex (d.extract 0 4) w1 (by rw [ByteArray.size_extract]; omega)).mono ?_
  rintro e w2 ⟨rfl, hb2⟩
  have HB2 : Hid (Below w.heap.size w w2) := HB1.out.trans (hb2.mono HB1.out.size)
  rw [shortS_eq]
  clear hb2
  go_wp2
  go_ret
  exact ⟨by rw [HD.out]; rfl, HB2.out⟩
set_option maxHeartbeats 1000000 in
set_option maxRecDepth 100000 in
theorem implShort (t : ByteArray) (w : World) (ht : t.size ≤ 20000) (hk : Keys w) :
    Calls Tryd.prog 16 #[.string t] w fun e w' => e = .returned (.string (shortS (digOf t))) ∧ Below w.heap.size w w' := by
  have hs := digOf_size t
  have hd : decide (20000 < t.size) = false := by simp; omega
  have HK : Hid (Keys w) := hk
  clear hk
  go_enter Tryd.func16, Tryd.ntmps16
  go_wp2_with fail
  refine (tooLong t _ (by unfold maxLen; omega)).mono ?_
  rintro e w' ⟨rfl, rfl⟩
  go_wp2_with fail
  refine (implDigest t w' ht HK.out).mono ?_
  rintro e w1 ⟨rfl, hb1⟩
  generalize hD : digOf t = d at hs ⊢
  have HD : Hid (digOf t = d) := hD
  clear hD
  have HB1 : Hid (Below w'.heap.size w' w1) := hb1
  clear hb1
  go_wp2_with fail
  refine (implHex d w1 (by omega)).mono ?_
  rintro e w2 ⟨rfl, hb2⟩
  have HB2 : Hid (Below w'.heap.size w' w2) := HB1.out.trans (hb2.mono HB1.out.size)
  have hx := hexSize d hs
  have HE : Hid _ := short_eq d hs
  clear hb2
  generalize strOfNums (hexL d.data.toList) = x at hx HE ⊢
  go_wp2
  go_ret
  exact ⟨by rw [HD.out, ← HE.out]; rfl, HB2.out⟩
theorem implShort_long (t : ByteArray) (w : World) (hs : 20000 < t.size) (hm : t.size ≤ maxLen) :
    Calls Tryd.prog 16 #[.string t] w fun e w' => e = .returned (.string ByteArray.empty) ∧ Below w.heap.size w w' := by
  have hd : decide (20000 < t.size) = true := by simp; omega
  go_enter Tryd.func16, Tryd.ntmps16
  go_wp2_with fail
  refine (tooLong t _ hm).mono ?_
  rintro e w' ⟨rfl, rfl⟩
  go_wp2
  go_ret
  exact ⟨rfl, Below.refl _ _⟩
theorem specShort_long (t : ByteArray) (w : World) (hs : 20000 < t.size) (hm : t.size ≤ maxLen) :
    Calls Tryd.prog 15 #[.string t] w fun e w' => e = .returned (.string ByteArray.empty) ∧ Below w.heap.size w w' := by
  unfold maxLen at hm
  go_enter Tryd.func15, Tryd.ntmps15
  go_wp2
  go_ret
  exact ⟨rfl, Below.refl _ _⟩
theorem shortWalk (a0 : ByteArray) (w0 : a0.size ≤ maxLen) (w : World) (hk : Keys w) :
    Calls Tryd.prog 5 #[.string a0] w fun e w' => e = .returned (.bool true) ∧ Below w.heap.size w w' := by
  have hm := w0
  unfold maxLen at hm
  have HK : Hid (Keys w) := hk
  have hkp := hk.pos
  clear hk
  by_cases hb : 1048576 < a0.size
  · go_enter Tryd.func5, Tryd.ntmps5
    go_wp2
    go_ret
    exact ⟨rfl, Below.refl _ _⟩
  by_cases hc : 20000 < a0.size
  · go_enter Tryd.func5, Tryd.ntmps5
    go_wp2_with fail
    refine (specShort_long a0 _ hc w0).mono ?_
    rintro e w1 ⟨rfl, hb1⟩
    go_wp2_with fail
    refine (implShort_long a0 _ hc w0).mono ?_
    rintro e w2 ⟨rfl, hb2⟩
    have HB : Hid (Below w.heap.size w w2) := hb1.trans (hb2.mono hb1.size)
    clear hb1 hb2
    go_wp2
    go_ret
    exact ⟨rfl, HB.out⟩
  · go_enter Tryd.func5, Tryd.ntmps5
    go_wp2_with fail
    refine (specShort a0 _ (by omega)).mono ?_
    rintro e w1 ⟨rfl, hb1⟩
    have HK1 : Hid (Keys w1) := HK.out.below hb1 hkp
    go_wp2_with fail
    refine (implShort a0 _ (by omega) HK1.out).mono ?_
    rintro e w2 ⟨rfl, hb2⟩
    have HB : Hid (Below w.heap.size w w2) := hb1.trans (hb2.mono hb1.size)
    clear hb1 hb2
    generalize shortS (digOf a0) = s
    go_wp2
    go_ret
    exact ⟨rfl, HB.out⟩
namespace fnExactShortDone
open Go.ChangeShapes Go.WideShapes Go.ChangeAt Go.RowKit
open Go.ChangeMaps (open_string shut_string)
theorem own : ownKnob Tryd.prog.godebug = none := by kernel_rfl
theorem laidOut : laidOutB Tryd.prog = true := by kernel_rfl
set_option linter.unusedVariables false
theorem laid_met (os : Os) (args : Array Value) : laidMetH Tryd.prog Rows.fnExactShortRow.laid ((World.doorLaid Tryd.prog 400 os).forCall (fun _ _ => 0) ⟨#[], args, []⟩).memory :=
  laidMetH_of_parts3 (fuel := 8) (laidMet_of_run' 8 (by kernel_rfl) (by kernel_rfl)) (by kernel_rfl) (by kernel_rfl)
set_option maxRecDepth 100000 in
theorem lifted (os : Os) (started : os.Started) (H : Type) (enc : TypeId × Value → H) :
    ReturnsInHanded {} Tryd.checked os 5 .any (fun w args => (Rows.fnExactShortSpec.pre enc Tryd.prog Tryd.f5 [] false w args ∧ laidMetH Tryd.prog Rows.fnExactShortRow.laid w) ∧ sizedMet enc Tryd.prog Tryd.f5 (OpenSpec.ofChange Rows.fnExactShortSpec) false w args)
      (Rows.fnExactShortSpec.post enc Tryd.prog Tryd.f5 false true false false) := by
  refine returnsInHanded_of_change_and (C := Tryd.checked) (X := fun w _ => laidMetH Tryd.prog Rows.fnExactShortRow.laid w) (fun _ _ _ hh h => h.of_heap hh) own started (by kernel_rfl) Tryd.func5
    (ChangeSpec.witness_shaped (enc := enc) (C := Tryd.checked) (os := os) (X := fun w _ => laidMetH Tryd.prog Rows.fnExactShortRow.laid w) false (World.doorLaid Tryd.prog 400 os) #[.string ByteArray.empty] 8 rfl (World.shaped_of_RefB (by kernel_rfl) (by kernel_rfl)) (by kernel_rfl) (by kernel_rfl) (by kernel_rfl) (laid_met os _)) ?_
  intro W base args ds gs before hval0 hW _ _ hL _
  have hval : ∀ (j : Nat) t v, Tryd.f5.params[j]? = some t → args[j]? = some v → Value.okWide Tryd.prog W .any base t v := hval0
  have hW' := hW
  obtain ⟨p, q, hA0, hV, rfl, hfz, hnd⟩ := hW
  have hV0 := hV
  obtain ⟨_, _, _, _, dv, _, rfl, _⟩ := trodVars_one hV
  have hA : DataW.TrodAll enc Tryd.prog W 0 (fun _ => true) true Tryd.f5.params.toList args.toList ds p := hA0
  rw [Tryd.params5] at hA hval
  obtain ⟨v0, vs0, d0, ds0, p0, q0, hargs, rfl, rfl, h0, r0⟩ := trodAll_cons hA
  obtain ⟨rfl, rfl, rfl⟩ := trodAll_nil r0
  obtain rfl : args = #[v0] := by cases args; simp_all
  obtain ⟨a0, rfl, rfl, rfl, w0⟩ := open_string Tryd.underlying9 (hval 0 9 v0 rfl rfl) h0
  clear hA0 hval0
  refine (shortWalk a0 w0 W (keys_of_laid hL)).mono fun e W' ⟨he, bel⟩ => ?_
  subst he
  exact ⟨_, rfl, _, _, _, [], _, _, hW', trodAll_mk1 (shut_bool Tryd.underlying4 _), (trodAll_cons_mk (shut_string Tryd.underlying9 w0) trodAll_mk0), bel.trodVars laidOut (by kernel_rfl) hV0, bel.frame _, fun h => by cases h⟩
theorem said : Rows.FnExactShortSaid :=
  OpenClaim.holds_of_wide 5 Tryd.f5 rfl rfl rfl rfl rfl rfl rfl ⟨rfl, rfl, rfl, rfl, rfl⟩ rfl rfl rfl rfl rfl (by kernel_rfl) Tryd.func5 (by kernel_rfl)
    (of_decide_eq_true (by kernel_rfl)) (by unfold Func.isWrapper; first | (rw [if_pos (by decide +kernel)]; kernel_rfl) | (rw [if_neg (by decide +kernel)]; exact ⟨rfl, rfl⟩))
    (fun os started H enc _ => lifted os started H enc)
theorem plain (f : FuncId) (fn : Func) (hf : Tryd.pinned.checked.prog.funcNamed "loop.example/g00371/laws.FnExactShort" = some f) (hfn : Tryd.pinned.checked.prog.funcs[f]? = some fn) :
    false = Tryd.pinned.checked.prog.looks [] ∧ ∀ (j : Nat) t, fn.params[j]? = some t → Tryd.pinned.checked.prog.wantsStandIn t = false := by
  obtain rfl : f = 5 := Option.some.inj ((show Tryd.prog.funcNamed "loop.example/g00371/laws.FnExactShort" = some 5 by kernel_rfl).symm.trans hf) |>.symm
  obtain rfl : fn = Tryd.f5 := (Option.some.inj (Tryd.func5.symm.trans hfn)).symm
  refine ⟨by kernel_rfl, fun j t ht => ?_⟩
  rw [Tryd.params5] at ht
  have hm : t = 9 := by simpa using Array.mem_of_getElem? ht
  rcases hm with rfl <;> (show _ = _; kernel_rfl)
end fnExactShortDone
theorem fnExactShort_card : Rows.FnExactShortCardSaid :=
  Claim7.holds_tied_plain_at .later [] _ _ _ _ fnExactShortDone.said (fun _ h => by cases h) (by kernel_rfl) (fun _ h => by cases h) fnExactShort_row_tie rfl ⟨rfl, rfl⟩ (by kernel_rfl) rfl fnExactShortDone.plain (by kernel_rfl)
#print axioms fnExactShort_card
end Go.Proofs.YtliegfndhlnolaeDoor
