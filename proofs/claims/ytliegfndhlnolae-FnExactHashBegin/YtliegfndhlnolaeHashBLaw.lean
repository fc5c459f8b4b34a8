/- FnExactHashBegin: HashBegin answers as the specification's, and its answer owns its memory. No condition. -/
import Derived.Test.YtliegfndhlnolaeHashD
import Derived.Test.YtliegfndhlnolaeHashM
import Derived.ProofKit
import Derived.OpenShut
import Derived.ShutString
import Derived.ChangeOld
import Derived.Below
namespace Go.Proofs.Ytliegfndhlnolae
open Go.RowKit
theorem iCells_ints (s : St) : iCells s = lCells (s.row.map uI) := by simp [iCells, lCells]
set_option maxHeartbeats 1000000 in
theorem hashBeginWalk (w : World) :
    Calls Try.prog 3 #[] w fun e w' => e = .returned (.bool true) ∧ Below w.heap.size w w' := by
  go_enter Try.func3, Try.ntmps3
  go_wp2_with fail
  refine (specBegin _).mono ?_
  rintro e w1 ⟨g1, rfl, hg1, hr1, hb1⟩
  have HR1 : Hid (w1.heap[g1]? = some (.cells (iCells st0).toArray 2 (0, 0))) := hr1
  have HB1 : Hid (Below w.heap.size w w1) := hb1
  have HL1 : Hid (g1 < w1.heap.size) := heap_lt hr1
  clear hr1 hb1
  go_wp2_with fail
  have hb2 : Below w1.heap.size w1 (w1.alloc (.cells #[.slice (some ⟨g1, 0, none⟩) 8 8, .string ByteArray.empty, .int .i64 0] 24 (0, 0))) := (Below.refl _ w1).alloc (Nat.le_refl _) _
  refine (implBegin _).mono ?_
  rintro e w3 ⟨g2, rfl, hg2, hr2, hb3⟩
  have hA3 : w3.heap[w1.heap.size]? = some (.cells [.slice (some ⟨g1, 0, none⟩) 8 8, .string ByteArray.empty, .int .i64 0].toArray 24 (0, 0)) := by
    rw [hb3.block _ (by simp)]; exact heap_alloc_new w1 _
  have hr3 : w3.heap[g1]? = some (.cells (iCells st0).toArray 2 (0, 0)) := by
    have := HL1.out
    rw [hb3.block _ (by simp; omega), Below.heap_alloc w1 _ _ (by omega)]; exact HR1.out
  have HB3 : Hid (Below w.heap.size w w3) := (HB1.out.alloc HB1.out.size _).trans (hb3.mono (by have := HB1.out.size; simp; omega))
  have hs3 : w1.heap.size + 1 ≤ w3.heap.size := by have := hb3.size; simpa using this
  have hl3 := heap_lt hr2
  have hg2' : w1.heap.size + 1 ≤ g2 := by simpa using hg2
  clear hb3 hb2 hg2
  have a0 := fun o => (World.cell?_alloc_lt w3 o ⟨w1.heap.size, 0, none⟩ (show w1.heap.size < w3.heap.size by omega)).trans (rowFacts hA3 0 _ rfl)
  have a1 := fun o => (World.cell?_alloc_lt w3 o ⟨w1.heap.size, 1, none⟩ (show w1.heap.size < w3.heap.size by omega)).trans (rowFacts hA3 1 _ rfl)
  have a2 := fun o => (World.cell?_alloc_lt w3 o ⟨w1.heap.size, 2, none⟩ (show w1.heap.size < w3.heap.size by omega)).trans (rowFacts hA3 2 _ rfl)
  have HA3 : Hid _ := hA3
  have HR2 : Hid (w3.heap[g2]? = some (.cells (iCells st0).toArray 2 (0, 0))) := hr2
  have HR3 : Hid (w3.heap[g1]? = some (.cells (iCells st0).toArray 2 (0, 0))) := hr3
  clear hA3 hr2 hr3
  go_wp2_with fail
  generalize hw4 : w3.alloc _ = w4
  have hb4 : Below w3.heap.size w3 w4 := by rw [← hw4]; exact (Below.refl _ w3).alloc (Nat.le_refl _) _
  have hC4 : w4.heap[w3.heap.size]? = some (.cells [.slice (some ⟨g2, 0, none⟩) 8 8, .string ByteArray.empty, .int .i64 0].toArray 24 (0, 0)) := by rw [← hw4]; exact heap_alloc_new w3 _
  have hs4 : w4.heap.size = w3.heap.size + 1 := by rw [← hw4]; simp
  have hA4 : w4.heap[w1.heap.size]? = some (.cells [.slice (some ⟨g1, 0, none⟩) 8 8, .string ByteArray.empty, .int .i64 0].toArray 24 (0, 0)) := by rw [hb4.block _ (by omega)]; exact HA3.out
  have hP4 : w4.heap[g1]? = some (.cells (iCells st0).toArray 2 (0, 0)) := by have := HL1.out; rw [hb4.block _ (by omega)]; exact HR3.out
  have hQ4 : w4.heap[g2]? = some (.cells (iCells st0).toArray 2 (0, 0)) := by rw [hb4.block _ (by omega)]; exact HR2.out
  have HB4 : Hid (Below w.heap.size w w4) := HB3.out.trans (hb4.mono HB3.out.size)
  have hI : ∀ (W : World) (g : Nat), W.heap[g]? = some (.cells (iCells st0).toArray 2 (0, 0)) → IsInts W (some ⟨g, 0, none⟩) (st0.row.map uI) := fun W g h => .row (t := 2) (rest := []) (by rw [← iCells_ints, List.append_nil]; exact h)
  refine (eqHash (some ⟨g2, 0, none⟩) (some ⟨g1, 0, none⟩) (st0.row.map uI) 8 8 ByteArray.empty 0 w4 (show 8 ≤ 2000000 by omega) (hI _ _ hQ4) (hI _ _ hP4)).mono ?_
  rintro e w5 ⟨rfl, hb5⟩
  have hC5 := hC4
  have hA5 := hA4
  have hP5 := hP4
  have hQ5 := hQ4
  rw [← hb5.block _ (show w3.heap.size < w4.heap.size by omega)] at hC5
  rw [← hb5.block _ (show w1.heap.size < w4.heap.size by omega)] at hA5
  rw [← hb5.block _ (show g1 < w4.heap.size by have := HL1.out; omega)] at hP5
  rw [← hb5.block _ (show g2 < w4.heap.size by omega)] at hQ5
  have HB5 : Hid (Below w.heap.size w w5) := HB4.out.trans (hb5.mono HB4.out.size)
  have hs5 : w3.heap.size + 1 ≤ w5.heap.size := by have := hb5.size; omega
  have HC5 : Hid _ := hC5
  have HA5 : Hid _ := hA5
  have HP5 : Hid _ := hP5
  have HQ5 : Hid _ := hQ5
  have c0 := rowFacts hC5 0 _ rfl
  have c1 := rowFacts hC5 1 _ rfl
  have c2 := rowFacts hC5 2 _ rfl
  clear hC4 hA4 hP4 hQ4 hC5 hA5 hP5 hQ5 hb4 hb5 hw4 a0 a1 a2 hI hs4
  go_wp2_with fail
  refine (markHash g2 8 8 (iCells st0) ByteArray.empty 0 1 w5 (by omega) rfl (Nat.le_refl _) HQ5.out).mono ?_
  rintro e w6 ⟨rfl, ⟨M, hM, hMc⟩, ho6, hs6, hbb6⟩
  have hC6 := (ho6 w3.heap.size (by omega) (by omega)).trans HC5.out
  have hA6 := (ho6 w1.heap.size (by omega) (by omega)).trans HA5.out
  have hP6 := (ho6 g1 (by have := HL1.out; omega) (by have := HL1.out; omega)).trans HP5.out
  have HB6 : Hid (Below w.heap.size w w6) := hbb6 _ _ (by have := HB1.out.size; omega) HB5.out.size HB5.out
  clear ho6 hbb6 c0 c1 c2
  have c0 := rowFacts hC6 0 _ rfl
  have c1 := rowFacts hC6 1 _ rfl
  have c2 := rowFacts hC6 2 _ rfl
  have HC6 : Hid _ := hC6
  have HA6 : Hid _ := hA6
  have HP6 : Hid _ := hP6
  have HM6 : Hid (w6.heap[g2]? = some (.cells M.toArray 2 (0, 0))) := hM
  have HMc : Hid (Counts 1 8 M) := hMc
  clear hC6 hA6 hP6 hM hMc
  go_wp2_with fail
  refine (heldHash g2 8 8 M ByteArray.empty 0 1 w6 (by omega) rfl HM6.out HMc.out).mono ?_
  rintro e w7 ⟨rfl, hb7⟩
  have hs7 : w6.heap.size ≤ w7.heap.size := hb7.size
  have hC7 := (hb7.block w3.heap.size (by omega)).trans HC6.out
  have hA7 := (hb7.block w1.heap.size (by omega)).trans HA6.out
  have hP7 := (hb7.block g1 (by have := HL1.out; omega)).trans HP6.out
  have hM7 := (hb7.block g2 (by omega)).trans HM6.out
  have HB7 : Hid (Below w.heap.size w w7) := HB6.out.trans (hb7.mono HB6.out.size)
  have HC7 : Hid _ := hC7
  have HA7 : Hid _ := hA7
  have HP7 : Hid _ := hP7
  have HM7 : Hid _ := hM7
  clear c0 c1 c2 hC7 hA7 hP7 hM7 hb7
  go_wp2_with fail
  refine (implBegin w7).mono ?_
  rintro e w8 ⟨g4, rfl, hg4, hr4, hb8⟩
  have hs8 : w7.heap.size ≤ w8.heap.size := hb8.size
  have hl4 := heap_lt hr4
  have hC8 := (hb8.block w3.heap.size (by omega)).trans HC7.out
  have hA8 := (hb8.block w1.heap.size (by omega)).trans HA7.out
  have hP8 := (hb8.block g1 (by have := HL1.out; omega)).trans HP7.out
  have hM8 := (hb8.block g2 (by omega)).trans HM7.out
  have HB8 : Hid (Below w.heap.size w w8) := HB7.out.trans (hb8.mono HB7.out.size)
  have a0 := fun o => (World.cell?_alloc_lt w8 o ⟨w1.heap.size, 0, none⟩ (show w1.heap.size < w8.heap.size by omega)).trans (rowFacts hA8 0 _ rfl)
  have a1 := fun o => (World.cell?_alloc_lt w8 o ⟨w1.heap.size, 1, none⟩ (show w1.heap.size < w8.heap.size by omega)).trans (rowFacts hA8 1 _ rfl)
  have a2 := fun o => (World.cell?_alloc_lt w8 o ⟨w1.heap.size, 2, none⟩ (show w1.heap.size < w8.heap.size by omega)).trans (rowFacts hA8 2 _ rfl)
  have HC8 : Hid _ := hC8
  have HP8 : Hid _ := hP8
  have HM8 : Hid _ := hM8
  have HR4 : Hid (w8.heap[g4]? = some (.cells (iCells st0).toArray 2 (0, 0))) := hr4
  clear hC8 hA8 hP8 hM8 hb8 hr4
  go_wp2_with fail
  generalize hw9 : w8.alloc _ = w9
  have hb9 : Below w8.heap.size w8 w9 := by rw [← hw9]; exact (Below.refl _ w8).alloc (Nat.le_refl _) _
  have hs9 : w9.heap.size = w8.heap.size + 1 := by rw [← hw9]; simp
  have hP9 := (hb9.block g1 (by have := HL1.out; omega)).trans HP8.out
  have hR9 := (hb9.block g4 hl4).trans HR4.out
  have hC9 := (hb9.block w3.heap.size (by omega)).trans HC8.out
  have hM9 := (hb9.block g2 (by omega)).trans HM8.out
  have HB9 : Hid (Below w.heap.size w w9) := HB8.out.trans (hb9.mono HB8.out.size)
  have hI : ∀ (W : World) (g : Nat), W.heap[g]? = some (.cells (iCells st0).toArray 2 (0, 0)) → IsInts W (some ⟨g, 0, none⟩) (st0.row.map uI) := fun W g h => .row (t := 2) (rest := []) (by rw [← iCells_ints, List.append_nil]; exact h)
  refine (eqHash (some ⟨g4, 0, none⟩) (some ⟨g1, 0, none⟩) (st0.row.map uI) 8 8 ByteArray.empty 0 w9 (show 8 ≤ 2000000 by omega) (hI _ _ hR9) (hI _ _ hP9)).mono ?_
  rintro e w10 ⟨rfl, hb10⟩
  have hC10 := (hb10.block w3.heap.size (by omega)).trans hC9
  have hM10 := (hb10.block g2 (by omega)).trans hM9
  have HB10 : Hid (Below w.heap.size w w10) := HB9.out.trans (hb10.mono HB9.out.size)
  have c0 := rowFacts hC10 0 _ rfl
  have c1 := rowFacts hC10 1 _ rfl
  have c2 := rowFacts hC10 2 _ rfl
  have HM10 : Hid _ := hM10
  clear hP9 hR9 hC9 hM9 hI hw9 hb9 hb10 hC10 hM10 a0 a1 a2 hs9
  go_wp2_with fail
  refine (heldHash g2 8 8 M ByteArray.empty 0 1 w10 (by omega) rfl HM10.out HMc.out).mono ?_
  rintro e w11 ⟨rfl, hb11⟩
  have HB11 : Hid (Below w.heap.size w w11) := HB10.out.trans (hb11.mono HB10.out.size)
  clear c0 c1 c2 hb11
  go_wp2
  go_ret
  exact ⟨rfl, HB11.out⟩
namespace fnExactHashBeginDone
open Go.ChangeShapes Go.WideShapes Go.ChangeAt Go.RowKit
open Go.ChangeMaps (open_string shut_string)
theorem own : ownKnob Try.prog.godebug = none := by kernel_rfl
theorem laidOut : laidOutB Try.prog = true := by kernel_rfl
set_option linter.unusedVariables false
set_option maxRecDepth 100000 in
theorem lifted (os : Os) (started : os.Started) (H : Type) (enc : TypeId × Value → H) :
    ReturnsInHanded {} Try.checked os 3 .any (Rows.fnExactHashBeginSpec.pre6 enc Try.prog Try.f3 Rows.fnExactHashBeginRow.domain false) (Rows.fnExactHashBeginSpec.post enc Try.prog Try.f3 false true false false) := by
  refine returnsInHanded_of_change (C := Try.checked) own started (by kernel_rfl) Try.func3
    (ChangeSpec.witness6 (enc := enc) (C := Try.checked) false ⟨#[], #[], []⟩ 8 (by kernel_rfl) (by kernel_rfl) (by kernel_rfl) (by kernel_rfl)) ?_
  intro W base args ds gs before hval0 hW hcnd _
  have hval : ∀ (j : Nat) t v, Try.f3.params[j]? = some t → args[j]? = some v → Value.okWide Try.prog W .any base t v := hval0
  have hW' := hW
  obtain ⟨p, q, hA0, hV, rfl, hfz, hnd⟩ := hW
  have hA : DataW.TrodAll enc Try.prog W 0 (fun _ => true) true Try.f3.params.toList args.toList ds p := hA0
  rw [Try.params3] at hA hval
  obtain ⟨hargs, rfl, rfl⟩ := trodAll_nil hA
  obtain rfl : args = #[] := by cases args; simp_all
  obtain ⟨rfl, rfl⟩ := trodVars_none hV
  clear hA0 hval0
  simp only [List.append_nil] at hW'
  refine (hashBeginWalk  W).mono fun e W' ⟨he, bel⟩ => ?_
  subst he
  exact ⟨_, rfl, _, _, _, [], [], [], hW', trodAll_mk1 (shut_bool Try.underlying4 _), trodAll_mk0, rfl, bel.frame _, fun h => by cases h⟩
theorem over : Rows.fnExactHashBeginRow.holds Try.pinned (OpenSpec.ofChange Rows.fnExactHashBeginSpec) :=
  OpenClaim.holds_of_wide 3 Try.f3 rfl rfl rfl rfl rfl rfl rfl ⟨rfl, rfl, rfl, rfl, rfl⟩ rfl rfl rfl rfl rfl (by kernel_rfl) Try.func3 (by kernel_rfl)
    (of_decide_eq_true (by kernel_rfl)) (by unfold Func.isWrapper; first | (rw [if_pos (by decide +kernel)]; kernel_rfl) | (rw [if_neg (by decide +kernel)]; exact ⟨rfl, rfl⟩))
    (fun os started H enc _ => lifted os started H enc)
end fnExactHashBeginDone
theorem fnExactHashBegin_holds : Rows.FnExactHashBeginSaid := fnExactHashBeginDone.over
#print axioms fnExactHashBegin_holds
end Go.Proofs.Ytliegfndhlnolae
