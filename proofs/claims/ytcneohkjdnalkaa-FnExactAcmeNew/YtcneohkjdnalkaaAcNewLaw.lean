/- FnExactAcmeNew: at every argument AcmeNew answers as the specification, field by field; its answer owns its memory. No condition. -/
import Derived.Test.YtcneohkjdnalkaaAN02
import Derived.Deep.Cut
import Derived.ProofKit
import Derived.OpenShut
import Derived.ShutString
import Derived.ChangeOld
import Derived.Below
namespace Go.Proofs.Ytcneohkjdnalkaa
open Go.RowKit

set_option maxHeartbeats 4000000 in
set_option maxRecDepth 100000 in
theorem acmeNewWalk (a0 : Int) (_ : (Lit.int .i64 a0).wf = true) (w : World) :
    Calls Try.prog 3 #[.int .i64 a0] w fun e w' => e = .returned (.bool true) ∧ Below w.heap.size w w' := by
  obtain ⟨x, n, hv⟩ : ∃ x n : Int, newV a0 = acmeV x n := by
    unfold newV
    split
    · exact ⟨_, _, rfl⟩
    · exact ⟨_, _, rfl⟩
  have HS : Hid (∀ V, Calls Try.prog 4 #[.int .i64 a0] V fun e w' => e = .returned (.agg #[.int .i64 x, .int .i64 0, .int .i64 n, .slice none 0 0, .slice none 0 0, .slice none 0 0, .slice none 0 0, .slice none 0 0]) ∧ Below V.heap.size V w') := fun V => by have h := specAcmeNew a0 V; rw [hv] at h; exact h
  have HI : Hid (∀ V, Calls Try.prog 5 #[.int .i64 a0] V fun e w' => e = .returned (.agg #[.int .i64 x, .int .i64 0, .int .i64 n, .slice none 0 0, .slice none 0 0, .slice none 0 0, .slice none 0 0, .slice none 0 0]) ∧ Below V.heap.size V w') := fun V => by have h := implAcmeNew a0 V; rw [hv] at h; exact h
  have HE : Hid (∀ V, Calls Try.prog 6 #[.agg #[.int .i64 x, .int .i64 0, .int .i64 n, .slice none 0 0, .slice none 0 0, .slice none 0 0, .slice none 0 0, .slice none 0 0], .agg #[.int .i64 x, .int .i64 0, .int .i64 n, .slice none 0 0, .slice none 0 0, .slice none 0 0, .slice none 0 0, .slice none 0 0]] V fun e w' => e = .returned (.bool true) ∧ Below V.heap.size V w') := fun V => eqAcmeNil x n V
  have HM : Hid (∀ V, Calls Try.prog 7 #[.agg #[.int .i64 x, .int .i64 0, .int .i64 n, .slice none 0 0, .slice none 0 0, .slice none 0 0, .slice none 0 0, .slice none 0 0], .int .i64 1] V fun e w' => e = .returned (.int .i64 1) ∧ Below V.heap.size V w') := fun V => markAcmeNil x n V
  have HH : Hid (∀ V, Calls Try.prog 8 #[.agg #[.int .i64 x, .int .i64 0, .int .i64 n, .slice none 0 0, .slice none 0 0, .slice none 0 0, .slice none 0 0, .slice none 0 0], .int .i64 1] V fun e w' => e = .returned (.int .i64 1) ∧ Below V.heap.size V w') := fun V => heldAcmeNil x n V
  clear hv
  go_enter Try.func3, Try.ntmps3
  go_wp2_with fail
  refine (HS.out _).mono ?_
  rintro e w1 ⟨rfl, b1⟩
  obtain ⟨w2, hw2⟩ : ∃ y, y = w1.alloc (.cells [Value.int .i64 x, .int .i64 0, .int .i64 n, .slice none 0 0, .slice none 0 0, .slice none 0 0, .slice none 0 0, .slice none 0 0].toArray 28 (0, 0)) := ⟨_, rfl⟩
  have gA2 : Hid (w2.heap[w1.heap.size]? = some (.cells [Value.int .i64 x, .int .i64 0, .int .i64 n, .slice none 0 0, .slice none 0 0, .slice none 0 0, .slice none 0 0, .slice none 0 0].toArray 28 (0, 0))) := by rw [hw2]; exact heap_alloc_new w1 _
  have B2 : Hid (Below w.heap.size w w2) := by rw [hw2]; exact b1.alloc b1.size _
  clear b1
  go_upto_region 2 with fail
  rw [← hw2]
  clear hw2
  go_wp2_with fail
  refine (HI.out _).mono ?_
  rintro e w3 ⟨rfl, b3⟩
  have gA3 : Hid (w3.heap[w1.heap.size]? = some (.cells [Value.int .i64 x, .int .i64 0, .int .i64 n, .slice none 0 0, .slice none 0 0, .slice none 0 0, .slice none 0 0, .slice none 0 0].toArray 28 (0, 0))) := by show _ = _; rw [b3.block _ (heap_lt gA2.out)]; exact gA2.out
  have B3 : Hid (Below w.heap.size w w3) := B2.out.trans (b3.mono B2.out.size)
  clear b3 gA2 B2
  obtain ⟨w4, hw4⟩ : ∃ y, y = w3.alloc (.cells [Value.int .i64 x, .int .i64 0, .int .i64 n, .slice none 0 0, .slice none 0 0, .slice none 0 0, .slice none 0 0, .slice none 0 0].toArray 28 (0, 0)) := ⟨_, rfl⟩
  have gA4 : Hid (w4.heap[w1.heap.size]? = some (.cells [Value.int .i64 x, .int .i64 0, .int .i64 n, .slice none 0 0, .slice none 0 0, .slice none 0 0, .slice none 0 0, .slice none 0 0].toArray 28 (0, 0))) := by rw [hw4, Below.heap_alloc _ _ _ (heap_lt gA3.out)]; exact gA3.out
  have gB4 : Hid (w4.heap[w3.heap.size]? = some (.cells [Value.int .i64 x, .int .i64 0, .int .i64 n, .slice none 0 0, .slice none 0 0, .slice none 0 0, .slice none 0 0, .slice none 0 0].toArray 28 (0, 0))) := by rw [hw4]; exact heap_alloc_new w3 _
  have B4 : Hid (Below w.heap.size w w4) := by rw [hw4]; exact B3.out.alloc B3.out.size _
  clear gA3 B3
  go_upto_region 3 with fail
  rw [← hw4]
  clear hw4
  have xgA0 := rowFacts gA4.out 0 _ rfl
  have xgA1 := rowFacts gA4.out 1 _ rfl
  have xgA2 := rowFacts gA4.out 2 _ rfl
  have xgA3 := rowFacts gA4.out 3 _ rfl
  have xgA4 := rowFacts gA4.out 4 _ rfl
  have xgA5 := rowFacts gA4.out 5 _ rfl
  have xgA6 := rowFacts gA4.out 6 _ rfl
  have xgA7 := rowFacts gA4.out 7 _ rfl
  have xgB0 := rowFacts gB4.out 0 _ rfl
  have xgB1 := rowFacts gB4.out 1 _ rfl
  have xgB2 := rowFacts gB4.out 2 _ rfl
  have xgB3 := rowFacts gB4.out 3 _ rfl
  have xgB4 := rowFacts gB4.out 4 _ rfl
  have xgB5 := rowFacts gB4.out 5 _ rfl
  have xgB6 := rowFacts gB4.out 6 _ rfl
  have xgB7 := rowFacts gB4.out 7 _ rfl
  go_wp2_with fail
  refine (HE.out _).mono ?_
  rintro e w5 ⟨rfl, b5⟩
  have gA5 : Hid (w5.heap[w1.heap.size]? = some (.cells [Value.int .i64 x, .int .i64 0, .int .i64 n, .slice none 0 0, .slice none 0 0, .slice none 0 0, .slice none 0 0, .slice none 0 0].toArray 28 (0, 0))) := by show _ = _; rw [b5.block _ (heap_lt gA4.out)]; exact gA4.out
  have gB5 : Hid (w5.heap[w3.heap.size]? = some (.cells [Value.int .i64 x, .int .i64 0, .int .i64 n, .slice none 0 0, .slice none 0 0, .slice none 0 0, .slice none 0 0, .slice none 0 0].toArray 28 (0, 0))) := by show _ = _; rw [b5.block _ (heap_lt gB4.out)]; exact gB4.out
  have B5 : Hid (Below w.heap.size w w5) := B4.out.trans (b5.mono B4.out.size)
  clear b5 B4 gA4 gB4 xgA0 xgA1 xgA2 xgA3 xgA4 xgA5 xgA6 xgA7 xgB0 xgB1 xgB2 xgB3 xgB4 xgB5 xgB6 xgB7
  have xgA0 := rowFacts gA5.out 0 _ rfl
  have xgA1 := rowFacts gA5.out 1 _ rfl
  have xgA2 := rowFacts gA5.out 2 _ rfl
  have xgA3 := rowFacts gA5.out 3 _ rfl
  have xgA4 := rowFacts gA5.out 4 _ rfl
  have xgA5 := rowFacts gA5.out 5 _ rfl
  have xgA6 := rowFacts gA5.out 6 _ rfl
  have xgA7 := rowFacts gA5.out 7 _ rfl
  have xgB0 := rowFacts gB5.out 0 _ rfl
  have xgB1 := rowFacts gB5.out 1 _ rfl
  have xgB2 := rowFacts gB5.out 2 _ rfl
  have xgB3 := rowFacts gB5.out 3 _ rfl
  have xgB4 := rowFacts gB5.out 4 _ rfl
  have xgB5 := rowFacts gB5.out 5 _ rfl
  have xgB6 := rowFacts gB5.out 6 _ rfl
  have xgB7 := rowFacts gB5.out 7 _ rfl
  go_wp2_with fail
  refine (HM.out _).mono ?_
  rintro e w6 ⟨rfl, b6⟩
  have gA6 : Hid (w6.heap[w1.heap.size]? = some (.cells [Value.int .i64 x, .int .i64 0, .int .i64 n, .slice none 0 0, .slice none 0 0, .slice none 0 0, .slice none 0 0, .slice none 0 0].toArray 28 (0, 0))) := by show _ = _; rw [b6.block _ (heap_lt gA5.out)]; exact gA5.out
  have gB6 : Hid (w6.heap[w3.heap.size]? = some (.cells [Value.int .i64 x, .int .i64 0, .int .i64 n, .slice none 0 0, .slice none 0 0, .slice none 0 0, .slice none 0 0, .slice none 0 0].toArray 28 (0, 0))) := by show _ = _; rw [b6.block _ (heap_lt gB5.out)]; exact gB5.out
  have B6 : Hid (Below w.heap.size w w6) := B5.out.trans (b6.mono B5.out.size)
  clear b6 B5 gA5 gB5 xgA0 xgA1 xgA2 xgA3 xgA4 xgA5 xgA6 xgA7 xgB0 xgB1 xgB2 xgB3 xgB4 xgB5 xgB6 xgB7
  have xgA0 := rowFacts gA6.out 0 _ rfl
  have xgA1 := rowFacts gA6.out 1 _ rfl
  have xgA2 := rowFacts gA6.out 2 _ rfl
  have xgA3 := rowFacts gA6.out 3 _ rfl
  have xgA4 := rowFacts gA6.out 4 _ rfl
  have xgA5 := rowFacts gA6.out 5 _ rfl
  have xgA6 := rowFacts gA6.out 6 _ rfl
  have xgA7 := rowFacts gA6.out 7 _ rfl
  have xgB0 := rowFacts gB6.out 0 _ rfl
  have xgB1 := rowFacts gB6.out 1 _ rfl
  have xgB2 := rowFacts gB6.out 2 _ rfl
  have xgB3 := rowFacts gB6.out 3 _ rfl
  have xgB4 := rowFacts gB6.out 4 _ rfl
  have xgB5 := rowFacts gB6.out 5 _ rfl
  have xgB6 := rowFacts gB6.out 6 _ rfl
  have xgB7 := rowFacts gB6.out 7 _ rfl
  go_wp2_with fail
  refine (HH.out _).mono ?_
  rintro e w7 ⟨rfl, b7⟩
  have gA7 : Hid (w7.heap[w1.heap.size]? = some (.cells [Value.int .i64 x, .int .i64 0, .int .i64 n, .slice none 0 0, .slice none 0 0, .slice none 0 0, .slice none 0 0, .slice none 0 0].toArray 28 (0, 0))) := by show _ = _; rw [b7.block _ (heap_lt gA6.out)]; exact gA6.out
  have gB7 : Hid (w7.heap[w3.heap.size]? = some (.cells [Value.int .i64 x, .int .i64 0, .int .i64 n, .slice none 0 0, .slice none 0 0, .slice none 0 0, .slice none 0 0, .slice none 0 0].toArray 28 (0, 0))) := by show _ = _; rw [b7.block _ (heap_lt gB6.out)]; exact gB6.out
  have B7 : Hid (Below w.heap.size w w7) := B6.out.trans (b7.mono B6.out.size)
  clear b7 B6 gA6 gB6 xgA0 xgA1 xgA2 xgA3 xgA4 xgA5 xgA6 xgA7 xgB0 xgB1 xgB2 xgB3 xgB4 xgB5 xgB6 xgB7
  go_wp2_with fail
  refine (HI.out _).mono ?_
  rintro e w8 ⟨rfl, b8⟩
  have gA8 : Hid (w8.heap[w1.heap.size]? = some (.cells [Value.int .i64 x, .int .i64 0, .int .i64 n, .slice none 0 0, .slice none 0 0, .slice none 0 0, .slice none 0 0, .slice none 0 0].toArray 28 (0, 0))) := by show _ = _; rw [b8.block _ (heap_lt gA7.out)]; exact gA7.out
  have gB8 : Hid (w8.heap[w3.heap.size]? = some (.cells [Value.int .i64 x, .int .i64 0, .int .i64 n, .slice none 0 0, .slice none 0 0, .slice none 0 0, .slice none 0 0, .slice none 0 0].toArray 28 (0, 0))) := by show _ = _; rw [b8.block _ (heap_lt gB7.out)]; exact gB7.out
  have B8 : Hid (Below w.heap.size w w8) := B7.out.trans (b8.mono B7.out.size)
  clear b8 gA7 gB7 B7
  obtain ⟨w9, hw9⟩ : ∃ y, y = w8.alloc (.cells [Value.int .i64 x, .int .i64 0, .int .i64 n, .slice none 0 0, .slice none 0 0, .slice none 0 0, .slice none 0 0, .slice none 0 0].toArray 28 (0, 0)) := ⟨_, rfl⟩
  have gA9 : Hid (w9.heap[w1.heap.size]? = some (.cells [Value.int .i64 x, .int .i64 0, .int .i64 n, .slice none 0 0, .slice none 0 0, .slice none 0 0, .slice none 0 0, .slice none 0 0].toArray 28 (0, 0))) := by rw [hw9, Below.heap_alloc _ _ _ (heap_lt gA8.out)]; exact gA8.out
  have gB9 : Hid (w9.heap[w3.heap.size]? = some (.cells [Value.int .i64 x, .int .i64 0, .int .i64 n, .slice none 0 0, .slice none 0 0, .slice none 0 0, .slice none 0 0, .slice none 0 0].toArray 28 (0, 0))) := by rw [hw9, Below.heap_alloc _ _ _ (heap_lt gB8.out)]; exact gB8.out
  have gC9 : Hid (w9.heap[w8.heap.size]? = some (.cells [Value.int .i64 x, .int .i64 0, .int .i64 n, .slice none 0 0, .slice none 0 0, .slice none 0 0, .slice none 0 0, .slice none 0 0].toArray 28 (0, 0))) := by rw [hw9]; exact heap_alloc_new w8 _
  have B9 : Hid (Below w.heap.size w w9) := by rw [hw9]; exact B8.out.alloc B8.out.size _
  clear gA8 gB8 B8
  go_upto_region 14 with fail
  rw [← hw9]
  clear hw9
  have xgA0 := rowFacts gA9.out 0 _ rfl
  have xgA1 := rowFacts gA9.out 1 _ rfl
  have xgA2 := rowFacts gA9.out 2 _ rfl
  have xgA3 := rowFacts gA9.out 3 _ rfl
  have xgA4 := rowFacts gA9.out 4 _ rfl
  have xgA5 := rowFacts gA9.out 5 _ rfl
  have xgA6 := rowFacts gA9.out 6 _ rfl
  have xgA7 := rowFacts gA9.out 7 _ rfl
  have xgB0 := rowFacts gB9.out 0 _ rfl
  have xgB1 := rowFacts gB9.out 1 _ rfl
  have xgB2 := rowFacts gB9.out 2 _ rfl
  have xgB3 := rowFacts gB9.out 3 _ rfl
  have xgB4 := rowFacts gB9.out 4 _ rfl
  have xgB5 := rowFacts gB9.out 5 _ rfl
  have xgB6 := rowFacts gB9.out 6 _ rfl
  have xgB7 := rowFacts gB9.out 7 _ rfl
  have xgC0 := rowFacts gC9.out 0 _ rfl
  have xgC1 := rowFacts gC9.out 1 _ rfl
  have xgC2 := rowFacts gC9.out 2 _ rfl
  have xgC3 := rowFacts gC9.out 3 _ rfl
  have xgC4 := rowFacts gC9.out 4 _ rfl
  have xgC5 := rowFacts gC9.out 5 _ rfl
  have xgC6 := rowFacts gC9.out 6 _ rfl
  have xgC7 := rowFacts gC9.out 7 _ rfl
  go_wp2_with fail
  refine (HE.out _).mono ?_
  rintro e w10 ⟨rfl, b10⟩
  have gA10 : Hid (w10.heap[w1.heap.size]? = some (.cells [Value.int .i64 x, .int .i64 0, .int .i64 n, .slice none 0 0, .slice none 0 0, .slice none 0 0, .slice none 0 0, .slice none 0 0].toArray 28 (0, 0))) := by show _ = _; rw [b10.block _ (heap_lt gA9.out)]; exact gA9.out
  have gB10 : Hid (w10.heap[w3.heap.size]? = some (.cells [Value.int .i64 x, .int .i64 0, .int .i64 n, .slice none 0 0, .slice none 0 0, .slice none 0 0, .slice none 0 0, .slice none 0 0].toArray 28 (0, 0))) := by show _ = _; rw [b10.block _ (heap_lt gB9.out)]; exact gB9.out
  have gC10 : Hid (w10.heap[w8.heap.size]? = some (.cells [Value.int .i64 x, .int .i64 0, .int .i64 n, .slice none 0 0, .slice none 0 0, .slice none 0 0, .slice none 0 0, .slice none 0 0].toArray 28 (0, 0))) := by show _ = _; rw [b10.block _ (heap_lt gC9.out)]; exact gC9.out
  have B10 : Hid (Below w.heap.size w w10) := B9.out.trans (b10.mono B9.out.size)
  clear b10 B9 gA9 gB9 gC9 xgA0 xgA1 xgA2 xgA3 xgA4 xgA5 xgA6 xgA7 xgB0 xgB1 xgB2 xgB3 xgB4 xgB5 xgB6 xgB7 xgC0 xgC1 xgC2 xgC3 xgC4 xgC5 xgC6 xgC7
  have xgA0 := rowFacts gA10.out 0 _ rfl
  have xgA1 := rowFacts gA10.out 1 _ rfl
  have xgA2 := rowFacts gA10.out 2 _ rfl
  have xgA3 := rowFacts gA10.out 3 _ rfl
  have xgA4 := rowFacts gA10.out 4 _ rfl
  have xgA5 := rowFacts gA10.out 5 _ rfl
  have xgA6 := rowFacts gA10.out 6 _ rfl
  have xgA7 := rowFacts gA10.out 7 _ rfl
  have xgB0 := rowFacts gB10.out 0 _ rfl
  have xgB1 := rowFacts gB10.out 1 _ rfl
  have xgB2 := rowFacts gB10.out 2 _ rfl
  have xgB3 := rowFacts gB10.out 3 _ rfl
  have xgB4 := rowFacts gB10.out 4 _ rfl
  have xgB5 := rowFacts gB10.out 5 _ rfl
  have xgB6 := rowFacts gB10.out 6 _ rfl
  have xgB7 := rowFacts gB10.out 7 _ rfl
  have xgC0 := rowFacts gC10.out 0 _ rfl
  have xgC1 := rowFacts gC10.out 1 _ rfl
  have xgC2 := rowFacts gC10.out 2 _ rfl
  have xgC3 := rowFacts gC10.out 3 _ rfl
  have xgC4 := rowFacts gC10.out 4 _ rfl
  have xgC5 := rowFacts gC10.out 5 _ rfl
  have xgC6 := rowFacts gC10.out 6 _ rfl
  have xgC7 := rowFacts gC10.out 7 _ rfl
  go_wp2_with fail
  refine (HH.out _).mono ?_
  rintro e w11 ⟨rfl, b11⟩
  have gA11 : Hid (w11.heap[w1.heap.size]? = some (.cells [Value.int .i64 x, .int .i64 0, .int .i64 n, .slice none 0 0, .slice none 0 0, .slice none 0 0, .slice none 0 0, .slice none 0 0].toArray 28 (0, 0))) := by show _ = _; rw [b11.block _ (heap_lt gA10.out)]; exact gA10.out
  have gB11 : Hid (w11.heap[w3.heap.size]? = some (.cells [Value.int .i64 x, .int .i64 0, .int .i64 n, .slice none 0 0, .slice none 0 0, .slice none 0 0, .slice none 0 0, .slice none 0 0].toArray 28 (0, 0))) := by show _ = _; rw [b11.block _ (heap_lt gB10.out)]; exact gB10.out
  have gC11 : Hid (w11.heap[w8.heap.size]? = some (.cells [Value.int .i64 x, .int .i64 0, .int .i64 n, .slice none 0 0, .slice none 0 0, .slice none 0 0, .slice none 0 0, .slice none 0 0].toArray 28 (0, 0))) := by show _ = _; rw [b11.block _ (heap_lt gC10.out)]; exact gC10.out
  have B11 : Hid (Below w.heap.size w w11) := B10.out.trans (b11.mono B10.out.size)
  clear b11 B10 gA10 gB10 gC10 xgA0 xgA1 xgA2 xgA3 xgA4 xgA5 xgA6 xgA7 xgB0 xgB1 xgB2 xgB3 xgB4 xgB5 xgB6 xgB7 xgC0 xgC1 xgC2 xgC3 xgC4 xgC5 xgC6 xgC7
  go_wp2
  go_ret
  exact ⟨rfl, B11.out⟩
namespace fnExactAcmeNewDone
open Go.ChangeShapes Go.WideShapes Go.ChangeAt Go.RowKit
open Go.ChangeMaps (open_string shut_string)
theorem own : ownKnob Try.prog.godebug = none := by kernel_rfl
theorem laidOut : laidOutB Try.prog = true := by kernel_rfl
set_option linter.unusedVariables false
set_option maxRecDepth 100000 in
theorem lifted (os : Os) (started : os.Started) (H : Type) (enc : TypeId × Value → H) :
    ReturnsInHanded {} Try.checked os 3 .any (Rows.fnExactAcmeNewSpec.pre6 enc Try.prog Try.f3 Rows.fnExactAcmeNewRow.domain false) (Rows.fnExactAcmeNewSpec.post enc Try.prog Try.f3 false true false false) := by
  refine returnsInHanded_of_change (C := Try.checked) own started (by kernel_rfl) Try.func3
    (ChangeSpec.witness6 (enc := enc) (C := Try.checked) false ⟨#[], #[.int .i64 0], []⟩ 8 (by kernel_rfl) (by kernel_rfl) (by kernel_rfl) (by kernel_rfl)) ?_
  intro W base args ds gs before hval0 hW hcnd _
  have hval : ∀ (j : Nat) t v, Try.f3.params[j]? = some t → args[j]? = some v → Value.okWide Try.prog W .any base t v := hval0
  have hW' := hW
  obtain ⟨p, q, hA0, hV, rfl, hfz, hnd⟩ := hW
  have hA : DataW.TrodAll enc Try.prog W 0 (fun _ => true) true Try.f3.params.toList args.toList ds p := hA0
  rw [Try.params3] at hA hval
  obtain ⟨v0, vs0, d0, ds0, p0, q0, hargs, rfl, rfl, h0, r0⟩ := trodAll_cons hA
  obtain ⟨rfl, rfl, rfl⟩ := trodAll_nil r0
  obtain rfl : args = #[v0] := by cases args; simp_all
  obtain ⟨rfl, rfl⟩ := trodVars_none hV
  obtain ⟨a0, rfl, rfl, rfl, w0⟩ := open_int Try.underlying2 (hval 0 2 v0 rfl rfl) h0
  clear hA0 hval0
  simp only [List.append_nil] at hW'
  refine (acmeNewWalk a0 w0 W).mono fun e W' ⟨he, bel⟩ => ?_
  subst he
  exact ⟨_, rfl, _, _, _, [], [], [], hW', trodAll_mk1 (shut_bool Try.underlying4 _), (trodAll_cons_mk (shut_int Try.underlying2 w0) trodAll_mk0), rfl, bel.frame _, fun h => by cases h⟩
theorem over : Rows.fnExactAcmeNewRow.holds Try.pinned (OpenSpec.ofChange Rows.fnExactAcmeNewSpec) :=
  OpenClaim.holds_of_wide 3 Try.f3 rfl rfl rfl rfl rfl rfl rfl ⟨rfl, rfl, rfl, rfl, rfl⟩ rfl rfl rfl rfl rfl (by as_aux_lemma => kernel_rfl) Try.func3 (by as_aux_lemma => kernel_rfl)
    (of_decide_eq_true (by as_aux_lemma => kernel_rfl)) (by unfold Func.isWrapper; first | (rw [if_pos (by decide +kernel)]; kernel_rfl) | (rw [if_neg (by decide +kernel)]; exact ⟨rfl, rfl⟩))
    (fun os started H enc _ => lifted os started H enc)
end fnExactAcmeNewDone
theorem fnExactAcmeNew_holds : Rows.FnExactAcmeNewSaid := fnExactAcmeNewDone.over
#print axioms fnExactAcmeNew_holds
end Go.Proofs.Ytcneohkjdnalkaa
