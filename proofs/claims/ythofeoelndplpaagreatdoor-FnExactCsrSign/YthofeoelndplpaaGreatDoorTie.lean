/-
  DERIVED. GIVEN WITH THE SEED: THE PROGRAM's TIES (one call each: nine closed facts by the kernel) AND EACH ROW's TIE, after the 31st guide's Derived/Test/Toyas{Tie, Card}.lean. No idea stands in it: it is a product of the set-up. Laid BY PROGRAM, IN A SANDBOX (cutbox-door.mjs). By AI agents, Wed Nov 11 2026. No macro, syntax, notation, axiom, sorry.
-/
import Derived.Test.YthofeoelndplpaaGreatDoorRows
import Derived.LaidByTextLater
import Derived.SevenTiedAt
import Derived.LaidSub
import Derived.LaidOnce
namespace Go.Proofs.YthofeoelndplpaaGreatDoor
open Go
set_option maxRecDepth 100000
theorem seatTie1 : Tryz.prog.laidByTextLater [("loop.example/g00371/impl.roundNumbers", Rows.laid_loop_example_g00371_impl_roundNumbers), ("loop.example/g00371/impl.errNotRight", Rows.laid_loop_example_g00371_impl_errNotRight), ("loop.example/g00371/impl.errOtherKey", Rows.laid_loop_example_g00371_impl_errOtherKey), ("loop.example/g00371/impl.errNoCheck", Rows.laid_loop_example_g00371_impl_errNoCheck)] [.data, .sentinel, .sentinel, .sentinel] true :=
  Program.laidByTextLater_by_one 71 8 65 (by kernel_rfl) (by kernel_rfl) (by kernel_rfl) (by kernel_rfl) (by kernel_rfl) (by kernel_rfl) (fun _ _ => by kernel_rfl)
theorem noOwnUnsafe : Tryz.pinned.checked.prog.headLifts.contains "ownunsafe" = false := by kernel_rfl
theorem tie : Tryz.prog.laidByTextLater [("loop.example/g00371/impl.roundNumbers", Rows.laid_loop_example_g00371_impl_roundNumbers), ("loop.example/g00371/impl.errNotRight", Rows.laid_loop_example_g00371_impl_errNotRight)] [.data, .sentinel] true :=
  Program.laidByTextLater.sub seatTie1 ["loop.example/g00371/impl.roundNumbers", "loop.example/g00371/impl.errNotRight"] (by kernel_rfl) (by kernel_rfl)
theorem fnExactCsrSign_row_tie : Rows.fnExactCsrSignRow.laidByTextAt .later Tryz.pinned [.data, .sentinel] true :=
  OpenClaim.laidByTextAt_later rfl rfl tie noOwnUnsafe
theorem fnExactCrlSign_row_tie : Rows.fnExactCrlSignRow.laidByTextAt .later Tryz.pinned [.data, .sentinel] true :=
  OpenClaim.laidByTextAt_later rfl rfl tie noOwnUnsafe
theorem tie2 : Tryz.prog.laidByTextLater [("loop.example/g00371/impl.roundNumbers", Rows.laid_loop_example_g00371_impl_roundNumbers), ("loop.example/g00371/impl.errNotRight", Rows.laid_loop_example_g00371_impl_errNotRight), ("loop.example/g00371/impl.errOtherKey", Rows.laid_loop_example_g00371_impl_errOtherKey), ("loop.example/g00371/impl.errNoCheck", Rows.laid_loop_example_g00371_impl_errNoCheck)] [.data, .sentinel, .sentinel, .sentinel] true :=
  Program.laidByTextLater.sub seatTie1 ["loop.example/g00371/impl.roundNumbers", "loop.example/g00371/impl.errNotRight", "loop.example/g00371/impl.errOtherKey", "loop.example/g00371/impl.errNoCheck"] (by kernel_rfl) (by kernel_rfl)
theorem fnExactCsrBytes_row_tie : Rows.fnExactCsrBytesRow.laidByTextAt .later Tryz.pinned [.data, .sentinel, .sentinel, .sentinel] true :=
  OpenClaim.laidByTextAt_later rfl rfl tie2 noOwnUnsafe
theorem fnExactCrlGood_row_tie : Rows.fnExactCrlGoodRow.laidByTextAt .later Tryz.pinned [.data, .sentinel, .sentinel, .sentinel] true :=
  OpenClaim.laidByTextAt_later rfl rfl tie2 noOwnUnsafe
theorem fnExactCsrSignUpto_row_tie : Rows.fnExactCsrSignUptoRow.laidByTextAt .later Tryz.pinned [.data, .sentinel] true :=
  OpenClaim.laidByTextAt_later rfl rfl tie noOwnUnsafe
theorem fnExactCsrBytesUpto_row_tie : Rows.fnExactCsrBytesUptoRow.laidByTextAt .later Tryz.pinned [.data, .sentinel, .sentinel, .sentinel] true :=
  OpenClaim.laidByTextAt_later rfl rfl tie2 noOwnUnsafe
theorem fnExactCrlSignUpto_row_tie : Rows.fnExactCrlSignUptoRow.laidByTextAt .later Tryz.pinned [.data, .sentinel] true :=
  OpenClaim.laidByTextAt_later rfl rfl tie noOwnUnsafe
theorem fnExactCrlGoodUpto_row_tie : Rows.fnExactCrlGoodUptoRow.laidByTextAt .later Tryz.pinned [.data, .sentinel, .sentinel, .sentinel] true :=
  OpenClaim.laidByTextAt_later rfl rfl tie2 noOwnUnsafe
end Go.Proofs.YthofeoelndplpaaGreatDoor
