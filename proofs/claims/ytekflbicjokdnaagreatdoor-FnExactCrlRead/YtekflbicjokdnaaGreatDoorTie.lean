/-
  DERIVED. GIVEN WITH THE SEED: THE PROGRAM's TIES (one call each: nine closed facts by the kernel) AND EACH ROW's TIE, after the 31st guide's Derived/Test/Toyas{Tie, Card}.lean. No idea stands in it: it is a product of the set-up. Laid BY PROGRAM, IN A SANDBOX (cutbox-door.mjs). By AI agents, Wed Nov 11 2026. No macro, syntax, notation, axiom, sorry.
-/
import Derived.Test.YtekflbicjokdnaaGreatDoorRows
import Derived.LaidByTextLater
import Derived.SevenTiedAt
import Derived.LaidSub
import Derived.LaidOnce
namespace Go.Proofs.YtekflbicjokdnaaGreatDoor
open Go
set_option maxRecDepth 100000
theorem seatTie1 : Tryz.prog.laidByTextLater [("errors.errorType", Rows.laid_errors_errorType), ("loop.example/g00371/impl.roundNumbers", Rows.laid_loop_example_g00371_impl_roundNumbers), ("loop.example/g00371/impl.errNotRight", Rows.laid_loop_example_g00371_impl_errNotRight), ("loop.example/g00371/impl.errOtherKey", Rows.laid_loop_example_g00371_impl_errOtherKey), ("loop.example/g00371/impl.errOtherwise", Rows.laid_loop_example_g00371_impl_errOtherwise), ("loop.example/g00371/impl.errNoCheck", Rows.laid_loop_example_g00371_impl_errNoCheck)] [.handle, .data, .sentinel, .sentinel, .sentinel, .sentinel] true :=
  Program.laidByTextLater_by_one 97 8 65 (by kernel_rfl) (by kernel_rfl) (by kernel_rfl) (by kernel_rfl) (by kernel_rfl) (by kernel_rfl) (fun _ _ => by kernel_rfl)
theorem noOwnUnsafe : Tryz.pinned.checked.prog.headLifts.contains "ownunsafe" = false := by kernel_rfl
theorem tie : Tryz.prog.laidByTextLater [("errors.errorType", Rows.laid_errors_errorType)] [.handle] true :=
  Program.laidByTextLater.sub seatTie1 ["errors.errorType"] (by kernel_rfl) (by kernel_rfl)
theorem fnExactCertRead_row_tie : Rows.fnExactCertReadRow.laidByTextAt .later Tryz.pinned [.handle] true :=
  OpenClaim.laidByTextAt_later rfl rfl tie noOwnUnsafe
theorem tie2 : Tryz.prog.laidByTextLater [("errors.errorType", Rows.laid_errors_errorType), ("loop.example/g00371/impl.roundNumbers", Rows.laid_loop_example_g00371_impl_roundNumbers), ("loop.example/g00371/impl.errNotRight", Rows.laid_loop_example_g00371_impl_errNotRight), ("loop.example/g00371/impl.errOtherKey", Rows.laid_loop_example_g00371_impl_errOtherKey), ("loop.example/g00371/impl.errOtherwise", Rows.laid_loop_example_g00371_impl_errOtherwise), ("loop.example/g00371/impl.errNoCheck", Rows.laid_loop_example_g00371_impl_errNoCheck)] [.handle, .data, .sentinel, .sentinel, .sentinel, .sentinel] true :=
  Program.laidByTextLater.sub seatTie1 ["errors.errorType", "loop.example/g00371/impl.roundNumbers", "loop.example/g00371/impl.errNotRight", "loop.example/g00371/impl.errOtherKey", "loop.example/g00371/impl.errOtherwise", "loop.example/g00371/impl.errNoCheck"] (by kernel_rfl) (by kernel_rfl)
theorem fnExactCsrRead_row_tie : Rows.fnExactCsrReadRow.laidByTextAt .later Tryz.pinned [.handle, .data, .sentinel, .sentinel, .sentinel, .sentinel] true :=
  OpenClaim.laidByTextAt_later rfl rfl tie2 noOwnUnsafe
theorem tie3 : Tryz.prog.laidByTextLater [("errors.errorType", Rows.laid_errors_errorType), ("loop.example/g00371/impl.errNotRight", Rows.laid_loop_example_g00371_impl_errNotRight), ("loop.example/g00371/impl.errOtherwise", Rows.laid_loop_example_g00371_impl_errOtherwise)] [.handle, .sentinel, .sentinel] true :=
  Program.laidByTextLater.sub seatTie1 ["errors.errorType", "loop.example/g00371/impl.errNotRight", "loop.example/g00371/impl.errOtherwise"] (by kernel_rfl) (by kernel_rfl)
theorem fnExactCrlRead_row_tie : Rows.fnExactCrlReadRow.laidByTextAt .later Tryz.pinned [.handle, .sentinel, .sentinel] true :=
  OpenClaim.laidByTextAt_later rfl rfl tie3 noOwnUnsafe
theorem fnExactCertReadUpto_row_tie : Rows.fnExactCertReadUptoRow.laidByTextAt .later Tryz.pinned [.handle] true :=
  OpenClaim.laidByTextAt_later rfl rfl tie noOwnUnsafe
theorem fnExactCsrReadUpto_row_tie : Rows.fnExactCsrReadUptoRow.laidByTextAt .later Tryz.pinned [.handle, .data, .sentinel, .sentinel, .sentinel, .sentinel] true :=
  OpenClaim.laidByTextAt_later rfl rfl tie2 noOwnUnsafe
theorem fnExactCrlReadUpto_row_tie : Rows.fnExactCrlReadUptoRow.laidByTextAt .later Tryz.pinned [.handle, .sentinel, .sentinel] true :=
  OpenClaim.laidByTextAt_later rfl rfl tie3 noOwnUnsafe
end Go.Proofs.YtekflbicjokdnaaGreatDoor
