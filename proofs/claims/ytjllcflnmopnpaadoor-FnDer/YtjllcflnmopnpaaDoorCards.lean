/-
  DERIVED. GIVEN WITH THE SEED: THE CARDS: each row of YtjllcflnmopnpaaDoorRows.lean that lists a variable, with what it lists TIED to the program's text (the seventh form; the later family's looks); each row that meets fmt, with fmt's text TOLD by the authors' own Lean function (tested against real Go, not proved from fmt's source: count such statements apart). THE CARD IS WHAT COUNTS. Prove the row's statement (the work); the ties are given (YtjllcflnmopnpaaDoorTie.lean); close each card by the builder's one call (the guide's Derived/Test/ToyasCard.lean, 'card_holds'). Laid BY PROGRAM, IN A SANDBOX (cutbox-door.mjs). By AI agents, Wed Nov 11 2026. No macro, syntax, notation, axiom, sorry.
-/
import Derived.Test.YtjllcflnmopnpaaDoorRows
import GoSem.ClaimSeven
namespace Go.Proofs.YtjllcflnmopnpaaDoor
namespace Rows

/-- THE TIED CARD OF 'laws.FnDer'. -/
def fnDerCard : Claim7 := { stood := { row := fnDerRow, standIns := [], harness := (true, "0387fdb107fd55b25bcc5522fff5d881358cece639cb3a96ba7a60298f1ab04b"), looks := true }, kinds := [], alts := [], laidByText := true, laidKinds := [.handle], laidTests := true, laidLooks := .later }
def FnDerCardSaid : Prop := Claim7.holds Tryd.pinned (.plain (OpenSpec.ofChange fnDerSpec)) fnDerCard

/-- THE SECOND FORM's CARD OF 'laws.FnDer'. -/
def fnDerUptoCard : Claim7 := { stood := { row := fnDerUptoRow, standIns := [], harness := (true, "0387fdb107fd55b25bcc5522fff5d881358cece639cb3a96ba7a60298f1ab04b"), looks := true }, kinds := [], alts := [], laidByText := true, laidKinds := [.handle], laidTests := true, laidLooks := .later }
def FnDerUptoCardSaid : Prop := Claim7.holds Tryd.pinned (.plain (OpenSpec.upto fnDerSpec)) fnDerUptoCard
end Rows
end Go.Proofs.YtjllcflnmopnpaaDoor
