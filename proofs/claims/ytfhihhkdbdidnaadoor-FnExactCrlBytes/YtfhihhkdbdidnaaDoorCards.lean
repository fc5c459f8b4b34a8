/-
  DERIVED. GIVEN WITH THE SEED: THE CARDS: each row of YtfhihhkdbdidnaaDoorRows.lean that lists a variable, with what it lists TIED to the program's text (the seventh form; the later family's looks); each row that meets fmt, with fmt's text TOLD by the authors' own Lean function (tested against real Go, not proved from fmt's source: count such statements apart). THE CARD IS WHAT COUNTS. Prove the row's statement (the work); the ties are given (YtfhihhkdbdidnaaDoorTie.lean); close each card by the builder's one call (the guide's Derived/Test/ToyasCard.lean, 'card_holds'). Laid BY PROGRAM, IN A SANDBOX (cutbox-door.mjs). By AI agents, Wed Nov 11 2026. No macro, syntax, notation, axiom, sorry.
-/
import Derived.Test.YtfhihhkdbdidnaaDoorRows
import GoSem.ClaimSeven
namespace Go.Proofs.YtfhihhkdbdidnaaDoor
namespace Rows

/-- THE TIED CARD OF 'laws.FnExactCrlBytes'. -/
def fnExactCrlBytesCard : Claim7 := { stood := { row := fnExactCrlBytesRow, standIns := [], harness := (true, "a6624e96da30f8eb899d931125d1975ed36979b42079cf35672bddea1299d599"), looks := true }, kinds := [], alts := [], laidByText := true, laidKinds := [.sentinel], laidTests := true, laidLooks := .later }
def FnExactCrlBytesCardSaid : Prop := Claim7.holds Tryd.pinned (.plain (OpenSpec.ofChange fnExactCrlBytesSpec)) fnExactCrlBytesCard

/-- THE SECOND FORM's CARD OF 'laws.FnExactCrlBytes'. -/
def fnExactCrlBytesUptoCard : Claim7 := { stood := { row := fnExactCrlBytesUptoRow, standIns := [], harness := (true, "a6624e96da30f8eb899d931125d1975ed36979b42079cf35672bddea1299d599"), looks := true }, kinds := [], alts := [], laidByText := true, laidKinds := [.sentinel], laidTests := true, laidLooks := .later }
def FnExactCrlBytesUptoCardSaid : Prop := Claim7.holds Tryd.pinned (.plain (OpenSpec.upto fnExactCrlBytesSpec)) fnExactCrlBytesUptoCard
end Rows
end Go.Proofs.YtfhihhkdbdidnaaDoor
