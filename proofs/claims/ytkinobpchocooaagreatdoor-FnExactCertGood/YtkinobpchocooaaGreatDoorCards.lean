/-
  DERIVED. GIVEN WITH THE SEED: THE CARDS: each row of YtkinobpchocooaaGreatDoorRows.lean that lists a variable, with what it lists TIED to the program's text (the seventh form; the later family's looks); each row that meets fmt, with fmt's text TOLD by the authors' own Lean function (tested against real Go, not proved from fmt's source: count such statements apart). THE CARD IS WHAT COUNTS. Prove the row's statement (the work); the ties are given (YtkinobpchocooaaGreatDoorTie.lean); close each card by the builder's one call (the guide's Derived/Test/ToyasCard.lean, 'card_holds'). Laid BY PROGRAM, IN A SANDBOX (cutbox-door.mjs). By AI agents, Wed Nov 11 2026. No macro, syntax, notation, axiom, sorry.
-/
import Derived.Test.YtkinobpchocooaaGreatDoorRows
import GoSem.ClaimSeven
namespace Go.Proofs.YtkinobpchocooaaGreatDoor
namespace Rows

/-- THE TIED CARD OF 'laws.FnExactCertGood'. -/
def fnExactCertGoodCard : Claim7 := { stood := { row := fnExactCertGoodRow, standIns := [], harness := (true, "a02b974c1d1e76658379f4acbe8aae314cb03a0a3196d44e3606ce5004409a3d"), looks := true }, kinds := [], alts := [], laidByText := true, laidKinds := [.data], laidTests := true, laidLooks := .later }
def FnExactCertGoodCardSaid : Prop := Claim7.holds Tryz.pinned (.plain (OpenSpec.ofChange fnExactCertGoodSpec)) fnExactCertGoodCard

/-- THE SECOND FORM's CARD OF 'laws.FnExactCertGood'. -/
def fnExactCertGoodUptoCard : Claim7 := { stood := { row := fnExactCertGoodUptoRow, standIns := [], harness := (true, "a02b974c1d1e76658379f4acbe8aae314cb03a0a3196d44e3606ce5004409a3d"), looks := true }, kinds := [], alts := [], laidByText := true, laidKinds := [.data], laidTests := true, laidLooks := .later }
def FnExactCertGoodUptoCardSaid : Prop := Claim7.holds Tryz.pinned (.plain (OpenSpec.upto fnExactCertGoodSpec)) fnExactCertGoodUptoCard
end Rows
end Go.Proofs.YtkinobpchocooaaGreatDoor
