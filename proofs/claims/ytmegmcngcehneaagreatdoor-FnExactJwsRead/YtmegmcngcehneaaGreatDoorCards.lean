/-
  DERIVED. GIVEN WITH THE SEED: THE CARDS: each row of YtmegmcngcehneaaGreatDoorRows.lean that lists a variable, with what it lists TIED to the program's text (the seventh form; the later family's looks); each row that meets fmt, with fmt's text TOLD by the authors' own Lean function (tested against real Go, not proved from fmt's source: count such statements apart). THE CARD IS WHAT COUNTS. Prove the row's statement (the work); the ties are given (YtmegmcngcehneaaGreatDoorTie.lean); close each card by the builder's one call (the guide's Derived/Test/ToyasCard.lean, 'card_holds'). Laid BY PROGRAM, IN A SANDBOX (cutbox-door.mjs). By AI agents, Wed Nov 11 2026. No macro, syntax, notation, axiom, sorry.
-/
import Derived.Test.YtmegmcngcehneaaGreatDoorRows
import GoSem.ClaimSeven
namespace Go.Proofs.YtmegmcngcehneaaGreatDoor
namespace Rows

/-- THE TIED CARD OF 'laws.FnExactJwsRead'. -/
def fnExactJwsReadCard : Claim7 := { stood := { row := fnExactJwsReadRow, standIns := [], harness := (true, "61e0ad6382c4a66b10c14be94c65c048adb452db5fc6123dbce25339a74215ae"), looks := true }, kinds := [], alts := [], laidByText := true, laidKinds := [.data, .handle, .data, .pinned], laidTests := true, laidLooks := .later }
def FnExactJwsReadCardSaid : Prop := Claim7.holds Tryz.pinned (.plain (OpenSpec.ofChange fnExactJwsReadSpec)) fnExactJwsReadCard

/-- THE SECOND FORM's CARD OF 'laws.FnExactJwsRead'. -/
def fnExactJwsReadUptoCard : Claim7 := { stood := { row := fnExactJwsReadUptoRow, standIns := [], harness := (true, "61e0ad6382c4a66b10c14be94c65c048adb452db5fc6123dbce25339a74215ae"), looks := true }, kinds := [], alts := [], laidByText := true, laidKinds := [.data, .handle, .data, .pinned], laidTests := true, laidLooks := .later }
def FnExactJwsReadUptoCardSaid : Prop := Claim7.holds Tryz.pinned (.plain (OpenSpec.upto fnExactJwsReadSpec)) fnExactJwsReadUptoCard
end Rows
end Go.Proofs.YtmegmcngcehneaaGreatDoor
