/-
  DERIVED. GIVEN WITH THE SEED: THE CARDS: each row of YtdehbaafbbjcgaaGreatDoorRows.lean that lists a variable, with what it lists TIED to the program's text (the seventh form; the later family's looks); each row that meets fmt, with fmt's text TOLD by the authors' own Lean function (tested against real Go, not proved from fmt's source: count such statements apart). THE CARD IS WHAT COUNTS. Prove the row's statement (the work); the ties are given (YtdehbaafbbjcgaaGreatDoorTie.lean); close each card by the builder's one call (the guide's Derived/Test/ToyasCard.lean, 'card_holds'). Laid BY PROGRAM, IN A SANDBOX (cutbox-door.mjs). By AI agents, Wed Nov 11 2026. No macro, syntax, notation, axiom, sorry.
-/
import Derived.Test.YtdehbaafbbjcgaaGreatDoorRows
import GoSem.ClaimSeven
namespace Go.Proofs.YtdehbaafbbjcgaaGreatDoor
namespace Rows

/-- THE TIED CARD OF 'laws.FnJws'. -/
def fnJwsCard : Claim7 := { stood := { row := fnJwsRow, standIns := [], harness := (true, "ab1c46291c24389d99f4a1e6181ac895433bc1519739ba77b9d354da8808c7d3"), looks := true }, kinds := [], alts := [], laidByText := true, laidKinds := [.data, .handle, .data, .pinned], laidTests := true, laidLooks := .later }
def FnJwsCardSaid : Prop := Claim7.holds Tryz.pinned (.plain (OpenSpec.ofChange fnJwsSpec)) fnJwsCard

/-- THE SECOND FORM's CARD OF 'laws.FnJws'. -/
def fnJwsUptoCard : Claim7 := { stood := { row := fnJwsUptoRow, standIns := [], harness := (true, "ab1c46291c24389d99f4a1e6181ac895433bc1519739ba77b9d354da8808c7d3"), looks := true }, kinds := [], alts := [], laidByText := true, laidKinds := [.data, .handle, .data, .pinned], laidTests := true, laidLooks := .later }
def FnJwsUptoCardSaid : Prop := Claim7.holds Tryz.pinned (.plain (OpenSpec.upto fnJwsSpec)) fnJwsUptoCard
end Rows
end Go.Proofs.YtdehbaafbbjcgaaGreatDoor
