/-
  DERIVED. GIVEN WITH THE SEED: THE CARDS: each row of YtjkmfjegphpjkaaGreatDoorRows.lean that lists a variable, with what it lists TIED to the program's text (the seventh form; the later family's looks); each row that meets fmt, with fmt's text TOLD by the authors' own Lean function (tested against real Go, not proved from fmt's source: count such statements apart). THE CARD IS WHAT COUNTS. Prove the row's statement (the work); the ties are given (YtjkmfjegphpjkaaGreatDoorTie.lean); close each card by the builder's one call (the guide's Derived/Test/ToyasCard.lean, 'card_holds'). Laid BY PROGRAM, IN A SANDBOX (cutbox-door.mjs). By AI agents, Wed Nov 11 2026. No macro, syntax, notation, axiom, sorry.
-/
import Derived.Test.YtjkmfjegphpjkaaGreatDoorRows
import GoSem.ClaimSeven
namespace Go.Proofs.YtjkmfjegphpjkaaGreatDoor
namespace Rows

/-- THE TIED CARD OF 'laws.FnJws'. -/
def fnJwsCard : Claim7 := { stood := { row := fnJwsRow, standIns := [], harness := (true, "ef24c16d11ec68c7144c717afb02449be2c104f98ca95195492bff67c9052d1a"), looks := true }, kinds := [], alts := [], laidByText := true, laidKinds := [.data, .handle, .data, .pinned], laidTests := true, laidLooks := .later }
def FnJwsCardSaid : Prop := Claim7.holds Tryz.pinned (.plain (OpenSpec.ofChange fnJwsSpec)) fnJwsCard

/-- THE TIED CARD OF 'laws.FnExactJwsRead'. -/
def fnExactJwsReadCard : Claim7 := { stood := { row := fnExactJwsReadRow, standIns := [], harness := (true, "ef24c16d11ec68c7144c717afb02449be2c104f98ca95195492bff67c9052d1a"), looks := true }, kinds := [], alts := [], laidByText := true, laidKinds := [.data, .handle, .data, .pinned], laidTests := true, laidLooks := .later }
def FnExactJwsReadCardSaid : Prop := Claim7.holds Tryz.pinned (.plain (OpenSpec.ofChange fnExactJwsReadSpec)) fnExactJwsReadCard

/-- THE SECOND FORM's CARD OF 'laws.FnJws'. -/
def fnJwsUptoCard : Claim7 := { stood := { row := fnJwsUptoRow, standIns := [], harness := (true, "ef24c16d11ec68c7144c717afb02449be2c104f98ca95195492bff67c9052d1a"), looks := true }, kinds := [], alts := [], laidByText := true, laidKinds := [.data, .handle, .data, .pinned], laidTests := true, laidLooks := .later }
def FnJwsUptoCardSaid : Prop := Claim7.holds Tryz.pinned (.plain (OpenSpec.upto fnJwsSpec)) fnJwsUptoCard

/-- THE SECOND FORM's CARD OF 'laws.FnExactJwsRead'. -/
def fnExactJwsReadUptoCard : Claim7 := { stood := { row := fnExactJwsReadUptoRow, standIns := [], harness := (true, "ef24c16d11ec68c7144c717afb02449be2c104f98ca95195492bff67c9052d1a"), looks := true }, kinds := [], alts := [], laidByText := true, laidKinds := [.data, .handle, .data, .pinned], laidTests := true, laidLooks := .later }
def FnExactJwsReadUptoCardSaid : Prop := Claim7.holds Tryz.pinned (.plain (OpenSpec.upto fnExactJwsReadSpec)) fnExactJwsReadUptoCard
end Rows
end Go.Proofs.YtjkmfjegphpjkaaGreatDoor
