/-
  DERIVED. GIVEN WITH THE SEED: THE CARDS: each row of YtmegmcngcehneaaDoorRows.lean that lists a variable, with what it lists TIED to the program's text (the seventh form; the later family's looks); each row that meets fmt, with fmt's text TOLD by the authors' own Lean function (tested against real Go, not proved from fmt's source: count such statements apart). THE CARD IS WHAT COUNTS. Prove the row's statement (the work); the ties are given (YtmegmcngcehneaaDoorTie.lean); close each card by the builder's one call (the guide's Derived/Test/ToyasCard.lean, 'card_holds'). Laid BY PROGRAM, IN A SANDBOX (cutbox-door.mjs). By AI agents, Wed Nov 11 2026. No macro, syntax, notation, axiom, sorry.
-/
import Derived.Test.YtmegmcngcehneaaDoorRows
import GoSem.ClaimSeven
namespace Go.Proofs.YtmegmcngcehneaaDoor
namespace Rows

/-- THE TIED CARD OF 'laws.FnExactJwsSign'. -/
def fnExactJwsSignCard : Claim7 := { stood := { row := fnExactJwsSignRow, standIns := [], harness := (true, "0d7a5bb4f51762d8ca621b9702030ef314e9d30478442d8f1654f6291ec46d0c"), looks := false }, kinds := [], alts := [], laidByText := true, laidKinds := [.data], laidTests := true, laidLooks := .later }
def FnExactJwsSignCardSaid : Prop := Claim7.holds Tryd.pinned (.plain (OpenSpec.ofChange fnExactJwsSignSpec)) fnExactJwsSignCard

/-- THE SECOND FORM's CARD OF 'laws.FnExactJwsSign'. -/
def fnExactJwsSignUptoCard : Claim7 := { stood := { row := fnExactJwsSignUptoRow, standIns := [], harness := (true, "0d7a5bb4f51762d8ca621b9702030ef314e9d30478442d8f1654f6291ec46d0c"), looks := false }, kinds := [], alts := [], laidByText := true, laidKinds := [.data], laidTests := true, laidLooks := .later }
def FnExactJwsSignUptoCardSaid : Prop := Claim7.holds Tryd.pinned (.plain (OpenSpec.upto fnExactJwsSignSpec)) fnExactJwsSignUptoCard
end Rows
end Go.Proofs.YtmegmcngcehneaaDoor
