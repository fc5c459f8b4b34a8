/-
  DERIVED. GIVEN WITH THE SEED: THE CARDS: each row of YtfliacfeebooeaaGreatDoorRows.lean that lists a variable, with what it lists TIED to the program's text (the seventh form; the later family's looks); each row that meets fmt, with fmt's text TOLD by the authors' own Lean function (tested against real Go, not proved from fmt's source: count such statements apart). THE CARD IS WHAT COUNTS. Prove the row's statement (the work); the ties are given (YtfliacfeebooeaaGreatDoorTie.lean); close each card by the builder's one call (the guide's Derived/Test/ToyasCard.lean, 'card_holds'). Laid BY PROGRAM, IN A SANDBOX (cutbox-door.mjs). By AI agents, Wed Nov 11 2026. No macro, syntax, notation, axiom, sorry.
-/
import Derived.Test.YtfliacfeebooeaaGreatDoorRows
import GoSem.ClaimSeven
namespace Go.Proofs.YtfliacfeebooeaaGreatDoor
namespace Rows

/-- THE TIED CARD OF 'laws.FnExactCertRead'. -/
def fnExactCertReadCard : Claim7 := { stood := { row := fnExactCertReadRow, standIns := [], harness := (true, "16144d855b64d84e64b0cd756f2852cd4582e73bc75a57f59cf27666b15909b0"), looks := true }, kinds := [], alts := [], laidByText := true, laidKinds := [.handle], laidTests := true, laidLooks := .later }
def FnExactCertReadCardSaid : Prop := Claim7.holds Tryz.pinned (.plain (OpenSpec.ofChange fnExactCertReadSpec)) fnExactCertReadCard

/-- THE SECOND FORM's CARD OF 'laws.FnExactCertRead'. -/
def fnExactCertReadUptoCard : Claim7 := { stood := { row := fnExactCertReadUptoRow, standIns := [], harness := (true, "16144d855b64d84e64b0cd756f2852cd4582e73bc75a57f59cf27666b15909b0"), looks := true }, kinds := [], alts := [], laidByText := true, laidKinds := [.handle], laidTests := true, laidLooks := .later }
def FnExactCertReadUptoCardSaid : Prop := Claim7.holds Tryz.pinned (.plain (OpenSpec.upto fnExactCertReadSpec)) fnExactCertReadUptoCard
end Rows
end Go.Proofs.YtfliacfeebooeaaGreatDoor
