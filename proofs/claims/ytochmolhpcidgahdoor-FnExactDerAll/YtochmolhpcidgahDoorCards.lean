/-
  DERIVED. GIVEN WITH THE SEED: THE CARDS: each row of YtochmolhpcidgahDoorRows.lean that lists a variable, with what it lists TIED to the program's text (the seventh form; the later family's looks); each row that meets fmt, with fmt's text TOLD by the authors' own Lean function (tested against real Go, not proved from fmt's source: count such statements apart). THE CARD IS WHAT COUNTS. Prove the row's statement (the work); the ties are given (YtochmolhpcidgahDoorTie.lean); close each card by the builder's one call (the guide's Derived/Test/ToyasCard.lean, 'card_holds'). Laid BY PROGRAM, IN A SANDBOX (cutbox-door.mjs). By AI agents, Wed Nov 11 2026. No macro, syntax, notation, axiom, sorry.
-/
import Derived.Test.YtochmolhpcidgahDoorRows
import GoSem.ClaimSeven
namespace Go.Proofs.YtochmolhpcidgahDoor
namespace Rows

/-- THE TIED CARD OF 'laws.FnExactDerGet'. -/
def fnExactDerGetCard : Claim7 := { stood := { row := fnExactDerGetRow, standIns := [], harness := (true, "282205cdfe9658196ccc9c60f6a05d8c33a5602927dd0207403927776b10ed80"), looks := true }, kinds := [], alts := [], laidByText := true, laidKinds := [.handle], laidTests := true, laidLooks := .later }
def FnExactDerGetCardSaid : Prop := Claim7.holds Tryd.pinned (.plain (OpenSpec.ofChange fnExactDerGetSpec)) fnExactDerGetCard

/-- THE TIED CARD OF 'laws.FnExactDerAll'. -/
def fnExactDerAllCard : Claim7 := { stood := { row := fnExactDerAllRow, standIns := [], harness := (true, "282205cdfe9658196ccc9c60f6a05d8c33a5602927dd0207403927776b10ed80"), looks := true }, kinds := [], alts := [], laidByText := true, laidKinds := [.handle], laidTests := true, laidLooks := .later }
def FnExactDerAllCardSaid : Prop := Claim7.holds Tryd.pinned (.plain (OpenSpec.ofChange fnExactDerAllSpec)) fnExactDerAllCard

/-- THE SECOND FORM's CARD OF 'laws.FnExactDerGet'. -/
def fnExactDerGetUptoCard : Claim7 := { stood := { row := fnExactDerGetUptoRow, standIns := [], harness := (true, "282205cdfe9658196ccc9c60f6a05d8c33a5602927dd0207403927776b10ed80"), looks := true }, kinds := [], alts := [], laidByText := true, laidKinds := [.handle], laidTests := true, laidLooks := .later }
def FnExactDerGetUptoCardSaid : Prop := Claim7.holds Tryd.pinned (.plain (OpenSpec.upto fnExactDerGetSpec)) fnExactDerGetUptoCard

/-- THE SECOND FORM's CARD OF 'laws.FnExactDerAll'. -/
def fnExactDerAllUptoCard : Claim7 := { stood := { row := fnExactDerAllUptoRow, standIns := [], harness := (true, "282205cdfe9658196ccc9c60f6a05d8c33a5602927dd0207403927776b10ed80"), looks := true }, kinds := [], alts := [], laidByText := true, laidKinds := [.handle], laidTests := true, laidLooks := .later }
def FnExactDerAllUptoCardSaid : Prop := Claim7.holds Tryd.pinned (.plain (OpenSpec.upto fnExactDerAllSpec)) fnExactDerAllUptoCard
end Rows
end Go.Proofs.YtochmolhpcidgahDoor
