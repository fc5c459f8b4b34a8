/-
  DERIVED. GIVEN WITH THE SEED: THE CARDS: each row of YtjbjegmlpjiefaaGreatDoorRows.lean that lists a variable, with what it lists TIED to the program's text (the seventh form; the later family's looks); each row that meets fmt, with fmt's text TOLD by the authors' own Lean function (tested against real Go, not proved from fmt's source: count such statements apart). THE CARD IS WHAT COUNTS. Prove the row's statement (the work); the ties are given (YtjbjegmlpjiefaaGreatDoorTie.lean); close each card by the builder's one call (the guide's Derived/Test/ToyasCard.lean, 'card_holds'). Laid BY PROGRAM, IN A SANDBOX (cutbox-door.mjs). By AI agents, Wed Nov 11 2026. No macro, syntax, notation, axiom, sorry.
-/
import Derived.Test.YtjbjegmlpjiefaaGreatDoorRows
import GoSem.ClaimSeven
namespace Go.Proofs.YtjbjegmlpjiefaaGreatDoor
namespace Rows

/-- THE TIED CARD OF 'laws.FnExactCertSign'. -/
def fnExactCertSignCard : Claim7 := { stood := { row := fnExactCertSignRow, standIns := [], harness := (true, "d5882b330172031b95621c7dcf34c01a04e46f0ab4a9024a1c7087e2a2b91693"), looks := true }, kinds := [], alts := [], laidByText := true, laidKinds := [.data], laidTests := true, laidLooks := .later }
def FnExactCertSignCardSaid : Prop := Claim7.holds Tryz.pinned (.plain (OpenSpec.ofChange fnExactCertSignSpec)) fnExactCertSignCard

/-- THE SECOND FORM's CARD OF 'laws.FnExactCertSign'. -/
def fnExactCertSignUptoCard : Claim7 := { stood := { row := fnExactCertSignUptoRow, standIns := [], harness := (true, "d5882b330172031b95621c7dcf34c01a04e46f0ab4a9024a1c7087e2a2b91693"), looks := true }, kinds := [], alts := [], laidByText := true, laidKinds := [.data], laidTests := true, laidLooks := .later }
def FnExactCertSignUptoCardSaid : Prop := Claim7.holds Tryz.pinned (.plain (OpenSpec.upto fnExactCertSignSpec)) fnExactCertSignUptoCard
end Rows
end Go.Proofs.YtjbjegmlpjiefaaGreatDoor
