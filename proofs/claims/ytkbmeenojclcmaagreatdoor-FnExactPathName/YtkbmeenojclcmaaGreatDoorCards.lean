/-
  DERIVED. GIVEN WITH THE SEED: THE CARDS: each row of YtkbmeenojclcmaaGreatDoorRows.lean that lists a variable, with what it lists TIED to the program's text (the seventh form; the later family's looks); each row that meets fmt, with fmt's text TOLD by the authors' own Lean function (tested against real Go, not proved from fmt's source: count such statements apart). THE CARD IS WHAT COUNTS. Prove the row's statement (the work); the ties are given (YtkbmeenojclcmaaGreatDoorTie.lean); close each card by the builder's one call (the guide's Derived/Test/ToyasCard.lean, 'card_holds'). Laid BY PROGRAM, IN A SANDBOX (cutbox-door.mjs). By AI agents, Wed Nov 11 2026. No macro, syntax, notation, axiom, sorry.
-/
import Derived.Test.YtkbmeenojclcmaaGreatDoorRows
import GoSem.ClaimSeven
namespace Go.Proofs.YtkbmeenojclcmaaGreatDoor
namespace Rows

/-- THE TIED CARD OF 'laws.FnExactPathCheck'. -/
def fnExactPathCheckCard : Claim7 := { stood := { row := fnExactPathCheckRow, standIns := [], harness := (true, "1d1cecc024a75200fb05f9f3f1dc08e68a70791d54d6586631d800a776ee715b"), looks := true }, kinds := [], alts := [], laidByText := true, laidKinds := [.data, .sentinel, .sentinel, .sentinel], laidTests := true, laidLooks := .later }
def FnExactPathCheckCardSaid : Prop := Claim7.holds Tryz.pinned (.plain (OpenSpec.ofChange fnExactPathCheckSpec)) fnExactPathCheckCard

/-- THE TIED CARD OF 'laws.FnExactPathName'. -/
def fnExactPathNameCard : Claim7 := { stood := { row := fnExactPathNameRow, standIns := [], harness := (true, "1d1cecc024a75200fb05f9f3f1dc08e68a70791d54d6586631d800a776ee715b"), looks := true }, kinds := [], alts := [], laidByText := true, laidKinds := [.data, .sentinel, .sentinel, .sentinel], laidTests := true, laidLooks := .later }
def FnExactPathNameCardSaid : Prop := Claim7.holds Tryz.pinned (.plain (OpenSpec.ofChange fnExactPathNameSpec)) fnExactPathNameCard

/-- THE SECOND FORM's CARD OF 'laws.FnExactPathCheck'. -/
def fnExactPathCheckUptoCard : Claim7 := { stood := { row := fnExactPathCheckUptoRow, standIns := [], harness := (true, "1d1cecc024a75200fb05f9f3f1dc08e68a70791d54d6586631d800a776ee715b"), looks := true }, kinds := [], alts := [], laidByText := true, laidKinds := [.data, .sentinel, .sentinel, .sentinel], laidTests := true, laidLooks := .later }
def FnExactPathCheckUptoCardSaid : Prop := Claim7.holds Tryz.pinned (.plain (OpenSpec.upto fnExactPathCheckSpec)) fnExactPathCheckUptoCard

/-- THE SECOND FORM's CARD OF 'laws.FnExactPathName'. -/
def fnExactPathNameUptoCard : Claim7 := { stood := { row := fnExactPathNameUptoRow, standIns := [], harness := (true, "1d1cecc024a75200fb05f9f3f1dc08e68a70791d54d6586631d800a776ee715b"), looks := true }, kinds := [], alts := [], laidByText := true, laidKinds := [.data, .sentinel, .sentinel, .sentinel], laidTests := true, laidLooks := .later }
def FnExactPathNameUptoCardSaid : Prop := Claim7.holds Tryz.pinned (.plain (OpenSpec.upto fnExactPathNameSpec)) fnExactPathNameUptoCard
end Rows
end Go.Proofs.YtkbmeenojclcmaaGreatDoor
