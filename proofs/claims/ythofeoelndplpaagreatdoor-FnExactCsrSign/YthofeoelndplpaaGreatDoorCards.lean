/-
  DERIVED. GIVEN WITH THE SEED: THE CARDS: each row of YthofeoelndplpaaGreatDoorRows.lean that lists a variable, with what it lists TIED to the program's text (the seventh form; the later family's looks); each row that meets fmt, with fmt's text TOLD by the authors' own Lean function (tested against real Go, not proved from fmt's source: count such statements apart). THE CARD IS WHAT COUNTS. Prove the row's statement (the work); the ties are given (YthofeoelndplpaaGreatDoorTie.lean); close each card by the builder's one call (the guide's Derived/Test/ToyasCard.lean, 'card_holds'). Laid BY PROGRAM, IN A SANDBOX (cutbox-door.mjs). By AI agents, Wed Nov 11 2026. No macro, syntax, notation, axiom, sorry.
-/
import Derived.Test.YthofeoelndplpaaGreatDoorRows
import GoSem.ClaimSeven
namespace Go.Proofs.YthofeoelndplpaaGreatDoor
namespace Rows

/-- THE TIED CARD OF 'laws.FnExactCsrSign'. -/
def fnExactCsrSignCard : Claim7 := { stood := { row := fnExactCsrSignRow, standIns := [], harness := (true, "f9cd3f93b46597fa046766d26de7da4a01153bf8f5fcf8e435bffe85e75e5379"), looks := true }, kinds := [], alts := [], laidByText := true, laidKinds := [.data, .sentinel], laidTests := true, laidLooks := .later }
def FnExactCsrSignCardSaid : Prop := Claim7.holds Tryz.pinned (.plain (OpenSpec.ofChange fnExactCsrSignSpec)) fnExactCsrSignCard

/-- THE TIED CARD OF 'laws.FnExactCsrBytes'. -/
def fnExactCsrBytesCard : Claim7 := { stood := { row := fnExactCsrBytesRow, standIns := [], harness := (true, "f9cd3f93b46597fa046766d26de7da4a01153bf8f5fcf8e435bffe85e75e5379"), looks := true }, kinds := [], alts := [], laidByText := true, laidKinds := [.data, .sentinel, .sentinel, .sentinel], laidTests := true, laidLooks := .later }
def FnExactCsrBytesCardSaid : Prop := Claim7.holds Tryz.pinned (.plain (OpenSpec.ofChange fnExactCsrBytesSpec)) fnExactCsrBytesCard

/-- THE TIED CARD OF 'laws.FnExactCrlSign'. -/
def fnExactCrlSignCard : Claim7 := { stood := { row := fnExactCrlSignRow, standIns := [], harness := (true, "f9cd3f93b46597fa046766d26de7da4a01153bf8f5fcf8e435bffe85e75e5379"), looks := true }, kinds := [], alts := [], laidByText := true, laidKinds := [.data, .sentinel], laidTests := true, laidLooks := .later }
def FnExactCrlSignCardSaid : Prop := Claim7.holds Tryz.pinned (.plain (OpenSpec.ofChange fnExactCrlSignSpec)) fnExactCrlSignCard

/-- THE TIED CARD OF 'laws.FnExactCrlGood'. -/
def fnExactCrlGoodCard : Claim7 := { stood := { row := fnExactCrlGoodRow, standIns := [], harness := (true, "f9cd3f93b46597fa046766d26de7da4a01153bf8f5fcf8e435bffe85e75e5379"), looks := true }, kinds := [], alts := [], laidByText := true, laidKinds := [.data, .sentinel, .sentinel, .sentinel], laidTests := true, laidLooks := .later }
def FnExactCrlGoodCardSaid : Prop := Claim7.holds Tryz.pinned (.plain (OpenSpec.ofChange fnExactCrlGoodSpec)) fnExactCrlGoodCard

/-- THE SECOND FORM's CARD OF 'laws.FnExactCsrSign'. -/
def fnExactCsrSignUptoCard : Claim7 := { stood := { row := fnExactCsrSignUptoRow, standIns := [], harness := (true, "f9cd3f93b46597fa046766d26de7da4a01153bf8f5fcf8e435bffe85e75e5379"), looks := true }, kinds := [], alts := [], laidByText := true, laidKinds := [.data, .sentinel], laidTests := true, laidLooks := .later }
def FnExactCsrSignUptoCardSaid : Prop := Claim7.holds Tryz.pinned (.plain (OpenSpec.upto fnExactCsrSignSpec)) fnExactCsrSignUptoCard

/-- THE SECOND FORM's CARD OF 'laws.FnExactCsrBytes'. -/
def fnExactCsrBytesUptoCard : Claim7 := { stood := { row := fnExactCsrBytesUptoRow, standIns := [], harness := (true, "f9cd3f93b46597fa046766d26de7da4a01153bf8f5fcf8e435bffe85e75e5379"), looks := true }, kinds := [], alts := [], laidByText := true, laidKinds := [.data, .sentinel, .sentinel, .sentinel], laidTests := true, laidLooks := .later }
def FnExactCsrBytesUptoCardSaid : Prop := Claim7.holds Tryz.pinned (.plain (OpenSpec.upto fnExactCsrBytesSpec)) fnExactCsrBytesUptoCard

/-- THE SECOND FORM's CARD OF 'laws.FnExactCrlSign'. -/
def fnExactCrlSignUptoCard : Claim7 := { stood := { row := fnExactCrlSignUptoRow, standIns := [], harness := (true, "f9cd3f93b46597fa046766d26de7da4a01153bf8f5fcf8e435bffe85e75e5379"), looks := true }, kinds := [], alts := [], laidByText := true, laidKinds := [.data, .sentinel], laidTests := true, laidLooks := .later }
def FnExactCrlSignUptoCardSaid : Prop := Claim7.holds Tryz.pinned (.plain (OpenSpec.upto fnExactCrlSignSpec)) fnExactCrlSignUptoCard

/-- THE SECOND FORM's CARD OF 'laws.FnExactCrlGood'. -/
def fnExactCrlGoodUptoCard : Claim7 := { stood := { row := fnExactCrlGoodUptoRow, standIns := [], harness := (true, "f9cd3f93b46597fa046766d26de7da4a01153bf8f5fcf8e435bffe85e75e5379"), looks := true }, kinds := [], alts := [], laidByText := true, laidKinds := [.data, .sentinel, .sentinel, .sentinel], laidTests := true, laidLooks := .later }
def FnExactCrlGoodUptoCardSaid : Prop := Claim7.holds Tryz.pinned (.plain (OpenSpec.upto fnExactCrlGoodSpec)) fnExactCrlGoodUptoCard
end Rows
end Go.Proofs.YthofeoelndplpaaGreatDoor
