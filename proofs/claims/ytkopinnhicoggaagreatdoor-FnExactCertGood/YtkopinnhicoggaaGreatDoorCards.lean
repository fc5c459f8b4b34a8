/-
  DERIVED. GIVEN WITH THE SEED: THE CARDS: each row of YtkopinnhicoggaaGreatDoorRows.lean that lists a variable, with what it lists TIED to the program's text (the seventh form; the later family's looks); each row that meets fmt, with fmt's text TOLD by the authors' own Lean function (tested against real Go, not proved from fmt's source: count such statements apart). THE CARD IS WHAT COUNTS. Prove the row's statement (the work); the ties are given (YtkopinnhicoggaaGreatDoorTie.lean); close each card by the builder's one call (the guide's Derived/Test/ToyasCard.lean, 'card_holds'). Laid BY PROGRAM, IN A SANDBOX (cutbox-door.mjs). By AI agents, Wed Nov 11 2026. No macro, syntax, notation, axiom, sorry.
-/
import Derived.Test.YtkopinnhicoggaaGreatDoorRows
import GoSem.ClaimSeven
namespace Go.Proofs.YtkopinnhicoggaaGreatDoor
namespace Rows

/-- THE TIED CARD OF 'laws.FnCert'. -/
def fnCertCard : Claim7 := { stood := { row := fnCertRow, standIns := [], harness := (true, "b40f21f2461790577789e66ffcb5eb3a85ae6a43b1594ab753b3423a49045857"), looks := true }, kinds := [], alts := [], laidByText := true, laidKinds := [.handle, .data], laidTests := true, laidLooks := .later }
def FnCertCardSaid : Prop := Claim7.holds Tryz.pinned (.plain (OpenSpec.ofChange fnCertSpec)) fnCertCard

/-- THE TIED CARD OF 'laws.FnExactCertSign'. -/
def fnExactCertSignCard : Claim7 := { stood := { row := fnExactCertSignRow, standIns := [], harness := (true, "b40f21f2461790577789e66ffcb5eb3a85ae6a43b1594ab753b3423a49045857"), looks := true }, kinds := [], alts := [], laidByText := true, laidKinds := [.data], laidTests := true, laidLooks := .later }
def FnExactCertSignCardSaid : Prop := Claim7.holds Tryz.pinned (.plain (OpenSpec.ofChange fnExactCertSignSpec)) fnExactCertSignCard

/-- THE TIED CARD OF 'laws.FnExactCertRead'. -/
def fnExactCertReadCard : Claim7 := { stood := { row := fnExactCertReadRow, standIns := [], harness := (true, "b40f21f2461790577789e66ffcb5eb3a85ae6a43b1594ab753b3423a49045857"), looks := true }, kinds := [], alts := [], laidByText := true, laidKinds := [.handle], laidTests := true, laidLooks := .later }
def FnExactCertReadCardSaid : Prop := Claim7.holds Tryz.pinned (.plain (OpenSpec.ofChange fnExactCertReadSpec)) fnExactCertReadCard

/-- THE TIED CARD OF 'laws.FnExactCertGood'. -/
def fnExactCertGoodCard : Claim7 := { stood := { row := fnExactCertGoodRow, standIns := [], harness := (true, "b40f21f2461790577789e66ffcb5eb3a85ae6a43b1594ab753b3423a49045857"), looks := true }, kinds := [], alts := [], laidByText := true, laidKinds := [.data], laidTests := true, laidLooks := .later }
def FnExactCertGoodCardSaid : Prop := Claim7.holds Tryz.pinned (.plain (OpenSpec.ofChange fnExactCertGoodSpec)) fnExactCertGoodCard

/-- THE SECOND FORM's CARD OF 'laws.FnCert'. -/
def fnCertUptoCard : Claim7 := { stood := { row := fnCertUptoRow, standIns := [], harness := (true, "b40f21f2461790577789e66ffcb5eb3a85ae6a43b1594ab753b3423a49045857"), looks := true }, kinds := [], alts := [], laidByText := true, laidKinds := [.handle, .data], laidTests := true, laidLooks := .later }
def FnCertUptoCardSaid : Prop := Claim7.holds Tryz.pinned (.plain (OpenSpec.upto fnCertSpec)) fnCertUptoCard

/-- THE SECOND FORM's CARD OF 'laws.FnExactCertSign'. -/
def fnExactCertSignUptoCard : Claim7 := { stood := { row := fnExactCertSignUptoRow, standIns := [], harness := (true, "b40f21f2461790577789e66ffcb5eb3a85ae6a43b1594ab753b3423a49045857"), looks := true }, kinds := [], alts := [], laidByText := true, laidKinds := [.data], laidTests := true, laidLooks := .later }
def FnExactCertSignUptoCardSaid : Prop := Claim7.holds Tryz.pinned (.plain (OpenSpec.upto fnExactCertSignSpec)) fnExactCertSignUptoCard

/-- THE SECOND FORM's CARD OF 'laws.FnExactCertRead'. -/
def fnExactCertReadUptoCard : Claim7 := { stood := { row := fnExactCertReadUptoRow, standIns := [], harness := (true, "b40f21f2461790577789e66ffcb5eb3a85ae6a43b1594ab753b3423a49045857"), looks := true }, kinds := [], alts := [], laidByText := true, laidKinds := [.handle], laidTests := true, laidLooks := .later }
def FnExactCertReadUptoCardSaid : Prop := Claim7.holds Tryz.pinned (.plain (OpenSpec.upto fnExactCertReadSpec)) fnExactCertReadUptoCard

/-- THE SECOND FORM's CARD OF 'laws.FnExactCertGood'. -/
def fnExactCertGoodUptoCard : Claim7 := { stood := { row := fnExactCertGoodUptoRow, standIns := [], harness := (true, "b40f21f2461790577789e66ffcb5eb3a85ae6a43b1594ab753b3423a49045857"), looks := true }, kinds := [], alts := [], laidByText := true, laidKinds := [.data], laidTests := true, laidLooks := .later }
def FnExactCertGoodUptoCardSaid : Prop := Claim7.holds Tryz.pinned (.plain (OpenSpec.upto fnExactCertGoodSpec)) fnExactCertGoodUptoCard
end Rows
end Go.Proofs.YtkopinnhicoggaaGreatDoor
