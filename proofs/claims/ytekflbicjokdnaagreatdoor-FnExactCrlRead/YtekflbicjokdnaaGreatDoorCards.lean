/-
  DERIVED. GIVEN WITH THE SEED: THE CARDS: each row of YtekflbicjokdnaaGreatDoorRows.lean that lists a variable, with what it lists TIED to the program's text (the seventh form; the later family's looks); each row that meets fmt, with fmt's text TOLD by the authors' own Lean function (tested against real Go, not proved from fmt's source: count such statements apart). THE CARD IS WHAT COUNTS. Prove the row's statement (the work); the ties are given (YtekflbicjokdnaaGreatDoorTie.lean); close each card by the builder's one call (the guide's Derived/Test/ToyasCard.lean, 'card_holds'). Laid BY PROGRAM, IN A SANDBOX (cutbox-door.mjs). By AI agents, Wed Nov 11 2026. No macro, syntax, notation, axiom, sorry.
-/
import Derived.Test.YtekflbicjokdnaaGreatDoorRows
import GoSem.ClaimSeven
namespace Go.Proofs.YtekflbicjokdnaaGreatDoor
namespace Rows

/-- THE TIED CARD OF 'laws.FnExactCertRead'. -/
def fnExactCertReadCard : Claim7 := { stood := { row := fnExactCertReadRow, standIns := [], harness := (true, "6e6d66552ec191294bab2d1b3f7cb6da96e962103c0d10a0b7f5e0c56076c519"), looks := true }, kinds := [], alts := [], laidByText := true, laidKinds := [.handle], laidTests := true, laidLooks := .later }
def FnExactCertReadCardSaid : Prop := Claim7.holds Tryz.pinned (.plain (OpenSpec.ofChange fnExactCertReadSpec)) fnExactCertReadCard

/-- THE TIED CARD OF 'laws.FnExactCsrRead'. -/
def fnExactCsrReadCard : Claim7 := { stood := { row := fnExactCsrReadRow, standIns := [], harness := (true, "6e6d66552ec191294bab2d1b3f7cb6da96e962103c0d10a0b7f5e0c56076c519"), looks := true }, kinds := [], alts := [], laidByText := true, laidKinds := [.handle, .data, .sentinel, .sentinel, .sentinel, .sentinel], laidTests := true, laidLooks := .later }
def FnExactCsrReadCardSaid : Prop := Claim7.holds Tryz.pinned (.plain (OpenSpec.ofChange fnExactCsrReadSpec)) fnExactCsrReadCard

/-- THE TIED CARD OF 'laws.FnExactCrlRead'. -/
def fnExactCrlReadCard : Claim7 := { stood := { row := fnExactCrlReadRow, standIns := [], harness := (true, "6e6d66552ec191294bab2d1b3f7cb6da96e962103c0d10a0b7f5e0c56076c519"), looks := true }, kinds := [], alts := [], laidByText := true, laidKinds := [.handle, .sentinel, .sentinel], laidTests := true, laidLooks := .later }
def FnExactCrlReadCardSaid : Prop := Claim7.holds Tryz.pinned (.plain (OpenSpec.ofChange fnExactCrlReadSpec)) fnExactCrlReadCard

/-- THE SECOND FORM's CARD OF 'laws.FnExactCertRead'. -/
def fnExactCertReadUptoCard : Claim7 := { stood := { row := fnExactCertReadUptoRow, standIns := [], harness := (true, "6e6d66552ec191294bab2d1b3f7cb6da96e962103c0d10a0b7f5e0c56076c519"), looks := true }, kinds := [], alts := [], laidByText := true, laidKinds := [.handle], laidTests := true, laidLooks := .later }
def FnExactCertReadUptoCardSaid : Prop := Claim7.holds Tryz.pinned (.plain (OpenSpec.upto fnExactCertReadSpec)) fnExactCertReadUptoCard

/-- THE SECOND FORM's CARD OF 'laws.FnExactCsrRead'. -/
def fnExactCsrReadUptoCard : Claim7 := { stood := { row := fnExactCsrReadUptoRow, standIns := [], harness := (true, "6e6d66552ec191294bab2d1b3f7cb6da96e962103c0d10a0b7f5e0c56076c519"), looks := true }, kinds := [], alts := [], laidByText := true, laidKinds := [.handle, .data, .sentinel, .sentinel, .sentinel, .sentinel], laidTests := true, laidLooks := .later }
def FnExactCsrReadUptoCardSaid : Prop := Claim7.holds Tryz.pinned (.plain (OpenSpec.upto fnExactCsrReadSpec)) fnExactCsrReadUptoCard

/-- THE SECOND FORM's CARD OF 'laws.FnExactCrlRead'. -/
def fnExactCrlReadUptoCard : Claim7 := { stood := { row := fnExactCrlReadUptoRow, standIns := [], harness := (true, "6e6d66552ec191294bab2d1b3f7cb6da96e962103c0d10a0b7f5e0c56076c519"), looks := true }, kinds := [], alts := [], laidByText := true, laidKinds := [.handle, .sentinel, .sentinel], laidTests := true, laidLooks := .later }
def FnExactCrlReadUptoCardSaid : Prop := Claim7.holds Tryz.pinned (.plain (OpenSpec.upto fnExactCrlReadSpec)) fnExactCrlReadUptoCard
end Rows
end Go.Proofs.YtekflbicjokdnaaGreatDoor
