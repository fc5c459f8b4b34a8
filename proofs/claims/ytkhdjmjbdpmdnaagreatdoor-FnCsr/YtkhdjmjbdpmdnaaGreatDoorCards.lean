/-
  DERIVED. GIVEN WITH THE SEED: THE CARDS: each row of YtkhdjmjbdpmdnaaGreatDoorRows.lean that lists a variable, with what it lists TIED to the program's text (the seventh form; the later family's looks); each row that meets fmt, with fmt's text TOLD by the authors' own Lean function (tested against real Go, not proved from fmt's source: count such statements apart). THE CARD IS WHAT COUNTS. Prove the row's statement (the work); the ties are given (YtkhdjmjbdpmdnaaGreatDoorTie.lean); close each card by the builder's one call (the guide's Derived/Test/ToyasCard.lean, 'card_holds'). Laid BY PROGRAM, IN A SANDBOX (cutbox-door.mjs). By AI agents, Wed Nov 11 2026. No macro, syntax, notation, axiom, sorry.
-/
import Derived.Test.YtkhdjmjbdpmdnaaGreatDoorRows
import GoSem.ClaimSeven
namespace Go.Proofs.YtkhdjmjbdpmdnaaGreatDoor
namespace Rows

/-- THE TIED CARD OF 'laws.FnCert'. -/
def fnCertCard : Claim7 := { stood := { row := fnCertRow, standIns := [], harness := (true, "ab4b349dfa7be5d26f1911374386d8fbcbee1845d8995119b34270a3e35f0fe8"), looks := true }, kinds := [], alts := [], laidByText := true, laidKinds := [.handle, .data], laidTests := true, laidLooks := .later }
def FnCertCardSaid : Prop := Claim7.holds Tryz.pinned (.plain (OpenSpec.ofChange fnCertSpec)) fnCertCard

/-- THE TIED CARD OF 'laws.FnCsr'. -/
def fnCsrCard : Claim7 := { stood := { row := fnCsrRow, standIns := [], harness := (true, "ab4b349dfa7be5d26f1911374386d8fbcbee1845d8995119b34270a3e35f0fe8"), looks := true }, kinds := [], alts := [], laidByText := true, laidKinds := [.handle, .data, .sentinel, .sentinel, .sentinel, .sentinel], laidTests := true, laidLooks := .later }
def FnCsrCardSaid : Prop := Claim7.holds Tryz.pinned (.plain (OpenSpec.ofChange fnCsrSpec)) fnCsrCard

/-- THE SECOND FORM's CARD OF 'laws.FnCert'. -/
def fnCertUptoCard : Claim7 := { stood := { row := fnCertUptoRow, standIns := [], harness := (true, "ab4b349dfa7be5d26f1911374386d8fbcbee1845d8995119b34270a3e35f0fe8"), looks := true }, kinds := [], alts := [], laidByText := true, laidKinds := [.handle, .data], laidTests := true, laidLooks := .later }
def FnCertUptoCardSaid : Prop := Claim7.holds Tryz.pinned (.plain (OpenSpec.upto fnCertSpec)) fnCertUptoCard

/-- THE SECOND FORM's CARD OF 'laws.FnCsr'. -/
def fnCsrUptoCard : Claim7 := { stood := { row := fnCsrUptoRow, standIns := [], harness := (true, "ab4b349dfa7be5d26f1911374386d8fbcbee1845d8995119b34270a3e35f0fe8"), looks := true }, kinds := [], alts := [], laidByText := true, laidKinds := [.handle, .data, .sentinel, .sentinel, .sentinel, .sentinel], laidTests := true, laidLooks := .later }
def FnCsrUptoCardSaid : Prop := Claim7.holds Tryz.pinned (.plain (OpenSpec.upto fnCsrSpec)) fnCsrUptoCard
end Rows
end Go.Proofs.YtkhdjmjbdpmdnaaGreatDoor
