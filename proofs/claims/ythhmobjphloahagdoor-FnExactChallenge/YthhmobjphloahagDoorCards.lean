/-
  DERIVED. GIVEN WITH THE SEED: THE CARDS: each row of YthhmobjphloahagDoorRows.lean that lists a variable, with what it lists TIED to the program's text (the seventh form; the later family's looks); each row that meets fmt, with fmt's text TOLD by the authors' own Lean function (tested against real Go, not proved from fmt's source: count such statements apart). THE CARD IS WHAT COUNTS. Prove the row's statement (the work); the ties are given (YthhmobjphloahagDoorTie.lean); close each card by the builder's one call (the guide's Derived/Test/ToyasCard.lean, 'card_holds'). Laid BY PROGRAM, IN A SANDBOX (cutbox-door.mjs). By AI agents, Wed Nov 11 2026. No macro, syntax, notation, axiom, sorry.
-/
import Derived.Test.YthhmobjphloahagDoorRows
import GoSem.ClaimSeven
namespace Go.Proofs.YthhmobjphloahagDoor
namespace Rows

/-- THE TIED CARD OF 'laws.FnExactChallenge'. -/
def fnExactChallengeCard : Claim7 := { stood := { row := fnExactChallengeRow, standIns := [], harness := (true, "039825e06b1c2565ee75b1fa7670948cbf833e1899f935ad2fb05ed22728a124"), looks := false }, kinds := [], alts := [], laidByText := true, laidKinds := [.data], laidTests := true, laidLooks := .later }
def FnExactChallengeCardSaid : Prop := Claim7.holds Tryd.pinned (.plain (OpenSpec.ofChange fnExactChallengeSpec)) fnExactChallengeCard

/-- THE TIED CARD OF 'laws.FnExactSignText'. -/
def fnExactSignTextCard : Claim7 := { stood := { row := fnExactSignTextRow, standIns := [], harness := (true, "039825e06b1c2565ee75b1fa7670948cbf833e1899f935ad2fb05ed22728a124"), looks := false }, kinds := [], alts := [], laidByText := true, laidKinds := [.data], laidTests := true, laidLooks := .later }
def FnExactSignTextCardSaid : Prop := Claim7.holds Tryd.pinned (.plain (OpenSpec.ofChange fnExactSignTextSpec)) fnExactSignTextCard

/-- THE TIED CARD OF 'laws.FnExactSigCheck'. -/
def fnExactSigCheckCard : Claim7 := { stood := { row := fnExactSigCheckRow, standIns := [], harness := (true, "039825e06b1c2565ee75b1fa7670948cbf833e1899f935ad2fb05ed22728a124"), looks := false }, kinds := [], alts := [], laidByText := true, laidKinds := [.data], laidTests := true, laidLooks := .later }
def FnExactSigCheckCardSaid : Prop := Claim7.holds Tryd.pinned (.plain (OpenSpec.ofChange fnExactSigCheckSpec)) fnExactSigCheckCard

/-- THE SECOND FORM's CARD OF 'laws.FnExactChallenge'. -/
def fnExactChallengeUptoCard : Claim7 := { stood := { row := fnExactChallengeUptoRow, standIns := [], harness := (true, "039825e06b1c2565ee75b1fa7670948cbf833e1899f935ad2fb05ed22728a124"), looks := false }, kinds := [], alts := [], laidByText := true, laidKinds := [.data], laidTests := true, laidLooks := .later }
def FnExactChallengeUptoCardSaid : Prop := Claim7.holds Tryd.pinned (.plain (OpenSpec.upto fnExactChallengeSpec)) fnExactChallengeUptoCard

/-- THE SECOND FORM's CARD OF 'laws.FnExactSignText'. -/
def fnExactSignTextUptoCard : Claim7 := { stood := { row := fnExactSignTextUptoRow, standIns := [], harness := (true, "039825e06b1c2565ee75b1fa7670948cbf833e1899f935ad2fb05ed22728a124"), looks := false }, kinds := [], alts := [], laidByText := true, laidKinds := [.data], laidTests := true, laidLooks := .later }
def FnExactSignTextUptoCardSaid : Prop := Claim7.holds Tryd.pinned (.plain (OpenSpec.upto fnExactSignTextSpec)) fnExactSignTextUptoCard

/-- THE SECOND FORM's CARD OF 'laws.FnExactSigCheck'. -/
def fnExactSigCheckUptoCard : Claim7 := { stood := { row := fnExactSigCheckUptoRow, standIns := [], harness := (true, "039825e06b1c2565ee75b1fa7670948cbf833e1899f935ad2fb05ed22728a124"), looks := false }, kinds := [], alts := [], laidByText := true, laidKinds := [.data], laidTests := true, laidLooks := .later }
def FnExactSigCheckUptoCardSaid : Prop := Claim7.holds Tryd.pinned (.plain (OpenSpec.upto fnExactSigCheckSpec)) fnExactSigCheckUptoCard
end Rows
end Go.Proofs.YthhmobjphloahagDoor
