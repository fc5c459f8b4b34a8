/-
  No cell of these rows narrows 'for every input' (looked for: loops, veiled, ifaces, maps, wideKeys, modest, calm, conditions, laid).
  DERIVED. THE GIVEN ROWS OF THIS SEAT. 3 by the template 'for every input the law returns true; each argument reads behind the call as it read before'; 0 by the template 'total and deterministic' (their statements: YtfhihhkdbdidnaaTotals.lean).
  GIVEN WITH THE SEED: the statements are not yours to turn. If you find one false, say at which input.
  Laid BY PROGRAM, IN A SANDBOX (cutbox-rows.mjs): the forced cells as the released guide's own fill.sh prints them over the translation 8247780ad7a65c8f… (all of the seat's roots in one cut). By AI agents, Wed Nov 11 2026. No macro, syntax, notation, axiom, sorry.
-/
import Derived.Test.YtfhihhkdbdidnaaChecked
import GoSem.Claim
import GoSem.ClaimJoined
import GoSem.ClaimMapViews
import Derived.JoinedTies
import Derived.KernelRfl
namespace Go.Proofs.Ytfhihhkdbdidnaa
/- THE CELL 'sum', in the pinned program and in every row, IS THE sha256 OF THE DUMP (.gsa) THAT YtfhihhkdbdidnaaProg.lean LOADS. Nothing in Lean hashes anything: it is a label: what it is worth is what the hold of that sum in a sandbox is worth. -/
noncomputable def Try.pinned : Pinned := { name := "ytfhihhkdbdidnaa", sum := "8247780ad7a65c8fac86aa01a6d794fdfb7d6880fe63f959b928f7fee380aad2", checked := Try.checked }
namespace Rows
def none {H : Type} : Left H := { results := [], args := [] }

/-- 'laws.FnExactCertRight': WHATEVER THE INPUT: true; the input reads as it did. -/
def fnExactCertRightSpec : ChangeSpec := { name := "fnExactCertRight", fn := fun _ => fun
  | [d] => { results := [.lit (.bool true)], args := [d] }
  | _ => none }
def fnExactCertRightRow : OpenClaim := { program := "ytfhihhkdbdidnaa", sum := "8247780ad7a65c8fac86aa01a6d794fdfb7d6880fe63f959b928f7fee380aad2", func := "loop.example/g00371/laws.FnExactCertRight", spec := "fnExactCertRight", unfollowed := true, recurses := true, apart := false }
def FnExactCertRightSaid : Prop := fnExactCertRightRow.holds Try.pinned (OpenSpec.ofChange fnExactCertRightSpec)

/-- ITS FALSE NEIGHBOUR: 'it returns false'. Refute it at one input. -/
def fnExactCertRightWrong : ChangeSpec := { name := "fnExactCertRight", fn := fun _ => fun
  | [d] => { results := [.lit (.bool false)], args := [d] }
  | _ => none }
def FnExactCertRightWrongFalsely : Prop := fnExactCertRightRow.holds Try.pinned (OpenSpec.ofChange fnExactCertRightWrong)

/-- 'laws.FnExactCertBody': WHATEVER THE INPUT: true; the input reads as it did. -/
def fnExactCertBodySpec : ChangeSpec := { name := "fnExactCertBody", fn := fun _ => fun
  | [d] => { results := [.lit (.bool true)], args := [d] }
  | _ => none }
def fnExactCertBodyRow : OpenClaim := { program := "ytfhihhkdbdidnaa", sum := "8247780ad7a65c8fac86aa01a6d794fdfb7d6880fe63f959b928f7fee380aad2", func := "loop.example/g00371/laws.FnExactCertBody", spec := "fnExactCertBody", inPlace := ["internal/abi.NoEscape", "internal/bytealg.MakeNoZero"], unfollowed := true, recurses := true, apart := false }
def FnExactCertBodySaid : Prop := fnExactCertBodyRow.holds Try.pinned (OpenSpec.ofChange fnExactCertBodySpec)

/-- ITS FALSE NEIGHBOUR: 'it returns false'. Refute it at one input. -/
def fnExactCertBodyWrong : ChangeSpec := { name := "fnExactCertBody", fn := fun _ => fun
  | [d] => { results := [.lit (.bool false)], args := [d] }
  | _ => none }
def FnExactCertBodyWrongFalsely : Prop := fnExactCertBodyRow.holds Try.pinned (OpenSpec.ofChange fnExactCertBodyWrong)

/-- 'laws.FnExactCertBytes': WHATEVER THE INPUT: true; the input reads as it did. -/
def fnExactCertBytesSpec : ChangeSpec := { name := "fnExactCertBytes", fn := fun _ => fun
  | [d] => { results := [.lit (.bool true)], args := [d] }
  | _ => none }
def fnExactCertBytesRow : OpenClaim := { program := "ytfhihhkdbdidnaa", sum := "8247780ad7a65c8fac86aa01a6d794fdfb7d6880fe63f959b928f7fee380aad2", func := "loop.example/g00371/laws.FnExactCertBytes", spec := "fnExactCertBytes", inPlace := ["internal/abi.NoEscape", "internal/bytealg.MakeNoZero"], unfollowed := true, recurses := true, apart := false }
def FnExactCertBytesSaid : Prop := fnExactCertBytesRow.holds Try.pinned (OpenSpec.ofChange fnExactCertBytesSpec)

/-- ITS FALSE NEIGHBOUR: 'it returns false'. Refute it at one input. -/
def fnExactCertBytesWrong : ChangeSpec := { name := "fnExactCertBytes", fn := fun _ => fun
  | [d] => { results := [.lit (.bool false)], args := [d] }
  | _ => none }
def FnExactCertBytesWrongFalsely : Prop := fnExactCertBytesRow.holds Try.pinned (OpenSpec.ofChange fnExactCertBytesWrong)

/- THE SECOND FORM. 'bulk': how many values and letters a reading holds, each counted each time it is reached (what is shared counts as often as it is met; a slice's spare places count too). A statement '..UptoSaid' is the law's where the arguments, and the package variables that the reading takes, are together of bulk at most 1048576: NARROWER than '..Said'. Prove '..Said' where nothing that the law and all that it calls make is longer than what came in: it says more and counts as full. Else prove '..UptoSaid'. A law counts once. -/
mutual
def uptoBulk {H : Type} : DataW H → Nat
  | .lit (.string bytes) => bytes.length + 1
  | .lit _ => 1
  | .nil => 1
  | .ptr d => uptoBulk d + 1
  | .slice elems spare => uptoBulkAll elems + uptoBulkAll spare + 1
  | .agg parts => uptoBulkAll parts + 1
  | .iface _ d => uptoBulk d + 1
  | .map entries => uptoBulkEntries entries + 1
  | .held _ => 1
def uptoBulkAll {H : Type} : List (DataW H) → Nat
  | [] => 0
  | d :: r => uptoBulk d + uptoBulkAll r
def uptoBulkEntries {H : Type} : List (Lit × DataW H) → Nat
  | [] => 0
  | x :: r => uptoBulkEntry x + uptoBulkEntries r
def uptoBulkEntry {H : Type} : Lit × DataW H → Nat
  | (.string bytes, d) => bytes.length + uptoBulk d + 1
  | (_, d) => uptoBulk d + 1
 end
def uptoSmall : (H : Type) → List (DataW H) → Bool := fun _ ds => decide (uptoBulkAll ds ≤ 1048576)
def OpenSpec.upto (s : _root_.Go.ChangeSpec) : _root_.Go.OpenSpec := { _root_.Go.OpenSpec.ofChange s with cond := some uptoSmall }

/-- 'laws.FnExactCertRight', WHERE WHAT IT READS IS OF BULK AT MOST 1048576: true; the input reads as it did. -/
def fnExactCertRightUptoRow : OpenClaim := { program := "ytfhihhkdbdidnaa", sum := "8247780ad7a65c8fac86aa01a6d794fdfb7d6880fe63f959b928f7fee380aad2", func := "loop.example/g00371/laws.FnExactCertRight", spec := "fnExactCertRight", unfollowed := true, recurses := true, apart := false, narrowed := true }
def FnExactCertRightUptoSaid : Prop := fnExactCertRightUptoRow.holds Try.pinned (OpenSpec.upto fnExactCertRightSpec)

/-- 'laws.FnExactCertBody', WHERE WHAT IT READS IS OF BULK AT MOST 1048576: true; the input reads as it did. -/
def fnExactCertBodyUptoRow : OpenClaim := { program := "ytfhihhkdbdidnaa", sum := "8247780ad7a65c8fac86aa01a6d794fdfb7d6880fe63f959b928f7fee380aad2", func := "loop.example/g00371/laws.FnExactCertBody", spec := "fnExactCertBody", inPlace := ["internal/abi.NoEscape", "internal/bytealg.MakeNoZero"], unfollowed := true, recurses := true, apart := false, narrowed := true }
def FnExactCertBodyUptoSaid : Prop := fnExactCertBodyUptoRow.holds Try.pinned (OpenSpec.upto fnExactCertBodySpec)

/-- 'laws.FnExactCertBytes', WHERE WHAT IT READS IS OF BULK AT MOST 1048576: true; the input reads as it did. -/
def fnExactCertBytesUptoRow : OpenClaim := { program := "ytfhihhkdbdidnaa", sum := "8247780ad7a65c8fac86aa01a6d794fdfb7d6880fe63f959b928f7fee380aad2", func := "loop.example/g00371/laws.FnExactCertBytes", spec := "fnExactCertBytes", inPlace := ["internal/abi.NoEscape", "internal/bytealg.MakeNoZero"], unfollowed := true, recurses := true, apart := false, narrowed := true }
def FnExactCertBytesUptoSaid : Prop := fnExactCertBytesUptoRow.holds Try.pinned (OpenSpec.upto fnExactCertBytesSpec)

end Rows
end Go.Proofs.Ytfhihhkdbdidnaa
