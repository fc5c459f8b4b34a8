/-
  No cell of these rows narrows 'for every input' (looked for: loops, veiled, ifaces, maps, wideKeys, modest, calm, conditions, laid).
  DERIVED. THE GIVEN ROWS OF THIS SEAT. 4 by the template 'for every input the law returns true; each argument reads behind the call as it read before'; 0 by the template 'total and deterministic' (their statements: YtochmolhpcidgahTotals.lean).
  GIVEN WITH THE SEED: the statements are not yours to turn. If you find one false, say at which input.
  Laid BY PROGRAM, IN A SANDBOX (cutbox-rows.mjs): the forced cells as the released guide's own fill.sh prints them over the translation dab1507c1eed3061… (all of the seat's roots in one cut). By AI agents, Wed Nov 11 2026. No macro, syntax, notation, axiom, sorry.
-/
import Derived.Test.YtochmolhpcidgahChecked
import GoSem.Claim
import GoSem.ClaimJoined
import GoSem.ClaimMapViews
import Derived.JoinedTies
import Derived.KernelRfl
namespace Go.Proofs.Ytochmolhpcidgah
/- THE CELL 'sum', in the pinned program and in every row, IS THE sha256 OF THE DUMP (.gsa) THAT YtochmolhpcidgahProg.lean LOADS. Nothing in Lean hashes anything: it is a label: what it is worth is what the hold of that sum in a sandbox is worth. -/
noncomputable def Try.pinned : Pinned := { name := "ytochmolhpcidgah", sum := "dab1507c1eed30618b43a0ba118b53d719bd8e85fd1aaa7b92e55f037473fb2c", checked := Try.checked }
namespace Rows
def none {H : Type} : Left H := { results := [], args := [] }

/-- 'laws.FnExactDerInt': WHATEVER THE INPUT: true; the input reads as it did. -/
def fnExactDerIntSpec : ChangeSpec := { name := "fnExactDerInt", fn := fun _ => fun
  | [d] => { results := [.lit (.bool true)], args := [d] }
  | _ => none }
def fnExactDerIntRow : OpenClaim := { program := "ytochmolhpcidgah", sum := "dab1507c1eed30618b43a0ba118b53d719bd8e85fd1aaa7b92e55f037473fb2c", func := "loop.example/g00371/laws.FnExactDerInt", spec := "fnExactDerInt", unfollowed := true, recurses := true, apart := false }
def FnExactDerIntSaid : Prop := fnExactDerIntRow.holds Try.pinned (OpenSpec.ofChange fnExactDerIntSpec)

/-- ITS FALSE NEIGHBOUR: 'it returns false'. Refute it at one input. -/
def fnExactDerIntWrong : ChangeSpec := { name := "fnExactDerInt", fn := fun _ => fun
  | [d] => { results := [.lit (.bool false)], args := [d] }
  | _ => none }
def FnExactDerIntWrongFalsely : Prop := fnExactDerIntRow.holds Try.pinned (OpenSpec.ofChange fnExactDerIntWrong)

/-- 'laws.FnExactDerIntRead': WHATEVER THE INPUT: true; the input reads as it did. -/
def fnExactDerIntReadSpec : ChangeSpec := { name := "fnExactDerIntRead", fn := fun _ => fun
  | [d] => { results := [.lit (.bool true)], args := [d] }
  | _ => none }
def fnExactDerIntReadRow : OpenClaim := { program := "ytochmolhpcidgah", sum := "dab1507c1eed30618b43a0ba118b53d719bd8e85fd1aaa7b92e55f037473fb2c", func := "loop.example/g00371/laws.FnExactDerIntRead", spec := "fnExactDerIntRead", apart := false }
def FnExactDerIntReadSaid : Prop := fnExactDerIntReadRow.holds Try.pinned (OpenSpec.ofChange fnExactDerIntReadSpec)

/-- ITS FALSE NEIGHBOUR: 'it returns false'. Refute it at one input. -/
def fnExactDerIntReadWrong : ChangeSpec := { name := "fnExactDerIntRead", fn := fun _ => fun
  | [d] => { results := [.lit (.bool false)], args := [d] }
  | _ => none }
def FnExactDerIntReadWrongFalsely : Prop := fnExactDerIntReadRow.holds Try.pinned (OpenSpec.ofChange fnExactDerIntReadWrong)

/-- 'laws.FnExactDerOid': WHATEVER THE INPUT: true; the input reads as it did. -/
def fnExactDerOidSpec : ChangeSpec := { name := "fnExactDerOid", fn := fun _ => fun
  | [d] => { results := [.lit (.bool true)], args := [d] }
  | _ => none }
def fnExactDerOidRow : OpenClaim := { program := "ytochmolhpcidgah", sum := "dab1507c1eed30618b43a0ba118b53d719bd8e85fd1aaa7b92e55f037473fb2c", func := "loop.example/g00371/laws.FnExactDerOid", spec := "fnExactDerOid", unfollowed := true, recurses := true, apart := false }
def FnExactDerOidSaid : Prop := fnExactDerOidRow.holds Try.pinned (OpenSpec.ofChange fnExactDerOidSpec)

/-- ITS FALSE NEIGHBOUR: 'it returns false'. Refute it at one input. -/
def fnExactDerOidWrong : ChangeSpec := { name := "fnExactDerOid", fn := fun _ => fun
  | [d] => { results := [.lit (.bool false)], args := [d] }
  | _ => none }
def FnExactDerOidWrongFalsely : Prop := fnExactDerOidRow.holds Try.pinned (OpenSpec.ofChange fnExactDerOidWrong)

/-- 'laws.FnExactDerOidRead': WHATEVER THE INPUT: true; the input reads as it did. -/
def fnExactDerOidReadSpec : ChangeSpec := { name := "fnExactDerOidRead", fn := fun _ => fun
  | [d] => { results := [.lit (.bool true)], args := [d] }
  | _ => none }
def fnExactDerOidReadRow : OpenClaim := { program := "ytochmolhpcidgah", sum := "dab1507c1eed30618b43a0ba118b53d719bd8e85fd1aaa7b92e55f037473fb2c", func := "loop.example/g00371/laws.FnExactDerOidRead", spec := "fnExactDerOidRead", apart := false }
def FnExactDerOidReadSaid : Prop := fnExactDerOidReadRow.holds Try.pinned (OpenSpec.ofChange fnExactDerOidReadSpec)

/-- ITS FALSE NEIGHBOUR: 'it returns false'. Refute it at one input. -/
def fnExactDerOidReadWrong : ChangeSpec := { name := "fnExactDerOidRead", fn := fun _ => fun
  | [d] => { results := [.lit (.bool false)], args := [d] }
  | _ => none }
def FnExactDerOidReadWrongFalsely : Prop := fnExactDerOidReadRow.holds Try.pinned (OpenSpec.ofChange fnExactDerOidReadWrong)

/- THE SECOND FORM. 'bulk': how many values and letters a reading holds, each counted each time it is reached (what is shared counts as often as it is met; a slice's spare places count too). A statement '..UptoSaid' is the law's where the arguments, and the package variables that the reading takes, are together of bulk at most 1048576: NARROWER than '..Said'. Prove '..Said' where nothing that the law and all that it calls make is longer than what came in: it says more and counts as full. Else prove '..UptoSaid'. A law counts once. -/
mutual
def uptoBulk {H : Type} : DataW H → Nat
  | .lit (.string bytes) => bytes.length + 1
  | .lit _ => 1
  | .nil => 1
  | .ptr d => uptoBulk d + 1
  | .slice elems spare => uptoBulkAll elems + uptoBulkAll spare + 1
  | .agg parts => uptoBulkAll parts + 1
  | .iface _ d => uptoBulk d + 1
  | .map entries => uptoBulkEntries entries + 1
  | .held _ => 1
def uptoBulkAll {H : Type} : List (DataW H) → Nat
  | [] => 0
  | d :: r => uptoBulk d + uptoBulkAll r
def uptoBulkEntries {H : Type} : List (Lit × DataW H) → Nat
  | [] => 0
  | x :: r => uptoBulkEntry x + uptoBulkEntries r
def uptoBulkEntry {H : Type} : Lit × DataW H → Nat
  | (.string bytes, d) => bytes.length + uptoBulk d + 1
  | (_, d) => uptoBulk d + 1
 end
def uptoSmall : (H : Type) → List (DataW H) → Bool := fun _ ds => decide (uptoBulkAll ds ≤ 1048576)
def OpenSpec.upto (s : _root_.Go.ChangeSpec) : _root_.Go.OpenSpec := { _root_.Go.OpenSpec.ofChange s with cond := some uptoSmall }

/-- 'laws.FnExactDerInt', WHERE WHAT IT READS IS OF BULK AT MOST 1048576: true; the input reads as it did. -/
def fnExactDerIntUptoRow : OpenClaim := { program := "ytochmolhpcidgah", sum := "dab1507c1eed30618b43a0ba118b53d719bd8e85fd1aaa7b92e55f037473fb2c", func := "loop.example/g00371/laws.FnExactDerInt", spec := "fnExactDerInt", unfollowed := true, recurses := true, apart := false, narrowed := true }
def FnExactDerIntUptoSaid : Prop := fnExactDerIntUptoRow.holds Try.pinned (OpenSpec.upto fnExactDerIntSpec)

/-- 'laws.FnExactDerIntRead', WHERE WHAT IT READS IS OF BULK AT MOST 1048576: true; the input reads as it did. -/
def fnExactDerIntReadUptoRow : OpenClaim := { program := "ytochmolhpcidgah", sum := "dab1507c1eed30618b43a0ba118b53d719bd8e85fd1aaa7b92e55f037473fb2c", func := "loop.example/g00371/laws.FnExactDerIntRead", spec := "fnExactDerIntRead", apart := false, narrowed := true }
def FnExactDerIntReadUptoSaid : Prop := fnExactDerIntReadUptoRow.holds Try.pinned (OpenSpec.upto fnExactDerIntReadSpec)

/-- 'laws.FnExactDerOid', WHERE WHAT IT READS IS OF BULK AT MOST 1048576: true; the input reads as it did. -/
def fnExactDerOidUptoRow : OpenClaim := { program := "ytochmolhpcidgah", sum := "dab1507c1eed30618b43a0ba118b53d719bd8e85fd1aaa7b92e55f037473fb2c", func := "loop.example/g00371/laws.FnExactDerOid", spec := "fnExactDerOid", unfollowed := true, recurses := true, apart := false, narrowed := true }
def FnExactDerOidUptoSaid : Prop := fnExactDerOidUptoRow.holds Try.pinned (OpenSpec.upto fnExactDerOidSpec)

/-- 'laws.FnExactDerOidRead', WHERE WHAT IT READS IS OF BULK AT MOST 1048576: true; the input reads as it did. -/
def fnExactDerOidReadUptoRow : OpenClaim := { program := "ytochmolhpcidgah", sum := "dab1507c1eed30618b43a0ba118b53d719bd8e85fd1aaa7b92e55f037473fb2c", func := "loop.example/g00371/laws.FnExactDerOidRead", spec := "fnExactDerOidRead", apart := false, narrowed := true }
def FnExactDerOidReadUptoSaid : Prop := fnExactDerOidReadUptoRow.holds Try.pinned (OpenSpec.upto fnExactDerOidReadSpec)

end Rows
end Go.Proofs.Ytochmolhpcidgah
