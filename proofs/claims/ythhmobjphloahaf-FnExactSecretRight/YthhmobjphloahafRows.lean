/-
  No cell of these rows narrows 'for every input' (looked for: loops, veiled, ifaces, maps, wideKeys, modest, calm, conditions, laid).
  DERIVED. THE GIVEN ROWS OF THIS SEAT. 6 by the template 'for every input the law returns true; each argument reads behind the call as it read before'; 0 by the template 'total and deterministic' (their statements: YthhmobjphloahafTotals.lean).
  GIVEN WITH THE SEED: the statements are not yours to turn. If you find one false, say at which input.
  Laid BY PROGRAM, IN A SANDBOX (cutbox-rows.mjs): the forced cells as the released guide's own fill.sh prints them over the translation e1c99b801f545595… (all of the seat's roots in one cut). By AI agents, Wed Nov 11 2026. No macro, syntax, notation, axiom, sorry.
-/
import Derived.Test.YthhmobjphloahafChecked
import GoSem.Claim
import GoSem.ClaimJoined
import GoSem.ClaimMapViews
import Derived.JoinedTies
import Derived.KernelRfl
namespace Go.Proofs.Ythhmobjphloahaf
/- THE CELL 'sum', in the pinned program and in every row, IS THE sha256 OF THE DUMP (.gsa) THAT YthhmobjphloahafProg.lean LOADS. Nothing in Lean hashes anything: it is a label: what it is worth is what the hold of that sum in a sandbox is worth. -/
noncomputable def Try.pinned : Pinned := { name := "ythhmobjphloahaf", sum := "e1c99b801f545595d022c02394e5a8e5ea7977abb886bae10c3730fb8181cbfd", checked := Try.checked }
namespace Rows
def none {H : Type} : Left H := { results := [], args := [] }

/-- 'laws.FnExactModPow': WHATEVER THE INPUT: true; the input reads as it did. -/
def fnExactModPowSpec : ChangeSpec := { name := "fnExactModPow", fn := fun _ => fun
  | [d1, d2, d3] => { results := [.lit (.bool true)], args := [d1, d2, d3] }
  | _ => none }
def fnExactModPowRow : OpenClaim := { program := "ythhmobjphloahaf", sum := "e1c99b801f545595d022c02394e5a8e5ea7977abb886bae10c3730fb8181cbfd", func := "loop.example/g00371/laws.FnExactModPow", spec := "fnExactModPow", unfollowed := true, recurses := true, apart := false }
def FnExactModPowSaid : Prop := fnExactModPowRow.holds Try.pinned (OpenSpec.ofChange fnExactModPowSpec)

/-- ITS FALSE NEIGHBOUR: 'it returns false'. Refute it at one input. -/
def fnExactModPowWrong : ChangeSpec := { name := "fnExactModPow", fn := fun _ => fun
  | [d1, d2, d3] => { results := [.lit (.bool false)], args := [d1, d2, d3] }
  | _ => none }
def FnExactModPowWrongFalsely : Prop := fnExactModPowRow.holds Try.pinned (OpenSpec.ofChange fnExactModPowWrong)

/-- 'laws.FnExactModInv': WHATEVER THE INPUT: true; the input reads as it did. -/
def fnExactModInvSpec : ChangeSpec := { name := "fnExactModInv", fn := fun _ => fun
  | [d1, d2] => { results := [.lit (.bool true)], args := [d1, d2] }
  | _ => none }
def fnExactModInvRow : OpenClaim := { program := "ythhmobjphloahaf", sum := "e1c99b801f545595d022c02394e5a8e5ea7977abb886bae10c3730fb8181cbfd", func := "loop.example/g00371/laws.FnExactModInv", spec := "fnExactModInv", unfollowed := true, recurses := true, apart := false }
def FnExactModInvSaid : Prop := fnExactModInvRow.holds Try.pinned (OpenSpec.ofChange fnExactModInvSpec)

/-- ITS FALSE NEIGHBOUR: 'it returns false'. Refute it at one input. -/
def fnExactModInvWrong : ChangeSpec := { name := "fnExactModInv", fn := fun _ => fun
  | [d1, d2] => { results := [.lit (.bool false)], args := [d1, d2] }
  | _ => none }
def FnExactModInvWrongFalsely : Prop := fnExactModInvRow.holds Try.pinned (OpenSpec.ofChange fnExactModInvWrong)

/-- 'laws.FnExactGroupRight': WHATEVER THE INPUT: true; the input reads as it did. -/
def fnExactGroupRightSpec : ChangeSpec := { name := "fnExactGroupRight", fn := fun _ => fun
  | [d] => { results := [.lit (.bool true)], args := [d] }
  | _ => none }
def fnExactGroupRightRow : OpenClaim := { program := "ythhmobjphloahaf", sum := "e1c99b801f545595d022c02394e5a8e5ea7977abb886bae10c3730fb8181cbfd", func := "loop.example/g00371/laws.FnExactGroupRight", spec := "fnExactGroupRight", unfollowed := true, recurses := true, apart := false }
def FnExactGroupRightSaid : Prop := fnExactGroupRightRow.holds Try.pinned (OpenSpec.ofChange fnExactGroupRightSpec)

/-- ITS FALSE NEIGHBOUR: 'it returns false'. Refute it at one input. -/
def fnExactGroupRightWrong : ChangeSpec := { name := "fnExactGroupRight", fn := fun _ => fun
  | [d] => { results := [.lit (.bool false)], args := [d] }
  | _ => none }
def FnExactGroupRightWrongFalsely : Prop := fnExactGroupRightRow.holds Try.pinned (OpenSpec.ofChange fnExactGroupRightWrong)

/-- 'laws.FnExactGroupMul': WHATEVER THE INPUT: true; the input reads as it did. -/
def fnExactGroupMulSpec : ChangeSpec := { name := "fnExactGroupMul", fn := fun _ => fun
  | [d1, d2] => { results := [.lit (.bool true)], args := [d1, d2] }
  | _ => none }
def fnExactGroupMulRow : OpenClaim := { program := "ythhmobjphloahaf", sum := "e1c99b801f545595d022c02394e5a8e5ea7977abb886bae10c3730fb8181cbfd", func := "loop.example/g00371/laws.FnExactGroupMul", spec := "fnExactGroupMul", unfollowed := true, recurses := true, apart := false }
def FnExactGroupMulSaid : Prop := fnExactGroupMulRow.holds Try.pinned (OpenSpec.ofChange fnExactGroupMulSpec)

/-- ITS FALSE NEIGHBOUR: 'it returns false'. Refute it at one input. -/
def fnExactGroupMulWrong : ChangeSpec := { name := "fnExactGroupMul", fn := fun _ => fun
  | [d1, d2] => { results := [.lit (.bool false)], args := [d1, d2] }
  | _ => none }
def FnExactGroupMulWrongFalsely : Prop := fnExactGroupMulRow.holds Try.pinned (OpenSpec.ofChange fnExactGroupMulWrong)

/-- 'laws.FnExactGroupPow': WHATEVER THE INPUT: true; the input reads as it did. -/
def fnExactGroupPowSpec : ChangeSpec := { name := "fnExactGroupPow", fn := fun _ => fun
  | [d1, d2] => { results := [.lit (.bool true)], args := [d1, d2] }
  | _ => none }
def fnExactGroupPowRow : OpenClaim := { program := "ythhmobjphloahaf", sum := "e1c99b801f545595d022c02394e5a8e5ea7977abb886bae10c3730fb8181cbfd", func := "loop.example/g00371/laws.FnExactGroupPow", spec := "fnExactGroupPow", unfollowed := true, recurses := true, apart := false }
def FnExactGroupPowSaid : Prop := fnExactGroupPowRow.holds Try.pinned (OpenSpec.ofChange fnExactGroupPowSpec)

/-- ITS FALSE NEIGHBOUR: 'it returns false'. Refute it at one input. -/
def fnExactGroupPowWrong : ChangeSpec := { name := "fnExactGroupPow", fn := fun _ => fun
  | [d1, d2] => { results := [.lit (.bool false)], args := [d1, d2] }
  | _ => none }
def FnExactGroupPowWrongFalsely : Prop := fnExactGroupPowRow.holds Try.pinned (OpenSpec.ofChange fnExactGroupPowWrong)

/-- 'laws.FnExactSecretRight': WHATEVER THE INPUT: true; the input reads as it did. -/
def fnExactSecretRightSpec : ChangeSpec := { name := "fnExactSecretRight", fn := fun _ => fun
  | [d] => { results := [.lit (.bool true)], args := [d] }
  | _ => none }
def fnExactSecretRightRow : OpenClaim := { program := "ythhmobjphloahaf", sum := "e1c99b801f545595d022c02394e5a8e5ea7977abb886bae10c3730fb8181cbfd", func := "loop.example/g00371/laws.FnExactSecretRight", spec := "fnExactSecretRight", apart := false }
def FnExactSecretRightSaid : Prop := fnExactSecretRightRow.holds Try.pinned (OpenSpec.ofChange fnExactSecretRightSpec)

/-- ITS FALSE NEIGHBOUR: 'it returns false'. Refute it at one input. -/
def fnExactSecretRightWrong : ChangeSpec := { name := "fnExactSecretRight", fn := fun _ => fun
  | [d] => { results := [.lit (.bool false)], args := [d] }
  | _ => none }
def FnExactSecretRightWrongFalsely : Prop := fnExactSecretRightRow.holds Try.pinned (OpenSpec.ofChange fnExactSecretRightWrong)

/- THE SECOND FORM. 'bulk': how many values and letters a reading holds, each counted each time it is reached (what is shared counts as often as it is met; a slice's spare places count too). A statement '..UptoSaid' is the law's where the arguments, and the package variables that the reading takes, are together of bulk at most 1048576: NARROWER than '..Said'. Prove '..Said' where nothing that the law and all that it calls make is longer than what came in: it says more and counts as full. Else prove '..UptoSaid'. A law counts once. -/
mutual
def uptoBulk {H : Type} : DataW H → Nat
  | .lit (.string bytes) => bytes.length + 1
  | .lit _ => 1
  | .nil => 1
  | .ptr d => uptoBulk d + 1
  | .slice elems spare => uptoBulkAll elems + uptoBulkAll spare + 1
  | .agg parts => uptoBulkAll parts + 1
  | .iface _ d => uptoBulk d + 1
  | .map entries => uptoBulkEntries entries + 1
  | .held _ => 1
def uptoBulkAll {H : Type} : List (DataW H) → Nat
  | [] => 0
  | d :: r => uptoBulk d + uptoBulkAll r
def uptoBulkEntries {H : Type} : List (Lit × DataW H) → Nat
  | [] => 0
  | x :: r => uptoBulkEntry x + uptoBulkEntries r
def uptoBulkEntry {H : Type} : Lit × DataW H → Nat
  | (.string bytes, d) => bytes.length + uptoBulk d + 1
  | (_, d) => uptoBulk d + 1
 end
def uptoSmall : (H : Type) → List (DataW H) → Bool := fun _ ds => decide (uptoBulkAll ds ≤ 1048576)
def OpenSpec.upto (s : _root_.Go.ChangeSpec) : _root_.Go.OpenSpec := { _root_.Go.OpenSpec.ofChange s with cond := some uptoSmall }

/-- 'laws.FnExactModPow', WHERE WHAT IT READS IS OF BULK AT MOST 1048576: true; the input reads as it did. -/
def fnExactModPowUptoRow : OpenClaim := { program := "ythhmobjphloahaf", sum := "e1c99b801f545595d022c02394e5a8e5ea7977abb886bae10c3730fb8181cbfd", func := "loop.example/g00371/laws.FnExactModPow", spec := "fnExactModPow", unfollowed := true, recurses := true, apart := false, narrowed := true }
def FnExactModPowUptoSaid : Prop := fnExactModPowUptoRow.holds Try.pinned (OpenSpec.upto fnExactModPowSpec)

/-- 'laws.FnExactModInv', WHERE WHAT IT READS IS OF BULK AT MOST 1048576: true; the input reads as it did. -/
def fnExactModInvUptoRow : OpenClaim := { program := "ythhmobjphloahaf", sum := "e1c99b801f545595d022c02394e5a8e5ea7977abb886bae10c3730fb8181cbfd", func := "loop.example/g00371/laws.FnExactModInv", spec := "fnExactModInv", unfollowed := true, recurses := true, apart := false, narrowed := true }
def FnExactModInvUptoSaid : Prop := fnExactModInvUptoRow.holds Try.pinned (OpenSpec.upto fnExactModInvSpec)

/-- 'laws.FnExactGroupRight', WHERE WHAT IT READS IS OF BULK AT MOST 1048576: true; the input reads as it did. -/
def fnExactGroupRightUptoRow : OpenClaim := { program := "ythhmobjphloahaf", sum := "e1c99b801f545595d022c02394e5a8e5ea7977abb886bae10c3730fb8181cbfd", func := "loop.example/g00371/laws.FnExactGroupRight", spec := "fnExactGroupRight", unfollowed := true, recurses := true, apart := false, narrowed := true }
def FnExactGroupRightUptoSaid : Prop := fnExactGroupRightUptoRow.holds Try.pinned (OpenSpec.upto fnExactGroupRightSpec)

/-- 'laws.FnExactGroupMul', WHERE WHAT IT READS IS OF BULK AT MOST 1048576: true; the input reads as it did. -/
def fnExactGroupMulUptoRow : OpenClaim := { program := "ythhmobjphloahaf", sum := "e1c99b801f545595d022c02394e5a8e5ea7977abb886bae10c3730fb8181cbfd", func := "loop.example/g00371/laws.FnExactGroupMul", spec := "fnExactGroupMul", unfollowed := true, recurses := true, apart := false, narrowed := true }
def FnExactGroupMulUptoSaid : Prop := fnExactGroupMulUptoRow.holds Try.pinned (OpenSpec.upto fnExactGroupMulSpec)

/-- 'laws.FnExactGroupPow', WHERE WHAT IT READS IS OF BULK AT MOST 1048576: true; the input reads as it did. -/
def fnExactGroupPowUptoRow : OpenClaim := { program := "ythhmobjphloahaf", sum := "e1c99b801f545595d022c02394e5a8e5ea7977abb886bae10c3730fb8181cbfd", func := "loop.example/g00371/laws.FnExactGroupPow", spec := "fnExactGroupPow", unfollowed := true, recurses := true, apart := false, narrowed := true }
def FnExactGroupPowUptoSaid : Prop := fnExactGroupPowUptoRow.holds Try.pinned (OpenSpec.upto fnExactGroupPowSpec)

/-- 'laws.FnExactSecretRight', WHERE WHAT IT READS IS OF BULK AT MOST 1048576: true; the input reads as it did. -/
def fnExactSecretRightUptoRow : OpenClaim := { program := "ythhmobjphloahaf", sum := "e1c99b801f545595d022c02394e5a8e5ea7977abb886bae10c3730fb8181cbfd", func := "loop.example/g00371/laws.FnExactSecretRight", spec := "fnExactSecretRight", apart := false, narrowed := true }
def FnExactSecretRightUptoSaid : Prop := fnExactSecretRightUptoRow.holds Try.pinned (OpenSpec.upto fnExactSecretRightSpec)

end Rows
end Go.Proofs.Ythhmobjphloahaf
