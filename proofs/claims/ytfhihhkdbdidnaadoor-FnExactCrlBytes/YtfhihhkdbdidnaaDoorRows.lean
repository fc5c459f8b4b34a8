/-
  NARROWER THAN 'FOR EVERY INPUT', by the rows' own cells (each row's printed sentence says how): FnExactCrlBytes: ifaces, laid.
  DERIVED. THE GIVEN ROWS OF THIS SEAT. 1 by the template 'for every input the law returns true; each argument reads behind the call as it read before'; 0 by the template 'total and deterministic' (their statements: YtfhihhkdbdidnaaDoorTotals.lean).
  GIVEN WITH THE SEED: the statements are not yours to turn. If you find one false, say at which input.
  Laid BY PROGRAM, IN A SANDBOX (cutbox-rows.mjs): the forced cells as the released guide's own fill.sh prints them over the translation 693d0163df0664ea… (all of the seat's roots in one cut). By AI agents, Wed Nov 11 2026. No macro, syntax, notation, axiom, sorry.
-/
import Derived.Test.YtfhihhkdbdidnaaDoorChecked
import GoSem.Claim
import GoSem.ClaimJoined
import GoSem.ClaimMapViews
import Derived.JoinedTies
import Derived.KernelRfl
namespace Go.Proofs.YtfhihhkdbdidnaaDoor
/- THE CELL 'sum', in the pinned program and in every row, IS THE sha256 OF THE DUMP (.gsa) THAT YtfhihhkdbdidnaaDoorProg.lean LOADS. Nothing in Lean hashes anything: it is a label: what it is worth is what the hold of that sum in a sandbox is worth. -/
noncomputable def Tryd.pinned : Pinned := { name := "ytfhihhkdbdidnaadoor", sum := "693d0163df0664ea028fe7ca2cce38d8925e63252df14400a239667611a8eca3", checked := Tryd.checked }
namespace Rows
def none {H : Type} : Left H := { results := [], args := [] }

/- WHAT THE LISTED PACKAGE-LEVEL VARIABLES READ AS WHEN THE CALL BEGINS. Each datum BY PROGRAM (the guide's laid-datum.mjs) off the statement by which the dump's own 'gosem.cut.vars' lays the variable. In a bare row this is a premise. The card (YtfhihhkdbdidnaaDoorCards.lean) ties it to the program's text. -/
def laid_loop_example_g00371_impl_errNotRight {H : Type} : DataW H := .iface "*errors.errorString" (.ptr (.agg [.lit (.string [105, 116, 44, 32, 111, 114, 32, 105, 116, 115, 32, 115, 105, 103, 110, 97, 116, 117, 114, 101, 44, 32, 105, 115, 32, 110, 111, 116, 32, 114, 105, 103, 104, 116])]))

/-- 'laws.FnExactCrlBytes': WHATEVER THE INPUT: true; the input reads as it did. -/
def fnExactCrlBytesSpec : ChangeSpec := { name := "fnExactCrlBytes", vars := ["loop.example/g00371/impl.errNotRight"], fn := fun _ => fun
  | [d, g1] => { results := [.lit (.bool true)], args := [d], vars := [g1] }
  | _ => none }
def fnExactCrlBytesRow : OpenClaim := { program := "ytfhihhkdbdidnaadoor", sum := "693d0163df0664ea028fe7ca2cce38d8925e63252df14400a239667611a8eca3", func := "loop.example/g00371/laws.FnExactCrlBytes", spec := "fnExactCrlBytes", inPlace := ["internal/abi.NoEscape", "internal/bytealg.MakeNoZero"], unfollowed := true, recurses := true, named := ["loop.example/g00371/impl.errNotRight"], ifaces := true, apart := false, laid := [("loop.example/g00371/impl.errNotRight", laid_loop_example_g00371_impl_errNotRight)] }
def FnExactCrlBytesSaid : Prop := fnExactCrlBytesRow.holds Tryd.pinned (OpenSpec.ofChange fnExactCrlBytesSpec)

/-- ITS FALSE NEIGHBOUR: 'it returns false'. Refute it at one input. -/
def fnExactCrlBytesWrong : ChangeSpec := { name := "fnExactCrlBytes", vars := ["loop.example/g00371/impl.errNotRight"], fn := fun _ => fun
  | [d, g1] => { results := [.lit (.bool false)], args := [d], vars := [g1] }
  | _ => none }
def FnExactCrlBytesWrongFalsely : Prop := fnExactCrlBytesRow.holds Tryd.pinned (OpenSpec.ofChange fnExactCrlBytesWrong)

/- THE SECOND FORM. 'bulk': how many values and letters a reading holds, each counted each time it is reached (what is shared counts as often as it is met; a slice's spare places count too). A statement '..UptoSaid' is the law's where the arguments, and the package variables that the reading takes, are together of bulk at most 1048576: NARROWER than '..Said'. Prove '..Said' where nothing that the law and all that it calls make is longer than what came in: it says more and counts as full. Else prove '..UptoSaid'. A law counts once. -/
mutual
def uptoBulk {H : Type} : DataW H → Nat
  | .lit (.string bytes) => bytes.length + 1
  | .lit _ => 1
  | .nil => 1
  | .ptr d => uptoBulk d + 1
  | .slice elems spare => uptoBulkAll elems + uptoBulkAll spare + 1
  | .agg parts => uptoBulkAll parts + 1
  | .iface _ d => uptoBulk d + 1
  | .map entries => uptoBulkEntries entries + 1
  | .held _ => 1
def uptoBulkAll {H : Type} : List (DataW H) → Nat
  | [] => 0
  | d :: r => uptoBulk d + uptoBulkAll r
def uptoBulkEntries {H : Type} : List (Lit × DataW H) → Nat
  | [] => 0
  | x :: r => uptoBulkEntry x + uptoBulkEntries r
def uptoBulkEntry {H : Type} : Lit × DataW H → Nat
  | (.string bytes, d) => bytes.length + uptoBulk d + 1
  | (_, d) => uptoBulk d + 1
 end
def uptoSmall : (H : Type) → List (DataW H) → Bool := fun _ ds => decide (uptoBulkAll ds ≤ 1048576)
def OpenSpec.upto (s : _root_.Go.ChangeSpec) : _root_.Go.OpenSpec := { _root_.Go.OpenSpec.ofChange s with cond := some uptoSmall }

/-- 'laws.FnExactCrlBytes', WHERE WHAT IT READS IS OF BULK AT MOST 1048576: true; the input reads as it did. -/
def fnExactCrlBytesUptoRow : OpenClaim := { program := "ytfhihhkdbdidnaadoor", sum := "693d0163df0664ea028fe7ca2cce38d8925e63252df14400a239667611a8eca3", func := "loop.example/g00371/laws.FnExactCrlBytes", spec := "fnExactCrlBytes", inPlace := ["internal/abi.NoEscape", "internal/bytealg.MakeNoZero"], unfollowed := true, recurses := true, named := ["loop.example/g00371/impl.errNotRight"], ifaces := true, apart := false, laid := [("loop.example/g00371/impl.errNotRight", laid_loop_example_g00371_impl_errNotRight)], narrowed := true }
def FnExactCrlBytesUptoSaid : Prop := fnExactCrlBytesUptoRow.holds Tryd.pinned (OpenSpec.upto fnExactCrlBytesSpec)

end Rows
end Go.Proofs.YtfhihhkdbdidnaaDoor
