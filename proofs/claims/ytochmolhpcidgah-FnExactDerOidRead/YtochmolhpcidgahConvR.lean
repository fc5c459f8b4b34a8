/- Rows of bytes that are known whole, made into texts. -/
import Derived.Test.YtochmolhpcidgahBase
import Derived.Test.YtochmolhpcidgahRowK
namespace Go.Proofs.Ytochmolhpcidgah
open Go.RowKit Go.Lib

theorem madeN (n : Nat) : (madeCells #[Value.int .u8 0] n).toList = List.replicate n (.int .u8 0) := by
  simp [madeCells, Nat.mod_one, List.map_const']
theorem made2 : (madeCells #[Value.int .u8 0] 2).toList = [.int .u8 0, .int .u8 0] := madeN 2
theorem made3 : (madeCells #[Value.int .u8 0] 3).toList = [.int .u8 0, .int .u8 0, .int .u8 0] := madeN 3
/-- 'string(b)' of a row that is known whole. -/
theorem convertRow (w : World) (g : Nat) (xs : List Int) (T n c : Nat) (hn : xs.length = n) (h : w.heap[g]? = some (.cells (xs.map (Value.int .u8)).toArray T (0, 0))) :
    (convert 53 9 (.slice (some ⟨g, 0, none⟩) n c)).run Try.prog w = .ok (.string (strOfNums xs)) w := by
  refine run_convert_bytes_arg _ 53 5 Try.underlying53 Try.underlying5 g 0 n c xs hn ?_ 9 Try.underlying9
  intro i hi
  rw [Nat.zero_add, cell_of_row _ _ i _ T (0, 0) h]
  have hi' : i < xs.length := by omega
  simp [hi', List.getD]
end Go.Proofs.Ytochmolhpcidgah
