/- Kinds of thing, told apart. -/
import Derived.Test.YtochmolhpcidgagBase
namespace Go.Proofs.Ytochmolhpcidgag
open Go.RowKit Go.Lib

theorem as00 (a : Int) (b : ByteArray) (w : World) : (Instr.typeAssert (.iface 36 (.agg #[.int .i64 a, .string b])) 40 48 true).run Try.prog w = .ok (.tuple #[.agg #[.int .i64 0], .bool false]) w := by kernel_rfl
theorem as01 (a : Int) (b : ByteArray) (w : World) : (Instr.typeAssert (.iface 36 (.agg #[.int .i64 a, .string b])) 40 51 true).run Try.prog w = .ok (.tuple #[.agg #[.slice none 0 0], .bool false]) w := by kernel_rfl
theorem as02 (a : Int) (b : ByteArray) (w : World) : (Instr.typeAssert (.iface 36 (.agg #[.int .i64 a, .string b])) 40 36 true).run Try.prog w = .ok (.tuple #[.agg #[.int .i64 a, .string b], .bool true]) w := by kernel_rfl
theorem as10 (a : Int) (w : World) : (Instr.typeAssert (.iface 48 (.agg #[.int .i64 a])) 40 48 true).run Try.prog w = .ok (.tuple #[.agg #[.int .i64 a], .bool true]) w := by kernel_rfl
theorem as20 (a : Value) (w : World) : (Instr.typeAssert (.iface 51 (.agg #[a])) 40 48 true).run Try.prog w = .ok (.tuple #[.agg #[.int .i64 0], .bool false]) w := by kernel_rfl
theorem as21 (a : Value) (w : World) : (Instr.typeAssert (.iface 51 (.agg #[a])) 40 51 true).run Try.prog w = .ok (.tuple #[.agg #[a], .bool true]) w := by kernel_rfl
end Go.Proofs.Ytochmolhpcidgag
