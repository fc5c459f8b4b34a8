/- Small facts on the program's types, shared by the walks. -/
import Derived.Test.YtiflnlaapkbofaaRows
import Derived.Test.YtiflnlaapkbofaaPlain
import Derived.Test.YtiflnlaapkbofaaCopyStr
namespace Go.Proofs.Ytiflnlaapkbofaa
open Go.RowKit

theorem infoByte : (Try.prog.info? 5).map (fun i => (i.zero, i.size, i.bytes)) = some (some (.int .u8 0), 1, 1) := by kernel_rfl
theorem byteSize : (Try.prog.info? 5).map (·.size) = some 1 := by kernel_rfl
theorem ret_int {k : IntKind} {a b : Int} (h : a = b) : Ending.returned (.int k a) = .returned (.int k b) := by rw [h]
theorem u8_lt (c : UInt8) : (c.toNat : Int) ≤ 255 := by have := c.toNat_lt; omega
/-- A TextOut as a value. -/
def outV (t : ByteArray) (at' code : Int) : Value := .agg #[.string t, .int .i64 at', .int .i64 code]
end Go.Proofs.Ytiflnlaapkbofaa
