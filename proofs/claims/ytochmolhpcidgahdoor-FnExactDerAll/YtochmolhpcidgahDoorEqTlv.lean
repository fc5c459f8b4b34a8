/- laws.eqTlv, laws.eqTlvOut, walked. -/
import Derived.Test.YtochmolhpcidgahDoorBase
import Derived.Test.YtochmolhpcidgahDoorResK
namespace Go.Proofs.YtochmolhpcidgahDoor
open Go.RowKit

theorem eqTlv (t : Int) (b : ByteArray) (w : World) :
    Calls Tryd.prog 16 #[.agg #[.int .i64 t, .string b], .agg #[.int .i64 t, .string b]] w fun e w' => e = .returned (.bool true) ∧ Below w.heap.size w w' := by
  have e1 : (t != t) = false := by simp
  go_enter Tryd.func16, Tryd.ntmps16
  go_wp2
  go_ret
  exact ⟨rfl, by repeat (first | exact Below.refl _ _ | refine Below.setCell ?_ (by simp) _ | refine Below.alloc ?_ (by simp) _)⟩
set_option maxHeartbeats 1000000 in
set_option maxRecDepth 100000 in
theorem eqTlvOut (t : Int) (b : ByteArray) (a c : Int) (w : World) :
    Calls Tryd.prog 7 #[.agg #[.int .i64 t, .string b, .int .i64 a, .int .i64 c], .agg #[.int .i64 t, .string b, .int .i64 a, .int .i64 c]] w fun e w' => e = .returned (.bool true) ∧ Below w.heap.size w w' := by
  have e1 : (a != a) = false := by simp
  have e2 : (c != c) = false := by simp
  have HQ : Hid (∀ v : World, Calls Tryd.prog 16 #[.agg #[.int .i64 t, .string b], .agg #[.int .i64 t, .string b]] v fun e w' => e = .returned (.bool true) ∧ Below v.heap.size v w') := fun v => eqTlv t b v
  go_enter Tryd.func7, Tryd.ntmps7
  go_wp2_with fail
  refine (HQ.out _).mono ?_
  rintro e w1 ⟨rfl, hb1⟩
  have k2 : w1.cell? ⟨w.heap.size, 2, none⟩ = some (.int .i64 a) := (hb1.cell (by simp; omega)).trans (by simp)
  have k3 : w1.cell? ⟨w.heap.size, 3, none⟩ = some (.int .i64 c) := (hb1.cell (by simp; omega)).trans (by simp)
  have j2 : w1.cell? ⟨w.heap.size + 1, 2, none⟩ = some (.int .i64 a) := (hb1.cell (by simp)).trans (by simp)
  have j3 : w1.cell? ⟨w.heap.size + 1, 3, none⟩ = some (.int .i64 c) := (hb1.cell (by simp)).trans (by simp)
  have HB : Hid (Below w.heap.size w w1) := (((Below.refl _ w).alloc (Nat.le_refl _) _).alloc (by simp) _).trans (hb1.mono (by simp; omega))
  clear hb1
  go_wp2
  go_ret
  exact ⟨rfl, HB.out⟩
end Go.Proofs.YtochmolhpcidgahDoor
