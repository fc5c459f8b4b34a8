/- The turning of a word, walked: spec.l02Turn, bits.RotateLeft32, impl.turnRight. -/
import Derived.Test.YthhmobjphloahagDoorBase
import Derived.Test.YthhmobjphloahagDoorShaQ
namespace Go.Proofs.YthhmobjphloahagDoor
open Go.RowKit

theorem specTurn (x : U) (k : Nat) (hk : k < 32) (w : World) :
    Calls Tryd.prog 60 #[.int .u32 (uI x), .int .u64 (k : Int)] w fun e w' => e = .returned (.int .u32 (uI (rotr x k))) ∧ w' = w := by
  have h1 := uI_le x
  have h0 := uI_nonneg x
  go_enter Tryd.func60, Tryd.ntmps60
  go_wp2
  go_ret
  exact ⟨ret_int (by rw [uI_shr, uI_shl', uI_or]; rfl), rfl⟩
theorem mask31 (k : Nat) (h0 : 0 < k) (hk : k < 32) : bits .and .u64 (IntKind.u64.wrap (-(k : Int))) 31 = 32 - (k : Int) := by
  have e : IntKind.u64.wrap (-(k : Int)) = ((18446744073709551616 - k : Nat) : Int) := by rw [IntKind.wrap_u64]; omega
  have e2 := u64_and_nat (18446744073709551616 - k) 31 (by omega) (by omega)
  rw [e]
  refine e2.trans ?_
  rw [Nat.and_two_pow_sub_one_eq_mod _ 5]
  omega
theorem rotL (x : U) (k : Nat) (hk0 : 0 < k) (hk : k < 32) (w : World) :
    Calls Tryd.prog 65 #[.int .u32 (uI x), .int .i64 (-(k : Int))] w fun e w' => e = .returned (.int .u32 (uI (rotr x k))) ∧ w' = w := by
  have h1 := uI_le x
  have h0 := uI_nonneg x
  have hm := mask31 k hk0 hk
  go_enter Tryd.func65, Tryd.ntmps65
  go_wp2
  go_ret
  exact ⟨ret_int (by rw [uI_shr, uI_shl', uI_or, BitVec.or_comm, show 32 - (32 - k) = k by omega]; rfl), rfl⟩
theorem implTurn (x : U) (k : Nat) (hk0 : 0 < k) (hk : k < 32) (w : World) :
    Calls Tryd.prog 64 #[.int .u32 (uI x), .int .i64 (k : Int)] w fun e w' => e = .returned (.int .u32 (uI (rotr x k))) ∧ w' = w := by
  go_enter Tryd.func64, Tryd.ntmps64
  go_wp2_with fail
  refine (rotL x k hk0 hk _).mono ?_
  rintro e w' ⟨rfl, rfl⟩
  go_wp2
  go_ret
  exact ⟨rfl, rfl⟩
/-- The same, the number of places as the walk spells it. -/
theorem implTurnI (x : U) (k : Int) (w : World) (h0 : 0 < k) (hk : k < 32) :
    Calls Tryd.prog 64 #[.int .u32 (uI x), .int .i64 k] w fun e w' => e = .returned (.int .u32 (uI (rotr x k.toNat))) ∧ w' = w := by
  have h := implTurn x k.toNat (by omega) (by omega) w
  rwa [Int.toNat_of_nonneg (by omega)] at h
theorem specTurnI (x : U) (k : Int) (w : World) (h0 : 0 ≤ k) (hk : k < 32) :
    Calls Tryd.prog 60 #[.int .u32 (uI x), .int .u64 k] w fun e w' => e = .returned (.int .u32 (uI (rotr x k.toNat))) ∧ w' = w := by
  have h := specTurn x k.toNat (by omega) w
  rwa [Int.toNat_of_nonneg (by omega)] at h
end Go.Proofs.YthhmobjphloahagDoor
