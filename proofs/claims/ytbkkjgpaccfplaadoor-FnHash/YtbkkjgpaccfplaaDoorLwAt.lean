/- laws.lwAt, walked: a number below most, off the bytes that were handed in. -/
import Derived.Test.YtbkkjgpaccfplaaDoorSrcA
namespace Go.Proofs.YtbkkjgpaccfplaaDoor
open Go.RowKit

theorem tmodNat (p m : Nat) : (p : Int).tmod (m : Int) = ((p % m : Nat) : Int) := by
  rw [Int.tmod_eq_emod_of_nonneg (Int.natCast_nonneg _)]; rfl
set_option maxHeartbeats 1000000 in
set_option maxRecDepth 100000 in
theorem lwAt (a : Option Addr) (len cap i most : Nat) (w : World) (hlen : len ≤ 1048576) (hm : most ≤ 2147483648) (hc : CodeAt a len w) :
    Calls Tryd.prog 17 #[.slice a len cap, .int .i64 (i : Int), .int .i64 (most : Int)] w fun e w' => (∃ k : Nat, (k < most ∨ k = 0) ∧ e = .returned (.int .i64 (k : Int))) ∧ w' = w := by
  by_cases h1 : most ≤ 1
  · have q : (most : Int) ≤ 1 := by omega
    go_enter Tryd.func17, Tryd.ntmps17
    go_wp2
    go_ret
    exact ⟨⟨0, .inr rfl, rfl⟩, rfl⟩
  by_cases h0 : len = 0
  · subst h0
    go_enter Tryd.func17, Tryd.ntmps17
    go_wp2
    go_ret
    exact ⟨⟨0, .inr rfl, rfl⟩, rfl⟩
  · obtain ⟨b, off, rfl, hcell⟩ : ∃ b off, a = some ⟨b, off, none⟩ ∧ ∀ i, i < len → ∃ z : Nat, z ≤ 255 ∧ w.cell? ⟨b, off + i, none⟩ = some (.int .u8 z) := by
      rcases hc with h | h
      · omega
      · exact h
    have hlt : i % len < len := Nat.mod_lt _ (by omega)
    obtain ⟨y, hy, hyc⟩ := hcell (i % len) hlt
    have q0 : (1 : Int) < (most : Int) := by omega
    have q1 : ((len : Int) == 0) = false := by rw [beq_eq_false_iff_ne]; omega
    have q5 : ((most : Int) == 0) = false := by rw [beq_eq_false_iff_ne]; omega
    have q2 := tmodNat i len
    have q3 := tmodNat y most
    have q6 : y % most < most := Nat.mod_lt _ (by omega)
    generalize i % len = j at *
    generalize y % most = x at *
    have q4 : (j : Int) < (len : Int) := by omega
    clear hcell hc
    go_enter Tryd.func17, Tryd.ntmps17
    go_wp2
    go_ret
    exact ⟨⟨x, .inl q6, rfl⟩, rfl⟩
end Go.Proofs.YtbkkjgpaccfplaaDoor
