/- spec.l09Sign, walked. -/
import Derived.Test.YtiflnlaapkbofaaB64R
namespace Go.Proofs.Ytiflnlaapkbofaa
open Go.RowKit Go.Lib

set_option maxHeartbeats 4000000 in
set_option maxRecDepth 100000 in
theorem specSgn (c : Nat) (w : World) :
    Calls Try.prog 15 #[.int .u8 (c : Int)] w fun e w' => e = .returned (.int .i64 (sgk c)) ∧ w' = w := by
  go_enter Try.func15, Try.ntmps15
  go_wp2
  go_loopw [3] (fun i wr => ∃ k : Nat, k ≤ 64 ∧ i = .int .i64 k ∧ wr = w ∧ ∀ q, q < k → sg q ≠ (c : Int)) (fun i _ => 64 - (RowKit.intOf i).toNat)
  case atStart => exact ⟨0, Nat.zero_le _, rfl, rfl, fun q hq => by omega⟩
  case round =>
    obtain ⟨k, hk, rfl, rfl, hq⟩ := hrel
    have HQ : Hid (∀ q, q < k → sg q ≠ (c : Int)) := hq
    clear hq
    by_cases hlt : k < 64
    · have e1 := idxSg k hlt
      have q2 : (k : Int) < 64 := by omega
      by_cases he : sg k = (c : Int)
      · have HF : Hid (sgk c = (k : Int)) := by show _ = _; rw [sgk, sgi_eq hlt he]
        have hb : (sg k == (c : Int)) = true := by rw [he]; simp
        go_wp2
        go_ret
        exact ⟨by rw [HF.out]; rfl, rfl⟩
      · have hb : (sg k == (c : Int)) = false := by simpa using he
        go_wp2
        go_roundw
        case rel => exact ⟨k + 1, by omega, by go_num, trivial, fun q hq => by
          by_cases e : q = k
          · subst e; exact he
          · exact HQ.out q (by omega)⟩
        case measure => simp [RowKit.intOf]; omega
    · obtain rfl : k = 64 := by omega
      have HF : Hid (sgk c = -1) := by
        show _ = _
        rw [sgk]
        cases hh : sgi c with
        | none => rfl
        | some q => exact absurd (sgi_some hh).2 (HQ.out q (sgi_some hh).1)
      go_wp2
      go_ret
      exact ⟨by rw [HF.out]; rfl, rfl⟩
end Go.Proofs.Ytiflnlaapkbofaa
