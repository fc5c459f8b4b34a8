/- impl.power, walked. -/
import Derived.Test.YtkopinnhicoggaaGrpB
namespace Go.Proofs.Ytkopinnhicoggaa
open Go.RowKit

set_option maxHeartbeats 1000000 in
set_option maxRecDepth 100000 in
theorem implPower (g a n m : Nat) (w : World) (hm : 2 ≤ m) (hm2 : m ≤ 2147483647) (hn : n ≤ 9223372036854775807) (hc : w.cell? ⟨g, 0, none⟩ = some (.int .i64 (m : Int))) :
    Calls Try.prog 80 #[.int .i64 (a : Int), .int .i64 (n : Int), restV g] w fun e w' => e = .returned (.int .i64 ((pm a n m : Nat) : Int)) ∧ w' = w := by
  have HI : Hid (PowInv a n m 1 a n) := PowInv.start a n hm
  go_enter Try.func80, Try.ntmps80
  go_wp2_with fail
  go_loopw [1, 7, 8] (fun y z x wr => ∃ (b k o : Nat), x = .int .i64 (b : Int) ∧ y = .int .i64 (k : Int) ∧ z = .int .i64 (o : Int) ∧ k ≤ 9223372036854775807 ∧ Hid (PowInv a n m o b k) ∧ wr = w)
    (fun y _ _ _ => (intOf y).toNat)
  case atStart => exact ⟨a, n, 1, rfl, rfl, rfl, hn, HI, rfl⟩
  case round =>
    clear HI
    obtain ⟨b, k, o, rfl, rfl, rfl, hk, hinv, rfl⟩ := hrel
    have HC : Hid (∀ o b : Nat, Calls Try.prog 86 #[.int .i64 (o : Int), .int .i64 (b : Int), restV g] wr fun e w' => e = .returned (.int .i64 ((o * b % m : Nat) : Int)) ∧ w' = wr) := fun o b => implProduct g o b m wr hm hm2 hc
    clear hc
    by_cases h : k = 0
    · subst h
      have hd := hinv.out.done
      clear hinv
      subst hd
      go_wp2
      go_ret
      exact ⟨rfl, rfl⟩
    · have q0 : (0 : Int) < (k : Int) := by omega
      have hkl : k / 2 ≤ 9223372036854775807 := by omega
      by_cases hodd : k % 2 = 1
      · have HN : Hid (PowInv a n m (o * b % m) (b * b % m) (k / 2)) := hinv.out.odd hm hodd
        have t3 : bits BinOp.and IntKind.i64 (k : Int) 1 = 1 := by rw [i64_and1]; omega
        clear hinv hodd
        go_wp2_with fail
        refine (HC.out o b).mono ?_
        rintro e w' ⟨rfl, rfl⟩
        generalize o * b % m = x at *
        go_wp2_with fail
        refine (HC.out b b).mono ?_
        rintro e w' ⟨rfl, rfl⟩
        generalize b * b % m = y at *
        go_wp2
        go_roundw
        case rel => exact ⟨y, k / 2, x, rfl, rfl, rfl, hkl, HN, trivial⟩
        case measure => simp [intOf]; omega
      · have HN : Hid (PowInv a n m o (b * b % m) (k / 2)) := hinv.out.even (by omega)
        have t3 : bits BinOp.and IntKind.i64 (k : Int) 1 = 0 := by rw [i64_and1]; omega
        clear hinv hodd
        go_wp2_with fail
        refine (HC.out b b).mono ?_
        rintro e w' ⟨rfl, rfl⟩
        generalize b * b % m = y at *
        go_wp2
        go_roundw
        case rel => exact ⟨y, k / 2, o, rfl, rfl, rfl, hkl, HN, trivial⟩
        case measure => simp [intOf]; omega
end Go.Proofs.Ytkopinnhicoggaa
