/- spec.l03Pow, walked: a power modulo a number. -/
import Derived.Test.YtkopinnhicoggaaGrpQ
namespace Go.Proofs.Ytkopinnhicoggaa
open Go.RowKit

set_option maxHeartbeats 1000000 in
set_option maxRecDepth 100000 in
theorem specPow (a n m : Nat) (w : World) (hm : 2 ≤ m) (hm2 : m ≤ 2147483647) (hn : n ≤ 9223372036854775807) :
    Calls Try.prog 60 #[.int .i64 (a : Int), .int .i64 (n : Int), .int .i64 (m : Int)] w fun e w' => e = .returned (.int .i64 ((pm a n m : Nat) : Int)) ∧ w' = w := by
  have e1 : (1 : Int).tmod (m : Int) = 1 := by rw [show (1 : Int) = ((1 : Nat) : Int) from rfl, tmodN, Nat.mod_eq_of_lt (by omega)]
  have e2 := tmodN a m
  have h0 : ((m : Int) == 0) = false := by rw [beq_eq_false_iff_ne]; omega
  have hlt : a % m < m := Nat.mod_lt _ (by omega)
  have HI : Hid (PowInv a n m 1 (a % m) n) := PowInv.start' a n hm
  go_enter Try.func60, Try.ntmps60
  go_wp2
  go_loopw [0, 1, 7] (fun x y z wr => ∃ (b k o : Nat), x = .int .i64 (b : Int) ∧ y = .int .i64 (k : Int) ∧ z = .int .i64 (o : Int) ∧ b < m ∧ k ≤ 9223372036854775807 ∧ o < m ∧ Hid (PowInv a n m o b k) ∧ wr = w)
    (fun _ y _ _ => (intOf y).toNat)
  case atStart => exact ⟨a % m, n, 1, rfl, rfl, rfl, hlt, hn, by omega, HI, rfl⟩
  case round =>
    clear HI e1 e2 hlt
    obtain ⟨b, k, o, rfl, rfl, rfl, hb, hk, ho, hinv, rfl⟩ := hrel
    by_cases h : k = 0
    · subst h
      have hd := hinv.out.done
      clear hinv
      subst hd
      go_wp2
      go_ret
      exact ⟨rfl, rfl⟩
    · have q0 : (0 : Int) < (k : Int) := by omega
      obtain ⟨p1, hp1, ep1, lp1, up1⟩ := prod_bd o b (by omega) (by omega)
      obtain ⟨p2, hp2, ep2, lp2, up2⟩ := prod_bd b b (by omega) (by omega)
      have m1 : p1 % m < m := Nat.mod_lt _ (by omega)
      have m2 : p2 % m < m := Nat.mod_lt _ (by omega)
      have t1 := tmodN p1 m
      have t2 := tmodN p2 m
      have hkl : k / 2 ≤ 9223372036854775807 := by omega
      by_cases hodd : k % 2 = 1
      · have HN : Hid (PowInv a n m (p1 % m) (p2 % m) (k / 2)) := by rw [hp1, hp2]; exact hinv.out.odd hm hodd
        have t3 : ((k : Int).tmod 2) = 1 := by rw [show (2 : Int) = ((2 : Nat) : Int) from rfl, tmodN, hodd]; rfl
        clear hinv hp1 hp2 hodd
        go_wp2
        go_roundw
        case rel => exact ⟨p2 % m, k / 2, p1 % m, rfl, rfl, rfl, m2, hkl, m1, HN, trivial⟩
        case measure => simp [intOf]; omega
      · have HN : Hid (PowInv a n m o (p2 % m) (k / 2)) := by rw [hp2]; exact hinv.out.even (by omega)
        have t3 : ((k : Int).tmod 2) = 0 := by rw [show (2 : Int) = ((2 : Nat) : Int) from rfl, tmodN, show k % 2 = 0 from by omega]; rfl
        clear hinv hp1 hp2 hodd t1 m1 up1 lp1 ep1
        go_wp2
        go_roundw
        case rel => exact ⟨p2 % m, k / 2, o, rfl, rfl, rfl, m2, hkl, ho, HN, trivial⟩
        case measure => simp [intOf]; omega
end Go.Proofs.Ytkopinnhicoggaa
