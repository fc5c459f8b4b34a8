/- impl.modulo, the function that it answers, impl.product, walked. -/
import Derived.Test.YtkopinnhicoggaaGrpQ
import Derived.Deep.RegionLaw
import Derived.Deep.RegionWith
namespace Go.Proofs.Ytkopinnhicoggaa
open Go.RowKit

theorem i64_and1 (n : Int) : bits .and .i64 n 1 = n % 2 := by
  have h1 : (BitVec.ofInt 64 1).toNat = 2 ^ 1 - 1 := by decide
  have key : (BitVec.ofInt 64 n &&& BitVec.ofInt 64 1).toNat = (n % ((2 ^ 64 : Nat) : Int)).toNat % 2 ^ 1 := by
    rw [BitVec.toNat_and, BitVec.toNat_ofInt, h1, Nat.and_two_pow_sub_one_eq_mod]
  show IntKind.i64.wrap ((BitVec.ofInt 64 n &&& BitVec.ofInt 64 1).toNat : Nat) = n % 2
  rw [key, IntKind.wrap_i64]
  omega
/-- What 'modulo' answers: a function that keeps the modulus in block g. -/
def restV (g : Nat) : Value := .func (.func 87) #[] #[.pointer (some ⟨g, 0, none⟩)]
theorem implModulo (m : Int) (w : World) :
    Calls Try.prog 81 #[.int .i64 m] w fun e w' => e = .returned (restV w.heap.size) ∧ w' = w.alloc (.cells #[.int .i64 m] 2 (0, 0)) := by
  have hmf : ∀ (fn : Fn) (first cap : Array Value) (w : World), (Instr.makeFunc fn first cap).run Try.prog w = .ok (.func fn first cap) w := fun _ _ _ _ => rfl
  go_enter Try.func81, Try.ntmps81
  go_wp2
  go_ret
  exact ⟨rfl, rfl⟩
theorem implRest (g n m : Nat) (w : World) (hm : 2 ≤ m) (hm2 : m ≤ 2147483647) (hc : w.cell? ⟨g, 0, none⟩ = some (.int .i64 (m : Int))) :
    Calls Try.prog 87 #[.int .i64 (n : Int), .pointer (some ⟨g, 0, none⟩)] w fun e w' => e = .returned (.int .i64 ((n % m : Nat) : Int)) ∧ w' = w := by
  have e2 := tmodN n m
  have h0 : ((m : Int) == 0) = false := by rw [beq_eq_false_iff_ne]; omega
  go_enter Try.func87, Try.ntmps87
  go_wp2
  go_ret
  exact ⟨rfl, rfl⟩
set_option maxHeartbeats 1000000 in
set_option maxRecDepth 100000 in
theorem implProduct (g a b m : Nat) (w : World) (hm : 2 ≤ m) (hm2 : m ≤ 2147483647) (hc : w.cell? ⟨g, 0, none⟩ = some (.int .i64 (m : Int))) :
    Calls Try.prog 86 #[.int .i64 (a : Int), .int .i64 (b : Int), restV g] w fun e w' => e = .returned (.int .i64 ((a * b % m : Nat) : Int)) ∧ w' = w := by
  obtain ⟨p, hp, ep, lp, up⟩ := prod_bd (a % m) (b % m) (by have := Nat.mod_lt a (show 0 < m by omega); omega) (by have := Nat.mod_lt b (show 0 < m by omega); omega)
  have hfin : p % m = a * b % m := by rw [hp]; exact mm a b m
  have HF : Hid (p % m = a * b % m) := hfin
  rw [Int.natCast_emod, Int.natCast_emod] at ep
  have t1 := tmodN a m
  have t2 := tmodN b m
  have t3 := tmodN p m
  have h0 : ((m : Int) == 0) = false := by rw [beq_eq_false_iff_ne]; omega
  clear hfin hp
  unfold restV
  go_enter Try.func86, Try.ntmps86
  go_wp2
  go_ret
  exact ⟨ret_int (by rw [← HF.out]; rfl), rfl⟩
end Go.Proofs.Ytkopinnhicoggaa
