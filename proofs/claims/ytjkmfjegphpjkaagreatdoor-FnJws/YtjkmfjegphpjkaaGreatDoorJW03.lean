/- Powers modulo a number: plain mathematics, no program is named here. The group's order, and what a signature's numbers lead to: plain mathematics, no program is named here. Products and remainders of numbers, as a walk has them. impl.modulo, the function that it answers, impl.product, walked. impl.ModMul, ModPow, ModInv and the specification's, walked. impl.power, walked. impl.ModPow, walked. spec.l03Pow, walked: a power modulo a number. impl.isUnit, GroupRight and spec.GroupRight, walked. Products and powers of the group: what is answered. Secrets and their keys: plain mathematics. Papers, and when they are right. Plain mathematics: no program is named here. Plain mathematics of SHA-256: no program is named here. -/
import Derived.Test.YtjkmfjegphpjkaaGreatDoorJW01
import Derived.Deep.RegionLaw
import Derived.Deep.RegionWith
import Derived.Below
import Derived.Test.YtjkmfjegphpjkaaGreatDoorJW02
import Derived.Laws.BitsAllLaws
namespace Go.Proofs.YtjkmfjegphpjkaaGreatDoor
open Go.RowKit

/-- A power modulo m. -/
def pm (a n m : Nat) : Nat := a ^ n % m
theorem pm_lt (a n : Nat) {m : Nat} (h : 2 ≤ m) : pm a n m < m := Nat.mod_lt _ (by omega)
theorem pm_zero (a : Nat) {m : Nat} (h : 2 ≤ m) : pm a 0 m = 1 := by
  unfold pm; rw [Nat.pow_zero]; exact Nat.mod_eq_of_lt (by omega)
theorem pm_one (a m : Nat) : pm a 1 m = a % m := by unfold pm; rw [Nat.pow_one]
theorem pm_two (a m : Nat) : pm a 2 m = a * a % m := by unfold pm; rw [Nat.pow_two]
theorem pm_base (a n m : Nat) : pm (a % m) n m = pm a n m := by unfold pm; exact (Nat.pow_mod a n m).symm
theorem mm (a b m : Nat) : a % m * (b % m) % m = a * b % m := (Nat.mul_mod a b m).symm
theorem pm_mul (y a b p : Nat) : pm y a p * pm y b p % p = pm y (a + b) p := by
  unfold pm; rw [mm, ← Nat.pow_add]
theorem pm_pm (y a b p : Nat) : pm (pm y a p) b p = pm y (a * b) p := by
  unfold pm; rw [← Nat.pow_mod, ← Nat.pow_mul]
theorem pm_unit {y q p : Nat} (hp : 2 ≤ p) (h : pm y q p = 1) (n : Nat) : pm y (q * n) p = 1 := by
  rw [← pm_pm, h]
  unfold pm
  rw [Nat.one_pow]
  exact Nat.mod_eq_of_lt (by omega)
theorem pm_red {y q p : Nat} (hp : 2 ≤ p) (h : pm y q p = 1) (n : Nat) : pm y (n % q) p = pm y n p := by
  conv => rhs; rw [← Nat.div_add_mod n q]
  rw [← pm_mul, pm_unit hp h, Nat.one_mul]
  exact (Nat.mod_eq_of_lt (pm_lt y _ hp)).symm
/-- A power of what comes round at q comes round at q. -/
theorem pm_in {y q p : Nat} (hp : 2 ≤ p) (h : pm y q p = 1) (n : Nat) : pm (pm y n p) q p = 1 := by
  rw [pm_pm, Nat.mul_comm, pm_unit hp h]
/-- What comes round is no multiple of the modulus. -/
theorem pm_pos {y q p : Nat} (hq : 1 ≤ q) (h : pm y q p = 1) : 1 ≤ y % p := by
  rcases Nat.eq_zero_or_pos (y % p) with e | e
  · rw [← pm_base, e] at h
    unfold pm at h
    rw [Nat.zero_pow (by omega)] at h
    simp at h
  · exact e

/-- What the rounds keep: all times square to what is left is the power that is asked for. -/
def PowInv (A N m out a n : Nat) : Prop := out < m ∧ out * a ^ n % m = pm A N m
theorem PowInv.start (A N : Nat) {m : Nat} (h : 2 ≤ m) : PowInv A N m 1 A N := ⟨by omega, by rw [Nat.one_mul]; rfl⟩
theorem PowInv.start' (A N : Nat) {m : Nat} (h : 2 ≤ m) : PowInv A N m 1 (A % m) N := ⟨by omega, by rw [Nat.one_mul, ← Nat.pow_mod]; rfl⟩
theorem PowInv.done {A N m out a : Nat} (h : PowInv A N m out a 0) : out = pm A N m := by
  have := h.2; rw [Nat.pow_zero, Nat.mul_one, Nat.mod_eq_of_lt h.1] at this; exact this
theorem half_even {n : Nat} (e : n % 2 = 0) (a : Nat) : a ^ n = (a * a) ^ (n / 2) := by
  rw [← Nat.pow_two, ← Nat.pow_mul, show 2 * (n / 2) = n from by omega]
theorem half_odd {n : Nat} (e : n % 2 = 1) (a : Nat) : a ^ n = a * (a * a) ^ (n / 2) := by
  rw [← Nat.pow_two, ← Nat.pow_mul, Nat.mul_comm a, ← Nat.pow_succ, show (2 * (n / 2)).succ = n from by omega]
theorem PowInv.even {A N m out a n : Nat} (e : n % 2 = 0) (h : PowInv A N m out a n) : PowInv A N m out (a * a % m) (n / 2) := by
  refine ⟨h.1, ?_⟩
  rw [← h.2, half_even e, Nat.mul_mod, ← Nat.pow_mod, ← Nat.mul_mod]
theorem PowInv.odd {A N m out a n : Nat} (hm : 2 ≤ m) (e : n % 2 = 1) (h : PowInv A N m out a n) : PowInv A N m (out * a % m) (a * a % m) (n / 2) := by
  refine ⟨Nat.mod_lt _ (by omega), ?_⟩
  rw [← h.2, half_odd e, Nat.mul_mod, ← Nat.pow_mod, Nat.mod_mod, ← Nat.mul_mod, Nat.mul_assoc]
end Go.Proofs.YtjkmfjegphpjkaaGreatDoor
namespace Go.Proofs.YtjkmfjegphpjkaaGreatDoor
open Go.RowKit

/-- A power modulo m, reckoned quickly: f rounds at most. -/
def qp : Nat → Nat → Nat → Nat → Nat → Nat
  | 0, _, _, _, out => out
  | f + 1, a, n, m, out => if n = 0 then out else qp f (a * a % m) (n / 2) m (if n % 2 = 1 then out * a % m else out)
theorem qp_inv {A N m : Nat} (hm : 2 ≤ m) : ∀ (f a n out : Nat), n < 2 ^ f → PowInv A N m out a n → qp f a n m out = pm A N m
  | 0, a, n, out, h, k => by
    have : n = 0 := by simp at h; omega
    subst this
    exact k.done
  | f + 1, a, n, out, h, k => by
    rw [qp]
    by_cases h0 : n = 0
    · subst h0
      rw [if_pos rfl]
      exact k.done
    · rw [if_neg h0]
      have hn : n / 2 < 2 ^ f := by rw [Nat.pow_succ] at h; omega
      by_cases e : n % 2 = 1
      · rw [if_pos e]
        exact qp_inv hm f _ _ _ hn (k.odd hm e)
      · rw [if_neg e]
        exact qp_inv hm f _ _ _ hn (k.even (by omega))
theorem qp_pm (a n : Nat) {m : Nat} (hm : 2 ≤ m) (f : Nat) (h : n < 2 ^ f) : pm a n m = qp f a n m 1 := (qp_inv hm f a n 1 h (PowInv.start a n hm)).symm
theorem pm4 : pm 4 1073741789 2147483579 = 1 := by
  rw [qp_pm 4 1073741789 (by omega) 31 (by decide)]
  decide +kernel
/-- No number from 2 to the root of q divides q. -/
def noDiv (q : Nat) : Nat → Bool
  | 0 => true
  | d + 1 => decide (q % (d + 2) ≠ 0) && noDiv q d
theorem noDiv_at {q : Nat} : ∀ {n d : Nat}, noDiv q n = true → 2 ≤ d → d < n + 2 → q % d ≠ 0
  | 0, d, _, h2, h3 => by omega
  | n + 1, d, h, h2, h3 => by
    simp only [noDiv, Bool.and_eq_true, decide_eq_true_eq] at h
    by_cases e : d = n + 2
    · subst e; exact h.1
    · exact noDiv_at h.2 h2 (by omega)
theorem noDivQ : noDiv 1073741789 32767 = true := by decide +kernel
theorem primeQ {d : Nat} (h : d ∣ 1073741789) (hl : d < 1073741789) : d = 1 := by
  obtain ⟨e, he⟩ := h
  by_cases d1 : d = 1
  · exact d1
  exfalso
  have d0 : d ≠ 0 := by intro h; subst h; simp at he
  have e0 : e ≠ 0 := by intro h; subst h; simp at he
  have e1 : e ≠ 1 := by intro h; subst h; simp at he; omega
  by_cases hd : d < 32769
  · exact noDiv_at noDivQ (d := d) (by omega) (by omega) (by rw [he]; exact Nat.mul_mod_right d e)
  by_cases hq : e < 32769
  · exact noDiv_at noDivQ (d := e) (by omega) (by omega) (by rw [he]; exact Nat.mul_mod_left d e)
  have : 32769 * 32769 ≤ d * e := Nat.mul_le_mul (by omega) (by omega)
  omega
theorem pm_gcd {y p : Nat} (hp : 2 ≤ p) : ∀ (a b : Nat), pm y a p = 1 → pm y b p = 1 → pm y (Nat.gcd a b) p = 1 := by
  intro a b
  induction a, b using Nat.gcd.induction with
  | H0 n => intro _ h; rw [Nat.gcd_zero_left]; exact h
  | H1 m n hm ih =>
    intro h1 h2
    rw [Nat.gcd_rec]
    exact ih (by rw [pm_red hp h1]; exact h2) h1
/-- A power of 4 that is 1 is none from 1 to q less 1. -/
theorem pm4_ne {x : Nat} (h1 : 1 ≤ x) (h2 : x < 1073741789) : pm 4 x 2147483579 ≠ 1 := by
  intro h
  have hg := pm_gcd (y := 4) (p := 2147483579) (by omega) x 1073741789 h pm4
  have hd : Nat.gcd x 1073741789 = 1 := primeQ (Nat.gcd_dvd_right _ _) (Nat.lt_of_le_of_lt (Nat.gcd_le_left _ (by omega)) h2)
  rw [hd, pm_one] at hg
  omega
theorem pm_prod (a b n p : Nat) : pm (a * b % p) n p = pm a n p * pm b n p % p := by
  unfold pm
  rw [← Nat.pow_mod, Nat.mul_pow, ← Nat.mul_mod]
/-- What a signature leads to: the power that it was made with. -/
theorem sig_back {g q p k e x : Nat} (hp : 2 ≤ p) (hg : pm g q p = 1) (he : e < q) :
    pm g ((k + e * x) % q) p * pm (pm g x p) (q - e) p % p = pm g k p := by
  rw [pm_red hp hg, pm_pm, pm_mul]
  have h1 : e * x + x * (q - e) = q * x := by
    rw [Nat.mul_comm e x, ← Nat.mul_add, show e + (q - e) = q from by omega, Nat.mul_comm]
  rw [Nat.add_assoc, h1, ← pm_mul, pm_unit hp hg, Nat.mul_one]
  exact Nat.mod_eq_of_lt (pm_lt g _ hp)
end Go.Proofs.YtjkmfjegphpjkaaGreatDoor
namespace Go.Proofs.YtjkmfjegphpjkaaGreatDoor
open Go.RowKit

/-- A product of two remainders, as the walk has it. -/
theorem prod_bd (a b : Nat) (ha : a ≤ 2147483647) (hb : b ≤ 2147483647) : ∃ p : Nat, p = a * b ∧ (a : Int) * (b : Int) = (p : Int) ∧ (0 : Int) ≤ (p : Int) ∧ (p : Int) ≤ 4611686018427387904 := by
  refine ⟨a * b, rfl, by rw [Int.natCast_mul], by omega, ?_⟩
  have : a * b ≤ 2147483647 * 2147483647 := Nat.mul_le_mul ha hb
  omega
theorem tmodN (p m : Nat) : (p : Int).tmod (m : Int) = ((p % m : Nat) : Int) := by
  rw [Int.tmod_eq_emod_of_nonneg (Int.natCast_nonneg _)]; rfl

end Go.Proofs.YtjkmfjegphpjkaaGreatDoor
namespace Go.Proofs.YtjkmfjegphpjkaaGreatDoor
open Go.RowKit

theorem i64_and1 (n : Int) : bits .and .i64 n 1 = n % 2 := by
  have h1 : (BitVec.ofInt 64 1).toNat = 2 ^ 1 - 1 := by decide
  have key : (BitVec.ofInt 64 n &&& BitVec.ofInt 64 1).toNat = (n % ((2 ^ 64 : Nat) : Int)).toNat % 2 ^ 1 := by
    rw [BitVec.toNat_and, BitVec.toNat_ofInt, h1, Nat.and_two_pow_sub_one_eq_mod]
  show IntKind.i64.wrap ((BitVec.ofInt 64 n &&& BitVec.ofInt 64 1).toNat : Nat) = n % 2
  rw [key, IntKind.wrap_i64]
  omega
/-- What 'modulo' answers: a function that keeps the modulus in block g. -/
def restV (g : Nat) : Value := .func (.func 116) #[] #[.pointer (some ⟨g, 0, none⟩)]
theorem implModulo (m : Int) (w : World) :
    Calls Tryz.prog 98 #[.int .i64 m] w fun e w' => e = .returned (restV w.heap.size) ∧ w' = w.alloc (.cells #[.int .i64 m] 2 (0, 0)) := by
  have hmf : ∀ (fn : Fn) (first cap : Array Value) (w : World), (Instr.makeFunc fn first cap).run Tryz.prog w = .ok (.func fn first cap) w := fun _ _ _ _ => rfl
  go_enter Tryz.func98, Tryz.ntmps98
  go_wp2
  go_ret
  exact ⟨rfl, rfl⟩
theorem implRest (g n m : Nat) (w : World) (hm : 2 ≤ m) (hm2 : m ≤ 2147483647) (hc : w.cell? ⟨g, 0, none⟩ = some (.int .i64 (m : Int))) :
    Calls Tryz.prog 116 #[.int .i64 (n : Int), .pointer (some ⟨g, 0, none⟩)] w fun e w' => e = .returned (.int .i64 ((n % m : Nat) : Int)) ∧ w' = w := by
  have e2 := tmodN n m
  have h0 : ((m : Int) == 0) = false := by rw [beq_eq_false_iff_ne]; omega
  go_enter Tryz.func116, Tryz.ntmps116
  go_wp2
  go_ret
  exact ⟨rfl, rfl⟩
set_option maxHeartbeats 1000000 in
set_option maxRecDepth 100000 in
theorem implProduct (g a b m : Nat) (w : World) (hm : 2 ≤ m) (hm2 : m ≤ 2147483647) (hc : w.cell? ⟨g, 0, none⟩ = some (.int .i64 (m : Int))) :
    Calls Tryz.prog 115 #[.int .i64 (a : Int), .int .i64 (b : Int), restV g] w fun e w' => e = .returned (.int .i64 ((a * b % m : Nat) : Int)) ∧ w' = w := by
  obtain ⟨p, hp, ep, lp, up⟩ := prod_bd (a % m) (b % m) (by have := Nat.mod_lt a (show 0 < m by omega); omega) (by have := Nat.mod_lt b (show 0 < m by omega); omega)
  have hfin : p % m = a * b % m := by rw [hp]; exact mm a b m
  have HF : Hid (p % m = a * b % m) := hfin
  rw [Int.natCast_emod, Int.natCast_emod] at ep
  have t1 := tmodN a m
  have t2 := tmodN b m
  have t3 := tmodN p m
  have h0 : ((m : Int) == 0) = false := by rw [beq_eq_false_iff_ne]; omega
  clear hfin hp
  unfold restV
  go_enter Tryz.func115, Tryz.ntmps115
  go_wp2
  go_ret
  exact ⟨ret_int (by rw [← HF.out]; rfl), rfl⟩
end Go.Proofs.YtjkmfjegphpjkaaGreatDoor
namespace Go.Proofs.YtjkmfjegphpjkaaGreatDoor
open Go.RowKit

/-- Is it a modulus? -/
def modB (m : Int) : Bool := decide (2 ≤ m ∧ m ≤ 2147483647)
theorem modB_nat {m : Int} (h : modB m = true) : ∃ k : Nat, m = (k : Int) ∧ 2 ≤ k ∧ k ≤ 2147483647 := by
  unfold modB at h
  have := of_decide_eq_true h
  exact ⟨m.toNat, by omega, by omega, by omega⟩
def mulA (a b m : Int) : Int := if 0 ≤ a ∧ 0 ≤ b ∧ modB m = true then ((a.toNat * b.toNat % m.toNat : Nat) : Int) else 0
def powA (a n m : Int) : Int := if 0 ≤ a ∧ 0 ≤ n ∧ modB m = true then ((pm a.toNat n.toNat m.toNat : Nat) : Int) else 0
def invA (a m : Int) : Int := if modB m = true ∧ 1 ≤ a ∧ a < m then ((pm a.toNat (m.toNat - 2) m.toNat : Nat) : Int) else 0
theorem mulA_nat (a b k : Nat) (h : modB (k : Int) = true) : mulA a b k = ((a * b % k : Nat) : Int) := by
  rw [mulA, if_pos ⟨by omega, by omega, h⟩]; simp
theorem powA_nat (a n k : Nat) (h : modB (k : Int) = true) : powA a n k = ((pm a n k : Nat) : Int) := by
  rw [powA, if_pos ⟨by omega, by omega, h⟩]; simp
theorem invA_nat (a k : Nat) (h : modB (k : Int) = true) (h1 : 1 ≤ a) (h2 : a < k) : invA a k = ((pm a (k - 2) k : Nat) : Int) := by
  rw [invA, if_pos ⟨h, by omega, by omega⟩]; simp
theorem nat_of {a : Int} (h : ¬ a < 0) : ∃ n : Nat, a = (n : Int) := ⟨a.toNat, by omega⟩

theorem implModRight (m : Int) (w : World) :
    Calls Tryz.prog 96 #[.int .i64 m] w fun e w' => e = .returned (.bool (modB m)) ∧ w' = w := by
  by_cases h1 : 2 ≤ m
  · by_cases h2 : m ≤ 2147483647
    · have e : modB m = true := decide_eq_true ⟨h1, h2⟩
      rw [e]
      go_enter Tryz.func96, Tryz.ntmps96
      go_wp2
      go_ret
      exact ⟨rfl, rfl⟩
    · have e : modB m = false := decide_eq_false (by omega)
      rw [e]
      go_enter Tryz.func96, Tryz.ntmps96
      go_wp2
      go_ret
      exact ⟨rfl, rfl⟩
  · have e : modB m = false := decide_eq_false (by omega)
    rw [e]
    go_enter Tryz.func96, Tryz.ntmps96
    go_wp2
    go_ret
    exact ⟨rfl, rfl⟩
theorem allocBelow (w : World) (o : Obj) : Below w.heap.size w (w.alloc o) := (Below.refl _ w).alloc (Nat.le_refl _) o
theorem newCell (w : World) (v : Value) (t : TypeId) : (w.alloc (.cells #[v] t (0, 0))).cell? ⟨w.heap.size, 0, none⟩ = some v := by simp
end Go.Proofs.YtjkmfjegphpjkaaGreatDoor
namespace Go.Proofs.YtjkmfjegphpjkaaGreatDoor
open Go.RowKit

set_option maxHeartbeats 1000000 in
set_option maxRecDepth 100000 in
theorem implPower (g a n m : Nat) (w : World) (hm : 2 ≤ m) (hm2 : m ≤ 2147483647) (hn : n ≤ 9223372036854775807) (hc : w.cell? ⟨g, 0, none⟩ = some (.int .i64 (m : Int))) :
    Calls Tryz.prog 97 #[.int .i64 (a : Int), .int .i64 (n : Int), restV g] w fun e w' => e = .returned (.int .i64 ((pm a n m : Nat) : Int)) ∧ w' = w := by
  have HI : Hid (PowInv a n m 1 a n) := PowInv.start a n hm
  go_enter Tryz.func97, Tryz.ntmps97
  go_wp2_with fail
  go_loopw [1, 7, 8] (fun y z x wr => ∃ (b k o : Nat), x = .int .i64 (b : Int) ∧ y = .int .i64 (k : Int) ∧ z = .int .i64 (o : Int) ∧ k ≤ 9223372036854775807 ∧ Hid (PowInv a n m o b k) ∧ wr = w)
    (fun y _ _ _ => (intOf y).toNat)
  case atStart => exact ⟨a, n, 1, rfl, rfl, rfl, hn, HI, rfl⟩
  case round =>
    clear HI
    obtain ⟨b, k, o, rfl, rfl, rfl, hk, hinv, rfl⟩ := hrel
    have HC : Hid (∀ o b : Nat, Calls Tryz.prog 115 #[.int .i64 (o : Int), .int .i64 (b : Int), restV g] wr fun e w' => e = .returned (.int .i64 ((o * b % m : Nat) : Int)) ∧ w' = wr) := fun o b => implProduct g o b m wr hm hm2 hc
    clear hc
    by_cases h : k = 0
    · subst h
      have hd := hinv.out.done
      clear hinv
      subst hd
      go_wp2
      go_ret
      exact ⟨rfl, rfl⟩
    · have q0 : (0 : Int) < (k : Int) := by omega
      have hkl : k / 2 ≤ 9223372036854775807 := by omega
      by_cases hodd : k % 2 = 1
      · have HN : Hid (PowInv a n m (o * b % m) (b * b % m) (k / 2)) := hinv.out.odd hm hodd
        have t3 : bits BinOp.and IntKind.i64 (k : Int) 1 = 1 := by rw [i64_and1]; omega
        clear hinv hodd
        go_wp2_with fail
        refine (HC.out o b).mono ?_
        rintro e w' ⟨rfl, rfl⟩
        generalize o * b % m = x at *
        go_wp2_with fail
        refine (HC.out b b).mono ?_
        rintro e w' ⟨rfl, rfl⟩
        generalize b * b % m = y at *
        go_wp2
        go_roundw
        case rel => exact ⟨y, k / 2, x, rfl, rfl, rfl, hkl, HN, trivial⟩
        case measure => simp [intOf]; omega
      · have HN : Hid (PowInv a n m o (b * b % m) (k / 2)) := hinv.out.even (by omega)
        have t3 : bits BinOp.and IntKind.i64 (k : Int) 1 = 0 := by rw [i64_and1]; omega
        clear hinv hodd
        go_wp2_with fail
        refine (HC.out b b).mono ?_
        rintro e w' ⟨rfl, rfl⟩
        generalize b * b % m = y at *
        go_wp2
        go_roundw
        case rel => exact ⟨y, k / 2, o, rfl, rfl, rfl, hkl, HN, trivial⟩
        case measure => simp [intOf]; omega
end Go.Proofs.YtjkmfjegphpjkaaGreatDoor
namespace Go.Proofs.YtjkmfjegphpjkaaGreatDoor
open Go.RowKit

set_option maxHeartbeats 1000000 in
set_option maxRecDepth 100000 in
theorem implModPow (a n m : Int) (w : World) (hn : n ≤ 9223372036854775807) :
    Calls Tryz.prog 80 #[.int .i64 a, .int .i64 n, .int .i64 m] w fun e w' => e = .returned (.int .i64 (powA a n m)) ∧ Below w.heap.size w w' := by
  by_cases h1 : a < 0
  · have ea : Hid (powA a n m = 0) := by
      show _ = _
      rw [powA, if_neg (by omega)]
    go_enter Tryz.func80, Tryz.ntmps80
    go_wp2
    go_ret
    exact ⟨ret_int ea.out.symm, Below.refl _ _⟩
  by_cases h2 : n < 0
  · have ea : Hid (powA a n m = 0) := by
      show _ = _
      rw [powA, if_neg (by omega)]
    go_enter Tryz.func80, Tryz.ntmps80
    go_wp2
    go_ret
    exact ⟨ret_int ea.out.symm, Below.refl _ _⟩
  by_cases h3 : modB m = true
  · obtain ⟨k, rfl, k1, k2⟩ := modB_nat h3
    obtain ⟨x, rfl⟩ := nat_of h1
    obtain ⟨y, rfl⟩ := nat_of h2
    rw [powA_nat x y k h3]
    clear h1 h2
    generalize hz : pm x y k = z
    go_enter Tryz.func80, Tryz.ntmps80
    go_wp2_with fail
    refine (implModRight k w).mono ?_
    rintro e w' ⟨rfl, rfl⟩
    rw [h3]
    go_wp2_with fail
    refine (implModulo k _).mono ?_
    rintro e w' ⟨rfl, rfl⟩
    go_wp2_with fail
    refine (implPower _ x y k _ k1 k2 (by omega) (newCell _ _ _)).mono ?_
    rintro e w' ⟨rfl, rfl⟩
    rw [hz]
    clear hz
    go_wp2
    go_ret
    exact ⟨rfl, allocBelow _ _⟩
  · rw [Bool.not_eq_true] at h3
    have ea : Hid (powA a n m = 0) := by
      show _ = _
      rw [powA, if_neg (by rw [h3]; simp)]
    go_enter Tryz.func80, Tryz.ntmps80
    go_wp2_with fail
    refine (implModRight m w).mono ?_
    rintro e w' ⟨rfl, rfl⟩
    rw [h3]
    go_wp2
    go_ret
    exact ⟨ret_int ea.out.symm, Below.refl _ _⟩
end Go.Proofs.YtjkmfjegphpjkaaGreatDoor
namespace Go.Proofs.YtjkmfjegphpjkaaGreatDoor
open Go.RowKit

set_option maxHeartbeats 1000000 in
set_option maxRecDepth 100000 in
theorem specPow (a n m : Nat) (w : World) (hm : 2 ≤ m) (hm2 : m ≤ 2147483647) (hn : n ≤ 9223372036854775807) :
    Calls Tryz.prog 45 #[.int .i64 (a : Int), .int .i64 (n : Int), .int .i64 (m : Int)] w fun e w' => e = .returned (.int .i64 ((pm a n m : Nat) : Int)) ∧ w' = w := by
  have e1 : (1 : Int).tmod (m : Int) = 1 := by rw [show (1 : Int) = ((1 : Nat) : Int) from rfl, tmodN, Nat.mod_eq_of_lt (by omega)]
  have e2 := tmodN a m
  have h0 : ((m : Int) == 0) = false := by rw [beq_eq_false_iff_ne]; omega
  have hlt : a % m < m := Nat.mod_lt _ (by omega)
  have HI : Hid (PowInv a n m 1 (a % m) n) := PowInv.start' a n hm
  go_enter Tryz.func45, Tryz.ntmps45
  go_wp2
  go_loopw [0, 1, 7] (fun x y z wr => ∃ (b k o : Nat), x = .int .i64 (b : Int) ∧ y = .int .i64 (k : Int) ∧ z = .int .i64 (o : Int) ∧ b < m ∧ k ≤ 9223372036854775807 ∧ o < m ∧ Hid (PowInv a n m o b k) ∧ wr = w)
    (fun _ y _ _ => (intOf y).toNat)
  case atStart => exact ⟨a % m, n, 1, rfl, rfl, rfl, hlt, hn, by omega, HI, rfl⟩
  case round =>
    clear HI e1 e2 hlt
    obtain ⟨b, k, o, rfl, rfl, rfl, hb, hk, ho, hinv, rfl⟩ := hrel
    by_cases h : k = 0
    · subst h
      have hd := hinv.out.done
      clear hinv
      subst hd
      go_wp2
      go_ret
      exact ⟨rfl, rfl⟩
    · have q0 : (0 : Int) < (k : Int) := by omega
      obtain ⟨p1, hp1, ep1, lp1, up1⟩ := prod_bd o b (by omega) (by omega)
      obtain ⟨p2, hp2, ep2, lp2, up2⟩ := prod_bd b b (by omega) (by omega)
      have m1 : p1 % m < m := Nat.mod_lt _ (by omega)
      have m2 : p2 % m < m := Nat.mod_lt _ (by omega)
      have t1 := tmodN p1 m
      have t2 := tmodN p2 m
      have hkl : k / 2 ≤ 9223372036854775807 := by omega
      by_cases hodd : k % 2 = 1
      · have HN : Hid (PowInv a n m (p1 % m) (p2 % m) (k / 2)) := by rw [hp1, hp2]; exact hinv.out.odd hm hodd
        have t3 : ((k : Int).tmod 2) = 1 := by rw [show (2 : Int) = ((2 : Nat) : Int) from rfl, tmodN, hodd]; rfl
        clear hinv hp1 hp2 hodd
        go_wp2
        go_roundw
        case rel => exact ⟨p2 % m, k / 2, p1 % m, rfl, rfl, rfl, m2, hkl, m1, HN, trivial⟩
        case measure => simp [intOf]; omega
      · have HN : Hid (PowInv a n m o (p2 % m) (k / 2)) := by rw [hp2]; exact hinv.out.even (by omega)
        have t3 : ((k : Int).tmod 2) = 0 := by rw [show (2 : Int) = ((2 : Nat) : Int) from rfl, tmodN, show k % 2 = 0 from by omega]; rfl
        clear hinv hp1 hp2 hodd t1 m1 up1 lp1 ep1
        go_wp2
        go_roundw
        case rel => exact ⟨p2 % m, k / 2, o, rfl, rfl, rfl, m2, hkl, ho, HN, trivial⟩
        case measure => simp [intOf]; omega
end Go.Proofs.YtjkmfjegphpjkaaGreatDoor
namespace Go.Proofs.YtjkmfjegphpjkaaGreatDoor
open Go.RowKit

def unitB (y : Int) : Bool := decide (1 ≤ y ∧ y < 2147483579)
def rightG (y : Int) : Bool := decide (1 < y ∧ y < 2147483579 ∧ pm y.toNat 1073741789 2147483579 = 1)
theorem modP : modB (2147483579 : Int) = true := rfl
theorem rightG_pos {x : Nat} (h1 : 1 < x) (h2 : x < 2147483579) (h3 : pm x 1073741789 2147483579 = 1) : rightG (x : Int) = true := by
  unfold rightG
  exact decide_eq_true ⟨by omega, by omega, by rw [Int.toNat_natCast]; exact h3⟩
theorem rightG_neg {x : Nat} (h3 : ¬ pm x 1073741789 2147483579 = 1) : rightG (x : Int) = false := by
  unfold rightG
  exact decide_eq_false fun h => h3 (by have := h.2.2; rw [Int.toNat_natCast] at this; exact this)
theorem rightG_out {y : Int} (h : ¬ (1 < y ∧ y < 2147483579)) : rightG y = false := by
  unfold rightG
  exact decide_eq_false fun h' => h ⟨h'.1, h'.2.1⟩
theorem rightG_nat {y : Int} (h : rightG y = true) : ∃ x : Nat, y = (x : Int) ∧ 1 < x ∧ x < 2147483579 ∧ pm x 1073741789 2147483579 = 1 := by
  unfold rightG at h
  have h' := of_decide_eq_true h
  exact ⟨y.toNat, by omega, by omega, by omega, h'.2.2⟩
theorem implUnit (y : Int) (w : World) :
    Calls Tryz.prog 79 #[.int .i64 y] w fun e w' => e = .returned (.bool (unitB y)) ∧ w' = w := by
  by_cases h1 : 1 ≤ y
  · by_cases h2 : y < 2147483579
    · have e : unitB y = true := decide_eq_true ⟨h1, h2⟩
      rw [e]
      go_enter Tryz.func79, Tryz.ntmps79
      go_wp2
      go_ret
      exact ⟨rfl, rfl⟩
    · have e : unitB y = false := decide_eq_false (by omega)
      rw [e]
      go_enter Tryz.func79, Tryz.ntmps79
      go_wp2
      go_ret
      exact ⟨rfl, rfl⟩
  · have e : unitB y = false := decide_eq_false (by omega)
    rw [e]
    go_enter Tryz.func79, Tryz.ntmps79
    go_wp2
    go_ret
    exact ⟨rfl, rfl⟩
set_option maxHeartbeats 1000000 in
set_option maxRecDepth 100000 in
theorem implGroupRight (y : Int) (w : World) :
    Calls Tryz.prog 55 #[.int .i64 y] w fun e w' => e = .returned (.bool (rightG y)) ∧ Below w.heap.size w w' := by
  by_cases h1 : unitB y = true
  · have h1' : 1 ≤ y ∧ y < 2147483579 := of_decide_eq_true h1
    by_cases h2 : y = 1
    · subst h2
      rw [rightG_out (by omega)]
      go_enter Tryz.func55, Tryz.ntmps55
      go_wp2_with fail
      refine (implUnit 1 w).mono ?_
      rintro e w' ⟨rfl, rfl⟩
      rw [h1]
      go_wp2
      go_ret
      exact ⟨rfl, Below.refl _ _⟩
    · obtain ⟨x, rfl⟩ := nat_of (show ¬ y < 0 by omega)
      have hne : ((x : Int) != 1) = true := by rw [bne_iff_ne]; exact h2
      have hp := powA_nat x 1073741789 2147483579 modP
      have HC : Hid (∀ v : World, Calls Tryz.prog 80 #[.int .i64 (x : Int), .int .i64 1073741789, .int .i64 2147483579] v fun e w' => e = .returned (.int .i64 ((pm x 1073741789 2147483579 : Nat) : Int)) ∧ Below v.heap.size v w') := fun v => by
        rw [← hp]
        exact implModPow x 1073741789 2147483579 v (by omega)
      clear hp
      have hrt := rightG_pos (x := x) (by omega) (by omega)
      have hrf := rightG_neg (x := x)
      generalize pm x 1073741789 2147483579 = z at *
      by_cases hz : z = 1
      · subst hz
        rw [hrt rfl]
        clear hrt hrf
        go_enter Tryz.func55, Tryz.ntmps55
        go_wp2_with fail
        refine (implUnit x w).mono ?_
        rintro e w' ⟨rfl, rfl⟩
        rw [h1]
        go_wp2_with fail
        refine (HC.out _).mono ?_
        rintro e w2 ⟨rfl, hb⟩
        have HB : Hid _ := hb
        clear hb
        go_wp2
        go_ret
        exact ⟨rfl, HB.out⟩
      · rw [hrf hz]
        clear hrt hrf
        have hz' : ((z : Int) == 1) = false := by rw [beq_eq_false_iff_ne]; omega
        go_enter Tryz.func55, Tryz.ntmps55
        go_wp2_with fail
        refine (implUnit x w).mono ?_
        rintro e w' ⟨rfl, rfl⟩
        rw [h1]
        go_wp2_with fail
        refine (HC.out _).mono ?_
        rintro e w2 ⟨rfl, hb⟩
        have HB : Hid _ := hb
        clear hb
        go_wp2
        go_ret
        exact ⟨rfl, HB.out⟩
  · rw [Bool.not_eq_true] at h1
    have h1' : ¬ (1 ≤ y ∧ y < 2147483579) := of_decide_eq_false h1
    rw [rightG_out (by omega)]
    go_enter Tryz.func55, Tryz.ntmps55
    go_wp2_with fail
    refine (implUnit y w).mono ?_
    rintro e w' ⟨rfl, rfl⟩
    rw [h1]
    go_wp2
    go_ret
    exact ⟨rfl, Below.refl _ _⟩
end Go.Proofs.YtjkmfjegphpjkaaGreatDoor
namespace Go.Proofs.YtjkmfjegphpjkaaGreatDoor
open Go.RowKit

def gmulA (a b : Int) : Int := if unitB a = true ∧ unitB b = true then ((a.toNat * b.toNat % 2147483579 : Nat) : Int) else 0
def gpowA (y n : Int) : Int := if unitB y = true ∧ 0 ≤ n then ((pm y.toNat (n.toNat % 1073741789) 2147483579 : Nat) : Int) else 0
theorem unitB_nat {y : Int} (h : unitB y = true) : ∃ x : Nat, y = (x : Int) ∧ 1 ≤ x ∧ x < 2147483579 := by
  have h' : 1 ≤ y ∧ y < 2147483579 := of_decide_eq_true h
  exact ⟨y.toNat, by omega, by omega, by omega⟩
theorem unitB_mk {x : Nat} (h1 : 1 ≤ x) (h2 : x < 2147483579) : unitB (x : Int) = true := decide_eq_true ⟨by omega, by omega⟩
theorem gmulA_nat (a b : Nat) (ha : unitB (a : Int) = true) (hb : unitB (b : Int) = true) : gmulA a b = ((a * b % 2147483579 : Nat) : Int) := by
  rw [gmulA, if_pos ⟨ha, hb⟩, Int.toNat_natCast, Int.toNat_natCast]
theorem gpowA_nat (y n : Nat) (hy : unitB (y : Int) = true) : gpowA y n = ((pm y (n % 1073741789) 2147483579 : Nat) : Int) := by
  rw [gpowA, if_pos ⟨hy, by omega⟩, Int.toNat_natCast, Int.toNat_natCast]
end Go.Proofs.YtjkmfjegphpjkaaGreatDoor
namespace Go.Proofs.YtjkmfjegphpjkaaGreatDoor
open Go.RowKit

theorem secB_nat {x : Int} (h : secB x = true) : ∃ n : Nat, x = (n : Int) ∧ 1 ≤ n ∧ n < 1073741789 := by
  have h' : 1 ≤ x ∧ x < 1073741789 := of_decide_eq_true h
  exact ⟨x.toNat, by omega, by omega, by omega⟩
def pubA (x : Int) : Int := if secB x = true then ((pm 4 x.toNat 2147483579 : Nat) : Int) else 0
theorem pubA_nat (x : Nat) (h : secB (x : Int) = true) : pubA x = ((pm 4 x 2147483579 : Nat) : Int) := by rw [pubA, if_pos h, Int.toNat_natCast]
/-- A Sig as a value. -/
def sigV (k e s : Int) : Value := .agg #[.int .i64 k, .int .i64 e, .int .i64 s]
def remB (n : Int) : Bool := decide (0 ≤ n ∧ n < 1073741789)
def sigRB (k e s : Int) : Bool := rightG k && remB e && remB s
theorem unit4 : unitB 4 = true := rfl
theorem unit_of {x : Nat} (hx : x < 2147483579) (h : pm x 1073741789 2147483579 = 1) : unitB (x : Int) = true := by
  have := pm_pos (by omega) h
  rw [Nat.mod_eq_of_lt hx] at this
  exact unitB_mk this hx
theorem unit_pow {y : Nat} (h : pm y 1073741789 2147483579 = 1) (n : Nat) : unitB ((pm y n 2147483579 : Nat) : Int) = true :=
  unit_of (pm_lt y n (by omega)) (pm_in (by omega) h n)
theorem gpow_in {y : Nat} (hy : y < 2147483579) (h : pm y 1073741789 2147483579 = 1) (n : Nat) : gpowA y n = ((pm y n 2147483579 : Nat) : Int) := by
  rw [gpowA_nat y n (unit_of hy h), pm_red (by omega) h]
theorem pub_right {x : Nat} (h1 : 1 ≤ x) (h2 : x < 1073741789) : rightG ((pm 4 x 2147483579 : Nat) : Int) = true := by
  have hu := unitB_nat (unit_pow pm4 x)
  obtain ⟨z, hz, z1, z2⟩ := hu
  have hne := pm4_ne h1 h2
  exact rightG_pos (by omega) (by omega) (pm_in (by omega) pm4 x)
end Go.Proofs.YtjkmfjegphpjkaaGreatDoor
namespace Go.Proofs.YtjkmfjegphpjkaaGreatDoor
open Go.RowKit

structure Paper where
  serial : Int
  issuer : ByteArray
  subject : ByteArray
  fr : Int
  till : Int
  key : Int
  names : List ByteArray
  ca : Bool
  sk : Int
  se : Int
  ss : Int
/-- Its cells, the names behind the value v. -/
def Paper.cells (c : Paper) (v : Value) : List Value := [.int .i64 c.serial, .string c.issuer, .string c.subject, .int .i64 c.fr, .int .i64 c.till, .int .i64 c.key, v, .bool c.ca, .int .i64 c.sk, .int .i64 c.se, .int .i64 c.ss]
def Paper.val (c : Paper) (v : Value) : Value := .agg #[.int .i64 c.serial, .string c.issuer, .string c.subject, .int .i64 c.fr, .int .i64 c.till, .int .i64 c.key, v, .bool c.ca, .int .i64 c.sk, .int .i64 c.se, .int .i64 c.ss]
open Classical in
/-- Is it a name? -/
noncomputable def nameB (s : ByteArray) : Bool := decide (NameOk s)
theorem ans_name {s : ByteArray} {e : Ending} (h : AnsB (NameOk s) e) : e = .returned (.bool (nameB s)) := by
  obtain ⟨r, rfl, hr⟩ := h
  have : r = nameB s := by rw [Bool.eq_iff_iff, hr]; simp [nameB]
  rw [this]
def serB (n : Int) : Bool := decide (1 ≤ n) && decide (n ≤ 1000000000)
def timeB (n : Int) : Bool := decide (0 ≤ n) && decide (n ≤ 1000000000)
/-- Name number i, behind the one ahead of it. -/
noncomputable def okN (ss : List ByteArray) (i : Nat) : Bool := nameB (tAt ss i) && (decide (i = 0) || Op.bytesLess (tAt ss (i - 1)).toList (tAt ss i).toList)
noncomputable def okTo (ss : List ByteArray) : Nat → Bool
  | 0 => true
  | k + 1 => okTo ss k && okN ss k
theorem okTo_no {ss : List ByteArray} {k : Nat} (h : okN ss k = false) : ∀ {n : Nat}, k < n → okTo ss n = false := by
  intro n
  induction n with
  | zero => intro h'; omega
  | succ n ih =>
    intro h'
    show (okTo ss n && okN ss n) = false
    by_cases e : k = n
    · subst e; rw [h]; simp
    · rw [ih (by omega)]; rfl
theorem okTo_yes {ss : List ByteArray} {k : Nat} (h : okTo ss k = true) (h' : okN ss k = true) : okTo ss (k + 1) = true := by show (okTo ss k && okN ss k) = true; rw [h, h']; rfl
noncomputable def namesB (ss : List ByteArray) : Bool := okTo ss ss.length && decide (ss.length ≤ 5)
noncomputable def paperB (c : Paper) : Bool :=
  decide (1 ≤ c.serial) && decide (c.serial ≤ 1000000000) && nameB c.issuer && nameB c.subject && timeB c.fr && timeB c.till && decide (c.fr ≤ c.till) && rightG c.key && namesB c.names
noncomputable def certB (c : Paper) : Bool := paperB c && sigRB c.sk c.se c.ss
theorem okN_zero {ss : List ByteArray} (h : nameB (tAt ss 0) = true) : okN ss 0 = true := by simp [okN, h]
theorem okN_not {ss : List ByteArray} {k : Nat} (h : nameB (tAt ss k) = false) : okN ss k = false := by simp [okN, h]
theorem okN_more {ss : List ByteArray} {k : Nat} (hk : 0 < k) (h : nameB (tAt ss k) = true) : okN ss k = Op.bytesLess (tAt ss (k - 1)).toList (tAt ss k).toList := by simp [okN, h, Nat.ne_of_gt hk]
end Go.Proofs.YtjkmfjegphpjkaaGreatDoor
namespace Go.Proofs.YtjkmfjegphpjkaaGreatDoor
open Go.RowKit

abbrev U := BitVec 32
/-- A word as the program holds it. -/
def uI (x : U) : Int := (x.toNat : Int)
theorem uI_nonneg (x : U) : 0 ≤ uI x := Int.natCast_nonneg _
theorem uI_lt (x : U) : uI x < 4294967296 := by unfold uI; have := x.isLt; omega
theorem uI_le (x : U) : uI x ≤ 4294967295 := by have := uI_lt x; omega
theorem uI_inj {x y : U} (h : uI x = uI y) : x = y := by
  unfold uI at h
  exact BitVec.eq_of_toNat_eq (by omega)
theorem uI_xor (x y : U) : bits .xor .u32 (uI x) (uI y) = uI (x ^^^ y) := by
  unfold uI; rw [u32_xor_nat _ _ x.isLt y.isLt, BitVec.toNat_xor]
theorem uI_or (x y : U) : bits .or .u32 (uI x) (uI y) = uI (x ||| y) := by
  unfold uI; rw [u32_or_nat _ _ x.isLt y.isLt, BitVec.toNat_or]
theorem uI_and (x y : U) : bits .and .u32 (uI x) (uI y) = uI (x &&& y) := by
  unfold uI; rw [u32_and_nat _ _ x.isLt y.isLt, BitVec.toNat_and]
theorem uI_not (x : U) : bits .xor .u32 4294967295 (uI x) = uI (~~~ x) := by
  have h := uI_xor (BitVec.allOnes 32) x
  have e : uI (BitVec.allOnes 32) = 4294967295 := by decide
  rw [e] at h
  rw [h, BitVec.xor_comm, BitVec.xor_allOnes]
theorem uI_not' (x : U) : bits .xor .u32 (if IntKind.u32.signed = true then -1 else IntKind.u32.max) (uI x) = uI (~~~ x) := uI_not x
theorem uI_add (x y : U) : IntKind.u32.wrap (uI x + uI y) = uI (x + y) := by
  unfold uI
  rw [IntKind.wrap_u32, BitVec.toNat_add]
  omega
theorem uI_shr (x : U) (k : Nat) : uI x / 2 ^ k = uI (x >>> k) := by
  unfold uI
  rw [BitVec.toNat_ushiftRight, Nat.shiftRight_eq_div_pow]
  simp
theorem uI_shl (x : U) (k : Nat) : IntKind.u32.wrap (uI x * 2 ^ k) = uI (x <<< k) := by
  unfold uI
  rw [IntKind.wrap_u32, BitVec.toNat_shiftLeft, Nat.shiftLeft_eq]
  have : ((x.toNat : Int) * 2 ^ k) = ((x.toNat * 2 ^ k : Nat) : Int) := by simp
  rw [this]
  omega
theorem uI_add' (x y : U) : (uI x + uI y) % 4294967296 = uI (x + y) := by rw [← uI_add, IntKind.wrap_u32]
theorem uI_shl' (x : U) (k : Nat) : uI x * 2 ^ k % 4294967296 = uI (x <<< k) := by rw [← uI_shl, IntKind.wrap_u32]
/-- A byte as a word. -/
def bU (c : UInt8) : U := BitVec.ofNat 32 c.toNat
theorem uI_bU (c : UInt8) : uI (bU c) = (c.toNat : Int) := by
  unfold uI bU
  have := c.toNat_lt
  rw [BitVec.toNat_ofNat]
  omega
theorem bU_uI (c : UInt8) : (c.toNat : Int) = uI (bU c) := (uI_bU c).symm
theorem uI_wrap (x : U) : IntKind.u32.wrap (uI x) = uI x := by
  rw [IntKind.wrap_u32]; exact Int.emod_eq_of_lt (uI_nonneg x) (uI_lt x)
theorem uI_mod (x : U) : uI x % 4294967296 = uI x := Int.emod_eq_of_lt (uI_nonneg x) (uI_lt x)
theorem uI_shl24 (x : U) : uI x * (16777216 : Int) % (4294967296 : Int) = uI (x <<< (24 : Nat)) := uI_shl' x 24
theorem uI_shl16 (x : U) : uI x * (65536 : Int) % (4294967296 : Int) = uI (x <<< (16 : Nat)) := uI_shl' x 16
theorem uI_shl8 (x : U) : uI x * (256 : Int) % (4294967296 : Int) = uI (x <<< (8 : Nat)) := uI_shl' x 8
theorem uI_shr3 (x : U) : uI x / (8 : Int) = uI (x >>> (3 : Nat)) := uI_shr x 3
theorem uI_shr10 (x : U) : uI x / (1024 : Int) = uI (x >>> (10 : Nat)) := uI_shr x 10
def rotr (x : U) (k : Nat) : U := x >>> k ||| x <<< (32 - k)
def sg0 (x : U) : U := rotr x 7 ^^^ rotr x 18 ^^^ x >>> 3
def sg1 (x : U) : U := rotr x 17 ^^^ rotr x 19 ^^^ x >>> 10
def bS0 (x : U) : U := rotr x 2 ^^^ rotr x 13 ^^^ rotr x 22
def bS1 (x : U) : U := rotr x 6 ^^^ rotr x 11 ^^^ rotr x 25
def chF (e f g : U) : U := e &&& f ^^^ ~~~ e &&& g
def majF (a b c : U) : U := a &&& b ^^^ a &&& c ^^^ b &&& c
/-- The words of a block, the first 16 being M's. -/
def wAt (M : Nat → U) (i : Nat) : U :=
  if _h : i < 16 then M i else wAt M (i - 16) + sg0 (wAt M (i - 15)) + wAt M (i - 7) + sg1 (wAt M (i - 2))
termination_by i
theorem wAt_low (M : Nat → U) {i : Nat} (h : i < 16) : wAt M i = M i := by rw [wAt]; simp [h]
theorem wAt_high (M : Nat → U) {i : Nat} (h : 16 ≤ i) : wAt M i = wAt M (i - 16) + sg0 (wAt M (i - 15)) + wAt M (i - 7) + sg1 (wAt M (i - 2)) := by
  rw [wAt]; simp [show ¬ i < 16 by omega]
structure St where
  (a b c d e f g h : U)
def St.row (s : St) : List U := [s.a, s.b, s.c, s.d, s.e, s.f, s.g, s.h]
def rnd (s : St) (kw : U) : St :=
  ⟨s.h + bS1 s.e + chF s.e s.f s.g + kw + (bS0 s.a + majF s.a s.b s.c), s.a, s.b, s.c, s.d + (s.h + bS1 s.e + chF s.e s.f s.g + kw), s.e, s.f, s.g⟩
def keyL : List Nat := [0x428a2f98, 0x71374491, 0xb5c0fbcf, 0xe9b5dba5, 0x3956c25b, 0x59f111f1, 0x923f82a4, 0xab1c5ed5,
    0xd807aa98, 0x12835b01, 0x243185be, 0x550c7dc3, 0x72be5d74, 0x80deb1fe, 0x9bdc06a7, 0xc19bf174,
    0xe49b69c1, 0xefbe4786, 0x0fc19dc6, 0x240ca1cc, 0x2de92c6f, 0x4a7484aa, 0x5cb0a9dc, 0x76f988da,
    0x983e5152, 0xa831c66d, 0xb00327c8, 0xbf597fc7, 0xc6e00bf3, 0xd5a79147, 0x06ca6351, 0x14292967,
    0x27b70a85, 0x2e1b2138, 0x4d2c6dfc, 0x53380d13, 0x650a7354, 0x766a0abb, 0x81c2c92e, 0x92722c85,
    0xa2bfe8a1, 0xa81a664b, 0xc24b8b70, 0xc76c51a3, 0xd192e819, 0xd6990624, 0xf40e3585, 0x106aa070,
    0x19a4c116, 0x1e376c08, 0x2748774c, 0x34b0bcb5, 0x391c0cb3, 0x4ed8aa4a, 0x5b9cca4f, 0x682e6ff3,
    0x748f82ee, 0x78a5636f, 0x84c87814, 0x8cc70208, 0x90befffa, 0xa4506ceb, 0xbef9a3f7, 0xc67178f2]
def kAt (i : Nat) : U := BitVec.ofNat 32 (keyL.getD i 0)
def rnds (s : St) (M : Nat → U) : Nat → St
  | 0 => s
  | n + 1 => rnd (rnds s M n) (kAt n + wAt M n)
def St.add (s t : St) : St := ⟨s.a + t.a, s.b + t.b, s.c + t.c, s.d + t.d, s.e + t.e, s.f + t.f, s.g + t.g, s.h + t.h⟩
/-- A block, taken into a state. -/
def blk (s : St) (M : Nat → U) : St := s.add (rnds s M 64)
/-- The byte of a text at a place. -/
def byteAt (t : ByteArray) (i : Nat) : UInt8 := t.data.toList.getD i 0
theorem byteAt_get (t : ByteArray) (i : Nat) (h : i < t.size) : byteAt t i = t[i] := by
  unfold byteAt
  rw [List.getD, List.getElem?_eq_getElem (by simpa using h)]
  rfl
/-- The 16 words of a text's block that begins at o. -/
def wordAt (t : ByteArray) (o i : Nat) : U :=
  bU (byteAt t (o + 4 * i)) <<< 24 ||| bU (byteAt t (o + 4 * i + 1)) <<< 16 ||| bU (byteAt t (o + 4 * i + 2)) <<< 8 ||| bU (byteAt t (o + 4 * i + 3))
/-- The first n blocks of a text, taken into a state. -/
def blks (s : St) (t : ByteArray) : Nat → St
  | 0 => s
  | n + 1 => blk (blks s t n) (wordAt t (64 * n))
def st0 : St := ⟨0x6a09e667, 0xbb67ae85, 0x3c6ef372, 0xa54ff53a, 0x510e527f, 0x9b05688c, 0x1f83d9ab, 0x5be0cd19⟩
end Go.Proofs.YtjkmfjegphpjkaaGreatDoor
