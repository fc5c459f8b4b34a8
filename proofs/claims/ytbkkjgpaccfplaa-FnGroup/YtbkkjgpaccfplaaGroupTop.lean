/- FnGroup: products and powers modulo a drawn modulus go together; a number of the group times its inverse is 1; powers of the group add up; their products are of the group, or 1. No condition. -/
import Derived.Test.YtbkkjgpaccfplaaDrawGrp
import Derived.Test.YtbkkjgpaccfplaaGrpHI
import Derived.Test.YtbkkjgpaccfplaaGrpMulS
import Derived.Test.YtbkkjgpaccfplaaGrpInvI
import Derived.Test.YtbkkjgpaccfplaaIsRow
import Derived.Test.YtbkkjgpaccfplaaSrcE
import Derived.ProofKit
import Derived.OpenShut
import Derived.ShutString
import Derived.ChangeOld
import Derived.Below
namespace Go.Proofs.Ytbkkjgpaccfplaa
open Go.RowKit

theorem mulA_comm (a b m : Int) : mulA b a m = mulA a b m := by
  unfold mulA
  rw [Nat.mul_comm]
  by_cases h : 0 ≤ a ∧ 0 ≤ b ∧ modB m = true
  · rw [if_pos h, if_pos ⟨h.2.1, h.1, h.2.2⟩]
  · rw [if_neg h, if_neg (fun h' => h ⟨h'.2.1, h'.1, h'.2.2⟩)]
theorem powA_two (a m : Int) : powA a 2 m = mulA a a m := by
  unfold mulA powA
  by_cases h : 0 ≤ a ∧ modB m = true
  · rw [if_pos ⟨h.1, by omega, h.2⟩, if_pos ⟨h.1, h.1, h.2⟩, show (2 : Int).toNat = 2 from rfl, pm_two]
  · rw [if_neg (fun h' => h ⟨h'.1, h'.2.2⟩), if_neg (fun h' => h ⟨h'.1, h'.2.2⟩)]
/-- The inverse of a number of the group, by its powers: with p = 2q + 1. -/
theorem inv_pow {x q p : Nat} (hq : 1 ≤ q) (hp : p = 2 * q + 1) (h : pm x q p = 1) : pm x (p - 2) p = pm x (q - 1) p := by
  have hp2 : 2 ≤ p := by omega
  rw [show p - 2 = q * 1 + (q - 1) from by omega, ← pm_mul, pm_unit hp2 h, Nat.one_mul]
  exact Nat.mod_eq_of_lt (pm_lt x _ hp2)
theorem inv_mul {x q p : Nat} (hq : 1 ≤ q) (h : pm x q p = 1) (hx : x < p) : x * pm x (q - 1) p % p = 1 := by
  have e : pm x 1 p * pm x (q - 1) p % p = pm x (1 + (q - 1)) p := pm_mul _ _ _ _
  rw [pm_one, Nat.mod_eq_of_lt hx, show 1 + (q - 1) = q from by omega, h] at e
  exact e

theorem lwAt_any (a : Option Addr) (len cap : Nat) (w : World) (hlen : len ≤ 1048576) (hc : CodeAt a len w) :
    Calls Try.prog 18 #[.slice a len cap, .int .i64 0, .int .i64 256] w fun e w' => (∃ k : Nat, k < 256 ∧ e = .returned (.int .i64 (k : Int))) ∧ Below w.heap.size w w' := by
  by_cases h0 : len = 0
  · subst h0
    go_enter Try.func18, Try.ntmps18
    go_wp2
    go_ret
    exact ⟨⟨0, by omega, rfl⟩, Below.refl _ _⟩
  · obtain ⟨b, off, rfl, hcell⟩ : ∃ b off, a = some ⟨b, off, none⟩ ∧ ∀ i, i < len → ∃ z : Nat, z ≤ 255 ∧ w.cell? ⟨b, off + i, none⟩ = some (.int .u8 z) := by
      rcases hc with h | h
      · omega
      · exact h
    obtain ⟨y, hy, hyc⟩ := hcell 0 (by omega)
    rw [Nat.add_zero] at hyc
    have q1 : ((len : Int) == 0) = false := by rw [beq_eq_false_iff_ne]; omega
    have q2 : (0 : Int).tmod (len : Int) = 0 := by simp
    have q3 : (0 : Int) < (len : Int) := by omega
    have q4 : (y : Int).tmod 256 = (y : Int) := by rw [Int.tmod_eq_emod_of_nonneg (by omega)]; omega
    clear hcell hc
    go_enter Try.func18, Try.ntmps18
    go_wp2
    go_ret
    exact ⟨⟨y, by omega, rfl⟩, Below.refl _ _⟩
/-- Powers of a number of the group, as they are answered. -/
theorem unit_pm {x : Nat} (h : pm x 1073741789 2147483579 = 1) (n : Nat) : unitB ((pm x n 2147483579 : Nat) : Int) = true := by
  have h1 := pm_in (by omega) h n
  have h2 := pm_pos (by omega) h1
  have h3 := pm_lt x n (m := 2147483579) (by omega)
  rw [Nat.mod_eq_of_lt h3] at h2
  exact unitB_mk h2 h3
theorem gp {x : Nat} (hx : unitB (x : Int) = true) (h : pm x 1073741789 2147483579 = 1) (n : Nat) : gpowA x n = ((pm x n 2147483579 : Nat) : Int) := by
  rw [gpowA_nat x n hx, pm_red (by omega) h]
theorem gm {x : Nat} (h : pm x 1073741789 2147483579 = 1) (a b : Nat) : gmulA ((pm x a 2147483579 : Nat) : Int) ((pm x b 2147483579 : Nat) : Int) = ((pm x (a + b) 2147483579 : Nat) : Int) := by
  rw [gmulA_nat _ _ (unit_pm h a) (unit_pm h b), pm_mul]
set_option maxHeartbeats 4000000 in
set_option maxRecDepth 100000 in
theorem groupTop (w : World) (a0 : Option Addr) (len0 cap0 : Nat) (z0 : List Int) (w0 : IsRow .u8 w a0 len0 cap0 z0) (a1 : Option Addr) (len1 cap1 : Nat) (z1 : List Int) (w1' : IsRow .u8 w a1 len1 cap1 z1) :
    Calls Try.prog 4 #[.slice a0 len0 cap0, .slice a1 len1 cap1] w fun e w' => e = .returned (.bool true) ∧ Below w.heap.size w w' := by
  have hl0 := w0.len_le
  have hl1 := w1'.len_le
  unfold maxLen at hl0 hl1
  obtain ⟨hc0, hk0⟩ := w0.code
  obtain ⟨hc1, hk1⟩ := w1'.code
  clear w0 w1'
  by_cases h0 : 1048576 < len0
  · clear hc0 hk0 hc1 hk1
    go_enter Try.func4, Try.ntmps4
    go_wp2
    go_ret
    exact ⟨rfl, Below.refl _ _⟩
  by_cases h1 : 1048576 < len1
  · clear hc0 hk0 hc1 hk1
    go_enter Try.func4, Try.ntmps4
    go_wp2
    go_ret
    exact ⟨rfl, Below.refl _ _⟩
  have C0 : Hid (CodeAt a0 len0 w) := hc0
  have K0 : Hid (∀ x, 0 < len0 → a0 = some x → x.block < w.heap.size) := hk0
  have C1 : Hid (CodeAt a1 len1 w) := hc1
  have K1 : Hid (∀ x, 0 < len1 → a1 = some x → x.block < w.heap.size) := hk1
  clear hc0 hk0 hc1 hk1
  go_enter Try.func4, Try.ntmps4
  go_wp2_with fail
  refine (drawModMul a0 len0 cap0 _ (by omega) C0.out K0.out).mono ?_
  rintro e w1 ⟨⟨a, b, m, ⟨ha, hb, hm⟩, rfl⟩, hb1⟩
  have B1 : Hid (Below w.heap.size w w1) := hb1
  have s1 := hb1.size
  clear hb1
  go_wp2_with fail
  refine (implModMul a b m _).mono ?_
  rintro e w2 ⟨rfl, hb2⟩
  have B2 : Hid (Below w.heap.size w w2) := B1.out.trans (hb2.mono s1)
  have s2 := B2.out.size
  clear hb2
  have c1 := mulA_comm a b m
  have c2 := powA_two a m
  generalize hp : mulA a b m = p at *
  generalize hq : mulA a a m = q at *
  go_wp2_with fail
  refine (specModMul a b m _).mono ?_
  rintro e w3 ⟨rfl, hb3⟩
  rw [hp]
  have B3 : Hid (Below w.heap.size w w3) := B2.out.trans (hb3.mono s2)
  have s3 := B3.out.size
  clear hb3
  go_wp2_with fail
  refine (implModMul b a m _).mono ?_
  rintro e w4 ⟨rfl, hb4⟩
  rw [c1]
  have B4 : Hid (Below w.heap.size w w4) := B3.out.trans (hb4.mono s3)
  have s4 := B4.out.size
  clear hb4
  go_wp2_with fail
  refine (implModPow a 2 m _ (by omega)).mono ?_
  rintro e w5 ⟨rfl, hb5⟩
  rw [c2]
  have B5 : Hid (Below w.heap.size w w5) := B4.out.trans (hb5.mono s4)
  have s5 := B5.out.size
  clear hb5
  go_wp2_with fail
  refine (implModMul a a m _).mono ?_
  rintro e w6 ⟨rfl, hb6⟩
  rw [hq]
  have B6 : Hid (Below w.heap.size w w6) := B5.out.trans (hb6.mono s5)
  have s6 := B6.out.size
  have C1' : Hid (CodeAt a1 len1 w6) := C1.out.below B6.out K1.out
  have K1' : Hid (∀ x, 0 < len1 → a1 = some x → x.block < w6.heap.size) := fun x h0 hx => by have := K1.out x h0 hx; omega
  clear hb6 c1 c2 hp hq
  go_wp2_with fail
  refine (drawGroupPow a1 len1 cap1 _ (by omega) C1'.out K1'.out).mono ?_
  rintro e w7 ⟨⟨y, n, ⟨hy, hn⟩, rfl⟩, hb7⟩
  have B7 : Hid (Below w.heap.size w w7) := B6.out.trans (hb7.mono s6)
  have s7 := B7.out.size
  clear hb7
  go_wp2_with fail
  refine (specGroupRight y _).mono ?_
  rintro e w8 ⟨rfl, rfl⟩
  by_cases hr : rightG y = true
  · rw [hr]
    obtain ⟨x, rfl, x1, x2, x3⟩ := rightG_nat hr
    have hux := unitB_mk (x := x) (by omega) x2
    have ei : invA (x : Int) 2147483579 = ((pm x 1073741788 2147483579 : Nat) : Int) := by
      rw [show (2147483579 : Int) = ((2147483579 : Nat) : Int) from rfl, invA_nat x 2147483579 modP (by omega) x2]
      exact congrArg _ (inv_pow (q := 1073741789) (by omega) rfl x3)
    go_wp2_with fail
    refine (implModInv x 2147483579 _).mono ?_
    rintro e w9 ⟨rfl, hb9⟩
    rw [ei]
    have B9 : Hid (Below w.heap.size w w9) := B7.out.trans (hb9.mono s7)
    have s9 := B9.out.size
    have C0' : Hid (CodeAt a0 len0 w9) := C0.out.below B9.out K0.out
    clear hb9 ei
    go_wp2_with fail
    refine (lwAt_any a0 len0 cap0 _ (by omega) C0'.out).mono ?_
    rintro e w10 ⟨⟨k, hk, rfl⟩, hb10⟩
    have B10 : Hid (Below w.heap.size w w10) := B9.out.trans (hb10.mono s9)
    have s10 := B10.out.size
    clear hb10
    obtain ⟨j, hj, hjn⟩ : ∃ j : Nat, j ≤ 9223372036854775807 ∧ ((0 ≤ n ∧ n = (j : Int)) ∨ (n < 0 ∧ n = -(j : Int) - 1)) := by
      by_cases h : n < 0
      · exact ⟨(-n - 1).toNat, by omega, .inr ⟨h, by omega⟩⟩
      · exact ⟨n.toNat, by omega, .inl ⟨by omega, by omega⟩⟩
    have t1 : (j : Int).tmod 1073741789 = ((j % 1073741789 : Nat) : Int) := tmodN j 1073741789
    have hi : j % 1073741789 < 1073741789 := Nat.mod_lt _ (by omega)
    generalize j % 1073741789 = i at *
    have hk' : (k : Int) < 256 := by omega
    have hi' : (i : Int) < 1073741789 := by omega
    have u0 : (0 : Int) ≤ (j : Int) := by omega
    have u1 : (j : Int) ≤ 9223372036854775807 := by omega
    have e1 : (i : Int) + (k : Int) = ((i + k : Nat) : Int) := by omega
    have HP1 : Hid (∀ v : World, Calls Try.prog 20 #[.int .i64 (x : Int), .int .i64 (i : Int)] v fun e w' => e = .returned (.int .i64 ((pm x i 2147483579 : Nat) : Int)) ∧ Below v.heap.size v w') := fun v => by
      rw [← gp hux x3 i]; exact implGroupPow x i v (by omega)
    have HP2 : Hid (∀ v : World, Calls Try.prog 20 #[.int .i64 (x : Int), .int .i64 (k : Int)] v fun e w' => e = .returned (.int .i64 ((pm x k 2147483579 : Nat) : Int)) ∧ Below v.heap.size v w') := fun v => by
      rw [← gp hux x3 k]; exact implGroupPow x k v (by omega)
    have HP3 : Hid (∀ v : World, Calls Try.prog 20 #[.int .i64 (x : Int), .int .i64 ((i + k : Nat) : Int)] v fun e w' => e = .returned (.int .i64 ((pm x (i + k) 2147483579 : Nat) : Int)) ∧ Below v.heap.size v w') := fun v => by
      rw [← gp hux x3 (i + k)]; exact implGroupPow x ((i + k : Nat) : Int) v (by omega)
    have HP4 : Hid (∀ v : World, Calls Try.prog 20 #[.int .i64 (x : Int), .int .i64 1073741789] v fun e w' => e = .returned (.int .i64 1) ∧ Below v.heap.size v w') := fun v => by
      have h := implGroupPow x ((1073741789 : Nat) : Int) v (by omega)
      rw [gp hux x3 1073741789, x3] at h
      exact h
    have HP5 : Hid (∀ v : World, Calls Try.prog 20 #[.int .i64 (x : Int), .int .i64 1073741788] v fun e w' => e = .returned (.int .i64 ((pm x 1073741788 2147483579 : Nat) : Int)) ∧ Below v.heap.size v w') := fun v => by
      have h := implGroupPow x ((1073741788 : Nat) : Int) v (by omega)
      rw [gp hux x3 1073741788] at h
      exact h
    have HM1 : Hid (∀ v : World, Calls Try.prog 19 #[.int .i64 ((pm x i 2147483579 : Nat) : Int), .int .i64 ((pm x k 2147483579 : Nat) : Int)] v fun e w' => e = .returned (.int .i64 ((pm x (i + k) 2147483579 : Nat) : Int)) ∧ Below v.heap.size v w') := fun v => by
      rw [← gm x3 i k]; exact implGroupMul _ _ v
    have HM2 : Hid (∀ v : World, Calls Try.prog 19 #[.int .i64 (x : Int), .int .i64 ((pm x 1073741788 2147483579 : Nat) : Int)] v fun e w' => e = .returned (.int .i64 1) ∧ Below v.heap.size v w') := fun v => by
      have h := implGroupMul (x : Int) ((pm x 1073741788 2147483579 : Nat) : Int) v
      rw [gmulA_nat _ _ hux (unit_pm x3 _), inv_mul (q := 1073741789) (by omega) x3 x2] at h
      exact h
    have HR : Hid (pm x (i + k) 2147483579 ≠ 1 → ∀ v : World, Calls Try.prog 16 #[.int .i64 ((pm x (i + k) 2147483579 : Nat) : Int)] v fun e w' => e = .returned (.bool true) ∧ Below v.heap.size v w') := fun hne v => by
      have h1 := unitB_nat (unit_pm x3 (i + k))
      have h2 : rightG ((pm x (i + k) 2147483579 : Nat) : Int) = true := by
        obtain ⟨z, e, z1, z2⟩ := h1
        have e' : pm x (i + k) 2147483579 = z := by omega
        exact rightG_pos (by omega) (by omega) (pm_in (by omega) x3 _)
      rw [← h2]
      exact implGroupRight _ v
    generalize pm x (i + k) 2147483579 = q1 at *
    generalize pm x i 2147483579 = p1 at *
    generalize pm x k 2147483579 = p2 at *
    generalize pm x 1073741788 2147483579 = v1 at *
    generalize i + k = ik at *
    clear hux x3 hr C0 C0' C1 C1' K0 K1 K1'
    rcases hjn with ⟨hn0, hnj⟩ | ⟨hn0, rfl⟩
    · have t1' : n.tmod 1073741789 = (i : Int) := by rw [hnj]; exact t1
      have HE : Hid ((i : Int) + (k : Int) = (ik : Int) ∧ (i : Int) < 1073741789 ∧ (k : Int) < 256) := ⟨e1, hi', hk'⟩
      clear hnj t1 e1 hi' hk' u0 u1 hi hk hj
      go_wp2_with fail
      refine (HP1.out _).mono ?_
      rintro e w11 ⟨rfl, hb11⟩
      have B11 : Hid (Below w.heap.size w w11) := B10.out.trans (hb11.mono s10)
      have s11 := B11.out.size
      clear hb11
      go_wp2_with fail
      refine (HP2.out _).mono ?_
      rintro e w12 ⟨rfl, hb12⟩
      have B12 : Hid (Below w.heap.size w w12) := B11.out.trans (hb12.mono s11)
      have s12 := B12.out.size
      clear hb12
      go_wp2_with fail
      refine (HM1.out _).mono ?_
      rintro e w13 ⟨rfl, hb13⟩
      have B13 : Hid (Below w.heap.size w w13) := B12.out.trans (hb13.mono s12)
      have s13 := B13.out.size
      clear hb13
      go_wp2_with fail
      refine (HM2.out _).mono ?_
      rintro e w14 ⟨rfl, hb14⟩
      have B14 : Hid (Below w.heap.size w w14) := B13.out.trans (hb14.mono s13)
      have s14 := B14.out.size
      clear hb14
      obtain ⟨e1, hi', hk'⟩ := HE.out
      clear HE
      go_wp2_with fail
      refine (HP3.out _).mono ?_
      rintro e w15 ⟨rfl, hb15⟩
      have B15 : Hid (Below w.heap.size w w15) := B14.out.trans (hb15.mono s14)
      have s15 := B15.out.size
      clear hb15
      by_cases hq1 : q1 = 1
      · have b1 : ((q1 : Int) == 1) = true := by rw [beq_iff_eq]; omega
        go_wp2_with fail
        refine (HP4.out _).mono ?_
        rintro e w17 ⟨rfl, hb17⟩
        have B17 : Hid (Below w.heap.size w w17) := B15.out.trans (hb17.mono s15)
        have s17 := B17.out.size
        clear hb17
        go_wp2_with fail
        refine (HP5.out _).mono ?_
        rintro e w18 ⟨rfl, hb18⟩
        have B18 : Hid (Below w.heap.size w w18) := B17.out.trans (hb18.mono s17)
        have s18 := B18.out.size
        clear hb18
        go_wp2
        go_ret
        exact ⟨rfl, B18.out⟩
      · have b1 : ((q1 : Int) == 1) = false := by rw [beq_eq_false_iff_ne]; omega
        have HR' := HR.out hq1
        have HR2 : Hid _ := HR'
        clear HR'
        go_wp2_with fail
        refine (HR2.out _).mono ?_
        rintro e w16 ⟨rfl, hb16⟩
        have B16 : Hid (Below w.heap.size w w16) := B15.out.trans (hb16.mono s15)
        have s16 := B16.out.size
        clear hb16
        go_wp2_with fail
        refine (HP4.out _).mono ?_
        rintro e w17 ⟨rfl, hb17⟩
        have B17 : Hid (Below w.heap.size w w17) := B16.out.trans (hb17.mono s16)
        have s17 := B17.out.size
        clear hb17
        go_wp2_with fail
        refine (HP5.out _).mono ?_
        rintro e w18 ⟨rfl, hb18⟩
        have B18 : Hid (Below w.heap.size w w18) := B17.out.trans (hb18.mono s17)
        have s18 := B18.out.size
        clear hb18
        go_wp2
        go_ret
        exact ⟨rfl, B18.out⟩
    · skip
      go_wp2_with fail
      refine (HP1.out _).mono ?_
      rintro e w11 ⟨rfl, hb11⟩
      have B11 : Hid (Below w.heap.size w w11) := B10.out.trans (hb11.mono s10)
      have s11 := B11.out.size
      clear hb11
      go_wp2_with fail
      refine (HP2.out _).mono ?_
      rintro e w12 ⟨rfl, hb12⟩
      have B12 : Hid (Below w.heap.size w w12) := B11.out.trans (hb12.mono s11)
      have s12 := B12.out.size
      clear hb12
      go_wp2_with fail
      refine (HM1.out _).mono ?_
      rintro e w13 ⟨rfl, hb13⟩
      have B13 : Hid (Below w.heap.size w w13) := B12.out.trans (hb13.mono s12)
      have s13 := B13.out.size
      clear hb13
      go_wp2_with fail
      refine (HM2.out _).mono ?_
      rintro e w14 ⟨rfl, hb14⟩
      have B14 : Hid (Below w.heap.size w w14) := B13.out.trans (hb14.mono s13)
      have s14 := B14.out.size
      clear hb14
      go_wp2_with fail
      refine (HP3.out _).mono ?_
      rintro e w15 ⟨rfl, hb15⟩
      have B15 : Hid (Below w.heap.size w w15) := B14.out.trans (hb15.mono s14)
      have s15 := B15.out.size
      clear hb15
      by_cases hq1 : q1 = 1
      · have b1 : ((q1 : Int) == 1) = true := by rw [beq_iff_eq]; omega
        go_wp2_with fail
        refine (HP4.out _).mono ?_
        rintro e w17 ⟨rfl, hb17⟩
        have B17 : Hid (Below w.heap.size w w17) := B15.out.trans (hb17.mono s15)
        have s17 := B17.out.size
        clear hb17
        go_wp2_with fail
        refine (HP5.out _).mono ?_
        rintro e w18 ⟨rfl, hb18⟩
        have B18 : Hid (Below w.heap.size w w18) := B17.out.trans (hb18.mono s17)
        have s18 := B18.out.size
        clear hb18
        go_wp2
        go_ret
        exact ⟨rfl, B18.out⟩
      · have b1 : ((q1 : Int) == 1) = false := by rw [beq_eq_false_iff_ne]; omega
        have HR' := HR.out hq1
        have HR2 : Hid _ := HR'
        clear HR'
        go_wp2_with fail
        refine (HR2.out _).mono ?_
        rintro e w16 ⟨rfl, hb16⟩
        have B16 : Hid (Below w.heap.size w w16) := B15.out.trans (hb16.mono s15)
        have s16 := B16.out.size
        clear hb16
        go_wp2_with fail
        refine (HP4.out _).mono ?_
        rintro e w17 ⟨rfl, hb17⟩
        have B17 : Hid (Below w.heap.size w w17) := B16.out.trans (hb17.mono s16)
        have s17 := B17.out.size
        clear hb17
        go_wp2_with fail
        refine (HP5.out _).mono ?_
        rintro e w18 ⟨rfl, hb18⟩
        have B18 : Hid (Below w.heap.size w w18) := B17.out.trans (hb18.mono s17)
        have s18 := B18.out.size
        clear hb18
        go_wp2
        go_ret
        exact ⟨rfl, B18.out⟩
  · rw [Bool.not_eq_true] at hr
    rw [hr]
    go_wp2_with fail
    refine (implGroupRight y _).mono ?_
    rintro e w9 ⟨rfl, hb9⟩
    rw [hr]
    have B9 : Hid (Below w.heap.size w w9) := B7.out.trans (hb9.mono s7)
    clear hb9
    go_wp2
    go_ret
    exact ⟨rfl, B9.out⟩
namespace fnGroupDone
open Go.ChangeShapes Go.WideShapes Go.ChangeAt Go.RowKit
open Go.ChangeMaps (open_string shut_string)
theorem own : ownKnob Try.prog.godebug = none := by kernel_rfl
theorem laidOut : laidOutB Try.prog = true := by kernel_rfl
set_option linter.unusedVariables false
set_option maxRecDepth 100000 in
theorem lifted (os : Os) (started : os.Started) (H : Type) (enc : TypeId × Value → H) :
    ReturnsInHanded {} Try.checked os 4 .any (Rows.fnGroupSpec.pre6 enc Try.prog Try.f4 Rows.fnGroupRow.domain false) (Rows.fnGroupSpec.post enc Try.prog Try.f4 false true false false) := by
  refine returnsInHanded_of_change (C := Try.checked) own started (by kernel_rfl) Try.func4
    (ChangeSpec.witness6 (enc := enc) (C := Try.checked) false ⟨#[], #[.slice none 0 0, .slice none 0 0], []⟩ 8 (by kernel_rfl) (by kernel_rfl) (by kernel_rfl) (by kernel_rfl)) ?_
  intro W base args ds gs before hval0 hW hcnd _
  have hval : ∀ (j : Nat) t v, Try.f4.params[j]? = some t → args[j]? = some v → Value.okWide Try.prog W .any base t v := hval0
  have hW' := hW
  obtain ⟨p, q, hA0, hV, rfl, hfz, hnd⟩ := hW
  have hA : DataW.TrodAll enc Try.prog W 0 (fun _ => true) true Try.f4.params.toList args.toList ds p := hA0
  rw [Try.params4] at hA hval
  obtain ⟨v0, vs0, d0, ds0, p0, q0, hargs, rfl, rfl, h0, r0⟩ := trodAll_cons hA
  obtain ⟨v1, vs1, d1, ds1, p1, q1, rfl, rfl, rfl, h1, r1⟩ := trodAll_cons r0
  obtain ⟨rfl, rfl, rfl⟩ := trodAll_nil r1
  obtain rfl : args = #[v0, v1] := by cases args; simp_all
  obtain ⟨rfl, rfl⟩ := trodVars_none hV
  obtain ⟨a0, len0, cap0, rfl⟩ := okWide_slice Try.underlying22 (hval 0 22 v0 rfl rfl)
  have k0 := h0
  have lt0 : ∀ x ∈ p0, x.block < W.heap.size := by obtain ⟨m, hm⟩ := k0; exact DataW.trod_lt m _ _ _ hm
  obtain ⟨z0, w0⟩ : ∃ zs, IsRow .u8 W a0 len0 cap0 zs := by
    obtain ⟨fuel, hf⟩ := h0
    rcases open_ints Try.underlying22 Try.underlying5 (by kernel_rfl) hf with ⟨hcs, _⟩ | ⟨x, l, c, zs, hcs, _, hl, hm, hz, _, hcell, hwz⟩
    · simp [Value.cells] at hcs
      obtain ⟨rfl, rfl, rfl⟩ := hcs
      exact ⟨[], .inl ⟨rfl, rfl, rfl, rfl⟩⟩
    · simp [Value.cells] at hcs
      obtain ⟨rfl, rfl, rfl⟩ := hcs
      exact ⟨zs, .inr ⟨_, rfl, hl, hm, by simpa using hz, hcell, hwz⟩⟩
  obtain ⟨a1, len1, cap1, rfl⟩ := okWide_slice Try.underlying22 (hval 1 22 v1 rfl rfl)
  have k1 := h1
  have lt1 : ∀ x ∈ p1, x.block < W.heap.size := by obtain ⟨m, hm⟩ := k1; exact DataW.trod_lt m _ _ _ hm
  obtain ⟨z1, w1⟩ : ∃ zs, IsRow .u8 W a1 len1 cap1 zs := by
    obtain ⟨fuel, hf⟩ := h1
    rcases open_ints Try.underlying22 Try.underlying5 (by kernel_rfl) hf with ⟨hcs, _⟩ | ⟨x, l, c, zs, hcs, _, hl, hm, hz, _, hcell, hwz⟩
    · simp [Value.cells] at hcs
      obtain ⟨rfl, rfl, rfl⟩ := hcs
      exact ⟨[], .inl ⟨rfl, rfl, rfl, rfl⟩⟩
    · simp [Value.cells] at hcs
      obtain ⟨rfl, rfl, rfl⟩ := hcs
      exact ⟨zs, .inr ⟨_, rfl, hl, hm, by simpa using hz, hcell, hwz⟩⟩
  clear hA0 hval0
  refine (groupTop W a0 len0 cap0 z0 w0 a1 len1 cap1 z1 w1).mono fun e W' ⟨he, bel⟩ => ?_
  subst he
  exact ⟨_, rfl, _, _, _, [], _, [], hW', trodAll_mk1 (shut_bool Try.underlying4 _), (trodAll_cons_mk (Below.trod laidOut (by kernel_rfl) (of_decide_eq_true (by kernel_rfl)) k0 bel lt0) (trodAll_cons_mk (Below.trod laidOut (by kernel_rfl) (of_decide_eq_true (by kernel_rfl)) k1 bel lt1) trodAll_mk0)), rfl, bel.frame _, fun h => by cases h⟩
theorem over : Rows.fnGroupRow.holds Try.pinned (OpenSpec.ofChange Rows.fnGroupSpec) :=
  OpenClaim.holds_of_wide 4 Try.f4 rfl rfl rfl rfl rfl rfl rfl ⟨rfl, rfl, rfl, rfl, rfl⟩ rfl rfl rfl rfl rfl (by kernel_rfl) Try.func4 (by kernel_rfl)
    (of_decide_eq_true (by kernel_rfl)) (by unfold Func.isWrapper; first | (rw [if_pos (by decide +kernel)]; kernel_rfl) | (rw [if_neg (by decide +kernel)]; exact ⟨rfl, rfl⟩))
    (fun os started H enc _ => lifted os started H enc)
end fnGroupDone
theorem fnGroup_holds : Rows.FnGroupSaid := fnGroupDone.over
#print axioms fnGroup_holds
end Go.Proofs.Ytbkkjgpaccfplaa
