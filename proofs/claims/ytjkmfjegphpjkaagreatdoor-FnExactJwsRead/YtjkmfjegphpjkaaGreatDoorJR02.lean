/- impl.power, walked. impl.ModPow, walked. spec.l03Pow, walked: a power modulo a number. impl.isUnit, GroupRight and spec.GroupRight, walked. Products and powers of the group: what is answered. Secrets and their keys: plain mathematics. Papers, and when they are right. Plain mathematics: no program is named here. Plain mathematics of SHA-256: no program is named here. A text taken in parts is the text taken as a whole: plain mathematics, no program is named here. The turning of a word, walked: spec.l02Turn, bits.RotateLeft32, impl.turnRight. One round, walked: (*hashState).turn. -/
import Derived.Test.YtjkmfjegphpjkaaGreatDoorJR01
import Derived.Laws.BitsAllLaws
import Derived.Handy
import Derived.Deep.QuietTactic
import Derived.BigQuiet
namespace Go.Proofs.YtjkmfjegphpjkaaGreatDoor
open Go.RowKit

set_option maxHeartbeats 1000000 in
set_option maxRecDepth 100000 in
theorem implPower (g a n m : Nat) (w : World) (hm : 2 ≤ m) (hm2 : m ≤ 2147483647) (hn : n ≤ 9223372036854775807) (hc : w.cell? ⟨g, 0, none⟩ = some (.int .i64 (m : Int))) :
    Calls Tryz.prog 97 #[.int .i64 (a : Int), .int .i64 (n : Int), restV g] w fun e w' => e = .returned (.int .i64 ((pm a n m : Nat) : Int)) ∧ w' = w := by
  have HI : Hid (PowInv a n m 1 a n) := PowInv.start a n hm
  go_enter Tryz.func97, Tryz.ntmps97
  go_wp2_with fail
  go_loopw [1, 7, 8] (fun y z x wr => ∃ (b k o : Nat), x = .int .i64 (b : Int) ∧ y = .int .i64 (k : Int) ∧ z = .int .i64 (o : Int) ∧ k ≤ 9223372036854775807 ∧ Hid (PowInv a n m o b k) ∧ wr = w)
    (fun y _ _ _ => (intOf y).toNat)
  case atStart => exact ⟨a, n, 1, rfl, rfl, rfl, hn, HI, rfl⟩
  case round =>
    clear HI
    obtain ⟨b, k, o, rfl, rfl, rfl, hk, hinv, rfl⟩ := hrel
    have HC : Hid (∀ o b : Nat, Calls Tryz.prog 115 #[.int .i64 (o : Int), .int .i64 (b : Int), restV g] wr fun e w' => e = .returned (.int .i64 ((o * b % m : Nat) : Int)) ∧ w' = wr) := fun o b => implProduct g o b m wr hm hm2 hc
    clear hc
    by_cases h : k = 0
    · subst h
      have hd := hinv.out.done
      clear hinv
      subst hd
      go_wp2
      go_ret
      exact ⟨rfl, rfl⟩
    · have q0 : (0 : Int) < (k : Int) := by omega
      have hkl : k / 2 ≤ 9223372036854775807 := by omega
      by_cases hodd : k % 2 = 1
      · have HN : Hid (PowInv a n m (o * b % m) (b * b % m) (k / 2)) := hinv.out.odd hm hodd
        have t3 : bits BinOp.and IntKind.i64 (k : Int) 1 = 1 := by rw [i64_and1]; omega
        clear hinv hodd
        go_wp2_with fail
        refine (HC.out o b).mono ?_
        rintro e w' ⟨rfl, rfl⟩
        generalize o * b % m = x at *
        go_wp2_with fail
        refine (HC.out b b).mono ?_
        rintro e w' ⟨rfl, rfl⟩
        generalize b * b % m = y at *
        go_wp2
        go_roundw
        case rel => exact ⟨y, k / 2, x, rfl, rfl, rfl, hkl, HN, trivial⟩
        case measure => simp [intOf]; omega
      · have HN : Hid (PowInv a n m o (b * b % m) (k / 2)) := hinv.out.even (by omega)
        have t3 : bits BinOp.and IntKind.i64 (k : Int) 1 = 0 := by rw [i64_and1]; omega
        clear hinv hodd
        go_wp2_with fail
        refine (HC.out b b).mono ?_
        rintro e w' ⟨rfl, rfl⟩
        generalize b * b % m = y at *
        go_wp2
        go_roundw
        case rel => exact ⟨y, k / 2, o, rfl, rfl, rfl, hkl, HN, trivial⟩
        case measure => simp [intOf]; omega
end Go.Proofs.YtjkmfjegphpjkaaGreatDoor
namespace Go.Proofs.YtjkmfjegphpjkaaGreatDoor
open Go.RowKit

set_option maxHeartbeats 1000000 in
set_option maxRecDepth 100000 in
theorem implModPow (a n m : Int) (w : World) (hn : n ≤ 9223372036854775807) :
    Calls Tryz.prog 80 #[.int .i64 a, .int .i64 n, .int .i64 m] w fun e w' => e = .returned (.int .i64 (powA a n m)) ∧ Below w.heap.size w w' := by
  by_cases h1 : a < 0
  · have ea : Hid (powA a n m = 0) := by
      show _ = _
      rw [powA, if_neg (by omega)]
    go_enter Tryz.func80, Tryz.ntmps80
    go_wp2
    go_ret
    exact ⟨ret_int ea.out.symm, Below.refl _ _⟩
  by_cases h2 : n < 0
  · have ea : Hid (powA a n m = 0) := by
      show _ = _
      rw [powA, if_neg (by omega)]
    go_enter Tryz.func80, Tryz.ntmps80
    go_wp2
    go_ret
    exact ⟨ret_int ea.out.symm, Below.refl _ _⟩
  by_cases h3 : modB m = true
  · obtain ⟨k, rfl, k1, k2⟩ := modB_nat h3
    obtain ⟨x, rfl⟩ := nat_of h1
    obtain ⟨y, rfl⟩ := nat_of h2
    rw [powA_nat x y k h3]
    clear h1 h2
    generalize hz : pm x y k = z
    go_enter Tryz.func80, Tryz.ntmps80
    go_wp2_with fail
    refine (implModRight k w).mono ?_
    rintro e w' ⟨rfl, rfl⟩
    rw [h3]
    go_wp2_with fail
    refine (implModulo k _).mono ?_
    rintro e w' ⟨rfl, rfl⟩
    go_wp2_with fail
    refine (implPower _ x y k _ k1 k2 (by omega) (newCell _ _ _)).mono ?_
    rintro e w' ⟨rfl, rfl⟩
    rw [hz]
    clear hz
    go_wp2
    go_ret
    exact ⟨rfl, allocBelow _ _⟩
  · rw [Bool.not_eq_true] at h3
    have ea : Hid (powA a n m = 0) := by
      show _ = _
      rw [powA, if_neg (by rw [h3]; simp)]
    go_enter Tryz.func80, Tryz.ntmps80
    go_wp2_with fail
    refine (implModRight m w).mono ?_
    rintro e w' ⟨rfl, rfl⟩
    rw [h3]
    go_wp2
    go_ret
    exact ⟨ret_int ea.out.symm, Below.refl _ _⟩
end Go.Proofs.YtjkmfjegphpjkaaGreatDoor
namespace Go.Proofs.YtjkmfjegphpjkaaGreatDoor
open Go.RowKit

set_option maxHeartbeats 1000000 in
set_option maxRecDepth 100000 in
theorem specPow (a n m : Nat) (w : World) (hm : 2 ≤ m) (hm2 : m ≤ 2147483647) (hn : n ≤ 9223372036854775807) :
    Calls Tryz.prog 45 #[.int .i64 (a : Int), .int .i64 (n : Int), .int .i64 (m : Int)] w fun e w' => e = .returned (.int .i64 ((pm a n m : Nat) : Int)) ∧ w' = w := by
  have e1 : (1 : Int).tmod (m : Int) = 1 := by rw [show (1 : Int) = ((1 : Nat) : Int) from rfl, tmodN, Nat.mod_eq_of_lt (by omega)]
  have e2 := tmodN a m
  have h0 : ((m : Int) == 0) = false := by rw [beq_eq_false_iff_ne]; omega
  have hlt : a % m < m := Nat.mod_lt _ (by omega)
  have HI : Hid (PowInv a n m 1 (a % m) n) := PowInv.start' a n hm
  go_enter Tryz.func45, Tryz.ntmps45
  go_wp2
  go_loopw [0, 1, 7] (fun x y z wr => ∃ (b k o : Nat), x = .int .i64 (b : Int) ∧ y = .int .i64 (k : Int) ∧ z = .int .i64 (o : Int) ∧ b < m ∧ k ≤ 9223372036854775807 ∧ o < m ∧ Hid (PowInv a n m o b k) ∧ wr = w)
    (fun _ y _ _ => (intOf y).toNat)
  case atStart => exact ⟨a % m, n, 1, rfl, rfl, rfl, hlt, hn, by omega, HI, rfl⟩
  case round =>
    clear HI e1 e2 hlt
    obtain ⟨b, k, o, rfl, rfl, rfl, hb, hk, ho, hinv, rfl⟩ := hrel
    by_cases h : k = 0
    · subst h
      have hd := hinv.out.done
      clear hinv
      subst hd
      go_wp2
      go_ret
      exact ⟨rfl, rfl⟩
    · have q0 : (0 : Int) < (k : Int) := by omega
      obtain ⟨p1, hp1, ep1, lp1, up1⟩ := prod_bd o b (by omega) (by omega)
      obtain ⟨p2, hp2, ep2, lp2, up2⟩ := prod_bd b b (by omega) (by omega)
      have m1 : p1 % m < m := Nat.mod_lt _ (by omega)
      have m2 : p2 % m < m := Nat.mod_lt _ (by omega)
      have t1 := tmodN p1 m
      have t2 := tmodN p2 m
      have hkl : k / 2 ≤ 9223372036854775807 := by omega
      by_cases hodd : k % 2 = 1
      · have HN : Hid (PowInv a n m (p1 % m) (p2 % m) (k / 2)) := by rw [hp1, hp2]; exact hinv.out.odd hm hodd
        have t3 : ((k : Int).tmod 2) = 1 := by rw [show (2 : Int) = ((2 : Nat) : Int) from rfl, tmodN, hodd]; rfl
        clear hinv hp1 hp2 hodd
        go_wp2
        go_roundw
        case rel => exact ⟨p2 % m, k / 2, p1 % m, rfl, rfl, rfl, m2, hkl, m1, HN, trivial⟩
        case measure => simp [intOf]; omega
      · have HN : Hid (PowInv a n m o (p2 % m) (k / 2)) := by rw [hp2]; exact hinv.out.even (by omega)
        have t3 : ((k : Int).tmod 2) = 0 := by rw [show (2 : Int) = ((2 : Nat) : Int) from rfl, tmodN, show k % 2 = 0 from by omega]; rfl
        clear hinv hp1 hp2 hodd t1 m1 up1 lp1 ep1
        go_wp2
        go_roundw
        case rel => exact ⟨p2 % m, k / 2, o, rfl, rfl, rfl, m2, hkl, ho, HN, trivial⟩
        case measure => simp [intOf]; omega
end Go.Proofs.YtjkmfjegphpjkaaGreatDoor
namespace Go.Proofs.YtjkmfjegphpjkaaGreatDoor
open Go.RowKit

def unitB (y : Int) : Bool := decide (1 ≤ y ∧ y < 2147483579)
def rightG (y : Int) : Bool := decide (1 < y ∧ y < 2147483579 ∧ pm y.toNat 1073741789 2147483579 = 1)
theorem modP : modB (2147483579 : Int) = true := rfl
theorem rightG_pos {x : Nat} (h1 : 1 < x) (h2 : x < 2147483579) (h3 : pm x 1073741789 2147483579 = 1) : rightG (x : Int) = true := by
  unfold rightG
  exact decide_eq_true ⟨by omega, by omega, by rw [Int.toNat_natCast]; exact h3⟩
theorem rightG_neg {x : Nat} (h3 : ¬ pm x 1073741789 2147483579 = 1) : rightG (x : Int) = false := by
  unfold rightG
  exact decide_eq_false fun h => h3 (by have := h.2.2; rw [Int.toNat_natCast] at this; exact this)
theorem rightG_out {y : Int} (h : ¬ (1 < y ∧ y < 2147483579)) : rightG y = false := by
  unfold rightG
  exact decide_eq_false fun h' => h ⟨h'.1, h'.2.1⟩
theorem rightG_nat {y : Int} (h : rightG y = true) : ∃ x : Nat, y = (x : Int) ∧ 1 < x ∧ x < 2147483579 ∧ pm x 1073741789 2147483579 = 1 := by
  unfold rightG at h
  have h' := of_decide_eq_true h
  exact ⟨y.toNat, by omega, by omega, by omega, h'.2.2⟩
theorem implUnit (y : Int) (w : World) :
    Calls Tryz.prog 79 #[.int .i64 y] w fun e w' => e = .returned (.bool (unitB y)) ∧ w' = w := by
  by_cases h1 : 1 ≤ y
  · by_cases h2 : y < 2147483579
    · have e : unitB y = true := decide_eq_true ⟨h1, h2⟩
      rw [e]
      go_enter Tryz.func79, Tryz.ntmps79
      go_wp2
      go_ret
      exact ⟨rfl, rfl⟩
    · have e : unitB y = false := decide_eq_false (by omega)
      rw [e]
      go_enter Tryz.func79, Tryz.ntmps79
      go_wp2
      go_ret
      exact ⟨rfl, rfl⟩
  · have e : unitB y = false := decide_eq_false (by omega)
    rw [e]
    go_enter Tryz.func79, Tryz.ntmps79
    go_wp2
    go_ret
    exact ⟨rfl, rfl⟩
set_option maxHeartbeats 1000000 in
set_option maxRecDepth 100000 in
theorem implGroupRight (y : Int) (w : World) :
    Calls Tryz.prog 55 #[.int .i64 y] w fun e w' => e = .returned (.bool (rightG y)) ∧ Below w.heap.size w w' := by
  by_cases h1 : unitB y = true
  · have h1' : 1 ≤ y ∧ y < 2147483579 := of_decide_eq_true h1
    by_cases h2 : y = 1
    · subst h2
      rw [rightG_out (by omega)]
      go_enter Tryz.func55, Tryz.ntmps55
      go_wp2_with fail
      refine (implUnit 1 w).mono ?_
      rintro e w' ⟨rfl, rfl⟩
      rw [h1]
      go_wp2
      go_ret
      exact ⟨rfl, Below.refl _ _⟩
    · obtain ⟨x, rfl⟩ := nat_of (show ¬ y < 0 by omega)
      have hne : ((x : Int) != 1) = true := by rw [bne_iff_ne]; exact h2
      have hp := powA_nat x 1073741789 2147483579 modP
      have HC : Hid (∀ v : World, Calls Tryz.prog 80 #[.int .i64 (x : Int), .int .i64 1073741789, .int .i64 2147483579] v fun e w' => e = .returned (.int .i64 ((pm x 1073741789 2147483579 : Nat) : Int)) ∧ Below v.heap.size v w') := fun v => by
        rw [← hp]
        exact implModPow x 1073741789 2147483579 v (by omega)
      clear hp
      have hrt := rightG_pos (x := x) (by omega) (by omega)
      have hrf := rightG_neg (x := x)
      generalize pm x 1073741789 2147483579 = z at *
      by_cases hz : z = 1
      · subst hz
        rw [hrt rfl]
        clear hrt hrf
        go_enter Tryz.func55, Tryz.ntmps55
        go_wp2_with fail
        refine (implUnit x w).mono ?_
        rintro e w' ⟨rfl, rfl⟩
        rw [h1]
        go_wp2_with fail
        refine (HC.out _).mono ?_
        rintro e w2 ⟨rfl, hb⟩
        have HB : Hid _ := hb
        clear hb
        go_wp2
        go_ret
        exact ⟨rfl, HB.out⟩
      · rw [hrf hz]
        clear hrt hrf
        have hz' : ((z : Int) == 1) = false := by rw [beq_eq_false_iff_ne]; omega
        go_enter Tryz.func55, Tryz.ntmps55
        go_wp2_with fail
        refine (implUnit x w).mono ?_
        rintro e w' ⟨rfl, rfl⟩
        rw [h1]
        go_wp2_with fail
        refine (HC.out _).mono ?_
        rintro e w2 ⟨rfl, hb⟩
        have HB : Hid _ := hb
        clear hb
        go_wp2
        go_ret
        exact ⟨rfl, HB.out⟩
  · rw [Bool.not_eq_true] at h1
    have h1' : ¬ (1 ≤ y ∧ y < 2147483579) := of_decide_eq_false h1
    rw [rightG_out (by omega)]
    go_enter Tryz.func55, Tryz.ntmps55
    go_wp2_with fail
    refine (implUnit y w).mono ?_
    rintro e w' ⟨rfl, rfl⟩
    rw [h1]
    go_wp2
    go_ret
    exact ⟨rfl, Below.refl _ _⟩
end Go.Proofs.YtjkmfjegphpjkaaGreatDoor
namespace Go.Proofs.YtjkmfjegphpjkaaGreatDoor
open Go.RowKit

def gmulA (a b : Int) : Int := if unitB a = true ∧ unitB b = true then ((a.toNat * b.toNat % 2147483579 : Nat) : Int) else 0
def gpowA (y n : Int) : Int := if unitB y = true ∧ 0 ≤ n then ((pm y.toNat (n.toNat % 1073741789) 2147483579 : Nat) : Int) else 0
theorem unitB_nat {y : Int} (h : unitB y = true) : ∃ x : Nat, y = (x : Int) ∧ 1 ≤ x ∧ x < 2147483579 := by
  have h' : 1 ≤ y ∧ y < 2147483579 := of_decide_eq_true h
  exact ⟨y.toNat, by omega, by omega, by omega⟩
theorem unitB_mk {x : Nat} (h1 : 1 ≤ x) (h2 : x < 2147483579) : unitB (x : Int) = true := decide_eq_true ⟨by omega, by omega⟩
theorem gmulA_nat (a b : Nat) (ha : unitB (a : Int) = true) (hb : unitB (b : Int) = true) : gmulA a b = ((a * b % 2147483579 : Nat) : Int) := by
  rw [gmulA, if_pos ⟨ha, hb⟩, Int.toNat_natCast, Int.toNat_natCast]
theorem gpowA_nat (y n : Nat) (hy : unitB (y : Int) = true) : gpowA y n = ((pm y (n % 1073741789) 2147483579 : Nat) : Int) := by
  rw [gpowA, if_pos ⟨hy, by omega⟩, Int.toNat_natCast, Int.toNat_natCast]
end Go.Proofs.YtjkmfjegphpjkaaGreatDoor
namespace Go.Proofs.YtjkmfjegphpjkaaGreatDoor
open Go.RowKit

theorem secB_nat {x : Int} (h : secB x = true) : ∃ n : Nat, x = (n : Int) ∧ 1 ≤ n ∧ n < 1073741789 := by
  have h' : 1 ≤ x ∧ x < 1073741789 := of_decide_eq_true h
  exact ⟨x.toNat, by omega, by omega, by omega⟩
def pubA (x : Int) : Int := if secB x = true then ((pm 4 x.toNat 2147483579 : Nat) : Int) else 0
theorem pubA_nat (x : Nat) (h : secB (x : Int) = true) : pubA x = ((pm 4 x 2147483579 : Nat) : Int) := by rw [pubA, if_pos h, Int.toNat_natCast]
/-- A Sig as a value. -/
def sigV (k e s : Int) : Value := .agg #[.int .i64 k, .int .i64 e, .int .i64 s]
def remB (n : Int) : Bool := decide (0 ≤ n ∧ n < 1073741789)
def sigRB (k e s : Int) : Bool := rightG k && remB e && remB s
theorem unit4 : unitB 4 = true := rfl
theorem unit_of {x : Nat} (hx : x < 2147483579) (h : pm x 1073741789 2147483579 = 1) : unitB (x : Int) = true := by
  have := pm_pos (by omega) h
  rw [Nat.mod_eq_of_lt hx] at this
  exact unitB_mk this hx
theorem unit_pow {y : Nat} (h : pm y 1073741789 2147483579 = 1) (n : Nat) : unitB ((pm y n 2147483579 : Nat) : Int) = true :=
  unit_of (pm_lt y n (by omega)) (pm_in (by omega) h n)
theorem gpow_in {y : Nat} (hy : y < 2147483579) (h : pm y 1073741789 2147483579 = 1) (n : Nat) : gpowA y n = ((pm y n 2147483579 : Nat) : Int) := by
  rw [gpowA_nat y n (unit_of hy h), pm_red (by omega) h]
theorem pub_right {x : Nat} (h1 : 1 ≤ x) (h2 : x < 1073741789) : rightG ((pm 4 x 2147483579 : Nat) : Int) = true := by
  have hu := unitB_nat (unit_pow pm4 x)
  obtain ⟨z, hz, z1, z2⟩ := hu
  have hne := pm4_ne h1 h2
  exact rightG_pos (by omega) (by omega) (pm_in (by omega) pm4 x)
end Go.Proofs.YtjkmfjegphpjkaaGreatDoor
namespace Go.Proofs.YtjkmfjegphpjkaaGreatDoor
open Go.RowKit

structure Paper where
  serial : Int
  issuer : ByteArray
  subject : ByteArray
  fr : Int
  till : Int
  key : Int
  names : List ByteArray
  ca : Bool
  sk : Int
  se : Int
  ss : Int
/-- Its cells, the names behind the value v. -/
def Paper.cells (c : Paper) (v : Value) : List Value := [.int .i64 c.serial, .string c.issuer, .string c.subject, .int .i64 c.fr, .int .i64 c.till, .int .i64 c.key, v, .bool c.ca, .int .i64 c.sk, .int .i64 c.se, .int .i64 c.ss]
def Paper.val (c : Paper) (v : Value) : Value := .agg #[.int .i64 c.serial, .string c.issuer, .string c.subject, .int .i64 c.fr, .int .i64 c.till, .int .i64 c.key, v, .bool c.ca, .int .i64 c.sk, .int .i64 c.se, .int .i64 c.ss]
open Classical in
/-- Is it a name? -/
noncomputable def nameB (s : ByteArray) : Bool := decide (NameOk s)
theorem ans_name {s : ByteArray} {e : Ending} (h : AnsB (NameOk s) e) : e = .returned (.bool (nameB s)) := by
  obtain ⟨r, rfl, hr⟩ := h
  have : r = nameB s := by rw [Bool.eq_iff_iff, hr]; simp [nameB]
  rw [this]
def serB (n : Int) : Bool := decide (1 ≤ n) && decide (n ≤ 1000000000)
def timeB (n : Int) : Bool := decide (0 ≤ n) && decide (n ≤ 1000000000)
/-- Name number i, behind the one ahead of it. -/
noncomputable def okN (ss : List ByteArray) (i : Nat) : Bool := nameB (tAt ss i) && (decide (i = 0) || Op.bytesLess (tAt ss (i - 1)).toList (tAt ss i).toList)
noncomputable def okTo (ss : List ByteArray) : Nat → Bool
  | 0 => true
  | k + 1 => okTo ss k && okN ss k
theorem okTo_no {ss : List ByteArray} {k : Nat} (h : okN ss k = false) : ∀ {n : Nat}, k < n → okTo ss n = false := by
  intro n
  induction n with
  | zero => intro h'; omega
  | succ n ih =>
    intro h'
    show (okTo ss n && okN ss n) = false
    by_cases e : k = n
    · subst e; rw [h]; simp
    · rw [ih (by omega)]; rfl
theorem okTo_yes {ss : List ByteArray} {k : Nat} (h : okTo ss k = true) (h' : okN ss k = true) : okTo ss (k + 1) = true := by show (okTo ss k && okN ss k) = true; rw [h, h']; rfl
noncomputable def namesB (ss : List ByteArray) : Bool := okTo ss ss.length && decide (ss.length ≤ 5)
noncomputable def paperB (c : Paper) : Bool :=
  decide (1 ≤ c.serial) && decide (c.serial ≤ 1000000000) && nameB c.issuer && nameB c.subject && timeB c.fr && timeB c.till && decide (c.fr ≤ c.till) && rightG c.key && namesB c.names
noncomputable def certB (c : Paper) : Bool := paperB c && sigRB c.sk c.se c.ss
theorem okN_zero {ss : List ByteArray} (h : nameB (tAt ss 0) = true) : okN ss 0 = true := by simp [okN, h]
theorem okN_not {ss : List ByteArray} {k : Nat} (h : nameB (tAt ss k) = false) : okN ss k = false := by simp [okN, h]
theorem okN_more {ss : List ByteArray} {k : Nat} (hk : 0 < k) (h : nameB (tAt ss k) = true) : okN ss k = Op.bytesLess (tAt ss (k - 1)).toList (tAt ss k).toList := by simp [okN, h, Nat.ne_of_gt hk]
end Go.Proofs.YtjkmfjegphpjkaaGreatDoor
namespace Go.Proofs.YtjkmfjegphpjkaaGreatDoor
open Go.RowKit

abbrev U := BitVec 32
/-- A word as the program holds it. -/
def uI (x : U) : Int := (x.toNat : Int)
theorem uI_nonneg (x : U) : 0 ≤ uI x := Int.natCast_nonneg _
theorem uI_lt (x : U) : uI x < 4294967296 := by unfold uI; have := x.isLt; omega
theorem uI_le (x : U) : uI x ≤ 4294967295 := by have := uI_lt x; omega
theorem uI_inj {x y : U} (h : uI x = uI y) : x = y := by
  unfold uI at h
  exact BitVec.eq_of_toNat_eq (by omega)
theorem uI_xor (x y : U) : bits .xor .u32 (uI x) (uI y) = uI (x ^^^ y) := by
  unfold uI; rw [u32_xor_nat _ _ x.isLt y.isLt, BitVec.toNat_xor]
theorem uI_or (x y : U) : bits .or .u32 (uI x) (uI y) = uI (x ||| y) := by
  unfold uI; rw [u32_or_nat _ _ x.isLt y.isLt, BitVec.toNat_or]
theorem uI_and (x y : U) : bits .and .u32 (uI x) (uI y) = uI (x &&& y) := by
  unfold uI; rw [u32_and_nat _ _ x.isLt y.isLt, BitVec.toNat_and]
theorem uI_not (x : U) : bits .xor .u32 4294967295 (uI x) = uI (~~~ x) := by
  have h := uI_xor (BitVec.allOnes 32) x
  have e : uI (BitVec.allOnes 32) = 4294967295 := by decide
  rw [e] at h
  rw [h, BitVec.xor_comm, BitVec.xor_allOnes]
theorem uI_not' (x : U) : bits .xor .u32 (if IntKind.u32.signed = true then -1 else IntKind.u32.max) (uI x) = uI (~~~ x) := uI_not x
theorem uI_add (x y : U) : IntKind.u32.wrap (uI x + uI y) = uI (x + y) := by
  unfold uI
  rw [IntKind.wrap_u32, BitVec.toNat_add]
  omega
theorem uI_shr (x : U) (k : Nat) : uI x / 2 ^ k = uI (x >>> k) := by
  unfold uI
  rw [BitVec.toNat_ushiftRight, Nat.shiftRight_eq_div_pow]
  simp
theorem uI_shl (x : U) (k : Nat) : IntKind.u32.wrap (uI x * 2 ^ k) = uI (x <<< k) := by
  unfold uI
  rw [IntKind.wrap_u32, BitVec.toNat_shiftLeft, Nat.shiftLeft_eq]
  have : ((x.toNat : Int) * 2 ^ k) = ((x.toNat * 2 ^ k : Nat) : Int) := by simp
  rw [this]
  omega
theorem uI_add' (x y : U) : (uI x + uI y) % 4294967296 = uI (x + y) := by rw [← uI_add, IntKind.wrap_u32]
theorem uI_shl' (x : U) (k : Nat) : uI x * 2 ^ k % 4294967296 = uI (x <<< k) := by rw [← uI_shl, IntKind.wrap_u32]
/-- A byte as a word. -/
def bU (c : UInt8) : U := BitVec.ofNat 32 c.toNat
theorem uI_bU (c : UInt8) : uI (bU c) = (c.toNat : Int) := by
  unfold uI bU
  have := c.toNat_lt
  rw [BitVec.toNat_ofNat]
  omega
theorem bU_uI (c : UInt8) : (c.toNat : Int) = uI (bU c) := (uI_bU c).symm
theorem uI_wrap (x : U) : IntKind.u32.wrap (uI x) = uI x := by
  rw [IntKind.wrap_u32]; exact Int.emod_eq_of_lt (uI_nonneg x) (uI_lt x)
theorem uI_mod (x : U) : uI x % 4294967296 = uI x := Int.emod_eq_of_lt (uI_nonneg x) (uI_lt x)
theorem uI_shl24 (x : U) : uI x * (16777216 : Int) % (4294967296 : Int) = uI (x <<< (24 : Nat)) := uI_shl' x 24
theorem uI_shl16 (x : U) : uI x * (65536 : Int) % (4294967296 : Int) = uI (x <<< (16 : Nat)) := uI_shl' x 16
theorem uI_shl8 (x : U) : uI x * (256 : Int) % (4294967296 : Int) = uI (x <<< (8 : Nat)) := uI_shl' x 8
theorem uI_shr3 (x : U) : uI x / (8 : Int) = uI (x >>> (3 : Nat)) := uI_shr x 3
theorem uI_shr10 (x : U) : uI x / (1024 : Int) = uI (x >>> (10 : Nat)) := uI_shr x 10
def rotr (x : U) (k : Nat) : U := x >>> k ||| x <<< (32 - k)
def sg0 (x : U) : U := rotr x 7 ^^^ rotr x 18 ^^^ x >>> 3
def sg1 (x : U) : U := rotr x 17 ^^^ rotr x 19 ^^^ x >>> 10
def bS0 (x : U) : U := rotr x 2 ^^^ rotr x 13 ^^^ rotr x 22
def bS1 (x : U) : U := rotr x 6 ^^^ rotr x 11 ^^^ rotr x 25
def chF (e f g : U) : U := e &&& f ^^^ ~~~ e &&& g
def majF (a b c : U) : U := a &&& b ^^^ a &&& c ^^^ b &&& c
/-- The words of a block, the first 16 being M's. -/
def wAt (M : Nat → U) (i : Nat) : U :=
  if _h : i < 16 then M i else wAt M (i - 16) + sg0 (wAt M (i - 15)) + wAt M (i - 7) + sg1 (wAt M (i - 2))
termination_by i
theorem wAt_low (M : Nat → U) {i : Nat} (h : i < 16) : wAt M i = M i := by rw [wAt]; simp [h]
theorem wAt_high (M : Nat → U) {i : Nat} (h : 16 ≤ i) : wAt M i = wAt M (i - 16) + sg0 (wAt M (i - 15)) + wAt M (i - 7) + sg1 (wAt M (i - 2)) := by
  rw [wAt]; simp [show ¬ i < 16 by omega]
structure St where
  (a b c d e f g h : U)
def St.row (s : St) : List U := [s.a, s.b, s.c, s.d, s.e, s.f, s.g, s.h]
def rnd (s : St) (kw : U) : St :=
  ⟨s.h + bS1 s.e + chF s.e s.f s.g + kw + (bS0 s.a + majF s.a s.b s.c), s.a, s.b, s.c, s.d + (s.h + bS1 s.e + chF s.e s.f s.g + kw), s.e, s.f, s.g⟩
def keyL : List Nat := [0x428a2f98, 0x71374491, 0xb5c0fbcf, 0xe9b5dba5, 0x3956c25b, 0x59f111f1, 0x923f82a4, 0xab1c5ed5,
    0xd807aa98, 0x12835b01, 0x243185be, 0x550c7dc3, 0x72be5d74, 0x80deb1fe, 0x9bdc06a7, 0xc19bf174,
    0xe49b69c1, 0xefbe4786, 0x0fc19dc6, 0x240ca1cc, 0x2de92c6f, 0x4a7484aa, 0x5cb0a9dc, 0x76f988da,
    0x983e5152, 0xa831c66d, 0xb00327c8, 0xbf597fc7, 0xc6e00bf3, 0xd5a79147, 0x06ca6351, 0x14292967,
    0x27b70a85, 0x2e1b2138, 0x4d2c6dfc, 0x53380d13, 0x650a7354, 0x766a0abb, 0x81c2c92e, 0x92722c85,
    0xa2bfe8a1, 0xa81a664b, 0xc24b8b70, 0xc76c51a3, 0xd192e819, 0xd6990624, 0xf40e3585, 0x106aa070,
    0x19a4c116, 0x1e376c08, 0x2748774c, 0x34b0bcb5, 0x391c0cb3, 0x4ed8aa4a, 0x5b9cca4f, 0x682e6ff3,
    0x748f82ee, 0x78a5636f, 0x84c87814, 0x8cc70208, 0x90befffa, 0xa4506ceb, 0xbef9a3f7, 0xc67178f2]
def kAt (i : Nat) : U := BitVec.ofNat 32 (keyL.getD i 0)
def rnds (s : St) (M : Nat → U) : Nat → St
  | 0 => s
  | n + 1 => rnd (rnds s M n) (kAt n + wAt M n)
def St.add (s t : St) : St := ⟨s.a + t.a, s.b + t.b, s.c + t.c, s.d + t.d, s.e + t.e, s.f + t.f, s.g + t.g, s.h + t.h⟩
/-- A block, taken into a state. -/
def blk (s : St) (M : Nat → U) : St := s.add (rnds s M 64)
/-- The byte of a text at a place. -/
def byteAt (t : ByteArray) (i : Nat) : UInt8 := t.data.toList.getD i 0
theorem byteAt_get (t : ByteArray) (i : Nat) (h : i < t.size) : byteAt t i = t[i] := by
  unfold byteAt
  rw [List.getD, List.getElem?_eq_getElem (by simpa using h)]
  rfl
/-- The 16 words of a text's block that begins at o. -/
def wordAt (t : ByteArray) (o i : Nat) : U :=
  bU (byteAt t (o + 4 * i)) <<< 24 ||| bU (byteAt t (o + 4 * i + 1)) <<< 16 ||| bU (byteAt t (o + 4 * i + 2)) <<< 8 ||| bU (byteAt t (o + 4 * i + 3))
/-- The first n blocks of a text, taken into a state. -/
def blks (s : St) (t : ByteArray) : Nat → St
  | 0 => s
  | n + 1 => blk (blks s t n) (wordAt t (64 * n))
def st0 : St := ⟨0x6a09e667, 0xbb67ae85, 0x3c6ef372, 0xa54ff53a, 0x510e527f, 0x9b05688c, 0x1f83d9ab, 0x5be0cd19⟩
end Go.Proofs.YtjkmfjegphpjkaaGreatDoor
namespace Go.Proofs.YtjkmfjegphpjkaaGreatDoor
open Go.RowKit

theorem wAt_congr {M M' : Nat → U} (h : ∀ i, i < 16 → M i = M' i) (i : Nat) : wAt M i = wAt M' i := by
  induction i using Nat.strongRecOn with
  | _ i ih =>
    by_cases hi : i < 16
    · rw [wAt_low M hi, wAt_low M' hi, h i hi]
    · rw [wAt_high M (by omega), wAt_high M' (by omega), ih (i - 16) (by omega), ih (i - 15) (by omega), ih (i - 7) (by omega), ih (i - 2) (by omega)]
theorem rnds_congr {M M' : Nat → U} (h : ∀ i, i < 16 → M i = M' i) (s : St) (n : Nat) : rnds s M n = rnds s M' n := by
  induction n with
  | zero => rfl
  | succ n ih => rw [rnds, rnds, ih, wAt_congr h]
theorem blk_congr {M M' : Nat → U} (h : ∀ i, i < 16 → M i = M' i) (s : St) : blk s M = blk s M' := by
  unfold blk; rw [rnds_congr h]
theorem wordAt_congr {t t' : ByteArray} {o o' i : Nat} (h : ∀ j, j < 4 → byteAt t (o + 4 * i + j) = byteAt t' (o' + 4 * i + j)) : wordAt t o i = wordAt t' o' i := by
  have h0 := h 0 (by omega)
  have h1 := h 1 (by omega)
  have h2 := h 2 (by omega)
  have h3 := h 3 (by omega)
  unfold wordAt
  rw [Nat.add_zero, Nat.add_zero] at h0
  rw [h0, h1, h2, h3]
theorem blks_congr {t t' : ByteArray} (s : St) (n : Nat) (h : ∀ j, j < 64 * n → byteAt t j = byteAt t' j) : blks s t n = blks s t' n := by
  induction n with
  | zero => rfl
  | succ n ih =>
    rw [blks, blks, ih (fun j hj => h j (by omega))]
    exact blk_congr (fun i hi => wordAt_congr (fun j hj => h _ (by omega))) _
theorem blks_add {t t' : ByteArray} (s : St) (n k : Nat) (h : ∀ j, j < 64 * k → byteAt t' j = byteAt t (64 * n + j)) : blks s t (n + k) = blks (blks s t n) t' k := by
  induction k with
  | zero => rfl
  | succ k ih =>
    rw [← Nat.add_assoc, blks, blks, ih (fun j hj => h j (by omega))]
    refine blk_congr (fun i hi => wordAt_congr (fun j hj => ?_)) _
    rw [h _ (by omega)]
    congr 1
    omega
/-- The state behind all whole blocks of a text, and what is left of it. -/
def more (s : St) (t : ByteArray) : St := blks s t (t.size / 64)
def restOf (t : ByteArray) : ByteArray := t.extract (64 * (t.size / 64)) t.size
theorem size_restOf (t : ByteArray) : (restOf t).size = t.size % 64 := by
  unfold restOf
  rw [ByteArray.size_extract]
  omega
theorem size_append (a b : ByteArray) : (a ++ b).size = a.size + b.size := ByteArray.size_append
theorem list_append (a b : ByteArray) : (a ++ b).data.toList = a.data.toList ++ b.data.toList := by
  simp
theorem list_extract (a : ByteArray) (i j : Nat) : (a.extract i j).data.toList = (a.data.toList.take j).drop i := by
  simp [List.drop_take]
theorem byteAt_left (a b : ByteArray) {j : Nat} (h : j < a.size) : byteAt (a ++ b) j = byteAt a j := by
  unfold byteAt
  rw [list_append, List.getD, List.getD, List.getElem?_append_left (by simpa using h)]
theorem byteAt_right (a b : ByteArray) (j : Nat) : byteAt (a ++ b) (a.size + j) = byteAt b j := by
  unfold byteAt
  rw [list_append, List.getD, List.getD, List.getElem?_append_right (by simp)]
  simp
theorem byteAt_rest (a : ByteArray) (o j : Nat) : byteAt (a.extract o a.size) j = byteAt a (o + j) := by
  unfold byteAt
  rw [list_extract, List.take_of_length_le (by simp), List.getD, List.getD, List.getElem?_drop]
theorem byteAt_restB (t b : ByteArray) {o : Nat} (ho : o ≤ t.size) (j : Nat) : byteAt (t.extract o t.size ++ b) j = byteAt (t ++ b) (o + j) := by
  have hs : (t.extract o t.size).size = t.size - o := by rw [ByteArray.size_extract]; omega
  by_cases h : j < t.size - o
  · rw [byteAt_left _ _ (by omega), byteAt_rest, byteAt_left _ _ (by omega)]
  · have e1 := byteAt_right (t.extract o t.size) b (j - (t.size - o))
    have e2 := byteAt_right t b (j - (t.size - o))
    rw [hs, show t.size - o + (j - (t.size - o)) = j by omega] at e1
    rw [show t.size + (j - (t.size - o)) = o + j by omega] at e2
    rw [e1, e2]
theorem more_more (s : St) (t b : ByteArray) : more (more s t) (restOf t ++ b) = more s (t ++ b) := by
  have hs : (restOf t ++ b).size = t.size % 64 + b.size := by rw [size_append, size_restOf]
  have hf : (t ++ b).size / 64 = t.size / 64 + (t.size % 64 + b.size) / 64 := by rw [size_append]; omega
  unfold more
  rw [hs, hf, blks_add (t := t ++ b) (t' := restOf t ++ b) s _ _ (fun j _ => byteAt_restB t b (by omega) j)]
  rw [blks_congr (t := t) (t' := t ++ b) s _ (fun j hj => (byteAt_left t b (by omega)).symm)]
theorem rest_more (t b : ByteArray) : restOf (restOf t ++ b) = restOf (t ++ b) := by
  have hs : (restOf t ++ b).size = t.size % 64 + b.size := by rw [size_append, size_restOf]
  have e : ((restOf (restOf t ++ b)).data.toList) = (restOf (t ++ b)).data.toList := by
    unfold restOf at *
    rw [hs, list_extract, list_append, list_extract, list_extract, list_append, size_append]
    have l1 : t.data.toList.length = t.size := by simp
    have l2 : b.data.toList.length = b.size := by simp
    generalize t.data.toList = T at *
    generalize b.data.toList = B at *
    rw [List.take_of_length_le (l := T) (by omega), List.take_of_length_le (l := T ++ B) (by simp; omega), List.take_of_length_le (l := List.drop _ T ++ B) (by simp; omega)]
    rw [show List.drop (64 * (t.size / 64)) T ++ B = List.drop (64 * (t.size / 64)) (T ++ B) from by
      rw [List.drop_append_of_le_length (by omega)]]
    rw [List.drop_drop]
    congr 1
    omega
  exact ByteArray.ext (Array.ext' e)
theorem more_nil (s : St) {r : ByteArray} (h : r.size < 64) : more s r = s ∧ restOf r = r := by
  unfold more restOf
  rw [show r.size / 64 = 0 by omega]
  exact ⟨rfl, by simp [ByteArray.extract_zero_size]⟩
/-- What fills a text of n bytes up to the end of a block. -/
def zerosOf (n : Nat) : Nat := 63 - (n + 8) % 64
def beF (x : Nat) (k : Nat) : List Int := (List.range k).map fun j => ((x / 256 ^ (k - 1 - j) % 256 : Nat) : Int)
def padL (n : Nat) : List Int := 128 :: (List.replicate (zerosOf n) 0 ++ beF (8 * n) 8)
theorem padL_len (n : Nat) : (padL n).length = 9 + zerosOf n := by simp [padL, beF]; omega
/-- The bytes of the eight numbers, the highest first. -/
def digU (x : U) : List Int := [uI x / 16777216, uI x / 65536 % 256, uI x / 256 % 256, uI x % 256]
def digL (s : St) : List Int := s.row.flatMap digU
def uCells (s : St) : List Value := s.row.map fun x => Value.int .u32 (uI x)
def iCells (s : St) : List Value := s.row.map fun x => Value.int .i64 (uI x)
theorem iCells_at (s : St) (j : Nat) (h : j < 8) : (iCells s)[j]? = some (.int .i64 (uI (s.row.getD j 0))) := by
  unfold iCells
  rw [List.getElem?_map, List.getD, List.getElem?_eq_getElem (show j < s.row.length from h)]
  rfl
theorem row_at (T : St) (k : Nat) (h : k < 8) : (uCells T)[k]? = some (.int .u32 (uI (T.row.getD k 0))) := by
  unfold uCells
  rw [List.getElem?_map, List.getD, List.getElem?_eq_getElem (show k < T.row.length from h)]
  rfl
theorem uI_i64 (x : U) : IntKind.i64.wrap (uI x) = uI x := by
  have := uI_nonneg x
  have := uI_lt x
  rw [IntKind.wrap_i64]; omega
end Go.Proofs.YtjkmfjegphpjkaaGreatDoor
namespace Go.Proofs.YtjkmfjegphpjkaaGreatDoor
open Go.RowKit

theorem specTurn (x : U) (k : Nat) (hk : k < 32) (w : World) :
    Calls Tryz.prog 120 #[.int .u32 (uI x), .int .u64 (k : Int)] w fun e w' => e = .returned (.int .u32 (uI (rotr x k))) ∧ w' = w := by
  have h1 := uI_le x
  have h0 := uI_nonneg x
  go_enter Tryz.func120, Tryz.ntmps120
  go_wp2
  go_ret
  exact ⟨ret_int (by rw [uI_shr, uI_shl', uI_or]; rfl), rfl⟩
theorem mask31 (k : Nat) (h0 : 0 < k) (hk : k < 32) : bits .and .u64 (IntKind.u64.wrap (-(k : Int))) 31 = 32 - (k : Int) := by
  have e : IntKind.u64.wrap (-(k : Int)) = ((18446744073709551616 - k : Nat) : Int) := by rw [IntKind.wrap_u64]; omega
  have e2 := u64_and_nat (18446744073709551616 - k) 31 (by omega) (by omega)
  rw [e]
  refine e2.trans ?_
  rw [Nat.and_two_pow_sub_one_eq_mod _ 5]
  omega
theorem rotL (x : U) (k : Nat) (hk0 : 0 < k) (hk : k < 32) (w : World) :
    Calls Tryz.prog 139 #[.int .u32 (uI x), .int .i64 (-(k : Int))] w fun e w' => e = .returned (.int .u32 (uI (rotr x k))) ∧ w' = w := by
  have h1 := uI_le x
  have h0 := uI_nonneg x
  have hm := mask31 k hk0 hk
  go_enter Tryz.func139, Tryz.ntmps139
  go_wp2
  go_ret
  exact ⟨ret_int (by rw [uI_shr, uI_shl', uI_or, BitVec.or_comm, show 32 - (32 - k) = k by omega]; rfl), rfl⟩
theorem implTurn (x : U) (k : Nat) (hk0 : 0 < k) (hk : k < 32) (w : World) :
    Calls Tryz.prog 136 #[.int .u32 (uI x), .int .i64 (k : Int)] w fun e w' => e = .returned (.int .u32 (uI (rotr x k))) ∧ w' = w := by
  go_enter Tryz.func136, Tryz.ntmps136
  go_wp2_with fail
  refine (rotL x k hk0 hk _).mono ?_
  rintro e w' ⟨rfl, rfl⟩
  go_wp2
  go_ret
  exact ⟨rfl, rfl⟩
/-- The same, the number of places as the walk spells it. -/
theorem implTurnI (x : U) (k : Int) (w : World) (h0 : 0 < k) (hk : k < 32) :
    Calls Tryz.prog 136 #[.int .u32 (uI x), .int .i64 k] w fun e w' => e = .returned (.int .u32 (uI (rotr x k.toNat))) ∧ w' = w := by
  have h := implTurn x k.toNat (by omega) (by omega) w
  rwa [Int.toNat_of_nonneg (by omega)] at h
theorem specTurnI (x : U) (k : Int) (w : World) (h0 : 0 ≤ k) (hk : k < 32) :
    Calls Tryz.prog 120 #[.int .u32 (uI x), .int .u64 k] w fun e w' => e = .returned (.int .u32 (uI (rotr x k.toNat))) ∧ w' = w := by
  have h := specTurn x k.toNat (by omega) w
  rwa [Int.toNat_of_nonneg (by omega)] at h
end Go.Proofs.YtjkmfjegphpjkaaGreatDoor
namespace Go.Proofs.YtjkmfjegphpjkaaGreatDoor
open Go.RowKit Go.BigFrame

/-- A byte of a text, read. -/
theorem idxB (t : ByteArray) (j : Nat) (h : j < t.size) (n : Int) (hn : n = j) (w : World) : (Instr.index 9 (.string t) (.int .i64 n)).run Tryz.prog w = .ok (.int .u8 (uI (bU (byteAt t j)))) w := by
  subst hn
  rw [run_index_string _ _ _ _ _ Tryz.underlying9, dif_pos ⟨by omega, by omega⟩, uI_bU, byteAt_get t j h]
  rfl
theorem arr8 : Tryz.prog.arrayLen 112 = 8 := by kernel_rfl

theorem slice8a (w : World) (g : Nat) : (Instr.sliceAt 112 (.pointer (some ⟨g, 0, none⟩)) (some (.int .i64 1)) none none).run Tryz.prog w = .ok (.slice (some ⟨g, 1, none⟩) 7 7) w := by kernel_rfl
theorem slice8b (w : World) (g : Nat) : (Instr.sliceAt 112 (.pointer (some ⟨g, 0, none⟩)) none (some (.int .i64 7)) none).run Tryz.prog w = .ok (.slice (some ⟨g, 0, none⟩) 7 8) w := by kernel_rfl
theorem turn_src {w : World} {g : Nat} {t : TypeId} {s : St} (hg : w.heap[g]? = some (.cells (uCells s).toArray t (0, 0))) :
    ∀ j v, ((uCells s).take 7)[j]? = some v → w.cell? ((⟨g, 0, none⟩ : Addr).add j) = some v := by
  intro j v hj
  rw [Addr.add_lit, Nat.zero_add]
  refine rowFacts hg j v ?_
  rw [List.getElem?_take] at hj
  split at hj
  · exact hj
  · cases hj
theorem u32Size : (Tryz.prog.info? 110).map (·.size) = some 1 := by kernel_rfl
theorem uCells_one (s : St) : ∀ v ∈ (uCells s).take 7, v.oneCell' = true := fun v hv => by
  have := List.mem_of_mem_take hv
  simp only [uCells, List.mem_map] at this
  obtain ⟨x, _, rfl⟩ := this
  rfl
set_option maxHeartbeats 400000 in
set_option maxRecDepth 100000 in
theorem turnW (s : St) (kw : U) (w : World) (g : Nat) (t : TypeId) (hg : w.heap[g]? = some (.cells (uCells s).toArray t (0, 0))) :
    Calls Tryz.prog 130 #[.pointer (some ⟨g, 0, none⟩), .int .u32 (uI kw)] w
      fun e w' => e = .returned (.tuple #[]) ∧ w'.heap[g]? = some (.cells (uCells (rnd s kw)).toArray t (0, 0)) ∧ Below g w w' := by
  have c0 := rowFacts hg 0 (.int .u32 (uI s.a)) rfl
  have c1 := rowFacts hg 1 (.int .u32 (uI s.b)) rfl
  have c2 := rowFacts hg 2 (.int .u32 (uI s.c)) rfl
  have c4 := rowFacts hg 4 (.int .u32 (uI s.e)) rfl
  have c5 := rowFacts hg 5 (.int .u32 (uI s.f)) rfl
  have c6 := rowFacts hg 6 (.int .u32 (uI s.g)) rfl
  have c7 := rowFacts hg 7 (.int .u32 (uI s.h)) rfl
  have HG : Hid (w.heap[g]? = some (.cells (uCells s).toArray t (0, 0))) := hg
  clear hg
  go_enter Tryz.func130, Tryz.ntmps130
  go_wp2_with fail
  go_quiet (fail)
  go_wp2_with fail
  go_quiet (fail)
  go_wp2_with fail
  have fx := uI_xor
  have fa := uI_and
  have fn := uI_not'
  have fp := uI_add
  have fq := uI_add'
  go_big_quiet (exact (implTurnI _ _ _ (by decide) (by decide)).mono (fun _ _ h => ⟨h.1, _, h.2⟩))
  go_wp2_with fail
  refine (implTurnI _ _ _ (by decide) (by decide)).mono ?_
  rintro e w' ⟨rfl, rfl⟩
  go_wp2_with fail
  refine (implTurnI _ _ _ (by decide) (by decide)).mono ?_
  rintro e w' ⟨rfl, rfl⟩
  go_wp2_with fail
  refine (implTurnI _ _ _ (by decide) (by decide)).mono ?_
  rintro e w' ⟨rfl, rfl⟩
  go_wp2_with fail
  generalize hw4 : w.drewN _ = w4
  have hg4 : w4.heap[g]? = some (.cells (uCells s).toArray t (0, 0)) := by rw [← hw4]; exact HG.out
  have hb4 : Below g w w4 := by rw [← hw4]; exact below_drewN (Below.refl _ _) _
  have hs1 := slice8a
  have hs2 := slice8b
  clear c0 c1 c2 c4 c5 c6 c7 hw4 HG
  go_region_law ((refine step_copy_splice (by rfl) (.tmp 82) (.tmp 85) _ _ (by rfl) 110 Tryz.underlying139 u32Size (some ⟨g, 1, none⟩) (some ⟨g, 0, none⟩) 7 7 7 8 (by go_simp) (by go_simp) g 1 (uCells s) t hg4 ((uCells s).take 7) (by rfl) (fun _ => ⟨rfl, _, rfl, turn_src hg4⟩) (by simp [uCells, St.row]) (uCells_one s) g w hb4.drew (Nat.le_refl _) ?_; intro w5 hg5 hb5))
  have HG5 := hg5.out
  have e5 : splice (uCells s) 1 ((uCells s).take 7) = [.int .u32 (uI s.a), .int .u32 (uI s.a), .int .u32 (uI s.b), .int .u32 (uI s.c), .int .u32 (uI s.d), .int .u32 (uI s.e), .int .u32 (uI s.f), .int .u32 (uI s.g)] := rfl
  rw [e5] at HG5
  have d4 := rowFacts HG5 4 _ rfl
  have d0 := rowFacts HG5 0 _ rfl
  have z4 := frozen_of_row w5 g 4 _ t HG5
  have z0 := frozen_of_row w5 g 0 _ t HG5
  have HE : Hid (∀ x y, ((w5.setCell ⟨g, 4, none⟩ x).setCell ⟨g, 0, none⟩ y).heap[g]? = some (.cells [y, .int .u32 (uI s.a), .int .u32 (uI s.b), .int .u32 (uI s.c), x, .int .u32 (uI s.e), .int .u32 (uI s.f), .int .u32 (uI s.g)].toArray t (0, 0))) :=
    fun x y => rowSet y (rowSet x HG5)
  have HB : Hid (∀ x y, Below g w ((w5.setCell ⟨g, 4, none⟩ x).setCell ⟨g, 0, none⟩ y)) := fun x y => (hb5.setCell (Nat.le_refl _) x).setCell (Nat.le_refl _) y
  clear hg5 HG5 hb5 hg4 hb4 e5
  go_wp2
  go_region
  go_wp2
  go_returns
  exact ⟨rfl, HE.out _ _, (HB.out _ _).drew⟩
end Go.Proofs.YtjkmfjegphpjkaaGreatDoor
