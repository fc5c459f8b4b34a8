/- impl.ModPow, walked. spec.l03Pow, walked: a power modulo a number. impl.isUnit, GroupRight and spec.GroupRight, walked. Products and powers of the group: what is answered. Secrets and their keys: plain mathematics. Papers, and when they are right. Plain mathematics: no program is named here. Things of DER: what DerPut and DerGet answer. Plain mathematics: no program is named here. spec.l05Is, walked. spec.l06Time, spec.NameRight, walked. spec.l06Time, spec.l06Names, walked. spec.l06Right, walked. spec.l04In, spec.SigRight, walked. -/
import Derived.Test.YtkinobpchocooaaGreatDoorCGd01
import Derived.Lib.Strings
import Derived.WalkLawsBesides
import Derived.Deep.Cut
namespace Go.Proofs.YtkinobpchocooaaGreatDoor
open Go.RowKit

set_option maxHeartbeats 1000000 in
set_option maxRecDepth 100000 in
theorem implModPow (a n m : Int) (w : World) (hn : n ≤ 9223372036854775807) :
    Calls Tryz.prog 76 #[.int .i64 a, .int .i64 n, .int .i64 m] w fun e w' => e = .returned (.int .i64 (powA a n m)) ∧ Below w.heap.size w w' := by
  by_cases h1 : a < 0
  · have ea : Hid (powA a n m = 0) := by
      show _ = _
      rw [powA, if_neg (by omega)]
    go_enter Tryz.func76, Tryz.ntmps76
    go_wp2
    go_ret
    exact ⟨ret_int ea.out.symm, Below.refl _ _⟩
  by_cases h2 : n < 0
  · have ea : Hid (powA a n m = 0) := by
      show _ = _
      rw [powA, if_neg (by omega)]
    go_enter Tryz.func76, Tryz.ntmps76
    go_wp2
    go_ret
    exact ⟨ret_int ea.out.symm, Below.refl _ _⟩
  by_cases h3 : modB m = true
  · obtain ⟨k, rfl, k1, k2⟩ := modB_nat h3
    obtain ⟨x, rfl⟩ := nat_of h1
    obtain ⟨y, rfl⟩ := nat_of h2
    rw [powA_nat x y k h3]
    clear h1 h2
    generalize hz : pm x y k = z
    go_enter Tryz.func76, Tryz.ntmps76
    go_wp2_with fail
    refine (implModRight k w).mono ?_
    rintro e w' ⟨rfl, rfl⟩
    rw [h3]
    go_wp2_with fail
    refine (implModulo k _).mono ?_
    rintro e w' ⟨rfl, rfl⟩
    go_wp2_with fail
    refine (implPower _ x y k _ k1 k2 (by omega) (newCell _ _ _)).mono ?_
    rintro e w' ⟨rfl, rfl⟩
    rw [hz]
    clear hz
    go_wp2
    go_ret
    exact ⟨rfl, allocBelow _ _⟩
  · rw [Bool.not_eq_true] at h3
    have ea : Hid (powA a n m = 0) := by
      show _ = _
      rw [powA, if_neg (by rw [h3]; simp)]
    go_enter Tryz.func76, Tryz.ntmps76
    go_wp2_with fail
    refine (implModRight m w).mono ?_
    rintro e w' ⟨rfl, rfl⟩
    rw [h3]
    go_wp2
    go_ret
    exact ⟨ret_int ea.out.symm, Below.refl _ _⟩
end Go.Proofs.YtkinobpchocooaaGreatDoor
namespace Go.Proofs.YtkinobpchocooaaGreatDoor
open Go.RowKit

set_option maxHeartbeats 1000000 in
set_option maxRecDepth 100000 in
theorem specPow (a n m : Nat) (w : World) (hm : 2 ≤ m) (hm2 : m ≤ 2147483647) (hn : n ≤ 9223372036854775807) :
    Calls Tryz.prog 48 #[.int .i64 (a : Int), .int .i64 (n : Int), .int .i64 (m : Int)] w fun e w' => e = .returned (.int .i64 ((pm a n m : Nat) : Int)) ∧ w' = w := by
  have e1 : (1 : Int).tmod (m : Int) = 1 := by rw [show (1 : Int) = ((1 : Nat) : Int) from rfl, tmodN, Nat.mod_eq_of_lt (by omega)]
  have e2 := tmodN a m
  have h0 : ((m : Int) == 0) = false := by rw [beq_eq_false_iff_ne]; omega
  have hlt : a % m < m := Nat.mod_lt _ (by omega)
  have HI : Hid (PowInv a n m 1 (a % m) n) := PowInv.start' a n hm
  go_enter Tryz.func48, Tryz.ntmps48
  go_wp2
  go_loopw [0, 1, 7] (fun x y z wr => ∃ (b k o : Nat), x = .int .i64 (b : Int) ∧ y = .int .i64 (k : Int) ∧ z = .int .i64 (o : Int) ∧ b < m ∧ k ≤ 9223372036854775807 ∧ o < m ∧ Hid (PowInv a n m o b k) ∧ wr = w)
    (fun _ y _ _ => (intOf y).toNat)
  case atStart => exact ⟨a % m, n, 1, rfl, rfl, rfl, hlt, hn, by omega, HI, rfl⟩
  case round =>
    clear HI e1 e2 hlt
    obtain ⟨b, k, o, rfl, rfl, rfl, hb, hk, ho, hinv, rfl⟩ := hrel
    by_cases h : k = 0
    · subst h
      have hd := hinv.out.done
      clear hinv
      subst hd
      go_wp2
      go_ret
      exact ⟨rfl, rfl⟩
    · have q0 : (0 : Int) < (k : Int) := by omega
      obtain ⟨p1, hp1, ep1, lp1, up1⟩ := prod_bd o b (by omega) (by omega)
      obtain ⟨p2, hp2, ep2, lp2, up2⟩ := prod_bd b b (by omega) (by omega)
      have m1 : p1 % m < m := Nat.mod_lt _ (by omega)
      have m2 : p2 % m < m := Nat.mod_lt _ (by omega)
      have t1 := tmodN p1 m
      have t2 := tmodN p2 m
      have hkl : k / 2 ≤ 9223372036854775807 := by omega
      by_cases hodd : k % 2 = 1
      · have HN : Hid (PowInv a n m (p1 % m) (p2 % m) (k / 2)) := by rw [hp1, hp2]; exact hinv.out.odd hm hodd
        have t3 : ((k : Int).tmod 2) = 1 := by rw [show (2 : Int) = ((2 : Nat) : Int) from rfl, tmodN, hodd]; rfl
        clear hinv hp1 hp2 hodd
        go_wp2
        go_roundw
        case rel => exact ⟨p2 % m, k / 2, p1 % m, rfl, rfl, rfl, m2, hkl, m1, HN, trivial⟩
        case measure => simp [intOf]; omega
      · have HN : Hid (PowInv a n m o (p2 % m) (k / 2)) := by rw [hp2]; exact hinv.out.even (by omega)
        have t3 : ((k : Int).tmod 2) = 0 := by rw [show (2 : Int) = ((2 : Nat) : Int) from rfl, tmodN, show k % 2 = 0 from by omega]; rfl
        clear hinv hp1 hp2 hodd t1 m1 up1 lp1 ep1
        go_wp2
        go_roundw
        case rel => exact ⟨p2 % m, k / 2, o, rfl, rfl, rfl, m2, hkl, ho, HN, trivial⟩
        case measure => simp [intOf]; omega
end Go.Proofs.YtkinobpchocooaaGreatDoor
namespace Go.Proofs.YtkinobpchocooaaGreatDoor
open Go.RowKit

def unitB (y : Int) : Bool := decide (1 ≤ y ∧ y < 2147483579)
def rightG (y : Int) : Bool := decide (1 < y ∧ y < 2147483579 ∧ pm y.toNat 1073741789 2147483579 = 1)
theorem modP : modB (2147483579 : Int) = true := rfl
theorem rightG_pos {x : Nat} (h1 : 1 < x) (h2 : x < 2147483579) (h3 : pm x 1073741789 2147483579 = 1) : rightG (x : Int) = true := by
  unfold rightG
  exact decide_eq_true ⟨by omega, by omega, by rw [Int.toNat_natCast]; exact h3⟩
theorem rightG_neg {x : Nat} (h3 : ¬ pm x 1073741789 2147483579 = 1) : rightG (x : Int) = false := by
  unfold rightG
  exact decide_eq_false fun h => h3 (by have := h.2.2; rw [Int.toNat_natCast] at this; exact this)
theorem rightG_out {y : Int} (h : ¬ (1 < y ∧ y < 2147483579)) : rightG y = false := by
  unfold rightG
  exact decide_eq_false fun h' => h ⟨h'.1, h'.2.1⟩
theorem rightG_nat {y : Int} (h : rightG y = true) : ∃ x : Nat, y = (x : Int) ∧ 1 < x ∧ x < 2147483579 ∧ pm x 1073741789 2147483579 = 1 := by
  unfold rightG at h
  have h' := of_decide_eq_true h
  exact ⟨y.toNat, by omega, by omega, by omega, h'.2.2⟩
theorem implUnit (y : Int) (w : World) :
    Calls Tryz.prog 75 #[.int .i64 y] w fun e w' => e = .returned (.bool (unitB y)) ∧ w' = w := by
  by_cases h1 : 1 ≤ y
  · by_cases h2 : y < 2147483579
    · have e : unitB y = true := decide_eq_true ⟨h1, h2⟩
      rw [e]
      go_enter Tryz.func75, Tryz.ntmps75
      go_wp2
      go_ret
      exact ⟨rfl, rfl⟩
    · have e : unitB y = false := decide_eq_false (by omega)
      rw [e]
      go_enter Tryz.func75, Tryz.ntmps75
      go_wp2
      go_ret
      exact ⟨rfl, rfl⟩
  · have e : unitB y = false := decide_eq_false (by omega)
    rw [e]
    go_enter Tryz.func75, Tryz.ntmps75
    go_wp2
    go_ret
    exact ⟨rfl, rfl⟩
set_option maxHeartbeats 1000000 in
set_option maxRecDepth 100000 in
theorem implGroupRight (y : Int) (w : World) :
    Calls Tryz.prog 57 #[.int .i64 y] w fun e w' => e = .returned (.bool (rightG y)) ∧ Below w.heap.size w w' := by
  by_cases h1 : unitB y = true
  · have h1' : 1 ≤ y ∧ y < 2147483579 := of_decide_eq_true h1
    by_cases h2 : y = 1
    · subst h2
      rw [rightG_out (by omega)]
      go_enter Tryz.func57, Tryz.ntmps57
      go_wp2_with fail
      refine (implUnit 1 w).mono ?_
      rintro e w' ⟨rfl, rfl⟩
      rw [h1]
      go_wp2
      go_ret
      exact ⟨rfl, Below.refl _ _⟩
    · obtain ⟨x, rfl⟩ := nat_of (show ¬ y < 0 by omega)
      have hne : ((x : Int) != 1) = true := by rw [bne_iff_ne]; exact h2
      have hp := powA_nat x 1073741789 2147483579 modP
      have HC : Hid (∀ v : World, Calls Tryz.prog 76 #[.int .i64 (x : Int), .int .i64 1073741789, .int .i64 2147483579] v fun e w' => e = .returned (.int .i64 ((pm x 1073741789 2147483579 : Nat) : Int)) ∧ Below v.heap.size v w') := fun v => by
        rw [← hp]
        exact implModPow x 1073741789 2147483579 v (by omega)
      clear hp
      have hrt := rightG_pos (x := x) (by omega) (by omega)
      have hrf := rightG_neg (x := x)
      generalize pm x 1073741789 2147483579 = z at *
      by_cases hz : z = 1
      · subst hz
        rw [hrt rfl]
        clear hrt hrf
        go_enter Tryz.func57, Tryz.ntmps57
        go_wp2_with fail
        refine (implUnit x w).mono ?_
        rintro e w' ⟨rfl, rfl⟩
        rw [h1]
        go_wp2_with fail
        refine (HC.out _).mono ?_
        rintro e w2 ⟨rfl, hb⟩
        have HB : Hid _ := hb
        clear hb
        go_wp2
        go_ret
        exact ⟨rfl, HB.out⟩
      · rw [hrf hz]
        clear hrt hrf
        have hz' : ((z : Int) == 1) = false := by rw [beq_eq_false_iff_ne]; omega
        go_enter Tryz.func57, Tryz.ntmps57
        go_wp2_with fail
        refine (implUnit x w).mono ?_
        rintro e w' ⟨rfl, rfl⟩
        rw [h1]
        go_wp2_with fail
        refine (HC.out _).mono ?_
        rintro e w2 ⟨rfl, hb⟩
        have HB : Hid _ := hb
        clear hb
        go_wp2
        go_ret
        exact ⟨rfl, HB.out⟩
  · rw [Bool.not_eq_true] at h1
    have h1' : ¬ (1 ≤ y ∧ y < 2147483579) := of_decide_eq_false h1
    rw [rightG_out (by omega)]
    go_enter Tryz.func57, Tryz.ntmps57
    go_wp2_with fail
    refine (implUnit y w).mono ?_
    rintro e w' ⟨rfl, rfl⟩
    rw [h1]
    go_wp2
    go_ret
    exact ⟨rfl, Below.refl _ _⟩
set_option maxHeartbeats 1000000 in
set_option maxRecDepth 100000 in
theorem specGroupRight (y : Int) (w : World) :
    Calls Tryz.prog 45 #[.int .i64 y] w fun e w' => e = .returned (.bool (rightG y)) ∧ w' = w := by
  by_cases h1 : 1 < y
  · by_cases h2 : y < 2147483579
    · obtain ⟨x, rfl⟩ := nat_of (show ¬ y < 0 by omega)
      have HC : Hid (∀ v : World, Calls Tryz.prog 48 #[.int .i64 (x : Int), .int .i64 1073741789, .int .i64 2147483579] v fun e w' => e = .returned (.int .i64 ((pm x 1073741789 2147483579 : Nat) : Int)) ∧ w' = v) := fun v => specPow x 1073741789 2147483579 v (by omega) (by omega) (by omega)
      have hrt := rightG_pos (x := x) (by omega) (by omega)
      have hrf := rightG_neg (x := x)
      generalize pm x 1073741789 2147483579 = z at *
      by_cases hz : z = 1
      · subst hz
        rw [hrt rfl]
        clear hrt hrf
        go_enter Tryz.func45, Tryz.ntmps45
        go_wp2_with fail
        refine (HC.out _).mono ?_
        rintro e w2 ⟨rfl, rfl⟩
        go_wp2
        go_ret
        exact ⟨rfl, rfl⟩
      · rw [hrf hz]
        clear hrt hrf
        have hz' : ((z : Int) == 1) = false := by rw [beq_eq_false_iff_ne]; omega
        go_enter Tryz.func45, Tryz.ntmps45
        go_wp2_with fail
        refine (HC.out _).mono ?_
        rintro e w2 ⟨rfl, rfl⟩
        go_wp2
        go_ret
        exact ⟨rfl, rfl⟩
    · rw [rightG_out (by omega)]
      go_enter Tryz.func45, Tryz.ntmps45
      go_wp2
      go_ret
      exact ⟨rfl, rfl⟩
  · rw [rightG_out (by omega)]
    go_enter Tryz.func45, Tryz.ntmps45
    go_wp2
    go_ret
    exact ⟨rfl, rfl⟩
end Go.Proofs.YtkinobpchocooaaGreatDoor
namespace Go.Proofs.YtkinobpchocooaaGreatDoor
open Go.RowKit

def gmulA (a b : Int) : Int := if unitB a = true ∧ unitB b = true then ((a.toNat * b.toNat % 2147483579 : Nat) : Int) else 0
def gpowA (y n : Int) : Int := if unitB y = true ∧ 0 ≤ n then ((pm y.toNat (n.toNat % 1073741789) 2147483579 : Nat) : Int) else 0
theorem unitB_nat {y : Int} (h : unitB y = true) : ∃ x : Nat, y = (x : Int) ∧ 1 ≤ x ∧ x < 2147483579 := by
  have h' : 1 ≤ y ∧ y < 2147483579 := of_decide_eq_true h
  exact ⟨y.toNat, by omega, by omega, by omega⟩
theorem unitB_mk {x : Nat} (h1 : 1 ≤ x) (h2 : x < 2147483579) : unitB (x : Int) = true := decide_eq_true ⟨by omega, by omega⟩
theorem gmulA_nat (a b : Nat) (ha : unitB (a : Int) = true) (hb : unitB (b : Int) = true) : gmulA a b = ((a * b % 2147483579 : Nat) : Int) := by
  rw [gmulA, if_pos ⟨ha, hb⟩, Int.toNat_natCast, Int.toNat_natCast]
theorem gpowA_nat (y n : Nat) (hy : unitB (y : Int) = true) : gpowA y n = ((pm y (n % 1073741789) 2147483579 : Nat) : Int) := by
  rw [gpowA, if_pos ⟨hy, by omega⟩, Int.toNat_natCast, Int.toNat_natCast]
end Go.Proofs.YtkinobpchocooaaGreatDoor
namespace Go.Proofs.YtkinobpchocooaaGreatDoor
open Go.RowKit

def secB (x : Int) : Bool := decide (1 ≤ x ∧ x < 1073741789)
theorem secB_nat {x : Int} (h : secB x = true) : ∃ n : Nat, x = (n : Int) ∧ 1 ≤ n ∧ n < 1073741789 := by
  have h' : 1 ≤ x ∧ x < 1073741789 := of_decide_eq_true h
  exact ⟨x.toNat, by omega, by omega, by omega⟩
def pubA (x : Int) : Int := if secB x = true then ((pm 4 x.toNat 2147483579 : Nat) : Int) else 0
theorem pubA_nat (x : Nat) (h : secB (x : Int) = true) : pubA x = ((pm 4 x 2147483579 : Nat) : Int) := by rw [pubA, if_pos h, Int.toNat_natCast]
/-- A Sig as a value. -/
def sigV (k e s : Int) : Value := .agg #[.int .i64 k, .int .i64 e, .int .i64 s]
def remB (n : Int) : Bool := decide (0 ≤ n ∧ n < 1073741789)
def sigRB (k e s : Int) : Bool := rightG k && remB e && remB s
theorem unit4 : unitB 4 = true := rfl
theorem unit_of {x : Nat} (hx : x < 2147483579) (h : pm x 1073741789 2147483579 = 1) : unitB (x : Int) = true := by
  have := pm_pos (by omega) h
  rw [Nat.mod_eq_of_lt hx] at this
  exact unitB_mk this hx
theorem unit_pow {y : Nat} (h : pm y 1073741789 2147483579 = 1) (n : Nat) : unitB ((pm y n 2147483579 : Nat) : Int) = true :=
  unit_of (pm_lt y n (by omega)) (pm_in (by omega) h n)
theorem gpow_in {y : Nat} (hy : y < 2147483579) (h : pm y 1073741789 2147483579 = 1) (n : Nat) : gpowA y n = ((pm y n 2147483579 : Nat) : Int) := by
  rw [gpowA_nat y n (unit_of hy h), pm_red (by omega) h]
theorem pub_right {x : Nat} (h1 : 1 ≤ x) (h2 : x < 1073741789) : rightG ((pm 4 x 2147483579 : Nat) : Int) = true := by
  have hu := unitB_nat (unit_pow pm4 x)
  obtain ⟨z, hz, z1, z2⟩ := hu
  have hne := pm4_ne h1 h2
  exact rightG_pos (by omega) (by omega) (pm_in (by omega) pm4 x)
end Go.Proofs.YtkinobpchocooaaGreatDoor
namespace Go.Proofs.YtkinobpchocooaaGreatDoor
open Go.RowKit

structure Paper where
  serial : Int
  issuer : ByteArray
  subject : ByteArray
  fr : Int
  till : Int
  key : Int
  names : List ByteArray
  ca : Bool
  sk : Int
  se : Int
  ss : Int
/-- Its cells, the names behind the value v. -/
def Paper.cells (c : Paper) (v : Value) : List Value := [.int .i64 c.serial, .string c.issuer, .string c.subject, .int .i64 c.fr, .int .i64 c.till, .int .i64 c.key, v, .bool c.ca, .int .i64 c.sk, .int .i64 c.se, .int .i64 c.ss]
def Paper.val (c : Paper) (v : Value) : Value := .agg #[.int .i64 c.serial, .string c.issuer, .string c.subject, .int .i64 c.fr, .int .i64 c.till, .int .i64 c.key, v, .bool c.ca, .int .i64 c.sk, .int .i64 c.se, .int .i64 c.ss]
open Classical in
/-- Is it a name? -/
noncomputable def nameB (s : ByteArray) : Bool := decide (NameOk s)
theorem ans_name {s : ByteArray} {e : Ending} (h : AnsB (NameOk s) e) : e = .returned (.bool (nameB s)) := by
  obtain ⟨r, rfl, hr⟩ := h
  have : r = nameB s := by rw [Bool.eq_iff_iff, hr]; simp [nameB]
  rw [this]
def serB (n : Int) : Bool := decide (1 ≤ n) && decide (n ≤ 1000000000)
def timeB (n : Int) : Bool := decide (0 ≤ n) && decide (n ≤ 1000000000)
/-- Name number i, behind the one ahead of it. -/
noncomputable def okN (ss : List ByteArray) (i : Nat) : Bool := nameB (tAt ss i) && (decide (i = 0) || Op.bytesLess (tAt ss (i - 1)).toList (tAt ss i).toList)
noncomputable def okTo (ss : List ByteArray) : Nat → Bool
  | 0 => true
  | k + 1 => okTo ss k && okN ss k
theorem okTo_no {ss : List ByteArray} {k : Nat} (h : okN ss k = false) : ∀ {n : Nat}, k < n → okTo ss n = false := by
  intro n
  induction n with
  | zero => intro h'; omega
  | succ n ih =>
    intro h'
    show (okTo ss n && okN ss n) = false
    by_cases e : k = n
    · subst e; rw [h]; simp
    · rw [ih (by omega)]; rfl
theorem okTo_yes {ss : List ByteArray} {k : Nat} (h : okTo ss k = true) (h' : okN ss k = true) : okTo ss (k + 1) = true := by show (okTo ss k && okN ss k) = true; rw [h, h']; rfl
noncomputable def namesB (ss : List ByteArray) : Bool := okTo ss ss.length && decide (ss.length ≤ 5)
noncomputable def paperB (c : Paper) : Bool :=
  decide (1 ≤ c.serial) && decide (c.serial ≤ 1000000000) && nameB c.issuer && nameB c.subject && timeB c.fr && timeB c.till && decide (c.fr ≤ c.till) && rightG c.key && namesB c.names
noncomputable def certB (c : Paper) : Bool := paperB c && sigRB c.sk c.se c.ss
theorem okN_zero {ss : List ByteArray} (h : nameB (tAt ss 0) = true) : okN ss 0 = true := by simp [okN, h]
theorem okN_not {ss : List ByteArray} {k : Nat} (h : nameB (tAt ss k) = false) : okN ss k = false := by simp [okN, h]
theorem okN_more {ss : List ByteArray} {k : Nat} (hk : 0 < k) (h : nameB (tAt ss k) = true) : okN ss k = Op.bytesLess (tAt ss (k - 1)).toList (tAt ss k).toList := by simp [okN, h, Nat.ne_of_gt hk]
end Go.Proofs.YtkinobpchocooaaGreatDoor
namespace Go.Proofs.YtkinobpchocooaaGreatDoor
open Go.RowKit Go.Lib

/-- Is it a tag? -/
def tagB (t : Int) : Bool := decide (0 ≤ t) && decide (t ≤ 255) && decide (t % 32 ≠ 31)
theorem tagB_iff {t : Int} : tagB t = true ↔ 0 ≤ t ∧ t ≤ 255 ∧ t % 32 ≠ 31 := by simp [tagB, and_assoc]
/-- A length's bytes. -/
def lenD (n : Nat) : List Int := if n < 128 then [(n : Int)] else if n < 256 then [129, (n : Int)] else [130, ((n / 256 : Nat) : Int), ((n % 256 : Nat) : Int)]
/-- A tag and a length. -/
def headD (t : Int) (n : Nat) : List Int := t :: lenD n
/-- The thing of a tag and a body. -/
def thingD (t : Int) (b : ByteArray) : ByteArray := strOfNums (headD t b.size) ++ b
def putD (t : Int) (b : ByteArray) : ByteArray := if tagB t = true ∧ b.size ≤ 4000 then thingD t b else ByteArray.empty
theorem lenD_le (n : Nat) : (lenD n).length ≤ 3 := by unfold lenD; split <;> (try split) <;> simp
theorem lenD_one (n : Nat) : 1 ≤ (lenD n).length := by unfold lenD; split <;> (try split) <;> simp
theorem thingD_size (t : Int) (b : ByteArray) : (thingD t b).size = 1 + (lenD b.size).length + b.size := by
  rw [thingD, ByteArray.size_append, strOfNums_size, headD, List.length_cons]; omega
theorem thingD_le (t : Int) (b : ByteArray) : (thingD t b).size ≤ b.size + 4 := by
  have := lenD_le b.size
  rw [thingD_size]; omega
theorem putD_right {t : Int} {b : ByteArray} (h : tagB t = true) (h1 : b.size ≤ 4000) : putD t b = thingD t b := if_pos ⟨h, h1⟩
theorem putD_long {t : Int} {b : ByteArray} (h1 : 4000 < b.size) : putD t b = ByteArray.empty := if_neg (fun h => by omega)
theorem putD_tag {t : Int} {b : ByteArray} (h : tagB t = false) : putD t b = ByteArray.empty := if_neg (fun h' => by rw [h] at h'; simp at h')
theorem putD_le (t : Int) (b : ByteArray) : (putD t b).size ≤ 4004 := by
  unfold putD
  split
  · rename_i h; have := thingD_le t b; omega
  · simp

/-- The byte at a place of a text. -/
def bN (s : ByteArray) (j : Nat) : Nat := (s.data.toList.getD j 0).toNat
theorem bN_lt (s : ByteArray) (j : Nat) : bN s j < 256 := (s.data.toList.getD j 0).toNat_lt
theorem bN_eq (s : ByteArray) (j : Nat) (h : j < s.size) : bN s j = s[j].toNat := by
  have h' : j < s.data.toList.length := by rw [← size_eq]; exact h
  simp [bN, List.getD, List.getElem?_eq_getElem h']
  rfl
/-- What DerGet tells. -/
structure GetR where
  tag : Int
  body : ByteArray
  at' : Int
  code : Int
def GetR.bad (c : Int) : GetR := ⟨0, ⟨#[]⟩, 0, c⟩
def bodyAt (s : ByteArray) (t n f : Nat) : GetR := if s.size < f + n then .bad 4 else ⟨(t : Int), s.extract f (f + n), ((f + n : Nat) : Int), 0⟩
/-- The thing at a place, of a text that is not too long. -/
def getAt (s : ByteArray) (k : Nat) : GetR :=
  if s.size ≤ k then .bad 4 else if tagB (bN s k : Int) = false then .bad 3 else if s.size ≤ k + 1 then .bad 4
  else if bN s (k + 1) < 128 then bodyAt s (bN s k) (bN s (k + 1)) (k + 2)
  else if bN s (k + 1) = 129 then
    if s.size ≤ k + 2 then .bad 4 else if bN s (k + 2) < 128 then .bad 3 else bodyAt s (bN s k) (bN s (k + 2)) (k + 3)
  else if bN s (k + 1) = 130 then
    if s.size ≤ k + 3 then .bad 4 else if 256 * bN s (k + 2) + bN s (k + 3) < 256 then .bad 3 else if 4000 < 256 * bN s (k + 2) + bN s (k + 3) then .bad 3
    else bodyAt s (bN s k) (256 * bN s (k + 2) + bN s (k + 3)) (k + 4)
  else .bad 3
def getD (s : ByteArray) (p : Int) : GetR := if 20000 < s.size then .bad 2 else if p < 0 then .bad 1 else getAt s p.toNat
def GetR.val (r : GetR) : Value := .agg #[.int .i64 r.tag, .string r.body, .int .i64 r.at', .int .i64 r.code]

theorem bodyAt_short {s : ByteArray} {t n f : Nat} (h : s.size < f + n) : bodyAt s t n f = .bad 4 := if_pos h
theorem bodyAt_ok {s : ByteArray} {t n f : Nat} (h : f + n ≤ s.size) : bodyAt s t n f = ⟨(t : Int), s.extract f (f + n), ((f + n : Nat) : Int), 0⟩ := if_neg (by omega)
section
variable {s : ByteArray} {k : Nat}
theorem getAt_end (h : s.size ≤ k) : getAt s k = .bad 4 := if_pos h
theorem getAt_tag (h : k < s.size) (ht : tagB (bN s k : Int) = false) : getAt s k = .bad 3 := by rw [getAt, if_neg (by omega), if_pos ht]
theorem getAt_one (h : s.size = k + 1) (ht : tagB (bN s k : Int) = true) : getAt s k = .bad 4 := by rw [getAt, if_neg (by omega), if_neg (by simp [ht]), if_pos (by omega)]
theorem getAt_low (h : k + 1 < s.size) (ht : tagB (bN s k : Int) = true) (h1 : bN s (k + 1) < 128) : getAt s k = bodyAt s (bN s k) (bN s (k + 1)) (k + 2) := by
  rw [getAt, if_neg (by omega), if_neg (by simp [ht]), if_neg (by omega), if_pos h1]
theorem getAt_many (h : k + 1 < s.size) (ht : tagB (bN s k : Int) = true) (h0 : 128 ≤ bN s (k + 1)) (h1 : bN s (k + 1) ≠ 129) (h2 : bN s (k + 1) ≠ 130) : getAt s k = .bad 3 := by
  rw [getAt, if_neg (by omega), if_neg (by simp [ht]), if_neg (by omega), if_neg (by omega), if_neg h1, if_neg h2]
theorem getAt_129 (h : k + 1 < s.size) (ht : tagB (bN s k : Int) = true) (h1 : bN s (k + 1) = 129) :
    getAt s k = if s.size ≤ k + 2 then .bad 4 else if bN s (k + 2) < 128 then .bad 3 else bodyAt s (bN s k) (bN s (k + 2)) (k + 3) := by
  rw [getAt, if_neg (by omega), if_neg (by simp [ht]), if_neg (by omega), if_neg (by omega), if_pos h1]
theorem getAt_130 (h : k + 1 < s.size) (ht : tagB (bN s k : Int) = true) (h1 : bN s (k + 1) = 130) :
    getAt s k = if s.size ≤ k + 3 then .bad 4 else if 256 * bN s (k + 2) + bN s (k + 3) < 256 then .bad 3 else if 4000 < 256 * bN s (k + 2) + bN s (k + 3) then .bad 3
      else bodyAt s (bN s k) (256 * bN s (k + 2) + bN s (k + 3)) (k + 4) := by
  rw [getAt, if_neg (by omega), if_neg (by simp [ht]), if_neg (by omega), if_neg (by omega), if_neg (by omega), if_pos h1]
end
theorem bodyAt_at {s : ByteArray} {t n f : Nat} (h : (bodyAt s t n f).code = 0) : f ≤ (bodyAt s t n f).at'.toNat ∧ (bodyAt s t n f).at'.toNat ≤ s.size ∧ 0 ≤ (bodyAt s t n f).at' := by
  unfold bodyAt at *
  split at h
  · simp [GetR.bad] at h
  · rename_i h1
    rw [if_neg h1]
    exact ⟨by simp; omega, by simp; omega, by simp; omega⟩
theorem getAt_cases (s : ByteArray) (k : Nat) : (∃ c, c ≠ 0 ∧ getAt s k = .bad c) ∨ ∃ n f, k + 2 ≤ f ∧ n ≤ 4000 ∧ getAt s k = bodyAt s (bN s k) n f ∧ tagB (bN s k : Int) = true := by
  have h2 := bN_lt s (k + 2)
  unfold getAt
  repeat' split
  all_goals first
    | exact .inl ⟨_, by decide, rfl⟩
    | exact .inr ⟨_, _, by omega, by omega, rfl, by simp_all⟩
/-- Where a thing is got, the place goes on, and stays in the text. -/
theorem getAt_at {s : ByteArray} {k : Nat} (h : (getAt s k).code = 0) : k + 2 ≤ (getAt s k).at'.toNat ∧ (getAt s k).at'.toNat ≤ s.size ∧ 0 ≤ (getAt s k).at' := by
  rcases getAt_cases s k with ⟨c, hc, e⟩ | ⟨n, f, hf, _, e, _⟩
  · rw [e] at h; exact absurd h hc
  · rw [e] at h ⊢
    have := bodyAt_at h
    omega
end Go.Proofs.YtkinobpchocooaaGreatDoor
namespace Go.Proofs.YtkinobpchocooaaGreatDoor
open Go.RowKit Go.Lib

theorem specIs (n l h : Int) (w : World) :
    Calls Tryz.prog 42 #[.int .i64 n, .int .i64 l, .int .i64 h] w fun e w' => e = .returned (.bool (decide (l ≤ n) && decide (n ≤ h))) ∧ w' = w := by
  by_cases h1 : l ≤ n
  · go_enter Tryz.func42, Tryz.ntmps42
    go_wp2
    go_ret
    exact ⟨by simp [h1], rfl⟩
  · go_enter Tryz.func42, Tryz.ntmps42
    go_wp2
    go_ret
    exact ⟨by simp; omega, rfl⟩
end Go.Proofs.YtkinobpchocooaaGreatDoor
namespace Go.Proofs.YtkinobpchocooaaGreatDoor
open Go.RowKit

theorem specTime (n : Int) (w : World) :
    Calls Tryz.prog 44 #[.int .i64 n] w fun e w' => e = .returned (.bool (timeB n)) ∧ w' = w := by
  go_enter Tryz.func44, Tryz.ntmps44
  go_wp2_with fail
  refine (specIs n 0 1000000000 _).mono ?_
  rintro e w' ⟨rfl, rfl⟩
  go_wp2
  go_ret
  exact ⟨rfl, rfl⟩
theorem specNameB (s : ByteArray) (w : World) (hs : s.size ≤ maxLen) :
    Calls Tryz.prog 43 #[.string s] w fun e w' => e = .returned (.bool (nameB s)) ∧ w' = w :=
  (specName s w hs).mono fun _ _ h => ⟨ans_name h.1, h.2⟩
end Go.Proofs.YtkinobpchocooaaGreatDoor
namespace Go.Proofs.YtkinobpchocooaaGreatDoor
open Go.RowKit

set_option maxHeartbeats 1000000 in
set_option maxRecDepth 100000 in
theorem specNames (a : Option Addr) (ss : List ByteArray) (c : Nat) (w : World) (hl : ss.length ≤ 1048576) (hs : totS ss ss.length ≤ 1048576) (ha : IsStrs w a ss) :
    Calls Tryz.prog 46 #[.slice a ss.length c] w fun e w' => e = .returned (.bool (namesB ss)) ∧ Below w.heap.size w w' := by
  have HSz : Hid (∀ k, k < ss.length → (tAt ss k).size ≤ 1048576) := fun k hk => Nat.le_trans (totS_at ss hk) hs
  clear hs
  go_enter Tryz.func46, Tryz.ntmps46
  go_wp2
  go_loopw [3] (fun i wr => ∃ k : Nat, k ≤ ss.length ∧ i = .int .i64 k ∧ okTo ss k = true ∧ Below w.heap.size w wr) (fun i _ => ss.length - (intOf i).toNat)
  case atStart => exact ⟨0, Nat.zero_le _, rfl, rfl, Below.refl _ _⟩
  case round =>
    obtain ⟨k, hk, rfl, hok, hbr⟩ := hrel
    have HOk : Hid (okTo ss k = true) := hok
    have HB : Hid (Below w.heap.size w wr) := hbr
    clear hok
    by_cases hlt : k < ss.length
    · obtain ⟨x, o, rfl, hc⟩ : ∃ x o, a = some ⟨x, o, none⟩ ∧ ∀ i, i < ss.length → wr.cell? ⟨x, o + i, none⟩ = some (.string (tAt ss i)) := by
        rcases ha.below hbr ha.lt with rfl | h
        · simp at hlt
        · exact h
      have hck := hc k hlt
      have hz := HSz.out k hlt
      have HNm : Hid (∀ V : World, Calls Tryz.prog 43 #[.string (tAt ss k)] V fun e w' => e = .returned (.bool (nameB (tAt ss k))) ∧ w' = V) := fun V => specNameB _ V (by unfold maxLen; omega)
      clear hz
      have a0 : (0 : Int) ≤ (k : Int) := by omega
      have b0 : (k : Int) < (ss.length : Int) := by omega
      cases hn : nameB (tAt ss k) with
      | false =>
        have HF : Hid (namesB ss = false) := by show _ = _; rw [namesB, okTo_no (okN_not hn) hlt]; rfl
        rw [hn] at HNm
        generalize tAt ss k = z at *
        generalize ss.length = n at *
        clear hc ha hbr hn HSz
        go_wp2_with fail
        go_quiet ((go_at_call 43; exact Calls.quiet_of_same (HNm.out _)))
        go_wp2
        go_ret
        exact ⟨by rw [HF.out]; rfl, below_drewN HB.out _⟩
      | true =>
        rw [hn] at HNm
        by_cases h0 : k = 0
        · subst h0
          have HF : Hid (okN ss 0 = true) := okN_zero hn
          rw [Nat.add_zero] at hck
          generalize tAt ss 0 = z at *
          generalize ss.length = n at *
          clear hc ha hbr hn HSz
          go_wp2_with fail
          go_quiet ((go_at_call 43; exact Calls.quiet_of_same (HNm.out _)))
          go_wp2
          go_roundw
          case rel => exact ⟨1, by omega, by go_num, okTo_yes HOk.out HF.out, below_drewN HB.out _⟩
          case measure => simp [intOf]; omega
        · have hck1 := hc (k - 1) (by omega)
          have ek : ((k : Int) - 1) = ((k - 1 : Nat) : Int) := by omega
          have ew : IntKind.i64.wrap ((k : Int) - 1) = ((k - 1 : Nat) : Int) := by rw [IntKind.wrap_i64]; omega
          have a1 : (0 : Int) < (k : Int) := by omega
          have a2 : 0 < k := by omega
          have g1 : decide ((0 : Int) < (k : Int)) = true := decide_eq_true a1
          have b1 : ((k - 1 : Nat) : Int) < (ss.length : Int) := by omega
          have hbl := okN_more (ss := ss) (k := k) (by omega) hn
          cases hr : Op.bytesLess (tAt ss (k - 1)).toList (tAt ss k).toList with
          | false =>
            have HF : Hid (namesB ss = false) := by show _ = _; rw [namesB, okTo_no (hbl.trans hr) hlt]; rfl
            generalize tAt ss k = z at *
            generalize tAt ss (k - 1) = y at *
            generalize k - 1 = k1 at *
            generalize ss.length = n at *
            clear hc ha hbr hn HSz hbl
            go_wp2_with fail
            go_quiet ((go_at_call 43; exact Calls.quiet_of_same (HNm.out _)))
            go_wp2
            go_ret
            exact ⟨by rw [HF.out]; rfl, below_drewN HB.out _⟩
          | true =>
            have HF : Hid (okN ss k = true) := hbl.trans hr
            generalize tAt ss k = z at *
            generalize tAt ss (k - 1) = y at *
            generalize k - 1 = k1 at *
            generalize ss.length = n at *
            clear hc ha hbr hn HSz hbl
            go_wp2_with fail
            go_quiet ((go_at_call 43; exact Calls.quiet_of_same (HNm.out _)))
            go_wp2
            go_roundw
            case rel => exact ⟨k + 1, by omega, by go_num, okTo_yes HOk.out HF.out, below_drewN HB.out _⟩
            case measure => simp [intOf]; omega
    · obtain rfl : k = ss.length := by omega
      have HF : Hid (namesB ss = decide (ss.length ≤ 5)) := by show _ = _; rw [namesB, HOk.out]; rfl
      clear ha hbr
      by_cases h5 : ss.length ≤ 5
      · rw [decide_eq_true h5] at HF
        go_wp2
        go_ret
        exact ⟨by rw [HF.out]; first | rfl | (simp; omega), HB.out⟩
      · rw [decide_eq_false h5] at HF
        go_wp2
        go_ret
        exact ⟨by rw [HF.out]; first | rfl | (simp; omega), HB.out⟩
end Go.Proofs.YtkinobpchocooaaGreatDoor
namespace Go.Proofs.YtkinobpchocooaaGreatDoor
open Go.RowKit

set_option maxHeartbeats 2000000 in
set_option maxRecDepth 100000 in
theorem specPaper (c : Paper) (a : Option Addr) (cap : Nat) (w : World) (hi : c.issuer.size ≤ maxLen) (hs : c.subject.size ≤ maxLen) (hl : c.names.length ≤ 1048576) (ht : totS c.names c.names.length ≤ 1048576) (ha : IsStrs w a c.names) :
    Calls Tryz.prog 20 #[c.val (.slice a c.names.length cap)] w fun e w' => e = .returned (.bool (paperB c)) ∧ Below w.heap.size w w' := by
  obtain ⟨ser, iss, sub, fr, till, key, names, ca, sk, se, ss⟩ := c
  simp only at hi hs hl ht ha
  unfold Paper.val
  simp only
  obtain ⟨R, hR⟩ : ∃ R, R = paperB ⟨ser, iss, sub, fr, till, key, names, ca, sk, se, ss⟩ := ⟨_, rfl⟩
  rw [← hR]
  have HR : Hid (R = (decide (1 ≤ ser) && decide (ser ≤ 1000000000) && nameB iss && nameB sub && timeB fr && timeB till && decide (fr ≤ till) && rightG key && namesB names)) := hR
  clear hR
  obtain ⟨w1, hw1⟩ : ∃ w1, w1 = w.alloc (.cells #[.int .i64 ser, .string iss, .string sub, .int .i64 fr, .int .i64 till, .int .i64 key, .slice a names.length cap, .bool ca, .int .i64 sk, .int .i64 se, .int .i64 ss] 31 (0, 0)) := ⟨_, rfl⟩
  have hrow : w1.heap[w.heap.size]? = some (.cells [Value.int .i64 ser, .string iss, .string sub, .int .i64 fr, .int .i64 till, .int .i64 key, .slice a names.length cap, .bool ca, .int .i64 sk, .int .i64 se, .int .i64 ss].toArray 31 (0, 0)) := by rw [hw1]; exact heap_alloc_new w _
  have B1 : Hid (Below w.heap.size w w1) := by rw [hw1]; exact (Below.refl _ _).alloc (Nat.le_refl _) _
  have A1 : Hid (IsStrs w1 a names) := ha.keep B1.out
  have c0 := rowFacts hrow 0 _ rfl
  have c1 := rowFacts hrow 1 _ rfl
  have c2 := rowFacts hrow 2 _ rfl
  have c3 := rowFacts hrow 3 _ rfl
  have c4 := rowFacts hrow 4 _ rfl
  have c5 := rowFacts hrow 5 _ rfl
  have c6 := rowFacts hrow 6 _ rfl
  have HNm : Hid (∀ V, IsStrs V a names → Calls Tryz.prog 46 #[.slice a names.length cap] V fun e w' => e = .returned (.bool (namesB names)) ∧ Below V.heap.size V w') := fun V hV => specNames a names cap V hl ht hV
  have HRow : Hid (w1.heap[w.heap.size]? = some (.cells [Value.int .i64 ser, .string iss, .string sub, .int .i64 fr, .int .i64 till, .int .i64 key, .slice a names.length cap, .bool ca, .int .i64 sk, .int .i64 se, .int .i64 ss].toArray 31 (0, 0))) := hrow
  generalize names.length = nl at *
  clear hrow ha hl ht
  go_enter Tryz.func20, Tryz.ntmps20
  go_upto_region 1 with fail
  rw [← hw1]
  clear hw1
  go_wp2_with fail
  refine (specIs ser 1 1000000000 _).mono ?_
  rintro e w2 ⟨rfl, rfl⟩
  cases h1 : (decide (1 ≤ ser) && decide (ser ≤ 1000000000)) with
  | false =>
    have HF : Hid (R = false) := by show _ = _; rw [HR.out]; simp [h1]
    go_wp2
    go_ret
    exact ⟨by rw [HF.out]; rfl, B1.out⟩
  | true =>
  rw [h1] at HR
  go_wp2_with fail
  refine (specNameB iss _ hi).mono ?_
  rintro e w2 ⟨rfl, rfl⟩
  cases h3 : nameB iss with
  | false =>
    have HF : Hid (R = false) := by show _ = _; rw [HR.out]; simp [h3]
    go_wp2
    go_ret
    exact ⟨by rw [HF.out]; rfl, B1.out⟩
  | true =>
  rw [h3] at HR
  go_wp2_with fail
  refine (specNameB sub _ hs).mono ?_
  rintro e w2 ⟨rfl, rfl⟩
  cases h4 : nameB sub with
  | false =>
    have HF : Hid (R = false) := by show _ = _; rw [HR.out]; simp [h4]
    go_wp2
    go_ret
    exact ⟨by rw [HF.out]; rfl, B1.out⟩
  | true =>
  rw [h4] at HR
  go_wp2_with fail
  refine (specTime fr _).mono ?_
  rintro e w2 ⟨rfl, rfl⟩
  cases h5 : timeB fr with
  | false =>
    have HF : Hid (R = false) := by show _ = _; rw [HR.out]; simp [h5]
    go_wp2
    go_ret
    exact ⟨by rw [HF.out]; rfl, B1.out⟩
  | true =>
  rw [h5] at HR
  go_wp2_with fail
  refine (specTime till _).mono ?_
  rintro e w2 ⟨rfl, rfl⟩
  cases h6 : timeB till with
  | false =>
    have HF : Hid (R = false) := by show _ = _; rw [HR.out]; simp [h6]
    go_wp2
    go_ret
    exact ⟨by rw [HF.out]; rfl, B1.out⟩
  | true =>
  rw [h6] at HR
  by_cases h7 : fr ≤ till
  rotate_left
  · have h7' : till < fr := by omega
    have HF : Hid (R = false) := by show _ = _; rw [HR.out]; simp [h7]
    go_wp2
    go_ret
    exact ⟨by rw [HF.out]; rfl, B1.out⟩
  rw [decide_eq_true h7] at HR
  go_wp2_with fail
  refine (specGroupRight key _).mono ?_
  rintro e w2 ⟨rfl, rfl⟩
  cases h8 : rightG key with
  | false =>
    have HF : Hid (R = false) := by show _ = _; rw [HR.out]; simp [h8]
    go_wp2
    go_ret
    exact ⟨by rw [HF.out]; rfl, B1.out⟩
  | true =>
  rw [h8] at HR
  have HF : Hid (R = namesB names) := by show _ = _; rw [HR.out]; simp
  go_wp2_with fail
  refine (HNm.out _ A1.out).mono ?_
  rintro e w4 ⟨rfl, b4⟩
  rw [← HF.out]
  have B4 : Hid (Below w.heap.size w w4) := B1.out.trans (b4.mono B1.out.size)
  clear b4
  go_wp2
  go_ret
  exact ⟨rfl, B4.out⟩
end Go.Proofs.YtkinobpchocooaaGreatDoor
namespace Go.Proofs.YtkinobpchocooaaGreatDoor
open Go.RowKit

theorem specRem (n : Int) (w : World) :
    Calls Tryz.prog 47 #[.int .i64 n] w fun e w' => e = .returned (.bool (remB n)) ∧ w' = w := by
  by_cases h1 : 0 ≤ n
  · by_cases h2 : n < 1073741789
    · have e : remB n = true := decide_eq_true ⟨h1, h2⟩
      rw [e]
      go_enter Tryz.func47, Tryz.ntmps47
      go_wp2
      go_ret
      exact ⟨rfl, rfl⟩
    · have e : remB n = false := decide_eq_false (by omega)
      rw [e]
      go_enter Tryz.func47, Tryz.ntmps47
      go_wp2
      go_ret
      exact ⟨rfl, rfl⟩
  · have e : remB n = false := decide_eq_false (by omega)
    rw [e]
    go_enter Tryz.func47, Tryz.ntmps47
    go_wp2
    go_ret
    exact ⟨rfl, rfl⟩
set_option maxHeartbeats 1000000 in
set_option maxRecDepth 100000 in
theorem specSigRight (k e s : Int) (w : World) :
    Calls Tryz.prog 21 #[.agg #[.int .i64 k, .int .i64 e, .int .i64 s]] w fun r w' => r = .returned (.bool (sigRB k e s)) ∧ Below w.heap.size w w' := by
  go_enter Tryz.func21, Tryz.ntmps21
  go_wp2_with fail
  refine (specGroupRight k _).mono ?_
  rintro e1 w1 ⟨rfl, rfl⟩
  by_cases h1 : rightG k = true
  · rw [h1]
    go_wp2_with fail
    refine (specRem e _).mono ?_
    rintro e2 w2 ⟨rfl, rfl⟩
    by_cases h2 : remB e = true
    · rw [h2]
      go_wp2_with fail
      refine (specRem s _).mono ?_
      rintro e3 w3 ⟨rfl, rfl⟩
      generalize hb3 : remB s = b
      go_wp2
      go_ret
      exact ⟨by simp [sigRB, *], allocBelow _ _⟩
    · rw [Bool.not_eq_true] at h2
      rw [h2]
      go_wp2
      go_ret
      exact ⟨by simp [sigRB, *], allocBelow _ _⟩
  · rw [Bool.not_eq_true] at h1
    rw [h1]
    go_wp2
    go_ret
    exact ⟨by simp [sigRB, *], allocBelow _ _⟩
end Go.Proofs.YtkinobpchocooaaGreatDoor
