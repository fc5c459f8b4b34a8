/- spec.l03Pow, walked: a power modulo a number. impl.isUnit, GroupRight and spec.GroupRight, walked. Products and powers of the group: what is answered. Secrets and their keys: plain mathematics. Papers, and when they are right. Plain mathematics: no program is named here. A number in bytes, as a text. Plain mathematics: no program is named here. Things of DER: what DerPut and DerGet answer. Plain mathematics: no program is named here. Numbers in bytes of two's complement, as few as may be. Plain mathematics: no program is named here. Arcs in bytes of seven bits. Plain mathematics: no program is named here. A paper's body, as bytes. Plain mathematics: no program is named here. A paper's bytes. Plain mathematics: no program is named here. -/
import Derived.Test.YtegmmaomaegjjaaGreatDoorPT02
import Derived.Test.YtegmmaomaegjjaaGreatDoorPT01
import Derived.Lib.Strings
import Derived.Lib.BitFns
namespace Go.Proofs.YtegmmaomaegjjaaGreatDoor
open Go.RowKit

set_option maxHeartbeats 1000000 in
set_option maxRecDepth 100000 in
theorem specPow (a n m : Nat) (w : World) (hm : 2 ≤ m) (hm2 : m ≤ 2147483647) (hn : n ≤ 9223372036854775807) :
    Calls Tryz.prog 48 #[.int .i64 (a : Int), .int .i64 (n : Int), .int .i64 (m : Int)] w fun e w' => e = .returned (.int .i64 ((pm a n m : Nat) : Int)) ∧ w' = w := by
  have e1 : (1 : Int).tmod (m : Int) = 1 := by rw [show (1 : Int) = ((1 : Nat) : Int) from rfl, tmodN, Nat.mod_eq_of_lt (by omega)]
  have e2 := tmodN a m
  have h0 : ((m : Int) == 0) = false := by rw [beq_eq_false_iff_ne]; omega
  have hlt : a % m < m := Nat.mod_lt _ (by omega)
  have HI : Hid (PowInv a n m 1 (a % m) n) := PowInv.start' a n hm
  go_enter Tryz.func48, Tryz.ntmps48
  go_wp2
  go_loopw [0, 1, 7] (fun x y z wr => ∃ (b k o : Nat), x = .int .i64 (b : Int) ∧ y = .int .i64 (k : Int) ∧ z = .int .i64 (o : Int) ∧ b < m ∧ k ≤ 9223372036854775807 ∧ o < m ∧ Hid (PowInv a n m o b k) ∧ wr = w)
    (fun _ y _ _ => (intOf y).toNat)
  case atStart => exact ⟨a % m, n, 1, rfl, rfl, rfl, hlt, hn, by omega, HI, rfl⟩
  case round =>
    clear HI e1 e2 hlt
    obtain ⟨b, k, o, rfl, rfl, rfl, hb, hk, ho, hinv, rfl⟩ := hrel
    by_cases h : k = 0
    · subst h
      have hd := hinv.out.done
      clear hinv
      subst hd
      go_wp2
      go_ret
      exact ⟨rfl, rfl⟩
    · have q0 : (0 : Int) < (k : Int) := by omega
      obtain ⟨p1, hp1, ep1, lp1, up1⟩ := prod_bd o b (by omega) (by omega)
      obtain ⟨p2, hp2, ep2, lp2, up2⟩ := prod_bd b b (by omega) (by omega)
      have m1 : p1 % m < m := Nat.mod_lt _ (by omega)
      have m2 : p2 % m < m := Nat.mod_lt _ (by omega)
      have t1 := tmodN p1 m
      have t2 := tmodN p2 m
      have hkl : k / 2 ≤ 9223372036854775807 := by omega
      by_cases hodd : k % 2 = 1
      · have HN : Hid (PowInv a n m (p1 % m) (p2 % m) (k / 2)) := by rw [hp1, hp2]; exact hinv.out.odd hm hodd
        have t3 : ((k : Int).tmod 2) = 1 := by rw [show (2 : Int) = ((2 : Nat) : Int) from rfl, tmodN, hodd]; rfl
        clear hinv hp1 hp2 hodd
        go_wp2
        go_roundw
        case rel => exact ⟨p2 % m, k / 2, p1 % m, rfl, rfl, rfl, m2, hkl, m1, HN, trivial⟩
        case measure => simp [intOf]; omega
      · have HN : Hid (PowInv a n m o (p2 % m) (k / 2)) := by rw [hp2]; exact hinv.out.even (by omega)
        have t3 : ((k : Int).tmod 2) = 0 := by rw [show (2 : Int) = ((2 : Nat) : Int) from rfl, tmodN, show k % 2 = 0 from by omega]; rfl
        clear hinv hp1 hp2 hodd t1 m1 up1 lp1 ep1
        go_wp2
        go_roundw
        case rel => exact ⟨p2 % m, k / 2, o, rfl, rfl, rfl, m2, hkl, ho, HN, trivial⟩
        case measure => simp [intOf]; omega
end Go.Proofs.YtegmmaomaegjjaaGreatDoor
namespace Go.Proofs.YtegmmaomaegjjaaGreatDoor
open Go.RowKit

def unitB (y : Int) : Bool := decide (1 ≤ y ∧ y < 2147483579)
def rightG (y : Int) : Bool := decide (1 < y ∧ y < 2147483579 ∧ pm y.toNat 1073741789 2147483579 = 1)
theorem modP : modB (2147483579 : Int) = true := rfl
theorem rightG_pos {x : Nat} (h1 : 1 < x) (h2 : x < 2147483579) (h3 : pm x 1073741789 2147483579 = 1) : rightG (x : Int) = true := by
  unfold rightG
  exact decide_eq_true ⟨by omega, by omega, by rw [Int.toNat_natCast]; exact h3⟩
theorem rightG_neg {x : Nat} (h3 : ¬ pm x 1073741789 2147483579 = 1) : rightG (x : Int) = false := by
  unfold rightG
  exact decide_eq_false fun h => h3 (by have := h.2.2; rw [Int.toNat_natCast] at this; exact this)
theorem rightG_out {y : Int} (h : ¬ (1 < y ∧ y < 2147483579)) : rightG y = false := by
  unfold rightG
  exact decide_eq_false fun h' => h ⟨h'.1, h'.2.1⟩
theorem rightG_nat {y : Int} (h : rightG y = true) : ∃ x : Nat, y = (x : Int) ∧ 1 < x ∧ x < 2147483579 ∧ pm x 1073741789 2147483579 = 1 := by
  unfold rightG at h
  have h' := of_decide_eq_true h
  exact ⟨y.toNat, by omega, by omega, by omega, h'.2.2⟩
theorem implUnit (y : Int) (w : World) :
    Calls Tryz.prog 100 #[.int .i64 y] w fun e w' => e = .returned (.bool (unitB y)) ∧ w' = w := by
  by_cases h1 : 1 ≤ y
  · by_cases h2 : y < 2147483579
    · have e : unitB y = true := decide_eq_true ⟨h1, h2⟩
      rw [e]
      go_enter Tryz.func100, Tryz.ntmps100
      go_wp2
      go_ret
      exact ⟨rfl, rfl⟩
    · have e : unitB y = false := decide_eq_false (by omega)
      rw [e]
      go_enter Tryz.func100, Tryz.ntmps100
      go_wp2
      go_ret
      exact ⟨rfl, rfl⟩
  · have e : unitB y = false := decide_eq_false (by omega)
    rw [e]
    go_enter Tryz.func100, Tryz.ntmps100
    go_wp2
    go_ret
    exact ⟨rfl, rfl⟩
set_option maxHeartbeats 1000000 in
set_option maxRecDepth 100000 in
theorem implGroupRight (y : Int) (w : World) :
    Calls Tryz.prog 67 #[.int .i64 y] w fun e w' => e = .returned (.bool (rightG y)) ∧ Below w.heap.size w w' := by
  by_cases h1 : unitB y = true
  · have h1' : 1 ≤ y ∧ y < 2147483579 := of_decide_eq_true h1
    by_cases h2 : y = 1
    · subst h2
      rw [rightG_out (by omega)]
      go_enter Tryz.func67, Tryz.ntmps67
      go_wp2_with fail
      refine (implUnit 1 w).mono ?_
      rintro e w' ⟨rfl, rfl⟩
      rw [h1]
      go_wp2
      go_ret
      exact ⟨rfl, Below.refl _ _⟩
    · obtain ⟨x, rfl⟩ := nat_of (show ¬ y < 0 by omega)
      have hne : ((x : Int) != 1) = true := by rw [bne_iff_ne]; exact h2
      have hp := powA_nat x 1073741789 2147483579 modP
      have HC : Hid (∀ v : World, Calls Tryz.prog 101 #[.int .i64 (x : Int), .int .i64 1073741789, .int .i64 2147483579] v fun e w' => e = .returned (.int .i64 ((pm x 1073741789 2147483579 : Nat) : Int)) ∧ Below v.heap.size v w') := fun v => by
        rw [← hp]
        exact implModPow x 1073741789 2147483579 v (by omega)
      clear hp
      have hrt := rightG_pos (x := x) (by omega) (by omega)
      have hrf := rightG_neg (x := x)
      generalize pm x 1073741789 2147483579 = z at *
      by_cases hz : z = 1
      · subst hz
        rw [hrt rfl]
        clear hrt hrf
        go_enter Tryz.func67, Tryz.ntmps67
        go_wp2_with fail
        refine (implUnit x w).mono ?_
        rintro e w' ⟨rfl, rfl⟩
        rw [h1]
        go_wp2_with fail
        refine (HC.out _).mono ?_
        rintro e w2 ⟨rfl, hb⟩
        have HB : Hid _ := hb
        clear hb
        go_wp2
        go_ret
        exact ⟨rfl, HB.out⟩
      · rw [hrf hz]
        clear hrt hrf
        have hz' : ((z : Int) == 1) = false := by rw [beq_eq_false_iff_ne]; omega
        go_enter Tryz.func67, Tryz.ntmps67
        go_wp2_with fail
        refine (implUnit x w).mono ?_
        rintro e w' ⟨rfl, rfl⟩
        rw [h1]
        go_wp2_with fail
        refine (HC.out _).mono ?_
        rintro e w2 ⟨rfl, hb⟩
        have HB : Hid _ := hb
        clear hb
        go_wp2
        go_ret
        exact ⟨rfl, HB.out⟩
  · rw [Bool.not_eq_true] at h1
    have h1' : ¬ (1 ≤ y ∧ y < 2147483579) := of_decide_eq_false h1
    rw [rightG_out (by omega)]
    go_enter Tryz.func67, Tryz.ntmps67
    go_wp2_with fail
    refine (implUnit y w).mono ?_
    rintro e w' ⟨rfl, rfl⟩
    rw [h1]
    go_wp2
    go_ret
    exact ⟨rfl, Below.refl _ _⟩
end Go.Proofs.YtegmmaomaegjjaaGreatDoor
namespace Go.Proofs.YtegmmaomaegjjaaGreatDoor
open Go.RowKit

def gmulA (a b : Int) : Int := if unitB a = true ∧ unitB b = true then ((a.toNat * b.toNat % 2147483579 : Nat) : Int) else 0
def gpowA (y n : Int) : Int := if unitB y = true ∧ 0 ≤ n then ((pm y.toNat (n.toNat % 1073741789) 2147483579 : Nat) : Int) else 0
theorem unitB_nat {y : Int} (h : unitB y = true) : ∃ x : Nat, y = (x : Int) ∧ 1 ≤ x ∧ x < 2147483579 := by
  have h' : 1 ≤ y ∧ y < 2147483579 := of_decide_eq_true h
  exact ⟨y.toNat, by omega, by omega, by omega⟩
theorem unitB_mk {x : Nat} (h1 : 1 ≤ x) (h2 : x < 2147483579) : unitB (x : Int) = true := decide_eq_true ⟨by omega, by omega⟩
theorem gmulA_nat (a b : Nat) (ha : unitB (a : Int) = true) (hb : unitB (b : Int) = true) : gmulA a b = ((a * b % 2147483579 : Nat) : Int) := by
  rw [gmulA, if_pos ⟨ha, hb⟩, Int.toNat_natCast, Int.toNat_natCast]
theorem gpowA_nat (y n : Nat) (hy : unitB (y : Int) = true) : gpowA y n = ((pm y (n % 1073741789) 2147483579 : Nat) : Int) := by
  rw [gpowA, if_pos ⟨hy, by omega⟩, Int.toNat_natCast, Int.toNat_natCast]
end Go.Proofs.YtegmmaomaegjjaaGreatDoor
namespace Go.Proofs.YtegmmaomaegjjaaGreatDoor
open Go.RowKit

theorem secB_nat {x : Int} (h : secB x = true) : ∃ n : Nat, x = (n : Int) ∧ 1 ≤ n ∧ n < 1073741789 := by
  have h' : 1 ≤ x ∧ x < 1073741789 := of_decide_eq_true h
  exact ⟨x.toNat, by omega, by omega, by omega⟩
def pubA (x : Int) : Int := if secB x = true then ((pm 4 x.toNat 2147483579 : Nat) : Int) else 0
theorem pubA_nat (x : Nat) (h : secB (x : Int) = true) : pubA x = ((pm 4 x 2147483579 : Nat) : Int) := by rw [pubA, if_pos h, Int.toNat_natCast]
/-- A Sig as a value. -/
def sigV (k e s : Int) : Value := .agg #[.int .i64 k, .int .i64 e, .int .i64 s]
def remB (n : Int) : Bool := decide (0 ≤ n ∧ n < 1073741789)
def sigRB (k e s : Int) : Bool := rightG k && remB e && remB s
theorem unit4 : unitB 4 = true := rfl
theorem unit_of {x : Nat} (hx : x < 2147483579) (h : pm x 1073741789 2147483579 = 1) : unitB (x : Int) = true := by
  have := pm_pos (by omega) h
  rw [Nat.mod_eq_of_lt hx] at this
  exact unitB_mk this hx
theorem unit_pow {y : Nat} (h : pm y 1073741789 2147483579 = 1) (n : Nat) : unitB ((pm y n 2147483579 : Nat) : Int) = true :=
  unit_of (pm_lt y n (by omega)) (pm_in (by omega) h n)
theorem gpow_in {y : Nat} (hy : y < 2147483579) (h : pm y 1073741789 2147483579 = 1) (n : Nat) : gpowA y n = ((pm y n 2147483579 : Nat) : Int) := by
  rw [gpowA_nat y n (unit_of hy h), pm_red (by omega) h]
theorem pub_right {x : Nat} (h1 : 1 ≤ x) (h2 : x < 1073741789) : rightG ((pm 4 x 2147483579 : Nat) : Int) = true := by
  have hu := unitB_nat (unit_pow pm4 x)
  obtain ⟨z, hz, z1, z2⟩ := hu
  have hne := pm4_ne h1 h2
  exact rightG_pos (by omega) (by omega) (pm_in (by omega) pm4 x)
end Go.Proofs.YtegmmaomaegjjaaGreatDoor
namespace Go.Proofs.YtegmmaomaegjjaaGreatDoor
open Go.RowKit

structure Paper where
  serial : Int
  issuer : ByteArray
  subject : ByteArray
  fr : Int
  till : Int
  key : Int
  names : List ByteArray
  ca : Bool
  sk : Int
  se : Int
  ss : Int
/-- Its cells, the names behind the value v. -/
def Paper.cells (c : Paper) (v : Value) : List Value := [.int .i64 c.serial, .string c.issuer, .string c.subject, .int .i64 c.fr, .int .i64 c.till, .int .i64 c.key, v, .bool c.ca, .int .i64 c.sk, .int .i64 c.se, .int .i64 c.ss]
def Paper.val (c : Paper) (v : Value) : Value := .agg #[.int .i64 c.serial, .string c.issuer, .string c.subject, .int .i64 c.fr, .int .i64 c.till, .int .i64 c.key, v, .bool c.ca, .int .i64 c.sk, .int .i64 c.se, .int .i64 c.ss]
open Classical in
/-- Is it a name? -/
noncomputable def nameB (s : ByteArray) : Bool := decide (NameOk s)
theorem ans_name {s : ByteArray} {e : Ending} (h : AnsB (NameOk s) e) : e = .returned (.bool (nameB s)) := by
  obtain ⟨r, rfl, hr⟩ := h
  have : r = nameB s := by rw [Bool.eq_iff_iff, hr]; simp [nameB]
  rw [this]
def serB (n : Int) : Bool := decide (1 ≤ n) && decide (n ≤ 1000000000)
def timeB (n : Int) : Bool := decide (0 ≤ n) && decide (n ≤ 1000000000)
/-- Name number i, behind the one ahead of it. -/
noncomputable def okN (ss : List ByteArray) (i : Nat) : Bool := nameB (tAt ss i) && (decide (i = 0) || Op.bytesLess (tAt ss (i - 1)).toList (tAt ss i).toList)
noncomputable def okTo (ss : List ByteArray) : Nat → Bool
  | 0 => true
  | k + 1 => okTo ss k && okN ss k
theorem okTo_no {ss : List ByteArray} {k : Nat} (h : okN ss k = false) : ∀ {n : Nat}, k < n → okTo ss n = false := by
  intro n
  induction n with
  | zero => intro h'; omega
  | succ n ih =>
    intro h'
    show (okTo ss n && okN ss n) = false
    by_cases e : k = n
    · subst e; rw [h]; simp
    · rw [ih (by omega)]; rfl
theorem okTo_yes {ss : List ByteArray} {k : Nat} (h : okTo ss k = true) (h' : okN ss k = true) : okTo ss (k + 1) = true := by show (okTo ss k && okN ss k) = true; rw [h, h']; rfl
noncomputable def namesB (ss : List ByteArray) : Bool := okTo ss ss.length && decide (ss.length ≤ 5)
noncomputable def paperB (c : Paper) : Bool :=
  decide (1 ≤ c.serial) && decide (c.serial ≤ 1000000000) && nameB c.issuer && nameB c.subject && timeB c.fr && timeB c.till && decide (c.fr ≤ c.till) && rightG c.key && namesB c.names
noncomputable def certB (c : Paper) : Bool := paperB c && sigRB c.sk c.se c.ss
theorem okN_zero {ss : List ByteArray} (h : nameB (tAt ss 0) = true) : okN ss 0 = true := by simp [okN, h]
theorem okN_not {ss : List ByteArray} {k : Nat} (h : nameB (tAt ss k) = false) : okN ss k = false := by simp [okN, h]
theorem okN_more {ss : List ByteArray} {k : Nat} (hk : 0 < k) (h : nameB (tAt ss k) = true) : okN ss k = Op.bytesLess (tAt ss (k - 1)).toList (tAt ss k).toList := by simp [okN, h, Nat.ne_of_gt hk]
end Go.Proofs.YtegmmaomaegjjaaGreatDoor
namespace Go.Proofs.YtegmmaomaegjjaaGreatDoor
open Go.RowKit

theorem putF_len : ∀ f x, (putF f x).length ≤ f + 1
  | 0, x => by simp [putF]
  | f + 1, x => by
    rw [putF]
    split
    · simp
    · have := putF_len f (x / 128)
      simp
      omega
def putS (n : Int) : ByteArray := strOfNums (putF 9 (foldI n))
theorem putS_size (n : Int) : (putS n).size ≤ 10 := by unfold putS; rw [strOfNums_size]; exact putF_len 9 _
end Go.Proofs.YtegmmaomaegjjaaGreatDoor
namespace Go.Proofs.YtegmmaomaegjjaaGreatDoor
open Go.RowKit Go.Lib

/-- Is it a tag? -/
def tagB (t : Int) : Bool := decide (0 ≤ t) && decide (t ≤ 255) && decide (t % 32 ≠ 31)
theorem tagB_iff {t : Int} : tagB t = true ↔ 0 ≤ t ∧ t ≤ 255 ∧ t % 32 ≠ 31 := by simp [tagB, and_assoc]
/-- A length's bytes. -/
def lenD (n : Nat) : List Int := if n < 128 then [(n : Int)] else if n < 256 then [129, (n : Int)] else [130, ((n / 256 : Nat) : Int), ((n % 256 : Nat) : Int)]
/-- A tag and a length. -/
def headD (t : Int) (n : Nat) : List Int := t :: lenD n
/-- The thing of a tag and a body. -/
def thingD (t : Int) (b : ByteArray) : ByteArray := strOfNums (headD t b.size) ++ b
def putD (t : Int) (b : ByteArray) : ByteArray := if tagB t = true ∧ b.size ≤ 4000 then thingD t b else ByteArray.empty
theorem lenD_le (n : Nat) : (lenD n).length ≤ 3 := by unfold lenD; split <;> (try split) <;> simp
theorem lenD_one (n : Nat) : 1 ≤ (lenD n).length := by unfold lenD; split <;> (try split) <;> simp
theorem thingD_size (t : Int) (b : ByteArray) : (thingD t b).size = 1 + (lenD b.size).length + b.size := by
  rw [thingD, ByteArray.size_append, strOfNums_size, headD, List.length_cons]; omega
theorem thingD_le (t : Int) (b : ByteArray) : (thingD t b).size ≤ b.size + 4 := by
  have := lenD_le b.size
  rw [thingD_size]; omega
theorem putD_right {t : Int} {b : ByteArray} (h : tagB t = true) (h1 : b.size ≤ 4000) : putD t b = thingD t b := if_pos ⟨h, h1⟩
theorem putD_long {t : Int} {b : ByteArray} (h1 : 4000 < b.size) : putD t b = ByteArray.empty := if_neg (fun h => by omega)
theorem putD_tag {t : Int} {b : ByteArray} (h : tagB t = false) : putD t b = ByteArray.empty := if_neg (fun h' => by rw [h] at h'; simp at h')
theorem putD_le (t : Int) (b : ByteArray) : (putD t b).size ≤ 4004 := by
  unfold putD
  split
  · rename_i h; have := thingD_le t b; omega
  · simp

/-- The byte at a place of a text. -/
def bN (s : ByteArray) (j : Nat) : Nat := (s.data.toList.getD j 0).toNat
theorem bN_lt (s : ByteArray) (j : Nat) : bN s j < 256 := (s.data.toList.getD j 0).toNat_lt
theorem bN_eq (s : ByteArray) (j : Nat) (h : j < s.size) : bN s j = s[j].toNat := by
  have h' : j < s.data.toList.length := by rw [← size_eq]; exact h
  simp [bN, List.getD, List.getElem?_eq_getElem h']
  rfl
/-- What DerGet tells. -/
structure GetR where
  tag : Int
  body : ByteArray
  at' : Int
  code : Int
def GetR.bad (c : Int) : GetR := ⟨0, ⟨#[]⟩, 0, c⟩
def bodyAt (s : ByteArray) (t n f : Nat) : GetR := if s.size < f + n then .bad 4 else ⟨(t : Int), s.extract f (f + n), ((f + n : Nat) : Int), 0⟩
/-- The thing at a place, of a text that is not too long. -/
def getAt (s : ByteArray) (k : Nat) : GetR :=
  if s.size ≤ k then .bad 4 else if tagB (bN s k : Int) = false then .bad 3 else if s.size ≤ k + 1 then .bad 4
  else if bN s (k + 1) < 128 then bodyAt s (bN s k) (bN s (k + 1)) (k + 2)
  else if bN s (k + 1) = 129 then
    if s.size ≤ k + 2 then .bad 4 else if bN s (k + 2) < 128 then .bad 3 else bodyAt s (bN s k) (bN s (k + 2)) (k + 3)
  else if bN s (k + 1) = 130 then
    if s.size ≤ k + 3 then .bad 4 else if 256 * bN s (k + 2) + bN s (k + 3) < 256 then .bad 3 else if 4000 < 256 * bN s (k + 2) + bN s (k + 3) then .bad 3
    else bodyAt s (bN s k) (256 * bN s (k + 2) + bN s (k + 3)) (k + 4)
  else .bad 3
def getD (s : ByteArray) (p : Int) : GetR := if 20000 < s.size then .bad 2 else if p < 0 then .bad 1 else getAt s p.toNat
def GetR.val (r : GetR) : Value := .agg #[.int .i64 r.tag, .string r.body, .int .i64 r.at', .int .i64 r.code]

theorem bodyAt_short {s : ByteArray} {t n f : Nat} (h : s.size < f + n) : bodyAt s t n f = .bad 4 := if_pos h
theorem bodyAt_ok {s : ByteArray} {t n f : Nat} (h : f + n ≤ s.size) : bodyAt s t n f = ⟨(t : Int), s.extract f (f + n), ((f + n : Nat) : Int), 0⟩ := if_neg (by omega)
section
variable {s : ByteArray} {k : Nat}
theorem getAt_end (h : s.size ≤ k) : getAt s k = .bad 4 := if_pos h
theorem getAt_tag (h : k < s.size) (ht : tagB (bN s k : Int) = false) : getAt s k = .bad 3 := by rw [getAt, if_neg (by omega), if_pos ht]
theorem getAt_one (h : s.size = k + 1) (ht : tagB (bN s k : Int) = true) : getAt s k = .bad 4 := by rw [getAt, if_neg (by omega), if_neg (by simp [ht]), if_pos (by omega)]
theorem getAt_low (h : k + 1 < s.size) (ht : tagB (bN s k : Int) = true) (h1 : bN s (k + 1) < 128) : getAt s k = bodyAt s (bN s k) (bN s (k + 1)) (k + 2) := by
  rw [getAt, if_neg (by omega), if_neg (by simp [ht]), if_neg (by omega), if_pos h1]
theorem getAt_many (h : k + 1 < s.size) (ht : tagB (bN s k : Int) = true) (h0 : 128 ≤ bN s (k + 1)) (h1 : bN s (k + 1) ≠ 129) (h2 : bN s (k + 1) ≠ 130) : getAt s k = .bad 3 := by
  rw [getAt, if_neg (by omega), if_neg (by simp [ht]), if_neg (by omega), if_neg (by omega), if_neg h1, if_neg h2]
theorem getAt_129 (h : k + 1 < s.size) (ht : tagB (bN s k : Int) = true) (h1 : bN s (k + 1) = 129) :
    getAt s k = if s.size ≤ k + 2 then .bad 4 else if bN s (k + 2) < 128 then .bad 3 else bodyAt s (bN s k) (bN s (k + 2)) (k + 3) := by
  rw [getAt, if_neg (by omega), if_neg (by simp [ht]), if_neg (by omega), if_neg (by omega), if_pos h1]
theorem getAt_130 (h : k + 1 < s.size) (ht : tagB (bN s k : Int) = true) (h1 : bN s (k + 1) = 130) :
    getAt s k = if s.size ≤ k + 3 then .bad 4 else if 256 * bN s (k + 2) + bN s (k + 3) < 256 then .bad 3 else if 4000 < 256 * bN s (k + 2) + bN s (k + 3) then .bad 3
      else bodyAt s (bN s k) (256 * bN s (k + 2) + bN s (k + 3)) (k + 4) := by
  rw [getAt, if_neg (by omega), if_neg (by simp [ht]), if_neg (by omega), if_neg (by omega), if_neg (by omega), if_pos h1]
end
theorem bodyAt_at {s : ByteArray} {t n f : Nat} (h : (bodyAt s t n f).code = 0) : f ≤ (bodyAt s t n f).at'.toNat ∧ (bodyAt s t n f).at'.toNat ≤ s.size ∧ 0 ≤ (bodyAt s t n f).at' := by
  unfold bodyAt at *
  split at h
  · simp [GetR.bad] at h
  · rename_i h1
    rw [if_neg h1]
    exact ⟨by simp; omega, by simp; omega, by simp; omega⟩
theorem getAt_cases (s : ByteArray) (k : Nat) : (∃ c, c ≠ 0 ∧ getAt s k = .bad c) ∨ ∃ n f, k + 2 ≤ f ∧ n ≤ 4000 ∧ getAt s k = bodyAt s (bN s k) n f ∧ tagB (bN s k : Int) = true := by
  have h2 := bN_lt s (k + 2)
  unfold getAt
  repeat' split
  all_goals first
    | exact .inl ⟨_, by decide, rfl⟩
    | exact .inr ⟨_, _, by omega, by omega, rfl, by simp_all⟩
/-- Where a thing is got, the place goes on, and stays in the text. -/
theorem getAt_at {s : ByteArray} {k : Nat} (h : (getAt s k).code = 0) : k + 2 ≤ (getAt s k).at'.toNat ∧ (getAt s k).at'.toNat ≤ s.size ∧ 0 ≤ (getAt s k).at' := by
  rcases getAt_cases s k with ⟨c, hc, e⟩ | ⟨n, f, hf, _, e, _⟩
  · rw [e] at h; exact absurd h hc
  · rw [e] at h ⊢
    have := bodyAt_at h
    omega
end Go.Proofs.YtegmmaomaegjjaaGreatDoor
namespace Go.Proofs.YtegmmaomaegjjaaGreatDoor
open Go.RowKit

/-- A number's bytes, the highest first; f + 1 at most. -/
def intF : Nat → Int → List Int
  | 0, n => [n % 256]
  | f + 1, n => if -128 ≤ n ∧ n < 128 then [n % 256] else intF f (n / 256) ++ [n % 256]
def intL (n : Int) : List Int := intF 7 n
def lim : Nat → Int
  | 0 => 128
  | f + 1 => 256 * lim f
theorem lim7 : lim 7 = 9223372036854775808 := by decide
def Fits (f : Nat) (m : Int) : Prop := -(lim f) ≤ m ∧ m < lim f
theorem intF_last {f : Nat} {m : Int} (h0 : -128 ≤ m) (h1 : m < 128) : intF f m = [m % 256] := by
  cases f with
  | zero => rfl
  | succ f => rw [intF, if_pos ⟨h0, h1⟩]
theorem intF_more {f : Nat} {m : Int} (h : ¬(-128 ≤ m ∧ m < 128)) (hf : Fits f m) : ∃ g, f = g + 1 ∧ Fits g (m / 256) ∧ intF f m = intF g (m / 256) ++ [m % 256] := by
  cases f with
  | zero => unfold Fits lim at hf; omega
  | succ g =>
    refine ⟨g, rfl, ?_, by rw [intF, if_neg h]⟩
    unfold Fits at *
    simp only [lim] at hf
    omega
theorem intF_len : ∀ (f : Nat) (m : Int), 1 ≤ (intF f m).length ∧ (intF f m).length ≤ f + 1
  | 0, _ => by simp [intF]
  | f + 1, m => by
    rw [intF]
    split
    · simp
    · have := intF_len f (m / 256)
      simp; omega
theorem intL_len (n : Int) : 1 ≤ (intL n).length ∧ (intL n).length ≤ 8 := intF_len 7 n
theorem intF_byte : ∀ (f : Nat) (m : Int) (x : Int), x ∈ intF f m → 0 ≤ x ∧ x < 256
  | 0, m, x, h => by simp [intF] at h; omega
  | f + 1, m, x, h => by
    rw [intF] at h
    split at h
    · simp at h; omega
    · rcases List.mem_append.1 h with h | h
      · exact intF_byte f _ x h
      · simp at h; omega
/-- A number without its sign. -/
def bareN (n : Int) : Nat := if n < 0 then (-n - 1).toNat else n.toNat
theorem bareN_div (n : Int) : bareN (n / 256) = bareN n / 256 := by
  unfold bareN
  split <;> split <;> omega
theorem bareN_low (n : Int) : bareN n < 128 ↔ -128 ≤ n ∧ n < 128 := by unfold bareN; split <;> omega
theorem bitLen_byte {x : Nat} (h : 128 ≤ x) (hx : x < 18446744073709551616) : Lib.bitLen x = 8 + Lib.bitLen (x / 256) := by
  by_cases h2 : 256 ≤ x
  · exact Lib.bitLen_shift8 x h2 hx
  · have e : x / 256 = 0 := by omega
    have e0 : Lib.bitLen 0 = 0 := by decide
    have g := Lib.bitLen_shift 7 x (by omega) (by omega)
    have e1 : x / 2 ^ 7 = 1 := by omega
    have e2 : Lib.bitLen 1 = 1 := by decide
    rw [e1, e2] at g
    rw [e, e0]; omega
theorem intF_bits : ∀ (f : Nat) (m : Int), Fits f m → bareN m < 18446744073709551616 → (intF f m).length = Lib.bitLen (bareN m) / 8 + 1
  | 0, m, h, _ => by
    have h2 : bareN m < 128 := (bareN_low m).2 (by unfold Fits lim at h; omega)
    have := Lib.bitLen_le (bareN m) 7 (by omega) (by omega)
    simp [intF]; omega
  | f + 1, m, h, hb => by
    by_cases c : -128 ≤ m ∧ m < 128
    · rw [intF, if_pos c]
      have h2 : bareN m < 128 := (bareN_low m).2 c
      have := Lib.bitLen_le (bareN m) 7 (by omega) (by omega)
      simp; omega
    · obtain ⟨g, e, hg, ee⟩ := intF_more c h
      obtain rfl : f = g := by omega
      have h2 : 128 ≤ bareN m := by rcases Nat.lt_or_ge (bareN m) 128 with h' | h'
                                    · exact absurd ((bareN_low m).1 h') c
                                    · exact h'
      rw [ee, List.length_append, intF_bits f (m / 256) hg (by rw [bareN_div]; omega), bareN_div, bitLen_byte h2 hb, List.length_singleton]
      omega
theorem fits7 {n : Int} (h0 : -9223372036854775808 ≤ n) (h1 : n ≤ 9223372036854775807) : Fits 7 n := by
  unfold Fits; rw [lim7]; omega
theorem intL_bits {n : Int} (h0 : -9223372036854775808 ≤ n) (h1 : n ≤ 9223372036854775807) : (intL n).length = Lib.bitLen (bareN n) / 8 + 1 :=
  intF_bits 7 n (fits7 h0 h1) (by unfold bareN; split <;> omega)
/-- The byte of weight 256 ^ i. -/
theorem intF_at : ∀ (f : Nat) (m : Int) (i : Nat), i < (intF f m).length → (intF f m).getD ((intF f m).length - 1 - i) 0 = m / 256 ^ i % 256
  | 0, m, i, h => by
    simp [intF] at h; subst h; simp [intF]
  | f + 1, m, i, h => by
    rw [intF] at h ⊢
    split at h
    · rename_i c
      rw [if_pos c]
      simp at h; subst h; simp
    · rename_i c
      rw [if_neg c]
      simp only [List.length_append, List.length_singleton] at h ⊢
      cases i with
      | zero => simp [List.getD]
      | succ i =>
        have ih := intF_at f (m / 256) i (by omega)
        rw [List.getD, List.getElem?_append_left (by omega)]
        rw [List.getD] at ih
        rw [show (intF f (m / 256)).length + 1 - 1 - (i + 1) = (intF f (m / 256)).length - 1 - i from by omega, ih, Int.ediv_ediv_of_nonneg (by omega)]
        congr 2
        rw [Int.pow_succ]; exact Int.mul_comm _ _
theorem intL_at {n : Int} {i : Nat} (h : i < (intL n).length) : (intL n).getD ((intL n).length - 1 - i) 0 = n / 256 ^ i % 256 := intF_at 7 n i h
end Go.Proofs.YtegmmaomaegjjaaGreatDoor
namespace Go.Proofs.YtegmmaomaegjjaaGreatDoor
open Go.RowKit

/-- The bytes of seven bits ahead of the last one, the highest first. -/
def sevH : Nat → Nat → List Int
  | 0, _ => []
  | f + 1, x => if x = 0 then [] else sevH f (x / 128) ++ [((x % 128 + 128 : Nat) : Int)]
def sevL (x : Nat) : List Int := sevH 9 (x / 128) ++ [((x % 128 : Nat) : Int)]
theorem sevH_zero (f : Nat) : sevH f 0 = [] := by cases f <;> simp [sevH]
theorem sevH_more {f x : Nat} (h : x ≠ 0) (hf : x < 128 ^ f) : ∃ g, f = g + 1 ∧ x / 128 < 128 ^ g ∧ sevH f x = sevH g (x / 128) ++ [((x % 128 + 128 : Nat) : Int)] := by
  cases f with
  | zero => simp at hf; omega
  | succ g => exact ⟨g, rfl, by rw [Nat.pow_succ] at hf; omega, by rw [sevH, if_neg h]⟩
theorem bitLen_seven {x : Nat} (h : x ≠ 0) (hx : x < 18446744073709551616) : (Lib.bitLen x + 6) / 7 = (Lib.bitLen (x / 128) + 6) / 7 + 1 := by
  by_cases h2 : 128 ≤ x
  · have := Lib.bitLen_shift 7 x h2 hx
    have e : x / 2 ^ 7 = x / 128 := rfl
    rw [e] at this
    omega
  · have e : x / 128 = 0 := by omega
    have e0 : Lib.bitLen 0 = 0 := by decide
    have l := Lib.bitLen_le x 7 (by omega) (by omega)
    have g := Lib.bitLen_half x h (by omega)
    rw [e, e0]; omega
theorem sevH_len : ∀ (f x : Nat), x < 128 ^ f → x < 18446744073709551616 → (sevH f x).length = (Lib.bitLen x + 6) / 7
  | f, x, h, hx => by
    by_cases h0 : x = 0
    · subst h0
      rw [sevH_zero]
      have e0 : Lib.bitLen 0 = 0 := by decide
      rw [e0]; rfl
    · obtain ⟨g, rfl, hg, e⟩ := sevH_more h0 h
      rw [e, List.length_append, sevH_len g (x / 128) hg (by omega), bitLen_seven h0 hx]
      rfl
theorem p9 : (128 : Nat) ^ 9 = 9223372036854775808 := by decide
theorem sevL_len {x : Nat} (hx : x < 9223372036854775808) : (sevL x).length = (Lib.bitLen (x / 128) + 6) / 7 + 1 := by
  rw [sevL, List.length_append, sevH_len 9 (x / 128) (by rw [p9]; omega) (by omega)]; rfl
/-- As impl counts them. -/
theorem sevL_count {x : Nat} (hx : x < 9223372036854775808) : (sevL x).length = max 1 ((Lib.bitLen x + 6) / 7) := by
  rw [sevL_len hx]
  by_cases h : x = 0
  · subst h; decide
  · rw [bitLen_seven h (by omega)]; omega
theorem sevL_small {x : Nat} (hx : x < 34359738368) : (sevL x).length ≤ 5 := by
  rw [sevL_len (by omega)]
  have := Lib.bitLen_le (x / 128) 28 (by omega) (by omega)
  omega
theorem sevL_pos (x : Nat) : 1 ≤ (sevL x).length := by simp [sevL]
theorem sevH_at : ∀ (f x i : Nat), x < 128 ^ f → i < (sevH f x).length → (sevH f x).getD ((sevH f x).length - 1 - i) 0 = ((x / 128 ^ i % 128 + 128 : Nat) : Int)
  | f, x, i, h, hi => by
    by_cases h0 : x = 0
    · subst h0; rw [sevH_zero] at hi; simp at hi
    · obtain ⟨g, rfl, hg, e⟩ := sevH_more h0 h
      rw [e] at hi ⊢
      simp only [List.length_append, List.length_singleton] at hi ⊢
      cases i with
      | zero => simp [List.getD]
      | succ i =>
        have ih := sevH_at g (x / 128) i hg (by omega)
        rw [List.getD] at ih
        rw [List.getD, List.getElem?_append_left (by omega), show (sevH g (x / 128)).length + 1 - 1 - (i + 1) = (sevH g (x / 128)).length - 1 - i from by omega, ih, Nat.div_div_eq_div_mul, Nat.pow_succ, Nat.mul_comm]
theorem sevL_last (x : Nat) : (sevL x).getD ((sevL x).length - 1) 0 = ((x % 128 : Nat) : Int) := by
  simp [sevL, List.getD]
theorem sevL_at {x i : Nat} (hx : x < 9223372036854775808) (h0 : 0 < i) (hi : i < (sevL x).length) : (sevL x).getD ((sevL x).length - 1 - i) 0 = ((x / 128 ^ i % 128 + 128 : Nat) : Int) := by
  obtain ⟨j, rfl⟩ : ∃ j, i = j + 1 := ⟨i - 1, by omega⟩
  unfold sevL at hi ⊢
  simp only [List.length_append, List.length_singleton] at hi ⊢
  have ih := sevH_at 9 (x / 128) j (by rw [p9]; omega) (by omega)
  rw [List.getD] at ih
  rw [List.getD, List.getElem?_append_left (by omega), show (sevH 9 (x / 128)).length + 1 - 1 - (j + 1) = (sevH 9 (x / 128)).length - 1 - j from by omega, ih, Nat.div_div_eq_div_mul, Nat.pow_succ, Nat.mul_comm]
theorem strOfNums_append (a b : List Int) : strOfNums (a ++ b) = strOfNums a ++ strOfNums b := by
  rw [strOfNums, strOfNums, strOfNums, ByteArray.mk_append_mk]
  simp
/-- The most that the second arc may be. -/
def most2 (x : Int) : Int := if x = 2 then 100 else 39
/-- Are they arcs? -/
def arcsB (l : List Int) : Bool :=
  decide (2 ≤ l.length) && decide (l.length ≤ 10) && decide (0 ≤ l.getD 0 0) && decide (l.getD 0 0 ≤ 2) && decide (0 ≤ l.getD 1 0) && decide (l.getD 1 0 ≤ most2 (l.getD 0 0)) && (l.drop 2).all fun x => decide (0 ≤ x) && decide (x ≤ 2147483647)
theorem arcsB_iff {l : List Int} : arcsB l = true ↔ 2 ≤ l.length ∧ l.length ≤ 10 ∧ 0 ≤ l.getD 0 0 ∧ l.getD 0 0 ≤ 2 ∧ 0 ≤ l.getD 1 0 ∧ l.getD 1 0 ≤ most2 (l.getD 0 0) ∧ ∀ j, 2 ≤ j → j < l.length → 0 ≤ l.getD j 0 ∧ l.getD j 0 ≤ 2147483647 := by
  unfold arcsB
  simp only [Bool.and_eq_true, decide_eq_true_eq, List.all_eq_true, and_assoc]
  constructor
  · rintro ⟨a, b, c, d, e, f, g⟩
    refine ⟨a, b, c, d, e, f, fun j h1 h2 => ?_⟩
    have hm : l.getD j 0 ∈ l.drop 2 := by
      rw [List.getD, List.getElem?_eq_getElem h2]
      refine List.mem_iff_getElem?.2 ⟨j - 2, ?_⟩
      rw [List.getElem?_drop, show 2 + (j - 2) = j from by omega, List.getElem?_eq_getElem h2]; rfl
    exact g _ hm
  · rintro ⟨a, b, c, d, e, f, g⟩
    refine ⟨a, b, c, d, e, f, fun x hx => ?_⟩
    obtain ⟨i, hi⟩ := List.mem_iff_getElem?.1 hx
    rw [List.getElem?_drop] at hi
    have hl : 2 + i < l.length := by
      rcases Nat.lt_or_ge (2 + i) l.length with h | h
      · exact h
      · rw [List.getElem?_eq_none h] at hi; cases hi
    have := g (2 + i) (by omega) hl
    rw [List.getD, hi] at this
    exact this
/-- The arcs ahead of the k-th in bytes (k at least 2). -/
def oidTo (l : List Int) : Nat → List Int
  | 0 => sevL (40 * l.getD 0 0 + l.getD 1 0).toNat
  | k + 1 => oidTo l k ++ sevL (l.getD (k + 2) 0).toNat
def oidL (l : List Int) : List Int := oidTo l (l.length - 2)
def oidD (l : List Int) : ByteArray := if arcsB l = true then thingD 6 (strOfNums (oidL l)) else ByteArray.empty
theorem oidTo_len {l : List Int} (h : arcsB l = true) : ∀ k, k + 2 ≤ l.length → (oidTo l k).length ≤ 5 + 5 * k
  | 0, _ => by
    have := arcsB_iff.1 h
    have m : most2 (l.getD 0 0) ≤ 100 := by unfold most2; split <;> omega
    have := sevL_small (x := (40 * l.getD 0 0 + l.getD 1 0).toNat) (by omega)
    rw [oidTo]; omega
  | k + 1, hk => by
    have ih := oidTo_len h k (by omega)
    have := (arcsB_iff.1 h).2.2.2.2.2.2 (k + 2) (by omega) (by omega)
    have := sevL_small (x := (l.getD (k + 2) 0).toNat) (by omega)
    rw [oidTo, List.length_append]; omega
theorem oidL_len {l : List Int} (h : arcsB l = true) : (oidL l).length ≤ 45 := by
  have := arcsB_iff.1 h
  have := oidTo_len h (l.length - 2) (by omega)
  unfold oidL; omega
end Go.Proofs.YtegmmaomaegjjaaGreatDoor
namespace Go.Proofs.YtegmmaomaegjjaaGreatDoor
open Go.RowKit

theorem isEmpty_of {T : ByteArray} (h : T.size = 0) : T.toList.isEmpty = true := by rw [List.isEmpty_iff, Lib.toList_data, List.eq_nil_iff_length_eq_zero, ← Lib.size_eq]; exact h
theorem isEmpty_not {T : ByteArray} (h : T.size ≠ 0) : T.toList.isEmpty = false := by
  rw [← Bool.not_eq_true, List.isEmpty_iff, Lib.toList_data, List.eq_nil_iff_length_eq_zero, ← Lib.size_eq]; exact h
def seqD (b : ByteArray) : ByteArray := thingD 48 b
def oidT (l : List Int) : ByteArray := thingD 6 (strOfNums (oidL l))
def intD (n : Int) : ByteArray := thingD 2 (strOfNums (intL n))
def kindD : ByteArray := seqD (oidT [1, 3, 101, 112])
def nameD (t : ByteArray) : ByteArray := seqD (thingD 49 (seqD (oidT [2, 5, 4, 3] ++ thingD 12 t)))
def hostsD (ss : List ByteArray) : Nat → ByteArray
  | 0 => ⟨#[]⟩
  | k + 1 => hostsD ss k ++ thingD 130 (tAt ss k)
def namesD (ss : List ByteArray) : ByteArray := if ss.length = 0 then ⟨#[]⟩ else seqD (oidT [2, 5, 29, 17] ++ thingD 4 (seqD (hostsD ss ss.length)))
def soD : ByteArray := thingD 1 ⟨#[255]⟩
def caT : ByteArray := seqD (oidT [2, 5, 29, 19] ++ (soD ++ thingD 4 (seqD soD)))
def caD (b : Bool) : ByteArray := if b = true then caT else ⟨#[]⟩
def moreT (t : ByteArray) : ByteArray := if t.size = 0 then ⟨#[]⟩ else thingD 163 (seqD t)
def moreD (ss : List ByteArray) (ca : Bool) : ByteArray := moreT (namesD ss ++ caD ca)
def keyD (k : Int) : ByteArray := seqD (kindD ++ thingD 3 (⟨#[0]⟩ ++ putS k))
def bodyD (c : Paper) : ByteArray :=
  seqD (thingD 160 (intD 2) ++ (intD c.serial ++ (kindD ++ (nameD c.issuer ++ (seqD (intD c.fr ++ intD c.till) ++ (nameD c.subject ++ (keyD c.key ++ moreD c.names c.ca)))))))
noncomputable def certBodyD (c : Paper) : ByteArray := if paperB c = true then bodyD c else ⟨#[]⟩
theorem arcs_lit {a b c d : Int} (h : arcsB [a, b, c, d] = true) : (oidT [a, b, c, d]).size ≤ 49 := by
  have h1 := thingD_le 6 (strOfNums (oidL [a, b, c, d]))
  rw [strOfNums_size] at h1
  have := oidL_len h
  unfold oidT
  omega
theorem arcsKind : arcsB [1, 3, 101, 112] = true := by decide
theorem arcsName : arcsB [2, 5, 4, 3] = true := by decide
theorem arcs17 : arcsB [2, 5, 29, 17] = true := by decide
theorem arcs19 : arcsB [2, 5, 29, 19] = true := by decide
theorem seqD_le (b : ByteArray) : (seqD b).size ≤ b.size + 4 := thingD_le 48 b
theorem intD_le (n : Int) : (intD n).size ≤ 12 := by
  have h1 := thingD_le 2 (strOfNums (intL n))
  rw [strOfNums_size] at h1
  have := (intL_len n).2
  unfold intD
  omega
theorem kindD_le : kindD.size ≤ 53 := by
  have h1 := seqD_le (oidT [1, 3, 101, 112])
  have h2 := arcs_lit arcsKind
  unfold kindD
  omega
theorem nameD_le (t : ByteArray) : (nameD t).size ≤ t.size + 65 := by
  have h1 := seqD_le (thingD 49 (seqD (oidT [2, 5, 4, 3] ++ thingD 12 t)))
  have h2 := thingD_le 49 (seqD (oidT [2, 5, 4, 3] ++ thingD 12 t))
  have h3 := seqD_le (oidT [2, 5, 4, 3] ++ thingD 12 t)
  have h4 := thingD_le 12 t
  have h5 := arcs_lit arcsName
  rw [ByteArray.size_append] at h3
  unfold nameD
  omega
theorem hostsD_le {ss : List ByteArray} : ∀ k, (∀ i, i < k → (tAt ss i).size ≤ 40) → (hostsD ss k).size ≤ 44 * k
  | 0, _ => Nat.le_refl _
  | k + 1, h => by
    have h1 := hostsD_le k (fun i hi => h i (by omega))
    have h2 := thingD_le 130 (tAt ss k)
    have h3 := h k (by omega)
    show (hostsD ss k ++ thingD 130 (tAt ss k)).size ≤ _
    rw [ByteArray.size_append]
    omega
theorem soD_le : soD.size ≤ 5 := thingD_le 1 ⟨#[255]⟩
theorem caT_le : caT.size ≤ 80 := by
  have h1 := seqD_le (oidT [2, 5, 29, 19] ++ (soD ++ thingD 4 (seqD soD)))
  have h2 := arcs_lit arcs19
  have h3 := soD_le
  have h4 := thingD_le 4 (seqD soD)
  have h5 := seqD_le soD
  rw [ByteArray.size_append, ByteArray.size_append] at h1
  unfold caT
  omega
theorem keyD_le (k : Int) : (keyD k).size ≤ 72 := by
  have h1 := seqD_le (kindD ++ thingD 3 (⟨#[0]⟩ ++ putS k))
  have h2 := thingD_le 3 (⟨#[0]⟩ ++ putS k)
  have h3 := putS_size k
  have h4 := kindD_le
  have h5 : (⟨#[0]⟩ : ByteArray).size = 1 := rfl
  rw [ByteArray.size_append] at h1 h2
  unfold keyD
  omega
/-- What a name's text is no longer than. -/
theorem name_size {s : ByteArray} (h : nameB s = true) : s.size ≤ 40 := by
  have : NameOk s := by simpa [nameB] using h
  exact this.2.1
theorem okTo_name {ss : List ByteArray} : ∀ {n : Nat}, okTo ss n = true → ∀ i, i < n → (tAt ss i).size ≤ 40 := by
  intro n
  induction n with
  | zero => intro _ i hi; omega
  | succ n ih =>
    intro h i hi
    have h' : (okTo ss n && okN ss n) = true := h
    rw [Bool.and_eq_true] at h'
    by_cases e : i = n
    · subst e
      have := h'.2
      unfold okN at this
      rw [Bool.and_eq_true] at this
      exact name_size this.1
    · exact ih h'.1 i (by omega)
/-- What is known of a paper that is right but for its Sig. -/
structure PFits (c : Paper) : Prop where
  ser0 : 1 ≤ c.serial
  ser1 : c.serial ≤ 1000000000
  iss : c.issuer.size ≤ 40
  sub : c.subject.size ≤ 40
  fr0 : 0 ≤ c.fr
  fr1 : c.fr ≤ 1000000000
  till0 : 0 ≤ c.till
  till1 : c.till ≤ 1000000000
  key0 : 1 < c.key
  key1 : c.key < 2147483579
  len : c.names.length ≤ 5
  each : ∀ i, i < c.names.length → (tAt c.names i).size ≤ 40
theorem paper_fits {c : Paper} (h : paperB c = true) : PFits c := by
  unfold paperB at h
  simp only [Bool.and_eq_true, decide_eq_true_eq] at h
  obtain ⟨⟨⟨⟨⟨⟨⟨⟨h1, h2⟩, h3⟩, h4⟩, h5⟩, h6⟩, _⟩, h8⟩, h9⟩ := h
  unfold timeB at h5 h6
  simp only [Bool.and_eq_true, decide_eq_true_eq] at h5 h6
  have h8' := of_decide_eq_true h8
  unfold namesB at h9
  simp only [Bool.and_eq_true, decide_eq_true_eq] at h9
  exact ⟨h1, h2, name_size h3, name_size h4, h5.1, h5.2, h6.1, h6.2, h8'.1, h8'.2.1, h9.2, okTo_name h9.1⟩
theorem namesD_le {ss : List ByteArray} (h : ss.length ≤ 5) (h' : ∀ i, i < ss.length → (tAt ss i).size ≤ 40) : (namesD ss).size ≤ 290 := by
  unfold namesD
  split
  · exact Nat.zero_le _
  · have h1 := seqD_le (oidT [2, 5, 29, 17] ++ thingD 4 (seqD (hostsD ss ss.length)))
    have h2 := thingD_le 4 (seqD (hostsD ss ss.length))
    have h3 := seqD_le (hostsD ss ss.length)
    have h4 := hostsD_le (ss := ss) ss.length h'
    have h5 := arcs_lit arcs17
    rw [ByteArray.size_append] at h1
    omega
theorem caD_le (b : Bool) : (caD b).size ≤ 80 := by
  unfold caD
  split
  · exact caT_le
  · exact Nat.zero_le _
theorem moreD_le {ss : List ByteArray} (h : ss.length ≤ 5) (h' : ∀ i, i < ss.length → (tAt ss i).size ≤ 40) (ca : Bool) : (moreD ss ca).size ≤ 380 := by
  have h1 := namesD_le h h'
  have h2 := caD_le ca
  unfold moreD moreT
  split
  · exact Nat.zero_le _
  · have h3 := thingD_le 163 (seqD (namesD ss ++ caD ca))
    have h4 := seqD_le (namesD ss ++ caD ca)
    rw [ByteArray.size_append] at h4
    omega
end Go.Proofs.YtegmmaomaegjjaaGreatDoor
namespace Go.Proofs.YtegmmaomaegjjaaGreatDoor
open Go.RowKit

def sigT (k e s : Int) : ByteArray := ⟨#[0]⟩ ++ putS k ++ putS e ++ putS s
def sigD (k e s : Int) : ByteArray := thingD 3 (sigT k e s)
def bytesD (c : Paper) : ByteArray := seqD (bodyD c ++ (kindD ++ sigD c.sk c.se c.ss))
noncomputable def certBytesD (c : Paper) : ByteArray := if certB c = true then bytesD c else ⟨#[]⟩
theorem sigT_le (k e s : Int) : (sigT k e s).size ≤ 31 := by
  have h1 := putS_size k
  have h2 := putS_size e
  have h3 := putS_size s
  unfold sigT
  simp only [ByteArray.size_append]
  have h4 : (⟨#[0]⟩ : ByteArray).size = 1 := rfl
  omega
theorem sigD_le (k e s : Int) : (sigD k e s).size ≤ 35 := by
  have h1 := thingD_le 3 (sigT k e s)
  have h2 := sigT_le k e s
  unfold sigD
  omega
theorem bodyD_le {c : Paper} (h : PFits c) : (bodyD c).size ≤ 900 := by
  have y1 := intD_le 2
  have y2 := intD_le c.serial
  have y3 := kindD_le
  have y4 := nameD_le c.issuer
  have y5 := nameD_le c.subject
  have y6 := intD_le c.fr
  have y7 := intD_le c.till
  have y8 := thingD_le 160 (intD 2)
  have y9 := keyD_le c.key
  have y10 := seqD_le (intD c.fr ++ intD c.till)
  have y11 := moreD_le h.len h.each c.ca
  have y12 := h.iss
  have y13 := h.sub
  have z := seqD_le (thingD 160 (intD 2) ++ (intD c.serial ++ (kindD ++ (nameD c.issuer ++ (seqD (intD c.fr ++ intD c.till) ++ (nameD c.subject ++ (keyD c.key ++ moreD c.names c.ca)))))))
  simp only [ByteArray.size_append] at z y10
  unfold bodyD
  omega
theorem certB_paper {c : Paper} (h : certB c = true) : paperB c = true := by
  unfold certB at h
  rw [Bool.and_eq_true] at h
  exact h.1
theorem certB_sig {c : Paper} (h : certB c = true) : (1 < c.sk ∧ c.sk < 2147483579) ∧ (0 ≤ c.se ∧ c.se < 1073741789) ∧ 0 ≤ c.ss ∧ c.ss < 1073741789 := by
  unfold certB sigRB at h
  simp only [Bool.and_eq_true] at h
  have h1 := of_decide_eq_true h.2.1.1
  exact ⟨⟨h1.1, h1.2.1⟩, of_decide_eq_true h.2.1.2, of_decide_eq_true h.2.2⟩
end Go.Proofs.YtegmmaomaegjjaaGreatDoor
