/- impl.isRemainder, impl.SigRight, walked. An error of errors.New's make in one of the program's variables. The methods of impl.signedBox over impl.Csr: right, walked. impl.SecretRight, walked. impl.digestNumber, walked: the number of the digest of two texts, the one behind the other. impl.tooLong, walked. impl.GroupPow, walked. impl.Challenge, walked. impl.PublicOf, walked. impl.signPower, the method challenge, impl.SignText, walked. impl.ModMul, walked. impl.GroupMul and impl.GroupPow, walked. -/
import Derived.Test.YthofeoelndplpaaGreatDoorASg02
import Derived.Test.YthofeoelndplpaaGreatDoorASg01
import Derived.Below
import Derived.Test.YthofeoelndplpaaGreatDoorASg13
import Derived.Deep.Cut
import Derived.Deep.RegionHeld3
import Derived.Test.YthofeoelndplpaaGreatDoorASg05
import Derived.Test.YthofeoelndplpaaGreatDoorASg12
import Derived.Test.YthofeoelndplpaaGreatDoorASg04
import Derived.Test.YthofeoelndplpaaGreatDoorASg08
namespace Go.Proofs.YthofeoelndplpaaGreatDoor
open Go.RowKit

theorem implRem (n : Int) (w : World) :
    Calls Tryz.prog 120 #[.int .i64 n] w fun e w' => e = .returned (.bool (remB n)) ∧ w' = w := by
  by_cases h1 : 0 ≤ n
  · by_cases h2 : n < 1073741789
    · have e : remB n = true := decide_eq_true ⟨h1, h2⟩
      rw [e]
      go_enter Tryz.func120, Tryz.ntmps120
      go_wp2
      go_ret
      exact ⟨rfl, rfl⟩
    · have e : remB n = false := decide_eq_false (by omega)
      rw [e]
      go_enter Tryz.func120, Tryz.ntmps120
      go_wp2
      go_ret
      exact ⟨rfl, rfl⟩
  · have e : remB n = false := decide_eq_false (by omega)
    rw [e]
    go_enter Tryz.func120, Tryz.ntmps120
    go_wp2
    go_ret
    exact ⟨rfl, rfl⟩
set_option maxHeartbeats 1000000 in
set_option maxRecDepth 100000 in
theorem implSigRight (k e s : Int) (w : World) :
    Calls Tryz.prog 100 #[.agg #[.int .i64 k, .int .i64 e, .int .i64 s]] w fun r w' => r = .returned (.bool (sigRB k e s)) ∧ Below w.heap.size w w' := by
  go_enter Tryz.func100, Tryz.ntmps100
  go_wp2_with fail
  refine (implGroupRight k _).mono ?_
  rintro e1 w1 ⟨rfl, hb1⟩
  have HB : Hid (Below w.heap.size w w1) := ((Below.refl _ w).alloc (Nat.le_refl _) _).trans (hb1.mono (by simp))
  have c1 : w1.cell? ⟨w.heap.size, 1, none⟩ = some (.int .i64 e) := by rw [hb1.cell (p := ⟨w.heap.size, 1, none⟩) (by simp)]; simp
  have c2 : w1.cell? ⟨w.heap.size, 2, none⟩ = some (.int .i64 s) := by rw [hb1.cell (p := ⟨w.heap.size, 2, none⟩) (by simp)]; simp
  clear hb1
  by_cases h1 : rightG k = true
  · rw [h1]
    go_wp2_with fail
    refine (implRem e _).mono ?_
    rintro e2 w2 ⟨rfl, rfl⟩
    by_cases h2 : remB e = true
    · rw [h2]
      go_wp2_with fail
      refine (implRem s _).mono ?_
      rintro e3 w3 ⟨rfl, rfl⟩
      generalize hb3 : remB s = b
      go_wp2
      go_ret
      exact ⟨by simp [sigRB, *], HB.out⟩
    · rw [Bool.not_eq_true] at h2
      rw [h2]
      go_wp2
      go_ret
      exact ⟨by simp [sigRB, *], HB.out⟩
  · rw [Bool.not_eq_true] at h1
    rw [h1]
    go_wp2
    go_ret
    exact ⟨by simp [sigRB, *], HB.out⟩
end Go.Proofs.YthofeoelndplpaaGreatDoor
namespace Go.Proofs.YthofeoelndplpaaGreatDoor
open Go.RowKit

/-- Variable g holds the error at b. -/
def ErrV (g : Nat) (w : World) (b : Addr) : Prop := w.cell? ⟨g, 0, none⟩ = some (.iface 159 (.pointer (some b))) ∧ ∃ c t, w.heap[b.block]? = some (.cells c t (0, 0))
theorem ErrV.lt {g : Nat} {w : World} {b : Addr} (h : ErrV g w b) : g < w.heap.size := World.block_lt_of_cell? w _ h.1
theorem ErrV.keep {g : Nat} {w w' : World} {b : Addr} (h : ErrV g w b) (hb : Below w.heap.size w w') : ErrV g w' b := by
  refine ⟨by rw [hb.cell h.lt]; exact h.1, ?_⟩
  obtain ⟨c, t, e⟩ := h.2
  exact ⟨c, t, by rw [hb.block _ (heap_lt e)]; exact e⟩
/-- The variable 'not right' holds an error. -/
def Err1 (w : World) : Prop := ∃ b, ErrV 0 w b
theorem Err1.keep {w w' : World} (h : Err1 w) (hb : Below w.heap.size w w') : Err1 w' := by obtain ⟨b, h⟩ := h; exact ⟨b, h.keep hb⟩
end Go.Proofs.YthofeoelndplpaaGreatDoor
namespace Go.Proofs.YthofeoelndplpaaGreatDoor
open Go.RowKit

set_option linter.unusedSimpArgs false in
set_option maxHeartbeats 4000000 in
set_option maxRecDepth 100000 in
theorem rightCsr (c : Ask) (v nv : Value) (D : ByteArray) (E : Value) (w : World) (hE : w.cell? ⟨0, 0, none⟩ = some E) :
    Calls Tryz.prog 74 #[c.box v D nv] w fun e w' => e = .returned (if (decide (D.size ≠ 0) && sigRB c.sk c.se c.ss) = true then .nilIface else E) ∧ Below w.heap.size w w' := by
  obtain ⟨R, hR⟩ : ∃ R : Value, R = if (decide (D.size ≠ 0) && sigRB c.sk c.se c.ss) = true then .nilIface else E := ⟨_, rfl⟩
  rw [← hR]
  have HR : Hid (R = if (decide (D.size ≠ 0) && sigRB c.sk c.se c.ss) = true then .nilIface else E) := hR
  clear hR
  obtain ⟨key, names, sk, se, ss⟩ := c
  unfold Ask.box
  simp only at HR ⊢
  have hEl := World.block_lt_of_cell? w _ hE
  obtain ⟨w1, hw1⟩ : ∃ w1, w1 = w.alloc (.cells #[.int .i64 key, v, .int .i64 sk, .int .i64 se, .int .i64 ss, .string D, .int .i64 sk, .int .i64 se, .int .i64 ss, nv] 58 (0, 0)) := ⟨_, rfl⟩
  have r0 : w1.heap[w.heap.size]? = some (.cells [Value.int .i64 key, v, .int .i64 sk, .int .i64 se, .int .i64 ss, .string D, .int .i64 sk, .int .i64 se, .int .i64 ss, nv].toArray 58 (0, 0)) := by rw [hw1]; exact heap_alloc_new w _
  have B1 : Hid (Below w.heap.size w w1) := by rw [hw1]; exact (Below.refl _ _).alloc (Nat.le_refl _) _
  have z1 : w.heap.size < w1.heap.size := by rw [hw1]; simp
  have HK : Hid (∀ V, Below w1.heap.size w1 V → V.cell? ⟨w.heap.size, 0, none⟩ = some (.int .i64 key) ∧ V.cell? ⟨w.heap.size, 1, none⟩ = some (v) ∧ V.cell? ⟨w.heap.size, 2, none⟩ = some (.int .i64 sk) ∧ V.cell? ⟨w.heap.size, 3, none⟩ = some (.int .i64 se) ∧ V.cell? ⟨w.heap.size, 4, none⟩ = some (.int .i64 ss) ∧ V.cell? ⟨w.heap.size, 5, none⟩ = some (.string D) ∧ V.cell? ⟨w.heap.size, 6, none⟩ = some (.int .i64 sk) ∧ V.cell? ⟨w.heap.size, 7, none⟩ = some (.int .i64 se) ∧ V.cell? ⟨w.heap.size, 8, none⟩ = some (.int .i64 ss) ∧ V.cell? ⟨w.heap.size, 9, none⟩ = some (nv)) := fun V hV => by
    have hP := (hV.block _ z1).trans r0
    exact ⟨rowFacts hP 0 _ rfl, rowFacts hP 1 _ rfl, rowFacts hP 2 _ rfl, rowFacts hP 3 _ rfl, rowFacts hP 4 _ rfl, rowFacts hP 5 _ rfl, rowFacts hP 6 _ rfl, rowFacts hP 7 _ rfl, rowFacts hP 8 _ rfl, rowFacts hP 9 _ rfl⟩
  have HB : Hid (∀ V, Below w1.heap.size w1 V → Below w.heap.size w V) := fun V hV => B1.out.trans (hV.mono B1.out.size)
  have I1 : Hid (Below w1.heap.size w1 w1) := Below.refl _ _
  have D1 : Hid (Below w1.heap.size w1 w1.drew) := I1.out.drew
  clear r0 z1 B1
  have HE : Hid (∀ V, Below w.heap.size w V → V.cell? ⟨0, 0, none⟩ = some E) := fun V hV => by rw [hV.cell hEl]; exact hE
  clear hE hEl
  obtain ⟨c0, c1, c2, c3, c4, c5, c6, c7, c8, c9⟩ := HK.out w1 I1.out
  go_enter Tryz.func74, Tryz.ntmps74
  go_upto_region 1 with fail
  rw [← hw1]
  clear hw1
  by_cases h0 : D.size = 0
  · have e0 := HE.out _ (HB.out _ I1.out)
    have x0 := isEmpty_of h0
    have HF : Hid (R = E) := by show _ = _; rw [HR.out, if_neg (by simp [h0])]
    go_wp2
    go_ret
    exact ⟨by rw [HF.out]; rfl, HB.out _ I1.out⟩
  · have x0 := isEmpty_not h0
    go_wp2_with fail
    refine (implSigRight sk se ss _).mono ?_
    rintro e w2 ⟨rfl, b2⟩
    have K2 : Hid (Below w1.heap.size w1 w2) := b2
    clear b2 c0 c1 c2 c3 c4 c5 c6 c7 c8 c9
    cases hs : sigRB sk se ss with
    | false =>
      have e0 := HE.out _ (HB.out _ K2.out)
      have HF : Hid (R = E) := by show _ = _; rw [HR.out, hs, if_neg (by simp)]
      go_wp2
      go_ret
      exact ⟨by rw [HF.out]; rfl, HB.out _ K2.out⟩
    | true =>
      have HF : Hid (R = .nilIface) := by show _ = _; rw [HR.out, hs, decide_eq_true h0]; rfl
      go_wp2
      go_ret
      exact ⟨by rw [HF.out]; rfl, HB.out _ K2.out⟩
end Go.Proofs.YthofeoelndplpaaGreatDoor
namespace Go.Proofs.YthofeoelndplpaaGreatDoor
open Go.RowKit

theorem implSecret (x : Int) (w : World) :
    Calls Tryz.prog 69 #[.int .i64 x] w fun e w' => e = .returned (.bool (secB x)) ∧ w' = w := by
  by_cases h1 : 1 ≤ x
  · by_cases h2 : x < 1073741789
    · have e : secB x = true := decide_eq_true ⟨h1, h2⟩
      rw [e]
      go_enter Tryz.func69, Tryz.ntmps69
      go_wp2
      go_ret
      exact ⟨rfl, rfl⟩
    · have e : secB x = false := decide_eq_false (by omega)
      rw [e]
      go_enter Tryz.func69, Tryz.ntmps69
      go_wp2
      go_ret
      exact ⟨rfl, rfl⟩
  · have e : secB x = false := decide_eq_false (by omega)
    rw [e]
    go_enter Tryz.func69, Tryz.ntmps69
    go_wp2
    go_ret
    exact ⟨rfl, rfl⟩
end Go.Proofs.YthofeoelndplpaaGreatDoor
namespace Go.Proofs.YthofeoelndplpaaGreatDoor
open Go.RowKit

set_option maxHeartbeats 1000000 in
set_option maxRecDepth 100000 in
theorem digestNumber (h t : ByteArray) (w : World) (hh : h.size ≤ 100) (ht : t.size ≤ 20000) (hk : Keys w) :
    Calls Tryz.prog 118 #[.string h, .string t] w fun e w' => e = .returned (.int .i64 (dnum (h ++ t) : Nat)) ∧ Below w.heap.size w w' := by
  have hkp := hk.pos
  go_enter Tryz.func118, Tryz.ntmps118
  go_wp2_with fail
  refine (beginW w).mono ?_
  rintro e w1 ⟨rfl, hb1⟩
  have hs1 := hb1.size
  have HB1 : Hid (Below w.heap.size w w1) := hb1
  clear hb1
  go_wp2_with fail
  generalize hw2 : w1.alloc _ = w2
  have hg2 : w2.heap[w1.heap.size]? = some (.cells (workCells st0 ByteArray.empty 0).toArray 134 (0, 0)) := by rw [← hw2]; exact heap_alloc_new w1 _
  have hb2 : Below w.heap.size w w2 := by rw [← hw2]; exact HB1.out.alloc hs1 _
  refine (takeW st0 ByteArray.empty h 0 w2 w w1.heap.size w.heap.size 134 (by simp) (by omega) (by omega) (by omega) hg2 hb2 hs1 hk hkp).mono ?_
  rintro e w3 ⟨rfl, hg3, hb3⟩
  rw [empty_append] at hg3
  have hg3' : w3.heap[w1.heap.size]? = some (.cells (workCells (more st0 h) (restOf h) (h.size : Nat)).toArray 134 (0, 0)) := by simpa using hg3
  have HG3 : Hid _ := hg3'
  have HB3 : Hid (Below w.heap.size w w3) := hb3
  have HK : Hid (Keys w) := hk
  clear hg3 hg3' hb3 hg2 hb2 hw2 hk
  go_wp2_with fail
  refine (takeW (more st0 h) (restOf h) t (h.size : Nat) w3 w w1.heap.size w.heap.size 134 (by rw [size_restOf]; omega) (by omega) (by omega) (by omega) HG3.out HB3.out hs1 HK.out hkp).mono ?_
  rintro e w4 ⟨rfl, hg4, hb4⟩
  rw [more_more, rest_more] at hg4
  have hg4' : w4.heap[w1.heap.size]? = some (.cells (workCells (more st0 (h ++ t)) (restOf (h ++ t)) ((h ++ t).size : Nat)).toArray 134 (0, 0)) := by rw [size_append]; simpa using hg4
  have HG4 : Hid _ := hg4'
  have HB4 : Hid (Below w.heap.size w w4) := hb4
  clear hg4 hg4' hb4
  go_wp2_with fail
  refine (endW (more st0 (h ++ t)) (restOf (h ++ t)) (h ++ t).size w4 w w1.heap.size w.heap.size 134 (by rw [size_restOf]; omega) (by rw [size_append]; omega) HG4.out HB4.out hs1 HK.out hkp).mono ?_
  rintro e w5 ⟨rfl, hb5⟩
  have HB5 : Hid (Below w.heap.size w w5) := hb5
  clear hb5 HG3 HG4 HB3 HB4 HK HB1
  have hd := digOf_size (h ++ t)
  obtain ⟨D, hD⟩ : ∃ D, strOfNums (digL (endSt (more st0 (h ++ t)) (restOf (h ++ t)) (h ++ t).size)) = D := ⟨_, rfl⟩
  have HD : Hid (digOf (h ++ t) = D) := hD
  rw [show digOf (h ++ t) = D from hD] at hd
  rw [hD]
  clear hD
  go_wp2_with fail
  go_loopw [15, 7] (fun i n wr => ∃ k : Nat, k ≤ 7 ∧ i = .int .i64 k ∧ n = .int .i64 (bnum D k : Nat) ∧ wr = w5) (fun i _ _ => 7 - (intOf i).toNat)
  case atStart => exact ⟨0, by omega, rfl, rfl, rfl⟩
  case round =>
    obtain ⟨k, hk7, rfl, rfl, rfl⟩ := hrel
    by_cases hlt : k < 7
    · have hb := bnum_le D (k := k) (by omega)
      have hc := (byteAt D k).toNat_lt
      have hj := i64_join (bnum D k) (byteAt D k).toNat hb (by omega)
      have hg : byteAt D k = D[k] := byteAt_get D k (by omega)
      have HN : Hid (bnum D (k + 1) = 256 * bnum D k + (byteAt D k).toNat) := rfl
      rw [hg] at hj
      have HG : Hid (byteAt D k = D[k]) := hg
      clear hg hc
      have hb' : (bnum D k : Int) ≤ 281474976710655 := by omega
      have hb0 : (0 : Int) ≤ (bnum D k : Int) := by omega
      obtain ⟨y, hy⟩ : ∃ y : Int, y = (bnum D k : Int) := ⟨_, rfl⟩
      have HY : Hid (y = (bnum D k : Int)) := hy
      obtain ⟨v, hv⟩ : ∃ v : Int, v = ((256 * bnum D k + D[k].toNat : Nat) : Int) := ⟨_, rfl⟩
      have HV : Hid (v = ((256 * bnum D k + D[k].toNat : Nat) : Int)) := hv
      rw [← hv] at hj
      rw [← hy] at hb' hb0 hj ⊢
      have hc' := u8_lt D[k]
      clear hb hy hv
      go_wp2
      go_roundw
      case rel => exact ⟨k + 1, by omega, by go_num, by rw [HN.out, HG.out, HV.out], trivial⟩
      case measure => simp [intOf]; omega
    · go_wp2
      go_ret
      exact ⟨ret_int (by unfold dnum; rw [HD.out, show k = 7 from by omega]), HB5.out⟩
end Go.Proofs.YthofeoelndplpaaGreatDoor
namespace Go.Proofs.YthofeoelndplpaaGreatDoor
open Go.RowKit

theorem tooLong (s : ByteArray) (w : World) (hs : s.size ≤ maxLen) :
    Calls Tryz.prog 97 #[.string s] w fun e w' => e = .returned (.bool (decide (20000 < s.size))) ∧ w' = w := by
  unfold maxLen at hs
  go_enter Tryz.func97, Tryz.ntmps97
  go_wp2
  go_ret
  exact ⟨by simp; omega, rfl⟩
end Go.Proofs.YthofeoelndplpaaGreatDoor
namespace Go.Proofs.YthofeoelndplpaaGreatDoor
open Go.RowKit

set_option maxHeartbeats 1000000 in
set_option maxRecDepth 100000 in
theorem implGroupPow (y n : Int) (w : World) (hn : n ≤ 9223372036854775807) :
    Calls Tryz.prog 70 #[.int .i64 y, .int .i64 n] w fun e w' => e = .returned (.int .i64 (gpowA y n)) ∧ Below w.heap.size w w' := by
  by_cases h1 : unitB y = true
  · by_cases h2 : n < 0
    · have ea : Hid (gpowA y n = 0) := by
        show _ = _
        rw [gpowA, if_neg (by omega)]
      go_enter Tryz.func70, Tryz.ntmps70
      go_wp2_with fail
      refine (implUnit y _).mono ?_
      rintro e w' ⟨rfl, rfl⟩
      rw [h1]
      go_wp2
      go_ret
      exact ⟨ret_int ea.out.symm, Below.refl _ _⟩
    · obtain ⟨x, rfl, x1, x2⟩ := unitB_nat h1
      obtain ⟨k, rfl⟩ := nat_of h2
      rw [gpowA_nat x k h1]
      have t1 : (k : Int).tmod 1073741789 = ((k % 1073741789 : Nat) : Int) := tmodN k 1073741789
      have hb1 : k % 1073741789 ≤ 9223372036854775807 := by omega
      generalize k % 1073741789 = j at *
      have HC : Hid (∀ v : World, Calls Tryz.prog 96 #[.int .i64 (x : Int), .int .i64 (j : Int), .int .i64 2147483579] v fun e w' => e = .returned (.int .i64 ((pm x j 2147483579 : Nat) : Int)) ∧ Below v.heap.size v w') := fun v => by
        have h := implModPow x j 2147483579 v (by omega)
        rw [show (2147483579 : Int) = ((2147483579 : Nat) : Int) from rfl, powA_nat x j 2147483579 modP] at h
        exact h
      generalize pm x j 2147483579 = z at *
      go_enter Tryz.func70, Tryz.ntmps70
      go_wp2_with fail
      refine (implUnit x _).mono ?_
      rintro e w' ⟨rfl, rfl⟩
      rw [h1]
      go_wp2_with fail
      refine (HC.out _).mono ?_
      rintro e w' ⟨rfl, hb⟩
      have HB : Hid _ := hb
      clear hb
      go_wp2
      go_ret
      exact ⟨rfl, HB.out⟩
  · rw [Bool.not_eq_true] at h1
    have ea : Hid (gpowA y n = 0) := by
      show _ = _
      rw [gpowA, if_neg (by rw [h1]; simp)]
    go_enter Tryz.func70, Tryz.ntmps70
    go_wp2_with fail
    refine (implUnit y _).mono ?_
    rintro e w' ⟨rfl, rfl⟩
    rw [h1]
    go_wp2
    go_ret
    exact ⟨ret_int ea.out.symm, Below.refl _ _⟩
end Go.Proofs.YthofeoelndplpaaGreatDoor
namespace Go.Proofs.YthofeoelndplpaaGreatDoor
open Go.RowKit

set_option maxHeartbeats 1000000 in
set_option maxRecDepth 100000 in
theorem implChallenge (r key : Int) (t : ByteArray) (w : World) (ht : t.size ≤ maxLen) (hk : Keys w) :
    Calls Tryz.prog 119 #[.int .i64 r, .int .i64 key, .string t] w fun e w' => e = .returned (.int .i64 (challA r key t)) ∧ Below w.heap.size w w' := by
  have HK : Hid (Keys w) := hk
  have hkp := hk.pos
  clear hk
  by_cases h1 : 20000 < t.size
  · have ea : Hid (challA r key t = 0) := by
      show _ = _
      rw [challA, if_neg (by omega)]
    have hd : decide (20000 < t.size) = true := decide_eq_true h1
    go_enter Tryz.func119, Tryz.ntmps119
    go_wp2_with fail
    refine (tooLong t _ ht).mono ?_
    rintro e w' ⟨rfl, rfl⟩
    rw [hd]
    clear h1 hd ht
    go_wp2
    go_ret
    exact ⟨ret_int ea.out.symm, Below.refl _ _⟩
  have hd : decide (20000 < t.size) = false := decide_eq_false h1
  by_cases h2 : unitB r = true
  · by_cases h3 : unitB key = true
    · have ea : Hid (challA r key t = (chal r key t : Int)) := by
        show _ = _
        rw [challA, if_pos ⟨by omega, h2, h3⟩]
      have b2 : 1 ≤ r ∧ r < 2147483579 := of_decide_eq_true h2
      have b3 : 1 ≤ key ∧ key < 2147483579 := of_decide_eq_true h3
      have s2 := putS_size r
      have s3 := putS_size key
      have P2 : Hid (∀ v : World, Calls Tryz.prog 104 #[.int .i64 r] v fun e w' => e = .returned (.string (putS r)) ∧ Below v.heap.size v w') := fun v => implPut r v (by omega) (by omega)
      have P3 : Hid (∀ v : World, Calls Tryz.prog 104 #[.int .i64 key] v fun e w' => e = .returned (.string (putS key)) ∧ Below v.heap.size v w') := fun v => implPut key v (by omega) (by omega)
      have EC : Hid ((dnum (putS r ++ putS key ++ t) % 1073741789 : Nat) = chal r key t) := rfl
      have ld := dnum_lt (putS r ++ putS key ++ t)
      have LD : Hid (∀ a b : ByteArray, a = putS r → b = putS key → dnum (a ++ b ++ t) < 72057594037927936 ∧ dnum (a ++ b ++ t) % 1073741789 = chal r key t) := fun a b ha hb => by subst ha hb; exact ⟨ld, EC.out⟩
      generalize hp : putS r = p at s2 P2
      generalize hq : putS key = q at s3 P3
      have LD' := LD.out p q hp.symm hq.symm
      have LE : Hid (dnum (p ++ q ++ t) < 72057594037927936 ∧ dnum (p ++ q ++ t) % 1073741789 = chal r key t) := LD'
      clear LD LD' ld EC hp hq
      go_enter Tryz.func119, Tryz.ntmps119
      go_wp2_with fail
      refine (tooLong t _ ht).mono ?_
      rintro e w' ⟨rfl, rfl⟩
      rw [hd]
      go_wp2_with fail
      refine (implUnit r _).mono ?_
      rintro e w' ⟨rfl, rfl⟩
      rw [h2]
      go_wp2_with fail
      refine (implUnit key _).mono ?_
      rintro e w' ⟨rfl, rfl⟩
      rw [h3]
      go_wp2_with fail
      refine (P2.out _).mono ?_
      rintro e w1 ⟨rfl, hb1⟩
      have B1 : Hid (Below w'.heap.size w' w1) := hb1
      have z1 := hb1.size
      clear hb1
      go_wp2_with fail
      refine (P3.out _).mono ?_
      rintro e w2 ⟨rfl, hb2⟩
      have B2 : Hid (Below w'.heap.size w' w2) := B1.out.trans (hb2.mono z1)
      have z2 := B2.out.size
      clear hb2
      go_wp2_with fail
      refine (joinTexts p q _ (by omega) (by omega)).mono ?_
      rintro e w3 ⟨rfl, hb3⟩
      have B3 : Hid (Below w'.heap.size w' w3) := B2.out.trans (hb3.mono z2)
      have z3 := B3.out.size
      have K3 : Hid (Keys w3) := HK.out.below B3.out hkp
      clear hb3
      go_wp2_with fail
      refine (digestNumber (p ++ q) t _ (by rw [size_append]; omega) (by omega) K3.out).mono ?_
      rintro e w4 ⟨rfl, hb4⟩
      have B4 : Hid (Below w'.heap.size w' w4) := B3.out.trans (hb4.mono z3)
      clear hb4
      obtain ⟨l1, l2⟩ := LE.out
      generalize dnum (p ++ q ++ t) = d at l1 l2
      have t1 : (d : Int).tmod 1073741789 = ((d % 1073741789 : Nat) : Int) := tmodN d 1073741789
      rw [l2] at t1
      clear LE l1 l2
      go_wp2
      go_ret
      exact ⟨ret_int ea.out.symm, B4.out⟩
    · rw [Bool.not_eq_true] at h3
      have ea : Hid (challA r key t = 0) := by
        show _ = _
        rw [challA, if_neg (by rw [h3]; simp)]
      go_enter Tryz.func119, Tryz.ntmps119
      go_wp2_with fail
      refine (tooLong t _ ht).mono ?_
      rintro e w' ⟨rfl, rfl⟩
      rw [hd]
      go_wp2_with fail
      refine (implUnit r _).mono ?_
      rintro e w' ⟨rfl, rfl⟩
      rw [h2]
      go_wp2_with fail
      refine (implUnit key _).mono ?_
      rintro e w' ⟨rfl, rfl⟩
      rw [h3]
      go_wp2
      go_ret
      exact ⟨ret_int ea.out.symm, Below.refl _ _⟩
  · rw [Bool.not_eq_true] at h2
    have ea : Hid (challA r key t = 0) := by
      show _ = _
      rw [challA, if_neg (by rw [h2]; simp)]
    go_enter Tryz.func119, Tryz.ntmps119
    go_wp2_with fail
    refine (tooLong t _ ht).mono ?_
    rintro e w' ⟨rfl, rfl⟩
    rw [hd]
    go_wp2_with fail
    refine (implUnit r _).mono ?_
    rintro e w' ⟨rfl, rfl⟩
    rw [h2]
    go_wp2
    go_ret
    exact ⟨ret_int ea.out.symm, Below.refl _ _⟩
end Go.Proofs.YthofeoelndplpaaGreatDoor
namespace Go.Proofs.YthofeoelndplpaaGreatDoor
open Go.RowKit

set_option maxHeartbeats 1000000 in
set_option maxRecDepth 100000 in
theorem implPublic (x : Int) (w : World) :
    Calls Tryz.prog 35 #[.int .i64 x] w fun e w' => e = .returned (.int .i64 (pubA x)) ∧ Below w.heap.size w w' := by
  by_cases h : secB x = true
  · obtain ⟨n, rfl, n1, n2⟩ := secB_nat h
    rw [pubA_nat n h]
    have HP : Hid (∀ v : World, Calls Tryz.prog 70 #[.int .i64 4, .int .i64 (n : Int)] v fun e w' => e = .returned (.int .i64 ((pm 4 n 2147483579 : Nat) : Int)) ∧ Below v.heap.size v w') := fun v => by
      rw [← gpow_in (y := 4) (by omega) pm4 n]; exact implGroupPow 4 n v (by omega)
    generalize pm 4 n 2147483579 = z at *
    go_enter Tryz.func35, Tryz.ntmps35
    go_wp2_with fail
    refine (implSecret n w).mono ?_
    rintro e w' ⟨rfl, rfl⟩
    rw [h]
    go_wp2_with fail
    refine (HP.out _).mono ?_
    rintro e w2 ⟨rfl, hb⟩
    have HB : Hid _ := hb
    clear hb
    go_wp2
    go_ret
    exact ⟨rfl, HB.out⟩
  · rw [Bool.not_eq_true] at h
    have ea : Hid (pubA x = 0) := by
      show _ = _
      rw [pubA, if_neg (by rw [h]; simp)]
    go_enter Tryz.func35, Tryz.ntmps35
    go_wp2_with fail
    refine (implSecret x w).mono ?_
    rintro e w' ⟨rfl, rfl⟩
    rw [h]
    go_wp2
    go_ret
    exact ⟨ret_int ea.out.symm, Below.refl _ _⟩
end Go.Proofs.YthofeoelndplpaaGreatDoor
namespace Go.Proofs.YthofeoelndplpaaGreatDoor
open Go.RowKit

set_option maxHeartbeats 1000000 in
set_option maxRecDepth 100000 in
theorem signPower (x : Int) (t : ByteArray) (w : World) (ht : t.size ≤ 20000) (x0 : -9223372036854775808 ≤ x) (x1 : x ≤ 9223372036854775807) (hk : Keys w) :
    Calls Tryz.prog 98 #[.int .i64 x, .string t] w fun e w' => e = .returned (.int .i64 (powK x t : Nat)) ∧ Below w.heap.size w w' := by
  have HK : Hid (Keys w) := hk
  have hkp := hk.pos
  have s2 := putS_size x
  have P2 : Hid (∀ v : World, Calls Tryz.prog 104 #[.int .i64 x] v fun e w' => e = .returned (.string (putS x)) ∧ Below v.heap.size v w') := fun v => implPut x v x0 x1
  generalize hp : putS x = p at s2 P2
  have l2 := powK_eq x t p hp
  have L2 : Hid (dnum (⟨#[75]⟩ ++ p ++ t) % 1073741788 + 1 = powK x t) := l2
  clear l2 hp hk x0 x1
  have n0 : (ByteArray.mk #[75]).size = 1 := rfl
  obtain ⟨q, hq⟩ : ∃ q : ByteArray, ⟨#[75]⟩ ++ p = q := ⟨_, rfl⟩
  have sq : q.size ≤ 100 := by rw [← hq, size_append]; omega
  have J2 : Hid (∀ v : World, Calls Tryz.prog 103 #[.string ⟨#[75]⟩, .string p] v fun e w' => e = .returned (.string q) ∧ Below v.heap.size v w') := fun v => by rw [← hq]; exact joinTexts ⟨#[75]⟩ p v (by omega) (by omega)
  have L4 : Hid (dnum (q ++ t) % 1073741788 + 1 = powK x t) := by rw [← hq]; exact L2.out
  clear L2 hq n0
  go_enter Tryz.func98, Tryz.ntmps98
  go_wp2_with fail
  refine (P2.out _).mono ?_
  rintro e w1 ⟨rfl, hb1⟩
  have B1 : Hid (Below w.heap.size w w1) := hb1
  have z1 := hb1.size
  clear hb1
  go_wp2_with fail
  refine (J2.out _).mono ?_
  rintro e w3 ⟨rfl, hb3⟩
  have B3 : Hid (Below w.heap.size w w3) := B1.out.trans (hb3.mono z1)
  have z3 := B3.out.size
  have K3 : Hid (Keys w3) := HK.out.below B3.out hkp
  clear hb3
  go_wp2_with fail
  refine (digestNumber q t _ sq (by omega) K3.out).mono ?_
  rintro e w4 ⟨rfl, hb4⟩
  have B4 : Hid (Below w.heap.size w w4) := B3.out.trans (hb4.mono z3)
  clear hb4
  have l2 := L4.out
  generalize dnum (q ++ t) = d at l2
  have t1 : (d : Int).tmod 1073741788 = ((d % 1073741788 : Nat) : Int) := tmodN d 1073741788
  have hm := Nat.mod_lt d (show 0 < 1073741788 by omega)
  generalize d % 1073741788 = m at *
  have hm' : (m : Int) < 1073741788 := by omega
  have L3 : Hid (m + 1 = powK x t) := l2
  clear L4 l2 hm
  go_wp2
  go_ret
  exact ⟨ret_int (by rw [← L3.out]; omega), B4.out⟩
set_option maxHeartbeats 1000000 in
set_option maxRecDepth 100000 in
theorem askChallenge (key r : Int) (t : ByteArray) (w : World) (ht : t.size ≤ maxLen) (hk : Keys w) :
    Calls Tryz.prog 99 #[.agg #[.int .i64 key, .string t], .int .i64 r] w fun e w' => e = .returned (.int .i64 (challA r key t)) ∧ Below w.heap.size w w' := by
  have hkp := hk.pos
  have HK : Hid (∀ o, Keys (w.alloc o)) := fun o => hk.below (allocBelow w o) hkp
  clear hk
  go_enter Tryz.func99, Tryz.ntmps99
  go_wp2_with fail
  refine (implChallenge r key t _ ht (HK.out _)).mono ?_
  rintro e w1 ⟨rfl, hb1⟩
  have B1 : Hid (Below w.heap.size w w1) := (allocBelow w _).trans (hb1.mono (by simp))
  clear hb1
  generalize hz : challA r key t = z
  have HZ : Hid (challA r key t = z) := hz
  clear hz
  go_wp2
  go_ret
  exact ⟨ret_int HZ.out.symm, B1.out⟩
set_option maxHeartbeats 1000000 in
set_option maxRecDepth 100000 in
theorem implSign (x : Int) (t : ByteArray) (w : World) (ht : t.size ≤ maxLen) (hk : Keys w) :
    Calls Tryz.prog 71 #[.int .i64 x, .string t] w fun e w' => e = .returned (signV x t) ∧ Below w.heap.size w w' := by
  have HK : Hid (Keys w) := hk
  have hkp := hk.pos
  clear hk
  by_cases h1 : 20000 < t.size
  · have ea : Hid (signV x t = sigV 0 0 0) := signV_no (by omega)
    have hd : decide (20000 < t.size) = true := decide_eq_true h1
    go_enter Tryz.func71, Tryz.ntmps71
    go_wp2_with fail
    refine (tooLong t _ ht).mono ?_
    rintro e w' ⟨rfl, rfl⟩
    rw [hd]
    clear h1 hd ht
    go_wp2
    go_returns
    exact ⟨by rw [ea.out]; rfl, allocBelow _ _⟩
  have hd : decide (20000 < t.size) = false := decide_eq_false h1
  by_cases h2 : secB x = true
  · obtain ⟨n, rfl, n1, n2⟩ := secB_nat h2
    have ea : Hid (signV n t = sigV ((pm 4 n 2147483579 : Nat) : Int) (signE n t) (signS n t)) := signV_nat (by omega) h2
    have ht2 : t.size ≤ 20000 := by omega
    have hpk := powK_lt n t
    have he := chal_lt ((pm 4 (powK n t) 2147483579 : Nat) : Int) ((pm 4 n 2147483579 : Nat) : Int) t
    have S1 : Hid (∀ v : World, Keys v → Calls Tryz.prog 98 #[.int .i64 (n : Int), .string t] v fun e w' => e = .returned (.int .i64 (powK n t : Nat)) ∧ Below v.heap.size v w') := fun v hv => signPower n t v ht2 (by omega) (by omega) hv
    have S2 : Hid (∀ v : World, Calls Tryz.prog 35 #[.int .i64 (n : Int)] v fun e w' => e = .returned (.int .i64 ((pm 4 n 2147483579 : Nat) : Int)) ∧ Below v.heap.size v w') := fun v => by rw [← pubA_nat n h2]; exact implPublic n v
    have S3 : Hid (∀ v : World, Calls Tryz.prog 70 #[.int .i64 4, .int .i64 (powK n t : Nat)] v fun e w' => e = .returned (.int .i64 ((pm 4 (powK n t) 2147483579 : Nat) : Int)) ∧ Below v.heap.size v w') := fun v => by
      rw [← gpow_in (y := 4) (by omega) pm4 (powK n t)]; exact implGroupPow 4 (powK n t : Nat) v (by omega)
    have S4 : Hid (∀ v : World, Keys v → Calls Tryz.prog 99 #[.agg #[.int .i64 ((pm 4 n 2147483579 : Nat) : Int), .string t], .int .i64 ((pm 4 (powK n t) 2147483579 : Nat) : Int)] v fun e w' => e = .returned (.int .i64 (signE n t : Nat)) ∧ Below v.heap.size v w') := fun v hv => by
      have h := askChallenge ((pm 4 n 2147483579 : Nat) : Int) ((pm 4 (powK n t) 2147483579 : Nat) : Int) t v ht hv
      rw [challA, if_pos ⟨ht2, unit_pow pm4 _, unit_pow pm4 _⟩] at h
      exact h
    have S5 : Hid ((powK n t + signE n t * n) % 1073741789 = signS n t) := rfl
    change signE n t < 1073741789 at he
    generalize signS n t = s at *
    generalize signE n t = e at *
    generalize pm 4 (powK n t) 2147483579 = y at *
    generalize powK n t = k at *
    generalize pm 4 n 2147483579 = key at *
    obtain ⟨p, hp, ep, lp, up⟩ := prod_bd e n (by omega) (by omega)
    have t1 : ((k : Int) + (p : Int)).tmod 1073741789 = (s : Int) := by
      have h := S5.out
      rw [← hp] at h
      rw [← h, ← tmodN]
      simp
    clear S5 hp
    go_enter Tryz.func71, Tryz.ntmps71
    go_wp2_with fail
    refine (tooLong t _ ht).mono ?_
    rintro e1 w' ⟨rfl, rfl⟩
    rw [hd]
    go_wp2_with fail
    refine (implSecret n _).mono ?_
    rintro e1 w' ⟨rfl, rfl⟩
    rw [h2]
    go_wp2_with fail
    obtain ⟨w0, hw0⟩ : ∃ w0, w.alloc (.cells #[.int .i64 0, .int .i64 0, .int .i64 0] 25 (0, 0)) = w0 := ⟨_, rfl⟩
    have hg0 : w0.heap[w.heap.size]? = some (.cells #[.int .i64 0, .int .i64 0, .int .i64 0] 25 (0, 0)) := by rw [← hw0]; exact heap_alloc_new w _
    have hb0 : Below w.heap.size w w0 := by rw [← hw0]; exact allocBelow w _
    have hs0 : w0.heap.size = w.heap.size + 1 := by rw [← hw0]; simp
    rw [hw0]
    have K0 : Hid (Keys w0) := HK.out.below hb0 hkp
    have hk0 := K0.out.pos
    have G0 : Hid (w0.heap[w.heap.size]? = some (.cells #[.int .i64 0, .int .i64 0, .int .i64 0] 25 (0, 0))) := hg0
    have B0 : Hid (Below w.heap.size w w0) := hb0
    have HS0 : Hid (w0.heap.size = w.heap.size + 1) := hs0
    clear hg0 hb0 hw0 hs0
    refine (S1.out w0 K0.out).mono ?_
    rintro e1 w1 ⟨rfl, hb1⟩
    have b1 : Hid (Below w0.heap.size w0 w1) := hb1
    have z1 := b1.out.size
    clear hb1
    go_wp2_with fail
    refine (S2.out _).mono ?_
    rintro e1 w2 ⟨rfl, hb2⟩
    have b2 : Hid (Below w0.heap.size w0 w2) := b1.out.trans (hb2.mono z1)
    have z2 := b2.out.size
    clear hb2
    go_wp2_with fail
    refine (S3.out _).mono ?_
    rintro e1 w3 ⟨rfl, hb3⟩
    have b3 : Hid (Below w0.heap.size w0 w3) := b2.out.trans (hb3.mono z2)
    have z3 := b3.out.size
    have K3 : Hid (Keys w3) := K0.out.below b3.out hk0
    clear hb3
    go_wp2_with fail
    refine (S4.out _ K3.out).mono ?_
    rintro e1 w4 ⟨rfl, hb4⟩
    have b4 : Hid (Below w0.heap.size w0 w4) := b3.out.trans (hb4.mono z3)
    clear hb4
    have hg4 : w4.heap[w.heap.size]? = some (.cells [.int .i64 0, .int .i64 0, .int .i64 0].toArray 25 (0, 0)) := by
      rw [b4.out.block w.heap.size (by rw [HS0.out]; omega)]; exact G0.out
    have c0 := rowFacts hg4 0 (.int .i64 0) rfl
    have c1 := rowFacts hg4 1 (.int .i64 0) rfl
    have c2 := rowFacts hg4 2 (.int .i64 0) rfl
    have f0 := frozen_of_row w4 _ 0 _ _ hg4
    have f1 := frozen_of_row w4 _ 1 _ _ hg4
    have f2 := frozen_of_row w4 _ 2 _ _ hg4
    have BB : Hid (∀ a b c, Below w.heap.size w (((w4.setCell ⟨w.heap.size, 0, none⟩ a).setCell ⟨w.heap.size, 1, none⟩ b).setCell ⟨w.heap.size, 2, none⟩ c)) := fun a b c =>
      (((B0.out.trans (b4.out.mono B0.out.size)).setCell (Nat.le_refl _) a).setCell (Nat.le_refl _) b).setCell (Nat.le_refl _) c
    have G4 : Hid (w4.heap[w.heap.size]? = some (.cells [.int .i64 0, .int .i64 0, .int .i64 0].toArray 25 (0, 0))) := hg4
    clear hg4 b1 b2 b3 b4 S1 S2 S3 S4 HS0 B0 K0 K3 G0 HK z1 z2 z3
    go_wp2
    refine bodyPost_ret (v := sigV key e s) ?_ rfl ⟨by rw [ea.out], BB.out _ _ _⟩
    have hrow := sigRow G4.out (.int .i64 (key : Int)) (.int .i64 (e : Int)) (.int .i64 (s : Int))
    have hl3 := run_loadVar_mid (P := Tryz.prog) _ w.heap.size 0 25 _ _ (rangeRow hrow) Tryz.underlying25 rfl sizeSig
    simp [results, Tryz.results71, asAddr, hl3, sigV]
  · rw [Bool.not_eq_true] at h2
    have ea : Hid (signV x t = sigV 0 0 0) := signV_no (by rw [h2]; simp)
    go_enter Tryz.func71, Tryz.ntmps71
    go_wp2_with fail
    refine (tooLong t _ ht).mono ?_
    rintro e w' ⟨rfl, rfl⟩
    rw [hd]
    go_wp2_with fail
    refine (implSecret x _).mono ?_
    rintro e w' ⟨rfl, rfl⟩
    rw [h2]
    go_wp2
    go_returns
    exact ⟨by rw [ea.out]; rfl, allocBelow _ _⟩
end Go.Proofs.YthofeoelndplpaaGreatDoor
namespace Go.Proofs.YthofeoelndplpaaGreatDoor
open Go.RowKit

set_option maxHeartbeats 1000000 in
set_option maxRecDepth 100000 in
theorem implModMul (a b m : Int) (w : World) :
    Calls Tryz.prog 139 #[.int .i64 a, .int .i64 b, .int .i64 m] w fun e w' => e = .returned (.int .i64 (mulA a b m)) ∧ Below w.heap.size w w' := by
  by_cases h1 : a < 0
  · have ea : Hid (mulA a b m = 0) := by
      show _ = _
      rw [mulA, if_neg (by omega)]
    go_enter Tryz.func139, Tryz.ntmps139
    go_wp2
    go_ret
    exact ⟨ret_int ea.out.symm, Below.refl _ _⟩
  by_cases h2 : b < 0
  · have ea : Hid (mulA a b m = 0) := by
      show _ = _
      rw [mulA, if_neg (by omega)]
    go_enter Tryz.func139, Tryz.ntmps139
    go_wp2
    go_ret
    exact ⟨ret_int ea.out.symm, Below.refl _ _⟩
  by_cases h3 : modB m = true
  · obtain ⟨k, rfl, k1, k2⟩ := modB_nat h3
    obtain ⟨x, rfl⟩ := nat_of h1
    obtain ⟨y, rfl⟩ := nat_of h2
    rw [mulA_nat x y k h3]
    clear h1 h2
    generalize hz : x * y % k = z
    go_enter Tryz.func139, Tryz.ntmps139
    go_wp2_with fail
    refine (implModRight k w).mono ?_
    rintro e w' ⟨rfl, rfl⟩
    rw [h3]
    go_wp2_with fail
    refine (implModulo k _).mono ?_
    rintro e w' ⟨rfl, rfl⟩
    go_wp2_with fail
    refine (implProduct _ x y k _ k1 k2 (newCell _ _ _)).mono ?_
    rintro e w' ⟨rfl, rfl⟩
    rw [hz]
    clear hz
    go_wp2
    go_ret
    exact ⟨rfl, allocBelow _ _⟩
  · rw [Bool.not_eq_true] at h3
    have ea : Hid (mulA a b m = 0) := by
      show _ = _
      rw [mulA, if_neg (by rw [h3]; simp)]
    go_enter Tryz.func139, Tryz.ntmps139
    go_wp2_with fail
    refine (implModRight m w).mono ?_
    rintro e w' ⟨rfl, rfl⟩
    rw [h3]
    go_wp2
    go_ret
    exact ⟨ret_int ea.out.symm, Below.refl _ _⟩
end Go.Proofs.YthofeoelndplpaaGreatDoor
namespace Go.Proofs.YthofeoelndplpaaGreatDoor
open Go.RowKit

set_option maxHeartbeats 1000000 in
set_option maxRecDepth 100000 in
theorem implGroupMul (a b : Int) (w : World) :
    Calls Tryz.prog 121 #[.int .i64 a, .int .i64 b] w fun e w' => e = .returned (.int .i64 (gmulA a b)) ∧ Below w.heap.size w w' := by
  by_cases h1 : unitB a = true
  · by_cases h2 : unitB b = true
    · obtain ⟨x, rfl, x1, x2⟩ := unitB_nat h1
      obtain ⟨y, rfl, y1, y2⟩ := unitB_nat h2
      rw [gmulA_nat x y h1 h2]
      have HC : Hid (∀ v : World, Calls Tryz.prog 139 #[.int .i64 (x : Int), .int .i64 (y : Int), .int .i64 2147483579] v fun e w' => e = .returned (.int .i64 ((x * y % 2147483579 : Nat) : Int)) ∧ Below v.heap.size v w') := fun v => by
        have h := implModMul x y 2147483579 v
        rw [show (2147483579 : Int) = ((2147483579 : Nat) : Int) from rfl, mulA_nat x y 2147483579 modP] at h
        exact h
      generalize x * y % 2147483579 = z at *
      go_enter Tryz.func121, Tryz.ntmps121
      go_wp2_with fail
      refine (implUnit x _).mono ?_
      rintro e w' ⟨rfl, rfl⟩
      rw [h1]
      go_wp2_with fail
      refine (implUnit y _).mono ?_
      rintro e w' ⟨rfl, rfl⟩
      rw [h2]
      go_wp2_with fail
      refine (HC.out _).mono ?_
      rintro e w' ⟨rfl, hb⟩
      have HB : Hid _ := hb
      clear hb
      go_wp2
      go_ret
      exact ⟨rfl, HB.out⟩
    · rw [Bool.not_eq_true] at h2
      have ea : Hid (gmulA a b = 0) := by
        show _ = _
        rw [gmulA, if_neg (by rw [h2]; simp)]
      go_enter Tryz.func121, Tryz.ntmps121
      go_wp2_with fail
      refine (implUnit a _).mono ?_
      rintro e w' ⟨rfl, rfl⟩
      rw [h1]
      go_wp2_with fail
      refine (implUnit b _).mono ?_
      rintro e w' ⟨rfl, rfl⟩
      rw [h2]
      go_wp2
      go_ret
      exact ⟨ret_int ea.out.symm, Below.refl _ _⟩
  · rw [Bool.not_eq_true] at h1
    have ea : Hid (gmulA a b = 0) := by
      show _ = _
      rw [gmulA, if_neg (by rw [h1]; simp)]
    go_enter Tryz.func121, Tryz.ntmps121
    go_wp2_with fail
    refine (implUnit a _).mono ?_
    rintro e w' ⟨rfl, rfl⟩
    rw [h1]
    go_wp2
    go_ret
    exact ⟨ret_int ea.out.symm, Below.refl _ _⟩
end Go.Proofs.YthofeoelndplpaaGreatDoor
