/- impl.readTag, impl.readLength, walked. impl.copyText, walked. errors.As at the target '*impl.byteFault', by its contracts: a nil error: false; an error that is a byteFault: true, and the target is set. After the guide's worked example. errors.As once more, with the world by what it keeps. impl.readThing, impl.DerGet, walked. -/
import Derived.Test.YtkhdjmjbdpmdnaaGreatDoorCR18
import Derived.Test.YtkhdjmjbdpmdnaaGreatDoorCR15
import Derived.Test.YtkhdjmjbdpmdnaaGreatDoorCR17
import Derived.OwnWalk
import Derived.Test.YtkhdjmjbdpmdnaaGreatDoorCR01
import Derived.Test.YtkhdjmjbdpmdnaaGreatDoorRows
import Derived.WalkKit
import Derived.LaidEql
import Derived.Stop.Asserts
import Derived.RowKitTokens
import Derived.Below
import Derived.Test.YtkhdjmjbdpmdnaaGreatDoorCR09
namespace Go.Proofs.YtkhdjmjbdpmdnaaGreatDoor
open Go.RowKit Go.Lib

/-- A fault as an error. -/
def errV (c : Int) : Value := .iface 216 (.agg #[.int .i64 c])
/-- The code of what readTag tells. -/
def tagC (s : ByteArray) (p : Int) : Int := if 20000 < s.size then 2 else if p < 0 then 1 else if s.size ≤ p.toNat then 4 else if tagB (bN s p.toNat : Int) = false then 3 else 0
set_option maxHeartbeats 1000000 in
set_option maxRecDepth 100000 in
theorem readTag (s : ByteArray) (p : Int) (w : World) (hs : s.size ≤ maxLen) :
    Calls Tryz.prog 224 #[.string s, .int .i64 p] w fun e w' => (tagC s p = 0 ∧ e = .returned (.tuple #[.int .i64 (bN s p.toNat : Int), .nilIface]) ∨ tagC s p ≠ 0 ∧ e = .returned (.tuple #[.int .i64 0, errV (tagC s p)])) ∧ w' = w := by
  have hs' := hs
  unfold maxLen at hs'
  by_cases h1 : 20000 < s.size
  · have HF : Hid (tagC s p = 2) := if_pos h1
    have hd : decide (20000 < s.size) = true := decide_eq_true h1
    go_enter Tryz.func224, Tryz.ntmps224
    go_wp2_with fail
    refine (tooLong s _ hs).mono ?_
    rintro e w' ⟨rfl, rfl⟩
    rw [hd]
    go_wp2
    go_ret2
    exact ⟨.inr (by rw [HF.out]; exact ⟨by decide, rfl⟩), rfl⟩
  have hd : decide (20000 < s.size) = false := decide_eq_false h1
  by_cases h2 : p < 0
  · have HF : Hid (tagC s p = 1) := by unfold Hid tagC; rw [if_neg h1, if_pos h2]
    go_enter Tryz.func224, Tryz.ntmps224
    go_wp2_with fail
    refine (tooLong s _ hs).mono ?_
    rintro e w' ⟨rfl, rfl⟩
    rw [hd]
    go_wp2
    go_ret2
    exact ⟨.inr (by rw [HF.out]; exact ⟨by decide, rfl⟩), rfl⟩
  obtain ⟨k, rfl⟩ := Int.eq_ofNat_of_zero_le (show 0 ≤ p by omega)
  by_cases h3 : s.size ≤ k
  · have HF : Hid (tagC s (k : Int) = 4) := by unfold Hid tagC; rw [if_neg h1, if_neg h2, show ((k : Int).toNat) = k from rfl, if_pos h3]
    go_enter Tryz.func224, Tryz.ntmps224
    go_wp2_with fail
    refine (tooLong s _ hs).mono ?_
    rintro e w' ⟨rfl, rfl⟩
    rw [hd]
    go_wp2
    go_ret2
    exact ⟨.inr (by rw [HF.out]; exact ⟨by decide, rfl⟩), rfl⟩
  have b0 := bN_eq s k (by omega)
  have u0 := u8_lt (s[k]'(by omega))
  have q0 : (k : Int) < (s.size : Int) := by omega
  cases ht : tagB (bN s k : Int) with
  | false =>
    have HF : Hid (tagC s (k : Int) = 3) := by unfold Hid tagC; rw [if_neg h1, if_neg h2, show ((k : Int).toNat) = k from rfl, if_neg h3, if_pos ht]
    rw [b0] at ht
    go_enter Tryz.func224, Tryz.ntmps224
    go_wp2_with fail
    refine (tooLong s _ hs).mono ?_
    rintro e w' ⟨rfl, rfl⟩
    rw [hd]
    go_wp2_with fail
    refine (implTag _ _).mono ?_
    rintro e w' ⟨rfl, rfl⟩
    rw [ht]
    go_wp2
    go_ret2
    exact ⟨.inr (by rw [HF.out]; exact ⟨by decide, rfl⟩), rfl⟩
  | true =>
    have HF : Hid (tagC s (k : Int) = 0 ∧ bN s (k : Int).toNat = (s[k]'(by omega)).toNat) := ⟨by unfold tagC; rw [if_neg h1, if_neg h2, show ((k : Int).toNat) = k from rfl, if_neg h3, if_neg (by rw [ht]; simp)], b0⟩
    rw [b0] at ht
    go_enter Tryz.func224, Tryz.ntmps224
    go_wp2_with fail
    refine (tooLong s _ hs).mono ?_
    rintro e w' ⟨rfl, rfl⟩
    rw [hd]
    go_wp2_with fail
    refine (implTag _ _).mono ?_
    rintro e w' ⟨rfl, rfl⟩
    rw [ht]
    go_wp2
    go_ret2
    exact ⟨.inl ⟨HF.out.1, by rw [HF.out.2]; rfl⟩, rfl⟩
/-- What readLength tells: a code, a length, and the place behind it. -/
def lenAt (s : ByteArray) (j : Nat) : Nat × Nat × Nat :=
  if s.size ≤ j then (4, 0, 0) else if bN s j < 128 then (0, bN s j, j + 1)
  else if bN s j = 129 then if s.size ≤ j + 1 then (4, 0, 0) else if bN s (j + 1) < 128 then (3, 0, 0) else (0, bN s (j + 1), j + 2)
  else if bN s j = 130 then if s.size ≤ j + 2 then (4, 0, 0) else if 256 * bN s (j + 1) + bN s (j + 2) < 256 then (3, 0, 0) else if 4000 < 256 * bN s (j + 1) + bN s (j + 2) then (3, 0, 0) else (0, 256 * bN s (j + 1) + bN s (j + 2), j + 3)
  else (3, 0, 0)
theorem getAt_len {s : ByteArray} {k : Nat} (h : k < s.size) (ht : tagB (bN s k : Int) = true) :
    getAt s k = if (lenAt s (k + 1)).1 = 0 then bodyAt s (bN s k) (lenAt s (k + 1)).2.1 (lenAt s (k + 1)).2.2 else .bad (lenAt s (k + 1)).1 := by
  unfold getAt lenAt
  rw [if_neg (by omega), if_neg (by simp [ht])]
  by_cases h1 : s.size ≤ k + 1
  · simp only [if_pos h1]; rfl
  simp only [if_neg h1]
  by_cases h2 : bN s (k + 1) < 128
  · simp only [if_pos h2]; rfl
  simp only [if_neg h2]
  by_cases h3 : bN s (k + 1) = 129
  · simp only [if_pos h3]
    by_cases h4 : s.size ≤ k + 1 + 1
    · simp only [if_pos h4]; rfl
    simp only [if_neg h4]
    by_cases h5 : bN s (k + 1 + 1) < 128
    · simp only [if_pos h5]; rfl
    · simp only [if_neg h5]; rfl
  simp only [if_neg h3]
  by_cases h4 : bN s (k + 1) = 130
  · simp only [if_pos h4]
    by_cases h5 : s.size ≤ k + 1 + 2
    · simp only [if_pos h5]; rfl
    simp only [if_neg h5]
    by_cases h6 : 256 * bN s (k + 1 + 1) + bN s (k + 1 + 2) < 256
    · simp only [if_pos h6]; rfl
    simp only [if_neg h6]
    by_cases h7 : 4000 < 256 * bN s (k + 1 + 1) + bN s (k + 1 + 2)
    · simp only [if_pos h7]; rfl
    · simp only [if_neg h7]; rfl
  · simp only [if_neg h4]; rfl
def LenOk (R : Nat × Nat × Nat) (e : Ending) : Prop :=
  R.1 = 0 ∧ e = .returned (.tuple #[.int .i64 (R.2.1 : Int), .int .i64 (R.2.2 : Int), .nilIface]) ∨ R.1 ≠ 0 ∧ e = .returned (.tuple #[.int .i64 0, .int .i64 0, errV (R.1 : Int)])
set_option maxRecDepth 100000
theorem readLen_end (s : ByteArray) (j : Nat) (w : World) (h1 : s.size ≤ j) :
    Calls Tryz.prog 225 #[.string s, .int .i64 (j : Int)] w fun e w' => LenOk (lenAt s j) e ∧ w' = w := by
  have HF : Hid (lenAt s j = (4, 0, 0)) := if_pos h1
  go_enter Tryz.func225, Tryz.ntmps225
  go_wp2
  go_ret3
  exact ⟨by rw [HF.out]; exact .inr ⟨by decide, rfl⟩, rfl⟩
theorem readLen_low (s : ByteArray) (j : Nat) (w : World) (hs : s.size ≤ 20000) (h1 : j < s.size) (h2 : bN s j < 128) :
    Calls Tryz.prog 225 #[.string s, .int .i64 (j : Int)] w fun e w' => LenOk (lenAt s j) e ∧ w' = w := by
  have b0 := bN_eq s j h1
  have HF : Hid (lenAt s j = (0, s[j].toNat, j + 1)) := by unfold Hid lenAt; rw [if_neg (by omega), if_pos h2, b0]
  have u0 := u8_lt s[j]
  have q0 : (j : Int) < (s.size : Int) := by omega
  rw [b0] at h2
  go_enter Tryz.func225, Tryz.ntmps225
  go_wp2
  go_ret3
  exact ⟨by rw [HF.out]; exact .inl ⟨rfl, by simp⟩, rfl⟩
theorem readLen_many (s : ByteArray) (j : Nat) (w : World) (h1 : j < s.size) (h2 : 128 ≤ bN s j) (h3 : bN s j ≠ 129) (h4 : bN s j ≠ 130) :
    Calls Tryz.prog 225 #[.string s, .int .i64 (j : Int)] w fun e w' => LenOk (lenAt s j) e ∧ w' = w := by
  have b0 := bN_eq s j h1
  have HF : Hid (lenAt s j = (3, 0, 0)) := by unfold Hid lenAt; rw [if_neg (by omega), if_neg (by omega), if_neg h3, if_neg h4]
  have u0 := u8_lt s[j]
  have q0 : (j : Int) < (s.size : Int) := by omega
  rw [b0] at h2 h3 h4
  have hc : s[j].toNat = 128 ∨ 131 ≤ s[j].toNat := by omega
  rcases hc with hc | hc
  all_goals
    go_enter Tryz.func225, Tryz.ntmps225
    go_wp2
    go_ret3
    exact ⟨by rw [HF.out]; exact .inr ⟨by decide, rfl⟩, rfl⟩
set_option maxHeartbeats 1000000 in
theorem readLen_129 (s : ByteArray) (j : Nat) (w : World) (hs : s.size ≤ 20000) (h1 : j < s.size) (h2 : bN s j = 129) :
    Calls Tryz.prog 225 #[.string s, .int .i64 (j : Int)] w fun e w' => LenOk (lenAt s j) e ∧ w' = w := by
  have b0 := bN_eq s j h1
  have HG : lenAt s j = if s.size ≤ j + 1 then (4, 0, 0) else if bN s (j + 1) < 128 then (3, 0, 0) else (0, bN s (j + 1), j + 2) := by unfold lenAt; rw [if_neg (by omega), if_neg (by omega), if_pos h2]
  have q0 : (j : Int) < (s.size : Int) := by omega
  rw [b0] at h2
  have e1 : (s[j].toNat : Int) = 129 := by omega
  by_cases h3 : s.size ≤ j + 1
  · have HF : Hid (lenAt s j = (4, 0, 0)) := HG.trans (if_pos h3)
    clear HG
    go_enter Tryz.func225, Tryz.ntmps225
    go_wp2
    go_ret3
    exact ⟨by rw [HF.out]; exact .inr ⟨by decide, rfl⟩, rfl⟩
  rw [if_neg h3] at HG
  have b1 := bN_eq s (j + 1) (by omega)
  have u1 := u8_lt (s[j + 1]'(by omega))
  have o1 := or8 0 (s[j + 1]'(by omega)).toNat (by omega) (by omega) (by omega)
  simp only [Int.zero_mul, Int.zero_add] at o1
  rw [b1] at HG
  have q2 : (j : Int) + 1 < (s.size : Int) := by omega
  have q3 : (0 : Int) ≤ (j : Int) + 1 := by omega
  obtain ⟨m, hm⟩ : ∃ m : Nat, m = (s[j + 1]'(by omega)).toNat := ⟨_, rfl⟩
  have em : ((s[j + 1]'(by omega)).toNat : Int) = (m : Int) := by omega
  rw [← hm] at HG
  have hm2 : m < 256 := by omega
  have HL : Hid (∀ v : World, Calls Tryz.prog 206 #[.int .i64 (m : Int)] v fun e w' => e = .returned (.int .i64 (moreL m : Int)) ∧ w' = v) := fun v => lengthBytes _ v (by omega)
  have EM : Hid (((s[j + 1]'(by omega)).toNat : Int) = (m : Int)) := em
  have HG2 : Hid _ := HG
  clear hm em HG
  go_enter Tryz.func225, Tryz.ntmps225
  go_wp2_with fail
  refine wp_loop_rounds 2 ?_
  rw [rounds_succ]
  go_wp2
  rw [EM.out]
  rw [rounds_succ]
  go_wp2_with fail
  refine (HL.out _).mono ?_
  rintro e w' ⟨rfl, rfl⟩
  have HG := HG2.out
  clear HG2 o1 u1
  by_cases h4 : m < 128
  · have HF : Hid (lenAt s j = (3, 0, 0)) := HG.trans (if_pos h4)
    rw [show moreL m = 0 from if_pos h4]
    clear HG
    go_wp2
    go_ret3
    exact ⟨by rw [HF.out]; exact .inr ⟨by decide, rfl⟩, rfl⟩
  · have HF : Hid (lenAt s j = (0, m, j + 2)) := HG.trans (if_neg h4)
    rw [show moreL m = 1 from by rw [moreL, if_neg h4, if_pos hm2]]
    clear HG
    go_wp2
    go_ret3
    exact ⟨by rw [HF.out]; exact .inl ⟨rfl, by simp [Int.add_assoc]⟩, rfl⟩
set_option maxHeartbeats 1000000 in
theorem readLen_130 (s : ByteArray) (j : Nat) (w : World) (hs : s.size ≤ 20000) (h1 : j < s.size) (h2 : bN s j = 130) :
    Calls Tryz.prog 225 #[.string s, .int .i64 (j : Int)] w fun e w' => LenOk (lenAt s j) e ∧ w' = w := by
  have b0 := bN_eq s j h1
  have HG : lenAt s j = if s.size ≤ j + 2 then (4, 0, 0) else if 256 * bN s (j + 1) + bN s (j + 2) < 256 then (3, 0, 0) else if 4000 < 256 * bN s (j + 1) + bN s (j + 2) then (3, 0, 0) else (0, 256 * bN s (j + 1) + bN s (j + 2), j + 3) := by unfold lenAt; rw [if_neg (by omega), if_neg (by omega), if_neg (by omega), if_pos h2]
  have q0 : (j : Int) < (s.size : Int) := by omega
  rw [b0] at h2
  have e1 : (s[j].toNat : Int) = 130 := by omega
  by_cases h3 : s.size ≤ j + 2
  · have HF : Hid (lenAt s j = (4, 0, 0)) := HG.trans (if_pos h3)
    clear HG
    go_enter Tryz.func225, Tryz.ntmps225
    go_wp2
    go_ret3
    exact ⟨by rw [HF.out]; exact .inr ⟨by decide, rfl⟩, rfl⟩
  rw [if_neg h3] at HG
  have b1 := bN_eq s (j + 1) (by omega)
  have b2 : bN s (j + 2) = (s[j + 1 + 1]'(by omega)).toNat := bN_eq s (j + 1 + 1) (by omega)
  have u1 := u8_lt (s[j + 1]'(by omega))
  have u2 := u8_lt (s[j + 1 + 1]'(by omega))
  have o1 := or8 0 (s[j + 1]'(by omega)).toNat (by omega) (by omega) (by omega)
  simp only [Int.zero_mul, Int.zero_add] at o1
  have o2 := or8 (s[j + 1]'(by omega)).toNat (s[j + 1 + 1]'(by omega)).toNat (by omega) (by omega) (by omega)
  rw [b1, b2] at HG
  have q2 : (j : Int) + 1 < (s.size : Int) := by omega
  have q3 : (0 : Int) ≤ (j : Int) + 1 := by omega
  have q4 : (j : Int) + 1 + 1 < (s.size : Int) := by omega
  have q5 : (0 : Int) ≤ (j : Int) + 1 + 1 := by omega
  obtain ⟨m, hm⟩ : ∃ m : Nat, m = 256 * (s[j + 1]'(by omega)).toNat + (s[j + 1 + 1]'(by omega)).toNat := ⟨_, rfl⟩
  rw [← hm] at HG
  have hm2 : m < 65536 := by omega
  have HL : Hid (∀ v : World, Calls Tryz.prog 206 #[.int .i64 (m : Int)] v fun e w' => e = .returned (.int .i64 (moreL m : Int)) ∧ w' = v) := fun v => lengthBytes _ v (by omega)
  have EM : Hid (((s[j + 1]'(by omega)).toNat : Int) * 256 + ((s[j + 1 + 1]'(by omega)).toNat : Int) = (m : Int)) := by show _ = _; omega
  have HG2 : Hid _ := HG
  clear hm HG b0 b1 b2
  go_enter Tryz.func225, Tryz.ntmps225
  go_wp2_with fail
  refine wp_loop_rounds 3 ?_
  rw [rounds_succ]
  go_wp2
  rw [rounds_succ]
  go_wp2
  rw [EM.out]
  rw [rounds_succ]
  go_wp2_with fail
  refine (HL.out _).mono ?_
  rintro e w' ⟨rfl, rfl⟩
  have HG := HG2.out
  clear HG2 o1 u1 o2 u2
  by_cases h4 : m < 256
  · have HF : Hid (lenAt s j = (3, 0, 0)) := HG.trans (if_pos h4)
    have hmm : moreL m = 0 ∨ moreL m = 1 := by
      by_cases h9 : m < 128
      · exact .inl (if_pos h9)
      · exact .inr (by rw [moreL, if_neg h9, if_pos h4])
    clear HG
    rcases hmm with hmm | hmm
    all_goals
      rw [hmm]
      go_wp2
      go_ret3
      exact ⟨by rw [HF.out]; exact .inr ⟨by decide, rfl⟩, rfl⟩
  rw [if_neg h4] at HG
  rw [show moreL m = 2 from by rw [moreL, if_neg (by omega), if_neg h4]]
  by_cases h5 : 4000 < m
  · have HF : Hid (lenAt s j = (3, 0, 0)) := HG.trans (if_pos h5)
    clear HG
    go_wp2
    go_ret3
    exact ⟨by rw [HF.out]; exact .inr ⟨by decide, rfl⟩, rfl⟩
  · have HF : Hid (lenAt s j = (0, m, j + 3)) := HG.trans (if_neg h5)
    clear HG
    go_wp2
    go_ret3
    exact ⟨by rw [HF.out]; exact .inl ⟨rfl, by simp [Int.add_assoc]⟩, rfl⟩
theorem readLength (s : ByteArray) (j : Nat) (w : World) (hs : s.size ≤ 20000) :
    Calls Tryz.prog 225 #[.string s, .int .i64 (j : Int)] w fun e w' => LenOk (lenAt s j) e ∧ w' = w := by
  by_cases h1 : s.size ≤ j
  · exact readLen_end s j w h1
  by_cases h2 : bN s j < 128
  · exact readLen_low s j w hs (by omega) h2
  by_cases h3 : bN s j = 129
  · exact readLen_129 s j w hs (by omega) h3
  by_cases h4 : bN s j = 130
  · exact readLen_130 s j w hs (by omega) h4
  · exact readLen_many s j w (by omega) (by omega) h3 h4
end Go.Proofs.YtkhdjmjbdpmdnaaGreatDoor
namespace Go.Proofs.YtkhdjmjbdpmdnaaGreatDoor
open Go.RowKit Go.Lib

set_option maxHeartbeats 1000000 in
set_option maxRecDepth 100000 in
theorem copyText (a : ByteArray) (w : World) (ha : a.size ≤ 1100000) :
    Calls Tryz.prog 117 #[.string a] w fun e w' => e = .returned (.string a) ∧ Below w.heap.size w w' := by
  obtain ⟨i0, hi, hz0, hz1, hz2⟩ := info_parts infoByte
  go_enter Tryz.func117, Tryz.ntmps117
  go_wp2_with (at_make; refine wpList_make_full _ rfl _ _ 22 rfl w.heap.size 5 i0 (.int .u8 0) 1 Tryz.underlying22 hi hz0 hz1 .i64 .i64 _ _ a.size rfl rfl ?c1 ?c2 ?c3 ?c4 ?c5 ?_)
  case c1 => omega
  case c2 => omega
  case c3 => rw [hz2]; omega
  case c4 => unfold maxLen; omega
  case c5 => exact Nat.le_refl _
  intro w1 hown hgrow
  obtain ⟨hrow, hlen⟩ := rowOf hown rfl
  have hB1 : Below w.heap.size w w1 := (Below.refl _ w).grown hgrow (Nat.le_refl _) (fun k hk => by cases hk)
  generalize (madeCells #[Value.int IntKind.u8 0] a.size).toList = L at hrow hlen
  have la : (byteCells a.data.toList).length = a.size := by rw [byteCells_length, ← size_eq]
  have HF : Hid (∀ w3 : World, w3.heap[w.heap.size]? = some (.cells (splice L 0 (byteCells a.data.toList)).toArray 5 (0, 0)) →
      (convert 22 9 (.slice (some ⟨w.heap.size, 0, none⟩) a.size a.size)).run Tryz.prog w3 = .ok (.string a) w3) := by
    intro w3 h3
    rw [splice_one L (byteCells a.data.toList) (by omega)] at h3
    have h4 : w3.heap[w.heap.size]? = some (.cells (byteCells a.data.toList ++ []).toArray 5 (0, 0)) := by simpa using h3
    have := run_convert_row (P := Tryz.prog) (src := 22) (dst := 9) (cap := a.size) Tryz.underlying22 Tryz.underlying5 Tryz.underlying9 h4
    rw [← size_eq] at this
    exact this
  clear hown hgrow la
  go_wp2_with (refine wpList_copy_str rfl _ _ 22 9 rfl 5 Tryz.underlying22 byteSize _ _ _ a rfl rfl w.heap.size 0 L 5 hrow (fun _ => rfl) ?d2 ?d3 w.heap.size w hB1 (Nat.le_refl _) ?_)
  case d2 => exact Nat.le_refl _
  case d3 => omega
  intro w2 H2 hB2 hs2
  have hcv := HF.out w2 H2.out
  clear hrow hB1 hs2
  go_wp2
  go_ret
  exact ⟨rfl, hB2⟩

end Go.Proofs.YtkhdjmjbdpmdnaaGreatDoor
namespace Go.Proofs.YtkhdjmjbdpmdnaaGreatDoor
open Go.RowKit Go.Extern.Stop Go.Stop Go.Extern

theorem as_nil (t : Value) (w : World) :
    Calls Tryz.prog 209 #[.nilIface, t] w fun e w' => e = .returned (.bool false) ∧ w' = w := by
  go_enter Tryz.func209, Tryz.ntmps209
  go_wp2
  go_ret
  exact ⟨rfl, rfl⟩

theorem valueOfP (t : Addr) (w : World) : (ReflectliteValue.unpack (.iface 218 (.pointer (some t)))).run Tryz.prog w
    = .ok (.agg #[.pointer (some ⟨7, 218, none⟩), .pointer (some ⟨w.heap.size, 0, none⟩), .int .u64 150]) (w.alloc (.cells #[.pointer (some t)] 218)) := by kernel_rfl
theorem typeP (a : Addr) (w : World) : (ReflectliteValue.methodAny (ReflectliteValue.valueError "reflectlite.Value.Type" 0) (fun t _ _ _ => ReflectliteType.toType t) #[.agg #[.pointer (some ⟨7, 218, none⟩), .pointer (some a), .int .u64 150]]).run Tryz.prog w
    = .ok (.iface 191 (.agg #[.pointer (some ⟨7, 218, none⟩)])) w := by kernel_rfl
theorem methodKind (h : Value) (w : World) : (Go.method 390 191 (.agg #[h]) "Kind").run Tryz.prog w = .ok (254, h) w := by kernel_rfl
theorem kindP (w : World) : ((ReflectliteType.abiMethod fun t => (fun a : Nat => Value.int IntKind.u8 (a : Int)) <$> Rtype.kind t) #[.pointer (some ⟨7, 218, none⟩)]).run Tryz.prog w = .ok (.int .u8 22) w := by kernel_rfl
theorem kindS (w : World) : ((ReflectliteType.abiMethod fun t => (fun a : Nat => Value.int IntKind.u8 (a : Int)) <$> Rtype.kind t) #[.pointer (some ⟨7, 216, none⟩)]).run Tryz.prog w = .ok (.int .u8 25) w := by kernel_rfl
theorem partsP (a : Addr) (w : World) : (ReflectliteValue.parts (.agg #[.pointer (some ⟨7, 218, none⟩), .pointer (some a), .int .u64 150])).run Tryz.prog w = .ok (some (218, a, 150)) w := by kernel_rfl
theorem isNilP (a p : Addr) (W : World) (ha : W.cell? a = some (.pointer (some p))) :
    (ReflectliteValue.method (ReflectliteValue.valueError "reflectlite.Value.IsNil" 0) ReflectliteValue.isNil #[.agg #[.pointer (some ⟨7, 218, none⟩), .pointer (some a), .int .u64 150]]).run Tryz.prog W = .ok (.bool false) W := by
  unfold ReflectliteValue.method ReflectliteValue.method.match_2
  simp [Array.getLit, partsP, ReflectliteValue.isNil, loadVar, isAgg, underlying, Tryz.underlying218, ha, Result.andThen]
theorem methodElem (h : Value) (w : World) : (Go.method 390 191 (.agg #[h]) "Elem").run Tryz.prog w = .ok (264, .agg #[h]) w := by kernel_rfl
theorem methodImplements (h : Value) (w : World) : (Go.method 390 191 (.agg #[h]) "Implements").run Tryz.prog w = .ok (265, .agg #[h]) w := by kernel_rfl
theorem methodAssignableTo (h : Value) (w : World) : (Go.method 390 191 (.agg #[h]) "AssignableTo").run Tryz.prog w = .ok (262, .agg #[h]) w := by kernel_rfl
theorem elemP (w : World) : (ReflectliteType.method ReflectliteType.elem #[.agg #[.pointer (some ⟨7, 218, none⟩)]]).run Tryz.prog w = .ok (.iface 191 (.agg #[.pointer (some ⟨7, 216, none⟩)])) w := by kernel_rfl
theorem implementsS (w : World) : (ReflectliteType.relation "Implements" ReflectliteType.implements_ #[.agg #[.pointer (some ⟨7, 216, none⟩)], .iface 191 (.agg #[.pointer (some ⟨7, 90, none⟩)])]).run Tryz.prog w = .ok (.bool true) w := by kernel_rfl
theorem typeOfS (v : Value) (w : World) : (ReflectliteType.typeOf #[.iface 216 v]).run Tryz.prog w = .ok (.iface 191 (.agg #[.pointer (some ⟨7, 216, none⟩)])) w := by kernel_rfl
theorem assignableS (w : World) : (ReflectliteType.relation "AssignableTo" ReflectliteType.assignableTo #[.agg #[.pointer (some ⟨7, 216, none⟩)], .iface 191 (.agg #[.pointer (some ⟨7, 216, none⟩)])]).run Tryz.prog w = .ok (.bool true) w := by kernel_rfl
theorem valueOfS (c : Int) (w : World) : (ReflectliteValue.unpack (.iface 216 (.agg #[.int .i64 c]))).run Tryz.prog w
    = .ok (.agg #[.pointer (some ⟨7, 216, none⟩), .pointer (some ⟨w.heap.size, 0, none⟩), .int .u64 153]) (w.alloc (.cells #[.int .i64 c] 216)) := by kernel_rfl
theorem elemOfP (w : World) : (Rtype.elem? 218).run Tryz.prog w = .ok (some 216) w := by kernel_rfl
theorem mkS (p : Addr) (w : World) : (ReflectliteValue.mk 216 p ReflectliteValue.flagAddr).run Tryz.prog w = .ok (.agg #[.pointer (some ⟨7, 216, none⟩), .pointer (some p), .int .u64 409]) w := by kernel_rfl
theorem elemVP (a p : Addr) (W : World) (ha : W.cell? a = some (.pointer (some p))) :
    (ReflectliteValue.method (ReflectliteValue.valueError "reflectlite.Value.Elem" 0) ReflectliteValue.elem #[.agg #[.pointer (some ⟨7, 218, none⟩), .pointer (some a), .int .u64 150]]).run Tryz.prog W
      = .ok (.agg #[.pointer (some ⟨7, 216, none⟩), .pointer (some p), .int .u64 409]) W := by
  unfold ReflectliteValue.method ReflectliteValue.method.match_2
  simp [Array.getLit, partsP, ReflectliteValue.elem, loadVar, isAgg, underlying, Tryz.underlying218, ha, Result.andThen, elemOfP, mkS]
theorem partsSa (a : Addr) (w : World) : (ReflectliteValue.parts (.agg #[.pointer (some ⟨7, 216, none⟩), .pointer (some a), .int .u64 409])).run Tryz.prog w = .ok (some (216, a, 409)) w := by kernel_rfl
theorem partsS (a : Addr) (w : World) : (ReflectliteValue.parts (.agg #[.pointer (some ⟨7, 216, none⟩), .pointer (some a), .int .u64 153])).run Tryz.prog w = .ok (some (216, a, 153)) w := by kernel_rfl
theorem directS (w : World) : (Rtype.directlyAssignable 216 216).run Tryz.prog w = .ok true w := by kernel_rfl
theorem sizeS (w : World) : (sizeOf 216).run Tryz.prog w = .ok 1 w := by kernel_rfl
theorem setS (ta b : Addr) (c : Int) (old : Value) (W : World) (hb : W.cell? b = some (.int .i64 c)) (ht : W.cell? ta = some old) (hf : W.frozen? ta = false) :
    (ReflectliteValue.set #[.agg #[.pointer (some ⟨7, 216, none⟩), .pointer (some ta), .int .u64 409], .agg #[.pointer (some ⟨7, 216, none⟩), .pointer (some b), .int .u64 153]]).run Tryz.prog W
      = .ok (.tuple #[]) (W.setCell ta (.int .i64 c)) := by
  have hl : (loadCells b 1).run Tryz.prog W = .ok #[.int .i64 c] W := by
    have := run_loadCells_list (P := Tryz.prog) W b [.int .i64 c] (fun j v hj => by
      match j, hj with
      | 0, hj => simp at hj; subst hj; simpa [Addr.add] using hb)
    simpa using this
  unfold ReflectliteValue.set ReflectliteValue.set.match_3
  simp [Array.getLit, partsSa, partsS, ReflectliteValue.flagAddr, loadVar, isAgg, underlying, Tryz.underlying216, Result.andThen, directS, storeVar, Value.cells, hl, storeCells, Addr.add]
  rw [run_store Tryz.prog W ta _ _ (by rfl)]
  simp [ht, hf]
def asBox (n : Nat) : Obj := .cells #[.pointer (some ⟨7, 218, none⟩), .pointer (some ⟨n, 0, none⟩), .int .u64 150] 237
def asW (t : Addr) (c : Int) (w : World) : World := (((w.alloc (.cells #[.pointer (some t)] 218)).alloc (asBox w.heap.size)).alloc (asBox w.heap.size)).alloc (.cells #[.int .i64 c] 216)
set_option maxHeartbeats 4000000 in
set_option maxRecDepth 100000 in
theorem as_hit (t : Addr) (c : Int) (old : Value) (w : World) (hg : w.cell? ⟨4, 0, none⟩ = some (.iface 191 (.agg #[.pointer (some ⟨7, 90, none⟩)]))) (ht0 : w.cell? t = some old) (hf0 : w.frozen? t = false) :
    Calls Tryz.prog 209 #[.iface 216 (.agg #[.int .i64 c]), .iface 218 (.pointer (some t))] w fun ev w' => ev = .returned (.bool true) ∧ w' = (asW t c w).setCell t (.int .i64 c) := by
  have hVO := @run_callFunc_extern Tryz.prog 226 _ (fun args => ReflectliteValue.unpack (args.getD 0 (.tuple #[]))) Tryz.func226 (by kernel_rfl) (by kernel_rfl) (by kernel_rfl) (by kernel_rfl)
  have hVT := @run_callFunc_extern Tryz.prog 227 _ (ReflectliteValue.methodAny (ReflectliteValue.valueError "reflectlite.Value.Type" 0) (fun t _ _ _ => ReflectliteType.toType t)) Tryz.func227 (by kernel_rfl) (by kernel_rfl) (by kernel_rfl) (by kernel_rfl)
  have hVN := @run_callFunc_extern Tryz.prog 228 _ (ReflectliteValue.method (ReflectliteValue.valueError "reflectlite.Value.IsNil" 0) ReflectliteValue.isNil) Tryz.func228 (by kernel_rfl) (by kernel_rfl) (by kernel_rfl) (by kernel_rfl)
  have hK := @run_callFunc_extern Tryz.prog 254 _ (ReflectliteType.abiMethod fun t => do pure (.int .u8 (← Rtype.kind t))) Tryz.func254 (by kernel_rfl) (by kernel_rfl) (by kernel_rfl) (by kernel_rfl)
  have hTE := @run_callFunc_extern Tryz.prog 264 _ (ReflectliteType.method ReflectliteType.elem) Tryz.func264 (by kernel_rfl) (by kernel_rfl) (by kernel_rfl) (by kernel_rfl)
  have hTI := @run_callFunc_extern Tryz.prog 265 _ (ReflectliteType.relation "Implements" ReflectliteType.implements_) Tryz.func265 (by kernel_rfl) (by kernel_rfl) (by kernel_rfl) (by kernel_rfl)
  have hTO := @run_callFunc_extern Tryz.prog 154 _ ReflectliteType.typeOf Tryz.func154 (by kernel_rfl) (by kernel_rfl) (by kernel_rfl) (by kernel_rfl)
  have hTA := @run_callFunc_extern Tryz.prog 262 _ (ReflectliteType.relation "AssignableTo" ReflectliteType.assignableTo) Tryz.func262 (by kernel_rfl) (by kernel_rfl) (by kernel_rfl) (by kernel_rfl)
  have hVE := @run_callFunc_extern Tryz.prog 236 _ (ReflectliteValue.method (ReflectliteValue.valueError "reflectlite.Value.Elem" 0) ReflectliteValue.elem) Tryz.func236 (by kernel_rfl) (by kernel_rfl) (by kernel_rfl) (by kernel_rfl)
  have hVS := @run_callFunc_extern Tryz.prog 237 _ ReflectliteValue.set Tryz.func237 (by kernel_rfl) (by kernel_rfl) (by kernel_rfl) (by kernel_rfl)
  have x1 := typeOfS
  have x2 := methodAssignableTo
  have x3 := assignableS
  have x4 := valueOfS
  have x5 := valueOfP
  have x6 := typeP
  have x7 := methodKind
  have x8 := methodElem
  have x9 := methodImplements
  have x10 := kindP
  have x11 := kindS
  have x12 := elemP
  have x13 := implementsS
  have n8 := isNilP ⟨w.heap.size, 0, none⟩ t ((w.alloc (.cells #[.pointer (some t)] 218)).alloc (asBox w.heap.size)) (by simp [asBox])
  have hlt : 4 < w.heap.size := World.block_lt_of_cell? w _ hg
  have hg2 : ((w.alloc (.cells #[.pointer (some t)] 218)).alloc (asBox w.heap.size)).cell? ⟨4, 0, none⟩ = some (.iface 191 (.agg #[.pointer (some ⟨7, 90, none⟩)])) := by
    rw [World.cell?_alloc_lt _ _ ⟨4, 0, none⟩ (by simp <;> omega), World.cell?_alloc_lt _ _ ⟨4, 0, none⟩ hlt]; exact hg
  have htl : t.block < w.heap.size := by
    rcases Nat.lt_or_ge t.block w.heap.size with h | h
    · exact h
    · simp [World.cell?, Array.getElem?_eq_none h] at ht0
  have el := elemVP ⟨w.heap.size, 0, none⟩ t (((w.alloc (.cells #[.pointer (some t)] 218)).alloc (asBox w.heap.size)).alloc (asBox w.heap.size)) (by rw [World.cell?_alloc_lt _ _ ⟨w.heap.size, 0, none⟩ (by simp <;> omega)]; simp [asBox])
  have st := setS t ⟨w.heap.size + 1 + 1 + 1, 0, none⟩ c old (asW t c w)
    (by unfold asW; rw [World.cell?_alloc_at _ _ _ _ (by simp)]; rfl)
    (by unfold asW; rw [World.cell?_alloc_lt _ _ t (by simp <;> omega), World.cell?_alloc_lt _ _ t (by simp <;> omega), World.cell?_alloc_lt _ _ t (by simp <;> omega), World.cell?_alloc_lt _ _ t htl]; exact ht0)
    (by unfold asW; rw [World.frozen?_alloc_old _ _ t (by simp <;> omega), World.frozen?_alloc_old _ _ t (by simp <;> omega), World.frozen?_alloc_old _ _ t (by simp <;> omega), World.frozen?_alloc_old _ _ t (Nat.ne_of_lt htl)]; exact hf0)
  unfold asW at st ⊢
  unfold asBox at *
  go_enter Tryz.func209, Tryz.ntmps209
  go_wp2
  refine wp_loop_rounds 1 ?_
  rw [rounds_succ]
  go_wp2
  go_ret
  exact ⟨rfl, rfl⟩
end Go.Proofs.YtkhdjmjbdpmdnaaGreatDoor
namespace Go.Proofs.YtkhdjmjbdpmdnaaGreatDoor
open Go.RowKit Go.Lib

def ErrType (w : World) : Prop := w.cell? ⟨4, 0, none⟩ = some (.iface 191 (.agg #[.pointer (some ⟨7, 90, none⟩)]))
theorem ErrType.pos {w : World} (h : ErrType w) : 4 < w.heap.size := World.block_lt_of_cell? w _ h
theorem ErrType.below {w w' : World} {B : Nat} (h : ErrType w) (hb : Below B w w') (hB : 4 < B) : ErrType w' := by
  unfold ErrType at *
  rw [hb.cell hB]; exact h
theorem below_asW (t : Addr) (c : Int) (w : World) : Below w.heap.size w (asW t c w) := by
  unfold asW
  exact ((((Below.refl _ _).alloc (Nat.le_refl _) _).alloc (by simp) _).alloc (by simp; omega) _).alloc (by simp; omega) _
theorem size_asW (t : Addr) (c : Int) (w : World) : (asW t c w).heap.size = w.heap.size + 4 := by
  unfold asW
  simp

theorem as_hit2 (t : Addr) (c : Int) (old : Value) (w : World) (hg : ErrType w) (ht0 : w.cell? t = some old) (hf0 : w.frozen? t = false) :
    Calls Tryz.prog 209 #[.iface 216 (.agg #[.int .i64 c]), .iface 218 (.pointer (some t))] w fun ev w' =>
      ev = .returned (.bool true) ∧ w'.cell? t = some (.int .i64 c) ∧ Below t.block w w' := by
  have htl := World.block_lt_of_cell? w t ht0
  refine (as_hit t c old w hg ht0 hf0).mono ?_
  rintro e w' ⟨rfl, rfl⟩
  have hb := below_asW t c w
  refine ⟨rfl, World.cell?_setCell_same _ _ _ ((hb.cell htl).trans ht0), (hb.mono (Nat.le_of_lt htl)).setCell (Nat.le_refl _) _⟩

end Go.Proofs.YtkhdjmjbdpmdnaaGreatDoor
namespace Go.Proofs.YtkhdjmjbdpmdnaaGreatDoor
open Go.RowKit Go.Lib

/-- What readThing hands back. -/
def ThingOk (R : GetR) (e : Ending) : Prop :=
  R.code = 0 ∧ e = .returned (.tuple #[.agg #[.int .i64 R.tag, .string R.body], .int .i64 R.at', .nilIface]) ∨
  (∃ c, c ≠ 0 ∧ R = .bad c ∧ e = .returned (.tuple #[.agg #[.int .i64 0, .string ⟨#[]⟩], .int .i64 0, errV c]))
set_option maxHeartbeats 1000000 in
set_option maxRecDepth 100000 in
theorem readThing (s : ByteArray) (p : Int) (w : World) (hs : s.size ≤ maxLen) (hp : p ≤ 9223372036854775807) :
    Calls Tryz.prog 208 #[.string s, .int .i64 p] w fun e w' => ThingOk (getD s p) e ∧ Below w.heap.size w w' := by
  have hs' := hs
  unfold maxLen at hs'
  have HT : Hid (∀ v : World, Calls Tryz.prog 224 #[.string s, .int .i64 p] v fun e w' => (tagC s p = 0 ∧ e = .returned (.tuple #[.int .i64 (bN s p.toNat : Int), .nilIface]) ∨ tagC s p ≠ 0 ∧ e = .returned (.tuple #[.int .i64 0, errV (tagC s p)])) ∧ w' = v) := fun v => readTag s p v hs
  by_cases h0 : tagC s p = 0
  · have hf : s.size ≤ 20000 ∧ 0 ≤ p ∧ p.toNat < s.size ∧ tagB (bN s p.toNat : Int) = true := by
      unfold tagC at h0
      split at h0
      · simp at h0
      · split at h0
        · simp at h0
        · split at h0
          · simp at h0
          · split at h0
            · simp at h0
            · rename_i a b c d
              exact ⟨by omega, by omega, by omega, by simpa using d⟩
    obtain ⟨f1, f2, f3, f4⟩ := hf
    obtain ⟨k, rfl⟩ := Int.eq_ofNat_of_zero_le f2
    rw [show ((k : Int).toNat) = k from rfl] at f3 f4 HT
    have HG : Hid (getD s (k : Int) = if (lenAt s (k + 1)).1 = 0 then bodyAt s (bN s k) (lenAt s (k + 1)).2.1 (lenAt s (k + 1)).2.2 else .bad (lenAt s (k + 1)).1) := by
      show _ = _
      rw [← getAt_len f3 f4]
      unfold getD
      rw [if_neg (by omega), if_neg (by omega)]; rfl
    have HL : Hid (∀ v : World, Calls Tryz.prog 225 #[.string s, .int .i64 ((k : Int) + 1)] v fun e w' => LenOk (lenAt s (k + 1)) e ∧ w' = v) := fun v => by
      have := readLength s (k + 1) v f1
      simpa using this
    have ht := bN_lt s k
    have hlf : (lenAt s (k + 1)).1 = 0 → (lenAt s (k + 1)).2.1 ≤ 4000 ∧ (lenAt s (k + 1)).2.2 ≤ s.size := by
      have z2 := bN_lt s (k + 1 + 1)
      unfold lenAt
      repeat' split
      all_goals (intro h; simp at h ⊢; try omega)
    generalize lenAt s (k + 1) = R at *
    obtain ⟨c, n, f⟩ := R
    simp only at hlf HG
    generalize bN s k = t at *
    by_cases hc : c = 0
    · subst hc
      obtain ⟨hn, hfs⟩ := hlf rfl
      have HG1 := HG.out
      rw [if_pos rfl] at HG1
      have HL1 : Hid (∀ v : World, Calls Tryz.prog 225 #[.string s, .int .i64 ((k : Int) + 1)] v fun e w' => e = .returned (.tuple #[.int .i64 (n : Int), .int .i64 (f : Int), .nilIface]) ∧ w' = v) := fun v => by
        refine (HL.out v).mono ?_
        rintro e w' ⟨⟨_, rfl⟩ | ⟨h, _⟩, rfl⟩
        · exact ⟨rfl, rfl⟩
        · exact absurd rfl h
      have HT1 : Hid (∀ v : World, Calls Tryz.prog 224 #[.string s, .int .i64 (k : Int)] v fun e w' => e = .returned (.tuple #[.int .i64 (t : Int), .nilIface]) ∧ w' = v) := fun v => by
        refine (HT.out v).mono ?_
        rintro e w' ⟨⟨_, rfl⟩ | ⟨h, _⟩, rfl⟩
        · exact ⟨rfl, rfl⟩
        · exact absurd h0 h
      clear HT HL HG hlf h0 f4
      by_cases hsh : s.size < f + n
      · have HF : Hid (getD s (k : Int) = .bad 4) := HG1.trans (bodyAt_short hsh)
        clear HG1
        go_enter Tryz.func208, Tryz.ntmps208
        go_wp2_with fail
        refine (HT1.out _).mono ?_
        rintro e w' ⟨rfl, rfl⟩
        go_wp2_with fail
        refine (HL1.out _).mono ?_
        rintro e w' ⟨rfl, rfl⟩
        go_wp2
        refine bodyPost_ret (v := .tuple #[.agg #[.int .i64 0, .string ⟨#[]⟩], .int .i64 0, errV 4]) (by simp [errV, results, Tryz.results208, go_sem]) rfl ⟨.inr ⟨_, by decide, HF.out, rfl⟩, ?_⟩
        repeat (first | exact Below.refl _ _ | refine Below.setCell ?_ (by simp) _ | refine Below.alloc ?_ (by simp) _)
      · have HF : Hid (getD s (k : Int) = _) := HG1.trans (bodyAt_ok (by omega))
        clear HG1
        go_enter Tryz.func208, Tryz.ntmps208
        go_wp2_with fail
        refine (HT1.out _).mono ?_
        rintro e w' ⟨rfl, rfl⟩
        go_wp2_with fail
        refine (HL1.out _).mono ?_
        rintro e w' ⟨rfl, rfl⟩
        go_wp2_with fail
        refine (copyText _ _ (by rw [ByteArray.size_extract]; omega)).mono ?_
        rintro e w1 ⟨rfl, hb1⟩
        obtain ⟨hr, hB, _⟩ := resKeep (cs := [.int .i64 0, .string ⟨#[]⟩]) (T := 157) hb1
        obtain ⟨⟨c0, c1⟩, g0, g1⟩ := cells2 hr
        clear hb1 hr
        generalize s.extract f (f + n) = b at *
        go_wp2
        refine bodyPost_ret (v := .tuple #[.agg #[.int .i64 (t : Int), .string b], .int .i64 ((f : Int) + (n : Int)), .nilIface]) (by simp [results, Tryz.results208, go_sem, c0, c1]) rfl ⟨.inl ?_, ?_⟩
        · rw [HF.out]
          exact ⟨rfl, by simp⟩
        repeat (first | exact hB | refine Below.setCell ?_ (by simp) _)
    · have HF : Hid (getD s (k : Int) = .bad (c : Int)) := HG.out.trans (if_neg hc)
      have HL1 : Hid (∀ v : World, Calls Tryz.prog 225 #[.string s, .int .i64 ((k : Int) + 1)] v fun e w' => e = .returned (.tuple #[.int .i64 0, .int .i64 0, .iface 216 (.agg #[.int .i64 (c : Int)])]) ∧ w' = v) := fun v => by
        refine (HL.out v).mono ?_
        rintro e w' ⟨⟨h, _⟩ | ⟨_, rfl⟩, rfl⟩
        · exact absurd h hc
        · exact ⟨rfl, rfl⟩
      have HT1 : Hid (∀ v : World, Calls Tryz.prog 224 #[.string s, .int .i64 (k : Int)] v fun e w' => e = .returned (.tuple #[.int .i64 (t : Int), .nilIface]) ∧ w' = v) := fun v => by
        refine (HT.out v).mono ?_
        rintro e w' ⟨⟨_, rfl⟩ | ⟨h, _⟩, rfl⟩
        · exact ⟨rfl, rfl⟩
        · exact absurd h0 h
      have HC : Hid ((c : Int) ≠ 0) := by show _ ≠ _; omega
      clear HT HL HG hlf h0 f4 hc
      go_enter Tryz.func208, Tryz.ntmps208
      go_wp2_with fail
      refine (HT1.out _).mono ?_
      rintro e w' ⟨rfl, rfl⟩
      go_wp2_with fail
      refine (HL1.out _).mono ?_
      rintro e w' ⟨rfl, rfl⟩
      go_wp2
      refine bodyPost_ret (v := .tuple #[.agg #[.int .i64 0, .string ⟨#[]⟩], .int .i64 0, errV (c : Int)]) (by simp [errV, results, Tryz.results208, go_sem]) rfl ⟨.inr ⟨_, HC.out, HF.out, rfl⟩, ?_⟩
      repeat (first | exact Below.refl _ _ | refine Below.setCell ?_ (by simp) _ | refine Below.alloc ?_ (by simp) _)
  · have HF : Hid (getD s p = .bad (tagC s p)) := by
      show _ = _
      unfold getD
      unfold tagC at h0 ⊢
      split
      · rfl
      · split
        · rfl
        · split
          · rename_i h; rw [getAt_end h]
          · rename_i h1
            split
            · rename_i h; rw [getAt_tag (by omega) h]
            · rename_i h2; simp_all
    have HT1 : Hid (∀ v : World, Calls Tryz.prog 224 #[.string s, .int .i64 p] v fun e w' => e = .returned (.tuple #[.int .i64 0, .iface 216 (.agg #[.int .i64 (tagC s p)])]) ∧ w' = v) := fun v => by
      refine (HT.out v).mono ?_
      rintro e w' ⟨⟨h, _⟩ | ⟨_, rfl⟩, rfl⟩
      · exact absurd h h0
      · exact ⟨rfl, rfl⟩
    have HC : Hid (tagC s p ≠ 0) := h0
    generalize tagC s p = c at *
    clear HT h0
    go_enter Tryz.func208, Tryz.ntmps208
    go_wp2_with fail
    refine (HT1.out _).mono ?_
    rintro e w' ⟨rfl, rfl⟩
    go_wp2
    refine bodyPost_ret (v := .tuple #[.agg #[.int .i64 0, .string ⟨#[]⟩], .int .i64 0, errV c]) (by simp [errV, results, Tryz.results208, go_sem]) rfl ⟨.inr ⟨_, HC.out, HF.out, rfl⟩, ?_⟩
    repeat (first | exact Below.refl _ _ | refine Below.setCell ?_ (by simp) _ | refine Below.alloc ?_ (by simp) _)
set_option maxHeartbeats 2000000 in
set_option maxRecDepth 100000 in
theorem implDerGet (s : ByteArray) (p : Int) (w : World) (hs : s.size ≤ maxLen) (hp : p ≤ 9223372036854775807) (hg : ErrType w) :
    Calls Tryz.prog 186 #[.string s, .int .i64 p] w fun e w' => e = .returned (getD s p).val ∧ Below w.heap.size w w' := by
  have hread := fun W => readThing s p W hs hp
  generalize getD s p = R at *
  have HR : Hid (∀ W, Calls Tryz.prog 208 #[.string s, .int .i64 p] W fun e w' => ThingOk R e ∧ Below W.heap.size W w') := hread
  have HG : Hid (ErrType w) := hg
  have hpos := hg.pos
  clear hread hg
  go_enter Tryz.func186, Tryz.ntmps186
  go_wp2_with fail
  refine (HR.out _).mono ?_
  rintro e w1 ⟨hb, hB0⟩
  obtain ⟨hr, hB, hz⟩ := resKeep (cs := [.int .i64 0, .string ⟨#[]⟩, .int .i64 0, .int .i64 0]) (T := 185) hB0
  have HG1 : Hid (ErrType w1) := HG.out.below hB hpos
  have HB : Hid (Below w.heap.size w w1) := hB
  have HRow : Hid (w1.heap[w.heap.size]? = some (.cells [.int .i64 0, .string ⟨#[]⟩, .int .i64 0, .int .i64 0].toArray 185 (0, 0))) := hr
  clear hB0 hB hr
  rcases hb with ⟨hc, rfl⟩ | ⟨c, hc, rfl, rfl⟩
  · obtain ⟨⟨c0, c1, c2, c3⟩, f0, f1, f2, f3⟩ := cells4 HRow.out
    obtain ⟨r0, r1, r2, r3⟩ := R
    have HC : Hid (r3 = 0) := hc
    clear hc
    go_wp2_with fail
    refine (as_nil _ _).mono ?_
    rintro e w' ⟨rfl, rfl⟩
    go_wp2
    refine bodyPost_ret (v := .agg #[.int .i64 r0, .string r1, .int .i64 r2, .int .i64 0]) (by simp [results, Tryz.results186, go_sem, c0, c1, c2, c3, hz, Nat.lt_succ_of_lt hz]) rfl ⟨?_, ?_⟩
    · rw [HC.out]; rfl
    · repeat (first | exact HB.out | refine Below.setCell ?_ (by simp) _ | refine Below.alloc ?_ (by simp <;> omega) _)
  · have HG2 : Hid (∀ o1 o2, ErrType ((w1.alloc o1).alloc o2)) := fun o1 o2 => HG1.out.below (((Below.refl _ _).alloc (Nat.le_refl _) o1).alloc (by simp) o2) (by omega)
    clear hc
    unfold errV
    go_wp2_with fail
    refine (as_hit2 ⟨w1.heap.size + 1, 0, none⟩ c (.int .i64 0) _ (HG2.out _ _) (by simp) (by simp)).mono ?_
    rintro e w2 ⟨rfl, hcc, hb2⟩
    have hB3 : Below w1.heap.size w1 w2 := (((Below.refl _ w1).alloc (Nat.le_refl _) _).alloc (by simp) _).trans (hb2.mono (by simp))
    have HRow2 : w2.heap[w.heap.size]? = some (.cells [.int .i64 0, .string ⟨#[]⟩, .int .i64 0, .int .i64 0].toArray 185 (0, 0)) := by rw [hB3.block _ hz]; exact HRow.out
    obtain ⟨⟨c0, c1, c2, c3⟩, f0, f1, f2, f3⟩ := cells4 HRow2
    have HB2 : Hid (Below w.heap.size w w2) := HB.out.trans (hB3.mono (Nat.le_of_lt hz))
    clear hb2 hB3 HRow2
    go_wp2
    refine bodyPost_ret (v := GetR.val (.bad c)) (by simp [GetR.val, GetR.bad, results, Tryz.results186, go_sem, c0, c1, c2, c3]) rfl ⟨rfl, ?_⟩
    repeat (first | exact HB2.out | refine Below.setCell ?_ (by simp) _)
end Go.Proofs.YtkhdjmjbdpmdnaaGreatDoor
