/- impl.readTag, impl.readLength, walked. -/
import Derived.Test.YtochmolhpcidgahDoorDerT
import Derived.Test.YtochmolhpcidgahDoorDerM
import Derived.Test.YtochmolhpcidgahDoorDerR
import Derived.Test.YtochmolhpcidgahDoorLong
import Derived.OwnWalk
namespace Go.Proofs.YtochmolhpcidgahDoor
open Go.RowKit Go.Lib

/-- A fault as an error. -/
def errV (c : Int) : Value := .iface 41 (.agg #[.int .i64 c])
/-- The code of what readTag tells. -/
def tagC (s : ByteArray) (p : Int) : Int := if 20000 < s.size then 2 else if p < 0 then 1 else if s.size ≤ p.toNat then 4 else if tagB (bN s p.toNat : Int) = false then 3 else 0
set_option maxHeartbeats 1000000 in
set_option maxRecDepth 100000 in
theorem readTag (s : ByteArray) (p : Int) (w : World) (hs : s.size ≤ maxLen) :
    Calls Tryd.prog 23 #[.string s, .int .i64 p] w fun e w' => (tagC s p = 0 ∧ e = .returned (.tuple #[.int .i64 (bN s p.toNat : Int), .nilIface]) ∨ tagC s p ≠ 0 ∧ e = .returned (.tuple #[.int .i64 0, errV (tagC s p)])) ∧ w' = w := by
  have hs' := hs
  unfold maxLen at hs'
  by_cases h1 : 20000 < s.size
  · have HF : Hid (tagC s p = 2) := if_pos h1
    have hd : decide (20000 < s.size) = true := decide_eq_true h1
    go_enter Tryd.func23, Tryd.ntmps23
    go_wp2_with fail
    refine (tooLong s _ hs).mono ?_
    rintro e w' ⟨rfl, rfl⟩
    rw [hd]
    go_wp2
    go_ret2
    exact ⟨.inr (by rw [HF.out]; exact ⟨by decide, rfl⟩), rfl⟩
  have hd : decide (20000 < s.size) = false := decide_eq_false h1
  by_cases h2 : p < 0
  · have HF : Hid (tagC s p = 1) := by unfold Hid tagC; rw [if_neg h1, if_pos h2]
    go_enter Tryd.func23, Tryd.ntmps23
    go_wp2_with fail
    refine (tooLong s _ hs).mono ?_
    rintro e w' ⟨rfl, rfl⟩
    rw [hd]
    go_wp2
    go_ret2
    exact ⟨.inr (by rw [HF.out]; exact ⟨by decide, rfl⟩), rfl⟩
  obtain ⟨k, rfl⟩ := Int.eq_ofNat_of_zero_le (show 0 ≤ p by omega)
  by_cases h3 : s.size ≤ k
  · have HF : Hid (tagC s (k : Int) = 4) := by unfold Hid tagC; rw [if_neg h1, if_neg h2, show ((k : Int).toNat) = k from rfl, if_pos h3]
    go_enter Tryd.func23, Tryd.ntmps23
    go_wp2_with fail
    refine (tooLong s _ hs).mono ?_
    rintro e w' ⟨rfl, rfl⟩
    rw [hd]
    go_wp2
    go_ret2
    exact ⟨.inr (by rw [HF.out]; exact ⟨by decide, rfl⟩), rfl⟩
  have b0 := bN_eq s k (by omega)
  have u0 := u8_lt (s[k]'(by omega))
  have q0 : (k : Int) < (s.size : Int) := by omega
  cases ht : tagB (bN s k : Int) with
  | false =>
    have HF : Hid (tagC s (k : Int) = 3) := by unfold Hid tagC; rw [if_neg h1, if_neg h2, show ((k : Int).toNat) = k from rfl, if_neg h3, if_pos ht]
    rw [b0] at ht
    go_enter Tryd.func23, Tryd.ntmps23
    go_wp2_with fail
    refine (tooLong s _ hs).mono ?_
    rintro e w' ⟨rfl, rfl⟩
    rw [hd]
    go_wp2_with fail
    refine (implTag _ _).mono ?_
    rintro e w' ⟨rfl, rfl⟩
    rw [ht]
    go_wp2
    go_ret2
    exact ⟨.inr (by rw [HF.out]; exact ⟨by decide, rfl⟩), rfl⟩
  | true =>
    have HF : Hid (tagC s (k : Int) = 0 ∧ bN s (k : Int).toNat = (s[k]'(by omega)).toNat) := ⟨by unfold tagC; rw [if_neg h1, if_neg h2, show ((k : Int).toNat) = k from rfl, if_neg h3, if_neg (by rw [ht]; simp)], b0⟩
    rw [b0] at ht
    go_enter Tryd.func23, Tryd.ntmps23
    go_wp2_with fail
    refine (tooLong s _ hs).mono ?_
    rintro e w' ⟨rfl, rfl⟩
    rw [hd]
    go_wp2_with fail
    refine (implTag _ _).mono ?_
    rintro e w' ⟨rfl, rfl⟩
    rw [ht]
    go_wp2
    go_ret2
    exact ⟨.inl ⟨HF.out.1, by rw [HF.out.2]; rfl⟩, rfl⟩
/-- What readLength tells: a code, a length, and the place behind it. -/
def lenAt (s : ByteArray) (j : Nat) : Nat × Nat × Nat :=
  if s.size ≤ j then (4, 0, 0) else if bN s j < 128 then (0, bN s j, j + 1)
  else if bN s j = 129 then if s.size ≤ j + 1 then (4, 0, 0) else if bN s (j + 1) < 128 then (3, 0, 0) else (0, bN s (j + 1), j + 2)
  else if bN s j = 130 then if s.size ≤ j + 2 then (4, 0, 0) else if 256 * bN s (j + 1) + bN s (j + 2) < 256 then (3, 0, 0) else if 4000 < 256 * bN s (j + 1) + bN s (j + 2) then (3, 0, 0) else (0, 256 * bN s (j + 1) + bN s (j + 2), j + 3)
  else (3, 0, 0)
theorem getAt_len {s : ByteArray} {k : Nat} (h : k < s.size) (ht : tagB (bN s k : Int) = true) :
    getAt s k = if (lenAt s (k + 1)).1 = 0 then bodyAt s (bN s k) (lenAt s (k + 1)).2.1 (lenAt s (k + 1)).2.2 else .bad (lenAt s (k + 1)).1 := by
  unfold getAt lenAt
  rw [if_neg (by omega), if_neg (by simp [ht])]
  by_cases h1 : s.size ≤ k + 1
  · simp only [if_pos h1]; rfl
  simp only [if_neg h1]
  by_cases h2 : bN s (k + 1) < 128
  · simp only [if_pos h2]; rfl
  simp only [if_neg h2]
  by_cases h3 : bN s (k + 1) = 129
  · simp only [if_pos h3]
    by_cases h4 : s.size ≤ k + 1 + 1
    · simp only [if_pos h4]; rfl
    simp only [if_neg h4]
    by_cases h5 : bN s (k + 1 + 1) < 128
    · simp only [if_pos h5]; rfl
    · simp only [if_neg h5]; rfl
  simp only [if_neg h3]
  by_cases h4 : bN s (k + 1) = 130
  · simp only [if_pos h4]
    by_cases h5 : s.size ≤ k + 1 + 2
    · simp only [if_pos h5]; rfl
    simp only [if_neg h5]
    by_cases h6 : 256 * bN s (k + 1 + 1) + bN s (k + 1 + 2) < 256
    · simp only [if_pos h6]; rfl
    simp only [if_neg h6]
    by_cases h7 : 4000 < 256 * bN s (k + 1 + 1) + bN s (k + 1 + 2)
    · simp only [if_pos h7]; rfl
    · simp only [if_neg h7]; rfl
  · simp only [if_neg h4]; rfl
def LenOk (R : Nat × Nat × Nat) (e : Ending) : Prop :=
  R.1 = 0 ∧ e = .returned (.tuple #[.int .i64 (R.2.1 : Int), .int .i64 (R.2.2 : Int), .nilIface]) ∨ R.1 ≠ 0 ∧ e = .returned (.tuple #[.int .i64 0, .int .i64 0, errV (R.1 : Int)])
set_option maxRecDepth 100000
theorem readLen_end (s : ByteArray) (j : Nat) (w : World) (h1 : s.size ≤ j) :
    Calls Tryd.prog 24 #[.string s, .int .i64 (j : Int)] w fun e w' => LenOk (lenAt s j) e ∧ w' = w := by
  have HF : Hid (lenAt s j = (4, 0, 0)) := if_pos h1
  go_enter Tryd.func24, Tryd.ntmps24
  go_wp2
  go_ret3
  exact ⟨by rw [HF.out]; exact .inr ⟨by decide, rfl⟩, rfl⟩
theorem readLen_low (s : ByteArray) (j : Nat) (w : World) (hs : s.size ≤ 20000) (h1 : j < s.size) (h2 : bN s j < 128) :
    Calls Tryd.prog 24 #[.string s, .int .i64 (j : Int)] w fun e w' => LenOk (lenAt s j) e ∧ w' = w := by
  have b0 := bN_eq s j h1
  have HF : Hid (lenAt s j = (0, s[j].toNat, j + 1)) := by unfold Hid lenAt; rw [if_neg (by omega), if_pos h2, b0]
  have u0 := u8_lt s[j]
  have q0 : (j : Int) < (s.size : Int) := by omega
  rw [b0] at h2
  go_enter Tryd.func24, Tryd.ntmps24
  go_wp2
  go_ret3
  exact ⟨by rw [HF.out]; exact .inl ⟨rfl, by simp⟩, rfl⟩
theorem readLen_many (s : ByteArray) (j : Nat) (w : World) (h1 : j < s.size) (h2 : 128 ≤ bN s j) (h3 : bN s j ≠ 129) (h4 : bN s j ≠ 130) :
    Calls Tryd.prog 24 #[.string s, .int .i64 (j : Int)] w fun e w' => LenOk (lenAt s j) e ∧ w' = w := by
  have b0 := bN_eq s j h1
  have HF : Hid (lenAt s j = (3, 0, 0)) := by unfold Hid lenAt; rw [if_neg (by omega), if_neg (by omega), if_neg h3, if_neg h4]
  have u0 := u8_lt s[j]
  have q0 : (j : Int) < (s.size : Int) := by omega
  rw [b0] at h2 h3 h4
  have hc : s[j].toNat = 128 ∨ 131 ≤ s[j].toNat := by omega
  rcases hc with hc | hc
  all_goals
    go_enter Tryd.func24, Tryd.ntmps24
    go_wp2
    go_ret3
    exact ⟨by rw [HF.out]; exact .inr ⟨by decide, rfl⟩, rfl⟩
set_option maxHeartbeats 1000000 in
theorem readLen_129 (s : ByteArray) (j : Nat) (w : World) (hs : s.size ≤ 20000) (h1 : j < s.size) (h2 : bN s j = 129) :
    Calls Tryd.prog 24 #[.string s, .int .i64 (j : Int)] w fun e w' => LenOk (lenAt s j) e ∧ w' = w := by
  have b0 := bN_eq s j h1
  have HG : lenAt s j = if s.size ≤ j + 1 then (4, 0, 0) else if bN s (j + 1) < 128 then (3, 0, 0) else (0, bN s (j + 1), j + 2) := by unfold lenAt; rw [if_neg (by omega), if_neg (by omega), if_pos h2]
  have q0 : (j : Int) < (s.size : Int) := by omega
  rw [b0] at h2
  have e1 : (s[j].toNat : Int) = 129 := by omega
  by_cases h3 : s.size ≤ j + 1
  · have HF : Hid (lenAt s j = (4, 0, 0)) := HG.trans (if_pos h3)
    clear HG
    go_enter Tryd.func24, Tryd.ntmps24
    go_wp2
    go_ret3
    exact ⟨by rw [HF.out]; exact .inr ⟨by decide, rfl⟩, rfl⟩
  rw [if_neg h3] at HG
  have b1 := bN_eq s (j + 1) (by omega)
  have u1 := u8_lt (s[j + 1]'(by omega))
  have o1 := or8 0 (s[j + 1]'(by omega)).toNat (by omega) (by omega) (by omega)
  simp only [Int.zero_mul, Int.zero_add] at o1
  rw [b1] at HG
  have q2 : (j : Int) + 1 < (s.size : Int) := by omega
  have q3 : (0 : Int) ≤ (j : Int) + 1 := by omega
  obtain ⟨m, hm⟩ : ∃ m : Nat, m = (s[j + 1]'(by omega)).toNat := ⟨_, rfl⟩
  have em : ((s[j + 1]'(by omega)).toNat : Int) = (m : Int) := by omega
  rw [← hm] at HG
  have hm2 : m < 256 := by omega
  have HL : Hid (∀ v : World, Calls Tryd.prog 33 #[.int .i64 (m : Int)] v fun e w' => e = .returned (.int .i64 (moreL m : Int)) ∧ w' = v) := fun v => lengthBytes _ v (by omega)
  have EM : Hid (((s[j + 1]'(by omega)).toNat : Int) = (m : Int)) := em
  have HG2 : Hid _ := HG
  clear hm em HG
  go_enter Tryd.func24, Tryd.ntmps24
  go_wp2_with fail
  refine wp_loop_rounds 2 ?_
  rw [rounds_succ]
  go_wp2
  rw [EM.out]
  rw [rounds_succ]
  go_wp2_with fail
  refine (HL.out _).mono ?_
  rintro e w' ⟨rfl, rfl⟩
  have HG := HG2.out
  clear HG2 o1 u1
  by_cases h4 : m < 128
  · have HF : Hid (lenAt s j = (3, 0, 0)) := HG.trans (if_pos h4)
    rw [show moreL m = 0 from if_pos h4]
    clear HG
    go_wp2
    go_ret3
    exact ⟨by rw [HF.out]; exact .inr ⟨by decide, rfl⟩, rfl⟩
  · have HF : Hid (lenAt s j = (0, m, j + 2)) := HG.trans (if_neg h4)
    rw [show moreL m = 1 from by rw [moreL, if_neg h4, if_pos hm2]]
    clear HG
    go_wp2
    go_ret3
    exact ⟨by rw [HF.out]; exact .inl ⟨rfl, by simp [Int.add_assoc]⟩, rfl⟩
set_option maxHeartbeats 1000000 in
theorem readLen_130 (s : ByteArray) (j : Nat) (w : World) (hs : s.size ≤ 20000) (h1 : j < s.size) (h2 : bN s j = 130) :
    Calls Tryd.prog 24 #[.string s, .int .i64 (j : Int)] w fun e w' => LenOk (lenAt s j) e ∧ w' = w := by
  have b0 := bN_eq s j h1
  have HG : lenAt s j = if s.size ≤ j + 2 then (4, 0, 0) else if 256 * bN s (j + 1) + bN s (j + 2) < 256 then (3, 0, 0) else if 4000 < 256 * bN s (j + 1) + bN s (j + 2) then (3, 0, 0) else (0, 256 * bN s (j + 1) + bN s (j + 2), j + 3) := by unfold lenAt; rw [if_neg (by omega), if_neg (by omega), if_neg (by omega), if_pos h2]
  have q0 : (j : Int) < (s.size : Int) := by omega
  rw [b0] at h2
  have e1 : (s[j].toNat : Int) = 130 := by omega
  by_cases h3 : s.size ≤ j + 2
  · have HF : Hid (lenAt s j = (4, 0, 0)) := HG.trans (if_pos h3)
    clear HG
    go_enter Tryd.func24, Tryd.ntmps24
    go_wp2
    go_ret3
    exact ⟨by rw [HF.out]; exact .inr ⟨by decide, rfl⟩, rfl⟩
  rw [if_neg h3] at HG
  have b1 := bN_eq s (j + 1) (by omega)
  have b2 : bN s (j + 2) = (s[j + 1 + 1]'(by omega)).toNat := bN_eq s (j + 1 + 1) (by omega)
  have u1 := u8_lt (s[j + 1]'(by omega))
  have u2 := u8_lt (s[j + 1 + 1]'(by omega))
  have o1 := or8 0 (s[j + 1]'(by omega)).toNat (by omega) (by omega) (by omega)
  simp only [Int.zero_mul, Int.zero_add] at o1
  have o2 := or8 (s[j + 1]'(by omega)).toNat (s[j + 1 + 1]'(by omega)).toNat (by omega) (by omega) (by omega)
  rw [b1, b2] at HG
  have q2 : (j : Int) + 1 < (s.size : Int) := by omega
  have q3 : (0 : Int) ≤ (j : Int) + 1 := by omega
  have q4 : (j : Int) + 1 + 1 < (s.size : Int) := by omega
  have q5 : (0 : Int) ≤ (j : Int) + 1 + 1 := by omega
  obtain ⟨m, hm⟩ : ∃ m : Nat, m = 256 * (s[j + 1]'(by omega)).toNat + (s[j + 1 + 1]'(by omega)).toNat := ⟨_, rfl⟩
  rw [← hm] at HG
  have hm2 : m < 65536 := by omega
  have HL : Hid (∀ v : World, Calls Tryd.prog 33 #[.int .i64 (m : Int)] v fun e w' => e = .returned (.int .i64 (moreL m : Int)) ∧ w' = v) := fun v => lengthBytes _ v (by omega)
  have EM : Hid (((s[j + 1]'(by omega)).toNat : Int) * 256 + ((s[j + 1 + 1]'(by omega)).toNat : Int) = (m : Int)) := by show _ = _; omega
  have HG2 : Hid _ := HG
  clear hm HG b0 b1 b2
  go_enter Tryd.func24, Tryd.ntmps24
  go_wp2_with fail
  refine wp_loop_rounds 3 ?_
  rw [rounds_succ]
  go_wp2
  rw [rounds_succ]
  go_wp2
  rw [EM.out]
  rw [rounds_succ]
  go_wp2_with fail
  refine (HL.out _).mono ?_
  rintro e w' ⟨rfl, rfl⟩
  have HG := HG2.out
  clear HG2 o1 u1 o2 u2
  by_cases h4 : m < 256
  · have HF : Hid (lenAt s j = (3, 0, 0)) := HG.trans (if_pos h4)
    have hmm : moreL m = 0 ∨ moreL m = 1 := by
      by_cases h9 : m < 128
      · exact .inl (if_pos h9)
      · exact .inr (by rw [moreL, if_neg h9, if_pos h4])
    clear HG
    rcases hmm with hmm | hmm
    all_goals
      rw [hmm]
      go_wp2
      go_ret3
      exact ⟨by rw [HF.out]; exact .inr ⟨by decide, rfl⟩, rfl⟩
  rw [if_neg h4] at HG
  rw [show moreL m = 2 from by rw [moreL, if_neg (by omega), if_neg h4]]
  by_cases h5 : 4000 < m
  · have HF : Hid (lenAt s j = (3, 0, 0)) := HG.trans (if_pos h5)
    clear HG
    go_wp2
    go_ret3
    exact ⟨by rw [HF.out]; exact .inr ⟨by decide, rfl⟩, rfl⟩
  · have HF : Hid (lenAt s j = (0, m, j + 3)) := HG.trans (if_neg h5)
    clear HG
    go_wp2
    go_ret3
    exact ⟨by rw [HF.out]; exact .inl ⟨rfl, by simp [Int.add_assoc]⟩, rfl⟩
theorem readLength (s : ByteArray) (j : Nat) (w : World) (hs : s.size ≤ 20000) :
    Calls Tryd.prog 24 #[.string s, .int .i64 (j : Int)] w fun e w' => LenOk (lenAt s j) e ∧ w' = w := by
  by_cases h1 : s.size ≤ j
  · exact readLen_end s j w h1
  by_cases h2 : bN s j < 128
  · exact readLen_low s j w hs (by omega) h2
  by_cases h3 : bN s j = 129
  · exact readLen_129 s j w hs (by omega) h3
  by_cases h4 : bN s j = 130
  · exact readLen_130 s j w hs (by omega) h4
  · exact readLen_many s j w (by omega) (by omega) h3 h4
end Go.Proofs.YtochmolhpcidgahDoor
