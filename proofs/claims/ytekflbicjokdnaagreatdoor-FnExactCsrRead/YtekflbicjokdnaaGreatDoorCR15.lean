/- impl.readTag, impl.readLength, walked. impl.copyText, walked. errors.As at the target '*impl.byteFault', by its contracts: a nil error: false; an error that is a byteFault: true, and the target is set. After the guide's worked example. errors.As once more, with the world by what it keeps. -/
import Derived.Test.YtekflbicjokdnaaGreatDoorCR06
import Derived.Test.YtekflbicjokdnaaGreatDoorCR05
import Derived.Test.YtekflbicjokdnaaGreatDoorCR01
import Derived.OwnWalk
import Derived.Test.YtekflbicjokdnaaGreatDoorCR03
import Derived.Test.YtekflbicjokdnaaGreatDoorRows
import Derived.WalkKit
import Derived.LaidEql
import Derived.Stop.Asserts
import Derived.RowKitTokens
import Derived.Below
namespace Go.Proofs.YtekflbicjokdnaaGreatDoor
open Go.RowKit Go.Lib

/-- A fault as an error. -/
def errV (c : Int) : Value := .iface 163 (.agg #[.int .i64 c])
/-- The code of what readTag tells. -/
def tagC (s : ByteArray) (p : Int) : Int := if 20000 < s.size then 2 else if p < 0 then 1 else if s.size ≤ p.toNat then 4 else if tagB (bN s p.toNat : Int) = false then 3 else 0
set_option maxHeartbeats 1000000 in
set_option maxRecDepth 100000 in
theorem readTag (s : ByteArray) (p : Int) (w : World) (hs : s.size ≤ maxLen) :
    Calls Tryz.prog 167 #[.string s, .int .i64 p] w fun e w' => (tagC s p = 0 ∧ e = .returned (.tuple #[.int .i64 (bN s p.toNat : Int), .nilIface]) ∨ tagC s p ≠ 0 ∧ e = .returned (.tuple #[.int .i64 0, errV (tagC s p)])) ∧ w' = w := by
  have hs' := hs
  unfold maxLen at hs'
  by_cases h1 : 20000 < s.size
  · have HF : Hid (tagC s p = 2) := if_pos h1
    have hd : decide (20000 < s.size) = true := decide_eq_true h1
    go_enter Tryz.func167, Tryz.ntmps167
    go_wp2_with fail
    refine (tooLong s _ hs).mono ?_
    rintro e w' ⟨rfl, rfl⟩
    rw [hd]
    go_wp2
    go_ret2
    exact ⟨.inr (by rw [HF.out]; exact ⟨by decide, rfl⟩), rfl⟩
  have hd : decide (20000 < s.size) = false := decide_eq_false h1
  by_cases h2 : p < 0
  · have HF : Hid (tagC s p = 1) := by unfold Hid tagC; rw [if_neg h1, if_pos h2]
    go_enter Tryz.func167, Tryz.ntmps167
    go_wp2_with fail
    refine (tooLong s _ hs).mono ?_
    rintro e w' ⟨rfl, rfl⟩
    rw [hd]
    go_wp2
    go_ret2
    exact ⟨.inr (by rw [HF.out]; exact ⟨by decide, rfl⟩), rfl⟩
  obtain ⟨k, rfl⟩ := Int.eq_ofNat_of_zero_le (show 0 ≤ p by omega)
  by_cases h3 : s.size ≤ k
  · have HF : Hid (tagC s (k : Int) = 4) := by unfold Hid tagC; rw [if_neg h1, if_neg h2, show ((k : Int).toNat) = k from rfl, if_pos h3]
    go_enter Tryz.func167, Tryz.ntmps167
    go_wp2_with fail
    refine (tooLong s _ hs).mono ?_
    rintro e w' ⟨rfl, rfl⟩
    rw [hd]
    go_wp2
    go_ret2
    exact ⟨.inr (by rw [HF.out]; exact ⟨by decide, rfl⟩), rfl⟩
  have b0 := bN_eq s k (by omega)
  have u0 := u8_lt (s[k]'(by omega))
  have q0 : (k : Int) < (s.size : Int) := by omega
  cases ht : tagB (bN s k : Int) with
  | false =>
    have HF : Hid (tagC s (k : Int) = 3) := by unfold Hid tagC; rw [if_neg h1, if_neg h2, show ((k : Int).toNat) = k from rfl, if_neg h3, if_pos ht]
    rw [b0] at ht
    go_enter Tryz.func167, Tryz.ntmps167
    go_wp2_with fail
    refine (tooLong s _ hs).mono ?_
    rintro e w' ⟨rfl, rfl⟩
    rw [hd]
    go_wp2_with fail
    refine (implTag _ _).mono ?_
    rintro e w' ⟨rfl, rfl⟩
    rw [ht]
    go_wp2
    go_ret2
    exact ⟨.inr (by rw [HF.out]; exact ⟨by decide, rfl⟩), rfl⟩
  | true =>
    have HF : Hid (tagC s (k : Int) = 0 ∧ bN s (k : Int).toNat = (s[k]'(by omega)).toNat) := ⟨by unfold tagC; rw [if_neg h1, if_neg h2, show ((k : Int).toNat) = k from rfl, if_neg h3, if_neg (by rw [ht]; simp)], b0⟩
    rw [b0] at ht
    go_enter Tryz.func167, Tryz.ntmps167
    go_wp2_with fail
    refine (tooLong s _ hs).mono ?_
    rintro e w' ⟨rfl, rfl⟩
    rw [hd]
    go_wp2_with fail
    refine (implTag _ _).mono ?_
    rintro e w' ⟨rfl, rfl⟩
    rw [ht]
    go_wp2
    go_ret2
    exact ⟨.inl ⟨HF.out.1, by rw [HF.out.2]; rfl⟩, rfl⟩
/-- What readLength tells: a code, a length, and the place behind it. -/
def lenAt (s : ByteArray) (j : Nat) : Nat × Nat × Nat :=
  if s.size ≤ j then (4, 0, 0) else if bN s j < 128 then (0, bN s j, j + 1)
  else if bN s j = 129 then if s.size ≤ j + 1 then (4, 0, 0) else if bN s (j + 1) < 128 then (3, 0, 0) else (0, bN s (j + 1), j + 2)
  else if bN s j = 130 then if s.size ≤ j + 2 then (4, 0, 0) else if 256 * bN s (j + 1) + bN s (j + 2) < 256 then (3, 0, 0) else if 4000 < 256 * bN s (j + 1) + bN s (j + 2) then (3, 0, 0) else (0, 256 * bN s (j + 1) + bN s (j + 2), j + 3)
  else (3, 0, 0)
theorem getAt_len {s : ByteArray} {k : Nat} (h : k < s.size) (ht : tagB (bN s k : Int) = true) :
    getAt s k = if (lenAt s (k + 1)).1 = 0 then bodyAt s (bN s k) (lenAt s (k + 1)).2.1 (lenAt s (k + 1)).2.2 else .bad (lenAt s (k + 1)).1 := by
  unfold getAt lenAt
  rw [if_neg (by omega), if_neg (by simp [ht])]
  by_cases h1 : s.size ≤ k + 1
  · simp only [if_pos h1]; rfl
  simp only [if_neg h1]
  by_cases h2 : bN s (k + 1) < 128
  · simp only [if_pos h2]; rfl
  simp only [if_neg h2]
  by_cases h3 : bN s (k + 1) = 129
  · simp only [if_pos h3]
    by_cases h4 : s.size ≤ k + 1 + 1
    · simp only [if_pos h4]; rfl
    simp only [if_neg h4]
    by_cases h5 : bN s (k + 1 + 1) < 128
    · simp only [if_pos h5]; rfl
    · simp only [if_neg h5]; rfl
  simp only [if_neg h3]
  by_cases h4 : bN s (k + 1) = 130
  · simp only [if_pos h4]
    by_cases h5 : s.size ≤ k + 1 + 2
    · simp only [if_pos h5]; rfl
    simp only [if_neg h5]
    by_cases h6 : 256 * bN s (k + 1 + 1) + bN s (k + 1 + 2) < 256
    · simp only [if_pos h6]; rfl
    simp only [if_neg h6]
    by_cases h7 : 4000 < 256 * bN s (k + 1 + 1) + bN s (k + 1 + 2)
    · simp only [if_pos h7]; rfl
    · simp only [if_neg h7]; rfl
  · simp only [if_neg h4]; rfl
def LenOk (R : Nat × Nat × Nat) (e : Ending) : Prop :=
  R.1 = 0 ∧ e = .returned (.tuple #[.int .i64 (R.2.1 : Int), .int .i64 (R.2.2 : Int), .nilIface]) ∨ R.1 ≠ 0 ∧ e = .returned (.tuple #[.int .i64 0, .int .i64 0, errV (R.1 : Int)])
set_option maxRecDepth 100000
theorem readLen_end (s : ByteArray) (j : Nat) (w : World) (h1 : s.size ≤ j) :
    Calls Tryz.prog 168 #[.string s, .int .i64 (j : Int)] w fun e w' => LenOk (lenAt s j) e ∧ w' = w := by
  have HF : Hid (lenAt s j = (4, 0, 0)) := if_pos h1
  go_enter Tryz.func168, Tryz.ntmps168
  go_wp2
  go_ret3
  exact ⟨by rw [HF.out]; exact .inr ⟨by decide, rfl⟩, rfl⟩
theorem readLen_low (s : ByteArray) (j : Nat) (w : World) (hs : s.size ≤ 20000) (h1 : j < s.size) (h2 : bN s j < 128) :
    Calls Tryz.prog 168 #[.string s, .int .i64 (j : Int)] w fun e w' => LenOk (lenAt s j) e ∧ w' = w := by
  have b0 := bN_eq s j h1
  have HF : Hid (lenAt s j = (0, s[j].toNat, j + 1)) := by unfold Hid lenAt; rw [if_neg (by omega), if_pos h2, b0]
  have u0 := u8_lt s[j]
  have q0 : (j : Int) < (s.size : Int) := by omega
  rw [b0] at h2
  go_enter Tryz.func168, Tryz.ntmps168
  go_wp2
  go_ret3
  exact ⟨by rw [HF.out]; exact .inl ⟨rfl, by simp⟩, rfl⟩
theorem readLen_many (s : ByteArray) (j : Nat) (w : World) (h1 : j < s.size) (h2 : 128 ≤ bN s j) (h3 : bN s j ≠ 129) (h4 : bN s j ≠ 130) :
    Calls Tryz.prog 168 #[.string s, .int .i64 (j : Int)] w fun e w' => LenOk (lenAt s j) e ∧ w' = w := by
  have b0 := bN_eq s j h1
  have HF : Hid (lenAt s j = (3, 0, 0)) := by unfold Hid lenAt; rw [if_neg (by omega), if_neg (by omega), if_neg h3, if_neg h4]
  have u0 := u8_lt s[j]
  have q0 : (j : Int) < (s.size : Int) := by omega
  rw [b0] at h2 h3 h4
  have hc : s[j].toNat = 128 ∨ 131 ≤ s[j].toNat := by omega
  rcases hc with hc | hc
  all_goals
    go_enter Tryz.func168, Tryz.ntmps168
    go_wp2
    go_ret3
    exact ⟨by rw [HF.out]; exact .inr ⟨by decide, rfl⟩, rfl⟩
set_option maxHeartbeats 1000000 in
theorem readLen_129 (s : ByteArray) (j : Nat) (w : World) (hs : s.size ≤ 20000) (h1 : j < s.size) (h2 : bN s j = 129) :
    Calls Tryz.prog 168 #[.string s, .int .i64 (j : Int)] w fun e w' => LenOk (lenAt s j) e ∧ w' = w := by
  have b0 := bN_eq s j h1
  have HG : lenAt s j = if s.size ≤ j + 1 then (4, 0, 0) else if bN s (j + 1) < 128 then (3, 0, 0) else (0, bN s (j + 1), j + 2) := by unfold lenAt; rw [if_neg (by omega), if_neg (by omega), if_pos h2]
  have q0 : (j : Int) < (s.size : Int) := by omega
  rw [b0] at h2
  have e1 : (s[j].toNat : Int) = 129 := by omega
  by_cases h3 : s.size ≤ j + 1
  · have HF : Hid (lenAt s j = (4, 0, 0)) := HG.trans (if_pos h3)
    clear HG
    go_enter Tryz.func168, Tryz.ntmps168
    go_wp2
    go_ret3
    exact ⟨by rw [HF.out]; exact .inr ⟨by decide, rfl⟩, rfl⟩
  rw [if_neg h3] at HG
  have b1 := bN_eq s (j + 1) (by omega)
  have u1 := u8_lt (s[j + 1]'(by omega))
  have o1 := or8 0 (s[j + 1]'(by omega)).toNat (by omega) (by omega) (by omega)
  simp only [Int.zero_mul, Int.zero_add] at o1
  rw [b1] at HG
  have q2 : (j : Int) + 1 < (s.size : Int) := by omega
  have q3 : (0 : Int) ≤ (j : Int) + 1 := by omega
  obtain ⟨m, hm⟩ : ∃ m : Nat, m = (s[j + 1]'(by omega)).toNat := ⟨_, rfl⟩
  have em : ((s[j + 1]'(by omega)).toNat : Int) = (m : Int) := by omega
  rw [← hm] at HG
  have hm2 : m < 256 := by omega
  have HL : Hid (∀ v : World, Calls Tryz.prog 189 #[.int .i64 (m : Int)] v fun e w' => e = .returned (.int .i64 (moreL m : Int)) ∧ w' = v) := fun v => lengthBytes _ v (by omega)
  have EM : Hid (((s[j + 1]'(by omega)).toNat : Int) = (m : Int)) := em
  have HG2 : Hid _ := HG
  clear hm em HG
  go_enter Tryz.func168, Tryz.ntmps168
  go_wp2_with fail
  refine wp_loop_rounds 2 ?_
  rw [rounds_succ]
  go_wp2
  rw [EM.out]
  rw [rounds_succ]
  go_wp2_with fail
  refine (HL.out _).mono ?_
  rintro e w' ⟨rfl, rfl⟩
  have HG := HG2.out
  clear HG2 o1 u1
  by_cases h4 : m < 128
  · have HF : Hid (lenAt s j = (3, 0, 0)) := HG.trans (if_pos h4)
    rw [show moreL m = 0 from if_pos h4]
    clear HG
    go_wp2
    go_ret3
    exact ⟨by rw [HF.out]; exact .inr ⟨by decide, rfl⟩, rfl⟩
  · have HF : Hid (lenAt s j = (0, m, j + 2)) := HG.trans (if_neg h4)
    rw [show moreL m = 1 from by rw [moreL, if_neg h4, if_pos hm2]]
    clear HG
    go_wp2
    go_ret3
    exact ⟨by rw [HF.out]; exact .inl ⟨rfl, by simp [Int.add_assoc]⟩, rfl⟩
set_option maxHeartbeats 1000000 in
theorem readLen_130 (s : ByteArray) (j : Nat) (w : World) (hs : s.size ≤ 20000) (h1 : j < s.size) (h2 : bN s j = 130) :
    Calls Tryz.prog 168 #[.string s, .int .i64 (j : Int)] w fun e w' => LenOk (lenAt s j) e ∧ w' = w := by
  have b0 := bN_eq s j h1
  have HG : lenAt s j = if s.size ≤ j + 2 then (4, 0, 0) else if 256 * bN s (j + 1) + bN s (j + 2) < 256 then (3, 0, 0) else if 4000 < 256 * bN s (j + 1) + bN s (j + 2) then (3, 0, 0) else (0, 256 * bN s (j + 1) + bN s (j + 2), j + 3) := by unfold lenAt; rw [if_neg (by omega), if_neg (by omega), if_neg (by omega), if_pos h2]
  have q0 : (j : Int) < (s.size : Int) := by omega
  rw [b0] at h2
  have e1 : (s[j].toNat : Int) = 130 := by omega
  by_cases h3 : s.size ≤ j + 2
  · have HF : Hid (lenAt s j = (4, 0, 0)) := HG.trans (if_pos h3)
    clear HG
    go_enter Tryz.func168, Tryz.ntmps168
    go_wp2
    go_ret3
    exact ⟨by rw [HF.out]; exact .inr ⟨by decide, rfl⟩, rfl⟩
  rw [if_neg h3] at HG
  have b1 := bN_eq s (j + 1) (by omega)
  have b2 : bN s (j + 2) = (s[j + 1 + 1]'(by omega)).toNat := bN_eq s (j + 1 + 1) (by omega)
  have u1 := u8_lt (s[j + 1]'(by omega))
  have u2 := u8_lt (s[j + 1 + 1]'(by omega))
  have o1 := or8 0 (s[j + 1]'(by omega)).toNat (by omega) (by omega) (by omega)
  simp only [Int.zero_mul, Int.zero_add] at o1
  have o2 := or8 (s[j + 1]'(by omega)).toNat (s[j + 1 + 1]'(by omega)).toNat (by omega) (by omega) (by omega)
  rw [b1, b2] at HG
  have q2 : (j : Int) + 1 < (s.size : Int) := by omega
  have q3 : (0 : Int) ≤ (j : Int) + 1 := by omega
  have q4 : (j : Int) + 1 + 1 < (s.size : Int) := by omega
  have q5 : (0 : Int) ≤ (j : Int) + 1 + 1 := by omega
  obtain ⟨m, hm⟩ : ∃ m : Nat, m = 256 * (s[j + 1]'(by omega)).toNat + (s[j + 1 + 1]'(by omega)).toNat := ⟨_, rfl⟩
  rw [← hm] at HG
  have hm2 : m < 65536 := by omega
  have HL : Hid (∀ v : World, Calls Tryz.prog 189 #[.int .i64 (m : Int)] v fun e w' => e = .returned (.int .i64 (moreL m : Int)) ∧ w' = v) := fun v => lengthBytes _ v (by omega)
  have EM : Hid (((s[j + 1]'(by omega)).toNat : Int) * 256 + ((s[j + 1 + 1]'(by omega)).toNat : Int) = (m : Int)) := by show _ = _; omega
  have HG2 : Hid _ := HG
  clear hm HG b0 b1 b2
  go_enter Tryz.func168, Tryz.ntmps168
  go_wp2_with fail
  refine wp_loop_rounds 3 ?_
  rw [rounds_succ]
  go_wp2
  rw [rounds_succ]
  go_wp2
  rw [EM.out]
  rw [rounds_succ]
  go_wp2_with fail
  refine (HL.out _).mono ?_
  rintro e w' ⟨rfl, rfl⟩
  have HG := HG2.out
  clear HG2 o1 u1 o2 u2
  by_cases h4 : m < 256
  · have HF : Hid (lenAt s j = (3, 0, 0)) := HG.trans (if_pos h4)
    have hmm : moreL m = 0 ∨ moreL m = 1 := by
      by_cases h9 : m < 128
      · exact .inl (if_pos h9)
      · exact .inr (by rw [moreL, if_neg h9, if_pos h4])
    clear HG
    rcases hmm with hmm | hmm
    all_goals
      rw [hmm]
      go_wp2
      go_ret3
      exact ⟨by rw [HF.out]; exact .inr ⟨by decide, rfl⟩, rfl⟩
  rw [if_neg h4] at HG
  rw [show moreL m = 2 from by rw [moreL, if_neg (by omega), if_neg h4]]
  by_cases h5 : 4000 < m
  · have HF : Hid (lenAt s j = (3, 0, 0)) := HG.trans (if_pos h5)
    clear HG
    go_wp2
    go_ret3
    exact ⟨by rw [HF.out]; exact .inr ⟨by decide, rfl⟩, rfl⟩
  · have HF : Hid (lenAt s j = (0, m, j + 3)) := HG.trans (if_neg h5)
    clear HG
    go_wp2
    go_ret3
    exact ⟨by rw [HF.out]; exact .inl ⟨rfl, by simp [Int.add_assoc]⟩, rfl⟩
theorem readLength (s : ByteArray) (j : Nat) (w : World) (hs : s.size ≤ 20000) :
    Calls Tryz.prog 168 #[.string s, .int .i64 (j : Int)] w fun e w' => LenOk (lenAt s j) e ∧ w' = w := by
  by_cases h1 : s.size ≤ j
  · exact readLen_end s j w h1
  by_cases h2 : bN s j < 128
  · exact readLen_low s j w hs (by omega) h2
  by_cases h3 : bN s j = 129
  · exact readLen_129 s j w hs (by omega) h3
  by_cases h4 : bN s j = 130
  · exact readLen_130 s j w hs (by omega) h4
  · exact readLen_many s j w (by omega) (by omega) h3 h4
end Go.Proofs.YtekflbicjokdnaaGreatDoor
namespace Go.Proofs.YtekflbicjokdnaaGreatDoor
open Go.RowKit Go.Lib

set_option maxHeartbeats 1000000 in
set_option maxRecDepth 100000 in
theorem copyText (a : ByteArray) (w : World) (ha : a.size ≤ 1100000) :
    Calls Tryz.prog 169 #[.string a] w fun e w' => e = .returned (.string a) ∧ Below w.heap.size w w' := by
  obtain ⟨i0, hi, hz0, hz1, hz2⟩ := info_parts infoByte
  go_enter Tryz.func169, Tryz.ntmps169
  go_wp2_with (at_make; refine wpList_make_full _ rfl _ _ 137 rfl w.heap.size 5 i0 (.int .u8 0) 1 Tryz.underlying137 hi hz0 hz1 .i64 .i64 _ _ a.size rfl rfl ?c1 ?c2 ?c3 ?c4 ?c5 ?_)
  case c1 => omega
  case c2 => omega
  case c3 => rw [hz2]; omega
  case c4 => unfold maxLen; omega
  case c5 => exact Nat.le_refl _
  intro w1 hown hgrow
  obtain ⟨hrow, hlen⟩ := rowOf hown rfl
  have hB1 : Below w.heap.size w w1 := (Below.refl _ w).grown hgrow (Nat.le_refl _) (fun k hk => by cases hk)
  generalize (madeCells #[Value.int IntKind.u8 0] a.size).toList = L at hrow hlen
  have la : (byteCells a.data.toList).length = a.size := by rw [byteCells_length, ← size_eq]
  have HF : Hid (∀ w3 : World, w3.heap[w.heap.size]? = some (.cells (splice L 0 (byteCells a.data.toList)).toArray 5 (0, 0)) →
      (convert 137 9 (.slice (some ⟨w.heap.size, 0, none⟩) a.size a.size)).run Tryz.prog w3 = .ok (.string a) w3) := by
    intro w3 h3
    rw [splice_one L (byteCells a.data.toList) (by omega)] at h3
    have h4 : w3.heap[w.heap.size]? = some (.cells (byteCells a.data.toList ++ []).toArray 5 (0, 0)) := by simpa using h3
    have := run_convert_row (P := Tryz.prog) (src := 137) (dst := 9) (cap := a.size) Tryz.underlying137 Tryz.underlying5 Tryz.underlying9 h4
    rw [← size_eq] at this
    exact this
  clear hown hgrow la
  go_wp2_with (refine wpList_copy_str rfl _ _ 137 9 rfl 5 Tryz.underlying137 byteSize _ _ _ a rfl rfl w.heap.size 0 L 5 hrow (fun _ => rfl) ?d2 ?d3 w.heap.size w hB1 (Nat.le_refl _) ?_)
  case d2 => exact Nat.le_refl _
  case d3 => omega
  intro w2 H2 hB2 hs2
  have hcv := HF.out w2 H2.out
  clear hrow hB1 hs2
  go_wp2
  go_ret
  exact ⟨rfl, hB2⟩

end Go.Proofs.YtekflbicjokdnaaGreatDoor
namespace Go.Proofs.YtekflbicjokdnaaGreatDoor
open Go.RowKit Go.Extern.Stop Go.Stop Go.Extern

theorem as_nil (t : Value) (w : World) :
    Calls Tryz.prog 147 #[.nilIface, t] w fun e w' => e = .returned (.bool false) ∧ w' = w := by
  go_enter Tryz.func147, Tryz.ntmps147
  go_wp2
  go_ret
  exact ⟨rfl, rfl⟩

theorem valueOfP (t : Addr) (w : World) : (ReflectliteValue.unpack (.iface 165 (.pointer (some t)))).run Tryz.prog w
    = .ok (.agg #[.pointer (some ⟨7, 165, none⟩), .pointer (some ⟨w.heap.size, 0, none⟩), .int .u64 150]) (w.alloc (.cells #[.pointer (some t)] 165)) := by kernel_rfl
theorem typeP (a : Addr) (w : World) : (ReflectliteValue.methodAny (ReflectliteValue.valueError "reflectlite.Value.Type" 0) (fun t _ _ _ => ReflectliteType.toType t) #[.agg #[.pointer (some ⟨7, 165, none⟩), .pointer (some a), .int .u64 150]]).run Tryz.prog w
    = .ok (.iface 145 (.agg #[.pointer (some ⟨7, 165, none⟩)])) w := by kernel_rfl
theorem methodKind (h : Value) (w : World) : (Go.method 376 145 (.agg #[h]) "Kind").run Tryz.prog w = .ok (231, h) w := by kernel_rfl
theorem kindP (w : World) : ((ReflectliteType.abiMethod fun t => (fun a : Nat => Value.int IntKind.u8 (a : Int)) <$> Rtype.kind t) #[.pointer (some ⟨7, 165, none⟩)]).run Tryz.prog w = .ok (.int .u8 22) w := by kernel_rfl
theorem kindS (w : World) : ((ReflectliteType.abiMethod fun t => (fun a : Nat => Value.int IntKind.u8 (a : Int)) <$> Rtype.kind t) #[.pointer (some ⟨7, 163, none⟩)]).run Tryz.prog w = .ok (.int .u8 25) w := by kernel_rfl
theorem partsP (a : Addr) (w : World) : (ReflectliteValue.parts (.agg #[.pointer (some ⟨7, 165, none⟩), .pointer (some a), .int .u64 150])).run Tryz.prog w = .ok (some (165, a, 150)) w := by kernel_rfl
theorem isNilP (a p : Addr) (W : World) (ha : W.cell? a = some (.pointer (some p))) :
    (ReflectliteValue.method (ReflectliteValue.valueError "reflectlite.Value.IsNil" 0) ReflectliteValue.isNil #[.agg #[.pointer (some ⟨7, 165, none⟩), .pointer (some a), .int .u64 150]]).run Tryz.prog W = .ok (.bool false) W := by
  unfold ReflectliteValue.method ReflectliteValue.method.match_2
  simp [Array.getLit, partsP, ReflectliteValue.isNil, loadVar, isAgg, underlying, Tryz.underlying165, ha, Result.andThen]
theorem methodElem (h : Value) (w : World) : (Go.method 376 145 (.agg #[h]) "Elem").run Tryz.prog w = .ok (238, .agg #[h]) w := by kernel_rfl
theorem methodImplements (h : Value) (w : World) : (Go.method 376 145 (.agg #[h]) "Implements").run Tryz.prog w = .ok (239, .agg #[h]) w := by kernel_rfl
theorem methodAssignableTo (h : Value) (w : World) : (Go.method 376 145 (.agg #[h]) "AssignableTo").run Tryz.prog w = .ok (236, .agg #[h]) w := by kernel_rfl
theorem elemP (w : World) : (ReflectliteType.method ReflectliteType.elem #[.agg #[.pointer (some ⟨7, 165, none⟩)]]).run Tryz.prog w = .ok (.iface 145 (.agg #[.pointer (some ⟨7, 163, none⟩)])) w := by kernel_rfl
theorem implementsS (w : World) : (ReflectliteType.relation "Implements" ReflectliteType.implements_ #[.agg #[.pointer (some ⟨7, 163, none⟩)], .iface 145 (.agg #[.pointer (some ⟨7, 60, none⟩)])]).run Tryz.prog w = .ok (.bool true) w := by kernel_rfl
theorem typeOfS (v : Value) (w : World) : (ReflectliteType.typeOf #[.iface 163 v]).run Tryz.prog w = .ok (.iface 145 (.agg #[.pointer (some ⟨7, 163, none⟩)])) w := by kernel_rfl
theorem assignableS (w : World) : (ReflectliteType.relation "AssignableTo" ReflectliteType.assignableTo #[.agg #[.pointer (some ⟨7, 163, none⟩)], .iface 145 (.agg #[.pointer (some ⟨7, 163, none⟩)])]).run Tryz.prog w = .ok (.bool true) w := by kernel_rfl
theorem valueOfS (c : Int) (w : World) : (ReflectliteValue.unpack (.iface 163 (.agg #[.int .i64 c]))).run Tryz.prog w
    = .ok (.agg #[.pointer (some ⟨7, 163, none⟩), .pointer (some ⟨w.heap.size, 0, none⟩), .int .u64 153]) (w.alloc (.cells #[.int .i64 c] 163)) := by kernel_rfl
theorem elemOfP (w : World) : (Rtype.elem? 165).run Tryz.prog w = .ok (some 163) w := by kernel_rfl
theorem mkS (p : Addr) (w : World) : (ReflectliteValue.mk 163 p ReflectliteValue.flagAddr).run Tryz.prog w = .ok (.agg #[.pointer (some ⟨7, 163, none⟩), .pointer (some p), .int .u64 409]) w := by kernel_rfl
theorem elemVP (a p : Addr) (W : World) (ha : W.cell? a = some (.pointer (some p))) :
    (ReflectliteValue.method (ReflectliteValue.valueError "reflectlite.Value.Elem" 0) ReflectliteValue.elem #[.agg #[.pointer (some ⟨7, 165, none⟩), .pointer (some a), .int .u64 150]]).run Tryz.prog W
      = .ok (.agg #[.pointer (some ⟨7, 163, none⟩), .pointer (some p), .int .u64 409]) W := by
  unfold ReflectliteValue.method ReflectliteValue.method.match_2
  simp [Array.getLit, partsP, ReflectliteValue.elem, loadVar, isAgg, underlying, Tryz.underlying165, ha, Result.andThen, elemOfP, mkS]
theorem partsSa (a : Addr) (w : World) : (ReflectliteValue.parts (.agg #[.pointer (some ⟨7, 163, none⟩), .pointer (some a), .int .u64 409])).run Tryz.prog w = .ok (some (163, a, 409)) w := by kernel_rfl
theorem partsS (a : Addr) (w : World) : (ReflectliteValue.parts (.agg #[.pointer (some ⟨7, 163, none⟩), .pointer (some a), .int .u64 153])).run Tryz.prog w = .ok (some (163, a, 153)) w := by kernel_rfl
theorem directS (w : World) : (Rtype.directlyAssignable 163 163).run Tryz.prog w = .ok true w := by kernel_rfl
theorem sizeS (w : World) : (sizeOf 163).run Tryz.prog w = .ok 1 w := by kernel_rfl
theorem setS (ta b : Addr) (c : Int) (old : Value) (W : World) (hb : W.cell? b = some (.int .i64 c)) (ht : W.cell? ta = some old) (hf : W.frozen? ta = false) :
    (ReflectliteValue.set #[.agg #[.pointer (some ⟨7, 163, none⟩), .pointer (some ta), .int .u64 409], .agg #[.pointer (some ⟨7, 163, none⟩), .pointer (some b), .int .u64 153]]).run Tryz.prog W
      = .ok (.tuple #[]) (W.setCell ta (.int .i64 c)) := by
  have hl : (loadCells b 1).run Tryz.prog W = .ok #[.int .i64 c] W := by
    have := run_loadCells_list (P := Tryz.prog) W b [.int .i64 c] (fun j v hj => by
      match j, hj with
      | 0, hj => simp at hj; subst hj; simpa [Addr.add] using hb)
    simpa using this
  unfold ReflectliteValue.set ReflectliteValue.set.match_3
  simp [Array.getLit, partsSa, partsS, ReflectliteValue.flagAddr, loadVar, isAgg, underlying, Tryz.underlying163, Result.andThen, directS, storeVar, Value.cells, hl, storeCells, Addr.add]
  rw [run_store Tryz.prog W ta _ _ (by rfl)]
  simp [ht, hf]
def asBox (n : Nat) : Obj := .cells #[.pointer (some ⟨7, 165, none⟩), .pointer (some ⟨n, 0, none⟩), .int .u64 150] 188
def asW (t : Addr) (c : Int) (w : World) : World := (((w.alloc (.cells #[.pointer (some t)] 165)).alloc (asBox w.heap.size)).alloc (asBox w.heap.size)).alloc (.cells #[.int .i64 c] 163)
set_option maxHeartbeats 4000000 in
set_option maxRecDepth 100000 in
theorem as_hit (t : Addr) (c : Int) (old : Value) (w : World) (hg : w.cell? ⟨4, 0, none⟩ = some (.iface 145 (.agg #[.pointer (some ⟨7, 60, none⟩)]))) (ht0 : w.cell? t = some old) (hf0 : w.frozen? t = false) :
    Calls Tryz.prog 147 #[.iface 163 (.agg #[.int .i64 c]), .iface 165 (.pointer (some t))] w fun ev w' => ev = .returned (.bool true) ∧ w' = (asW t c w).setCell t (.int .i64 c) := by
  have hVO := @run_callFunc_extern Tryz.prog 170 _ (fun args => ReflectliteValue.unpack (args.getD 0 (.tuple #[]))) Tryz.func170 (by kernel_rfl) (by kernel_rfl) (by kernel_rfl) (by kernel_rfl)
  have hVT := @run_callFunc_extern Tryz.prog 171 _ (ReflectliteValue.methodAny (ReflectliteValue.valueError "reflectlite.Value.Type" 0) (fun t _ _ _ => ReflectliteType.toType t)) Tryz.func171 (by kernel_rfl) (by kernel_rfl) (by kernel_rfl) (by kernel_rfl)
  have hVN := @run_callFunc_extern Tryz.prog 172 _ (ReflectliteValue.method (ReflectliteValue.valueError "reflectlite.Value.IsNil" 0) ReflectliteValue.isNil) Tryz.func172 (by kernel_rfl) (by kernel_rfl) (by kernel_rfl) (by kernel_rfl)
  have hK := @run_callFunc_extern Tryz.prog 231 _ (ReflectliteType.abiMethod fun t => do pure (.int .u8 (← Rtype.kind t))) Tryz.func231 (by kernel_rfl) (by kernel_rfl) (by kernel_rfl) (by kernel_rfl)
  have hTE := @run_callFunc_extern Tryz.prog 238 _ (ReflectliteType.method ReflectliteType.elem) Tryz.func238 (by kernel_rfl) (by kernel_rfl) (by kernel_rfl) (by kernel_rfl)
  have hTI := @run_callFunc_extern Tryz.prog 239 _ (ReflectliteType.relation "Implements" ReflectliteType.implements_) Tryz.func239 (by kernel_rfl) (by kernel_rfl) (by kernel_rfl) (by kernel_rfl)
  have hTO := @run_callFunc_extern Tryz.prog 87 _ ReflectliteType.typeOf Tryz.func87 (by kernel_rfl) (by kernel_rfl) (by kernel_rfl) (by kernel_rfl)
  have hTA := @run_callFunc_extern Tryz.prog 236 _ (ReflectliteType.relation "AssignableTo" ReflectliteType.assignableTo) Tryz.func236 (by kernel_rfl) (by kernel_rfl) (by kernel_rfl) (by kernel_rfl)
  have hVE := @run_callFunc_extern Tryz.prog 190 _ (ReflectliteValue.method (ReflectliteValue.valueError "reflectlite.Value.Elem" 0) ReflectliteValue.elem) Tryz.func190 (by kernel_rfl) (by kernel_rfl) (by kernel_rfl) (by kernel_rfl)
  have hVS := @run_callFunc_extern Tryz.prog 191 _ ReflectliteValue.set Tryz.func191 (by kernel_rfl) (by kernel_rfl) (by kernel_rfl) (by kernel_rfl)
  have x1 := typeOfS
  have x2 := methodAssignableTo
  have x3 := assignableS
  have x4 := valueOfS
  have x5 := valueOfP
  have x6 := typeP
  have x7 := methodKind
  have x8 := methodElem
  have x9 := methodImplements
  have x10 := kindP
  have x11 := kindS
  have x12 := elemP
  have x13 := implementsS
  have n8 := isNilP ⟨w.heap.size, 0, none⟩ t ((w.alloc (.cells #[.pointer (some t)] 165)).alloc (asBox w.heap.size)) (by simp [asBox])
  have hlt : 4 < w.heap.size := World.block_lt_of_cell? w _ hg
  have hg2 : ((w.alloc (.cells #[.pointer (some t)] 165)).alloc (asBox w.heap.size)).cell? ⟨4, 0, none⟩ = some (.iface 145 (.agg #[.pointer (some ⟨7, 60, none⟩)])) := by
    rw [World.cell?_alloc_lt _ _ ⟨4, 0, none⟩ (by simp; omega), World.cell?_alloc_lt _ _ ⟨4, 0, none⟩ hlt]; exact hg
  have htl : t.block < w.heap.size := by
    rcases Nat.lt_or_ge t.block w.heap.size with h | h
    · exact h
    · simp [World.cell?, Array.getElem?_eq_none h] at ht0
  have el := elemVP ⟨w.heap.size, 0, none⟩ t (((w.alloc (.cells #[.pointer (some t)] 165)).alloc (asBox w.heap.size)).alloc (asBox w.heap.size)) (by rw [World.cell?_alloc_lt _ _ ⟨w.heap.size, 0, none⟩ (by simp; omega)]; simp [asBox])
  have st := setS t ⟨w.heap.size + 1 + 1 + 1, 0, none⟩ c old (asW t c w)
    (by unfold asW; rw [World.cell?_alloc_at _ _ _ _ (by simp)]; rfl)
    (by unfold asW; rw [World.cell?_alloc_lt _ _ t (by simp; omega), World.cell?_alloc_lt _ _ t (by simp; omega), World.cell?_alloc_lt _ _ t (by simp; omega), World.cell?_alloc_lt _ _ t htl]; exact ht0)
    (by unfold asW; rw [World.frozen?_alloc_old _ _ t (by simp; omega), World.frozen?_alloc_old _ _ t (by simp; omega), World.frozen?_alloc_old _ _ t (by simp; omega), World.frozen?_alloc_old _ _ t (Nat.ne_of_lt htl)]; exact hf0)
  unfold asW at st ⊢
  unfold asBox at *
  go_enter Tryz.func147, Tryz.ntmps147
  go_wp2
  refine wp_loop_rounds 1 ?_
  rw [rounds_succ]
  go_wp2
  go_ret
  exact ⟨rfl, rfl⟩
end Go.Proofs.YtekflbicjokdnaaGreatDoor
namespace Go.Proofs.YtekflbicjokdnaaGreatDoor
open Go.RowKit Go.Lib

def ErrType (w : World) : Prop := w.cell? ⟨4, 0, none⟩ = some (.iface 145 (.agg #[.pointer (some ⟨7, 60, none⟩)]))
theorem ErrType.pos {w : World} (h : ErrType w) : 4 < w.heap.size := World.block_lt_of_cell? w _ h
theorem ErrType.below {w w' : World} {B : Nat} (h : ErrType w) (hb : Below B w w') (hB : 4 < B) : ErrType w' := by
  unfold ErrType at *
  rw [hb.cell hB]; exact h
theorem below_asW (t : Addr) (c : Int) (w : World) : Below w.heap.size w (asW t c w) := by
  unfold asW
  exact ((((Below.refl _ _).alloc (Nat.le_refl _) _).alloc (by simp) _).alloc (by simp; omega) _).alloc (by simp; omega) _
theorem size_asW (t : Addr) (c : Int) (w : World) : (asW t c w).heap.size = w.heap.size + 4 := by
  unfold asW
  simp

theorem as_hit2 (t : Addr) (c : Int) (old : Value) (w : World) (hg : ErrType w) (ht0 : w.cell? t = some old) (hf0 : w.frozen? t = false) :
    Calls Tryz.prog 147 #[.iface 163 (.agg #[.int .i64 c]), .iface 165 (.pointer (some t))] w fun ev w' =>
      ev = .returned (.bool true) ∧ w'.cell? t = some (.int .i64 c) ∧ Below t.block w w' := by
  have htl := World.block_lt_of_cell? w t ht0
  refine (as_hit t c old w hg ht0 hf0).mono ?_
  rintro e w' ⟨rfl, rfl⟩
  have hb := below_asW t c w
  refine ⟨rfl, World.cell?_setCell_same _ _ _ ((hb.cell htl).trans ht0), (hb.mono (Nat.le_of_lt htl)).setCell (Nat.le_refl _) _⟩

end Go.Proofs.YtekflbicjokdnaaGreatDoor
