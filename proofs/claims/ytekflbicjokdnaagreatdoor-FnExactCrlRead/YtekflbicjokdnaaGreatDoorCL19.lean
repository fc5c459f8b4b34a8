/- impl.readTag, impl.readLength, walked. impl.copyText, walked. impl.readThing, impl.DerGet, walked. impl.DerAll, walked. -/
import Derived.Test.YtekflbicjokdnaaGreatDoorCL06
import Derived.Test.YtekflbicjokdnaaGreatDoorCL05
import Derived.Test.YtekflbicjokdnaaGreatDoorCL01
import Derived.OwnWalk
import Derived.Test.YtekflbicjokdnaaGreatDoorCL03
import Derived.Test.YtekflbicjokdnaaGreatDoorCL16
import Derived.Test.YtekflbicjokdnaaGreatDoorCL08
import Derived.Test.YtekflbicjokdnaaGreatDoorCL09
namespace Go.Proofs.YtekflbicjokdnaaGreatDoor
open Go.RowKit Go.Lib

/-- A fault as an error. -/
def errV (c : Int) : Value := .iface 163 (.agg #[.int .i64 c])
/-- The code of what readTag tells. -/
def tagC (s : ByteArray) (p : Int) : Int := if 20000 < s.size then 2 else if p < 0 then 1 else if s.size ≤ p.toNat then 4 else if tagB (bN s p.toNat : Int) = false then 3 else 0
set_option maxHeartbeats 1000000 in
set_option maxRecDepth 100000 in
theorem readTag (s : ByteArray) (p : Int) (w : World) (hs : s.size ≤ maxLen) :
    Calls Tryz.prog 167 #[.string s, .int .i64 p] w fun e w' => (tagC s p = 0 ∧ e = .returned (.tuple #[.int .i64 (bN s p.toNat : Int), .nilIface]) ∨ tagC s p ≠ 0 ∧ e = .returned (.tuple #[.int .i64 0, errV (tagC s p)])) ∧ w' = w := by
  have hs' := hs
  unfold maxLen at hs'
  by_cases h1 : 20000 < s.size
  · have HF : Hid (tagC s p = 2) := if_pos h1
    have hd : decide (20000 < s.size) = true := decide_eq_true h1
    go_enter Tryz.func167, Tryz.ntmps167
    go_wp2_with fail
    refine (tooLong s _ hs).mono ?_
    rintro e w' ⟨rfl, rfl⟩
    rw [hd]
    go_wp2
    go_ret2
    exact ⟨.inr (by rw [HF.out]; exact ⟨by decide, rfl⟩), rfl⟩
  have hd : decide (20000 < s.size) = false := decide_eq_false h1
  by_cases h2 : p < 0
  · have HF : Hid (tagC s p = 1) := by unfold Hid tagC; rw [if_neg h1, if_pos h2]
    go_enter Tryz.func167, Tryz.ntmps167
    go_wp2_with fail
    refine (tooLong s _ hs).mono ?_
    rintro e w' ⟨rfl, rfl⟩
    rw [hd]
    go_wp2
    go_ret2
    exact ⟨.inr (by rw [HF.out]; exact ⟨by decide, rfl⟩), rfl⟩
  obtain ⟨k, rfl⟩ := Int.eq_ofNat_of_zero_le (show 0 ≤ p by omega)
  by_cases h3 : s.size ≤ k
  · have HF : Hid (tagC s (k : Int) = 4) := by unfold Hid tagC; rw [if_neg h1, if_neg h2, show ((k : Int).toNat) = k from rfl, if_pos h3]
    go_enter Tryz.func167, Tryz.ntmps167
    go_wp2_with fail
    refine (tooLong s _ hs).mono ?_
    rintro e w' ⟨rfl, rfl⟩
    rw [hd]
    go_wp2
    go_ret2
    exact ⟨.inr (by rw [HF.out]; exact ⟨by decide, rfl⟩), rfl⟩
  have b0 := bN_eq s k (by omega)
  have u0 := u8_lt (s[k]'(by omega))
  have q0 : (k : Int) < (s.size : Int) := by omega
  cases ht : tagB (bN s k : Int) with
  | false =>
    have HF : Hid (tagC s (k : Int) = 3) := by unfold Hid tagC; rw [if_neg h1, if_neg h2, show ((k : Int).toNat) = k from rfl, if_neg h3, if_pos ht]
    rw [b0] at ht
    go_enter Tryz.func167, Tryz.ntmps167
    go_wp2_with fail
    refine (tooLong s _ hs).mono ?_
    rintro e w' ⟨rfl, rfl⟩
    rw [hd]
    go_wp2_with fail
    refine (implTag _ _).mono ?_
    rintro e w' ⟨rfl, rfl⟩
    rw [ht]
    go_wp2
    go_ret2
    exact ⟨.inr (by rw [HF.out]; exact ⟨by decide, rfl⟩), rfl⟩
  | true =>
    have HF : Hid (tagC s (k : Int) = 0 ∧ bN s (k : Int).toNat = (s[k]'(by omega)).toNat) := ⟨by unfold tagC; rw [if_neg h1, if_neg h2, show ((k : Int).toNat) = k from rfl, if_neg h3, if_neg (by rw [ht]; simp)], b0⟩
    rw [b0] at ht
    go_enter Tryz.func167, Tryz.ntmps167
    go_wp2_with fail
    refine (tooLong s _ hs).mono ?_
    rintro e w' ⟨rfl, rfl⟩
    rw [hd]
    go_wp2_with fail
    refine (implTag _ _).mono ?_
    rintro e w' ⟨rfl, rfl⟩
    rw [ht]
    go_wp2
    go_ret2
    exact ⟨.inl ⟨HF.out.1, by rw [HF.out.2]; rfl⟩, rfl⟩
/-- What readLength tells: a code, a length, and the place behind it. -/
def lenAt (s : ByteArray) (j : Nat) : Nat × Nat × Nat :=
  if s.size ≤ j then (4, 0, 0) else if bN s j < 128 then (0, bN s j, j + 1)
  else if bN s j = 129 then if s.size ≤ j + 1 then (4, 0, 0) else if bN s (j + 1) < 128 then (3, 0, 0) else (0, bN s (j + 1), j + 2)
  else if bN s j = 130 then if s.size ≤ j + 2 then (4, 0, 0) else if 256 * bN s (j + 1) + bN s (j + 2) < 256 then (3, 0, 0) else if 4000 < 256 * bN s (j + 1) + bN s (j + 2) then (3, 0, 0) else (0, 256 * bN s (j + 1) + bN s (j + 2), j + 3)
  else (3, 0, 0)
theorem getAt_len {s : ByteArray} {k : Nat} (h : k < s.size) (ht : tagB (bN s k : Int) = true) :
    getAt s k = if (lenAt s (k + 1)).1 = 0 then bodyAt s (bN s k) (lenAt s (k + 1)).2.1 (lenAt s (k + 1)).2.2 else .bad (lenAt s (k + 1)).1 := by
  unfold getAt lenAt
  rw [if_neg (by omega), if_neg (by simp [ht])]
  by_cases h1 : s.size ≤ k + 1
  · simp only [if_pos h1]; rfl
  simp only [if_neg h1]
  by_cases h2 : bN s (k + 1) < 128
  · simp only [if_pos h2]; rfl
  simp only [if_neg h2]
  by_cases h3 : bN s (k + 1) = 129
  · simp only [if_pos h3]
    by_cases h4 : s.size ≤ k + 1 + 1
    · simp only [if_pos h4]; rfl
    simp only [if_neg h4]
    by_cases h5 : bN s (k + 1 + 1) < 128
    · simp only [if_pos h5]; rfl
    · simp only [if_neg h5]; rfl
  simp only [if_neg h3]
  by_cases h4 : bN s (k + 1) = 130
  · simp only [if_pos h4]
    by_cases h5 : s.size ≤ k + 1 + 2
    · simp only [if_pos h5]; rfl
    simp only [if_neg h5]
    by_cases h6 : 256 * bN s (k + 1 + 1) + bN s (k + 1 + 2) < 256
    · simp only [if_pos h6]; rfl
    simp only [if_neg h6]
    by_cases h7 : 4000 < 256 * bN s (k + 1 + 1) + bN s (k + 1 + 2)
    · simp only [if_pos h7]; rfl
    · simp only [if_neg h7]; rfl
  · simp only [if_neg h4]; rfl
def LenOk (R : Nat × Nat × Nat) (e : Ending) : Prop :=
  R.1 = 0 ∧ e = .returned (.tuple #[.int .i64 (R.2.1 : Int), .int .i64 (R.2.2 : Int), .nilIface]) ∨ R.1 ≠ 0 ∧ e = .returned (.tuple #[.int .i64 0, .int .i64 0, errV (R.1 : Int)])
set_option maxRecDepth 100000
theorem readLen_end (s : ByteArray) (j : Nat) (w : World) (h1 : s.size ≤ j) :
    Calls Tryz.prog 168 #[.string s, .int .i64 (j : Int)] w fun e w' => LenOk (lenAt s j) e ∧ w' = w := by
  have HF : Hid (lenAt s j = (4, 0, 0)) := if_pos h1
  go_enter Tryz.func168, Tryz.ntmps168
  go_wp2
  go_ret3
  exact ⟨by rw [HF.out]; exact .inr ⟨by decide, rfl⟩, rfl⟩
theorem readLen_low (s : ByteArray) (j : Nat) (w : World) (hs : s.size ≤ 20000) (h1 : j < s.size) (h2 : bN s j < 128) :
    Calls Tryz.prog 168 #[.string s, .int .i64 (j : Int)] w fun e w' => LenOk (lenAt s j) e ∧ w' = w := by
  have b0 := bN_eq s j h1
  have HF : Hid (lenAt s j = (0, s[j].toNat, j + 1)) := by unfold Hid lenAt; rw [if_neg (by omega), if_pos h2, b0]
  have u0 := u8_lt s[j]
  have q0 : (j : Int) < (s.size : Int) := by omega
  rw [b0] at h2
  go_enter Tryz.func168, Tryz.ntmps168
  go_wp2
  go_ret3
  exact ⟨by rw [HF.out]; exact .inl ⟨rfl, by simp⟩, rfl⟩
theorem readLen_many (s : ByteArray) (j : Nat) (w : World) (h1 : j < s.size) (h2 : 128 ≤ bN s j) (h3 : bN s j ≠ 129) (h4 : bN s j ≠ 130) :
    Calls Tryz.prog 168 #[.string s, .int .i64 (j : Int)] w fun e w' => LenOk (lenAt s j) e ∧ w' = w := by
  have b0 := bN_eq s j h1
  have HF : Hid (lenAt s j = (3, 0, 0)) := by unfold Hid lenAt; rw [if_neg (by omega), if_neg (by omega), if_neg h3, if_neg h4]
  have u0 := u8_lt s[j]
  have q0 : (j : Int) < (s.size : Int) := by omega
  rw [b0] at h2 h3 h4
  have hc : s[j].toNat = 128 ∨ 131 ≤ s[j].toNat := by omega
  rcases hc with hc | hc
  all_goals
    go_enter Tryz.func168, Tryz.ntmps168
    go_wp2
    go_ret3
    exact ⟨by rw [HF.out]; exact .inr ⟨by decide, rfl⟩, rfl⟩
set_option maxHeartbeats 1000000 in
theorem readLen_129 (s : ByteArray) (j : Nat) (w : World) (hs : s.size ≤ 20000) (h1 : j < s.size) (h2 : bN s j = 129) :
    Calls Tryz.prog 168 #[.string s, .int .i64 (j : Int)] w fun e w' => LenOk (lenAt s j) e ∧ w' = w := by
  have b0 := bN_eq s j h1
  have HG : lenAt s j = if s.size ≤ j + 1 then (4, 0, 0) else if bN s (j + 1) < 128 then (3, 0, 0) else (0, bN s (j + 1), j + 2) := by unfold lenAt; rw [if_neg (by omega), if_neg (by omega), if_pos h2]
  have q0 : (j : Int) < (s.size : Int) := by omega
  rw [b0] at h2
  have e1 : (s[j].toNat : Int) = 129 := by omega
  by_cases h3 : s.size ≤ j + 1
  · have HF : Hid (lenAt s j = (4, 0, 0)) := HG.trans (if_pos h3)
    clear HG
    go_enter Tryz.func168, Tryz.ntmps168
    go_wp2
    go_ret3
    exact ⟨by rw [HF.out]; exact .inr ⟨by decide, rfl⟩, rfl⟩
  rw [if_neg h3] at HG
  have b1 := bN_eq s (j + 1) (by omega)
  have u1 := u8_lt (s[j + 1]'(by omega))
  have o1 := or8 0 (s[j + 1]'(by omega)).toNat (by omega) (by omega) (by omega)
  simp only [Int.zero_mul, Int.zero_add] at o1
  rw [b1] at HG
  have q2 : (j : Int) + 1 < (s.size : Int) := by omega
  have q3 : (0 : Int) ≤ (j : Int) + 1 := by omega
  obtain ⟨m, hm⟩ : ∃ m : Nat, m = (s[j + 1]'(by omega)).toNat := ⟨_, rfl⟩
  have em : ((s[j + 1]'(by omega)).toNat : Int) = (m : Int) := by omega
  rw [← hm] at HG
  have hm2 : m < 256 := by omega
  have HL : Hid (∀ v : World, Calls Tryz.prog 189 #[.int .i64 (m : Int)] v fun e w' => e = .returned (.int .i64 (moreL m : Int)) ∧ w' = v) := fun v => lengthBytes _ v (by omega)
  have EM : Hid (((s[j + 1]'(by omega)).toNat : Int) = (m : Int)) := em
  have HG2 : Hid _ := HG
  clear hm em HG
  go_enter Tryz.func168, Tryz.ntmps168
  go_wp2_with fail
  refine wp_loop_rounds 2 ?_
  rw [rounds_succ]
  go_wp2
  rw [EM.out]
  rw [rounds_succ]
  go_wp2_with fail
  refine (HL.out _).mono ?_
  rintro e w' ⟨rfl, rfl⟩
  have HG := HG2.out
  clear HG2 o1 u1
  by_cases h4 : m < 128
  · have HF : Hid (lenAt s j = (3, 0, 0)) := HG.trans (if_pos h4)
    rw [show moreL m = 0 from if_pos h4]
    clear HG
    go_wp2
    go_ret3
    exact ⟨by rw [HF.out]; exact .inr ⟨by decide, rfl⟩, rfl⟩
  · have HF : Hid (lenAt s j = (0, m, j + 2)) := HG.trans (if_neg h4)
    rw [show moreL m = 1 from by rw [moreL, if_neg h4, if_pos hm2]]
    clear HG
    go_wp2
    go_ret3
    exact ⟨by rw [HF.out]; exact .inl ⟨rfl, by simp [Int.add_assoc]⟩, rfl⟩
set_option maxHeartbeats 1000000 in
theorem readLen_130 (s : ByteArray) (j : Nat) (w : World) (hs : s.size ≤ 20000) (h1 : j < s.size) (h2 : bN s j = 130) :
    Calls Tryz.prog 168 #[.string s, .int .i64 (j : Int)] w fun e w' => LenOk (lenAt s j) e ∧ w' = w := by
  have b0 := bN_eq s j h1
  have HG : lenAt s j = if s.size ≤ j + 2 then (4, 0, 0) else if 256 * bN s (j + 1) + bN s (j + 2) < 256 then (3, 0, 0) else if 4000 < 256 * bN s (j + 1) + bN s (j + 2) then (3, 0, 0) else (0, 256 * bN s (j + 1) + bN s (j + 2), j + 3) := by unfold lenAt; rw [if_neg (by omega), if_neg (by omega), if_neg (by omega), if_pos h2]
  have q0 : (j : Int) < (s.size : Int) := by omega
  rw [b0] at h2
  have e1 : (s[j].toNat : Int) = 130 := by omega
  by_cases h3 : s.size ≤ j + 2
  · have HF : Hid (lenAt s j = (4, 0, 0)) := HG.trans (if_pos h3)
    clear HG
    go_enter Tryz.func168, Tryz.ntmps168
    go_wp2
    go_ret3
    exact ⟨by rw [HF.out]; exact .inr ⟨by decide, rfl⟩, rfl⟩
  rw [if_neg h3] at HG
  have b1 := bN_eq s (j + 1) (by omega)
  have b2 : bN s (j + 2) = (s[j + 1 + 1]'(by omega)).toNat := bN_eq s (j + 1 + 1) (by omega)
  have u1 := u8_lt (s[j + 1]'(by omega))
  have u2 := u8_lt (s[j + 1 + 1]'(by omega))
  have o1 := or8 0 (s[j + 1]'(by omega)).toNat (by omega) (by omega) (by omega)
  simp only [Int.zero_mul, Int.zero_add] at o1
  have o2 := or8 (s[j + 1]'(by omega)).toNat (s[j + 1 + 1]'(by omega)).toNat (by omega) (by omega) (by omega)
  rw [b1, b2] at HG
  have q2 : (j : Int) + 1 < (s.size : Int) := by omega
  have q3 : (0 : Int) ≤ (j : Int) + 1 := by omega
  have q4 : (j : Int) + 1 + 1 < (s.size : Int) := by omega
  have q5 : (0 : Int) ≤ (j : Int) + 1 + 1 := by omega
  obtain ⟨m, hm⟩ : ∃ m : Nat, m = 256 * (s[j + 1]'(by omega)).toNat + (s[j + 1 + 1]'(by omega)).toNat := ⟨_, rfl⟩
  rw [← hm] at HG
  have hm2 : m < 65536 := by omega
  have HL : Hid (∀ v : World, Calls Tryz.prog 189 #[.int .i64 (m : Int)] v fun e w' => e = .returned (.int .i64 (moreL m : Int)) ∧ w' = v) := fun v => lengthBytes _ v (by omega)
  have EM : Hid (((s[j + 1]'(by omega)).toNat : Int) * 256 + ((s[j + 1 + 1]'(by omega)).toNat : Int) = (m : Int)) := by show _ = _; omega
  have HG2 : Hid _ := HG
  clear hm HG b0 b1 b2
  go_enter Tryz.func168, Tryz.ntmps168
  go_wp2_with fail
  refine wp_loop_rounds 3 ?_
  rw [rounds_succ]
  go_wp2
  rw [rounds_succ]
  go_wp2
  rw [EM.out]
  rw [rounds_succ]
  go_wp2_with fail
  refine (HL.out _).mono ?_
  rintro e w' ⟨rfl, rfl⟩
  have HG := HG2.out
  clear HG2 o1 u1 o2 u2
  by_cases h4 : m < 256
  · have HF : Hid (lenAt s j = (3, 0, 0)) := HG.trans (if_pos h4)
    have hmm : moreL m = 0 ∨ moreL m = 1 := by
      by_cases h9 : m < 128
      · exact .inl (if_pos h9)
      · exact .inr (by rw [moreL, if_neg h9, if_pos h4])
    clear HG
    rcases hmm with hmm | hmm
    all_goals
      rw [hmm]
      go_wp2
      go_ret3
      exact ⟨by rw [HF.out]; exact .inr ⟨by decide, rfl⟩, rfl⟩
  rw [if_neg h4] at HG
  rw [show moreL m = 2 from by rw [moreL, if_neg (by omega), if_neg h4]]
  by_cases h5 : 4000 < m
  · have HF : Hid (lenAt s j = (3, 0, 0)) := HG.trans (if_pos h5)
    clear HG
    go_wp2
    go_ret3
    exact ⟨by rw [HF.out]; exact .inr ⟨by decide, rfl⟩, rfl⟩
  · have HF : Hid (lenAt s j = (0, m, j + 3)) := HG.trans (if_neg h5)
    clear HG
    go_wp2
    go_ret3
    exact ⟨by rw [HF.out]; exact .inl ⟨rfl, by simp [Int.add_assoc]⟩, rfl⟩
theorem readLength (s : ByteArray) (j : Nat) (w : World) (hs : s.size ≤ 20000) :
    Calls Tryz.prog 168 #[.string s, .int .i64 (j : Int)] w fun e w' => LenOk (lenAt s j) e ∧ w' = w := by
  by_cases h1 : s.size ≤ j
  · exact readLen_end s j w h1
  by_cases h2 : bN s j < 128
  · exact readLen_low s j w hs (by omega) h2
  by_cases h3 : bN s j = 129
  · exact readLen_129 s j w hs (by omega) h3
  by_cases h4 : bN s j = 130
  · exact readLen_130 s j w hs (by omega) h4
  · exact readLen_many s j w (by omega) (by omega) h3 h4
end Go.Proofs.YtekflbicjokdnaaGreatDoor
namespace Go.Proofs.YtekflbicjokdnaaGreatDoor
open Go.RowKit Go.Lib

set_option maxHeartbeats 1000000 in
set_option maxRecDepth 100000 in
theorem copyText (a : ByteArray) (w : World) (ha : a.size ≤ 1100000) :
    Calls Tryz.prog 169 #[.string a] w fun e w' => e = .returned (.string a) ∧ Below w.heap.size w w' := by
  obtain ⟨i0, hi, hz0, hz1, hz2⟩ := info_parts infoByte
  go_enter Tryz.func169, Tryz.ntmps169
  go_wp2_with (at_make; refine wpList_make_full _ rfl _ _ 137 rfl w.heap.size 5 i0 (.int .u8 0) 1 Tryz.underlying137 hi hz0 hz1 .i64 .i64 _ _ a.size rfl rfl ?c1 ?c2 ?c3 ?c4 ?c5 ?_)
  case c1 => omega
  case c2 => omega
  case c3 => rw [hz2]; omega
  case c4 => unfold maxLen; omega
  case c5 => exact Nat.le_refl _
  intro w1 hown hgrow
  obtain ⟨hrow, hlen⟩ := rowOf hown rfl
  have hB1 : Below w.heap.size w w1 := (Below.refl _ w).grown hgrow (Nat.le_refl _) (fun k hk => by cases hk)
  generalize (madeCells #[Value.int IntKind.u8 0] a.size).toList = L at hrow hlen
  have la : (byteCells a.data.toList).length = a.size := by rw [byteCells_length, ← size_eq]
  have HF : Hid (∀ w3 : World, w3.heap[w.heap.size]? = some (.cells (splice L 0 (byteCells a.data.toList)).toArray 5 (0, 0)) →
      (convert 137 9 (.slice (some ⟨w.heap.size, 0, none⟩) a.size a.size)).run Tryz.prog w3 = .ok (.string a) w3) := by
    intro w3 h3
    rw [splice_one L (byteCells a.data.toList) (by omega)] at h3
    have h4 : w3.heap[w.heap.size]? = some (.cells (byteCells a.data.toList ++ []).toArray 5 (0, 0)) := by simpa using h3
    have := run_convert_row (P := Tryz.prog) (src := 137) (dst := 9) (cap := a.size) Tryz.underlying137 Tryz.underlying5 Tryz.underlying9 h4
    rw [← size_eq] at this
    exact this
  clear hown hgrow la
  go_wp2_with (refine wpList_copy_str rfl _ _ 137 9 rfl 5 Tryz.underlying137 byteSize _ _ _ a rfl rfl w.heap.size 0 L 5 hrow (fun _ => rfl) ?d2 ?d3 w.heap.size w hB1 (Nat.le_refl _) ?_)
  case d2 => exact Nat.le_refl _
  case d3 => omega
  intro w2 H2 hB2 hs2
  have hcv := HF.out w2 H2.out
  clear hrow hB1 hs2
  go_wp2
  go_ret
  exact ⟨rfl, hB2⟩

end Go.Proofs.YtekflbicjokdnaaGreatDoor
namespace Go.Proofs.YtekflbicjokdnaaGreatDoor
open Go.RowKit Go.Lib

/-- What readThing hands back. -/
def ThingOk (R : GetR) (e : Ending) : Prop :=
  R.code = 0 ∧ e = .returned (.tuple #[.agg #[.int .i64 R.tag, .string R.body], .int .i64 R.at', .nilIface]) ∨
  (∃ c, c ≠ 0 ∧ R = .bad c ∧ e = .returned (.tuple #[.agg #[.int .i64 0, .string ⟨#[]⟩], .int .i64 0, errV c]))
set_option maxHeartbeats 1000000 in
set_option maxRecDepth 100000 in
theorem readThing (s : ByteArray) (p : Int) (w : World) (hs : s.size ≤ maxLen) (hp : p ≤ 9223372036854775807) :
    Calls Tryz.prog 146 #[.string s, .int .i64 p] w fun e w' => ThingOk (getD s p) e ∧ Below w.heap.size w w' := by
  have hs' := hs
  unfold maxLen at hs'
  have HT : Hid (∀ v : World, Calls Tryz.prog 167 #[.string s, .int .i64 p] v fun e w' => (tagC s p = 0 ∧ e = .returned (.tuple #[.int .i64 (bN s p.toNat : Int), .nilIface]) ∨ tagC s p ≠ 0 ∧ e = .returned (.tuple #[.int .i64 0, errV (tagC s p)])) ∧ w' = v) := fun v => readTag s p v hs
  by_cases h0 : tagC s p = 0
  · have hf : s.size ≤ 20000 ∧ 0 ≤ p ∧ p.toNat < s.size ∧ tagB (bN s p.toNat : Int) = true := by
      unfold tagC at h0
      split at h0
      · simp at h0
      · split at h0
        · simp at h0
        · split at h0
          · simp at h0
          · split at h0
            · simp at h0
            · rename_i a b c d
              exact ⟨by omega, by omega, by omega, by simpa using d⟩
    obtain ⟨f1, f2, f3, f4⟩ := hf
    obtain ⟨k, rfl⟩ := Int.eq_ofNat_of_zero_le f2
    rw [show ((k : Int).toNat) = k from rfl] at f3 f4 HT
    have HG : Hid (getD s (k : Int) = if (lenAt s (k + 1)).1 = 0 then bodyAt s (bN s k) (lenAt s (k + 1)).2.1 (lenAt s (k + 1)).2.2 else .bad (lenAt s (k + 1)).1) := by
      show _ = _
      rw [← getAt_len f3 f4]
      unfold getD
      rw [if_neg (by omega), if_neg (by omega)]; rfl
    have HL : Hid (∀ v : World, Calls Tryz.prog 168 #[.string s, .int .i64 ((k : Int) + 1)] v fun e w' => LenOk (lenAt s (k + 1)) e ∧ w' = v) := fun v => by
      have := readLength s (k + 1) v f1
      simpa using this
    have ht := bN_lt s k
    have hlf : (lenAt s (k + 1)).1 = 0 → (lenAt s (k + 1)).2.1 ≤ 4000 ∧ (lenAt s (k + 1)).2.2 ≤ s.size := by
      have z2 := bN_lt s (k + 1 + 1)
      unfold lenAt
      repeat' split
      all_goals (intro h; simp at h ⊢; try omega)
    generalize lenAt s (k + 1) = R at *
    obtain ⟨c, n, f⟩ := R
    simp only at hlf HG
    generalize bN s k = t at *
    by_cases hc : c = 0
    · subst hc
      obtain ⟨hn, hfs⟩ := hlf rfl
      have HG1 := HG.out
      rw [if_pos rfl] at HG1
      have HL1 : Hid (∀ v : World, Calls Tryz.prog 168 #[.string s, .int .i64 ((k : Int) + 1)] v fun e w' => e = .returned (.tuple #[.int .i64 (n : Int), .int .i64 (f : Int), .nilIface]) ∧ w' = v) := fun v => by
        refine (HL.out v).mono ?_
        rintro e w' ⟨⟨_, rfl⟩ | ⟨h, _⟩, rfl⟩
        · exact ⟨rfl, rfl⟩
        · exact absurd rfl h
      have HT1 : Hid (∀ v : World, Calls Tryz.prog 167 #[.string s, .int .i64 (k : Int)] v fun e w' => e = .returned (.tuple #[.int .i64 (t : Int), .nilIface]) ∧ w' = v) := fun v => by
        refine (HT.out v).mono ?_
        rintro e w' ⟨⟨_, rfl⟩ | ⟨h, _⟩, rfl⟩
        · exact ⟨rfl, rfl⟩
        · exact absurd h0 h
      clear HT HL HG hlf h0 f4
      by_cases hsh : s.size < f + n
      · have HF : Hid (getD s (k : Int) = .bad 4) := HG1.trans (bodyAt_short hsh)
        clear HG1
        go_enter Tryz.func146, Tryz.ntmps146
        go_wp2_with fail
        refine (HT1.out _).mono ?_
        rintro e w' ⟨rfl, rfl⟩
        go_wp2_with fail
        refine (HL1.out _).mono ?_
        rintro e w' ⟨rfl, rfl⟩
        go_wp2
        refine bodyPost_ret (v := .tuple #[.agg #[.int .i64 0, .string ⟨#[]⟩], .int .i64 0, errV 4]) (by simp [errV, results, Tryz.results146, go_sem]) rfl ⟨.inr ⟨_, by decide, HF.out, rfl⟩, ?_⟩
        repeat (first | exact Below.refl _ _ | refine Below.setCell ?_ (by simp) _ | refine Below.alloc ?_ (by simp) _)
      · have HF : Hid (getD s (k : Int) = _) := HG1.trans (bodyAt_ok (by omega))
        clear HG1
        go_enter Tryz.func146, Tryz.ntmps146
        go_wp2_with fail
        refine (HT1.out _).mono ?_
        rintro e w' ⟨rfl, rfl⟩
        go_wp2_with fail
        refine (HL1.out _).mono ?_
        rintro e w' ⟨rfl, rfl⟩
        go_wp2_with fail
        refine (copyText _ _ (by rw [ByteArray.size_extract]; omega)).mono ?_
        rintro e w1 ⟨rfl, hb1⟩
        obtain ⟨hr, hB, _⟩ := resKeep (cs := [.int .i64 0, .string ⟨#[]⟩]) (T := 116) hb1
        obtain ⟨⟨c0, c1⟩, g0, g1⟩ := cells2 hr
        clear hb1 hr
        generalize s.extract f (f + n) = b at *
        go_wp2
        refine bodyPost_ret (v := .tuple #[.agg #[.int .i64 (t : Int), .string b], .int .i64 ((f : Int) + (n : Int)), .nilIface]) (by simp [results, Tryz.results146, go_sem, c0, c1]) rfl ⟨.inl ?_, ?_⟩
        · rw [HF.out]
          exact ⟨rfl, by simp⟩
        repeat (first | exact hB | refine Below.setCell ?_ (by simp) _)
    · have HF : Hid (getD s (k : Int) = .bad (c : Int)) := HG.out.trans (if_neg hc)
      have HL1 : Hid (∀ v : World, Calls Tryz.prog 168 #[.string s, .int .i64 ((k : Int) + 1)] v fun e w' => e = .returned (.tuple #[.int .i64 0, .int .i64 0, .iface 163 (.agg #[.int .i64 (c : Int)])]) ∧ w' = v) := fun v => by
        refine (HL.out v).mono ?_
        rintro e w' ⟨⟨h, _⟩ | ⟨_, rfl⟩, rfl⟩
        · exact absurd h hc
        · exact ⟨rfl, rfl⟩
      have HT1 : Hid (∀ v : World, Calls Tryz.prog 167 #[.string s, .int .i64 (k : Int)] v fun e w' => e = .returned (.tuple #[.int .i64 (t : Int), .nilIface]) ∧ w' = v) := fun v => by
        refine (HT.out v).mono ?_
        rintro e w' ⟨⟨_, rfl⟩ | ⟨h, _⟩, rfl⟩
        · exact ⟨rfl, rfl⟩
        · exact absurd h0 h
      have HC : Hid ((c : Int) ≠ 0) := by show _ ≠ _; omega
      clear HT HL HG hlf h0 f4 hc
      go_enter Tryz.func146, Tryz.ntmps146
      go_wp2_with fail
      refine (HT1.out _).mono ?_
      rintro e w' ⟨rfl, rfl⟩
      go_wp2_with fail
      refine (HL1.out _).mono ?_
      rintro e w' ⟨rfl, rfl⟩
      go_wp2
      refine bodyPost_ret (v := .tuple #[.agg #[.int .i64 0, .string ⟨#[]⟩], .int .i64 0, errV (c : Int)]) (by simp [errV, results, Tryz.results146, go_sem]) rfl ⟨.inr ⟨_, HC.out, HF.out, rfl⟩, ?_⟩
      repeat (first | exact Below.refl _ _ | refine Below.setCell ?_ (by simp) _ | refine Below.alloc ?_ (by simp) _)
  · have HF : Hid (getD s p = .bad (tagC s p)) := by
      show _ = _
      unfold getD
      unfold tagC at h0 ⊢
      split
      · rfl
      · split
        · rfl
        · split
          · rename_i h; rw [getAt_end h]
          · rename_i h1
            split
            · rename_i h; rw [getAt_tag (by omega) h]
            · rename_i h2; simp_all
    have HT1 : Hid (∀ v : World, Calls Tryz.prog 167 #[.string s, .int .i64 p] v fun e w' => e = .returned (.tuple #[.int .i64 0, .iface 163 (.agg #[.int .i64 (tagC s p)])]) ∧ w' = v) := fun v => by
      refine (HT.out v).mono ?_
      rintro e w' ⟨⟨h, _⟩ | ⟨_, rfl⟩, rfl⟩
      · exact absurd h h0
      · exact ⟨rfl, rfl⟩
    have HC : Hid (tagC s p ≠ 0) := h0
    generalize tagC s p = c at *
    clear HT h0
    go_enter Tryz.func146, Tryz.ntmps146
    go_wp2_with fail
    refine (HT1.out _).mono ?_
    rintro e w' ⟨rfl, rfl⟩
    go_wp2
    refine bodyPost_ret (v := .tuple #[.agg #[.int .i64 0, .string ⟨#[]⟩], .int .i64 0, errV c]) (by simp [errV, results, Tryz.results146, go_sem]) rfl ⟨.inr ⟨_, HC.out, HF.out, rfl⟩, ?_⟩
    repeat (first | exact Below.refl _ _ | refine Below.setCell ?_ (by simp) _ | refine Below.alloc ?_ (by simp) _)
set_option maxHeartbeats 2000000 in
set_option maxRecDepth 100000 in
theorem implDerGet (s : ByteArray) (p : Int) (w : World) (hs : s.size ≤ maxLen) (hp : p ≤ 9223372036854775807) (hg : ErrType w) :
    Calls Tryz.prog 108 #[.string s, .int .i64 p] w fun e w' => e = .returned (getD s p).val ∧ Below w.heap.size w w' := by
  have hread := fun W => readThing s p W hs hp
  generalize getD s p = R at *
  have HR : Hid (∀ W, Calls Tryz.prog 146 #[.string s, .int .i64 p] W fun e w' => ThingOk R e ∧ Below W.heap.size W w') := hread
  have HG : Hid (ErrType w) := hg
  have hpos := hg.pos
  clear hread hg
  go_enter Tryz.func108, Tryz.ntmps108
  go_wp2_with fail
  refine (HR.out _).mono ?_
  rintro e w1 ⟨hb, hB0⟩
  obtain ⟨hr, hB, hz⟩ := resKeep (cs := [.int .i64 0, .string ⟨#[]⟩, .int .i64 0, .int .i64 0]) (T := 125) hB0
  have HG1 : Hid (ErrType w1) := HG.out.below hB hpos
  have HB : Hid (Below w.heap.size w w1) := hB
  have HRow : Hid (w1.heap[w.heap.size]? = some (.cells [.int .i64 0, .string ⟨#[]⟩, .int .i64 0, .int .i64 0].toArray 125 (0, 0))) := hr
  clear hB0 hB hr
  rcases hb with ⟨hc, rfl⟩ | ⟨c, hc, rfl, rfl⟩
  · obtain ⟨⟨c0, c1, c2, c3⟩, f0, f1, f2, f3⟩ := cells4 HRow.out
    obtain ⟨r0, r1, r2, r3⟩ := R
    have HC : Hid (r3 = 0) := hc
    clear hc
    go_wp2_with fail
    refine (as_nil _ _).mono ?_
    rintro e w' ⟨rfl, rfl⟩
    go_wp2
    refine bodyPost_ret (v := .agg #[.int .i64 r0, .string r1, .int .i64 r2, .int .i64 0]) (by simp [results, Tryz.results108, go_sem, c0, c1, c2, c3, hz, Nat.lt_succ_of_lt hz]) rfl ⟨?_, ?_⟩
    · rw [HC.out]; rfl
    · repeat (first | exact HB.out | refine Below.setCell ?_ (by simp) _ | refine Below.alloc ?_ (by simp <;> omega) _)
  · have HG2 : Hid (∀ o1 o2, ErrType ((w1.alloc o1).alloc o2)) := fun o1 o2 => HG1.out.below (((Below.refl _ _).alloc (Nat.le_refl _) o1).alloc (by simp) o2) (by omega)
    clear hc
    unfold errV
    go_wp2_with fail
    refine (as_hit2 ⟨w1.heap.size + 1, 0, none⟩ c (.int .i64 0) _ (HG2.out _ _) (by simp) (by simp)).mono ?_
    rintro e w2 ⟨rfl, hcc, hb2⟩
    have hB3 : Below w1.heap.size w1 w2 := (((Below.refl _ w1).alloc (Nat.le_refl _) _).alloc (by simp) _).trans (hb2.mono (by simp))
    have HRow2 : w2.heap[w.heap.size]? = some (.cells [.int .i64 0, .string ⟨#[]⟩, .int .i64 0, .int .i64 0].toArray 125 (0, 0)) := by rw [hB3.block _ hz]; exact HRow.out
    obtain ⟨⟨c0, c1, c2, c3⟩, f0, f1, f2, f3⟩ := cells4 HRow2
    have HB2 : Hid (Below w.heap.size w w2) := HB.out.trans (hB3.mono (Nat.le_of_lt hz))
    clear hb2 hB3 HRow2
    go_wp2
    refine bodyPost_ret (v := GetR.val (.bad c)) (by simp [GetR.val, GetR.bad, results, Tryz.results108, go_sem, c0, c1, c2, c3]) rfl ⟨rfl, ?_⟩
    repeat (first | exact HB2.out | refine Below.setCell ?_ (by simp) _)
end Go.Proofs.YtekflbicjokdnaaGreatDoor
namespace Go.Proofs.YtekflbicjokdnaaGreatDoor
open Go.RowKit

set_option maxHeartbeats 2000000 in
set_option maxRecDepth 100000 in
theorem implDerAll (s : ByteArray) (w : World) (hs : s.size ≤ maxLen) (hg : ErrType w) :
    Calls Tryz.prog 61 #[.string s] w fun e w' => ∃ v, e = .returned (.agg #[v, .int .i64 (allD s).2]) ∧ OwnT w' w.heap.size v (allD s).1 ∧ Below w.heap.size w w' := by
  have hs' := hs
  unfold maxLen at hs'
  have hpos := hg.pos
  have HGt : Hid (ErrType w) := hg
  clear hg
  obtain ⟨i0, hi, hz0, hz1, hz2⟩ := info_parts infoTlv
  by_cases h1 : 20000 < s.size
  · have HF : Hid (allD s = ([], 2)) := if_pos h1
    have hd : decide (20000 < s.size) = true := decide_eq_true h1
    go_enter Tryz.func61, Tryz.ntmps61
    go_wp2_with fail
    refine (tooLong s _ hs).mono ?_
    rintro e w' ⟨rfl, rfl⟩
    rw [hd]
    go_wp2_with fail
    refine bodyPost_ret (v := .agg #[.slice none 0 0, .int .i64 2]) (by simp [results, Tryz.results61, go_sem]) rfl ⟨.slice none 0 0, ?_, ?_, ?_⟩
    · rw [HF.out]
    · rw [HF.out]; exact ownT_nil _ _
    · repeat (first | exact Below.refl _ _ | refine Below.setCell ?_ (by simp) _ | refine Below.alloc ?_ (by simp) _)
  have hd : decide (20000 < s.size) = false := decide_eq_false h1
  obtain ⟨R, hR⟩ : ∃ R, R = allD s := ⟨_, rfl⟩
  have HR : Hid (R = allR s (s.size + 1) 0 []) := by rw [hR]; exact if_neg h1
  rw [← hR]
  clear hR
  go_enter Tryz.func61, Tryz.ntmps61
  go_wp2_with fail
  refine (tooLong s _ hs).mono ?_
  rintro e w' ⟨rfl, hw'⟩
  rw [hd, hw']
  clear hw' hd
  go_wp2_with fail
  go_loopw [3, 4] (fun b a wr => ∃ (k f : Nat) (acc : List (Int × ByteArray)), a = .int .i64 (k : Int) ∧ k ≤ s.size ∧ s.size < k + f ∧ acc.length ≤ 60 ∧ allR s f k acc = R ∧
      wr.heap[w.heap.size]? = some (.cells [.slice none 0 0, .int .i64 0].toArray 87 (0, 0)) ∧ OwnT wr (w.heap.size + 1) b acc ∧ Below w.heap.size w wr ∧ w.heap.size + 1 ≤ wr.heap.size)
    (fun _ a _ => s.size - (intOf a).toNat)
  case atStart =>
    exact ⟨0, s.size + 1, [], rfl, Nat.zero_le _, by omega, by simp, HR.out.symm, heap_alloc_new w _, ownT_nil _ _, (Below.refl _ _).alloc (Nat.le_refl _) _, by simp⟩
  case round =>
    obtain ⟨k, f, acc, rfl, hk, hf, hacc, hall, hr0, hown, hbel, hsz⟩ := hrel
    have HAll : Hid (allR s f k acc = R) := hall
    have HR0 : Hid (wr.heap[w.heap.size]? = some (.cells [.slice none 0 0, .int .i64 0].toArray 87 (0, 0))) := hr0
    obtain ⟨va, vc, rfl⟩ := OwnT.form hown
    have HO : Hid (OwnT wr (w.heap.size + 1) (.slice va acc.length vc) acc) := hown
    have HB : Hid (Below w.heap.size w wr) := hbel
    clear hall hr0 hown hbel HR
    by_cases hlt : k < s.size
    · have HG : Hid (∀ V : World, Below w.heap.size w V → Calls Tryz.prog 108 #[.string s, .int .i64 (k : Int)] V fun e w' => e = .returned (getAt s k).val ∧ Below V.heap.size V w') := fun V hV => by
        have h := implDerGet s (k : Int) V hs (by omega) (HGt.out.below hV hpos)
        rw [show getD s (k : Int) = getAt s k from by unfold getD; rw [if_neg h1, if_neg (by omega)]; rfl] at h
        exact h
      have HAt : Hid ((getAt s k).code = 0 → k + 2 ≤ (getAt s k).at'.toNat ∧ (getAt s k).at'.toNat ≤ s.size ∧ 0 ≤ (getAt s k).at') := getAt_at
      obtain ⟨f', rfl⟩ : ∃ f', f = f' + 1 := ⟨f - 1, by omega⟩
      have HBad : Hid ((getAt s k).code ≠ 0 → R = ([], (getAt s k).code)) := fun h => by rw [← HAll.out, allR_bad hlt h]
      have HFull : Hid ((getAt s k).code = 0 → 60 ≤ acc.length → R = ([], 11)) := fun h h' => by rw [← HAll.out, allR_full hlt h h']
      have HMore : Hid ((getAt s k).code = 0 → acc.length < 60 → allR s f' (getAt s k).at'.toNat (acc ++ [((getAt s k).tag, (getAt s k).body)]) = R) := fun h h' => by rw [← HAll.out, allR_more hlt h h']
      generalize getAt s k = g at *
      obtain ⟨g0, g1, g2, g3⟩ := g
      clear HAll
      unfold GetR.val at HG
      simp only at HG HAt HBad HFull HMore
      go_wp2_with fail
      refine (HG.out _ HB.out).mono ?_
      rintro e w1 ⟨rfl, hb1⟩
      have HB1 : Hid (Below w.heap.size w w1) := HB.out.trans (hb1.mono (by omega))
      have hs1 := hb1.size
      have HX0 : Hid (w1.heap[w.heap.size]? = some (.cells [.slice none 0 0, .int .i64 0].toArray 87 (0, 0))) := by show _ = _; rw [hb1.block _ (by omega)]; exact HR0.out
      have HO1 : Hid (OwnT w1 (w.heap.size + 1) (.slice va acc.length vc) acc) := OwnT.keep HO.out hb1
      clear hb1 HR0 HO HB HG
      obtain ⟨⟨c0, c1⟩, f0, f1⟩ := cells2 HX0.out
      have hl0 : w.heap.size < w1.heap.size := by omega
      by_cases hc : g3 = 0
      rotate_left
      · have HF : Hid (R = ([], g3)) := HBad.out hc
        have ec : (g3 != 0) = true := by rw [bne_iff_ne]; exact hc
        clear hc
        go_wp2_with fail
        refine bodyPost_ret (v := .agg #[.slice none 0 0, .int .i64 g3]) (by simp [results, Tryz.results61, go_sem, c0, c1, hl0]) rfl ⟨.slice none 0 0, ?_, ?_, ?_⟩
        · rw [HF.out]
        · rw [HF.out]; exact ownT_nil _ _
        · repeat (first | exact HB1.out | refine Below.setCell ?_ (by simp) _ | refine Below.alloc ?_ (by simp <;> omega) _)
      obtain ⟨at1, at2, at3⟩ := HAt.out hc
      by_cases h60 : acc.length = 60
      · have HF : Hid (R = ([], 11)) := HFull.out hc (by omega)
        have e60 : (acc.length : Int) = 60 := by omega
        subst hc
        go_wp2_with fail
        refine bodyPost_ret (v := .agg #[.slice none 0 0, .int .i64 11]) (by simp [results, Tryz.results61, go_sem, c0, c1, hl0]) rfl ⟨.slice none 0 0, ?_, ?_, ?_⟩
        · rw [HF.out]
        · rw [HF.out]; exact ownT_nil _ _
        · repeat (first | exact HB1.out | refine Below.setCell ?_ (by simp) _ | refine Below.alloc ?_ (by simp <;> omega) _)
      · have HF := HMore.out hc (by omega)
        have HF : Hid (allR s f' g2.toNat (acc ++ [(g0, g1)]) = R) := HF
        have e60 : ((acc.length : Int) == 60) = false := by rw [beq_eq_false_iff_ne]; omega
        obtain ⟨m, rfl⟩ := Int.eq_ofNat_of_zero_le at3
        subst hc
        clear HMore HFull HBad HAt f0 f1 c0 c1
        have hO : w1.ownsRow (w.heap.size + 1) 116 2 (.slice va acc.length vc) acc.length (tCells acc) := HO1.out
        go_wp2_with (at_builtin; refine wpList_append_own _ rfl _ _ 71 rfl (w.heap.size + 1) 116 i0 (.agg #[.int .i64 0, .string ⟨#[]⟩]) 2 24 Tryz.underlying71 hi hz0 hz1 hz2 rfl (by decide) _ _ _ rfl ((hO.alloc _).alloc _) ⟨w1.heap.size + 1, 0, none⟩ 1 1 [.int .i64 g0, .string g1] rfl rfl ?c1 ?c2 ?c3 ?c4 ?c5 ?_)
        case c1 =>
          intro j u hj
          rw [Addr.add_lit, Nat.zero_add]
          exact rowFacts (cs := [.int .i64 g0, .string g1]) (heap_alloc2 w1 _ _) j u hj
        case c2 => intro u hu; simp at hu; rcases hu with rfl | rfl <;> rfl
        case c3 => unfold maxLen; omega
        case c4 => omega
        case c5 => simp; omega
        intro v' w2 hown' hgrow _
        have hlt2 := fun k hk => hO.lt k hk
        have hB2 : Below w.heap.size w w2 := ((HB1.out.alloc (by omega) _).alloc (by simp; omega) _).grown hgrow (by simp; omega) (fun k hk => by have := (hlt2 k hk).1; omega)
        have hs2 : w1.heap.size + 2 ≤ w2.heap.size := by have := hgrow.size; simp at this; omega
        have HY0 : Hid (w2.heap[w.heap.size]? = some (.cells [.slice none 0 0, .int .i64 0].toArray 87 (0, 0))) := by
          show _ = _
          rw [hgrow.block _ (by simp; omega) (fun e => by have := (hlt2 _ e.symm).1; omega), Below.heap_alloc _ _ _ (by simp; omega), Below.heap_alloc _ _ _ hl0]
          exact HX0.out
        have hx2 : w2.cell? ⟨w1.heap.size, 2, none⟩ = some (.int .i64 (m : Int)) := by
          have hr : w2.heap[w1.heap.size]? = some (.cells [.int .i64 g0, .string g1, .int .i64 (m : Int), .int .i64 0].toArray 125 (0, 0)) := by
            rw [hgrow.block _ (by simp; omega) (fun e => by have := (hlt2 _ e.symm).2; omega), Below.heap_alloc _ _ _ (by simp)]
            exact heap_alloc_new w1 _
          exact rowFacts hr 2 _ rfl
        have HO2 : Hid (OwnT w2 (w.heap.size + 1) v' (acc ++ [(g0, g1)])) := by
          show World.ownsRow _ _ _ _ _ _ _
          rw [tCells_snoc, List.length_append]
          exact hown'
        have HB2 : Hid (Below w.heap.size w w2) := hB2
        clear hown' hgrow hlt2 hB2 hO
        go_wp2_with fail
        go_roundw
        case rel =>
          exact ⟨m, f', acc ++ [(g0, g1)], rfl, at2, by omega, by simp; omega, HF.out, HY0.out, HO2.out, HB2.out, by omega⟩
        case measure => simp [intOf]; omega
    · have HF : Hid (R = (acc, 0)) := by
        show _ = _
        rw [← HAll.out, allR_end (by omega)]
      obtain ⟨⟨c0, c1⟩, f0, f1⟩ := cells2 HR0.out
      go_wp2_with fail
      refine bodyPost_ret (v := .agg #[.slice va acc.length vc, .int .i64 0]) (by simp [results, Tryz.results61, go_sem, c0, c1]) rfl ⟨.slice va acc.length vc, ?_, ?_, ?_⟩
      · rw [HF.out]
      · rw [HF.out]
        exact (OwnT.other (OwnT.other HO.out (by omega)) (by omega)).mono (by omega)
      · repeat (first | exact HB.out | refine Below.setCell ?_ (by simp) _ | refine Below.alloc ?_ (by simp <;> omega) _)
end Go.Proofs.YtekflbicjokdnaaGreatDoor
