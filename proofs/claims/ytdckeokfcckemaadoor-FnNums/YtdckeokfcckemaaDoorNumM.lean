/- Plain mathematics: a number, and a text, come back from their bytes; of bytes that end too early nothing is got. -/
import Derived.Test.YtdckeokfcckemaaDoorPlain
import Derived.Test.YtdckeokfcckemaaDoorNumP
namespace Go.Proofs.YtdckeokfcckemaaDoor
open Go.RowKit Go.Lib

theorem putF_pos (f x : Nat) : 0 < (putF f x).length := by
  cases f with
  | zero => simp [putF]
  | succ f => rw [putF]; split <;> simp
theorem putF_le (f x : Nat) : (putF f x).length ≤ f + 1 := by
  induction f generalizing x with
  | zero => simp [putF]
  | succ f ih =>
    rw [putF]
    split
    · simp
    · simpa using ih (x / 128)
/-- The bytes of a number are read as that number. -/
theorem get_put (s : ByteArray) (p : Nat) : ∀ (f i x u : Nat), x < pw f → i + f = 9 → (∀ j, j < (putF f x).length → ((bN s (p + i + j) : Nat) : Int) = (putF f x).getD j 0) → p + i + (putF f x).length ≤ s.size →
    (0 < i → 0 < x) → u + x * 128 ^ i ≤ 18446744073709551615 → getR s p (f + 1) i u = ⟨unI (u + x * 128 ^ i), (p + i + (putF f x).length : Nat), 0⟩ := by
  intro f
  induction f with
  | zero =>
    intro i x u hx hi hb hl h0 hv
    obtain rfl : i = 9 := by omega
    have e : putF 0 x = [(x : Int)] := rfl
    rw [e] at hb hl ⊢
    have hb0 := hb 0 (by simp)
    simp at hb0
    have hbx : bN s (p + 9) = x := by omega
    have hx1 : x ≤ 1 := by omega
    rw [getR_last (by simp at hl; omega) (by intro _; omega) (by omega) (by rw [hbx]; omega), hbx]
    simp [sh7, Nat.mod_eq_of_lt (show x < 128 by omega)]
  | succ f ih =>
    intro i x u hx hi hb hl h0 hv
    by_cases h128 : x < 128
    · have e : putF (f + 1) x = [(x : Int)] := putF_last h128
      rw [e] at hb hl ⊢
      have hb0 := hb 0 (by simp)
      simp at hb0
      have hbx : bN s (p + i) = x := by omega
      rw [getR_last (by simp at hl; omega) (by omega) (by omega) (by rw [hbx]; omega), hbx]
      simp [sh7, Nat.mod_eq_of_lt h128]
    · have e : putF (f + 1) x = ((x % 128 + 128 : Nat) : Int) :: putF f (x / 128) := putF_more (by omega)
      rw [e] at hb hl ⊢
      have hb0 := hb 0 (by simp)
      simp only [Nat.add_zero, List.getD_cons_zero] at hb0
      have hbx : bN s (p + i) = x % 128 + 128 := by omega
      simp only [List.length_cons] at hl ⊢
      rw [getR_more (by omega) (by omega) (by omega), hbx, show (x % 128 + 128) % 128 = x % 128 from by omega]
      have hpow : 128 ^ (i + 1) = 128 * 128 ^ i := by rw [Nat.pow_succ, Nat.mul_comm]
      have hsum : u + sh7 i (x % 128) + x / 128 * 128 ^ (i + 1) = u + x * 128 ^ i := by
        unfold sh7
        rw [hpow, ← Nat.mul_assoc, Nat.add_assoc, ← Nat.add_mul, show x % 128 + x / 128 * 128 = x from by omega]
      have := ih (i + 1) (x / 128) (u + sh7 i (x % 128)) (by simp only [pw] at hx; omega) (by omega) (fun j hj => by
        have := hb (j + 1) (by simpa using hj)
        rw [show p + (i + 1) + j = p + i + (j + 1) from by omega]
        simpa using this) (by omega) (by omega) (by rw [hsum]; exact hv)
      rw [hsum] at this
      rw [this]
      congr 1
      omega
/-- Bytes that end too early are short. -/
theorem get_short (s : ByteArray) (p : Nat) : ∀ (f i x u : Nat), i + f = 9 → (∀ j, j + 1 < (putF f x).length → ((bN s (p + i + j) : Nat) : Int) = (putF f x).getD j 0) → s.size + 1 = p + i + (putF f x).length →
    getR s p (f + 1) i u = .bad 4 := by
  intro f
  induction f with
  | zero =>
    intro i x u hi hb hl
    have e : putF 0 x = [(x : Int)] := rfl
    rw [e] at hl
    exact getR_short (by simp at hl; omega)
  | succ f ih =>
    intro i x u hi hb hl
    by_cases h128 : x < 128
    · have e : putF (f + 1) x = [(x : Int)] := putF_last h128
      rw [e] at hl
      exact getR_short (by simp at hl; omega)
    · have e : putF (f + 1) x = ((x % 128 + 128 : Nat) : Int) :: putF f (x / 128) := putF_more (by omega)
      rw [e] at hb hl
      have hpos := putF_pos f (x / 128)
      have hb0 := hb 0 (by simp; omega)
      simp only [Nat.add_zero, List.getD_cons_zero] at hb0
      have hbx : bN s (p + i) = x % 128 + 128 := by omega
      simp only [List.length_cons] at hl
      rw [getR_more (by omega) (by omega) (by omega)]
      exact ih (i + 1) (x / 128) _ (by omega) (fun j hj => by
        have := hb (j + 1) (by simp; omega)
        rw [show p + (i + 1) + j = p + i + (j + 1) from by omega]
        simpa using this) (by omega)
theorem unI_foldI (n : Int) : unI (foldI n) = n := by
  unfold foldI unI
  split
  · rw [if_pos (by omega)]; omega
  · rw [if_neg (by omega)]; omega
theorem foldI_le (n : Int) (h0 : -9223372036854775808 ≤ n) (h1 : n ≤ 9223372036854775807) : foldI n ≤ 18446744073709551615 := by unfold foldI; split <;> omega
theorem putF_mem (f x : Nat) (h : x < pw f) : ∀ y ∈ putF f x, 0 ≤ y ∧ y ≤ 255 := by
  induction f generalizing x with
  | zero => simp [putF, pw] at *; omega
  | succ f ih =>
    rw [putF]
    split
    · simp; omega
    · intro y hy
      rcases List.mem_cons.1 hy with rfl | hy
      · omega
      · exact ih (x / 128) (by simp only [pw] at h; omega) y hy
theorem bN_nums (xs : List Int) (h : ∀ x ∈ xs, 0 ≤ x ∧ x ≤ 255) (j : Nat) (hj : j < xs.length) : ((bN (strOfNums xs) j : Nat) : Int) = xs.getD j 0 := by
  have hx := h xs[j] (List.getElem_mem hj)
  have e : (strOfNums xs).data.toList = xs.map fun n => UInt8.ofNat n.toNat := by simp [strOfNums]
  unfold bN
  rw [e]
  simp only [List.getD, List.getElem?_map, List.getElem?_eq_getElem hj, Option.map_some, Option.getD_some]
  rw [UInt8.toNat_ofNat_of_lt' (by simp [UInt8.size]; omega)]
  omega
theorem toList_append (a b : ByteArray) : (a ++ b).data.toList = a.data.toList ++ b.data.toList := by
  rw [ByteArray.data_append, Array.toList_append]
theorem bN_left (a b : ByteArray) (j : Nat) (h : j < a.size) : bN (a ++ b) j = bN a j := by
  unfold bN
  rw [toList_append, List.getD, List.getElem?_append_left (by rw [← size_eq]; exact h)]
  rfl
theorem bN_right (a b : ByteArray) (j : Nat) : bN (a ++ b) (a.size + j) = bN b j := by
  unfold bN
  rw [toList_append, List.getD, List.getElem?_append_right (by rw [← size_eq]; omega), ← size_eq, Nat.add_sub_cancel_left]
  rfl
theorem bN_extract (a : ByteArray) (k j : Nat) (h : j < k) (hk : k ≤ a.size) : bN (a.extract 0 k) j = bN a j := by
  have e := bN_eq (a.extract 0 k) j (by rw [ByteArray.size_extract]; omega)
  rw [e, bN_eq a j (by omega)]
  congr 1
  simp [ByteArray.getElem_extract]
theorem pw9_lt {x : Nat} (h : x ≤ 18446744073709551615) : x < pw 9 := by rw [pw9]; omega
/-- The number's bytes, whatever stands ahead of and behind them. -/
theorem num_back (n : Int) (h0 : -9223372036854775808 ≤ n) (h1 : n ≤ 9223372036854775807) (a b : ByteArray) :
    getR (a ++ strOfNums (putF 9 (foldI n)) ++ b) a.size 10 0 0 = ⟨n, (a.size + (strOfNums (putF 9 (foldI n))).size : Nat), 0⟩ := by
  have hf := foldI_le n h0 h1
  have hs : (strOfNums (putF 9 (foldI n))).size = (putF 9 (foldI n)).length := by simp [strOfNums, ByteArray.size]
  have := get_put (a ++ strOfNums (putF 9 (foldI n)) ++ b) a.size 9 0 (foldI n) 0 (pw9_lt hf) rfl (fun j hj => by
    rw [Nat.add_zero, bN_left _ _ _ (by rw [ByteArray.size_append]; omega), bN_right]
    exact bN_nums _ (putF_mem _ _ (pw9_lt hf)) j hj) (by rw [ByteArray.size_append, ByteArray.size_append]; omega) (by omega) (by simpa using hf)
  rw [this]
  simp [unI_foldI, hs]
/-- Without its last byte it is short. -/
theorem num_short (n : Int) (h0 : -9223372036854775808 ≤ n) (h1 : n ≤ 9223372036854775807) :
    getR ((strOfNums (putF 9 (foldI n))).extract 0 ((strOfNums (putF 9 (foldI n))).size - 1)) 0 10 0 0 = .bad 4 := by
  have hf := foldI_le n h0 h1
  have hs : (strOfNums (putF 9 (foldI n))).size = (putF 9 (foldI n)).length := by simp [strOfNums, ByteArray.size]
  have hp := putF_pos 9 (foldI n)
  refine get_short _ 0 9 0 (foldI n) 0 rfl (fun j hj => ?_) ?_
  · rw [Nat.add_zero, Nat.zero_add, bN_extract _ _ _ (by omega) (by omega)]
    exact bN_nums _ (putF_mem _ _ (pw9_lt hf)) j (by omega)
  · rw [ByteArray.size_extract]; omega
end Go.Proofs.YtdckeokfcckemaaDoor
