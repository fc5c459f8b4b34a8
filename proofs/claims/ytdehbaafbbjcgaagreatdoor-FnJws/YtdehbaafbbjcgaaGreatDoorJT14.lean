/- Things of DER: what DerPut and DerGet answer. Plain mathematics: no program is named here. Numbers in bytes of two's complement, as few as may be. Plain mathematics: no program is named here. Numbers read back: what DerIntRead answers. Plain mathematics: no program is named here. Arcs in bytes of seven bits. Plain mathematics: no program is named here. -/
import Derived.Test.YtdehbaafbbjcgaaGreatDoorJT01
import Derived.Lib.Strings
import Derived.Lib.BitFns
import Derived.Laws.BitsAllLaws
namespace Go.Proofs.YtdehbaafbbjcgaaGreatDoor
open Go.RowKit Go.Lib

/-- Is it a tag? -/
def tagB (t : Int) : Bool := decide (0 ≤ t) && decide (t ≤ 255) && decide (t % 32 ≠ 31)
theorem tagB_iff {t : Int} : tagB t = true ↔ 0 ≤ t ∧ t ≤ 255 ∧ t % 32 ≠ 31 := by simp [tagB, and_assoc]
/-- A length's bytes. -/
def lenD (n : Nat) : List Int := if n < 128 then [(n : Int)] else if n < 256 then [129, (n : Int)] else [130, ((n / 256 : Nat) : Int), ((n % 256 : Nat) : Int)]
/-- A tag and a length. -/
def headD (t : Int) (n : Nat) : List Int := t :: lenD n
/-- The thing of a tag and a body. -/
def thingD (t : Int) (b : ByteArray) : ByteArray := strOfNums (headD t b.size) ++ b
def putD (t : Int) (b : ByteArray) : ByteArray := if tagB t = true ∧ b.size ≤ 4000 then thingD t b else ByteArray.empty
theorem lenD_le (n : Nat) : (lenD n).length ≤ 3 := by unfold lenD; split <;> (try split) <;> simp
theorem lenD_one (n : Nat) : 1 ≤ (lenD n).length := by unfold lenD; split <;> (try split) <;> simp
theorem thingD_size (t : Int) (b : ByteArray) : (thingD t b).size = 1 + (lenD b.size).length + b.size := by
  rw [thingD, ByteArray.size_append, strOfNums_size, headD, List.length_cons]; omega
theorem thingD_le (t : Int) (b : ByteArray) : (thingD t b).size ≤ b.size + 4 := by
  have := lenD_le b.size
  rw [thingD_size]; omega
theorem putD_right {t : Int} {b : ByteArray} (h : tagB t = true) (h1 : b.size ≤ 4000) : putD t b = thingD t b := if_pos ⟨h, h1⟩
theorem putD_long {t : Int} {b : ByteArray} (h1 : 4000 < b.size) : putD t b = ByteArray.empty := if_neg (fun h => by omega)
theorem putD_tag {t : Int} {b : ByteArray} (h : tagB t = false) : putD t b = ByteArray.empty := if_neg (fun h' => by rw [h] at h'; simp at h')
theorem putD_le (t : Int) (b : ByteArray) : (putD t b).size ≤ 4004 := by
  unfold putD
  split
  · rename_i h; have := thingD_le t b; omega
  · simp

/-- The byte at a place of a text. -/
def bN (s : ByteArray) (j : Nat) : Nat := (s.data.toList.getD j 0).toNat
theorem bN_lt (s : ByteArray) (j : Nat) : bN s j < 256 := (s.data.toList.getD j 0).toNat_lt
theorem bN_eq (s : ByteArray) (j : Nat) (h : j < s.size) : bN s j = s[j].toNat := by
  have h' : j < s.data.toList.length := by rw [← size_eq]; exact h
  simp [bN, List.getD, List.getElem?_eq_getElem h']
  rfl
/-- What DerGet tells. -/
structure GetR where
  tag : Int
  body : ByteArray
  at' : Int
  code : Int
def GetR.bad (c : Int) : GetR := ⟨0, ⟨#[]⟩, 0, c⟩
def bodyAt (s : ByteArray) (t n f : Nat) : GetR := if s.size < f + n then .bad 4 else ⟨(t : Int), s.extract f (f + n), ((f + n : Nat) : Int), 0⟩
/-- The thing at a place, of a text that is not too long. -/
def getAt (s : ByteArray) (k : Nat) : GetR :=
  if s.size ≤ k then .bad 4 else if tagB (bN s k : Int) = false then .bad 3 else if s.size ≤ k + 1 then .bad 4
  else if bN s (k + 1) < 128 then bodyAt s (bN s k) (bN s (k + 1)) (k + 2)
  else if bN s (k + 1) = 129 then
    if s.size ≤ k + 2 then .bad 4 else if bN s (k + 2) < 128 then .bad 3 else bodyAt s (bN s k) (bN s (k + 2)) (k + 3)
  else if bN s (k + 1) = 130 then
    if s.size ≤ k + 3 then .bad 4 else if 256 * bN s (k + 2) + bN s (k + 3) < 256 then .bad 3 else if 4000 < 256 * bN s (k + 2) + bN s (k + 3) then .bad 3
    else bodyAt s (bN s k) (256 * bN s (k + 2) + bN s (k + 3)) (k + 4)
  else .bad 3
def getD (s : ByteArray) (p : Int) : GetR := if 20000 < s.size then .bad 2 else if p < 0 then .bad 1 else getAt s p.toNat
def GetR.val (r : GetR) : Value := .agg #[.int .i64 r.tag, .string r.body, .int .i64 r.at', .int .i64 r.code]

theorem bodyAt_short {s : ByteArray} {t n f : Nat} (h : s.size < f + n) : bodyAt s t n f = .bad 4 := if_pos h
theorem bodyAt_ok {s : ByteArray} {t n f : Nat} (h : f + n ≤ s.size) : bodyAt s t n f = ⟨(t : Int), s.extract f (f + n), ((f + n : Nat) : Int), 0⟩ := if_neg (by omega)
section
variable {s : ByteArray} {k : Nat}
theorem getAt_end (h : s.size ≤ k) : getAt s k = .bad 4 := if_pos h
theorem getAt_tag (h : k < s.size) (ht : tagB (bN s k : Int) = false) : getAt s k = .bad 3 := by rw [getAt, if_neg (by omega), if_pos ht]
theorem getAt_one (h : s.size = k + 1) (ht : tagB (bN s k : Int) = true) : getAt s k = .bad 4 := by rw [getAt, if_neg (by omega), if_neg (by simp [ht]), if_pos (by omega)]
theorem getAt_low (h : k + 1 < s.size) (ht : tagB (bN s k : Int) = true) (h1 : bN s (k + 1) < 128) : getAt s k = bodyAt s (bN s k) (bN s (k + 1)) (k + 2) := by
  rw [getAt, if_neg (by omega), if_neg (by simp [ht]), if_neg (by omega), if_pos h1]
theorem getAt_many (h : k + 1 < s.size) (ht : tagB (bN s k : Int) = true) (h0 : 128 ≤ bN s (k + 1)) (h1 : bN s (k + 1) ≠ 129) (h2 : bN s (k + 1) ≠ 130) : getAt s k = .bad 3 := by
  rw [getAt, if_neg (by omega), if_neg (by simp [ht]), if_neg (by omega), if_neg (by omega), if_neg h1, if_neg h2]
theorem getAt_129 (h : k + 1 < s.size) (ht : tagB (bN s k : Int) = true) (h1 : bN s (k + 1) = 129) :
    getAt s k = if s.size ≤ k + 2 then .bad 4 else if bN s (k + 2) < 128 then .bad 3 else bodyAt s (bN s k) (bN s (k + 2)) (k + 3) := by
  rw [getAt, if_neg (by omega), if_neg (by simp [ht]), if_neg (by omega), if_neg (by omega), if_pos h1]
theorem getAt_130 (h : k + 1 < s.size) (ht : tagB (bN s k : Int) = true) (h1 : bN s (k + 1) = 130) :
    getAt s k = if s.size ≤ k + 3 then .bad 4 else if 256 * bN s (k + 2) + bN s (k + 3) < 256 then .bad 3 else if 4000 < 256 * bN s (k + 2) + bN s (k + 3) then .bad 3
      else bodyAt s (bN s k) (256 * bN s (k + 2) + bN s (k + 3)) (k + 4) := by
  rw [getAt, if_neg (by omega), if_neg (by simp [ht]), if_neg (by omega), if_neg (by omega), if_neg (by omega), if_pos h1]
end
theorem bodyAt_at {s : ByteArray} {t n f : Nat} (h : (bodyAt s t n f).code = 0) : f ≤ (bodyAt s t n f).at'.toNat ∧ (bodyAt s t n f).at'.toNat ≤ s.size ∧ 0 ≤ (bodyAt s t n f).at' := by
  unfold bodyAt at *
  split at h
  · simp [GetR.bad] at h
  · rename_i h1
    rw [if_neg h1]
    exact ⟨by simp; omega, by simp; omega, by simp; omega⟩
theorem getAt_cases (s : ByteArray) (k : Nat) : (∃ c, c ≠ 0 ∧ getAt s k = .bad c) ∨ ∃ n f, k + 2 ≤ f ∧ n ≤ 4000 ∧ getAt s k = bodyAt s (bN s k) n f ∧ tagB (bN s k : Int) = true := by
  have h2 := bN_lt s (k + 2)
  unfold getAt
  repeat' split
  all_goals first
    | exact .inl ⟨_, by decide, rfl⟩
    | exact .inr ⟨_, _, by omega, by omega, rfl, by simp_all⟩
/-- Where a thing is got, the place goes on, and stays in the text. -/
theorem getAt_at {s : ByteArray} {k : Nat} (h : (getAt s k).code = 0) : k + 2 ≤ (getAt s k).at'.toNat ∧ (getAt s k).at'.toNat ≤ s.size ∧ 0 ≤ (getAt s k).at' := by
  rcases getAt_cases s k with ⟨c, hc, e⟩ | ⟨n, f, hf, _, e, _⟩
  · rw [e] at h; exact absurd h hc
  · rw [e] at h ⊢
    have := bodyAt_at h
    omega
end Go.Proofs.YtdehbaafbbjcgaaGreatDoor
namespace Go.Proofs.YtdehbaafbbjcgaaGreatDoor
open Go.RowKit

/-- A number's bytes, the highest first; f + 1 at most. -/
def intF : Nat → Int → List Int
  | 0, n => [n % 256]
  | f + 1, n => if -128 ≤ n ∧ n < 128 then [n % 256] else intF f (n / 256) ++ [n % 256]
def intL (n : Int) : List Int := intF 7 n
def lim : Nat → Int
  | 0 => 128
  | f + 1 => 256 * lim f
theorem lim7 : lim 7 = 9223372036854775808 := by decide
def Fits (f : Nat) (m : Int) : Prop := -(lim f) ≤ m ∧ m < lim f
theorem intF_last {f : Nat} {m : Int} (h0 : -128 ≤ m) (h1 : m < 128) : intF f m = [m % 256] := by
  cases f with
  | zero => rfl
  | succ f => rw [intF, if_pos ⟨h0, h1⟩]
theorem intF_more {f : Nat} {m : Int} (h : ¬(-128 ≤ m ∧ m < 128)) (hf : Fits f m) : ∃ g, f = g + 1 ∧ Fits g (m / 256) ∧ intF f m = intF g (m / 256) ++ [m % 256] := by
  cases f with
  | zero => unfold Fits lim at hf; omega
  | succ g =>
    refine ⟨g, rfl, ?_, by rw [intF, if_neg h]⟩
    unfold Fits at *
    simp only [lim] at hf
    omega
theorem intF_len : ∀ (f : Nat) (m : Int), 1 ≤ (intF f m).length ∧ (intF f m).length ≤ f + 1
  | 0, _ => by simp [intF]
  | f + 1, m => by
    rw [intF]
    split
    · simp
    · have := intF_len f (m / 256)
      simp; omega
theorem intL_len (n : Int) : 1 ≤ (intL n).length ∧ (intL n).length ≤ 8 := intF_len 7 n
theorem intF_byte : ∀ (f : Nat) (m : Int) (x : Int), x ∈ intF f m → 0 ≤ x ∧ x < 256
  | 0, m, x, h => by simp [intF] at h; omega
  | f + 1, m, x, h => by
    rw [intF] at h
    split at h
    · simp at h; omega
    · rcases List.mem_append.1 h with h | h
      · exact intF_byte f _ x h
      · simp at h; omega
/-- A number without its sign. -/
def bareN (n : Int) : Nat := if n < 0 then (-n - 1).toNat else n.toNat
theorem bareN_div (n : Int) : bareN (n / 256) = bareN n / 256 := by
  unfold bareN
  split <;> split <;> omega
theorem bareN_low (n : Int) : bareN n < 128 ↔ -128 ≤ n ∧ n < 128 := by unfold bareN; split <;> omega
theorem bitLen_byte {x : Nat} (h : 128 ≤ x) (hx : x < 18446744073709551616) : Lib.bitLen x = 8 + Lib.bitLen (x / 256) := by
  by_cases h2 : 256 ≤ x
  · exact Lib.bitLen_shift8 x h2 hx
  · have e : x / 256 = 0 := by omega
    have e0 : Lib.bitLen 0 = 0 := by decide
    have g := Lib.bitLen_shift 7 x (by omega) (by omega)
    have e1 : x / 2 ^ 7 = 1 := by omega
    have e2 : Lib.bitLen 1 = 1 := by decide
    rw [e1, e2] at g
    rw [e, e0]; omega
theorem intF_bits : ∀ (f : Nat) (m : Int), Fits f m → bareN m < 18446744073709551616 → (intF f m).length = Lib.bitLen (bareN m) / 8 + 1
  | 0, m, h, _ => by
    have h2 : bareN m < 128 := (bareN_low m).2 (by unfold Fits lim at h; omega)
    have := Lib.bitLen_le (bareN m) 7 (by omega) (by omega)
    simp [intF]; omega
  | f + 1, m, h, hb => by
    by_cases c : -128 ≤ m ∧ m < 128
    · rw [intF, if_pos c]
      have h2 : bareN m < 128 := (bareN_low m).2 c
      have := Lib.bitLen_le (bareN m) 7 (by omega) (by omega)
      simp; omega
    · obtain ⟨g, e, hg, ee⟩ := intF_more c h
      obtain rfl : f = g := by omega
      have h2 : 128 ≤ bareN m := by rcases Nat.lt_or_ge (bareN m) 128 with h' | h'
                                    · exact absurd ((bareN_low m).1 h') c
                                    · exact h'
      rw [ee, List.length_append, intF_bits f (m / 256) hg (by rw [bareN_div]; omega), bareN_div, bitLen_byte h2 hb, List.length_singleton]
      omega
theorem fits7 {n : Int} (h0 : -9223372036854775808 ≤ n) (h1 : n ≤ 9223372036854775807) : Fits 7 n := by
  unfold Fits; rw [lim7]; omega
theorem intL_bits {n : Int} (h0 : -9223372036854775808 ≤ n) (h1 : n ≤ 9223372036854775807) : (intL n).length = Lib.bitLen (bareN n) / 8 + 1 :=
  intF_bits 7 n (fits7 h0 h1) (by unfold bareN; split <;> omega)
/-- The byte of weight 256 ^ i. -/
theorem intF_at : ∀ (f : Nat) (m : Int) (i : Nat), i < (intF f m).length → (intF f m).getD ((intF f m).length - 1 - i) 0 = m / 256 ^ i % 256
  | 0, m, i, h => by
    simp [intF] at h; subst h; simp [intF]
  | f + 1, m, i, h => by
    rw [intF] at h ⊢
    split at h
    · rename_i c
      rw [if_pos c]
      simp at h; subst h; simp
    · rename_i c
      rw [if_neg c]
      simp only [List.length_append, List.length_singleton] at h ⊢
      cases i with
      | zero => simp [List.getD]
      | succ i =>
        have ih := intF_at f (m / 256) i (by omega)
        rw [List.getD, List.getElem?_append_left (by omega)]
        rw [List.getD] at ih
        rw [show (intF f (m / 256)).length + 1 - 1 - (i + 1) = (intF f (m / 256)).length - 1 - i from by omega, ih, Int.ediv_ediv_of_nonneg (by omega)]
        congr 2
        rw [Int.pow_succ]; exact Int.mul_comm _ _
theorem intL_at {n : Int} {i : Nat} (h : i < (intL n).length) : (intL n).getD ((intL n).length - 1 - i) 0 = n / 256 ^ i % 256 := intF_at 7 n i h
end Go.Proofs.YtdehbaafbbjcgaaGreatDoor
namespace Go.Proofs.YtdehbaafbbjcgaaGreatDoor
open Go.RowKit

/-- The number of a text's first k bytes in two's complement. -/
def sv (s : ByteArray) : Nat → Int
  | 0 => if 128 ≤ bN s 0 then -1 else 0
  | k + 1 => sv s k * 256 + (bN s k : Int)
theorem sv_zero (s : ByteArray) : -1 ≤ sv s 0 ∧ sv s 0 ≤ 0 := by unfold sv; split <;> omega
theorem sv_fits (s : ByteArray) : ∀ k, Fits k (sv s (k + 1))
  | 0 => by
    have h := bN_lt s 0
    unfold Fits
    simp only [sv, lim]
    split <;> omega
  | k + 1 => by
    have h := bN_lt s (k + 1)
    have ih := sv_fits s k
    unfold Fits at *
    rw [sv]
    simp only [lim]
    omega
theorem lim_pos : ∀ m, 0 ≤ lim m
  | 0 => by decide
  | m + 1 => by have := lim_pos m; simp only [lim]; omega
theorem lim_le {a b : Nat} (h : a ≤ b) : lim a ≤ lim b := by
  obtain ⟨d, rfl⟩ := Nat.exists_eq_add_of_le h
  clear h
  induction d with
  | zero => exact Int.le_refl _
  | succ d ih => have := lim_pos (a + d); rw [← Nat.add_assoc]; simp only [lim]; omega
theorem sv_bd (s : ByteArray) {k : Nat} (hk : k ≤ 8) : -9223372036854775808 ≤ sv s k ∧ sv s k < 9223372036854775808 := by
  cases k with
  | zero => have := sv_zero s; omega
  | succ k =>
    have h := sv_fits s k
    have l := lim_le (show k ≤ 7 by omega)
    rw [lim7] at l
    unfold Fits at h
    omega
theorem sv_low (s : ByteArray) {k : Nat} (hk : k < 8) : -36028797018963968 ≤ sv s k ∧ sv s k < 36028797018963968 := by
  cases k with
  | zero => have := sv_zero s; omega
  | succ k =>
    have h := sv_fits s k
    have l := lim_le (show k ≤ 6 by omega)
    have e : lim 6 = 36028797018963968 := by decide
    unfold Fits at h
    omega
theorem or8 (v : Int) (b : Nat) (hb : b < 256) (h0 : -36028797018963968 ≤ v) (h1 : v < 36028797018963968) : bits BinOp.or IntKind.i64 (v * 256) (b : Int) = v * 256 + (b : Int) := by
  have e : bits BinOp.or IntKind.i64 (v * 256) (b : Int) = IntKind.i64.wrap ((BitVec.ofInt 64 (v * 256) ||| BitVec.ofInt 64 (b : Int)).toNat : Nat) := rfl
  rw [e, BitVec.toNat_or, BitVec.toNat_ofInt, BitVec.toNat_ofInt]
  have e1 : ((b : Int) % ((2 ^ 64 : Nat) : Int)).toNat = b := by omega
  rw [e1]
  obtain ⟨q, hq⟩ : ∃ q : Nat, (v * 256 % ((2 ^ 64 : Nat) : Int)).toNat = 2 ^ 8 * q := ⟨(v * 256 % ((2 ^ 64 : Nat) : Int)).toNat / 256, by omega⟩
  rw [hq, ← Nat.two_pow_add_eq_or_of_lt (by omega)]
  rw [IntKind.wrap_i64]
  omega
theorem same_text (a b : ByteArray) : (a.toList == b.toList) = decide (a = b) := by
  by_cases h : a = b
  · subst h; simp
  · rw [decide_eq_false h, beq_eq_false_iff_ne]
    intro h'
    rw [Lib.toList_data, Lib.toList_data] at h'
    exact h (ByteArray.ext (Array.toList_inj.1 h'))
/-- What DerIntRead answers: the number and the code. -/
def intR (s : ByteArray) : Int × Int :=
  if 20000 < s.size then (0, 2) else if s.size = 0 ∨ 8 < s.size then (0, 3) else if strOfNums (intL (sv s s.size)) = s then (sv s s.size, 0) else (0, 3)
theorem intR_long {s : ByteArray} (h : 20000 < s.size) : intR s = (0, 2) := if_pos h
theorem intR_size {s : ByteArray} (h : s.size ≤ 20000) (h1 : s.size = 0 ∨ 8 < s.size) : intR s = (0, 3) := by rw [intR, if_neg (by omega), if_pos h1]
theorem intR_good {s : ByteArray} (h0 : 0 < s.size) (h1 : s.size ≤ 8) (h : strOfNums (intL (sv s s.size)) = s) : intR s = (sv s s.size, 0) := by rw [intR, if_neg (by omega), if_neg (by omega), if_pos h]
theorem intR_bad {s : ByteArray} (h0 : 0 < s.size) (h1 : s.size ≤ 8) (h : strOfNums (intL (sv s s.size)) ≠ s) : intR s = (0, 3) := by rw [intR, if_neg (by omega), if_neg (by omega), if_neg h]
/-- A NumOut as a value. -/
def numT (n c : Int) : Value := .agg #[.int .i64 n, .int .i64 0, .int .i64 c]
end Go.Proofs.YtdehbaafbbjcgaaGreatDoor
namespace Go.Proofs.YtdehbaafbbjcgaaGreatDoor
open Go.RowKit

/-- The bytes of seven bits ahead of the last one, the highest first. -/
def sevH : Nat → Nat → List Int
  | 0, _ => []
  | f + 1, x => if x = 0 then [] else sevH f (x / 128) ++ [((x % 128 + 128 : Nat) : Int)]
def sevL (x : Nat) : List Int := sevH 9 (x / 128) ++ [((x % 128 : Nat) : Int)]
theorem sevH_zero (f : Nat) : sevH f 0 = [] := by cases f <;> simp [sevH]
theorem sevH_more {f x : Nat} (h : x ≠ 0) (hf : x < 128 ^ f) : ∃ g, f = g + 1 ∧ x / 128 < 128 ^ g ∧ sevH f x = sevH g (x / 128) ++ [((x % 128 + 128 : Nat) : Int)] := by
  cases f with
  | zero => simp at hf; omega
  | succ g => exact ⟨g, rfl, by rw [Nat.pow_succ] at hf; omega, by rw [sevH, if_neg h]⟩
theorem bitLen_seven {x : Nat} (h : x ≠ 0) (hx : x < 18446744073709551616) : (Lib.bitLen x + 6) / 7 = (Lib.bitLen (x / 128) + 6) / 7 + 1 := by
  by_cases h2 : 128 ≤ x
  · have := Lib.bitLen_shift 7 x h2 hx
    have e : x / 2 ^ 7 = x / 128 := rfl
    rw [e] at this
    omega
  · have e : x / 128 = 0 := by omega
    have e0 : Lib.bitLen 0 = 0 := by decide
    have l := Lib.bitLen_le x 7 (by omega) (by omega)
    have g := Lib.bitLen_half x h (by omega)
    rw [e, e0]; omega
theorem sevH_len : ∀ (f x : Nat), x < 128 ^ f → x < 18446744073709551616 → (sevH f x).length = (Lib.bitLen x + 6) / 7
  | f, x, h, hx => by
    by_cases h0 : x = 0
    · subst h0
      rw [sevH_zero]
      have e0 : Lib.bitLen 0 = 0 := by decide
      rw [e0]; rfl
    · obtain ⟨g, rfl, hg, e⟩ := sevH_more h0 h
      rw [e, List.length_append, sevH_len g (x / 128) hg (by omega), bitLen_seven h0 hx]
      rfl
theorem p9 : (128 : Nat) ^ 9 = 9223372036854775808 := by decide
theorem sevL_len {x : Nat} (hx : x < 9223372036854775808) : (sevL x).length = (Lib.bitLen (x / 128) + 6) / 7 + 1 := by
  rw [sevL, List.length_append, sevH_len 9 (x / 128) (by rw [p9]; omega) (by omega)]; rfl
/-- As impl counts them. -/
theorem sevL_count {x : Nat} (hx : x < 9223372036854775808) : (sevL x).length = max 1 ((Lib.bitLen x + 6) / 7) := by
  rw [sevL_len hx]
  by_cases h : x = 0
  · subst h; decide
  · rw [bitLen_seven h (by omega)]; omega
theorem sevL_small {x : Nat} (hx : x < 34359738368) : (sevL x).length ≤ 5 := by
  rw [sevL_len (by omega)]
  have := Lib.bitLen_le (x / 128) 28 (by omega) (by omega)
  omega
theorem sevL_pos (x : Nat) : 1 ≤ (sevL x).length := by simp [sevL]
theorem sevH_at : ∀ (f x i : Nat), x < 128 ^ f → i < (sevH f x).length → (sevH f x).getD ((sevH f x).length - 1 - i) 0 = ((x / 128 ^ i % 128 + 128 : Nat) : Int)
  | f, x, i, h, hi => by
    by_cases h0 : x = 0
    · subst h0; rw [sevH_zero] at hi; simp at hi
    · obtain ⟨g, rfl, hg, e⟩ := sevH_more h0 h
      rw [e] at hi ⊢
      simp only [List.length_append, List.length_singleton] at hi ⊢
      cases i with
      | zero => simp [List.getD]
      | succ i =>
        have ih := sevH_at g (x / 128) i hg (by omega)
        rw [List.getD] at ih
        rw [List.getD, List.getElem?_append_left (by omega), show (sevH g (x / 128)).length + 1 - 1 - (i + 1) = (sevH g (x / 128)).length - 1 - i from by omega, ih, Nat.div_div_eq_div_mul, Nat.pow_succ, Nat.mul_comm]
theorem sevL_last (x : Nat) : (sevL x).getD ((sevL x).length - 1) 0 = ((x % 128 : Nat) : Int) := by
  simp [sevL, List.getD]
theorem sevL_at {x i : Nat} (hx : x < 9223372036854775808) (h0 : 0 < i) (hi : i < (sevL x).length) : (sevL x).getD ((sevL x).length - 1 - i) 0 = ((x / 128 ^ i % 128 + 128 : Nat) : Int) := by
  obtain ⟨j, rfl⟩ : ∃ j, i = j + 1 := ⟨i - 1, by omega⟩
  unfold sevL at hi ⊢
  simp only [List.length_append, List.length_singleton] at hi ⊢
  have ih := sevH_at 9 (x / 128) j (by rw [p9]; omega) (by omega)
  rw [List.getD] at ih
  rw [List.getD, List.getElem?_append_left (by omega), show (sevH 9 (x / 128)).length + 1 - 1 - (j + 1) = (sevH 9 (x / 128)).length - 1 - j from by omega, ih, Nat.div_div_eq_div_mul, Nat.pow_succ, Nat.mul_comm]
theorem strOfNums_append (a b : List Int) : strOfNums (a ++ b) = strOfNums a ++ strOfNums b := by
  rw [strOfNums, strOfNums, strOfNums, ByteArray.mk_append_mk]
  simp
/-- The most that the second arc may be. -/
def most2 (x : Int) : Int := if x = 2 then 100 else 39
/-- Are they arcs? -/
def arcsB (l : List Int) : Bool :=
  decide (2 ≤ l.length) && decide (l.length ≤ 10) && decide (0 ≤ l.getD 0 0) && decide (l.getD 0 0 ≤ 2) && decide (0 ≤ l.getD 1 0) && decide (l.getD 1 0 ≤ most2 (l.getD 0 0)) && (l.drop 2).all fun x => decide (0 ≤ x) && decide (x ≤ 2147483647)
theorem arcsB_iff {l : List Int} : arcsB l = true ↔ 2 ≤ l.length ∧ l.length ≤ 10 ∧ 0 ≤ l.getD 0 0 ∧ l.getD 0 0 ≤ 2 ∧ 0 ≤ l.getD 1 0 ∧ l.getD 1 0 ≤ most2 (l.getD 0 0) ∧ ∀ j, 2 ≤ j → j < l.length → 0 ≤ l.getD j 0 ∧ l.getD j 0 ≤ 2147483647 := by
  unfold arcsB
  simp only [Bool.and_eq_true, decide_eq_true_eq, List.all_eq_true, and_assoc]
  constructor
  · rintro ⟨a, b, c, d, e, f, g⟩
    refine ⟨a, b, c, d, e, f, fun j h1 h2 => ?_⟩
    have hm : l.getD j 0 ∈ l.drop 2 := by
      rw [List.getD, List.getElem?_eq_getElem h2]
      refine List.mem_iff_getElem?.2 ⟨j - 2, ?_⟩
      rw [List.getElem?_drop, show 2 + (j - 2) = j from by omega, List.getElem?_eq_getElem h2]; rfl
    exact g _ hm
  · rintro ⟨a, b, c, d, e, f, g⟩
    refine ⟨a, b, c, d, e, f, fun x hx => ?_⟩
    obtain ⟨i, hi⟩ := List.mem_iff_getElem?.1 hx
    rw [List.getElem?_drop] at hi
    have hl : 2 + i < l.length := by
      rcases Nat.lt_or_ge (2 + i) l.length with h | h
      · exact h
      · rw [List.getElem?_eq_none h] at hi; cases hi
    have := g (2 + i) (by omega) hl
    rw [List.getD, hi] at this
    exact this
/-- The arcs ahead of the k-th in bytes (k at least 2). -/
def oidTo (l : List Int) : Nat → List Int
  | 0 => sevL (40 * l.getD 0 0 + l.getD 1 0).toNat
  | k + 1 => oidTo l k ++ sevL (l.getD (k + 2) 0).toNat
def oidL (l : List Int) : List Int := oidTo l (l.length - 2)
def oidD (l : List Int) : ByteArray := if arcsB l = true then thingD 6 (strOfNums (oidL l)) else ByteArray.empty
theorem oidTo_len {l : List Int} (h : arcsB l = true) : ∀ k, k + 2 ≤ l.length → (oidTo l k).length ≤ 5 + 5 * k
  | 0, _ => by
    have := arcsB_iff.1 h
    have m : most2 (l.getD 0 0) ≤ 100 := by unfold most2; split <;> omega
    have := sevL_small (x := (40 * l.getD 0 0 + l.getD 1 0).toNat) (by omega)
    rw [oidTo]; omega
  | k + 1, hk => by
    have ih := oidTo_len h k (by omega)
    have := (arcsB_iff.1 h).2.2.2.2.2.2 (k + 2) (by omega) (by omega)
    have := sevL_small (x := (l.getD (k + 2) 0).toNat) (by omega)
    rw [oidTo, List.length_append]; omega
theorem oidL_len {l : List Int} (h : arcsB l = true) : (oidL l).length ≤ 45 := by
  have := arcsB_iff.1 h
  have := oidTo_len h (l.length - 2) (by omega)
  unfold oidL; omega
end Go.Proofs.YtdehbaafbbjcgaaGreatDoor
