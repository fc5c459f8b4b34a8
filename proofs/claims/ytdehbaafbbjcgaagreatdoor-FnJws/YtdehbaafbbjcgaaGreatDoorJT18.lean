/- Plain mathematics: a number, and a text, come back from their bytes; of bytes that end too early nothing is got. What is read of rows of things: bodies within bodies, names, serials, numbers; and that it is what was written. Plain mathematics: no program is named here. Numbers that are read one behind the other. Plain mathematics: no program is named here. What is read of a request. Plain. A time lies within bounds. Plain. What a right request's parts lie between. Plain. -/
import Derived.Test.YtdehbaafbbjcgaaGreatDoorJT01
import Derived.Test.YtdehbaafbbjcgaaGreatDoorJT12
import Derived.Test.YtdehbaafbbjcgaaGreatDoorJT16
import Derived.Test.YtdehbaafbbjcgaaGreatDoorJT17
import Derived.Test.YtdehbaafbbjcgaaGreatDoorJT13
import Derived.Test.YtdehbaafbbjcgaaGreatDoorJT10
import Derived.Test.YtdehbaafbbjcgaaGreatDoorJT06
namespace Go.Proofs.YtdehbaafbbjcgaaGreatDoor
open Go.RowKit Go.Lib

theorem putF_pos (f x : Nat) : 0 < (putF f x).length := by
  cases f with
  | zero => simp [putF]
  | succ f => rw [putF]; split <;> simp
theorem putF_le (f x : Nat) : (putF f x).length ≤ f + 1 := by
  induction f generalizing x with
  | zero => simp [putF]
  | succ f ih =>
    rw [putF]
    split
    · simp
    · simpa using ih (x / 128)
/-- The bytes of a number are read as that number. -/
theorem get_put (s : ByteArray) (p : Nat) : ∀ (f i x u : Nat), x < pw f → i + f = 9 → (∀ j, j < (putF f x).length → ((bNu s (p + i + j) : Nat) : Int) = (putF f x).getD j 0) → p + i + (putF f x).length ≤ s.size →
    (0 < i → 0 < x) → u + x * 128 ^ i ≤ 18446744073709551615 → getR s p (f + 1) i u = ⟨unI (u + x * 128 ^ i), (p + i + (putF f x).length : Nat), 0⟩ := by
  intro f
  induction f with
  | zero =>
    intro i x u hx hi hb hl h0 hv
    obtain rfl : i = 9 := by omega
    have e : putF 0 x = [(x : Int)] := rfl
    rw [e] at hb hl ⊢
    have hb0 := hb 0 (by simp)
    simp at hb0
    have hbx : bNu s (p + 9) = x := by omega
    have hx1 : x ≤ 1 := by omega
    rw [getR_last (by simp at hl; omega) (by intro _; omega) (by omega) (by rw [hbx]; omega), hbx]
    simp [sh7, Nat.mod_eq_of_lt (show x < 128 by omega)]
  | succ f ih =>
    intro i x u hx hi hb hl h0 hv
    by_cases h128 : x < 128
    · have e : putF (f + 1) x = [(x : Int)] := putF_last h128
      rw [e] at hb hl ⊢
      have hb0 := hb 0 (by simp)
      simp at hb0
      have hbx : bNu s (p + i) = x := by omega
      rw [getR_last (by simp at hl; omega) (by omega) (by omega) (by rw [hbx]; omega), hbx]
      simp [sh7, Nat.mod_eq_of_lt h128]
    · have e : putF (f + 1) x = ((x % 128 + 128 : Nat) : Int) :: putF f (x / 128) := putF_more (by omega)
      rw [e] at hb hl ⊢
      have hb0 := hb 0 (by simp)
      simp only [Nat.add_zero, List.getD_cons_zero] at hb0
      have hbx : bNu s (p + i) = x % 128 + 128 := by omega
      simp only [List.length_cons] at hl ⊢
      rw [getR_more (by omega) (by omega) (by omega), hbx, show (x % 128 + 128) % 128 = x % 128 from by omega]
      have hpow : 128 ^ (i + 1) = 128 * 128 ^ i := by rw [Nat.pow_succ, Nat.mul_comm]
      have hsum : u + sh7 i (x % 128) + x / 128 * 128 ^ (i + 1) = u + x * 128 ^ i := by
        unfold sh7
        rw [hpow, ← Nat.mul_assoc, Nat.add_assoc, ← Nat.add_mul, show x % 128 + x / 128 * 128 = x from by omega]
      have := ih (i + 1) (x / 128) (u + sh7 i (x % 128)) (by simp only [pw] at hx; omega) (by omega) (fun j hj => by
        have := hb (j + 1) (by simpa using hj)
        rw [show p + (i + 1) + j = p + i + (j + 1) from by omega]
        simpa using this) (by omega) (by omega) (by rw [hsum]; exact hv)
      rw [hsum] at this
      rw [this]
      congr 1
      omega
/-- Bytes that end too early are short. -/
theorem getU_short (s : ByteArray) (p : Nat) : ∀ (f i x u : Nat), i + f = 9 → (∀ j, j + 1 < (putF f x).length → ((bNu s (p + i + j) : Nat) : Int) = (putF f x).getD j 0) → s.size + 1 = p + i + (putF f x).length →
    getR s p (f + 1) i u = .bad 4 := by
  intro f
  induction f with
  | zero =>
    intro i x u hi hb hl
    have e : putF 0 x = [(x : Int)] := rfl
    rw [e] at hl
    exact getR_short (by simp at hl; omega)
  | succ f ih =>
    intro i x u hi hb hl
    by_cases h128 : x < 128
    · have e : putF (f + 1) x = [(x : Int)] := putF_last h128
      rw [e] at hl
      exact getR_short (by simp at hl; omega)
    · have e : putF (f + 1) x = ((x % 128 + 128 : Nat) : Int) :: putF f (x / 128) := putF_more (by omega)
      rw [e] at hb hl
      have hpos := putF_pos f (x / 128)
      have hb0 := hb 0 (by simp; omega)
      simp only [Nat.add_zero, List.getD_cons_zero] at hb0
      have hbx : bNu s (p + i) = x % 128 + 128 := by omega
      simp only [List.length_cons] at hl
      rw [getR_more (by omega) (by omega) (by omega)]
      exact ih (i + 1) (x / 128) _ (by omega) (fun j hj => by
        have := hb (j + 1) (by simp; omega)
        rw [show p + (i + 1) + j = p + i + (j + 1) from by omega]
        simpa using this) (by omega)
theorem unI_foldI (n : Int) : unI (foldI n) = n := by
  unfold foldI unI
  split
  · rw [if_pos (by omega)]; omega
  · rw [if_neg (by omega)]; omega
theorem foldI_le (n : Int) (h0 : -9223372036854775808 ≤ n) (h1 : n ≤ 9223372036854775807) : foldI n ≤ 18446744073709551615 := by unfold foldI; split <;> omega
theorem putF_mem (f x : Nat) (h : x < pw f) : ∀ y ∈ putF f x, 0 ≤ y ∧ y ≤ 255 := by
  induction f generalizing x with
  | zero => simp [putF, pw] at *; omega
  | succ f ih =>
    rw [putF]
    split
    · simp; omega
    · intro y hy
      rcases List.mem_cons.1 hy with rfl | hy
      · omega
      · exact ih (x / 128) (by simp only [pw] at h; omega) y hy
theorem bU_nums (xs : List Int) (h : ∀ x ∈ xs, 0 ≤ x ∧ x ≤ 255) (j : Nat) (hj : j < xs.length) : ((bNu (strOfNums xs) j : Nat) : Int) = xs.getD j 0 := by
  have hx := h xs[j] (List.getElem_mem hj)
  have e : (strOfNums xs).data.toList = xs.map fun n => UInt8.ofNat n.toNat := by simp [strOfNums]
  unfold bNu
  rw [e]
  simp only [List.getD, List.getElem?_map, List.getElem?_eq_getElem hj, Option.map_some, Option.getD_some]
  rw [UInt8.toNat_ofNat_of_lt' (by simp [UInt8.size]; omega)]
  omega
theorem toList_append (a b : ByteArray) : (a ++ b).data.toList = a.data.toList ++ b.data.toList := by
  rw [ByteArray.data_append, Array.toList_append]
theorem bU_left (a b : ByteArray) (j : Nat) (h : j < a.size) : bNu (a ++ b) j = bNu a j := by
  unfold bNu
  rw [toList_append, List.getD, List.getElem?_append_left (by rw [← size_eq]; exact h)]
  rfl
theorem bU_right (a b : ByteArray) (j : Nat) : bNu (a ++ b) (a.size + j) = bNu b j := by
  unfold bNu
  rw [toList_append, List.getD, List.getElem?_append_right (by rw [← size_eq]; omega), ← size_eq, Nat.add_sub_cancel_left]
  rfl
theorem bU_extract (a : ByteArray) (k j : Nat) (h : j < k) (hk : k ≤ a.size) : bNu (a.extract 0 k) j = bNu a j := by
  have e := bU_eq (a.extract 0 k) j (by rw [ByteArray.size_extract]; omega)
  rw [e, bU_eq a j (by omega)]
  congr 1
  simp [ByteArray.getElem_extract]
theorem pw9_lt {x : Nat} (h : x ≤ 18446744073709551615) : x < pw 9 := by rw [pw9]; omega
/-- The number's bytes, whatever stands ahead of and behind them. -/
theorem num_back (n : Int) (h0 : -9223372036854775808 ≤ n) (h1 : n ≤ 9223372036854775807) (a b : ByteArray) :
    getR (a ++ strOfNums (putF 9 (foldI n)) ++ b) a.size 10 0 0 = ⟨n, (a.size + (strOfNums (putF 9 (foldI n))).size : Nat), 0⟩ := by
  have hf := foldI_le n h0 h1
  have hs : (strOfNums (putF 9 (foldI n))).size = (putF 9 (foldI n)).length := by simp [strOfNums, ByteArray.size]
  have := get_put (a ++ strOfNums (putF 9 (foldI n)) ++ b) a.size 9 0 (foldI n) 0 (pw9_lt hf) rfl (fun j hj => by
    rw [Nat.add_zero, bU_left _ _ _ (by rw [ByteArray.size_append]; omega), bU_right]
    exact bU_nums _ (putF_mem _ _ (pw9_lt hf)) j hj) (by rw [ByteArray.size_append, ByteArray.size_append]; omega) (by omega) (by simpa using hf)
  rw [this]
  simp [unI_foldI, hs]
/-- Without its last byte it is short. -/
theorem num_short (n : Int) (h0 : -9223372036854775808 ≤ n) (h1 : n ≤ 9223372036854775807) :
    getR ((strOfNums (putF 9 (foldI n))).extract 0 ((strOfNums (putF 9 (foldI n))).size - 1)) 0 10 0 0 = .bad 4 := by
  have hf := foldI_le n h0 h1
  have hs : (strOfNums (putF 9 (foldI n))).size = (putF 9 (foldI n)).length := by simp [strOfNums, ByteArray.size]
  have hp := putF_pos 9 (foldI n)
  refine getU_short _ 0 9 0 (foldI n) 0 rfl (fun j hj => ?_) ?_
  · rw [Nat.add_zero, Nat.zero_add, bU_extract _ _ _ (by omega) (by omega)]
    exact bU_nums _ (putF_mem _ _ (pw9_lt hf)) j (by omega)
  · rw [ByteArray.size_extract]; omega
end Go.Proofs.YtdehbaafbbjcgaaGreatDoor
namespace Go.Proofs.YtdehbaafbbjcgaaGreatDoor
open Go.RowKit

/-- Things, one behind the other. -/
def catT : List (Nat × ByteArray) → ByteArray
  | [] => ⟨#[]⟩
  | p :: r => thingD (p.1 : Int) p.2 ++ catT r
def asI (l : List (Nat × ByteArray)) : List (Int × ByteArray) := l.map fun p => ((p.1 : Int), p.2)
theorem catT_len : ∀ l : List (Nat × ByteArray), 2 * l.length ≤ (catT l).size
  | [] => Nat.zero_le _
  | p :: r => by
    have h := catT_len r
    have h2 := thingD_size (p.1 : Int) p.2
    have h3 := lenD_one p.2.size
    rw [catT, ByteArray.size_append, List.length_cons]
    omega
theorem allR_cat : ∀ (l : List (Nat × ByteArray)) (p : ByteArray) (f : Nat) (acc : List (Int × ByteArray)), (∀ q ∈ l, tagB (q.1 : Int) = true ∧ q.2.size ≤ 4000) → l.length ≤ f → acc.length + l.length ≤ 60 →
    allR (p ++ catT l) f p.size acc = (acc ++ asI l, 0)
  | [], p, f, acc, _, _, _ => by
    rw [allR_end (by rw [ByteArray.size_append]; show p.size + 0 ≤ _; omega)]
    simp [asI]
  | q :: r, p, f, acc, hq, hf, ha => by
    obtain ⟨t, b⟩ := q
    obtain ⟨h1, h2⟩ := hq _ (List.mem_cons_self ..)
    simp only at h1 h2
    obtain ⟨g, rfl⟩ : ∃ g, f = g + 1 := ⟨f - 1, by simp at hf; omega⟩
    have hs := thingD_size (t : Int) b
    have e : p ++ catT ((t, b) :: r) = p ++ thingD (t : Int) b ++ catT r := by rw [catT, ByteArray.append_assoc]
    have hg := get_back p (catT r) h1 h2
    rw [e]
    rw [allR_more (by rw [ByteArray.size_append, ByteArray.size_append]; omega) (by rw [hg]) (by simp at ha; omega), hg]
    simp only [Int.toNat_natCast]
    rw [show p.size + (thingD (t : Int) b).size = (p ++ thingD (t : Int) b).size from ByteArray.size_append.symm]
    rw [allR_cat r (p ++ thingD (t : Int) b) g _ (fun q hq' => hq q (List.mem_cons_of_mem _ hq')) (by simp at hf; omega) (by simp at ha ⊢; omega)]
    simp [asI]
theorem allR_all {l : List (Nat × ByteArray)} (hq : ∀ q ∈ l, tagB (q.1 : Int) = true ∧ q.2.size ≤ 4000) (hl : l.length ≤ 60) : allR (catT l) ((catT l).size + 1) 0 [] = (asI l, 0) := by
  have h := allR_cat l ByteArray.empty ((catT l).size + 1) [] hq (by have := catT_len l; omega) (by simpa using hl)
  rw [ByteArray.empty_append] at h
  simpa using h
theorem allD_cat {l : List (Nat × ByteArray)} (hq : ∀ q ∈ l, tagB (q.1 : Int) = true ∧ q.2.size ≤ 4000) (hl : l.length ≤ 60) (hs : (catT l).size ≤ 20000) : allD (catT l) = (asI l, 0) := by
  unfold allD
  rw [if_neg (by omega)]
  exact allR_all hq hl
/-- The body of thing number k of a row: the empty text, if there is none. -/
def bodyK (s : ByteArray) (k : Nat) : ByteArray := (((allD s).1[k]?).map (·.2)).getD ⟨#[]⟩
/-- .. and so on, one within the other. -/
def atP (s : ByteArray) : List Nat → ByteArray
  | [] => s
  | k :: ks => if k < (allD s).1.length then atP (bodyK s k) ks else ⟨#[]⟩
theorem allR_body (s : ByteArray) : ∀ (f k : Nat) (acc : List (Int × ByteArray)), (∀ q ∈ acc, q.2.size ≤ s.size) → ∀ q ∈ (allR s f k acc).1, q.2.size ≤ s.size
  | 0, _, acc, h => h
  | f + 1, k, acc, h => by
    rw [allR]
    split
    · exact h
    · split
      · simp
      · split
        · simp
        · refine allR_body s f _ _ (fun q hq => ?_)
          rcases List.mem_append.1 hq with hq | hq
          · exact h q hq
          · obtain rfl := List.mem_singleton.1 hq
            rename_i hc _ _
            obtain ⟨n, _, h2, _, h4, _⟩ := getAt_form (s := s) (k := k) (by simpa using hc)
            rw [h4]
            show (s.extract _ _).size ≤ _
            rw [ByteArray.size_extract]
            omega
theorem allD_body (s : ByteArray) : ∀ q ∈ (allD s).1, q.2.size ≤ s.size := by
  unfold allD
  split
  · simp
  · exact allR_body s _ _ _ (by simp)
theorem bodyK_le (s : ByteArray) (k : Nat) : (bodyK s k).size ≤ s.size := by
  unfold bodyK
  cases h : (allD s).1[k]? with
  | none => exact Nat.zero_le _
  | some q => exact allD_body s q (List.mem_of_getElem? h)
theorem atP_le : ∀ (ks : List Nat) (s : ByteArray), (atP s ks).size ≤ s.size
  | [], s => Nat.le_refl _
  | k :: ks, s => by
    rw [atP]
    split
    · exact Nat.le_trans (atP_le ks _) (bodyK_le s k)
    · exact Nat.zero_le _
/-- The bodies of a row's things. -/
def bodiesR (s : ByteArray) : List ByteArray := (allD s).1.map (·.2)
def serialsR (s : ByteArray) : List Int := (allD s).1.map fun p => (intR p.2).1
/-- Numbers from a place on; behind the first that is none they are 0. -/
def numsGo (s : ByteArray) : Nat → Int → List Int
  | 0, _ => []
  | n + 1, p => if (numAt s p).code = 0 then (numAt s p).n :: numsGo s n (numAt s p).at' else List.replicate (n + 1) 0
end Go.Proofs.YtdehbaafbbjcgaaGreatDoor
namespace Go.Proofs.YtdehbaafbbjcgaaGreatDoor
open Go.RowKit

theorem getR_lies (s : ByteArray) (p : Nat) : ∀ (f i u : Nat), (getR s p f i u).code = 0 → 0 ≤ (getR s p f i u).at' ∧ (getR s p f i u).at' ≤ s.size
  | 0, i, u, h => by simp [getR, NumR.bad] at h
  | f + 1, i, u, h => by
    rw [getR] at h ⊢
    by_cases h1 : s.size ≤ p + i
    · rw [if_pos h1] at h; simp [NumR.bad] at h
    rw [if_neg h1] at h ⊢
    by_cases h2 : i = 9 ∧ 1 < bNu s (p + i)
    · rw [if_pos h2] at h; simp [NumR.bad] at h
    rw [if_neg h2] at h ⊢
    by_cases h3 : bNu s (p + i) < 128
    · rw [if_pos h3] at h ⊢
      by_cases h4 : bNu s (p + i) = 0 ∧ 0 < i
      · rw [if_pos h4] at h; simp [NumR.bad] at h
      rw [if_neg h4]
      simp only
      omega
    · rw [if_neg h3] at h ⊢
      exact getR_lies s p f (i + 1) _ h
theorem numAt_lies {s : ByteArray} {p : Int} (h : (numAt s p).code = 0) : 0 ≤ (numAt s p).at' ∧ (numAt s p).at' ≤ s.size := by
  unfold numAt at h ⊢
  by_cases h1 : 20000 < s.size
  · rw [if_pos h1] at h; simp [NumR.bad] at h
  rw [if_neg h1] at h ⊢
  by_cases h2 : p < 0
  · rw [if_pos h2] at h; simp [NumR.bad] at h
  rw [if_neg h2] at h ⊢
  exact getR_lies s _ _ _ _ h
theorem numsGo_len (s : ByteArray) : ∀ (n : Nat) (p : Int), (numsGo s n p).length = n
  | 0, _ => rfl
  | n + 1, p => by
    rw [numsGo]
    split
    · rw [List.length_cons, numsGo_len s n]
    · simp
/-- So many numbers, one behind the other, as the specification goes. -/
def bitsQ (s : ByteArray) : Nat → Int → List Int
  | 0, _ => []
  | n + 1, p => (numAt s p).n :: bitsQ s n (numAt s p).at'
theorem getR_any (s : ByteArray) (p : Nat) : ∀ (f i u : Nat), 0 ≤ (getR s p f i u).at' ∧ (getR s p f i u).at' ≤ s.size
  | 0, _, _ => ⟨Int.le_refl _, Int.natCast_nonneg _⟩
  | f + 1, i, u => by
    rw [getR]
    split
    · exact ⟨Int.le_refl _, Int.natCast_nonneg _⟩
    split
    · exact ⟨Int.le_refl _, Int.natCast_nonneg _⟩
    split
    · split
      · exact ⟨Int.le_refl _, Int.natCast_nonneg _⟩
      · simp only
        omega
    · exact getR_any s p f (i + 1) _
theorem numAt_any (s : ByteArray) (p : Int) : 0 ≤ (numAt s p).at' ∧ (numAt s p).at' ≤ s.size := by
  unfold numAt
  split
  · exact ⟨Int.le_refl _, Int.natCast_nonneg _⟩
  split
  · exact ⟨Int.le_refl _, Int.natCast_nonneg _⟩
  exact getR_any s _ _ _ _
end Go.Proofs.YtdehbaafbbjcgaaGreatDoor
namespace Go.Proofs.YtdehbaafbbjcgaaGreatDoor
open Go.RowKit Go.Lib

structure Rq where
  key : Int
  nonce : Int
  url : ByteArray
  body : ByteArray
  e : Int
  s : Int
def Rq.zero : Rq := ⟨0, 0, ⟨#[]⟩, ⟨#[]⟩, 0, 0⟩
def Rq.val (j : Rq) : Value := jV j.key j.nonce j.url j.body j.key j.e j.s
/-- The text that GetText tells. -/
def txtA (s : ByteArray) (p : Int) : ByteArray := match textR s (numAt s p) with
  | .agg #[.string t, _, _] => t
  | _ => ⟨#[]⟩
theorem txtA_form (s : ByteArray) (p : Int) : ∃ a c : Int, textR s (numAt s p) = .agg #[.string (txtA s p), .int .i64 a, .int .i64 c] := by
  have h : ∃ (t : ByteArray) (a c : Int), textR s (numAt s p) = outV t a c := by
    unfold textR
    split
    · exact ⟨_, _, _, rfl⟩
    · split
      · exact ⟨_, _, _, rfl⟩
      · split
        · exact ⟨_, _, _, rfl⟩
        · exact ⟨_, _, _, rfl⟩
  obtain ⟨t, a, c, h⟩ := h
  unfold txtA
  rw [h]
  exact ⟨a, c, rfl⟩
def parseJ (head body tail : ByteArray) : Rq :=
  ⟨(numAt head 0).n, (numAt head (numAt head 0).at').n, txtA head (numAt head (numAt head 0).at').at', body, (numAt tail 0).n, (numAt tail (numAt tail 0).at').n⟩
def readJI (s : ByteArray) : Rq := match pcs s with
  | [a, b, c] => parseJ (readTD a).1 (readTD b).1 (readTD c).1
  | _ => .zero
def readJS (s : ByteArray) : Rq := match pcs s with
  | [a, b, c] => parseJ (readLT a).1 (readLT b).1 (readLT c).1
  | _ => .zero
noncomputable def Rq.right (j : Rq) : Bool := rqB j.key j.nonce j.url j.body && sigRB j.key j.e j.s
def Rq.text (j : Rq) : ByteArray := jText j.key j.nonce j.url j.body j.e j.s
theorem right_sizes {j : Rq} (h : j.right = true) : j.url.size ≤ 40 ∧ j.body.size ≤ 2000 := by
  unfold Rq.right rqB at h
  simp only [Bool.and_eq_true] at h
  obtain ⟨⟨_, _, h3, h4⟩, _⟩ := h
  exact ⟨jurl_size h3, of_decide_eq_true h4⟩
theorem readLT_back (s : ByteArray) : (readLT (b64D s)).1 = s := by
  obtain ⟨h1, h2⟩ := read_back s
  unfold readLT
  rw [h1]
  exact h2
theorem same_read {j : Rq} {s : ByteArray} (h : j.right = true) (ht : j.text = s) : readJI s = readJS s := by
  obtain ⟨h1, h2⟩ := right_sizes h
  have hz := jHead_size j.key j.nonce j.url
  have y1 := putS_size j.e
  have y2 := putS_size j.s
  have hq : (putS j.e ++ putS j.s).size ≤ 20 := by rw [ByteArray.size_append]; omega
  have hp : pcs s = [b64D (jHead j.key j.nonce j.url), b64D j.body, b64D (putS j.e ++ putS j.s)] := by
    rw [← ht]
    exact pcs_three (b64D_dot _) (b64D_dot _) (b64D_dot _)
  unfold readJI readJS
  rw [hp]
  simp only
  rw [readTD_back (by omega), readTD_back (by omega), readTD_back (by omega), readLT_back, readLT_back, readLT_back]
noncomputable def jwsTell (j : Rq) (s : ByteArray) : Rq × Int :=
  if j.right = true ∧ j.text = s then (if sigCB j.key j.e j.s (jTwo j.key j.nonce j.url j.body) = true then (j, 0) else (.zero, 6)) else (.zero, 3)
/-- What JwsRead tells. -/
noncomputable def jwsR (s : ByteArray) : Rq × Int := if 20000 < s.size then (.zero, 2) else jwsTell (readJI s) s
theorem jwsR_spec (s : ByteArray) : jwsR s = if 20000 < s.size then (.zero, 2) else jwsTell (readJS s) s := by
  unfold jwsR
  by_cases hl : 20000 < s.size
  · rw [if_pos hl, if_pos hl]
  rw [if_neg hl, if_neg hl]
  by_cases h1 : (readJI s).right = true ∧ (readJI s).text = s
  · rw [same_read h1.1 h1.2]
  · by_cases h2 : (readJS s).right = true ∧ (readJS s).text = s
    · rw [same_read h2.1 h2.2]
    · unfold jwsTell
      rw [if_neg h1, if_neg h2]
def Rq.outV (x : Rq × Int) : Value := .agg #[.int .i64 x.1.key, .int .i64 x.1.nonce, .string x.1.url, .string x.1.body, .int .i64 x.1.key, .int .i64 x.1.e, .int .i64 x.1.s, .int .i64 x.2]
end Go.Proofs.YtdehbaafbbjcgaaGreatDoor
namespace Go.Proofs.YtdehbaafbbjcgaaGreatDoor

theorem timeB_in {n : Int} (h : timeB n = true) : 0 ≤ n ∧ n ≤ 1000000000 := by
  unfold timeB at h
  rw [Bool.and_eq_true] at h
  exact ⟨of_decide_eq_true h.1, of_decide_eq_true h.2⟩
end Go.Proofs.YtdehbaafbbjcgaaGreatDoor
open Go.RowKit Go.Lib
namespace Go.Proofs.YtdehbaafbbjcgaaGreatDoor
theorem three_of {l : List ByteArray} (h : l.length = 3) : ∃ a b c, l = [a, b, c] := by
  match l, h with
  | [a, b, c], _ => exact ⟨a, b, c, rfl⟩
theorem numAt_small (s : ByteArray) (p : Int) (hs : s.size ≤ 40000) : 0 ≤ (numAt s p).at' ∧ (numAt s p).at' ≤ 40000 := by
  have := numAt_any s p
  omega
theorem readLT_size (s : ByteArray) : (readLT s).1.size ≤ 2 * s.size := by
  unfold readLT
  cases h : readV (bts s) with
  | none => exact Nat.zero_le _
  | some vs =>
    have h1 := readV_len _ _ h
    rw [bts_len] at h1
    have h2 := rgi_len vs 0 0
    simp only
    rw [natT_size]
    omega
theorem readTD_size (s : ByteArray) : (readTD s).1.size ≤ 2 * s.size := by
  unfold readTD
  split
  · exact Nat.zero_le _
  cases h : readV (bts s) with
  | none => exact Nat.zero_le _
  | some vs =>
    have h1 := readV_len _ _ h
    rw [bts_len] at h1
    have h2 := rgi_len vs 0 0
    simp only
    split
    · simp only
      rw [natT_size]
      omega
    · exact Nat.zero_le _
theorem txtA_size (s : ByteArray) (p : Int) : (txtA s p).size ≤ s.size := by
  unfold txtA textR
  by_cases h1 : (numAt s p).code ≠ 0
  · rw [if_pos h1]; exact Nat.zero_le _
  rw [if_neg h1]
  by_cases h2 : (numAt s p).n < 0 ∨ 20000 < (numAt s p).n
  · rw [if_pos h2]; exact Nat.zero_le _
  rw [if_neg h2]
  by_cases h3 : (s.size : Int) - (numAt s p).n < (numAt s p).at'
  · rw [if_pos h3]; exact Nat.zero_le _
  rw [if_neg h3]
  show (s.extract _ _).size ≤ _
  rw [ByteArray.size_extract]
  omega
theorem readJS_sizes {s : ByteArray} (h : ¬ 20000 < s.size) : (readJS s).url.size ≤ maxLen ∧ (readJS s).body.size ≤ maxLen := by
  unfold readJS maxLen
  split
  · rename_i a b c e
    have ha : a.size ≤ s.size := pcs_size (by rw [e]; simp)
    have hb : b.size ≤ s.size := pcs_size (by rw [e]; simp)
    have h1 := readLT_size a
    have h2 := readLT_size b
    have h3 := txtA_size (readLT a).1 (numAt (readLT a).1 (numAt (readLT a).1 0).at').at'
    simp only [parseJ]
    omega
  · exact ⟨Nat.zero_le _, Nat.zero_le _⟩
theorem readJI_sizes {s : ByteArray} (h : ¬ 20000 < s.size) : (readJI s).url.size ≤ maxLen ∧ (readJI s).body.size ≤ maxLen := by
  unfold readJI maxLen
  split
  · rename_i a b c e
    have ha : a.size ≤ s.size := pcs_size (by rw [e]; simp)
    have hb : b.size ≤ s.size := pcs_size (by rw [e]; simp)
    have h1 := readTD_size a
    have h2 := readTD_size b
    have h3 := txtA_size (readTD a).1 (numAt (readTD a).1 (numAt (readTD a).1 0).at').at'
    simp only [parseJ]
    omega
  · exact ⟨Nat.zero_le _, Nat.zero_le _⟩
theorem right_in {key nonce : Int} {url body : ByteArray} {se ss : Int} (h : (rqB key nonce url body && sigRB key se ss) = true) :
    (-9223372036854775808 ≤ key ∧ key ≤ 9223372036854775807) ∧ (-9223372036854775808 ≤ nonce ∧ nonce ≤ 9223372036854775807) ∧ url.size ≤ 40 ∧ body.size ≤ 2000 ∧ (-9223372036854775808 ≤ se ∧ se ≤ 9223372036854775807) ∧ (-9223372036854775808 ≤ ss ∧ ss ≤ 9223372036854775807) := by
  unfold rqB at h
  simp only [Bool.and_eq_true, decide_eq_true_eq] at h
  obtain ⟨⟨h1, h2, h3, h4⟩, h5⟩ := h
  have k1 := rightG_lt h1
  have k2 := timeB_in h2
  have k3 := jurl_size h3
  obtain ⟨_, k4, k5⟩ := sigRB_lt h5
  refine ⟨⟨by omega, by omega⟩, ⟨by omega, by omega⟩, k3, h4, ⟨by omega, by omega⟩, by omega, by omega⟩
theorem tell_no {j : Rq} {s : ByteArray} (h : ¬ (j.right = true ∧ j.text = s)) : jwsTell j s = (.zero, 3) := by rw [jwsTell, if_neg h]
theorem tell_sig {j : Rq} {s : ByteArray} (h : j.right = true ∧ j.text = s) (h2 : sigCB j.key j.e j.s (jTwo j.key j.nonce j.url j.body) = false) : jwsTell j s = (.zero, 6) := by
  rw [jwsTell, if_pos h, if_neg]
  rw [h2]; decide
theorem tell_all {j : Rq} {s : ByteArray} (h : j.right = true ∧ j.text = s) (h2 : sigCB j.key j.e j.s (jTwo j.key j.nonce j.url j.body) = true) : jwsTell j s = (j, 0) := by
  rw [jwsTell, if_pos h, if_pos h2]
end Go.Proofs.YtdehbaafbbjcgaaGreatDoor
