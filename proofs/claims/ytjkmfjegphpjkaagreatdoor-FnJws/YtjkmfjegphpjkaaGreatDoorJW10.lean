/- What is read of rows of things: bodies within bodies, names, serials, numbers; and that it is what was written. Plain mathematics: no program is named here. Numbers that are read one behind the other. Plain mathematics: no program is named here. What is read of a request. Plain. A time lies within bounds. Plain. What a right request's parts lie between. Plain. Plain mathematics: a text that fits in comes back from its bytes; one that ends too early is short. What was laid of a request comes back. Plain. spec.l09Head, l09Text, walked. What the program's table of types says of int64. The numbers of the rounds, walked: spec.l02Keys. -/
import Derived.Test.YtjkmfjegphpjkaaGreatDoorJW09
import Derived.Test.YtjkmfjegphpjkaaGreatDoorJW07
import Derived.Test.YtjkmfjegphpjkaaGreatDoorJW06
import Derived.Test.YtjkmfjegphpjkaaGreatDoorJW03
import Derived.Test.YtjkmfjegphpjkaaGreatDoorJW05
import Derived.Test.YtjkmfjegphpjkaaGreatDoorJW02
import Derived.Deep.Cut
import Derived.Deep.RegionHeld3
import Derived.Test.YtjkmfjegphpjkaaGreatDoorJW01
import Derived.Test.YtjkmfjegphpjkaaGreatDoorJW04
namespace Go.Proofs.YtjkmfjegphpjkaaGreatDoor
open Go.RowKit

/-- Things, one behind the other. -/
def catT : List (Nat × ByteArray) → ByteArray
  | [] => ⟨#[]⟩
  | p :: r => thingD (p.1 : Int) p.2 ++ catT r
def asI (l : List (Nat × ByteArray)) : List (Int × ByteArray) := l.map fun p => ((p.1 : Int), p.2)
theorem catT_len : ∀ l : List (Nat × ByteArray), 2 * l.length ≤ (catT l).size
  | [] => Nat.zero_le _
  | p :: r => by
    have h := catT_len r
    have h2 := thingD_size (p.1 : Int) p.2
    have h3 := lenD_one p.2.size
    rw [catT, ByteArray.size_append, List.length_cons]
    omega
theorem allR_cat : ∀ (l : List (Nat × ByteArray)) (p : ByteArray) (f : Nat) (acc : List (Int × ByteArray)), (∀ q ∈ l, tagB (q.1 : Int) = true ∧ q.2.size ≤ 4000) → l.length ≤ f → acc.length + l.length ≤ 60 →
    allR (p ++ catT l) f p.size acc = (acc ++ asI l, 0)
  | [], p, f, acc, _, _, _ => by
    rw [allR_end (by rw [ByteArray.size_append]; show p.size + 0 ≤ _; omega)]
    simp [asI]
  | q :: r, p, f, acc, hq, hf, ha => by
    obtain ⟨t, b⟩ := q
    obtain ⟨h1, h2⟩ := hq _ (List.mem_cons_self ..)
    simp only at h1 h2
    obtain ⟨g, rfl⟩ : ∃ g, f = g + 1 := ⟨f - 1, by simp at hf; omega⟩
    have hs := thingD_size (t : Int) b
    have e : p ++ catT ((t, b) :: r) = p ++ thingD (t : Int) b ++ catT r := by rw [catT, ByteArray.append_assoc]
    have hg := get_back p (catT r) h1 h2
    rw [e]
    rw [allR_more (by rw [ByteArray.size_append, ByteArray.size_append]; omega) (by rw [hg]) (by simp at ha; omega), hg]
    simp only [Int.toNat_natCast]
    rw [show p.size + (thingD (t : Int) b).size = (p ++ thingD (t : Int) b).size from ByteArray.size_append.symm]
    rw [allR_cat r (p ++ thingD (t : Int) b) g _ (fun q hq' => hq q (List.mem_cons_of_mem _ hq')) (by simp at hf; omega) (by simp at ha ⊢; omega)]
    simp [asI]
theorem allR_all {l : List (Nat × ByteArray)} (hq : ∀ q ∈ l, tagB (q.1 : Int) = true ∧ q.2.size ≤ 4000) (hl : l.length ≤ 60) : allR (catT l) ((catT l).size + 1) 0 [] = (asI l, 0) := by
  have h := allR_cat l ByteArray.empty ((catT l).size + 1) [] hq (by have := catT_len l; omega) (by simpa using hl)
  rw [ByteArray.empty_append] at h
  simpa using h
theorem allD_cat {l : List (Nat × ByteArray)} (hq : ∀ q ∈ l, tagB (q.1 : Int) = true ∧ q.2.size ≤ 4000) (hl : l.length ≤ 60) (hs : (catT l).size ≤ 20000) : allD (catT l) = (asI l, 0) := by
  unfold allD
  rw [if_neg (by omega)]
  exact allR_all hq hl
/-- The body of thing number k of a row: the empty text, if there is none. -/
def bodyK (s : ByteArray) (k : Nat) : ByteArray := (((allD s).1[k]?).map (·.2)).getD ⟨#[]⟩
/-- .. and so on, one within the other. -/
def atP (s : ByteArray) : List Nat → ByteArray
  | [] => s
  | k :: ks => if k < (allD s).1.length then atP (bodyK s k) ks else ⟨#[]⟩
theorem allR_body (s : ByteArray) : ∀ (f k : Nat) (acc : List (Int × ByteArray)), (∀ q ∈ acc, q.2.size ≤ s.size) → ∀ q ∈ (allR s f k acc).1, q.2.size ≤ s.size
  | 0, _, acc, h => h
  | f + 1, k, acc, h => by
    rw [allR]
    split
    · exact h
    · split
      · simp
      · split
        · simp
        · refine allR_body s f _ _ (fun q hq => ?_)
          rcases List.mem_append.1 hq with hq | hq
          · exact h q hq
          · obtain rfl := List.mem_singleton.1 hq
            rename_i hc _ _
            obtain ⟨n, _, h2, _, h4, _⟩ := getAt_form (s := s) (k := k) (by simpa using hc)
            rw [h4]
            show (s.extract _ _).size ≤ _
            rw [ByteArray.size_extract]
            omega
theorem allD_body (s : ByteArray) : ∀ q ∈ (allD s).1, q.2.size ≤ s.size := by
  unfold allD
  split
  · simp
  · exact allR_body s _ _ _ (by simp)
theorem bodyK_le (s : ByteArray) (k : Nat) : (bodyK s k).size ≤ s.size := by
  unfold bodyK
  cases h : (allD s).1[k]? with
  | none => exact Nat.zero_le _
  | some q => exact allD_body s q (List.mem_of_getElem? h)
theorem atP_le : ∀ (ks : List Nat) (s : ByteArray), (atP s ks).size ≤ s.size
  | [], s => Nat.le_refl _
  | k :: ks, s => by
    rw [atP]
    split
    · exact Nat.le_trans (atP_le ks _) (bodyK_le s k)
    · exact Nat.zero_le _
/-- The bodies of a row's things. -/
def bodiesR (s : ByteArray) : List ByteArray := (allD s).1.map (·.2)
def serialsR (s : ByteArray) : List Int := (allD s).1.map fun p => (intR p.2).1
/-- Numbers from a place on; behind the first that is none they are 0. -/
def numsGo (s : ByteArray) : Nat → Int → List Int
  | 0, _ => []
  | n + 1, p => if (numAt s p).code = 0 then (numAt s p).n :: numsGo s n (numAt s p).at' else List.replicate (n + 1) 0
end Go.Proofs.YtjkmfjegphpjkaaGreatDoor
namespace Go.Proofs.YtjkmfjegphpjkaaGreatDoor
open Go.RowKit

theorem getR_lies (s : ByteArray) (p : Nat) : ∀ (f i u : Nat), (getR s p f i u).code = 0 → 0 ≤ (getR s p f i u).at' ∧ (getR s p f i u).at' ≤ s.size
  | 0, i, u, h => by simp [getR, NumR.bad] at h
  | f + 1, i, u, h => by
    rw [getR] at h ⊢
    by_cases h1 : s.size ≤ p + i
    · rw [if_pos h1] at h; simp [NumR.bad] at h
    rw [if_neg h1] at h ⊢
    by_cases h2 : i = 9 ∧ 1 < bNu s (p + i)
    · rw [if_pos h2] at h; simp [NumR.bad] at h
    rw [if_neg h2] at h ⊢
    by_cases h3 : bNu s (p + i) < 128
    · rw [if_pos h3] at h ⊢
      by_cases h4 : bNu s (p + i) = 0 ∧ 0 < i
      · rw [if_pos h4] at h; simp [NumR.bad] at h
      rw [if_neg h4]
      simp only
      omega
    · rw [if_neg h3] at h ⊢
      exact getR_lies s p f (i + 1) _ h
theorem numAt_lies {s : ByteArray} {p : Int} (h : (numAt s p).code = 0) : 0 ≤ (numAt s p).at' ∧ (numAt s p).at' ≤ s.size := by
  unfold numAt at h ⊢
  by_cases h1 : 20000 < s.size
  · rw [if_pos h1] at h; simp [NumR.bad] at h
  rw [if_neg h1] at h ⊢
  by_cases h2 : p < 0
  · rw [if_pos h2] at h; simp [NumR.bad] at h
  rw [if_neg h2] at h ⊢
  exact getR_lies s _ _ _ _ h
theorem numsGo_len (s : ByteArray) : ∀ (n : Nat) (p : Int), (numsGo s n p).length = n
  | 0, _ => rfl
  | n + 1, p => by
    rw [numsGo]
    split
    · rw [List.length_cons, numsGo_len s n]
    · simp
/-- So many numbers, one behind the other, as the specification goes. -/
def bitsQ (s : ByteArray) : Nat → Int → List Int
  | 0, _ => []
  | n + 1, p => (numAt s p).n :: bitsQ s n (numAt s p).at'
theorem getR_any (s : ByteArray) (p : Nat) : ∀ (f i u : Nat), 0 ≤ (getR s p f i u).at' ∧ (getR s p f i u).at' ≤ s.size
  | 0, _, _ => ⟨Int.le_refl _, Int.natCast_nonneg _⟩
  | f + 1, i, u => by
    rw [getR]
    split
    · exact ⟨Int.le_refl _, Int.natCast_nonneg _⟩
    split
    · exact ⟨Int.le_refl _, Int.natCast_nonneg _⟩
    split
    · split
      · exact ⟨Int.le_refl _, Int.natCast_nonneg _⟩
      · simp only
        omega
    · exact getR_any s p f (i + 1) _
theorem numAt_any (s : ByteArray) (p : Int) : 0 ≤ (numAt s p).at' ∧ (numAt s p).at' ≤ s.size := by
  unfold numAt
  split
  · exact ⟨Int.le_refl _, Int.natCast_nonneg _⟩
  split
  · exact ⟨Int.le_refl _, Int.natCast_nonneg _⟩
  exact getR_any s _ _ _ _
end Go.Proofs.YtjkmfjegphpjkaaGreatDoor
namespace Go.Proofs.YtjkmfjegphpjkaaGreatDoor
open Go.RowKit Go.Lib

structure Rq where
  key : Int
  nonce : Int
  url : ByteArray
  body : ByteArray
  e : Int
  s : Int
def Rq.zero : Rq := ⟨0, 0, ⟨#[]⟩, ⟨#[]⟩, 0, 0⟩
def Rq.val (j : Rq) : Value := jV j.key j.nonce j.url j.body j.key j.e j.s
/-- The text that GetText tells. -/
def txtA (s : ByteArray) (p : Int) : ByteArray := match textR s (numAt s p) with
  | .agg #[.string t, _, _] => t
  | _ => ⟨#[]⟩
theorem txtA_form (s : ByteArray) (p : Int) : ∃ a c : Int, textR s (numAt s p) = .agg #[.string (txtA s p), .int .i64 a, .int .i64 c] := by
  have h : ∃ (t : ByteArray) (a c : Int), textR s (numAt s p) = outV t a c := by
    unfold textR
    split
    · exact ⟨_, _, _, rfl⟩
    · split
      · exact ⟨_, _, _, rfl⟩
      · split
        · exact ⟨_, _, _, rfl⟩
        · exact ⟨_, _, _, rfl⟩
  obtain ⟨t, a, c, h⟩ := h
  unfold txtA
  rw [h]
  exact ⟨a, c, rfl⟩
def parseJ (head body tail : ByteArray) : Rq :=
  ⟨(numAt head 0).n, (numAt head (numAt head 0).at').n, txtA head (numAt head (numAt head 0).at').at', body, (numAt tail 0).n, (numAt tail (numAt tail 0).at').n⟩
def readJI (s : ByteArray) : Rq := match pcs s with
  | [a, b, c] => parseJ (readTD a).1 (readTD b).1 (readTD c).1
  | _ => .zero
def readJS (s : ByteArray) : Rq := match pcs s with
  | [a, b, c] => parseJ (readLT a).1 (readLT b).1 (readLT c).1
  | _ => .zero
noncomputable def Rq.right (j : Rq) : Bool := rqB j.key j.nonce j.url j.body && sigRB j.key j.e j.s
def Rq.text (j : Rq) : ByteArray := jText j.key j.nonce j.url j.body j.e j.s
theorem right_sizes {j : Rq} (h : j.right = true) : j.url.size ≤ 40 ∧ j.body.size ≤ 2000 := by
  unfold Rq.right rqB at h
  simp only [Bool.and_eq_true] at h
  obtain ⟨⟨_, _, h3, h4⟩, _⟩ := h
  exact ⟨jurl_size h3, of_decide_eq_true h4⟩
theorem readLT_back (s : ByteArray) : (readLT (b64D s)).1 = s := by
  obtain ⟨h1, h2⟩ := read_back s
  unfold readLT
  rw [h1]
  exact h2
theorem same_read {j : Rq} {s : ByteArray} (h : j.right = true) (ht : j.text = s) : readJI s = readJS s := by
  obtain ⟨h1, h2⟩ := right_sizes h
  have hz := jHead_size j.key j.nonce j.url
  have y1 := putS_size j.e
  have y2 := putS_size j.s
  have hq : (putS j.e ++ putS j.s).size ≤ 20 := by rw [ByteArray.size_append]; omega
  have hp : pcs s = [b64D (jHead j.key j.nonce j.url), b64D j.body, b64D (putS j.e ++ putS j.s)] := by
    rw [← ht]
    exact pcs_three (b64D_dot _) (b64D_dot _) (b64D_dot _)
  unfold readJI readJS
  rw [hp]
  simp only
  rw [readTD_back (by omega), readTD_back (by omega), readTD_back (by omega), readLT_back, readLT_back, readLT_back]
noncomputable def jwsTell (j : Rq) (s : ByteArray) : Rq × Int :=
  if j.right = true ∧ j.text = s then (if sigCB j.key j.e j.s (jTwo j.key j.nonce j.url j.body) = true then (j, 0) else (.zero, 6)) else (.zero, 3)
/-- What JwsRead tells. -/
noncomputable def jwsR (s : ByteArray) : Rq × Int := if 20000 < s.size then (.zero, 2) else jwsTell (readJI s) s
theorem jwsR_spec (s : ByteArray) : jwsR s = if 20000 < s.size then (.zero, 2) else jwsTell (readJS s) s := by
  unfold jwsR
  by_cases hl : 20000 < s.size
  · rw [if_pos hl, if_pos hl]
  rw [if_neg hl, if_neg hl]
  by_cases h1 : (readJI s).right = true ∧ (readJI s).text = s
  · rw [same_read h1.1 h1.2]
  · by_cases h2 : (readJS s).right = true ∧ (readJS s).text = s
    · rw [same_read h2.1 h2.2]
    · unfold jwsTell
      rw [if_neg h1, if_neg h2]
def Rq.outV (x : Rq × Int) : Value := .agg #[.int .i64 x.1.key, .int .i64 x.1.nonce, .string x.1.url, .string x.1.body, .int .i64 x.1.key, .int .i64 x.1.e, .int .i64 x.1.s, .int .i64 x.2]
end Go.Proofs.YtjkmfjegphpjkaaGreatDoor
namespace Go.Proofs.YtjkmfjegphpjkaaGreatDoor

theorem timeB_in {n : Int} (h : timeB n = true) : 0 ≤ n ∧ n ≤ 1000000000 := by
  unfold timeB at h
  rw [Bool.and_eq_true] at h
  exact ⟨of_decide_eq_true h.1, of_decide_eq_true h.2⟩
end Go.Proofs.YtjkmfjegphpjkaaGreatDoor
open Go.RowKit Go.Lib
namespace Go.Proofs.YtjkmfjegphpjkaaGreatDoor
theorem three_of {l : List ByteArray} (h : l.length = 3) : ∃ a b c, l = [a, b, c] := by
  match l, h with
  | [a, b, c], _ => exact ⟨a, b, c, rfl⟩
theorem numAt_small (s : ByteArray) (p : Int) (hs : s.size ≤ 40000) : 0 ≤ (numAt s p).at' ∧ (numAt s p).at' ≤ 40000 := by
  have := numAt_any s p
  omega
theorem readLT_size (s : ByteArray) : (readLT s).1.size ≤ 2 * s.size := by
  unfold readLT
  cases h : readV (bts s) with
  | none => exact Nat.zero_le _
  | some vs =>
    have h1 := readV_len _ _ h
    rw [bts_len] at h1
    have h2 := rgi_len vs 0 0
    simp only
    rw [natT_size]
    omega
theorem readTD_size (s : ByteArray) : (readTD s).1.size ≤ 2 * s.size := by
  unfold readTD
  split
  · exact Nat.zero_le _
  cases h : readV (bts s) with
  | none => exact Nat.zero_le _
  | some vs =>
    have h1 := readV_len _ _ h
    rw [bts_len] at h1
    have h2 := rgi_len vs 0 0
    simp only
    split
    · simp only
      rw [natT_size]
      omega
    · exact Nat.zero_le _
theorem txtA_size (s : ByteArray) (p : Int) : (txtA s p).size ≤ s.size := by
  unfold txtA textR
  by_cases h1 : (numAt s p).code ≠ 0
  · rw [if_pos h1]; exact Nat.zero_le _
  rw [if_neg h1]
  by_cases h2 : (numAt s p).n < 0 ∨ 20000 < (numAt s p).n
  · rw [if_pos h2]; exact Nat.zero_le _
  rw [if_neg h2]
  by_cases h3 : (s.size : Int) - (numAt s p).n < (numAt s p).at'
  · rw [if_pos h3]; exact Nat.zero_le _
  rw [if_neg h3]
  show (s.extract _ _).size ≤ _
  rw [ByteArray.size_extract]
  omega
theorem readJS_sizes {s : ByteArray} (h : ¬ 20000 < s.size) : (readJS s).url.size ≤ maxLen ∧ (readJS s).body.size ≤ maxLen := by
  unfold readJS maxLen
  split
  · rename_i a b c e
    have ha : a.size ≤ s.size := pcs_size (by rw [e]; simp)
    have hb : b.size ≤ s.size := pcs_size (by rw [e]; simp)
    have h1 := readLT_size a
    have h2 := readLT_size b
    have h3 := txtA_size (readLT a).1 (numAt (readLT a).1 (numAt (readLT a).1 0).at').at'
    simp only [parseJ]
    omega
  · exact ⟨Nat.zero_le _, Nat.zero_le _⟩
theorem readJI_sizes {s : ByteArray} (h : ¬ 20000 < s.size) : (readJI s).url.size ≤ maxLen ∧ (readJI s).body.size ≤ maxLen := by
  unfold readJI maxLen
  split
  · rename_i a b c e
    have ha : a.size ≤ s.size := pcs_size (by rw [e]; simp)
    have hb : b.size ≤ s.size := pcs_size (by rw [e]; simp)
    have h1 := readTD_size a
    have h2 := readTD_size b
    have h3 := txtA_size (readTD a).1 (numAt (readTD a).1 (numAt (readTD a).1 0).at').at'
    simp only [parseJ]
    omega
  · exact ⟨Nat.zero_le _, Nat.zero_le _⟩
theorem right_in {key nonce : Int} {url body : ByteArray} {se ss : Int} (h : (rqB key nonce url body && sigRB key se ss) = true) :
    (-9223372036854775808 ≤ key ∧ key ≤ 9223372036854775807) ∧ (-9223372036854775808 ≤ nonce ∧ nonce ≤ 9223372036854775807) ∧ url.size ≤ 40 ∧ body.size ≤ 2000 ∧ (-9223372036854775808 ≤ se ∧ se ≤ 9223372036854775807) ∧ (-9223372036854775808 ≤ ss ∧ ss ≤ 9223372036854775807) := by
  unfold rqB at h
  simp only [Bool.and_eq_true, decide_eq_true_eq] at h
  obtain ⟨⟨h1, h2, h3, h4⟩, h5⟩ := h
  have k1 := rightG_lt h1
  have k2 := timeB_in h2
  have k3 := jurl_size h3
  obtain ⟨_, k4, k5⟩ := sigRB_lt h5
  refine ⟨⟨by omega, by omega⟩, ⟨by omega, by omega⟩, k3, h4, ⟨by omega, by omega⟩, by omega, by omega⟩
theorem tell_no {j : Rq} {s : ByteArray} (h : ¬ (j.right = true ∧ j.text = s)) : jwsTell j s = (.zero, 3) := by rw [jwsTell, if_neg h]
theorem tell_sig {j : Rq} {s : ByteArray} (h : j.right = true ∧ j.text = s) (h2 : sigCB j.key j.e j.s (jTwo j.key j.nonce j.url j.body) = false) : jwsTell j s = (.zero, 6) := by
  rw [jwsTell, if_pos h, if_neg]
  rw [h2]; decide
theorem tell_all {j : Rq} {s : ByteArray} (h : j.right = true ∧ j.text = s) (h2 : sigCB j.key j.e j.s (jTwo j.key j.nonce j.url j.body) = true) : jwsTell j s = (j, 0) := by
  rw [jwsTell, if_pos h, if_pos h2]
end Go.Proofs.YtjkmfjegphpjkaaGreatDoor
namespace Go.Proofs.YtjkmfjegphpjkaaGreatDoor
open Go.RowKit Go.Lib

theorem ext_right (a b : ByteArray) : (a ++ b).extract a.size (a.size + b.size) = b := by
  have e : a.extract a.size (a.size + b.size) = ByteArray.empty := by simp
  rw [ByteArray.extract_append, e]
  simp
theorem ext_all (a : ByteArray) (n : Nat) (h : a.size ≤ n) : a.extract 0 n = a := by
  apply ByteArray.ext
  rw [ByteArray.data_extract]
  exact Array.extract_eq_self_of_le (show a.data.size ≤ n from h)
theorem ext_left (a b : ByteArray) (k : Nat) : (a ++ b).extract 0 (a.size + k) = a ++ b.extract 0 k := by
  rw [ByteArray.extract_append, ext_all a _ (by omega)]
  simp
theorem str_pos (f x : Nat) : 0 < (strOfNums (putF f x)).size := by
  have := putF_pos f x
  have e : (strOfNums (putF f x)).size = (putF f x).length := by simp [strOfNums, ByteArray.size]
  omega
theorem text_back (u x1 : ByteArray) (hu : u.size ≤ 20000) (hs : (x1 ++ (strOfNums (putF 9 (foldI u.size)) ++ u)).size ≤ 20000) :
    textR (x1 ++ (strOfNums (putF 9 (foldI u.size)) ++ u)) (numAt (x1 ++ (strOfNums (putF 9 (foldI u.size)) ++ u)) (x1.size : Int)) =
      outV u ((x1.size + (strOfNums (putF 9 (foldI u.size)) ++ u).size : Nat) : Int) 0 := by
  have hb := num_back (u.size : Int) (by omega) (by omega) x1 u
  generalize strOfNums (putF 9 (foldI u.size)) = T at *
  have ha : x1 ++ (T ++ u) = x1 ++ T ++ u := by rw [ByteArray.append_assoc]
  have hn : numAt (x1 ++ (T ++ u)) (x1.size : Int) = ⟨(u.size : Int), ((x1.size + T.size : Nat) : Int), 0⟩ := by
    unfold numAt
    rw [if_neg (by omega), if_neg (by omega), Int.toNat_natCast, ha]
    exact hb
  have hsz : (x1 ++ (T ++ u)).size = x1.size + T.size + u.size := by rw [ByteArray.size_append, ByteArray.size_append]; omega
  rw [hn]
  unfold textR
  rw [if_neg (by simp), if_neg (by simp only; omega), if_neg (by simp only; omega)]
  simp only
  have e1 : ((x1.size + T.size : Nat) : Int).toNat = (x1 ++ T).size := by rw [Int.toNat_natCast, ByteArray.size_append]
  have e2 : (((x1.size + T.size : Nat) : Int) + (u.size : Int)).toNat = (x1 ++ T).size + u.size := by rw [ByteArray.size_append]; omega
  rw [e1, e2, ha, ext_right]
  congr 1
  rw [ByteArray.size_append]
  omega
theorem text_short (u : ByteArray) (hu : u.size ≤ 20000) (hs : (strOfNums (putF 9 (foldI u.size)) ++ u).size ≤ 20000) :
    textR ((strOfNums (putF 9 (foldI u.size)) ++ u).extract 0 ((strOfNums (putF 9 (foldI u.size)) ++ u).size - 1))
      (numAt ((strOfNums (putF 9 (foldI u.size)) ++ u).extract 0 ((strOfNums (putF 9 (foldI u.size)) ++ u).size - 1)) 0) = outV ByteArray.empty 0 4 := by
  have hb := num_back (u.size : Int) (by omega) (by omega) ByteArray.empty (u.extract 0 (u.size - 1))
  have hsh := num_short (u.size : Int) (by omega) (by omega)
  have hpos := str_pos 9 (foldI u.size)
  generalize strOfNums (putF 9 (foldI u.size)) = T at *
  by_cases h0 : u.size = 0
  · have hu0 : u = ByteArray.empty := by simpa using h0
    subst hu0
    have e : T ++ ByteArray.empty = T := by simp
    rw [e] at hs ⊢
    have hn : numAt (T.extract 0 (T.size - 1)) 0 = .bad 4 := by
      unfold numAt
      rw [if_neg (by rw [ByteArray.size_extract]; omega), if_neg (by omega)]
      exact hsh
    rw [hn]
    rfl
  · have hsz : (T ++ u).size = T.size + u.size := ByteArray.size_append
    have e : (T ++ u).extract 0 ((T ++ u).size - 1) = T ++ u.extract 0 (u.size - 1) := by
      rw [hsz, show T.size + u.size - 1 = T.size + (u.size - 1) from by omega, ext_left]
    rw [e]
    have hq : (T ++ u.extract 0 (u.size - 1)).size = T.size + (u.size - 1) := by rw [ByteArray.size_append, ByteArray.size_extract]; omega
    have hn : numAt (T ++ u.extract 0 (u.size - 1)) 0 = ⟨(u.size : Int), (T.size : Int), 0⟩ := by
      unfold numAt
      rw [if_neg (by omega), if_neg (by omega)]
      simpa using hb
    rw [hn]
    unfold textR
    rw [if_neg (by simp), if_neg (by simp only; omega), if_pos (by simp only; omega)]
end Go.Proofs.YtjkmfjegphpjkaaGreatDoor
namespace Go.Proofs.YtjkmfjegphpjkaaGreatDoor
open Go.RowKit Go.Lib

theorem numJ_back {n : Int} (h0 : -9223372036854775808 ≤ n) (h1 : n ≤ 9223372036854775807) (a b : ByteArray) (hs : (a ++ putS n ++ b).size ≤ 20000) :
    numAt (a ++ putS n ++ b) (a.size : Int) = ⟨n, ((a ++ putS n).size : Int), 0⟩ := by
  unfold numAt
  rw [if_neg (by omega), if_neg (by omega), Int.toNat_natCast]
  have h := num_back n h0 h1 a b
  unfold putS
  rw [h, ByteArray.size_append]
theorem numJ_first {n : Int} (h0 : -9223372036854775808 ≤ n) (h1 : n ≤ 9223372036854775807) (b : ByteArray) (hs : (putS n ++ b).size ≤ 20000) :
    numAt (putS n ++ b) 0 = ⟨n, ((putS n).size : Int), 0⟩ := by
  have e : (⟨#[]⟩ : ByteArray) ++ putS n = putS n := ByteArray.empty_append
  have h := numJ_back h0 h1 ⟨#[]⟩ b (by rw [e]; exact hs)
  rw [e] at h
  exact h
theorem txtJ_back (a t : ByteArray) (ht : t.size ≤ 20000) (hs : (a ++ putTx t).size ≤ 20000) : txtA (a ++ putTx t) (a.size : Int) = t := by
  unfold putTx at *
  have h := text_back t a ht hs
  unfold txtA
  rw [h]
  rfl
theorem parse_back {key nonce e s : Int} {url : ByteArray} (body : ByteArray) (hk : -9223372036854775808 ≤ key ∧ key ≤ 9223372036854775807) (hn : -9223372036854775808 ≤ nonce ∧ nonce ≤ 9223372036854775807) (he : -9223372036854775808 ≤ e ∧ e ≤ 9223372036854775807) (hs : -9223372036854775808 ≤ s ∧ s ≤ 9223372036854775807) (hu : url.size ≤ 4000) :
    parseJ (jHead key nonce url) body (putS e ++ putS s) = ⟨key, nonce, url, body, e, s⟩ := by
  have z1 := putS_size key
  have z2 := putS_size nonce
  have z3 := putTx_size url
  have z4 := putS_size e
  have z5 := putS_size s
  have a1 : numAt (jHead key nonce url) 0 = ⟨key, ((putS key).size : Int), 0⟩ := by
    unfold jHead
    rw [ByteArray.append_assoc]
    exact numJ_first hk.1 hk.2 _ (by rw [ByteArray.size_append, ByteArray.size_append]; omega)
  have a2 : numAt (jHead key nonce url) ((putS key).size : Int) = ⟨nonce, ((putS key ++ putS nonce).size : Int), 0⟩ := by
    unfold jHead
    exact numJ_back hn.1 hn.2 _ _ (by rw [ByteArray.size_append, ByteArray.size_append]; omega)
  have a3 : txtA (jHead key nonce url) ((putS key ++ putS nonce).size : Int) = url := by
    unfold jHead
    exact txtJ_back _ _ (by omega) (by rw [ByteArray.size_append, ByteArray.size_append]; omega)
  have b1 : numAt (putS e ++ putS s) 0 = ⟨e, ((putS e).size : Int), 0⟩ := numJ_first he.1 he.2 _ (by rw [ByteArray.size_append]; omega)
  have b2 : numAt (putS e ++ putS s) ((putS e).size : Int) = ⟨s, ((putS e ++ putS s).size : Int), 0⟩ := by
    have en : putS e ++ putS s ++ (⟨#[]⟩ : ByteArray) = putS e ++ putS s := ByteArray.append_empty
    have h := numJ_back hs.1 hs.2 (putS e) ⟨#[]⟩ (by rw [en, ByteArray.size_append]; omega)
    rw [en] at h
    exact h
  unfold parseJ
  rw [a1]
  simp only
  rw [a2]
  simp only
  rw [a3, b1]
  simp only
  rw [b2]
theorem pcs_text (key nonce : Int) (url body : ByteArray) (e s : Int) : pcs (jText key nonce url body e s) = [b64D (jHead key nonce url), b64D body, b64D (putS e ++ putS s)] :=
  pcs_three (b64D_dot _) (b64D_dot _) (b64D_dot _)
theorem readJS_back {key nonce e s : Int} {url : ByteArray} (body : ByteArray) (hk : -9223372036854775808 ≤ key ∧ key ≤ 9223372036854775807) (hn : -9223372036854775808 ≤ nonce ∧ nonce ≤ 9223372036854775807) (he : -9223372036854775808 ≤ e ∧ e ≤ 9223372036854775807) (hs : -9223372036854775808 ≤ s ∧ s ≤ 9223372036854775807) (hu : url.size ≤ 4000) :
    readJS (jText key nonce url body e s) = ⟨key, nonce, url, body, e, s⟩ := by
  unfold readJS
  rw [pcs_text]
  simp only
  rw [readLT_back, readLT_back, readLT_back]
  exact parse_back body hk hn he hs hu
theorem jText_size (key nonce : Int) (url body : ByteArray) (e s : Int) : 0 < (jText key nonce url body e s).size ∧ (jText key nonce url body e s).size ≤ 102 + 2 * url.size + 2 * body.size := by
  have h1 := jTwo_size key nonce url body
  have h2 := b64D_size (putS e ++ putS s)
  have h3 := putS_size e
  have h4 := putS_size s
  have h5 : dotD.size = 1 := rfl
  rw [ByteArray.size_append] at h2
  unfold jText
  rw [ByteArray.size_append, ByteArray.size_append, h5]
  omega
/-- What a right request that is signed tells, when it is read. -/
theorem jwsR_back {j : Rq} (h : j.right = true) (hc : sigCB j.key j.e j.s (jTwo j.key j.nonce j.url j.body) = true) : jwsR j.text = (j, 0) := by
  obtain ⟨hk, hn, hu, hb, he, hs⟩ := right_in (by unfold Rq.right at h; exact h)
  have hz := (jText_size j.key j.nonce j.url j.body j.e j.s).2
  have e : readJS j.text = j := readJS_back j.body hk hn he hs (by omega)
  rw [jwsR_spec, if_neg (by unfold Rq.text; omega), e]
  exact tell_all ⟨h, rfl⟩ hc
/-- What JwsSign tells, is read as what was asked for, or is nothing. -/
theorem jSign_read (x nonce : Int) (url body : ByteArray) :
    jSign x nonce url body = ⟨#[]⟩ ∨ ∃ e s : Int, 0 < (jSign x nonce url body).size ∧ (jSign x nonce url body).size ≤ 5000 ∧ jwsR (jSign x nonce url body) = (⟨pubA x, nonce, url, body, e, s⟩, 0) ∧ jSign x nonce url body = jText (pubA x) nonce url body e s ∧ url.size ≤ 40 ∧ body.size ≤ 2000 ∧ (-9223372036854775808 ≤ pubA x ∧ pubA x ≤ 9223372036854775807) ∧ (-9223372036854775808 ≤ e ∧ e ≤ 9223372036854775807) ∧ (-9223372036854775808 ≤ s ∧ s ≤ 9223372036854775807) := by
  by_cases h : secB x = true ∧ timeB nonce = true ∧ nameB url = true ∧ body.size ≤ 2000
  · right
    obtain ⟨h1, h2, h3, h4⟩ := h
    have hu := jurl_size h3
    obtain ⟨n, rfl, n1, n2⟩ := secB_nat h1
    have hp : pubA (n : Int) = _ := pubA_nat n h1
    have ht : (jTwo (pubA (n : Int)) nonce url body).size ≤ 20000 := by have := jTwo_size (pubA (n : Int)) nonce url body; omega
    have hs := sign_passes n1 n2 ht
    rw [← hp] at hs
    have e : jSign (n : Int) nonce url body = jText (pubA (n : Int)) nonce url body (signE n (jTwo (pubA (n : Int)) nonce url body)) (signS n (jTwo (pubA (n : Int)) nonce url body)) := by
      unfold jSign
      rw [if_pos ⟨h1, h2, h3, h4⟩, Int.toNat_natCast]
    have hg : rightG (pubA (n : Int)) = true := by rw [hp]; exact pub_right n1 n2
    have hr : (rqB (pubA (n : Int)) nonce url body && sigRB (pubA (n : Int)) (signE n (jTwo (pubA (n : Int)) nonce url body)) (signS n (jTwo (pubA (n : Int)) nonce url body))) = true := by
      rw [hs.1, Bool.and_true]
      unfold rqB
      rw [hg, h2, h3, decide_eq_true h4]
      rfl
    have hz := jText_size (pubA (n : Int)) nonce url body (signE n (jTwo (pubA (n : Int)) nonce url body)) (signS n (jTwo (pubA (n : Int)) nonce url body))
    have hb := jwsR_back (j := ⟨pubA (n : Int), nonce, url, body, signE n (jTwo (pubA (n : Int)) nonce url body), signS n (jTwo (pubA (n : Int)) nonce url body)⟩) hr hs.2
    obtain ⟨k1, _, _, _, k5, k6⟩ := right_in hr
    rw [e]
    exact ⟨_, _, hz.1, by omega, hb, rfl, hu, h4, k1, k5, k6⟩
  · left
    unfold jSign
    rw [if_neg h]
/-- What Base64 tells is read as the text, or is nothing. -/
theorem base64_back (t : ByteArray) : (base64D t).size = 0 ∨ readTD (base64D t) = (t, 0) := by
  unfold base64D
  by_cases h : 4000 < t.size
  · rw [if_pos h]; exact .inl rfl
  · rw [if_neg h]; exact .inr (readTD_back (by omega))
theorem readTD_told {u : ByteArray} (h : (readTD u).2 = 0) : base64D (readTD u).1 = u := by
  unfold readTD at *
  by_cases h1 : 20000 < u.size
  · rw [if_pos h1] at h; cases h
  rw [if_neg h1] at h ⊢
  cases hv : readV (bts u) with
  | none => rw [hv] at h; cases h
  | some vs =>
    rw [hv] at h
    simp only at h ⊢
    by_cases h2 : base64D (natT (rgi vs 0 0).1) = u
    · rw [if_pos h2]; exact h2
    · rw [if_neg h2] at h; cases h
end Go.Proofs.YtjkmfjegphpjkaaGreatDoor
namespace Go.Proofs.YtjkmfjegphpjkaaGreatDoor
open Go.RowKit Go.Lib

set_option linter.unusedSimpArgs false in
set_option maxHeartbeats 4000000 in
set_option maxRecDepth 100000 in
theorem specHead (key nonce : Int) (url body : ByteArray) (sk se ss : Int) (w : World) (hk : -9223372036854775808 ≤ key ∧ key ≤ 9223372036854775807) (hn : -9223372036854775808 ≤ nonce ∧ nonce ≤ 9223372036854775807) (hu : url.size ≤ 40) (hb : body.size ≤ 2000) :
    Calls Tryz.prog 40 #[jV key nonce url body sk se ss] w fun r w' => r = .returned (.string (jTwo key nonce url body)) ∧ Below w.heap.size w w' := by
  unfold jV
  obtain ⟨w1, hw1⟩ : ∃ w1, w1 = w.alloc (.cells #[.int .i64 key, .int .i64 nonce, .string url, .string body, .int .i64 sk, .int .i64 se, .int .i64 ss] 34 (0, 0)) := ⟨_, rfl⟩
  have r0 : w1.heap[w.heap.size]? = some (.cells [Value.int .i64 key, .int .i64 nonce, .string url, .string body, .int .i64 sk, .int .i64 se, .int .i64 ss].toArray 34 (0, 0)) := by rw [hw1]; exact heap_alloc_new w _
  have B1 : Hid (Below w.heap.size w w1) := by rw [hw1]; exact (Below.refl _ _).alloc (Nat.le_refl _) _
  have z1 : w.heap.size < w1.heap.size := by rw [hw1]; simp
  have HK : Hid (∀ V, Below w1.heap.size w1 V → V.cell? ⟨w.heap.size, 0, none⟩ = some (.int .i64 key) ∧ V.cell? ⟨w.heap.size, 1, none⟩ = some (.int .i64 nonce) ∧ V.cell? ⟨w.heap.size, 2, none⟩ = some (.string url) ∧ V.cell? ⟨w.heap.size, 3, none⟩ = some (.string body) ∧ V.cell? ⟨w.heap.size, 4, none⟩ = some (.int .i64 sk) ∧ V.cell? ⟨w.heap.size, 5, none⟩ = some (.int .i64 se) ∧ V.cell? ⟨w.heap.size, 6, none⟩ = some (.int .i64 ss)) := fun V hV => by
    have hP := (hV.block _ z1).trans r0
    exact ⟨rowFacts hP 0 _ rfl, rowFacts hP 1 _ rfl, rowFacts hP 2 _ rfl, rowFacts hP 3 _ rfl, rowFacts hP 4 _ rfl, rowFacts hP 5 _ rfl, rowFacts hP 6 _ rfl⟩
  have HB : Hid (∀ V, Below w1.heap.size w1 V → Below w.heap.size w V) := fun V hV => B1.out.trans (hV.mono B1.out.size)
  have PP : Hid (∀ V (n : Int), Hid (Below w1.heap.size w1 V) → -9223372036854775808 ≤ n ∧ n ≤ 9223372036854775807 → Calls Tryz.prog 64 #[.int .i64 n] V fun e W => e = .returned (.string (putS n)) ∧ Hid (Below w1.heap.size w1 W)) := fun V n hV hn => (specPut n V hn.1 hn.2).mono fun e W h => ⟨h.1, hV.out.trans (h.2.mono hV.out.size)⟩
  have PT : Hid (∀ V, Hid (Below w1.heap.size w1 V) → Calls Tryz.prog 66 #[.string url] V fun e W => e = .returned (.string (putTx url)) ∧ Hid (Below w1.heap.size w1 W)) := fun V hV => (specPutText url V (by omega)).mono fun e W h => ⟨h.1, hV.out.trans (h.2.mono hV.out.size)⟩
  have PA : Hid (∀ V (t : ByteArray), Hid (Below w1.heap.size w1 V) → t.size ≤ 4000 → Calls Tryz.prog 24 #[.string t] V fun e W => e = .returned (.string (b64D t)) ∧ Hid (Below w1.heap.size w1 W)) := fun V t hV ht => (specBase t V (by omega)).mono fun e W h => ⟨h.1, hV.out.trans (h.2.mono hV.out.size)⟩
  have I1 : Hid (Below w1.heap.size w1 w1) := Below.refl _ _
  have D1 : Hid (Below w1.heap.size w1 w1.drew) := I1.out.drew
  clear r0 z1 B1
  obtain ⟨R, hR⟩ : ∃ R, R = jTwo key nonce url body := ⟨_, rfl⟩
  have HR : Hid (R = jTwo key nonce url body) := hR
  have y1 := putS_size key
  have y2 := putS_size nonce
  have y3 := putTx_size url
  obtain ⟨q1, e1⟩ : ∃ q, putS key ++ putS nonce = q := ⟨_, rfl⟩
  have s1 : q1.size ≤ 20 := by rw [← e1, ByteArray.size_append]; omega
  obtain ⟨q2, e2⟩ : ∃ q, q1 ++ putTx url = q := ⟨_, rfl⟩
  have s2 : q2.size ≤ 70 := by rw [← e2, ByteArray.size_append]; omega
  have s3 := b64D_size q2
  have s4 := b64D_size body
  have sd : dotD.size = 1 := rfl
  obtain ⟨q3, e3⟩ : ∃ q, b64D q2 ++ (⟨#[46]⟩ : ByteArray) = q := ⟨_, rfl⟩
  have s5 : q3.size ≤ 141 := by rw [← e3, ByteArray.size_append]; show _ + dotD.size ≤ _; omega
  have e4 : q3 ++ b64D body = R := by rw [hR, ← e3, ← e2, ← e1]; rfl
  have a1 : ¬ 9223372036854775807 < (putS key).size + (putS nonce).size := by omega
  have a2 : ¬ 9223372036854775807 < q1.size + (putTx url).size := by omega
  have a3 : ¬ 9223372036854775807 < (b64D q2).size + (⟨#[46]⟩ : ByteArray).size := by show ¬ _ < _ + dotD.size; omega
  have a3' : ¬ 9223372036854775807 < (b64D q2).size + 1 := by omega
  have a4 : ¬ 9223372036854775807 < q3.size + (b64D body).size := by omega
  rw [← hR]
  have hb4 : body.size ≤ 4000 := by omega
  have s24 : q2.size ≤ 4000 := by omega
  clear y1 y2 y3 s1 s2 s3 s4 s5 sd hR HR
  obtain ⟨c0, c1, c2, c3, c4, c5, c6⟩ := HK.out w1 I1.out
  go_enter Tryz.func40, Tryz.ntmps40
  go_upto_region 1 with fail
  rw [← hw1]
  clear hw1
  go_region_held3 (fun V => V.cell? ⟨w.heap.size, 0, none⟩ = some (.int .i64 key) ∧ V.cell? ⟨w.heap.size, 1, none⟩ = some (.int .i64 nonce) ∧ V.cell? ⟨w.heap.size, 2, none⟩ = some (.string url) ∧ V.cell? ⟨w.heap.size, 3, none⟩ = some (.string body) ∧ V.cell? ⟨w.heap.size, 4, none⟩ = some (.int .i64 sk) ∧ V.cell? ⟨w.heap.size, 5, none⟩ = some (.int .i64 se) ∧ V.cell? ⟨w.heap.size, 6, none⟩ = some (.int .i64 ss)) (first | (refine ⟨?_, ?_, ?_, ?_, ?_, ?_, ?_⟩ <;> assumption) | exact HK.out _ (Hid.out (by assumption)))
    (first
      | (go_at_call 64; refine (PP.out _ _ (by assumption) (by assumption)).mono ?_; rintro r V1 ⟨rfl, k1⟩)
      | (go_at_call 66; refine (PT.out _ (by assumption)).mono ?_; rintro r V2 ⟨rfl, k2⟩)
      | (go_at_call 24; refine (PA.out _ _ (by assumption) (by assumption)).mono ?_; rintro r V3 ⟨rfl, k3⟩))
  all_goals
    go_wp2
    go_ret
    exact ⟨rfl, HB.out _ (Hid.out (by assumption))⟩
set_option linter.unusedSimpArgs false in
set_option maxHeartbeats 4000000 in
set_option maxRecDepth 100000 in
theorem specText (key nonce : Int) (url body : ByteArray) (sk se ss : Int) (w : World) (hk : -9223372036854775808 ≤ key ∧ key ≤ 9223372036854775807) (hn : -9223372036854775808 ≤ nonce ∧ nonce ≤ 9223372036854775807) (hu : url.size ≤ 40) (hb : body.size ≤ 2000) (he : -9223372036854775808 ≤ se ∧ se ≤ 9223372036854775807) (hs : -9223372036854775808 ≤ ss ∧ ss ≤ 9223372036854775807) :
    Calls Tryz.prog 41 #[jV key nonce url body sk se ss] w fun r w' => r = .returned (.string (jText key nonce url body se ss)) ∧ Below w.heap.size w w' := by
  unfold jV
  obtain ⟨w1, hw1⟩ : ∃ w1, w1 = w.alloc (.cells #[.int .i64 key, .int .i64 nonce, .string url, .string body, .int .i64 sk, .int .i64 se, .int .i64 ss] 34 (0, 0)) := ⟨_, rfl⟩
  have r0 : w1.heap[w.heap.size]? = some (.cells [Value.int .i64 key, .int .i64 nonce, .string url, .string body, .int .i64 sk, .int .i64 se, .int .i64 ss].toArray 34 (0, 0)) := by rw [hw1]; exact heap_alloc_new w _
  have B1 : Hid (Below w.heap.size w w1) := by rw [hw1]; exact (Below.refl _ _).alloc (Nat.le_refl _) _
  have z1 : w.heap.size < w1.heap.size := by rw [hw1]; simp
  have HK : Hid (∀ V, Below w1.heap.size w1 V → V.cell? ⟨w.heap.size, 0, none⟩ = some (.int .i64 key) ∧ V.cell? ⟨w.heap.size, 1, none⟩ = some (.int .i64 nonce) ∧ V.cell? ⟨w.heap.size, 2, none⟩ = some (.string url) ∧ V.cell? ⟨w.heap.size, 3, none⟩ = some (.string body) ∧ V.cell? ⟨w.heap.size, 4, none⟩ = some (.int .i64 sk) ∧ V.cell? ⟨w.heap.size, 5, none⟩ = some (.int .i64 se) ∧ V.cell? ⟨w.heap.size, 6, none⟩ = some (.int .i64 ss)) := fun V hV => by
    have hP := (hV.block _ z1).trans r0
    exact ⟨rowFacts hP 0 _ rfl, rowFacts hP 1 _ rfl, rowFacts hP 2 _ rfl, rowFacts hP 3 _ rfl, rowFacts hP 4 _ rfl, rowFacts hP 5 _ rfl, rowFacts hP 6 _ rfl⟩
  have HB : Hid (∀ V, Below w1.heap.size w1 V → Below w.heap.size w V) := fun V hV => B1.out.trans (hV.mono B1.out.size)
  have PP : Hid (∀ V (n : Int), Hid (Below w1.heap.size w1 V) → -9223372036854775808 ≤ n ∧ n ≤ 9223372036854775807 → Calls Tryz.prog 64 #[.int .i64 n] V fun e W => e = .returned (.string (putS n)) ∧ Hid (Below w1.heap.size w1 W)) := fun V n hV hn => (specPut n V hn.1 hn.2).mono fun e W h => ⟨h.1, hV.out.trans (h.2.mono hV.out.size)⟩
  have PH : Hid (∀ V, Hid (Below w1.heap.size w1 V) → Calls Tryz.prog 40 #[.agg #[.int .i64 key, .int .i64 nonce, .string url, .string body, .int .i64 sk, .int .i64 se, .int .i64 ss]] V fun e W => e = .returned (.string (jTwo key nonce url body)) ∧ Hid (Below w1.heap.size w1 W)) := fun V hV => (specHead key nonce url body sk se ss V hk hn hu hb).mono fun e W h => ⟨h.1, hV.out.trans (h.2.mono hV.out.size)⟩
  have PA : Hid (∀ V (t : ByteArray), Hid (Below w1.heap.size w1 V) → t.size ≤ 4000 → Calls Tryz.prog 24 #[.string t] V fun e W => e = .returned (.string (b64D t)) ∧ Hid (Below w1.heap.size w1 W)) := fun V t hV ht => (specBase t V (by omega)).mono fun e W h => ⟨h.1, hV.out.trans (h.2.mono hV.out.size)⟩
  have I1 : Hid (Below w1.heap.size w1 w1) := Below.refl _ _
  have D1 : Hid (Below w1.heap.size w1 w1.drew) := I1.out.drew
  clear r0 z1 B1
  obtain ⟨R, hR⟩ : ∃ R, R = jText key nonce url body se ss := ⟨_, rfl⟩
  have y1 := putS_size se
  have y2 := putS_size ss
  have y3 := jTwo_size key nonce url body
  obtain ⟨q1, e1⟩ : ∃ q, jTwo key nonce url body ++ (⟨#[46]⟩ : ByteArray) = q := ⟨_, rfl⟩
  have sd : dotD.size = 1 := rfl
  have s1 : q1.size ≤ 5000 := by rw [← e1, ByteArray.size_append]; show _ + dotD.size ≤ _; omega
  obtain ⟨q2, e2⟩ : ∃ q, putS se ++ putS ss = q := ⟨_, rfl⟩
  have s2 : q2.size ≤ 20 := by rw [← e2, ByteArray.size_append]; omega
  have s3 := b64D_size q2
  have e4 : q1 ++ b64D q2 = R := by rw [hR, ← e1, ← e2]; rfl
  have a1 : ¬ 9223372036854775807 < (jTwo key nonce url body).size + (⟨#[46]⟩ : ByteArray).size := by show ¬ _ < _ + dotD.size; omega
  have a1' : ¬ 9223372036854775807 < (jTwo key nonce url body).size + 1 := by omega
  have a2 : ¬ 9223372036854775807 < (putS se).size + (putS ss).size := by omega
  have a3 : ¬ 9223372036854775807 < q1.size + (b64D q2).size := by omega
  rw [← hR]
  have s24 : q2.size ≤ 4000 := by omega
  clear y1 y2 y3 s1 s2 s3 sd hR
  generalize jTwo key nonce url body = TW at *
  obtain ⟨c0, c1, c2, c3, c4, c5, c6⟩ := HK.out w1 I1.out
  go_enter Tryz.func41, Tryz.ntmps41
  go_upto_region 1 with fail
  rw [← hw1]
  clear hw1
  go_region_held3 (fun V => V.cell? ⟨w.heap.size, 0, none⟩ = some (.int .i64 key) ∧ V.cell? ⟨w.heap.size, 1, none⟩ = some (.int .i64 nonce) ∧ V.cell? ⟨w.heap.size, 2, none⟩ = some (.string url) ∧ V.cell? ⟨w.heap.size, 3, none⟩ = some (.string body) ∧ V.cell? ⟨w.heap.size, 4, none⟩ = some (.int .i64 sk) ∧ V.cell? ⟨w.heap.size, 5, none⟩ = some (.int .i64 se) ∧ V.cell? ⟨w.heap.size, 6, none⟩ = some (.int .i64 ss)) (first | (refine ⟨?_, ?_, ?_, ?_, ?_, ?_, ?_⟩ <;> assumption) | exact HK.out _ (Hid.out (by assumption)))
    (first
      | (go_at_call 64; refine (PP.out _ _ (by assumption) (by assumption)).mono ?_; rintro r V1 ⟨rfl, k1⟩)
      | (go_at_call 40; refine (PH.out _ (by assumption)).mono ?_; rintro r V2 ⟨rfl, k2⟩)
      | (go_at_call 24; refine (PA.out _ _ (by assumption) (by assumption)).mono ?_; rintro r V3 ⟨rfl, k3⟩))
  all_goals
    go_wp2
    go_ret
    exact ⟨rfl, HB.out _ (Hid.out (by assumption))⟩
end Go.Proofs.YtjkmfjegphpjkaaGreatDoor
namespace Go.Proofs.YtjkmfjegphpjkaaGreatDoor
open Go.RowKit
theorem infoLong : (Tryz.prog.info? 2).map (fun i => (i.zero, i.size, i.bytes)) = some (some (.int .i64 0), 1, 8) := by kernel_rfl
end Go.Proofs.YtjkmfjegphpjkaaGreatDoor
namespace Go.Proofs.YtjkmfjegphpjkaaGreatDoor
open Go.RowKit

def keyV : List Value := keyL.map fun n : Nat => Value.int .u32 (n : Int)
theorem key_at (k : Nat) (h : k < 64) : keyV[k]? = some (.int .u32 (uI (kAt k))) := by
  unfold keyV
  have hl : k < keyL.length := h
  rw [List.getElem?_map, List.getElem?_eq_getElem hl]
  have hb : ∀ n ∈ keyL, n < 4294967296 := by decide
  have := hb _ (List.getElem_mem hl)
  unfold kAt uI
  rw [BitVec.toNat_ofNat, List.getD, List.getElem?_eq_getElem hl]
  simp only [Option.map_some, Option.getD_some]
  rw [Nat.mod_eq_of_lt (by simpa using this)]
set_option maxRecDepth 100000 in
theorem specKeys (w : World) :
    Calls Tryz.prog 121 #[] w fun e w' => e = .returned (.slice (some ⟨w.heap.size, 0, none⟩) 64 64) ∧ w'.heap[w.heap.size]? = some (.cells keyV.toArray 110 (0, 0)) ∧ Below w.heap.size w w' := by
  go_enter Tryz.func121, Tryz.ntmps121
  go_wp2
  go_ret
  exact ⟨rfl, heap_alloc_new _ _, (Below.refl _ _).alloc (Nat.le_refl _) _⟩
theorem add_row (s T : St) (j : Nat) (h : j < 8) : (s.add T).row.getD j 0 = s.row.getD j 0 + T.row.getD j 0 := by
  rcases (by omega : j = 0 ∨ j = 1 ∨ j = 2 ∨ j = 3 ∨ j = 4 ∨ j = 5 ∨ j = 6 ∨ j = 7) with rfl | rfl | rfl | rfl | rfl | rfl | rfl | rfl <;> rfl
theorem iCells_take (s : St) (j : Nat) (h : j < 8) : (iCells s).take (j + 1) = (iCells s).take j ++ [.int .i64 (uI (s.row.getD j 0))] := by
  have e := iCells_at s j h
  have hl : j < (iCells s).length := h
  rw [List.getElem?_eq_getElem hl] at e
  rw [List.take_succ_eq_append_getElem hl, Option.some.inj e]
theorem infoWord : (Tryz.prog.info? 110).map (fun i => (i.zero, i.size, i.bytes)) = some (some (.int .u32 0), 1, 4) := by kernel_rfl
end Go.Proofs.YtjkmfjegphpjkaaGreatDoor
