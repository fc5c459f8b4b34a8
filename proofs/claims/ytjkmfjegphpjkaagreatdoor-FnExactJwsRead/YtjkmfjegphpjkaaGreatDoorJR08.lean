/- What is read of rows of things: bodies within bodies, names, serials, numbers; and that it is what was written. Plain mathematics: no program is named here. Numbers that are read one behind the other. Plain mathematics: no program is named here. What is read of a request. Plain. A time lies within bounds. Plain. What a right request's parts lie between. Plain. Rows that are known whole, over calls, makings and stores. No program is named. What a function returns in a variable of its own: the variable over a call. No program is named. A row of texts of the call's own. spec.l01Split at a dot, walked. spec.l09Sign, walked. -/
import Derived.Test.YtjkmfjegphpjkaaGreatDoorJR07
import Derived.Test.YtjkmfjegphpjkaaGreatDoorJR05
import Derived.Test.YtjkmfjegphpjkaaGreatDoorJR04
import Derived.Test.YtjkmfjegphpjkaaGreatDoorJR02
import Derived.Test.YtjkmfjegphpjkaaGreatDoorJR01
import Derived.Deep.Cut
namespace Go.Proofs.YtjkmfjegphpjkaaGreatDoor
open Go.RowKit

/-- Things, one behind the other. -/
def catT : List (Nat × ByteArray) → ByteArray
  | [] => ⟨#[]⟩
  | p :: r => thingD (p.1 : Int) p.2 ++ catT r
def asI (l : List (Nat × ByteArray)) : List (Int × ByteArray) := l.map fun p => ((p.1 : Int), p.2)
theorem catT_len : ∀ l : List (Nat × ByteArray), 2 * l.length ≤ (catT l).size
  | [] => Nat.zero_le _
  | p :: r => by
    have h := catT_len r
    have h2 := thingD_size (p.1 : Int) p.2
    have h3 := lenD_one p.2.size
    rw [catT, ByteArray.size_append, List.length_cons]
    omega
theorem allR_cat : ∀ (l : List (Nat × ByteArray)) (p : ByteArray) (f : Nat) (acc : List (Int × ByteArray)), (∀ q ∈ l, tagB (q.1 : Int) = true ∧ q.2.size ≤ 4000) → l.length ≤ f → acc.length + l.length ≤ 60 →
    allR (p ++ catT l) f p.size acc = (acc ++ asI l, 0)
  | [], p, f, acc, _, _, _ => by
    rw [allR_end (by rw [ByteArray.size_append]; show p.size + 0 ≤ _; omega)]
    simp [asI]
  | q :: r, p, f, acc, hq, hf, ha => by
    obtain ⟨t, b⟩ := q
    obtain ⟨h1, h2⟩ := hq _ (List.mem_cons_self ..)
    simp only at h1 h2
    obtain ⟨g, rfl⟩ : ∃ g, f = g + 1 := ⟨f - 1, by simp at hf; omega⟩
    have hs := thingD_size (t : Int) b
    have e : p ++ catT ((t, b) :: r) = p ++ thingD (t : Int) b ++ catT r := by rw [catT, ByteArray.append_assoc]
    have hg := get_back p (catT r) h1 h2
    rw [e]
    rw [allR_more (by rw [ByteArray.size_append, ByteArray.size_append]; omega) (by rw [hg]) (by simp at ha; omega), hg]
    simp only [Int.toNat_natCast]
    rw [show p.size + (thingD (t : Int) b).size = (p ++ thingD (t : Int) b).size from ByteArray.size_append.symm]
    rw [allR_cat r (p ++ thingD (t : Int) b) g _ (fun q hq' => hq q (List.mem_cons_of_mem _ hq')) (by simp at hf; omega) (by simp at ha ⊢; omega)]
    simp [asI]
theorem allR_all {l : List (Nat × ByteArray)} (hq : ∀ q ∈ l, tagB (q.1 : Int) = true ∧ q.2.size ≤ 4000) (hl : l.length ≤ 60) : allR (catT l) ((catT l).size + 1) 0 [] = (asI l, 0) := by
  have h := allR_cat l ByteArray.empty ((catT l).size + 1) [] hq (by have := catT_len l; omega) (by simpa using hl)
  rw [ByteArray.empty_append] at h
  simpa using h
theorem allD_cat {l : List (Nat × ByteArray)} (hq : ∀ q ∈ l, tagB (q.1 : Int) = true ∧ q.2.size ≤ 4000) (hl : l.length ≤ 60) (hs : (catT l).size ≤ 20000) : allD (catT l) = (asI l, 0) := by
  unfold allD
  rw [if_neg (by omega)]
  exact allR_all hq hl
/-- The body of thing number k of a row: the empty text, if there is none. -/
def bodyK (s : ByteArray) (k : Nat) : ByteArray := (((allD s).1[k]?).map (·.2)).getD ⟨#[]⟩
/-- .. and so on, one within the other. -/
def atP (s : ByteArray) : List Nat → ByteArray
  | [] => s
  | k :: ks => if k < (allD s).1.length then atP (bodyK s k) ks else ⟨#[]⟩
theorem allR_body (s : ByteArray) : ∀ (f k : Nat) (acc : List (Int × ByteArray)), (∀ q ∈ acc, q.2.size ≤ s.size) → ∀ q ∈ (allR s f k acc).1, q.2.size ≤ s.size
  | 0, _, acc, h => h
  | f + 1, k, acc, h => by
    rw [allR]
    split
    · exact h
    · split
      · simp
      · split
        · simp
        · refine allR_body s f _ _ (fun q hq => ?_)
          rcases List.mem_append.1 hq with hq | hq
          · exact h q hq
          · obtain rfl := List.mem_singleton.1 hq
            rename_i hc _ _
            obtain ⟨n, _, h2, _, h4, _⟩ := getAt_form (s := s) (k := k) (by simpa using hc)
            rw [h4]
            show (s.extract _ _).size ≤ _
            rw [ByteArray.size_extract]
            omega
theorem allD_body (s : ByteArray) : ∀ q ∈ (allD s).1, q.2.size ≤ s.size := by
  unfold allD
  split
  · simp
  · exact allR_body s _ _ _ (by simp)
theorem bodyK_le (s : ByteArray) (k : Nat) : (bodyK s k).size ≤ s.size := by
  unfold bodyK
  cases h : (allD s).1[k]? with
  | none => exact Nat.zero_le _
  | some q => exact allD_body s q (List.mem_of_getElem? h)
theorem atP_le : ∀ (ks : List Nat) (s : ByteArray), (atP s ks).size ≤ s.size
  | [], s => Nat.le_refl _
  | k :: ks, s => by
    rw [atP]
    split
    · exact Nat.le_trans (atP_le ks _) (bodyK_le s k)
    · exact Nat.zero_le _
/-- The bodies of a row's things. -/
def bodiesR (s : ByteArray) : List ByteArray := (allD s).1.map (·.2)
def serialsR (s : ByteArray) : List Int := (allD s).1.map fun p => (intR p.2).1
/-- Numbers from a place on; behind the first that is none they are 0. -/
def numsGo (s : ByteArray) : Nat → Int → List Int
  | 0, _ => []
  | n + 1, p => if (numAt s p).code = 0 then (numAt s p).n :: numsGo s n (numAt s p).at' else List.replicate (n + 1) 0
end Go.Proofs.YtjkmfjegphpjkaaGreatDoor
namespace Go.Proofs.YtjkmfjegphpjkaaGreatDoor
open Go.RowKit

theorem getR_lies (s : ByteArray) (p : Nat) : ∀ (f i u : Nat), (getR s p f i u).code = 0 → 0 ≤ (getR s p f i u).at' ∧ (getR s p f i u).at' ≤ s.size
  | 0, i, u, h => by simp [getR, NumR.bad] at h
  | f + 1, i, u, h => by
    rw [getR] at h ⊢
    by_cases h1 : s.size ≤ p + i
    · rw [if_pos h1] at h; simp [NumR.bad] at h
    rw [if_neg h1] at h ⊢
    by_cases h2 : i = 9 ∧ 1 < bNu s (p + i)
    · rw [if_pos h2] at h; simp [NumR.bad] at h
    rw [if_neg h2] at h ⊢
    by_cases h3 : bNu s (p + i) < 128
    · rw [if_pos h3] at h ⊢
      by_cases h4 : bNu s (p + i) = 0 ∧ 0 < i
      · rw [if_pos h4] at h; simp [NumR.bad] at h
      rw [if_neg h4]
      simp only
      omega
    · rw [if_neg h3] at h ⊢
      exact getR_lies s p f (i + 1) _ h
theorem numAt_lies {s : ByteArray} {p : Int} (h : (numAt s p).code = 0) : 0 ≤ (numAt s p).at' ∧ (numAt s p).at' ≤ s.size := by
  unfold numAt at h ⊢
  by_cases h1 : 20000 < s.size
  · rw [if_pos h1] at h; simp [NumR.bad] at h
  rw [if_neg h1] at h ⊢
  by_cases h2 : p < 0
  · rw [if_pos h2] at h; simp [NumR.bad] at h
  rw [if_neg h2] at h ⊢
  exact getR_lies s _ _ _ _ h
theorem numsGo_len (s : ByteArray) : ∀ (n : Nat) (p : Int), (numsGo s n p).length = n
  | 0, _ => rfl
  | n + 1, p => by
    rw [numsGo]
    split
    · rw [List.length_cons, numsGo_len s n]
    · simp
/-- So many numbers, one behind the other, as the specification goes. -/
def bitsQ (s : ByteArray) : Nat → Int → List Int
  | 0, _ => []
  | n + 1, p => (numAt s p).n :: bitsQ s n (numAt s p).at'
theorem getR_any (s : ByteArray) (p : Nat) : ∀ (f i u : Nat), 0 ≤ (getR s p f i u).at' ∧ (getR s p f i u).at' ≤ s.size
  | 0, _, _ => ⟨Int.le_refl _, Int.natCast_nonneg _⟩
  | f + 1, i, u => by
    rw [getR]
    split
    · exact ⟨Int.le_refl _, Int.natCast_nonneg _⟩
    split
    · exact ⟨Int.le_refl _, Int.natCast_nonneg _⟩
    split
    · split
      · exact ⟨Int.le_refl _, Int.natCast_nonneg _⟩
      · simp only
        omega
    · exact getR_any s p f (i + 1) _
theorem numAt_any (s : ByteArray) (p : Int) : 0 ≤ (numAt s p).at' ∧ (numAt s p).at' ≤ s.size := by
  unfold numAt
  split
  · exact ⟨Int.le_refl _, Int.natCast_nonneg _⟩
  split
  · exact ⟨Int.le_refl _, Int.natCast_nonneg _⟩
  exact getR_any s _ _ _ _
end Go.Proofs.YtjkmfjegphpjkaaGreatDoor
namespace Go.Proofs.YtjkmfjegphpjkaaGreatDoor
open Go.RowKit Go.Lib

structure Rq where
  key : Int
  nonce : Int
  url : ByteArray
  body : ByteArray
  e : Int
  s : Int
def Rq.zero : Rq := ⟨0, 0, ⟨#[]⟩, ⟨#[]⟩, 0, 0⟩
def Rq.val (j : Rq) : Value := jV j.key j.nonce j.url j.body j.key j.e j.s
/-- The text that GetText tells. -/
def txtA (s : ByteArray) (p : Int) : ByteArray := match textR s (numAt s p) with
  | .agg #[.string t, _, _] => t
  | _ => ⟨#[]⟩
theorem txtA_form (s : ByteArray) (p : Int) : ∃ a c : Int, textR s (numAt s p) = .agg #[.string (txtA s p), .int .i64 a, .int .i64 c] := by
  have h : ∃ (t : ByteArray) (a c : Int), textR s (numAt s p) = outV t a c := by
    unfold textR
    split
    · exact ⟨_, _, _, rfl⟩
    · split
      · exact ⟨_, _, _, rfl⟩
      · split
        · exact ⟨_, _, _, rfl⟩
        · exact ⟨_, _, _, rfl⟩
  obtain ⟨t, a, c, h⟩ := h
  unfold txtA
  rw [h]
  exact ⟨a, c, rfl⟩
def parseJ (head body tail : ByteArray) : Rq :=
  ⟨(numAt head 0).n, (numAt head (numAt head 0).at').n, txtA head (numAt head (numAt head 0).at').at', body, (numAt tail 0).n, (numAt tail (numAt tail 0).at').n⟩
def readJI (s : ByteArray) : Rq := match pcs s with
  | [a, b, c] => parseJ (readTD a).1 (readTD b).1 (readTD c).1
  | _ => .zero
def readJS (s : ByteArray) : Rq := match pcs s with
  | [a, b, c] => parseJ (readLT a).1 (readLT b).1 (readLT c).1
  | _ => .zero
noncomputable def Rq.right (j : Rq) : Bool := rqB j.key j.nonce j.url j.body && sigRB j.key j.e j.s
def Rq.text (j : Rq) : ByteArray := jText j.key j.nonce j.url j.body j.e j.s
theorem right_sizes {j : Rq} (h : j.right = true) : j.url.size ≤ 40 ∧ j.body.size ≤ 2000 := by
  unfold Rq.right rqB at h
  simp only [Bool.and_eq_true] at h
  obtain ⟨⟨_, _, h3, h4⟩, _⟩ := h
  exact ⟨jurl_size h3, of_decide_eq_true h4⟩
theorem readLT_back (s : ByteArray) : (readLT (b64D s)).1 = s := by
  obtain ⟨h1, h2⟩ := read_back s
  unfold readLT
  rw [h1]
  exact h2
theorem same_read {j : Rq} {s : ByteArray} (h : j.right = true) (ht : j.text = s) : readJI s = readJS s := by
  obtain ⟨h1, h2⟩ := right_sizes h
  have hz := jHead_size j.key j.nonce j.url
  have y1 := putS_size j.e
  have y2 := putS_size j.s
  have hq : (putS j.e ++ putS j.s).size ≤ 20 := by rw [ByteArray.size_append]; omega
  have hp : pcs s = [b64D (jHead j.key j.nonce j.url), b64D j.body, b64D (putS j.e ++ putS j.s)] := by
    rw [← ht]
    exact pcs_three (b64D_dot _) (b64D_dot _) (b64D_dot _)
  unfold readJI readJS
  rw [hp]
  simp only
  rw [readTD_back (by omega), readTD_back (by omega), readTD_back (by omega), readLT_back, readLT_back, readLT_back]
noncomputable def jwsTell (j : Rq) (s : ByteArray) : Rq × Int :=
  if j.right = true ∧ j.text = s then (if sigCB j.key j.e j.s (jTwo j.key j.nonce j.url j.body) = true then (j, 0) else (.zero, 6)) else (.zero, 3)
/-- What JwsRead tells. -/
noncomputable def jwsR (s : ByteArray) : Rq × Int := if 20000 < s.size then (.zero, 2) else jwsTell (readJI s) s
theorem jwsR_spec (s : ByteArray) : jwsR s = if 20000 < s.size then (.zero, 2) else jwsTell (readJS s) s := by
  unfold jwsR
  by_cases hl : 20000 < s.size
  · rw [if_pos hl, if_pos hl]
  rw [if_neg hl, if_neg hl]
  by_cases h1 : (readJI s).right = true ∧ (readJI s).text = s
  · rw [same_read h1.1 h1.2]
  · by_cases h2 : (readJS s).right = true ∧ (readJS s).text = s
    · rw [same_read h2.1 h2.2]
    · unfold jwsTell
      rw [if_neg h1, if_neg h2]
def Rq.outV (x : Rq × Int) : Value := .agg #[.int .i64 x.1.key, .int .i64 x.1.nonce, .string x.1.url, .string x.1.body, .int .i64 x.1.key, .int .i64 x.1.e, .int .i64 x.1.s, .int .i64 x.2]
end Go.Proofs.YtjkmfjegphpjkaaGreatDoor
namespace Go.Proofs.YtjkmfjegphpjkaaGreatDoor

theorem timeB_in {n : Int} (h : timeB n = true) : 0 ≤ n ∧ n ≤ 1000000000 := by
  unfold timeB at h
  rw [Bool.and_eq_true] at h
  exact ⟨of_decide_eq_true h.1, of_decide_eq_true h.2⟩
end Go.Proofs.YtjkmfjegphpjkaaGreatDoor
open Go.RowKit Go.Lib
namespace Go.Proofs.YtjkmfjegphpjkaaGreatDoor
theorem three_of {l : List ByteArray} (h : l.length = 3) : ∃ a b c, l = [a, b, c] := by
  match l, h with
  | [a, b, c], _ => exact ⟨a, b, c, rfl⟩
theorem numAt_small (s : ByteArray) (p : Int) (hs : s.size ≤ 40000) : 0 ≤ (numAt s p).at' ∧ (numAt s p).at' ≤ 40000 := by
  have := numAt_any s p
  omega
theorem readLT_size (s : ByteArray) : (readLT s).1.size ≤ 2 * s.size := by
  unfold readLT
  cases h : readV (bts s) with
  | none => exact Nat.zero_le _
  | some vs =>
    have h1 := readV_len _ _ h
    rw [bts_len] at h1
    have h2 := rgi_len vs 0 0
    simp only
    rw [natT_size]
    omega
theorem readTD_size (s : ByteArray) : (readTD s).1.size ≤ 2 * s.size := by
  unfold readTD
  split
  · exact Nat.zero_le _
  cases h : readV (bts s) with
  | none => exact Nat.zero_le _
  | some vs =>
    have h1 := readV_len _ _ h
    rw [bts_len] at h1
    have h2 := rgi_len vs 0 0
    simp only
    split
    · simp only
      rw [natT_size]
      omega
    · exact Nat.zero_le _
theorem txtA_size (s : ByteArray) (p : Int) : (txtA s p).size ≤ s.size := by
  unfold txtA textR
  by_cases h1 : (numAt s p).code ≠ 0
  · rw [if_pos h1]; exact Nat.zero_le _
  rw [if_neg h1]
  by_cases h2 : (numAt s p).n < 0 ∨ 20000 < (numAt s p).n
  · rw [if_pos h2]; exact Nat.zero_le _
  rw [if_neg h2]
  by_cases h3 : (s.size : Int) - (numAt s p).n < (numAt s p).at'
  · rw [if_pos h3]; exact Nat.zero_le _
  rw [if_neg h3]
  show (s.extract _ _).size ≤ _
  rw [ByteArray.size_extract]
  omega
theorem readJS_sizes {s : ByteArray} (h : ¬ 20000 < s.size) : (readJS s).url.size ≤ maxLen ∧ (readJS s).body.size ≤ maxLen := by
  unfold readJS maxLen
  split
  · rename_i a b c e
    have ha : a.size ≤ s.size := pcs_size (by rw [e]; simp)
    have hb : b.size ≤ s.size := pcs_size (by rw [e]; simp)
    have h1 := readLT_size a
    have h2 := readLT_size b
    have h3 := txtA_size (readLT a).1 (numAt (readLT a).1 (numAt (readLT a).1 0).at').at'
    simp only [parseJ]
    omega
  · exact ⟨Nat.zero_le _, Nat.zero_le _⟩
theorem readJI_sizes {s : ByteArray} (h : ¬ 20000 < s.size) : (readJI s).url.size ≤ maxLen ∧ (readJI s).body.size ≤ maxLen := by
  unfold readJI maxLen
  split
  · rename_i a b c e
    have ha : a.size ≤ s.size := pcs_size (by rw [e]; simp)
    have hb : b.size ≤ s.size := pcs_size (by rw [e]; simp)
    have h1 := readTD_size a
    have h2 := readTD_size b
    have h3 := txtA_size (readTD a).1 (numAt (readTD a).1 (numAt (readTD a).1 0).at').at'
    simp only [parseJ]
    omega
  · exact ⟨Nat.zero_le _, Nat.zero_le _⟩
theorem right_in {key nonce : Int} {url body : ByteArray} {se ss : Int} (h : (rqB key nonce url body && sigRB key se ss) = true) :
    (-9223372036854775808 ≤ key ∧ key ≤ 9223372036854775807) ∧ (-9223372036854775808 ≤ nonce ∧ nonce ≤ 9223372036854775807) ∧ url.size ≤ 40 ∧ body.size ≤ 2000 ∧ (-9223372036854775808 ≤ se ∧ se ≤ 9223372036854775807) ∧ (-9223372036854775808 ≤ ss ∧ ss ≤ 9223372036854775807) := by
  unfold rqB at h
  simp only [Bool.and_eq_true, decide_eq_true_eq] at h
  obtain ⟨⟨h1, h2, h3, h4⟩, h5⟩ := h
  have k1 := rightG_lt h1
  have k2 := timeB_in h2
  have k3 := jurl_size h3
  obtain ⟨_, k4, k5⟩ := sigRB_lt h5
  refine ⟨⟨by omega, by omega⟩, ⟨by omega, by omega⟩, k3, h4, ⟨by omega, by omega⟩, by omega, by omega⟩
theorem tell_no {j : Rq} {s : ByteArray} (h : ¬ (j.right = true ∧ j.text = s)) : jwsTell j s = (.zero, 3) := by rw [jwsTell, if_neg h]
theorem tell_sig {j : Rq} {s : ByteArray} (h : j.right = true ∧ j.text = s) (h2 : sigCB j.key j.e j.s (jTwo j.key j.nonce j.url j.body) = false) : jwsTell j s = (.zero, 6) := by
  rw [jwsTell, if_pos h, if_neg]
  rw [h2]; decide
theorem tell_all {j : Rq} {s : ByteArray} (h : j.right = true ∧ j.text = s) (h2 : sigCB j.key j.e j.s (jTwo j.key j.nonce j.url j.body) = true) : jwsTell j s = (j, 0) := by
  rw [jwsTell, if_pos h, if_pos h2]
end Go.Proofs.YtjkmfjegphpjkaaGreatDoor
namespace Go.Proofs.YtjkmfjegphpjkaaGreatDoor
open Go.RowKit

/-- These blocks hold these cells. -/
def HasB (w : World) (l : List (Nat × List Value × TypeId)) : Prop := ∀ p ∈ l, w.heap[p.1]? = some (.cells p.2.1.toArray p.2.2 (0, 0))
theorem HasB.nil (w : World) : HasB w [] := fun p hp => by cases hp
theorem HasB.head {w : World} {b : Nat} {cs : List Value} {t : TypeId} {l : List (Nat × List Value × TypeId)} (h : HasB w ((b, cs, t) :: l)) : w.heap[b]? = some (.cells cs.toArray t (0, 0)) := h (b, cs, t) (List.mem_cons_self ..)
theorem HasB.tail {w : World} {p : Nat × List Value × TypeId} {l : List (Nat × List Value × TypeId)} (h : HasB w (p :: l)) : HasB w l := fun q hq => h q (List.mem_cons_of_mem _ hq)
theorem HasB.cons {w : World} {b : Nat} {cs : List Value} {t : TypeId} {l : List (Nat × List Value × TypeId)} (h : HasB w l) (hb : w.heap[b]? = some (.cells cs.toArray t (0, 0))) : HasB w ((b, cs, t) :: l) := fun q hq => by
  rcases List.mem_cons.1 hq with rfl | hq
  · exact hb
  · exact h q hq
theorem HasB.keep {w w' : World} {l : List (Nat × List Value × TypeId)} (h : HasB w l) (hb : Below w.heap.size w w') : HasB w' l := fun p hp => by
  rw [hb.block _ (heap_lt (h p hp))]; exact h p hp
theorem HasB.alloc {w : World} {l : List (Nat × List Value × TypeId)} (h : HasB w l) (cs : List Value) (t : TypeId) : HasB (w.alloc (.cells cs.toArray t (0, 0))) ((w.heap.size, cs, t) :: l) :=
  (h.keep ((Below.refl _ w).alloc (Nat.le_refl _) _)).cons (heap_alloc_new w _)
/-- A store into the first of them; it is none of the others. -/
theorem HasB.put {w : World} {b : Nat} {cs : List Value} {t : TypeId} {l : List (Nat × List Value × TypeId)} (h : HasB w ((b, cs, t) :: l)) (hn : ∀ p ∈ l, p.1 ≠ b) (k : Nat) (v : Value) : HasB (w.setCell ⟨b, k, none⟩ v) ((b, cs.set k v, t) :: l) :=
  HasB.cons (fun p hp => by rw [heap_setCell_other w _ _ _ (hn p hp)]; exact h.tail p hp) (rowSet _ h.head)
theorem HasB.lt {w : World} {l : List (Nat × List Value × TypeId)} (h : HasB w l) : ∀ p ∈ l, p.1 < w.heap.size := fun p hp => heap_lt (h p hp)
end Go.Proofs.YtjkmfjegphpjkaaGreatDoor
namespace Go.Proofs.YtjkmfjegphpjkaaGreatDoor
open Go.RowKit

theorem resKeep {w w1 : World} {cs : List Value} {T : Nat} (hb : Below (w.alloc (.cells cs.toArray T (0, 0))).heap.size (w.alloc (.cells cs.toArray T (0, 0))) w1) :
    w1.heap[w.heap.size]? = some (.cells cs.toArray T (0, 0)) ∧ Below w.heap.size w w1 ∧ w.heap.size < w1.heap.size := by
  have hs : (w.alloc (.cells cs.toArray T (0, 0))).heap.size = w.heap.size + 1 := by simp
  have hl := hb.size
  refine ⟨?_, ((Below.refl _ w).alloc (Nat.le_refl _) _).trans (hb.mono (by omega)), by omega⟩
  rw [hb.block w.heap.size (by omega)]
  exact heap_alloc_new w _
theorem rowFree {w : World} {g : Nat} {cs : List Value} {t : TypeId} (hg : w.heap[g]? = some (.cells cs.toArray t (0, 0))) (j : Nat) : w.frozen? ⟨g, j, none⟩ = false := frozen_of_row w g j _ t hg
/-- Three cells of a variable. -/
theorem cells3 {w : World} {g : Nat} {a b c : Value} {t : TypeId} (h : w.heap[g]? = some (.cells [a, b, c].toArray t (0, 0))) :
    (w.cell? ⟨g, 0, none⟩ = some a ∧ w.cell? ⟨g, 1, none⟩ = some b ∧ w.cell? ⟨g, 2, none⟩ = some c) ∧ w.frozen? ⟨g, 0, none⟩ = false ∧ w.frozen? ⟨g, 1, none⟩ = false ∧ w.frozen? ⟨g, 2, none⟩ = false :=
  ⟨⟨rowFacts h 0 _ rfl, rowFacts h 1 _ rfl, rowFacts h 2 _ rfl⟩, rowFree h 0, rowFree h 1, rowFree h 2⟩
theorem cells2 {w : World} {g : Nat} {a b : Value} {t : TypeId} (h : w.heap[g]? = some (.cells [a, b].toArray t (0, 0))) :
    (w.cell? ⟨g, 0, none⟩ = some a ∧ w.cell? ⟨g, 1, none⟩ = some b) ∧ w.frozen? ⟨g, 0, none⟩ = false ∧ w.frozen? ⟨g, 1, none⟩ = false :=
  ⟨⟨rowFacts h 0 _ rfl, rowFacts h 1 _ rfl⟩, rowFree h 0, rowFree h 1⟩
theorem cells4 {w : World} {g : Nat} {a b c d : Value} {t : TypeId} (h : w.heap[g]? = some (.cells [a, b, c, d].toArray t (0, 0))) :
    (w.cell? ⟨g, 0, none⟩ = some a ∧ w.cell? ⟨g, 1, none⟩ = some b ∧ w.cell? ⟨g, 2, none⟩ = some c ∧ w.cell? ⟨g, 3, none⟩ = some d) ∧ w.frozen? ⟨g, 0, none⟩ = false ∧ w.frozen? ⟨g, 1, none⟩ = false ∧ w.frozen? ⟨g, 2, none⟩ = false ∧ w.frozen? ⟨g, 3, none⟩ = false :=
  ⟨⟨rowFacts h 0 _ rfl, rowFacts h 1 _ rfl, rowFacts h 2 _ rfl, rowFacts h 3 _ rfl⟩, rowFree h 0, rowFree h 1, rowFree h 2, rowFree h 3⟩
end Go.Proofs.YtjkmfjegphpjkaaGreatDoor
namespace Go.Proofs.YtjkmfjegphpjkaaGreatDoor
open Go.RowKit

def OwnS (w : World) (B : Nat) (v : Value) (l : List ByteArray) : Prop := w.ownsRow B 9 1 v l.length (sCells l)
theorem OwnS.keep {w w' : World} {B : Nat} {v : Value} {l : List ByteArray} (h : OwnS w B v l) (hb : Below w.heap.size w w') : OwnS w' B v l := by
  refine ⟨h.1, ?_⟩
  rcases h.2 with h | ⟨g, cap, cur, e, h1, h2, h3⟩
  · exact .inl h
  · exact .inr ⟨g, cap, cur, e, h1, by rw [hb.block g (heap_lt h2)]; exact h2, h3⟩
theorem OwnS.mono {w : World} {B B' : Nat} {v : Value} {l : List ByteArray} (h : OwnS w B v l) (hB : B' ≤ B) : OwnS w B' v l := by
  refine ⟨h.1, ?_⟩
  rcases h.2 with h | ⟨g, cap, cur, e, h1, h3⟩
  · exact .inl h
  · exact .inr ⟨g, cap, cur, e, Nat.le_trans hB h1, h3⟩
theorem OwnS.form {w : World} {B : Nat} {v : Value} {l : List ByteArray} (h : OwnS w B v l) : ∃ a c, v = .slice a l.length c ∧ l.length ≤ c := by
  rcases h.2 with ⟨h, h'⟩ | ⟨g, cap, _, e, _, _, hc, _⟩
  · exact ⟨none, 0, by rw [h']; exact h, by omega⟩
  · exact ⟨_, _, e, hc⟩
theorem ownS_nil (w : World) (B : Nat) : OwnS w B (.slice none 0 0) [] := ⟨rfl, .inl ⟨rfl, rfl⟩⟩
theorem OwnS.strs {w : World} {B : Nat} {a : Option Addr} {n c : Nat} {l : List ByteArray} (h : OwnS w B (.slice a n c) l) : IsStrs w a l := by
  rcases h.2 with ⟨_, h'⟩ | ⟨g, cap, cur, e, _, hg, _, _, _, ht⟩
  · exact .inl (List.eq_nil_of_length_eq_zero h')
  · simp only [Value.slice.injEq] at e
    obtain ⟨rfl, _, _⟩ := e
    refine .inr ⟨g, 0, rfl, fun i hi => ?_⟩
    have k0 := sCells_at hi
    rw [← ht, List.getElem?_take, if_pos (by omega)] at k0
    rw [Nat.zero_add, cell_of_row w g _ _ _ (0, 0) hg]
    simpa using k0
theorem OwnS.ge {w : World} {B g : Nat} {v : Value} {l : List ByteArray} (h : OwnS w B v l) (e : v.ownBlock = some g) : B ≤ g ∧ g < w.heap.size :=
  (show World.ownsRow w B 9 1 v l.length (sCells l) from h).lt g e
/-- It stands where its blocks are as they were. -/
theorem OwnS.same {w w' : World} {B : Nat} {v : Value} {l : List ByteArray} (h : OwnS w B v l) (hs : ∀ k, B ≤ k → k < w.heap.size → w'.heap[k]? = w.heap[k]?) : OwnS w' B v l := by
  refine ⟨h.1, ?_⟩
  rcases h.2 with h | ⟨g, cap, cur, e, h1, h2, h3⟩
  · exact .inl h
  · exact .inr ⟨g, cap, cur, e, h1, by rw [hs g h1 (heap_lt h2)]; exact h2, h3⟩
theorem take_snoc (l : List ByteArray) {k : Nat} (h : k < l.length) : l.take (k + 1) = l.take k ++ [tAt l k] := by
  rw [List.take_succ_eq_append_getElem h, tAt, List.getD, List.getElem?_eq_getElem h]; rfl
/-- It stands where all blocks but one that is not its own are as they were. -/
theorem OwnS.off {w w' : World} {B q : Nat} {v : Value} {l : List ByteArray} (h : OwnS w B v l) (hq : v.ownBlock ≠ some q) (hs : ∀ k, k ≠ q → w'.heap[k]? = w.heap[k]?) : OwnS w' B v l := by
  refine ⟨h.1, ?_⟩
  rcases h.2 with h | ⟨g, cap, cur, e, h1, h2, h3⟩
  · exact .inl h
  · exact .inr ⟨g, cap, cur, e, h1, by rw [hs g (fun e' => hq (by rw [e, ← e']; rfl))]; exact h2, h3⟩
theorem oneCell_texts (l : List ByteArray) : ∀ u ∈ sCells l, u.oneCell' = true := by
  intro u hu
  simp only [sCells, List.mem_map] at hu
  obtain ⟨s, _, rfl⟩ := hu
  rfl
end Go.Proofs.YtjkmfjegphpjkaaGreatDoor
namespace Go.Proofs.YtjkmfjegphpjkaaGreatDoor
open Go.RowKit Go.Lib

set_option linter.unusedSimpArgs false in
set_option maxHeartbeats 4000000 in
set_option maxRecDepth 100000 in
theorem specSplit (s : ByteArray) (w : World) (hs : s.size ≤ 20000) :
    Calls Tryz.prog 72 #[.string s, .int .u8 46] w fun e w' => ∃ v, e = .returned v ∧ OwnS w' w.heap.size v (pcs s) ∧ Below w.heap.size w w' := by
  obtain ⟨i0, hi, hz0, hz1, hz2⟩ := info_parts infoText
  obtain ⟨R, hR⟩ : ∃ R, R = pcs s := ⟨_, rfl⟩
  have hRl := pcs_len s
  rw [← hR] at hRl ⊢
  have HRl : Hid (R.length ≤ 20001) := by show _ ≤ _; omega
  have HR : Hid (R = [] ++ (spl ((bts s).drop 0) (((bts s).drop 0).take (0 - 0))).map natT) := by show _ = _; rw [hR]; simp [pcs]
  clear hR hRl
  go_enter Tryz.func72, Tryz.ntmps72
  go_wp2
  go_loopw [5, 6, 7] (fun v f i wr => ∃ (k j : Nat) (pre : List ByteArray), i = .int .i64 k ∧ f = .int .i64 j ∧ j ≤ k ∧ k ≤ s.size ∧ OwnS wr w.heap.size v pre ∧ R = pre ++ (spl ((bts s).drop k) (((bts s).drop j).take (k - j))).map natT ∧ Below w.heap.size w wr) (fun _ _ i _ => s.size - (RowKit.intOf i).toNat)
  case atStart =>
    exact ⟨0, 0, [], rfl, rfl, Nat.le_refl _, Nat.zero_le _, World.ownsRow_made _ #[] 0 (Nat.le_refl _) (Nat.zero_le _) rfl, HR.out, (Below.refl _ _).alloc (Nat.le_refl _) _⟩
  case round =>
    obtain ⟨k, j, pre, rfl, rfl, hj, hk, hown, hat, hbel⟩ := hrel
    have HB : Hid (Below w.heap.size w wr) := hbel
    have HO : Hid (OwnS wr w.heap.size _ pre) := hown
    have HT : Hid _ := hat
    have hsz : w.heap.size ≤ wr.heap.size := hbel.size
    clear hown hat hbel HR
    obtain ⟨va, vc, rfl, _⟩ := OwnS.form HO.out
    obtain ⟨pl, hpl⟩ : ∃ p, p = pre.length := ⟨_, rfl⟩
    have HPl : Hid (pl = pre.length) := hpl
    have hO : wr.ownsRow w.heap.size 9 1 (.slice va pl vc) pl (sCells pre) := by
      have h2 := HO.out
      unfold OwnS at h2
      rw [← hpl] at h2
      exact h2
    rw [← hpl]
    clear hpl
    by_cases hlt : k < s.size
    rotate_left
    · obtain rfl : k = s.size := by omega
      have hRp : R = pre ++ [s.extract j s.size] := by
        rw [HT.out, bts_end s _ (Nat.le_refl _), spl, List.map_cons, List.map_nil, natT_extract s j s.size]
      have hbd : pl + 1 ≤ 20001 := by
        have h1 := HRl.out
        rw [hRp, List.length_append] at h1
        rw [HPl.out]
        exact h1
      have q2 : ¬ (s.size : Int) < (s.size : Int) := by omega
      have q3 : (0 : Int) ≤ (j : Int) := Int.natCast_nonneg _
      have q4 : (j : Int) ≤ (s.size : Int) := by omega
      have HRp : Hid (R = pre ++ [s.extract j s.size]) := hRp
      clear hRp HT
      go_wp2_with (at_builtin; refine wpList_append_own _ rfl _ _ 51 rfl w.heap.size 9 i0 (.string ⟨#[]⟩) 1 16 Tryz.underlying51 hi hz0 hz1 hz2 rfl (by decide) _ _ _ rfl (hO.alloc _) ⟨wr.heap.size, 0, none⟩ 1 1 [.string (s.extract j s.size)] rfl rfl (cells_one (by simp)) (by simp [Value.oneCell']) (by unfold maxLen; omega) (by omega) (by simp; omega) ?_)
      intro y w2 hown2 hgrow2 _
      have B2 : Hid (Below w.heap.size w w2) := (HB.out.alloc hsz _).grown hgrow2 (by simp; omega) (fun j hj => (hO.lt j hj).1)
      have O2 : Hid (OwnS w2 w.heap.size y (pre ++ [s.extract j s.size])) := by
        show World.ownsRow _ _ _ _ _ _ _
        rw [List.length_append, ← HPl.out, sCells, List.map_append]
        exact hown2
      clear hown2 hgrow2 hO HO HB
      go_wp2
      go_ret
      exact ⟨_, rfl, by rw [HRp.out]; exact O2.out, B2.out⟩
    have q1 : (0 : Int) ≤ (k : Int) := Int.natCast_nonneg _
    have q2 : (k : Int) < (s.size : Int) := by omega
    have q3 : (0 : Int) ≤ (j : Int) := Int.natCast_nonneg _
    have q4 : (j : Int) ≤ (k : Int) := by omega
    have q5 : (k : Int) ≤ (s.size : Int) := by omega
    have hdk := bts_drop s k hlt
    have htk : ((bts s).drop j).take (k + 1 - j) = ((bts s).drop j).take (k - j) ++ [s[k].toNat] := by
      have hl : k - j < ((bts s).drop j).length := by rw [List.length_drop, bts_len]; omega
      rw [show k + 1 - j = k - j + 1 from by omega, List.take_succ_eq_append_getElem hl]
      congr 2
      have h2 := congrArg (fun l => l[0]?) hdk
      rw [List.getElem?_drop, List.getElem?_cons_zero, Nat.add_zero] at h2
      rw [List.getElem_drop]
      have h3 : j + (k - j) = k := by omega
      have h4 : (bts s)[j + (k - j)]? = some s[k].toNat := by rw [h3]; exact h2
      rw [List.getElem?_eq_getElem (by rw [bts_len]; omega)] at h4
      exact Option.some.inj h4
    have hu := u8_lt s[k]
    by_cases h46 : s[k].toNat = 46
    · have hb : ((s[k].toNat : Int) == 46) = true := by rw [h46]; rfl
      have HRp : Hid (R = (pre ++ [s.extract j k]) ++ (spl ((bts s).drop (k + 1)) (((bts s).drop (k + 1)).take (k + 1 - (k + 1)))).map natT) := by
        show _ = _
        rw [HT.out, hdk, spl, if_pos h46, List.map_cons, natT_extract s j k]
        simp
      have hbd : pl + 1 ≤ 20001 := by
        have h1 := HRl.out
        rw [HRp.out, List.length_append, List.length_append] at h1
        rw [HPl.out]
        simp only [List.length_cons, List.length_nil] at h1
        omega
      clear hdk htk HT h46 hu
      go_wp2_with (at_builtin; refine wpList_append_own _ rfl _ _ 51 rfl w.heap.size 9 i0 (.string ⟨#[]⟩) 1 16 Tryz.underlying51 hi hz0 hz1 hz2 rfl (by decide) _ _ _ rfl (hO.alloc _) ⟨wr.heap.size, 0, none⟩ 1 1 [.string (s.extract j k)] rfl rfl (cells_one (by simp)) (by simp [Value.oneCell']) (by unfold maxLen; omega) (by omega) (by simp; omega) ?_)
      intro y w2 hown2 hgrow2 _
      have B2 : Hid (Below w.heap.size w w2) := (HB.out.alloc hsz _).grown hgrow2 (by simp; omega) (fun j hj => (hO.lt j hj).1)
      have O2 : Hid (OwnS w2 w.heap.size y (pre ++ [s.extract j k])) := by
        show World.ownsRow _ _ _ _ _ _ _
        rw [List.length_append, ← HPl.out, sCells, List.map_append]
        exact hown2
      clear hown2 hgrow2 hO HO HB
      go_wp2
      go_roundw
      case rel => exact ⟨k + 1, k + 1, _, by go_num, by go_num, Nat.le_refl _, by omega, O2.out, HRp.out, B2.out⟩
      case measure => simp [RowKit.intOf]; omega
    · have hb : ((s[k].toNat : Int) == 46) = false := by
        rw [beq_eq_false_iff_ne]
        omega
      have HRp : Hid (R = pre ++ (spl ((bts s).drop (k + 1)) (((bts s).drop j).take (k + 1 - j))).map natT) := by
        show _ = _
        rw [HT.out, hdk, spl, if_neg h46, htk]
      clear hdk htk HT hO
      go_wp2
      go_roundw
      case rel => exact ⟨k + 1, j, pre, by go_num, by go_num, by omega, by omega, by have h2 := HO.out; rw [← HPl.out] at h2; exact h2, HRp.out, HB.out⟩
      case measure => simp [RowKit.intOf]; omega
end Go.Proofs.YtjkmfjegphpjkaaGreatDoor
namespace Go.Proofs.YtjkmfjegphpjkaaGreatDoor
open Go.RowKit Go.Lib

set_option maxHeartbeats 4000000 in
set_option maxRecDepth 100000 in
theorem specSgn (c : Nat) (w : World) :
    Calls Tryz.prog 51 #[.int .u8 (c : Int)] w fun e w' => e = .returned (.int .i64 (sgk c)) ∧ w' = w := by
  go_enter Tryz.func51, Tryz.ntmps51
  go_wp2
  go_loopw [3] (fun i wr => ∃ k : Nat, k ≤ 64 ∧ i = .int .i64 k ∧ wr = w ∧ ∀ q, q < k → sg q ≠ (c : Int)) (fun i _ => 64 - (RowKit.intOf i).toNat)
  case atStart => exact ⟨0, Nat.zero_le _, rfl, rfl, fun q hq => by omega⟩
  case round =>
    obtain ⟨k, hk, rfl, rfl, hq⟩ := hrel
    have HQ : Hid (∀ q, q < k → sg q ≠ (c : Int)) := hq
    clear hq
    by_cases hlt : k < 64
    · have e1 := idxSg k hlt
      have q2 : (k : Int) < 64 := by omega
      by_cases he : sg k = (c : Int)
      · have HF : Hid (sgk c = (k : Int)) := by show _ = _; rw [sgk, sgi_eq hlt he]
        have hb : (sg k == (c : Int)) = true := by rw [he]; simp
        go_wp2
        go_ret
        exact ⟨by rw [HF.out]; rfl, rfl⟩
      · have hb : (sg k == (c : Int)) = false := by simpa using he
        go_wp2
        go_roundw
        case rel => exact ⟨k + 1, by omega, by go_num, trivial, fun q hq => by
          by_cases e : q = k
          · subst e; exact he
          · exact HQ.out q (by omega)⟩
        case measure => simp [RowKit.intOf]; omega
    · obtain rfl : k = 64 := by omega
      have HF : Hid (sgk c = -1) := by
        show _ = _
        rw [sgk]
        cases hh : sgi c with
        | none => rfl
        | some q => exact absurd (sgi_some hh).2 (HQ.out q (sgi_some hh).1)
      go_wp2
      go_ret
      exact ⟨by rw [HF.out]; rfl, rfl⟩
end Go.Proofs.YtjkmfjegphpjkaaGreatDoor
