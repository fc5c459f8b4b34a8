/- Things, numbers and arcs come back from their bytes. Plain mathematics: no program is named here. A paper's body, as bytes. Plain mathematics: no program is named here. A paper's bytes. Plain mathematics: no program is named here. What is asked for, and lists of what is taken back: which are right but for what their signatures tell, their bodies and bytes. Plain mathematics: no program is named here. Plain mathematics: a number, and a text, come back from their bytes; of bytes that end too early nothing is got. -/
import Derived.Test.YtjkmfjegphpjkaaGreatDoorJW07
import Derived.Test.YtjkmfjegphpjkaaGreatDoorJW08
import Derived.Test.YtjkmfjegphpjkaaGreatDoorJW03
import Derived.Test.YtjkmfjegphpjkaaGreatDoorJW05
import Derived.Test.YtjkmfjegphpjkaaGreatDoorJW01
namespace Go.Proofs.YtjkmfjegphpjkaaGreatDoor
open Go.RowKit

theorem bN_left {a b : ByteArray} {j : Nat} (h : j < a.size) : bN (a ++ b) j = bN a j := by
  have h' : j < a.data.toList.length := by rw [← Lib.size_eq]; exact h
  simp only [bN, ByteArray.data_append, Array.toList_append]
  rw [List.getD, List.getD, List.getElem?_append_left h']
theorem bN_right (a b : ByteArray) (j : Nat) : bN (a ++ b) (a.size + j) = bN b j := by
  simp only [bN, ByteArray.data_append, Array.toList_append]
  rw [List.getD, List.getD, List.getElem?_append_right (by rw [← Lib.size_eq]; omega), ← Lib.size_eq, show a.size + j - a.size = j from by omega]
theorem bN_str {xs : List Int} {j : Nat} (hj : j < xs.length) (hb : ∀ x ∈ xs, 0 ≤ x ∧ x < 256) : (bN (strOfNums xs) j : Int) = xs.getD j 0 := by
  have hm := hb (xs[j]) (List.getElem_mem hj)
  simp only [bN, strOfNums_data]
  rw [List.getD, List.getElem?_map, List.getElem?_eq_getElem hj, List.getD, List.getElem?_eq_getElem hj]
  simp only [Option.map_some, Option.getD_some, UInt8.toNat_ofNat']
  omega
theorem ext_list (s : ByteArray) (i j : Nat) : (s.extract i j).data.toList = (s.data.toList.take j).drop i := by
  rw [ByteArray.data_extract, Array.toList_extract, List.extract_eq_take_drop, List.take_drop]
  rcases Nat.le_total i j with h | h
  · rw [show i + (j - i) = j from by omega]
  · rw [List.drop_eq_nil_of_le (by rw [List.length_take]; omega), List.drop_eq_nil_of_le (by rw [List.length_take]; omega)]
theorem bN_ext {s : ByteArray} {i j k : Nat} (h : i + k < j) : bN (s.extract i j) k = bN s (i + k) := by
  simp only [bN, ext_list]
  rw [List.getD, List.getD, List.getElem?_drop, List.getElem?_take, if_pos h]
/-- What is got, by the first bytes. -/
theorem getAt_thing {s : ByteArray} {k t n : Nat} (hn : n ≤ 4000) (ht : tagB (t : Int) = true) (h0 : k < s.size → bN s k = t)
    (hj : ∀ j, j < (lenD n).length → k + 1 + j < s.size → (bN s (k + 1 + j) : Int) = (lenD n).getD j 0) :
    getAt s k = if s.size < k + 1 + (lenD n).length + n then .bad 4 else ⟨(t : Int), s.extract (k + 1 + (lenD n).length) (k + 1 + (lenD n).length + n), ((k + 1 + (lenD n).length + n : Nat) : Int), 0⟩ := by
  by_cases e0 : s.size ≤ k
  · rw [getAt_end e0, if_pos (by omega)]
  have b0 := h0 (by omega)
  have ht' : tagB (bN s k : Int) = true := by rw [b0]; exact ht
  have hlo := lenD_one n
  by_cases e1 : s.size = k + 1
  · rw [getAt_one e1 ht', if_pos (by omega)]
  by_cases c1 : n < 128
  · have hl : lenD n = [(n : Int)] := by rw [lenD, if_pos c1]
    have b1 : bN s (k + 1) = n := by have := hj 0 (by rw [hl]; simp) (by omega); rw [hl] at this; simp at this; omega
    rw [getAt_low (by omega) ht' (by omega), b0, b1, hl]
    rfl
  by_cases c2 : n < 256
  · have hl : lenD n = [129, (n : Int)] := by rw [lenD, if_neg c1, if_pos c2]
    have b1 : bN s (k + 1) = 129 := by have := hj 0 (by rw [hl]; simp) (by omega); rw [hl] at this; simp at this; omega
    rw [getAt_129 (by omega) ht' b1, b0, hl]
    by_cases e2 : s.size ≤ k + 2
    · rw [if_pos e2, if_pos (by simp; omega)]
    · have b2 : bN s (k + 2) = n := by have := hj 1 (by rw [hl]; simp) (by omega); rw [hl] at this; simp at this; rw [show k + 1 + 1 = k + 2 from rfl] at this; omega
      rw [if_neg e2, b2, if_neg c1]
      rfl
  · have hl : lenD n = [130, ((n / 256 : Nat) : Int), ((n % 256 : Nat) : Int)] := by rw [lenD, if_neg c1, if_neg c2]
    have b1 : bN s (k + 1) = 130 := by have := hj 0 (by rw [hl]; simp) (by omega); rw [hl] at this; simp at this; omega
    rw [getAt_130 (by omega) ht' b1, b0, hl]
    by_cases e2 : s.size ≤ k + 3
    · rw [if_pos e2, if_pos (by simp; omega)]
    · have b2 : bN s (k + 2) = n / 256 := by have := hj 1 (by rw [hl]; simp) (by omega); rw [hl] at this; simp at this; rw [show k + 1 + 1 = k + 2 from rfl] at this; omega
      have b3 : bN s (k + 3) = n % 256 := by have := hj 2 (by rw [hl]; simp) (by omega); rw [hl] at this; simp at this; rw [show k + 1 + 2 = k + 3 from rfl] at this; omega
      rw [if_neg e2, b2, b3, show 256 * (n / 256) + n % 256 = n from by omega, if_neg c2, if_neg (by omega)]
      rfl
theorem lenD_byte {n : Nat} (h : n ≤ 65535) : ∀ x ∈ lenD n, 0 ≤ x ∧ x < 256 := by
  intro x hx
  unfold lenD at hx
  split at hx
  · simp at hx; omega
  · split at hx
    · simp at hx; omega
    · simp at hx; omega
theorem thing_byte {t n : Nat} {b : ByteArray} (hb : b.size = n) (ht : t < 256) (hn : n ≤ 65535) : bN (thingD (t : Int) b) 0 = t ∧ ∀ j, j < (lenD n).length → (bN (thingD (t : Int) b) (1 + j) : Int) = (lenD n).getD j 0 := by
  have hbs : ∀ x ∈ headD (t : Int) n, 0 ≤ x ∧ x < 256 := by
    intro x hx
    rcases List.mem_cons.1 hx with rfl | hx
    · omega
    · exact lenD_byte hn x hx
  unfold thingD
  rw [hb]
  refine ⟨?_, fun j hj => ?_⟩
  · rw [bN_left (by rw [strOfNums_size]; simp [headD])]
    have := bN_str (j := 0) (xs := headD (t : Int) n) (by simp [headD]) hbs
    simp [headD] at this ⊢; omega
  · rw [bN_left (by rw [strOfNums_size]; simp [headD]; omega), bN_str (by simp [headD]; omega) hbs]
    rw [Nat.add_comm]; simp [headD, List.getD]
/-- A thing is got back, whatever stands ahead of it and behind it. -/
theorem get_back (p x : ByteArray) {t : Nat} {b : ByteArray} (ht : tagB (t : Int) = true) (hb : b.size ≤ 4000) :
    getAt (p ++ thingD (t : Int) b ++ x) p.size = ⟨(t : Int), b, ((p.size + (thingD (t : Int) b).size : Nat) : Int), 0⟩ := by
  obtain ⟨q0, q1, _⟩ := tagB_iff.1 ht
  obtain ⟨h0, hj⟩ := thing_byte (b := b) rfl (t := t) (by omega) (by omega)
  have hs := thingD_size (t : Int) b
  have at' : ∀ j, j < (thingD (t : Int) b).size → bN (p ++ thingD (t : Int) b ++ x) (p.size + j) = bN (thingD (t : Int) b) j := fun j hj => by
    rw [bN_left (by rw [ByteArray.size_append]; omega), bN_right]
  have key := getAt_thing (s := p ++ thingD (t : Int) b ++ x) (k := p.size) hb ht (fun _ => by have := at' 0 (by omega); rw [Nat.add_zero] at this; rw [this, h0])
    (fun j h1 _ => by rw [show p.size + 1 + j = p.size + (1 + j) from by omega, at' (1 + j) (by omega)]; exact hj j h1)
  rw [key, if_neg (by rw [ByteArray.size_append, ByteArray.size_append, hs]; omega)]
  have he : (p ++ thingD (t : Int) b ++ x).extract (p.size + 1 + (lenD b.size).length) (p.size + 1 + (lenD b.size).length + b.size) = b := by
    refine ByteArray.ext (Array.toList_inj.1 ?_)
    rw [ext_list]
    have e : (p ++ thingD (t : Int) b ++ x).data.toList = (p.data.toList ++ (strOfNums (headD (t : Int) b.size)).data.toList) ++ (b.data.toList ++ x.data.toList) := by simp [thingD, ByteArray.data_append]
    have l1 : (p.data.toList ++ (strOfNums (headD (t : Int) b.size)).data.toList).length = p.size + 1 + (lenD b.size).length := by
      rw [List.length_append, ← Lib.size_eq, ← Lib.size_eq, strOfNums_size, headD, List.length_cons]; omega
    rw [e, List.take_append, List.drop_append, l1, List.drop_eq_nil_of_le (by rw [List.length_take, l1]; omega), List.nil_append]
    rw [show p.size + 1 + (lenD b.size).length + b.size - (p.size + 1 + (lenD b.size).length) = b.size from by omega]
    rw [List.length_take, l1, show p.size + 1 + (lenD b.size).length - min (p.size + 1 + (lenD b.size).length + b.size) (p.size + 1 + (lenD b.size).length) = 0 from by omega, List.drop_zero, List.take_append, ← Lib.size_eq, List.take_of_length_le (by rw [← Lib.size_eq]; omega)]
    simp
  rw [he]
  congr 2
  omega
/-- Of fewer bytes it is short. -/
theorem get_short {t : Nat} {b : ByteArray} {k : Nat} (ht : tagB (t : Int) = true) (hb : b.size ≤ 4000) (hk : k < (thingD (t : Int) b).size) : getAt ((thingD (t : Int) b).extract 0 k) 0 = .bad 4 := by
  obtain ⟨q0, q1, _⟩ := tagB_iff.1 ht
  obtain ⟨h0, hj⟩ := thing_byte (b := b) rfl (t := t) (by omega) (by omega)
  have hs := thingD_size (t : Int) b
  have hsz : ((thingD (t : Int) b).extract 0 k).size = k := by rw [ByteArray.size_extract]; omega
  have key := getAt_thing (s := (thingD (t : Int) b).extract 0 k) (k := 0) hb ht (fun h => by rw [bN_ext (by omega), Nat.zero_add, h0])
    (fun j h1 h2 => by rw [bN_ext (by omega), show 0 + (0 + 1 + j) = 1 + j from by omega]; exact hj j h1)
  rw [key, if_pos (by omega)]
/-- Where a thing is got, its bytes are known. -/
theorem getAt_form {s : ByteArray} {k : Nat} (h : (getAt s k).code = 0) : ∃ n, n ≤ 4000 ∧ k + 1 + (lenD n).length + n ≤ s.size ∧ tagB (bN s k : Int) = true ∧
    getAt s k = ⟨(bN s k : Int), s.extract (k + 1 + (lenD n).length) (k + 1 + (lenD n).length + n), ((k + 1 + (lenD n).length + n : Nat) : Int), 0⟩ ∧ ∀ j, j < (lenD n).length → (lenD n).getD j 0 = (bN s (k + 1 + j) : Int) := by
  by_cases e0 : s.size ≤ k
  · rw [getAt_end e0] at h; simp [GetR.bad] at h
  cases ht : tagB (bN s k : Int) with
  | false => rw [getAt_tag (by omega) ht] at h; simp [GetR.bad] at h
  | true =>
    by_cases e1 : s.size = k + 1
    · rw [getAt_one e1 ht] at h; simp [GetR.bad] at h
    by_cases c1 : bN s (k + 1) < 128
    · have hl : lenD (bN s (k + 1)) = [(bN s (k + 1) : Int)] := by rw [lenD, if_pos c1]
      rw [getAt_low (by omega) ht c1] at h ⊢
      by_cases hsz : s.size < k + 2 + bN s (k + 1)
      · rw [bodyAt_short hsz] at h; simp [GetR.bad] at h
      · refine ⟨bN s (k + 1), by omega, by rw [hl]; simp; omega, rfl, by rw [bodyAt_ok (by omega), hl]; rfl, fun j hj => ?_⟩
        rw [hl] at hj ⊢
        obtain rfl : j = 0 := by simp at hj; omega
        rfl
    by_cases c2 : bN s (k + 1) = 129
    · rw [getAt_129 (by omega) ht c2] at h ⊢
      by_cases e2 : s.size ≤ k + 2
      · rw [if_pos e2] at h; simp [GetR.bad] at h
      · rw [if_neg e2] at h ⊢
        by_cases c3 : bN s (k + 2) < 128
        · rw [if_pos c3] at h; simp [GetR.bad] at h
        · rw [if_neg c3] at h ⊢
          have hlt := bN_lt s (k + 2)
          have hl : lenD (bN s (k + 2)) = [129, (bN s (k + 2) : Int)] := by rw [lenD, if_neg c3, if_pos hlt]
          by_cases hsz : s.size < k + 3 + bN s (k + 2)
          · rw [bodyAt_short hsz] at h; simp [GetR.bad] at h
          · refine ⟨bN s (k + 2), by omega, by rw [hl]; simp; omega, rfl, by rw [bodyAt_ok (by omega), hl]; rfl, fun j hj => ?_⟩
            rw [hl] at hj ⊢
            have : j = 0 ∨ j = 1 := by simp at hj; omega
            rcases this with rfl | rfl
            · rw [show k + 1 + 0 = k + 1 from rfl, c2]; rfl
            · rfl
    by_cases c3 : bN s (k + 1) = 130
    · rw [getAt_130 (by omega) ht c3] at h ⊢
      by_cases e2 : s.size ≤ k + 3
      · rw [if_pos e2] at h; simp [GetR.bad] at h
      · rw [if_neg e2] at h ⊢
        obtain ⟨n, hn⟩ : ∃ n, n = 256 * bN s (k + 2) + bN s (k + 3) := ⟨_, rfl⟩
        rw [← hn] at h ⊢
        by_cases c4 : n < 256
        · rw [if_pos c4] at h; simp [GetR.bad] at h
        · rw [if_neg c4] at h ⊢
          by_cases c5 : 4000 < n
          · rw [if_pos c5] at h; simp [GetR.bad] at h
          · rw [if_neg c5] at h ⊢
            have h2 := bN_lt s (k + 2)
            have h3 := bN_lt s (k + 3)
            have hl : lenD n = [130, ((n / 256 : Nat) : Int), ((n % 256 : Nat) : Int)] := by rw [lenD, if_neg (by omega), if_neg c4]
            by_cases hsz : s.size < k + 4 + n
            · rw [bodyAt_short hsz] at h; simp [GetR.bad] at h
            · refine ⟨n, by omega, by rw [hl]; simp; omega, rfl, by rw [bodyAt_ok (by omega), hl]; rfl, fun j hj => ?_⟩
              rw [hl] at hj ⊢
              have : j = 0 ∨ j = 1 ∨ j = 2 := by simp at hj; omega
              rcases this with rfl | rfl | rfl
              · rw [show k + 1 + 0 = k + 1 from rfl, c3]; rfl
              · show ((n / 256 : Nat) : Int) = (bN s (k + 2) : Int); omega
              · show ((n % 256 : Nat) : Int) = (bN s (k + 3) : Int); omega
    · rw [getAt_many (by omega) ht (by omega) c2 c3] at h; simp [GetR.bad] at h
theorem bytes_eq {a b : ByteArray} (hs : a.size = b.size) (h : ∀ j, j < a.size → bN a j = bN b j) : a = b := by
  refine ByteArray.ext (Array.toList_inj.1 (List.ext_getElem? (fun j => ?_)))
  rcases Nat.lt_or_ge j a.size with hj | hj
  · have ha : j < a.data.toList.length := by rw [← Lib.size_eq]; exact hj
    have hb : j < b.data.toList.length := by rw [← Lib.size_eq]; omega
    have := h j hj
    simp only [bN, List.getD, List.getElem?_eq_getElem ha, List.getElem?_eq_getElem hb, Option.getD_some] at this
    rw [List.getElem?_eq_getElem ha, List.getElem?_eq_getElem hb, UInt8.toNat_inj.1 this]
  · rw [List.getElem?_eq_none (by rw [← Lib.size_eq]; exact hj), List.getElem?_eq_none (by rw [← Lib.size_eq]; omega)]
/-- What is got is written by just these bytes. -/
theorem get_written {s : ByteArray} {k : Nat} (h : (getAt s k).code = 0) : s.extract k (getAt s k).at'.toNat = putD (getAt s k).tag (getAt s k).body := by
  obtain ⟨n, hn, hsz, ht, e, hj⟩ := getAt_form h
  rw [e]
  simp only
  obtain ⟨f, hf⟩ : ∃ f, f = k + 1 + (lenD n).length := ⟨_, rfl⟩
  rw [← hf] at hsz ⊢
  have hbs : (s.extract f (f + n)).size = n := by rw [ByteArray.size_extract]; omega
  rw [putD_right ht (by omega)]
  have hlt := bN_lt s k
  obtain ⟨h0, hj'⟩ := thing_byte (b := s.extract f (f + n)) hbs (t := bN s k) hlt (by omega)
  have hts := thingD_size (bN s k : Int) (s.extract f (f + n))
  rw [hbs] at hts
  rw [show (((f + n : Nat) : Int).toNat) = f + n from rfl]
  refine bytes_eq (by rw [ByteArray.size_extract, hts]; omega) (fun j hjl => ?_)
  rw [ByteArray.size_extract] at hjl
  rw [bN_ext (by omega)]
  rcases Nat.lt_or_ge j (1 + (lenD n).length) with hh | hh
  · cases j with
    | zero => rw [Nat.add_zero, h0]
    | succ j =>
      have a1 := hj j (by omega)
      have a2 := hj' j (by omega)
      rw [show j + 1 = 1 + j from by omega, show k + (1 + j) = k + 1 + j from by omega]
      omega
  · obtain ⟨i, rfl⟩ : ∃ i, j = (1 + (lenD n).length) + i := ⟨j - (1 + (lenD n).length), by omega⟩
    have hhs : (strOfNums (headD (bN s k : Int) n)).size = 1 + (lenD n).length := by rw [strOfNums_size, headD, List.length_cons]; omega
    unfold thingD
    rw [hbs, ← hhs, bN_right, bN_ext (by omega), hhs]
    congr 1; omega
theorem all_two {t : Nat} {b : ByteArray} (ht : tagB (t : Int) = true) (hb : b.size ≤ 4000) : allD (thingD (t : Int) b ++ thingD (t : Int) b) = ([((t : Int), b), ((t : Int), b)], 0) := by
  have hs := thingD_size (t : Int) b
  have hl := lenD_one b.size
  have hu := thingD_le (t : Int) b
  have e1 := get_back ByteArray.empty (thingD (t : Int) b) ht hb
  have e2 := get_back (thingD (t : Int) b) ByteArray.empty ht hb
  rw [ByteArray.empty_append] at e1
  rw [ByteArray.append_empty] at e2
  simp only [ByteArray.size_empty, Nat.zero_add] at e1
  generalize thingD (t : Int) b = q at *
  have hq : (q ++ q).size = q.size + q.size := ByteArray.size_append
  unfold allD
  rw [if_neg (by omega), allR_more (by omega) (by rw [e1]) (by simp), e1]
  simp only [Int.toNat_natCast, List.nil_append]
  obtain ⟨g, hg⟩ : ∃ g, (q ++ q).size = g + 1 := ⟨(q ++ q).size - 1, by omega⟩
  rw [hg, allR_more (by omega) (by rw [e2]) (by simp), e2]
  simp only [Int.toNat_natCast]
  rw [allR_end (by omega)]; rfl
/-- The number of bytes, from a sign on. -/
def svL (z : Int) (l : List Int) : Int := l.foldl (fun v b => v * 256 + b) z
theorem svL_int : ∀ (f : Nat) (m : Int), Fits f m → svL (if m < 0 then -1 else 0) (intF f m) = m ∧ ((intF f m).getD 0 0 ≥ 128 ↔ m < 0)
  | 0, m, h => by
    unfold Fits lim at h
    simp only [intF, svL, List.foldl_cons, List.foldl_nil, List.getD_cons_zero]
    split <;> omega
  | f + 1, m, h => by
    by_cases c : -128 ≤ m ∧ m < 128
    · rw [intF, if_pos c]
      simp only [svL, List.foldl_cons, List.foldl_nil, List.getD_cons_zero]
      split <;> omega
    · obtain ⟨g, e, hg, ee⟩ := intF_more c h
      obtain rfl : f = g := by omega
      obtain ⟨i1, i2⟩ := svL_int f (m / 256) hg
      have hlen := (intF_len f (m / 256)).1
      rw [ee]
      refine ⟨?_, ?_⟩
      · have hsg : (if m < 0 then (-1 : Int) else 0) = if m / 256 < 0 then -1 else 0 := by split <;> split <;> omega
        rw [hsg]
        simp only [svL, List.foldl_append, List.foldl_cons, List.foldl_nil] at i1 ⊢
        rw [i1]; omega
      · rw [List.getD, List.getElem?_append_left (by omega), ← List.getD, i2]; omega
theorem sv_str {xs : List Int} (hb : ∀ x ∈ xs, 0 ≤ x ∧ x < 256) : ∀ k, k ≤ xs.length → sv (strOfNums xs) k = svL (sv (strOfNums xs) 0) (xs.take k)
  | 0, _ => by simp [svL]
  | k + 1, hk => by
    show sv (strOfNums xs) k * 256 + (bN (strOfNums xs) k : Int) = _
    rw [sv_str hb k (by omega), bN_str (by omega) hb, List.take_succ_eq_append_getElem (by omega)]
    simp only [svL, List.foldl_append, List.foldl_cons, List.foldl_nil]
    rw [List.getD, List.getElem?_eq_getElem (by omega)]; rfl
/-- A number comes back from its body. -/
theorem int_back {n : Int} (h0 : -9223372036854775808 ≤ n) (h1 : n ≤ 9223372036854775807) : intR (strOfNums (intL n)) = (n, 0) := by
  have hb : ∀ x ∈ intL n, 0 ≤ x ∧ x < 256 := fun x hx => intF_byte 7 n x hx
  have hl := intL_len n
  have hs : (strOfNums (intL n)).size = (intL n).length := strOfNums_size _
  obtain ⟨i1, i2⟩ := svL_int 7 n (fits7 h0 h1)
  have hz : sv (strOfNums (intL n)) 0 = if n < 0 then -1 else 0 := by
    have b0 := bN_str (j := 0) (xs := intL n) (by omega) hb
    rw [sv]
    have : (intL n).getD 0 0 ≥ 128 ↔ n < 0 := i2
    by_cases hn : n < 0
    · rw [if_pos hn, if_pos (by have := this.2 hn; omega)]
    · rw [if_neg hn, if_neg (by intro h; exact hn (this.1 (by omega)))]
  have hv : sv (strOfNums (intL n)) (strOfNums (intL n)).size = n := by
    rw [hs, sv_str hb _ (Nat.le_refl _), List.take_length, hz]; exact i1
  rw [intR_good (by omega) (by omega) (by rw [hv]), hv]
/-- Arcs come back from their body. -/
theorem oid_back {l : List Int} (h : arcsB l = true) : oidR (strOfNums (oidL l)) = (l, 0) := by
  have hs : (strOfNums (oidL l)).size ≤ 45 := by rw [strOfNums_size]; exact oidL_len h
  have hq : oidQ (bl (strOfNums (oidL l))) = some l := (oidQ_iff (bl_lt _)).2 ⟨h, (bl_str (oidTo_byte l _)).symm⟩
  unfold oidR
  rw [if_neg (by omega), hq]
/-- The body behind a short head. -/
theorem thing_body {t : Int} {b : ByteArray} (hb : b.size < 128) : (thingD t b).extract 2 (thingD t b).size = b ∧ (thingD t b).size = b.size + 2 := by
  have hl : lenD b.size = [(b.size : Int)] := by rw [lenD, if_pos hb]
  have hs := thingD_size t b
  rw [hl] at hs
  have hs2 : (thingD t b).size = b.size + 2 := by rw [hs]; simp; omega
  refine ⟨?_, hs2⟩
  rw [hs2]
  refine ByteArray.ext (Array.toList_inj.1 ?_)
  rw [ext_list]
  have e : (thingD t b).data.toList = (strOfNums (headD t b.size)).data.toList ++ b.data.toList := by simp [thingD, ByteArray.data_append]
  have l1 : (strOfNums (headD t b.size)).data.toList.length = 2 := by rw [← Lib.size_eq, strOfNums_size, headD, hl]; rfl
  rw [e, List.take_of_length_le (by rw [List.length_append, l1, ← Lib.size_eq]; omega), List.drop_append, l1, List.drop_eq_nil_of_le (by omega)]
  simp
end Go.Proofs.YtjkmfjegphpjkaaGreatDoor
namespace Go.Proofs.YtjkmfjegphpjkaaGreatDoor
open Go.RowKit

theorem isEmpty_of {T : ByteArray} (h : T.size = 0) : T.toList.isEmpty = true := by rw [List.isEmpty_iff, Lib.toList_data, List.eq_nil_iff_length_eq_zero, ← Lib.size_eq]; exact h
theorem isEmpty_not {T : ByteArray} (h : T.size ≠ 0) : T.toList.isEmpty = false := by
  rw [← Bool.not_eq_true, List.isEmpty_iff, Lib.toList_data, List.eq_nil_iff_length_eq_zero, ← Lib.size_eq]; exact h
def seqD (b : ByteArray) : ByteArray := thingD 48 b
def oidT (l : List Int) : ByteArray := thingD 6 (strOfNums (oidL l))
def intD (n : Int) : ByteArray := thingD 2 (strOfNums (intL n))
def kindD : ByteArray := seqD (oidT [1, 3, 101, 112])
def nameD (t : ByteArray) : ByteArray := seqD (thingD 49 (seqD (oidT [2, 5, 4, 3] ++ thingD 12 t)))
def hostsD (ss : List ByteArray) : Nat → ByteArray
  | 0 => ⟨#[]⟩
  | k + 1 => hostsD ss k ++ thingD 130 (tAt ss k)
def namesD (ss : List ByteArray) : ByteArray := if ss.length = 0 then ⟨#[]⟩ else seqD (oidT [2, 5, 29, 17] ++ thingD 4 (seqD (hostsD ss ss.length)))
def soD : ByteArray := thingD 1 ⟨#[255]⟩
def caT : ByteArray := seqD (oidT [2, 5, 29, 19] ++ (soD ++ thingD 4 (seqD soD)))
def caD (b : Bool) : ByteArray := if b = true then caT else ⟨#[]⟩
def moreT (t : ByteArray) : ByteArray := if t.size = 0 then ⟨#[]⟩ else thingD 163 (seqD t)
def moreD (ss : List ByteArray) (ca : Bool) : ByteArray := moreT (namesD ss ++ caD ca)
def keyD (k : Int) : ByteArray := seqD (kindD ++ thingD 3 (⟨#[0]⟩ ++ putS k))
def bodyD (c : Paper) : ByteArray :=
  seqD (thingD 160 (intD 2) ++ (intD c.serial ++ (kindD ++ (nameD c.issuer ++ (seqD (intD c.fr ++ intD c.till) ++ (nameD c.subject ++ (keyD c.key ++ moreD c.names c.ca)))))))
noncomputable def certBodyD (c : Paper) : ByteArray := if paperB c = true then bodyD c else ⟨#[]⟩
theorem arcs_lit {a b c d : Int} (h : arcsB [a, b, c, d] = true) : (oidT [a, b, c, d]).size ≤ 49 := by
  have h1 := thingD_le 6 (strOfNums (oidL [a, b, c, d]))
  rw [strOfNums_size] at h1
  have := oidL_len h
  unfold oidT
  omega
theorem arcsKind : arcsB [1, 3, 101, 112] = true := by decide
theorem arcsName : arcsB [2, 5, 4, 3] = true := by decide
theorem arcs17 : arcsB [2, 5, 29, 17] = true := by decide
theorem arcs19 : arcsB [2, 5, 29, 19] = true := by decide
theorem seqD_le (b : ByteArray) : (seqD b).size ≤ b.size + 4 := thingD_le 48 b
theorem intD_le (n : Int) : (intD n).size ≤ 12 := by
  have h1 := thingD_le 2 (strOfNums (intL n))
  rw [strOfNums_size] at h1
  have := (intL_len n).2
  unfold intD
  omega
theorem kindD_le : kindD.size ≤ 53 := by
  have h1 := seqD_le (oidT [1, 3, 101, 112])
  have h2 := arcs_lit arcsKind
  unfold kindD
  omega
theorem nameD_le (t : ByteArray) : (nameD t).size ≤ t.size + 65 := by
  have h1 := seqD_le (thingD 49 (seqD (oidT [2, 5, 4, 3] ++ thingD 12 t)))
  have h2 := thingD_le 49 (seqD (oidT [2, 5, 4, 3] ++ thingD 12 t))
  have h3 := seqD_le (oidT [2, 5, 4, 3] ++ thingD 12 t)
  have h4 := thingD_le 12 t
  have h5 := arcs_lit arcsName
  rw [ByteArray.size_append] at h3
  unfold nameD
  omega
theorem hostsD_le {ss : List ByteArray} : ∀ k, (∀ i, i < k → (tAt ss i).size ≤ 40) → (hostsD ss k).size ≤ 44 * k
  | 0, _ => Nat.le_refl _
  | k + 1, h => by
    have h1 := hostsD_le k (fun i hi => h i (by omega))
    have h2 := thingD_le 130 (tAt ss k)
    have h3 := h k (by omega)
    show (hostsD ss k ++ thingD 130 (tAt ss k)).size ≤ _
    rw [ByteArray.size_append]
    omega
theorem soD_le : soD.size ≤ 5 := thingD_le 1 ⟨#[255]⟩
theorem caT_le : caT.size ≤ 80 := by
  have h1 := seqD_le (oidT [2, 5, 29, 19] ++ (soD ++ thingD 4 (seqD soD)))
  have h2 := arcs_lit arcs19
  have h3 := soD_le
  have h4 := thingD_le 4 (seqD soD)
  have h5 := seqD_le soD
  rw [ByteArray.size_append, ByteArray.size_append] at h1
  unfold caT
  omega
theorem keyD_le (k : Int) : (keyD k).size ≤ 72 := by
  have h1 := seqD_le (kindD ++ thingD 3 (⟨#[0]⟩ ++ putS k))
  have h2 := thingD_le 3 (⟨#[0]⟩ ++ putS k)
  have h3 := putS_size k
  have h4 := kindD_le
  have h5 : (⟨#[0]⟩ : ByteArray).size = 1 := rfl
  rw [ByteArray.size_append] at h1 h2
  unfold keyD
  omega
/-- What a name's text is no longer than. -/
theorem name_size {s : ByteArray} (h : nameB s = true) : s.size ≤ 40 := by
  have : NameOk s := by simpa [nameB] using h
  exact this.2.1
theorem okTo_name {ss : List ByteArray} : ∀ {n : Nat}, okTo ss n = true → ∀ i, i < n → (tAt ss i).size ≤ 40 := by
  intro n
  induction n with
  | zero => intro _ i hi; omega
  | succ n ih =>
    intro h i hi
    have h' : (okTo ss n && okN ss n) = true := h
    rw [Bool.and_eq_true] at h'
    by_cases e : i = n
    · subst e
      have := h'.2
      unfold okN at this
      rw [Bool.and_eq_true] at this
      exact name_size this.1
    · exact ih h'.1 i (by omega)
/-- What is known of a paper that is right but for its Sig. -/
structure PFits (c : Paper) : Prop where
  ser0 : 1 ≤ c.serial
  ser1 : c.serial ≤ 1000000000
  iss : c.issuer.size ≤ 40
  sub : c.subject.size ≤ 40
  fr0 : 0 ≤ c.fr
  fr1 : c.fr ≤ 1000000000
  till0 : 0 ≤ c.till
  till1 : c.till ≤ 1000000000
  key0 : 1 < c.key
  key1 : c.key < 2147483579
  len : c.names.length ≤ 5
  each : ∀ i, i < c.names.length → (tAt c.names i).size ≤ 40
theorem paper_fits {c : Paper} (h : paperB c = true) : PFits c := by
  unfold paperB at h
  simp only [Bool.and_eq_true, decide_eq_true_eq] at h
  obtain ⟨⟨⟨⟨⟨⟨⟨⟨h1, h2⟩, h3⟩, h4⟩, h5⟩, h6⟩, _⟩, h8⟩, h9⟩ := h
  unfold timeB at h5 h6
  simp only [Bool.and_eq_true, decide_eq_true_eq] at h5 h6
  have h8' := of_decide_eq_true h8
  unfold namesB at h9
  simp only [Bool.and_eq_true, decide_eq_true_eq] at h9
  exact ⟨h1, h2, name_size h3, name_size h4, h5.1, h5.2, h6.1, h6.2, h8'.1, h8'.2.1, h9.2, okTo_name h9.1⟩
theorem namesD_le {ss : List ByteArray} (h : ss.length ≤ 5) (h' : ∀ i, i < ss.length → (tAt ss i).size ≤ 40) : (namesD ss).size ≤ 290 := by
  unfold namesD
  split
  · exact Nat.zero_le _
  · have h1 := seqD_le (oidT [2, 5, 29, 17] ++ thingD 4 (seqD (hostsD ss ss.length)))
    have h2 := thingD_le 4 (seqD (hostsD ss ss.length))
    have h3 := seqD_le (hostsD ss ss.length)
    have h4 := hostsD_le (ss := ss) ss.length h'
    have h5 := arcs_lit arcs17
    rw [ByteArray.size_append] at h1
    omega
theorem caD_le (b : Bool) : (caD b).size ≤ 80 := by
  unfold caD
  split
  · exact caT_le
  · exact Nat.zero_le _
theorem moreD_le {ss : List ByteArray} (h : ss.length ≤ 5) (h' : ∀ i, i < ss.length → (tAt ss i).size ≤ 40) (ca : Bool) : (moreD ss ca).size ≤ 380 := by
  have h1 := namesD_le h h'
  have h2 := caD_le ca
  unfold moreD moreT
  split
  · exact Nat.zero_le _
  · have h3 := thingD_le 163 (seqD (namesD ss ++ caD ca))
    have h4 := seqD_le (namesD ss ++ caD ca)
    rw [ByteArray.size_append] at h4
    omega
end Go.Proofs.YtjkmfjegphpjkaaGreatDoor
namespace Go.Proofs.YtjkmfjegphpjkaaGreatDoor
open Go.RowKit

def sigT (k e s : Int) : ByteArray := ⟨#[0]⟩ ++ putS k ++ putS e ++ putS s
def sigD (k e s : Int) : ByteArray := thingD 3 (sigT k e s)
def bytesD (c : Paper) : ByteArray := seqD (bodyD c ++ (kindD ++ sigD c.sk c.se c.ss))
noncomputable def certBytesD (c : Paper) : ByteArray := if certB c = true then bytesD c else ⟨#[]⟩
theorem sigT_le (k e s : Int) : (sigT k e s).size ≤ 31 := by
  have h1 := putS_size k
  have h2 := putS_size e
  have h3 := putS_size s
  unfold sigT
  simp only [ByteArray.size_append]
  have h4 : (⟨#[0]⟩ : ByteArray).size = 1 := rfl
  omega
theorem sigD_le (k e s : Int) : (sigD k e s).size ≤ 35 := by
  have h1 := thingD_le 3 (sigT k e s)
  have h2 := sigT_le k e s
  unfold sigD
  omega
theorem bodyD_le {c : Paper} (h : PFits c) : (bodyD c).size ≤ 900 := by
  have y1 := intD_le 2
  have y2 := intD_le c.serial
  have y3 := kindD_le
  have y4 := nameD_le c.issuer
  have y5 := nameD_le c.subject
  have y6 := intD_le c.fr
  have y7 := intD_le c.till
  have y8 := thingD_le 160 (intD 2)
  have y9 := keyD_le c.key
  have y10 := seqD_le (intD c.fr ++ intD c.till)
  have y11 := moreD_le h.len h.each c.ca
  have y12 := h.iss
  have y13 := h.sub
  have z := seqD_le (thingD 160 (intD 2) ++ (intD c.serial ++ (kindD ++ (nameD c.issuer ++ (seqD (intD c.fr ++ intD c.till) ++ (nameD c.subject ++ (keyD c.key ++ moreD c.names c.ca)))))))
  simp only [ByteArray.size_append] at z y10
  unfold bodyD
  omega
theorem certB_paper {c : Paper} (h : certB c = true) : paperB c = true := by
  unfold certB at h
  rw [Bool.and_eq_true] at h
  exact h.1
theorem certB_sig {c : Paper} (h : certB c = true) : (1 < c.sk ∧ c.sk < 2147483579) ∧ (0 ≤ c.se ∧ c.se < 1073741789) ∧ 0 ≤ c.ss ∧ c.ss < 1073741789 := by
  unfold certB sigRB at h
  simp only [Bool.and_eq_true] at h
  have h1 := of_decide_eq_true h.2.1.1
  exact ⟨⟨h1.1, h1.2.1⟩, of_decide_eq_true h.2.1.2, of_decide_eq_true h.2.2⟩
end Go.Proofs.YtjkmfjegphpjkaaGreatDoor
namespace Go.Proofs.YtjkmfjegphpjkaaGreatDoor
open Go.RowKit

structure Ask where
  key : Int
  names : List ByteArray
  sk : Int
  se : Int
  ss : Int
def Ask.val (c : Ask) (v : Value) : Value := .agg #[.int .i64 c.key, v, .int .i64 c.sk, .int .i64 c.se, .int .i64 c.ss]
/-- Right, but for its Sig. -/
noncomputable def askB (c : Ask) : Bool := rightG c.key && namesB c.names && decide (0 < c.names.length)
def askD (c : Ask) : ByteArray := seqD (intD 0 ++ (thingD 3 (⟨#[0]⟩ ++ putS c.key) ++ seqD (hostsD c.names c.names.length)))
/-- Right, but for its Sig's check. -/
noncomputable def formB (c : Ask) : Bool := askB c && sigRB c.sk c.se c.ss && decide (c.sk = c.key)
def askT (e s : Int) : ByteArray := ⟨#[0]⟩ ++ putS e ++ putS s
def askY (c : Ask) : ByteArray := seqD (askD c ++ thingD 3 (askT c.se c.ss))
theorem askT_le (e s : Int) : (askT e s).size ≤ 21 := by
  have h2 := putS_size e
  have h3 := putS_size s
  unfold askT
  simp only [ByteArray.size_append]
  have h4 : (⟨#[0]⟩ : ByteArray).size = 1 := rfl
  omega
theorem names_fit {ss : List ByteArray} (h : namesB ss = true) : ss.length ≤ 5 ∧ ∀ i, i < ss.length → (tAt ss i).size ≤ 40 := by
  unfold namesB at h
  simp only [Bool.and_eq_true, decide_eq_true_eq] at h
  exact ⟨h.2, okTo_name h.1⟩
theorem rightG_lt {k : Int} (h : rightG k = true) : 1 < k ∧ k < 2147483579 := by
  have h8' := of_decide_eq_true h
  exact ⟨h8'.1, h8'.2.1⟩
theorem sigRB_lt {k e s : Int} (h : sigRB k e s = true) : (1 < k ∧ k < 2147483579) ∧ (0 ≤ e ∧ e < 1073741789) ∧ 0 ≤ s ∧ s < 1073741789 := by
  unfold sigRB at h
  simp only [Bool.and_eq_true] at h
  exact ⟨rightG_lt h.1.1, of_decide_eq_true h.1.2, of_decide_eq_true h.2⟩
theorem ask_fits {c : Ask} (h : askB c = true) : (1 < c.key ∧ c.key < 2147483579) ∧ c.names.length ≤ 5 ∧ 0 < c.names.length ∧ ∀ i, i < c.names.length → (tAt c.names i).size ≤ 40 := by
  unfold askB at h
  simp only [Bool.and_eq_true, decide_eq_true_eq] at h
  obtain ⟨⟨h1, h2⟩, h3⟩ := h
  exact ⟨rightG_lt h1, (names_fit h2).1, h3, (names_fit h2).2⟩
theorem askK_le (k : Int) : (thingD 3 (⟨#[0]⟩ ++ putS k)).size ≤ 15 := by
  have h2 := thingD_le 3 (⟨#[0]⟩ ++ putS k)
  have h3 := putS_size k
  have h5 : (⟨#[0]⟩ : ByteArray).size = 1 := rfl
  rw [ByteArray.size_append] at h2
  omega
theorem hosts_le {ss : List ByteArray} (h : ss.length ≤ 5) (h' : ∀ i, i < ss.length → (tAt ss i).size ≤ 40) : (seqD (hostsD ss ss.length)).size ≤ 224 := by
  have h4 := hostsD_le (ss := ss) ss.length h'
  have h3 := seqD_le (hostsD ss ss.length)
  omega
theorem askD_le {c : Ask} (h : askB c = true) : (askD c).size ≤ 255 := by
  obtain ⟨_, h2, _, h4⟩ := ask_fits h
  have y1 := intD_le 0
  have y2 := askK_le c.key
  have y3 := hosts_le h2 h4
  have z := seqD_le (intD 0 ++ (thingD 3 (⟨#[0]⟩ ++ putS c.key) ++ seqD (hostsD c.names c.names.length)))
  simp only [ByteArray.size_append] at z
  unfold askD
  omega
theorem thing_pos (t : Int) (b : ByteArray) : 0 < (thingD t b).size := by
  rw [thingD_size]
  omega
theorem formB_ask {c : Ask} (h : formB c = true) : askB c = true := by
  unfold formB at h
  simp only [Bool.and_eq_true] at h
  exact h.1.1
theorem formB_sig {c : Ask} (h : formB c = true) : sigRB c.sk c.se c.ss = true := by
  unfold formB at h
  simp only [Bool.and_eq_true] at h
  exact h.1.2

structure Lst where
  issuer : ByteArray
  fr : Int
  till : Int
  serials : List Int
  sk : Int
  se : Int
  ss : Int
def Lst.val (c : Lst) (v : Value) : Value := .agg #[.string c.issuer, .int .i64 c.fr, .int .i64 c.till, v, .int .i64 c.sk, .int .i64 c.se, .int .i64 c.ss]
def okS (zs : List Int) (i : Nat) : Bool := serB (zs.getD i 0) && (decide (i = 0) || decide (zs.getD (i - 1) 0 < zs.getD i 0))
def okSTo (zs : List Int) : Nat → Bool
  | 0 => true
  | k + 1 => okSTo zs k && okS zs k
theorem okSTo_no {zs : List Int} {k : Nat} (h : okS zs k = false) : ∀ {n : Nat}, k < n → okSTo zs n = false := by
  intro n
  induction n with
  | zero => intro h'; omega
  | succ n ih =>
    intro h'
    show (okSTo zs n && okS zs n) = false
    by_cases e : k = n
    · subst e; rw [h]; simp
    · rw [ih (by omega)]; rfl
theorem okSTo_yes {zs : List Int} {k : Nat} (h : okSTo zs k = true) (h' : okS zs k = true) : okSTo zs (k + 1) = true := by show (okSTo zs k && okS zs k) = true; rw [h, h']; rfl
def serialsB (zs : List Int) : Bool := okSTo zs zs.length && decide (zs.length ≤ 40)
noncomputable def listB (c : Lst) : Bool := nameB c.issuer && timeB c.fr && timeB c.till && decide (c.fr ≤ c.till) && serialsB c.serials
def serD (zs : List Int) : Nat → ByteArray
  | 0 => ⟨#[]⟩
  | k + 1 => serD zs k ++ intD (zs.getD k 0)
theorem serD_le (zs : List Int) : ∀ k, (serD zs k).size ≤ 12 * k
  | 0 => Nat.le_refl _
  | k + 1 => by
    have h1 := serD_le zs k
    have h2 := intD_le (zs.getD k 0)
    show (serD zs k ++ intD (zs.getD k 0)).size ≤ _
    rw [ByteArray.size_append]
    omega
def listD (c : Lst) : ByteArray := seqD (nameD c.issuer ++ (intD c.fr ++ (intD c.till ++ seqD (serD c.serials c.serials.length))))
noncomputable def crlB (c : Lst) : Bool := listB c && sigRB c.sk c.se c.ss
def listY (c : Lst) : ByteArray := seqD (listD c ++ sigD c.sk c.se c.ss)
noncomputable def crlBytesD (c : Lst) : ByteArray := if crlB c = true then listY c else ⟨#[]⟩
theorem okSTo_lt {zs : List Int} : ∀ {n : Nat}, okSTo zs n = true → ∀ i, i < n → 1 ≤ zs.getD i 0 ∧ zs.getD i 0 ≤ 1000000000 := by
  intro n
  induction n with
  | zero => intro _ i hi; omega
  | succ n ih =>
    intro h i hi
    have h' : (okSTo zs n && okS zs n) = true := h
    rw [Bool.and_eq_true] at h'
    by_cases e : i = n
    · subst e
      have := h'.2
      unfold okS serB at this
      simp only [Bool.and_eq_true, decide_eq_true_eq] at this
      exact this.1
    · exact ih h'.1 i (by omega)
structure LFits (c : Lst) : Prop where
  iss : c.issuer.size ≤ 40
  fr0 : 0 ≤ c.fr
  fr1 : c.fr ≤ 1000000000
  till0 : 0 ≤ c.till
  till1 : c.till ≤ 1000000000
  len : c.serials.length ≤ 40
  each : ∀ i, i < c.serials.length → 1 ≤ c.serials.getD i 0 ∧ c.serials.getD i 0 ≤ 1000000000
theorem list_fits {c : Lst} (h : listB c = true) : LFits c := by
  unfold listB at h
  simp only [Bool.and_eq_true, decide_eq_true_eq] at h
  obtain ⟨⟨⟨⟨h1, h2⟩, h3⟩, _⟩, h5⟩ := h
  unfold timeB at h2 h3
  simp only [Bool.and_eq_true, decide_eq_true_eq] at h2 h3
  unfold serialsB at h5
  simp only [Bool.and_eq_true, decide_eq_true_eq] at h5
  exact ⟨name_size h1, h2.1, h2.2, h3.1, h3.2, h5.2, okSTo_lt h5.1⟩
theorem listD_le {c : Lst} (h : LFits c) : (listD c).size ≤ 700 := by
  have y1 := nameD_le c.issuer
  have y2 := intD_le c.fr
  have y3 := intD_le c.till
  have y4 := serD_le c.serials c.serials.length
  have y5 := seqD_le (serD c.serials c.serials.length)
  have y6 := h.iss
  have y7 := h.len
  have z := seqD_le (nameD c.issuer ++ (intD c.fr ++ (intD c.till ++ seqD (serD c.serials c.serials.length))))
  simp only [ByteArray.size_append] at z
  unfold listD
  omega
theorem crlB_list {c : Lst} (h : crlB c = true) : listB c = true := by
  unfold crlB at h
  rw [Bool.and_eq_true] at h
  exact h.1
theorem crlB_sig {c : Lst} (h : crlB c = true) : sigRB c.sk c.se c.ss = true := by
  unfold crlB at h
  rw [Bool.and_eq_true] at h
  exact h.2
end Go.Proofs.YtjkmfjegphpjkaaGreatDoor
namespace Go.Proofs.YtjkmfjegphpjkaaGreatDoor
open Go.RowKit Go.Lib

theorem putF_pos (f x : Nat) : 0 < (putF f x).length := by
  cases f with
  | zero => simp [putF]
  | succ f => rw [putF]; split <;> simp
theorem putF_le (f x : Nat) : (putF f x).length ≤ f + 1 := by
  induction f generalizing x with
  | zero => simp [putF]
  | succ f ih =>
    rw [putF]
    split
    · simp
    · simpa using ih (x / 128)
/-- The bytes of a number are read as that number. -/
theorem get_put (s : ByteArray) (p : Nat) : ∀ (f i x u : Nat), x < pw f → i + f = 9 → (∀ j, j < (putF f x).length → ((bNu s (p + i + j) : Nat) : Int) = (putF f x).getD j 0) → p + i + (putF f x).length ≤ s.size →
    (0 < i → 0 < x) → u + x * 128 ^ i ≤ 18446744073709551615 → getR s p (f + 1) i u = ⟨unI (u + x * 128 ^ i), (p + i + (putF f x).length : Nat), 0⟩ := by
  intro f
  induction f with
  | zero =>
    intro i x u hx hi hb hl h0 hv
    obtain rfl : i = 9 := by omega
    have e : putF 0 x = [(x : Int)] := rfl
    rw [e] at hb hl ⊢
    have hb0 := hb 0 (by simp)
    simp at hb0
    have hbx : bNu s (p + 9) = x := by omega
    have hx1 : x ≤ 1 := by omega
    rw [getR_last (by simp at hl; omega) (by intro _; omega) (by omega) (by rw [hbx]; omega), hbx]
    simp [sh7, Nat.mod_eq_of_lt (show x < 128 by omega)]
  | succ f ih =>
    intro i x u hx hi hb hl h0 hv
    by_cases h128 : x < 128
    · have e : putF (f + 1) x = [(x : Int)] := putF_last h128
      rw [e] at hb hl ⊢
      have hb0 := hb 0 (by simp)
      simp at hb0
      have hbx : bNu s (p + i) = x := by omega
      rw [getR_last (by simp at hl; omega) (by omega) (by omega) (by rw [hbx]; omega), hbx]
      simp [sh7, Nat.mod_eq_of_lt h128]
    · have e : putF (f + 1) x = ((x % 128 + 128 : Nat) : Int) :: putF f (x / 128) := putF_more (by omega)
      rw [e] at hb hl ⊢
      have hb0 := hb 0 (by simp)
      simp only [Nat.add_zero, List.getD_cons_zero] at hb0
      have hbx : bNu s (p + i) = x % 128 + 128 := by omega
      simp only [List.length_cons] at hl ⊢
      rw [getR_more (by omega) (by omega) (by omega), hbx, show (x % 128 + 128) % 128 = x % 128 from by omega]
      have hpow : 128 ^ (i + 1) = 128 * 128 ^ i := by rw [Nat.pow_succ, Nat.mul_comm]
      have hsum : u + sh7 i (x % 128) + x / 128 * 128 ^ (i + 1) = u + x * 128 ^ i := by
        unfold sh7
        rw [hpow, ← Nat.mul_assoc, Nat.add_assoc, ← Nat.add_mul, show x % 128 + x / 128 * 128 = x from by omega]
      have := ih (i + 1) (x / 128) (u + sh7 i (x % 128)) (by simp only [pw] at hx; omega) (by omega) (fun j hj => by
        have := hb (j + 1) (by simpa using hj)
        rw [show p + (i + 1) + j = p + i + (j + 1) from by omega]
        simpa using this) (by omega) (by omega) (by rw [hsum]; exact hv)
      rw [hsum] at this
      rw [this]
      congr 1
      omega
/-- Bytes that end too early are short. -/
theorem getU_short (s : ByteArray) (p : Nat) : ∀ (f i x u : Nat), i + f = 9 → (∀ j, j + 1 < (putF f x).length → ((bNu s (p + i + j) : Nat) : Int) = (putF f x).getD j 0) → s.size + 1 = p + i + (putF f x).length →
    getR s p (f + 1) i u = .bad 4 := by
  intro f
  induction f with
  | zero =>
    intro i x u hi hb hl
    have e : putF 0 x = [(x : Int)] := rfl
    rw [e] at hl
    exact getR_short (by simp at hl; omega)
  | succ f ih =>
    intro i x u hi hb hl
    by_cases h128 : x < 128
    · have e : putF (f + 1) x = [(x : Int)] := putF_last h128
      rw [e] at hl
      exact getR_short (by simp at hl; omega)
    · have e : putF (f + 1) x = ((x % 128 + 128 : Nat) : Int) :: putF f (x / 128) := putF_more (by omega)
      rw [e] at hb hl
      have hpos := putF_pos f (x / 128)
      have hb0 := hb 0 (by simp; omega)
      simp only [Nat.add_zero, List.getD_cons_zero] at hb0
      have hbx : bNu s (p + i) = x % 128 + 128 := by omega
      simp only [List.length_cons] at hl
      rw [getR_more (by omega) (by omega) (by omega)]
      exact ih (i + 1) (x / 128) _ (by omega) (fun j hj => by
        have := hb (j + 1) (by simp; omega)
        rw [show p + (i + 1) + j = p + i + (j + 1) from by omega]
        simpa using this) (by omega)
theorem unI_foldI (n : Int) : unI (foldI n) = n := by
  unfold foldI unI
  split
  · rw [if_pos (by omega)]; omega
  · rw [if_neg (by omega)]; omega
theorem foldI_le (n : Int) (h0 : -9223372036854775808 ≤ n) (h1 : n ≤ 9223372036854775807) : foldI n ≤ 18446744073709551615 := by unfold foldI; split <;> omega
theorem putF_mem (f x : Nat) (h : x < pw f) : ∀ y ∈ putF f x, 0 ≤ y ∧ y ≤ 255 := by
  induction f generalizing x with
  | zero => simp [putF, pw] at *; omega
  | succ f ih =>
    rw [putF]
    split
    · simp; omega
    · intro y hy
      rcases List.mem_cons.1 hy with rfl | hy
      · omega
      · exact ih (x / 128) (by simp only [pw] at h; omega) y hy
theorem bU_nums (xs : List Int) (h : ∀ x ∈ xs, 0 ≤ x ∧ x ≤ 255) (j : Nat) (hj : j < xs.length) : ((bNu (strOfNums xs) j : Nat) : Int) = xs.getD j 0 := by
  have hx := h xs[j] (List.getElem_mem hj)
  have e : (strOfNums xs).data.toList = xs.map fun n => UInt8.ofNat n.toNat := by simp [strOfNums]
  unfold bNu
  rw [e]
  simp only [List.getD, List.getElem?_map, List.getElem?_eq_getElem hj, Option.map_some, Option.getD_some]
  rw [UInt8.toNat_ofNat_of_lt' (by simp [UInt8.size]; omega)]
  omega
theorem toList_append (a b : ByteArray) : (a ++ b).data.toList = a.data.toList ++ b.data.toList := by
  rw [ByteArray.data_append, Array.toList_append]
theorem bU_left (a b : ByteArray) (j : Nat) (h : j < a.size) : bNu (a ++ b) j = bNu a j := by
  unfold bNu
  rw [toList_append, List.getD, List.getElem?_append_left (by rw [← size_eq]; exact h)]
  rfl
theorem bU_right (a b : ByteArray) (j : Nat) : bNu (a ++ b) (a.size + j) = bNu b j := by
  unfold bNu
  rw [toList_append, List.getD, List.getElem?_append_right (by rw [← size_eq]; omega), ← size_eq, Nat.add_sub_cancel_left]
  rfl
theorem bU_extract (a : ByteArray) (k j : Nat) (h : j < k) (hk : k ≤ a.size) : bNu (a.extract 0 k) j = bNu a j := by
  have e := bU_eq (a.extract 0 k) j (by rw [ByteArray.size_extract]; omega)
  rw [e, bU_eq a j (by omega)]
  congr 1
  simp [ByteArray.getElem_extract]
theorem pw9_lt {x : Nat} (h : x ≤ 18446744073709551615) : x < pw 9 := by rw [pw9]; omega
/-- The number's bytes, whatever stands ahead of and behind them. -/
theorem num_back (n : Int) (h0 : -9223372036854775808 ≤ n) (h1 : n ≤ 9223372036854775807) (a b : ByteArray) :
    getR (a ++ strOfNums (putF 9 (foldI n)) ++ b) a.size 10 0 0 = ⟨n, (a.size + (strOfNums (putF 9 (foldI n))).size : Nat), 0⟩ := by
  have hf := foldI_le n h0 h1
  have hs : (strOfNums (putF 9 (foldI n))).size = (putF 9 (foldI n)).length := by simp [strOfNums, ByteArray.size]
  have := get_put (a ++ strOfNums (putF 9 (foldI n)) ++ b) a.size 9 0 (foldI n) 0 (pw9_lt hf) rfl (fun j hj => by
    rw [Nat.add_zero, bU_left _ _ _ (by rw [ByteArray.size_append]; omega), bU_right]
    exact bU_nums _ (putF_mem _ _ (pw9_lt hf)) j hj) (by rw [ByteArray.size_append, ByteArray.size_append]; omega) (by omega) (by simpa using hf)
  rw [this]
  simp [unI_foldI, hs]
/-- Without its last byte it is short. -/
theorem num_short (n : Int) (h0 : -9223372036854775808 ≤ n) (h1 : n ≤ 9223372036854775807) :
    getR ((strOfNums (putF 9 (foldI n))).extract 0 ((strOfNums (putF 9 (foldI n))).size - 1)) 0 10 0 0 = .bad 4 := by
  have hf := foldI_le n h0 h1
  have hs : (strOfNums (putF 9 (foldI n))).size = (putF 9 (foldI n)).length := by simp [strOfNums, ByteArray.size]
  have hp := putF_pos 9 (foldI n)
  refine getU_short _ 0 9 0 (foldI n) 0 rfl (fun j hj => ?_) ?_
  · rw [Nat.add_zero, Nat.zero_add, bU_extract _ _ _ (by omega) (by omega)]
    exact bU_nums _ (putF_mem _ _ (pw9_lt hf)) j (by omega)
  · rw [ByteArray.size_extract]; omega
end Go.Proofs.YtjkmfjegphpjkaaGreatDoor
