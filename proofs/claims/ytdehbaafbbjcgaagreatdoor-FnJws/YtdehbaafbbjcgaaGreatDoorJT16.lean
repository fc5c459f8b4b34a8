/- Things, numbers and arcs come back from their bytes. Plain mathematics: no program is named here. -/
import Derived.Test.YtdehbaafbbjcgaaGreatDoorJT14
import Derived.Test.YtdehbaafbbjcgaaGreatDoorJT15
namespace Go.Proofs.YtdehbaafbbjcgaaGreatDoor
open Go.RowKit

theorem bN_left {a b : ByteArray} {j : Nat} (h : j < a.size) : bN (a ++ b) j = bN a j := by
  have h' : j < a.data.toList.length := by rw [← Lib.size_eq]; exact h
  simp only [bN, ByteArray.data_append, Array.toList_append]
  rw [List.getD, List.getD, List.getElem?_append_left h']
theorem bN_right (a b : ByteArray) (j : Nat) : bN (a ++ b) (a.size + j) = bN b j := by
  simp only [bN, ByteArray.data_append, Array.toList_append]
  rw [List.getD, List.getD, List.getElem?_append_right (by rw [← Lib.size_eq]; omega), ← Lib.size_eq, show a.size + j - a.size = j from by omega]
theorem bN_str {xs : List Int} {j : Nat} (hj : j < xs.length) (hb : ∀ x ∈ xs, 0 ≤ x ∧ x < 256) : (bN (strOfNums xs) j : Int) = xs.getD j 0 := by
  have hm := hb (xs[j]) (List.getElem_mem hj)
  simp only [bN, strOfNums_data]
  rw [List.getD, List.getElem?_map, List.getElem?_eq_getElem hj, List.getD, List.getElem?_eq_getElem hj]
  simp only [Option.map_some, Option.getD_some, UInt8.toNat_ofNat']
  omega
theorem ext_list (s : ByteArray) (i j : Nat) : (s.extract i j).data.toList = (s.data.toList.take j).drop i := by
  rw [ByteArray.data_extract, Array.toList_extract, List.extract_eq_take_drop, List.take_drop]
  rcases Nat.le_total i j with h | h
  · rw [show i + (j - i) = j from by omega]
  · rw [List.drop_eq_nil_of_le (by rw [List.length_take]; omega), List.drop_eq_nil_of_le (by rw [List.length_take]; omega)]
theorem bN_ext {s : ByteArray} {i j k : Nat} (h : i + k < j) : bN (s.extract i j) k = bN s (i + k) := by
  simp only [bN, ext_list]
  rw [List.getD, List.getD, List.getElem?_drop, List.getElem?_take, if_pos h]
/-- What is got, by the first bytes. -/
theorem getAt_thing {s : ByteArray} {k t n : Nat} (hn : n ≤ 4000) (ht : tagB (t : Int) = true) (h0 : k < s.size → bN s k = t)
    (hj : ∀ j, j < (lenD n).length → k + 1 + j < s.size → (bN s (k + 1 + j) : Int) = (lenD n).getD j 0) :
    getAt s k = if s.size < k + 1 + (lenD n).length + n then .bad 4 else ⟨(t : Int), s.extract (k + 1 + (lenD n).length) (k + 1 + (lenD n).length + n), ((k + 1 + (lenD n).length + n : Nat) : Int), 0⟩ := by
  by_cases e0 : s.size ≤ k
  · rw [getAt_end e0, if_pos (by omega)]
  have b0 := h0 (by omega)
  have ht' : tagB (bN s k : Int) = true := by rw [b0]; exact ht
  have hlo := lenD_one n
  by_cases e1 : s.size = k + 1
  · rw [getAt_one e1 ht', if_pos (by omega)]
  by_cases c1 : n < 128
  · have hl : lenD n = [(n : Int)] := by rw [lenD, if_pos c1]
    have b1 : bN s (k + 1) = n := by have := hj 0 (by rw [hl]; simp) (by omega); rw [hl] at this; simp at this; omega
    rw [getAt_low (by omega) ht' (by omega), b0, b1, hl]
    rfl
  by_cases c2 : n < 256
  · have hl : lenD n = [129, (n : Int)] := by rw [lenD, if_neg c1, if_pos c2]
    have b1 : bN s (k + 1) = 129 := by have := hj 0 (by rw [hl]; simp) (by omega); rw [hl] at this; simp at this; omega
    rw [getAt_129 (by omega) ht' b1, b0, hl]
    by_cases e2 : s.size ≤ k + 2
    · rw [if_pos e2, if_pos (by simp; omega)]
    · have b2 : bN s (k + 2) = n := by have := hj 1 (by rw [hl]; simp) (by omega); rw [hl] at this; simp at this; rw [show k + 1 + 1 = k + 2 from rfl] at this; omega
      rw [if_neg e2, b2, if_neg c1]
      rfl
  · have hl : lenD n = [130, ((n / 256 : Nat) : Int), ((n % 256 : Nat) : Int)] := by rw [lenD, if_neg c1, if_neg c2]
    have b1 : bN s (k + 1) = 130 := by have := hj 0 (by rw [hl]; simp) (by omega); rw [hl] at this; simp at this; omega
    rw [getAt_130 (by omega) ht' b1, b0, hl]
    by_cases e2 : s.size ≤ k + 3
    · rw [if_pos e2, if_pos (by simp; omega)]
    · have b2 : bN s (k + 2) = n / 256 := by have := hj 1 (by rw [hl]; simp) (by omega); rw [hl] at this; simp at this; rw [show k + 1 + 1 = k + 2 from rfl] at this; omega
      have b3 : bN s (k + 3) = n % 256 := by have := hj 2 (by rw [hl]; simp) (by omega); rw [hl] at this; simp at this; rw [show k + 1 + 2 = k + 3 from rfl] at this; omega
      rw [if_neg e2, b2, b3, show 256 * (n / 256) + n % 256 = n from by omega, if_neg c2, if_neg (by omega)]
      rfl
theorem lenD_byte {n : Nat} (h : n ≤ 65535) : ∀ x ∈ lenD n, 0 ≤ x ∧ x < 256 := by
  intro x hx
  unfold lenD at hx
  split at hx
  · simp at hx; omega
  · split at hx
    · simp at hx; omega
    · simp at hx; omega
theorem thing_byte {t n : Nat} {b : ByteArray} (hb : b.size = n) (ht : t < 256) (hn : n ≤ 65535) : bN (thingD (t : Int) b) 0 = t ∧ ∀ j, j < (lenD n).length → (bN (thingD (t : Int) b) (1 + j) : Int) = (lenD n).getD j 0 := by
  have hbs : ∀ x ∈ headD (t : Int) n, 0 ≤ x ∧ x < 256 := by
    intro x hx
    rcases List.mem_cons.1 hx with rfl | hx
    · omega
    · exact lenD_byte hn x hx
  unfold thingD
  rw [hb]
  refine ⟨?_, fun j hj => ?_⟩
  · rw [bN_left (by rw [strOfNums_size]; simp [headD])]
    have := bN_str (j := 0) (xs := headD (t : Int) n) (by simp [headD]) hbs
    simp [headD] at this ⊢; omega
  · rw [bN_left (by rw [strOfNums_size]; simp [headD]; omega), bN_str (by simp [headD]; omega) hbs]
    rw [Nat.add_comm]; simp [headD, List.getD]
/-- A thing is got back, whatever stands ahead of it and behind it. -/
theorem get_back (p x : ByteArray) {t : Nat} {b : ByteArray} (ht : tagB (t : Int) = true) (hb : b.size ≤ 4000) :
    getAt (p ++ thingD (t : Int) b ++ x) p.size = ⟨(t : Int), b, ((p.size + (thingD (t : Int) b).size : Nat) : Int), 0⟩ := by
  obtain ⟨q0, q1, _⟩ := tagB_iff.1 ht
  obtain ⟨h0, hj⟩ := thing_byte (b := b) rfl (t := t) (by omega) (by omega)
  have hs := thingD_size (t : Int) b
  have at' : ∀ j, j < (thingD (t : Int) b).size → bN (p ++ thingD (t : Int) b ++ x) (p.size + j) = bN (thingD (t : Int) b) j := fun j hj => by
    rw [bN_left (by rw [ByteArray.size_append]; omega), bN_right]
  have key := getAt_thing (s := p ++ thingD (t : Int) b ++ x) (k := p.size) hb ht (fun _ => by have := at' 0 (by omega); rw [Nat.add_zero] at this; rw [this, h0])
    (fun j h1 _ => by rw [show p.size + 1 + j = p.size + (1 + j) from by omega, at' (1 + j) (by omega)]; exact hj j h1)
  rw [key, if_neg (by rw [ByteArray.size_append, ByteArray.size_append, hs]; omega)]
  have he : (p ++ thingD (t : Int) b ++ x).extract (p.size + 1 + (lenD b.size).length) (p.size + 1 + (lenD b.size).length + b.size) = b := by
    refine ByteArray.ext (Array.toList_inj.1 ?_)
    rw [ext_list]
    have e : (p ++ thingD (t : Int) b ++ x).data.toList = (p.data.toList ++ (strOfNums (headD (t : Int) b.size)).data.toList) ++ (b.data.toList ++ x.data.toList) := by simp [thingD, ByteArray.data_append]
    have l1 : (p.data.toList ++ (strOfNums (headD (t : Int) b.size)).data.toList).length = p.size + 1 + (lenD b.size).length := by
      rw [List.length_append, ← Lib.size_eq, ← Lib.size_eq, strOfNums_size, headD, List.length_cons]; omega
    rw [e, List.take_append, List.drop_append, l1, List.drop_eq_nil_of_le (by rw [List.length_take, l1]; omega), List.nil_append]
    rw [show p.size + 1 + (lenD b.size).length + b.size - (p.size + 1 + (lenD b.size).length) = b.size from by omega]
    rw [List.length_take, l1, show p.size + 1 + (lenD b.size).length - min (p.size + 1 + (lenD b.size).length + b.size) (p.size + 1 + (lenD b.size).length) = 0 from by omega, List.drop_zero, List.take_append, ← Lib.size_eq, List.take_of_length_le (by rw [← Lib.size_eq]; omega)]
    simp
  rw [he]
  congr 2
  omega
/-- Of fewer bytes it is short. -/
theorem get_short {t : Nat} {b : ByteArray} {k : Nat} (ht : tagB (t : Int) = true) (hb : b.size ≤ 4000) (hk : k < (thingD (t : Int) b).size) : getAt ((thingD (t : Int) b).extract 0 k) 0 = .bad 4 := by
  obtain ⟨q0, q1, _⟩ := tagB_iff.1 ht
  obtain ⟨h0, hj⟩ := thing_byte (b := b) rfl (t := t) (by omega) (by omega)
  have hs := thingD_size (t : Int) b
  have hsz : ((thingD (t : Int) b).extract 0 k).size = k := by rw [ByteArray.size_extract]; omega
  have key := getAt_thing (s := (thingD (t : Int) b).extract 0 k) (k := 0) hb ht (fun h => by rw [bN_ext (by omega), Nat.zero_add, h0])
    (fun j h1 h2 => by rw [bN_ext (by omega), show 0 + (0 + 1 + j) = 1 + j from by omega]; exact hj j h1)
  rw [key, if_pos (by omega)]
/-- Where a thing is got, its bytes are known. -/
theorem getAt_form {s : ByteArray} {k : Nat} (h : (getAt s k).code = 0) : ∃ n, n ≤ 4000 ∧ k + 1 + (lenD n).length + n ≤ s.size ∧ tagB (bN s k : Int) = true ∧
    getAt s k = ⟨(bN s k : Int), s.extract (k + 1 + (lenD n).length) (k + 1 + (lenD n).length + n), ((k + 1 + (lenD n).length + n : Nat) : Int), 0⟩ ∧ ∀ j, j < (lenD n).length → (lenD n).getD j 0 = (bN s (k + 1 + j) : Int) := by
  by_cases e0 : s.size ≤ k
  · rw [getAt_end e0] at h; simp [GetR.bad] at h
  cases ht : tagB (bN s k : Int) with
  | false => rw [getAt_tag (by omega) ht] at h; simp [GetR.bad] at h
  | true =>
    by_cases e1 : s.size = k + 1
    · rw [getAt_one e1 ht] at h; simp [GetR.bad] at h
    by_cases c1 : bN s (k + 1) < 128
    · have hl : lenD (bN s (k + 1)) = [(bN s (k + 1) : Int)] := by rw [lenD, if_pos c1]
      rw [getAt_low (by omega) ht c1] at h ⊢
      by_cases hsz : s.size < k + 2 + bN s (k + 1)
      · rw [bodyAt_short hsz] at h; simp [GetR.bad] at h
      · refine ⟨bN s (k + 1), by omega, by rw [hl]; simp; omega, rfl, by rw [bodyAt_ok (by omega), hl]; rfl, fun j hj => ?_⟩
        rw [hl] at hj ⊢
        obtain rfl : j = 0 := by simp at hj; omega
        rfl
    by_cases c2 : bN s (k + 1) = 129
    · rw [getAt_129 (by omega) ht c2] at h ⊢
      by_cases e2 : s.size ≤ k + 2
      · rw [if_pos e2] at h; simp [GetR.bad] at h
      · rw [if_neg e2] at h ⊢
        by_cases c3 : bN s (k + 2) < 128
        · rw [if_pos c3] at h; simp [GetR.bad] at h
        · rw [if_neg c3] at h ⊢
          have hlt := bN_lt s (k + 2)
          have hl : lenD (bN s (k + 2)) = [129, (bN s (k + 2) : Int)] := by rw [lenD, if_neg c3, if_pos hlt]
          by_cases hsz : s.size < k + 3 + bN s (k + 2)
          · rw [bodyAt_short hsz] at h; simp [GetR.bad] at h
          · refine ⟨bN s (k + 2), by omega, by rw [hl]; simp; omega, rfl, by rw [bodyAt_ok (by omega), hl]; rfl, fun j hj => ?_⟩
            rw [hl] at hj ⊢
            have : j = 0 ∨ j = 1 := by simp at hj; omega
            rcases this with rfl | rfl
            · rw [show k + 1 + 0 = k + 1 from rfl, c2]; rfl
            · rfl
    by_cases c3 : bN s (k + 1) = 130
    · rw [getAt_130 (by omega) ht c3] at h ⊢
      by_cases e2 : s.size ≤ k + 3
      · rw [if_pos e2] at h; simp [GetR.bad] at h
      · rw [if_neg e2] at h ⊢
        obtain ⟨n, hn⟩ : ∃ n, n = 256 * bN s (k + 2) + bN s (k + 3) := ⟨_, rfl⟩
        rw [← hn] at h ⊢
        by_cases c4 : n < 256
        · rw [if_pos c4] at h; simp [GetR.bad] at h
        · rw [if_neg c4] at h ⊢
          by_cases c5 : 4000 < n
          · rw [if_pos c5] at h; simp [GetR.bad] at h
          · rw [if_neg c5] at h ⊢
            have h2 := bN_lt s (k + 2)
            have h3 := bN_lt s (k + 3)
            have hl : lenD n = [130, ((n / 256 : Nat) : Int), ((n % 256 : Nat) : Int)] := by rw [lenD, if_neg (by omega), if_neg c4]
            by_cases hsz : s.size < k + 4 + n
            · rw [bodyAt_short hsz] at h; simp [GetR.bad] at h
            · refine ⟨n, by omega, by rw [hl]; simp; omega, rfl, by rw [bodyAt_ok (by omega), hl]; rfl, fun j hj => ?_⟩
              rw [hl] at hj ⊢
              have : j = 0 ∨ j = 1 ∨ j = 2 := by simp at hj; omega
              rcases this with rfl | rfl | rfl
              · rw [show k + 1 + 0 = k + 1 from rfl, c3]; rfl
              · show ((n / 256 : Nat) : Int) = (bN s (k + 2) : Int); omega
              · show ((n % 256 : Nat) : Int) = (bN s (k + 3) : Int); omega
    · rw [getAt_many (by omega) ht (by omega) c2 c3] at h; simp [GetR.bad] at h
theorem bytes_eq {a b : ByteArray} (hs : a.size = b.size) (h : ∀ j, j < a.size → bN a j = bN b j) : a = b := by
  refine ByteArray.ext (Array.toList_inj.1 (List.ext_getElem? (fun j => ?_)))
  rcases Nat.lt_or_ge j a.size with hj | hj
  · have ha : j < a.data.toList.length := by rw [← Lib.size_eq]; exact hj
    have hb : j < b.data.toList.length := by rw [← Lib.size_eq]; omega
    have := h j hj
    simp only [bN, List.getD, List.getElem?_eq_getElem ha, List.getElem?_eq_getElem hb, Option.getD_some] at this
    rw [List.getElem?_eq_getElem ha, List.getElem?_eq_getElem hb, UInt8.toNat_inj.1 this]
  · rw [List.getElem?_eq_none (by rw [← Lib.size_eq]; exact hj), List.getElem?_eq_none (by rw [← Lib.size_eq]; omega)]
/-- What is got is written by just these bytes. -/
theorem get_written {s : ByteArray} {k : Nat} (h : (getAt s k).code = 0) : s.extract k (getAt s k).at'.toNat = putD (getAt s k).tag (getAt s k).body := by
  obtain ⟨n, hn, hsz, ht, e, hj⟩ := getAt_form h
  rw [e]
  simp only
  obtain ⟨f, hf⟩ : ∃ f, f = k + 1 + (lenD n).length := ⟨_, rfl⟩
  rw [← hf] at hsz ⊢
  have hbs : (s.extract f (f + n)).size = n := by rw [ByteArray.size_extract]; omega
  rw [putD_right ht (by omega)]
  have hlt := bN_lt s k
  obtain ⟨h0, hj'⟩ := thing_byte (b := s.extract f (f + n)) hbs (t := bN s k) hlt (by omega)
  have hts := thingD_size (bN s k : Int) (s.extract f (f + n))
  rw [hbs] at hts
  rw [show (((f + n : Nat) : Int).toNat) = f + n from rfl]
  refine bytes_eq (by rw [ByteArray.size_extract, hts]; omega) (fun j hjl => ?_)
  rw [ByteArray.size_extract] at hjl
  rw [bN_ext (by omega)]
  rcases Nat.lt_or_ge j (1 + (lenD n).length) with hh | hh
  · cases j with
    | zero => rw [Nat.add_zero, h0]
    | succ j =>
      have a1 := hj j (by omega)
      have a2 := hj' j (by omega)
      rw [show j + 1 = 1 + j from by omega, show k + (1 + j) = k + 1 + j from by omega]
      omega
  · obtain ⟨i, rfl⟩ : ∃ i, j = (1 + (lenD n).length) + i := ⟨j - (1 + (lenD n).length), by omega⟩
    have hhs : (strOfNums (headD (bN s k : Int) n)).size = 1 + (lenD n).length := by rw [strOfNums_size, headD, List.length_cons]; omega
    unfold thingD
    rw [hbs, ← hhs, bN_right, bN_ext (by omega), hhs]
    congr 1; omega
theorem all_two {t : Nat} {b : ByteArray} (ht : tagB (t : Int) = true) (hb : b.size ≤ 4000) : allD (thingD (t : Int) b ++ thingD (t : Int) b) = ([((t : Int), b), ((t : Int), b)], 0) := by
  have hs := thingD_size (t : Int) b
  have hl := lenD_one b.size
  have hu := thingD_le (t : Int) b
  have e1 := get_back ByteArray.empty (thingD (t : Int) b) ht hb
  have e2 := get_back (thingD (t : Int) b) ByteArray.empty ht hb
  rw [ByteArray.empty_append] at e1
  rw [ByteArray.append_empty] at e2
  simp only [ByteArray.size_empty, Nat.zero_add] at e1
  generalize thingD (t : Int) b = q at *
  have hq : (q ++ q).size = q.size + q.size := ByteArray.size_append
  unfold allD
  rw [if_neg (by omega), allR_more (by omega) (by rw [e1]) (by simp), e1]
  simp only [Int.toNat_natCast, List.nil_append]
  obtain ⟨g, hg⟩ : ∃ g, (q ++ q).size = g + 1 := ⟨(q ++ q).size - 1, by omega⟩
  rw [hg, allR_more (by omega) (by rw [e2]) (by simp), e2]
  simp only [Int.toNat_natCast]
  rw [allR_end (by omega)]; rfl
/-- The number of bytes, from a sign on. -/
def svL (z : Int) (l : List Int) : Int := l.foldl (fun v b => v * 256 + b) z
theorem svL_int : ∀ (f : Nat) (m : Int), Fits f m → svL (if m < 0 then -1 else 0) (intF f m) = m ∧ ((intF f m).getD 0 0 ≥ 128 ↔ m < 0)
  | 0, m, h => by
    unfold Fits lim at h
    simp only [intF, svL, List.foldl_cons, List.foldl_nil, List.getD_cons_zero]
    split <;> omega
  | f + 1, m, h => by
    by_cases c : -128 ≤ m ∧ m < 128
    · rw [intF, if_pos c]
      simp only [svL, List.foldl_cons, List.foldl_nil, List.getD_cons_zero]
      split <;> omega
    · obtain ⟨g, e, hg, ee⟩ := intF_more c h
      obtain rfl : f = g := by omega
      obtain ⟨i1, i2⟩ := svL_int f (m / 256) hg
      have hlen := (intF_len f (m / 256)).1
      rw [ee]
      refine ⟨?_, ?_⟩
      · have hsg : (if m < 0 then (-1 : Int) else 0) = if m / 256 < 0 then -1 else 0 := by split <;> split <;> omega
        rw [hsg]
        simp only [svL, List.foldl_append, List.foldl_cons, List.foldl_nil] at i1 ⊢
        rw [i1]; omega
      · rw [List.getD, List.getElem?_append_left (by omega), ← List.getD, i2]; omega
theorem sv_str {xs : List Int} (hb : ∀ x ∈ xs, 0 ≤ x ∧ x < 256) : ∀ k, k ≤ xs.length → sv (strOfNums xs) k = svL (sv (strOfNums xs) 0) (xs.take k)
  | 0, _ => by simp [svL]
  | k + 1, hk => by
    show sv (strOfNums xs) k * 256 + (bN (strOfNums xs) k : Int) = _
    rw [sv_str hb k (by omega), bN_str (by omega) hb, List.take_succ_eq_append_getElem (by omega)]
    simp only [svL, List.foldl_append, List.foldl_cons, List.foldl_nil]
    rw [List.getD, List.getElem?_eq_getElem (by omega)]; rfl
/-- A number comes back from its body. -/
theorem int_back {n : Int} (h0 : -9223372036854775808 ≤ n) (h1 : n ≤ 9223372036854775807) : intR (strOfNums (intL n)) = (n, 0) := by
  have hb : ∀ x ∈ intL n, 0 ≤ x ∧ x < 256 := fun x hx => intF_byte 7 n x hx
  have hl := intL_len n
  have hs : (strOfNums (intL n)).size = (intL n).length := strOfNums_size _
  obtain ⟨i1, i2⟩ := svL_int 7 n (fits7 h0 h1)
  have hz : sv (strOfNums (intL n)) 0 = if n < 0 then -1 else 0 := by
    have b0 := bN_str (j := 0) (xs := intL n) (by omega) hb
    rw [sv]
    have : (intL n).getD 0 0 ≥ 128 ↔ n < 0 := i2
    by_cases hn : n < 0
    · rw [if_pos hn, if_pos (by have := this.2 hn; omega)]
    · rw [if_neg hn, if_neg (by intro h; exact hn (this.1 (by omega)))]
  have hv : sv (strOfNums (intL n)) (strOfNums (intL n)).size = n := by
    rw [hs, sv_str hb _ (Nat.le_refl _), List.take_length, hz]; exact i1
  rw [intR_good (by omega) (by omega) (by rw [hv]), hv]
/-- Arcs come back from their body. -/
theorem oid_back {l : List Int} (h : arcsB l = true) : oidR (strOfNums (oidL l)) = (l, 0) := by
  have hs : (strOfNums (oidL l)).size ≤ 45 := by rw [strOfNums_size]; exact oidL_len h
  have hq : oidQ (bl (strOfNums (oidL l))) = some l := (oidQ_iff (bl_lt _)).2 ⟨h, (bl_str (oidTo_byte l _)).symm⟩
  unfold oidR
  rw [if_neg (by omega), hq]
/-- The body behind a short head. -/
theorem thing_body {t : Int} {b : ByteArray} (hb : b.size < 128) : (thingD t b).extract 2 (thingD t b).size = b ∧ (thingD t b).size = b.size + 2 := by
  have hl : lenD b.size = [(b.size : Int)] := by rw [lenD, if_pos hb]
  have hs := thingD_size t b
  rw [hl] at hs
  have hs2 : (thingD t b).size = b.size + 2 := by rw [hs]; simp; omega
  refine ⟨?_, hs2⟩
  rw [hs2]
  refine ByteArray.ext (Array.toList_inj.1 ?_)
  rw [ext_list]
  have e : (thingD t b).data.toList = (strOfNums (headD t b.size)).data.toList ++ b.data.toList := by simp [thingD, ByteArray.data_append]
  have l1 : (strOfNums (headD t b.size)).data.toList.length = 2 := by rw [← Lib.size_eq, strOfNums_size, headD, hl]; rfl
  rw [e, List.take_of_length_le (by rw [List.length_append, l1, ← Lib.size_eq]; omega), List.drop_append, l1, List.drop_eq_nil_of_le (by omega)]
  simp
end Go.Proofs.YtdehbaafbbjcgaaGreatDoor
