/- Plain mathematics: a text comes back from its digits of sixteen, and digits from their text. -/
import Derived.Test.YtdckeokfcckemaaHexA
import Derived.Test.YtdckeokfcckemaaReadA
namespace Go.Proofs.Ytdckeokfcckemaa
open Go.RowKit Go.Lib

theorem hexN_bd (q : Nat) (h : q < 16) : 48 ≤ hexN q ∧ hexN q ≤ 102 := by unfold hexN; split <;> omega
theorem hexD_hexN (q : Nat) (h : q < 16) : hexD (hexN q) = q := by
  unfold hexD hexN
  split
  · rw [if_pos (by omega)]; omega
  · rw [if_neg (by omega), if_pos (by omega)]; omega
theorem hexN_hexD (c : Int) (h : 0 ≤ hexD c) : hexN (hexD c).toNat = c ∧ (hexD c).toNat < 16 := by
  unfold hexD at *
  split at h
  · rename_i h1
    rw [if_pos h1]
    unfold hexN
    rw [if_pos (by omega)]
    omega
  · rename_i h1
    split at h
    · rename_i h2
      rw [if_neg h1, if_pos h2]
      unfold hexN
      rw [if_neg (by omega)]
      omega
    · omega
theorem hexL_getD (l : List UInt8) (j : Nat) (h : j < l.length) : (hexL l).getD (2 * j) 0 = hexN (l[j].toNat / 16) ∧ (hexL l).getD (2 * j + 1) 0 = hexN (l[j].toNat % 16) := by
  induction l generalizing j with
  | nil => simp at h
  | cons c l ih =>
    have e : hexL (c :: l) = hexN (c.toNat / 16) :: hexN (c.toNat % 16) :: hexL l := by simp [hexL]
    rw [e]
    cases j with
    | zero => simp
    | succ j =>
      have := ih j (by simpa using h)
      rw [show 2 * (j + 1) = 2 * j + 1 + 1 from by omega]
      simpa using this
theorem bAt_nums (xs : List Int) (h : ∀ x ∈ xs, 0 ≤ x ∧ x ≤ 255) (j : Nat) (hj : j < xs.length) : bAt (strOfNums xs) j = xs.getD j 0 := by
  have hx := h xs[j] (List.getElem_mem hj)
  have e : (strOfNums xs).data.toList = xs.map fun n => UInt8.ofNat n.toNat := by simp [strOfNums]
  unfold bAt
  rw [e]
  simp only [List.getD, List.getElem?_map, List.getElem?_eq_getElem hj, Option.map_some, Option.getD_some]
  rw [UInt8.toNat_ofNat_of_lt' (by simp [UInt8.size]; omega)]
  omega
theorem hexL_mem (l : List UInt8) : ∀ x ∈ hexL l, 0 ≤ x ∧ x ≤ 255 := by
  intro x hx
  simp only [hexL, List.mem_flatMap] at hx
  obtain ⟨b, _, hb⟩ := hx
  have hlt := b.toNat_lt
  have h1 := hexN_bd (b.toNat / 16) (by omega)
  have h2 := hexN_bd (b.toNat % 16) (by omega)
  simp only [List.mem_cons, List.not_mem_nil, or_false] at hb
  rcases hb with rfl | rfl <;> omega
theorem size_str (xs : List Int) : (strOfNums xs).size = xs.length := by simp [strOfNums, ByteArray.size]
theorem str_bytes (t : ByteArray) : strOfNums (t.data.toList.map fun b => (b.toNat : Int)) = t := by
  have e : (t.data.toList.map fun b => (b.toNat : Int)).map (fun n => UInt8.ofNat n.toNat) = t.data.toList := by
    rw [List.map_map]
    refine (List.map_congr_left (g := id) (fun b _ => ?_)).trans (List.map_id _)
    simp
  unfold strOfNums
  rw [e]
/-- A text comes back from its digits of sixteen. -/
theorem read_hex (t : ByteArray) (ht : t.size ≤ 10000) : hexOut (strOfNums (hexL t.data.toList)) = outV t 0 0 := by
  have hl := hexL_len t.data.toList
  have hz := size_eq t
  have hs : (strOfNums (hexL t.data.toList)).size = 2 * t.size := by rw [size_str, hl, ← hz]
  have hb : ∀ j, j < t.size → ∃ c : UInt8, t.data.toList[j]? = some c ∧ bAt (strOfNums (hexL t.data.toList)) (2 * j) = hexN (c.toNat / 16) ∧ bAt (strOfNums (hexL t.data.toList)) (2 * j + 1) = hexN (c.toNat % 16) := by
    intro j hj
    have hj' : j < t.data.toList.length := by omega
    have hg := hexL_getD t.data.toList j hj'
    refine ⟨t.data.toList[j], List.getElem?_eq_getElem hj', ?_, ?_⟩
    · rw [bAt_nums _ (hexL_mem _) _ (by omega)]; exact hg.1
    · rw [bAt_nums _ (hexL_mem _) _ (by omega)]; exact hg.2
  rw [hexOut_good _ t.size (by omega) hs]
  · congr 1
    have e : unL (strOfNums (hexL t.data.toList)) t.size = t.data.toList.map fun b => (b.toNat : Int) := by
      apply List.ext_getElem
      · rw [unL_len, List.length_map, ← hz]
      · intro j h1 h2
        rw [unL_len] at h1
        obtain ⟨c, hc, e1, e2⟩ := hb j h1
        have hlt := c.toNat_lt
        simp only [unL, List.getElem_map, List.getElem_range]
        rw [e1, e2, hexD_hexN _ (by omega), hexD_hexN _ (by omega)]
        have : t.data.toList[j]'(by rw [List.length_map] at h2; exact h2) = c := by
          rw [List.getElem?_eq_some_iff] at hc
          exact hc.2
        rw [this]
        omega
    rw [e]
    exact str_bytes t
  · rw [goodTo_iff]
    intro j hj
    obtain ⟨c, _, e1, e2⟩ := hb (j / 2) (by omega)
    have hlt := c.toNat_lt
    by_cases ho : j % 2 = 0
    · rw [show j = 2 * (j / 2) from by omega, e1, hexD_hexN _ (by omega)]; omega
    · rw [show j = 2 * (j / 2) + 1 from by omega, e2, hexD_hexN _ (by omega)]; omega
/-- What is read of digits is told by just these. -/
theorem hex_read (u t : ByteArray) (a : Int) (h : hexOut u = outV t a 0) : strOfNums (hexL t.data.toList) = u ∧ t.size ≤ 10000 := by
  unfold hexOut at h
  split at h
  · simp [outV] at h
  · rename_i h1
    split at h
    · rename_i h2
      obtain ⟨hev, hgood⟩ := h2
      simp only [outV, Value.agg.injEq] at h
      have ht : strOfNums (unL u (u.size / 2)) = t := by
        have h' := congrArg Array.toList h
        simp only [List.cons.injEq, Value.string.injEq] at h'
        exact h'.1
      rw [goodTo_iff] at hgood
      have hsz : t.size = u.size / 2 := by rw [← ht, size_str, unL_len]
      refine ⟨?_, by omega⟩
      have hub : ∀ j, j < u.size → ∃ c : UInt8, u.data.toList[j]? = some c ∧ bAt u j = (c.toNat : Int) := by
        intro j hj
        have hj' : j < u.data.toList.length := by rw [← size_eq]; exact hj
        exact ⟨_, List.getElem?_eq_getElem hj', by simp [bAt, List.getD, List.getElem?_eq_getElem hj']⟩
      have e : hexL t.data.toList = u.data.toList.map fun b => (b.toNat : Int) := by
        apply List.ext_getElem
        · rw [hexL_len, List.length_map, ← size_eq, ← size_eq]; omega
        · intro i h1' h2'
          have hi : i < u.size := by rw [List.length_map, ← size_eq] at h2'; exact h2'
          have hj : i / 2 < t.data.toList.length := by rw [← size_eq]; omega
          have hg := hexL_getD t.data.toList (i / 2) hj
          obtain ⟨c, hc, hbc⟩ := hub i hi
          have hd0 := hexN_hexD _ (hgood (2 * (i / 2)) (by omega))
          have hd1 := hexN_hexD _ (hgood (2 * (i / 2) + 1) (by omega))
          have hp0 := hgood (2 * (i / 2)) (by omega)
          have hp1 := hgood (2 * (i / 2) + 1) (by omega)
          have hv : (t.data.toList[i / 2].toNat : Int) = 16 * hexD (bAt u (2 * (i / 2))) + hexD (bAt u (2 * (i / 2) + 1)) := by
            have e1 : t.data.toList = (unL u (u.size / 2)).map fun n => UInt8.ofNat n.toNat := by rw [← ht]; simp [strOfNums]
            have e2 : t.data.toList[i / 2]? = some (UInt8.ofNat (16 * hexD (bAt u (2 * (i / 2))) + hexD (bAt u (2 * (i / 2) + 1))).toNat) := by
              rw [e1]
              simp [unL, show i / 2 < u.size / 2 from by omega]
            rw [List.getElem?_eq_getElem hj] at e2
            rw [Option.some.inj e2, UInt8.toNat_ofNat_of_lt' (by simp [UInt8.size]; omega)]
            omega
          have hcc : (u.data.toList.map fun b => (b.toNat : Int))[i] = bAt u i := by
            rw [List.getElem_map, hbc]
            have : u.data.toList[i]'(by rw [List.length_map] at h2'; exact h2') = c := by
              rw [List.getElem?_eq_some_iff] at hc
              exact hc.2
            rw [this]
          rw [hcc]
          have hgd : (hexL t.data.toList)[i] = (hexL t.data.toList).getD i 0 := by simp [List.getD, List.getElem?_eq_getElem h1']
          rw [hgd]
          by_cases ho : i % 2 = 0
          · have ei : i = 2 * (i / 2) := by omega
            rw [show (hexL t.data.toList).getD i 0 = (hexL t.data.toList).getD (2 * (i / 2)) 0 from by rw [← ei], hg.1]
            rw [show t.data.toList[i / 2].toNat / 16 = (hexD (bAt u (2 * (i / 2)))).toNat from by omega, hd0.1, ← ei]
          · have ei : i = 2 * (i / 2) + 1 := by omega
            rw [show (hexL t.data.toList).getD i 0 = (hexL t.data.toList).getD (2 * (i / 2) + 1) 0 from by rw [← ei], hg.2]
            rw [show t.data.toList[i / 2].toNat % 16 = (hexD (bAt u (2 * (i / 2) + 1))).toNat from by omega, hd1.1, ← ei]
      rw [e]
      exact str_bytes u
    · simp [outV] at h
end Go.Proofs.Ytdckeokfcckemaa
