/- spec.HexRead, walked. -/
import Derived.Test.YtdckeokfcckemaaBase
import Derived.Deep.RegionHeld3
namespace Go.Proofs.Ytdckeokfcckemaa
open Go.RowKit Go.Lib

/-- What a digit of sixteen stands for; -1 where it is none. -/
def hexD (n : Int) : Int := if 48 ≤ n ∧ n ≤ 57 then n - 48 else if 97 ≤ n ∧ n ≤ 102 then n - 87 else -1
theorem hexD_bd (n : Int) : -1 ≤ hexD n ∧ hexD n ≤ 15 := by unfold hexD; split <;> (try split) <;> omega
def bAt (s : ByteArray) (j : Nat) : Int := ((s.data.toList.getD j 0).toNat : Int)
theorem bAt_eq (s : ByteArray) (j : Nat) (h : j < s.size) : bAt s j = (s[j].toNat : Int) := by
  have h' : j < s.data.toList.length := by rw [← size_eq]; exact h
  simp [bAt, List.getD, List.getElem?_eq_getElem h']
  rfl
def goodTo (s : ByteArray) (k : Nat) : Bool := (List.range (2 * k)).all fun j => decide (0 ≤ hexD (bAt s j))
def unL (s : ByteArray) (k : Nat) : List Int := (List.range k).map fun j => 16 * hexD (bAt s (2 * j)) + hexD (bAt s (2 * j + 1))
def hexOut (s : ByteArray) : Value :=
  if 20000 < s.size then outV ByteArray.empty 0 2 else if s.size % 2 = 0 ∧ goodTo s (s.size / 2) = true then outV (strOfNums (unL s (s.size / 2))) 0 0 else outV ByteArray.empty 0 3
theorem goodTo_iff (s : ByteArray) (k : Nat) : goodTo s k = true ↔ ∀ j, j < 2 * k → 0 ≤ hexD (bAt s j) := by simp [goodTo]
theorem hexOut_long (s : ByteArray) (h : 20000 < s.size) : hexOut s = outV ByteArray.empty 0 2 := by rw [hexOut, if_pos h]
theorem hexOut_odd (s : ByteArray) (h : s.size ≤ 20000) (h1 : s.size % 2 ≠ 0) : hexOut s = outV ByteArray.empty 0 3 := by
  rw [hexOut, if_neg (by omega), if_neg (by omega)]
theorem hexOut_bad (s : ByteArray) (h : s.size ≤ 20000) (j : Nat) (hj : j < 2 * (s.size / 2)) (h1 : hexD (bAt s j) < 0) : hexOut s = outV ByteArray.empty 0 3 := by
  rw [hexOut, if_neg (by omega), if_neg]
  rintro ⟨_, hg⟩
  have := (goodTo_iff s _).1 hg j hj
  omega
theorem hexOut_good (s : ByteArray) (k : Nat) (h : s.size ≤ 20000) (h1 : s.size = 2 * k) (h2 : goodTo s k = true) : hexOut s = outV (strOfNums (unL s k)) 0 0 := by
  have e : s.size / 2 = k := by omega
  rw [hexOut, if_neg (by omega), e, if_pos ⟨by omega, h2⟩]
theorem goodTo_succ (s : ByteArray) (k : Nat) (h : goodTo s k = true) (h0 : 0 ≤ hexD (bAt s (2 * k))) (h1 : 0 ≤ hexD (bAt s (2 * k + 1))) : goodTo s (k + 1) = true := by
  rw [goodTo_iff] at *
  intro j hj
  by_cases e1 : j = 2 * k
  · rw [e1]; exact h0
  by_cases e2 : j = 2 * k + 1
  · rw [e2]; exact h1
  exact h j (by omega)
theorem unL_succ (s : ByteArray) (k : Nat) : unL s (k + 1) = unL s k ++ [16 * hexD (bAt s (2 * k)) + hexD (bAt s (2 * k + 1))] := by simp [unL, List.range_succ]
theorem unL_len (s : ByteArray) (k : Nat) : (unL s k).length = k := by simp [unL]

theorem specDigit (n : Int) (w : World) (h0 : 0 ≤ n) (h1 : n ≤ 255) :
    Calls Try.prog 17 #[.int .u8 n] w fun e w' => e = .returned (.int .i64 (hexD n)) ∧ w' = w := by
  have hc : n < 48 ∨ (48 ≤ n ∧ n ≤ 57) ∨ (58 ≤ n ∧ n < 97) ∨ (97 ≤ n ∧ n ≤ 102) ∨ 103 ≤ n := by omega
  rcases hc with c | ⟨c, c'⟩ | ⟨c, c'⟩ | ⟨c, c'⟩ | c
  all_goals
    go_enter Try.func17, Try.ntmps17
    go_wp2
    all_goals
      go_ret
      first
        | exact ⟨ret_int (by unfold hexD; split <;> (try split) <;> omega), rfl⟩
        | (exfalso; rename_i hb; simp at hb; omega)

def outCells : Array Value := #[.string ⟨#[]⟩, .int .i64 0, .int .i64 0]
structure ResAt (B T : Nat) (w : World) : Prop where
  c0 : w.cell? ⟨B, 0, none⟩ = some (.string ⟨#[]⟩)
  c1 : w.cell? ⟨B, 1, none⟩ = some (.int .i64 0)
  c2 : w.cell? ⟨B, 2, none⟩ = some (.int .i64 0)
  f0 : w.frozen? ⟨B, 0, none⟩ = false
  f1 : w.frozen? ⟨B, 1, none⟩ = false
  f2 : w.frozen? ⟨B, 2, none⟩ = false
theorem resAt {B T : Nat} {w : World} (h : w.heap[B]? = some (.cells outCells T (0, 0))) : ResAt B T w :=
  ⟨by rw [cell_of_row w B 0 _ T (0, 0) h]; rfl, by rw [cell_of_row w B 1 _ T (0, 0) h]; rfl, by rw [cell_of_row w B 2 _ T (0, 0) h]; rfl,
    frozen_of_row w B 0 _ T h, frozen_of_row w B 1 _ T h, frozen_of_row w B 2 _ T h⟩
theorem appRel {B e T : Nat} {w wr w1 : World} {v v' : Value} {n : Nat} {xs ys : List Value} (o : Obj) (hb : Below B w wr) (hr : wr.heap[B]? = some (.cells outCells T (0, 0))) (hown : wr.ownsRow (B + 1) e 1 v n xs)
    (hown' : w1.ownsRow (B + 1) e 1 v' (n + 1) ys) (hg : (wr.alloc o).grownBy w1 v.ownBlock) :
    w1.ownsRow (B + 1) e 1 v' (n + 1) ys ∧ Below B w w1 ∧ w1.heap[B]? = some (.cells outCells T (0, 0)) ∧ B + 1 ≤ w1.heap.size := by
  have hlt := heap_lt hr
  refine ⟨hown', (hb.alloc (by omega) o).grown hg (by simp; omega) (fun k hk => by have := (hown.lt k hk).1; omega), ?_, ?_⟩
  · rw [hg.block B (by simp; omega) (fun e => by have := (hown.lt B e.symm).1; omega), Below.heap_alloc wr o B hlt]
    exact hr
  · have := hg.size
    simp at this
    omega

set_option maxHeartbeats 2000000 in
set_option maxRecDepth 100000 in
theorem specRead (s : ByteArray) (w : World) (hs : s.size ≤ 20000) :
    Calls Try.prog 8 #[.string s] w fun e w' => e = .returned (hexOut s) ∧ Below w.heap.size w w' := by
  obtain ⟨i0, hi, hz0, hz1, hz2⟩ := info_parts infoByte
  go_enter Try.func8, Try.ntmps8
  go_wp2
  go_loopw [3, 4] (fun b i wr => ∃ k : Nat, 2 * k ≤ s.size ∧ i = .int .i64 (2 * (k : Int)) ∧ goodTo s k = true ∧ wr.ownsRow (w.heap.size + 1) 5 1 b k ((unL s k).map (Value.int .u8)) ∧
      wr.heap[w.heap.size]? = some (.cells outCells 26 (0, 0)) ∧ Below w.heap.size w wr ∧ w.heap.size + 1 ≤ wr.heap.size)
    (fun _ i _ => s.size - (intOf i).toNat)
  case atStart =>
    refine ⟨0, by omega, rfl, by simp [goodTo], ?_, ?_, ((Below.refl _ _).alloc (Nat.le_refl _) _).alloc (by simp) _, by simp⟩
    · have hm := World.ownsRow_made (base := w.heap.size + 1) (e := 5) (size := 1) (w.alloc (.cells outCells 26)) #[] 0 (by simp) (Nat.zero_le _) rfl
      simpa [outCells, unL] using hm
    · rw [Below.heap_alloc _ _ _ (by simp), heap_alloc_new]
      rfl
  case round =>
    obtain ⟨k, hk, rfl, hgood, hown, hres, hbel, hsz⟩ := hrel
    have HG : Hid (goodTo s k = true) := hgood
    have HR : Hid (wr.heap[w.heap.size]? = some (.cells outCells 26 (0, 0))) := hres
    obtain ⟨c0, c1, c2, f0, f1, f2⟩ := resAt hres
    clear hgood hres
    by_cases hlt : 2 * k + 1 < s.size
    · have hu0 := u8_lt (s[2 * k])
      have hu1 := u8_lt (s[2 * k + 1])
      have b0 := bAt_eq s (2 * k) (by omega)
      have b1 := bAt_eq s (2 * k + 1) hlt
      have d0 := hexD_bd (s[2 * k].toNat : Int)
      have d1 := hexD_bd (s[2 * k + 1].toNat : Int)
      have HB0 : Hid (bAt s (2 * k) = (s[2 * k].toNat : Int)) := b0
      have HB1 : Hid (bAt s (2 * k + 1) = (s[2 * k + 1].toNat : Int)) := b1
      clear b0 b1
      go_wp2_with fail
      refine (specDigit _ _ (by omega) (by omega)).mono ?_
      rintro e w2 ⟨rfl, rfl⟩
      go_wp2_with fail
      refine (specDigit _ _ (by omega) (by omega)).mono ?_
      rintro e w2 ⟨rfl, rfl⟩
      rw [← HB0.out] at d0 ⊢
      rw [← HB1.out] at d1 ⊢
      by_cases hn0 : hexD (bAt s (2 * k)) < 0
      · have hfin : Hid (hexOut s = outV ByteArray.empty 0 3) := hexOut_bad s hs (2 * k) (by omega) hn0
        go_wp2
        refine bodyPost_ret (v := .agg #[.string ⟨#[]⟩, .int .i64 0, .int .i64 3]) (by simp [results, Try.results8, go_sem, c0, c1, c2]) rfl ⟨?_, ?_⟩
        · rw [hfin.out]; rfl
        · repeat (first | exact hbel | refine Below.setCell ?_ (by simp) _)
      by_cases hn1 : hexD (bAt s (2 * k + 1)) < 0
      · have hfin : Hid (hexOut s = outV ByteArray.empty 0 3) := hexOut_bad s hs (2 * k + 1) (by omega) hn1
        go_wp2
        refine bodyPost_ret (v := .agg #[.string ⟨#[]⟩, .int .i64 0, .int .i64 3]) (by simp [results, Try.results8, go_sem, c0, c1, c2]) rfl ⟨?_, ?_⟩
        · rw [hfin.out]; rfl
        · repeat (first | exact hbel | refine Below.setCell ?_ (by simp) _)
      go_wp2_with (at_builtin; refine wpList_append_own _ rfl _ _ 22 rfl (w.heap.size + 1) 5 i0 (.int .u8 0) 1 1 Try.underlying22 hi hz0 hz1 hz2 rfl (by decide) _ _ _ rfl (hown.alloc _) ⟨_, 0, none⟩ 1 1 [.int .u8 (16 * hexD (bAt s (2 * k)) + hexD (bAt s (2 * k + 1)))] rfl rfl ?c1 ?c2 ?c3 ?c4 ?c5 ?_)
      case c1 => exact cells_one (by simp)
      case c2 => intro u hu; simp at hu; subst hu; rfl
      case c3 => unfold maxLen; omega
      case c4 => omega
      case c5 => simp; omega
      intro v' w1 hown' hgrow _
      obtain ⟨r1, r2, r3, r4⟩ := appRel _ hbel HR.out hown hown' hgrow
      have HR2 : Hid (w1.heap[w.heap.size]? = some (.cells outCells 26 (0, 0))) := r3
      clear hown' hgrow hown hbel c0 c1 c2 f0 f1 f2 r3
      go_wp2
      go_roundw
      case rel => exact ⟨k + 1, by omega, by go_num, goodTo_succ s k HG.out (by omega) (by omega), by rw [unL_succ]; simpa using r1, HR2.out, r2, r4⟩
      case measure => simp [intOf]; omega
    · by_cases hodd : s.size % 2 = 1
      · have hfin : Hid (hexOut s = outV ByteArray.empty 0 3) := hexOut_odd s hs (by omega)
        go_wp2
        refine bodyPost_ret (v := .agg #[.string ⟨#[]⟩, .int .i64 0, .int .i64 3]) (by simp [results, Try.results8, go_sem, c0, c1, c2]) rfl ⟨?_, ?_⟩
        · rw [hfin.out]; rfl
        · repeat (first | exact hbel | refine Below.setCell ?_ (by simp) _)
      · have hfin : Hid (hexOut s = outV (strOfNums (unL s k)) 0 0) := hexOut_good s k hs (by omega) HG.out
        have hcv := run_convert_own (P := Try.prog) (src := 22) (dst := 9) Try.underlying22 Try.underlying5 Try.underlying9 hown
        clear hown
        go_wp2
        refine bodyPost_ret (v := .agg #[.string (strOfNums (unL s k)), .int .i64 0, .int .i64 0]) (by simp [results, Try.results8, go_sem, c0, c1, c2]) rfl ⟨?_, ?_⟩
        · rw [hfin.out]; rfl
        · repeat (first | exact hbel | refine Below.setCell ?_ (by simp) _)
theorem specRead_long (s : ByteArray) (w : World) (hs : 20000 < s.size) (hm : s.size ≤ maxLen) :
    Calls Try.prog 8 #[.string s] w fun e w' => e = .returned (hexOut s) ∧ Below w.heap.size w w' := by
  unfold maxLen at hm
  go_enter Try.func8, Try.ntmps8
  go_wp2
  refine bodyPost_ret (v := .agg #[.string ⟨#[]⟩, .int .i64 0, .int .i64 2]) (by simp [results, Try.results8, go_sem]) rfl ⟨?_, ?_⟩
  · rw [hexOut_long s hs]; rfl
  · repeat (first | exact Below.refl _ _ | refine Below.setCell ?_ (by simp) _ | refine Below.alloc ?_ (Nat.le_refl _) _)
end Go.Proofs.Ytdckeokfcckemaa
