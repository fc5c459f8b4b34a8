/- impl.HexRead, walked. -/
import Derived.Test.YtdckeokfcckemaaReadA
import Derived.Test.YtdckeokfcckemaaLong
import Derived.Deep.QuietTactic
import Derived.BigQuiet
namespace Go.Proofs.Ytdckeokfcckemaa
open Go.RowKit Go.Lib

theorem implDigit (n : Int) (w : World) (h0 : 0 ≤ n) (h1 : n ≤ 255) :
    Calls Try.prog 16 #[.int .u8 n] w fun e w' => e = .returned (.int .i64 (hexD n)) ∧ w' = w := by
  have hc : n < 48 ∨ (48 ≤ n ∧ n ≤ 57) ∨ (58 ≤ n ∧ n < 97) ∨ (97 ≤ n ∧ n ≤ 102) ∨ 103 ≤ n := by omega
  rcases hc with c | ⟨c, c'⟩ | ⟨c, c'⟩ | ⟨c, c'⟩ | c
  all_goals
    go_enter Try.func16, Try.ntmps16
    go_wp2
    all_goals
      go_ret
      first
        | exact ⟨ret_int (by unfold hexD; split <;> (try split) <;> omega), rfl⟩
        | (exfalso; rename_i hb; simp at hb; omega)

theorem join4 (h l : Int) (h0 : 0 ≤ h) (h1 : h ≤ 15) (l0 : 0 ≤ l) (l1 : l ≤ 15) : bits BinOp.or IntKind.i64 (h * 16) l = 16 * h + l := by
  rw [bits_join .i64 8 (by decide) (fun n a b => by rw [IntKind.wrap_i64]; omega) 4 (h * 16) l (by omega) (by omega) (by omega) l0 (by omega) (by omega)]
  omega
theorem unStep {s : ByteArray} {M : List Value} {k : Nat} (hM : k < M.length) (h : ∀ j, j < k → M[j]? = some (.int .u8 ((unL s k).getD j 0))) :
    ∀ j, j < k + 1 → (M.set k (.int .u8 (16 * hexD (bAt s (2 * k)) + hexD (bAt s (2 * k + 1)))))[j]? = some (.int .u8 ((unL s (k + 1)).getD j 0)) := by
  have hl := unL_len s k
  have e := set_reads (L := M) (xs := unL s k) (y := 16 * hexD (bAt s (2 * k)) + hexD (bAt s (2 * k + 1))) (by omega) (by rw [hl]; exact h)
  rw [← unL_succ, unL_len, hl] at e
  exact e
theorem idxS (s : ByteArray) (j : Nat) (h : j < s.size) (i : Int) (e : i = (j : Int)) (w : World) :
    (Instr.index 9 (.string s) (.int .i64 i)).run Try.prog w = .ok (.int .u8 (s[j].toNat : Int)) w := by
  subst e
  rw [run_index_string w _ s .i64 _ Try.underlying9, dif_pos ⟨by omega, by omega⟩]
  simp

set_option maxHeartbeats 2000000 in
set_option maxRecDepth 100000 in
theorem implRead (s : ByteArray) (w : World) (hs : s.size ≤ 20000) :
    Calls Try.prog 7 #[.string s] w fun e w' => e = .returned (hexOut s) ∧ Below w.heap.size w w' := by
  obtain ⟨i0, hi, hz0, hz1, hz2⟩ := info_parts infoByte
  have hd : decide (20000 < s.size) = false := by simp; omega
  by_cases hodd : s.size % 2 = 1
  · have hfin : Hid (hexOut s = outV ByteArray.empty 0 3) := hexOut_odd s hs (by omega)
    have ho : ((s.size : Int) % 2 != 0) = true := by rw [bne_iff_ne]; omega
    go_enter Try.func7, Try.ntmps7
    go_wp2_with fail
    refine (tooLong s _ (by unfold maxLen; omega)).mono ?_
    rintro e w' ⟨rfl, rfl⟩
    go_wp2
    refine bodyPost_ret (v := .agg #[.string ⟨#[]⟩, .int .i64 0, .int .i64 3]) (by simp [results, Try.results7, go_sem]) rfl ⟨?_, ?_⟩
    · rw [hfin.out]; rfl
    · repeat (first | exact Below.refl _ _ | refine Below.setCell ?_ (by simp) _ | refine Below.alloc ?_ (Nat.le_refl _) _)
  have ho : ((s.size : Int) % 2 != 0) = false := by rw [bne_eq_false_iff_eq]; omega
  go_enter Try.func7, Try.ntmps7
  go_wp2_with fail
  refine (tooLong s _ (by unfold maxLen; omega)).mono ?_
  rintro e w' ⟨rfl, rfl⟩
  go_wp2_with (at_make; refine wpList_make_full _ rfl _ _ 22 rfl (w.heap.size + 1) 5 i0 (.int .u8 0) 1 Try.underlying22 hi hz0 hz1 .i64 .i64 _ _ (s.size / 2) rfl rfl ?c1 ?c2 ?c3 ?c4 ?c5 ?_)
  case c1 => omega
  case c2 => omega
  case c3 => rw [hz2]; omega
  case c4 => unfold maxLen; omega
  case c5 => simp
  intro w1 hown hgrow
  have hB1 : Below w.heap.size w w1 := ((Below.refl _ w).alloc (Nat.le_refl _) _).grown hgrow (by simp) (fun k hk => by cases hk)
  have hr1 : w1.heap[w.heap.size]? = some (.cells outCells 26 (0, 0)) := by
    rw [hgrow.block w.heap.size (by simp) (by simp), heap_alloc_new]
    rfl
  generalize (madeCells #[Value.int IntKind.u8 0] (s.size / 2)).toList = L at hown
  have HO : Hid _ := hown
  have HR1 : Hid _ := hr1
  obtain ⟨n, hn⟩ : ∃ n, n = s.size / 2 := ⟨_, rfl⟩
  rw [← hn] at HO ⊢
  have HN : Hid (s.size = 2 * n) := (by omega : s.size = 2 * n)
  have hn1 : 2 * n ≤ s.size := by omega
  have hn2 : n ≤ 10000 := by omega
  clear hgrow hown hr1 hn
  go_wp2_with fail
  go_loopw [21] (fun i wr => ∃ (k : Nat) (M : List Value), k ≤ n ∧ i = .int .i64 k ∧ goodTo s k = true ∧ wr.ownsRow (w.heap.size + 1) 5 1 (.slice (some ⟨w.heap.size + 1, 0, none⟩) n n) n M ∧
      (∀ j, j < k → M[j]? = some (.int .u8 ((unL s k).getD j 0))) ∧ wr.heap[w.heap.size]? = some (.cells outCells 26 (0, 0)) ∧ Below w.heap.size w wr)
    (fun i _ => n - (intOf i).toNat)
  case atStart => exact ⟨0, L, Nat.zero_le _, rfl, by simp [goodTo], HO.out, fun j hj => by omega, HR1.out, hB1⟩
  case round =>
    obtain ⟨k, M, hk, rfl, hgood, hown, hM, hres, hbel⟩ := hrel
    have HG : Hid (goodTo s k = true) := hgood
    have HM : Hid (∀ j, j < k → M[j]? = some (.int .u8 ((unL s k).getD j 0))) := hM
    have HR : Hid (wr.heap[w.heap.size]? = some (.cells outCells 26 (0, 0))) := hres
    obtain ⟨c0, c1, c2, f0, f1, f2⟩ := resAt hres
    clear hgood hres hM HO hB1 HR1
    by_cases hlt : k < n
    · have hl1 : 2 * k + 1 < s.size := by omega
      have hu0 := u8_lt (s[2 * k])
      have hu1 := u8_lt (s[2 * k + 1])
      have HB0 : Hid (bAt s (2 * k) = (s[2 * k].toNat : Int)) := bAt_eq s (2 * k) (by omega)
      have HB1 : Hid (bAt s (2 * k + 1) = (s[2 * k + 1].toNat : Int)) := bAt_eq s (2 * k + 1) hl1
      have hlM : M.length = n := by simpa using hown.1
      have hv := hown.cellAt k (by omega)
      rw [List.getElem?_eq_getElem (by omega)] at hv
      have hfz := hown.frozenAt k
      have HS : Hid (∀ q x, ((wr.drewN q).setCell ⟨w.heap.size + 1, k, none⟩ x).ownsRow (w.heap.size + 1) 5 1 (.slice (some ⟨w.heap.size + 1, 0, none⟩) n n) n (M.set k x)) :=
        fun q x => ((show (wr.drewN q).ownsRow (w.heap.size + 1) 5 1 (.slice (some ⟨w.heap.size + 1, 0, none⟩) n n) n M from hown).stored k x).1
      have HBl : Hid (∀ q x, Below w.heap.size w ((wr.drewN q).setCell ⟨w.heap.size + 1, k, none⟩ x)) := fun q x => (show Below w.heap.size w (wr.drewN q) from ⟨hbel.os, hbel.tape, hbel.output, hbel.size, hbel.block⟩).setCell (by simp) x
      have HX : Hid (∀ q x, ((wr.drewN q).setCell ⟨w.heap.size + 1, k, none⟩ x).heap[w.heap.size]? = some (.cells outCells 26 (0, 0))) := fun q x => (Below.heap_setCell _ _ _ _ (by simp)).trans HR.out
      have HU := unStep (s := s) (k := k) (by omega) HM.out
      have HU2 : Hid _ := HU
      generalize M[k] = v0 at hv
      clear HU hlM HM hown
      have q1 : (2 * (k : Int)) < (s.size : Int) := by omega
      have q2 : (2 * (k : Int) + 1) < (s.size : Int) := by omega
      go_wp2_with fail
      have ew0 : IntKind.i64.wrap (2 * (k : Int)) = 2 * (k : Int) := by rw [IntKind.wrap_i64]; omega
      have ew1 : IntKind.i64.wrap (2 * (k : Int) + 1) = 2 * (k : Int) + 1 := by rw [IntKind.wrap_i64]; omega
      have ix0 := idxS s (2 * k) (by omega) (2 * (k : Int)) (by omega)
      have ix1 := idxS s (2 * k + 1) hl1 (2 * (k : Int) + 1) (by omega)
      go_quiet ((go_at_call 16; exact Calls.quiet_of_same (implDigit _ _ (by omega) (by omega))))
      rw [← HB0.out, ← HB1.out]
      have d0 := hexD_bd (bAt s (2 * k))
      have d1 := hexD_bd (bAt s (2 * k + 1))
      clear ix0 ix1 ew0 ew1 hu0 hu1 q1 q2 HB0 HB1
      by_cases hn0 : hexD (bAt s (2 * k)) < 0
      · have hfin : Hid (hexOut s = outV ByteArray.empty 0 3) := hexOut_bad s hs (2 * k) (by omega) hn0
        go_wp2
        refine bodyPost_ret (v := .agg #[.string ⟨#[]⟩, .int .i64 0, .int .i64 3]) (by simp [results, Try.results7, go_sem, c0, c1, c2]) rfl ⟨?_, ?_⟩
        · rw [hfin.out]; rfl
        · repeat (first | exact ⟨hbel.os, hbel.tape, hbel.output, hbel.size, hbel.block⟩ | refine Below.setCell ?_ (by simp) _)
      by_cases hn1 : hexD (bAt s (2 * k + 1)) < 0
      · have hfin : Hid (hexOut s = outV ByteArray.empty 0 3) := hexOut_bad s hs (2 * k + 1) (by omega) hn1
        go_wp2
        refine bodyPost_ret (v := .agg #[.string ⟨#[]⟩, .int .i64 0, .int .i64 3]) (by simp [results, Try.results7, go_sem, c0, c1, c2]) rfl ⟨?_, ?_⟩
        · rw [hfin.out]; rfl
        · repeat (first | exact ⟨hbel.os, hbel.tape, hbel.output, hbel.size, hbel.block⟩ | refine Below.setCell ?_ (by simp) _)
      have hj := join4 (hexD (bAt s (2 * k))) (hexD (bAt s (2 * k + 1))) (by omega) (by omega) (by omega) (by omega)
      clear c0 c1 c2 f0 f1 f2 hbel
      go_wp2
      go_roundw
      case rel => exact ⟨k + 1, _, by omega, by go_num, goodTo_succ s k HG.out (by omega) (by omega), HS.out _ _, HU2.out, HX.out _ _, HBl.out _ _⟩
      case measure => simp [intOf]; omega
    · obtain rfl : k = n := by omega
      have hfin : Hid (hexOut s = outV (strOfNums (unL s k)) 0 0) := hexOut_good s k hs HN.out HG.out
      have hcv := run_convert_bytes_arg wr 22 5 Try.underlying22 Try.underlying5 (w.heap.size + 1) 0 k k (unL s k) (unL_len s k)
        (fun j hj => by rw [Nat.zero_add, hown.cellAt j (by omega)]; exact HM.out j hj) 9 Try.underlying9
      clear hown
      go_wp2
      refine bodyPost_ret (v := .agg #[.string (strOfNums (unL s k)), .int .i64 0, .int .i64 0]) (by simp [results, Try.results7, go_sem, c0, c1, c2]) rfl ⟨?_, ?_⟩
      · rw [hfin.out]; rfl
      · repeat (first | exact hbel | refine Below.setCell ?_ (by simp) _)
theorem implRead_long (s : ByteArray) (w : World) (hs : 20000 < s.size) (hm : s.size ≤ maxLen) :
    Calls Try.prog 7 #[.string s] w fun e w' => e = .returned (hexOut s) ∧ Below w.heap.size w w' := by
  have hd : decide (20000 < s.size) = true := by simp; omega
  go_enter Try.func7, Try.ntmps7
  go_wp2_with fail
  refine (tooLong s _ hm).mono ?_
  rintro e w' ⟨rfl, rfl⟩
  go_wp2
  refine bodyPost_ret (v := .agg #[.string ⟨#[]⟩, .int .i64 0, .int .i64 2]) (by simp [results, Try.results7, go_sem]) rfl ⟨?_, ?_⟩
  · rw [hexOut_long s hs]; rfl
  · repeat (first | exact Below.refl _ _ | refine Below.setCell ?_ (by simp) _ | refine Below.alloc ?_ (Nat.le_refl _) _)
end Go.Proofs.Ytdckeokfcckemaa
