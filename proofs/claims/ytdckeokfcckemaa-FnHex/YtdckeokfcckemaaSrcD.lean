/- The draws' source: '.spoil', walked: some text of at most one byte more. -/
import Derived.Test.YtdckeokfcckemaaSrcC
namespace Go.Proofs.Ytdckeokfcckemaa
open Go.RowKit

/-- Some text of at most k bytes is answered. -/
def UpT (k : Nat) (e : Ending) : Prop := ∃ t : ByteArray, t.size ≤ k ∧ e = .returned (.string t)
theorem idx_const (c : ByteArray) (r : Nat) (h : r < c.size) : ∃ z : Nat, z ≤ 255 ∧ ∀ w, (Instr.index 9 (.string c) (.int .i64 (r : Int))).run Try.prog w = .ok (.int .u8 (z : Int)) w := by
  refine ⟨c[r].toNat, by have := c[r].toNat_lt; omega, fun w => ?_⟩
  rw [run_index_string w _ c .i64 _ Try.underlying9, dif_pos ⟨by omega, by omega⟩]
  simp
theorem conv_one (W : World) (z : Int) : (convert 22 9 (.slice (some ⟨W.heap.size, 0, none⟩) 1 1)).run Try.prog (W.alloc (.cells #[.int .u8 z] 5)) = .ok (.string (strOfNums [z])) (W.alloc (.cells #[.int .u8 z] 5)) :=
  run_convert_bytes_arg _ 22 5 Try.underlying22 Try.underlying5 W.heap.size 0 1 1 [z] rfl (fun i hi => by
    obtain rfl : i = 0 := by omega
    simp) 9 Try.underlying9
theorem ext_size (s : ByteArray) (a b : Nat) : (s.extract a b).size ≤ s.size := by rw [ByteArray.size_extract]; omega
theorem ext_two (s : ByteArray) (a b : Nat) (h : a ≤ b) : (s.extract 0 a).size + (s.extract b s.size).size ≤ s.size := by
  rw [ByteArray.size_extract, ByteArray.size_extract]; omega
theorem slice_to (s : ByteArray) (k : Nat) (h : k ≤ s.size) (w : World) : (Instr.slice 9 (.string s) none (some (.int .i64 (k : Int))) none).run Try.prog w = .ok (.string (s.extract 0 k)) w := by
  simp [Instr.slice, run_underlying Try.underlying9, Instr.sliceBounds, run_sliceBound, h]
theorem slice_from (s : ByteArray) (k : Nat) (i : Int) (e : i = (k : Int)) (h : k ≤ s.size) (w : World) : (Instr.slice 9 (.string s) (some (.int .i64 i)) none none).run Try.prog w = .ok (.string (s.extract k s.size)) w := by
  subst e
  simp [Instr.slice, run_underlying Try.underlying9, Instr.sliceBounds, run_sliceBound, h]
set_option maxHeartbeats 2000000 in
set_option maxRecDepth 100000 in
theorem spoil_any (g : Nat) (a : Option Addr) (len cap : Nat) (t : ByteArray) (w : World) (ht : t.size ≤ 1000000) (hs : Src g a len cap w) (hblk : ∀ x, 0 < len → a = some x → x.block < w.heap.size) :
    Calls Try.prog 14 #[.pointer (some ⟨g, 0, none⟩), .string t] w fun e w' => UpT (t.size + 1) e ∧ Src g a len cap w' ∧ Grows g w w' := by
  have hglt := hs.lt
  have HS : Hid (Src g a len cap w) := hs
  have HBk : Hid (∀ x, 0 < len → a = some x → x.block < w.heap.size) := hblk
  clear hs hblk
  go_enter Try.func14, Try.ntmps14
  go_wp2_with fail
  rw [show ((t.size : Int) + 1) = ((t.size + 1 : Nat) : Int) from by omega]
  refine (n_any g a len cap (t.size + 1) _ (by omega) HS.out).mono ?_
  rintro e w1 ⟨k, rfl, hk, hs1, ht1⟩
  have hk' : k ≤ t.size := by omega
  have H1 : Hid (Src g a len cap w1) := hs1
  have G1 : Hid (Grows g w w1) := ht1.grows
  clear hk hs1 ht1
  go_wp2_with fail
  refine (n_any g a len cap 17 _ (by omega) H1.out).mono ?_
  rintro e w2 ⟨r, rfl, hr, hs2, ht2⟩
  obtain ⟨z, hz, hidx⟩ := idx_const ⟨#[32, 10, 48, 97, 45, 110, 44, 58, 93, 255, 40, 120, 126, 49, 128, 225, 59]⟩ r (show r < 17 by omega)
  have H2 : Hid (Src g a len cap w2) := hs2
  have G2 : Hid (Grows g w w2) := G1.out.trans ht2.grows
  clear hr hs2 ht2
  have hcv := conv_one w2 (z : Int)
  obtain ⟨c, hc⟩ : ∃ c, c = strOfNums [(z : Int)] := ⟨_, rfl⟩
  have hcs : c.size = 1 := by rw [hc, size_nums]; rfl
  rw [← hc] at hcv
  clear hc
  have s1 := slice_to t k hk'
  have s2 := slice_from t k (k : Int) rfl hk'
  have hp12 := ext_two t k k (Nat.le_refl _)
  obtain ⟨p1, hp1⟩ : ∃ p, p = t.extract 0 k := ⟨_, rfl⟩
  obtain ⟨p2, hp2⟩ : ∃ p, p = t.extract k t.size := ⟨_, rfl⟩
  rw [← hp1] at s1
  rw [← hp2] at s2
  rw [← hp1, ← hp2] at hp12
  have a1 := fun W => run_string_add_sum (P := Try.prog) (w := W) p1 c (by omega)
  have a2 := fun W => run_string_add_sum (P := Try.prog) (w := W) (p1 ++ c) p2 (by rw [ByteArray.size_append]; omega)
  have HP : Hid (p1 = t.extract 0 k) := hp1
  have hfin2 : Hid ((p1 ++ c ++ p2).size ≤ t.size + 1) := (by rw [ByteArray.size_append, ByteArray.size_append]; omega : (p1 ++ c ++ p2).size ≤ t.size + 1)
  clear hp1 hp2
  by_cases hkt : k = t.size
  · have ek : ((k : Int) == (t.size : Int)) = true := by rw [beq_iff_eq]; omega
    have G3 : Hid (Grows g w (w2.alloc (.cells #[.int .u8 (z : Int)] 5))) := G2.out.alloc _
    have H3 : Hid (Src g a len cap (w2.alloc (.cells #[.int .u8 (z : Int)] 5))) := H2.out.alloc _
    clear hkt
    go_wp2_with fail
    go_quiet (fail)
    go_wp2
    go_ret
    exact ⟨⟨_, hfin2.out, rfl⟩, H3.out.drewN _, ⟨G3.out.os, G3.out.tape, G3.out.output, G3.out.size, G3.out.block⟩⟩
  have ek : ((k : Int) == (t.size : Int)) = false := by rw [beq_eq_false_iff_ne]; omega
  have hkl : k < t.size := by omega
  clear hkt
  have s3 := slice_from t (k + 1) ((k : Int) + 1) (by omega) (by omega)
  have hp13 := ext_two t k (k + 1) (by omega)
  obtain ⟨p3, hp3⟩ : ∃ p, p = t.extract (k + 1) t.size := ⟨_, rfl⟩
  rw [← hp3] at s3
  rw [← HP.out, ← hp3] at hp13
  have a3 := fun W => run_string_add_sum (P := Try.prog) (w := W) p1 p3 (by omega)
  have a4 := fun W => run_string_add_sum (P := Try.prog) (w := W) (p1 ++ c) p3 (by rw [ByteArray.size_append]; omega)
  have hfin3 : Hid ((p1 ++ p3).size ≤ t.size + 1) := (by rw [ByteArray.size_append]; omega : (p1 ++ p3).size ≤ t.size + 1)
  have hfin4 : Hid ((p1 ++ c ++ p3).size ≤ t.size + 1) := (by rw [ByteArray.size_append, ByteArray.size_append]; omega : (p1 ++ c ++ p3).size ≤ t.size + 1)
  clear hp3
  have ew : IntKind.i64.wrap ((k : Int) + 1) = (k : Int) + 1 := by rw [IntKind.wrap_i64]; omega
  go_wp2_with fail
  refine (one_any g a len cap 3 _ (by omega) (H2.out.alloc _)).mono ?_
  rintro e w3 ⟨hb, hs3, ht3⟩
  have H3 : Hid (Src g a len cap w3) := hs3
  have G3 : Hid (Grows g w w3) := (G2.out.alloc _).trans ht3.grows
  clear hs3 ht3 hcv hidx
  rcases hb with rfl | rfl
  · go_wp2_with fail
    go_quiet (fail)
    go_wp2
    go_ret
    exact ⟨⟨_, hfin2.out, rfl⟩, H3.out.drewN _, ⟨G3.out.os, G3.out.tape, G3.out.output, G3.out.size, G3.out.block⟩⟩
  go_wp2_with fail
  refine (one_any g a len cap 2 _ (by omega) H3.out).mono ?_
  rintro e w4 ⟨hb, hs4, ht4⟩
  have H4 : Hid (Src g a len cap w4) := hs4
  have G4 : Hid (Grows g w w4) := G3.out.trans ht4.grows
  clear hs4 ht4
  rcases hb with rfl | rfl
  · go_wp2_with fail
    go_quiet (fail)
    go_wp2
    go_ret
    exact ⟨⟨_, hfin3.out, rfl⟩, H4.out.drewN _, ⟨G4.out.os, G4.out.tape, G4.out.output, G4.out.size, G4.out.block⟩⟩
  · go_wp2_with fail
    go_quiet (fail)
    go_wp2
    go_ret
    exact ⟨⟨_, hfin4.out, rfl⟩, H4.out.drewN _, ⟨G4.out.os, G4.out.tape, G4.out.output, G4.out.size, G4.out.block⟩⟩
end Go.Proofs.Ytdckeokfcckemaa
