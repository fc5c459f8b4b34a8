/- impl.GetText, walked. -/
import Derived.Test.YtdckeokfcckemaaDoorTextH
import Derived.Test.YtdckeokfcckemaaDoorNumD
namespace Go.Proofs.YtdckeokfcckemaaDoor
open Go.RowKit

set_option maxHeartbeats 2000000 in
set_option maxRecDepth 100000 in
theorem implGetText (s : ByteArray) (p : Int) (w : World) (hs : s.size ≤ maxLen) (hp0 : -9223372036854775808 ≤ p) (hp1 : p ≤ 9223372036854775807) (hg : ErrType w) :
    Calls Tryd.prog 11 #[.string s, .int .i64 p] w fun e w' => e = .returned (textR s (numAt s p)) ∧ Below w.heap.size w w' := by
  have hread := fun W => readText s p W hs hp0 hp1
  generalize numAt s p = R at *
  have HR : Hid (∀ W, Calls Tryd.prog 23 #[.string s, .int .i64 p] W fun e w' => TextOk s R e ∧ Below W.heap.size W w') := hread
  have HG : Hid (ErrType w) := hg
  have hpos := hg.pos
  clear hread hg
  go_enter Tryd.func11, Tryd.ntmps11
  go_wp2_with fail
  refine (HR.out _).mono ?_
  rintro e w1 ⟨hb, hB0⟩
  have hB : Below (w.heap.size + 1) (w.alloc (.cells #[.string ⟨#[]⟩, .int .i64 0, .int .i64 0] 31)) w1 := by simpa using hB0
  have c0 : w1.cell? ⟨w.heap.size, 0, none⟩ = some (.string ⟨#[]⟩) := (hB.cell (by simp)).trans (by simp)
  have c1 : w1.cell? ⟨w.heap.size, 1, none⟩ = some (.int .i64 0) := (hB.cell (by simp)).trans (by simp)
  have c2 : w1.cell? ⟨w.heap.size, 2, none⟩ = some (.int .i64 0) := (hB.cell (by simp)).trans (by simp)
  have f0 : w1.frozen? ⟨w.heap.size, 0, none⟩ = false := (hB.frozen (by simp)).trans (by simp)
  have f1 : w1.frozen? ⟨w.heap.size, 1, none⟩ = false := (hB.frozen (by simp)).trans (by simp)
  have f2 : w1.frozen? ⟨w.heap.size, 2, none⟩ = false := (hB.frozen (by simp)).trans (by simp)
  have hz : w.heap.size < w1.heap.size := by have := hB.size; simp at this; omega
  have HB : Hid (Below w.heap.size w w1) := ((Below.refl _ w).alloc (Nat.le_refl _) _).trans (hB.mono (Nat.le_succ _))
  have HG1 : Hid (ErrType w1) := HG.out.below HB.out hpos
  clear hB0 hB
  rcases hb with ⟨t, a, ht, rfl⟩ | ⟨c, ht, t, rfl⟩
  · have HT : Hid (textR s R = outV t a 0) := ht
    clear ht
    go_wp2_with fail
    refine (as_nil _ _).mono ?_
    rintro e w' ⟨rfl, rfl⟩
    go_wp2
    refine bodyPost_ret (v := .agg #[.string t, .int .i64 a, .int .i64 0]) (by simp [results, Tryd.results11, go_sem, c0, c1, c2, hz]) rfl ⟨?_, ?_⟩
    · rw [HT.out]; rfl
    · repeat (first | exact HB.out | refine Below.setCell ?_ (by simp) _ | refine Below.alloc ?_ (by simp; omega) _ | refine Below.alloc ?_ (by omega) _)
  · have HT : Hid (textR s R = outV ByteArray.empty 0 c) := ht
    clear ht
    have HG2 : Hid (∀ o2, ErrType (w1.alloc o2)) := fun o2 => HG1.out.below ((Below.refl _ _).alloc (Nat.le_refl _) o2) (by omega)
    go_wp2_with fail
    refine (as_hit2 ⟨w1.heap.size, 0, none⟩ c (.int .i64 0) _ (HG2.out _) (by simp) (by simp)).mono ?_
    rintro e w2 ⟨rfl, hc, hb2⟩
    have hB2 : Below w1.heap.size (w1.alloc (.cells #[.int .i64 0] 46)) w2 := hb2
    have hB3 : Below w1.heap.size w1 w2 := ((Below.refl _ w1).alloc (Nat.le_refl _) _).trans hB2
    have d0 : w2.cell? ⟨w.heap.size, 0, none⟩ = some (.string ⟨#[]⟩) := (hB3.cell hz).trans c0
    have d1 : w2.cell? ⟨w.heap.size, 1, none⟩ = some (.int .i64 0) := (hB3.cell hz).trans c1
    have d2 : w2.cell? ⟨w.heap.size, 2, none⟩ = some (.int .i64 0) := (hB3.cell hz).trans c2
    have g0 : w2.frozen? ⟨w.heap.size, 0, none⟩ = false := (hB3.frozen hz).trans f0
    have g1 : w2.frozen? ⟨w.heap.size, 1, none⟩ = false := (hB3.frozen hz).trans f1
    have g2 : w2.frozen? ⟨w.heap.size, 2, none⟩ = false := (hB3.frozen hz).trans f2
    have HB2 : Hid (Below w.heap.size w w2) := HB.out.trans (hB3.mono (Nat.le_of_lt hz))
    clear hb2 hB2 hB3 c0 c1 c2 f0 f1 f2
    go_wp2
    refine bodyPost_ret (v := .agg #[.string ⟨#[]⟩, .int .i64 0, .int .i64 c]) (by simp [results, Tryd.results11, go_sem, d0, d1, d2]) rfl ⟨?_, ?_⟩
    · rw [HT.out]; rfl
    · repeat (first | exact HB2.out | refine Below.setCell ?_ (by simp) _)

theorem textR_form (s : ByteArray) (R : NumR) : ∃ t a c, textR s R = .agg #[.string t, .int .i64 a, .int .i64 c] := by
  unfold textR
  split
  · exact ⟨_, _, _, rfl⟩
  · split
    · exact ⟨_, _, _, rfl⟩
    · split
      · exact ⟨_, _, _, rfl⟩
      · exact ⟨_, _, _, rfl⟩
end Go.Proofs.YtdckeokfcckemaaDoor
