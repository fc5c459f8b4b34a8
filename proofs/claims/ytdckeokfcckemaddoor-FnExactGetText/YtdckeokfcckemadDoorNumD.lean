/- errors.As once more, with the world by what it keeps; spec.GetNum at every argument. -/
import Derived.Test.YtdckeokfcckemadDoorNumC
namespace Go.Proofs.YtdckeokfcckemadDoor
open Go.RowKit Go.Lib

def ErrType (w : World) : Prop := w.cell? ⟨0, 0, none⟩ = some (.iface 62 (.agg #[.pointer (some ⟨1, 31, none⟩)]))
theorem ErrType.pos {w : World} (h : ErrType w) : 0 < w.heap.size := by
  rcases Nat.eq_zero_or_pos w.heap.size with h0 | h'
  · simp [ErrType, World.cell?, h0] at h
  · exact h'
theorem ErrType.below {w w' : World} {B : Nat} (h : ErrType w) (hb : Below B w w') (hB : 0 < B) : ErrType w' := by
  unfold ErrType at *
  rw [hb.cell hB]; exact h
theorem below_asW (t : Addr) (c : Int) (w : World) : Below w.heap.size w (asW t c w) := by
  unfold asW
  exact ((((Below.refl _ _).alloc (Nat.le_refl _) _).alloc (by simp) _).alloc (by simp; omega) _).alloc (by simp; omega) _
theorem size_asW (t : Addr) (c : Int) (w : World) : (asW t c w).heap.size = w.heap.size + 4 := by
  unfold asW
  simp

theorem as_hit2 (t : Addr) (c : Int) (old : Value) (w : World) (hg : ErrType w) (ht0 : w.cell? t = some old) (hf0 : w.frozen? t = false) :
    Calls Tryd.prog 9 #[.iface 35 (.agg #[.int .i64 c]), .iface 37 (.pointer (some t))] w fun ev w' =>
      ev = .returned (.bool true) ∧ w'.cell? t = some (.int .i64 c) ∧ Below t.block w w' := by
  have htl := World.block_lt_of_cell? w t ht0
  refine (as_hit t c old w hg ht0 hf0).mono ?_
  rintro e w' ⟨rfl, rfl⟩
  have hb := below_asW t c w
  refine ⟨rfl, World.cell?_setCell_same _ _ _ ((hb.cell htl).trans ht0), (hb.mono (Nat.le_of_lt htl)).setCell (Nat.le_refl _) _⟩

theorem specGet_any (s : ByteArray) (p : Int) (w : World) (hs : s.size ≤ maxLen) (hp0 : -9223372036854775808 ≤ p) (hp1 : p ≤ 9223372036854775807) :
    Calls Tryd.prog 7 #[.string s, .int .i64 p] w fun e w' => e = .returned (numV (numAt s p)) ∧ Below w.heap.size w w' := by
  unfold maxLen at hs
  by_cases h1 : 20000 < s.size
  · rw [numAt, if_pos h1]
    go_enter Tryd.func7, Tryd.ntmps7
    go_wp2
    refine bodyPost_ret (v := .agg #[.int .i64 0, .int .i64 0, .int .i64 2]) (by simp [results, Tryd.results7, go_sem]) rfl ⟨rfl, ?_⟩
    repeat (first | exact Below.refl _ _ | refine Below.setCell ?_ (by simp) _ | refine Below.alloc ?_ (Nat.le_refl _) _)
  by_cases h2 : p < 0
  · rw [numAt, if_neg h1, if_pos h2]
    go_enter Tryd.func7, Tryd.ntmps7
    go_wp2
    refine bodyPost_ret (v := .agg #[.int .i64 0, .int .i64 0, .int .i64 1]) (by simp [results, Tryd.results7, go_sem]) rfl ⟨rfl, ?_⟩
    repeat (first | exact Below.refl _ _ | refine Below.setCell ?_ (by simp) _ | refine Below.alloc ?_ (Nat.le_refl _) _)
  obtain ⟨q, rfl⟩ := Int.eq_ofNat_of_zero_le (show 0 ≤ p by omega)
  rw [numAt, if_neg h1, if_neg h2, Int.toNat_natCast]
  exact specGet s q w (by omega) hp1
end Go.Proofs.YtdckeokfcckemadDoor
