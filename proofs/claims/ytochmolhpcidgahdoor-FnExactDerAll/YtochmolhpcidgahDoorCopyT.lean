/- impl.copyText, walked. -/
import Derived.Test.YtochmolhpcidgahDoorBase
namespace Go.Proofs.YtochmolhpcidgahDoor
open Go.RowKit Go.Lib

set_option maxHeartbeats 1000000 in
set_option maxRecDepth 100000 in
theorem copyText (a : ByteArray) (w : World) (ha : a.size ≤ 1100000) :
    Calls Tryd.prog 25 #[.string a] w fun e w' => e = .returned (.string a) ∧ Below w.heap.size w w' := by
  obtain ⟨i0, hi, hz0, hz1, hz2⟩ := info_parts infoByte
  go_enter Tryd.func25, Tryd.ntmps25
  go_wp2_with (at_make; refine wpList_make_full _ rfl _ _ 70 rfl w.heap.size 5 i0 (.int .u8 0) 1 Tryd.underlying70 hi hz0 hz1 .i64 .i64 _ _ a.size rfl rfl ?c1 ?c2 ?c3 ?c4 ?c5 ?_)
  case c1 => omega
  case c2 => omega
  case c3 => rw [hz2]; omega
  case c4 => unfold maxLen; omega
  case c5 => exact Nat.le_refl _
  intro w1 hown hgrow
  obtain ⟨hrow, hlen⟩ := rowOf hown rfl
  have hB1 : Below w.heap.size w w1 := (Below.refl _ w).grown hgrow (Nat.le_refl _) (fun k hk => by cases hk)
  generalize (madeCells #[Value.int IntKind.u8 0] a.size).toList = L at hrow hlen
  have la : (byteCells a.data.toList).length = a.size := by rw [byteCells_length, ← size_eq]
  have HF : Hid (∀ w3 : World, w3.heap[w.heap.size]? = some (.cells (splice L 0 (byteCells a.data.toList)).toArray 5 (0, 0)) →
      (convert 70 9 (.slice (some ⟨w.heap.size, 0, none⟩) a.size a.size)).run Tryd.prog w3 = .ok (.string a) w3) := by
    intro w3 h3
    rw [splice_one L (byteCells a.data.toList) (by omega)] at h3
    have h4 : w3.heap[w.heap.size]? = some (.cells (byteCells a.data.toList ++ []).toArray 5 (0, 0)) := by simpa using h3
    have := run_convert_row (P := Tryd.prog) (src := 70) (dst := 9) (cap := a.size) Tryd.underlying70 Tryd.underlying5 Tryd.underlying9 h4
    rw [← size_eq] at this
    exact this
  clear hown hgrow la
  go_wp2_with (refine wpList_copy_str rfl _ _ 70 9 rfl 5 Tryd.underlying70 byteSize _ _ _ a rfl rfl w.heap.size 0 L 5 hrow (fun _ => rfl) ?d2 ?d3 w.heap.size w hB1 (Nat.le_refl _) ?_)
  case d2 => exact Nat.le_refl _
  case d3 => omega
  intro w2 H2 hB2 hs2
  have hcv := HF.out w2 H2.out
  clear hrow hB1 hs2
  go_wp2
  go_ret
  exact ⟨rfl, hB2⟩

end Go.Proofs.YtochmolhpcidgahDoor
