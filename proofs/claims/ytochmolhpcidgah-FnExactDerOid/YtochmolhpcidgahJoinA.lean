/- impl.joinTexts, walked: the one text behind the other. -/
import Derived.Test.YtochmolhpcidgahBase
namespace Go.Proofs.Ytochmolhpcidgah
open Go.RowKit Go.Lib


set_option maxHeartbeats 1000000 in
set_option maxRecDepth 100000 in
theorem joinTexts (a b : ByteArray) (w : World) (ha : a.size ≤ 1000000) (hb : b.size ≤ 1000000) :
    Calls Try.prog 35 #[.string a, .string b] w fun e w' => e = .returned (.string (a ++ b)) ∧ Below w.heap.size w w' := by
  obtain ⟨i0, hi, hz0, hz1, hz2⟩ := info_parts infoByte
  go_enter Try.func35, Try.ntmps35
  go_wp2_with (at_make; refine wpList_make_full _ rfl _ _ 53 rfl w.heap.size 5 i0 (.int .u8 0) 1 Try.underlying53 hi hz0 hz1 .i64 .i64 _ _ (a.size + b.size) rfl rfl ?c1 ?c2 ?c3 ?c4 ?c5 ?_)
  case c1 => omega
  case c2 => omega
  case c3 => rw [hz2]; omega
  case c4 => unfold maxLen; omega
  case c5 => exact Nat.le_refl _
  intro w1 hown hgrow
  obtain ⟨hrow, hlen⟩ := rowOf hown rfl
  have hB1 : Below w.heap.size w w1 := (Below.refl _ w).grown hgrow (Nat.le_refl _) (fun k hk => by cases hk)
  generalize (madeCells #[Value.int IntKind.u8 0] (a.size + b.size)).toList = L at hrow hlen
  have la : (byteCells a.data.toList).length = a.size := by rw [byteCells_length, ← size_eq]
  have lb : (byteCells b.data.toList).length = b.size := by rw [byteCells_length, ← size_eq]
  clear hown hgrow
  go_wp2_with (refine wpList_copy_str rfl (.tmp 12) (.tmp 13) 53 9 rfl 5 Try.underlying53 byteSize _ _ _ a rfl rfl w.heap.size 0 L 5 hrow (fun _ => rfl) ?d2 ?d3 w.heap.size w hB1 (Nat.le_refl _) ?_)
  case d2 => omega
  case d3 => omega
  intro w2 H2 hB2 hs2
  have hlen2 : (splice L 0 (byteCells a.data.toList)).length = a.size + b.size := by rw [length_splice _ _ _ (by omega)]; exact hlen
  have HF : Hid (∀ w3 : World, w3.heap[w.heap.size]? = some (.cells (splice (splice L 0 (byteCells a.data.toList)) a.size (byteCells b.data.toList)).toArray 5 (0, 0)) →
      (convert 53 9 (.slice (some ⟨w.heap.size, 0, none⟩) (a.size + b.size) (a.size + b.size))).run Try.prog w3 = .ok (.string (a ++ b)) w3) := by
    intro w3 h3
    have e := splice_two L (byteCells a.data.toList) (byteCells b.data.toList) (by omega)
    rw [la] at e
    rw [e] at h3
    have h4 : w3.heap[w.heap.size]? = some (.cells (byteCells (a.data.toList ++ b.data.toList) ++ []).toArray 5 (0, 0)) := by simpa [byteCells] using h3
    have := run_convert_row (P := Try.prog) (src := 53) (dst := 9) (cap := a.size + b.size) Try.underlying53 Try.underlying5 Try.underlying9 h4
    rw [List.length_append, ← size_eq, ← size_eq, ofBytes_append] at this
    exact this
  clear hrow hB1 hs2 la lb hlen
  by_cases hb0 : b = ByteArray.empty
  · subst hb0
    go_wp2_with (refine wpList_copy_str rfl (.tmp 18) (.tmp 19) 53 9 rfl 5 Try.underlying53 byteSize _ _ _ ByteArray.empty rfl rfl w.heap.size a.size (splice L 0 (byteCells a.data.toList)) 5 H2.out ?e1 ?e2 ?e3 w.heap.size w hB2 (Nat.le_refl _) ?_)
    case e1 => intro h; simp at h
    case e2 => simp
    case e3 => simp; omega
    intro w3 H3 hB3 _
    have hcv := HF.out w3 H3.out
    simp only [ByteArray.size_empty, Nat.add_zero] at hcv
    clear hlen2 H2 hB2
    go_wp2
    go_ret
    exact ⟨by simp, hB3⟩
  · go_wp2_with (refine wpList_copy_str rfl (.tmp 18) (.tmp 19) 53 9 rfl 5 Try.underlying53 byteSize _ _ _ b rfl rfl w.heap.size a.size (splice L 0 (byteCells a.data.toList)) 5 H2.out ?f1 ?f2 ?f3 w.heap.size w hB2 (Nat.le_refl _) ?_)
    case f2 => exact Nat.le_refl _
    case f3 => omega
    intro w3 H3 hB3 _
    have hcv := HF.out w3 H3.out
    clear hlen2 H2 hB2
    go_wp2
    go_ret
    exact ⟨rfl, hB3⟩
end Go.Proofs.Ytochmolhpcidgah
