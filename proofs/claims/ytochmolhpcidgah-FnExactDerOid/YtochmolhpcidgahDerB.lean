/- impl.putLength, walked. -/
import Derived.Test.YtochmolhpcidgahDerM
import Derived.Test.YtochmolhpcidgahConvR
namespace Go.Proofs.Ytochmolhpcidgah
open Go.RowKit Go.Lib

set_option maxHeartbeats 1000000 in
set_option maxRecDepth 100000 in
theorem putLength (n : Nat) (w : World) (h : n ≤ 4000) :
    Calls Try.prog 37 #[.int .i64 (n : Int)] w fun e w' => e = .returned (.string (strOfNums (lenD n))) ∧ Below w.heap.size w w' := by
  obtain ⟨i0, hi, hz0, hz1, hz2⟩ := info_parts infoByte
  go_enter Try.func37, Try.ntmps37
  go_wp2_with fail
  refine (lengthBytes n _ (by omega)).mono ?_
  rintro e w' ⟨rfl, rfl⟩
  by_cases c1 : n < 128
  · have hm : moreL n = 0 := if_pos c1
    have HF : Hid (lenD n = [(n : Int)]) := by unfold Hid lenD; rw [if_pos c1]
    have hcv := convertRow (w'.alloc (.cells #[.int .u8 (n : Int)] 5 (0, 0))) w'.heap.size [(n : Int)] 5 1 1 rfl (heap_alloc_new _ _)
    rw [hm]
    go_wp2
    go_ret
    exact ⟨by rw [HF.out]; rfl, (Below.refl _ _).alloc (Nat.le_refl _) _⟩
  · by_cases c2 : n < 256
    · have hm : moreL n = 1 := by rw [moreL, if_neg c1, if_pos c2]
      have HF : Hid (lenD n = [129, (n : Int)]) := by unfold Hid lenD; rw [if_neg c1, if_pos c2]
      rw [hm]
      go_wp2_with (at_make; refine wpList_make_full _ rfl _ _ 53 rfl w'.heap.size 5 i0 (.int .u8 0) 1 Try.underlying53 hi hz0 hz1 .i64 .i64 _ _ 2 rfl rfl ?c1 ?c2 ?c3 ?c4 ?c5 ?_)
      case c1 => omega
      case c2 => omega
      case c3 => rw [hz2]; omega
      case c4 => unfold maxLen; omega
      case c5 => exact Nat.le_refl _
      intro w1 hown hgrow
      have hrow : w1.heap[w'.heap.size]? = some (.cells [Value.int .u8 0, .int .u8 0].toArray 5 (0, 0)) := by rw [(rowOf hown rfl).1, made2]
      have hB1 : Below w'.heap.size w' w1 := (Below.refl _ w').grown hgrow (Nat.le_refl _) (fun k hk => by cases hk)
      have r0 := rowFacts hrow 0 _ rfl
      have r1 := rowFacts hrow 1 _ rfl
      have f0 := frozen_of_row w1 w'.heap.size 0 _ 5 hrow
      have f1 := frozen_of_row w1 w'.heap.size 1 _ 5 hrow
      have hcv := convertRow _ w'.heap.size [129, (n : Int)] 5 2 2 rfl (rowSet (i := 1) (.int .u8 (n : Int)) (rowSet (i := 0) (.int .u8 129) hrow))
      have HB : Hid (∀ a b, Below w'.heap.size w' ((w1.setCell ⟨w'.heap.size, 0, none⟩ a).setCell ⟨w'.heap.size, 1, none⟩ b)) := fun a b => (hB1.setCell (Nat.le_refl _) a).setCell (Nat.le_refl _) b
      clear hown hgrow hrow hB1
      go_wp2_with fail
      refine wp_loop_rounds 2 ?_
      rw [rounds_succ]
      go_wp2
      rw [rounds_succ]
      go_wp2
      go_ret
      exact ⟨by rw [HF.out]; rfl, HB.out _ _⟩
    · have hm : moreL n = 2 := by rw [moreL, if_neg c1, if_neg c2]
      have HF : Hid (lenD n = [130, (n : Int) / 256, (n : Int) % 256]) := by unfold Hid lenD; rw [if_neg c1, if_neg c2]; simp
      rw [hm]
      go_wp2_with (at_make; refine wpList_make_full _ rfl _ _ 53 rfl w'.heap.size 5 i0 (.int .u8 0) 1 Try.underlying53 hi hz0 hz1 .i64 .i64 _ _ 3 rfl rfl ?c1 ?c2 ?c3 ?c4 ?c5 ?_)
      case c1 => omega
      case c2 => omega
      case c3 => rw [hz2]; omega
      case c4 => unfold maxLen; omega
      case c5 => exact Nat.le_refl _
      intro w1 hown hgrow
      have hrow : w1.heap[w'.heap.size]? = some (.cells [Value.int .u8 0, .int .u8 0, .int .u8 0].toArray 5 (0, 0)) := by rw [(rowOf hown rfl).1, made3]
      have hB1 : Below w'.heap.size w' w1 := (Below.refl _ w').grown hgrow (Nat.le_refl _) (fun k hk => by cases hk)
      have r0 := rowFacts hrow 0 _ rfl
      have r1 := rowFacts hrow 1 _ rfl
      have r2 := rowFacts hrow 2 _ rfl
      have f0 := frozen_of_row w1 w'.heap.size 0 _ 5 hrow
      have f1 := frozen_of_row w1 w'.heap.size 1 _ 5 hrow
      have f2 := frozen_of_row w1 w'.heap.size 2 _ 5 hrow
      have hcv := convertRow _ w'.heap.size [130, (n : Int) / 256, (n : Int) % 256] 5 3 3 rfl (rowSet (i := 1) (.int .u8 ((n : Int) / 256)) (rowSet (i := 2) (.int .u8 ((n : Int) % 256)) (rowSet (i := 0) (.int .u8 130) hrow)))
      have HB : Hid (∀ a b c, Below w'.heap.size w' (((w1.setCell ⟨w'.heap.size, 0, none⟩ a).setCell ⟨w'.heap.size, 2, none⟩ b).setCell ⟨w'.heap.size, 1, none⟩ c)) := fun a b c => ((hB1.setCell (Nat.le_refl _) a).setCell (Nat.le_refl _) b).setCell (Nat.le_refl _) c
      clear hown hgrow hrow hB1
      go_wp2_with fail
      refine wp_loop_rounds 3 ?_
      rw [rounds_succ]
      go_wp2
      rw [rounds_succ]
      go_wp2
      rw [rounds_succ]
      go_wp2
      go_ret
      exact ⟨by rw [HF.out]; rfl, HB.out _ _ _⟩
end Go.Proofs.Ytochmolhpcidgah
