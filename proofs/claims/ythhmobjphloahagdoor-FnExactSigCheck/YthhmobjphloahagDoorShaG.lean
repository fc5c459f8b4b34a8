/- The end of a hash, walked: impl.lastBytes, (*hashState).digest, (*hashWork).end. -/
import Derived.Test.YthhmobjphloahagDoorShaE
import Derived.Test.YthhmobjphloahagDoorShaH
namespace Go.Proofs.YthhmobjphloahagDoor
open Go.RowKit

set_option maxHeartbeats 1000000 in
set_option maxRecDepth 100000 in
theorem lastBytes (n : Nat) (w : World) (hn : n ≤ 2000000000000) :
    Calls Tryd.prog 50 #[.int .i64 (n : Int)] w fun e w' => e = .returned (.string (strOfNums (padL n))) ∧ Below w.heap.size w w' := by
  obtain ⟨i0, hi, hz0, hz1, hz2⟩ := info_parts infoByte
  have tm : ((n : Int) + 8).tmod 64 = ((n : Int) + 8) % 64 := Int.tmod_eq_emod_of_nonneg (by omega)
  have hzo : zerosOf n ≤ 63 := by unfold zerosOf; omega
  have hzI : (63 : Int) - ((n : Int) + 8) % 64 = (zerosOf n : Int) := by unfold zerosOf; omega
  go_enter Tryd.func50, Tryd.ntmps50
  go_wp2_with (at_make; refine wpList_make_full _ rfl _ _ 56 rfl w.heap.size 5 i0 (.int .u8 0) 1 Tryd.underlying56 hi hz0 hz1 .i64 .i64 _ _ (9 + zerosOf n) rfl rfl ?c1 ?c2 ?c3 ?c4 ?c5 ?_)
  case c1 => omega
  case c2 => omega
  case c3 => rw [hz2]; omega
  case c4 => unfold maxLen; omega
  case c5 => exact Nat.le_refl _
  intro w1 hown hgrow
  have hB1 : Below w.heap.size w w1 := (Below.refl _ w).grown hgrow (Nat.le_refl _) (fun k hk => by cases hk)
  obtain ⟨hrow, hlen⟩ := rowOf hown rfl
  rw [toList_madeCells_one] at hrow hlen
  have c0 := rowFacts hrow 0 (.int .u8 0) (by rw [List.getElem?_replicate, if_pos (by omega)])
  have z0 := frozen_of_row w1 _ 0 _ _ hrow
  have HR0 : Hid ((w1.setCell ⟨w.heap.size, 0, none⟩ (.int .u8 128)).heap[w.heap.size]? = some (.cells ((fillL n 0).map (Value.int .u8)).toArray 5 (0, 0))) := by
    show _ = _
    rw [← fillL_start, List.map_set, List.map_replicate]
    exact rowSet _ hrow
  have HB1 : Hid (Below w.heap.size w (w1.setCell ⟨w.heap.size, 0, none⟩ (.int .u8 128))) := hB1.setCell (Nat.le_refl _) _
  have a1 : (1 : Int) ≤ 9 + (zerosOf n : Int) := by omega
  clear hown hgrow hrow hlen hB1
  go_wp2_with fail
  go_loopw [5, 6] (fun b i wr => ∃ j x p : Nat, j ≤ 8 ∧ b = .int .i64 (x : Int) ∧ x = 8 * n / 256 ^ j ∧ i = .int .i64 (p : Int) ∧ p = 8 + zerosOf n - j ∧ wr.heap[w.heap.size]? = some (.cells ((fillL n j).map (Value.int .u8)).toArray 5 (0, 0)) ∧ Below w.heap.size w wr)
    (fun b _ _ => (intOf b).toNat)
  case atStart => exact ⟨0, 8 * n, 8 + zerosOf n, by omega, by go_num, by simp, by go_num, by omega, HR0.out, HB1.out⟩
  case round =>
    clear HR0 HB1 c0 z0
    obtain ⟨j, x, p, hj, rfl, hx, rfl, hp, hgr, hb⟩ := hrel
    by_cases hlt : 0 < x
    · have hj8 : j < 8 := fill_small n j hn (by omega)
      have hpl : p < 9 + zerosOf n := by omega
      have hxn : x ≤ 8 * n := by rw [hx]; exact Nat.div_le_self _ _
      have hlM : ((fillL n j).map (Value.int .u8)).length = 9 + zerosOf n := by rw [List.length_map, fillL_len]
      have hd := rowFacts hgr p _ (List.getElem?_eq_getElem (by omega))
      have hz := frozen_of_row wr _ p _ _ hgr
      have HG : Hid ((wr.setCell ⟨w.heap.size, p, none⟩ (.int .u8 ((x % 256 : Nat) : Int))).heap[w.heap.size]? = some (.cells ((fillL n (j + 1)).map (Value.int .u8)).toArray 5 (0, 0))) := by
        show _ = _
        rw [← fillL_set n j hj8, List.map_set, ← hx, ← hp]
        exact rowSet _ hgr
      have HB : Hid (∀ v, Below w.heap.size w (wr.setCell ⟨w.heap.size, p, none⟩ v)) := fun v => hb.setCell (Nat.le_refl _) v
      have HX : Hid (x / 256 = 8 * n / 256 ^ (j + 1)) := by show _ = _; rw [hx, fill_step]
      have HP : Hid (p - 1 = 8 + zerosOf n - (j + 1)) := by show _ = _; omega
      have hp1 : 1 ≤ p := by omega
      have fw : IntKind.u8.wrap (x : Int) = ((x % 256 : Nat) : Int) := by rw [IntKind.wrap_u8]; omega
      generalize ((fillL n j).map (Value.int .u8))[p] = v0 at hd
      clear hgr hb hx hp hlM
      go_wp2
      go_roundw
      case rel =>
        refine ⟨j + 1, x / 256, p - 1, by omega, by go_num, HX.out, by go_num, HP.out, ?_, HB.out _⟩
        exact HG.out
      case measure => simp [intOf]; omega
    · have hx0 : x = 0 := by omega
      have hpad : fillL n j = padL n := fill_end n j hj (by omega)
      rw [hpad] at hgr
      have hl := padL_len n
      have hcv := run_convert_bytes_arg wr 56 5 Tryd.underlying56 Tryd.underlying5 w.heap.size 0 (9 + zerosOf n) (9 + zerosOf n) (padL n) hl
        (fun t ht => by
          rw [Nat.zero_add]
          refine rowFacts hgr t _ ?_
          rw [List.getElem?_map, List.getD, List.getElem?_eq_getElem (by omega)]
          rfl) 9 Tryd.underlying9
      have HB : Hid (Below w.heap.size w wr) := hb
      clear hgr hb hx hp hpad hl
      go_wp2
      go_ret
      exact ⟨rfl, HB.out⟩
end Go.Proofs.YthhmobjphloahagDoor
