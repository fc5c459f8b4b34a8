/- impl.HashRight, walked. -/
import Derived.Test.YtbkkjgpaccfplaaDoorHashBr
namespace Go.Proofs.YtbkkjgpaccfplaaDoor
open Go.RowKit

set_option maxHeartbeats 1000000 in
set_option maxRecDepth 100000 in
theorem implRight (a : Option Addr) (zs : List Int) (c : Nat) (r : ByteArray) (z : Int) (w : World) (hl : zs.length ≤ 1048576) (_hr : r.size ≤ 1048576) (z0 : -9223372036854775808 ≤ z) (z1 : z ≤ 9223372036854775807) (ha : IsInts w a zs) :
    Calls Tryd.prog 19 #[hashV a zs.length c r z] w fun e w' => e = .returned (.bool (rightB zs r.size z)) ∧ Below w.heap.size w w' := by
  unfold hashV
  have hbb : ∀ x, Below w.heap.size w (w.alloc x) := fun x => (Below.refl _ w).alloc (Nat.le_refl _) x
  by_cases hb : zs.length = 8 ∧ 0 ≤ z ∧ z ≤ 1099511627776
  · obtain ⟨h8, hz0, hz1⟩ := hb
    obtain ⟨b, o, rfl, hc⟩ : ∃ b o, a = some ⟨b, o, none⟩ ∧ ∀ i, i < zs.length → w.cell? ⟨b, o + i, none⟩ = some (.int .i64 (zs.getD i 0)) := by
      rcases ha with rfl | h
      · simp at h8
      · exact h
    have hbl : b < w.heap.size := World.block_lt_of_cell? w _ (hc 0 (by omega))
    have HC : Hid (∀ i, i < 8 → w.cell? ⟨b, o + i, none⟩ = some (.int .i64 (zs.getD i 0))) := fun i hi => hc i (by omega)
    have HA : Hid (∀ h : ∀ i, i < 8 → 0 ≤ zs.getD i 0 ∧ zs.getD i 0 ≤ 4294967295, rightB zs r.size z = ((r.size : Int) == z % 64)) := fun h => by
      by_cases e : (r.size : Int) = z % 64
      · rw [right_true ⟨h8, hz0, hz1, e, h⟩, e]; simp
      · rw [right_false (fun H => e H.2.2.2.1)]; simp [e]
    have HF : Hid (∀ i, i < 8 → ¬ (0 ≤ zs.getD i 0 ∧ zs.getD i 0 ≤ 4294967295) → rightB zs r.size z = false) := fun i hi h => right_false (fun H => h (H.2.2.2.2 i hi))
    have tm : z.tmod 64 = z % 64 := Int.tmod_eq_emod_of_nonneg hz0
    rw [h8]
    clear hc ha hl h8
    go_enter Tryd.func19, Tryd.ntmps19
    go_wp2_with fail
    go_loopw [22] (fun i wr => ∃ k : Nat, k ≤ 8 ∧ i = .int .i64 k ∧ (∀ j, j < k → 0 ≤ zs.getD j 0 ∧ zs.getD j 0 ≤ 4294967295) ∧ Below (w.heap.size + 1) (w.alloc (.cells #[.slice (some ⟨b, o, none⟩) 8 c, .string r, .int .i64 z] 36 (0, 0))) wr) (fun i _ => 8 - (intOf i).toNat)
    case atStart => exact ⟨0, Nat.zero_le _, rfl, fun j hj => by omega, Below.refl _ _⟩
    case round =>
      obtain ⟨k, hk, rfl, hok, hbr⟩ := hrel
      have p0 := hbr.cell (p := ⟨w.heap.size, 0, none⟩) (by simp)
      have p1 := hbr.cell (p := ⟨w.heap.size, 1, none⟩) (by simp)
      have p2 := hbr.cell (p := ⟨w.heap.size, 2, none⟩) (by simp)
      simp at p0 p1 p2
      have HB : Hid (Below w.heap.size w wr) := (hbb _).trans (hbr.mono (by omega))
      by_cases hlt : k < 8
      · have ck : wr.cell? ⟨b, o + k, none⟩ = some (.int .i64 (zs.getD k 0)) := by
          rw [HB.out.cell (p := ⟨b, o + k, none⟩) hbl]; exact HC.out k hlt
        by_cases hin : 0 ≤ zs.getD k 0 ∧ zs.getD k 0 ≤ 4294967295
        · have HO : Hid (∀ j, j < k + 1 → 0 ≤ zs.getD j 0 ∧ zs.getD j 0 ≤ 4294967295) := fun j hj => by
            by_cases e : j = k
            · subst e; exact hin
            · exact hok j (by omega)
          have HBR : Hid _ := hbr
          obtain ⟨hi0, hi1⟩ := hin
          generalize zs.getD k 0 = x at ck hi0 hi1
          clear hok hbr hbb
          go_wp2
          exact ⟨⟨k + 1, by omega, by go_num, HO.out, HBR.out⟩, by simp [intOf]; omega⟩
        · have HR := HF.out k hlt hin
          have hin2 : zs.getD k 0 < 0 ∨ 4294967295 < zs.getD k 0 := by omega
          generalize zs.getD k 0 = x at ck hin2
          clear hok hbr hbb hin
          rcases hin2 with hx | hx
          · go_wp2
            go_ret
            exact ⟨ret_bool HR.symm, HB.out⟩
          · go_wp2
            go_ret
            exact ⟨ret_bool HR.symm, HB.out⟩
      · have HR := HA.out (fun i hi => hok i (by omega))
        clear hok hbr hbb
        go_wp2
        go_ret
        exact ⟨ret_bool HR.symm, HB.out⟩
  · have HF : rightB zs r.size z = false := right_false (fun H => hb ⟨H.1, H.2.1, H.2.2.1⟩)
    rw [HF]
    by_cases h8 : zs.length = 8
    · by_cases hz0 : 0 ≤ z
      · have hz1 : ¬ z ≤ 1099511627776 := fun h => hb ⟨h8, hz0, h⟩
        rw [h8]
        clear hb ha h8
        go_enter Tryd.func19, Tryd.ntmps19
        go_wp2
        go_ret
        exact ⟨rfl, hbb _⟩
      · rw [h8]
        clear hb ha h8
        go_enter Tryd.func19, Tryd.ntmps19
        go_wp2
        go_ret
        exact ⟨rfl, hbb _⟩
    · clear hb ha
      go_enter Tryd.func19, Tryd.ntmps19
      go_wp2
      go_ret
      exact ⟨rfl, hbb _⟩
end Go.Proofs.YtbkkjgpaccfplaaDoor
