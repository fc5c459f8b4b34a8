/- The draws' source: 'l01Source', walked: a new source over the bytes that are handed in. -/
import Derived.Test.YtbkkjgpaccfplaaDoorSrcB
namespace Go.Proofs.YtbkkjgpaccfplaaDoor
open Go.RowKit

set_option maxHeartbeats 2000000 in
set_option maxRecDepth 100000 in
theorem source_any (a : Option Addr) (len cap : Nat) (w : World) (hlen : len ≤ 1048576) (hc : CodeAt a len w) (hblk : ∀ x, 0 < len → a = some x → x.block < w.heap.size) :
    Calls Tryd.prog 23 #[.slice a len cap] w fun e w' => e = .returned (.pointer (some ⟨w.heap.size, 0, none⟩)) ∧ Src w.heap.size a len cap w' ∧ Below w.heap.size w w' ∧ w'.heap.size = w.heap.size + 1 := by
  have HC : Hid (CodeAt a len w) := hc
  have HBk : Hid (∀ x, 0 < len → a = some x → x.block < w.heap.size) := hblk
  clear hc hblk
  go_enter Tryd.func23, Tryd.ntmps23
  go_wp2
  go_loopw [4] (fun i wr => ∃ (j m : Nat), j ≤ len ∧ i = .int .i64 j ∧ m ≤ 18446744073709551615 ∧ wr.heap[w.heap.size]? = some (.cells #[.slice a len cap, .int .i64 0, .int .u64 m, .int .i64 0] 74 (0, 0)) ∧ Below w.heap.size w wr ∧ wr.heap.size = w.heap.size + 1)
    (fun i _ => len - (intOf i).toNat)
  case atStart =>
    exact ⟨0, 88172645463325252, Nat.zero_le _, rfl, by omega, heap_alloc_new w _, (Below.refl _ _).alloc (Nat.le_refl _) _, by simp⟩
  case round =>
    obtain ⟨j, m, hj, rfl, hm, hg, hbel, hsz⟩ := hrel
    have c2 := cell_of_row wr w.heap.size 2 _ _ (0, 0) hg
    have f2 := frozen_of_row wr w.heap.size 2 _ _ hg
    have c3 := cell_of_row wr w.heap.size 3 _ _ (0, 0) hg
    have f3 := frozen_of_row wr w.heap.size 3 _ _ hg
    simp at c2 c3
    have HG : Hid (wr.heap[w.heap.size]? = some (.cells #[.slice a len cap, .int .i64 0, .int .u64 m, .int .i64 0] 74 (0, 0))) := hg
    have HB : Hid (Below w.heap.size w wr) := hbel
    clear hg hbel
    by_cases hlt : j < len ∧ j < 64
    · obtain ⟨b, off, rfl, hcell⟩ : ∃ b off, a = some ⟨b, off, none⟩ ∧ ∀ i, i < len → ∃ z : Nat, z ≤ 255 ∧ w.cell? ⟨b, off + i, none⟩ = some (.int .u8 z) := by
        rcases HC.out with h | h
        · omega
        · exact h
      obtain ⟨y, hy, hyc0⟩ := hcell j hlt.1
      have hbb : b < w.heap.size := HBk.out _ (by omega) rfl
      have hyc : wr.cell? ⟨b, off + j, none⟩ = some (.int .u8 y) := (HB.out.cell hbb).trans hyc0
      obtain ⟨x1, hx1, ex1⟩ := xor_bd m y hm (by omega)
      obtain ⟨m1, hm1, em1⟩ := wrap_bd ((x1 : Int) * 1099511628211)
      have q1 : (j : Int) < (len : Int) := by omega
      have q2 : (j : Int) < 64 := by omega
      clear hcell hyc0
      go_wp2
      go_region
      go_wp2
      go_roundw
      case rel =>
        have h1 := heap_setCell_same wr w.heap.size 2 _ _ (.int .u64 (m1 : Int)) HG.out
        exact ⟨j + 1, m1, by omega, by go_num, hm1, h1, (HB.out.setCell (Nat.le_refl _) _).drew, by simpa using hsz⟩
      case measure => simp [intOf]; omega
    · have hout : (len : Int) ≤ (j : Int) ∨ (j : Int) < (len : Int) ∧ 64 ≤ (j : Int) := by omega
      clear hlt
      have hfin : ∀ (W : World) (v : Nat), v ≤ 12 → W.heap[w.heap.size]? = some (.cells #[.slice a len cap, .int .i64 0, .int .u64 m, .int .i64 v] 74 (0, 0)) → Below w.heap.size w W → Src w.heap.size a len cap W := fun W v hv h1 hW => by
        refine ⟨⟨0, m, v, Nat.zero_le _, hm, hv, h1⟩, ?_, fun x h0 hx => by have := HBk.out x h0 hx; omega, hlen⟩
        rcases HC.out with h | ⟨b, off, rfl, hcell⟩
        · exact .inl h
        · refine .inr ⟨b, off, rfl, fun i hi => ?_⟩
          obtain ⟨z, hz, hcl⟩ := hcell i hi
          exact ⟨z, hz, (hW.cell (p := ⟨b, off + i, none⟩) (show b < _ from HBk.out ⟨b, off, none⟩ (by omega) rfl)).trans hcl⟩
      have HF : Hid _ := hfin
      clear hfin
      by_cases h12 : 12 < len / 20
      · have q : (12 : Int) < (len : Int) / 20 := by omega
        rcases hout with ho | ⟨ho, ho'⟩
        all_goals
          go_wp2
          go_ret
          have h1 := heap_setCell_same wr w.heap.size 3 _ _ (.int .i64 ((len : Int) / 20)) HG.out
          have h2 := heap_setCell_same _ w.heap.size 3 _ _ (.int .i64 12) h1
          have hb := (HB.out.setCell (p := ⟨w.heap.size, 3, none⟩) (Nat.le_refl _) (.int .i64 ((len : Int) / 20))).setCell (p := ⟨w.heap.size, 3, none⟩) (Nat.le_refl _) (.int .i64 12)
          exact ⟨rfl, HF.out _ 12 (by omega) h2 hb, hb, by simpa using hsz⟩
      · have q : (len : Int) / 20 ≤ 12 := by omega
        have ecast : ((len / 20 : Nat) : Int) = (len : Int) / 20 := by omega
        have EC : Hid (((len / 20 : Nat) : Int) = (len : Int) / 20) := ecast
        clear ecast
        rcases hout with ho | ⟨ho, ho'⟩
        all_goals
          go_wp2
          go_ret
          have h1 := heap_setCell_same wr w.heap.size 3 _ _ (.int .i64 ((len : Int) / 20)) HG.out
          have hb := HB.out.setCell (p := ⟨w.heap.size, 3, none⟩) (Nat.le_refl _) (.int .i64 ((len : Int) / 20))
          rw [← EC.out] at h1 hb ⊢
          exact ⟨rfl, HF.out _ (len / 20) (by omega) h1 hb, hb, by simpa using hsz⟩
end Go.Proofs.YtbkkjgpaccfplaaDoor
