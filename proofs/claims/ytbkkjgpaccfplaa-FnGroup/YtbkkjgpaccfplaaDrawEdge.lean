/- '.edge', walked: a number at some limit. -/
import Derived.Test.YtbkkjgpaccfplaaSrcC
namespace Go.Proofs.Ytbkkjgpaccfplaa
open Go.RowKit

/-- Some number of its kind is answered. -/
def AnyI (e : Ending) : Prop := ∃ v : Int, (-9223372036854775808 ≤ v ∧ v ≤ 9223372036854775807) ∧ e = .returned (.int .i64 v)
set_option maxRecDepth 100000 in
set_option maxHeartbeats 1000000 in
theorem edge_any (g : Nat) (a : Option Addr) (len cap : Nat) (w : World) (hs : Src g a len cap w) :
    Calls Try.prog 41 #[.pointer (some ⟨g, 0, none⟩)] w fun e w' => AnyI e ∧ Src g a len cap w' ∧ Grows g w w' := by
  have hglt := hs.lt
  have HS : Hid (Src g a len cap w) := hs
  clear hs
  go_enter Try.func41, Try.ntmps41
  go_wp2_with fail
  refine (n_any g a len cap 14 _ (by omega) (HS.out.alloc _)).mono ?_
  rintro e w1 ⟨r, rfl, hr, hs1, ht1⟩
  have H1 : Hid (Src g a len cap w1) := hs1
  have G1 : Hid (Grows g w w1) := ((Grows.refl g w).alloc _).trans ht1.grows
  have hrow : w1.heap[w.heap.size]? = some (.cells #[.int .i64 0, .int .i64 1, .int .i64 (-1), .int .i64 2, .int .i64 1000, .int .i64 1001, .int .i64 2147483648, .int .i64 2147483647, .int .i64 (-2147483648), .int .i64 4611686018427387904, .int .i64 9223372036854775807, .int .i64 (-9223372036854775808), .int .i64 1000000, .int .i64 1000001] 2 (0, 0)) := by
    rw [ht1.1.block w.heap.size (by simp) (by intro e; have := Option.some.inj e; omega), heap_alloc_new]
  have hcell := cell_of_row w1 w.heap.size r _ _ (0, 0) hrow
  have hr14 : r < 14 := by omega
  obtain ⟨v, hv, hvc⟩ : ∃ v : Int, (-9223372036854775808 ≤ v ∧ v ≤ 9223372036854775807) ∧ w1.cell? ⟨w.heap.size, r, none⟩ = some (.int .i64 v) := by
    rw [hcell]
    have hq : r = 0 ∨ r = 1 ∨ r = 2 ∨ r = 3 ∨ r = 4 ∨ r = 5 ∨ r = 6 ∨ r = 7 ∨ r = 8 ∨ r = 9 ∨ r = 10 ∨ r = 11 ∨ r = 12 ∨ r = 13 := by omega
    rcases hq with rfl | rfl | rfl | rfl | rfl | rfl | rfl | rfl | rfl | rfl | rfl | rfl | rfl | rfl <;> exact ⟨_, by decide, rfl⟩
  have q2 : (r : Int) < 14 := by omega
  clear hrow hcell hs1 ht1 hr
  go_wp2
  go_ret
  exact ⟨⟨v, hv, rfl⟩, H1.out, G1.out⟩
end Go.Proofs.Ytbkkjgpaccfplaa
