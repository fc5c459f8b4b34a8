/- A row of numbers of the call's own. -/
import Derived.Test.YtbkkjgpaccfplaeDoorHashZ
namespace Go.Proofs.YtbkkjgpaccfplaeDoor
open Go.RowKit

/-- The numbers zs lie in a row of the call's own, in a block from B on (none at all: no row is wanted). -/
def OwnI (w : World) (B : Nat) (q : Option Addr) (zs : List Int) : Prop := (q = none ∧ zs = []) ∨ ∃ g L, q = some ⟨g, 0, none⟩ ∧ B ≤ g ∧ w.heap[g]? = some (.cells (lCells zs ++ L).toArray 2 (0, 0))
theorem OwnI.ints {w : World} {B : Nat} {q : Option Addr} {zs : List Int} (h : OwnI w B q zs) : IsInts w q zs := by
  rcases h with ⟨_, h⟩ | ⟨g, L, rfl, _, h⟩
  · exact .inl h
  · exact .row h
theorem OwnI.below {w w' : World} {B N : Nat} {q : Option Addr} {zs : List Int} (h : OwnI w B q zs) (hb : Below N w w') (hN : w.heap.size ≤ N) : OwnI w' B q zs := by
  rcases h with h | ⟨g, L, rfl, hg, h⟩
  · exact .inl h
  · refine .inr ⟨g, L, rfl, hg, ?_⟩
    rw [hb.block _ (Nat.lt_of_lt_of_le (heap_lt h) hN)]; exact h
theorem OwnI.mono {w : World} {B B' : Nat} {q : Option Addr} {zs : List Int} (h : OwnI w B q zs) (hB : B' ≤ B) : OwnI w B' q zs := by
  rcases h with h | ⟨g, L, rfl, hg, h⟩
  · exact .inl h
  · exact .inr ⟨g, L, rfl, by omega, h⟩
theorem OwnI.set {w : World} {B b o : Nat} {q : Option Addr} {zs : List Int} (h : OwnI w B q zs) (hb : b < B) (v : Value) : OwnI (w.setCell ⟨b, o, none⟩ v) B q zs := by
  rcases h with h | ⟨g, L, rfl, hg, h⟩
  · exact .inl h
  · exact .inr ⟨g, L, rfl, hg, by rw [heap_setCell_other _ _ _ _ (show g ≠ b by omega)]; exact h⟩
end Go.Proofs.YtbkkjgpaccfplaeDoor
