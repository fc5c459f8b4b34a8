/- Blocks that are known whole, over calls: what a long walk carries along. -/
import Derived.Test.YtbkkjgpaccfplaeDoorHashJ
namespace Go.Proofs.YtbkkjgpaccfplaeDoor
open Go.RowKit

/-- These blocks lie so. -/
def Has (w : World) (l : List (Nat × Obj)) : Prop := ∀ p ∈ l, w.heap[p.1]? = some p.2
theorem Has.nil (w : World) : Has w [] := fun p hp => by cases hp
theorem Has.head {w : World} {b : Nat} {o : Obj} {l : List (Nat × Obj)} (h : Has w ((b, o) :: l)) : w.heap[b]? = some o := h (b, o) (List.mem_cons_self ..)
theorem Has.tail {w : World} {p : Nat × Obj} {l : List (Nat × Obj)} (h : Has w (p :: l)) : Has w l := fun q hq => h q (List.mem_cons_of_mem _ hq)
theorem Has.cons {w : World} {b : Nat} {o : Obj} {l : List (Nat × Obj)} (h : Has w l) (hb : w.heap[b]? = some o) : Has w ((b, o) :: l) := fun q hq => by
  rcases List.mem_cons.1 hq with rfl | hq
  · exact hb
  · exact h q hq
theorem Has.below {w w' : World} {N : Nat} {l : List (Nat × Obj)} (h : Has w l) (hb : Below N w w') (hN : w.heap.size ≤ N) : Has w' l := fun p hp => by
  rw [hb.block _ (Nat.lt_of_lt_of_le (heap_lt (h p hp)) hN)]; exact h p hp
theorem Has.mark {w w' : World} {q : Option Addr} {l : List (Nat × Obj)} (h : Has w l) (hf : ∀ b, q ≠ some ⟨b, 0, none⟩ → b < w.heap.size → w'.heap[b]? = w.heap[b]?) (hn : ∀ p ∈ l, q ≠ some ⟨p.1, 0, none⟩) : Has w' l := fun p hp => by
  rw [hf p.1 (hn p hp) (heap_lt (h p hp))]; exact h p hp
theorem OwnI.lt {w : World} {B g : Nat} {q : Option Addr} {zs : List Int} (h : OwnI w B q zs) (e : q = some ⟨g, 0, none⟩) : g < w.heap.size := by
  rcases h with ⟨h, _⟩ | ⟨g', L, h, _, hg⟩
  · rw [h] at e; cases e
  · rw [h] at e; cases e; exact heap_lt hg
theorem OwnI.ge {w : World} {B g : Nat} {q : Option Addr} {zs : List Int} (h : OwnI w B q zs) (e : q = some ⟨g, 0, none⟩) : B ≤ g := by
  rcases h with ⟨h, _⟩ | ⟨g', L, h, hB, _⟩
  · rw [h] at e; cases e
  · rw [h] at e; cases e; exact hB
theorem OwnI.mark {w w' : World} {B : Nat} {q q' : Option Addr} {zs : List Int} (h : OwnI w B q zs) (hf : ∀ b, q' ≠ some ⟨b, 0, none⟩ → b < w.heap.size → w'.heap[b]? = w.heap[b]?) (hn : ∀ g, q = some ⟨g, 0, none⟩ → q' ≠ some ⟨g, 0, none⟩) : OwnI w' B q zs := by
  rcases h with h | ⟨g, L, rfl, hB, hg⟩
  · exact .inl h
  · exact .inr ⟨g, L, rfl, hB, by rw [hf g (hn g rfl) (heap_lt hg)]; exact hg⟩
/-- A Hash in a variable. -/
def hashO (t : TypeId) (q : Option Addr) (n c : Nat) (r : ByteArray) (z : Int) : Obj := .cells [Value.slice q n c, .string r, .int .i64 z].toArray t (0, 0)
theorem hash_cells {w : World} {b : Nat} {t : TypeId} {q : Option Addr} {n c : Nat} {r : ByteArray} {z : Int} (h : w.heap[b]? = some (hashO t q n c r z)) : w.cell? ⟨b, 0, none⟩ = some (.slice q n c) ∧ w.cell? ⟨b, 1, none⟩ = some (.string r) ∧ w.cell? ⟨b, 2, none⟩ = some (.int .i64 z) :=
  ⟨rowFacts h 0 _ rfl, rowFacts h 1 _ rfl, rowFacts h 2 _ rfl⟩
theorem hash_alloc {w : World} {b : Nat} {t : TypeId} {q : Option Addr} {n c : Nat} {r : ByteArray} {z : Int} (h : w.heap[b]? = some (hashO t q n c r z)) : (∀ o, (w.alloc o).cell? ⟨b, 0, none⟩ = some (.slice q n c)) ∧ (∀ o, (w.alloc o).cell? ⟨b, 1, none⟩ = some (.string r)) ∧ (∀ o, (w.alloc o).cell? ⟨b, 2, none⟩ = some (.int .i64 z)) :=
  ⟨fun o => (World.cell?_alloc_lt w o ⟨b, 0, none⟩ (heap_lt h)).trans (rowFacts h 0 _ rfl), fun o => (World.cell?_alloc_lt w o ⟨b, 1, none⟩ (heap_lt h)).trans (rowFacts h 1 _ rfl), fun o => (World.cell?_alloc_lt w o ⟨b, 2, none⟩ (heap_lt h)).trans (rowFacts h 2 _ rfl)⟩
theorem Below.allocOne (w : World) (o : Obj) : Below w.heap.size w (w.alloc o) := (Below.refl _ w).alloc (Nat.le_refl _) o
end Go.Proofs.YtbkkjgpaccfplaeDoor
