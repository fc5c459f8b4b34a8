/- What a walk is told of a slice of integers that came in. -/
import Derived.Test.YtegmmaomaegjjaaGreatDoorPT01
import Derived.OpenShut
namespace Go.Proofs.YtegmmaomaegjjaaGreatDoor
open Go.RowKit

/-- It is nil; or it leads to a row of 'cap' cells, the numbers 'zs', the first 'len' being its elements, each fitting its kind. -/
def IsRow (k : IntKind) (w : World) (a : Option Addr) (len cap : Nat) (zs : List Int) : Prop :=
  (a = none ∧ len = 0 ∧ cap = 0 ∧ zs = []) ∨
  ∃ x, a = some x ∧ len ≤ cap ∧ cap ≤ maxLen ∧ zs.length = cap ∧ (∀ i, i < zs.length → w.cell? (x.add i) = some (.int k (zs.getD i 0))) ∧ ∀ n ∈ zs, (Lit.int k n).wf = true
theorem IsRow.code {w : World} {a : Option Addr} {len cap : Nat} {zs : List Int} (h : IsRow .u8 w a len cap zs) : CodeAt a len w ∧ ∀ x, 0 < len → a = some x → x.block < w.heap.size := by
  rcases h with ⟨rfl, rfl, _, _⟩ | ⟨x, rfl, hl, _, hz, hc, hw⟩
  · exact ⟨.inl rfl, fun x h => by omega⟩
  by_cases h0 : len = 0
  · exact ⟨.inl h0, fun x h => by omega⟩
  obtain ⟨b, off, spot⟩ := x
  have hc0 := hc 0 (by omega)
  have hspot : spot = none := by simpa [Addr.add] using World.cell?_spot hc0
  subst hspot
  refine ⟨.inr ⟨b, off, rfl, fun i hi => ?_⟩, fun x _ hx => ?_⟩
  · have h1 := hc i (by omega)
    have hm : zs.getD i 0 ∈ zs := by
      rw [List.getD, List.getElem?_eq_getElem (show i < zs.length by omega)]
      exact List.getElem_mem _
    have hb := bounds_u8 (hw _ hm)
    refine ⟨(zs.getD i 0).toNat, by omega, ?_⟩
    rw [Int.toNat_of_nonneg hb.1]
    rw [Addr.add_lit] at h1
    exact h1
  · cases hx
    have := World.block_lt_of_cell? w _ hc0
    simpa [Addr.add] using this
theorem IsRow.len_le {k : IntKind} {w : World} {a : Option Addr} {len cap : Nat} {zs : List Int} (h : IsRow k w a len cap zs) : len ≤ maxLen := by
  rcases h with ⟨_, rfl, _, _⟩ | ⟨_, _, hl, hm, _⟩
  · exact Nat.zero_le _
  · omega
end Go.Proofs.YtegmmaomaegjjaaGreatDoor
