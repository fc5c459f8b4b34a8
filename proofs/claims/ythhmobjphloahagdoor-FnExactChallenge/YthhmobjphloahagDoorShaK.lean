/- The numbers of the rounds, walked: spec.l02Keys. -/
import Derived.Test.YthhmobjphloahagDoorShaD
import Derived.Test.YthhmobjphloahagDoorInfoL
namespace Go.Proofs.YthhmobjphloahagDoor
open Go.RowKit

def keyV : List Value := keyL.map fun n : Nat => Value.int .u32 (n : Int)
theorem key_at (k : Nat) (h : k < 64) : keyV[k]? = some (.int .u32 (uI (kAt k))) := by
  unfold keyV
  have hl : k < keyL.length := h
  rw [List.getElem?_map, List.getElem?_eq_getElem hl]
  have hb : ∀ n ∈ keyL, n < 4294967296 := by decide
  have := hb _ (List.getElem_mem hl)
  unfold kAt uI
  rw [BitVec.toNat_ofNat, List.getD, List.getElem?_eq_getElem hl]
  simp only [Option.map_some, Option.getD_some]
  rw [Nat.mod_eq_of_lt (by simpa using this)]
set_option maxRecDepth 100000 in
theorem specKeys (w : World) :
    Calls Tryd.prog 61 #[] w fun e w' => e = .returned (.slice (some ⟨w.heap.size, 0, none⟩) 64 64) ∧ w'.heap[w.heap.size]? = some (.cells keyV.toArray 47 (0, 0)) ∧ Below w.heap.size w w' := by
  go_enter Tryd.func61, Tryd.ntmps61
  go_wp2
  go_ret
  exact ⟨rfl, heap_alloc_new _ _, (Below.refl _ _).alloc (Nat.le_refl _) _⟩
theorem add_row (s T : St) (j : Nat) (h : j < 8) : (s.add T).row.getD j 0 = s.row.getD j 0 + T.row.getD j 0 := by
  rcases (by omega : j = 0 ∨ j = 1 ∨ j = 2 ∨ j = 3 ∨ j = 4 ∨ j = 5 ∨ j = 6 ∨ j = 7) with rfl | rfl | rfl | rfl | rfl | rfl | rfl | rfl <;> rfl
theorem iCells_take (s : St) (j : Nat) (h : j < 8) : (iCells s).take (j + 1) = (iCells s).take j ++ [.int .i64 (uI (s.row.getD j 0))] := by
  have e := iCells_at s j h
  have hl : j < (iCells s).length := h
  rw [List.getElem?_eq_getElem hl] at e
  rw [List.take_succ_eq_append_getElem hl, Option.some.inj e]
theorem infoWord : (Tryd.prog.info? 47).map (fun i => (i.zero, i.size, i.bytes)) = some (some (.int .u32 0), 1, 4) := by kernel_rfl
end Go.Proofs.YthhmobjphloahagDoor
