/- One round, walked: (*hashState).turn. -/
import Derived.Test.YthhmobjphloahagDoorShaA
import Derived.Test.YthhmobjphloahagDoorRowK
import Derived.Handy
import Derived.Deep.QuietTactic
import Derived.BigQuiet
namespace Go.Proofs.YthhmobjphloahagDoor
open Go.RowKit Go.BigFrame

/-- A byte of a text, read. -/
theorem idxB (t : ByteArray) (j : Nat) (h : j < t.size) (n : Int) (hn : n = j) (w : World) : (Instr.index 9 (.string t) (.int .i64 n)).run Tryd.prog w = .ok (.int .u8 (uI (bU (byteAt t j)))) w := by
  subst hn
  rw [run_index_string _ _ _ _ _ Tryd.underlying9, dif_pos ⟨by omega, by omega⟩, uI_bU, byteAt_get t j h]
  rfl
theorem arr8 : Tryd.prog.arrayLen 49 = 8 := by kernel_rfl

theorem slice8a (w : World) (g : Nat) : (Instr.sliceAt 49 (.pointer (some ⟨g, 0, none⟩)) (some (.int .i64 1)) none none).run Tryd.prog w = .ok (.slice (some ⟨g, 1, none⟩) 7 7) w := by kernel_rfl
theorem slice8b (w : World) (g : Nat) : (Instr.sliceAt 49 (.pointer (some ⟨g, 0, none⟩)) none (some (.int .i64 7)) none).run Tryd.prog w = .ok (.slice (some ⟨g, 0, none⟩) 7 8) w := by kernel_rfl
theorem turn_src {w : World} {g : Nat} {t : TypeId} {s : St} (hg : w.heap[g]? = some (.cells (uCells s).toArray t (0, 0))) :
    ∀ j v, ((uCells s).take 7)[j]? = some v → w.cell? ((⟨g, 0, none⟩ : Addr).add j) = some v := by
  intro j v hj
  rw [Addr.add_lit, Nat.zero_add]
  refine rowFacts hg j v ?_
  rw [List.getElem?_take] at hj
  split at hj
  · exact hj
  · cases hj
theorem u32Size : (Tryd.prog.info? 47).map (·.size) = some 1 := by kernel_rfl
theorem uCells_one (s : St) : ∀ v ∈ (uCells s).take 7, v.oneCell' = true := fun v hv => by
  have := List.mem_of_mem_take hv
  simp only [uCells, List.mem_map] at this
  obtain ⟨x, _, rfl⟩ := this
  rfl
set_option maxHeartbeats 400000 in
set_option maxRecDepth 100000 in
theorem turnW (s : St) (kw : U) (w : World) (g : Nat) (t : TypeId) (hg : w.heap[g]? = some (.cells (uCells s).toArray t (0, 0))) :
    Calls Tryd.prog 59 #[.pointer (some ⟨g, 0, none⟩), .int .u32 (uI kw)] w
      fun e w' => e = .returned (.tuple #[]) ∧ w'.heap[g]? = some (.cells (uCells (rnd s kw)).toArray t (0, 0)) ∧ Below g w w' := by
  have c0 := rowFacts hg 0 (.int .u32 (uI s.a)) rfl
  have c1 := rowFacts hg 1 (.int .u32 (uI s.b)) rfl
  have c2 := rowFacts hg 2 (.int .u32 (uI s.c)) rfl
  have c4 := rowFacts hg 4 (.int .u32 (uI s.e)) rfl
  have c5 := rowFacts hg 5 (.int .u32 (uI s.f)) rfl
  have c6 := rowFacts hg 6 (.int .u32 (uI s.g)) rfl
  have c7 := rowFacts hg 7 (.int .u32 (uI s.h)) rfl
  have HG : Hid (w.heap[g]? = some (.cells (uCells s).toArray t (0, 0))) := hg
  clear hg
  go_enter Tryd.func59, Tryd.ntmps59
  go_wp2_with fail
  go_quiet (fail)
  go_wp2_with fail
  go_quiet (fail)
  go_wp2_with fail
  have fx := uI_xor
  have fa := uI_and
  have fn := uI_not'
  have fp := uI_add
  have fq := uI_add'
  go_big_quiet (exact (implTurnI _ _ _ (by decide) (by decide)).mono (fun _ _ h => ⟨h.1, _, h.2⟩))
  go_wp2_with fail
  refine (implTurnI _ _ _ (by decide) (by decide)).mono ?_
  rintro e w' ⟨rfl, rfl⟩
  go_wp2_with fail
  refine (implTurnI _ _ _ (by decide) (by decide)).mono ?_
  rintro e w' ⟨rfl, rfl⟩
  go_wp2_with fail
  refine (implTurnI _ _ _ (by decide) (by decide)).mono ?_
  rintro e w' ⟨rfl, rfl⟩
  go_wp2_with fail
  generalize hw4 : w.drewN _ = w4
  have hg4 : w4.heap[g]? = some (.cells (uCells s).toArray t (0, 0)) := by rw [← hw4]; exact HG.out
  have hb4 : Below g w w4 := by rw [← hw4]; exact below_drewN (Below.refl _ _) _
  have hs1 := slice8a
  have hs2 := slice8b
  clear c0 c1 c2 c4 c5 c6 c7 hw4 HG
  go_region_law ((refine step_copy_splice (by rfl) (.tmp 82) (.tmp 85) _ _ (by rfl) 47 Tryd.underlying75 u32Size (some ⟨g, 1, none⟩) (some ⟨g, 0, none⟩) 7 7 7 8 (by go_simp) (by go_simp) g 1 (uCells s) t hg4 ((uCells s).take 7) (by rfl) (fun _ => ⟨rfl, _, rfl, turn_src hg4⟩) (by simp [uCells, St.row]) (uCells_one s) g w hb4.drew (Nat.le_refl _) ?_; intro w5 hg5 hb5))
  have HG5 := hg5.out
  have e5 : splice (uCells s) 1 ((uCells s).take 7) = [.int .u32 (uI s.a), .int .u32 (uI s.a), .int .u32 (uI s.b), .int .u32 (uI s.c), .int .u32 (uI s.d), .int .u32 (uI s.e), .int .u32 (uI s.f), .int .u32 (uI s.g)] := rfl
  rw [e5] at HG5
  have d4 := rowFacts HG5 4 _ rfl
  have d0 := rowFacts HG5 0 _ rfl
  have z4 := frozen_of_row w5 g 4 _ t HG5
  have z0 := frozen_of_row w5 g 0 _ t HG5
  have HE : Hid (∀ x y, ((w5.setCell ⟨g, 4, none⟩ x).setCell ⟨g, 0, none⟩ y).heap[g]? = some (.cells [y, .int .u32 (uI s.a), .int .u32 (uI s.b), .int .u32 (uI s.c), x, .int .u32 (uI s.e), .int .u32 (uI s.f), .int .u32 (uI s.g)].toArray t (0, 0))) :=
    fun x y => rowSet y (rowSet x HG5)
  have HB : Hid (∀ x y, Below g w ((w5.setCell ⟨g, 4, none⟩ x).setCell ⟨g, 0, none⟩ y)) := fun x y => (hb5.setCell (Nat.le_refl _) x).setCell (Nat.le_refl _) y
  clear hg5 HG5 hb5 hg4 hb4 e5
  go_wp2
  go_region
  go_wp2
  go_returns
  exact ⟨rfl, HE.out _ _, (HB.out _ _).drew⟩
end Go.Proofs.YthhmobjphloahagDoor
