/- The numbers of a hash at work, and the hash: (*hashState).numbers, (*hashWork).hash, walked. -/
import Derived.Test.YtbkkjgpaccfplaaDoorHashZ
import Derived.Test.YtbkkjgpaccfplaaDoorShaQ
namespace Go.Proofs.YtbkkjgpaccfplaaDoor
open Go.RowKit

set_option maxHeartbeats 1000000 in
set_option maxRecDepth 100000 in
theorem numbers (s : St) (w : World) (g : Nat) (ty : TypeId) (tail : List Value) (hg : w.heap[g]? = some (.cells (uCells s ++ tail).toArray ty (0, 0))) :
    Calls Tryd.prog 57 #[.pointer (some ⟨g, 0, none⟩)] w
      fun e w' => e = .returned (.slice (some ⟨w.heap.size, 0, none⟩) 8 8) ∧ w'.heap[w.heap.size]? = some (.cells (iCells s).toArray 2 (0, 0)) ∧ Below w.heap.size w w' := by
  obtain ⟨i0, hi, hz0, hz1, hz2⟩ := info_parts infoLong
  have hgl := heap_lt hg
  go_enter Tryd.func57, Tryd.ntmps57
  go_wp2_with (at_make; refine wpList_make_full _ rfl _ _ 34 rfl w.heap.size 2 i0 (.int .i64 0) 1 Tryd.underlying34 hi hz0 hz1 .i64 .i64 _ _ 8 rfl rfl ?c1 ?c2 ?c3 ?c4 ?c5 ?_)
  case c1 => omega
  case c2 => omega
  case c3 => rw [hz2]; omega
  case c4 => unfold maxLen; omega
  case c5 => exact Nat.le_refl _
  intro w1 hown hgrow
  have hB1 : Below w.heap.size w w1 := (Below.refl _ w).grown hgrow (Nat.le_refl _) (fun k hk => by cases hk)
  obtain ⟨hrow, hlen⟩ := rowOf hown rfl
  generalize (madeCells #[Value.int IntKind.i64 0] 8).toList = L0 at hrow hlen
  have HR0 : Hid (w1.heap[w.heap.size]? = some (.cells L0.toArray 2 (0, 0))) := hrow
  have HL0 : Hid (L0.length = 8) := hlen
  have HB1 : Hid (Below w.heap.size w w1) := hB1
  clear hown hgrow hrow hlen hB1
  go_wp2_with fail
  go_loopw [8] (fun i wr => ∃ (k : Nat) (L : List Value), k ≤ 8 ∧ i = .int .i64 k ∧ L.length = 8 ∧ wr.heap[w.heap.size]? = some (.cells L.toArray 2 (0, 0)) ∧ (∀ j, j < k → L[j]? = some (.int .i64 (uI (s.row.getD j 0)))) ∧ Below w.heap.size w wr)
    (fun i _ => 8 - (intOf i).toNat)
  case atStart => exact ⟨0, L0, Nat.zero_le _, rfl, HL0.out, HR0.out, fun j hj => by omega, HB1.out⟩
  case round =>
    clear HL0 HR0 HB1
    obtain ⟨k, L, hk, rfl, hL, hgr, hv, hb⟩ := hrel
    by_cases hlt : k < 8
    · have hck : wr.cell? ⟨g, k, none⟩ = some (.int .u32 (uI (s.row.getD k 0))) := by
        rw [hb.cell (p := ⟨g, k, none⟩) hgl]
        refine rowFacts hg k _ ?_
        rw [List.getElem?_append_left (show k < (uCells s).length from hlt)]
        exact row_at s k hlt
      have hd := rowFacts hgr k L[k] (List.getElem?_eq_getElem (by omega))
      have hz := frozen_of_row wr _ k _ _ hgr
      have HG : Hid (∀ v, (wr.setCell ⟨w.heap.size, k, none⟩ v).heap[w.heap.size]? = some (.cells (L.set k v).toArray 2 (0, 0))) := fun v => rowSet v hgr
      have HV : Hid (∀ j, j < k + 1 → (L.set k (.int .i64 (uI (s.row.getD k 0))))[j]? = some (.int .i64 (uI (s.row.getD j 0)))) := fun j hj => by
        by_cases e : j = k
        · subst e; rw [List.getElem?_set_self (by omega)]
        · rw [List.getElem?_set_ne (by omega), hv j (by omega)]
      have HL : Hid (∀ v, (L.set k v).length = 8) := fun v => by simpa using hL
      have HB : Hid (∀ n v, Below w.heap.size w ((wr.drewN n).setCell ⟨w.heap.size, k, none⟩ v)) := fun n v => (below_drewN hb n).setCell (Nat.le_refl _) v
      generalize L[k] = v0 at hd
      have f1 := uI_i64 (s.row.getD k 0)
      have f2 := uI_le (s.row.getD k 0)
      have f3 := uI_nonneg (s.row.getD k 0)
      generalize s.row.getD k 0 = z at hck HV f1 f2 f3
      clear hv hgr hb hL hg
      go_wp2_with fail
      go_quiet (fail)
      go_wp2
      go_roundw
      case rel => exact ⟨k + 1, _, by omega, by go_num, HL.out _, HG.out _, HV.out, HB.out _ _⟩
      case measure => simp [intOf]; omega
    · have hLe : L = iCells s := by
        apply List.ext_getElem?
        intro j
        by_cases hj : j < 8
        · rw [hv j (by omega), iCells_at s j hj]
        · rw [List.getElem?_eq_none (by omega), List.getElem?_eq_none (show 8 ≤ j by omega)]
      subst hLe
      have HG : Hid (wr.heap[w.heap.size]? = some (.cells (iCells s).toArray 2 (0, 0))) := hgr
      have HB : Hid (Below w.heap.size w wr) := hb
      clear hgr hv hb hL hg
      go_wp2
      go_ret
      exact ⟨rfl, HG.out, HB.out⟩
set_option maxHeartbeats 1000000 in
set_option maxRecDepth 100000 in
theorem workHash (s : St) (r : ByteArray) (n : Int) (w : World) (g : Nat) (ty : TypeId) (hg : w.heap[g]? = some (.cells (uCells s ++ [Value.string r, Value.int .i64 n]).toArray ty (0, 0))) :
    Calls Tryd.prog 41 #[.pointer (some ⟨g, 0, none⟩)] w
      fun e w' => ∃ q, e = .returned (hashV (some ⟨q, 0, none⟩) 8 8 r n) ∧ w.heap.size ≤ q ∧ w'.heap[q]? = some (.cells (iCells s).toArray 2 (0, 0)) ∧ Below w.heap.size w w' := by
  have hgl := heap_lt hg
  have c8 := rowFacts hg 8 (.string r) rfl
  have c9 := rowFacts hg 9 (.int .i64 n) rfl
  go_enter Tryd.func41, Tryd.ntmps41
  go_wp2_with fail
  have hA : ∀ o, Below w.heap.size w (w.alloc o) := fun o => (Below.refl _ w).alloc (Nat.le_refl _) o
  generalize hw1 : w.alloc _ = w1
  have hb1 : Below w.heap.size w w1 := by rw [← hw1]; exact hA _
  have hs1 : w1.heap.size = w.heap.size + 1 := by rw [← hw1]; simp
  have hR1 : w1.heap[w.heap.size]? = some (.cells [Value.slice none 0 0, .string ⟨#[]⟩, .int .i64 0].toArray 36 (0, 0)) := by rw [← hw1]; exact heap_alloc_new w _
  have hg1 : w1.heap[g]? = some (.cells (uCells s ++ [Value.string r, Value.int .i64 n]).toArray ty (0, 0)) := by rw [hb1.block g hgl, hg]
  have d8 := rowFacts hg1 8 (.string r) rfl
  have d9 := rowFacts hg1 9 (.int .i64 n) rfl
  have HT : Hid (Calls Tryd.prog 57 #[.pointer (some ⟨g, 0, none⟩)] w1.drew fun e w' => e = .returned (.slice (some ⟨w.heap.size + 1, 0, none⟩) 8 8) ∧ Hid (w'.heap[w.heap.size + 1]? = some (.cells (iCells s).toArray 2 (0, 0))) ∧ Hid (Below w.heap.size w w') ∧
      w'.cell? ⟨g, 8, none⟩ = some (.string r) ∧ w'.cell? ⟨g, 9, none⟩ = some (.int .i64 n) ∧ Hid (w'.heap[w.heap.size]? = some (.cells [Value.slice none 0 0, .string ⟨#[]⟩, .int .i64 0].toArray 36 (0, 0))) ∧
      w'.cell? ⟨w.heap.size, 0, none⟩ = some (.slice none 0 0) ∧ w'.cell? ⟨w.heap.size, 1, none⟩ = some (.string ⟨#[]⟩) ∧ w'.cell? ⟨w.heap.size, 2, none⟩ = some (.int .i64 0) ∧ w'.frozen? ⟨w.heap.size, 0, none⟩ = false ∧ w'.frozen? ⟨w.heap.size, 1, none⟩ = false ∧ w'.frozen? ⟨w.heap.size, 2, none⟩ = false) := by
    show Calls _ _ _ _ _
    refine (numbers s w1.drew g ty [.string r, .int .i64 n] hg1).mono ?_
    rintro e w' ⟨rfl, h1, h2⟩
    have e1 : w1.drew.heap.size = w.heap.size + 1 := hs1
    rw [e1] at h1 h2 ⊢
    have hr' : w'.heap[w.heap.size]? = some (.cells [Value.slice none 0 0, .string ⟨#[]⟩, .int .i64 0].toArray 36 (0, 0)) := by rw [h2.block _ (by omega)]; exact hR1
    have hg' : w'.heap[g]? = some (.cells (uCells s ++ [Value.string r, Value.int .i64 n]).toArray ty (0, 0)) := by rw [h2.block _ (by omega)]; exact hg1
    exact ⟨rfl, h1, hb1.drew.trans (h2.mono (by omega)), rowFacts hg' 8 _ rfl, rowFacts hg' 9 _ rfl, hr', rowFacts hr' 0 _ rfl, rowFacts hr' 1 _ rfl, rowFacts hr' 2 _ rfl, frozen_of_row w' _ 0 _ _ hr', frozen_of_row w' _ 1 _ _ hr', frozen_of_row w' _ 2 _ _ hr'⟩
  clear hw1 hR1 hg1 hb1 hA c8 c9 hg
  go_region_with (first | (go_at_call 57; refine HT.out.mono ?_; rintro e w' ⟨rfl, k1, k2, k3, k4, k5, m0, m1, m2, z0, z1, z2⟩))
  all_goals
    go_wp2
    refine bodyPost_ret (v := hashV (some ⟨w.heap.size + 1, 0, none⟩) 8 8 r n) ?_ rfl ?_
    · have hrow := row3 k5.out (.slice (some ⟨w.heap.size + 1, 0, none⟩) 8 8) (.string r) (.int .i64 n)
      have hl3 := run_loadVar_mid (P := Tryd.prog) _ w.heap.size 0 36 _ _ (rangeRow hrow) Tryd.underlying36 rfl sizeHash
      simp [results, Tryd.results41, asAddr, hl3]
    · refine ⟨_, rfl, by omega, ?_, ((k2.out.setCell (Nat.le_refl _) _).setCell (Nat.le_refl _) _).setCell (Nat.le_refl _) _⟩
      repeat rw [heap_setCell_other _ _ _ _ (by simp)]
      exact k1.out
end Go.Proofs.YtbkkjgpaccfplaaDoor
