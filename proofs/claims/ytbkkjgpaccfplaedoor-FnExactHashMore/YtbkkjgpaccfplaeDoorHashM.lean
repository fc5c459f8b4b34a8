/- What marks a row, and what looks for the marks: laws.markHash, laws.heldHash, walked. -/
import Derived.Test.YtbkkjgpaccfplaeDoorHashA
namespace Go.Proofs.YtbkkjgpaccfplaeDoor
open Go.RowKit

/-- The first n cells count on from k. -/
def Counts (k : Int) (n : Nat) (M : List Value) : Prop := ∀ j, j < n → M[j]? = some (.int .i64 (k + j))
/-- A row was written, nothing else. -/
def RowOnly (g : Nat) (w w' : World) : Prop := w'.heap.size = w.heap.size ∧ (∀ b, b ≠ g → w'.heap[b]? = w.heap[b]?) ∧ ∀ B w0, B ≤ g → Below B w0 w → Below B w0 w'
theorem RowOnly.refl (g : Nat) (w : World) : RowOnly g w w := ⟨rfl, fun _ _ => rfl, fun _ _ _ h => h⟩
theorem RowOnly.set {g : Nat} {w w' : World} (h : RowOnly g w w') (i : Nat) (v : Value) : RowOnly g w (w'.setCell ⟨g, i, none⟩ v) :=
  ⟨by rw [← h.1]; simp, fun b hb => by rw [heap_setCell_other _ _ _ _ hb]; exact h.2.1 b hb, fun B w0 hB hw => (h.2.2 B w0 hB hw).setCell hB v⟩
set_option maxHeartbeats 1000000 in
set_option maxRecDepth 100000 in
theorem markInts (g n c : Nat) (L : List Value) (k : Int) (w : World) (hn : n ≤ 1048576) (hk0 : 0 ≤ k) (hk : k ≤ 1048576) (hL : n ≤ L.length) (hg : w.heap[g]? = some (.cells L.toArray 2 (0, 0))) :
    Calls Tryd.prog 28 #[.slice (some ⟨g, 0, none⟩) n c, .int .i64 k] w fun e w' => e = .returned (.int .i64 (k + n)) ∧ (∃ M, w'.heap[g]? = some (.cells M.toArray 2 (0, 0)) ∧ Counts k n M) ∧ RowOnly g w w' := by
  go_enter Tryd.func28, Tryd.ntmps28
  go_wp2_with fail
  go_loopw [1, 5] (fun q i wr => ∃ (j : Nat) (M : List Value), j ≤ n ∧ q = .int .i64 (k + j) ∧ i = .int .i64 j ∧ n ≤ M.length ∧ wr.heap[g]? = some (.cells M.toArray 2 (0, 0)) ∧ Counts k j M ∧ RowOnly g w wr)
    (fun _ i _ => n - (intOf i).toNat)
  case atStart => exact ⟨0, L, Nat.zero_le _, by simp, rfl, hL, hg, fun j hj => by omega, RowOnly.refl _ _⟩
  case round =>
    clear hg hL
    obtain ⟨j, M, hj, rfl, rfl, hM, hgr, hc, ho⟩ := hrel
    by_cases hlt : j < n
    · have hd := rowFacts hgr j M[j] (List.getElem?_eq_getElem (by omega))
      have hz := frozen_of_row wr _ j _ _ hgr
      have HG : Hid (∀ v, (wr.setCell ⟨g, j, none⟩ v).heap[g]? = some (.cells (M.set j v).toArray 2 (0, 0))) := fun v => rowSet v hgr
      have HC : Hid (Counts k (j + 1) (M.set j (.int .i64 (k + j)))) := fun t ht => by
        by_cases e : t = j
        · subst e; rw [List.getElem?_set_self (by omega)]
        · rw [List.getElem?_set_ne (by omega), hc t (by omega)]
      have HL : Hid (∀ v, n ≤ (M.set j v).length) := fun v => by simpa using hM
      have HO : Hid (∀ v, RowOnly g w (wr.setCell ⟨g, j, none⟩ v)) := fun v => ho.set j v
      generalize M[j] = v0 at hd
      clear hc ho hgr hM
      go_wp2
      go_roundw
      case rel => exact ⟨j + 1, _, by omega, by go_num, by go_num, HL.out _, HG.out _, HC.out, HO.out _⟩
      case measure => simp [intOf]; omega
    · have hjn : j = n := by omega
      have HC : Hid (∃ M : List Value, wr.heap[g]? = some (.cells M.toArray 2 (0, 0)) ∧ Counts k n M) := ⟨M, hgr, by rw [← hjn]; exact hc⟩
      have HO : Hid (RowOnly g w wr) := ho
      clear hc ho hgr
      go_wp2
      go_ret
      exact ⟨ret_int (by rw [← hjn]), HC.out, HO.out⟩
set_option maxHeartbeats 1000000 in
set_option maxRecDepth 100000 in
theorem heldInts (g n c : Nat) (M : List Value) (k : Int) (w : World) (hn : n ≤ 1048576) (hk0 : 0 ≤ k) (hk : k ≤ 1048576) (hg : w.heap[g]? = some (.cells M.toArray 2 (0, 0))) (hc : Counts k n M) :
    Calls Tryd.prog 29 #[.slice (some ⟨g, 0, none⟩) n c, .int .i64 k] w fun e w' => e = .returned (.int .i64 (k + n)) ∧ w' = w := by
  go_enter Tryd.func29, Tryd.ntmps29
  go_wp2_with fail
  go_loopw [1, 5] (fun q i wr => ∃ j : Nat, j ≤ n ∧ q = .int .i64 (k + j) ∧ i = .int .i64 j ∧ wr = w)
    (fun _ i _ => n - (intOf i).toNat)
  case atStart => exact ⟨0, Nat.zero_le _, by simp, rfl, rfl⟩
  case round =>
    obtain ⟨j, hj, rfl, rfl, rfl⟩ := hrel
    by_cases hlt : j < n
    · have hd := rowFacts hg j _ (hc j hlt)
      clear hc hg
      go_wp2
      go_roundw
      case rel => exact ⟨j + 1, by omega, by go_num, by go_num, trivial⟩
      case measure => simp [intOf]; omega
    · have hjn : j = n := by omega
      clear hc hg
      go_wp2
      go_ret
      exact ⟨ret_int (by rw [← hjn]), rfl⟩
set_option maxHeartbeats 1000000 in
set_option maxRecDepth 100000 in
theorem markHash (g n c : Nat) (L : List Value) (r : ByteArray) (z k : Int) (w : World) (hn : n ≤ 1048576) (hk : k = 1) (hL : n ≤ L.length) (hg : w.heap[g]? = some (.cells L.toArray 2 (0, 0))) :
    Calls Tryd.prog 11 #[hashV (some ⟨g, 0, none⟩) n c r z, .int .i64 k] w fun e w' => e = .returned (.int .i64 (1 + n)) ∧ (∃ M, w'.heap[g]? = some (.cells M.toArray 2 (0, 0)) ∧ Counts 1 n M) ∧ (∀ b, b ≠ g → b < w.heap.size → w'.heap[b]? = w.heap[b]?) ∧ w.heap.size ≤ w'.heap.size ∧ ∀ B w0, B ≤ g → B ≤ w.heap.size → Below B w0 w → Below B w0 w' := by
  subst hk
  have hgl := heap_lt hg
  go_enter Tryd.func11, Tryd.ntmps11
  go_wp2_with fail
  refine (markInts g n c L 1 _ hn (by omega) (by omega) hL (by rw [Below.heap_alloc w _ g hgl]; exact hg)).mono ?_
  rintro e w' ⟨rfl, hM, h1, h2, h3⟩
  have hb : (1 : Int) + n ≤ 1048577 := by omega
  have h0 : (0 : Int) ≤ 1 + n := by omega
  have HM : Hid (∃ M, w'.heap[g]? = some (.cells M.toArray 2 (0, 0)) ∧ Counts 1 n M) := hM
  have HO : Hid ((∀ b, b ≠ g → b < w.heap.size → w'.heap[b]? = w.heap[b]?) ∧ w.heap.size ≤ w'.heap.size ∧ ∀ B w0, B ≤ g → B ≤ w.heap.size → Below B w0 w → Below B w0 w') :=
    ⟨fun b hb hl => by rw [h2 b hb, Below.heap_alloc w _ b hl], by rw [h1]; simp, fun B w0 hB hBw hw => h3 B w0 hB (hw.alloc hBw _)⟩
  clear hM h1 h2 h3 hg
  go_wp2
  go_ret
  exact ⟨rfl, HM.out, HO.out.1, HO.out.2.1, HO.out.2.2⟩
set_option maxHeartbeats 1000000 in
set_option maxRecDepth 100000 in
theorem heldHash (g n c : Nat) (M : List Value) (r : ByteArray) (z k : Int) (w : World) (hn : n ≤ 1048576) (hk : k = 1) (hg : w.heap[g]? = some (.cells M.toArray 2 (0, 0))) (hc : Counts 1 n M) :
    Calls Tryd.prog 12 #[hashV (some ⟨g, 0, none⟩) n c r z, .int .i64 k] w fun e w' => e = .returned (.int .i64 (1 + n)) ∧ Below w.heap.size w w' := by
  subst hk
  have hgl := heap_lt hg
  go_enter Tryd.func12, Tryd.ntmps12
  go_wp2_with fail
  refine (heldInts g n c M 1 _ hn (by omega) (by omega) (by rw [Below.heap_alloc w _ g hgl]; exact hg) hc).mono ?_
  rintro e w' ⟨rfl, rfl⟩
  have hb : (1 : Int) + n ≤ 1048577 := by omega
  have h0 : (0 : Int) ≤ 1 + n := by omega
  clear hc hg
  go_wp2
  go_ret
  exact ⟨rfl, (Below.refl _ w).alloc (Nat.le_refl _) _⟩
end Go.Proofs.YtbkkjgpaccfplaeDoor
