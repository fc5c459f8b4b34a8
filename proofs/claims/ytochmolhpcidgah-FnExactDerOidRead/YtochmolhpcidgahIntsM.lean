/- What marks a row of numbers, and what looks for the marks: laws.markInt64S, heldInt64S, walked. -/
import Derived.Test.YtochmolhpcidgahInts
namespace Go.Proofs.Ytochmolhpcidgah
open Go.RowKit

/-- The first n cells count on from k. -/
def Counts (k : Int) (n : Nat) (M : List Value) : Prop := ∀ j, j < n → M[j]? = some (.int .i64 (k + j))
/-- A row was written, nothing else. -/
def RowOnly (g : Nat) (w w' : World) : Prop := w'.heap.size = w.heap.size ∧ (∀ b, b ≠ g → w'.heap[b]? = w.heap[b]?) ∧ ∀ B w0, B ≤ g → Below B w0 w → Below B w0 w'
theorem RowOnly.refl (g : Nat) (w : World) : RowOnly g w w := ⟨rfl, fun _ _ => rfl, fun _ _ _ h => h⟩
theorem RowOnly.set {g : Nat} {w w' : World} (h : RowOnly g w w') (i : Nat) (v : Value) : RowOnly g w (w'.setCell ⟨g, i, none⟩ v) :=
  ⟨by rw [← h.1]; simp, fun b hb => by rw [heap_setCell_other _ _ _ _ hb]; exact h.2.1 b hb, fun B w0 hB hw => (h.2.2 B w0 hB hw).setCell hB v⟩
set_option maxHeartbeats 1000000 in
set_option maxRecDepth 100000 in
theorem markInts (g n c : Nat) (L : List Value) (k : Int) (w : World) (hn : n ≤ 1048576) (hk0 : 0 ≤ k) (hk : k ≤ 1048576) (hL : n ≤ L.length) (hg : w.heap[g]? = some (.cells L.toArray 2 (0, 0))) :
    Calls Try.prog 33 #[.slice (some ⟨g, 0, none⟩) n c, .int .i64 k] w fun e w' => e = .returned (.int .i64 (k + n)) ∧ (∃ M, w'.heap[g]? = some (.cells M.toArray 2 (0, 0)) ∧ Counts k n M) ∧ RowOnly g w w' := by
  go_enter Try.func33, Try.ntmps33
  go_wp2_with fail
  go_loopw [1, 5] (fun q i wr => ∃ (j : Nat) (M : List Value), j ≤ n ∧ q = .int .i64 (k + j) ∧ i = .int .i64 j ∧ n ≤ M.length ∧ wr.heap[g]? = some (.cells M.toArray 2 (0, 0)) ∧ Counts k j M ∧ RowOnly g w wr)
    (fun _ i _ => n - (intOf i).toNat)
  case atStart => exact ⟨0, L, Nat.zero_le _, by simp, rfl, hL, hg, fun j hj => by omega, RowOnly.refl _ _⟩
  case round =>
    clear hg hL
    obtain ⟨j, M, hj, rfl, rfl, hM, hgr, hc, ho⟩ := hrel
    by_cases hlt : j < n
    · have hd := rowFacts hgr j M[j] (List.getElem?_eq_getElem (by omega))
      have hz := frozen_of_row wr _ j _ _ hgr
      have HG : Hid (∀ v, (wr.setCell ⟨g, j, none⟩ v).heap[g]? = some (.cells (M.set j v).toArray 2 (0, 0))) := fun v => rowSet v hgr
      have HC : Hid (Counts k (j + 1) (M.set j (.int .i64 (k + j)))) := fun t ht => by
        by_cases e : t = j
        · subst e; rw [List.getElem?_set_self (by omega)]
        · rw [List.getElem?_set_ne (by omega), hc t (by omega)]
      have HL : Hid (∀ v, n ≤ (M.set j v).length) := fun v => by simpa using hM
      have HO : Hid (∀ v, RowOnly g w (wr.setCell ⟨g, j, none⟩ v)) := fun v => ho.set j v
      generalize M[j] = v0 at hd
      clear hc ho hgr hM
      go_wp2
      go_roundw
      case rel => exact ⟨j + 1, _, by omega, by go_num, by go_num, HL.out _, HG.out _, HC.out, HO.out _⟩
      case measure => simp [intOf]; omega
    · have hjn : j = n := by omega
      have HC : Hid (∃ M : List Value, wr.heap[g]? = some (.cells M.toArray 2 (0, 0)) ∧ Counts k n M) := ⟨M, hgr, by rw [← hjn]; exact hc⟩
      have HO : Hid (RowOnly g w wr) := ho
      clear hc ho hgr
      go_wp2
      go_ret
      exact ⟨ret_int (by rw [← hjn]), HC.out, HO.out⟩
set_option maxHeartbeats 1000000 in
set_option maxRecDepth 100000 in
theorem heldInts (g n c : Nat) (M : List Value) (k : Int) (w : World) (hn : n ≤ 1048576) (hk0 : 0 ≤ k) (hk : k ≤ 1048576) (hg : w.heap[g]? = some (.cells M.toArray 2 (0, 0))) (hc : Counts k n M) :
    Calls Try.prog 34 #[.slice (some ⟨g, 0, none⟩) n c, .int .i64 k] w fun e w' => e = .returned (.int .i64 (k + n)) ∧ w' = w := by
  go_enter Try.func34, Try.ntmps34
  go_wp2_with fail
  go_loopw [1, 5] (fun q i wr => ∃ j : Nat, j ≤ n ∧ q = .int .i64 (k + j) ∧ i = .int .i64 j ∧ wr = w)
    (fun _ i _ => n - (intOf i).toNat)
  case atStart => exact ⟨0, Nat.zero_le _, by simp, rfl, rfl⟩
  case round =>
    obtain ⟨j, hj, rfl, rfl, rfl⟩ := hrel
    by_cases hlt : j < n
    · have hd := rowFacts hg j _ (hc j hlt)
      clear hc hg
      go_wp2
      go_roundw
      case rel => exact ⟨j + 1, by omega, by go_num, by go_num, trivial⟩
      case measure => simp [intOf]; omega
    · have hjn : j = n := by omega
      clear hc hg
      go_wp2
      go_ret
      exact ⟨ret_int (by rw [← hjn]), rfl⟩
end Go.Proofs.Ytochmolhpcidgah
