/- HashMore at every Hash and text: what both answer. -/
import Derived.Test.YtbkkjgpaccfplaeDoorHashI
import Derived.Test.YtbkkjgpaccfplaeDoorHashM
namespace Go.Proofs.YtbkkjgpaccfplaeDoor
open Go.RowKit

def stepB (zs : List Int) (r text : ByteArray) (z : Int) : Bool := rightB zs r.size z && decide (z + text.size ≤ 1099511627776)
def moreS (zs : List Int) (r text : ByteArray) (z : Int) : List Int := if 20000 < text.size then [] else if stepB zs r text z then (more (stOf zs) (r ++ text)).row.map uI else zs
def moreR (zs : List Int) (r text : ByteArray) (z : Int) : ByteArray := if 20000 < text.size then ByteArray.empty else if stepB zs r text z then restOf (r ++ text) else r
def moreN (zs : List Int) (r text : ByteArray) (z : Int) : Int := if 20000 < text.size then 0 else if stepB zs r text z then z + text.size else z
theorem st_ints (s : St) : iCells s = lCells (s.row.map uI) := by simp [iCells, lCells]
theorem st_len (s : St) : (s.row.map uI).length = 8 := rfl
theorem step_no {zs : List Int} {r text : ByteArray} {z : Int} (h : stepB zs r text z = false) : rightB zs r.size z = false ∨ (rightB zs r.size z = true ∧ 0 ≤ z ∧ z ≤ 1099511627776 ∧ 1099511627776 < z + text.size) := by
  unfold stepB at h
  cases hr : rightB zs r.size z with
  | false => exact .inl rfl
  | true =>
    rw [hr, Bool.true_and] at h
    have h1 := of_decide_eq_false h
    obtain ⟨_, h2, h3, _⟩ := (right_iff _ _ _).1 hr
    exact .inr ⟨rfl, h2, h3, by omega⟩
theorem moreS_len {zs : List Int} {r text : ByteArray} {z : Int} (h : zs.length ≤ 1048576) : (moreS zs r text z).length ≤ 1048576 := by
  unfold moreS
  split
  · exact Nat.zero_le _
  · split
    · rw [st_len]; omega
    · exact h
theorem specMoreAny (g : Nat) (zs : List Int) (c : Nat) (r text : ByteArray) (z : Int) (w : World) (hm : text.size ≤ maxLen) (hl : zs.length ≤ 1048576) (hr : r.size ≤ 1048576) (z0 : -9223372036854775808 ≤ z) (z1 : z ≤ 9223372036854775807) (ha : IsInts w (some ⟨g, 0, none⟩) zs) :
    Calls Tryd.prog 7 #[hashV (some ⟨g, 0, none⟩) zs.length c r z, .string text] w fun e w' => ∃ q cq, e = .returned (hashV q (moreS zs r text z).length cq (moreR zs r text z) (moreN zs r text z)) ∧ OwnI w' w.heap.size q (moreS zs r text z) ∧ Below w.heap.size w w' := by
  unfold moreS moreR moreN
  by_cases ht : 20000 < text.size
  · simp only [if_pos ht]
    refine (specHashLong g zs c r text z w ht hm).mono ?_
    rintro e w' ⟨rfl, hb⟩
    exact ⟨none, 0, rfl, .inl ⟨rfl, rfl⟩, hb⟩
  · simp only [if_neg ht]
    cases hs : stepB zs r text z with
    | false =>
      simp only [Bool.false_eq_true, if_false]
      exact specHashKeep g zs c r text z w (by omega) hl hr z0 z1 (step_no hs) ha
    | true =>
      simp only [if_true]
      unfold stepB at hs
      rw [Bool.and_eq_true] at hs
      have h2 := of_decide_eq_true hs.2
      have h8 := ((right_iff _ _ _).1 hs.1).1
      rw [h8, st_len]
      refine (specHashMore g zs c r text z w (by omega) hs.1 h2 ha).mono ?_
      rintro e w' ⟨G, cG, rfl, ho, hb⟩
      refine ⟨some ⟨G, 0, none⟩, cG, rfl, ?_, hb⟩
      rcases ho.2 with ⟨h', _⟩ | ⟨g', c', cur, h', hbq, hg, _, _, _, htk⟩
      · simp at h'
      · simp only [Value.slice.injEq, Option.some.injEq, Addr.mk.injEq, and_true, true_and] at h'
        obtain ⟨rfl, rfl⟩ := h'
        refine .inr ⟨G, cur.toList.drop 8, rfl, hbq, ?_⟩
        rw [hg, ← st_ints, ← htk, Nat.mul_one, List.take_append_drop]
theorem implMoreAny (g : Nat) (zs : List Int) (c : Nat) (r text : ByteArray) (z : Int) (w : World) (hm : text.size ≤ maxLen) (hl : zs.length ≤ 1048576) (hr : r.size ≤ 1048576) (z0 : -9223372036854775808 ≤ z) (z1 : z ≤ 9223372036854775807) (ha : IsInts w (some ⟨g, 0, none⟩) zs) (hk : Keys w) :
    Calls Tryd.prog 9 #[hashV (some ⟨g, 0, none⟩) zs.length c r z, .string text] w fun e w' => ∃ q cq, e = .returned (hashV q (moreS zs r text z).length cq (moreR zs r text z) (moreN zs r text z)) ∧ OwnI w' w.heap.size q (moreS zs r text z) ∧ Below w.heap.size w w' := by
  unfold moreS moreR moreN
  by_cases ht : 20000 < text.size
  · simp only [if_pos ht]
    refine (implHashLong g zs c r text z w ht hm).mono ?_
    rintro e w' ⟨rfl, hb⟩
    exact ⟨none, 0, rfl, .inl ⟨rfl, rfl⟩, hb⟩
  · simp only [if_neg ht]
    cases hs : stepB zs r text z with
    | false =>
      simp only [Bool.false_eq_true, if_false]
      refine (implHashKeep g zs c r text z w (by omega) hl hr z0 z1 (step_no hs) ha).mono ?_
      rintro e w' ⟨q, cq, L, rfl, hq, hg, hb⟩
      exact ⟨some ⟨q, 0, none⟩, cq, rfl, .inr ⟨q, L, rfl, hq, hg⟩, hb⟩
    | true =>
      simp only [if_true]
      unfold stepB at hs
      rw [Bool.and_eq_true] at hs
      have h2 := of_decide_eq_true hs.2
      have h8 := ((right_iff _ _ _).1 hs.1).1
      rw [h8, st_len]
      refine (implHashMore g zs c r text z w (by omega) hs.1 h2 ha hk).mono ?_
      rintro e w' ⟨q, rfl, hq, hg, hb⟩
      exact ⟨some ⟨q, 0, none⟩, 8, rfl, .inr ⟨q, [], rfl, hq, by rw [List.append_nil, ← st_ints]; exact hg⟩, hb⟩
/-- A row of the call's own that is marked. -/
def MkI (w : World) (q : Option Addr) (n : Nat) : Prop := (q = none ∧ n = 0) ∨ ∃ g M, q = some ⟨g, 0, none⟩ ∧ w.heap[g]? = some (.cells M.toArray 2 (0, 0)) ∧ Counts 1 n M
theorem MkI.below {w w' : World} {N n : Nat} {q : Option Addr} (h : MkI w q n) (hb : Below N w w') (hN : w.heap.size ≤ N) : MkI w' q n := by
  rcases h with h | ⟨g, M, rfl, hg, h⟩
  · exact .inl h
  · refine .inr ⟨g, M, rfl, ?_, h⟩
    rw [hb.block _ (Nat.lt_of_lt_of_le (heap_lt hg) hN)]; exact hg
set_option maxHeartbeats 1000000 in
set_option maxRecDepth 100000 in
theorem markHash0 (c : Nat) (r : ByteArray) (z k : Int) (w : World) (hk : k = 1) :
    Calls Tryd.prog 11 #[hashV none 0 c r z, .int .i64 k] w fun e w' => e = .returned (.int .i64 1) ∧ Below w.heap.size w w' := by
  subst hk
  have hm : ∀ W : World, Calls Tryd.prog 28 #[.slice none 0 c, .int .i64 1] W fun e w' => e = .returned (.int .i64 1) ∧ w' = W := fun W => by
    go_enter Tryd.func28, Tryd.ntmps28
    go_wp2_with fail
    go_loopw [1, 5] (fun q i wr => q = .int .i64 1 ∧ i = .int .i64 0 ∧ wr = W) (fun _ i _ => 0)
    case atStart => exact ⟨rfl, rfl, rfl⟩
    case round =>
      obtain ⟨rfl, rfl, rfl⟩ := hrel
      go_wp2
      go_ret
      exact ⟨rfl, rfl⟩
  go_enter Tryd.func11, Tryd.ntmps11
  go_wp2_with fail
  refine (hm _).mono ?_
  rintro e w' ⟨rfl, rfl⟩
  go_wp2
  go_ret
  exact ⟨rfl, (Below.refl _ w).alloc (Nat.le_refl _) _⟩
set_option maxHeartbeats 1000000 in
set_option maxRecDepth 100000 in
theorem heldHash0 (c : Nat) (r : ByteArray) (z k : Int) (w : World) (hk : k = 1) :
    Calls Tryd.prog 12 #[hashV none 0 c r z, .int .i64 k] w fun e w' => e = .returned (.int .i64 1) ∧ Below w.heap.size w w' := by
  subst hk
  have hm : ∀ W : World, Calls Tryd.prog 29 #[.slice none 0 c, .int .i64 1] W fun e w' => e = .returned (.int .i64 1) ∧ w' = W := fun W => by
    go_enter Tryd.func29, Tryd.ntmps29
    go_wp2_with fail
    go_loopw [1, 5] (fun q i wr => q = .int .i64 1 ∧ i = .int .i64 0 ∧ wr = W) (fun _ i _ => 0)
    case atStart => exact ⟨rfl, rfl, rfl⟩
    case round =>
      obtain ⟨rfl, rfl, rfl⟩ := hrel
      go_wp2
      go_ret
      exact ⟨rfl, rfl⟩
  go_enter Tryd.func12, Tryd.ntmps12
  go_wp2_with fail
  refine (hm _).mono ?_
  rintro e w' ⟨rfl, rfl⟩
  go_wp2
  go_ret
  exact ⟨rfl, (Below.refl _ w).alloc (Nat.le_refl _) _⟩
/-- Marking a row of the call's own: nothing else turns. -/
theorem markAny (q : Option Addr) (zs : List Int) (B c : Nat) (r : ByteArray) (z : Int) (w : World) (hl : zs.length ≤ 1048576) (ho : OwnI w B q zs) :
    Calls Tryd.prog 11 #[hashV q zs.length c r z, .int .i64 1] w fun e w' => e = .returned (.int .i64 (1 + zs.length)) ∧ MkI w' q zs.length ∧ (∀ b, q ≠ some ⟨b, 0, none⟩ → b < w.heap.size → w'.heap[b]? = w.heap[b]?) ∧ w.heap.size ≤ w'.heap.size ∧ ∀ B' w0, B' ≤ B → B' ≤ w.heap.size → Below B' w0 w → Below B' w0 w' := by
  rcases ho with ⟨rfl, rfl⟩ | ⟨g, L, rfl, hB, hg⟩
  · refine (markHash0 c r z 1 w rfl).mono ?_
    rintro e w' ⟨rfl, hb⟩
    exact ⟨rfl, .inl ⟨rfl, rfl⟩, fun b _ hlt => hb.block b hlt, hb.size, fun B' w0 _ hBw h => h.trans (hb.mono hBw)⟩
  · refine (markHash g zs.length c (lCells zs ++ L) r z 1 w hl rfl (by simp [lCells]) hg).mono ?_
    rintro e w' ⟨rfl, ⟨M, h1, h2⟩, h3, h4, h5⟩
    exact ⟨rfl, .inr ⟨g, M, rfl, h1, h2⟩, fun b hne hlt => h3 b (fun e => hne (by rw [e])) hlt, h4, fun B' w0 hB' hBw h => h5 B' w0 (by omega) hBw h⟩
theorem heldAny (q : Option Addr) (n c : Nat) (r : ByteArray) (z : Int) (w : World) (hl : n ≤ 1048576) (hm : MkI w q n) :
    Calls Tryd.prog 12 #[hashV q n c r z, .int .i64 1] w fun e w' => e = .returned (.int .i64 (1 + n)) ∧ Below w.heap.size w w' := by
  rcases hm with ⟨rfl, rfl⟩ | ⟨g, M, rfl, hg, hc⟩
  · exact (heldHash0 c r z 1 w rfl).mono fun e w' h => h
  · exact heldHash g n c M r z 1 w hl rfl hg hc
end Go.Proofs.YtbkkjgpaccfplaeDoor
