/- A copy of a hash, walked: slices.Clone of whole numbers, impl.copyHash. -/
import Derived.Test.YtbkkjgpaccfplaeDoorHashEI
import Derived.Test.YtbkkjgpaccfplaeDoorShaN
import Derived.Test.YtbkkjgpaccfplaeDoorCopyT
import Derived.Deep.AppendLies
namespace Go.Proofs.YtbkkjgpaccfplaeDoor
open Go.RowKit

theorem nilEq (x : Addr) (n c : Nat) (W : World) : (binOp .eql 22 (.slice (some x) n c) (.slice none 0 0)).run Tryd.prog W = .ok (.bool false) W := by kernel_rfl
set_option maxHeartbeats 1000000 in
set_option maxRecDepth 100000 in
theorem cloneInts (g c : Nat) (zs : List Int) (w : World) (h0 : 0 < zs.length) (hl : zs.length ≤ 1048576) (ha : IsInts w (some ⟨g, 0, none⟩) zs) :
    Calls Tryd.prog 37 #[.slice (some ⟨g, 0, none⟩) zs.length c] w fun e w' => ∃ q cq, e = .returned (.slice (some ⟨q, 0, none⟩) zs.length cq) ∧ w'.ownsRow w.heap.size 2 1 (.slice (some ⟨q, 0, none⟩) zs.length cq) zs.length (lCells zs) ∧ Below w.heap.size w w' := by
  obtain ⟨il, hil, hl0, hl1, hl2⟩ := info_parts infoLong
  have hq := nilEq ⟨g, 0, none⟩ zs.length c
  go_enter Tryd.func37, Tryd.ntmps37
  have hA : Below w.heap.size w (w.alloc (.cells #[] 2 (0, 0))) := (Below.refl _ w).alloc (Nat.le_refl _) _
  have HN : Hid (∀ j u, (lCells zs)[j]? = some u → (w.alloc (.cells #[] 2 (0, 0))).cell? ((⟨g, 0, none⟩ : Addr).add j) = some u) := fun j u hu => by
    rcases ha.below hA ha.lt with h | ⟨b, o, hb, hc⟩
    · simp [h] at h0
    · simp only [Option.some.injEq, Addr.mk.injEq, and_true] at hb
      obtain ⟨rfl, rfl⟩ := hb
      have hj : j < zs.length := by
        rcases Nat.lt_or_ge j zs.length with h' | h'
        · exact h'
        · rw [List.getElem?_eq_none (by simp [lCells]; omega)] at hu; cases hu
      rw [Addr.add_lit, hc j hj, ← hu]
      simp [lCells, List.getD, hj]
  have HO : Hid (∀ v ∈ lCells zs, v.oneCell' = true) := fun v hv => by
    simp only [lCells, List.mem_map] at hv
    obtain ⟨x, _, rfl⟩ := hv
    rfl
  have HLn : Hid ((lCells zs).length = zs.length * 1) := by show _ = _; simp [lCells]
  clear ha
  generalize lCells zs = Z at HN HO HLn ⊢
  go_wp2_with (at_builtin; refine wpList_append_own _ rfl _ _ 22 rfl w.heap.size 2 il (.int .i64 0) 1 8 Tryd.underlying22 hil hl0 hl1 hl2 rfl (by decide) _ 0 [] rfl (made0 w) ⟨g, 0, none⟩ zs.length c Z rfl HLn.out HN.out HO.out ?c3 ?c4 ?c5 ?_)
  case c3 => unfold maxLen; omega
  case c4 => omega
  case c5 => simp
  intro v' w1 hown' hgrow _
  have hown2 : w1.ownsRow w.heap.size 2 1 v' zs.length Z := by simpa using hown'
  obtain ⟨q, cq, rfl⟩ := owns_form hown2 h0
  have HO2 : Hid _ := hown2
  have HB : Hid (Below w.heap.size w w1) := hA.grown hgrow (by simp) (fun k hk => by cases hk; simp)
  clear hown' hgrow hown2
  go_wp2
  go_ret
  exact ⟨q, cq, rfl, HO2.out, HB.out⟩
set_option maxRecDepth 100000 in
theorem cloneInts0 (g c : Nat) (w : World) :
    Calls Tryd.prog 37 #[.slice (some ⟨g, 0, none⟩) 0 c] w fun e w' => e = .returned (.slice (some ⟨w.heap.size, 0, none⟩) 0 0) ∧ w'.heap[w.heap.size]? = some (.cells #[] 2 (0, 0)) ∧ Below w.heap.size w w' := by
  have hq := nilEq ⟨g, 0, none⟩ 0 c
  go_enter Tryd.func37, Tryd.ntmps37
  go_wp2
  go_ret
  exact ⟨rfl, heap_alloc_new w _, (Below.refl _ w).alloc (Nat.le_refl _) _⟩
/-- What a clone is: a row of its own. -/
theorem cloneAny (g c : Nat) (zs : List Int) (w : World) (hl : zs.length ≤ 1048576) (ha : IsInts w (some ⟨g, 0, none⟩) zs) :
    Calls Tryd.prog 37 #[.slice (some ⟨g, 0, none⟩) zs.length c] w fun e w' => ∃ q cq L, e = .returned (.slice (some ⟨q, 0, none⟩) zs.length cq) ∧ w.heap.size ≤ q ∧ w'.heap[q]? = some (.cells (lCells zs ++ L).toArray 2 (0, 0)) ∧ Below w.heap.size w w' := by
  by_cases h0 : 0 < zs.length
  · refine (cloneInts g c zs w h0 hl ha).mono ?_
    rintro e w' ⟨q, cq, rfl, ho, hb⟩
    rcases ho.2 with ⟨h', _⟩ | ⟨g', c', cur, h', hbq, hg, _, _, _, ht⟩
    · simp at h'
    · simp only [Value.slice.injEq, Option.some.injEq, Addr.mk.injEq, and_true, true_and] at h'
      obtain ⟨rfl, rfl⟩ := h'
      refine ⟨q, cq, cur.toList.drop zs.length, rfl, hbq, ?_, hb⟩
      rw [hg, ← ht, Nat.mul_one, List.take_append_drop]
  · have hz : zs = [] := List.eq_nil_of_length_eq_zero (by omega)
    subst hz
    refine (cloneInts0 g c w).mono ?_
    rintro e w' ⟨rfl, hg, hb⟩
    exact ⟨_, _, [], rfl, Nat.le_refl _, hg, hb⟩
set_option maxHeartbeats 1000000 in
set_option maxRecDepth 100000 in
theorem copyHash (g c : Nat) (zs : List Int) (r : ByteArray) (z : Int) (w : World) (hl : zs.length ≤ 1048576) (hr : r.size ≤ 1048576) (ha : IsInts w (some ⟨g, 0, none⟩) zs) :
    Calls Tryd.prog 23 #[hashV (some ⟨g, 0, none⟩) zs.length c r z] w fun e w' => ∃ q cq L, e = .returned (hashV (some ⟨q, 0, none⟩) zs.length cq r z) ∧ w.heap.size ≤ q ∧ w'.heap[q]? = some (.cells (lCells zs ++ L).toArray 2 (0, 0)) ∧ Below w.heap.size w w' := by
  have hA : ∀ x y, Below w.heap.size w ((w.alloc x).alloc y) := fun x y => ((Below.refl _ w).alloc (Nat.le_refl _) x).alloc (by simp) y
  go_enter Tryd.func23, Tryd.ntmps23
  go_wp2_with fail
  generalize hw1 : (w.alloc (.cells #[.slice (some ⟨g, 0, none⟩) zs.length c, .string r, .int .i64 z] 26 (0, 0))).alloc (.cells #[.slice none 0 0, .string ⟨#[]⟩, .int .i64 0] 26 (0, 0)) = w1
  have hb1 : Below w.heap.size w w1 := by rw [← hw1]; exact hA _ _
  have hs1 : w1.heap.size = w.heap.size + 2 := by rw [← hw1]; simp
  have hP1 : w1.heap[w.heap.size]? = some (.cells [Value.slice (some ⟨g, 0, none⟩) zs.length c, .string r, .int .i64 z].toArray 26 (0, 0)) := by
    rw [← hw1, Below.heap_alloc _ _ _ (by simp)]; exact heap_alloc_new w _
  have hR1 : w1.heap[w.heap.size + 1]? = some (.cells [Value.slice none 0 0, .string ⟨#[]⟩, .int .i64 0].toArray 26 (0, 0)) := by rw [← hw1]; exact heap_alloc2 w _ _
  have HKEEP : Hid (∀ W, Below (w.heap.size + 2) w1 W → W.heap[w.heap.size + 1]? = some (.cells [Value.slice none 0 0, .string ⟨#[]⟩, .int .i64 0].toArray 26 (0, 0)) ∧ W.cell? ⟨w.heap.size, 0, none⟩ = some (.slice (some ⟨g, 0, none⟩) zs.length c) ∧ W.cell? ⟨w.heap.size, 1, none⟩ = some (.string r) ∧ W.cell? ⟨w.heap.size, 2, none⟩ = some (.int .i64 z) ∧ W.cell? ⟨w.heap.size + 1, 0, none⟩ = some (.slice none 0 0) ∧ W.cell? ⟨w.heap.size + 1, 1, none⟩ = some (.string ⟨#[]⟩) ∧ W.cell? ⟨w.heap.size + 1, 2, none⟩ = some (.int .i64 0) ∧ W.frozen? ⟨w.heap.size + 1, 0, none⟩ = false ∧ W.frozen? ⟨w.heap.size + 1, 1, none⟩ = false ∧ W.frozen? ⟨w.heap.size + 1, 2, none⟩ = false) := fun W hW => by
    have hP : W.heap[w.heap.size]? = some (.cells [Value.slice (some ⟨g, 0, none⟩) zs.length c, .string r, .int .i64 z].toArray 26 (0, 0)) := by rw [hW.block _ (by omega)]; exact hP1
    have hR : W.heap[w.heap.size + 1]? = some (.cells [Value.slice none 0 0, .string ⟨#[]⟩, .int .i64 0].toArray 26 (0, 0)) := by rw [hW.block _ (by omega)]; exact hR1
    exact ⟨hR, rowFacts hP 0 _ rfl, rowFacts hP 1 _ rfl, rowFacts hP 2 _ rfl, rowFacts hR 0 _ rfl, rowFacts hR 1 _ rfl, rowFacts hR 2 _ rfl, frozen_of_row W _ 0 _ _ hR, frozen_of_row W _ 1 _ _ hR, frozen_of_row W _ 2 _ _ hR⟩
  have HT1 : Hid (Calls Tryd.prog 37 #[.slice (some ⟨g, 0, none⟩) zs.length c] w1.drew fun e W => ∃ q cq L, e = .returned (.slice (some ⟨q, 0, none⟩) zs.length cq) ∧ Hid (w.heap.size + 2 ≤ q ∧ W.heap[q]? = some (.cells (lCells zs ++ L).toArray 2 (0, 0)) ∧ Below (w.heap.size + 2) w1 W) ∧ W.cell? ⟨w.heap.size, 0, none⟩ = some (.slice (some ⟨g, 0, none⟩) zs.length c) ∧ W.cell? ⟨w.heap.size, 1, none⟩ = some (.string r) ∧ W.cell? ⟨w.heap.size, 2, none⟩ = some (.int .i64 z) ∧ W.cell? ⟨w.heap.size + 1, 0, none⟩ = some (.slice none 0 0) ∧ W.cell? ⟨w.heap.size + 1, 1, none⟩ = some (.string ⟨#[]⟩) ∧ W.cell? ⟨w.heap.size + 1, 2, none⟩ = some (.int .i64 0) ∧ W.frozen? ⟨w.heap.size + 1, 0, none⟩ = false ∧ W.frozen? ⟨w.heap.size + 1, 1, none⟩ = false ∧ W.frozen? ⟨w.heap.size + 1, 2, none⟩ = false) := by
    show Calls _ _ _ _ _
    refine (cloneAny g c zs w1.drew hl (ha.below hb1.drew ha.lt)).mono ?_
    rintro e W ⟨q, cq, L, rfl, hq, hg, hb⟩
    have hq' : w.heap.size + 2 ≤ q := by rw [← hs1]; exact hq
    have hbW : Below (w.heap.size + 2) w1 W := (Below.refl _ w1).drew.trans (hb.mono (by show _ ≤ w1.heap.size; omega))
    exact ⟨q, cq, L, rfl, ⟨hq', hg, hbW⟩, (HKEEP.out W hbW).2⟩
  have HT2 : Hid (∀ V q L, Hid (w.heap.size + 2 ≤ q ∧ V.heap[q]? = some (.cells (lCells zs ++ L).toArray 2 (0, 0)) ∧ Below (w.heap.size + 2) w1 V) → Calls Tryd.prog 38 #[.string r] V fun e W => e = .returned (.string r) ∧ Hid (w.heap.size + 2 ≤ q ∧ W.heap[q]? = some (.cells (lCells zs ++ L).toArray 2 (0, 0)) ∧ Below (w.heap.size + 2) w1 W) ∧ W.cell? ⟨w.heap.size, 0, none⟩ = some (.slice (some ⟨g, 0, none⟩) zs.length c) ∧ W.cell? ⟨w.heap.size, 1, none⟩ = some (.string r) ∧ W.cell? ⟨w.heap.size, 2, none⟩ = some (.int .i64 z) ∧ W.cell? ⟨w.heap.size + 1, 0, none⟩ = some (.slice none 0 0) ∧ W.cell? ⟨w.heap.size + 1, 1, none⟩ = some (.string ⟨#[]⟩) ∧ W.cell? ⟨w.heap.size + 1, 2, none⟩ = some (.int .i64 0) ∧ W.frozen? ⟨w.heap.size + 1, 0, none⟩ = false ∧ W.frozen? ⟨w.heap.size + 1, 1, none⟩ = false ∧ W.frozen? ⟨w.heap.size + 1, 2, none⟩ = false) := fun V q L hV => by
    obtain ⟨v1, v2, v3⟩ := hV.out
    refine (copyText r V (by omega)).mono ?_
    rintro e W ⟨rfl, hb⟩
    have hbW : Below (w.heap.size + 2) w1 W := v3.trans (hb.mono (by have := v3.size; omega))
    exact ⟨rfl, ⟨v1, by rw [hb.block _ (heap_lt v2)]; exact v2, hbW⟩, (HKEEP.out W hbW).2⟩
  have HB1 : Hid (Below w.heap.size w w1) := hb1
  obtain ⟨_, p0, p1, p2, o0, o1, o2, y0, y1, y2⟩ := HKEEP.out w1 (Below.refl _ _)
  clear hw1 hP1 hR1 hb1 hA ha hs1
  go_region_held3 (fun V => V.cell? ⟨w.heap.size, 0, none⟩ = some (.slice (some ⟨g, 0, none⟩) zs.length c) ∧ V.cell? ⟨w.heap.size, 1, none⟩ = some (.string r) ∧ V.cell? ⟨w.heap.size, 2, none⟩ = some (.int .i64 z)) (first | exact ⟨c0, c1, c2⟩ | exact ⟨a0, a1, a2⟩ | go_keep)
    (first | (go_at_call 37; refine HT1.out.mono ?_; rintro e W ⟨q, cq, L, rfl, kk, a0, a1, a2, b0, b1, b2, d0, d1, d2⟩) | (go_at_call 38; refine (HT2.out _ _ _ (by assumption)).mono ?_; rintro e W2 ⟨rfl, kk2, c0, c1, c2, e0, e1, e2, f0, f1, f2⟩))
  all_goals
    obtain ⟨u1, u2, u3⟩ := kk2.out
    have hRW := (HKEEP.out _ u3).1
    have HRW : Hid _ := hRW
    have HU : Hid _ := (⟨u1, u2, u3⟩ : _ ∧ _ ∧ _)
    clear kk kk2 u1 u2 u3 hRW HT1 HT2 HKEEP
    go_wp2
    refine bodyPost_ret (v := hashV (some ⟨q, 0, none⟩) zs.length cq r z) ?_ rfl ?_
    · have hrow := row3 HRW.out (.slice (some ⟨q, 0, none⟩) zs.length cq) (.string r) (.int .i64 z)
      have hl3 := run_loadVar_mid (P := Tryd.prog) _ (w.heap.size + 1) 0 26 _ _ (rangeRow hrow) Tryd.underlying26 rfl sizeHash
      simp [results, Tryd.results23, asAddr, hl3]
    · have hne : q ≠ w.heap.size + 1 := by have := HU.out.1; omega
      have hle : w.heap.size ≤ q := by have := HU.out.1; omega
      exact ⟨q, cq, L, rfl, hle, by rw [heap_setCell_other _ _ _ _ hne, heap_setCell_other _ _ _ _ hne, heap_setCell_other _ _ _ _ hne]; exact HU.out.2.1, (((HB1.out.trans (HU.out.2.2.mono (by omega))).setCell (by simp) _).setCell (by simp) _).setCell (by simp) _⟩
end Go.Proofs.YtbkkjgpaccfplaeDoor
