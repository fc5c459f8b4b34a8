/- A whole variable of many cells, stored. No program is named. spec.AcmeNew and impl.AcmeNew, walked. -/
import Derived.Test.YtcneohkjdnalkaaAN01
import Derived.Below
namespace Go.Proofs.Ytcneohkjdnalkaa
open Go.RowKit

theorem splice_cons {α : Type} (cs r : List α) (v : α) (o : Nat) (h : o < cs.length) : splice (cs.set o v) (o + 1) r = splice cs o (v :: r) := by
  unfold splice
  rw [List.take_succ_eq_append_getElem (by simpa using h)]
  simp only [List.getElem_set_self, List.take_set_of_le (Nat.le_refl o), List.append_assoc, List.length_cons, List.cons_append, List.nil_append]
  rw [List.drop_set_of_lt (by omega), show o + 1 + r.length = o + (r.length + 1) by omega]
/-- A row behind many stores. -/
theorem rowSetCells {g : Nat} {t : TypeId} : ∀ (vs cs : List Value) (o : Nat) (w : World), w.heap[g]? = some (.cells cs.toArray t (0, 0)) → o + vs.length ≤ cs.length → (w.setCells g o vs).heap[g]? = some (.cells (splice cs o vs).toArray t (0, 0))
  | [], cs, o, w, hg, _ => by simpa [World.setCells, splice] using hg
  | v :: r, cs, o, w, hg, hl => by
    rw [World.setCells, ← splice_cons cs r v o (by simp at hl; omega)]
    exact rowSetCells r (cs.set o v) (o + 1) _ (rowSet v hg) (by simp at hl ⊢; omega)
theorem otherSetCells (g : Nat) : ∀ (vs : List Value) (o : Nat) (w : World) (k : Nat), k ≠ g → (w.setCells g o vs).heap[k]? = w.heap[k]?
  | [], _, _, _, _ => rfl
  | v :: r, o, w, k, hk => by rw [World.setCells, otherSetCells g r (o + 1) _ k hk, heap_setCell_other w _ k v hk]
theorem sizeSetCells (g : Nat) : ∀ (vs : List Value) (o : Nat) (w : World), (w.setCells g o vs).heap.size = w.heap.size
  | [], _, _ => rfl
  | v :: r, o, w => by rw [World.setCells, sizeSetCells g r (o + 1) _]; simp
/-- A whole variable of many cells, stored. -/
theorem wpList_store_row {P : Program} {ops : Array Oper} {rest : List Oper} {op : Oper} {a : Act} {w : World} {Q : Exit → Act → World → Prop} (hgd : op.guard = none) (ty : TypeId) (x y : Operand) (ho : op.op = .store ty x y)
    (g : Nat) (cs vs : List Value) (t : TypeId) (hx : a.eval x = .pointer (some ⟨g, 0, none⟩)) (hy : a.eval y = .agg vs.toArray) (hg : w.heap[g]? = some (.cells cs.toArray t (0, 0))) (hl : cs.length = vs.length)
    (hi : (P.info? ty).map (·.size) = some vs.length) (h1 : ∀ v ∈ vs, v.oneCell' = true)
    (h : ∀ w', w'.heap[g]? = some (.cells vs.toArray t (0, 0)) → (∀ k, k ≠ g → w'.heap[k]? = w.heap[k]?) → w'.heap.size = w.heap.size → (∀ B w0, B ≤ g → Below B w0 w → Below B w0 w') → wpList P ops Q rest (a.put op.dst undef) w') : wpList P ops Q (op :: rest) a w := by
  refine wpList_store_mid hgd ty x y ho g 0 vs.toArray hx hy (by have := thereRow hg; rw [hl] at this; simpa using this) (by simpa using hi) (all_oneCell_toArray h1) ?_
  refine h _ ?_ (fun k hk => otherSetCells g _ _ _ _ hk) (sizeSetCells g _ _ _) (fun B w0 hB hb => below_setCells hB _ _ _ hb)
  have := rowSetCells vs cs 0 w hg (by omega)
  rwa [splice_one cs vs hl] at this
/-- The same, inside a drawn region. -/
theorem wp_store_row {P : Program} {op : Oper} {a : Act} {w : World} {K : Act → World → Prop} {Q : Exit → Act → World → Prop} (ty : TypeId) (x y : Operand) (ho : op.op = .store ty x y)
    (g : Nat) (cs vs : List Value) (t : TypeId) (hx : a.eval x = .pointer (some ⟨g, 0, none⟩)) (hy : a.eval y = .agg vs.toArray) (hg : w.heap[g]? = some (.cells cs.toArray t (0, 0))) (hl : cs.length = vs.length)
    (hi : (P.info? ty).map (·.size) = some vs.length) (h1 : ∀ v ∈ vs, v.oneCell' = true)
    (h : ∀ w', w'.heap[g]? = some (.cells vs.toArray t (0, 0)) → (∀ k, k ≠ g → w'.heap[k]? = w.heap[k]?) → w'.heap.size = w.heap.size → (∀ B w0, B ≤ g → Below B w0 w → Below B w0 w') → K (a.put op.dst undef) w') : op.wp P a w K Q := by
  refine wp_store_mid ty x y ho g 0 vs.toArray hx hy (by have := thereRow hg; rw [hl] at this; simpa using this) (by simpa using hi) (all_oneCell_toArray h1) ?_
  refine h _ ?_ (fun k hk => otherSetCells g _ _ _ _ hk) (sizeSetCells g _ _ _) (fun B w0 hB hb => below_setCells hB _ _ _ hb)
  have := rowSetCells vs cs 0 w hg (by omega)
  rwa [splice_one cs vs hl] at this
end Go.Proofs.Ytcneohkjdnalkaa
namespace Go.Proofs.Ytcneohkjdnalkaa
open Go.RowKit

theorem sizeAcme : (Try.prog.info? 28).map (·.size) = some 8 := by kernel_rfl
/-- What AcmeNew tells. -/
def newV (x : Int) : Value := if secB x = true then acmeV x 2 else acmeV 0 0
set_option maxHeartbeats 2000000 in
set_option maxRecDepth 100000 in
theorem specAcmeNew (x : Int) (w : World) :
    Calls Try.prog 4 #[.int .i64 x] w fun e w' => e = .returned (newV x) ∧ Below w.heap.size w w' := by
  by_cases h : secB x = true
  · rw [newV, if_pos h]
    have hR : (w.alloc (.cells [Value.int .i64 0, .int .i64 0, .int .i64 0, .slice none 0 0, .slice none 0 0, .slice none 0 0, .slice none 0 0, .slice none 0 0].toArray 28 (0, 0))).heap[w.heap.size]? = some (.cells [Value.int .i64 0, .int .i64 0, .int .i64 0, .slice none 0 0, .slice none 0 0, .slice none 0 0, .slice none 0 0, .slice none 0 0].toArray 28 (0, 0)) := heap_alloc_new w _
    have B1 : Hid (Below w.heap.size w (w.alloc (.cells [Value.int .i64 0, .int .i64 0, .int .i64 0, .slice none 0 0, .slice none 0 0, .slice none 0 0, .slice none 0 0, .slice none 0 0].toArray 28 (0, 0)))) := (Below.refl _ _).alloc (Nat.le_refl _) _
    have h1 : ∀ v ∈ [Value.int .i64 x, .int .i64 0, .int .i64 2, .slice none 0 0, .slice none 0 0, .slice none 0 0, .slice none 0 0, .slice none 0 0], v.oneCell' = true := by simp [Value.oneCell']
    go_enter Try.func4, Try.ntmps4
    go_wp2_with fail
    refine (specSecret x _).mono ?_
    rintro e w1 ⟨rfl, rfl⟩
    rw [h]
    go_wp2_with (refine wpList_store_row rfl 28 _ _ rfl w.heap.size [Value.int .i64 0, .int .i64 0, .int .i64 0, .slice none 0 0, .slice none 0 0, .slice none 0 0, .slice none 0 0, .slice none 0 0] [Value.int .i64 x, .int .i64 0, .int .i64 2, .slice none 0 0, .slice none 0 0, .slice none 0 0, .slice none 0 0, .slice none 0 0] 28 rfl rfl hR rfl sizeAcme h1 ?_)
    intro w2 hrow ho hs2 hbb
    have B2 : Hid (Below w.heap.size w w2) := hbb _ _ (by omega) B1.out
    have hl := run_loadVar_mid (P := Try.prog) _ w.heap.size 0 28 _ _ (rangeRow hrow) Try.underlying28 rfl sizeAcme
    clear ho hs2 hbb hR h1 hrow
    go_wp2
    refine bodyPost_ret (v := .agg [Value.int .i64 x, .int .i64 0, .int .i64 2, .slice none 0 0, .slice none 0 0, .slice none 0 0, .slice none 0 0, .slice none 0 0].toArray) ?_ rfl ⟨rfl, B2.out⟩
    simp [results, Try.results4, asAddr, hl]
  · rw [newV, if_neg h]
    rw [Bool.not_eq_true] at h
    have hR : (w.alloc (.cells [Value.int .i64 0, .int .i64 0, .int .i64 0, .slice none 0 0, .slice none 0 0, .slice none 0 0, .slice none 0 0, .slice none 0 0].toArray 28 (0, 0))).heap[w.heap.size]? = some (.cells [Value.int .i64 0, .int .i64 0, .int .i64 0, .slice none 0 0, .slice none 0 0, .slice none 0 0, .slice none 0 0, .slice none 0 0].toArray 28 (0, 0)) := heap_alloc_new w _
    have B1 : Hid (Below w.heap.size w (w.alloc (.cells [Value.int .i64 0, .int .i64 0, .int .i64 0, .slice none 0 0, .slice none 0 0, .slice none 0 0, .slice none 0 0, .slice none 0 0].toArray 28 (0, 0)))) := (Below.refl _ _).alloc (Nat.le_refl _) _
    have h1 : ∀ v ∈ [Value.int .i64 0, .int .i64 0, .int .i64 0, .slice none 0 0, .slice none 0 0, .slice none 0 0, .slice none 0 0, .slice none 0 0], v.oneCell' = true := by simp [Value.oneCell']
    go_enter Try.func4, Try.ntmps4
    go_wp2_with fail
    refine (specSecret x _).mono ?_
    rintro e w1 ⟨rfl, rfl⟩
    rw [h]
    go_wp2_with (refine wpList_store_row rfl 28 _ _ rfl w.heap.size [Value.int .i64 0, .int .i64 0, .int .i64 0, .slice none 0 0, .slice none 0 0, .slice none 0 0, .slice none 0 0, .slice none 0 0] [Value.int .i64 0, .int .i64 0, .int .i64 0, .slice none 0 0, .slice none 0 0, .slice none 0 0, .slice none 0 0, .slice none 0 0] 28 rfl rfl hR rfl sizeAcme h1 ?_)
    intro w2 hrow ho hs2 hbb
    have B2 : Hid (Below w.heap.size w w2) := hbb _ _ (by omega) B1.out
    have hl := run_loadVar_mid (P := Try.prog) _ w.heap.size 0 28 _ _ (rangeRow hrow) Try.underlying28 rfl sizeAcme
    clear ho hs2 hbb hR h1 hrow
    go_wp2
    refine bodyPost_ret (v := .agg [Value.int .i64 0, .int .i64 0, .int .i64 0, .slice none 0 0, .slice none 0 0, .slice none 0 0, .slice none 0 0, .slice none 0 0].toArray) ?_ rfl ⟨rfl, B2.out⟩
    simp [results, Try.results4, asAddr, hl]
set_option maxHeartbeats 2000000 in
set_option maxRecDepth 100000 in
theorem implAcmeNew (x : Int) (w : World) :
    Calls Try.prog 5 #[.int .i64 x] w fun e w' => e = .returned (newV x) ∧ Below w.heap.size w w' := by
  by_cases h : secB x = true
  · rw [newV, if_pos h]
    have hR : (w.alloc (.cells [Value.int .i64 0, .int .i64 0, .int .i64 0, .slice none 0 0, .slice none 0 0, .slice none 0 0, .slice none 0 0, .slice none 0 0].toArray 28 (0, 0))).heap[w.heap.size]? = some (.cells [Value.int .i64 0, .int .i64 0, .int .i64 0, .slice none 0 0, .slice none 0 0, .slice none 0 0, .slice none 0 0, .slice none 0 0].toArray 28 (0, 0)) := heap_alloc_new w _
    have B1 : Hid (Below w.heap.size w (w.alloc (.cells [Value.int .i64 0, .int .i64 0, .int .i64 0, .slice none 0 0, .slice none 0 0, .slice none 0 0, .slice none 0 0, .slice none 0 0].toArray 28 (0, 0)))) := (Below.refl _ _).alloc (Nat.le_refl _) _
    have h1 : ∀ v ∈ [Value.int .i64 x, .int .i64 0, .int .i64 2, .slice none 0 0, .slice none 0 0, .slice none 0 0, .slice none 0 0, .slice none 0 0], v.oneCell' = true := by simp [Value.oneCell']
    go_enter Try.func5, Try.ntmps5
    go_wp2_with fail
    refine (implSecret x _).mono ?_
    rintro e w1 ⟨rfl, rfl⟩
    rw [h]
    go_wp2_with (refine wpList_store_row rfl 28 _ _ rfl w.heap.size [Value.int .i64 0, .int .i64 0, .int .i64 0, .slice none 0 0, .slice none 0 0, .slice none 0 0, .slice none 0 0, .slice none 0 0] [Value.int .i64 x, .int .i64 0, .int .i64 2, .slice none 0 0, .slice none 0 0, .slice none 0 0, .slice none 0 0, .slice none 0 0] 28 rfl rfl hR rfl sizeAcme h1 ?_)
    intro w2 hrow ho hs2 hbb
    have B2 : Hid (Below w.heap.size w w2) := hbb _ _ (by omega) B1.out
    have hl := run_loadVar_mid (P := Try.prog) _ w.heap.size 0 28 _ _ (rangeRow hrow) Try.underlying28 rfl sizeAcme
    clear ho hs2 hbb hR h1 hrow
    go_wp2
    refine bodyPost_ret (v := .agg [Value.int .i64 x, .int .i64 0, .int .i64 2, .slice none 0 0, .slice none 0 0, .slice none 0 0, .slice none 0 0, .slice none 0 0].toArray) ?_ rfl ⟨rfl, B2.out⟩
    simp [results, Try.results5, asAddr, hl]
  · rw [newV, if_neg h]
    rw [Bool.not_eq_true] at h
    have hR : (w.alloc (.cells [Value.int .i64 0, .int .i64 0, .int .i64 0, .slice none 0 0, .slice none 0 0, .slice none 0 0, .slice none 0 0, .slice none 0 0].toArray 28 (0, 0))).heap[w.heap.size]? = some (.cells [Value.int .i64 0, .int .i64 0, .int .i64 0, .slice none 0 0, .slice none 0 0, .slice none 0 0, .slice none 0 0, .slice none 0 0].toArray 28 (0, 0)) := heap_alloc_new w _
    have B1 : Hid (Below w.heap.size w (w.alloc (.cells [Value.int .i64 0, .int .i64 0, .int .i64 0, .slice none 0 0, .slice none 0 0, .slice none 0 0, .slice none 0 0, .slice none 0 0].toArray 28 (0, 0)))) := (Below.refl _ _).alloc (Nat.le_refl _) _
    have h1 : ∀ v ∈ [Value.int .i64 0, .int .i64 0, .int .i64 0, .slice none 0 0, .slice none 0 0, .slice none 0 0, .slice none 0 0, .slice none 0 0], v.oneCell' = true := by simp [Value.oneCell']
    go_enter Try.func5, Try.ntmps5
    go_wp2_with fail
    refine (implSecret x _).mono ?_
    rintro e w1 ⟨rfl, rfl⟩
    rw [h]
    go_wp2_with (refine wpList_store_row rfl 28 _ _ rfl w.heap.size [Value.int .i64 0, .int .i64 0, .int .i64 0, .slice none 0 0, .slice none 0 0, .slice none 0 0, .slice none 0 0, .slice none 0 0] [Value.int .i64 0, .int .i64 0, .int .i64 0, .slice none 0 0, .slice none 0 0, .slice none 0 0, .slice none 0 0, .slice none 0 0] 28 rfl rfl hR rfl sizeAcme h1 ?_)
    intro w2 hrow ho hs2 hbb
    have B2 : Hid (Below w.heap.size w w2) := hbb _ _ (by omega) B1.out
    have hl := run_loadVar_mid (P := Try.prog) _ w.heap.size 0 28 _ _ (rangeRow hrow) Try.underlying28 rfl sizeAcme
    clear ho hs2 hbb hR h1 hrow
    go_wp2
    refine bodyPost_ret (v := .agg [Value.int .i64 0, .int .i64 0, .int .i64 0, .slice none 0 0, .slice none 0 0, .slice none 0 0, .slice none 0 0, .slice none 0 0].toArray) ?_ rfl ⟨rfl, B2.out⟩
    simp [results, Try.results5, asAddr, hl]
end Go.Proofs.Ytcneohkjdnalkaa
