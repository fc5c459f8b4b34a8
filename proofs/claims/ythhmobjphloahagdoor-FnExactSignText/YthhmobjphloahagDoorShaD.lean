/- A block taken into a state, walked: (*hashState).takeBlock. -/
import Derived.Test.YthhmobjphloahagDoorShaC
namespace Go.Proofs.YthhmobjphloahagDoor
open Go.RowKit

theorem splice_cons {α : Type} (cs r : List α) (v : α) (o : Nat) (h : o < cs.length) : splice (cs.set o v) (o + 1) r = splice cs o (v :: r) := by
  unfold splice
  rw [List.take_succ_eq_append_getElem (by simpa using h)]
  simp only [List.getElem_set_self, List.take_set_of_le (Nat.le_refl o), List.append_assoc, List.length_cons, List.cons_append, List.nil_append]
  rw [List.drop_set_of_lt (by omega), show o + 1 + r.length = o + (r.length + 1) by omega]
/-- A row behind many stores. -/
theorem rowSetCells {g : Nat} {t : TypeId} : ∀ (vs cs : List Value) (o : Nat) (w : World), w.heap[g]? = some (.cells cs.toArray t (0, 0)) → o + vs.length ≤ cs.length → (w.setCells g o vs).heap[g]? = some (.cells (splice cs o vs).toArray t (0, 0))
  | [], cs, o, w, hg, _ => by simpa [World.setCells, splice] using hg
  | v :: r, cs, o, w, hg, hl => by
    rw [World.setCells, ← splice_cons cs r v o (by simp at hl; omega)]
    exact rowSetCells r (cs.set o v) (o + 1) _ (rowSet v hg) (by simp at hl ⊢; omega)
theorem otherSetCells (g : Nat) : ∀ (vs : List Value) (o : Nat) (w : World) (k : Nat), k ≠ g → (w.setCells g o vs).heap[k]? = w.heap[k]?
  | [], _, _, _, _ => rfl
  | v :: r, o, w, k, hk => by rw [World.setCells, otherSetCells g r (o + 1) _ k hk, heap_setCell_other w _ k v hk]
theorem sizeSetCells (g : Nat) : ∀ (vs : List Value) (o : Nat) (w : World), (w.setCells g o vs).heap.size = w.heap.size
  | [], _, _ => rfl
  | v :: r, o, w => by rw [World.setCells, sizeSetCells g r (o + 1) _]; simp
/-- A whole variable of many cells, stored. -/
theorem wpList_store_row {P : Program} {ops : Array Oper} {rest : List Oper} {op : Oper} {a : Act} {w : World} {Q : Exit → Act → World → Prop} (hgd : op.guard = none) (ty : TypeId) (x y : Operand) (ho : op.op = .store ty x y)
    (g : Nat) (cs vs : List Value) (t : TypeId) (hx : a.eval x = .pointer (some ⟨g, 0, none⟩)) (hy : a.eval y = .agg vs.toArray) (hg : w.heap[g]? = some (.cells cs.toArray t (0, 0))) (hl : cs.length = vs.length)
    (hi : (P.info? ty).map (·.size) = some vs.length) (h1 : ∀ v ∈ vs, v.oneCell' = true)
    (h : ∀ w', w'.heap[g]? = some (.cells vs.toArray t (0, 0)) → (∀ k, k ≠ g → w'.heap[k]? = w.heap[k]?) → w'.heap.size = w.heap.size → (∀ B w0, B ≤ g → Below B w0 w → Below B w0 w') → wpList P ops Q rest (a.put op.dst undef) w') : wpList P ops Q (op :: rest) a w := by
  refine wpList_store_mid hgd ty x y ho g 0 vs.toArray hx hy (by have := thereRow hg; rw [hl] at this; simpa using this) (by simpa using hi) (all_oneCell_toArray h1) ?_
  refine h _ ?_ (fun k hk => otherSetCells g _ _ _ _ hk) (sizeSetCells g _ _ _) (fun B w0 hB hb => below_setCells hB _ _ _ hb)
  have := rowSetCells vs cs 0 w hg (by omega)
  rwa [splice_one cs vs hl] at this
theorem rangeHead {w : World} {g : Nat} {cs tail : List Value} {t : TypeId} (hg : w.heap[g]? = some (.cells (cs ++ tail).toArray t (0, 0))) : w.rangeAt g 0 cs := fun j v hv => by
  rw [Nat.zero_add]
  refine rowFacts hg j v ?_
  have hj : j < cs.length := by
    rcases Nat.lt_or_ge j cs.length with h | h
    · exact h
    · rw [List.getElem?_eq_none h] at hv; cases hv
  rw [List.getElem?_append_left hj]; exact hv
theorem size8 : (Tryd.prog.info? 49).map (·.size) = some 8 := by kernel_rfl
abbrev z8 : Obj := .cells (List.replicate 8 (Value.int .u32 0)).toArray 49 (0, 0)
theorem uCells_all (s : St) : ∀ v ∈ uCells s, v.oneCell' = true := fun v hv => by
  simp only [uCells, List.mem_map] at hv
  obtain ⟨x, _, rfl⟩ := hv
  rfl
/-- The numbers of the rounds lie where the package's variable stands. -/
def Keys (w : World) : Prop := ∀ i, i < 64 → w.cell? ⟨0, i, none⟩ = some (.int .u32 (uI (kAt i)))
theorem Keys.below {B : Nat} {w w' : World} (h : Keys w) (hb : Below B w w') (hB : 0 < B) : Keys w' := fun i hi => by rw [hb.cell hB]; exact h i hi
theorem Keys.pos {w : World} (h : Keys w) : 0 < w.heap.size := World.block_lt_of_cell? w _ (h 0 (by omega))

/-- A state whose first k numbers have been added to. -/
def mixU (s T : St) (k i : Nat) : U := if i < k then s.row.getD i 0 + T.row.getD i 0 else s.row.getD i 0
def mixC (s T : St) (k : Nat) : List Value := (List.range 8).map fun i => Value.int .u32 (uI (mixU s T k i))
theorem mix_start (s T : St) : mixC s T 0 = uCells s := rfl
theorem mix_end (s T : St) : mixC s T 8 = uCells (s.add T) := rfl
theorem mix_at (s T : St) (k : Nat) (tail : List Value) (h : k < 8) : (mixC s T k ++ tail)[k]? = some (.int .u32 (uI (s.row.getD k 0))) := by
  rw [List.getElem?_append_left (by simp [mixC]; exact h)]
  simp [mixC, h, mixU]
theorem mix_set (s T : St) (k : Nat) (tail : List Value) (h : k < 8) : (mixC s T k ++ tail).set k (.int .u32 (uI (s.row.getD k 0 + T.row.getD k 0))) = mixC s T (k + 1) ++ tail := by
  rw [List.set_append_left _ _ (by simp [mixC]; exact h)]
  congr 1
  apply List.ext_getElem?
  intro j
  by_cases e : j = k
  · subst e
    rw [List.getElem?_set_self (by simp [mixC]; exact h)]
    simp [mixC, h, mixU]
  · rw [List.getElem?_set_ne (by omega)]
    by_cases hj : j < 8
    · have : (j < k) = (j < k + 1) := by apply propext; omega
      simp [mixC, hj, mixU, this]
    · rw [List.getElem?_eq_none (by simp [mixC]; omega), List.getElem?_eq_none (by simp [mixC]; omega)]
theorem size_u32 (w : World) : (sizeOf 47).run Tryd.prog w = .ok 1 w := by kernel_rfl
theorem agg_u32 (w : World) : (isAgg 47).run Tryd.prog w = .ok false w := by kernel_rfl
/-- A word of an array that is held as a value. -/
theorem idxAgg {W : List Value} {k : Nat} {v : Value} (hk : k < 64) (hv : W[k]? = some v) (w : World) : (Instr.index 72 (.agg W.toArray) (.int .i64 (k : Int))).run Tryd.prog w = .ok v w := by
  have h2 : 0 ≤ (k : Int) ∧ (k : Int) < 64 := by omega
  simp [Instr.index, run_underlying Tryd.underlying72, asIntOf, part, h2, hv]
  omega
theorem idxAgg8 {W : List Value} {k : Nat} {v : Value} (hk : k < 8) (hv : W[k]? = some v) (w : World) : (Instr.index 49 (.agg W.toArray) (.int .i64 (k : Int))).run Tryd.prog w = .ok v w := by
  have h2 : 0 ≤ (k : Int) ∧ (k : Int) < 8 := by omega
  simp [Instr.index, run_underlying Tryd.underlying49, asIntOf, part, h2, hv]
  omega
set_option maxHeartbeats 1000000 in
set_option maxRecDepth 100000 in
theorem takeBlock (s : St) (t : ByteArray) (w w0 : World) (g B : Nat) (ty : TypeId) (tail : List Value) (ht : t.size = 64) (hg : w.heap[g]? = some (.cells (uCells s ++ tail).toArray ty (0, 0))) (hb : Below B w0 w) (hB : B ≤ g) (hk : Keys w0) (hkB : 0 < B) :
    Calls Tryd.prog 49 #[.pointer (some ⟨g, 0, none⟩), .string t] w
      fun e w' => e = .returned (.tuple #[]) ∧ w'.heap[g]? = some (.cells (uCells (blk s (wordAt t 0)) ++ tail).toArray ty (0, 0)) ∧ Below B w0 w' := by
  have hgl := heap_lt hg
  have hBw : B ≤ w.heap.size := by omega
  go_enter Tryd.func49, Tryd.ntmps49
  go_wp2_with fail
  refine (blockWords t _ ht).mono ?_
  rintro e w1 ⟨rfl, hb1⟩
  generalize hW : (List.range 64).map (fun i => Value.int .u32 (uI (wAt (wordAt t 0) i))) = W
  have hWl : W.length = 64 := by rw [← hW]; simp
  have hWi : (Tryd.prog.info? 72).map (·.size) = some W.length := by rw [hWl]; exact size64
  have hW1 : ∀ v ∈ W, v.oneCell' = true := by
    rw [← hW]; intro v hv
    obtain ⟨i, _, rfl⟩ := List.mem_map.1 hv
    rfl
  go_wp2_with (refine wpList_store_row rfl 72 _ _ rfl w1.heap.size (List.replicate 64 (.int .u32 0)) W 72 rfl rfl (heap_alloc_new w1 z64) (by rw [hWl]; rfl) hWi hW1 ?_)
  intro w2 hg2 ho2 hs2 hb2
  have hs1 : w.heap.size ≤ w1.heap.size := hb1.size
  have hgg : w2.heap[g]? = some (.cells (uCells s ++ tail).toArray ty (0, 0)) := by
    rw [ho2 g (by omega), Below.heap_alloc w1 _ g (by omega), hb1.block g hgl, hg]
  have hB2 : Below B w0 w2 := hb2 B w0 (by omega) (((hb.trans (hb1.mono hBw)).alloc (by omega) _))
  have hr := rangeHead hgg
  have HS2 : Hid (w2.heap.size = w1.heap.size + 1) := by show _ = _; simpa using hs2
  clear ho2 hb2 hs2
  go_wp2_with (first | (refine wpList_load_mid rfl 49 _ rfl g 0 rfl (uCells s) _ hr Tryd.underlying49 rfl size8 ?_) | (refine wpList_store_row rfl 49 _ _ rfl w2.heap.size (List.replicate 8 (.int .u32 0)) (uCells s) 49 rfl rfl (heap_alloc_new w2 z8) rfl size8 (uCells_all s) ?_))
  intro w3 hg3 ho3 hs3 hb3
  have hs2 := HS2.out
  have hgg3 : w3.heap[g]? = some (.cells (uCells s ++ tail).toArray ty (0, 0)) := by
    rw [ho3 g (by omega), Below.heap_alloc w2 _ g (by omega), hgg]
  have hgw3 : w3.heap[w1.heap.size]? = some (.cells W.toArray 72 (0, 0)) := by
    rw [ho3 _ (by omega), Below.heap_alloc w2 _ _ (by omega), hg2]
  have hB3 : Below B w0 w3 := hb3 B w0 (by omega) (hB2.alloc (by omega) _)
  have HS3 : Hid (w3.heap.size = w2.heap.size + 1) := by show _ = _; simpa using hs3
  have hr3 := rangeRow hgw3
  clear ho3 hb3 hgg hg2 hr hB2 hs2 hs3
  go_wp2_with (refine wpList_load_mid rfl 72 _ rfl w1.heap.size 0 rfl W _ hr3 Tryd.underlying72 rfl hWi ?_)
  have hk3 : Keys w3 := hk.below hB3 hkB
  go_loopw [16] (fun i wr => ∃ k : Nat, k ≤ 64 ∧ i = .int .i64 k ∧ wr.heap[w2.heap.size]? = some (.cells (uCells (rnds s (wordAt t 0) k)).toArray 49 (0, 0)) ∧ Below w2.heap.size w3 wr)
    (fun i _ => 64 - (intOf i).toNat)
  case atStart => exact ⟨0, Nat.zero_le _, rfl, hg3, Below.refl _ _⟩
  case round =>
    obtain ⟨k, hkk, rfl, hgr, hbr⟩ := hrel
    have hs2 := HS2.out
    have hs3 := HS3.out
    by_cases hlt : k < 64
    · have hix := fun x => idxAgg (W := W) hlt (v := .int .u32 (uI (wAt (wordAt t 0) k))) (by rw [← hW]; simp [hlt]) x
      have hkey := (hk3.below hbr (by omega)) k hlt
      have fp := uI_add' (kAt k) (wAt (wordAt t 0) k)
      have fq := uI_add (kAt k) (wAt (wordAt t 0) k)
      have HG : Hid (wr.heap[w2.heap.size]? = some (.cells (uCells (rnds s (wordAt t 0) k)).toArray 49 (0, 0))) := hgr
      have HB : Hid (Below w2.heap.size w3 wr) := hbr
      clear hbr hgg3 hgw3 hB3 hg3 hk3 hk hb hr3 hb1 hg hW hW1 hWi hWl
      clear hs2 hs3 hgr
      go_wp2_with fail
      refine (turnW _ _ _ _ _ HG.out).mono ?_
      rintro e w' ⟨rfl, hg', hb'⟩
      have HG' : Hid (w'.heap[w2.heap.size]? = _) := hg'
      have HB' : Hid (Below w2.heap.size w3 w') := HB.out.trans hb'
      clear hg' hb' hix hkey fp fq
      go_wp2
      go_roundw
      case rel => exact ⟨k + 1, by omega, by go_num, HG'.out, HB'.out⟩
      case measure => simp [intOf]; omega
    · have hrt := rangeRow hgr
      have h64 : rnds s (wordAt t 0) k = rnds s (wordAt t 0) 64 := by rw [show k = 64 by omega]
      rw [h64] at hrt
      have hgg4 : wr.heap[g]? = some (.cells (uCells s ++ tail).toArray ty (0, 0)) := by rw [hbr.block g (by omega), hgg3]
      have HB4 : Hid (Below B w0 wr) := hB3.trans (hbr.mono (by omega))
      generalize hT : rnds s (wordAt t 0) 64 = T at hrt
      have HT : Hid (blk s (wordAt t 0) = s.add T) := by show _ = _; rw [← hT]; rfl
      clear hs2 hs3 hgr hbr hgg3 hgw3 hB3 hg3 hk3 hr3 hb1 hg hb h64 hT
      go_wp2_with (refine wpList_load_mid rfl 49 _ rfl w2.heap.size 0 rfl (uCells T) _ hrt Tryd.underlying49 rfl size8 ?_)
      go_loopw [28] (fun i wr => ∃ j : Nat, j ≤ 8 ∧ i = .int .i64 j ∧ wr.heap[g]? = some (.cells (mixC s T j ++ tail).toArray ty (0, 0)) ∧ Below B w0 wr)
        (fun i _ => 8 - (intOf i).toNat)
      case atStart => exact ⟨0, Nat.zero_le _, rfl, hgg4, HB4.out⟩
      case round =>
        clear hgg4 hrt HB4 hkk hlt
        obtain ⟨j, hj, rfl, hgr, hbr⟩ := hrel
        by_cases hl8 : j < 8
        · have hix := fun x => idxAgg8 (W := uCells T) hl8 (row_at T j hl8) x
          have hc := rowFacts hgr j _ (mix_at s T j tail hl8)
          have hz := frozen_of_row wr g j _ ty hgr
          have HS : Hid ((wr.setCell ⟨g, j, none⟩ (.int .u32 (uI (s.row.getD j 0 + T.row.getD j 0)))).heap[g]? = some (.cells (mixC s T (j + 1) ++ tail).toArray ty (0, 0))) := by
            show _ = _
            rw [← mix_set s T j tail hl8]
            exact rowSet _ hgr
          have HB : Hid (∀ v, Below B w0 (wr.setCell ⟨g, j, none⟩ v)) := fun v => hbr.setCell hB v
          have fp := uI_add' (s.row.getD j 0) (T.row.getD j 0)
          have fq := uI_add (s.row.getD j 0) (T.row.getD j 0)
          generalize s.row.getD j 0 = x at hc fp fq HS
          generalize T.row.getD j 0 = y at hix fp fq HS
          clear hgr hbr
          go_wp2_with fail
          go_region
          go_wp2
          go_roundw
          case rel => exact ⟨j + 1, by omega, by go_num, HS.out, (HB.out _).drew⟩
          case measure => simp [intOf]; omega
        · have h8 : mixC s T j = uCells (s.add T) := by rw [show j = 8 by omega]; rfl
          rw [h8] at hgr
          have HG : Hid (wr.heap[g]? = some (.cells (uCells (s.add T) ++ tail).toArray ty (0, 0))) := hgr
          have HB : Hid (Below B w0 wr) := hbr
          clear hgr hbr h8
          go_wp2
          go_returns
          exact ⟨rfl, by rw [HT.out]; exact HG.out, HB.out⟩
end Go.Proofs.YthhmobjphloahagDoor
