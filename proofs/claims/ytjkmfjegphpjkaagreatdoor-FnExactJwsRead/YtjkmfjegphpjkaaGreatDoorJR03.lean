/- The words of a block, walked: impl.blockWords. A whole variable of many cells, stored. No program is named. A block taken into a state, walked: (*hashState).takeBlock. impl.joinTexts, walked: the one text behind the other. A text taken in, walked: (*hashWork).take. The bytes that fill a text up: plain mathematics, no program is named here. The end of a hash, walked: impl.lastBytes, (*hashState).digest, (*hashWork).end. -/
import Derived.Test.YtjkmfjegphpjkaaGreatDoorJR02
import Derived.Deep.MidRow
import Derived.Test.YtjkmfjegphpjkaaGreatDoorJR01
namespace Go.Proofs.YtjkmfjegphpjkaaGreatDoor
open Go.RowKit

theorem words_set {L : List Value} {W : Nat → U} {k : Nat} (hL : k < L.length) (h : ∀ j, j < k → L[j]? = some (.int .u32 (uI (W j)))) :
    ∀ j, j < k + 1 → (L.set k (.int .u32 (uI (W k))))[j]? = some (.int .u32 (uI (W j))) := by
  intro j hj
  by_cases e : j = k
  · subst e; simp [hL]
  · rw [List.getElem?_set_ne (by omega), h j (by omega)]

theorem size64 : (Tryz.prog.info? 161).map (·.size) = some 64 := by kernel_rfl
theorem words_eq {L : List Value} {W : Nat → U} (hL : L.length = 64) (h : ∀ j, j < 64 → L[j]? = some (.int .u32 (uI (W j)))) : L = (List.range 64).map fun i => Value.int .u32 (uI (W i)) := by
  apply List.ext_getElem?
  intro j
  by_cases hj : j < 64
  · rw [h j hj]; simp [hj]
  · rw [List.getElem?_eq_none (by omega), List.getElem?_eq_none (by simp; omega)]
/-- A row of 64 words that a variable begins with. -/
abbrev z64 : Obj := .cells (List.replicate 64 (Value.int .u32 0)).toArray 161 (0, 0)
set_option maxHeartbeats 1000000 in
set_option maxRecDepth 100000 in
theorem blockWords (t : ByteArray) (w : World) (ht : t.size = 64) :
    Calls Tryz.prog 129 #[.string t] w
      fun e w' => e = .returned (.agg ((List.range 64).map fun i => Value.int .u32 (uI (wAt (wordAt t 0) i))).toArray) ∧ Below w.heap.size w w' := by
  go_enter Tryz.func129, Tryz.ntmps129
  go_wp2_with fail
  go_loopw [10] (fun i wr => ∃ (k : Nat) (L : List Value), k ≤ 16 ∧ i = .int .i64 k ∧ L.length = 64 ∧ wr.heap[w.heap.size + 1]? = some (.cells L.toArray 161 (0, 0)) ∧ (∀ j, j < k → L[j]? = some (.int .u32 (uI (wAt (wordAt t 0) j)))) ∧ Below (w.heap.size + 1) (w.alloc z64) wr)
    (fun i _ => 16 - (intOf i).toNat)
  case atStart =>
    refine ⟨0, _, Nat.zero_le _, rfl, ?_, heap_alloc2 w _ _, fun j hj => by omega, (Below.refl _ (w.alloc z64)).alloc (by simp) _⟩
    rfl
  case round =>
    obtain ⟨k, L, hk, rfl, hL, hg, hv, hb⟩ := hrel
    by_cases hlt : k < 16
    · have hc := rowFacts hg k L[k] (List.getElem?_eq_getElem (by omega))
      have hz := frozen_of_row wr _ k _ _ hg
      have HV : Hid (∀ x, x = uI (wAt (wordAt t 0) k) → ∀ j, j < k + 1 → (L.set k (.int .u32 x))[j]? = some (.int .u32 (uI (wAt (wordAt t 0) j)))) := fun x hx => by
        subst hx
        exact words_set (by omega) hv
      have HG : Hid (∀ x, (wr.setCell ⟨w.heap.size + 1, k, none⟩ x).heap[w.heap.size + 1]? = some (.cells (L.set k x).toArray 161 (0, 0))) := fun x => rowSet x hg
      have HL : Hid (∀ x, (L.set k x).length = 64) := fun x => by simpa using hL
      have HW : Hid (bits BinOp.or IntKind.u32 (bits BinOp.or IntKind.u32 (bits BinOp.or IntKind.u32 (uI (bU (byteAt t (4 * k))) * 16777216 % 4294967296) (uI (bU (byteAt t (4 * k + 1))) * 65536 % 4294967296)) (uI (bU (byteAt t (4 * k + 2))) * 256 % 4294967296)) (uI (bU (byteAt t (4 * k + 3)))) = uI (wAt (wordAt t 0) k)) := by
        show _ = _
        rw [uI_shl24, uI_shl16, uI_shl8, uI_or, uI_or, uI_or, wAt_low _ hlt]
        unfold wordAt
        rw [Nat.zero_add]
      generalize L[k] = v0 at hc
      clear hv hg hL
      go_wp2_with fail
      have i0 := idxB t (4 * k) (by omega) (4 * (k : Int)) (by omega)
      have i1 := idxB t (4 * k + 1) (by omega) (4 * (k : Int) + 1) (by omega)
      have i2 := idxB t (4 * k + 2) (by omega) (4 * (k : Int) + 2) (by omega)
      have i3 := idxB t (4 * k + 3) (by omega) (4 * (k : Int) + 3) (by omega)
      have fw := uI_wrap
      go_region
      clear i0 i1 i2 i3 fw hc hz
      go_wp2
      go_roundw
      case rel => exact ⟨k + 1, _, by omega, by go_num, HL.out _, HG.out _, HV.out _ HW.out, (hb.setCell (by simp) _).drew⟩
      case measure => simp [intOf]; omega
    · have h16 : k = 16 := by omega
      go_wp2_with fail
      go_loopw [5] (fun i wr => ∃ (k : Nat) (L : List Value), 16 ≤ k ∧ k ≤ 64 ∧ i = .int .i64 k ∧ L.length = 64 ∧ wr.heap[w.heap.size + 1]? = some (.cells L.toArray 161 (0, 0)) ∧ (∀ j, j < k → L[j]? = some (.int .u32 (uI (wAt (wordAt t 0) j)))) ∧ Below (w.heap.size + 1) (w.alloc z64) wr)
        (fun i _ => 64 - (intOf i).toNat)
      case atStart => exact ⟨16, L, by omega, by omega, rfl, hL, hg, fun j hj => hv j (by omega), hb⟩
      case round =>
        clear hg hv hb hL L hlt hk h16
        obtain ⟨k, L, hk0, hk, rfl, hL, hg, hv, hb⟩ := hrel
        by_cases hlt : k < 64
        · have hc := rowFacts hg k L[k] (List.getElem?_eq_getElem (by omega))
          have hz := frozen_of_row wr _ k _ _ hg
          have h16 := rowFacts hg (k - 16) _ (hv (k - 16) (by omega))
          have h15 := rowFacts hg (k - 15) _ (hv (k - 15) (by omega))
          have h7 := rowFacts hg (k - 7) _ (hv (k - 7) (by omega))
          have h2 := rowFacts hg (k - 2) _ (hv (k - 2) (by omega))
          have HV : Hid (∀ x, x = uI (wAt (wordAt t 0) k) → ∀ j, j < k + 1 → (L.set k (.int .u32 x))[j]? = some (.int .u32 (uI (wAt (wordAt t 0) j)))) := fun x hx => by
            subst hx
            exact words_set (by omega) hv
          have HG : Hid (∀ x, (wr.setCell ⟨w.heap.size + 1, k, none⟩ x).heap[w.heap.size + 1]? = some (.cells (L.set k x).toArray 161 (0, 0))) := fun x => rowSet x hg
          have HL : Hid (∀ x, (L.set k x).length = 64) := fun x => by simpa using hL
          generalize L[k] = v0 at hc
          clear hv hg hL
          go_wp2_with fail
          go_quiet (fail)
          go_wp2_with fail
          have fx := uI_xor
          have f3 := uI_shr3
          have f10 := uI_shr10
          iterate 4
            refine (implTurnI _ _ _ (by decide) (by decide)).mono ?_
            rintro e w' ⟨rfl, rfl⟩
            go_wp2_with fail
          have fp := uI_add'
          go_region
          clear hc hz h16 h15 h7 h2 fx f3 f10 fp
          go_wp2
          go_roundw
          case rel =>
            refine ⟨k + 1, _, by omega, by omega, by go_num, HL.out _, HG.out _, HV.out _ ?_, (below_drewN hb _).setCell (Nat.le_refl _) _⟩
            rw [wAt_high _ hk0]
            rfl
          case measure => simp [intOf]; omega
        · obtain rfl : k = 64 := by omega
          have hR : wr.heap[w.heap.size]? = some z64 := by
            rw [hb.block w.heap.size (by omega)]
            exact heap_alloc_new w _
          have hrg := rangeRow hg
          have hone : L.toArray.all (·.oneCell') = true := all_oneCell_toArray (fun v hv' => by
            obtain ⟨j, hj, rfl⟩ := List.getElem_of_mem hv'
            have := hv j (by omega)
            rw [List.getElem?_eq_getElem hj] at this
            rw [Option.some.inj this]; rfl)
          have hth : wr.there w.heap.size 0 L.length := by rw [hL]; exact thereRow hR
          have hrg2 := World.rangeAt_setCells_same _ _ _ _ hth
          have HE : Hid (L = (List.range 64).map fun i => Value.int .u32 (uI (wAt (wordAt t 0) i))) := words_eq hL hv
          have HB : Hid (Below w.heap.size w (wr.setCells w.heap.size 0 L)) := below_setCells (Nat.le_refl _) _ _ _ (((Below.refl _ w).alloc (Nat.le_refl _) _).trans (hb.mono (by omega)))
          have hsz : (Tryz.prog.info? 161).map (·.size) = some L.length := by rw [hL]; exact size64
          clear hR hL hg hv hb
          go_wp2_with (first | (refine wpList_load_mid rfl 161 _ rfl (w.heap.size + 1) 0 rfl L _ hrg Tryz.underlying161 rfl hsz ?_) | (refine wpList_store_mid rfl 161 _ _ rfl w.heap.size 0 L.toArray rfl rfl (by simpa using hth) (by simpa using hsz) hone ?_))
          refine bodyPost_ret (v := .agg L.toArray) ?_ rfl ⟨by rw [← HE.out], HB.out⟩
          have hl3 := run_loadVar_mid (P := Tryz.prog) _ w.heap.size 0 161 L _ hrg2 Tryz.underlying161 rfl hsz
          simp [results, Tryz.results129, asAddr, hl3, Act.put]
end Go.Proofs.YtjkmfjegphpjkaaGreatDoor
namespace Go.Proofs.YtjkmfjegphpjkaaGreatDoor
open Go.RowKit

theorem splice_cons {α : Type} (cs r : List α) (v : α) (o : Nat) (h : o < cs.length) : splice (cs.set o v) (o + 1) r = splice cs o (v :: r) := by
  unfold splice
  rw [List.take_succ_eq_append_getElem (by simpa using h)]
  simp only [List.getElem_set_self, List.take_set_of_le (Nat.le_refl o), List.append_assoc, List.length_cons, List.cons_append, List.nil_append]
  rw [List.drop_set_of_lt (by omega), show o + 1 + r.length = o + (r.length + 1) by omega]
/-- A row behind many stores. -/
theorem rowSetCells {g : Nat} {t : TypeId} : ∀ (vs cs : List Value) (o : Nat) (w : World), w.heap[g]? = some (.cells cs.toArray t (0, 0)) → o + vs.length ≤ cs.length → (w.setCells g o vs).heap[g]? = some (.cells (splice cs o vs).toArray t (0, 0))
  | [], cs, o, w, hg, _ => by simpa [World.setCells, splice] using hg
  | v :: r, cs, o, w, hg, hl => by
    rw [World.setCells, ← splice_cons cs r v o (by simp at hl; omega)]
    exact rowSetCells r (cs.set o v) (o + 1) _ (rowSet v hg) (by simp at hl ⊢; omega)
theorem otherSetCells (g : Nat) : ∀ (vs : List Value) (o : Nat) (w : World) (k : Nat), k ≠ g → (w.setCells g o vs).heap[k]? = w.heap[k]?
  | [], _, _, _, _ => rfl
  | v :: r, o, w, k, hk => by rw [World.setCells, otherSetCells g r (o + 1) _ k hk, heap_setCell_other w _ k v hk]
theorem sizeSetCells (g : Nat) : ∀ (vs : List Value) (o : Nat) (w : World), (w.setCells g o vs).heap.size = w.heap.size
  | [], _, _ => rfl
  | v :: r, o, w => by rw [World.setCells, sizeSetCells g r (o + 1) _]; simp
/-- A whole variable of many cells, stored. -/
theorem wpList_store_row {P : Program} {ops : Array Oper} {rest : List Oper} {op : Oper} {a : Act} {w : World} {Q : Exit → Act → World → Prop} (hgd : op.guard = none) (ty : TypeId) (x y : Operand) (ho : op.op = .store ty x y)
    (g : Nat) (cs vs : List Value) (t : TypeId) (hx : a.eval x = .pointer (some ⟨g, 0, none⟩)) (hy : a.eval y = .agg vs.toArray) (hg : w.heap[g]? = some (.cells cs.toArray t (0, 0))) (hl : cs.length = vs.length)
    (hi : (P.info? ty).map (·.size) = some vs.length) (h1 : ∀ v ∈ vs, v.oneCell' = true)
    (h : ∀ w', w'.heap[g]? = some (.cells vs.toArray t (0, 0)) → (∀ k, k ≠ g → w'.heap[k]? = w.heap[k]?) → w'.heap.size = w.heap.size → (∀ B w0, B ≤ g → Below B w0 w → Below B w0 w') → wpList P ops Q rest (a.put op.dst undef) w') : wpList P ops Q (op :: rest) a w := by
  refine wpList_store_mid hgd ty x y ho g 0 vs.toArray hx hy (by have := thereRow hg; rw [hl] at this; simpa using this) (by simpa using hi) (all_oneCell_toArray h1) ?_
  refine h _ ?_ (fun k hk => otherSetCells g _ _ _ _ hk) (sizeSetCells g _ _ _) (fun B w0 hB hb => below_setCells hB _ _ _ hb)
  have := rowSetCells vs cs 0 w hg (by omega)
  rwa [splice_one cs vs hl] at this
/-- The same, inside a drawn region. -/
theorem wp_store_row {P : Program} {op : Oper} {a : Act} {w : World} {K : Act → World → Prop} {Q : Exit → Act → World → Prop} (ty : TypeId) (x y : Operand) (ho : op.op = .store ty x y)
    (g : Nat) (cs vs : List Value) (t : TypeId) (hx : a.eval x = .pointer (some ⟨g, 0, none⟩)) (hy : a.eval y = .agg vs.toArray) (hg : w.heap[g]? = some (.cells cs.toArray t (0, 0))) (hl : cs.length = vs.length)
    (hi : (P.info? ty).map (·.size) = some vs.length) (h1 : ∀ v ∈ vs, v.oneCell' = true)
    (h : ∀ w', w'.heap[g]? = some (.cells vs.toArray t (0, 0)) → (∀ k, k ≠ g → w'.heap[k]? = w.heap[k]?) → w'.heap.size = w.heap.size → (∀ B w0, B ≤ g → Below B w0 w → Below B w0 w') → K (a.put op.dst undef) w') : op.wp P a w K Q := by
  refine wp_store_mid ty x y ho g 0 vs.toArray hx hy (by have := thereRow hg; rw [hl] at this; simpa using this) (by simpa using hi) (all_oneCell_toArray h1) ?_
  refine h _ ?_ (fun k hk => otherSetCells g _ _ _ _ hk) (sizeSetCells g _ _ _) (fun B w0 hB hb => below_setCells hB _ _ _ hb)
  have := rowSetCells vs cs 0 w hg (by omega)
  rwa [splice_one cs vs hl] at this
end Go.Proofs.YtjkmfjegphpjkaaGreatDoor
namespace Go.Proofs.YtjkmfjegphpjkaaGreatDoor
open Go.RowKit

theorem rangeHead {w : World} {g : Nat} {cs tail : List Value} {t : TypeId} (hg : w.heap[g]? = some (.cells (cs ++ tail).toArray t (0, 0))) : w.rangeAt g 0 cs := fun j v hv => by
  rw [Nat.zero_add]
  refine rowFacts hg j v ?_
  have hj : j < cs.length := by
    rcases Nat.lt_or_ge j cs.length with h | h
    · exact h
    · rw [List.getElem?_eq_none h] at hv; cases hv
  rw [List.getElem?_append_left hj]; exact hv
theorem size8 : (Tryz.prog.info? 112).map (·.size) = some 8 := by kernel_rfl
abbrev z8 : Obj := .cells (List.replicate 8 (Value.int .u32 0)).toArray 112 (0, 0)
theorem uCells_all (s : St) : ∀ v ∈ uCells s, v.oneCell' = true := fun v hv => by
  simp only [uCells, List.mem_map] at hv
  obtain ⟨x, _, rfl⟩ := hv
  rfl
/-- The numbers of the rounds lie where the package's variable stands. -/
def Keys (w : World) : Prop := ∀ i, i < 64 → w.cell? ⟨1, i, none⟩ = some (.int .u32 (uI (kAt i)))
theorem Keys.below {B : Nat} {w w' : World} (h : Keys w) (hb : Below B w w') (hB : 1 < B) : Keys w' := fun i hi => by rw [hb.cell hB]; exact h i hi
theorem Keys.pos {w : World} (h : Keys w) : 1 < w.heap.size := World.block_lt_of_cell? w _ (h 0 (by omega))

/-- A state whose first k numbers have been added to. -/
def mixU (s T : St) (k i : Nat) : U := if i < k then s.row.getD i 0 + T.row.getD i 0 else s.row.getD i 0
def mixC (s T : St) (k : Nat) : List Value := (List.range 8).map fun i => Value.int .u32 (uI (mixU s T k i))
theorem mix_start (s T : St) : mixC s T 0 = uCells s := rfl
theorem mix_end (s T : St) : mixC s T 8 = uCells (s.add T) := rfl
theorem mix_at (s T : St) (k : Nat) (tail : List Value) (h : k < 8) : (mixC s T k ++ tail)[k]? = some (.int .u32 (uI (s.row.getD k 0))) := by
  rw [List.getElem?_append_left (by simp [mixC]; exact h)]
  simp [mixC, h, mixU]
theorem mix_set (s T : St) (k : Nat) (tail : List Value) (h : k < 8) : (mixC s T k ++ tail).set k (.int .u32 (uI (s.row.getD k 0 + T.row.getD k 0))) = mixC s T (k + 1) ++ tail := by
  rw [List.set_append_left _ _ (by simp [mixC]; exact h)]
  congr 1
  apply List.ext_getElem?
  intro j
  by_cases e : j = k
  · subst e
    rw [List.getElem?_set_self (by simp [mixC]; exact h)]
    simp [mixC, h, mixU]
  · rw [List.getElem?_set_ne (by omega)]
    by_cases hj : j < 8
    · have : (j < k) = (j < k + 1) := by apply propext; omega
      simp [mixC, hj, mixU, this]
    · rw [List.getElem?_eq_none (by simp [mixC]; omega), List.getElem?_eq_none (by simp [mixC]; omega)]
theorem size_u32 (w : World) : (sizeOf 110).run Tryz.prog w = .ok 1 w := by kernel_rfl
theorem agg_u32 (w : World) : (isAgg 110).run Tryz.prog w = .ok false w := by kernel_rfl
/-- A word of an array that is held as a value. -/
theorem idxAgg {W : List Value} {k : Nat} {v : Value} (hk : k < 64) (hv : W[k]? = some v) (w : World) : (Instr.index 161 (.agg W.toArray) (.int .i64 (k : Int))).run Tryz.prog w = .ok v w := by
  have h2 : 0 ≤ (k : Int) ∧ (k : Int) < 64 := by omega
  simp [Instr.index, run_underlying Tryz.underlying161, asIntOf, part, h2, hv]
  omega
theorem idxAgg8 {W : List Value} {k : Nat} {v : Value} (hk : k < 8) (hv : W[k]? = some v) (w : World) : (Instr.index 112 (.agg W.toArray) (.int .i64 (k : Int))).run Tryz.prog w = .ok v w := by
  have h2 : 0 ≤ (k : Int) ∧ (k : Int) < 8 := by omega
  simp [Instr.index, run_underlying Tryz.underlying112, asIntOf, part, h2, hv]
  omega
set_option maxHeartbeats 1000000 in
set_option maxRecDepth 100000 in
theorem takeBlock (s : St) (t : ByteArray) (w w0 : World) (g B : Nat) (ty : TypeId) (tail : List Value) (ht : t.size = 64) (hg : w.heap[g]? = some (.cells (uCells s ++ tail).toArray ty (0, 0))) (hb : Below B w0 w) (hB : B ≤ g) (hk : Keys w0) (hkB : 1 < B) :
    Calls Tryz.prog 117 #[.pointer (some ⟨g, 0, none⟩), .string t] w
      fun e w' => e = .returned (.tuple #[]) ∧ w'.heap[g]? = some (.cells (uCells (blk s (wordAt t 0)) ++ tail).toArray ty (0, 0)) ∧ Below B w0 w' := by
  have hgl := heap_lt hg
  have hBw : B ≤ w.heap.size := by omega
  go_enter Tryz.func117, Tryz.ntmps117
  go_wp2_with fail
  refine (blockWords t _ ht).mono ?_
  rintro e w1 ⟨rfl, hb1⟩
  generalize hW : (List.range 64).map (fun i => Value.int .u32 (uI (wAt (wordAt t 0) i))) = W
  have hWl : W.length = 64 := by rw [← hW]; simp
  have hWi : (Tryz.prog.info? 161).map (·.size) = some W.length := by rw [hWl]; exact size64
  have hW1 : ∀ v ∈ W, v.oneCell' = true := by
    rw [← hW]; intro v hv
    obtain ⟨i, _, rfl⟩ := List.mem_map.1 hv
    rfl
  go_wp2_with (refine wpList_store_row rfl 161 _ _ rfl w1.heap.size (List.replicate 64 (.int .u32 0)) W 161 rfl rfl (heap_alloc_new w1 z64) (by rw [hWl]; rfl) hWi hW1 ?_)
  intro w2 hg2 ho2 hs2 hb2
  have hs1 : w.heap.size ≤ w1.heap.size := hb1.size
  have hgg : w2.heap[g]? = some (.cells (uCells s ++ tail).toArray ty (0, 0)) := by
    rw [ho2 g (by omega), Below.heap_alloc w1 _ g (by omega), hb1.block g hgl, hg]
  have hB2 : Below B w0 w2 := hb2 B w0 (by omega) (((hb.trans (hb1.mono hBw)).alloc (by omega) _))
  have hr := rangeHead hgg
  have HS2 : Hid (w2.heap.size = w1.heap.size + 1) := by show _ = _; simpa using hs2
  clear ho2 hb2 hs2
  go_wp2_with (first | (refine wpList_load_mid rfl 112 _ rfl g 0 rfl (uCells s) _ hr Tryz.underlying112 rfl size8 ?_) | (refine wpList_store_row rfl 112 _ _ rfl w2.heap.size (List.replicate 8 (.int .u32 0)) (uCells s) 112 rfl rfl (heap_alloc_new w2 z8) rfl size8 (uCells_all s) ?_))
  intro w3 hg3 ho3 hs3 hb3
  have hs2 := HS2.out
  have hgg3 : w3.heap[g]? = some (.cells (uCells s ++ tail).toArray ty (0, 0)) := by
    rw [ho3 g (by omega), Below.heap_alloc w2 _ g (by omega), hgg]
  have hgw3 : w3.heap[w1.heap.size]? = some (.cells W.toArray 161 (0, 0)) := by
    rw [ho3 _ (by omega), Below.heap_alloc w2 _ _ (by omega), hg2]
  have hB3 : Below B w0 w3 := hb3 B w0 (by omega) (hB2.alloc (by omega) _)
  have HS3 : Hid (w3.heap.size = w2.heap.size + 1) := by show _ = _; simpa using hs3
  have hr3 := rangeRow hgw3
  clear ho3 hb3 hgg hg2 hr hB2 hs2 hs3
  go_wp2_with (refine wpList_load_mid rfl 161 _ rfl w1.heap.size 0 rfl W _ hr3 Tryz.underlying161 rfl hWi ?_)
  have hk3 : Keys w3 := hk.below hB3 hkB
  go_loopw [16] (fun i wr => ∃ k : Nat, k ≤ 64 ∧ i = .int .i64 k ∧ wr.heap[w2.heap.size]? = some (.cells (uCells (rnds s (wordAt t 0) k)).toArray 112 (0, 0)) ∧ Below w2.heap.size w3 wr)
    (fun i _ => 64 - (intOf i).toNat)
  case atStart => exact ⟨0, Nat.zero_le _, rfl, hg3, Below.refl _ _⟩
  case round =>
    obtain ⟨k, hkk, rfl, hgr, hbr⟩ := hrel
    have hs2 := HS2.out
    have hs3 := HS3.out
    by_cases hlt : k < 64
    · have hix := fun x => idxAgg (W := W) hlt (v := .int .u32 (uI (wAt (wordAt t 0) k))) (by rw [← hW]; simp [hlt]) x
      have hkey := (hk3.below hbr (by omega)) k hlt
      have fp := uI_add' (kAt k) (wAt (wordAt t 0) k)
      have fq := uI_add (kAt k) (wAt (wordAt t 0) k)
      have HG : Hid (wr.heap[w2.heap.size]? = some (.cells (uCells (rnds s (wordAt t 0) k)).toArray 112 (0, 0))) := hgr
      have HB : Hid (Below w2.heap.size w3 wr) := hbr
      clear hbr hgg3 hgw3 hB3 hg3 hk3 hk hb hr3 hb1 hg hW hW1 hWi hWl
      clear hs2 hs3 hgr
      go_wp2_with fail
      refine (turnW _ _ _ _ _ HG.out).mono ?_
      rintro e w' ⟨rfl, hg', hb'⟩
      have HG' : Hid (w'.heap[w2.heap.size]? = _) := hg'
      have HB' : Hid (Below w2.heap.size w3 w') := HB.out.trans hb'
      clear hg' hb' hix hkey fp fq
      go_wp2
      go_roundw
      case rel => exact ⟨k + 1, by omega, by go_num, HG'.out, HB'.out⟩
      case measure => simp [intOf]; omega
    · have hrt := rangeRow hgr
      have h64 : rnds s (wordAt t 0) k = rnds s (wordAt t 0) 64 := by rw [show k = 64 by omega]
      rw [h64] at hrt
      have hgg4 : wr.heap[g]? = some (.cells (uCells s ++ tail).toArray ty (0, 0)) := by rw [hbr.block g (by omega), hgg3]
      have HB4 : Hid (Below B w0 wr) := hB3.trans (hbr.mono (by omega))
      generalize hT : rnds s (wordAt t 0) 64 = T at hrt
      have HT : Hid (blk s (wordAt t 0) = s.add T) := by show _ = _; rw [← hT]; rfl
      clear hs2 hs3 hgr hbr hgg3 hgw3 hB3 hg3 hk3 hr3 hb1 hg hb h64 hT
      go_wp2_with (refine wpList_load_mid rfl 112 _ rfl w2.heap.size 0 rfl (uCells T) _ hrt Tryz.underlying112 rfl size8 ?_)
      go_loopw [28] (fun i wr => ∃ j : Nat, j ≤ 8 ∧ i = .int .i64 j ∧ wr.heap[g]? = some (.cells (mixC s T j ++ tail).toArray ty (0, 0)) ∧ Below B w0 wr)
        (fun i _ => 8 - (intOf i).toNat)
      case atStart => exact ⟨0, Nat.zero_le _, rfl, hgg4, HB4.out⟩
      case round =>
        clear hgg4 hrt HB4 hkk hlt
        obtain ⟨j, hj, rfl, hgr, hbr⟩ := hrel
        by_cases hl8 : j < 8
        · have hix := fun x => idxAgg8 (W := uCells T) hl8 (row_at T j hl8) x
          have hc := rowFacts hgr j _ (mix_at s T j tail hl8)
          have hz := frozen_of_row wr g j _ ty hgr
          have HS : Hid ((wr.setCell ⟨g, j, none⟩ (.int .u32 (uI (s.row.getD j 0 + T.row.getD j 0)))).heap[g]? = some (.cells (mixC s T (j + 1) ++ tail).toArray ty (0, 0))) := by
            show _ = _
            rw [← mix_set s T j tail hl8]
            exact rowSet _ hgr
          have HB : Hid (∀ v, Below B w0 (wr.setCell ⟨g, j, none⟩ v)) := fun v => hbr.setCell hB v
          have fp := uI_add' (s.row.getD j 0) (T.row.getD j 0)
          have fq := uI_add (s.row.getD j 0) (T.row.getD j 0)
          generalize s.row.getD j 0 = x at hc fp fq HS
          generalize T.row.getD j 0 = y at hix fp fq HS
          clear hgr hbr
          go_wp2_with fail
          go_region
          go_wp2
          go_roundw
          case rel => exact ⟨j + 1, by omega, by go_num, HS.out, (HB.out _).drew⟩
          case measure => simp [intOf]; omega
        · have h8 : mixC s T j = uCells (s.add T) := by rw [show j = 8 by omega]; rfl
          rw [h8] at hgr
          have HG : Hid (wr.heap[g]? = some (.cells (uCells (s.add T) ++ tail).toArray ty (0, 0))) := hgr
          have HB : Hid (Below B w0 wr) := hbr
          clear hgr hbr h8
          go_wp2
          go_returns
          exact ⟨rfl, by rw [HT.out]; exact HG.out, HB.out⟩
end Go.Proofs.YtjkmfjegphpjkaaGreatDoor
namespace Go.Proofs.YtjkmfjegphpjkaaGreatDoor
open Go.RowKit Go.Lib


set_option maxHeartbeats 1000000 in
set_option maxRecDepth 100000 in
theorem joinTexts (a b : ByteArray) (w : World) (ha : a.size ≤ 1000000) (hb : b.size ≤ 1000000) :
    Calls Tryz.prog 60 #[.string a, .string b] w fun e w' => e = .returned (.string (a ++ b)) ∧ Below w.heap.size w w' := by
  obtain ⟨i0, hi, hz0, hz1, hz2⟩ := info_parts infoByte
  go_enter Tryz.func60, Tryz.ntmps60
  go_wp2_with (at_make; refine wpList_make_full _ rfl _ _ 22 rfl w.heap.size 5 i0 (.int .u8 0) 1 Tryz.underlying22 hi hz0 hz1 .i64 .i64 _ _ (a.size + b.size) rfl rfl ?c1 ?c2 ?c3 ?c4 ?c5 ?_)
  case c1 => omega
  case c2 => omega
  case c3 => rw [hz2]; omega
  case c4 => unfold maxLen; omega
  case c5 => exact Nat.le_refl _
  intro w1 hown hgrow
  obtain ⟨hrow, hlen⟩ := rowOf hown rfl
  have hB1 : Below w.heap.size w w1 := (Below.refl _ w).grown hgrow (Nat.le_refl _) (fun k hk => by cases hk)
  generalize (madeCells #[Value.int IntKind.u8 0] (a.size + b.size)).toList = L at hrow hlen
  have la : (byteCells a.data.toList).length = a.size := by rw [byteCells_length, ← size_eq]
  have lb : (byteCells b.data.toList).length = b.size := by rw [byteCells_length, ← size_eq]
  clear hown hgrow
  go_wp2_with (refine wpList_copy_str rfl (.tmp 12) (.tmp 13) 22 9 rfl 5 Tryz.underlying22 byteSize _ _ _ a rfl rfl w.heap.size 0 L 5 hrow (fun _ => rfl) ?d2 ?d3 w.heap.size w hB1 (Nat.le_refl _) ?_)
  case d2 => omega
  case d3 => omega
  intro w2 H2 hB2 hs2
  have hlen2 : (splice L 0 (byteCells a.data.toList)).length = a.size + b.size := by rw [length_splice _ _ _ (by omega)]; exact hlen
  have HF : Hid (∀ w3 : World, w3.heap[w.heap.size]? = some (.cells (splice (splice L 0 (byteCells a.data.toList)) a.size (byteCells b.data.toList)).toArray 5 (0, 0)) →
      (convert 22 9 (.slice (some ⟨w.heap.size, 0, none⟩) (a.size + b.size) (a.size + b.size))).run Tryz.prog w3 = .ok (.string (a ++ b)) w3) := by
    intro w3 h3
    have e := splice_two L (byteCells a.data.toList) (byteCells b.data.toList) (by omega)
    rw [la] at e
    rw [e] at h3
    have h4 : w3.heap[w.heap.size]? = some (.cells (byteCells (a.data.toList ++ b.data.toList) ++ []).toArray 5 (0, 0)) := by simpa [byteCells] using h3
    have := run_convert_row (P := Tryz.prog) (src := 22) (dst := 9) (cap := a.size + b.size) Tryz.underlying22 Tryz.underlying5 Tryz.underlying9 h4
    rw [List.length_append, ← size_eq, ← size_eq, ofBytes_append] at this
    exact this
  clear hrow hB1 hs2 la lb hlen
  by_cases hb0 : b = ByteArray.empty
  · subst hb0
    go_wp2_with (refine wpList_copy_str rfl (.tmp 18) (.tmp 19) 22 9 rfl 5 Tryz.underlying22 byteSize _ _ _ ByteArray.empty rfl rfl w.heap.size a.size (splice L 0 (byteCells a.data.toList)) 5 H2.out ?e1 ?e2 ?e3 w.heap.size w hB2 (Nat.le_refl _) ?_)
    case e1 => intro h; simp at h
    case e2 => simp
    case e3 => simp; omega
    intro w3 H3 hB3 _
    have hcv := HF.out w3 H3.out
    simp only [ByteArray.size_empty, Nat.add_zero] at hcv
    clear hlen2 H2 hB2
    go_wp2
    go_ret
    exact ⟨by simp, hB3⟩
  · go_wp2_with (refine wpList_copy_str rfl (.tmp 18) (.tmp 19) 22 9 rfl 5 Tryz.underlying22 byteSize _ _ _ b rfl rfl w.heap.size a.size (splice L 0 (byteCells a.data.toList)) 5 H2.out ?f1 ?f2 ?f3 w.heap.size w hB2 (Nat.le_refl _) ?_)
    case f2 => exact Nat.le_refl _
    case f3 => omega
    intro w3 H3 hB3 _
    have hcv := HF.out w3 H3.out
    clear hlen2 H2 hB2
    go_wp2
    go_ret
    exact ⟨rfl, hB3⟩
end Go.Proofs.YtjkmfjegphpjkaaGreatDoor
namespace Go.Proofs.YtjkmfjegphpjkaaGreatDoor
open Go.RowKit

/-- A hash at work, as it lies in memory. -/
def workCells (s : St) (r : ByteArray) (n : Int) : List Value := uCells s ++ [.string r, .int .i64 n]

theorem byteAt_take (a : ByteArray) {k j : Nat} (h : j < k) : byteAt (a.extract 0 k) j = byteAt a j := by
  unfold byteAt
  rw [list_extract, List.drop_zero, List.getD, List.getD, List.getElem?_take, if_pos h]
theorem blks_step (s : St) (F L : ByteArray) (m : Nat) (hL : L = F.extract (64 * m) F.size) : blk (blks s F m) (wordAt (L.extract 0 64) 0) = blks s F (m + 1) := by
  rw [blks]
  refine blk_congr (fun i hi => wordAt_congr (fun j hj => ?_)) _
  rw [byteAt_take L (by omega), hL, byteAt_rest]
  congr 1
  omega
theorem extract_step (F L : ByteArray) (m : Nat) (hL : L = F.extract (64 * m) F.size) : L.extract 64 L.size = F.extract (64 * (m + 1)) F.size := by
  have e : (L.extract 64 L.size).data.toList = (F.extract (64 * (m + 1)) F.size).data.toList := by
    rw [list_extract, List.take_of_length_le (by simp), hL, list_extract, list_extract, List.take_of_length_le (by simp), List.drop_drop]
    congr 1
  exact ByteArray.ext (Array.ext' e)
set_option maxHeartbeats 1000000 in
set_option maxRecDepth 100000 in
theorem takeW (s : St) (r text : ByteArray) (n : Int) (w w0 : World) (g B : Nat) (ty : TypeId) (hr : r.size ≤ 1000000) (ht : text.size ≤ 900000) (h0 : 0 ≤ n) (hn : n ≤ 2000000000000) (hg : w.heap[g]? = some (.cells (workCells s r n).toArray ty (0, 0))) (hb : Below B w0 w) (hB : B ≤ g) (hk : Keys w0) (hkB : 1 < B) :
    Calls Tryz.prog 100 #[.pointer (some ⟨g, 0, none⟩), .string text] w
      fun e w' => e = .returned (.tuple #[]) ∧ w'.heap[g]? = some (.cells (workCells (more s (r ++ text)) (restOf (r ++ text)) (n + text.size)).toArray ty (0, 0)) ∧ Below B w0 w' := by
  have hgl := heap_lt hg
  have c8 := rowFacts hg 8 (.string r) rfl
  have c9 := rowFacts hg 9 (.int .i64 n) rfl
  have z8 := frozen_of_row w g 8 _ ty hg
  have z9 := frozen_of_row w g 9 _ ty hg
  have HG : Hid (w.heap[g]? = some (.cells (workCells s r n).toArray ty (0, 0))) := hg
  have HB : Hid (Below B w0 w) := hb
  clear hg hb
  go_enter Tryz.func100, Tryz.ntmps100
  go_wp2_with fail
  refine (joinTexts r text _ hr (by omega)).mono ?_
  rintro e w2 ⟨rfl, hb2⟩
  have hg1 : (w.setCell ⟨g, 9, none⟩ (.int .i64 (n + text.size))).heap[g]? = some (.cells (workCells s r (n + text.size)).toArray ty (0, 0)) := rowSet _ HG.out
  have hg2 : w2.heap[g]? = some (.cells (workCells s r (n + text.size)).toArray ty (0, 0)) := by
    rw [hb2.block g (by simpa using hgl), hg1]
  have HB2 : Hid (Below B w0 w2) := (HB.out.setCell hB _).trans (hb2.mono (by simp; omega))
  have hfs : (r ++ text).size ≤ 1900000 := by rw [size_append]; omega
  clear hg1 hb2 c8 c9 z8 z9 HG HB
  generalize hN : n + (text.size : Int) = N at hg2
  generalize hF : r ++ text = F at hfs
  have HN : Hid (n + (text.size : Int) = N) := hN
  have HF : Hid (r ++ text = F) := hF
  clear hN hF
  go_wp2_with fail
  have hk2 : Keys w2 := hk.below HB2.out hkB
  go_loopw [4] (fun v wr => ∃ (m : Nat) (L : ByteArray), 64 * m ≤ F.size ∧ L = F.extract (64 * m) F.size ∧ v = .string L ∧ wr.heap[g]? = some (.cells (workCells (blks s F m) r N).toArray ty (0, 0)) ∧ Below B w0 wr)
    (fun v _ => match v with | .string b => b.size | _ => 0)
  case atStart => exact ⟨0, F, by omega, by simp, rfl, hg2, HB2.out⟩
  case round =>
    clear hg2 HB2 hk2
    obtain ⟨m, L, hm, hL, rfl, hgr, hbr⟩ := hrel
    have hLs : L.size = F.size - 64 * m := by rw [hL, ByteArray.size_extract]; omega
    have HL : Hid (L = F.extract (64 * m) F.size) := hL
    have HLs : Hid (L.size = F.size - 64 * m) := hLs
    have hLm : L.size ≤ 1900000 := by omega
    clear hL hLs
    by_cases hlt : 64 ≤ L.size
    · have HK : Hid (Keys w0) := hk
      have HR : Hid (wr.heap[g]? = some (.cells (workCells (blks s F m) r N).toArray ty (0, 0))) := hgr
      have HBR : Hid (Below B w0 wr) := hbr
      have HS : Hid ((L.extract 0 64).size = 64) := by show _ = _; rw [ByteArray.size_extract]; omega
      clear hk hgr hbr
      go_wp2_with fail
      go_region_with (go_at_call 117; refine (takeBlock (blks s F m) (L.extract 0 64) wr.drew w0 g B ty [.string r, .int .i64 N] HS.out HR.out HBR.out.drew hB HK.out hkB).mono ?_; rintro e w' ⟨rfl, hg', hb'⟩)
      rw [blks_step s F L m HL.out] at hg'
      have HG' : Hid (w'.heap[g]? = some (.cells (workCells (blks s F (m + 1)) r N).toArray ty (0, 0))) := hg'
      have HB' : Hid (Below B w0 w') := hb'
      clear hg' hb'
      go_wp2
      go_roundw
      case rel => 
        have hLs := HLs.out
        exact ⟨m + 1, _, by omega, extract_step F L m HL.out, rfl, HG'.out, HB'.out⟩
      case measure => 
        show (L.extract 64 L.size).size < L.size
        rw [ByteArray.size_extract]; omega
    · have c8 := rowFacts hgr 8 (.string r) rfl
      have z8 := frozen_of_row wr g 8 _ ty hgr
      have HG' : Hid ((wr.setCell ⟨g, 8, none⟩ (.string L)).heap[g]? = some (.cells (workCells (blks s F m) L N).toArray ty (0, 0))) := rowSet _ hgr
      have HB' : Hid (Below B w0 (wr.setCell ⟨g, 8, none⟩ (.string L))) := hbr.setCell hB _
      clear hgr hbr
      go_wp2
      go_returns
      have hLs := HLs.out
      have hm2 : m = F.size / 64 := by omega
      refine ⟨rfl, ?_, HB'.out⟩
      rw [HF.out, HN.out, HG'.out, HL.out, hm2]
      rfl
end Go.Proofs.YtjkmfjegphpjkaaGreatDoor
namespace Go.Proofs.YtjkmfjegphpjkaaGreatDoor
open Go.RowKit

/-- The filling bytes when the j last have been laid. -/
def fillAt (n j p : Nat) : Int := if p = 0 then 128 else if p + j < 9 + zerosOf n then 0 else ((8 * n / 256 ^ (8 + zerosOf n - p) % 256 : Nat) : Int)
def fillL (n j : Nat) : List Int := (List.range (9 + zerosOf n)).map (fillAt n j)
theorem fillL_len (n j : Nat) : (fillL n j).length = 9 + zerosOf n := by simp [fillL]
theorem fillL_at (n j p : Nat) (h : p < 9 + zerosOf n) : (fillL n j)[p]? = some (fillAt n j p) := by simp [fillL, h]
theorem fillL_set (n j : Nat) (hj : j < 8) : (fillL n j).set (8 + zerosOf n - j) ((8 * n / 256 ^ j % 256 : Nat) : Int) = fillL n (j + 1) := by
  apply List.ext_getElem?
  intro p
  by_cases e : p = 8 + zerosOf n - j
  · subst e
    rw [List.getElem?_set_self (by rw [fillL_len]; omega), fillL_at _ _ _ (by omega)]
    unfold fillAt
    rw [if_neg (by omega), if_neg (by omega), show 8 + zerosOf n - (8 + zerosOf n - j) = j by omega]
  · rw [List.getElem?_set_ne (by omega)]
    by_cases hp : p < 9 + zerosOf n
    · rw [fillL_at _ _ _ hp, fillL_at _ _ _ hp]
      unfold fillAt
      by_cases h0 : p = 0
      · rw [if_pos h0, if_pos h0]
      · rw [if_neg h0, if_neg h0]
        by_cases h1 : p + j < 9 + zerosOf n
        · rw [if_pos h1, if_pos (by omega)]
        · rw [if_neg h1, if_neg (by omega)]
    · rw [List.getElem?_eq_none (by rw [fillL_len]; omega), List.getElem?_eq_none (by rw [fillL_len]; omega)]
theorem fillL_start (n : Nat) : (List.replicate (9 + zerosOf n) (0 : Int)).set 0 128 = fillL n 0 := by
  apply List.ext_getElem?
  intro p
  by_cases hp : p < 9 + zerosOf n
  · rw [fillL_at _ _ _ hp]
    by_cases h0 : p = 0
    · subst h0; rw [List.getElem?_set_self (by simp; omega)]; simp [fillAt]
    · rw [List.getElem?_set_ne (by omega)]
      simp [hp, fillAt, h0]
  · rw [List.getElem?_eq_none (by simp; omega), List.getElem?_eq_none (by rw [fillL_len]; omega)]
theorem padL_at (n p : Nat) (h : p < 9 + zerosOf n) : (padL n)[p]? = some (fillAt n 8 p) := by
  unfold padL
  by_cases h0 : p = 0
  · subst h0; simp [fillAt]
  · obtain ⟨q, rfl⟩ : ∃ q, p = q + 1 := ⟨p - 1, by omega⟩
    rw [List.getElem?_cons_succ]
    by_cases h1 : q < zerosOf n
    · rw [List.getElem?_append_left (by simpa using h1)]
      unfold fillAt
      rw [if_neg (by omega), if_pos (by omega)]
      simp [h1]
    · rw [List.getElem?_append_right (by simp; omega)]
      unfold fillAt beF
      rw [if_neg (by omega), if_neg (by omega)]
      have hq : q - zerosOf n < 8 := by omega
      simp only [List.length_replicate, List.getElem?_map, List.getElem?_range hq, Option.map_some]
      rw [show 8 - 1 - (q - zerosOf n) = 8 + zerosOf n - (q + 1) by omega]
theorem fill_end (n j : Nat) (hj : j ≤ 8) (h : 8 * n / 256 ^ j = 0) : fillL n j = padL n := by
  apply List.ext_getElem?
  intro p
  by_cases hp : p < 9 + zerosOf n
  · rw [fillL_at _ _ _ hp, padL_at _ _ hp]
    unfold fillAt
    by_cases h0 : p = 0
    · rw [if_pos h0, if_pos h0]
    · rw [if_neg h0, if_neg h0]
      by_cases h1 : p + j < 9 + zerosOf n
      · rw [if_pos h1]
        by_cases h2 : p + 8 < 9 + zerosOf n
        · rw [if_pos h2]
        · rw [if_neg h2]
          have : 8 * n / 256 ^ (8 + zerosOf n - p) = 0 := by
            obtain ⟨d, hd⟩ : ∃ d, 8 + zerosOf n - p = j + d := ⟨8 + zerosOf n - p - j, by omega⟩
            rw [hd, Nat.pow_add, ← Nat.div_div_eq_div_mul, h, Nat.zero_div]
          rw [this]; rfl
      · rw [if_neg h1, if_neg (by omega)]
  · rw [List.getElem?_eq_none (by rw [fillL_len]; omega), List.getElem?_eq_none (by rw [padL_len]; omega)]
theorem fill_step (n j : Nat) : 8 * n / 256 ^ j / 256 = 8 * n / 256 ^ (j + 1) := by
  rw [Nat.div_div_eq_div_mul, Nat.pow_succ]
theorem fill_small (n j : Nat) (hn : n ≤ 2000000000000) (h : 0 < 8 * n / 256 ^ j) : j < 8 := by
  rcases Nat.lt_or_ge j 8 with h' | h'
  · exact h'
  · exfalso
    have h1 : 256 ^ 8 ≤ 256 ^ j := Nat.pow_le_pow_right (by omega) h'
    have h2 : 8 * n < 256 ^ j := Nat.lt_of_lt_of_le (by omega) h1
    rw [Nat.div_eq_of_lt h2] at h
    omega
end Go.Proofs.YtjkmfjegphpjkaaGreatDoor
namespace Go.Proofs.YtjkmfjegphpjkaaGreatDoor
open Go.RowKit

set_option maxHeartbeats 1000000 in
set_option maxRecDepth 100000 in
theorem lastBytes (n : Nat) (w : World) (hn : n ≤ 2000000000000) :
    Calls Tryz.prog 118 #[.int .i64 (n : Int)] w fun e w' => e = .returned (.string (strOfNums (padL n))) ∧ Below w.heap.size w w' := by
  obtain ⟨i0, hi, hz0, hz1, hz2⟩ := info_parts infoByte
  have tm : ((n : Int) + 8).tmod 64 = ((n : Int) + 8) % 64 := Int.tmod_eq_emod_of_nonneg (by omega)
  have hzo : zerosOf n ≤ 63 := by unfold zerosOf; omega
  have hzI : (63 : Int) - ((n : Int) + 8) % 64 = (zerosOf n : Int) := by unfold zerosOf; omega
  go_enter Tryz.func118, Tryz.ntmps118
  go_wp2_with (at_make; refine wpList_make_full _ rfl _ _ 22 rfl w.heap.size 5 i0 (.int .u8 0) 1 Tryz.underlying22 hi hz0 hz1 .i64 .i64 _ _ (9 + zerosOf n) rfl rfl ?c1 ?c2 ?c3 ?c4 ?c5 ?_)
  case c1 => omega
  case c2 => omega
  case c3 => rw [hz2]; omega
  case c4 => unfold maxLen; omega
  case c5 => exact Nat.le_refl _
  intro w1 hown hgrow
  have hB1 : Below w.heap.size w w1 := (Below.refl _ w).grown hgrow (Nat.le_refl _) (fun k hk => by cases hk)
  obtain ⟨hrow, hlen⟩ := rowOf hown rfl
  rw [toList_madeCells_one] at hrow hlen
  have c0 := rowFacts hrow 0 (.int .u8 0) (by rw [List.getElem?_replicate, if_pos (by omega)])
  have z0 := frozen_of_row w1 _ 0 _ _ hrow
  have HR0 : Hid ((w1.setCell ⟨w.heap.size, 0, none⟩ (.int .u8 128)).heap[w.heap.size]? = some (.cells ((fillL n 0).map (Value.int .u8)).toArray 5 (0, 0))) := by
    show _ = _
    rw [← fillL_start, List.map_set, List.map_replicate]
    exact rowSet _ hrow
  have HB1 : Hid (Below w.heap.size w (w1.setCell ⟨w.heap.size, 0, none⟩ (.int .u8 128))) := hB1.setCell (Nat.le_refl _) _
  have a1 : (1 : Int) ≤ 9 + (zerosOf n : Int) := by omega
  clear hown hgrow hrow hlen hB1
  go_wp2_with fail
  go_loopw [5, 6] (fun b i wr => ∃ j x p : Nat, j ≤ 8 ∧ b = .int .i64 (x : Int) ∧ x = 8 * n / 256 ^ j ∧ i = .int .i64 (p : Int) ∧ p = 8 + zerosOf n - j ∧ wr.heap[w.heap.size]? = some (.cells ((fillL n j).map (Value.int .u8)).toArray 5 (0, 0)) ∧ Below w.heap.size w wr)
    (fun b _ _ => (intOf b).toNat)
  case atStart => exact ⟨0, 8 * n, 8 + zerosOf n, by omega, by go_num, by simp, by go_num, by omega, HR0.out, HB1.out⟩
  case round =>
    clear HR0 HB1 c0 z0
    obtain ⟨j, x, p, hj, rfl, hx, rfl, hp, hgr, hb⟩ := hrel
    by_cases hlt : 0 < x
    · have hj8 : j < 8 := fill_small n j hn (by omega)
      have hpl : p < 9 + zerosOf n := by omega
      have hxn : x ≤ 8 * n := by rw [hx]; exact Nat.div_le_self _ _
      have hlM : ((fillL n j).map (Value.int .u8)).length = 9 + zerosOf n := by rw [List.length_map, fillL_len]
      have hd := rowFacts hgr p _ (List.getElem?_eq_getElem (by omega))
      have hz := frozen_of_row wr _ p _ _ hgr
      have HG : Hid ((wr.setCell ⟨w.heap.size, p, none⟩ (.int .u8 ((x % 256 : Nat) : Int))).heap[w.heap.size]? = some (.cells ((fillL n (j + 1)).map (Value.int .u8)).toArray 5 (0, 0))) := by
        show _ = _
        rw [← fillL_set n j hj8, List.map_set, ← hx, ← hp]
        exact rowSet _ hgr
      have HB : Hid (∀ v, Below w.heap.size w (wr.setCell ⟨w.heap.size, p, none⟩ v)) := fun v => hb.setCell (Nat.le_refl _) v
      have HX : Hid (x / 256 = 8 * n / 256 ^ (j + 1)) := by show _ = _; rw [hx, fill_step]
      have HP : Hid (p - 1 = 8 + zerosOf n - (j + 1)) := by show _ = _; omega
      have hp1 : 1 ≤ p := by omega
      have fw : IntKind.u8.wrap (x : Int) = ((x % 256 : Nat) : Int) := by rw [IntKind.wrap_u8]; omega
      generalize ((fillL n j).map (Value.int .u8))[p] = v0 at hd
      clear hgr hb hx hp hlM
      go_wp2
      go_roundw
      case rel =>
        refine ⟨j + 1, x / 256, p - 1, by omega, by go_num, HX.out, by go_num, HP.out, ?_, HB.out _⟩
        exact HG.out
      case measure => simp [intOf]; omega
    · have hx0 : x = 0 := by omega
      have hpad : fillL n j = padL n := fill_end n j hj (by omega)
      rw [hpad] at hgr
      have hl := padL_len n
      have hcv := run_convert_bytes_arg wr 22 5 Tryz.underlying22 Tryz.underlying5 w.heap.size 0 (9 + zerosOf n) (9 + zerosOf n) (padL n) hl
        (fun t ht => by
          rw [Nat.zero_add]
          refine rowFacts hgr t _ ?_
          rw [List.getElem?_map, List.getD, List.getElem?_eq_getElem (by omega)]
          rfl) 9 Tryz.underlying9
      have HB : Hid (Below w.heap.size w wr) := hb
      clear hgr hb hx hp hpad hl
      go_wp2
      go_ret
      exact ⟨rfl, HB.out⟩
end Go.Proofs.YtjkmfjegphpjkaaGreatDoor
