/- A block taken into a state, walked: (*hashState).takeBlock. impl.joinTexts, walked: the one text behind the other. A text taken in, walked: (*hashWork).take. The bytes that fill a text up: plain mathematics, no program is named here. -/
import Derived.Test.YtdehbaafbbjcgaaGreatDoorJT07
import Derived.Test.YtdehbaafbbjcgaaGreatDoorJT01
import Derived.Test.YtdehbaafbbjcgaaGreatDoorJT06
namespace Go.Proofs.YtdehbaafbbjcgaaGreatDoor
open Go.RowKit

theorem rangeHead {w : World} {g : Nat} {cs tail : List Value} {t : TypeId} (hg : w.heap[g]? = some (.cells (cs ++ tail).toArray t (0, 0))) : w.rangeAt g 0 cs := fun j v hv => by
  rw [Nat.zero_add]
  refine rowFacts hg j v ?_
  have hj : j < cs.length := by
    rcases Nat.lt_or_ge j cs.length with h | h
    · exact h
    · rw [List.getElem?_eq_none h] at hv; cases hv
  rw [List.getElem?_append_left hj]; exact hv
theorem size8 : (Tryz.prog.info? 109).map (·.size) = some 8 := by kernel_rfl
abbrev z8 : Obj := .cells (List.replicate 8 (Value.int .u32 0)).toArray 109 (0, 0)
theorem uCells_all (s : St) : ∀ v ∈ uCells s, v.oneCell' = true := fun v hv => by
  simp only [uCells, List.mem_map] at hv
  obtain ⟨x, _, rfl⟩ := hv
  rfl
/-- The numbers of the rounds lie where the package's variable stands. -/
def Keys (w : World) : Prop := ∀ i, i < 64 → w.cell? ⟨1, i, none⟩ = some (.int .u32 (uI (kAt i)))
theorem Keys.below {B : Nat} {w w' : World} (h : Keys w) (hb : Below B w w') (hB : 1 < B) : Keys w' := fun i hi => by rw [hb.cell hB]; exact h i hi
theorem Keys.pos {w : World} (h : Keys w) : 1 < w.heap.size := World.block_lt_of_cell? w _ (h 0 (by omega))

/-- A state whose first k numbers have been added to. -/
def mixU (s T : St) (k i : Nat) : U := if i < k then s.row.getD i 0 + T.row.getD i 0 else s.row.getD i 0
def mixC (s T : St) (k : Nat) : List Value := (List.range 8).map fun i => Value.int .u32 (uI (mixU s T k i))
theorem mix_start (s T : St) : mixC s T 0 = uCells s := rfl
theorem mix_end (s T : St) : mixC s T 8 = uCells (s.add T) := rfl
theorem mix_at (s T : St) (k : Nat) (tail : List Value) (h : k < 8) : (mixC s T k ++ tail)[k]? = some (.int .u32 (uI (s.row.getD k 0))) := by
  rw [List.getElem?_append_left (by simp [mixC]; exact h)]
  simp [mixC, h, mixU]
theorem mix_set (s T : St) (k : Nat) (tail : List Value) (h : k < 8) : (mixC s T k ++ tail).set k (.int .u32 (uI (s.row.getD k 0 + T.row.getD k 0))) = mixC s T (k + 1) ++ tail := by
  rw [List.set_append_left _ _ (by simp [mixC]; exact h)]
  congr 1
  apply List.ext_getElem?
  intro j
  by_cases e : j = k
  · subst e
    rw [List.getElem?_set_self (by simp [mixC]; exact h)]
    simp [mixC, h, mixU]
  · rw [List.getElem?_set_ne (by omega)]
    by_cases hj : j < 8
    · have : (j < k) = (j < k + 1) := by apply propext; omega
      simp [mixC, hj, mixU, this]
    · rw [List.getElem?_eq_none (by simp [mixC]; omega), List.getElem?_eq_none (by simp [mixC]; omega)]
theorem size_u32 (w : World) : (sizeOf 107).run Tryz.prog w = .ok 1 w := by kernel_rfl
theorem agg_u32 (w : World) : (isAgg 107).run Tryz.prog w = .ok false w := by kernel_rfl
/-- A word of an array that is held as a value. -/
theorem idxAgg {W : List Value} {k : Nat} {v : Value} (hk : k < 64) (hv : W[k]? = some v) (w : World) : (Instr.index 158 (.agg W.toArray) (.int .i64 (k : Int))).run Tryz.prog w = .ok v w := by
  have h2 : 0 ≤ (k : Int) ∧ (k : Int) < 64 := by omega
  simp [Instr.index, run_underlying Tryz.underlying158, asIntOf, part, h2, hv]
  omega
theorem idxAgg8 {W : List Value} {k : Nat} {v : Value} (hk : k < 8) (hv : W[k]? = some v) (w : World) : (Instr.index 109 (.agg W.toArray) (.int .i64 (k : Int))).run Tryz.prog w = .ok v w := by
  have h2 : 0 ≤ (k : Int) ∧ (k : Int) < 8 := by omega
  simp [Instr.index, run_underlying Tryz.underlying109, asIntOf, part, h2, hv]
  omega
set_option maxHeartbeats 1000000 in
set_option maxRecDepth 100000 in
theorem takeBlock (s : St) (t : ByteArray) (w w0 : World) (g B : Nat) (ty : TypeId) (tail : List Value) (ht : t.size = 64) (hg : w.heap[g]? = some (.cells (uCells s ++ tail).toArray ty (0, 0))) (hb : Below B w0 w) (hB : B ≤ g) (hk : Keys w0) (hkB : 1 < B) :
    Calls Tryz.prog 113 #[.pointer (some ⟨g, 0, none⟩), .string t] w
      fun e w' => e = .returned (.tuple #[]) ∧ w'.heap[g]? = some (.cells (uCells (blk s (wordAt t 0)) ++ tail).toArray ty (0, 0)) ∧ Below B w0 w' := by
  have hgl := heap_lt hg
  have hBw : B ≤ w.heap.size := by omega
  go_enter Tryz.func113, Tryz.ntmps113
  go_wp2_with fail
  refine (blockWords t _ ht).mono ?_
  rintro e w1 ⟨rfl, hb1⟩
  generalize hW : (List.range 64).map (fun i => Value.int .u32 (uI (wAt (wordAt t 0) i))) = W
  have hWl : W.length = 64 := by rw [← hW]; simp
  have hWi : (Tryz.prog.info? 158).map (·.size) = some W.length := by rw [hWl]; exact size64
  have hW1 : ∀ v ∈ W, v.oneCell' = true := by
    rw [← hW]; intro v hv
    obtain ⟨i, _, rfl⟩ := List.mem_map.1 hv
    rfl
  go_wp2_with (refine wpList_store_row rfl 158 _ _ rfl w1.heap.size (List.replicate 64 (.int .u32 0)) W 158 rfl rfl (heap_alloc_new w1 z64) (by rw [hWl]; rfl) hWi hW1 ?_)
  intro w2 hg2 ho2 hs2 hb2
  have hs1 : w.heap.size ≤ w1.heap.size := hb1.size
  have hgg : w2.heap[g]? = some (.cells (uCells s ++ tail).toArray ty (0, 0)) := by
    rw [ho2 g (by omega), Below.heap_alloc w1 _ g (by omega), hb1.block g hgl, hg]
  have hB2 : Below B w0 w2 := hb2 B w0 (by omega) (((hb.trans (hb1.mono hBw)).alloc (by omega) _))
  have hr := rangeHead hgg
  have HS2 : Hid (w2.heap.size = w1.heap.size + 1) := by show _ = _; simpa using hs2
  clear ho2 hb2 hs2
  go_wp2_with (first | (refine wpList_load_mid rfl 109 _ rfl g 0 rfl (uCells s) _ hr Tryz.underlying109 rfl size8 ?_) | (refine wpList_store_row rfl 109 _ _ rfl w2.heap.size (List.replicate 8 (.int .u32 0)) (uCells s) 109 rfl rfl (heap_alloc_new w2 z8) rfl size8 (uCells_all s) ?_))
  intro w3 hg3 ho3 hs3 hb3
  have hs2 := HS2.out
  have hgg3 : w3.heap[g]? = some (.cells (uCells s ++ tail).toArray ty (0, 0)) := by
    rw [ho3 g (by omega), Below.heap_alloc w2 _ g (by omega), hgg]
  have hgw3 : w3.heap[w1.heap.size]? = some (.cells W.toArray 158 (0, 0)) := by
    rw [ho3 _ (by omega), Below.heap_alloc w2 _ _ (by omega), hg2]
  have hB3 : Below B w0 w3 := hb3 B w0 (by omega) (hB2.alloc (by omega) _)
  have HS3 : Hid (w3.heap.size = w2.heap.size + 1) := by show _ = _; simpa using hs3
  have hr3 := rangeRow hgw3
  clear ho3 hb3 hgg hg2 hr hB2 hs2 hs3
  go_wp2_with (refine wpList_load_mid rfl 158 _ rfl w1.heap.size 0 rfl W _ hr3 Tryz.underlying158 rfl hWi ?_)
  have hk3 : Keys w3 := hk.below hB3 hkB
  go_loopw [16] (fun i wr => ∃ k : Nat, k ≤ 64 ∧ i = .int .i64 k ∧ wr.heap[w2.heap.size]? = some (.cells (uCells (rnds s (wordAt t 0) k)).toArray 109 (0, 0)) ∧ Below w2.heap.size w3 wr)
    (fun i _ => 64 - (intOf i).toNat)
  case atStart => exact ⟨0, Nat.zero_le _, rfl, hg3, Below.refl _ _⟩
  case round =>
    obtain ⟨k, hkk, rfl, hgr, hbr⟩ := hrel
    have hs2 := HS2.out
    have hs3 := HS3.out
    by_cases hlt : k < 64
    · have hix := fun x => idxAgg (W := W) hlt (v := .int .u32 (uI (wAt (wordAt t 0) k))) (by rw [← hW]; simp [hlt]) x
      have hkey := (hk3.below hbr (by omega)) k hlt
      have fp := uI_add' (kAt k) (wAt (wordAt t 0) k)
      have fq := uI_add (kAt k) (wAt (wordAt t 0) k)
      have HG : Hid (wr.heap[w2.heap.size]? = some (.cells (uCells (rnds s (wordAt t 0) k)).toArray 109 (0, 0))) := hgr
      have HB : Hid (Below w2.heap.size w3 wr) := hbr
      clear hbr hgg3 hgw3 hB3 hg3 hk3 hk hb hr3 hb1 hg hW hW1 hWi hWl
      clear hs2 hs3 hgr
      go_wp2_with fail
      refine (turnW _ _ _ _ _ HG.out).mono ?_
      rintro e w' ⟨rfl, hg', hb'⟩
      have HG' : Hid (w'.heap[w2.heap.size]? = _) := hg'
      have HB' : Hid (Below w2.heap.size w3 w') := HB.out.trans hb'
      clear hg' hb' hix hkey fp fq
      go_wp2
      go_roundw
      case rel => exact ⟨k + 1, by omega, by go_num, HG'.out, HB'.out⟩
      case measure => simp [intOf]; omega
    · have hrt := rangeRow hgr
      have h64 : rnds s (wordAt t 0) k = rnds s (wordAt t 0) 64 := by rw [show k = 64 by omega]
      rw [h64] at hrt
      have hgg4 : wr.heap[g]? = some (.cells (uCells s ++ tail).toArray ty (0, 0)) := by rw [hbr.block g (by omega), hgg3]
      have HB4 : Hid (Below B w0 wr) := hB3.trans (hbr.mono (by omega))
      generalize hT : rnds s (wordAt t 0) 64 = T at hrt
      have HT : Hid (blk s (wordAt t 0) = s.add T) := by show _ = _; rw [← hT]; rfl
      clear hs2 hs3 hgr hbr hgg3 hgw3 hB3 hg3 hk3 hr3 hb1 hg hb h64 hT
      go_wp2_with (refine wpList_load_mid rfl 109 _ rfl w2.heap.size 0 rfl (uCells T) _ hrt Tryz.underlying109 rfl size8 ?_)
      go_loopw [28] (fun i wr => ∃ j : Nat, j ≤ 8 ∧ i = .int .i64 j ∧ wr.heap[g]? = some (.cells (mixC s T j ++ tail).toArray ty (0, 0)) ∧ Below B w0 wr)
        (fun i _ => 8 - (intOf i).toNat)
      case atStart => exact ⟨0, Nat.zero_le _, rfl, hgg4, HB4.out⟩
      case round =>
        clear hgg4 hrt HB4 hkk hlt
        obtain ⟨j, hj, rfl, hgr, hbr⟩ := hrel
        by_cases hl8 : j < 8
        · have hix := fun x => idxAgg8 (W := uCells T) hl8 (row_at T j hl8) x
          have hc := rowFacts hgr j _ (mix_at s T j tail hl8)
          have hz := frozen_of_row wr g j _ ty hgr
          have HS : Hid ((wr.setCell ⟨g, j, none⟩ (.int .u32 (uI (s.row.getD j 0 + T.row.getD j 0)))).heap[g]? = some (.cells (mixC s T (j + 1) ++ tail).toArray ty (0, 0))) := by
            show _ = _
            rw [← mix_set s T j tail hl8]
            exact rowSet _ hgr
          have HB : Hid (∀ v, Below B w0 (wr.setCell ⟨g, j, none⟩ v)) := fun v => hbr.setCell hB v
          have fp := uI_add' (s.row.getD j 0) (T.row.getD j 0)
          have fq := uI_add (s.row.getD j 0) (T.row.getD j 0)
          generalize s.row.getD j 0 = x at hc fp fq HS
          generalize T.row.getD j 0 = y at hix fp fq HS
          clear hgr hbr
          go_wp2_with fail
          go_region
          go_wp2
          go_roundw
          case rel => exact ⟨j + 1, by omega, by go_num, HS.out, (HB.out _).drew⟩
          case measure => simp [intOf]; omega
        · have h8 : mixC s T j = uCells (s.add T) := by rw [show j = 8 by omega]; rfl
          rw [h8] at hgr
          have HG : Hid (wr.heap[g]? = some (.cells (uCells (s.add T) ++ tail).toArray ty (0, 0))) := hgr
          have HB : Hid (Below B w0 wr) := hbr
          clear hgr hbr h8
          go_wp2
          go_returns
          exact ⟨rfl, by rw [HT.out]; exact HG.out, HB.out⟩
end Go.Proofs.YtdehbaafbbjcgaaGreatDoor
namespace Go.Proofs.YtdehbaafbbjcgaaGreatDoor
open Go.RowKit Go.Lib


set_option maxHeartbeats 1000000 in
set_option maxRecDepth 100000 in
theorem joinTexts (a b : ByteArray) (w : World) (ha : a.size ≤ 1000000) (hb : b.size ≤ 1000000) :
    Calls Tryz.prog 57 #[.string a, .string b] w fun e w' => e = .returned (.string (a ++ b)) ∧ Below w.heap.size w w' := by
  obtain ⟨i0, hi, hz0, hz1, hz2⟩ := info_parts infoByte
  go_enter Tryz.func57, Tryz.ntmps57
  go_wp2_with (at_make; refine wpList_make_full _ rfl _ _ 22 rfl w.heap.size 5 i0 (.int .u8 0) 1 Tryz.underlying22 hi hz0 hz1 .i64 .i64 _ _ (a.size + b.size) rfl rfl ?c1 ?c2 ?c3 ?c4 ?c5 ?_)
  case c1 => omega
  case c2 => omega
  case c3 => rw [hz2]; omega
  case c4 => unfold maxLen; omega
  case c5 => exact Nat.le_refl _
  intro w1 hown hgrow
  obtain ⟨hrow, hlen⟩ := rowOf hown rfl
  have hB1 : Below w.heap.size w w1 := (Below.refl _ w).grown hgrow (Nat.le_refl _) (fun k hk => by cases hk)
  generalize (madeCells #[Value.int IntKind.u8 0] (a.size + b.size)).toList = L at hrow hlen
  have la : (byteCells a.data.toList).length = a.size := by rw [byteCells_length, ← size_eq]
  have lb : (byteCells b.data.toList).length = b.size := by rw [byteCells_length, ← size_eq]
  clear hown hgrow
  go_wp2_with (refine wpList_copy_str rfl (.tmp 12) (.tmp 13) 22 9 rfl 5 Tryz.underlying22 byteSize _ _ _ a rfl rfl w.heap.size 0 L 5 hrow (fun _ => rfl) ?d2 ?d3 w.heap.size w hB1 (Nat.le_refl _) ?_)
  case d2 => omega
  case d3 => omega
  intro w2 H2 hB2 hs2
  have hlen2 : (splice L 0 (byteCells a.data.toList)).length = a.size + b.size := by rw [length_splice _ _ _ (by omega)]; exact hlen
  have HF : Hid (∀ w3 : World, w3.heap[w.heap.size]? = some (.cells (splice (splice L 0 (byteCells a.data.toList)) a.size (byteCells b.data.toList)).toArray 5 (0, 0)) →
      (convert 22 9 (.slice (some ⟨w.heap.size, 0, none⟩) (a.size + b.size) (a.size + b.size))).run Tryz.prog w3 = .ok (.string (a ++ b)) w3) := by
    intro w3 h3
    have e := splice_two L (byteCells a.data.toList) (byteCells b.data.toList) (by omega)
    rw [la] at e
    rw [e] at h3
    have h4 : w3.heap[w.heap.size]? = some (.cells (byteCells (a.data.toList ++ b.data.toList) ++ []).toArray 5 (0, 0)) := by simpa [byteCells] using h3
    have := run_convert_row (P := Tryz.prog) (src := 22) (dst := 9) (cap := a.size + b.size) Tryz.underlying22 Tryz.underlying5 Tryz.underlying9 h4
    rw [List.length_append, ← size_eq, ← size_eq, ofBytes_append] at this
    exact this
  clear hrow hB1 hs2 la lb hlen
  by_cases hb0 : b = ByteArray.empty
  · subst hb0
    go_wp2_with (refine wpList_copy_str rfl (.tmp 18) (.tmp 19) 22 9 rfl 5 Tryz.underlying22 byteSize _ _ _ ByteArray.empty rfl rfl w.heap.size a.size (splice L 0 (byteCells a.data.toList)) 5 H2.out ?e1 ?e2 ?e3 w.heap.size w hB2 (Nat.le_refl _) ?_)
    case e1 => intro h; simp at h
    case e2 => simp
    case e3 => simp; omega
    intro w3 H3 hB3 _
    have hcv := HF.out w3 H3.out
    simp only [ByteArray.size_empty, Nat.add_zero] at hcv
    clear hlen2 H2 hB2
    go_wp2
    go_ret
    exact ⟨by simp, hB3⟩
  · go_wp2_with (refine wpList_copy_str rfl (.tmp 18) (.tmp 19) 22 9 rfl 5 Tryz.underlying22 byteSize _ _ _ b rfl rfl w.heap.size a.size (splice L 0 (byteCells a.data.toList)) 5 H2.out ?f1 ?f2 ?f3 w.heap.size w hB2 (Nat.le_refl _) ?_)
    case f2 => exact Nat.le_refl _
    case f3 => omega
    intro w3 H3 hB3 _
    have hcv := HF.out w3 H3.out
    clear hlen2 H2 hB2
    go_wp2
    go_ret
    exact ⟨rfl, hB3⟩
end Go.Proofs.YtdehbaafbbjcgaaGreatDoor
namespace Go.Proofs.YtdehbaafbbjcgaaGreatDoor
open Go.RowKit

/-- A hash at work, as it lies in memory. -/
def workCells (s : St) (r : ByteArray) (n : Int) : List Value := uCells s ++ [.string r, .int .i64 n]

theorem byteAt_take (a : ByteArray) {k j : Nat} (h : j < k) : byteAt (a.extract 0 k) j = byteAt a j := by
  unfold byteAt
  rw [list_extract, List.drop_zero, List.getD, List.getD, List.getElem?_take, if_pos h]
theorem blks_step (s : St) (F L : ByteArray) (m : Nat) (hL : L = F.extract (64 * m) F.size) : blk (blks s F m) (wordAt (L.extract 0 64) 0) = blks s F (m + 1) := by
  rw [blks]
  refine blk_congr (fun i hi => wordAt_congr (fun j hj => ?_)) _
  rw [byteAt_take L (by omega), hL, byteAt_rest]
  congr 1
  omega
theorem extract_step (F L : ByteArray) (m : Nat) (hL : L = F.extract (64 * m) F.size) : L.extract 64 L.size = F.extract (64 * (m + 1)) F.size := by
  have e : (L.extract 64 L.size).data.toList = (F.extract (64 * (m + 1)) F.size).data.toList := by
    rw [list_extract, List.take_of_length_le (by simp), hL, list_extract, list_extract, List.take_of_length_le (by simp), List.drop_drop]
    congr 1
  exact ByteArray.ext (Array.ext' e)
set_option maxHeartbeats 1000000 in
set_option maxRecDepth 100000 in
theorem takeW (s : St) (r text : ByteArray) (n : Int) (w w0 : World) (g B : Nat) (ty : TypeId) (hr : r.size ≤ 1000000) (ht : text.size ≤ 900000) (h0 : 0 ≤ n) (hn : n ≤ 2000000000000) (hg : w.heap[g]? = some (.cells (workCells s r n).toArray ty (0, 0))) (hb : Below B w0 w) (hB : B ≤ g) (hk : Keys w0) (hkB : 1 < B) :
    Calls Tryz.prog 96 #[.pointer (some ⟨g, 0, none⟩), .string text] w
      fun e w' => e = .returned (.tuple #[]) ∧ w'.heap[g]? = some (.cells (workCells (more s (r ++ text)) (restOf (r ++ text)) (n + text.size)).toArray ty (0, 0)) ∧ Below B w0 w' := by
  have hgl := heap_lt hg
  have c8 := rowFacts hg 8 (.string r) rfl
  have c9 := rowFacts hg 9 (.int .i64 n) rfl
  have z8 := frozen_of_row w g 8 _ ty hg
  have z9 := frozen_of_row w g 9 _ ty hg
  have HG : Hid (w.heap[g]? = some (.cells (workCells s r n).toArray ty (0, 0))) := hg
  have HB : Hid (Below B w0 w) := hb
  clear hg hb
  go_enter Tryz.func96, Tryz.ntmps96
  go_wp2_with fail
  refine (joinTexts r text _ hr (by omega)).mono ?_
  rintro e w2 ⟨rfl, hb2⟩
  have hg1 : (w.setCell ⟨g, 9, none⟩ (.int .i64 (n + text.size))).heap[g]? = some (.cells (workCells s r (n + text.size)).toArray ty (0, 0)) := rowSet _ HG.out
  have hg2 : w2.heap[g]? = some (.cells (workCells s r (n + text.size)).toArray ty (0, 0)) := by
    rw [hb2.block g (by simpa using hgl), hg1]
  have HB2 : Hid (Below B w0 w2) := (HB.out.setCell hB _).trans (hb2.mono (by simp; omega))
  have hfs : (r ++ text).size ≤ 1900000 := by rw [size_append]; omega
  clear hg1 hb2 c8 c9 z8 z9 HG HB
  generalize hN : n + (text.size : Int) = N at hg2
  generalize hF : r ++ text = F at hfs
  have HN : Hid (n + (text.size : Int) = N) := hN
  have HF : Hid (r ++ text = F) := hF
  clear hN hF
  go_wp2_with fail
  have hk2 : Keys w2 := hk.below HB2.out hkB
  go_loopw [4] (fun v wr => ∃ (m : Nat) (L : ByteArray), 64 * m ≤ F.size ∧ L = F.extract (64 * m) F.size ∧ v = .string L ∧ wr.heap[g]? = some (.cells (workCells (blks s F m) r N).toArray ty (0, 0)) ∧ Below B w0 wr)
    (fun v _ => match v with | .string b => b.size | _ => 0)
  case atStart => exact ⟨0, F, by omega, by simp, rfl, hg2, HB2.out⟩
  case round =>
    clear hg2 HB2 hk2
    obtain ⟨m, L, hm, hL, rfl, hgr, hbr⟩ := hrel
    have hLs : L.size = F.size - 64 * m := by rw [hL, ByteArray.size_extract]; omega
    have HL : Hid (L = F.extract (64 * m) F.size) := hL
    have HLs : Hid (L.size = F.size - 64 * m) := hLs
    have hLm : L.size ≤ 1900000 := by omega
    clear hL hLs
    by_cases hlt : 64 ≤ L.size
    · have HK : Hid (Keys w0) := hk
      have HR : Hid (wr.heap[g]? = some (.cells (workCells (blks s F m) r N).toArray ty (0, 0))) := hgr
      have HBR : Hid (Below B w0 wr) := hbr
      have HS : Hid ((L.extract 0 64).size = 64) := by show _ = _; rw [ByteArray.size_extract]; omega
      clear hk hgr hbr
      go_wp2_with fail
      go_region_with (go_at_call 113; refine (takeBlock (blks s F m) (L.extract 0 64) wr.drew w0 g B ty [.string r, .int .i64 N] HS.out HR.out HBR.out.drew hB HK.out hkB).mono ?_; rintro e w' ⟨rfl, hg', hb'⟩)
      rw [blks_step s F L m HL.out] at hg'
      have HG' : Hid (w'.heap[g]? = some (.cells (workCells (blks s F (m + 1)) r N).toArray ty (0, 0))) := hg'
      have HB' : Hid (Below B w0 w') := hb'
      clear hg' hb'
      go_wp2
      go_roundw
      case rel => 
        have hLs := HLs.out
        exact ⟨m + 1, _, by omega, extract_step F L m HL.out, rfl, HG'.out, HB'.out⟩
      case measure => 
        show (L.extract 64 L.size).size < L.size
        rw [ByteArray.size_extract]; omega
    · have c8 := rowFacts hgr 8 (.string r) rfl
      have z8 := frozen_of_row wr g 8 _ ty hgr
      have HG' : Hid ((wr.setCell ⟨g, 8, none⟩ (.string L)).heap[g]? = some (.cells (workCells (blks s F m) L N).toArray ty (0, 0))) := rowSet _ hgr
      have HB' : Hid (Below B w0 (wr.setCell ⟨g, 8, none⟩ (.string L))) := hbr.setCell hB _
      clear hgr hbr
      go_wp2
      go_returns
      have hLs := HLs.out
      have hm2 : m = F.size / 64 := by omega
      refine ⟨rfl, ?_, HB'.out⟩
      rw [HF.out, HN.out, HG'.out, HL.out, hm2]
      rfl
end Go.Proofs.YtdehbaafbbjcgaaGreatDoor
namespace Go.Proofs.YtdehbaafbbjcgaaGreatDoor
open Go.RowKit

/-- The filling bytes when the j last have been laid. -/
def fillAt (n j p : Nat) : Int := if p = 0 then 128 else if p + j < 9 + zerosOf n then 0 else ((8 * n / 256 ^ (8 + zerosOf n - p) % 256 : Nat) : Int)
def fillL (n j : Nat) : List Int := (List.range (9 + zerosOf n)).map (fillAt n j)
theorem fillL_len (n j : Nat) : (fillL n j).length = 9 + zerosOf n := by simp [fillL]
theorem fillL_at (n j p : Nat) (h : p < 9 + zerosOf n) : (fillL n j)[p]? = some (fillAt n j p) := by simp [fillL, h]
theorem fillL_set (n j : Nat) (hj : j < 8) : (fillL n j).set (8 + zerosOf n - j) ((8 * n / 256 ^ j % 256 : Nat) : Int) = fillL n (j + 1) := by
  apply List.ext_getElem?
  intro p
  by_cases e : p = 8 + zerosOf n - j
  · subst e
    rw [List.getElem?_set_self (by rw [fillL_len]; omega), fillL_at _ _ _ (by omega)]
    unfold fillAt
    rw [if_neg (by omega), if_neg (by omega), show 8 + zerosOf n - (8 + zerosOf n - j) = j by omega]
  · rw [List.getElem?_set_ne (by omega)]
    by_cases hp : p < 9 + zerosOf n
    · rw [fillL_at _ _ _ hp, fillL_at _ _ _ hp]
      unfold fillAt
      by_cases h0 : p = 0
      · rw [if_pos h0, if_pos h0]
      · rw [if_neg h0, if_neg h0]
        by_cases h1 : p + j < 9 + zerosOf n
        · rw [if_pos h1, if_pos (by omega)]
        · rw [if_neg h1, if_neg (by omega)]
    · rw [List.getElem?_eq_none (by rw [fillL_len]; omega), List.getElem?_eq_none (by rw [fillL_len]; omega)]
theorem fillL_start (n : Nat) : (List.replicate (9 + zerosOf n) (0 : Int)).set 0 128 = fillL n 0 := by
  apply List.ext_getElem?
  intro p
  by_cases hp : p < 9 + zerosOf n
  · rw [fillL_at _ _ _ hp]
    by_cases h0 : p = 0
    · subst h0; rw [List.getElem?_set_self (by simp; omega)]; simp [fillAt]
    · rw [List.getElem?_set_ne (by omega)]
      simp [hp, fillAt, h0]
  · rw [List.getElem?_eq_none (by simp; omega), List.getElem?_eq_none (by rw [fillL_len]; omega)]
theorem padL_at (n p : Nat) (h : p < 9 + zerosOf n) : (padL n)[p]? = some (fillAt n 8 p) := by
  unfold padL
  by_cases h0 : p = 0
  · subst h0; simp [fillAt]
  · obtain ⟨q, rfl⟩ : ∃ q, p = q + 1 := ⟨p - 1, by omega⟩
    rw [List.getElem?_cons_succ]
    by_cases h1 : q < zerosOf n
    · rw [List.getElem?_append_left (by simpa using h1)]
      unfold fillAt
      rw [if_neg (by omega), if_pos (by omega)]
      simp [h1]
    · rw [List.getElem?_append_right (by simp; omega)]
      unfold fillAt beF
      rw [if_neg (by omega), if_neg (by omega)]
      have hq : q - zerosOf n < 8 := by omega
      simp only [List.length_replicate, List.getElem?_map, List.getElem?_range hq, Option.map_some]
      rw [show 8 - 1 - (q - zerosOf n) = 8 + zerosOf n - (q + 1) by omega]
theorem fill_end (n j : Nat) (hj : j ≤ 8) (h : 8 * n / 256 ^ j = 0) : fillL n j = padL n := by
  apply List.ext_getElem?
  intro p
  by_cases hp : p < 9 + zerosOf n
  · rw [fillL_at _ _ _ hp, padL_at _ _ hp]
    unfold fillAt
    by_cases h0 : p = 0
    · rw [if_pos h0, if_pos h0]
    · rw [if_neg h0, if_neg h0]
      by_cases h1 : p + j < 9 + zerosOf n
      · rw [if_pos h1]
        by_cases h2 : p + 8 < 9 + zerosOf n
        · rw [if_pos h2]
        · rw [if_neg h2]
          have : 8 * n / 256 ^ (8 + zerosOf n - p) = 0 := by
            obtain ⟨d, hd⟩ : ∃ d, 8 + zerosOf n - p = j + d := ⟨8 + zerosOf n - p - j, by omega⟩
            rw [hd, Nat.pow_add, ← Nat.div_div_eq_div_mul, h, Nat.zero_div]
          rw [this]; rfl
      · rw [if_neg h1, if_neg (by omega)]
  · rw [List.getElem?_eq_none (by rw [fillL_len]; omega), List.getElem?_eq_none (by rw [padL_len]; omega)]
theorem fill_step (n j : Nat) : 8 * n / 256 ^ j / 256 = 8 * n / 256 ^ (j + 1) := by
  rw [Nat.div_div_eq_div_mul, Nat.pow_succ]
theorem fill_small (n j : Nat) (hn : n ≤ 2000000000000) (h : 0 < 8 * n / 256 ^ j) : j < 8 := by
  rcases Nat.lt_or_ge j 8 with h' | h'
  · exact h'
  · exfalso
    have h1 : 256 ^ 8 ≤ 256 ^ j := Nat.pow_le_pow_right (by omega) h'
    have h2 : 8 * n < 256 ^ j := Nat.lt_of_lt_of_le (by omega) h1
    rw [Nat.div_eq_of_lt h2] at h
    omega
end Go.Proofs.YtdehbaafbbjcgaaGreatDoor
