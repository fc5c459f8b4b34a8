/- The turning of a word, walked: spec.l02Turn, bits.RotateLeft32, impl.turnRight. One round, walked: (*hashState).turn. The words of a block, walked: impl.blockWords. A whole variable of many cells, stored. No program is named. -/
import Derived.Test.YtdehbaafbbjcgaaGreatDoorJT01
import Derived.Test.YtdehbaafbbjcgaaGreatDoorJT06
import Derived.Test.YtdehbaafbbjcgaaGreatDoorJT03
import Derived.Handy
import Derived.Deep.QuietTactic
import Derived.BigQuiet
import Derived.Deep.MidRow
namespace Go.Proofs.YtdehbaafbbjcgaaGreatDoor
open Go.RowKit

theorem specTurn (x : U) (k : Nat) (hk : k < 32) (w : World) :
    Calls Tryz.prog 116 #[.int .u32 (uI x), .int .u64 (k : Int)] w fun e w' => e = .returned (.int .u32 (uI (rotr x k))) ∧ w' = w := by
  have h1 := uI_le x
  have h0 := uI_nonneg x
  go_enter Tryz.func116, Tryz.ntmps116
  go_wp2
  go_ret
  exact ⟨ret_int (by rw [uI_shr, uI_shl', uI_or]; rfl), rfl⟩
theorem mask31 (k : Nat) (h0 : 0 < k) (hk : k < 32) : bits .and .u64 (IntKind.u64.wrap (-(k : Int))) 31 = 32 - (k : Int) := by
  have e : IntKind.u64.wrap (-(k : Int)) = ((18446744073709551616 - k : Nat) : Int) := by rw [IntKind.wrap_u64]; omega
  have e2 := u64_and_nat (18446744073709551616 - k) 31 (by omega) (by omega)
  rw [e]
  refine e2.trans ?_
  rw [Nat.and_two_pow_sub_one_eq_mod _ 5]
  omega
theorem rotL (x : U) (k : Nat) (hk0 : 0 < k) (hk : k < 32) (w : World) :
    Calls Tryz.prog 135 #[.int .u32 (uI x), .int .i64 (-(k : Int))] w fun e w' => e = .returned (.int .u32 (uI (rotr x k))) ∧ w' = w := by
  have h1 := uI_le x
  have h0 := uI_nonneg x
  have hm := mask31 k hk0 hk
  go_enter Tryz.func135, Tryz.ntmps135
  go_wp2
  go_ret
  exact ⟨ret_int (by rw [uI_shr, uI_shl', uI_or, BitVec.or_comm, show 32 - (32 - k) = k by omega]; rfl), rfl⟩
theorem implTurn (x : U) (k : Nat) (hk0 : 0 < k) (hk : k < 32) (w : World) :
    Calls Tryz.prog 132 #[.int .u32 (uI x), .int .i64 (k : Int)] w fun e w' => e = .returned (.int .u32 (uI (rotr x k))) ∧ w' = w := by
  go_enter Tryz.func132, Tryz.ntmps132
  go_wp2_with fail
  refine (rotL x k hk0 hk _).mono ?_
  rintro e w' ⟨rfl, rfl⟩
  go_wp2
  go_ret
  exact ⟨rfl, rfl⟩
/-- The same, the number of places as the walk spells it. -/
theorem implTurnI (x : U) (k : Int) (w : World) (h0 : 0 < k) (hk : k < 32) :
    Calls Tryz.prog 132 #[.int .u32 (uI x), .int .i64 k] w fun e w' => e = .returned (.int .u32 (uI (rotr x k.toNat))) ∧ w' = w := by
  have h := implTurn x k.toNat (by omega) (by omega) w
  rwa [Int.toNat_of_nonneg (by omega)] at h
theorem specTurnI (x : U) (k : Int) (w : World) (h0 : 0 ≤ k) (hk : k < 32) :
    Calls Tryz.prog 116 #[.int .u32 (uI x), .int .u64 k] w fun e w' => e = .returned (.int .u32 (uI (rotr x k.toNat))) ∧ w' = w := by
  have h := specTurn x k.toNat (by omega) w
  rwa [Int.toNat_of_nonneg (by omega)] at h
end Go.Proofs.YtdehbaafbbjcgaaGreatDoor
namespace Go.Proofs.YtdehbaafbbjcgaaGreatDoor
open Go.RowKit Go.BigFrame

/-- A byte of a text, read. -/
theorem idxB (t : ByteArray) (j : Nat) (h : j < t.size) (n : Int) (hn : n = j) (w : World) : (Instr.index 9 (.string t) (.int .i64 n)).run Tryz.prog w = .ok (.int .u8 (uI (bU (byteAt t j)))) w := by
  subst hn
  rw [run_index_string _ _ _ _ _ Tryz.underlying9, dif_pos ⟨by omega, by omega⟩, uI_bU, byteAt_get t j h]
  rfl
theorem arr8 : Tryz.prog.arrayLen 109 = 8 := by kernel_rfl

theorem slice8a (w : World) (g : Nat) : (Instr.sliceAt 109 (.pointer (some ⟨g, 0, none⟩)) (some (.int .i64 1)) none none).run Tryz.prog w = .ok (.slice (some ⟨g, 1, none⟩) 7 7) w := by kernel_rfl
theorem slice8b (w : World) (g : Nat) : (Instr.sliceAt 109 (.pointer (some ⟨g, 0, none⟩)) none (some (.int .i64 7)) none).run Tryz.prog w = .ok (.slice (some ⟨g, 0, none⟩) 7 8) w := by kernel_rfl
theorem turn_src {w : World} {g : Nat} {t : TypeId} {s : St} (hg : w.heap[g]? = some (.cells (uCells s).toArray t (0, 0))) :
    ∀ j v, ((uCells s).take 7)[j]? = some v → w.cell? ((⟨g, 0, none⟩ : Addr).add j) = some v := by
  intro j v hj
  rw [Addr.add_lit, Nat.zero_add]
  refine rowFacts hg j v ?_
  rw [List.getElem?_take] at hj
  split at hj
  · exact hj
  · cases hj
theorem u32Size : (Tryz.prog.info? 107).map (·.size) = some 1 := by kernel_rfl
theorem uCells_one (s : St) : ∀ v ∈ (uCells s).take 7, v.oneCell' = true := fun v hv => by
  have := List.mem_of_mem_take hv
  simp only [uCells, List.mem_map] at this
  obtain ⟨x, _, rfl⟩ := this
  rfl
set_option maxHeartbeats 400000 in
set_option maxRecDepth 100000 in
theorem turnW (s : St) (kw : U) (w : World) (g : Nat) (t : TypeId) (hg : w.heap[g]? = some (.cells (uCells s).toArray t (0, 0))) :
    Calls Tryz.prog 126 #[.pointer (some ⟨g, 0, none⟩), .int .u32 (uI kw)] w
      fun e w' => e = .returned (.tuple #[]) ∧ w'.heap[g]? = some (.cells (uCells (rnd s kw)).toArray t (0, 0)) ∧ Below g w w' := by
  have c0 := rowFacts hg 0 (.int .u32 (uI s.a)) rfl
  have c1 := rowFacts hg 1 (.int .u32 (uI s.b)) rfl
  have c2 := rowFacts hg 2 (.int .u32 (uI s.c)) rfl
  have c4 := rowFacts hg 4 (.int .u32 (uI s.e)) rfl
  have c5 := rowFacts hg 5 (.int .u32 (uI s.f)) rfl
  have c6 := rowFacts hg 6 (.int .u32 (uI s.g)) rfl
  have c7 := rowFacts hg 7 (.int .u32 (uI s.h)) rfl
  have HG : Hid (w.heap[g]? = some (.cells (uCells s).toArray t (0, 0))) := hg
  clear hg
  go_enter Tryz.func126, Tryz.ntmps126
  go_wp2_with fail
  go_quiet (fail)
  go_wp2_with fail
  go_quiet (fail)
  go_wp2_with fail
  have fx := uI_xor
  have fa := uI_and
  have fn := uI_not'
  have fp := uI_add
  have fq := uI_add'
  go_big_quiet (exact (implTurnI _ _ _ (by decide) (by decide)).mono (fun _ _ h => ⟨h.1, _, h.2⟩))
  go_wp2_with fail
  refine (implTurnI _ _ _ (by decide) (by decide)).mono ?_
  rintro e w' ⟨rfl, rfl⟩
  go_wp2_with fail
  refine (implTurnI _ _ _ (by decide) (by decide)).mono ?_
  rintro e w' ⟨rfl, rfl⟩
  go_wp2_with fail
  refine (implTurnI _ _ _ (by decide) (by decide)).mono ?_
  rintro e w' ⟨rfl, rfl⟩
  go_wp2_with fail
  generalize hw4 : w.drewN _ = w4
  have hg4 : w4.heap[g]? = some (.cells (uCells s).toArray t (0, 0)) := by rw [← hw4]; exact HG.out
  have hb4 : Below g w w4 := by rw [← hw4]; exact below_drewN (Below.refl _ _) _
  have hs1 := slice8a
  have hs2 := slice8b
  clear c0 c1 c2 c4 c5 c6 c7 hw4 HG
  go_region_law ((refine step_copy_splice (by rfl) (.tmp 82) (.tmp 85) _ _ (by rfl) 107 Tryz.underlying136 u32Size (some ⟨g, 1, none⟩) (some ⟨g, 0, none⟩) 7 7 7 8 (by go_simp) (by go_simp) g 1 (uCells s) t hg4 ((uCells s).take 7) (by rfl) (fun _ => ⟨rfl, _, rfl, turn_src hg4⟩) (by simp [uCells, St.row]) (uCells_one s) g w hb4.drew (Nat.le_refl _) ?_; intro w5 hg5 hb5))
  have HG5 := hg5.out
  have e5 : splice (uCells s) 1 ((uCells s).take 7) = [.int .u32 (uI s.a), .int .u32 (uI s.a), .int .u32 (uI s.b), .int .u32 (uI s.c), .int .u32 (uI s.d), .int .u32 (uI s.e), .int .u32 (uI s.f), .int .u32 (uI s.g)] := rfl
  rw [e5] at HG5
  have d4 := rowFacts HG5 4 _ rfl
  have d0 := rowFacts HG5 0 _ rfl
  have z4 := frozen_of_row w5 g 4 _ t HG5
  have z0 := frozen_of_row w5 g 0 _ t HG5
  have HE : Hid (∀ x y, ((w5.setCell ⟨g, 4, none⟩ x).setCell ⟨g, 0, none⟩ y).heap[g]? = some (.cells [y, .int .u32 (uI s.a), .int .u32 (uI s.b), .int .u32 (uI s.c), x, .int .u32 (uI s.e), .int .u32 (uI s.f), .int .u32 (uI s.g)].toArray t (0, 0))) :=
    fun x y => rowSet y (rowSet x HG5)
  have HB : Hid (∀ x y, Below g w ((w5.setCell ⟨g, 4, none⟩ x).setCell ⟨g, 0, none⟩ y)) := fun x y => (hb5.setCell (Nat.le_refl _) x).setCell (Nat.le_refl _) y
  clear hg5 HG5 hb5 hg4 hb4 e5
  go_wp2
  go_region
  go_wp2
  go_returns
  exact ⟨rfl, HE.out _ _, (HB.out _ _).drew⟩
end Go.Proofs.YtdehbaafbbjcgaaGreatDoor
namespace Go.Proofs.YtdehbaafbbjcgaaGreatDoor
open Go.RowKit

theorem words_set {L : List Value} {W : Nat → U} {k : Nat} (hL : k < L.length) (h : ∀ j, j < k → L[j]? = some (.int .u32 (uI (W j)))) :
    ∀ j, j < k + 1 → (L.set k (.int .u32 (uI (W k))))[j]? = some (.int .u32 (uI (W j))) := by
  intro j hj
  by_cases e : j = k
  · subst e; simp [hL]
  · rw [List.getElem?_set_ne (by omega), h j (by omega)]

theorem size64 : (Tryz.prog.info? 158).map (·.size) = some 64 := by kernel_rfl
theorem words_eq {L : List Value} {W : Nat → U} (hL : L.length = 64) (h : ∀ j, j < 64 → L[j]? = some (.int .u32 (uI (W j)))) : L = (List.range 64).map fun i => Value.int .u32 (uI (W i)) := by
  apply List.ext_getElem?
  intro j
  by_cases hj : j < 64
  · rw [h j hj]; simp [hj]
  · rw [List.getElem?_eq_none (by omega), List.getElem?_eq_none (by simp; omega)]
/-- A row of 64 words that a variable begins with. -/
abbrev z64 : Obj := .cells (List.replicate 64 (Value.int .u32 0)).toArray 158 (0, 0)
set_option maxHeartbeats 1000000 in
set_option maxRecDepth 100000 in
theorem blockWords (t : ByteArray) (w : World) (ht : t.size = 64) :
    Calls Tryz.prog 125 #[.string t] w
      fun e w' => e = .returned (.agg ((List.range 64).map fun i => Value.int .u32 (uI (wAt (wordAt t 0) i))).toArray) ∧ Below w.heap.size w w' := by
  go_enter Tryz.func125, Tryz.ntmps125
  go_wp2_with fail
  go_loopw [10] (fun i wr => ∃ (k : Nat) (L : List Value), k ≤ 16 ∧ i = .int .i64 k ∧ L.length = 64 ∧ wr.heap[w.heap.size + 1]? = some (.cells L.toArray 158 (0, 0)) ∧ (∀ j, j < k → L[j]? = some (.int .u32 (uI (wAt (wordAt t 0) j)))) ∧ Below (w.heap.size + 1) (w.alloc z64) wr)
    (fun i _ => 16 - (intOf i).toNat)
  case atStart =>
    refine ⟨0, _, Nat.zero_le _, rfl, ?_, heap_alloc2 w _ _, fun j hj => by omega, (Below.refl _ (w.alloc z64)).alloc (by simp) _⟩
    rfl
  case round =>
    obtain ⟨k, L, hk, rfl, hL, hg, hv, hb⟩ := hrel
    by_cases hlt : k < 16
    · have hc := rowFacts hg k L[k] (List.getElem?_eq_getElem (by omega))
      have hz := frozen_of_row wr _ k _ _ hg
      have HV : Hid (∀ x, x = uI (wAt (wordAt t 0) k) → ∀ j, j < k + 1 → (L.set k (.int .u32 x))[j]? = some (.int .u32 (uI (wAt (wordAt t 0) j)))) := fun x hx => by
        subst hx
        exact words_set (by omega) hv
      have HG : Hid (∀ x, (wr.setCell ⟨w.heap.size + 1, k, none⟩ x).heap[w.heap.size + 1]? = some (.cells (L.set k x).toArray 158 (0, 0))) := fun x => rowSet x hg
      have HL : Hid (∀ x, (L.set k x).length = 64) := fun x => by simpa using hL
      have HW : Hid (bits BinOp.or IntKind.u32 (bits BinOp.or IntKind.u32 (bits BinOp.or IntKind.u32 (uI (bU (byteAt t (4 * k))) * 16777216 % 4294967296) (uI (bU (byteAt t (4 * k + 1))) * 65536 % 4294967296)) (uI (bU (byteAt t (4 * k + 2))) * 256 % 4294967296)) (uI (bU (byteAt t (4 * k + 3)))) = uI (wAt (wordAt t 0) k)) := by
        show _ = _
        rw [uI_shl24, uI_shl16, uI_shl8, uI_or, uI_or, uI_or, wAt_low _ hlt]
        unfold wordAt
        rw [Nat.zero_add]
      generalize L[k] = v0 at hc
      clear hv hg hL
      go_wp2_with fail
      have i0 := idxB t (4 * k) (by omega) (4 * (k : Int)) (by omega)
      have i1 := idxB t (4 * k + 1) (by omega) (4 * (k : Int) + 1) (by omega)
      have i2 := idxB t (4 * k + 2) (by omega) (4 * (k : Int) + 2) (by omega)
      have i3 := idxB t (4 * k + 3) (by omega) (4 * (k : Int) + 3) (by omega)
      have fw := uI_wrap
      go_region
      clear i0 i1 i2 i3 fw hc hz
      go_wp2
      go_roundw
      case rel => exact ⟨k + 1, _, by omega, by go_num, HL.out _, HG.out _, HV.out _ HW.out, (hb.setCell (by simp) _).drew⟩
      case measure => simp [intOf]; omega
    · have h16 : k = 16 := by omega
      go_wp2_with fail
      go_loopw [5] (fun i wr => ∃ (k : Nat) (L : List Value), 16 ≤ k ∧ k ≤ 64 ∧ i = .int .i64 k ∧ L.length = 64 ∧ wr.heap[w.heap.size + 1]? = some (.cells L.toArray 158 (0, 0)) ∧ (∀ j, j < k → L[j]? = some (.int .u32 (uI (wAt (wordAt t 0) j)))) ∧ Below (w.heap.size + 1) (w.alloc z64) wr)
        (fun i _ => 64 - (intOf i).toNat)
      case atStart => exact ⟨16, L, by omega, by omega, rfl, hL, hg, fun j hj => hv j (by omega), hb⟩
      case round =>
        clear hg hv hb hL L hlt hk h16
        obtain ⟨k, L, hk0, hk, rfl, hL, hg, hv, hb⟩ := hrel
        by_cases hlt : k < 64
        · have hc := rowFacts hg k L[k] (List.getElem?_eq_getElem (by omega))
          have hz := frozen_of_row wr _ k _ _ hg
          have h16 := rowFacts hg (k - 16) _ (hv (k - 16) (by omega))
          have h15 := rowFacts hg (k - 15) _ (hv (k - 15) (by omega))
          have h7 := rowFacts hg (k - 7) _ (hv (k - 7) (by omega))
          have h2 := rowFacts hg (k - 2) _ (hv (k - 2) (by omega))
          have HV : Hid (∀ x, x = uI (wAt (wordAt t 0) k) → ∀ j, j < k + 1 → (L.set k (.int .u32 x))[j]? = some (.int .u32 (uI (wAt (wordAt t 0) j)))) := fun x hx => by
            subst hx
            exact words_set (by omega) hv
          have HG : Hid (∀ x, (wr.setCell ⟨w.heap.size + 1, k, none⟩ x).heap[w.heap.size + 1]? = some (.cells (L.set k x).toArray 158 (0, 0))) := fun x => rowSet x hg
          have HL : Hid (∀ x, (L.set k x).length = 64) := fun x => by simpa using hL
          generalize L[k] = v0 at hc
          clear hv hg hL
          go_wp2_with fail
          go_quiet (fail)
          go_wp2_with fail
          have fx := uI_xor
          have f3 := uI_shr3
          have f10 := uI_shr10
          iterate 4
            refine (implTurnI _ _ _ (by decide) (by decide)).mono ?_
            rintro e w' ⟨rfl, rfl⟩
            go_wp2_with fail
          have fp := uI_add'
          go_region
          clear hc hz h16 h15 h7 h2 fx f3 f10 fp
          go_wp2
          go_roundw
          case rel =>
            refine ⟨k + 1, _, by omega, by omega, by go_num, HL.out _, HG.out _, HV.out _ ?_, (below_drewN hb _).setCell (Nat.le_refl _) _⟩
            rw [wAt_high _ hk0]
            rfl
          case measure => simp [intOf]; omega
        · obtain rfl : k = 64 := by omega
          have hR : wr.heap[w.heap.size]? = some z64 := by
            rw [hb.block w.heap.size (by omega)]
            exact heap_alloc_new w _
          have hrg := rangeRow hg
          have hone : L.toArray.all (·.oneCell') = true := all_oneCell_toArray (fun v hv' => by
            obtain ⟨j, hj, rfl⟩ := List.getElem_of_mem hv'
            have := hv j (by omega)
            rw [List.getElem?_eq_getElem hj] at this
            rw [Option.some.inj this]; rfl)
          have hth : wr.there w.heap.size 0 L.length := by rw [hL]; exact thereRow hR
          have hrg2 := World.rangeAt_setCells_same _ _ _ _ hth
          have HE : Hid (L = (List.range 64).map fun i => Value.int .u32 (uI (wAt (wordAt t 0) i))) := words_eq hL hv
          have HB : Hid (Below w.heap.size w (wr.setCells w.heap.size 0 L)) := below_setCells (Nat.le_refl _) _ _ _ (((Below.refl _ w).alloc (Nat.le_refl _) _).trans (hb.mono (by omega)))
          have hsz : (Tryz.prog.info? 158).map (·.size) = some L.length := by rw [hL]; exact size64
          clear hR hL hg hv hb
          go_wp2_with (first | (refine wpList_load_mid rfl 158 _ rfl (w.heap.size + 1) 0 rfl L _ hrg Tryz.underlying158 rfl hsz ?_) | (refine wpList_store_mid rfl 158 _ _ rfl w.heap.size 0 L.toArray rfl rfl (by simpa using hth) (by simpa using hsz) hone ?_))
          refine bodyPost_ret (v := .agg L.toArray) ?_ rfl ⟨by rw [← HE.out], HB.out⟩
          have hl3 := run_loadVar_mid (P := Tryz.prog) _ w.heap.size 0 158 L _ hrg2 Tryz.underlying158 rfl hsz
          simp [results, Tryz.results125, asAddr, hl3, Act.put]
end Go.Proofs.YtdehbaafbbjcgaaGreatDoor
namespace Go.Proofs.YtdehbaafbbjcgaaGreatDoor
open Go.RowKit

theorem splice_cons {α : Type} (cs r : List α) (v : α) (o : Nat) (h : o < cs.length) : splice (cs.set o v) (o + 1) r = splice cs o (v :: r) := by
  unfold splice
  rw [List.take_succ_eq_append_getElem (by simpa using h)]
  simp only [List.getElem_set_self, List.take_set_of_le (Nat.le_refl o), List.append_assoc, List.length_cons, List.cons_append, List.nil_append]
  rw [List.drop_set_of_lt (by omega), show o + 1 + r.length = o + (r.length + 1) by omega]
/-- A row behind many stores. -/
theorem rowSetCells {g : Nat} {t : TypeId} : ∀ (vs cs : List Value) (o : Nat) (w : World), w.heap[g]? = some (.cells cs.toArray t (0, 0)) → o + vs.length ≤ cs.length → (w.setCells g o vs).heap[g]? = some (.cells (splice cs o vs).toArray t (0, 0))
  | [], cs, o, w, hg, _ => by simpa [World.setCells, splice] using hg
  | v :: r, cs, o, w, hg, hl => by
    rw [World.setCells, ← splice_cons cs r v o (by simp at hl; omega)]
    exact rowSetCells r (cs.set o v) (o + 1) _ (rowSet v hg) (by simp at hl ⊢; omega)
theorem otherSetCells (g : Nat) : ∀ (vs : List Value) (o : Nat) (w : World) (k : Nat), k ≠ g → (w.setCells g o vs).heap[k]? = w.heap[k]?
  | [], _, _, _, _ => rfl
  | v :: r, o, w, k, hk => by rw [World.setCells, otherSetCells g r (o + 1) _ k hk, heap_setCell_other w _ k v hk]
theorem sizeSetCells (g : Nat) : ∀ (vs : List Value) (o : Nat) (w : World), (w.setCells g o vs).heap.size = w.heap.size
  | [], _, _ => rfl
  | v :: r, o, w => by rw [World.setCells, sizeSetCells g r (o + 1) _]; simp
/-- A whole variable of many cells, stored. -/
theorem wpList_store_row {P : Program} {ops : Array Oper} {rest : List Oper} {op : Oper} {a : Act} {w : World} {Q : Exit → Act → World → Prop} (hgd : op.guard = none) (ty : TypeId) (x y : Operand) (ho : op.op = .store ty x y)
    (g : Nat) (cs vs : List Value) (t : TypeId) (hx : a.eval x = .pointer (some ⟨g, 0, none⟩)) (hy : a.eval y = .agg vs.toArray) (hg : w.heap[g]? = some (.cells cs.toArray t (0, 0))) (hl : cs.length = vs.length)
    (hi : (P.info? ty).map (·.size) = some vs.length) (h1 : ∀ v ∈ vs, v.oneCell' = true)
    (h : ∀ w', w'.heap[g]? = some (.cells vs.toArray t (0, 0)) → (∀ k, k ≠ g → w'.heap[k]? = w.heap[k]?) → w'.heap.size = w.heap.size → (∀ B w0, B ≤ g → Below B w0 w → Below B w0 w') → wpList P ops Q rest (a.put op.dst undef) w') : wpList P ops Q (op :: rest) a w := by
  refine wpList_store_mid hgd ty x y ho g 0 vs.toArray hx hy (by have := thereRow hg; rw [hl] at this; simpa using this) (by simpa using hi) (all_oneCell_toArray h1) ?_
  refine h _ ?_ (fun k hk => otherSetCells g _ _ _ _ hk) (sizeSetCells g _ _ _) (fun B w0 hB hb => below_setCells hB _ _ _ hb)
  have := rowSetCells vs cs 0 w hg (by omega)
  rwa [splice_one cs vs hl] at this
/-- The same, inside a drawn region. -/
theorem wp_store_row {P : Program} {op : Oper} {a : Act} {w : World} {K : Act → World → Prop} {Q : Exit → Act → World → Prop} (ty : TypeId) (x y : Operand) (ho : op.op = .store ty x y)
    (g : Nat) (cs vs : List Value) (t : TypeId) (hx : a.eval x = .pointer (some ⟨g, 0, none⟩)) (hy : a.eval y = .agg vs.toArray) (hg : w.heap[g]? = some (.cells cs.toArray t (0, 0))) (hl : cs.length = vs.length)
    (hi : (P.info? ty).map (·.size) = some vs.length) (h1 : ∀ v ∈ vs, v.oneCell' = true)
    (h : ∀ w', w'.heap[g]? = some (.cells vs.toArray t (0, 0)) → (∀ k, k ≠ g → w'.heap[k]? = w.heap[k]?) → w'.heap.size = w.heap.size → (∀ B w0, B ≤ g → Below B w0 w → Below B w0 w') → K (a.put op.dst undef) w') : op.wp P a w K Q := by
  refine wp_store_mid ty x y ho g 0 vs.toArray hx hy (by have := thereRow hg; rw [hl] at this; simpa using this) (by simpa using hi) (all_oneCell_toArray h1) ?_
  refine h _ ?_ (fun k hk => otherSetCells g _ _ _ _ hk) (sizeSetCells g _ _ _) (fun B w0 hB hb => below_setCells hB _ _ _ hb)
  have := rowSetCells vs cs 0 w hg (by omega)
  rwa [splice_one cs vs hl] at this
end Go.Proofs.YtdehbaafbbjcgaaGreatDoor
