/- The words of a block, walked: impl.blockWords. -/
import Derived.Test.YthhmobjphloahagDoorShaB
import Derived.Deep.MidRow
namespace Go.Proofs.YthhmobjphloahagDoor
open Go.RowKit

theorem words_set {L : List Value} {W : Nat → U} {k : Nat} (hL : k < L.length) (h : ∀ j, j < k → L[j]? = some (.int .u32 (uI (W j)))) :
    ∀ j, j < k + 1 → (L.set k (.int .u32 (uI (W k))))[j]? = some (.int .u32 (uI (W j))) := by
  intro j hj
  by_cases e : j = k
  · subst e; simp [hL]
  · rw [List.getElem?_set_ne (by omega), h j (by omega)]

theorem size64 : (Tryd.prog.info? 72).map (·.size) = some 64 := by kernel_rfl
theorem words_eq {L : List Value} {W : Nat → U} (hL : L.length = 64) (h : ∀ j, j < 64 → L[j]? = some (.int .u32 (uI (W j)))) : L = (List.range 64).map fun i => Value.int .u32 (uI (W i)) := by
  apply List.ext_getElem?
  intro j
  by_cases hj : j < 64
  · rw [h j hj]; simp [hj]
  · rw [List.getElem?_eq_none (by omega), List.getElem?_eq_none (by simp; omega)]
/-- A row of 64 words that a variable begins with. -/
abbrev z64 : Obj := .cells (List.replicate 64 (Value.int .u32 0)).toArray 72 (0, 0)
set_option maxHeartbeats 1000000 in
set_option maxRecDepth 100000 in
theorem blockWords (t : ByteArray) (w : World) (ht : t.size = 64) :
    Calls Tryd.prog 58 #[.string t] w
      fun e w' => e = .returned (.agg ((List.range 64).map fun i => Value.int .u32 (uI (wAt (wordAt t 0) i))).toArray) ∧ Below w.heap.size w w' := by
  go_enter Tryd.func58, Tryd.ntmps58
  go_wp2_with fail
  go_loopw [10] (fun i wr => ∃ (k : Nat) (L : List Value), k ≤ 16 ∧ i = .int .i64 k ∧ L.length = 64 ∧ wr.heap[w.heap.size + 1]? = some (.cells L.toArray 72 (0, 0)) ∧ (∀ j, j < k → L[j]? = some (.int .u32 (uI (wAt (wordAt t 0) j)))) ∧ Below (w.heap.size + 1) (w.alloc z64) wr)
    (fun i _ => 16 - (intOf i).toNat)
  case atStart =>
    refine ⟨0, _, Nat.zero_le _, rfl, ?_, heap_alloc2 w _ _, fun j hj => by omega, (Below.refl _ (w.alloc z64)).alloc (by simp) _⟩
    rfl
  case round =>
    obtain ⟨k, L, hk, rfl, hL, hg, hv, hb⟩ := hrel
    by_cases hlt : k < 16
    · have hc := rowFacts hg k L[k] (List.getElem?_eq_getElem (by omega))
      have hz := frozen_of_row wr _ k _ _ hg
      have HV : Hid (∀ x, x = uI (wAt (wordAt t 0) k) → ∀ j, j < k + 1 → (L.set k (.int .u32 x))[j]? = some (.int .u32 (uI (wAt (wordAt t 0) j)))) := fun x hx => by
        subst hx
        exact words_set (by omega) hv
      have HG : Hid (∀ x, (wr.setCell ⟨w.heap.size + 1, k, none⟩ x).heap[w.heap.size + 1]? = some (.cells (L.set k x).toArray 72 (0, 0))) := fun x => rowSet x hg
      have HL : Hid (∀ x, (L.set k x).length = 64) := fun x => by simpa using hL
      have HW : Hid (bits BinOp.or IntKind.u32 (bits BinOp.or IntKind.u32 (bits BinOp.or IntKind.u32 (uI (bU (byteAt t (4 * k))) * 16777216 % 4294967296) (uI (bU (byteAt t (4 * k + 1))) * 65536 % 4294967296)) (uI (bU (byteAt t (4 * k + 2))) * 256 % 4294967296)) (uI (bU (byteAt t (4 * k + 3)))) = uI (wAt (wordAt t 0) k)) := by
        show _ = _
        rw [uI_shl24, uI_shl16, uI_shl8, uI_or, uI_or, uI_or, wAt_low _ hlt]
        unfold wordAt
        rw [Nat.zero_add]
      generalize L[k] = v0 at hc
      clear hv hg hL
      go_wp2_with fail
      have i0 := idxB t (4 * k) (by omega) (4 * (k : Int)) (by omega)
      have i1 := idxB t (4 * k + 1) (by omega) (4 * (k : Int) + 1) (by omega)
      have i2 := idxB t (4 * k + 2) (by omega) (4 * (k : Int) + 2) (by omega)
      have i3 := idxB t (4 * k + 3) (by omega) (4 * (k : Int) + 3) (by omega)
      have fw := uI_wrap
      go_region
      clear i0 i1 i2 i3 fw hc hz
      go_wp2
      go_roundw
      case rel => exact ⟨k + 1, _, by omega, by go_num, HL.out _, HG.out _, HV.out _ HW.out, (hb.setCell (by simp) _).drew⟩
      case measure => simp [intOf]; omega
    · have h16 : k = 16 := by omega
      go_wp2_with fail
      go_loopw [5] (fun i wr => ∃ (k : Nat) (L : List Value), 16 ≤ k ∧ k ≤ 64 ∧ i = .int .i64 k ∧ L.length = 64 ∧ wr.heap[w.heap.size + 1]? = some (.cells L.toArray 72 (0, 0)) ∧ (∀ j, j < k → L[j]? = some (.int .u32 (uI (wAt (wordAt t 0) j)))) ∧ Below (w.heap.size + 1) (w.alloc z64) wr)
        (fun i _ => 64 - (intOf i).toNat)
      case atStart => exact ⟨16, L, by omega, by omega, rfl, hL, hg, fun j hj => hv j (by omega), hb⟩
      case round =>
        clear hg hv hb hL L hlt hk h16
        obtain ⟨k, L, hk0, hk, rfl, hL, hg, hv, hb⟩ := hrel
        by_cases hlt : k < 64
        · have hc := rowFacts hg k L[k] (List.getElem?_eq_getElem (by omega))
          have hz := frozen_of_row wr _ k _ _ hg
          have h16 := rowFacts hg (k - 16) _ (hv (k - 16) (by omega))
          have h15 := rowFacts hg (k - 15) _ (hv (k - 15) (by omega))
          have h7 := rowFacts hg (k - 7) _ (hv (k - 7) (by omega))
          have h2 := rowFacts hg (k - 2) _ (hv (k - 2) (by omega))
          have HV : Hid (∀ x, x = uI (wAt (wordAt t 0) k) → ∀ j, j < k + 1 → (L.set k (.int .u32 x))[j]? = some (.int .u32 (uI (wAt (wordAt t 0) j)))) := fun x hx => by
            subst hx
            exact words_set (by omega) hv
          have HG : Hid (∀ x, (wr.setCell ⟨w.heap.size + 1, k, none⟩ x).heap[w.heap.size + 1]? = some (.cells (L.set k x).toArray 72 (0, 0))) := fun x => rowSet x hg
          have HL : Hid (∀ x, (L.set k x).length = 64) := fun x => by simpa using hL
          generalize L[k] = v0 at hc
          clear hv hg hL
          go_wp2_with fail
          go_quiet (fail)
          go_wp2_with fail
          have fx := uI_xor
          have f3 := uI_shr3
          have f10 := uI_shr10
          iterate 4
            refine (implTurnI _ _ _ (by decide) (by decide)).mono ?_
            rintro e w' ⟨rfl, rfl⟩
            go_wp2_with fail
          have fp := uI_add'
          go_region
          clear hc hz h16 h15 h7 h2 fx f3 f10 fp
          go_wp2
          go_roundw
          case rel =>
            refine ⟨k + 1, _, by omega, by omega, by go_num, HL.out _, HG.out _, HV.out _ ?_, (below_drewN hb _).setCell (Nat.le_refl _) _⟩
            rw [wAt_high _ hk0]
            rfl
          case measure => simp [intOf]; omega
        · obtain rfl : k = 64 := by omega
          have hR : wr.heap[w.heap.size]? = some z64 := by
            rw [hb.block w.heap.size (by omega)]
            exact heap_alloc_new w _
          have hrg := rangeRow hg
          have hone : L.toArray.all (·.oneCell') = true := all_oneCell_toArray (fun v hv' => by
            obtain ⟨j, hj, rfl⟩ := List.getElem_of_mem hv'
            have := hv j (by omega)
            rw [List.getElem?_eq_getElem hj] at this
            rw [Option.some.inj this]; rfl)
          have hth : wr.there w.heap.size 0 L.length := by rw [hL]; exact thereRow hR
          have hrg2 := World.rangeAt_setCells_same _ _ _ _ hth
          have HE : Hid (L = (List.range 64).map fun i => Value.int .u32 (uI (wAt (wordAt t 0) i))) := words_eq hL hv
          have HB : Hid (Below w.heap.size w (wr.setCells w.heap.size 0 L)) := below_setCells (Nat.le_refl _) _ _ _ (((Below.refl _ w).alloc (Nat.le_refl _) _).trans (hb.mono (by omega)))
          have hsz : (Tryd.prog.info? 72).map (·.size) = some L.length := by rw [hL]; exact size64
          clear hR hL hg hv hb
          go_wp2_with (first | (refine wpList_load_mid rfl 72 _ rfl (w.heap.size + 1) 0 rfl L _ hrg Tryd.underlying72 rfl hsz ?_) | (refine wpList_store_mid rfl 72 _ _ rfl w.heap.size 0 L.toArray rfl rfl (by simpa using hth) (by simpa using hsz) hone ?_))
          refine bodyPost_ret (v := .agg L.toArray) ?_ rfl ⟨by rw [← HE.out], HB.out⟩
          have hl3 := run_loadVar_mid (P := Tryd.prog) _ w.heap.size 0 72 L _ hrg2 Tryd.underlying72 rfl hsz
          simp [results, Tryd.results58, asAddr, hl3, Act.put]
end Go.Proofs.YthhmobjphloahagDoor
