/- impl.HashEnd, walked. -/
import Derived.Test.YtbkkjgpaccfplaaDoorShaJ
import Derived.Test.YtbkkjgpaccfplaaDoorHashBI
import Derived.Test.YtbkkjgpaccfplaaDoorHashEr
namespace Go.Proofs.YtbkkjgpaccfplaaDoor
open Go.RowKit

theorem sizeWork10 : (Tryd.prog.info? 67).map (·.size) = some 10 := by kernel_rfl
theorem work_eq {zs : List Int} {r : ByteArray} {z : Int} {M : List Value} (hz : ∀ i, i < 8 → 0 ≤ zs.getD i 0 ∧ zs.getD i 0 ≤ 4294967295) (hl : M.length = 10) (h : ∀ j, j < 8 → M[j]? = some (.int .u32 (zs.getD j 0))) (h8 : M[8]? = some (.string r)) (h9 : M[9]? = some (.int .i64 z)) : M = workCells (stOf zs) r z := by
  apply List.ext_getElem?
  intro j
  unfold workCells
  by_cases hj : j < 8
  · rw [h j hj, List.getElem?_append_left (show j < (uCells (stOf zs)).length from hj), row_at _ j hj, stOf_at zs j hj, uI_uOf (hz j hj).1 (hz j hj).2]
  · rcases (by omega : j = 8 ∨ j = 9 ∨ 10 ≤ j) with rfl | rfl | h10
    · rw [h8]; rfl
    · rw [h9]; rfl
    · rw [List.getElem?_eq_none (by omega), List.getElem?_eq_none (show 10 ≤ j by omega)]
theorem workCells_one (s : St) (r : ByteArray) (z : Int) : ∀ v ∈ workCells s r z, v.oneCell' = true := fun v hv => by
  unfold workCells at hv
  rcases List.mem_append.1 hv with h | h
  · exact uCells_all s v h
  · simp at h
    rcases h with rfl | rfl <;> rfl
set_option maxHeartbeats 1000000 in
set_option maxRecDepth 100000 in
theorem workOf (g : Nat) (zs : List Int) (c : Nat) (r : ByteArray) (z : Int) (w : World) (h8 : zs.length = 8) (hz : ∀ i, i < 8 → 0 ≤ zs.getD i 0 ∧ zs.getD i 0 ≤ 4294967295) (ha : IsInts w (some ⟨g, 0, none⟩) zs) :
    Calls Tryd.prog 43 #[hashV (some ⟨g, 0, none⟩) 8 c r z] w fun e w' => e = .returned (.agg (workCells (stOf zs) r z).toArray) ∧ Below w.heap.size w w' := by
  have hA : ∀ o, Below w.heap.size w (w.alloc o) := fun o => (Below.refl _ w).alloc (Nat.le_refl _) o
  go_enter Tryd.func43, Tryd.ntmps43
  have HC : Hid (∀ i, i < 8 → w.cell? ⟨g, i, none⟩ = some (.int .i64 (zs.getD i 0))) := by
    rcases ha with rfl | ⟨b, o, hb, hc⟩
    · simp at h8
    · simp only [Option.some.injEq, Addr.mk.injEq, and_true] at hb
      obtain ⟨rfl, rfl⟩ := hb
      intro i hi
      have := hc i (by omega)
      rwa [Nat.zero_add] at this
  have hgl : g < w.heap.size := World.block_lt_of_cell? w _ (HC.out 0 (by omega))
  have HZ : Hid (∀ i, i < 8 → 0 ≤ zs.getD i 0 ∧ zs.getD i 0 ≤ 4294967295) := hz
  clear ha hz h8
  go_wp2_with fail
  generalize hW2 : (w.alloc (.cells #[.slice (some ⟨g, 0, none⟩) 8 c, .string r, .int .i64 z] 36 (0, 0))).alloc (.cells #[.int .u32 0, .int .u32 0, .int .u32 0, .int .u32 0, .int .u32 0, .int .u32 0, .int .u32 0, .int .u32 0, .string ⟨#[]⟩, .int .i64 0] 67 (0, 0)) = W2
  have hs2 : W2.heap.size = w.heap.size + 2 := by rw [← hW2]; simp
  have hb2 : Below w.heap.size w W2 := by rw [← hW2]; exact (hA _).alloc (by simp) _
  have hR2 : W2.heap[w.heap.size + 1]? = some (.cells [Value.int .u32 0, .int .u32 0, .int .u32 0, .int .u32 0, .int .u32 0, .int .u32 0, .int .u32 0, .int .u32 0, .string ⟨#[]⟩, .int .i64 0].toArray 67 (0, 0)) := by rw [← hW2]; exact heap_alloc2 w _ _
  have HB2 : Hid (Below w.heap.size w W2) := hb2
  have HR2 : Hid _ := hR2
  have HS2 : Hid (W2.heap.size = w.heap.size + 2) := hs2
  clear hW2 hb2 hR2 hs2 hA
  go_loopw [14] (fun i wr => ∃ (k : Nat) (M : List Value), k ≤ 8 ∧ i = .int .i64 k ∧ M.length = 10 ∧ wr.heap[w.heap.size + 1 + 1]? = some (.cells M.toArray 67 (0, 0)) ∧ (∀ j, j < k → M[j]? = some (.int .u32 (zs.getD j 0))) ∧ M[8]? = some (.string r) ∧ M[9]? = some (.int .i64 z) ∧ Below (w.heap.size + 2) W2 wr)
    (fun i _ => 8 - (intOf i).toNat)
  case atStart =>
    have h2 := HS2.out
    refine ⟨0, [Value.int .u32 0, .int .u32 0, .int .u32 0, .int .u32 0, .int .u32 0, .int .u32 0, .int .u32 0, .int .u32 0, .string r, .int .i64 z], Nat.zero_le _, rfl, rfl, ?_, fun j hj => by omega, rfl, rfl, (Below.refl _ W2).alloc (by omega) _⟩
    have h := heap_alloc_new W2 (.cells #[.int .u32 0, .int .u32 0, .int .u32 0, .int .u32 0, .int .u32 0, .int .u32 0, .int .u32 0, .int .u32 0, .string r, .int .i64 z] 67 (0, 0))
    rw [h2] at h
    exact h
  case round =>
    obtain ⟨k, M, hk, rfl, hM, hgr, hv, h8', h9', hb⟩ := hrel
    by_cases hlt : k < 8
    · have hck : wr.cell? ⟨g, k, none⟩ = some (.int .i64 (zs.getD k 0)) := by
        rw [hb.cell (p := ⟨g, k, none⟩) (show g < w.heap.size + 2 by omega), HB2.out.cell (p := ⟨g, k, none⟩) hgl]
        exact HC.out k hlt
      have hd := rowFacts hgr k M[k] (List.getElem?_eq_getElem (by omega))
      have hzf := frozen_of_row wr _ k _ _ hgr
      obtain ⟨f1, f2⟩ := HZ.out k hlt
      have fw : IntKind.u32.wrap (zs.getD k 0) = zs.getD k 0 := by rw [IntKind.wrap_u32]; omega
      have HG : Hid (∀ v, (wr.setCell ⟨w.heap.size + 1 + 1, k, none⟩ v).heap[w.heap.size + 1 + 1]? = some (.cells (M.set k v).toArray 67 (0, 0))) := fun v => rowSet v hgr
      have HV : Hid (∀ j, j < k + 1 → (M.set k (.int .u32 (zs.getD k 0)))[j]? = some (.int .u32 (zs.getD j 0))) := fun j hj => by
        by_cases e : j = k
        · subst e; rw [List.getElem?_set_self (by omega)]
        · rw [List.getElem?_set_ne (by omega), hv j (by omega)]
      have HL : Hid (∀ v, (M.set k v).length = 10 ∧ (M.set k v)[8]? = some (.string r) ∧ (M.set k v)[9]? = some (.int .i64 z)) := fun v => ⟨by simpa using hM, by rw [List.getElem?_set_ne (by omega)]; exact h8', by rw [List.getElem?_set_ne (by omega)]; exact h9'⟩
      have HB : Hid (∀ v, Below (w.heap.size + 2) W2 (wr.setCell ⟨w.heap.size + 1 + 1, k, none⟩ v)) := fun v => hb.setCell (by simp) v
      generalize M[k] = v0 at hd
      generalize zs.getD k 0 = y at hck HV f1 f2 fw
      clear hv hgr hb hM h8' h9'
      go_wp2
      go_roundw
      case rel => exact ⟨k + 1, _, by omega, by go_num, (HL.out _).1, HG.out _, HV.out, (HL.out _).2.1, (HL.out _).2.2, HB.out _⟩
      case measure => simp [intOf]; omega
    · have hME : M = workCells (stOf zs) r z := work_eq HZ.out hM (fun j hj => hv j (by omega)) h8' h9'
      subst hME
      have hr := rangeRow hgr
      have hR : wr.heap[w.heap.size + 1]? = some (.cells [Value.int .u32 0, .int .u32 0, .int .u32 0, .int .u32 0, .int .u32 0, .int .u32 0, .int .u32 0, .int .u32 0, .string ⟨#[]⟩, .int .i64 0].toArray 67 (0, 0)) := by rw [hb.block _ (by omega)]; exact HR2.out
      have HBW : Hid (Below w.heap.size w wr) := HB2.out.trans (hb.mono (by omega))
      have h1 := workCells_one (stOf zs) r z
      have hi : (Tryd.prog.info? 67).map (·.size) = some (workCells (stOf zs) r z).length := sizeWork10
      have HLN : Hid ((10 : Nat) = (workCells (stOf zs) r z).length) := rfl
      generalize hC : workCells (stOf zs) r z = C at hr h1 hi HLN
      have HCC : Hid (workCells (stOf zs) r z = C) := hC
      clear hC
      clear hgr hv hb hM h8' h9' HZ HC
      go_wp2_with (first | (refine wpList_load_mid rfl 67 _ rfl (w.heap.size + 1 + 1) 0 rfl C _ hr Tryd.underlying67 rfl hi ?_) | (refine wpList_store_row rfl 67 _ _ rfl (w.heap.size + 1) _ C 67 rfl rfl hR HLN.out hi h1 ?_))
      intro w' hrow ho hs hbb
      have HROW : Hid _ := hrow
      have HBB : Hid (Below w.heap.size w w') := hbb _ _ (by omega) HBW.out
      clear ho hs hbb hrow hr hR
      go_wp2
      refine bodyPost_ret (v := .agg C.toArray) ?_ rfl ⟨by rw [HCC.out], HBB.out⟩
      have hl3 := run_loadVar_mid (P := Tryd.prog) _ (w.heap.size + 1) 0 67 _ _ (rangeRow HROW.out) Tryd.underlying67 rfl hi
      simp [results, Tryd.results43, asAddr, hl3]
set_option maxHeartbeats 1000000 in
set_option maxRecDepth 100000 in
theorem implHashEnd (g : Nat) (zs : List Int) (c : Nat) (r : ByteArray) (z : Int) (w : World) (hl : zs.length ≤ 1048576) (hr : r.size ≤ 1048576) (z0 : -9223372036854775808 ≤ z) (z1 : z ≤ 9223372036854775807) (ha : IsInts w (some ⟨g, 0, none⟩) zs) (hk : Keys w) :
    Calls Tryd.prog 20 #[hashV (some ⟨g, 0, none⟩) zs.length c r z] w fun e w' => e = .returned (.string (endOf zs r z)) ∧ Below w.heap.size w w' := by
  have hA : ∀ o, Below w.heap.size w (w.alloc o) := fun o => (Below.refl _ w).alloc (Nat.le_refl _) o
  have hkp := hk.pos
  have HK : Hid (Keys w) := hk
  clear hk
  go_enter Tryd.func20, Tryd.ntmps20
  go_wp2_with fail
  generalize hw1 : w.alloc _ = w1
  have hb1 : Below w.heap.size w w1 := by rw [← hw1]; exact hA _
  have hs1 : w1.heap.size = w.heap.size + 1 := by rw [← hw1]; simp
  have p0 : w1.cell? ⟨w.heap.size, 0, none⟩ = some (.slice (some ⟨g, 0, none⟩) zs.length c) := by rw [← hw1]; simp
  have p1 : w1.cell? ⟨w.heap.size, 1, none⟩ = some (.string r) := by rw [← hw1]; simp
  have p2 : w1.cell? ⟨w.heap.size, 2, none⟩ = some (.int .i64 z) := by rw [← hw1]; simp
  have ha1 := ha.below hb1 ha.lt
  refine (implRight (some ⟨g, 0, none⟩) zs c r z w1 hl hr z0 z1 ha1).mono ?_
  rintro e w2 ⟨rfl, hb2⟩
  have ha2 := ha1.below hb2 ha1.lt
  rw [← hb2.cell (p := ⟨w.heap.size, 0, none⟩) (show w.heap.size < w1.heap.size by omega)] at p0
  rw [← hb2.cell (p := ⟨w.heap.size, 1, none⟩) (show w.heap.size < w1.heap.size by omega)] at p1
  rw [← hb2.cell (p := ⟨w.heap.size, 2, none⟩) (show w.heap.size < w1.heap.size by omega)] at p2
  have HB2 : Hid (Below w.heap.size w w2) := hb1.trans (hb2.mono (by omega))
  have HI : Hid (IsInts w2 (some ⟨g, 0, none⟩) zs) := ha2
  clear hb1 hb2 ha ha1 ha2 hw1 hA hs1
  cases hR : rightB zs r.size z with
  | false =>
    have HE : Hid (endOf zs r z = ByteArray.empty) := by show _ = _; simp [endOf, hR]
    clear hR
    go_wp2
    go_ret
    exact ⟨by rw [HE.out]; rfl, HB2.out⟩
  | true =>
    have HE : Hid (endOf zs r z = strOfNums (digL (endSt (stOf zs) r z.toNat))) := by show _ = _; simp [endOf, hR]
    obtain ⟨h8, hz0, hz1, hrs, hall⟩ := (right_iff zs r.size z).1 hR
    obtain ⟨zn, rfl⟩ := Int.eq_ofNat_of_zero_le hz0
    have hz' : zn ≤ 1900000000000 := by omega
    have HE2 : Hid (endOf zs r (zn : Int) = strOfNums (digL (endSt (stOf zs) r zn))) := HE.out
    have HALL : Hid (∀ i, i < 8 → 0 ≤ zs.getD i 0 ∧ zs.getD i 0 ≤ 4294967295) := hall
    have H8 : Hid (zs.length = 8) := h8
    rw [h8] at p0
    clear hR hall HE h8
    go_wp2_with fail
    refine (workOf g zs c r zn w2 H8.out HALL.out HI.out).mono ?_
    rintro e w3 ⟨rfl, hb3⟩
    have HB3 : Hid (Below w.heap.size w w3) := HB2.out.trans (hb3.mono HB2.out.size)
    have hs3 : w.heap.size ≤ w3.heap.size := HB3.out.size
    have e10 : (workCells (stOf zs) r (zn : Int)).toArray = #[.int .u32 (uI (stOf zs).a), .int .u32 (uI (stOf zs).b), .int .u32 (uI (stOf zs).c), .int .u32 (uI (stOf zs).d), .int .u32 (uI (stOf zs).e), .int .u32 (uI (stOf zs).f), .int .u32 (uI (stOf zs).g), .int .u32 (uI (stOf zs).h), .string r, .int .i64 (zn : Int)] := rfl
    rw [e10]
    clear hb3 p0 p1 p2 e10
    go_wp2_with fail
    generalize hw4 : w3.alloc _ = w4
    have hg4 : w4.heap[w3.heap.size]? = some (.cells (workCells (stOf zs) r (zn : Int)).toArray 67 (0, 0)) := by rw [← hw4]; exact heap_alloc_new w3 _
    have hb4 : Below w.heap.size w w4 := by rw [← hw4]; exact HB3.out.alloc hs3 _
    refine (endW (stOf zs) r zn w4 w w3.heap.size w.heap.size 67 (by omega) hz' hg4 hb4 hs3 HK.out hkp).mono ?_
    rintro e w5 ⟨rfl, hb5⟩
    have HB5 : Hid (Below w.heap.size w w5) := hb5
    clear hb5 hg4 hb4 hw4
    go_wp2
    go_ret
    exact ⟨by rw [HE2.out]; rfl, HB5.out⟩
end Go.Proofs.YtbkkjgpaccfplaaDoor
