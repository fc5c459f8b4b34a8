/- The digest of a state, walked: (*hashState).digest; (*hashWork).end. -/
import Derived.Test.YthhmobjphloahagDoorShaG
namespace Go.Proofs.YthhmobjphloahagDoor
open Go.RowKit

theorem digL_at (s : St) (k : Nat) (h : k < 8) : (digL s).getD (4 * k) 0 = uI (s.row.getD k 0) / 16777216 ∧ (digL s).getD (4 * k + 1) 0 = uI (s.row.getD k 0) / 65536 % 256 ∧ (digL s).getD (4 * k + 2) 0 = uI (s.row.getD k 0) / 256 % 256 ∧ (digL s).getD (4 * k + 3) 0 = uI (s.row.getD k 0) % 256 := by
  rcases (by omega : k = 0 ∨ k = 1 ∨ k = 2 ∨ k = 3 ∨ k = 4 ∨ k = 5 ∨ k = 6 ∨ k = 7) with rfl | rfl | rfl | rfl | rfl | rfl | rfl | rfl <;> exact ⟨rfl, rfl, rfl, rfl⟩
theorem digL_len (s : St) : (digL s).length = 32 := rfl
theorem step4 {M : List Value} {D : List Int} {k : Nat} {a b c d : Int} (hM : M.length = 32) (hk : k < 8) (h : ∀ t, t < 4 * k → M[t]? = some (.int .u8 (D.getD t 0)))
    (ha : D.getD (4 * k) 0 = a) (hb : D.getD (4 * k + 1) 0 = b) (hc : D.getD (4 * k + 2) 0 = c) (hd : D.getD (4 * k + 3) 0 = d) :
    ∀ t, t < 4 * (k + 1) → ((((M.set (4 * k) (.int .u8 a)).set (4 * k + 1) (.int .u8 b)).set (4 * k + 2) (.int .u8 c)).set (4 * k + 3) (.int .u8 d))[t]? = some (.int .u8 (D.getD t 0)) := by
  intro t ht
  by_cases e3 : t = 4 * k + 3
  · subst e3; rw [List.getElem?_set_self (by simp; omega), hd]
  · rw [List.getElem?_set_ne (by omega)]
    by_cases e2 : t = 4 * k + 2
    · subst e2; rw [List.getElem?_set_self (by simp; omega), hc]
    · rw [List.getElem?_set_ne (by omega)]
      by_cases e1 : t = 4 * k + 1
      · subst e1; rw [List.getElem?_set_self (by simp; omega), hb]
      · rw [List.getElem?_set_ne (by omega)]
        by_cases e0 : t = 4 * k
        · subst e0; rw [List.getElem?_set_self (by omega), ha]
        · rw [List.getElem?_set_ne (by omega), h t (by omega)]

set_option maxHeartbeats 1000000 in
set_option maxRecDepth 100000 in
theorem digestW (s : St) (w : World) (g : Nat) (ty : TypeId) (tail : List Value) (hg : w.heap[g]? = some (.cells (uCells s ++ tail).toArray ty (0, 0))) :
    Calls Tryd.prog 51 #[.pointer (some ⟨g, 0, none⟩)] w
      fun e w' => e = .returned (.string (strOfNums (digL s))) ∧ Below w.heap.size w w' := by
  obtain ⟨i0, hi, hz0, hz1, hz2⟩ := info_parts infoByte
  have hgl := heap_lt hg
  go_enter Tryd.func51, Tryd.ntmps51
  go_wp2_with (at_make; refine wpList_make_full _ rfl _ _ 56 rfl w.heap.size 5 i0 (.int .u8 0) 1 Tryd.underlying56 hi hz0 hz1 .i64 .i64 _ _ 32 rfl rfl ?c1 ?c2 ?c3 ?c4 ?c5 ?_)
  case c1 => omega
  case c2 => omega
  case c3 => rw [hz2]; omega
  case c4 => unfold maxLen; omega
  case c5 => exact Nat.le_refl _
  intro w1 hown hgrow
  have hB1 : Below w.heap.size w w1 := (Below.refl _ w).grown hgrow (Nat.le_refl _) (fun k hk => by cases hk)
  obtain ⟨hrow, hlen⟩ := rowOf hown rfl
  generalize (madeCells #[Value.int IntKind.u8 0] 32).toList = L0 at hrow hlen
  have HR0 : Hid (w1.heap[w.heap.size]? = some (.cells L0.toArray 5 (0, 0))) := hrow
  have HL0 : Hid (L0.length = 32) := hlen
  have HB1 : Hid (Below w.heap.size w w1) := hB1
  clear hown hgrow hrow hlen hB1
  go_wp2_with fail
  go_loopw [8] (fun i wr => ∃ (k : Nat) (M : List Value), k ≤ 8 ∧ i = .int .i64 k ∧ M.length = 32 ∧ wr.heap[w.heap.size]? = some (.cells M.toArray 5 (0, 0)) ∧ (∀ t, t < 4 * k → M[t]? = some (.int .u8 ((digL s).getD t 0))) ∧ Below w.heap.size w wr)
    (fun i _ => 8 - (intOf i).toNat)
  case atStart => exact ⟨0, L0, Nat.zero_le _, rfl, HL0.out, HR0.out, fun j hj => by omega, HB1.out⟩
  case round =>
    clear HL0 HR0 HB1
    obtain ⟨k, M, hk, rfl, hM, hgr, hv, hb⟩ := hrel
    by_cases hlt : k < 8
    · have hck : wr.cell? ⟨g, k, none⟩ = some (.int .u32 (uI (s.row.getD k 0))) := by
        rw [hb.cell (p := ⟨g, k, none⟩) hgl]
        refine rowFacts hg k _ ?_
        rw [List.getElem?_append_left (show k < (uCells s).length from hlt)]
        exact row_at s k hlt
      have d0 := rowFacts hgr (4 * k) M[4 * k] (List.getElem?_eq_getElem (by omega))
      have d1 := rowFacts hgr (4 * k + 1) M[4 * k + 1] (List.getElem?_eq_getElem (by omega))
      have d2 := rowFacts hgr (4 * k + 2) M[4 * k + 2] (List.getElem?_eq_getElem (by omega))
      have d3 := rowFacts hgr (4 * k + 3) M[4 * k + 3] (List.getElem?_eq_getElem (by omega))
      have z0 := frozen_of_row wr _ (4 * k) _ _ hgr
      have z1 := frozen_of_row wr _ (4 * k + 1) _ _ hgr
      have z2 := frozen_of_row wr _ (4 * k + 2) _ _ hgr
      have z3 := frozen_of_row wr _ (4 * k + 3) _ _ hgr
      obtain ⟨q0, q1, q2, q3⟩ := digL_at s k hlt
      have HV : Hid _ := step4 hM hlt hv q0 q1 q2 q3
      have HG : Hid (∀ a b c d, ((((wr.setCell ⟨w.heap.size, 4 * k, none⟩ a).setCell ⟨w.heap.size, 4 * k + 1, none⟩ b).setCell ⟨w.heap.size, 4 * k + 2, none⟩ c).setCell ⟨w.heap.size, 4 * k + 3, none⟩ d).heap[w.heap.size]? = some (.cells ((((M.set (4 * k) a).set (4 * k + 1) b).set (4 * k + 2) c).set (4 * k + 3) d).toArray 5 (0, 0))) := fun a b c d => rowSet d (rowSet c (rowSet b (rowSet a hgr)))
      have HL : Hid (∀ a b c d, ((((M.set (4 * k) a).set (4 * k + 1) b).set (4 * k + 2) c).set (4 * k + 3) d).length = 32) := fun a b c d => by simpa using hM
      have HB : Hid (∀ n a b c d, Below w.heap.size w (((((wr.drewN n).setCell ⟨w.heap.size, 4 * k, none⟩ a).setCell ⟨w.heap.size, 4 * k + 1, none⟩ b).setCell ⟨w.heap.size, 4 * k + 2, none⟩ c).setCell ⟨w.heap.size, 4 * k + 3, none⟩ d)) := fun n a b c d => ((((below_drewN hb n).setCell (Nat.le_refl _) a).setCell (Nat.le_refl _) b).setCell (Nat.le_refl _) c).setCell (Nat.le_refl _) d
      generalize M[4 * k] = v0 at d0
      generalize M[4 * k + 1] = v1 at d1
      generalize M[4 * k + 2] = v2 at d2
      generalize M[4 * k + 3] = v3 at d3
      have f2 := uI_le (s.row.getD k 0)
      have f3 := uI_nonneg (s.row.getD k 0)
      generalize uI (s.row.getD k 0) = z at hck HV f2 f3
      clear hv hgr hb hM hg q0 q1 q2 q3
      go_wp2_with fail
      go_quiet (fail)
      go_wp2
      go_roundw
      case rel => exact ⟨k + 1, _, by omega, by go_num, HL.out _ _ _ _, HG.out _ _ _ _, HV.out, HB.out _ _ _ _ _⟩
      case measure => simp [intOf]; omega
    · have hv' : ∀ t, t < 32 → M[t]? = some (.int .u8 ((digL s).getD t 0)) := fun t ht => hv t (by omega)
      have hcv := run_convert_bytes_arg wr 56 5 Tryd.underlying56 Tryd.underlying5 w.heap.size 0 32 32 (digL s) rfl
        (fun t ht => by rw [Nat.zero_add]; exact rowFacts hgr t _ (hv' t ht)) 9 Tryd.underlying9
      have HB : Hid (Below w.heap.size w wr) := hb
      clear hgr hv hb hM hg hv'
      go_wp2
      go_ret
      exact ⟨rfl, HB.out⟩
/-- What ends a text of n bytes, taken in: the state behind. -/
def endSt (s : St) (r : ByteArray) (n : Nat) : St := more s (r ++ strOfNums (padL n))
set_option maxHeartbeats 1000000 in
set_option maxRecDepth 100000 in
theorem endW (s : St) (r : ByteArray) (n : Nat) (w w0 : World) (g B : Nat) (ty : TypeId) (hr : r.size ≤ 1000000) (hn : n ≤ 1900000000000) (hg : w.heap[g]? = some (.cells (workCells s r n).toArray ty (0, 0))) (hb : Below B w0 w) (hB : B ≤ g) (hk : Keys w0) (hkB : 0 < B) :
    Calls Tryd.prog 37 #[.pointer (some ⟨g, 0, none⟩)] w
      fun e w' => e = .returned (.string (strOfNums (digL (endSt s r n)))) ∧ Below B w0 w' := by
  have hgl := heap_lt hg
  have c9 := rowFacts hg 9 (.int .i64 n) rfl
  go_enter Tryd.func37, Tryd.ntmps37
  go_wp2_with fail
  refine (lastBytes n _ (by omega)).mono ?_
  rintro e w1 ⟨rfl, hb1⟩
  have hg1 : w1.heap[g]? = some (.cells (workCells s r n).toArray ty (0, 0)) := by rw [hb1.block g hgl, hg]
  have hB1 : Below B w0 w1 := hb.trans (hb1.mono (by omega))
  have hps : (strOfNums (padL n)).size ≤ 900000 := by
    rw [strOfNums_size, padL_len]
    unfold zerosOf
    omega
  have HG : Hid (w1.heap[g]? = some (.cells (workCells s r n).toArray ty (0, 0))) := hg1
  have HB : Hid (Below B w0 w1) := hB1
  have HK : Hid (Keys w0) := hk
  clear hg1 hB1 hb1 hg hb c9 hk
  go_wp2_with fail
  refine (takeW s r (strOfNums (padL n)) n w1 w0 g B ty hr hps (by omega) (by omega) HG.out HB.out hB HK.out hkB).mono ?_
  rintro e w2 ⟨rfl, hg2, hb2⟩
  have HG2 : Hid (w2.heap[g]? = some (.cells (uCells (endSt s r n) ++ [Value.string (restOf (r ++ strOfNums (padL n))), Value.int .i64 (n + (strOfNums (padL n)).size)]).toArray ty (0, 0))) := hg2
  have HB2 : Hid (Below B w0 w2) := hb2
  have hgl2 := heap_lt hg2
  clear hg2 hb2
  go_wp2_with fail
  refine (digestW (endSt s r n) w2 g ty _ HG2.out).mono ?_
  rintro e w3 ⟨rfl, hb3⟩
  have HB3 : Hid (Below B w0 w3) := HB2.out.trans (hb3.mono (by omega))
  clear hb3
  go_wp2
  go_ret
  exact ⟨rfl, HB3.out⟩
end Go.Proofs.YthhmobjphloahagDoor
