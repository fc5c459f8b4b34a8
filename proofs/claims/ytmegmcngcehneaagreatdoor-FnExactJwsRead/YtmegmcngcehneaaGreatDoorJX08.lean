/- The bytes that fill a text up: plain mathematics, no program is named here. The end of a hash, walked: impl.lastBytes, (*hashState).digest, (*hashWork).end. The digest of a state, walked: (*hashState).digest; (*hashWork).end. impl.beginWork, walked; what a digest is. A number in bytes, as a text. Plain mathematics: no program is named here. -/
import Derived.Test.YtmegmcngcehneaaGreatDoorJX05
import Derived.Test.YtmegmcngcehneaaGreatDoorJX07
import Derived.Test.YtmegmcngcehneaaGreatDoorJX01
namespace Go.Proofs.YtmegmcngcehneaaGreatDoor
open Go.RowKit

/-- The filling bytes when the j last have been laid. -/
def fillAt (n j p : Nat) : Int := if p = 0 then 128 else if p + j < 9 + zerosOf n then 0 else ((8 * n / 256 ^ (8 + zerosOf n - p) % 256 : Nat) : Int)
def fillL (n j : Nat) : List Int := (List.range (9 + zerosOf n)).map (fillAt n j)
theorem fillL_len (n j : Nat) : (fillL n j).length = 9 + zerosOf n := by simp [fillL]
theorem fillL_at (n j p : Nat) (h : p < 9 + zerosOf n) : (fillL n j)[p]? = some (fillAt n j p) := by simp [fillL, h]
theorem fillL_set (n j : Nat) (hj : j < 8) : (fillL n j).set (8 + zerosOf n - j) ((8 * n / 256 ^ j % 256 : Nat) : Int) = fillL n (j + 1) := by
  apply List.ext_getElem?
  intro p
  by_cases e : p = 8 + zerosOf n - j
  · subst e
    rw [List.getElem?_set_self (by rw [fillL_len]; omega), fillL_at _ _ _ (by omega)]
    unfold fillAt
    rw [if_neg (by omega), if_neg (by omega), show 8 + zerosOf n - (8 + zerosOf n - j) = j by omega]
  · rw [List.getElem?_set_ne (by omega)]
    by_cases hp : p < 9 + zerosOf n
    · rw [fillL_at _ _ _ hp, fillL_at _ _ _ hp]
      unfold fillAt
      by_cases h0 : p = 0
      · rw [if_pos h0, if_pos h0]
      · rw [if_neg h0, if_neg h0]
        by_cases h1 : p + j < 9 + zerosOf n
        · rw [if_pos h1, if_pos (by omega)]
        · rw [if_neg h1, if_neg (by omega)]
    · rw [List.getElem?_eq_none (by rw [fillL_len]; omega), List.getElem?_eq_none (by rw [fillL_len]; omega)]
theorem fillL_start (n : Nat) : (List.replicate (9 + zerosOf n) (0 : Int)).set 0 128 = fillL n 0 := by
  apply List.ext_getElem?
  intro p
  by_cases hp : p < 9 + zerosOf n
  · rw [fillL_at _ _ _ hp]
    by_cases h0 : p = 0
    · subst h0; rw [List.getElem?_set_self (by simp; omega)]; simp [fillAt]
    · rw [List.getElem?_set_ne (by omega)]
      simp [hp, fillAt, h0]
  · rw [List.getElem?_eq_none (by simp; omega), List.getElem?_eq_none (by rw [fillL_len]; omega)]
theorem padL_at (n p : Nat) (h : p < 9 + zerosOf n) : (padL n)[p]? = some (fillAt n 8 p) := by
  unfold padL
  by_cases h0 : p = 0
  · subst h0; simp [fillAt]
  · obtain ⟨q, rfl⟩ : ∃ q, p = q + 1 := ⟨p - 1, by omega⟩
    rw [List.getElem?_cons_succ]
    by_cases h1 : q < zerosOf n
    · rw [List.getElem?_append_left (by simpa using h1)]
      unfold fillAt
      rw [if_neg (by omega), if_pos (by omega)]
      simp [h1]
    · rw [List.getElem?_append_right (by simp; omega)]
      unfold fillAt beF
      rw [if_neg (by omega), if_neg (by omega)]
      have hq : q - zerosOf n < 8 := by omega
      simp only [List.length_replicate, List.getElem?_map, List.getElem?_range hq, Option.map_some]
      rw [show 8 - 1 - (q - zerosOf n) = 8 + zerosOf n - (q + 1) by omega]
theorem fill_end (n j : Nat) (hj : j ≤ 8) (h : 8 * n / 256 ^ j = 0) : fillL n j = padL n := by
  apply List.ext_getElem?
  intro p
  by_cases hp : p < 9 + zerosOf n
  · rw [fillL_at _ _ _ hp, padL_at _ _ hp]
    unfold fillAt
    by_cases h0 : p = 0
    · rw [if_pos h0, if_pos h0]
    · rw [if_neg h0, if_neg h0]
      by_cases h1 : p + j < 9 + zerosOf n
      · rw [if_pos h1]
        by_cases h2 : p + 8 < 9 + zerosOf n
        · rw [if_pos h2]
        · rw [if_neg h2]
          have : 8 * n / 256 ^ (8 + zerosOf n - p) = 0 := by
            obtain ⟨d, hd⟩ : ∃ d, 8 + zerosOf n - p = j + d := ⟨8 + zerosOf n - p - j, by omega⟩
            rw [hd, Nat.pow_add, ← Nat.div_div_eq_div_mul, h, Nat.zero_div]
          rw [this]; rfl
      · rw [if_neg h1, if_neg (by omega)]
  · rw [List.getElem?_eq_none (by rw [fillL_len]; omega), List.getElem?_eq_none (by rw [padL_len]; omega)]
theorem fill_step (n j : Nat) : 8 * n / 256 ^ j / 256 = 8 * n / 256 ^ (j + 1) := by
  rw [Nat.div_div_eq_div_mul, Nat.pow_succ]
theorem fill_small (n j : Nat) (hn : n ≤ 2000000000000) (h : 0 < 8 * n / 256 ^ j) : j < 8 := by
  rcases Nat.lt_or_ge j 8 with h' | h'
  · exact h'
  · exfalso
    have h1 : 256 ^ 8 ≤ 256 ^ j := Nat.pow_le_pow_right (by omega) h'
    have h2 : 8 * n < 256 ^ j := Nat.lt_of_lt_of_le (by omega) h1
    rw [Nat.div_eq_of_lt h2] at h
    omega
end Go.Proofs.YtmegmcngcehneaaGreatDoor
namespace Go.Proofs.YtmegmcngcehneaaGreatDoor
open Go.RowKit

set_option maxHeartbeats 1000000 in
set_option maxRecDepth 100000 in
theorem lastBytes (n : Nat) (w : World) (hn : n ≤ 2000000000000) :
    Calls Tryz.prog 106 #[.int .i64 (n : Int)] w fun e w' => e = .returned (.string (strOfNums (padL n))) ∧ Below w.heap.size w w' := by
  obtain ⟨i0, hi, hz0, hz1, hz2⟩ := info_parts infoByte
  have tm : ((n : Int) + 8).tmod 64 = ((n : Int) + 8) % 64 := Int.tmod_eq_emod_of_nonneg (by omega)
  have hzo : zerosOf n ≤ 63 := by unfold zerosOf; omega
  have hzI : (63 : Int) - ((n : Int) + 8) % 64 = (zerosOf n : Int) := by unfold zerosOf; omega
  go_enter Tryz.func106, Tryz.ntmps106
  go_wp2_with (at_make; refine wpList_make_full _ rfl _ _ 59 rfl w.heap.size 5 i0 (.int .u8 0) 1 Tryz.underlying59 hi hz0 hz1 .i64 .i64 _ _ (9 + zerosOf n) rfl rfl ?c1 ?c2 ?c3 ?c4 ?c5 ?_)
  case c1 => omega
  case c2 => omega
  case c3 => rw [hz2]; omega
  case c4 => unfold maxLen; omega
  case c5 => exact Nat.le_refl _
  intro w1 hown hgrow
  have hB1 : Below w.heap.size w w1 := (Below.refl _ w).grown hgrow (Nat.le_refl _) (fun k hk => by cases hk)
  obtain ⟨hrow, hlen⟩ := rowOf hown rfl
  rw [toList_madeCells_one] at hrow hlen
  have c0 := rowFacts hrow 0 (.int .u8 0) (by rw [List.getElem?_replicate, if_pos (by omega)])
  have z0 := frozen_of_row w1 _ 0 _ _ hrow
  have HR0 : Hid ((w1.setCell ⟨w.heap.size, 0, none⟩ (.int .u8 128)).heap[w.heap.size]? = some (.cells ((fillL n 0).map (Value.int .u8)).toArray 5 (0, 0))) := by
    show _ = _
    rw [← fillL_start, List.map_set, List.map_replicate]
    exact rowSet _ hrow
  have HB1 : Hid (Below w.heap.size w (w1.setCell ⟨w.heap.size, 0, none⟩ (.int .u8 128))) := hB1.setCell (Nat.le_refl _) _
  have a1 : (1 : Int) ≤ 9 + (zerosOf n : Int) := by omega
  clear hown hgrow hrow hlen hB1
  go_wp2_with fail
  go_loopw [5, 6] (fun b i wr => ∃ j x p : Nat, j ≤ 8 ∧ b = .int .i64 (x : Int) ∧ x = 8 * n / 256 ^ j ∧ i = .int .i64 (p : Int) ∧ p = 8 + zerosOf n - j ∧ wr.heap[w.heap.size]? = some (.cells ((fillL n j).map (Value.int .u8)).toArray 5 (0, 0)) ∧ Below w.heap.size w wr)
    (fun b _ _ => (intOf b).toNat)
  case atStart => exact ⟨0, 8 * n, 8 + zerosOf n, by omega, by go_num, by simp, by go_num, by omega, HR0.out, HB1.out⟩
  case round =>
    clear HR0 HB1 c0 z0
    obtain ⟨j, x, p, hj, rfl, hx, rfl, hp, hgr, hb⟩ := hrel
    by_cases hlt : 0 < x
    · have hj8 : j < 8 := fill_small n j hn (by omega)
      have hpl : p < 9 + zerosOf n := by omega
      have hxn : x ≤ 8 * n := by rw [hx]; exact Nat.div_le_self _ _
      have hlM : ((fillL n j).map (Value.int .u8)).length = 9 + zerosOf n := by rw [List.length_map, fillL_len]
      have hd := rowFacts hgr p _ (List.getElem?_eq_getElem (by omega))
      have hz := frozen_of_row wr _ p _ _ hgr
      have HG : Hid ((wr.setCell ⟨w.heap.size, p, none⟩ (.int .u8 ((x % 256 : Nat) : Int))).heap[w.heap.size]? = some (.cells ((fillL n (j + 1)).map (Value.int .u8)).toArray 5 (0, 0))) := by
        show _ = _
        rw [← fillL_set n j hj8, List.map_set, ← hx, ← hp]
        exact rowSet _ hgr
      have HB : Hid (∀ v, Below w.heap.size w (wr.setCell ⟨w.heap.size, p, none⟩ v)) := fun v => hb.setCell (Nat.le_refl _) v
      have HX : Hid (x / 256 = 8 * n / 256 ^ (j + 1)) := by show _ = _; rw [hx, fill_step]
      have HP : Hid (p - 1 = 8 + zerosOf n - (j + 1)) := by show _ = _; omega
      have hp1 : 1 ≤ p := by omega
      have fw : IntKind.u8.wrap (x : Int) = ((x % 256 : Nat) : Int) := by rw [IntKind.wrap_u8]; omega
      generalize ((fillL n j).map (Value.int .u8))[p] = v0 at hd
      clear hgr hb hx hp hlM
      go_wp2
      go_roundw
      case rel =>
        refine ⟨j + 1, x / 256, p - 1, by omega, by go_num, HX.out, by go_num, HP.out, ?_, HB.out _⟩
        exact HG.out
      case measure => simp [intOf]; omega
    · have hx0 : x = 0 := by omega
      have hpad : fillL n j = padL n := fill_end n j hj (by omega)
      rw [hpad] at hgr
      have hl := padL_len n
      have hcv := run_convert_bytes_arg wr 59 5 Tryz.underlying59 Tryz.underlying5 w.heap.size 0 (9 + zerosOf n) (9 + zerosOf n) (padL n) hl
        (fun t ht => by
          rw [Nat.zero_add]
          refine rowFacts hgr t _ ?_
          rw [List.getElem?_map, List.getD, List.getElem?_eq_getElem (by omega)]
          rfl) 9 Tryz.underlying9
      have HB : Hid (Below w.heap.size w wr) := hb
      clear hgr hb hx hp hpad hl
      go_wp2
      go_ret
      exact ⟨rfl, HB.out⟩
end Go.Proofs.YtmegmcngcehneaaGreatDoor
namespace Go.Proofs.YtmegmcngcehneaaGreatDoor
open Go.RowKit

theorem digL_at (s : St) (k : Nat) (h : k < 8) : (digL s).getD (4 * k) 0 = uI (s.row.getD k 0) / 16777216 ∧ (digL s).getD (4 * k + 1) 0 = uI (s.row.getD k 0) / 65536 % 256 ∧ (digL s).getD (4 * k + 2) 0 = uI (s.row.getD k 0) / 256 % 256 ∧ (digL s).getD (4 * k + 3) 0 = uI (s.row.getD k 0) % 256 := by
  rcases (by omega : k = 0 ∨ k = 1 ∨ k = 2 ∨ k = 3 ∨ k = 4 ∨ k = 5 ∨ k = 6 ∨ k = 7) with rfl | rfl | rfl | rfl | rfl | rfl | rfl | rfl <;> exact ⟨rfl, rfl, rfl, rfl⟩
theorem digL_len (s : St) : (digL s).length = 32 := rfl
theorem step4 {M : List Value} {D : List Int} {k : Nat} {a b c d : Int} (hM : M.length = 32) (hk : k < 8) (h : ∀ t, t < 4 * k → M[t]? = some (.int .u8 (D.getD t 0)))
    (ha : D.getD (4 * k) 0 = a) (hb : D.getD (4 * k + 1) 0 = b) (hc : D.getD (4 * k + 2) 0 = c) (hd : D.getD (4 * k + 3) 0 = d) :
    ∀ t, t < 4 * (k + 1) → ((((M.set (4 * k) (.int .u8 a)).set (4 * k + 1) (.int .u8 b)).set (4 * k + 2) (.int .u8 c)).set (4 * k + 3) (.int .u8 d))[t]? = some (.int .u8 (D.getD t 0)) := by
  intro t ht
  by_cases e3 : t = 4 * k + 3
  · subst e3; rw [List.getElem?_set_self (by simp; omega), hd]
  · rw [List.getElem?_set_ne (by omega)]
    by_cases e2 : t = 4 * k + 2
    · subst e2; rw [List.getElem?_set_self (by simp; omega), hc]
    · rw [List.getElem?_set_ne (by omega)]
      by_cases e1 : t = 4 * k + 1
      · subst e1; rw [List.getElem?_set_self (by simp; omega), hb]
      · rw [List.getElem?_set_ne (by omega)]
        by_cases e0 : t = 4 * k
        · subst e0; rw [List.getElem?_set_self (by omega), ha]
        · rw [List.getElem?_set_ne (by omega), h t (by omega)]

set_option maxHeartbeats 1000000 in
set_option maxRecDepth 100000 in
theorem digestW (s : St) (w : World) (g : Nat) (ty : TypeId) (tail : List Value) (hg : w.heap[g]? = some (.cells (uCells s ++ tail).toArray ty (0, 0))) :
    Calls Tryz.prog 107 #[.pointer (some ⟨g, 0, none⟩)] w
      fun e w' => e = .returned (.string (strOfNums (digL s))) ∧ Below w.heap.size w w' := by
  obtain ⟨i0, hi, hz0, hz1, hz2⟩ := info_parts infoByte
  have hgl := heap_lt hg
  go_enter Tryz.func107, Tryz.ntmps107
  go_wp2_with (at_make; refine wpList_make_full _ rfl _ _ 59 rfl w.heap.size 5 i0 (.int .u8 0) 1 Tryz.underlying59 hi hz0 hz1 .i64 .i64 _ _ 32 rfl rfl ?c1 ?c2 ?c3 ?c4 ?c5 ?_)
  case c1 => omega
  case c2 => omega
  case c3 => rw [hz2]; omega
  case c4 => unfold maxLen; omega
  case c5 => exact Nat.le_refl _
  intro w1 hown hgrow
  have hB1 : Below w.heap.size w w1 := (Below.refl _ w).grown hgrow (Nat.le_refl _) (fun k hk => by cases hk)
  obtain ⟨hrow, hlen⟩ := rowOf hown rfl
  generalize (madeCells #[Value.int IntKind.u8 0] 32).toList = L0 at hrow hlen
  have HR0 : Hid (w1.heap[w.heap.size]? = some (.cells L0.toArray 5 (0, 0))) := hrow
  have HL0 : Hid (L0.length = 32) := hlen
  have HB1 : Hid (Below w.heap.size w w1) := hB1
  clear hown hgrow hrow hlen hB1
  go_wp2_with fail
  go_loopw [8] (fun i wr => ∃ (k : Nat) (M : List Value), k ≤ 8 ∧ i = .int .i64 k ∧ M.length = 32 ∧ wr.heap[w.heap.size]? = some (.cells M.toArray 5 (0, 0)) ∧ (∀ t, t < 4 * k → M[t]? = some (.int .u8 ((digL s).getD t 0))) ∧ Below w.heap.size w wr)
    (fun i _ => 8 - (intOf i).toNat)
  case atStart => exact ⟨0, L0, Nat.zero_le _, rfl, HL0.out, HR0.out, fun j hj => by omega, HB1.out⟩
  case round =>
    clear HL0 HR0 HB1
    obtain ⟨k, M, hk, rfl, hM, hgr, hv, hb⟩ := hrel
    by_cases hlt : k < 8
    · have hck : wr.cell? ⟨g, k, none⟩ = some (.int .u32 (uI (s.row.getD k 0))) := by
        rw [hb.cell (p := ⟨g, k, none⟩) hgl]
        refine rowFacts hg k _ ?_
        rw [List.getElem?_append_left (show k < (uCells s).length from hlt)]
        exact row_at s k hlt
      have d0 := rowFacts hgr (4 * k) M[4 * k] (List.getElem?_eq_getElem (by omega))
      have d1 := rowFacts hgr (4 * k + 1) M[4 * k + 1] (List.getElem?_eq_getElem (by omega))
      have d2 := rowFacts hgr (4 * k + 2) M[4 * k + 2] (List.getElem?_eq_getElem (by omega))
      have d3 := rowFacts hgr (4 * k + 3) M[4 * k + 3] (List.getElem?_eq_getElem (by omega))
      have z0 := frozen_of_row wr _ (4 * k) _ _ hgr
      have z1 := frozen_of_row wr _ (4 * k + 1) _ _ hgr
      have z2 := frozen_of_row wr _ (4 * k + 2) _ _ hgr
      have z3 := frozen_of_row wr _ (4 * k + 3) _ _ hgr
      obtain ⟨q0, q1, q2, q3⟩ := digL_at s k hlt
      have HV : Hid _ := step4 hM hlt hv q0 q1 q2 q3
      have HG : Hid (∀ a b c d, ((((wr.setCell ⟨w.heap.size, 4 * k, none⟩ a).setCell ⟨w.heap.size, 4 * k + 1, none⟩ b).setCell ⟨w.heap.size, 4 * k + 2, none⟩ c).setCell ⟨w.heap.size, 4 * k + 3, none⟩ d).heap[w.heap.size]? = some (.cells ((((M.set (4 * k) a).set (4 * k + 1) b).set (4 * k + 2) c).set (4 * k + 3) d).toArray 5 (0, 0))) := fun a b c d => rowSet d (rowSet c (rowSet b (rowSet a hgr)))
      have HL : Hid (∀ a b c d, ((((M.set (4 * k) a).set (4 * k + 1) b).set (4 * k + 2) c).set (4 * k + 3) d).length = 32) := fun a b c d => by simpa using hM
      have HB : Hid (∀ n a b c d, Below w.heap.size w (((((wr.drewN n).setCell ⟨w.heap.size, 4 * k, none⟩ a).setCell ⟨w.heap.size, 4 * k + 1, none⟩ b).setCell ⟨w.heap.size, 4 * k + 2, none⟩ c).setCell ⟨w.heap.size, 4 * k + 3, none⟩ d)) := fun n a b c d => ((((below_drewN hb n).setCell (Nat.le_refl _) a).setCell (Nat.le_refl _) b).setCell (Nat.le_refl _) c).setCell (Nat.le_refl _) d
      generalize M[4 * k] = v0 at d0
      generalize M[4 * k + 1] = v1 at d1
      generalize M[4 * k + 2] = v2 at d2
      generalize M[4 * k + 3] = v3 at d3
      have f2 := uI_le (s.row.getD k 0)
      have f3 := uI_nonneg (s.row.getD k 0)
      generalize uI (s.row.getD k 0) = z at hck HV f2 f3
      clear hv hgr hb hM hg q0 q1 q2 q3
      go_wp2_with fail
      go_quiet (fail)
      go_wp2
      go_roundw
      case rel => exact ⟨k + 1, _, by omega, by go_num, HL.out _ _ _ _, HG.out _ _ _ _, HV.out, HB.out _ _ _ _ _⟩
      case measure => simp [intOf]; omega
    · have hv' : ∀ t, t < 32 → M[t]? = some (.int .u8 ((digL s).getD t 0)) := fun t ht => hv t (by omega)
      have hcv := run_convert_bytes_arg wr 59 5 Tryz.underlying59 Tryz.underlying5 w.heap.size 0 32 32 (digL s) rfl
        (fun t ht => by rw [Nat.zero_add]; exact rowFacts hgr t _ (hv' t ht)) 9 Tryz.underlying9
      have HB : Hid (Below w.heap.size w wr) := hb
      clear hgr hv hb hM hg hv'
      go_wp2
      go_ret
      exact ⟨rfl, HB.out⟩
/-- What ends a text of n bytes, taken in: the state behind. -/
def endSt (s : St) (r : ByteArray) (n : Nat) : St := more s (r ++ strOfNums (padL n))
set_option maxHeartbeats 1000000 in
set_option maxRecDepth 100000 in
theorem endW (s : St) (r : ByteArray) (n : Nat) (w w0 : World) (g B : Nat) (ty : TypeId) (hr : r.size ≤ 1000000) (hn : n ≤ 1900000000000) (hg : w.heap[g]? = some (.cells (workCells s r n).toArray ty (0, 0))) (hb : Below B w0 w) (hB : B ≤ g) (hk : Keys w0) (hkB : 4 < B) :
    Calls Tryz.prog 97 #[.pointer (some ⟨g, 0, none⟩)] w
      fun e w' => e = .returned (.string (strOfNums (digL (endSt s r n)))) ∧ Below B w0 w' := by
  have hgl := heap_lt hg
  have c9 := rowFacts hg 9 (.int .i64 n) rfl
  go_enter Tryz.func97, Tryz.ntmps97
  go_wp2_with fail
  refine (lastBytes n _ (by omega)).mono ?_
  rintro e w1 ⟨rfl, hb1⟩
  have hg1 : w1.heap[g]? = some (.cells (workCells s r n).toArray ty (0, 0)) := by rw [hb1.block g hgl, hg]
  have hB1 : Below B w0 w1 := hb.trans (hb1.mono (by omega))
  have hps : (strOfNums (padL n)).size ≤ 900000 := by
    rw [strOfNums_size, padL_len]
    unfold zerosOf
    omega
  have HG : Hid (w1.heap[g]? = some (.cells (workCells s r n).toArray ty (0, 0))) := hg1
  have HB : Hid (Below B w0 w1) := hB1
  have HK : Hid (Keys w0) := hk
  clear hg1 hB1 hb1 hg hb c9 hk
  go_wp2_with fail
  refine (takeW s r (strOfNums (padL n)) n w1 w0 g B ty hr hps (by omega) (by omega) HG.out HB.out hB HK.out hkB).mono ?_
  rintro e w2 ⟨rfl, hg2, hb2⟩
  have HG2 : Hid (w2.heap[g]? = some (.cells (uCells (endSt s r n) ++ [Value.string (restOf (r ++ strOfNums (padL n))), Value.int .i64 (n + (strOfNums (padL n)).size)]).toArray ty (0, 0))) := hg2
  have HB2 : Hid (Below B w0 w2) := hb2
  have hgl2 := heap_lt hg2
  clear hg2 hb2
  go_wp2_with fail
  refine (digestW (endSt s r n) w2 g ty _ HG2.out).mono ?_
  rintro e w3 ⟨rfl, hb3⟩
  have HB3 : Hid (Below B w0 w3) := HB2.out.trans (hb3.mono (by omega))
  clear hb3
  go_wp2
  go_ret
  exact ⟨rfl, HB3.out⟩
end Go.Proofs.YtmegmcngcehneaaGreatDoor
namespace Go.Proofs.YtmegmcngcehneaaGreatDoor
open Go.RowKit

theorem beginW (w : World) :
    Calls Tryz.prog 95 #[] w fun e w' => e = .returned (.agg #[.int .u32 1779033703, .int .u32 3144134277, .int .u32 1013904242, .int .u32 2773480762, .int .u32 1359893119, .int .u32 2600822924, .int .u32 528734635, .int .u32 1541459225, .string ⟨#[]⟩, .int .i64 0]) ∧ Below w.heap.size w w' := by
  go_enter Tryz.func95, Tryz.ntmps95
  go_wp2
  go_returns
  exact ⟨rfl, (Below.refl _ w).alloc (Nat.le_refl _) _⟩
/-- The digest of a text. -/
def digOf (t : ByteArray) : ByteArray := strOfNums (digL (endSt (more st0 t) (restOf t) t.size))
theorem empty_append (t : ByteArray) : ByteArray.empty ++ t = t := by
  apply ByteArray.ext
  simp
end Go.Proofs.YtmegmcngcehneaaGreatDoor
namespace Go.Proofs.YtmegmcngcehneaaGreatDoor
open Go.RowKit

theorem putF_len : ∀ f x, (putF f x).length ≤ f + 1
  | 0, x => by simp [putF]
  | f + 1, x => by
    rw [putF]
    split
    · simp
    · have := putF_len f (x / 128)
      simp
      omega
def putS (n : Int) : ByteArray := strOfNums (putF 9 (foldI n))
theorem putS_size (n : Int) : (putS n).size ≤ 10 := by unfold putS; rw [strOfNums_size]; exact putF_len 9 _
end Go.Proofs.YtmegmcngcehneaaGreatDoor
