/- A text taken in, walked: (*hashWork).take. The bytes that fill a text up: plain mathematics, no program is named here. The end of a hash, walked: impl.lastBytes, (*hashState).digest, (*hashWork).end. The digest of a state, walked: (*hashState).digest; (*hashWork).end. impl.beginWork, walked; what a digest is. A number in bytes, as a text. Plain mathematics: no program is named here. The number of a digest; challenges and signatures as they are answered: plain mathematics. Signatures as they are answered: plain mathematics. spec.PutNum, walked. impl.PutNum, walked. impl.tooLong, walked. -/
import Derived.Test.YtjkmfjegphpjkaaGreatDoorJW04
import Derived.Test.YtjkmfjegphpjkaaGreatDoorJW01
import Derived.Test.YtjkmfjegphpjkaaGreatDoorJW03
namespace Go.Proofs.YtjkmfjegphpjkaaGreatDoor
open Go.RowKit

/-- A hash at work, as it lies in memory. -/
def workCells (s : St) (r : ByteArray) (n : Int) : List Value := uCells s ++ [.string r, .int .i64 n]

theorem byteAt_take (a : ByteArray) {k j : Nat} (h : j < k) : byteAt (a.extract 0 k) j = byteAt a j := by
  unfold byteAt
  rw [list_extract, List.drop_zero, List.getD, List.getD, List.getElem?_take, if_pos h]
theorem blks_step (s : St) (F L : ByteArray) (m : Nat) (hL : L = F.extract (64 * m) F.size) : blk (blks s F m) (wordAt (L.extract 0 64) 0) = blks s F (m + 1) := by
  rw [blks]
  refine blk_congr (fun i hi => wordAt_congr (fun j hj => ?_)) _
  rw [byteAt_take L (by omega), hL, byteAt_rest]
  congr 1
  omega
theorem extract_step (F L : ByteArray) (m : Nat) (hL : L = F.extract (64 * m) F.size) : L.extract 64 L.size = F.extract (64 * (m + 1)) F.size := by
  have e : (L.extract 64 L.size).data.toList = (F.extract (64 * (m + 1)) F.size).data.toList := by
    rw [list_extract, List.take_of_length_le (by simp), hL, list_extract, list_extract, List.take_of_length_le (by simp), List.drop_drop]
    congr 1
  exact ByteArray.ext (Array.ext' e)
set_option maxHeartbeats 1000000 in
set_option maxRecDepth 100000 in
theorem takeW (s : St) (r text : ByteArray) (n : Int) (w w0 : World) (g B : Nat) (ty : TypeId) (hr : r.size ≤ 1000000) (ht : text.size ≤ 900000) (h0 : 0 ≤ n) (hn : n ≤ 2000000000000) (hg : w.heap[g]? = some (.cells (workCells s r n).toArray ty (0, 0))) (hb : Below B w0 w) (hB : B ≤ g) (hk : Keys w0) (hkB : 1 < B) :
    Calls Tryz.prog 100 #[.pointer (some ⟨g, 0, none⟩), .string text] w
      fun e w' => e = .returned (.tuple #[]) ∧ w'.heap[g]? = some (.cells (workCells (more s (r ++ text)) (restOf (r ++ text)) (n + text.size)).toArray ty (0, 0)) ∧ Below B w0 w' := by
  have hgl := heap_lt hg
  have c8 := rowFacts hg 8 (.string r) rfl
  have c9 := rowFacts hg 9 (.int .i64 n) rfl
  have z8 := frozen_of_row w g 8 _ ty hg
  have z9 := frozen_of_row w g 9 _ ty hg
  have HG : Hid (w.heap[g]? = some (.cells (workCells s r n).toArray ty (0, 0))) := hg
  have HB : Hid (Below B w0 w) := hb
  clear hg hb
  go_enter Tryz.func100, Tryz.ntmps100
  go_wp2_with fail
  refine (joinTexts r text _ hr (by omega)).mono ?_
  rintro e w2 ⟨rfl, hb2⟩
  have hg1 : (w.setCell ⟨g, 9, none⟩ (.int .i64 (n + text.size))).heap[g]? = some (.cells (workCells s r (n + text.size)).toArray ty (0, 0)) := rowSet _ HG.out
  have hg2 : w2.heap[g]? = some (.cells (workCells s r (n + text.size)).toArray ty (0, 0)) := by
    rw [hb2.block g (by simpa using hgl), hg1]
  have HB2 : Hid (Below B w0 w2) := (HB.out.setCell hB _).trans (hb2.mono (by simp; omega))
  have hfs : (r ++ text).size ≤ 1900000 := by rw [size_append]; omega
  clear hg1 hb2 c8 c9 z8 z9 HG HB
  generalize hN : n + (text.size : Int) = N at hg2
  generalize hF : r ++ text = F at hfs
  have HN : Hid (n + (text.size : Int) = N) := hN
  have HF : Hid (r ++ text = F) := hF
  clear hN hF
  go_wp2_with fail
  have hk2 : Keys w2 := hk.below HB2.out hkB
  go_loopw [4] (fun v wr => ∃ (m : Nat) (L : ByteArray), 64 * m ≤ F.size ∧ L = F.extract (64 * m) F.size ∧ v = .string L ∧ wr.heap[g]? = some (.cells (workCells (blks s F m) r N).toArray ty (0, 0)) ∧ Below B w0 wr)
    (fun v _ => match v with | .string b => b.size | _ => 0)
  case atStart => exact ⟨0, F, by omega, by simp, rfl, hg2, HB2.out⟩
  case round =>
    clear hg2 HB2 hk2
    obtain ⟨m, L, hm, hL, rfl, hgr, hbr⟩ := hrel
    have hLs : L.size = F.size - 64 * m := by rw [hL, ByteArray.size_extract]; omega
    have HL : Hid (L = F.extract (64 * m) F.size) := hL
    have HLs : Hid (L.size = F.size - 64 * m) := hLs
    have hLm : L.size ≤ 1900000 := by omega
    clear hL hLs
    by_cases hlt : 64 ≤ L.size
    · have HK : Hid (Keys w0) := hk
      have HR : Hid (wr.heap[g]? = some (.cells (workCells (blks s F m) r N).toArray ty (0, 0))) := hgr
      have HBR : Hid (Below B w0 wr) := hbr
      have HS : Hid ((L.extract 0 64).size = 64) := by show _ = _; rw [ByteArray.size_extract]; omega
      clear hk hgr hbr
      go_wp2_with fail
      go_region_with (go_at_call 117; refine (takeBlock (blks s F m) (L.extract 0 64) wr.drew w0 g B ty [.string r, .int .i64 N] HS.out HR.out HBR.out.drew hB HK.out hkB).mono ?_; rintro e w' ⟨rfl, hg', hb'⟩)
      rw [blks_step s F L m HL.out] at hg'
      have HG' : Hid (w'.heap[g]? = some (.cells (workCells (blks s F (m + 1)) r N).toArray ty (0, 0))) := hg'
      have HB' : Hid (Below B w0 w') := hb'
      clear hg' hb'
      go_wp2
      go_roundw
      case rel => 
        have hLs := HLs.out
        exact ⟨m + 1, _, by omega, extract_step F L m HL.out, rfl, HG'.out, HB'.out⟩
      case measure => 
        show (L.extract 64 L.size).size < L.size
        rw [ByteArray.size_extract]; omega
    · have c8 := rowFacts hgr 8 (.string r) rfl
      have z8 := frozen_of_row wr g 8 _ ty hgr
      have HG' : Hid ((wr.setCell ⟨g, 8, none⟩ (.string L)).heap[g]? = some (.cells (workCells (blks s F m) L N).toArray ty (0, 0))) := rowSet _ hgr
      have HB' : Hid (Below B w0 (wr.setCell ⟨g, 8, none⟩ (.string L))) := hbr.setCell hB _
      clear hgr hbr
      go_wp2
      go_returns
      have hLs := HLs.out
      have hm2 : m = F.size / 64 := by omega
      refine ⟨rfl, ?_, HB'.out⟩
      rw [HF.out, HN.out, HG'.out, HL.out, hm2]
      rfl
end Go.Proofs.YtjkmfjegphpjkaaGreatDoor
namespace Go.Proofs.YtjkmfjegphpjkaaGreatDoor
open Go.RowKit

/-- The filling bytes when the j last have been laid. -/
def fillAt (n j p : Nat) : Int := if p = 0 then 128 else if p + j < 9 + zerosOf n then 0 else ((8 * n / 256 ^ (8 + zerosOf n - p) % 256 : Nat) : Int)
def fillL (n j : Nat) : List Int := (List.range (9 + zerosOf n)).map (fillAt n j)
theorem fillL_len (n j : Nat) : (fillL n j).length = 9 + zerosOf n := by simp [fillL]
theorem fillL_at (n j p : Nat) (h : p < 9 + zerosOf n) : (fillL n j)[p]? = some (fillAt n j p) := by simp [fillL, h]
theorem fillL_set (n j : Nat) (hj : j < 8) : (fillL n j).set (8 + zerosOf n - j) ((8 * n / 256 ^ j % 256 : Nat) : Int) = fillL n (j + 1) := by
  apply List.ext_getElem?
  intro p
  by_cases e : p = 8 + zerosOf n - j
  · subst e
    rw [List.getElem?_set_self (by rw [fillL_len]; omega), fillL_at _ _ _ (by omega)]
    unfold fillAt
    rw [if_neg (by omega), if_neg (by omega), show 8 + zerosOf n - (8 + zerosOf n - j) = j by omega]
  · rw [List.getElem?_set_ne (by omega)]
    by_cases hp : p < 9 + zerosOf n
    · rw [fillL_at _ _ _ hp, fillL_at _ _ _ hp]
      unfold fillAt
      by_cases h0 : p = 0
      · rw [if_pos h0, if_pos h0]
      · rw [if_neg h0, if_neg h0]
        by_cases h1 : p + j < 9 + zerosOf n
        · rw [if_pos h1, if_pos (by omega)]
        · rw [if_neg h1, if_neg (by omega)]
    · rw [List.getElem?_eq_none (by rw [fillL_len]; omega), List.getElem?_eq_none (by rw [fillL_len]; omega)]
theorem fillL_start (n : Nat) : (List.replicate (9 + zerosOf n) (0 : Int)).set 0 128 = fillL n 0 := by
  apply List.ext_getElem?
  intro p
  by_cases hp : p < 9 + zerosOf n
  · rw [fillL_at _ _ _ hp]
    by_cases h0 : p = 0
    · subst h0; rw [List.getElem?_set_self (by simp; omega)]; simp [fillAt]
    · rw [List.getElem?_set_ne (by omega)]
      simp [hp, fillAt, h0]
  · rw [List.getElem?_eq_none (by simp; omega), List.getElem?_eq_none (by rw [fillL_len]; omega)]
theorem padL_at (n p : Nat) (h : p < 9 + zerosOf n) : (padL n)[p]? = some (fillAt n 8 p) := by
  unfold padL
  by_cases h0 : p = 0
  · subst h0; simp [fillAt]
  · obtain ⟨q, rfl⟩ : ∃ q, p = q + 1 := ⟨p - 1, by omega⟩
    rw [List.getElem?_cons_succ]
    by_cases h1 : q < zerosOf n
    · rw [List.getElem?_append_left (by simpa using h1)]
      unfold fillAt
      rw [if_neg (by omega), if_pos (by omega)]
      simp [h1]
    · rw [List.getElem?_append_right (by simp; omega)]
      unfold fillAt beF
      rw [if_neg (by omega), if_neg (by omega)]
      have hq : q - zerosOf n < 8 := by omega
      simp only [List.length_replicate, List.getElem?_map, List.getElem?_range hq, Option.map_some]
      rw [show 8 - 1 - (q - zerosOf n) = 8 + zerosOf n - (q + 1) by omega]
theorem fill_end (n j : Nat) (hj : j ≤ 8) (h : 8 * n / 256 ^ j = 0) : fillL n j = padL n := by
  apply List.ext_getElem?
  intro p
  by_cases hp : p < 9 + zerosOf n
  · rw [fillL_at _ _ _ hp, padL_at _ _ hp]
    unfold fillAt
    by_cases h0 : p = 0
    · rw [if_pos h0, if_pos h0]
    · rw [if_neg h0, if_neg h0]
      by_cases h1 : p + j < 9 + zerosOf n
      · rw [if_pos h1]
        by_cases h2 : p + 8 < 9 + zerosOf n
        · rw [if_pos h2]
        · rw [if_neg h2]
          have : 8 * n / 256 ^ (8 + zerosOf n - p) = 0 := by
            obtain ⟨d, hd⟩ : ∃ d, 8 + zerosOf n - p = j + d := ⟨8 + zerosOf n - p - j, by omega⟩
            rw [hd, Nat.pow_add, ← Nat.div_div_eq_div_mul, h, Nat.zero_div]
          rw [this]; rfl
      · rw [if_neg h1, if_neg (by omega)]
  · rw [List.getElem?_eq_none (by rw [fillL_len]; omega), List.getElem?_eq_none (by rw [padL_len]; omega)]
theorem fill_step (n j : Nat) : 8 * n / 256 ^ j / 256 = 8 * n / 256 ^ (j + 1) := by
  rw [Nat.div_div_eq_div_mul, Nat.pow_succ]
theorem fill_small (n j : Nat) (hn : n ≤ 2000000000000) (h : 0 < 8 * n / 256 ^ j) : j < 8 := by
  rcases Nat.lt_or_ge j 8 with h' | h'
  · exact h'
  · exfalso
    have h1 : 256 ^ 8 ≤ 256 ^ j := Nat.pow_le_pow_right (by omega) h'
    have h2 : 8 * n < 256 ^ j := Nat.lt_of_lt_of_le (by omega) h1
    rw [Nat.div_eq_of_lt h2] at h
    omega
end Go.Proofs.YtjkmfjegphpjkaaGreatDoor
namespace Go.Proofs.YtjkmfjegphpjkaaGreatDoor
open Go.RowKit

set_option maxHeartbeats 1000000 in
set_option maxRecDepth 100000 in
theorem lastBytes (n : Nat) (w : World) (hn : n ≤ 2000000000000) :
    Calls Tryz.prog 118 #[.int .i64 (n : Int)] w fun e w' => e = .returned (.string (strOfNums (padL n))) ∧ Below w.heap.size w w' := by
  obtain ⟨i0, hi, hz0, hz1, hz2⟩ := info_parts infoByte
  have tm : ((n : Int) + 8).tmod 64 = ((n : Int) + 8) % 64 := Int.tmod_eq_emod_of_nonneg (by omega)
  have hzo : zerosOf n ≤ 63 := by unfold zerosOf; omega
  have hzI : (63 : Int) - ((n : Int) + 8) % 64 = (zerosOf n : Int) := by unfold zerosOf; omega
  go_enter Tryz.func118, Tryz.ntmps118
  go_wp2_with (at_make; refine wpList_make_full _ rfl _ _ 22 rfl w.heap.size 5 i0 (.int .u8 0) 1 Tryz.underlying22 hi hz0 hz1 .i64 .i64 _ _ (9 + zerosOf n) rfl rfl ?c1 ?c2 ?c3 ?c4 ?c5 ?_)
  case c1 => omega
  case c2 => omega
  case c3 => rw [hz2]; omega
  case c4 => unfold maxLen; omega
  case c5 => exact Nat.le_refl _
  intro w1 hown hgrow
  have hB1 : Below w.heap.size w w1 := (Below.refl _ w).grown hgrow (Nat.le_refl _) (fun k hk => by cases hk)
  obtain ⟨hrow, hlen⟩ := rowOf hown rfl
  rw [toList_madeCells_one] at hrow hlen
  have c0 := rowFacts hrow 0 (.int .u8 0) (by rw [List.getElem?_replicate, if_pos (by omega)])
  have z0 := frozen_of_row w1 _ 0 _ _ hrow
  have HR0 : Hid ((w1.setCell ⟨w.heap.size, 0, none⟩ (.int .u8 128)).heap[w.heap.size]? = some (.cells ((fillL n 0).map (Value.int .u8)).toArray 5 (0, 0))) := by
    show _ = _
    rw [← fillL_start, List.map_set, List.map_replicate]
    exact rowSet _ hrow
  have HB1 : Hid (Below w.heap.size w (w1.setCell ⟨w.heap.size, 0, none⟩ (.int .u8 128))) := hB1.setCell (Nat.le_refl _) _
  have a1 : (1 : Int) ≤ 9 + (zerosOf n : Int) := by omega
  clear hown hgrow hrow hlen hB1
  go_wp2_with fail
  go_loopw [5, 6] (fun b i wr => ∃ j x p : Nat, j ≤ 8 ∧ b = .int .i64 (x : Int) ∧ x = 8 * n / 256 ^ j ∧ i = .int .i64 (p : Int) ∧ p = 8 + zerosOf n - j ∧ wr.heap[w.heap.size]? = some (.cells ((fillL n j).map (Value.int .u8)).toArray 5 (0, 0)) ∧ Below w.heap.size w wr)
    (fun b _ _ => (intOf b).toNat)
  case atStart => exact ⟨0, 8 * n, 8 + zerosOf n, by omega, by go_num, by simp, by go_num, by omega, HR0.out, HB1.out⟩
  case round =>
    clear HR0 HB1 c0 z0
    obtain ⟨j, x, p, hj, rfl, hx, rfl, hp, hgr, hb⟩ := hrel
    by_cases hlt : 0 < x
    · have hj8 : j < 8 := fill_small n j hn (by omega)
      have hpl : p < 9 + zerosOf n := by omega
      have hxn : x ≤ 8 * n := by rw [hx]; exact Nat.div_le_self _ _
      have hlM : ((fillL n j).map (Value.int .u8)).length = 9 + zerosOf n := by rw [List.length_map, fillL_len]
      have hd := rowFacts hgr p _ (List.getElem?_eq_getElem (by omega))
      have hz := frozen_of_row wr _ p _ _ hgr
      have HG : Hid ((wr.setCell ⟨w.heap.size, p, none⟩ (.int .u8 ((x % 256 : Nat) : Int))).heap[w.heap.size]? = some (.cells ((fillL n (j + 1)).map (Value.int .u8)).toArray 5 (0, 0))) := by
        show _ = _
        rw [← fillL_set n j hj8, List.map_set, ← hx, ← hp]
        exact rowSet _ hgr
      have HB : Hid (∀ v, Below w.heap.size w (wr.setCell ⟨w.heap.size, p, none⟩ v)) := fun v => hb.setCell (Nat.le_refl _) v
      have HX : Hid (x / 256 = 8 * n / 256 ^ (j + 1)) := by show _ = _; rw [hx, fill_step]
      have HP : Hid (p - 1 = 8 + zerosOf n - (j + 1)) := by show _ = _; omega
      have hp1 : 1 ≤ p := by omega
      have fw : IntKind.u8.wrap (x : Int) = ((x % 256 : Nat) : Int) := by rw [IntKind.wrap_u8]; omega
      generalize ((fillL n j).map (Value.int .u8))[p] = v0 at hd
      clear hgr hb hx hp hlM
      go_wp2
      go_roundw
      case rel =>
        refine ⟨j + 1, x / 256, p - 1, by omega, by go_num, HX.out, by go_num, HP.out, ?_, HB.out _⟩
        exact HG.out
      case measure => simp [intOf]; omega
    · have hx0 : x = 0 := by omega
      have hpad : fillL n j = padL n := fill_end n j hj (by omega)
      rw [hpad] at hgr
      have hl := padL_len n
      have hcv := run_convert_bytes_arg wr 22 5 Tryz.underlying22 Tryz.underlying5 w.heap.size 0 (9 + zerosOf n) (9 + zerosOf n) (padL n) hl
        (fun t ht => by
          rw [Nat.zero_add]
          refine rowFacts hgr t _ ?_
          rw [List.getElem?_map, List.getD, List.getElem?_eq_getElem (by omega)]
          rfl) 9 Tryz.underlying9
      have HB : Hid (Below w.heap.size w wr) := hb
      clear hgr hb hx hp hpad hl
      go_wp2
      go_ret
      exact ⟨rfl, HB.out⟩
end Go.Proofs.YtjkmfjegphpjkaaGreatDoor
namespace Go.Proofs.YtjkmfjegphpjkaaGreatDoor
open Go.RowKit

theorem digL_at (s : St) (k : Nat) (h : k < 8) : (digL s).getD (4 * k) 0 = uI (s.row.getD k 0) / 16777216 ∧ (digL s).getD (4 * k + 1) 0 = uI (s.row.getD k 0) / 65536 % 256 ∧ (digL s).getD (4 * k + 2) 0 = uI (s.row.getD k 0) / 256 % 256 ∧ (digL s).getD (4 * k + 3) 0 = uI (s.row.getD k 0) % 256 := by
  rcases (by omega : k = 0 ∨ k = 1 ∨ k = 2 ∨ k = 3 ∨ k = 4 ∨ k = 5 ∨ k = 6 ∨ k = 7) with rfl | rfl | rfl | rfl | rfl | rfl | rfl | rfl <;> exact ⟨rfl, rfl, rfl, rfl⟩
theorem digL_len (s : St) : (digL s).length = 32 := rfl
theorem step4 {M : List Value} {D : List Int} {k : Nat} {a b c d : Int} (hM : M.length = 32) (hk : k < 8) (h : ∀ t, t < 4 * k → M[t]? = some (.int .u8 (D.getD t 0)))
    (ha : D.getD (4 * k) 0 = a) (hb : D.getD (4 * k + 1) 0 = b) (hc : D.getD (4 * k + 2) 0 = c) (hd : D.getD (4 * k + 3) 0 = d) :
    ∀ t, t < 4 * (k + 1) → ((((M.set (4 * k) (.int .u8 a)).set (4 * k + 1) (.int .u8 b)).set (4 * k + 2) (.int .u8 c)).set (4 * k + 3) (.int .u8 d))[t]? = some (.int .u8 (D.getD t 0)) := by
  intro t ht
  by_cases e3 : t = 4 * k + 3
  · subst e3; rw [List.getElem?_set_self (by simp; omega), hd]
  · rw [List.getElem?_set_ne (by omega)]
    by_cases e2 : t = 4 * k + 2
    · subst e2; rw [List.getElem?_set_self (by simp; omega), hc]
    · rw [List.getElem?_set_ne (by omega)]
      by_cases e1 : t = 4 * k + 1
      · subst e1; rw [List.getElem?_set_self (by simp; omega), hb]
      · rw [List.getElem?_set_ne (by omega)]
        by_cases e0 : t = 4 * k
        · subst e0; rw [List.getElem?_set_self (by omega), ha]
        · rw [List.getElem?_set_ne (by omega), h t (by omega)]

set_option maxHeartbeats 1000000 in
set_option maxRecDepth 100000 in
theorem digestW (s : St) (w : World) (g : Nat) (ty : TypeId) (tail : List Value) (hg : w.heap[g]? = some (.cells (uCells s ++ tail).toArray ty (0, 0))) :
    Calls Tryz.prog 119 #[.pointer (some ⟨g, 0, none⟩)] w
      fun e w' => e = .returned (.string (strOfNums (digL s))) ∧ Below w.heap.size w w' := by
  obtain ⟨i0, hi, hz0, hz1, hz2⟩ := info_parts infoByte
  have hgl := heap_lt hg
  go_enter Tryz.func119, Tryz.ntmps119
  go_wp2_with (at_make; refine wpList_make_full _ rfl _ _ 22 rfl w.heap.size 5 i0 (.int .u8 0) 1 Tryz.underlying22 hi hz0 hz1 .i64 .i64 _ _ 32 rfl rfl ?c1 ?c2 ?c3 ?c4 ?c5 ?_)
  case c1 => omega
  case c2 => omega
  case c3 => rw [hz2]; omega
  case c4 => unfold maxLen; omega
  case c5 => exact Nat.le_refl _
  intro w1 hown hgrow
  have hB1 : Below w.heap.size w w1 := (Below.refl _ w).grown hgrow (Nat.le_refl _) (fun k hk => by cases hk)
  obtain ⟨hrow, hlen⟩ := rowOf hown rfl
  generalize (madeCells #[Value.int IntKind.u8 0] 32).toList = L0 at hrow hlen
  have HR0 : Hid (w1.heap[w.heap.size]? = some (.cells L0.toArray 5 (0, 0))) := hrow
  have HL0 : Hid (L0.length = 32) := hlen
  have HB1 : Hid (Below w.heap.size w w1) := hB1
  clear hown hgrow hrow hlen hB1
  go_wp2_with fail
  go_loopw [8] (fun i wr => ∃ (k : Nat) (M : List Value), k ≤ 8 ∧ i = .int .i64 k ∧ M.length = 32 ∧ wr.heap[w.heap.size]? = some (.cells M.toArray 5 (0, 0)) ∧ (∀ t, t < 4 * k → M[t]? = some (.int .u8 ((digL s).getD t 0))) ∧ Below w.heap.size w wr)
    (fun i _ => 8 - (intOf i).toNat)
  case atStart => exact ⟨0, L0, Nat.zero_le _, rfl, HL0.out, HR0.out, fun j hj => by omega, HB1.out⟩
  case round =>
    clear HL0 HR0 HB1
    obtain ⟨k, M, hk, rfl, hM, hgr, hv, hb⟩ := hrel
    by_cases hlt : k < 8
    · have hck : wr.cell? ⟨g, k, none⟩ = some (.int .u32 (uI (s.row.getD k 0))) := by
        rw [hb.cell (p := ⟨g, k, none⟩) hgl]
        refine rowFacts hg k _ ?_
        rw [List.getElem?_append_left (show k < (uCells s).length from hlt)]
        exact row_at s k hlt
      have d0 := rowFacts hgr (4 * k) M[4 * k] (List.getElem?_eq_getElem (by omega))
      have d1 := rowFacts hgr (4 * k + 1) M[4 * k + 1] (List.getElem?_eq_getElem (by omega))
      have d2 := rowFacts hgr (4 * k + 2) M[4 * k + 2] (List.getElem?_eq_getElem (by omega))
      have d3 := rowFacts hgr (4 * k + 3) M[4 * k + 3] (List.getElem?_eq_getElem (by omega))
      have z0 := frozen_of_row wr _ (4 * k) _ _ hgr
      have z1 := frozen_of_row wr _ (4 * k + 1) _ _ hgr
      have z2 := frozen_of_row wr _ (4 * k + 2) _ _ hgr
      have z3 := frozen_of_row wr _ (4 * k + 3) _ _ hgr
      obtain ⟨q0, q1, q2, q3⟩ := digL_at s k hlt
      have HV : Hid _ := step4 hM hlt hv q0 q1 q2 q3
      have HG : Hid (∀ a b c d, ((((wr.setCell ⟨w.heap.size, 4 * k, none⟩ a).setCell ⟨w.heap.size, 4 * k + 1, none⟩ b).setCell ⟨w.heap.size, 4 * k + 2, none⟩ c).setCell ⟨w.heap.size, 4 * k + 3, none⟩ d).heap[w.heap.size]? = some (.cells ((((M.set (4 * k) a).set (4 * k + 1) b).set (4 * k + 2) c).set (4 * k + 3) d).toArray 5 (0, 0))) := fun a b c d => rowSet d (rowSet c (rowSet b (rowSet a hgr)))
      have HL : Hid (∀ a b c d, ((((M.set (4 * k) a).set (4 * k + 1) b).set (4 * k + 2) c).set (4 * k + 3) d).length = 32) := fun a b c d => by simpa using hM
      have HB : Hid (∀ n a b c d, Below w.heap.size w (((((wr.drewN n).setCell ⟨w.heap.size, 4 * k, none⟩ a).setCell ⟨w.heap.size, 4 * k + 1, none⟩ b).setCell ⟨w.heap.size, 4 * k + 2, none⟩ c).setCell ⟨w.heap.size, 4 * k + 3, none⟩ d)) := fun n a b c d => ((((below_drewN hb n).setCell (Nat.le_refl _) a).setCell (Nat.le_refl _) b).setCell (Nat.le_refl _) c).setCell (Nat.le_refl _) d
      generalize M[4 * k] = v0 at d0
      generalize M[4 * k + 1] = v1 at d1
      generalize M[4 * k + 2] = v2 at d2
      generalize M[4 * k + 3] = v3 at d3
      have f2 := uI_le (s.row.getD k 0)
      have f3 := uI_nonneg (s.row.getD k 0)
      generalize uI (s.row.getD k 0) = z at hck HV f2 f3
      clear hv hgr hb hM hg q0 q1 q2 q3
      go_wp2_with fail
      go_quiet (fail)
      go_wp2
      go_roundw
      case rel => exact ⟨k + 1, _, by omega, by go_num, HL.out _ _ _ _, HG.out _ _ _ _, HV.out, HB.out _ _ _ _ _⟩
      case measure => simp [intOf]; omega
    · have hv' : ∀ t, t < 32 → M[t]? = some (.int .u8 ((digL s).getD t 0)) := fun t ht => hv t (by omega)
      have hcv := run_convert_bytes_arg wr 22 5 Tryz.underlying22 Tryz.underlying5 w.heap.size 0 32 32 (digL s) rfl
        (fun t ht => by rw [Nat.zero_add]; exact rowFacts hgr t _ (hv' t ht)) 9 Tryz.underlying9
      have HB : Hid (Below w.heap.size w wr) := hb
      clear hgr hv hb hM hg hv'
      go_wp2
      go_ret
      exact ⟨rfl, HB.out⟩
/-- What ends a text of n bytes, taken in: the state behind. -/
def endSt (s : St) (r : ByteArray) (n : Nat) : St := more s (r ++ strOfNums (padL n))
set_option maxHeartbeats 1000000 in
set_option maxRecDepth 100000 in
theorem endW (s : St) (r : ByteArray) (n : Nat) (w w0 : World) (g B : Nat) (ty : TypeId) (hr : r.size ≤ 1000000) (hn : n ≤ 1900000000000) (hg : w.heap[g]? = some (.cells (workCells s r n).toArray ty (0, 0))) (hb : Below B w0 w) (hB : B ≤ g) (hk : Keys w0) (hkB : 1 < B) :
    Calls Tryz.prog 101 #[.pointer (some ⟨g, 0, none⟩)] w
      fun e w' => e = .returned (.string (strOfNums (digL (endSt s r n)))) ∧ Below B w0 w' := by
  have hgl := heap_lt hg
  have c9 := rowFacts hg 9 (.int .i64 n) rfl
  go_enter Tryz.func101, Tryz.ntmps101
  go_wp2_with fail
  refine (lastBytes n _ (by omega)).mono ?_
  rintro e w1 ⟨rfl, hb1⟩
  have hg1 : w1.heap[g]? = some (.cells (workCells s r n).toArray ty (0, 0)) := by rw [hb1.block g hgl, hg]
  have hB1 : Below B w0 w1 := hb.trans (hb1.mono (by omega))
  have hps : (strOfNums (padL n)).size ≤ 900000 := by
    rw [strOfNums_size, padL_len]
    unfold zerosOf
    omega
  have HG : Hid (w1.heap[g]? = some (.cells (workCells s r n).toArray ty (0, 0))) := hg1
  have HB : Hid (Below B w0 w1) := hB1
  have HK : Hid (Keys w0) := hk
  clear hg1 hB1 hb1 hg hb c9 hk
  go_wp2_with fail
  refine (takeW s r (strOfNums (padL n)) n w1 w0 g B ty hr hps (by omega) (by omega) HG.out HB.out hB HK.out hkB).mono ?_
  rintro e w2 ⟨rfl, hg2, hb2⟩
  have HG2 : Hid (w2.heap[g]? = some (.cells (uCells (endSt s r n) ++ [Value.string (restOf (r ++ strOfNums (padL n))), Value.int .i64 (n + (strOfNums (padL n)).size)]).toArray ty (0, 0))) := hg2
  have HB2 : Hid (Below B w0 w2) := hb2
  have hgl2 := heap_lt hg2
  clear hg2 hb2
  go_wp2_with fail
  refine (digestW (endSt s r n) w2 g ty _ HG2.out).mono ?_
  rintro e w3 ⟨rfl, hb3⟩
  have HB3 : Hid (Below B w0 w3) := HB2.out.trans (hb3.mono (by omega))
  clear hb3
  go_wp2
  go_ret
  exact ⟨rfl, HB3.out⟩
end Go.Proofs.YtjkmfjegphpjkaaGreatDoor
namespace Go.Proofs.YtjkmfjegphpjkaaGreatDoor
open Go.RowKit

theorem beginW (w : World) :
    Calls Tryz.prog 99 #[] w fun e w' => e = .returned (.agg #[.int .u32 1779033703, .int .u32 3144134277, .int .u32 1013904242, .int .u32 2773480762, .int .u32 1359893119, .int .u32 2600822924, .int .u32 528734635, .int .u32 1541459225, .string ⟨#[]⟩, .int .i64 0]) ∧ Below w.heap.size w w' := by
  go_enter Tryz.func99, Tryz.ntmps99
  go_wp2
  go_returns
  exact ⟨rfl, (Below.refl _ w).alloc (Nat.le_refl _) _⟩
/-- The digest of a text. -/
def digOf (t : ByteArray) : ByteArray := strOfNums (digL (endSt (more st0 t) (restOf t) t.size))
theorem empty_append (t : ByteArray) : ByteArray.empty ++ t = t := by
  apply ByteArray.ext
  simp
end Go.Proofs.YtjkmfjegphpjkaaGreatDoor
namespace Go.Proofs.YtjkmfjegphpjkaaGreatDoor
open Go.RowKit

theorem putF_len : ∀ f x, (putF f x).length ≤ f + 1
  | 0, x => by simp [putF]
  | f + 1, x => by
    rw [putF]
    split
    · simp
    · have := putF_len f (x / 128)
      simp
      omega
def putS (n : Int) : ByteArray := strOfNums (putF 9 (foldI n))
theorem putS_size (n : Int) : (putS n).size ≤ 10 := by unfold putS; rw [strOfNums_size]; exact putF_len 9 _
end Go.Proofs.YtjkmfjegphpjkaaGreatDoor
namespace Go.Proofs.YtjkmfjegphpjkaaGreatDoor
open Go.RowKit

/-- The number of a text's first k bytes, the highest first. -/
def bnum (d : ByteArray) : Nat → Nat
  | 0 => 0
  | k + 1 => 256 * bnum d k + (byteAt d k).toNat
theorem bnum_lt (d : ByteArray) : ∀ k, bnum d k < 256 ^ k
  | 0 => by simp [bnum]
  | k + 1 => by
    have h := bnum_lt d k
    have h2 := (byteAt d k).toNat_lt
    rw [bnum, Nat.pow_succ]
    omega
theorem bnum_le (d : ByteArray) {k : Nat} (h : k ≤ 6) : bnum d k < 281474976710656 :=
  Nat.lt_of_lt_of_le (bnum_lt d k) (Nat.pow_le_pow_right (i := k) (j := 6) (n := 256) (by omega) h)
theorem i64_join (n c : Nat) (hn : n < 281474976710656) (hc : c < 256) : bits .or .i64 ((n : Int) * 256) (c : Int) = ((256 * n + c : Nat) : Int) := by
  have hx : 256 * n ||| c = 256 * n + c := nat_join 8 _ _ (Nat.mul_mod_right 256 n) hc
  have e1 : ((n : Int) * 256) = ((256 * n : Nat) : Int) := by omega
  rw [e1]
  show IntKind.i64.wrap ((BitVec.ofInt 64 ((256 * n : Nat) : Int) ||| BitVec.ofInt 64 (c : Int)).toNat : Int) = _
  rw [BitVec.toNat_or, ofInt_u64 _ (by omega), ofInt_u64 c (by omega), hx, IntKind.wrap_i64]
  omega
def dnum (t : ByteArray) : Nat := bnum (digOf t) 7
theorem dnum_lt (t : ByteArray) : dnum t < 72057594037927936 := bnum_lt (digOf t) 7
theorem digOf_size (t : ByteArray) : (digOf t).size = 32 := by unfold digOf; rw [strOfNums_size, digL_len]
def chal (r key : Int) (t : ByteArray) : Nat := dnum (putS r ++ putS key ++ t) % 1073741789
theorem chal_lt (r key : Int) (t : ByteArray) : chal r key t < 1073741789 := Nat.mod_lt _ (by omega)
def powK (x : Int) (t : ByteArray) : Nat := 1 + dnum (⟨#[75]⟩ ++ putS x ++ t) % 1073741788
theorem powK_lt (x : Int) (t : ByteArray) : 1 ≤ powK x t ∧ powK x t < 1073741789 := by
  unfold powK
  have := Nat.mod_lt (dnum (⟨#[75]⟩ ++ putS x ++ t)) (show 0 < 1073741788 by omega)
  omega
def challA (r key : Int) (t : ByteArray) : Int := if t.size ≤ 20000 ∧ unitB r = true ∧ unitB key = true then (chal r key t : Int) else 0
def signE (x : Nat) (t : ByteArray) : Nat := chal ((pm 4 (powK x t) 2147483579 : Nat) : Int) ((pm 4 x 2147483579 : Nat) : Int) t
def signS (x : Nat) (t : ByteArray) : Nat := (powK x t + signE x t * x) % 1073741789
def signV (x : Int) (t : ByteArray) : Value :=
  if t.size ≤ 20000 ∧ secB x = true then sigV ((pm 4 x.toNat 2147483579 : Nat) : Int) (signE x.toNat t) (signS x.toNat t) else sigV 0 0 0
/-- What a right signature's own numbers lead to. -/
def backR (k e s : Int) : Nat := pm 4 s.toNat 2147483579 * pm k.toNat (1073741789 - e.toNat) 2147483579 % 2147483579
def sigCB (k e s : Int) (t : ByteArray) : Bool := decide (t.size ≤ 20000) && (sigRB k e s && decide ((chal (backR k e s : Int) k t : Int) = e))
theorem back_unit {k e s : Nat} (hk : pm k 1073741789 2147483579 = 1) : unitB ((backR k e s : Nat) : Int) = true := by
  unfold backR
  refine unit_of (Nat.mod_lt _ (by omega)) ?_
  rw [pm_prod, pm_in (by omega) pm4, pm_in (by omega) (by rw [Int.toNat_natCast]; exact hk)]
theorem back_mul {k e s : Nat} (hk : pm k 1073741789 2147483579 = 1) :
    gmulA ((pm 4 s 2147483579 : Nat) : Int) ((pm k (1073741789 - e) 2147483579 : Nat) : Int) = ((backR k e s : Nat) : Int) := by
  rw [gmulA_nat _ _ (unit_pow pm4 s) (unit_pow hk _)]
  rfl
/-- What a secret has signed passes with its key. -/
theorem sign_passes {x : Nat} {t : ByteArray} (h1 : 1 ≤ x) (h2 : x < 1073741789) (ht : t.size ≤ 20000) :
    sigRB ((pm 4 x 2147483579 : Nat) : Int) (signE x t) (signS x t) = true ∧ sigCB ((pm 4 x 2147483579 : Nat) : Int) (signE x t) (signS x t) t = true := by
  have he : signE x t < 1073741789 := chal_lt _ _ _
  have hs : signS x t < 1073741789 := Nat.mod_lt _ (by omega)
  have hr : sigRB ((pm 4 x 2147483579 : Nat) : Int) (signE x t) (signS x t) = true := by
    unfold sigRB
    rw [pub_right h1 h2, show remB (signE x t : Int) = true from decide_eq_true ⟨by omega, by omega⟩, show remB (signS x t : Int) = true from decide_eq_true ⟨by omega, by omega⟩]
    rfl
  refine ⟨hr, ?_⟩
  have hb : backR ((pm 4 x 2147483579 : Nat) : Int) (signE x t) (signS x t) = pm 4 (powK x t) 2147483579 := by
    unfold backR
    rw [Int.toNat_natCast, Int.toNat_natCast, Int.toNat_natCast]
    exact sig_back (g := 4) (q := 1073741789) (p := 2147483579) (k := powK x t) (e := signE x t) (x := x) (by omega) pm4 he
  unfold sigCB
  rw [hr, hb, decide_eq_true ht]
  exact decide_eq_true rfl
end Go.Proofs.YtjkmfjegphpjkaaGreatDoor
namespace Go.Proofs.YtjkmfjegphpjkaaGreatDoor
open Go.RowKit

theorem powK_eq (x : Int) (t p : ByteArray) (h : putS x = p) : dnum (⟨#[75]⟩ ++ p ++ t) % 1073741788 + 1 = powK x t := by
  subst h
  exact Nat.add_comm _ _
theorem signV_no {x : Int} {t : ByteArray} (h : ¬ (t.size ≤ 20000 ∧ secB x = true)) : signV x t = sigV 0 0 0 := by rw [signV, if_neg h]
theorem signV_nat {x : Nat} {t : ByteArray} (ht : t.size ≤ 20000) (h : secB (x : Int) = true) : signV x t = sigV ((pm 4 x 2147483579 : Nat) : Int) (signE x t) (signS x t) := by
  rw [signV, if_pos ⟨ht, h⟩, Int.toNat_natCast]
theorem backR_nat (k e s : Nat) : backR k e s = pm 4 s 2147483579 * pm k (1073741789 - e) 2147483579 % 2147483579 := by
  unfold backR
  rw [Int.toNat_natCast, Int.toNat_natCast, Int.toNat_natCast]
theorem sigCB_long {k e s : Int} {t : ByteArray} (h : 20000 < t.size) : sigCB k e s t = false := by
  unfold sigCB
  rw [decide_eq_false (by omega)]
  rfl
theorem sigCB_wrong {k e s : Int} {t : ByteArray} (h : sigRB k e s = false) : sigCB k e s t = false := by
  unfold sigCB
  rw [h, Bool.false_and, Bool.and_false]
theorem sigCB_right {k e s : Int} {t : ByteArray} (ht : t.size ≤ 20000) (h : sigRB k e s = true) : sigCB k e s t = decide ((chal (backR k e s : Int) k t : Int) = e) := by
  unfold sigCB
  rw [h, decide_eq_true ht, Bool.true_and, Bool.true_and]
theorem sigRB_nat {k e s : Int} (h : sigRB k e s = true) : ∃ K E S : Nat, k = (K : Int) ∧ e = (E : Int) ∧ s = (S : Int) ∧ K < 2147483579 ∧ E < 1073741789 ∧ S < 1073741789 ∧ pm K 1073741789 2147483579 = 1 := by
  unfold sigRB at h
  rw [Bool.and_eq_true, Bool.and_eq_true] at h
  obtain ⟨⟨h1, h2⟩, h3⟩ := h
  obtain ⟨x, rfl, _, x2, x3⟩ := rightG_nat h1
  have h2' : 0 ≤ e ∧ e < 1073741789 := of_decide_eq_true h2
  have h3' : 0 ≤ s ∧ s < 1073741789 := of_decide_eq_true h3
  exact ⟨x, e.toNat, s.toNat, rfl, by omega, by omega, x2, by omega, by omega, x3⟩
end Go.Proofs.YtjkmfjegphpjkaaGreatDoor
namespace Go.Proofs.YtjkmfjegphpjkaaGreatDoor
open Go.RowKit


theorem specFold (n : Int) (w : World) (h0 : -9223372036854775808 ≤ n) (h1 : n ≤ 9223372036854775807) :
    Calls Tryz.prog 89 #[.int .i64 n] w fun e w' => e = .returned (.int .u64 (foldI n : Int)) ∧ w' = w := by
  by_cases hn : n < 0
  · go_enter Tryz.func89, Tryz.ntmps89
    go_wp2
    go_ret
    exact ⟨ret_int (by unfold foldI; rw [if_pos hn]; omega), rfl⟩
  · go_enter Tryz.func89, Tryz.ntmps89
    go_wp2
    go_ret
    exact ⟨ret_int (by unfold foldI; rw [if_neg (by omega)]; omega), rfl⟩

theorem putRel {B : Nat} {w wr w1 : World} {v v' : Value} {xs : List Int} {x : Int} (o : Obj) (hB : B ≤ wr.heap.size) (hb : Below B w wr) (hown : wr.ownsRow B 5 1 v xs.length (xs.map (Value.int .u8)))
    (hown' : w1.ownsRow B 5 1 v' (xs.length + 1) (xs.map (Value.int .u8) ++ [Value.int .u8 x])) (hg : (wr.alloc o).grownBy w1 v.ownBlock) :
    w1.ownsRow B 5 1 v' (xs ++ [x]).length ((xs ++ [x]).map (Value.int .u8)) ∧ Below B w w1 ∧ B ≤ w1.heap.size := by
  refine ⟨by simpa using hown', (hb.alloc hB o).grown hg (by simp; omega) (fun k hk => (hown.lt k hk).1), ?_⟩
  have := hg.size
  simp at this
  omega

set_option maxHeartbeats 1000000 in
set_option maxRecDepth 100000 in
theorem specPut (n : Int) (w : World) (h0 : -9223372036854775808 ≤ n) (h1 : n ≤ 9223372036854775807) :
    Calls Tryz.prog 64 #[.int .i64 n] w fun e w' => e = .returned (.string (strOfNums (putF 9 (foldI n)))) ∧ Below w.heap.size w w' := by
  obtain ⟨i0, hi, hz0, hz1, hz2⟩ := info_parts infoByte
  have hf : (foldI n : Int) ≤ 18446744073709551615 := by unfold foldI; split <;> omega
  obtain ⟨u, hu⟩ : ∃ u, u = foldI n := ⟨_, rfl⟩
  rw [← hu] at hf ⊢
  have HU : Hid (u = foldI n) := hu
  clear hu
  go_enter Tryz.func64, Tryz.ntmps64
  go_wp2_with fail
  refine (specFold n _ h0 h1).mono ?_
  rintro e w' ⟨rfl, rfl⟩
  rw [← HU.out]
  go_wp2_with fail
  go_loopw [3, 4] (fun a b wr => ∃ (x f : Nat) (xs : List Int), (x : Int) ≤ 18446744073709551615 ∧ x < pw f ∧ xs.length + f ≤ 9 ∧ a = .int .u64 x ∧ wr.ownsRow w'.heap.size 5 1 b xs.length (xs.map (Value.int .u8)) ∧
      Below w'.heap.size w' wr ∧ w'.heap.size ≤ wr.heap.size ∧ xs ++ putF f x = putF 9 u)
    (fun a _ _ => (intOf a).toNat)
  case atStart =>
    exact ⟨u, 9, [], hf, by rw [pw9]; omega, by simp, rfl, World.ownsRow_made _ #[] 0 (Nat.le_refl _) (Nat.zero_le _) rfl, (Below.refl _ _).alloc (Nat.le_refl _) _, by simp, by simp⟩
  case round =>
    obtain ⟨x, f, xs, hx, hpw, hlen, rfl, hown, hbel, hsz, heq⟩ := hrel
    have HE : Hid (xs ++ putF f x = putF 9 u) := heq
    have HP : Hid (x < pw f) := hpw
    clear heq hpw hf h0 h1
    by_cases hlt : 128 ≤ x
    · go_wp2_with (at_builtin; refine wpList_append_own _ rfl _ _ 22 rfl w'.heap.size 5 i0 (.int .u8 0) 1 1 Tryz.underlying22 hi hz0 hz1 hz2 rfl (by decide) _ _ _ rfl (hown.alloc _) ⟨wr.heap.size, 0, none⟩ 1 1 [.int .u8 ((x : Int) % 128 + 128)] rfl rfl ?c1 ?c2 ?c3 ?c4 ?c5 ?_)
      case c1 => exact cells_one (by simp)
      case c2 => intro u hu; simp at hu; subst hu; rfl
      case c3 => unfold maxLen; omega
      case c4 => omega
      case c5 => simp; omega
      intro v' w1 hown' hgrow _
      have R := putRel _ hsz hbel hown hown' hgrow
      clear hown' hgrow hown hbel
      go_wp2
      go_roundw
      case rel =>
        obtain ⟨g, rfl, hg⟩ := pw_step HP.out hlt
        have he := HE.out
        rw [putF_more hlt] at he
        refine ⟨x / 128, g, xs ++ [(x : Int) % 128 + 128], by omega, hg, by simp; omega, by go_num, R.1, R.2.1, R.2.2, ?_⟩
        rw [List.append_assoc, ← he]
        simp
      case measure => simp [intOf]; omega
    · go_wp2_with (at_builtin; refine wpList_append_own _ rfl _ _ 22 rfl w'.heap.size 5 i0 (.int .u8 0) 1 1 Tryz.underlying22 hi hz0 hz1 hz2 rfl (by decide) _ _ _ rfl (hown.alloc _) ⟨wr.heap.size, 0, none⟩ 1 1 [.int .u8 (x : Int)] rfl rfl ?d1 ?d2 ?d3 ?d4 ?d5 ?_)
      case d1 => exact cells_one (by simp)
      case d2 => intro u hu; simp at hu; subst hu; rfl
      case d3 => unfold maxLen; omega
      case d4 => omega
      case d5 => simp; omega
      intro v' w1 hown' hgrow _
      have R := putRel _ hsz hbel hown hown' hgrow
      clear hown' hgrow hown hbel
      have hcv := run_convert_own (P := Tryz.prog) (src := 22) (dst := 9) Tryz.underlying22 Tryz.underlying5 Tryz.underlying9 R.1
      have HR := R.2.1
      clear R
      go_wp2
      go_ret
      refine ⟨?_, HR⟩
      have he := HE.out
      rw [putF_last (by omega)] at he
      rw [← he]
      rfl
end Go.Proofs.YtjkmfjegphpjkaaGreatDoor
namespace Go.Proofs.YtjkmfjegphpjkaaGreatDoor
open Go.RowKit

theorem implFold (n : Int) (w : World) (h0 : -9223372036854775808 ≤ n) (h1 : n ≤ 9223372036854775807) :
    Calls Tryz.prog 85 #[.int .i64 n] w fun e w' => e = .returned (.int .u64 (foldI n : Int)) ∧ w' = w := by
  by_cases hn : n < 0
  · go_enter Tryz.func85, Tryz.ntmps85
    go_wp2
    go_ret
    exact ⟨ret_int (fold_bits_neg n h0 hn), rfl⟩
  · go_enter Tryz.func85, Tryz.ntmps85
    go_wp2
    go_ret
    exact ⟨ret_int (fold_bits_pos n h1 (by omega)), rfl⟩

theorem arr10 : Tryz.prog.arrayLen 90 = 10 := by kernel_rfl
theorem size_elem10 (w : World) : (sizeOf (Tryz.prog.elem 90)).run Tryz.prog w = .ok 1 w := by kernel_rfl
theorem under10 : Tryz.prog.underlying 90 = some (.array (Tryz.prog.arrayLen 90) (Tryz.prog.elem 90)) := by kernel_rfl
theorem slice10 (w : World) (b k : Nat) (hk : k < 10) :
    (Instr.sliceAt 90 (.pointer (some ⟨b, 0, none⟩)) none (some (.int .i64 ((k : Int) + 1))) none).run Tryz.prog w = .ok (.slice (some ⟨b, 0, none⟩) (k + 1) 10) w := by
  rw [run_sliceAt_array_h w _ _ under10 .i64 _ (by omega) (by rw [arr10]; omega), size_elem10]
  simp only [Result.andThen_ok, slicedAt, arr10]
  simp [Addr.add]

set_option maxHeartbeats 1000000 in
set_option maxRecDepth 100000 in
theorem implPut (n : Int) (w : World) (h0 : -9223372036854775808 ≤ n) (h1 : n ≤ 9223372036854775807) :
    Calls Tryz.prog 61 #[.int .i64 n] w fun e w' => e = .returned (.string (strOfNums (putF 9 (foldI n)))) ∧ Below w.heap.size w w' := by
  have hf : (foldI n : Int) ≤ 18446744073709551615 := by unfold foldI; split <;> omega
  obtain ⟨u, hu⟩ : ∃ u, u = foldI n := ⟨_, rfl⟩
  rw [← hu] at hf ⊢
  have HU : Hid (u = foldI n) := hu
  clear hu
  go_enter Tryz.func61, Tryz.ntmps61
  go_wp2_with fail
  refine (implFold n _ h0 h1).mono ?_
  rintro e w' ⟨rfl, rfl⟩
  rw [← HU.out]
  go_wp2_with fail
  go_loopw [4, 5] (fun s a wr => ∃ (x f : Nat) (xs : List Int) (L : List Value), (x : Int) ≤ 18446744073709551615 ∧ x < pw f ∧ xs.length + f ≤ 9 ∧ s = .int .i64 xs.length ∧ a = .int .u64 x ∧
      wr.ownsRow w.heap.size 90 1 (.slice (some ⟨w.heap.size, 0, none⟩) 10 10) 10 L ∧ (∀ j, j < xs.length → L[j]? = some (.int .u8 (xs.getD j 0))) ∧ Below w.heap.size w wr ∧ xs ++ putF f x = putF 9 u)
    (fun _ a _ => (intOf a).toNat)
  case atStart =>
    exact ⟨u, 9, [], _, hf, by rw [pw9]; omega, by simp, rfl, rfl, World.ownsRow_lit _ _ 10 (Nat.le_refl _) (by decide) rfl, by simp, (Below.refl _ _).alloc (Nat.le_refl _) _, by simp⟩
  case round =>
    obtain ⟨x, f, xs, L, hx, hpw, hlen, rfl, rfl, hown, hL, hbel, heq⟩ := hrel
    have HE : Hid (xs ++ putF f x = putF 9 u) := heq
    have HP : Hid (x < pw f) := hpw
    have HL : Hid (∀ j, j < xs.length → L[j]? = some (.int .u8 (xs.getD j 0))) := hL
    have hlL : L.length = 10 := by simpa using hown.1
    have hc := hown.cellAt xs.length (by omega)
    rw [List.getElem?_eq_getElem (by omega)] at hc
    obtain ⟨v0, hv0⟩ : ∃ v, wr.cell? ⟨w.heap.size, xs.length, none⟩ = some v := ⟨_, hc⟩
    have hfz := hown.frozenAt xs.length
    have hor := or128 x
    clear heq hpw hL hf h0 h1 hc hlL
    have hst := fun v => hown.stored xs.length v
    have HS : Hid (∀ v, (wr.setCell ⟨w.heap.size, xs.length, none⟩ v).ownsRow w.heap.size 90 1 (.slice (some ⟨w.heap.size, 0, none⟩) 10 10) 10 (L.set xs.length v)) := fun v => (hst v).1
    have hb2 : Hid (∀ v, Below w.heap.size w (wr.setCell ⟨w.heap.size, xs.length, none⟩ v)) := fun v => hbel.setCell (Nat.le_refl _) v
    have HL2 : Hid (∀ y : Int, ∀ j, j < (xs ++ [y]).length → (L.set xs.length (.int .u8 y))[j]? = some (.int .u8 ((xs ++ [y]).getD j 0))) := fun y => set_reads (by have := hown.1; omega) HL.out
    clear hst hown hbel HL
    by_cases hlt : 128 ≤ x
    · go_wp2
      go_roundw
      case rel =>
        obtain ⟨g, rfl, hg⟩ := pw_step HP.out hlt
        have he := HE.out
        rw [putF_more hlt] at he
        refine ⟨x / 128, g, xs ++ [(x : Int) % 128 + 128], _, by omega, hg, by simp; omega, by simp, by go_num, HS.out _, HL2.out _, hb2.out _, ?_⟩
        rw [List.append_assoc, ← he]
        simp
      case measure => simp [intOf]; omega
    · have hcv : ∀ W : World, (∀ j, j < xs.length + 1 → W.cell? ⟨w.heap.size, j, none⟩ = some (.int .u8 ((xs ++ [(x : Int)]).getD j 0))) →
          (convert 22 9 (.slice (some ⟨w.heap.size, 0, none⟩) (xs.length + 1) 10)).run Tryz.prog W = .ok (.string (strOfNums (xs ++ [(x : Int)]))) W := fun W hW =>
        run_convert_bytes_arg W 22 5 Tryz.underlying22 Tryz.underlying5 w.heap.size 0 (xs.length + 1) 10 (xs ++ [(x : Int)]) (by simp) (fun j hj => by rw [Nat.zero_add]; exact hW j hj) 9 Tryz.underlying9
      have hcv1 := hcv (wr.setCell ⟨w.heap.size, xs.length, none⟩ (.int .u8 (x : Int))) (fun j hj => by
        rw [(HS.out (.int .u8 (x : Int))).cellAt j (by omega), HL2.out (x : Int) j (by simpa using hj)])
      have hsl := fun W => slice10 W w.heap.size xs.length (by omega)
      clear hcv
      go_wp2
      go_ret
      refine ⟨?_, hb2.out _⟩
      have he := HE.out
      rw [putF_last (by omega)] at he
      rw [← he]
      rfl
end Go.Proofs.YtjkmfjegphpjkaaGreatDoor
namespace Go.Proofs.YtjkmfjegphpjkaaGreatDoor
open Go.RowKit

theorem tooLong (s : ByteArray) (w : World) (hs : s.size ≤ maxLen) :
    Calls Tryz.prog 25 #[.string s] w fun e w' => e = .returned (.bool (decide (20000 < s.size))) ∧ w' = w := by
  unfold maxLen at hs
  go_enter Tryz.func25, Tryz.ntmps25
  go_wp2
  go_ret
  exact ⟨by simp; omega, rfl⟩
end Go.Proofs.YtjkmfjegphpjkaaGreatDoor
