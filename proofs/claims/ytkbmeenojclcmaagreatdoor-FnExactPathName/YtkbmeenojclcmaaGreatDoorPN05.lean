/- The digest of a state, walked: (*hashState).digest; (*hashWork).end. impl.beginWork, walked; what a digest is. The number of a digest; challenges and signatures as they are answered: plain mathematics. Signatures as they are answered: plain mathematics. Is a paper good? Plain mathematics: no program is named here. What is asked for, and lists of what is taken back: which are right but for what their signatures tell, their bodies and bytes. Plain mathematics: no program is named here. What is asked for, and lists of what is taken back: which of them check. Plain mathematics: no program is named here. Is a paper good: plain mathematics, no program is named here. How large what a path is asked of may be. One of a paper's names: plain mathematics; slices.Index, slices.Contains, walked. What the program's table of types says of int64. A row of whole numbers: what is said of it. -/
import Derived.Test.YtkbmeenojclcmaaGreatDoorPN04
import Derived.Test.YtkbmeenojclcmaaGreatDoorPN02
import Derived.Test.YtkbmeenojclcmaaGreatDoorPN03
import Derived.Test.YtkbmeenojclcmaaGreatDoorPN01
import Derived.Handy
import Derived.Deep.QuietTactic
import Derived.BigQuiet
namespace Go.Proofs.YtkbmeenojclcmaaGreatDoor
open Go.RowKit

theorem digL_at (s : St) (k : Nat) (h : k < 8) : (digL s).getD (4 * k) 0 = uI (s.row.getD k 0) / 16777216 ∧ (digL s).getD (4 * k + 1) 0 = uI (s.row.getD k 0) / 65536 % 256 ∧ (digL s).getD (4 * k + 2) 0 = uI (s.row.getD k 0) / 256 % 256 ∧ (digL s).getD (4 * k + 3) 0 = uI (s.row.getD k 0) % 256 := by
  rcases (by omega : k = 0 ∨ k = 1 ∨ k = 2 ∨ k = 3 ∨ k = 4 ∨ k = 5 ∨ k = 6 ∨ k = 7) with rfl | rfl | rfl | rfl | rfl | rfl | rfl | rfl <;> exact ⟨rfl, rfl, rfl, rfl⟩
theorem digL_len (s : St) : (digL s).length = 32 := rfl
theorem step4 {M : List Value} {D : List Int} {k : Nat} {a b c d : Int} (hM : M.length = 32) (hk : k < 8) (h : ∀ t, t < 4 * k → M[t]? = some (.int .u8 (D.getD t 0)))
    (ha : D.getD (4 * k) 0 = a) (hb : D.getD (4 * k + 1) 0 = b) (hc : D.getD (4 * k + 2) 0 = c) (hd : D.getD (4 * k + 3) 0 = d) :
    ∀ t, t < 4 * (k + 1) → ((((M.set (4 * k) (.int .u8 a)).set (4 * k + 1) (.int .u8 b)).set (4 * k + 2) (.int .u8 c)).set (4 * k + 3) (.int .u8 d))[t]? = some (.int .u8 (D.getD t 0)) := by
  intro t ht
  by_cases e3 : t = 4 * k + 3
  · subst e3; rw [List.getElem?_set_self (by simp; omega), hd]
  · rw [List.getElem?_set_ne (by omega)]
    by_cases e2 : t = 4 * k + 2
    · subst e2; rw [List.getElem?_set_self (by simp; omega), hc]
    · rw [List.getElem?_set_ne (by omega)]
      by_cases e1 : t = 4 * k + 1
      · subst e1; rw [List.getElem?_set_self (by simp; omega), hb]
      · rw [List.getElem?_set_ne (by omega)]
        by_cases e0 : t = 4 * k
        · subst e0; rw [List.getElem?_set_self (by omega), ha]
        · rw [List.getElem?_set_ne (by omega), h t (by omega)]

set_option maxHeartbeats 1000000 in
set_option maxRecDepth 100000 in
theorem digestW (s : St) (w : World) (g : Nat) (ty : TypeId) (tail : List Value) (hg : w.heap[g]? = some (.cells (uCells s ++ tail).toArray ty (0, 0))) :
    Calls Tryz.prog 135 #[.pointer (some ⟨g, 0, none⟩)] w
      fun e w' => e = .returned (.string (strOfNums (digL s))) ∧ Below w.heap.size w w' := by
  obtain ⟨i0, hi, hz0, hz1, hz2⟩ := info_parts infoByte
  have hgl := heap_lt hg
  go_enter Tryz.func135, Tryz.ntmps135
  go_wp2_with (at_make; refine wpList_make_full _ rfl _ _ 94 rfl w.heap.size 5 i0 (.int .u8 0) 1 Tryz.underlying94 hi hz0 hz1 .i64 .i64 _ _ 32 rfl rfl ?c1 ?c2 ?c3 ?c4 ?c5 ?_)
  case c1 => omega
  case c2 => omega
  case c3 => rw [hz2]; omega
  case c4 => unfold maxLen; omega
  case c5 => exact Nat.le_refl _
  intro w1 hown hgrow
  have hB1 : Below w.heap.size w w1 := (Below.refl _ w).grown hgrow (Nat.le_refl _) (fun k hk => by cases hk)
  obtain ⟨hrow, hlen⟩ := rowOf hown rfl
  generalize (madeCells #[Value.int IntKind.u8 0] 32).toList = L0 at hrow hlen
  have HR0 : Hid (w1.heap[w.heap.size]? = some (.cells L0.toArray 5 (0, 0))) := hrow
  have HL0 : Hid (L0.length = 32) := hlen
  have HB1 : Hid (Below w.heap.size w w1) := hB1
  clear hown hgrow hrow hlen hB1
  go_wp2_with fail
  go_loopw [8] (fun i wr => ∃ (k : Nat) (M : List Value), k ≤ 8 ∧ i = .int .i64 k ∧ M.length = 32 ∧ wr.heap[w.heap.size]? = some (.cells M.toArray 5 (0, 0)) ∧ (∀ t, t < 4 * k → M[t]? = some (.int .u8 ((digL s).getD t 0))) ∧ Below w.heap.size w wr)
    (fun i _ => 8 - (intOf i).toNat)
  case atStart => exact ⟨0, L0, Nat.zero_le _, rfl, HL0.out, HR0.out, fun j hj => by omega, HB1.out⟩
  case round =>
    clear HL0 HR0 HB1
    obtain ⟨k, M, hk, rfl, hM, hgr, hv, hb⟩ := hrel
    by_cases hlt : k < 8
    · have hck : wr.cell? ⟨g, k, none⟩ = some (.int .u32 (uI (s.row.getD k 0))) := by
        rw [hb.cell (p := ⟨g, k, none⟩) hgl]
        refine rowFacts hg k _ ?_
        rw [List.getElem?_append_left (show k < (uCells s).length from hlt)]
        exact row_at s k hlt
      have d0 := rowFacts hgr (4 * k) M[4 * k] (List.getElem?_eq_getElem (by omega))
      have d1 := rowFacts hgr (4 * k + 1) M[4 * k + 1] (List.getElem?_eq_getElem (by omega))
      have d2 := rowFacts hgr (4 * k + 2) M[4 * k + 2] (List.getElem?_eq_getElem (by omega))
      have d3 := rowFacts hgr (4 * k + 3) M[4 * k + 3] (List.getElem?_eq_getElem (by omega))
      have z0 := frozen_of_row wr _ (4 * k) _ _ hgr
      have z1 := frozen_of_row wr _ (4 * k + 1) _ _ hgr
      have z2 := frozen_of_row wr _ (4 * k + 2) _ _ hgr
      have z3 := frozen_of_row wr _ (4 * k + 3) _ _ hgr
      obtain ⟨q0, q1, q2, q3⟩ := digL_at s k hlt
      have HV : Hid _ := step4 hM hlt hv q0 q1 q2 q3
      have HG : Hid (∀ a b c d, ((((wr.setCell ⟨w.heap.size, 4 * k, none⟩ a).setCell ⟨w.heap.size, 4 * k + 1, none⟩ b).setCell ⟨w.heap.size, 4 * k + 2, none⟩ c).setCell ⟨w.heap.size, 4 * k + 3, none⟩ d).heap[w.heap.size]? = some (.cells ((((M.set (4 * k) a).set (4 * k + 1) b).set (4 * k + 2) c).set (4 * k + 3) d).toArray 5 (0, 0))) := fun a b c d => rowSet d (rowSet c (rowSet b (rowSet a hgr)))
      have HL : Hid (∀ a b c d, ((((M.set (4 * k) a).set (4 * k + 1) b).set (4 * k + 2) c).set (4 * k + 3) d).length = 32) := fun a b c d => by simpa using hM
      have HB : Hid (∀ n a b c d, Below w.heap.size w (((((wr.drewN n).setCell ⟨w.heap.size, 4 * k, none⟩ a).setCell ⟨w.heap.size, 4 * k + 1, none⟩ b).setCell ⟨w.heap.size, 4 * k + 2, none⟩ c).setCell ⟨w.heap.size, 4 * k + 3, none⟩ d)) := fun n a b c d => ((((below_drewN hb n).setCell (Nat.le_refl _) a).setCell (Nat.le_refl _) b).setCell (Nat.le_refl _) c).setCell (Nat.le_refl _) d
      generalize M[4 * k] = v0 at d0
      generalize M[4 * k + 1] = v1 at d1
      generalize M[4 * k + 2] = v2 at d2
      generalize M[4 * k + 3] = v3 at d3
      have f2 := uI_le (s.row.getD k 0)
      have f3 := uI_nonneg (s.row.getD k 0)
      generalize uI (s.row.getD k 0) = z at hck HV f2 f3
      clear hv hgr hb hM hg q0 q1 q2 q3
      go_wp2_with fail
      go_quiet (fail)
      go_wp2
      go_roundw
      case rel => exact ⟨k + 1, _, by omega, by go_num, HL.out _ _ _ _, HG.out _ _ _ _, HV.out, HB.out _ _ _ _ _⟩
      case measure => simp [intOf]; omega
    · have hv' : ∀ t, t < 32 → M[t]? = some (.int .u8 ((digL s).getD t 0)) := fun t ht => hv t (by omega)
      have hcv := run_convert_bytes_arg wr 94 5 Tryz.underlying94 Tryz.underlying5 w.heap.size 0 32 32 (digL s) rfl
        (fun t ht => by rw [Nat.zero_add]; exact rowFacts hgr t _ (hv' t ht)) 9 Tryz.underlying9
      have HB : Hid (Below w.heap.size w wr) := hb
      clear hgr hv hb hM hg hv'
      go_wp2
      go_ret
      exact ⟨rfl, HB.out⟩
/-- What ends a text of n bytes, taken in: the state behind. -/
def endSt (s : St) (r : ByteArray) (n : Nat) : St := more s (r ++ strOfNums (padL n))
set_option maxHeartbeats 1000000 in
set_option maxRecDepth 100000 in
theorem endW (s : St) (r : ByteArray) (n : Nat) (w w0 : World) (g B : Nat) (ty : TypeId) (hr : r.size ≤ 1000000) (hn : n ≤ 1900000000000) (hg : w.heap[g]? = some (.cells (workCells s r n).toArray ty (0, 0))) (hb : Below B w0 w) (hB : B ≤ g) (hk : Keys w0) (hkB : 3 < B) :
    Calls Tryz.prog 127 #[.pointer (some ⟨g, 0, none⟩)] w
      fun e w' => e = .returned (.string (strOfNums (digL (endSt s r n)))) ∧ Below B w0 w' := by
  have hgl := heap_lt hg
  have c9 := rowFacts hg 9 (.int .i64 n) rfl
  go_enter Tryz.func127, Tryz.ntmps127
  go_wp2_with fail
  refine (lastBytes n _ (by omega)).mono ?_
  rintro e w1 ⟨rfl, hb1⟩
  have hg1 : w1.heap[g]? = some (.cells (workCells s r n).toArray ty (0, 0)) := by rw [hb1.block g hgl, hg]
  have hB1 : Below B w0 w1 := hb.trans (hb1.mono (by omega))
  have hps : (strOfNums (padL n)).size ≤ 900000 := by
    rw [strOfNums_size, padL_len]
    unfold zerosOf
    omega
  have HG : Hid (w1.heap[g]? = some (.cells (workCells s r n).toArray ty (0, 0))) := hg1
  have HB : Hid (Below B w0 w1) := hB1
  have HK : Hid (Keys w0) := hk
  clear hg1 hB1 hb1 hg hb c9 hk
  go_wp2_with fail
  refine (takeW s r (strOfNums (padL n)) n w1 w0 g B ty hr hps (by omega) (by omega) HG.out HB.out hB HK.out hkB).mono ?_
  rintro e w2 ⟨rfl, hg2, hb2⟩
  have HG2 : Hid (w2.heap[g]? = some (.cells (uCells (endSt s r n) ++ [Value.string (restOf (r ++ strOfNums (padL n))), Value.int .i64 (n + (strOfNums (padL n)).size)]).toArray ty (0, 0))) := hg2
  have HB2 : Hid (Below B w0 w2) := hb2
  have hgl2 := heap_lt hg2
  clear hg2 hb2
  go_wp2_with fail
  refine (digestW (endSt s r n) w2 g ty _ HG2.out).mono ?_
  rintro e w3 ⟨rfl, hb3⟩
  have HB3 : Hid (Below B w0 w3) := HB2.out.trans (hb3.mono (by omega))
  clear hb3
  go_wp2
  go_ret
  exact ⟨rfl, HB3.out⟩
end Go.Proofs.YtkbmeenojclcmaaGreatDoor
namespace Go.Proofs.YtkbmeenojclcmaaGreatDoor
open Go.RowKit

theorem beginW (w : World) :
    Calls Tryz.prog 125 #[] w fun e w' => e = .returned (.agg #[.int .u32 1779033703, .int .u32 3144134277, .int .u32 1013904242, .int .u32 2773480762, .int .u32 1359893119, .int .u32 2600822924, .int .u32 528734635, .int .u32 1541459225, .string ⟨#[]⟩, .int .i64 0]) ∧ Below w.heap.size w w' := by
  go_enter Tryz.func125, Tryz.ntmps125
  go_wp2
  go_returns
  exact ⟨rfl, (Below.refl _ w).alloc (Nat.le_refl _) _⟩
/-- The digest of a text. -/
def digOf (t : ByteArray) : ByteArray := strOfNums (digL (endSt (more st0 t) (restOf t) t.size))
theorem empty_append (t : ByteArray) : ByteArray.empty ++ t = t := by
  apply ByteArray.ext
  simp
end Go.Proofs.YtkbmeenojclcmaaGreatDoor
namespace Go.Proofs.YtkbmeenojclcmaaGreatDoor
open Go.RowKit

/-- The number of a text's first k bytes, the highest first. -/
def bnum (d : ByteArray) : Nat → Nat
  | 0 => 0
  | k + 1 => 256 * bnum d k + (byteAt d k).toNat
theorem bnum_lt (d : ByteArray) : ∀ k, bnum d k < 256 ^ k
  | 0 => by simp [bnum]
  | k + 1 => by
    have h := bnum_lt d k
    have h2 := (byteAt d k).toNat_lt
    rw [bnum, Nat.pow_succ]
    omega
theorem bnum_le (d : ByteArray) {k : Nat} (h : k ≤ 6) : bnum d k < 281474976710656 :=
  Nat.lt_of_lt_of_le (bnum_lt d k) (Nat.pow_le_pow_right (i := k) (j := 6) (n := 256) (by omega) h)
theorem i64_join (n c : Nat) (hn : n < 281474976710656) (hc : c < 256) : bits .or .i64 ((n : Int) * 256) (c : Int) = ((256 * n + c : Nat) : Int) := by
  have hx : 256 * n ||| c = 256 * n + c := nat_join 8 _ _ (Nat.mul_mod_right 256 n) hc
  have e1 : ((n : Int) * 256) = ((256 * n : Nat) : Int) := by omega
  rw [e1]
  show IntKind.i64.wrap ((BitVec.ofInt 64 ((256 * n : Nat) : Int) ||| BitVec.ofInt 64 (c : Int)).toNat : Int) = _
  rw [BitVec.toNat_or, ofInt_u64 _ (by omega), ofInt_u64 c (by omega), hx, IntKind.wrap_i64]
  omega
def dnum (t : ByteArray) : Nat := bnum (digOf t) 7
theorem dnum_lt (t : ByteArray) : dnum t < 72057594037927936 := bnum_lt (digOf t) 7
theorem digOf_size (t : ByteArray) : (digOf t).size = 32 := by unfold digOf; rw [strOfNums_size, digL_len]
def chal (r key : Int) (t : ByteArray) : Nat := dnum (putS r ++ putS key ++ t) % 1073741789
theorem chal_lt (r key : Int) (t : ByteArray) : chal r key t < 1073741789 := Nat.mod_lt _ (by omega)
def powK (x : Int) (t : ByteArray) : Nat := 1 + dnum (⟨#[75]⟩ ++ putS x ++ t) % 1073741788
theorem powK_lt (x : Int) (t : ByteArray) : 1 ≤ powK x t ∧ powK x t < 1073741789 := by
  unfold powK
  have := Nat.mod_lt (dnum (⟨#[75]⟩ ++ putS x ++ t)) (show 0 < 1073741788 by omega)
  omega
def challA (r key : Int) (t : ByteArray) : Int := if t.size ≤ 20000 ∧ unitB r = true ∧ unitB key = true then (chal r key t : Int) else 0
def signE (x : Nat) (t : ByteArray) : Nat := chal ((pm 4 (powK x t) 2147483579 : Nat) : Int) ((pm 4 x 2147483579 : Nat) : Int) t
def signS (x : Nat) (t : ByteArray) : Nat := (powK x t + signE x t * x) % 1073741789
def signV (x : Int) (t : ByteArray) : Value :=
  if t.size ≤ 20000 ∧ secB x = true then sigV ((pm 4 x.toNat 2147483579 : Nat) : Int) (signE x.toNat t) (signS x.toNat t) else sigV 0 0 0
/-- What a right signature's own numbers lead to. -/
def backR (k e s : Int) : Nat := pm 4 s.toNat 2147483579 * pm k.toNat (1073741789 - e.toNat) 2147483579 % 2147483579
def sigCB (k e s : Int) (t : ByteArray) : Bool := decide (t.size ≤ 20000) && (sigRB k e s && decide ((chal (backR k e s : Int) k t : Int) = e))
theorem back_unit {k e s : Nat} (hk : pm k 1073741789 2147483579 = 1) : unitB ((backR k e s : Nat) : Int) = true := by
  unfold backR
  refine unit_of (Nat.mod_lt _ (by omega)) ?_
  rw [pm_prod, pm_in (by omega) pm4, pm_in (by omega) (by rw [Int.toNat_natCast]; exact hk)]
theorem back_mul {k e s : Nat} (hk : pm k 1073741789 2147483579 = 1) :
    gmulA ((pm 4 s 2147483579 : Nat) : Int) ((pm k (1073741789 - e) 2147483579 : Nat) : Int) = ((backR k e s : Nat) : Int) := by
  rw [gmulA_nat _ _ (unit_pow pm4 s) (unit_pow hk _)]
  rfl
/-- What a secret has signed passes with its key. -/
theorem sign_passes {x : Nat} {t : ByteArray} (h1 : 1 ≤ x) (h2 : x < 1073741789) (ht : t.size ≤ 20000) :
    sigRB ((pm 4 x 2147483579 : Nat) : Int) (signE x t) (signS x t) = true ∧ sigCB ((pm 4 x 2147483579 : Nat) : Int) (signE x t) (signS x t) t = true := by
  have he : signE x t < 1073741789 := chal_lt _ _ _
  have hs : signS x t < 1073741789 := Nat.mod_lt _ (by omega)
  have hr : sigRB ((pm 4 x 2147483579 : Nat) : Int) (signE x t) (signS x t) = true := by
    unfold sigRB
    rw [pub_right h1 h2, show remB (signE x t : Int) = true from decide_eq_true ⟨by omega, by omega⟩, show remB (signS x t : Int) = true from decide_eq_true ⟨by omega, by omega⟩]
    rfl
  refine ⟨hr, ?_⟩
  have hb : backR ((pm 4 x 2147483579 : Nat) : Int) (signE x t) (signS x t) = pm 4 (powK x t) 2147483579 := by
    unfold backR
    rw [Int.toNat_natCast, Int.toNat_natCast, Int.toNat_natCast]
    exact sig_back (g := 4) (q := 1073741789) (p := 2147483579) (k := powK x t) (e := signE x t) (x := x) (by omega) pm4 he
  unfold sigCB
  rw [hr, hb, decide_eq_true ht]
  exact decide_eq_true rfl
end Go.Proofs.YtkbmeenojclcmaaGreatDoor
namespace Go.Proofs.YtkbmeenojclcmaaGreatDoor
open Go.RowKit

theorem powK_eq (x : Int) (t p : ByteArray) (h : putS x = p) : dnum (⟨#[75]⟩ ++ p ++ t) % 1073741788 + 1 = powK x t := by
  subst h
  exact Nat.add_comm _ _
theorem signV_no {x : Int} {t : ByteArray} (h : ¬ (t.size ≤ 20000 ∧ secB x = true)) : signV x t = sigV 0 0 0 := by rw [signV, if_neg h]
theorem signV_nat {x : Nat} {t : ByteArray} (ht : t.size ≤ 20000) (h : secB (x : Int) = true) : signV x t = sigV ((pm 4 x 2147483579 : Nat) : Int) (signE x t) (signS x t) := by
  rw [signV, if_pos ⟨ht, h⟩, Int.toNat_natCast]
theorem backR_nat (k e s : Nat) : backR k e s = pm 4 s 2147483579 * pm k (1073741789 - e) 2147483579 % 2147483579 := by
  unfold backR
  rw [Int.toNat_natCast, Int.toNat_natCast, Int.toNat_natCast]
theorem sigCB_long {k e s : Int} {t : ByteArray} (h : 20000 < t.size) : sigCB k e s t = false := by
  unfold sigCB
  rw [decide_eq_false (by omega)]
  rfl
theorem sigCB_wrong {k e s : Int} {t : ByteArray} (h : sigRB k e s = false) : sigCB k e s t = false := by
  unfold sigCB
  rw [h, Bool.false_and, Bool.and_false]
theorem sigCB_right {k e s : Int} {t : ByteArray} (ht : t.size ≤ 20000) (h : sigRB k e s = true) : sigCB k e s t = decide ((chal (backR k e s : Int) k t : Int) = e) := by
  unfold sigCB
  rw [h, decide_eq_true ht, Bool.true_and, Bool.true_and]
theorem sigRB_nat {k e s : Int} (h : sigRB k e s = true) : ∃ K E S : Nat, k = (K : Int) ∧ e = (E : Int) ∧ s = (S : Int) ∧ K < 2147483579 ∧ E < 1073741789 ∧ S < 1073741789 ∧ pm K 1073741789 2147483579 = 1 := by
  unfold sigRB at h
  rw [Bool.and_eq_true, Bool.and_eq_true] at h
  obtain ⟨⟨h1, h2⟩, h3⟩ := h
  obtain ⟨x, rfl, _, x2, x3⟩ := rightG_nat h1
  have h2' : 0 ≤ e ∧ e < 1073741789 := of_decide_eq_true h2
  have h3' : 0 ≤ s ∧ s < 1073741789 := of_decide_eq_true h3
  exact ⟨x, e.toNat, s.toNat, rfl, by omega, by omega, x2, by omega, by omega, x3⟩
end Go.Proofs.YtkbmeenojclcmaaGreatDoor
namespace Go.Proofs.YtkbmeenojclcmaaGreatDoor
open Go.RowKit

noncomputable def goodB (k : Int) (c : Paper) : Bool := certB c && decide (k = c.sk) && sigCB c.sk c.se c.ss (bodyD c)
end Go.Proofs.YtkbmeenojclcmaaGreatDoor
namespace Go.Proofs.YtkbmeenojclcmaaGreatDoor
open Go.RowKit

structure Ask where
  key : Int
  names : List ByteArray
  sk : Int
  se : Int
  ss : Int
def Ask.val (c : Ask) (v : Value) : Value := .agg #[.int .i64 c.key, v, .int .i64 c.sk, .int .i64 c.se, .int .i64 c.ss]
/-- Right, but for its Sig. -/
noncomputable def askB (c : Ask) : Bool := rightG c.key && namesB c.names && decide (0 < c.names.length)
def askD (c : Ask) : ByteArray := seqD (intD 0 ++ (thingD 3 (⟨#[0]⟩ ++ putS c.key) ++ seqD (hostsD c.names c.names.length)))
/-- Right, but for its Sig's check. -/
noncomputable def formB (c : Ask) : Bool := askB c && sigRB c.sk c.se c.ss && decide (c.sk = c.key)
def askT (e s : Int) : ByteArray := ⟨#[0]⟩ ++ putS e ++ putS s
def askY (c : Ask) : ByteArray := seqD (askD c ++ thingD 3 (askT c.se c.ss))
theorem askT_le (e s : Int) : (askT e s).size ≤ 21 := by
  have h2 := putS_size e
  have h3 := putS_size s
  unfold askT
  simp only [ByteArray.size_append]
  have h4 : (⟨#[0]⟩ : ByteArray).size = 1 := rfl
  omega
theorem names_fit {ss : List ByteArray} (h : namesB ss = true) : ss.length ≤ 5 ∧ ∀ i, i < ss.length → (tAt ss i).size ≤ 40 := by
  unfold namesB at h
  simp only [Bool.and_eq_true, decide_eq_true_eq] at h
  exact ⟨h.2, okTo_name h.1⟩
theorem rightG_lt {k : Int} (h : rightG k = true) : 1 < k ∧ k < 2147483579 := by
  have h8' := of_decide_eq_true h
  exact ⟨h8'.1, h8'.2.1⟩
theorem sigRB_lt {k e s : Int} (h : sigRB k e s = true) : (1 < k ∧ k < 2147483579) ∧ (0 ≤ e ∧ e < 1073741789) ∧ 0 ≤ s ∧ s < 1073741789 := by
  unfold sigRB at h
  simp only [Bool.and_eq_true] at h
  exact ⟨rightG_lt h.1.1, of_decide_eq_true h.1.2, of_decide_eq_true h.2⟩
theorem ask_fits {c : Ask} (h : askB c = true) : (1 < c.key ∧ c.key < 2147483579) ∧ c.names.length ≤ 5 ∧ 0 < c.names.length ∧ ∀ i, i < c.names.length → (tAt c.names i).size ≤ 40 := by
  unfold askB at h
  simp only [Bool.and_eq_true, decide_eq_true_eq] at h
  obtain ⟨⟨h1, h2⟩, h3⟩ := h
  exact ⟨rightG_lt h1, (names_fit h2).1, h3, (names_fit h2).2⟩
theorem askK_le (k : Int) : (thingD 3 (⟨#[0]⟩ ++ putS k)).size ≤ 15 := by
  have h2 := thingD_le 3 (⟨#[0]⟩ ++ putS k)
  have h3 := putS_size k
  have h5 : (⟨#[0]⟩ : ByteArray).size = 1 := rfl
  rw [ByteArray.size_append] at h2
  omega
theorem hosts_le {ss : List ByteArray} (h : ss.length ≤ 5) (h' : ∀ i, i < ss.length → (tAt ss i).size ≤ 40) : (seqD (hostsD ss ss.length)).size ≤ 224 := by
  have h4 := hostsD_le (ss := ss) ss.length h'
  have h3 := seqD_le (hostsD ss ss.length)
  omega
theorem askD_le {c : Ask} (h : askB c = true) : (askD c).size ≤ 255 := by
  obtain ⟨_, h2, _, h4⟩ := ask_fits h
  have y1 := intD_le 0
  have y2 := askK_le c.key
  have y3 := hosts_le h2 h4
  have z := seqD_le (intD 0 ++ (thingD 3 (⟨#[0]⟩ ++ putS c.key) ++ seqD (hostsD c.names c.names.length)))
  simp only [ByteArray.size_append] at z
  unfold askD
  omega
theorem thing_pos (t : Int) (b : ByteArray) : 0 < (thingD t b).size := by
  rw [thingD_size]
  omega
theorem formB_ask {c : Ask} (h : formB c = true) : askB c = true := by
  unfold formB at h
  simp only [Bool.and_eq_true] at h
  exact h.1.1
theorem formB_sig {c : Ask} (h : formB c = true) : sigRB c.sk c.se c.ss = true := by
  unfold formB at h
  simp only [Bool.and_eq_true] at h
  exact h.1.2

structure Lst where
  issuer : ByteArray
  fr : Int
  till : Int
  serials : List Int
  sk : Int
  se : Int
  ss : Int
def Lst.val (c : Lst) (v : Value) : Value := .agg #[.string c.issuer, .int .i64 c.fr, .int .i64 c.till, v, .int .i64 c.sk, .int .i64 c.se, .int .i64 c.ss]
def okS (zs : List Int) (i : Nat) : Bool := serB (zs.getD i 0) && (decide (i = 0) || decide (zs.getD (i - 1) 0 < zs.getD i 0))
def okSTo (zs : List Int) : Nat → Bool
  | 0 => true
  | k + 1 => okSTo zs k && okS zs k
theorem okSTo_no {zs : List Int} {k : Nat} (h : okS zs k = false) : ∀ {n : Nat}, k < n → okSTo zs n = false := by
  intro n
  induction n with
  | zero => intro h'; omega
  | succ n ih =>
    intro h'
    show (okSTo zs n && okS zs n) = false
    by_cases e : k = n
    · subst e; rw [h]; simp
    · rw [ih (by omega)]; rfl
theorem okSTo_yes {zs : List Int} {k : Nat} (h : okSTo zs k = true) (h' : okS zs k = true) : okSTo zs (k + 1) = true := by show (okSTo zs k && okS zs k) = true; rw [h, h']; rfl
def serialsB (zs : List Int) : Bool := okSTo zs zs.length && decide (zs.length ≤ 40)
noncomputable def listB (c : Lst) : Bool := nameB c.issuer && timeB c.fr && timeB c.till && decide (c.fr ≤ c.till) && serialsB c.serials
def serD (zs : List Int) : Nat → ByteArray
  | 0 => ⟨#[]⟩
  | k + 1 => serD zs k ++ intD (zs.getD k 0)
theorem serD_le (zs : List Int) : ∀ k, (serD zs k).size ≤ 12 * k
  | 0 => Nat.le_refl _
  | k + 1 => by
    have h1 := serD_le zs k
    have h2 := intD_le (zs.getD k 0)
    show (serD zs k ++ intD (zs.getD k 0)).size ≤ _
    rw [ByteArray.size_append]
    omega
def listD (c : Lst) : ByteArray := seqD (nameD c.issuer ++ (intD c.fr ++ (intD c.till ++ seqD (serD c.serials c.serials.length))))
noncomputable def crlB (c : Lst) : Bool := listB c && sigRB c.sk c.se c.ss
def listY (c : Lst) : ByteArray := seqD (listD c ++ sigD c.sk c.se c.ss)
noncomputable def crlBytesD (c : Lst) : ByteArray := if crlB c = true then listY c else ⟨#[]⟩
theorem okSTo_lt {zs : List Int} : ∀ {n : Nat}, okSTo zs n = true → ∀ i, i < n → 1 ≤ zs.getD i 0 ∧ zs.getD i 0 ≤ 1000000000 := by
  intro n
  induction n with
  | zero => intro _ i hi; omega
  | succ n ih =>
    intro h i hi
    have h' : (okSTo zs n && okS zs n) = true := h
    rw [Bool.and_eq_true] at h'
    by_cases e : i = n
    · subst e
      have := h'.2
      unfold okS serB at this
      simp only [Bool.and_eq_true, decide_eq_true_eq] at this
      exact this.1
    · exact ih h'.1 i (by omega)
structure LFits (c : Lst) : Prop where
  iss : c.issuer.size ≤ 40
  fr0 : 0 ≤ c.fr
  fr1 : c.fr ≤ 1000000000
  till0 : 0 ≤ c.till
  till1 : c.till ≤ 1000000000
  len : c.serials.length ≤ 40
  each : ∀ i, i < c.serials.length → 1 ≤ c.serials.getD i 0 ∧ c.serials.getD i 0 ≤ 1000000000
theorem list_fits {c : Lst} (h : listB c = true) : LFits c := by
  unfold listB at h
  simp only [Bool.and_eq_true, decide_eq_true_eq] at h
  obtain ⟨⟨⟨⟨h1, h2⟩, h3⟩, _⟩, h5⟩ := h
  unfold timeB at h2 h3
  simp only [Bool.and_eq_true, decide_eq_true_eq] at h2 h3
  unfold serialsB at h5
  simp only [Bool.and_eq_true, decide_eq_true_eq] at h5
  exact ⟨name_size h1, h2.1, h2.2, h3.1, h3.2, h5.2, okSTo_lt h5.1⟩
theorem listD_le {c : Lst} (h : LFits c) : (listD c).size ≤ 700 := by
  have y1 := nameD_le c.issuer
  have y2 := intD_le c.fr
  have y3 := intD_le c.till
  have y4 := serD_le c.serials c.serials.length
  have y5 := seqD_le (serD c.serials c.serials.length)
  have y6 := h.iss
  have y7 := h.len
  have z := seqD_le (nameD c.issuer ++ (intD c.fr ++ (intD c.till ++ seqD (serD c.serials c.serials.length))))
  simp only [ByteArray.size_append] at z
  unfold listD
  omega
theorem crlB_list {c : Lst} (h : crlB c = true) : listB c = true := by
  unfold crlB at h
  rw [Bool.and_eq_true] at h
  exact h.1
theorem crlB_sig {c : Lst} (h : crlB c = true) : sigRB c.sk c.se c.ss = true := by
  unfold crlB at h
  rw [Bool.and_eq_true] at h
  exact h.2
end Go.Proofs.YtkbmeenojclcmaaGreatDoor
namespace Go.Proofs.YtkbmeenojclcmaaGreatDoor
open Go.RowKit

noncomputable def askR (c : Ask) : Bool := formB c && sigCB c.sk c.se c.ss (askD c)
noncomputable def csrBytesD (c : Ask) : ByteArray := if askR c = true then askY c else ⟨#[]⟩
noncomputable def crlGoodB (k : Int) (c : Lst) : Bool := crlB c && decide (c.sk = k) && sigCB c.sk c.se c.ss (listD c)
end Go.Proofs.YtkbmeenojclcmaaGreatDoor
namespace Go.Proofs.YtkbmeenojclcmaaGreatDoor
open Go.RowKit

def withinB (t a b : Int) : Bool := decide (a ≤ t) && decide (t ≤ b)
/-- Is one of the first k that number? -/
def hasTo (zs : List Int) (n : Int) : Nat → Bool
  | 0 => false
  | k + 1 => hasTo zs n k || decide (zs.getD k 0 = n)
def hasB (zs : List Int) (n : Int) : Bool := hasTo zs n zs.length
theorem hasTo_yes {zs : List Int} {n : Int} {k : Nat} (h : zs.getD k 0 = n) : ∀ {m : Nat}, k < m → hasTo zs n m = true := by
  intro m
  induction m with
  | zero => intro h'; omega
  | succ m ih =>
    intro h'
    show (hasTo zs n m || decide (zs.getD m 0 = n)) = true
    by_cases e : k = m
    · subst e; rw [decide_eq_true h, Bool.or_true]
    · rw [ih (by omega)]; rfl
theorem hasTo_more {zs : List Int} {n : Int} {k : Nat} (h : hasTo zs n k = false) (h' : zs.getD k 0 ≠ n) : hasTo zs n (k + 1) = false := by
  show (hasTo zs n k || decide (zs.getD k 0 = n)) = false
  rw [h, decide_eq_false h']; rfl
/-- They rise: from one on all are greater still. -/
theorem okS_rise {zs : List Int} : ∀ {m : Nat}, okSTo zs m = true → ∀ {i j : Nat}, i < j → j < m → zs.getD i 0 < zs.getD j 0 := by
  intro m
  induction m with
  | zero => intro _ i j _ h; omega
  | succ m ih =>
    intro h i j hij hj
    have h' : (okSTo zs m && okS zs m) = true := h
    rw [Bool.and_eq_true] at h'
    by_cases e : j = m
    · subst e
      have h2 := h'.2
      unfold okS at h2
      simp only [Bool.and_eq_true, Bool.or_eq_true, decide_eq_true_eq] at h2
      have h3 : zs.getD (j - 1) 0 < zs.getD j 0 := by rcases h2.2 with h | h
                                                      · omega
                                                      · exact h
      by_cases e2 : i = j - 1
      · rw [e2]; exact h3
      · exact Int.lt_trans (ih h'.1 (i := i) (j := j - 1) (by omega) (by omega)) h3
    · exact ih h'.1 hij (by omega)
theorem hasTo_rise {zs : List Int} {n : Int} {k : Nat} (hz : okSTo zs zs.length = true) (hk : k < zs.length) (h : hasTo zs n k = false) (h' : n < zs.getD k 0) : ∀ {m : Nat}, k ≤ m → m ≤ zs.length → hasTo zs n m = false := by
  intro m
  induction m with
  | zero => intro h1 _; have : k = 0 := by omega
            subst this; exact h
  | succ m ih =>
    intro h1 h2
    by_cases e : k = m + 1
    · rw [← e]; exact h
    · refine hasTo_more (ih (by omega) (by omega)) ?_
      by_cases e2 : k = m
      · subst e2; omega
      · have := okS_rise hz (i := k) (j := m) (by omega) (by omega)
        omega
noncomputable def formP (r c : Paper) (l : Lst) (t : Int) : Bool := certB r && certB c && crlB l && timeB t
noncomputable def issP (r c : Paper) : Bool := r.ca && goodB r.key r && (c.issuer.toList == r.subject.toList)
noncomputable def noneP (r : Paper) (l : Lst) (t : Int) : Bool := (l.issuer.toList == r.subject.toList) && crlGoodB r.key l && withinB t l.fr l.till
noncomputable def pathC (r c : Paper) (l : Lst) (t : Int) : Int :=
  if formP r c l t = true then
    if issP r c = true then
      if goodB r.key c = true then
        if (withinB t r.fr r.till && withinB t c.fr c.till) = true then
          if noneP r l t = true then
            if hasB l.serials c.serial = true then 14 else 0
          else 8
        else 12
      else 6
    else 13
  else 1
/-- Is one of the first k that text? -/
def textTo (ss : List ByteArray) (n : ByteArray) : Nat → Bool
  | 0 => false
  | k + 1 => textTo ss n k || ((tAt ss k).toList == n.toList)
noncomputable def pathN (r c : Paper) (l : Lst) (t : Int) (n : ByteArray) : Bool := decide (pathC r c l t = 0) && textTo c.names n c.names.length
end Go.Proofs.YtkbmeenojclcmaaGreatDoor
namespace Go.Proofs.YtkbmeenojclcmaaGreatDoor
open Go.RowKit

/-- A paper that is not too large; a list. -/
def PIn (c : Paper) : Prop := c.issuer.size ≤ maxLen ∧ c.subject.size ≤ maxLen ∧ c.names.length ≤ 1048576 ∧ totS c.names c.names.length ≤ 1048576
def LIn (c : Lst) : Prop := c.issuer.size ≤ maxLen ∧ c.serials.length ≤ 1048576
theorem crlB_ok {l : Lst} (h : crlB l = true) : okSTo l.serials l.serials.length = true := by
  unfold crlB listB serialsB at h
  simp only [Bool.and_eq_true] at h
  exact h.1.2.1
end Go.Proofs.YtkbmeenojclcmaaGreatDoor
namespace Go.Proofs.YtkbmeenojclcmaaGreatDoor
open Go.RowKit

theorem textTo_yes {ss : List ByteArray} {n : ByteArray} {k : Nat} (h : ((tAt ss k).toList == n.toList) = true) : ∀ {m : Nat}, k < m → textTo ss n m = true := by
  intro m
  induction m with
  | zero => intro h'; omega
  | succ m ih =>
    intro h'
    show (textTo ss n m || ((tAt ss m).toList == n.toList)) = true
    by_cases e : k = m
    · subst e; rw [h, Bool.or_true]
    · rw [ih (by omega)]; rfl
theorem textTo_more {ss : List ByteArray} {n : ByteArray} {k : Nat} (h : textTo ss n k = false) (h' : ((tAt ss k).toList == n.toList) = false) : textTo ss n (k + 1) = false := by
  show (textTo ss n k || ((tAt ss k).toList == n.toList)) = false
  rw [h, h']; rfl
theorem textTo_none {ss : List ByteArray} {n : ByteArray} : ∀ {m : Nat}, (∀ i, i < m → (tAt ss i).size < n.size) → textTo ss n m = false
  | 0, _ => rfl
  | m + 1, h => by
    refine textTo_more (textTo_none fun i hi => h i (by omega)) ?_
    rw [beq_eq_false_iff_ne]
    intro e
    have h1 := h m (by omega)
    have h2 := congrArg List.length e
    simp only [ByteArray.toList_eq, Array.length_toList] at h2
    have h3 : (tAt ss m).size = n.size := h2
    omega
theorem pathN_long {r c : Paper} {l : Lst} {t : Int} {n : ByteArray} (h : 20000 < n.size) : pathN r c l t n = false := by
  unfold pathN
  by_cases h0 : pathC r c l t = 0
  · have hf : formP r c l t = true := by
      by_cases hf : formP r c l t = true
      · exact hf
      · unfold pathC at h0
        rw [if_neg hf] at h0
        omega
    have hc : certB c = true := by
      unfold formP at hf
      simp only [Bool.and_eq_true] at hf
      exact hf.1.1.2
    have hp := paper_fits (certB_paper hc)
    rw [textTo_none (fun i hi => by have := hp.each i hi; omega), Bool.and_false]
  · rw [decide_eq_false h0]; rfl
set_option linter.unusedSimpArgs false in
set_option maxHeartbeats 1000000 in
set_option maxRecDepth 100000 in
theorem sliceIndex (n : ByteArray) (a : Option Addr) (ss : List ByteArray) (c : Nat) (w : World) (hl : ss.length ≤ 1048576) (ha : IsStrs w a ss) :
    Calls Tryz.prog 53 #[.slice a ss.length c, .string n] w fun e w' => ∃ z : Int, e = .returned (.int .i64 z) ∧ decide (0 ≤ z) = textTo ss n ss.length ∧ w' = w := by
  obtain ⟨T, hT⟩ : ∃ T, T = textTo ss n ss.length := ⟨_, rfl⟩
  rw [← hT]
  have HT : Hid (T = textTo ss n ss.length) := hT
  clear hT
  go_enter Tryz.func53, Tryz.ntmps53
  go_wp2
  go_loopw [8] (fun i wr => ∃ k : Nat, k ≤ ss.length ∧ i = .int .i64 k ∧ textTo ss n k = false ∧ wr = w) (fun i _ => ss.length - (intOf i).toNat)
  case atStart => exact ⟨0, Nat.zero_le _, rfl, rfl, rfl⟩
  case round =>
    obtain ⟨k, hk, rfl, hok, rfl⟩ := hrel
    have HOk : Hid (textTo ss n k = false) := hok
    clear hok
    by_cases hlt : k < ss.length
    · obtain ⟨x, o, rfl, hc⟩ : ∃ x o, a = some ⟨x, o, none⟩ ∧ ∀ i, i < ss.length → wr.cell? ⟨x, o + i, none⟩ = some (.string (tAt ss i)) := by
        rcases ha with rfl | h
        · simp at hlt
        · exact h
      have hck := hc k hlt
      have a0 : (0 : Int) ≤ (k : Int) := by omega
      have b0 : (k : Int) < (ss.length : Int) := by omega
      by_cases he : ((tAt ss k).toList == n.toList) = true
      · have HF : Hid (T = true) := by show _ = _; rw [HT.out]; exact textTo_yes he hlt
        have he2 : (n.toList == (tAt ss k).toList) = true := by rw [beq_iff_eq] at he ⊢; exact he.symm
        generalize tAt ss k = t at *
        clear HT
        generalize ss.length = m at *
        clear hc ha he
        go_wp2
        try rw [Exit.noGoto_ret]
        go_ret
        exact ⟨_, rfl, by rw [HF.out]; simp, rfl⟩
      · have he1 : ((tAt ss k).toList == n.toList) = false := by simpa using he
        have he2 : (n.toList == (tAt ss k).toList) = false := by rw [beq_eq_false_iff_ne] at he1 ⊢; exact fun h => he1 h.symm
        have HF : Hid (textTo ss n (k + 1) = false) := textTo_more HOk.out he1
        generalize tAt ss k = t at *
        generalize ss.length = m at *
        clear hc ha he he1
        go_wp2
        go_roundw
        case rel => exact ⟨k + 1, by omega, by go_num, HF.out, by first | rfl | trivial⟩
        case measure => simp [intOf]; omega
    · obtain rfl : k = ss.length := by omega
      have HF : Hid (T = false) := by show _ = _; rw [HT.out]; exact HOk.out
      clear ha
      go_wp2
      try rw [Exit.noGoto_ret]
      go_ret
      exact ⟨_, rfl, by rw [HF.out]; simp, rfl⟩
set_option linter.unusedSimpArgs false in
set_option maxHeartbeats 1000000 in
set_option maxRecDepth 100000 in
theorem sliceHas (n : ByteArray) (a : Option Addr) (ss : List ByteArray) (c : Nat) (w : World) (hl : ss.length ≤ 1048576) (ha : IsStrs w a ss) :
    Calls Tryz.prog 39 #[.slice a ss.length c, .string n] w fun e w' => e = .returned (.bool (textTo ss n ss.length)) ∧ w' = w := by
  have HI : Hid (Calls Tryz.prog 53 #[.slice a ss.length c, .string n] w fun e w' => ∃ z : Int, e = .returned (.int .i64 z) ∧ decide (0 ≤ z) = textTo ss n ss.length ∧ w' = w) := sliceIndex n a ss c w hl ha
  generalize textTo ss n ss.length = T at *
  generalize ss.length = m at *
  clear ha hl
  go_enter Tryz.func39, Tryz.ntmps39
  go_wp2_with fail
  refine HI.out.mono ?_
  rintro e _ ⟨z, rfl, hz, rfl⟩
  have HZ : Hid (decide (0 ≤ z) = T) := hz
  clear hz
  go_wp2
  go_ret
  exact ⟨by rw [← HZ.out]; rfl, rfl⟩
end Go.Proofs.YtkbmeenojclcmaaGreatDoor
namespace Go.Proofs.YtkbmeenojclcmaaGreatDoor
open Go.RowKit
theorem infoLong : (Tryz.prog.info? 2).map (fun i => (i.zero, i.size, i.bytes)) = some (some (.int .i64 0), 1, 8) := by kernel_rfl
end Go.Proofs.YtkbmeenojclcmaaGreatDoor
namespace Go.Proofs.YtkbmeenojclcmaaGreatDoor
open Go.RowKit

/-- The numbers zs lie behind the address (none at all: any address serves). -/
def IsInts (w : World) (a : Option Addr) (zs : List Int) : Prop := zs = [] ∨ ∃ b o, a = some ⟨b, o, none⟩ ∧ ∀ i, i < zs.length → w.cell? ⟨b, o + i, none⟩ = some (.int .i64 (zs.getD i 0))
/-- .. and its block lies below B. -/
def IntsBelow (B : Nat) (a : Option Addr) (zs : List Int) : Prop := zs = [] ∨ ∀ x, a = some x → x.block < B
theorem IsInts.below {B : Nat} {w w' : World} {a : Option Addr} {zs : List Int} (h : IsInts w a zs) (hb : Below B w w') (hB : IntsBelow B a zs) : IsInts w' a zs := by
  rcases h with rfl | ⟨b, o, rfl, hc⟩
  · exact .inl rfl
  · rcases hB with rfl | hB
    · exact .inl rfl
    · exact .inr ⟨b, o, rfl, fun i hi => by rw [hb.cell (p := ⟨b, o + i, none⟩) (hB ⟨b, o, none⟩ rfl)]; exact hc i hi⟩
theorem IntsBelow.mono {B B' : Nat} {a : Option Addr} {zs : List Int} (h : IntsBelow B a zs) (hB : B ≤ B') : IntsBelow B' a zs := by
  rcases h with h | h
  · exact .inl h
  · exact .inr fun x hx => Nat.lt_of_lt_of_le (h x hx) hB
theorem IsInts.lt {w : World} {a : Option Addr} {zs : List Int} (h : IsInts w a zs) : IntsBelow w.heap.size a zs := by
  rcases h with rfl | ⟨b, o, rfl, hc⟩
  · exact .inl rfl
  · by_cases h0 : zs.length = 0
    · exact .inl (List.eq_nil_of_length_eq_zero h0)
    · refine .inr fun x hx => ?_
      cases hx
      exact World.block_lt_of_cell? w _ (hc 0 (by omega))
theorem IsInts.keep {w w' : World} {a : Option Addr} {zs : List Int} (h : IsInts w a zs) (hb : Below w.heap.size w w') : IsInts w' a zs := h.below hb h.lt
def lCells (zs : List Int) : List Value := zs.map (Value.int .i64)
theorem IsInts.row {w : World} {g : Nat} {t : TypeId} {zs : List Int} {rest : List Value} (h : w.heap[g]? = some (.cells (lCells zs ++ rest).toArray t (0, 0))) : IsInts w (some ⟨g, 0, none⟩) zs :=
  .inr ⟨g, 0, rfl, fun i hi => by
    rw [Nat.zero_add, cell_of_row w g i _ t (0, 0) h]
    simp [lCells, List.getD, hi, List.getElem?_append_left]⟩
theorem IsInts.at {w : World} {a : Option Addr} {zs : List Int} (h : IsInts w a zs) (h0 : zs ≠ []) : ∃ b o, a = some ⟨b, o, none⟩ ∧ ∀ i, i < zs.length → w.cell? ⟨b, o + i, none⟩ = some (.int .i64 (zs.getD i 0)) := by
  rcases h with h | h
  · exact absurd h h0
  · exact h
end Go.Proofs.YtkbmeenojclcmaaGreatDoor
