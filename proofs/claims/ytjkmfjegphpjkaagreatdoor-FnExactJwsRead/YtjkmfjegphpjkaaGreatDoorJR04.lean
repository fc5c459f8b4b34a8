/- The digest of a state, walked: (*hashState).digest; (*hashWork).end. impl.beginWork, walked; what a digest is. A number in bytes, as a text. Plain mathematics: no program is named here. The number of a digest; challenges and signatures as they are answered: plain mathematics. Signatures as they are answered: plain mathematics. spec.PutNum, walked. impl.PutNum, walked. impl.tooLong, walked. spec.PutText and impl.PutText, walked. Requests as texts. Plain, but for what their values are. Bits cut anew, six by six and eight by eight. Plain mathematics. Reading Base64: what each sign stands for, and eight by eight again. Plain mathematics. -/
import Derived.Test.YtjkmfjegphpjkaaGreatDoorJR03
import Derived.Test.YtjkmfjegphpjkaaGreatDoorJR01
import Derived.Test.YtjkmfjegphpjkaaGreatDoorJR02
namespace Go.Proofs.YtjkmfjegphpjkaaGreatDoor
open Go.RowKit

theorem digL_at (s : St) (k : Nat) (h : k < 8) : (digL s).getD (4 * k) 0 = uI (s.row.getD k 0) / 16777216 ∧ (digL s).getD (4 * k + 1) 0 = uI (s.row.getD k 0) / 65536 % 256 ∧ (digL s).getD (4 * k + 2) 0 = uI (s.row.getD k 0) / 256 % 256 ∧ (digL s).getD (4 * k + 3) 0 = uI (s.row.getD k 0) % 256 := by
  rcases (by omega : k = 0 ∨ k = 1 ∨ k = 2 ∨ k = 3 ∨ k = 4 ∨ k = 5 ∨ k = 6 ∨ k = 7) with rfl | rfl | rfl | rfl | rfl | rfl | rfl | rfl <;> exact ⟨rfl, rfl, rfl, rfl⟩
theorem digL_len (s : St) : (digL s).length = 32 := rfl
theorem step4 {M : List Value} {D : List Int} {k : Nat} {a b c d : Int} (hM : M.length = 32) (hk : k < 8) (h : ∀ t, t < 4 * k → M[t]? = some (.int .u8 (D.getD t 0)))
    (ha : D.getD (4 * k) 0 = a) (hb : D.getD (4 * k + 1) 0 = b) (hc : D.getD (4 * k + 2) 0 = c) (hd : D.getD (4 * k + 3) 0 = d) :
    ∀ t, t < 4 * (k + 1) → ((((M.set (4 * k) (.int .u8 a)).set (4 * k + 1) (.int .u8 b)).set (4 * k + 2) (.int .u8 c)).set (4 * k + 3) (.int .u8 d))[t]? = some (.int .u8 (D.getD t 0)) := by
  intro t ht
  by_cases e3 : t = 4 * k + 3
  · subst e3; rw [List.getElem?_set_self (by simp; omega), hd]
  · rw [List.getElem?_set_ne (by omega)]
    by_cases e2 : t = 4 * k + 2
    · subst e2; rw [List.getElem?_set_self (by simp; omega), hc]
    · rw [List.getElem?_set_ne (by omega)]
      by_cases e1 : t = 4 * k + 1
      · subst e1; rw [List.getElem?_set_self (by simp; omega), hb]
      · rw [List.getElem?_set_ne (by omega)]
        by_cases e0 : t = 4 * k
        · subst e0; rw [List.getElem?_set_self (by omega), ha]
        · rw [List.getElem?_set_ne (by omega), h t (by omega)]

set_option maxHeartbeats 1000000 in
set_option maxRecDepth 100000 in
theorem digestW (s : St) (w : World) (g : Nat) (ty : TypeId) (tail : List Value) (hg : w.heap[g]? = some (.cells (uCells s ++ tail).toArray ty (0, 0))) :
    Calls Tryz.prog 119 #[.pointer (some ⟨g, 0, none⟩)] w
      fun e w' => e = .returned (.string (strOfNums (digL s))) ∧ Below w.heap.size w w' := by
  obtain ⟨i0, hi, hz0, hz1, hz2⟩ := info_parts infoByte
  have hgl := heap_lt hg
  go_enter Tryz.func119, Tryz.ntmps119
  go_wp2_with (at_make; refine wpList_make_full _ rfl _ _ 22 rfl w.heap.size 5 i0 (.int .u8 0) 1 Tryz.underlying22 hi hz0 hz1 .i64 .i64 _ _ 32 rfl rfl ?c1 ?c2 ?c3 ?c4 ?c5 ?_)
  case c1 => omega
  case c2 => omega
  case c3 => rw [hz2]; omega
  case c4 => unfold maxLen; omega
  case c5 => exact Nat.le_refl _
  intro w1 hown hgrow
  have hB1 : Below w.heap.size w w1 := (Below.refl _ w).grown hgrow (Nat.le_refl _) (fun k hk => by cases hk)
  obtain ⟨hrow, hlen⟩ := rowOf hown rfl
  generalize (madeCells #[Value.int IntKind.u8 0] 32).toList = L0 at hrow hlen
  have HR0 : Hid (w1.heap[w.heap.size]? = some (.cells L0.toArray 5 (0, 0))) := hrow
  have HL0 : Hid (L0.length = 32) := hlen
  have HB1 : Hid (Below w.heap.size w w1) := hB1
  clear hown hgrow hrow hlen hB1
  go_wp2_with fail
  go_loopw [8] (fun i wr => ∃ (k : Nat) (M : List Value), k ≤ 8 ∧ i = .int .i64 k ∧ M.length = 32 ∧ wr.heap[w.heap.size]? = some (.cells M.toArray 5 (0, 0)) ∧ (∀ t, t < 4 * k → M[t]? = some (.int .u8 ((digL s).getD t 0))) ∧ Below w.heap.size w wr)
    (fun i _ => 8 - (intOf i).toNat)
  case atStart => exact ⟨0, L0, Nat.zero_le _, rfl, HL0.out, HR0.out, fun j hj => by omega, HB1.out⟩
  case round =>
    clear HL0 HR0 HB1
    obtain ⟨k, M, hk, rfl, hM, hgr, hv, hb⟩ := hrel
    by_cases hlt : k < 8
    · have hck : wr.cell? ⟨g, k, none⟩ = some (.int .u32 (uI (s.row.getD k 0))) := by
        rw [hb.cell (p := ⟨g, k, none⟩) hgl]
        refine rowFacts hg k _ ?_
        rw [List.getElem?_append_left (show k < (uCells s).length from hlt)]
        exact row_at s k hlt
      have d0 := rowFacts hgr (4 * k) M[4 * k] (List.getElem?_eq_getElem (by omega))
      have d1 := rowFacts hgr (4 * k + 1) M[4 * k + 1] (List.getElem?_eq_getElem (by omega))
      have d2 := rowFacts hgr (4 * k + 2) M[4 * k + 2] (List.getElem?_eq_getElem (by omega))
      have d3 := rowFacts hgr (4 * k + 3) M[4 * k + 3] (List.getElem?_eq_getElem (by omega))
      have z0 := frozen_of_row wr _ (4 * k) _ _ hgr
      have z1 := frozen_of_row wr _ (4 * k + 1) _ _ hgr
      have z2 := frozen_of_row wr _ (4 * k + 2) _ _ hgr
      have z3 := frozen_of_row wr _ (4 * k + 3) _ _ hgr
      obtain ⟨q0, q1, q2, q3⟩ := digL_at s k hlt
      have HV : Hid _ := step4 hM hlt hv q0 q1 q2 q3
      have HG : Hid (∀ a b c d, ((((wr.setCell ⟨w.heap.size, 4 * k, none⟩ a).setCell ⟨w.heap.size, 4 * k + 1, none⟩ b).setCell ⟨w.heap.size, 4 * k + 2, none⟩ c).setCell ⟨w.heap.size, 4 * k + 3, none⟩ d).heap[w.heap.size]? = some (.cells ((((M.set (4 * k) a).set (4 * k + 1) b).set (4 * k + 2) c).set (4 * k + 3) d).toArray 5 (0, 0))) := fun a b c d => rowSet d (rowSet c (rowSet b (rowSet a hgr)))
      have HL : Hid (∀ a b c d, ((((M.set (4 * k) a).set (4 * k + 1) b).set (4 * k + 2) c).set (4 * k + 3) d).length = 32) := fun a b c d => by simpa using hM
      have HB : Hid (∀ n a b c d, Below w.heap.size w (((((wr.drewN n).setCell ⟨w.heap.size, 4 * k, none⟩ a).setCell ⟨w.heap.size, 4 * k + 1, none⟩ b).setCell ⟨w.heap.size, 4 * k + 2, none⟩ c).setCell ⟨w.heap.size, 4 * k + 3, none⟩ d)) := fun n a b c d => ((((below_drewN hb n).setCell (Nat.le_refl _) a).setCell (Nat.le_refl _) b).setCell (Nat.le_refl _) c).setCell (Nat.le_refl _) d
      generalize M[4 * k] = v0 at d0
      generalize M[4 * k + 1] = v1 at d1
      generalize M[4 * k + 2] = v2 at d2
      generalize M[4 * k + 3] = v3 at d3
      have f2 := uI_le (s.row.getD k 0)
      have f3 := uI_nonneg (s.row.getD k 0)
      generalize uI (s.row.getD k 0) = z at hck HV f2 f3
      clear hv hgr hb hM hg q0 q1 q2 q3
      go_wp2_with fail
      go_quiet (fail)
      go_wp2
      go_roundw
      case rel => exact ⟨k + 1, _, by omega, by go_num, HL.out _ _ _ _, HG.out _ _ _ _, HV.out, HB.out _ _ _ _ _⟩
      case measure => simp [intOf]; omega
    · have hv' : ∀ t, t < 32 → M[t]? = some (.int .u8 ((digL s).getD t 0)) := fun t ht => hv t (by omega)
      have hcv := run_convert_bytes_arg wr 22 5 Tryz.underlying22 Tryz.underlying5 w.heap.size 0 32 32 (digL s) rfl
        (fun t ht => by rw [Nat.zero_add]; exact rowFacts hgr t _ (hv' t ht)) 9 Tryz.underlying9
      have HB : Hid (Below w.heap.size w wr) := hb
      clear hgr hv hb hM hg hv'
      go_wp2
      go_ret
      exact ⟨rfl, HB.out⟩
/-- What ends a text of n bytes, taken in: the state behind. -/
def endSt (s : St) (r : ByteArray) (n : Nat) : St := more s (r ++ strOfNums (padL n))
set_option maxHeartbeats 1000000 in
set_option maxRecDepth 100000 in
theorem endW (s : St) (r : ByteArray) (n : Nat) (w w0 : World) (g B : Nat) (ty : TypeId) (hr : r.size ≤ 1000000) (hn : n ≤ 1900000000000) (hg : w.heap[g]? = some (.cells (workCells s r n).toArray ty (0, 0))) (hb : Below B w0 w) (hB : B ≤ g) (hk : Keys w0) (hkB : 1 < B) :
    Calls Tryz.prog 101 #[.pointer (some ⟨g, 0, none⟩)] w
      fun e w' => e = .returned (.string (strOfNums (digL (endSt s r n)))) ∧ Below B w0 w' := by
  have hgl := heap_lt hg
  have c9 := rowFacts hg 9 (.int .i64 n) rfl
  go_enter Tryz.func101, Tryz.ntmps101
  go_wp2_with fail
  refine (lastBytes n _ (by omega)).mono ?_
  rintro e w1 ⟨rfl, hb1⟩
  have hg1 : w1.heap[g]? = some (.cells (workCells s r n).toArray ty (0, 0)) := by rw [hb1.block g hgl, hg]
  have hB1 : Below B w0 w1 := hb.trans (hb1.mono (by omega))
  have hps : (strOfNums (padL n)).size ≤ 900000 := by
    rw [strOfNums_size, padL_len]
    unfold zerosOf
    omega
  have HG : Hid (w1.heap[g]? = some (.cells (workCells s r n).toArray ty (0, 0))) := hg1
  have HB : Hid (Below B w0 w1) := hB1
  have HK : Hid (Keys w0) := hk
  clear hg1 hB1 hb1 hg hb c9 hk
  go_wp2_with fail
  refine (takeW s r (strOfNums (padL n)) n w1 w0 g B ty hr hps (by omega) (by omega) HG.out HB.out hB HK.out hkB).mono ?_
  rintro e w2 ⟨rfl, hg2, hb2⟩
  have HG2 : Hid (w2.heap[g]? = some (.cells (uCells (endSt s r n) ++ [Value.string (restOf (r ++ strOfNums (padL n))), Value.int .i64 (n + (strOfNums (padL n)).size)]).toArray ty (0, 0))) := hg2
  have HB2 : Hid (Below B w0 w2) := hb2
  have hgl2 := heap_lt hg2
  clear hg2 hb2
  go_wp2_with fail
  refine (digestW (endSt s r n) w2 g ty _ HG2.out).mono ?_
  rintro e w3 ⟨rfl, hb3⟩
  have HB3 : Hid (Below B w0 w3) := HB2.out.trans (hb3.mono (by omega))
  clear hb3
  go_wp2
  go_ret
  exact ⟨rfl, HB3.out⟩
end Go.Proofs.YtjkmfjegphpjkaaGreatDoor
namespace Go.Proofs.YtjkmfjegphpjkaaGreatDoor
open Go.RowKit

theorem beginW (w : World) :
    Calls Tryz.prog 99 #[] w fun e w' => e = .returned (.agg #[.int .u32 1779033703, .int .u32 3144134277, .int .u32 1013904242, .int .u32 2773480762, .int .u32 1359893119, .int .u32 2600822924, .int .u32 528734635, .int .u32 1541459225, .string ⟨#[]⟩, .int .i64 0]) ∧ Below w.heap.size w w' := by
  go_enter Tryz.func99, Tryz.ntmps99
  go_wp2
  go_returns
  exact ⟨rfl, (Below.refl _ w).alloc (Nat.le_refl _) _⟩
/-- The digest of a text. -/
def digOf (t : ByteArray) : ByteArray := strOfNums (digL (endSt (more st0 t) (restOf t) t.size))
theorem empty_append (t : ByteArray) : ByteArray.empty ++ t = t := by
  apply ByteArray.ext
  simp
end Go.Proofs.YtjkmfjegphpjkaaGreatDoor
namespace Go.Proofs.YtjkmfjegphpjkaaGreatDoor
open Go.RowKit

theorem putF_len : ∀ f x, (putF f x).length ≤ f + 1
  | 0, x => by simp [putF]
  | f + 1, x => by
    rw [putF]
    split
    · simp
    · have := putF_len f (x / 128)
      simp
      omega
def putS (n : Int) : ByteArray := strOfNums (putF 9 (foldI n))
theorem putS_size (n : Int) : (putS n).size ≤ 10 := by unfold putS; rw [strOfNums_size]; exact putF_len 9 _
end Go.Proofs.YtjkmfjegphpjkaaGreatDoor
namespace Go.Proofs.YtjkmfjegphpjkaaGreatDoor
open Go.RowKit

/-- The number of a text's first k bytes, the highest first. -/
def bnum (d : ByteArray) : Nat → Nat
  | 0 => 0
  | k + 1 => 256 * bnum d k + (byteAt d k).toNat
theorem bnum_lt (d : ByteArray) : ∀ k, bnum d k < 256 ^ k
  | 0 => by simp [bnum]
  | k + 1 => by
    have h := bnum_lt d k
    have h2 := (byteAt d k).toNat_lt
    rw [bnum, Nat.pow_succ]
    omega
theorem bnum_le (d : ByteArray) {k : Nat} (h : k ≤ 6) : bnum d k < 281474976710656 :=
  Nat.lt_of_lt_of_le (bnum_lt d k) (Nat.pow_le_pow_right (i := k) (j := 6) (n := 256) (by omega) h)
theorem i64_join (n c : Nat) (hn : n < 281474976710656) (hc : c < 256) : bits .or .i64 ((n : Int) * 256) (c : Int) = ((256 * n + c : Nat) : Int) := by
  have hx : 256 * n ||| c = 256 * n + c := nat_join 8 _ _ (Nat.mul_mod_right 256 n) hc
  have e1 : ((n : Int) * 256) = ((256 * n : Nat) : Int) := by omega
  rw [e1]
  show IntKind.i64.wrap ((BitVec.ofInt 64 ((256 * n : Nat) : Int) ||| BitVec.ofInt 64 (c : Int)).toNat : Int) = _
  rw [BitVec.toNat_or, ofInt_u64 _ (by omega), ofInt_u64 c (by omega), hx, IntKind.wrap_i64]
  omega
def dnum (t : ByteArray) : Nat := bnum (digOf t) 7
theorem dnum_lt (t : ByteArray) : dnum t < 72057594037927936 := bnum_lt (digOf t) 7
theorem digOf_size (t : ByteArray) : (digOf t).size = 32 := by unfold digOf; rw [strOfNums_size, digL_len]
def chal (r key : Int) (t : ByteArray) : Nat := dnum (putS r ++ putS key ++ t) % 1073741789
theorem chal_lt (r key : Int) (t : ByteArray) : chal r key t < 1073741789 := Nat.mod_lt _ (by omega)
def powK (x : Int) (t : ByteArray) : Nat := 1 + dnum (⟨#[75]⟩ ++ putS x ++ t) % 1073741788
theorem powK_lt (x : Int) (t : ByteArray) : 1 ≤ powK x t ∧ powK x t < 1073741789 := by
  unfold powK
  have := Nat.mod_lt (dnum (⟨#[75]⟩ ++ putS x ++ t)) (show 0 < 1073741788 by omega)
  omega
def challA (r key : Int) (t : ByteArray) : Int := if t.size ≤ 20000 ∧ unitB r = true ∧ unitB key = true then (chal r key t : Int) else 0
def signE (x : Nat) (t : ByteArray) : Nat := chal ((pm 4 (powK x t) 2147483579 : Nat) : Int) ((pm 4 x 2147483579 : Nat) : Int) t
def signS (x : Nat) (t : ByteArray) : Nat := (powK x t + signE x t * x) % 1073741789
def signV (x : Int) (t : ByteArray) : Value :=
  if t.size ≤ 20000 ∧ secB x = true then sigV ((pm 4 x.toNat 2147483579 : Nat) : Int) (signE x.toNat t) (signS x.toNat t) else sigV 0 0 0
/-- What a right signature's own numbers lead to. -/
def backR (k e s : Int) : Nat := pm 4 s.toNat 2147483579 * pm k.toNat (1073741789 - e.toNat) 2147483579 % 2147483579
def sigCB (k e s : Int) (t : ByteArray) : Bool := decide (t.size ≤ 20000) && (sigRB k e s && decide ((chal (backR k e s : Int) k t : Int) = e))
theorem back_unit {k e s : Nat} (hk : pm k 1073741789 2147483579 = 1) : unitB ((backR k e s : Nat) : Int) = true := by
  unfold backR
  refine unit_of (Nat.mod_lt _ (by omega)) ?_
  rw [pm_prod, pm_in (by omega) pm4, pm_in (by omega) (by rw [Int.toNat_natCast]; exact hk)]
theorem back_mul {k e s : Nat} (hk : pm k 1073741789 2147483579 = 1) :
    gmulA ((pm 4 s 2147483579 : Nat) : Int) ((pm k (1073741789 - e) 2147483579 : Nat) : Int) = ((backR k e s : Nat) : Int) := by
  rw [gmulA_nat _ _ (unit_pow pm4 s) (unit_pow hk _)]
  rfl
/-- What a secret has signed passes with its key. -/
theorem sign_passes {x : Nat} {t : ByteArray} (h1 : 1 ≤ x) (h2 : x < 1073741789) (ht : t.size ≤ 20000) :
    sigRB ((pm 4 x 2147483579 : Nat) : Int) (signE x t) (signS x t) = true ∧ sigCB ((pm 4 x 2147483579 : Nat) : Int) (signE x t) (signS x t) t = true := by
  have he : signE x t < 1073741789 := chal_lt _ _ _
  have hs : signS x t < 1073741789 := Nat.mod_lt _ (by omega)
  have hr : sigRB ((pm 4 x 2147483579 : Nat) : Int) (signE x t) (signS x t) = true := by
    unfold sigRB
    rw [pub_right h1 h2, show remB (signE x t : Int) = true from decide_eq_true ⟨by omega, by omega⟩, show remB (signS x t : Int) = true from decide_eq_true ⟨by omega, by omega⟩]
    rfl
  refine ⟨hr, ?_⟩
  have hb : backR ((pm 4 x 2147483579 : Nat) : Int) (signE x t) (signS x t) = pm 4 (powK x t) 2147483579 := by
    unfold backR
    rw [Int.toNat_natCast, Int.toNat_natCast, Int.toNat_natCast]
    exact sig_back (g := 4) (q := 1073741789) (p := 2147483579) (k := powK x t) (e := signE x t) (x := x) (by omega) pm4 he
  unfold sigCB
  rw [hr, hb, decide_eq_true ht]
  exact decide_eq_true rfl
end Go.Proofs.YtjkmfjegphpjkaaGreatDoor
namespace Go.Proofs.YtjkmfjegphpjkaaGreatDoor
open Go.RowKit

theorem powK_eq (x : Int) (t p : ByteArray) (h : putS x = p) : dnum (⟨#[75]⟩ ++ p ++ t) % 1073741788 + 1 = powK x t := by
  subst h
  exact Nat.add_comm _ _
theorem signV_no {x : Int} {t : ByteArray} (h : ¬ (t.size ≤ 20000 ∧ secB x = true)) : signV x t = sigV 0 0 0 := by rw [signV, if_neg h]
theorem signV_nat {x : Nat} {t : ByteArray} (ht : t.size ≤ 20000) (h : secB (x : Int) = true) : signV x t = sigV ((pm 4 x 2147483579 : Nat) : Int) (signE x t) (signS x t) := by
  rw [signV, if_pos ⟨ht, h⟩, Int.toNat_natCast]
theorem backR_nat (k e s : Nat) : backR k e s = pm 4 s 2147483579 * pm k (1073741789 - e) 2147483579 % 2147483579 := by
  unfold backR
  rw [Int.toNat_natCast, Int.toNat_natCast, Int.toNat_natCast]
theorem sigCB_long {k e s : Int} {t : ByteArray} (h : 20000 < t.size) : sigCB k e s t = false := by
  unfold sigCB
  rw [decide_eq_false (by omega)]
  rfl
theorem sigCB_wrong {k e s : Int} {t : ByteArray} (h : sigRB k e s = false) : sigCB k e s t = false := by
  unfold sigCB
  rw [h, Bool.false_and, Bool.and_false]
theorem sigCB_right {k e s : Int} {t : ByteArray} (ht : t.size ≤ 20000) (h : sigRB k e s = true) : sigCB k e s t = decide ((chal (backR k e s : Int) k t : Int) = e) := by
  unfold sigCB
  rw [h, decide_eq_true ht, Bool.true_and, Bool.true_and]
theorem sigRB_nat {k e s : Int} (h : sigRB k e s = true) : ∃ K E S : Nat, k = (K : Int) ∧ e = (E : Int) ∧ s = (S : Int) ∧ K < 2147483579 ∧ E < 1073741789 ∧ S < 1073741789 ∧ pm K 1073741789 2147483579 = 1 := by
  unfold sigRB at h
  rw [Bool.and_eq_true, Bool.and_eq_true] at h
  obtain ⟨⟨h1, h2⟩, h3⟩ := h
  obtain ⟨x, rfl, _, x2, x3⟩ := rightG_nat h1
  have h2' : 0 ≤ e ∧ e < 1073741789 := of_decide_eq_true h2
  have h3' : 0 ≤ s ∧ s < 1073741789 := of_decide_eq_true h3
  exact ⟨x, e.toNat, s.toNat, rfl, by omega, by omega, x2, by omega, by omega, x3⟩
end Go.Proofs.YtjkmfjegphpjkaaGreatDoor
namespace Go.Proofs.YtjkmfjegphpjkaaGreatDoor
open Go.RowKit


theorem specFold (n : Int) (w : World) (h0 : -9223372036854775808 ≤ n) (h1 : n ≤ 9223372036854775807) :
    Calls Tryz.prog 89 #[.int .i64 n] w fun e w' => e = .returned (.int .u64 (foldI n : Int)) ∧ w' = w := by
  by_cases hn : n < 0
  · go_enter Tryz.func89, Tryz.ntmps89
    go_wp2
    go_ret
    exact ⟨ret_int (by unfold foldI; rw [if_pos hn]; omega), rfl⟩
  · go_enter Tryz.func89, Tryz.ntmps89
    go_wp2
    go_ret
    exact ⟨ret_int (by unfold foldI; rw [if_neg (by omega)]; omega), rfl⟩

theorem putRel {B : Nat} {w wr w1 : World} {v v' : Value} {xs : List Int} {x : Int} (o : Obj) (hB : B ≤ wr.heap.size) (hb : Below B w wr) (hown : wr.ownsRow B 5 1 v xs.length (xs.map (Value.int .u8)))
    (hown' : w1.ownsRow B 5 1 v' (xs.length + 1) (xs.map (Value.int .u8) ++ [Value.int .u8 x])) (hg : (wr.alloc o).grownBy w1 v.ownBlock) :
    w1.ownsRow B 5 1 v' (xs ++ [x]).length ((xs ++ [x]).map (Value.int .u8)) ∧ Below B w w1 ∧ B ≤ w1.heap.size := by
  refine ⟨by simpa using hown', (hb.alloc hB o).grown hg (by simp; omega) (fun k hk => (hown.lt k hk).1), ?_⟩
  have := hg.size
  simp at this
  omega

set_option maxHeartbeats 1000000 in
set_option maxRecDepth 100000 in
theorem specPut (n : Int) (w : World) (h0 : -9223372036854775808 ≤ n) (h1 : n ≤ 9223372036854775807) :
    Calls Tryz.prog 64 #[.int .i64 n] w fun e w' => e = .returned (.string (strOfNums (putF 9 (foldI n)))) ∧ Below w.heap.size w w' := by
  obtain ⟨i0, hi, hz0, hz1, hz2⟩ := info_parts infoByte
  have hf : (foldI n : Int) ≤ 18446744073709551615 := by unfold foldI; split <;> omega
  obtain ⟨u, hu⟩ : ∃ u, u = foldI n := ⟨_, rfl⟩
  rw [← hu] at hf ⊢
  have HU : Hid (u = foldI n) := hu
  clear hu
  go_enter Tryz.func64, Tryz.ntmps64
  go_wp2_with fail
  refine (specFold n _ h0 h1).mono ?_
  rintro e w' ⟨rfl, rfl⟩
  rw [← HU.out]
  go_wp2_with fail
  go_loopw [3, 4] (fun a b wr => ∃ (x f : Nat) (xs : List Int), (x : Int) ≤ 18446744073709551615 ∧ x < pw f ∧ xs.length + f ≤ 9 ∧ a = .int .u64 x ∧ wr.ownsRow w'.heap.size 5 1 b xs.length (xs.map (Value.int .u8)) ∧
      Below w'.heap.size w' wr ∧ w'.heap.size ≤ wr.heap.size ∧ xs ++ putF f x = putF 9 u)
    (fun a _ _ => (intOf a).toNat)
  case atStart =>
    exact ⟨u, 9, [], hf, by rw [pw9]; omega, by simp, rfl, World.ownsRow_made _ #[] 0 (Nat.le_refl _) (Nat.zero_le _) rfl, (Below.refl _ _).alloc (Nat.le_refl _) _, by simp, by simp⟩
  case round =>
    obtain ⟨x, f, xs, hx, hpw, hlen, rfl, hown, hbel, hsz, heq⟩ := hrel
    have HE : Hid (xs ++ putF f x = putF 9 u) := heq
    have HP : Hid (x < pw f) := hpw
    clear heq hpw hf h0 h1
    by_cases hlt : 128 ≤ x
    · go_wp2_with (at_builtin; refine wpList_append_own _ rfl _ _ 22 rfl w'.heap.size 5 i0 (.int .u8 0) 1 1 Tryz.underlying22 hi hz0 hz1 hz2 rfl (by decide) _ _ _ rfl (hown.alloc _) ⟨wr.heap.size, 0, none⟩ 1 1 [.int .u8 ((x : Int) % 128 + 128)] rfl rfl ?c1 ?c2 ?c3 ?c4 ?c5 ?_)
      case c1 => exact cells_one (by simp)
      case c2 => intro u hu; simp at hu; subst hu; rfl
      case c3 => unfold maxLen; omega
      case c4 => omega
      case c5 => simp; omega
      intro v' w1 hown' hgrow _
      have R := putRel _ hsz hbel hown hown' hgrow
      clear hown' hgrow hown hbel
      go_wp2
      go_roundw
      case rel =>
        obtain ⟨g, rfl, hg⟩ := pw_step HP.out hlt
        have he := HE.out
        rw [putF_more hlt] at he
        refine ⟨x / 128, g, xs ++ [(x : Int) % 128 + 128], by omega, hg, by simp; omega, by go_num, R.1, R.2.1, R.2.2, ?_⟩
        rw [List.append_assoc, ← he]
        simp
      case measure => simp [intOf]; omega
    · go_wp2_with (at_builtin; refine wpList_append_own _ rfl _ _ 22 rfl w'.heap.size 5 i0 (.int .u8 0) 1 1 Tryz.underlying22 hi hz0 hz1 hz2 rfl (by decide) _ _ _ rfl (hown.alloc _) ⟨wr.heap.size, 0, none⟩ 1 1 [.int .u8 (x : Int)] rfl rfl ?d1 ?d2 ?d3 ?d4 ?d5 ?_)
      case d1 => exact cells_one (by simp)
      case d2 => intro u hu; simp at hu; subst hu; rfl
      case d3 => unfold maxLen; omega
      case d4 => omega
      case d5 => simp; omega
      intro v' w1 hown' hgrow _
      have R := putRel _ hsz hbel hown hown' hgrow
      clear hown' hgrow hown hbel
      have hcv := run_convert_own (P := Tryz.prog) (src := 22) (dst := 9) Tryz.underlying22 Tryz.underlying5 Tryz.underlying9 R.1
      have HR := R.2.1
      clear R
      go_wp2
      go_ret
      refine ⟨?_, HR⟩
      have he := HE.out
      rw [putF_last (by omega)] at he
      rw [← he]
      rfl
end Go.Proofs.YtjkmfjegphpjkaaGreatDoor
namespace Go.Proofs.YtjkmfjegphpjkaaGreatDoor
open Go.RowKit

theorem implFold (n : Int) (w : World) (h0 : -9223372036854775808 ≤ n) (h1 : n ≤ 9223372036854775807) :
    Calls Tryz.prog 85 #[.int .i64 n] w fun e w' => e = .returned (.int .u64 (foldI n : Int)) ∧ w' = w := by
  by_cases hn : n < 0
  · go_enter Tryz.func85, Tryz.ntmps85
    go_wp2
    go_ret
    exact ⟨ret_int (fold_bits_neg n h0 hn), rfl⟩
  · go_enter Tryz.func85, Tryz.ntmps85
    go_wp2
    go_ret
    exact ⟨ret_int (fold_bits_pos n h1 (by omega)), rfl⟩

theorem arr10 : Tryz.prog.arrayLen 90 = 10 := by kernel_rfl
theorem size_elem10 (w : World) : (sizeOf (Tryz.prog.elem 90)).run Tryz.prog w = .ok 1 w := by kernel_rfl
theorem under10 : Tryz.prog.underlying 90 = some (.array (Tryz.prog.arrayLen 90) (Tryz.prog.elem 90)) := by kernel_rfl
theorem slice10 (w : World) (b k : Nat) (hk : k < 10) :
    (Instr.sliceAt 90 (.pointer (some ⟨b, 0, none⟩)) none (some (.int .i64 ((k : Int) + 1))) none).run Tryz.prog w = .ok (.slice (some ⟨b, 0, none⟩) (k + 1) 10) w := by
  rw [run_sliceAt_array_h w _ _ under10 .i64 _ (by omega) (by rw [arr10]; omega), size_elem10]
  simp only [Result.andThen_ok, slicedAt, arr10]
  simp [Addr.add]

set_option maxHeartbeats 1000000 in
set_option maxRecDepth 100000 in
theorem implPut (n : Int) (w : World) (h0 : -9223372036854775808 ≤ n) (h1 : n ≤ 9223372036854775807) :
    Calls Tryz.prog 61 #[.int .i64 n] w fun e w' => e = .returned (.string (strOfNums (putF 9 (foldI n)))) ∧ Below w.heap.size w w' := by
  have hf : (foldI n : Int) ≤ 18446744073709551615 := by unfold foldI; split <;> omega
  obtain ⟨u, hu⟩ : ∃ u, u = foldI n := ⟨_, rfl⟩
  rw [← hu] at hf ⊢
  have HU : Hid (u = foldI n) := hu
  clear hu
  go_enter Tryz.func61, Tryz.ntmps61
  go_wp2_with fail
  refine (implFold n _ h0 h1).mono ?_
  rintro e w' ⟨rfl, rfl⟩
  rw [← HU.out]
  go_wp2_with fail
  go_loopw [4, 5] (fun s a wr => ∃ (x f : Nat) (xs : List Int) (L : List Value), (x : Int) ≤ 18446744073709551615 ∧ x < pw f ∧ xs.length + f ≤ 9 ∧ s = .int .i64 xs.length ∧ a = .int .u64 x ∧
      wr.ownsRow w.heap.size 90 1 (.slice (some ⟨w.heap.size, 0, none⟩) 10 10) 10 L ∧ (∀ j, j < xs.length → L[j]? = some (.int .u8 (xs.getD j 0))) ∧ Below w.heap.size w wr ∧ xs ++ putF f x = putF 9 u)
    (fun _ a _ => (intOf a).toNat)
  case atStart =>
    exact ⟨u, 9, [], _, hf, by rw [pw9]; omega, by simp, rfl, rfl, World.ownsRow_lit _ _ 10 (Nat.le_refl _) (by decide) rfl, by simp, (Below.refl _ _).alloc (Nat.le_refl _) _, by simp⟩
  case round =>
    obtain ⟨x, f, xs, L, hx, hpw, hlen, rfl, rfl, hown, hL, hbel, heq⟩ := hrel
    have HE : Hid (xs ++ putF f x = putF 9 u) := heq
    have HP : Hid (x < pw f) := hpw
    have HL : Hid (∀ j, j < xs.length → L[j]? = some (.int .u8 (xs.getD j 0))) := hL
    have hlL : L.length = 10 := by simpa using hown.1
    have hc := hown.cellAt xs.length (by omega)
    rw [List.getElem?_eq_getElem (by omega)] at hc
    obtain ⟨v0, hv0⟩ : ∃ v, wr.cell? ⟨w.heap.size, xs.length, none⟩ = some v := ⟨_, hc⟩
    have hfz := hown.frozenAt xs.length
    have hor := or128 x
    clear heq hpw hL hf h0 h1 hc hlL
    have hst := fun v => hown.stored xs.length v
    have HS : Hid (∀ v, (wr.setCell ⟨w.heap.size, xs.length, none⟩ v).ownsRow w.heap.size 90 1 (.slice (some ⟨w.heap.size, 0, none⟩) 10 10) 10 (L.set xs.length v)) := fun v => (hst v).1
    have hb2 : Hid (∀ v, Below w.heap.size w (wr.setCell ⟨w.heap.size, xs.length, none⟩ v)) := fun v => hbel.setCell (Nat.le_refl _) v
    have HL2 : Hid (∀ y : Int, ∀ j, j < (xs ++ [y]).length → (L.set xs.length (.int .u8 y))[j]? = some (.int .u8 ((xs ++ [y]).getD j 0))) := fun y => set_reads (by have := hown.1; omega) HL.out
    clear hst hown hbel HL
    by_cases hlt : 128 ≤ x
    · go_wp2
      go_roundw
      case rel =>
        obtain ⟨g, rfl, hg⟩ := pw_step HP.out hlt
        have he := HE.out
        rw [putF_more hlt] at he
        refine ⟨x / 128, g, xs ++ [(x : Int) % 128 + 128], _, by omega, hg, by simp; omega, by simp, by go_num, HS.out _, HL2.out _, hb2.out _, ?_⟩
        rw [List.append_assoc, ← he]
        simp
      case measure => simp [intOf]; omega
    · have hcv : ∀ W : World, (∀ j, j < xs.length + 1 → W.cell? ⟨w.heap.size, j, none⟩ = some (.int .u8 ((xs ++ [(x : Int)]).getD j 0))) →
          (convert 22 9 (.slice (some ⟨w.heap.size, 0, none⟩) (xs.length + 1) 10)).run Tryz.prog W = .ok (.string (strOfNums (xs ++ [(x : Int)]))) W := fun W hW =>
        run_convert_bytes_arg W 22 5 Tryz.underlying22 Tryz.underlying5 w.heap.size 0 (xs.length + 1) 10 (xs ++ [(x : Int)]) (by simp) (fun j hj => by rw [Nat.zero_add]; exact hW j hj) 9 Tryz.underlying9
      have hcv1 := hcv (wr.setCell ⟨w.heap.size, xs.length, none⟩ (.int .u8 (x : Int))) (fun j hj => by
        rw [(HS.out (.int .u8 (x : Int))).cellAt j (by omega), HL2.out (x : Int) j (by simpa using hj)])
      have hsl := fun W => slice10 W w.heap.size xs.length (by omega)
      clear hcv
      go_wp2
      go_ret
      refine ⟨?_, hb2.out _⟩
      have he := HE.out
      rw [putF_last (by omega)] at he
      rw [← he]
      rfl
end Go.Proofs.YtjkmfjegphpjkaaGreatDoor
namespace Go.Proofs.YtjkmfjegphpjkaaGreatDoor
open Go.RowKit

theorem tooLong (s : ByteArray) (w : World) (hs : s.size ≤ maxLen) :
    Calls Tryz.prog 25 #[.string s] w fun e w' => e = .returned (.bool (decide (20000 < s.size))) ∧ w' = w := by
  unfold maxLen at hs
  go_enter Tryz.func25, Tryz.ntmps25
  go_wp2
  go_ret
  exact ⟨by simp; omega, rfl⟩
end Go.Proofs.YtjkmfjegphpjkaaGreatDoor
namespace Go.Proofs.YtjkmfjegphpjkaaGreatDoor
open Go.RowKit

theorem putF_lenT (f x : Nat) : (putF f x).length ≤ f + 1 := by
  induction f generalizing x with
  | zero => simp [putF]
  | succ f ih =>
    rw [putF]
    split
    · simp
    · simpa using ih (x / 128)
theorem putStr_size (f x : Nat) : (strOfNums (putF f x)).size ≤ f + 1 := by
  have := putF_lenT f x
  simpa [strOfNums, ByteArray.size] using this


set_option maxRecDepth 100000 in
theorem specPutText (t : ByteArray) (w : World) (hs : t.size ≤ 20000) :
    Calls Tryz.prog 66 #[.string t] w fun e w' => e = .returned (.string (strOfNums (putF 9 (foldI t.size)) ++ t)) ∧ Below w.heap.size w w' := by
  have hl := putStr_size 9 (foldI t.size)
  go_enter Tryz.func66, Tryz.ntmps66
  go_wp2_with fail
  refine (specPut _ _ (by omega) (by omega)).mono ?_
  rintro e w1 ⟨rfl, hb1⟩
  generalize hse : strOfNums (putF 9 (foldI t.size)) = s at *
  have HE : Hid (strOfNums (putF 9 (foldI t.size)) = s) := hse
  clear hse
  have hadd := fun W => run_string_add_sum (P := Tryz.prog) (w := W) s t (by omega)
  go_wp2
  go_ret
  exact ⟨by rw [HE.out]; rfl, hb1⟩
theorem specPutText_long (t : ByteArray) (w : World) (hs : 20000 < t.size) (hm : t.size ≤ maxLen) :
    Calls Tryz.prog 66 #[.string t] w fun e w' => e = .returned (.string ByteArray.empty) ∧ w' = w := by
  unfold maxLen at hm
  go_enter Tryz.func66, Tryz.ntmps66
  go_wp2
  go_ret
  exact ⟨rfl, rfl⟩
set_option maxRecDepth 100000 in
theorem implPutText (t : ByteArray) (w : World) (hs : t.size ≤ 20000) :
    Calls Tryz.prog 62 #[.string t] w fun e w' => e = .returned (.string (strOfNums (putF 9 (foldI t.size)) ++ t)) ∧ Below w.heap.size w w' := by
  have hl := putStr_size 9 (foldI t.size)
  have hd : decide (20000 < t.size) = false := by simp; omega
  go_enter Tryz.func62, Tryz.ntmps62
  go_wp2_with fail
  refine (tooLong t _ (by unfold maxLen; omega)).mono ?_
  rintro e w' ⟨rfl, rfl⟩
  go_wp2_with fail
  refine (implPut _ _ (by omega) (by omega)).mono ?_
  rintro e w1 ⟨rfl, hb1⟩
  generalize hse : strOfNums (putF 9 (foldI t.size)) = s at *
  have HE : Hid (strOfNums (putF 9 (foldI t.size)) = s) := hse
  clear hse
  go_wp2_with fail
  refine (joinTexts s t _ (by omega) (by omega)).mono ?_
  rintro e w2 ⟨rfl, hb2⟩
  have HB : Hid (Below w'.heap.size w' w2) := hb1.trans (hb2.mono hb1.size)
  clear hb1 hb2
  go_wp2
  go_ret
  exact ⟨by rw [HE.out]; rfl, HB.out⟩
theorem implPutText_long (t : ByteArray) (w : World) (hs : 20000 < t.size) (hm : t.size ≤ maxLen) :
    Calls Tryz.prog 62 #[.string t] w fun e w' => e = .returned (.string ByteArray.empty) ∧ w' = w := by
  have hd : decide (20000 < t.size) = true := by simp; omega
  go_enter Tryz.func62, Tryz.ntmps62
  go_wp2_with fail
  refine (tooLong t _ hm).mono ?_
  rintro e w' ⟨rfl, rfl⟩
  go_wp2
  go_ret
  exact ⟨rfl, rfl⟩
end Go.Proofs.YtjkmfjegphpjkaaGreatDoor
namespace Go.Proofs.YtjkmfjegphpjkaaGreatDoor
open Go.RowKit Go.Lib

/-- A text behind its length. -/
def putTx (t : ByteArray) : ByteArray := strOfNums (putF 9 (foldI t.size)) ++ t
def dotD : ByteArray := ⟨#[46]⟩
def jHead (key nonce : Int) (url : ByteArray) : ByteArray := putS key ++ putS nonce ++ putTx url
/-- The first two parts. -/
def jTwo (key nonce : Int) (url body : ByteArray) : ByteArray := b64D (jHead key nonce url) ++ dotD ++ b64D body
def jText (key nonce : Int) (url body : ByteArray) (e s : Int) : ByteArray := jTwo key nonce url body ++ dotD ++ b64D (putS e ++ putS s)
def jV (key nonce : Int) (url body : ByteArray) (sk se ss : Int) : Value := .agg #[.int .i64 key, .int .i64 nonce, .string url, .string body, .int .i64 sk, .int .i64 se, .int .i64 ss]
theorem b64D_size (s : ByteArray) : (b64D s).size ≤ 2 * s.size := by
  unfold b64D
  rw [strOfNums_size]
  have := b64I_len (bts s)
  rw [bts_len] at this
  exact this
theorem putTx_size (t : ByteArray) : (putTx t).size ≤ 10 + t.size := by
  have := putStr_size 9 (foldI t.size)
  rw [putTx, ByteArray.size_append]
  omega
theorem jHead_size (key nonce : Int) (url : ByteArray) : (jHead key nonce url).size ≤ 30 + url.size := by
  have h1 := putS_size key
  have h2 := putS_size nonce
  have h3 := putTx_size url
  rw [jHead, ByteArray.size_append, ByteArray.size_append]
  omega
theorem jTwo_size (key nonce : Int) (url body : ByteArray) : (jTwo key nonce url body).size ≤ 61 + 2 * url.size + 2 * body.size := by
  have h1 := b64D_size (jHead key nonce url)
  have h2 := b64D_size body
  have h3 := jHead_size key nonce url
  have h4 : dotD.size = 1 := rfl
  rw [jTwo, ByteArray.size_append, ByteArray.size_append, h4]
  omega
/-- Is what is asked right, whatever its signature is? -/
noncomputable def rqB (key nonce : Int) (url body : ByteArray) : Bool := rightG key && (timeB nonce && (nameB url && decide (body.size ≤ 2000)))
/-- What JwsSign tells. -/
noncomputable def jSign (x nonce : Int) (url body : ByteArray) : ByteArray :=
  if secB x = true ∧ timeB nonce = true ∧ nameB url = true ∧ body.size ≤ 2000 then
    jText (pubA x) nonce url body (signE x.toNat (jTwo (pubA x) nonce url body)) (signS x.toNat (jTwo (pubA x) nonce url body))
  else ⟨#[]⟩
theorem pub_rqB (x nonce : Int) (url body : ByteArray) : rqB (pubA x) nonce url body = (secB x && (timeB nonce && (nameB url && decide (body.size ≤ 2000)))) := by
  unfold rqB
  by_cases h : secB x = true
  · obtain ⟨n, rfl, h1, h2⟩ := secB_nat h
    rw [pubA_nat n h, pub_right h1 h2, h]
  · have e : rightG 0 = false := rightG_out (by omega)
    rw [pubA, if_neg h, e]
    rw [Bool.not_eq_true] at h
    rw [h]
open Classical in
theorem jurl_size {url : ByteArray} (h : nameB url = true) : url.size ≤ 40 := by
  unfold nameB at h
  have := of_decide_eq_true h
  exact this.2.1
end Go.Proofs.YtjkmfjegphpjkaaGreatDoor
namespace Go.Proofs.YtjkmfjegphpjkaaGreatDoor
open Go.RowKit Go.Lib

theorem and_mask (p : Nat) (hp : p ≤ 32) (n : Nat) : bits .and .i64 (n : Int) ((2 ^ p : Nat) - 1 : Int) = ((n % 2 ^ p : Nat) : Int) := by
  have h32 : 2 ^ p ≤ 2 ^ 32 := Nat.pow_le_pow_right (by omega) hp
  have hp0 : 0 < 2 ^ p := Nat.two_pow_pos p
  have e0 : (2 : Nat) ^ 32 = 4294967296 := by decide
  have e : bits BinOp.and IntKind.i64 (n : Int) ((2 ^ p : Nat) - 1 : Int) = IntKind.i64.wrap ((BitVec.ofInt 64 (n : Int) &&& BitVec.ofInt 64 ((2 ^ p : Nat) - 1 : Int)).toNat : Nat) := rfl
  rw [e, BitVec.toNat_and, BitVec.toNat_ofInt, BitVec.toNat_ofInt]
  have e1 : ((((2 ^ p : Nat) : Int) - 1) % ((2 ^ 64 : Nat) : Int)).toNat = 2 ^ p - 1 := by omega
  rw [e1, Nat.and_two_pow_sub_one_eq_mod, IntKind.wrap_i64]
  have hm : (((n : Int) % ((2 ^ 64 : Nat) : Int)).toNat) % 2 ^ p = n % 2 ^ p := by
    have h64 : ((n : Int) % ((2 ^ 64 : Nat) : Int)).toNat = n % 2 ^ 64 := by omega
    rw [h64, Nat.mod_mod_of_dvd]
    exact Nat.pow_dvd_pow 2 (by omega)
  rw [hm]
  have := Nat.mod_lt n hp0
  omega
/-- Eight by eight to six by six: h is held, c bits. -/
def rgo : List Nat → Nat → Nat → List Nat × Nat × Nat
  | [], h, c => ([], h, c)
  | g :: r, h, c =>
    if c = 0 then ((h * 256 + g) / 4 :: (rgo r ((h * 256 + g) % 4) 2).1, (rgo r ((h * 256 + g) % 4) 2).2)
    else if c = 2 then ((h * 256 + g) / 16 :: (rgo r ((h * 256 + g) % 16) 4).1, (rgo r ((h * 256 + g) % 16) 4).2)
    else ((h * 256 + g) / 64 :: (h * 256 + g) % 64 :: (rgo r 0 0).1, (rgo r 0 0).2)
/-- What is put behind. -/
def tailG (x : Nat × Nat) : List Nat := if x.2 = 0 then [] else if x.2 = 2 then [x.1 * 16] else [x.1 * 4]
theorem b64_rgo : ∀ (l : List Nat), b64 l = (rgo l 0 0).1 ++ tailG (rgo l 0 0).2 ∧ ((rgo l 0 0).2.2 = 0 ∨ ((rgo l 0 0).2.2 = 2 ∧ (rgo l 0 0).2.1 < 4) ∨ ((rgo l 0 0).2.2 = 4 ∧ (rgo l 0 0).2.1 < 16))
  | [] => ⟨rfl, .inl rfl⟩
  | [a] => by
    refine ⟨?_, .inr (.inl ⟨rfl, ?_⟩)⟩
    · simp [b64, rgo, tailG]
    · simp only [rgo, if_true]; omega
  | [a, b] => by
    refine ⟨?_, .inr (.inr ⟨rfl, ?_⟩)⟩
    · simp [b64, rgo, tailG]
      omega
    · simp [rgo]; omega
  | a :: b :: c :: r => by
    have ih := b64_rgo r
    have e : rgo (a :: b :: c :: r) 0 0 = (a / 4 :: (a % 4 * 16 + b / 16) :: (b % 16 * 4 + c / 64) :: (c % 64) :: (rgo r 0 0).1, (rgo r 0 0).2) := by
      simp [rgo]
      omega
    rw [e]
    refine ⟨?_, ih.2⟩
    rw [b64, ih.1]
    rfl
theorem b64_lt : ∀ (l : List Nat), (∀ x ∈ l, x < 256) → ∀ y ∈ b64 l, y < 64
  | [], _, y, hy => by cases hy
  | [a], h, y, hy => by
    have ha := h a (by simp)
    simp [b64] at hy
    omega
  | [a, b], h, y, hy => by
    have ha := h a (by simp)
    have hb := h b (by simp)
    simp [b64] at hy
    omega
  | a :: b :: c :: r, h, y, hy => by
    have ha := h a (by simp)
    have hb := h b (by simp)
    have hc := h c (by simp)
    simp only [b64, List.mem_cons] at hy
    rcases hy with rfl | rfl | rfl | rfl | hy
    · omega
    · omega
    · omega
    · omega
    · exact b64_lt r (fun x hx => h x (by simp [hx])) y hy
theorem rgo_len : ∀ (l : List Nat) (h c : Nat), (rgo l h c).1.length ≤ 2 * l.length
  | [], _, _ => Nat.le_refl _
  | g :: r, h, c => by
    have h1 := rgo_len r ((h * 256 + g) % 4) 2
    have h2 := rgo_len r ((h * 256 + g) % 16) 4
    have h3 := rgo_len r 0 0
    rw [rgo]
    split
    · simp only [List.length_cons]; omega
    · split
      · simp only [List.length_cons]; omega
      · simp only [List.length_cons]; omega
theorem bts_lt (s : ByteArray) : ∀ x ∈ bts s, x < 256 := by
  intro x hx
  simp only [bts, List.mem_map] at hx
  obtain ⟨u, _, rfl⟩ := hx
  have := u.toNat_lt
  omega
/-- Bytes in memory. -/
def IsBts (w : World) (a : Option Addr) (zs : List Nat) : Prop := zs = [] ∨ ∃ b, a = some ⟨b, 0, none⟩ ∧ b < w.heap.size ∧ ∀ (i z : Nat), zs[i]? = some z → w.cell? ⟨b, i, none⟩ = some (.int .u8 (z : Int))
theorem IsBts.keep {w w' : World} {a : Option Addr} {zs : List Nat} (h : IsBts w a zs) (hb : Below w.heap.size w w') : IsBts w' a zs := by
  rcases h with h | ⟨b, e, hl, hc⟩
  · exact .inl h
  · exact .inr ⟨b, e, Nat.lt_of_lt_of_le hl hb.size, fun i z hz => by rw [hb.cell (p := ⟨b, i, none⟩) hl]; exact hc i z hz⟩
/-- A row of bytes of the call's own. -/
def OwnB (w : World) (B : Nat) (v : Value) (l : List Nat) : Prop := w.ownsRow B 5 1 v l.length ((l.map (fun x : Nat => (x : Int))).map (Value.int .u8))
theorem OwnB.keep {w w' : World} {B : Nat} {v : Value} {l : List Nat} (h : OwnB w B v l) (hb : Below w.heap.size w w') : OwnB w' B v l := by
  refine ⟨h.1, ?_⟩
  rcases h.2 with h | ⟨g, cap, cur, e, h1, h2, h3⟩
  · exact .inl h
  · exact .inr ⟨g, cap, cur, e, h1, by rw [hb.block g (heap_lt h2)]; exact h2, h3⟩
theorem OwnB.form {w : World} {B : Nat} {v : Value} {l : List Nat} (h : OwnB w B v l) : ∃ a c, v = .slice a l.length c ∧ l.length ≤ c := by
  rcases h.2 with ⟨h, h'⟩ | ⟨g, cap, _, e, _, _, hc, _⟩
  · exact ⟨none, 0, by rw [h']; exact h, by omega⟩
  · exact ⟨_, _, e, hc⟩
theorem ownB_nil (w : World) (B : Nat) : OwnB w B (.slice none 0 0) [] := ⟨rfl, .inl ⟨rfl, rfl⟩⟩
theorem OwnB.bts {w : World} {B n c : Nat} {a : Option Addr} {l : List Nat} (h : OwnB w B (.slice a n c) l) : IsBts w a l := by
  rcases h.2 with ⟨_, h'⟩ | ⟨g, cap, cur, e, h1, h2, h3, _, _, ht⟩
  · exact .inl (List.eq_nil_of_length_eq_zero h')
  · simp only [Value.slice.injEq] at e
    obtain ⟨rfl, rfl, rfl⟩ := e
    refine .inr ⟨g, rfl, heap_lt h2, fun i z hz => ?_⟩
    have hi : i < l.length := by
      rcases Nat.lt_or_ge i l.length with h | h
      · exact h
      · rw [List.getElem?_eq_none h] at hz; cases hz
    have := World.ownsRow.cellAt h i (by omega)
    rw [this]
    simp [hz]
end Go.Proofs.YtjkmfjegphpjkaaGreatDoor
namespace Go.Proofs.YtjkmfjegphpjkaaGreatDoor
open Go.RowKit Go.Lib

/-- What a sign stands for. -/
def sgi (c : Nat) : Option Nat := (List.range 64).find? fun q => decide (sg q = (c : Int))
def sgk (c : Nat) : Int := match sgi c with
  | some q => (q : Int)
  | none => -1
theorem sg_inj : ∀ q q' : Fin 64, sg q = sg q' → q = q' := by decide +kernel
theorem sg_range : ∀ q : Fin 64, 0 ≤ sg q ∧ sg q < 128 := by decide +kernel
theorem sgi_some {c q : Nat} (h : sgi c = some q) : q < 64 ∧ sg q = (c : Int) := by
  have h1 := List.mem_of_find?_eq_some h
  have h2 := List.find?_some h
  exact ⟨List.mem_range.1 h1, of_decide_eq_true h2⟩
theorem sgi_none {c : Nat} (h : sgi c = none) : ∀ q, q < 64 → sg q ≠ (c : Int) := by
  intro q hq e
  have := List.find?_eq_none.1 h q (List.mem_range.2 hq)
  exact this (decide_eq_true e)
theorem sgi_eq {c q : Nat} (hq : q < 64) (h : sg q = (c : Int)) : sgi c = some q := by
  cases hh : sgi c with
  | none => exact absurd h (sgi_none hh q hq)
  | some q' =>
    have h1 := sgi_some hh
    have := sg_inj ⟨q', h1.1⟩ ⟨q, hq⟩ (h1.2.trans h.symm)
    simp at this
    rw [this]
theorem sgi_high {c : Nat} (h : 128 ≤ c) : sgi c = none := by
  cases hh : sgi c with
  | none => rfl
  | some q =>
    have h1 := sgi_some hh
    have h2 := sg_range ⟨q, h1.1⟩
    simp only at h2
    omega
def readV : List Nat → Option (List Nat)
  | [] => some []
  | c :: r => match sgi c with
    | none => none
    | some q => (readV r).map (q :: ·)
theorem readV_len : ∀ (l vs : List Nat), readV l = some vs → vs.length = l.length
  | [], vs, h => by simp [readV] at h; subst h; rfl
  | c :: r, vs, h => by
    rw [readV] at h
    split at h
    · cases h
    · cases hr : readV r with
      | none => rw [hr] at h; cases h
      | some v2 =>
        rw [hr] at h
        simp at h
        subst h
        simp [readV_len r v2 hr]
theorem readV_lt : ∀ (l vs : List Nat), readV l = some vs → ∀ x ∈ vs, x < 64
  | [], vs, h => by simp [readV] at h; subst h; simp
  | c :: r, vs, h => by
    rw [readV] at h
    split at h
    · cases h
    · rename_i q hq
      cases hr : readV r with
      | none => rw [hr] at h; cases h
      | some v2 =>
        rw [hr] at h
        simp at h
        subst h
        intro x hx
        rcases List.mem_cons.1 hx with rfl | hx
        · exact (sgi_some hq).1
        · exact readV_lt r v2 hr x hx
/-- Six by six to eight by eight: h is held, c bits. -/
def rgi : List Nat → Nat → Nat → List Nat × Nat × Nat
  | [], h, c => ([], h, c)
  | g :: r, h, c =>
    if c = 0 then rgi r (h * 64 + g) 6
    else if c = 6 then ((h * 64 + g) / 16 :: (rgi r ((h * 64 + g) % 16) 4).1, (rgi r ((h * 64 + g) % 16) 4).2)
    else if c = 4 then ((h * 64 + g) / 4 :: (rgi r ((h * 64 + g) % 4) 2).1, (rgi r ((h * 64 + g) % 4) 2).2)
    else ((h * 64 + g) :: (rgi r 0 0).1, (rgi r 0 0).2)
theorem rgi_len : ∀ (l : List Nat) (h c : Nat), (rgi l h c).1.length ≤ 2 * l.length
  | [], _, _ => Nat.le_refl _
  | g :: r, h, c => by
    have h1 := rgi_len r (h * 64 + g) 6
    have h2 := rgi_len r ((h * 64 + g) % 16) 4
    have h3 := rgi_len r ((h * 64 + g) % 4) 2
    have h4 := rgi_len r 0 0
    rw [rgi]
    split
    · simp only [List.length_cons]; omega
    · split
      · simp only [List.length_cons]; omega
      · split
        · simp only [List.length_cons]; omega
        · simp only [List.length_cons]; omega
def natT (l : List Nat) : ByteArray := strOfNums (l.map fun x : Nat => (x : Int))
theorem natT_size (l : List Nat) : (natT l).size = l.length := by unfold natT; rw [strOfNums_size, List.length_map]
/-- What Base64Read tells. -/
def readTD (s : ByteArray) : ByteArray × Int :=
  if 20000 < s.size then (⟨#[]⟩, 2) else
  match readV (bts s) with
  | none => (⟨#[]⟩, 3)
  | some vs => if base64D (natT (rgi vs 0 0).1) = s then (natT (rgi vs 0 0).1, 0) else (⟨#[]⟩, 3)
theorem read_same {s : ByteArray} {vs : List Nat} (h : readV (bts s) = some vs) : base64D (natT (rgi vs 0 0).1) = s ↔ ((rgi vs 0 0).1.length ≤ 4000 ∧ b64D (natT (rgi vs 0 0).1) = s) := by
  have hl := readV_len _ _ h
  rw [bts_len] at hl
  unfold base64D
  rw [natT_size]
  by_cases h4 : 4000 < (rgi vs 0 0).1.length
  · rw [if_pos h4]
    constructor
    · intro e
      exfalso
      rw [← e] at hl
      have : vs = [] := List.eq_nil_of_length_eq_zero (by rw [hl]; rfl)
      subst this
      simp [rgi] at h4
    · intro e
      omega
  · rw [if_neg h4]
    constructor
    · intro e
      exact ⟨by omega, e⟩
    · intro e
      exact e.2
end Go.Proofs.YtjkmfjegphpjkaaGreatDoor
