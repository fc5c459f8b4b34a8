/- The number of a digest; challenges and signatures as they are answered: plain mathematics. Signatures as they are answered: plain mathematics. spec.PutNum, walked. impl.PutNum, walked. impl.tooLong, walked. -/
import Derived.Test.YtmegmcngcehneaaGreatDoorJX08
import Derived.Test.YtmegmcngcehneaaGreatDoorJX04
import Derived.Test.YtmegmcngcehneaaGreatDoorJX01
namespace Go.Proofs.YtmegmcngcehneaaGreatDoor
open Go.RowKit

/-- The number of a text's first k bytes, the highest first. -/
def bnum (d : ByteArray) : Nat → Nat
  | 0 => 0
  | k + 1 => 256 * bnum d k + (byteAt d k).toNat
theorem bnum_lt (d : ByteArray) : ∀ k, bnum d k < 256 ^ k
  | 0 => by simp [bnum]
  | k + 1 => by
    have h := bnum_lt d k
    have h2 := (byteAt d k).toNat_lt
    rw [bnum, Nat.pow_succ]
    omega
theorem bnum_le (d : ByteArray) {k : Nat} (h : k ≤ 6) : bnum d k < 281474976710656 :=
  Nat.lt_of_lt_of_le (bnum_lt d k) (Nat.pow_le_pow_right (i := k) (j := 6) (n := 256) (by omega) h)
theorem i64_join (n c : Nat) (hn : n < 281474976710656) (hc : c < 256) : bits .or .i64 ((n : Int) * 256) (c : Int) = ((256 * n + c : Nat) : Int) := by
  have hx : 256 * n ||| c = 256 * n + c := nat_join 8 _ _ (Nat.mul_mod_right 256 n) hc
  have e1 : ((n : Int) * 256) = ((256 * n : Nat) : Int) := by omega
  rw [e1]
  show IntKind.i64.wrap ((BitVec.ofInt 64 ((256 * n : Nat) : Int) ||| BitVec.ofInt 64 (c : Int)).toNat : Int) = _
  rw [BitVec.toNat_or, ofInt_u64 _ (by omega), ofInt_u64 c (by omega), hx, IntKind.wrap_i64]
  omega
def dnum (t : ByteArray) : Nat := bnum (digOf t) 7
theorem dnum_lt (t : ByteArray) : dnum t < 72057594037927936 := bnum_lt (digOf t) 7
theorem digOf_size (t : ByteArray) : (digOf t).size = 32 := by unfold digOf; rw [strOfNums_size, digL_len]
def chal (r key : Int) (t : ByteArray) : Nat := dnum (putS r ++ putS key ++ t) % 1073741789
theorem chal_lt (r key : Int) (t : ByteArray) : chal r key t < 1073741789 := Nat.mod_lt _ (by omega)
def powK (x : Int) (t : ByteArray) : Nat := 1 + dnum (⟨#[75]⟩ ++ putS x ++ t) % 1073741788
theorem powK_lt (x : Int) (t : ByteArray) : 1 ≤ powK x t ∧ powK x t < 1073741789 := by
  unfold powK
  have := Nat.mod_lt (dnum (⟨#[75]⟩ ++ putS x ++ t)) (show 0 < 1073741788 by omega)
  omega
def challA (r key : Int) (t : ByteArray) : Int := if t.size ≤ 20000 ∧ unitB r = true ∧ unitB key = true then (chal r key t : Int) else 0
def signE (x : Nat) (t : ByteArray) : Nat := chal ((pm 4 (powK x t) 2147483579 : Nat) : Int) ((pm 4 x 2147483579 : Nat) : Int) t
def signS (x : Nat) (t : ByteArray) : Nat := (powK x t + signE x t * x) % 1073741789
def signV (x : Int) (t : ByteArray) : Value :=
  if t.size ≤ 20000 ∧ secB x = true then sigV ((pm 4 x.toNat 2147483579 : Nat) : Int) (signE x.toNat t) (signS x.toNat t) else sigV 0 0 0
/-- What a right signature's own numbers lead to. -/
def backR (k e s : Int) : Nat := pm 4 s.toNat 2147483579 * pm k.toNat (1073741789 - e.toNat) 2147483579 % 2147483579
def sigCB (k e s : Int) (t : ByteArray) : Bool := decide (t.size ≤ 20000) && (sigRB k e s && decide ((chal (backR k e s : Int) k t : Int) = e))
theorem back_unit {k e s : Nat} (hk : pm k 1073741789 2147483579 = 1) : unitB ((backR k e s : Nat) : Int) = true := by
  unfold backR
  refine unit_of (Nat.mod_lt _ (by omega)) ?_
  rw [pm_prod, pm_in (by omega) pm4, pm_in (by omega) (by rw [Int.toNat_natCast]; exact hk)]
theorem back_mul {k e s : Nat} (hk : pm k 1073741789 2147483579 = 1) :
    gmulA ((pm 4 s 2147483579 : Nat) : Int) ((pm k (1073741789 - e) 2147483579 : Nat) : Int) = ((backR k e s : Nat) : Int) := by
  rw [gmulA_nat _ _ (unit_pow pm4 s) (unit_pow hk _)]
  rfl
/-- What a secret has signed passes with its key. -/
theorem sign_passes {x : Nat} {t : ByteArray} (h1 : 1 ≤ x) (h2 : x < 1073741789) (ht : t.size ≤ 20000) :
    sigRB ((pm 4 x 2147483579 : Nat) : Int) (signE x t) (signS x t) = true ∧ sigCB ((pm 4 x 2147483579 : Nat) : Int) (signE x t) (signS x t) t = true := by
  have he : signE x t < 1073741789 := chal_lt _ _ _
  have hs : signS x t < 1073741789 := Nat.mod_lt _ (by omega)
  have hr : sigRB ((pm 4 x 2147483579 : Nat) : Int) (signE x t) (signS x t) = true := by
    unfold sigRB
    rw [pub_right h1 h2, show remB (signE x t : Int) = true from decide_eq_true ⟨by omega, by omega⟩, show remB (signS x t : Int) = true from decide_eq_true ⟨by omega, by omega⟩]
    rfl
  refine ⟨hr, ?_⟩
  have hb : backR ((pm 4 x 2147483579 : Nat) : Int) (signE x t) (signS x t) = pm 4 (powK x t) 2147483579 := by
    unfold backR
    rw [Int.toNat_natCast, Int.toNat_natCast, Int.toNat_natCast]
    exact sig_back (g := 4) (q := 1073741789) (p := 2147483579) (k := powK x t) (e := signE x t) (x := x) (by omega) pm4 he
  unfold sigCB
  rw [hr, hb, decide_eq_true ht]
  exact decide_eq_true rfl
end Go.Proofs.YtmegmcngcehneaaGreatDoor
namespace Go.Proofs.YtmegmcngcehneaaGreatDoor
open Go.RowKit

theorem powK_eq (x : Int) (t p : ByteArray) (h : putS x = p) : dnum (⟨#[75]⟩ ++ p ++ t) % 1073741788 + 1 = powK x t := by
  subst h
  exact Nat.add_comm _ _
theorem signV_no {x : Int} {t : ByteArray} (h : ¬ (t.size ≤ 20000 ∧ secB x = true)) : signV x t = sigV 0 0 0 := by rw [signV, if_neg h]
theorem signV_nat {x : Nat} {t : ByteArray} (ht : t.size ≤ 20000) (h : secB (x : Int) = true) : signV x t = sigV ((pm 4 x 2147483579 : Nat) : Int) (signE x t) (signS x t) := by
  rw [signV, if_pos ⟨ht, h⟩, Int.toNat_natCast]
theorem backR_nat (k e s : Nat) : backR k e s = pm 4 s 2147483579 * pm k (1073741789 - e) 2147483579 % 2147483579 := by
  unfold backR
  rw [Int.toNat_natCast, Int.toNat_natCast, Int.toNat_natCast]
theorem sigCB_long {k e s : Int} {t : ByteArray} (h : 20000 < t.size) : sigCB k e s t = false := by
  unfold sigCB
  rw [decide_eq_false (by omega)]
  rfl
theorem sigCB_wrong {k e s : Int} {t : ByteArray} (h : sigRB k e s = false) : sigCB k e s t = false := by
  unfold sigCB
  rw [h, Bool.false_and, Bool.and_false]
theorem sigCB_right {k e s : Int} {t : ByteArray} (ht : t.size ≤ 20000) (h : sigRB k e s = true) : sigCB k e s t = decide ((chal (backR k e s : Int) k t : Int) = e) := by
  unfold sigCB
  rw [h, decide_eq_true ht, Bool.true_and, Bool.true_and]
theorem sigRB_nat {k e s : Int} (h : sigRB k e s = true) : ∃ K E S : Nat, k = (K : Int) ∧ e = (E : Int) ∧ s = (S : Int) ∧ K < 2147483579 ∧ E < 1073741789 ∧ S < 1073741789 ∧ pm K 1073741789 2147483579 = 1 := by
  unfold sigRB at h
  rw [Bool.and_eq_true, Bool.and_eq_true] at h
  obtain ⟨⟨h1, h2⟩, h3⟩ := h
  obtain ⟨x, rfl, _, x2, x3⟩ := rightG_nat h1
  have h2' : 0 ≤ e ∧ e < 1073741789 := of_decide_eq_true h2
  have h3' : 0 ≤ s ∧ s < 1073741789 := of_decide_eq_true h3
  exact ⟨x, e.toNat, s.toNat, rfl, by omega, by omega, x2, by omega, by omega, x3⟩
end Go.Proofs.YtmegmcngcehneaaGreatDoor
namespace Go.Proofs.YtmegmcngcehneaaGreatDoor
open Go.RowKit


theorem specFold (n : Int) (w : World) (h0 : -9223372036854775808 ≤ n) (h1 : n ≤ 9223372036854775807) :
    Calls Tryz.prog 50 #[.int .i64 n] w fun e w' => e = .returned (.int .u64 (foldI n : Int)) ∧ w' = w := by
  by_cases hn : n < 0
  · go_enter Tryz.func50, Tryz.ntmps50
    go_wp2
    go_ret
    exact ⟨ret_int (by unfold foldI; rw [if_pos hn]; omega), rfl⟩
  · go_enter Tryz.func50, Tryz.ntmps50
    go_wp2
    go_ret
    exact ⟨ret_int (by unfold foldI; rw [if_neg (by omega)]; omega), rfl⟩

theorem putRel {B : Nat} {w wr w1 : World} {v v' : Value} {xs : List Int} {x : Int} (o : Obj) (hB : B ≤ wr.heap.size) (hb : Below B w wr) (hown : wr.ownsRow B 5 1 v xs.length (xs.map (Value.int .u8)))
    (hown' : w1.ownsRow B 5 1 v' (xs.length + 1) (xs.map (Value.int .u8) ++ [Value.int .u8 x])) (hg : (wr.alloc o).grownBy w1 v.ownBlock) :
    w1.ownsRow B 5 1 v' (xs ++ [x]).length ((xs ++ [x]).map (Value.int .u8)) ∧ Below B w w1 ∧ B ≤ w1.heap.size := by
  refine ⟨by simpa using hown', (hb.alloc hB o).grown hg (by simp; omega) (fun k hk => (hown.lt k hk).1), ?_⟩
  have := hg.size
  simp at this
  omega

set_option maxHeartbeats 1000000 in
set_option maxRecDepth 100000 in
theorem specPut (n : Int) (w : World) (h0 : -9223372036854775808 ≤ n) (h1 : n ≤ 9223372036854775807) :
    Calls Tryz.prog 29 #[.int .i64 n] w fun e w' => e = .returned (.string (strOfNums (putF 9 (foldI n)))) ∧ Below w.heap.size w w' := by
  obtain ⟨i0, hi, hz0, hz1, hz2⟩ := info_parts infoByte
  have hf : (foldI n : Int) ≤ 18446744073709551615 := by unfold foldI; split <;> omega
  obtain ⟨u, hu⟩ : ∃ u, u = foldI n := ⟨_, rfl⟩
  rw [← hu] at hf ⊢
  have HU : Hid (u = foldI n) := hu
  clear hu
  go_enter Tryz.func29, Tryz.ntmps29
  go_wp2_with fail
  refine (specFold n _ h0 h1).mono ?_
  rintro e w' ⟨rfl, rfl⟩
  rw [← HU.out]
  go_wp2_with fail
  go_loopw [3, 4] (fun a b wr => ∃ (x f : Nat) (xs : List Int), (x : Int) ≤ 18446744073709551615 ∧ x < pw f ∧ xs.length + f ≤ 9 ∧ a = .int .u64 x ∧ wr.ownsRow w'.heap.size 5 1 b xs.length (xs.map (Value.int .u8)) ∧
      Below w'.heap.size w' wr ∧ w'.heap.size ≤ wr.heap.size ∧ xs ++ putF f x = putF 9 u)
    (fun a _ _ => (intOf a).toNat)
  case atStart =>
    exact ⟨u, 9, [], hf, by rw [pw9]; omega, by simp, rfl, World.ownsRow_made _ #[] 0 (Nat.le_refl _) (Nat.zero_le _) rfl, (Below.refl _ _).alloc (Nat.le_refl _) _, by simp, by simp⟩
  case round =>
    obtain ⟨x, f, xs, hx, hpw, hlen, rfl, hown, hbel, hsz, heq⟩ := hrel
    have HE : Hid (xs ++ putF f x = putF 9 u) := heq
    have HP : Hid (x < pw f) := hpw
    clear heq hpw hf h0 h1
    by_cases hlt : 128 ≤ x
    · go_wp2_with (at_builtin; refine wpList_append_own _ rfl _ _ 59 rfl w'.heap.size 5 i0 (.int .u8 0) 1 1 Tryz.underlying59 hi hz0 hz1 hz2 rfl (by decide) _ _ _ rfl (hown.alloc _) ⟨wr.heap.size, 0, none⟩ 1 1 [.int .u8 ((x : Int) % 128 + 128)] rfl rfl ?c1 ?c2 ?c3 ?c4 ?c5 ?_)
      case c1 => exact cells_one (by simp)
      case c2 => intro u hu; simp at hu; subst hu; rfl
      case c3 => unfold maxLen; omega
      case c4 => omega
      case c5 => simp; omega
      intro v' w1 hown' hgrow _
      have R := putRel _ hsz hbel hown hown' hgrow
      clear hown' hgrow hown hbel
      go_wp2
      go_roundw
      case rel =>
        obtain ⟨g, rfl, hg⟩ := pw_step HP.out hlt
        have he := HE.out
        rw [putF_more hlt] at he
        refine ⟨x / 128, g, xs ++ [(x : Int) % 128 + 128], by omega, hg, by simp; omega, by go_num, R.1, R.2.1, R.2.2, ?_⟩
        rw [List.append_assoc, ← he]
        simp
      case measure => simp [intOf]; omega
    · go_wp2_with (at_builtin; refine wpList_append_own _ rfl _ _ 59 rfl w'.heap.size 5 i0 (.int .u8 0) 1 1 Tryz.underlying59 hi hz0 hz1 hz2 rfl (by decide) _ _ _ rfl (hown.alloc _) ⟨wr.heap.size, 0, none⟩ 1 1 [.int .u8 (x : Int)] rfl rfl ?d1 ?d2 ?d3 ?d4 ?d5 ?_)
      case d1 => exact cells_one (by simp)
      case d2 => intro u hu; simp at hu; subst hu; rfl
      case d3 => unfold maxLen; omega
      case d4 => omega
      case d5 => simp; omega
      intro v' w1 hown' hgrow _
      have R := putRel _ hsz hbel hown hown' hgrow
      clear hown' hgrow hown hbel
      have hcv := run_convert_own (P := Tryz.prog) (src := 59) (dst := 9) Tryz.underlying59 Tryz.underlying5 Tryz.underlying9 R.1
      have HR := R.2.1
      clear R
      go_wp2
      go_ret
      refine ⟨?_, HR⟩
      have he := HE.out
      rw [putF_last (by omega)] at he
      rw [← he]
      rfl
end Go.Proofs.YtmegmcngcehneaaGreatDoor
namespace Go.Proofs.YtmegmcngcehneaaGreatDoor
open Go.RowKit

theorem implFold (n : Int) (w : World) (h0 : -9223372036854775808 ≤ n) (h1 : n ≤ 9223372036854775807) :
    Calls Tryz.prog 62 #[.int .i64 n] w fun e w' => e = .returned (.int .u64 (foldI n : Int)) ∧ w' = w := by
  by_cases hn : n < 0
  · go_enter Tryz.func62, Tryz.ntmps62
    go_wp2
    go_ret
    exact ⟨ret_int (fold_bits_neg n h0 hn), rfl⟩
  · go_enter Tryz.func62, Tryz.ntmps62
    go_wp2
    go_ret
    exact ⟨ret_int (fold_bits_pos n h1 (by omega)), rfl⟩

theorem arr10 : Tryz.prog.arrayLen 82 = 10 := by kernel_rfl
theorem size_elem10 (w : World) : (sizeOf (Tryz.prog.elem 82)).run Tryz.prog w = .ok 1 w := by kernel_rfl
theorem under10 : Tryz.prog.underlying 82 = some (.array (Tryz.prog.arrayLen 82) (Tryz.prog.elem 82)) := by kernel_rfl
theorem slice10 (w : World) (b k : Nat) (hk : k < 10) :
    (Instr.sliceAt 82 (.pointer (some ⟨b, 0, none⟩)) none (some (.int .i64 ((k : Int) + 1))) none).run Tryz.prog w = .ok (.slice (some ⟨b, 0, none⟩) (k + 1) 10) w := by
  rw [run_sliceAt_array_h w _ _ under10 .i64 _ (by omega) (by rw [arr10]; omega), size_elem10]
  simp only [Result.andThen_ok, slicedAt, arr10]
  simp [Addr.add]

set_option maxHeartbeats 1000000 in
set_option maxRecDepth 100000 in
theorem implPut (n : Int) (w : World) (h0 : -9223372036854775808 ≤ n) (h1 : n ≤ 9223372036854775807) :
    Calls Tryz.prog 42 #[.int .i64 n] w fun e w' => e = .returned (.string (strOfNums (putF 9 (foldI n)))) ∧ Below w.heap.size w w' := by
  have hf : (foldI n : Int) ≤ 18446744073709551615 := by unfold foldI; split <;> omega
  obtain ⟨u, hu⟩ : ∃ u, u = foldI n := ⟨_, rfl⟩
  rw [← hu] at hf ⊢
  have HU : Hid (u = foldI n) := hu
  clear hu
  go_enter Tryz.func42, Tryz.ntmps42
  go_wp2_with fail
  refine (implFold n _ h0 h1).mono ?_
  rintro e w' ⟨rfl, rfl⟩
  rw [← HU.out]
  go_wp2_with fail
  go_loopw [4, 5] (fun s a wr => ∃ (x f : Nat) (xs : List Int) (L : List Value), (x : Int) ≤ 18446744073709551615 ∧ x < pw f ∧ xs.length + f ≤ 9 ∧ s = .int .i64 xs.length ∧ a = .int .u64 x ∧
      wr.ownsRow w.heap.size 82 1 (.slice (some ⟨w.heap.size, 0, none⟩) 10 10) 10 L ∧ (∀ j, j < xs.length → L[j]? = some (.int .u8 (xs.getD j 0))) ∧ Below w.heap.size w wr ∧ xs ++ putF f x = putF 9 u)
    (fun _ a _ => (intOf a).toNat)
  case atStart =>
    exact ⟨u, 9, [], _, hf, by rw [pw9]; omega, by simp, rfl, rfl, World.ownsRow_lit _ _ 10 (Nat.le_refl _) (by decide) rfl, by simp, (Below.refl _ _).alloc (Nat.le_refl _) _, by simp⟩
  case round =>
    obtain ⟨x, f, xs, L, hx, hpw, hlen, rfl, rfl, hown, hL, hbel, heq⟩ := hrel
    have HE : Hid (xs ++ putF f x = putF 9 u) := heq
    have HP : Hid (x < pw f) := hpw
    have HL : Hid (∀ j, j < xs.length → L[j]? = some (.int .u8 (xs.getD j 0))) := hL
    have hlL : L.length = 10 := by simpa using hown.1
    have hc := hown.cellAt xs.length (by omega)
    rw [List.getElem?_eq_getElem (by omega)] at hc
    obtain ⟨v0, hv0⟩ : ∃ v, wr.cell? ⟨w.heap.size, xs.length, none⟩ = some v := ⟨_, hc⟩
    have hfz := hown.frozenAt xs.length
    have hor := or128 x
    clear heq hpw hL hf h0 h1 hc hlL
    have hst := fun v => hown.stored xs.length v
    have HS : Hid (∀ v, (wr.setCell ⟨w.heap.size, xs.length, none⟩ v).ownsRow w.heap.size 82 1 (.slice (some ⟨w.heap.size, 0, none⟩) 10 10) 10 (L.set xs.length v)) := fun v => (hst v).1
    have hb2 : Hid (∀ v, Below w.heap.size w (wr.setCell ⟨w.heap.size, xs.length, none⟩ v)) := fun v => hbel.setCell (Nat.le_refl _) v
    have HL2 : Hid (∀ y : Int, ∀ j, j < (xs ++ [y]).length → (L.set xs.length (.int .u8 y))[j]? = some (.int .u8 ((xs ++ [y]).getD j 0))) := fun y => set_reads (by have := hown.1; omega) HL.out
    clear hst hown hbel HL
    by_cases hlt : 128 ≤ x
    · go_wp2
      go_roundw
      case rel =>
        obtain ⟨g, rfl, hg⟩ := pw_step HP.out hlt
        have he := HE.out
        rw [putF_more hlt] at he
        refine ⟨x / 128, g, xs ++ [(x : Int) % 128 + 128], _, by omega, hg, by simp; omega, by simp, by go_num, HS.out _, HL2.out _, hb2.out _, ?_⟩
        rw [List.append_assoc, ← he]
        simp
      case measure => simp [intOf]; omega
    · have hcv : ∀ W : World, (∀ j, j < xs.length + 1 → W.cell? ⟨w.heap.size, j, none⟩ = some (.int .u8 ((xs ++ [(x : Int)]).getD j 0))) →
          (convert 59 9 (.slice (some ⟨w.heap.size, 0, none⟩) (xs.length + 1) 10)).run Tryz.prog W = .ok (.string (strOfNums (xs ++ [(x : Int)]))) W := fun W hW =>
        run_convert_bytes_arg W 59 5 Tryz.underlying59 Tryz.underlying5 w.heap.size 0 (xs.length + 1) 10 (xs ++ [(x : Int)]) (by simp) (fun j hj => by rw [Nat.zero_add]; exact hW j hj) 9 Tryz.underlying9
      have hcv1 := hcv (wr.setCell ⟨w.heap.size, xs.length, none⟩ (.int .u8 (x : Int))) (fun j hj => by
        rw [(HS.out (.int .u8 (x : Int))).cellAt j (by omega), HL2.out (x : Int) j (by simpa using hj)])
      have hsl := fun W => slice10 W w.heap.size xs.length (by omega)
      clear hcv
      go_wp2
      go_ret
      refine ⟨?_, hb2.out _⟩
      have he := HE.out
      rw [putF_last (by omega)] at he
      rw [← he]
      rfl
end Go.Proofs.YtmegmcngcehneaaGreatDoor
namespace Go.Proofs.YtmegmcngcehneaaGreatDoor
open Go.RowKit

theorem tooLong (s : ByteArray) (w : World) (hs : s.size ≤ maxLen) :
    Calls Tryz.prog 12 #[.string s] w fun e w' => e = .returned (.bool (decide (20000 < s.size))) ∧ w' = w := by
  unfold maxLen at hs
  go_enter Tryz.func12, Tryz.ntmps12
  go_wp2
  go_ret
  exact ⟨by simp; omega, rfl⟩
end Go.Proofs.YtmegmcngcehneaaGreatDoor
