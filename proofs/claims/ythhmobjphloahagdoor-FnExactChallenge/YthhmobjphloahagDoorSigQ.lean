/- The number of a digest; challenges and signatures as they are answered: plain mathematics. -/
import Derived.Test.YthhmobjphloahagDoorShaJb
import Derived.Test.YthhmobjphloahagDoorSecP
namespace Go.Proofs.YthhmobjphloahagDoor
open Go.RowKit

/-- The number of a text's first k bytes, the highest first. -/
def bnum (d : ByteArray) : Nat → Nat
  | 0 => 0
  | k + 1 => 256 * bnum d k + (byteAt d k).toNat
theorem bnum_lt (d : ByteArray) : ∀ k, bnum d k < 256 ^ k
  | 0 => by simp [bnum]
  | k + 1 => by
    have h := bnum_lt d k
    have h2 := (byteAt d k).toNat_lt
    rw [bnum, Nat.pow_succ]
    omega
theorem bnum_le (d : ByteArray) {k : Nat} (h : k ≤ 6) : bnum d k < 281474976710656 :=
  Nat.lt_of_lt_of_le (bnum_lt d k) (Nat.pow_le_pow_right (i := k) (j := 6) (n := 256) (by omega) h)
theorem i64_join (n c : Nat) (hn : n < 281474976710656) (hc : c < 256) : bits .or .i64 ((n : Int) * 256) (c : Int) = ((256 * n + c : Nat) : Int) := by
  have hx : 256 * n ||| c = 256 * n + c := nat_join 8 _ _ (Nat.mul_mod_right 256 n) hc
  have e1 : ((n : Int) * 256) = ((256 * n : Nat) : Int) := by omega
  rw [e1]
  show IntKind.i64.wrap ((BitVec.ofInt 64 ((256 * n : Nat) : Int) ||| BitVec.ofInt 64 (c : Int)).toNat : Int) = _
  rw [BitVec.toNat_or, ofInt_u64 _ (by omega), ofInt_u64 c (by omega), hx, IntKind.wrap_i64]
  omega
def dnum (t : ByteArray) : Nat := bnum (digOf t) 7
theorem dnum_lt (t : ByteArray) : dnum t < 72057594037927936 := bnum_lt (digOf t) 7
theorem digOf_size (t : ByteArray) : (digOf t).size = 32 := by unfold digOf; rw [strOfNums_size, digL_len]
theorem putF_len : ∀ f x, (putF f x).length ≤ f + 1
  | 0, x => by simp [putF]
  | f + 1, x => by
    rw [putF]
    split
    · simp
    · have := putF_len f (x / 128)
      simp
      omega
def putS (n : Int) : ByteArray := strOfNums (putF 9 (foldI n))
theorem putS_size (n : Int) : (putS n).size ≤ 10 := by unfold putS; rw [strOfNums_size]; exact putF_len 9 _
def chal (r key : Int) (t : ByteArray) : Nat := dnum (putS r ++ putS key ++ t) % 1073741789
theorem chal_lt (r key : Int) (t : ByteArray) : chal r key t < 1073741789 := Nat.mod_lt _ (by omega)
def powK (x : Int) (t : ByteArray) : Nat := 1 + dnum (⟨#[75]⟩ ++ putS x ++ t) % 1073741788
theorem powK_lt (x : Int) (t : ByteArray) : 1 ≤ powK x t ∧ powK x t < 1073741789 := by
  unfold powK
  have := Nat.mod_lt (dnum (⟨#[75]⟩ ++ putS x ++ t)) (show 0 < 1073741788 by omega)
  omega
def challA (r key : Int) (t : ByteArray) : Int := if t.size ≤ 20000 ∧ unitB r = true ∧ unitB key = true then (chal r key t : Int) else 0
def signE (x : Nat) (t : ByteArray) : Nat := chal ((pm 4 (powK x t) 2147483579 : Nat) : Int) ((pm 4 x 2147483579 : Nat) : Int) t
def signS (x : Nat) (t : ByteArray) : Nat := (powK x t + signE x t * x) % 1073741789
def signV (x : Int) (t : ByteArray) : Value :=
  if t.size ≤ 20000 ∧ secB x = true then sigV ((pm 4 x.toNat 2147483579 : Nat) : Int) (signE x.toNat t) (signS x.toNat t) else sigV 0 0 0
/-- What a right signature's own numbers lead to. -/
def backR (k e s : Int) : Nat := pm 4 s.toNat 2147483579 * pm k.toNat (1073741789 - e.toNat) 2147483579 % 2147483579
def sigCB (k e s : Int) (t : ByteArray) : Bool := decide (t.size ≤ 20000) && (sigRB k e s && decide ((chal (backR k e s : Int) k t : Int) = e))
theorem back_unit {k e s : Nat} (hk : pm k 1073741789 2147483579 = 1) : unitB ((backR k e s : Nat) : Int) = true := by
  unfold backR
  refine unit_of (Nat.mod_lt _ (by omega)) ?_
  rw [pm_prod, pm_in (by omega) pm4, pm_in (by omega) (by rw [Int.toNat_natCast]; exact hk)]
theorem back_mul {k e s : Nat} (hk : pm k 1073741789 2147483579 = 1) :
    gmulA ((pm 4 s 2147483579 : Nat) : Int) ((pm k (1073741789 - e) 2147483579 : Nat) : Int) = ((backR k e s : Nat) : Int) := by
  rw [gmulA_nat _ _ (unit_pow pm4 s) (unit_pow hk _)]
  rfl
/-- What a secret has signed passes with its key. -/
theorem sign_passes {x : Nat} {t : ByteArray} (h1 : 1 ≤ x) (h2 : x < 1073741789) (ht : t.size ≤ 20000) :
    sigRB ((pm 4 x 2147483579 : Nat) : Int) (signE x t) (signS x t) = true ∧ sigCB ((pm 4 x 2147483579 : Nat) : Int) (signE x t) (signS x t) t = true := by
  have he : signE x t < 1073741789 := chal_lt _ _ _
  have hs : signS x t < 1073741789 := Nat.mod_lt _ (by omega)
  have hr : sigRB ((pm 4 x 2147483579 : Nat) : Int) (signE x t) (signS x t) = true := by
    unfold sigRB
    rw [pub_right h1 h2, show remB (signE x t : Int) = true from decide_eq_true ⟨by omega, by omega⟩, show remB (signS x t : Int) = true from decide_eq_true ⟨by omega, by omega⟩]
    rfl
  refine ⟨hr, ?_⟩
  have hb : backR ((pm 4 x 2147483579 : Nat) : Int) (signE x t) (signS x t) = pm 4 (powK x t) 2147483579 := by
    unfold backR
    rw [Int.toNat_natCast, Int.toNat_natCast, Int.toNat_natCast]
    exact sig_back (g := 4) (q := 1073741789) (p := 2147483579) (k := powK x t) (e := signE x t) (x := x) (by omega) pm4 he
  unfold sigCB
  rw [hr, hb, decide_eq_true ht]
  exact decide_eq_true rfl
end Go.Proofs.YthhmobjphloahagDoor
