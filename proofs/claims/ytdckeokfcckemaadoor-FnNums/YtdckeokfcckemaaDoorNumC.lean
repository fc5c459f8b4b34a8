/- impl.unfoldSign, impl.readNum, impl.GetNum, walked. -/
import Derived.Test.YtdckeokfcckemaaDoorNumB
import Derived.Test.YtdckeokfcckemaaDoorLong
namespace Go.Proofs.YtdckeokfcckemaaDoor
open Go.RowKit Go.Lib

theorem xorAll (a : Nat) (h : a < 18446744073709551616) : a ^^^ 18446744073709551615 = 18446744073709551615 - a := by
  have e := congrArg BitVec.toNat (BitVec.xor_allOnes (x := BitVec.ofNat 64 a))
  simp only [BitVec.toNat_xor, BitVec.toNat_ofNat, BitVec.toNat_allOnes, BitVec.toNat_not] at e
  rw [Nat.mod_eq_of_lt (by omega)] at e
  simpa using e
theorem xor_zero64 (a : Nat) (h : a ≤ 9223372036854775807) : bits BinOp.xor IntKind.i64 (a : Int) 0 = (a : Int) := by
  have h1 : (BitVec.ofInt 64 (a : Int)).toNat = a := by
    rw [BitVec.ofInt_natCast, BitVec.toNat_ofNat]; exact Nat.mod_eq_of_lt (by omega)
  show IntKind.i64.wrap ((BitVec.ofInt 64 (a : Int) ^^^ BitVec.ofInt 64 0).toNat : Int) = _
  have h2 : (BitVec.ofInt 64 0).toNat = 0 := by decide
  rw [BitVec.toNat_xor, h1, h2, Nat.xor_zero, IntKind.wrap_i64]
  omega
theorem xor_ones64 (a : Nat) (h : a ≤ 9223372036854775807) : bits BinOp.xor IntKind.i64 (a : Int) (-1) = -(a : Int) - 1 := by
  have h1 : (BitVec.ofInt 64 (a : Int)).toNat = a := by
    rw [BitVec.ofInt_natCast, BitVec.toNat_ofNat]; exact Nat.mod_eq_of_lt (by omega)
  show IntKind.i64.wrap ((BitVec.ofInt 64 (a : Int) ^^^ BitVec.ofInt 64 (-1)).toNat : Int) = _
  have h2 : (BitVec.ofInt 64 (-1)).toNat = 18446744073709551615 := by decide
  rw [BitVec.toNat_xor, h1, h2, xorAll a (by omega), IntKind.wrap_i64]
  omega
theorem unfold_bits (u : Nat) (hu : u ≤ 18446744073709551615) : bits BinOp.xor IntKind.i64 ((u : Int) / 2) (wrap64 (-wrap64 (bits BinOp.and IntKind.u64 (u : Int) 1))) = unI u := by
  rw [and_one_u64 _ (by omega) (by omega)]
  have e2 : ((u : Int) / 2) = ((u / 2 : Nat) : Int) := by omega
  rw [e2]
  unfold unI
  by_cases h : u % 2 = 1
  · have e : wrap64 (-wrap64 ((u : Int) % 2)) = -1 := by simp only [wrap64]; omega
    rw [e, xor_ones64 _ (by omega), if_pos h]
  · have e : wrap64 (-wrap64 ((u : Int) % 2)) = 0 := by simp only [wrap64]; omega
    rw [e, xor_zero64 _ (by omega), if_neg h]
theorem unfoldSign (u : Nat) (w : World) (hu : u ≤ 18446744073709551615) :
    Calls Tryd.prog 26 #[.int .u64 (u : Int)] w fun e w' => e = .returned (.int .i64 (unI u)) ∧ w' = w := by
  have hu' : (u : Int) ≤ 18446744073709551615 := by omega
  go_enter Tryd.func26, Tryd.ntmps26
  go_wp2
  go_ret
  exact ⟨ret_int (unfold_bits u hu), rfl⟩
/-- What is read at a place: the code of a text that is too long, of a place below 0, or what the bytes say. -/
def numAt (s : ByteArray) (p : Int) : NumR := if 20000 < s.size then .bad 2 else if p < 0 then .bad 1 else getR s p.toNat 10 0 0
/-- What readNum hands back, by what is to be read. -/
def ReadOk (R : NumR) (e : Ending) : Prop :=
  (R.code = 0 ∧ e = .returned (.tuple #[.int .i64 R.n, .int .i64 R.at', .nilIface])) ∨
  (R.code ≠ 0 ∧ R = .bad R.code ∧ ∃ n, e = .returned (.tuple #[.int .i64 n, .int .i64 0, .iface 46 (.agg #[.int .i64 R.code])]))
set_option maxHeartbeats 1000000 in
theorem readNum (s : ByteArray) (p : Int) (w : World) (hs : s.size ≤ maxLen) (hp0 : -9223372036854775808 ≤ p) (hp1 : p ≤ 9223372036854775807) :
    Calls Tryd.prog 16 #[.string s, .int .i64 p] w fun e w' => ReadOk (numAt s p) e ∧ w' = w := by
  by_cases h1 : 20000 < s.size
  · have hfin : Hid (numAt s p = .bad 2) := by rw [numAt, if_pos h1]; rfl
    have hd : decide (20000 < s.size) = true := by simp; omega
    go_enter Tryd.func16, Tryd.ntmps16
    go_wp2_with fail
    refine (tooLong s _ hs).mono ?_
    rintro e w' ⟨rfl, rfl⟩
    go_wp2
    go_ret3
    rw [hfin.out]
    exact ⟨.inr ⟨by decide, rfl, 0, rfl⟩, rfl⟩
  have hd : decide (20000 < s.size) = false := by simp; omega
  by_cases h2 : p < 0
  · have hfin : Hid (numAt s p = .bad 1) := by rw [numAt, if_neg h1, if_pos h2]; rfl
    go_enter Tryd.func16, Tryd.ntmps16
    go_wp2_with fail
    refine (tooLong s _ hs).mono ?_
    rintro e w' ⟨rfl, rfl⟩
    go_wp2
    go_ret3
    rw [hfin.out]
    exact ⟨.inr ⟨by decide, rfl, 0, rfl⟩, rfl⟩
  obtain ⟨q, rfl⟩ := Int.eq_ofNat_of_zero_le (show 0 ≤ p by omega)
  have hfin : numAt s (q : Int) = getR s q 10 0 0 := by rw [numAt, if_neg h1, if_neg h2, Int.toNat_natCast]
  have hbits := fun W => readBits s q W (by omega) hp1
  rw [hfin]
  generalize getR s q 10 0 0 = R at *
  have HB : Hid (∀ W, Calls Tryd.prog 25 #[.string s, .int .i64 (q : Int)] W fun e w' => BitsOk R e ∧ w' = W) := hbits
  clear hbits hfin
  go_enter Tryd.func16, Tryd.ntmps16
  go_wp2_with fail
  refine (tooLong s _ hs).mono ?_
  rintro e w' ⟨rfl, rfl⟩
  go_wp2_with fail
  refine (HB.out _).mono ?_
  rintro e w' ⟨hb, rfl⟩
  rcases hb with ⟨v, hv, hc, hn, rfl⟩ | ⟨hc, hR, rfl⟩
  · have HC : Hid (R.code = 0) := hc
    have HN : Hid (R.n = unI v) := hn
    clear hc hn
    go_wp2_with fail
    refine (unfoldSign v _ hv).mono ?_
    rintro e w' ⟨rfl, rfl⟩
    go_wp2
    go_ret3
    exact ⟨.inl ⟨HC.out, by rw [HN.out]; rfl⟩, rfl⟩
  · have HC : Hid (R.code ≠ 0) := hc
    have HR : Hid (R = .bad R.code) := hR
    clear hc hR
    go_wp2_with fail
    refine (unfoldSign 0 _ (by omega)).mono ?_
    rintro e w' ⟨rfl, rfl⟩
    go_wp2
    go_ret3
    exact ⟨.inr ⟨HC.out, HR.out, _, rfl⟩, rfl⟩
end Go.Proofs.YtdckeokfcckemaaDoor
