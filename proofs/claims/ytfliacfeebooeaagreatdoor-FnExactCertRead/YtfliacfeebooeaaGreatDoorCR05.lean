/- impl.readBits, walked: a scope with three labels. impl.tooLong, walked. impl.unfoldSign, impl.readNum, impl.GetNum, walked. What is read of rows of things: bodies within bodies, names, serials, numbers; and that it is what was written. Plain mathematics: no program is named here. Numbers that are read one behind the other. Plain mathematics: no program is named here. math/bits.Len64 and Len, walked. impl.lengthBytes, walked. Rows of bytes that are known whole, made into texts. impl.putLength, walked. -/
import Derived.Test.YtfliacfeebooeaaGreatDoorCR03
import Derived.Test.YtfliacfeebooeaaGreatDoorCR04
import Derived.Test.YtfliacfeebooeaaGreatDoorCR02
import Derived.Lib.BitFns
import Derived.Lib.Walk
import Derived.Test.YtfliacfeebooeaaGreatDoorCR01
namespace Go.Proofs.YtfliacfeebooeaaGreatDoor
open Go.RowKit Go.Lib

/-- What readBits hands back, by what is to be read. -/
def BitsOk (R : NumR) (e : Ending) : Prop :=
  (∃ v : Nat, v ≤ 18446744073709551615 ∧ R.code = 0 ∧ R.n = unI v ∧ e = .returned (.tuple #[.int .u64 v, .int .i64 R.at', .nilIface])) ∨
  (R.code ≠ 0 ∧ R = .bad R.code ∧ e = .returned (.tuple #[.int .u64 0, .int .i64 0, .iface 102 (.agg #[.int .i64 R.code])]))
theorem BitsOk.bad {R : NumR} {e : Ending} {c : Int} (h : R = .bad c) (hc : c ≠ 0) (he : e = .returned (.tuple #[.int .u64 0, .int .i64 0, .iface 102 (.agg #[.int .i64 c])])) : BitsOk R e := by
  subst h
  exact .inr ⟨hc, rfl, he⟩
theorem BitsOk.good {R : NumR} {e : Ending} {v n : Nat} (hv : v ≤ 18446744073709551615) (h : R = ⟨unI v, n, 0⟩) (he : e = .returned (.tuple #[.int .u64 v, .int .i64 n, .nilIface])) : BitsOk R e := by
  subst h
  exact .inl ⟨v, hv, rfl, rfl, he⟩
theorem orWrap {i u x v : Nat} (hu : u < 128 ^ i) (hi : i ≤ 9) (hx : x ≤ 9223372036854775808) (e : ∃ y, x = sh7 i y) (hv : v = u + x) : bits BinOp.or IntKind.u64 (u : Int) (x : Int) = (v : Int) := by
  obtain ⟨y, rfl⟩ := e
  have := pow_le9 hi
  rw [u64_or_nat _ _ (by omega) (by omega), orU7 i u y hu, hv]
theorem andU127 {c : Int} (h0 : 0 ≤ c) (h1 : c ≤ 255) : IntKind.u64.wrap (bits BinOp.and IntKind.u8 c 127) = c % 128 := by
  have e := bits_mask .u8 8 (by decide) wraps_u8 7 (by decide) c h0 (by omega)
  have e2 : (2 : Int) ^ 7 - 1 = 127 := by decide
  have e3 : (2 : Int) ^ 7 = 128 := by decide
  rw [e2, e3] at e
  rw [e, IntKind.wrap_u64]
  omega
theorem orZero (x : Nat) (h : x < 256) : bits BinOp.or IntKind.u64 0 ((x : Nat) : Int) = ((x : Nat) : Int) := by
  have := u64_or_nat 0 x (by omega) (by omega)
  simpa using this
def bitsJ (s : ByteArray) (p : Nat) (w : World) (R : NumR) (l : Nat) (a' : Act) (w' : World) : Prop :=
  w' = w ∧ ((l = 0 ∧ ∃ (i u : Nat) (bv u12 u13 u14 u15 u16 u17 u18 u19 u20 u21 u22 u23 u24 u25 u26 u27 u28 u29 u30 u31 u32 u33 u34 u35 u36 u37 u38 u39 u40 u41 u42 u43 u44 u45 u46 u47 : Value), a' = { tmps := #[.string s, .int .i64 (p : Int), undef, undef, .int .u64 0, .int .i64 0, .nilIface, .int .u64 ((u : Int)), bv, .int .u64 (7 * (i : Int)), .int .i64 ((p : Int) + (i : Int)), .int .i64 (p : Int), u12, u13, u14, u15, u16, u17, u18, u19, u20, u21, u22, u23, u24, u25, u26, u27, u28, u29, u30, u31, u32, u33, u34, u35, u36, u37, u38, u39, u40, u41, u42, u43, u44, u45, u46, u47, undef, undef], defers := [] } ∧ 1 ≤ i ∧ i ≤ 9 ∧ u < 128 ^ i ∧ getR s p (10 - i) i u = R) ∨
    (l = 1 ∧ ∃ (x7 x8 x9 x10 : Value) (u12 u13 u14 u15 u16 u17 u18 u19 u20 u21 u22 u23 u24 u25 u26 u27 u28 u29 u30 u31 u32 u33 u34 u35 u36 u37 u38 u39 u40 u41 u42 u43 u44 u45 u46 u47 : Value), a' = { tmps := #[.string s, .int .i64 (p : Int), undef, undef, .int .u64 0, .int .i64 0, .nilIface, x7, x8, x9, x10, .int .i64 (p : Int), u12, u13, u14, u15, u16, u17, u18, u19, u20, u21, u22, u23, u24, u25, u26, u27, u28, u29, u30, u31, u32, u33, u34, u35, u36, u37, u38, u39, u40, u41, u42, u43, u44, u45, u46, u47, undef, undef], defers := [] } ∧ R = .bad 3) ∨
    (l = 2 ∧ ∃ (i v c : Nat) (u12 u13 u14 u15 u16 u17 u18 u19 u20 u21 u22 u23 u24 u25 u26 u27 u28 u29 u30 u31 u32 u33 u34 u35 u36 u37 u38 u39 u40 u41 u42 u43 u44 u45 u46 u47 : Value), a' = { tmps := #[.string s, .int .i64 (p : Int), undef, undef, .int .u64 0, .int .i64 0, .nilIface, .int .u64 ((v : Int)), .int .u8 (c : Int), .int .u64 (7 * (i : Int)), .int .i64 ((p : Int) + (i : Int) + 1), .int .i64 (p : Int), u12, u13, u14, u15, u16, u17, u18, u19, u20, u21, u22, u23, u24, u25, u26, u27, u28, u29, u30, u31, u32, u33, u34, u35, u36, u37, u38, u39, u40, u41, u42, u43, u44, u45, u46, u47, undef, undef], defers := [] } ∧ i ≤ 9 ∧ p + i < s.size ∧ c < 128 ∧ v ≤ 18446744073709551615 ∧ (c = 0 ∧ 0 < i → R = .bad 3) ∧ (¬ (c = 0 ∧ 0 < i) → R = ⟨unI v, (p + i + 1 : Nat), 0⟩)))
def bitsM (l : Nat) (a' : Act) (_ : World) : Nat := if l = 0 then 1000 - (RowKit.intOf (a'.tmps.getD 9 undef)).toNat else l
set_option maxHeartbeats 4000000 in
set_option maxRecDepth 100000 in
theorem readBits (s : ByteArray) (p : Nat) (w : World) (hs : s.size ≤ 20000) (hp : (p : Int) ≤ 9223372036854775807) :
    Calls Tryz.prog 118 #[.string s, .int .i64 (p : Int)] w fun e w' => BitsOk (getR s p 10 0 0) e ∧ w' = w := by
  obtain ⟨R, hR⟩ : ∃ R, R = getR s p 10 0 0 := ⟨_, rfl⟩
  rw [← hR]
  have H0 : Hid (getR s p 10 0 0 = R) := hR.symm
  clear hR
  go_enter Tryz.func118, Tryz.ntmps118
  go_wp2
  refine wp_scope_many (bitsJ s p w R) bitsM ?_ ?_ ?_
  · rintro l a' w' ⟨rfl, ⟨rfl, _⟩ | ⟨rfl, _⟩ | ⟨rfl, _⟩⟩
    · exact ⟨_, rfl⟩
    · exact ⟨_, rfl⟩
    · exact ⟨_, rfl⟩
  · by_cases hsh : s.size ≤ p
    · have hfin : Hid (R = .bad 4) := by rw [← H0.out]; exact getR_short (by omega)
      clear H0
      go_wp2
      go_step3
      go_wp2
      simp only [jumpM]
      go_ret3
      exact ⟨BitsOk.bad hfin.out (by decide) rfl, rfl⟩
    have hlt : p + 0 < s.size := by omega
    have hlt' : p < s.size := by omega
    have HB : Hid (bNu s (p + 0) = s[p].toNat) := bU_eq s (p + 0) hlt
    have hbl : (s[p].toNat : Int) ≤ 255 := by have := bU_lt s (p + 0); rw [HB.out] at this; omega
    have hand := andU127 (c := (s[p].toNat : Int)) (by omega) hbl
    have ec : ((s[p].toNat % 128 : Nat) : Int) = (s[p].toNat : Int) % 128 := by omega
    have hor := orZero (s[p].toNat % 128) (by omega)
    rw [ec] at hor
    have EC : Hid (((s[p].toNat % 128 : Nat) : Int) = (s[p].toNat : Int) % 128) := ec
    clear ec
    have HV : Hid (s[p].toNat % 128 = 0 + sh7 0 (bNu s (p + 0) % 128)) := (by rw [HB.out]; simp [sh7] : s[p].toNat % 128 = 0 + sh7 0 (bNu s (p + 0) % 128))
    by_cases hc : 128 ≤ (s[p].toNat : Int)
    · have HN : Hid (getR s p 9 1 (s[p].toNat % 128) = R) := (by rw [← H0.out, getR_more hlt (by omega) (by rw [HB.out]; omega), ← HV.out] : getR s p 9 1 (s[p].toNat % 128) = R)
      clear H0
      go_wp2
      go_step3
      go_wp2
      go_step3
      refine ⟨rfl, .inl ⟨rfl, 1, s[p].toNat % 128, _, _, _, _, _, _, _, _, _, _, _, _, _, _, _, _, _, _, _, _, _, _, _, _, _, _, _, _, _, _, _, _, _, _, _, _, _, by rw [EC.out, show 7 * ((1 : Nat) : Int) = 7 from rfl, show (p : Int) + ((1 : Nat) : Int) = (p : Int) + 1 from rfl], by omega, by omega, by omega, HN.out⟩⟩
    have HZN : Hid (R = ⟨unI (s[p].toNat % 128), (p + 0 + 1 : Nat), 0⟩) := (by
      rw [← H0.out, getR_last hlt (by omega) (by rw [HB.out]; omega) (by omega), ← HV.out] : R = ⟨unI (s[p].toNat % 128), (p + 0 + 1 : Nat), 0⟩)
    clear H0
    go_wp2
    go_step3
    go_wp2
    go_step3
    refine ⟨rfl, .inr (.inr ⟨rfl, 0, s[p].toNat % 128, s[p].toNat, _, _, _, _, _, _, _, _, _, _, _, _, _, _, _, _, _, _, _, _, _, _, _, _, _, _, _, _, _, _, _, _, _, _, _, _, by rw [EC.out, show 7 * ((0 : Nat) : Int) = 0 from rfl, show (p : Int) + ((0 : Nat) : Int) + 1 = (p : Int) + 1 from by omega], by omega, hlt, by omega, by omega, fun h => by omega, fun _ => HZN.out⟩)⟩
  · rintro l r hr a' w' ⟨rfl, ⟨rfl, i, u, bv, u12, u13, u14, u15, u16, u17, u18, u19, u20, u21, u22, u23, u24, u25, u26, u27, u28, u29, u30, u31, u32, u33, u34, u35, u36, u37, u38, u39, u40, u41, u42, u43, u44, u45, u46, u47, rfl, hi1, hi9, hu, hg⟩ | ⟨rfl, x7, x8, x9, x10, u12, u13, u14, u15, u16, u17, u18, u19, u20, u21, u22, u23, u24, u25, u26, u27, u28, u29, u30, u31, u32, u33, u34, u35, u36, u37, u38, u39, u40, u41, u42, u43, u44, u45, u46, u47, rfl, hR⟩ | ⟨rfl, i, v, c, u12, u13, u14, u15, u16, u17, u18, u19, u20, u21, u22, u23, u24, u25, u26, u27, u28, u29, u30, u31, u32, u33, u34, u35, u36, u37, u38, u39, u40, u41, u42, u43, u44, u45, u46, u47, rfl, hi9, hlt, hc, hv, hz, hn⟩⟩
    · cases hr
      have HU : Hid (u < 128 ^ i) := hu
      obtain ⟨f, hf⟩ : ∃ f, 10 - i = f + 1 := ⟨9 - i, by omega⟩
      rw [hf] at hg
      have HF : Hid (10 - i = f + 1) := hf
      have HG : Hid (getR s p (f + 1) i u = R) := hg
      clear hu hg H0 hf
      by_cases hsh : s.size ≤ p + i
      · have hfin : Hid (R = .bad 4) := by rw [← HG.out]; exact getR_short hsh
        go_wp2
        simp only [jumpM]
        go_ret3
        exact ⟨BitsOk.bad hfin.out (by decide) rfl, rfl⟩
      have hlt : p + i < s.size := by omega
      have HB : Hid (bNu s (p + i) = s[p + i].toNat) := bU_eq s (p + i) hlt
      have hbl : (s[p + i].toNat : Int) ≤ 255 := by have := bU_lt s (p + i); rw [HB.out] at this; omega
      by_cases h9 : i = 9 ∧ 1 < s[p + i].toNat
      · obtain ⟨h9a, h9b⟩ := h9
        have hfin : Hid (R = .bad 3) := by
          rw [← HG.out]
          subst h9a
          exact getR_ninth hlt (by rw [HB.out]; exact h9b)
        have e9 : ((7 * (i : Int)) == 63) = true := by rw [beq_iff_eq]; omega
        have e9b : (1 : Int) < (s[p + i].toNat : Int) := by omega
        clear h9a
        go_wp2
        go_step3
        refine ⟨⟨rfl, .inr (.inl ⟨rfl, _, _, _, _, _, _, _, _, _, _, _, _, _, _, _, _, _, _, _, _, _, _, _, _, _, _, _, _, _, _, _, _, _, _, _, _, _, _, _, _, rfl, hfin.out⟩)⟩, ?_⟩
        simp [bitsM, RowKit.intOf]; omega
      have H9 : Hid (i = 9 → bNu s (p + i) ≤ 1) := fun e => by rw [HB.out]; omega
      have hw1 := wrapSh hlt (by omega) H9.out
      have hxl := sh7_le (s := s) (j := p + i) (by omega) H9.out
      obtain ⟨x, hx⟩ : ∃ x, x = sh7 i (bNu s (p + i) % 128) := ⟨_, rfl⟩
      rw [← hx] at hw1 hxl
      obtain ⟨hw2, hvl⟩ := wrapSum HU.out (by omega) hxl
      obtain ⟨v, hv⟩ : ∃ v, v = u + x := ⟨_, rfl⟩
      have hor := orWrap HU.out hi9 hxl ⟨_, hx⟩ hv
      rw [← hv] at hvl
      have HV : Hid (v = u + sh7 i (bNu s (p + i) % 128)) := (by rw [hv, hx] : v = u + sh7 i (bNu s (p + i) % 128))
      clear hx hv hxl hw2
      have hand := andU127 (c := (s[p + i].toNat : Int)) (by omega) hbl
      have h9c : ((7 * (i : Int)) == 63) = true ∧ (s[p + i].toNat : Int) ≤ 1 ∨ ((7 * (i : Int)) == 63) = false := by
        by_cases h : i = 9
        · left; exact ⟨by rw [beq_iff_eq]; omega, by omega⟩
        · right; rw [beq_eq_false_iff_ne]; omega
      have h9d : Hid (((7 * (i : Int)) == 63) = false → i < 9) := fun h => by rw [beq_eq_false_iff_ne] at h; omega
      clear h9
      by_cases hc : 128 ≤ (s[p + i].toNat : Int)
      · rcases h9c with ⟨e9, e1⟩ | e9
        · exfalso; omega
        have hi9 := h9d.out e9
        have HN : Hid (getR s p f (i + 1) v = R) := (by rw [← HG.out, getR_more hlt H9.out (by rw [HB.out]; omega), ← HV.out] : getR s p f (i + 1) v = R)
        have HVB : Hid (v < 128 ^ (i + 1)) := by rw [HV.out]; exact sh7_bound HU.out (by omega)
        have E7 : Hid (7 * ((i + 1 : Nat) : Int) = 7 * (i : Int) + 7) := (by omega : 7 * ((i + 1 : Nat) : Int) = 7 * (i : Int) + 7)
        have E8 : Hid ((p : Int) + ((i + 1 : Nat) : Int) = (p : Int) + (i : Int) + 1) := (by omega : (p : Int) + ((i + 1 : Nat) : Int) = (p : Int) + (i : Int) + 1)
        go_wp2
        go_step3
        refine ⟨⟨rfl, .inl ⟨rfl, i + 1, v, _, _, _, _, _, _, _, _, _, _, _, _, _, _, _, _, _, _, _, _, _, _, _, _, _, _, _, _, _, _, _, _, _, _, _, _, _, by rw [E7.out, E8.out], by omega, by omega, HVB.out, by rw [show 10 - (i + 1) = f from by have := HF.out; omega]; exact HN.out⟩⟩, ?_⟩
        simp [bitsM, RowKit.intOf]; omega
      have HZ : Hid (s[p + i].toNat = 0 ∧ 0 < i → R = .bad 3) := fun hz => by
        rw [← HG.out]
        exact getR_zero hlt (by rw [HB.out]; exact hz.1) hz.2
      have HN : Hid (¬ (s[p + i].toNat = 0 ∧ 0 < i) → R = ⟨unI v, (p + i + 1 : Nat), 0⟩) := fun hz => by
        rw [← HG.out, getR_last hlt H9.out (by rw [HB.out]; omega) (by rw [HB.out]; exact hz), ← HV.out]
      rcases h9c with ⟨e9, e1⟩ | e9
      all_goals
        go_wp2
        go_step3
        refine ⟨⟨rfl, .inr (.inr ⟨rfl, i, v, s[p + i].toNat, _, _, _, _, _, _, _, _, _, _, _, _, _, _, _, _, _, _, _, _, _, _, _, _, _, _, _, _, _, _, _, _, _, _, _, _, rfl, by omega, hlt, by omega, hvl, HZ.out, HN.out⟩)⟩, ?_⟩
        simp [bitsM, RowKit.intOf]; omega
    · cases hr
      have HR : Hid (R = .bad 3) := hR
      clear hR H0
      go_wp2
      simp only [jumpM]
      go_ret3
      exact ⟨BitsOk.bad HR.out (by decide) rfl, rfl⟩
    · cases hr
      have HZ : Hid (c = 0 ∧ 0 < i → R = .bad 3) := hz
      have HN : Hid (¬ (c = 0 ∧ 0 < i) → R = ⟨unI v, (p + i + 1 : Nat), 0⟩) := hn
      clear hz hn H0
      by_cases h0 : c = 0
      · have e0 : ((c : Int) == 0) = true := by rw [beq_iff_eq]; omega
        by_cases hi0 : 0 < i
        · have ei : (0 : Int) < 7 * (i : Int) := by omega
          have hfin : Hid (R = .bad 3) := HZ.out ⟨h0, hi0⟩
          clear h0
          go_wp2
          go_step3
          refine ⟨⟨rfl, .inr (.inl ⟨rfl, _, _, _, _, _, _, _, _, _, _, _, _, _, _, _, _, _, _, _, _, _, _, _, _, _, _, _, _, _, _, _, _, _, _, _, _, _, _, _, _, rfl, hfin.out⟩)⟩, ?_⟩
          simp [bitsM]
        · have ei : 7 * (i : Int) ≤ 0 := by omega
          have hfin : Hid (R = ⟨unI v, (p + i + 1 : Nat), 0⟩) := HN.out (by omega)
          clear h0
          go_wp2
          simp only [jumpM]
          go_ret3
          exact ⟨BitsOk.good hv hfin.out rfl, rfl⟩
      · have e0 : ((c : Int) == 0) = false := by rw [beq_eq_false_iff_ne]; omega
        have hfin : Hid (R = ⟨unI v, (p + i + 1 : Nat), 0⟩) := HN.out (by omega)
        clear h0
        go_wp2
        simp only [jumpM]
        go_ret3
        exact ⟨BitsOk.good hv hfin.out rfl, rfl⟩
end Go.Proofs.YtfliacfeebooeaaGreatDoor
namespace Go.Proofs.YtfliacfeebooeaaGreatDoor
open Go.RowKit

theorem tooLong (s : ByteArray) (w : World) (hs : s.size ≤ maxLen) :
    Calls Tryz.prog 11 #[.string s] w fun e w' => e = .returned (.bool (decide (20000 < s.size))) ∧ w' = w := by
  unfold maxLen at hs
  go_enter Tryz.func11, Tryz.ntmps11
  go_wp2
  go_ret
  exact ⟨by simp; omega, rfl⟩
end Go.Proofs.YtfliacfeebooeaaGreatDoor
namespace Go.Proofs.YtfliacfeebooeaaGreatDoor
open Go.RowKit Go.Lib

theorem xorAll (a : Nat) (h : a < 18446744073709551616) : a ^^^ 18446744073709551615 = 18446744073709551615 - a := by
  have e := congrArg BitVec.toNat (BitVec.xor_allOnes (x := BitVec.ofNat 64 a))
  simp only [BitVec.toNat_xor, BitVec.toNat_ofNat, BitVec.toNat_allOnes, BitVec.toNat_not] at e
  rw [Nat.mod_eq_of_lt (by omega)] at e
  simpa using e
theorem xor_zero64 (a : Nat) (h : a ≤ 9223372036854775807) : bits BinOp.xor IntKind.i64 (a : Int) 0 = (a : Int) := by
  have h1 : (BitVec.ofInt 64 (a : Int)).toNat = a := by
    rw [BitVec.ofInt_natCast, BitVec.toNat_ofNat]; exact Nat.mod_eq_of_lt (by omega)
  show IntKind.i64.wrap ((BitVec.ofInt 64 (a : Int) ^^^ BitVec.ofInt 64 0).toNat : Int) = _
  have h2 : (BitVec.ofInt 64 0).toNat = 0 := by decide
  rw [BitVec.toNat_xor, h1, h2, Nat.xor_zero, IntKind.wrap_i64]
  omega
theorem xor_ones64 (a : Nat) (h : a ≤ 9223372036854775807) : bits BinOp.xor IntKind.i64 (a : Int) (-1) = -(a : Int) - 1 := by
  have h1 : (BitVec.ofInt 64 (a : Int)).toNat = a := by
    rw [BitVec.ofInt_natCast, BitVec.toNat_ofNat]; exact Nat.mod_eq_of_lt (by omega)
  show IntKind.i64.wrap ((BitVec.ofInt 64 (a : Int) ^^^ BitVec.ofInt 64 (-1)).toNat : Int) = _
  have h2 : (BitVec.ofInt 64 (-1)).toNat = 18446744073709551615 := by decide
  rw [BitVec.toNat_xor, h1, h2, xorAll a (by omega), IntKind.wrap_i64]
  omega
theorem unfold_bits (u : Nat) (hu : u ≤ 18446744073709551615) : bits BinOp.xor IntKind.i64 ((u : Int) / 2) (wrap64 (-wrap64 (bits BinOp.and IntKind.u64 (u : Int) 1))) = unI u := by
  rw [and_one_u64 _ (by omega) (by omega)]
  have e2 : ((u : Int) / 2) = ((u / 2 : Nat) : Int) := by omega
  rw [e2]
  unfold unI
  by_cases h : u % 2 = 1
  · have e : wrap64 (-wrap64 ((u : Int) % 2)) = -1 := by simp only [wrap64]; omega
    rw [e, xor_ones64 _ (by omega), if_pos h]
  · have e : wrap64 (-wrap64 ((u : Int) % 2)) = 0 := by simp only [wrap64]; omega
    rw [e, xor_zero64 _ (by omega), if_neg h]
theorem unfoldSign (u : Nat) (w : World) (hu : u ≤ 18446744073709551615) :
    Calls Tryz.prog 119 #[.int .u64 (u : Int)] w fun e w' => e = .returned (.int .i64 (unI u)) ∧ w' = w := by
  have hu' : (u : Int) ≤ 18446744073709551615 := by omega
  go_enter Tryz.func119, Tryz.ntmps119
  go_wp2
  go_ret
  exact ⟨ret_int (unfold_bits u hu), rfl⟩
/-- What is read at a place: the code of a text that is too long, of a place below 0, or what the bytes say. -/
def numAt (s : ByteArray) (p : Int) : NumR := if 20000 < s.size then .bad 2 else if p < 0 then .bad 1 else getR s p.toNat 10 0 0
/-- What readNum hands back, by what is to be read. -/
def ReadOk (R : NumR) (e : Ending) : Prop :=
  (R.code = 0 ∧ e = .returned (.tuple #[.int .i64 R.n, .int .i64 R.at', .nilIface])) ∨
  (R.code ≠ 0 ∧ R = .bad R.code ∧ ∃ n, e = .returned (.tuple #[.int .i64 n, .int .i64 0, .iface 102 (.agg #[.int .i64 R.code])]))
set_option maxHeartbeats 1000000 in
theorem readNum (s : ByteArray) (p : Int) (w : World) (hs : s.size ≤ maxLen) (hp0 : -9223372036854775808 ≤ p) (hp1 : p ≤ 9223372036854775807) :
    Calls Tryz.prog 95 #[.string s, .int .i64 p] w fun e w' => ReadOk (numAt s p) e ∧ w' = w := by
  by_cases h1 : 20000 < s.size
  · have hfin : Hid (numAt s p = .bad 2) := by rw [numAt, if_pos h1]; rfl
    have hd : decide (20000 < s.size) = true := by simp; omega
    go_enter Tryz.func95, Tryz.ntmps95
    go_wp2_with fail
    refine (tooLong s _ hs).mono ?_
    rintro e w' ⟨rfl, rfl⟩
    go_wp2
    go_ret3
    rw [hfin.out]
    exact ⟨.inr ⟨by decide, rfl, 0, rfl⟩, rfl⟩
  have hd : decide (20000 < s.size) = false := by simp; omega
  by_cases h2 : p < 0
  · have hfin : Hid (numAt s p = .bad 1) := by rw [numAt, if_neg h1, if_pos h2]; rfl
    go_enter Tryz.func95, Tryz.ntmps95
    go_wp2_with fail
    refine (tooLong s _ hs).mono ?_
    rintro e w' ⟨rfl, rfl⟩
    go_wp2
    go_ret3
    rw [hfin.out]
    exact ⟨.inr ⟨by decide, rfl, 0, rfl⟩, rfl⟩
  obtain ⟨q, rfl⟩ := Int.eq_ofNat_of_zero_le (show 0 ≤ p by omega)
  have hfin : numAt s (q : Int) = getR s q 10 0 0 := by rw [numAt, if_neg h1, if_neg h2, Int.toNat_natCast]
  have hbits := fun W => readBits s q W (by omega) hp1
  rw [hfin]
  generalize getR s q 10 0 0 = R at *
  have HB : Hid (∀ W, Calls Tryz.prog 118 #[.string s, .int .i64 (q : Int)] W fun e w' => BitsOk R e ∧ w' = W) := hbits
  clear hbits hfin
  go_enter Tryz.func95, Tryz.ntmps95
  go_wp2_with fail
  refine (tooLong s _ hs).mono ?_
  rintro e w' ⟨rfl, rfl⟩
  go_wp2_with fail
  refine (HB.out _).mono ?_
  rintro e w' ⟨hb, rfl⟩
  rcases hb with ⟨v, hv, hc, hn, rfl⟩ | ⟨hc, hR, rfl⟩
  · have HC : Hid (R.code = 0) := hc
    have HN : Hid (R.n = unI v) := hn
    clear hc hn
    go_wp2_with fail
    refine (unfoldSign v _ hv).mono ?_
    rintro e w' ⟨rfl, rfl⟩
    go_wp2
    go_ret3
    exact ⟨.inl ⟨HC.out, by rw [HN.out]; rfl⟩, rfl⟩
  · have HC : Hid (R.code ≠ 0) := hc
    have HR : Hid (R = .bad R.code) := hR
    clear hc hR
    go_wp2_with fail
    refine (unfoldSign 0 _ (by omega)).mono ?_
    rintro e w' ⟨rfl, rfl⟩
    go_wp2
    go_ret3
    exact ⟨.inr ⟨HC.out, HR.out, _, rfl⟩, rfl⟩
end Go.Proofs.YtfliacfeebooeaaGreatDoor
namespace Go.Proofs.YtfliacfeebooeaaGreatDoor
open Go.RowKit

/-- Things, one behind the other. -/
def catT : List (Nat × ByteArray) → ByteArray
  | [] => ⟨#[]⟩
  | p :: r => thingD (p.1 : Int) p.2 ++ catT r
def asI (l : List (Nat × ByteArray)) : List (Int × ByteArray) := l.map fun p => ((p.1 : Int), p.2)
theorem catT_len : ∀ l : List (Nat × ByteArray), 2 * l.length ≤ (catT l).size
  | [] => Nat.zero_le _
  | p :: r => by
    have h := catT_len r
    have h2 := thingD_size (p.1 : Int) p.2
    have h3 := lenD_one p.2.size
    rw [catT, ByteArray.size_append, List.length_cons]
    omega
theorem allR_cat : ∀ (l : List (Nat × ByteArray)) (p : ByteArray) (f : Nat) (acc : List (Int × ByteArray)), (∀ q ∈ l, tagB (q.1 : Int) = true ∧ q.2.size ≤ 4000) → l.length ≤ f → acc.length + l.length ≤ 60 →
    allR (p ++ catT l) f p.size acc = (acc ++ asI l, 0)
  | [], p, f, acc, _, _, _ => by
    rw [allR_end (by rw [ByteArray.size_append]; show p.size + 0 ≤ _; omega)]
    simp [asI]
  | q :: r, p, f, acc, hq, hf, ha => by
    obtain ⟨t, b⟩ := q
    obtain ⟨h1, h2⟩ := hq _ (List.mem_cons_self ..)
    simp only at h1 h2
    obtain ⟨g, rfl⟩ : ∃ g, f = g + 1 := ⟨f - 1, by simp at hf; omega⟩
    have hs := thingD_size (t : Int) b
    have e : p ++ catT ((t, b) :: r) = p ++ thingD (t : Int) b ++ catT r := by rw [catT, ByteArray.append_assoc]
    have hg := get_back p (catT r) h1 h2
    rw [e]
    rw [allR_more (by rw [ByteArray.size_append, ByteArray.size_append]; omega) (by rw [hg]) (by simp at ha; omega), hg]
    simp only [Int.toNat_natCast]
    rw [show p.size + (thingD (t : Int) b).size = (p ++ thingD (t : Int) b).size from ByteArray.size_append.symm]
    rw [allR_cat r (p ++ thingD (t : Int) b) g _ (fun q hq' => hq q (List.mem_cons_of_mem _ hq')) (by simp at hf; omega) (by simp at ha ⊢; omega)]
    simp [asI]
theorem allR_all {l : List (Nat × ByteArray)} (hq : ∀ q ∈ l, tagB (q.1 : Int) = true ∧ q.2.size ≤ 4000) (hl : l.length ≤ 60) : allR (catT l) ((catT l).size + 1) 0 [] = (asI l, 0) := by
  have h := allR_cat l ByteArray.empty ((catT l).size + 1) [] hq (by have := catT_len l; omega) (by simpa using hl)
  rw [ByteArray.empty_append] at h
  simpa using h
theorem allD_cat {l : List (Nat × ByteArray)} (hq : ∀ q ∈ l, tagB (q.1 : Int) = true ∧ q.2.size ≤ 4000) (hl : l.length ≤ 60) (hs : (catT l).size ≤ 20000) : allD (catT l) = (asI l, 0) := by
  unfold allD
  rw [if_neg (by omega)]
  exact allR_all hq hl
/-- The body of thing number k of a row: the empty text, if there is none. -/
def bodyK (s : ByteArray) (k : Nat) : ByteArray := (((allD s).1[k]?).map (·.2)).getD ⟨#[]⟩
/-- .. and so on, one within the other. -/
def atP (s : ByteArray) : List Nat → ByteArray
  | [] => s
  | k :: ks => if k < (allD s).1.length then atP (bodyK s k) ks else ⟨#[]⟩
theorem allR_body (s : ByteArray) : ∀ (f k : Nat) (acc : List (Int × ByteArray)), (∀ q ∈ acc, q.2.size ≤ s.size) → ∀ q ∈ (allR s f k acc).1, q.2.size ≤ s.size
  | 0, _, acc, h => h
  | f + 1, k, acc, h => by
    rw [allR]
    split
    · exact h
    · split
      · simp
      · split
        · simp
        · refine allR_body s f _ _ (fun q hq => ?_)
          rcases List.mem_append.1 hq with hq | hq
          · exact h q hq
          · obtain rfl := List.mem_singleton.1 hq
            rename_i hc _ _
            obtain ⟨n, _, h2, _, h4, _⟩ := getAt_form (s := s) (k := k) (by simpa using hc)
            rw [h4]
            show (s.extract _ _).size ≤ _
            rw [ByteArray.size_extract]
            omega
theorem allD_body (s : ByteArray) : ∀ q ∈ (allD s).1, q.2.size ≤ s.size := by
  unfold allD
  split
  · simp
  · exact allR_body s _ _ _ (by simp)
theorem bodyK_le (s : ByteArray) (k : Nat) : (bodyK s k).size ≤ s.size := by
  unfold bodyK
  cases h : (allD s).1[k]? with
  | none => exact Nat.zero_le _
  | some q => exact allD_body s q (List.mem_of_getElem? h)
theorem atP_le : ∀ (ks : List Nat) (s : ByteArray), (atP s ks).size ≤ s.size
  | [], s => Nat.le_refl _
  | k :: ks, s => by
    rw [atP]
    split
    · exact Nat.le_trans (atP_le ks _) (bodyK_le s k)
    · exact Nat.zero_le _
/-- The bodies of a row's things. -/
def bodiesR (s : ByteArray) : List ByteArray := (allD s).1.map (·.2)
def serialsR (s : ByteArray) : List Int := (allD s).1.map fun p => (intR p.2).1
/-- Numbers from a place on; behind the first that is none they are 0. -/
def numsGo (s : ByteArray) : Nat → Int → List Int
  | 0, _ => []
  | n + 1, p => if (numAt s p).code = 0 then (numAt s p).n :: numsGo s n (numAt s p).at' else List.replicate (n + 1) 0
end Go.Proofs.YtfliacfeebooeaaGreatDoor
namespace Go.Proofs.YtfliacfeebooeaaGreatDoor
open Go.RowKit

theorem getR_at (s : ByteArray) (p : Nat) : ∀ (f i u : Nat), (getR s p f i u).code = 0 → 0 ≤ (getR s p f i u).at' ∧ (getR s p f i u).at' ≤ s.size
  | 0, i, u, h => by simp [getR, NumR.bad] at h
  | f + 1, i, u, h => by
    rw [getR] at h ⊢
    by_cases h1 : s.size ≤ p + i
    · rw [if_pos h1] at h; simp [NumR.bad] at h
    rw [if_neg h1] at h ⊢
    by_cases h2 : i = 9 ∧ 1 < bNu s (p + i)
    · rw [if_pos h2] at h; simp [NumR.bad] at h
    rw [if_neg h2] at h ⊢
    by_cases h3 : bNu s (p + i) < 128
    · rw [if_pos h3] at h ⊢
      by_cases h4 : bNu s (p + i) = 0 ∧ 0 < i
      · rw [if_pos h4] at h; simp [NumR.bad] at h
      rw [if_neg h4]
      simp only
      omega
    · rw [if_neg h3] at h ⊢
      exact getR_at s p f (i + 1) _ h
theorem numAt_at {s : ByteArray} {p : Int} (h : (numAt s p).code = 0) : 0 ≤ (numAt s p).at' ∧ (numAt s p).at' ≤ s.size := by
  unfold numAt at h ⊢
  by_cases h1 : 20000 < s.size
  · rw [if_pos h1] at h; simp [NumR.bad] at h
  rw [if_neg h1] at h ⊢
  by_cases h2 : p < 0
  · rw [if_pos h2] at h; simp [NumR.bad] at h
  rw [if_neg h2] at h ⊢
  exact getR_at s _ _ _ _ h
theorem numsGo_len (s : ByteArray) : ∀ (n : Nat) (p : Int), (numsGo s n p).length = n
  | 0, _ => rfl
  | n + 1, p => by
    rw [numsGo]
    split
    · rw [List.length_cons, numsGo_len s n]
    · simp
/-- So many numbers, one behind the other, as the specification goes. -/
def bitsQ (s : ByteArray) : Nat → Int → List Int
  | 0, _ => []
  | n + 1, p => (numAt s p).n :: bitsQ s n (numAt s p).at'
theorem getR_any (s : ByteArray) (p : Nat) : ∀ (f i u : Nat), 0 ≤ (getR s p f i u).at' ∧ (getR s p f i u).at' ≤ s.size
  | 0, _, _ => ⟨Int.le_refl _, Int.natCast_nonneg _⟩
  | f + 1, i, u => by
    rw [getR]
    split
    · exact ⟨Int.le_refl _, Int.natCast_nonneg _⟩
    split
    · exact ⟨Int.le_refl _, Int.natCast_nonneg _⟩
    split
    · split
      · exact ⟨Int.le_refl _, Int.natCast_nonneg _⟩
      · simp only
        omega
    · exact getR_any s p f (i + 1) _
theorem numAt_any (s : ByteArray) (p : Int) : 0 ≤ (numAt s p).at' ∧ (numAt s p).at' ≤ s.size := by
  unfold numAt
  split
  · exact ⟨Int.le_refl _, Int.natCast_nonneg _⟩
  split
  · exact ⟨Int.le_refl _, Int.natCast_nonneg _⟩
  exact getR_any s _ _ _ _
end Go.Proofs.YtfliacfeebooeaaGreatDoor
namespace Go.Proofs.YtfliacfeebooeaaGreatDoor
open Go.RowKit Go.Lib

/-- The table's byte at the top of a number. -/
theorem lenTop (x y : Int) (k : Nat) (hx0 : 0 ≤ x) (hx : x < 18446744073709551616) (hy : y = x / 2 ^ k) (hy1 : y ≤ 255) (hk : (2 : Int) ^ k ≤ x ∨ k = 0) : (k : Int) + Lib.len8 y = (Lib.bitLen x.toNat : Int) := by
  have hp : (0 : Int) < 2 ^ k := Int.pow_pos (by decide)
  have hy0 : 0 ≤ y := by rw [hy]; exact Int.ediv_nonneg hx0 (Int.le_of_lt hp)
  rw [Lib.len8_of y hy0 hy1]
  have e : y.toNat = x.toNat / 2 ^ k := by
    obtain ⟨n, rfl⟩ := Int.eq_ofNat_of_zero_le hx0
    rw [hy]
    have : ((n : Int) / 2 ^ k) = ((n / 2 ^ k : Nat) : Int) := by simp
    rw [this]; rfl
  rcases hk with hk | rfl
  · have h2 : 2 ^ k ≤ x.toNat := by
      obtain ⟨n, rfl⟩ := Int.eq_ofNat_of_zero_le hx0
      have : ((2 ^ k : Nat) : Int) ≤ (n : Int) := by simpa using hk
      show 2 ^ k ≤ n
      exact_mod_cast this
    have h3 : x.toNat < 2 ^ 64 := by
      have : (2 : Nat) ^ 64 = 18446744073709551616 := by decide
      omega
    rw [e, Lib.bitLen_shift k x.toNat h2 h3]
    omega
  · rw [e]; simp
theorem tabAt (y : Int) (h : y.toNat < len8tab.size) : (len8tab[y.toNat].toNat : Int) = Lib.len8 y := by
  unfold Lib.len8
  rw [getElem?_pos len8tab y.toNat h]; rfl
theorem lenGoal (x y : Int) (k : Nat) (h : y.toNat < len8tab.size) (hx0 : 0 ≤ x) (hx : x < 18446744073709551616) (hy : y = x / 2 ^ k) (hy1 : y ≤ 255) (hk : (2 : Int) ^ k ≤ x ∨ k = 0) :
    wrap64 ((k : Int) + wrap64 (len8tab[y.toNat].toNat : Int)) = (Lib.bitLen x.toNat : Int) := by
  have e := lenTop x y k hx0 hx hy hy1 hk
  have l := Lib.bitLen_le x.toNat 64 (by omega) (by have : (2 : Nat) ^ 64 = 18446744073709551616 := by decide
                                                    omega)
  rw [tabAt y h]
  have b : 0 ≤ Lib.len8 y := by unfold Lib.len8; omega
  have w1 : wrap64 (Lib.len8 y) = Lib.len8 y := by unfold wrap64; omega
  rw [w1]
  unfold wrap64
  omega
set_option maxHeartbeats 4000000 in
set_option maxRecDepth 100000 in
theorem len64 (x : Int) (w : World) (h0 : 0 ≤ x) (h1 : x ≤ 18446744073709551615) :
    Calls Tryz.prog 115 #[.int .u64 x] w fun e w' => e = .returned (.int .i64 (Lib.bitLen x.toNat : Int)) ∧ w' = w := by
  have hts : (len8tab.size : Int) = 256 := by rw [len8tab_size]; rfl
  go_enter Tryz.func115, Tryz.ntmps115
  go_wp2
  all_goals
    go_ret
    refine ⟨ret_int ?_, rfl⟩
    first
      | exact lenGoal x _ 56 (by omega) h0 (by omega) (by omega) (by omega) (by omega)
      | exact lenGoal x _ 48 (by omega) h0 (by omega) (by omega) (by omega) (by omega)
      | exact lenGoal x _ 40 (by omega) h0 (by omega) (by omega) (by omega) (by omega)
      | exact lenGoal x _ 32 (by omega) h0 (by omega) (by omega) (by omega) (by omega)
      | exact lenGoal x _ 24 (by omega) h0 (by omega) (by omega) (by omega) (by omega)
      | exact lenGoal x _ 16 (by omega) h0 (by omega) (by omega) (by omega) (by omega)
      | exact lenGoal x _ 8 (by omega) h0 (by omega) (by omega) (by omega) (by omega)
      | (have e := lenGoal x x 0 (by omega) h0 (by omega) (by simp) (by omega) (.inr rfl)
         rw [← e]
         simp)
theorem lenUint (x : Int) (w : World) (h0 : 0 ≤ x) (h1 : x ≤ 18446744073709551615) :
    Calls Tryz.prog 137 #[.int .u64 x] w fun e w' => e = .returned (.int .i64 (Lib.bitLen x.toNat : Int)) ∧ w' = w := by
  go_enter Tryz.func137, Tryz.ntmps137
  go_wp2_with fail
  refine (len64 x _ h0 h1).mono ?_
  rintro e w' ⟨rfl, rfl⟩
  go_wp2
  go_ret
  exact ⟨rfl, rfl⟩
end Go.Proofs.YtfliacfeebooeaaGreatDoor
namespace Go.Proofs.YtfliacfeebooeaaGreatDoor
open Go.RowKit Go.Lib

/-- How many bytes a length needs behind the first one. -/
def moreL (n : Nat) : Nat := if n < 128 then 0 else if n < 256 then 1 else 2
theorem bitLen_top {x k : Nat} (h0 : 2 ^ k ≤ x) (h1 : x < 2 ^ (k + 1)) (hk : k < 64) : Lib.bitLen x = k + 1 := by
  have hx : x < 2 ^ 64 := Nat.lt_of_lt_of_le h1 (Nat.pow_le_pow_right (by omega) (by omega))
  rw [Lib.bitLen_shift k x h0 hx]
  have e : x / 2 ^ k = 1 := by
    have := Nat.two_pow_pos k
    have a : 1 ≤ x / 2 ^ k := (Nat.le_div_iff_mul_le this).2 (by omega)
    have b : x / 2 ^ k < 2 := (Nat.div_lt_iff_lt_mul this).2 (by rw [Nat.pow_succ] at h1; omega)
    omega
  rw [e]
  have : Lib.bitLen 1 = 1 := by decide
  omega
theorem moreL_bits {n : Nat} (h0 : 128 ≤ n) (h1 : n < 65536) : (Lib.bitLen n + 7) / 8 = moreL n := by
  unfold moreL
  rw [if_neg (by omega)]
  split
  · rw [bitLen_top (k := 7) (by omega) (by omega) (by omega)]
  · have l := Lib.bitLen_le n 16 (by omega) (by omega)
    have g := Lib.bitLen_shift 8 n (by omega) (by omega)
    have g1 : 1 ≤ Lib.bitLen (n / 2 ^ 8) := by
      have := Lib.bitLen_half (n / 2 ^ 8) (by omega) (by omega)
      omega
    omega
set_option maxRecDepth 100000 in
theorem lengthBytes (n : Nat) (w : World) (h : n < 65536) :
    Calls Tryz.prog 129 #[.int .i64 (n : Int)] w fun e w' => e = .returned (.int .i64 (moreL n : Int)) ∧ w' = w := by
  by_cases h1 : n < 128
  · have HF : Hid (moreL n = 0) := if_pos h1
    go_enter Tryz.func129, Tryz.ntmps129
    go_wp2
    go_ret
    exact ⟨by rw [HF.out]; rfl, rfl⟩
  · have HF : Hid ((Lib.bitLen n + 7) / 8 = moreL n) := moreL_bits (by omega) h
    have l := Lib.bitLen_le n 16 (by omega) (by omega)
    go_enter Tryz.func129, Tryz.ntmps129
    go_wp2_with fail
    refine (lenUint _ _ (by omega) (by omega)).mono ?_
    rintro e w' ⟨rfl, rfl⟩
    rw [show ((n : Int).toNat) = n from rfl]
    generalize Lib.bitLen n = c at *
    go_wp2
    go_ret
    exact ⟨ret_int (by rw [← HF.out]; omega), rfl⟩
end Go.Proofs.YtfliacfeebooeaaGreatDoor
namespace Go.Proofs.YtfliacfeebooeaaGreatDoor
open Go.RowKit Go.Lib

theorem madeN (n : Nat) : (madeCells #[Value.int .u8 0] n).toList = List.replicate n (.int .u8 0) := by
  simp [madeCells, Nat.mod_one, List.map_const']
theorem made2 : (madeCells #[Value.int .u8 0] 2).toList = [.int .u8 0, .int .u8 0] := madeN 2
theorem made3 : (madeCells #[Value.int .u8 0] 3).toList = [.int .u8 0, .int .u8 0, .int .u8 0] := madeN 3
/-- 'string(b)' of a row that is known whole. -/
theorem convertRow (w : World) (g : Nat) (xs : List Int) (T n c : Nat) (hn : xs.length = n) (h : w.heap[g]? = some (.cells (xs.map (Value.int .u8)).toArray T (0, 0))) :
    (convert 94 9 (.slice (some ⟨g, 0, none⟩) n c)).run Tryz.prog w = .ok (.string (strOfNums xs)) w := by
  refine run_convert_bytes_arg _ 94 5 Tryz.underlying94 Tryz.underlying5 g 0 n c xs hn ?_ 9 Tryz.underlying9
  intro i hi
  rw [Nat.zero_add, cell_of_row _ _ i _ T (0, 0) h]
  have hi' : i < xs.length := by omega
  simp [hi', List.getD]
end Go.Proofs.YtfliacfeebooeaaGreatDoor
namespace Go.Proofs.YtfliacfeebooeaaGreatDoor
open Go.RowKit Go.Lib

set_option maxHeartbeats 1000000 in
set_option maxRecDepth 100000 in
theorem putLength (n : Nat) (w : World) (h : n ≤ 4000) :
    Calls Tryz.prog 127 #[.int .i64 (n : Int)] w fun e w' => e = .returned (.string (strOfNums (lenD n))) ∧ Below w.heap.size w w' := by
  obtain ⟨i0, hi, hz0, hz1, hz2⟩ := info_parts infoByte
  go_enter Tryz.func127, Tryz.ntmps127
  go_wp2_with fail
  refine (lengthBytes n _ (by omega)).mono ?_
  rintro e w' ⟨rfl, rfl⟩
  by_cases c1 : n < 128
  · have hm : moreL n = 0 := if_pos c1
    have HF : Hid (lenD n = [(n : Int)]) := by unfold Hid lenD; rw [if_pos c1]
    have hcv := convertRow (w'.alloc (.cells #[.int .u8 (n : Int)] 5 (0, 0))) w'.heap.size [(n : Int)] 5 1 1 rfl (heap_alloc_new _ _)
    rw [hm]
    go_wp2
    go_ret
    exact ⟨by rw [HF.out]; rfl, (Below.refl _ _).alloc (Nat.le_refl _) _⟩
  · by_cases c2 : n < 256
    · have hm : moreL n = 1 := by rw [moreL, if_neg c1, if_pos c2]
      have HF : Hid (lenD n = [129, (n : Int)]) := by unfold Hid lenD; rw [if_neg c1, if_pos c2]
      rw [hm]
      go_wp2_with (at_make; refine wpList_make_full _ rfl _ _ 94 rfl w'.heap.size 5 i0 (.int .u8 0) 1 Tryz.underlying94 hi hz0 hz1 .i64 .i64 _ _ 2 rfl rfl ?c1 ?c2 ?c3 ?c4 ?c5 ?_)
      case c1 => omega
      case c2 => omega
      case c3 => rw [hz2]; omega
      case c4 => unfold maxLen; omega
      case c5 => exact Nat.le_refl _
      intro w1 hown hgrow
      have hrow : w1.heap[w'.heap.size]? = some (.cells [Value.int .u8 0, .int .u8 0].toArray 5 (0, 0)) := by rw [(rowOf hown rfl).1, made2]
      have hB1 : Below w'.heap.size w' w1 := (Below.refl _ w').grown hgrow (Nat.le_refl _) (fun k hk => by cases hk)
      have r0 := rowFacts hrow 0 _ rfl
      have r1 := rowFacts hrow 1 _ rfl
      have f0 := frozen_of_row w1 w'.heap.size 0 _ 5 hrow
      have f1 := frozen_of_row w1 w'.heap.size 1 _ 5 hrow
      have hcv := convertRow _ w'.heap.size [129, (n : Int)] 5 2 2 rfl (rowSet (i := 1) (.int .u8 (n : Int)) (rowSet (i := 0) (.int .u8 129) hrow))
      have HB : Hid (∀ a b, Below w'.heap.size w' ((w1.setCell ⟨w'.heap.size, 0, none⟩ a).setCell ⟨w'.heap.size, 1, none⟩ b)) := fun a b => (hB1.setCell (Nat.le_refl _) a).setCell (Nat.le_refl _) b
      clear hown hgrow hrow hB1
      go_wp2_with fail
      refine wp_loop_rounds 2 ?_
      rw [rounds_succ]
      go_wp2
      rw [rounds_succ]
      go_wp2
      go_ret
      exact ⟨by rw [HF.out]; rfl, HB.out _ _⟩
    · have hm : moreL n = 2 := by rw [moreL, if_neg c1, if_neg c2]
      have HF : Hid (lenD n = [130, (n : Int) / 256, (n : Int) % 256]) := by unfold Hid lenD; rw [if_neg c1, if_neg c2]; simp
      rw [hm]
      go_wp2_with (at_make; refine wpList_make_full _ rfl _ _ 94 rfl w'.heap.size 5 i0 (.int .u8 0) 1 Tryz.underlying94 hi hz0 hz1 .i64 .i64 _ _ 3 rfl rfl ?c1 ?c2 ?c3 ?c4 ?c5 ?_)
      case c1 => omega
      case c2 => omega
      case c3 => rw [hz2]; omega
      case c4 => unfold maxLen; omega
      case c5 => exact Nat.le_refl _
      intro w1 hown hgrow
      have hrow : w1.heap[w'.heap.size]? = some (.cells [Value.int .u8 0, .int .u8 0, .int .u8 0].toArray 5 (0, 0)) := by rw [(rowOf hown rfl).1, made3]
      have hB1 : Below w'.heap.size w' w1 := (Below.refl _ w').grown hgrow (Nat.le_refl _) (fun k hk => by cases hk)
      have r0 := rowFacts hrow 0 _ rfl
      have r1 := rowFacts hrow 1 _ rfl
      have r2 := rowFacts hrow 2 _ rfl
      have f0 := frozen_of_row w1 w'.heap.size 0 _ 5 hrow
      have f1 := frozen_of_row w1 w'.heap.size 1 _ 5 hrow
      have f2 := frozen_of_row w1 w'.heap.size 2 _ 5 hrow
      have hcv := convertRow _ w'.heap.size [130, (n : Int) / 256, (n : Int) % 256] 5 3 3 rfl (rowSet (i := 1) (.int .u8 ((n : Int) / 256)) (rowSet (i := 2) (.int .u8 ((n : Int) % 256)) (rowSet (i := 0) (.int .u8 130) hrow)))
      have HB : Hid (∀ a b c, Below w'.heap.size w' (((w1.setCell ⟨w'.heap.size, 0, none⟩ a).setCell ⟨w'.heap.size, 2, none⟩ b).setCell ⟨w'.heap.size, 1, none⟩ c)) := fun a b c => ((hB1.setCell (Nat.le_refl _) a).setCell (Nat.le_refl _) b).setCell (Nat.le_refl _) c
      clear hown hgrow hrow hB1
      go_wp2_with fail
      refine wp_loop_rounds 3 ?_
      rw [rounds_succ]
      go_wp2
      rw [rounds_succ]
      go_wp2
      rw [rounds_succ]
      go_wp2
      go_ret
      exact ⟨by rw [HF.out]; rfl, HB.out _ _ _⟩
end Go.Proofs.YtfliacfeebooeaaGreatDoor
