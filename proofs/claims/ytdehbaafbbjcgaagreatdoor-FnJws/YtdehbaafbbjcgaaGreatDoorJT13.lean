/- impl.readBits, walked: a scope with three labels. impl.unfoldSign, impl.readNum, impl.GetNum, walked. What GetText answers, by what is read as the length. -/
import Derived.Test.YtdehbaafbbjcgaaGreatDoorJT01
import Derived.Test.YtdehbaafbbjcgaaGreatDoorJT12
import Derived.Test.YtdehbaafbbjcgaaGreatDoorJT10
namespace Go.Proofs.YtdehbaafbbjcgaaGreatDoor
open Go.RowKit Go.Lib

/-- What readBits hands back, by what is to be read. -/
def BitsOk (R : NumR) (e : Ending) : Prop :=
  (∃ v : Nat, v ≤ 18446744073709551615 ∧ R.code = 0 ∧ R.n = unI v ∧ e = .returned (.tuple #[.int .u64 v, .int .i64 R.at', .nilIface])) ∨
  (R.code ≠ 0 ∧ R = .bad R.code ∧ e = .returned (.tuple #[.int .u64 0, .int .i64 0, .iface 100 (.agg #[.int .i64 R.code])]))
theorem BitsOk.bad {R : NumR} {e : Ending} {c : Int} (h : R = .bad c) (hc : c ≠ 0) (he : e = .returned (.tuple #[.int .u64 0, .int .i64 0, .iface 100 (.agg #[.int .i64 c])])) : BitsOk R e := by
  subst h
  exact .inr ⟨hc, rfl, he⟩
theorem BitsOk.good {R : NumR} {e : Ending} {v n : Nat} (hv : v ≤ 18446744073709551615) (h : R = ⟨unI v, n, 0⟩) (he : e = .returned (.tuple #[.int .u64 v, .int .i64 n, .nilIface])) : BitsOk R e := by
  subst h
  exact .inl ⟨v, hv, rfl, rfl, he⟩
theorem orWrap {i u x v : Nat} (hu : u < 128 ^ i) (hi : i ≤ 9) (hx : x ≤ 9223372036854775808) (e : ∃ y, x = sh7 i y) (hv : v = u + x) : bits BinOp.or IntKind.u64 (u : Int) (x : Int) = (v : Int) := by
  obtain ⟨y, rfl⟩ := e
  have := pow_le9 hi
  rw [u64_or_nat _ _ (by omega) (by omega), orU7 i u y hu, hv]
theorem andU127 {c : Int} (h0 : 0 ≤ c) (h1 : c ≤ 255) : IntKind.u64.wrap (bits BinOp.and IntKind.u8 c 127) = c % 128 := by
  have e := bits_mask .u8 8 (by decide) wraps_u8 7 (by decide) c h0 (by omega)
  have e2 : (2 : Int) ^ 7 - 1 = 127 := by decide
  have e3 : (2 : Int) ^ 7 = 128 := by decide
  rw [e2, e3] at e
  rw [e, IntKind.wrap_u64]
  omega
theorem orZero (x : Nat) (h : x < 256) : bits BinOp.or IntKind.u64 0 ((x : Nat) : Int) = ((x : Nat) : Int) := by
  have := u64_or_nat 0 x (by omega) (by omega)
  simpa using this
def bitsJ (s : ByteArray) (p : Nat) (w : World) (R : NumR) (l : Nat) (a' : Act) (w' : World) : Prop :=
  w' = w ∧ ((l = 0 ∧ ∃ (i u : Nat) (bv u12 u13 u14 u15 u16 u17 u18 u19 u20 u21 u22 u23 u24 u25 u26 u27 u28 u29 u30 u31 u32 u33 u34 u35 u36 u37 u38 u39 u40 u41 u42 u43 u44 u45 u46 u47 : Value), a' = { tmps := #[.string s, .int .i64 (p : Int), undef, undef, .int .u64 0, .int .i64 0, .nilIface, .int .u64 ((u : Int)), bv, .int .u64 (7 * (i : Int)), .int .i64 ((p : Int) + (i : Int)), .int .i64 (p : Int), u12, u13, u14, u15, u16, u17, u18, u19, u20, u21, u22, u23, u24, u25, u26, u27, u28, u29, u30, u31, u32, u33, u34, u35, u36, u37, u38, u39, u40, u41, u42, u43, u44, u45, u46, u47, undef, undef], defers := [] } ∧ 1 ≤ i ∧ i ≤ 9 ∧ u < 128 ^ i ∧ getR s p (10 - i) i u = R) ∨
    (l = 1 ∧ ∃ (x7 x8 x9 x10 : Value) (u12 u13 u14 u15 u16 u17 u18 u19 u20 u21 u22 u23 u24 u25 u26 u27 u28 u29 u30 u31 u32 u33 u34 u35 u36 u37 u38 u39 u40 u41 u42 u43 u44 u45 u46 u47 : Value), a' = { tmps := #[.string s, .int .i64 (p : Int), undef, undef, .int .u64 0, .int .i64 0, .nilIface, x7, x8, x9, x10, .int .i64 (p : Int), u12, u13, u14, u15, u16, u17, u18, u19, u20, u21, u22, u23, u24, u25, u26, u27, u28, u29, u30, u31, u32, u33, u34, u35, u36, u37, u38, u39, u40, u41, u42, u43, u44, u45, u46, u47, undef, undef], defers := [] } ∧ R = .bad 3) ∨
    (l = 2 ∧ ∃ (i v c : Nat) (u12 u13 u14 u15 u16 u17 u18 u19 u20 u21 u22 u23 u24 u25 u26 u27 u28 u29 u30 u31 u32 u33 u34 u35 u36 u37 u38 u39 u40 u41 u42 u43 u44 u45 u46 u47 : Value), a' = { tmps := #[.string s, .int .i64 (p : Int), undef, undef, .int .u64 0, .int .i64 0, .nilIface, .int .u64 ((v : Int)), .int .u8 (c : Int), .int .u64 (7 * (i : Int)), .int .i64 ((p : Int) + (i : Int) + 1), .int .i64 (p : Int), u12, u13, u14, u15, u16, u17, u18, u19, u20, u21, u22, u23, u24, u25, u26, u27, u28, u29, u30, u31, u32, u33, u34, u35, u36, u37, u38, u39, u40, u41, u42, u43, u44, u45, u46, u47, undef, undef], defers := [] } ∧ i ≤ 9 ∧ p + i < s.size ∧ c < 128 ∧ v ≤ 18446744073709551615 ∧ (c = 0 ∧ 0 < i → R = .bad 3) ∧ (¬ (c = 0 ∧ 0 < i) → R = ⟨unI v, (p + i + 1 : Nat), 0⟩)))
def bitsM (l : Nat) (a' : Act) (_ : World) : Nat := if l = 0 then 1000 - (RowKit.intOf (a'.tmps.getD 9 undef)).toNat else l
set_option maxHeartbeats 4000000 in
set_option maxRecDepth 100000 in
theorem readBits (s : ByteArray) (p : Nat) (w : World) (hs : s.size ≤ 20000) (hp : (p : Int) ≤ 9223372036854775807) :
    Calls Tryz.prog 103 #[.string s, .int .i64 (p : Int)] w fun e w' => BitsOk (getR s p 10 0 0) e ∧ w' = w := by
  obtain ⟨R, hR⟩ : ∃ R, R = getR s p 10 0 0 := ⟨_, rfl⟩
  rw [← hR]
  have H0 : Hid (getR s p 10 0 0 = R) := hR.symm
  clear hR
  go_enter Tryz.func103, Tryz.ntmps103
  go_wp2
  refine wp_scope_many (bitsJ s p w R) bitsM ?_ ?_ ?_
  · rintro l a' w' ⟨rfl, ⟨rfl, _⟩ | ⟨rfl, _⟩ | ⟨rfl, _⟩⟩
    · exact ⟨_, rfl⟩
    · exact ⟨_, rfl⟩
    · exact ⟨_, rfl⟩
  · by_cases hsh : s.size ≤ p
    · have hfin : Hid (R = .bad 4) := by rw [← H0.out]; exact getR_short (by omega)
      clear H0
      go_wp2
      go_step3
      go_wp2
      simp only [jumpM]
      go_ret3
      exact ⟨BitsOk.bad hfin.out (by decide) rfl, rfl⟩
    have hlt : p + 0 < s.size := by omega
    have hlt' : p < s.size := by omega
    have HB : Hid (bNu s (p + 0) = s[p].toNat) := bU_eq s (p + 0) hlt
    have hbl : (s[p].toNat : Int) ≤ 255 := by have := bU_lt s (p + 0); rw [HB.out] at this; omega
    have hand := andU127 (c := (s[p].toNat : Int)) (by omega) hbl
    have ec : ((s[p].toNat % 128 : Nat) : Int) = (s[p].toNat : Int) % 128 := by omega
    have hor := orZero (s[p].toNat % 128) (by omega)
    rw [ec] at hor
    have EC : Hid (((s[p].toNat % 128 : Nat) : Int) = (s[p].toNat : Int) % 128) := ec
    clear ec
    have HV : Hid (s[p].toNat % 128 = 0 + sh7 0 (bNu s (p + 0) % 128)) := (by rw [HB.out]; simp [sh7] : s[p].toNat % 128 = 0 + sh7 0 (bNu s (p + 0) % 128))
    by_cases hc : 128 ≤ (s[p].toNat : Int)
    · have HN : Hid (getR s p 9 1 (s[p].toNat % 128) = R) := (by rw [← H0.out, getR_more hlt (by omega) (by rw [HB.out]; omega), ← HV.out] : getR s p 9 1 (s[p].toNat % 128) = R)
      clear H0
      go_wp2
      go_step3
      go_wp2
      go_step3
      refine ⟨rfl, .inl ⟨rfl, 1, s[p].toNat % 128, _, _, _, _, _, _, _, _, _, _, _, _, _, _, _, _, _, _, _, _, _, _, _, _, _, _, _, _, _, _, _, _, _, _, _, _, _, by rw [EC.out, show 7 * ((1 : Nat) : Int) = 7 from rfl, show (p : Int) + ((1 : Nat) : Int) = (p : Int) + 1 from rfl], by omega, by omega, by omega, HN.out⟩⟩
    have HZN : Hid (R = ⟨unI (s[p].toNat % 128), (p + 0 + 1 : Nat), 0⟩) := (by
      rw [← H0.out, getR_last hlt (by omega) (by rw [HB.out]; omega) (by omega), ← HV.out] : R = ⟨unI (s[p].toNat % 128), (p + 0 + 1 : Nat), 0⟩)
    clear H0
    go_wp2
    go_step3
    go_wp2
    go_step3
    refine ⟨rfl, .inr (.inr ⟨rfl, 0, s[p].toNat % 128, s[p].toNat, _, _, _, _, _, _, _, _, _, _, _, _, _, _, _, _, _, _, _, _, _, _, _, _, _, _, _, _, _, _, _, _, _, _, _, _, by rw [EC.out, show 7 * ((0 : Nat) : Int) = 0 from rfl, show (p : Int) + ((0 : Nat) : Int) + 1 = (p : Int) + 1 from by omega], by omega, hlt, by omega, by omega, fun h => by omega, fun _ => HZN.out⟩)⟩
  · rintro l r hr a' w' ⟨rfl, ⟨rfl, i, u, bv, u12, u13, u14, u15, u16, u17, u18, u19, u20, u21, u22, u23, u24, u25, u26, u27, u28, u29, u30, u31, u32, u33, u34, u35, u36, u37, u38, u39, u40, u41, u42, u43, u44, u45, u46, u47, rfl, hi1, hi9, hu, hg⟩ | ⟨rfl, x7, x8, x9, x10, u12, u13, u14, u15, u16, u17, u18, u19, u20, u21, u22, u23, u24, u25, u26, u27, u28, u29, u30, u31, u32, u33, u34, u35, u36, u37, u38, u39, u40, u41, u42, u43, u44, u45, u46, u47, rfl, hR⟩ | ⟨rfl, i, v, c, u12, u13, u14, u15, u16, u17, u18, u19, u20, u21, u22, u23, u24, u25, u26, u27, u28, u29, u30, u31, u32, u33, u34, u35, u36, u37, u38, u39, u40, u41, u42, u43, u44, u45, u46, u47, rfl, hi9, hlt, hc, hv, hz, hn⟩⟩
    · cases hr
      have HU : Hid (u < 128 ^ i) := hu
      obtain ⟨f, hf⟩ : ∃ f, 10 - i = f + 1 := ⟨9 - i, by omega⟩
      rw [hf] at hg
      have HF : Hid (10 - i = f + 1) := hf
      have HG : Hid (getR s p (f + 1) i u = R) := hg
      clear hu hg H0 hf
      by_cases hsh : s.size ≤ p + i
      · have hfin : Hid (R = .bad 4) := by rw [← HG.out]; exact getR_short hsh
        go_wp2
        simp only [jumpM]
        go_ret3
        exact ⟨BitsOk.bad hfin.out (by decide) rfl, rfl⟩
      have hlt : p + i < s.size := by omega
      have HB : Hid (bNu s (p + i) = s[p + i].toNat) := bU_eq s (p + i) hlt
      have hbl : (s[p + i].toNat : Int) ≤ 255 := by have := bU_lt s (p + i); rw [HB.out] at this; omega
      by_cases h9 : i = 9 ∧ 1 < s[p + i].toNat
      · obtain ⟨h9a, h9b⟩ := h9
        have hfin : Hid (R = .bad 3) := by
          rw [← HG.out]
          subst h9a
          exact getR_ninth hlt (by rw [HB.out]; exact h9b)
        have e9 : ((7 * (i : Int)) == 63) = true := by rw [beq_iff_eq]; omega
        have e9b : (1 : Int) < (s[p + i].toNat : Int) := by omega
        clear h9a
        go_wp2
        go_step3
        refine ⟨⟨rfl, .inr (.inl ⟨rfl, _, _, _, _, _, _, _, _, _, _, _, _, _, _, _, _, _, _, _, _, _, _, _, _, _, _, _, _, _, _, _, _, _, _, _, _, _, _, _, _, rfl, hfin.out⟩)⟩, ?_⟩
        simp [bitsM, RowKit.intOf]; omega
      have H9 : Hid (i = 9 → bNu s (p + i) ≤ 1) := fun e => by rw [HB.out]; omega
      have hw1 := wrapSh hlt (by omega) H9.out
      have hxl := sh7_le (s := s) (j := p + i) (by omega) H9.out
      obtain ⟨x, hx⟩ : ∃ x, x = sh7 i (bNu s (p + i) % 128) := ⟨_, rfl⟩
      rw [← hx] at hw1 hxl
      obtain ⟨hw2, hvl⟩ := wrapSum HU.out (by omega) hxl
      obtain ⟨v, hv⟩ : ∃ v, v = u + x := ⟨_, rfl⟩
      have hor := orWrap HU.out hi9 hxl ⟨_, hx⟩ hv
      rw [← hv] at hvl
      have HV : Hid (v = u + sh7 i (bNu s (p + i) % 128)) := (by rw [hv, hx] : v = u + sh7 i (bNu s (p + i) % 128))
      clear hx hv hxl hw2
      have hand := andU127 (c := (s[p + i].toNat : Int)) (by omega) hbl
      have h9c : ((7 * (i : Int)) == 63) = true ∧ (s[p + i].toNat : Int) ≤ 1 ∨ ((7 * (i : Int)) == 63) = false := by
        by_cases h : i = 9
        · left; exact ⟨by rw [beq_iff_eq]; omega, by omega⟩
        · right; rw [beq_eq_false_iff_ne]; omega
      have h9d : Hid (((7 * (i : Int)) == 63) = false → i < 9) := fun h => by rw [beq_eq_false_iff_ne] at h; omega
      clear h9
      by_cases hc : 128 ≤ (s[p + i].toNat : Int)
      · rcases h9c with ⟨e9, e1⟩ | e9
        · exfalso; omega
        have hi9 := h9d.out e9
        have HN : Hid (getR s p f (i + 1) v = R) := (by rw [← HG.out, getR_more hlt H9.out (by rw [HB.out]; omega), ← HV.out] : getR s p f (i + 1) v = R)
        have HVB : Hid (v < 128 ^ (i + 1)) := by rw [HV.out]; exact sh7_bound HU.out (by omega)
        have E7 : Hid (7 * ((i + 1 : Nat) : Int) = 7 * (i : Int) + 7) := (by omega : 7 * ((i + 1 : Nat) : Int) = 7 * (i : Int) + 7)
        have E8 : Hid ((p : Int) + ((i + 1 : Nat) : Int) = (p : Int) + (i : Int) + 1) := (by omega : (p : Int) + ((i + 1 : Nat) : Int) = (p : Int) + (i : Int) + 1)
        go_wp2
        go_step3
        refine ⟨⟨rfl, .inl ⟨rfl, i + 1, v, _, _, _, _, _, _, _, _, _, _, _, _, _, _, _, _, _, _, _, _, _, _, _, _, _, _, _, _, _, _, _, _, _, _, _, _, _, by rw [E7.out, E8.out], by omega, by omega, HVB.out, by rw [show 10 - (i + 1) = f from by have := HF.out; omega]; exact HN.out⟩⟩, ?_⟩
        simp [bitsM, RowKit.intOf]; omega
      have HZ : Hid (s[p + i].toNat = 0 ∧ 0 < i → R = .bad 3) := fun hz => by
        rw [← HG.out]
        exact getR_zero hlt (by rw [HB.out]; exact hz.1) hz.2
      have HN : Hid (¬ (s[p + i].toNat = 0 ∧ 0 < i) → R = ⟨unI v, (p + i + 1 : Nat), 0⟩) := fun hz => by
        rw [← HG.out, getR_last hlt H9.out (by rw [HB.out]; omega) (by rw [HB.out]; exact hz), ← HV.out]
      rcases h9c with ⟨e9, e1⟩ | e9
      all_goals
        go_wp2
        go_step3
        refine ⟨⟨rfl, .inr (.inr ⟨rfl, i, v, s[p + i].toNat, _, _, _, _, _, _, _, _, _, _, _, _, _, _, _, _, _, _, _, _, _, _, _, _, _, _, _, _, _, _, _, _, _, _, _, _, rfl, by omega, hlt, by omega, hvl, HZ.out, HN.out⟩)⟩, ?_⟩
        simp [bitsM, RowKit.intOf]; omega
    · cases hr
      have HR : Hid (R = .bad 3) := hR
      clear hR H0
      go_wp2
      simp only [jumpM]
      go_ret3
      exact ⟨BitsOk.bad HR.out (by decide) rfl, rfl⟩
    · cases hr
      have HZ : Hid (c = 0 ∧ 0 < i → R = .bad 3) := hz
      have HN : Hid (¬ (c = 0 ∧ 0 < i) → R = ⟨unI v, (p + i + 1 : Nat), 0⟩) := hn
      clear hz hn H0
      by_cases h0 : c = 0
      · have e0 : ((c : Int) == 0) = true := by rw [beq_iff_eq]; omega
        by_cases hi0 : 0 < i
        · have ei : (0 : Int) < 7 * (i : Int) := by omega
          have hfin : Hid (R = .bad 3) := HZ.out ⟨h0, hi0⟩
          clear h0
          go_wp2
          go_step3
          refine ⟨⟨rfl, .inr (.inl ⟨rfl, _, _, _, _, _, _, _, _, _, _, _, _, _, _, _, _, _, _, _, _, _, _, _, _, _, _, _, _, _, _, _, _, _, _, _, _, _, _, _, _, rfl, hfin.out⟩)⟩, ?_⟩
          simp [bitsM]
        · have ei : 7 * (i : Int) ≤ 0 := by omega
          have hfin : Hid (R = ⟨unI v, (p + i + 1 : Nat), 0⟩) := HN.out (by omega)
          clear h0
          go_wp2
          simp only [jumpM]
          go_ret3
          exact ⟨BitsOk.good hv hfin.out rfl, rfl⟩
      · have e0 : ((c : Int) == 0) = false := by rw [beq_eq_false_iff_ne]; omega
        have hfin : Hid (R = ⟨unI v, (p + i + 1 : Nat), 0⟩) := HN.out (by omega)
        clear h0
        go_wp2
        simp only [jumpM]
        go_ret3
        exact ⟨BitsOk.good hv hfin.out rfl, rfl⟩
end Go.Proofs.YtdehbaafbbjcgaaGreatDoor
namespace Go.Proofs.YtdehbaafbbjcgaaGreatDoor
open Go.RowKit Go.Lib

theorem xorAll (a : Nat) (h : a < 18446744073709551616) : a ^^^ 18446744073709551615 = 18446744073709551615 - a := by
  have e := congrArg BitVec.toNat (BitVec.xor_allOnes (x := BitVec.ofNat 64 a))
  simp only [BitVec.toNat_xor, BitVec.toNat_ofNat, BitVec.toNat_allOnes, BitVec.toNat_not] at e
  rw [Nat.mod_eq_of_lt (by omega)] at e
  simpa using e
theorem xor_zero64 (a : Nat) (h : a ≤ 9223372036854775807) : bits BinOp.xor IntKind.i64 (a : Int) 0 = (a : Int) := by
  have h1 : (BitVec.ofInt 64 (a : Int)).toNat = a := by
    rw [BitVec.ofInt_natCast, BitVec.toNat_ofNat]; exact Nat.mod_eq_of_lt (by omega)
  show IntKind.i64.wrap ((BitVec.ofInt 64 (a : Int) ^^^ BitVec.ofInt 64 0).toNat : Int) = _
  have h2 : (BitVec.ofInt 64 0).toNat = 0 := by decide
  rw [BitVec.toNat_xor, h1, h2, Nat.xor_zero, IntKind.wrap_i64]
  omega
theorem xor_ones64 (a : Nat) (h : a ≤ 9223372036854775807) : bits BinOp.xor IntKind.i64 (a : Int) (-1) = -(a : Int) - 1 := by
  have h1 : (BitVec.ofInt 64 (a : Int)).toNat = a := by
    rw [BitVec.ofInt_natCast, BitVec.toNat_ofNat]; exact Nat.mod_eq_of_lt (by omega)
  show IntKind.i64.wrap ((BitVec.ofInt 64 (a : Int) ^^^ BitVec.ofInt 64 (-1)).toNat : Int) = _
  have h2 : (BitVec.ofInt 64 (-1)).toNat = 18446744073709551615 := by decide
  rw [BitVec.toNat_xor, h1, h2, xorAll a (by omega), IntKind.wrap_i64]
  omega
theorem unfold_bits (u : Nat) (hu : u ≤ 18446744073709551615) : bits BinOp.xor IntKind.i64 ((u : Int) / 2) (wrap64 (-wrap64 (bits BinOp.and IntKind.u64 (u : Int) 1))) = unI u := by
  rw [and_one_u64 _ (by omega) (by omega)]
  have e2 : ((u : Int) / 2) = ((u / 2 : Nat) : Int) := by omega
  rw [e2]
  unfold unI
  by_cases h : u % 2 = 1
  · have e : wrap64 (-wrap64 ((u : Int) % 2)) = -1 := by simp only [wrap64]; omega
    rw [e, xor_ones64 _ (by omega), if_pos h]
  · have e : wrap64 (-wrap64 ((u : Int) % 2)) = 0 := by simp only [wrap64]; omega
    rw [e, xor_zero64 _ (by omega), if_neg h]
theorem unfoldSign (u : Nat) (w : World) (hu : u ≤ 18446744073709551615) :
    Calls Tryz.prog 104 #[.int .u64 (u : Int)] w fun e w' => e = .returned (.int .i64 (unI u)) ∧ w' = w := by
  have hu' : (u : Int) ≤ 18446744073709551615 := by omega
  go_enter Tryz.func104, Tryz.ntmps104
  go_wp2
  go_ret
  exact ⟨ret_int (unfold_bits u hu), rfl⟩
/-- What is read at a place: the code of a text that is too long, of a place below 0, or what the bytes say. -/
def numAt (s : ByteArray) (p : Int) : NumR := if 20000 < s.size then .bad 2 else if p < 0 then .bad 1 else getR s p.toNat 10 0 0
/-- What readNum hands back, by what is to be read. -/
def ReadOk (R : NumR) (e : Ending) : Prop :=
  (R.code = 0 ∧ e = .returned (.tuple #[.int .i64 R.n, .int .i64 R.at', .nilIface])) ∨
  (R.code ≠ 0 ∧ R = .bad R.code ∧ ∃ n, e = .returned (.tuple #[.int .i64 n, .int .i64 0, .iface 100 (.agg #[.int .i64 R.code])]))
set_option maxHeartbeats 1000000 in
theorem readNum (s : ByteArray) (p : Int) (w : World) (hs : s.size ≤ maxLen) (hp0 : -9223372036854775808 ≤ p) (hp1 : p ≤ 9223372036854775807) :
    Calls Tryz.prog 87 #[.string s, .int .i64 p] w fun e w' => ReadOk (numAt s p) e ∧ w' = w := by
  by_cases h1 : 20000 < s.size
  · have hfin : Hid (numAt s p = .bad 2) := by rw [numAt, if_pos h1]; rfl
    have hd : decide (20000 < s.size) = true := by simp; omega
    go_enter Tryz.func87, Tryz.ntmps87
    go_wp2_with fail
    refine (tooLong s _ hs).mono ?_
    rintro e w' ⟨rfl, rfl⟩
    go_wp2
    go_ret3
    rw [hfin.out]
    exact ⟨.inr ⟨by decide, rfl, 0, rfl⟩, rfl⟩
  have hd : decide (20000 < s.size) = false := by simp; omega
  by_cases h2 : p < 0
  · have hfin : Hid (numAt s p = .bad 1) := by rw [numAt, if_neg h1, if_pos h2]; rfl
    go_enter Tryz.func87, Tryz.ntmps87
    go_wp2_with fail
    refine (tooLong s _ hs).mono ?_
    rintro e w' ⟨rfl, rfl⟩
    go_wp2
    go_ret3
    rw [hfin.out]
    exact ⟨.inr ⟨by decide, rfl, 0, rfl⟩, rfl⟩
  obtain ⟨q, rfl⟩ := Int.eq_ofNat_of_zero_le (show 0 ≤ p by omega)
  have hfin : numAt s (q : Int) = getR s q 10 0 0 := by rw [numAt, if_neg h1, if_neg h2, Int.toNat_natCast]
  have hbits := fun W => readBits s q W (by omega) hp1
  rw [hfin]
  generalize getR s q 10 0 0 = R at *
  have HB : Hid (∀ W, Calls Tryz.prog 103 #[.string s, .int .i64 (q : Int)] W fun e w' => BitsOk R e ∧ w' = W) := hbits
  clear hbits hfin
  go_enter Tryz.func87, Tryz.ntmps87
  go_wp2_with fail
  refine (tooLong s _ hs).mono ?_
  rintro e w' ⟨rfl, rfl⟩
  go_wp2_with fail
  refine (HB.out _).mono ?_
  rintro e w' ⟨hb, rfl⟩
  rcases hb with ⟨v, hv, hc, hn, rfl⟩ | ⟨hc, hR, rfl⟩
  · have HC : Hid (R.code = 0) := hc
    have HN : Hid (R.n = unI v) := hn
    clear hc hn
    go_wp2_with fail
    refine (unfoldSign v _ hv).mono ?_
    rintro e w' ⟨rfl, rfl⟩
    go_wp2
    go_ret3
    exact ⟨.inl ⟨HC.out, by rw [HN.out]; rfl⟩, rfl⟩
  · have HC : Hid (R.code ≠ 0) := hc
    have HR : Hid (R = .bad R.code) := hR
    clear hc hR
    go_wp2_with fail
    refine (unfoldSign 0 _ (by omega)).mono ?_
    rintro e w' ⟨rfl, rfl⟩
    go_wp2
    go_ret3
    exact ⟨.inr ⟨HC.out, HR.out, _, rfl⟩, rfl⟩
end Go.Proofs.YtdehbaafbbjcgaaGreatDoor
namespace Go.Proofs.YtdehbaafbbjcgaaGreatDoor
open Go.RowKit Go.Lib

theorem getR_at (s : ByteArray) (p f i u : Nat) : (getR s p f i u).code = 0 → 0 < (getR s p f i u).at' ∧ (getR s p f i u).at' ≤ s.size := by
  induction f generalizing i u with
  | zero => intro h; simp [getR, NumR.bad] at h
  | succ f ih =>
    rw [getR]
    split
    · intro h; simp [NumR.bad] at h
    · split
      · intro h; simp [NumR.bad] at h
      · split
        · split
          · intro h; simp [NumR.bad] at h
          · intro _; simp only; omega
        · exact ih _ _
theorem numAt_at {s : ByteArray} {p : Int} (h : (numAt s p).code = 0) : s.size ≤ 20000 ∧ 0 < (numAt s p).at' ∧ (numAt s p).at' ≤ s.size := by
  unfold numAt at *
  split at h
  · simp [NumR.bad] at h
  · rename_i h1
    split at h
    · simp [NumR.bad] at h
    · rename_i h2
      rw [if_neg h1, if_neg h2]
      exact ⟨by omega, getR_at s _ _ _ _ h⟩
/-- What GetText answers, by what is read as the length. -/
def textR (s : ByteArray) (R : NumR) : Value :=
  if R.code ≠ 0 then outV ByteArray.empty 0 R.code else if R.n < 0 ∨ 20000 < R.n then outV ByteArray.empty 0 3
  else if (s.size : Int) - R.n < R.at' then outV ByteArray.empty 0 4 else outV (s.extract R.at'.toNat (R.at' + R.n).toNat) (R.at' + R.n) 0
end Go.Proofs.YtdehbaafbbjcgaaGreatDoor
