/- Plain mathematics of reading a number; laws for three labels in one scope. No program is named. impl.readBits, walked: a scope with three labels. impl.unfoldSign, impl.readNum, impl.GetNum, walked. What GetText answers, by what is read as the length. Things of DER: what DerPut and DerGet answer. Plain mathematics: no program is named here. Numbers in bytes of two's complement, as few as may be. Plain mathematics: no program is named here. Numbers read back: what DerIntRead answers. Plain mathematics: no program is named here. -/
import Derived.WalkKit
import Derived.WalkSpells
import Derived.WalkLawsBesides
import Derived.WalkMore
import Derived.ScopeJumps
import Derived.Below
import Derived.Lib.Strings
import Derived.Test.YtjkmfjegphpjkaaGreatDoorJW01
import Derived.Test.YtjkmfjegphpjkaaGreatDoorJW05
import Derived.Lib.BitFns
import Derived.Laws.BitsAllLaws
namespace Go.Proofs.YtjkmfjegphpjkaaGreatDoor
open Go.RowKit Go.Lib

/-- As Q; by a goto to one of the labels: what J says of it. -/
def jumpM (J : Nat → Act → World → Prop) (Q : Exit → Act → World → Prop) : Exit → Act → World → Prop
  | .goto l, a, w => J l a w
  | e, a, w => Q e a w
/-- A scope with several labels: what holds at each jump, and one measure that every pass from a label lowers. -/
theorem wp_scope_many {P : Program} {a : Act} {w : World} {Q : Exit → Act → World → Prop} {c : Code} (J : Nat → Act → World → Prop) (μ : Nat → Act → World → Nat)
    (hsome : ∀ l a w, J l a w → ∃ r, findLabel c l = some r) (first : c.wp P (jumpM J Q) a w)
    (pass : ∀ l r, findLabel c l = some r → ∀ a w, J l a w → r.wp P (jumpM (fun l' a' w' => J l' a' w' ∧ μ l' a' w' < μ l a w) Q) a w) : (Code.scope c).wp P Q a w := by
  intro b k cs
  have key : ∀ n l r a w, findLabel c l = some r → μ l a w = n → J l a w → ∃ e a' w', Q e a' w' ∧ Arrives P (lone (b.at a (.code r :: .inScope c :: k)) cs w) b k cs e a' w' := by
    intro n
    induction n using Nat.strongRecOn with
    | _ n ih =>
      intro l r a w hr hn hJ
      obtain ⟨e, a₁, w₁, hq, harr⟩ := pass l r hr a w hJ b (.inScope c :: k) cs
      cases e with
      | normal => exact ⟨.normal, a₁, w₁, hq, Steps.trans harr (.one step_inScope)⟩
      | exit id => exact ⟨.exit id, a₁, w₁, hq, fun k' hk => harr k' (by simp [exitTo, hk])⟩
      | goto l' =>
        obtain ⟨hJ', hlt⟩ := hq
        obtain ⟨r', hr'⟩ := hsome l' a₁ w₁ hJ'
        obtain ⟨e₂, a₂, w₂, hq₂, harr₂⟩ := ih _ (by omega) l' r' a₁ w₁ hr' rfl hJ'
        exact ⟨e₂, a₂, w₂, hq₂, .of_steps (harr _ (by simp [gotoIn, hr'])) harr₂⟩
      | ret => exact ⟨_, a₁, w₁, hq, harr⟩
      | panic ch => exact ⟨_, a₁, w₁, hq, harr⟩
      | outgrown => exact ⟨_, a₁, w₁, hq, harr⟩
  obtain ⟨e, a₁, w₁, hq, harr⟩ := first b (.inScope c :: k) cs
  cases e with
  | normal => exact ⟨.normal, a₁, w₁, hq, .head step_scope (Steps.trans harr (.one step_inScope))⟩
  | exit id => exact ⟨.exit id, a₁, w₁, hq, fun k' hk => .head step_scope (harr k' (by simp [exitTo, hk]))⟩
  | goto l' =>
    obtain ⟨r', hr'⟩ := hsome l' a₁ w₁ hq
    obtain ⟨e₂, a₂, w₂, hq₂, harr₂⟩ := key _ l' r' a₁ w₁ hr' rfl hq
    exact ⟨e₂, a₂, w₂, hq₂, .of_steps (.head step_scope (harr _ (by simp [gotoIn, hr']))) harr₂⟩
  | ret => exact ⟨_, a₁, w₁, hq, .of_steps (.one step_scope) harr⟩
  | panic ch => exact ⟨_, a₁, w₁, hq, .of_steps (.one step_scope) harr⟩
  | outgrown => exact ⟨_, a₁, w₁, hq, .of_steps (.one step_scope) harr⟩

def bNu (s : ByteArray) (j : Nat) : Nat := (s.data.toList.getD j 0).toNat
theorem bU_eq (s : ByteArray) (j : Nat) (h : j < s.size) : bNu s j = s[j].toNat := by
  have h' : j < s.data.toList.length := by rw [← size_eq]; exact h
  simp [bNu, List.getD, List.getElem?_eq_getElem h']
  rfl
theorem bU_lt (s : ByteArray) (j : Nat) : bNu s j ≤ 255 := by
  have := (s.data.toList.getD j 0).toNat_lt
  unfold bNu; omega
/-- x with i groups of seven bits ahead of it. -/
def sh7 (i x : Nat) : Nat := x * 128 ^ i
def unI (u : Nat) : Int := if u % 2 = 1 then -((u / 2 : Nat) : Int) - 1 else ((u / 2 : Nat) : Int)
structure NumR where
  n : Int
  at' : Int
  code : Int
/-- A NumOut as a value. -/
def numV (r : NumR) : Value := .agg #[.int .i64 r.n, .int .i64 r.at', .int .i64 r.code]
def NumR.bad (c : Int) : NumR := ⟨0, 0, c⟩
/-- What is read from round i on, u being had. -/
def getR (s : ByteArray) (p : Nat) : Nat → Nat → Nat → NumR
  | 0, _, _ => .bad 3
  | f + 1, i, u => if s.size ≤ p + i then .bad 4 else if i = 9 ∧ 1 < bNu s (p + i) then .bad 3 else
      if bNu s (p + i) < 128 then (if bNu s (p + i) = 0 ∧ 0 < i then .bad 3 else ⟨unI (u + sh7 i (bNu s (p + i) % 128)), (p + i + 1 : Nat), 0⟩)
      else getR s p f (i + 1) (u + sh7 i (bNu s (p + i) % 128))
theorem getR_short {s : ByteArray} {p f i u : Nat} (h : s.size ≤ p + i) : getR s p (f + 1) i u = .bad 4 := by rw [getR, if_pos h]
theorem getR_ninth {s : ByteArray} {p f u : Nat} (h : p + 9 < s.size) (h1 : 1 < bNu s (p + 9)) : getR s p (f + 1) 9 u = .bad 3 := by
  rw [getR, if_neg (by omega), if_pos ⟨rfl, h1⟩]
theorem getR_zero {s : ByteArray} {p f i u : Nat} (h : p + i < s.size) (h1 : bNu s (p + i) = 0) (h2 : 0 < i) : getR s p (f + 1) i u = .bad 3 := by
  rw [getR, if_neg (by omega), if_neg (by omega), if_pos (by omega), if_pos ⟨h1, h2⟩]
theorem getR_last {s : ByteArray} {p f i u : Nat} (h : p + i < s.size) (h0 : i = 9 → bNu s (p + i) ≤ 1) (h1 : bNu s (p + i) < 128) (h2 : ¬ (bNu s (p + i) = 0 ∧ 0 < i)) :
    getR s p (f + 1) i u = ⟨unI (u + sh7 i (bNu s (p + i) % 128)), (p + i + 1 : Nat), 0⟩ := by
  rw [getR, if_neg (by omega), if_neg (by rintro ⟨a, b⟩; have := h0 a; omega), if_pos h1, if_neg h2]
theorem getR_more {s : ByteArray} {p f i u : Nat} (h : p + i < s.size) (h0 : i = 9 → bNu s (p + i) ≤ 1) (h1 : 128 ≤ bNu s (p + i)) :
    getR s p (f + 1) i u = getR s p f (i + 1) (u + sh7 i (bNu s (p + i) % 128)) := by
  rw [getR, if_neg (by omega), if_neg (by rintro ⟨a, b⟩; have := h0 a; omega), if_neg (by omega)]
theorem pow7 (i : Nat) : 128 ^ i = 2 ^ (7 * i) := by rw [Nat.pow_mul]
theorem sh7_bound {i u x : Nat} (hu : u < 128 ^ i) (hx : x < 128) : u + sh7 i x < 128 ^ (i + 1) := by
  unfold sh7
  rw [Nat.pow_succ]
  have : x * 128 ^ i ≤ 127 * 128 ^ i := Nat.mul_le_mul_right _ (by omega)
  omega
theorem pow_le9 {i : Nat} (h : i ≤ 9) : 128 ^ i ≤ 9223372036854775808 := by
  have : 128 ^ i ≤ 128 ^ 9 := Nat.pow_le_pow_right (by omega) h
  omega
theorem orU7 (i u x : Nat) (hu : u < 128 ^ i) : u ||| sh7 i x = u + sh7 i x := by
  unfold sh7
  rw [pow7] at *
  rw [Nat.mul_comm x, Nat.or_comm, ← Nat.two_pow_add_eq_or_of_lt hu, Nat.add_comm]
theorem wrapSh {s : ByteArray} {j i : Nat} (h : j < s.size) (hi : i ≤ 9) (h9 : i = 9 → bNu s j ≤ 1) :
    IntKind.u64.wrap ((s[j].toNat : Int) % 128 * 2 ^ (7 * i)) = ((sh7 i (bNu s j % 128) : Nat) : Int) := by
  have hb := bU_eq s j h
  have e : ((s[j].toNat : Int) % 128 * 2 ^ (7 * i)) = ((sh7 i (bNu s j % 128) : Nat) : Int) := by
    unfold sh7
    rw [pow7, hb]
    simp
  rw [e, IntKind.wrap_u64]
  have h1 : sh7 i (bNu s j % 128) ≤ 9223372036854775808 := by
    by_cases h' : i = 9
    · have hx : bNu s j % 128 ≤ 1 := by have := h9 h'; omega
      unfold sh7
      have := Nat.mul_le_mul hx (pow_le9 hi)
      omega
    · have hu : 0 < 128 ^ i := Nat.pow_pos (by omega)
      have := sh7_bound (i := i) (u := 0) (x := bNu s j % 128) hu (by omega)
      have h2 := pow_le9 (i := i + 1) (by omega)
      omega
  omega
theorem wrapSum {i u x : Nat} (hu : u < 128 ^ i) (hi : i ≤ 9) (hx : x ≤ 9223372036854775808) : IntKind.u64.wrap ((u : Int) + (x : Int)) = ((u + x : Nat) : Int) ∧ u + x ≤ 18446744073709551615 := by
  have := pow_le9 hi
  rw [IntKind.wrap_u64]
  omega
theorem sh7_le {s : ByteArray} {j i : Nat} (hi : i ≤ 9) (h9 : i = 9 → bNu s j ≤ 1) : sh7 i (bNu s j % 128) ≤ 9223372036854775808 := by
  by_cases h' : i = 9
  · have hx : bNu s j % 128 ≤ 1 := by have := h9 h'; omega
    unfold sh7
    have := Nat.mul_le_mul hx (pow_le9 hi)
    omega
  · have hu : 0 < 128 ^ i := Nat.pow_pos (by omega)
    have := sh7_bound (i := i) (u := 0) (x := bNu s j % 128) hu (by omega)
    have h2 := pow_le9 (i := i + 1) (by omega)
    omega
end Go.Proofs.YtjkmfjegphpjkaaGreatDoor
namespace Go.Proofs.YtjkmfjegphpjkaaGreatDoor
open Go.RowKit Go.Lib

/-- What readBits hands back, by what is to be read. -/
def BitsOk (R : NumR) (e : Ending) : Prop :=
  (∃ v : Nat, v ≤ 18446744073709551615 ∧ R.code = 0 ∧ R.n = unI v ∧ e = .returned (.tuple #[.int .u64 v, .int .i64 R.at', .nilIface])) ∨
  (R.code ≠ 0 ∧ R = .bad R.code ∧ e = .returned (.tuple #[.int .u64 0, .int .i64 0, .iface 103 (.agg #[.int .i64 R.code])]))
theorem BitsOk.bad {R : NumR} {e : Ending} {c : Int} (h : R = .bad c) (hc : c ≠ 0) (he : e = .returned (.tuple #[.int .u64 0, .int .i64 0, .iface 103 (.agg #[.int .i64 c])])) : BitsOk R e := by
  subst h
  exact .inr ⟨hc, rfl, he⟩
theorem BitsOk.good {R : NumR} {e : Ending} {v n : Nat} (hv : v ≤ 18446744073709551615) (h : R = ⟨unI v, n, 0⟩) (he : e = .returned (.tuple #[.int .u64 v, .int .i64 n, .nilIface])) : BitsOk R e := by
  subst h
  exact .inl ⟨v, hv, rfl, rfl, he⟩
theorem orWrap {i u x v : Nat} (hu : u < 128 ^ i) (hi : i ≤ 9) (hx : x ≤ 9223372036854775808) (e : ∃ y, x = sh7 i y) (hv : v = u + x) : bits BinOp.or IntKind.u64 (u : Int) (x : Int) = (v : Int) := by
  obtain ⟨y, rfl⟩ := e
  have := pow_le9 hi
  rw [u64_or_nat _ _ (by omega) (by omega), orU7 i u y hu, hv]
theorem andU127 {c : Int} (h0 : 0 ≤ c) (h1 : c ≤ 255) : IntKind.u64.wrap (bits BinOp.and IntKind.u8 c 127) = c % 128 := by
  have e := bits_mask .u8 8 (by decide) wraps_u8 7 (by decide) c h0 (by omega)
  have e2 : (2 : Int) ^ 7 - 1 = 127 := by decide
  have e3 : (2 : Int) ^ 7 = 128 := by decide
  rw [e2, e3] at e
  rw [e, IntKind.wrap_u64]
  omega
theorem orZero (x : Nat) (h : x < 256) : bits BinOp.or IntKind.u64 0 ((x : Nat) : Int) = ((x : Nat) : Int) := by
  have := u64_or_nat 0 x (by omega) (by omega)
  simpa using this
def bitsJ (s : ByteArray) (p : Nat) (w : World) (R : NumR) (l : Nat) (a' : Act) (w' : World) : Prop :=
  w' = w ∧ ((l = 0 ∧ ∃ (i u : Nat) (bv u12 u13 u14 u15 u16 u17 u18 u19 u20 u21 u22 u23 u24 u25 u26 u27 u28 u29 u30 u31 u32 u33 u34 u35 u36 u37 u38 u39 u40 u41 u42 u43 u44 u45 u46 u47 : Value), a' = { tmps := #[.string s, .int .i64 (p : Int), undef, undef, .int .u64 0, .int .i64 0, .nilIface, .int .u64 ((u : Int)), bv, .int .u64 (7 * (i : Int)), .int .i64 ((p : Int) + (i : Int)), .int .i64 (p : Int), u12, u13, u14, u15, u16, u17, u18, u19, u20, u21, u22, u23, u24, u25, u26, u27, u28, u29, u30, u31, u32, u33, u34, u35, u36, u37, u38, u39, u40, u41, u42, u43, u44, u45, u46, u47, undef, undef], defers := [] } ∧ 1 ≤ i ∧ i ≤ 9 ∧ u < 128 ^ i ∧ getR s p (10 - i) i u = R) ∨
    (l = 1 ∧ ∃ (x7 x8 x9 x10 : Value) (u12 u13 u14 u15 u16 u17 u18 u19 u20 u21 u22 u23 u24 u25 u26 u27 u28 u29 u30 u31 u32 u33 u34 u35 u36 u37 u38 u39 u40 u41 u42 u43 u44 u45 u46 u47 : Value), a' = { tmps := #[.string s, .int .i64 (p : Int), undef, undef, .int .u64 0, .int .i64 0, .nilIface, x7, x8, x9, x10, .int .i64 (p : Int), u12, u13, u14, u15, u16, u17, u18, u19, u20, u21, u22, u23, u24, u25, u26, u27, u28, u29, u30, u31, u32, u33, u34, u35, u36, u37, u38, u39, u40, u41, u42, u43, u44, u45, u46, u47, undef, undef], defers := [] } ∧ R = .bad 3) ∨
    (l = 2 ∧ ∃ (i v c : Nat) (u12 u13 u14 u15 u16 u17 u18 u19 u20 u21 u22 u23 u24 u25 u26 u27 u28 u29 u30 u31 u32 u33 u34 u35 u36 u37 u38 u39 u40 u41 u42 u43 u44 u45 u46 u47 : Value), a' = { tmps := #[.string s, .int .i64 (p : Int), undef, undef, .int .u64 0, .int .i64 0, .nilIface, .int .u64 ((v : Int)), .int .u8 (c : Int), .int .u64 (7 * (i : Int)), .int .i64 ((p : Int) + (i : Int) + 1), .int .i64 (p : Int), u12, u13, u14, u15, u16, u17, u18, u19, u20, u21, u22, u23, u24, u25, u26, u27, u28, u29, u30, u31, u32, u33, u34, u35, u36, u37, u38, u39, u40, u41, u42, u43, u44, u45, u46, u47, undef, undef], defers := [] } ∧ i ≤ 9 ∧ p + i < s.size ∧ c < 128 ∧ v ≤ 18446744073709551615 ∧ (c = 0 ∧ 0 < i → R = .bad 3) ∧ (¬ (c = 0 ∧ 0 < i) → R = ⟨unI v, (p + i + 1 : Nat), 0⟩)))
def bitsM (l : Nat) (a' : Act) (_ : World) : Nat := if l = 0 then 1000 - (RowKit.intOf (a'.tmps.getD 9 undef)).toNat else l
set_option maxHeartbeats 4000000 in
set_option maxRecDepth 100000 in
theorem readBits (s : ByteArray) (p : Nat) (w : World) (hs : s.size ≤ 20000) (hp : (p : Int) ≤ 9223372036854775807) :
    Calls Tryz.prog 107 #[.string s, .int .i64 (p : Int)] w fun e w' => BitsOk (getR s p 10 0 0) e ∧ w' = w := by
  obtain ⟨R, hR⟩ : ∃ R, R = getR s p 10 0 0 := ⟨_, rfl⟩
  rw [← hR]
  have H0 : Hid (getR s p 10 0 0 = R) := hR.symm
  clear hR
  go_enter Tryz.func107, Tryz.ntmps107
  go_wp2
  refine wp_scope_many (bitsJ s p w R) bitsM ?_ ?_ ?_
  · rintro l a' w' ⟨rfl, ⟨rfl, _⟩ | ⟨rfl, _⟩ | ⟨rfl, _⟩⟩
    · exact ⟨_, rfl⟩
    · exact ⟨_, rfl⟩
    · exact ⟨_, rfl⟩
  · by_cases hsh : s.size ≤ p
    · have hfin : Hid (R = .bad 4) := by rw [← H0.out]; exact getR_short (by omega)
      clear H0
      go_wp2
      go_step3
      go_wp2
      simp only [jumpM]
      go_ret3
      exact ⟨BitsOk.bad hfin.out (by decide) rfl, rfl⟩
    have hlt : p + 0 < s.size := by omega
    have hlt' : p < s.size := by omega
    have HB : Hid (bNu s (p + 0) = s[p].toNat) := bU_eq s (p + 0) hlt
    have hbl : (s[p].toNat : Int) ≤ 255 := by have := bU_lt s (p + 0); rw [HB.out] at this; omega
    have hand := andU127 (c := (s[p].toNat : Int)) (by omega) hbl
    have ec : ((s[p].toNat % 128 : Nat) : Int) = (s[p].toNat : Int) % 128 := by omega
    have hor := orZero (s[p].toNat % 128) (by omega)
    rw [ec] at hor
    have EC : Hid (((s[p].toNat % 128 : Nat) : Int) = (s[p].toNat : Int) % 128) := ec
    clear ec
    have HV : Hid (s[p].toNat % 128 = 0 + sh7 0 (bNu s (p + 0) % 128)) := (by rw [HB.out]; simp [sh7] : s[p].toNat % 128 = 0 + sh7 0 (bNu s (p + 0) % 128))
    by_cases hc : 128 ≤ (s[p].toNat : Int)
    · have HN : Hid (getR s p 9 1 (s[p].toNat % 128) = R) := (by rw [← H0.out, getR_more hlt (by omega) (by rw [HB.out]; omega), ← HV.out] : getR s p 9 1 (s[p].toNat % 128) = R)
      clear H0
      go_wp2
      go_step3
      go_wp2
      go_step3
      refine ⟨rfl, .inl ⟨rfl, 1, s[p].toNat % 128, _, _, _, _, _, _, _, _, _, _, _, _, _, _, _, _, _, _, _, _, _, _, _, _, _, _, _, _, _, _, _, _, _, _, _, _, _, by rw [EC.out, show 7 * ((1 : Nat) : Int) = 7 from rfl, show (p : Int) + ((1 : Nat) : Int) = (p : Int) + 1 from rfl], by omega, by omega, by omega, HN.out⟩⟩
    have HZN : Hid (R = ⟨unI (s[p].toNat % 128), (p + 0 + 1 : Nat), 0⟩) := (by
      rw [← H0.out, getR_last hlt (by omega) (by rw [HB.out]; omega) (by omega), ← HV.out] : R = ⟨unI (s[p].toNat % 128), (p + 0 + 1 : Nat), 0⟩)
    clear H0
    go_wp2
    go_step3
    go_wp2
    go_step3
    refine ⟨rfl, .inr (.inr ⟨rfl, 0, s[p].toNat % 128, s[p].toNat, _, _, _, _, _, _, _, _, _, _, _, _, _, _, _, _, _, _, _, _, _, _, _, _, _, _, _, _, _, _, _, _, _, _, _, _, by rw [EC.out, show 7 * ((0 : Nat) : Int) = 0 from rfl, show (p : Int) + ((0 : Nat) : Int) + 1 = (p : Int) + 1 from by omega], by omega, hlt, by omega, by omega, fun h => by omega, fun _ => HZN.out⟩)⟩
  · rintro l r hr a' w' ⟨rfl, ⟨rfl, i, u, bv, u12, u13, u14, u15, u16, u17, u18, u19, u20, u21, u22, u23, u24, u25, u26, u27, u28, u29, u30, u31, u32, u33, u34, u35, u36, u37, u38, u39, u40, u41, u42, u43, u44, u45, u46, u47, rfl, hi1, hi9, hu, hg⟩ | ⟨rfl, x7, x8, x9, x10, u12, u13, u14, u15, u16, u17, u18, u19, u20, u21, u22, u23, u24, u25, u26, u27, u28, u29, u30, u31, u32, u33, u34, u35, u36, u37, u38, u39, u40, u41, u42, u43, u44, u45, u46, u47, rfl, hR⟩ | ⟨rfl, i, v, c, u12, u13, u14, u15, u16, u17, u18, u19, u20, u21, u22, u23, u24, u25, u26, u27, u28, u29, u30, u31, u32, u33, u34, u35, u36, u37, u38, u39, u40, u41, u42, u43, u44, u45, u46, u47, rfl, hi9, hlt, hc, hv, hz, hn⟩⟩
    · cases hr
      have HU : Hid (u < 128 ^ i) := hu
      obtain ⟨f, hf⟩ : ∃ f, 10 - i = f + 1 := ⟨9 - i, by omega⟩
      rw [hf] at hg
      have HF : Hid (10 - i = f + 1) := hf
      have HG : Hid (getR s p (f + 1) i u = R) := hg
      clear hu hg H0 hf
      by_cases hsh : s.size ≤ p + i
      · have hfin : Hid (R = .bad 4) := by rw [← HG.out]; exact getR_short hsh
        go_wp2
        simp only [jumpM]
        go_ret3
        exact ⟨BitsOk.bad hfin.out (by decide) rfl, rfl⟩
      have hlt : p + i < s.size := by omega
      have HB : Hid (bNu s (p + i) = s[p + i].toNat) := bU_eq s (p + i) hlt
      have hbl : (s[p + i].toNat : Int) ≤ 255 := by have := bU_lt s (p + i); rw [HB.out] at this; omega
      by_cases h9 : i = 9 ∧ 1 < s[p + i].toNat
      · obtain ⟨h9a, h9b⟩ := h9
        have hfin : Hid (R = .bad 3) := by
          rw [← HG.out]
          subst h9a
          exact getR_ninth hlt (by rw [HB.out]; exact h9b)
        have e9 : ((7 * (i : Int)) == 63) = true := by rw [beq_iff_eq]; omega
        have e9b : (1 : Int) < (s[p + i].toNat : Int) := by omega
        clear h9a
        go_wp2
        go_step3
        refine ⟨⟨rfl, .inr (.inl ⟨rfl, _, _, _, _, _, _, _, _, _, _, _, _, _, _, _, _, _, _, _, _, _, _, _, _, _, _, _, _, _, _, _, _, _, _, _, _, _, _, _, _, rfl, hfin.out⟩)⟩, ?_⟩
        simp [bitsM, RowKit.intOf]; omega
      have H9 : Hid (i = 9 → bNu s (p + i) ≤ 1) := fun e => by rw [HB.out]; omega
      have hw1 := wrapSh hlt (by omega) H9.out
      have hxl := sh7_le (s := s) (j := p + i) (by omega) H9.out
      obtain ⟨x, hx⟩ : ∃ x, x = sh7 i (bNu s (p + i) % 128) := ⟨_, rfl⟩
      rw [← hx] at hw1 hxl
      obtain ⟨hw2, hvl⟩ := wrapSum HU.out (by omega) hxl
      obtain ⟨v, hv⟩ : ∃ v, v = u + x := ⟨_, rfl⟩
      have hor := orWrap HU.out hi9 hxl ⟨_, hx⟩ hv
      rw [← hv] at hvl
      have HV : Hid (v = u + sh7 i (bNu s (p + i) % 128)) := (by rw [hv, hx] : v = u + sh7 i (bNu s (p + i) % 128))
      clear hx hv hxl hw2
      have hand := andU127 (c := (s[p + i].toNat : Int)) (by omega) hbl
      have h9c : ((7 * (i : Int)) == 63) = true ∧ (s[p + i].toNat : Int) ≤ 1 ∨ ((7 * (i : Int)) == 63) = false := by
        by_cases h : i = 9
        · left; exact ⟨by rw [beq_iff_eq]; omega, by omega⟩
        · right; rw [beq_eq_false_iff_ne]; omega
      have h9d : Hid (((7 * (i : Int)) == 63) = false → i < 9) := fun h => by rw [beq_eq_false_iff_ne] at h; omega
      clear h9
      by_cases hc : 128 ≤ (s[p + i].toNat : Int)
      · rcases h9c with ⟨e9, e1⟩ | e9
        · exfalso; omega
        have hi9 := h9d.out e9
        have HN : Hid (getR s p f (i + 1) v = R) := (by rw [← HG.out, getR_more hlt H9.out (by rw [HB.out]; omega), ← HV.out] : getR s p f (i + 1) v = R)
        have HVB : Hid (v < 128 ^ (i + 1)) := by rw [HV.out]; exact sh7_bound HU.out (by omega)
        have E7 : Hid (7 * ((i + 1 : Nat) : Int) = 7 * (i : Int) + 7) := (by omega : 7 * ((i + 1 : Nat) : Int) = 7 * (i : Int) + 7)
        have E8 : Hid ((p : Int) + ((i + 1 : Nat) : Int) = (p : Int) + (i : Int) + 1) := (by omega : (p : Int) + ((i + 1 : Nat) : Int) = (p : Int) + (i : Int) + 1)
        go_wp2
        go_step3
        refine ⟨⟨rfl, .inl ⟨rfl, i + 1, v, _, _, _, _, _, _, _, _, _, _, _, _, _, _, _, _, _, _, _, _, _, _, _, _, _, _, _, _, _, _, _, _, _, _, _, _, _, by rw [E7.out, E8.out], by omega, by omega, HVB.out, by rw [show 10 - (i + 1) = f from by have := HF.out; omega]; exact HN.out⟩⟩, ?_⟩
        simp [bitsM, RowKit.intOf]; omega
      have HZ : Hid (s[p + i].toNat = 0 ∧ 0 < i → R = .bad 3) := fun hz => by
        rw [← HG.out]
        exact getR_zero hlt (by rw [HB.out]; exact hz.1) hz.2
      have HN : Hid (¬ (s[p + i].toNat = 0 ∧ 0 < i) → R = ⟨unI v, (p + i + 1 : Nat), 0⟩) := fun hz => by
        rw [← HG.out, getR_last hlt H9.out (by rw [HB.out]; omega) (by rw [HB.out]; exact hz), ← HV.out]
      rcases h9c with ⟨e9, e1⟩ | e9
      all_goals
        go_wp2
        go_step3
        refine ⟨⟨rfl, .inr (.inr ⟨rfl, i, v, s[p + i].toNat, _, _, _, _, _, _, _, _, _, _, _, _, _, _, _, _, _, _, _, _, _, _, _, _, _, _, _, _, _, _, _, _, _, _, _, _, rfl, by omega, hlt, by omega, hvl, HZ.out, HN.out⟩)⟩, ?_⟩
        simp [bitsM, RowKit.intOf]; omega
    · cases hr
      have HR : Hid (R = .bad 3) := hR
      clear hR H0
      go_wp2
      simp only [jumpM]
      go_ret3
      exact ⟨BitsOk.bad HR.out (by decide) rfl, rfl⟩
    · cases hr
      have HZ : Hid (c = 0 ∧ 0 < i → R = .bad 3) := hz
      have HN : Hid (¬ (c = 0 ∧ 0 < i) → R = ⟨unI v, (p + i + 1 : Nat), 0⟩) := hn
      clear hz hn H0
      by_cases h0 : c = 0
      · have e0 : ((c : Int) == 0) = true := by rw [beq_iff_eq]; omega
        by_cases hi0 : 0 < i
        · have ei : (0 : Int) < 7 * (i : Int) := by omega
          have hfin : Hid (R = .bad 3) := HZ.out ⟨h0, hi0⟩
          clear h0
          go_wp2
          go_step3
          refine ⟨⟨rfl, .inr (.inl ⟨rfl, _, _, _, _, _, _, _, _, _, _, _, _, _, _, _, _, _, _, _, _, _, _, _, _, _, _, _, _, _, _, _, _, _, _, _, _, _, _, _, _, rfl, hfin.out⟩)⟩, ?_⟩
          simp [bitsM]
        · have ei : 7 * (i : Int) ≤ 0 := by omega
          have hfin : Hid (R = ⟨unI v, (p + i + 1 : Nat), 0⟩) := HN.out (by omega)
          clear h0
          go_wp2
          simp only [jumpM]
          go_ret3
          exact ⟨BitsOk.good hv hfin.out rfl, rfl⟩
      · have e0 : ((c : Int) == 0) = false := by rw [beq_eq_false_iff_ne]; omega
        have hfin : Hid (R = ⟨unI v, (p + i + 1 : Nat), 0⟩) := HN.out (by omega)
        clear h0
        go_wp2
        simp only [jumpM]
        go_ret3
        exact ⟨BitsOk.good hv hfin.out rfl, rfl⟩
end Go.Proofs.YtjkmfjegphpjkaaGreatDoor
namespace Go.Proofs.YtjkmfjegphpjkaaGreatDoor
open Go.RowKit Go.Lib

theorem xorAll (a : Nat) (h : a < 18446744073709551616) : a ^^^ 18446744073709551615 = 18446744073709551615 - a := by
  have e := congrArg BitVec.toNat (BitVec.xor_allOnes (x := BitVec.ofNat 64 a))
  simp only [BitVec.toNat_xor, BitVec.toNat_ofNat, BitVec.toNat_allOnes, BitVec.toNat_not] at e
  rw [Nat.mod_eq_of_lt (by omega)] at e
  simpa using e
theorem xor_zero64 (a : Nat) (h : a ≤ 9223372036854775807) : bits BinOp.xor IntKind.i64 (a : Int) 0 = (a : Int) := by
  have h1 : (BitVec.ofInt 64 (a : Int)).toNat = a := by
    rw [BitVec.ofInt_natCast, BitVec.toNat_ofNat]; exact Nat.mod_eq_of_lt (by omega)
  show IntKind.i64.wrap ((BitVec.ofInt 64 (a : Int) ^^^ BitVec.ofInt 64 0).toNat : Int) = _
  have h2 : (BitVec.ofInt 64 0).toNat = 0 := by decide
  rw [BitVec.toNat_xor, h1, h2, Nat.xor_zero, IntKind.wrap_i64]
  omega
theorem xor_ones64 (a : Nat) (h : a ≤ 9223372036854775807) : bits BinOp.xor IntKind.i64 (a : Int) (-1) = -(a : Int) - 1 := by
  have h1 : (BitVec.ofInt 64 (a : Int)).toNat = a := by
    rw [BitVec.ofInt_natCast, BitVec.toNat_ofNat]; exact Nat.mod_eq_of_lt (by omega)
  show IntKind.i64.wrap ((BitVec.ofInt 64 (a : Int) ^^^ BitVec.ofInt 64 (-1)).toNat : Int) = _
  have h2 : (BitVec.ofInt 64 (-1)).toNat = 18446744073709551615 := by decide
  rw [BitVec.toNat_xor, h1, h2, xorAll a (by omega), IntKind.wrap_i64]
  omega
theorem unfold_bits (u : Nat) (hu : u ≤ 18446744073709551615) : bits BinOp.xor IntKind.i64 ((u : Int) / 2) (wrap64 (-wrap64 (bits BinOp.and IntKind.u64 (u : Int) 1))) = unI u := by
  rw [and_one_u64 _ (by omega) (by omega)]
  have e2 : ((u : Int) / 2) = ((u / 2 : Nat) : Int) := by omega
  rw [e2]
  unfold unI
  by_cases h : u % 2 = 1
  · have e : wrap64 (-wrap64 ((u : Int) % 2)) = -1 := by simp only [wrap64]; omega
    rw [e, xor_ones64 _ (by omega), if_pos h]
  · have e : wrap64 (-wrap64 ((u : Int) % 2)) = 0 := by simp only [wrap64]; omega
    rw [e, xor_zero64 _ (by omega), if_neg h]
theorem unfoldSign (u : Nat) (w : World) (hu : u ≤ 18446744073709551615) :
    Calls Tryz.prog 108 #[.int .u64 (u : Int)] w fun e w' => e = .returned (.int .i64 (unI u)) ∧ w' = w := by
  have hu' : (u : Int) ≤ 18446744073709551615 := by omega
  go_enter Tryz.func108, Tryz.ntmps108
  go_wp2
  go_ret
  exact ⟨ret_int (unfold_bits u hu), rfl⟩
/-- What is read at a place: the code of a text that is too long, of a place below 0, or what the bytes say. -/
def numAt (s : ByteArray) (p : Int) : NumR := if 20000 < s.size then .bad 2 else if p < 0 then .bad 1 else getR s p.toNat 10 0 0
/-- What readNum hands back, by what is to be read. -/
def ReadOk (R : NumR) (e : Ending) : Prop :=
  (R.code = 0 ∧ e = .returned (.tuple #[.int .i64 R.n, .int .i64 R.at', .nilIface])) ∨
  (R.code ≠ 0 ∧ R = .bad R.code ∧ ∃ n, e = .returned (.tuple #[.int .i64 n, .int .i64 0, .iface 103 (.agg #[.int .i64 R.code])]))
set_option maxHeartbeats 1000000 in
theorem readNum (s : ByteArray) (p : Int) (w : World) (hs : s.size ≤ maxLen) (hp0 : -9223372036854775808 ≤ p) (hp1 : p ≤ 9223372036854775807) :
    Calls Tryz.prog 91 #[.string s, .int .i64 p] w fun e w' => ReadOk (numAt s p) e ∧ w' = w := by
  by_cases h1 : 20000 < s.size
  · have hfin : Hid (numAt s p = .bad 2) := by rw [numAt, if_pos h1]; rfl
    have hd : decide (20000 < s.size) = true := by simp; omega
    go_enter Tryz.func91, Tryz.ntmps91
    go_wp2_with fail
    refine (tooLong s _ hs).mono ?_
    rintro e w' ⟨rfl, rfl⟩
    go_wp2
    go_ret3
    rw [hfin.out]
    exact ⟨.inr ⟨by decide, rfl, 0, rfl⟩, rfl⟩
  have hd : decide (20000 < s.size) = false := by simp; omega
  by_cases h2 : p < 0
  · have hfin : Hid (numAt s p = .bad 1) := by rw [numAt, if_neg h1, if_pos h2]; rfl
    go_enter Tryz.func91, Tryz.ntmps91
    go_wp2_with fail
    refine (tooLong s _ hs).mono ?_
    rintro e w' ⟨rfl, rfl⟩
    go_wp2
    go_ret3
    rw [hfin.out]
    exact ⟨.inr ⟨by decide, rfl, 0, rfl⟩, rfl⟩
  obtain ⟨q, rfl⟩ := Int.eq_ofNat_of_zero_le (show 0 ≤ p by omega)
  have hfin : numAt s (q : Int) = getR s q 10 0 0 := by rw [numAt, if_neg h1, if_neg h2, Int.toNat_natCast]
  have hbits := fun W => readBits s q W (by omega) hp1
  rw [hfin]
  generalize getR s q 10 0 0 = R at *
  have HB : Hid (∀ W, Calls Tryz.prog 107 #[.string s, .int .i64 (q : Int)] W fun e w' => BitsOk R e ∧ w' = W) := hbits
  clear hbits hfin
  go_enter Tryz.func91, Tryz.ntmps91
  go_wp2_with fail
  refine (tooLong s _ hs).mono ?_
  rintro e w' ⟨rfl, rfl⟩
  go_wp2_with fail
  refine (HB.out _).mono ?_
  rintro e w' ⟨hb, rfl⟩
  rcases hb with ⟨v, hv, hc, hn, rfl⟩ | ⟨hc, hR, rfl⟩
  · have HC : Hid (R.code = 0) := hc
    have HN : Hid (R.n = unI v) := hn
    clear hc hn
    go_wp2_with fail
    refine (unfoldSign v _ hv).mono ?_
    rintro e w' ⟨rfl, rfl⟩
    go_wp2
    go_ret3
    exact ⟨.inl ⟨HC.out, by rw [HN.out]; rfl⟩, rfl⟩
  · have HC : Hid (R.code ≠ 0) := hc
    have HR : Hid (R = .bad R.code) := hR
    clear hc hR
    go_wp2_with fail
    refine (unfoldSign 0 _ (by omega)).mono ?_
    rintro e w' ⟨rfl, rfl⟩
    go_wp2
    go_ret3
    exact ⟨.inr ⟨HC.out, HR.out, _, rfl⟩, rfl⟩
end Go.Proofs.YtjkmfjegphpjkaaGreatDoor
namespace Go.Proofs.YtjkmfjegphpjkaaGreatDoor
open Go.RowKit Go.Lib

theorem getR_at (s : ByteArray) (p f i u : Nat) : (getR s p f i u).code = 0 → 0 < (getR s p f i u).at' ∧ (getR s p f i u).at' ≤ s.size := by
  induction f generalizing i u with
  | zero => intro h; simp [getR, NumR.bad] at h
  | succ f ih =>
    rw [getR]
    split
    · intro h; simp [NumR.bad] at h
    · split
      · intro h; simp [NumR.bad] at h
      · split
        · split
          · intro h; simp [NumR.bad] at h
          · intro _; simp only; omega
        · exact ih _ _
theorem numAt_at {s : ByteArray} {p : Int} (h : (numAt s p).code = 0) : s.size ≤ 20000 ∧ 0 < (numAt s p).at' ∧ (numAt s p).at' ≤ s.size := by
  unfold numAt at *
  split at h
  · simp [NumR.bad] at h
  · rename_i h1
    split at h
    · simp [NumR.bad] at h
    · rename_i h2
      rw [if_neg h1, if_neg h2]
      exact ⟨by omega, getR_at s _ _ _ _ h⟩
/-- What GetText answers, by what is read as the length. -/
def textR (s : ByteArray) (R : NumR) : Value :=
  if R.code ≠ 0 then outV ByteArray.empty 0 R.code else if R.n < 0 ∨ 20000 < R.n then outV ByteArray.empty 0 3
  else if (s.size : Int) - R.n < R.at' then outV ByteArray.empty 0 4 else outV (s.extract R.at'.toNat (R.at' + R.n).toNat) (R.at' + R.n) 0
end Go.Proofs.YtjkmfjegphpjkaaGreatDoor
namespace Go.Proofs.YtjkmfjegphpjkaaGreatDoor
open Go.RowKit Go.Lib

/-- Is it a tag? -/
def tagB (t : Int) : Bool := decide (0 ≤ t) && decide (t ≤ 255) && decide (t % 32 ≠ 31)
theorem tagB_iff {t : Int} : tagB t = true ↔ 0 ≤ t ∧ t ≤ 255 ∧ t % 32 ≠ 31 := by simp [tagB, and_assoc]
/-- A length's bytes. -/
def lenD (n : Nat) : List Int := if n < 128 then [(n : Int)] else if n < 256 then [129, (n : Int)] else [130, ((n / 256 : Nat) : Int), ((n % 256 : Nat) : Int)]
/-- A tag and a length. -/
def headD (t : Int) (n : Nat) : List Int := t :: lenD n
/-- The thing of a tag and a body. -/
def thingD (t : Int) (b : ByteArray) : ByteArray := strOfNums (headD t b.size) ++ b
def putD (t : Int) (b : ByteArray) : ByteArray := if tagB t = true ∧ b.size ≤ 4000 then thingD t b else ByteArray.empty
theorem lenD_le (n : Nat) : (lenD n).length ≤ 3 := by unfold lenD; split <;> (try split) <;> simp
theorem lenD_one (n : Nat) : 1 ≤ (lenD n).length := by unfold lenD; split <;> (try split) <;> simp
theorem thingD_size (t : Int) (b : ByteArray) : (thingD t b).size = 1 + (lenD b.size).length + b.size := by
  rw [thingD, ByteArray.size_append, strOfNums_size, headD, List.length_cons]; omega
theorem thingD_le (t : Int) (b : ByteArray) : (thingD t b).size ≤ b.size + 4 := by
  have := lenD_le b.size
  rw [thingD_size]; omega
theorem putD_right {t : Int} {b : ByteArray} (h : tagB t = true) (h1 : b.size ≤ 4000) : putD t b = thingD t b := if_pos ⟨h, h1⟩
theorem putD_long {t : Int} {b : ByteArray} (h1 : 4000 < b.size) : putD t b = ByteArray.empty := if_neg (fun h => by omega)
theorem putD_tag {t : Int} {b : ByteArray} (h : tagB t = false) : putD t b = ByteArray.empty := if_neg (fun h' => by rw [h] at h'; simp at h')
theorem putD_le (t : Int) (b : ByteArray) : (putD t b).size ≤ 4004 := by
  unfold putD
  split
  · rename_i h; have := thingD_le t b; omega
  · simp

/-- The byte at a place of a text. -/
def bN (s : ByteArray) (j : Nat) : Nat := (s.data.toList.getD j 0).toNat
theorem bN_lt (s : ByteArray) (j : Nat) : bN s j < 256 := (s.data.toList.getD j 0).toNat_lt
theorem bN_eq (s : ByteArray) (j : Nat) (h : j < s.size) : bN s j = s[j].toNat := by
  have h' : j < s.data.toList.length := by rw [← size_eq]; exact h
  simp [bN, List.getD, List.getElem?_eq_getElem h']
  rfl
/-- What DerGet tells. -/
structure GetR where
  tag : Int
  body : ByteArray
  at' : Int
  code : Int
def GetR.bad (c : Int) : GetR := ⟨0, ⟨#[]⟩, 0, c⟩
def bodyAt (s : ByteArray) (t n f : Nat) : GetR := if s.size < f + n then .bad 4 else ⟨(t : Int), s.extract f (f + n), ((f + n : Nat) : Int), 0⟩
/-- The thing at a place, of a text that is not too long. -/
def getAt (s : ByteArray) (k : Nat) : GetR :=
  if s.size ≤ k then .bad 4 else if tagB (bN s k : Int) = false then .bad 3 else if s.size ≤ k + 1 then .bad 4
  else if bN s (k + 1) < 128 then bodyAt s (bN s k) (bN s (k + 1)) (k + 2)
  else if bN s (k + 1) = 129 then
    if s.size ≤ k + 2 then .bad 4 else if bN s (k + 2) < 128 then .bad 3 else bodyAt s (bN s k) (bN s (k + 2)) (k + 3)
  else if bN s (k + 1) = 130 then
    if s.size ≤ k + 3 then .bad 4 else if 256 * bN s (k + 2) + bN s (k + 3) < 256 then .bad 3 else if 4000 < 256 * bN s (k + 2) + bN s (k + 3) then .bad 3
    else bodyAt s (bN s k) (256 * bN s (k + 2) + bN s (k + 3)) (k + 4)
  else .bad 3
def getD (s : ByteArray) (p : Int) : GetR := if 20000 < s.size then .bad 2 else if p < 0 then .bad 1 else getAt s p.toNat
def GetR.val (r : GetR) : Value := .agg #[.int .i64 r.tag, .string r.body, .int .i64 r.at', .int .i64 r.code]

theorem bodyAt_short {s : ByteArray} {t n f : Nat} (h : s.size < f + n) : bodyAt s t n f = .bad 4 := if_pos h
theorem bodyAt_ok {s : ByteArray} {t n f : Nat} (h : f + n ≤ s.size) : bodyAt s t n f = ⟨(t : Int), s.extract f (f + n), ((f + n : Nat) : Int), 0⟩ := if_neg (by omega)
section
variable {s : ByteArray} {k : Nat}
theorem getAt_end (h : s.size ≤ k) : getAt s k = .bad 4 := if_pos h
theorem getAt_tag (h : k < s.size) (ht : tagB (bN s k : Int) = false) : getAt s k = .bad 3 := by rw [getAt, if_neg (by omega), if_pos ht]
theorem getAt_one (h : s.size = k + 1) (ht : tagB (bN s k : Int) = true) : getAt s k = .bad 4 := by rw [getAt, if_neg (by omega), if_neg (by simp [ht]), if_pos (by omega)]
theorem getAt_low (h : k + 1 < s.size) (ht : tagB (bN s k : Int) = true) (h1 : bN s (k + 1) < 128) : getAt s k = bodyAt s (bN s k) (bN s (k + 1)) (k + 2) := by
  rw [getAt, if_neg (by omega), if_neg (by simp [ht]), if_neg (by omega), if_pos h1]
theorem getAt_many (h : k + 1 < s.size) (ht : tagB (bN s k : Int) = true) (h0 : 128 ≤ bN s (k + 1)) (h1 : bN s (k + 1) ≠ 129) (h2 : bN s (k + 1) ≠ 130) : getAt s k = .bad 3 := by
  rw [getAt, if_neg (by omega), if_neg (by simp [ht]), if_neg (by omega), if_neg (by omega), if_neg h1, if_neg h2]
theorem getAt_129 (h : k + 1 < s.size) (ht : tagB (bN s k : Int) = true) (h1 : bN s (k + 1) = 129) :
    getAt s k = if s.size ≤ k + 2 then .bad 4 else if bN s (k + 2) < 128 then .bad 3 else bodyAt s (bN s k) (bN s (k + 2)) (k + 3) := by
  rw [getAt, if_neg (by omega), if_neg (by simp [ht]), if_neg (by omega), if_neg (by omega), if_pos h1]
theorem getAt_130 (h : k + 1 < s.size) (ht : tagB (bN s k : Int) = true) (h1 : bN s (k + 1) = 130) :
    getAt s k = if s.size ≤ k + 3 then .bad 4 else if 256 * bN s (k + 2) + bN s (k + 3) < 256 then .bad 3 else if 4000 < 256 * bN s (k + 2) + bN s (k + 3) then .bad 3
      else bodyAt s (bN s k) (256 * bN s (k + 2) + bN s (k + 3)) (k + 4) := by
  rw [getAt, if_neg (by omega), if_neg (by simp [ht]), if_neg (by omega), if_neg (by omega), if_neg (by omega), if_pos h1]
end
theorem bodyAt_at {s : ByteArray} {t n f : Nat} (h : (bodyAt s t n f).code = 0) : f ≤ (bodyAt s t n f).at'.toNat ∧ (bodyAt s t n f).at'.toNat ≤ s.size ∧ 0 ≤ (bodyAt s t n f).at' := by
  unfold bodyAt at *
  split at h
  · simp [GetR.bad] at h
  · rename_i h1
    rw [if_neg h1]
    exact ⟨by simp; omega, by simp; omega, by simp; omega⟩
theorem getAt_cases (s : ByteArray) (k : Nat) : (∃ c, c ≠ 0 ∧ getAt s k = .bad c) ∨ ∃ n f, k + 2 ≤ f ∧ n ≤ 4000 ∧ getAt s k = bodyAt s (bN s k) n f ∧ tagB (bN s k : Int) = true := by
  have h2 := bN_lt s (k + 2)
  unfold getAt
  repeat' split
  all_goals first
    | exact .inl ⟨_, by decide, rfl⟩
    | exact .inr ⟨_, _, by omega, by omega, rfl, by simp_all⟩
/-- Where a thing is got, the place goes on, and stays in the text. -/
theorem getAt_at {s : ByteArray} {k : Nat} (h : (getAt s k).code = 0) : k + 2 ≤ (getAt s k).at'.toNat ∧ (getAt s k).at'.toNat ≤ s.size ∧ 0 ≤ (getAt s k).at' := by
  rcases getAt_cases s k with ⟨c, hc, e⟩ | ⟨n, f, hf, _, e, _⟩
  · rw [e] at h; exact absurd h hc
  · rw [e] at h ⊢
    have := bodyAt_at h
    omega
end Go.Proofs.YtjkmfjegphpjkaaGreatDoor
namespace Go.Proofs.YtjkmfjegphpjkaaGreatDoor
open Go.RowKit

/-- A number's bytes, the highest first; f + 1 at most. -/
def intF : Nat → Int → List Int
  | 0, n => [n % 256]
  | f + 1, n => if -128 ≤ n ∧ n < 128 then [n % 256] else intF f (n / 256) ++ [n % 256]
def intL (n : Int) : List Int := intF 7 n
def lim : Nat → Int
  | 0 => 128
  | f + 1 => 256 * lim f
theorem lim7 : lim 7 = 9223372036854775808 := by decide
def Fits (f : Nat) (m : Int) : Prop := -(lim f) ≤ m ∧ m < lim f
theorem intF_last {f : Nat} {m : Int} (h0 : -128 ≤ m) (h1 : m < 128) : intF f m = [m % 256] := by
  cases f with
  | zero => rfl
  | succ f => rw [intF, if_pos ⟨h0, h1⟩]
theorem intF_more {f : Nat} {m : Int} (h : ¬(-128 ≤ m ∧ m < 128)) (hf : Fits f m) : ∃ g, f = g + 1 ∧ Fits g (m / 256) ∧ intF f m = intF g (m / 256) ++ [m % 256] := by
  cases f with
  | zero => unfold Fits lim at hf; omega
  | succ g =>
    refine ⟨g, rfl, ?_, by rw [intF, if_neg h]⟩
    unfold Fits at *
    simp only [lim] at hf
    omega
theorem intF_len : ∀ (f : Nat) (m : Int), 1 ≤ (intF f m).length ∧ (intF f m).length ≤ f + 1
  | 0, _ => by simp [intF]
  | f + 1, m => by
    rw [intF]
    split
    · simp
    · have := intF_len f (m / 256)
      simp; omega
theorem intL_len (n : Int) : 1 ≤ (intL n).length ∧ (intL n).length ≤ 8 := intF_len 7 n
theorem intF_byte : ∀ (f : Nat) (m : Int) (x : Int), x ∈ intF f m → 0 ≤ x ∧ x < 256
  | 0, m, x, h => by simp [intF] at h; omega
  | f + 1, m, x, h => by
    rw [intF] at h
    split at h
    · simp at h; omega
    · rcases List.mem_append.1 h with h | h
      · exact intF_byte f _ x h
      · simp at h; omega
/-- A number without its sign. -/
def bareN (n : Int) : Nat := if n < 0 then (-n - 1).toNat else n.toNat
theorem bareN_div (n : Int) : bareN (n / 256) = bareN n / 256 := by
  unfold bareN
  split <;> split <;> omega
theorem bareN_low (n : Int) : bareN n < 128 ↔ -128 ≤ n ∧ n < 128 := by unfold bareN; split <;> omega
theorem bitLen_byte {x : Nat} (h : 128 ≤ x) (hx : x < 18446744073709551616) : Lib.bitLen x = 8 + Lib.bitLen (x / 256) := by
  by_cases h2 : 256 ≤ x
  · exact Lib.bitLen_shift8 x h2 hx
  · have e : x / 256 = 0 := by omega
    have e0 : Lib.bitLen 0 = 0 := by decide
    have g := Lib.bitLen_shift 7 x (by omega) (by omega)
    have e1 : x / 2 ^ 7 = 1 := by omega
    have e2 : Lib.bitLen 1 = 1 := by decide
    rw [e1, e2] at g
    rw [e, e0]; omega
theorem intF_bits : ∀ (f : Nat) (m : Int), Fits f m → bareN m < 18446744073709551616 → (intF f m).length = Lib.bitLen (bareN m) / 8 + 1
  | 0, m, h, _ => by
    have h2 : bareN m < 128 := (bareN_low m).2 (by unfold Fits lim at h; omega)
    have := Lib.bitLen_le (bareN m) 7 (by omega) (by omega)
    simp [intF]; omega
  | f + 1, m, h, hb => by
    by_cases c : -128 ≤ m ∧ m < 128
    · rw [intF, if_pos c]
      have h2 : bareN m < 128 := (bareN_low m).2 c
      have := Lib.bitLen_le (bareN m) 7 (by omega) (by omega)
      simp; omega
    · obtain ⟨g, e, hg, ee⟩ := intF_more c h
      obtain rfl : f = g := by omega
      have h2 : 128 ≤ bareN m := by rcases Nat.lt_or_ge (bareN m) 128 with h' | h'
                                    · exact absurd ((bareN_low m).1 h') c
                                    · exact h'
      rw [ee, List.length_append, intF_bits f (m / 256) hg (by rw [bareN_div]; omega), bareN_div, bitLen_byte h2 hb, List.length_singleton]
      omega
theorem fits7 {n : Int} (h0 : -9223372036854775808 ≤ n) (h1 : n ≤ 9223372036854775807) : Fits 7 n := by
  unfold Fits; rw [lim7]; omega
theorem intL_bits {n : Int} (h0 : -9223372036854775808 ≤ n) (h1 : n ≤ 9223372036854775807) : (intL n).length = Lib.bitLen (bareN n) / 8 + 1 :=
  intF_bits 7 n (fits7 h0 h1) (by unfold bareN; split <;> omega)
/-- The byte of weight 256 ^ i. -/
theorem intF_at : ∀ (f : Nat) (m : Int) (i : Nat), i < (intF f m).length → (intF f m).getD ((intF f m).length - 1 - i) 0 = m / 256 ^ i % 256
  | 0, m, i, h => by
    simp [intF] at h; subst h; simp [intF]
  | f + 1, m, i, h => by
    rw [intF] at h ⊢
    split at h
    · rename_i c
      rw [if_pos c]
      simp at h; subst h; simp
    · rename_i c
      rw [if_neg c]
      simp only [List.length_append, List.length_singleton] at h ⊢
      cases i with
      | zero => simp [List.getD]
      | succ i =>
        have ih := intF_at f (m / 256) i (by omega)
        rw [List.getD, List.getElem?_append_left (by omega)]
        rw [List.getD] at ih
        rw [show (intF f (m / 256)).length + 1 - 1 - (i + 1) = (intF f (m / 256)).length - 1 - i from by omega, ih, Int.ediv_ediv_of_nonneg (by omega)]
        congr 2
        rw [Int.pow_succ]; exact Int.mul_comm _ _
theorem intL_at {n : Int} {i : Nat} (h : i < (intL n).length) : (intL n).getD ((intL n).length - 1 - i) 0 = n / 256 ^ i % 256 := intF_at 7 n i h
end Go.Proofs.YtjkmfjegphpjkaaGreatDoor
namespace Go.Proofs.YtjkmfjegphpjkaaGreatDoor
open Go.RowKit

/-- The number of a text's first k bytes in two's complement. -/
def sv (s : ByteArray) : Nat → Int
  | 0 => if 128 ≤ bN s 0 then -1 else 0
  | k + 1 => sv s k * 256 + (bN s k : Int)
theorem sv_zero (s : ByteArray) : -1 ≤ sv s 0 ∧ sv s 0 ≤ 0 := by unfold sv; split <;> omega
theorem sv_fits (s : ByteArray) : ∀ k, Fits k (sv s (k + 1))
  | 0 => by
    have h := bN_lt s 0
    unfold Fits
    simp only [sv, lim]
    split <;> omega
  | k + 1 => by
    have h := bN_lt s (k + 1)
    have ih := sv_fits s k
    unfold Fits at *
    rw [sv]
    simp only [lim]
    omega
theorem lim_pos : ∀ m, 0 ≤ lim m
  | 0 => by decide
  | m + 1 => by have := lim_pos m; simp only [lim]; omega
theorem lim_le {a b : Nat} (h : a ≤ b) : lim a ≤ lim b := by
  obtain ⟨d, rfl⟩ := Nat.exists_eq_add_of_le h
  clear h
  induction d with
  | zero => exact Int.le_refl _
  | succ d ih => have := lim_pos (a + d); rw [← Nat.add_assoc]; simp only [lim]; omega
theorem sv_bd (s : ByteArray) {k : Nat} (hk : k ≤ 8) : -9223372036854775808 ≤ sv s k ∧ sv s k < 9223372036854775808 := by
  cases k with
  | zero => have := sv_zero s; omega
  | succ k =>
    have h := sv_fits s k
    have l := lim_le (show k ≤ 7 by omega)
    rw [lim7] at l
    unfold Fits at h
    omega
theorem sv_low (s : ByteArray) {k : Nat} (hk : k < 8) : -36028797018963968 ≤ sv s k ∧ sv s k < 36028797018963968 := by
  cases k with
  | zero => have := sv_zero s; omega
  | succ k =>
    have h := sv_fits s k
    have l := lim_le (show k ≤ 6 by omega)
    have e : lim 6 = 36028797018963968 := by decide
    unfold Fits at h
    omega
theorem or8 (v : Int) (b : Nat) (hb : b < 256) (h0 : -36028797018963968 ≤ v) (h1 : v < 36028797018963968) : bits BinOp.or IntKind.i64 (v * 256) (b : Int) = v * 256 + (b : Int) := by
  have e : bits BinOp.or IntKind.i64 (v * 256) (b : Int) = IntKind.i64.wrap ((BitVec.ofInt 64 (v * 256) ||| BitVec.ofInt 64 (b : Int)).toNat : Nat) := rfl
  rw [e, BitVec.toNat_or, BitVec.toNat_ofInt, BitVec.toNat_ofInt]
  have e1 : ((b : Int) % ((2 ^ 64 : Nat) : Int)).toNat = b := by omega
  rw [e1]
  obtain ⟨q, hq⟩ : ∃ q : Nat, (v * 256 % ((2 ^ 64 : Nat) : Int)).toNat = 2 ^ 8 * q := ⟨(v * 256 % ((2 ^ 64 : Nat) : Int)).toNat / 256, by omega⟩
  rw [hq, ← Nat.two_pow_add_eq_or_of_lt (by omega)]
  rw [IntKind.wrap_i64]
  omega
theorem same_text (a b : ByteArray) : (a.toList == b.toList) = decide (a = b) := by
  by_cases h : a = b
  · subst h; simp
  · rw [decide_eq_false h, beq_eq_false_iff_ne]
    intro h'
    rw [Lib.toList_data, Lib.toList_data] at h'
    exact h (ByteArray.ext (Array.toList_inj.1 h'))
/-- What DerIntRead answers: the number and the code. -/
def intR (s : ByteArray) : Int × Int :=
  if 20000 < s.size then (0, 2) else if s.size = 0 ∨ 8 < s.size then (0, 3) else if strOfNums (intL (sv s s.size)) = s then (sv s s.size, 0) else (0, 3)
theorem intR_long {s : ByteArray} (h : 20000 < s.size) : intR s = (0, 2) := if_pos h
theorem intR_size {s : ByteArray} (h : s.size ≤ 20000) (h1 : s.size = 0 ∨ 8 < s.size) : intR s = (0, 3) := by rw [intR, if_neg (by omega), if_pos h1]
theorem intR_good {s : ByteArray} (h0 : 0 < s.size) (h1 : s.size ≤ 8) (h : strOfNums (intL (sv s s.size)) = s) : intR s = (sv s s.size, 0) := by rw [intR, if_neg (by omega), if_neg (by omega), if_pos h]
theorem intR_bad {s : ByteArray} (h0 : 0 < s.size) (h1 : s.size ≤ 8) (h : strOfNums (intL (sv s s.size)) ≠ s) : intR s = (0, 3) := by rw [intR, if_neg (by omega), if_neg (by omega), if_neg h]
/-- A NumOut as a value. -/
def numT (n c : Int) : Value := .agg #[.int .i64 n, .int .i64 0, .int .i64 c]
end Go.Proofs.YtjkmfjegphpjkaaGreatDoor
