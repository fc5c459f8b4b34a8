/- Plain mathematics of reading a number; laws for three labels in one scope. No program is named. -/
import Derived.WalkKit
import Derived.WalkSpells
import Derived.WalkLawsBesides
import Derived.WalkMore
import Derived.ScopeJumps
import Derived.Below
import Derived.Lib.Strings
namespace Go.Proofs.YtdckeokfcckemaaDoor
open Go.RowKit Go.Lib

/-- As Q; by a goto to one of the labels: what J says of it. -/
def jumpM (J : Nat → Act → World → Prop) (Q : Exit → Act → World → Prop) : Exit → Act → World → Prop
  | .goto l, a, w => J l a w
  | e, a, w => Q e a w
/-- A scope with several labels: what holds at each jump, and one measure that every pass from a label lowers. -/
theorem wp_scope_many {P : Program} {a : Act} {w : World} {Q : Exit → Act → World → Prop} {c : Code} (J : Nat → Act → World → Prop) (μ : Nat → Act → World → Nat)
    (hsome : ∀ l a w, J l a w → ∃ r, findLabel c l = some r) (first : c.wp P (jumpM J Q) a w)
    (pass : ∀ l r, findLabel c l = some r → ∀ a w, J l a w → r.wp P (jumpM (fun l' a' w' => J l' a' w' ∧ μ l' a' w' < μ l a w) Q) a w) : (Code.scope c).wp P Q a w := by
  intro b k cs
  have key : ∀ n l r a w, findLabel c l = some r → μ l a w = n → J l a w → ∃ e a' w', Q e a' w' ∧ Arrives P (lone (b.at a (.code r :: .inScope c :: k)) cs w) b k cs e a' w' := by
    intro n
    induction n using Nat.strongRecOn with
    | _ n ih =>
      intro l r a w hr hn hJ
      obtain ⟨e, a₁, w₁, hq, harr⟩ := pass l r hr a w hJ b (.inScope c :: k) cs
      cases e with
      | normal => exact ⟨.normal, a₁, w₁, hq, Steps.trans harr (.one step_inScope)⟩
      | exit id => exact ⟨.exit id, a₁, w₁, hq, fun k' hk => harr k' (by simp [exitTo, hk])⟩
      | goto l' =>
        obtain ⟨hJ', hlt⟩ := hq
        obtain ⟨r', hr'⟩ := hsome l' a₁ w₁ hJ'
        obtain ⟨e₂, a₂, w₂, hq₂, harr₂⟩ := ih _ (by omega) l' r' a₁ w₁ hr' rfl hJ'
        exact ⟨e₂, a₂, w₂, hq₂, .of_steps (harr _ (by simp [gotoIn, hr'])) harr₂⟩
      | ret => exact ⟨_, a₁, w₁, hq, harr⟩
      | panic ch => exact ⟨_, a₁, w₁, hq, harr⟩
      | outgrown => exact ⟨_, a₁, w₁, hq, harr⟩
  obtain ⟨e, a₁, w₁, hq, harr⟩ := first b (.inScope c :: k) cs
  cases e with
  | normal => exact ⟨.normal, a₁, w₁, hq, .head step_scope (Steps.trans harr (.one step_inScope))⟩
  | exit id => exact ⟨.exit id, a₁, w₁, hq, fun k' hk => .head step_scope (harr k' (by simp [exitTo, hk]))⟩
  | goto l' =>
    obtain ⟨r', hr'⟩ := hsome l' a₁ w₁ hq
    obtain ⟨e₂, a₂, w₂, hq₂, harr₂⟩ := key _ l' r' a₁ w₁ hr' rfl hq
    exact ⟨e₂, a₂, w₂, hq₂, .of_steps (.head step_scope (harr _ (by simp [gotoIn, hr']))) harr₂⟩
  | ret => exact ⟨_, a₁, w₁, hq, .of_steps (.one step_scope) harr⟩
  | panic ch => exact ⟨_, a₁, w₁, hq, .of_steps (.one step_scope) harr⟩
  | outgrown => exact ⟨_, a₁, w₁, hq, .of_steps (.one step_scope) harr⟩

def bN (s : ByteArray) (j : Nat) : Nat := (s.data.toList.getD j 0).toNat
theorem bN_eq (s : ByteArray) (j : Nat) (h : j < s.size) : bN s j = s[j].toNat := by
  have h' : j < s.data.toList.length := by rw [← size_eq]; exact h
  simp [bN, List.getD, List.getElem?_eq_getElem h']
  rfl
theorem bN_lt (s : ByteArray) (j : Nat) : bN s j ≤ 255 := by
  have := (s.data.toList.getD j 0).toNat_lt
  unfold bN; omega
/-- x with i groups of seven bits ahead of it. -/
def sh7 (i x : Nat) : Nat := x * 128 ^ i
def unI (u : Nat) : Int := if u % 2 = 1 then -((u / 2 : Nat) : Int) - 1 else ((u / 2 : Nat) : Int)
structure NumR where
  n : Int
  at' : Int
  code : Int
/-- A NumOut as a value. -/
def numV (r : NumR) : Value := .agg #[.int .i64 r.n, .int .i64 r.at', .int .i64 r.code]
def NumR.bad (c : Int) : NumR := ⟨0, 0, c⟩
/-- What is read from round i on, u being had. -/
def getR (s : ByteArray) (p : Nat) : Nat → Nat → Nat → NumR
  | 0, _, _ => .bad 3
  | f + 1, i, u => if s.size ≤ p + i then .bad 4 else if i = 9 ∧ 1 < bN s (p + i) then .bad 3 else
      if bN s (p + i) < 128 then (if bN s (p + i) = 0 ∧ 0 < i then .bad 3 else ⟨unI (u + sh7 i (bN s (p + i) % 128)), (p + i + 1 : Nat), 0⟩)
      else getR s p f (i + 1) (u + sh7 i (bN s (p + i) % 128))
theorem getR_short {s : ByteArray} {p f i u : Nat} (h : s.size ≤ p + i) : getR s p (f + 1) i u = .bad 4 := by rw [getR, if_pos h]
theorem getR_ninth {s : ByteArray} {p f u : Nat} (h : p + 9 < s.size) (h1 : 1 < bN s (p + 9)) : getR s p (f + 1) 9 u = .bad 3 := by
  rw [getR, if_neg (by omega), if_pos ⟨rfl, h1⟩]
theorem getR_zero {s : ByteArray} {p f i u : Nat} (h : p + i < s.size) (h1 : bN s (p + i) = 0) (h2 : 0 < i) : getR s p (f + 1) i u = .bad 3 := by
  rw [getR, if_neg (by omega), if_neg (by omega), if_pos (by omega), if_pos ⟨h1, h2⟩]
theorem getR_last {s : ByteArray} {p f i u : Nat} (h : p + i < s.size) (h0 : i = 9 → bN s (p + i) ≤ 1) (h1 : bN s (p + i) < 128) (h2 : ¬ (bN s (p + i) = 0 ∧ 0 < i)) :
    getR s p (f + 1) i u = ⟨unI (u + sh7 i (bN s (p + i) % 128)), (p + i + 1 : Nat), 0⟩ := by
  rw [getR, if_neg (by omega), if_neg (by rintro ⟨a, b⟩; have := h0 a; omega), if_pos h1, if_neg h2]
theorem getR_more {s : ByteArray} {p f i u : Nat} (h : p + i < s.size) (h0 : i = 9 → bN s (p + i) ≤ 1) (h1 : 128 ≤ bN s (p + i)) :
    getR s p (f + 1) i u = getR s p f (i + 1) (u + sh7 i (bN s (p + i) % 128)) := by
  rw [getR, if_neg (by omega), if_neg (by rintro ⟨a, b⟩; have := h0 a; omega), if_neg (by omega)]
theorem pow7 (i : Nat) : 128 ^ i = 2 ^ (7 * i) := by rw [Nat.pow_mul]
theorem sh7_bound {i u x : Nat} (hu : u < 128 ^ i) (hx : x < 128) : u + sh7 i x < 128 ^ (i + 1) := by
  unfold sh7
  rw [Nat.pow_succ]
  have : x * 128 ^ i ≤ 127 * 128 ^ i := Nat.mul_le_mul_right _ (by omega)
  omega
theorem pow_le9 {i : Nat} (h : i ≤ 9) : 128 ^ i ≤ 9223372036854775808 := by
  have : 128 ^ i ≤ 128 ^ 9 := Nat.pow_le_pow_right (by omega) h
  omega
theorem or7 (i u x : Nat) (hu : u < 128 ^ i) : u ||| sh7 i x = u + sh7 i x := by
  unfold sh7
  rw [pow7] at *
  rw [Nat.mul_comm x, Nat.or_comm, ← Nat.two_pow_add_eq_or_of_lt hu, Nat.add_comm]
theorem wrapSh {s : ByteArray} {j i : Nat} (h : j < s.size) (hi : i ≤ 9) (h9 : i = 9 → bN s j ≤ 1) :
    IntKind.u64.wrap ((s[j].toNat : Int) % 128 * 2 ^ (7 * i)) = ((sh7 i (bN s j % 128) : Nat) : Int) := by
  have hb := bN_eq s j h
  have e : ((s[j].toNat : Int) % 128 * 2 ^ (7 * i)) = ((sh7 i (bN s j % 128) : Nat) : Int) := by
    unfold sh7
    rw [pow7, hb]
    simp
  rw [e, IntKind.wrap_u64]
  have h1 : sh7 i (bN s j % 128) ≤ 9223372036854775808 := by
    by_cases h' : i = 9
    · have hx : bN s j % 128 ≤ 1 := by have := h9 h'; omega
      unfold sh7
      have := Nat.mul_le_mul hx (pow_le9 hi)
      omega
    · have hu : 0 < 128 ^ i := Nat.pow_pos (by omega)
      have := sh7_bound (i := i) (u := 0) (x := bN s j % 128) hu (by omega)
      have h2 := pow_le9 (i := i + 1) (by omega)
      omega
  omega
theorem wrapSum {i u x : Nat} (hu : u < 128 ^ i) (hi : i ≤ 9) (hx : x ≤ 9223372036854775808) : IntKind.u64.wrap ((u : Int) + (x : Int)) = ((u + x : Nat) : Int) ∧ u + x ≤ 18446744073709551615 := by
  have := pow_le9 hi
  rw [IntKind.wrap_u64]
  omega
theorem sh7_le {s : ByteArray} {j i : Nat} (hi : i ≤ 9) (h9 : i = 9 → bN s j ≤ 1) : sh7 i (bN s j % 128) ≤ 9223372036854775808 := by
  by_cases h' : i = 9
  · have hx : bN s j % 128 ≤ 1 := by have := h9 h'; omega
    unfold sh7
    have := Nat.mul_le_mul hx (pow_le9 hi)
    omega
  · have hu : 0 < 128 ^ i := Nat.pow_pos (by omega)
    have := sh7_bound (i := i) (u := 0) (x := bN s j % 128) hu (by omega)
    have h2 := pow_le9 (i := i + 1) (by omega)
    omega
end Go.Proofs.YtdckeokfcckemaaDoor
