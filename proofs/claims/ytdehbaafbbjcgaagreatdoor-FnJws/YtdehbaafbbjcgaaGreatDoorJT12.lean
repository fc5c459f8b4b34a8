/- A text cut at each dot. Plain mathematics. Texts compared; what l09Read tells. Plain. Plain mathematics of reading a number; laws for three labels in one scope. No program is named. -/
import Derived.Test.YtdehbaafbbjcgaaGreatDoorJT11
import Derived.Lib.SplitLaws
import Derived.Lib.IndexBytes
import Derived.Lib.IndexLaws
import Derived.WalkKit
import Derived.WalkSpells
import Derived.WalkLawsBesides
import Derived.WalkMore
import Derived.ScopeJumps
import Derived.Below
import Derived.Lib.Strings
namespace Go.Proofs.YtdehbaafbbjcgaaGreatDoor
open Go.RowKit Go.Lib

def spl : List Nat → List Nat → List (List Nat)
  | [], acc => [acc]
  | x :: r, acc => if x = 46 then acc :: spl r [] else spl r (acc ++ [x])
theorem spl_no : ∀ (l r acc : List Nat), (∀ x ∈ l, x ≠ 46) → spl (l ++ r) acc = spl r (acc ++ l)
  | [], r, acc, _ => by simp
  | x :: l, r, acc, h => by
    rw [List.cons_append, spl, if_neg (h x (by simp)), spl_no l r _ fun y hy => h y (by simp [hy])]
    simp
theorem spl_end (l acc : List Nat) (h : ∀ x ∈ l, x ≠ 46) : spl l acc = [acc ++ l] := by
  have := spl_no l [] acc h
  rw [List.append_nil] at this
  rw [this]
  rfl
theorem spl_dot (l r acc : List Nat) (h : ∀ x ∈ l, x ≠ 46) : spl (l ++ 46 :: r) acc = (acc ++ l) :: spl r [] := by
  rw [spl_no l _ acc h, spl, if_pos rfl]
/-- The pieces of a text. -/
def pcs (s : ByteArray) : List ByteArray := (spl (bts s) []).map natT
theorem bts_app (a b : ByteArray) : bts (a ++ b) = bts a ++ bts b := by
  unfold bts
  rw [ByteArray.data_append, Array.toList_append, List.map_append]
theorem pcs_three {a b c : ByteArray} (ha : ∀ x ∈ bts a, x ≠ 46) (hb : ∀ x ∈ bts b, x ≠ 46) (hc : ∀ x ∈ bts c, x ≠ 46) : pcs (a ++ ⟨#[46]⟩ ++ b ++ ⟨#[46]⟩ ++ c) = [a, b, c] := by
  have e46 : bts (⟨#[46]⟩ : ByteArray) = [46] := rfl
  unfold pcs
  rw [bts_app, bts_app, bts_app, bts_app, e46, List.append_assoc, List.append_assoc, List.append_assoc, List.singleton_append, spl_dot _ _ _ ha, List.singleton_append, spl_dot _ _ _ hb, spl_end _ _ hc]
  simp [natT_bts]
theorem spl_len : ∀ (l acc : List Nat), (spl l acc).length ≤ l.length + 1
  | [], _ => Nat.le_refl _
  | x :: r, acc => by
    have h1 := spl_len r []
    have h2 := spl_len r (acc ++ [x])
    rw [spl]
    split
    · simp only [List.length_cons]; omega
    · simp only [List.length_cons]; omega
theorem pcs_len (s : ByteArray) : (pcs s).length ≤ s.size + 1 := by
  unfold pcs
  rw [List.length_map]
  have := spl_len (bts s) []
  rw [bts_len] at this
  exact this
theorem spl_sz : ∀ (l acc : List Nat) (n : Nat), acc.length + l.length ≤ n → ∀ p ∈ spl l acc, p.length ≤ n
  | [], acc, n, h, p, hp => by
    simp [spl] at hp
    subst hp
    simpa using h
  | x :: r, acc, n, h, p, hp => by
    rw [spl] at hp
    simp only [List.length_cons] at h
    split at hp
    · rcases List.mem_cons.1 hp with rfl | hp
      · omega
      · exact spl_sz r [] n (by simp; omega) p hp
    · exact spl_sz r (acc ++ [x]) n (by simp; omega) p hp
theorem pcs_size {s p : ByteArray} (h : p ∈ pcs s) : p.size ≤ s.size := by
  obtain ⟨l, hl, rfl⟩ := List.mem_map.1 h
  rw [natT_size]
  exact spl_sz (bts s) [] s.size (by simp [bts_len]) l hl
theorem natT_extract (s : ByteArray) (i j : Nat) : natT (((bts s).drop i).take (j - i)) = s.extract i j := by
  have e : bts (s.extract i j) = ((bts s).drop i).take (j - i) := by
    unfold bts
    rw [ByteArray.data_extract, Array.toList_extract, List.map_take, List.map_drop]
  rw [← e, natT_bts]
end Go.Proofs.YtdehbaafbbjcgaaGreatDoor
namespace Go.Proofs.YtdehbaafbbjcgaaGreatDoor
open Go.RowKit Go.Lib

theorem same_text' (a b : ByteArray) : (a.toList == b.toList) = decide (a = b) := by
  by_cases h : a = b
  · subst h; simp
  · rw [decide_eq_false h, beq_eq_false_iff_ne]
    intro h'
    rw [Lib.toList_data, Lib.toList_data] at h'
    exact h (ByteArray.ext (Array.toList_inj.1 h'))
/-- What l09Read tells. -/
def readLT (s : ByteArray) : ByteArray × Bool := match readV (bts s) with
  | none => (⟨#[]⟩, false)
  | some vs => (natT (rgi vs 0 0).1, decide ((rgi vs 0 0).1.length ≤ 4000 ∧ b64D (natT (rgi vs 0 0).1) = s))
end Go.Proofs.YtdehbaafbbjcgaaGreatDoor
namespace Go.Proofs.YtdehbaafbbjcgaaGreatDoor
open Go.RowKit Go.Lib

/-- As Q; by a goto to one of the labels: what J says of it. -/
def jumpM (J : Nat → Act → World → Prop) (Q : Exit → Act → World → Prop) : Exit → Act → World → Prop
  | .goto l, a, w => J l a w
  | e, a, w => Q e a w
/-- A scope with several labels: what holds at each jump, and one measure that every pass from a label lowers. -/
theorem wp_scope_many {P : Program} {a : Act} {w : World} {Q : Exit → Act → World → Prop} {c : Code} (J : Nat → Act → World → Prop) (μ : Nat → Act → World → Nat)
    (hsome : ∀ l a w, J l a w → ∃ r, findLabel c l = some r) (first : c.wp P (jumpM J Q) a w)
    (pass : ∀ l r, findLabel c l = some r → ∀ a w, J l a w → r.wp P (jumpM (fun l' a' w' => J l' a' w' ∧ μ l' a' w' < μ l a w) Q) a w) : (Code.scope c).wp P Q a w := by
  intro b k cs
  have key : ∀ n l r a w, findLabel c l = some r → μ l a w = n → J l a w → ∃ e a' w', Q e a' w' ∧ Arrives P (lone (b.at a (.code r :: .inScope c :: k)) cs w) b k cs e a' w' := by
    intro n
    induction n using Nat.strongRecOn with
    | _ n ih =>
      intro l r a w hr hn hJ
      obtain ⟨e, a₁, w₁, hq, harr⟩ := pass l r hr a w hJ b (.inScope c :: k) cs
      cases e with
      | normal => exact ⟨.normal, a₁, w₁, hq, Steps.trans harr (.one step_inScope)⟩
      | exit id => exact ⟨.exit id, a₁, w₁, hq, fun k' hk => harr k' (by simp [exitTo, hk])⟩
      | goto l' =>
        obtain ⟨hJ', hlt⟩ := hq
        obtain ⟨r', hr'⟩ := hsome l' a₁ w₁ hJ'
        obtain ⟨e₂, a₂, w₂, hq₂, harr₂⟩ := ih _ (by omega) l' r' a₁ w₁ hr' rfl hJ'
        exact ⟨e₂, a₂, w₂, hq₂, .of_steps (harr _ (by simp [gotoIn, hr'])) harr₂⟩
      | ret => exact ⟨_, a₁, w₁, hq, harr⟩
      | panic ch => exact ⟨_, a₁, w₁, hq, harr⟩
      | outgrown => exact ⟨_, a₁, w₁, hq, harr⟩
  obtain ⟨e, a₁, w₁, hq, harr⟩ := first b (.inScope c :: k) cs
  cases e with
  | normal => exact ⟨.normal, a₁, w₁, hq, .head step_scope (Steps.trans harr (.one step_inScope))⟩
  | exit id => exact ⟨.exit id, a₁, w₁, hq, fun k' hk => .head step_scope (harr k' (by simp [exitTo, hk]))⟩
  | goto l' =>
    obtain ⟨r', hr'⟩ := hsome l' a₁ w₁ hq
    obtain ⟨e₂, a₂, w₂, hq₂, harr₂⟩ := key _ l' r' a₁ w₁ hr' rfl hq
    exact ⟨e₂, a₂, w₂, hq₂, .of_steps (.head step_scope (harr _ (by simp [gotoIn, hr']))) harr₂⟩
  | ret => exact ⟨_, a₁, w₁, hq, .of_steps (.one step_scope) harr⟩
  | panic ch => exact ⟨_, a₁, w₁, hq, .of_steps (.one step_scope) harr⟩
  | outgrown => exact ⟨_, a₁, w₁, hq, .of_steps (.one step_scope) harr⟩

def bNu (s : ByteArray) (j : Nat) : Nat := (s.data.toList.getD j 0).toNat
theorem bU_eq (s : ByteArray) (j : Nat) (h : j < s.size) : bNu s j = s[j].toNat := by
  have h' : j < s.data.toList.length := by rw [← size_eq]; exact h
  simp [bNu, List.getD, List.getElem?_eq_getElem h']
  rfl
theorem bU_lt (s : ByteArray) (j : Nat) : bNu s j ≤ 255 := by
  have := (s.data.toList.getD j 0).toNat_lt
  unfold bNu; omega
/-- x with i groups of seven bits ahead of it. -/
def sh7 (i x : Nat) : Nat := x * 128 ^ i
def unI (u : Nat) : Int := if u % 2 = 1 then -((u / 2 : Nat) : Int) - 1 else ((u / 2 : Nat) : Int)
structure NumR where
  n : Int
  at' : Int
  code : Int
/-- A NumOut as a value. -/
def numV (r : NumR) : Value := .agg #[.int .i64 r.n, .int .i64 r.at', .int .i64 r.code]
def NumR.bad (c : Int) : NumR := ⟨0, 0, c⟩
/-- What is read from round i on, u being had. -/
def getR (s : ByteArray) (p : Nat) : Nat → Nat → Nat → NumR
  | 0, _, _ => .bad 3
  | f + 1, i, u => if s.size ≤ p + i then .bad 4 else if i = 9 ∧ 1 < bNu s (p + i) then .bad 3 else
      if bNu s (p + i) < 128 then (if bNu s (p + i) = 0 ∧ 0 < i then .bad 3 else ⟨unI (u + sh7 i (bNu s (p + i) % 128)), (p + i + 1 : Nat), 0⟩)
      else getR s p f (i + 1) (u + sh7 i (bNu s (p + i) % 128))
theorem getR_short {s : ByteArray} {p f i u : Nat} (h : s.size ≤ p + i) : getR s p (f + 1) i u = .bad 4 := by rw [getR, if_pos h]
theorem getR_ninth {s : ByteArray} {p f u : Nat} (h : p + 9 < s.size) (h1 : 1 < bNu s (p + 9)) : getR s p (f + 1) 9 u = .bad 3 := by
  rw [getR, if_neg (by omega), if_pos ⟨rfl, h1⟩]
theorem getR_zero {s : ByteArray} {p f i u : Nat} (h : p + i < s.size) (h1 : bNu s (p + i) = 0) (h2 : 0 < i) : getR s p (f + 1) i u = .bad 3 := by
  rw [getR, if_neg (by omega), if_neg (by omega), if_pos (by omega), if_pos ⟨h1, h2⟩]
theorem getR_last {s : ByteArray} {p f i u : Nat} (h : p + i < s.size) (h0 : i = 9 → bNu s (p + i) ≤ 1) (h1 : bNu s (p + i) < 128) (h2 : ¬ (bNu s (p + i) = 0 ∧ 0 < i)) :
    getR s p (f + 1) i u = ⟨unI (u + sh7 i (bNu s (p + i) % 128)), (p + i + 1 : Nat), 0⟩ := by
  rw [getR, if_neg (by omega), if_neg (by rintro ⟨a, b⟩; have := h0 a; omega), if_pos h1, if_neg h2]
theorem getR_more {s : ByteArray} {p f i u : Nat} (h : p + i < s.size) (h0 : i = 9 → bNu s (p + i) ≤ 1) (h1 : 128 ≤ bNu s (p + i)) :
    getR s p (f + 1) i u = getR s p f (i + 1) (u + sh7 i (bNu s (p + i) % 128)) := by
  rw [getR, if_neg (by omega), if_neg (by rintro ⟨a, b⟩; have := h0 a; omega), if_neg (by omega)]
theorem pow7 (i : Nat) : 128 ^ i = 2 ^ (7 * i) := by rw [Nat.pow_mul]
theorem sh7_bound {i u x : Nat} (hu : u < 128 ^ i) (hx : x < 128) : u + sh7 i x < 128 ^ (i + 1) := by
  unfold sh7
  rw [Nat.pow_succ]
  have : x * 128 ^ i ≤ 127 * 128 ^ i := Nat.mul_le_mul_right _ (by omega)
  omega
theorem pow_le9 {i : Nat} (h : i ≤ 9) : 128 ^ i ≤ 9223372036854775808 := by
  have : 128 ^ i ≤ 128 ^ 9 := Nat.pow_le_pow_right (by omega) h
  omega
theorem orU7 (i u x : Nat) (hu : u < 128 ^ i) : u ||| sh7 i x = u + sh7 i x := by
  unfold sh7
  rw [pow7] at *
  rw [Nat.mul_comm x, Nat.or_comm, ← Nat.two_pow_add_eq_or_of_lt hu, Nat.add_comm]
theorem wrapSh {s : ByteArray} {j i : Nat} (h : j < s.size) (hi : i ≤ 9) (h9 : i = 9 → bNu s j ≤ 1) :
    IntKind.u64.wrap ((s[j].toNat : Int) % 128 * 2 ^ (7 * i)) = ((sh7 i (bNu s j % 128) : Nat) : Int) := by
  have hb := bU_eq s j h
  have e : ((s[j].toNat : Int) % 128 * 2 ^ (7 * i)) = ((sh7 i (bNu s j % 128) : Nat) : Int) := by
    unfold sh7
    rw [pow7, hb]
    simp
  rw [e, IntKind.wrap_u64]
  have h1 : sh7 i (bNu s j % 128) ≤ 9223372036854775808 := by
    by_cases h' : i = 9
    · have hx : bNu s j % 128 ≤ 1 := by have := h9 h'; omega
      unfold sh7
      have := Nat.mul_le_mul hx (pow_le9 hi)
      omega
    · have hu : 0 < 128 ^ i := Nat.pow_pos (by omega)
      have := sh7_bound (i := i) (u := 0) (x := bNu s j % 128) hu (by omega)
      have h2 := pow_le9 (i := i + 1) (by omega)
      omega
  omega
theorem wrapSum {i u x : Nat} (hu : u < 128 ^ i) (hi : i ≤ 9) (hx : x ≤ 9223372036854775808) : IntKind.u64.wrap ((u : Int) + (x : Int)) = ((u + x : Nat) : Int) ∧ u + x ≤ 18446744073709551615 := by
  have := pow_le9 hi
  rw [IntKind.wrap_u64]
  omega
theorem sh7_le {s : ByteArray} {j i : Nat} (hi : i ≤ 9) (h9 : i = 9 → bNu s j ≤ 1) : sh7 i (bNu s j % 128) ≤ 9223372036854775808 := by
  by_cases h' : i = 9
  · have hx : bNu s j % 128 ≤ 1 := by have := h9 h'; omega
    unfold sh7
    have := Nat.mul_le_mul hx (pow_le9 hi)
    omega
  · have hu : 0 < 128 ^ i := Nat.pow_pos (by omega)
    have := sh7_bound (i := i) (u := 0) (x := bNu s j % 128) hu (by omega)
    have h2 := pow_le9 (i := i + 1) (by omega)
    omega
end Go.Proofs.YtdehbaafbbjcgaaGreatDoor
