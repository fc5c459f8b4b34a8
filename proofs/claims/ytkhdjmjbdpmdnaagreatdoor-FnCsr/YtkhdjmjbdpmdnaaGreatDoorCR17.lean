/- Plain mathematics of reading a number; laws for three labels in one scope. No program is named. Plain mathematics: a number, and a text, come back from their bytes; of bytes that end too early nothing is got. impl.readBits, walked: a scope with three labels. impl.tooLong, walked. impl.unfoldSign, impl.readNum, impl.GetNum, walked. What is read of rows of things: bodies within bodies, names, serials, numbers; and that it is what was written. Plain mathematics: no program is named here. Numbers that are read one behind the other. Plain mathematics: no program is named here. -/
import Derived.WalkKit
import Derived.WalkSpells
import Derived.WalkLawsBesides
import Derived.WalkMore
import Derived.ScopeJumps
import Derived.Below
import Derived.Lib.Strings
import Derived.Test.YtkhdjmjbdpmdnaaGreatDoorCR01
import Derived.Test.YtkhdjmjbdpmdnaaGreatDoorCR16
import Derived.Test.YtkhdjmjbdpmdnaaGreatDoorCR06
namespace Go.Proofs.YtkhdjmjbdpmdnaaGreatDoor
open Go.RowKit Go.Lib

/-- As Q; by a goto to one of the labels: what J says of it. -/
def jumpM (J : Nat → Act → World → Prop) (Q : Exit → Act → World → Prop) : Exit → Act → World → Prop
  | .goto l, a, w => J l a w
  | e, a, w => Q e a w
/-- A scope with several labels: what holds at each jump, and one measure that every pass from a label lowers. -/
theorem wp_scope_many {P : Program} {a : Act} {w : World} {Q : Exit → Act → World → Prop} {c : Code} (J : Nat → Act → World → Prop) (μ : Nat → Act → World → Nat)
    (hsome : ∀ l a w, J l a w → ∃ r, findLabel c l = some r) (first : c.wp P (jumpM J Q) a w)
    (pass : ∀ l r, findLabel c l = some r → ∀ a w, J l a w → r.wp P (jumpM (fun l' a' w' => J l' a' w' ∧ μ l' a' w' < μ l a w) Q) a w) : (Code.scope c).wp P Q a w := by
  intro b k cs
  have key : ∀ n l r a w, findLabel c l = some r → μ l a w = n → J l a w → ∃ e a' w', Q e a' w' ∧ Arrives P (lone (b.at a (.code r :: .inScope c :: k)) cs w) b k cs e a' w' := by
    intro n
    induction n using Nat.strongRecOn with
    | _ n ih =>
      intro l r a w hr hn hJ
      obtain ⟨e, a₁, w₁, hq, harr⟩ := pass l r hr a w hJ b (.inScope c :: k) cs
      cases e with
      | normal => exact ⟨.normal, a₁, w₁, hq, Steps.trans harr (.one step_inScope)⟩
      | exit id => exact ⟨.exit id, a₁, w₁, hq, fun k' hk => harr k' (by simp [exitTo, hk])⟩
      | goto l' =>
        obtain ⟨hJ', hlt⟩ := hq
        obtain ⟨r', hr'⟩ := hsome l' a₁ w₁ hJ'
        obtain ⟨e₂, a₂, w₂, hq₂, harr₂⟩ := ih _ (by omega) l' r' a₁ w₁ hr' rfl hJ'
        exact ⟨e₂, a₂, w₂, hq₂, .of_steps (harr _ (by simp [gotoIn, hr'])) harr₂⟩
      | ret => exact ⟨_, a₁, w₁, hq, harr⟩
      | panic ch => exact ⟨_, a₁, w₁, hq, harr⟩
      | outgrown => exact ⟨_, a₁, w₁, hq, harr⟩
  obtain ⟨e, a₁, w₁, hq, harr⟩ := first b (.inScope c :: k) cs
  cases e with
  | normal => exact ⟨.normal, a₁, w₁, hq, .head step_scope (Steps.trans harr (.one step_inScope))⟩
  | exit id => exact ⟨.exit id, a₁, w₁, hq, fun k' hk => .head step_scope (harr k' (by simp [exitTo, hk]))⟩
  | goto l' =>
    obtain ⟨r', hr'⟩ := hsome l' a₁ w₁ hq
    obtain ⟨e₂, a₂, w₂, hq₂, harr₂⟩ := key _ l' r' a₁ w₁ hr' rfl hq
    exact ⟨e₂, a₂, w₂, hq₂, .of_steps (.head step_scope (harr _ (by simp [gotoIn, hr']))) harr₂⟩
  | ret => exact ⟨_, a₁, w₁, hq, .of_steps (.one step_scope) harr⟩
  | panic ch => exact ⟨_, a₁, w₁, hq, .of_steps (.one step_scope) harr⟩
  | outgrown => exact ⟨_, a₁, w₁, hq, .of_steps (.one step_scope) harr⟩

def bNu (s : ByteArray) (j : Nat) : Nat := (s.data.toList.getD j 0).toNat
theorem bU_eq (s : ByteArray) (j : Nat) (h : j < s.size) : bNu s j = s[j].toNat := by
  have h' : j < s.data.toList.length := by rw [← size_eq]; exact h
  simp [bNu, List.getD, List.getElem?_eq_getElem h']
  rfl
theorem bU_lt (s : ByteArray) (j : Nat) : bNu s j ≤ 255 := by
  have := (s.data.toList.getD j 0).toNat_lt
  unfold bNu; omega
/-- x with i groups of seven bits ahead of it. -/
def sh7 (i x : Nat) : Nat := x * 128 ^ i
def unI (u : Nat) : Int := if u % 2 = 1 then -((u / 2 : Nat) : Int) - 1 else ((u / 2 : Nat) : Int)
structure NumR where
  n : Int
  at' : Int
  code : Int
/-- A NumOut as a value. -/
def numV (r : NumR) : Value := .agg #[.int .i64 r.n, .int .i64 r.at', .int .i64 r.code]
def NumR.bad (c : Int) : NumR := ⟨0, 0, c⟩
/-- What is read from round i on, u being had. -/
def getR (s : ByteArray) (p : Nat) : Nat → Nat → Nat → NumR
  | 0, _, _ => .bad 3
  | f + 1, i, u => if s.size ≤ p + i then .bad 4 else if i = 9 ∧ 1 < bNu s (p + i) then .bad 3 else
      if bNu s (p + i) < 128 then (if bNu s (p + i) = 0 ∧ 0 < i then .bad 3 else ⟨unI (u + sh7 i (bNu s (p + i) % 128)), (p + i + 1 : Nat), 0⟩)
      else getR s p f (i + 1) (u + sh7 i (bNu s (p + i) % 128))
theorem getR_short {s : ByteArray} {p f i u : Nat} (h : s.size ≤ p + i) : getR s p (f + 1) i u = .bad 4 := by rw [getR, if_pos h]
theorem getR_ninth {s : ByteArray} {p f u : Nat} (h : p + 9 < s.size) (h1 : 1 < bNu s (p + 9)) : getR s p (f + 1) 9 u = .bad 3 := by
  rw [getR, if_neg (by omega), if_pos ⟨rfl, h1⟩]
theorem getR_zero {s : ByteArray} {p f i u : Nat} (h : p + i < s.size) (h1 : bNu s (p + i) = 0) (h2 : 0 < i) : getR s p (f + 1) i u = .bad 3 := by
  rw [getR, if_neg (by omega), if_neg (by omega), if_pos (by omega), if_pos ⟨h1, h2⟩]
theorem getR_last {s : ByteArray} {p f i u : Nat} (h : p + i < s.size) (h0 : i = 9 → bNu s (p + i) ≤ 1) (h1 : bNu s (p + i) < 128) (h2 : ¬ (bNu s (p + i) = 0 ∧ 0 < i)) :
    getR s p (f + 1) i u = ⟨unI (u + sh7 i (bNu s (p + i) % 128)), (p + i + 1 : Nat), 0⟩ := by
  rw [getR, if_neg (by omega), if_neg (by rintro ⟨a, b⟩; have := h0 a; omega), if_pos h1, if_neg h2]
theorem getR_more {s : ByteArray} {p f i u : Nat} (h : p + i < s.size) (h0 : i = 9 → bNu s (p + i) ≤ 1) (h1 : 128 ≤ bNu s (p + i)) :
    getR s p (f + 1) i u = getR s p f (i + 1) (u + sh7 i (bNu s (p + i) % 128)) := by
  rw [getR, if_neg (by omega), if_neg (by rintro ⟨a, b⟩; have := h0 a; omega), if_neg (by omega)]
theorem pow7 (i : Nat) : 128 ^ i = 2 ^ (7 * i) := by rw [Nat.pow_mul]
theorem sh7_bound {i u x : Nat} (hu : u < 128 ^ i) (hx : x < 128) : u + sh7 i x < 128 ^ (i + 1) := by
  unfold sh7
  rw [Nat.pow_succ]
  have : x * 128 ^ i ≤ 127 * 128 ^ i := Nat.mul_le_mul_right _ (by omega)
  omega
theorem pow_le9 {i : Nat} (h : i ≤ 9) : 128 ^ i ≤ 9223372036854775808 := by
  have : 128 ^ i ≤ 128 ^ 9 := Nat.pow_le_pow_right (by omega) h
  omega
theorem orU7 (i u x : Nat) (hu : u < 128 ^ i) : u ||| sh7 i x = u + sh7 i x := by
  unfold sh7
  rw [pow7] at *
  rw [Nat.mul_comm x, Nat.or_comm, ← Nat.two_pow_add_eq_or_of_lt hu, Nat.add_comm]
theorem wrapSh {s : ByteArray} {j i : Nat} (h : j < s.size) (hi : i ≤ 9) (h9 : i = 9 → bNu s j ≤ 1) :
    IntKind.u64.wrap ((s[j].toNat : Int) % 128 * 2 ^ (7 * i)) = ((sh7 i (bNu s j % 128) : Nat) : Int) := by
  have hb := bU_eq s j h
  have e : ((s[j].toNat : Int) % 128 * 2 ^ (7 * i)) = ((sh7 i (bNu s j % 128) : Nat) : Int) := by
    unfold sh7
    rw [pow7, hb]
    simp
  rw [e, IntKind.wrap_u64]
  have h1 : sh7 i (bNu s j % 128) ≤ 9223372036854775808 := by
    by_cases h' : i = 9
    · have hx : bNu s j % 128 ≤ 1 := by have := h9 h'; omega
      unfold sh7
      have := Nat.mul_le_mul hx (pow_le9 hi)
      omega
    · have hu : 0 < 128 ^ i := Nat.pow_pos (by omega)
      have := sh7_bound (i := i) (u := 0) (x := bNu s j % 128) hu (by omega)
      have h2 := pow_le9 (i := i + 1) (by omega)
      omega
  omega
theorem wrapSum {i u x : Nat} (hu : u < 128 ^ i) (hi : i ≤ 9) (hx : x ≤ 9223372036854775808) : IntKind.u64.wrap ((u : Int) + (x : Int)) = ((u + x : Nat) : Int) ∧ u + x ≤ 18446744073709551615 := by
  have := pow_le9 hi
  rw [IntKind.wrap_u64]
  omega
theorem sh7_le {s : ByteArray} {j i : Nat} (hi : i ≤ 9) (h9 : i = 9 → bNu s j ≤ 1) : sh7 i (bNu s j % 128) ≤ 9223372036854775808 := by
  by_cases h' : i = 9
  · have hx : bNu s j % 128 ≤ 1 := by have := h9 h'; omega
    unfold sh7
    have := Nat.mul_le_mul hx (pow_le9 hi)
    omega
  · have hu : 0 < 128 ^ i := Nat.pow_pos (by omega)
    have := sh7_bound (i := i) (u := 0) (x := bNu s j % 128) hu (by omega)
    have h2 := pow_le9 (i := i + 1) (by omega)
    omega
end Go.Proofs.YtkhdjmjbdpmdnaaGreatDoor
namespace Go.Proofs.YtkhdjmjbdpmdnaaGreatDoor
open Go.RowKit Go.Lib

theorem putF_pos (f x : Nat) : 0 < (putF f x).length := by
  cases f with
  | zero => simp [putF]
  | succ f => rw [putF]; split <;> simp
theorem putF_le (f x : Nat) : (putF f x).length ≤ f + 1 := by
  induction f generalizing x with
  | zero => simp [putF]
  | succ f ih =>
    rw [putF]
    split
    · simp
    · simpa using ih (x / 128)
/-- The bytes of a number are read as that number. -/
theorem get_put (s : ByteArray) (p : Nat) : ∀ (f i x u : Nat), x < pw f → i + f = 9 → (∀ j, j < (putF f x).length → ((bNu s (p + i + j) : Nat) : Int) = (putF f x).getD j 0) → p + i + (putF f x).length ≤ s.size →
    (0 < i → 0 < x) → u + x * 128 ^ i ≤ 18446744073709551615 → getR s p (f + 1) i u = ⟨unI (u + x * 128 ^ i), (p + i + (putF f x).length : Nat), 0⟩ := by
  intro f
  induction f with
  | zero =>
    intro i x u hx hi hb hl h0 hv
    obtain rfl : i = 9 := by omega
    have e : putF 0 x = [(x : Int)] := rfl
    rw [e] at hb hl ⊢
    have hb0 := hb 0 (by simp)
    simp at hb0
    have hbx : bNu s (p + 9) = x := by omega
    have hx1 : x ≤ 1 := by omega
    rw [getR_last (by simp at hl; omega) (by intro _; omega) (by omega) (by rw [hbx]; omega), hbx]
    simp [sh7, Nat.mod_eq_of_lt (show x < 128 by omega)]
  | succ f ih =>
    intro i x u hx hi hb hl h0 hv
    by_cases h128 : x < 128
    · have e : putF (f + 1) x = [(x : Int)] := putF_last h128
      rw [e] at hb hl ⊢
      have hb0 := hb 0 (by simp)
      simp at hb0
      have hbx : bNu s (p + i) = x := by omega
      rw [getR_last (by simp at hl; omega) (by omega) (by omega) (by rw [hbx]; omega), hbx]
      simp [sh7, Nat.mod_eq_of_lt h128]
    · have e : putF (f + 1) x = ((x % 128 + 128 : Nat) : Int) :: putF f (x / 128) := putF_more (by omega)
      rw [e] at hb hl ⊢
      have hb0 := hb 0 (by simp)
      simp only [Nat.add_zero, List.getD_cons_zero] at hb0
      have hbx : bNu s (p + i) = x % 128 + 128 := by omega
      simp only [List.length_cons] at hl ⊢
      rw [getR_more (by omega) (by omega) (by omega), hbx, show (x % 128 + 128) % 128 = x % 128 from by omega]
      have hpow : 128 ^ (i + 1) = 128 * 128 ^ i := by rw [Nat.pow_succ, Nat.mul_comm]
      have hsum : u + sh7 i (x % 128) + x / 128 * 128 ^ (i + 1) = u + x * 128 ^ i := by
        unfold sh7
        rw [hpow, ← Nat.mul_assoc, Nat.add_assoc, ← Nat.add_mul, show x % 128 + x / 128 * 128 = x from by omega]
      have := ih (i + 1) (x / 128) (u + sh7 i (x % 128)) (by simp only [pw] at hx; omega) (by omega) (fun j hj => by
        have := hb (j + 1) (by simpa using hj)
        rw [show p + (i + 1) + j = p + i + (j + 1) from by omega]
        simpa using this) (by omega) (by omega) (by rw [hsum]; exact hv)
      rw [hsum] at this
      rw [this]
      congr 1
      omega
/-- Bytes that end too early are short. -/
theorem getU_short (s : ByteArray) (p : Nat) : ∀ (f i x u : Nat), i + f = 9 → (∀ j, j + 1 < (putF f x).length → ((bNu s (p + i + j) : Nat) : Int) = (putF f x).getD j 0) → s.size + 1 = p + i + (putF f x).length →
    getR s p (f + 1) i u = .bad 4 := by
  intro f
  induction f with
  | zero =>
    intro i x u hi hb hl
    have e : putF 0 x = [(x : Int)] := rfl
    rw [e] at hl
    exact getR_short (by simp at hl; omega)
  | succ f ih =>
    intro i x u hi hb hl
    by_cases h128 : x < 128
    · have e : putF (f + 1) x = [(x : Int)] := putF_last h128
      rw [e] at hl
      exact getR_short (by simp at hl; omega)
    · have e : putF (f + 1) x = ((x % 128 + 128 : Nat) : Int) :: putF f (x / 128) := putF_more (by omega)
      rw [e] at hb hl
      have hpos := putF_pos f (x / 128)
      have hb0 := hb 0 (by simp; omega)
      simp only [Nat.add_zero, List.getD_cons_zero] at hb0
      have hbx : bNu s (p + i) = x % 128 + 128 := by omega
      simp only [List.length_cons] at hl
      rw [getR_more (by omega) (by omega) (by omega)]
      exact ih (i + 1) (x / 128) _ (by omega) (fun j hj => by
        have := hb (j + 1) (by simp; omega)
        rw [show p + (i + 1) + j = p + i + (j + 1) from by omega]
        simpa using this) (by omega)
theorem unI_foldI (n : Int) : unI (foldI n) = n := by
  unfold foldI unI
  split
  · rw [if_pos (by omega)]; omega
  · rw [if_neg (by omega)]; omega
theorem foldI_le (n : Int) (h0 : -9223372036854775808 ≤ n) (h1 : n ≤ 9223372036854775807) : foldI n ≤ 18446744073709551615 := by unfold foldI; split <;> omega
theorem putF_mem (f x : Nat) (h : x < pw f) : ∀ y ∈ putF f x, 0 ≤ y ∧ y ≤ 255 := by
  induction f generalizing x with
  | zero => simp [putF, pw] at *; omega
  | succ f ih =>
    rw [putF]
    split
    · simp; omega
    · intro y hy
      rcases List.mem_cons.1 hy with rfl | hy
      · omega
      · exact ih (x / 128) (by simp only [pw] at h; omega) y hy
theorem bU_nums (xs : List Int) (h : ∀ x ∈ xs, 0 ≤ x ∧ x ≤ 255) (j : Nat) (hj : j < xs.length) : ((bNu (strOfNums xs) j : Nat) : Int) = xs.getD j 0 := by
  have hx := h xs[j] (List.getElem_mem hj)
  have e : (strOfNums xs).data.toList = xs.map fun n => UInt8.ofNat n.toNat := by simp [strOfNums]
  unfold bNu
  rw [e]
  simp only [List.getD, List.getElem?_map, List.getElem?_eq_getElem hj, Option.map_some, Option.getD_some]
  rw [UInt8.toNat_ofNat_of_lt' (by simp [UInt8.size]; omega)]
  omega
theorem toList_append (a b : ByteArray) : (a ++ b).data.toList = a.data.toList ++ b.data.toList := by
  rw [ByteArray.data_append, Array.toList_append]
theorem bU_left (a b : ByteArray) (j : Nat) (h : j < a.size) : bNu (a ++ b) j = bNu a j := by
  unfold bNu
  rw [toList_append, List.getD, List.getElem?_append_left (by rw [← size_eq]; exact h)]
  rfl
theorem bU_right (a b : ByteArray) (j : Nat) : bNu (a ++ b) (a.size + j) = bNu b j := by
  unfold bNu
  rw [toList_append, List.getD, List.getElem?_append_right (by rw [← size_eq]; omega), ← size_eq, Nat.add_sub_cancel_left]
  rfl
theorem bU_extract (a : ByteArray) (k j : Nat) (h : j < k) (hk : k ≤ a.size) : bNu (a.extract 0 k) j = bNu a j := by
  have e := bU_eq (a.extract 0 k) j (by rw [ByteArray.size_extract]; omega)
  rw [e, bU_eq a j (by omega)]
  congr 1
  simp [ByteArray.getElem_extract]
theorem pw9_lt {x : Nat} (h : x ≤ 18446744073709551615) : x < pw 9 := by rw [pw9]; omega
/-- The number's bytes, whatever stands ahead of and behind them. -/
theorem num_back (n : Int) (h0 : -9223372036854775808 ≤ n) (h1 : n ≤ 9223372036854775807) (a b : ByteArray) :
    getR (a ++ strOfNums (putF 9 (foldI n)) ++ b) a.size 10 0 0 = ⟨n, (a.size + (strOfNums (putF 9 (foldI n))).size : Nat), 0⟩ := by
  have hf := foldI_le n h0 h1
  have hs : (strOfNums (putF 9 (foldI n))).size = (putF 9 (foldI n)).length := by simp [strOfNums, ByteArray.size]
  have := get_put (a ++ strOfNums (putF 9 (foldI n)) ++ b) a.size 9 0 (foldI n) 0 (pw9_lt hf) rfl (fun j hj => by
    rw [Nat.add_zero, bU_left _ _ _ (by rw [ByteArray.size_append]; omega), bU_right]
    exact bU_nums _ (putF_mem _ _ (pw9_lt hf)) j hj) (by rw [ByteArray.size_append, ByteArray.size_append]; omega) (by omega) (by simpa using hf)
  rw [this]
  simp [unI_foldI, hs]
/-- Without its last byte it is short. -/
theorem num_short (n : Int) (h0 : -9223372036854775808 ≤ n) (h1 : n ≤ 9223372036854775807) :
    getR ((strOfNums (putF 9 (foldI n))).extract 0 ((strOfNums (putF 9 (foldI n))).size - 1)) 0 10 0 0 = .bad 4 := by
  have hf := foldI_le n h0 h1
  have hs : (strOfNums (putF 9 (foldI n))).size = (putF 9 (foldI n)).length := by simp [strOfNums, ByteArray.size]
  have hp := putF_pos 9 (foldI n)
  refine getU_short _ 0 9 0 (foldI n) 0 rfl (fun j hj => ?_) ?_
  · rw [Nat.add_zero, Nat.zero_add, bU_extract _ _ _ (by omega) (by omega)]
    exact bU_nums _ (putF_mem _ _ (pw9_lt hf)) j (by omega)
  · rw [ByteArray.size_extract]; omega
end Go.Proofs.YtkhdjmjbdpmdnaaGreatDoor
namespace Go.Proofs.YtkhdjmjbdpmdnaaGreatDoor
open Go.RowKit Go.Lib

/-- What readBits hands back, by what is to be read. -/
def BitsOk (R : NumR) (e : Ending) : Prop :=
  (∃ v : Nat, v ≤ 18446744073709551615 ∧ R.code = 0 ∧ R.n = unI v ∧ e = .returned (.tuple #[.int .u64 v, .int .i64 R.at', .nilIface])) ∨
  (R.code ≠ 0 ∧ R = .bad R.code ∧ e = .returned (.tuple #[.int .u64 0, .int .i64 0, .iface 216 (.agg #[.int .i64 R.code])]))
theorem BitsOk.bad {R : NumR} {e : Ending} {c : Int} (h : R = .bad c) (hc : c ≠ 0) (he : e = .returned (.tuple #[.int .u64 0, .int .i64 0, .iface 216 (.agg #[.int .i64 c])])) : BitsOk R e := by
  subst h
  exact .inr ⟨hc, rfl, he⟩
theorem BitsOk.good {R : NumR} {e : Ending} {v n : Nat} (hv : v ≤ 18446744073709551615) (h : R = ⟨unI v, n, 0⟩) (he : e = .returned (.tuple #[.int .u64 v, .int .i64 n, .nilIface])) : BitsOk R e := by
  subst h
  exact .inl ⟨v, hv, rfl, rfl, he⟩
theorem orWrap {i u x v : Nat} (hu : u < 128 ^ i) (hi : i ≤ 9) (hx : x ≤ 9223372036854775808) (e : ∃ y, x = sh7 i y) (hv : v = u + x) : bits BinOp.or IntKind.u64 (u : Int) (x : Int) = (v : Int) := by
  obtain ⟨y, rfl⟩ := e
  have := pow_le9 hi
  rw [u64_or_nat _ _ (by omega) (by omega), orU7 i u y hu, hv]
theorem andU127 {c : Int} (h0 : 0 ≤ c) (h1 : c ≤ 255) : IntKind.u64.wrap (bits BinOp.and IntKind.u8 c 127) = c % 128 := by
  have e := bits_mask .u8 8 (by decide) wraps_u8 7 (by decide) c h0 (by omega)
  have e2 : (2 : Int) ^ 7 - 1 = 127 := by decide
  have e3 : (2 : Int) ^ 7 = 128 := by decide
  rw [e2, e3] at e
  rw [e, IntKind.wrap_u64]
  omega
theorem orZero (x : Nat) (h : x < 256) : bits BinOp.or IntKind.u64 0 ((x : Nat) : Int) = ((x : Nat) : Int) := by
  have := u64_or_nat 0 x (by omega) (by omega)
  simpa using this
def bitsJ (s : ByteArray) (p : Nat) (w : World) (R : NumR) (l : Nat) (a' : Act) (w' : World) : Prop :=
  w' = w ∧ ((l = 0 ∧ ∃ (i u : Nat) (bv u12 u13 u14 u15 u16 u17 u18 u19 u20 u21 u22 u23 u24 u25 u26 u27 u28 u29 u30 u31 u32 u33 u34 u35 u36 u37 u38 u39 u40 u41 u42 u43 u44 u45 u46 u47 : Value), a' = { tmps := #[.string s, .int .i64 (p : Int), undef, undef, .int .u64 0, .int .i64 0, .nilIface, .int .u64 ((u : Int)), bv, .int .u64 (7 * (i : Int)), .int .i64 ((p : Int) + (i : Int)), .int .i64 (p : Int), u12, u13, u14, u15, u16, u17, u18, u19, u20, u21, u22, u23, u24, u25, u26, u27, u28, u29, u30, u31, u32, u33, u34, u35, u36, u37, u38, u39, u40, u41, u42, u43, u44, u45, u46, u47, undef, undef], defers := [] } ∧ 1 ≤ i ∧ i ≤ 9 ∧ u < 128 ^ i ∧ getR s p (10 - i) i u = R) ∨
    (l = 1 ∧ ∃ (x7 x8 x9 x10 : Value) (u12 u13 u14 u15 u16 u17 u18 u19 u20 u21 u22 u23 u24 u25 u26 u27 u28 u29 u30 u31 u32 u33 u34 u35 u36 u37 u38 u39 u40 u41 u42 u43 u44 u45 u46 u47 : Value), a' = { tmps := #[.string s, .int .i64 (p : Int), undef, undef, .int .u64 0, .int .i64 0, .nilIface, x7, x8, x9, x10, .int .i64 (p : Int), u12, u13, u14, u15, u16, u17, u18, u19, u20, u21, u22, u23, u24, u25, u26, u27, u28, u29, u30, u31, u32, u33, u34, u35, u36, u37, u38, u39, u40, u41, u42, u43, u44, u45, u46, u47, undef, undef], defers := [] } ∧ R = .bad 3) ∨
    (l = 2 ∧ ∃ (i v c : Nat) (u12 u13 u14 u15 u16 u17 u18 u19 u20 u21 u22 u23 u24 u25 u26 u27 u28 u29 u30 u31 u32 u33 u34 u35 u36 u37 u38 u39 u40 u41 u42 u43 u44 u45 u46 u47 : Value), a' = { tmps := #[.string s, .int .i64 (p : Int), undef, undef, .int .u64 0, .int .i64 0, .nilIface, .int .u64 ((v : Int)), .int .u8 (c : Int), .int .u64 (7 * (i : Int)), .int .i64 ((p : Int) + (i : Int) + 1), .int .i64 (p : Int), u12, u13, u14, u15, u16, u17, u18, u19, u20, u21, u22, u23, u24, u25, u26, u27, u28, u29, u30, u31, u32, u33, u34, u35, u36, u37, u38, u39, u40, u41, u42, u43, u44, u45, u46, u47, undef, undef], defers := [] } ∧ i ≤ 9 ∧ p + i < s.size ∧ c < 128 ∧ v ≤ 18446744073709551615 ∧ (c = 0 ∧ 0 < i → R = .bad 3) ∧ (¬ (c = 0 ∧ 0 < i) → R = ⟨unI v, (p + i + 1 : Nat), 0⟩)))
def bitsM (l : Nat) (a' : Act) (_ : World) : Nat := if l = 0 then 1000 - (RowKit.intOf (a'.tmps.getD 9 undef)).toNat else l
set_option maxHeartbeats 4000000 in
set_option maxRecDepth 100000 in
theorem readBits (s : ByteArray) (p : Nat) (w : World) (hs : s.size ≤ 20000) (hp : (p : Int) ≤ 9223372036854775807) :
    Calls Tryz.prog 231 #[.string s, .int .i64 (p : Int)] w fun e w' => BitsOk (getR s p 10 0 0) e ∧ w' = w := by
  obtain ⟨R, hR⟩ : ∃ R, R = getR s p 10 0 0 := ⟨_, rfl⟩
  rw [← hR]
  have H0 : Hid (getR s p 10 0 0 = R) := hR.symm
  clear hR
  go_enter Tryz.func231, Tryz.ntmps231
  go_wp2
  refine wp_scope_many (bitsJ s p w R) bitsM ?_ ?_ ?_
  · rintro l a' w' ⟨rfl, ⟨rfl, _⟩ | ⟨rfl, _⟩ | ⟨rfl, _⟩⟩
    · exact ⟨_, rfl⟩
    · exact ⟨_, rfl⟩
    · exact ⟨_, rfl⟩
  · by_cases hsh : s.size ≤ p
    · have hfin : Hid (R = .bad 4) := by rw [← H0.out]; exact getR_short (by omega)
      clear H0
      go_wp2
      go_step3
      go_wp2
      simp only [jumpM]
      go_ret3
      exact ⟨BitsOk.bad hfin.out (by decide) rfl, rfl⟩
    have hlt : p + 0 < s.size := by omega
    have hlt' : p < s.size := by omega
    have HB : Hid (bNu s (p + 0) = s[p].toNat) := bU_eq s (p + 0) hlt
    have hbl : (s[p].toNat : Int) ≤ 255 := by have := bU_lt s (p + 0); rw [HB.out] at this; omega
    have hand := andU127 (c := (s[p].toNat : Int)) (by omega) hbl
    have ec : ((s[p].toNat % 128 : Nat) : Int) = (s[p].toNat : Int) % 128 := by omega
    have hor := orZero (s[p].toNat % 128) (by omega)
    rw [ec] at hor
    have EC : Hid (((s[p].toNat % 128 : Nat) : Int) = (s[p].toNat : Int) % 128) := ec
    clear ec
    have HV : Hid (s[p].toNat % 128 = 0 + sh7 0 (bNu s (p + 0) % 128)) := (by rw [HB.out]; simp [sh7] : s[p].toNat % 128 = 0 + sh7 0 (bNu s (p + 0) % 128))
    by_cases hc : 128 ≤ (s[p].toNat : Int)
    · have HN : Hid (getR s p 9 1 (s[p].toNat % 128) = R) := (by rw [← H0.out, getR_more hlt (by omega) (by rw [HB.out]; omega), ← HV.out] : getR s p 9 1 (s[p].toNat % 128) = R)
      clear H0
      go_wp2
      go_step3
      go_wp2
      go_step3
      refine ⟨rfl, .inl ⟨rfl, 1, s[p].toNat % 128, _, _, _, _, _, _, _, _, _, _, _, _, _, _, _, _, _, _, _, _, _, _, _, _, _, _, _, _, _, _, _, _, _, _, _, _, _, by rw [EC.out, show 7 * ((1 : Nat) : Int) = 7 from rfl, show (p : Int) + ((1 : Nat) : Int) = (p : Int) + 1 from rfl], by omega, by omega, by omega, HN.out⟩⟩
    have HZN : Hid (R = ⟨unI (s[p].toNat % 128), (p + 0 + 1 : Nat), 0⟩) := (by
      rw [← H0.out, getR_last hlt (by omega) (by rw [HB.out]; omega) (by omega), ← HV.out] : R = ⟨unI (s[p].toNat % 128), (p + 0 + 1 : Nat), 0⟩)
    clear H0
    go_wp2
    go_step3
    go_wp2
    go_step3
    refine ⟨rfl, .inr (.inr ⟨rfl, 0, s[p].toNat % 128, s[p].toNat, _, _, _, _, _, _, _, _, _, _, _, _, _, _, _, _, _, _, _, _, _, _, _, _, _, _, _, _, _, _, _, _, _, _, _, _, by rw [EC.out, show 7 * ((0 : Nat) : Int) = 0 from rfl, show (p : Int) + ((0 : Nat) : Int) + 1 = (p : Int) + 1 from by omega], by omega, hlt, by omega, by omega, fun h => by omega, fun _ => HZN.out⟩)⟩
  · rintro l r hr a' w' ⟨rfl, ⟨rfl, i, u, bv, u12, u13, u14, u15, u16, u17, u18, u19, u20, u21, u22, u23, u24, u25, u26, u27, u28, u29, u30, u31, u32, u33, u34, u35, u36, u37, u38, u39, u40, u41, u42, u43, u44, u45, u46, u47, rfl, hi1, hi9, hu, hg⟩ | ⟨rfl, x7, x8, x9, x10, u12, u13, u14, u15, u16, u17, u18, u19, u20, u21, u22, u23, u24, u25, u26, u27, u28, u29, u30, u31, u32, u33, u34, u35, u36, u37, u38, u39, u40, u41, u42, u43, u44, u45, u46, u47, rfl, hR⟩ | ⟨rfl, i, v, c, u12, u13, u14, u15, u16, u17, u18, u19, u20, u21, u22, u23, u24, u25, u26, u27, u28, u29, u30, u31, u32, u33, u34, u35, u36, u37, u38, u39, u40, u41, u42, u43, u44, u45, u46, u47, rfl, hi9, hlt, hc, hv, hz, hn⟩⟩
    · cases hr
      have HU : Hid (u < 128 ^ i) := hu
      obtain ⟨f, hf⟩ : ∃ f, 10 - i = f + 1 := ⟨9 - i, by omega⟩
      rw [hf] at hg
      have HF : Hid (10 - i = f + 1) := hf
      have HG : Hid (getR s p (f + 1) i u = R) := hg
      clear hu hg H0 hf
      by_cases hsh : s.size ≤ p + i
      · have hfin : Hid (R = .bad 4) := by rw [← HG.out]; exact getR_short hsh
        go_wp2
        simp only [jumpM]
        go_ret3
        exact ⟨BitsOk.bad hfin.out (by decide) rfl, rfl⟩
      have hlt : p + i < s.size := by omega
      have HB : Hid (bNu s (p + i) = s[p + i].toNat) := bU_eq s (p + i) hlt
      have hbl : (s[p + i].toNat : Int) ≤ 255 := by have := bU_lt s (p + i); rw [HB.out] at this; omega
      by_cases h9 : i = 9 ∧ 1 < s[p + i].toNat
      · obtain ⟨h9a, h9b⟩ := h9
        have hfin : Hid (R = .bad 3) := by
          rw [← HG.out]
          subst h9a
          exact getR_ninth hlt (by rw [HB.out]; exact h9b)
        have e9 : ((7 * (i : Int)) == 63) = true := by rw [beq_iff_eq]; omega
        have e9b : (1 : Int) < (s[p + i].toNat : Int) := by omega
        clear h9a
        go_wp2
        go_step3
        refine ⟨⟨rfl, .inr (.inl ⟨rfl, _, _, _, _, _, _, _, _, _, _, _, _, _, _, _, _, _, _, _, _, _, _, _, _, _, _, _, _, _, _, _, _, _, _, _, _, _, _, _, _, rfl, hfin.out⟩)⟩, ?_⟩
        simp [bitsM, RowKit.intOf]; omega
      have H9 : Hid (i = 9 → bNu s (p + i) ≤ 1) := fun e => by rw [HB.out]; omega
      have hw1 := wrapSh hlt (by omega) H9.out
      have hxl := sh7_le (s := s) (j := p + i) (by omega) H9.out
      obtain ⟨x, hx⟩ : ∃ x, x = sh7 i (bNu s (p + i) % 128) := ⟨_, rfl⟩
      rw [← hx] at hw1 hxl
      obtain ⟨hw2, hvl⟩ := wrapSum HU.out (by omega) hxl
      obtain ⟨v, hv⟩ : ∃ v, v = u + x := ⟨_, rfl⟩
      have hor := orWrap HU.out hi9 hxl ⟨_, hx⟩ hv
      rw [← hv] at hvl
      have HV : Hid (v = u + sh7 i (bNu s (p + i) % 128)) := (by rw [hv, hx] : v = u + sh7 i (bNu s (p + i) % 128))
      clear hx hv hxl hw2
      have hand := andU127 (c := (s[p + i].toNat : Int)) (by omega) hbl
      have h9c : ((7 * (i : Int)) == 63) = true ∧ (s[p + i].toNat : Int) ≤ 1 ∨ ((7 * (i : Int)) == 63) = false := by
        by_cases h : i = 9
        · left; exact ⟨by rw [beq_iff_eq]; omega, by omega⟩
        · right; rw [beq_eq_false_iff_ne]; omega
      have h9d : Hid (((7 * (i : Int)) == 63) = false → i < 9) := fun h => by rw [beq_eq_false_iff_ne] at h; omega
      clear h9
      by_cases hc : 128 ≤ (s[p + i].toNat : Int)
      · rcases h9c with ⟨e9, e1⟩ | e9
        · exfalso; omega
        have hi9 := h9d.out e9
        have HN : Hid (getR s p f (i + 1) v = R) := (by rw [← HG.out, getR_more hlt H9.out (by rw [HB.out]; omega), ← HV.out] : getR s p f (i + 1) v = R)
        have HVB : Hid (v < 128 ^ (i + 1)) := by rw [HV.out]; exact sh7_bound HU.out (by omega)
        have E7 : Hid (7 * ((i + 1 : Nat) : Int) = 7 * (i : Int) + 7) := (by omega : 7 * ((i + 1 : Nat) : Int) = 7 * (i : Int) + 7)
        have E8 : Hid ((p : Int) + ((i + 1 : Nat) : Int) = (p : Int) + (i : Int) + 1) := (by omega : (p : Int) + ((i + 1 : Nat) : Int) = (p : Int) + (i : Int) + 1)
        go_wp2
        go_step3
        refine ⟨⟨rfl, .inl ⟨rfl, i + 1, v, _, _, _, _, _, _, _, _, _, _, _, _, _, _, _, _, _, _, _, _, _, _, _, _, _, _, _, _, _, _, _, _, _, _, _, _, _, by rw [E7.out, E8.out], by omega, by omega, HVB.out, by rw [show 10 - (i + 1) = f from by have := HF.out; omega]; exact HN.out⟩⟩, ?_⟩
        simp [bitsM, RowKit.intOf]; omega
      have HZ : Hid (s[p + i].toNat = 0 ∧ 0 < i → R = .bad 3) := fun hz => by
        rw [← HG.out]
        exact getR_zero hlt (by rw [HB.out]; exact hz.1) hz.2
      have HN : Hid (¬ (s[p + i].toNat = 0 ∧ 0 < i) → R = ⟨unI v, (p + i + 1 : Nat), 0⟩) := fun hz => by
        rw [← HG.out, getR_last hlt H9.out (by rw [HB.out]; omega) (by rw [HB.out]; exact hz), ← HV.out]
      rcases h9c with ⟨e9, e1⟩ | e9
      all_goals
        go_wp2
        go_step3
        refine ⟨⟨rfl, .inr (.inr ⟨rfl, i, v, s[p + i].toNat, _, _, _, _, _, _, _, _, _, _, _, _, _, _, _, _, _, _, _, _, _, _, _, _, _, _, _, _, _, _, _, _, _, _, _, _, rfl, by omega, hlt, by omega, hvl, HZ.out, HN.out⟩)⟩, ?_⟩
        simp [bitsM, RowKit.intOf]; omega
    · cases hr
      have HR : Hid (R = .bad 3) := hR
      clear hR H0
      go_wp2
      simp only [jumpM]
      go_ret3
      exact ⟨BitsOk.bad HR.out (by decide) rfl, rfl⟩
    · cases hr
      have HZ : Hid (c = 0 ∧ 0 < i → R = .bad 3) := hz
      have HN : Hid (¬ (c = 0 ∧ 0 < i) → R = ⟨unI v, (p + i + 1 : Nat), 0⟩) := hn
      clear hz hn H0
      by_cases h0 : c = 0
      · have e0 : ((c : Int) == 0) = true := by rw [beq_iff_eq]; omega
        by_cases hi0 : 0 < i
        · have ei : (0 : Int) < 7 * (i : Int) := by omega
          have hfin : Hid (R = .bad 3) := HZ.out ⟨h0, hi0⟩
          clear h0
          go_wp2
          go_step3
          refine ⟨⟨rfl, .inr (.inl ⟨rfl, _, _, _, _, _, _, _, _, _, _, _, _, _, _, _, _, _, _, _, _, _, _, _, _, _, _, _, _, _, _, _, _, _, _, _, _, _, _, _, _, rfl, hfin.out⟩)⟩, ?_⟩
          simp [bitsM]
        · have ei : 7 * (i : Int) ≤ 0 := by omega
          have hfin : Hid (R = ⟨unI v, (p + i + 1 : Nat), 0⟩) := HN.out (by omega)
          clear h0
          go_wp2
          simp only [jumpM]
          go_ret3
          exact ⟨BitsOk.good hv hfin.out rfl, rfl⟩
      · have e0 : ((c : Int) == 0) = false := by rw [beq_eq_false_iff_ne]; omega
        have hfin : Hid (R = ⟨unI v, (p + i + 1 : Nat), 0⟩) := HN.out (by omega)
        clear h0
        go_wp2
        simp only [jumpM]
        go_ret3
        exact ⟨BitsOk.good hv hfin.out rfl, rfl⟩
end Go.Proofs.YtkhdjmjbdpmdnaaGreatDoor
namespace Go.Proofs.YtkhdjmjbdpmdnaaGreatDoor
open Go.RowKit

theorem tooLong (s : ByteArray) (w : World) (hs : s.size ≤ maxLen) :
    Calls Tryz.prog 69 #[.string s] w fun e w' => e = .returned (.bool (decide (20000 < s.size))) ∧ w' = w := by
  unfold maxLen at hs
  go_enter Tryz.func69, Tryz.ntmps69
  go_wp2
  go_ret
  exact ⟨by simp; omega, rfl⟩
end Go.Proofs.YtkhdjmjbdpmdnaaGreatDoor
namespace Go.Proofs.YtkhdjmjbdpmdnaaGreatDoor
open Go.RowKit Go.Lib

theorem xorAll (a : Nat) (h : a < 18446744073709551616) : a ^^^ 18446744073709551615 = 18446744073709551615 - a := by
  have e := congrArg BitVec.toNat (BitVec.xor_allOnes (x := BitVec.ofNat 64 a))
  simp only [BitVec.toNat_xor, BitVec.toNat_ofNat, BitVec.toNat_allOnes, BitVec.toNat_not] at e
  rw [Nat.mod_eq_of_lt (by omega)] at e
  simpa using e
theorem xor_zero64 (a : Nat) (h : a ≤ 9223372036854775807) : bits BinOp.xor IntKind.i64 (a : Int) 0 = (a : Int) := by
  have h1 : (BitVec.ofInt 64 (a : Int)).toNat = a := by
    rw [BitVec.ofInt_natCast, BitVec.toNat_ofNat]; exact Nat.mod_eq_of_lt (by omega)
  show IntKind.i64.wrap ((BitVec.ofInt 64 (a : Int) ^^^ BitVec.ofInt 64 0).toNat : Int) = _
  have h2 : (BitVec.ofInt 64 0).toNat = 0 := by decide
  rw [BitVec.toNat_xor, h1, h2, Nat.xor_zero, IntKind.wrap_i64]
  omega
theorem xor_ones64 (a : Nat) (h : a ≤ 9223372036854775807) : bits BinOp.xor IntKind.i64 (a : Int) (-1) = -(a : Int) - 1 := by
  have h1 : (BitVec.ofInt 64 (a : Int)).toNat = a := by
    rw [BitVec.ofInt_natCast, BitVec.toNat_ofNat]; exact Nat.mod_eq_of_lt (by omega)
  show IntKind.i64.wrap ((BitVec.ofInt 64 (a : Int) ^^^ BitVec.ofInt 64 (-1)).toNat : Int) = _
  have h2 : (BitVec.ofInt 64 (-1)).toNat = 18446744073709551615 := by decide
  rw [BitVec.toNat_xor, h1, h2, xorAll a (by omega), IntKind.wrap_i64]
  omega
theorem unfold_bits (u : Nat) (hu : u ≤ 18446744073709551615) : bits BinOp.xor IntKind.i64 ((u : Int) / 2) (wrap64 (-wrap64 (bits BinOp.and IntKind.u64 (u : Int) 1))) = unI u := by
  rw [and_one_u64 _ (by omega) (by omega)]
  have e2 : ((u : Int) / 2) = ((u / 2 : Nat) : Int) := by omega
  rw [e2]
  unfold unI
  by_cases h : u % 2 = 1
  · have e : wrap64 (-wrap64 ((u : Int) % 2)) = -1 := by simp only [wrap64]; omega
    rw [e, xor_ones64 _ (by omega), if_pos h]
  · have e : wrap64 (-wrap64 ((u : Int) % 2)) = 0 := by simp only [wrap64]; omega
    rw [e, xor_zero64 _ (by omega), if_neg h]
theorem unfoldSign (u : Nat) (w : World) (hu : u ≤ 18446744073709551615) :
    Calls Tryz.prog 232 #[.int .u64 (u : Int)] w fun e w' => e = .returned (.int .i64 (unI u)) ∧ w' = w := by
  have hu' : (u : Int) ≤ 18446744073709551615 := by omega
  go_enter Tryz.func232, Tryz.ntmps232
  go_wp2
  go_ret
  exact ⟨ret_int (unfold_bits u hu), rfl⟩
/-- What is read at a place: the code of a text that is too long, of a place below 0, or what the bytes say. -/
def numAt (s : ByteArray) (p : Int) : NumR := if 20000 < s.size then .bad 2 else if p < 0 then .bad 1 else getR s p.toNat 10 0 0
/-- What readNum hands back, by what is to be read. -/
def ReadOk (R : NumR) (e : Ending) : Prop :=
  (R.code = 0 ∧ e = .returned (.tuple #[.int .i64 R.n, .int .i64 R.at', .nilIface])) ∨
  (R.code ≠ 0 ∧ R = .bad R.code ∧ ∃ n, e = .returned (.tuple #[.int .i64 n, .int .i64 0, .iface 216 (.agg #[.int .i64 R.code])]))
set_option maxHeartbeats 1000000 in
theorem readNum (s : ByteArray) (p : Int) (w : World) (hs : s.size ≤ maxLen) (hp0 : -9223372036854775808 ≤ p) (hp1 : p ≤ 9223372036854775807) :
    Calls Tryz.prog 211 #[.string s, .int .i64 p] w fun e w' => ReadOk (numAt s p) e ∧ w' = w := by
  by_cases h1 : 20000 < s.size
  · have hfin : Hid (numAt s p = .bad 2) := by rw [numAt, if_pos h1]; rfl
    have hd : decide (20000 < s.size) = true := by simp; omega
    go_enter Tryz.func211, Tryz.ntmps211
    go_wp2_with fail
    refine (tooLong s _ hs).mono ?_
    rintro e w' ⟨rfl, rfl⟩
    go_wp2
    go_ret3
    rw [hfin.out]
    exact ⟨.inr ⟨by decide, rfl, 0, rfl⟩, rfl⟩
  have hd : decide (20000 < s.size) = false := by simp; omega
  by_cases h2 : p < 0
  · have hfin : Hid (numAt s p = .bad 1) := by rw [numAt, if_neg h1, if_pos h2]; rfl
    go_enter Tryz.func211, Tryz.ntmps211
    go_wp2_with fail
    refine (tooLong s _ hs).mono ?_
    rintro e w' ⟨rfl, rfl⟩
    go_wp2
    go_ret3
    rw [hfin.out]
    exact ⟨.inr ⟨by decide, rfl, 0, rfl⟩, rfl⟩
  obtain ⟨q, rfl⟩ := Int.eq_ofNat_of_zero_le (show 0 ≤ p by omega)
  have hfin : numAt s (q : Int) = getR s q 10 0 0 := by rw [numAt, if_neg h1, if_neg h2, Int.toNat_natCast]
  have hbits := fun W => readBits s q W (by omega) hp1
  rw [hfin]
  generalize getR s q 10 0 0 = R at *
  have HB : Hid (∀ W, Calls Tryz.prog 231 #[.string s, .int .i64 (q : Int)] W fun e w' => BitsOk R e ∧ w' = W) := hbits
  clear hbits hfin
  go_enter Tryz.func211, Tryz.ntmps211
  go_wp2_with fail
  refine (tooLong s _ hs).mono ?_
  rintro e w' ⟨rfl, rfl⟩
  go_wp2_with fail
  refine (HB.out _).mono ?_
  rintro e w' ⟨hb, rfl⟩
  rcases hb with ⟨v, hv, hc, hn, rfl⟩ | ⟨hc, hR, rfl⟩
  · have HC : Hid (R.code = 0) := hc
    have HN : Hid (R.n = unI v) := hn
    clear hc hn
    go_wp2_with fail
    refine (unfoldSign v _ hv).mono ?_
    rintro e w' ⟨rfl, rfl⟩
    go_wp2
    go_ret3
    exact ⟨.inl ⟨HC.out, by rw [HN.out]; rfl⟩, rfl⟩
  · have HC : Hid (R.code ≠ 0) := hc
    have HR : Hid (R = .bad R.code) := hR
    clear hc hR
    go_wp2_with fail
    refine (unfoldSign 0 _ (by omega)).mono ?_
    rintro e w' ⟨rfl, rfl⟩
    go_wp2
    go_ret3
    exact ⟨.inr ⟨HC.out, HR.out, _, rfl⟩, rfl⟩
end Go.Proofs.YtkhdjmjbdpmdnaaGreatDoor
namespace Go.Proofs.YtkhdjmjbdpmdnaaGreatDoor
open Go.RowKit

/-- Things, one behind the other. -/
def catT : List (Nat × ByteArray) → ByteArray
  | [] => ⟨#[]⟩
  | p :: r => thingD (p.1 : Int) p.2 ++ catT r
def asI (l : List (Nat × ByteArray)) : List (Int × ByteArray) := l.map fun p => ((p.1 : Int), p.2)
theorem catT_len : ∀ l : List (Nat × ByteArray), 2 * l.length ≤ (catT l).size
  | [] => Nat.zero_le _
  | p :: r => by
    have h := catT_len r
    have h2 := thingD_size (p.1 : Int) p.2
    have h3 := lenD_one p.2.size
    rw [catT, ByteArray.size_append, List.length_cons]
    omega
theorem allR_cat : ∀ (l : List (Nat × ByteArray)) (p : ByteArray) (f : Nat) (acc : List (Int × ByteArray)), (∀ q ∈ l, tagB (q.1 : Int) = true ∧ q.2.size ≤ 4000) → l.length ≤ f → acc.length + l.length ≤ 60 →
    allR (p ++ catT l) f p.size acc = (acc ++ asI l, 0)
  | [], p, f, acc, _, _, _ => by
    rw [allR_end (by rw [ByteArray.size_append]; show p.size + 0 ≤ _; omega)]
    simp [asI]
  | q :: r, p, f, acc, hq, hf, ha => by
    obtain ⟨t, b⟩ := q
    obtain ⟨h1, h2⟩ := hq _ (List.mem_cons_self ..)
    simp only at h1 h2
    obtain ⟨g, rfl⟩ : ∃ g, f = g + 1 := ⟨f - 1, by simp at hf; omega⟩
    have hs := thingD_size (t : Int) b
    have e : p ++ catT ((t, b) :: r) = p ++ thingD (t : Int) b ++ catT r := by rw [catT, ByteArray.append_assoc]
    have hg := get_back p (catT r) h1 h2
    rw [e]
    rw [allR_more (by rw [ByteArray.size_append, ByteArray.size_append]; omega) (by rw [hg]) (by simp at ha; omega), hg]
    simp only [Int.toNat_natCast]
    rw [show p.size + (thingD (t : Int) b).size = (p ++ thingD (t : Int) b).size from ByteArray.size_append.symm]
    rw [allR_cat r (p ++ thingD (t : Int) b) g _ (fun q hq' => hq q (List.mem_cons_of_mem _ hq')) (by simp at hf; omega) (by simp at ha ⊢; omega)]
    simp [asI]
theorem allR_all {l : List (Nat × ByteArray)} (hq : ∀ q ∈ l, tagB (q.1 : Int) = true ∧ q.2.size ≤ 4000) (hl : l.length ≤ 60) : allR (catT l) ((catT l).size + 1) 0 [] = (asI l, 0) := by
  have h := allR_cat l ByteArray.empty ((catT l).size + 1) [] hq (by have := catT_len l; omega) (by simpa using hl)
  rw [ByteArray.empty_append] at h
  simpa using h
theorem allD_cat {l : List (Nat × ByteArray)} (hq : ∀ q ∈ l, tagB (q.1 : Int) = true ∧ q.2.size ≤ 4000) (hl : l.length ≤ 60) (hs : (catT l).size ≤ 20000) : allD (catT l) = (asI l, 0) := by
  unfold allD
  rw [if_neg (by omega)]
  exact allR_all hq hl
/-- The body of thing number k of a row: the empty text, if there is none. -/
def bodyK (s : ByteArray) (k : Nat) : ByteArray := (((allD s).1[k]?).map (·.2)).getD ⟨#[]⟩
/-- .. and so on, one within the other. -/
def atP (s : ByteArray) : List Nat → ByteArray
  | [] => s
  | k :: ks => if k < (allD s).1.length then atP (bodyK s k) ks else ⟨#[]⟩
theorem allR_body (s : ByteArray) : ∀ (f k : Nat) (acc : List (Int × ByteArray)), (∀ q ∈ acc, q.2.size ≤ s.size) → ∀ q ∈ (allR s f k acc).1, q.2.size ≤ s.size
  | 0, _, acc, h => h
  | f + 1, k, acc, h => by
    rw [allR]
    split
    · exact h
    · split
      · simp
      · split
        · simp
        · refine allR_body s f _ _ (fun q hq => ?_)
          rcases List.mem_append.1 hq with hq | hq
          · exact h q hq
          · obtain rfl := List.mem_singleton.1 hq
            rename_i hc _ _
            obtain ⟨n, _, h2, _, h4, _⟩ := getAt_form (s := s) (k := k) (by simpa using hc)
            rw [h4]
            show (s.extract _ _).size ≤ _
            rw [ByteArray.size_extract]
            omega
theorem allD_body (s : ByteArray) : ∀ q ∈ (allD s).1, q.2.size ≤ s.size := by
  unfold allD
  split
  · simp
  · exact allR_body s _ _ _ (by simp)
theorem bodyK_le (s : ByteArray) (k : Nat) : (bodyK s k).size ≤ s.size := by
  unfold bodyK
  cases h : (allD s).1[k]? with
  | none => exact Nat.zero_le _
  | some q => exact allD_body s q (List.mem_of_getElem? h)
theorem atP_le : ∀ (ks : List Nat) (s : ByteArray), (atP s ks).size ≤ s.size
  | [], s => Nat.le_refl _
  | k :: ks, s => by
    rw [atP]
    split
    · exact Nat.le_trans (atP_le ks _) (bodyK_le s k)
    · exact Nat.zero_le _
/-- The bodies of a row's things. -/
def bodiesR (s : ByteArray) : List ByteArray := (allD s).1.map (·.2)
def serialsR (s : ByteArray) : List Int := (allD s).1.map fun p => (intR p.2).1
/-- Numbers from a place on; behind the first that is none they are 0. -/
def numsGo (s : ByteArray) : Nat → Int → List Int
  | 0, _ => []
  | n + 1, p => if (numAt s p).code = 0 then (numAt s p).n :: numsGo s n (numAt s p).at' else List.replicate (n + 1) 0
end Go.Proofs.YtkhdjmjbdpmdnaaGreatDoor
namespace Go.Proofs.YtkhdjmjbdpmdnaaGreatDoor
open Go.RowKit

theorem getR_lies (s : ByteArray) (p : Nat) : ∀ (f i u : Nat), (getR s p f i u).code = 0 → 0 ≤ (getR s p f i u).at' ∧ (getR s p f i u).at' ≤ s.size
  | 0, i, u, h => by simp [getR, NumR.bad] at h
  | f + 1, i, u, h => by
    rw [getR] at h ⊢
    by_cases h1 : s.size ≤ p + i
    · rw [if_pos h1] at h; simp [NumR.bad] at h
    rw [if_neg h1] at h ⊢
    by_cases h2 : i = 9 ∧ 1 < bNu s (p + i)
    · rw [if_pos h2] at h; simp [NumR.bad] at h
    rw [if_neg h2] at h ⊢
    by_cases h3 : bNu s (p + i) < 128
    · rw [if_pos h3] at h ⊢
      by_cases h4 : bNu s (p + i) = 0 ∧ 0 < i
      · rw [if_pos h4] at h; simp [NumR.bad] at h
      rw [if_neg h4]
      simp only
      omega
    · rw [if_neg h3] at h ⊢
      exact getR_lies s p f (i + 1) _ h
theorem numAt_lies {s : ByteArray} {p : Int} (h : (numAt s p).code = 0) : 0 ≤ (numAt s p).at' ∧ (numAt s p).at' ≤ s.size := by
  unfold numAt at h ⊢
  by_cases h1 : 20000 < s.size
  · rw [if_pos h1] at h; simp [NumR.bad] at h
  rw [if_neg h1] at h ⊢
  by_cases h2 : p < 0
  · rw [if_pos h2] at h; simp [NumR.bad] at h
  rw [if_neg h2] at h ⊢
  exact getR_lies s _ _ _ _ h
theorem numsGo_len (s : ByteArray) : ∀ (n : Nat) (p : Int), (numsGo s n p).length = n
  | 0, _ => rfl
  | n + 1, p => by
    rw [numsGo]
    split
    · rw [List.length_cons, numsGo_len s n]
    · simp
/-- So many numbers, one behind the other, as the specification goes. -/
def bitsQ (s : ByteArray) : Nat → Int → List Int
  | 0, _ => []
  | n + 1, p => (numAt s p).n :: bitsQ s n (numAt s p).at'
theorem getR_any (s : ByteArray) (p : Nat) : ∀ (f i u : Nat), 0 ≤ (getR s p f i u).at' ∧ (getR s p f i u).at' ≤ s.size
  | 0, _, _ => ⟨Int.le_refl _, Int.natCast_nonneg _⟩
  | f + 1, i, u => by
    rw [getR]
    split
    · exact ⟨Int.le_refl _, Int.natCast_nonneg _⟩
    split
    · exact ⟨Int.le_refl _, Int.natCast_nonneg _⟩
    split
    · split
      · exact ⟨Int.le_refl _, Int.natCast_nonneg _⟩
      · simp only
        omega
    · exact getR_any s p f (i + 1) _
theorem numAt_any (s : ByteArray) (p : Int) : 0 ≤ (numAt s p).at' ∧ (numAt s p).at' ≤ s.size := by
  unfold numAt
  split
  · exact ⟨Int.le_refl _, Int.natCast_nonneg _⟩
  split
  · exact ⟨Int.le_refl _, Int.natCast_nonneg _⟩
  exact getR_any s _ _ _ _
end Go.Proofs.YtkhdjmjbdpmdnaaGreatDoor
