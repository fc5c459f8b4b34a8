/- Bits cut anew, six by six and eight by eight. Plain mathematics. -/
import Derived.Test.YtiflnlaapkbofaaB64P
namespace Go.Proofs.Ytiflnlaapkbofaa
open Go.RowKit Go.Lib

theorem and_mask (p : Nat) (hp : p ≤ 32) (n : Nat) : bits .and .i64 (n : Int) ((2 ^ p : Nat) - 1 : Int) = ((n % 2 ^ p : Nat) : Int) := by
  have h32 : 2 ^ p ≤ 2 ^ 32 := Nat.pow_le_pow_right (by omega) hp
  have hp0 : 0 < 2 ^ p := Nat.two_pow_pos p
  have e0 : (2 : Nat) ^ 32 = 4294967296 := by decide
  have e : bits BinOp.and IntKind.i64 (n : Int) ((2 ^ p : Nat) - 1 : Int) = IntKind.i64.wrap ((BitVec.ofInt 64 (n : Int) &&& BitVec.ofInt 64 ((2 ^ p : Nat) - 1 : Int)).toNat : Nat) := rfl
  rw [e, BitVec.toNat_and, BitVec.toNat_ofInt, BitVec.toNat_ofInt]
  have e1 : ((((2 ^ p : Nat) : Int) - 1) % ((2 ^ 64 : Nat) : Int)).toNat = 2 ^ p - 1 := by omega
  rw [e1, Nat.and_two_pow_sub_one_eq_mod, IntKind.wrap_i64]
  have hm : (((n : Int) % ((2 ^ 64 : Nat) : Int)).toNat) % 2 ^ p = n % 2 ^ p := by
    have h64 : ((n : Int) % ((2 ^ 64 : Nat) : Int)).toNat = n % 2 ^ 64 := by omega
    rw [h64, Nat.mod_mod_of_dvd]
    exact Nat.pow_dvd_pow 2 (by omega)
  rw [hm]
  have := Nat.mod_lt n hp0
  omega
/-- Eight by eight to six by six: h is held, c bits. -/
def rgo : List Nat → Nat → Nat → List Nat × Nat × Nat
  | [], h, c => ([], h, c)
  | g :: r, h, c =>
    if c = 0 then ((h * 256 + g) / 4 :: (rgo r ((h * 256 + g) % 4) 2).1, (rgo r ((h * 256 + g) % 4) 2).2)
    else if c = 2 then ((h * 256 + g) / 16 :: (rgo r ((h * 256 + g) % 16) 4).1, (rgo r ((h * 256 + g) % 16) 4).2)
    else ((h * 256 + g) / 64 :: (h * 256 + g) % 64 :: (rgo r 0 0).1, (rgo r 0 0).2)
/-- What is put behind. -/
def tailG (x : Nat × Nat) : List Nat := if x.2 = 0 then [] else if x.2 = 2 then [x.1 * 16] else [x.1 * 4]
theorem b64_rgo : ∀ (l : List Nat), b64 l = (rgo l 0 0).1 ++ tailG (rgo l 0 0).2 ∧ ((rgo l 0 0).2.2 = 0 ∨ ((rgo l 0 0).2.2 = 2 ∧ (rgo l 0 0).2.1 < 4) ∨ ((rgo l 0 0).2.2 = 4 ∧ (rgo l 0 0).2.1 < 16))
  | [] => ⟨rfl, .inl rfl⟩
  | [a] => by
    refine ⟨?_, .inr (.inl ⟨rfl, ?_⟩)⟩
    · simp [b64, rgo, tailG]
    · simp only [rgo, if_true]; omega
  | [a, b] => by
    refine ⟨?_, .inr (.inr ⟨rfl, ?_⟩)⟩
    · simp [b64, rgo, tailG]
      omega
    · simp [rgo]; omega
  | a :: b :: c :: r => by
    have ih := b64_rgo r
    have e : rgo (a :: b :: c :: r) 0 0 = (a / 4 :: (a % 4 * 16 + b / 16) :: (b % 16 * 4 + c / 64) :: (c % 64) :: (rgo r 0 0).1, (rgo r 0 0).2) := by
      simp [rgo]
      omega
    rw [e]
    refine ⟨?_, ih.2⟩
    rw [b64, ih.1]
    rfl
theorem b64_lt : ∀ (l : List Nat), (∀ x ∈ l, x < 256) → ∀ y ∈ b64 l, y < 64
  | [], _, y, hy => by cases hy
  | [a], h, y, hy => by
    have ha := h a (by simp)
    simp [b64] at hy
    omega
  | [a, b], h, y, hy => by
    have ha := h a (by simp)
    have hb := h b (by simp)
    simp [b64] at hy
    omega
  | a :: b :: c :: r, h, y, hy => by
    have ha := h a (by simp)
    have hb := h b (by simp)
    have hc := h c (by simp)
    simp only [b64, List.mem_cons] at hy
    rcases hy with rfl | rfl | rfl | rfl | hy
    · omega
    · omega
    · omega
    · omega
    · exact b64_lt r (fun x hx => h x (by simp [hx])) y hy
theorem rgo_len : ∀ (l : List Nat) (h c : Nat), (rgo l h c).1.length ≤ 2 * l.length
  | [], _, _ => Nat.le_refl _
  | g :: r, h, c => by
    have h1 := rgo_len r ((h * 256 + g) % 4) 2
    have h2 := rgo_len r ((h * 256 + g) % 16) 4
    have h3 := rgo_len r 0 0
    rw [rgo]
    split
    · simp only [List.length_cons]; omega
    · split
      · simp only [List.length_cons]; omega
      · simp only [List.length_cons]; omega
theorem bts_lt (s : ByteArray) : ∀ x ∈ bts s, x < 256 := by
  intro x hx
  simp only [bts, List.mem_map] at hx
  obtain ⟨u, _, rfl⟩ := hx
  have := u.toNat_lt
  omega
/-- Bytes in memory. -/
def IsBts (w : World) (a : Option Addr) (zs : List Nat) : Prop := zs = [] ∨ ∃ b, a = some ⟨b, 0, none⟩ ∧ b < w.heap.size ∧ ∀ (i z : Nat), zs[i]? = some z → w.cell? ⟨b, i, none⟩ = some (.int .u8 (z : Int))
theorem IsBts.keep {w w' : World} {a : Option Addr} {zs : List Nat} (h : IsBts w a zs) (hb : Below w.heap.size w w') : IsBts w' a zs := by
  rcases h with h | ⟨b, e, hl, hc⟩
  · exact .inl h
  · exact .inr ⟨b, e, Nat.lt_of_lt_of_le hl hb.size, fun i z hz => by rw [hb.cell (p := ⟨b, i, none⟩) hl]; exact hc i z hz⟩
/-- A row of bytes of the call's own. -/
def OwnB (w : World) (B : Nat) (v : Value) (l : List Nat) : Prop := w.ownsRow B 5 1 v l.length ((l.map (fun x : Nat => (x : Int))).map (Value.int .u8))
theorem OwnB.keep {w w' : World} {B : Nat} {v : Value} {l : List Nat} (h : OwnB w B v l) (hb : Below w.heap.size w w') : OwnB w' B v l := by
  refine ⟨h.1, ?_⟩
  rcases h.2 with h | ⟨g, cap, cur, e, h1, h2, h3⟩
  · exact .inl h
  · exact .inr ⟨g, cap, cur, e, h1, by rw [hb.block g (heap_lt h2)]; exact h2, h3⟩
theorem OwnB.form {w : World} {B : Nat} {v : Value} {l : List Nat} (h : OwnB w B v l) : ∃ a c, v = .slice a l.length c ∧ l.length ≤ c := by
  rcases h.2 with ⟨h, h'⟩ | ⟨g, cap, _, e, _, _, hc, _⟩
  · exact ⟨none, 0, by rw [h']; exact h, by omega⟩
  · exact ⟨_, _, e, hc⟩
theorem ownB_nil (w : World) (B : Nat) : OwnB w B (.slice none 0 0) [] := ⟨rfl, .inl ⟨rfl, rfl⟩⟩
theorem OwnB.bts {w : World} {B n c : Nat} {a : Option Addr} {l : List Nat} (h : OwnB w B (.slice a n c) l) : IsBts w a l := by
  rcases h.2 with ⟨_, h'⟩ | ⟨g, cap, cur, e, h1, h2, h3, _, _, ht⟩
  · exact .inl (List.eq_nil_of_length_eq_zero h')
  · simp only [Value.slice.injEq] at e
    obtain ⟨rfl, rfl, rfl⟩ := e
    refine .inr ⟨g, rfl, heap_lt h2, fun i z hz => ?_⟩
    have hi : i < l.length := by
      rcases Nat.lt_or_ge i l.length with h | h
      · exact h
      · rw [List.getElem?_eq_none h] at hz; cases hz
    have := World.ownsRow.cellAt h i (by omega)
    rw [this]
    simp [hz]
end Go.Proofs.Ytiflnlaapkbofaa
