/- Reading Base64: what each sign stands for, and eight by eight again. Plain mathematics. -/
import Derived.Test.YtiflnlaapkbofaaB64Q
namespace Go.Proofs.Ytiflnlaapkbofaa
open Go.RowKit Go.Lib

/-- What a sign stands for. -/
def sgi (c : Nat) : Option Nat := (List.range 64).find? fun q => decide (sg q = (c : Int))
def sgk (c : Nat) : Int := match sgi c with
  | some q => (q : Int)
  | none => -1
theorem sg_inj : ∀ q q' : Fin 64, sg q = sg q' → q = q' := by decide +kernel
theorem sg_range : ∀ q : Fin 64, 0 ≤ sg q ∧ sg q < 128 := by decide +kernel
theorem sgi_some {c q : Nat} (h : sgi c = some q) : q < 64 ∧ sg q = (c : Int) := by
  have h1 := List.mem_of_find?_eq_some h
  have h2 := List.find?_some h
  exact ⟨List.mem_range.1 h1, of_decide_eq_true h2⟩
theorem sgi_none {c : Nat} (h : sgi c = none) : ∀ q, q < 64 → sg q ≠ (c : Int) := by
  intro q hq e
  have := List.find?_eq_none.1 h q (List.mem_range.2 hq)
  exact this (decide_eq_true e)
theorem sgi_eq {c q : Nat} (hq : q < 64) (h : sg q = (c : Int)) : sgi c = some q := by
  cases hh : sgi c with
  | none => exact absurd h (sgi_none hh q hq)
  | some q' =>
    have h1 := sgi_some hh
    have := sg_inj ⟨q', h1.1⟩ ⟨q, hq⟩ (h1.2.trans h.symm)
    simp at this
    rw [this]
theorem sgi_high {c : Nat} (h : 128 ≤ c) : sgi c = none := by
  cases hh : sgi c with
  | none => rfl
  | some q =>
    have h1 := sgi_some hh
    have h2 := sg_range ⟨q, h1.1⟩
    simp only at h2
    omega
def readV : List Nat → Option (List Nat)
  | [] => some []
  | c :: r => match sgi c with
    | none => none
    | some q => (readV r).map (q :: ·)
theorem readV_len : ∀ (l vs : List Nat), readV l = some vs → vs.length = l.length
  | [], vs, h => by simp [readV] at h; subst h; rfl
  | c :: r, vs, h => by
    rw [readV] at h
    split at h
    · cases h
    · cases hr : readV r with
      | none => rw [hr] at h; cases h
      | some v2 =>
        rw [hr] at h
        simp at h
        subst h
        simp [readV_len r v2 hr]
theorem readV_lt : ∀ (l vs : List Nat), readV l = some vs → ∀ x ∈ vs, x < 64
  | [], vs, h => by simp [readV] at h; subst h; simp
  | c :: r, vs, h => by
    rw [readV] at h
    split at h
    · cases h
    · rename_i q hq
      cases hr : readV r with
      | none => rw [hr] at h; cases h
      | some v2 =>
        rw [hr] at h
        simp at h
        subst h
        intro x hx
        rcases List.mem_cons.1 hx with rfl | hx
        · exact (sgi_some hq).1
        · exact readV_lt r v2 hr x hx
/-- Six by six to eight by eight: h is held, c bits. -/
def rgi : List Nat → Nat → Nat → List Nat × Nat × Nat
  | [], h, c => ([], h, c)
  | g :: r, h, c =>
    if c = 0 then rgi r (h * 64 + g) 6
    else if c = 6 then ((h * 64 + g) / 16 :: (rgi r ((h * 64 + g) % 16) 4).1, (rgi r ((h * 64 + g) % 16) 4).2)
    else if c = 4 then ((h * 64 + g) / 4 :: (rgi r ((h * 64 + g) % 4) 2).1, (rgi r ((h * 64 + g) % 4) 2).2)
    else ((h * 64 + g) :: (rgi r 0 0).1, (rgi r 0 0).2)
theorem rgi_len : ∀ (l : List Nat) (h c : Nat), (rgi l h c).1.length ≤ 2 * l.length
  | [], _, _ => Nat.le_refl _
  | g :: r, h, c => by
    have h1 := rgi_len r (h * 64 + g) 6
    have h2 := rgi_len r ((h * 64 + g) % 16) 4
    have h3 := rgi_len r ((h * 64 + g) % 4) 2
    have h4 := rgi_len r 0 0
    rw [rgi]
    split
    · simp only [List.length_cons]; omega
    · split
      · simp only [List.length_cons]; omega
      · split
        · simp only [List.length_cons]; omega
        · simp only [List.length_cons]; omega
def natT (l : List Nat) : ByteArray := strOfNums (l.map fun x : Nat => (x : Int))
theorem natT_size (l : List Nat) : (natT l).size = l.length := by unfold natT; rw [strOfNums_size, List.length_map]
/-- What Base64Read tells. -/
def readTD (s : ByteArray) : ByteArray × Int :=
  if 20000 < s.size then (⟨#[]⟩, 2) else
  match readV (bts s) with
  | none => (⟨#[]⟩, 3)
  | some vs => if base64D (natT (rgi vs 0 0).1) = s then (natT (rgi vs 0 0).1, 0) else (⟨#[]⟩, 3)
theorem read_same {s : ByteArray} {vs : List Nat} (h : readV (bts s) = some vs) : base64D (natT (rgi vs 0 0).1) = s ↔ ((rgi vs 0 0).1.length ≤ 4000 ∧ b64D (natT (rgi vs 0 0).1) = s) := by
  have hl := readV_len _ _ h
  rw [bts_len] at hl
  unfold base64D
  rw [natT_size]
  by_cases h4 : 4000 < (rgi vs 0 0).1.length
  · rw [if_pos h4]
    constructor
    · intro e
      exfalso
      rw [← e] at hl
      have : vs = [] := List.eq_nil_of_length_eq_zero (by rw [hl]; rfl)
      subst this
      simp [rgi] at h4
    · intro e
      omega
  · rw [if_neg h4]
    constructor
    · intro e
      exact ⟨by omega, e⟩
    · intro e
      exact e.2
end Go.Proofs.Ytiflnlaapkbofaa
