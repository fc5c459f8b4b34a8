/- Arcs read back: what DerOidRead answers. Plain mathematics: no program is named here. -/
import Derived.Test.YtochmolhpcidgahDerO
namespace Go.Proofs.Ytochmolhpcidgah
open Go.RowKit

/-- One arc read: 'a' tells that no byte of it was read yet, n is what was read. -/
def sevQ : Bool → Nat → List Nat → Option (Nat × List Nat)
  | _, _, [] => none
  | a, n, b :: r => if a = true ∧ b = 128 then none else if 2147483647 < n * 128 + b % 128 then none else if b < 128 then some (n * 128 + b % 128, r) else sevQ false (n * 128 + b % 128) r
/-- All arcs behind the first two. -/
def restQ : Nat → List Nat → List Int → Option (List Int)
  | 0, _, acc => some acc
  | f + 1, l, acc => match l with
    | [] => some acc
    | b :: r => match sevQ true 0 (b :: r) with
      | none => none
      | some (n, t) => restQ f t (acc ++ [(n : Int)])
def two (h : Nat) : List Int := [((min (h / 40) 2 : Nat) : Int), (h : Int) - 40 * ((min (h / 40) 2 : Nat) : Int)]
def arcsQ (l : List Nat) : Option (List Int) := match sevQ true 0 l with
  | none => none
  | some (h, t) => restQ l.length t (two h)
/-- The arcs whose bytes these are. -/
def oidQ (l : List Nat) : Option (List Int) := match arcsQ l with
  | none => none
  | some z => if arcsB z = true then some z else none
/-- Numbers of seven bits, read as the specification reads them. -/
def spQ : List Nat → Nat → List Nat → Option (List Nat)
  | nums, _, [] => some nums
  | nums, n, b :: r => if 2147483647 < 128 * n + b % 128 ∨ 10 < nums.length then none else if b < 128 then spQ (nums ++ [128 * n + b % 128]) 0 r else spQ nums (128 * n + b % 128) r

def nats (l : List Int) : List Nat := l.map Int.toNat
theorem nats_append (a b : List Int) : nats (a ++ b) = nats a ++ nats b := by simp [nats]
/-- Running over the bytes ahead of the last one. -/
theorem sevQ_high : ∀ (f y : Nat) (t : List Nat), y < 128 ^ f → y ≤ 16777215 → sevQ true 0 (nats (sevH f y) ++ t) = sevQ (decide (y = 0)) y t
  | f, y, t, hf, hy => by
    by_cases h0 : y = 0
    · subst h0; rw [sevH_zero]; rfl
    · obtain ⟨g, rfl, hg, e⟩ := sevH_more h0 hf
      rw [e, nats_append, List.append_assoc, sevQ_high g (y / 128) _ hg (by omega)]
      show sevQ _ _ ((y % 128 + 128) :: t) = _
      rw [sevQ, if_neg (by simp; omega), if_neg (by omega), if_neg (by omega), decide_eq_false h0]
      congr 1; omega
theorem sevQ_full {x : Nat} (hx : x ≤ 2147483647) (r : List Nat) : sevQ true 0 (nats (sevL x) ++ r) = some (x, r) := by
  rw [sevL, nats_append, List.append_assoc, sevQ_high 9 (x / 128) _ (by rw [p9]; omega) (by omega)]
  show sevQ _ _ (x % 128 :: r) = _
  rw [sevQ, if_neg (by omega), if_neg (by omega), if_pos (by omega)]
  congr 2; omega
theorem spQ_high : ∀ (f y : Nat) (nums t : List Nat), y < 128 ^ f → y ≤ 16777215 → nums.length ≤ 10 → spQ nums 0 (nats (sevH f y) ++ t) = spQ nums y t
  | f, y, nums, t, hf, hy, hn => by
    by_cases h0 : y = 0
    · subst h0; rw [sevH_zero]; rfl
    · obtain ⟨g, rfl, hg, e⟩ := sevH_more h0 hf
      rw [e, nats_append, List.append_assoc, spQ_high g (y / 128) nums _ hg (by omega) hn]
      show spQ _ _ ((y % 128 + 128) :: t) = _
      rw [spQ, if_neg (by omega), if_neg (by omega)]
      congr 1; omega
theorem spQ_full {x : Nat} (hx : x ≤ 2147483647) (nums r : List Nat) (hn : nums.length ≤ 10) : spQ nums 0 (nats (sevL x) ++ r) = spQ (nums ++ [x]) 0 r := by
  rw [sevL, nats_append, List.append_assoc, spQ_high 9 (x / 128) nums _ (by rw [p9]; omega) (by omega) hn]
  show spQ _ _ (x % 128 :: r) = _
  rw [spQ, if_neg (by omega), if_pos (by omega)]
  congr 3; omega
/-- What a run of high bytes stands for. -/
def valQ (q : List Nat) : Nat := q.foldl (fun n b => n * 128 + b % 128) 0
theorem valQ_snoc (q : List Nat) (b : Nat) : valQ (q ++ [b]) = valQ q * 128 + b % 128 := by simp [valQ]
theorem high_back : ∀ (k : Nat) (q : List Nat), q.length = k → (∀ b ∈ q, 128 ≤ b ∧ b < 256) → q.head? ≠ some 128 → valQ q < 128 ^ k ∧ (q ≠ [] → valQ q ≠ 0) ∧ nats (sevH k (valQ q)) = q
  | 0, q, h, _, _ => by
    obtain rfl := List.eq_nil_of_length_eq_zero h
    exact ⟨by decide, fun h => absurd rfl h, rfl⟩
  | k + 1, q, h, hb, hh => by
    obtain ⟨p, b, rfl⟩ : ∃ p b, q = p ++ [b] := ⟨q.dropLast, q.getLast (by intro e; rw [e] at h; simp at h), (List.dropLast_concat_getLast _).symm⟩
    have hp : p.length = k := by simpa using h
    have hbb := hb b (by simp)
    have hh' : p.head? ≠ some 128 := by
      cases p with
      | nil => simp
      | cons x p => simpa using hh
    obtain ⟨i1, i2, i3⟩ := high_back k p hp (fun x hx => hb x (by simp [hx])) hh'
    have hv0 : valQ (p ++ [b]) ≠ 0 := by
      rw [valQ_snoc]
      cases p with
      | nil =>
        have : b ≠ 128 := by simpa using hh
        simp [valQ]; omega
      | cons x p => have := i2 (by simp); omega
    refine ⟨?_, fun _ => hv0, ?_⟩
    · rw [valQ_snoc, Nat.pow_succ]
      have : b % 128 < 128 := Nat.mod_lt _ (by omega)
      omega
    · rw [sevH, if_neg hv0, nats_append, valQ_snoc, show (valQ p * 128 + b % 128) / 128 = valQ p from by omega, i3]
      show p ++ [(valQ p * 128 + b % 128) % 128 + 128] = _
      congr 2; omega
theorem sevH_mono : ∀ (f g x : Nat), x < 128 ^ f → f ≤ g → sevH g x = sevH f x
  | f, g, x, hx, hg => by
    by_cases h0 : x = 0
    · subst h0; rw [sevH_zero, sevH_zero]
    · obtain ⟨f', rfl, hf', e⟩ := sevH_more h0 hx
      obtain ⟨g', rfl⟩ : ∃ g', g = g' + 1 := ⟨g - 1, by omega⟩
      rw [e, sevH, if_neg h0, sevH_mono f' g' (x / 128) hf' (by omega)]
/-- What is read of bytes is written by just these. -/
theorem sevQ_back : ∀ (l q : List Nat) (m : Nat) (r : List Nat), (∀ b ∈ l, b < 256) → (∀ b ∈ q, 128 ≤ b ∧ b < 256) → q.head? ≠ some 128 → sevQ (decide (q = [])) (valQ q) l = some (m, r) →
    m ≤ 2147483647 ∧ ∃ p, l = p ++ r ∧ p ≠ [] ∧ q ++ p = nats (sevL m)
  | [], q, m, r, _, _, _, h => by simp [sevQ] at h
  | b :: l, q, m, r, hl, hq, hh, h => by
    have hb := hl b (by simp)
    rw [sevQ] at h
    split at h
    · simp at h
    · rename_i h1
      split at h
      · simp at h
      · rename_i h2
        split at h
        · rename_i h3
          simp only [Option.some.injEq, Prod.mk.injEq] at h
          obtain ⟨rfl, rfl⟩ := h
          refine ⟨by omega, [b], rfl, by simp, ?_⟩
          obtain ⟨i1, _, i3⟩ := high_back q.length q rfl hq hh
          have e1 : (valQ q * 128 + b % 128) / 128 = valQ q := by omega
          have e2 : (valQ q * 128 + b % 128) % 128 = b := by omega
          rw [sevL, e1, e2, nats_append]
          have hlen : sevH 9 (valQ q) = sevH q.length (valQ q) := by
            rcases Nat.le_total q.length 9 with hle | hle
            · exact sevH_mono _ _ _ i1 hle
            · exact (sevH_mono _ _ _ (by rw [p9]; omega) hle).symm
          rw [hlen, i3]; rfl
        · rename_i h3
          have hne : (q ++ [b]).head? ≠ some 128 := by
            cases q with
            | nil => simpa using h1
            | cons x q => simpa using hh
          have h' : sevQ (decide (q ++ [b] = [])) (valQ (q ++ [b])) l = some (m, r) := by
            rw [decide_eq_false (by simp), valQ_snoc]; exact h
          obtain ⟨i1, p, hp, hpn, he⟩ := sevQ_back l (q ++ [b]) m r (fun x hx => hl x (by simp [hx])) (fun x hx => by
            rcases List.mem_append.1 hx with hx | hx
            · exact hq x hx
            · simp at hx; subst hx; omega) hne h'
          exact ⟨i1, b :: p, by rw [hp]; rfl, by simp, by rw [← he]; simp⟩
theorem sevQ_sound {l : List Nat} {m : Nat} {r : List Nat} (hl : ∀ b ∈ l, b < 256) (h : sevQ true 0 l = some (m, r)) : m ≤ 2147483647 ∧ l = nats (sevL m) ++ r ∧ r.length < l.length := by
  obtain ⟨h1, p, hp, hn, he⟩ := sevQ_back l [] m r hl (by simp) (by simp) h
  refine ⟨h1, by rw [← he, hp]; rfl, ?_⟩
  rw [hp, List.length_append]
  have : 0 < p.length := List.length_pos_iff.2 hn
  omega
end Go.Proofs.Ytochmolhpcidgah
