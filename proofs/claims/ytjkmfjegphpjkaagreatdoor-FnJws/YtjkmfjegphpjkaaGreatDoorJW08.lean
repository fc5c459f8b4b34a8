/- Arcs in bytes of seven bits. Plain mathematics: no program is named here. Arcs read back: what DerOidRead answers. Plain mathematics: no program is named here. Arcs read back, as both read them. Plain mathematics: no program is named here. Rows of things: what DerAll answers. No program is named here. -/
import Derived.Test.YtjkmfjegphpjkaaGreatDoorJW07
import Derived.Lib.BitFns
import Derived.Lib.Strings
namespace Go.Proofs.YtjkmfjegphpjkaaGreatDoor
open Go.RowKit

/-- The bytes of seven bits ahead of the last one, the highest first. -/
def sevH : Nat → Nat → List Int
  | 0, _ => []
  | f + 1, x => if x = 0 then [] else sevH f (x / 128) ++ [((x % 128 + 128 : Nat) : Int)]
def sevL (x : Nat) : List Int := sevH 9 (x / 128) ++ [((x % 128 : Nat) : Int)]
theorem sevH_zero (f : Nat) : sevH f 0 = [] := by cases f <;> simp [sevH]
theorem sevH_more {f x : Nat} (h : x ≠ 0) (hf : x < 128 ^ f) : ∃ g, f = g + 1 ∧ x / 128 < 128 ^ g ∧ sevH f x = sevH g (x / 128) ++ [((x % 128 + 128 : Nat) : Int)] := by
  cases f with
  | zero => simp at hf; omega
  | succ g => exact ⟨g, rfl, by rw [Nat.pow_succ] at hf; omega, by rw [sevH, if_neg h]⟩
theorem bitLen_seven {x : Nat} (h : x ≠ 0) (hx : x < 18446744073709551616) : (Lib.bitLen x + 6) / 7 = (Lib.bitLen (x / 128) + 6) / 7 + 1 := by
  by_cases h2 : 128 ≤ x
  · have := Lib.bitLen_shift 7 x h2 hx
    have e : x / 2 ^ 7 = x / 128 := rfl
    rw [e] at this
    omega
  · have e : x / 128 = 0 := by omega
    have e0 : Lib.bitLen 0 = 0 := by decide
    have l := Lib.bitLen_le x 7 (by omega) (by omega)
    have g := Lib.bitLen_half x h (by omega)
    rw [e, e0]; omega
theorem sevH_len : ∀ (f x : Nat), x < 128 ^ f → x < 18446744073709551616 → (sevH f x).length = (Lib.bitLen x + 6) / 7
  | f, x, h, hx => by
    by_cases h0 : x = 0
    · subst h0
      rw [sevH_zero]
      have e0 : Lib.bitLen 0 = 0 := by decide
      rw [e0]; rfl
    · obtain ⟨g, rfl, hg, e⟩ := sevH_more h0 h
      rw [e, List.length_append, sevH_len g (x / 128) hg (by omega), bitLen_seven h0 hx]
      rfl
theorem p9 : (128 : Nat) ^ 9 = 9223372036854775808 := by decide
theorem sevL_len {x : Nat} (hx : x < 9223372036854775808) : (sevL x).length = (Lib.bitLen (x / 128) + 6) / 7 + 1 := by
  rw [sevL, List.length_append, sevH_len 9 (x / 128) (by rw [p9]; omega) (by omega)]; rfl
/-- As impl counts them. -/
theorem sevL_count {x : Nat} (hx : x < 9223372036854775808) : (sevL x).length = max 1 ((Lib.bitLen x + 6) / 7) := by
  rw [sevL_len hx]
  by_cases h : x = 0
  · subst h; decide
  · rw [bitLen_seven h (by omega)]; omega
theorem sevL_small {x : Nat} (hx : x < 34359738368) : (sevL x).length ≤ 5 := by
  rw [sevL_len (by omega)]
  have := Lib.bitLen_le (x / 128) 28 (by omega) (by omega)
  omega
theorem sevL_pos (x : Nat) : 1 ≤ (sevL x).length := by simp [sevL]
theorem sevH_at : ∀ (f x i : Nat), x < 128 ^ f → i < (sevH f x).length → (sevH f x).getD ((sevH f x).length - 1 - i) 0 = ((x / 128 ^ i % 128 + 128 : Nat) : Int)
  | f, x, i, h, hi => by
    by_cases h0 : x = 0
    · subst h0; rw [sevH_zero] at hi; simp at hi
    · obtain ⟨g, rfl, hg, e⟩ := sevH_more h0 h
      rw [e] at hi ⊢
      simp only [List.length_append, List.length_singleton] at hi ⊢
      cases i with
      | zero => simp [List.getD]
      | succ i =>
        have ih := sevH_at g (x / 128) i hg (by omega)
        rw [List.getD] at ih
        rw [List.getD, List.getElem?_append_left (by omega), show (sevH g (x / 128)).length + 1 - 1 - (i + 1) = (sevH g (x / 128)).length - 1 - i from by omega, ih, Nat.div_div_eq_div_mul, Nat.pow_succ, Nat.mul_comm]
theorem sevL_last (x : Nat) : (sevL x).getD ((sevL x).length - 1) 0 = ((x % 128 : Nat) : Int) := by
  simp [sevL, List.getD]
theorem sevL_at {x i : Nat} (hx : x < 9223372036854775808) (h0 : 0 < i) (hi : i < (sevL x).length) : (sevL x).getD ((sevL x).length - 1 - i) 0 = ((x / 128 ^ i % 128 + 128 : Nat) : Int) := by
  obtain ⟨j, rfl⟩ : ∃ j, i = j + 1 := ⟨i - 1, by omega⟩
  unfold sevL at hi ⊢
  simp only [List.length_append, List.length_singleton] at hi ⊢
  have ih := sevH_at 9 (x / 128) j (by rw [p9]; omega) (by omega)
  rw [List.getD] at ih
  rw [List.getD, List.getElem?_append_left (by omega), show (sevH 9 (x / 128)).length + 1 - 1 - (j + 1) = (sevH 9 (x / 128)).length - 1 - j from by omega, ih, Nat.div_div_eq_div_mul, Nat.pow_succ, Nat.mul_comm]
theorem strOfNums_append (a b : List Int) : strOfNums (a ++ b) = strOfNums a ++ strOfNums b := by
  rw [strOfNums, strOfNums, strOfNums, ByteArray.mk_append_mk]
  simp
/-- The most that the second arc may be. -/
def most2 (x : Int) : Int := if x = 2 then 100 else 39
/-- Are they arcs? -/
def arcsB (l : List Int) : Bool :=
  decide (2 ≤ l.length) && decide (l.length ≤ 10) && decide (0 ≤ l.getD 0 0) && decide (l.getD 0 0 ≤ 2) && decide (0 ≤ l.getD 1 0) && decide (l.getD 1 0 ≤ most2 (l.getD 0 0)) && (l.drop 2).all fun x => decide (0 ≤ x) && decide (x ≤ 2147483647)
theorem arcsB_iff {l : List Int} : arcsB l = true ↔ 2 ≤ l.length ∧ l.length ≤ 10 ∧ 0 ≤ l.getD 0 0 ∧ l.getD 0 0 ≤ 2 ∧ 0 ≤ l.getD 1 0 ∧ l.getD 1 0 ≤ most2 (l.getD 0 0) ∧ ∀ j, 2 ≤ j → j < l.length → 0 ≤ l.getD j 0 ∧ l.getD j 0 ≤ 2147483647 := by
  unfold arcsB
  simp only [Bool.and_eq_true, decide_eq_true_eq, List.all_eq_true, and_assoc]
  constructor
  · rintro ⟨a, b, c, d, e, f, g⟩
    refine ⟨a, b, c, d, e, f, fun j h1 h2 => ?_⟩
    have hm : l.getD j 0 ∈ l.drop 2 := by
      rw [List.getD, List.getElem?_eq_getElem h2]
      refine List.mem_iff_getElem?.2 ⟨j - 2, ?_⟩
      rw [List.getElem?_drop, show 2 + (j - 2) = j from by omega, List.getElem?_eq_getElem h2]; rfl
    exact g _ hm
  · rintro ⟨a, b, c, d, e, f, g⟩
    refine ⟨a, b, c, d, e, f, fun x hx => ?_⟩
    obtain ⟨i, hi⟩ := List.mem_iff_getElem?.1 hx
    rw [List.getElem?_drop] at hi
    have hl : 2 + i < l.length := by
      rcases Nat.lt_or_ge (2 + i) l.length with h | h
      · exact h
      · rw [List.getElem?_eq_none h] at hi; cases hi
    have := g (2 + i) (by omega) hl
    rw [List.getD, hi] at this
    exact this
/-- The arcs ahead of the k-th in bytes (k at least 2). -/
def oidTo (l : List Int) : Nat → List Int
  | 0 => sevL (40 * l.getD 0 0 + l.getD 1 0).toNat
  | k + 1 => oidTo l k ++ sevL (l.getD (k + 2) 0).toNat
def oidL (l : List Int) : List Int := oidTo l (l.length - 2)
def oidD (l : List Int) : ByteArray := if arcsB l = true then thingD 6 (strOfNums (oidL l)) else ByteArray.empty
theorem oidTo_len {l : List Int} (h : arcsB l = true) : ∀ k, k + 2 ≤ l.length → (oidTo l k).length ≤ 5 + 5 * k
  | 0, _ => by
    have := arcsB_iff.1 h
    have m : most2 (l.getD 0 0) ≤ 100 := by unfold most2; split <;> omega
    have := sevL_small (x := (40 * l.getD 0 0 + l.getD 1 0).toNat) (by omega)
    rw [oidTo]; omega
  | k + 1, hk => by
    have ih := oidTo_len h k (by omega)
    have := (arcsB_iff.1 h).2.2.2.2.2.2 (k + 2) (by omega) (by omega)
    have := sevL_small (x := (l.getD (k + 2) 0).toNat) (by omega)
    rw [oidTo, List.length_append]; omega
theorem oidL_len {l : List Int} (h : arcsB l = true) : (oidL l).length ≤ 45 := by
  have := arcsB_iff.1 h
  have := oidTo_len h (l.length - 2) (by omega)
  unfold oidL; omega
end Go.Proofs.YtjkmfjegphpjkaaGreatDoor
namespace Go.Proofs.YtjkmfjegphpjkaaGreatDoor
open Go.RowKit

/-- One arc read: 'a' tells that no byte of it was read yet, n is what was read. -/
def sevQ : Bool → Nat → List Nat → Option (Nat × List Nat)
  | _, _, [] => none
  | a, n, b :: r => if a = true ∧ b = 128 then none else if 2147483647 < n * 128 + b % 128 then none else if b < 128 then some (n * 128 + b % 128, r) else sevQ false (n * 128 + b % 128) r
/-- All arcs behind the first two. -/
def restQ : Nat → List Nat → List Int → Option (List Int)
  | 0, _, acc => some acc
  | f + 1, l, acc => match l with
    | [] => some acc
    | b :: r => match sevQ true 0 (b :: r) with
      | none => none
      | some (n, t) => restQ f t (acc ++ [(n : Int)])
def two (h : Nat) : List Int := [((min (h / 40) 2 : Nat) : Int), (h : Int) - 40 * ((min (h / 40) 2 : Nat) : Int)]
def arcsQ (l : List Nat) : Option (List Int) := match sevQ true 0 l with
  | none => none
  | some (h, t) => restQ l.length t (two h)
/-- The arcs whose bytes these are. -/
def oidQ (l : List Nat) : Option (List Int) := match arcsQ l with
  | none => none
  | some z => if arcsB z = true then some z else none
/-- Numbers of seven bits, read as the specification reads them. -/
def spQ : List Nat → Nat → List Nat → Option (List Nat)
  | nums, _, [] => some nums
  | nums, n, b :: r => if 2147483647 < 128 * n + b % 128 ∨ 10 < nums.length then none else if b < 128 then spQ (nums ++ [128 * n + b % 128]) 0 r else spQ nums (128 * n + b % 128) r

def nats (l : List Int) : List Nat := l.map Int.toNat
theorem nats_append (a b : List Int) : nats (a ++ b) = nats a ++ nats b := by simp [nats]
/-- Running over the bytes ahead of the last one. -/
theorem sevQ_high : ∀ (f y : Nat) (t : List Nat), y < 128 ^ f → y ≤ 16777215 → sevQ true 0 (nats (sevH f y) ++ t) = sevQ (decide (y = 0)) y t
  | f, y, t, hf, hy => by
    by_cases h0 : y = 0
    · subst h0; rw [sevH_zero]; rfl
    · obtain ⟨g, rfl, hg, e⟩ := sevH_more h0 hf
      rw [e, nats_append, List.append_assoc, sevQ_high g (y / 128) _ hg (by omega)]
      show sevQ _ _ ((y % 128 + 128) :: t) = _
      rw [sevQ, if_neg (by simp; omega), if_neg (by omega), if_neg (by omega), decide_eq_false h0]
      congr 1; omega
theorem sevQ_full {x : Nat} (hx : x ≤ 2147483647) (r : List Nat) : sevQ true 0 (nats (sevL x) ++ r) = some (x, r) := by
  rw [sevL, nats_append, List.append_assoc, sevQ_high 9 (x / 128) _ (by rw [p9]; omega) (by omega)]
  show sevQ _ _ (x % 128 :: r) = _
  rw [sevQ, if_neg (by omega), if_neg (by omega), if_pos (by omega)]
  congr 2; omega
theorem spQ_high : ∀ (f y : Nat) (nums t : List Nat), y < 128 ^ f → y ≤ 16777215 → nums.length ≤ 10 → spQ nums 0 (nats (sevH f y) ++ t) = spQ nums y t
  | f, y, nums, t, hf, hy, hn => by
    by_cases h0 : y = 0
    · subst h0; rw [sevH_zero]; rfl
    · obtain ⟨g, rfl, hg, e⟩ := sevH_more h0 hf
      rw [e, nats_append, List.append_assoc, spQ_high g (y / 128) nums _ hg (by omega) hn]
      show spQ _ _ ((y % 128 + 128) :: t) = _
      rw [spQ, if_neg (by omega), if_neg (by omega)]
      congr 1; omega
theorem spQ_full {x : Nat} (hx : x ≤ 2147483647) (nums r : List Nat) (hn : nums.length ≤ 10) : spQ nums 0 (nats (sevL x) ++ r) = spQ (nums ++ [x]) 0 r := by
  rw [sevL, nats_append, List.append_assoc, spQ_high 9 (x / 128) nums _ (by rw [p9]; omega) (by omega) hn]
  show spQ _ _ (x % 128 :: r) = _
  rw [spQ, if_neg (by omega), if_pos (by omega)]
  congr 3; omega
/-- What a run of high bytes stands for. -/
def valQ (q : List Nat) : Nat := q.foldl (fun n b => n * 128 + b % 128) 0
theorem valQ_snoc (q : List Nat) (b : Nat) : valQ (q ++ [b]) = valQ q * 128 + b % 128 := by simp [valQ]
theorem high_back : ∀ (k : Nat) (q : List Nat), q.length = k → (∀ b ∈ q, 128 ≤ b ∧ b < 256) → q.head? ≠ some 128 → valQ q < 128 ^ k ∧ (q ≠ [] → valQ q ≠ 0) ∧ nats (sevH k (valQ q)) = q
  | 0, q, h, _, _ => by
    obtain rfl := List.eq_nil_of_length_eq_zero h
    exact ⟨by decide, fun h => absurd rfl h, rfl⟩
  | k + 1, q, h, hb, hh => by
    obtain ⟨p, b, rfl⟩ : ∃ p b, q = p ++ [b] := ⟨q.dropLast, q.getLast (by intro e; rw [e] at h; simp at h), (List.dropLast_concat_getLast _).symm⟩
    have hp : p.length = k := by simpa using h
    have hbb := hb b (by simp)
    have hh' : p.head? ≠ some 128 := by
      cases p with
      | nil => simp
      | cons x p => simpa using hh
    obtain ⟨i1, i2, i3⟩ := high_back k p hp (fun x hx => hb x (by simp [hx])) hh'
    have hv0 : valQ (p ++ [b]) ≠ 0 := by
      rw [valQ_snoc]
      cases p with
      | nil =>
        have : b ≠ 128 := by simpa using hh
        simp [valQ]; omega
      | cons x p => have := i2 (by simp); omega
    refine ⟨?_, fun _ => hv0, ?_⟩
    · rw [valQ_snoc, Nat.pow_succ]
      have : b % 128 < 128 := Nat.mod_lt _ (by omega)
      omega
    · rw [sevH, if_neg hv0, nats_append, valQ_snoc, show (valQ p * 128 + b % 128) / 128 = valQ p from by omega, i3]
      show p ++ [(valQ p * 128 + b % 128) % 128 + 128] = _
      congr 2; omega
theorem sevH_mono : ∀ (f g x : Nat), x < 128 ^ f → f ≤ g → sevH g x = sevH f x
  | f, g, x, hx, hg => by
    by_cases h0 : x = 0
    · subst h0; rw [sevH_zero, sevH_zero]
    · obtain ⟨f', rfl, hf', e⟩ := sevH_more h0 hx
      obtain ⟨g', rfl⟩ : ∃ g', g = g' + 1 := ⟨g - 1, by omega⟩
      rw [e, sevH, if_neg h0, sevH_mono f' g' (x / 128) hf' (by omega)]
/-- What is read of bytes is written by just these. -/
theorem sevQ_back : ∀ (l q : List Nat) (m : Nat) (r : List Nat), (∀ b ∈ l, b < 256) → (∀ b ∈ q, 128 ≤ b ∧ b < 256) → q.head? ≠ some 128 → sevQ (decide (q = [])) (valQ q) l = some (m, r) →
    m ≤ 2147483647 ∧ ∃ p, l = p ++ r ∧ p ≠ [] ∧ q ++ p = nats (sevL m)
  | [], q, m, r, _, _, _, h => by simp [sevQ] at h
  | b :: l, q, m, r, hl, hq, hh, h => by
    have hb := hl b (by simp)
    rw [sevQ] at h
    split at h
    · simp at h
    · rename_i h1
      split at h
      · simp at h
      · rename_i h2
        split at h
        · rename_i h3
          simp only [Option.some.injEq, Prod.mk.injEq] at h
          obtain ⟨rfl, rfl⟩ := h
          refine ⟨by omega, [b], rfl, by simp, ?_⟩
          obtain ⟨i1, _, i3⟩ := high_back q.length q rfl hq hh
          have e1 : (valQ q * 128 + b % 128) / 128 = valQ q := by omega
          have e2 : (valQ q * 128 + b % 128) % 128 = b := by omega
          rw [sevL, e1, e2, nats_append]
          have hlen : sevH 9 (valQ q) = sevH q.length (valQ q) := by
            rcases Nat.le_total q.length 9 with hle | hle
            · exact sevH_mono _ _ _ i1 hle
            · exact (sevH_mono _ _ _ (by rw [p9]; omega) hle).symm
          rw [hlen, i3]; rfl
        · rename_i h3
          have hne : (q ++ [b]).head? ≠ some 128 := by
            cases q with
            | nil => simpa using h1
            | cons x q => simpa using hh
          have h' : sevQ (decide (q ++ [b] = [])) (valQ (q ++ [b])) l = some (m, r) := by
            rw [decide_eq_false (by simp), valQ_snoc]; exact h
          obtain ⟨i1, p, hp, hpn, he⟩ := sevQ_back l (q ++ [b]) m r (fun x hx => hl x (by simp [hx])) (fun x hx => by
            rcases List.mem_append.1 hx with hx | hx
            · exact hq x hx
            · simp at hx; subst hx; omega) hne h'
          exact ⟨i1, b :: p, by rw [hp]; rfl, by simp, by rw [← he]; simp⟩
theorem sevQ_sound {l : List Nat} {m : Nat} {r : List Nat} (hl : ∀ b ∈ l, b < 256) (h : sevQ true 0 l = some (m, r)) : m ≤ 2147483647 ∧ l = nats (sevL m) ++ r ∧ r.length < l.length := by
  obtain ⟨h1, p, hp, hn, he⟩ := sevQ_back l [] m r hl (by simp) (by simp) h
  refine ⟨h1, by rw [← he, hp]; rfl, ?_⟩
  rw [hp, List.length_append]
  have : 0 < p.length := List.length_pos_iff.2 hn
  omega
end Go.Proofs.YtjkmfjegphpjkaaGreatDoor
namespace Go.Proofs.YtjkmfjegphpjkaaGreatDoor
open Go.RowKit

/-- Arcs behind the first two in bytes. -/
def flatL (xs : List Int) : List Int := xs.flatMap fun x => sevL x.toNat
theorem flatL_cons (x : Int) (xs : List Int) : flatL (x :: xs) = sevL x.toNat ++ flatL xs := rfl
theorem flatL_len : ∀ xs : List Int, xs.length ≤ (flatL xs).length
  | [] => Nat.le_refl _
  | x :: xs => by
    have := sevL_pos x.toNat
    have := flatL_len xs
    rw [flatL_cons, List.length_append, List.length_cons]; omega
theorem flatL_snoc (x : Int) (xs : List Int) : flatL (xs ++ [x]) = flatL xs ++ sevL x.toNat := by simp [flatL]
theorem oidTo_flat (a b : Int) (xs : List Int) : ∀ k, k ≤ xs.length → oidTo (a :: b :: xs) k = sevL (40 * a + b).toNat ++ flatL (xs.take k)
  | 0, _ => by simp [oidTo, flatL]
  | k + 1, hk => by
    rw [oidTo, oidTo_flat a b xs k (by omega), List.take_succ_eq_append_getElem (by omega), flatL_snoc, List.append_assoc]
    congr 2
    simp [List.getD, List.getElem?_eq_getElem (show k < xs.length by omega)]
theorem oidL_flat (a b : Int) (xs : List Int) : oidL (a :: b :: xs) = sevL (40 * a + b).toNat ++ flatL xs := by
  have h := oidTo_flat a b xs xs.length (Nat.le_refl _)
  rw [List.take_length] at h
  rw [← h]; rfl
theorem restQ_nil (f : Nat) (acc : List Int) : restQ f [] acc = some acc := by cases f <;> rfl
theorem restQ_some {f : Nat} {l : List Nat} {acc : List Int} {n : Nat} {t : List Nat} (h : sevQ true 0 l = some (n, t)) : restQ (f + 1) l acc = restQ f t (acc ++ [(n : Int)]) := by
  cases l with
  | nil => simp [sevQ] at h
  | cons b r => rw [restQ]; simp only [h]
theorem restQ_none {f : Nat} {l : List Nat} {acc : List Int} (hl : l ≠ []) (h : sevQ true 0 l = none) : restQ (f + 1) l acc = none := by
  cases l with
  | nil => exact absurd rfl hl
  | cons b r => rw [restQ]; simp only [h]
theorem restQ_full : ∀ (xs : List Int) (acc : List Int) (f : Nat), (∀ x ∈ xs, 0 ≤ x ∧ x ≤ 2147483647) → xs.length ≤ f → restQ f (nats (flatL xs)) acc = some (acc ++ xs)
  | [], acc, f, _, _ => by rw [show nats (flatL []) = [] from rfl, restQ_nil]; simp
  | x :: xs, acc, f, hb, hf => by
    obtain ⟨g, rfl⟩ : ∃ g, f = g + 1 := ⟨f - 1, by simp at hf; omega⟩
    have hx := hb x (by simp)
    rw [flatL_cons, nats_append, restQ_some (sevQ_full (x := x.toNat) (by omega) _), restQ_full xs _ g (fun y hy => hb y (by simp [hy])) (by simp at hf; omega)]
    rw [show ((x.toNat : Nat) : Int) = x from by omega]; simp
theorem restQ_sound : ∀ (f : Nat) (l : List Nat) (acc z : List Int), l.length ≤ f → (∀ b ∈ l, b < 256) → restQ f l acc = some z → ∃ xs, z = acc ++ xs ∧ l = nats (flatL xs) ∧ ∀ x ∈ xs, 0 ≤ x ∧ x ≤ 2147483647
  | 0, l, acc, z, hl, _, h => by
    obtain rfl : l = [] := List.eq_nil_of_length_eq_zero (by omega)
    simp [restQ] at h
    exact ⟨[], by simp [h], rfl, by simp⟩
  | f + 1, l, acc, z, hl, hb, h => by
    by_cases h0 : l = []
    · subst h0
      rw [restQ_nil] at h
      simp at h
      exact ⟨[], by simp [h], rfl, by simp⟩
    · cases hq : sevQ true 0 l with
      | none => rw [restQ_none h0 hq] at h; simp at h
      | some p =>
        obtain ⟨n, t⟩ := p
        rw [restQ_some hq] at h
        obtain ⟨h1, h2, h3⟩ := sevQ_sound hb hq
        obtain ⟨xs, e1, e2, e3⟩ := restQ_sound f t _ z (by omega) (fun b hbt => hb b (by rw [h2]; simp [hbt])) h
        refine ⟨(n : Int) :: xs, by rw [e1]; simp, ?_, fun x hx => ?_⟩
        · rw [flatL_cons, nats_append, ← e2, show ((n : Int).toNat) = n from rfl]; exact h2
        · rcases List.mem_cons.1 hx with rfl | hx
          · omega
          · exact e3 x hx
theorem two_sum (h : Nat) : ∃ a b : Int, two h = [a, b] ∧ (40 * a + b).toNat = h := ⟨_, _, rfl, by omega⟩
theorem two_of {a b : Int} (h0 : 0 ≤ a) (h1 : a ≤ 2) (h2 : 0 ≤ b) (h3 : b ≤ most2 a) : two (40 * a + b).toNat = [a, b] := by
  have hm : most2 a = if a = 2 then 100 else 39 := rfl
  have e : ((min ((40 * a + b).toNat / 40) 2 : Nat) : Int) = a := by
    split at hm <;> omega
  unfold two
  rw [e]
  congr 2; omega
theorem oidQ_iff {l : List Nat} {z : List Int} (hl : ∀ b ∈ l, b < 256) : oidQ l = some z ↔ arcsB z = true ∧ nats (oidL z) = l := by
  constructor
  · intro h
    unfold oidQ at h
    split at h
    · simp at h
    · rename_i y hy
      split at h
      · rename_i ha
        simp at h
        subst h
        refine ⟨ha, ?_⟩
        unfold arcsQ at hy
        split at hy
        · simp at hy
        · rename_i n t hq
          obtain ⟨_, e1, e2⟩ := sevQ_sound hl hq
          obtain ⟨xs, e3, e4, _⟩ := restQ_sound _ t _ _ (by omega) (fun b hb => hl b (by rw [e1]; simp [hb])) hy
          obtain ⟨a, b, e5, e6⟩ := two_sum n
          rw [e5] at e3
          rw [e3]
          show nats (oidL (a :: b :: xs)) = l
          rw [oidL_flat, e6, nats_append, ← e4, ← e1]
      · simp at h
  · rintro ⟨ha, rfl⟩
    obtain ⟨r2, r10, r0, r0', r1, r1', rr⟩ := arcsB_iff.1 ha
    match z, r2, r0, r0', r1, r1', rr, ha with
    | a :: b :: xs, _, r0, r0', r1, r1', rr, ha =>
      have r0 : 0 ≤ a := r0
      have r0' : a ≤ 2 := r0'
      have r1 : 0 ≤ b := r1
      have r1' : b ≤ most2 a := r1'
      have hm : most2 a ≤ 100 := by unfold most2; split <;> omega
      have hx : ∀ x ∈ xs, 0 ≤ x ∧ x ≤ 2147483647 := fun x hx => by
        obtain ⟨i, hi⟩ := List.mem_iff_getElem?.1 hx
        have hil : i < xs.length := by
          rcases Nat.lt_or_ge i xs.length with h | h
          · exact h
          · rw [List.getElem?_eq_none h] at hi; cases hi
        have := rr (i + 2) (by omega) (by simp; omega)
        simpa [List.getD, hi] using this
      have hs := sevQ_full (x := (40 * a + b).toNat) (by omega) (nats (flatL xs))
      have hf : xs.length ≤ (nats (oidL (a :: b :: xs))).length := by
        have := flatL_len xs
        rw [oidL_flat]; simp [nats]; omega
      unfold oidQ arcsQ
      rw [show sevQ true 0 (nats (oidL (a :: b :: xs))) = some ((40 * a + b).toNat, nats (flatL xs)) from by rw [oidL_flat, nats_append]; exact hs]
      simp only [two_of r0 r0' r1 r1']
      rw [restQ_full xs [a, b] _ hx hf]
      simp only
      exact if_pos ha
theorem spQ_flat : ∀ (xs : List Int) (nums : List Nat), (∀ x ∈ xs, 0 ≤ x ∧ x ≤ 2147483647) → nums.length + xs.length ≤ 11 → spQ nums 0 (nats (flatL xs)) = some (nums ++ nats xs)
  | [], nums, _, _ => by rw [show nats (flatL []) = [] from rfl]; simp [spQ, nats]
  | x :: xs, nums, hb, hn => by
    have hx := hb x (by simp)
    rw [flatL_cons, nats_append, spQ_full (x := x.toNat) (by omega) nums _ (by simp at hn; omega), spQ_flat xs _ (fun y hy => hb y (by simp [hy])) (by simp at hn ⊢; omega)]
    simp [nats]
/-- As the specification reads them. -/
def specQ (l : List Nat) : Option (List Int) := match spQ [] 0 l with
  | none => none
  | some [] => none
  | some (h :: t) => if arcsB (two h ++ t.map Int.ofNat) = true ∧ nats (oidL (two h ++ t.map Int.ofNat)) = l then some (two h ++ t.map Int.ofNat) else none
theorem specQ_eq {l : List Nat} (hl : ∀ b ∈ l, b < 256) : specQ l = oidQ l := by
  cases ho : oidQ l with
  | some z =>
    obtain ⟨ha, he⟩ := (oidQ_iff hl).1 ho
    obtain ⟨r2, r10, r0, r0', r1, r1', rr⟩ := arcsB_iff.1 ha
    match z, r2, r10, r0, r0', r1, r1', rr, ha, he with
    | a :: b :: xs, _, r10, r0, r0', r1, r1', rr, ha, he =>
      have r0 : 0 ≤ a := r0
      have r0' : a ≤ 2 := r0'
      have r1 : 0 ≤ b := r1
      have r1' : b ≤ most2 a := r1'
      have hm : most2 a ≤ 100 := by unfold most2; split <;> omega
      have hx : ∀ x ∈ xs, 0 ≤ x ∧ x ≤ 2147483647 := fun x hx => by
        obtain ⟨i, hi⟩ := List.mem_iff_getElem?.1 hx
        have hil : i < xs.length := by
          rcases Nat.lt_or_ge i xs.length with h | h
          · exact h
          · rw [List.getElem?_eq_none h] at hi; cases hi
        have := rr (i + 2) (by omega) (by simp; omega)
        simpa [List.getD, hi] using this
      have e : spQ [] 0 l = some ((40 * a + b).toNat :: nats xs) := by
        rw [← he, oidL_flat, nats_append, spQ_full (x := (40 * a + b).toNat) (by omega) [] _ (by simp), spQ_flat xs _ hx (by simp at r10 ⊢; omega)]
        rfl
      have ex : (nats xs).map Int.ofNat = xs := by
        simp only [nats, List.map_map]
        refine (List.map_congr_left (fun x hx' => ?_)).trans (List.map_id xs)
        have := hx x hx'
        simp; omega
      unfold specQ
      rw [e]
      simp only
      rw [ex, two_of r0 r0' r1 r1']
      exact if_pos ⟨ha, he⟩
  | none =>
    unfold specQ
    split
    · rfl
    · rfl
    · split
      · rename_i h
        rw [(oidQ_iff hl).2 h] at ho; simp at ho
      · rfl
/-- A text's bytes. -/
def bl (s : ByteArray) : List Nat := s.data.toList.map UInt8.toNat
theorem bl_lt (s : ByteArray) : ∀ b ∈ bl s, b < 256 := fun b hb => by
  simp only [bl, List.mem_map] at hb
  obtain ⟨x, _, rfl⟩ := hb
  exact x.toNat_lt
theorem bl_len (s : ByteArray) : (bl s).length = s.size := by rw [bl, List.length_map, Lib.size_eq]
theorem bl_drop (s : ByteArray) (i : Nat) (h : i < s.size) : (bl s).drop i = bN s i :: (bl s).drop (i + 1) := by
  have hl : i < (bl s).length := by rw [bl_len]; exact h
  rw [List.drop_eq_getElem_cons hl]
  congr 1
  have h' : i < s.data.toList.length := by rw [← Lib.size_eq]; exact h
  simp [bl, bN, List.getD, List.getElem?_eq_getElem h']
theorem sevH_byte : ∀ (f x : Nat) (y : Int), y ∈ sevH f x → 0 ≤ y ∧ y < 256
  | 0, _, y, h => by simp [sevH] at h
  | f + 1, x, y, h => by
    rw [sevH] at h
    split at h
    · simp at h
    · rcases List.mem_append.1 h with h | h
      · exact sevH_byte f _ y h
      · simp at h; omega
theorem sevL_byte (x : Nat) (y : Int) (h : y ∈ sevL x) : 0 ≤ y ∧ y < 256 := by
  rcases List.mem_append.1 h with h | h
  · exact sevH_byte _ _ y h
  · simp at h; omega
theorem oidTo_byte (l : List Int) : ∀ k y, y ∈ oidTo l k → 0 ≤ y ∧ y < 256
  | 0, y, h => sevL_byte _ y h
  | k + 1, y, h => by
    rcases List.mem_append.1 h with h | h
    · exact oidTo_byte l k y h
    · exact sevL_byte _ y h
theorem bl_str {xs : List Int} (h : ∀ x ∈ xs, 0 ≤ x ∧ x < 256) : bl (strOfNums xs) = nats xs := by
  simp only [bl, strOfNums, nats, List.map_map]
  refine List.map_congr_left (fun x hx => ?_)
  have := h x hx
  simp; omega
theorem bl_inj {a b : ByteArray} (h : bl a = bl b) : a = b := by
  refine ByteArray.ext (Array.toList_inj.1 ?_)
  exact (List.map_inj_right (fun x y hxy => UInt8.toNat_inj.1 hxy)).1 h
theorem str_iff (z : List Int) (s : ByteArray) : strOfNums (oidL z) = s ↔ nats (oidL z) = bl s := by
  have hb := bl_str (xs := oidL z) (oidTo_byte z _)
  constructor
  · intro h; rw [← h, hb]
  · intro h; exact bl_inj (hb.trans h)
theorem thingD_inj {t : Int} {a b : ByteArray} (h : thingD t a = thingD t b) : a = b := by
  have hs := congrArg ByteArray.size h
  rw [thingD_size, thingD_size] at hs
  have he : a.size = b.size := by
    unfold lenD at hs
    split at hs <;> split at hs <;> (try split at hs) <;> (try split at hs) <;> simp at hs <;> omega
  unfold thingD at h
  rw [he] at h
  have hd := congrArg (fun x => x.data.toList) h
  simp only [ByteArray.data_append, Array.toList_append] at hd
  exact ByteArray.ext (Array.toList_inj.1 (List.append_cancel_left hd))
/-- What DerOidRead answers: the arcs and the code. -/
def oidR (s : ByteArray) : List Int × Int := if 20000 < s.size then ([], 2) else match oidQ (bl s) with
  | none => ([], 3)
  | some z => (z, 0)
theorem oidR_len (s : ByteArray) : (oidR s).1.length ≤ 10 := by
  unfold oidR
  split
  · simp
  · split
    · simp
    · rename_i z hz
      exact (arcsB_iff.1 ((oidQ_iff (bl_lt s)).1 hz).1).2.1
end Go.Proofs.YtjkmfjegphpjkaaGreatDoor
namespace Go.Proofs.YtjkmfjegphpjkaaGreatDoor
open Go.RowKit

/-- The things from a place on, behind those that were got; f rounds at most. -/
def allR (s : ByteArray) : Nat → Nat → List (Int × ByteArray) → List (Int × ByteArray) × Int
  | 0, _, acc => (acc, 0)
  | f + 1, k, acc => if s.size ≤ k then (acc, 0) else if (getAt s k).code ≠ 0 then ([], (getAt s k).code) else if 60 ≤ acc.length then ([], 11)
    else allR s f (getAt s k).at'.toNat (acc ++ [((getAt s k).tag, (getAt s k).body)])
def allD (s : ByteArray) : List (Int × ByteArray) × Int := if 20000 < s.size then ([], 2) else allR s (s.size + 1) 0 []
theorem allR_end {s : ByteArray} {f k : Nat} {acc : List (Int × ByteArray)} (h : s.size ≤ k) : allR s f k acc = (acc, 0) := by
  cases f with
  | zero => rfl
  | succ f => rw [allR, if_pos h]
theorem allR_bad {s : ByteArray} {f k : Nat} {acc : List (Int × ByteArray)} (h : k < s.size) (hc : (getAt s k).code ≠ 0) : allR s (f + 1) k acc = ([], (getAt s k).code) := by
  rw [allR, if_neg (by omega), if_pos hc]
theorem allR_full {s : ByteArray} {f k : Nat} {acc : List (Int × ByteArray)} (h : k < s.size) (hc : (getAt s k).code = 0) (ha : 60 ≤ acc.length) : allR s (f + 1) k acc = ([], 11) := by
  rw [allR, if_neg (by omega), if_neg (by simp [hc]), if_pos ha]
theorem allR_more {s : ByteArray} {f k : Nat} {acc : List (Int × ByteArray)} (h : k < s.size) (hc : (getAt s k).code = 0) (ha : acc.length < 60) :
    allR s (f + 1) k acc = allR s f (getAt s k).at'.toNat (acc ++ [((getAt s k).tag, (getAt s k).body)]) := by
  rw [allR, if_neg (by omega), if_neg (by simp [hc]), if_neg (by omega)]
theorem allR_len (s : ByteArray) : ∀ (f k : Nat) (acc : List (Int × ByteArray)), acc.length ≤ 60 → (allR s f k acc).1.length ≤ 60
  | 0, _, acc, h => h
  | f + 1, k, acc, h => by
    rw [allR]
    split
    · exact h
    · split
      · simp
      · split
        · simp
        · exact allR_len s f _ _ (by simp; omega)
theorem allD_len (s : ByteArray) : (allD s).1.length ≤ 60 := by
  unfold allD
  split
  · simp
  · exact allR_len s _ _ _ (by simp)
/-- The cells of a row of things. -/
def tCells (l : List (Int × ByteArray)) : List Value := l.flatMap fun p => [.int .i64 p.1, .string p.2]
theorem tCells_snoc (l : List (Int × ByteArray)) (p : Int × ByteArray) : tCells (l ++ [p]) = tCells l ++ [.int .i64 p.1, .string p.2] := by simp [tCells]
theorem tCells_len (l : List (Int × ByteArray)) : (tCells l).length = 2 * l.length := by
  induction l with
  | nil => rfl
  | cons p l ih => simp [tCells] at *; omega
theorem tCells_at : ∀ (l : List (Int × ByteArray)) (i : Nat) (p : Int × ByteArray), l[i]? = some p → (tCells l)[2 * i]? = some (.int .i64 p.1) ∧ (tCells l)[2 * i + 1]? = some (.string p.2)
  | [], i, p, h => by simp at h
  | q :: l, 0, p, h => by simp at h; subst h; exact ⟨rfl, rfl⟩
  | q :: l, i + 1, p, h => by
    have := tCells_at l i p (by simpa using h)
    have e : tCells (q :: l) = .int .i64 q.1 :: .string q.2 :: tCells l := rfl
    rw [e, show 2 * (i + 1) = 2 * i + 1 + 1 from by omega]
    exact ⟨by simpa using this.1, by simpa using this.2⟩
theorem tCells_one (l : List (Int × ByteArray)) : ∀ u ∈ tCells l, u.oneCell' = true := by
  intro u hu
  simp [tCells] at hu
  obtain ⟨a, b, _, h | h⟩ := hu <;> subst h <;> rfl
end Go.Proofs.YtjkmfjegphpjkaaGreatDoor
