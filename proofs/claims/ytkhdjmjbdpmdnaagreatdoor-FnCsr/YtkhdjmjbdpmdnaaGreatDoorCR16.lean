/- Arcs read back: what DerOidRead answers. Plain mathematics: no program is named here. Arcs read back, as both read them. Plain mathematics: no program is named here. Rows of things: what DerAll answers. No program is named here. Things, numbers and arcs come back from their bytes. Plain mathematics: no program is named here. -/
import Derived.Test.YtkhdjmjbdpmdnaaGreatDoorCR03
import Derived.Lib.Strings
import Derived.Test.YtkhdjmjbdpmdnaaGreatDoorCR15
namespace Go.Proofs.YtkhdjmjbdpmdnaaGreatDoor
open Go.RowKit

/-- One arc read: 'a' tells that no byte of it was read yet, n is what was read. -/
def sevQ : Bool → Nat → List Nat → Option (Nat × List Nat)
  | _, _, [] => none
  | a, n, b :: r => if a = true ∧ b = 128 then none else if 2147483647 < n * 128 + b % 128 then none else if b < 128 then some (n * 128 + b % 128, r) else sevQ false (n * 128 + b % 128) r
/-- All arcs behind the first two. -/
def restQ : Nat → List Nat → List Int → Option (List Int)
  | 0, _, acc => some acc
  | f + 1, l, acc => match l with
    | [] => some acc
    | b :: r => match sevQ true 0 (b :: r) with
      | none => none
      | some (n, t) => restQ f t (acc ++ [(n : Int)])
def two (h : Nat) : List Int := [((min (h / 40) 2 : Nat) : Int), (h : Int) - 40 * ((min (h / 40) 2 : Nat) : Int)]
def arcsQ (l : List Nat) : Option (List Int) := match sevQ true 0 l with
  | none => none
  | some (h, t) => restQ l.length t (two h)
/-- The arcs whose bytes these are. -/
def oidQ (l : List Nat) : Option (List Int) := match arcsQ l with
  | none => none
  | some z => if arcsB z = true then some z else none
/-- Numbers of seven bits, read as the specification reads them. -/
def spQ : List Nat → Nat → List Nat → Option (List Nat)
  | nums, _, [] => some nums
  | nums, n, b :: r => if 2147483647 < 128 * n + b % 128 ∨ 10 < nums.length then none else if b < 128 then spQ (nums ++ [128 * n + b % 128]) 0 r else spQ nums (128 * n + b % 128) r

def nats (l : List Int) : List Nat := l.map Int.toNat
theorem nats_append (a b : List Int) : nats (a ++ b) = nats a ++ nats b := by simp [nats]
/-- Running over the bytes ahead of the last one. -/
theorem sevQ_high : ∀ (f y : Nat) (t : List Nat), y < 128 ^ f → y ≤ 16777215 → sevQ true 0 (nats (sevH f y) ++ t) = sevQ (decide (y = 0)) y t
  | f, y, t, hf, hy => by
    by_cases h0 : y = 0
    · subst h0; rw [sevH_zero]; rfl
    · obtain ⟨g, rfl, hg, e⟩ := sevH_more h0 hf
      rw [e, nats_append, List.append_assoc, sevQ_high g (y / 128) _ hg (by omega)]
      show sevQ _ _ ((y % 128 + 128) :: t) = _
      rw [sevQ, if_neg (by simp; omega), if_neg (by omega), if_neg (by omega), decide_eq_false h0]
      congr 1; omega
theorem sevQ_full {x : Nat} (hx : x ≤ 2147483647) (r : List Nat) : sevQ true 0 (nats (sevL x) ++ r) = some (x, r) := by
  rw [sevL, nats_append, List.append_assoc, sevQ_high 9 (x / 128) _ (by rw [p9]; omega) (by omega)]
  show sevQ _ _ (x % 128 :: r) = _
  rw [sevQ, if_neg (by omega), if_neg (by omega), if_pos (by omega)]
  congr 2; omega
theorem spQ_high : ∀ (f y : Nat) (nums t : List Nat), y < 128 ^ f → y ≤ 16777215 → nums.length ≤ 10 → spQ nums 0 (nats (sevH f y) ++ t) = spQ nums y t
  | f, y, nums, t, hf, hy, hn => by
    by_cases h0 : y = 0
    · subst h0; rw [sevH_zero]; rfl
    · obtain ⟨g, rfl, hg, e⟩ := sevH_more h0 hf
      rw [e, nats_append, List.append_assoc, spQ_high g (y / 128) nums _ hg (by omega) hn]
      show spQ _ _ ((y % 128 + 128) :: t) = _
      rw [spQ, if_neg (by omega), if_neg (by omega)]
      congr 1; omega
theorem spQ_full {x : Nat} (hx : x ≤ 2147483647) (nums r : List Nat) (hn : nums.length ≤ 10) : spQ nums 0 (nats (sevL x) ++ r) = spQ (nums ++ [x]) 0 r := by
  rw [sevL, nats_append, List.append_assoc, spQ_high 9 (x / 128) nums _ (by rw [p9]; omega) (by omega) hn]
  show spQ _ _ (x % 128 :: r) = _
  rw [spQ, if_neg (by omega), if_pos (by omega)]
  congr 3; omega
/-- What a run of high bytes stands for. -/
def valQ (q : List Nat) : Nat := q.foldl (fun n b => n * 128 + b % 128) 0
theorem valQ_snoc (q : List Nat) (b : Nat) : valQ (q ++ [b]) = valQ q * 128 + b % 128 := by simp [valQ]
theorem high_back : ∀ (k : Nat) (q : List Nat), q.length = k → (∀ b ∈ q, 128 ≤ b ∧ b < 256) → q.head? ≠ some 128 → valQ q < 128 ^ k ∧ (q ≠ [] → valQ q ≠ 0) ∧ nats (sevH k (valQ q)) = q
  | 0, q, h, _, _ => by
    obtain rfl := List.eq_nil_of_length_eq_zero h
    exact ⟨by decide, fun h => absurd rfl h, rfl⟩
  | k + 1, q, h, hb, hh => by
    obtain ⟨p, b, rfl⟩ : ∃ p b, q = p ++ [b] := ⟨q.dropLast, q.getLast (by intro e; rw [e] at h; simp at h), (List.dropLast_concat_getLast _).symm⟩
    have hp : p.length = k := by simpa using h
    have hbb := hb b (by simp)
    have hh' : p.head? ≠ some 128 := by
      cases p with
      | nil => simp
      | cons x p => simpa using hh
    obtain ⟨i1, i2, i3⟩ := high_back k p hp (fun x hx => hb x (by simp [hx])) hh'
    have hv0 : valQ (p ++ [b]) ≠ 0 := by
      rw [valQ_snoc]
      cases p with
      | nil =>
        have : b ≠ 128 := by simpa using hh
        simp [valQ]; omega
      | cons x p => have := i2 (by simp); omega
    refine ⟨?_, fun _ => hv0, ?_⟩
    · rw [valQ_snoc, Nat.pow_succ]
      have : b % 128 < 128 := Nat.mod_lt _ (by omega)
      omega
    · rw [sevH, if_neg hv0, nats_append, valQ_snoc, show (valQ p * 128 + b % 128) / 128 = valQ p from by omega, i3]
      show p ++ [(valQ p * 128 + b % 128) % 128 + 128] = _
      congr 2; omega
theorem sevH_mono : ∀ (f g x : Nat), x < 128 ^ f → f ≤ g → sevH g x = sevH f x
  | f, g, x, hx, hg => by
    by_cases h0 : x = 0
    · subst h0; rw [sevH_zero, sevH_zero]
    · obtain ⟨f', rfl, hf', e⟩ := sevH_more h0 hx
      obtain ⟨g', rfl⟩ : ∃ g', g = g' + 1 := ⟨g - 1, by omega⟩
      rw [e, sevH, if_neg h0, sevH_mono f' g' (x / 128) hf' (by omega)]
/-- What is read of bytes is written by just these. -/
theorem sevQ_back : ∀ (l q : List Nat) (m : Nat) (r : List Nat), (∀ b ∈ l, b < 256) → (∀ b ∈ q, 128 ≤ b ∧ b < 256) → q.head? ≠ some 128 → sevQ (decide (q = [])) (valQ q) l = some (m, r) →
    m ≤ 2147483647 ∧ ∃ p, l = p ++ r ∧ p ≠ [] ∧ q ++ p = nats (sevL m)
  | [], q, m, r, _, _, _, h => by simp [sevQ] at h
  | b :: l, q, m, r, hl, hq, hh, h => by
    have hb := hl b (by simp)
    rw [sevQ] at h
    split at h
    · simp at h
    · rename_i h1
      split at h
      · simp at h
      · rename_i h2
        split at h
        · rename_i h3
          simp only [Option.some.injEq, Prod.mk.injEq] at h
          obtain ⟨rfl, rfl⟩ := h
          refine ⟨by omega, [b], rfl, by simp, ?_⟩
          obtain ⟨i1, _, i3⟩ := high_back q.length q rfl hq hh
          have e1 : (valQ q * 128 + b % 128) / 128 = valQ q := by omega
          have e2 : (valQ q * 128 + b % 128) % 128 = b := by omega
          rw [sevL, e1, e2, nats_append]
          have hlen : sevH 9 (valQ q) = sevH q.length (valQ q) := by
            rcases Nat.le_total q.length 9 with hle | hle
            · exact sevH_mono _ _ _ i1 hle
            · exact (sevH_mono _ _ _ (by rw [p9]; omega) hle).symm
          rw [hlen, i3]; rfl
        · rename_i h3
          have hne : (q ++ [b]).head? ≠ some 128 := by
            cases q with
            | nil => simpa using h1
            | cons x q => simpa using hh
          have h' : sevQ (decide (q ++ [b] = [])) (valQ (q ++ [b])) l = some (m, r) := by
            rw [decide_eq_false (by simp), valQ_snoc]; exact h
          obtain ⟨i1, p, hp, hpn, he⟩ := sevQ_back l (q ++ [b]) m r (fun x hx => hl x (by simp [hx])) (fun x hx => by
            rcases List.mem_append.1 hx with hx | hx
            · exact hq x hx
            · simp at hx; subst hx; omega) hne h'
          exact ⟨i1, b :: p, by rw [hp]; rfl, by simp, by rw [← he]; simp⟩
theorem sevQ_sound {l : List Nat} {m : Nat} {r : List Nat} (hl : ∀ b ∈ l, b < 256) (h : sevQ true 0 l = some (m, r)) : m ≤ 2147483647 ∧ l = nats (sevL m) ++ r ∧ r.length < l.length := by
  obtain ⟨h1, p, hp, hn, he⟩ := sevQ_back l [] m r hl (by simp) (by simp) h
  refine ⟨h1, by rw [← he, hp]; rfl, ?_⟩
  rw [hp, List.length_append]
  have : 0 < p.length := List.length_pos_iff.2 hn
  omega
end Go.Proofs.YtkhdjmjbdpmdnaaGreatDoor
namespace Go.Proofs.YtkhdjmjbdpmdnaaGreatDoor
open Go.RowKit

/-- Arcs behind the first two in bytes. -/
def flatL (xs : List Int) : List Int := xs.flatMap fun x => sevL x.toNat
theorem flatL_cons (x : Int) (xs : List Int) : flatL (x :: xs) = sevL x.toNat ++ flatL xs := rfl
theorem flatL_len : ∀ xs : List Int, xs.length ≤ (flatL xs).length
  | [] => Nat.le_refl _
  | x :: xs => by
    have := sevL_pos x.toNat
    have := flatL_len xs
    rw [flatL_cons, List.length_append, List.length_cons]; omega
theorem flatL_snoc (x : Int) (xs : List Int) : flatL (xs ++ [x]) = flatL xs ++ sevL x.toNat := by simp [flatL]
theorem oidTo_flat (a b : Int) (xs : List Int) : ∀ k, k ≤ xs.length → oidTo (a :: b :: xs) k = sevL (40 * a + b).toNat ++ flatL (xs.take k)
  | 0, _ => by simp [oidTo, flatL]
  | k + 1, hk => by
    rw [oidTo, oidTo_flat a b xs k (by omega), List.take_succ_eq_append_getElem (by omega), flatL_snoc, List.append_assoc]
    congr 2
    simp [List.getD, List.getElem?_eq_getElem (show k < xs.length by omega)]
theorem oidL_flat (a b : Int) (xs : List Int) : oidL (a :: b :: xs) = sevL (40 * a + b).toNat ++ flatL xs := by
  have h := oidTo_flat a b xs xs.length (Nat.le_refl _)
  rw [List.take_length] at h
  rw [← h]; rfl
theorem restQ_nil (f : Nat) (acc : List Int) : restQ f [] acc = some acc := by cases f <;> rfl
theorem restQ_some {f : Nat} {l : List Nat} {acc : List Int} {n : Nat} {t : List Nat} (h : sevQ true 0 l = some (n, t)) : restQ (f + 1) l acc = restQ f t (acc ++ [(n : Int)]) := by
  cases l with
  | nil => simp [sevQ] at h
  | cons b r => rw [restQ]; simp only [h]
theorem restQ_none {f : Nat} {l : List Nat} {acc : List Int} (hl : l ≠ []) (h : sevQ true 0 l = none) : restQ (f + 1) l acc = none := by
  cases l with
  | nil => exact absurd rfl hl
  | cons b r => rw [restQ]; simp only [h]
theorem restQ_full : ∀ (xs : List Int) (acc : List Int) (f : Nat), (∀ x ∈ xs, 0 ≤ x ∧ x ≤ 2147483647) → xs.length ≤ f → restQ f (nats (flatL xs)) acc = some (acc ++ xs)
  | [], acc, f, _, _ => by rw [show nats (flatL []) = [] from rfl, restQ_nil]; simp
  | x :: xs, acc, f, hb, hf => by
    obtain ⟨g, rfl⟩ : ∃ g, f = g + 1 := ⟨f - 1, by simp at hf; omega⟩
    have hx := hb x (by simp)
    rw [flatL_cons, nats_append, restQ_some (sevQ_full (x := x.toNat) (by omega) _), restQ_full xs _ g (fun y hy => hb y (by simp [hy])) (by simp at hf; omega)]
    rw [show ((x.toNat : Nat) : Int) = x from by omega]; simp
theorem restQ_sound : ∀ (f : Nat) (l : List Nat) (acc z : List Int), l.length ≤ f → (∀ b ∈ l, b < 256) → restQ f l acc = some z → ∃ xs, z = acc ++ xs ∧ l = nats (flatL xs) ∧ ∀ x ∈ xs, 0 ≤ x ∧ x ≤ 2147483647
  | 0, l, acc, z, hl, _, h => by
    obtain rfl : l = [] := List.eq_nil_of_length_eq_zero (by omega)
    simp [restQ] at h
    exact ⟨[], by simp [h], rfl, by simp⟩
  | f + 1, l, acc, z, hl, hb, h => by
    by_cases h0 : l = []
    · subst h0
      rw [restQ_nil] at h
      simp at h
      exact ⟨[], by simp [h], rfl, by simp⟩
    · cases hq : sevQ true 0 l with
      | none => rw [restQ_none h0 hq] at h; simp at h
      | some p =>
        obtain ⟨n, t⟩ := p
        rw [restQ_some hq] at h
        obtain ⟨h1, h2, h3⟩ := sevQ_sound hb hq
        obtain ⟨xs, e1, e2, e3⟩ := restQ_sound f t _ z (by omega) (fun b hbt => hb b (by rw [h2]; simp [hbt])) h
        refine ⟨(n : Int) :: xs, by rw [e1]; simp, ?_, fun x hx => ?_⟩
        · rw [flatL_cons, nats_append, ← e2, show ((n : Int).toNat) = n from rfl]; exact h2
        · rcases List.mem_cons.1 hx with rfl | hx
          · omega
          · exact e3 x hx
theorem two_sum (h : Nat) : ∃ a b : Int, two h = [a, b] ∧ (40 * a + b).toNat = h := ⟨_, _, rfl, by omega⟩
theorem two_of {a b : Int} (h0 : 0 ≤ a) (h1 : a ≤ 2) (h2 : 0 ≤ b) (h3 : b ≤ most2 a) : two (40 * a + b).toNat = [a, b] := by
  have hm : most2 a = if a = 2 then 100 else 39 := rfl
  have e : ((min ((40 * a + b).toNat / 40) 2 : Nat) : Int) = a := by
    split at hm <;> omega
  unfold two
  rw [e]
  congr 2; omega
theorem oidQ_iff {l : List Nat} {z : List Int} (hl : ∀ b ∈ l, b < 256) : oidQ l = some z ↔ arcsB z = true ∧ nats (oidL z) = l := by
  constructor
  · intro h
    unfold oidQ at h
    split at h
    · simp at h
    · rename_i y hy
      split at h
      · rename_i ha
        simp at h
        subst h
        refine ⟨ha, ?_⟩
        unfold arcsQ at hy
        split at hy
        · simp at hy
        · rename_i n t hq
          obtain ⟨_, e1, e2⟩ := sevQ_sound hl hq
          obtain ⟨xs, e3, e4, _⟩ := restQ_sound _ t _ _ (by omega) (fun b hb => hl b (by rw [e1]; simp [hb])) hy
          obtain ⟨a, b, e5, e6⟩ := two_sum n
          rw [e5] at e3
          rw [e3]
          show nats (oidL (a :: b :: xs)) = l
          rw [oidL_flat, e6, nats_append, ← e4, ← e1]
      · simp at h
  · rintro ⟨ha, rfl⟩
    obtain ⟨r2, r10, r0, r0', r1, r1', rr⟩ := arcsB_iff.1 ha
    match z, r2, r0, r0', r1, r1', rr, ha with
    | a :: b :: xs, _, r0, r0', r1, r1', rr, ha =>
      have r0 : 0 ≤ a := r0
      have r0' : a ≤ 2 := r0'
      have r1 : 0 ≤ b := r1
      have r1' : b ≤ most2 a := r1'
      have hm : most2 a ≤ 100 := by unfold most2; split <;> omega
      have hx : ∀ x ∈ xs, 0 ≤ x ∧ x ≤ 2147483647 := fun x hx => by
        obtain ⟨i, hi⟩ := List.mem_iff_getElem?.1 hx
        have hil : i < xs.length := by
          rcases Nat.lt_or_ge i xs.length with h | h
          · exact h
          · rw [List.getElem?_eq_none h] at hi; cases hi
        have := rr (i + 2) (by omega) (by simp; omega)
        simpa [List.getD, hi] using this
      have hs := sevQ_full (x := (40 * a + b).toNat) (by omega) (nats (flatL xs))
      have hf : xs.length ≤ (nats (oidL (a :: b :: xs))).length := by
        have := flatL_len xs
        rw [oidL_flat]; simp [nats]; omega
      unfold oidQ arcsQ
      rw [show sevQ true 0 (nats (oidL (a :: b :: xs))) = some ((40 * a + b).toNat, nats (flatL xs)) from by rw [oidL_flat, nats_append]; exact hs]
      simp only [two_of r0 r0' r1 r1']
      rw [restQ_full xs [a, b] _ hx hf]
      simp only
      exact if_pos ha
theorem spQ_flat : ∀ (xs : List Int) (nums : List Nat), (∀ x ∈ xs, 0 ≤ x ∧ x ≤ 2147483647) → nums.length + xs.length ≤ 11 → spQ nums 0 (nats (flatL xs)) = some (nums ++ nats xs)
  | [], nums, _, _ => by rw [show nats (flatL []) = [] from rfl]; simp [spQ, nats]
  | x :: xs, nums, hb, hn => by
    have hx := hb x (by simp)
    rw [flatL_cons, nats_append, spQ_full (x := x.toNat) (by omega) nums _ (by simp at hn; omega), spQ_flat xs _ (fun y hy => hb y (by simp [hy])) (by simp at hn ⊢; omega)]
    simp [nats]
/-- As the specification reads them. -/
def specQ (l : List Nat) : Option (List Int) := match spQ [] 0 l with
  | none => none
  | some [] => none
  | some (h :: t) => if arcsB (two h ++ t.map Int.ofNat) = true ∧ nats (oidL (two h ++ t.map Int.ofNat)) = l then some (two h ++ t.map Int.ofNat) else none
theorem specQ_eq {l : List Nat} (hl : ∀ b ∈ l, b < 256) : specQ l = oidQ l := by
  cases ho : oidQ l with
  | some z =>
    obtain ⟨ha, he⟩ := (oidQ_iff hl).1 ho
    obtain ⟨r2, r10, r0, r0', r1, r1', rr⟩ := arcsB_iff.1 ha
    match z, r2, r10, r0, r0', r1, r1', rr, ha, he with
    | a :: b :: xs, _, r10, r0, r0', r1, r1', rr, ha, he =>
      have r0 : 0 ≤ a := r0
      have r0' : a ≤ 2 := r0'
      have r1 : 0 ≤ b := r1
      have r1' : b ≤ most2 a := r1'
      have hm : most2 a ≤ 100 := by unfold most2; split <;> omega
      have hx : ∀ x ∈ xs, 0 ≤ x ∧ x ≤ 2147483647 := fun x hx => by
        obtain ⟨i, hi⟩ := List.mem_iff_getElem?.1 hx
        have hil : i < xs.length := by
          rcases Nat.lt_or_ge i xs.length with h | h
          · exact h
          · rw [List.getElem?_eq_none h] at hi; cases hi
        have := rr (i + 2) (by omega) (by simp; omega)
        simpa [List.getD, hi] using this
      have e : spQ [] 0 l = some ((40 * a + b).toNat :: nats xs) := by
        rw [← he, oidL_flat, nats_append, spQ_full (x := (40 * a + b).toNat) (by omega) [] _ (by simp), spQ_flat xs _ hx (by simp at r10 ⊢; omega)]
        rfl
      have ex : (nats xs).map Int.ofNat = xs := by
        simp only [nats, List.map_map]
        refine (List.map_congr_left (fun x hx' => ?_)).trans (List.map_id xs)
        have := hx x hx'
        simp; omega
      unfold specQ
      rw [e]
      simp only
      rw [ex, two_of r0 r0' r1 r1']
      exact if_pos ⟨ha, he⟩
  | none =>
    unfold specQ
    split
    · rfl
    · rfl
    · split
      · rename_i h
        rw [(oidQ_iff hl).2 h] at ho; simp at ho
      · rfl
/-- A text's bytes. -/
def bl (s : ByteArray) : List Nat := s.data.toList.map UInt8.toNat
theorem bl_lt (s : ByteArray) : ∀ b ∈ bl s, b < 256 := fun b hb => by
  simp only [bl, List.mem_map] at hb
  obtain ⟨x, _, rfl⟩ := hb
  exact x.toNat_lt
theorem bl_len (s : ByteArray) : (bl s).length = s.size := by rw [bl, List.length_map, Lib.size_eq]
theorem bl_drop (s : ByteArray) (i : Nat) (h : i < s.size) : (bl s).drop i = bN s i :: (bl s).drop (i + 1) := by
  have hl : i < (bl s).length := by rw [bl_len]; exact h
  rw [List.drop_eq_getElem_cons hl]
  congr 1
  have h' : i < s.data.toList.length := by rw [← Lib.size_eq]; exact h
  simp [bl, bN, List.getD, List.getElem?_eq_getElem h']
theorem sevH_byte : ∀ (f x : Nat) (y : Int), y ∈ sevH f x → 0 ≤ y ∧ y < 256
  | 0, _, y, h => by simp [sevH] at h
  | f + 1, x, y, h => by
    rw [sevH] at h
    split at h
    · simp at h
    · rcases List.mem_append.1 h with h | h
      · exact sevH_byte f _ y h
      · simp at h; omega
theorem sevL_byte (x : Nat) (y : Int) (h : y ∈ sevL x) : 0 ≤ y ∧ y < 256 := by
  rcases List.mem_append.1 h with h | h
  · exact sevH_byte _ _ y h
  · simp at h; omega
theorem oidTo_byte (l : List Int) : ∀ k y, y ∈ oidTo l k → 0 ≤ y ∧ y < 256
  | 0, y, h => sevL_byte _ y h
  | k + 1, y, h => by
    rcases List.mem_append.1 h with h | h
    · exact oidTo_byte l k y h
    · exact sevL_byte _ y h
theorem bl_str {xs : List Int} (h : ∀ x ∈ xs, 0 ≤ x ∧ x < 256) : bl (strOfNums xs) = nats xs := by
  simp only [bl, strOfNums, nats, List.map_map]
  refine List.map_congr_left (fun x hx => ?_)
  have := h x hx
  simp; omega
theorem bl_inj {a b : ByteArray} (h : bl a = bl b) : a = b := by
  refine ByteArray.ext (Array.toList_inj.1 ?_)
  exact (List.map_inj_right (fun x y hxy => UInt8.toNat_inj.1 hxy)).1 h
theorem str_iff (z : List Int) (s : ByteArray) : strOfNums (oidL z) = s ↔ nats (oidL z) = bl s := by
  have hb := bl_str (xs := oidL z) (oidTo_byte z _)
  constructor
  · intro h; rw [← h, hb]
  · intro h; exact bl_inj (hb.trans h)
theorem thingD_inj {t : Int} {a b : ByteArray} (h : thingD t a = thingD t b) : a = b := by
  have hs := congrArg ByteArray.size h
  rw [thingD_size, thingD_size] at hs
  have he : a.size = b.size := by
    unfold lenD at hs
    split at hs <;> split at hs <;> (try split at hs) <;> (try split at hs) <;> simp at hs <;> omega
  unfold thingD at h
  rw [he] at h
  have hd := congrArg (fun x => x.data.toList) h
  simp only [ByteArray.data_append, Array.toList_append] at hd
  exact ByteArray.ext (Array.toList_inj.1 (List.append_cancel_left hd))
/-- What DerOidRead answers: the arcs and the code. -/
def oidR (s : ByteArray) : List Int × Int := if 20000 < s.size then ([], 2) else match oidQ (bl s) with
  | none => ([], 3)
  | some z => (z, 0)
theorem oidR_len (s : ByteArray) : (oidR s).1.length ≤ 10 := by
  unfold oidR
  split
  · simp
  · split
    · simp
    · rename_i z hz
      exact (arcsB_iff.1 ((oidQ_iff (bl_lt s)).1 hz).1).2.1
end Go.Proofs.YtkhdjmjbdpmdnaaGreatDoor
namespace Go.Proofs.YtkhdjmjbdpmdnaaGreatDoor
open Go.RowKit

/-- The things from a place on, behind those that were got; f rounds at most. -/
def allR (s : ByteArray) : Nat → Nat → List (Int × ByteArray) → List (Int × ByteArray) × Int
  | 0, _, acc => (acc, 0)
  | f + 1, k, acc => if s.size ≤ k then (acc, 0) else if (getAt s k).code ≠ 0 then ([], (getAt s k).code) else if 60 ≤ acc.length then ([], 11)
    else allR s f (getAt s k).at'.toNat (acc ++ [((getAt s k).tag, (getAt s k).body)])
def allD (s : ByteArray) : List (Int × ByteArray) × Int := if 20000 < s.size then ([], 2) else allR s (s.size + 1) 0 []
theorem allR_end {s : ByteArray} {f k : Nat} {acc : List (Int × ByteArray)} (h : s.size ≤ k) : allR s f k acc = (acc, 0) := by
  cases f with
  | zero => rfl
  | succ f => rw [allR, if_pos h]
theorem allR_bad {s : ByteArray} {f k : Nat} {acc : List (Int × ByteArray)} (h : k < s.size) (hc : (getAt s k).code ≠ 0) : allR s (f + 1) k acc = ([], (getAt s k).code) := by
  rw [allR, if_neg (by omega), if_pos hc]
theorem allR_full {s : ByteArray} {f k : Nat} {acc : List (Int × ByteArray)} (h : k < s.size) (hc : (getAt s k).code = 0) (ha : 60 ≤ acc.length) : allR s (f + 1) k acc = ([], 11) := by
  rw [allR, if_neg (by omega), if_neg (by simp [hc]), if_pos ha]
theorem allR_more {s : ByteArray} {f k : Nat} {acc : List (Int × ByteArray)} (h : k < s.size) (hc : (getAt s k).code = 0) (ha : acc.length < 60) :
    allR s (f + 1) k acc = allR s f (getAt s k).at'.toNat (acc ++ [((getAt s k).tag, (getAt s k).body)]) := by
  rw [allR, if_neg (by omega), if_neg (by simp [hc]), if_neg (by omega)]
theorem allR_len (s : ByteArray) : ∀ (f k : Nat) (acc : List (Int × ByteArray)), acc.length ≤ 60 → (allR s f k acc).1.length ≤ 60
  | 0, _, acc, h => h
  | f + 1, k, acc, h => by
    rw [allR]
    split
    · exact h
    · split
      · simp
      · split
        · simp
        · exact allR_len s f _ _ (by simp; omega)
theorem allD_len (s : ByteArray) : (allD s).1.length ≤ 60 := by
  unfold allD
  split
  · simp
  · exact allR_len s _ _ _ (by simp)
/-- The cells of a row of things. -/
def tCells (l : List (Int × ByteArray)) : List Value := l.flatMap fun p => [.int .i64 p.1, .string p.2]
theorem tCells_snoc (l : List (Int × ByteArray)) (p : Int × ByteArray) : tCells (l ++ [p]) = tCells l ++ [.int .i64 p.1, .string p.2] := by simp [tCells]
theorem tCells_len (l : List (Int × ByteArray)) : (tCells l).length = 2 * l.length := by
  induction l with
  | nil => rfl
  | cons p l ih => simp [tCells] at *; omega
theorem tCells_at : ∀ (l : List (Int × ByteArray)) (i : Nat) (p : Int × ByteArray), l[i]? = some p → (tCells l)[2 * i]? = some (.int .i64 p.1) ∧ (tCells l)[2 * i + 1]? = some (.string p.2)
  | [], i, p, h => by simp at h
  | q :: l, 0, p, h => by simp at h; subst h; exact ⟨rfl, rfl⟩
  | q :: l, i + 1, p, h => by
    have := tCells_at l i p (by simpa using h)
    have e : tCells (q :: l) = .int .i64 q.1 :: .string q.2 :: tCells l := rfl
    rw [e, show 2 * (i + 1) = 2 * i + 1 + 1 from by omega]
    exact ⟨by simpa using this.1, by simpa using this.2⟩
theorem tCells_one (l : List (Int × ByteArray)) : ∀ u ∈ tCells l, u.oneCell' = true := by
  intro u hu
  simp [tCells] at hu
  obtain ⟨a, b, _, h | h⟩ := hu <;> subst h <;> rfl
end Go.Proofs.YtkhdjmjbdpmdnaaGreatDoor
namespace Go.Proofs.YtkhdjmjbdpmdnaaGreatDoor
open Go.RowKit

theorem bN_left {a b : ByteArray} {j : Nat} (h : j < a.size) : bN (a ++ b) j = bN a j := by
  have h' : j < a.data.toList.length := by rw [← Lib.size_eq]; exact h
  simp only [bN, ByteArray.data_append, Array.toList_append]
  rw [List.getD, List.getD, List.getElem?_append_left h']
theorem bN_right (a b : ByteArray) (j : Nat) : bN (a ++ b) (a.size + j) = bN b j := by
  simp only [bN, ByteArray.data_append, Array.toList_append]
  rw [List.getD, List.getD, List.getElem?_append_right (by rw [← Lib.size_eq]; omega), ← Lib.size_eq, show a.size + j - a.size = j from by omega]
theorem bN_str {xs : List Int} {j : Nat} (hj : j < xs.length) (hb : ∀ x ∈ xs, 0 ≤ x ∧ x < 256) : (bN (strOfNums xs) j : Int) = xs.getD j 0 := by
  have hm := hb (xs[j]) (List.getElem_mem hj)
  simp only [bN, strOfNums_data]
  rw [List.getD, List.getElem?_map, List.getElem?_eq_getElem hj, List.getD, List.getElem?_eq_getElem hj]
  simp only [Option.map_some, Option.getD_some, UInt8.toNat_ofNat']
  omega
theorem ext_list (s : ByteArray) (i j : Nat) : (s.extract i j).data.toList = (s.data.toList.take j).drop i := by
  rw [ByteArray.data_extract, Array.toList_extract, List.extract_eq_take_drop, List.take_drop]
  rcases Nat.le_total i j with h | h
  · rw [show i + (j - i) = j from by omega]
  · rw [List.drop_eq_nil_of_le (by rw [List.length_take]; omega), List.drop_eq_nil_of_le (by rw [List.length_take]; omega)]
theorem bN_ext {s : ByteArray} {i j k : Nat} (h : i + k < j) : bN (s.extract i j) k = bN s (i + k) := by
  simp only [bN, ext_list]
  rw [List.getD, List.getD, List.getElem?_drop, List.getElem?_take, if_pos h]
/-- What is got, by the first bytes. -/
theorem getAt_thing {s : ByteArray} {k t n : Nat} (hn : n ≤ 4000) (ht : tagB (t : Int) = true) (h0 : k < s.size → bN s k = t)
    (hj : ∀ j, j < (lenD n).length → k + 1 + j < s.size → (bN s (k + 1 + j) : Int) = (lenD n).getD j 0) :
    getAt s k = if s.size < k + 1 + (lenD n).length + n then .bad 4 else ⟨(t : Int), s.extract (k + 1 + (lenD n).length) (k + 1 + (lenD n).length + n), ((k + 1 + (lenD n).length + n : Nat) : Int), 0⟩ := by
  by_cases e0 : s.size ≤ k
  · rw [getAt_end e0, if_pos (by omega)]
  have b0 := h0 (by omega)
  have ht' : tagB (bN s k : Int) = true := by rw [b0]; exact ht
  have hlo := lenD_one n
  by_cases e1 : s.size = k + 1
  · rw [getAt_one e1 ht', if_pos (by omega)]
  by_cases c1 : n < 128
  · have hl : lenD n = [(n : Int)] := by rw [lenD, if_pos c1]
    have b1 : bN s (k + 1) = n := by have := hj 0 (by rw [hl]; simp) (by omega); rw [hl] at this; simp at this; omega
    rw [getAt_low (by omega) ht' (by omega), b0, b1, hl]
    rfl
  by_cases c2 : n < 256
  · have hl : lenD n = [129, (n : Int)] := by rw [lenD, if_neg c1, if_pos c2]
    have b1 : bN s (k + 1) = 129 := by have := hj 0 (by rw [hl]; simp) (by omega); rw [hl] at this; simp at this; omega
    rw [getAt_129 (by omega) ht' b1, b0, hl]
    by_cases e2 : s.size ≤ k + 2
    · rw [if_pos e2, if_pos (by simp; omega)]
    · have b2 : bN s (k + 2) = n := by have := hj 1 (by rw [hl]; simp) (by omega); rw [hl] at this; simp at this; rw [show k + 1 + 1 = k + 2 from rfl] at this; omega
      rw [if_neg e2, b2, if_neg c1]
      rfl
  · have hl : lenD n = [130, ((n / 256 : Nat) : Int), ((n % 256 : Nat) : Int)] := by rw [lenD, if_neg c1, if_neg c2]
    have b1 : bN s (k + 1) = 130 := by have := hj 0 (by rw [hl]; simp) (by omega); rw [hl] at this; simp at this; omega
    rw [getAt_130 (by omega) ht' b1, b0, hl]
    by_cases e2 : s.size ≤ k + 3
    · rw [if_pos e2, if_pos (by simp; omega)]
    · have b2 : bN s (k + 2) = n / 256 := by have := hj 1 (by rw [hl]; simp) (by omega); rw [hl] at this; simp at this; rw [show k + 1 + 1 = k + 2 from rfl] at this; omega
      have b3 : bN s (k + 3) = n % 256 := by have := hj 2 (by rw [hl]; simp) (by omega); rw [hl] at this; simp at this; rw [show k + 1 + 2 = k + 3 from rfl] at this; omega
      rw [if_neg e2, b2, b3, show 256 * (n / 256) + n % 256 = n from by omega, if_neg c2, if_neg (by omega)]
      rfl
theorem lenD_byte {n : Nat} (h : n ≤ 65535) : ∀ x ∈ lenD n, 0 ≤ x ∧ x < 256 := by
  intro x hx
  unfold lenD at hx
  split at hx
  · simp at hx; omega
  · split at hx
    · simp at hx; omega
    · simp at hx; omega
theorem thing_byte {t n : Nat} {b : ByteArray} (hb : b.size = n) (ht : t < 256) (hn : n ≤ 65535) : bN (thingD (t : Int) b) 0 = t ∧ ∀ j, j < (lenD n).length → (bN (thingD (t : Int) b) (1 + j) : Int) = (lenD n).getD j 0 := by
  have hbs : ∀ x ∈ headD (t : Int) n, 0 ≤ x ∧ x < 256 := by
    intro x hx
    rcases List.mem_cons.1 hx with rfl | hx
    · omega
    · exact lenD_byte hn x hx
  unfold thingD
  rw [hb]
  refine ⟨?_, fun j hj => ?_⟩
  · rw [bN_left (by rw [strOfNums_size]; simp [headD])]
    have := bN_str (j := 0) (xs := headD (t : Int) n) (by simp [headD]) hbs
    simp [headD] at this ⊢; omega
  · rw [bN_left (by rw [strOfNums_size]; simp [headD]; omega), bN_str (by simp [headD]; omega) hbs]
    rw [Nat.add_comm]; simp [headD, List.getD]
/-- A thing is got back, whatever stands ahead of it and behind it. -/
theorem get_back (p x : ByteArray) {t : Nat} {b : ByteArray} (ht : tagB (t : Int) = true) (hb : b.size ≤ 4000) :
    getAt (p ++ thingD (t : Int) b ++ x) p.size = ⟨(t : Int), b, ((p.size + (thingD (t : Int) b).size : Nat) : Int), 0⟩ := by
  obtain ⟨q0, q1, _⟩ := tagB_iff.1 ht
  obtain ⟨h0, hj⟩ := thing_byte (b := b) rfl (t := t) (by omega) (by omega)
  have hs := thingD_size (t : Int) b
  have at' : ∀ j, j < (thingD (t : Int) b).size → bN (p ++ thingD (t : Int) b ++ x) (p.size + j) = bN (thingD (t : Int) b) j := fun j hj => by
    rw [bN_left (by rw [ByteArray.size_append]; omega), bN_right]
  have key := getAt_thing (s := p ++ thingD (t : Int) b ++ x) (k := p.size) hb ht (fun _ => by have := at' 0 (by omega); rw [Nat.add_zero] at this; rw [this, h0])
    (fun j h1 _ => by rw [show p.size + 1 + j = p.size + (1 + j) from by omega, at' (1 + j) (by omega)]; exact hj j h1)
  rw [key, if_neg (by rw [ByteArray.size_append, ByteArray.size_append, hs]; omega)]
  have he : (p ++ thingD (t : Int) b ++ x).extract (p.size + 1 + (lenD b.size).length) (p.size + 1 + (lenD b.size).length + b.size) = b := by
    refine ByteArray.ext (Array.toList_inj.1 ?_)
    rw [ext_list]
    have e : (p ++ thingD (t : Int) b ++ x).data.toList = (p.data.toList ++ (strOfNums (headD (t : Int) b.size)).data.toList) ++ (b.data.toList ++ x.data.toList) := by simp [thingD, ByteArray.data_append]
    have l1 : (p.data.toList ++ (strOfNums (headD (t : Int) b.size)).data.toList).length = p.size + 1 + (lenD b.size).length := by
      rw [List.length_append, ← Lib.size_eq, ← Lib.size_eq, strOfNums_size, headD, List.length_cons]; omega
    rw [e, List.take_append, List.drop_append, l1, List.drop_eq_nil_of_le (by rw [List.length_take, l1]; omega), List.nil_append]
    rw [show p.size + 1 + (lenD b.size).length + b.size - (p.size + 1 + (lenD b.size).length) = b.size from by omega]
    rw [List.length_take, l1, show p.size + 1 + (lenD b.size).length - min (p.size + 1 + (lenD b.size).length + b.size) (p.size + 1 + (lenD b.size).length) = 0 from by omega, List.drop_zero, List.take_append, ← Lib.size_eq, List.take_of_length_le (by rw [← Lib.size_eq]; omega)]
    simp
  rw [he]
  congr 2
  omega
/-- Of fewer bytes it is short. -/
theorem get_short {t : Nat} {b : ByteArray} {k : Nat} (ht : tagB (t : Int) = true) (hb : b.size ≤ 4000) (hk : k < (thingD (t : Int) b).size) : getAt ((thingD (t : Int) b).extract 0 k) 0 = .bad 4 := by
  obtain ⟨q0, q1, _⟩ := tagB_iff.1 ht
  obtain ⟨h0, hj⟩ := thing_byte (b := b) rfl (t := t) (by omega) (by omega)
  have hs := thingD_size (t : Int) b
  have hsz : ((thingD (t : Int) b).extract 0 k).size = k := by rw [ByteArray.size_extract]; omega
  have key := getAt_thing (s := (thingD (t : Int) b).extract 0 k) (k := 0) hb ht (fun h => by rw [bN_ext (by omega), Nat.zero_add, h0])
    (fun j h1 h2 => by rw [bN_ext (by omega), show 0 + (0 + 1 + j) = 1 + j from by omega]; exact hj j h1)
  rw [key, if_pos (by omega)]
/-- Where a thing is got, its bytes are known. -/
theorem getAt_form {s : ByteArray} {k : Nat} (h : (getAt s k).code = 0) : ∃ n, n ≤ 4000 ∧ k + 1 + (lenD n).length + n ≤ s.size ∧ tagB (bN s k : Int) = true ∧
    getAt s k = ⟨(bN s k : Int), s.extract (k + 1 + (lenD n).length) (k + 1 + (lenD n).length + n), ((k + 1 + (lenD n).length + n : Nat) : Int), 0⟩ ∧ ∀ j, j < (lenD n).length → (lenD n).getD j 0 = (bN s (k + 1 + j) : Int) := by
  by_cases e0 : s.size ≤ k
  · rw [getAt_end e0] at h; simp [GetR.bad] at h
  cases ht : tagB (bN s k : Int) with
  | false => rw [getAt_tag (by omega) ht] at h; simp [GetR.bad] at h
  | true =>
    by_cases e1 : s.size = k + 1
    · rw [getAt_one e1 ht] at h; simp [GetR.bad] at h
    by_cases c1 : bN s (k + 1) < 128
    · have hl : lenD (bN s (k + 1)) = [(bN s (k + 1) : Int)] := by rw [lenD, if_pos c1]
      rw [getAt_low (by omega) ht c1] at h ⊢
      by_cases hsz : s.size < k + 2 + bN s (k + 1)
      · rw [bodyAt_short hsz] at h; simp [GetR.bad] at h
      · refine ⟨bN s (k + 1), by omega, by rw [hl]; simp; omega, rfl, by rw [bodyAt_ok (by omega), hl]; rfl, fun j hj => ?_⟩
        rw [hl] at hj ⊢
        obtain rfl : j = 0 := by simp at hj; omega
        rfl
    by_cases c2 : bN s (k + 1) = 129
    · rw [getAt_129 (by omega) ht c2] at h ⊢
      by_cases e2 : s.size ≤ k + 2
      · rw [if_pos e2] at h; simp [GetR.bad] at h
      · rw [if_neg e2] at h ⊢
        by_cases c3 : bN s (k + 2) < 128
        · rw [if_pos c3] at h; simp [GetR.bad] at h
        · rw [if_neg c3] at h ⊢
          have hlt := bN_lt s (k + 2)
          have hl : lenD (bN s (k + 2)) = [129, (bN s (k + 2) : Int)] := by rw [lenD, if_neg c3, if_pos hlt]
          by_cases hsz : s.size < k + 3 + bN s (k + 2)
          · rw [bodyAt_short hsz] at h; simp [GetR.bad] at h
          · refine ⟨bN s (k + 2), by omega, by rw [hl]; simp; omega, rfl, by rw [bodyAt_ok (by omega), hl]; rfl, fun j hj => ?_⟩
            rw [hl] at hj ⊢
            have : j = 0 ∨ j = 1 := by simp at hj; omega
            rcases this with rfl | rfl
            · rw [show k + 1 + 0 = k + 1 from rfl, c2]; rfl
            · rfl
    by_cases c3 : bN s (k + 1) = 130
    · rw [getAt_130 (by omega) ht c3] at h ⊢
      by_cases e2 : s.size ≤ k + 3
      · rw [if_pos e2] at h; simp [GetR.bad] at h
      · rw [if_neg e2] at h ⊢
        obtain ⟨n, hn⟩ : ∃ n, n = 256 * bN s (k + 2) + bN s (k + 3) := ⟨_, rfl⟩
        rw [← hn] at h ⊢
        by_cases c4 : n < 256
        · rw [if_pos c4] at h; simp [GetR.bad] at h
        · rw [if_neg c4] at h ⊢
          by_cases c5 : 4000 < n
          · rw [if_pos c5] at h; simp [GetR.bad] at h
          · rw [if_neg c5] at h ⊢
            have h2 := bN_lt s (k + 2)
            have h3 := bN_lt s (k + 3)
            have hl : lenD n = [130, ((n / 256 : Nat) : Int), ((n % 256 : Nat) : Int)] := by rw [lenD, if_neg (by omega), if_neg c4]
            by_cases hsz : s.size < k + 4 + n
            · rw [bodyAt_short hsz] at h; simp [GetR.bad] at h
            · refine ⟨n, by omega, by rw [hl]; simp; omega, rfl, by rw [bodyAt_ok (by omega), hl]; rfl, fun j hj => ?_⟩
              rw [hl] at hj ⊢
              have : j = 0 ∨ j = 1 ∨ j = 2 := by simp at hj; omega
              rcases this with rfl | rfl | rfl
              · rw [show k + 1 + 0 = k + 1 from rfl, c3]; rfl
              · show ((n / 256 : Nat) : Int) = (bN s (k + 2) : Int); omega
              · show ((n % 256 : Nat) : Int) = (bN s (k + 3) : Int); omega
    · rw [getAt_many (by omega) ht (by omega) c2 c3] at h; simp [GetR.bad] at h
theorem bytes_eq {a b : ByteArray} (hs : a.size = b.size) (h : ∀ j, j < a.size → bN a j = bN b j) : a = b := by
  refine ByteArray.ext (Array.toList_inj.1 (List.ext_getElem? (fun j => ?_)))
  rcases Nat.lt_or_ge j a.size with hj | hj
  · have ha : j < a.data.toList.length := by rw [← Lib.size_eq]; exact hj
    have hb : j < b.data.toList.length := by rw [← Lib.size_eq]; omega
    have := h j hj
    simp only [bN, List.getD, List.getElem?_eq_getElem ha, List.getElem?_eq_getElem hb, Option.getD_some] at this
    rw [List.getElem?_eq_getElem ha, List.getElem?_eq_getElem hb, UInt8.toNat_inj.1 this]
  · rw [List.getElem?_eq_none (by rw [← Lib.size_eq]; exact hj), List.getElem?_eq_none (by rw [← Lib.size_eq]; omega)]
/-- What is got is written by just these bytes. -/
theorem get_written {s : ByteArray} {k : Nat} (h : (getAt s k).code = 0) : s.extract k (getAt s k).at'.toNat = putD (getAt s k).tag (getAt s k).body := by
  obtain ⟨n, hn, hsz, ht, e, hj⟩ := getAt_form h
  rw [e]
  simp only
  obtain ⟨f, hf⟩ : ∃ f, f = k + 1 + (lenD n).length := ⟨_, rfl⟩
  rw [← hf] at hsz ⊢
  have hbs : (s.extract f (f + n)).size = n := by rw [ByteArray.size_extract]; omega
  rw [putD_right ht (by omega)]
  have hlt := bN_lt s k
  obtain ⟨h0, hj'⟩ := thing_byte (b := s.extract f (f + n)) hbs (t := bN s k) hlt (by omega)
  have hts := thingD_size (bN s k : Int) (s.extract f (f + n))
  rw [hbs] at hts
  rw [show (((f + n : Nat) : Int).toNat) = f + n from rfl]
  refine bytes_eq (by rw [ByteArray.size_extract, hts]; omega) (fun j hjl => ?_)
  rw [ByteArray.size_extract] at hjl
  rw [bN_ext (by omega)]
  rcases Nat.lt_or_ge j (1 + (lenD n).length) with hh | hh
  · cases j with
    | zero => rw [Nat.add_zero, h0]
    | succ j =>
      have a1 := hj j (by omega)
      have a2 := hj' j (by omega)
      rw [show j + 1 = 1 + j from by omega, show k + (1 + j) = k + 1 + j from by omega]
      omega
  · obtain ⟨i, rfl⟩ : ∃ i, j = (1 + (lenD n).length) + i := ⟨j - (1 + (lenD n).length), by omega⟩
    have hhs : (strOfNums (headD (bN s k : Int) n)).size = 1 + (lenD n).length := by rw [strOfNums_size, headD, List.length_cons]; omega
    unfold thingD
    rw [hbs, ← hhs, bN_right, bN_ext (by omega), hhs]
    congr 1; omega
theorem all_two {t : Nat} {b : ByteArray} (ht : tagB (t : Int) = true) (hb : b.size ≤ 4000) : allD (thingD (t : Int) b ++ thingD (t : Int) b) = ([((t : Int), b), ((t : Int), b)], 0) := by
  have hs := thingD_size (t : Int) b
  have hl := lenD_one b.size
  have hu := thingD_le (t : Int) b
  have e1 := get_back ByteArray.empty (thingD (t : Int) b) ht hb
  have e2 := get_back (thingD (t : Int) b) ByteArray.empty ht hb
  rw [ByteArray.empty_append] at e1
  rw [ByteArray.append_empty] at e2
  simp only [ByteArray.size_empty, Nat.zero_add] at e1
  generalize thingD (t : Int) b = q at *
  have hq : (q ++ q).size = q.size + q.size := ByteArray.size_append
  unfold allD
  rw [if_neg (by omega), allR_more (by omega) (by rw [e1]) (by simp), e1]
  simp only [Int.toNat_natCast, List.nil_append]
  obtain ⟨g, hg⟩ : ∃ g, (q ++ q).size = g + 1 := ⟨(q ++ q).size - 1, by omega⟩
  rw [hg, allR_more (by omega) (by rw [e2]) (by simp), e2]
  simp only [Int.toNat_natCast]
  rw [allR_end (by omega)]; rfl
/-- The number of bytes, from a sign on. -/
def svL (z : Int) (l : List Int) : Int := l.foldl (fun v b => v * 256 + b) z
theorem svL_int : ∀ (f : Nat) (m : Int), Fits f m → svL (if m < 0 then -1 else 0) (intF f m) = m ∧ ((intF f m).getD 0 0 ≥ 128 ↔ m < 0)
  | 0, m, h => by
    unfold Fits lim at h
    simp only [intF, svL, List.foldl_cons, List.foldl_nil, List.getD_cons_zero]
    split <;> omega
  | f + 1, m, h => by
    by_cases c : -128 ≤ m ∧ m < 128
    · rw [intF, if_pos c]
      simp only [svL, List.foldl_cons, List.foldl_nil, List.getD_cons_zero]
      split <;> omega
    · obtain ⟨g, e, hg, ee⟩ := intF_more c h
      obtain rfl : f = g := by omega
      obtain ⟨i1, i2⟩ := svL_int f (m / 256) hg
      have hlen := (intF_len f (m / 256)).1
      rw [ee]
      refine ⟨?_, ?_⟩
      · have hsg : (if m < 0 then (-1 : Int) else 0) = if m / 256 < 0 then -1 else 0 := by split <;> split <;> omega
        rw [hsg]
        simp only [svL, List.foldl_append, List.foldl_cons, List.foldl_nil] at i1 ⊢
        rw [i1]; omega
      · rw [List.getD, List.getElem?_append_left (by omega), ← List.getD, i2]; omega
theorem sv_str {xs : List Int} (hb : ∀ x ∈ xs, 0 ≤ x ∧ x < 256) : ∀ k, k ≤ xs.length → sv (strOfNums xs) k = svL (sv (strOfNums xs) 0) (xs.take k)
  | 0, _ => by simp [svL]
  | k + 1, hk => by
    show sv (strOfNums xs) k * 256 + (bN (strOfNums xs) k : Int) = _
    rw [sv_str hb k (by omega), bN_str (by omega) hb, List.take_succ_eq_append_getElem (by omega)]
    simp only [svL, List.foldl_append, List.foldl_cons, List.foldl_nil]
    rw [List.getD, List.getElem?_eq_getElem (by omega)]; rfl
/-- A number comes back from its body. -/
theorem int_back {n : Int} (h0 : -9223372036854775808 ≤ n) (h1 : n ≤ 9223372036854775807) : intR (strOfNums (intL n)) = (n, 0) := by
  have hb : ∀ x ∈ intL n, 0 ≤ x ∧ x < 256 := fun x hx => intF_byte 7 n x hx
  have hl := intL_len n
  have hs : (strOfNums (intL n)).size = (intL n).length := strOfNums_size _
  obtain ⟨i1, i2⟩ := svL_int 7 n (fits7 h0 h1)
  have hz : sv (strOfNums (intL n)) 0 = if n < 0 then -1 else 0 := by
    have b0 := bN_str (j := 0) (xs := intL n) (by omega) hb
    rw [sv]
    have : (intL n).getD 0 0 ≥ 128 ↔ n < 0 := i2
    by_cases hn : n < 0
    · rw [if_pos hn, if_pos (by have := this.2 hn; omega)]
    · rw [if_neg hn, if_neg (by intro h; exact hn (this.1 (by omega)))]
  have hv : sv (strOfNums (intL n)) (strOfNums (intL n)).size = n := by
    rw [hs, sv_str hb _ (Nat.le_refl _), List.take_length, hz]; exact i1
  rw [intR_good (by omega) (by omega) (by rw [hv]), hv]
/-- Arcs come back from their body. -/
theorem oid_back {l : List Int} (h : arcsB l = true) : oidR (strOfNums (oidL l)) = (l, 0) := by
  have hs : (strOfNums (oidL l)).size ≤ 45 := by rw [strOfNums_size]; exact oidL_len h
  have hq : oidQ (bl (strOfNums (oidL l))) = some l := (oidQ_iff (bl_lt _)).2 ⟨h, (bl_str (oidTo_byte l _)).symm⟩
  unfold oidR
  rw [if_neg (by omega), hq]
/-- The body behind a short head. -/
theorem thing_body {t : Int} {b : ByteArray} (hb : b.size < 128) : (thingD t b).extract 2 (thingD t b).size = b ∧ (thingD t b).size = b.size + 2 := by
  have hl : lenD b.size = [(b.size : Int)] := by rw [lenD, if_pos hb]
  have hs := thingD_size t b
  rw [hl] at hs
  have hs2 : (thingD t b).size = b.size + 2 := by rw [hs]; simp; omega
  refine ⟨?_, hs2⟩
  rw [hs2]
  refine ByteArray.ext (Array.toList_inj.1 ?_)
  rw [ext_list]
  have e : (thingD t b).data.toList = (strOfNums (headD t b.size)).data.toList ++ b.data.toList := by simp [thingD, ByteArray.data_append]
  have l1 : (strOfNums (headD t b.size)).data.toList.length = 2 := by rw [← Lib.size_eq, strOfNums_size, headD, hl]; rfl
  rw [e, List.take_of_length_le (by rw [List.length_append, l1, ← Lib.size_eq]; omega), List.drop_append, l1, List.drop_eq_nil_of_le (by omega)]
  simp
end Go.Proofs.YtkhdjmjbdpmdnaaGreatDoor
