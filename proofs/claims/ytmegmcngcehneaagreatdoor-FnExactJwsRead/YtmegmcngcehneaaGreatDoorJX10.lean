/- spec.PutText and impl.PutText, walked. Requests as texts. Plain, but for what their values are. Bits cut anew, six by six and eight by eight. Plain mathematics. Reading Base64: what each sign stands for, and eight by eight again. Plain mathematics. -/
import Derived.Test.YtmegmcngcehneaaGreatDoorJX09
import Derived.Test.YtmegmcngcehneaaGreatDoorJX07
import Derived.Test.YtmegmcngcehneaaGreatDoorJX02
import Derived.Test.YtmegmcngcehneaaGreatDoorJX04
namespace Go.Proofs.YtmegmcngcehneaaGreatDoor
open Go.RowKit

theorem putF_lenT (f x : Nat) : (putF f x).length ≤ f + 1 := by
  induction f generalizing x with
  | zero => simp [putF]
  | succ f ih =>
    rw [putF]
    split
    · simp
    · simpa using ih (x / 128)
theorem putStr_size (f x : Nat) : (strOfNums (putF f x)).size ≤ f + 1 := by
  have := putF_lenT f x
  simpa [strOfNums, ByteArray.size] using this


set_option maxRecDepth 100000 in
theorem specPutText (t : ByteArray) (w : World) (hs : t.size ≤ 20000) :
    Calls Tryz.prog 31 #[.string t] w fun e w' => e = .returned (.string (strOfNums (putF 9 (foldI t.size)) ++ t)) ∧ Below w.heap.size w w' := by
  have hl := putStr_size 9 (foldI t.size)
  go_enter Tryz.func31, Tryz.ntmps31
  go_wp2_with fail
  refine (specPut _ _ (by omega) (by omega)).mono ?_
  rintro e w1 ⟨rfl, hb1⟩
  generalize hse : strOfNums (putF 9 (foldI t.size)) = s at *
  have HE : Hid (strOfNums (putF 9 (foldI t.size)) = s) := hse
  clear hse
  have hadd := fun W => run_string_add_sum (P := Tryz.prog) (w := W) s t (by omega)
  go_wp2
  go_ret
  exact ⟨by rw [HE.out]; rfl, hb1⟩
theorem specPutText_long (t : ByteArray) (w : World) (hs : 20000 < t.size) (hm : t.size ≤ maxLen) :
    Calls Tryz.prog 31 #[.string t] w fun e w' => e = .returned (.string ByteArray.empty) ∧ w' = w := by
  unfold maxLen at hm
  go_enter Tryz.func31, Tryz.ntmps31
  go_wp2
  go_ret
  exact ⟨rfl, rfl⟩
set_option maxRecDepth 100000 in
theorem implPutText (t : ByteArray) (w : World) (hs : t.size ≤ 20000) :
    Calls Tryz.prog 45 #[.string t] w fun e w' => e = .returned (.string (strOfNums (putF 9 (foldI t.size)) ++ t)) ∧ Below w.heap.size w w' := by
  have hl := putStr_size 9 (foldI t.size)
  have hd : decide (20000 < t.size) = false := by simp; omega
  go_enter Tryz.func45, Tryz.ntmps45
  go_wp2_with fail
  refine (tooLong t _ (by unfold maxLen; omega)).mono ?_
  rintro e w' ⟨rfl, rfl⟩
  go_wp2_with fail
  refine (implPut _ _ (by omega) (by omega)).mono ?_
  rintro e w1 ⟨rfl, hb1⟩
  generalize hse : strOfNums (putF 9 (foldI t.size)) = s at *
  have HE : Hid (strOfNums (putF 9 (foldI t.size)) = s) := hse
  clear hse
  go_wp2_with fail
  refine (joinTexts s t _ (by omega) (by omega)).mono ?_
  rintro e w2 ⟨rfl, hb2⟩
  have HB : Hid (Below w'.heap.size w' w2) := hb1.trans (hb2.mono hb1.size)
  clear hb1 hb2
  go_wp2
  go_ret
  exact ⟨by rw [HE.out]; rfl, HB.out⟩
theorem implPutText_long (t : ByteArray) (w : World) (hs : 20000 < t.size) (hm : t.size ≤ maxLen) :
    Calls Tryz.prog 45 #[.string t] w fun e w' => e = .returned (.string ByteArray.empty) ∧ w' = w := by
  have hd : decide (20000 < t.size) = true := by simp; omega
  go_enter Tryz.func45, Tryz.ntmps45
  go_wp2_with fail
  refine (tooLong t _ hm).mono ?_
  rintro e w' ⟨rfl, rfl⟩
  go_wp2
  go_ret
  exact ⟨rfl, rfl⟩
end Go.Proofs.YtmegmcngcehneaaGreatDoor
namespace Go.Proofs.YtmegmcngcehneaaGreatDoor
open Go.RowKit Go.Lib

/-- A text behind its length. -/
def putTx (t : ByteArray) : ByteArray := strOfNums (putF 9 (foldI t.size)) ++ t
def dotD : ByteArray := ⟨#[46]⟩
def jHead (key nonce : Int) (url : ByteArray) : ByteArray := putS key ++ putS nonce ++ putTx url
/-- The first two parts. -/
def jTwo (key nonce : Int) (url body : ByteArray) : ByteArray := b64D (jHead key nonce url) ++ dotD ++ b64D body
def jText (key nonce : Int) (url body : ByteArray) (e s : Int) : ByteArray := jTwo key nonce url body ++ dotD ++ b64D (putS e ++ putS s)
def jV (key nonce : Int) (url body : ByteArray) (sk se ss : Int) : Value := .agg #[.int .i64 key, .int .i64 nonce, .string url, .string body, .int .i64 sk, .int .i64 se, .int .i64 ss]
theorem b64D_size (s : ByteArray) : (b64D s).size ≤ 2 * s.size := by
  unfold b64D
  rw [strOfNums_size]
  have := b64I_len (bts s)
  rw [bts_len] at this
  exact this
theorem putTx_size (t : ByteArray) : (putTx t).size ≤ 10 + t.size := by
  have := putStr_size 9 (foldI t.size)
  rw [putTx, ByteArray.size_append]
  omega
theorem jHead_size (key nonce : Int) (url : ByteArray) : (jHead key nonce url).size ≤ 30 + url.size := by
  have h1 := putS_size key
  have h2 := putS_size nonce
  have h3 := putTx_size url
  rw [jHead, ByteArray.size_append, ByteArray.size_append]
  omega
theorem jTwo_size (key nonce : Int) (url body : ByteArray) : (jTwo key nonce url body).size ≤ 61 + 2 * url.size + 2 * body.size := by
  have h1 := b64D_size (jHead key nonce url)
  have h2 := b64D_size body
  have h3 := jHead_size key nonce url
  have h4 : dotD.size = 1 := rfl
  rw [jTwo, ByteArray.size_append, ByteArray.size_append, h4]
  omega
/-- Is what is asked right, whatever its signature is? -/
noncomputable def rqB (key nonce : Int) (url body : ByteArray) : Bool := rightG key && (timeB nonce && (nameB url && decide (body.size ≤ 2000)))
/-- What JwsSign tells. -/
noncomputable def jSign (x nonce : Int) (url body : ByteArray) : ByteArray :=
  if secB x = true ∧ timeB nonce = true ∧ nameB url = true ∧ body.size ≤ 2000 then
    jText (pubA x) nonce url body (signE x.toNat (jTwo (pubA x) nonce url body)) (signS x.toNat (jTwo (pubA x) nonce url body))
  else ⟨#[]⟩
theorem pub_rqB (x nonce : Int) (url body : ByteArray) : rqB (pubA x) nonce url body = (secB x && (timeB nonce && (nameB url && decide (body.size ≤ 2000)))) := by
  unfold rqB
  by_cases h : secB x = true
  · obtain ⟨n, rfl, h1, h2⟩ := secB_nat h
    rw [pubA_nat n h, pub_right h1 h2, h]
  · have e : rightG 0 = false := rightG_out (by omega)
    rw [pubA, if_neg h, e]
    rw [Bool.not_eq_true] at h
    rw [h]
open Classical in
theorem jurl_size {url : ByteArray} (h : nameB url = true) : url.size ≤ 40 := by
  unfold nameB at h
  have := of_decide_eq_true h
  exact this.2.1
end Go.Proofs.YtmegmcngcehneaaGreatDoor
namespace Go.Proofs.YtmegmcngcehneaaGreatDoor
open Go.RowKit Go.Lib

theorem and_mask (p : Nat) (hp : p ≤ 32) (n : Nat) : bits .and .i64 (n : Int) ((2 ^ p : Nat) - 1 : Int) = ((n % 2 ^ p : Nat) : Int) := by
  have h32 : 2 ^ p ≤ 2 ^ 32 := Nat.pow_le_pow_right (by omega) hp
  have hp0 : 0 < 2 ^ p := Nat.two_pow_pos p
  have e0 : (2 : Nat) ^ 32 = 4294967296 := by decide
  have e : bits BinOp.and IntKind.i64 (n : Int) ((2 ^ p : Nat) - 1 : Int) = IntKind.i64.wrap ((BitVec.ofInt 64 (n : Int) &&& BitVec.ofInt 64 ((2 ^ p : Nat) - 1 : Int)).toNat : Nat) := rfl
  rw [e, BitVec.toNat_and, BitVec.toNat_ofInt, BitVec.toNat_ofInt]
  have e1 : ((((2 ^ p : Nat) : Int) - 1) % ((2 ^ 64 : Nat) : Int)).toNat = 2 ^ p - 1 := by omega
  rw [e1, Nat.and_two_pow_sub_one_eq_mod, IntKind.wrap_i64]
  have hm : (((n : Int) % ((2 ^ 64 : Nat) : Int)).toNat) % 2 ^ p = n % 2 ^ p := by
    have h64 : ((n : Int) % ((2 ^ 64 : Nat) : Int)).toNat = n % 2 ^ 64 := by omega
    rw [h64, Nat.mod_mod_of_dvd]
    exact Nat.pow_dvd_pow 2 (by omega)
  rw [hm]
  have := Nat.mod_lt n hp0
  omega
/-- Eight by eight to six by six: h is held, c bits. -/
def rgo : List Nat → Nat → Nat → List Nat × Nat × Nat
  | [], h, c => ([], h, c)
  | g :: r, h, c =>
    if c = 0 then ((h * 256 + g) / 4 :: (rgo r ((h * 256 + g) % 4) 2).1, (rgo r ((h * 256 + g) % 4) 2).2)
    else if c = 2 then ((h * 256 + g) / 16 :: (rgo r ((h * 256 + g) % 16) 4).1, (rgo r ((h * 256 + g) % 16) 4).2)
    else ((h * 256 + g) / 64 :: (h * 256 + g) % 64 :: (rgo r 0 0).1, (rgo r 0 0).2)
/-- What is put behind. -/
def tailG (x : Nat × Nat) : List Nat := if x.2 = 0 then [] else if x.2 = 2 then [x.1 * 16] else [x.1 * 4]
theorem b64_rgo : ∀ (l : List Nat), b64 l = (rgo l 0 0).1 ++ tailG (rgo l 0 0).2 ∧ ((rgo l 0 0).2.2 = 0 ∨ ((rgo l 0 0).2.2 = 2 ∧ (rgo l 0 0).2.1 < 4) ∨ ((rgo l 0 0).2.2 = 4 ∧ (rgo l 0 0).2.1 < 16))
  | [] => ⟨rfl, .inl rfl⟩
  | [a] => by
    refine ⟨?_, .inr (.inl ⟨rfl, ?_⟩)⟩
    · simp [b64, rgo, tailG]
    · simp only [rgo, if_true]; omega
  | [a, b] => by
    refine ⟨?_, .inr (.inr ⟨rfl, ?_⟩)⟩
    · simp [b64, rgo, tailG]
      omega
    · simp [rgo]; omega
  | a :: b :: c :: r => by
    have ih := b64_rgo r
    have e : rgo (a :: b :: c :: r) 0 0 = (a / 4 :: (a % 4 * 16 + b / 16) :: (b % 16 * 4 + c / 64) :: (c % 64) :: (rgo r 0 0).1, (rgo r 0 0).2) := by
      simp [rgo]
      omega
    rw [e]
    refine ⟨?_, ih.2⟩
    rw [b64, ih.1]
    rfl
theorem b64_lt : ∀ (l : List Nat), (∀ x ∈ l, x < 256) → ∀ y ∈ b64 l, y < 64
  | [], _, y, hy => by cases hy
  | [a], h, y, hy => by
    have ha := h a (by simp)
    simp [b64] at hy
    omega
  | [a, b], h, y, hy => by
    have ha := h a (by simp)
    have hb := h b (by simp)
    simp [b64] at hy
    omega
  | a :: b :: c :: r, h, y, hy => by
    have ha := h a (by simp)
    have hb := h b (by simp)
    have hc := h c (by simp)
    simp only [b64, List.mem_cons] at hy
    rcases hy with rfl | rfl | rfl | rfl | hy
    · omega
    · omega
    · omega
    · omega
    · exact b64_lt r (fun x hx => h x (by simp [hx])) y hy
theorem rgo_len : ∀ (l : List Nat) (h c : Nat), (rgo l h c).1.length ≤ 2 * l.length
  | [], _, _ => Nat.le_refl _
  | g :: r, h, c => by
    have h1 := rgo_len r ((h * 256 + g) % 4) 2
    have h2 := rgo_len r ((h * 256 + g) % 16) 4
    have h3 := rgo_len r 0 0
    rw [rgo]
    split
    · simp only [List.length_cons]; omega
    · split
      · simp only [List.length_cons]; omega
      · simp only [List.length_cons]; omega
theorem bts_lt (s : ByteArray) : ∀ x ∈ bts s, x < 256 := by
  intro x hx
  simp only [bts, List.mem_map] at hx
  obtain ⟨u, _, rfl⟩ := hx
  have := u.toNat_lt
  omega
/-- Bytes in memory. -/
def IsBts (w : World) (a : Option Addr) (zs : List Nat) : Prop := zs = [] ∨ ∃ b, a = some ⟨b, 0, none⟩ ∧ b < w.heap.size ∧ ∀ (i z : Nat), zs[i]? = some z → w.cell? ⟨b, i, none⟩ = some (.int .u8 (z : Int))
theorem IsBts.keep {w w' : World} {a : Option Addr} {zs : List Nat} (h : IsBts w a zs) (hb : Below w.heap.size w w') : IsBts w' a zs := by
  rcases h with h | ⟨b, e, hl, hc⟩
  · exact .inl h
  · exact .inr ⟨b, e, Nat.lt_of_lt_of_le hl hb.size, fun i z hz => by rw [hb.cell (p := ⟨b, i, none⟩) hl]; exact hc i z hz⟩
/-- A row of bytes of the call's own. -/
def OwnB (w : World) (B : Nat) (v : Value) (l : List Nat) : Prop := w.ownsRow B 5 1 v l.length ((l.map (fun x : Nat => (x : Int))).map (Value.int .u8))
theorem OwnB.keep {w w' : World} {B : Nat} {v : Value} {l : List Nat} (h : OwnB w B v l) (hb : Below w.heap.size w w') : OwnB w' B v l := by
  refine ⟨h.1, ?_⟩
  rcases h.2 with h | ⟨g, cap, cur, e, h1, h2, h3⟩
  · exact .inl h
  · exact .inr ⟨g, cap, cur, e, h1, by rw [hb.block g (heap_lt h2)]; exact h2, h3⟩
theorem OwnB.form {w : World} {B : Nat} {v : Value} {l : List Nat} (h : OwnB w B v l) : ∃ a c, v = .slice a l.length c ∧ l.length ≤ c := by
  rcases h.2 with ⟨h, h'⟩ | ⟨g, cap, _, e, _, _, hc, _⟩
  · exact ⟨none, 0, by rw [h']; exact h, by omega⟩
  · exact ⟨_, _, e, hc⟩
theorem ownB_nil (w : World) (B : Nat) : OwnB w B (.slice none 0 0) [] := ⟨rfl, .inl ⟨rfl, rfl⟩⟩
theorem OwnB.bts {w : World} {B n c : Nat} {a : Option Addr} {l : List Nat} (h : OwnB w B (.slice a n c) l) : IsBts w a l := by
  rcases h.2 with ⟨_, h'⟩ | ⟨g, cap, cur, e, h1, h2, h3, _, _, ht⟩
  · exact .inl (List.eq_nil_of_length_eq_zero h')
  · simp only [Value.slice.injEq] at e
    obtain ⟨rfl, rfl, rfl⟩ := e
    refine .inr ⟨g, rfl, heap_lt h2, fun i z hz => ?_⟩
    have hi : i < l.length := by
      rcases Nat.lt_or_ge i l.length with h | h
      · exact h
      · rw [List.getElem?_eq_none h] at hz; cases hz
    have := World.ownsRow.cellAt h i (by omega)
    rw [this]
    simp [hz]
end Go.Proofs.YtmegmcngcehneaaGreatDoor
namespace Go.Proofs.YtmegmcngcehneaaGreatDoor
open Go.RowKit Go.Lib

/-- What a sign stands for. -/
def sgi (c : Nat) : Option Nat := (List.range 64).find? fun q => decide (sg q = (c : Int))
def sgk (c : Nat) : Int := match sgi c with
  | some q => (q : Int)
  | none => -1
theorem sg_inj : ∀ q q' : Fin 64, sg q = sg q' → q = q' := by decide +kernel
theorem sg_range : ∀ q : Fin 64, 0 ≤ sg q ∧ sg q < 128 := by decide +kernel
theorem sgi_some {c q : Nat} (h : sgi c = some q) : q < 64 ∧ sg q = (c : Int) := by
  have h1 := List.mem_of_find?_eq_some h
  have h2 := List.find?_some h
  exact ⟨List.mem_range.1 h1, of_decide_eq_true h2⟩
theorem sgi_none {c : Nat} (h : sgi c = none) : ∀ q, q < 64 → sg q ≠ (c : Int) := by
  intro q hq e
  have := List.find?_eq_none.1 h q (List.mem_range.2 hq)
  exact this (decide_eq_true e)
theorem sgi_eq {c q : Nat} (hq : q < 64) (h : sg q = (c : Int)) : sgi c = some q := by
  cases hh : sgi c with
  | none => exact absurd h (sgi_none hh q hq)
  | some q' =>
    have h1 := sgi_some hh
    have := sg_inj ⟨q', h1.1⟩ ⟨q, hq⟩ (h1.2.trans h.symm)
    simp at this
    rw [this]
theorem sgi_high {c : Nat} (h : 128 ≤ c) : sgi c = none := by
  cases hh : sgi c with
  | none => rfl
  | some q =>
    have h1 := sgi_some hh
    have h2 := sg_range ⟨q, h1.1⟩
    simp only at h2
    omega
def readV : List Nat → Option (List Nat)
  | [] => some []
  | c :: r => match sgi c with
    | none => none
    | some q => (readV r).map (q :: ·)
theorem readV_len : ∀ (l vs : List Nat), readV l = some vs → vs.length = l.length
  | [], vs, h => by simp [readV] at h; subst h; rfl
  | c :: r, vs, h => by
    rw [readV] at h
    split at h
    · cases h
    · cases hr : readV r with
      | none => rw [hr] at h; cases h
      | some v2 =>
        rw [hr] at h
        simp at h
        subst h
        simp [readV_len r v2 hr]
theorem readV_lt : ∀ (l vs : List Nat), readV l = some vs → ∀ x ∈ vs, x < 64
  | [], vs, h => by simp [readV] at h; subst h; simp
  | c :: r, vs, h => by
    rw [readV] at h
    split at h
    · cases h
    · rename_i q hq
      cases hr : readV r with
      | none => rw [hr] at h; cases h
      | some v2 =>
        rw [hr] at h
        simp at h
        subst h
        intro x hx
        rcases List.mem_cons.1 hx with rfl | hx
        · exact (sgi_some hq).1
        · exact readV_lt r v2 hr x hx
/-- Six by six to eight by eight: h is held, c bits. -/
def rgi : List Nat → Nat → Nat → List Nat × Nat × Nat
  | [], h, c => ([], h, c)
  | g :: r, h, c =>
    if c = 0 then rgi r (h * 64 + g) 6
    else if c = 6 then ((h * 64 + g) / 16 :: (rgi r ((h * 64 + g) % 16) 4).1, (rgi r ((h * 64 + g) % 16) 4).2)
    else if c = 4 then ((h * 64 + g) / 4 :: (rgi r ((h * 64 + g) % 4) 2).1, (rgi r ((h * 64 + g) % 4) 2).2)
    else ((h * 64 + g) :: (rgi r 0 0).1, (rgi r 0 0).2)
theorem rgi_len : ∀ (l : List Nat) (h c : Nat), (rgi l h c).1.length ≤ 2 * l.length
  | [], _, _ => Nat.le_refl _
  | g :: r, h, c => by
    have h1 := rgi_len r (h * 64 + g) 6
    have h2 := rgi_len r ((h * 64 + g) % 16) 4
    have h3 := rgi_len r ((h * 64 + g) % 4) 2
    have h4 := rgi_len r 0 0
    rw [rgi]
    split
    · simp only [List.length_cons]; omega
    · split
      · simp only [List.length_cons]; omega
      · split
        · simp only [List.length_cons]; omega
        · simp only [List.length_cons]; omega
def natT (l : List Nat) : ByteArray := strOfNums (l.map fun x : Nat => (x : Int))
theorem natT_size (l : List Nat) : (natT l).size = l.length := by unfold natT; rw [strOfNums_size, List.length_map]
/-- What Base64Read tells. -/
def readTD (s : ByteArray) : ByteArray × Int :=
  if 20000 < s.size then (⟨#[]⟩, 2) else
  match readV (bts s) with
  | none => (⟨#[]⟩, 3)
  | some vs => if base64D (natT (rgi vs 0 0).1) = s then (natT (rgi vs 0 0).1, 0) else (⟨#[]⟩, 3)
theorem read_same {s : ByteArray} {vs : List Nat} (h : readV (bts s) = some vs) : base64D (natT (rgi vs 0 0).1) = s ↔ ((rgi vs 0 0).1.length ≤ 4000 ∧ b64D (natT (rgi vs 0 0).1) = s) := by
  have hl := readV_len _ _ h
  rw [bts_len] at hl
  unfold base64D
  rw [natT_size]
  by_cases h4 : 4000 < (rgi vs 0 0).1.length
  · rw [if_pos h4]
    constructor
    · intro e
      exfalso
      rw [← e] at hl
      have : vs = [] := List.eq_nil_of_length_eq_zero (by rw [hl]; rfl)
      subst this
      simp [rgi] at h4
    · intro e
      omega
  · rw [if_neg h4]
    constructor
    · intro e
      exact ⟨by omega, e⟩
    · intro e
      exact e.2
end Go.Proofs.YtmegmcngcehneaaGreatDoor
