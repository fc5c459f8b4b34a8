/- spec.l05Is, walked. A time lies within bounds. Plain. What a function returns in a variable of its own: the variable over a call. No program is named. spec.JwsSign, walked. Bits cut anew, six by six and eight by eight. Plain mathematics. impl.regroup from 8 bits to 6, walked. -/
import Derived.Test.YtmegmcngcehneaaDoorJS01
import Derived.Test.YtmegmcngcehneaaDoorJS07
import Derived.Test.YtmegmcngcehneaaDoorJS02
import Derived.Test.YtmegmcngcehneaaDoorJS05
import Derived.Deep.Cut
namespace Go.Proofs.YtmegmcngcehneaaDoor
open Go.RowKit Go.Lib

theorem specIs (n l h : Int) (w : World) :
    Calls Tryd.prog 7 #[.int .i64 n, .int .i64 l, .int .i64 h] w fun e w' => e = .returned (.bool (decide (l ≤ n) && decide (n ≤ h))) ∧ w' = w := by
  by_cases h1 : l ≤ n
  · go_enter Tryd.func7, Tryd.ntmps7
    go_wp2
    go_ret
    exact ⟨by simp [h1], rfl⟩
  · go_enter Tryd.func7, Tryd.ntmps7
    go_wp2
    go_ret
    exact ⟨by simp; omega, rfl⟩
end Go.Proofs.YtmegmcngcehneaaDoor
namespace Go.Proofs.YtmegmcngcehneaaDoor

theorem timeB_in {n : Int} (h : timeB n = true) : 0 ≤ n ∧ n ≤ 1000000000 := by
  unfold timeB at h
  rw [Bool.and_eq_true] at h
  exact ⟨of_decide_eq_true h.1, of_decide_eq_true h.2⟩
end Go.Proofs.YtmegmcngcehneaaDoor
namespace Go.Proofs.YtmegmcngcehneaaDoor
open Go.RowKit

theorem resKeep {w w1 : World} {cs : List Value} {T : Nat} (hb : Below (w.alloc (.cells cs.toArray T (0, 0))).heap.size (w.alloc (.cells cs.toArray T (0, 0))) w1) :
    w1.heap[w.heap.size]? = some (.cells cs.toArray T (0, 0)) ∧ Below w.heap.size w w1 ∧ w.heap.size < w1.heap.size := by
  have hs : (w.alloc (.cells cs.toArray T (0, 0))).heap.size = w.heap.size + 1 := by simp
  have hl := hb.size
  refine ⟨?_, ((Below.refl _ w).alloc (Nat.le_refl _) _).trans (hb.mono (by omega)), by omega⟩
  rw [hb.block w.heap.size (by omega)]
  exact heap_alloc_new w _
theorem rowFree {w : World} {g : Nat} {cs : List Value} {t : TypeId} (hg : w.heap[g]? = some (.cells cs.toArray t (0, 0))) (j : Nat) : w.frozen? ⟨g, j, none⟩ = false := frozen_of_row w g j _ t hg
/-- Three cells of a variable. -/
theorem cells3 {w : World} {g : Nat} {a b c : Value} {t : TypeId} (h : w.heap[g]? = some (.cells [a, b, c].toArray t (0, 0))) :
    (w.cell? ⟨g, 0, none⟩ = some a ∧ w.cell? ⟨g, 1, none⟩ = some b ∧ w.cell? ⟨g, 2, none⟩ = some c) ∧ w.frozen? ⟨g, 0, none⟩ = false ∧ w.frozen? ⟨g, 1, none⟩ = false ∧ w.frozen? ⟨g, 2, none⟩ = false :=
  ⟨⟨rowFacts h 0 _ rfl, rowFacts h 1 _ rfl, rowFacts h 2 _ rfl⟩, rowFree h 0, rowFree h 1, rowFree h 2⟩
theorem cells2 {w : World} {g : Nat} {a b : Value} {t : TypeId} (h : w.heap[g]? = some (.cells [a, b].toArray t (0, 0))) :
    (w.cell? ⟨g, 0, none⟩ = some a ∧ w.cell? ⟨g, 1, none⟩ = some b) ∧ w.frozen? ⟨g, 0, none⟩ = false ∧ w.frozen? ⟨g, 1, none⟩ = false :=
  ⟨⟨rowFacts h 0 _ rfl, rowFacts h 1 _ rfl⟩, rowFree h 0, rowFree h 1⟩
theorem cells4 {w : World} {g : Nat} {a b c d : Value} {t : TypeId} (h : w.heap[g]? = some (.cells [a, b, c, d].toArray t (0, 0))) :
    (w.cell? ⟨g, 0, none⟩ = some a ∧ w.cell? ⟨g, 1, none⟩ = some b ∧ w.cell? ⟨g, 2, none⟩ = some c ∧ w.cell? ⟨g, 3, none⟩ = some d) ∧ w.frozen? ⟨g, 0, none⟩ = false ∧ w.frozen? ⟨g, 1, none⟩ = false ∧ w.frozen? ⟨g, 2, none⟩ = false ∧ w.frozen? ⟨g, 3, none⟩ = false :=
  ⟨⟨rowFacts h 0 _ rfl, rowFacts h 1 _ rfl, rowFacts h 2 _ rfl, rowFacts h 3 _ rfl⟩, rowFree h 0, rowFree h 1, rowFree h 2, rowFree h 3⟩
end Go.Proofs.YtmegmcngcehneaaDoor
namespace Go.Proofs.YtmegmcngcehneaaDoor
open Go.RowKit Go.Lib

theorem specNameB (s : ByteArray) (w : World) (hs : s.size ≤ maxLen) :
    Calls Tryd.prog 8 #[.string s] w fun e w' => e = .returned (.bool (nameB s)) ∧ w' = w :=
  (specName s w hs).mono fun _ _ h => ⟨ans_name h.1, h.2⟩
set_option linter.unusedSimpArgs false in
set_option maxHeartbeats 4000000 in
set_option maxRecDepth 100000 in
theorem specJwsSign (x nonce : Int) (url body : ByteArray) (w : World) (x0 : -9223372036854775808 ≤ x) (x1 : x ≤ 9223372036854775807) (n0 : -9223372036854775808 ≤ nonce) (n1 : nonce ≤ 9223372036854775807) (hu : url.size ≤ 1048576) (hbb : body.size ≤ 1048576) :
    Calls Tryd.prog 4 #[.int .i64 x, .int .i64 nonce, .string url, .string body] w fun e w' => e = .returned (.string (jSign x nonce url body)) ∧ Below w.heap.size w w' := by
  have HSc : Hid (∀ V, Calls Tryd.prog 6 #[.int .i64 x] V fun e w' => e = .returned (.bool (secB x)) ∧ w' = V) := fun V => specSecret x V
  have HTm : Hid (∀ V, Calls Tryd.prog 7 #[.int .i64 nonce, .int .i64 0, .int .i64 1000000000] V fun e w' => e = .returned (.bool (timeB nonce)) ∧ w' = V) := fun V => specIs nonce 0 1000000000 V
  have HNm : Hid (∀ V, Calls Tryd.prog 8 #[.string url] V fun e w' => e = .returned (.bool (nameB url)) ∧ w' = V) := fun V => specNameB url V (by unfold maxLen; omega)
  have HNo : Hid (¬ (secB x = true ∧ timeB nonce = true ∧ nameB url = true ∧ body.size ≤ 2000) → jSign x nonce url body = ⟨#[]⟩) := fun h => by rw [jSign, if_neg h]
  have HU : Hid (nameB url = true → url.size ≤ 40) := name_size
  go_enter Tryd.func4, Tryd.ntmps4
  by_cases u1 : 20000 < url.size
  · have HF : Hid _ := HNo.out (fun h => by have := HU.out h.2.2.1; omega)
    go_wp2
    go_ret
    exact ⟨by rw [HF.out]; rfl, Below.refl _ _⟩
  by_cases u2 : 20000 < body.size
  · have HF : Hid _ := HNo.out (fun h => by omega)
    go_wp2
    go_ret
    exact ⟨by rw [HF.out]; rfl, Below.refl _ _⟩
  cases hs : secB x with
  | false =>
    have HF : Hid _ := HNo.out (fun h => by rw [hs] at h; cases h.1)
    rw [hs] at HSc
    clear HNo
    go_wp2_with fail
    refine (HSc.out w).mono ?_
    rintro e w' ⟨rfl, rfl⟩
    go_wp2
    go_ret
    exact ⟨by rw [HF.out]; rfl, Below.refl _ _⟩
  | true =>
  cases ht : timeB nonce with
  | false =>
    have HF : Hid _ := HNo.out (fun h => by rw [ht] at h; cases h.2.1)
    rw [hs] at HSc
    rw [ht] at HTm
    clear HNo
    go_wp2_with fail
    refine (HSc.out w).mono ?_
    rintro e w' ⟨rfl, rfl⟩
    go_wp2_with fail
    refine (HTm.out _).mono ?_
    rintro e w' ⟨rfl, rfl⟩
    go_wp2
    go_ret
    exact ⟨by rw [HF.out]; rfl, Below.refl _ _⟩
  | true =>
  cases hn : nameB url with
  | false =>
    have HF : Hid _ := HNo.out (fun h => by rw [hn] at h; cases h.2.2.1)
    rw [hs] at HSc
    rw [ht] at HTm
    rw [hn] at HNm
    clear HNo
    go_wp2_with fail
    refine (HSc.out w).mono ?_
    rintro e w' ⟨rfl, rfl⟩
    go_wp2_with fail
    refine (HTm.out _).mono ?_
    rintro e w' ⟨rfl, rfl⟩
    go_wp2_with fail
    refine (HNm.out _).mono ?_
    rintro e w' ⟨rfl, rfl⟩
    go_wp2
    go_ret
    exact ⟨by rw [HF.out]; rfl, Below.refl _ _⟩
  | true =>
  by_cases hb : body.size ≤ 2000
  rotate_left
  · have HF : Hid _ := HNo.out (fun h => hb h.2.2.2)
    rw [hs] at HSc
    rw [ht] at HTm
    rw [hn] at HNm
    clear HNo
    go_wp2_with fail
    refine (HSc.out w).mono ?_
    rintro e w' ⟨rfl, rfl⟩
    go_wp2_with fail
    refine (HTm.out _).mono ?_
    rintro e w' ⟨rfl, rfl⟩
    go_wp2_with fail
    refine (HNm.out _).mono ?_
    rintro e w' ⟨rfl, rfl⟩
    go_wp2
    go_ret
    exact ⟨by rw [HF.out]; rfl, Below.refl _ _⟩
  obtain ⟨pk, hpk⟩ : ∃ p, p = pubA x := ⟨_, rfl⟩
  have hp1 : 0 ≤ pk ∧ pk < 2147483579 := by
    rw [hpk]
    obtain ⟨n, rfl, h1, h2⟩ := secB_nat hs
    rw [pubA_nat n hs]
    have := pm_lt 4 n (m := 2147483579) (by omega)
    omega
  have hut := name_size hn
  obtain ⟨TW, hTW⟩ : ∃ t, t = jTwo pk nonce url body := ⟨_, rfl⟩
  have hTz : TW.size ≤ 5000 := by have := jTwo_size pk nonce url body; rw [hTW]; omega
  obtain ⟨E, hE⟩ : ∃ e, e = signE x.toNat TW := ⟨_, rfl⟩
  obtain ⟨SS, hSS⟩ : ∃ e, e = signS x.toNat TW := ⟨_, rfl⟩
  have hE1 : E < 1073741789 := by rw [hE]; exact chal_lt _ _ _
  have hS1 : SS < 1073741789 := by rw [hSS]; exact Nat.mod_lt _ (by omega)
  have hSV : signV x TW = .agg #[.int .i64 pk, .int .i64 E, .int .i64 SS] := by
    rw [signV, if_pos ⟨by omega, hs⟩, hE, hSS, hpk, pubA, if_pos hs]
    rfl
  have ht' := timeB_in ht
  have HF : Hid (jSign x nonce url body = jText pk nonce url body E SS) := by
    show _ = _
    rw [jSign, if_pos ⟨hs, ht, hn, hb⟩, hE, hSS, hTW, hpk]
  have HP : Hid (∀ V, Calls Tryd.prog 9 #[.int .i64 x] V fun e w' => e = .returned (.int .i64 pk) ∧ Below V.heap.size V w') := fun V => by rw [hpk]; exact (specPublic x V).mono fun e W h => ⟨h.1, by rw [h.2]; exact Below.refl _ _⟩
  have HH : Hid (∀ V, Calls Tryd.prog 11 #[.agg #[.int .i64 pk, .int .i64 nonce, .string url, .string body, .int .i64 0, .int .i64 0, .int .i64 0]] V fun e w' => e = .returned (.string TW) ∧ Below V.heap.size V w') := fun V => by rw [hTW]; exact specHead pk nonce url body 0 0 0 V (by omega) (by omega) hut hb
  have HG : Hid (∀ V, Calls Tryd.prog 10 #[.int .i64 x, .string TW] V fun e w' => e = .returned (.agg #[.int .i64 pk, .int .i64 E, .int .i64 SS]) ∧ Below V.heap.size V w') := fun V => by rw [← hSV]; exact specSign x TW V (by unfold maxLen; omega)
  have HX : Hid (∀ V, Calls Tryd.prog 12 #[.agg #[.int .i64 pk, .int .i64 nonce, .string url, .string body, .int .i64 pk, .int .i64 E, .int .i64 SS]] V fun e w' => e = .returned (.string (jText pk nonce url body E SS)) ∧ Below V.heap.size V w') := fun V => specText pk nonce url body pk E SS V (by omega) (by omega) hut hb (by omega) (by omega)
  rw [HF.out]
  rw [hs] at HSc
  rw [ht] at HTm
  rw [hn] at HNm
  have hb' : ¬ 2000 < body.size := by omega
  clear HNo HF HU hSV hpk hTW hTz hE hSS hE1 hS1 ht' hut hs ht hn hp1
  generalize jText pk nonce url body E SS = R at *
  go_wp2_with fail
  refine (HSc.out w).mono ?_
  rintro e w' ⟨rfl, rfl⟩
  go_wp2_with fail
  refine (HTm.out _).mono ?_
  rintro e w' ⟨rfl, rfl⟩
  go_wp2_with fail
  refine (HNm.out _).mono ?_
  rintro e w1 ⟨rfl, rfl⟩
  go_wp2_with fail
  refine (HP.out _).mono ?_
  rintro e w2 ⟨rfl, b2⟩
  obtain ⟨w3, hw3⟩ : ∃ y, y = w2.alloc (.cells #[.int .i64 pk, .int .i64 nonce, .string url, .string body, .int .i64 0, .int .i64 0, .int .i64 0] 31 (0, 0)) := ⟨_, rfl⟩
  have g3 : w3.heap[w2.heap.size]? = some (.cells [Value.int .i64 pk, .int .i64 nonce, .string url, .string body, .int .i64 0, .int .i64 0, .int .i64 0].toArray 31 (0, 0)) := by rw [hw3]; exact heap_alloc_new w2 _
  have bb3 : Below w2.heap.size w2 w3 := by rw [hw3]; exact (Below.refl _ _).alloc (Nat.le_refl _) _
  have B2 : Hid (Below w1.heap.size w1 w2) := b2
  have B3 : Hid (Below w2.heap.size w2 w3) := bb3
  have G3 : Hid _ := g3
  have d0 := rowFacts g3 0 _ rfl
  have d1 := rowFacts g3 1 _ rfl
  have d2 := rowFacts g3 2 _ rfl
  have d3 := rowFacts g3 3 _ rfl
  have d4 := rowFacts g3 4 _ rfl
  have d5 := rowFacts g3 5 _ rfl
  have d6 := rowFacts g3 6 _ rfl
  clear b2 bb3 g3
  go_upto_region 4 with fail
  rw [← hw3]
  clear hw3
  go_wp2_with fail
  refine (HH.out _).mono ?_
  rintro e w4 ⟨rfl, b4⟩
  have B4 : Hid (Below w2.heap.size w2 w4) := B3.out.trans (b4.mono B3.out.size)
  have G4 : Hid _ := (b4.block _ (heap_lt G3.out)).trans G3.out
  clear b4 d0 d1 d2 d3 d4 d5 d6 G3 B3 HH
  go_wp2_with fail
  refine (HG.out _).mono ?_
  rintro e w5 ⟨rfl, b5⟩
  have B5 : Hid (Below w2.heap.size w2 w5) := B4.out.trans (b5.mono B4.out.size)
  have g5 := (b5.block _ (heap_lt G4.out)).trans G4.out
  have p4 := rowFacts g5 4 _ rfl
  have p5 := rowFacts g5 5 _ rfl
  have p6 := rowFacts g5 6 _ rfl
  have q4 := rowFree g5 4
  have q5 := rowFree g5 5
  have q6 := rowFree g5 6
  obtain ⟨w6, hw6⟩ : ∃ y, y = (((w5.setCell ⟨w2.heap.size, 4, none⟩ (.int .i64 pk)).setCell ⟨w2.heap.size, 5, none⟩ (.int .i64 (E : Int))).setCell ⟨w2.heap.size, 6, none⟩ (.int .i64 (SS : Int))) := ⟨_, rfl⟩
  have g6 : w6.heap[w2.heap.size]? = some (.cells [Value.int .i64 pk, .int .i64 nonce, .string url, .string body, .int .i64 pk, .int .i64 E, .int .i64 SS].toArray 31 (0, 0)) := by rw [hw6]; exact rowSet (i := 6) _ (rowSet (i := 5) _ (rowSet (i := 4) _ g5))
  have B6 : Hid (Below w2.heap.size w2 w6) := by rw [hw6]; exact ((B5.out.setCell (Nat.le_refl _) _).setCell (Nat.le_refl _) _).setCell (Nat.le_refl _) _
  have G6 : Hid _ := g6
  clear g5 b5 G4 B4 B5 HG g6
  go_upto_region 5 with fail
  rw [← hw6]
  clear hw6 p4 p5 p6 q4 q5 q6
  have d0 := rowFacts G6.out 0 _ rfl
  have d1 := rowFacts G6.out 1 _ rfl
  have d2 := rowFacts G6.out 2 _ rfl
  have d3 := rowFacts G6.out 3 _ rfl
  have d4 := rowFacts G6.out 4 _ rfl
  have d5 := rowFacts G6.out 5 _ rfl
  have d6 := rowFacts G6.out 6 _ rfl
  go_wp2_with fail
  refine (HX.out _).mono ?_
  rintro e w7 ⟨rfl, b7⟩
  have B7 : Hid (Below w1.heap.size w1 w7) := B2.out.trans ((B6.out.trans (b7.mono B6.out.size)).mono B2.out.size)
  clear b7 d0 d1 d2 d3 d4 d5 d6
  go_wp2
  go_ret
  exact ⟨rfl, B7.out⟩
end Go.Proofs.YtmegmcngcehneaaDoor
namespace Go.Proofs.YtmegmcngcehneaaDoor
open Go.RowKit Go.Lib

theorem and_mask (p : Nat) (hp : p ≤ 32) (n : Nat) : bits .and .i64 (n : Int) ((2 ^ p : Nat) - 1 : Int) = ((n % 2 ^ p : Nat) : Int) := by
  have h32 : 2 ^ p ≤ 2 ^ 32 := Nat.pow_le_pow_right (by omega) hp
  have hp0 : 0 < 2 ^ p := Nat.two_pow_pos p
  have e0 : (2 : Nat) ^ 32 = 4294967296 := by decide
  have e : bits BinOp.and IntKind.i64 (n : Int) ((2 ^ p : Nat) - 1 : Int) = IntKind.i64.wrap ((BitVec.ofInt 64 (n : Int) &&& BitVec.ofInt 64 ((2 ^ p : Nat) - 1 : Int)).toNat : Nat) := rfl
  rw [e, BitVec.toNat_and, BitVec.toNat_ofInt, BitVec.toNat_ofInt]
  have e1 : ((((2 ^ p : Nat) : Int) - 1) % ((2 ^ 64 : Nat) : Int)).toNat = 2 ^ p - 1 := by omega
  rw [e1, Nat.and_two_pow_sub_one_eq_mod, IntKind.wrap_i64]
  have hm : (((n : Int) % ((2 ^ 64 : Nat) : Int)).toNat) % 2 ^ p = n % 2 ^ p := by
    have h64 : ((n : Int) % ((2 ^ 64 : Nat) : Int)).toNat = n % 2 ^ 64 := by omega
    rw [h64, Nat.mod_mod_of_dvd]
    exact Nat.pow_dvd_pow 2 (by omega)
  rw [hm]
  have := Nat.mod_lt n hp0
  omega
/-- Eight by eight to six by six: h is held, c bits. -/
def rgo : List Nat → Nat → Nat → List Nat × Nat × Nat
  | [], h, c => ([], h, c)
  | g :: r, h, c =>
    if c = 0 then ((h * 256 + g) / 4 :: (rgo r ((h * 256 + g) % 4) 2).1, (rgo r ((h * 256 + g) % 4) 2).2)
    else if c = 2 then ((h * 256 + g) / 16 :: (rgo r ((h * 256 + g) % 16) 4).1, (rgo r ((h * 256 + g) % 16) 4).2)
    else ((h * 256 + g) / 64 :: (h * 256 + g) % 64 :: (rgo r 0 0).1, (rgo r 0 0).2)
/-- What is put behind. -/
def tailG (x : Nat × Nat) : List Nat := if x.2 = 0 then [] else if x.2 = 2 then [x.1 * 16] else [x.1 * 4]
theorem b64_rgo : ∀ (l : List Nat), b64 l = (rgo l 0 0).1 ++ tailG (rgo l 0 0).2 ∧ ((rgo l 0 0).2.2 = 0 ∨ ((rgo l 0 0).2.2 = 2 ∧ (rgo l 0 0).2.1 < 4) ∨ ((rgo l 0 0).2.2 = 4 ∧ (rgo l 0 0).2.1 < 16))
  | [] => ⟨rfl, .inl rfl⟩
  | [a] => by
    refine ⟨?_, .inr (.inl ⟨rfl, ?_⟩)⟩
    · simp [b64, rgo, tailG]
    · simp only [rgo, if_true]; omega
  | [a, b] => by
    refine ⟨?_, .inr (.inr ⟨rfl, ?_⟩)⟩
    · simp [b64, rgo, tailG]
      omega
    · simp [rgo]; omega
  | a :: b :: c :: r => by
    have ih := b64_rgo r
    have e : rgo (a :: b :: c :: r) 0 0 = (a / 4 :: (a % 4 * 16 + b / 16) :: (b % 16 * 4 + c / 64) :: (c % 64) :: (rgo r 0 0).1, (rgo r 0 0).2) := by
      simp [rgo]
      omega
    rw [e]
    refine ⟨?_, ih.2⟩
    rw [b64, ih.1]
    rfl
theorem b64_lt : ∀ (l : List Nat), (∀ x ∈ l, x < 256) → ∀ y ∈ b64 l, y < 64
  | [], _, y, hy => by cases hy
  | [a], h, y, hy => by
    have ha := h a (by simp)
    simp [b64] at hy
    omega
  | [a, b], h, y, hy => by
    have ha := h a (by simp)
    have hb := h b (by simp)
    simp [b64] at hy
    omega
  | a :: b :: c :: r, h, y, hy => by
    have ha := h a (by simp)
    have hb := h b (by simp)
    have hc := h c (by simp)
    simp only [b64, List.mem_cons] at hy
    rcases hy with rfl | rfl | rfl | rfl | hy
    · omega
    · omega
    · omega
    · omega
    · exact b64_lt r (fun x hx => h x (by simp [hx])) y hy
theorem rgo_len : ∀ (l : List Nat) (h c : Nat), (rgo l h c).1.length ≤ 2 * l.length
  | [], _, _ => Nat.le_refl _
  | g :: r, h, c => by
    have h1 := rgo_len r ((h * 256 + g) % 4) 2
    have h2 := rgo_len r ((h * 256 + g) % 16) 4
    have h3 := rgo_len r 0 0
    rw [rgo]
    split
    · simp only [List.length_cons]; omega
    · split
      · simp only [List.length_cons]; omega
      · simp only [List.length_cons]; omega
theorem bts_lt (s : ByteArray) : ∀ x ∈ bts s, x < 256 := by
  intro x hx
  simp only [bts, List.mem_map] at hx
  obtain ⟨u, _, rfl⟩ := hx
  have := u.toNat_lt
  omega
/-- Bytes in memory. -/
def IsBts (w : World) (a : Option Addr) (zs : List Nat) : Prop := zs = [] ∨ ∃ b, a = some ⟨b, 0, none⟩ ∧ b < w.heap.size ∧ ∀ (i z : Nat), zs[i]? = some z → w.cell? ⟨b, i, none⟩ = some (.int .u8 (z : Int))
theorem IsBts.keep {w w' : World} {a : Option Addr} {zs : List Nat} (h : IsBts w a zs) (hb : Below w.heap.size w w') : IsBts w' a zs := by
  rcases h with h | ⟨b, e, hl, hc⟩
  · exact .inl h
  · exact .inr ⟨b, e, Nat.lt_of_lt_of_le hl hb.size, fun i z hz => by rw [hb.cell (p := ⟨b, i, none⟩) hl]; exact hc i z hz⟩
/-- A row of bytes of the call's own. -/
def OwnB (w : World) (B : Nat) (v : Value) (l : List Nat) : Prop := w.ownsRow B 5 1 v l.length ((l.map (fun x : Nat => (x : Int))).map (Value.int .u8))
theorem OwnB.keep {w w' : World} {B : Nat} {v : Value} {l : List Nat} (h : OwnB w B v l) (hb : Below w.heap.size w w') : OwnB w' B v l := by
  refine ⟨h.1, ?_⟩
  rcases h.2 with h | ⟨g, cap, cur, e, h1, h2, h3⟩
  · exact .inl h
  · exact .inr ⟨g, cap, cur, e, h1, by rw [hb.block g (heap_lt h2)]; exact h2, h3⟩
theorem OwnB.form {w : World} {B : Nat} {v : Value} {l : List Nat} (h : OwnB w B v l) : ∃ a c, v = .slice a l.length c ∧ l.length ≤ c := by
  rcases h.2 with ⟨h, h'⟩ | ⟨g, cap, _, e, _, _, hc, _⟩
  · exact ⟨none, 0, by rw [h']; exact h, by omega⟩
  · exact ⟨_, _, e, hc⟩
theorem ownB_nil (w : World) (B : Nat) : OwnB w B (.slice none 0 0) [] := ⟨rfl, .inl ⟨rfl, rfl⟩⟩
theorem OwnB.bts {w : World} {B n c : Nat} {a : Option Addr} {l : List Nat} (h : OwnB w B (.slice a n c) l) : IsBts w a l := by
  rcases h.2 with ⟨_, h'⟩ | ⟨g, cap, cur, e, h1, h2, h3, _, _, ht⟩
  · exact .inl (List.eq_nil_of_length_eq_zero h')
  · simp only [Value.slice.injEq] at e
    obtain ⟨rfl, rfl, rfl⟩ := e
    refine .inr ⟨g, rfl, heap_lt h2, fun i z hz => ?_⟩
    have hi : i < l.length := by
      rcases Nat.lt_or_ge i l.length with h | h
      · exact h
      · rw [List.getElem?_eq_none h] at hz; cases hz
    have := World.ownsRow.cellAt h i (by omega)
    rw [this]
    simp [hz]
end Go.Proofs.YtmegmcngcehneaaDoor
namespace Go.Proofs.YtmegmcngcehneaaDoor
open Go.RowKit Go.Lib

set_option linter.unusedSimpArgs false in
set_option maxHeartbeats 4000000 in
set_option maxRecDepth 100000 in
theorem implRegroup86 (zs : List Nat) (a : Option Addr) (cap : Nat) (w : World) (hl : zs.length ≤ 100000) (hz : ∀ x ∈ zs, x < 256) (ha : IsBts w a zs) :
    Calls Tryd.prog 47 #[.slice a zs.length cap, .int .i64 8, .int .i64 6] w fun e w' => ∃ v, e = .returned (.tuple #[v, .int .u8 (((rgo zs 0 0).2.1 : Nat) : Int), .int .i64 (((rgo zs 0 0).2.2 : Nat) : Int)]) ∧ OwnB w' w.heap.size v (rgo zs 0 0).1 ∧ Below w.heap.size w w' := by
  obtain ⟨i0, hi, hz0, hz1, hz2⟩ := info_parts infoByte
  have hRl := rgo_len zs 0 0
  obtain ⟨⟨R, RH, RC⟩, hR⟩ : ∃ R, R = rgo zs 0 0 := ⟨_, rfl⟩
  rw [← hR] at hRl ⊢
  have HR : Hid (((R, RH, RC) : List Nat × Nat × Nat) = rgo zs 0 0) := hR
  have HRl : Hid (R.length ≤ 200000) := by show _ ≤ _; simp only at hRl; omega
  obtain ⟨n, hn⟩ : ∃ n, n = zs.length := ⟨_, rfl⟩
  rw [← hn]
  have HN : Hid (n = zs.length ∧ n ≤ 100000) := ⟨hn, by omega⟩
  have HA : Hid (IsBts w a zs) := ha
  have HZ : Hid (∀ x ∈ zs, x < 256) := hz
  clear hR hRl hn hl ha hz
  go_enter Tryd.func47, Tryd.ntmps47
  go_wp2
  go_loopw [9, 10, 11, 16] (fun v h c i wr => ∃ (k h' c' : Nat) (pre : List Nat), i = .int .i64 k ∧ h = .int .i64 h' ∧ c = .int .i64 c' ∧ k ≤ n ∧ h' < 2 ^ c' ∧ (c' = 0 ∨ c' = 2 ∨ c' = 4) ∧ OwnB wr w.heap.size v pre ∧ (R, RH, RC) = (pre ++ (rgo (zs.drop k) h' c').1, (rgo (zs.drop k) h' c').2) ∧ Below w.heap.size w wr)
    (fun _ _ _ i _ => n - (RowKit.intOf i).toNat)
  case atStart =>
    exact ⟨0, 0, 0, [], rfl, rfl, rfl, Nat.zero_le _, by decide, .inl rfl, ownB_nil _ _, HR.out, Below.refl _ _⟩
  case round =>
    obtain ⟨k, h, c, pre, rfl, rfl, rfl, hk, hh, hc, hown, hat, hbel⟩ := hrel
    have HB : Hid (Below w.heap.size w wr) := hbel
    have HO : Hid _ := hown
    have HT : Hid _ := hat
    clear hown hat hbel
    by_cases hlt : k < n
    rotate_left
    · have q2 : ¬ (k : Int) < (n : Int) := by omega
      have hT := HT.out
      rw [List.drop_eq_nil_of_le (by have := HN.out.1; omega), rgo, List.append_nil] at hT
      simp only [Prod.mk.injEq] at hT
      obtain ⟨rfl, rfl, rfl⟩ := hT
      have hu : IntKind.u8.wrap (RH : Int) = (RH : Int) := by
        rw [IntKind.wrap_u8]
        have : RH < 64 := by rcases hc with rfl | rfl | rfl <;> simp at hh <;> omega
        omega
      clear HR HRl HT hc hh
      go_wp2
      go_ret3
      exact ⟨_, rfl, HO.out, HB.out⟩
    have hkz : k < zs.length := by have := HN.out.1; omega
    obtain ⟨z, hz⟩ : ∃ z, zs[k]? = some z := ⟨zs[k], List.getElem?_eq_getElem hkz⟩
    have hzl : z < 256 := HZ.out z (List.mem_of_getElem? hz)
    have hdr : zs.drop k = z :: zs.drop (k + 1) := by
      rw [List.drop_eq_getElem_cons hkz]
      congr 1
      rw [List.getElem?_eq_getElem hkz] at hz
      exact Option.some.inj hz
    obtain ⟨gb, rfl, hgb, hcs⟩ : ∃ b, a = some ⟨b, 0, none⟩ ∧ b < w.heap.size ∧ ∀ (i z : Nat), zs[i]? = some z → w.cell? ⟨b, i, none⟩ = some (.int .u8 (z : Int)) := by
      rcases HA.out with h | h
      · subst h; simp at hkz
      · exact h
    have hcell : wr.cell? ⟨gb, k, none⟩ = some (.int .u8 (z : Int)) := (HB.out.cell (p := ⟨gb, k, none⟩) hgb).trans (hcs k z hz)
    have q1 : (0 : Int) ≤ (k : Int) := Int.natCast_nonneg _
    have q2 : (k : Int) < (n : Int) := by omega
    have hn5 : n ≤ 100000 := HN.out.2
    have HT2 : Hid _ := (show ((R, RH, RC) : List Nat × Nat × Nat) = (pre ++ (rgo (z :: zs.drop (k + 1)) h c).1, (rgo (z :: zs.drop (k + 1)) h c).2) from by rw [← hdr]; exact HT.out)
    clear HT hdr hcs hgb hkz hz
    obtain ⟨va, vc, rfl, _⟩ := OwnB.form HO.out
    obtain ⟨x, hx⟩ : ∃ x, x = h * 256 + z := ⟨_, rfl⟩
    have o1 : bits .or .i64 ((h : Int) * 256) (z : Int) = (x : Int) := by
      have hhh : h < 16 := by rcases hc with rfl | rfl | rfl <;> simp at hh <;> omega
      have := or_low 8 (by omega) h z (by omega) (by omega)
      rw [hx, ← this]
      congr 1
    obtain ⟨pl, hpl⟩ : ∃ p, p = pre.length := ⟨_, rfl⟩
    have HPl : Hid (pl = pre.length) := hpl
    rw [← hpl] at HO ⊢
    have HX : Hid (x = h * 256 + z) := hx
    clear hx hpl
    rcases hc with rfl | rfl | rfl
    · obtain rfl : h = 0 := by simp at hh; exact hh
      have o0 : bits .or .i64 0 (z : Int) = (x : Int) := by simpa using o1
      clear o1
      have hxb : x < 256 := by have := HX.out; simp at hh; omega
      have HT3 : Hid (((R, RH, RC) : List Nat × Nat × Nat) = ((pre ++ [x / 4]) ++ (rgo (zs.drop (k + 1)) (x % 4) 2).1, (rgo (zs.drop (k + 1)) (x % 4) 2).2)) := by
        show _ = _
        rw [HT2.out, rgo, ← HX.out]
        simp
      obtain ⟨g0, hg0⟩ : ∃ g, g = x / 4 := ⟨_, rfl⟩
      obtain ⟨r0, hr0⟩ : ∃ r, r = x % 4 := ⟨_, rfl⟩
      have s0 : IntKind.u8.wrap ((x : Int) / 4) = (g0 : Int) := by rw [IntKind.wrap_u8]; omega
      have m0 : bits .and .i64 (x : Int) 3 = (r0 : Int) := by have := and_mask 2 (by omega) x; rw [hr0]; simpa using this
      have hbd : pl + 1 ≤ 200000 := by
        have h1 := congrArg (fun y => y.1.length) HT3.out
        have h2 := HRl.out
        have h3 := HPl.out
        simp only [List.length_append, List.length_cons, List.length_nil] at h1
        omega
      have HG : Hid (g0 = x / 4 ∧ r0 = x % 4) := by refine ⟨?_, ?_⟩ <;> omega
      clear hg0 hr0 hxb HT2 hh
      go_wp2
      refine wp_loop_rounds 2 ?_
      rw [rounds_succ]
      have hO0 : wr.ownsRow w.heap.size 5 1 (.slice va pl vc) (pl) (((pre).map (fun x : Nat => (x : Int))).map (Value.int .u8)) := by
        have h2 := HO.out
        unfold OwnB at h2
        simpa only [List.length_append, List.length_cons, List.length_nil, ← HPl.out] using h2
      have hs0 : w.heap.size ≤ wr.heap.size := HB.out.size
      go_wp2_with (at_builtin; refine wpList_append_own _ rfl _ _ 53 rfl w.heap.size 5 i0 (.int .u8 0) 1 1 Tryd.underlying53 hi hz0 hz1 hz2 rfl (by decide) _ _ _ rfl (hO0.alloc _) ⟨wr.heap.size, 0, none⟩ 1 1 [.int .u8 (g0 : Int)] rfl rfl ?c1 ?c2 ?c3 ?c4 ?c5 ?_)
      case c1 => exact cells_one (by simp)
      case c2 => intro u hu; simp at hu; subst hu; rfl
      case c3 => unfold maxLen; omega
      case c4 => omega
      case c5 => simp; omega
      intro y0 w0 hown0 hgrow0 _
      have B0 : Hid (Below w.heap.size w w0) := (HB.out.alloc (by omega) _).grown hgrow0 (by simp; omega) (fun j hj => (hO0.lt j hj).1)
      have O0 : Hid (OwnB w0 w.heap.size y0 (pre ++ [g0])) := by
        show World.ownsRow _ _ _ _ _ _ _
        simpa [List.map_append, ← HPl.out] using hown0
      clear hgrow0 hown0 hO0 hs0 HO HB
      go_wp2
      rw [rounds_succ]
      go_wp2
      go_roundw
      case rel =>
        have hT := HT3.out
        obtain ⟨e0, e1⟩ := HG.out
        rw [← e0, ← e1] at hT
        exact ⟨k + 1, r0, 2, _, by go_num, by go_num, by go_num, by omega, by simp; omega, by simp, O0.out, hT, B0.out⟩
      case measure => simp [RowKit.intOf]; omega
    · have hh4 : h < 4 := by simpa using hh
      have hxb : x < 1024 := by have := HX.out; simp at hh; omega
      have HT3 : Hid (((R, RH, RC) : List Nat × Nat × Nat) = ((pre ++ [x / 16]) ++ (rgo (zs.drop (k + 1)) (x % 16) 4).1, (rgo (zs.drop (k + 1)) (x % 16) 4).2)) := by
        show _ = _
        rw [HT2.out, rgo, ← HX.out]
        simp
      obtain ⟨g0, hg0⟩ : ∃ g, g = x / 16 := ⟨_, rfl⟩
      obtain ⟨r0, hr0⟩ : ∃ r, r = x % 16 := ⟨_, rfl⟩
      have s0 : IntKind.u8.wrap ((x : Int) / 16) = (g0 : Int) := by rw [IntKind.wrap_u8]; omega
      have m0 : bits .and .i64 (x : Int) 15 = (r0 : Int) := by have := and_mask 4 (by omega) x; rw [hr0]; simpa using this
      have hbd : pl + 1 ≤ 200000 := by
        have h1 := congrArg (fun y => y.1.length) HT3.out
        have h2 := HRl.out
        have h3 := HPl.out
        simp only [List.length_append, List.length_cons, List.length_nil] at h1
        omega
      have HG : Hid (g0 = x / 16 ∧ r0 = x % 16) := by refine ⟨?_, ?_⟩ <;> omega
      clear hg0 hr0 hxb HT2 hh
      go_wp2
      refine wp_loop_rounds 2 ?_
      rw [rounds_succ]
      have hO0 : wr.ownsRow w.heap.size 5 1 (.slice va pl vc) (pl) (((pre).map (fun x : Nat => (x : Int))).map (Value.int .u8)) := by
        have h2 := HO.out
        unfold OwnB at h2
        simpa only [List.length_append, List.length_cons, List.length_nil, ← HPl.out] using h2
      have hs0 : w.heap.size ≤ wr.heap.size := HB.out.size
      go_wp2_with (at_builtin; refine wpList_append_own _ rfl _ _ 53 rfl w.heap.size 5 i0 (.int .u8 0) 1 1 Tryd.underlying53 hi hz0 hz1 hz2 rfl (by decide) _ _ _ rfl (hO0.alloc _) ⟨wr.heap.size, 0, none⟩ 1 1 [.int .u8 (g0 : Int)] rfl rfl ?c1 ?c2 ?c3 ?c4 ?c5 ?_)
      case c1 => exact cells_one (by simp)
      case c2 => intro u hu; simp at hu; subst hu; rfl
      case c3 => unfold maxLen; omega
      case c4 => omega
      case c5 => simp; omega
      intro y0 w0 hown0 hgrow0 _
      have B0 : Hid (Below w.heap.size w w0) := (HB.out.alloc (by omega) _).grown hgrow0 (by simp; omega) (fun j hj => (hO0.lt j hj).1)
      have O0 : Hid (OwnB w0 w.heap.size y0 (pre ++ [g0])) := by
        show World.ownsRow _ _ _ _ _ _ _
        simpa [List.map_append, ← HPl.out] using hown0
      clear hgrow0 hown0 hO0 hs0 HO HB
      go_wp2
      rw [rounds_succ]
      go_wp2
      go_roundw
      case rel =>
        have hT := HT3.out
        obtain ⟨e0, e1⟩ := HG.out
        rw [← e0, ← e1] at hT
        exact ⟨k + 1, r0, 4, _, by go_num, by go_num, by go_num, by omega, by simp; omega, by simp, O0.out, hT, B0.out⟩
      case measure => simp [RowKit.intOf]; omega
    · have hh4 : h < 16 := by simpa using hh
      have hxb : x < 4096 := by have := HX.out; simp at hh; omega
      have HT3 : Hid (((R, RH, RC) : List Nat × Nat × Nat) = ((pre ++ [x / 64, x % 64]) ++ (rgo (zs.drop (k + 1)) (0) 0).1, (rgo (zs.drop (k + 1)) (0) 0).2)) := by
        show _ = _
        rw [HT2.out, rgo, ← HX.out]
        simp
      obtain ⟨g0, hg0⟩ : ∃ g, g = x / 64 := ⟨_, rfl⟩
      obtain ⟨r0, hr0⟩ : ∃ r, r = x % 64 := ⟨_, rfl⟩
      have s0 : IntKind.u8.wrap ((x : Int) / 64) = (g0 : Int) := by rw [IntKind.wrap_u8]; omega
      have m0 : bits .and .i64 (x : Int) 63 = (r0 : Int) := by have := and_mask 6 (by omega) x; rw [hr0]; simpa using this
      obtain ⟨g1, hg1⟩ : ∃ g, g = r0 / 1 := ⟨_, rfl⟩
      obtain ⟨r1, hr1⟩ : ∃ r, r = r0 % 1 := ⟨_, rfl⟩
      have s1 : IntKind.u8.wrap (r0 : Int) = (g1 : Int) := by rw [IntKind.wrap_u8]; omega
      have m1 : bits .and .i64 (r0 : Int) 0 = (r1 : Int) := by have := and_mask 0 (by omega) r0; rw [hr1]; simpa using this
      have hbd : pl + 2 ≤ 200000 := by
        have h1 := congrArg (fun y => y.1.length) HT3.out
        have h2 := HRl.out
        have h3 := HPl.out
        simp only [List.length_append, List.length_cons, List.length_nil] at h1
        omega
      have HG : Hid (g0 = x / 64 ∧ g1 = x % 64 ∧ r1 = 0) := by refine ⟨?_, ?_, ?_⟩ <;> omega
      clear hg0 hr0 hg1 hr1 hxb HT2 hh
      go_wp2
      refine wp_loop_rounds 3 ?_
      rw [rounds_succ]
      have hO0 : wr.ownsRow w.heap.size 5 1 (.slice va pl vc) (pl) (((pre).map (fun x : Nat => (x : Int))).map (Value.int .u8)) := by
        have h2 := HO.out
        unfold OwnB at h2
        simpa only [List.length_append, List.length_cons, List.length_nil, ← HPl.out] using h2
      have hs0 : w.heap.size ≤ wr.heap.size := HB.out.size
      go_wp2_with (at_builtin; refine wpList_append_own _ rfl _ _ 53 rfl w.heap.size 5 i0 (.int .u8 0) 1 1 Tryd.underlying53 hi hz0 hz1 hz2 rfl (by decide) _ _ _ rfl (hO0.alloc _) ⟨wr.heap.size, 0, none⟩ 1 1 [.int .u8 (g0 : Int)] rfl rfl ?c1 ?c2 ?c3 ?c4 ?c5 ?_)
      case c1 => exact cells_one (by simp)
      case c2 => intro u hu; simp at hu; subst hu; rfl
      case c3 => unfold maxLen; omega
      case c4 => omega
      case c5 => simp; omega
      intro y0 w0 hown0 hgrow0 _
      have B0 : Hid (Below w.heap.size w w0) := (HB.out.alloc (by omega) _).grown hgrow0 (by simp; omega) (fun j hj => (hO0.lt j hj).1)
      have O0 : Hid (OwnB w0 w.heap.size y0 (pre ++ [g0])) := by
        show World.ownsRow _ _ _ _ _ _ _
        simpa [List.map_append, ← HPl.out] using hown0
      clear hgrow0 hown0 hO0 hs0 HO HB
      go_wp2
      rw [rounds_succ]
      have hO1 : w0.ownsRow w.heap.size 5 1 y0 (pl + 1) (((pre ++ [g0]).map (fun x : Nat => (x : Int))).map (Value.int .u8)) := by
        have h2 := O0.out
        unfold OwnB at h2
        simpa only [List.length_append, List.length_cons, List.length_nil, ← HPl.out, Nat.zero_add] using h2
      have hs1 : w.heap.size ≤ w0.heap.size := B0.out.size
      go_wp2_with (at_builtin; refine wpList_append_own _ rfl _ _ 53 rfl w.heap.size 5 i0 (.int .u8 0) 1 1 Tryd.underlying53 hi hz0 hz1 hz2 rfl (by decide) _ _ _ rfl (hO1.alloc _) ⟨w0.heap.size, 0, none⟩ 1 1 [.int .u8 (g1 : Int)] rfl rfl ?c1 ?c2 ?c3 ?c4 ?c5 ?_)
      case c1 => exact cells_one (by simp)
      case c2 => intro u hu; simp at hu; subst hu; rfl
      case c3 => unfold maxLen; omega
      case c4 => omega
      case c5 => simp; omega
      intro y1 w1 hown1 hgrow1 _
      have B1 : Hid (Below w.heap.size w w1) := (B0.out.alloc (by omega) _).grown hgrow1 (by simp; omega) (fun j hj => (hO1.lt j hj).1)
      have O1 : Hid (OwnB w1 w.heap.size y1 (pre ++ [g0, g1])) := by
        show World.ownsRow _ _ _ _ _ _ _
        simpa [List.map_append, ← HPl.out] using hown1
      clear hgrow1 hown1 hO1 hs1 O0 B0
      go_wp2
      rw [rounds_succ]
      go_wp2
      go_roundw
      case rel =>
        have hT := HT3.out
        obtain ⟨e0, e1, e2⟩ := HG.out
        rw [← e0, ← e1] at hT
        exact ⟨k + 1, 0, 0, _, by go_num, by rw [e2], by go_num, by omega, by decide, by simp, O1.out, hT, B1.out⟩
      case measure => simp [RowKit.intOf]; omega
end Go.Proofs.YtmegmcngcehneaaDoor
