/- impl.layThing at a thing whose body is laid already, walked. impl.tagRight, walked. impl.DerPut, walked. spec.l05Is, walked. spec.l05Tag, walked. spec.DerPut, walked. What a function returns in a variable of its own: the variable over a call. No program is named. spec.l05Get, walked. spec.l05Get at a length in two bytes, spec.DerGet, walked. spec.DerGet, walked. Numbers in bytes of two's complement, as few as may be. Plain mathematics: no program is named here. -/
import Derived.Test.YtjllcflnmopnpaaDoorM01
import Derived.Deep.RegionWith
import Derived.Laws.Bits128
import Derived.Laws.BitsAllLaws
import Derived.Deep.RegionHeld3
import Derived.Lib.BitFns
namespace Go.Proofs.YtjllcflnmopnpaaDoor
open Go.RowKit Go.Lib

theorem tagPlain (t : Int) (b : ByteArray) (w : World) :
    Calls Tryd.prog 56 #[.iface 60 (.agg #[.int .i64 t, .string b])] w fun e w' => e = .returned (.int .i64 t) ∧ Below w.heap.size w w' := by
  have x0 := as00
  have x1 := as01
  have x2 := as02
  go_enter Tryd.func56, Tryd.ntmps56
  go_wp2
  go_ret
  exact ⟨rfl, (Below.refl _ _).alloc (Nat.le_refl _) _⟩
theorem bodyPlain (t : Int) (b : ByteArray) (w : World) :
    Calls Tryd.prog 94 #[.agg #[.int .i64 t, .string b]] w fun e w' => e = .returned (.string b) ∧ Below w.heap.size w w' := by
  go_enter Tryd.func94, Tryd.ntmps94
  go_wp2
  go_ret
  exact ⟨rfl, by repeat (first | exact Below.refl _ _ | refine Below.setCell ?_ (by simp) _ | refine Below.alloc ?_ (by simp) _)⟩
theorem methodPlain (v : Value) (w : World) : (Go.method 263 60 v "loop.example/g00371/impl.body").run Tryd.prog w = .ok (94, v) w := by kernel_rfl
set_option maxHeartbeats 1000000 in
set_option maxRecDepth 100000 in
/-- layThing at a thing whose body is laid already. -/
theorem layPlain (t : Int) (b : ByteArray) (w : World) (h0 : 0 ≤ t) (h1 : t ≤ 255) (hb : b.size ≤ 4000) :
    Calls Tryd.prog 32 #[.iface 60 (.agg #[.int .i64 t, .string b])] w fun e w' => e = .returned (.string (thingD t b)) ∧ Below w.heap.size w w' := by
  have hmt := methodPlain
  have ew : IntKind.u8.wrap t = t := by rw [IntKind.wrap_u8]; omega
  go_enter Tryd.func32, Tryd.ntmps32
  go_wp2_with fail
  refine (bodyPlain t b _).mono ?_
  rintro e w1 ⟨rfl, hb1⟩
  have s1 := hb1.size
  have HT1 : Hid (∀ V : World, Hid (Below w.heap.size w V) → Calls Tryd.prog 56 #[.iface 60 (.agg #[.int .i64 t, .string b])] V fun e W => e = .returned (.int .i64 t) ∧ Hid (Below w.heap.size w W)) := fun V hV => by
    refine (tagPlain t b V).mono ?_
    rintro e W ⟨rfl, hW⟩
    exact ⟨rfl, hV.out.trans (hW.mono hV.out.size)⟩
  have HT2 : Hid (∀ V : World, Hid (Below w.heap.size w V) → Calls Tryd.prog 57 #[.int .i64 (b.size : Int)] V fun e W => e = .returned (.string (strOfNums (lenD b.size))) ∧ Hid (Below w.heap.size w W) ∧ Hid (∀ k o, V.heap[k]? = some o → W.heap[k]? = some o)) := fun V hV => by
    refine (putLength b.size V hb).mono ?_
    rintro e W ⟨rfl, hW⟩
    refine ⟨rfl, hV.out.trans (hW.mono hV.out.size), fun k o hk => ?_⟩
    rw [hW.block k (heap_lt hk)]; exact hk
  have HF : Hid (∀ s l, s = strOfNums [t] → l = strOfNums (lenD b.size) → s ++ l ++ b = thingD t b) := fun s l hs hl => by
    subst hs hl
    unfold thingD headD
    congr 1
  have hl1 : (strOfNums [t]).size = 1 := rfl
  have hl2 : (strOfNums (lenD b.size)).size ≤ 3 := by rw [strOfNums_size]; exact lenD_le _
  have hcv := fun V => convertLit V #[.int .u8 t] [t] rfl 1 rfl 5
  have HE := HF.out _ _ rfl rfl
  have HCR := fun W2 k h => convertRow W2 k [t] 5 1 1 rfl h
  generalize strOfNums [t] = s at *
  generalize strOfNums (lenD b.size) = l at *
  have HE : Hid (s ++ l ++ b = thingD t b) := HE
  have HCR : Hid (∀ (W2 : World) (k : Nat), W2.heap[k]? = some (.cells ([t].map (Value.int .u8)).toArray 5 (0, 0)) → (convert 22 9 (.slice (some ⟨k, 0, none⟩) 1 1)).run Tryd.prog W2 = .ok (.string s) W2) := HCR
  have HJ : Hid (∀ (V : World) (x y : ByteArray), Hid (Below w.heap.size w V) → x.size ≤ 4 → y.size ≤ 4000 → Calls Tryd.prog 55 #[.string x, .string y] V fun e W => e = .returned (.string (x ++ y)) ∧ Hid (Below w.heap.size w W)) := fun V x y hV hx hy => by
    refine (joinTexts x y V (by omega) (by omega)).mono ?_
    rintro e W ⟨rfl, hW⟩
    exact ⟨rfl, hV.out.trans (hW.mono hV.out.size)⟩
  have B1 : Hid (Below w.heap.size w w1) := hb1
  have HA : Hid (∀ V o, Hid (Below w.heap.size w V) → Hid (Below w.heap.size w (V.alloc o))) := fun V o h => h.out.alloc h.out.size o
  clear hb1 hmt HF
  go_wp2_with fail
  have D1 : Hid (Below w.heap.size w w1.drew) := B1.out.drew
  go_region_with (first
    | (go_at_call 56; refine (HT1.out _ (by first | assumption | exact HA.out _ _ (by assumption))).mono ?_; rintro r W1 ⟨rfl, k1⟩)
    | (go_at_call 57; refine (HT2.out _ (by first | assumption | exact HA.out _ _ (by assumption))).mono ?_; rintro r W2 ⟨rfl, k2, e2⟩; (first | have hcv2 := HCR.out W2 _ (e2.out _ _ (heap_alloc_new _ _)) | skip))
    | (go_at_call 55; refine (HJ.out _ _ _ (by first | assumption | exact HA.out _ _ (by assumption)) (by omega) (by omega)).mono ?_; rintro r W3 ⟨rfl, k3⟩))
  all_goals
    have hl3 : (s ++ l).size ≤ 4 := by rw [ByteArray.size_append]; omega
    have HQ := HJ.out W3 (s ++ l) b k3 hl3 hb
    rw [HE.out] at HQ
    generalize s ++ l = q at *
    have HQ : Hid (Calls Tryd.prog 55 #[.string q, .string b] W3 fun e W => e = .returned (.string (thingD t b)) ∧ Hid (Below w.heap.size w W)) := HQ
    clear HT1 HT2 HJ HCR HE hcv
    go_wp2_with fail
    refine HQ.out.mono ?_
    rintro r W4 ⟨rfl, k4⟩
    go_wp2
    go_ret
    exact ⟨rfl, k4.out⟩
end Go.Proofs.YtjllcflnmopnpaaDoor
namespace Go.Proofs.YtjllcflnmopnpaaDoor
open Go.RowKit Go.Lib

theorem and31 (n : Int) : bits .and .i64 n 31 = n % 32 := by
  have h31 : (BitVec.ofInt 64 31).toNat = 2 ^ 5 - 1 := by decide
  have key : (BitVec.ofInt 64 n &&& BitVec.ofInt 64 31).toNat = (n % ((2 ^ 64 : Nat) : Int)).toNat % 2 ^ 5 := by
    rw [BitVec.toNat_and, BitVec.toNat_ofInt, h31, Nat.and_two_pow_sub_one_eq_mod]
  show IntKind.i64.wrap ((BitVec.ofInt 64 n &&& BitVec.ofInt 64 31).toNat : Nat) = n % 32
  rw [key, IntKind.wrap_i64]
  omega
theorem implTag (n : Int) (w : World) :
    Calls Tryd.prog 31 #[.int .i64 n] w fun e w' => e = .returned (.bool (tagB n)) ∧ w' = w := by
  have e1 := and31 n
  by_cases h1 : 0 ≤ n
  · by_cases h2 : n ≤ 255
    · have HF : Hid (tagB n = (n % 32 != 31)) := by unfold Hid tagB; simp [h1, h2, bne, BEq.beq]
      go_enter Tryd.func31, Tryd.ntmps31
      go_wp2
      go_ret
      exact ⟨by rw [HF.out]; rfl, rfl⟩
    · have HF : Hid (tagB n = false) := by unfold Hid tagB; simp [h2]
      go_enter Tryd.func31, Tryd.ntmps31
      go_wp2
      go_ret
      exact ⟨by rw [HF.out]; rfl, rfl⟩
  · have HF : Hid (tagB n = false) := by unfold Hid tagB; simp [h1]
    go_enter Tryd.func31, Tryd.ntmps31
    go_wp2
    go_ret
    exact ⟨by rw [HF.out]; rfl, rfl⟩
end Go.Proofs.YtjllcflnmopnpaaDoor
namespace Go.Proofs.YtjllcflnmopnpaaDoor
open Go.RowKit Go.Lib

theorem implDerPut (t : Int) (b : ByteArray) (w : World) (hb : b.size ≤ maxLen) :
    Calls Tryd.prog 5 #[.int .i64 t, .string b] w fun e w' => e = .returned (.string (putD t b)) ∧ Below w.heap.size w w' := by
  unfold maxLen at hb
  cases ht : tagB t with
  | false =>
    have HF : Hid (putD t b = ByteArray.empty) := putD_tag ht
    go_enter Tryd.func5, Tryd.ntmps5
    go_wp2_with fail
    refine (implTag t _).mono ?_
    rintro e w' ⟨rfl, rfl⟩
    rw [ht]
    go_wp2
    go_ret
    exact ⟨by rw [HF.out]; rfl, Below.refl _ _⟩
  | true =>
    obtain ⟨q0, q1, _⟩ := tagB_iff.1 ht
    by_cases hl : 4000 < b.size
    · have HF : Hid (putD t b = ByteArray.empty) := putD_long hl
      go_enter Tryd.func5, Tryd.ntmps5
      go_wp2_with fail
      refine (implTag t _).mono ?_
      rintro e w' ⟨rfl, rfl⟩
      rw [ht]
      go_wp2
      go_ret
      exact ⟨by rw [HF.out]; rfl, Below.refl _ _⟩
    · have HF : Hid (putD t b = thingD t b) := putD_right ht (by omega)
      go_enter Tryd.func5, Tryd.ntmps5
      go_wp2_with fail
      refine (implTag t _).mono ?_
      rintro e w' ⟨rfl, rfl⟩
      rw [ht]
      go_wp2_with fail
      refine (layPlain t b _ q0 q1 (by omega)).mono ?_
      rintro e w' ⟨rfl, hb⟩
      go_wp2
      go_ret
      exact ⟨by rw [HF.out]; rfl, hb⟩
end Go.Proofs.YtjllcflnmopnpaaDoor
namespace Go.Proofs.YtjllcflnmopnpaaDoor
open Go.RowKit Go.Lib

theorem specIs (n l h : Int) (w : World) :
    Calls Tryd.prog 58 #[.int .i64 n, .int .i64 l, .int .i64 h] w fun e w' => e = .returned (.bool (decide (l ≤ n) && decide (n ≤ h))) ∧ w' = w := by
  by_cases h1 : l ≤ n
  · go_enter Tryd.func58, Tryd.ntmps58
    go_wp2
    go_ret
    exact ⟨by simp [h1], rfl⟩
  · go_enter Tryd.func58, Tryd.ntmps58
    go_wp2
    go_ret
    exact ⟨by simp; omega, rfl⟩
end Go.Proofs.YtjllcflnmopnpaaDoor
namespace Go.Proofs.YtjllcflnmopnpaaDoor
open Go.RowKit Go.Lib

theorem specTag (n : Int) (w : World) :
    Calls Tryd.prog 33 #[.int .i64 n] w fun e w' => e = .returned (.bool (tagB n)) ∧ w' = w := by
  by_cases h1 : 0 ≤ n ∧ n ≤ 255
  · obtain ⟨h1, h2⟩ := h1
    have e1 : (decide (0 ≤ n) && decide (n ≤ 255)) = true := by simp [h1, h2]
    have e2 : n.tmod 32 = n % 32 := Int.tmod_eq_emod_of_nonneg h1
    have HF : Hid (tagB n = decide (n % 32 ≠ 31)) := by unfold Hid tagB; rw [e1]; rfl
    go_enter Tryd.func33, Tryd.ntmps33
    go_wp2_with fail
    refine (specIs _ _ _ _).mono ?_
    rintro e w' ⟨rfl, rfl⟩
    rw [e1]
    go_wp2
    go_ret
    exact ⟨by rw [HF.out]; simp [bne, BEq.beq], rfl⟩
  · have e1 : (decide (0 ≤ n) && decide (n ≤ 255)) = false := by simp; omega
    have HF : Hid (tagB n = false) := by unfold Hid tagB; rw [e1]; rfl
    go_enter Tryd.func33, Tryd.ntmps33
    go_wp2_with fail
    refine (specIs _ _ _ _).mono ?_
    rintro e w' ⟨rfl, rfl⟩
    rw [e1]
    go_wp2
    go_ret
    exact ⟨by rw [HF.out]; rfl, rfl⟩
end Go.Proofs.YtjllcflnmopnpaaDoor
namespace Go.Proofs.YtjllcflnmopnpaaDoor
open Go.RowKit Go.Lib

theorem specDerPut (t : Int) (b : ByteArray) (w : World) (hb : b.size ≤ maxLen) :
    Calls Tryd.prog 6 #[.int .i64 t, .string b] w fun e w' => e = .returned (.string (putD t b)) ∧ Below w.heap.size w w' := by
  unfold maxLen at hb
  cases ht : tagB t with
  | false =>
    have HF : Hid (putD t b = ByteArray.empty) := putD_tag ht
    go_enter Tryd.func6, Tryd.ntmps6
    go_wp2_with fail
    refine (specTag t _).mono ?_
    rintro e w' ⟨rfl, rfl⟩
    rw [ht]
    go_wp2
    go_ret
    exact ⟨by rw [HF.out]; rfl, Below.refl _ _⟩
  | true =>
    obtain ⟨q0, q1, _⟩ := tagB_iff.1 ht
    by_cases hl : 4000 < b.size
    · have HF : Hid (putD t b = ByteArray.empty) := putD_long hl
      go_enter Tryd.func6, Tryd.ntmps6
      go_wp2_with fail
      refine (specTag t _).mono ?_
      rintro e w' ⟨rfl, rfl⟩
      rw [ht]
      go_wp2
      go_ret
      exact ⟨by rw [HF.out]; rfl, Below.refl _ _⟩
    · have HF : Hid (putD t b = thingD t b) := putD_right ht (by omega)
      go_enter Tryd.func6, Tryd.ntmps6
      go_wp2_with fail
      refine (specTag t _).mono ?_
      rintro e w' ⟨rfl, rfl⟩
      rw [ht]
      go_wp2_with fail
      refine (specThing t b _ q0 q1 (by omega)).mono ?_
      rintro e w' ⟨rfl, hb⟩
      go_wp2
      go_ret
      exact ⟨by rw [HF.out]; rfl, hb⟩
end Go.Proofs.YtjllcflnmopnpaaDoor
namespace Go.Proofs.YtjllcflnmopnpaaDoor
open Go.RowKit

theorem resKeep {w w1 : World} {cs : List Value} {T : Nat} (hb : Below (w.alloc (.cells cs.toArray T (0, 0))).heap.size (w.alloc (.cells cs.toArray T (0, 0))) w1) :
    w1.heap[w.heap.size]? = some (.cells cs.toArray T (0, 0)) ∧ Below w.heap.size w w1 ∧ w.heap.size < w1.heap.size := by
  have hs : (w.alloc (.cells cs.toArray T (0, 0))).heap.size = w.heap.size + 1 := by simp
  have hl := hb.size
  refine ⟨?_, ((Below.refl _ w).alloc (Nat.le_refl _) _).trans (hb.mono (by omega)), by omega⟩
  rw [hb.block w.heap.size (by omega)]
  exact heap_alloc_new w _
theorem rowFree {w : World} {g : Nat} {cs : List Value} {t : TypeId} (hg : w.heap[g]? = some (.cells cs.toArray t (0, 0))) (j : Nat) : w.frozen? ⟨g, j, none⟩ = false := frozen_of_row w g j _ t hg
/-- Three cells of a variable. -/
theorem cells3 {w : World} {g : Nat} {a b c : Value} {t : TypeId} (h : w.heap[g]? = some (.cells [a, b, c].toArray t (0, 0))) :
    (w.cell? ⟨g, 0, none⟩ = some a ∧ w.cell? ⟨g, 1, none⟩ = some b ∧ w.cell? ⟨g, 2, none⟩ = some c) ∧ w.frozen? ⟨g, 0, none⟩ = false ∧ w.frozen? ⟨g, 1, none⟩ = false ∧ w.frozen? ⟨g, 2, none⟩ = false :=
  ⟨⟨rowFacts h 0 _ rfl, rowFacts h 1 _ rfl, rowFacts h 2 _ rfl⟩, rowFree h 0, rowFree h 1, rowFree h 2⟩
theorem cells2 {w : World} {g : Nat} {a b : Value} {t : TypeId} (h : w.heap[g]? = some (.cells [a, b].toArray t (0, 0))) :
    (w.cell? ⟨g, 0, none⟩ = some a ∧ w.cell? ⟨g, 1, none⟩ = some b) ∧ w.frozen? ⟨g, 0, none⟩ = false ∧ w.frozen? ⟨g, 1, none⟩ = false :=
  ⟨⟨rowFacts h 0 _ rfl, rowFacts h 1 _ rfl⟩, rowFree h 0, rowFree h 1⟩
theorem cells4 {w : World} {g : Nat} {a b c d : Value} {t : TypeId} (h : w.heap[g]? = some (.cells [a, b, c, d].toArray t (0, 0))) :
    (w.cell? ⟨g, 0, none⟩ = some a ∧ w.cell? ⟨g, 1, none⟩ = some b ∧ w.cell? ⟨g, 2, none⟩ = some c ∧ w.cell? ⟨g, 3, none⟩ = some d) ∧ w.frozen? ⟨g, 0, none⟩ = false ∧ w.frozen? ⟨g, 1, none⟩ = false ∧ w.frozen? ⟨g, 2, none⟩ = false ∧ w.frozen? ⟨g, 3, none⟩ = false :=
  ⟨⟨rowFacts h 0 _ rfl, rowFacts h 1 _ rfl, rowFacts h 2 _ rfl, rowFacts h 3 _ rfl⟩, rowFree h 0, rowFree h 1, rowFree h 2, rowFree h 3⟩
end Go.Proofs.YtjllcflnmopnpaaDoor
namespace Go.Proofs.YtjllcflnmopnpaaDoor
open Go.RowKit Go.Lib

theorem valEq {s : ByteArray} {t c f f' : Int} {F G F' G' : Nat} (h1 : F' = F) (h2 : G' = G) (h3 : f' = f) : Value.agg #[.int .i64 t, .string (s.extract F' G'), .int .i64 f', .int .i64 c] = GetR.val ⟨t, s.extract F G, f, c⟩ := by
  subst h1 h2 h3; rfl
section
variable (s : ByteArray) (k : Nat) (w : World)
set_option maxHeartbeats 1000000
set_option maxRecDepth 100000
theorem specGet_end (h1 : s.size ≤ k) :
    Calls Tryd.prog 43 #[.string s, .int .i64 (k : Int)] w fun e w' => e = .returned (getAt s k).val ∧ Below w.heap.size w w' := by
  have HF : Hid (getAt s k = .bad 4) := getAt_end h1
  go_enter Tryd.func43, Tryd.ntmps43
  go_wp2
  refine bodyPost_ret (v := GetR.val (.bad 4)) (by simp [GetR.val, GetR.bad, results, Tryd.results43, go_sem]) rfl ⟨by rw [HF.out], ?_⟩
  repeat (first | exact Below.refl _ _ | refine Below.drew ?_ | refine Below.setCell ?_ (by simp <;> omega) _ | refine Below.alloc ?_ (by simp <;> omega) _)
theorem specGet_tag (h1 : k < s.size) (ht : tagB (bN s k : Int) = false) :
    Calls Tryd.prog 43 #[.string s, .int .i64 (k : Int)] w fun e w' => e = .returned (getAt s k).val ∧ Below w.heap.size w w' := by
  have HF : Hid (getAt s k = .bad 3) := getAt_tag h1 ht
  have b0 := bN_eq s k h1
  have u0 := u8_lt s[k]
  have q0 : (k : Int) < (s.size : Int) := by omega
  rw [b0] at ht
  go_enter Tryd.func43, Tryd.ntmps43
  go_wp2_with fail
  refine (specTag _ _).mono ?_
  rintro e w' ⟨rfl, rfl⟩
  rw [ht]
  go_wp2
  refine bodyPost_ret (v := GetR.val (.bad 3)) (by simp [GetR.val, GetR.bad, results, Tryd.results43, go_sem]) rfl ⟨by rw [HF.out], ?_⟩
  repeat (first | exact Below.refl _ _ | refine Below.drew ?_ | refine Below.setCell ?_ (by simp <;> omega) _ | refine Below.alloc ?_ (by simp <;> omega) _)
theorem specGet_one (hs : s.size ≤ 20000) (h1 : s.size = k + 1) (ht : tagB (bN s k : Int) = true) :
    Calls Tryd.prog 43 #[.string s, .int .i64 (k : Int)] w fun e w' => e = .returned (getAt s k).val ∧ Below w.heap.size w w' := by
  have HF : Hid (getAt s k = .bad 4) := getAt_one h1 ht
  have b0 := bN_eq s k (by omega)
  have u0 := u8_lt (s[k]'(by omega))
  have q0 : (k : Int) < (s.size : Int) := by omega
  rw [b0] at ht
  go_enter Tryd.func43, Tryd.ntmps43
  go_wp2_with fail
  refine (specTag _ _).mono ?_
  rintro e w' ⟨rfl, rfl⟩
  rw [ht]
  go_wp2
  refine bodyPost_ret (v := GetR.val (.bad 4)) (by simp [GetR.val, GetR.bad, results, Tryd.results43, go_sem]) rfl ⟨by rw [HF.out], ?_⟩
  repeat (first | exact Below.refl _ _ | refine Below.drew ?_ | refine Below.setCell ?_ (by simp <;> omega) _ | refine Below.alloc ?_ (by simp <;> omega) _)
theorem specGet_low (hs : s.size ≤ 20000) (h1 : k + 1 < s.size) (ht : tagB (bN s k : Int) = true) (h2 : bN s (k + 1) < 128) :
    Calls Tryd.prog 43 #[.string s, .int .i64 (k : Int)] w fun e w' => e = .returned (getAt s k).val ∧ Below w.heap.size w w' := by
  have HG := getAt_low h1 ht h2
  have b0 := bN_eq s k (by omega)
  have b1 := bN_eq s (k + 1) h1
  have u0 := u8_lt (s[k]'(by omega))
  have u1 := u8_lt s[k + 1]
  have q0 : (k : Int) < (s.size : Int) := by omega
  rw [b0] at ht HG
  rw [b1] at h2 HG
  by_cases h3 : s.size < k + 2 + s[k + 1].toNat
  · have HF : Hid (getAt s k = .bad 4) := HG.trans (bodyAt_short h3)
    clear HG
    go_enter Tryd.func43, Tryd.ntmps43
    go_wp2_with fail
    refine (specTag _ _).mono ?_
    rintro e w' ⟨rfl, rfl⟩
    rw [ht]
    go_wp2
    refine bodyPost_ret (v := GetR.val (.bad 4)) (by simp [GetR.val, GetR.bad, results, Tryd.results43, go_sem]) rfl ⟨by rw [HF.out], ?_⟩
    repeat (first | exact Below.refl _ _ | refine Below.drew ?_ | refine Below.setCell ?_ (by simp <;> omega) _ | refine Below.alloc ?_ (by simp <;> omega) _)
  · have HF : Hid (getAt s k = _) := HG.trans (bodyAt_ok (by omega))
    clear HG
    go_enter Tryd.func43, Tryd.ntmps43
    go_wp2_with fail
    refine (specTag _ _).mono ?_
    rintro e w' ⟨rfl, rfl⟩
    rw [ht]
    go_wp2
    refine bodyPost_ret (v := .agg #[.int .i64 ((s[k]'(by omega)).toNat : Int), .string (s.extract (k + 2) (k + 2 + s[k + 1].toNat)), .int .i64 ((k : Int) + 2 + (s[k + 1].toNat : Int)), .int .i64 0]) (by simp [results, Tryd.results43, go_sem]) rfl ⟨by rw [HF.out]; exact congrArg Ending.returned (valEq (by omega) (by omega) (by omega)), ?_⟩
    repeat (first | exact Below.refl _ _ | refine Below.drew ?_ | refine Below.setCell ?_ (by simp <;> omega) _ | refine Below.alloc ?_ (by simp <;> omega) _)
theorem specGet_many (hs : s.size ≤ 20000) (h1 : k + 1 < s.size) (ht : tagB (bN s k : Int) = true) (h2 : 128 ≤ bN s (k + 1)) (h3 : bN s (k + 1) ≠ 129) (h4 : bN s (k + 1) ≠ 130) :
    Calls Tryd.prog 43 #[.string s, .int .i64 (k : Int)] w fun e w' => e = .returned (getAt s k).val ∧ Below w.heap.size w w' := by
  have HF : Hid (getAt s k = .bad 3) := getAt_many h1 ht h2 h3 h4
  have b0 := bN_eq s k (by omega)
  have b1 := bN_eq s (k + 1) h1
  have u0 := u8_lt (s[k]'(by omega))
  have u1 := u8_lt s[k + 1]
  have q0 : (k : Int) < (s.size : Int) := by omega
  rw [b0] at ht
  rw [b1] at h2 h3 h4
  have e1 : ((s[k + 1].toNat : Int) - 128 != 1) = true := by rw [bne_iff_ne]; omega
  have e2 : ((s[k + 1].toNat : Int) - 128 != 2) = true := by rw [bne_iff_ne]; omega
  go_enter Tryd.func43, Tryd.ntmps43
  go_wp2_with fail
  refine (specTag _ _).mono ?_
  rintro e w' ⟨rfl, rfl⟩
  rw [ht]
  go_wp2
  refine bodyPost_ret (v := GetR.val (.bad 3)) (by simp [GetR.val, GetR.bad, results, Tryd.results43, go_sem]) rfl ⟨by rw [HF.out], ?_⟩
  repeat (first | exact Below.refl _ _ | refine Below.drew ?_ | refine Below.setCell ?_ (by simp <;> omega) _ | refine Below.alloc ?_ (by simp <;> omega) _)
theorem specGet_129 (hs : s.size ≤ 20000) (h1 : k + 1 < s.size) (ht : tagB (bN s k : Int) = true) (h2 : bN s (k + 1) = 129) :
    Calls Tryd.prog 43 #[.string s, .int .i64 (k : Int)] w fun e w' => e = .returned (getAt s k).val ∧ Below w.heap.size w w' := by
  have HG := getAt_129 h1 ht h2
  have b0 := bN_eq s k (by omega)
  have b1 := bN_eq s (k + 1) h1
  have u0 := u8_lt (s[k]'(by omega))
  have q0 : (k : Int) < (s.size : Int) := by omega
  rw [b0] at ht HG
  rw [b1] at h2
  have e1 : (s[k + 1].toNat : Int) = 129 := by omega
  by_cases h3 : s.size ≤ k + 2
  · have HF : Hid (getAt s k = .bad 4) := HG.trans (if_pos h3)
    clear HG
    go_enter Tryd.func43, Tryd.ntmps43
    go_wp2_with fail
    refine (specTag _ _).mono ?_
    rintro e w' ⟨rfl, rfl⟩
    rw [ht]
    go_wp2
    refine bodyPost_ret (v := GetR.val (.bad 4)) (by simp [GetR.val, GetR.bad, results, Tryd.results43, go_sem]) rfl ⟨by rw [HF.out], ?_⟩
    repeat (first | exact Below.refl _ _ | refine Below.drew ?_ | refine Below.setCell ?_ (by simp <;> omega) _ | refine Below.alloc ?_ (by simp <;> omega) _)
  rw [if_neg h3] at HG
  have b2 := bN_eq s (k + 2) (by omega)
  have u2 := u8_lt (s[k + 2]'(by omega))
  rw [b2] at HG
  have q2 : (k : Int) + 2 < (s.size : Int) := by omega
  have q3 : (0 : Int) ≤ (k : Int) + 2 := by omega
  by_cases h4 : (s[k + 2]'(by omega)).toNat < 128
  · have HF : Hid (getAt s k = .bad 3) := HG.trans (if_pos h4)
    clear HG
    go_enter Tryd.func43, Tryd.ntmps43
    go_wp2_with fail
    refine (specTag _ _).mono ?_
    rintro e w' ⟨rfl, rfl⟩
    rw [ht]
    go_wp2_with fail
    refine wp_loop_rounds 2 ?_
    rw [rounds_succ]
    go_wp2
    rw [rounds_succ]
    go_wp2
    refine bodyPost_ret (v := GetR.val (.bad 3)) (by simp [GetR.val, GetR.bad, results, Tryd.results43, go_sem]) rfl ⟨by rw [HF.out], ?_⟩
    repeat (first | exact Below.refl _ _ | refine Below.drew ?_ | refine Below.setCell ?_ (by simp <;> omega) _ | refine Below.alloc ?_ (by simp <;> omega) _)
  rw [if_neg h4] at HG
  by_cases h5 : s.size < k + 3 + (s[k + 2]'(by omega)).toNat
  · have HF : Hid (getAt s k = .bad 4) := HG.trans (bodyAt_short h5)
    clear HG
    go_enter Tryd.func43, Tryd.ntmps43
    go_wp2_with fail
    refine (specTag _ _).mono ?_
    rintro e w' ⟨rfl, rfl⟩
    rw [ht]
    go_wp2_with fail
    refine wp_loop_rounds 2 ?_
    rw [rounds_succ]
    go_wp2
    rw [rounds_succ]
    go_wp2
    refine bodyPost_ret (v := GetR.val (.bad 4)) (by simp [GetR.val, GetR.bad, results, Tryd.results43, go_sem]) rfl ⟨by rw [HF.out], ?_⟩
    repeat (first | exact Below.refl _ _ | refine Below.drew ?_ | refine Below.setCell ?_ (by simp <;> omega) _ | refine Below.alloc ?_ (by simp <;> omega) _)
  · have HF : Hid (getAt s k = _) := HG.trans (bodyAt_ok (by omega))
    clear HG
    go_enter Tryd.func43, Tryd.ntmps43
    go_wp2_with fail
    refine (specTag _ _).mono ?_
    rintro e w' ⟨rfl, rfl⟩
    rw [ht]
    go_wp2_with fail
    refine wp_loop_rounds 2 ?_
    rw [rounds_succ]
    go_wp2
    rw [rounds_succ]
    go_wp2
    refine bodyPost_ret (v := .agg #[.int .i64 ((s[k]'(by omega)).toNat : Int), .string (s.extract (k + 2 + 1) (k + 2 + 1 + (s[k + 2]'(by omega)).toNat)), .int .i64 ((k : Int) + 2 + 1 + ((s[k + 2]'(by omega)).toNat : Int)), .int .i64 0]) (by simp [results, Tryd.results43, go_sem]) rfl ⟨by rw [HF.out]; exact congrArg Ending.returned (valEq (by omega) (by omega) (by omega)), ?_⟩
    repeat (first | exact Below.refl _ _ | refine Below.drew ?_ | refine Below.setCell ?_ (by simp <;> omega) _ | refine Below.alloc ?_ (by simp <;> omega) _)
end
end Go.Proofs.YtjllcflnmopnpaaDoor
namespace Go.Proofs.YtjllcflnmopnpaaDoor
open Go.RowKit Go.Lib

set_option maxHeartbeats 2000000
set_option maxRecDepth 100000
theorem specGet_130 (s : ByteArray) (k : Nat) (w : World) (hs : s.size ≤ 20000) (h1 : k + 1 < s.size) (ht : tagB (bN s k : Int) = true) (h2 : bN s (k + 1) = 130) :
    Calls Tryd.prog 43 #[.string s, .int .i64 (k : Int)] w fun e w' => e = .returned (getAt s k).val ∧ Below w.heap.size w w' := by
  have HG := getAt_130 h1 ht h2
  have b0 := bN_eq s k (by omega)
  have b1 := bN_eq s (k + 1) h1
  have u0 := u8_lt (s[k]'(by omega))
  have q0 : (k : Int) < (s.size : Int) := by omega
  rw [b0] at ht HG
  rw [b1] at h2
  have e1 : (s[k + 1].toNat : Int) = 130 := by omega
  by_cases h3 : s.size ≤ k + 3
  · have HF : Hid (getAt s k = .bad 4) := HG.trans (if_pos h3)
    clear HG
    go_enter Tryd.func43, Tryd.ntmps43
    go_wp2_with fail
    refine (specTag _ _).mono ?_
    rintro e w' ⟨rfl, rfl⟩
    rw [ht]
    go_wp2
    refine bodyPost_ret (v := GetR.val (.bad 4)) (by simp [GetR.val, GetR.bad, results, Tryd.results43, go_sem]) rfl ⟨by rw [HF.out], ?_⟩
    repeat (first | exact Below.refl _ _ | refine Below.drew ?_ | refine Below.setCell ?_ (by simp <;> omega) _ | refine Below.alloc ?_ (by simp <;> omega) _)
  rw [if_neg h3] at HG
  have b2 := bN_eq s (k + 2) (by omega)
  have b3 : bN s (k + 3) = (s[k + 2 + 1]'(by omega)).toNat := bN_eq s (k + 2 + 1) (by omega)
  have u2 := u8_lt (s[k + 2]'(by omega))
  have u3 := u8_lt (s[k + 2 + 1]'(by omega))
  rw [b2, b3] at HG
  have q2 : (k : Int) + 2 < (s.size : Int) := by omega
  have q3 : (0 : Int) ≤ (k : Int) + 2 := by omega
  have q4 : (k : Int) + 2 + 1 < (s.size : Int) := by omega
  have q5 : (0 : Int) ≤ (k : Int) + 2 + 1 := by omega
  obtain ⟨m, hm⟩ : ∃ m : Nat, m = 256 * (s[k + 2]'(by omega)).toNat + (s[k + 2 + 1]'(by omega)).toNat := ⟨_, rfl⟩
  rw [← hm] at HG
  have HG2 : Hid _ := HG
  have HM : Hid (256 * ((s[k + 2]'(by omega)).toNat : Int) + ((s[k + 2 + 1]'(by omega)).toNat : Int) = (m : Int) ∧ m ≤ 65535) := ⟨by omega, by omega⟩
  clear HG hm b0 b1 b2 b3
  go_enter Tryd.func43, Tryd.ntmps43
  go_wp2_with fail
  refine (specTag _ _).mono ?_
  rintro e w' ⟨rfl, rfl⟩
  rw [ht]
  go_wp2_with fail
  refine wp_loop_rounds 3 ?_
  rw [rounds_succ]
  go_wp2
  rw [rounds_succ]
  go_wp2
  rw [HM.out.1]
  have hm2 := HM.out.2
  have HG := HG2.out
  clear HM HG2 u2 u3
  by_cases h4 : m < 256
  · have HF : Hid (getAt s k = .bad 3) := HG.trans (if_pos h4)
    clear HG
    rw [rounds_succ]
    go_wp2
    refine bodyPost_ret (v := GetR.val (.bad 3)) (by simp [GetR.val, GetR.bad, results, Tryd.results43, go_sem]) rfl ⟨by rw [HF.out], ?_⟩
    repeat (first | exact Below.refl _ _ | refine Below.drew ?_ | refine Below.setCell ?_ (by simp <;> omega) _ | refine Below.alloc ?_ (by simp <;> omega) _)
  rw [if_neg h4] at HG
  by_cases h6 : 4000 < m
  · have HF : Hid (getAt s k = .bad 3) := HG.trans (if_pos h6)
    clear HG
    rw [rounds_succ]
    go_wp2
    refine bodyPost_ret (v := GetR.val (.bad 3)) (by simp [GetR.val, GetR.bad, results, Tryd.results43, go_sem]) rfl ⟨by rw [HF.out], ?_⟩
    repeat (first | exact Below.refl _ _ | refine Below.drew ?_ | refine Below.setCell ?_ (by simp <;> omega) _ | refine Below.alloc ?_ (by simp <;> omega) _)
  rw [if_neg h6] at HG
  by_cases h5 : s.size < k + 4 + m
  · have HF : Hid (getAt s k = .bad 4) := HG.trans (bodyAt_short h5)
    clear HG
    rw [rounds_succ]
    go_wp2
    refine bodyPost_ret (v := GetR.val (.bad 4)) (by simp [GetR.val, GetR.bad, results, Tryd.results43, go_sem]) rfl ⟨by rw [HF.out], ?_⟩
    repeat (first | exact Below.refl _ _ | refine Below.drew ?_ | refine Below.setCell ?_ (by simp <;> omega) _ | refine Below.alloc ?_ (by simp <;> omega) _)
  · have HF : Hid (getAt s k = _) := HG.trans (bodyAt_ok (by omega))
    clear HG
    rw [rounds_succ]
    go_wp2
    refine bodyPost_ret (v := .agg #[.int .i64 ((s[k]'(by omega)).toNat : Int), .string (s.extract (k + 2 + 2) (k + 2 + 2 + m)), .int .i64 ((k : Int) + 2 + 2 + (m : Int)), .int .i64 0]) (by simp [results, Tryd.results43, go_sem]) rfl ⟨by rw [HF.out]; exact congrArg Ending.returned (valEq (by omega) (by omega) (by omega)), ?_⟩
    repeat (first | exact Below.refl _ _ | refine Below.drew ?_ | refine Below.setCell ?_ (by simp <;> omega) _ | refine Below.alloc ?_ (by simp <;> omega) _)
theorem specGetAt (s : ByteArray) (k : Nat) (w : World) (hs : s.size ≤ 20000) :
    Calls Tryd.prog 43 #[.string s, .int .i64 (k : Int)] w fun e w' => e = .returned (getAt s k).val ∧ Below w.heap.size w w' := by
  by_cases h1 : s.size ≤ k
  · exact specGet_end s k w h1
  cases ht : tagB (bN s k : Int) with
  | false => exact specGet_tag s k w (by omega) ht
  | true =>
    by_cases h2 : s.size = k + 1
    · exact specGet_one s k w hs h2 ht
    by_cases h3 : bN s (k + 1) < 128
    · exact specGet_low s k w hs (by omega) ht h3
    by_cases h4 : bN s (k + 1) = 129
    · exact specGet_129 s k w hs (by omega) ht h4
    by_cases h5 : bN s (k + 1) = 130
    · exact specGet_130 s k w hs (by omega) ht h5
    · exact specGet_many s k w hs (by omega) ht (by omega) h4 h5
end Go.Proofs.YtjllcflnmopnpaaDoor
namespace Go.Proofs.YtjllcflnmopnpaaDoor
open Go.RowKit Go.Lib

set_option maxHeartbeats 1000000 in
set_option maxRecDepth 100000 in
theorem specDerGet (s : ByteArray) (p : Int) (w : World) (hs : s.size ≤ maxLen) :
    Calls Tryd.prog 12 #[.string s, .int .i64 p] w fun e w' => e = .returned (getD s p).val ∧ Below w.heap.size w w' := by
  unfold maxLen at hs
  by_cases h1 : 20000 < s.size
  · have HF : Hid (getD s p = .bad 2) := if_pos h1
    go_enter Tryd.func12, Tryd.ntmps12
    go_wp2
    refine bodyPost_ret (v := GetR.val (.bad 2)) (by simp [GetR.val, GetR.bad, results, Tryd.results12, go_sem]) rfl ⟨by rw [HF.out], ?_⟩
    repeat (first | exact Below.refl _ _ | refine Below.drew ?_ | refine Below.setCell ?_ (by simp <;> omega) _ | refine Below.alloc ?_ (by simp <;> omega) _)
  by_cases h2 : p < 0
  · have HF : Hid (getD s p = .bad 1) := by unfold Hid getD; rw [if_neg h1, if_pos h2]
    go_enter Tryd.func12, Tryd.ntmps12
    go_wp2
    refine bodyPost_ret (v := GetR.val (.bad 1)) (by simp [GetR.val, GetR.bad, results, Tryd.results12, go_sem]) rfl ⟨by rw [HF.out], ?_⟩
    repeat (first | exact Below.refl _ _ | refine Below.drew ?_ | refine Below.setCell ?_ (by simp <;> omega) _ | refine Below.alloc ?_ (by simp <;> omega) _)
  · obtain ⟨k, rfl⟩ := Int.eq_ofNat_of_zero_le (show 0 ≤ p by omega)
    have HF : Hid (getD s (k : Int) = getAt s k) := by unfold Hid getD; rw [if_neg h1, if_neg h2]; rfl
    have HB : Hid (∀ v : World, Calls Tryd.prog 43 #[.string s, .int .i64 (k : Int)] v fun e w' => e = .returned (getAt s k).val ∧ Below v.heap.size v w') := fun v => specGetAt s k v (by omega)
    generalize getAt s k = r at *
    obtain ⟨r0, r1, r2, r3⟩ := r
    unfold GetR.val at HB
    simp only at HB
    go_enter Tryd.func12, Tryd.ntmps12
    go_wp2_with fail
    refine (HB.out _).mono ?_
    rintro e w1 ⟨rfl, hb1⟩
    obtain ⟨hr, hB, _⟩ := resKeep (cs := [.int .i64 0, .string ⟨#[]⟩, .int .i64 0, .int .i64 0]) (T := 29) hb1
    obtain ⟨⟨c0, c1, c2, c3⟩, f0, f1, f2, f3⟩ := cells4 hr
    clear hb1 hr
    go_wp2
    refine bodyPost_ret (v := GetR.val ⟨r0, r1, r2, r3⟩) (by simp [GetR.val, results, Tryd.results12, go_sem, c0, c1, c2, c3]) rfl ⟨by rw [HF.out], ?_⟩
    repeat (first | exact hB | refine Below.setCell ?_ (by simp) _)
end Go.Proofs.YtjllcflnmopnpaaDoor
namespace Go.Proofs.YtjllcflnmopnpaaDoor
open Go.RowKit

/-- A number's bytes, the highest first; f + 1 at most. -/
def intF : Nat → Int → List Int
  | 0, n => [n % 256]
  | f + 1, n => if -128 ≤ n ∧ n < 128 then [n % 256] else intF f (n / 256) ++ [n % 256]
def intL (n : Int) : List Int := intF 7 n
def lim : Nat → Int
  | 0 => 128
  | f + 1 => 256 * lim f
theorem lim7 : lim 7 = 9223372036854775808 := by decide
def Fits (f : Nat) (m : Int) : Prop := -(lim f) ≤ m ∧ m < lim f
theorem intF_last {f : Nat} {m : Int} (h0 : -128 ≤ m) (h1 : m < 128) : intF f m = [m % 256] := by
  cases f with
  | zero => rfl
  | succ f => rw [intF, if_pos ⟨h0, h1⟩]
theorem intF_more {f : Nat} {m : Int} (h : ¬(-128 ≤ m ∧ m < 128)) (hf : Fits f m) : ∃ g, f = g + 1 ∧ Fits g (m / 256) ∧ intF f m = intF g (m / 256) ++ [m % 256] := by
  cases f with
  | zero => unfold Fits lim at hf; omega
  | succ g =>
    refine ⟨g, rfl, ?_, by rw [intF, if_neg h]⟩
    unfold Fits at *
    simp only [lim] at hf
    omega
theorem intF_len : ∀ (f : Nat) (m : Int), 1 ≤ (intF f m).length ∧ (intF f m).length ≤ f + 1
  | 0, _ => by simp [intF]
  | f + 1, m => by
    rw [intF]
    split
    · simp
    · have := intF_len f (m / 256)
      simp; omega
theorem intL_len (n : Int) : 1 ≤ (intL n).length ∧ (intL n).length ≤ 8 := intF_len 7 n
theorem intF_byte : ∀ (f : Nat) (m : Int) (x : Int), x ∈ intF f m → 0 ≤ x ∧ x < 256
  | 0, m, x, h => by simp [intF] at h; omega
  | f + 1, m, x, h => by
    rw [intF] at h
    split at h
    · simp at h; omega
    · rcases List.mem_append.1 h with h | h
      · exact intF_byte f _ x h
      · simp at h; omega
/-- A number without its sign. -/
def bareN (n : Int) : Nat := if n < 0 then (-n - 1).toNat else n.toNat
theorem bareN_div (n : Int) : bareN (n / 256) = bareN n / 256 := by
  unfold bareN
  split <;> split <;> omega
theorem bareN_low (n : Int) : bareN n < 128 ↔ -128 ≤ n ∧ n < 128 := by unfold bareN; split <;> omega
theorem bitLen_byte {x : Nat} (h : 128 ≤ x) (hx : x < 18446744073709551616) : Lib.bitLen x = 8 + Lib.bitLen (x / 256) := by
  by_cases h2 : 256 ≤ x
  · exact Lib.bitLen_shift8 x h2 hx
  · have e : x / 256 = 0 := by omega
    have e0 : Lib.bitLen 0 = 0 := by decide
    have g := Lib.bitLen_shift 7 x (by omega) (by omega)
    have e1 : x / 2 ^ 7 = 1 := by omega
    have e2 : Lib.bitLen 1 = 1 := by decide
    rw [e1, e2] at g
    rw [e, e0]; omega
theorem intF_bits : ∀ (f : Nat) (m : Int), Fits f m → bareN m < 18446744073709551616 → (intF f m).length = Lib.bitLen (bareN m) / 8 + 1
  | 0, m, h, _ => by
    have h2 : bareN m < 128 := (bareN_low m).2 (by unfold Fits lim at h; omega)
    have := Lib.bitLen_le (bareN m) 7 (by omega) (by omega)
    simp [intF]; omega
  | f + 1, m, h, hb => by
    by_cases c : -128 ≤ m ∧ m < 128
    · rw [intF, if_pos c]
      have h2 : bareN m < 128 := (bareN_low m).2 c
      have := Lib.bitLen_le (bareN m) 7 (by omega) (by omega)
      simp; omega
    · obtain ⟨g, e, hg, ee⟩ := intF_more c h
      obtain rfl : f = g := by omega
      have h2 : 128 ≤ bareN m := by rcases Nat.lt_or_ge (bareN m) 128 with h' | h'
                                    · exact absurd ((bareN_low m).1 h') c
                                    · exact h'
      rw [ee, List.length_append, intF_bits f (m / 256) hg (by rw [bareN_div]; omega), bareN_div, bitLen_byte h2 hb, List.length_singleton]
      omega
theorem fits7 {n : Int} (h0 : -9223372036854775808 ≤ n) (h1 : n ≤ 9223372036854775807) : Fits 7 n := by
  unfold Fits; rw [lim7]; omega
theorem intL_bits {n : Int} (h0 : -9223372036854775808 ≤ n) (h1 : n ≤ 9223372036854775807) : (intL n).length = Lib.bitLen (bareN n) / 8 + 1 :=
  intF_bits 7 n (fits7 h0 h1) (by unfold bareN; split <;> omega)
/-- The byte of weight 256 ^ i. -/
theorem intF_at : ∀ (f : Nat) (m : Int) (i : Nat), i < (intF f m).length → (intF f m).getD ((intF f m).length - 1 - i) 0 = m / 256 ^ i % 256
  | 0, m, i, h => by
    simp [intF] at h; subst h; simp [intF]
  | f + 1, m, i, h => by
    rw [intF] at h ⊢
    split at h
    · rename_i c
      rw [if_pos c]
      simp at h; subst h; simp
    · rename_i c
      rw [if_neg c]
      simp only [List.length_append, List.length_singleton] at h ⊢
      cases i with
      | zero => simp [List.getD]
      | succ i =>
        have ih := intF_at f (m / 256) i (by omega)
        rw [List.getD, List.getElem?_append_left (by omega)]
        rw [List.getD] at ih
        rw [show (intF f (m / 256)).length + 1 - 1 - (i + 1) = (intF f (m / 256)).length - 1 - i from by omega, ih, Int.ediv_ediv_of_nonneg (by omega)]
        congr 2
        rw [Int.pow_succ]; exact Int.mul_comm _ _
theorem intL_at {n : Int} {i : Nat} (h : i < (intL n).length) : (intL n).getD ((intL n).length - 1 - i) 0 = n / 256 ^ i % 256 := intF_at 7 n i h
end Go.Proofs.YtjllcflnmopnpaaDoor
