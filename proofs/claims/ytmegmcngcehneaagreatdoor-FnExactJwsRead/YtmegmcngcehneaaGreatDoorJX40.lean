/- impl.askedText, layRequest, askedRight, walked. -/
import Derived.Test.YtmegmcngcehneaaGreatDoorJX10
import Derived.Test.YtmegmcngcehneaaGreatDoorJX35
import Derived.Test.YtmegmcngcehneaaGreatDoorJX09
import Derived.Test.YtmegmcngcehneaaGreatDoorJX07
import Derived.Test.YtmegmcngcehneaaGreatDoorJX39
import Derived.Test.YtmegmcngcehneaaGreatDoorJX04
import Derived.Deep.Cut
import Derived.Deep.RegionHeld3
namespace Go.Proofs.YtmegmcngcehneaaGreatDoor
open Go.RowKit Go.Lib

theorem base64D_small {t : ByteArray} (h : t.size ≤ 4000) : base64D t = b64D t := by rw [base64D, if_neg (by omega)]
set_option linter.unusedSimpArgs false in
set_option maxHeartbeats 4000000 in
set_option maxRecDepth 100000 in
theorem implTwo (key nonce : Int) (url body : ByteArray) (sk se ss : Int) (w : World) (hk : -9223372036854775808 ≤ key ∧ key ≤ 9223372036854775807) (hn : -9223372036854775808 ≤ nonce ∧ nonce ≤ 9223372036854775807) (hu : url.size ≤ 40) (hb : body.size ≤ 2000) :
    Calls Tryz.prog 18 #[jV key nonce url body sk se ss] w fun r w' => r = .returned (.string (jTwo key nonce url body)) ∧ Below w.heap.size w w' := by
  unfold jV
  obtain ⟨w1, hw1⟩ : ∃ w1, w1 = w.alloc (.cells #[.int .i64 key, .int .i64 nonce, .string url, .string body, .int .i64 sk, .int .i64 se, .int .i64 ss] 25 (0, 0)) := ⟨_, rfl⟩
  have r0 : w1.heap[w.heap.size]? = some (.cells [Value.int .i64 key, .int .i64 nonce, .string url, .string body, .int .i64 sk, .int .i64 se, .int .i64 ss].toArray 25 (0, 0)) := by rw [hw1]; exact heap_alloc_new w _
  have B1 : Hid (Below w.heap.size w w1) := by rw [hw1]; exact (Below.refl _ _).alloc (Nat.le_refl _) _
  have z1 : w.heap.size < w1.heap.size := by rw [hw1]; simp
  have HK : Hid (∀ V, Below w1.heap.size w1 V → V.cell? ⟨w.heap.size, 0, none⟩ = some (.int .i64 key) ∧ V.cell? ⟨w.heap.size, 1, none⟩ = some (.int .i64 nonce) ∧ V.cell? ⟨w.heap.size, 2, none⟩ = some (.string url) ∧ V.cell? ⟨w.heap.size, 3, none⟩ = some (.string body) ∧ V.cell? ⟨w.heap.size, 4, none⟩ = some (.int .i64 sk) ∧ V.cell? ⟨w.heap.size, 5, none⟩ = some (.int .i64 se) ∧ V.cell? ⟨w.heap.size, 6, none⟩ = some (.int .i64 ss)) := fun V hV => by
    have hP := (hV.block _ z1).trans r0
    exact ⟨rowFacts hP 0 _ rfl, rowFacts hP 1 _ rfl, rowFacts hP 2 _ rfl, rowFacts hP 3 _ rfl, rowFacts hP 4 _ rfl, rowFacts hP 5 _ rfl, rowFacts hP 6 _ rfl⟩
  have HB : Hid (∀ V, Below w1.heap.size w1 V → Below w.heap.size w V) := fun V hV => B1.out.trans (hV.mono B1.out.size)
  have PP : Hid (∀ V (n : Int), Hid (Below w1.heap.size w1 V) → -9223372036854775808 ≤ n ∧ n ≤ 9223372036854775807 → Calls Tryz.prog 42 #[.int .i64 n] V fun e W => e = .returned (.string (putS n)) ∧ Hid (Below w1.heap.size w1 W)) := fun V n hV hn => (implPut n V hn.1 hn.2).mono fun e W h => ⟨h.1, hV.out.trans (h.2.mono hV.out.size)⟩
  have PT : Hid (∀ V, Hid (Below w1.heap.size w1 V) → Calls Tryz.prog 45 #[.string url] V fun e W => e = .returned (.string (putTx url)) ∧ Hid (Below w1.heap.size w1 W)) := fun V hV => (implPutText url V (by omega)).mono fun e W h => ⟨h.1, hV.out.trans (h.2.mono hV.out.size)⟩
  have PJ : Hid (∀ V (a b : ByteArray), Hid (Below w1.heap.size w1 V) → a.size ≤ 4000 → b.size ≤ 4000 → Calls Tryz.prog 41 #[.string a, .string b] V fun e W => e = .returned (.string (a ++ b)) ∧ Hid (Below w1.heap.size w1 W)) := fun V a b hV ha hb => (joinTexts a b V (by omega) (by omega)).mono fun e W h => ⟨h.1, hV.out.trans (h.2.mono hV.out.size)⟩
  have PA : Hid (∀ V (t : ByteArray), Hid (Below w1.heap.size w1 V) → t.size ≤ 4000 → Calls Tryz.prog 40 #[.string t] V fun e W => e = .returned (.string (b64D t)) ∧ Hid (Below w1.heap.size w1 W)) := fun V t hV ht => by
    have := implBase64 t V (by unfold maxLen; omega)
    rw [base64D_small ht] at this
    exact this.mono fun e W h => ⟨h.1, hV.out.trans (h.2.mono hV.out.size)⟩
  have I1 : Hid (Below w1.heap.size w1 w1) := Below.refl _ _
  have D1 : Hid (Below w1.heap.size w1 w1.drew) := I1.out.drew
  clear r0 z1 B1
  obtain ⟨R, hR⟩ : ∃ R, R = jTwo key nonce url body := ⟨_, rfl⟩
  have HR : Hid (R = jTwo key nonce url body) := hR
  have y1 := putS_size key
  have y2 := putS_size nonce
  have y3 := putTx_size url
  obtain ⟨q1, e1⟩ : ∃ q, putS key ++ putS nonce = q := ⟨_, rfl⟩
  have s1 : q1.size ≤ 20 := by rw [← e1, ByteArray.size_append]; omega
  obtain ⟨q2, e2⟩ : ∃ q, q1 ++ putTx url = q := ⟨_, rfl⟩
  have s2 : q2.size ≤ 70 := by rw [← e2, ByteArray.size_append]; omega
  have s3 := b64D_size q2
  have s4 := b64D_size body
  have sd : dotD.size = 1 := rfl
  obtain ⟨q3, e3⟩ : ∃ q, b64D q2 ++ (⟨#[46]⟩ : ByteArray) = q := ⟨_, rfl⟩
  have s5 : q3.size ≤ 141 := by rw [← e3, ByteArray.size_append]; show _ + dotD.size ≤ _; omega
  have e4 : q3 ++ b64D body = R := by rw [hR, ← e3, ← e2, ← e1]; rfl
  have a1 : ¬ 9223372036854775807 < (putS key).size + (putS nonce).size := by omega
  have a2 : ¬ 9223372036854775807 < q1.size + (putTx url).size := by omega
  have a3 : ¬ 9223372036854775807 < (b64D q2).size + (⟨#[46]⟩ : ByteArray).size := by show ¬ _ < _ + dotD.size; omega
  have a3' : ¬ 9223372036854775807 < (b64D q2).size + 1 := by omega
  have a4 : ¬ 9223372036854775807 < q3.size + (b64D body).size := by omega
  rw [← hR]
  have hb4 : body.size ≤ 4000 := by omega
  have s24 : q2.size ≤ 4000 := by omega
  have z0 : (putS key).size ≤ 4000 := by omega
  have z1 : (putS nonce).size ≤ 4000 := by omega
  have z2 : (putTx url).size ≤ 4000 := by omega
  have z3 : q1.size ≤ 4000 := by omega
  clear y1 y2 y3 s1 s2 s3 s4 s5 sd hR HR
  obtain ⟨c0, c1, c2, c3, c4, c5, c6⟩ := HK.out w1 I1.out
  go_enter Tryz.func18, Tryz.ntmps18
  go_upto_region 1 with fail
  rw [← hw1]
  clear hw1
  go_region_held3 (fun V => V.cell? ⟨w.heap.size, 0, none⟩ = some (.int .i64 key) ∧ V.cell? ⟨w.heap.size, 1, none⟩ = some (.int .i64 nonce) ∧ V.cell? ⟨w.heap.size, 2, none⟩ = some (.string url) ∧ V.cell? ⟨w.heap.size, 3, none⟩ = some (.string body) ∧ V.cell? ⟨w.heap.size, 4, none⟩ = some (.int .i64 sk) ∧ V.cell? ⟨w.heap.size, 5, none⟩ = some (.int .i64 se) ∧ V.cell? ⟨w.heap.size, 6, none⟩ = some (.int .i64 ss)) (first | (refine ⟨?_, ?_, ?_, ?_, ?_, ?_, ?_⟩ <;> assumption) | exact HK.out _ (Hid.out (by assumption)))
    (first
      | (go_at_call 42; refine (PP.out _ _ (by assumption) (by assumption)).mono ?_; rintro r V1 ⟨rfl, k1⟩)
      | (go_at_call 45; refine (PT.out _ (by assumption)).mono ?_; rintro r V2 ⟨rfl, k2⟩)
      | (go_at_call 41; refine (PJ.out _ _ _ (by assumption) (by assumption) (by assumption)).mono ?_; rintro r V4 ⟨rfl, k4⟩)
      | (go_at_call 40; refine (PA.out _ _ (by assumption) (by assumption)).mono ?_; rintro r V3 ⟨rfl, k3⟩))
  all_goals
    have D9 : Hid (Below w1.heap.size w1 V4.drew) := k4.out.drew
    obtain ⟨c0, c1, c2, c3, c4, c5, c6⟩ := HK.out V4 k4.out
    go_upto_region 2 with fail
    go_region_held3 (fun V => V.cell? ⟨w.heap.size, 0, none⟩ = some (.int .i64 key) ∧ V.cell? ⟨w.heap.size, 1, none⟩ = some (.int .i64 nonce) ∧ V.cell? ⟨w.heap.size, 2, none⟩ = some (.string url) ∧ V.cell? ⟨w.heap.size, 3, none⟩ = some (.string body) ∧ V.cell? ⟨w.heap.size, 4, none⟩ = some (.int .i64 sk) ∧ V.cell? ⟨w.heap.size, 5, none⟩ = some (.int .i64 se) ∧ V.cell? ⟨w.heap.size, 6, none⟩ = some (.int .i64 ss)) (first | (refine ⟨?_, ?_, ?_, ?_, ?_, ?_, ?_⟩ <;> assumption) | exact HK.out _ (Hid.out (by assumption)))
      (first
        | (go_at_call 42; refine (PP.out _ _ (by assumption) (by assumption)).mono ?_; rintro r V1 ⟨rfl, k1⟩)
        | (go_at_call 45; refine (PT.out _ (by assumption)).mono ?_; rintro r V2 ⟨rfl, k2⟩)
        | (go_at_call 41; refine (PJ.out _ _ _ (by assumption) (by assumption) (by assumption)).mono ?_; rintro r V4 ⟨rfl, k4⟩)
        | (go_at_call 40; refine (PA.out _ _ (by assumption) (by assumption)).mono ?_; rintro r V3 ⟨rfl, k3⟩))
  all_goals
    go_wp2
    go_ret
    exact ⟨rfl, HB.out _ (Hid.out (by assumption))⟩
set_option linter.unusedSimpArgs false in
set_option maxHeartbeats 4000000 in
set_option maxRecDepth 100000 in
theorem implLay (key nonce : Int) (url body : ByteArray) (sk se ss : Int) (w : World) (hk : -9223372036854775808 ≤ key ∧ key ≤ 9223372036854775807) (hn : -9223372036854775808 ≤ nonce ∧ nonce ≤ 9223372036854775807) (hu : url.size ≤ 40) (hb : body.size ≤ 2000) (he : -9223372036854775808 ≤ se ∧ se ≤ 9223372036854775807) (hs : -9223372036854775808 ≤ ss ∧ ss ≤ 9223372036854775807) :
    Calls Tryz.prog 16 #[jV key nonce url body sk se ss] w fun r w' => r = .returned (.string (jText key nonce url body se ss)) ∧ Below w.heap.size w w' := by
  unfold jV
  obtain ⟨w1, hw1⟩ : ∃ w1, w1 = w.alloc (.cells #[.int .i64 key, .int .i64 nonce, .string url, .string body, .int .i64 sk, .int .i64 se, .int .i64 ss] 25 (0, 0)) := ⟨_, rfl⟩
  have r0 : w1.heap[w.heap.size]? = some (.cells [Value.int .i64 key, .int .i64 nonce, .string url, .string body, .int .i64 sk, .int .i64 se, .int .i64 ss].toArray 25 (0, 0)) := by rw [hw1]; exact heap_alloc_new w _
  have B1 : Hid (Below w.heap.size w w1) := by rw [hw1]; exact (Below.refl _ _).alloc (Nat.le_refl _) _
  have z1 : w.heap.size < w1.heap.size := by rw [hw1]; simp
  have HK : Hid (∀ V, Below w1.heap.size w1 V → V.cell? ⟨w.heap.size, 0, none⟩ = some (.int .i64 key) ∧ V.cell? ⟨w.heap.size, 1, none⟩ = some (.int .i64 nonce) ∧ V.cell? ⟨w.heap.size, 2, none⟩ = some (.string url) ∧ V.cell? ⟨w.heap.size, 3, none⟩ = some (.string body) ∧ V.cell? ⟨w.heap.size, 4, none⟩ = some (.int .i64 sk) ∧ V.cell? ⟨w.heap.size, 5, none⟩ = some (.int .i64 se) ∧ V.cell? ⟨w.heap.size, 6, none⟩ = some (.int .i64 ss)) := fun V hV => by
    have hP := (hV.block _ z1).trans r0
    exact ⟨rowFacts hP 0 _ rfl, rowFacts hP 1 _ rfl, rowFacts hP 2 _ rfl, rowFacts hP 3 _ rfl, rowFacts hP 4 _ rfl, rowFacts hP 5 _ rfl, rowFacts hP 6 _ rfl⟩
  have HB : Hid (∀ V, Below w1.heap.size w1 V → Below w.heap.size w V) := fun V hV => B1.out.trans (hV.mono B1.out.size)
  have PP : Hid (∀ V (n : Int), Hid (Below w1.heap.size w1 V) → -9223372036854775808 ≤ n ∧ n ≤ 9223372036854775807 → Calls Tryz.prog 42 #[.int .i64 n] V fun e W => e = .returned (.string (putS n)) ∧ Hid (Below w1.heap.size w1 W)) := fun V n hV hn => (implPut n V hn.1 hn.2).mono fun e W h => ⟨h.1, hV.out.trans (h.2.mono hV.out.size)⟩
  have PH : Hid (∀ V, Hid (Below w1.heap.size w1 V) → Calls Tryz.prog 18 #[.agg #[.int .i64 key, .int .i64 nonce, .string url, .string body, .int .i64 sk, .int .i64 se, .int .i64 ss]] V fun e W => e = .returned (.string (jTwo key nonce url body)) ∧ Hid (Below w1.heap.size w1 W)) := fun V hV => (implTwo key nonce url body sk se ss V hk hn hu hb).mono fun e W h => ⟨h.1, hV.out.trans (h.2.mono hV.out.size)⟩
  have PJ : Hid (∀ V (a b : ByteArray), Hid (Below w1.heap.size w1 V) → a.size ≤ 4000 → b.size ≤ 4000 → Calls Tryz.prog 41 #[.string a, .string b] V fun e W => e = .returned (.string (a ++ b)) ∧ Hid (Below w1.heap.size w1 W)) := fun V a b hV ha hb => (joinTexts a b V (by omega) (by omega)).mono fun e W h => ⟨h.1, hV.out.trans (h.2.mono hV.out.size)⟩
  have PA : Hid (∀ V (t : ByteArray), Hid (Below w1.heap.size w1 V) → t.size ≤ 4000 → Calls Tryz.prog 40 #[.string t] V fun e W => e = .returned (.string (b64D t)) ∧ Hid (Below w1.heap.size w1 W)) := fun V t hV ht => by
    have := implBase64 t V (by unfold maxLen; omega)
    rw [base64D_small ht] at this
    exact this.mono fun e W h => ⟨h.1, hV.out.trans (h.2.mono hV.out.size)⟩
  have I1 : Hid (Below w1.heap.size w1 w1) := Below.refl _ _
  have D1 : Hid (Below w1.heap.size w1 w1.drew) := I1.out.drew
  clear r0 z1 B1
  obtain ⟨R, hR⟩ : ∃ R, R = jText key nonce url body se ss := ⟨_, rfl⟩
  have y1 := putS_size se
  have y2 := putS_size ss
  have y3 := jTwo_size key nonce url body
  obtain ⟨q1, e1⟩ : ∃ q, jTwo key nonce url body ++ (⟨#[46]⟩ : ByteArray) = q := ⟨_, rfl⟩
  have sd : dotD.size = 1 := rfl
  have s1 : q1.size ≤ 5000 := by rw [← e1, ByteArray.size_append]; show _ + dotD.size ≤ _; omega
  obtain ⟨q2, e2⟩ : ∃ q, putS se ++ putS ss = q := ⟨_, rfl⟩
  have s2 : q2.size ≤ 20 := by rw [← e2, ByteArray.size_append]; omega
  have s3 := b64D_size q2
  have e4 : q1 ++ b64D q2 = R := by rw [hR, ← e1, ← e2]; rfl
  have a1 : ¬ 9223372036854775807 < (jTwo key nonce url body).size + (⟨#[46]⟩ : ByteArray).size := by show ¬ _ < _ + dotD.size; omega
  have a1' : ¬ 9223372036854775807 < (jTwo key nonce url body).size + 1 := by omega
  have a2 : ¬ 9223372036854775807 < (putS se).size + (putS ss).size := by omega
  have a3 : ¬ 9223372036854775807 < q1.size + (b64D q2).size := by omega
  rw [← hR]
  have s24 : q2.size ≤ 4000 := by omega
  have z0 : (putS se).size ≤ 4000 := by omega
  have z1 : (putS ss).size ≤ 4000 := by omega
  clear y1 y2 y3 s1 s2 s3 sd hR
  generalize jTwo key nonce url body = TW at *
  obtain ⟨c0, c1, c2, c3, c4, c5, c6⟩ := HK.out w1 I1.out
  go_enter Tryz.func16, Tryz.ntmps16
  go_upto_region 1 with fail
  rw [← hw1]
  clear hw1
  go_region_held3 (fun V => V.cell? ⟨w.heap.size, 0, none⟩ = some (.int .i64 key) ∧ V.cell? ⟨w.heap.size, 1, none⟩ = some (.int .i64 nonce) ∧ V.cell? ⟨w.heap.size, 2, none⟩ = some (.string url) ∧ V.cell? ⟨w.heap.size, 3, none⟩ = some (.string body) ∧ V.cell? ⟨w.heap.size, 4, none⟩ = some (.int .i64 sk) ∧ V.cell? ⟨w.heap.size, 5, none⟩ = some (.int .i64 se) ∧ V.cell? ⟨w.heap.size, 6, none⟩ = some (.int .i64 ss)) (first | (refine ⟨?_, ?_, ?_, ?_, ?_, ?_, ?_⟩ <;> assumption) | exact HK.out _ (Hid.out (by assumption)))
    (first
      | (go_at_call 42; refine (PP.out _ _ (by assumption) (by assumption)).mono ?_; rintro r V1 ⟨rfl, k1⟩)
      | (go_at_call 18; refine (PH.out _ (by assumption)).mono ?_; rintro r V2 ⟨rfl, k2⟩)
      | (go_at_call 41; refine (PJ.out _ _ _ (by assumption) (by assumption) (by assumption)).mono ?_; rintro r V4 ⟨rfl, k4⟩)
      | (go_at_call 40; refine (PA.out _ _ (by assumption) (by assumption)).mono ?_; rintro r V3 ⟨rfl, k3⟩))
  all_goals
    go_wp2
    go_ret
    exact ⟨rfl, HB.out _ (Hid.out (by assumption))⟩
set_option linter.unusedSimpArgs false in
set_option maxHeartbeats 4000000 in
set_option maxRecDepth 100000 in
theorem implAsked (key nonce : Int) (url body : ByteArray) (sk se ss : Int) (w : World) (hu : url.size ≤ maxLen) (hb : body.size ≤ maxLen) :
    Calls Tryz.prog 14 #[jV key nonce url body sk se ss] w fun r w' => r = .returned (.bool (rqB key nonce url body)) ∧ Below w.heap.size w w' := by
  unfold jV
  obtain ⟨w1, hw1⟩ : ∃ w1, w1 = w.alloc (.cells #[.int .i64 key, .int .i64 nonce, .string url, .string body, .int .i64 sk, .int .i64 se, .int .i64 ss] 25 (0, 0)) := ⟨_, rfl⟩
  have r0 : w1.heap[w.heap.size]? = some (.cells [Value.int .i64 key, .int .i64 nonce, .string url, .string body, .int .i64 sk, .int .i64 se, .int .i64 ss].toArray 25 (0, 0)) := by rw [hw1]; exact heap_alloc_new w _
  have B1 : Hid (Below w.heap.size w w1) := by rw [hw1]; exact (Below.refl _ _).alloc (Nat.le_refl _) _
  have z1 : w.heap.size < w1.heap.size := by rw [hw1]; simp
  have HK : Hid (∀ V, Below w1.heap.size w1 V → V.cell? ⟨w.heap.size, 0, none⟩ = some (.int .i64 key) ∧ V.cell? ⟨w.heap.size, 1, none⟩ = some (.int .i64 nonce) ∧ V.cell? ⟨w.heap.size, 2, none⟩ = some (.string url) ∧ V.cell? ⟨w.heap.size, 3, none⟩ = some (.string body) ∧ V.cell? ⟨w.heap.size, 4, none⟩ = some (.int .i64 sk) ∧ V.cell? ⟨w.heap.size, 5, none⟩ = some (.int .i64 se) ∧ V.cell? ⟨w.heap.size, 6, none⟩ = some (.int .i64 ss)) := fun V hV => by
    have hP := (hV.block _ z1).trans r0
    exact ⟨rowFacts hP 0 _ rfl, rowFacts hP 1 _ rfl, rowFacts hP 2 _ rfl, rowFacts hP 3 _ rfl, rowFacts hP 4 _ rfl, rowFacts hP 5 _ rfl, rowFacts hP 6 _ rfl⟩
  have HB : Hid (∀ V, Below w1.heap.size w1 V → Below w.heap.size w V) := fun V hV => B1.out.trans (hV.mono B1.out.size)
  have HG : Hid (∀ V, Calls Tryz.prog 36 #[.int .i64 key] V fun e w' => e = .returned (.bool (rightG key)) ∧ Below V.heap.size V w') := fun V => implGroupRight key V
  have HT : Hid (∀ V, Calls Tryz.prog 37 #[.int .i64 nonce] V fun e w' => e = .returned (.bool (timeB nonce)) ∧ w' = V) := fun V => implTime nonce V
  have HN : Hid (∀ V, Calls Tryz.prog 38 #[.string url] V fun e w' => e = .returned (.bool (nameB url)) ∧ w' = V) := fun V => implNameB url V hu
  obtain ⟨R, hR⟩ : ∃ R, R = rqB key nonce url body := ⟨_, rfl⟩
  rw [← hR]
  have HR : Hid (R = (rightG key && (timeB nonce && (nameB url && decide (body.size ≤ 2000))))) := hR
  unfold maxLen at hb
  clear r0 z1 B1 hR hu
  obtain ⟨c0, c1, c2, c3, c4, c5, c6⟩ := HK.out w1 (Below.refl _ _)
  generalize rightG key = P1 at *
  generalize timeB nonce = P2 at *
  generalize nameB url = P3 at *
  go_enter Tryz.func14, Tryz.ntmps14
  go_upto_region 1 with fail
  rw [← hw1]
  clear hw1
  cases P1 with
  | false =>
    have HF : Hid (R = false) := by show _ = _; rw [HR.out]; rfl
    go_wp2_with fail
    refine (HG.out w1).mono ?_
    rintro e w2 ⟨rfl, b2⟩
    have B2 : Hid (Below w1.heap.size w1 w2) := b2
    obtain ⟨d0, d1, d2, d3, d4, d5, d6⟩ := HK.out w2 B2.out
    clear b2 c0 c1 c2 c3 c4 c5 c6
    go_wp2
    go_ret
    exact ⟨by rw [HF.out]; first | rfl | simp_all, HB.out _ B2.out⟩
  | true =>
  cases P2 with
  | false =>
    have HF : Hid (R = false) := by show _ = _; rw [HR.out]; rfl
    go_wp2_with fail
    refine (HG.out w1).mono ?_
    rintro e w2 ⟨rfl, b2⟩
    have B2 : Hid (Below w1.heap.size w1 w2) := b2
    obtain ⟨d0, d1, d2, d3, d4, d5, d6⟩ := HK.out w2 B2.out
    clear b2 c0 c1 c2 c3 c4 c5 c6
    go_wp2_with fail
    refine (HT.out w2).mono ?_
    rintro e w3 ⟨rfl, rfl⟩
    go_wp2
    go_ret
    exact ⟨by rw [HF.out]; first | rfl | simp_all, HB.out _ B2.out⟩
  | true =>
  cases P3 with
  | false =>
    have HF : Hid (R = false) := by show _ = _; rw [HR.out]; rfl
    go_wp2_with fail
    refine (HG.out w1).mono ?_
    rintro e w2 ⟨rfl, b2⟩
    have B2 : Hid (Below w1.heap.size w1 w2) := b2
    obtain ⟨d0, d1, d2, d3, d4, d5, d6⟩ := HK.out w2 B2.out
    clear b2 c0 c1 c2 c3 c4 c5 c6
    go_wp2_with fail
    refine (HT.out w2).mono ?_
    rintro e w3 ⟨rfl, rfl⟩
    go_wp2_with fail
    refine (HN.out _).mono ?_
    rintro e w4 ⟨rfl, rfl⟩
    go_wp2
    go_ret
    exact ⟨by rw [HF.out]; first | rfl | simp_all, HB.out _ B2.out⟩
  | true =>
  by_cases h4 : body.size ≤ 2000
  · have HF : Hid (R = true) := by show _ = _; rw [HR.out]; simp [h4]
    have hd : decide ((body.size : Int) ≤ 2000) = true := decide_eq_true (by omega)
    go_wp2_with fail
    refine (HG.out w1).mono ?_
    rintro e w2 ⟨rfl, b2⟩
    have B2 : Hid (Below w1.heap.size w1 w2) := b2
    obtain ⟨d0, d1, d2, d3, d4, d5, d6⟩ := HK.out w2 B2.out
    clear b2 c0 c1 c2 c3 c4 c5 c6
    go_wp2_with fail
    refine (HT.out w2).mono ?_
    rintro e w3 ⟨rfl, rfl⟩
    go_wp2_with fail
    refine (HN.out _).mono ?_
    rintro e w4 ⟨rfl, rfl⟩
    go_wp2
    go_ret
    exact ⟨by rw [HF.out]; first | rfl | simp_all, HB.out _ B2.out⟩
  · have HF : Hid (R = false) := by show _ = _; rw [HR.out]; simp [h4]
    have hd : decide ((body.size : Int) ≤ 2000) = false := decide_eq_false (by omega)
    go_wp2_with fail
    refine (HG.out w1).mono ?_
    rintro e w2 ⟨rfl, b2⟩
    have B2 : Hid (Below w1.heap.size w1 w2) := b2
    obtain ⟨d0, d1, d2, d3, d4, d5, d6⟩ := HK.out w2 B2.out
    clear b2 c0 c1 c2 c3 c4 c5 c6
    go_wp2_with fail
    refine (HT.out w2).mono ?_
    rintro e w3 ⟨rfl, rfl⟩
    go_wp2_with fail
    refine (HN.out _).mono ?_
    rintro e w4 ⟨rfl, rfl⟩
    go_wp2
    go_ret
    exact ⟨by rw [HF.out]; first | rfl | simp_all, HB.out _ B2.out⟩
end Go.Proofs.YtmegmcngcehneaaGreatDoor
