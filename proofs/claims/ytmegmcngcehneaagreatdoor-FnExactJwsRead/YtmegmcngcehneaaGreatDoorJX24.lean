/- FnExactNameRight, walks: 'impl.NameRight' answers true just where the text is a right name; the law. spec.l05Is, walked. spec.GroupRight, walked. spec.l04In, spec.SigRight, walked. spec.l09Right, walked. -/
import Derived.Test.YtmegmcngcehneaaGreatDoorJX02
import Derived.Test.YtmegmcngcehneaaGreatDoorJX01
import Derived.Test.YtmegmcngcehneaaGreatDoorJX13
import Derived.Test.YtmegmcngcehneaaGreatDoorJX04
import Derived.Test.YtmegmcngcehneaaGreatDoorJX03
import Derived.Test.YtmegmcngcehneaaGreatDoorJX18
import Derived.Test.YtmegmcngcehneaaGreatDoorJX19
import Derived.Deep.Cut
namespace Go.Proofs.YtmegmcngcehneaaGreatDoor
open Go.RowKit

theorem isLetter (n : Int) (w : World) : Calls Tryz.prog 60 #[.int .u8 n] w fun e w' => e = .returned (.bool (decide (97 ≤ n) && decide (n ≤ 122))) ∧ w' = w := by
  by_cases h1 : 97 ≤ n
  · by_cases h2 : n ≤ 122
    all_goals
      go_enter Tryz.func60, Tryz.ntmps60
      go_wp2
      go_ret
      exact ⟨by simp [h1, h2], rfl⟩
  · go_enter Tryz.func60, Tryz.ntmps60
    go_wp2
    go_ret
    exact ⟨by simp; omega, rfl⟩
theorem isDigit (n : Int) (w : World) : Calls Tryz.prog 61 #[.int .u8 n] w fun e w' => e = .returned (.bool (decide (48 ≤ n) && decide (n ≤ 57))) ∧ w' = w := by
  by_cases h1 : 48 ≤ n
  · by_cases h2 : n ≤ 57
    all_goals
      go_enter Tryz.func61, Tryz.ntmps61
      go_wp2
      go_ret
      exact ⟨by simp [h1, h2], rfl⟩
  · go_enter Tryz.func61, Tryz.ntmps61
    go_wp2
    go_ret
    exact ⟨by simp; omega, rfl⟩

set_option maxHeartbeats 1000000 in
theorem implName (s : ByteArray) (w : World) (hs : s.size ≤ maxLen) :
    Calls Tryz.prog 38 #[.string s] w fun e w' => AnsB (NameOk s) e ∧ w' = w := by
  unfold maxLen at hs
  by_cases h1 : s.size < 1
  · go_enter Tryz.func38, Tryz.ntmps38
    go_wp2
    go_ret
    exact ⟨AnsB.no (fun h => by have := h.1; omega) rfl, rfl⟩
  by_cases h2 : 40 < s.size
  · go_enter Tryz.func38, Tryz.ntmps38
    go_wp2
    go_ret
    exact ⟨AnsB.no (fun h => by have := h.2.1; omega) rfl, rfl⟩
  have hp : 0 < s.size := by omega
  by_cases h3 : OkAt s 0 hp
  rotate_left
  · rcases cls (s[0].toNat : Int) with ⟨c, e1, e2, e3, e4, e5⟩ | ⟨c, e1, e2, e3, e4, e5⟩ | ⟨c, e1, e2, e3, e4, e5⟩ | ⟨c, e1, e2, e3, e4, e5⟩ | ⟨c, e1, e2, e3, e4, e5⟩ | ⟨c, e1, e2, e3, e4, e5⟩ | ⟨c, e1, e2, e3, e4, e5⟩
    all_goals
      first
        | (exfalso; exact h3 (by unfold OkAt OkN; omega))
        | (go_enter Tryz.func38, Tryz.ntmps38
           go_wp2
           go_ret
           exact ⟨AnsB.no (name_no s 0 hp h3) rfl, rfl⟩)
  have hc : 97 ≤ (s[0].toNat : Int) ∧ (s[0].toNat : Int) ≤ 122 := by unfold OkAt OkN at h3; omega
  obtain ⟨c1, c2⟩ := hc
  have H3 : Hid (OkAt s 0 hp) := h3
  clear h3
  go_enter Tryz.func38, Tryz.ntmps38
  go_wp2
  go_loop [3] (fun i => ∃ k : Nat, 1 ≤ k ∧ k ≤ s.size ∧ i = .int .i64 k ∧ OkTo s k) (fun i => s.size - (intOf i).toNat)
  case atStart => exact ⟨1, by omega, by omega, rfl, okTo_succ s 0 hp (okTo_zero s) H3.out⟩
  case round =>
    obtain ⟨k, hk1, hk, rfl, hok⟩ := hrel
    have HO : Hid (OkTo s k) := hok
    clear hok
    by_cases hlt : k < s.size
    · rcases cls (s[k].toNat : Int) with ⟨c, e1, e2, e3, e4, e5⟩ | ⟨c, e1, e2, e3, e4, e5⟩ | ⟨c, e1, e2, e3, e4, e5⟩ | ⟨c, e1, e2, e3, e4, e5⟩ | ⟨c, e1, e2, e3, e4, e5⟩ | ⟨c, e1, e2, e3, e4, e5⟩ | ⟨c, e1, e2, e3, e4, e5⟩
      all_goals
        go_wp2
        first
          | (go_ret; exact ⟨AnsB.no (name_no s k hlt (by unfold OkAt OkN; omega)) rfl, rfl⟩)
          | exact ⟨⟨k + 1, by omega, by omega, by go_num, okTo_succ s k hlt HO.out (by unfold OkAt OkN; omega)⟩, by simp [intOf]; omega⟩
    · go_wp2
      go_ret
      have e : k = s.size := by omega
      have hf := HO.out
      rw [e] at hf
      exact ⟨AnsB.yes ⟨by omega, by omega, hf⟩ rfl, rfl⟩
end Go.Proofs.YtmegmcngcehneaaGreatDoor
namespace Go.Proofs.YtmegmcngcehneaaGreatDoor
open Go.RowKit Go.Lib

theorem specIs (n l h : Int) (w : World) :
    Calls Tryz.prog 25 #[.int .i64 n, .int .i64 l, .int .i64 h] w fun e w' => e = .returned (.bool (decide (l ≤ n) && decide (n ≤ h))) ∧ w' = w := by
  by_cases h1 : l ≤ n
  · go_enter Tryz.func25, Tryz.ntmps25
    go_wp2
    go_ret
    exact ⟨by simp [h1], rfl⟩
  · go_enter Tryz.func25, Tryz.ntmps25
    go_wp2
    go_ret
    exact ⟨by simp; omega, rfl⟩
end Go.Proofs.YtmegmcngcehneaaGreatDoor
namespace Go.Proofs.YtmegmcngcehneaaGreatDoor
open Go.RowKit

set_option maxHeartbeats 1000000 in
set_option maxRecDepth 100000 in
theorem specGroupRight (y : Int) (w : World) :
    Calls Tryz.prog 24 #[.int .i64 y] w fun e w' => e = .returned (.bool (rightG y)) ∧ w' = w := by
  by_cases h1 : 1 < y
  · by_cases h2 : y < 2147483579
    · obtain ⟨x, rfl⟩ := nat_of (show ¬ y < 0 by omega)
      have HC : Hid (∀ v : World, Calls Tryz.prog 48 #[.int .i64 (x : Int), .int .i64 1073741789, .int .i64 2147483579] v fun e w' => e = .returned (.int .i64 ((pm x 1073741789 2147483579 : Nat) : Int)) ∧ w' = v) := fun v => specPow x 1073741789 2147483579 v (by omega) (by omega) (by omega)
      have hrt := rightG_pos (x := x) (by omega) (by omega)
      have hrf := rightG_neg (x := x)
      generalize pm x 1073741789 2147483579 = z at *
      by_cases hz : z = 1
      · subst hz
        rw [hrt rfl]
        clear hrt hrf
        go_enter Tryz.func24, Tryz.ntmps24
        go_wp2_with fail
        refine (HC.out _).mono ?_
        rintro e w2 ⟨rfl, rfl⟩
        go_wp2
        go_ret
        exact ⟨rfl, rfl⟩
      · rw [hrf hz]
        clear hrt hrf
        have hz' : ((z : Int) == 1) = false := by rw [beq_eq_false_iff_ne]; omega
        go_enter Tryz.func24, Tryz.ntmps24
        go_wp2_with fail
        refine (HC.out _).mono ?_
        rintro e w2 ⟨rfl, rfl⟩
        go_wp2
        go_ret
        exact ⟨rfl, rfl⟩
    · rw [rightG_out (by omega)]
      go_enter Tryz.func24, Tryz.ntmps24
      go_wp2
      go_ret
      exact ⟨rfl, rfl⟩
  · rw [rightG_out (by omega)]
    go_enter Tryz.func24, Tryz.ntmps24
    go_wp2
    go_ret
    exact ⟨rfl, rfl⟩
end Go.Proofs.YtmegmcngcehneaaGreatDoor
namespace Go.Proofs.YtmegmcngcehneaaGreatDoor
open Go.RowKit

theorem specRem (n : Int) (w : World) :
    Calls Tryz.prog 49 #[.int .i64 n] w fun e w' => e = .returned (.bool (remB n)) ∧ w' = w := by
  by_cases h1 : 0 ≤ n
  · by_cases h2 : n < 1073741789
    · have e : remB n = true := decide_eq_true ⟨h1, h2⟩
      rw [e]
      go_enter Tryz.func49, Tryz.ntmps49
      go_wp2
      go_ret
      exact ⟨rfl, rfl⟩
    · have e : remB n = false := decide_eq_false (by omega)
      rw [e]
      go_enter Tryz.func49, Tryz.ntmps49
      go_wp2
      go_ret
      exact ⟨rfl, rfl⟩
  · have e : remB n = false := decide_eq_false (by omega)
    rw [e]
    go_enter Tryz.func49, Tryz.ntmps49
    go_wp2
    go_ret
    exact ⟨rfl, rfl⟩
set_option maxHeartbeats 1000000 in
set_option maxRecDepth 100000 in
theorem specSigRight (k e s : Int) (w : World) :
    Calls Tryz.prog 27 #[.agg #[.int .i64 k, .int .i64 e, .int .i64 s]] w fun r w' => r = .returned (.bool (sigRB k e s)) ∧ Below w.heap.size w w' := by
  go_enter Tryz.func27, Tryz.ntmps27
  go_wp2_with fail
  refine (specGroupRight k _).mono ?_
  rintro e1 w1 ⟨rfl, rfl⟩
  by_cases h1 : rightG k = true
  · rw [h1]
    go_wp2_with fail
    refine (specRem e _).mono ?_
    rintro e2 w2 ⟨rfl, rfl⟩
    by_cases h2 : remB e = true
    · rw [h2]
      go_wp2_with fail
      refine (specRem s _).mono ?_
      rintro e3 w3 ⟨rfl, rfl⟩
      generalize hb3 : remB s = b
      go_wp2
      go_ret
      exact ⟨by simp [sigRB, *], allocBelow _ _⟩
    · rw [Bool.not_eq_true] at h2
      rw [h2]
      go_wp2
      go_ret
      exact ⟨by simp [sigRB, *], allocBelow _ _⟩
  · rw [Bool.not_eq_true] at h1
    rw [h1]
    go_wp2
    go_ret
    exact ⟨by simp [sigRB, *], allocBelow _ _⟩
end Go.Proofs.YtmegmcngcehneaaGreatDoor
namespace Go.Proofs.YtmegmcngcehneaaGreatDoor
open Go.RowKit Go.Lib

theorem specNameJ (s : ByteArray) (w : World) (hs : s.size ≤ maxLen) :
    Calls Tryz.prog 26 #[.string s] w fun e w' => e = .returned (.bool (nameB s)) ∧ w' = w :=
  (specName s w hs).mono fun _ _ h => ⟨ans_name h.1, h.2⟩
set_option linter.unusedSimpArgs false in
set_option maxHeartbeats 4000000 in
set_option maxRecDepth 100000 in
theorem specRight (key nonce : Int) (url body : ByteArray) (se ss : Int) (w : World) (hu : url.size ≤ maxLen) (hb : body.size ≤ maxLen) :
    Calls Tryz.prog 8 #[jV key nonce url body key se ss] w fun r w' => r = .returned (.bool (rqB key nonce url body && sigRB key se ss)) ∧ Below w.heap.size w w' := by
  unfold jV
  obtain ⟨w1, hw1⟩ : ∃ w1, w1 = w.alloc (.cells #[.int .i64 key, .int .i64 nonce, .string url, .string body, .int .i64 key, .int .i64 se, .int .i64 ss] 25 (0, 0)) := ⟨_, rfl⟩
  have r0 : w1.heap[w.heap.size]? = some (.cells [Value.int .i64 key, .int .i64 nonce, .string url, .string body, .int .i64 key, .int .i64 se, .int .i64 ss].toArray 25 (0, 0)) := by rw [hw1]; exact heap_alloc_new w _
  have B1 : Hid (Below w.heap.size w w1) := by rw [hw1]; exact (Below.refl _ _).alloc (Nat.le_refl _) _
  have z1 : w.heap.size < w1.heap.size := by rw [hw1]; simp
  have HK : Hid (∀ V, Below w1.heap.size w1 V → V.cell? ⟨w.heap.size, 0, none⟩ = some (.int .i64 key) ∧ V.cell? ⟨w.heap.size, 1, none⟩ = some (.int .i64 nonce) ∧ V.cell? ⟨w.heap.size, 2, none⟩ = some (.string url) ∧ V.cell? ⟨w.heap.size, 3, none⟩ = some (.string body) ∧ V.cell? ⟨w.heap.size, 4, none⟩ = some (.int .i64 key) ∧ V.cell? ⟨w.heap.size, 5, none⟩ = some (.int .i64 se) ∧ V.cell? ⟨w.heap.size, 6, none⟩ = some (.int .i64 ss)) := fun V hV => by
    have hP := (hV.block _ z1).trans r0
    exact ⟨rowFacts hP 0 _ rfl, rowFacts hP 1 _ rfl, rowFacts hP 2 _ rfl, rowFacts hP 3 _ rfl, rowFacts hP 4 _ rfl, rowFacts hP 5 _ rfl, rowFacts hP 6 _ rfl⟩
  have HB : Hid (∀ V, Below w1.heap.size w1 V → Below w.heap.size w V) := fun V hV => B1.out.trans (hV.mono B1.out.size)
  have HG : Hid (∀ V, Calls Tryz.prog 24 #[.int .i64 key] V fun e w' => e = .returned (.bool (rightG key)) ∧ w' = V) := fun V => specGroupRight key V
  have HT : Hid (∀ V, Calls Tryz.prog 25 #[.int .i64 nonce, .int .i64 0, .int .i64 1000000000] V fun e w' => e = .returned (.bool (timeB nonce)) ∧ w' = V) := fun V => specIs nonce 0 1000000000 V
  have HN : Hid (∀ V, Calls Tryz.prog 26 #[.string url] V fun e w' => e = .returned (.bool (nameB url)) ∧ w' = V) := fun V => specNameJ url V hu
  have HS : Hid (∀ V, Calls Tryz.prog 27 #[.agg #[.int .i64 key, .int .i64 se, .int .i64 ss]] V fun e w' => e = .returned (.bool (sigRB key se ss)) ∧ Below V.heap.size V w') := fun V => specSigRight key se ss V
  obtain ⟨R, hR⟩ : ∃ R, R = (rqB key nonce url body && sigRB key se ss) := ⟨_, rfl⟩
  rw [← hR]
  have HR : Hid (R = ((rightG key && (timeB nonce && (nameB url && decide (body.size ≤ 2000)))) && sigRB key se ss)) := hR
  unfold maxLen at hb
  clear r0 z1 B1 hR hu
  obtain ⟨c0, c1, c2, c3, c4, c5, c6⟩ := HK.out w1 (Below.refl _ _)
  generalize rightG key = P1 at *
  generalize timeB nonce = P2 at *
  generalize nameB url = P3 at *
  generalize sigRB key se ss = P4 at *
  go_enter Tryz.func8, Tryz.ntmps8
  go_upto_region 1 with fail
  rw [← hw1]
  clear hw1
  cases P1 with
  | false =>
    have HF : Hid (R = false) := by show _ = _; rw [HR.out]; rfl
    go_wp2_with fail
    refine (HG.out _).mono ?_
    rintro e w2 ⟨rfl, rfl⟩
    go_wp2
    go_ret
    exact ⟨by rw [HF.out]; first | rfl | simp_all, HB.out _ (Below.refl _ _)⟩
  | true =>
  cases P2 with
  | false =>
    have HF : Hid (R = false) := by show _ = _; rw [HR.out]; rfl
    go_wp2_with fail
    refine (HG.out _).mono ?_
    rintro e w2 ⟨rfl, rfl⟩
    go_wp2_with fail
    refine (HT.out _).mono ?_
    rintro e w2 ⟨rfl, rfl⟩
    go_wp2
    go_ret
    exact ⟨by rw [HF.out]; first | rfl | simp_all, HB.out _ (Below.refl _ _)⟩
  | true =>
  cases P3 with
  | false =>
    have HF : Hid (R = false) := by show _ = _; rw [HR.out]; rfl
    go_wp2_with fail
    refine (HG.out _).mono ?_
    rintro e w2 ⟨rfl, rfl⟩
    go_wp2_with fail
    refine (HT.out _).mono ?_
    rintro e w2 ⟨rfl, rfl⟩
    go_wp2_with fail
    refine (HN.out _).mono ?_
    rintro e w2 ⟨rfl, rfl⟩
    go_wp2
    go_ret
    exact ⟨by rw [HF.out]; first | rfl | simp_all, HB.out _ (Below.refl _ _)⟩
  | true =>
  by_cases h4 : body.size ≤ 2000
  · have HF : Hid (R = P4) := by show _ = _; rw [HR.out]; simp [h4]
    have hd : decide ((body.size : Int) ≤ 2000) = true := decide_eq_true (by omega)
    go_wp2_with fail
    refine (HG.out _).mono ?_
    rintro e w2 ⟨rfl, rfl⟩
    go_wp2_with fail
    refine (HT.out _).mono ?_
    rintro e w2 ⟨rfl, rfl⟩
    go_wp2_with fail
    refine (HN.out _).mono ?_
    rintro e w2 ⟨rfl, rfl⟩
    cases P4 with
    | false =>
      go_wp2_with fail
      refine (HS.out _).mono ?_
      rintro e w3 ⟨rfl, b3⟩
      have B3 : Hid (Below w.heap.size w w3) := HB.out _ b3
      clear b3
      go_wp2
      go_ret
      exact ⟨by rw [HF.out]; first | rfl | simp_all, B3.out⟩
    | true =>
      go_wp2_with fail
      refine (HS.out _).mono ?_
      rintro e w3 ⟨rfl, b3⟩
      obtain ⟨d0, d1, d2, d3, d4, d5, d6⟩ := HK.out _ b3
      have B3 : Hid (Below w.heap.size w w3) := HB.out _ b3
      have hkk : (key == key) = true := beq_self_eq_true key
      clear b3 c0 c1 c2 c3 c4 c5 c6
      go_wp2
      go_ret
      exact ⟨by rw [HF.out]; first | rfl | simp_all, B3.out⟩
  · have HF : Hid (R = false) := by show _ = _; rw [HR.out]; simp [h4]
    have hd : decide ((body.size : Int) ≤ 2000) = false := decide_eq_false (by omega)
    go_wp2_with fail
    refine (HG.out _).mono ?_
    rintro e w2 ⟨rfl, rfl⟩
    go_wp2_with fail
    refine (HT.out _).mono ?_
    rintro e w2 ⟨rfl, rfl⟩
    go_wp2_with fail
    refine (HN.out _).mono ?_
    rintro e w2 ⟨rfl, rfl⟩
    go_wp2
    go_ret
    exact ⟨by rw [HF.out]; first | rfl | simp_all, HB.out _ (Below.refl _ _)⟩
end Go.Proofs.YtmegmcngcehneaaGreatDoor
