/- FnSign, its tied card: what a drawn secret has signed passes with its key; with another key it passes just where the challenge comes out so. The listed table is tied to the program's text; no other condition. -/
import Derived.Test.YthhmobjphloahaaDoorSn07
import Derived.Test.YthhmobjphloahaaDoorSn08
import Derived.Test.YthhmobjphloahaaDoorSn09
import Derived.Test.YthhmobjphloahaaDoorSn04
import Derived.Test.YthhmobjphloahaaDoorCards
import Derived.Test.YthhmobjphloahaaDoorTie
import Derived.ShutString
import Derived.ChangeOld
import Derived.SevenTiedAt
import Derived.Deep.RegionHeld3
namespace Go.Proofs.YthhmobjphloahaaDoor
open Go.RowKit

theorem sig0 (t : ByteArray) : sigCB 0 0 0 t = false := sigCB_wrong (by unfold sigRB; rw [rightG_out (by omega)]; rfl)
/-- What a Sig that was signed is: the zero one of no secret, else one that passes. -/
theorem sign_some (x : Int) (t : ByteArray) (ht : t.size ≤ 20000) : ∃ k e s : Int, signV x t = .agg #[.int .i64 k, .int .i64 e, .int .i64 s] ∧
    ((secB x = false ∧ k = 0 ∧ e = 0 ∧ s = 0) ∨ (secB x = true ∧ sigRB k e s = true ∧ pubA x = k ∧ rightG k = true ∧ sigCB k e s t = true)) := by
  by_cases h : secB x = true
  · obtain ⟨n, rfl, n1, n2⟩ := secB_nat h
    have hp := sign_passes n1 n2 ht
    exact ⟨_, _, _, signV_nat ht h, .inr ⟨h, hp.1, pubA_nat n h, pub_right n1 n2, hp.2⟩⟩
  · rw [Bool.not_eq_true] at h
    exact ⟨0, 0, 0, signV_no (by rw [h]; simp), .inl ⟨h, rfl, rfl, rfl⟩⟩
set_option maxHeartbeats 4000000 in
set_option maxRecDepth 100000 in
theorem signTop (w : World) (a0 : Option Addr) (len0 cap0 : Nat) (z0 : List Int) (w0 : IsRow .u8 w a0 len0 cap0 z0) (a1 : Option Addr) (len1 cap1 : Nat) (z1 : List Int) (w1' : IsRow .u8 w a1 len1 cap1 z1) (hk : Keys w) :
    Calls Tryd.prog 5 #[.slice a0 len0 cap0, .slice a1 len1 cap1] w fun e w' => e = .returned (.bool true) ∧ Below w.heap.size w w' := by
  have HK : Hid (Keys w) := hk
  have hkp := hk.pos
  clear hk
  have hl0 := w0.len_le
  have hl1 := w1'.len_le
  unfold maxLen at hl0 hl1
  obtain ⟨hc0, hk0⟩ := w0.code
  obtain ⟨hc1, hk1⟩ := w1'.code
  clear w0 w1'
  by_cases h0 : 1048576 < len0
  · clear hc0 hk0 hc1 hk1
    go_enter Tryd.func5, Tryd.ntmps5
    go_wp2
    go_ret
    exact ⟨rfl, Below.refl _ _⟩
  by_cases h1 : 1048576 < len1
  · clear hc0 hk0 hc1 hk1
    go_enter Tryd.func5, Tryd.ntmps5
    go_wp2
    go_ret
    exact ⟨rfl, Below.refl _ _⟩
  have C0 : Hid (CodeAt a0 len0 w) := hc0
  have K0 : Hid (∀ x, 0 < len0 → a0 = some x → x.block < w.heap.size) := hk0
  have C1 : Hid (CodeAt a1 len1 w) := hc1
  have K1 : Hid (∀ x, 0 < len1 → a1 = some x → x.block < w.heap.size) := hk1
  clear hc0 hk0 hc1 hk1
  go_enter Tryd.func5, Tryd.ntmps5
  go_wp2_with fail
  refine (drawSignText a0 len0 cap0 _ (by omega) C0.out K0.out).mono ?_
  rintro r w1 ⟨⟨x, t, ⟨hx, ht⟩, rfl⟩, hb1⟩
  have B1 : Hid (Below w.heap.size w w1) := hb1
  have s1 := hb1.size
  have K1' : Hid (Keys w1) := HK.out.below hb1 hkp
  clear hb1
  have htm : t.size ≤ maxLen := by unfold maxLen; omega
  obtain ⟨k, e, s, hv, hcase⟩ := sign_some x t (by omega)
  have HS : Hid (∀ v : World, Calls Tryd.prog 26 #[.int .i64 x, .string t] v fun r w' => r = .returned (.agg #[.int .i64 k, .int .i64 e, .int .i64 s]) ∧ Below v.heap.size v w') := fun v => by rw [← hv]; exact specSign x t v htm
  have HI : Hid (∀ v : World, Keys v → Calls Tryd.prog 25 #[.int .i64 x, .string t] v fun r w' => r = .returned (.agg #[.int .i64 k, .int .i64 e, .int .i64 s]) ∧ Below v.heap.size v w') := fun v h => by rw [← hv]; exact implSign x t v htm h
  have HCase : Hid ((secB x = false ∧ k = 0 ∧ e = 0 ∧ s = 0) ∨ (secB x = true ∧ sigRB k e s = true ∧ pubA x = k ∧ rightG k = true ∧ sigCB k e s t = true)) := hcase
  clear hv hcase
  go_wp2_with fail
  refine (HI.out _ K1'.out).mono ?_
  rintro r w2 ⟨rfl, hb2⟩
  have B2 : Hid (Below w.heap.size w w2) := B1.out.trans (hb2.mono s1)
  have s2 := B2.out.size
  clear hb2
  go_wp2_with fail
  obtain ⟨w3, hw3⟩ : ∃ w3, w2.alloc (.cells #[.int .i64 k, .int .i64 e, .int .i64 s] 45 (0, 0)) = w3 := ⟨_, rfl⟩
  have hg3 : w3.heap[w2.heap.size]? = some (.cells [Value.int .i64 k, .int .i64 e, .int .i64 s].toArray 45 (0, 0)) := by rw [← hw3]; exact heap_alloc_new w2 _
  have hb3 : Below w.heap.size w w3 := by rw [← hw3]; exact B2.out.alloc s2 _
  have hz3 : w3.heap.size = w2.heap.size + 1 := by rw [← hw3]; simp
  rw [hw3]
  have HKEEP : Hid (∀ W, Below w3.heap.size w3 W → W.heap[w2.heap.size]? = some (.cells [Value.int .i64 k, .int .i64 e, .int .i64 s].toArray 45 (0, 0)) ∧ W.cell? ⟨w2.heap.size, 0, none⟩ = some (.int .i64 k) ∧ W.cell? ⟨w2.heap.size, 1, none⟩ = some (.int .i64 e) ∧ W.cell? ⟨w2.heap.size, 2, none⟩ = some (.int .i64 s)) := fun W hW => by
    have hP : W.heap[w2.heap.size]? = some (.cells [Value.int .i64 k, .int .i64 e, .int .i64 s].toArray 45 (0, 0)) := by rw [hW.block _ (by omega)]; exact hg3
    exact ⟨hP, rowFacts hP 0 _ rfl, rowFacts hP 1 _ rfl, rowFacts hP 2 _ rfl⟩
  have B3 : Hid (Below w.heap.size w w3) := hb3
  have HZ3 : Hid (w3.heap.size = w2.heap.size + 1) := hz3
  obtain ⟨_, p0, p1, p2⟩ := HKEEP.out w3 (Below.refl _ _)
  have HT : Hid (Calls Tryd.prog 26 #[.int .i64 x, .string t] w3.drew fun r W => r = .returned (.agg #[.int .i64 k, .int .i64 e, .int .i64 s]) ∧ Hid (Below w3.heap.size w3 W) ∧ W.cell? ⟨w2.heap.size, 0, none⟩ = some (.int .i64 k) ∧ W.cell? ⟨w2.heap.size, 1, none⟩ = some (.int .i64 e) ∧ W.cell? ⟨w2.heap.size, 2, none⟩ = some (.int .i64 s)) := by
    show Calls _ _ _ _ _
    refine (HS.out w3.drew).mono ?_
    rintro r W ⟨rfl, hb⟩
    have hbW : Below w3.heap.size w3 W := (Below.refl _ w3).drew.trans hb
    exact ⟨rfl, hbW, (HKEEP.out W hbW).2⟩
  clear hw3 hg3 hb3 hz3 HS HI
  go_region_held3 (fun V => V.cell? ⟨w2.heap.size, 0, none⟩ = some (.int .i64 k) ∧ V.cell? ⟨w2.heap.size, 1, none⟩ = some (.int .i64 e) ∧ V.cell? ⟨w2.heap.size, 2, none⟩ = some (.int .i64 s)) (first | exact ⟨q0, q1, q2⟩ | go_keep)
    (first | (go_at_call 26; refine HT.out.mono ?_; rintro r W4 ⟨rfl, kk4, q0, q1, q2⟩))
  have hb4 := kk4.out
  have B4 : Hid (Below w.heap.size w W4) := B3.out.trans (hb4.mono B3.out.size)
  have s4 := B4.out.size
  have KK4 : Hid (Below w3.heap.size w3 W4) := hb4
  clear HT hb4 kk4 p0 p1 p2
  go_wp2_with fail
  refine (specSecret x _).mono ?_
  rintro r w4' ⟨rfl, rfl⟩
  rcases HCase.out with ⟨hsec, rfl, rfl, rfl⟩ | ⟨hsec, hc1, hc2, hc3, hc4⟩
  · rw [hsec]
    have K4 : Hid (Keys w4') := HK.out.below B4.out hkp
    go_wp2_with fail
    refine (implSigCheck 0 0 0 t _ htm K4.out).mono ?_
    rintro r w5 ⟨rfl, hb5⟩
    rw [sig0]
    have B5 : Hid (Below w.heap.size w w5) := B4.out.trans (hb5.mono s4)
    clear hb5
    go_wp2
    go_ret
    exact ⟨rfl, B5.out⟩
  · rw [hsec]
    have C4 : Hid (CodeAt a1 len1 w4') := C1.out.below B4.out K1.out
    have K4 : Hid (∀ x, 0 < len1 → a1 = some x → x.block < w4'.heap.size) := fun x h0 hx => by have := K1.out x h0 hx; omega
    go_wp2_with fail
    refine (drawGroupRight a1 len1 cap1 _ (by omega) C4.out K4.out).mono ?_
    rintro r w5 ⟨⟨y, hy, rfl⟩, hb5⟩
    have B5 : Hid (Below w.heap.size w w5) := B4.out.trans (hb5.mono s4)
    have KK5 : Hid (Below w3.heap.size w3 w5) := KK4.out.trans (hb5.mono KK4.out.size)
    have s5 := B5.out.size
    obtain ⟨hP5, u0, u1, u2⟩ := HKEEP.out _ KK5.out
    have hl5 : w2.heap.size < w5.heap.size := heap_lt hP5
    have HP5 : Hid _ := hP5
    clear hb5 q0 q1 q2 hP5 C4 K4 KK4 B4
    go_wp2_with fail
    obtain ⟨w6, hw6⟩ : ∃ w6, w5.alloc (.cells #[.int .i64 y, .int .i64 e, .int .i64 s] 45 (0, 0)) = w6 := ⟨_, rfl⟩
    have hg6 : w6.heap[w5.heap.size]? = some (.cells [Value.int .i64 y, .int .i64 e, .int .i64 s].toArray 45 (0, 0)) := by rw [← hw6]; exact heap_alloc_new w5 _
    have hh6 : w6.heap[w2.heap.size]? = some (.cells [Value.int .i64 k, .int .i64 e, .int .i64 s].toArray 45 (0, 0)) := by rw [← hw6, Below.heap_alloc _ _ _ hl5]; exact HP5.out
    have hb6 : Below w.heap.size w w6 := by rw [← hw6]; exact B5.out.alloc s5 _
    have hz6 : w6.heap.size = w5.heap.size + 1 := by rw [← hw6]; simp
    rw [hw6]
    have B6 : Hid (Below w.heap.size w w6) := hb6
    have HK6 : Hid (∀ V, Below w6.heap.size w6 V → Keys V) := fun V hV => HK.out.below (hb6.trans (hV.mono hb6.size)) hkp
    have HSIX : Hid (∀ W, Below w6.heap.size w6 W → W.cell? ⟨w2.heap.size, 0, none⟩ = some (.int .i64 k) ∧ W.cell? ⟨w2.heap.size, 1, none⟩ = some (.int .i64 e) ∧ W.cell? ⟨w2.heap.size, 2, none⟩ = some (.int .i64 s) ∧ W.cell? ⟨w5.heap.size, 0, none⟩ = some (.int .i64 y) ∧ W.cell? ⟨w5.heap.size, 1, none⟩ = some (.int .i64 e) ∧ W.cell? ⟨w5.heap.size, 2, none⟩ = some (.int .i64 s)) := fun W hW => by
      have hP : W.heap[w2.heap.size]? = some (.cells [Value.int .i64 k, .int .i64 e, .int .i64 s].toArray 45 (0, 0)) := by rw [hW.block _ (by omega)]; exact hh6
      have hR : W.heap[w5.heap.size]? = some (.cells [Value.int .i64 y, .int .i64 e, .int .i64 s].toArray 45 (0, 0)) := by rw [hW.block _ (by omega)]; exact hg6
      exact ⟨rowFacts hP 0 _ rfl, rowFacts hP 1 _ rfl, rowFacts hP 2 _ rfl, rowFacts hR 0 _ rfl, rowFacts hR 1 _ rfl, rowFacts hR 2 _ rfl⟩
    have T1 : Hid (∀ V (a b c : Int), Hid (Below w6.heap.size w6 V) → Calls Tryd.prog 30 #[.agg #[.int .i64 a, .int .i64 b, .int .i64 c]] V fun r W => r = .returned (.bool (sigRB a b c)) ∧ Hid (Below w6.heap.size w6 W) ∧ (W.cell? ⟨w2.heap.size, 0, none⟩ = some (.int .i64 k) ∧ W.cell? ⟨w2.heap.size, 1, none⟩ = some (.int .i64 e) ∧ W.cell? ⟨w2.heap.size, 2, none⟩ = some (.int .i64 s) ∧ W.cell? ⟨w5.heap.size, 0, none⟩ = some (.int .i64 y) ∧ W.cell? ⟨w5.heap.size, 1, none⟩ = some (.int .i64 e) ∧ W.cell? ⟨w5.heap.size, 2, none⟩ = some (.int .i64 s))) := fun V a b c hV => by
      refine (implSigRight a b c V).mono ?_
      rintro r W ⟨rfl, hb⟩
      have hbW : Below w6.heap.size w6 W := hV.out.trans (hb.mono hV.out.size)
      exact ⟨rfl, hbW, HSIX.out W hbW⟩
    have T2 : Hid (∀ V (a : Int), Hid (Below w6.heap.size w6 V) → Calls Tryd.prog 31 #[.int .i64 a] V fun r W => r = .returned (.int .i64 (pubA a)) ∧ Hid (Below w6.heap.size w6 W) ∧ (W.cell? ⟨w2.heap.size, 0, none⟩ = some (.int .i64 k) ∧ W.cell? ⟨w2.heap.size, 1, none⟩ = some (.int .i64 e) ∧ W.cell? ⟨w2.heap.size, 2, none⟩ = some (.int .i64 s) ∧ W.cell? ⟨w5.heap.size, 0, none⟩ = some (.int .i64 y) ∧ W.cell? ⟨w5.heap.size, 1, none⟩ = some (.int .i64 e) ∧ W.cell? ⟨w5.heap.size, 2, none⟩ = some (.int .i64 s))) := fun V a hV => by
      refine (implPublic a V).mono ?_
      rintro r W ⟨rfl, hb⟩
      have hbW : Below w6.heap.size w6 W := hV.out.trans (hb.mono hV.out.size)
      exact ⟨rfl, hbW, HSIX.out W hbW⟩
    have T3 : Hid (∀ V (a : Int), Hid (Below w6.heap.size w6 V) → Calls Tryd.prog 32 #[.int .i64 a] V fun r W => r = .returned (.bool (rightG a)) ∧ Hid (Below w6.heap.size w6 W) ∧ (W.cell? ⟨w2.heap.size, 0, none⟩ = some (.int .i64 k) ∧ W.cell? ⟨w2.heap.size, 1, none⟩ = some (.int .i64 e) ∧ W.cell? ⟨w2.heap.size, 2, none⟩ = some (.int .i64 s) ∧ W.cell? ⟨w5.heap.size, 0, none⟩ = some (.int .i64 y) ∧ W.cell? ⟨w5.heap.size, 1, none⟩ = some (.int .i64 e) ∧ W.cell? ⟨w5.heap.size, 2, none⟩ = some (.int .i64 s))) := fun V a hV => by
      refine (implGroupRight a V).mono ?_
      rintro r W ⟨rfl, hb⟩
      have hbW : Below w6.heap.size w6 W := hV.out.trans (hb.mono hV.out.size)
      exact ⟨rfl, hbW, HSIX.out W hbW⟩
    have T4 : Hid (∀ V (a b c : Int), Hid (Below w6.heap.size w6 V) → Calls Tryd.prog 28 #[.agg #[.int .i64 a, .int .i64 b, .int .i64 c], .string t] V fun r W => r = .returned (.bool (sigCB a b c t)) ∧ Hid (Below w6.heap.size w6 W) ∧ (W.cell? ⟨w2.heap.size, 0, none⟩ = some (.int .i64 k) ∧ W.cell? ⟨w2.heap.size, 1, none⟩ = some (.int .i64 e) ∧ W.cell? ⟨w2.heap.size, 2, none⟩ = some (.int .i64 s) ∧ W.cell? ⟨w5.heap.size, 0, none⟩ = some (.int .i64 y) ∧ W.cell? ⟨w5.heap.size, 1, none⟩ = some (.int .i64 e) ∧ W.cell? ⟨w5.heap.size, 2, none⟩ = some (.int .i64 s))) := fun V a b c hV => by
      refine (implSigCheck a b c t V htm (HK6.out V hV.out)).mono ?_
      rintro r W ⟨rfl, hb⟩
      have hbW : Below w6.heap.size w6 W := hV.out.trans (hb.mono hV.out.size)
      exact ⟨rfl, hbW, HSIX.out W hbW⟩
    have T5 : Hid (∀ V (a b c : Int), Hid (Below w6.heap.size w6 V) → Calls Tryd.prog 33 #[.agg #[.int .i64 a, .int .i64 b, .int .i64 c], .string t] V fun r W => r = .returned (.bool (sigCB a b c t)) ∧ Hid (Below w6.heap.size w6 W) ∧ (W.cell? ⟨w2.heap.size, 0, none⟩ = some (.int .i64 k) ∧ W.cell? ⟨w2.heap.size, 1, none⟩ = some (.int .i64 e) ∧ W.cell? ⟨w2.heap.size, 2, none⟩ = some (.int .i64 s) ∧ W.cell? ⟨w5.heap.size, 0, none⟩ = some (.int .i64 y) ∧ W.cell? ⟨w5.heap.size, 1, none⟩ = some (.int .i64 e) ∧ W.cell? ⟨w5.heap.size, 2, none⟩ = some (.int .i64 s))) := fun V a b c hV => by
      refine (specSigCheck a b c t V htm).mono ?_
      rintro r W ⟨rfl, hb⟩
      have hbW : Below w6.heap.size w6 W := hV.out.trans (hb.mono hV.out.size)
      exact ⟨rfl, hbW, HSIX.out W hbW⟩
    have HD6 : Hid (Below w6.heap.size w6 w6.drew) := (Below.refl _ w6).drew
    obtain ⟨p0, p1, p2, o0, o1, o2⟩ := HSIX.out w6 (Below.refl _ _)
    clear hw6 hg6 hh6 hb6 hz6 u0 u1 u2 HP5 hl5 HSIX HK6 HKEEP KK5 HK C0 K0 C1 K1 B1 B2 B3 B5 K1' HZ3
    go_region_held3 (fun V => V.cell? ⟨w2.heap.size, 0, none⟩ = some (.int .i64 k) ∧ V.cell? ⟨w2.heap.size, 1, none⟩ = some (.int .i64 e) ∧ V.cell? ⟨w2.heap.size, 2, none⟩ = some (.int .i64 s) ∧ V.cell? ⟨w5.heap.size, 0, none⟩ = some (.int .i64 y) ∧ V.cell? ⟨w5.heap.size, 1, none⟩ = some (.int .i64 e) ∧ V.cell? ⟨w5.heap.size, 2, none⟩ = some (.int .i64 s)) (first | (refine ⟨?_, ?_, ?_, ?_, ?_, ?_⟩ <;> assumption) | go_keep)
      (first | (go_at_call 30; refine (T1.out _ _ _ _ (by assumption)).mono ?_; rintro r V1 ⟨rfl, kkV1, x0V1, x1V1, x2V1, x3V1, x4V1, x5V1⟩) | (go_at_call 31; refine (T2.out _ _ (by assumption)).mono ?_; rintro r V2 ⟨rfl, kkV2, x0V2, x1V2, x2V2, x3V2, x4V2, x5V2⟩) | (go_at_call 32; refine (T3.out _ _ (by assumption)).mono ?_; rintro r V3 ⟨rfl, kkV3, x0V3, x1V3, x2V3, x3V3, x4V3, x5V3⟩) | (go_at_call 28; refine (T4.out _ _ _ _ (by assumption)).mono ?_; rintro r V4 ⟨rfl, kkV4, x0V4, x1V4, x2V4, x3V4, x4V4, x5V4⟩) | (go_at_call 33; refine (T5.out _ _ _ _ (by assumption)).mono ?_; rintro r V5 ⟨rfl, kkV5, x0V5, x1V5, x2V5, x3V5, x4V5, x5V5⟩))
    have BV : Hid (Below w.heap.size w V5) := B6.out.trans (kkV5.out.mono B6.out.size)
    clear T1 T2 T3 T4 T5
    go_wp2
    go_ret
    exact ⟨rfl, BV.out⟩
namespace fnSignDone
open Go.ChangeShapes Go.WideShapes Go.ChangeAt Go.RowKit
open Go.ChangeMaps (open_string shut_string)
theorem own : ownKnob Tryd.prog.godebug = none := by kernel_rfl
theorem laidOut : laidOutB Tryd.prog = true := by kernel_rfl
set_option linter.unusedVariables false
theorem laid_met (os : Os) (args : Array Value) : laidMetH Tryd.prog Rows.fnSignRow.laid ((World.doorLaid Tryd.prog 400 os).forCall (fun _ _ => 0) ⟨#[], args, []⟩).memory :=
  laidMetH_of_parts3 (fuel := 8) (laidMet_of_run' 8 (by kernel_rfl) (by kernel_rfl)) (by kernel_rfl) (by kernel_rfl)
set_option maxRecDepth 100000 in
theorem lifted (os : Os) (started : os.Started) (H : Type) (enc : TypeId × Value → H) :
    ReturnsInHanded {} Tryd.checked os 5 .any (fun w args => (Rows.fnSignSpec.pre enc Tryd.prog Tryd.f5 [] false w args ∧ laidMetH Tryd.prog Rows.fnSignRow.laid w) ∧ sizedMet enc Tryd.prog Tryd.f5 (OpenSpec.ofChange Rows.fnSignSpec) false w args)
      (Rows.fnSignSpec.post enc Tryd.prog Tryd.f5 false true false false) := by
  refine returnsInHanded_of_change_and (C := Tryd.checked) (X := fun w _ => laidMetH Tryd.prog Rows.fnSignRow.laid w) (fun _ _ _ hh h => h.of_heap hh) own started (by kernel_rfl) Tryd.func5
    (ChangeSpec.witness_shaped (enc := enc) (C := Tryd.checked) (os := os) (X := fun w _ => laidMetH Tryd.prog Rows.fnSignRow.laid w) false (World.doorLaid Tryd.prog 400 os) #[.slice none 0 0, .slice none 0 0] 8 rfl (World.shaped_of_RefB (by kernel_rfl) (by kernel_rfl)) (by kernel_rfl) (by kernel_rfl) (by kernel_rfl) (laid_met os _)) ?_
  intro W base args ds gs before hval0 hW _ _ hL _
  have hval : ∀ (j : Nat) t v, Tryd.f5.params[j]? = some t → args[j]? = some v → Value.okWide Tryd.prog W .any base t v := hval0
  have hW' := hW
  obtain ⟨p, q, hA0, hV, rfl, hfz, hnd⟩ := hW
  have hV0 := hV
  obtain ⟨_, _, _, _, dv, _, rfl, _⟩ := trodVars_one hV
  have hA : DataW.TrodAll enc Tryd.prog W 0 (fun _ => true) true Tryd.f5.params.toList args.toList ds p := hA0
  rw [Tryd.params5] at hA hval
  obtain ⟨v0, vs0, d0, ds0, p0, q0, hargs, rfl, rfl, h0, r0⟩ := trodAll_cons hA
  obtain ⟨v1, vs1, d1, ds1, p1, q1, rfl, rfl, rfl, h1, r1⟩ := trodAll_cons r0
  obtain ⟨rfl, rfl, rfl⟩ := trodAll_nil r1
  obtain rfl : args = #[v0, v1] := by cases args; simp_all
  obtain ⟨a0, len0, cap0, rfl⟩ := okWide_slice Tryd.underlying22 (hval 0 22 v0 rfl rfl)
  have k0 := h0
  have lt0 : ∀ x ∈ p0, x.block < W.heap.size := by obtain ⟨m, hm⟩ := k0; exact DataW.trod_lt m _ _ _ hm
  obtain ⟨z0, w0⟩ : ∃ zs, IsRow .u8 W a0 len0 cap0 zs := by
    obtain ⟨fuel, hf⟩ := h0
    rcases open_ints Tryd.underlying22 Tryd.underlying5 (by kernel_rfl) hf with ⟨hcs, _⟩ | ⟨x, l, c, zs, hcs, _, hl, hm, hz, _, hcell, hwz⟩
    · simp [Value.cells] at hcs
      obtain ⟨rfl, rfl, rfl⟩ := hcs
      exact ⟨[], .inl ⟨rfl, rfl, rfl, rfl⟩⟩
    · simp [Value.cells] at hcs
      obtain ⟨rfl, rfl, rfl⟩ := hcs
      exact ⟨zs, .inr ⟨_, rfl, hl, hm, by simpa using hz, hcell, hwz⟩⟩
  obtain ⟨a1, len1, cap1, rfl⟩ := okWide_slice Tryd.underlying22 (hval 1 22 v1 rfl rfl)
  have k1 := h1
  have lt1 : ∀ x ∈ p1, x.block < W.heap.size := by obtain ⟨m, hm⟩ := k1; exact DataW.trod_lt m _ _ _ hm
  obtain ⟨z1, w1⟩ : ∃ zs, IsRow .u8 W a1 len1 cap1 zs := by
    obtain ⟨fuel, hf⟩ := h1
    rcases open_ints Tryd.underlying22 Tryd.underlying5 (by kernel_rfl) hf with ⟨hcs, _⟩ | ⟨x, l, c, zs, hcs, _, hl, hm, hz, _, hcell, hwz⟩
    · simp [Value.cells] at hcs
      obtain ⟨rfl, rfl, rfl⟩ := hcs
      exact ⟨[], .inl ⟨rfl, rfl, rfl, rfl⟩⟩
    · simp [Value.cells] at hcs
      obtain ⟨rfl, rfl, rfl⟩ := hcs
      exact ⟨zs, .inr ⟨_, rfl, hl, hm, by simpa using hz, hcell, hwz⟩⟩
  clear hA0 hval0
  refine (signTop W a0 len0 cap0 z0 w0 a1 len1 cap1 z1 w1 (keys_of_laid hL)).mono fun e W' ⟨he, bel⟩ => ?_
  subst he
  exact ⟨_, rfl, _, _, _, [], _, _, hW', trodAll_mk1 (shut_bool Tryd.underlying4 _), (trodAll_cons_mk (Below.trod laidOut (by kernel_rfl) (of_decide_eq_true (by kernel_rfl)) k0 bel lt0) (trodAll_cons_mk (Below.trod laidOut (by kernel_rfl) (of_decide_eq_true (by kernel_rfl)) k1 bel lt1) trodAll_mk0)), bel.trodVars laidOut (by kernel_rfl) hV0, bel.frame _, fun h => by cases h⟩
theorem said : Rows.FnSignSaid :=
  OpenClaim.holds_of_wide 5 Tryd.f5 rfl rfl rfl rfl rfl rfl rfl ⟨rfl, rfl, rfl, rfl, rfl⟩ rfl rfl rfl rfl rfl (by kernel_rfl) Tryd.func5 (by kernel_rfl)
    (of_decide_eq_true (by kernel_rfl)) (by unfold Func.isWrapper; first | (rw [if_pos (by decide +kernel)]; kernel_rfl) | (rw [if_neg (by decide +kernel)]; exact ⟨rfl, rfl⟩))
    (fun os started H enc _ => lifted os started H enc)
theorem plain (f : FuncId) (fn : Func) (hf : Tryd.pinned.checked.prog.funcNamed "loop.example/g00371/laws.FnSign" = some f) (hfn : Tryd.pinned.checked.prog.funcs[f]? = some fn) :
    true = Tryd.pinned.checked.prog.looks [] ∧ ∀ (j : Nat) t, fn.params[j]? = some t → Tryd.pinned.checked.prog.wantsStandIn t = false := by
  obtain rfl : f = 5 := Option.some.inj ((show Tryd.prog.funcNamed "loop.example/g00371/laws.FnSign" = some 5 by kernel_rfl).symm.trans hf) |>.symm
  obtain rfl : fn = Tryd.f5 := (Option.some.inj (Tryd.func5.symm.trans hfn)).symm
  refine ⟨by kernel_rfl, fun j t ht => ?_⟩
  rw [Tryd.params5] at ht
  have hm : t = 22 := by simpa using Array.mem_of_getElem? ht
  rcases hm with rfl <;> (show _ = _; kernel_rfl)
end fnSignDone
theorem fnSign_card : Rows.FnSignCardSaid :=
  Claim7.holds_tied_plain_at .later [] _ _ _ _ fnSignDone.said (fun _ h => by cases h) (by kernel_rfl) (fun _ h => by cases h) fnSign_row_tie rfl ⟨rfl, rfl⟩ (by kernel_rfl) rfl fnSignDone.plain (by kernel_rfl)
#print axioms fnSign_card
end Go.Proofs.YthhmobjphloahaaDoor
