/- spec.JwsRead, walked. strings.Split at a dot: by the shelf's genSplit and its callees at one byte. errors.As at the target '*impl.byteFault', by its contracts: a nil error: false; an error that is a byteFault: true, and the target is set. After the guide's worked example. errors.As once more, with the world by what it keeps. errors.As with the world by what it keeps, beside the reading of a number. impl.GetNum at every argument. impl.copyText, walked. -/
import Derived.Test.YtjkmfjegphpjkaaGreatDoorJW10
import Derived.Test.YtjkmfjegphpjkaaGreatDoorJW13
import Derived.Test.YtjkmfjegphpjkaaGreatDoorJW12
import Derived.Test.YtjkmfjegphpjkaaGreatDoorJW15
import Derived.Test.YtjkmfjegphpjkaaGreatDoorJW19
import Derived.Deep.MidRow
import Derived.Deep.Cut
import Derived.Deep.RegionHeld3
import Derived.Test.YtjkmfjegphpjkaaGreatDoorJW01
import Derived.Test.YtjkmfjegphpjkaaGreatDoorJW06
import Derived.Test.YtjkmfjegphpjkaaGreatDoorRows
import Derived.WalkKit
import Derived.LaidEql
import Derived.Stop.Asserts
import Derived.RowKitTokens
import Derived.Below
import Derived.Test.YtjkmfjegphpjkaaGreatDoorJW07
namespace Go.Proofs.YtjkmfjegphpjkaaGreatDoor
open Go.RowKit Go.Lib

theorem sizeJwsOutS : (Tryz.prog.info? 36).map (·.size) = some 8 := by kernel_rfl
set_option linter.unusedSimpArgs false in
set_option maxHeartbeats 8000000 in
set_option maxRecDepth 100000 in
theorem specJwsRead (s : ByteArray) (w : World) (hs : s.size ≤ maxLen) :
    Calls Tryz.prog 17 #[.string s] w fun e w' => e = .returned (Rq.outV (jwsR s)) ∧ Below w.heap.size w w' := by
  obtain ⟨w1, hw1⟩ : ∃ y, y = w.alloc (.cells #[.int .i64 0, .int .i64 0, .string ⟨#[]⟩, .string ⟨#[]⟩, .int .i64 0, .int .i64 0, .int .i64 0, .int .i64 0] 36 (0, 0)) := ⟨_, rfl⟩
  have hz : w1.heap.size = w.heap.size + 1 := by rw [hw1]; simp
  have L1 : Hid (HasB w1 [(w.heap.size, [Value.int .i64 0, .int .i64 0, .string ⟨#[]⟩, .string ⟨#[]⟩, .int .i64 0, .int .i64 0, .int .i64 0, .int .i64 0], 36)]) := by rw [hw1]; exact (HasB.nil w).alloc _ _
  have B1 : Hid (Below w.heap.size w w1) := by rw [hw1]; exact (Below.refl _ w).alloc (Nat.le_refl _) _
  have hi' := sizeJwsOutS
  have HR : Hid (jwsR s = if 20000 < s.size then (.zero, 2) else jwsTell (readJS s) s) := jwsR_spec s
  have HRd : Hid (¬ 20000 < s.size → ∀ V, Below w.heap.size w V → Calls Tryz.prog 46 #[.string s] V fun e w' => e = .returned (readJS s).val ∧ Below V.heap.size V w') := fun h V hV => specJws s V (by omega)
  have HSZ : Hid (¬ 20000 < s.size → (readJS s).url.size ≤ maxLen ∧ (readJS s).body.size ≤ maxLen) := readJS_sizes
  unfold maxLen at hs
  generalize jwsR s = R at *
  generalize readJS s = RJ at *
  go_enter Tryz.func17, Tryz.ntmps17
  go_upto_region 1 with fail
  rw [← hw1]
  clear hw1
  by_cases hl : 20000 < s.size
  · have HF : Hid (R = (.zero, 2)) := by show _ = _; rw [HR.out, if_pos hl]
    have hR := L1.out.head
    go_wp2_with (refine wpList_store_row rfl 36 _ _ rfl (w.heap.size) _ [Value.int .i64 0, .int .i64 0, .string ⟨#[]⟩, .string ⟨#[]⟩, .int .i64 0, .int .i64 0, .int .i64 0, .int .i64 2] 36 rfl rfl hR rfl hi' (by simp [Value.oneCell']) ?_)
    intro w8 hrow ho hs8 hbb
    have HROW : Hid _ := hrow
    have HB8 : Hid (Below w.heap.size w w8) := hbb _ _ (Nat.le_refl _) B1.out
    clear ho hs8 hbb hrow hR
    go_wp2
    refine bodyPost_ret (v := .agg [Value.int .i64 0, .int .i64 0, .string ⟨#[]⟩, .string ⟨#[]⟩, .int .i64 0, .int .i64 0, .int .i64 0, .int .i64 2].toArray) ?_ rfl ⟨by rw [HF.out]; rfl, HB8.out⟩
    have hl3 := run_loadVar_mid (P := Tryz.prog) _ (w.heap.size) 0 36 _ _ (rangeRow HROW.out) Tryz.underlying36 rfl hi'
    simp [results, Tryz.results17, asAddr, hl3]
  have HT : Hid (R = jwsTell RJ s) := by show _ = _; rw [HR.out, if_neg hl]
  have HRd' := HRd.out hl
  have HRD : Hid _ := HRd'
  clear HR HRd HRd'
  obtain ⟨key, nonce, url, body, se, ss⟩ := RJ
  unfold Rq.val jV at HRD
  simp only at HRD
  have hur : url.size ≤ maxLen ∧ body.size ≤ maxLen := HSZ.out hl
  clear HSZ
  go_wp2_with fail
  refine (HRD.out _ B1.out).mono ?_
  rintro e w2 ⟨rfl, b2⟩
  have L2 : Hid (HasB w2 [(w.heap.size, [Value.int .i64 0, .int .i64 0, .string ⟨#[]⟩, .string ⟨#[]⟩, .int .i64 0, .int .i64 0, .int .i64 0, .int .i64 0], 36)]) := HasB.keep L1.out b2
  have B2 : Hid (Below w.heap.size w w2) := B1.out.trans (b2.mono B1.out.size)
  obtain ⟨jb, hjb⟩ : ∃ b, b = w2.heap.size := ⟨_, rfl⟩
  obtain ⟨w3, hw3⟩ : ∃ y, y = w2.alloc (.cells #[.int .i64 key, .int .i64 nonce, .string url, .string body, .int .i64 key, .int .i64 se, .int .i64 ss] 34 (0, 0)) := ⟨_, rfl⟩
  have L3 : Hid (HasB w3 [(jb, [Value.int .i64 key, .int .i64 nonce, .string url, .string body, .int .i64 key, .int .i64 se, .int .i64 ss], 34), (w.heap.size, [Value.int .i64 0, .int .i64 0, .string ⟨#[]⟩, .string ⟨#[]⟩, .int .i64 0, .int .i64 0, .int .i64 0, .int .i64 0], 36)]) := by rw [hw3, hjb]; exact HasB.alloc L2.out _ _
  have B3 : Hid (Below w.heap.size w w3) := by rw [hw3]; exact B2.out.alloc B2.out.size _
  have hj3 : jb < w3.heap.size := heap_lt L3.out.head
  clear b2 L2 B2 L1 B1 HRD hz
  have C1 : Hid (∀ V, Calls Tryz.prog 47 #[.agg #[.int .i64 key, .int .i64 nonce, .string url, .string body, .int .i64 key, .int .i64 se, .int .i64 ss]] V fun e w' => e = .returned (.bool (rqB key nonce url body && sigRB key se ss)) ∧ Below V.heap.size V w') := fun V => specRight key nonce url body se ss V hur.1 hur.2
  have C3 : Hid ((rqB key nonce url body && sigRB key se ss) = true → ∀ V, Calls Tryz.prog 41 #[.agg #[.int .i64 key, .int .i64 nonce, .string url, .string body, .int .i64 key, .int .i64 se, .int .i64 ss]] V fun e w' => e = .returned (.string (jText key nonce url body se ss)) ∧ Below V.heap.size V w') := fun h V => by
    obtain ⟨k1, k2, k3, k4, k5, k6⟩ := right_in h
    exact specText key nonce url body key se ss V k1 k2 k3 k4 k5 k6
  have C4 : Hid ((rqB key nonce url body && sigRB key se ss) = true → ∀ V, Calls Tryz.prog 40 #[.agg #[.int .i64 key, .int .i64 nonce, .string url, .string body, .int .i64 key, .int .i64 se, .int .i64 ss]] V fun e w' => e = .returned (.string (jTwo key nonce url body)) ∧ Below V.heap.size V w') := fun h V => by
    obtain ⟨k1, k2, k3, k4, k5, k6⟩ := right_in h
    exact specHead key nonce url body key se ss V k1 k2 k3 k4
  have C5 : Hid ((rqB key nonce url body && sigRB key se ss) = true → ∀ V, Calls Tryz.prog 48 #[.agg #[.int .i64 key, .int .i64 se, .int .i64 ss], .string (jTwo key nonce url body)] V fun e w' => e = .returned (.bool (sigCB key se ss (jTwo key nonce url body))) ∧ Below V.heap.size V w') := fun h V => by
    obtain ⟨k1, k2, k3, k4, k5, k6⟩ := right_in h
    have := jTwo_size key nonce url body
    exact specSigCheck key se ss _ V (by unfold maxLen; omega)
  have N1 : Hid (¬ ((rqB key nonce url body && sigRB key se ss) = true ∧ jText key nonce url body se ss = s) → R = (.zero, 3)) := fun h => by rw [HT.out]; exact tell_no h
  have N2 : Hid ((rqB key nonce url body && sigRB key se ss) = true → jText key nonce url body se ss = s → sigCB key se ss (jTwo key nonce url body) = false → R = (.zero, 6)) := fun h1 h2 h3 => by rw [HT.out]; exact tell_sig (j := ⟨key, nonce, url, body, se, ss⟩) ⟨h1, h2⟩ h3
  have N3 : Hid ((rqB key nonce url body && sigRB key se ss) = true → jText key nonce url body se ss = s → sigCB key se ss (jTwo key nonce url body) = true → R = (⟨key, nonce, url, body, se, ss⟩, 0)) := fun h1 h2 h3 => by rw [HT.out]; exact tell_all (j := ⟨key, nonce, url, body, se, ss⟩) ⟨h1, h2⟩ h3
  clear HT hur
  generalize rqB key nonce url body = P1 at *
  generalize sigRB key se ss = P2 at *
  generalize jText key nonce url body se ss = TX at *
  generalize jTwo key nonce url body = TW at *
  generalize sigCB key se ss TW = P3 at *
  go_upto_region 4 with fail
  rw [← hw3, ← hjb]
  clear hw3 hjb
  have d0 := rowFacts L3.out.head 0 _ rfl
  have d1 := rowFacts L3.out.head 1 _ rfl
  have d2 := rowFacts L3.out.head 2 _ rfl
  have d3 := rowFacts L3.out.head 3 _ rfl
  have d4 := rowFacts L3.out.head 4 _ rfl
  have d5 := rowFacts L3.out.head 5 _ rfl
  have d6 := rowFacts L3.out.head 6 _ rfl
  cases hP : (P1 && P2) with
  | false =>
    rw [hP] at C1
    have HF : Hid (R = (.zero, 3)) := N1.out (fun h => by rw [hP] at h; cases h.1)
    go_wp2_with fail
    refine (C1.out _).mono ?_
    rintro e w4 ⟨rfl, b'⟩
    clear d0 d1 d2 d3 d4 d5 d6
    have L4 : Hid (HasB w4 [(jb, [Value.int .i64 key, .int .i64 nonce, .string url, .string body, .int .i64 key, .int .i64 se, .int .i64 ss], 34), (w.heap.size, [Value.int .i64 0, .int .i64 0, .string ⟨#[]⟩, .string ⟨#[]⟩, .int .i64 0, .int .i64 0, .int .i64 0, .int .i64 0], 36)]) := HasB.keep L3.out b'
    have B4 : Hid (Below w.heap.size w w4) := B3.out.trans (b'.mono B3.out.size)
    clear b'
    have hR := L4.out.tail.head
    go_wp2_with (refine wpList_store_row rfl 36 _ _ rfl (w.heap.size) _ [Value.int .i64 0, .int .i64 0, .string ⟨#[]⟩, .string ⟨#[]⟩, .int .i64 0, .int .i64 0, .int .i64 0, .int .i64 3] 36 rfl rfl hR rfl hi' (by simp [Value.oneCell']) ?_)
    intro w8 hrow ho hs8 hbb
    have HROW : Hid _ := hrow
    have HB8 : Hid (Below w.heap.size w w8) := hbb _ _ (Nat.le_refl _) B4.out
    clear ho hs8 hbb hrow hR
    go_wp2
    refine bodyPost_ret (v := .agg [Value.int .i64 0, .int .i64 0, .string ⟨#[]⟩, .string ⟨#[]⟩, .int .i64 0, .int .i64 0, .int .i64 0, .int .i64 3].toArray) ?_ rfl ⟨by rw [HF.out]; rfl, HB8.out⟩
    have hl3 := run_loadVar_mid (P := Tryz.prog) _ (w.heap.size) 0 36 _ _ (rangeRow HROW.out) Tryz.underlying36 rfl hi'
    simp [results, Tryz.results17, asAddr, hl3]
  | true =>
  rw [hP] at C1
  have C3' := C3.out hP
  have C4' := C4.out hP
  have C5' := C5.out hP
  go_wp2_with fail
  refine (C1.out _).mono ?_
  rintro e w4 ⟨rfl, b'⟩
  clear d0 d1 d2 d3 d4 d5 d6
  have L4 : Hid (HasB w4 [(jb, [Value.int .i64 key, .int .i64 nonce, .string url, .string body, .int .i64 key, .int .i64 se, .int .i64 ss], 34), (w.heap.size, [Value.int .i64 0, .int .i64 0, .string ⟨#[]⟩, .string ⟨#[]⟩, .int .i64 0, .int .i64 0, .int .i64 0, .int .i64 0], 36)]) := HasB.keep L3.out b'
  have B4 : Hid (Below w.heap.size w w4) := B3.out.trans (b'.mono B3.out.size)
  clear b'
  have d0 := rowFacts L4.out.head 0 _ rfl
  have d1 := rowFacts L4.out.head 1 _ rfl
  have d2 := rowFacts L4.out.head 2 _ rfl
  have d3 := rowFacts L4.out.head 3 _ rfl
  have d4 := rowFacts L4.out.head 4 _ rfl
  have d5 := rowFacts L4.out.head 5 _ rfl
  have d6 := rowFacts L4.out.head 6 _ rfl
  go_wp2_with fail
  refine (C3' _).mono ?_
  rintro e w5 ⟨rfl, b'⟩
  clear d0 d1 d2 d3 d4 d5 d6
  have L5 : Hid (HasB w5 [(jb, [Value.int .i64 key, .int .i64 nonce, .string url, .string body, .int .i64 key, .int .i64 se, .int .i64 ss], 34), (w.heap.size, [Value.int .i64 0, .int .i64 0, .string ⟨#[]⟩, .string ⟨#[]⟩, .int .i64 0, .int .i64 0, .int .i64 0, .int .i64 0], 36)]) := HasB.keep L4.out b'
  have B5 : Hid (Below w.heap.size w w5) := B4.out.trans (b'.mono B4.out.size)
  clear b'
  by_cases hT : TX = s
  rotate_left
  · have HF : Hid (R = (.zero, 3)) := N1.out (fun h => hT h.2)
    have hn1 : (TX.toList == s.toList) = false := by rw [same_text']; exact decide_eq_false hT
    have hn : (TX.toList != s.toList) = true := by rw [bne, hn1]; rfl
    have hR := L5.out.tail.head
    go_wp2_with (refine wpList_store_row rfl 36 _ _ rfl (w.heap.size) _ [Value.int .i64 0, .int .i64 0, .string ⟨#[]⟩, .string ⟨#[]⟩, .int .i64 0, .int .i64 0, .int .i64 0, .int .i64 3] 36 rfl rfl hR rfl hi' (by simp [Value.oneCell']) ?_)
    intro w8 hrow ho hs8 hbb
    have HROW : Hid _ := hrow
    have HB8 : Hid (Below w.heap.size w w8) := hbb _ _ (Nat.le_refl _) B5.out
    clear ho hs8 hbb hrow hR
    go_wp2
    refine bodyPost_ret (v := .agg [Value.int .i64 0, .int .i64 0, .string ⟨#[]⟩, .string ⟨#[]⟩, .int .i64 0, .int .i64 0, .int .i64 0, .int .i64 3].toArray) ?_ rfl ⟨by rw [HF.out]; rfl, HB8.out⟩
    have hl3 := run_loadVar_mid (P := Tryz.prog) _ (w.heap.size) 0 36 _ _ (rangeRow HROW.out) Tryz.underlying36 rfl hi'
    simp [results, Tryz.results17, asAddr, hl3]
  have hn1 : (TX.toList == s.toList) = true := by rw [same_text']; exact decide_eq_true hT
  have hn : (TX.toList != s.toList) = false := by rw [bne, hn1]; rfl
  have d0 := rowFacts L5.out.head 0 _ rfl
  have d1 := rowFacts L5.out.head 1 _ rfl
  have d2 := rowFacts L5.out.head 2 _ rfl
  have d3 := rowFacts L5.out.head 3 _ rfl
  have d4 := rowFacts L5.out.head 4 _ rfl
  have d5 := rowFacts L5.out.head 5 _ rfl
  have d6 := rowFacts L5.out.head 6 _ rfl
  have HK : Hid (∀ V, Below w5.heap.size w5 V → V.cell? ⟨jb, 0, none⟩ = some (.int .i64 key) ∧ V.cell? ⟨jb, 1, none⟩ = some (.int .i64 nonce) ∧ V.cell? ⟨jb, 2, none⟩ = some (.string url) ∧ V.cell? ⟨jb, 3, none⟩ = some (.string body) ∧ V.cell? ⟨jb, 4, none⟩ = some (.int .i64 key) ∧ V.cell? ⟨jb, 5, none⟩ = some (.int .i64 se) ∧ V.cell? ⟨jb, 6, none⟩ = some (.int .i64 ss)) := fun V hV => by
    have hP := (HasB.keep L5.out hV).head
    exact ⟨rowFacts hP 0 _ rfl, rowFacts hP 1 _ rfl, rowFacts hP 2 _ rfl, rowFacts hP 3 _ rfl, rowFacts hP 4 _ rfl, rowFacts hP 5 _ rfl, rowFacts hP 6 _ rfl⟩
  have D4 : Hid (∀ V, Hid (Below w5.heap.size w5 V) → Calls Tryz.prog 40 #[.agg #[.int .i64 key, .int .i64 nonce, .string url, .string body, .int .i64 key, .int .i64 se, .int .i64 ss]] V fun e W => e = .returned (.string TW) ∧ Hid (Below w5.heap.size w5 W)) := fun V hV => (C4' V).mono fun e W h => ⟨h.1, hV.out.trans (h.2.mono hV.out.size)⟩
  have D5 : Hid (∀ V, Hid (Below w5.heap.size w5 V) → Calls Tryz.prog 48 #[.agg #[.int .i64 key, .int .i64 se, .int .i64 ss], .string TW] V fun e W => e = .returned (.bool P3) ∧ Hid (Below w5.heap.size w5 W)) := fun V hV => (C5' V).mono fun e W h => ⟨h.1, hV.out.trans (h.2.mono hV.out.size)⟩
  have I5 : Hid (Below w5.heap.size w5 w5.drew) := (Below.refl _ _).drew
  clear C1 C3 C4 C5 C3' C4' C5' N1
  clear d0 d1 d2 d3 d4 d5 d6
  go_upto_region 6 with fail
  obtain ⟨c0, c1, c2, c3, c4, c5, c6⟩ := HK.out w5 (Below.refl _ _)
  go_region_held3 (fun V => V.cell? ⟨jb, 0, none⟩ = some (.int .i64 key) ∧ V.cell? ⟨jb, 1, none⟩ = some (.int .i64 nonce) ∧ V.cell? ⟨jb, 2, none⟩ = some (.string url) ∧ V.cell? ⟨jb, 3, none⟩ = some (.string body) ∧ V.cell? ⟨jb, 4, none⟩ = some (.int .i64 key) ∧ V.cell? ⟨jb, 5, none⟩ = some (.int .i64 se) ∧ V.cell? ⟨jb, 6, none⟩ = some (.int .i64 ss)) (first | (refine ⟨?_, ?_, ?_, ?_, ?_, ?_, ?_⟩ <;> assumption) | exact HK.out _ (Hid.out (by assumption)))
    (first
      | (go_at_call 40; refine (D4.out _ (by assumption)).mono ?_; rintro r V2 ⟨rfl, k2⟩)
      | (go_at_call 48; refine (D5.out _ (by assumption)).mono ?_; rintro r V3 ⟨rfl, k3⟩))
  all_goals
    have K9 : Hid (Below w5.heap.size w5 V3) := k3
    have L6 : Hid (HasB V3 [(jb, [Value.int .i64 key, .int .i64 nonce, .string url, .string body, .int .i64 key, .int .i64 se, .int .i64 ss], 34), (w.heap.size, [Value.int .i64 0, .int .i64 0, .string ⟨#[]⟩, .string ⟨#[]⟩, .int .i64 0, .int .i64 0, .int .i64 0, .int .i64 0], 36)]) := HasB.keep L5.out K9.out
    have B6 : Hid (Below w.heap.size w V3) := B5.out.trans (K9.out.mono B5.out.size)
    clear k2 k3 K9 c0 c1 c2 c3 c4 c5 c6 HK D4 D5 I5 L5 B5
    have hR := L6.out.tail.head
    have d0 := rowFacts L6.out.head 0 _ rfl
    have d1 := rowFacts L6.out.head 1 _ rfl
    have d2 := rowFacts L6.out.head 2 _ rfl
    have d3 := rowFacts L6.out.head 3 _ rfl
    have d4 := rowFacts L6.out.head 4 _ rfl
    have d5 := rowFacts L6.out.head 5 _ rfl
    have d6 := rowFacts L6.out.head 6 _ rfl
    cases P3 with
    | false =>
      have HF : Hid (R = (.zero, 6)) := N2.out hP hT rfl
      go_wp2_with (refine wpList_store_row rfl 36 _ _ rfl (w.heap.size) _ [Value.int .i64 0, .int .i64 0, .string ⟨#[]⟩, .string ⟨#[]⟩, .int .i64 0, .int .i64 0, .int .i64 0, .int .i64 6] 36 rfl rfl hR rfl hi' (by simp [Value.oneCell']) ?_)
      intro w8 hrow ho hs8 hbb
      have HROW : Hid _ := hrow
      have HB8 : Hid (Below w.heap.size w w8) := hbb _ _ (Nat.le_refl _) B6.out
      clear ho hs8 hbb hrow hR
      go_wp2
      refine bodyPost_ret (v := .agg [Value.int .i64 0, .int .i64 0, .string ⟨#[]⟩, .string ⟨#[]⟩, .int .i64 0, .int .i64 0, .int .i64 0, .int .i64 6].toArray) ?_ rfl ⟨by rw [HF.out]; rfl, HB8.out⟩
      have hl3 := run_loadVar_mid (P := Tryz.prog) _ (w.heap.size) 0 36 _ _ (rangeRow HROW.out) Tryz.underlying36 rfl hi'
      simp [results, Tryz.results17, asAddr, hl3]
    | true =>
      have HF : Hid (R = (⟨key, nonce, url, body, se, ss⟩, 0)) := N3.out hP hT rfl
      go_wp2_with (refine wpList_store_row rfl 36 _ _ rfl (w.heap.size) _ [Value.int .i64 key, .int .i64 nonce, .string url, .string body, .int .i64 key, .int .i64 se, .int .i64 ss, .int .i64 0] 36 rfl rfl hR rfl hi' (by simp [Value.oneCell']) ?_)
      intro w8 hrow ho hs8 hbb
      have HROW : Hid _ := hrow
      have HB8 : Hid (Below w.heap.size w w8) := hbb _ _ (Nat.le_refl _) B6.out
      clear ho hs8 hbb hrow hR
      go_wp2
      refine bodyPost_ret (v := .agg [Value.int .i64 key, .int .i64 nonce, .string url, .string body, .int .i64 key, .int .i64 se, .int .i64 ss, .int .i64 0].toArray) ?_ rfl ⟨by rw [HF.out]; rfl, HB8.out⟩
      have hl3 := run_loadVar_mid (P := Tryz.prog) _ (w.heap.size) 0 36 _ _ (rangeRow HROW.out) Tryz.underlying36 rfl hi'
      simp [results, Tryz.results17, asAddr, hl3]
end Go.Proofs.YtjkmfjegphpjkaaGreatDoor
namespace Go.Proofs.YtjkmfjegphpjkaaGreatDoor
open Go.RowKit Go.Lib

theorem spl_splitK : ∀ (k : Nat) (l : List UInt8), count l [46] = k → (splitK [46] 0 k l).map (fun p => p.map UInt8.toNat) = spl (l.map UInt8.toNat) []
  | k, l, hk => by
    have hidx : index l [46] = indexByte l 46 := index_one l 46
    by_cases hn : indexByte l 46 = -1
    · have h1 := indexByte_none hn
      have hno : ∀ x ∈ l.map UInt8.toNat, x ≠ 46 := by
        intro x hx
        obtain ⟨u, hu, rfl⟩ := List.mem_map.1 hx
        obtain ⟨i, hi⟩ := List.mem_iff_getElem?.1 hu
        intro e
        have : u = 46 := by
          apply UInt8.toNat_inj.1
          rw [e]
          rfl
        exact h1 i (by rw [hi, this])
      rw [spl_end _ _ hno, List.nil_append]
      cases k with
      | zero => rfl
      | succ k => rw [splitK, hidx, hn]; rfl
    · have hge := indexByte_ge l 46
      obtain ⟨o, ho⟩ : ∃ o : Nat, indexByte l 46 = o := ⟨(indexByte l 46).toNat, by omega⟩
      obtain ⟨h1, h2⟩ := indexByte_some ho
      have hol : o < l.length := by
        rcases Nat.lt_or_ge o l.length with h | h
        · exact h
        · rw [List.getElem?_eq_none h] at h1; cases h1
      have hd : l = l.take o ++ 46 :: l.drop (o + 1) := by
        conv => lhs; rw [← List.take_append_drop o l, List.drop_eq_getElem_cons hol]
        rw [List.getElem?_eq_getElem hol] at h1
        rw [Option.some.inj h1]
      have hno8 : ∀ u ∈ l.take o, u ≠ 46 := by
        intro u hu e
        obtain ⟨i, hi⟩ := List.mem_iff_getElem?.1 hu
        rw [List.getElem?_take] at hi
        split at hi
        · rename_i hio
          exact h2 i hio (by rw [hi, e])
        · cases hi
      have hno : ∀ x ∈ (l.take o).map UInt8.toNat, x ≠ 46 := by
        intro x hx
        obtain ⟨u, hu, rfl⟩ := List.mem_map.1 hx
        intro e
        refine hno8 u hu ?_
        apply UInt8.toNat_inj.1
        rw [e]
        rfl
      have hc : count l [46] = count (l.drop (o + 1)) [46] + 1 := by
        rw [count_one, count_one]
        conv => lhs; rw [hd]
        rw [List.count_append, List.count_cons_self, List.count_eq_zero_of_not_mem (fun h => hno8 _ h rfl)]
        omega
      obtain ⟨k', rfl⟩ : ∃ k', k = k' + 1 := ⟨count (l.drop (o + 1)) [46], by omega⟩
      have ih := spl_splitK k' (l.drop (o + 1)) (by omega)
      have hb : ((o : Int) == -1) = false := by
        rw [beq_eq_false_iff_ne]
        omega
      rw [splitK, hidx, ho, hb]
      simp only [Bool.false_eq_true, if_false, Int.toNat_natCast, Nat.add_zero, List.length_cons, List.length_nil, Nat.zero_add, List.map_cons]
      rw [ih]
      conv => rhs; rw [hd]
      rw [List.map_append, List.map_cons]
      have e46 : UInt8.toNat 46 = 46 := rfl
      rw [e46, spl_dot _ _ _ hno]
      rfl
  termination_by k => k
theorem splitB_pcs (s : ByteArray) : splitB ⟨#[46]⟩ 0 (countB s ⟨#[46]⟩) s = pcs s := by
  have h1 := splitB_data ⟨#[46]⟩ 0 (countB s ⟨#[46]⟩) s
  have h2 := spl_splitK (count s.data.toList [46]) s.data.toList rfl
  have h3 : (splitB ⟨#[46]⟩ 0 (countB s ⟨#[46]⟩) s).map bts = spl (bts s) [] := by
    have e : (splitB ⟨#[46]⟩ 0 (countB s ⟨#[46]⟩) s).map bts = ((splitB ⟨#[46]⟩ 0 (countB s ⟨#[46]⟩) s).map (·.data.toList)).map (fun p => p.map UInt8.toNat) := by
      rw [List.map_map]
      rfl
    rw [e, h1]
    exact h2
  unfold pcs
  rw [← h3, List.map_map]
  conv => lhs; rw [← List.map_id (splitB ⟨#[46]⟩ 0 (countB s ⟨#[46]⟩) s)]
  apply List.map_congr_left
  intro x _
  exact (natT_bts x).symm
set_option maxHeartbeats 1000000 in
theorem genSplitDot (s : ByteArray) (w : World) (hs : s.size ≤ 20000) :
    Calls Tryz.prog 90 #[.string s, .string ⟨#[46]⟩, .int .i64 0, .int .i64 (-1)] w fun e w' =>
      e = .returned (.slice (some ⟨w.heap.size, 0, none⟩) (pcs s).length (pcs s).length) ∧ w' = w.alloc (.cells ((pcs s).map Value.string).toArray 9) := by
  have hC : Calls Tryz.prog (splitLays_ren.f 138) #[.string s, .string ⟨#[46]⟩] w fun e w' => e = .returned (.int .i64 (countB s ⟨#[46]⟩)) ∧ w' = w := by
    refine (Any.strings_Count_one { splitLays with } s 46 w).mono fun e w' ⟨he, hw⟩ => ⟨?_, hw⟩
    rw [he]
    show _ = Ending.returned (Value.int .i64 ((count s.data.toList [46] : Nat) : Int))
    rw [count_one]
    rfl
  have hI : ∀ (x : ByteArray) (c : Array Value), x.size ≤ s.size → Calls Tryz.prog (splitLays_ren.f 143) #[.string x, .string ⟨#[46]⟩] (w.alloc (.cells c (splitLays_ren.t 9))) fun e w' => e = .returned (.int .i64 (indexB x ⟨#[46]⟩)) ∧ w' = w.alloc (.cells c (splitLays_ren.t 9)) := by
    intro x c _
    refine (Any.strings_Index_one { splitLays with } x 46 _).mono fun e w' ⟨he, hw⟩ => ⟨?_, hw⟩
    rw [he]
    show _ = Ending.returned (Value.int .i64 (index x.data.toList [46]))
    rw [index_one]
  have hcl := countB_le ⟨#[46]⟩ (Nat.le_refl 1) s.size s (Nat.le_refl _)
  have hl := splitB_all ⟨#[46]⟩ (Nat.le_refl 1) 0 (countB s ⟨#[46]⟩) s rfl
  have h := Any.strings_genSplit_core splitLays (by kernel_rfl) s ⟨#[46]⟩ 0 (-1) (countB s ⟨#[46]⟩ + 1) w (by omega) (Nat.le_refl 1) (Nat.zero_le _) hI hC (by decide) (by decide) (by rw [if_pos (by decide)]; omega)
  rw [Nat.add_sub_cancel] at h
  rw [splitB_pcs] at h hl
  rw [← hl] at h
  have e2 : cellsOf (pcs s) (pcs s).length = ((pcs s).map Value.string).toArray := cellsOf_full _
  rw [e2] at h
  exact h
set_option maxHeartbeats 1000000 in
theorem implSplit (s : ByteArray) (w : World) (hs : s.size ≤ 20000) :
    Calls Tryz.prog 67 #[.string s, .string ⟨#[46]⟩] w fun e w' =>
      e = .returned (.slice (some ⟨w.heap.size, 0, none⟩) (pcs s).length (pcs s).length) ∧ w' = w.alloc (.cells ((pcs s).map Value.string).toArray 9) := by
  have HG : Hid (∀ V, Calls Tryz.prog 90 #[.string s, .string ⟨#[46]⟩, .int .i64 0, .int .i64 (-1)] V fun e w' => e = .returned (.slice (some ⟨V.heap.size, 0, none⟩) (pcs s).length (pcs s).length) ∧ w' = V.alloc (.cells ((pcs s).map Value.string).toArray 9)) := fun V => genSplitDot s V hs
  go_enter Tryz.func67, Tryz.ntmps67
  go_wp2_with fail
  refine (HG.out w).mono ?_
  rintro e w2 ⟨rfl, hw⟩
  have HW : Hid _ := hw
  clear hw
  go_wp2
  go_ret
  exact ⟨rfl, HW.out⟩
end Go.Proofs.YtjkmfjegphpjkaaGreatDoor
namespace Go.Proofs.YtjkmfjegphpjkaaGreatDoor
open Go.RowKit Go.Extern.Stop Go.Stop Go.Extern

theorem as_nil (t : Value) (w : World) :
    Calls Tryz.prog 92 #[.nilIface, t] w fun e w' => e = .returned (.bool false) ∧ w' = w := by
  go_enter Tryz.func92, Tryz.ntmps92
  go_wp2
  go_ret
  exact ⟨rfl, rfl⟩

theorem valueOfP (t : Addr) (w : World) : (ReflectliteValue.unpack (.iface 105 (.pointer (some t)))).run Tryz.prog w
    = .ok (.agg #[.pointer (some ⟨5, 105, none⟩), .pointer (some ⟨w.heap.size, 0, none⟩), .int .u64 150]) (w.alloc (.cells #[.pointer (some t)] 105)) := by kernel_rfl
theorem typeP (a : Addr) (w : World) : (ReflectliteValue.methodAny (ReflectliteValue.valueError "reflectlite.Value.Type" 0) (fun t _ _ _ => ReflectliteType.toType t) #[.agg #[.pointer (some ⟨5, 105, none⟩), .pointer (some a), .int .u64 150]]).run Tryz.prog w
    = .ok (.iface 147 (.agg #[.pointer (some ⟨5, 105, none⟩)])) w := by kernel_rfl
theorem methodKind (h : Value) (w : World) : (Go.method 300 147 (.agg #[h]) "Kind").run Tryz.prog w = .ok (154, h) w := by kernel_rfl
theorem kindP (w : World) : ((ReflectliteType.abiMethod fun t => (fun a : Nat => Value.int IntKind.u8 (a : Int)) <$> Rtype.kind t) #[.pointer (some ⟨5, 105, none⟩)]).run Tryz.prog w = .ok (.int .u8 22) w := by kernel_rfl
theorem kindS (w : World) : ((ReflectliteType.abiMethod fun t => (fun a : Nat => Value.int IntKind.u8 (a : Int)) <$> Rtype.kind t) #[.pointer (some ⟨5, 103, none⟩)]).run Tryz.prog w = .ok (.int .u8 25) w := by kernel_rfl
theorem partsP (a : Addr) (w : World) : (ReflectliteValue.parts (.agg #[.pointer (some ⟨5, 105, none⟩), .pointer (some a), .int .u64 150])).run Tryz.prog w = .ok (some (105, a, 150)) w := by kernel_rfl
theorem isNilP (a p : Addr) (W : World) (ha : W.cell? a = some (.pointer (some p))) :
    (ReflectliteValue.method (ReflectliteValue.valueError "reflectlite.Value.IsNil" 0) ReflectliteValue.isNil #[.agg #[.pointer (some ⟨5, 105, none⟩), .pointer (some a), .int .u64 150]]).run Tryz.prog W = .ok (.bool false) W := by
  unfold ReflectliteValue.method ReflectliteValue.method.match_2
  simp [Array.getLit, partsP, ReflectliteValue.isNil, loadVar, isAgg, underlying, Tryz.underlying105, ha, Result.andThen]
theorem methodElem (h : Value) (w : World) : (Go.method 300 147 (.agg #[h]) "Elem").run Tryz.prog w = .ok (164, .agg #[h]) w := by kernel_rfl
theorem methodImplements (h : Value) (w : World) : (Go.method 300 147 (.agg #[h]) "Implements").run Tryz.prog w = .ok (165, .agg #[h]) w := by kernel_rfl
theorem methodAssignableTo (h : Value) (w : World) : (Go.method 300 147 (.agg #[h]) "AssignableTo").run Tryz.prog w = .ok (162, .agg #[h]) w := by kernel_rfl
theorem elemP (w : World) : (ReflectliteType.method ReflectliteType.elem #[.agg #[.pointer (some ⟨5, 105, none⟩)]]).run Tryz.prog w = .ok (.iface 147 (.agg #[.pointer (some ⟨5, 103, none⟩)])) w := by kernel_rfl
theorem implementsS (w : World) : (ReflectliteType.relation "Implements" ReflectliteType.implements_ #[.agg #[.pointer (some ⟨5, 103, none⟩)], .iface 147 (.agg #[.pointer (some ⟨5, 99, none⟩)])]).run Tryz.prog w = .ok (.bool true) w := by kernel_rfl
theorem typeOfS (v : Value) (w : World) : (ReflectliteType.typeOf #[.iface 103 v]).run Tryz.prog w = .ok (.iface 147 (.agg #[.pointer (some ⟨5, 103, none⟩)])) w := by kernel_rfl
theorem assignableS (w : World) : (ReflectliteType.relation "AssignableTo" ReflectliteType.assignableTo #[.agg #[.pointer (some ⟨5, 103, none⟩)], .iface 147 (.agg #[.pointer (some ⟨5, 103, none⟩)])]).run Tryz.prog w = .ok (.bool true) w := by kernel_rfl
theorem valueOfS (c : Int) (w : World) : (ReflectliteValue.unpack (.iface 103 (.agg #[.int .i64 c]))).run Tryz.prog w
    = .ok (.agg #[.pointer (some ⟨5, 103, none⟩), .pointer (some ⟨w.heap.size, 0, none⟩), .int .u64 153]) (w.alloc (.cells #[.int .i64 c] 103)) := by kernel_rfl
theorem elemOfP (w : World) : (Rtype.elem? 105).run Tryz.prog w = .ok (some 103) w := by kernel_rfl
theorem mkS (p : Addr) (w : World) : (ReflectliteValue.mk 103 p ReflectliteValue.flagAddr).run Tryz.prog w = .ok (.agg #[.pointer (some ⟨5, 103, none⟩), .pointer (some p), .int .u64 409]) w := by kernel_rfl
theorem elemVP (a p : Addr) (W : World) (ha : W.cell? a = some (.pointer (some p))) :
    (ReflectliteValue.method (ReflectliteValue.valueError "reflectlite.Value.Elem" 0) ReflectliteValue.elem #[.agg #[.pointer (some ⟨5, 105, none⟩), .pointer (some a), .int .u64 150]]).run Tryz.prog W
      = .ok (.agg #[.pointer (some ⟨5, 103, none⟩), .pointer (some p), .int .u64 409]) W := by
  unfold ReflectliteValue.method ReflectliteValue.method.match_2
  simp [Array.getLit, partsP, ReflectliteValue.elem, loadVar, isAgg, underlying, Tryz.underlying105, ha, Result.andThen, elemOfP, mkS]
theorem partsSa (a : Addr) (w : World) : (ReflectliteValue.parts (.agg #[.pointer (some ⟨5, 103, none⟩), .pointer (some a), .int .u64 409])).run Tryz.prog w = .ok (some (103, a, 409)) w := by kernel_rfl
theorem partsS (a : Addr) (w : World) : (ReflectliteValue.parts (.agg #[.pointer (some ⟨5, 103, none⟩), .pointer (some a), .int .u64 153])).run Tryz.prog w = .ok (some (103, a, 153)) w := by kernel_rfl
theorem directS (w : World) : (Rtype.directlyAssignable 103 103).run Tryz.prog w = .ok true w := by kernel_rfl
theorem sizeS (w : World) : (sizeOf 103).run Tryz.prog w = .ok 1 w := by kernel_rfl
theorem setS (ta b : Addr) (c : Int) (old : Value) (W : World) (hb : W.cell? b = some (.int .i64 c)) (ht : W.cell? ta = some old) (hf : W.frozen? ta = false) :
    (ReflectliteValue.set #[.agg #[.pointer (some ⟨5, 103, none⟩), .pointer (some ta), .int .u64 409], .agg #[.pointer (some ⟨5, 103, none⟩), .pointer (some b), .int .u64 153]]).run Tryz.prog W
      = .ok (.tuple #[]) (W.setCell ta (.int .i64 c)) := by
  have hl : (loadCells b 1).run Tryz.prog W = .ok #[.int .i64 c] W := by
    have := run_loadCells_list (P := Tryz.prog) W b [.int .i64 c] (fun j v hj => by
      match j, hj with
      | 0, hj => simp at hj; subst hj; simpa [Addr.add] using hb)
    simpa using this
  unfold ReflectliteValue.set ReflectliteValue.set.match_3
  simp [Array.getLit, partsSa, partsS, ReflectliteValue.flagAddr, loadVar, isAgg, underlying, Tryz.underlying103, Result.andThen, directS, storeVar, Value.cells, hl, storeCells, Addr.add]
  rw [run_store Tryz.prog W ta _ _ (by rfl)]
  simp [ht, hf]
def asBox (n : Nat) : Obj := .cells #[.pointer (some ⟨5, 105, none⟩), .pointer (some ⟨n, 0, none⟩), .int .u64 150] 128
def asW (t : Addr) (c : Int) (w : World) : World := (((w.alloc (.cells #[.pointer (some t)] 105)).alloc (asBox w.heap.size)).alloc (asBox w.heap.size)).alloc (.cells #[.int .i64 c] 103)
set_option maxHeartbeats 4000000 in
set_option maxRecDepth 100000 in
theorem as_hit (t : Addr) (c : Int) (old : Value) (w : World) (hg : w.cell? ⟨0, 0, none⟩ = some (.iface 147 (.agg #[.pointer (some ⟨5, 99, none⟩)]))) (ht0 : w.cell? t = some old) (hf0 : w.frozen? t = false) :
    Calls Tryz.prog 92 #[.iface 103 (.agg #[.int .i64 c]), .iface 105 (.pointer (some t))] w fun ev w' => ev = .returned (.bool true) ∧ w' = (asW t c w).setCell t (.int .i64 c) := by
  have hVO := @run_callFunc_extern Tryz.prog 109 _ (fun args => ReflectliteValue.unpack (args.getD 0 (.tuple #[]))) Tryz.func109 (by kernel_rfl) (by kernel_rfl) (by kernel_rfl) (by kernel_rfl)
  have hVT := @run_callFunc_extern Tryz.prog 110 _ (ReflectliteValue.methodAny (ReflectliteValue.valueError "reflectlite.Value.Type" 0) (fun t _ _ _ => ReflectliteType.toType t)) Tryz.func110 (by kernel_rfl) (by kernel_rfl) (by kernel_rfl) (by kernel_rfl)
  have hVN := @run_callFunc_extern Tryz.prog 111 _ (ReflectliteValue.method (ReflectliteValue.valueError "reflectlite.Value.IsNil" 0) ReflectliteValue.isNil) Tryz.func111 (by kernel_rfl) (by kernel_rfl) (by kernel_rfl) (by kernel_rfl)
  have hK := @run_callFunc_extern Tryz.prog 154 _ (ReflectliteType.abiMethod fun t => do pure (.int .u8 (← Rtype.kind t))) Tryz.func154 (by kernel_rfl) (by kernel_rfl) (by kernel_rfl) (by kernel_rfl)
  have hTE := @run_callFunc_extern Tryz.prog 164 _ (ReflectliteType.method ReflectliteType.elem) Tryz.func164 (by kernel_rfl) (by kernel_rfl) (by kernel_rfl) (by kernel_rfl)
  have hTI := @run_callFunc_extern Tryz.prog 165 _ (ReflectliteType.relation "Implements" ReflectliteType.implements_) Tryz.func165 (by kernel_rfl) (by kernel_rfl) (by kernel_rfl) (by kernel_rfl)
  have hTO := @run_callFunc_extern Tryz.prog 126 _ ReflectliteType.typeOf Tryz.func126 (by kernel_rfl) (by kernel_rfl) (by kernel_rfl) (by kernel_rfl)
  have hTA := @run_callFunc_extern Tryz.prog 162 _ (ReflectliteType.relation "AssignableTo" ReflectliteType.assignableTo) Tryz.func162 (by kernel_rfl) (by kernel_rfl) (by kernel_rfl) (by kernel_rfl)
  have hVE := @run_callFunc_extern Tryz.prog 127 _ (ReflectliteValue.method (ReflectliteValue.valueError "reflectlite.Value.Elem" 0) ReflectliteValue.elem) Tryz.func127 (by kernel_rfl) (by kernel_rfl) (by kernel_rfl) (by kernel_rfl)
  have hVS := @run_callFunc_extern Tryz.prog 128 _ ReflectliteValue.set Tryz.func128 (by kernel_rfl) (by kernel_rfl) (by kernel_rfl) (by kernel_rfl)
  have x1 := typeOfS
  have x2 := methodAssignableTo
  have x3 := assignableS
  have x4 := valueOfS
  have x5 := valueOfP
  have x6 := typeP
  have x7 := methodKind
  have x8 := methodElem
  have x9 := methodImplements
  have x10 := kindP
  have x11 := kindS
  have x12 := elemP
  have x13 := implementsS
  have n8 := isNilP ⟨w.heap.size, 0, none⟩ t ((w.alloc (.cells #[.pointer (some t)] 105)).alloc (asBox w.heap.size)) (by simp [asBox])
  have hlt : 0 < w.heap.size := World.block_lt_of_cell? w _ hg
  have hg2 : ((w.alloc (.cells #[.pointer (some t)] 105)).alloc (asBox w.heap.size)).cell? ⟨0, 0, none⟩ = some (.iface 147 (.agg #[.pointer (some ⟨5, 99, none⟩)])) := by
    rw [World.cell?_alloc_lt _ _ ⟨0, 0, none⟩ (by simp <;> omega), World.cell?_alloc_lt _ _ ⟨0, 0, none⟩ hlt]; exact hg
  have htl : t.block < w.heap.size := by
    rcases Nat.lt_or_ge t.block w.heap.size with h | h
    · exact h
    · simp [World.cell?, Array.getElem?_eq_none h] at ht0
  have el := elemVP ⟨w.heap.size, 0, none⟩ t (((w.alloc (.cells #[.pointer (some t)] 105)).alloc (asBox w.heap.size)).alloc (asBox w.heap.size)) (by rw [World.cell?_alloc_lt _ _ ⟨w.heap.size, 0, none⟩ (by simp <;> omega)]; simp [asBox])
  have st := setS t ⟨w.heap.size + 1 + 1 + 1, 0, none⟩ c old (asW t c w)
    (by unfold asW; rw [World.cell?_alloc_at _ _ _ _ (by simp)]; rfl)
    (by unfold asW; rw [World.cell?_alloc_lt _ _ t (by simp <;> omega), World.cell?_alloc_lt _ _ t (by simp <;> omega), World.cell?_alloc_lt _ _ t (by simp <;> omega), World.cell?_alloc_lt _ _ t htl]; exact ht0)
    (by unfold asW; rw [World.frozen?_alloc_old _ _ t (by simp <;> omega), World.frozen?_alloc_old _ _ t (by simp <;> omega), World.frozen?_alloc_old _ _ t (by simp <;> omega), World.frozen?_alloc_old _ _ t (Nat.ne_of_lt htl)]; exact hf0)
  unfold asW at st ⊢
  unfold asBox at *
  go_enter Tryz.func92, Tryz.ntmps92
  go_wp2
  refine wp_loop_rounds 1 ?_
  rw [rounds_succ]
  go_wp2
  go_ret
  exact ⟨rfl, rfl⟩
end Go.Proofs.YtjkmfjegphpjkaaGreatDoor
namespace Go.Proofs.YtjkmfjegphpjkaaGreatDoor
open Go.RowKit Go.Lib

def ErrType (w : World) : Prop := w.cell? ⟨0, 0, none⟩ = some (.iface 147 (.agg #[.pointer (some ⟨5, 99, none⟩)]))
theorem ErrType.pos {w : World} (h : ErrType w) : 0 < w.heap.size := World.block_lt_of_cell? w _ h
theorem ErrType.below {w w' : World} {B : Nat} (h : ErrType w) (hb : Below B w w') (hB : 0 < B) : ErrType w' := by
  unfold ErrType at *
  rw [hb.cell hB]; exact h
theorem below_asW (t : Addr) (c : Int) (w : World) : Below w.heap.size w (asW t c w) := by
  unfold asW
  exact ((((Below.refl _ _).alloc (Nat.le_refl _) _).alloc (by simp) _).alloc (by simp; omega) _).alloc (by simp; omega) _
theorem size_asW (t : Addr) (c : Int) (w : World) : (asW t c w).heap.size = w.heap.size + 4 := by
  unfold asW
  simp

theorem as_hit2 (t : Addr) (c : Int) (old : Value) (w : World) (hg : ErrType w) (ht0 : w.cell? t = some old) (hf0 : w.frozen? t = false) :
    Calls Tryz.prog 92 #[.iface 103 (.agg #[.int .i64 c]), .iface 105 (.pointer (some t))] w fun ev w' =>
      ev = .returned (.bool true) ∧ w'.cell? t = some (.int .i64 c) ∧ Below t.block w w' := by
  have htl := World.block_lt_of_cell? w t ht0
  refine (as_hit t c old w hg ht0 hf0).mono ?_
  rintro e w' ⟨rfl, rfl⟩
  have hb := below_asW t c w
  refine ⟨rfl, World.cell?_setCell_same _ _ _ ((hb.cell htl).trans ht0), (hb.mono (Nat.le_of_lt htl)).setCell (Nat.le_refl _) _⟩

end Go.Proofs.YtjkmfjegphpjkaaGreatDoor
namespace Go.Proofs.YtjkmfjegphpjkaaGreatDoor
end Go.Proofs.YtjkmfjegphpjkaaGreatDoor
namespace Go.Proofs.YtjkmfjegphpjkaaGreatDoor
open Go.RowKit Go.Lib

set_option maxHeartbeats 2000000 in
set_option maxRecDepth 100000 in
theorem implGet (s : ByteArray) (p : Int) (w : World) (hs : s.size ≤ maxLen) (hp0 : -9223372036854775808 ≤ p) (hp1 : p ≤ 9223372036854775807) (hg : ErrType w) :
    Calls Tryz.prog 68 #[.string s, .int .i64 p] w fun e w' => e = .returned (numV (numAt s p)) ∧ Below w.heap.size w w' := by
  have hread := fun W => readNum s p W hs hp0 hp1
  generalize numAt s p = R at *
  have HR : Hid (∀ W, Calls Tryz.prog 91 #[.string s, .int .i64 p] W fun e w' => ReadOk R e ∧ w' = W) := hread
  have HG : Hid (ErrType w) := hg
  have hpos := hg.pos
  clear hread hg
  go_enter Tryz.func68, Tryz.ntmps68
  go_wp2_with fail
  refine (HR.out _).mono ?_
  rintro e w' ⟨hb, rfl⟩
  rcases hb with ⟨hc, rfl⟩ | ⟨hc, hR, n, rfl⟩
  · have HC : Hid (R.code = 0) := hc
    clear hc
    go_wp2_with fail
    refine (as_nil _ _).mono ?_
    rintro e w' ⟨rfl, rfl⟩
    go_wp2
    refine bodyPost_ret (v := .agg #[.int .i64 R.n, .int .i64 R.at', .int .i64 0]) (by simp [results, Tryz.results68, go_sem]) rfl ⟨?_, ?_⟩
    · rw [numV, HC.out]
    · repeat (first | exact Below.refl _ _ | refine Below.setCell ?_ (by simp) _ | refine Below.alloc ?_ (by simp) _)
  · have HC : Hid (R = .bad R.code) := hR
    generalize hcc : R.code = c at *
    have HCC : Hid (R.code = c) := hcc
    clear hc hR hcc
    have HG2 : Hid (∀ o1 o2, ErrType ((w.alloc o1).alloc o2)) := fun o1 o2 => HG.out.below (((Below.refl _ _).alloc (Nat.le_refl _) o1).alloc (by simp) o2) hpos
    go_wp2_with fail
    refine (as_hit2 ⟨w.heap.size + 1, 0, none⟩ c (.int .i64 0) _ (HG2.out _ _) (by simp) (by simp)).mono ?_
    rintro e w1 ⟨rfl, ht, hb⟩
    have hB : Below (w.heap.size + 1) ((w.alloc (Obj.cells #[Value.int IntKind.i64 0, Value.int IntKind.i64 0, Value.int IntKind.i64 0] 82)).alloc (Obj.cells #[Value.int IntKind.i64 0] 103)) w1 := hb
    have c0 : w1.cell? ⟨w.heap.size, 0, none⟩ = some (.int .i64 0) := (hB.cell (by simp)).trans (by simp)
    have c1 : w1.cell? ⟨w.heap.size, 1, none⟩ = some (.int .i64 0) := (hB.cell (by simp)).trans (by simp)
    have c2 : w1.cell? ⟨w.heap.size, 2, none⟩ = some (.int .i64 0) := (hB.cell (by simp)).trans (by simp)
    have f0 : w1.frozen? ⟨w.heap.size, 0, none⟩ = false := (hB.frozen (by simp)).trans (by simp)
    have f1 : w1.frozen? ⟨w.heap.size, 1, none⟩ = false := (hB.frozen (by simp)).trans (by simp)
    have f2 : w1.frozen? ⟨w.heap.size, 2, none⟩ = false := (hB.frozen (by simp)).trans (by simp)
    have HB : Hid (Below w.heap.size w w1) := (((Below.refl _ w).alloc (Nat.le_refl _) _).alloc (by simp) _).trans (hB.mono (Nat.le_succ _))
    clear hb hB
    go_wp2
    refine bodyPost_ret (v := .agg #[.int .i64 0, .int .i64 0, .int .i64 c]) (by simp [results, Tryz.results68, go_sem, c0, c1, c2]) rfl ⟨?_, ?_⟩
    · rw [HC.out]; rfl
    · repeat (first | exact HB.out | refine Below.setCell ?_ (by simp) _)
end Go.Proofs.YtjkmfjegphpjkaaGreatDoor
namespace Go.Proofs.YtjkmfjegphpjkaaGreatDoor
open Go.RowKit Go.Lib

set_option maxHeartbeats 1000000 in
set_option maxRecDepth 100000 in
theorem copyText (a : ByteArray) (w : World) (ha : a.size ≤ 1100000) :
    Calls Tryz.prog 113 #[.string a] w fun e w' => e = .returned (.string a) ∧ Below w.heap.size w w' := by
  obtain ⟨i0, hi, hz0, hz1, hz2⟩ := info_parts infoByte
  go_enter Tryz.func113, Tryz.ntmps113
  go_wp2_with (at_make; refine wpList_make_full _ rfl _ _ 22 rfl w.heap.size 5 i0 (.int .u8 0) 1 Tryz.underlying22 hi hz0 hz1 .i64 .i64 _ _ a.size rfl rfl ?c1 ?c2 ?c3 ?c4 ?c5 ?_)
  case c1 => omega
  case c2 => omega
  case c3 => rw [hz2]; omega
  case c4 => unfold maxLen; omega
  case c5 => exact Nat.le_refl _
  intro w1 hown hgrow
  obtain ⟨hrow, hlen⟩ := rowOf hown rfl
  have hB1 : Below w.heap.size w w1 := (Below.refl _ w).grown hgrow (Nat.le_refl _) (fun k hk => by cases hk)
  generalize (madeCells #[Value.int IntKind.u8 0] a.size).toList = L at hrow hlen
  have la : (byteCells a.data.toList).length = a.size := by rw [byteCells_length, ← size_eq]
  have HF : Hid (∀ w3 : World, w3.heap[w.heap.size]? = some (.cells (splice L 0 (byteCells a.data.toList)).toArray 5 (0, 0)) →
      (convert 22 9 (.slice (some ⟨w.heap.size, 0, none⟩) a.size a.size)).run Tryz.prog w3 = .ok (.string a) w3) := by
    intro w3 h3
    rw [splice_one L (byteCells a.data.toList) (by omega)] at h3
    have h4 : w3.heap[w.heap.size]? = some (.cells (byteCells a.data.toList ++ []).toArray 5 (0, 0)) := by simpa using h3
    have := run_convert_row (P := Tryz.prog) (src := 22) (dst := 9) (cap := a.size) Tryz.underlying22 Tryz.underlying5 Tryz.underlying9 h4
    rw [← size_eq] at this
    exact this
  clear hown hgrow la
  go_wp2_with (refine wpList_copy_str rfl _ _ 22 9 rfl 5 Tryz.underlying22 byteSize _ _ _ a rfl rfl w.heap.size 0 L 5 hrow (fun _ => rfl) ?d2 ?d3 w.heap.size w hB1 (Nat.le_refl _) ?_)
  case d2 => exact Nat.le_refl _
  case d3 => omega
  intro w2 H2 hB2 hs2
  have hcv := HF.out w2 H2.out
  clear hrow hB1 hs2
  go_wp2
  go_ret
  exact ⟨rfl, hB2⟩

end Go.Proofs.YtjkmfjegphpjkaaGreatDoor
