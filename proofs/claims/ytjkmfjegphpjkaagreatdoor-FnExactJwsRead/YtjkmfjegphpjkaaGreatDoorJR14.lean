/- spec.l04Check, spec.SigCheck, walked. spec.JwsRead, walked. strings.Split at a dot: by the shelf's genSplit and its callees at one byte. What Base64Read tells, as a value. The map of signs: impl.signValues, walked. -/
import Derived.Test.YtjkmfjegphpjkaaGreatDoorJR13
import Derived.Test.YtjkmfjegphpjkaaGreatDoorJR11
import Derived.Test.YtjkmfjegphpjkaaGreatDoorJR04
import Derived.Deep.QuietTactic
import Derived.BigQuiet
import Derived.Deep.RegionHeld3
import Derived.Test.YtjkmfjegphpjkaaGreatDoorJR08
import Derived.Test.YtjkmfjegphpjkaaGreatDoorJR12
import Derived.Deep.MidRow
import Derived.Deep.Cut
import Derived.Test.YtjkmfjegphpjkaaGreatDoorJR01
import Derived.Test.YtjkmfjegphpjkaaGreatDoorJR05
import Derived.Test.YtjkmfjegphpjkaaGreatDoorJR03
import Derived.Maps.OwnSet
import Derived.Lib.OthersKept
import Derived.Lib.TrimU
import Derived.WalkArith
namespace Go.Proofs.YtjkmfjegphpjkaaGreatDoor
open Go.RowKit

/-- A power modulo GroupP, of numbers as a call has them. -/
def powP (a n : Int) : Int := ((pm a.toNat n.toNat 2147483579 : Nat) : Int)
theorem powP_nat (a n : Nat) : powP a n = ((pm a n 2147483579 : Nat) : Int) := by unfold powP; rw [Int.toNat_natCast, Int.toNat_natCast]
theorem specPowP (a n : Int) (w : World) (ha : 0 ≤ a) (hn : 0 ≤ n) (hn2 : n ≤ 9223372036854775807) :
    Calls Tryz.prog 45 #[.int .i64 a, .int .i64 n, .int .i64 2147483579] w fun e w' => e = .returned (.int .i64 (powP a n)) ∧ w' = w := by
  obtain ⟨A, rfl⟩ := Int.eq_ofNat_of_zero_le ha
  obtain ⟨N, rfl⟩ := Int.eq_ofNat_of_zero_le hn
  rw [powP_nat]
  exact specPow A N 2147483579 w (by omega) (by omega) (by omega)
set_option maxHeartbeats 1000000 in
set_option maxRecDepth 100000 in
theorem specCheck (k e s : Nat) (t : ByteArray) (w : World) (ht : t.size ≤ 20000) (hk : k < 2147483579) (he : e < 1073741789) (hs : s < 1073741789) :
    Calls Tryz.prog 77 #[.agg #[.int .i64 (k : Int), .int .i64 (e : Int), .int .i64 (s : Int)], .string t] w fun r w' => r = .returned (.bool (decide ((chal (backR k e s : Nat) k t : Int) = (e : Int)))) ∧ Below w.heap.size w w' := by
  obtain ⟨j, hj⟩ : ∃ j : Nat, j = 1073741789 - e := ⟨_, rfl⟩
  obtain ⟨y1, hy1⟩ : ∃ y : Nat, y = pm 4 s 2147483579 := ⟨_, rfl⟩
  obtain ⟨y2, hy2⟩ : ∃ y : Nat, y = pm k j 2147483579 := ⟨_, rfl⟩
  have hb := backR_nat k e s
  rw [← hj, ← hy1, ← hy2] at hb
  have e1 : powP 4 (s : Int) = (y1 : Int) := by rw [hy1]; exact powP_nat 4 s
  have e2 : powP (k : Int) (j : Int) = (y2 : Int) := by rw [hy2]; exact powP_nat k j
  have q1 : y1 < 2147483579 := by rw [hy1]; exact pm_lt 4 s (by omega)
  have q2 : y2 < 2147483579 := by rw [hy2]; exact pm_lt k j (by omega)
  have hj' : (1073741789 : Int) - (e : Int) = (j : Int) := by omega
  obtain ⟨p, hp, ep, lp, up⟩ := prod_bd y1 y2 (by omega) (by omega)
  obtain ⟨b, hbb⟩ : ∃ b : Nat, b = backR k e s := ⟨_, rfl⟩
  rw [← hbb] at hb
  have hz : b < 2147483579 := by rw [hb]; exact Nat.mod_lt _ (by omega)
  have t0 : (p : Int).tmod 2147483579 = (b : Int) := by rw [hb, ← hp]; exact tmodN p 2147483579
  obtain ⟨c, hc⟩ : ∃ c : Nat, c = chal (b : Int) k t := ⟨_, rfl⟩
  have HX : Hid (∀ v : World, Calls Tryz.prog 65 #[.int .i64 (b : Int), .int .i64 (k : Int), .string t] v fun r w' => r = .returned (.int .i64 (c : Int)) ∧ Below v.heap.size v w') := fun v => by rw [hc]; exact specChal _ _ t v ht (by omega) (by omega) (by omega) (by omega)
  rw [← hbb, ← hc]
  clear hb hp q1 q2 hj hy1 hy2 hbb hc hz hk
  go_enter Tryz.func77, Tryz.ntmps77
  go_wp2_with fail
  go_quiet ((go_at_call 45; exact Calls.quiet_of_same (specPowP _ _ _ (by omega) (by omega) (by omega))))
  go_wp2_with fail
  obtain ⟨w1, hw1⟩ : ∃ w1, (w.alloc (.cells #[.int .i64 (k : Int), .int .i64 (e : Int), .int .i64 (s : Int)] 32 (0, 0))).drewN nq = w1 := ⟨_, rfl⟩
  have hg1 : w1.heap[w.heap.size]? = some (.cells [Value.int .i64 (k : Int), .int .i64 (e : Int), .int .i64 (s : Int)].toArray 32 (0, 0)) := by rw [← hw1]; exact heap_alloc_new w _
  have hb1 : Below w.heap.size w w1 := by rw [← hw1]; exact below_drewN (allocBelow w _) nq
  rw [hw1]
  have p0 := rowFacts hg1 0 _ rfl
  have p1 := rowFacts hg1 1 _ rfl
  have HT : Hid (Calls Tryz.prog 65 #[.int .i64 (b : Int), .int .i64 (k : Int), .string t] w1.drew fun r W => r = .returned (.int .i64 (c : Int)) ∧ Hid (Below w.heap.size w W) ∧ W.cell? ⟨w.heap.size, 0, none⟩ = some (.int .i64 (k : Int)) ∧ W.cell? ⟨w.heap.size, 1, none⟩ = some (.int .i64 (e : Int))) := by
    show Calls _ _ _ _ _
    refine (HX.out w1.drew).mono ?_
    rintro r W ⟨rfl, hb⟩
    have hl : w.heap.size < w1.drew.heap.size := heap_lt (show w1.drew.heap[w.heap.size]? = _ from hg1)
    exact ⟨rfl, hb1.drew.trans (hb.mono (Nat.le_of_lt hl)), by rw [hb.cell hl]; exact p0, by rw [hb.cell hl]; exact p1⟩
  clear hw1 hg1 hb1 HX e1 e2 hj' ep lp up t0
  go_region_held3 (fun V => V.cell? ⟨w.heap.size, 0, none⟩ = some (.int .i64 (k : Int)) ∧ V.cell? ⟨w.heap.size, 1, none⟩ = some (.int .i64 (e : Int))) (first | exact ⟨c0, c1⟩ | go_keep)
    (first | (go_at_call 65; refine HT.out.mono ?_; rintro r W ⟨rfl, kk, c0, c1⟩))
  all_goals
    go_wp2
    go_ret
    exact ⟨rfl, kk.out⟩
set_option maxHeartbeats 1000000 in
set_option maxRecDepth 100000 in
theorem specSigCheck (k e s : Int) (t : ByteArray) (w : World) (ht : t.size ≤ maxLen) :
    Calls Tryz.prog 48 #[.agg #[.int .i64 k, .int .i64 e, .int .i64 s], .string t] w fun r w' => r = .returned (.bool (sigCB k e s t)) ∧ Below w.heap.size w w' := by
  have htm := ht
  unfold maxLen at htm
  by_cases h1 : 20000 < t.size
  · have ea : Hid (sigCB k e s t = false) := sigCB_long h1
    go_enter Tryz.func48, Tryz.ntmps48
    go_wp2
    go_ret
    exact ⟨by rw [ea.out]; rfl, allocBelow _ _⟩
  have ht2 : t.size ≤ 20000 := by omega
  by_cases h2 : sigRB k e s = true
  · obtain ⟨K, E, S, rfl, rfl, rfl, hk, he, hs, _⟩ := sigRB_nat h2
    have ea : Hid (sigCB K E S t = decide ((chal (backR K E S : Nat) K t : Int) = (E : Int))) := sigCB_right ht2 h2
    have HX : Hid (∀ v : World, Calls Tryz.prog 77 #[.agg #[.int .i64 (K : Int), .int .i64 (E : Int), .int .i64 (S : Int)], .string t] v fun r w' => r = .returned (.bool (decide ((chal (backR K E S : Nat) K t : Int) = (E : Int)))) ∧ Below v.heap.size v w') := fun v => specCheck K E S t v ht2 hk he hs
    generalize decide ((chal (backR K E S : Nat) K t : Int) = (E : Int)) = b at *
    go_enter Tryz.func48, Tryz.ntmps48
    go_wp2_with fail
    refine (specSigRight K E S _).mono ?_
    rintro r w1 ⟨rfl, hb1⟩
    rw [h2]
    have c0 : w1.cell? ⟨w.heap.size, 0, none⟩ = some (.int .i64 (K : Int)) := by rw [hb1.cell (p := ⟨w.heap.size, 0, none⟩) (by simp)]; simp
    have c1 : w1.cell? ⟨w.heap.size, 1, none⟩ = some (.int .i64 (E : Int)) := by rw [hb1.cell (p := ⟨w.heap.size, 1, none⟩) (by simp)]; simp
    have c2 : w1.cell? ⟨w.heap.size, 2, none⟩ = some (.int .i64 (S : Int)) := by rw [hb1.cell (p := ⟨w.heap.size, 2, none⟩) (by simp)]; simp
    have B1 : Hid (Below w.heap.size w w1) := (allocBelow w _).trans (hb1.mono (by simp))
    clear hb1
    go_wp2_with fail
    refine (HX.out _).mono ?_
    rintro r w2 ⟨rfl, hb2⟩
    have B2 : Hid (Below w.heap.size w w2) := B1.out.trans (hb2.mono B1.out.size)
    clear hb2
    go_wp2
    go_ret
    exact ⟨by rw [ea.out]; rfl, B2.out⟩
  · rw [Bool.not_eq_true] at h2
    have ea : Hid (sigCB k e s t = false) := sigCB_wrong h2
    go_enter Tryz.func48, Tryz.ntmps48
    go_wp2_with fail
    refine (specSigRight k e s _).mono ?_
    rintro r w1 ⟨rfl, hb1⟩
    rw [h2]
    have B1 : Hid (Below w.heap.size w w1) := (allocBelow w _).trans (hb1.mono (by simp))
    clear hb1
    go_wp2
    go_ret
    exact ⟨by rw [ea.out]; rfl, B1.out⟩
end Go.Proofs.YtjkmfjegphpjkaaGreatDoor
namespace Go.Proofs.YtjkmfjegphpjkaaGreatDoor
open Go.RowKit Go.Lib

theorem sizeJwsOutS : (Tryz.prog.info? 36).map (·.size) = some 8 := by kernel_rfl
set_option linter.unusedSimpArgs false in
set_option maxHeartbeats 8000000 in
set_option maxRecDepth 100000 in
theorem specJwsRead (s : ByteArray) (w : World) (hs : s.size ≤ maxLen) :
    Calls Tryz.prog 17 #[.string s] w fun e w' => e = .returned (Rq.outV (jwsR s)) ∧ Below w.heap.size w w' := by
  obtain ⟨w1, hw1⟩ : ∃ y, y = w.alloc (.cells #[.int .i64 0, .int .i64 0, .string ⟨#[]⟩, .string ⟨#[]⟩, .int .i64 0, .int .i64 0, .int .i64 0, .int .i64 0] 36 (0, 0)) := ⟨_, rfl⟩
  have hz : w1.heap.size = w.heap.size + 1 := by rw [hw1]; simp
  have L1 : Hid (HasB w1 [(w.heap.size, [Value.int .i64 0, .int .i64 0, .string ⟨#[]⟩, .string ⟨#[]⟩, .int .i64 0, .int .i64 0, .int .i64 0, .int .i64 0], 36)]) := by rw [hw1]; exact (HasB.nil w).alloc _ _
  have B1 : Hid (Below w.heap.size w w1) := by rw [hw1]; exact (Below.refl _ w).alloc (Nat.le_refl _) _
  have hi' := sizeJwsOutS
  have HR : Hid (jwsR s = if 20000 < s.size then (.zero, 2) else jwsTell (readJS s) s) := jwsR_spec s
  have HRd : Hid (¬ 20000 < s.size → ∀ V, Below w.heap.size w V → Calls Tryz.prog 46 #[.string s] V fun e w' => e = .returned (readJS s).val ∧ Below V.heap.size V w') := fun h V hV => specJws s V (by omega)
  have HSZ : Hid (¬ 20000 < s.size → (readJS s).url.size ≤ maxLen ∧ (readJS s).body.size ≤ maxLen) := readJS_sizes
  unfold maxLen at hs
  generalize jwsR s = R at *
  generalize readJS s = RJ at *
  go_enter Tryz.func17, Tryz.ntmps17
  go_upto_region 1 with fail
  rw [← hw1]
  clear hw1
  by_cases hl : 20000 < s.size
  · have HF : Hid (R = (.zero, 2)) := by show _ = _; rw [HR.out, if_pos hl]
    have hR := L1.out.head
    go_wp2_with (refine wpList_store_row rfl 36 _ _ rfl (w.heap.size) _ [Value.int .i64 0, .int .i64 0, .string ⟨#[]⟩, .string ⟨#[]⟩, .int .i64 0, .int .i64 0, .int .i64 0, .int .i64 2] 36 rfl rfl hR rfl hi' (by simp [Value.oneCell']) ?_)
    intro w8 hrow ho hs8 hbb
    have HROW : Hid _ := hrow
    have HB8 : Hid (Below w.heap.size w w8) := hbb _ _ (Nat.le_refl _) B1.out
    clear ho hs8 hbb hrow hR
    go_wp2
    refine bodyPost_ret (v := .agg [Value.int .i64 0, .int .i64 0, .string ⟨#[]⟩, .string ⟨#[]⟩, .int .i64 0, .int .i64 0, .int .i64 0, .int .i64 2].toArray) ?_ rfl ⟨by rw [HF.out]; rfl, HB8.out⟩
    have hl3 := run_loadVar_mid (P := Tryz.prog) _ (w.heap.size) 0 36 _ _ (rangeRow HROW.out) Tryz.underlying36 rfl hi'
    simp [results, Tryz.results17, asAddr, hl3]
  have HT : Hid (R = jwsTell RJ s) := by show _ = _; rw [HR.out, if_neg hl]
  have HRd' := HRd.out hl
  have HRD : Hid _ := HRd'
  clear HR HRd HRd'
  obtain ⟨key, nonce, url, body, se, ss⟩ := RJ
  unfold Rq.val jV at HRD
  simp only at HRD
  have hur : url.size ≤ maxLen ∧ body.size ≤ maxLen := HSZ.out hl
  clear HSZ
  go_wp2_with fail
  refine (HRD.out _ B1.out).mono ?_
  rintro e w2 ⟨rfl, b2⟩
  have L2 : Hid (HasB w2 [(w.heap.size, [Value.int .i64 0, .int .i64 0, .string ⟨#[]⟩, .string ⟨#[]⟩, .int .i64 0, .int .i64 0, .int .i64 0, .int .i64 0], 36)]) := HasB.keep L1.out b2
  have B2 : Hid (Below w.heap.size w w2) := B1.out.trans (b2.mono B1.out.size)
  obtain ⟨jb, hjb⟩ : ∃ b, b = w2.heap.size := ⟨_, rfl⟩
  obtain ⟨w3, hw3⟩ : ∃ y, y = w2.alloc (.cells #[.int .i64 key, .int .i64 nonce, .string url, .string body, .int .i64 key, .int .i64 se, .int .i64 ss] 34 (0, 0)) := ⟨_, rfl⟩
  have L3 : Hid (HasB w3 [(jb, [Value.int .i64 key, .int .i64 nonce, .string url, .string body, .int .i64 key, .int .i64 se, .int .i64 ss], 34), (w.heap.size, [Value.int .i64 0, .int .i64 0, .string ⟨#[]⟩, .string ⟨#[]⟩, .int .i64 0, .int .i64 0, .int .i64 0, .int .i64 0], 36)]) := by rw [hw3, hjb]; exact HasB.alloc L2.out _ _
  have B3 : Hid (Below w.heap.size w w3) := by rw [hw3]; exact B2.out.alloc B2.out.size _
  have hj3 : jb < w3.heap.size := heap_lt L3.out.head
  clear b2 L2 B2 L1 B1 HRD hz
  have C1 : Hid (∀ V, Calls Tryz.prog 47 #[.agg #[.int .i64 key, .int .i64 nonce, .string url, .string body, .int .i64 key, .int .i64 se, .int .i64 ss]] V fun e w' => e = .returned (.bool (rqB key nonce url body && sigRB key se ss)) ∧ Below V.heap.size V w') := fun V => specRight key nonce url body se ss V hur.1 hur.2
  have C3 : Hid ((rqB key nonce url body && sigRB key se ss) = true → ∀ V, Calls Tryz.prog 41 #[.agg #[.int .i64 key, .int .i64 nonce, .string url, .string body, .int .i64 key, .int .i64 se, .int .i64 ss]] V fun e w' => e = .returned (.string (jText key nonce url body se ss)) ∧ Below V.heap.size V w') := fun h V => by
    obtain ⟨k1, k2, k3, k4, k5, k6⟩ := right_in h
    exact specText key nonce url body key se ss V k1 k2 k3 k4 k5 k6
  have C4 : Hid ((rqB key nonce url body && sigRB key se ss) = true → ∀ V, Calls Tryz.prog 40 #[.agg #[.int .i64 key, .int .i64 nonce, .string url, .string body, .int .i64 key, .int .i64 se, .int .i64 ss]] V fun e w' => e = .returned (.string (jTwo key nonce url body)) ∧ Below V.heap.size V w') := fun h V => by
    obtain ⟨k1, k2, k3, k4, k5, k6⟩ := right_in h
    exact specHead key nonce url body key se ss V k1 k2 k3 k4
  have C5 : Hid ((rqB key nonce url body && sigRB key se ss) = true → ∀ V, Calls Tryz.prog 48 #[.agg #[.int .i64 key, .int .i64 se, .int .i64 ss], .string (jTwo key nonce url body)] V fun e w' => e = .returned (.bool (sigCB key se ss (jTwo key nonce url body))) ∧ Below V.heap.size V w') := fun h V => by
    obtain ⟨k1, k2, k3, k4, k5, k6⟩ := right_in h
    have := jTwo_size key nonce url body
    exact specSigCheck key se ss _ V (by unfold maxLen; omega)
  have N1 : Hid (¬ ((rqB key nonce url body && sigRB key se ss) = true ∧ jText key nonce url body se ss = s) → R = (.zero, 3)) := fun h => by rw [HT.out]; exact tell_no h
  have N2 : Hid ((rqB key nonce url body && sigRB key se ss) = true → jText key nonce url body se ss = s → sigCB key se ss (jTwo key nonce url body) = false → R = (.zero, 6)) := fun h1 h2 h3 => by rw [HT.out]; exact tell_sig (j := ⟨key, nonce, url, body, se, ss⟩) ⟨h1, h2⟩ h3
  have N3 : Hid ((rqB key nonce url body && sigRB key se ss) = true → jText key nonce url body se ss = s → sigCB key se ss (jTwo key nonce url body) = true → R = (⟨key, nonce, url, body, se, ss⟩, 0)) := fun h1 h2 h3 => by rw [HT.out]; exact tell_all (j := ⟨key, nonce, url, body, se, ss⟩) ⟨h1, h2⟩ h3
  clear HT hur
  generalize rqB key nonce url body = P1 at *
  generalize sigRB key se ss = P2 at *
  generalize jText key nonce url body se ss = TX at *
  generalize jTwo key nonce url body = TW at *
  generalize sigCB key se ss TW = P3 at *
  go_upto_region 4 with fail
  rw [← hw3, ← hjb]
  clear hw3 hjb
  have d0 := rowFacts L3.out.head 0 _ rfl
  have d1 := rowFacts L3.out.head 1 _ rfl
  have d2 := rowFacts L3.out.head 2 _ rfl
  have d3 := rowFacts L3.out.head 3 _ rfl
  have d4 := rowFacts L3.out.head 4 _ rfl
  have d5 := rowFacts L3.out.head 5 _ rfl
  have d6 := rowFacts L3.out.head 6 _ rfl
  cases hP : (P1 && P2) with
  | false =>
    rw [hP] at C1
    have HF : Hid (R = (.zero, 3)) := N1.out (fun h => by rw [hP] at h; cases h.1)
    go_wp2_with fail
    refine (C1.out _).mono ?_
    rintro e w4 ⟨rfl, b'⟩
    clear d0 d1 d2 d3 d4 d5 d6
    have L4 : Hid (HasB w4 [(jb, [Value.int .i64 key, .int .i64 nonce, .string url, .string body, .int .i64 key, .int .i64 se, .int .i64 ss], 34), (w.heap.size, [Value.int .i64 0, .int .i64 0, .string ⟨#[]⟩, .string ⟨#[]⟩, .int .i64 0, .int .i64 0, .int .i64 0, .int .i64 0], 36)]) := HasB.keep L3.out b'
    have B4 : Hid (Below w.heap.size w w4) := B3.out.trans (b'.mono B3.out.size)
    clear b'
    have hR := L4.out.tail.head
    go_wp2_with (refine wpList_store_row rfl 36 _ _ rfl (w.heap.size) _ [Value.int .i64 0, .int .i64 0, .string ⟨#[]⟩, .string ⟨#[]⟩, .int .i64 0, .int .i64 0, .int .i64 0, .int .i64 3] 36 rfl rfl hR rfl hi' (by simp [Value.oneCell']) ?_)
    intro w8 hrow ho hs8 hbb
    have HROW : Hid _ := hrow
    have HB8 : Hid (Below w.heap.size w w8) := hbb _ _ (Nat.le_refl _) B4.out
    clear ho hs8 hbb hrow hR
    go_wp2
    refine bodyPost_ret (v := .agg [Value.int .i64 0, .int .i64 0, .string ⟨#[]⟩, .string ⟨#[]⟩, .int .i64 0, .int .i64 0, .int .i64 0, .int .i64 3].toArray) ?_ rfl ⟨by rw [HF.out]; rfl, HB8.out⟩
    have hl3 := run_loadVar_mid (P := Tryz.prog) _ (w.heap.size) 0 36 _ _ (rangeRow HROW.out) Tryz.underlying36 rfl hi'
    simp [results, Tryz.results17, asAddr, hl3]
  | true =>
  rw [hP] at C1
  have C3' := C3.out hP
  have C4' := C4.out hP
  have C5' := C5.out hP
  go_wp2_with fail
  refine (C1.out _).mono ?_
  rintro e w4 ⟨rfl, b'⟩
  clear d0 d1 d2 d3 d4 d5 d6
  have L4 : Hid (HasB w4 [(jb, [Value.int .i64 key, .int .i64 nonce, .string url, .string body, .int .i64 key, .int .i64 se, .int .i64 ss], 34), (w.heap.size, [Value.int .i64 0, .int .i64 0, .string ⟨#[]⟩, .string ⟨#[]⟩, .int .i64 0, .int .i64 0, .int .i64 0, .int .i64 0], 36)]) := HasB.keep L3.out b'
  have B4 : Hid (Below w.heap.size w w4) := B3.out.trans (b'.mono B3.out.size)
  clear b'
  have d0 := rowFacts L4.out.head 0 _ rfl
  have d1 := rowFacts L4.out.head 1 _ rfl
  have d2 := rowFacts L4.out.head 2 _ rfl
  have d3 := rowFacts L4.out.head 3 _ rfl
  have d4 := rowFacts L4.out.head 4 _ rfl
  have d5 := rowFacts L4.out.head 5 _ rfl
  have d6 := rowFacts L4.out.head 6 _ rfl
  go_wp2_with fail
  refine (C3' _).mono ?_
  rintro e w5 ⟨rfl, b'⟩
  clear d0 d1 d2 d3 d4 d5 d6
  have L5 : Hid (HasB w5 [(jb, [Value.int .i64 key, .int .i64 nonce, .string url, .string body, .int .i64 key, .int .i64 se, .int .i64 ss], 34), (w.heap.size, [Value.int .i64 0, .int .i64 0, .string ⟨#[]⟩, .string ⟨#[]⟩, .int .i64 0, .int .i64 0, .int .i64 0, .int .i64 0], 36)]) := HasB.keep L4.out b'
  have B5 : Hid (Below w.heap.size w w5) := B4.out.trans (b'.mono B4.out.size)
  clear b'
  by_cases hT : TX = s
  rotate_left
  · have HF : Hid (R = (.zero, 3)) := N1.out (fun h => hT h.2)
    have hn1 : (TX.toList == s.toList) = false := by rw [same_text']; exact decide_eq_false hT
    have hn : (TX.toList != s.toList) = true := by rw [bne, hn1]; rfl
    have hR := L5.out.tail.head
    go_wp2_with (refine wpList_store_row rfl 36 _ _ rfl (w.heap.size) _ [Value.int .i64 0, .int .i64 0, .string ⟨#[]⟩, .string ⟨#[]⟩, .int .i64 0, .int .i64 0, .int .i64 0, .int .i64 3] 36 rfl rfl hR rfl hi' (by simp [Value.oneCell']) ?_)
    intro w8 hrow ho hs8 hbb
    have HROW : Hid _ := hrow
    have HB8 : Hid (Below w.heap.size w w8) := hbb _ _ (Nat.le_refl _) B5.out
    clear ho hs8 hbb hrow hR
    go_wp2
    refine bodyPost_ret (v := .agg [Value.int .i64 0, .int .i64 0, .string ⟨#[]⟩, .string ⟨#[]⟩, .int .i64 0, .int .i64 0, .int .i64 0, .int .i64 3].toArray) ?_ rfl ⟨by rw [HF.out]; rfl, HB8.out⟩
    have hl3 := run_loadVar_mid (P := Tryz.prog) _ (w.heap.size) 0 36 _ _ (rangeRow HROW.out) Tryz.underlying36 rfl hi'
    simp [results, Tryz.results17, asAddr, hl3]
  have hn1 : (TX.toList == s.toList) = true := by rw [same_text']; exact decide_eq_true hT
  have hn : (TX.toList != s.toList) = false := by rw [bne, hn1]; rfl
  have d0 := rowFacts L5.out.head 0 _ rfl
  have d1 := rowFacts L5.out.head 1 _ rfl
  have d2 := rowFacts L5.out.head 2 _ rfl
  have d3 := rowFacts L5.out.head 3 _ rfl
  have d4 := rowFacts L5.out.head 4 _ rfl
  have d5 := rowFacts L5.out.head 5 _ rfl
  have d6 := rowFacts L5.out.head 6 _ rfl
  have HK : Hid (∀ V, Below w5.heap.size w5 V → V.cell? ⟨jb, 0, none⟩ = some (.int .i64 key) ∧ V.cell? ⟨jb, 1, none⟩ = some (.int .i64 nonce) ∧ V.cell? ⟨jb, 2, none⟩ = some (.string url) ∧ V.cell? ⟨jb, 3, none⟩ = some (.string body) ∧ V.cell? ⟨jb, 4, none⟩ = some (.int .i64 key) ∧ V.cell? ⟨jb, 5, none⟩ = some (.int .i64 se) ∧ V.cell? ⟨jb, 6, none⟩ = some (.int .i64 ss)) := fun V hV => by
    have hP := (HasB.keep L5.out hV).head
    exact ⟨rowFacts hP 0 _ rfl, rowFacts hP 1 _ rfl, rowFacts hP 2 _ rfl, rowFacts hP 3 _ rfl, rowFacts hP 4 _ rfl, rowFacts hP 5 _ rfl, rowFacts hP 6 _ rfl⟩
  have D4 : Hid (∀ V, Hid (Below w5.heap.size w5 V) → Calls Tryz.prog 40 #[.agg #[.int .i64 key, .int .i64 nonce, .string url, .string body, .int .i64 key, .int .i64 se, .int .i64 ss]] V fun e W => e = .returned (.string TW) ∧ Hid (Below w5.heap.size w5 W)) := fun V hV => (C4' V).mono fun e W h => ⟨h.1, hV.out.trans (h.2.mono hV.out.size)⟩
  have D5 : Hid (∀ V, Hid (Below w5.heap.size w5 V) → Calls Tryz.prog 48 #[.agg #[.int .i64 key, .int .i64 se, .int .i64 ss], .string TW] V fun e W => e = .returned (.bool P3) ∧ Hid (Below w5.heap.size w5 W)) := fun V hV => (C5' V).mono fun e W h => ⟨h.1, hV.out.trans (h.2.mono hV.out.size)⟩
  have I5 : Hid (Below w5.heap.size w5 w5.drew) := (Below.refl _ _).drew
  clear C1 C3 C4 C5 C3' C4' C5' N1
  clear d0 d1 d2 d3 d4 d5 d6
  go_upto_region 6 with fail
  obtain ⟨c0, c1, c2, c3, c4, c5, c6⟩ := HK.out w5 (Below.refl _ _)
  go_region_held3 (fun V => V.cell? ⟨jb, 0, none⟩ = some (.int .i64 key) ∧ V.cell? ⟨jb, 1, none⟩ = some (.int .i64 nonce) ∧ V.cell? ⟨jb, 2, none⟩ = some (.string url) ∧ V.cell? ⟨jb, 3, none⟩ = some (.string body) ∧ V.cell? ⟨jb, 4, none⟩ = some (.int .i64 key) ∧ V.cell? ⟨jb, 5, none⟩ = some (.int .i64 se) ∧ V.cell? ⟨jb, 6, none⟩ = some (.int .i64 ss)) (first | (refine ⟨?_, ?_, ?_, ?_, ?_, ?_, ?_⟩ <;> assumption) | exact HK.out _ (Hid.out (by assumption)))
    (first
      | (go_at_call 40; refine (D4.out _ (by assumption)).mono ?_; rintro r V2 ⟨rfl, k2⟩)
      | (go_at_call 48; refine (D5.out _ (by assumption)).mono ?_; rintro r V3 ⟨rfl, k3⟩))
  all_goals
    have K9 : Hid (Below w5.heap.size w5 V3) := k3
    have L6 : Hid (HasB V3 [(jb, [Value.int .i64 key, .int .i64 nonce, .string url, .string body, .int .i64 key, .int .i64 se, .int .i64 ss], 34), (w.heap.size, [Value.int .i64 0, .int .i64 0, .string ⟨#[]⟩, .string ⟨#[]⟩, .int .i64 0, .int .i64 0, .int .i64 0, .int .i64 0], 36)]) := HasB.keep L5.out K9.out
    have B6 : Hid (Below w.heap.size w V3) := B5.out.trans (K9.out.mono B5.out.size)
    clear k2 k3 K9 c0 c1 c2 c3 c4 c5 c6 HK D4 D5 I5 L5 B5
    have hR := L6.out.tail.head
    have d0 := rowFacts L6.out.head 0 _ rfl
    have d1 := rowFacts L6.out.head 1 _ rfl
    have d2 := rowFacts L6.out.head 2 _ rfl
    have d3 := rowFacts L6.out.head 3 _ rfl
    have d4 := rowFacts L6.out.head 4 _ rfl
    have d5 := rowFacts L6.out.head 5 _ rfl
    have d6 := rowFacts L6.out.head 6 _ rfl
    cases P3 with
    | false =>
      have HF : Hid (R = (.zero, 6)) := N2.out hP hT rfl
      go_wp2_with (refine wpList_store_row rfl 36 _ _ rfl (w.heap.size) _ [Value.int .i64 0, .int .i64 0, .string ⟨#[]⟩, .string ⟨#[]⟩, .int .i64 0, .int .i64 0, .int .i64 0, .int .i64 6] 36 rfl rfl hR rfl hi' (by simp [Value.oneCell']) ?_)
      intro w8 hrow ho hs8 hbb
      have HROW : Hid _ := hrow
      have HB8 : Hid (Below w.heap.size w w8) := hbb _ _ (Nat.le_refl _) B6.out
      clear ho hs8 hbb hrow hR
      go_wp2
      refine bodyPost_ret (v := .agg [Value.int .i64 0, .int .i64 0, .string ⟨#[]⟩, .string ⟨#[]⟩, .int .i64 0, .int .i64 0, .int .i64 0, .int .i64 6].toArray) ?_ rfl ⟨by rw [HF.out]; rfl, HB8.out⟩
      have hl3 := run_loadVar_mid (P := Tryz.prog) _ (w.heap.size) 0 36 _ _ (rangeRow HROW.out) Tryz.underlying36 rfl hi'
      simp [results, Tryz.results17, asAddr, hl3]
    | true =>
      have HF : Hid (R = (⟨key, nonce, url, body, se, ss⟩, 0)) := N3.out hP hT rfl
      go_wp2_with (refine wpList_store_row rfl 36 _ _ rfl (w.heap.size) _ [Value.int .i64 key, .int .i64 nonce, .string url, .string body, .int .i64 key, .int .i64 se, .int .i64 ss, .int .i64 0] 36 rfl rfl hR rfl hi' (by simp [Value.oneCell']) ?_)
      intro w8 hrow ho hs8 hbb
      have HROW : Hid _ := hrow
      have HB8 : Hid (Below w.heap.size w w8) := hbb _ _ (Nat.le_refl _) B6.out
      clear ho hs8 hbb hrow hR
      go_wp2
      refine bodyPost_ret (v := .agg [Value.int .i64 key, .int .i64 nonce, .string url, .string body, .int .i64 key, .int .i64 se, .int .i64 ss, .int .i64 0].toArray) ?_ rfl ⟨by rw [HF.out]; rfl, HB8.out⟩
      have hl3 := run_loadVar_mid (P := Tryz.prog) _ (w.heap.size) 0 36 _ _ (rangeRow HROW.out) Tryz.underlying36 rfl hi'
      simp [results, Tryz.results17, asAddr, hl3]
end Go.Proofs.YtjkmfjegphpjkaaGreatDoor
namespace Go.Proofs.YtjkmfjegphpjkaaGreatDoor
open Go.RowKit Go.Lib

theorem spl_splitK : ∀ (k : Nat) (l : List UInt8), count l [46] = k → (splitK [46] 0 k l).map (fun p => p.map UInt8.toNat) = spl (l.map UInt8.toNat) []
  | k, l, hk => by
    have hidx : index l [46] = indexByte l 46 := index_one l 46
    by_cases hn : indexByte l 46 = -1
    · have h1 := indexByte_none hn
      have hno : ∀ x ∈ l.map UInt8.toNat, x ≠ 46 := by
        intro x hx
        obtain ⟨u, hu, rfl⟩ := List.mem_map.1 hx
        obtain ⟨i, hi⟩ := List.mem_iff_getElem?.1 hu
        intro e
        have : u = 46 := by
          apply UInt8.toNat_inj.1
          rw [e]
          rfl
        exact h1 i (by rw [hi, this])
      rw [spl_end _ _ hno, List.nil_append]
      cases k with
      | zero => rfl
      | succ k => rw [splitK, hidx, hn]; rfl
    · have hge := indexByte_ge l 46
      obtain ⟨o, ho⟩ : ∃ o : Nat, indexByte l 46 = o := ⟨(indexByte l 46).toNat, by omega⟩
      obtain ⟨h1, h2⟩ := indexByte_some ho
      have hol : o < l.length := by
        rcases Nat.lt_or_ge o l.length with h | h
        · exact h
        · rw [List.getElem?_eq_none h] at h1; cases h1
      have hd : l = l.take o ++ 46 :: l.drop (o + 1) := by
        conv => lhs; rw [← List.take_append_drop o l, List.drop_eq_getElem_cons hol]
        rw [List.getElem?_eq_getElem hol] at h1
        rw [Option.some.inj h1]
      have hno8 : ∀ u ∈ l.take o, u ≠ 46 := by
        intro u hu e
        obtain ⟨i, hi⟩ := List.mem_iff_getElem?.1 hu
        rw [List.getElem?_take] at hi
        split at hi
        · rename_i hio
          exact h2 i hio (by rw [hi, e])
        · cases hi
      have hno : ∀ x ∈ (l.take o).map UInt8.toNat, x ≠ 46 := by
        intro x hx
        obtain ⟨u, hu, rfl⟩ := List.mem_map.1 hx
        intro e
        refine hno8 u hu ?_
        apply UInt8.toNat_inj.1
        rw [e]
        rfl
      have hc : count l [46] = count (l.drop (o + 1)) [46] + 1 := by
        rw [count_one, count_one]
        conv => lhs; rw [hd]
        rw [List.count_append, List.count_cons_self, List.count_eq_zero_of_not_mem (fun h => hno8 _ h rfl)]
        omega
      obtain ⟨k', rfl⟩ : ∃ k', k = k' + 1 := ⟨count (l.drop (o + 1)) [46], by omega⟩
      have ih := spl_splitK k' (l.drop (o + 1)) (by omega)
      have hb : ((o : Int) == -1) = false := by
        rw [beq_eq_false_iff_ne]
        omega
      rw [splitK, hidx, ho, hb]
      simp only [Bool.false_eq_true, if_false, Int.toNat_natCast, Nat.add_zero, List.length_cons, List.length_nil, Nat.zero_add, List.map_cons]
      rw [ih]
      conv => rhs; rw [hd]
      rw [List.map_append, List.map_cons]
      have e46 : UInt8.toNat 46 = 46 := rfl
      rw [e46, spl_dot _ _ _ hno]
      rfl
  termination_by k => k
theorem splitB_pcs (s : ByteArray) : splitB ⟨#[46]⟩ 0 (countB s ⟨#[46]⟩) s = pcs s := by
  have h1 := splitB_data ⟨#[46]⟩ 0 (countB s ⟨#[46]⟩) s
  have h2 := spl_splitK (count s.data.toList [46]) s.data.toList rfl
  have h3 : (splitB ⟨#[46]⟩ 0 (countB s ⟨#[46]⟩) s).map bts = spl (bts s) [] := by
    have e : (splitB ⟨#[46]⟩ 0 (countB s ⟨#[46]⟩) s).map bts = ((splitB ⟨#[46]⟩ 0 (countB s ⟨#[46]⟩) s).map (·.data.toList)).map (fun p => p.map UInt8.toNat) := by
      rw [List.map_map]
      rfl
    rw [e, h1]
    exact h2
  unfold pcs
  rw [← h3, List.map_map]
  conv => lhs; rw [← List.map_id (splitB ⟨#[46]⟩ 0 (countB s ⟨#[46]⟩) s)]
  apply List.map_congr_left
  intro x _
  exact (natT_bts x).symm
set_option maxHeartbeats 1000000 in
theorem genSplitDot (s : ByteArray) (w : World) (hs : s.size ≤ 20000) :
    Calls Tryz.prog 90 #[.string s, .string ⟨#[46]⟩, .int .i64 0, .int .i64 (-1)] w fun e w' =>
      e = .returned (.slice (some ⟨w.heap.size, 0, none⟩) (pcs s).length (pcs s).length) ∧ w' = w.alloc (.cells ((pcs s).map Value.string).toArray 9) := by
  have hC : Calls Tryz.prog (splitLays_ren.f 138) #[.string s, .string ⟨#[46]⟩] w fun e w' => e = .returned (.int .i64 (countB s ⟨#[46]⟩)) ∧ w' = w := by
    refine (Any.strings_Count_one { splitLays with } s 46 w).mono fun e w' ⟨he, hw⟩ => ⟨?_, hw⟩
    rw [he]
    show _ = Ending.returned (Value.int .i64 ((count s.data.toList [46] : Nat) : Int))
    rw [count_one]
    rfl
  have hI : ∀ (x : ByteArray) (c : Array Value), x.size ≤ s.size → Calls Tryz.prog (splitLays_ren.f 143) #[.string x, .string ⟨#[46]⟩] (w.alloc (.cells c (splitLays_ren.t 9))) fun e w' => e = .returned (.int .i64 (indexB x ⟨#[46]⟩)) ∧ w' = w.alloc (.cells c (splitLays_ren.t 9)) := by
    intro x c _
    refine (Any.strings_Index_one { splitLays with } x 46 _).mono fun e w' ⟨he, hw⟩ => ⟨?_, hw⟩
    rw [he]
    show _ = Ending.returned (Value.int .i64 (index x.data.toList [46]))
    rw [index_one]
  have hcl := countB_le ⟨#[46]⟩ (Nat.le_refl 1) s.size s (Nat.le_refl _)
  have hl := splitB_all ⟨#[46]⟩ (Nat.le_refl 1) 0 (countB s ⟨#[46]⟩) s rfl
  have h := Any.strings_genSplit_core splitLays (by kernel_rfl) s ⟨#[46]⟩ 0 (-1) (countB s ⟨#[46]⟩ + 1) w (by omega) (Nat.le_refl 1) (Nat.zero_le _) hI hC (by decide) (by decide) (by rw [if_pos (by decide)]; omega)
  rw [Nat.add_sub_cancel] at h
  rw [splitB_pcs] at h hl
  rw [← hl] at h
  have e2 : cellsOf (pcs s) (pcs s).length = ((pcs s).map Value.string).toArray := cellsOf_full _
  rw [e2] at h
  exact h
set_option maxHeartbeats 1000000 in
theorem implSplit (s : ByteArray) (w : World) (hs : s.size ≤ 20000) :
    Calls Tryz.prog 67 #[.string s, .string ⟨#[46]⟩] w fun e w' =>
      e = .returned (.slice (some ⟨w.heap.size, 0, none⟩) (pcs s).length (pcs s).length) ∧ w' = w.alloc (.cells ((pcs s).map Value.string).toArray 9) := by
  have HG : Hid (∀ V, Calls Tryz.prog 90 #[.string s, .string ⟨#[46]⟩, .int .i64 0, .int .i64 (-1)] V fun e w' => e = .returned (.slice (some ⟨V.heap.size, 0, none⟩) (pcs s).length (pcs s).length) ∧ w' = V.alloc (.cells ((pcs s).map Value.string).toArray 9)) := fun V => genSplitDot s V hs
  go_enter Tryz.func67, Tryz.ntmps67
  go_wp2_with fail
  refine (HG.out w).mono ?_
  rintro e w2 ⟨rfl, hw⟩
  have HW : Hid _ := hw
  clear hw
  go_wp2
  go_ret
  exact ⟨rfl, HW.out⟩
end Go.Proofs.YtjkmfjegphpjkaaGreatDoor
namespace Go.Proofs.YtjkmfjegphpjkaaGreatDoor
open Go.RowKit Go.Lib

theorem sizeTextOut : (Tryz.prog.info? 26).map (·.size) = some 3 := by kernel_rfl
def txtV (x : ByteArray × Int) : Value := .agg #[.string x.1, .int .i64 0, .int .i64 x.2]
end Go.Proofs.YtjkmfjegphpjkaaGreatDoor
namespace Go.Proofs.YtjkmfjegphpjkaaGreatDoor
open Go.RowKit Go.Lib Go.Maps

def sgnT : ByteArray := ⟨#[65, 66, 67, 68, 69, 70, 71, 72, 73, 74, 75, 76, 77, 78, 79, 80, 81, 82, 83, 84, 85, 86, 87, 88, 89, 90, 97, 98, 99, 100, 101, 102, 103, 104, 105, 106, 107, 108, 109, 110, 111, 112, 113, 114, 115, 116, 117, 118, 119, 120, 121, 122, 48, 49, 50, 51, 52, 53, 54, 55, 56, 57, 45, 95]⟩
theorem sgnT_at : ∀ k : Fin 64, ((sgnT.data.getD k 0).toNat : Int) = sg k := by decide +kernel
theorem sgnT_size : sgnT.size = 64 := rfl
theorem sgnT_get (k : Nat) (h : k < sgnT.size) : ((sgnT[k]'h).toNat : Int) = sg k := by
  have h1 := sgnT_at ⟨k, h⟩
  have h2 : sgnT.data.getD k 0 = sgnT[k]'h := by
    rw [Array.getD_eq_getD_getElem?, Array.getElem?_eq_getElem (show k < sgnT.data.size from h)]
    rfl
  rw [← h2]
  exact h1
/-- The map as it reads once the first k signs are in. -/
def sgD : Nat → DataW Unit
  | 0 => .map []
  | k + 1 => (sgD k).put (.int .i32 (sg k)) (.lit (.int .u8 (k : Int)))
theorem sgD_map : ∀ k, IsMap (sgD k)
  | 0 => ⟨_, rfl⟩
  | k + 1 => by
    obtain ⟨es, h⟩ := sgD_map k
    rw [sgD, h]
    exact ⟨_, rfl⟩
theorem key_ne {a b : Int} (h : a ≠ b) : (Lit.int .i32 a) ≠ (Lit.int .i32 b) := fun e => h (by cases e; rfl)
theorem keyLit (a : Int) : WideAt.IsKeyLit (.int .i32 a) := by first | trivial | simp [WideAt.IsKeyLit]
theorem sgD_some : ∀ k q, q < k → k ≤ 64 → has (sgD k) (.int .i32 (sg q)) = true ∧ ∀ z, (sgD k).atKey (.int .i32 (sg q)) z = .lit (.int .u8 (q : Int))
  | 0, q, h, _ => by omega
  | k + 1, q, h, hk => by
    by_cases e : q = k
    · subst e
      exact ⟨has_put_same (sgD_map q) (keyLit _) _, fun z => atKey_put_same (sgD_map q) (keyLit _) _ z⟩
    · have hne : sg q ≠ sg k := fun he => by
        have := sg_inj ⟨q, by omega⟩ ⟨k, by omega⟩ he
        simp at this
        exact e this
      have ih := sgD_some k q (by omega) (by omega)
      exact ⟨by rw [sgD, has_put_other (key_ne hne)]; exact ih.1, fun z => by rw [sgD, atKey_put_other (key_ne hne)]; exact ih.2 z⟩
theorem sgD_none : ∀ k (x : Int), (∀ q, q < k → sg q ≠ x) → has (sgD k) (.int .i32 x) = false
  | 0, _, _ => rfl
  | k + 1, x, h => by
    rw [sgD, has_put_other (key_ne (Ne.symm (h k (by omega))))]
    exact sgD_none k x fun q hq => h q (by omega)
theorem lawR : Keyed Tryz.prog 21 := int_keyed Tryz.underlying21
theorem zeroB (w : World) : (zeroValue 5).run Tryz.prog w = .ok (.int .u8 0) w := by kernel_rfl
theorem ownsMap_iterAt {w : World} {P : Program} {k : TypeId} {R : Value → Option (DataW Unit × List MemPlace)} {b n r : Nat} {D : DataW Unit} {s : ByteArray} {p : Nat} (h : w.ownsMap P k R b n D) (hne : b ≠ r) : (w.iterAt r s p).ownsMap P k R b n D := by
  obtain ⟨es, clock, hb, rest⟩ := h
  exact ⟨es, clock, (iterAt_other w r b s p hne).trans hb, rest⟩
set_option maxHeartbeats 4000000 in
set_option maxRecDepth 100000 in
theorem signVals (w : World) :
    Calls Tryz.prog 50 #[] w fun e w' => e = .returned (.map (some w.heap.size)) ∧ w'.ownsMap Tryz.prog 21 (plainElem Tryz.prog 5) w.heap.size 64 (sgD 64) ∧ Below w.heap.size w w' := by
  have hmm : ∀ V : World, (Instr.makeMap 69 (some (.int .i64 64))).run Tryz.prog V = .ok (.map (some V.heap.size)) (V.alloc (.map #[] 0)) := fun V => by kernel_rfl
  go_enter Tryz.func50, Tryz.ntmps50
  go_wp2
  go_loopw [] (fun wr => ∃ k : Nat, k ≤ 64 ∧ wr.heap[w.heap.size + 1]? = some (.stringIter sgnT k) ∧ wr.ownsMap Tryz.prog 21 (plainElem Tryz.prog 5) w.heap.size k (sgD k) ∧ Below w.heap.size w wr) (fun wr => 64 - wr.iterPos (w.heap.size + 1))
  case atStart =>
    refine ⟨0, Nat.zero_le _, ?_, ?_, ?_⟩
    · have := World.iter_heap (w.alloc (.map #[] 0)) sgnT 0
      rw [show (w.alloc (.map #[] 0)).heap.size = w.heap.size + 1 from by simp] at this
      exact this
    · exact (World.ownsMap_made w _ _ _).alloc _
    · exact ((Below.refl _ w).alloc (Nat.le_refl _) _).alloc (by simp) _
  case round =>
    obtain ⟨k, hk, hit, hown, hbel⟩ := hrel
    have hpos : wr.iterPos (w.heap.size + 1) = k := by simp [World.iterPos, hit]
    have HP : Hid (wr.iterPos (w.heap.size + 1) = k) := hpos
    clear hpos
    by_cases hlt : k < 64
    rotate_left
    · obtain rfl : k = 64 := by omega
      have hnx := fun ty => run_next_end_at (P := Tryz.prog) wr (w.heap.size + 1) sgnT 64 ty hit (by rw [sgnT_size]; omega)
      have HO : Hid _ := hown
      have HB : Hid (Below w.heap.size w wr) := hbel
      clear hit hown hbel
      go_wp2
      go_ret
      exact ⟨rfl, HO.out, HB.out⟩
    have hks : k < sgnT.size := by rw [sgnT_size]; exact hlt
    have hsg := sgnT_get k hks
    have hr := sg_range ⟨k, hlt⟩
    simp only at hr
    have hnx : ∀ ty, (Instr.next (.pointer (some ⟨w.heap.size + 1, 0, none⟩)) true ty).run Tryz.prog wr = .ok (.tuple #[.bool true, .int .i64 (k : Int), .int .i32 (sg k)]) (wr.iterAt (w.heap.size + 1) sgnT (k + 1)) := fun ty => by
      have := run_next_ascii_at (P := Tryz.prog) wr (w.heap.size + 1) sgnT k ty hit hks (by omega)
      rw [this, hsg]
    obtain ⟨w2, hw2⟩ : ∃ y, y = wr.iterAt (w.heap.size + 1) sgnT (k + 1) := ⟨_, rfl⟩
    have hown2 : w2.ownsMap Tryz.prog 21 (plainElem Tryz.prog 5) w.heap.size k (sgD k) := by rw [hw2]; exact ownsMap_iterAt hown (by omega)
    have HI2 : Hid (w2.heap[w.heap.size + 1]? = some (.stringIter sgnT (k + 1))) := by rw [hw2]; exact iterAt_heap wr _ _ _ _ hit
    have HB2 : Hid (Below w.heap.size w w2) := by rw [hw2]; exact below_iterAt hbel (by omega) _ _
    rw [← hw2] at hnx
    have hwb : IntKind.u8.wrap (k : Int) = (k : Int) := by rw [IntKind.wrap_u8]; omega
    have hkey : keyOf Tryz.prog 21 (.int .i32 (sg k)) = some (.int .i32 (sg k)) := keyOf_int_mk Tryz.underlying21 (WalkArith.wf_i32 (by omega))
    have hwf : (Lit.int .u8 (k : Int)).wf = true := WalkArith.wf_u8 (by omega)
    clear hit hown hbel hsg hks hr hw2
    go_wp2_with (at_mapUpdate; refine wpList_mapUpdate_own _ rfl _ _ _ 69 rfl 21 5 lawR Tryz.underlying69 _ w.heap.size k _ rfl hown2 (by unfold maxLen; omega) _ _ _ rfl rfl hkey _ [] (plainElem_int Tryz.underlying5 hwf) ?_; intro w3 hown3 hgrow3)
    have HI3 : Hid (w3.heap[w.heap.size + 1]? = some (.stringIter sgnT (k + 1))) := (hgrow3.block _ (Array.getElem?_eq_some_iff.1 HI2.out).1 (by simp)).trans HI2.out
    have HB3 : Hid (Below w.heap.size w w3) := HB2.out.grown hgrow3 HB2.out.size (fun j hj => by cases hj; exact Nat.le_refl _)
    have HO3 : Hid _ := hown3
    clear hown3 hgrow3 hown2
    go_wp2
    go_frame
    go_roundw
    case rel => exact ⟨k + 1, by omega, HI3.out, HO3.out, HB3.out⟩
    case measure =>
      have e : w3.iterPos (w.heap.size + 1) = k + 1 := by simp [World.iterPos, HI3.out]
      rw [e, HP.out]
      omega
end Go.Proofs.YtjkmfjegphpjkaaGreatDoor
