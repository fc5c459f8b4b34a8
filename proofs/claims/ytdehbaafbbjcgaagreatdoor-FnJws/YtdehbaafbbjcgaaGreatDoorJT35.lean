/- spec.l04Check, spec.SigCheck, walked. spec.JwsRead, walked. -/
import Derived.Test.YtdehbaafbbjcgaaGreatDoorJT22
import Derived.Test.YtdehbaafbbjcgaaGreatDoorJT34
import Derived.Test.YtdehbaafbbjcgaaGreatDoorJT09
import Derived.Deep.QuietTactic
import Derived.BigQuiet
import Derived.Deep.RegionHeld3
import Derived.Test.YtdehbaafbbjcgaaGreatDoorJT18
import Derived.Test.YtdehbaafbbjcgaaGreatDoorJT23
import Derived.Test.YtdehbaafbbjcgaaGreatDoorJT27
import Derived.Test.YtdehbaafbbjcgaaGreatDoorJT19
import Derived.Deep.MidRow
import Derived.Deep.Cut
namespace Go.Proofs.YtdehbaafbbjcgaaGreatDoor
open Go.RowKit

/-- A power modulo GroupP, of numbers as a call has them. -/
def powP (a n : Int) : Int := ((pm a.toNat n.toNat 2147483579 : Nat) : Int)
theorem powP_nat (a n : Nat) : powP a n = ((pm a n 2147483579 : Nat) : Int) := by unfold powP; rw [Int.toNat_natCast, Int.toNat_natCast]
theorem specPowP (a n : Int) (w : World) (ha : 0 ≤ a) (hn : 0 ≤ n) (hn2 : n ≤ 9223372036854775807) :
    Calls Tryz.prog 43 #[.int .i64 a, .int .i64 n, .int .i64 2147483579] w fun e w' => e = .returned (.int .i64 (powP a n)) ∧ w' = w := by
  obtain ⟨A, rfl⟩ := Int.eq_ofNat_of_zero_le ha
  obtain ⟨N, rfl⟩ := Int.eq_ofNat_of_zero_le hn
  rw [powP_nat]
  exact specPow A N 2147483579 w (by omega) (by omega) (by omega)
set_option maxHeartbeats 1000000 in
set_option maxRecDepth 100000 in
theorem specCheck (k e s : Nat) (t : ByteArray) (w : World) (ht : t.size ≤ 20000) (hk : k < 2147483579) (he : e < 1073741789) (hs : s < 1073741789) :
    Calls Tryz.prog 74 #[.agg #[.int .i64 (k : Int), .int .i64 (e : Int), .int .i64 (s : Int)], .string t] w fun r w' => r = .returned (.bool (decide ((chal (backR k e s : Nat) k t : Int) = (e : Int)))) ∧ Below w.heap.size w w' := by
  obtain ⟨j, hj⟩ : ∃ j : Nat, j = 1073741789 - e := ⟨_, rfl⟩
  obtain ⟨y1, hy1⟩ : ∃ y : Nat, y = pm 4 s 2147483579 := ⟨_, rfl⟩
  obtain ⟨y2, hy2⟩ : ∃ y : Nat, y = pm k j 2147483579 := ⟨_, rfl⟩
  have hb := backR_nat k e s
  rw [← hj, ← hy1, ← hy2] at hb
  have e1 : powP 4 (s : Int) = (y1 : Int) := by rw [hy1]; exact powP_nat 4 s
  have e2 : powP (k : Int) (j : Int) = (y2 : Int) := by rw [hy2]; exact powP_nat k j
  have q1 : y1 < 2147483579 := by rw [hy1]; exact pm_lt 4 s (by omega)
  have q2 : y2 < 2147483579 := by rw [hy2]; exact pm_lt k j (by omega)
  have hj' : (1073741789 : Int) - (e : Int) = (j : Int) := by omega
  obtain ⟨p, hp, ep, lp, up⟩ := prod_bd y1 y2 (by omega) (by omega)
  obtain ⟨b, hbb⟩ : ∃ b : Nat, b = backR k e s := ⟨_, rfl⟩
  rw [← hbb] at hb
  have hz : b < 2147483579 := by rw [hb]; exact Nat.mod_lt _ (by omega)
  have t0 : (p : Int).tmod 2147483579 = (b : Int) := by rw [hb, ← hp]; exact tmodN p 2147483579
  obtain ⟨c, hc⟩ : ∃ c : Nat, c = chal (b : Int) k t := ⟨_, rfl⟩
  have HX : Hid (∀ v : World, Calls Tryz.prog 62 #[.int .i64 (b : Int), .int .i64 (k : Int), .string t] v fun r w' => r = .returned (.int .i64 (c : Int)) ∧ Below v.heap.size v w') := fun v => by rw [hc]; exact specChal _ _ t v ht (by omega) (by omega) (by omega) (by omega)
  rw [← hbb, ← hc]
  clear hb hp q1 q2 hj hy1 hy2 hbb hc hz hk
  go_enter Tryz.func74, Tryz.ntmps74
  go_wp2_with fail
  go_quiet ((go_at_call 43; exact Calls.quiet_of_same (specPowP _ _ _ (by omega) (by omega) (by omega))))
  go_wp2_with fail
  obtain ⟨w1, hw1⟩ : ∃ w1, (w.alloc (.cells #[.int .i64 (k : Int), .int .i64 (e : Int), .int .i64 (s : Int)] 32 (0, 0))).drewN nq = w1 := ⟨_, rfl⟩
  have hg1 : w1.heap[w.heap.size]? = some (.cells [Value.int .i64 (k : Int), .int .i64 (e : Int), .int .i64 (s : Int)].toArray 32 (0, 0)) := by rw [← hw1]; exact heap_alloc_new w _
  have hb1 : Below w.heap.size w w1 := by rw [← hw1]; exact below_drewN (allocBelow w _) nq
  rw [hw1]
  have p0 := rowFacts hg1 0 _ rfl
  have p1 := rowFacts hg1 1 _ rfl
  have HT : Hid (Calls Tryz.prog 62 #[.int .i64 (b : Int), .int .i64 (k : Int), .string t] w1.drew fun r W => r = .returned (.int .i64 (c : Int)) ∧ Hid (Below w.heap.size w W) ∧ W.cell? ⟨w.heap.size, 0, none⟩ = some (.int .i64 (k : Int)) ∧ W.cell? ⟨w.heap.size, 1, none⟩ = some (.int .i64 (e : Int))) := by
    show Calls _ _ _ _ _
    refine (HX.out w1.drew).mono ?_
    rintro r W ⟨rfl, hb⟩
    have hl : w.heap.size < w1.drew.heap.size := heap_lt (show w1.drew.heap[w.heap.size]? = _ from hg1)
    exact ⟨rfl, hb1.drew.trans (hb.mono (Nat.le_of_lt hl)), by rw [hb.cell hl]; exact p0, by rw [hb.cell hl]; exact p1⟩
  clear hw1 hg1 hb1 HX e1 e2 hj' ep lp up t0
  go_region_held3 (fun V => V.cell? ⟨w.heap.size, 0, none⟩ = some (.int .i64 (k : Int)) ∧ V.cell? ⟨w.heap.size, 1, none⟩ = some (.int .i64 (e : Int))) (first | exact ⟨c0, c1⟩ | go_keep)
    (first | (go_at_call 62; refine HT.out.mono ?_; rintro r W ⟨rfl, kk, c0, c1⟩))
  all_goals
    go_wp2
    go_ret
    exact ⟨rfl, kk.out⟩
set_option maxHeartbeats 1000000 in
set_option maxRecDepth 100000 in
theorem specSigCheck (k e s : Int) (t : ByteArray) (w : World) (ht : t.size ≤ maxLen) :
    Calls Tryz.prog 46 #[.agg #[.int .i64 k, .int .i64 e, .int .i64 s], .string t] w fun r w' => r = .returned (.bool (sigCB k e s t)) ∧ Below w.heap.size w w' := by
  have htm := ht
  unfold maxLen at htm
  by_cases h1 : 20000 < t.size
  · have ea : Hid (sigCB k e s t = false) := sigCB_long h1
    go_enter Tryz.func46, Tryz.ntmps46
    go_wp2
    go_ret
    exact ⟨by rw [ea.out]; rfl, allocBelow _ _⟩
  have ht2 : t.size ≤ 20000 := by omega
  by_cases h2 : sigRB k e s = true
  · obtain ⟨K, E, S, rfl, rfl, rfl, hk, he, hs, _⟩ := sigRB_nat h2
    have ea : Hid (sigCB K E S t = decide ((chal (backR K E S : Nat) K t : Int) = (E : Int))) := sigCB_right ht2 h2
    have HX : Hid (∀ v : World, Calls Tryz.prog 74 #[.agg #[.int .i64 (K : Int), .int .i64 (E : Int), .int .i64 (S : Int)], .string t] v fun r w' => r = .returned (.bool (decide ((chal (backR K E S : Nat) K t : Int) = (E : Int)))) ∧ Below v.heap.size v w') := fun v => specCheck K E S t v ht2 hk he hs
    generalize decide ((chal (backR K E S : Nat) K t : Int) = (E : Int)) = b at *
    go_enter Tryz.func46, Tryz.ntmps46
    go_wp2_with fail
    refine (specSigRight K E S _).mono ?_
    rintro r w1 ⟨rfl, hb1⟩
    rw [h2]
    have c0 : w1.cell? ⟨w.heap.size, 0, none⟩ = some (.int .i64 (K : Int)) := by rw [hb1.cell (p := ⟨w.heap.size, 0, none⟩) (by simp)]; simp
    have c1 : w1.cell? ⟨w.heap.size, 1, none⟩ = some (.int .i64 (E : Int)) := by rw [hb1.cell (p := ⟨w.heap.size, 1, none⟩) (by simp)]; simp
    have c2 : w1.cell? ⟨w.heap.size, 2, none⟩ = some (.int .i64 (S : Int)) := by rw [hb1.cell (p := ⟨w.heap.size, 2, none⟩) (by simp)]; simp
    have B1 : Hid (Below w.heap.size w w1) := (allocBelow w _).trans (hb1.mono (by simp))
    clear hb1
    go_wp2_with fail
    refine (HX.out _).mono ?_
    rintro r w2 ⟨rfl, hb2⟩
    have B2 : Hid (Below w.heap.size w w2) := B1.out.trans (hb2.mono B1.out.size)
    clear hb2
    go_wp2
    go_ret
    exact ⟨by rw [ea.out]; rfl, B2.out⟩
  · rw [Bool.not_eq_true] at h2
    have ea : Hid (sigCB k e s t = false) := sigCB_wrong h2
    go_enter Tryz.func46, Tryz.ntmps46
    go_wp2_with fail
    refine (specSigRight k e s _).mono ?_
    rintro r w1 ⟨rfl, hb1⟩
    rw [h2]
    have B1 : Hid (Below w.heap.size w w1) := (allocBelow w _).trans (hb1.mono (by simp))
    clear hb1
    go_wp2
    go_ret
    exact ⟨by rw [ea.out]; rfl, B1.out⟩
end Go.Proofs.YtdehbaafbbjcgaaGreatDoor
namespace Go.Proofs.YtdehbaafbbjcgaaGreatDoor
open Go.RowKit Go.Lib

theorem sizeJwsOutS : (Tryz.prog.info? 36).map (·.size) = some 8 := by kernel_rfl
set_option linter.unusedSimpArgs false in
set_option maxHeartbeats 8000000 in
set_option maxRecDepth 100000 in
theorem specJwsRead (s : ByteArray) (w : World) (hs : s.size ≤ maxLen) :
    Calls Tryz.prog 16 #[.string s] w fun e w' => e = .returned (Rq.outV (jwsR s)) ∧ Below w.heap.size w w' := by
  obtain ⟨w1, hw1⟩ : ∃ y, y = w.alloc (.cells #[.int .i64 0, .int .i64 0, .string ⟨#[]⟩, .string ⟨#[]⟩, .int .i64 0, .int .i64 0, .int .i64 0, .int .i64 0] 36 (0, 0)) := ⟨_, rfl⟩
  have hz : w1.heap.size = w.heap.size + 1 := by rw [hw1]; simp
  have L1 : Hid (HasB w1 [(w.heap.size, [Value.int .i64 0, .int .i64 0, .string ⟨#[]⟩, .string ⟨#[]⟩, .int .i64 0, .int .i64 0, .int .i64 0, .int .i64 0], 36)]) := by rw [hw1]; exact (HasB.nil w).alloc _ _
  have B1 : Hid (Below w.heap.size w w1) := by rw [hw1]; exact (Below.refl _ w).alloc (Nat.le_refl _) _
  have hi' := sizeJwsOutS
  have HR : Hid (jwsR s = if 20000 < s.size then (.zero, 2) else jwsTell (readJS s) s) := jwsR_spec s
  have HRd : Hid (¬ 20000 < s.size → ∀ V, Below w.heap.size w V → Calls Tryz.prog 44 #[.string s] V fun e w' => e = .returned (readJS s).val ∧ Below V.heap.size V w') := fun h V hV => specJws s V (by omega)
  have HSZ : Hid (¬ 20000 < s.size → (readJS s).url.size ≤ maxLen ∧ (readJS s).body.size ≤ maxLen) := readJS_sizes
  unfold maxLen at hs
  generalize jwsR s = R at *
  generalize readJS s = RJ at *
  go_enter Tryz.func16, Tryz.ntmps16
  go_upto_region 1 with fail
  rw [← hw1]
  clear hw1
  by_cases hl : 20000 < s.size
  · have HF : Hid (R = (.zero, 2)) := by show _ = _; rw [HR.out, if_pos hl]
    have hR := L1.out.head
    go_wp2_with (refine wpList_store_row rfl 36 _ _ rfl (w.heap.size) _ [Value.int .i64 0, .int .i64 0, .string ⟨#[]⟩, .string ⟨#[]⟩, .int .i64 0, .int .i64 0, .int .i64 0, .int .i64 2] 36 rfl rfl hR rfl hi' (by simp [Value.oneCell']) ?_)
    intro w8 hrow ho hs8 hbb
    have HROW : Hid _ := hrow
    have HB8 : Hid (Below w.heap.size w w8) := hbb _ _ (Nat.le_refl _) B1.out
    clear ho hs8 hbb hrow hR
    go_wp2
    refine bodyPost_ret (v := .agg [Value.int .i64 0, .int .i64 0, .string ⟨#[]⟩, .string ⟨#[]⟩, .int .i64 0, .int .i64 0, .int .i64 0, .int .i64 2].toArray) ?_ rfl ⟨by rw [HF.out]; rfl, HB8.out⟩
    have hl3 := run_loadVar_mid (P := Tryz.prog) _ (w.heap.size) 0 36 _ _ (rangeRow HROW.out) Tryz.underlying36 rfl hi'
    simp [results, Tryz.results16, asAddr, hl3]
  have HT : Hid (R = jwsTell RJ s) := by show _ = _; rw [HR.out, if_neg hl]
  have HRd' := HRd.out hl
  have HRD : Hid _ := HRd'
  clear HR HRd HRd'
  obtain ⟨key, nonce, url, body, se, ss⟩ := RJ
  unfold Rq.val jV at HRD
  simp only at HRD
  have hur : url.size ≤ maxLen ∧ body.size ≤ maxLen := HSZ.out hl
  clear HSZ
  go_wp2_with fail
  refine (HRD.out _ B1.out).mono ?_
  rintro e w2 ⟨rfl, b2⟩
  have L2 : Hid (HasB w2 [(w.heap.size, [Value.int .i64 0, .int .i64 0, .string ⟨#[]⟩, .string ⟨#[]⟩, .int .i64 0, .int .i64 0, .int .i64 0, .int .i64 0], 36)]) := HasB.keep L1.out b2
  have B2 : Hid (Below w.heap.size w w2) := B1.out.trans (b2.mono B1.out.size)
  obtain ⟨jb, hjb⟩ : ∃ b, b = w2.heap.size := ⟨_, rfl⟩
  obtain ⟨w3, hw3⟩ : ∃ y, y = w2.alloc (.cells #[.int .i64 key, .int .i64 nonce, .string url, .string body, .int .i64 key, .int .i64 se, .int .i64 ss] 34 (0, 0)) := ⟨_, rfl⟩
  have L3 : Hid (HasB w3 [(jb, [Value.int .i64 key, .int .i64 nonce, .string url, .string body, .int .i64 key, .int .i64 se, .int .i64 ss], 34), (w.heap.size, [Value.int .i64 0, .int .i64 0, .string ⟨#[]⟩, .string ⟨#[]⟩, .int .i64 0, .int .i64 0, .int .i64 0, .int .i64 0], 36)]) := by rw [hw3, hjb]; exact HasB.alloc L2.out _ _
  have B3 : Hid (Below w.heap.size w w3) := by rw [hw3]; exact B2.out.alloc B2.out.size _
  have hj3 : jb < w3.heap.size := heap_lt L3.out.head
  clear b2 L2 B2 L1 B1 HRD hz
  have C1 : Hid (∀ V, Calls Tryz.prog 45 #[.agg #[.int .i64 key, .int .i64 nonce, .string url, .string body, .int .i64 key, .int .i64 se, .int .i64 ss]] V fun e w' => e = .returned (.bool (rqB key nonce url body && sigRB key se ss)) ∧ Below V.heap.size V w') := fun V => specRight key nonce url body se ss V hur.1 hur.2
  have C3 : Hid ((rqB key nonce url body && sigRB key se ss) = true → ∀ V, Calls Tryz.prog 39 #[.agg #[.int .i64 key, .int .i64 nonce, .string url, .string body, .int .i64 key, .int .i64 se, .int .i64 ss]] V fun e w' => e = .returned (.string (jText key nonce url body se ss)) ∧ Below V.heap.size V w') := fun h V => by
    obtain ⟨k1, k2, k3, k4, k5, k6⟩ := right_in h
    exact specText key nonce url body key se ss V k1 k2 k3 k4 k5 k6
  have C4 : Hid ((rqB key nonce url body && sigRB key se ss) = true → ∀ V, Calls Tryz.prog 38 #[.agg #[.int .i64 key, .int .i64 nonce, .string url, .string body, .int .i64 key, .int .i64 se, .int .i64 ss]] V fun e w' => e = .returned (.string (jTwo key nonce url body)) ∧ Below V.heap.size V w') := fun h V => by
    obtain ⟨k1, k2, k3, k4, k5, k6⟩ := right_in h
    exact specHead key nonce url body key se ss V k1 k2 k3 k4
  have C5 : Hid ((rqB key nonce url body && sigRB key se ss) = true → ∀ V, Calls Tryz.prog 46 #[.agg #[.int .i64 key, .int .i64 se, .int .i64 ss], .string (jTwo key nonce url body)] V fun e w' => e = .returned (.bool (sigCB key se ss (jTwo key nonce url body))) ∧ Below V.heap.size V w') := fun h V => by
    obtain ⟨k1, k2, k3, k4, k5, k6⟩ := right_in h
    have := jTwo_size key nonce url body
    exact specSigCheck key se ss _ V (by unfold maxLen; omega)
  have N1 : Hid (¬ ((rqB key nonce url body && sigRB key se ss) = true ∧ jText key nonce url body se ss = s) → R = (.zero, 3)) := fun h => by rw [HT.out]; exact tell_no h
  have N2 : Hid ((rqB key nonce url body && sigRB key se ss) = true → jText key nonce url body se ss = s → sigCB key se ss (jTwo key nonce url body) = false → R = (.zero, 6)) := fun h1 h2 h3 => by rw [HT.out]; exact tell_sig (j := ⟨key, nonce, url, body, se, ss⟩) ⟨h1, h2⟩ h3
  have N3 : Hid ((rqB key nonce url body && sigRB key se ss) = true → jText key nonce url body se ss = s → sigCB key se ss (jTwo key nonce url body) = true → R = (⟨key, nonce, url, body, se, ss⟩, 0)) := fun h1 h2 h3 => by rw [HT.out]; exact tell_all (j := ⟨key, nonce, url, body, se, ss⟩) ⟨h1, h2⟩ h3
  clear HT hur
  generalize rqB key nonce url body = P1 at *
  generalize sigRB key se ss = P2 at *
  generalize jText key nonce url body se ss = TX at *
  generalize jTwo key nonce url body = TW at *
  generalize sigCB key se ss TW = P3 at *
  go_upto_region 4 with fail
  rw [← hw3, ← hjb]
  clear hw3 hjb
  have d0 := rowFacts L3.out.head 0 _ rfl
  have d1 := rowFacts L3.out.head 1 _ rfl
  have d2 := rowFacts L3.out.head 2 _ rfl
  have d3 := rowFacts L3.out.head 3 _ rfl
  have d4 := rowFacts L3.out.head 4 _ rfl
  have d5 := rowFacts L3.out.head 5 _ rfl
  have d6 := rowFacts L3.out.head 6 _ rfl
  cases hP : (P1 && P2) with
  | false =>
    rw [hP] at C1
    have HF : Hid (R = (.zero, 3)) := N1.out (fun h => by rw [hP] at h; cases h.1)
    go_wp2_with fail
    refine (C1.out _).mono ?_
    rintro e w4 ⟨rfl, b'⟩
    clear d0 d1 d2 d3 d4 d5 d6
    have L4 : Hid (HasB w4 [(jb, [Value.int .i64 key, .int .i64 nonce, .string url, .string body, .int .i64 key, .int .i64 se, .int .i64 ss], 34), (w.heap.size, [Value.int .i64 0, .int .i64 0, .string ⟨#[]⟩, .string ⟨#[]⟩, .int .i64 0, .int .i64 0, .int .i64 0, .int .i64 0], 36)]) := HasB.keep L3.out b'
    have B4 : Hid (Below w.heap.size w w4) := B3.out.trans (b'.mono B3.out.size)
    clear b'
    have hR := L4.out.tail.head
    go_wp2_with (refine wpList_store_row rfl 36 _ _ rfl (w.heap.size) _ [Value.int .i64 0, .int .i64 0, .string ⟨#[]⟩, .string ⟨#[]⟩, .int .i64 0, .int .i64 0, .int .i64 0, .int .i64 3] 36 rfl rfl hR rfl hi' (by simp [Value.oneCell']) ?_)
    intro w8 hrow ho hs8 hbb
    have HROW : Hid _ := hrow
    have HB8 : Hid (Below w.heap.size w w8) := hbb _ _ (Nat.le_refl _) B4.out
    clear ho hs8 hbb hrow hR
    go_wp2
    refine bodyPost_ret (v := .agg [Value.int .i64 0, .int .i64 0, .string ⟨#[]⟩, .string ⟨#[]⟩, .int .i64 0, .int .i64 0, .int .i64 0, .int .i64 3].toArray) ?_ rfl ⟨by rw [HF.out]; rfl, HB8.out⟩
    have hl3 := run_loadVar_mid (P := Tryz.prog) _ (w.heap.size) 0 36 _ _ (rangeRow HROW.out) Tryz.underlying36 rfl hi'
    simp [results, Tryz.results16, asAddr, hl3]
  | true =>
  rw [hP] at C1
  have C3' := C3.out hP
  have C4' := C4.out hP
  have C5' := C5.out hP
  go_wp2_with fail
  refine (C1.out _).mono ?_
  rintro e w4 ⟨rfl, b'⟩
  clear d0 d1 d2 d3 d4 d5 d6
  have L4 : Hid (HasB w4 [(jb, [Value.int .i64 key, .int .i64 nonce, .string url, .string body, .int .i64 key, .int .i64 se, .int .i64 ss], 34), (w.heap.size, [Value.int .i64 0, .int .i64 0, .string ⟨#[]⟩, .string ⟨#[]⟩, .int .i64 0, .int .i64 0, .int .i64 0, .int .i64 0], 36)]) := HasB.keep L3.out b'
  have B4 : Hid (Below w.heap.size w w4) := B3.out.trans (b'.mono B3.out.size)
  clear b'
  have d0 := rowFacts L4.out.head 0 _ rfl
  have d1 := rowFacts L4.out.head 1 _ rfl
  have d2 := rowFacts L4.out.head 2 _ rfl
  have d3 := rowFacts L4.out.head 3 _ rfl
  have d4 := rowFacts L4.out.head 4 _ rfl
  have d5 := rowFacts L4.out.head 5 _ rfl
  have d6 := rowFacts L4.out.head 6 _ rfl
  go_wp2_with fail
  refine (C3' _).mono ?_
  rintro e w5 ⟨rfl, b'⟩
  clear d0 d1 d2 d3 d4 d5 d6
  have L5 : Hid (HasB w5 [(jb, [Value.int .i64 key, .int .i64 nonce, .string url, .string body, .int .i64 key, .int .i64 se, .int .i64 ss], 34), (w.heap.size, [Value.int .i64 0, .int .i64 0, .string ⟨#[]⟩, .string ⟨#[]⟩, .int .i64 0, .int .i64 0, .int .i64 0, .int .i64 0], 36)]) := HasB.keep L4.out b'
  have B5 : Hid (Below w.heap.size w w5) := B4.out.trans (b'.mono B4.out.size)
  clear b'
  by_cases hT : TX = s
  rotate_left
  · have HF : Hid (R = (.zero, 3)) := N1.out (fun h => hT h.2)
    have hn1 : (TX.toList == s.toList) = false := by rw [same_text']; exact decide_eq_false hT
    have hn : (TX.toList != s.toList) = true := by rw [bne, hn1]; rfl
    have hR := L5.out.tail.head
    go_wp2_with (refine wpList_store_row rfl 36 _ _ rfl (w.heap.size) _ [Value.int .i64 0, .int .i64 0, .string ⟨#[]⟩, .string ⟨#[]⟩, .int .i64 0, .int .i64 0, .int .i64 0, .int .i64 3] 36 rfl rfl hR rfl hi' (by simp [Value.oneCell']) ?_)
    intro w8 hrow ho hs8 hbb
    have HROW : Hid _ := hrow
    have HB8 : Hid (Below w.heap.size w w8) := hbb _ _ (Nat.le_refl _) B5.out
    clear ho hs8 hbb hrow hR
    go_wp2
    refine bodyPost_ret (v := .agg [Value.int .i64 0, .int .i64 0, .string ⟨#[]⟩, .string ⟨#[]⟩, .int .i64 0, .int .i64 0, .int .i64 0, .int .i64 3].toArray) ?_ rfl ⟨by rw [HF.out]; rfl, HB8.out⟩
    have hl3 := run_loadVar_mid (P := Tryz.prog) _ (w.heap.size) 0 36 _ _ (rangeRow HROW.out) Tryz.underlying36 rfl hi'
    simp [results, Tryz.results16, asAddr, hl3]
  have hn1 : (TX.toList == s.toList) = true := by rw [same_text']; exact decide_eq_true hT
  have hn : (TX.toList != s.toList) = false := by rw [bne, hn1]; rfl
  have d0 := rowFacts L5.out.head 0 _ rfl
  have d1 := rowFacts L5.out.head 1 _ rfl
  have d2 := rowFacts L5.out.head 2 _ rfl
  have d3 := rowFacts L5.out.head 3 _ rfl
  have d4 := rowFacts L5.out.head 4 _ rfl
  have d5 := rowFacts L5.out.head 5 _ rfl
  have d6 := rowFacts L5.out.head 6 _ rfl
  have HK : Hid (∀ V, Below w5.heap.size w5 V → V.cell? ⟨jb, 0, none⟩ = some (.int .i64 key) ∧ V.cell? ⟨jb, 1, none⟩ = some (.int .i64 nonce) ∧ V.cell? ⟨jb, 2, none⟩ = some (.string url) ∧ V.cell? ⟨jb, 3, none⟩ = some (.string body) ∧ V.cell? ⟨jb, 4, none⟩ = some (.int .i64 key) ∧ V.cell? ⟨jb, 5, none⟩ = some (.int .i64 se) ∧ V.cell? ⟨jb, 6, none⟩ = some (.int .i64 ss)) := fun V hV => by
    have hP := (HasB.keep L5.out hV).head
    exact ⟨rowFacts hP 0 _ rfl, rowFacts hP 1 _ rfl, rowFacts hP 2 _ rfl, rowFacts hP 3 _ rfl, rowFacts hP 4 _ rfl, rowFacts hP 5 _ rfl, rowFacts hP 6 _ rfl⟩
  have D4 : Hid (∀ V, Hid (Below w5.heap.size w5 V) → Calls Tryz.prog 38 #[.agg #[.int .i64 key, .int .i64 nonce, .string url, .string body, .int .i64 key, .int .i64 se, .int .i64 ss]] V fun e W => e = .returned (.string TW) ∧ Hid (Below w5.heap.size w5 W)) := fun V hV => (C4' V).mono fun e W h => ⟨h.1, hV.out.trans (h.2.mono hV.out.size)⟩
  have D5 : Hid (∀ V, Hid (Below w5.heap.size w5 V) → Calls Tryz.prog 46 #[.agg #[.int .i64 key, .int .i64 se, .int .i64 ss], .string TW] V fun e W => e = .returned (.bool P3) ∧ Hid (Below w5.heap.size w5 W)) := fun V hV => (C5' V).mono fun e W h => ⟨h.1, hV.out.trans (h.2.mono hV.out.size)⟩
  have I5 : Hid (Below w5.heap.size w5 w5.drew) := (Below.refl _ _).drew
  clear C1 C3 C4 C5 C3' C4' C5' N1
  clear d0 d1 d2 d3 d4 d5 d6
  go_upto_region 6 with fail
  obtain ⟨c0, c1, c2, c3, c4, c5, c6⟩ := HK.out w5 (Below.refl _ _)
  go_region_held3 (fun V => V.cell? ⟨jb, 0, none⟩ = some (.int .i64 key) ∧ V.cell? ⟨jb, 1, none⟩ = some (.int .i64 nonce) ∧ V.cell? ⟨jb, 2, none⟩ = some (.string url) ∧ V.cell? ⟨jb, 3, none⟩ = some (.string body) ∧ V.cell? ⟨jb, 4, none⟩ = some (.int .i64 key) ∧ V.cell? ⟨jb, 5, none⟩ = some (.int .i64 se) ∧ V.cell? ⟨jb, 6, none⟩ = some (.int .i64 ss)) (first | (refine ⟨?_, ?_, ?_, ?_, ?_, ?_, ?_⟩ <;> assumption) | exact HK.out _ (Hid.out (by assumption)))
    (first
      | (go_at_call 38; refine (D4.out _ (by assumption)).mono ?_; rintro r V2 ⟨rfl, k2⟩)
      | (go_at_call 46; refine (D5.out _ (by assumption)).mono ?_; rintro r V3 ⟨rfl, k3⟩))
  all_goals
    have K9 : Hid (Below w5.heap.size w5 V3) := k3
    have L6 : Hid (HasB V3 [(jb, [Value.int .i64 key, .int .i64 nonce, .string url, .string body, .int .i64 key, .int .i64 se, .int .i64 ss], 34), (w.heap.size, [Value.int .i64 0, .int .i64 0, .string ⟨#[]⟩, .string ⟨#[]⟩, .int .i64 0, .int .i64 0, .int .i64 0, .int .i64 0], 36)]) := HasB.keep L5.out K9.out
    have B6 : Hid (Below w.heap.size w V3) := B5.out.trans (K9.out.mono B5.out.size)
    clear k2 k3 K9 c0 c1 c2 c3 c4 c5 c6 HK D4 D5 I5 L5 B5
    have hR := L6.out.tail.head
    have d0 := rowFacts L6.out.head 0 _ rfl
    have d1 := rowFacts L6.out.head 1 _ rfl
    have d2 := rowFacts L6.out.head 2 _ rfl
    have d3 := rowFacts L6.out.head 3 _ rfl
    have d4 := rowFacts L6.out.head 4 _ rfl
    have d5 := rowFacts L6.out.head 5 _ rfl
    have d6 := rowFacts L6.out.head 6 _ rfl
    cases P3 with
    | false =>
      have HF : Hid (R = (.zero, 6)) := N2.out hP hT rfl
      go_wp2_with (refine wpList_store_row rfl 36 _ _ rfl (w.heap.size) _ [Value.int .i64 0, .int .i64 0, .string ⟨#[]⟩, .string ⟨#[]⟩, .int .i64 0, .int .i64 0, .int .i64 0, .int .i64 6] 36 rfl rfl hR rfl hi' (by simp [Value.oneCell']) ?_)
      intro w8 hrow ho hs8 hbb
      have HROW : Hid _ := hrow
      have HB8 : Hid (Below w.heap.size w w8) := hbb _ _ (Nat.le_refl _) B6.out
      clear ho hs8 hbb hrow hR
      go_wp2
      refine bodyPost_ret (v := .agg [Value.int .i64 0, .int .i64 0, .string ⟨#[]⟩, .string ⟨#[]⟩, .int .i64 0, .int .i64 0, .int .i64 0, .int .i64 6].toArray) ?_ rfl ⟨by rw [HF.out]; rfl, HB8.out⟩
      have hl3 := run_loadVar_mid (P := Tryz.prog) _ (w.heap.size) 0 36 _ _ (rangeRow HROW.out) Tryz.underlying36 rfl hi'
      simp [results, Tryz.results16, asAddr, hl3]
    | true =>
      have HF : Hid (R = (⟨key, nonce, url, body, se, ss⟩, 0)) := N3.out hP hT rfl
      go_wp2_with (refine wpList_store_row rfl 36 _ _ rfl (w.heap.size) _ [Value.int .i64 key, .int .i64 nonce, .string url, .string body, .int .i64 key, .int .i64 se, .int .i64 ss, .int .i64 0] 36 rfl rfl hR rfl hi' (by simp [Value.oneCell']) ?_)
      intro w8 hrow ho hs8 hbb
      have HROW : Hid _ := hrow
      have HB8 : Hid (Below w.heap.size w w8) := hbb _ _ (Nat.le_refl _) B6.out
      clear ho hs8 hbb hrow hR
      go_wp2
      refine bodyPost_ret (v := .agg [Value.int .i64 key, .int .i64 nonce, .string url, .string body, .int .i64 key, .int .i64 se, .int .i64 ss, .int .i64 0].toArray) ?_ rfl ⟨by rw [HF.out]; rfl, HB8.out⟩
      have hl3 := run_loadVar_mid (P := Tryz.prog) _ (w.heap.size) 0 36 _ _ (rangeRow HROW.out) Tryz.underlying36 rfl hi'
      simp [results, Tryz.results16, asAddr, hl3]
end Go.Proofs.YtdehbaafbbjcgaaGreatDoor
