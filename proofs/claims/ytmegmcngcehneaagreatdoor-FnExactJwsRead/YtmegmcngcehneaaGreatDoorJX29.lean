/- spec.l04Challenge, walked. A Sig in memory. spec.l04Check, spec.SigCheck, walked. -/
import Derived.Test.YtmegmcngcehneaaGreatDoorJX28
import Derived.Test.YtmegmcngcehneaaGreatDoorJX09
import Derived.Test.YtmegmcngcehneaaGreatDoorJX04
import Derived.Test.YtmegmcngcehneaaGreatDoorJX02
import Derived.Test.YtmegmcngcehneaaGreatDoorJX24
import Derived.Deep.QuietTactic
import Derived.BigQuiet
import Derived.Deep.RegionHeld3
namespace Go.Proofs.YtmegmcngcehneaaGreatDoor
open Go.RowKit

set_option maxHeartbeats 1000000 in
set_option maxRecDepth 100000 in
theorem specChal (r key : Int) (t : ByteArray) (w : World) (ht : t.size ≤ 20000) (r0 : -9223372036854775808 ≤ r) (r1 : r ≤ 9223372036854775807) (k0 : -9223372036854775808 ≤ key) (k1 : key ≤ 9223372036854775807) :
    Calls Tryz.prog 51 #[.int .i64 r, .int .i64 key, .string t] w fun e w' => e = .returned (.int .i64 (chal r key t : Int)) ∧ Below w.heap.size w w' := by
  have s2 := putS_size r
  have s3 := putS_size key
  have P2 : Hid (∀ v : World, Calls Tryz.prog 29 #[.int .i64 r] v fun e w' => e = .returned (.string (putS r)) ∧ Below v.heap.size v w') := fun v => specPut r v r0 r1
  have P3 : Hid (∀ v : World, Calls Tryz.prog 29 #[.int .i64 key] v fun e w' => e = .returned (.string (putS key)) ∧ Below v.heap.size v w') := fun v => specPut key v k0 k1
  have EC : Hid ((dnum (putS r ++ putS key ++ t) % 1073741789 : Nat) = chal r key t) := rfl
  have ld := dnum_lt (putS r ++ putS key ++ t)
  have LD : Hid (∀ a b : ByteArray, a = putS r → b = putS key → dnum (a ++ b ++ t) < 72057594037927936 ∧ dnum (a ++ b ++ t) % 1073741789 = chal r key t) := fun a b ha hb => by subst ha hb; exact ⟨ld, EC.out⟩
  generalize hp : putS r = p at s2 P2
  generalize hq : putS key = q at s3 P3
  have LD' := LD.out p q hp.symm hq.symm
  have LE : Hid (dnum (p ++ q ++ t) < 72057594037927936 ∧ dnum (p ++ q ++ t) % 1073741789 = chal r key t) := LD'
  clear LD LD' ld EC hp hq r0 r1 k0 k1
  have n1 : (p ++ q).size = p.size + q.size := size_append p q
  have n2 : (p ++ q ++ t).size = p.size + q.size + t.size := by rw [size_append, size_append]
  go_enter Tryz.func51, Tryz.ntmps51
  go_wp2_with fail
  refine (P2.out _).mono ?_
  rintro e w1 ⟨rfl, hb1⟩
  have B1 : Hid (Below w.heap.size w w1) := hb1
  have z1 := hb1.size
  clear hb1
  go_wp2_with fail
  refine (P3.out _).mono ?_
  rintro e w2 ⟨rfl, hb2⟩
  have B2 : Hid (Below w.heap.size w w2) := B1.out.trans (hb2.mono z1)
  have z2 := B2.out.size
  clear hb2
  go_wp2_with fail
  refine (specNum (p ++ q ++ t) _ (by omega)).mono ?_
  rintro e w4 ⟨rfl, hb4⟩
  have B4 : Hid (Below w.heap.size w w4) := B2.out.trans (hb4.mono z2)
  clear hb4
  obtain ⟨l1, l2⟩ := LE.out
  generalize dnum (p ++ q ++ t) = d at l1 l2
  have t1 : (d : Int).tmod 1073741789 = ((d % 1073741789 : Nat) : Int) := tmodN d 1073741789
  rw [l2] at t1
  clear LE l1 l2
  go_wp2
  go_ret
  exact ⟨rfl, B4.out⟩
end Go.Proofs.YtmegmcngcehneaaGreatDoor
namespace Go.Proofs.YtmegmcngcehneaaGreatDoor
open Go.RowKit

theorem sigRow {w : World} {g : Nat} {t : TypeId} {x y z : Value} (hg : w.heap[g]? = some (.cells [x, y, z].toArray t (0, 0))) (a b c : Value) :
    (((w.setCell ⟨g, 0, none⟩ a).setCell ⟨g, 1, none⟩ b).setCell ⟨g, 2, none⟩ c).heap[g]? = some (.cells [a, b, c].toArray t (0, 0)) := rowSet c (rowSet b (rowSet a hg))
theorem sizeSig : (Tryz.prog.info? 23).map (·.size) = some 3 := by kernel_rfl
end Go.Proofs.YtmegmcngcehneaaGreatDoor
namespace Go.Proofs.YtmegmcngcehneaaGreatDoor
open Go.RowKit

/-- A power modulo GroupP, of numbers as a call has them. -/
def powP (a n : Int) : Int := ((pm a.toNat n.toNat 2147483579 : Nat) : Int)
theorem powP_nat (a n : Nat) : powP a n = ((pm a n 2147483579 : Nat) : Int) := by unfold powP; rw [Int.toNat_natCast, Int.toNat_natCast]
theorem specPowP (a n : Int) (w : World) (ha : 0 ≤ a) (hn : 0 ≤ n) (hn2 : n ≤ 9223372036854775807) :
    Calls Tryz.prog 48 #[.int .i64 a, .int .i64 n, .int .i64 2147483579] w fun e w' => e = .returned (.int .i64 (powP a n)) ∧ w' = w := by
  obtain ⟨A, rfl⟩ := Int.eq_ofNat_of_zero_le ha
  obtain ⟨N, rfl⟩ := Int.eq_ofNat_of_zero_le hn
  rw [powP_nat]
  exact specPow A N 2147483579 w (by omega) (by omega) (by omega)
set_option maxHeartbeats 1000000 in
set_option maxRecDepth 100000 in
theorem specCheck (k e s : Nat) (t : ByteArray) (w : World) (ht : t.size ≤ 20000) (hk : k < 2147483579) (he : e < 1073741789) (hs : s < 1073741789) :
    Calls Tryz.prog 30 #[.agg #[.int .i64 (k : Int), .int .i64 (e : Int), .int .i64 (s : Int)], .string t] w fun r w' => r = .returned (.bool (decide ((chal (backR k e s : Nat) k t : Int) = (e : Int)))) ∧ Below w.heap.size w w' := by
  obtain ⟨j, hj⟩ : ∃ j : Nat, j = 1073741789 - e := ⟨_, rfl⟩
  obtain ⟨y1, hy1⟩ : ∃ y : Nat, y = pm 4 s 2147483579 := ⟨_, rfl⟩
  obtain ⟨y2, hy2⟩ : ∃ y : Nat, y = pm k j 2147483579 := ⟨_, rfl⟩
  have hb := backR_nat k e s
  rw [← hj, ← hy1, ← hy2] at hb
  have e1 : powP 4 (s : Int) = (y1 : Int) := by rw [hy1]; exact powP_nat 4 s
  have e2 : powP (k : Int) (j : Int) = (y2 : Int) := by rw [hy2]; exact powP_nat k j
  have q1 : y1 < 2147483579 := by rw [hy1]; exact pm_lt 4 s (by omega)
  have q2 : y2 < 2147483579 := by rw [hy2]; exact pm_lt k j (by omega)
  have hj' : (1073741789 : Int) - (e : Int) = (j : Int) := by omega
  obtain ⟨p, hp, ep, lp, up⟩ := prod_bd y1 y2 (by omega) (by omega)
  obtain ⟨b, hbb⟩ : ∃ b : Nat, b = backR k e s := ⟨_, rfl⟩
  rw [← hbb] at hb
  have hz : b < 2147483579 := by rw [hb]; exact Nat.mod_lt _ (by omega)
  have t0 : (p : Int).tmod 2147483579 = (b : Int) := by rw [hb, ← hp]; exact tmodN p 2147483579
  obtain ⟨c, hc⟩ : ∃ c : Nat, c = chal (b : Int) k t := ⟨_, rfl⟩
  have HX : Hid (∀ v : World, Calls Tryz.prog 51 #[.int .i64 (b : Int), .int .i64 (k : Int), .string t] v fun r w' => r = .returned (.int .i64 (c : Int)) ∧ Below v.heap.size v w') := fun v => by rw [hc]; exact specChal _ _ t v ht (by omega) (by omega) (by omega) (by omega)
  rw [← hbb, ← hc]
  clear hb hp q1 q2 hj hy1 hy2 hbb hc hz hk
  go_enter Tryz.func30, Tryz.ntmps30
  go_wp2_with fail
  go_quiet ((go_at_call 48; exact Calls.quiet_of_same (specPowP _ _ _ (by omega) (by omega) (by omega))))
  go_wp2_with fail
  obtain ⟨w1, hw1⟩ : ∃ w1, (w.alloc (.cells #[.int .i64 (k : Int), .int .i64 (e : Int), .int .i64 (s : Int)] 23 (0, 0))).drewN nq = w1 := ⟨_, rfl⟩
  have hg1 : w1.heap[w.heap.size]? = some (.cells [Value.int .i64 (k : Int), .int .i64 (e : Int), .int .i64 (s : Int)].toArray 23 (0, 0)) := by rw [← hw1]; exact heap_alloc_new w _
  have hb1 : Below w.heap.size w w1 := by rw [← hw1]; exact below_drewN (allocBelow w _) nq
  rw [hw1]
  have p0 := rowFacts hg1 0 _ rfl
  have p1 := rowFacts hg1 1 _ rfl
  have HT : Hid (Calls Tryz.prog 51 #[.int .i64 (b : Int), .int .i64 (k : Int), .string t] w1.drew fun r W => r = .returned (.int .i64 (c : Int)) ∧ Hid (Below w.heap.size w W) ∧ W.cell? ⟨w.heap.size, 0, none⟩ = some (.int .i64 (k : Int)) ∧ W.cell? ⟨w.heap.size, 1, none⟩ = some (.int .i64 (e : Int))) := by
    show Calls _ _ _ _ _
    refine (HX.out w1.drew).mono ?_
    rintro r W ⟨rfl, hb⟩
    have hl : w.heap.size < w1.drew.heap.size := heap_lt (show w1.drew.heap[w.heap.size]? = _ from hg1)
    exact ⟨rfl, hb1.drew.trans (hb.mono (Nat.le_of_lt hl)), by rw [hb.cell hl]; exact p0, by rw [hb.cell hl]; exact p1⟩
  clear hw1 hg1 hb1 HX e1 e2 hj' ep lp up t0
  go_region_held3 (fun V => V.cell? ⟨w.heap.size, 0, none⟩ = some (.int .i64 (k : Int)) ∧ V.cell? ⟨w.heap.size, 1, none⟩ = some (.int .i64 (e : Int))) (first | exact ⟨c0, c1⟩ | go_keep)
    (first | (go_at_call 51; refine HT.out.mono ?_; rintro r W ⟨rfl, kk, c0, c1⟩))
  all_goals
    go_wp2
    go_ret
    exact ⟨rfl, kk.out⟩
set_option maxHeartbeats 1000000 in
set_option maxRecDepth 100000 in
theorem specSigCheck (k e s : Int) (t : ByteArray) (w : World) (ht : t.size ≤ maxLen) :
    Calls Tryz.prog 10 #[.agg #[.int .i64 k, .int .i64 e, .int .i64 s], .string t] w fun r w' => r = .returned (.bool (sigCB k e s t)) ∧ Below w.heap.size w w' := by
  have htm := ht
  unfold maxLen at htm
  by_cases h1 : 20000 < t.size
  · have ea : Hid (sigCB k e s t = false) := sigCB_long h1
    go_enter Tryz.func10, Tryz.ntmps10
    go_wp2
    go_ret
    exact ⟨by rw [ea.out]; rfl, allocBelow _ _⟩
  have ht2 : t.size ≤ 20000 := by omega
  by_cases h2 : sigRB k e s = true
  · obtain ⟨K, E, S, rfl, rfl, rfl, hk, he, hs, _⟩ := sigRB_nat h2
    have ea : Hid (sigCB K E S t = decide ((chal (backR K E S : Nat) K t : Int) = (E : Int))) := sigCB_right ht2 h2
    have HX : Hid (∀ v : World, Calls Tryz.prog 30 #[.agg #[.int .i64 (K : Int), .int .i64 (E : Int), .int .i64 (S : Int)], .string t] v fun r w' => r = .returned (.bool (decide ((chal (backR K E S : Nat) K t : Int) = (E : Int)))) ∧ Below v.heap.size v w') := fun v => specCheck K E S t v ht2 hk he hs
    generalize decide ((chal (backR K E S : Nat) K t : Int) = (E : Int)) = b at *
    go_enter Tryz.func10, Tryz.ntmps10
    go_wp2_with fail
    refine (specSigRight K E S _).mono ?_
    rintro r w1 ⟨rfl, hb1⟩
    rw [h2]
    have c0 : w1.cell? ⟨w.heap.size, 0, none⟩ = some (.int .i64 (K : Int)) := by rw [hb1.cell (p := ⟨w.heap.size, 0, none⟩) (by simp)]; simp
    have c1 : w1.cell? ⟨w.heap.size, 1, none⟩ = some (.int .i64 (E : Int)) := by rw [hb1.cell (p := ⟨w.heap.size, 1, none⟩) (by simp)]; simp
    have c2 : w1.cell? ⟨w.heap.size, 2, none⟩ = some (.int .i64 (S : Int)) := by rw [hb1.cell (p := ⟨w.heap.size, 2, none⟩) (by simp)]; simp
    have B1 : Hid (Below w.heap.size w w1) := (allocBelow w _).trans (hb1.mono (by simp))
    clear hb1
    go_wp2_with fail
    refine (HX.out _).mono ?_
    rintro r w2 ⟨rfl, hb2⟩
    have B2 : Hid (Below w.heap.size w w2) := B1.out.trans (hb2.mono B1.out.size)
    clear hb2
    go_wp2
    go_ret
    exact ⟨by rw [ea.out]; rfl, B2.out⟩
  · rw [Bool.not_eq_true] at h2
    have ea : Hid (sigCB k e s t = false) := sigCB_wrong h2
    go_enter Tryz.func10, Tryz.ntmps10
    go_wp2_with fail
    refine (specSigRight k e s _).mono ?_
    rintro r w1 ⟨rfl, hb1⟩
    rw [h2]
    have B1 : Hid (Below w.heap.size w w1) := (allocBelow w _).trans (hb1.mono (by simp))
    clear hb1
    go_wp2
    go_ret
    exact ⟨by rw [ea.out]; rfl, B1.out⟩
end Go.Proofs.YtmegmcngcehneaaGreatDoor
