/- spec.l04Challenge, walked. spec.l04Check, spec.SigCheck, walked. The specification's side of what is asked for: spec.l07Body, l07Form, l07Right, l07Bytes, CsrBytes, walked. spec.l07Right, walked. -/
import Derived.Test.YtekflbicjokdnaaGreatDoorCR23
import Derived.Test.YtekflbicjokdnaaGreatDoorCR07
import Derived.Test.YtekflbicjokdnaaGreatDoorCR22
import Derived.Test.YtekflbicjokdnaaGreatDoorCR19
import Derived.Test.YtekflbicjokdnaaGreatDoorCR13
import Derived.Deep.QuietTactic
import Derived.BigQuiet
import Derived.Deep.RegionHeld3
import Derived.Test.YtekflbicjokdnaaGreatDoorCR03
import Derived.Deep.Cut
namespace Go.Proofs.YtekflbicjokdnaaGreatDoor
open Go.RowKit

set_option maxHeartbeats 1000000 in
set_option maxRecDepth 100000 in
theorem specChal (r key : Int) (t : ByteArray) (w : World) (ht : t.size ≤ 20000) (r0 : -9223372036854775808 ≤ r) (r1 : r ≤ 9223372036854775807) (k0 : -9223372036854775808 ≤ key) (k1 : key ≤ 9223372036854775807) :
    Calls Tryz.prog 161 #[.int .i64 r, .int .i64 key, .string t] w fun e w' => e = .returned (.int .i64 (chal r key t : Int)) ∧ Below w.heap.size w w' := by
  have s2 := putS_size r
  have s3 := putS_size key
  have P2 : Hid (∀ v : World, Calls Tryz.prog 80 #[.int .i64 r] v fun e w' => e = .returned (.string (putS r)) ∧ Below v.heap.size v w') := fun v => specPut r v r0 r1
  have P3 : Hid (∀ v : World, Calls Tryz.prog 80 #[.int .i64 key] v fun e w' => e = .returned (.string (putS key)) ∧ Below v.heap.size v w') := fun v => specPut key v k0 k1
  have EC : Hid ((dnum (putS r ++ putS key ++ t) % 1073741789 : Nat) = chal r key t) := rfl
  have ld := dnum_lt (putS r ++ putS key ++ t)
  have LD : Hid (∀ a b : ByteArray, a = putS r → b = putS key → dnum (a ++ b ++ t) < 72057594037927936 ∧ dnum (a ++ b ++ t) % 1073741789 = chal r key t) := fun a b ha hb => by subst ha hb; exact ⟨ld, EC.out⟩
  generalize hp : putS r = p at s2 P2
  generalize hq : putS key = q at s3 P3
  have LD' := LD.out p q hp.symm hq.symm
  have LE : Hid (dnum (p ++ q ++ t) < 72057594037927936 ∧ dnum (p ++ q ++ t) % 1073741789 = chal r key t) := LD'
  clear LD LD' ld EC hp hq r0 r1 k0 k1
  have n1 : (p ++ q).size = p.size + q.size := size_append p q
  have n2 : (p ++ q ++ t).size = p.size + q.size + t.size := by rw [size_append, size_append]
  go_enter Tryz.func161, Tryz.ntmps161
  go_wp2_with fail
  refine (P2.out _).mono ?_
  rintro e w1 ⟨rfl, hb1⟩
  have B1 : Hid (Below w.heap.size w w1) := hb1
  have z1 := hb1.size
  clear hb1
  go_wp2_with fail
  refine (P3.out _).mono ?_
  rintro e w2 ⟨rfl, hb2⟩
  have B2 : Hid (Below w.heap.size w w2) := B1.out.trans (hb2.mono z1)
  have z2 := B2.out.size
  clear hb2
  go_wp2_with fail
  refine (specNum (p ++ q ++ t) _ (by omega)).mono ?_
  rintro e w4 ⟨rfl, hb4⟩
  have B4 : Hid (Below w.heap.size w w4) := B2.out.trans (hb4.mono z2)
  clear hb4
  obtain ⟨l1, l2⟩ := LE.out
  generalize dnum (p ++ q ++ t) = d at l1 l2
  have t1 : (d : Int).tmod 1073741789 = ((d % 1073741789 : Nat) : Int) := tmodN d 1073741789
  rw [l2] at t1
  clear LE l1 l2
  go_wp2
  go_ret
  exact ⟨rfl, B4.out⟩
end Go.Proofs.YtekflbicjokdnaaGreatDoor
namespace Go.Proofs.YtekflbicjokdnaaGreatDoor
open Go.RowKit

/-- A power modulo GroupP, of numbers as a call has them. -/
def powP (a n : Int) : Int := ((pm a.toNat n.toNat 2147483579 : Nat) : Int)
theorem powP_nat (a n : Nat) : powP a n = ((pm a n 2147483579 : Nat) : Int) := by unfold powP; rw [Int.toNat_natCast, Int.toNat_natCast]
theorem specPowP (a n : Int) (w : World) (ha : 0 ≤ a) (hn : 0 ≤ n) (hn2 : n ≤ 9223372036854775807) :
    Calls Tryz.prog 128 #[.int .i64 a, .int .i64 n, .int .i64 2147483579] w fun e w' => e = .returned (.int .i64 (powP a n)) ∧ w' = w := by
  obtain ⟨A, rfl⟩ := Int.eq_ofNat_of_zero_le ha
  obtain ⟨N, rfl⟩ := Int.eq_ofNat_of_zero_le hn
  rw [powP_nat]
  exact specPow A N 2147483579 w (by omega) (by omega) (by omega)
set_option maxHeartbeats 1000000 in
set_option maxRecDepth 100000 in
theorem specCheck (k e s : Nat) (t : ByteArray) (w : World) (ht : t.size ≤ 20000) (hk : k < 2147483579) (he : e < 1073741789) (hs : s < 1073741789) :
    Calls Tryz.prog 133 #[.agg #[.int .i64 (k : Int), .int .i64 (e : Int), .int .i64 (s : Int)], .string t] w fun r w' => r = .returned (.bool (decide ((chal (backR k e s : Nat) k t : Int) = (e : Int)))) ∧ Below w.heap.size w w' := by
  obtain ⟨j, hj⟩ : ∃ j : Nat, j = 1073741789 - e := ⟨_, rfl⟩
  obtain ⟨y1, hy1⟩ : ∃ y : Nat, y = pm 4 s 2147483579 := ⟨_, rfl⟩
  obtain ⟨y2, hy2⟩ : ∃ y : Nat, y = pm k j 2147483579 := ⟨_, rfl⟩
  have hb := backR_nat k e s
  rw [← hj, ← hy1, ← hy2] at hb
  have e1 : powP 4 (s : Int) = (y1 : Int) := by rw [hy1]; exact powP_nat 4 s
  have e2 : powP (k : Int) (j : Int) = (y2 : Int) := by rw [hy2]; exact powP_nat k j
  have q1 : y1 < 2147483579 := by rw [hy1]; exact pm_lt 4 s (by omega)
  have q2 : y2 < 2147483579 := by rw [hy2]; exact pm_lt k j (by omega)
  have hj' : (1073741789 : Int) - (e : Int) = (j : Int) := by omega
  obtain ⟨p, hp, ep, lp, up⟩ := prod_bd y1 y2 (by omega) (by omega)
  obtain ⟨b, hbb⟩ : ∃ b : Nat, b = backR k e s := ⟨_, rfl⟩
  rw [← hbb] at hb
  have hz : b < 2147483579 := by rw [hb]; exact Nat.mod_lt _ (by omega)
  have t0 : (p : Int).tmod 2147483579 = (b : Int) := by rw [hb, ← hp]; exact tmodN p 2147483579
  obtain ⟨c, hc⟩ : ∃ c : Nat, c = chal (b : Int) k t := ⟨_, rfl⟩
  have HX : Hid (∀ v : World, Calls Tryz.prog 161 #[.int .i64 (b : Int), .int .i64 (k : Int), .string t] v fun r w' => r = .returned (.int .i64 (c : Int)) ∧ Below v.heap.size v w') := fun v => by rw [hc]; exact specChal _ _ t v ht (by omega) (by omega) (by omega) (by omega)
  rw [← hbb, ← hc]
  clear hb hp q1 q2 hj hy1 hy2 hbb hc hz hk
  go_enter Tryz.func133, Tryz.ntmps133
  go_wp2_with fail
  go_quiet ((go_at_call 128; exact Calls.quiet_of_same (specPowP _ _ _ (by omega) (by omega) (by omega))))
  go_wp2_with fail
  obtain ⟨w1, hw1⟩ : ∃ w1, (w.alloc (.cells #[.int .i64 (k : Int), .int .i64 (e : Int), .int .i64 (s : Int)] 24 (0, 0))).drewN nq = w1 := ⟨_, rfl⟩
  have hg1 : w1.heap[w.heap.size]? = some (.cells [Value.int .i64 (k : Int), .int .i64 (e : Int), .int .i64 (s : Int)].toArray 24 (0, 0)) := by rw [← hw1]; exact heap_alloc_new w _
  have hb1 : Below w.heap.size w w1 := by rw [← hw1]; exact below_drewN (allocBelow w _) nq
  rw [hw1]
  have p0 := rowFacts hg1 0 _ rfl
  have p1 := rowFacts hg1 1 _ rfl
  have HT : Hid (Calls Tryz.prog 161 #[.int .i64 (b : Int), .int .i64 (k : Int), .string t] w1.drew fun r W => r = .returned (.int .i64 (c : Int)) ∧ Hid (Below w.heap.size w W) ∧ W.cell? ⟨w.heap.size, 0, none⟩ = some (.int .i64 (k : Int)) ∧ W.cell? ⟨w.heap.size, 1, none⟩ = some (.int .i64 (e : Int))) := by
    show Calls _ _ _ _ _
    refine (HX.out w1.drew).mono ?_
    rintro r W ⟨rfl, hb⟩
    have hl : w.heap.size < w1.drew.heap.size := heap_lt (show w1.drew.heap[w.heap.size]? = _ from hg1)
    exact ⟨rfl, hb1.drew.trans (hb.mono (Nat.le_of_lt hl)), by rw [hb.cell hl]; exact p0, by rw [hb.cell hl]; exact p1⟩
  clear hw1 hg1 hb1 HX e1 e2 hj' ep lp up t0
  go_region_held3 (fun V => V.cell? ⟨w.heap.size, 0, none⟩ = some (.int .i64 (k : Int)) ∧ V.cell? ⟨w.heap.size, 1, none⟩ = some (.int .i64 (e : Int))) (first | exact ⟨c0, c1⟩ | go_keep)
    (first | (go_at_call 161; refine HT.out.mono ?_; rintro r W ⟨rfl, kk, c0, c1⟩))
  all_goals
    go_wp2
    go_ret
    exact ⟨rfl, kk.out⟩
set_option maxHeartbeats 1000000 in
set_option maxRecDepth 100000 in
theorem specSigCheck (k e s : Int) (t : ByteArray) (w : World) (ht : t.size ≤ maxLen) :
    Calls Tryz.prog 81 #[.agg #[.int .i64 k, .int .i64 e, .int .i64 s], .string t] w fun r w' => r = .returned (.bool (sigCB k e s t)) ∧ Below w.heap.size w w' := by
  have htm := ht
  unfold maxLen at htm
  by_cases h1 : 20000 < t.size
  · have ea : Hid (sigCB k e s t = false) := sigCB_long h1
    go_enter Tryz.func81, Tryz.ntmps81
    go_wp2
    go_ret
    exact ⟨by rw [ea.out]; rfl, allocBelow _ _⟩
  have ht2 : t.size ≤ 20000 := by omega
  by_cases h2 : sigRB k e s = true
  · obtain ⟨K, E, S, rfl, rfl, rfl, hk, he, hs, _⟩ := sigRB_nat h2
    have ea : Hid (sigCB K E S t = decide ((chal (backR K E S : Nat) K t : Int) = (E : Int))) := sigCB_right ht2 h2
    have HX : Hid (∀ v : World, Calls Tryz.prog 133 #[.agg #[.int .i64 (K : Int), .int .i64 (E : Int), .int .i64 (S : Int)], .string t] v fun r w' => r = .returned (.bool (decide ((chal (backR K E S : Nat) K t : Int) = (E : Int)))) ∧ Below v.heap.size v w') := fun v => specCheck K E S t v ht2 hk he hs
    generalize decide ((chal (backR K E S : Nat) K t : Int) = (E : Int)) = b at *
    go_enter Tryz.func81, Tryz.ntmps81
    go_wp2_with fail
    refine (specSigRight K E S _).mono ?_
    rintro r w1 ⟨rfl, hb1⟩
    rw [h2]
    have c0 : w1.cell? ⟨w.heap.size, 0, none⟩ = some (.int .i64 (K : Int)) := by rw [hb1.cell (p := ⟨w.heap.size, 0, none⟩) (by simp)]; simp
    have c1 : w1.cell? ⟨w.heap.size, 1, none⟩ = some (.int .i64 (E : Int)) := by rw [hb1.cell (p := ⟨w.heap.size, 1, none⟩) (by simp)]; simp
    have c2 : w1.cell? ⟨w.heap.size, 2, none⟩ = some (.int .i64 (S : Int)) := by rw [hb1.cell (p := ⟨w.heap.size, 2, none⟩) (by simp)]; simp
    have B1 : Hid (Below w.heap.size w w1) := (allocBelow w _).trans (hb1.mono (by simp))
    clear hb1
    go_wp2_with fail
    refine (HX.out _).mono ?_
    rintro r w2 ⟨rfl, hb2⟩
    have B2 : Hid (Below w.heap.size w w2) := B1.out.trans (hb2.mono B1.out.size)
    clear hb2
    go_wp2
    go_ret
    exact ⟨by rw [ea.out]; rfl, B2.out⟩
  · rw [Bool.not_eq_true] at h2
    have ea : Hid (sigCB k e s t = false) := sigCB_wrong h2
    go_enter Tryz.func81, Tryz.ntmps81
    go_wp2_with fail
    refine (specSigRight k e s _).mono ?_
    rintro r w1 ⟨rfl, hb1⟩
    rw [h2]
    have B1 : Hid (Below w.heap.size w w1) := (allocBelow w _).trans (hb1.mono (by simp))
    clear hb1
    go_wp2
    go_ret
    exact ⟨by rw [ea.out]; rfl, B1.out⟩
end Go.Proofs.YtekflbicjokdnaaGreatDoor
namespace Go.Proofs.YtekflbicjokdnaaGreatDoor
open Go.RowKit

set_option linter.unusedSimpArgs false in
set_option maxHeartbeats 4000000 in
set_option maxRecDepth 100000 in
theorem specAskD (c : Ask) (a : Option Addr) (cap : Nat) (w : World) (hk : -9223372036854775808 ≤ c.key ∧ c.key ≤ 9223372036854775807) (hl : c.names.length ≤ 5) (hs : ∀ i, i < c.names.length → (tAt c.names i).size ≤ 40) (ha : IsStrs w a c.names) :
    Calls Tryz.prog 78 #[c.val (.slice a c.names.length cap)] w fun e w' => e = .returned (.string (askD c)) ∧ Below w.heap.size w w' := by
  have y1 := putS_size c.key
  have y2 := intD_le 0
  have y3 := hosts_le hl hs
  have y4 := askK_le c.key
  have HH : Hid (∀ V, IsStrs V a c.names → Calls Tryz.prog 131 #[.slice a c.names.length cap] V fun e w' => e = .returned (.string (seqD (hostsD c.names c.names.length))) ∧ Below V.heap.size V w') := fun V hV => specHosts a c.names cap V hl hs hV
  obtain ⟨R, hR⟩ : ∃ R, R = askD c := ⟨_, rfl⟩
  rw [← hR]
  have hR' : R = seqD (intD 0 ++ (thingD 3 (⟨#[0]⟩ ++ putS c.key) ++ seqD (hostsD c.names c.names.length))) := hR
  clear hR hl hs
  obtain ⟨key, names, sk, se, ss⟩ := c
  unfold Ask.val
  simp only at y1 y3 y4 HH hR' hk ha ⊢
  generalize seqD (hostsD names names.length) = G at *
  generalize names.length = nl at *
  obtain ⟨x1, q1⟩ : ∃ q, (⟨#[0]⟩ : ByteArray) ++ putS key = q := ⟨_, rfl⟩
  have s1 : x1.size ≤ 11 := by rw [← q1, ByteArray.size_append]; show 1 + _ ≤ _; omega
  rw [q1] at hR' y4
  obtain ⟨T, qT⟩ : ∃ q, q = thingD 3 x1 := ⟨_, rfl⟩
  rw [← qT] at hR' y4
  obtain ⟨I, qI⟩ : ∃ q, q = intD 0 := ⟨_, rfl⟩
  rw [← qI] at hR' y2
  obtain ⟨x2, q2⟩ : ∃ q, I ++ T = q := ⟨_, rfl⟩
  have s2 : x2.size ≤ 40 := by rw [← q2, ByteArray.size_append]; omega
  obtain ⟨x3, q3⟩ : ∃ q, x2 ++ G = q := ⟨_, rfl⟩
  have s3 : x3.size ≤ 300 := by rw [← q3, ByteArray.size_append]; omega
  have e3 : R = seqD x3 := by rw [hR', ← q3, ← q2, ByteArray.append_assoc]
  have a1 : ¬ 9223372036854775807 < (⟨#[0]⟩ : ByteArray).size + (putS key).size := by show ¬ _ < 1 + _; omega
  have a1' : ¬ 9223372036854775807 < 1 + (putS key).size := by omega
  have a2 : ¬ 9223372036854775807 < I.size + T.size := by omega
  have a3 : ¬ 9223372036854775807 < x2.size + G.size := by omega
  obtain ⟨w1, hw1⟩ : ∃ w1, w1 = w.alloc (.cells #[.int .i64 key, .slice a nl cap, .int .i64 sk, .int .i64 se, .int .i64 ss] 34 (0, 0)) := ⟨_, rfl⟩
  have r0 : w1.heap[w.heap.size]? = some (.cells [Value.int .i64 key, .slice a nl cap, .int .i64 sk, .int .i64 se, .int .i64 ss].toArray 34 (0, 0)) := by rw [hw1]; exact heap_alloc_new w _
  have B1 : Hid (Below w.heap.size w w1) := by rw [hw1]; exact (Below.refl _ _).alloc (Nat.le_refl _) _
  have z1 : w.heap.size < w1.heap.size := by rw [hw1]; simp
  have HK : Hid (∀ V, Below w1.heap.size w1 V → V.cell? ⟨w.heap.size, 0, none⟩ = some (.int .i64 key) ∧ V.cell? ⟨w.heap.size, 1, none⟩ = some (.slice a nl cap) ∧ V.cell? ⟨w.heap.size, 2, none⟩ = some (.int .i64 sk) ∧ V.cell? ⟨w.heap.size, 3, none⟩ = some (.int .i64 se) ∧ V.cell? ⟨w.heap.size, 4, none⟩ = some (.int .i64 ss)) := fun V hV => by
    have hP := (hV.block _ z1).trans r0
    exact ⟨rowFacts hP 0 _ rfl, rowFacts hP 1 _ rfl, rowFacts hP 2 _ rfl, rowFacts hP 3 _ rfl, rowFacts hP 4 _ rfl⟩
  have HA : Hid (∀ V, Below w1.heap.size w1 V → IsStrs V a names) := fun V hV => (ha.keep B1.out).keep hV
  have HB : Hid (∀ V, Below w1.heap.size w1 V → Below w.heap.size w V) := fun V hV => B1.out.trans (hV.mono B1.out.size)
  have I1 : Hid (Below w1.heap.size w1 w1) := Below.refl _ _
  have D1 : Hid (Below w1.heap.size w1 w1.drew) := I1.out.drew
  clear r0 z1 B1 ha
  have P1 : Hid (∀ V, Hid (Below w1.heap.size w1 V) → Calls Tryz.prog 80 #[.int .i64 key] V fun e W => e = .returned (.string (putS key)) ∧ Hid (Below w1.heap.size w1 W)) := fun V hV => (specPut key V hk.1 hk.2).mono fun e W h => ⟨h.1, hV.out.trans (h.2.mono hV.out.size)⟩
  have P2 : Hid (∀ V, Hid (Below w1.heap.size w1 V) → Calls Tryz.prog 79 #[.int .i64 3, .string x1] V fun e W => e = .returned (.string T) ∧ Hid (Below w1.heap.size w1 W)) := fun V hV => by
    rw [qT]
    exact (specThing 3 x1 V (by omega) (by omega) (by omega)).mono fun e W h => ⟨h.1, hV.out.trans (h.2.mono hV.out.size)⟩
  have P3 : Hid (∀ V, Hid (Below w1.heap.size w1 V) → Calls Tryz.prog 104 #[.int .i64 0] V fun e W => e = .returned (.string I) ∧ Hid (Below w1.heap.size w1 W)) := fun V hV => by
    rw [qI]
    exact (specDerInt 0 V (by omega) (by omega)).mono fun e W h => ⟨h.1, hV.out.trans (h.2.mono hV.out.size)⟩
  have P4 : Hid (∀ V, Hid (Below w1.heap.size w1 V) → Calls Tryz.prog 131 #[.slice a nl cap] V fun e W => e = .returned (.string G) ∧ Hid (Below w1.heap.size w1 W)) := fun V hV => (HH.out V (HA.out V hV.out)).mono fun e W h => ⟨h.1, hV.out.trans (h.2.mono hV.out.size)⟩
  have P5 : Hid (∀ V, Hid (Below w1.heap.size w1 V) → Calls Tryz.prog 56 #[.string x3] V fun e W => e = .returned (.string R) ∧ Hid (Below w1.heap.size w1 W)) := fun V hV => by
    rw [e3]
    exact (specSeq x3 V (by omega)).mono fun e W h => ⟨h.1, hV.out.trans (h.2.mono hV.out.size)⟩
  clear y1 y2 y3 y4 s1 s2 s3 hR' e3 qT qI HH HA hk
  obtain ⟨c0, c1, c2, c3, c4⟩ := HK.out w1 I1.out
  go_enter Tryz.func78, Tryz.ntmps78
  go_upto_region 1 with fail
  rw [← hw1]
  clear hw1
  go_region_held3 (fun V => V.cell? ⟨w.heap.size, 0, none⟩ = some (.int .i64 key) ∧ V.cell? ⟨w.heap.size, 1, none⟩ = some (.slice a nl cap) ∧ V.cell? ⟨w.heap.size, 2, none⟩ = some (.int .i64 sk) ∧ V.cell? ⟨w.heap.size, 3, none⟩ = some (.int .i64 se) ∧ V.cell? ⟨w.heap.size, 4, none⟩ = some (.int .i64 ss)) (first | (refine ⟨?_, ?_, ?_, ?_, ?_⟩ <;> assumption) | exact HK.out _ (Hid.out (by assumption)))
    (first
      | (go_at_call 80; refine (P1.out _ (by assumption)).mono ?_; rintro r V1 ⟨rfl, k1⟩)
      | (go_at_call 79; refine (P2.out _ (by assumption)).mono ?_; rintro r V2 ⟨rfl, k2⟩)
      | (go_at_call 104; refine (P3.out _ (by assumption)).mono ?_; rintro r V3 ⟨rfl, k3⟩)
      | (go_at_call 131; refine (P4.out _ (by assumption)).mono ?_; rintro r V4 ⟨rfl, k4⟩)
      | (go_at_call 56; refine (P5.out _ (by assumption)).mono ?_; rintro r V5 ⟨rfl, k5⟩))
  go_wp2
  go_ret
  exact ⟨rfl, HB.out _ k5.out⟩
set_option linter.unusedSimpArgs false in
set_option maxHeartbeats 4000000 in
set_option maxRecDepth 100000 in
theorem specForm (c : Ask) (a : Option Addr) (cap : Nat) (w : World) (hl : c.names.length ≤ 1048576) (ht : totS c.names c.names.length ≤ 1048576) (ha : IsStrs w a c.names) :
    Calls Tryz.prog 31 #[c.val (.slice a c.names.length cap)] w fun e w' => e = .returned (.bool (formB c)) ∧ Below w.heap.size w w' := by
  have HNm : Hid (∀ V, IsStrs V a c.names → Calls Tryz.prog 76 #[.slice a c.names.length cap] V fun e w' => e = .returned (.bool (namesB c.names)) ∧ Below V.heap.size V w') := fun V hV => specNames a c.names cap V hl ht hV
  obtain ⟨R, hR⟩ : ∃ R, R = formB c := ⟨_, rfl⟩
  rw [← hR]
  have HR : Hid (R = (rightG c.key && namesB c.names && decide (0 < c.names.length) && sigRB c.sk c.se c.ss && decide (c.sk = c.key))) := hR
  clear hR ht
  obtain ⟨key, names, sk, se, ss⟩ := c
  unfold Ask.val
  simp only at HNm HR hl ha ⊢
  obtain ⟨N, hN⟩ : ∃ N, N = namesB names := ⟨_, rfl⟩
  rw [← hN] at HNm HR
  clear hN
  generalize names.length = nl at *
  obtain ⟨w1, hw1⟩ : ∃ w1, w1 = w.alloc (.cells #[.int .i64 key, .slice a nl cap, .int .i64 sk, .int .i64 se, .int .i64 ss] 34 (0, 0)) := ⟨_, rfl⟩
  have r0 : w1.heap[w.heap.size]? = some (.cells [Value.int .i64 key, .slice a nl cap, .int .i64 sk, .int .i64 se, .int .i64 ss].toArray 34 (0, 0)) := by rw [hw1]; exact heap_alloc_new w _
  have B1 : Hid (Below w.heap.size w w1) := by rw [hw1]; exact (Below.refl _ _).alloc (Nat.le_refl _) _
  have z1 : w.heap.size < w1.heap.size := by rw [hw1]; simp
  have HK : Hid (∀ V, Below w1.heap.size w1 V → V.cell? ⟨w.heap.size, 0, none⟩ = some (.int .i64 key) ∧ V.cell? ⟨w.heap.size, 1, none⟩ = some (.slice a nl cap) ∧ V.cell? ⟨w.heap.size, 2, none⟩ = some (.int .i64 sk) ∧ V.cell? ⟨w.heap.size, 3, none⟩ = some (.int .i64 se) ∧ V.cell? ⟨w.heap.size, 4, none⟩ = some (.int .i64 ss)) := fun V hV => by
    have hP := (hV.block _ z1).trans r0
    exact ⟨rowFacts hP 0 _ rfl, rowFacts hP 1 _ rfl, rowFacts hP 2 _ rfl, rowFacts hP 3 _ rfl, rowFacts hP 4 _ rfl⟩
  have HA : Hid (∀ V, Below w1.heap.size w1 V → IsStrs V a names) := fun V hV => (ha.keep B1.out).keep hV
  have HB : Hid (∀ V, Below w1.heap.size w1 V → Below w.heap.size w V) := fun V hV => B1.out.trans (hV.mono B1.out.size)
  have I1 : Hid (Below w1.heap.size w1 w1) := Below.refl _ _
  have D1 : Hid (Below w1.heap.size w1 w1.drew) := I1.out.drew
  clear r0 z1 B1 ha
  obtain ⟨c0, c1, c2, c3, c4⟩ := HK.out w1 I1.out
  go_enter Tryz.func31, Tryz.ntmps31
  go_upto_region 1 with fail
  rw [← hw1]
  clear hw1
  go_wp2_with fail
  refine (specGroupRight key _).mono ?_
  rintro e w2 ⟨rfl, h2w⟩
  subst w2
  cases h1 : rightG key with
  | false =>
    have HF : Hid (R = false) := by show _ = _; rw [HR.out, h1]; rfl
    go_wp2
    go_ret
    exact ⟨by rw [HF.out]; rfl, HB.out _ I1.out⟩
  | true =>
  rw [h1] at HR
  go_wp2_with fail
  refine (HNm.out _ (HA.out _ I1.out)).mono ?_
  rintro e w2 ⟨rfl, b2⟩
  have K2 : Hid (Below w1.heap.size w1 w2) := b2
  clear b2 c0 c1 c2 c3 c4
  obtain ⟨c0, c1, c2, c3, c4⟩ := HK.out w2 K2.out
  cases N with
  | false =>
    have HF : Hid (R = false) := by show _ = _; rw [HR.out]; rfl
    go_wp2
    go_ret
    exact ⟨by rw [HF.out]; rfl, HB.out _ K2.out⟩
  | true =>
  by_cases h3 : 0 < nl
  rotate_left
  · have HF : Hid (R = false) := by show _ = _; rw [HR.out, decide_eq_false h3]; rfl
    have h3' : nl = 0 := by omega
    subst h3'
    go_wp2
    go_ret
    exact ⟨by rw [HF.out]; rfl, HB.out _ K2.out⟩
  rw [decide_eq_true h3] at HR
  go_wp2_with fail
  refine (specSigRight sk se ss _).mono ?_
  rintro e w3 ⟨rfl, b3⟩
  have K3 : Hid (Below w1.heap.size w1 w3) := K2.out.trans (b3.mono K2.out.size)
  clear b3 c0 c1 c2 c3 c4
  obtain ⟨c0, c1, c2, c3, c4⟩ := HK.out w3 K3.out
  cases h4 : sigRB sk se ss with
  | false =>
    have HF : Hid (R = false) := by show _ = _; rw [HR.out, h4]; rfl
    go_wp2
    go_ret
    exact ⟨by rw [HF.out]; rfl, HB.out _ K3.out⟩
  | true =>
  rw [h4] at HR
  by_cases h5 : sk = key
  · have HF : Hid (R = true) := by show _ = _; rw [HR.out, decide_eq_true h5]; rfl
    subst h5
    go_wp2
    go_ret
    exact ⟨by rw [HF.out]; simp, HB.out _ K3.out⟩
  · have HF : Hid (R = false) := by show _ = _; rw [HR.out, decide_eq_false h5]; rfl
    go_wp2
    go_ret
    exact ⟨by rw [HF.out]; simp [h5], HB.out _ K3.out⟩
set_option linter.unusedSimpArgs false in
set_option maxHeartbeats 4000000 in
set_option maxRecDepth 100000 in
theorem specAskY (c : Ask) (a : Option Addr) (cap : Nat) (w : World) (hk : -9223372036854775808 ≤ c.key ∧ c.key ≤ 9223372036854775807) (hse : -9223372036854775808 ≤ c.se ∧ c.se ≤ 9223372036854775807) (hss : -9223372036854775808 ≤ c.ss ∧ c.ss ≤ 9223372036854775807) (hl : c.names.length ≤ 5) (hs : ∀ i, i < c.names.length → (tAt c.names i).size ≤ 40) (ha : IsStrs w a c.names) :
    Calls Tryz.prog 32 #[c.val (.slice a c.names.length cap)] w fun e w' => e = .returned (.string (askY c)) ∧ Below w.heap.size w w' := by
  have y1 := putS_size c.se
  have y2 := putS_size c.ss
  have y3 : (askD c).size ≤ 300 := by
    have y1 := intD_le 0
    have y2 := askK_le c.key
    have y3 := hosts_le hl hs
    have z := seqD_le (intD 0 ++ (thingD 3 (⟨#[0]⟩ ++ putS c.key) ++ seqD (hostsD c.names c.names.length)))
    simp only [ByteArray.size_append] at z
    unfold askD
    omega
  have HH : Hid (∀ V, IsStrs V a c.names → Calls Tryz.prog 78 #[c.val (.slice a c.names.length cap)] V fun e w' => e = .returned (.string (askD c)) ∧ Below V.heap.size V w') := fun V hV => specAskD c a cap V hk hl hs hV
  obtain ⟨R, hR⟩ : ∃ R, R = askY c := ⟨_, rfl⟩
  rw [← hR]
  have hR' : R = seqD (askD c ++ thingD 3 (⟨#[0]⟩ ++ putS c.se ++ putS c.ss)) := hR
  generalize askD c = D at *
  clear hR hl hs
  obtain ⟨key, names, sk, se, ss⟩ := c
  unfold Ask.val at *
  simp only at y1 y2 HH hR' hse hss ha ⊢
  generalize names.length = nl at *
  obtain ⟨x1, q1⟩ : ∃ q, (⟨#[0]⟩ : ByteArray) ++ putS se = q := ⟨_, rfl⟩
  have s1 : x1.size ≤ 11 := by rw [← q1, ByteArray.size_append]; show 1 + _ ≤ _; omega
  rw [q1] at hR'
  obtain ⟨x2, q2⟩ : ∃ q, x1 ++ putS ss = q := ⟨_, rfl⟩
  have s2 : x2.size ≤ 21 := by rw [← q2, ByteArray.size_append]; omega
  rw [q2] at hR'
  have yT := thingD_le 3 x2
  obtain ⟨T, qT⟩ : ∃ q, q = thingD 3 x2 := ⟨_, rfl⟩
  rw [← qT] at hR' yT
  obtain ⟨x3, q3⟩ : ∃ q, D ++ T = q := ⟨_, rfl⟩
  have s3 : x3.size ≤ 400 := by rw [← q3, ByteArray.size_append]; omega
  rw [q3] at hR'
  have a1 : ¬ 9223372036854775807 < (⟨#[0]⟩ : ByteArray).size + (putS se).size := by show ¬ _ < 1 + _; omega
  have a1' : ¬ 9223372036854775807 < 1 + (putS se).size := by omega
  have a2 : ¬ 9223372036854775807 < x1.size + (putS ss).size := by omega
  have a3 : ¬ 9223372036854775807 < D.size + T.size := by omega
  obtain ⟨w1, hw1⟩ : ∃ w1, w1 = w.alloc (.cells #[.int .i64 key, .slice a nl cap, .int .i64 sk, .int .i64 se, .int .i64 ss] 34 (0, 0)) := ⟨_, rfl⟩
  have r0 : w1.heap[w.heap.size]? = some (.cells [Value.int .i64 key, .slice a nl cap, .int .i64 sk, .int .i64 se, .int .i64 ss].toArray 34 (0, 0)) := by rw [hw1]; exact heap_alloc_new w _
  have B1 : Hid (Below w.heap.size w w1) := by rw [hw1]; exact (Below.refl _ _).alloc (Nat.le_refl _) _
  have z1 : w.heap.size < w1.heap.size := by rw [hw1]; simp
  have HK : Hid (∀ V, Below w1.heap.size w1 V → V.cell? ⟨w.heap.size, 0, none⟩ = some (.int .i64 key) ∧ V.cell? ⟨w.heap.size, 1, none⟩ = some (.slice a nl cap) ∧ V.cell? ⟨w.heap.size, 2, none⟩ = some (.int .i64 sk) ∧ V.cell? ⟨w.heap.size, 3, none⟩ = some (.int .i64 se) ∧ V.cell? ⟨w.heap.size, 4, none⟩ = some (.int .i64 ss)) := fun V hV => by
    have hP := (hV.block _ z1).trans r0
    exact ⟨rowFacts hP 0 _ rfl, rowFacts hP 1 _ rfl, rowFacts hP 2 _ rfl, rowFacts hP 3 _ rfl, rowFacts hP 4 _ rfl⟩
  have HA : Hid (∀ V, Below w1.heap.size w1 V → IsStrs V a names) := fun V hV => (ha.keep B1.out).keep hV
  have HB : Hid (∀ V, Below w1.heap.size w1 V → Below w.heap.size w V) := fun V hV => B1.out.trans (hV.mono B1.out.size)
  have I1 : Hid (Below w1.heap.size w1 w1) := Below.refl _ _
  have D1 : Hid (Below w1.heap.size w1 w1.drew) := I1.out.drew
  clear r0 z1 B1 ha
  have P1 : Hid (∀ V (n : Int), Hid (Below w1.heap.size w1 V) → -9223372036854775808 ≤ n ∧ n ≤ 9223372036854775807 → Calls Tryz.prog 80 #[.int .i64 n] V fun e W => e = .returned (.string (putS n)) ∧ Hid (Below w1.heap.size w1 W)) := fun V n hV hn => (specPut n V hn.1 hn.2).mono fun e W h => ⟨h.1, hV.out.trans (h.2.mono hV.out.size)⟩
  have P2 : Hid (∀ V, Hid (Below w1.heap.size w1 V) → Calls Tryz.prog 79 #[.int .i64 3, .string x2] V fun e W => e = .returned (.string T) ∧ Hid (Below w1.heap.size w1 W)) := fun V hV => by
    rw [qT]
    exact (specThing 3 x2 V (by omega) (by omega) (by omega)).mono fun e W h => ⟨h.1, hV.out.trans (h.2.mono hV.out.size)⟩
  have P4 : Hid (∀ V, Hid (Below w1.heap.size w1 V) → Calls Tryz.prog 78 #[.agg #[.int .i64 key, .slice a nl cap, .int .i64 sk, .int .i64 se, .int .i64 ss]] V fun e W => e = .returned (.string D) ∧ Hid (Below w1.heap.size w1 W)) := fun V hV => (HH.out V (HA.out V hV.out)).mono fun e W h => ⟨h.1, hV.out.trans (h.2.mono hV.out.size)⟩
  have P5 : Hid (∀ V, Hid (Below w1.heap.size w1 V) → Calls Tryz.prog 56 #[.string x3] V fun e W => e = .returned (.string R) ∧ Hid (Below w1.heap.size w1 W)) := fun V hV => by
    rw [hR']
    exact (specSeq x3 V (by omega)).mono fun e W h => ⟨h.1, hV.out.trans (h.2.mono hV.out.size)⟩
  clear y1 y2 y3 yT s1 s2 s3 hR' qT HH HA hk
  obtain ⟨c0, c1, c2, c3, c4⟩ := HK.out w1 I1.out
  go_enter Tryz.func32, Tryz.ntmps32
  go_upto_region 1 with fail
  rw [← hw1]
  clear hw1
  go_region_held3 (fun V => V.cell? ⟨w.heap.size, 0, none⟩ = some (.int .i64 key) ∧ V.cell? ⟨w.heap.size, 1, none⟩ = some (.slice a nl cap) ∧ V.cell? ⟨w.heap.size, 2, none⟩ = some (.int .i64 sk) ∧ V.cell? ⟨w.heap.size, 3, none⟩ = some (.int .i64 se) ∧ V.cell? ⟨w.heap.size, 4, none⟩ = some (.int .i64 ss)) (first | (refine ⟨?_, ?_, ?_, ?_, ?_⟩ <;> assumption) | exact HK.out _ (Hid.out (by assumption)))
    (first
      | (go_at_call 80; refine (P1.out _ _ (by assumption) (by assumption)).mono ?_; rintro r V1 ⟨rfl, k1⟩)
      | (go_at_call 79; refine (P2.out _ (by assumption)).mono ?_; rintro r V2 ⟨rfl, k2⟩)
      | (go_at_call 78; refine (P4.out _ (by assumption)).mono ?_; rintro r V4 ⟨rfl, k4⟩)
      | (go_at_call 56; refine (P5.out _ (by assumption)).mono ?_; rintro r V5 ⟨rfl, k5⟩))
  go_wp2
  go_ret
  exact ⟨rfl, HB.out _ k5.out⟩
end Go.Proofs.YtekflbicjokdnaaGreatDoor
namespace Go.Proofs.YtekflbicjokdnaaGreatDoor
open Go.RowKit

set_option linter.unusedSimpArgs false in
set_option maxHeartbeats 4000000 in
set_option maxRecDepth 100000 in
theorem specAskR (c : Ask) (a : Option Addr) (cap : Nat) (w : World) (hl : c.names.length ≤ 1048576) (ht : totS c.names c.names.length ≤ 1048576) (ha : IsStrs w a c.names) :
    Calls Tryz.prog 33 #[c.val (.slice a c.names.length cap)] w fun e w' => e = .returned (.bool (askR c)) ∧ Below w.heap.size w w' := by
  have HP : Hid (∀ V, IsStrs V a c.names → Calls Tryz.prog 31 #[c.val (.slice a c.names.length cap)] V fun e w' => e = .returned (.bool (formB c)) ∧ Below V.heap.size V w') := fun V hV => specForm c a cap V hl ht hV
  have HQ : Hid (formB c = true → ∀ V, IsStrs V a c.names → Calls Tryz.prog 78 #[c.val (.slice a c.names.length cap)] V fun e w' => e = .returned (.string (askD c)) ∧ Below V.heap.size V w') := fun h V hV => by
    obtain ⟨f1, f2, f3, f4⟩ := ask_fits (formB_ask h)
    exact specAskD c a cap V (by omega) f2 f4 hV
  have HZ : Hid (formB c = true → (askD c).size ≤ 255) := fun h => askD_le (formB_ask h)
  have HG : Hid (askR c = (formB c && sigCB c.sk c.se c.ss (askD c))) := rfl
  generalize askR c = R at *
  generalize formB c = P at *
  generalize askD c = D at *
  clear hl ht
  obtain ⟨key, names, sk, se, ss⟩ := c
  unfold Ask.val at *
  simp only at HP HQ HG ha ⊢
  generalize names.length = nl at *
  obtain ⟨w1, hw1⟩ : ∃ w1, w1 = w.alloc (.cells #[.int .i64 key, .slice a nl cap, .int .i64 sk, .int .i64 se, .int .i64 ss] 34 (0, 0)) := ⟨_, rfl⟩
  have r0 : w1.heap[w.heap.size]? = some (.cells [Value.int .i64 key, .slice a nl cap, .int .i64 sk, .int .i64 se, .int .i64 ss].toArray 34 (0, 0)) := by rw [hw1]; exact heap_alloc_new w _
  have B1 : Hid (Below w.heap.size w w1) := by rw [hw1]; exact (Below.refl _ _).alloc (Nat.le_refl _) _
  have z1 : w.heap.size < w1.heap.size := by rw [hw1]; simp
  have HK : Hid (∀ V, Below w1.heap.size w1 V → V.cell? ⟨w.heap.size, 0, none⟩ = some (.int .i64 key) ∧ V.cell? ⟨w.heap.size, 1, none⟩ = some (.slice a nl cap) ∧ V.cell? ⟨w.heap.size, 2, none⟩ = some (.int .i64 sk) ∧ V.cell? ⟨w.heap.size, 3, none⟩ = some (.int .i64 se) ∧ V.cell? ⟨w.heap.size, 4, none⟩ = some (.int .i64 ss)) := fun V hV => by
    have hP := (hV.block _ z1).trans r0
    exact ⟨rowFacts hP 0 _ rfl, rowFacts hP 1 _ rfl, rowFacts hP 2 _ rfl, rowFacts hP 3 _ rfl, rowFacts hP 4 _ rfl⟩
  have HA : Hid (∀ V, Below w1.heap.size w1 V → IsStrs V a names) := fun V hV => (ha.keep B1.out).keep hV
  have HB : Hid (∀ V, Below w1.heap.size w1 V → Below w.heap.size w V) := fun V hV => B1.out.trans (hV.mono B1.out.size)
  have I1 : Hid (Below w1.heap.size w1 w1) := Below.refl _ _
  have D1 : Hid (Below w1.heap.size w1 w1.drew) := I1.out.drew
  clear r0 z1 B1 ha
  have PC : Hid (∀ V, Hid (Below w1.heap.size w1 V) → Calls Tryz.prog 31 #[.agg #[.int .i64 key, .slice a nl cap, .int .i64 sk, .int .i64 se, .int .i64 ss]] V fun e W => e = .returned (.bool P) ∧ Hid (Below w1.heap.size w1 W)) := fun V hV => (HP.out V (HA.out V hV.out)).mono fun e W h => ⟨h.1, hV.out.trans (h.2.mono hV.out.size)⟩
  clear HP
  go_enter Tryz.func33, Tryz.ntmps33
  go_upto_region 1 with fail
  rw [← hw1]
  clear hw1
  obtain ⟨c0, c1, c2, c3, c4⟩ := HK.out w1 I1.out
  cases P with
  | false =>
    have HF : Hid (R = false) := HG.out
    refine wp_region_held_drew (S := fun V => V.cell? ⟨w.heap.size, 0, none⟩ = some (.int .i64 key) ∧ V.cell? ⟨w.heap.size, 1, none⟩ = some (.slice a nl cap) ∧ V.cell? ⟨w.heap.size, 2, none⟩ = some (.int .i64 sk) ∧ V.cell? ⟨w.heap.size, 3, none⟩ = some (.int .i64 se) ∧ V.cell? ⟨w.heap.size, 4, none⟩ = some (.int .i64 ss)) (by kernel_rfl) ?_ (fun hHeld => ?_)
    · exact HK.out _ D1.out
    refine wpAnyH_take (i := 0) (oi := ⟨some 3, _, _, _, _, _⟩) (v := ?_) rfl (by kernel_rfl) (by kernel_rfl) (by kernel_rfl) (fun _ _ _ h => h) (Or.inl ⟨by kernel_rfl, ?_⟩) (by assumption) ?_
    rotate_left
    · (intro w hSw; (try dsimp only at hSw); go_simp; try with_reducible rfl)
    (try simp only [Act.put, List.setIfInBounds_toArray, List.set_cons_zero, List.set_cons_succ])
    refine wpAnyH_ready (rs := [1]) (by kernel_rfl) (by simp) ?_
    refine AllReadyH.cons (o := ⟨some 4, _, _, _, _, _⟩) rfl (fun K hK => ?_) AllReadyH.nil
    go_simp
    refine (PC.out _ D1).mono ?_
    rintro r V1 ⟨rfl, k1⟩
    refine hK.out _ _ ?_ (fun hHeld => ?_)
    · exact HK.out _ k1.out
    clear hK K
    (try simp only [Act.put, List.setIfInBounds_toArray, List.set_cons_zero, List.set_cons_succ])
    refine wpAnyH_take (i := 2) (oi := ⟨some 5, _, _, _, _, _⟩) (v := ?_) rfl (by kernel_rfl) (by kernel_rfl) (by kernel_rfl) (fun _ _ _ h => h) (Or.inl ⟨by kernel_rfl, ?_⟩) (by assumption) ?_
    rotate_left
    · (intro w hSw; (try dsimp only at hSw); go_simp; try with_reducible rfl)
    (try simp only [Act.put, List.setIfInBounds_toArray, List.set_cons_zero, List.set_cons_succ])
    refine wpAnyH_take (i := 3) (oi := ⟨some 6, _, _, _, _, _⟩) (v := undef) rfl (by kernel_rfl) (by kernel_rfl) (by kernel_rfl) (fun _ _ _ h => h) (Or.inr ⟨by kernel_rfl, rfl⟩) (by assumption) ?_
    (try simp only [Act.put, List.setIfInBounds_toArray, List.set_cons_zero, List.set_cons_succ])
    refine wpAnyH_take (i := 4) (oi := ⟨some 7, _, _, _, _, _⟩) (v := undef) rfl (by kernel_rfl) (by kernel_rfl) (by kernel_rfl) (fun _ _ _ h => h) (Or.inr ⟨by kernel_rfl, rfl⟩) (by assumption) ?_
    (try simp only [Act.put, List.setIfInBounds_toArray, List.set_cons_zero, List.set_cons_succ])
    refine wpAnyH_take (i := 5) (oi := ⟨some 8, _, _, _, _, _⟩) (v := undef) rfl (by kernel_rfl) (by kernel_rfl) (by kernel_rfl) (fun _ _ _ h => h) (Or.inr ⟨by kernel_rfl, rfl⟩) (by assumption) ?_
    (try simp only [Act.put, List.setIfInBounds_toArray, List.set_cons_zero, List.set_cons_succ])
    refine wpAnyH_take (i := 6) (oi := ⟨some 9, _, _, _, _, _⟩) (v := undef) rfl (by kernel_rfl) (by kernel_rfl) (by kernel_rfl) (fun _ _ _ h => h) (Or.inr ⟨by kernel_rfl, rfl⟩) (by assumption) ?_
    (try simp only [Act.put, List.setIfInBounds_toArray, List.set_cons_zero, List.set_cons_succ])
    refine wpAnyH_take (i := 7) (oi := ⟨some 10, _, _, _, _, _⟩) (v := undef) rfl (by kernel_rfl) (by kernel_rfl) (by kernel_rfl) (fun _ _ _ h => h) (Or.inr ⟨by kernel_rfl, rfl⟩) (by assumption) ?_
    (try simp only [Act.put, List.setIfInBounds_toArray, List.set_cons_zero, List.set_cons_succ])
    refine wpAnyH_take (i := 8) (oi := ⟨some 11, _, _, _, _, _⟩) (v := ?_) rfl (by kernel_rfl) (by kernel_rfl) (by kernel_rfl) (fun _ _ _ h => h) (Or.inl ⟨by kernel_rfl, ?_⟩) (by assumption) ?_
    rotate_left
    · (intro w hSw; (try dsimp only at hSw); go_simp; try with_reducible rfl)
    (try simp only [Act.put, List.setIfInBounds_toArray, List.set_cons_zero, List.set_cons_succ])
    refine wpAnyH_take (i := 9) (oi := ⟨some 2, _, _, _, _, _⟩) (v := ?_) rfl (by kernel_rfl) (by kernel_rfl) (by kernel_rfl) (fun _ _ _ h => h) (Or.inl ⟨by kernel_rfl, ?_⟩) (by assumption) ?_
    rotate_left
    · (intro w hSw; (try dsimp only at hSw); go_simp; try with_reducible rfl)
    (try simp only [Act.put, List.setIfInBounds_toArray, List.set_cons_zero, List.set_cons_succ])
    refine wpAnyH_done (by kernel_rfl) ?_ _
    go_wp2
    go_ret
    exact ⟨by rw [HF.out]; rfl, HB.out _ k1.out⟩
  | true =>
    have hR : R = sigCB sk se ss D := by rw [HG.out]; simp
    have zD := HZ.out rfl
    have Q1 := HQ.out rfl
    have PB : Hid (∀ V, Hid (Below w1.heap.size w1 V) → Calls Tryz.prog 78 #[.agg #[.int .i64 key, .slice a nl cap, .int .i64 sk, .int .i64 se, .int .i64 ss]] V fun e W => e = .returned (.string D) ∧ Hid (Below w1.heap.size w1 W)) := fun V hV => (Q1 V (HA.out V hV.out)).mono fun e W h => ⟨h.1, hV.out.trans (h.2.mono hV.out.size)⟩
    have PG : Hid (∀ V, Hid (Below w1.heap.size w1 V) → Calls Tryz.prog 81 #[.agg #[.int .i64 sk, .int .i64 se, .int .i64 ss], .string D] V fun e W => e = .returned (.bool R) ∧ Hid (Below w1.heap.size w1 W)) := fun V hV => by
      rw [hR]
      exact (specSigCheck sk se ss D V (by unfold maxLen; omega)).mono fun e W h => ⟨h.1, hV.out.trans (h.2.mono hV.out.size)⟩
    clear hR zD Q1 HQ HZ HG HA
    go_region_held3 (fun V => V.cell? ⟨w.heap.size, 0, none⟩ = some (.int .i64 key) ∧ V.cell? ⟨w.heap.size, 1, none⟩ = some (.slice a nl cap) ∧ V.cell? ⟨w.heap.size, 2, none⟩ = some (.int .i64 sk) ∧ V.cell? ⟨w.heap.size, 3, none⟩ = some (.int .i64 se) ∧ V.cell? ⟨w.heap.size, 4, none⟩ = some (.int .i64 ss)) (first | (refine ⟨?_, ?_, ?_, ?_, ?_⟩ <;> assumption) | exact HK.out _ (Hid.out (by assumption)))
      (first
        | (go_at_call 31; refine (PC.out _ (by assumption)).mono ?_; rintro r V1 ⟨rfl, k1⟩)
        | (go_at_call 78; refine (PB.out _ (by assumption)).mono ?_; rintro r V2 ⟨rfl, k2⟩)
        | (go_at_call 81; refine (PG.out _ (by assumption)).mono ?_; rintro r V3 ⟨rfl, k3⟩))
    go_wp2
    go_ret
    exact ⟨rfl, HB.out _ k3.out⟩
end Go.Proofs.YtekflbicjokdnaaGreatDoor
