/- The specification's side of what is asked for: spec.l07Body, l07Form, l07Right, l07Bytes, CsrBytes, walked. laws.toStringS, walked. laws.toSig, walked. What a function returns in a variable of its own: the variable over a call. No program is named. laws.toCsr, walked. A row of texts of the call's own. spec.SecretRight, walked. -/
import Derived.Test.YthofeoelndplpaaGreatDoorASg05
import Derived.Test.YthofeoelndplpaaGreatDoorASg06
import Derived.Test.YthofeoelndplpaaGreatDoorASg02
import Derived.Test.YthofeoelndplpaaGreatDoorASg08
import Derived.Deep.Cut
import Derived.Deep.RegionHeld3
import Derived.Test.YthofeoelndplpaaGreatDoorASg01
import Derived.Handy
import Derived.Test.YthofeoelndplpaaGreatDoorASg04
namespace Go.Proofs.YthofeoelndplpaaGreatDoor
open Go.RowKit

set_option linter.unusedSimpArgs false in
set_option maxHeartbeats 4000000 in
set_option maxRecDepth 100000 in
theorem specAskD (c : Ask) (a : Option Addr) (cap : Nat) (w : World) (hk : -9223372036854775808 ≤ c.key ∧ c.key ≤ 9223372036854775807) (hl : c.names.length ≤ 5) (hs : ∀ i, i < c.names.length → (tAt c.names i).size ≤ 40) (ha : IsStrs w a c.names) :
    Calls Tryz.prog 33 #[c.val (.slice a c.names.length cap)] w fun e w' => e = .returned (.string (askD c)) ∧ Below w.heap.size w w' := by
  have y1 := putS_size c.key
  have y2 := intD_le 0
  have y3 := hosts_le hl hs
  have y4 := askK_le c.key
  have HH : Hid (∀ V, IsStrs V a c.names → Calls Tryz.prog 67 #[.slice a c.names.length cap] V fun e w' => e = .returned (.string (seqD (hostsD c.names c.names.length))) ∧ Below V.heap.size V w') := fun V hV => specHosts a c.names cap V hl hs hV
  obtain ⟨R, hR⟩ : ∃ R, R = askD c := ⟨_, rfl⟩
  rw [← hR]
  have hR' : R = seqD (intD 0 ++ (thingD 3 (⟨#[0]⟩ ++ putS c.key) ++ seqD (hostsD c.names c.names.length))) := hR
  clear hR hl hs
  obtain ⟨key, names, sk, se, ss⟩ := c
  unfold Ask.val
  simp only at y1 y3 y4 HH hR' hk ha ⊢
  generalize seqD (hostsD names names.length) = G at *
  generalize names.length = nl at *
  obtain ⟨x1, q1⟩ : ∃ q, (⟨#[0]⟩ : ByteArray) ++ putS key = q := ⟨_, rfl⟩
  have s1 : x1.size ≤ 11 := by rw [← q1, ByteArray.size_append]; show 1 + _ ≤ _; omega
  rw [q1] at hR' y4
  obtain ⟨T, qT⟩ : ∃ q, q = thingD 3 x1 := ⟨_, rfl⟩
  rw [← qT] at hR' y4
  obtain ⟨I, qI⟩ : ∃ q, q = intD 0 := ⟨_, rfl⟩
  rw [← qI] at hR' y2
  obtain ⟨x2, q2⟩ : ∃ q, I ++ T = q := ⟨_, rfl⟩
  have s2 : x2.size ≤ 40 := by rw [← q2, ByteArray.size_append]; omega
  obtain ⟨x3, q3⟩ : ∃ q, x2 ++ G = q := ⟨_, rfl⟩
  have s3 : x3.size ≤ 300 := by rw [← q3, ByteArray.size_append]; omega
  have e3 : R = seqD x3 := by rw [hR', ← q3, ← q2, ByteArray.append_assoc]
  have a1 : ¬ 9223372036854775807 < (⟨#[0]⟩ : ByteArray).size + (putS key).size := by show ¬ _ < 1 + _; omega
  have a1' : ¬ 9223372036854775807 < 1 + (putS key).size := by omega
  have a2 : ¬ 9223372036854775807 < I.size + T.size := by omega
  have a3 : ¬ 9223372036854775807 < x2.size + G.size := by omega
  obtain ⟨w1, hw1⟩ : ∃ w1, w1 = w.alloc (.cells #[.int .i64 key, .slice a nl cap, .int .i64 sk, .int .i64 se, .int .i64 ss] 27 (0, 0)) := ⟨_, rfl⟩
  have r0 : w1.heap[w.heap.size]? = some (.cells [Value.int .i64 key, .slice a nl cap, .int .i64 sk, .int .i64 se, .int .i64 ss].toArray 27 (0, 0)) := by rw [hw1]; exact heap_alloc_new w _
  have B1 : Hid (Below w.heap.size w w1) := by rw [hw1]; exact (Below.refl _ _).alloc (Nat.le_refl _) _
  have z1 : w.heap.size < w1.heap.size := by rw [hw1]; simp
  have HK : Hid (∀ V, Below w1.heap.size w1 V → V.cell? ⟨w.heap.size, 0, none⟩ = some (.int .i64 key) ∧ V.cell? ⟨w.heap.size, 1, none⟩ = some (.slice a nl cap) ∧ V.cell? ⟨w.heap.size, 2, none⟩ = some (.int .i64 sk) ∧ V.cell? ⟨w.heap.size, 3, none⟩ = some (.int .i64 se) ∧ V.cell? ⟨w.heap.size, 4, none⟩ = some (.int .i64 ss)) := fun V hV => by
    have hP := (hV.block _ z1).trans r0
    exact ⟨rowFacts hP 0 _ rfl, rowFacts hP 1 _ rfl, rowFacts hP 2 _ rfl, rowFacts hP 3 _ rfl, rowFacts hP 4 _ rfl⟩
  have HA : Hid (∀ V, Below w1.heap.size w1 V → IsStrs V a names) := fun V hV => (ha.keep B1.out).keep hV
  have HB : Hid (∀ V, Below w1.heap.size w1 V → Below w.heap.size w V) := fun V hV => B1.out.trans (hV.mono B1.out.size)
  have I1 : Hid (Below w1.heap.size w1 w1) := Below.refl _ _
  have D1 : Hid (Below w1.heap.size w1 w1.drew) := I1.out.drew
  clear r0 z1 B1 ha
  have P1 : Hid (∀ V, Hid (Below w1.heap.size w1 V) → Calls Tryz.prog 62 #[.int .i64 key] V fun e W => e = .returned (.string (putS key)) ∧ Hid (Below w1.heap.size w1 W)) := fun V hV => (specPut key V hk.1 hk.2).mono fun e W h => ⟨h.1, hV.out.trans (h.2.mono hV.out.size)⟩
  have P2 : Hid (∀ V, Hid (Below w1.heap.size w1 V) → Calls Tryz.prog 66 #[.int .i64 3, .string x1] V fun e W => e = .returned (.string T) ∧ Hid (Below w1.heap.size w1 W)) := fun V hV => by
    rw [qT]
    exact (specThing 3 x1 V (by omega) (by omega) (by omega)).mono fun e W h => ⟨h.1, hV.out.trans (h.2.mono hV.out.size)⟩
  have P3 : Hid (∀ V, Hid (Below w1.heap.size w1 V) → Calls Tryz.prog 65 #[.int .i64 0] V fun e W => e = .returned (.string I) ∧ Hid (Below w1.heap.size w1 W)) := fun V hV => by
    rw [qI]
    exact (specDerInt 0 V (by omega) (by omega)).mono fun e W h => ⟨h.1, hV.out.trans (h.2.mono hV.out.size)⟩
  have P4 : Hid (∀ V, Hid (Below w1.heap.size w1 V) → Calls Tryz.prog 67 #[.slice a nl cap] V fun e W => e = .returned (.string G) ∧ Hid (Below w1.heap.size w1 W)) := fun V hV => (HH.out V (HA.out V hV.out)).mono fun e W h => ⟨h.1, hV.out.trans (h.2.mono hV.out.size)⟩
  have P5 : Hid (∀ V, Hid (Below w1.heap.size w1 V) → Calls Tryz.prog 64 #[.string x3] V fun e W => e = .returned (.string R) ∧ Hid (Below w1.heap.size w1 W)) := fun V hV => by
    rw [e3]
    exact (specSeq x3 V (by omega)).mono fun e W h => ⟨h.1, hV.out.trans (h.2.mono hV.out.size)⟩
  clear y1 y2 y3 y4 s1 s2 s3 hR' e3 qT qI HH HA hk
  obtain ⟨c0, c1, c2, c3, c4⟩ := HK.out w1 I1.out
  go_enter Tryz.func33, Tryz.ntmps33
  go_upto_region 1 with fail
  rw [← hw1]
  clear hw1
  go_region_held3 (fun V => V.cell? ⟨w.heap.size, 0, none⟩ = some (.int .i64 key) ∧ V.cell? ⟨w.heap.size, 1, none⟩ = some (.slice a nl cap) ∧ V.cell? ⟨w.heap.size, 2, none⟩ = some (.int .i64 sk) ∧ V.cell? ⟨w.heap.size, 3, none⟩ = some (.int .i64 se) ∧ V.cell? ⟨w.heap.size, 4, none⟩ = some (.int .i64 ss)) (first | (refine ⟨?_, ?_, ?_, ?_, ?_⟩ <;> assumption) | exact HK.out _ (Hid.out (by assumption)))
    (first
      | (go_at_call 62; refine (P1.out _ (by assumption)).mono ?_; rintro r V1 ⟨rfl, k1⟩)
      | (go_at_call 66; refine (P2.out _ (by assumption)).mono ?_; rintro r V2 ⟨rfl, k2⟩)
      | (go_at_call 65; refine (P3.out _ (by assumption)).mono ?_; rintro r V3 ⟨rfl, k3⟩)
      | (go_at_call 67; refine (P4.out _ (by assumption)).mono ?_; rintro r V4 ⟨rfl, k4⟩)
      | (go_at_call 64; refine (P5.out _ (by assumption)).mono ?_; rintro r V5 ⟨rfl, k5⟩))
  go_wp2
  go_ret
  exact ⟨rfl, HB.out _ k5.out⟩
set_option linter.unusedSimpArgs false in
set_option maxHeartbeats 4000000 in
set_option maxRecDepth 100000 in
theorem specForm (c : Ask) (a : Option Addr) (cap : Nat) (w : World) (hl : c.names.length ≤ 1048576) (ht : totS c.names c.names.length ≤ 1048576) (ha : IsStrs w a c.names) :
    Calls Tryz.prog 73 #[c.val (.slice a c.names.length cap)] w fun e w' => e = .returned (.bool (formB c)) ∧ Below w.heap.size w w' := by
  have HNm : Hid (∀ V, IsStrs V a c.names → Calls Tryz.prog 30 #[.slice a c.names.length cap] V fun e w' => e = .returned (.bool (namesB c.names)) ∧ Below V.heap.size V w') := fun V hV => specNames a c.names cap V hl ht hV
  obtain ⟨R, hR⟩ : ∃ R, R = formB c := ⟨_, rfl⟩
  rw [← hR]
  have HR : Hid (R = (rightG c.key && namesB c.names && decide (0 < c.names.length) && sigRB c.sk c.se c.ss && decide (c.sk = c.key))) := hR
  clear hR ht
  obtain ⟨key, names, sk, se, ss⟩ := c
  unfold Ask.val
  simp only at HNm HR hl ha ⊢
  obtain ⟨N, hN⟩ : ∃ N, N = namesB names := ⟨_, rfl⟩
  rw [← hN] at HNm HR
  clear hN
  generalize names.length = nl at *
  obtain ⟨w1, hw1⟩ : ∃ w1, w1 = w.alloc (.cells #[.int .i64 key, .slice a nl cap, .int .i64 sk, .int .i64 se, .int .i64 ss] 27 (0, 0)) := ⟨_, rfl⟩
  have r0 : w1.heap[w.heap.size]? = some (.cells [Value.int .i64 key, .slice a nl cap, .int .i64 sk, .int .i64 se, .int .i64 ss].toArray 27 (0, 0)) := by rw [hw1]; exact heap_alloc_new w _
  have B1 : Hid (Below w.heap.size w w1) := by rw [hw1]; exact (Below.refl _ _).alloc (Nat.le_refl _) _
  have z1 : w.heap.size < w1.heap.size := by rw [hw1]; simp
  have HK : Hid (∀ V, Below w1.heap.size w1 V → V.cell? ⟨w.heap.size, 0, none⟩ = some (.int .i64 key) ∧ V.cell? ⟨w.heap.size, 1, none⟩ = some (.slice a nl cap) ∧ V.cell? ⟨w.heap.size, 2, none⟩ = some (.int .i64 sk) ∧ V.cell? ⟨w.heap.size, 3, none⟩ = some (.int .i64 se) ∧ V.cell? ⟨w.heap.size, 4, none⟩ = some (.int .i64 ss)) := fun V hV => by
    have hP := (hV.block _ z1).trans r0
    exact ⟨rowFacts hP 0 _ rfl, rowFacts hP 1 _ rfl, rowFacts hP 2 _ rfl, rowFacts hP 3 _ rfl, rowFacts hP 4 _ rfl⟩
  have HA : Hid (∀ V, Below w1.heap.size w1 V → IsStrs V a names) := fun V hV => (ha.keep B1.out).keep hV
  have HB : Hid (∀ V, Below w1.heap.size w1 V → Below w.heap.size w V) := fun V hV => B1.out.trans (hV.mono B1.out.size)
  have I1 : Hid (Below w1.heap.size w1 w1) := Below.refl _ _
  have D1 : Hid (Below w1.heap.size w1 w1.drew) := I1.out.drew
  clear r0 z1 B1 ha
  obtain ⟨c0, c1, c2, c3, c4⟩ := HK.out w1 I1.out
  go_enter Tryz.func73, Tryz.ntmps73
  go_upto_region 1 with fail
  rw [← hw1]
  clear hw1
  go_wp2_with fail
  refine (specGroupRight key _).mono ?_
  rintro e w2 ⟨rfl, h2w⟩
  subst w2
  cases h1 : rightG key with
  | false =>
    have HF : Hid (R = false) := by show _ = _; rw [HR.out, h1]; rfl
    go_wp2
    go_ret
    exact ⟨by rw [HF.out]; rfl, HB.out _ I1.out⟩
  | true =>
  rw [h1] at HR
  go_wp2_with fail
  refine (HNm.out _ (HA.out _ I1.out)).mono ?_
  rintro e w2 ⟨rfl, b2⟩
  have K2 : Hid (Below w1.heap.size w1 w2) := b2
  clear b2 c0 c1 c2 c3 c4
  obtain ⟨c0, c1, c2, c3, c4⟩ := HK.out w2 K2.out
  cases N with
  | false =>
    have HF : Hid (R = false) := by show _ = _; rw [HR.out]; rfl
    go_wp2
    go_ret
    exact ⟨by rw [HF.out]; rfl, HB.out _ K2.out⟩
  | true =>
  by_cases h3 : 0 < nl
  rotate_left
  · have HF : Hid (R = false) := by show _ = _; rw [HR.out, decide_eq_false h3]; rfl
    have h3' : nl = 0 := by omega
    subst h3'
    go_wp2
    go_ret
    exact ⟨by rw [HF.out]; rfl, HB.out _ K2.out⟩
  rw [decide_eq_true h3] at HR
  go_wp2_with fail
  refine (specSigRight sk se ss _).mono ?_
  rintro e w3 ⟨rfl, b3⟩
  have K3 : Hid (Below w1.heap.size w1 w3) := K2.out.trans (b3.mono K2.out.size)
  clear b3 c0 c1 c2 c3 c4
  obtain ⟨c0, c1, c2, c3, c4⟩ := HK.out w3 K3.out
  cases h4 : sigRB sk se ss with
  | false =>
    have HF : Hid (R = false) := by show _ = _; rw [HR.out, h4]; rfl
    go_wp2
    go_ret
    exact ⟨by rw [HF.out]; rfl, HB.out _ K3.out⟩
  | true =>
  rw [h4] at HR
  by_cases h5 : sk = key
  · have HF : Hid (R = true) := by show _ = _; rw [HR.out, decide_eq_true h5]; rfl
    subst h5
    go_wp2
    go_ret
    exact ⟨by rw [HF.out]; simp, HB.out _ K3.out⟩
  · have HF : Hid (R = false) := by show _ = _; rw [HR.out, decide_eq_false h5]; rfl
    go_wp2
    go_ret
    exact ⟨by rw [HF.out]; simp [h5], HB.out _ K3.out⟩
set_option linter.unusedSimpArgs false in
set_option maxHeartbeats 4000000 in
set_option maxRecDepth 100000 in
theorem specAskY (c : Ask) (a : Option Addr) (cap : Nat) (w : World) (hk : -9223372036854775808 ≤ c.key ∧ c.key ≤ 9223372036854775807) (hse : -9223372036854775808 ≤ c.se ∧ c.se ≤ 9223372036854775807) (hss : -9223372036854775808 ≤ c.ss ∧ c.ss ≤ 9223372036854775807) (hl : c.names.length ≤ 5) (hs : ∀ i, i < c.names.length → (tAt c.names i).size ≤ 40) (ha : IsStrs w a c.names) :
    Calls Tryz.prog 42 #[c.val (.slice a c.names.length cap)] w fun e w' => e = .returned (.string (askY c)) ∧ Below w.heap.size w w' := by
  have y1 := putS_size c.se
  have y2 := putS_size c.ss
  have y3 : (askD c).size ≤ 300 := by
    have y1 := intD_le 0
    have y2 := askK_le c.key
    have y3 := hosts_le hl hs
    have z := seqD_le (intD 0 ++ (thingD 3 (⟨#[0]⟩ ++ putS c.key) ++ seqD (hostsD c.names c.names.length)))
    simp only [ByteArray.size_append] at z
    unfold askD
    omega
  have HH : Hid (∀ V, IsStrs V a c.names → Calls Tryz.prog 33 #[c.val (.slice a c.names.length cap)] V fun e w' => e = .returned (.string (askD c)) ∧ Below V.heap.size V w') := fun V hV => specAskD c a cap V hk hl hs hV
  obtain ⟨R, hR⟩ : ∃ R, R = askY c := ⟨_, rfl⟩
  rw [← hR]
  have hR' : R = seqD (askD c ++ thingD 3 (⟨#[0]⟩ ++ putS c.se ++ putS c.ss)) := hR
  generalize askD c = D at *
  clear hR hl hs
  obtain ⟨key, names, sk, se, ss⟩ := c
  unfold Ask.val at *
  simp only at y1 y2 HH hR' hse hss ha ⊢
  generalize names.length = nl at *
  obtain ⟨x1, q1⟩ : ∃ q, (⟨#[0]⟩ : ByteArray) ++ putS se = q := ⟨_, rfl⟩
  have s1 : x1.size ≤ 11 := by rw [← q1, ByteArray.size_append]; show 1 + _ ≤ _; omega
  rw [q1] at hR'
  obtain ⟨x2, q2⟩ : ∃ q, x1 ++ putS ss = q := ⟨_, rfl⟩
  have s2 : x2.size ≤ 21 := by rw [← q2, ByteArray.size_append]; omega
  rw [q2] at hR'
  have yT := thingD_le 3 x2
  obtain ⟨T, qT⟩ : ∃ q, q = thingD 3 x2 := ⟨_, rfl⟩
  rw [← qT] at hR' yT
  obtain ⟨x3, q3⟩ : ∃ q, D ++ T = q := ⟨_, rfl⟩
  have s3 : x3.size ≤ 400 := by rw [← q3, ByteArray.size_append]; omega
  rw [q3] at hR'
  have a1 : ¬ 9223372036854775807 < (⟨#[0]⟩ : ByteArray).size + (putS se).size := by show ¬ _ < 1 + _; omega
  have a1' : ¬ 9223372036854775807 < 1 + (putS se).size := by omega
  have a2 : ¬ 9223372036854775807 < x1.size + (putS ss).size := by omega
  have a3 : ¬ 9223372036854775807 < D.size + T.size := by omega
  obtain ⟨w1, hw1⟩ : ∃ w1, w1 = w.alloc (.cells #[.int .i64 key, .slice a nl cap, .int .i64 sk, .int .i64 se, .int .i64 ss] 27 (0, 0)) := ⟨_, rfl⟩
  have r0 : w1.heap[w.heap.size]? = some (.cells [Value.int .i64 key, .slice a nl cap, .int .i64 sk, .int .i64 se, .int .i64 ss].toArray 27 (0, 0)) := by rw [hw1]; exact heap_alloc_new w _
  have B1 : Hid (Below w.heap.size w w1) := by rw [hw1]; exact (Below.refl _ _).alloc (Nat.le_refl _) _
  have z1 : w.heap.size < w1.heap.size := by rw [hw1]; simp
  have HK : Hid (∀ V, Below w1.heap.size w1 V → V.cell? ⟨w.heap.size, 0, none⟩ = some (.int .i64 key) ∧ V.cell? ⟨w.heap.size, 1, none⟩ = some (.slice a nl cap) ∧ V.cell? ⟨w.heap.size, 2, none⟩ = some (.int .i64 sk) ∧ V.cell? ⟨w.heap.size, 3, none⟩ = some (.int .i64 se) ∧ V.cell? ⟨w.heap.size, 4, none⟩ = some (.int .i64 ss)) := fun V hV => by
    have hP := (hV.block _ z1).trans r0
    exact ⟨rowFacts hP 0 _ rfl, rowFacts hP 1 _ rfl, rowFacts hP 2 _ rfl, rowFacts hP 3 _ rfl, rowFacts hP 4 _ rfl⟩
  have HA : Hid (∀ V, Below w1.heap.size w1 V → IsStrs V a names) := fun V hV => (ha.keep B1.out).keep hV
  have HB : Hid (∀ V, Below w1.heap.size w1 V → Below w.heap.size w V) := fun V hV => B1.out.trans (hV.mono B1.out.size)
  have I1 : Hid (Below w1.heap.size w1 w1) := Below.refl _ _
  have D1 : Hid (Below w1.heap.size w1 w1.drew) := I1.out.drew
  clear r0 z1 B1 ha
  have P1 : Hid (∀ V (n : Int), Hid (Below w1.heap.size w1 V) → -9223372036854775808 ≤ n ∧ n ≤ 9223372036854775807 → Calls Tryz.prog 62 #[.int .i64 n] V fun e W => e = .returned (.string (putS n)) ∧ Hid (Below w1.heap.size w1 W)) := fun V n hV hn => (specPut n V hn.1 hn.2).mono fun e W h => ⟨h.1, hV.out.trans (h.2.mono hV.out.size)⟩
  have P2 : Hid (∀ V, Hid (Below w1.heap.size w1 V) → Calls Tryz.prog 66 #[.int .i64 3, .string x2] V fun e W => e = .returned (.string T) ∧ Hid (Below w1.heap.size w1 W)) := fun V hV => by
    rw [qT]
    exact (specThing 3 x2 V (by omega) (by omega) (by omega)).mono fun e W h => ⟨h.1, hV.out.trans (h.2.mono hV.out.size)⟩
  have P4 : Hid (∀ V, Hid (Below w1.heap.size w1 V) → Calls Tryz.prog 33 #[.agg #[.int .i64 key, .slice a nl cap, .int .i64 sk, .int .i64 se, .int .i64 ss]] V fun e W => e = .returned (.string D) ∧ Hid (Below w1.heap.size w1 W)) := fun V hV => (HH.out V (HA.out V hV.out)).mono fun e W h => ⟨h.1, hV.out.trans (h.2.mono hV.out.size)⟩
  have P5 : Hid (∀ V, Hid (Below w1.heap.size w1 V) → Calls Tryz.prog 64 #[.string x3] V fun e W => e = .returned (.string R) ∧ Hid (Below w1.heap.size w1 W)) := fun V hV => by
    rw [hR']
    exact (specSeq x3 V (by omega)).mono fun e W h => ⟨h.1, hV.out.trans (h.2.mono hV.out.size)⟩
  clear y1 y2 y3 yT s1 s2 s3 hR' qT HH HA hk
  obtain ⟨c0, c1, c2, c3, c4⟩ := HK.out w1 I1.out
  go_enter Tryz.func42, Tryz.ntmps42
  go_upto_region 1 with fail
  rw [← hw1]
  clear hw1
  go_region_held3 (fun V => V.cell? ⟨w.heap.size, 0, none⟩ = some (.int .i64 key) ∧ V.cell? ⟨w.heap.size, 1, none⟩ = some (.slice a nl cap) ∧ V.cell? ⟨w.heap.size, 2, none⟩ = some (.int .i64 sk) ∧ V.cell? ⟨w.heap.size, 3, none⟩ = some (.int .i64 se) ∧ V.cell? ⟨w.heap.size, 4, none⟩ = some (.int .i64 ss)) (first | (refine ⟨?_, ?_, ?_, ?_, ?_⟩ <;> assumption) | exact HK.out _ (Hid.out (by assumption)))
    (first
      | (go_at_call 62; refine (P1.out _ _ (by assumption) (by assumption)).mono ?_; rintro r V1 ⟨rfl, k1⟩)
      | (go_at_call 66; refine (P2.out _ (by assumption)).mono ?_; rintro r V2 ⟨rfl, k2⟩)
      | (go_at_call 33; refine (P4.out _ (by assumption)).mono ?_; rintro r V4 ⟨rfl, k4⟩)
      | (go_at_call 64; refine (P5.out _ (by assumption)).mono ?_; rintro r V5 ⟨rfl, k5⟩))
  go_wp2
  go_ret
  exact ⟨rfl, HB.out _ k5.out⟩
end Go.Proofs.YthofeoelndplpaaGreatDoor
namespace Go.Proofs.YthofeoelndplpaaGreatDoor
open Go.RowKit

set_option maxHeartbeats 1000000 in
set_option maxRecDepth 100000 in
theorem toStrs (a : Option Addr) (zs : List ByteArray) (c : Nat) (w : World) (hl : zs.length ≤ 1048576) (ha : IsStrs w a zs) :
    Calls Tryz.prog 9 #[.slice a zs.length c] w fun e w' => e = .returned (.slice (some ⟨w.heap.size, 0, none⟩) zs.length zs.length) ∧ w'.heap[w.heap.size]? = some (.cells (sCells zs).toArray 9 (0, 0)) ∧ Below w.heap.size w w' := by
  obtain ⟨i0, hi, hz0, hz1, hz2⟩ := info_parts infoText
  go_enter Tryz.func9, Tryz.ntmps9
  go_wp2_with (at_make; refine wpList_make_full _ rfl _ _ 22 rfl w.heap.size 9 i0 (.string ⟨#[]⟩) 1 Tryz.underlying22 hi hz0 hz1 .i64 .i64 _ _ zs.length rfl rfl ?c1 ?c2 ?c3 ?c4 ?c5 ?_)
  case c1 => omega
  case c2 => omega
  case c3 => rw [hz2]; omega
  case c4 => unfold maxLen; omega
  case c5 => exact Nat.le_refl _
  intro w1 hown hgrow
  have hB1 : Below w.heap.size w w1 := (Below.refl _ w).grown hgrow (Nat.le_refl _) (fun k hk => by cases hk)
  obtain ⟨hrow, hlen⟩ := rowOf hown rfl
  generalize (madeCells #[Value.string ⟨#[]⟩] zs.length).toList = L0 at hrow hlen
  have HR0 : Hid (w1.heap[w.heap.size]? = some (.cells L0.toArray 9 (0, 0))) := hrow
  have HL0 : Hid (L0.length = zs.length) := hlen
  have HB1 : Hid (Below w.heap.size w w1) := hB1
  clear hown hgrow hrow hlen hB1
  go_wp2_with fail
  go_loopw [4] (fun i wr => ∃ (k : Nat) (L : List Value), k ≤ zs.length ∧ i = .int .i64 k ∧ L.length = zs.length ∧ wr.heap[w.heap.size]? = some (.cells L.toArray 9 (0, 0)) ∧ (∀ j, j < k → L[j]? = some (.string (tAt zs j))) ∧ Below w.heap.size w wr)
    (fun i _ => zs.length - (intOf i).toNat)
  case atStart => exact ⟨0, L0, Nat.zero_le _, rfl, HL0.out, HR0.out, fun j hj => by omega, HB1.out⟩
  case round =>
    clear HL0 HR0 HB1
    obtain ⟨k, L, hk, rfl, hL, hg, hv, hb⟩ := hrel
    by_cases hlt : k < zs.length
    · obtain ⟨x, o, rfl, hc⟩ : ∃ x o, a = some ⟨x, o, none⟩ ∧ ∀ i, i < zs.length → wr.cell? ⟨x, o + i, none⟩ = some (.string (tAt zs i)) := by
        rcases ha.below hb ha.lt with rfl | h
        · simp at hlt
        · exact h
      have hck := hc k hlt
      have hd : wr.cell? ⟨w.heap.size, k, none⟩ = some L[k] := by
        rw [cell_of_row wr _ k _ _ (0, 0) hg]; simp
      have hz := frozen_of_row wr _ k _ _ hg
      have HG : Hid (∀ v, (wr.setCell ⟨w.heap.size, k, none⟩ v).heap[w.heap.size]? = some (.cells (L.set k v).toArray 9 (0, 0))) := fun v => by
        rw [heap_setCell_same wr _ k _ _ v hg]; simp
      have HV : Hid (∀ j, j < k + 1 → (L.set k (.string (tAt zs k)))[j]? = some (.string (tAt zs j))) := fun j hj => by
        by_cases e : j = k
        · subst e; rw [List.getElem?_set_self (by omega)]
        · rw [List.getElem?_set_ne (by omega), hv j (by omega)]
      have HL : Hid (∀ v, (L.set k v).length = zs.length) := fun v => by simpa using hL
      have HB : Hid (∀ v, Below w.heap.size w (wr.setCell ⟨w.heap.size, k, none⟩ v)) := fun v => hb.setCell (Nat.le_refl _) v
      generalize L[k] = v0 at hd
      generalize tAt zs k = z at hck HV
      have a0 : (0 : Int) ≤ (k : Int) := by omega
      have b0 : (k : Int) < (zs.length : Int) := by omega
      generalize zs.length = n at *
      clear hc ha hv hg hb hL
      go_wp2
      go_roundw
      case rel => exact ⟨k + 1, _, by omega, by go_num, HL.out _, HG.out _, HV.out, HB.out _⟩
      case measure => simp [intOf]; omega
    · have hLe : L = sCells zs := by
        apply List.ext_getElem?
        intro j
        by_cases hj : j < zs.length
        · rw [hv j (by omega)]; exact (sCells_at hj).symm
        · rw [List.getElem?_eq_none (by omega), List.getElem?_eq_none (by simp [sCells]; omega)]
      subst hLe
      have HG : Hid (wr.heap[w.heap.size]? = some (.cells (sCells zs).toArray 9 (0, 0))) := hg
      have HB : Hid (Below w.heap.size w wr) := hb
      clear hg hv hb hL ha
      go_wp2
      go_ret
      exact ⟨rfl, HG.out, HB.out⟩
end Go.Proofs.YthofeoelndplpaaGreatDoor
namespace Go.Proofs.YthofeoelndplpaaGreatDoor
open Go.RowKit

set_option maxHeartbeats 1000000 in
set_option maxRecDepth 100000 in
theorem toSig (k e s : Int) (w : World) :
    Calls Tryz.prog 43 #[.agg #[.int .i64 k, .int .i64 e, .int .i64 s]] w fun r w' => r = .returned (.agg #[.int .i64 k, .int .i64 e, .int .i64 s]) ∧ Below w.heap.size w w' := by
  go_enter Tryz.func43, Tryz.ntmps43
  go_wp2
  go_returns
  refine ⟨rfl, ?_⟩
  repeat' first | exact Below.refl _ _ | refine Below.setCell ?_ (by simp) _ | refine Below.alloc ?_ (by simp; try omega) _
end Go.Proofs.YthofeoelndplpaaGreatDoor
namespace Go.Proofs.YthofeoelndplpaaGreatDoor
open Go.RowKit

theorem resKeep {w w1 : World} {cs : List Value} {T : Nat} (hb : Below (w.alloc (.cells cs.toArray T (0, 0))).heap.size (w.alloc (.cells cs.toArray T (0, 0))) w1) :
    w1.heap[w.heap.size]? = some (.cells cs.toArray T (0, 0)) ∧ Below w.heap.size w w1 ∧ w.heap.size < w1.heap.size := by
  have hs : (w.alloc (.cells cs.toArray T (0, 0))).heap.size = w.heap.size + 1 := by simp
  have hl := hb.size
  refine ⟨?_, ((Below.refl _ w).alloc (Nat.le_refl _) _).trans (hb.mono (by omega)), by omega⟩
  rw [hb.block w.heap.size (by omega)]
  exact heap_alloc_new w _
theorem rowFree {w : World} {g : Nat} {cs : List Value} {t : TypeId} (hg : w.heap[g]? = some (.cells cs.toArray t (0, 0))) (j : Nat) : w.frozen? ⟨g, j, none⟩ = false := frozen_of_row w g j _ t hg
/-- Three cells of a variable. -/
theorem cells3 {w : World} {g : Nat} {a b c : Value} {t : TypeId} (h : w.heap[g]? = some (.cells [a, b, c].toArray t (0, 0))) :
    (w.cell? ⟨g, 0, none⟩ = some a ∧ w.cell? ⟨g, 1, none⟩ = some b ∧ w.cell? ⟨g, 2, none⟩ = some c) ∧ w.frozen? ⟨g, 0, none⟩ = false ∧ w.frozen? ⟨g, 1, none⟩ = false ∧ w.frozen? ⟨g, 2, none⟩ = false :=
  ⟨⟨rowFacts h 0 _ rfl, rowFacts h 1 _ rfl, rowFacts h 2 _ rfl⟩, rowFree h 0, rowFree h 1, rowFree h 2⟩
theorem cells2 {w : World} {g : Nat} {a b : Value} {t : TypeId} (h : w.heap[g]? = some (.cells [a, b].toArray t (0, 0))) :
    (w.cell? ⟨g, 0, none⟩ = some a ∧ w.cell? ⟨g, 1, none⟩ = some b) ∧ w.frozen? ⟨g, 0, none⟩ = false ∧ w.frozen? ⟨g, 1, none⟩ = false :=
  ⟨⟨rowFacts h 0 _ rfl, rowFacts h 1 _ rfl⟩, rowFree h 0, rowFree h 1⟩
theorem cells4 {w : World} {g : Nat} {a b c d : Value} {t : TypeId} (h : w.heap[g]? = some (.cells [a, b, c, d].toArray t (0, 0))) :
    (w.cell? ⟨g, 0, none⟩ = some a ∧ w.cell? ⟨g, 1, none⟩ = some b ∧ w.cell? ⟨g, 2, none⟩ = some c ∧ w.cell? ⟨g, 3, none⟩ = some d) ∧ w.frozen? ⟨g, 0, none⟩ = false ∧ w.frozen? ⟨g, 1, none⟩ = false ∧ w.frozen? ⟨g, 2, none⟩ = false ∧ w.frozen? ⟨g, 3, none⟩ = false :=
  ⟨⟨rowFacts h 0 _ rfl, rowFacts h 1 _ rfl, rowFacts h 2 _ rfl, rowFacts h 3 _ rfl⟩, rowFree h 0, rowFree h 1, rowFree h 2, rowFree h 3⟩
end Go.Proofs.YthofeoelndplpaaGreatDoor
namespace Go.Proofs.YthofeoelndplpaaGreatDoor
open Go.RowKit

theorem sizeCsr : (Tryz.prog.info? 27).map (·.size) = some 5 := by kernel_rfl
set_option maxHeartbeats 4000000 in
set_option maxRecDepth 100000 in
theorem toCsr (c : Ask) (a : Option Addr) (cap : Nat) (w : World) (hl : c.names.length ≤ 1048576) (ha : IsStrs w a c.names) :
    Calls Tryz.prog 18 #[c.val (.slice a c.names.length cap)] w fun e w' => ∃ g, e = .returned (c.val (.slice (some ⟨g, 0, none⟩) c.names.length c.names.length)) ∧ w.heap.size ≤ g ∧ w'.heap[g]? = some (.cells (sCells c.names).toArray 9 (0, 0)) ∧ Below w.heap.size w w' := by
  obtain ⟨key, names, sk, se, ss⟩ := c
  simp only at hl ha
  unfold Ask.val
  simp only
  have HT : Hid (∀ V, IsStrs V a names → Calls Tryz.prog 9 #[.slice a names.length cap] V fun e w' => e = .returned (.slice (some ⟨V.heap.size, 0, none⟩) names.length names.length) ∧ w'.heap[V.heap.size]? = some (.cells (sCells names).toArray 9 (0, 0)) ∧ Below V.heap.size V w') := fun V h1 => toStrs a names cap V hl h1
  generalize names.length = nl at *
  obtain ⟨w1, hw1⟩ : ∃ w1, w1 = ((w.alloc (.cells #[.int .i64 key, .slice a nl cap, .int .i64 sk, .int .i64 se, .int .i64 ss] 36 (0, 0))).alloc (.cells #[.int .i64 0, .slice none 0 0, .int .i64 0, .int .i64 0, .int .i64 0] 27 (0, 0))).alloc (.cells #[.int .i64 key, .slice none 0 0, .int .i64 0, .int .i64 0, .int .i64 0] 27 (0, 0)) := ⟨_, rfl⟩
  have r0 : w1.heap[w.heap.size]? = some (.cells [Value.int .i64 key, .slice a nl cap, .int .i64 sk, .int .i64 se, .int .i64 ss].toArray 36 (0, 0)) := by
    rw [hw1, Below.heap_alloc _ _ _ (by simp; omega), Below.heap_alloc _ _ _ (by simp)]; exact heap_alloc_new w _
  have r1 : w1.heap[w.heap.size + 1]? = some (.cells [Value.int .i64 0, .slice none 0 0, .int .i64 0, .int .i64 0, .int .i64 0].toArray 27 (0, 0)) := by
    rw [hw1, Below.heap_alloc _ _ _ (by simp)]; exact heap_alloc2 w _ _
  have z1 : w1.heap.size = w.heap.size + 3 := by rw [hw1]; simp
  have r2 : w1.heap[w.heap.size + 1 + 1]? = some (.cells [Value.int .i64 key, .slice none 0 0, .int .i64 0, .int .i64 0, .int .i64 0].toArray 27 (0, 0)) := by
    rw [hw1]
    have := heap_alloc2 (w.alloc (.cells #[.int .i64 key, .slice a nl cap, .int .i64 sk, .int .i64 se, .int .i64 ss] 36 (0, 0))) (.cells #[.int .i64 0, .slice none 0 0, .int .i64 0, .int .i64 0, .int .i64 0] 27 (0, 0)) (.cells #[.int .i64 key, .slice none 0 0, .int .i64 0, .int .i64 0, .int .i64 0] 27 (0, 0))
    simpa using this
  have B1 : Hid (Below w.heap.size w w1) := by rw [hw1]; exact (((Below.refl _ _).alloc (Nat.le_refl _) _).alloc (by simp) _).alloc (by simp; omega) _
  have A1 : Hid (IsStrs w1 a names) := ha.keep B1.out
  clear ha hl
  go_enter Tryz.func18, Tryz.ntmps18
  go_upto_region 3 with fail
  rw [← hw1]
  clear hw1
  have c6 := rowFacts r0 1 _ rfl
  have R0 : Hid _ := r0
  have R1 : Hid _ := r1
  have R2 : Hid _ := r2
  have Z1 : Hid (w1.heap.size = w.heap.size + 3) := z1
  clear r0 r1 r2 z1
  go_wp2_with fail
  refine (HT.out _ A1.out).mono ?_
  rintro e w2 ⟨rfl, hg, b2⟩
  have z1 := Z1.out
  have r0 : w2.heap[w.heap.size]? = some (.cells [Value.int .i64 key, .slice a nl cap, .int .i64 sk, .int .i64 se, .int .i64 ss].toArray 36 (0, 0)) := by rw [b2.block _ (by omega)]; exact R0.out
  have r1 : w2.heap[w.heap.size + 1]? = some (.cells [Value.int .i64 0, .slice none 0 0, .int .i64 0, .int .i64 0, .int .i64 0].toArray 27 (0, 0)) := by rw [b2.block _ (by omega)]; exact R1.out
  have r2 : w2.heap[w.heap.size + 1 + 1]? = some (.cells [Value.int .i64 key, .slice none 0 0, .int .i64 0, .int .i64 0, .int .i64 0].toArray 27 (0, 0)) := by rw [b2.block _ (by omega)]; exact R2.out
  have B2 : Hid (Below w.heap.size w w2) := B1.out.trans (b2.mono B1.out.size)
  clear R0 R1 R2 c6 b2 A1 B1 HT
  obtain ⟨w3, hw3⟩ : ∃ w3, w3 = w2.setCell ⟨w.heap.size + 1 + 1, 1, none⟩ (.slice (some ⟨w1.heap.size, 0, none⟩) nl nl) := ⟨_, rfl⟩
  have t0 : w3.heap[w.heap.size]? = some (.cells [Value.int .i64 key, .slice a nl cap, .int .i64 sk, .int .i64 se, .int .i64 ss].toArray 36 (0, 0)) := by rw [hw3, heap_setCell_other _ _ _ _ (by simp; omega)]; exact r0
  have t1 : w3.heap[w.heap.size + 1]? = some (.cells [Value.int .i64 0, .slice none 0 0, .int .i64 0, .int .i64 0, .int .i64 0].toArray 27 (0, 0)) := by rw [hw3, heap_setCell_other _ _ _ _ (by simp)]; exact r1
  have t2 : w3.heap[w.heap.size + 1 + 1]? = some (.cells [Value.int .i64 key, .slice (some ⟨w1.heap.size, 0, none⟩) nl nl, .int .i64 0, .int .i64 0, .int .i64 0].toArray 27 (0, 0)) := by rw [hw3]; exact rowSet (i := 1) _ r2
  have hg3 : w3.heap[w1.heap.size]? = some (.cells (sCells names).toArray 9 (0, 0)) := by rw [hw3, heap_setCell_other _ _ _ _ (by simp; omega)]; exact hg
  have B3 : Hid (Below w.heap.size w w3) := by rw [hw3]; exact B2.out.setCell (by simp; omega) _
  have d6 := rowFacts r2 1 _ rfl
  have f6 := rowFree r2 1
  have T0 : Hid _ := t0
  have T1 : Hid _ := t1
  have T2 : Hid _ := t2
  have HG3 : Hid _ := hg3
  clear r0 r1 r2 t0 t1 t2 hg hg3 B2 z1
  go_upto_region 4 with fail
  rw [← hw3]
  clear hw3 d6 f6
  have c8 := rowFacts T0.out 2 _ rfl
  have c9 := rowFacts T0.out 3 _ rfl
  have c10 := rowFacts T0.out 4 _ rfl
  go_wp2_with fail
  refine (toSig sk se ss _).mono ?_
  rintro e w4 ⟨rfl, b4⟩
  have u1 : w4.heap[w.heap.size + 1]? = some (.cells [Value.int .i64 0, .slice none 0 0, .int .i64 0, .int .i64 0, .int .i64 0].toArray 27 (0, 0)) := by rw [b4.block _ (heap_lt T1.out)]; exact T1.out
  have u2 : w4.heap[w.heap.size + 1 + 1]? = some (.cells [Value.int .i64 key, .slice (some ⟨w1.heap.size, 0, none⟩) nl nl, .int .i64 0, .int .i64 0, .int .i64 0].toArray 27 (0, 0)) := by rw [b4.block _ (heap_lt T2.out)]; exact T2.out
  have HG4 : Hid (w4.heap[w1.heap.size]? = some (.cells (sCells names).toArray 9 (0, 0))) := by show _ = _; rw [b4.block _ (heap_lt HG3.out)]; exact HG3.out
  have B4 : Hid (Below w.heap.size w w4) := B3.out.trans (b4.mono B3.out.size)
  have U1 : Hid _ := u1
  have U2 : Hid _ := u2
  clear c8 c9 c10 T0 T1 T2 HG3 b4 B3
  obtain ⟨w5, hw5⟩ : ∃ w5, w5 = (((w4.setCell ⟨w.heap.size + 1 + 1, 2, none⟩ (.int .i64 sk)).setCell ⟨w.heap.size + 1 + 1, 3, none⟩ (.int .i64 se)).setCell ⟨w.heap.size + 1 + 1, 4, none⟩ (.int .i64 ss)) := ⟨_, rfl⟩
  obtain ⟨C, hC⟩ : ∃ C, C = [Value.int .i64 key, .slice (some ⟨w1.heap.size, 0, none⟩) nl nl, .int .i64 sk, .int .i64 se, .int .i64 ss] := ⟨_, rfl⟩
  have v2 : w5.heap[w.heap.size + 1 + 1]? = some (.cells C.toArray 27 (0, 0)) := by rw [hw5, hC]; exact (rowSet (i := 4) (.int .i64 ss) (rowSet (i := 3) (.int .i64 se) (rowSet (i := 2) (.int .i64 sk) U2.out)))
  have v1 : w5.heap[w.heap.size + 1]? = some (.cells [Value.int .i64 0, .slice none 0 0, .int .i64 0, .int .i64 0, .int .i64 0].toArray 27 (0, 0)) := by rw [hw5, heap_setCell_other _ _ _ _ (by simp), heap_setCell_other _ _ _ _ (by simp), heap_setCell_other _ _ _ _ (by simp)]; exact U1.out
  have vg : w5.heap[w1.heap.size]? = some (.cells (sCells names).toArray 9 (0, 0)) := by
    have := Z1.out
    rw [hw5, heap_setCell_other _ _ _ _ (by simp; omega), heap_setCell_other _ _ _ _ (by simp; omega), heap_setCell_other _ _ _ _ (by simp; omega)]; exact HG4.out
  have B5 : Hid (Below w.heap.size w w5) := by rw [hw5]; exact ((B4.out.setCell (by simp; omega) _).setCell (by simp; omega) _).setCell (by simp; omega) _
  have hone : ∀ v ∈ C, v.oneCell' = true := by rw [hC]; simp [Value.oneCell']
  have hi : (Tryz.prog.info? 27).map (·.size) = some C.length := by rw [hC]; exact sizeCsr
  have hlen : [Value.int .i64 0, .slice none 0 0, .int .i64 0, .int .i64 0, .int .i64 0].length = C.length := by rw [hC]; rfl
  have HC : Hid (C = [Value.int .i64 key, .slice (some ⟨w1.heap.size, 0, none⟩) nl nl, .int .i64 sk, .int .i64 se, .int .i64 ss]) := hC
  have VG : Hid _ := vg
  have p8 := rowFacts u2 2 _ rfl
  have p9 := rowFacts u2 3 _ rfl
  have p10 := rowFacts u2 4 _ rfl
  have q8 := rowFree u2 2
  have q9 := rowFree u2 3
  have q10 := rowFree u2 4
  have V1 : Hid _ := v1
  have V2 : Hid _ := v2
  have HOne : Hid (∀ v ∈ C, v.oneCell' = true) := hone
  have HI : Hid ((Tryz.prog.info? 27).map (·.size) = some C.length) := hi
  have HLen : Hid ([Value.int .i64 0, .slice none 0 0, .int .i64 0, .int .i64 0, .int .i64 0].length = C.length) := hlen
  clear u1 u2 v1 v2 vg hone hi hlen hC HG4 B4 U1 U2
  go_upto_region 5 with fail
  rw [← hw5]
  clear hw5 p8 p9 p10 q8 q9 q10
  have hr := rangeRow V2.out
  have hR := V1.out
  have h1 := HOne.out
  have hi := HI.out
  go_wp2_with (first | (refine wpList_load_mid rfl 27 _ rfl (w.heap.size + 1 + 1) 0 rfl C _ hr Tryz.underlying27 rfl hi ?_) | (refine wpList_store_row rfl 27 _ _ rfl (w.heap.size + 1) _ C 27 rfl rfl hR HLen.out hi h1 ?_))
  intro w6 hrow ho hs6 hbb
  have HROW : Hid _ := hrow
  have HB6 : Hid (Below w.heap.size w w6) := hbb _ _ (by omega) B5.out
  have HG6 : Hid (w6.heap[w1.heap.size]? = some (.cells (sCells names).toArray 9 (0, 0))) := by show _ = _; rw [ho _ (by have := Z1.out; omega)]; exact VG.out
  clear ho hs6 hbb hrow hr hR h1
  go_wp2
  refine bodyPost_ret (v := .agg C.toArray) ?_ rfl ⟨w1.heap.size, by rw [HC.out], by have := Z1.out; omega, HG6.out, HB6.out⟩
  have hl3 := run_loadVar_mid (P := Tryz.prog) _ (w.heap.size + 1) 0 27 _ _ (rangeRow HROW.out) Tryz.underlying27 rfl hi
  simp [results, Tryz.results18, asAddr, hl3]
end Go.Proofs.YthofeoelndplpaaGreatDoor
namespace Go.Proofs.YthofeoelndplpaaGreatDoor
open Go.RowKit

def OwnS (w : World) (B : Nat) (v : Value) (l : List ByteArray) : Prop := w.ownsRow B 9 1 v l.length (sCells l)
theorem OwnS.keep {w w' : World} {B : Nat} {v : Value} {l : List ByteArray} (h : OwnS w B v l) (hb : Below w.heap.size w w') : OwnS w' B v l := by
  refine ⟨h.1, ?_⟩
  rcases h.2 with h | ⟨g, cap, cur, e, h1, h2, h3⟩
  · exact .inl h
  · exact .inr ⟨g, cap, cur, e, h1, by rw [hb.block g (heap_lt h2)]; exact h2, h3⟩
theorem OwnS.mono {w : World} {B B' : Nat} {v : Value} {l : List ByteArray} (h : OwnS w B v l) (hB : B' ≤ B) : OwnS w B' v l := by
  refine ⟨h.1, ?_⟩
  rcases h.2 with h | ⟨g, cap, cur, e, h1, h3⟩
  · exact .inl h
  · exact .inr ⟨g, cap, cur, e, Nat.le_trans hB h1, h3⟩
theorem OwnS.form {w : World} {B : Nat} {v : Value} {l : List ByteArray} (h : OwnS w B v l) : ∃ a c, v = .slice a l.length c ∧ l.length ≤ c := by
  rcases h.2 with ⟨h, h'⟩ | ⟨g, cap, _, e, _, _, hc, _⟩
  · exact ⟨none, 0, by rw [h']; exact h, by omega⟩
  · exact ⟨_, _, e, hc⟩
theorem ownS_nil (w : World) (B : Nat) : OwnS w B (.slice none 0 0) [] := ⟨rfl, .inl ⟨rfl, rfl⟩⟩
theorem OwnS.strs {w : World} {B : Nat} {a : Option Addr} {n c : Nat} {l : List ByteArray} (h : OwnS w B (.slice a n c) l) : IsStrs w a l := by
  rcases h.2 with ⟨_, h'⟩ | ⟨g, cap, cur, e, _, hg, _, _, _, ht⟩
  · exact .inl (List.eq_nil_of_length_eq_zero h')
  · simp only [Value.slice.injEq] at e
    obtain ⟨rfl, _, _⟩ := e
    refine .inr ⟨g, 0, rfl, fun i hi => ?_⟩
    have k0 := sCells_at hi
    rw [← ht, List.getElem?_take, if_pos (by omega)] at k0
    rw [Nat.zero_add, cell_of_row w g _ _ _ (0, 0) hg]
    simpa using k0
theorem OwnS.ge {w : World} {B g : Nat} {v : Value} {l : List ByteArray} (h : OwnS w B v l) (e : v.ownBlock = some g) : B ≤ g ∧ g < w.heap.size :=
  (show World.ownsRow w B 9 1 v l.length (sCells l) from h).lt g e
/-- It stands where its blocks are as they were. -/
theorem OwnS.same {w w' : World} {B : Nat} {v : Value} {l : List ByteArray} (h : OwnS w B v l) (hs : ∀ k, B ≤ k → k < w.heap.size → w'.heap[k]? = w.heap[k]?) : OwnS w' B v l := by
  refine ⟨h.1, ?_⟩
  rcases h.2 with h | ⟨g, cap, cur, e, h1, h2, h3⟩
  · exact .inl h
  · exact .inr ⟨g, cap, cur, e, h1, by rw [hs g h1 (heap_lt h2)]; exact h2, h3⟩
theorem take_snoc (l : List ByteArray) {k : Nat} (h : k < l.length) : l.take (k + 1) = l.take k ++ [tAt l k] := by
  rw [List.take_succ_eq_append_getElem h, tAt, List.getD, List.getElem?_eq_getElem h]; rfl
/-- It stands where all blocks but one that is not its own are as they were. -/
theorem OwnS.off {w w' : World} {B q : Nat} {v : Value} {l : List ByteArray} (h : OwnS w B v l) (hq : v.ownBlock ≠ some q) (hs : ∀ k, k ≠ q → w'.heap[k]? = w.heap[k]?) : OwnS w' B v l := by
  refine ⟨h.1, ?_⟩
  rcases h.2 with h | ⟨g, cap, cur, e, h1, h2, h3⟩
  · exact .inl h
  · exact .inr ⟨g, cap, cur, e, h1, by rw [hs g (fun e' => hq (by rw [e, ← e']; rfl))]; exact h2, h3⟩
theorem oneCell_texts (l : List ByteArray) : ∀ u ∈ sCells l, u.oneCell' = true := by
  intro u hu
  simp only [sCells, List.mem_map] at hu
  obtain ⟨s, _, rfl⟩ := hu
  rfl
end Go.Proofs.YthofeoelndplpaaGreatDoor
namespace Go.Proofs.YthofeoelndplpaaGreatDoor
open Go.RowKit

theorem specSecret (x : Int) (w : World) :
    Calls Tryz.prog 29 #[.int .i64 x] w fun e w' => e = .returned (.bool (secB x)) ∧ w' = w := by
  by_cases h1 : 1 ≤ x
  · by_cases h2 : x < 1073741789
    · have e : secB x = true := decide_eq_true ⟨h1, h2⟩
      rw [e]
      go_enter Tryz.func29, Tryz.ntmps29
      go_wp2
      go_ret
      exact ⟨rfl, rfl⟩
    · have e : secB x = false := decide_eq_false (by omega)
      rw [e]
      go_enter Tryz.func29, Tryz.ntmps29
      go_wp2
      go_ret
      exact ⟨rfl, rfl⟩
  · have e : secB x = false := decide_eq_false (by omega)
    rw [e]
    go_enter Tryz.func29, Tryz.ntmps29
    go_wp2
    go_ret
    exact ⟨rfl, rfl⟩
end Go.Proofs.YthofeoelndplpaaGreatDoor
