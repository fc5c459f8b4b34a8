/- The specification's side of what is asked for: spec.l07Body, l07Form, l07Right, l07Bytes, CsrBytes, walked. spec.CsrSign, walked. What SignText hands back has three numbers. Plain mathematics: no program is named here. -/
import Derived.Test.YtkhdjmjbdpmdnaaGreatDoorCR12
import Derived.Test.YtkhdjmjbdpmdnaaGreatDoorCR06
import Derived.Test.YtkhdjmjbdpmdnaaGreatDoorCR07
import Derived.Test.YtkhdjmjbdpmdnaaGreatDoorCR09
import Derived.Test.YtkhdjmjbdpmdnaaGreatDoorCR02
import Derived.Deep.Cut
import Derived.Deep.RegionHeld3
import Derived.Test.YtkhdjmjbdpmdnaaGreatDoorCR04
import Derived.Test.YtkhdjmjbdpmdnaaGreatDoorCR05
namespace Go.Proofs.YtkhdjmjbdpmdnaaGreatDoor
open Go.RowKit

set_option linter.unusedSimpArgs false in
set_option maxHeartbeats 4000000 in
set_option maxRecDepth 100000 in
theorem specAskD (c : Ask) (a : Option Addr) (cap : Nat) (w : World) (hk : -9223372036854775808 ≤ c.key ∧ c.key ≤ 9223372036854775807) (hl : c.names.length ≤ 5) (hs : ∀ i, i < c.names.length → (tAt c.names i).size ≤ 40) (ha : IsStrs w a c.names) :
    Calls Tryz.prog 84 #[c.val (.slice a c.names.length cap)] w fun e w' => e = .returned (.string (askD c)) ∧ Below w.heap.size w w' := by
  have y1 := putS_size c.key
  have y2 := intD_le 0
  have y3 := hosts_le hl hs
  have y4 := askK_le c.key
  have HH : Hid (∀ V, IsStrs V a c.names → Calls Tryz.prog 152 #[.slice a c.names.length cap] V fun e w' => e = .returned (.string (seqD (hostsD c.names c.names.length))) ∧ Below V.heap.size V w') := fun V hV => specHosts a c.names cap V hl hs hV
  obtain ⟨R, hR⟩ : ∃ R, R = askD c := ⟨_, rfl⟩
  rw [← hR]
  have hR' : R = seqD (intD 0 ++ (thingD 3 (⟨#[0]⟩ ++ putS c.key) ++ seqD (hostsD c.names c.names.length))) := hR
  clear hR hl hs
  obtain ⟨key, names, sk, se, ss⟩ := c
  unfold Ask.val
  simp only at y1 y3 y4 HH hR' hk ha ⊢
  generalize seqD (hostsD names names.length) = G at *
  generalize names.length = nl at *
  obtain ⟨x1, q1⟩ : ∃ q, (⟨#[0]⟩ : ByteArray) ++ putS key = q := ⟨_, rfl⟩
  have s1 : x1.size ≤ 11 := by rw [← q1, ByteArray.size_append]; show 1 + _ ≤ _; omega
  rw [q1] at hR' y4
  obtain ⟨T, qT⟩ : ∃ q, q = thingD 3 x1 := ⟨_, rfl⟩
  rw [← qT] at hR' y4
  obtain ⟨I, qI⟩ : ∃ q, q = intD 0 := ⟨_, rfl⟩
  rw [← qI] at hR' y2
  obtain ⟨x2, q2⟩ : ∃ q, I ++ T = q := ⟨_, rfl⟩
  have s2 : x2.size ≤ 40 := by rw [← q2, ByteArray.size_append]; omega
  obtain ⟨x3, q3⟩ : ∃ q, x2 ++ G = q := ⟨_, rfl⟩
  have s3 : x3.size ≤ 300 := by rw [← q3, ByteArray.size_append]; omega
  have e3 : R = seqD x3 := by rw [hR', ← q3, ← q2, ByteArray.append_assoc]
  have a1 : ¬ 9223372036854775807 < (⟨#[0]⟩ : ByteArray).size + (putS key).size := by show ¬ _ < 1 + _; omega
  have a1' : ¬ 9223372036854775807 < 1 + (putS key).size := by omega
  have a2 : ¬ 9223372036854775807 < I.size + T.size := by omega
  have a3 : ¬ 9223372036854775807 < x2.size + G.size := by omega
  obtain ⟨w1, hw1⟩ : ∃ w1, w1 = w.alloc (.cells #[.int .i64 key, .slice a nl cap, .int .i64 sk, .int .i64 se, .int .i64 ss] 44 (0, 0)) := ⟨_, rfl⟩
  have r0 : w1.heap[w.heap.size]? = some (.cells [Value.int .i64 key, .slice a nl cap, .int .i64 sk, .int .i64 se, .int .i64 ss].toArray 44 (0, 0)) := by rw [hw1]; exact heap_alloc_new w _
  have B1 : Hid (Below w.heap.size w w1) := by rw [hw1]; exact (Below.refl _ _).alloc (Nat.le_refl _) _
  have z1 : w.heap.size < w1.heap.size := by rw [hw1]; simp
  have HK : Hid (∀ V, Below w1.heap.size w1 V → V.cell? ⟨w.heap.size, 0, none⟩ = some (.int .i64 key) ∧ V.cell? ⟨w.heap.size, 1, none⟩ = some (.slice a nl cap) ∧ V.cell? ⟨w.heap.size, 2, none⟩ = some (.int .i64 sk) ∧ V.cell? ⟨w.heap.size, 3, none⟩ = some (.int .i64 se) ∧ V.cell? ⟨w.heap.size, 4, none⟩ = some (.int .i64 ss)) := fun V hV => by
    have hP := (hV.block _ z1).trans r0
    exact ⟨rowFacts hP 0 _ rfl, rowFacts hP 1 _ rfl, rowFacts hP 2 _ rfl, rowFacts hP 3 _ rfl, rowFacts hP 4 _ rfl⟩
  have HA : Hid (∀ V, Below w1.heap.size w1 V → IsStrs V a names) := fun V hV => (ha.keep B1.out).keep hV
  have HB : Hid (∀ V, Below w1.heap.size w1 V → Below w.heap.size w V) := fun V hV => B1.out.trans (hV.mono B1.out.size)
  have I1 : Hid (Below w1.heap.size w1 w1) := Below.refl _ _
  have D1 : Hid (Below w1.heap.size w1 w1.drew) := I1.out.drew
  clear r0 z1 B1 ha
  have P1 : Hid (∀ V, Hid (Below w1.heap.size w1 V) → Calls Tryz.prog 130 #[.int .i64 key] V fun e W => e = .returned (.string (putS key)) ∧ Hid (Below w1.heap.size w1 W)) := fun V hV => (specPut key V hk.1 hk.2).mono fun e W h => ⟨h.1, hV.out.trans (h.2.mono hV.out.size)⟩
  have P2 : Hid (∀ V, Hid (Below w1.heap.size w1 V) → Calls Tryz.prog 132 #[.int .i64 3, .string x1] V fun e W => e = .returned (.string T) ∧ Hid (Below w1.heap.size w1 W)) := fun V hV => by
    rw [qT]
    exact (specThing 3 x1 V (by omega) (by omega) (by omega)).mono fun e W h => ⟨h.1, hV.out.trans (h.2.mono hV.out.size)⟩
  have P3 : Hid (∀ V, Hid (Below w1.heap.size w1 V) → Calls Tryz.prog 133 #[.int .i64 0] V fun e W => e = .returned (.string I) ∧ Hid (Below w1.heap.size w1 W)) := fun V hV => by
    rw [qI]
    exact (specDerInt 0 V (by omega) (by omega)).mono fun e W h => ⟨h.1, hV.out.trans (h.2.mono hV.out.size)⟩
  have P4 : Hid (∀ V, Hid (Below w1.heap.size w1 V) → Calls Tryz.prog 152 #[.slice a nl cap] V fun e W => e = .returned (.string G) ∧ Hid (Below w1.heap.size w1 W)) := fun V hV => (HH.out V (HA.out V hV.out)).mono fun e W h => ⟨h.1, hV.out.trans (h.2.mono hV.out.size)⟩
  have P5 : Hid (∀ V, Hid (Below w1.heap.size w1 V) → Calls Tryz.prog 58 #[.string x3] V fun e W => e = .returned (.string R) ∧ Hid (Below w1.heap.size w1 W)) := fun V hV => by
    rw [e3]
    exact (specSeq x3 V (by omega)).mono fun e W h => ⟨h.1, hV.out.trans (h.2.mono hV.out.size)⟩
  clear y1 y2 y3 y4 s1 s2 s3 hR' e3 qT qI HH HA hk
  obtain ⟨c0, c1, c2, c3, c4⟩ := HK.out w1 I1.out
  go_enter Tryz.func84, Tryz.ntmps84
  go_upto_region 1 with fail
  rw [← hw1]
  clear hw1
  go_region_held3 (fun V => V.cell? ⟨w.heap.size, 0, none⟩ = some (.int .i64 key) ∧ V.cell? ⟨w.heap.size, 1, none⟩ = some (.slice a nl cap) ∧ V.cell? ⟨w.heap.size, 2, none⟩ = some (.int .i64 sk) ∧ V.cell? ⟨w.heap.size, 3, none⟩ = some (.int .i64 se) ∧ V.cell? ⟨w.heap.size, 4, none⟩ = some (.int .i64 ss)) (first | (refine ⟨?_, ?_, ?_, ?_, ?_⟩ <;> assumption) | exact HK.out _ (Hid.out (by assumption)))
    (first
      | (go_at_call 130; refine (P1.out _ (by assumption)).mono ?_; rintro r V1 ⟨rfl, k1⟩)
      | (go_at_call 132; refine (P2.out _ (by assumption)).mono ?_; rintro r V2 ⟨rfl, k2⟩)
      | (go_at_call 133; refine (P3.out _ (by assumption)).mono ?_; rintro r V3 ⟨rfl, k3⟩)
      | (go_at_call 152; refine (P4.out _ (by assumption)).mono ?_; rintro r V4 ⟨rfl, k4⟩)
      | (go_at_call 58; refine (P5.out _ (by assumption)).mono ?_; rintro r V5 ⟨rfl, k5⟩))
  go_wp2
  go_ret
  exact ⟨rfl, HB.out _ k5.out⟩
set_option linter.unusedSimpArgs false in
set_option maxHeartbeats 4000000 in
set_option maxRecDepth 100000 in
theorem specForm (c : Ask) (a : Option Addr) (cap : Nat) (w : World) (hl : c.names.length ≤ 1048576) (ht : totS c.names c.names.length ≤ 1048576) (ha : IsStrs w a c.names) :
    Calls Tryz.prog 103 #[c.val (.slice a c.names.length cap)] w fun e w' => e = .returned (.bool (formB c)) ∧ Below w.heap.size w w' := by
  have HNm : Hid (∀ V, IsStrs V a c.names → Calls Tryz.prog 83 #[.slice a c.names.length cap] V fun e w' => e = .returned (.bool (namesB c.names)) ∧ Below V.heap.size V w') := fun V hV => specNames a c.names cap V hl ht hV
  obtain ⟨R, hR⟩ : ∃ R, R = formB c := ⟨_, rfl⟩
  rw [← hR]
  have HR : Hid (R = (rightG c.key && namesB c.names && decide (0 < c.names.length) && sigRB c.sk c.se c.ss && decide (c.sk = c.key))) := hR
  clear hR ht
  obtain ⟨key, names, sk, se, ss⟩ := c
  unfold Ask.val
  simp only at HNm HR hl ha ⊢
  obtain ⟨N, hN⟩ : ∃ N, N = namesB names := ⟨_, rfl⟩
  rw [← hN] at HNm HR
  clear hN
  generalize names.length = nl at *
  obtain ⟨w1, hw1⟩ : ∃ w1, w1 = w.alloc (.cells #[.int .i64 key, .slice a nl cap, .int .i64 sk, .int .i64 se, .int .i64 ss] 44 (0, 0)) := ⟨_, rfl⟩
  have r0 : w1.heap[w.heap.size]? = some (.cells [Value.int .i64 key, .slice a nl cap, .int .i64 sk, .int .i64 se, .int .i64 ss].toArray 44 (0, 0)) := by rw [hw1]; exact heap_alloc_new w _
  have B1 : Hid (Below w.heap.size w w1) := by rw [hw1]; exact (Below.refl _ _).alloc (Nat.le_refl _) _
  have z1 : w.heap.size < w1.heap.size := by rw [hw1]; simp
  have HK : Hid (∀ V, Below w1.heap.size w1 V → V.cell? ⟨w.heap.size, 0, none⟩ = some (.int .i64 key) ∧ V.cell? ⟨w.heap.size, 1, none⟩ = some (.slice a nl cap) ∧ V.cell? ⟨w.heap.size, 2, none⟩ = some (.int .i64 sk) ∧ V.cell? ⟨w.heap.size, 3, none⟩ = some (.int .i64 se) ∧ V.cell? ⟨w.heap.size, 4, none⟩ = some (.int .i64 ss)) := fun V hV => by
    have hP := (hV.block _ z1).trans r0
    exact ⟨rowFacts hP 0 _ rfl, rowFacts hP 1 _ rfl, rowFacts hP 2 _ rfl, rowFacts hP 3 _ rfl, rowFacts hP 4 _ rfl⟩
  have HA : Hid (∀ V, Below w1.heap.size w1 V → IsStrs V a names) := fun V hV => (ha.keep B1.out).keep hV
  have HB : Hid (∀ V, Below w1.heap.size w1 V → Below w.heap.size w V) := fun V hV => B1.out.trans (hV.mono B1.out.size)
  have I1 : Hid (Below w1.heap.size w1 w1) := Below.refl _ _
  have D1 : Hid (Below w1.heap.size w1 w1.drew) := I1.out.drew
  clear r0 z1 B1 ha
  obtain ⟨c0, c1, c2, c3, c4⟩ := HK.out w1 I1.out
  go_enter Tryz.func103, Tryz.ntmps103
  go_upto_region 1 with fail
  rw [← hw1]
  clear hw1
  go_wp2_with fail
  refine (specGroupRight key _).mono ?_
  rintro e w2 ⟨rfl, h2w⟩
  subst w2
  cases h1 : rightG key with
  | false =>
    have HF : Hid (R = false) := by show _ = _; rw [HR.out, h1]; rfl
    go_wp2
    go_ret
    exact ⟨by rw [HF.out]; rfl, HB.out _ I1.out⟩
  | true =>
  rw [h1] at HR
  go_wp2_with fail
  refine (HNm.out _ (HA.out _ I1.out)).mono ?_
  rintro e w2 ⟨rfl, b2⟩
  have K2 : Hid (Below w1.heap.size w1 w2) := b2
  clear b2 c0 c1 c2 c3 c4
  obtain ⟨c0, c1, c2, c3, c4⟩ := HK.out w2 K2.out
  cases N with
  | false =>
    have HF : Hid (R = false) := by show _ = _; rw [HR.out]; rfl
    go_wp2
    go_ret
    exact ⟨by rw [HF.out]; rfl, HB.out _ K2.out⟩
  | true =>
  by_cases h3 : 0 < nl
  rotate_left
  · have HF : Hid (R = false) := by show _ = _; rw [HR.out, decide_eq_false h3]; rfl
    have h3' : nl = 0 := by omega
    subst h3'
    go_wp2
    go_ret
    exact ⟨by rw [HF.out]; rfl, HB.out _ K2.out⟩
  rw [decide_eq_true h3] at HR
  go_wp2_with fail
  refine (specSigRight sk se ss _).mono ?_
  rintro e w3 ⟨rfl, b3⟩
  have K3 : Hid (Below w1.heap.size w1 w3) := K2.out.trans (b3.mono K2.out.size)
  clear b3 c0 c1 c2 c3 c4
  obtain ⟨c0, c1, c2, c3, c4⟩ := HK.out w3 K3.out
  cases h4 : sigRB sk se ss with
  | false =>
    have HF : Hid (R = false) := by show _ = _; rw [HR.out, h4]; rfl
    go_wp2
    go_ret
    exact ⟨by rw [HF.out]; rfl, HB.out _ K3.out⟩
  | true =>
  rw [h4] at HR
  by_cases h5 : sk = key
  · have HF : Hid (R = true) := by show _ = _; rw [HR.out, decide_eq_true h5]; rfl
    subst h5
    go_wp2
    go_ret
    exact ⟨by rw [HF.out]; simp, HB.out _ K3.out⟩
  · have HF : Hid (R = false) := by show _ = _; rw [HR.out, decide_eq_false h5]; rfl
    go_wp2
    go_ret
    exact ⟨by rw [HF.out]; simp [h5], HB.out _ K3.out⟩
set_option linter.unusedSimpArgs false in
set_option maxHeartbeats 4000000 in
set_option maxRecDepth 100000 in
theorem specAskY (c : Ask) (a : Option Addr) (cap : Nat) (w : World) (hk : -9223372036854775808 ≤ c.key ∧ c.key ≤ 9223372036854775807) (hse : -9223372036854775808 ≤ c.se ∧ c.se ≤ 9223372036854775807) (hss : -9223372036854775808 ≤ c.ss ∧ c.ss ≤ 9223372036854775807) (hl : c.names.length ≤ 5) (hs : ∀ i, i < c.names.length → (tAt c.names i).size ≤ 40) (ha : IsStrs w a c.names) :
    Calls Tryz.prog 86 #[c.val (.slice a c.names.length cap)] w fun e w' => e = .returned (.string (askY c)) ∧ Below w.heap.size w w' := by
  have y1 := putS_size c.se
  have y2 := putS_size c.ss
  have y3 : (askD c).size ≤ 300 := by
    have y1 := intD_le 0
    have y2 := askK_le c.key
    have y3 := hosts_le hl hs
    have z := seqD_le (intD 0 ++ (thingD 3 (⟨#[0]⟩ ++ putS c.key) ++ seqD (hostsD c.names c.names.length)))
    simp only [ByteArray.size_append] at z
    unfold askD
    omega
  have HH : Hid (∀ V, IsStrs V a c.names → Calls Tryz.prog 84 #[c.val (.slice a c.names.length cap)] V fun e w' => e = .returned (.string (askD c)) ∧ Below V.heap.size V w') := fun V hV => specAskD c a cap V hk hl hs hV
  obtain ⟨R, hR⟩ : ∃ R, R = askY c := ⟨_, rfl⟩
  rw [← hR]
  have hR' : R = seqD (askD c ++ thingD 3 (⟨#[0]⟩ ++ putS c.se ++ putS c.ss)) := hR
  generalize askD c = D at *
  clear hR hl hs
  obtain ⟨key, names, sk, se, ss⟩ := c
  unfold Ask.val at *
  simp only at y1 y2 HH hR' hse hss ha ⊢
  generalize names.length = nl at *
  obtain ⟨x1, q1⟩ : ∃ q, (⟨#[0]⟩ : ByteArray) ++ putS se = q := ⟨_, rfl⟩
  have s1 : x1.size ≤ 11 := by rw [← q1, ByteArray.size_append]; show 1 + _ ≤ _; omega
  rw [q1] at hR'
  obtain ⟨x2, q2⟩ : ∃ q, x1 ++ putS ss = q := ⟨_, rfl⟩
  have s2 : x2.size ≤ 21 := by rw [← q2, ByteArray.size_append]; omega
  rw [q2] at hR'
  have yT := thingD_le 3 x2
  obtain ⟨T, qT⟩ : ∃ q, q = thingD 3 x2 := ⟨_, rfl⟩
  rw [← qT] at hR' yT
  obtain ⟨x3, q3⟩ : ∃ q, D ++ T = q := ⟨_, rfl⟩
  have s3 : x3.size ≤ 400 := by rw [← q3, ByteArray.size_append]; omega
  rw [q3] at hR'
  have a1 : ¬ 9223372036854775807 < (⟨#[0]⟩ : ByteArray).size + (putS se).size := by show ¬ _ < 1 + _; omega
  have a1' : ¬ 9223372036854775807 < 1 + (putS se).size := by omega
  have a2 : ¬ 9223372036854775807 < x1.size + (putS ss).size := by omega
  have a3 : ¬ 9223372036854775807 < D.size + T.size := by omega
  obtain ⟨w1, hw1⟩ : ∃ w1, w1 = w.alloc (.cells #[.int .i64 key, .slice a nl cap, .int .i64 sk, .int .i64 se, .int .i64 ss] 44 (0, 0)) := ⟨_, rfl⟩
  have r0 : w1.heap[w.heap.size]? = some (.cells [Value.int .i64 key, .slice a nl cap, .int .i64 sk, .int .i64 se, .int .i64 ss].toArray 44 (0, 0)) := by rw [hw1]; exact heap_alloc_new w _
  have B1 : Hid (Below w.heap.size w w1) := by rw [hw1]; exact (Below.refl _ _).alloc (Nat.le_refl _) _
  have z1 : w.heap.size < w1.heap.size := by rw [hw1]; simp
  have HK : Hid (∀ V, Below w1.heap.size w1 V → V.cell? ⟨w.heap.size, 0, none⟩ = some (.int .i64 key) ∧ V.cell? ⟨w.heap.size, 1, none⟩ = some (.slice a nl cap) ∧ V.cell? ⟨w.heap.size, 2, none⟩ = some (.int .i64 sk) ∧ V.cell? ⟨w.heap.size, 3, none⟩ = some (.int .i64 se) ∧ V.cell? ⟨w.heap.size, 4, none⟩ = some (.int .i64 ss)) := fun V hV => by
    have hP := (hV.block _ z1).trans r0
    exact ⟨rowFacts hP 0 _ rfl, rowFacts hP 1 _ rfl, rowFacts hP 2 _ rfl, rowFacts hP 3 _ rfl, rowFacts hP 4 _ rfl⟩
  have HA : Hid (∀ V, Below w1.heap.size w1 V → IsStrs V a names) := fun V hV => (ha.keep B1.out).keep hV
  have HB : Hid (∀ V, Below w1.heap.size w1 V → Below w.heap.size w V) := fun V hV => B1.out.trans (hV.mono B1.out.size)
  have I1 : Hid (Below w1.heap.size w1 w1) := Below.refl _ _
  have D1 : Hid (Below w1.heap.size w1 w1.drew) := I1.out.drew
  clear r0 z1 B1 ha
  have P1 : Hid (∀ V (n : Int), Hid (Below w1.heap.size w1 V) → -9223372036854775808 ≤ n ∧ n ≤ 9223372036854775807 → Calls Tryz.prog 130 #[.int .i64 n] V fun e W => e = .returned (.string (putS n)) ∧ Hid (Below w1.heap.size w1 W)) := fun V n hV hn => (specPut n V hn.1 hn.2).mono fun e W h => ⟨h.1, hV.out.trans (h.2.mono hV.out.size)⟩
  have P2 : Hid (∀ V, Hid (Below w1.heap.size w1 V) → Calls Tryz.prog 132 #[.int .i64 3, .string x2] V fun e W => e = .returned (.string T) ∧ Hid (Below w1.heap.size w1 W)) := fun V hV => by
    rw [qT]
    exact (specThing 3 x2 V (by omega) (by omega) (by omega)).mono fun e W h => ⟨h.1, hV.out.trans (h.2.mono hV.out.size)⟩
  have P4 : Hid (∀ V, Hid (Below w1.heap.size w1 V) → Calls Tryz.prog 84 #[.agg #[.int .i64 key, .slice a nl cap, .int .i64 sk, .int .i64 se, .int .i64 ss]] V fun e W => e = .returned (.string D) ∧ Hid (Below w1.heap.size w1 W)) := fun V hV => (HH.out V (HA.out V hV.out)).mono fun e W h => ⟨h.1, hV.out.trans (h.2.mono hV.out.size)⟩
  have P5 : Hid (∀ V, Hid (Below w1.heap.size w1 V) → Calls Tryz.prog 58 #[.string x3] V fun e W => e = .returned (.string R) ∧ Hid (Below w1.heap.size w1 W)) := fun V hV => by
    rw [hR']
    exact (specSeq x3 V (by omega)).mono fun e W h => ⟨h.1, hV.out.trans (h.2.mono hV.out.size)⟩
  clear y1 y2 y3 yT s1 s2 s3 hR' qT HH HA hk
  obtain ⟨c0, c1, c2, c3, c4⟩ := HK.out w1 I1.out
  go_enter Tryz.func86, Tryz.ntmps86
  go_upto_region 1 with fail
  rw [← hw1]
  clear hw1
  go_region_held3 (fun V => V.cell? ⟨w.heap.size, 0, none⟩ = some (.int .i64 key) ∧ V.cell? ⟨w.heap.size, 1, none⟩ = some (.slice a nl cap) ∧ V.cell? ⟨w.heap.size, 2, none⟩ = some (.int .i64 sk) ∧ V.cell? ⟨w.heap.size, 3, none⟩ = some (.int .i64 se) ∧ V.cell? ⟨w.heap.size, 4, none⟩ = some (.int .i64 ss)) (first | (refine ⟨?_, ?_, ?_, ?_, ?_⟩ <;> assumption) | exact HK.out _ (Hid.out (by assumption)))
    (first
      | (go_at_call 130; refine (P1.out _ _ (by assumption) (by assumption)).mono ?_; rintro r V1 ⟨rfl, k1⟩)
      | (go_at_call 132; refine (P2.out _ (by assumption)).mono ?_; rintro r V2 ⟨rfl, k2⟩)
      | (go_at_call 84; refine (P4.out _ (by assumption)).mono ?_; rintro r V4 ⟨rfl, k4⟩)
      | (go_at_call 58; refine (P5.out _ (by assumption)).mono ?_; rintro r V5 ⟨rfl, k5⟩))
  go_wp2
  go_ret
  exact ⟨rfl, HB.out _ k5.out⟩
end Go.Proofs.YtkhdjmjbdpmdnaaGreatDoor
namespace Go.Proofs.YtkhdjmjbdpmdnaaGreatDoor
open Go.RowKit

set_option linter.unusedSimpArgs false in
set_option maxHeartbeats 4000000 in
set_option maxRecDepth 100000 in
theorem specSignA (x : Int) (ns : List ByteArray) (g o cap : Nat) (k e s : Int) (w : World) (hl : ns.length ≤ 1048576) (ht : totS ns ns.length ≤ 1048576) (hgw : g < w.heap.size) (hc : ∀ i, i < ns.length → w.cell? ⟨g, o + i, none⟩ = some (.string (tAt ns i)))
    (hv : askOk x ns = true → signV x (askD (askO x ns)) = .agg #[.int .i64 k, .int .i64 e, .int .i64 s]) :
    Calls Tryz.prog 25 #[.int .i64 x, .slice (some ⟨g, o, none⟩) ns.length cap] w fun r w' => ∃ v, r = .returned ((signA x ns k e s).val v) ∧ OwnS w' w.heap.size v (signA x ns k e s).names ∧ Below w.heap.size w w' := by
  have HNm : Hid (∀ V, Below w.heap.size w V → Calls Tryz.prog 83 #[.slice (some ⟨g, o, none⟩) ns.length cap] V fun e w' => e = .returned (.bool (namesB ns)) ∧ Below V.heap.size V w') := fun V hV => specNames _ ns cap V hl ht (.inr ⟨g, o, rfl, fun i h => by rw [hV.cell (p := ⟨g, o + i, none⟩) hgw]; exact hc i h⟩)
  have HBo : Hid (askOk x ns = true → ∀ V a' cap', IsStrs V a' ns → Calls Tryz.prog 84 #[(askO x ns).val (.slice a' ns.length cap')] V fun e w' => e = .returned (.string (askD (askO x ns))) ∧ Below V.heap.size V w') := fun h V a' cap' hV => by
    have hx : secB x = true := by unfold askOk at h; simp only [Bool.and_eq_true] at h; exact h.1.1
    have hB : askB (askO x ns) = true := by rw [askOk_ask hx]; unfold askOk at h; rw [hx, Bool.true_and] at h; exact h
    obtain ⟨f1, f2, f3, f4⟩ := ask_fits hB
    exact specAskD (askO x ns) a' cap' V (by omega) f2 f4 hV
  have HSg : Hid (askOk x ns = true → ∀ V, Calls Tryz.prog 56 #[.int .i64 x, .string (askD (askO x ns))] V fun r w' => r = .returned (.agg #[.int .i64 k, .int .i64 e, .int .i64 s]) ∧ Below V.heap.size V w') := fun h V => by
    have hx : secB x = true := by unfold askOk at h; simp only [Bool.and_eq_true] at h; exact h.1.1
    have hB : askB (askO x ns) = true := by rw [askOk_ask hx]; unfold askOk at h; rw [hx, Bool.true_and] at h; exact h
    have := specSign x (askD (askO x ns)) V (by have := askD_le hB; unfold maxLen; omega)
    rw [hv h] at this
    exact this
  have HY : Hid (askOk x ns = true → signA x ns k e s = ⟨pubA x, ns, k, e, s⟩) := fun h => signA_yes h k e s
  have HNo : Hid (askOk x ns = false → signA x ns k e s = zeroA) := fun h => signA_no h k e s
  have HOk : Hid (askOk x ns = (secB x && namesB ns && decide (0 < ns.length))) := rfl
  have HL5 : Hid (namesB ns = true → ns.length ≤ 5) := fun h => (names_fit h).1
  obtain ⟨i0, hi0, hz0, hz1, hz2⟩ := info_parts infoText
  have HN : Hid (∀ V, Below w.heap.size w V → ∀ j u, (sCells ns)[j]? = some u → V.cell? ((⟨g, o, none⟩ : Addr).add j) = some u) := fun V hV j u hu => by
    rw [Addr.add_lit, hV.cell (p := ⟨g, o + j, none⟩) hgw]
    have hj : j < ns.length := by
      rcases Nat.lt_or_ge j ns.length with h | h
      · exact h
      · rw [List.getElem?_eq_none (by simpa [sCells] using h)] at hu; cases hu
    rw [hc j hj]
    rw [sCells_at hj] at hu
    exact hu
  obtain ⟨N, hN'⟩ : ∃ N, N = namesB ns := ⟨_, rfl⟩
  rw [← hN'] at HNm HOk HL5
  clear hc hv hgw ht hN'
  generalize signA x ns k e s = R at *
  generalize askOk x ns = P at *
  generalize askD (askO x ns) = D at *
  unfold askO Ask.val at HBo
  simp only at HBo
  obtain ⟨nl, hnl⟩ : ∃ nl, nl = ns.length := ⟨_, rfl⟩
  rw [← hnl] at HNm HBo HOk HL5 hl ⊢
  have HNl : Hid (nl = ns.length) := hnl
  clear hnl
  obtain ⟨w1, hw1⟩ : ∃ w1, w1 = w.alloc (.cells #[.int .i64 0, .slice none 0 0, .int .i64 0, .int .i64 0, .int .i64 0] 44 (0, 0)) := ⟨_, rfl⟩
  have r1 : w1.heap[w.heap.size]? = some (.cells [Value.int .i64 0, .slice none 0 0, .int .i64 0, .int .i64 0, .int .i64 0].toArray 44 (0, 0)) := by rw [hw1]; exact heap_alloc_new w _
  have B1 : Hid (Below w.heap.size w w1) := by rw [hw1]; exact (Below.refl _ _).alloc (Nat.le_refl _) _
  have HRw : Hid (∀ V, Below w1.heap.size w1 V → V.heap[w.heap.size]? = some (.cells [Value.int .i64 0, .slice none 0 0, .int .i64 0, .int .i64 0, .int .i64 0].toArray 44 (0, 0))) := fun V hV => (hV.block _ (heap_lt r1)).trans r1
  have HB : Hid (∀ V, Below w1.heap.size w1 V → Below w.heap.size w V) := fun V hV => B1.out.trans (hV.mono B1.out.size)
  have Z1 : Hid (w1.heap.size = w.heap.size + 1) := by show _ = _; rw [hw1]; simp
  have I1 : Hid (Below w1.heap.size w1 w1) := Below.refl _ _
  clear r1 B1
  go_enter Tryz.func25, Tryz.ntmps25
  go_upto_region 1 with fail
  rw [← hw1]
  clear hw1
  by_cases h400 : 400 < nl
  · have HF : Hid (R = zeroA) := HNo.out (by
      have h5 : N = false := by
        cases N with
        | false => rfl
        | true => have := HL5.out rfl; omega
      rw [HOk.out, h5]; simp)
    have hR := HRw.out _ I1.out
    have h1 : ∀ v ∈ [Value.int .i64 0, .slice none 0 0, .int .i64 0, .int .i64 0, .int .i64 0], v.oneCell' = true := by simp [Value.oneCell']
    go_wp2_with (refine wpList_store_row rfl 44 _ _ rfl (w.heap.size) _ [Value.int .i64 0, .slice none 0 0, .int .i64 0, .int .i64 0, .int .i64 0] 44 rfl rfl hR rfl sizeCsr h1 ?_)
    intro w8 hrow ho hs8 hbb
    have HROW : Hid _ := hrow
    have HB8 : Hid (Below w.heap.size w w8) := hbb _ _ (by omega) (HB.out _ I1.out)
    clear ho hs8 hbb hrow hR h1
    go_wp2
    refine bodyPost_ret (v := .agg [Value.int .i64 0, .slice none 0 0, .int .i64 0, .int .i64 0, .int .i64 0].toArray) ?_ rfl ⟨.slice none 0 0, by rw [HF.out]; rfl, by rw [HF.out]; exact ownS_nil _ _, HB8.out⟩
    have hl3 := run_loadVar_mid (P := Tryz.prog) _ (w.heap.size) 0 44 _ _ (rangeRow HROW.out) Tryz.underlying44 rfl sizeCsr
    simp [results, Tryz.results25, asAddr, hl3]
  have h400' : ¬ (400 : Int) < (nl : Int) := by omega
  go_wp2_with fail
  refine (specSecret x _).mono ?_
  rintro r w2 ⟨rfl, h2w⟩
  subst w2
  cases hx : secB x with
  | false =>
    have HF : Hid (R = zeroA) := HNo.out (by rw [HOk.out, hx]; rfl)
    have hR := HRw.out _ I1.out
    have h1 : ∀ v ∈ [Value.int .i64 0, .slice none 0 0, .int .i64 0, .int .i64 0, .int .i64 0], v.oneCell' = true := by simp [Value.oneCell']
    go_wp2_with (refine wpList_store_row rfl 44 _ _ rfl (w.heap.size) _ [Value.int .i64 0, .slice none 0 0, .int .i64 0, .int .i64 0, .int .i64 0] 44 rfl rfl hR rfl sizeCsr h1 ?_)
    intro w8 hrow ho hs8 hbb
    have HROW : Hid _ := hrow
    have HB8 : Hid (Below w.heap.size w w8) := hbb _ _ (by omega) (HB.out _ I1.out)
    clear ho hs8 hbb hrow hR h1
    go_wp2
    refine bodyPost_ret (v := .agg [Value.int .i64 0, .slice none 0 0, .int .i64 0, .int .i64 0, .int .i64 0].toArray) ?_ rfl ⟨.slice none 0 0, by rw [HF.out]; rfl, by rw [HF.out]; exact ownS_nil _ _, HB8.out⟩
    have hl3 := run_loadVar_mid (P := Tryz.prog) _ (w.heap.size) 0 44 _ _ (rangeRow HROW.out) Tryz.underlying44 rfl sizeCsr
    simp [results, Tryz.results25, asAddr, hl3]
  | true =>
  go_wp2_with fail
  refine (HNm.out _ (HB.out _ I1.out)).mono ?_
  rintro r w2 ⟨rfl, b2⟩
  have K2 : Hid (Below w1.heap.size w1 w2) := b2
  clear b2
  cases N with
  | false =>
    have HF : Hid (R = zeroA) := HNo.out (by rw [HOk.out]; simp)
    have hR := HRw.out _ K2.out
    have h1 : ∀ v ∈ [Value.int .i64 0, .slice none 0 0, .int .i64 0, .int .i64 0, .int .i64 0], v.oneCell' = true := by simp [Value.oneCell']
    go_wp2_with (refine wpList_store_row rfl 44 _ _ rfl (w.heap.size) _ [Value.int .i64 0, .slice none 0 0, .int .i64 0, .int .i64 0, .int .i64 0] 44 rfl rfl hR rfl sizeCsr h1 ?_)
    intro w8 hrow ho hs8 hbb
    have HROW : Hid _ := hrow
    have HB8 : Hid (Below w.heap.size w w8) := hbb _ _ (by omega) (HB.out _ K2.out)
    clear ho hs8 hbb hrow hR h1
    go_wp2
    refine bodyPost_ret (v := .agg [Value.int .i64 0, .slice none 0 0, .int .i64 0, .int .i64 0, .int .i64 0].toArray) ?_ rfl ⟨.slice none 0 0, by rw [HF.out]; rfl, by rw [HF.out]; exact ownS_nil _ _, HB8.out⟩
    have hl3 := run_loadVar_mid (P := Tryz.prog) _ (w.heap.size) 0 44 _ _ (rangeRow HROW.out) Tryz.underlying44 rfl sizeCsr
    simp [results, Tryz.results25, asAddr, hl3]
  | true =>
  by_cases h0 : nl = 0
  · have HF : Hid (R = zeroA) := HNo.out (by rw [HOk.out, h0]; simp)
    subst h0
    have hR := HRw.out _ K2.out
    have h1 : ∀ v ∈ [Value.int .i64 0, .slice none 0 0, .int .i64 0, .int .i64 0, .int .i64 0], v.oneCell' = true := by simp [Value.oneCell']
    go_wp2_with (refine wpList_store_row rfl 44 _ _ rfl (w.heap.size) _ [Value.int .i64 0, .slice none 0 0, .int .i64 0, .int .i64 0, .int .i64 0] 44 rfl rfl hR rfl sizeCsr h1 ?_)
    intro w8 hrow ho hs8 hbb
    have HROW : Hid _ := hrow
    have HB8 : Hid (Below w.heap.size w w8) := hbb _ _ (by omega) (HB.out _ K2.out)
    clear ho hs8 hbb hrow hR h1
    go_wp2
    refine bodyPost_ret (v := .agg [Value.int .i64 0, .slice none 0 0, .int .i64 0, .int .i64 0, .int .i64 0].toArray) ?_ rfl ⟨.slice none 0 0, by rw [HF.out]; rfl, by rw [HF.out]; exact ownS_nil _ _, HB8.out⟩
    have hl3 := run_loadVar_mid (P := Tryz.prog) _ (w.heap.size) 0 44 _ _ (rangeRow HROW.out) Tryz.underlying44 rfl sizeCsr
    simp [results, Tryz.results25, asAddr, hl3]
  have hP : P = true := by rw [HOk.out, hx, decide_eq_true (show 0 < nl by omega)]; rfl
  have HF : Hid (R = ⟨pubA x, ns, k, e, s⟩) := HY.out hP
  have HBo' : Hid (∀ V a' cap', IsStrs V a' ns → Calls Tryz.prog 84 #[.agg #[.int .i64 (pubA x), .slice a' nl cap', .int .i64 0, .int .i64 0, .int .i64 0]] V fun e w' => e = .returned (.string D) ∧ Below V.heap.size V w') := HBo.out hP
  have HSg' : Hid (∀ V, Calls Tryz.prog 56 #[.int .i64 x, .string D] V fun r w' => r = .returned (.agg #[.int .i64 k, .int .i64 e, .int .i64 s]) ∧ Below V.heap.size V w') := HSg.out hP
  clear HBo HSg HY HNo HNm HOk HL5 hP
  generalize hpk : pubA x = pk at *
  go_wp2_with fail
  refine (specPublic x _).mono ?_
  rintro r w2' ⟨rfl, h2w⟩
  subst w2'
  rw [hpk]
  have KW : Hid (Below w.heap.size w w2) := HB.out _ K2.out
  have z2 : w.heap.size + 1 ≤ w2.heap.size := by have := K2.out.size; have := Z1.out; omega
  have hown : (w2.alloc (.cells #[] 9 (0, 0))).ownsRow (w.heap.size + 1) 9 1 (.slice (some ⟨w2.heap.size, 0, none⟩) 0 0) 0 [] := by
    have := World.ownsRow_lit (base := w.heap.size + 1) (e := 9) (size := 1) w2 #[] 0 (by omega) (by decide) rfl
    simpa using this
  have hnews := HN.out _ (KW.out.alloc KW.out.size (.cells #[] 9 (0, 0)))
  have Z2 : Hid (w.heap.size + 1 ≤ w2.heap.size) := z2
  clear z2
  go_wp2_with (at_builtin; refine wpList_append_own _ rfl _ _ 23 rfl (w.heap.size + 1) 9 i0 (.string ⟨#[]⟩) 1 16 Tryz.underlying23 hi0 hz0 hz1 hz2 rfl (by decide) _ _ _ rfl hown ⟨g, o, none⟩ nl cap (sCells ns) rfl ?c0 hnews ?c2 ?c3 ?c4 ?c5 ?_)
  case c0 => rw [HNl.out]; simp [sCells]
  case c2 => exact oneCell_texts ns
  case c3 => unfold maxLen; omega
  case c4 => omega
  case c5 => have := Z2.out; simp; omega
  intro v' w3 hown' hgrow hnil
  have hkeep : ∀ b, b < w.heap.size + 1 → w3.heap[b]? = w2.heap[b]? := fun b hb => by
    rw [hgrow.block b (by have := Z2.out; simp; omega) (fun e => by have h := (hown.lt b e.symm).1; omega)]
    exact Below.heap_alloc _ _ _ (by have := Z2.out; omega)
  have r1 : w3.heap[w.heap.size]? = some (.cells [Value.int .i64 0, .slice none 0 0, .int .i64 0, .int .i64 0, .int .i64 0].toArray 44 (0, 0)) := by rw [hkeep _ (by omega)]; exact HRw.out _ K2.out
  have K3 : Hid (Below w.heap.size w w3) := (KW.out.alloc KW.out.size _).grown hgrow (by have := Z2.out; simp; omega) (fun k hk => by have := (hown.lt k hk).1; omega)
  have O3 : Hid (OwnS w3 (w.heap.size + 1) v' ns) := by
    show World.ownsRow _ _ _ _ _ _ _
    rw [← HNl.out]
    simpa using hown'
  have z3 : w.heap.size + 1 ≤ w3.heap.size := by have h := hgrow.size; simp at h; have := Z2.out; omega
  clear hown' hgrow hnil hkeep hown hnews K2 Z2 HN KW
  obtain ⟨va, vc, hv, _⟩ := OwnS.form O3.out
  rw [← HNl.out] at hv
  subst hv
  obtain ⟨w4, hw4⟩ : ∃ y, y = w3.alloc (.cells #[.int .i64 pk, .slice va nl vc, .int .i64 0, .int .i64 0, .int .i64 0] 44 (0, 0)) := ⟨_, rfl⟩
  have b4 : Below w3.heap.size w3 w4 := by rw [hw4]; exact (Below.refl _ _).alloc (Nat.le_refl _) _
  have t0 : w4.heap[w3.heap.size]? = some (.cells [Value.int .i64 pk, .slice va nl vc, .int .i64 0, .int .i64 0, .int .i64 0].toArray 44 (0, 0)) := by rw [hw4]; exact heap_alloc_new w3 _
  have t1 : w4.heap[w.heap.size]? = some (.cells [Value.int .i64 0, .slice none 0 0, .int .i64 0, .int .i64 0, .int .i64 0].toArray 44 (0, 0)) := (b4.block _ (heap_lt r1)).trans r1
  have K4 : Hid (Below w.heap.size w w4) := K3.out.trans (b4.mono K3.out.size)
  have O4 : Hid (OwnS w4 (w.heap.size + 1) (.slice va nl vc) ns) := O3.out.keep b4
  have HLt : Hid (∀ b, (Value.slice va nl vc).ownBlock = some b → b < w3.heap.size) := fun b hb => (O3.out.ge hb).2
  have Z3' : Hid (w.heap.size + 1 ≤ w3.heap.size) := z3
  have S0 : Hid _ := t0
  have S1 : Hid _ := t1
  clear b4 t0 t1 r1 K3 O3 z3
  go_upto_region 4 with fail
  rw [← hw4]
  clear hw4
  have c0 := rowFacts S0.out 0 _ rfl
  have c1 := rowFacts S0.out 1 _ rfl
  have c2 := rowFacts S0.out 2 _ rfl
  have c3 := rowFacts S0.out 3 _ rfl
  have c4 := rowFacts S0.out 4 _ rfl
  go_wp2_with fail
  refine (HBo'.out _ _ _ (OwnS.strs O4.out)).mono ?_
  rintro r w5 ⟨rfl, b5⟩
  have K5 : Hid (Below w.heap.size w w5) := K4.out.trans (b5.mono K4.out.size)
  have T0 : Hid (w5.heap[w3.heap.size]? = some (.cells [Value.int .i64 pk, .slice va nl vc, .int .i64 0, .int .i64 0, .int .i64 0].toArray 44 (0, 0))) := (b5.block _ (heap_lt S0.out)).trans S0.out
  have T1 : Hid (w5.heap[w.heap.size]? = some (.cells [Value.int .i64 0, .slice none 0 0, .int .i64 0, .int .i64 0, .int .i64 0].toArray 44 (0, 0))) := (b5.block _ (heap_lt S1.out)).trans S1.out
  have O5 : Hid (OwnS w5 (w.heap.size + 1) (.slice va nl vc) ns) := O4.out.keep b5
  clear b5 c0 c1 c2 c3 c4 S0 S1 K4 O4 HBo'
  go_wp2_with fail
  refine (HSg'.out _).mono ?_
  rintro r w6 ⟨rfl, b6⟩
  have K6 : Hid (Below w.heap.size w w6) := K5.out.trans (b6.mono K5.out.size)
  have r0 : w6.heap[w3.heap.size]? = some (.cells [Value.int .i64 pk, .slice va nl vc, .int .i64 0, .int .i64 0, .int .i64 0].toArray 44 (0, 0)) := (b6.block _ (heap_lt T0.out)).trans T0.out
  have r1 : w6.heap[w.heap.size]? = some (.cells [Value.int .i64 0, .slice none 0 0, .int .i64 0, .int .i64 0, .int .i64 0].toArray 44 (0, 0)) := (b6.block _ (heap_lt T1.out)).trans T1.out
  have O6 : Hid (OwnS w6 (w.heap.size + 1) (.slice va nl vc) ns) := O5.out.keep b6
  clear b6 T0 T1 K5 O5 HSg'
  have n3 := Z3'.out
  obtain ⟨w7, hw7⟩ : ∃ y, y = ((w6.setCell ⟨w3.heap.size, 2, none⟩ (.int .i64 k)).setCell ⟨w3.heap.size, 3, none⟩ (.int .i64 e)).setCell ⟨w3.heap.size, 4, none⟩ (.int .i64 s) := ⟨_, rfl⟩
  have t0 : w7.heap[w3.heap.size]? = some (.cells [Value.int .i64 pk, .slice va nl vc, .int .i64 k, .int .i64 e, .int .i64 s].toArray 44 (0, 0)) := by rw [hw7]; exact rowSet (i := 4) _ (rowSet (i := 3) _ (rowSet (i := 2) _ r0))
  have t1 : w7.heap[w.heap.size]? = some (.cells [Value.int .i64 0, .slice none 0 0, .int .i64 0, .int .i64 0, .int .i64 0].toArray 44 (0, 0)) := by rw [hw7, heap_setCell_other _ _ _ _ (by show w.heap.size ≠ w3.heap.size; omega), heap_setCell_other _ _ _ _ (by show w.heap.size ≠ w3.heap.size; omega), heap_setCell_other _ _ _ _ (by show w.heap.size ≠ w3.heap.size; omega)]; exact r1
  have K7 : Hid (Below w.heap.size w w7) := by rw [hw7]; exact ((K6.out.setCell (by show _ ≤ w3.heap.size; omega) _).setCell (by show _ ≤ w3.heap.size; omega) _).setCell (by show _ ≤ w3.heap.size; omega) _
  have O7 : Hid (OwnS w7 (w.heap.size + 1) (.slice va nl vc) ns) := O6.out.off (q := w3.heap.size) (fun hb => by have := HLt.out _ hb; omega) fun b hb => by
    rw [hw7, heap_setCell_other _ _ _ _ hb, heap_setCell_other _ _ _ _ hb, heap_setCell_other _ _ _ _ hb]
  have p8 := rowFacts r0 2 _ rfl
  have p9 := rowFacts r0 3 _ rfl
  have p10 := rowFacts r0 4 _ rfl
  have u8 := rowFree r0 2
  have u9 := rowFree r0 3
  have u10 := rowFree r0 4
  have T0 : Hid _ := t0
  have T1 : Hid _ := t1
  clear r0 r1 t0 t1 K6 O6 n3
  go_upto_region 5 with fail
  rw [← hw7]
  clear hw7 p8 p9 p10 u8 u9 u10
  obtain ⟨C, hC⟩ : ∃ C, C = [Value.int .i64 pk, .slice va nl vc, .int .i64 k, .int .i64 e, .int .i64 s] := ⟨_, rfl⟩
  have hr := rangeRow T0.out
  rw [← hC] at hr
  have hR := T1.out
  have h1 : ∀ v ∈ C, v.oneCell' = true := by rw [hC]; simp [Value.oneCell']
  have hi : (Tryz.prog.info? 44).map (·.size) = some C.length := by rw [hC]; exact sizeCsr
  have HLen : Hid ([Value.int .i64 0, .slice none 0 0, .int .i64 0, .int .i64 0, .int .i64 0].length = C.length) := by rw [hC]; rfl
  have HCC : Hid (C = [Value.int .i64 pk, .slice va nl vc, .int .i64 k, .int .i64 e, .int .i64 s]) := hC
  clear hC
  go_wp2_with (first | (refine wpList_load_mid rfl 44 _ rfl (w3.heap.size) 0 rfl C _ hr Tryz.underlying44 rfl hi ?_) | (refine wpList_store_row rfl 44 _ _ rfl (w.heap.size) _ C 44 rfl rfl hR HLen.out hi h1 ?_))
  intro w8 hrow ho hs8 hbb
  have HROW : Hid _ := hrow
  have HB8 : Hid (Below w.heap.size w w8) := hbb _ _ (by omega) K7.out
  have O8 : Hid (OwnS w8 (w.heap.size + 1) (.slice va nl vc) ns) := O7.out.same fun b h1 h2 => ho b (by omega)
  clear ho hs8 hbb hrow hr hR h1
  go_wp2
  refine bodyPost_ret (v := .agg C.toArray) ?_ rfl ⟨.slice va nl vc, by rw [HF.out, HCC.out]; rfl, by rw [HF.out]; exact O8.out.mono (by omega), HB8.out⟩
  have hl3 := run_loadVar_mid (P := Tryz.prog) _ (w.heap.size) 0 44 _ _ (rangeRow HROW.out) Tryz.underlying44 rfl hi
  simp [results, Tryz.results25, asAddr, hl3]
end Go.Proofs.YtkhdjmjbdpmdnaaGreatDoor
namespace Go.Proofs.YtkhdjmjbdpmdnaaGreatDoor
open Go.RowKit

theorem signV_is (x : Int) (t : ByteArray) : ∃ k e s : Int, signV x t = .agg #[.int .i64 k, .int .i64 e, .int .i64 s] := by
  by_cases h : t.size ≤ 20000 ∧ secB x = true
  · obtain ⟨n, rfl, _, _⟩ := secB_nat h.2
    exact ⟨_, _, _, signV_nat h.1 h.2⟩
  · exact ⟨0, 0, 0, signV_no h⟩
theorem zero_len : zeroP.names.length = 0 := rfl
theorem signP_len (x : Int) (c : Paper) (k e s : Int) : (signP x c k e s).names.length ≤ c.names.length := by
  unfold signP
  split
  · exact Nat.le_refl _
  · exact Nat.zero_le _
end Go.Proofs.YtkhdjmjbdpmdnaaGreatDoor
