/- spec.l06Right, spec.CertRight, walked. -/
import Derived.Test.YtkopinnhicoggaaCertNS
import Derived.Test.YtkopinnhicoggaaGrpG
import Derived.Test.YtkopinnhicoggaaRemS
import Derived.Deep.Cut
namespace Go.Proofs.Ytkopinnhicoggaa
open Go.RowKit

set_option maxHeartbeats 2000000 in
set_option maxRecDepth 100000 in
theorem specPaper (c : Paper) (a : Option Addr) (cap : Nat) (w : World) (hi : c.issuer.size ≤ maxLen) (hs : c.subject.size ≤ maxLen) (hl : c.names.length ≤ 1048576) (ht : totS c.names c.names.length ≤ 1048576) (ha : IsStrs w a c.names) :
    Calls Try.prog 16 #[c.val (.slice a c.names.length cap)] w fun e w' => e = .returned (.bool (paperB c)) ∧ Below w.heap.size w w' := by
  obtain ⟨ser, iss, sub, fr, till, key, names, ca, sk, se, ss⟩ := c
  simp only at hi hs hl ht ha
  unfold Paper.val
  simp only
  obtain ⟨R, hR⟩ : ∃ R, R = paperB ⟨ser, iss, sub, fr, till, key, names, ca, sk, se, ss⟩ := ⟨_, rfl⟩
  rw [← hR]
  have HR : Hid (R = (decide (1 ≤ ser) && decide (ser ≤ 1000000000) && nameB iss && nameB sub && timeB fr && timeB till && decide (fr ≤ till) && rightG key && namesB names)) := hR
  clear hR
  obtain ⟨w1, hw1⟩ : ∃ w1, w1 = w.alloc (.cells #[.int .i64 ser, .string iss, .string sub, .int .i64 fr, .int .i64 till, .int .i64 key, .slice a names.length cap, .bool ca, .int .i64 sk, .int .i64 se, .int .i64 ss] 31 (0, 0)) := ⟨_, rfl⟩
  have hrow : w1.heap[w.heap.size]? = some (.cells [Value.int .i64 ser, .string iss, .string sub, .int .i64 fr, .int .i64 till, .int .i64 key, .slice a names.length cap, .bool ca, .int .i64 sk, .int .i64 se, .int .i64 ss].toArray 31 (0, 0)) := by rw [hw1]; exact heap_alloc_new w _
  have B1 : Hid (Below w.heap.size w w1) := by rw [hw1]; exact (Below.refl _ _).alloc (Nat.le_refl _) _
  have A1 : Hid (IsStrs w1 a names) := ha.keep B1.out
  have c0 := rowFacts hrow 0 _ rfl
  have c1 := rowFacts hrow 1 _ rfl
  have c2 := rowFacts hrow 2 _ rfl
  have c3 := rowFacts hrow 3 _ rfl
  have c4 := rowFacts hrow 4 _ rfl
  have c5 := rowFacts hrow 5 _ rfl
  have c6 := rowFacts hrow 6 _ rfl
  have HNm : Hid (∀ V, IsStrs V a names → Calls Try.prog 39 #[.slice a names.length cap] V fun e w' => e = .returned (.bool (namesB names)) ∧ Below V.heap.size V w') := fun V hV => specNames a names cap V hl ht hV
  have HRow : Hid (w1.heap[w.heap.size]? = some (.cells [Value.int .i64 ser, .string iss, .string sub, .int .i64 fr, .int .i64 till, .int .i64 key, .slice a names.length cap, .bool ca, .int .i64 sk, .int .i64 se, .int .i64 ss].toArray 31 (0, 0))) := hrow
  generalize names.length = nl at *
  clear hrow ha hl ht
  go_enter Try.func16, Try.ntmps16
  go_upto_region 1 with fail
  rw [← hw1]
  clear hw1
  go_wp2_with fail
  refine (specIs ser 1 1000000000 _).mono ?_
  rintro e w2 ⟨rfl, rfl⟩
  cases h1 : (decide (1 ≤ ser) && decide (ser ≤ 1000000000)) with
  | false =>
    have HF : Hid (R = false) := by show _ = _; rw [HR.out]; simp [h1]
    go_wp2
    go_ret
    exact ⟨by rw [HF.out]; rfl, B1.out⟩
  | true =>
  rw [h1] at HR
  go_wp2_with fail
  refine (specNameB iss _ hi).mono ?_
  rintro e w2 ⟨rfl, rfl⟩
  cases h3 : nameB iss with
  | false =>
    have HF : Hid (R = false) := by show _ = _; rw [HR.out]; simp [h3]
    go_wp2
    go_ret
    exact ⟨by rw [HF.out]; rfl, B1.out⟩
  | true =>
  rw [h3] at HR
  go_wp2_with fail
  refine (specNameB sub _ hs).mono ?_
  rintro e w2 ⟨rfl, rfl⟩
  cases h4 : nameB sub with
  | false =>
    have HF : Hid (R = false) := by show _ = _; rw [HR.out]; simp [h4]
    go_wp2
    go_ret
    exact ⟨by rw [HF.out]; rfl, B1.out⟩
  | true =>
  rw [h4] at HR
  go_wp2_with fail
  refine (specTime fr _).mono ?_
  rintro e w2 ⟨rfl, rfl⟩
  cases h5 : timeB fr with
  | false =>
    have HF : Hid (R = false) := by show _ = _; rw [HR.out]; simp [h5]
    go_wp2
    go_ret
    exact ⟨by rw [HF.out]; rfl, B1.out⟩
  | true =>
  rw [h5] at HR
  go_wp2_with fail
  refine (specTime till _).mono ?_
  rintro e w2 ⟨rfl, rfl⟩
  cases h6 : timeB till with
  | false =>
    have HF : Hid (R = false) := by show _ = _; rw [HR.out]; simp [h6]
    go_wp2
    go_ret
    exact ⟨by rw [HF.out]; rfl, B1.out⟩
  | true =>
  rw [h6] at HR
  by_cases h7 : fr ≤ till
  rotate_left
  · have h7' : till < fr := by omega
    have HF : Hid (R = false) := by show _ = _; rw [HR.out]; simp [h7]
    go_wp2
    go_ret
    exact ⟨by rw [HF.out]; rfl, B1.out⟩
  rw [decide_eq_true h7] at HR
  go_wp2_with fail
  refine (specGroupRight key _).mono ?_
  rintro e w2 ⟨rfl, rfl⟩
  cases h8 : rightG key with
  | false =>
    have HF : Hid (R = false) := by show _ = _; rw [HR.out]; simp [h8]
    go_wp2
    go_ret
    exact ⟨by rw [HF.out]; rfl, B1.out⟩
  | true =>
  rw [h8] at HR
  have HF : Hid (R = namesB names) := by show _ = _; rw [HR.out]; simp
  go_wp2_with fail
  refine (HNm.out _ A1.out).mono ?_
  rintro e w4 ⟨rfl, b4⟩
  rw [← HF.out]
  have B4 : Hid (Below w.heap.size w w4) := B1.out.trans (b4.mono B1.out.size)
  clear b4
  go_wp2
  go_ret
  exact ⟨rfl, B4.out⟩
set_option maxHeartbeats 2000000 in
set_option maxRecDepth 100000 in
theorem specCert (c : Paper) (a : Option Addr) (cap : Nat) (w : World) (hi : c.issuer.size ≤ maxLen) (hs : c.subject.size ≤ maxLen) (hl : c.names.length ≤ 1048576) (ht : totS c.names c.names.length ≤ 1048576) (ha : IsStrs w a c.names) :
    Calls Try.prog 7 #[c.val (.slice a c.names.length cap)] w fun e w' => e = .returned (.bool (certB c)) ∧ Below w.heap.size w w' := by
  have HP : Hid (∀ V, IsStrs V a c.names → Calls Try.prog 16 #[c.val (.slice a c.names.length cap)] V fun e w' => e = .returned (.bool (paperB c)) ∧ Below V.heap.size V w') := fun V hV => specPaper c a cap V hi hs hl ht hV
  obtain ⟨R, hR⟩ : ∃ R, R = certB c := ⟨_, rfl⟩
  rw [← hR]
  obtain ⟨P, hP⟩ : ∃ P, P = paperB c := ⟨_, rfl⟩
  rw [← hP] at HP
  have HR : Hid (R = (P && sigRB c.sk c.se c.ss)) := by show _ = _; rw [hR, hP]; rfl
  clear hR hP
  obtain ⟨ser, iss, sub, fr, till, key, names, ca, sk, se, ss⟩ := c
  simp only at hi hs hl ht ha HP HR
  unfold Paper.val at HP ⊢
  simp only at HP ⊢
  generalize names.length = nl at *
  obtain ⟨w1, hw1⟩ : ∃ w1, w1 = w.alloc (.cells #[.int .i64 ser, .string iss, .string sub, .int .i64 fr, .int .i64 till, .int .i64 key, .slice a nl cap, .bool ca, .int .i64 sk, .int .i64 se, .int .i64 ss] 31 (0, 0)) := ⟨_, rfl⟩
  have hrow : w1.heap[w.heap.size]? = some (.cells [Value.int .i64 ser, .string iss, .string sub, .int .i64 fr, .int .i64 till, .int .i64 key, .slice a nl cap, .bool ca, .int .i64 sk, .int .i64 se, .int .i64 ss].toArray 31 (0, 0)) := by rw [hw1]; exact heap_alloc_new w _
  have B1 : Hid (Below w.heap.size w w1) := by rw [hw1]; exact (Below.refl _ _).alloc (Nat.le_refl _) _
  have A1 : Hid (IsStrs w1 a names) := ha.keep B1.out
  have c0 := rowFacts hrow 0 _ rfl
  have c1 := rowFacts hrow 1 _ rfl
  have c2 := rowFacts hrow 2 _ rfl
  have c3 := rowFacts hrow 3 _ rfl
  have c4 := rowFacts hrow 4 _ rfl
  have c5 := rowFacts hrow 5 _ rfl
  have c6 := rowFacts hrow 6 _ rfl
  have c7 := rowFacts hrow 7 _ rfl
  have c8 := rowFacts hrow 8 _ rfl
  have c9 := rowFacts hrow 9 _ rfl
  have c10 := rowFacts hrow 10 _ rfl
  have HRow : Hid (w1.heap[w.heap.size]? = some (.cells [Value.int .i64 ser, .string iss, .string sub, .int .i64 fr, .int .i64 till, .int .i64 key, .slice a nl cap, .bool ca, .int .i64 sk, .int .i64 se, .int .i64 ss].toArray 31 (0, 0))) := hrow
  clear hrow ha hl ht hi hs
  go_enter Try.func7, Try.ntmps7
  go_upto_region 1 with fail
  rw [← hw1]
  clear hw1
  go_wp2_with fail
  refine (HP.out _ A1.out).mono ?_
  rintro e w2 ⟨rfl, b2⟩
  have B2 : Hid (Below w.heap.size w w2) := B1.out.trans (b2.mono B1.out.size)
  have d8 := (b2.cell (p := ⟨w.heap.size, 8, none⟩) (heap_lt HRow.out)).trans c8
  have d9 := (b2.cell (p := ⟨w.heap.size, 9, none⟩) (heap_lt HRow.out)).trans c9
  have d10 := (b2.cell (p := ⟨w.heap.size, 10, none⟩) (heap_lt HRow.out)).trans c10
  clear b2 c0 c1 c2 c3 c4 c5 c6 c7 c8 c9 c10 HP A1 HRow
  cases P with
  | false =>
    have HF : Hid (R = false) := HR.out
    go_wp2
    go_ret
    exact ⟨by rw [HF.out]; rfl, B2.out⟩
  | true =>
  have HF : Hid (R = sigRB sk se ss) := HR.out
  go_wp2_with fail
  refine (specSigRight sk se ss _).mono ?_
  rintro e w4 ⟨rfl, b4⟩
  rw [← HF.out]
  have B4 : Hid (Below w.heap.size w w4) := B2.out.trans (b4.mono B2.out.size)
  clear b4
  go_wp2
  go_ret
  exact ⟨rfl, B4.out⟩
end Go.Proofs.Ytkopinnhicoggaa
