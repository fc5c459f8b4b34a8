/- laws.szCert, walked. -/
import Derived.Test.YtkopinnhicoggaaCertP
import Derived.Test.YtkopinnhicoggaaStrsZ
import Derived.Deep.Cut
namespace Go.Proofs.Ytkopinnhicoggaa
open Go.RowKit

/-- How large a paper is. -/
def Paper.Small (c : Paper) : Prop := c.issuer.size ≤ 1048576 ∧ c.subject.size ≤ 1048576 ∧ c.names.length ≤ 1048576 ∧ totS c.names c.names.length ≤ 1048576
theorem szR_some {ss : List ByteArray} {left : Int} (h : 0 ≤ szR ss left) : (ss.length : Int) + totS ss ss.length ≤ left := by
  unfold szR at h
  split at h
  · assumption
  · omega
theorem szR_neg {ss : List ByteArray} {left : Int} : -1 ≤ szR ss left := by
  unfold szR
  split <;> omega
theorem szR_le {ss : List ByteArray} {left : Int} (h : -1 ≤ left) : szR ss left ≤ left := by
  unfold szR
  split <;> omega
set_option maxHeartbeats 2000000 in
set_option maxRecDepth 100000 in
theorem szCert (c : Paper) (a : Option Addr) (cap : Nat) (w : World) (hi : c.issuer.size ≤ maxLen) (hs : c.subject.size ≤ maxLen) (hl : c.names.length ≤ maxLen) (ht : ∀ s ∈ c.names, s.size ≤ maxLen) (ha : IsStrs w a c.names) :
    Calls Try.prog 6 #[c.val (.slice a c.names.length cap), .int .i64 1048576] w fun e w' => ∃ x : Int, e = .returned (.int .i64 x) ∧ (x < 0 ∨ c.Small) ∧ -1 ≤ x ∧ x ≤ 1048576 ∧ Below w.heap.size w w' := by
  have HSm : Hid (c.issuer.size ≤ 1048576 → c.subject.size ≤ 1048576 → c.names.length + totS c.names c.names.length ≤ 1048576 → c.Small) := fun h1 h2 h3 => ⟨h1, h2, by omega, by omega⟩
  obtain ⟨ser, iss, sub, fr, till, key, names, ca, sk, se, ss⟩ := c
  simp only at hi hs hl ht ha HSm
  generalize Paper.Small ⟨ser, iss, sub, fr, till, key, names, ca, sk, se, ss⟩ = Sm at *
  unfold Paper.val
  simp only
  have HZ : Hid (∀ V (left : Int), IsStrs V a names → 0 ≤ left → left ≤ 1048576 → Calls Try.prog 15 #[.slice a names.length cap, .int .i64 left] V fun e w' => e = .returned (.int .i64 (szR names left)) ∧ Below V.heap.size V w') := fun V left hV h0 h1 => szStrs a names cap left V hl ht h0 h1 hV
  obtain ⟨nl, hnl⟩ : ∃ nl, nl = names.length := ⟨_, rfl⟩
  rw [← hnl] at HZ HSm ⊢
  have HNl : Hid (nl = names.length) := hnl
  clear hnl
  obtain ⟨w1, hw1⟩ : ∃ w1, w1 = w.alloc (.cells #[.int .i64 ser, .string iss, .string sub, .int .i64 fr, .int .i64 till, .int .i64 key, .slice a nl cap, .bool ca, .int .i64 sk, .int .i64 se, .int .i64 ss] 26 (0, 0)) := ⟨_, rfl⟩
  have hrow : w1.heap[w.heap.size]? = some (.cells [Value.int .i64 ser, .string iss, .string sub, .int .i64 fr, .int .i64 till, .int .i64 key, .slice a nl cap, .bool ca, .int .i64 sk, .int .i64 se, .int .i64 ss].toArray 26 (0, 0)) := by rw [hw1]; exact heap_alloc_new w _
  have B1 : Hid (Below w.heap.size w w1) := by rw [hw1]; exact (Below.refl _ _).alloc (Nat.le_refl _) _
  have A1 : Hid (IsStrs w1 a names) := ha.keep B1.out
  have c1 := rowFacts hrow 1 _ rfl
  have c2 := rowFacts hrow 2 _ rfl
  have c6 := rowFacts hrow 6 _ rfl
  unfold maxLen at hi hs
  clear hrow ha hl ht
  go_enter Try.func6, Try.ntmps6
  go_upto_region 1 with fail
  rw [← hw1]
  clear hw1
  by_cases h1 : 1048576 < iss.size
  · go_wp2
    go_ret
    exact ⟨_, rfl, .inl (by omega), by omega, by omega, B1.out⟩
  by_cases h2 : 1048576 - iss.size < sub.size
  · go_wp2
    go_ret
    exact ⟨_, rfl, .inl (by omega), by omega, by omega, B1.out⟩
  obtain ⟨l2, hl2⟩ : ∃ l2 : Int, l2 = 1048576 - (iss.size : Int) - (sub.size : Int) := ⟨_, rfl⟩
  have hl20 : 0 ≤ l2 := by omega
  have hl21 : l2 ≤ 1048576 := by omega
  have HL2 : Hid (l2 = 1048576 - (iss.size : Int) - (sub.size : Int)) := hl2
  go_upto_region 7 with fail
  rw [← hl2]
  clear hl2
  go_wp2_with fail
  refine (HZ.out _ l2 A1.out hl20 hl21).mono ?_
  rintro e w2 ⟨rfl, b2⟩
  have B2 : Hid (Below w.heap.size w w2) := B1.out.trans (b2.mono B1.out.size)
  have g1 := szR_neg (ss := names) (left := l2)
  have g2 := szR_le (ss := names) (left := l2) (by omega)
  have HG : Hid (0 ≤ szR names l2 → Sm) := fun h => by
    have := szR_some h
    have := HL2.out
    have := HNl.out
    exact HSm.out (by omega) (by omega) (by rw [HNl.out]; omega)
  generalize szR names l2 = q at *
  clear b2 HZ HSm
  by_cases hq : q < 0
  · go_wp2
    go_ret
    exact ⟨_, rfl, .inl (by omega), by omega, by omega, B2.out⟩
  · have HSm : Hid Sm := HG.out (by omega)
    go_wp2
    go_ret
    exact ⟨_, rfl, .inr HSm.out, by omega, by omega, B2.out⟩
end Go.Proofs.Ytkopinnhicoggaa
