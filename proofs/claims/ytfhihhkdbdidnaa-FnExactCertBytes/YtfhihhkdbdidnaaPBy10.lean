/- impl.CertBytes, walked. laws.szStringS, walked. What laws.szStringS leaves, in words. laws.szCert, walked. laws.toStringS, walked. A Sig in memory. laws.toSig, walked. What a function returns in a variable of its own: the variable over a call. No program is named. A whole variable of many cells, stored. No program is named. -/
import Derived.Test.YtfhihhkdbdidnaaPBy07
import Derived.Test.YtfhihhkdbdidnaaPBy08
import Derived.Test.YtfhihhkdbdidnaaPBy04
import Derived.Test.YtfhihhkdbdidnaaPBy09
import Derived.Test.YtfhihhkdbdidnaaPBy01
import Derived.Test.YtfhihhkdbdidnaaPBy02
import Derived.Deep.Cut
import Derived.Handy
namespace Go.Proofs.Ytfhihhkdbdidnaa
open Go.RowKit

set_option maxHeartbeats 8000000 in
set_option maxRecDepth 100000 in
theorem implCertBytes (c : Paper) (a : Option Addr) (cap : Nat) (w : World) (hi : c.issuer.size ≤ maxLen) (hs : c.subject.size ≤ maxLen) (hl : c.names.length ≤ 1048576) (ht : totS c.names c.names.length ≤ 1048576) (ha : IsStrs w a c.names) :
    Calls Try.prog 14 #[c.val (.slice a c.names.length cap)] w fun e w' => e = .returned (.string (certBytesD c)) ∧ Below w.heap.size w w' := by
  have HP : Hid (∀ V, IsStrs V a c.names → Calls Try.prog 9 #[c.val (.slice a c.names.length cap)] V fun e w' => e = .returned (.bool (certB c)) ∧ Below V.heap.size V w') := fun V hV => implCert c a cap V hi hs hl ht hV
  have HN : Hid (certB c = false → certBytesD c = ⟨#[]⟩) := fun h => by show (if _ then _ else _) = _; rw [if_neg (by rw [h]; simp)]
  have HY : Hid (certB c = true → certBytesD c = seqD (bodyD c ++ (kindD ++ thingD 3 (sigT c.sk c.se c.ss)))) := fun h => if_pos h
  have HQ : Hid (certB c = true → ∀ V, IsStrs V a c.names → Calls Try.prog 12 #[c.val (.slice a c.names.length cap)] V fun e w' => e = .returned (.string (bodyD c)) ∧ Below V.heap.size V w') := fun h V hV => by
    have k := implBody c a cap V hi hs hl ht hV
    unfold certBodyD at k
    rw [if_pos (certB_paper h)] at k
    exact k
  have HZ : Hid (certB c = true → (bodyD c).size ≤ 900) := fun h => bodyD_le (paper_fits (certB_paper h))
  have HSg : Hid (certB c = true → (1 < c.sk ∧ c.sk < 2147483579) ∧ (0 ≤ c.se ∧ c.se < 1073741789) ∧ 0 ≤ c.ss ∧ c.ss < 1073741789) := certB_sig
  have zS := sigT_le c.sk c.se c.ss
  have zS' := thingD_le 3 (sigT c.sk c.se c.ss)
  have zK := kindD_le
  generalize certBytesD c = R at *
  generalize certB c = P at *
  generalize bodyD c = D at *
  clear hi hs hl ht
  obtain ⟨ser, iss, sub, fr, till, key, names, ca, sk, se, ss⟩ := c
  unfold Paper.val at *
  simp only at HP HQ HSg HY zS zS' ha ⊢
  generalize names.length = nl at *
  obtain ⟨w1, hw1⟩ : ∃ w1, w1 = w.alloc (.cells #[.int .i64 ser, .string iss, .string sub, .int .i64 fr, .int .i64 till, .int .i64 key, .slice a nl cap, .bool ca, .int .i64 sk, .int .i64 se, .int .i64 ss] 31 (0, 0)) := ⟨_, rfl⟩
  have r0 : w1.heap[w.heap.size]? = some (.cells [Value.int .i64 ser, .string iss, .string sub, .int .i64 fr, .int .i64 till, .int .i64 key, .slice a nl cap, .bool ca, .int .i64 sk, .int .i64 se, .int .i64 ss].toArray 31 (0, 0)) := by rw [hw1]; exact heap_alloc_new w _
  have B1 : Hid (Below w.heap.size w w1) := by rw [hw1]; exact (Below.refl _ _).alloc (Nat.le_refl _) _
  have z1 : w.heap.size < w1.heap.size := by rw [hw1]; simp
  have HK : Hid (∀ V, Below w1.heap.size w1 V → V.cell? ⟨w.heap.size, 0, none⟩ = some (.int .i64 ser) ∧ V.cell? ⟨w.heap.size, 1, none⟩ = some (.string iss) ∧ V.cell? ⟨w.heap.size, 2, none⟩ = some (.string sub) ∧ V.cell? ⟨w.heap.size, 3, none⟩ = some (.int .i64 fr) ∧ V.cell? ⟨w.heap.size, 4, none⟩ = some (.int .i64 till) ∧ V.cell? ⟨w.heap.size, 5, none⟩ = some (.int .i64 key) ∧ V.cell? ⟨w.heap.size, 6, none⟩ = some (.slice a nl cap) ∧ V.cell? ⟨w.heap.size, 7, none⟩ = some (.bool ca) ∧ V.cell? ⟨w.heap.size, 8, none⟩ = some (.int .i64 sk) ∧ V.cell? ⟨w.heap.size, 9, none⟩ = some (.int .i64 se) ∧ V.cell? ⟨w.heap.size, 10, none⟩ = some (.int .i64 ss)) := fun V hV => by
    have hP := (hV.block _ z1).trans r0
    exact ⟨rowFacts hP 0 _ rfl, rowFacts hP 1 _ rfl, rowFacts hP 2 _ rfl, rowFacts hP 3 _ rfl, rowFacts hP 4 _ rfl, rowFacts hP 5 _ rfl, rowFacts hP 6 _ rfl, rowFacts hP 7 _ rfl, rowFacts hP 8 _ rfl, rowFacts hP 9 _ rfl, rowFacts hP 10 _ rfl⟩
  have HA : Hid (∀ V, Below w1.heap.size w1 V → IsStrs V a names) := fun V hV => (ha.keep B1.out).keep hV
  have HB : Hid (∀ V, Below w1.heap.size w1 V → Below w.heap.size w V) := fun V hV => B1.out.trans (hV.mono B1.out.size)
  clear r0 ha z1 B1
  go_enter Try.func14, Try.ntmps14
  go_upto_region 1 with fail
  rw [← hw1]
  clear hw1
  obtain ⟨c0, c1, c2, c3, c4, c5, c6, c7, c8, c9, c10⟩ := HK.out w1 (Below.refl _ _)
  go_wp2_with fail
  refine (HP.out _ (HA.out _ (Below.refl _ _))).mono ?_
  rintro e w2 ⟨rfl, b2⟩
  have K2 : Hid (Below w1.heap.size w1 w2) := b2
  clear b2 c0 c1 c2 c3 c4 c5 c6 c7 c8 c9 c10 HP
  cases P with
  | false =>
    have HF : Hid (R = ⟨#[]⟩) := HN.out rfl
    go_wp2
    go_ret
    exact ⟨by rw [HF.out]; rfl, HB.out _ K2.out⟩
  | true =>
    have hR := HY.out rfl
    have zD := HZ.out rfl
    have Q1 := HQ.out rfl
    obtain ⟨m1, m2, m3⟩ := HSg.out rfl
    have hnum : numsD [sk, se, ss] 3 = sigT sk se ss := rfl
    obtain ⟨G, eG⟩ : ∃ q, q = thingD 3 (sigT sk se ss) := ⟨_, rfl⟩
    rw [← eG] at hR zS'
    have PB : Hid (∀ V, Hid (Below w1.heap.size w1 V) → Calls Try.prog 12 #[.agg #[.int .i64 ser, .string iss, .string sub, .int .i64 fr, .int .i64 till, .int .i64 key, .slice a nl cap, .bool ca, .int .i64 sk, .int .i64 se, .int .i64 ss]] V fun e W => e = .returned (.string (D)) ∧ Hid (Below w1.heap.size w1 W) ∧ Hid (∀ b, Row3 sk se ss V b → Row3 sk se ss W b)) := fun V hV => (Q1 V (HA.out V hV.out)).mono fun e W h => ⟨h.1, hV.out.trans (h.2.mono hV.out.size), fun b hb => hb.keep h.2⟩
    have PK : Hid (∀ V, Hid (Below w1.heap.size w1 V) → Calls Try.prog 28 #[] V fun e W => e = .returned (.string (kindD)) ∧ Hid (Below w1.heap.size w1 W) ∧ Hid (∀ b, Row3 sk se ss V b → Row3 sk se ss W b)) := fun V hV => (implKind V).mono fun e W h => ⟨h.1, hV.out.trans (h.2.mono hV.out.size), fun b hb => hb.keep h.2⟩
    have PNu : Hid (∀ V (g : Nat), Hid (Below w1.heap.size w1 V) → Row3 sk se ss V g → Calls Try.prog 30 #[.slice (some ⟨g, 0, none⟩) 3 3] V fun e W => e = .returned (.string (G)) ∧ Hid (Below w1.heap.size w1 W) ∧ Hid (∀ b, Row3 sk se ss V b → Row3 sk se ss W b)) := fun V g hV hg => by
      rw [eG, ← hnum]
      exact (implNumbers (some ⟨g, 0, none⟩) [sk, se, ss] 3 V (by simp) (fun i hi => by
        have h' : i = 0 ∨ i = 1 ∨ i = 2 := by have : i < 3 := hi; omega
        rcases h' with rfl | rfl | rfl
        · show _ ≤ sk ∧ sk ≤ _; omega
        · show _ ≤ se ∧ se ≤ _; omega
        · show _ ≤ ss ∧ ss ≤ _; omega) (IsInts.row (rest := []) hg)).mono fun e W h => ⟨h.1, hV.out.trans (h.2.mono hV.out.size), fun b hb => hb.keep h.2⟩
    have PS : Hid (∀ V (g : Nat), Hid (Below w1.heap.size w1 V) → V.heap[g]? = some (.cells #[.string D, .string kindD, .string G] 9 (0, 0)) → Calls Try.prog 25 #[.slice (some ⟨g, 0, none⟩) 3 3] V fun e W => e = .returned (.string (R)) ∧ Hid (Below w1.heap.size w1 W) ∧ Hid (∀ b, Row3 sk se ss V b → Row3 sk se ss W b)) := fun V g hV hg => by
      rw [hR]
      exact (implSeq3 D kindD G g V (by omega) hg).mono fun e W h => ⟨h.1, hV.out.trans (h.2.mono hV.out.size), fun b hb => hb.keep h.2⟩
    have AL : Hid (∀ V o, Hid (Below w1.heap.size w1 V) → Hid (Below w1.heap.size w1 (V.alloc o))) := fun V o h => h.out.alloc h.out.size o
    have DR : Hid (∀ V, Hid (Below w1.heap.size w1 V) → Hid (Below w1.heap.size w1 V.drew)) := fun V h => h.out.drew
    have D2 : Hid (Below w1.heap.size w1 w2.drew) := DR.out _ K2
    clear HN HY HZ HQ HSg Q1 hR zD zS zS' zK eG hnum m1 m2 m3 HA
    obtain ⟨c0, c1, c2, c3, c4, c5, c6, c7, c8, c9, c10⟩ := HK.out w2 K2.out
    go_wp2_with fail
    go_region_held3 (fun V => V.cell? ⟨w.heap.size, 0, none⟩ = some (.int .i64 ser) ∧ V.cell? ⟨w.heap.size, 1, none⟩ = some (.string iss) ∧ V.cell? ⟨w.heap.size, 2, none⟩ = some (.string sub) ∧ V.cell? ⟨w.heap.size, 3, none⟩ = some (.int .i64 fr) ∧ V.cell? ⟨w.heap.size, 4, none⟩ = some (.int .i64 till) ∧ V.cell? ⟨w.heap.size, 5, none⟩ = some (.int .i64 key) ∧ V.cell? ⟨w.heap.size, 6, none⟩ = some (.slice a nl cap) ∧ V.cell? ⟨w.heap.size, 7, none⟩ = some (.bool ca) ∧ V.cell? ⟨w.heap.size, 8, none⟩ = some (.int .i64 sk) ∧ V.cell? ⟨w.heap.size, 9, none⟩ = some (.int .i64 se) ∧ V.cell? ⟨w.heap.size, 10, none⟩ = some (.int .i64 ss)) (first | (refine ⟨?_, ?_, ?_, ?_, ?_, ?_, ?_, ?_, ?_, ?_, ?_⟩ <;> assumption) | exact HK.out _ (Hid.out (by assumption)) | go_keep)
      (first
        | (go_at_call 12; refine (PB.out _ (by first | assumption | exact AL.out _ _ (by assumption) | exact AL.out _ _ (AL.out _ _ (by assumption)) | exact DR.out _ (AL.out _ _ (by assumption)))).mono ?_; rintro r V1 ⟨rfl, k1, kp1⟩; (first | have rk := kp1.out _ (by assumption) | have rk := kp1.out _ (Row3.al (by assumption)) | have rk := kp1.out _ (heap_alloc_new _ _) | have rk := kp1.out _ (Row3.al (heap_alloc_new _ _)) | skip); (try simp at rk))
        | (go_at_call 28; refine (PK.out _ (by first | assumption | exact AL.out _ _ (by assumption) | exact AL.out _ _ (AL.out _ _ (by assumption)) | exact DR.out _ (AL.out _ _ (by assumption)))).mono ?_; rintro r V2 ⟨rfl, k2, kp2⟩; (first | have rk := kp2.out _ (by assumption) | have rk := kp2.out _ (Row3.al (by assumption)) | have rk := kp2.out _ (heap_alloc_new _ _) | have rk := kp2.out _ (Row3.al (heap_alloc_new _ _)) | skip); (try simp at rk))
        | (go_at_call 30; refine (PNu.out _ _ (by first | assumption | exact AL.out _ _ (by assumption) | exact AL.out _ _ (AL.out _ _ (by assumption)) | exact DR.out _ (AL.out _ _ (by assumption))) (by first | assumption | exact Row3.al (by assumption) | exact heap_alloc_new _ _ | exact heap_alloc2 _ _ _ | exact Row3.al (heap_alloc_new _ _))).mono ?_; rintro r V3 ⟨rfl, k3, kp3⟩)
        | (go_at_call 25; refine (PS.out _ _ (by first | assumption | exact AL.out _ _ (by assumption) | exact AL.out _ _ (AL.out _ _ (by assumption)) | exact DR.out _ (AL.out _ _ (by assumption))) (by first | exact heap_alloc_new _ _ | exact heap_alloc2 _ _ _ | exact alKeep (heap_alloc_new _ _))).mono ?_; rintro r V4 ⟨rfl, k4, kp4⟩))
    all_goals
      go_wp2
      go_ret
      exact ⟨rfl, HB.out _ k4.out⟩
end Go.Proofs.Ytfhihhkdbdidnaa
namespace Go.Proofs.Ytfhihhkdbdidnaa
open Go.RowKit

theorem szR_no {ss : List ByteArray} {left : Int} (h : left < (ss.length : Int) + totS ss ss.length) : szR ss left = -1 := if_neg (by omega)
set_option maxHeartbeats 1000000 in
set_option maxRecDepth 100000 in
theorem szStrs (a : Option Addr) (ss : List ByteArray) (c : Nat) (left : Int) (w : World) (hl : ss.length ≤ maxLen) (hs : ∀ s ∈ ss, s.size ≤ maxLen) (h0 : 0 ≤ left) (h1 : left ≤ 1048576) (ha : IsStrs w a ss) :
    Calls Try.prog 15 #[.slice a ss.length c, .int .i64 left] w fun e w' => e = .returned (.int .i64 (szR ss left)) ∧ Below w.heap.size w w' := by
  unfold maxLen at hl
  have HSz : Hid (∀ k, k < ss.length → (tAt ss k).size ≤ 9223372036854775807) := fun k hk => by
    have := hs (ss[k]) (List.getElem_mem hk)
    unfold maxLen at this
    rw [tAt, List.getD, List.getElem?_eq_getElem hk]
    simpa using this
  clear hs
  by_cases hfit : left < (ss.length : Int)
  · have HF : Hid (szR ss left = -1) := szR_no (by omega)
    go_enter Try.func15, Try.ntmps15
    go_wp2
    go_ret
    exact ⟨by rw [HF.out]; rfl, Below.refl _ _⟩
  · go_enter Try.func15, Try.ntmps15
    go_wp2
    go_loopw [1, 5] (fun l i wr => ∃ k : Nat, k ≤ ss.length ∧ i = .int .i64 k ∧ (totS ss k : Int) ≤ left - ss.length ∧ l = .int .i64 (left - ss.length - totS ss k) ∧ Below w.heap.size w wr) (fun _ i _ => ss.length - (intOf i).toNat)
    case atStart => exact ⟨0, Nat.zero_le _, rfl, by show (0 : Int) ≤ _; omega, by simp [totS], Below.refl _ _⟩
    case round =>
      obtain ⟨k, hk, rfl, ht, rfl, hbr⟩ := hrel
      by_cases hlt : k < ss.length
      · obtain ⟨x, o, rfl, hc⟩ : ∃ x o, a = some ⟨x, o, none⟩ ∧ ∀ i, i < ss.length → wr.cell? ⟨x, o + i, none⟩ = some (.string (tAt ss i)) := by
          rcases ha.below hbr ha.lt with rfl | h
          · simp at hlt
          · exact h
        have hck := hc k hlt
        have hz := HSz.out k hlt
        have e1 : totS ss (k + 1) = totS ss k + (tAt ss k).size := rfl
        have HN : Hid (left - ss.length - totS ss k < (tAt ss k).size → szR ss left = -1) := fun h => szR_no (by have := totS_mono ss (show k + 1 ≤ ss.length by omega); omega)
        have HB : Hid (Below w.heap.size w wr) := hbr
        have HE : Hid (totS ss (k + 1) = totS ss k + (tAt ss k).size) := e1
        obtain ⟨m, hm⟩ : ∃ m : Int, m = left - ss.length - totS ss k := ⟨_, rfl⟩
        rw [← hm] at HN ⊢
        have HM : Hid (m = left - ss.length - totS ss k) := hm
        have hm0 : 0 ≤ m := by omega
        have hm1 : m ≤ 1048576 := by omega
        have hk1 : k < 1048576 := by omega
        generalize tAt ss k = z at *
        generalize hn : ss.length = n at *
        have HNn : Hid (ss.length = n) := hn
        clear hc ha hbr hn e1 hm ht hl h0 h1 hfit
        by_cases hlast : m < (z.size : Int)
        · have HF : Hid (szR ss left = -1) := HN.out hlast
          go_wp2
          go_ret
          exact ⟨by rw [HF.out]; rfl, HB.out⟩
        · go_wp2
          go_roundw
          case rel => exact ⟨k + 1, by have := HNn.out; omega, by go_num, by have := HE.out; have := HM.out; have := HNn.out; omega, by congr 1; have := HE.out; have := HM.out; have := HNn.out; omega, HB.out⟩
          case measure => have := HNn.out; simp [intOf]; omega
      · obtain rfl : k = ss.length := by omega
        have HF : Hid (szR ss left = left - ss.length - totS ss ss.length) := if_pos (by omega)
        have HB : Hid (Below w.heap.size w wr) := hbr
        clear hbr ha
        go_wp2
        go_ret
        exact ⟨by rw [HF.out]; rfl, HB.out⟩
end Go.Proofs.Ytfhihhkdbdidnaa
namespace Go.Proofs.Ytfhihhkdbdidnaa
open Go.RowKit

theorem szR_some {ss : List ByteArray} {left : Int} (h : 0 ≤ szR ss left) : (ss.length : Int) + totS ss ss.length ≤ left := by
  unfold szR at h
  split at h
  · assumption
  · omega
theorem szR_neg {ss : List ByteArray} {left : Int} : -1 ≤ szR ss left := by
  unfold szR
  split <;> omega
theorem szR_le {ss : List ByteArray} {left : Int} (h : -1 ≤ left) : szR ss left ≤ left := by
  unfold szR
  split <;> omega
end Go.Proofs.Ytfhihhkdbdidnaa
namespace Go.Proofs.Ytfhihhkdbdidnaa
open Go.RowKit

/-- How large a paper is. -/
def Paper.Small (c : Paper) : Prop := c.issuer.size ≤ 1048576 ∧ c.subject.size ≤ 1048576 ∧ c.names.length ≤ 1048576 ∧ totS c.names c.names.length ≤ 1048576
set_option maxHeartbeats 2000000 in
set_option maxRecDepth 100000 in
theorem szCert (c : Paper) (a : Option Addr) (cap : Nat) (w : World) (hi : c.issuer.size ≤ maxLen) (hs : c.subject.size ≤ maxLen) (hl : c.names.length ≤ maxLen) (ht : ∀ s ∈ c.names, s.size ≤ maxLen) (ha : IsStrs w a c.names) :
    Calls Try.prog 6 #[c.val (.slice a c.names.length cap), .int .i64 1048576] w fun e w' => ∃ x : Int, e = .returned (.int .i64 x) ∧ (x < 0 ∨ c.Small) ∧ -1 ≤ x ∧ x ≤ 1048576 ∧ Below w.heap.size w w' := by
  have HSm : Hid (c.issuer.size ≤ 1048576 → c.subject.size ≤ 1048576 → c.names.length + totS c.names c.names.length ≤ 1048576 → c.Small) := fun h1 h2 h3 => ⟨h1, h2, by omega, by omega⟩
  obtain ⟨ser, iss, sub, fr, till, key, names, ca, sk, se, ss⟩ := c
  simp only at hi hs hl ht ha HSm
  generalize Paper.Small ⟨ser, iss, sub, fr, till, key, names, ca, sk, se, ss⟩ = Sm at *
  unfold Paper.val
  simp only
  have HZ : Hid (∀ V (left : Int), IsStrs V a names → 0 ≤ left → left ≤ 1048576 → Calls Try.prog 15 #[.slice a names.length cap, .int .i64 left] V fun e w' => e = .returned (.int .i64 (szR names left)) ∧ Below V.heap.size V w') := fun V left hV h0 h1 => szStrs a names cap left V hl ht h0 h1 hV
  obtain ⟨nl, hnl⟩ : ∃ nl, nl = names.length := ⟨_, rfl⟩
  rw [← hnl] at HZ HSm ⊢
  have HNl : Hid (nl = names.length) := hnl
  clear hnl
  obtain ⟨w1, hw1⟩ : ∃ w1, w1 = w.alloc (.cells #[.int .i64 ser, .string iss, .string sub, .int .i64 fr, .int .i64 till, .int .i64 key, .slice a nl cap, .bool ca, .int .i64 sk, .int .i64 se, .int .i64 ss] 26 (0, 0)) := ⟨_, rfl⟩
  have hrow : w1.heap[w.heap.size]? = some (.cells [Value.int .i64 ser, .string iss, .string sub, .int .i64 fr, .int .i64 till, .int .i64 key, .slice a nl cap, .bool ca, .int .i64 sk, .int .i64 se, .int .i64 ss].toArray 26 (0, 0)) := by rw [hw1]; exact heap_alloc_new w _
  have B1 : Hid (Below w.heap.size w w1) := by rw [hw1]; exact (Below.refl _ _).alloc (Nat.le_refl _) _
  have A1 : Hid (IsStrs w1 a names) := ha.keep B1.out
  have c1 := rowFacts hrow 1 _ rfl
  have c2 := rowFacts hrow 2 _ rfl
  have c6 := rowFacts hrow 6 _ rfl
  unfold maxLen at hi hs
  clear hrow ha hl ht
  go_enter Try.func6, Try.ntmps6
  go_upto_region 1 with fail
  rw [← hw1]
  clear hw1
  by_cases h1 : 1048576 < iss.size
  · go_wp2
    go_ret
    exact ⟨_, rfl, .inl (by omega), by omega, by omega, B1.out⟩
  by_cases h2 : 1048576 - iss.size < sub.size
  · go_wp2
    go_ret
    exact ⟨_, rfl, .inl (by omega), by omega, by omega, B1.out⟩
  obtain ⟨l2, hl2⟩ : ∃ l2 : Int, l2 = 1048576 - (iss.size : Int) - (sub.size : Int) := ⟨_, rfl⟩
  have hl20 : 0 ≤ l2 := by omega
  have hl21 : l2 ≤ 1048576 := by omega
  have HL2 : Hid (l2 = 1048576 - (iss.size : Int) - (sub.size : Int)) := hl2
  go_upto_region 7 with fail
  rw [← hl2]
  clear hl2
  go_wp2_with fail
  refine (HZ.out _ l2 A1.out hl20 hl21).mono ?_
  rintro e w2 ⟨rfl, b2⟩
  have B2 : Hid (Below w.heap.size w w2) := B1.out.trans (b2.mono B1.out.size)
  have g1 := szR_neg (ss := names) (left := l2)
  have g2 := szR_le (ss := names) (left := l2) (by omega)
  have HG : Hid (0 ≤ szR names l2 → Sm) := fun h => by
    have := szR_some h
    have := HL2.out
    have := HNl.out
    exact HSm.out (by omega) (by omega) (by rw [HNl.out]; omega)
  generalize szR names l2 = q at *
  clear b2 HZ HSm
  by_cases hq : q < 0
  · go_wp2
    go_ret
    exact ⟨_, rfl, .inl (by omega), by omega, by omega, B2.out⟩
  · have HSm : Hid Sm := HG.out (by omega)
    go_wp2
    go_ret
    exact ⟨_, rfl, .inr HSm.out, by omega, by omega, B2.out⟩
end Go.Proofs.Ytfhihhkdbdidnaa
namespace Go.Proofs.Ytfhihhkdbdidnaa
open Go.RowKit

set_option maxHeartbeats 1000000 in
set_option maxRecDepth 100000 in
theorem toStrs (a : Option Addr) (zs : List ByteArray) (c : Nat) (w : World) (hl : zs.length ≤ 1048576) (ha : IsStrs w a zs) :
    Calls Try.prog 18 #[.slice a zs.length c] w fun e w' => e = .returned (.slice (some ⟨w.heap.size, 0, none⟩) zs.length zs.length) ∧ w'.heap[w.heap.size]? = some (.cells (sCells zs).toArray 9 (0, 0)) ∧ Below w.heap.size w w' := by
  obtain ⟨i0, hi, hz0, hz1, hz2⟩ := info_parts infoText
  go_enter Try.func18, Try.ntmps18
  go_wp2_with (at_make; refine wpList_make_full _ rfl _ _ 22 rfl w.heap.size 9 i0 (.string ⟨#[]⟩) 1 Try.underlying22 hi hz0 hz1 .i64 .i64 _ _ zs.length rfl rfl ?c1 ?c2 ?c3 ?c4 ?c5 ?_)
  case c1 => omega
  case c2 => omega
  case c3 => rw [hz2]; omega
  case c4 => unfold maxLen; omega
  case c5 => exact Nat.le_refl _
  intro w1 hown hgrow
  have hB1 : Below w.heap.size w w1 := (Below.refl _ w).grown hgrow (Nat.le_refl _) (fun k hk => by cases hk)
  obtain ⟨hrow, hlen⟩ := rowOf hown rfl
  generalize (madeCells #[Value.string ⟨#[]⟩] zs.length).toList = L0 at hrow hlen
  have HR0 : Hid (w1.heap[w.heap.size]? = some (.cells L0.toArray 9 (0, 0))) := hrow
  have HL0 : Hid (L0.length = zs.length) := hlen
  have HB1 : Hid (Below w.heap.size w w1) := hB1
  clear hown hgrow hrow hlen hB1
  go_wp2_with fail
  go_loopw [4] (fun i wr => ∃ (k : Nat) (L : List Value), k ≤ zs.length ∧ i = .int .i64 k ∧ L.length = zs.length ∧ wr.heap[w.heap.size]? = some (.cells L.toArray 9 (0, 0)) ∧ (∀ j, j < k → L[j]? = some (.string (tAt zs j))) ∧ Below w.heap.size w wr)
    (fun i _ => zs.length - (intOf i).toNat)
  case atStart => exact ⟨0, L0, Nat.zero_le _, rfl, HL0.out, HR0.out, fun j hj => by omega, HB1.out⟩
  case round =>
    clear HL0 HR0 HB1
    obtain ⟨k, L, hk, rfl, hL, hg, hv, hb⟩ := hrel
    by_cases hlt : k < zs.length
    · obtain ⟨x, o, rfl, hc⟩ : ∃ x o, a = some ⟨x, o, none⟩ ∧ ∀ i, i < zs.length → wr.cell? ⟨x, o + i, none⟩ = some (.string (tAt zs i)) := by
        rcases ha.below hb ha.lt with rfl | h
        · simp at hlt
        · exact h
      have hck := hc k hlt
      have hd : wr.cell? ⟨w.heap.size, k, none⟩ = some L[k] := by
        rw [cell_of_row wr _ k _ _ (0, 0) hg]; simp
      have hz := frozen_of_row wr _ k _ _ hg
      have HG : Hid (∀ v, (wr.setCell ⟨w.heap.size, k, none⟩ v).heap[w.heap.size]? = some (.cells (L.set k v).toArray 9 (0, 0))) := fun v => by
        rw [heap_setCell_same wr _ k _ _ v hg]; simp
      have HV : Hid (∀ j, j < k + 1 → (L.set k (.string (tAt zs k)))[j]? = some (.string (tAt zs j))) := fun j hj => by
        by_cases e : j = k
        · subst e; rw [List.getElem?_set_self (by omega)]
        · rw [List.getElem?_set_ne (by omega), hv j (by omega)]
      have HL : Hid (∀ v, (L.set k v).length = zs.length) := fun v => by simpa using hL
      have HB : Hid (∀ v, Below w.heap.size w (wr.setCell ⟨w.heap.size, k, none⟩ v)) := fun v => hb.setCell (Nat.le_refl _) v
      generalize L[k] = v0 at hd
      generalize tAt zs k = z at hck HV
      have a0 : (0 : Int) ≤ (k : Int) := by omega
      have b0 : (k : Int) < (zs.length : Int) := by omega
      generalize zs.length = n at *
      clear hc ha hv hg hb hL
      go_wp2
      go_roundw
      case rel => exact ⟨k + 1, _, by omega, by go_num, HL.out _, HG.out _, HV.out, HB.out _⟩
      case measure => simp [intOf]; omega
    · have hLe : L = sCells zs := by
        apply List.ext_getElem?
        intro j
        by_cases hj : j < zs.length
        · rw [hv j (by omega)]; exact (sCells_at hj).symm
        · rw [List.getElem?_eq_none (by omega), List.getElem?_eq_none (by simp [sCells]; omega)]
      subst hLe
      have HG : Hid (wr.heap[w.heap.size]? = some (.cells (sCells zs).toArray 9 (0, 0))) := hg
      have HB : Hid (Below w.heap.size w wr) := hb
      clear hg hv hb hL ha
      go_wp2
      go_ret
      exact ⟨rfl, HG.out, HB.out⟩
end Go.Proofs.Ytfhihhkdbdidnaa
namespace Go.Proofs.Ytfhihhkdbdidnaa
open Go.RowKit

theorem sigRow {w : World} {g : Nat} {t : TypeId} {x y z : Value} (hg : w.heap[g]? = some (.cells [x, y, z].toArray t (0, 0))) (a b c : Value) :
    (((w.setCell ⟨g, 0, none⟩ a).setCell ⟨g, 1, none⟩ b).setCell ⟨g, 2, none⟩ c).heap[g]? = some (.cells [a, b, c].toArray t (0, 0)) := rowSet c (rowSet b (rowSet a hg))
theorem sizeSig : (Try.prog.info? 29).map (·.size) = some 3 := by kernel_rfl
end Go.Proofs.Ytfhihhkdbdidnaa
namespace Go.Proofs.Ytfhihhkdbdidnaa
open Go.RowKit

set_option maxHeartbeats 1000000 in
set_option maxRecDepth 100000 in
theorem toSig (k e s : Int) (w : World) :
    Calls Try.prog 19 #[.agg #[.int .i64 k, .int .i64 e, .int .i64 s]] w fun r w' => r = .returned (.agg #[.int .i64 k, .int .i64 e, .int .i64 s]) ∧ Below w.heap.size w w' := by
  go_enter Try.func19, Try.ntmps19
  go_wp2
  go_returns
  refine ⟨rfl, ?_⟩
  repeat' first | exact Below.refl _ _ | refine Below.setCell ?_ (by simp) _ | refine Below.alloc ?_ (by simp; try omega) _
end Go.Proofs.Ytfhihhkdbdidnaa
namespace Go.Proofs.Ytfhihhkdbdidnaa
open Go.RowKit

theorem resKeep {w w1 : World} {cs : List Value} {T : Nat} (hb : Below (w.alloc (.cells cs.toArray T (0, 0))).heap.size (w.alloc (.cells cs.toArray T (0, 0))) w1) :
    w1.heap[w.heap.size]? = some (.cells cs.toArray T (0, 0)) ∧ Below w.heap.size w w1 ∧ w.heap.size < w1.heap.size := by
  have hs : (w.alloc (.cells cs.toArray T (0, 0))).heap.size = w.heap.size + 1 := by simp
  have hl := hb.size
  refine ⟨?_, ((Below.refl _ w).alloc (Nat.le_refl _) _).trans (hb.mono (by omega)), by omega⟩
  rw [hb.block w.heap.size (by omega)]
  exact heap_alloc_new w _
theorem rowFree {w : World} {g : Nat} {cs : List Value} {t : TypeId} (hg : w.heap[g]? = some (.cells cs.toArray t (0, 0))) (j : Nat) : w.frozen? ⟨g, j, none⟩ = false := frozen_of_row w g j _ t hg
/-- Three cells of a variable. -/
theorem cells3 {w : World} {g : Nat} {a b c : Value} {t : TypeId} (h : w.heap[g]? = some (.cells [a, b, c].toArray t (0, 0))) :
    (w.cell? ⟨g, 0, none⟩ = some a ∧ w.cell? ⟨g, 1, none⟩ = some b ∧ w.cell? ⟨g, 2, none⟩ = some c) ∧ w.frozen? ⟨g, 0, none⟩ = false ∧ w.frozen? ⟨g, 1, none⟩ = false ∧ w.frozen? ⟨g, 2, none⟩ = false :=
  ⟨⟨rowFacts h 0 _ rfl, rowFacts h 1 _ rfl, rowFacts h 2 _ rfl⟩, rowFree h 0, rowFree h 1, rowFree h 2⟩
theorem cells2 {w : World} {g : Nat} {a b : Value} {t : TypeId} (h : w.heap[g]? = some (.cells [a, b].toArray t (0, 0))) :
    (w.cell? ⟨g, 0, none⟩ = some a ∧ w.cell? ⟨g, 1, none⟩ = some b) ∧ w.frozen? ⟨g, 0, none⟩ = false ∧ w.frozen? ⟨g, 1, none⟩ = false :=
  ⟨⟨rowFacts h 0 _ rfl, rowFacts h 1 _ rfl⟩, rowFree h 0, rowFree h 1⟩
theorem cells4 {w : World} {g : Nat} {a b c d : Value} {t : TypeId} (h : w.heap[g]? = some (.cells [a, b, c, d].toArray t (0, 0))) :
    (w.cell? ⟨g, 0, none⟩ = some a ∧ w.cell? ⟨g, 1, none⟩ = some b ∧ w.cell? ⟨g, 2, none⟩ = some c ∧ w.cell? ⟨g, 3, none⟩ = some d) ∧ w.frozen? ⟨g, 0, none⟩ = false ∧ w.frozen? ⟨g, 1, none⟩ = false ∧ w.frozen? ⟨g, 2, none⟩ = false ∧ w.frozen? ⟨g, 3, none⟩ = false :=
  ⟨⟨rowFacts h 0 _ rfl, rowFacts h 1 _ rfl, rowFacts h 2 _ rfl, rowFacts h 3 _ rfl⟩, rowFree h 0, rowFree h 1, rowFree h 2, rowFree h 3⟩
end Go.Proofs.Ytfhihhkdbdidnaa
namespace Go.Proofs.Ytfhihhkdbdidnaa
open Go.RowKit

theorem splice_cons {α : Type} (cs r : List α) (v : α) (o : Nat) (h : o < cs.length) : splice (cs.set o v) (o + 1) r = splice cs o (v :: r) := by
  unfold splice
  rw [List.take_succ_eq_append_getElem (by simpa using h)]
  simp only [List.getElem_set_self, List.take_set_of_le (Nat.le_refl o), List.append_assoc, List.length_cons, List.cons_append, List.nil_append]
  rw [List.drop_set_of_lt (by omega), show o + 1 + r.length = o + (r.length + 1) by omega]
/-- A row behind many stores. -/
theorem rowSetCells {g : Nat} {t : TypeId} : ∀ (vs cs : List Value) (o : Nat) (w : World), w.heap[g]? = some (.cells cs.toArray t (0, 0)) → o + vs.length ≤ cs.length → (w.setCells g o vs).heap[g]? = some (.cells (splice cs o vs).toArray t (0, 0))
  | [], cs, o, w, hg, _ => by simpa [World.setCells, splice] using hg
  | v :: r, cs, o, w, hg, hl => by
    rw [World.setCells, ← splice_cons cs r v o (by simp at hl; omega)]
    exact rowSetCells r (cs.set o v) (o + 1) _ (rowSet v hg) (by simp at hl ⊢; omega)
theorem otherSetCells (g : Nat) : ∀ (vs : List Value) (o : Nat) (w : World) (k : Nat), k ≠ g → (w.setCells g o vs).heap[k]? = w.heap[k]?
  | [], _, _, _, _ => rfl
  | v :: r, o, w, k, hk => by rw [World.setCells, otherSetCells g r (o + 1) _ k hk, heap_setCell_other w _ k v hk]
theorem sizeSetCells (g : Nat) : ∀ (vs : List Value) (o : Nat) (w : World), (w.setCells g o vs).heap.size = w.heap.size
  | [], _, _ => rfl
  | v :: r, o, w => by rw [World.setCells, sizeSetCells g r (o + 1) _]; simp
/-- A whole variable of many cells, stored. -/
theorem wpList_store_row {P : Program} {ops : Array Oper} {rest : List Oper} {op : Oper} {a : Act} {w : World} {Q : Exit → Act → World → Prop} (hgd : op.guard = none) (ty : TypeId) (x y : Operand) (ho : op.op = .store ty x y)
    (g : Nat) (cs vs : List Value) (t : TypeId) (hx : a.eval x = .pointer (some ⟨g, 0, none⟩)) (hy : a.eval y = .agg vs.toArray) (hg : w.heap[g]? = some (.cells cs.toArray t (0, 0))) (hl : cs.length = vs.length)
    (hi : (P.info? ty).map (·.size) = some vs.length) (h1 : ∀ v ∈ vs, v.oneCell' = true)
    (h : ∀ w', w'.heap[g]? = some (.cells vs.toArray t (0, 0)) → (∀ k, k ≠ g → w'.heap[k]? = w.heap[k]?) → w'.heap.size = w.heap.size → (∀ B w0, B ≤ g → Below B w0 w → Below B w0 w') → wpList P ops Q rest (a.put op.dst undef) w') : wpList P ops Q (op :: rest) a w := by
  refine wpList_store_mid hgd ty x y ho g 0 vs.toArray hx hy (by have := thereRow hg; rw [hl] at this; simpa using this) (by simpa using hi) (all_oneCell_toArray h1) ?_
  refine h _ ?_ (fun k hk => otherSetCells g _ _ _ _ hk) (sizeSetCells g _ _ _) (fun B w0 hB hb => below_setCells hB _ _ _ hb)
  have := rowSetCells vs cs 0 w hg (by omega)
  rwa [splice_one cs vs hl] at this
/-- The same, inside a drawn region. -/
theorem wp_store_row {P : Program} {op : Oper} {a : Act} {w : World} {K : Act → World → Prop} {Q : Exit → Act → World → Prop} (ty : TypeId) (x y : Operand) (ho : op.op = .store ty x y)
    (g : Nat) (cs vs : List Value) (t : TypeId) (hx : a.eval x = .pointer (some ⟨g, 0, none⟩)) (hy : a.eval y = .agg vs.toArray) (hg : w.heap[g]? = some (.cells cs.toArray t (0, 0))) (hl : cs.length = vs.length)
    (hi : (P.info? ty).map (·.size) = some vs.length) (h1 : ∀ v ∈ vs, v.oneCell' = true)
    (h : ∀ w', w'.heap[g]? = some (.cells vs.toArray t (0, 0)) → (∀ k, k ≠ g → w'.heap[k]? = w.heap[k]?) → w'.heap.size = w.heap.size → (∀ B w0, B ≤ g → Below B w0 w → Below B w0 w') → K (a.put op.dst undef) w') : op.wp P a w K Q := by
  refine wp_store_mid ty x y ho g 0 vs.toArray hx hy (by have := thereRow hg; rw [hl] at this; simpa using this) (by simpa using hi) (all_oneCell_toArray h1) ?_
  refine h _ ?_ (fun k hk => otherSetCells g _ _ _ _ hk) (sizeSetCells g _ _ _) (fun B w0 hB hb => below_setCells hB _ _ _ hb)
  have := rowSetCells vs cs 0 w hg (by omega)
  rwa [splice_one cs vs hl] at this
end Go.Proofs.Ytfhihhkdbdidnaa
