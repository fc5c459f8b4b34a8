/- impl.CertBody, walked. impl.CertBytes, walked. impl.CertRead, walked. -/
import Derived.Test.YtfliacfeebooeaaGreatDoorCR21
import Derived.Test.YtfliacfeebooeaaGreatDoorCR22
import Derived.Test.YtfliacfeebooeaaGreatDoorCR04
import Derived.Test.YtfliacfeebooeaaGreatDoorCR05
namespace Go.Proofs.YtfliacfeebooeaaGreatDoor
open Go.RowKit

/-- A row of the one number n stands in block b. -/
def RowK (n : Int) (V : World) (b : Nat) : Prop := V.heap[b]? = some (.cells #[.int .i64 n] 2 (0, 0))
theorem RowK.keep {n : Int} {V W : World} {b : Nat} (h : RowK n V b) (hb : Below V.heap.size V W) : RowK n W b := (hb.block b (heap_lt h)).trans h
theorem RowK.al {n : Int} {V : World} {b : Nat} {o : Obj} (h : RowK n V b) : RowK n (V.alloc o) b := by
  unfold RowK
  rw [Below.heap_alloc _ _ _ (heap_lt h)]
  exact h
set_option maxHeartbeats 8000000 in
set_option maxRecDepth 100000 in
theorem implBody (c : Paper) (a : Option Addr) (cap : Nat) (w : World) (hi : c.issuer.size ≤ maxLen) (hs : c.subject.size ≤ maxLen) (hl : c.names.length ≤ 1048576) (ht : totS c.names c.names.length ≤ 1048576) (ha : IsStrs w a c.names) :
    Calls Tryz.prog 37 #[c.val (.slice a c.names.length cap)] w fun e w' => e = .returned (.string (certBodyD c)) ∧ Below w.heap.size w w' := by
  have HP : Hid (∀ V, IsStrs V a c.names → Calls Tryz.prog 34 #[c.val (.slice a c.names.length cap)] V fun e w' => e = .returned (.bool (paperB c)) ∧ Below V.heap.size V w') := fun V hV => implPaper c a cap V hi hs hl ht hV
  have HN : Hid (paperB c = false → certBodyD c = ⟨#[]⟩) := fun h => by show (if _ then _ else _) = _; rw [if_neg (by rw [h]; simp)]
  have HY : Hid (paperB c = true → certBodyD c = bodyD c) := fun h => if_pos h
  have HFt : Hid (paperB c = true → PFits c) := paper_fits
  generalize certBodyD c = R at *
  generalize paperB c = P at *
  clear hi hs hl ht
  obtain ⟨ser, iss, sub, fr, till, key, names, ca, sk, se, ss⟩ := c
  unfold Paper.val at *
  simp only at HP ha ⊢
  obtain ⟨nl, hnl⟩ : ∃ nl, nl = names.length := ⟨_, rfl⟩
  rw [← hnl] at HP ⊢
  have HNl : Hid (nl = names.length) := hnl
  clear hnl
  obtain ⟨w1, hw1⟩ : ∃ w1, w1 = w.alloc (.cells #[.int .i64 ser, .string iss, .string sub, .int .i64 fr, .int .i64 till, .int .i64 key, .slice a nl cap, .bool ca, .int .i64 sk, .int .i64 se, .int .i64 ss] 26 (0, 0)) := ⟨_, rfl⟩
  have r0 : w1.heap[w.heap.size]? = some (.cells [Value.int .i64 ser, .string iss, .string sub, .int .i64 fr, .int .i64 till, .int .i64 key, .slice a nl cap, .bool ca, .int .i64 sk, .int .i64 se, .int .i64 ss].toArray 26 (0, 0)) := by rw [hw1]; exact heap_alloc_new w _
  have B1 : Hid (Below w.heap.size w w1) := by rw [hw1]; exact (Below.refl _ _).alloc (Nat.le_refl _) _
  have z1 : w.heap.size < w1.heap.size := by rw [hw1]; simp
  have HK : Hid (∀ V, Below w1.heap.size w1 V → V.cell? ⟨w.heap.size, 0, none⟩ = some (.int .i64 ser) ∧ V.cell? ⟨w.heap.size, 1, none⟩ = some (.string iss) ∧ V.cell? ⟨w.heap.size, 2, none⟩ = some (.string sub) ∧ V.cell? ⟨w.heap.size, 3, none⟩ = some (.int .i64 fr) ∧ V.cell? ⟨w.heap.size, 4, none⟩ = some (.int .i64 till) ∧ V.cell? ⟨w.heap.size, 5, none⟩ = some (.int .i64 key) ∧ V.cell? ⟨w.heap.size, 6, none⟩ = some (.slice a nl cap) ∧ V.cell? ⟨w.heap.size, 7, none⟩ = some (.bool ca) ∧ V.cell? ⟨w.heap.size, 8, none⟩ = some (.int .i64 sk) ∧ V.cell? ⟨w.heap.size, 9, none⟩ = some (.int .i64 se) ∧ V.cell? ⟨w.heap.size, 10, none⟩ = some (.int .i64 ss)) := fun V hV => by
    have hP := (hV.block _ z1).trans r0
    exact ⟨rowFacts hP 0 _ rfl, rowFacts hP 1 _ rfl, rowFacts hP 2 _ rfl, rowFacts hP 3 _ rfl, rowFacts hP 4 _ rfl, rowFacts hP 5 _ rfl, rowFacts hP 6 _ rfl, rowFacts hP 7 _ rfl, rowFacts hP 8 _ rfl, rowFacts hP 9 _ rfl, rowFacts hP 10 _ rfl⟩
  have HA : Hid (∀ V, Below w1.heap.size w1 V → IsStrs V a names) := fun V hV => (ha.keep B1.out).keep hV
  have HB : Hid (∀ V, Below w1.heap.size w1 V → Below w.heap.size w V) := fun V hV => B1.out.trans (hV.mono B1.out.size)
  clear r0 ha z1 B1
  go_enter Tryz.func37, Tryz.ntmps37
  go_upto_region 1 with fail
  rw [← hw1]
  clear hw1
  obtain ⟨c0, c1, c2, c3, c4, c5, c6, c7, c8, c9, c10⟩ := HK.out w1 (Below.refl _ _)
  go_wp2_with fail
  refine (HP.out _ (HA.out _ (Below.refl _ _))).mono ?_
  rintro e w2 ⟨rfl, b2⟩
  have K2 : Hid (Below w1.heap.size w1 w2) := b2
  clear b2 c0 c1 c2 c3 c4 c5 c6 c7 c8 c9 c10 HP
  cases P with
  | false =>
    have HF : Hid (R = ⟨#[]⟩) := HN.out rfl
    go_wp2
    go_ret
    exact ⟨by rw [HF.out]; rfl, HB.out _ K2.out⟩
  | true =>
    have hR : R = bodyD _ := HY.out rfl
    have h := HFt.out rfl
    clear HN HY HFt
    have zM := moreD_le h.len h.each ca
    have hlen := h.len
    have heach := h.each
    have zi := h.iss
    have zs := h.sub
    have hser : -9223372036854775808 ≤ ser ∧ ser ≤ 9223372036854775807 := by have := h.ser0; have := h.ser1; simp only at *; omega
    have hfr : -9223372036854775808 ≤ fr ∧ fr ≤ 9223372036854775807 := by have := h.fr0; have := h.fr1; simp only at *; omega
    have htl : -9223372036854775808 ≤ till ∧ till ≤ 9223372036854775807 := by have := h.till0; have := h.till1; simp only at *; omega
    have hkey : -9223372036854775808 ≤ key ∧ key ≤ 9223372036854775807 := by have := h.key0; have := h.key1; simp only at *; omega
    have h2n : -9223372036854775808 ≤ (2 : Int) ∧ (2 : Int) ≤ 9223372036854775807 := by omega
    clear h
    unfold bodyD keyD at hR
    simp only at hR zM hlen heach zi zs
    have y1 := intD_le 2
    have y2 := intD_le ser
    have y3 := kindD_le
    have y4 := nameD_le iss
    have y5 := nameD_le sub
    have y6 := intD_le fr
    have y7 := intD_le till
    have y9 := thingD_le 160 (intD 2)
    have y10 := numsD_le [key] 1
    have y11 := thingD_le 3 (numsD [key] 1)
    have hnum : numsD [key] 1 = ⟨#[0]⟩ ++ putS key := rfl
    rw [← hnum] at hR
    obtain ⟨p160, e160⟩ : ∃ q, q = thingD 160 (intD 2) := ⟨_, rfl⟩
    obtain ⟨p3, e3⟩ : ∃ q, q = thingD 3 (numsD [key] 1) := ⟨_, rfl⟩
    obtain ⟨m, em⟩ : ∃ q, q = moreD names ca := ⟨_, rfl⟩
    rw [← e160] at hR y9
    rw [← e3] at hR y11
    rw [← em] at hR zM
    have s1 : (intD fr).size + (intD till).size ≤ 4000 := by omega
    have s2 : kindD.size + p3.size ≤ 4000 := by omega
    have u1 := seqD_le (intD fr ++ intD till)
    have u2 := seqD_le (kindD ++ p3)
    rw [ByteArray.size_append] at u1 u2
    have PI : Hid (∀ V (n : Int), Hid (Below w1.heap.size w1 V) → -9223372036854775808 ≤ n ∧ n ≤ 9223372036854775807 → Calls Tryz.prog 70 #[.int .i64 n] V fun e W => e = .returned (.string (intD n)) ∧ Hid (Below w1.heap.size w1 W) ∧ Hid (∀ b, RowK key V b → RowK key W b)) := fun V n hV hn => (implDerInt n V hn.1 hn.2).mono fun e W h => ⟨h.1, hV.out.trans (h.2.mono hV.out.size), fun b hb => hb.keep h.2⟩
    have P160 : Hid (∀ V (g : Nat), Hid (Below w1.heap.size w1 V) → V.heap[g]? = some (.cells #[.string (intD 2)] 9 (0, 0)) → Calls Tryz.prog 69 #[.int .i64 160, .slice (some ⟨g, 0, none⟩) 1 1] V fun e W => e = .returned (.string (p160)) ∧ Hid (Below w1.heap.size w1 W) ∧ Hid (∀ b, RowK key V b → RowK key W b)) := fun V g hV hg => by
      rw [e160]
      exact (implParts1 160 _ g V (by decide) (by omega) hg).mono fun e W h => ⟨h.1, hV.out.trans (h.2.mono hV.out.size), fun b hb => hb.keep h.2⟩
    have PK : Hid (∀ V, Hid (Below w1.heap.size w1 V) → Calls Tryz.prog 38 #[] V fun e W => e = .returned (.string (kindD)) ∧ Hid (Below w1.heap.size w1 W) ∧ Hid (∀ b, RowK key V b → RowK key W b)) := fun V hV => (implKind V).mono fun e W h => ⟨h.1, hV.out.trans (h.2.mono hV.out.size), fun b hb => hb.keep h.2⟩
    have PN : Hid (∀ V (b : ByteArray), Hid (Below w1.heap.size w1 V) → b.size ≤ 40 → Calls Tryz.prog 71 #[.string b] V fun e W => e = .returned (.string (nameD b)) ∧ Hid (Below w1.heap.size w1 W) ∧ Hid (∀ b, RowK key V b → RowK key W b)) := fun V b hV hb => (implNameD b V hb).mono fun e W h => ⟨h.1, hV.out.trans (h.2.mono hV.out.size), fun b hb => hb.keep h.2⟩
    have PS2 : Hid (∀ V (g : Nat) (x y : ByteArray), Hid (Below w1.heap.size w1 V) → V.heap[g]? = some (.cells #[.string x, .string y] 9 (0, 0)) → x.size + y.size ≤ 4000 → Calls Tryz.prog 36 #[.slice (some ⟨g, 0, none⟩) 2 2] V fun e W => e = .returned (.string (seqD (x ++ y))) ∧ Hid (Below w1.heap.size w1 W) ∧ Hid (∀ b, RowK key V b → RowK key W b)) := fun V g x y hV hg hs => (implSeq2 x y g V hs hg).mono fun e W h => ⟨h.1, hV.out.trans (h.2.mono hV.out.size), fun b hb => hb.keep h.2⟩
    have PNu : Hid (∀ V (g : Nat), Hid (Below w1.heap.size w1 V) → RowK key V g → Calls Tryz.prog 39 #[.slice (some ⟨g, 0, none⟩) 1 1] V fun e W => e = .returned (.string (p3)) ∧ Hid (Below w1.heap.size w1 W) ∧ Hid (∀ b, RowK key V b → RowK key W b)) := fun V g hV hg => by
      rw [e3]
      exact (implNumbers (some ⟨g, 0, none⟩) [key] 1 V (by simp) (fun i hi => by obtain rfl : i = 0 := by simpa using hi
                                                                                 exact hkey) (IsInts.row (rest := []) hg)).mono fun e W h => ⟨h.1, hV.out.trans (h.2.mono hV.out.size), fun b hb => hb.keep h.2⟩
    have PM : Hid (∀ V, Hid (Below w1.heap.size w1 V) → Calls Tryz.prog 72 #[.agg #[.slice a nl cap, .bool ca]] V fun e W => e = .returned (.string (m)) ∧ Hid (Below w1.heap.size w1 W) ∧ Hid (∀ b, RowK key V b → RowK key W b)) := fun V hV => by
      rw [em, HNl.out]
      exact (implMore a names cap ca V hlen heach (HA.out V hV.out)).mono fun e W h => ⟨h.1, hV.out.trans (h.2.mono hV.out.size), fun b hb => hb.keep h.2⟩
    have PS8 : Hid (∀ V (g : Nat), Hid (Below w1.heap.size w1 V) → V.heap[g]? = some (.cells #[.string p160, .string (intD ser), .string kindD, .string (nameD iss), .string (seqD (intD fr ++ intD till)), .string (nameD sub), .string (seqD (kindD ++ p3)), .string m] 9 (0, 0)) → Calls Tryz.prog 36 #[.slice (some ⟨g, 0, none⟩) 8 8] V fun e W => e = .returned (.string (R)) ∧ Hid (Below w1.heap.size w1 W) ∧ Hid (∀ b, RowK key V b → RowK key W b)) := fun V g hV hg => by
      have e8 : catS [p160, intD ser, kindD, nameD iss, seqD (intD fr ++ intD till), nameD sub, seqD (kindD ++ p3), m] = p160 ++ (intD ser ++ (kindD ++ (nameD iss ++ (seqD (intD fr ++ intD till) ++ (nameD sub ++ (seqD (kindD ++ p3) ++ m)))))) := by
        simp only [catS]
        rw [show m ++ (⟨#[]⟩ : ByteArray) = m from ByteArray.append_empty]
      have h := implSeq g 8 [p160, intD ser, kindD, nameD iss, seqD (intD fr ++ intD till), nameD sub, seqD (kindD ++ p3), m] V hg (by rw [e8]; simp only [ByteArray.size_append]; omega) (by simp) (Nat.le_refl _)
      rw [e8, ← hR] at h
      exact h.mono fun e W h => ⟨h.1, hV.out.trans (h.2.mono hV.out.size), fun b hb => hb.keep h.2⟩
    have AL : Hid (∀ V o, Hid (Below w1.heap.size w1 V) → Hid (Below w1.heap.size w1 (V.alloc o))) := fun V o h => h.out.alloc h.out.size o
    have DR : Hid (∀ V, Hid (Below w1.heap.size w1 V) → Hid (Below w1.heap.size w1 V.drew)) := fun V h => h.out.drew
    have D2 : Hid (Below w1.heap.size w1 w2.drew) := DR.out _ K2
    clear zM hlen heach y1 y2 y3 y4 y5 y6 y7 y9 y10 y11 hnum e160 e3 em u1 u2 hR HNl HA hkey
    obtain ⟨c0, c1, c2, c3, c4, c5, c6, c7, c8, c9, c10⟩ := HK.out w2 K2.out
    clear c8 c9 c10
    go_wp2_with fail
    go_region_held3 (fun V => V.cell? ⟨w.heap.size, 0, none⟩ = some (.int .i64 ser) ∧ V.cell? ⟨w.heap.size, 1, none⟩ = some (.string iss) ∧ V.cell? ⟨w.heap.size, 2, none⟩ = some (.string sub) ∧ V.cell? ⟨w.heap.size, 3, none⟩ = some (.int .i64 fr) ∧ V.cell? ⟨w.heap.size, 4, none⟩ = some (.int .i64 till) ∧ V.cell? ⟨w.heap.size, 5, none⟩ = some (.int .i64 key) ∧ V.cell? ⟨w.heap.size, 6, none⟩ = some (.slice a nl cap) ∧ V.cell? ⟨w.heap.size, 7, none⟩ = some (.bool ca)) (first | (refine ⟨?_, ?_, ?_, ?_, ?_, ?_, ?_, ?_⟩ <;> assumption) | (have hk8 := HK.out _ (Hid.out (by assumption)); exact ⟨hk8.1, hk8.2.1, hk8.2.2.1, hk8.2.2.2.1, hk8.2.2.2.2.1, hk8.2.2.2.2.2.1, hk8.2.2.2.2.2.2.1, hk8.2.2.2.2.2.2.2.1⟩) | go_keep)
      (first
        | (go_at_call 70; refine (PI.out _ _ (by first | assumption | exact AL.out _ _ (by assumption) | exact AL.out _ _ (AL.out _ _ (by assumption)) | exact DR.out _ (AL.out _ _ (by assumption))) (by assumption)).mono ?_; rintro r V1 ⟨rfl, k1, kp1⟩; (first | have rk := kp1.out _ (by assumption) | have rk := kp1.out _ (RowK.al (by assumption)) | have rk := kp1.out _ (heap_alloc_new _ _) | have rk := kp1.out _ (RowK.al (heap_alloc_new _ _)) | skip); (try simp at rk))
        | (go_at_call 69; refine (P160.out _ _ (by first | assumption | exact AL.out _ _ (by assumption) | exact AL.out _ _ (AL.out _ _ (by assumption)) | exact DR.out _ (AL.out _ _ (by assumption))) (by first | exact heap_alloc_new _ _ | exact heap_alloc2 _ _ _ | exact alKeep (heap_alloc_new _ _))).mono ?_; rintro r V2 ⟨rfl, k2, kp2⟩; (first | have rk := kp2.out _ (by assumption) | have rk := kp2.out _ (RowK.al (by assumption)) | have rk := kp2.out _ (heap_alloc_new _ _) | have rk := kp2.out _ (RowK.al (heap_alloc_new _ _)) | skip); (try simp at rk))
        | (go_at_call 38; refine (PK.out _ (by first | assumption | exact AL.out _ _ (by assumption) | exact AL.out _ _ (AL.out _ _ (by assumption)) | exact DR.out _ (AL.out _ _ (by assumption)))).mono ?_; rintro r V3 ⟨rfl, k3, kp3⟩; (first | have rk := kp3.out _ (by assumption) | have rk := kp3.out _ (RowK.al (by assumption)) | have rk := kp3.out _ (heap_alloc_new _ _) | have rk := kp3.out _ (RowK.al (heap_alloc_new _ _)) | skip); (try simp at rk))
        | (go_at_call 71; refine (PN.out _ _ (by first | assumption | exact AL.out _ _ (by assumption) | exact AL.out _ _ (AL.out _ _ (by assumption)) | exact DR.out _ (AL.out _ _ (by assumption))) (by assumption)).mono ?_; rintro r V4 ⟨rfl, k4, kp4⟩; (first | have rk := kp4.out _ (by assumption) | have rk := kp4.out _ (RowK.al (by assumption)) | have rk := kp4.out _ (heap_alloc_new _ _) | have rk := kp4.out _ (RowK.al (heap_alloc_new _ _)) | skip); (try simp at rk))
        | (go_at_call 72; refine (PM.out _ (by first | assumption | exact AL.out _ _ (by assumption) | exact AL.out _ _ (AL.out _ _ (by assumption)) | exact DR.out _ (AL.out _ _ (by assumption)))).mono ?_; rintro r V6 ⟨rfl, k39, kp6⟩)
        | (go_at_call 36; have _ := k39; refine (PS8.out _ _ (by first | assumption | exact AL.out _ _ (by assumption) | exact AL.out _ _ (AL.out _ _ (by assumption)) | exact DR.out _ (AL.out _ _ (by assumption))) (by first | exact heap_alloc_new _ _ | exact heap_alloc2 _ _ _ | exact alKeep (heap_alloc_new _ _))).mono ?_; rintro r V7 ⟨rfl, k7, kp7⟩)
        | (go_at_call 36; refine (PS2.out _ _ _ _ (by first | assumption | exact AL.out _ _ (by assumption) | exact AL.out _ _ (AL.out _ _ (by assumption)) | exact DR.out _ (AL.out _ _ (by assumption))) (by first | exact heap_alloc_new _ _ | exact heap_alloc2 _ _ _ | exact alKeep (heap_alloc_new _ _)) (by assumption)).mono ?_; rintro r V8 ⟨rfl, k8, kp8⟩; (first | have rk := kp8.out _ (by assumption) | have rk := kp8.out _ (RowK.al (by assumption)) | have rk := kp8.out _ (heap_alloc_new _ _) | have rk := kp8.out _ (RowK.al (heap_alloc_new _ _)) | skip); (try simp at rk))
        | (go_at_call 39; refine (PNu.out _ _ (by first | assumption | exact AL.out _ _ (by assumption) | exact AL.out _ _ (AL.out _ _ (by assumption)) | exact DR.out _ (AL.out _ _ (by assumption))) (by first | assumption | exact RowK.al (by assumption) | exact heap_alloc_new _ _ | exact heap_alloc2 _ _ _ | exact RowK.al (heap_alloc_new _ _))).mono ?_; rintro r V5 ⟨rfl, k5, kp5⟩))
    all_goals
      go_wp2
      go_ret
      exact ⟨rfl, HB.out _ (Hid.out (by assumption))⟩
end Go.Proofs.YtfliacfeebooeaaGreatDoor
namespace Go.Proofs.YtfliacfeebooeaaGreatDoor
open Go.RowKit

set_option maxHeartbeats 8000000 in
set_option maxRecDepth 100000 in
theorem implCertBytes (c : Paper) (a : Option Addr) (cap : Nat) (w : World) (hi : c.issuer.size ≤ maxLen) (hs : c.subject.size ≤ maxLen) (hl : c.names.length ≤ 1048576) (ht : totS c.names c.names.length ≤ 1048576) (ha : IsStrs w a c.names) :
    Calls Tryz.prog 14 #[c.val (.slice a c.names.length cap)] w fun e w' => e = .returned (.string (certBytesD c)) ∧ Below w.heap.size w w' := by
  have HP : Hid (∀ V, IsStrs V a c.names → Calls Tryz.prog 13 #[c.val (.slice a c.names.length cap)] V fun e w' => e = .returned (.bool (certB c)) ∧ Below V.heap.size V w') := fun V hV => implCert c a cap V hi hs hl ht hV
  have HN : Hid (certB c = false → certBytesD c = ⟨#[]⟩) := fun h => by show (if _ then _ else _) = _; rw [if_neg (by rw [h]; simp)]
  have HY : Hid (certB c = true → certBytesD c = seqD (bodyD c ++ (kindD ++ thingD 3 (sigT c.sk c.se c.ss)))) := fun h => if_pos h
  have HQ : Hid (certB c = true → ∀ V, IsStrs V a c.names → Calls Tryz.prog 37 #[c.val (.slice a c.names.length cap)] V fun e w' => e = .returned (.string (bodyD c)) ∧ Below V.heap.size V w') := fun h V hV => by
    have k := implBody c a cap V hi hs hl ht hV
    unfold certBodyD at k
    rw [if_pos (certB_paper h)] at k
    exact k
  have HZ : Hid (certB c = true → (bodyD c).size ≤ 900) := fun h => bodyD_le (paper_fits (certB_paper h))
  have HSg : Hid (certB c = true → (1 < c.sk ∧ c.sk < 2147483579) ∧ (0 ≤ c.se ∧ c.se < 1073741789) ∧ 0 ≤ c.ss ∧ c.ss < 1073741789) := certB_sig
  have zS := sigT_le c.sk c.se c.ss
  have zS' := thingD_le 3 (sigT c.sk c.se c.ss)
  have zK := kindD_le
  generalize certBytesD c = R at *
  generalize certB c = P at *
  generalize bodyD c = D at *
  clear hi hs hl ht
  obtain ⟨ser, iss, sub, fr, till, key, names, ca, sk, se, ss⟩ := c
  unfold Paper.val at *
  simp only at HP HQ HSg HY zS zS' ha ⊢
  generalize names.length = nl at *
  obtain ⟨w1, hw1⟩ : ∃ w1, w1 = w.alloc (.cells #[.int .i64 ser, .string iss, .string sub, .int .i64 fr, .int .i64 till, .int .i64 key, .slice a nl cap, .bool ca, .int .i64 sk, .int .i64 se, .int .i64 ss] 26 (0, 0)) := ⟨_, rfl⟩
  have r0 : w1.heap[w.heap.size]? = some (.cells [Value.int .i64 ser, .string iss, .string sub, .int .i64 fr, .int .i64 till, .int .i64 key, .slice a nl cap, .bool ca, .int .i64 sk, .int .i64 se, .int .i64 ss].toArray 26 (0, 0)) := by rw [hw1]; exact heap_alloc_new w _
  have B1 : Hid (Below w.heap.size w w1) := by rw [hw1]; exact (Below.refl _ _).alloc (Nat.le_refl _) _
  have z1 : w.heap.size < w1.heap.size := by rw [hw1]; simp
  have HK : Hid (∀ V, Below w1.heap.size w1 V → V.cell? ⟨w.heap.size, 0, none⟩ = some (.int .i64 ser) ∧ V.cell? ⟨w.heap.size, 1, none⟩ = some (.string iss) ∧ V.cell? ⟨w.heap.size, 2, none⟩ = some (.string sub) ∧ V.cell? ⟨w.heap.size, 3, none⟩ = some (.int .i64 fr) ∧ V.cell? ⟨w.heap.size, 4, none⟩ = some (.int .i64 till) ∧ V.cell? ⟨w.heap.size, 5, none⟩ = some (.int .i64 key) ∧ V.cell? ⟨w.heap.size, 6, none⟩ = some (.slice a nl cap) ∧ V.cell? ⟨w.heap.size, 7, none⟩ = some (.bool ca) ∧ V.cell? ⟨w.heap.size, 8, none⟩ = some (.int .i64 sk) ∧ V.cell? ⟨w.heap.size, 9, none⟩ = some (.int .i64 se) ∧ V.cell? ⟨w.heap.size, 10, none⟩ = some (.int .i64 ss)) := fun V hV => by
    have hP := (hV.block _ z1).trans r0
    exact ⟨rowFacts hP 0 _ rfl, rowFacts hP 1 _ rfl, rowFacts hP 2 _ rfl, rowFacts hP 3 _ rfl, rowFacts hP 4 _ rfl, rowFacts hP 5 _ rfl, rowFacts hP 6 _ rfl, rowFacts hP 7 _ rfl, rowFacts hP 8 _ rfl, rowFacts hP 9 _ rfl, rowFacts hP 10 _ rfl⟩
  have HA : Hid (∀ V, Below w1.heap.size w1 V → IsStrs V a names) := fun V hV => (ha.keep B1.out).keep hV
  have HB : Hid (∀ V, Below w1.heap.size w1 V → Below w.heap.size w V) := fun V hV => B1.out.trans (hV.mono B1.out.size)
  clear r0 ha z1 B1
  go_enter Tryz.func14, Tryz.ntmps14
  go_upto_region 1 with fail
  rw [← hw1]
  clear hw1
  obtain ⟨c0, c1, c2, c3, c4, c5, c6, c7, c8, c9, c10⟩ := HK.out w1 (Below.refl _ _)
  go_wp2_with fail
  refine (HP.out _ (HA.out _ (Below.refl _ _))).mono ?_
  rintro e w2 ⟨rfl, b2⟩
  have K2 : Hid (Below w1.heap.size w1 w2) := b2
  clear b2 c0 c1 c2 c3 c4 c5 c6 c7 c8 c9 c10 HP
  cases P with
  | false =>
    have HF : Hid (R = ⟨#[]⟩) := HN.out rfl
    go_wp2
    go_ret
    exact ⟨by rw [HF.out]; rfl, HB.out _ K2.out⟩
  | true =>
    have hR := HY.out rfl
    have zD := HZ.out rfl
    have Q1 := HQ.out rfl
    obtain ⟨m1, m2, m3⟩ := HSg.out rfl
    have hnum : numsD [sk, se, ss] 3 = sigT sk se ss := rfl
    obtain ⟨G, eG⟩ : ∃ q, q = thingD 3 (sigT sk se ss) := ⟨_, rfl⟩
    rw [← eG] at hR zS'
    have PB : Hid (∀ V, Hid (Below w1.heap.size w1 V) → Calls Tryz.prog 37 #[.agg #[.int .i64 ser, .string iss, .string sub, .int .i64 fr, .int .i64 till, .int .i64 key, .slice a nl cap, .bool ca, .int .i64 sk, .int .i64 se, .int .i64 ss]] V fun e W => e = .returned (.string (D)) ∧ Hid (Below w1.heap.size w1 W) ∧ Hid (∀ b, Row3 sk se ss V b → Row3 sk se ss W b)) := fun V hV => (Q1 V (HA.out V hV.out)).mono fun e W h => ⟨h.1, hV.out.trans (h.2.mono hV.out.size), fun b hb => hb.keep h.2⟩
    have PK : Hid (∀ V, Hid (Below w1.heap.size w1 V) → Calls Tryz.prog 38 #[] V fun e W => e = .returned (.string (kindD)) ∧ Hid (Below w1.heap.size w1 W) ∧ Hid (∀ b, Row3 sk se ss V b → Row3 sk se ss W b)) := fun V hV => (implKind V).mono fun e W h => ⟨h.1, hV.out.trans (h.2.mono hV.out.size), fun b hb => hb.keep h.2⟩
    have PNu : Hid (∀ V (g : Nat), Hid (Below w1.heap.size w1 V) → Row3 sk se ss V g → Calls Tryz.prog 39 #[.slice (some ⟨g, 0, none⟩) 3 3] V fun e W => e = .returned (.string (G)) ∧ Hid (Below w1.heap.size w1 W) ∧ Hid (∀ b, Row3 sk se ss V b → Row3 sk se ss W b)) := fun V g hV hg => by
      rw [eG, ← hnum]
      exact (implNumbers (some ⟨g, 0, none⟩) [sk, se, ss] 3 V (by simp) (fun i hi => by
        have h' : i = 0 ∨ i = 1 ∨ i = 2 := by have : i < 3 := hi; omega
        rcases h' with rfl | rfl | rfl
        · show _ ≤ sk ∧ sk ≤ _; omega
        · show _ ≤ se ∧ se ≤ _; omega
        · show _ ≤ ss ∧ ss ≤ _; omega) (IsInts.row (rest := []) hg)).mono fun e W h => ⟨h.1, hV.out.trans (h.2.mono hV.out.size), fun b hb => hb.keep h.2⟩
    have PS : Hid (∀ V (g : Nat), Hid (Below w1.heap.size w1 V) → V.heap[g]? = some (.cells #[.string D, .string kindD, .string G] 9 (0, 0)) → Calls Tryz.prog 36 #[.slice (some ⟨g, 0, none⟩) 3 3] V fun e W => e = .returned (.string (R)) ∧ Hid (Below w1.heap.size w1 W) ∧ Hid (∀ b, Row3 sk se ss V b → Row3 sk se ss W b)) := fun V g hV hg => by
      rw [hR]
      exact (implSeq3 D kindD G g V (by omega) hg).mono fun e W h => ⟨h.1, hV.out.trans (h.2.mono hV.out.size), fun b hb => hb.keep h.2⟩
    have AL : Hid (∀ V o, Hid (Below w1.heap.size w1 V) → Hid (Below w1.heap.size w1 (V.alloc o))) := fun V o h => h.out.alloc h.out.size o
    have DR : Hid (∀ V, Hid (Below w1.heap.size w1 V) → Hid (Below w1.heap.size w1 V.drew)) := fun V h => h.out.drew
    have D2 : Hid (Below w1.heap.size w1 w2.drew) := DR.out _ K2
    clear HN HY HZ HQ HSg Q1 hR zD zS zS' zK eG hnum m1 m2 m3 HA
    obtain ⟨c0, c1, c2, c3, c4, c5, c6, c7, c8, c9, c10⟩ := HK.out w2 K2.out
    go_wp2_with fail
    go_region_held3 (fun V => V.cell? ⟨w.heap.size, 0, none⟩ = some (.int .i64 ser) ∧ V.cell? ⟨w.heap.size, 1, none⟩ = some (.string iss) ∧ V.cell? ⟨w.heap.size, 2, none⟩ = some (.string sub) ∧ V.cell? ⟨w.heap.size, 3, none⟩ = some (.int .i64 fr) ∧ V.cell? ⟨w.heap.size, 4, none⟩ = some (.int .i64 till) ∧ V.cell? ⟨w.heap.size, 5, none⟩ = some (.int .i64 key) ∧ V.cell? ⟨w.heap.size, 6, none⟩ = some (.slice a nl cap) ∧ V.cell? ⟨w.heap.size, 7, none⟩ = some (.bool ca) ∧ V.cell? ⟨w.heap.size, 8, none⟩ = some (.int .i64 sk) ∧ V.cell? ⟨w.heap.size, 9, none⟩ = some (.int .i64 se) ∧ V.cell? ⟨w.heap.size, 10, none⟩ = some (.int .i64 ss)) (first | (refine ⟨?_, ?_, ?_, ?_, ?_, ?_, ?_, ?_, ?_, ?_, ?_⟩ <;> assumption) | exact HK.out _ (Hid.out (by assumption)) | go_keep)
      (first
        | (go_at_call 37; refine (PB.out _ (by first | assumption | exact AL.out _ _ (by assumption) | exact AL.out _ _ (AL.out _ _ (by assumption)) | exact DR.out _ (AL.out _ _ (by assumption)))).mono ?_; rintro r V1 ⟨rfl, k1, kp1⟩; (first | have rk := kp1.out _ (by assumption) | have rk := kp1.out _ (Row3.al (by assumption)) | have rk := kp1.out _ (heap_alloc_new _ _) | have rk := kp1.out _ (Row3.al (heap_alloc_new _ _)) | skip); (try simp at rk))
        | (go_at_call 38; refine (PK.out _ (by first | assumption | exact AL.out _ _ (by assumption) | exact AL.out _ _ (AL.out _ _ (by assumption)) | exact DR.out _ (AL.out _ _ (by assumption)))).mono ?_; rintro r V2 ⟨rfl, k2, kp2⟩; (first | have rk := kp2.out _ (by assumption) | have rk := kp2.out _ (Row3.al (by assumption)) | have rk := kp2.out _ (heap_alloc_new _ _) | have rk := kp2.out _ (Row3.al (heap_alloc_new _ _)) | skip); (try simp at rk))
        | (go_at_call 39; refine (PNu.out _ _ (by first | assumption | exact AL.out _ _ (by assumption) | exact AL.out _ _ (AL.out _ _ (by assumption)) | exact DR.out _ (AL.out _ _ (by assumption))) (by first | assumption | exact Row3.al (by assumption) | exact heap_alloc_new _ _ | exact heap_alloc2 _ _ _ | exact Row3.al (heap_alloc_new _ _))).mono ?_; rintro r V3 ⟨rfl, k3, kp3⟩)
        | (go_at_call 36; refine (PS.out _ _ (by first | assumption | exact AL.out _ _ (by assumption) | exact AL.out _ _ (AL.out _ _ (by assumption)) | exact DR.out _ (AL.out _ _ (by assumption))) (by first | exact heap_alloc_new _ _ | exact heap_alloc2 _ _ _ | exact alKeep (heap_alloc_new _ _))).mono ?_; rintro r V4 ⟨rfl, k4, kp4⟩))
    all_goals
      go_wp2
      go_ret
      exact ⟨rfl, HB.out _ k4.out⟩
end Go.Proofs.YtfliacfeebooeaaGreatDoor
namespace Go.Proofs.YtfliacfeebooeaaGreatDoor
open Go.RowKit

set_option linter.unusedSimpArgs false in
set_option maxHeartbeats 8000000 in
set_option maxRecDepth 100000 in
theorem implCertRead (s : ByteArray) (w : World) (hs : s.size ≤ maxLen) (hE : ErrType w) :
    Calls Tryz.prog 5 #[.string s] w fun e w' => ∃ v, e = .returned (certV (certR s).1 v (certR s).2) ∧ OwnS w' w.heap.size v (certR s).1.names ∧ Below w.heap.size w w' := by
  obtain ⟨w1, hw1⟩ : ∃ y, y = w.alloc (.cells #[Value.int .i64 0, .string ⟨#[]⟩, .string ⟨#[]⟩, .int .i64 0, .int .i64 0, .int .i64 0, .slice none 0 0, .bool false, .int .i64 0, .int .i64 0, .int .i64 0, .int .i64 0] 28 (0, 0)) := ⟨_, rfl⟩
  have hz : w1.heap.size = w.heap.size + 1 := by rw [hw1]; simp
  have hg1 : w1.heap[w.heap.size]? = some (.cells [Value.int .i64 0, .string ⟨#[]⟩, .string ⟨#[]⟩, .int .i64 0, .int .i64 0, .int .i64 0, .slice none 0 0, .bool false, .int .i64 0, .int .i64 0, .int .i64 0, .int .i64 0].toArray 28 (0, 0)) := by rw [hw1]; exact heap_alloc_new w _
  have hB1 : Below w.heap.size w w1 := by rw [hw1]; exact (Below.refl _ w).alloc (Nat.le_refl _) _
  have HB : Hid (∀ V, Below w1.heap.size w1 V → Below w.heap.size w V) := fun V hV => hB1.trans (hV.mono (by omega))
  have HRes : Hid (∀ V, Below w1.heap.size w1 V → V.heap[w.heap.size]? = some (.cells [Value.int .i64 0, .string ⟨#[]⟩, .string ⟨#[]⟩, .int .i64 0, .int .i64 0, .int .i64 0, .slice none 0 0, .bool false, .int .i64 0, .int .i64 0, .int .i64 0, .int .i64 0].toArray 28 (0, 0))) := fun V hV => by rw [hV.block _ (by omega)]; exact hg1
  have HTl : Hid (∀ V, Calls Tryz.prog 11 #[.string s] V fun e w' => e = .returned (.bool (decide (20000 < s.size))) ∧ w' = V) := fun V => tooLong s V hs
  have hEp := hE.pos
  have HRd : Hid (¬ 20000 < s.size → ∀ V, Below w1.heap.size w1 V → Calls Tryz.prog 12 #[.string s] V fun e w' => ∃ v, e = .returned ((readP s).val v) ∧ OwnS w' V.heap.size v (readP s).names ∧ Below V.heap.size V w') := fun h V hV => implReadCert s V (by omega) (hE.below (HB.out V hV) hEp)
  have HNf : Hid (((readP s).issuer.size ≤ maxLen ∧ (readP s).subject.size ≤ maxLen) ∧ (readP s).names.length ≤ 1048576 ∧ totS (readP s).names (readP s).names.length ≤ 1048576) := ⟨readP_texts s, readP_names s⟩
  have HRn : Hid (¬ 20000 < s.size → certR s = if certB (readP s) = true ∧ certBytesD (readP s) = s then (readP s, 0) else (zeroPaper, 3)) := fun h => by show _ = _; rw [certR, if_neg h]
  obtain ⟨R, hR⟩ : ∃ R, R = certR s := ⟨_, rfl⟩
  rw [← hR]
  have HR : Hid (R = certR s) := hR
  have I1 : Hid (Below w1.heap.size w1 w1) := Below.refl _ _
  have Z1 : Hid (w1.heap.size = w.heap.size + 1) := hz
  clear hR hg1 hB1 hz hE hEp
  go_enter Tryz.func5, Tryz.ntmps5
  go_upto_region 1 with fail
  rw [← hw1]
  clear hw1
  go_wp2_with fail
  refine (HTl.out _).mono ?_
  rintro e w2 ⟨rfl, rfl⟩
  by_cases hl : 20000 < s.size
  · have HF : Hid (R = (zeroPaper, 2)) := by show _ = _; rw [HR.out, certR, if_pos hl]
    have hd : decide (20000 < s.size) = true := decide_eq_true hl
    rw [hd]
    go_wp2_with (refine wpList_store_row rfl 28 _ _ rfl (w.heap.size) _ [Value.int .i64 0, .string ⟨#[]⟩, .string ⟨#[]⟩, .int .i64 0, .int .i64 0, .int .i64 0, .slice none 0 0, .bool false, .int .i64 0, .int .i64 0, .int .i64 0, .int .i64 2] 28 rfl rfl (HRes.out _ I1.out) rfl sizeCertOut (by simp [Value.oneCell']) ?_)
    intro w8 hrow ho hs8 hbb
    have HROW : Hid _ := hrow
    have HB8 : Hid (Below w.heap.size w w8) := hbb _ _ (Nat.le_refl _) (HB.out _ I1.out)
    clear ho hs8 hbb hrow
    go_wp2
    refine bodyPost_ret (v := .agg [Value.int .i64 0, .string ⟨#[]⟩, .string ⟨#[]⟩, .int .i64 0, .int .i64 0, .int .i64 0, .slice none 0 0, .bool false, .int .i64 0, .int .i64 0, .int .i64 0, .int .i64 2].toArray) ?_ rfl ⟨.slice none 0 0, by rw [HF.out]; rfl, by rw [HF.out]; exact ownS_nil _ _, HB8.out⟩
    have hl3 := run_loadVar_mid (P := Tryz.prog) _ (w.heap.size) 0 28 _ _ (rangeRow HROW.out) Tryz.underlying28 rfl sizeCertOut
    simp [results, Tryz.results5, asAddr, hl3]
  · have hd : decide (20000 < s.size) = false := decide_eq_false hl
    rw [hd]
    have HRd' : Hid _ := HRd.out hl
    have HRn' : Hid _ := HRn.out hl
    rw [← HR.out] at HRn'
    clear HRd HRn HR
    go_wp2_with fail
    refine (HRd'.out _ I1.out).mono ?_
    rintro e w3 ⟨v, rfl, o3, b3⟩
    clear HRd'
    obtain ⟨va, vc, rfl, _⟩ := OwnS.form o3
    have O3 : Hid (OwnS w3 (w.heap.size + 1) (.slice va (readP s).names.length vc) (readP s).names) := o3.mono (by rw [Z1.out]; omega)
    have B3 : Hid (Below w2.heap.size w2 w3) := b3
    clear o3 b3
    obtain ⟨c, hc⟩ : ∃ c, c = readP s := ⟨_, rfl⟩
    rw [← hc] at O3 HNf HRn'
    rw [← hc]
    have HIs : Hid (∀ V, Below w3.heap.size w3 V → IsStrs V va c.names) := fun V hV => O3.out.strs.keep hV
    have HCr : Hid (∀ V, Below w3.heap.size w3 V → Calls Tryz.prog 13 #[c.val (.slice va c.names.length vc)] V fun e w' => e = .returned (.bool (certB c)) ∧ Below V.heap.size V w') := fun V hV => implCert c va vc V HNf.out.1.1 HNf.out.1.2 HNf.out.2.1 HNf.out.2.2 (HIs.out V hV)
    have HCb : Hid (∀ V, Below w3.heap.size w3 V → Calls Tryz.prog 14 #[c.val (.slice va c.names.length vc)] V fun e w' => e = .returned (.string (certBytesD c)) ∧ Below V.heap.size V w') := fun V hV => implCertBytes c va vc V HNf.out.1.1 HNf.out.1.2 HNf.out.2.1 HNf.out.2.2 (HIs.out V hV)
    clear hc HNf HIs
    generalize certB c = P at *
    generalize certBytesD c = Y at *
    obtain ⟨serial, iss, sub, fr, till, key, names, ca, sk, se, ss⟩ := c
    unfold Paper.val at *
    simp only at HCr HCb O3 ⊢
    obtain ⟨w4, hw4⟩ : ∃ y, y = w3.alloc (.cells #[Value.int .i64 serial, .string iss, .string sub, .int .i64 fr, .int .i64 till, .int .i64 key, .slice va names.length vc, .bool ca, .int .i64 sk, .int .i64 se, .int .i64 ss] 26 (0, 0)) := ⟨_, rfl⟩
    have b4 : Below w3.heap.size w3 w4 := by rw [hw4]; exact (Below.refl _ w3).alloc (Nat.le_refl _) _
    have G4 : Hid (w4.heap[w3.heap.size]? = some (.cells [Value.int .i64 serial, .string iss, .string sub, .int .i64 fr, .int .i64 till, .int .i64 key, .slice va names.length vc, .bool ca, .int .i64 sk, .int .i64 se, .int .i64 ss].toArray 26 (0, 0))) := by show _ = _; rw [hw4]; exact heap_alloc_new w3 _
    have B4 : Hid (Below w3.heap.size w3 w4) := b4
    have O4 : Hid (OwnS w4 (w.heap.size + 1) (.slice va names.length vc) names) := O3.out.keep b4
    have K4 : Hid (Below w2.heap.size w2 w4) := B3.out.trans (b4.mono B3.out.size)
    clear b4 O3
    have d0 := rowFacts G4.out 0 _ rfl
    have d1 := rowFacts G4.out 1 _ rfl
    have d2 := rowFacts G4.out 2 _ rfl
    have d3 := rowFacts G4.out 3 _ rfl
    have d4 := rowFacts G4.out 4 _ rfl
    have d5 := rowFacts G4.out 5 _ rfl
    have d6 := rowFacts G4.out 6 _ rfl
    have d7 := rowFacts G4.out 7 _ rfl
    have d8 := rowFacts G4.out 8 _ rfl
    have d9 := rowFacts G4.out 9 _ rfl
    have d10 := rowFacts G4.out 10 _ rfl
    go_upto_region 4 with fail
    rw [← hw4]
    clear hw4
    go_wp2_with fail
    refine (HCr.out w4 B4.out).mono ?_
    rintro e w5 ⟨rfl, b5⟩
    have B5 : Hid (Below w3.heap.size w3 w5) := B4.out.trans (b5.mono B4.out.size)
    have K5 : Hid (Below w2.heap.size w2 w5) := K4.out.trans (b5.mono K4.out.size)
    have G5 : Hid (w5.heap[w3.heap.size]? = some (.cells [Value.int .i64 serial, .string iss, .string sub, .int .i64 fr, .int .i64 till, .int .i64 key, .slice va names.length vc, .bool ca, .int .i64 sk, .int .i64 se, .int .i64 ss].toArray 26 (0, 0))) := (b5.block _ (heap_lt G4.out)).trans G4.out
    have O5 : Hid (OwnS w5 (w.heap.size + 1) (.slice va names.length vc) names) := O4.out.keep b5
    clear b5 d0 d1 d2 d3 d4 d5 d6 d7 d8 d9 d10 HCr B4 K4 G4 O4
    cases P with
    | false =>
      have HF : Hid (R = (zeroPaper, 3)) := by show _ = _; rw [HRn'.out, if_neg (by simp)]
      go_wp2_with (refine wpList_store_row rfl 28 _ _ rfl (w.heap.size) _ [Value.int .i64 0, .string ⟨#[]⟩, .string ⟨#[]⟩, .int .i64 0, .int .i64 0, .int .i64 0, .slice none 0 0, .bool false, .int .i64 0, .int .i64 0, .int .i64 0, .int .i64 3] 28 rfl rfl (HRes.out _ K5.out) rfl sizeCertOut (by simp [Value.oneCell']) ?_)
      intro w8 hrow ho hs8 hbb
      have HROW : Hid _ := hrow
      have HB8 : Hid (Below w.heap.size w w8) := hbb _ _ (Nat.le_refl _) (HB.out _ K5.out)
      clear ho hs8 hbb hrow
      go_wp2
      refine bodyPost_ret (v := .agg [Value.int .i64 0, .string ⟨#[]⟩, .string ⟨#[]⟩, .int .i64 0, .int .i64 0, .int .i64 0, .slice none 0 0, .bool false, .int .i64 0, .int .i64 0, .int .i64 0, .int .i64 3].toArray) ?_ rfl ⟨.slice none 0 0, by rw [HF.out]; rfl, by rw [HF.out]; exact ownS_nil _ _, HB8.out⟩
      have hl3 := run_loadVar_mid (P := Tryz.prog) _ (w.heap.size) 0 28 _ _ (rangeRow HROW.out) Tryz.underlying28 rfl sizeCertOut
      simp [results, Tryz.results5, asAddr, hl3]
    | true =>
    have d0 := rowFacts G5.out 0 _ rfl
    have d1 := rowFacts G5.out 1 _ rfl
    have d2 := rowFacts G5.out 2 _ rfl
    have d3 := rowFacts G5.out 3 _ rfl
    have d4 := rowFacts G5.out 4 _ rfl
    have d5 := rowFacts G5.out 5 _ rfl
    have d6 := rowFacts G5.out 6 _ rfl
    have d7 := rowFacts G5.out 7 _ rfl
    have d8 := rowFacts G5.out 8 _ rfl
    have d9 := rowFacts G5.out 9 _ rfl
    have d10 := rowFacts G5.out 10 _ rfl
    go_wp2_with fail
    refine (HCb.out w5 B5.out).mono ?_
    rintro e w6 ⟨rfl, b6⟩
    have K6 : Hid (Below w2.heap.size w2 w6) := K5.out.trans (b6.mono K5.out.size)
    have G6 : Hid (w6.heap[w3.heap.size]? = some (.cells [Value.int .i64 serial, .string iss, .string sub, .int .i64 fr, .int .i64 till, .int .i64 key, .slice va names.length vc, .bool ca, .int .i64 sk, .int .i64 se, .int .i64 ss].toArray 26 (0, 0))) := (b6.block _ (heap_lt G5.out)).trans G5.out
    have O6 : Hid (OwnS w6 (w.heap.size + 1) (.slice va names.length vc) names) := O5.out.keep b6
    clear b6 d0 d1 d2 d3 d4 d5 d6 d7 d8 d9 d10 HCb B5 K5 G5 O5
    by_cases hY : Y = s
    rotate_left
    · have HF : Hid (R = (zeroPaper, 3)) := by show _ = _; rw [HRn'.out, if_neg (fun h => hY h.2)]
      have e1 : (Y.toList == s.toList) = false := by rw [same_text, decide_eq_false hY]
      have e2 : (Y.toList != s.toList) = true := by rw [bne, e1]; rfl
      go_wp2_with (refine wpList_store_row rfl 28 _ _ rfl (w.heap.size) _ [Value.int .i64 0, .string ⟨#[]⟩, .string ⟨#[]⟩, .int .i64 0, .int .i64 0, .int .i64 0, .slice none 0 0, .bool false, .int .i64 0, .int .i64 0, .int .i64 0, .int .i64 3] 28 rfl rfl (HRes.out _ K6.out) rfl sizeCertOut (by simp [Value.oneCell']) ?_)
      intro w8 hrow ho hs8 hbb
      have HROW : Hid _ := hrow
      have HB8 : Hid (Below w.heap.size w w8) := hbb _ _ (Nat.le_refl _) (HB.out _ K6.out)
      clear ho hs8 hbb hrow
      go_wp2
      refine bodyPost_ret (v := .agg [Value.int .i64 0, .string ⟨#[]⟩, .string ⟨#[]⟩, .int .i64 0, .int .i64 0, .int .i64 0, .slice none 0 0, .bool false, .int .i64 0, .int .i64 0, .int .i64 0, .int .i64 3].toArray) ?_ rfl ⟨.slice none 0 0, by rw [HF.out]; rfl, by rw [HF.out]; exact ownS_nil _ _, HB8.out⟩
      have hl3 := run_loadVar_mid (P := Tryz.prog) _ (w.heap.size) 0 28 _ _ (rangeRow HROW.out) Tryz.underlying28 rfl sizeCertOut
      simp [results, Tryz.results5, asAddr, hl3]
    have HF : Hid (R = (⟨serial, iss, sub, fr, till, key, names, ca, sk, se, ss⟩, 0)) := by show _ = _; rw [HRn'.out, if_pos ⟨trivial, hY⟩]
    have e2 : (Y.toList != s.toList) = false := by rw [bne, same_text, decide_eq_true hY]; rfl
    clear HRn'
    have d0 := rowFacts G6.out 0 _ rfl
    have d1 := rowFacts G6.out 1 _ rfl
    have d2 := rowFacts G6.out 2 _ rfl
    have d3 := rowFacts G6.out 3 _ rfl
    have d4 := rowFacts G6.out 4 _ rfl
    have d5 := rowFacts G6.out 5 _ rfl
    have d6 := rowFacts G6.out 6 _ rfl
    have d7 := rowFacts G6.out 7 _ rfl
    have d8 := rowFacts G6.out 8 _ rfl
    have d9 := rowFacts G6.out 9 _ rfl
    have d10 := rowFacts G6.out 10 _ rfl
    go_wp2_with (refine wpList_store_row rfl 28 _ _ rfl (w.heap.size) _ [Value.int .i64 serial, .string iss, .string sub, .int .i64 fr, .int .i64 till, .int .i64 key, .slice va names.length vc, .bool ca, .int .i64 sk, .int .i64 se, .int .i64 ss, .int .i64 0] 28 rfl rfl (HRes.out _ K6.out) rfl sizeCertOut (by simp [Value.oneCell']) ?_)
    intro w8 hrow ho hs8 hbb
    have HROW : Hid _ := hrow
    have HB8 : Hid (Below w.heap.size w w8) := hbb _ _ (Nat.le_refl _) (HB.out _ K6.out)
    have O8 : Hid (OwnS w8 (w.heap.size + 1) (.slice va names.length vc) names) := O6.out.same fun b h1 h2 => ho b (by omega)
    clear ho hs8 hbb hrow
    go_wp2
    refine bodyPost_ret (v := .agg [Value.int .i64 serial, .string iss, .string sub, .int .i64 fr, .int .i64 till, .int .i64 key, .slice va names.length vc, .bool ca, .int .i64 sk, .int .i64 se, .int .i64 ss, .int .i64 0].toArray) ?_ rfl ⟨.slice va names.length vc, by rw [HF.out]; rfl, by rw [HF.out]; exact O8.out.mono (by omega), HB8.out⟩
    have hl3 := run_loadVar_mid (P := Tryz.prog) _ (w.heap.size) 0 28 _ _ (rangeRow HROW.out) Tryz.underlying28 rfl sizeCertOut
    simp [results, Tryz.results5, asAddr, hl3]
end Go.Proofs.YtfliacfeebooeaaGreatDoor
