/- impl.CertBody, walked. impl.GroupPow, walked. impl.ModMul, walked. impl.GroupMul and impl.GroupPow, walked. impl.digestNumber, walked: the number of the digest of two texts, the one behind the other. impl.tooLong, walked. impl.Challenge, walked. A Sig in memory. The method challenge of impl.signedText, walked. -/
import Derived.Test.YtkbmeenojclcmaaGreatDoorPN08
import Derived.Test.YtkbmeenojclcmaaGreatDoorPN09
import Derived.Test.YtkbmeenojclcmaaGreatDoorPN06
import Derived.Test.YtkbmeenojclcmaaGreatDoorPN02
import Derived.Test.YtkbmeenojclcmaaGreatDoorPN01
import Derived.Test.YtkbmeenojclcmaaGreatDoorPN05
import Derived.Test.YtkbmeenojclcmaaGreatDoorPN04
namespace Go.Proofs.YtkbmeenojclcmaaGreatDoor
open Go.RowKit

/-- A row of the one number n stands in block b. -/
def RowK (n : Int) (V : World) (b : Nat) : Prop := V.heap[b]? = some (.cells #[.int .i64 n] 2 (0, 0))
theorem RowK.keep {n : Int} {V W : World} {b : Nat} (h : RowK n V b) (hb : Below V.heap.size V W) : RowK n W b := (hb.block b (heap_lt h)).trans h
theorem RowK.al {n : Int} {V : World} {b : Nat} {o : Obj} (h : RowK n V b) : RowK n (V.alloc o) b := by
  unfold RowK
  rw [Below.heap_alloc _ _ _ (heap_lt h)]
  exact h
set_option maxHeartbeats 8000000 in
set_option maxRecDepth 100000 in
theorem implBody (c : Paper) (a : Option Addr) (cap : Nat) (w : World) (hi : c.issuer.size ≤ maxLen) (hs : c.subject.size ≤ maxLen) (hl : c.names.length ≤ 1048576) (ht : totS c.names c.names.length ≤ 1048576) (ha : IsStrs w a c.names) :
    Calls Tryz.prog 51 #[c.val (.slice a c.names.length cap)] w fun e w' => e = .returned (.string (certBodyD c)) ∧ Below w.heap.size w w' := by
  have HP : Hid (∀ V, IsStrs V a c.names → Calls Tryz.prog 47 #[c.val (.slice a c.names.length cap)] V fun e w' => e = .returned (.bool (paperB c)) ∧ Below V.heap.size V w') := fun V hV => implPaper c a cap V hi hs hl ht hV
  have HN : Hid (paperB c = false → certBodyD c = ⟨#[]⟩) := fun h => by show (if _ then _ else _) = _; rw [if_neg (by rw [h]; simp)]
  have HY : Hid (paperB c = true → certBodyD c = bodyD c) := fun h => if_pos h
  have HFt : Hid (paperB c = true → PFits c) := paper_fits
  generalize certBodyD c = R at *
  generalize paperB c = P at *
  clear hi hs hl ht
  obtain ⟨ser, iss, sub, fr, till, key, names, ca, sk, se, ss⟩ := c
  unfold Paper.val at *
  simp only at HP ha ⊢
  obtain ⟨nl, hnl⟩ : ∃ nl, nl = names.length := ⟨_, rfl⟩
  rw [← hnl] at HP ⊢
  have HNl : Hid (nl = names.length) := hnl
  clear hnl
  obtain ⟨w1, hw1⟩ : ∃ w1, w1 = w.alloc (.cells #[.int .i64 ser, .string iss, .string sub, .int .i64 fr, .int .i64 till, .int .i64 key, .slice a nl cap, .bool ca, .int .i64 sk, .int .i64 se, .int .i64 ss] 35 (0, 0)) := ⟨_, rfl⟩
  have r0 : w1.heap[w.heap.size]? = some (.cells [Value.int .i64 ser, .string iss, .string sub, .int .i64 fr, .int .i64 till, .int .i64 key, .slice a nl cap, .bool ca, .int .i64 sk, .int .i64 se, .int .i64 ss].toArray 35 (0, 0)) := by rw [hw1]; exact heap_alloc_new w _
  have B1 : Hid (Below w.heap.size w w1) := by rw [hw1]; exact (Below.refl _ _).alloc (Nat.le_refl _) _
  have z1 : w.heap.size < w1.heap.size := by rw [hw1]; simp
  have HK : Hid (∀ V, Below w1.heap.size w1 V → V.cell? ⟨w.heap.size, 0, none⟩ = some (.int .i64 ser) ∧ V.cell? ⟨w.heap.size, 1, none⟩ = some (.string iss) ∧ V.cell? ⟨w.heap.size, 2, none⟩ = some (.string sub) ∧ V.cell? ⟨w.heap.size, 3, none⟩ = some (.int .i64 fr) ∧ V.cell? ⟨w.heap.size, 4, none⟩ = some (.int .i64 till) ∧ V.cell? ⟨w.heap.size, 5, none⟩ = some (.int .i64 key) ∧ V.cell? ⟨w.heap.size, 6, none⟩ = some (.slice a nl cap) ∧ V.cell? ⟨w.heap.size, 7, none⟩ = some (.bool ca) ∧ V.cell? ⟨w.heap.size, 8, none⟩ = some (.int .i64 sk) ∧ V.cell? ⟨w.heap.size, 9, none⟩ = some (.int .i64 se) ∧ V.cell? ⟨w.heap.size, 10, none⟩ = some (.int .i64 ss)) := fun V hV => by
    have hP := (hV.block _ z1).trans r0
    exact ⟨rowFacts hP 0 _ rfl, rowFacts hP 1 _ rfl, rowFacts hP 2 _ rfl, rowFacts hP 3 _ rfl, rowFacts hP 4 _ rfl, rowFacts hP 5 _ rfl, rowFacts hP 6 _ rfl, rowFacts hP 7 _ rfl, rowFacts hP 8 _ rfl, rowFacts hP 9 _ rfl, rowFacts hP 10 _ rfl⟩
  have HA : Hid (∀ V, Below w1.heap.size w1 V → IsStrs V a names) := fun V hV => (ha.keep B1.out).keep hV
  have HB : Hid (∀ V, Below w1.heap.size w1 V → Below w.heap.size w V) := fun V hV => B1.out.trans (hV.mono B1.out.size)
  clear r0 ha z1 B1
  go_enter Tryz.func51, Tryz.ntmps51
  go_upto_region 1 with fail
  rw [← hw1]
  clear hw1
  obtain ⟨c0, c1, c2, c3, c4, c5, c6, c7, c8, c9, c10⟩ := HK.out w1 (Below.refl _ _)
  go_wp2_with fail
  refine (HP.out _ (HA.out _ (Below.refl _ _))).mono ?_
  rintro e w2 ⟨rfl, b2⟩
  have K2 : Hid (Below w1.heap.size w1 w2) := b2
  clear b2 c0 c1 c2 c3 c4 c5 c6 c7 c8 c9 c10 HP
  cases P with
  | false =>
    have HF : Hid (R = ⟨#[]⟩) := HN.out rfl
    go_wp2
    go_ret
    exact ⟨by rw [HF.out]; rfl, HB.out _ K2.out⟩
  | true =>
    have hR : R = bodyD _ := HY.out rfl
    have h := HFt.out rfl
    clear HN HY HFt
    have zM := moreD_le h.len h.each ca
    have hlen := h.len
    have heach := h.each
    have zi := h.iss
    have zs := h.sub
    have hser : -9223372036854775808 ≤ ser ∧ ser ≤ 9223372036854775807 := by have := h.ser0; have := h.ser1; simp only at *; omega
    have hfr : -9223372036854775808 ≤ fr ∧ fr ≤ 9223372036854775807 := by have := h.fr0; have := h.fr1; simp only at *; omega
    have htl : -9223372036854775808 ≤ till ∧ till ≤ 9223372036854775807 := by have := h.till0; have := h.till1; simp only at *; omega
    have hkey : -9223372036854775808 ≤ key ∧ key ≤ 9223372036854775807 := by have := h.key0; have := h.key1; simp only at *; omega
    have h2n : -9223372036854775808 ≤ (2 : Int) ∧ (2 : Int) ≤ 9223372036854775807 := by omega
    clear h
    unfold bodyD keyD at hR
    simp only at hR zM hlen heach zi zs
    have y1 := intD_le 2
    have y2 := intD_le ser
    have y3 := kindD_le
    have y4 := nameD_le iss
    have y5 := nameD_le sub
    have y6 := intD_le fr
    have y7 := intD_le till
    have y9 := thingD_le 160 (intD 2)
    have y10 := numsD_le [key] 1
    have y11 := thingD_le 3 (numsD [key] 1)
    have hnum : numsD [key] 1 = ⟨#[0]⟩ ++ putS key := rfl
    rw [← hnum] at hR
    obtain ⟨p160, e160⟩ : ∃ q, q = thingD 160 (intD 2) := ⟨_, rfl⟩
    obtain ⟨p3, e3⟩ : ∃ q, q = thingD 3 (numsD [key] 1) := ⟨_, rfl⟩
    obtain ⟨m, em⟩ : ∃ q, q = moreD names ca := ⟨_, rfl⟩
    rw [← e160] at hR y9
    rw [← e3] at hR y11
    rw [← em] at hR zM
    have s1 : (intD fr).size + (intD till).size ≤ 4000 := by omega
    have s2 : kindD.size + p3.size ≤ 4000 := by omega
    have u1 := seqD_le (intD fr ++ intD till)
    have u2 := seqD_le (kindD ++ p3)
    rw [ByteArray.size_append] at u1 u2
    have PI : Hid (∀ V (n : Int), Hid (Below w1.heap.size w1 V) → -9223372036854775808 ≤ n ∧ n ≤ 9223372036854775807 → Calls Tryz.prog 72 #[.int .i64 n] V fun e W => e = .returned (.string (intD n)) ∧ Hid (Below w1.heap.size w1 W) ∧ Hid (∀ b, RowK key V b → RowK key W b)) := fun V n hV hn => (implDerInt n V hn.1 hn.2).mono fun e W h => ⟨h.1, hV.out.trans (h.2.mono hV.out.size), fun b hb => hb.keep h.2⟩
    have P160 : Hid (∀ V (g : Nat), Hid (Below w1.heap.size w1 V) → V.heap[g]? = some (.cells #[.string (intD 2)] 9 (0, 0)) → Calls Tryz.prog 77 #[.int .i64 160, .slice (some ⟨g, 0, none⟩) 1 1] V fun e W => e = .returned (.string (p160)) ∧ Hid (Below w1.heap.size w1 W) ∧ Hid (∀ b, RowK key V b → RowK key W b)) := fun V g hV hg => by
      rw [e160]
      exact (implParts1 160 _ g V (by decide) (by omega) hg).mono fun e W h => ⟨h.1, hV.out.trans (h.2.mono hV.out.size), fun b hb => hb.keep h.2⟩
    have PK : Hid (∀ V, Hid (Below w1.heap.size w1 V) → Calls Tryz.prog 78 #[] V fun e W => e = .returned (.string (kindD)) ∧ Hid (Below w1.heap.size w1 W) ∧ Hid (∀ b, RowK key V b → RowK key W b)) := fun V hV => (implKind V).mono fun e W h => ⟨h.1, hV.out.trans (h.2.mono hV.out.size), fun b hb => hb.keep h.2⟩
    have PN : Hid (∀ V (b : ByteArray), Hid (Below w1.heap.size w1 V) → b.size ≤ 40 → Calls Tryz.prog 71 #[.string b] V fun e W => e = .returned (.string (nameD b)) ∧ Hid (Below w1.heap.size w1 W) ∧ Hid (∀ b, RowK key V b → RowK key W b)) := fun V b hV hb => (implNameD b V hb).mono fun e W h => ⟨h.1, hV.out.trans (h.2.mono hV.out.size), fun b hb => hb.keep h.2⟩
    have PS2 : Hid (∀ V (g : Nat) (x y : ByteArray), Hid (Below w1.heap.size w1 V) → V.heap[g]? = some (.cells #[.string x, .string y] 9 (0, 0)) → x.size + y.size ≤ 4000 → Calls Tryz.prog 70 #[.slice (some ⟨g, 0, none⟩) 2 2] V fun e W => e = .returned (.string (seqD (x ++ y))) ∧ Hid (Below w1.heap.size w1 W) ∧ Hid (∀ b, RowK key V b → RowK key W b)) := fun V g x y hV hg hs => (implSeq2 x y g V hs hg).mono fun e W h => ⟨h.1, hV.out.trans (h.2.mono hV.out.size), fun b hb => hb.keep h.2⟩
    have PNu : Hid (∀ V (g : Nat), Hid (Below w1.heap.size w1 V) → RowK key V g → Calls Tryz.prog 79 #[.slice (some ⟨g, 0, none⟩) 1 1] V fun e W => e = .returned (.string (p3)) ∧ Hid (Below w1.heap.size w1 W) ∧ Hid (∀ b, RowK key V b → RowK key W b)) := fun V g hV hg => by
      rw [e3]
      exact (implNumbers (some ⟨g, 0, none⟩) [key] 1 V (by simp) (fun i hi => by obtain rfl : i = 0 := by simpa using hi
                                                                                 exact hkey) (IsInts.row (rest := []) hg)).mono fun e W h => ⟨h.1, hV.out.trans (h.2.mono hV.out.size), fun b hb => hb.keep h.2⟩
    have PM : Hid (∀ V, Hid (Below w1.heap.size w1 V) → Calls Tryz.prog 80 #[.agg #[.slice a nl cap, .bool ca]] V fun e W => e = .returned (.string (m)) ∧ Hid (Below w1.heap.size w1 W) ∧ Hid (∀ b, RowK key V b → RowK key W b)) := fun V hV => by
      rw [em, HNl.out]
      exact (implMore a names cap ca V hlen heach (HA.out V hV.out)).mono fun e W h => ⟨h.1, hV.out.trans (h.2.mono hV.out.size), fun b hb => hb.keep h.2⟩
    have PS8 : Hid (∀ V (g : Nat), Hid (Below w1.heap.size w1 V) → V.heap[g]? = some (.cells #[.string p160, .string (intD ser), .string kindD, .string (nameD iss), .string (seqD (intD fr ++ intD till)), .string (nameD sub), .string (seqD (kindD ++ p3)), .string m] 9 (0, 0)) → Calls Tryz.prog 70 #[.slice (some ⟨g, 0, none⟩) 8 8] V fun e W => e = .returned (.string (R)) ∧ Hid (Below w1.heap.size w1 W) ∧ Hid (∀ b, RowK key V b → RowK key W b)) := fun V g hV hg => by
      have e8 : catS [p160, intD ser, kindD, nameD iss, seqD (intD fr ++ intD till), nameD sub, seqD (kindD ++ p3), m] = p160 ++ (intD ser ++ (kindD ++ (nameD iss ++ (seqD (intD fr ++ intD till) ++ (nameD sub ++ (seqD (kindD ++ p3) ++ m)))))) := by
        simp only [catS]
        rw [show m ++ (⟨#[]⟩ : ByteArray) = m from ByteArray.append_empty]
      have h := implSeq g 8 [p160, intD ser, kindD, nameD iss, seqD (intD fr ++ intD till), nameD sub, seqD (kindD ++ p3), m] V hg (by rw [e8]; simp only [ByteArray.size_append]; omega) (by simp) (Nat.le_refl _)
      rw [e8, ← hR] at h
      exact h.mono fun e W h => ⟨h.1, hV.out.trans (h.2.mono hV.out.size), fun b hb => hb.keep h.2⟩
    have AL : Hid (∀ V o, Hid (Below w1.heap.size w1 V) → Hid (Below w1.heap.size w1 (V.alloc o))) := fun V o h => h.out.alloc h.out.size o
    have DR : Hid (∀ V, Hid (Below w1.heap.size w1 V) → Hid (Below w1.heap.size w1 V.drew)) := fun V h => h.out.drew
    have D2 : Hid (Below w1.heap.size w1 w2.drew) := DR.out _ K2
    clear zM hlen heach y1 y2 y3 y4 y5 y6 y7 y9 y10 y11 hnum e160 e3 em u1 u2 hR HNl HA hkey
    obtain ⟨c0, c1, c2, c3, c4, c5, c6, c7, c8, c9, c10⟩ := HK.out w2 K2.out
    clear c8 c9 c10
    go_wp2_with fail
    go_region_held3 (fun V => V.cell? ⟨w.heap.size, 0, none⟩ = some (.int .i64 ser) ∧ V.cell? ⟨w.heap.size, 1, none⟩ = some (.string iss) ∧ V.cell? ⟨w.heap.size, 2, none⟩ = some (.string sub) ∧ V.cell? ⟨w.heap.size, 3, none⟩ = some (.int .i64 fr) ∧ V.cell? ⟨w.heap.size, 4, none⟩ = some (.int .i64 till) ∧ V.cell? ⟨w.heap.size, 5, none⟩ = some (.int .i64 key) ∧ V.cell? ⟨w.heap.size, 6, none⟩ = some (.slice a nl cap) ∧ V.cell? ⟨w.heap.size, 7, none⟩ = some (.bool ca)) (first | (refine ⟨?_, ?_, ?_, ?_, ?_, ?_, ?_, ?_⟩ <;> assumption) | (have hk8 := HK.out _ (Hid.out (by assumption)); exact ⟨hk8.1, hk8.2.1, hk8.2.2.1, hk8.2.2.2.1, hk8.2.2.2.2.1, hk8.2.2.2.2.2.1, hk8.2.2.2.2.2.2.1, hk8.2.2.2.2.2.2.2.1⟩) | go_keep)
      (first
        | (go_at_call 72; refine (PI.out _ _ (by first | assumption | exact AL.out _ _ (by assumption) | exact AL.out _ _ (AL.out _ _ (by assumption)) | exact DR.out _ (AL.out _ _ (by assumption))) (by assumption)).mono ?_; rintro r V1 ⟨rfl, k1, kp1⟩; (first | have rk := kp1.out _ (by assumption) | have rk := kp1.out _ (RowK.al (by assumption)) | have rk := kp1.out _ (heap_alloc_new _ _) | have rk := kp1.out _ (RowK.al (heap_alloc_new _ _)) | skip); (try simp at rk))
        | (go_at_call 77; refine (P160.out _ _ (by first | assumption | exact AL.out _ _ (by assumption) | exact AL.out _ _ (AL.out _ _ (by assumption)) | exact DR.out _ (AL.out _ _ (by assumption))) (by first | exact heap_alloc_new _ _ | exact heap_alloc2 _ _ _ | exact alKeep (heap_alloc_new _ _))).mono ?_; rintro r V2 ⟨rfl, k2, kp2⟩; (first | have rk := kp2.out _ (by assumption) | have rk := kp2.out _ (RowK.al (by assumption)) | have rk := kp2.out _ (heap_alloc_new _ _) | have rk := kp2.out _ (RowK.al (heap_alloc_new _ _)) | skip); (try simp at rk))
        | (go_at_call 78; refine (PK.out _ (by first | assumption | exact AL.out _ _ (by assumption) | exact AL.out _ _ (AL.out _ _ (by assumption)) | exact DR.out _ (AL.out _ _ (by assumption)))).mono ?_; rintro r V3 ⟨rfl, k3, kp3⟩; (first | have rk := kp3.out _ (by assumption) | have rk := kp3.out _ (RowK.al (by assumption)) | have rk := kp3.out _ (heap_alloc_new _ _) | have rk := kp3.out _ (RowK.al (heap_alloc_new _ _)) | skip); (try simp at rk))
        | (go_at_call 71; refine (PN.out _ _ (by first | assumption | exact AL.out _ _ (by assumption) | exact AL.out _ _ (AL.out _ _ (by assumption)) | exact DR.out _ (AL.out _ _ (by assumption))) (by assumption)).mono ?_; rintro r V4 ⟨rfl, k4, kp4⟩; (first | have rk := kp4.out _ (by assumption) | have rk := kp4.out _ (RowK.al (by assumption)) | have rk := kp4.out _ (heap_alloc_new _ _) | have rk := kp4.out _ (RowK.al (heap_alloc_new _ _)) | skip); (try simp at rk))
        | (go_at_call 80; refine (PM.out _ (by first | assumption | exact AL.out _ _ (by assumption) | exact AL.out _ _ (AL.out _ _ (by assumption)) | exact DR.out _ (AL.out _ _ (by assumption)))).mono ?_; rintro r V6 ⟨rfl, k39, kp6⟩)
        | (go_at_call 70; have _ := k39; refine (PS8.out _ _ (by first | assumption | exact AL.out _ _ (by assumption) | exact AL.out _ _ (AL.out _ _ (by assumption)) | exact DR.out _ (AL.out _ _ (by assumption))) (by first | exact heap_alloc_new _ _ | exact heap_alloc2 _ _ _ | exact alKeep (heap_alloc_new _ _))).mono ?_; rintro r V7 ⟨rfl, k7, kp7⟩)
        | (go_at_call 70; refine (PS2.out _ _ _ _ (by first | assumption | exact AL.out _ _ (by assumption) | exact AL.out _ _ (AL.out _ _ (by assumption)) | exact DR.out _ (AL.out _ _ (by assumption))) (by first | exact heap_alloc_new _ _ | exact heap_alloc2 _ _ _ | exact alKeep (heap_alloc_new _ _)) (by assumption)).mono ?_; rintro r V8 ⟨rfl, k8, kp8⟩; (first | have rk := kp8.out _ (by assumption) | have rk := kp8.out _ (RowK.al (by assumption)) | have rk := kp8.out _ (heap_alloc_new _ _) | have rk := kp8.out _ (RowK.al (heap_alloc_new _ _)) | skip); (try simp at rk))
        | (go_at_call 79; refine (PNu.out _ _ (by first | assumption | exact AL.out _ _ (by assumption) | exact AL.out _ _ (AL.out _ _ (by assumption)) | exact DR.out _ (AL.out _ _ (by assumption))) (by first | assumption | exact RowK.al (by assumption) | exact heap_alloc_new _ _ | exact heap_alloc2 _ _ _ | exact RowK.al (heap_alloc_new _ _))).mono ?_; rintro r V5 ⟨rfl, k5, kp5⟩))
    all_goals
      go_wp2
      go_ret
      exact ⟨rfl, HB.out _ (Hid.out (by assumption))⟩
end Go.Proofs.YtkbmeenojclcmaaGreatDoor
namespace Go.Proofs.YtkbmeenojclcmaaGreatDoor
open Go.RowKit

set_option maxHeartbeats 1000000 in
set_option maxRecDepth 100000 in
theorem implGroupPow (y n : Int) (w : World) (hn : n ≤ 9223372036854775807) :
    Calls Tryz.prog 95 #[.int .i64 y, .int .i64 n] w fun e w' => e = .returned (.int .i64 (gpowA y n)) ∧ Below w.heap.size w w' := by
  by_cases h1 : unitB y = true
  · by_cases h2 : n < 0
    · have ea : Hid (gpowA y n = 0) := by
        show _ = _
        rw [gpowA, if_neg (by omega)]
      go_enter Tryz.func95, Tryz.ntmps95
      go_wp2_with fail
      refine (implUnit y _).mono ?_
      rintro e w' ⟨rfl, rfl⟩
      rw [h1]
      go_wp2
      go_ret
      exact ⟨ret_int ea.out.symm, Below.refl _ _⟩
    · obtain ⟨x, rfl, x1, x2⟩ := unitB_nat h1
      obtain ⟨k, rfl⟩ := nat_of h2
      rw [gpowA_nat x k h1]
      have t1 : (k : Int).tmod 1073741789 = ((k % 1073741789 : Nat) : Int) := tmodN k 1073741789
      have hb1 : k % 1073741789 ≤ 9223372036854775807 := by omega
      generalize k % 1073741789 = j at *
      have HC : Hid (∀ v : World, Calls Tryz.prog 89 #[.int .i64 (x : Int), .int .i64 (j : Int), .int .i64 2147483579] v fun e w' => e = .returned (.int .i64 ((pm x j 2147483579 : Nat) : Int)) ∧ Below v.heap.size v w') := fun v => by
        have h := implModPow x j 2147483579 v (by omega)
        rw [show (2147483579 : Int) = ((2147483579 : Nat) : Int) from rfl, powA_nat x j 2147483579 modP] at h
        exact h
      generalize pm x j 2147483579 = z at *
      go_enter Tryz.func95, Tryz.ntmps95
      go_wp2_with fail
      refine (implUnit x _).mono ?_
      rintro e w' ⟨rfl, rfl⟩
      rw [h1]
      go_wp2_with fail
      refine (HC.out _).mono ?_
      rintro e w' ⟨rfl, hb⟩
      have HB : Hid _ := hb
      clear hb
      go_wp2
      go_ret
      exact ⟨rfl, HB.out⟩
  · rw [Bool.not_eq_true] at h1
    have ea : Hid (gpowA y n = 0) := by
      show _ = _
      rw [gpowA, if_neg (by rw [h1]; simp)]
    go_enter Tryz.func95, Tryz.ntmps95
    go_wp2_with fail
    refine (implUnit y _).mono ?_
    rintro e w' ⟨rfl, rfl⟩
    rw [h1]
    go_wp2
    go_ret
    exact ⟨ret_int ea.out.symm, Below.refl _ _⟩
end Go.Proofs.YtkbmeenojclcmaaGreatDoor
namespace Go.Proofs.YtkbmeenojclcmaaGreatDoor
open Go.RowKit

set_option maxHeartbeats 1000000 in
set_option maxRecDepth 100000 in
theorem implModMul (a b m : Int) (w : World) :
    Calls Tryz.prog 110 #[.int .i64 a, .int .i64 b, .int .i64 m] w fun e w' => e = .returned (.int .i64 (mulA a b m)) ∧ Below w.heap.size w w' := by
  by_cases h1 : a < 0
  · have ea : Hid (mulA a b m = 0) := by
      show _ = _
      rw [mulA, if_neg (by omega)]
    go_enter Tryz.func110, Tryz.ntmps110
    go_wp2
    go_ret
    exact ⟨ret_int ea.out.symm, Below.refl _ _⟩
  by_cases h2 : b < 0
  · have ea : Hid (mulA a b m = 0) := by
      show _ = _
      rw [mulA, if_neg (by omega)]
    go_enter Tryz.func110, Tryz.ntmps110
    go_wp2
    go_ret
    exact ⟨ret_int ea.out.symm, Below.refl _ _⟩
  by_cases h3 : modB m = true
  · obtain ⟨k, rfl, k1, k2⟩ := modB_nat h3
    obtain ⟨x, rfl⟩ := nat_of h1
    obtain ⟨y, rfl⟩ := nat_of h2
    rw [mulA_nat x y k h3]
    clear h1 h2
    generalize hz : x * y % k = z
    go_enter Tryz.func110, Tryz.ntmps110
    go_wp2_with fail
    refine (implModRight k w).mono ?_
    rintro e w' ⟨rfl, rfl⟩
    rw [h3]
    go_wp2_with fail
    refine (implModulo k _).mono ?_
    rintro e w' ⟨rfl, rfl⟩
    go_wp2_with fail
    refine (implProduct _ x y k _ k1 k2 (newCell _ _ _)).mono ?_
    rintro e w' ⟨rfl, rfl⟩
    rw [hz]
    clear hz
    go_wp2
    go_ret
    exact ⟨rfl, allocBelow _ _⟩
  · rw [Bool.not_eq_true] at h3
    have ea : Hid (mulA a b m = 0) := by
      show _ = _
      rw [mulA, if_neg (by rw [h3]; simp)]
    go_enter Tryz.func110, Tryz.ntmps110
    go_wp2_with fail
    refine (implModRight m w).mono ?_
    rintro e w' ⟨rfl, rfl⟩
    rw [h3]
    go_wp2
    go_ret
    exact ⟨ret_int ea.out.symm, Below.refl _ _⟩
end Go.Proofs.YtkbmeenojclcmaaGreatDoor
namespace Go.Proofs.YtkbmeenojclcmaaGreatDoor
open Go.RowKit

set_option maxHeartbeats 1000000 in
set_option maxRecDepth 100000 in
theorem implGroupMul (a b : Int) (w : World) :
    Calls Tryz.prog 94 #[.int .i64 a, .int .i64 b] w fun e w' => e = .returned (.int .i64 (gmulA a b)) ∧ Below w.heap.size w w' := by
  by_cases h1 : unitB a = true
  · by_cases h2 : unitB b = true
    · obtain ⟨x, rfl, x1, x2⟩ := unitB_nat h1
      obtain ⟨y, rfl, y1, y2⟩ := unitB_nat h2
      rw [gmulA_nat x y h1 h2]
      have HC : Hid (∀ v : World, Calls Tryz.prog 110 #[.int .i64 (x : Int), .int .i64 (y : Int), .int .i64 2147483579] v fun e w' => e = .returned (.int .i64 ((x * y % 2147483579 : Nat) : Int)) ∧ Below v.heap.size v w') := fun v => by
        have h := implModMul x y 2147483579 v
        rw [show (2147483579 : Int) = ((2147483579 : Nat) : Int) from rfl, mulA_nat x y 2147483579 modP] at h
        exact h
      generalize x * y % 2147483579 = z at *
      go_enter Tryz.func94, Tryz.ntmps94
      go_wp2_with fail
      refine (implUnit x _).mono ?_
      rintro e w' ⟨rfl, rfl⟩
      rw [h1]
      go_wp2_with fail
      refine (implUnit y _).mono ?_
      rintro e w' ⟨rfl, rfl⟩
      rw [h2]
      go_wp2_with fail
      refine (HC.out _).mono ?_
      rintro e w' ⟨rfl, hb⟩
      have HB : Hid _ := hb
      clear hb
      go_wp2
      go_ret
      exact ⟨rfl, HB.out⟩
    · rw [Bool.not_eq_true] at h2
      have ea : Hid (gmulA a b = 0) := by
        show _ = _
        rw [gmulA, if_neg (by rw [h2]; simp)]
      go_enter Tryz.func94, Tryz.ntmps94
      go_wp2_with fail
      refine (implUnit a _).mono ?_
      rintro e w' ⟨rfl, rfl⟩
      rw [h1]
      go_wp2_with fail
      refine (implUnit b _).mono ?_
      rintro e w' ⟨rfl, rfl⟩
      rw [h2]
      go_wp2
      go_ret
      exact ⟨ret_int ea.out.symm, Below.refl _ _⟩
  · rw [Bool.not_eq_true] at h1
    have ea : Hid (gmulA a b = 0) := by
      show _ = _
      rw [gmulA, if_neg (by rw [h1]; simp)]
    go_enter Tryz.func94, Tryz.ntmps94
    go_wp2_with fail
    refine (implUnit a _).mono ?_
    rintro e w' ⟨rfl, rfl⟩
    rw [h1]
    go_wp2
    go_ret
    exact ⟨ret_int ea.out.symm, Below.refl _ _⟩
end Go.Proofs.YtkbmeenojclcmaaGreatDoor
namespace Go.Proofs.YtkbmeenojclcmaaGreatDoor
open Go.RowKit

set_option maxHeartbeats 1000000 in
set_option maxRecDepth 100000 in
theorem digestNumber (h t : ByteArray) (w : World) (hh : h.size ≤ 100) (ht : t.size ≤ 20000) (hk : Keys w) :
    Calls Tryz.prog 111 #[.string h, .string t] w fun e w' => e = .returned (.int .i64 (dnum (h ++ t) : Nat)) ∧ Below w.heap.size w w' := by
  have hkp := hk.pos
  go_enter Tryz.func111, Tryz.ntmps111
  go_wp2_with fail
  refine (beginW w).mono ?_
  rintro e w1 ⟨rfl, hb1⟩
  have hs1 := hb1.size
  have HB1 : Hid (Below w.heap.size w w1) := hb1
  clear hb1
  go_wp2_with fail
  generalize hw2 : w1.alloc _ = w2
  have hg2 : w2.heap[w1.heap.size]? = some (.cells (workCells st0 ByteArray.empty 0).toArray 137 (0, 0)) := by rw [← hw2]; exact heap_alloc_new w1 _
  have hb2 : Below w.heap.size w w2 := by rw [← hw2]; exact HB1.out.alloc hs1 _
  refine (takeW st0 ByteArray.empty h 0 w2 w w1.heap.size w.heap.size 137 (by simp) (by omega) (by omega) (by omega) hg2 hb2 hs1 hk hkp).mono ?_
  rintro e w3 ⟨rfl, hg3, hb3⟩
  rw [empty_append] at hg3
  have hg3' : w3.heap[w1.heap.size]? = some (.cells (workCells (more st0 h) (restOf h) (h.size : Nat)).toArray 137 (0, 0)) := by simpa using hg3
  have HG3 : Hid _ := hg3'
  have HB3 : Hid (Below w.heap.size w w3) := hb3
  have HK : Hid (Keys w) := hk
  clear hg3 hg3' hb3 hg2 hb2 hw2 hk
  go_wp2_with fail
  refine (takeW (more st0 h) (restOf h) t (h.size : Nat) w3 w w1.heap.size w.heap.size 137 (by rw [size_restOf]; omega) (by omega) (by omega) (by omega) HG3.out HB3.out hs1 HK.out hkp).mono ?_
  rintro e w4 ⟨rfl, hg4, hb4⟩
  rw [more_more, rest_more] at hg4
  have hg4' : w4.heap[w1.heap.size]? = some (.cells (workCells (more st0 (h ++ t)) (restOf (h ++ t)) ((h ++ t).size : Nat)).toArray 137 (0, 0)) := by rw [size_append]; simpa using hg4
  have HG4 : Hid _ := hg4'
  have HB4 : Hid (Below w.heap.size w w4) := hb4
  clear hg4 hg4' hb4
  go_wp2_with fail
  refine (endW (more st0 (h ++ t)) (restOf (h ++ t)) (h ++ t).size w4 w w1.heap.size w.heap.size 137 (by rw [size_restOf]; omega) (by rw [size_append]; omega) HG4.out HB4.out hs1 HK.out hkp).mono ?_
  rintro e w5 ⟨rfl, hb5⟩
  have HB5 : Hid (Below w.heap.size w w5) := hb5
  clear hb5 HG3 HG4 HB3 HB4 HK HB1
  have hd := digOf_size (h ++ t)
  obtain ⟨D, hD⟩ : ∃ D, strOfNums (digL (endSt (more st0 (h ++ t)) (restOf (h ++ t)) (h ++ t).size)) = D := ⟨_, rfl⟩
  have HD : Hid (digOf (h ++ t) = D) := hD
  rw [show digOf (h ++ t) = D from hD] at hd
  rw [hD]
  clear hD
  go_wp2_with fail
  go_loopw [15, 7] (fun i n wr => ∃ k : Nat, k ≤ 7 ∧ i = .int .i64 k ∧ n = .int .i64 (bnum D k : Nat) ∧ wr = w5) (fun i _ _ => 7 - (intOf i).toNat)
  case atStart => exact ⟨0, by omega, rfl, rfl, rfl⟩
  case round =>
    obtain ⟨k, hk7, rfl, rfl, rfl⟩ := hrel
    by_cases hlt : k < 7
    · have hb := bnum_le D (k := k) (by omega)
      have hc := (byteAt D k).toNat_lt
      have hj := i64_join (bnum D k) (byteAt D k).toNat hb (by omega)
      have hg : byteAt D k = D[k] := byteAt_get D k (by omega)
      have HN : Hid (bnum D (k + 1) = 256 * bnum D k + (byteAt D k).toNat) := rfl
      rw [hg] at hj
      have HG : Hid (byteAt D k = D[k]) := hg
      clear hg hc
      have hb' : (bnum D k : Int) ≤ 281474976710655 := by omega
      have hb0 : (0 : Int) ≤ (bnum D k : Int) := by omega
      obtain ⟨y, hy⟩ : ∃ y : Int, y = (bnum D k : Int) := ⟨_, rfl⟩
      have HY : Hid (y = (bnum D k : Int)) := hy
      obtain ⟨v, hv⟩ : ∃ v : Int, v = ((256 * bnum D k + D[k].toNat : Nat) : Int) := ⟨_, rfl⟩
      have HV : Hid (v = ((256 * bnum D k + D[k].toNat : Nat) : Int)) := hv
      rw [← hv] at hj
      rw [← hy] at hb' hb0 hj ⊢
      have hc' := u8_lt D[k]
      clear hb hy hv
      go_wp2
      go_roundw
      case rel => exact ⟨k + 1, by omega, by go_num, by rw [HN.out, HG.out, HV.out], trivial⟩
      case measure => simp [intOf]; omega
    · go_wp2
      go_ret
      exact ⟨ret_int (by unfold dnum; rw [HD.out, show k = 7 from by omega]), HB5.out⟩
end Go.Proofs.YtkbmeenojclcmaaGreatDoor
namespace Go.Proofs.YtkbmeenojclcmaaGreatDoor
open Go.RowKit

theorem tooLong (s : ByteArray) (w : World) (hs : s.size ≤ maxLen) :
    Calls Tryz.prog 74 #[.string s] w fun e w' => e = .returned (.bool (decide (20000 < s.size))) ∧ w' = w := by
  unfold maxLen at hs
  go_enter Tryz.func74, Tryz.ntmps74
  go_wp2
  go_ret
  exact ⟨by simp; omega, rfl⟩
end Go.Proofs.YtkbmeenojclcmaaGreatDoor
namespace Go.Proofs.YtkbmeenojclcmaaGreatDoor
open Go.RowKit

set_option maxHeartbeats 1000000 in
set_option maxRecDepth 100000 in
theorem implChallenge (r key : Int) (t : ByteArray) (w : World) (ht : t.size ≤ maxLen) (hk : Keys w) :
    Calls Tryz.prog 96 #[.int .i64 r, .int .i64 key, .string t] w fun e w' => e = .returned (.int .i64 (challA r key t)) ∧ Below w.heap.size w w' := by
  have HK : Hid (Keys w) := hk
  have hkp := hk.pos
  clear hk
  by_cases h1 : 20000 < t.size
  · have ea : Hid (challA r key t = 0) := by
      show _ = _
      rw [challA, if_neg (by omega)]
    have hd : decide (20000 < t.size) = true := decide_eq_true h1
    go_enter Tryz.func96, Tryz.ntmps96
    go_wp2_with fail
    refine (tooLong t _ ht).mono ?_
    rintro e w' ⟨rfl, rfl⟩
    rw [hd]
    clear h1 hd ht
    go_wp2
    go_ret
    exact ⟨ret_int ea.out.symm, Below.refl _ _⟩
  have hd : decide (20000 < t.size) = false := decide_eq_false h1
  by_cases h2 : unitB r = true
  · by_cases h3 : unitB key = true
    · have ea : Hid (challA r key t = (chal r key t : Int)) := by
        show _ = _
        rw [challA, if_pos ⟨by omega, h2, h3⟩]
      have b2 : 1 ≤ r ∧ r < 2147483579 := of_decide_eq_true h2
      have b3 : 1 ≤ key ∧ key < 2147483579 := of_decide_eq_true h3
      have s2 := putS_size r
      have s3 := putS_size key
      have P2 : Hid (∀ v : World, Calls Tryz.prog 98 #[.int .i64 r] v fun e w' => e = .returned (.string (putS r)) ∧ Below v.heap.size v w') := fun v => implPut r v (by omega) (by omega)
      have P3 : Hid (∀ v : World, Calls Tryz.prog 98 #[.int .i64 key] v fun e w' => e = .returned (.string (putS key)) ∧ Below v.heap.size v w') := fun v => implPut key v (by omega) (by omega)
      have EC : Hid ((dnum (putS r ++ putS key ++ t) % 1073741789 : Nat) = chal r key t) := rfl
      have ld := dnum_lt (putS r ++ putS key ++ t)
      have LD : Hid (∀ a b : ByteArray, a = putS r → b = putS key → dnum (a ++ b ++ t) < 72057594037927936 ∧ dnum (a ++ b ++ t) % 1073741789 = chal r key t) := fun a b ha hb => by subst ha hb; exact ⟨ld, EC.out⟩
      generalize hp : putS r = p at s2 P2
      generalize hq : putS key = q at s3 P3
      have LD' := LD.out p q hp.symm hq.symm
      have LE : Hid (dnum (p ++ q ++ t) < 72057594037927936 ∧ dnum (p ++ q ++ t) % 1073741789 = chal r key t) := LD'
      clear LD LD' ld EC hp hq
      go_enter Tryz.func96, Tryz.ntmps96
      go_wp2_with fail
      refine (tooLong t _ ht).mono ?_
      rintro e w' ⟨rfl, rfl⟩
      rw [hd]
      go_wp2_with fail
      refine (implUnit r _).mono ?_
      rintro e w' ⟨rfl, rfl⟩
      rw [h2]
      go_wp2_with fail
      refine (implUnit key _).mono ?_
      rintro e w' ⟨rfl, rfl⟩
      rw [h3]
      go_wp2_with fail
      refine (P2.out _).mono ?_
      rintro e w1 ⟨rfl, hb1⟩
      have B1 : Hid (Below w'.heap.size w' w1) := hb1
      have z1 := hb1.size
      clear hb1
      go_wp2_with fail
      refine (P3.out _).mono ?_
      rintro e w2 ⟨rfl, hb2⟩
      have B2 : Hid (Below w'.heap.size w' w2) := B1.out.trans (hb2.mono z1)
      have z2 := B2.out.size
      clear hb2
      go_wp2_with fail
      refine (joinTexts p q _ (by omega) (by omega)).mono ?_
      rintro e w3 ⟨rfl, hb3⟩
      have B3 : Hid (Below w'.heap.size w' w3) := B2.out.trans (hb3.mono z2)
      have z3 := B3.out.size
      have K3 : Hid (Keys w3) := HK.out.below B3.out hkp
      clear hb3
      go_wp2_with fail
      refine (digestNumber (p ++ q) t _ (by rw [size_append]; omega) (by omega) K3.out).mono ?_
      rintro e w4 ⟨rfl, hb4⟩
      have B4 : Hid (Below w'.heap.size w' w4) := B3.out.trans (hb4.mono z3)
      clear hb4
      obtain ⟨l1, l2⟩ := LE.out
      generalize dnum (p ++ q ++ t) = d at l1 l2
      have t1 : (d : Int).tmod 1073741789 = ((d % 1073741789 : Nat) : Int) := tmodN d 1073741789
      rw [l2] at t1
      clear LE l1 l2
      go_wp2
      go_ret
      exact ⟨ret_int ea.out.symm, B4.out⟩
    · rw [Bool.not_eq_true] at h3
      have ea : Hid (challA r key t = 0) := by
        show _ = _
        rw [challA, if_neg (by rw [h3]; simp)]
      go_enter Tryz.func96, Tryz.ntmps96
      go_wp2_with fail
      refine (tooLong t _ ht).mono ?_
      rintro e w' ⟨rfl, rfl⟩
      rw [hd]
      go_wp2_with fail
      refine (implUnit r _).mono ?_
      rintro e w' ⟨rfl, rfl⟩
      rw [h2]
      go_wp2_with fail
      refine (implUnit key _).mono ?_
      rintro e w' ⟨rfl, rfl⟩
      rw [h3]
      go_wp2
      go_ret
      exact ⟨ret_int ea.out.symm, Below.refl _ _⟩
  · rw [Bool.not_eq_true] at h2
    have ea : Hid (challA r key t = 0) := by
      show _ = _
      rw [challA, if_neg (by rw [h2]; simp)]
    go_enter Tryz.func96, Tryz.ntmps96
    go_wp2_with fail
    refine (tooLong t _ ht).mono ?_
    rintro e w' ⟨rfl, rfl⟩
    rw [hd]
    go_wp2_with fail
    refine (implUnit r _).mono ?_
    rintro e w' ⟨rfl, rfl⟩
    rw [h2]
    go_wp2
    go_ret
    exact ⟨ret_int ea.out.symm, Below.refl _ _⟩
end Go.Proofs.YtkbmeenojclcmaaGreatDoor
namespace Go.Proofs.YtkbmeenojclcmaaGreatDoor
open Go.RowKit

theorem sigRow {w : World} {g : Nat} {t : TypeId} {x y z : Value} (hg : w.heap[g]? = some (.cells [x, y, z].toArray t (0, 0))) (a b c : Value) :
    (((w.setCell ⟨g, 0, none⟩ a).setCell ⟨g, 1, none⟩ b).setCell ⟨g, 2, none⟩ c).heap[g]? = some (.cells [a, b, c].toArray t (0, 0)) := rowSet c (rowSet b (rowSet a hg))
theorem sizeSig : (Tryz.prog.info? 33).map (·.size) = some 3 := by kernel_rfl
end Go.Proofs.YtkbmeenojclcmaaGreatDoor
namespace Go.Proofs.YtkbmeenojclcmaaGreatDoor
open Go.RowKit

set_option maxHeartbeats 1000000 in
set_option maxRecDepth 100000 in
theorem askChallenge (key r : Int) (t : ByteArray) (w : World) (ht : t.size ≤ maxLen) (hk : Keys w) :
    Calls Tryz.prog 76 #[.agg #[.int .i64 key, .string t], .int .i64 r] w fun e w' => e = .returned (.int .i64 (challA r key t)) ∧ Below w.heap.size w w' := by
  have hkp := hk.pos
  have HK : Hid (∀ o, Keys (w.alloc o)) := fun o => hk.below (allocBelow w o) hkp
  clear hk
  go_enter Tryz.func76, Tryz.ntmps76
  go_wp2_with fail
  refine (implChallenge r key t _ ht (HK.out _)).mono ?_
  rintro e w1 ⟨rfl, hb1⟩
  have B1 : Hid (Below w.heap.size w w1) := (allocBelow w _).trans (hb1.mono (by simp))
  clear hb1
  generalize hz : challA r key t = z
  have HZ : Hid (challA r key t = z) := hz
  clear hz
  go_wp2
  go_ret
  exact ⟨ret_int HZ.out.symm, B1.out⟩
end Go.Proofs.YtkbmeenojclcmaaGreatDoor
