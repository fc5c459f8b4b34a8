/- impl.layThing at a number, impl.DerInt, walked. impl.CertBody, walked. impl.CertBytes, walked. -/
import Derived.Test.YtkhdjmjbdpmdnaaGreatDoorCT18
import Derived.Test.YtkhdjmjbdpmdnaaGreatDoorCT12
import Derived.Test.YtkhdjmjbdpmdnaaGreatDoorCT06
import Derived.Test.YtkhdjmjbdpmdnaaGreatDoorCT05
import Derived.Deep.RegionWith
import Derived.Test.YtkhdjmjbdpmdnaaGreatDoorCT27
import Derived.Test.YtkhdjmjbdpmdnaaGreatDoorCT28
import Derived.Test.YtkhdjmjbdpmdnaaGreatDoorCT03
namespace Go.Proofs.YtkhdjmjbdpmdnaaGreatDoor
open Go.RowKit Go.Lib

theorem tagNumber (n : Int) (w : World) :
    Calls Tryz.prog 181 #[.iface 133 (.agg #[.int .i64 n])] w fun e w' => e = .returned (.int .i64 2) ∧ Below w.heap.size w w' := by
  have x0 := as10
  go_enter Tryz.func181, Tryz.ntmps181
  go_wp2
  go_ret
  exact ⟨rfl, (Below.refl _ _).alloc (Nat.le_refl _) _⟩
theorem methodNumber (v : Value) (w : World) : (Go.method 390 133 v "loop.example/g00371/impl.body").run Tryz.prog w = .ok (193, v) w := by kernel_rfl
set_option maxHeartbeats 1000000 in
set_option maxRecDepth 100000 in
theorem layNumber (n : Int) (b : ByteArray) (w : World) (h0 : -9223372036854775808 ≤ n) (h1 : n ≤ 9223372036854775807) (heq : b = strOfNums (intL n)) :
    Calls Tryz.prog 138 #[.iface 133 (.agg #[.int .i64 n])] w fun e w' => e = .returned (.string (thingD 2 b)) ∧ Below w.heap.size w w' := by
  have hb : b.size ≤ 4000 := by have := (intL_len n).2; rw [heq, strOfNums_size]; omega
  have hmt := methodNumber
  have ew : IntKind.u8.wrap 2 = 2 := by rw [IntKind.wrap_u8]; rfl
  go_enter Tryz.func138, Tryz.ntmps138
  go_wp2_with fail
  refine (bodyNumber n _ h0 h1).mono ?_
  rintro e w1 ⟨rfl, hb1⟩
  rw [← heq]
  clear heq h0 h1
  have s1 := hb1.size
  have HT1 : Hid (∀ V : World, Hid (Below w.heap.size w V) → Calls Tryz.prog 181 #[.iface 133 (.agg #[.int .i64 n])] V fun e W => e = .returned (.int .i64 2) ∧ Hid (Below w.heap.size w W)) := fun V hV => by
    refine (tagNumber n V).mono ?_
    rintro e W ⟨rfl, hW⟩
    exact ⟨rfl, hV.out.trans (hW.mono hV.out.size)⟩
  have HT2 : Hid (∀ V : World, Hid (Below w.heap.size w V) → Calls Tryz.prog 182 #[.int .i64 (b.size : Int)] V fun e W => e = .returned (.string (strOfNums (lenD b.size))) ∧ Hid (Below w.heap.size w W) ∧ Hid (∀ k o, V.heap[k]? = some o → W.heap[k]? = some o)) := fun V hV => by
    refine (putLength b.size V hb).mono ?_
    rintro e W ⟨rfl, hW⟩
    refine ⟨rfl, hV.out.trans (hW.mono hV.out.size), fun k o hk => ?_⟩
    rw [hW.block k (heap_lt hk)]; exact hk
  have HF : Hid (∀ s l, s = strOfNums [2] → l = strOfNums (lenD b.size) → s ++ l ++ b = thingD 2 b) := fun s l hs hl => by
    subst hs hl
    unfold thingD headD
    congr 1
  have hl1 : (strOfNums [2]).size = 1 := rfl
  have hl2 : (strOfNums (lenD b.size)).size ≤ 3 := by rw [strOfNums_size]; exact lenD_le _
  have hcv := fun V => convertLit V #[.int .u8 2] [2] rfl 1 rfl 5
  have HE := HF.out _ _ rfl rfl
  have HCR := fun W2 k h => convertRow W2 k [2] 5 1 1 rfl h
  generalize strOfNums [2] = s at *
  generalize strOfNums (lenD b.size) = l at *
  have HE : Hid (s ++ l ++ b = thingD 2 b) := HE
  have HCR : Hid (∀ (W2 : World) (k : Nat), W2.heap[k]? = some (.cells ([2].map (Value.int .u8)).toArray 5 (0, 0)) → (convert 22 9 (.slice (some ⟨k, 0, none⟩) 1 1)).run Tryz.prog W2 = .ok (.string s) W2) := HCR
  have HJ : Hid (∀ (V : World) (x y : ByteArray), Hid (Below w.heap.size w V) → x.size ≤ 4 → y.size ≤ 4000 → Calls Tryz.prog 122 #[.string x, .string y] V fun e W => e = .returned (.string (x ++ y)) ∧ Hid (Below w.heap.size w W)) := fun V x y hV hx hy => by
    refine (joinTexts x y V (by omega) (by omega)).mono ?_
    rintro e W ⟨rfl, hW⟩
    exact ⟨rfl, hV.out.trans (hW.mono hV.out.size)⟩
  have B1 : Hid (Below w.heap.size w w1) := hb1
  have HA : Hid (∀ V o, Hid (Below w.heap.size w V) → Hid (Below w.heap.size w (V.alloc o))) := fun V o h => h.out.alloc h.out.size o
  clear hb1 hmt HF
  go_wp2_with fail
  have D1 : Hid (Below w.heap.size w w1.drew) := B1.out.drew
  go_region_with (first
    | (go_at_call 181; refine (HT1.out _ (by first | assumption | exact HA.out _ _ (by assumption))).mono ?_; rintro r W1 ⟨rfl, k1⟩)
    | (go_at_call 182; refine (HT2.out _ (by first | assumption | exact HA.out _ _ (by assumption))).mono ?_; rintro r W2 ⟨rfl, k2, e2⟩; (first | have hcv2 := HCR.out W2 _ (e2.out _ _ (heap_alloc_new _ _)) | skip))
    | (go_at_call 122; refine (HJ.out _ _ _ (by first | assumption | exact HA.out _ _ (by assumption)) (by omega) (by omega)).mono ?_; rintro r W3 ⟨rfl, k3⟩))
  all_goals
    have hl3 : (s ++ l).size ≤ 4 := by rw [ByteArray.size_append]; omega
    have HQ := HJ.out W3 (s ++ l) b k3 hl3 hb
    rw [HE.out] at HQ
    generalize s ++ l = q at *
    have HQ : Hid (Calls Tryz.prog 122 #[.string q, .string b] W3 fun e W => e = .returned (.string (thingD 2 b)) ∧ Hid (Below w.heap.size w W)) := HQ
    clear HT1 HT2 HJ HCR HE hcv
    go_wp2_with fail
    refine HQ.out.mono ?_
    rintro r W4 ⟨rfl, k4⟩
    go_wp2
    go_ret
    exact ⟨rfl, k4.out⟩

theorem implDerInt (n : Int) (w : World) (h0 : -9223372036854775808 ≤ n) (h1 : n ≤ 9223372036854775807) :
    Calls Tryz.prog 62 #[.int .i64 n] w fun e w' => e = .returned (.string (thingD 2 (strOfNums (intL n)))) ∧ Below w.heap.size w w' := by
  have HB : Hid (∀ v : World, Calls Tryz.prog 138 #[.iface 133 (.agg #[.int .i64 n])] v fun e w' => e = .returned (.string (thingD 2 (strOfNums (intL n)))) ∧ Below v.heap.size v w') := fun v => layNumber n _ v h0 h1 rfl
  generalize thingD 2 (strOfNums (intL n)) = s at *
  go_enter Tryz.func62, Tryz.ntmps62
  go_wp2_with fail
  refine (HB.out _).mono ?_
  rintro e w1 ⟨rfl, hb1⟩
  go_wp2
  go_ret
  exact ⟨rfl, hb1⟩
end Go.Proofs.YtkhdjmjbdpmdnaaGreatDoor
namespace Go.Proofs.YtkhdjmjbdpmdnaaGreatDoor
open Go.RowKit

/-- A row of the one number n stands in block b. -/
def RowK (n : Int) (V : World) (b : Nat) : Prop := V.heap[b]? = some (.cells #[.int .i64 n] 2 (0, 0))
theorem RowK.keep {n : Int} {V W : World} {b : Nat} (h : RowK n V b) (hb : Below V.heap.size V W) : RowK n W b := (hb.block b (heap_lt h)).trans h
theorem RowK.al {n : Int} {V : World} {b : Nat} {o : Obj} (h : RowK n V b) : RowK n (V.alloc o) b := by
  unfold RowK
  rw [Below.heap_alloc _ _ _ (heap_lt h)]
  exact h
set_option maxHeartbeats 8000000 in
set_option maxRecDepth 100000 in
theorem implBody (c : Paper) (a : Option Addr) (cap : Nat) (w : World) (hi : c.issuer.size ≤ maxLen) (hs : c.subject.size ≤ maxLen) (hl : c.names.length ≤ 1048576) (ht : totS c.names c.names.length ≤ 1048576) (ha : IsStrs w a c.names) :
    Calls Tryz.prog 11 #[c.val (.slice a c.names.length cap)] w fun e w' => e = .returned (.string (certBodyD c)) ∧ Below w.heap.size w w' := by
  have HP : Hid (∀ V, IsStrs V a c.names → Calls Tryz.prog 47 #[c.val (.slice a c.names.length cap)] V fun e w' => e = .returned (.bool (paperB c)) ∧ Below V.heap.size V w') := fun V hV => implPaper c a cap V hi hs hl ht hV
  have HN : Hid (paperB c = false → certBodyD c = ⟨#[]⟩) := fun h => by show (if _ then _ else _) = _; rw [if_neg (by rw [h]; simp)]
  have HY : Hid (paperB c = true → certBodyD c = bodyD c) := fun h => if_pos h
  have HFt : Hid (paperB c = true → PFits c) := paper_fits
  generalize certBodyD c = R at *
  generalize paperB c = P at *
  clear hi hs hl ht
  obtain ⟨ser, iss, sub, fr, till, key, names, ca, sk, se, ss⟩ := c
  unfold Paper.val at *
  simp only at HP ha ⊢
  obtain ⟨nl, hnl⟩ : ∃ nl, nl = names.length := ⟨_, rfl⟩
  rw [← hnl] at HP ⊢
  have HNl : Hid (nl = names.length) := hnl
  clear hnl
  obtain ⟨w1, hw1⟩ : ∃ w1, w1 = w.alloc (.cells #[.int .i64 ser, .string iss, .string sub, .int .i64 fr, .int .i64 till, .int .i64 key, .slice a nl cap, .bool ca, .int .i64 sk, .int .i64 se, .int .i64 ss] 27 (0, 0)) := ⟨_, rfl⟩
  have r0 : w1.heap[w.heap.size]? = some (.cells [Value.int .i64 ser, .string iss, .string sub, .int .i64 fr, .int .i64 till, .int .i64 key, .slice a nl cap, .bool ca, .int .i64 sk, .int .i64 se, .int .i64 ss].toArray 27 (0, 0)) := by rw [hw1]; exact heap_alloc_new w _
  have B1 : Hid (Below w.heap.size w w1) := by rw [hw1]; exact (Below.refl _ _).alloc (Nat.le_refl _) _
  have z1 : w.heap.size < w1.heap.size := by rw [hw1]; simp
  have HK : Hid (∀ V, Below w1.heap.size w1 V → V.cell? ⟨w.heap.size, 0, none⟩ = some (.int .i64 ser) ∧ V.cell? ⟨w.heap.size, 1, none⟩ = some (.string iss) ∧ V.cell? ⟨w.heap.size, 2, none⟩ = some (.string sub) ∧ V.cell? ⟨w.heap.size, 3, none⟩ = some (.int .i64 fr) ∧ V.cell? ⟨w.heap.size, 4, none⟩ = some (.int .i64 till) ∧ V.cell? ⟨w.heap.size, 5, none⟩ = some (.int .i64 key) ∧ V.cell? ⟨w.heap.size, 6, none⟩ = some (.slice a nl cap) ∧ V.cell? ⟨w.heap.size, 7, none⟩ = some (.bool ca) ∧ V.cell? ⟨w.heap.size, 8, none⟩ = some (.int .i64 sk) ∧ V.cell? ⟨w.heap.size, 9, none⟩ = some (.int .i64 se) ∧ V.cell? ⟨w.heap.size, 10, none⟩ = some (.int .i64 ss)) := fun V hV => by
    have hP := (hV.block _ z1).trans r0
    exact ⟨rowFacts hP 0 _ rfl, rowFacts hP 1 _ rfl, rowFacts hP 2 _ rfl, rowFacts hP 3 _ rfl, rowFacts hP 4 _ rfl, rowFacts hP 5 _ rfl, rowFacts hP 6 _ rfl, rowFacts hP 7 _ rfl, rowFacts hP 8 _ rfl, rowFacts hP 9 _ rfl, rowFacts hP 10 _ rfl⟩
  have HA : Hid (∀ V, Below w1.heap.size w1 V → IsStrs V a names) := fun V hV => (ha.keep B1.out).keep hV
  have HB : Hid (∀ V, Below w1.heap.size w1 V → Below w.heap.size w V) := fun V hV => B1.out.trans (hV.mono B1.out.size)
  clear r0 ha z1 B1
  go_enter Tryz.func11, Tryz.ntmps11
  go_upto_region 1 with fail
  rw [← hw1]
  clear hw1
  obtain ⟨c0, c1, c2, c3, c4, c5, c6, c7, c8, c9, c10⟩ := HK.out w1 (Below.refl _ _)
  go_wp2_with fail
  refine (HP.out _ (HA.out _ (Below.refl _ _))).mono ?_
  rintro e w2 ⟨rfl, b2⟩
  have K2 : Hid (Below w1.heap.size w1 w2) := b2
  clear b2 c0 c1 c2 c3 c4 c5 c6 c7 c8 c9 c10 HP
  cases P with
  | false =>
    have HF : Hid (R = ⟨#[]⟩) := HN.out rfl
    go_wp2
    go_ret
    exact ⟨by rw [HF.out]; rfl, HB.out _ K2.out⟩
  | true =>
    have hR : R = bodyD _ := HY.out rfl
    have h := HFt.out rfl
    clear HN HY HFt
    have zM := moreD_le h.len h.each ca
    have hlen := h.len
    have heach := h.each
    have zi := h.iss
    have zs := h.sub
    have hser : -9223372036854775808 ≤ ser ∧ ser ≤ 9223372036854775807 := by have := h.ser0; have := h.ser1; simp only at *; omega
    have hfr : -9223372036854775808 ≤ fr ∧ fr ≤ 9223372036854775807 := by have := h.fr0; have := h.fr1; simp only at *; omega
    have htl : -9223372036854775808 ≤ till ∧ till ≤ 9223372036854775807 := by have := h.till0; have := h.till1; simp only at *; omega
    have hkey : -9223372036854775808 ≤ key ∧ key ≤ 9223372036854775807 := by have := h.key0; have := h.key1; simp only at *; omega
    have h2n : -9223372036854775808 ≤ (2 : Int) ∧ (2 : Int) ≤ 9223372036854775807 := by omega
    clear h
    unfold bodyD keyD at hR
    simp only at hR zM hlen heach zi zs
    have y1 := intD_le 2
    have y2 := intD_le ser
    have y3 := kindD_le
    have y4 := nameD_le iss
    have y5 := nameD_le sub
    have y6 := intD_le fr
    have y7 := intD_le till
    have y9 := thingD_le 160 (intD 2)
    have y10 := numsD_le [key] 1
    have y11 := thingD_le 3 (numsD [key] 1)
    have hnum : numsD [key] 1 = ⟨#[0]⟩ ++ putS key := rfl
    rw [← hnum] at hR
    obtain ⟨p160, e160⟩ : ∃ q, q = thingD 160 (intD 2) := ⟨_, rfl⟩
    obtain ⟨p3, e3⟩ : ∃ q, q = thingD 3 (numsD [key] 1) := ⟨_, rfl⟩
    obtain ⟨m, em⟩ : ∃ q, q = moreD names ca := ⟨_, rfl⟩
    rw [← e160] at hR y9
    rw [← e3] at hR y11
    rw [← em] at hR zM
    have s1 : (intD fr).size + (intD till).size ≤ 4000 := by omega
    have s2 : kindD.size + p3.size ≤ 4000 := by omega
    have u1 := seqD_le (intD fr ++ intD till)
    have u2 := seqD_le (kindD ++ p3)
    rw [ByteArray.size_append] at u1 u2
    have PI : Hid (∀ V (n : Int), Hid (Below w1.heap.size w1 V) → -9223372036854775808 ≤ n ∧ n ≤ 9223372036854775807 → Calls Tryz.prog 62 #[.int .i64 n] V fun e W => e = .returned (.string (intD n)) ∧ Hid (Below w1.heap.size w1 W) ∧ Hid (∀ b, RowK key V b → RowK key W b)) := fun V n hV hn => (implDerInt n V hn.1 hn.2).mono fun e W h => ⟨h.1, hV.out.trans (h.2.mono hV.out.size), fun b hb => hb.keep h.2⟩
    have P160 : Hid (∀ V (g : Nat), Hid (Below w1.heap.size w1 V) → V.heap[g]? = some (.cells #[.string (intD 2)] 9 (0, 0)) → Calls Tryz.prog 61 #[.int .i64 160, .slice (some ⟨g, 0, none⟩) 1 1] V fun e W => e = .returned (.string (p160)) ∧ Hid (Below w1.heap.size w1 W) ∧ Hid (∀ b, RowK key V b → RowK key W b)) := fun V g hV hg => by
      rw [e160]
      exact (implParts1 160 _ g V (by decide) (by omega) hg).mono fun e W h => ⟨h.1, hV.out.trans (h.2.mono hV.out.size), fun b hb => hb.keep h.2⟩
    have PK : Hid (∀ V, Hid (Below w1.heap.size w1 V) → Calls Tryz.prog 51 #[] V fun e W => e = .returned (.string (kindD)) ∧ Hid (Below w1.heap.size w1 W) ∧ Hid (∀ b, RowK key V b → RowK key W b)) := fun V hV => (implKind V).mono fun e W h => ⟨h.1, hV.out.trans (h.2.mono hV.out.size), fun b hb => hb.keep h.2⟩
    have PN : Hid (∀ V (b : ByteArray), Hid (Below w1.heap.size w1 V) → b.size ≤ 40 → Calls Tryz.prog 63 #[.string b] V fun e W => e = .returned (.string (nameD b)) ∧ Hid (Below w1.heap.size w1 W) ∧ Hid (∀ b, RowK key V b → RowK key W b)) := fun V b hV hb => (implNameD b V hb).mono fun e W h => ⟨h.1, hV.out.trans (h.2.mono hV.out.size), fun b hb => hb.keep h.2⟩
    have PS2 : Hid (∀ V (g : Nat) (x y : ByteArray), Hid (Below w1.heap.size w1 V) → V.heap[g]? = some (.cells #[.string x, .string y] 9 (0, 0)) → x.size + y.size ≤ 4000 → Calls Tryz.prog 50 #[.slice (some ⟨g, 0, none⟩) 2 2] V fun e W => e = .returned (.string (seqD (x ++ y))) ∧ Hid (Below w1.heap.size w1 W) ∧ Hid (∀ b, RowK key V b → RowK key W b)) := fun V g x y hV hg hs => (implSeq2 x y g V hs hg).mono fun e W h => ⟨h.1, hV.out.trans (h.2.mono hV.out.size), fun b hb => hb.keep h.2⟩
    have PNu : Hid (∀ V (g : Nat), Hid (Below w1.heap.size w1 V) → RowK key V g → Calls Tryz.prog 52 #[.slice (some ⟨g, 0, none⟩) 1 1] V fun e W => e = .returned (.string (p3)) ∧ Hid (Below w1.heap.size w1 W) ∧ Hid (∀ b, RowK key V b → RowK key W b)) := fun V g hV hg => by
      rw [e3]
      exact (implNumbers (some ⟨g, 0, none⟩) [key] 1 V (by simp) (fun i hi => by obtain rfl : i = 0 := by simpa using hi
                                                                                 exact hkey) (IsInts.row (rest := []) hg)).mono fun e W h => ⟨h.1, hV.out.trans (h.2.mono hV.out.size), fun b hb => hb.keep h.2⟩
    have PM : Hid (∀ V, Hid (Below w1.heap.size w1 V) → Calls Tryz.prog 64 #[.agg #[.slice a nl cap, .bool ca]] V fun e W => e = .returned (.string (m)) ∧ Hid (Below w1.heap.size w1 W) ∧ Hid (∀ b, RowK key V b → RowK key W b)) := fun V hV => by
      rw [em, HNl.out]
      exact (implMore a names cap ca V hlen heach (HA.out V hV.out)).mono fun e W h => ⟨h.1, hV.out.trans (h.2.mono hV.out.size), fun b hb => hb.keep h.2⟩
    have PS8 : Hid (∀ V (g : Nat), Hid (Below w1.heap.size w1 V) → V.heap[g]? = some (.cells #[.string p160, .string (intD ser), .string kindD, .string (nameD iss), .string (seqD (intD fr ++ intD till)), .string (nameD sub), .string (seqD (kindD ++ p3)), .string m] 9 (0, 0)) → Calls Tryz.prog 50 #[.slice (some ⟨g, 0, none⟩) 8 8] V fun e W => e = .returned (.string (R)) ∧ Hid (Below w1.heap.size w1 W) ∧ Hid (∀ b, RowK key V b → RowK key W b)) := fun V g hV hg => by
      have e8 : catS [p160, intD ser, kindD, nameD iss, seqD (intD fr ++ intD till), nameD sub, seqD (kindD ++ p3), m] = p160 ++ (intD ser ++ (kindD ++ (nameD iss ++ (seqD (intD fr ++ intD till) ++ (nameD sub ++ (seqD (kindD ++ p3) ++ m)))))) := by
        simp only [catS]
        rw [show m ++ (⟨#[]⟩ : ByteArray) = m from ByteArray.append_empty]
      have h := implSeq g 8 [p160, intD ser, kindD, nameD iss, seqD (intD fr ++ intD till), nameD sub, seqD (kindD ++ p3), m] V hg (by rw [e8]; simp only [ByteArray.size_append]; omega) (by simp) (Nat.le_refl _)
      rw [e8, ← hR] at h
      exact h.mono fun e W h => ⟨h.1, hV.out.trans (h.2.mono hV.out.size), fun b hb => hb.keep h.2⟩
    have AL : Hid (∀ V o, Hid (Below w1.heap.size w1 V) → Hid (Below w1.heap.size w1 (V.alloc o))) := fun V o h => h.out.alloc h.out.size o
    have DR : Hid (∀ V, Hid (Below w1.heap.size w1 V) → Hid (Below w1.heap.size w1 V.drew)) := fun V h => h.out.drew
    have D2 : Hid (Below w1.heap.size w1 w2.drew) := DR.out _ K2
    clear zM hlen heach y1 y2 y3 y4 y5 y6 y7 y9 y10 y11 hnum e160 e3 em u1 u2 hR HNl HA hkey
    obtain ⟨c0, c1, c2, c3, c4, c5, c6, c7, c8, c9, c10⟩ := HK.out w2 K2.out
    clear c8 c9 c10
    go_wp2_with fail
    go_region_held3 (fun V => V.cell? ⟨w.heap.size, 0, none⟩ = some (.int .i64 ser) ∧ V.cell? ⟨w.heap.size, 1, none⟩ = some (.string iss) ∧ V.cell? ⟨w.heap.size, 2, none⟩ = some (.string sub) ∧ V.cell? ⟨w.heap.size, 3, none⟩ = some (.int .i64 fr) ∧ V.cell? ⟨w.heap.size, 4, none⟩ = some (.int .i64 till) ∧ V.cell? ⟨w.heap.size, 5, none⟩ = some (.int .i64 key) ∧ V.cell? ⟨w.heap.size, 6, none⟩ = some (.slice a nl cap) ∧ V.cell? ⟨w.heap.size, 7, none⟩ = some (.bool ca)) (first | (refine ⟨?_, ?_, ?_, ?_, ?_, ?_, ?_, ?_⟩ <;> assumption) | (have hk8 := HK.out _ (Hid.out (by assumption)); exact ⟨hk8.1, hk8.2.1, hk8.2.2.1, hk8.2.2.2.1, hk8.2.2.2.2.1, hk8.2.2.2.2.2.1, hk8.2.2.2.2.2.2.1, hk8.2.2.2.2.2.2.2.1⟩) | go_keep)
      (first
        | (go_at_call 62; refine (PI.out _ _ (by first | assumption | exact AL.out _ _ (by assumption) | exact AL.out _ _ (AL.out _ _ (by assumption)) | exact DR.out _ (AL.out _ _ (by assumption))) (by assumption)).mono ?_; rintro r V1 ⟨rfl, k1, kp1⟩; (first | have rk := kp1.out _ (by assumption) | have rk := kp1.out _ (RowK.al (by assumption)) | have rk := kp1.out _ (heap_alloc_new _ _) | have rk := kp1.out _ (RowK.al (heap_alloc_new _ _)) | skip); (try simp at rk))
        | (go_at_call 61; refine (P160.out _ _ (by first | assumption | exact AL.out _ _ (by assumption) | exact AL.out _ _ (AL.out _ _ (by assumption)) | exact DR.out _ (AL.out _ _ (by assumption))) (by first | exact heap_alloc_new _ _ | exact heap_alloc2 _ _ _ | exact alKeep (heap_alloc_new _ _))).mono ?_; rintro r V2 ⟨rfl, k2, kp2⟩; (first | have rk := kp2.out _ (by assumption) | have rk := kp2.out _ (RowK.al (by assumption)) | have rk := kp2.out _ (heap_alloc_new _ _) | have rk := kp2.out _ (RowK.al (heap_alloc_new _ _)) | skip); (try simp at rk))
        | (go_at_call 51; refine (PK.out _ (by first | assumption | exact AL.out _ _ (by assumption) | exact AL.out _ _ (AL.out _ _ (by assumption)) | exact DR.out _ (AL.out _ _ (by assumption)))).mono ?_; rintro r V3 ⟨rfl, k3, kp3⟩; (first | have rk := kp3.out _ (by assumption) | have rk := kp3.out _ (RowK.al (by assumption)) | have rk := kp3.out _ (heap_alloc_new _ _) | have rk := kp3.out _ (RowK.al (heap_alloc_new _ _)) | skip); (try simp at rk))
        | (go_at_call 63; refine (PN.out _ _ (by first | assumption | exact AL.out _ _ (by assumption) | exact AL.out _ _ (AL.out _ _ (by assumption)) | exact DR.out _ (AL.out _ _ (by assumption))) (by assumption)).mono ?_; rintro r V4 ⟨rfl, k4, kp4⟩; (first | have rk := kp4.out _ (by assumption) | have rk := kp4.out _ (RowK.al (by assumption)) | have rk := kp4.out _ (heap_alloc_new _ _) | have rk := kp4.out _ (RowK.al (heap_alloc_new _ _)) | skip); (try simp at rk))
        | (go_at_call 64; refine (PM.out _ (by first | assumption | exact AL.out _ _ (by assumption) | exact AL.out _ _ (AL.out _ _ (by assumption)) | exact DR.out _ (AL.out _ _ (by assumption)))).mono ?_; rintro r V6 ⟨rfl, k39, kp6⟩)
        | (go_at_call 50; have _ := k39; refine (PS8.out _ _ (by first | assumption | exact AL.out _ _ (by assumption) | exact AL.out _ _ (AL.out _ _ (by assumption)) | exact DR.out _ (AL.out _ _ (by assumption))) (by first | exact heap_alloc_new _ _ | exact heap_alloc2 _ _ _ | exact alKeep (heap_alloc_new _ _))).mono ?_; rintro r V7 ⟨rfl, k7, kp7⟩)
        | (go_at_call 50; refine (PS2.out _ _ _ _ (by first | assumption | exact AL.out _ _ (by assumption) | exact AL.out _ _ (AL.out _ _ (by assumption)) | exact DR.out _ (AL.out _ _ (by assumption))) (by first | exact heap_alloc_new _ _ | exact heap_alloc2 _ _ _ | exact alKeep (heap_alloc_new _ _)) (by assumption)).mono ?_; rintro r V8 ⟨rfl, k8, kp8⟩; (first | have rk := kp8.out _ (by assumption) | have rk := kp8.out _ (RowK.al (by assumption)) | have rk := kp8.out _ (heap_alloc_new _ _) | have rk := kp8.out _ (RowK.al (heap_alloc_new _ _)) | skip); (try simp at rk))
        | (go_at_call 52; refine (PNu.out _ _ (by first | assumption | exact AL.out _ _ (by assumption) | exact AL.out _ _ (AL.out _ _ (by assumption)) | exact DR.out _ (AL.out _ _ (by assumption))) (by first | assumption | exact RowK.al (by assumption) | exact heap_alloc_new _ _ | exact heap_alloc2 _ _ _ | exact RowK.al (heap_alloc_new _ _))).mono ?_; rintro r V5 ⟨rfl, k5, kp5⟩))
    all_goals
      go_wp2
      go_ret
      exact ⟨rfl, HB.out _ (Hid.out (by assumption))⟩
end Go.Proofs.YtkhdjmjbdpmdnaaGreatDoor
namespace Go.Proofs.YtkhdjmjbdpmdnaaGreatDoor
open Go.RowKit

set_option maxHeartbeats 8000000 in
set_option maxRecDepth 100000 in
theorem implCertBytes (c : Paper) (a : Option Addr) (cap : Nat) (w : World) (hi : c.issuer.size ≤ maxLen) (hs : c.subject.size ≤ maxLen) (hl : c.names.length ≤ 1048576) (ht : totS c.names c.names.length ≤ 1048576) (ha : IsStrs w a c.names) :
    Calls Tryz.prog 7 #[c.val (.slice a c.names.length cap)] w fun e w' => e = .returned (.string (certBytesD c)) ∧ Below w.heap.size w w' := by
  have HP : Hid (∀ V, IsStrs V a c.names → Calls Tryz.prog 13 #[c.val (.slice a c.names.length cap)] V fun e w' => e = .returned (.bool (certB c)) ∧ Below V.heap.size V w') := fun V hV => implCert c a cap V hi hs hl ht hV
  have HN : Hid (certB c = false → certBytesD c = ⟨#[]⟩) := fun h => by show (if _ then _ else _) = _; rw [if_neg (by rw [h]; simp)]
  have HY : Hid (certB c = true → certBytesD c = seqD (bodyD c ++ (kindD ++ thingD 3 (sigT c.sk c.se c.ss)))) := fun h => if_pos h
  have HQ : Hid (certB c = true → ∀ V, IsStrs V a c.names → Calls Tryz.prog 11 #[c.val (.slice a c.names.length cap)] V fun e w' => e = .returned (.string (bodyD c)) ∧ Below V.heap.size V w') := fun h V hV => by
    have k := implBody c a cap V hi hs hl ht hV
    unfold certBodyD at k
    rw [if_pos (certB_paper h)] at k
    exact k
  have HZ : Hid (certB c = true → (bodyD c).size ≤ 900) := fun h => bodyD_le (paper_fits (certB_paper h))
  have HSg : Hid (certB c = true → (1 < c.sk ∧ c.sk < 2147483579) ∧ (0 ≤ c.se ∧ c.se < 1073741789) ∧ 0 ≤ c.ss ∧ c.ss < 1073741789) := certB_sig
  have zS := sigT_le c.sk c.se c.ss
  have zS' := thingD_le 3 (sigT c.sk c.se c.ss)
  have zK := kindD_le
  generalize certBytesD c = R at *
  generalize certB c = P at *
  generalize bodyD c = D at *
  clear hi hs hl ht
  obtain ⟨ser, iss, sub, fr, till, key, names, ca, sk, se, ss⟩ := c
  unfold Paper.val at *
  simp only at HP HQ HSg HY zS zS' ha ⊢
  generalize names.length = nl at *
  obtain ⟨w1, hw1⟩ : ∃ w1, w1 = w.alloc (.cells #[.int .i64 ser, .string iss, .string sub, .int .i64 fr, .int .i64 till, .int .i64 key, .slice a nl cap, .bool ca, .int .i64 sk, .int .i64 se, .int .i64 ss] 27 (0, 0)) := ⟨_, rfl⟩
  have r0 : w1.heap[w.heap.size]? = some (.cells [Value.int .i64 ser, .string iss, .string sub, .int .i64 fr, .int .i64 till, .int .i64 key, .slice a nl cap, .bool ca, .int .i64 sk, .int .i64 se, .int .i64 ss].toArray 27 (0, 0)) := by rw [hw1]; exact heap_alloc_new w _
  have B1 : Hid (Below w.heap.size w w1) := by rw [hw1]; exact (Below.refl _ _).alloc (Nat.le_refl _) _
  have z1 : w.heap.size < w1.heap.size := by rw [hw1]; simp
  have HK : Hid (∀ V, Below w1.heap.size w1 V → V.cell? ⟨w.heap.size, 0, none⟩ = some (.int .i64 ser) ∧ V.cell? ⟨w.heap.size, 1, none⟩ = some (.string iss) ∧ V.cell? ⟨w.heap.size, 2, none⟩ = some (.string sub) ∧ V.cell? ⟨w.heap.size, 3, none⟩ = some (.int .i64 fr) ∧ V.cell? ⟨w.heap.size, 4, none⟩ = some (.int .i64 till) ∧ V.cell? ⟨w.heap.size, 5, none⟩ = some (.int .i64 key) ∧ V.cell? ⟨w.heap.size, 6, none⟩ = some (.slice a nl cap) ∧ V.cell? ⟨w.heap.size, 7, none⟩ = some (.bool ca) ∧ V.cell? ⟨w.heap.size, 8, none⟩ = some (.int .i64 sk) ∧ V.cell? ⟨w.heap.size, 9, none⟩ = some (.int .i64 se) ∧ V.cell? ⟨w.heap.size, 10, none⟩ = some (.int .i64 ss)) := fun V hV => by
    have hP := (hV.block _ z1).trans r0
    exact ⟨rowFacts hP 0 _ rfl, rowFacts hP 1 _ rfl, rowFacts hP 2 _ rfl, rowFacts hP 3 _ rfl, rowFacts hP 4 _ rfl, rowFacts hP 5 _ rfl, rowFacts hP 6 _ rfl, rowFacts hP 7 _ rfl, rowFacts hP 8 _ rfl, rowFacts hP 9 _ rfl, rowFacts hP 10 _ rfl⟩
  have HA : Hid (∀ V, Below w1.heap.size w1 V → IsStrs V a names) := fun V hV => (ha.keep B1.out).keep hV
  have HB : Hid (∀ V, Below w1.heap.size w1 V → Below w.heap.size w V) := fun V hV => B1.out.trans (hV.mono B1.out.size)
  clear r0 ha z1 B1
  go_enter Tryz.func7, Tryz.ntmps7
  go_upto_region 1 with fail
  rw [← hw1]
  clear hw1
  obtain ⟨c0, c1, c2, c3, c4, c5, c6, c7, c8, c9, c10⟩ := HK.out w1 (Below.refl _ _)
  go_wp2_with fail
  refine (HP.out _ (HA.out _ (Below.refl _ _))).mono ?_
  rintro e w2 ⟨rfl, b2⟩
  have K2 : Hid (Below w1.heap.size w1 w2) := b2
  clear b2 c0 c1 c2 c3 c4 c5 c6 c7 c8 c9 c10 HP
  cases P with
  | false =>
    have HF : Hid (R = ⟨#[]⟩) := HN.out rfl
    go_wp2
    go_ret
    exact ⟨by rw [HF.out]; rfl, HB.out _ K2.out⟩
  | true =>
    have hR := HY.out rfl
    have zD := HZ.out rfl
    have Q1 := HQ.out rfl
    obtain ⟨m1, m2, m3⟩ := HSg.out rfl
    have hnum : numsD [sk, se, ss] 3 = sigT sk se ss := rfl
    obtain ⟨G, eG⟩ : ∃ q, q = thingD 3 (sigT sk se ss) := ⟨_, rfl⟩
    rw [← eG] at hR zS'
    have PB : Hid (∀ V, Hid (Below w1.heap.size w1 V) → Calls Tryz.prog 11 #[.agg #[.int .i64 ser, .string iss, .string sub, .int .i64 fr, .int .i64 till, .int .i64 key, .slice a nl cap, .bool ca, .int .i64 sk, .int .i64 se, .int .i64 ss]] V fun e W => e = .returned (.string (D)) ∧ Hid (Below w1.heap.size w1 W) ∧ Hid (∀ b, Row3 sk se ss V b → Row3 sk se ss W b)) := fun V hV => (Q1 V (HA.out V hV.out)).mono fun e W h => ⟨h.1, hV.out.trans (h.2.mono hV.out.size), fun b hb => hb.keep h.2⟩
    have PK : Hid (∀ V, Hid (Below w1.heap.size w1 V) → Calls Tryz.prog 51 #[] V fun e W => e = .returned (.string (kindD)) ∧ Hid (Below w1.heap.size w1 W) ∧ Hid (∀ b, Row3 sk se ss V b → Row3 sk se ss W b)) := fun V hV => (implKind V).mono fun e W h => ⟨h.1, hV.out.trans (h.2.mono hV.out.size), fun b hb => hb.keep h.2⟩
    have PNu : Hid (∀ V (g : Nat), Hid (Below w1.heap.size w1 V) → Row3 sk se ss V g → Calls Tryz.prog 52 #[.slice (some ⟨g, 0, none⟩) 3 3] V fun e W => e = .returned (.string (G)) ∧ Hid (Below w1.heap.size w1 W) ∧ Hid (∀ b, Row3 sk se ss V b → Row3 sk se ss W b)) := fun V g hV hg => by
      rw [eG, ← hnum]
      exact (implNumbers (some ⟨g, 0, none⟩) [sk, se, ss] 3 V (by simp) (fun i hi => by
        have h' : i = 0 ∨ i = 1 ∨ i = 2 := by have : i < 3 := hi; omega
        rcases h' with rfl | rfl | rfl
        · show _ ≤ sk ∧ sk ≤ _; omega
        · show _ ≤ se ∧ se ≤ _; omega
        · show _ ≤ ss ∧ ss ≤ _; omega) (IsInts.row (rest := []) hg)).mono fun e W h => ⟨h.1, hV.out.trans (h.2.mono hV.out.size), fun b hb => hb.keep h.2⟩
    have PS : Hid (∀ V (g : Nat), Hid (Below w1.heap.size w1 V) → V.heap[g]? = some (.cells #[.string D, .string kindD, .string G] 9 (0, 0)) → Calls Tryz.prog 50 #[.slice (some ⟨g, 0, none⟩) 3 3] V fun e W => e = .returned (.string (R)) ∧ Hid (Below w1.heap.size w1 W) ∧ Hid (∀ b, Row3 sk se ss V b → Row3 sk se ss W b)) := fun V g hV hg => by
      rw [hR]
      exact (implSeq3 D kindD G g V (by omega) hg).mono fun e W h => ⟨h.1, hV.out.trans (h.2.mono hV.out.size), fun b hb => hb.keep h.2⟩
    have AL : Hid (∀ V o, Hid (Below w1.heap.size w1 V) → Hid (Below w1.heap.size w1 (V.alloc o))) := fun V o h => h.out.alloc h.out.size o
    have DR : Hid (∀ V, Hid (Below w1.heap.size w1 V) → Hid (Below w1.heap.size w1 V.drew)) := fun V h => h.out.drew
    have D2 : Hid (Below w1.heap.size w1 w2.drew) := DR.out _ K2
    clear HN HY HZ HQ HSg Q1 hR zD zS zS' zK eG hnum m1 m2 m3 HA
    obtain ⟨c0, c1, c2, c3, c4, c5, c6, c7, c8, c9, c10⟩ := HK.out w2 K2.out
    go_wp2_with fail
    go_region_held3 (fun V => V.cell? ⟨w.heap.size, 0, none⟩ = some (.int .i64 ser) ∧ V.cell? ⟨w.heap.size, 1, none⟩ = some (.string iss) ∧ V.cell? ⟨w.heap.size, 2, none⟩ = some (.string sub) ∧ V.cell? ⟨w.heap.size, 3, none⟩ = some (.int .i64 fr) ∧ V.cell? ⟨w.heap.size, 4, none⟩ = some (.int .i64 till) ∧ V.cell? ⟨w.heap.size, 5, none⟩ = some (.int .i64 key) ∧ V.cell? ⟨w.heap.size, 6, none⟩ = some (.slice a nl cap) ∧ V.cell? ⟨w.heap.size, 7, none⟩ = some (.bool ca) ∧ V.cell? ⟨w.heap.size, 8, none⟩ = some (.int .i64 sk) ∧ V.cell? ⟨w.heap.size, 9, none⟩ = some (.int .i64 se) ∧ V.cell? ⟨w.heap.size, 10, none⟩ = some (.int .i64 ss)) (first | (refine ⟨?_, ?_, ?_, ?_, ?_, ?_, ?_, ?_, ?_, ?_, ?_⟩ <;> assumption) | exact HK.out _ (Hid.out (by assumption)) | go_keep)
      (first
        | (go_at_call 11; refine (PB.out _ (by first | assumption | exact AL.out _ _ (by assumption) | exact AL.out _ _ (AL.out _ _ (by assumption)) | exact DR.out _ (AL.out _ _ (by assumption)))).mono ?_; rintro r V1 ⟨rfl, k1, kp1⟩; (first | have rk := kp1.out _ (by assumption) | have rk := kp1.out _ (Row3.al (by assumption)) | have rk := kp1.out _ (heap_alloc_new _ _) | have rk := kp1.out _ (Row3.al (heap_alloc_new _ _)) | skip); (try simp at rk))
        | (go_at_call 51; refine (PK.out _ (by first | assumption | exact AL.out _ _ (by assumption) | exact AL.out _ _ (AL.out _ _ (by assumption)) | exact DR.out _ (AL.out _ _ (by assumption)))).mono ?_; rintro r V2 ⟨rfl, k2, kp2⟩; (first | have rk := kp2.out _ (by assumption) | have rk := kp2.out _ (Row3.al (by assumption)) | have rk := kp2.out _ (heap_alloc_new _ _) | have rk := kp2.out _ (Row3.al (heap_alloc_new _ _)) | skip); (try simp at rk))
        | (go_at_call 52; refine (PNu.out _ _ (by first | assumption | exact AL.out _ _ (by assumption) | exact AL.out _ _ (AL.out _ _ (by assumption)) | exact DR.out _ (AL.out _ _ (by assumption))) (by first | assumption | exact Row3.al (by assumption) | exact heap_alloc_new _ _ | exact heap_alloc2 _ _ _ | exact Row3.al (heap_alloc_new _ _))).mono ?_; rintro r V3 ⟨rfl, k3, kp3⟩)
        | (go_at_call 50; refine (PS.out _ _ (by first | assumption | exact AL.out _ _ (by assumption) | exact AL.out _ _ (AL.out _ _ (by assumption)) | exact DR.out _ (AL.out _ _ (by assumption))) (by first | exact heap_alloc_new _ _ | exact heap_alloc2 _ _ _ | exact alKeep (heap_alloc_new _ _))).mono ?_; rintro r V4 ⟨rfl, k4, kp4⟩))
    all_goals
      go_wp2
      go_ret
      exact ⟨rfl, HB.out _ k4.out⟩
end Go.Proofs.YtkhdjmjbdpmdnaaGreatDoor
