/- spec.PutNum, walked. spec.l06Body, walked. The numbers of the rounds, walked: spec.l02Keys. -/
import Derived.Test.YtkinobpchocooaaGreatDoorCGd01
import Derived.Test.YtkinobpchocooaaGreatDoorCGd06
import Derived.Test.YtkinobpchocooaaGreatDoorCGd02
import Derived.Test.YtkinobpchocooaaGreatDoorCGd04
import Derived.Test.YtkinobpchocooaaGreatDoorCGd05
namespace Go.Proofs.YtkinobpchocooaaGreatDoor
open Go.RowKit


theorem specFold (n : Int) (w : World) (h0 : -9223372036854775808 ≤ n) (h1 : n ≤ 9223372036854775807) :
    Calls Tryz.prog 52 #[.int .i64 n] w fun e w' => e = .returned (.int .u64 (foldI n : Int)) ∧ w' = w := by
  by_cases hn : n < 0
  · go_enter Tryz.func52, Tryz.ntmps52
    go_wp2
    go_ret
    exact ⟨ret_int (by unfold foldI; rw [if_pos hn]; omega), rfl⟩
  · go_enter Tryz.func52, Tryz.ntmps52
    go_wp2
    go_ret
    exact ⟨ret_int (by unfold foldI; rw [if_neg (by omega)]; omega), rfl⟩

theorem putRel {B : Nat} {w wr w1 : World} {v v' : Value} {xs : List Int} {x : Int} (o : Obj) (hB : B ≤ wr.heap.size) (hb : Below B w wr) (hown : wr.ownsRow B 5 1 v xs.length (xs.map (Value.int .u8)))
    (hown' : w1.ownsRow B 5 1 v' (xs.length + 1) (xs.map (Value.int .u8) ++ [Value.int .u8 x])) (hg : (wr.alloc o).grownBy w1 v.ownBlock) :
    w1.ownsRow B 5 1 v' (xs ++ [x]).length ((xs ++ [x]).map (Value.int .u8)) ∧ Below B w w1 ∧ B ≤ w1.heap.size := by
  refine ⟨by simpa using hown', (hb.alloc hB o).grown hg (by simp; omega) (fun k hk => (hown.lt k hk).1), ?_⟩
  have := hg.size
  simp at this
  omega

set_option maxHeartbeats 1000000 in
set_option maxRecDepth 100000 in
theorem specPut (n : Int) (w : World) (h0 : -9223372036854775808 ≤ n) (h1 : n ≤ 9223372036854775807) :
    Calls Tryz.prog 28 #[.int .i64 n] w fun e w' => e = .returned (.string (strOfNums (putF 9 (foldI n)))) ∧ Below w.heap.size w w' := by
  obtain ⟨i0, hi, hz0, hz1, hz2⟩ := info_parts infoByte
  have hf : (foldI n : Int) ≤ 18446744073709551615 := by unfold foldI; split <;> omega
  obtain ⟨u, hu⟩ : ∃ u, u = foldI n := ⟨_, rfl⟩
  rw [← hu] at hf ⊢
  have HU : Hid (u = foldI n) := hu
  clear hu
  go_enter Tryz.func28, Tryz.ntmps28
  go_wp2_with fail
  refine (specFold n _ h0 h1).mono ?_
  rintro e w' ⟨rfl, rfl⟩
  rw [← HU.out]
  go_wp2_with fail
  go_loopw [3, 4] (fun a b wr => ∃ (x f : Nat) (xs : List Int), (x : Int) ≤ 18446744073709551615 ∧ x < pw f ∧ xs.length + f ≤ 9 ∧ a = .int .u64 x ∧ wr.ownsRow w'.heap.size 5 1 b xs.length (xs.map (Value.int .u8)) ∧
      Below w'.heap.size w' wr ∧ w'.heap.size ≤ wr.heap.size ∧ xs ++ putF f x = putF 9 u)
    (fun a _ _ => (intOf a).toNat)
  case atStart =>
    exact ⟨u, 9, [], hf, by rw [pw9]; omega, by simp, rfl, World.ownsRow_made _ #[] 0 (Nat.le_refl _) (Nat.zero_le _) rfl, (Below.refl _ _).alloc (Nat.le_refl _) _, by simp, by simp⟩
  case round =>
    obtain ⟨x, f, xs, hx, hpw, hlen, rfl, hown, hbel, hsz, heq⟩ := hrel
    have HE : Hid (xs ++ putF f x = putF 9 u) := heq
    have HP : Hid (x < pw f) := hpw
    clear heq hpw hf h0 h1
    by_cases hlt : 128 ≤ x
    · go_wp2_with (at_builtin; refine wpList_append_own _ rfl _ _ 64 rfl w'.heap.size 5 i0 (.int .u8 0) 1 1 Tryz.underlying64 hi hz0 hz1 hz2 rfl (by decide) _ _ _ rfl (hown.alloc _) ⟨wr.heap.size, 0, none⟩ 1 1 [.int .u8 ((x : Int) % 128 + 128)] rfl rfl ?c1 ?c2 ?c3 ?c4 ?c5 ?_)
      case c1 => exact cells_one (by simp)
      case c2 => intro u hu; simp at hu; subst hu; rfl
      case c3 => unfold maxLen; omega
      case c4 => omega
      case c5 => simp; omega
      intro v' w1 hown' hgrow _
      have R := putRel _ hsz hbel hown hown' hgrow
      clear hown' hgrow hown hbel
      go_wp2
      go_roundw
      case rel =>
        obtain ⟨g, rfl, hg⟩ := pw_step HP.out hlt
        have he := HE.out
        rw [putF_more hlt] at he
        refine ⟨x / 128, g, xs ++ [(x : Int) % 128 + 128], by omega, hg, by simp; omega, by go_num, R.1, R.2.1, R.2.2, ?_⟩
        rw [List.append_assoc, ← he]
        simp
      case measure => simp [intOf]; omega
    · go_wp2_with (at_builtin; refine wpList_append_own _ rfl _ _ 64 rfl w'.heap.size 5 i0 (.int .u8 0) 1 1 Tryz.underlying64 hi hz0 hz1 hz2 rfl (by decide) _ _ _ rfl (hown.alloc _) ⟨wr.heap.size, 0, none⟩ 1 1 [.int .u8 (x : Int)] rfl rfl ?d1 ?d2 ?d3 ?d4 ?d5 ?_)
      case d1 => exact cells_one (by simp)
      case d2 => intro u hu; simp at hu; subst hu; rfl
      case d3 => unfold maxLen; omega
      case d4 => omega
      case d5 => simp; omega
      intro v' w1 hown' hgrow _
      have R := putRel _ hsz hbel hown hown' hgrow
      clear hown' hgrow hown hbel
      have hcv := run_convert_own (P := Tryz.prog) (src := 64) (dst := 9) Tryz.underlying64 Tryz.underlying5 Tryz.underlying9 R.1
      have HR := R.2.1
      clear R
      go_wp2
      go_ret
      refine ⟨?_, HR⟩
      have he := HE.out
      rw [putF_last (by omega)] at he
      rw [← he]
      rfl
end Go.Proofs.YtkinobpchocooaaGreatDoor
namespace Go.Proofs.YtkinobpchocooaaGreatDoor
open Go.RowKit

set_option maxHeartbeats 4000000 in
set_option maxRecDepth 100000 in
theorem specBody (c : Paper) (a : Option Addr) (cap : Nat) (w : World) (h : PFits c) (ha : IsStrs w a c.names) :
    Calls Tryz.prog 12 #[c.val (.slice a c.names.length cap)] w fun e w' => e = .returned (.string (bodyD c)) ∧ Below w.heap.size w w' := by
  have HMo : Hid (∀ V, IsStrs V a c.names → Calls Tryz.prog 29 #[c.val (.slice a c.names.length cap)] V fun e w' => e = .returned (.string (moreD c.names c.ca)) ∧ Below V.heap.size V w') := fun V hV => specMoreD c a cap V h.len h.each hV
  have zM := moreD_le h.len h.each c.ca
  have zi := h.iss
  have zs := h.sub
  have hser : -9223372036854775808 ≤ c.serial ∧ c.serial ≤ 9223372036854775807 := by have := h.ser0; have := h.ser1; omega
  have hfr : -9223372036854775808 ≤ c.fr ∧ c.fr ≤ 9223372036854775807 := by have := h.fr0; have := h.fr1; omega
  have htl : -9223372036854775808 ≤ c.till ∧ c.till ≤ 9223372036854775807 := by have := h.till0; have := h.till1; omega
  have hkey : -9223372036854775808 ≤ c.key ∧ c.key ≤ 9223372036854775807 := by have := h.key0; have := h.key1; omega
  obtain ⟨R, hR⟩ : ∃ R, R = bodyD c := ⟨_, rfl⟩
  rw [← hR]
  have HR : Hid (R = bodyD c) := hR
  clear hR h
  obtain ⟨ser, iss, sub, fr, till, key, names, ca, sk, se, ss⟩ := c
  unfold Paper.val at *
  unfold bodyD keyD at HR
  simp only at HMo zM zi zs hser hfr htl hkey ha HR ⊢
  generalize moreD names ca = m at *
  generalize names.length = nl at *
  obtain ⟨w1, hw1⟩ : ∃ w1, w1 = w.alloc (.cells #[.int .i64 ser, .string iss, .string sub, .int .i64 fr, .int .i64 till, .int .i64 key, .slice a nl cap, .bool ca, .int .i64 sk, .int .i64 se, .int .i64 ss] 31 (0, 0)) := ⟨_, rfl⟩
  have r0 : w1.heap[w.heap.size]? = some (.cells [Value.int .i64 ser, .string iss, .string sub, .int .i64 fr, .int .i64 till, .int .i64 key, .slice a nl cap, .bool ca, .int .i64 sk, .int .i64 se, .int .i64 ss].toArray 31 (0, 0)) := by rw [hw1]; exact heap_alloc_new w _
  have B1 : Hid (Below w.heap.size w w1) := by rw [hw1]; exact (Below.refl _ _).alloc (Nat.le_refl _) _
  have z1 : w.heap.size < w1.heap.size := by rw [hw1]; simp
  have HK : Hid (∀ V, Below w1.heap.size w1 V → V.cell? ⟨w.heap.size, 0, none⟩ = some (.int .i64 ser) ∧ V.cell? ⟨w.heap.size, 1, none⟩ = some (.string iss) ∧ V.cell? ⟨w.heap.size, 2, none⟩ = some (.string sub) ∧ V.cell? ⟨w.heap.size, 3, none⟩ = some (.int .i64 fr) ∧ V.cell? ⟨w.heap.size, 4, none⟩ = some (.int .i64 till) ∧ V.cell? ⟨w.heap.size, 5, none⟩ = some (.int .i64 key) ∧ V.cell? ⟨w.heap.size, 6, none⟩ = some (.slice a nl cap) ∧ V.cell? ⟨w.heap.size, 7, none⟩ = some (.bool ca) ∧ V.cell? ⟨w.heap.size, 8, none⟩ = some (.int .i64 sk) ∧ V.cell? ⟨w.heap.size, 9, none⟩ = some (.int .i64 se) ∧ V.cell? ⟨w.heap.size, 10, none⟩ = some (.int .i64 ss)) := fun V hV => by
    have hP := (hV.block _ z1).trans r0
    exact ⟨rowFacts hP 0 _ rfl, rowFacts hP 1 _ rfl, rowFacts hP 2 _ rfl, rowFacts hP 3 _ rfl, rowFacts hP 4 _ rfl, rowFacts hP 5 _ rfl, rowFacts hP 6 _ rfl, rowFacts hP 7 _ rfl, rowFacts hP 8 _ rfl, rowFacts hP 9 _ rfl, rowFacts hP 10 _ rfl⟩
  have HA : Hid (∀ V, Below w1.heap.size w1 V → IsStrs V a names) := fun V hV => (ha.keep B1.out).keep hV
  have HB : Hid (∀ V, Below w1.heap.size w1 V → Below w.heap.size w V) := fun V hV => B1.out.trans (hV.mono B1.out.size)
  clear r0 ha z1 B1
  have PT : Hid (∀ V (t : Int) (b : ByteArray), Hid (Below w1.heap.size w1 V) → 0 ≤ t → t ≤ 255 → b.size ≤ 20000 → Calls Tryz.prog 23 #[.int .i64 t, .string b] V fun e W => e = .returned (.string (thingD t b)) ∧ Hid (Below w1.heap.size w1 W)) := fun V t b hV h0 h1 hb => by
    refine (specThing t b V h0 h1 hb).mono ?_
    rintro e W ⟨rfl, hW⟩
    exact ⟨rfl, hV.out.trans (hW.mono hV.out.size)⟩
  have PS : Hid (∀ V (b : ByteArray), Hid (Below w1.heap.size w1 V) → b.size ≤ 20000 → Calls Tryz.prog 27 #[.string b] V fun e W => e = .returned (.string (seqD b)) ∧ Hid (Below w1.heap.size w1 W)) := fun V b hV hb => by
    refine (specSeq b V hb).mono ?_
    rintro e W ⟨rfl, hW⟩
    exact ⟨rfl, hV.out.trans (hW.mono hV.out.size)⟩
  have PI : Hid (∀ V (n : Int), Hid (Below w1.heap.size w1 V) → -9223372036854775808 ≤ n ∧ n ≤ 9223372036854775807 → Calls Tryz.prog 24 #[.int .i64 n] V fun e W => e = .returned (.string (intD n)) ∧ Hid (Below w1.heap.size w1 W)) := fun V n hV hn => by
    refine (specDerInt n V hn.1 hn.2).mono ?_
    rintro e W ⟨rfl, hW⟩
    exact ⟨rfl, hV.out.trans (hW.mono hV.out.size)⟩
  have PK : Hid (∀ V, Hid (Below w1.heap.size w1 V) → Calls Tryz.prog 25 #[] V fun e W => e = .returned (.string (kindD)) ∧ Hid (Below w1.heap.size w1 W)) := fun V hV => by
    refine (specKind V).mono ?_
    rintro e W ⟨rfl, hW⟩
    exact ⟨rfl, hV.out.trans (hW.mono hV.out.size)⟩
  have PN : Hid (∀ V (b : ByteArray), Hid (Below w1.heap.size w1 V) → b.size ≤ 40 → Calls Tryz.prog 26 #[.string b] V fun e W => e = .returned (.string (nameD b)) ∧ Hid (Below w1.heap.size w1 W)) := fun V b hV hb => by
    refine (specNameD b V (by omega)).mono ?_
    rintro e W ⟨rfl, hW⟩
    exact ⟨rfl, hV.out.trans (hW.mono hV.out.size)⟩
  have PP : Hid (∀ V (n : Int), Hid (Below w1.heap.size w1 V) → -9223372036854775808 ≤ n ∧ n ≤ 9223372036854775807 → Calls Tryz.prog 28 #[.int .i64 n] V fun e W => e = .returned (.string (putS n)) ∧ Hid (Below w1.heap.size w1 W)) := fun V n hV hn => by
    refine (specPut n V hn.1 hn.2).mono ?_
    rintro e W ⟨rfl, hW⟩
    exact ⟨rfl, hV.out.trans (hW.mono hV.out.size)⟩
  have PM : Hid (∀ V, Hid (Below w1.heap.size w1 V) → Calls Tryz.prog 29 #[.agg #[.int .i64 ser, .string iss, .string sub, .int .i64 fr, .int .i64 till, .int .i64 key, .slice a nl cap, .bool ca, .int .i64 sk, .int .i64 se, .int .i64 ss]] V fun e W => e = .returned (.string (m)) ∧ Hid (Below w1.heap.size w1 W)) := fun V hV => by
    refine (HMo.out V (HA.out V hV.out)).mono ?_
    rintro e W ⟨rfl, hW⟩
    exact ⟨rfl, hV.out.trans (hW.mono hV.out.size)⟩
  have DR : Hid (∀ V, Hid (Below w1.heap.size w1 V) → Hid (Below w1.heap.size w1 V.drew)) := fun V h => h.out.drew
  have I1 : Hid (Below w1.heap.size w1 w1) := Below.refl _ _
  have D1 : Hid (Below w1.heap.size w1 w1.drew) := DR.out _ I1
  have y1 := intD_le 2
  have y2 := intD_le ser
  have y3 := kindD_le
  have y4 := nameD_le iss
  have y5 := nameD_le sub
  have y6 := intD_le fr
  have y7 := intD_le till
  have y8 := putS_size key
  have y9 := thingD_le 160 (intD 2)
  have b2 : (intD 2).size ≤ 20000 := by omega
  obtain ⟨p1, e1⟩ : ∃ q, thingD 160 (intD 2) = q := ⟨_, rfl⟩
  rw [e1] at y9 HR
  obtain ⟨x1, q1⟩ : ∃ q, p1 ++ intD ser = q := ⟨_, rfl⟩
  have s1 : x1.size ≤ 100 := by rw [← q1, ByteArray.size_append]; omega
  obtain ⟨x2, q2⟩ : ∃ q, x1 ++ kindD = q := ⟨_, rfl⟩
  have s2 : x2.size ≤ 200 := by rw [← q2, ByteArray.size_append]; omega
  obtain ⟨x3, q3⟩ : ∃ q, x2 ++ nameD iss = q := ⟨_, rfl⟩
  have s3 : x3.size ≤ 400 := by rw [← q3, ByteArray.size_append]; omega
  obtain ⟨v1, g1⟩ : ∃ q, intD fr ++ intD till = q := ⟨_, rfl⟩
  have t1 : v1.size ≤ 20000 := by rw [← g1, ByteArray.size_append]; omega
  have t1' : v1.size ≤ 24 := by rw [← g1, ByteArray.size_append]; omega
  have u1 := seqD_le v1
  obtain ⟨x4, q4⟩ : ∃ q, x3 ++ seqD v1 = q := ⟨_, rfl⟩
  have s4 : x4.size ≤ 500 := by rw [← q4, ByteArray.size_append]; omega
  obtain ⟨x5, q5⟩ : ∃ q, x4 ++ nameD sub = q := ⟨_, rfl⟩
  have s5 : x5.size ≤ 700 := by rw [← q5, ByteArray.size_append]; omega
  obtain ⟨v2, g2⟩ : ∃ q, (⟨#[0]⟩ : ByteArray) ++ putS key = q := ⟨_, rfl⟩
  have t2 : v2.size ≤ 20000 := by rw [← g2, ByteArray.size_append]; show 1 + _ ≤ _; omega
  have t2' : v2.size ≤ 11 := by rw [← g2, ByteArray.size_append]; show 1 + _ ≤ _; omega
  have u2 := thingD_le 3 v2
  obtain ⟨v3, g3⟩ : ∃ q, kindD ++ thingD 3 v2 = q := ⟨_, rfl⟩
  have t3 : v3.size ≤ 20000 := by rw [← g3, ByteArray.size_append]; omega
  have t3' : v3.size ≤ 68 := by rw [← g3, ByteArray.size_append]; omega
  have u3 := seqD_le v3
  obtain ⟨x6, q6⟩ : ∃ q, x5 ++ seqD v3 = q := ⟨_, rfl⟩
  have s6 : x6.size ≤ 900 := by rw [← q6, ByteArray.size_append]; omega
  obtain ⟨x7, q7⟩ : ∃ q, x6 ++ m = q := ⟨_, rfl⟩
  have s7 : x7.size ≤ 20000 := by rw [← q7, ByteArray.size_append]; omega
  have HRR : Hid (seqD x7 = R) := by
    show _ = _
    rw [HR.out, g2, g3, ← q7, ← q6, ← q5, ← q4, ← q3, ← q2, ← q1, g1]
    simp only [ByteArray.append_assoc]
  have a1 : ¬ 9223372036854775807 < p1.size + (intD ser).size := by omega
  have a2 : ¬ 9223372036854775807 < x1.size + kindD.size := by omega
  have a3 : ¬ 9223372036854775807 < x2.size + (nameD iss).size := by omega
  have a4 : ¬ 9223372036854775807 < (intD fr).size + (intD till).size := by omega
  have a5 : ¬ 9223372036854775807 < x3.size + (seqD v1).size := by omega
  have a6 : ¬ 9223372036854775807 < x4.size + (nameD sub).size := by omega
  have a7 : ¬ 9223372036854775807 < (⟨#[0]⟩ : ByteArray).size + (putS key).size := by show ¬ _ < 1 + _; omega
  have a7' : ¬ 9223372036854775807 < 1 + (putS key).size := by omega
  have a8 : ¬ 9223372036854775807 < kindD.size + (thingD 3 v2).size := by omega
  have a9 : ¬ 9223372036854775807 < x5.size + (seqD v3).size := by omega
  have a10 : x6.size + m.size ≤ 9223372036854775807 := by omega
  have P160 : Hid (∀ V, Hid (Below w1.heap.size w1 V) → Calls Tryz.prog 23 #[.int .i64 160, .string (intD 2)] V fun e W => e = .returned (.string (p1)) ∧ Hid (Below w1.heap.size w1 W)) := fun V hV => by rw [← e1]; exact PT.out V 160 _ hV (by omega) (by omega) b2
  have P3 : Hid (∀ V, Hid (Below w1.heap.size w1 V) → Calls Tryz.prog 23 #[.int .i64 3, .string v2] V fun e W => e = .returned (.string (thingD 3 v2)) ∧ Hid (Below w1.heap.size w1 W)) := fun V hV => PT.out V 3 _ hV (by omega) (by omega) t2
  have PIser : -9223372036854775808 ≤ (2 : Int) ∧ (2 : Int) ≤ 9223372036854775807 := by omega
  clear HR y1 y2 y3 y4 y5 y6 y7 y8 y9 b2 s1 s2 s3 s4 s5 s6 u1 u2 u3 t1' t2' t3' PT HMo zM e1
  go_enter Tryz.func12, Tryz.ntmps12
  go_upto_region 1 with fail
  rw [← hw1]
  clear hw1
  obtain ⟨c0, c1, c2, c3, c4, c5, c6, c7, c8, c9, c10⟩ := HK.out w1 I1.out
  go_cut [3] from 4 (fun s3 wx => s3 = .string x3 ∧ Below w1.heap.size w1 wx)
  case first =>
    clear q4 q5 q6 q7 g1 g2 g3 a4 a5 a6 a7 a7' a8 a9 a10 t1 t2 t3 s7
    go_region_held3 (fun V => V.cell? ⟨w.heap.size, 0, none⟩ = some (.int .i64 ser) ∧ V.cell? ⟨w.heap.size, 1, none⟩ = some (.string iss)) (first | (refine ⟨?_, ?_⟩ <;> assumption) | exact ⟨(HK.out _ (Hid.out (by assumption))).1, (HK.out _ (Hid.out (by assumption))).2.1⟩)
      (first
        | (go_at_call 24; refine (PI.out _ _ (by assumption) (by assumption)).mono ?_; rintro r V1 ⟨rfl, k1⟩)
        | (go_at_call 23; refine (P160.out _ (by assumption)).mono ?_; rintro r V2 ⟨rfl, k2⟩)
        | (go_at_call 25; refine (PK.out _ (by assumption)).mono ?_; rintro r V3 ⟨rfl, k3⟩)
        | (go_at_call 26; refine (PN.out _ _ (by assumption) (by assumption)).mono ?_; rintro r V4 ⟨rfl, k4⟩))
    go_wp2_with fail
    go_meet
    case rel => exact ⟨rfl, k4.out⟩
  case rest =>
    obtain ⟨rfl, hcut⟩ := hcut
    have J1 : Hid (Below w1.heap.size w1 wc) := hcut
    have D2 : Hid (Below w1.heap.size w1 wc.drew) := DR.out _ J1
    clear hcut c0 c1 c2 c3 c4 c5 c6 c7 c8 c9 c10 q1 q2 q3 a1 a2 a3 D1 I1 P160 PIser
    obtain ⟨c0, c1, c2, c3, c4, c5, c6, c7, c8, c9, c10⟩ := HK.out wc J1.out
    go_upto_region 2 with fail
    go_cut [3] from 4 (fun s3 wx => s3 = .string x6 ∧ Below w1.heap.size w1 wx)
    case first =>
      clear q7 a10 s7
      go_region_held3 (fun V => V.cell? ⟨w.heap.size, 2, none⟩ = some (.string sub) ∧ V.cell? ⟨w.heap.size, 3, none⟩ = some (.int .i64 fr) ∧ V.cell? ⟨w.heap.size, 4, none⟩ = some (.int .i64 till) ∧ V.cell? ⟨w.heap.size, 5, none⟩ = some (.int .i64 key)) (first | (refine ⟨?_, ?_, ?_, ?_⟩ <;> assumption) | exact ⟨(HK.out _ (Hid.out (by assumption))).2.2.1, (HK.out _ (Hid.out (by assumption))).2.2.2.1, (HK.out _ (Hid.out (by assumption))).2.2.2.2.1, (HK.out _ (Hid.out (by assumption))).2.2.2.2.2.1⟩)
        (first
          | (go_at_call 24; refine (PI.out _ _ (by assumption) (by assumption)).mono ?_; rintro r V1 ⟨rfl, k1⟩)
          | (go_at_call 27; refine (PS.out _ _ (by assumption) (by assumption)).mono ?_; rintro r V2 ⟨rfl, k2⟩)
          | (go_at_call 26; refine (PN.out _ _ (by assumption) (by assumption)).mono ?_; rintro r V3 ⟨rfl, k3⟩)
          | (go_at_call 25; refine (PK.out _ (by assumption)).mono ?_; rintro r V4 ⟨rfl, k4⟩)
          | (go_at_call 28; refine (PP.out _ _ (by assumption) (by assumption)).mono ?_; rintro r V5 ⟨rfl, k5⟩)
          | (go_at_call 23; refine (P3.out _ (by assumption)).mono ?_; rintro r V6 ⟨rfl, k6⟩))
      go_wp2_with fail
      go_meet
      case rel => exact ⟨rfl, Hid.out (by assumption)⟩
    case rest =>
      obtain ⟨rfl, hcut⟩ := hcut
      have J2 : Hid (Below w1.heap.size w1 wc) := hcut
      clear hcut c0 c1 c2 c3 c4 c5 c6 c7 c8 c9 c10 J1 D2 q4 q5 q6 g1 g2 g3 a4 a5 a6 a7 a7' a8 a9 t1 t2 t3 P3 PP PN PK PI
      obtain ⟨c0, c1, c2, c3, c4, c5, c6, c7, c8, c9, c10⟩ := HK.out wc J2.out
      go_wp2_with fail
      refine (PM.out _ J2).mono ?_
      rintro r V1 ⟨rfl, k1⟩
      clear c0 c1 c2 c3 c4 c5 c6 c7 c8 c9 c10
      go_wp2_with fail
      refine (PS.out _ x7 k1 s7).mono ?_
      rintro r V2 ⟨rfl, k2⟩
      rw [HRR.out]
      go_wp2
      go_ret
      exact ⟨rfl, HB.out _ k2.out⟩
end Go.Proofs.YtkinobpchocooaaGreatDoor
namespace Go.Proofs.YtkinobpchocooaaGreatDoor
open Go.RowKit

def keyV : List Value := keyL.map fun n : Nat => Value.int .u32 (n : Int)
theorem key_at (k : Nat) (h : k < 64) : keyV[k]? = some (.int .u32 (uI (kAt k))) := by
  unfold keyV
  have hl : k < keyL.length := h
  rw [List.getElem?_map, List.getElem?_eq_getElem hl]
  have hb : ∀ n ∈ keyL, n < 4294967296 := by decide
  have := hb _ (List.getElem_mem hl)
  unfold kAt uI
  rw [BitVec.toNat_ofNat, List.getD, List.getElem?_eq_getElem hl]
  simp only [Option.map_some, Option.getD_some]
  rw [Nat.mod_eq_of_lt (by simpa using this)]
set_option maxRecDepth 100000 in
theorem specKeys (w : World) :
    Calls Tryz.prog 113 #[] w fun e w' => e = .returned (.slice (some ⟨w.heap.size, 0, none⟩) 64 64) ∧ w'.heap[w.heap.size]? = some (.cells keyV.toArray 107 (0, 0)) ∧ Below w.heap.size w w' := by
  go_enter Tryz.func113, Tryz.ntmps113
  go_wp2
  go_ret
  exact ⟨rfl, heap_alloc_new _ _, (Below.refl _ _).alloc (Nat.le_refl _) _⟩
theorem add_row (s T : St) (j : Nat) (h : j < 8) : (s.add T).row.getD j 0 = s.row.getD j 0 + T.row.getD j 0 := by
  rcases (by omega : j = 0 ∨ j = 1 ∨ j = 2 ∨ j = 3 ∨ j = 4 ∨ j = 5 ∨ j = 6 ∨ j = 7) with rfl | rfl | rfl | rfl | rfl | rfl | rfl | rfl <;> rfl
theorem iCells_take (s : St) (j : Nat) (h : j < 8) : (iCells s).take (j + 1) = (iCells s).take j ++ [.int .i64 (uI (s.row.getD j 0))] := by
  have e := iCells_at s j h
  have hl : j < (iCells s).length := h
  rw [List.getElem?_eq_getElem hl] at e
  rw [List.take_succ_eq_append_getElem hl, Option.some.inj e]
theorem infoWord : (Tryz.prog.info? 107).map (fun i => (i.zero, i.size, i.bytes)) = some (some (.int .u32 0), 1, 4) := by kernel_rfl
end Go.Proofs.YtkinobpchocooaaGreatDoor
