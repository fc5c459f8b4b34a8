/- impl.serialsRight, putSerials, walked. impl.crlBody, walked. impl.boxCrl, walked. An error of errors.New's make in one of the program's variables. The methods of impl.signedBox over impl.Crl: right, walked. -/
import Derived.Test.YtegmmaomaegjjaaGreatDoorPT12
import Derived.Test.YtegmmaomaegjjaaGreatDoorPT18
import Derived.Test.YtegmmaomaegjjaaGreatDoorPT20
import Derived.Test.YtegmmaomaegjjaaGreatDoorPT21
import Derived.Deep.Cut
import Derived.Deep.RegionHeld3
import Derived.Test.YtegmmaomaegjjaaGreatDoorPT04
import Derived.Test.YtegmmaomaegjjaaGreatDoorPT06
import Derived.Test.YtegmmaomaegjjaaGreatDoorPT01
import Derived.Below
namespace Go.Proofs.YtegmmaomaegjjaaGreatDoor
open Go.RowKit

set_option linter.unusedSimpArgs false in
set_option maxHeartbeats 4000000 in
set_option maxRecDepth 100000 in
theorem implSerials (a : Option Addr) (zs : List Int) (c : Nat) (w : World) (hl : zs.length ≤ 1048576) (ha : IsInts w a zs) :
    Calls Tryz.prog 94 #[.slice a zs.length c] w fun e w' => e = .returned (.bool (serialsB zs)) ∧ Below w.heap.size w w' := by
  by_cases h5 : 40 < zs.length
  · have HF : Hid (serialsB zs = false) := by show _ = _; rw [serialsB, decide_eq_false (by omega)]; simp
    go_enter Tryz.func94, Tryz.ntmps94
    go_wp2
    go_ret
    exact ⟨by rw [HF.out]; rfl, Below.refl _ _⟩
  go_enter Tryz.func94, Tryz.ntmps94
  go_wp2
  go_loopw [10] (fun i wr => ∃ k : Nat, k ≤ zs.length ∧ i = .int .i64 k ∧ okSTo zs k = true ∧ Below w.heap.size w wr) (fun i _ => zs.length - (intOf i).toNat)
  case atStart => exact ⟨0, Nat.zero_le _, rfl, rfl, Below.refl _ _⟩
  case round =>
    obtain ⟨k, hk, rfl, hok, hbr⟩ := hrel
    have HOk : Hid (okSTo zs k = true) := hok
    have HB : Hid (Below w.heap.size w wr) := hbr
    clear hok
    by_cases hlt : k < zs.length
    · obtain ⟨x, o, rfl, hc⟩ : ∃ x o, a = some ⟨x, o, none⟩ ∧ ∀ i, i < zs.length → wr.cell? ⟨x, o + i, none⟩ = some (.int .i64 (zs.getD i 0)) := by
        rcases ha.below hbr ha.lt with rfl | h
        · simp at hlt
        · exact h
      have hck := hc k hlt
      have HNm : Hid (∀ V : World, Calls Tryz.prog 65 #[.int .i64 (zs.getD k 0)] V fun e w' => e = .returned (.bool (serB (zs.getD k 0))) ∧ w' = V) := fun V => implSerial _ V
      have a0 : (0 : Int) ≤ (k : Int) := by omega
      have b0 : (k : Int) < (zs.length : Int) := by omega
      cases hn : serB (zs.getD k 0) with
      | false =>
        have HF : Hid (serialsB zs = false) := by show _ = _; rw [serialsB, okSTo_no (okS_not hn) hlt]; rfl
        rw [hn] at HNm
        generalize zs.getD k 0 = z at *
        generalize zs.length = n at *
        clear hc ha hbr hn
        go_wp2_with fail
        refine (HNm.out _).mono ?_
        rintro e w2 ⟨rfl, rfl⟩
        go_wp2
        go_ret
        exact ⟨by rw [HF.out]; rfl, HB.out⟩
      | true =>
        rw [hn] at HNm
        by_cases h0 : k = 0
        · subst h0
          have HF : Hid (okS zs 0 = true) := okS_zero hn
          rw [Nat.add_zero] at hck
          generalize zs.getD 0 0 = z at *
          generalize zs.length = n at *
          clear hc ha hbr hn
          go_wp2_with fail
          refine (HNm.out _).mono ?_
          rintro e w2 ⟨rfl, rfl⟩
          go_wp2
          go_roundw
          case rel => exact ⟨1, by omega, by go_num, okSTo_yes HOk.out HF.out, HB.out⟩
          case measure => simp [intOf]; omega
        · have hck1 := hc (k - 1) (by omega)
          have ek : ((k : Int) - 1) = ((k - 1 : Nat) : Int) := by omega
          have ew : IntKind.i64.wrap ((k : Int) - 1) = ((k - 1 : Nat) : Int) := by rw [IntKind.wrap_i64]; omega
          have a1 : (0 : Int) < (k : Int) := by omega
          have b1 : ((k - 1 : Nat) : Int) < (zs.length : Int) := by omega
          have hbl := okS_more (zs := zs) (k := k) (by omega) hn
          by_cases hr : zs.getD (k - 1) 0 < zs.getD k 0
          rotate_left
          · have HF : Hid (serialsB zs = false) := by show _ = _; rw [serialsB, okSTo_no (hbl.trans (decide_eq_false hr)) hlt]; rfl
            generalize zs.getD k 0 = z at *
            generalize zs.getD (k - 1) 0 = y at *
            generalize k - 1 = k1 at *
            generalize zs.length = n at *
            clear hc ha hbr hn hbl
            go_wp2_with fail
            refine (HNm.out _).mono ?_
            rintro e w2 ⟨rfl, rfl⟩
            go_wp2
            go_ret
            exact ⟨by rw [HF.out]; rfl, HB.out⟩
          · have HF : Hid (okS zs k = true) := hbl.trans (decide_eq_true hr)
            generalize zs.getD k 0 = z at *
            generalize zs.getD (k - 1) 0 = y at *
            generalize k - 1 = k1 at *
            generalize zs.length = n at *
            clear hc ha hbr hn hbl
            go_wp2_with fail
            refine (HNm.out _).mono ?_
            rintro e w2 ⟨rfl, rfl⟩
            go_wp2
            go_roundw
            case rel => exact ⟨k + 1, by omega, by go_num, okSTo_yes HOk.out HF.out, HB.out⟩
            case measure => simp [intOf]; omega
    · obtain rfl : k = zs.length := by omega
      have HF : Hid (serialsB zs = true) := by show _ = _; rw [serialsB, HOk.out, decide_eq_true (by omega)]; rfl
      clear ha hbr
      go_wp2
      go_ret
      exact ⟨by rw [HF.out]; rfl, HB.out⟩
set_option linter.unusedSimpArgs false in
set_option maxHeartbeats 4000000 in
set_option maxRecDepth 100000 in
theorem implPutSerials (a : Option Addr) (zs : List Int) (c : Nat) (w : World) (hl : zs.length ≤ 40) (hz : ∀ i, i < zs.length → -9223372036854775808 ≤ zs.getD i 0 ∧ zs.getD i 0 ≤ 9223372036854775807) (ha : IsInts w a zs) :
    Calls Tryz.prog 95 #[.slice a zs.length c] w fun e w' => e = .returned (.string (seqD (serD zs zs.length))) ∧ Below w.heap.size w w' := by
  have HS : Hid (∀ i, i < zs.length → -9223372036854775808 ≤ zs.getD i 0 ∧ zs.getD i 0 ≤ 9223372036854775807) := hz
  clear hz
  go_enter Tryz.func95, Tryz.ntmps95
  go_wp2
  go_loopw [3, 8] (fun t i wr => ∃ k : Nat, k ≤ zs.length ∧ i = .int .i64 k ∧ t = .string (serD zs k) ∧ Below w.heap.size w wr) (fun _ i _ => zs.length - (intOf i).toNat)
  case atStart => exact ⟨0, Nat.zero_le _, rfl, rfl, Below.refl _ _⟩
  case round =>
    obtain ⟨k, hk, rfl, rfl, hbr⟩ := hrel
    have HB : Hid (Below w.heap.size w wr) := hbr
    by_cases hlt : k < zs.length
    · obtain ⟨x, o, rfl, hc⟩ : ∃ x o, a = some ⟨x, o, none⟩ ∧ ∀ i, i < zs.length → wr.cell? ⟨x, o + i, none⟩ = some (.int .i64 (zs.getD i 0)) := by
        rcases ha.below hbr ha.lt with rfl | h
        · simp at hlt
        · exact h
      have hck := hc k hlt
      obtain ⟨hz0, hz1⟩ := HS.out k hlt
      have HP : Hid (∀ V, Calls Tryz.prog 78 #[.int .i64 (zs.getD k 0)] V fun e w' => e = .returned (.string (intD (zs.getD k 0))) ∧ Below V.heap.size V w') := fun V => implDerInt _ V hz0 hz1
      have z0 := serD_le zs k
      have z1 := intD_le (zs.getD k 0)
      have HJ : Hid (∀ V, Calls Tryz.prog 103 #[.string (serD zs k), .string (intD (zs.getD k 0))] V fun e w' => e = .returned (.string (serD zs (k + 1))) ∧ Below V.heap.size V w') := fun V => joinTexts _ _ V (by omega) (by omega)
      have a0 : (0 : Int) ≤ (k : Int) := by omega
      have b0 : (k : Int) < (zs.length : Int) := by omega
      have HR : Hid (∃ j : Nat, j ≤ zs.length ∧ Value.int .i64 ((k : Int) + 1) = .int .i64 (j : Int) ∧ Value.string (serD zs (k + 1)) = .string (serD zs j)) := ⟨k + 1, by omega, by congr 1, rfl⟩
      generalize serD zs (k + 1) = h1 at *
      generalize intD (zs.getD k 0) = h2 at *
      generalize zs.getD k 0 = z at *
      clear hc ha hbr HS z0 z1
      go_wp2_with fail
      refine (HP.out _).mono ?_
      rintro e w2 ⟨rfl, b2⟩
      have B2 : Hid (Below w.heap.size w w2) := HB.out.trans (b2.mono HB.out.size)
      clear b2
      go_wp2_with fail
      refine (HJ.out _).mono ?_
      rintro e w3 ⟨rfl, b3⟩
      have B3 : Hid (Below w.heap.size w w3) := B2.out.trans (b3.mono B2.out.size)
      clear b3
      go_wp2_with fail
      go_roundw
      case rel =>
        obtain ⟨j, j1, j2, j3⟩ := HR.out
        exact ⟨j, j1, by first | exact j2 | (rw [← j2]; simp; omega), j3, B3.out⟩
      case measure => simp [intOf]; omega
    · obtain rfl : k = zs.length := by omega
      have z0 := serD_le zs zs.length
      have HP : Hid (∀ V (g : Nat), V.heap[g]? = some (.cells #[.string (serD zs zs.length)] 9 (0, 0)) → Calls Tryz.prog 76 #[.slice (some ⟨g, 0, none⟩) 1 1] V fun e w' => e = .returned (.string (seqD (serD zs zs.length))) ∧ Below V.heap.size V w') := fun V g hg => implSeq1 _ g V (by omega) hg
      clear ha hbr HS
      go_wp2_with fail
      refine (HP.out _ _ (heap_alloc_new wr _)).mono ?_
      rintro e w2 ⟨rfl, b2⟩
      have B2 : Hid (Below w.heap.size w w2) := (HB.out.alloc HB.out.size _).trans (b2.mono (by have := HB.out.size; simp; omega))
      clear b2
      go_wp2
      go_ret
      exact ⟨rfl, B2.out⟩
end Go.Proofs.YtegmmaomaegjjaaGreatDoor
namespace Go.Proofs.YtegmmaomaegjjaaGreatDoor
open Go.RowKit

/-- What impl.crlBody hands back. -/
noncomputable def listE (c : Lst) : ByteArray := if listB c = true then listD c else ⟨#[]⟩
theorem four_cat (x y z u : ByteArray) : catS [x, y, z, u] = x ++ (y ++ (z ++ u)) := by show x ++ catS [y, z, u] = _; rw [three_cat]
theorem implSeq4 (x y z u : ByteArray) (g : Nat) (w : World) (hx : x.size + (y.size + (z.size + u.size)) ≤ 4000) (hg : w.heap[g]? = some (.cells #[.string x, .string y, .string z, .string u] 9 (0, 0))) :
    Calls Tryz.prog 76 #[.slice (some ⟨g, 0, none⟩) 4 4] w fun e w' => e = .returned (.string (seqD (x ++ (y ++ (z ++ u))))) ∧ Below w.heap.size w w' := by
  have h := implSeq g 4 [x, y, z, u] w hg (by rw [four_cat, ByteArray.size_append, ByteArray.size_append, ByteArray.size_append]; exact hx) (by simp) (Nat.le_refl _)
  rw [four_cat] at h
  exact h
set_option linter.unusedSimpArgs false in
set_option maxHeartbeats 4000000 in
set_option maxRecDepth 100000 in
theorem implListD (c : Lst) (a : Option Addr) (cap : Nat) (w : World) (hi : c.issuer.size ≤ maxLen) (hl : c.serials.length ≤ 1048576) (ha : IsInts w a c.serials) :
    Calls Tryz.prog 57 #[c.val (.slice a c.serials.length cap)] w fun e w' => e = .returned (.string (listE c)) ∧ Below w.heap.size w w' := by
  have HSr : Hid (∀ V, IsInts V a c.serials → Calls Tryz.prog 94 #[.slice a c.serials.length cap] V fun e w' => e = .returned (.bool (serialsB c.serials)) ∧ Below V.heap.size V w') := fun V hV => implSerials a c.serials cap V hl hV
  have HH : Hid (serialsB c.serials = true → ∀ V, IsInts V a c.serials → Calls Tryz.prog 95 #[.slice a c.serials.length cap] V fun e w' => e = .returned (.string (seqD (serD c.serials c.serials.length))) ∧ Below V.heap.size V w') := fun h V hV => by
    unfold serialsB at h
    simp only [Bool.and_eq_true, decide_eq_true_eq] at h
    exact implPutSerials a c.serials cap V h.2 (fun i hi => by have := okSTo_lt h.1 i hi; omega) hV
  have HZ : Hid (serialsB c.serials = true → (seqD (serD c.serials c.serials.length)).size ≤ 484) := fun h => by
    unfold serialsB at h
    simp only [Bool.and_eq_true, decide_eq_true_eq] at h
    have y4 := serD_le c.serials c.serials.length
    have y5 := seqD_le (serD c.serials c.serials.length)
    omega
  obtain ⟨R, hR⟩ : ∃ R, R = listE c := ⟨_, rfl⟩
  rw [← hR]
  have HR : Hid (R = if (nameB c.issuer && timeB c.fr && timeB c.till && decide (c.fr ≤ c.till) && serialsB c.serials) = true then seqD (nameD c.issuer ++ (intD c.fr ++ (intD c.till ++ seqD (serD c.serials c.serials.length)))) else ⟨#[]⟩) := hR
  have y1 := nameD_le c.issuer
  have y2 := intD_le c.fr
  have y3 := intD_le c.till
  clear hR hl
  obtain ⟨iss, fr, till, serials, sk, se, ss⟩ := c
  unfold Lst.val
  simp only at HSr HH HZ HR y1 y2 y3 hi ha ⊢
  obtain ⟨N, hN⟩ : ∃ N, N = serialsB serials := ⟨_, rfl⟩
  rw [← hN] at HSr HH HZ HR
  clear hN
  generalize seqD (serD serials serials.length) = G at *
  generalize serials.length = nl at *
  obtain ⟨w1, hw1⟩ : ∃ w1, w1 = w.alloc (.cells #[.string iss, .int .i64 fr, .int .i64 till, .slice a nl cap, .int .i64 sk, .int .i64 se, .int .i64 ss] 30 (0, 0)) := ⟨_, rfl⟩
  have r0 : w1.heap[w.heap.size]? = some (.cells [Value.string iss, .int .i64 fr, .int .i64 till, .slice a nl cap, .int .i64 sk, .int .i64 se, .int .i64 ss].toArray 30 (0, 0)) := by rw [hw1]; exact heap_alloc_new w _
  have B1 : Hid (Below w.heap.size w w1) := by rw [hw1]; exact (Below.refl _ _).alloc (Nat.le_refl _) _
  have z1 : w.heap.size < w1.heap.size := by rw [hw1]; simp
  have HK : Hid (∀ V, Below w1.heap.size w1 V → V.cell? ⟨w.heap.size, 0, none⟩ = some (.string iss) ∧ V.cell? ⟨w.heap.size, 1, none⟩ = some (.int .i64 fr) ∧ V.cell? ⟨w.heap.size, 2, none⟩ = some (.int .i64 till) ∧ V.cell? ⟨w.heap.size, 3, none⟩ = some (.slice a nl cap) ∧ V.cell? ⟨w.heap.size, 4, none⟩ = some (.int .i64 sk) ∧ V.cell? ⟨w.heap.size, 5, none⟩ = some (.int .i64 se) ∧ V.cell? ⟨w.heap.size, 6, none⟩ = some (.int .i64 ss)) := fun V hV => by
    have hP := (hV.block _ z1).trans r0
    exact ⟨rowFacts hP 0 _ rfl, rowFacts hP 1 _ rfl, rowFacts hP 2 _ rfl, rowFacts hP 3 _ rfl, rowFacts hP 4 _ rfl, rowFacts hP 5 _ rfl, rowFacts hP 6 _ rfl⟩
  have HA : Hid (∀ V, Below w1.heap.size w1 V → IsInts V a serials) := fun V hV => (ha.keep B1.out).keep hV
  have HB : Hid (∀ V, Below w1.heap.size w1 V → Below w.heap.size w V) := fun V hV => B1.out.trans (hV.mono B1.out.size)
  have I1 : Hid (Below w1.heap.size w1 w1) := Below.refl _ _
  have D1 : Hid (Below w1.heap.size w1 w1.drew) := I1.out.drew
  clear r0 z1 B1 ha
  obtain ⟨c0, c1, c2, c3, c4, c5, c6⟩ := HK.out w1 I1.out
  go_enter Tryz.func57, Tryz.ntmps57
  go_upto_region 1 with fail
  rw [← hw1]
  clear hw1
  go_wp2_with fail
  refine (implNameB iss _ hi).mono ?_
  rintro e w2 ⟨rfl, h2w⟩
  subst w2
  cases h1 : nameB iss with
  | false =>
    have HF : Hid (R = ⟨#[]⟩) := by show _ = _; rw [HR.out, h1]; rfl
    go_wp2
    go_ret
    exact ⟨by rw [HF.out]; rfl, HB.out _ I1.out⟩
  | true =>
  rw [h1] at HR
  go_wp2_with fail
  refine (implTime fr _).mono ?_
  rintro e w2 ⟨rfl, h2w⟩
  subst w2
  cases h2 : timeB fr with
  | false =>
    have HF : Hid (R = ⟨#[]⟩) := by show _ = _; rw [HR.out, h2]; rfl
    go_wp2
    go_ret
    exact ⟨by rw [HF.out]; rfl, HB.out _ I1.out⟩
  | true =>
  rw [h2] at HR
  go_wp2_with fail
  refine (implTime till _).mono ?_
  rintro e w2 ⟨rfl, h2w⟩
  subst w2
  cases h3 : timeB till with
  | false =>
    have HF : Hid (R = ⟨#[]⟩) := by show _ = _; rw [HR.out, h3]; rfl
    go_wp2
    go_ret
    exact ⟨by rw [HF.out]; rfl, HB.out _ I1.out⟩
  | true =>
  rw [h3] at HR
  by_cases h4 : fr ≤ till
  rotate_left
  · have h4' : till < fr := by omega
    have HF : Hid (R = ⟨#[]⟩) := by show _ = _; rw [HR.out, decide_eq_false h4]; rfl
    go_wp2
    go_ret
    exact ⟨by rw [HF.out]; rfl, HB.out _ I1.out⟩
  rw [decide_eq_true h4] at HR
  have h4'' : ¬ till < fr := by omega
  have z1 := name_size h1
  have z2 : 0 ≤ fr ∧ fr ≤ 1000000000 := by unfold timeB at h2; simpa using h2
  have z3 : 0 ≤ till ∧ till ≤ 1000000000 := by unfold timeB at h3; simpa using h3
  clear h1 h2 h3 h4
  go_wp2_with fail
  refine (HSr.out _ (HA.out _ I1.out)).mono ?_
  rintro e w3 ⟨rfl, b3⟩
  have K3 : Hid (Below w1.heap.size w1 w3) := b3
  clear b3 c0 c1 c2 c3 c4 c5 c6
  cases N with
  | false =>
    have HF : Hid (R = ⟨#[]⟩) := HR.out
    go_wp2
    go_ret
    exact ⟨by rw [HF.out]; rfl, HB.out _ K3.out⟩
  | true =>
  have hR : R = seqD (nameD iss ++ (intD fr ++ (intD till ++ G))) := HR.out
  have H1 := HH.out rfl
  have zG := HZ.out rfl
  have PNm : Hid (∀ V, Hid (Below w1.heap.size w1 V) → Calls Tryz.prog 80 #[.string iss] V fun e W => e = .returned (.string (nameD iss)) ∧ Hid (Below w1.heap.size w1 W)) := fun V hV => (implNameD iss V z1).mono fun e W h => ⟨h.1, hV.out.trans (h.2.mono hV.out.size)⟩
  have PD : Hid (∀ V (n : Int), Hid (Below w1.heap.size w1 V) → 0 ≤ n ∧ n ≤ 1000000000 → Calls Tryz.prog 78 #[.int .i64 n] V fun e W => e = .returned (.string (intD n)) ∧ Hid (Below w1.heap.size w1 W)) := fun V n hV hn => (implDerInt n V (by omega) (by omega)).mono fun e W h => ⟨h.1, hV.out.trans (h.2.mono hV.out.size)⟩
  have PN : Hid (∀ V, Hid (Below w1.heap.size w1 V) → Calls Tryz.prog 95 #[.slice a nl cap] V fun e W => e = .returned (.string G) ∧ Hid (Below w1.heap.size w1 W)) := fun V hV => (H1 V (HA.out V hV.out)).mono fun e W h => ⟨h.1, hV.out.trans (h.2.mono hV.out.size)⟩
  have PS : Hid (∀ V (g : Nat), Hid (Below w1.heap.size w1 V) → V.heap[g]? = some (.cells #[.string (nameD iss), .string (intD fr), .string (intD till), .string G] 9 (0, 0)) → Calls Tryz.prog 76 #[.slice (some ⟨g, 0, none⟩) 4 4] V fun e W => e = .returned (.string R) ∧ Hid (Below w1.heap.size w1 W)) := fun V g hV hg => by
    rw [hR]
    exact (implSeq4 _ _ _ G g V (by omega) hg).mono fun e W h => ⟨h.1, hV.out.trans (h.2.mono hV.out.size)⟩
  have AL : Hid (∀ V o, Hid (Below w1.heap.size w1 V) → Hid (Below w1.heap.size w1 (V.alloc o))) := fun V o h => h.out.alloc h.out.size o
  have DR : Hid (∀ V, Hid (Below w1.heap.size w1 V) → Hid (Below w1.heap.size w1 V.drew)) := fun V h => h.out.drew
  have D3 : Hid (Below w1.heap.size w1 w3.drew) := DR.out _ K3
  clear HR HH HZ HSr hR H1 zG y1 y2 y3 HA z1
  obtain ⟨c0, c1, c2, c3, c4, c5, c6⟩ := HK.out w3 K3.out
  go_wp2_with fail
  go_region_held3 (fun V => V.cell? ⟨w.heap.size, 0, none⟩ = some (.string iss) ∧ V.cell? ⟨w.heap.size, 1, none⟩ = some (.int .i64 fr) ∧ V.cell? ⟨w.heap.size, 2, none⟩ = some (.int .i64 till) ∧ V.cell? ⟨w.heap.size, 3, none⟩ = some (.slice a nl cap) ∧ V.cell? ⟨w.heap.size, 4, none⟩ = some (.int .i64 sk) ∧ V.cell? ⟨w.heap.size, 5, none⟩ = some (.int .i64 se) ∧ V.cell? ⟨w.heap.size, 6, none⟩ = some (.int .i64 ss)) (first | (refine ⟨?_, ?_, ?_, ?_, ?_, ?_, ?_⟩ <;> assumption) | exact HK.out _ (Hid.out (by assumption)) | go_keep)
    (first
      | (go_at_call 80; refine (PNm.out _ (by first | assumption | exact AL.out _ _ (by assumption) | exact AL.out _ _ (AL.out _ _ (by assumption)) | exact DR.out _ (AL.out _ _ (by assumption)))).mono ?_; rintro r V1 ⟨rfl, k1⟩)
      | (go_at_call 78; refine (PD.out _ _ (by first | assumption | exact AL.out _ _ (by assumption) | exact AL.out _ _ (AL.out _ _ (by assumption)) | exact DR.out _ (AL.out _ _ (by assumption))) (by assumption)).mono ?_; rintro r V2 ⟨rfl, k2⟩)
      | (go_at_call 95; refine (PN.out _ (by first | assumption | exact AL.out _ _ (by assumption) | exact AL.out _ _ (AL.out _ _ (by assumption)) | exact DR.out _ (AL.out _ _ (by assumption)))).mono ?_; rintro r V3 ⟨rfl, k3⟩)
      | (go_at_call 76; refine (PS.out _ _ (by first | assumption | exact AL.out _ _ (by assumption) | exact AL.out _ _ (AL.out _ _ (by assumption)) | exact DR.out _ (AL.out _ _ (by assumption))) (by first | exact heap_alloc_new _ _ | exact heap_alloc2 _ _ _ | exact alKeep (heap_alloc_new _ _))).mono ?_; rintro r V4 ⟨rfl, k4⟩))
  all_goals
    go_wp2
    go_ret
    exact ⟨rfl, HB.out _ k4.out⟩
end Go.Proofs.YtegmmaomaegjjaaGreatDoor
namespace Go.Proofs.YtegmmaomaegjjaaGreatDoor
open Go.RowKit

/-- The box, its text D, its numbers behind n, its list behind v. -/
def Lst.box (c : Lst) (v : Value) (D : ByteArray) (n : Value) : Value := .agg #[.string c.issuer, .int .i64 c.fr, .int .i64 c.till, v, .int .i64 c.sk, .int .i64 c.se, .int .i64 c.ss, .string D, .int .i64 c.sk, .int .i64 c.se, .int .i64 c.ss, n]
theorem sizeBoxCrl : (Tryz.prog.info? 54).map (·.size) = some 12 := by kernel_rfl
set_option linter.unusedSimpArgs false in
set_option maxHeartbeats 4000000 in
set_option maxRecDepth 100000 in
theorem boxCrl (c : Lst) (a : Option Addr) (cap : Nat) (w : World) (hi : c.issuer.size ≤ maxLen) (hl : c.serials.length ≤ 1048576) (ha : IsInts w a c.serials) :
    Calls Tryz.prog 25 #[c.val (.slice a c.serials.length cap)] w fun e w' => ∃ g, e = .returned (c.box (.slice a c.serials.length cap) (listE c) (.slice (some ⟨g, 0, none⟩) 3 3)) ∧ Row3 c.sk c.se c.ss w' g ∧ Below w.heap.size w w' := by
  have HP : Hid (∀ V, IsInts V a c.serials → Calls Tryz.prog 57 #[c.val (.slice a c.serials.length cap)] V fun e w' => e = .returned (.string (listE c)) ∧ Below V.heap.size V w') := fun V hV => implListD c a cap V hi hl hV
  generalize listE c = D at *
  clear hi hl
  obtain ⟨iss, fr, till, serials, sk, se, ss⟩ := c
  unfold Lst.val at *
  unfold Lst.box
  simp only at HP ha ⊢
  generalize serials.length = nl at *
  obtain ⟨w1, hw1⟩ : ∃ w1, w1 = (w.alloc (.cells #[.string iss, .int .i64 fr, .int .i64 till, .slice a nl cap, .int .i64 sk, .int .i64 se, .int .i64 ss] 30 (0, 0))).alloc (.cells #[.string ⟨#[]⟩, .int .i64 0, .int .i64 0, .slice none 0 0, .int .i64 0, .int .i64 0, .int .i64 0, .string ⟨#[]⟩, .int .i64 0, .int .i64 0, .int .i64 0, .slice none 0 0] 54 (0, 0)) := ⟨_, rfl⟩
  have r0 : w1.heap[w.heap.size]? = some (.cells [Value.string iss, .int .i64 fr, .int .i64 till, .slice a nl cap, .int .i64 sk, .int .i64 se, .int .i64 ss].toArray 30 (0, 0)) := by rw [hw1, Below.heap_alloc _ _ _ (by simp)]; exact heap_alloc_new w _
  have r1 : w1.heap[w.heap.size + 1]? = some (.cells [Value.string ⟨#[]⟩, .int .i64 0, .int .i64 0, .slice none 0 0, .int .i64 0, .int .i64 0, .int .i64 0, .string ⟨#[]⟩, .int .i64 0, .int .i64 0, .int .i64 0, .slice none 0 0].toArray 54 (0, 0)) := by rw [hw1]; exact heap_alloc2 w _ _
  have B1 : Hid (Below w.heap.size w w1) := by rw [hw1]; exact ((Below.refl _ _).alloc (Nat.le_refl _) _).alloc (by simp) _
  have HRw : Hid (∀ V, Below w1.heap.size w1 V → V.heap[w.heap.size]? = some (.cells [Value.string iss, .int .i64 fr, .int .i64 till, .slice a nl cap, .int .i64 sk, .int .i64 se, .int .i64 ss].toArray 30 (0, 0)) ∧ V.heap[w.heap.size + 1]? = some (.cells [Value.string ⟨#[]⟩, .int .i64 0, .int .i64 0, .slice none 0 0, .int .i64 0, .int .i64 0, .int .i64 0, .string ⟨#[]⟩, .int .i64 0, .int .i64 0, .int .i64 0, .slice none 0 0].toArray 54 (0, 0))) := fun V hV => ⟨(hV.block _ (heap_lt r0)).trans r0, (hV.block _ (heap_lt r1)).trans r1⟩
  have HC : Hid (∀ V : World, V.heap[w.heap.size]? = some (.cells [Value.string iss, .int .i64 fr, .int .i64 till, .slice a nl cap, .int .i64 sk, .int .i64 se, .int .i64 ss].toArray 30 (0, 0)) → V.cell? ⟨w.heap.size, 0, none⟩ = some (.string iss) ∧ V.cell? ⟨w.heap.size, 1, none⟩ = some (.int .i64 fr) ∧ V.cell? ⟨w.heap.size, 2, none⟩ = some (.int .i64 till) ∧ V.cell? ⟨w.heap.size, 3, none⟩ = some (.slice a nl cap) ∧ V.cell? ⟨w.heap.size, 4, none⟩ = some (.int .i64 sk) ∧ V.cell? ⟨w.heap.size, 5, none⟩ = some (.int .i64 se) ∧ V.cell? ⟨w.heap.size, 6, none⟩ = some (.int .i64 ss)) := fun V hP => ⟨rowFacts hP 0 _ rfl, rowFacts hP 1 _ rfl, rowFacts hP 2 _ rfl, rowFacts hP 3 _ rfl, rowFacts hP 4 _ rfl, rowFacts hP 5 _ rfl, rowFacts hP 6 _ rfl⟩
  have HK : Hid (∀ V, Below w1.heap.size w1 V → V.cell? ⟨w.heap.size, 0, none⟩ = some (.string iss) ∧ V.cell? ⟨w.heap.size, 1, none⟩ = some (.int .i64 fr) ∧ V.cell? ⟨w.heap.size, 2, none⟩ = some (.int .i64 till) ∧ V.cell? ⟨w.heap.size, 3, none⟩ = some (.slice a nl cap) ∧ V.cell? ⟨w.heap.size, 4, none⟩ = some (.int .i64 sk) ∧ V.cell? ⟨w.heap.size, 5, none⟩ = some (.int .i64 se) ∧ V.cell? ⟨w.heap.size, 6, none⟩ = some (.int .i64 ss)) := fun V hV => HC.out V (HRw.out V hV).1
  have HA : Hid (∀ V, Below w1.heap.size w1 V → IsInts V a serials) := fun V hV => (ha.keep B1.out).keep hV
  have HB : Hid (∀ V, Below w1.heap.size w1 V → Below w.heap.size w V) := fun V hV => B1.out.trans (hV.mono B1.out.size)
  have Z1 : Hid (w1.heap.size = w.heap.size + 2) := by show _ = _; rw [hw1]; simp
  have I1 : Hid (Below w1.heap.size w1 w1) := Below.refl _ _
  have D1 : Hid (Below w1.heap.size w1 w1.drew) := I1.out.drew
  clear r0 r1 B1 ha
  obtain ⟨c0, c1, c2, c3, c4, c5, c6⟩ := HK.out w1 I1.out
  go_enter Tryz.func25, Tryz.ntmps25
  go_upto_region 1 with fail
  rw [← hw1]
  clear hw1
  refine wp_region_held_drew (S := fun V => V.cell? ⟨w.heap.size, 0, none⟩ = some (.string iss) ∧ V.cell? ⟨w.heap.size, 1, none⟩ = some (.int .i64 fr) ∧ V.cell? ⟨w.heap.size, 2, none⟩ = some (.int .i64 till) ∧ V.cell? ⟨w.heap.size, 3, none⟩ = some (.slice a nl cap) ∧ V.cell? ⟨w.heap.size, 4, none⟩ = some (.int .i64 sk) ∧ V.cell? ⟨w.heap.size, 5, none⟩ = some (.int .i64 se) ∧ V.cell? ⟨w.heap.size, 6, none⟩ = some (.int .i64 ss)) (by kernel_rfl) ?_ (fun hHeld => ?_)
  · exact HK.out _ D1.out
  refine wpAnyH_take (i := 0) (oi := ⟨some 3, _, _, _, _, _⟩) (v := ?_) rfl (by kernel_rfl) (by kernel_rfl) (by kernel_rfl) (fun _ _ _ h => h) (Or.inl ⟨by kernel_rfl, ?_⟩) (by assumption) ?_
  rotate_left
  · (intro w hSw; (try dsimp only at hSw); go_simp; try with_reducible rfl)
  (try simp only [Act.put, List.setIfInBounds_toArray, List.set_cons_zero, List.set_cons_succ])
  refine wpAnyH_take (i := 1) (oi := ⟨some 4, _, _, _, _, _⟩) (v := ?_) rfl (by kernel_rfl) (by kernel_rfl) (by kernel_rfl) (fun _ _ _ h => h) (Or.inl ⟨by kernel_rfl, ?_⟩) (by assumption) ?_
  rotate_left
  · (intro w hSw; (try dsimp only at hSw); go_simp; try with_reducible rfl)
  (try simp only [Act.put, List.setIfInBounds_toArray, List.set_cons_zero, List.set_cons_succ])
  refine wpAnyH_take (i := 3) (oi := ⟨some 6, _, _, _, _, _⟩) (v := ?_) rfl (by kernel_rfl) (by kernel_rfl) (by kernel_rfl) (fun _ _ _ h => h) (Or.inl ⟨by kernel_rfl, ?_⟩) (by assumption) ?_
  rotate_left
  · (intro w hSw; (try dsimp only at hSw); go_simp; try with_reducible rfl)
  (try simp only [Act.put, List.setIfInBounds_toArray, List.set_cons_zero, List.set_cons_succ])
  refine wpAnyH_take (i := 4) (oi := ⟨some 7, _, _, _, _, _⟩) (v := ?_) rfl (by kernel_rfl) (by kernel_rfl) (by kernel_rfl) (fun _ _ _ h => h) (Or.inl ⟨by kernel_rfl, ?_⟩) (by assumption) ?_
  rotate_left
  · (intro w hSw; (try dsimp only at hSw); go_simp; try with_reducible rfl)
  (try simp only [Act.put, List.setIfInBounds_toArray, List.set_cons_zero, List.set_cons_succ])
  refine wpAnyH_take (i := 5) (oi := ⟨some 8, _, _, _, _, _⟩) (v := ?_) rfl (by kernel_rfl) (by kernel_rfl) (by kernel_rfl) (fun _ _ _ h => h) (Or.inl ⟨by kernel_rfl, ?_⟩) (by assumption) ?_
  rotate_left
  · (intro w hSw; (try dsimp only at hSw); go_simp; try with_reducible rfl)
  (try simp only [Act.put, List.setIfInBounds_toArray, List.set_cons_zero, List.set_cons_succ])
  refine wpAnyH_take (i := 6) (oi := ⟨some 9, _, _, _, _, _⟩) (v := ?_) rfl (by kernel_rfl) (by kernel_rfl) (by kernel_rfl) (fun _ _ _ h => h) (Or.inl ⟨by kernel_rfl, ?_⟩) (by assumption) ?_
  rotate_left
  · (intro w hSw; (try dsimp only at hSw); go_simp; try with_reducible rfl)
  (try simp only [Act.put, List.setIfInBounds_toArray, List.set_cons_zero, List.set_cons_succ])
  refine wpAnyH_take (i := 7) (oi := ⟨some 10, _, _, _, _, _⟩) (v := ?_) rfl (by kernel_rfl) (by kernel_rfl) (by kernel_rfl) (fun _ _ _ h => h) (Or.inl ⟨by kernel_rfl, ?_⟩) (by assumption) ?_
  rotate_left
  · (intro w hSw; (try dsimp only at hSw); go_simp; try with_reducible rfl)
  (try simp only [Act.put, List.setIfInBounds_toArray, List.set_cons_zero, List.set_cons_succ])
  refine wpAnyH_take (i := 8) (oi := ⟨some 11, _, _, _, _, _⟩) (v := ?_) rfl (by kernel_rfl) (by kernel_rfl) (by kernel_rfl) (fun _ _ _ h => h) (Or.inl ⟨by kernel_rfl, ?_⟩) (by assumption) ?_
  rotate_left
  · (intro w hSw; (try dsimp only at hSw); go_simp; try with_reducible rfl)
  (try simp only [Act.put, List.setIfInBounds_toArray, List.set_cons_zero, List.set_cons_succ])
  refine wpAnyH_take (i := 9) (oi := ⟨some 12, _, _, _, _, _⟩) (v := ?_) rfl (by kernel_rfl) (by kernel_rfl) (by kernel_rfl) (fun _ _ _ h => h) (Or.inl ⟨by kernel_rfl, ?_⟩) (by assumption) ?_
  rotate_left
  · (intro w hSw; (try dsimp only at hSw); go_simp; try with_reducible rfl)
  (try simp only [Act.put, List.setIfInBounds_toArray, List.set_cons_zero, List.set_cons_succ])
  refine wpAnyH_take (i := 10) (oi := ⟨some 13, _, _, _, _, _⟩) (v := ?_) rfl (by kernel_rfl) (by kernel_rfl) (by kernel_rfl) (fun _ _ _ h => h) (Or.inl ⟨by kernel_rfl, ?_⟩) (by assumption) ?_
  rotate_left
  · (intro w hSw; (try dsimp only at hSw); go_simp; try with_reducible rfl)
  (try simp only [Act.put, List.setIfInBounds_toArray, List.set_cons_zero, List.set_cons_succ])
  refine wpAnyH_take (i := 11) (oi := ⟨some 14, _, _, _, _, _⟩) (v := ?_) rfl (by kernel_rfl) (by kernel_rfl) (by kernel_rfl) (fun _ _ _ h => h) (Or.inl ⟨by kernel_rfl, ?_⟩) (by assumption) ?_
  rotate_left
  · (intro w hSw; (try dsimp only at hSw); go_simp; try with_reducible rfl)
  (try simp only [Act.put, List.setIfInBounds_toArray, List.set_cons_zero, List.set_cons_succ])
  refine wpAnyH_take (i := 12) (oi := ⟨some 15, _, _, _, _, _⟩) (v := ?_) rfl (by kernel_rfl) (by kernel_rfl) (by kernel_rfl) (fun _ _ _ h => h) (Or.inl ⟨by kernel_rfl, ?_⟩) (by assumption) ?_
  rotate_left
  · (intro w hSw; (try dsimp only at hSw); go_simp; try with_reducible rfl)
  (try simp only [Act.put, List.setIfInBounds_toArray, List.set_cons_zero, List.set_cons_succ])
  refine wpAnyH_take (i := 13) (oi := ⟨some 16, _, _, _, _, _⟩) (v := ?_) rfl (by kernel_rfl) (by kernel_rfl) (by kernel_rfl) (fun _ _ _ h => h) (Or.inl ⟨by kernel_rfl, ?_⟩) (by assumption) ?_
  rotate_left
  · (intro w hSw; (try dsimp only at hSw); go_simp; try with_reducible rfl)
  (try simp only [Act.put, List.setIfInBounds_toArray, List.set_cons_zero, List.set_cons_succ])
  refine wpAnyH_ready (rs := [2, 14]) (by kernel_rfl) (by simp) ?_
  refine AllReadyH.cons (o := ⟨some 5, _, _, _, _, _⟩) rfl (fun K hK => ?_) (AllReadyH.cons (o := ⟨some 17, _, _, _, _, _⟩) rfl (fun K hK => ?_) AllReadyH.nil)
  · -- the body first
    go_simp
    refine (HP.out _ (HA.out _ D1.out)).mono ?_
    rintro r V1 ⟨rfl, bV⟩
    have J1 : Hid (Below w1.heap.size w1 V1) := D1.out.trans (bV.mono D1.out.size)
    refine hK.out _ _ ?_ (fun hHeld => ?_)
    · exact HK.out _ J1.out
    clear hK K bV
    (try simp only [Act.put, List.setIfInBounds_toArray, List.set_cons_zero, List.set_cons_succ])
    refine wpAnyH_ready (rs := [14]) (by kernel_rfl) (by simp) ?_
    refine AllReadyH.cons (o := ⟨some 17, _, _, _, _, _⟩) rfl (fun K hK => ?_) AllReadyH.nil
    go_simp
    have J2 : Hid (Below w1.heap.size w1 (World.alloc V1 (.cells #[.int .i64 sk, .int .i64 se, .int .i64 ss] 2 (0, 0)))) := J1.out.alloc J1.out.size _
    refine hK.out _ _ ?_ (fun hHeld => ?_)
    · exact HK.out _ J2.out
    clear hK K
    (try simp only [Act.put, List.setIfInBounds_toArray, List.set_cons_zero, List.set_cons_succ])
    refine wpAnyH_take (i := 15) (oi := ⟨some 18, _, _, _, _, _⟩) (v := ?_) rfl (by kernel_rfl) (by kernel_rfl) (by kernel_rfl) (fun _ _ _ h => h) (Or.inl ⟨by kernel_rfl, ?_⟩) (by assumption) ?_
    rotate_left
    · (intro w hSw; (try dsimp only at hSw); go_simp; try with_reducible rfl)
    (try simp only [Act.put, List.setIfInBounds_toArray, List.set_cons_zero, List.set_cons_succ])
    refine wpAnyH_ready (rs := [16]) (by kernel_rfl) (by simp) ?_
    refine AllReadyH.cons (o := ⟨none, _, _, _, _, _⟩) rfl (fun K hK => ?_) AllReadyH.nil
    rw [if_pos (by rfl)]
    refine wp_store_row 54 _ _ rfl (w.heap.size + 1) [Value.string ⟨#[]⟩, .int .i64 0, .int .i64 0, .slice none 0 0, .int .i64 0, .int .i64 0, .int .i64 0, .string ⟨#[]⟩, .int .i64 0, .int .i64 0, .int .i64 0, .slice none 0 0] [Value.string iss, .int .i64 fr, .int .i64 till, .slice a nl cap, .int .i64 sk, .int .i64 se, .int .i64 ss, .string D, .int .i64 sk, .int .i64 se, .int .i64 ss, .slice (some ⟨V1.heap.size, 0, none⟩) 3 3] 54 rfl rfl (HRw.out _ J2.out).2 rfl sizeBoxCrl (by simp [Value.oneCell']) ?_
    intro w9 hrow ho hs9 hbb
    have HROW : Hid _ := hrow
    have HB9 : Hid (Below w.heap.size w w9) := hbb _ _ (by omega) (HB.out _ J2.out)
    have HO9 : Hid (∀ k, k ≠ w.heap.size + 1 → w9.heap[k]? = (World.alloc V1 (.cells #[.int .i64 sk, .int .i64 se, .int .i64 ss] 2 (0, 0))).heap[k]?) := ho
    refine hK.out _ _ ?_ (fun hHeld => ?_)
    · exact HC.out _ ((ho _ (by omega)).trans (HRw.out _ J2.out).1)
    clear hK K ho hs9 hbb hrow
    (try simp only [Act.put, List.setIfInBounds_toArray, List.set_cons_zero, List.set_cons_succ])
    refine wpAnyH_done (by kernel_rfl) ?_ _
    go_wp2
    refine bodyPost_ret (v := .agg [Value.string iss, .int .i64 fr, .int .i64 till, .slice a nl cap, .int .i64 sk, .int .i64 se, .int .i64 ss, .string D, .int .i64 sk, .int .i64 se, .int .i64 ss, .slice (some ⟨V1.heap.size, 0, none⟩) 3 3].toArray) ?_ rfl ⟨V1.heap.size, rfl, (HO9.out _ (by have h1 := J1.out.size; have h2 := Z1.out; omega)).trans (heap_alloc_new V1 _), HB9.out⟩
    have hl3 := run_loadVar_mid (P := Tryz.prog) _ (w.heap.size + 1) 0 54 _ _ (rangeRow HROW.out) Tryz.underlying54 rfl sizeBoxCrl
    simp [results, Tryz.results25, asAddr, hl3]
  · -- the numbers first
    go_simp
    have J1 : Hid (Below w1.heap.size w1 (World.alloc w1.drew (.cells #[.int .i64 sk, .int .i64 se, .int .i64 ss] 2 (0, 0)))) := D1.out.alloc D1.out.size _
    refine hK.out _ _ ?_ (fun hHeld => ?_)
    · exact HK.out _ J1.out
    clear hK K
    (try simp only [Act.put, List.setIfInBounds_toArray, List.set_cons_zero, List.set_cons_succ])
    refine wpAnyH_ready (rs := [2]) (by kernel_rfl) (by simp) ?_
    refine AllReadyH.cons (o := ⟨some 5, _, _, _, _, _⟩) rfl (fun K hK => ?_) AllReadyH.nil
    go_simp
    refine (HP.out _ (HA.out _ J1.out)).mono ?_
    rintro r V2 ⟨rfl, bV⟩
    have J2 : Hid (Below w1.heap.size w1 V2) := J1.out.trans (bV.mono J1.out.size)
    have G2 : Hid (Row3 sk se ss V2 w1.drew.heap.size) := (bV.block _ (by simp)).trans (heap_alloc_new w1.drew _)
    refine hK.out _ _ ?_ (fun hHeld => ?_)
    · exact HK.out _ J2.out
    clear hK K bV
    (try simp only [Act.put, List.setIfInBounds_toArray, List.set_cons_zero, List.set_cons_succ])
    refine wpAnyH_take (i := 15) (oi := ⟨some 18, _, _, _, _, _⟩) (v := ?_) rfl (by kernel_rfl) (by kernel_rfl) (by kernel_rfl) (fun _ _ _ h => h) (Or.inl ⟨by kernel_rfl, ?_⟩) (by assumption) ?_
    rotate_left
    · (intro w hSw; (try dsimp only at hSw); go_simp; try with_reducible rfl)
    (try simp only [Act.put, List.setIfInBounds_toArray, List.set_cons_zero, List.set_cons_succ])
    refine wpAnyH_ready (rs := [16]) (by kernel_rfl) (by simp) ?_
    refine AllReadyH.cons (o := ⟨none, _, _, _, _, _⟩) rfl (fun K hK => ?_) AllReadyH.nil
    rw [if_pos (by rfl)]
    refine wp_store_row 54 _ _ rfl (w.heap.size + 1) [Value.string ⟨#[]⟩, .int .i64 0, .int .i64 0, .slice none 0 0, .int .i64 0, .int .i64 0, .int .i64 0, .string ⟨#[]⟩, .int .i64 0, .int .i64 0, .int .i64 0, .slice none 0 0] [Value.string iss, .int .i64 fr, .int .i64 till, .slice a nl cap, .int .i64 sk, .int .i64 se, .int .i64 ss, .string D, .int .i64 sk, .int .i64 se, .int .i64 ss, .slice (some ⟨w1.drew.heap.size, 0, none⟩) 3 3] 54 rfl rfl (HRw.out _ J2.out).2 rfl sizeBoxCrl (by simp [Value.oneCell']) ?_
    intro w9 hrow ho hs9 hbb
    have HROW : Hid _ := hrow
    have HB9 : Hid (Below w.heap.size w w9) := hbb _ _ (by omega) (HB.out _ J2.out)
    have HO9 : Hid (∀ k, k ≠ w.heap.size + 1 → w9.heap[k]? = (V2).heap[k]?) := ho
    refine hK.out _ _ ?_ (fun hHeld => ?_)
    · exact HC.out _ ((ho _ (by omega)).trans (HRw.out _ J2.out).1)
    clear hK K ho hs9 hbb hrow
    (try simp only [Act.put, List.setIfInBounds_toArray, List.set_cons_zero, List.set_cons_succ])
    refine wpAnyH_done (by kernel_rfl) ?_ _
    go_wp2
    refine bodyPost_ret (v := .agg [Value.string iss, .int .i64 fr, .int .i64 till, .slice a nl cap, .int .i64 sk, .int .i64 se, .int .i64 ss, .string D, .int .i64 sk, .int .i64 se, .int .i64 ss, .slice (some ⟨w1.drew.heap.size, 0, none⟩) 3 3].toArray) ?_ rfl ⟨w1.drew.heap.size, rfl, (HO9.out _ (by have h2 := Z1.out; have h3 : w1.drew.heap.size = w1.heap.size := rfl; omega)).trans G2.out, HB9.out⟩
    have hl3 := run_loadVar_mid (P := Tryz.prog) _ (w.heap.size + 1) 0 54 _ _ (rangeRow HROW.out) Tryz.underlying54 rfl sizeBoxCrl
    simp [results, Tryz.results25, asAddr, hl3]
end Go.Proofs.YtegmmaomaegjjaaGreatDoor
namespace Go.Proofs.YtegmmaomaegjjaaGreatDoor
open Go.RowKit

/-- Variable g holds the error at b. -/
def ErrV (g : Nat) (w : World) (b : Addr) : Prop := w.cell? ⟨g, 0, none⟩ = some (.iface 161 (.pointer (some b))) ∧ ∃ c t, w.heap[b.block]? = some (.cells c t (0, 0))
theorem ErrV.lt {g : Nat} {w : World} {b : Addr} (h : ErrV g w b) : g < w.heap.size := World.block_lt_of_cell? w _ h.1
theorem ErrV.keep {g : Nat} {w w' : World} {b : Addr} (h : ErrV g w b) (hb : Below w.heap.size w w') : ErrV g w' b := by
  refine ⟨by rw [hb.cell h.lt]; exact h.1, ?_⟩
  obtain ⟨c, t, e⟩ := h.2
  exact ⟨c, t, by rw [hb.block _ (heap_lt e)]; exact e⟩
/-- The variable 'not right' holds an error. -/
def Err1 (w : World) : Prop := ∃ b, ErrV 0 w b
theorem Err1.keep {w w' : World} (h : Err1 w) (hb : Below w.heap.size w w') : Err1 w' := by obtain ⟨b, h⟩ := h; exact ⟨b, h.keep hb⟩
end Go.Proofs.YtegmmaomaegjjaaGreatDoor
namespace Go.Proofs.YtegmmaomaegjjaaGreatDoor
open Go.RowKit

set_option linter.unusedSimpArgs false in
set_option maxHeartbeats 4000000 in
set_option maxRecDepth 100000 in
theorem rightCrl (c : Lst) (v nv : Value) (D : ByteArray) (E : Value) (w : World) (hE : w.cell? ⟨0, 0, none⟩ = some E) :
    Calls Tryz.prog 26 #[c.box v D nv] w fun e w' => e = .returned (if (decide (D.size ≠ 0) && sigRB c.sk c.se c.ss) = true then .nilIface else E) ∧ Below w.heap.size w w' := by
  obtain ⟨R, hR⟩ : ∃ R : Value, R = if (decide (D.size ≠ 0) && sigRB c.sk c.se c.ss) = true then .nilIface else E := ⟨_, rfl⟩
  rw [← hR]
  have HR : Hid (R = if (decide (D.size ≠ 0) && sigRB c.sk c.se c.ss) = true then .nilIface else E) := hR
  clear hR
  obtain ⟨iss, fr, till, serials, sk, se, ss⟩ := c
  unfold Lst.box
  simp only at HR ⊢
  have hEl := World.block_lt_of_cell? w _ hE
  obtain ⟨w1, hw1⟩ : ∃ w1, w1 = w.alloc (.cells #[.string iss, .int .i64 fr, .int .i64 till, v, .int .i64 sk, .int .i64 se, .int .i64 ss, .string D, .int .i64 sk, .int .i64 se, .int .i64 ss, nv] 54 (0, 0)) := ⟨_, rfl⟩
  have r0 : w1.heap[w.heap.size]? = some (.cells [Value.string iss, .int .i64 fr, .int .i64 till, v, .int .i64 sk, .int .i64 se, .int .i64 ss, .string D, .int .i64 sk, .int .i64 se, .int .i64 ss, nv].toArray 54 (0, 0)) := by rw [hw1]; exact heap_alloc_new w _
  have B1 : Hid (Below w.heap.size w w1) := by rw [hw1]; exact (Below.refl _ _).alloc (Nat.le_refl _) _
  have z1 : w.heap.size < w1.heap.size := by rw [hw1]; simp
  have HK : Hid (∀ V, Below w1.heap.size w1 V → V.cell? ⟨w.heap.size, 0, none⟩ = some (.string iss) ∧ V.cell? ⟨w.heap.size, 1, none⟩ = some (.int .i64 fr) ∧ V.cell? ⟨w.heap.size, 2, none⟩ = some (.int .i64 till) ∧ V.cell? ⟨w.heap.size, 3, none⟩ = some (v) ∧ V.cell? ⟨w.heap.size, 4, none⟩ = some (.int .i64 sk) ∧ V.cell? ⟨w.heap.size, 5, none⟩ = some (.int .i64 se) ∧ V.cell? ⟨w.heap.size, 6, none⟩ = some (.int .i64 ss) ∧ V.cell? ⟨w.heap.size, 7, none⟩ = some (.string D) ∧ V.cell? ⟨w.heap.size, 8, none⟩ = some (.int .i64 sk) ∧ V.cell? ⟨w.heap.size, 9, none⟩ = some (.int .i64 se) ∧ V.cell? ⟨w.heap.size, 10, none⟩ = some (.int .i64 ss) ∧ V.cell? ⟨w.heap.size, 11, none⟩ = some (nv)) := fun V hV => by
    have hP := (hV.block _ z1).trans r0
    exact ⟨rowFacts hP 0 _ rfl, rowFacts hP 1 _ rfl, rowFacts hP 2 _ rfl, rowFacts hP 3 _ rfl, rowFacts hP 4 _ rfl, rowFacts hP 5 _ rfl, rowFacts hP 6 _ rfl, rowFacts hP 7 _ rfl, rowFacts hP 8 _ rfl, rowFacts hP 9 _ rfl, rowFacts hP 10 _ rfl, rowFacts hP 11 _ rfl⟩
  have HB : Hid (∀ V, Below w1.heap.size w1 V → Below w.heap.size w V) := fun V hV => B1.out.trans (hV.mono B1.out.size)
  have I1 : Hid (Below w1.heap.size w1 w1) := Below.refl _ _
  have D1 : Hid (Below w1.heap.size w1 w1.drew) := I1.out.drew
  clear r0 z1 B1
  have HE : Hid (∀ V, Below w.heap.size w V → V.cell? ⟨0, 0, none⟩ = some E) := fun V hV => by rw [hV.cell hEl]; exact hE
  clear hE hEl
  obtain ⟨c0, c1, c2, c3, c4, c5, c6, c7, c8, c9, c10, c11⟩ := HK.out w1 I1.out
  go_enter Tryz.func26, Tryz.ntmps26
  go_upto_region 1 with fail
  rw [← hw1]
  clear hw1
  by_cases h0 : D.size = 0
  · have e0 := HE.out _ (HB.out _ I1.out)
    have x0 := isEmpty_of h0
    have HF : Hid (R = E) := by show _ = _; rw [HR.out, if_neg (by simp [h0])]
    go_wp2
    go_ret
    exact ⟨by rw [HF.out]; rfl, HB.out _ I1.out⟩
  · have x0 := isEmpty_not h0
    go_wp2_with fail
    refine (implSigRight sk se ss _).mono ?_
    rintro e w2 ⟨rfl, b2⟩
    have K2 : Hid (Below w1.heap.size w1 w2) := b2
    clear b2 c0 c1 c2 c3 c4 c5 c6 c7 c8 c9 c10 c11
    cases hs : sigRB sk se ss with
    | false =>
      have e0 := HE.out _ (HB.out _ K2.out)
      have HF : Hid (R = E) := by show _ = _; rw [HR.out, hs, if_neg (by simp)]
      go_wp2
      go_ret
      exact ⟨by rw [HF.out]; rfl, HB.out _ K2.out⟩
    | true =>
      have HF : Hid (R = .nilIface) := by show _ = _; rw [HR.out, hs, decide_eq_true h0]; rfl
      go_wp2
      go_ret
      exact ⟨by rw [HF.out]; rfl, HB.out _ K2.out⟩
end Go.Proofs.YtegmmaomaegjjaaGreatDoor
