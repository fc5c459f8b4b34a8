/- impl.crlBody, walked. What impl.crlBody hands back, in words. What CrlRead tells, as a value; the two errors that are asked. -/
import Derived.Test.YtkhdjmjbdpmdnaaGreatDoorCR30
import Derived.Test.YtkhdjmjbdpmdnaaGreatDoorCR26
import Derived.Deep.RegionHeld3
import Derived.Test.YtkhdjmjbdpmdnaaGreatDoorCR19
import Derived.Test.YtkhdjmjbdpmdnaaGreatDoorCR27
import Derived.Test.YtkhdjmjbdpmdnaaGreatDoorCR24
namespace Go.Proofs.YtkhdjmjbdpmdnaaGreatDoor
open Go.RowKit

/-- What impl.crlBody hands back. -/
noncomputable def listE (c : Lst) : ByteArray := if listB c = true then listD c else ⟨#[]⟩
theorem four_cat (x y z u : ByteArray) : catS [x, y, z, u] = x ++ (y ++ (z ++ u)) := by show x ++ catS [y, z, u] = _; rw [three_cat]
theorem implSeq4 (x y z u : ByteArray) (g : Nat) (w : World) (hx : x.size + (y.size + (z.size + u.size)) ≤ 4000) (hg : w.heap[g]? = some (.cells #[.string x, .string y, .string z, .string u] 9 (0, 0))) :
    Calls Tryz.prog 50 #[.slice (some ⟨g, 0, none⟩) 4 4] w fun e w' => e = .returned (.string (seqD (x ++ (y ++ (z ++ u))))) ∧ Below w.heap.size w w' := by
  have h := implSeq g 4 [x, y, z, u] w hg (by rw [four_cat, ByteArray.size_append, ByteArray.size_append, ByteArray.size_append]; exact hx) (by simp) (Nat.le_refl _)
  rw [four_cat] at h
  exact h
set_option linter.unusedSimpArgs false in
set_option maxHeartbeats 4000000 in
set_option maxRecDepth 100000 in
theorem implListD (c : Lst) (a : Option Addr) (cap : Nat) (w : World) (hi : c.issuer.size ≤ maxLen) (hl : c.serials.length ≤ 1048576) (ha : IsInts w a c.serials) :
    Calls Tryz.prog 156 #[c.val (.slice a c.serials.length cap)] w fun e w' => e = .returned (.string (listE c)) ∧ Below w.heap.size w w' := by
  have HSr : Hid (∀ V, IsInts V a c.serials → Calls Tryz.prog 190 #[.slice a c.serials.length cap] V fun e w' => e = .returned (.bool (serialsB c.serials)) ∧ Below V.heap.size V w') := fun V hV => implSerials a c.serials cap V hl hV
  have HH : Hid (serialsB c.serials = true → ∀ V, IsInts V a c.serials → Calls Tryz.prog 191 #[.slice a c.serials.length cap] V fun e w' => e = .returned (.string (seqD (serD c.serials c.serials.length))) ∧ Below V.heap.size V w') := fun h V hV => by
    unfold serialsB at h
    simp only [Bool.and_eq_true, decide_eq_true_eq] at h
    exact implPutSerials a c.serials cap V h.2 (fun i hi => by have := okSTo_lt h.1 i hi; omega) hV
  have HZ : Hid (serialsB c.serials = true → (seqD (serD c.serials c.serials.length)).size ≤ 484) := fun h => by
    unfold serialsB at h
    simp only [Bool.and_eq_true, decide_eq_true_eq] at h
    have y4 := serD_le c.serials c.serials.length
    have y5 := seqD_le (serD c.serials c.serials.length)
    omega
  obtain ⟨R, hR⟩ : ∃ R, R = listE c := ⟨_, rfl⟩
  rw [← hR]
  have HR : Hid (R = if (nameB c.issuer && timeB c.fr && timeB c.till && decide (c.fr ≤ c.till) && serialsB c.serials) = true then seqD (nameD c.issuer ++ (intD c.fr ++ (intD c.till ++ seqD (serD c.serials c.serials.length)))) else ⟨#[]⟩) := hR
  have y1 := nameD_le c.issuer
  have y2 := intD_le c.fr
  have y3 := intD_le c.till
  clear hR hl
  obtain ⟨iss, fr, till, serials, sk, se, ss⟩ := c
  unfold Lst.val
  simp only at HSr HH HZ HR y1 y2 y3 hi ha ⊢
  obtain ⟨N, hN⟩ : ∃ N, N = serialsB serials := ⟨_, rfl⟩
  rw [← hN] at HSr HH HZ HR
  clear hN
  generalize seqD (serD serials serials.length) = G at *
  generalize serials.length = nl at *
  obtain ⟨w1, hw1⟩ : ∃ w1, w1 = w.alloc (.cells #[.string iss, .int .i64 fr, .int .i64 till, .slice a nl cap, .int .i64 sk, .int .i64 se, .int .i64 ss] 53 (0, 0)) := ⟨_, rfl⟩
  have r0 : w1.heap[w.heap.size]? = some (.cells [Value.string iss, .int .i64 fr, .int .i64 till, .slice a nl cap, .int .i64 sk, .int .i64 se, .int .i64 ss].toArray 53 (0, 0)) := by rw [hw1]; exact heap_alloc_new w _
  have B1 : Hid (Below w.heap.size w w1) := by rw [hw1]; exact (Below.refl _ _).alloc (Nat.le_refl _) _
  have z1 : w.heap.size < w1.heap.size := by rw [hw1]; simp
  have HK : Hid (∀ V, Below w1.heap.size w1 V → V.cell? ⟨w.heap.size, 0, none⟩ = some (.string iss) ∧ V.cell? ⟨w.heap.size, 1, none⟩ = some (.int .i64 fr) ∧ V.cell? ⟨w.heap.size, 2, none⟩ = some (.int .i64 till) ∧ V.cell? ⟨w.heap.size, 3, none⟩ = some (.slice a nl cap) ∧ V.cell? ⟨w.heap.size, 4, none⟩ = some (.int .i64 sk) ∧ V.cell? ⟨w.heap.size, 5, none⟩ = some (.int .i64 se) ∧ V.cell? ⟨w.heap.size, 6, none⟩ = some (.int .i64 ss)) := fun V hV => by
    have hP := (hV.block _ z1).trans r0
    exact ⟨rowFacts hP 0 _ rfl, rowFacts hP 1 _ rfl, rowFacts hP 2 _ rfl, rowFacts hP 3 _ rfl, rowFacts hP 4 _ rfl, rowFacts hP 5 _ rfl, rowFacts hP 6 _ rfl⟩
  have HA : Hid (∀ V, Below w1.heap.size w1 V → IsInts V a serials) := fun V hV => (ha.keep B1.out).keep hV
  have HB : Hid (∀ V, Below w1.heap.size w1 V → Below w.heap.size w V) := fun V hV => B1.out.trans (hV.mono B1.out.size)
  have I1 : Hid (Below w1.heap.size w1 w1) := Below.refl _ _
  have D1 : Hid (Below w1.heap.size w1 w1.drew) := I1.out.drew
  clear r0 z1 B1 ha
  obtain ⟨c0, c1, c2, c3, c4, c5, c6⟩ := HK.out w1 I1.out
  go_enter Tryz.func156, Tryz.ntmps156
  go_upto_region 1 with fail
  rw [← hw1]
  clear hw1
  go_wp2_with fail
  refine (implNameB iss _ hi).mono ?_
  rintro e w2 ⟨rfl, h2w⟩
  subst w2
  cases h1 : nameB iss with
  | false =>
    have HF : Hid (R = ⟨#[]⟩) := by show _ = _; rw [HR.out, h1]; rfl
    go_wp2
    go_ret
    exact ⟨by rw [HF.out]; rfl, HB.out _ I1.out⟩
  | true =>
  rw [h1] at HR
  go_wp2_with fail
  refine (implTime fr _).mono ?_
  rintro e w2 ⟨rfl, h2w⟩
  subst w2
  cases h2 : timeB fr with
  | false =>
    have HF : Hid (R = ⟨#[]⟩) := by show _ = _; rw [HR.out, h2]; rfl
    go_wp2
    go_ret
    exact ⟨by rw [HF.out]; rfl, HB.out _ I1.out⟩
  | true =>
  rw [h2] at HR
  go_wp2_with fail
  refine (implTime till _).mono ?_
  rintro e w2 ⟨rfl, h2w⟩
  subst w2
  cases h3 : timeB till with
  | false =>
    have HF : Hid (R = ⟨#[]⟩) := by show _ = _; rw [HR.out, h3]; rfl
    go_wp2
    go_ret
    exact ⟨by rw [HF.out]; rfl, HB.out _ I1.out⟩
  | true =>
  rw [h3] at HR
  by_cases h4 : fr ≤ till
  rotate_left
  · have h4' : till < fr := by omega
    have HF : Hid (R = ⟨#[]⟩) := by show _ = _; rw [HR.out, decide_eq_false h4]; rfl
    go_wp2
    go_ret
    exact ⟨by rw [HF.out]; rfl, HB.out _ I1.out⟩
  rw [decide_eq_true h4] at HR
  have h4'' : ¬ till < fr := by omega
  have z1 := name_size h1
  have z2 : 0 ≤ fr ∧ fr ≤ 1000000000 := by unfold timeB at h2; simpa using h2
  have z3 : 0 ≤ till ∧ till ≤ 1000000000 := by unfold timeB at h3; simpa using h3
  clear h1 h2 h3 h4
  go_wp2_with fail
  refine (HSr.out _ (HA.out _ I1.out)).mono ?_
  rintro e w3 ⟨rfl, b3⟩
  have K3 : Hid (Below w1.heap.size w1 w3) := b3
  clear b3 c0 c1 c2 c3 c4 c5 c6
  cases N with
  | false =>
    have HF : Hid (R = ⟨#[]⟩) := HR.out
    go_wp2
    go_ret
    exact ⟨by rw [HF.out]; rfl, HB.out _ K3.out⟩
  | true =>
  have hR : R = seqD (nameD iss ++ (intD fr ++ (intD till ++ G))) := HR.out
  have H1 := HH.out rfl
  have zG := HZ.out rfl
  have PNm : Hid (∀ V, Hid (Below w1.heap.size w1 V) → Calls Tryz.prog 63 #[.string iss] V fun e W => e = .returned (.string (nameD iss)) ∧ Hid (Below w1.heap.size w1 W)) := fun V hV => (implNameD iss V z1).mono fun e W h => ⟨h.1, hV.out.trans (h.2.mono hV.out.size)⟩
  have PD : Hid (∀ V (n : Int), Hid (Below w1.heap.size w1 V) → 0 ≤ n ∧ n ≤ 1000000000 → Calls Tryz.prog 62 #[.int .i64 n] V fun e W => e = .returned (.string (intD n)) ∧ Hid (Below w1.heap.size w1 W)) := fun V n hV hn => (implDerInt n V (by omega) (by omega)).mono fun e W h => ⟨h.1, hV.out.trans (h.2.mono hV.out.size)⟩
  have PN : Hid (∀ V, Hid (Below w1.heap.size w1 V) → Calls Tryz.prog 191 #[.slice a nl cap] V fun e W => e = .returned (.string G) ∧ Hid (Below w1.heap.size w1 W)) := fun V hV => (H1 V (HA.out V hV.out)).mono fun e W h => ⟨h.1, hV.out.trans (h.2.mono hV.out.size)⟩
  have PS : Hid (∀ V (g : Nat), Hid (Below w1.heap.size w1 V) → V.heap[g]? = some (.cells #[.string (nameD iss), .string (intD fr), .string (intD till), .string G] 9 (0, 0)) → Calls Tryz.prog 50 #[.slice (some ⟨g, 0, none⟩) 4 4] V fun e W => e = .returned (.string R) ∧ Hid (Below w1.heap.size w1 W)) := fun V g hV hg => by
    rw [hR]
    exact (implSeq4 _ _ _ G g V (by omega) hg).mono fun e W h => ⟨h.1, hV.out.trans (h.2.mono hV.out.size)⟩
  have AL : Hid (∀ V o, Hid (Below w1.heap.size w1 V) → Hid (Below w1.heap.size w1 (V.alloc o))) := fun V o h => h.out.alloc h.out.size o
  have DR : Hid (∀ V, Hid (Below w1.heap.size w1 V) → Hid (Below w1.heap.size w1 V.drew)) := fun V h => h.out.drew
  have D3 : Hid (Below w1.heap.size w1 w3.drew) := DR.out _ K3
  clear HR HH HZ HSr hR H1 zG y1 y2 y3 HA z1
  obtain ⟨c0, c1, c2, c3, c4, c5, c6⟩ := HK.out w3 K3.out
  go_wp2_with fail
  go_region_held3 (fun V => V.cell? ⟨w.heap.size, 0, none⟩ = some (.string iss) ∧ V.cell? ⟨w.heap.size, 1, none⟩ = some (.int .i64 fr) ∧ V.cell? ⟨w.heap.size, 2, none⟩ = some (.int .i64 till) ∧ V.cell? ⟨w.heap.size, 3, none⟩ = some (.slice a nl cap) ∧ V.cell? ⟨w.heap.size, 4, none⟩ = some (.int .i64 sk) ∧ V.cell? ⟨w.heap.size, 5, none⟩ = some (.int .i64 se) ∧ V.cell? ⟨w.heap.size, 6, none⟩ = some (.int .i64 ss)) (first | (refine ⟨?_, ?_, ?_, ?_, ?_, ?_, ?_⟩ <;> assumption) | exact HK.out _ (Hid.out (by assumption)) | go_keep)
    (first
      | (go_at_call 63; refine (PNm.out _ (by first | assumption | exact AL.out _ _ (by assumption) | exact AL.out _ _ (AL.out _ _ (by assumption)) | exact DR.out _ (AL.out _ _ (by assumption)))).mono ?_; rintro r V1 ⟨rfl, k1⟩)
      | (go_at_call 62; refine (PD.out _ _ (by first | assumption | exact AL.out _ _ (by assumption) | exact AL.out _ _ (AL.out _ _ (by assumption)) | exact DR.out _ (AL.out _ _ (by assumption))) (by assumption)).mono ?_; rintro r V2 ⟨rfl, k2⟩)
      | (go_at_call 191; refine (PN.out _ (by first | assumption | exact AL.out _ _ (by assumption) | exact AL.out _ _ (AL.out _ _ (by assumption)) | exact DR.out _ (AL.out _ _ (by assumption)))).mono ?_; rintro r V3 ⟨rfl, k3⟩)
      | (go_at_call 50; refine (PS.out _ _ (by first | assumption | exact AL.out _ _ (by assumption) | exact AL.out _ _ (AL.out _ _ (by assumption)) | exact DR.out _ (AL.out _ _ (by assumption))) (by first | exact heap_alloc_new _ _ | exact heap_alloc2 _ _ _ | exact alKeep (heap_alloc_new _ _))).mono ?_; rintro r V4 ⟨rfl, k4⟩))
  all_goals
    go_wp2
    go_ret
    exact ⟨rfl, HB.out _ k4.out⟩
end Go.Proofs.YtkhdjmjbdpmdnaaGreatDoor
namespace Go.Proofs.YtkhdjmjbdpmdnaaGreatDoor
open Go.RowKit

theorem listE_size (c : Lst) : (listE c).size ≤ 700 := by
  unfold listE
  split
  · exact listD_le (list_fits (by assumption))
  · exact Nat.zero_le _
theorem listE_ne {c : Lst} : decide ((listE c).size ≠ 0) = listB c := by
  unfold listE
  cases h : listB c with
  | true =>
    rw [if_pos rfl]
    have := thing_pos 48 (nameD c.issuer ++ (intD c.fr ++ (intD c.till ++ seqD (serD c.serials c.serials.length))))
    refine decide_eq_true (fun h0 => ?_)
    have h1 : (thingD 48 (nameD c.issuer ++ (intD c.fr ++ (intD c.till ++ seqD (serD c.serials c.serials.length))))).size = 0 := h0
    omega
  | false => rfl
end Go.Proofs.YtkhdjmjbdpmdnaaGreatDoor
namespace Go.Proofs.YtkhdjmjbdpmdnaaGreatDoor
open Go.RowKit

def zeroLst : Lst := ⟨⟨#[]⟩, 0, 0, [], 0, 0, 0⟩
def crlV (c : Lst) (v : Value) (n : Int) : Value := .agg #[.string c.issuer, .int .i64 c.fr, .int .i64 c.till, v, .int .i64 c.sk, .int .i64 c.se, .int .i64 c.ss, .int .i64 n]
def Err2 (w : World) : Prop := ∃ b1 b3, ErrV 1 w b1 ∧ ErrV 3 w b3
theorem Err2.keep {w w' : World} (h : Err2 w) (hb : Below w.heap.size w w') : Err2 w' := by
  obtain ⟨b1, b3, h1, h3⟩ := h
  exact ⟨b1, b3, h1.keep hb, h3.keep hb⟩
theorem sizeCrlOut : (Tryz.prog.info? 60).map (·.size) = some 8 := by kernel_rfl
theorem sizeCrl7 : (Tryz.prog.info? 53).map (·.size) = some 7 := by kernel_rfl
/-- What the program tells of a text. -/
noncomputable def crlR (s : ByteArray) : Lst × Int :=
  if 20000 < s.size then (zeroLst, 2)
  else if (decide ((listE (readL s)).size ≠ 0) && sigRB (readL s).sk (readL s).se (readL s).ss) = true ∧ seqD (listE (readL s) ++ thingD 3 (numsD [(readL s).sk, (readL s).se, (readL s).ss] 3)) = s then (readL s, 0) else (zeroLst, 3)
theorem readL_fit (s : ByteArray) : (readL s).serials.length ≤ 60 := by
  have h0 := allD_len (atP (atP (atP s [0]) [0]) [3])
  simp only [readL, serialsR, List.length_map]
  exact h0
theorem readL_iss {s : ByteArray} (h : s.size ≤ 20000) : (readL s).issuer.size ≤ 20000 := by
  simp only [readL]
  exact Nat.le_trans (atP_le _ _) (Nat.le_trans (atP_le _ _) (Nat.le_trans (atP_le _ _) (Nat.le_trans (atP_le _ _) h)))
end Go.Proofs.YtkhdjmjbdpmdnaaGreatDoor
