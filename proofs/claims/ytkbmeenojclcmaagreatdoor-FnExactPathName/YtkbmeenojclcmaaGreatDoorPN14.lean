/- impl.PathName, walked. spec.l05Is, walked. spec.l06Time, spec.NameRight, walked. spec.l06Time, spec.l06Names, walked. spec.l06Right, walked. spec.l04In, spec.SigRight, walked. spec.l06Right, spec.CertRight, walked. spec.l05Seven, walked. spec.l05Oid, walked. -/
import Derived.Test.YtkbmeenojclcmaaGreatDoorPN05
import Derived.Test.YtkbmeenojclcmaaGreatDoorPN13
import Derived.Test.YtkbmeenojclcmaaGreatDoorPN01
import Derived.Test.YtkbmeenojclcmaaGreatDoorPN02
import Derived.WalkLawsBesides
import Derived.Deep.Cut
import Derived.Test.YtkbmeenojclcmaaGreatDoorPN07
import Derived.Deep.RegionHeld3
namespace Go.Proofs.YtkbmeenojclcmaaGreatDoor
open Go.RowKit

set_option linter.unusedSimpArgs false in
set_option maxHeartbeats 4000000 in
set_option maxRecDepth 100000 in
theorem implPathN (r c : Paper) (l : Lst) (t : Int) (name : ByteArray) (ra ca la : Option Addr) (rc cc lc : Nat) (w : World) (hr : PIn r) (hc : PIn c) (hl : LIn l) (hra : IsStrs w ra r.names) (hca : IsStrs w ca c.names) (hla : IsInts w la l.serials) (hk : Keys w) (hE : Err3 w) (_ : name.size ≤ maxLen) :
    Calls Tryz.prog 14 #[r.val (.slice ra r.names.length rc), c.val (.slice ca c.names.length cc), l.val (.slice la l.serials.length lc), .int .i64 t, .string name] w fun e w' => e = .returned (.bool (pathN r c l t name)) ∧ Below w.heap.size w w' := by
  have hkp := hk.pos
  have HP : Hid (∀ V, Below w.heap.size w V → Calls Tryz.prog 10 #[r.val (.slice ra r.names.length rc), c.val (.slice ca c.names.length cc), l.val (.slice la l.serials.length lc), .int .i64 t] V fun e W => e = .returned (.int .i64 (pathC r c l t)) ∧ Below V.heap.size V W) := fun V hV => implPath r c l t ra ca la rc cc lc V hr hc hl (hra.keep hV) (hca.keep hV) (hla.keep hV) (hk.below hV hkp) (hE.keep hV)
  have HH : Hid (∀ V, Below w.heap.size w V → Calls Tryz.prog 39 #[.slice ca c.names.length cc, .string name] V fun e W => e = .returned (.bool (textTo c.names name c.names.length)) ∧ W = V) := fun V hV => sliceHas name ca c.names cc V (by have := hc.2.2.1; omega) (hca.keep hV)
  have HV : Hid (pathN r c l t name = (decide (pathC r c l t = 0) && textTo c.names name c.names.length)) := rfl
  clear hr hc hl hra hca hla hk hkp hE
  generalize pathN r c l t name = R at *
  generalize pathC r c l t = X at *
  generalize textTo c.names name c.names.length = Y at *
  obtain ⟨rser, riss, rsub, rfr, rtill, rkey, rnames, rca, rsk, rse, rss⟩ := r
  obtain ⟨cser, ciss, csub, cfr, ctill, ckey, cnames, cca, csk, cse, css⟩ := c
  obtain ⟨liss, lfr, ltill, lserials, lsk, lse, lss⟩ := l
  unfold Paper.val at *
  unfold Lst.val at *
  simp only at HP HH ⊢
  generalize rnames.length = rn at *
  generalize cnames.length = cn at *
  generalize lserials.length = ln at *
  obtain ⟨w1, hw1⟩ : ∃ w1, w1 = ((w.alloc (.cells #[.int .i64 rser, .string riss, .string rsub, .int .i64 rfr, .int .i64 rtill, .int .i64 rkey, .slice ra rn rc, .bool rca, .int .i64 rsk, .int .i64 rse, .int .i64 rss] 35 (0, 0))).alloc (.cells #[.int .i64 cser, .string ciss, .string csub, .int .i64 cfr, .int .i64 ctill, .int .i64 ckey, .slice ca cn cc, .bool cca, .int .i64 csk, .int .i64 cse, .int .i64 css] 35 (0, 0))).alloc (.cells #[.string liss, .int .i64 lfr, .int .i64 ltill, .slice la ln lc, .int .i64 lsk, .int .i64 lse, .int .i64 lss] 38 (0, 0)) := ⟨_, rfl⟩
  have q0 : w1.heap[w.heap.size]? = some (.cells [Value.int .i64 rser, .string riss, .string rsub, .int .i64 rfr, .int .i64 rtill, .int .i64 rkey, .slice ra rn rc, .bool rca, .int .i64 rsk, .int .i64 rse, .int .i64 rss].toArray 35 (0, 0)) := by rw [hw1, Below.heap_alloc _ _ _ (by simp; omega), Below.heap_alloc _ _ _ (by simp)]; exact heap_alloc_new w _
  have q1 : w1.heap[w.heap.size + 1]? = some (.cells [Value.int .i64 cser, .string ciss, .string csub, .int .i64 cfr, .int .i64 ctill, .int .i64 ckey, .slice ca cn cc, .bool cca, .int .i64 csk, .int .i64 cse, .int .i64 css].toArray 35 (0, 0)) := by rw [hw1, Below.heap_alloc _ _ _ (by simp)]; exact heap_alloc2 w _ _
  have q2 : w1.heap[w.heap.size + 1 + 1]? = some (.cells [Value.string liss, .int .i64 lfr, .int .i64 ltill, .slice la ln lc, .int .i64 lsk, .int .i64 lse, .int .i64 lss].toArray 38 (0, 0)) := by rw [hw1]; have := heap_alloc_new ((w.alloc (.cells #[.int .i64 rser, .string riss, .string rsub, .int .i64 rfr, .int .i64 rtill, .int .i64 rkey, .slice ra rn rc, .bool rca, .int .i64 rsk, .int .i64 rse, .int .i64 rss] 35 (0, 0))).alloc (.cells #[.int .i64 cser, .string ciss, .string csub, .int .i64 cfr, .int .i64 ctill, .int .i64 ckey, .slice ca cn cc, .bool cca, .int .i64 csk, .int .i64 cse, .int .i64 css] 35 (0, 0))) (.cells #[.string liss, .int .i64 lfr, .int .i64 ltill, .slice la ln lc, .int .i64 lsk, .int .i64 lse, .int .i64 lss] 38 (0, 0)); simpa using this
  have P1 : Hid (Below w.heap.size w w1) := by rw [hw1]; exact (((Below.refl _ _).alloc (Nat.le_refl _) _).alloc (by simp) _).alloc (by simp; omega) _
  have HB : Hid (∀ V, Below w1.heap.size w1 V → Below w.heap.size w V) := fun V hV => P1.out.trans (hV.mono P1.out.size)
  have I1 : Hid (Below w1.heap.size w1 w1) := Below.refl _ _
  have KR : Hid (∀ V, Hid (Below w1.heap.size w1 V) → V.cell? ⟨w.heap.size, 0, none⟩ = some (.int .i64 rser) ∧ V.cell? ⟨w.heap.size, 1, none⟩ = some (.string riss) ∧ V.cell? ⟨w.heap.size, 2, none⟩ = some (.string rsub) ∧ V.cell? ⟨w.heap.size, 3, none⟩ = some (.int .i64 rfr) ∧ V.cell? ⟨w.heap.size, 4, none⟩ = some (.int .i64 rtill) ∧ V.cell? ⟨w.heap.size, 5, none⟩ = some (.int .i64 rkey) ∧ V.cell? ⟨w.heap.size, 6, none⟩ = some (.slice ra rn rc) ∧ V.cell? ⟨w.heap.size, 7, none⟩ = some (.bool rca) ∧ V.cell? ⟨w.heap.size, 8, none⟩ = some (.int .i64 rsk) ∧ V.cell? ⟨w.heap.size, 9, none⟩ = some (.int .i64 rse) ∧ V.cell? ⟨w.heap.size, 10, none⟩ = some (.int .i64 rss)) := fun V hV => by
    have hP := (hV.out.block _ (heap_lt q0)).trans q0
    exact ⟨rowFacts hP 0 _ rfl, rowFacts hP 1 _ rfl, rowFacts hP 2 _ rfl, rowFacts hP 3 _ rfl, rowFacts hP 4 _ rfl, rowFacts hP 5 _ rfl, rowFacts hP 6 _ rfl, rowFacts hP 7 _ rfl, rowFacts hP 8 _ rfl, rowFacts hP 9 _ rfl, rowFacts hP 10 _ rfl⟩
  have KC : Hid (∀ V, Hid (Below w1.heap.size w1 V) → V.cell? ⟨w.heap.size + 1, 0, none⟩ = some (.int .i64 cser) ∧ V.cell? ⟨w.heap.size + 1, 1, none⟩ = some (.string ciss) ∧ V.cell? ⟨w.heap.size + 1, 2, none⟩ = some (.string csub) ∧ V.cell? ⟨w.heap.size + 1, 3, none⟩ = some (.int .i64 cfr) ∧ V.cell? ⟨w.heap.size + 1, 4, none⟩ = some (.int .i64 ctill) ∧ V.cell? ⟨w.heap.size + 1, 5, none⟩ = some (.int .i64 ckey) ∧ V.cell? ⟨w.heap.size + 1, 6, none⟩ = some (.slice ca cn cc) ∧ V.cell? ⟨w.heap.size + 1, 7, none⟩ = some (.bool cca) ∧ V.cell? ⟨w.heap.size + 1, 8, none⟩ = some (.int .i64 csk) ∧ V.cell? ⟨w.heap.size + 1, 9, none⟩ = some (.int .i64 cse) ∧ V.cell? ⟨w.heap.size + 1, 10, none⟩ = some (.int .i64 css)) := fun V hV => by
    have hP := (hV.out.block _ (heap_lt q1)).trans q1
    exact ⟨rowFacts hP 0 _ rfl, rowFacts hP 1 _ rfl, rowFacts hP 2 _ rfl, rowFacts hP 3 _ rfl, rowFacts hP 4 _ rfl, rowFacts hP 5 _ rfl, rowFacts hP 6 _ rfl, rowFacts hP 7 _ rfl, rowFacts hP 8 _ rfl, rowFacts hP 9 _ rfl, rowFacts hP 10 _ rfl⟩
  have KL : Hid (∀ V, Hid (Below w1.heap.size w1 V) → V.cell? ⟨w.heap.size + 1 + 1, 0, none⟩ = some (.string liss) ∧ V.cell? ⟨w.heap.size + 1 + 1, 1, none⟩ = some (.int .i64 lfr) ∧ V.cell? ⟨w.heap.size + 1 + 1, 2, none⟩ = some (.int .i64 ltill) ∧ V.cell? ⟨w.heap.size + 1 + 1, 3, none⟩ = some (.slice la ln lc) ∧ V.cell? ⟨w.heap.size + 1 + 1, 4, none⟩ = some (.int .i64 lsk) ∧ V.cell? ⟨w.heap.size + 1 + 1, 5, none⟩ = some (.int .i64 lse) ∧ V.cell? ⟨w.heap.size + 1 + 1, 6, none⟩ = some (.int .i64 lss)) := fun V hV => by
    have hP := (hV.out.block _ (heap_lt q2)).trans q2
    exact ⟨rowFacts hP 0 _ rfl, rowFacts hP 1 _ rfl, rowFacts hP 2 _ rfl, rowFacts hP 3 _ rfl, rowFacts hP 4 _ rfl, rowFacts hP 5 _ rfl, rowFacts hP 6 _ rfl⟩
  clear q0 q1 q2
  go_enter Tryz.func14, Tryz.ntmps14
  go_upto_region 1 with fail
  rw [← hw1]
  clear hw1
  obtain ⟨x0, x1, x2, x3, x4, x5, x6, x7, x8, x9, x10⟩ := KR.out _ I1
  obtain ⟨y0, y1, y2, y3, y4, y5, y6, y7, y8, y9, y10⟩ := KC.out _ I1
  obtain ⟨z0, z1, z2, z3, z4, z5, z6⟩ := KL.out _ I1
  go_wp2_with fail
  refine (HP.out _ (HB.out _ I1.out)).mono ?_
  rintro e v1 ⟨rfl, k1⟩
  have K1 : Hid (Below w1.heap.size w1 v1) := I1.out.trans (k1.mono I1.out.size)
  clear k1 x0 x1 x2 x3 x4 x5 x6 x7 x8 x9 x10 y0 y1 y2 y3 y4 y5 y6 y7 y8 y9 y10 z0 z1 z2 z3 z4 z5 z6
  by_cases h0 : X = 0
  rotate_left
  · have HF : Hid (R = false) := by show _ = _; rw [HV.out, decide_eq_false h0]; rfl
    have hx : (X == 0) = false := by simpa using h0
    go_wp2
    go_ret
    exact ⟨by rw [HF.out]; rfl, HB.out _ K1.out⟩
  subst h0
  have HF : Hid (R = Y) := by show _ = _; rw [HV.out]; simp
  obtain ⟨y0, y1, y2, y3, y4, y5, y6, y7, y8, y9, y10⟩ := KC.out _ K1
  go_wp2_with fail
  refine (HH.out _ (HB.out _ K1.out)).mono ?_
  rintro e _ ⟨rfl, rfl⟩
  go_wp2
  go_ret
  exact ⟨by rw [HF.out]; rfl, HB.out _ K1.out⟩
end Go.Proofs.YtkbmeenojclcmaaGreatDoor
namespace Go.Proofs.YtkbmeenojclcmaaGreatDoor
open Go.RowKit Go.Lib

theorem specIs (n l h : Int) (w : World) :
    Calls Tryz.prog 22 #[.int .i64 n, .int .i64 l, .int .i64 h] w fun e w' => e = .returned (.bool (decide (l ≤ n) && decide (n ≤ h))) ∧ w' = w := by
  by_cases h1 : l ≤ n
  · go_enter Tryz.func22, Tryz.ntmps22
    go_wp2
    go_ret
    exact ⟨by simp [h1], rfl⟩
  · go_enter Tryz.func22, Tryz.ntmps22
    go_wp2
    go_ret
    exact ⟨by simp; omega, rfl⟩
end Go.Proofs.YtkbmeenojclcmaaGreatDoor
namespace Go.Proofs.YtkbmeenojclcmaaGreatDoor
open Go.RowKit

theorem specTime (n : Int) (w : World) :
    Calls Tryz.prog 20 #[.int .i64 n] w fun e w' => e = .returned (.bool (timeB n)) ∧ w' = w := by
  go_enter Tryz.func20, Tryz.ntmps20
  go_wp2_with fail
  refine (specIs n 0 1000000000 _).mono ?_
  rintro e w' ⟨rfl, rfl⟩
  go_wp2
  go_ret
  exact ⟨rfl, rfl⟩
theorem specNameB (s : ByteArray) (w : World) (hs : s.size ≤ maxLen) :
    Calls Tryz.prog 41 #[.string s] w fun e w' => e = .returned (.bool (nameB s)) ∧ w' = w :=
  (specName s w hs).mono fun _ _ h => ⟨ans_name h.1, h.2⟩
end Go.Proofs.YtkbmeenojclcmaaGreatDoor
namespace Go.Proofs.YtkbmeenojclcmaaGreatDoor
open Go.RowKit

set_option maxHeartbeats 1000000 in
set_option maxRecDepth 100000 in
theorem specNames (a : Option Addr) (ss : List ByteArray) (c : Nat) (w : World) (hl : ss.length ≤ 1048576) (hs : totS ss ss.length ≤ 1048576) (ha : IsStrs w a ss) :
    Calls Tryz.prog 54 #[.slice a ss.length c] w fun e w' => e = .returned (.bool (namesB ss)) ∧ Below w.heap.size w w' := by
  have HSz : Hid (∀ k, k < ss.length → (tAt ss k).size ≤ 1048576) := fun k hk => Nat.le_trans (totS_at ss hk) hs
  clear hs
  go_enter Tryz.func54, Tryz.ntmps54
  go_wp2
  go_loopw [3] (fun i wr => ∃ k : Nat, k ≤ ss.length ∧ i = .int .i64 k ∧ okTo ss k = true ∧ Below w.heap.size w wr) (fun i _ => ss.length - (intOf i).toNat)
  case atStart => exact ⟨0, Nat.zero_le _, rfl, rfl, Below.refl _ _⟩
  case round =>
    obtain ⟨k, hk, rfl, hok, hbr⟩ := hrel
    have HOk : Hid (okTo ss k = true) := hok
    have HB : Hid (Below w.heap.size w wr) := hbr
    clear hok
    by_cases hlt : k < ss.length
    · obtain ⟨x, o, rfl, hc⟩ : ∃ x o, a = some ⟨x, o, none⟩ ∧ ∀ i, i < ss.length → wr.cell? ⟨x, o + i, none⟩ = some (.string (tAt ss i)) := by
        rcases ha.below hbr ha.lt with rfl | h
        · simp at hlt
        · exact h
      have hck := hc k hlt
      have hz := HSz.out k hlt
      have HNm : Hid (∀ V : World, Calls Tryz.prog 41 #[.string (tAt ss k)] V fun e w' => e = .returned (.bool (nameB (tAt ss k))) ∧ w' = V) := fun V => specNameB _ V (by unfold maxLen; omega)
      clear hz
      have a0 : (0 : Int) ≤ (k : Int) := by omega
      have b0 : (k : Int) < (ss.length : Int) := by omega
      cases hn : nameB (tAt ss k) with
      | false =>
        have HF : Hid (namesB ss = false) := by show _ = _; rw [namesB, okTo_no (okN_not hn) hlt]; rfl
        rw [hn] at HNm
        generalize tAt ss k = z at *
        generalize ss.length = n at *
        clear hc ha hbr hn HSz
        go_wp2_with fail
        go_quiet ((go_at_call 41; exact Calls.quiet_of_same (HNm.out _)))
        go_wp2
        go_ret
        exact ⟨by rw [HF.out]; rfl, below_drewN HB.out _⟩
      | true =>
        rw [hn] at HNm
        by_cases h0 : k = 0
        · subst h0
          have HF : Hid (okN ss 0 = true) := okN_zero hn
          rw [Nat.add_zero] at hck
          generalize tAt ss 0 = z at *
          generalize ss.length = n at *
          clear hc ha hbr hn HSz
          go_wp2_with fail
          go_quiet ((go_at_call 41; exact Calls.quiet_of_same (HNm.out _)))
          go_wp2
          go_roundw
          case rel => exact ⟨1, by omega, by go_num, okTo_yes HOk.out HF.out, below_drewN HB.out _⟩
          case measure => simp [intOf]; omega
        · have hck1 := hc (k - 1) (by omega)
          have ek : ((k : Int) - 1) = ((k - 1 : Nat) : Int) := by omega
          have ew : IntKind.i64.wrap ((k : Int) - 1) = ((k - 1 : Nat) : Int) := by rw [IntKind.wrap_i64]; omega
          have a1 : (0 : Int) < (k : Int) := by omega
          have a2 : 0 < k := by omega
          have g1 : decide ((0 : Int) < (k : Int)) = true := decide_eq_true a1
          have b1 : ((k - 1 : Nat) : Int) < (ss.length : Int) := by omega
          have hbl := okN_more (ss := ss) (k := k) (by omega) hn
          cases hr : Op.bytesLess (tAt ss (k - 1)).toList (tAt ss k).toList with
          | false =>
            have HF : Hid (namesB ss = false) := by show _ = _; rw [namesB, okTo_no (hbl.trans hr) hlt]; rfl
            generalize tAt ss k = z at *
            generalize tAt ss (k - 1) = y at *
            generalize k - 1 = k1 at *
            generalize ss.length = n at *
            clear hc ha hbr hn HSz hbl
            go_wp2_with fail
            go_quiet ((go_at_call 41; exact Calls.quiet_of_same (HNm.out _)))
            go_wp2
            go_ret
            exact ⟨by rw [HF.out]; rfl, below_drewN HB.out _⟩
          | true =>
            have HF : Hid (okN ss k = true) := hbl.trans hr
            generalize tAt ss k = z at *
            generalize tAt ss (k - 1) = y at *
            generalize k - 1 = k1 at *
            generalize ss.length = n at *
            clear hc ha hbr hn HSz hbl
            go_wp2_with fail
            go_quiet ((go_at_call 41; exact Calls.quiet_of_same (HNm.out _)))
            go_wp2
            go_roundw
            case rel => exact ⟨k + 1, by omega, by go_num, okTo_yes HOk.out HF.out, below_drewN HB.out _⟩
            case measure => simp [intOf]; omega
    · obtain rfl : k = ss.length := by omega
      have HF : Hid (namesB ss = decide (ss.length ≤ 5)) := by show _ = _; rw [namesB, HOk.out]; rfl
      clear ha hbr
      by_cases h5 : ss.length ≤ 5
      · rw [decide_eq_true h5] at HF
        go_wp2
        go_ret
        exact ⟨by rw [HF.out]; first | rfl | (simp; omega), HB.out⟩
      · rw [decide_eq_false h5] at HF
        go_wp2
        go_ret
        exact ⟨by rw [HF.out]; first | rfl | (simp; omega), HB.out⟩
end Go.Proofs.YtkbmeenojclcmaaGreatDoor
namespace Go.Proofs.YtkbmeenojclcmaaGreatDoor
open Go.RowKit

set_option maxHeartbeats 2000000 in
set_option maxRecDepth 100000 in
theorem specPaper (c : Paper) (a : Option Addr) (cap : Nat) (w : World) (hi : c.issuer.size ≤ maxLen) (hs : c.subject.size ≤ maxLen) (hl : c.names.length ≤ 1048576) (ht : totS c.names c.names.length ≤ 1048576) (ha : IsStrs w a c.names) :
    Calls Tryz.prog 40 #[c.val (.slice a c.names.length cap)] w fun e w' => e = .returned (.bool (paperB c)) ∧ Below w.heap.size w w' := by
  obtain ⟨ser, iss, sub, fr, till, key, names, ca, sk, se, ss⟩ := c
  simp only at hi hs hl ht ha
  unfold Paper.val
  simp only
  obtain ⟨R, hR⟩ : ∃ R, R = paperB ⟨ser, iss, sub, fr, till, key, names, ca, sk, se, ss⟩ := ⟨_, rfl⟩
  rw [← hR]
  have HR : Hid (R = (decide (1 ≤ ser) && decide (ser ≤ 1000000000) && nameB iss && nameB sub && timeB fr && timeB till && decide (fr ≤ till) && rightG key && namesB names)) := hR
  clear hR
  obtain ⟨w1, hw1⟩ : ∃ w1, w1 = w.alloc (.cells #[.int .i64 ser, .string iss, .string sub, .int .i64 fr, .int .i64 till, .int .i64 key, .slice a names.length cap, .bool ca, .int .i64 sk, .int .i64 se, .int .i64 ss] 35 (0, 0)) := ⟨_, rfl⟩
  have hrow : w1.heap[w.heap.size]? = some (.cells [Value.int .i64 ser, .string iss, .string sub, .int .i64 fr, .int .i64 till, .int .i64 key, .slice a names.length cap, .bool ca, .int .i64 sk, .int .i64 se, .int .i64 ss].toArray 35 (0, 0)) := by rw [hw1]; exact heap_alloc_new w _
  have B1 : Hid (Below w.heap.size w w1) := by rw [hw1]; exact (Below.refl _ _).alloc (Nat.le_refl _) _
  have A1 : Hid (IsStrs w1 a names) := ha.keep B1.out
  have c0 := rowFacts hrow 0 _ rfl
  have c1 := rowFacts hrow 1 _ rfl
  have c2 := rowFacts hrow 2 _ rfl
  have c3 := rowFacts hrow 3 _ rfl
  have c4 := rowFacts hrow 4 _ rfl
  have c5 := rowFacts hrow 5 _ rfl
  have c6 := rowFacts hrow 6 _ rfl
  have HNm : Hid (∀ V, IsStrs V a names → Calls Tryz.prog 54 #[.slice a names.length cap] V fun e w' => e = .returned (.bool (namesB names)) ∧ Below V.heap.size V w') := fun V hV => specNames a names cap V hl ht hV
  have HRow : Hid (w1.heap[w.heap.size]? = some (.cells [Value.int .i64 ser, .string iss, .string sub, .int .i64 fr, .int .i64 till, .int .i64 key, .slice a names.length cap, .bool ca, .int .i64 sk, .int .i64 se, .int .i64 ss].toArray 35 (0, 0))) := hrow
  generalize names.length = nl at *
  clear hrow ha hl ht
  go_enter Tryz.func40, Tryz.ntmps40
  go_upto_region 1 with fail
  rw [← hw1]
  clear hw1
  go_wp2_with fail
  refine (specIs ser 1 1000000000 _).mono ?_
  rintro e w2 ⟨rfl, rfl⟩
  cases h1 : (decide (1 ≤ ser) && decide (ser ≤ 1000000000)) with
  | false =>
    have HF : Hid (R = false) := by show _ = _; rw [HR.out]; simp [h1]
    go_wp2
    go_ret
    exact ⟨by rw [HF.out]; rfl, B1.out⟩
  | true =>
  rw [h1] at HR
  go_wp2_with fail
  refine (specNameB iss _ hi).mono ?_
  rintro e w2 ⟨rfl, rfl⟩
  cases h3 : nameB iss with
  | false =>
    have HF : Hid (R = false) := by show _ = _; rw [HR.out]; simp [h3]
    go_wp2
    go_ret
    exact ⟨by rw [HF.out]; rfl, B1.out⟩
  | true =>
  rw [h3] at HR
  go_wp2_with fail
  refine (specNameB sub _ hs).mono ?_
  rintro e w2 ⟨rfl, rfl⟩
  cases h4 : nameB sub with
  | false =>
    have HF : Hid (R = false) := by show _ = _; rw [HR.out]; simp [h4]
    go_wp2
    go_ret
    exact ⟨by rw [HF.out]; rfl, B1.out⟩
  | true =>
  rw [h4] at HR
  go_wp2_with fail
  refine (specTime fr _).mono ?_
  rintro e w2 ⟨rfl, rfl⟩
  cases h5 : timeB fr with
  | false =>
    have HF : Hid (R = false) := by show _ = _; rw [HR.out]; simp [h5]
    go_wp2
    go_ret
    exact ⟨by rw [HF.out]; rfl, B1.out⟩
  | true =>
  rw [h5] at HR
  go_wp2_with fail
  refine (specTime till _).mono ?_
  rintro e w2 ⟨rfl, rfl⟩
  cases h6 : timeB till with
  | false =>
    have HF : Hid (R = false) := by show _ = _; rw [HR.out]; simp [h6]
    go_wp2
    go_ret
    exact ⟨by rw [HF.out]; rfl, B1.out⟩
  | true =>
  rw [h6] at HR
  by_cases h7 : fr ≤ till
  rotate_left
  · have h7' : till < fr := by omega
    have HF : Hid (R = false) := by show _ = _; rw [HR.out]; simp [h7]
    go_wp2
    go_ret
    exact ⟨by rw [HF.out]; rfl, B1.out⟩
  rw [decide_eq_true h7] at HR
  go_wp2_with fail
  refine (specGroupRight key _).mono ?_
  rintro e w2 ⟨rfl, rfl⟩
  cases h8 : rightG key with
  | false =>
    have HF : Hid (R = false) := by show _ = _; rw [HR.out]; simp [h8]
    go_wp2
    go_ret
    exact ⟨by rw [HF.out]; rfl, B1.out⟩
  | true =>
  rw [h8] at HR
  have HF : Hid (R = namesB names) := by show _ = _; rw [HR.out]; simp
  go_wp2_with fail
  refine (HNm.out _ A1.out).mono ?_
  rintro e w4 ⟨rfl, b4⟩
  rw [← HF.out]
  have B4 : Hid (Below w.heap.size w w4) := B1.out.trans (b4.mono B1.out.size)
  clear b4
  go_wp2
  go_ret
  exact ⟨rfl, B4.out⟩
end Go.Proofs.YtkbmeenojclcmaaGreatDoor
namespace Go.Proofs.YtkbmeenojclcmaaGreatDoor
open Go.RowKit

theorem specRem (n : Int) (w : World) :
    Calls Tryz.prog 43 #[.int .i64 n] w fun e w' => e = .returned (.bool (remB n)) ∧ w' = w := by
  by_cases h1 : 0 ≤ n
  · by_cases h2 : n < 1073741789
    · have e : remB n = true := decide_eq_true ⟨h1, h2⟩
      rw [e]
      go_enter Tryz.func43, Tryz.ntmps43
      go_wp2
      go_ret
      exact ⟨rfl, rfl⟩
    · have e : remB n = false := decide_eq_false (by omega)
      rw [e]
      go_enter Tryz.func43, Tryz.ntmps43
      go_wp2
      go_ret
      exact ⟨rfl, rfl⟩
  · have e : remB n = false := decide_eq_false (by omega)
    rw [e]
    go_enter Tryz.func43, Tryz.ntmps43
    go_wp2
    go_ret
    exact ⟨rfl, rfl⟩
set_option maxHeartbeats 1000000 in
set_option maxRecDepth 100000 in
theorem specSigRight (k e s : Int) (w : World) :
    Calls Tryz.prog 19 #[.agg #[.int .i64 k, .int .i64 e, .int .i64 s]] w fun r w' => r = .returned (.bool (sigRB k e s)) ∧ Below w.heap.size w w' := by
  go_enter Tryz.func19, Tryz.ntmps19
  go_wp2_with fail
  refine (specGroupRight k _).mono ?_
  rintro e1 w1 ⟨rfl, rfl⟩
  by_cases h1 : rightG k = true
  · rw [h1]
    go_wp2_with fail
    refine (specRem e _).mono ?_
    rintro e2 w2 ⟨rfl, rfl⟩
    by_cases h2 : remB e = true
    · rw [h2]
      go_wp2_with fail
      refine (specRem s _).mono ?_
      rintro e3 w3 ⟨rfl, rfl⟩
      generalize hb3 : remB s = b
      go_wp2
      go_ret
      exact ⟨by simp [sigRB, *], allocBelow _ _⟩
    · rw [Bool.not_eq_true] at h2
      rw [h2]
      go_wp2
      go_ret
      exact ⟨by simp [sigRB, *], allocBelow _ _⟩
  · rw [Bool.not_eq_true] at h1
    rw [h1]
    go_wp2
    go_ret
    exact ⟨by simp [sigRB, *], allocBelow _ _⟩
end Go.Proofs.YtkbmeenojclcmaaGreatDoor
namespace Go.Proofs.YtkbmeenojclcmaaGreatDoor
open Go.RowKit

set_option maxHeartbeats 2000000 in
set_option maxRecDepth 100000 in
theorem specCert (c : Paper) (a : Option Addr) (cap : Nat) (w : World) (hi : c.issuer.size ≤ maxLen) (hs : c.subject.size ≤ maxLen) (hl : c.names.length ≤ 1048576) (ht : totS c.names c.names.length ≤ 1048576) (ha : IsStrs w a c.names) :
    Calls Tryz.prog 17 #[c.val (.slice a c.names.length cap)] w fun e w' => e = .returned (.bool (certB c)) ∧ Below w.heap.size w w' := by
  have HP : Hid (∀ V, IsStrs V a c.names → Calls Tryz.prog 40 #[c.val (.slice a c.names.length cap)] V fun e w' => e = .returned (.bool (paperB c)) ∧ Below V.heap.size V w') := fun V hV => specPaper c a cap V hi hs hl ht hV
  obtain ⟨R, hR⟩ : ∃ R, R = certB c := ⟨_, rfl⟩
  rw [← hR]
  obtain ⟨P, hP⟩ : ∃ P, P = paperB c := ⟨_, rfl⟩
  rw [← hP] at HP
  have HR : Hid (R = (P && sigRB c.sk c.se c.ss)) := by show _ = _; rw [hR, hP]; rfl
  clear hR hP
  obtain ⟨ser, iss, sub, fr, till, key, names, ca, sk, se, ss⟩ := c
  simp only at hi hs hl ht ha HP HR
  unfold Paper.val at HP ⊢
  simp only at HP ⊢
  generalize names.length = nl at *
  obtain ⟨w1, hw1⟩ : ∃ w1, w1 = w.alloc (.cells #[.int .i64 ser, .string iss, .string sub, .int .i64 fr, .int .i64 till, .int .i64 key, .slice a nl cap, .bool ca, .int .i64 sk, .int .i64 se, .int .i64 ss] 35 (0, 0)) := ⟨_, rfl⟩
  have hrow : w1.heap[w.heap.size]? = some (.cells [Value.int .i64 ser, .string iss, .string sub, .int .i64 fr, .int .i64 till, .int .i64 key, .slice a nl cap, .bool ca, .int .i64 sk, .int .i64 se, .int .i64 ss].toArray 35 (0, 0)) := by rw [hw1]; exact heap_alloc_new w _
  have B1 : Hid (Below w.heap.size w w1) := by rw [hw1]; exact (Below.refl _ _).alloc (Nat.le_refl _) _
  have A1 : Hid (IsStrs w1 a names) := ha.keep B1.out
  have c0 := rowFacts hrow 0 _ rfl
  have c1 := rowFacts hrow 1 _ rfl
  have c2 := rowFacts hrow 2 _ rfl
  have c3 := rowFacts hrow 3 _ rfl
  have c4 := rowFacts hrow 4 _ rfl
  have c5 := rowFacts hrow 5 _ rfl
  have c6 := rowFacts hrow 6 _ rfl
  have c7 := rowFacts hrow 7 _ rfl
  have c8 := rowFacts hrow 8 _ rfl
  have c9 := rowFacts hrow 9 _ rfl
  have c10 := rowFacts hrow 10 _ rfl
  have HRow : Hid (w1.heap[w.heap.size]? = some (.cells [Value.int .i64 ser, .string iss, .string sub, .int .i64 fr, .int .i64 till, .int .i64 key, .slice a nl cap, .bool ca, .int .i64 sk, .int .i64 se, .int .i64 ss].toArray 35 (0, 0))) := hrow
  clear hrow ha hl ht hi hs
  go_enter Tryz.func17, Tryz.ntmps17
  go_upto_region 1 with fail
  rw [← hw1]
  clear hw1
  go_wp2_with fail
  refine (HP.out _ A1.out).mono ?_
  rintro e w2 ⟨rfl, b2⟩
  have B2 : Hid (Below w.heap.size w w2) := B1.out.trans (b2.mono B1.out.size)
  have d8 := (b2.cell (p := ⟨w.heap.size, 8, none⟩) (heap_lt HRow.out)).trans c8
  have d9 := (b2.cell (p := ⟨w.heap.size, 9, none⟩) (heap_lt HRow.out)).trans c9
  have d10 := (b2.cell (p := ⟨w.heap.size, 10, none⟩) (heap_lt HRow.out)).trans c10
  clear b2 c0 c1 c2 c3 c4 c5 c6 c7 c8 c9 c10 HP A1 HRow
  cases P with
  | false =>
    have HF : Hid (R = false) := HR.out
    go_wp2
    go_ret
    exact ⟨by rw [HF.out]; rfl, B2.out⟩
  | true =>
  have HF : Hid (R = sigRB sk se ss) := HR.out
  go_wp2_with fail
  refine (specSigRight sk se ss _).mono ?_
  rintro e w4 ⟨rfl, b4⟩
  rw [← HF.out]
  have B4 : Hid (Below w.heap.size w w4) := B2.out.trans (b4.mono B2.out.size)
  clear b4
  go_wp2
  go_ret
  exact ⟨rfl, B4.out⟩
end Go.Proofs.YtkbmeenojclcmaaGreatDoor
namespace Go.Proofs.YtkbmeenojclcmaaGreatDoor
open Go.RowKit

theorem own_sliceW {w : World} {B e n : Nat} {v : Value} {xs : List Value} (h : w.ownsRow B e 1 v n xs) (hn : 0 < n) : ∃ g cap, v = .slice (some ⟨g, 0, none⟩) n cap := by
  rcases h.2 with ⟨_, h'⟩ | ⟨g, cap, _, h', _⟩
  · omega
  · exact ⟨g, cap, h'⟩
def sLenW : Value → Nat
  | .slice _ n _ => n
  | _ => 0
set_option maxHeartbeats 1000000 in
set_option maxRecDepth 100000 in
theorem specSeven (x : Nat) (w : World) (hx : x < 9223372036854775808) :
    Calls Tryz.prog 102 #[.int .i64 (x : Int)] w fun e w' => e = .returned (.string (strOfNums (sevL x))) ∧ Below w.heap.size w w' := by
  obtain ⟨i0, hi, hz0, hz1, hz2⟩ := info_parts infoByte
  go_enter Tryz.func102, Tryz.ntmps102
  go_wp2_with fail
  go_loopw [0, 3] (fun n b wr => ∃ (y f g c : Nat) (tl : List Int), y < 128 ^ f ∧ y < 9223372036854775808 ∧ f + tl.length ≤ 9 ∧ n = .int .i64 (y : Int) ∧ b = .slice (some ⟨g, 0, none⟩) (tl.length + 1) c ∧
      wr.ownsRow w.heap.size 5 1 (.slice (some ⟨g, 0, none⟩) (tl.length + 1) c) (tl.length + 1) ((tl ++ [((x % 128 : Nat) : Int)]).map (Value.int .u8)) ∧ Below w.heap.size w wr ∧ w.heap.size ≤ wr.heap.size ∧ sevH f y ++ (tl ++ [((x % 128 : Nat) : Int)]) = sevL x)
    (fun _ b _ => 20 - sLenW b)
  case atStart =>
    refine ⟨x / 128, 9, _, 1, [], by rw [p9]; omega, by omega, by simp, by simp, rfl, ?_, (Below.refl _ _).alloc (Nat.le_refl _) _, by simp, by simp [sevL]⟩
    have := World.ownsRow_lit (base := w.heap.size) (e := 5) (size := 1) w #[.int .u8 ((x : Int) % 128)] 1 (Nat.le_refl _) (by decide) rfl
    simpa using this
  case round =>
    obtain ⟨y, f, g, c, tl, hf, hy, hlen, rfl, rfl, hown, hbel, hsz, heq⟩ := hrel
    have HE : Hid (sevH f y ++ (tl ++ [((x % 128 : Nat) : Int)]) = sevL x) := heq
    have HF : Hid (y < 128 ^ f) := hf
    generalize hz : ((x % 128 : Nat) : Int) = z at *
    clear heq hf
    by_cases h0 : y = 0
    · have HS : Hid (sevL x = tl ++ [z]) := by
        show _ = _
        rw [← HE.out, h0, sevH_zero]; rfl
      have hcv := run_convert_own (P := Tryz.prog) (src := 94) (dst := 9) Tryz.underlying94 Tryz.underlying5 Tryz.underlying9 hown
      clear hown HE HF
      subst h0
      go_wp2
      go_ret
      exact ⟨by rw [HS.out]; rfl, hbel⟩
    · have HN : Hid (y ≠ 0) := h0
      have hp : 0 < y := by omega
      have HSRC : Hid (∀ j u, ((tl ++ [z]).map (Value.int .u8))[j]? = some u → wr.cell? ⟨g, j, none⟩ = some u) := fun j u hj => by
        rw [hown.cellAt j (by
          rcases Nat.lt_or_ge j (tl.length + 1) with h | h
          · omega
          · rw [List.getElem?_eq_none (by simpa using h)] at hj; cases hj)]
        exact hj
      clear h0
      have hlt := (hown.lt g rfl).2
      go_wp2_with (at_builtin; refine wpList_append_own _ rfl _ _ 94 rfl w.heap.size 5 i0 (.int .u8 0) 1 1 Tryz.underlying94 hi hz0 hz1 hz2 rfl (by decide) _ 1 _ rfl (World.ownsRow_lit _ _ 1 hsz (by decide) rfl) ⟨g, 0, none⟩ (tl.length + 1) c ((tl ++ [z]).map (Value.int .u8)) rfl (by simp) ?c1 ?c2 ?c3 ?c4 ?c5 ?_)
      case c1 =>
        intro j u hj
        rw [Addr.add_lit, Nat.zero_add, World.cell?_alloc_lt _ _ ⟨g, j, none⟩ hlt]
        exact HSRC.out j u hj
      case c2 => intro u hu; exact oneCell_ints .u8 _ u hu
      case c3 => unfold maxLen; omega
      case c4 => omega
      case c5 => simp; omega
      intro v' w1 hown' hgrow hx'
      obtain ⟨g', cap, rfl⟩ := own_sliceW hown' (by omega)
      have hb1 : Below w.heap.size w w1 := (hbel.alloc hsz _).grown hgrow (by simp; omega) (fun k hk => (World.ownsRow_lit (base := w.heap.size) (e := 5) (size := 1) wr #[.int .u8 0] 1 hsz (by decide) rfl).lt k hk |>.1)
      have hs1 : w.heap.size ≤ w1.heap.size := hb1.size
      have HO : Hid (w1.ownsRow w.heap.size 5 1 (.slice (some ⟨g', 0, none⟩) ((((y % 128 + 128 : Nat) : Int) :: tl).length + 1) cap) ((((y % 128 + 128 : Nat) : Int) :: tl).length + 1) (((((y % 128 + 128 : Nat) : Int) :: tl) ++ [z]).map (Value.int .u8))) := by
        show World.ownsRow _ _ _ _ _ _ _
        have e1 : 1 + (tl.length + 1) = (((y % 128 + 128 : Nat) : Int) :: tl).length + 1 := by simp; omega
        rw [e1] at hown'
        have e2 : (128 : Int) + (y : Int) % 128 = (y : Int) % 128 + 128 := by omega
        simpa [e2] using hown'
      have hw : 1 + (tl.length + 1) = (((y % 128 + 128 : Nat) : Int) :: tl).length + 1 := by simp; omega
      rw [hw]
      clear hown' hgrow hx' hown hbel hlt HSRC hz
      go_wp2
      go_roundw
      case rel =>
        obtain ⟨f', rfl, hf', he⟩ := sevH_more HN.out HF.out
        refine ⟨y / 128, f', g', cap, ((y % 128 + 128 : Nat) : Int) :: tl, hf', by omega, by simp; omega, by simp, rfl, HO.out, hb1, hs1, ?_⟩
        rw [← HE.out, he]; simp
      case measure => simp [sLenW]; omega
end Go.Proofs.YtkbmeenojclcmaaGreatDoor
namespace Go.Proofs.YtkbmeenojclcmaaGreatDoor
open Go.RowKit

theorem arcs_nat {zs : List Int} (h : arcsB zs = true) (i : Nat) (h2 : 2 ≤ i) (hi : i < zs.length) : ∃ x : Nat, zs.getD i 0 = (x : Int) ∧ x ≤ 2147483647 := by
  have := (arcsB_iff.1 h).2.2.2.2.2.2 i h2 hi
  exact ⟨(zs.getD i 0).toNat, by omega, by omega⟩
set_option maxHeartbeats 1000000 in
set_option maxRecDepth 100000 in
theorem specOid (a : Option Addr) (zs : List Int) (c : Nat) (w : World) (hr : arcsB zs = true) (ha : IsInts w a zs) :
    Calls Tryz.prog 83 #[.slice a zs.length c] w fun e w' => e = .returned (.string (thingD 6 (strOfNums (oidL zs)))) ∧ Below w.heap.size w w' := by
  obtain ⟨r2, r10, r0, r0', r1, r1', _⟩ := arcsB_iff.1 hr
  have hm2 : most2 (zs.getD 0 0) ≤ 100 := by unfold most2; split <;> omega
  have hlt := ha.lt
  obtain ⟨b, o, rfl, hc⟩ := ha.at (by intro h; rw [h] at r2; simp at r2)
  have hbw : b < w.heap.size := by
    rcases hlt with h | h
    · rw [h] at r2; simp at r2
    · exact h _ rfl
  have c0 := hc 0 (by omega)
  have c1 := hc 1 (by omega)
  rw [Nat.add_zero] at c0
  have HI : Hid (∀ W, Below w.heap.size w W → ∀ i, i < zs.length → W.cell? ⟨b, o + i, none⟩ = some (.int .i64 (zs.getD i 0))) := fun W hW i hi => by
    rw [hW.cell (p := ⟨b, o + i, none⟩) hbw]; exact hc i hi
  obtain ⟨y, hy⟩ : ∃ y : Nat, y = (40 * zs.getD 0 0 + zs.getD 1 0).toNat := ⟨_, rfl⟩
  have H0 : Hid (oidTo zs 0 = sevL y) := by rw [hy]; rfl
  have hyi : 40 * zs.getD 0 0 + zs.getD 1 0 = (y : Int) := by omega
  have hy2 : y ≤ 180 := by omega
  obtain ⟨n, hn⟩ : ∃ n, n = zs.length := ⟨_, rfl⟩
  have HL : Hid (oidL zs = oidTo zs (n - 2)) := by rw [hn]; rfl
  have HLen : Hid (∀ k, k + 2 ≤ n → (strOfNums (oidTo zs k)).size ≤ 45) := fun k hk => by
    rw [strOfNums_size]
    have := oidTo_len hr k (by omega)
    omega
  have HN : Hid (∀ i, 2 ≤ i → i < n → ∃ x : Nat, zs.getD i 0 = (x : Int) ∧ x ≤ 2147483647) := fun i h1 h2 => arcs_nat hr i h1 (by omega)
  rw [← hn] at HI r2 r10 ⊢
  generalize zs.getD 0 0 = x0 at *
  generalize zs.getD 1 0 = x1 at *
  clear hc ha hr hlt hn hy
  go_enter Tryz.func83, Tryz.ntmps83
  go_wp2_with fail
  have ew1 : IntKind.i64.wrap (40 * x0) = 40 * x0 := by rw [IntKind.wrap_i64]; omega
  have ew2 : IntKind.i64.wrap (y : Int) = (y : Int) := by rw [IntKind.wrap_i64]; omega
  have i0 : (0 : Int) < (n : Int) := by omega
  have i1 : (1 : Int) < (n : Int) := by omega
  have j0 : 0 < n := by omega
  have j1 : 1 < n := by omega
  have HT : Hid (∀ V : World, Hid (Below w.heap.size w V) → Calls Tryz.prog 102 #[.int .i64 (y : Int)] V fun e W => e = .returned (.string (strOfNums (sevL y))) ∧ Hid (Below w.heap.size w W) ∧ W.cell? ⟨b, o, none⟩ = some (.int .i64 x0) ∧ W.cell? ⟨b, o + 1, none⟩ = some (.int .i64 x1)) := fun V hV => by
    refine (specSeven y V (by omega)).mono ?_
    rintro e W ⟨rfl, hW⟩
    have hB := hV.out.trans (hW.mono hV.out.size)
    exact ⟨rfl, hB, by rw [hB.cell (p := ⟨b, o, none⟩) hbw]; exact c0, by rw [hB.cell (p := ⟨b, o + 1, none⟩) hbw]; exact c1⟩
  have HD : Hid (Below w.heap.size w w.drew) := (Below.refl _ w).drew
  go_region_held3 (fun V => V.cell? ⟨b, o, none⟩ = some (.int .i64 x0) ∧ V.cell? ⟨b, o + 1, none⟩ = some (.int .i64 x1)) (first | exact ⟨k0, k1⟩ | go_keep)
    (first | (go_at_call 102; refine (HT.out _ (by assumption)).mono ?_; rintro r w1 ⟨rfl, kk, k0, k1⟩))
  have hb1 := kk.out
  clear kk HD HT k0 k1 ew1 ew2 i0 i1 j0 j1 c0 c1
  go_wp2_with fail
  go_loopw [3, 4] (fun t i wr => ∃ k : Nat, k + 2 ≤ n ∧ t = .string (strOfNums (oidTo zs k)) ∧ i = .int .i64 ((k : Int) + 2) ∧ Below w.heap.size w wr ∧ w.heap.size ≤ wr.heap.size)
    (fun _ i _ => n - (intOf i).toNat)
  case atStart => exact ⟨0, by omega, by rw [H0.out], rfl, hb1, hb1.size⟩
  case round =>
    obtain ⟨k, hk, rfl, rfl, hbr, hsr⟩ := hrel
    have hls := HLen.out k hk
    by_cases hlt : k + 2 < n
    · have ck := HI.out wr hbr (k + 2) hlt
      obtain ⟨x, hx, hxm⟩ := HN.out (k + 2) (by omega) hlt
      rw [hx] at ck
      have HS : Hid (strOfNums (oidTo zs (k + 1)) = strOfNums (oidTo zs k) ++ strOfNums (sevL x)) := by
        show _ = _
        rw [oidTo, strOfNums_append, hx]; rfl
      have hls2 := HLen.out (k + 1) (by omega)
      have hsz : (strOfNums (oidTo zs k) ++ strOfNums (sevL x)).size ≤ 45 := by rw [← HS.out]; exact hls2
      have HSv : Hid (∀ V : World, Calls Tryz.prog 102 #[.int .i64 (x : Int)] V fun e w' => e = .returned (.string (strOfNums (sevL x))) ∧ Below V.heap.size V w') := fun V => specSeven x V (by omega)
      have hsx : (strOfNums (sevL x)).size ≤ 45 := by rw [ByteArray.size_append] at hsz; omega
      generalize strOfNums (oidTo zs k) = t at *
      generalize strOfNums (sevL x) = u at *
      go_wp2_with fail
      refine (HSv.out _).mono ?_
      rintro e w2 ⟨rfl, hb2⟩
      have HB2 : Hid (Below w.heap.size w w2) := hbr.trans (hb2.mono hsr)
      clear hb2 hbr ck
      go_wp2_with fail
      go_roundw
      case rel => exact ⟨k + 1, by omega, by rw [HS.out], by go_num, HB2.out, HB2.out.size⟩
      case measure => simp [intOf]; omega
    · obtain rfl : n = k + 2 := by omega
      have HL2 : Hid (∀ V : World, Calls Tryz.prog 57 #[.int .i64 6, .string (strOfNums (oidTo zs k))] V fun e w' => e = .returned (.string (thingD 6 (strOfNums (oidL zs)))) ∧ Below V.heap.size V w') := fun V => by
        have h := specThing 6 (strOfNums (oidTo zs k)) V (by decide) (by decide) (by omega)
        rw [HL.out, show k + 2 - 2 = k from by omega]
        exact h
      generalize strOfNums (oidTo zs k) = t at *
      go_wp2_with fail
      refine (HL2.out _).mono ?_
      rintro e w2 ⟨rfl, hb2⟩
      go_wp2_with fail
      go_ret
      exact ⟨rfl, hbr.trans (hb2.mono hsr)⟩
end Go.Proofs.YtkbmeenojclcmaaGreatDoor
