/- impl.isTime, NameRight, walked. impl.isSerial, walked. impl.isTime, impl.namesRight, walked. impl.rightButSig, walked. impl.isRemainder, impl.SigRight, walked. impl.rightButSig, impl.CertRight, walked. A row of the three numbers of a Sig. impl.putNumbers, putNames, moreArcs, (moreParts).layNames, layCa, walked. impl.(moreParts).layNames, layCa, walked. impl.putMore, walked. -/
import Derived.Test.YtkhdjmjbdpmdnaaGreatDoorCT03
import Derived.Test.YtkhdjmjbdpmdnaaGreatDoorCT27
import Derived.WalkLawsBesides
import Derived.Deep.Cut
import Derived.Test.YtkhdjmjbdpmdnaaGreatDoorCT02
import Derived.Test.YtkhdjmjbdpmdnaaGreatDoorCT01
import Derived.Test.YtkhdjmjbdpmdnaaGreatDoorCT14
import Derived.Test.YtkhdjmjbdpmdnaaGreatDoorCT05
import Derived.Deep.RegionHeld3
import Derived.Test.YtkhdjmjbdpmdnaaGreatDoorCT23
namespace Go.Proofs.YtkhdjmjbdpmdnaaGreatDoor
open Go.RowKit

theorem implTime (n : Int) (w : World) :
    Calls Tryz.prog 114 #[.int .i64 n] w fun e w' => e = .returned (.bool (timeB n)) ∧ w' = w := by
  by_cases h0 : 0 ≤ n
  · by_cases h1 : n ≤ 1000000000
    · have HF : Hid (timeB n = true) := by show _ = _; simp [timeB, h0, h1]
      go_enter Tryz.func114, Tryz.ntmps114
      go_wp2
      go_ret
      exact ⟨by rw [HF.out]; rfl, rfl⟩
    · have HF : Hid (timeB n = false) := by show _ = _; simp [timeB, h1]
      go_enter Tryz.func114, Tryz.ntmps114
      go_wp2
      go_ret
      exact ⟨by rw [HF.out]; rfl, rfl⟩
  · have HF : Hid (timeB n = false) := by show _ = _; simp [timeB, h0]
    go_enter Tryz.func114, Tryz.ntmps114
    go_wp2
    go_ret
    exact ⟨by rw [HF.out]; rfl, rfl⟩
theorem implNameB (s : ByteArray) (w : World) (hs : s.size ≤ maxLen) :
    Calls Tryz.prog 113 #[.string s] w fun e w' => e = .returned (.bool (nameB s)) ∧ w' = w :=
  (implName s w hs).mono fun _ _ h => ⟨ans_name h.1, h.2⟩
end Go.Proofs.YtkhdjmjbdpmdnaaGreatDoor
namespace Go.Proofs.YtkhdjmjbdpmdnaaGreatDoor
open Go.RowKit

theorem implSerial (n : Int) (w : World) :
    Calls Tryz.prog 112 #[.int .i64 n] w fun e w' => e = .returned (.bool (serB n)) ∧ w' = w := by
  by_cases h0 : 1 ≤ n
  · by_cases h1 : n ≤ 1000000000
    · have HF : Hid (serB n = true) := by show _ = _; simp [serB, h0, h1]
      go_enter Tryz.func112, Tryz.ntmps112
      go_wp2
      go_ret
      exact ⟨by rw [HF.out]; rfl, rfl⟩
    · have HF : Hid (serB n = false) := by show _ = _; simp [serB, h1]
      go_enter Tryz.func112, Tryz.ntmps112
      go_wp2
      go_ret
      exact ⟨by rw [HF.out]; rfl, rfl⟩
  · have HF : Hid (serB n = false) := by show _ = _; simp [serB, h0]
    go_enter Tryz.func112, Tryz.ntmps112
    go_wp2
    go_ret
    exact ⟨by rw [HF.out]; rfl, rfl⟩
end Go.Proofs.YtkhdjmjbdpmdnaaGreatDoor
namespace Go.Proofs.YtkhdjmjbdpmdnaaGreatDoor
open Go.RowKit

set_option maxHeartbeats 1000000 in
set_option maxRecDepth 100000 in
theorem implNames (a : Option Addr) (ss : List ByteArray) (c : Nat) (w : World) (hl : ss.length ≤ 1048576) (hs : totS ss ss.length ≤ 1048576) (ha : IsStrs w a ss) :
    Calls Tryz.prog 116 #[.slice a ss.length c] w fun e w' => e = .returned (.bool (namesB ss)) ∧ Below w.heap.size w w' := by
  have HSz : Hid (∀ k, k < ss.length → (tAt ss k).size ≤ 1048576) := fun k hk => Nat.le_trans (totS_at ss hk) hs
  clear hs
  by_cases h5 : 5 < ss.length
  · have HF : Hid (namesB ss = false) := by show _ = _; rw [namesB, decide_eq_false (by omega)]; simp
    go_enter Tryz.func116, Tryz.ntmps116
    go_wp2
    go_ret
    exact ⟨by rw [HF.out]; rfl, Below.refl _ _⟩
  go_enter Tryz.func116, Tryz.ntmps116
  go_wp2
  go_loopw [10] (fun i wr => ∃ k : Nat, k ≤ ss.length ∧ i = .int .i64 k ∧ okTo ss k = true ∧ Below w.heap.size w wr) (fun i _ => ss.length - (intOf i).toNat)
  case atStart => exact ⟨0, Nat.zero_le _, rfl, rfl, Below.refl _ _⟩
  case round =>
    obtain ⟨k, hk, rfl, hok, hbr⟩ := hrel
    have HOk : Hid (okTo ss k = true) := hok
    have HB : Hid (Below w.heap.size w wr) := hbr
    clear hok
    by_cases hlt : k < ss.length
    · obtain ⟨x, o, rfl, hc⟩ : ∃ x o, a = some ⟨x, o, none⟩ ∧ ∀ i, i < ss.length → wr.cell? ⟨x, o + i, none⟩ = some (.string (tAt ss i)) := by
        rcases ha.below hbr ha.lt with rfl | h
        · simp at hlt
        · exact h
      have hck := hc k hlt
      have hz := HSz.out k hlt
      have HNm : Hid (∀ V : World, Calls Tryz.prog 113 #[.string (tAt ss k)] V fun e w' => e = .returned (.bool (nameB (tAt ss k))) ∧ w' = V) := fun V => implNameB _ V (by unfold maxLen; omega)
      clear hz
      have a0 : (0 : Int) ≤ (k : Int) := by omega
      have b0 : (k : Int) < (ss.length : Int) := by omega
      cases hn : nameB (tAt ss k) with
      | false =>
        have HF : Hid (namesB ss = false) := by show _ = _; rw [namesB, okTo_no (okN_not hn) hlt]; rfl
        rw [hn] at HNm
        generalize tAt ss k = z at *
        generalize ss.length = n at *
        clear hc ha hbr hn HSz
        go_wp2_with fail
        refine (HNm.out _).mono ?_
        rintro e w2 ⟨rfl, rfl⟩
        go_wp2
        go_ret
        exact ⟨by rw [HF.out]; rfl, HB.out⟩
      | true =>
        rw [hn] at HNm
        by_cases h0 : k = 0
        · subst h0
          have HF : Hid (okN ss 0 = true) := okN_zero hn
          rw [Nat.add_zero] at hck
          generalize tAt ss 0 = z at *
          generalize ss.length = n at *
          clear hc ha hbr hn HSz
          go_wp2_with fail
          refine (HNm.out _).mono ?_
          rintro e w2 ⟨rfl, rfl⟩
          go_wp2
          go_roundw
          case rel => exact ⟨1, by omega, by go_num, okTo_yes HOk.out HF.out, HB.out⟩
          case measure => simp [intOf]; omega
        · have hck1 := hc (k - 1) (by omega)
          have ek : ((k : Int) - 1) = ((k - 1 : Nat) : Int) := by omega
          have ew : IntKind.i64.wrap ((k : Int) - 1) = ((k - 1 : Nat) : Int) := by rw [IntKind.wrap_i64]; omega
          have a1 : (0 : Int) < (k : Int) := by omega
          have b1 : ((k - 1 : Nat) : Int) < (ss.length : Int) := by omega
          have hbl := okN_more (ss := ss) (k := k) (by omega) hn
          cases hr : Op.bytesLess (tAt ss (k - 1)).toList (tAt ss k).toList with
          | false =>
            have HF : Hid (namesB ss = false) := by show _ = _; rw [namesB, okTo_no (hbl.trans hr) hlt]; rfl
            generalize tAt ss k = z at *
            generalize tAt ss (k - 1) = y at *
            generalize k - 1 = k1 at *
            generalize ss.length = n at *
            clear hc ha hbr hn HSz hbl
            go_wp2_with fail
            refine (HNm.out _).mono ?_
            rintro e w2 ⟨rfl, rfl⟩
            go_wp2
            go_ret
            exact ⟨by rw [HF.out]; rfl, HB.out⟩
          | true =>
            have HF : Hid (okN ss k = true) := hbl.trans hr
            generalize tAt ss k = z at *
            generalize tAt ss (k - 1) = y at *
            generalize k - 1 = k1 at *
            generalize ss.length = n at *
            clear hc ha hbr hn HSz hbl
            go_wp2_with fail
            refine (HNm.out _).mono ?_
            rintro e w2 ⟨rfl, rfl⟩
            go_wp2
            go_roundw
            case rel => exact ⟨k + 1, by omega, by go_num, okTo_yes HOk.out HF.out, HB.out⟩
            case measure => simp [intOf]; omega
    · obtain rfl : k = ss.length := by omega
      have HF : Hid (namesB ss = true) := by show _ = _; rw [namesB, HOk.out, decide_eq_true (by omega)]; rfl
      clear ha hbr
      go_wp2
      go_ret
      exact ⟨by rw [HF.out]; rfl, HB.out⟩
end Go.Proofs.YtkhdjmjbdpmdnaaGreatDoor
namespace Go.Proofs.YtkhdjmjbdpmdnaaGreatDoor
open Go.RowKit

set_option maxHeartbeats 2000000 in
set_option maxRecDepth 100000 in
theorem implPaper (c : Paper) (a : Option Addr) (cap : Nat) (w : World) (hi : c.issuer.size ≤ maxLen) (hs : c.subject.size ≤ maxLen) (hl : c.names.length ≤ 1048576) (ht : totS c.names c.names.length ≤ 1048576) (ha : IsStrs w a c.names) :
    Calls Tryz.prog 47 #[c.val (.slice a c.names.length cap)] w fun e w' => e = .returned (.bool (paperB c)) ∧ Below w.heap.size w w' := by
  obtain ⟨ser, iss, sub, fr, till, key, names, ca, sk, se, ss⟩ := c
  simp only at hi hs hl ht ha
  unfold Paper.val
  simp only
  obtain ⟨R, hR⟩ : ∃ R, R = paperB ⟨ser, iss, sub, fr, till, key, names, ca, sk, se, ss⟩ := ⟨_, rfl⟩
  rw [← hR]
  have HR : Hid (R = (decide (1 ≤ ser) && decide (ser ≤ 1000000000) && nameB iss && nameB sub && timeB fr && timeB till && decide (fr ≤ till) && rightG key && namesB names)) := hR
  clear hR
  obtain ⟨w1, hw1⟩ : ∃ w1, w1 = w.alloc (.cells #[.int .i64 ser, .string iss, .string sub, .int .i64 fr, .int .i64 till, .int .i64 key, .slice a names.length cap, .bool ca, .int .i64 sk, .int .i64 se, .int .i64 ss] 27 (0, 0)) := ⟨_, rfl⟩
  have hrow : w1.heap[w.heap.size]? = some (.cells [Value.int .i64 ser, .string iss, .string sub, .int .i64 fr, .int .i64 till, .int .i64 key, .slice a names.length cap, .bool ca, .int .i64 sk, .int .i64 se, .int .i64 ss].toArray 27 (0, 0)) := by rw [hw1]; exact heap_alloc_new w _
  have B1 : Hid (Below w.heap.size w w1) := by rw [hw1]; exact (Below.refl _ _).alloc (Nat.le_refl _) _
  have A1 : Hid (IsStrs w1 a names) := ha.keep B1.out
  have c0 := rowFacts hrow 0 _ rfl
  have c1 := rowFacts hrow 1 _ rfl
  have c2 := rowFacts hrow 2 _ rfl
  have c3 := rowFacts hrow 3 _ rfl
  have c4 := rowFacts hrow 4 _ rfl
  have c5 := rowFacts hrow 5 _ rfl
  have c6 := rowFacts hrow 6 _ rfl
  have HNm : Hid (∀ V, IsStrs V a names → Calls Tryz.prog 116 #[.slice a names.length cap] V fun e w' => e = .returned (.bool (namesB names)) ∧ Below V.heap.size V w') := fun V hV => implNames a names cap V hl ht hV
  have HRow : Hid (w1.heap[w.heap.size]? = some (.cells [Value.int .i64 ser, .string iss, .string sub, .int .i64 fr, .int .i64 till, .int .i64 key, .slice a names.length cap, .bool ca, .int .i64 sk, .int .i64 se, .int .i64 ss].toArray 27 (0, 0))) := hrow
  generalize names.length = nl at *
  clear hrow ha hl ht
  go_enter Tryz.func47, Tryz.ntmps47
  go_upto_region 1 with fail
  rw [← hw1]
  clear hw1
  go_wp2_with fail
  refine (implSerial ser _).mono ?_
  rintro e w2 ⟨rfl, rfl⟩
  cases h1 : serB ser with
  | false =>
    have HF : Hid (R = false) := by show _ = _; rw [HR.out]; unfold serB at h1; rw [h1]; rfl
    go_wp2
    go_ret
    exact ⟨by rw [HF.out]; rfl, B1.out⟩
  | true =>
  unfold serB at h1
  rw [h1] at HR
  clear h1
  go_wp2_with fail
  refine (implNameB iss _ hi).mono ?_
  rintro e w2 ⟨rfl, rfl⟩
  cases h3 : nameB iss with
  | false =>
    have HF : Hid (R = false) := by show _ = _; rw [HR.out]; simp [h3]
    go_wp2
    go_ret
    exact ⟨by rw [HF.out]; rfl, B1.out⟩
  | true =>
  rw [h3] at HR
  go_wp2_with fail
  refine (implNameB sub _ hs).mono ?_
  rintro e w2 ⟨rfl, rfl⟩
  cases h4 : nameB sub with
  | false =>
    have HF : Hid (R = false) := by show _ = _; rw [HR.out]; simp [h4]
    go_wp2
    go_ret
    exact ⟨by rw [HF.out]; rfl, B1.out⟩
  | true =>
  rw [h4] at HR
  go_wp2_with fail
  refine (implTime fr _).mono ?_
  rintro e w2 ⟨rfl, rfl⟩
  cases h5 : timeB fr with
  | false =>
    have HF : Hid (R = false) := by show _ = _; rw [HR.out]; simp [h5]
    go_wp2
    go_ret
    exact ⟨by rw [HF.out]; rfl, B1.out⟩
  | true =>
  rw [h5] at HR
  go_wp2_with fail
  refine (implTime till _).mono ?_
  rintro e w2 ⟨rfl, rfl⟩
  cases h6 : timeB till with
  | false =>
    have HF : Hid (R = false) := by show _ = _; rw [HR.out]; simp [h6]
    go_wp2
    go_ret
    exact ⟨by rw [HF.out]; rfl, B1.out⟩
  | true =>
  rw [h6] at HR
  by_cases h7 : fr ≤ till
  rotate_left
  · have h7' : till < fr := by omega
    have HF : Hid (R = false) := by show _ = _; rw [HR.out]; simp [h7]
    go_wp2
    go_ret
    exact ⟨by rw [HF.out]; rfl, B1.out⟩
  rw [decide_eq_true h7] at HR
  go_wp2_with fail
  refine (implGroupRight key _).mono ?_
  rintro e w3 ⟨rfl, b3⟩
  have B3 : Hid (Below w.heap.size w w3) := B1.out.trans (b3.mono B1.out.size)
  have A3 : Hid (IsStrs w3 a names) := A1.out.keep b3
  have d6 := (b3.cell (p := ⟨w.heap.size, 6, none⟩) (heap_lt HRow.out)).trans c6
  clear b3
  cases h8 : rightG key with
  | false =>
    have HF : Hid (R = false) := by show _ = _; rw [HR.out]; simp [h8]
    go_wp2
    go_ret
    exact ⟨by rw [HF.out]; rfl, B3.out⟩
  | true =>
  rw [h8] at HR
  have HF : Hid (R = namesB names) := by show _ = _; rw [HR.out]; simp
  go_wp2_with fail
  refine (HNm.out _ A3.out).mono ?_
  rintro e w4 ⟨rfl, b4⟩
  rw [← HF.out]
  have B4 : Hid (Below w.heap.size w w4) := B3.out.trans (b4.mono B3.out.size)
  clear b4
  go_wp2
  go_ret
  exact ⟨rfl, B4.out⟩
end Go.Proofs.YtkhdjmjbdpmdnaaGreatDoor
namespace Go.Proofs.YtkhdjmjbdpmdnaaGreatDoor
open Go.RowKit

theorem implRem (n : Int) (w : World) :
    Calls Tryz.prog 141 #[.int .i64 n] w fun e w' => e = .returned (.bool (remB n)) ∧ w' = w := by
  by_cases h1 : 0 ≤ n
  · by_cases h2 : n < 1073741789
    · have e : remB n = true := decide_eq_true ⟨h1, h2⟩
      rw [e]
      go_enter Tryz.func141, Tryz.ntmps141
      go_wp2
      go_ret
      exact ⟨rfl, rfl⟩
    · have e : remB n = false := decide_eq_false (by omega)
      rw [e]
      go_enter Tryz.func141, Tryz.ntmps141
      go_wp2
      go_ret
      exact ⟨rfl, rfl⟩
  · have e : remB n = false := decide_eq_false (by omega)
    rw [e]
    go_enter Tryz.func141, Tryz.ntmps141
    go_wp2
    go_ret
    exact ⟨rfl, rfl⟩
set_option maxHeartbeats 1000000 in
set_option maxRecDepth 100000 in
theorem implSigRight (k e s : Int) (w : World) :
    Calls Tryz.prog 65 #[.agg #[.int .i64 k, .int .i64 e, .int .i64 s]] w fun r w' => r = .returned (.bool (sigRB k e s)) ∧ Below w.heap.size w w' := by
  go_enter Tryz.func65, Tryz.ntmps65
  go_wp2_with fail
  refine (implGroupRight k _).mono ?_
  rintro e1 w1 ⟨rfl, hb1⟩
  have HB : Hid (Below w.heap.size w w1) := ((Below.refl _ w).alloc (Nat.le_refl _) _).trans (hb1.mono (by simp))
  have c1 : w1.cell? ⟨w.heap.size, 1, none⟩ = some (.int .i64 e) := by rw [hb1.cell (p := ⟨w.heap.size, 1, none⟩) (by simp)]; simp
  have c2 : w1.cell? ⟨w.heap.size, 2, none⟩ = some (.int .i64 s) := by rw [hb1.cell (p := ⟨w.heap.size, 2, none⟩) (by simp)]; simp
  clear hb1
  by_cases h1 : rightG k = true
  · rw [h1]
    go_wp2_with fail
    refine (implRem e _).mono ?_
    rintro e2 w2 ⟨rfl, rfl⟩
    by_cases h2 : remB e = true
    · rw [h2]
      go_wp2_with fail
      refine (implRem s _).mono ?_
      rintro e3 w3 ⟨rfl, rfl⟩
      generalize hb3 : remB s = b
      go_wp2
      go_ret
      exact ⟨by simp [sigRB, *], HB.out⟩
    · rw [Bool.not_eq_true] at h2
      rw [h2]
      go_wp2
      go_ret
      exact ⟨by simp [sigRB, *], HB.out⟩
  · rw [Bool.not_eq_true] at h1
    rw [h1]
    go_wp2
    go_ret
    exact ⟨by simp [sigRB, *], HB.out⟩
end Go.Proofs.YtkhdjmjbdpmdnaaGreatDoor
namespace Go.Proofs.YtkhdjmjbdpmdnaaGreatDoor
open Go.RowKit

set_option maxHeartbeats 2000000 in
set_option maxRecDepth 100000 in
theorem implCert (c : Paper) (a : Option Addr) (cap : Nat) (w : World) (hi : c.issuer.size ≤ maxLen) (hs : c.subject.size ≤ maxLen) (hl : c.names.length ≤ 1048576) (ht : totS c.names c.names.length ≤ 1048576) (ha : IsStrs w a c.names) :
    Calls Tryz.prog 13 #[c.val (.slice a c.names.length cap)] w fun e w' => e = .returned (.bool (certB c)) ∧ Below w.heap.size w w' := by
  have HP : Hid (∀ V, IsStrs V a c.names → Calls Tryz.prog 47 #[c.val (.slice a c.names.length cap)] V fun e w' => e = .returned (.bool (paperB c)) ∧ Below V.heap.size V w') := fun V hV => implPaper c a cap V hi hs hl ht hV
  obtain ⟨R, hR⟩ : ∃ R, R = certB c := ⟨_, rfl⟩
  rw [← hR]
  obtain ⟨P, hP⟩ : ∃ P, P = paperB c := ⟨_, rfl⟩
  rw [← hP] at HP
  have HR : Hid (R = (P && sigRB c.sk c.se c.ss)) := by show _ = _; rw [hR, hP]; rfl
  clear hR hP
  obtain ⟨ser, iss, sub, fr, till, key, names, ca, sk, se, ss⟩ := c
  simp only at hi hs hl ht ha HP HR
  unfold Paper.val at HP ⊢
  simp only at HP ⊢
  generalize names.length = nl at *
  obtain ⟨w1, hw1⟩ : ∃ w1, w1 = w.alloc (.cells #[.int .i64 ser, .string iss, .string sub, .int .i64 fr, .int .i64 till, .int .i64 key, .slice a nl cap, .bool ca, .int .i64 sk, .int .i64 se, .int .i64 ss] 27 (0, 0)) := ⟨_, rfl⟩
  have hrow : w1.heap[w.heap.size]? = some (.cells [Value.int .i64 ser, .string iss, .string sub, .int .i64 fr, .int .i64 till, .int .i64 key, .slice a nl cap, .bool ca, .int .i64 sk, .int .i64 se, .int .i64 ss].toArray 27 (0, 0)) := by rw [hw1]; exact heap_alloc_new w _
  have B1 : Hid (Below w.heap.size w w1) := by rw [hw1]; exact (Below.refl _ _).alloc (Nat.le_refl _) _
  have A1 : Hid (IsStrs w1 a names) := ha.keep B1.out
  have c0 := rowFacts hrow 0 _ rfl
  have c1 := rowFacts hrow 1 _ rfl
  have c2 := rowFacts hrow 2 _ rfl
  have c3 := rowFacts hrow 3 _ rfl
  have c4 := rowFacts hrow 4 _ rfl
  have c5 := rowFacts hrow 5 _ rfl
  have c6 := rowFacts hrow 6 _ rfl
  have c7 := rowFacts hrow 7 _ rfl
  have c8 := rowFacts hrow 8 _ rfl
  have c9 := rowFacts hrow 9 _ rfl
  have c10 := rowFacts hrow 10 _ rfl
  have HRow : Hid (w1.heap[w.heap.size]? = some (.cells [Value.int .i64 ser, .string iss, .string sub, .int .i64 fr, .int .i64 till, .int .i64 key, .slice a nl cap, .bool ca, .int .i64 sk, .int .i64 se, .int .i64 ss].toArray 27 (0, 0))) := hrow
  clear hrow ha hl ht hi hs
  go_enter Tryz.func13, Tryz.ntmps13
  go_upto_region 1 with fail
  rw [← hw1]
  clear hw1
  go_wp2_with fail
  refine (HP.out _ A1.out).mono ?_
  rintro e w2 ⟨rfl, b2⟩
  have B2 : Hid (Below w.heap.size w w2) := B1.out.trans (b2.mono B1.out.size)
  have d8 := (b2.cell (p := ⟨w.heap.size, 8, none⟩) (heap_lt HRow.out)).trans c8
  have d9 := (b2.cell (p := ⟨w.heap.size, 9, none⟩) (heap_lt HRow.out)).trans c9
  have d10 := (b2.cell (p := ⟨w.heap.size, 10, none⟩) (heap_lt HRow.out)).trans c10
  clear b2 c0 c1 c2 c3 c4 c5 c6 c7 c8 c9 c10 HP A1 HRow
  cases P with
  | false =>
    have HF : Hid (R = false) := HR.out
    go_wp2
    go_ret
    exact ⟨by rw [HF.out]; rfl, B2.out⟩
  | true =>
  have HF : Hid (R = sigRB sk se ss) := HR.out
  go_wp2_with fail
  refine (implSigRight sk se ss _).mono ?_
  rintro e w4 ⟨rfl, b4⟩
  rw [← HF.out]
  have B4 : Hid (Below w.heap.size w w4) := B2.out.trans (b4.mono B2.out.size)
  clear b4
  go_wp2
  go_ret
  exact ⟨rfl, B4.out⟩
end Go.Proofs.YtkhdjmjbdpmdnaaGreatDoor
namespace Go.Proofs.YtkhdjmjbdpmdnaaGreatDoor
open Go.RowKit

/-- A row of the three numbers of a Sig stands in block b. -/
def Row3 (x y z : Int) (V : World) (b : Nat) : Prop := V.heap[b]? = some (.cells #[.int .i64 x, .int .i64 y, .int .i64 z] 2 (0, 0))
theorem Row3.keep {x y z : Int} {V W : World} {b : Nat} (h : Row3 x y z V b) (hb : Below V.heap.size V W) : Row3 x y z W b := (hb.block b (heap_lt h)).trans h
theorem Row3.al {x y z : Int} {V : World} {b : Nat} {o : Obj} (h : Row3 x y z V b) : Row3 x y z (V.alloc o) b := by
  unfold Row3
  rw [Below.heap_alloc _ _ _ (heap_lt h)]
  exact h
theorem alKeep {V : World} {g : Nat} {o r : Obj} (h : V.heap[g]? = some r) : (V.alloc o).heap[g]? = some r := by
  rw [Below.heap_alloc _ _ _ (heap_lt h)]
  exact h
end Go.Proofs.YtkhdjmjbdpmdnaaGreatDoor
namespace Go.Proofs.YtkhdjmjbdpmdnaaGreatDoor
open Go.RowKit

set_option maxHeartbeats 1000000 in
set_option maxRecDepth 100000 in
theorem implHosts (a : Option Addr) (ss : List ByteArray) (c : Nat) (w : World) (hl : ss.length ≤ 5) (hs : ∀ i, i < ss.length → (tAt ss i).size ≤ 40) (ha : IsStrs w a ss) :
    Calls Tryz.prog 184 #[.slice a ss.length c] w fun e w' => e = .returned (.string (seqD (hostsD ss ss.length))) ∧ Below w.heap.size w w' := by
  have HS : Hid (∀ i, i < ss.length → (tAt ss i).size ≤ 40) := hs
  have HL : Hid (∀ k, k ≤ ss.length → (hostsD ss k).size ≤ 44 * k) := fun k hk => hostsD_le k (fun i hi => hs i (by omega))
  clear hs
  go_enter Tryz.func184, Tryz.ntmps184
  go_wp2
  go_loopw [3, 8] (fun t i wr => ∃ k : Nat, k ≤ ss.length ∧ i = .int .i64 k ∧ t = .string (hostsD ss k) ∧ Below w.heap.size w wr) (fun _ i _ => ss.length - (intOf i).toNat)
  case atStart => exact ⟨0, Nat.zero_le _, rfl, rfl, Below.refl _ _⟩
  case round =>
    obtain ⟨k, hk, rfl, rfl, hbr⟩ := hrel
    have HB : Hid (Below w.heap.size w wr) := hbr
    by_cases hlt : k < ss.length
    · obtain ⟨x, o, rfl, hc⟩ : ∃ x o, a = some ⟨x, o, none⟩ ∧ ∀ i, i < ss.length → wr.cell? ⟨x, o + i, none⟩ = some (.string (tAt ss i)) := by
        rcases ha.below hbr ha.lt with rfl | h
        · simp at hlt
        · exact h
      have hck := hc k hlt
      have hz := HS.out k hlt
      have z0 := HL.out k (by omega)
      have z1 := thingD_le 130 (tAt ss k)
      have HP : Hid (∀ V, Calls Tryz.prog 124 #[.int .i64 130, .string (tAt ss k)] V fun e w' => e = .returned (.string (thingD 130 (tAt ss k))) ∧ Below V.heap.size V w') := fun V => by
        have := implDerPut 130 (tAt ss k) V (by unfold maxLen; omega)
        rw [putD_right (by decide) (by omega)] at this
        exact this
      have HJ : Hid (∀ V, Calls Tryz.prog 122 #[.string (hostsD ss k), .string (thingD 130 (tAt ss k))] V fun e w' => e = .returned (.string (hostsD ss (k + 1))) ∧ Below V.heap.size V w') := fun V => joinTexts _ _ V (by omega) (by omega)
      have a0 : (0 : Int) ≤ (k : Int) := by omega
      have b0 : (k : Int) < (ss.length : Int) := by omega
      have HR : Hid (∃ j : Nat, j ≤ ss.length ∧ Value.int .i64 ((k : Int) + 1) = .int .i64 (j : Int) ∧ Value.string (hostsD ss (k + 1)) = .string (hostsD ss j)) := ⟨k + 1, by omega, by congr 1, rfl⟩
      generalize hostsD ss (k + 1) = h1 at *
      generalize thingD 130 (tAt ss k) = h2 at *
      generalize tAt ss k = z at *
      clear hc ha hbr HS HL z0 z1 hz
      go_wp2_with fail
      refine (HP.out _).mono ?_
      rintro e w2 ⟨rfl, b2⟩
      have B2 : Hid (Below w.heap.size w w2) := HB.out.trans (b2.mono HB.out.size)
      clear b2
      go_wp2_with fail
      refine (HJ.out _).mono ?_
      rintro e w3 ⟨rfl, b3⟩
      have B3 : Hid (Below w.heap.size w w3) := B2.out.trans (b3.mono B2.out.size)
      clear b3
      go_wp2_with fail
      go_roundw
      case rel =>
        obtain ⟨j, j1, j2, j3⟩ := HR.out
        exact ⟨j, j1, by first | exact j2 | (rw [← j2]; simp; omega), j3, B3.out⟩
      case measure => simp [intOf]; omega
    · obtain rfl : k = ss.length := by omega
      have z0 := HL.out ss.length (Nat.le_refl _)
      have HP : Hid (∀ V (g : Nat), V.heap[g]? = some (.cells #[.string (hostsD ss ss.length)] 9 (0, 0)) → Calls Tryz.prog 50 #[.slice (some ⟨g, 0, none⟩) 1 1] V fun e w' => e = .returned (.string (seqD (hostsD ss ss.length))) ∧ Below V.heap.size V w') := fun V g hg => implSeq1 _ g V (by omega) hg
      clear ha hbr HS HL
      go_wp2_with fail
      refine (HP.out _ _ (heap_alloc_new wr _)).mono ?_
      rintro e w2 ⟨rfl, b2⟩
      have B2 : Hid (Below w.heap.size w w2) := (HB.out.alloc HB.out.size _).trans (b2.mono (by have := HB.out.size; simp; omega))
      clear b2
      go_wp2
      go_ret
      exact ⟨rfl, B2.out⟩
end Go.Proofs.YtkhdjmjbdpmdnaaGreatDoor
namespace Go.Proofs.YtkhdjmjbdpmdnaaGreatDoor
open Go.RowKit

set_option maxHeartbeats 4000000 in
set_option maxRecDepth 100000 in
theorem implLayNames (a : Option Addr) (names : List ByteArray) (cap : Nat) (ca : Bool) (w : World) (hl : names.length ≤ 5) (hs : ∀ i, i < names.length → (tAt names i).size ≤ 40) (ha : IsStrs w a names) :
    Calls Tryz.prog 139 #[.agg #[.slice a names.length cap, .bool ca]] w fun e w' => e = .returned (.string (namesD names)) ∧ Below w.heap.size w w' := by
  by_cases hn : names.length = 0
  · have HF : Hid (namesD names = ⟨#[]⟩) := if_pos hn
    rw [hn]
    go_enter Tryz.func139, Tryz.ntmps139
    go_wp2
    go_ret
    exact ⟨by rw [HF.out]; rfl, (Below.refl _ w).alloc (Nat.le_refl _) _⟩
  have hF : namesD names = seqD (oidT [2, 5, 29, 17] ++ thingD 4 (seqD (hostsD names names.length))) := if_neg hn
  have HHo : Hid (∀ V, IsStrs V a names → Calls Tryz.prog 184 #[.slice a names.length cap] V fun e w' => e = .returned (.string (seqD (hostsD names names.length))) ∧ Below V.heap.size V w') := fun V hV => implHosts a names cap V hl hs hV
  have zH := hostsD_le (ss := names) names.length hs
  have y1 := arcs_lit arcs17
  have y2 := thingD_le 4 (seqD (hostsD names names.length))
  have y3 := seqD_le (hostsD names names.length)
  obtain ⟨w1, hw1⟩ : ∃ w1, w1 = w.alloc (.cells #[.slice a names.length cap, .bool ca] 79 (0, 0)) := ⟨_, rfl⟩
  have r0 : w1.heap[w.heap.size]? = some (.cells [Value.slice a names.length cap, .bool ca].toArray 79 (0, 0)) := by rw [hw1]; exact heap_alloc_new w _
  have B1 : Hid (Below w.heap.size w w1) := by rw [hw1]; exact (Below.refl _ _).alloc (Nat.le_refl _) _
  have z1 : w.heap.size < w1.heap.size := by rw [hw1]; simp
  have HK : Hid (∀ V, Below w1.heap.size w1 V → V.cell? ⟨w.heap.size, 0, none⟩ = some (.slice a names.length cap)) := fun V hV => rowFacts ((hV.block _ z1).trans r0) 0 _ rfl
  have HA : Hid (∀ V, Below w1.heap.size w1 V → IsStrs V a names) := fun V hV => (ha.keep B1.out).keep hV
  have HB : Hid (∀ V, Below w1.heap.size w1 V → Below w.heap.size w V) := fun V hV => B1.out.trans (hV.mono B1.out.size)
  have PA : Hid (∀ V, Hid (Below w1.heap.size w1 V) → Calls Tryz.prog 183 #[.int .i64 17] V fun e W => e = .returned (.slice (some ⟨V.heap.size, 0, none⟩) 4 4) ∧ Hid (W.heap[V.heap.size]? = some (.cells #[.int .i64 2, .int .i64 5, .int .i64 29, .int .i64 17] 2 (0, 0))) ∧ Hid (Below w1.heap.size w1 W)) := fun V hV => by
    refine (implArcs 17 V).mono ?_
    rintro e W ⟨rfl, hr, hW⟩
    exact ⟨rfl, hr, hV.out.trans (hW.mono hV.out.size)⟩
  have PO : Hid (∀ V (g : Nat), Hid (Below w1.heap.size w1 V) → Hid (V.heap[g]? = some (.cells #[.int .i64 2, .int .i64 5, .int .i64 29, .int .i64 17] 2 (0, 0))) → Calls Tryz.prog 121 #[.slice (some ⟨g, 0, none⟩) 4 4] V fun e W => e = .returned (.string (oidT [2, 5, 29, 17])) ∧ Hid (Below w1.heap.size w1 W)) := fun V g hV hg => (implOid4 2 5 29 17 g V arcs17 hg.out).mono fun e W h => ⟨h.1, hV.out.trans (h.2.mono hV.out.size)⟩
  have PH : Hid (∀ V, Hid (Below w1.heap.size w1 V) → Calls Tryz.prog 184 #[.slice a names.length cap] V fun e W => e = .returned (.string (seqD (hostsD names names.length))) ∧ Hid (Below w1.heap.size w1 W)) := fun V hV => (HHo.out V (HA.out V hV.out)).mono fun e W h => ⟨h.1, hV.out.trans (h.2.mono hV.out.size)⟩
  have PP : Hid (∀ V (g : Nat), Hid (Below w1.heap.size w1 V) → V.heap[g]? = some (.cells #[.string (seqD (hostsD names names.length))] 9 (0, 0)) → Calls Tryz.prog 61 #[.int .i64 4, .slice (some ⟨g, 0, none⟩) 1 1] V fun e W => e = .returned (.string (thingD 4 (seqD (hostsD names names.length)))) ∧ Hid (Below w1.heap.size w1 W)) := fun V g hV hg => (implParts1 4 _ g V (by decide) (by omega) hg).mono fun e W h => ⟨h.1, hV.out.trans (h.2.mono hV.out.size)⟩
  have PS : Hid (∀ V (g : Nat), Hid (Below w1.heap.size w1 V) → V.heap[g]? = some (.cells #[.string (oidT [2, 5, 29, 17]), .string (thingD 4 (seqD (hostsD names names.length)))] 9 (0, 0)) → Calls Tryz.prog 50 #[.slice (some ⟨g, 0, none⟩) 2 2] V fun e W => e = .returned (.string (namesD names)) ∧ Hid (Below w1.heap.size w1 W)) := fun V g hV hg => by
    rw [hF]
    refine (implSeq2 _ _ g V (by omega) hg).mono ?_
    rintro e W ⟨rfl, hW⟩
    exact ⟨rfl, hV.out.trans (hW.mono hV.out.size)⟩
  have AL : Hid (∀ V o, Hid (Below w1.heap.size w1 V) → Hid (Below w1.heap.size w1 (V.alloc o))) := fun V o h => h.out.alloc h.out.size o
  have I1 : Hid (Below w1.heap.size w1 w1) := Below.refl _ _
  have D1 : Hid (Below w1.heap.size w1 w1.drew) := I1.out.drew
  have hni : (names.length : Int) ≠ 0 := by omega
  have hnb : ((names.length : Int) == 0) = false := by rw [beq_eq_false_iff_ne]; exact hni
  clear r0 ha z1 B1 HHo zH y1 y2 y3 hs hF
  generalize namesD names = N at *
  generalize thingD 4 (seqD (hostsD names names.length)) = q3 at *
  generalize seqD (hostsD names names.length) = q2 at *
  generalize oidT [2, 5, 29, 17] = q1 at *
  generalize names.length = nl at *
  have c0 := HK.out w1 I1.out
  go_enter Tryz.func139, Tryz.ntmps139
  go_upto_region 1 with fail
  rw [← hw1]
  clear hw1
  go_wp2_with fail
  go_region_held3 (fun V => V.cell? ⟨w.heap.size, 0, none⟩ = some (.slice a nl cap)) (first | assumption | exact HK.out _ (Hid.out (by assumption)) | go_keep)
    (first
      | (go_at_call 183; refine (PA.out _ (by assumption)).mono ?_; rintro r V1 ⟨rfl, kr, k1⟩)
      | (go_at_call 121; refine (PO.out _ _ (by assumption) (by assumption)).mono ?_; rintro r V2 ⟨rfl, k2⟩)
      | (go_at_call 184; refine (PH.out _ (by assumption)).mono ?_; rintro r V3 ⟨rfl, k3⟩)
      | (go_at_call 61; refine (PP.out _ _ (AL.out _ _ (by assumption)) (heap_alloc_new _ _)).mono ?_; rintro r V4 ⟨rfl, k4⟩)
      | (go_at_call 50; refine (PS.out _ _ (AL.out _ _ (by assumption)) (heap_alloc_new _ _)).mono ?_; rintro r V5 ⟨rfl, k5⟩))
  go_wp2
  go_ret
  exact ⟨rfl, HB.out _ k5.out⟩
set_option maxHeartbeats 4000000 in
set_option maxRecDepth 100000 in
theorem implLayCa (v : Value) (ca : Bool) (w : World) :
    Calls Tryz.prog 140 #[.agg #[v, .bool ca]] w fun e w' => e = .returned (.string (caD ca)) ∧ Below w.heap.size w w' := by
  cases ca with
  | false =>
    go_enter Tryz.func140, Tryz.ntmps140
    go_wp2
    go_ret
    exact ⟨rfl, (Below.refl _ w).alloc (Nat.le_refl _) _⟩
  | true =>
    have hF : caD true = caT := rfl
    rw [hF]
    have x1 := arcs_lit arcs19
    have x2 := soD_le
    have x3 := seqD_le soD
    have x4 := thingD_le 4 (seqD soD)
    obtain ⟨w1, hw1⟩ : ∃ w1, w1 = w.alloc (.cells #[v, .bool true] 79 (0, 0)) := ⟨_, rfl⟩
    have B1 : Hid (Below w.heap.size w w1) := by rw [hw1]; exact (Below.refl _ _).alloc (Nat.le_refl _) _
    have r0 : w1.heap[w.heap.size]? = some (.cells [v, Value.bool true].toArray 79 (0, 0)) := by rw [hw1]; exact heap_alloc_new w _
    have c1 := rowFacts r0 1 _ rfl
    have HB : Hid (∀ V, Below w1.heap.size w1 V → Below w.heap.size w V) := fun V hV => B1.out.trans (hV.mono B1.out.size)
    have P0 : Hid (∀ V, Hid (Below w1.heap.size w1 V) → Calls Tryz.prog 124 #[.int .i64 1, .string ⟨#[255]⟩] V fun e W => e = .returned (.string (soD)) ∧ Hid (Below w1.heap.size w1 W)) := fun V hV => by
      have h := implDerPut 1 ⟨#[255]⟩ V (by show 1 ≤ maxLen; decide)
      rw [putD_right (by decide) (by show 1 ≤ 4000; omega)] at h
      refine h.mono ?_
      rintro e W ⟨rfl, hW⟩
      exact ⟨rfl, hV.out.trans (hW.mono hV.out.size)⟩
    have PA : Hid (∀ V, Hid (Below w1.heap.size w1 V) → Calls Tryz.prog 183 #[.int .i64 19] V fun e W => e = .returned (.slice (some ⟨V.heap.size, 0, none⟩) 4 4) ∧ Hid (W.heap[V.heap.size]? = some (.cells #[.int .i64 2, .int .i64 5, .int .i64 29, .int .i64 19] 2 (0, 0))) ∧ Hid (Below w1.heap.size w1 W)) := fun V hV => by
      refine (implArcs 19 V).mono ?_
      rintro e W ⟨rfl, hr, hW⟩
      exact ⟨rfl, hr, hV.out.trans (hW.mono hV.out.size)⟩
    have PO : Hid (∀ V (g : Nat), Hid (Below w1.heap.size w1 V) → Hid (V.heap[g]? = some (.cells #[.int .i64 2, .int .i64 5, .int .i64 29, .int .i64 19] 2 (0, 0))) → Calls Tryz.prog 121 #[.slice (some ⟨g, 0, none⟩) 4 4] V fun e W => e = .returned (.string (oidT [2, 5, 29, 19])) ∧ Hid (Below w1.heap.size w1 W)) := fun V g hV hg => (implOid4 2 5 29 19 g V arcs19 hg.out).mono fun e W h => ⟨h.1, hV.out.trans (h.2.mono hV.out.size)⟩
    have P1 : Hid (∀ V (g : Nat), Hid (Below w1.heap.size w1 V) → V.heap[g]? = some (.cells #[.string soD] 9 (0, 0)) → Calls Tryz.prog 50 #[.slice (some ⟨g, 0, none⟩) 1 1] V fun e W => e = .returned (.string (seqD soD)) ∧ Hid (Below w1.heap.size w1 W)) := fun V g hV hg => (implSeq1 _ g V (by omega) hg).mono fun e W h => ⟨h.1, hV.out.trans (h.2.mono hV.out.size)⟩
    have P2 : Hid (∀ V (g : Nat), Hid (Below w1.heap.size w1 V) → V.heap[g]? = some (.cells #[.string (seqD soD)] 9 (0, 0)) → Calls Tryz.prog 61 #[.int .i64 4, .slice (some ⟨g, 0, none⟩) 1 1] V fun e W => e = .returned (.string (thingD 4 (seqD soD))) ∧ Hid (Below w1.heap.size w1 W)) := fun V g hV hg => (implParts1 4 _ g V (by decide) (by omega) hg).mono fun e W h => ⟨h.1, hV.out.trans (h.2.mono hV.out.size)⟩
    have P3 : Hid (∀ V (g : Nat), Hid (Below w1.heap.size w1 V) → V.heap[g]? = some (.cells #[.string (oidT [2, 5, 29, 19]), .string soD, .string (thingD 4 (seqD soD))] 9 (0, 0)) → Calls Tryz.prog 50 #[.slice (some ⟨g, 0, none⟩) 3 3] V fun e W => e = .returned (.string (caT)) ∧ Hid (Below w1.heap.size w1 W)) := fun V g hV hg => (implSeq3 _ _ _ g V (by omega) hg).mono fun e W h => ⟨h.1, hV.out.trans (h.2.mono hV.out.size)⟩
    have AL : Hid (∀ V o, Hid (Below w1.heap.size w1 V) → Hid (Below w1.heap.size w1 (V.alloc o))) := fun V o h => h.out.alloc h.out.size o
    have I1 : Hid (Below w1.heap.size w1 w1) := Below.refl _ _
    clear x1 x2 x3 x4 r0 B1 hF
    generalize caT = q5 at *
    generalize thingD 4 (seqD soD) = q4 at *
    generalize seqD soD = q3 at *
    generalize soD = q2 at *
    generalize oidT [2, 5, 29, 19] = q1 at *
    go_enter Tryz.func140, Tryz.ntmps140
    go_upto_region 1 with fail
    rw [← hw1]
    clear hw1
    go_wp2_with fail
    refine (P0.out _ I1).mono ?_
    rintro e V1 ⟨rfl, k1⟩
    go_wp2_with fail
    refine (PA.out _ k1).mono ?_
    rintro e V2 ⟨rfl, kr, k2⟩
    go_wp2_with fail
    refine (PO.out _ _ k2 kr).mono ?_
    rintro e V3 ⟨rfl, k3⟩
    go_wp2_with fail
    refine (P1.out _ _ (AL.out _ _ k3) (heap_alloc_new V3 _)).mono ?_
    rintro e V4 ⟨rfl, k4⟩
    go_wp2_with fail
    refine (P2.out _ _ (AL.out _ _ k4) (heap_alloc_new V4 _)).mono ?_
    rintro e V5 ⟨rfl, k5⟩
    go_wp2_with fail
    refine (P3.out _ _ (AL.out _ _ k5) (heap_alloc_new V5 _)).mono ?_
    rintro e V6 ⟨rfl, k6⟩
    go_wp2
    go_ret
    exact ⟨rfl, HB.out _ k6.out⟩
end Go.Proofs.YtkhdjmjbdpmdnaaGreatDoor
namespace Go.Proofs.YtkhdjmjbdpmdnaaGreatDoor
open Go.RowKit

set_option maxHeartbeats 4000000 in
set_option maxRecDepth 100000 in
theorem implMore (a : Option Addr) (names : List ByteArray) (cap : Nat) (ca : Bool) (w : World) (hl : names.length ≤ 5) (hs : ∀ i, i < names.length → (tAt names i).size ≤ 40) (ha : IsStrs w a names) :
    Calls Tryz.prog 64 #[.agg #[.slice a names.length cap, .bool ca]] w fun e w' => e = .returned (.string (moreD names ca)) ∧ Below w.heap.size w w' := by
  have zN := namesD_le hl hs
  have zC := caD_le ca
  have HLn : Hid (∀ V, IsStrs V a names → Calls Tryz.prog 139 #[.agg #[.slice a names.length cap, .bool ca]] V fun e w' => e = .returned (.string (namesD names)) ∧ Below V.heap.size V w') := fun V hV => implLayNames a names cap ca V hl hs hV
  have HLc : Hid (∀ V, Calls Tryz.prog 140 #[.agg #[.slice a names.length cap, .bool ca]] V fun e w' => e = .returned (.string (caD ca)) ∧ Below V.heap.size V w') := fun V => implLayCa _ ca V
  have HJ1 : Hid (∀ V, Calls Tryz.prog 122 #[.string ⟨#[]⟩, .string (namesD names)] V fun e w' => e = .returned (.string (namesD names)) ∧ Below V.heap.size V w') := fun V => by
    have h := joinTexts ⟨#[]⟩ (namesD names) V (by show 0 ≤ _; omega) (by omega)
    have e : (⟨#[]⟩ : ByteArray) ++ namesD names = namesD names := ByteArray.empty_append
    rw [e] at h
    exact h
  have HJ2 : Hid (∀ V, Calls Tryz.prog 122 #[.string (namesD names), .string (caD ca)] V fun e w' => e = .returned (.string (namesD names ++ caD ca)) ∧ Below V.heap.size V w') := fun V => joinTexts _ _ V (by omega) (by omega)
  have zT : (namesD names ++ caD ca).size ≤ 370 := by rw [ByteArray.size_append]; omega
  obtain ⟨M, hM⟩ : ∃ M, M = moreD names ca := ⟨_, rfl⟩
  rw [← hM]
  have HM : Hid (M = moreT (namesD names ++ caD ca)) := hM
  clear hM zN zC hl hs
  generalize namesD names ++ caD ca = T at *
  generalize namesD names = N at *
  generalize caD ca = C at *
  generalize names.length = nl at *
  have TR : Hid (∀ V W, Hid (Below w.heap.size w V) → Below V.heap.size V W → Hid (Below w.heap.size w W)) := fun V W h k => h.out.trans (k.mono h.out.size)
  have HA : Hid (∀ V, Below w.heap.size w V → IsStrs V a names) := fun V hV => ha.keep hV
  clear ha
  go_enter Tryz.func64, Tryz.ntmps64
  go_wp2_with fail
  refine wp_loop_rounds 3 ?_
  rw [rounds_succ]
  go_wp2_with fail
  refine (HLn.out _ (HA.out _ (((Below.refl _ w).alloc (Nat.le_refl _) _).alloc (by simp) _))).mono ?_
  rintro e V1 ⟨rfl, b1⟩
  have f1 := b1.cell (p := ⟨w.heap.size + 1, 1, none⟩) (by simp)
  have g0 := b1.cell (p := ⟨w.heap.size, 0, none⟩) (by simp; omega)
  have g1 := b1.cell (p := ⟨w.heap.size, 1, none⟩) (by simp; omega)
  have z1 := b1.size
  simp at f1 g0 g1 z1
  have K1 : Hid (Below w.heap.size w V1) := (((Below.refl _ w).alloc (Nat.le_refl _) _).alloc (by simp) _).trans (b1.mono (by simp; omega))
  clear b1
  go_wp2_with fail
  refine (HJ1.out _).mono ?_
  rintro e V2 ⟨rfl, b2⟩
  have K2 := TR.out _ _ K1 b2
  have f2 := (b2.cell (p := ⟨w.heap.size + 1, 1, none⟩) (show w.heap.size + 1 < V1.heap.size by omega)).trans f1
  have h0 := (b2.cell (p := ⟨w.heap.size, 0, none⟩) (show w.heap.size < V1.heap.size by omega)).trans g0
  have h1 := (b2.cell (p := ⟨w.heap.size, 1, none⟩) (show w.heap.size < V1.heap.size by omega)).trans g1
  clear b2 f1 g0 g1 K1 z1 HJ1 HLn
  go_wp2_with fail
  rw [rounds_succ]
  go_wp2_with fail
  refine (HLc.out _).mono ?_
  rintro e V3 ⟨rfl, b3⟩
  have K3 := TR.out _ _ K2 b3
  clear b3 f2 h0 h1 K2 HLc
  go_wp2_with fail
  refine (HJ2.out _).mono ?_
  rintro e V4 ⟨rfl, b4⟩
  have K4 := TR.out _ _ K3 b4
  clear b4 K3 HJ2
  go_wp2_with fail
  rw [rounds_succ]
  by_cases ht : T.size = 0
  · have HF : Hid (M = ⟨#[]⟩) := by show _ = _; rw [HM.out, moreT, if_pos ht]
    have he := isEmpty_of ht
    go_wp2
    go_ret
    exact ⟨by rw [HF.out]; rfl, K4.out⟩
  · have hF : M = thingD 163 (seqD T) := by rw [HM.out, moreT, if_neg ht]
    have he := isEmpty_not ht
    have x1 := seqD_le T
    have P1 : Hid (∀ V (g : Nat), V.heap[g]? = some (.cells #[.string T] 9 (0, 0)) → Calls Tryz.prog 50 #[.slice (some ⟨g, 0, none⟩) 1 1] V fun e w' => e = .returned (.string (seqD T)) ∧ Below V.heap.size V w') := fun V g hg => implSeq1 _ g V (by omega) hg
    have P2 : Hid (∀ V (g : Nat), V.heap[g]? = some (.cells #[.string (seqD T)] 9 (0, 0)) → Calls Tryz.prog 61 #[.int .i64 163, .slice (some ⟨g, 0, none⟩) 1 1] V fun e w' => e = .returned (.string M) ∧ Below V.heap.size V w') := fun V g hg => by rw [hF]; exact implParts1 163 _ g V (by decide) (by omega) hg
    clear hF x1 HM
    generalize seqD T = q at *
    have AL : Hid (∀ V o, Hid (Below w.heap.size w V) → Hid (Below w.heap.size w (V.alloc o))) := fun V o h => h.out.alloc h.out.size o
    go_wp2_with fail
    refine (P1.out _ _ (heap_alloc_new V4 _)).mono ?_
    rintro e V5 ⟨rfl, b5⟩
    have K5 := TR.out _ _ (AL.out _ _ K4) b5
    clear b5
    go_wp2_with fail
    refine (P2.out _ _ (heap_alloc_new V5 _)).mono ?_
    rintro e V6 ⟨rfl, b6⟩
    have K6 := TR.out _ _ (AL.out _ _ K5) b6
    clear b6
    go_wp2
    go_ret
    exact ⟨rfl, K6.out⟩
end Go.Proofs.YtkhdjmjbdpmdnaaGreatDoor
