/- spec.l06Right, spec.CertRight, walked. FnExactNameRight, walks: 'impl.NameRight' answers true just where the text is a right name; the law. impl.isTime, isSerial, NameRight, walked. impl.isTime, impl.namesRight, walked. impl.rightButSig, walked. impl.isRemainder, impl.SigRight, walked. impl.rightButSig, impl.CertRight, walked. laws.szStringS, walked. What laws.szStringS leaves, in words. laws.szCert, walked. laws.toStringS, walked. A Sig in memory. laws.toSig, walked. -/
import Derived.Test.YtfhihhkdbdidnaaPRt02
import Derived.Deep.Cut
import Derived.Test.YtfhihhkdbdidnaaPRt01
import Derived.WalkLawsBesides
import Derived.Handy
namespace Go.Proofs.Ytfhihhkdbdidnaa
open Go.RowKit

set_option maxHeartbeats 2000000 in
set_option maxRecDepth 100000 in
theorem specCert (c : Paper) (a : Option Addr) (cap : Nat) (w : World) (hi : c.issuer.size ≤ maxLen) (hs : c.subject.size ≤ maxLen) (hl : c.names.length ≤ 1048576) (ht : totS c.names c.names.length ≤ 1048576) (ha : IsStrs w a c.names) :
    Calls Try.prog 7 #[c.val (.slice a c.names.length cap)] w fun e w' => e = .returned (.bool (certB c)) ∧ Below w.heap.size w w' := by
  have HP : Hid (∀ V, IsStrs V a c.names → Calls Try.prog 16 #[c.val (.slice a c.names.length cap)] V fun e w' => e = .returned (.bool (paperB c)) ∧ Below V.heap.size V w') := fun V hV => specPaper c a cap V hi hs hl ht hV
  obtain ⟨R, hR⟩ : ∃ R, R = certB c := ⟨_, rfl⟩
  rw [← hR]
  obtain ⟨P, hP⟩ : ∃ P, P = paperB c := ⟨_, rfl⟩
  rw [← hP] at HP
  have HR : Hid (R = (P && sigRB c.sk c.se c.ss)) := by show _ = _; rw [hR, hP]; rfl
  clear hR hP
  obtain ⟨ser, iss, sub, fr, till, key, names, ca, sk, se, ss⟩ := c
  simp only at hi hs hl ht ha HP HR
  unfold Paper.val at HP ⊢
  simp only at HP ⊢
  generalize names.length = nl at *
  obtain ⟨w1, hw1⟩ : ∃ w1, w1 = w.alloc (.cells #[.int .i64 ser, .string iss, .string sub, .int .i64 fr, .int .i64 till, .int .i64 key, .slice a nl cap, .bool ca, .int .i64 sk, .int .i64 se, .int .i64 ss] 31 (0, 0)) := ⟨_, rfl⟩
  have hrow : w1.heap[w.heap.size]? = some (.cells [Value.int .i64 ser, .string iss, .string sub, .int .i64 fr, .int .i64 till, .int .i64 key, .slice a nl cap, .bool ca, .int .i64 sk, .int .i64 se, .int .i64 ss].toArray 31 (0, 0)) := by rw [hw1]; exact heap_alloc_new w _
  have B1 : Hid (Below w.heap.size w w1) := by rw [hw1]; exact (Below.refl _ _).alloc (Nat.le_refl _) _
  have A1 : Hid (IsStrs w1 a names) := ha.keep B1.out
  have c0 := rowFacts hrow 0 _ rfl
  have c1 := rowFacts hrow 1 _ rfl
  have c2 := rowFacts hrow 2 _ rfl
  have c3 := rowFacts hrow 3 _ rfl
  have c4 := rowFacts hrow 4 _ rfl
  have c5 := rowFacts hrow 5 _ rfl
  have c6 := rowFacts hrow 6 _ rfl
  have c7 := rowFacts hrow 7 _ rfl
  have c8 := rowFacts hrow 8 _ rfl
  have c9 := rowFacts hrow 9 _ rfl
  have c10 := rowFacts hrow 10 _ rfl
  have HRow : Hid (w1.heap[w.heap.size]? = some (.cells [Value.int .i64 ser, .string iss, .string sub, .int .i64 fr, .int .i64 till, .int .i64 key, .slice a nl cap, .bool ca, .int .i64 sk, .int .i64 se, .int .i64 ss].toArray 31 (0, 0))) := hrow
  clear hrow ha hl ht hi hs
  go_enter Try.func7, Try.ntmps7
  go_upto_region 1 with fail
  rw [← hw1]
  clear hw1
  go_wp2_with fail
  refine (HP.out _ A1.out).mono ?_
  rintro e w2 ⟨rfl, b2⟩
  have B2 : Hid (Below w.heap.size w w2) := B1.out.trans (b2.mono B1.out.size)
  have d8 := (b2.cell (p := ⟨w.heap.size, 8, none⟩) (heap_lt HRow.out)).trans c8
  have d9 := (b2.cell (p := ⟨w.heap.size, 9, none⟩) (heap_lt HRow.out)).trans c9
  have d10 := (b2.cell (p := ⟨w.heap.size, 10, none⟩) (heap_lt HRow.out)).trans c10
  clear b2 c0 c1 c2 c3 c4 c5 c6 c7 c8 c9 c10 HP A1 HRow
  cases P with
  | false =>
    have HF : Hid (R = false) := HR.out
    go_wp2
    go_ret
    exact ⟨by rw [HF.out]; rfl, B2.out⟩
  | true =>
  have HF : Hid (R = sigRB sk se ss) := HR.out
  go_wp2_with fail
  refine (specSigRight sk se ss _).mono ?_
  rintro e w4 ⟨rfl, b4⟩
  rw [← HF.out]
  have B4 : Hid (Below w.heap.size w w4) := B2.out.trans (b4.mono B2.out.size)
  clear b4
  go_wp2
  go_ret
  exact ⟨rfl, B4.out⟩
end Go.Proofs.Ytfhihhkdbdidnaa
namespace Go.Proofs.Ytfhihhkdbdidnaa
open Go.RowKit

theorem isLetter (n : Int) (w : World) : Calls Try.prog 62 #[.int .u8 n] w fun e w' => e = .returned (.bool (decide (97 ≤ n) && decide (n ≤ 122))) ∧ w' = w := by
  by_cases h1 : 97 ≤ n
  · by_cases h2 : n ≤ 122
    all_goals
      go_enter Try.func62, Try.ntmps62
      go_wp2
      go_ret
      exact ⟨by simp [h1, h2], rfl⟩
  · go_enter Try.func62, Try.ntmps62
    go_wp2
    go_ret
    exact ⟨by simp; omega, rfl⟩
theorem isDigit (n : Int) (w : World) : Calls Try.prog 63 #[.int .u8 n] w fun e w' => e = .returned (.bool (decide (48 ≤ n) && decide (n ≤ 57))) ∧ w' = w := by
  by_cases h1 : 48 ≤ n
  · by_cases h2 : n ≤ 57
    all_goals
      go_enter Try.func63, Try.ntmps63
      go_wp2
      go_ret
      exact ⟨by simp [h1, h2], rfl⟩
  · go_enter Try.func63, Try.ntmps63
    go_wp2
    go_ret
    exact ⟨by simp; omega, rfl⟩

set_option maxHeartbeats 1000000 in
theorem implName (s : ByteArray) (w : World) (hs : s.size ≤ maxLen) :
    Calls Try.prog 42 #[.string s] w fun e w' => AnsB (NameOk s) e ∧ w' = w := by
  unfold maxLen at hs
  by_cases h1 : s.size < 1
  · go_enter Try.func42, Try.ntmps42
    go_wp2
    go_ret
    exact ⟨AnsB.no (fun h => by have := h.1; omega) rfl, rfl⟩
  by_cases h2 : 40 < s.size
  · go_enter Try.func42, Try.ntmps42
    go_wp2
    go_ret
    exact ⟨AnsB.no (fun h => by have := h.2.1; omega) rfl, rfl⟩
  have hp : 0 < s.size := by omega
  by_cases h3 : OkAt s 0 hp
  rotate_left
  · rcases cls (s[0].toNat : Int) with ⟨c, e1, e2, e3, e4, e5⟩ | ⟨c, e1, e2, e3, e4, e5⟩ | ⟨c, e1, e2, e3, e4, e5⟩ | ⟨c, e1, e2, e3, e4, e5⟩ | ⟨c, e1, e2, e3, e4, e5⟩ | ⟨c, e1, e2, e3, e4, e5⟩ | ⟨c, e1, e2, e3, e4, e5⟩
    all_goals
      first
        | (exfalso; exact h3 (by unfold OkAt OkN; omega))
        | (go_enter Try.func42, Try.ntmps42
           go_wp2
           go_ret
           exact ⟨AnsB.no (name_no s 0 hp h3) rfl, rfl⟩)
  have hc : 97 ≤ (s[0].toNat : Int) ∧ (s[0].toNat : Int) ≤ 122 := by unfold OkAt OkN at h3; omega
  obtain ⟨c1, c2⟩ := hc
  have H3 : Hid (OkAt s 0 hp) := h3
  clear h3
  go_enter Try.func42, Try.ntmps42
  go_wp2
  go_loop [3] (fun i => ∃ k : Nat, 1 ≤ k ∧ k ≤ s.size ∧ i = .int .i64 k ∧ OkTo s k) (fun i => s.size - (intOf i).toNat)
  case atStart => exact ⟨1, by omega, by omega, rfl, okTo_succ s 0 hp (okTo_zero s) H3.out⟩
  case round =>
    obtain ⟨k, hk1, hk, rfl, hok⟩ := hrel
    have HO : Hid (OkTo s k) := hok
    clear hok
    by_cases hlt : k < s.size
    · rcases cls (s[k].toNat : Int) with ⟨c, e1, e2, e3, e4, e5⟩ | ⟨c, e1, e2, e3, e4, e5⟩ | ⟨c, e1, e2, e3, e4, e5⟩ | ⟨c, e1, e2, e3, e4, e5⟩ | ⟨c, e1, e2, e3, e4, e5⟩ | ⟨c, e1, e2, e3, e4, e5⟩ | ⟨c, e1, e2, e3, e4, e5⟩
      all_goals
        go_wp2
        first
          | (go_ret; exact ⟨AnsB.no (name_no s k hlt (by unfold OkAt OkN; omega)) rfl, rfl⟩)
          | exact ⟨⟨k + 1, by omega, by omega, by go_num, okTo_succ s k hlt HO.out (by unfold OkAt OkN; omega)⟩, by simp [intOf]; omega⟩
    · go_wp2
      go_ret
      have e : k = s.size := by omega
      have hf := HO.out
      rw [e] at hf
      exact ⟨AnsB.yes ⟨by omega, by omega, hf⟩ rfl, rfl⟩
end Go.Proofs.Ytfhihhkdbdidnaa
namespace Go.Proofs.Ytfhihhkdbdidnaa
open Go.RowKit

theorem implTime (n : Int) (w : World) :
    Calls Try.prog 43 #[.int .i64 n] w fun e w' => e = .returned (.bool (timeB n)) ∧ w' = w := by
  by_cases h0 : 0 ≤ n
  · by_cases h1 : n ≤ 1000000000
    · have HF : Hid (timeB n = true) := by show _ = _; simp [timeB, h0, h1]
      go_enter Try.func43, Try.ntmps43
      go_wp2
      go_ret
      exact ⟨by rw [HF.out]; rfl, rfl⟩
    · have HF : Hid (timeB n = false) := by show _ = _; simp [timeB, h1]
      go_enter Try.func43, Try.ntmps43
      go_wp2
      go_ret
      exact ⟨by rw [HF.out]; rfl, rfl⟩
  · have HF : Hid (timeB n = false) := by show _ = _; simp [timeB, h0]
    go_enter Try.func43, Try.ntmps43
    go_wp2
    go_ret
    exact ⟨by rw [HF.out]; rfl, rfl⟩
theorem implSerial (n : Int) (w : World) :
    Calls Try.prog 41 #[.int .i64 n] w fun e w' => e = .returned (.bool (serB n)) ∧ w' = w := by
  by_cases h0 : 1 ≤ n
  · by_cases h1 : n ≤ 1000000000
    · have HF : Hid (serB n = true) := by show _ = _; simp [serB, h0, h1]
      go_enter Try.func41, Try.ntmps41
      go_wp2
      go_ret
      exact ⟨by rw [HF.out]; rfl, rfl⟩
    · have HF : Hid (serB n = false) := by show _ = _; simp [serB, h1]
      go_enter Try.func41, Try.ntmps41
      go_wp2
      go_ret
      exact ⟨by rw [HF.out]; rfl, rfl⟩
  · have HF : Hid (serB n = false) := by show _ = _; simp [serB, h0]
    go_enter Try.func41, Try.ntmps41
    go_wp2
    go_ret
    exact ⟨by rw [HF.out]; rfl, rfl⟩
theorem implNameB (s : ByteArray) (w : World) (hs : s.size ≤ maxLen) :
    Calls Try.prog 42 #[.string s] w fun e w' => e = .returned (.bool (nameB s)) ∧ w' = w :=
  (implName s w hs).mono fun _ _ h => ⟨ans_name h.1, h.2⟩
end Go.Proofs.Ytfhihhkdbdidnaa
namespace Go.Proofs.Ytfhihhkdbdidnaa
open Go.RowKit

set_option maxHeartbeats 1000000 in
set_option maxRecDepth 100000 in
theorem implNames (a : Option Addr) (ss : List ByteArray) (c : Nat) (w : World) (hl : ss.length ≤ 1048576) (hs : totS ss ss.length ≤ 1048576) (ha : IsStrs w a ss) :
    Calls Try.prog 45 #[.slice a ss.length c] w fun e w' => e = .returned (.bool (namesB ss)) ∧ Below w.heap.size w w' := by
  have HSz : Hid (∀ k, k < ss.length → (tAt ss k).size ≤ 1048576) := fun k hk => Nat.le_trans (totS_at ss hk) hs
  clear hs
  by_cases h5 : 5 < ss.length
  · have HF : Hid (namesB ss = false) := by show _ = _; rw [namesB, decide_eq_false (by omega)]; simp
    go_enter Try.func45, Try.ntmps45
    go_wp2
    go_ret
    exact ⟨by rw [HF.out]; rfl, Below.refl _ _⟩
  go_enter Try.func45, Try.ntmps45
  go_wp2
  go_loopw [10] (fun i wr => ∃ k : Nat, k ≤ ss.length ∧ i = .int .i64 k ∧ okTo ss k = true ∧ Below w.heap.size w wr) (fun i _ => ss.length - (intOf i).toNat)
  case atStart => exact ⟨0, Nat.zero_le _, rfl, rfl, Below.refl _ _⟩
  case round =>
    obtain ⟨k, hk, rfl, hok, hbr⟩ := hrel
    have HOk : Hid (okTo ss k = true) := hok
    have HB : Hid (Below w.heap.size w wr) := hbr
    clear hok
    by_cases hlt : k < ss.length
    · obtain ⟨x, o, rfl, hc⟩ : ∃ x o, a = some ⟨x, o, none⟩ ∧ ∀ i, i < ss.length → wr.cell? ⟨x, o + i, none⟩ = some (.string (tAt ss i)) := by
        rcases ha.below hbr ha.lt with rfl | h
        · simp at hlt
        · exact h
      have hck := hc k hlt
      have hz := HSz.out k hlt
      have HNm : Hid (∀ V : World, Calls Try.prog 42 #[.string (tAt ss k)] V fun e w' => e = .returned (.bool (nameB (tAt ss k))) ∧ w' = V) := fun V => implNameB _ V (by unfold maxLen; omega)
      clear hz
      have a0 : (0 : Int) ≤ (k : Int) := by omega
      have b0 : (k : Int) < (ss.length : Int) := by omega
      cases hn : nameB (tAt ss k) with
      | false =>
        have HF : Hid (namesB ss = false) := by show _ = _; rw [namesB, okTo_no (okN_not hn) hlt]; rfl
        rw [hn] at HNm
        generalize tAt ss k = z at *
        generalize ss.length = n at *
        clear hc ha hbr hn HSz
        go_wp2_with fail
        refine (HNm.out _).mono ?_
        rintro e w2 ⟨rfl, rfl⟩
        go_wp2
        go_ret
        exact ⟨by rw [HF.out]; rfl, HB.out⟩
      | true =>
        rw [hn] at HNm
        by_cases h0 : k = 0
        · subst h0
          have HF : Hid (okN ss 0 = true) := okN_zero hn
          rw [Nat.add_zero] at hck
          generalize tAt ss 0 = z at *
          generalize ss.length = n at *
          clear hc ha hbr hn HSz
          go_wp2_with fail
          refine (HNm.out _).mono ?_
          rintro e w2 ⟨rfl, rfl⟩
          go_wp2
          go_roundw
          case rel => exact ⟨1, by omega, by go_num, okTo_yes HOk.out HF.out, HB.out⟩
          case measure => simp [intOf]; omega
        · have hck1 := hc (k - 1) (by omega)
          have ek : ((k : Int) - 1) = ((k - 1 : Nat) : Int) := by omega
          have ew : IntKind.i64.wrap ((k : Int) - 1) = ((k - 1 : Nat) : Int) := by rw [IntKind.wrap_i64]; omega
          have a1 : (0 : Int) < (k : Int) := by omega
          have b1 : ((k - 1 : Nat) : Int) < (ss.length : Int) := by omega
          have hbl := okN_more (ss := ss) (k := k) (by omega) hn
          cases hr : Op.bytesLess (tAt ss (k - 1)).toList (tAt ss k).toList with
          | false =>
            have HF : Hid (namesB ss = false) := by show _ = _; rw [namesB, okTo_no (hbl.trans hr) hlt]; rfl
            generalize tAt ss k = z at *
            generalize tAt ss (k - 1) = y at *
            generalize k - 1 = k1 at *
            generalize ss.length = n at *
            clear hc ha hbr hn HSz hbl
            go_wp2_with fail
            refine (HNm.out _).mono ?_
            rintro e w2 ⟨rfl, rfl⟩
            go_wp2
            go_ret
            exact ⟨by rw [HF.out]; rfl, HB.out⟩
          | true =>
            have HF : Hid (okN ss k = true) := hbl.trans hr
            generalize tAt ss k = z at *
            generalize tAt ss (k - 1) = y at *
            generalize k - 1 = k1 at *
            generalize ss.length = n at *
            clear hc ha hbr hn HSz hbl
            go_wp2_with fail
            refine (HNm.out _).mono ?_
            rintro e w2 ⟨rfl, rfl⟩
            go_wp2
            go_roundw
            case rel => exact ⟨k + 1, by omega, by go_num, okTo_yes HOk.out HF.out, HB.out⟩
            case measure => simp [intOf]; omega
    · obtain rfl : k = ss.length := by omega
      have HF : Hid (namesB ss = true) := by show _ = _; rw [namesB, HOk.out, decide_eq_true (by omega)]; rfl
      clear ha hbr
      go_wp2
      go_ret
      exact ⟨by rw [HF.out]; rfl, HB.out⟩
end Go.Proofs.Ytfhihhkdbdidnaa
namespace Go.Proofs.Ytfhihhkdbdidnaa
open Go.RowKit

set_option maxHeartbeats 2000000 in
set_option maxRecDepth 100000 in
theorem implPaper (c : Paper) (a : Option Addr) (cap : Nat) (w : World) (hi : c.issuer.size ≤ maxLen) (hs : c.subject.size ≤ maxLen) (hl : c.names.length ≤ 1048576) (ht : totS c.names c.names.length ≤ 1048576) (ha : IsStrs w a c.names) :
    Calls Try.prog 20 #[c.val (.slice a c.names.length cap)] w fun e w' => e = .returned (.bool (paperB c)) ∧ Below w.heap.size w w' := by
  obtain ⟨ser, iss, sub, fr, till, key, names, ca, sk, se, ss⟩ := c
  simp only at hi hs hl ht ha
  unfold Paper.val
  simp only
  obtain ⟨R, hR⟩ : ∃ R, R = paperB ⟨ser, iss, sub, fr, till, key, names, ca, sk, se, ss⟩ := ⟨_, rfl⟩
  rw [← hR]
  have HR : Hid (R = (decide (1 ≤ ser) && decide (ser ≤ 1000000000) && nameB iss && nameB sub && timeB fr && timeB till && decide (fr ≤ till) && rightG key && namesB names)) := hR
  clear hR
  obtain ⟨w1, hw1⟩ : ∃ w1, w1 = w.alloc (.cells #[.int .i64 ser, .string iss, .string sub, .int .i64 fr, .int .i64 till, .int .i64 key, .slice a names.length cap, .bool ca, .int .i64 sk, .int .i64 se, .int .i64 ss] 31 (0, 0)) := ⟨_, rfl⟩
  have hrow : w1.heap[w.heap.size]? = some (.cells [Value.int .i64 ser, .string iss, .string sub, .int .i64 fr, .int .i64 till, .int .i64 key, .slice a names.length cap, .bool ca, .int .i64 sk, .int .i64 se, .int .i64 ss].toArray 31 (0, 0)) := by rw [hw1]; exact heap_alloc_new w _
  have B1 : Hid (Below w.heap.size w w1) := by rw [hw1]; exact (Below.refl _ _).alloc (Nat.le_refl _) _
  have A1 : Hid (IsStrs w1 a names) := ha.keep B1.out
  have c0 := rowFacts hrow 0 _ rfl
  have c1 := rowFacts hrow 1 _ rfl
  have c2 := rowFacts hrow 2 _ rfl
  have c3 := rowFacts hrow 3 _ rfl
  have c4 := rowFacts hrow 4 _ rfl
  have c5 := rowFacts hrow 5 _ rfl
  have c6 := rowFacts hrow 6 _ rfl
  have HNm : Hid (∀ V, IsStrs V a names → Calls Try.prog 45 #[.slice a names.length cap] V fun e w' => e = .returned (.bool (namesB names)) ∧ Below V.heap.size V w') := fun V hV => implNames a names cap V hl ht hV
  have HRow : Hid (w1.heap[w.heap.size]? = some (.cells [Value.int .i64 ser, .string iss, .string sub, .int .i64 fr, .int .i64 till, .int .i64 key, .slice a names.length cap, .bool ca, .int .i64 sk, .int .i64 se, .int .i64 ss].toArray 31 (0, 0))) := hrow
  generalize names.length = nl at *
  clear hrow ha hl ht
  go_enter Try.func20, Try.ntmps20
  go_upto_region 1 with fail
  rw [← hw1]
  clear hw1
  go_wp2_with fail
  refine (implSerial ser _).mono ?_
  rintro e w2 ⟨rfl, rfl⟩
  cases h1 : serB ser with
  | false =>
    have HF : Hid (R = false) := by show _ = _; rw [HR.out]; unfold serB at h1; rw [h1]; rfl
    go_wp2
    go_ret
    exact ⟨by rw [HF.out]; rfl, B1.out⟩
  | true =>
  unfold serB at h1
  rw [h1] at HR
  clear h1
  go_wp2_with fail
  refine (implNameB iss _ hi).mono ?_
  rintro e w2 ⟨rfl, rfl⟩
  cases h3 : nameB iss with
  | false =>
    have HF : Hid (R = false) := by show _ = _; rw [HR.out]; simp [h3]
    go_wp2
    go_ret
    exact ⟨by rw [HF.out]; rfl, B1.out⟩
  | true =>
  rw [h3] at HR
  go_wp2_with fail
  refine (implNameB sub _ hs).mono ?_
  rintro e w2 ⟨rfl, rfl⟩
  cases h4 : nameB sub with
  | false =>
    have HF : Hid (R = false) := by show _ = _; rw [HR.out]; simp [h4]
    go_wp2
    go_ret
    exact ⟨by rw [HF.out]; rfl, B1.out⟩
  | true =>
  rw [h4] at HR
  go_wp2_with fail
  refine (implTime fr _).mono ?_
  rintro e w2 ⟨rfl, rfl⟩
  cases h5 : timeB fr with
  | false =>
    have HF : Hid (R = false) := by show _ = _; rw [HR.out]; simp [h5]
    go_wp2
    go_ret
    exact ⟨by rw [HF.out]; rfl, B1.out⟩
  | true =>
  rw [h5] at HR
  go_wp2_with fail
  refine (implTime till _).mono ?_
  rintro e w2 ⟨rfl, rfl⟩
  cases h6 : timeB till with
  | false =>
    have HF : Hid (R = false) := by show _ = _; rw [HR.out]; simp [h6]
    go_wp2
    go_ret
    exact ⟨by rw [HF.out]; rfl, B1.out⟩
  | true =>
  rw [h6] at HR
  by_cases h7 : fr ≤ till
  rotate_left
  · have h7' : till < fr := by omega
    have HF : Hid (R = false) := by show _ = _; rw [HR.out]; simp [h7]
    go_wp2
    go_ret
    exact ⟨by rw [HF.out]; rfl, B1.out⟩
  rw [decide_eq_true h7] at HR
  go_wp2_with fail
  refine (implGroupRight key _).mono ?_
  rintro e w3 ⟨rfl, b3⟩
  have B3 : Hid (Below w.heap.size w w3) := B1.out.trans (b3.mono B1.out.size)
  have A3 : Hid (IsStrs w3 a names) := A1.out.keep b3
  have d6 := (b3.cell (p := ⟨w.heap.size, 6, none⟩) (heap_lt HRow.out)).trans c6
  clear b3
  cases h8 : rightG key with
  | false =>
    have HF : Hid (R = false) := by show _ = _; rw [HR.out]; simp [h8]
    go_wp2
    go_ret
    exact ⟨by rw [HF.out]; rfl, B3.out⟩
  | true =>
  rw [h8] at HR
  have HF : Hid (R = namesB names) := by show _ = _; rw [HR.out]; simp
  go_wp2_with fail
  refine (HNm.out _ A3.out).mono ?_
  rintro e w4 ⟨rfl, b4⟩
  rw [← HF.out]
  have B4 : Hid (Below w.heap.size w w4) := B3.out.trans (b4.mono B3.out.size)
  clear b4
  go_wp2
  go_ret
  exact ⟨rfl, B4.out⟩
end Go.Proofs.Ytfhihhkdbdidnaa
namespace Go.Proofs.Ytfhihhkdbdidnaa
open Go.RowKit

theorem implRem (n : Int) (w : World) :
    Calls Try.prog 46 #[.int .i64 n] w fun e w' => e = .returned (.bool (remB n)) ∧ w' = w := by
  by_cases h1 : 0 ≤ n
  · by_cases h2 : n < 1073741789
    · have e : remB n = true := decide_eq_true ⟨h1, h2⟩
      rw [e]
      go_enter Try.func46, Try.ntmps46
      go_wp2
      go_ret
      exact ⟨rfl, rfl⟩
    · have e : remB n = false := decide_eq_false (by omega)
      rw [e]
      go_enter Try.func46, Try.ntmps46
      go_wp2
      go_ret
      exact ⟨rfl, rfl⟩
  · have e : remB n = false := decide_eq_false (by omega)
    rw [e]
    go_enter Try.func46, Try.ntmps46
    go_wp2
    go_ret
    exact ⟨rfl, rfl⟩
set_option maxHeartbeats 1000000 in
set_option maxRecDepth 100000 in
theorem implSigRight (k e s : Int) (w : World) :
    Calls Try.prog 21 #[.agg #[.int .i64 k, .int .i64 e, .int .i64 s]] w fun r w' => r = .returned (.bool (sigRB k e s)) ∧ Below w.heap.size w w' := by
  go_enter Try.func21, Try.ntmps21
  go_wp2_with fail
  refine (implGroupRight k _).mono ?_
  rintro e1 w1 ⟨rfl, hb1⟩
  have HB : Hid (Below w.heap.size w w1) := ((Below.refl _ w).alloc (Nat.le_refl _) _).trans (hb1.mono (by simp))
  have c1 : w1.cell? ⟨w.heap.size, 1, none⟩ = some (.int .i64 e) := by rw [hb1.cell (p := ⟨w.heap.size, 1, none⟩) (by simp)]; simp
  have c2 : w1.cell? ⟨w.heap.size, 2, none⟩ = some (.int .i64 s) := by rw [hb1.cell (p := ⟨w.heap.size, 2, none⟩) (by simp)]; simp
  clear hb1
  by_cases h1 : rightG k = true
  · rw [h1]
    go_wp2_with fail
    refine (implRem e _).mono ?_
    rintro e2 w2 ⟨rfl, rfl⟩
    by_cases h2 : remB e = true
    · rw [h2]
      go_wp2_with fail
      refine (implRem s _).mono ?_
      rintro e3 w3 ⟨rfl, rfl⟩
      generalize hb3 : remB s = b
      go_wp2
      go_ret
      exact ⟨by simp [sigRB, *], HB.out⟩
    · rw [Bool.not_eq_true] at h2
      rw [h2]
      go_wp2
      go_ret
      exact ⟨by simp [sigRB, *], HB.out⟩
  · rw [Bool.not_eq_true] at h1
    rw [h1]
    go_wp2
    go_ret
    exact ⟨by simp [sigRB, *], HB.out⟩
end Go.Proofs.Ytfhihhkdbdidnaa
namespace Go.Proofs.Ytfhihhkdbdidnaa
open Go.RowKit

set_option maxHeartbeats 2000000 in
set_option maxRecDepth 100000 in
theorem implCert (c : Paper) (a : Option Addr) (cap : Nat) (w : World) (hi : c.issuer.size ≤ maxLen) (hs : c.subject.size ≤ maxLen) (hl : c.names.length ≤ 1048576) (ht : totS c.names c.names.length ≤ 1048576) (ha : IsStrs w a c.names) :
    Calls Try.prog 9 #[c.val (.slice a c.names.length cap)] w fun e w' => e = .returned (.bool (certB c)) ∧ Below w.heap.size w w' := by
  have HP : Hid (∀ V, IsStrs V a c.names → Calls Try.prog 20 #[c.val (.slice a c.names.length cap)] V fun e w' => e = .returned (.bool (paperB c)) ∧ Below V.heap.size V w') := fun V hV => implPaper c a cap V hi hs hl ht hV
  obtain ⟨R, hR⟩ : ∃ R, R = certB c := ⟨_, rfl⟩
  rw [← hR]
  obtain ⟨P, hP⟩ : ∃ P, P = paperB c := ⟨_, rfl⟩
  rw [← hP] at HP
  have HR : Hid (R = (P && sigRB c.sk c.se c.ss)) := by show _ = _; rw [hR, hP]; rfl
  clear hR hP
  obtain ⟨ser, iss, sub, fr, till, key, names, ca, sk, se, ss⟩ := c
  simp only at hi hs hl ht ha HP HR
  unfold Paper.val at HP ⊢
  simp only at HP ⊢
  generalize names.length = nl at *
  obtain ⟨w1, hw1⟩ : ∃ w1, w1 = w.alloc (.cells #[.int .i64 ser, .string iss, .string sub, .int .i64 fr, .int .i64 till, .int .i64 key, .slice a nl cap, .bool ca, .int .i64 sk, .int .i64 se, .int .i64 ss] 31 (0, 0)) := ⟨_, rfl⟩
  have hrow : w1.heap[w.heap.size]? = some (.cells [Value.int .i64 ser, .string iss, .string sub, .int .i64 fr, .int .i64 till, .int .i64 key, .slice a nl cap, .bool ca, .int .i64 sk, .int .i64 se, .int .i64 ss].toArray 31 (0, 0)) := by rw [hw1]; exact heap_alloc_new w _
  have B1 : Hid (Below w.heap.size w w1) := by rw [hw1]; exact (Below.refl _ _).alloc (Nat.le_refl _) _
  have A1 : Hid (IsStrs w1 a names) := ha.keep B1.out
  have c0 := rowFacts hrow 0 _ rfl
  have c1 := rowFacts hrow 1 _ rfl
  have c2 := rowFacts hrow 2 _ rfl
  have c3 := rowFacts hrow 3 _ rfl
  have c4 := rowFacts hrow 4 _ rfl
  have c5 := rowFacts hrow 5 _ rfl
  have c6 := rowFacts hrow 6 _ rfl
  have c7 := rowFacts hrow 7 _ rfl
  have c8 := rowFacts hrow 8 _ rfl
  have c9 := rowFacts hrow 9 _ rfl
  have c10 := rowFacts hrow 10 _ rfl
  have HRow : Hid (w1.heap[w.heap.size]? = some (.cells [Value.int .i64 ser, .string iss, .string sub, .int .i64 fr, .int .i64 till, .int .i64 key, .slice a nl cap, .bool ca, .int .i64 sk, .int .i64 se, .int .i64 ss].toArray 31 (0, 0))) := hrow
  clear hrow ha hl ht hi hs
  go_enter Try.func9, Try.ntmps9
  go_upto_region 1 with fail
  rw [← hw1]
  clear hw1
  go_wp2_with fail
  refine (HP.out _ A1.out).mono ?_
  rintro e w2 ⟨rfl, b2⟩
  have B2 : Hid (Below w.heap.size w w2) := B1.out.trans (b2.mono B1.out.size)
  have d8 := (b2.cell (p := ⟨w.heap.size, 8, none⟩) (heap_lt HRow.out)).trans c8
  have d9 := (b2.cell (p := ⟨w.heap.size, 9, none⟩) (heap_lt HRow.out)).trans c9
  have d10 := (b2.cell (p := ⟨w.heap.size, 10, none⟩) (heap_lt HRow.out)).trans c10
  clear b2 c0 c1 c2 c3 c4 c5 c6 c7 c8 c9 c10 HP A1 HRow
  cases P with
  | false =>
    have HF : Hid (R = false) := HR.out
    go_wp2
    go_ret
    exact ⟨by rw [HF.out]; rfl, B2.out⟩
  | true =>
  have HF : Hid (R = sigRB sk se ss) := HR.out
  go_wp2_with fail
  refine (implSigRight sk se ss _).mono ?_
  rintro e w4 ⟨rfl, b4⟩
  rw [← HF.out]
  have B4 : Hid (Below w.heap.size w w4) := B2.out.trans (b4.mono B2.out.size)
  clear b4
  go_wp2
  go_ret
  exact ⟨rfl, B4.out⟩
end Go.Proofs.Ytfhihhkdbdidnaa
namespace Go.Proofs.Ytfhihhkdbdidnaa
open Go.RowKit

theorem szR_no {ss : List ByteArray} {left : Int} (h : left < (ss.length : Int) + totS ss ss.length) : szR ss left = -1 := if_neg (by omega)
set_option maxHeartbeats 1000000 in
set_option maxRecDepth 100000 in
theorem szStrs (a : Option Addr) (ss : List ByteArray) (c : Nat) (left : Int) (w : World) (hl : ss.length ≤ maxLen) (hs : ∀ s ∈ ss, s.size ≤ maxLen) (h0 : 0 ≤ left) (h1 : left ≤ 1048576) (ha : IsStrs w a ss) :
    Calls Try.prog 15 #[.slice a ss.length c, .int .i64 left] w fun e w' => e = .returned (.int .i64 (szR ss left)) ∧ Below w.heap.size w w' := by
  unfold maxLen at hl
  have HSz : Hid (∀ k, k < ss.length → (tAt ss k).size ≤ 9223372036854775807) := fun k hk => by
    have := hs (ss[k]) (List.getElem_mem hk)
    unfold maxLen at this
    rw [tAt, List.getD, List.getElem?_eq_getElem hk]
    simpa using this
  clear hs
  by_cases hfit : left < (ss.length : Int)
  · have HF : Hid (szR ss left = -1) := szR_no (by omega)
    go_enter Try.func15, Try.ntmps15
    go_wp2
    go_ret
    exact ⟨by rw [HF.out]; rfl, Below.refl _ _⟩
  · go_enter Try.func15, Try.ntmps15
    go_wp2
    go_loopw [1, 5] (fun l i wr => ∃ k : Nat, k ≤ ss.length ∧ i = .int .i64 k ∧ (totS ss k : Int) ≤ left - ss.length ∧ l = .int .i64 (left - ss.length - totS ss k) ∧ Below w.heap.size w wr) (fun _ i _ => ss.length - (intOf i).toNat)
    case atStart => exact ⟨0, Nat.zero_le _, rfl, by show (0 : Int) ≤ _; omega, by simp [totS], Below.refl _ _⟩
    case round =>
      obtain ⟨k, hk, rfl, ht, rfl, hbr⟩ := hrel
      by_cases hlt : k < ss.length
      · obtain ⟨x, o, rfl, hc⟩ : ∃ x o, a = some ⟨x, o, none⟩ ∧ ∀ i, i < ss.length → wr.cell? ⟨x, o + i, none⟩ = some (.string (tAt ss i)) := by
          rcases ha.below hbr ha.lt with rfl | h
          · simp at hlt
          · exact h
        have hck := hc k hlt
        have hz := HSz.out k hlt
        have e1 : totS ss (k + 1) = totS ss k + (tAt ss k).size := rfl
        have HN : Hid (left - ss.length - totS ss k < (tAt ss k).size → szR ss left = -1) := fun h => szR_no (by have := totS_mono ss (show k + 1 ≤ ss.length by omega); omega)
        have HB : Hid (Below w.heap.size w wr) := hbr
        have HE : Hid (totS ss (k + 1) = totS ss k + (tAt ss k).size) := e1
        obtain ⟨m, hm⟩ : ∃ m : Int, m = left - ss.length - totS ss k := ⟨_, rfl⟩
        rw [← hm] at HN ⊢
        have HM : Hid (m = left - ss.length - totS ss k) := hm
        have hm0 : 0 ≤ m := by omega
        have hm1 : m ≤ 1048576 := by omega
        have hk1 : k < 1048576 := by omega
        generalize tAt ss k = z at *
        generalize hn : ss.length = n at *
        have HNn : Hid (ss.length = n) := hn
        clear hc ha hbr hn e1 hm ht hl h0 h1 hfit
        by_cases hlast : m < (z.size : Int)
        · have HF : Hid (szR ss left = -1) := HN.out hlast
          go_wp2
          go_ret
          exact ⟨by rw [HF.out]; rfl, HB.out⟩
        · go_wp2
          go_roundw
          case rel => exact ⟨k + 1, by have := HNn.out; omega, by go_num, by have := HE.out; have := HM.out; have := HNn.out; omega, by congr 1; have := HE.out; have := HM.out; have := HNn.out; omega, HB.out⟩
          case measure => have := HNn.out; simp [intOf]; omega
      · obtain rfl : k = ss.length := by omega
        have HF : Hid (szR ss left = left - ss.length - totS ss ss.length) := if_pos (by omega)
        have HB : Hid (Below w.heap.size w wr) := hbr
        clear hbr ha
        go_wp2
        go_ret
        exact ⟨by rw [HF.out]; rfl, HB.out⟩
end Go.Proofs.Ytfhihhkdbdidnaa
namespace Go.Proofs.Ytfhihhkdbdidnaa
open Go.RowKit

theorem szR_some {ss : List ByteArray} {left : Int} (h : 0 ≤ szR ss left) : (ss.length : Int) + totS ss ss.length ≤ left := by
  unfold szR at h
  split at h
  · assumption
  · omega
theorem szR_neg {ss : List ByteArray} {left : Int} : -1 ≤ szR ss left := by
  unfold szR
  split <;> omega
theorem szR_le {ss : List ByteArray} {left : Int} (h : -1 ≤ left) : szR ss left ≤ left := by
  unfold szR
  split <;> omega
end Go.Proofs.Ytfhihhkdbdidnaa
namespace Go.Proofs.Ytfhihhkdbdidnaa
open Go.RowKit

/-- How large a paper is. -/
def Paper.Small (c : Paper) : Prop := c.issuer.size ≤ 1048576 ∧ c.subject.size ≤ 1048576 ∧ c.names.length ≤ 1048576 ∧ totS c.names c.names.length ≤ 1048576
set_option maxHeartbeats 2000000 in
set_option maxRecDepth 100000 in
theorem szCert (c : Paper) (a : Option Addr) (cap : Nat) (w : World) (hi : c.issuer.size ≤ maxLen) (hs : c.subject.size ≤ maxLen) (hl : c.names.length ≤ maxLen) (ht : ∀ s ∈ c.names, s.size ≤ maxLen) (ha : IsStrs w a c.names) :
    Calls Try.prog 6 #[c.val (.slice a c.names.length cap), .int .i64 1048576] w fun e w' => ∃ x : Int, e = .returned (.int .i64 x) ∧ (x < 0 ∨ c.Small) ∧ -1 ≤ x ∧ x ≤ 1048576 ∧ Below w.heap.size w w' := by
  have HSm : Hid (c.issuer.size ≤ 1048576 → c.subject.size ≤ 1048576 → c.names.length + totS c.names c.names.length ≤ 1048576 → c.Small) := fun h1 h2 h3 => ⟨h1, h2, by omega, by omega⟩
  obtain ⟨ser, iss, sub, fr, till, key, names, ca, sk, se, ss⟩ := c
  simp only at hi hs hl ht ha HSm
  generalize Paper.Small ⟨ser, iss, sub, fr, till, key, names, ca, sk, se, ss⟩ = Sm at *
  unfold Paper.val
  simp only
  have HZ : Hid (∀ V (left : Int), IsStrs V a names → 0 ≤ left → left ≤ 1048576 → Calls Try.prog 15 #[.slice a names.length cap, .int .i64 left] V fun e w' => e = .returned (.int .i64 (szR names left)) ∧ Below V.heap.size V w') := fun V left hV h0 h1 => szStrs a names cap left V hl ht h0 h1 hV
  obtain ⟨nl, hnl⟩ : ∃ nl, nl = names.length := ⟨_, rfl⟩
  rw [← hnl] at HZ HSm ⊢
  have HNl : Hid (nl = names.length) := hnl
  clear hnl
  obtain ⟨w1, hw1⟩ : ∃ w1, w1 = w.alloc (.cells #[.int .i64 ser, .string iss, .string sub, .int .i64 fr, .int .i64 till, .int .i64 key, .slice a nl cap, .bool ca, .int .i64 sk, .int .i64 se, .int .i64 ss] 26 (0, 0)) := ⟨_, rfl⟩
  have hrow : w1.heap[w.heap.size]? = some (.cells [Value.int .i64 ser, .string iss, .string sub, .int .i64 fr, .int .i64 till, .int .i64 key, .slice a nl cap, .bool ca, .int .i64 sk, .int .i64 se, .int .i64 ss].toArray 26 (0, 0)) := by rw [hw1]; exact heap_alloc_new w _
  have B1 : Hid (Below w.heap.size w w1) := by rw [hw1]; exact (Below.refl _ _).alloc (Nat.le_refl _) _
  have A1 : Hid (IsStrs w1 a names) := ha.keep B1.out
  have c1 := rowFacts hrow 1 _ rfl
  have c2 := rowFacts hrow 2 _ rfl
  have c6 := rowFacts hrow 6 _ rfl
  unfold maxLen at hi hs
  clear hrow ha hl ht
  go_enter Try.func6, Try.ntmps6
  go_upto_region 1 with fail
  rw [← hw1]
  clear hw1
  by_cases h1 : 1048576 < iss.size
  · go_wp2
    go_ret
    exact ⟨_, rfl, .inl (by omega), by omega, by omega, B1.out⟩
  by_cases h2 : 1048576 - iss.size < sub.size
  · go_wp2
    go_ret
    exact ⟨_, rfl, .inl (by omega), by omega, by omega, B1.out⟩
  obtain ⟨l2, hl2⟩ : ∃ l2 : Int, l2 = 1048576 - (iss.size : Int) - (sub.size : Int) := ⟨_, rfl⟩
  have hl20 : 0 ≤ l2 := by omega
  have hl21 : l2 ≤ 1048576 := by omega
  have HL2 : Hid (l2 = 1048576 - (iss.size : Int) - (sub.size : Int)) := hl2
  go_upto_region 7 with fail
  rw [← hl2]
  clear hl2
  go_wp2_with fail
  refine (HZ.out _ l2 A1.out hl20 hl21).mono ?_
  rintro e w2 ⟨rfl, b2⟩
  have B2 : Hid (Below w.heap.size w w2) := B1.out.trans (b2.mono B1.out.size)
  have g1 := szR_neg (ss := names) (left := l2)
  have g2 := szR_le (ss := names) (left := l2) (by omega)
  have HG : Hid (0 ≤ szR names l2 → Sm) := fun h => by
    have := szR_some h
    have := HL2.out
    have := HNl.out
    exact HSm.out (by omega) (by omega) (by rw [HNl.out]; omega)
  generalize szR names l2 = q at *
  clear b2 HZ HSm
  by_cases hq : q < 0
  · go_wp2
    go_ret
    exact ⟨_, rfl, .inl (by omega), by omega, by omega, B2.out⟩
  · have HSm : Hid Sm := HG.out (by omega)
    go_wp2
    go_ret
    exact ⟨_, rfl, .inr HSm.out, by omega, by omega, B2.out⟩
end Go.Proofs.Ytfhihhkdbdidnaa
namespace Go.Proofs.Ytfhihhkdbdidnaa
open Go.RowKit

set_option maxHeartbeats 1000000 in
set_option maxRecDepth 100000 in
theorem toStrs (a : Option Addr) (zs : List ByteArray) (c : Nat) (w : World) (hl : zs.length ≤ 1048576) (ha : IsStrs w a zs) :
    Calls Try.prog 18 #[.slice a zs.length c] w fun e w' => e = .returned (.slice (some ⟨w.heap.size, 0, none⟩) zs.length zs.length) ∧ w'.heap[w.heap.size]? = some (.cells (sCells zs).toArray 9 (0, 0)) ∧ Below w.heap.size w w' := by
  obtain ⟨i0, hi, hz0, hz1, hz2⟩ := info_parts infoText
  go_enter Try.func18, Try.ntmps18
  go_wp2_with (at_make; refine wpList_make_full _ rfl _ _ 22 rfl w.heap.size 9 i0 (.string ⟨#[]⟩) 1 Try.underlying22 hi hz0 hz1 .i64 .i64 _ _ zs.length rfl rfl ?c1 ?c2 ?c3 ?c4 ?c5 ?_)
  case c1 => omega
  case c2 => omega
  case c3 => rw [hz2]; omega
  case c4 => unfold maxLen; omega
  case c5 => exact Nat.le_refl _
  intro w1 hown hgrow
  have hB1 : Below w.heap.size w w1 := (Below.refl _ w).grown hgrow (Nat.le_refl _) (fun k hk => by cases hk)
  obtain ⟨hrow, hlen⟩ := rowOf hown rfl
  generalize (madeCells #[Value.string ⟨#[]⟩] zs.length).toList = L0 at hrow hlen
  have HR0 : Hid (w1.heap[w.heap.size]? = some (.cells L0.toArray 9 (0, 0))) := hrow
  have HL0 : Hid (L0.length = zs.length) := hlen
  have HB1 : Hid (Below w.heap.size w w1) := hB1
  clear hown hgrow hrow hlen hB1
  go_wp2_with fail
  go_loopw [4] (fun i wr => ∃ (k : Nat) (L : List Value), k ≤ zs.length ∧ i = .int .i64 k ∧ L.length = zs.length ∧ wr.heap[w.heap.size]? = some (.cells L.toArray 9 (0, 0)) ∧ (∀ j, j < k → L[j]? = some (.string (tAt zs j))) ∧ Below w.heap.size w wr)
    (fun i _ => zs.length - (intOf i).toNat)
  case atStart => exact ⟨0, L0, Nat.zero_le _, rfl, HL0.out, HR0.out, fun j hj => by omega, HB1.out⟩
  case round =>
    clear HL0 HR0 HB1
    obtain ⟨k, L, hk, rfl, hL, hg, hv, hb⟩ := hrel
    by_cases hlt : k < zs.length
    · obtain ⟨x, o, rfl, hc⟩ : ∃ x o, a = some ⟨x, o, none⟩ ∧ ∀ i, i < zs.length → wr.cell? ⟨x, o + i, none⟩ = some (.string (tAt zs i)) := by
        rcases ha.below hb ha.lt with rfl | h
        · simp at hlt
        · exact h
      have hck := hc k hlt
      have hd : wr.cell? ⟨w.heap.size, k, none⟩ = some L[k] := by
        rw [cell_of_row wr _ k _ _ (0, 0) hg]; simp
      have hz := frozen_of_row wr _ k _ _ hg
      have HG : Hid (∀ v, (wr.setCell ⟨w.heap.size, k, none⟩ v).heap[w.heap.size]? = some (.cells (L.set k v).toArray 9 (0, 0))) := fun v => by
        rw [heap_setCell_same wr _ k _ _ v hg]; simp
      have HV : Hid (∀ j, j < k + 1 → (L.set k (.string (tAt zs k)))[j]? = some (.string (tAt zs j))) := fun j hj => by
        by_cases e : j = k
        · subst e; rw [List.getElem?_set_self (by omega)]
        · rw [List.getElem?_set_ne (by omega), hv j (by omega)]
      have HL : Hid (∀ v, (L.set k v).length = zs.length) := fun v => by simpa using hL
      have HB : Hid (∀ v, Below w.heap.size w (wr.setCell ⟨w.heap.size, k, none⟩ v)) := fun v => hb.setCell (Nat.le_refl _) v
      generalize L[k] = v0 at hd
      generalize tAt zs k = z at hck HV
      have a0 : (0 : Int) ≤ (k : Int) := by omega
      have b0 : (k : Int) < (zs.length : Int) := by omega
      generalize zs.length = n at *
      clear hc ha hv hg hb hL
      go_wp2
      go_roundw
      case rel => exact ⟨k + 1, _, by omega, by go_num, HL.out _, HG.out _, HV.out, HB.out _⟩
      case measure => simp [intOf]; omega
    · have hLe : L = sCells zs := by
        apply List.ext_getElem?
        intro j
        by_cases hj : j < zs.length
        · rw [hv j (by omega)]; exact (sCells_at hj).symm
        · rw [List.getElem?_eq_none (by omega), List.getElem?_eq_none (by simp [sCells]; omega)]
      subst hLe
      have HG : Hid (wr.heap[w.heap.size]? = some (.cells (sCells zs).toArray 9 (0, 0))) := hg
      have HB : Hid (Below w.heap.size w wr) := hb
      clear hg hv hb hL ha
      go_wp2
      go_ret
      exact ⟨rfl, HG.out, HB.out⟩
end Go.Proofs.Ytfhihhkdbdidnaa
namespace Go.Proofs.Ytfhihhkdbdidnaa
open Go.RowKit

theorem sigRow {w : World} {g : Nat} {t : TypeId} {x y z : Value} (hg : w.heap[g]? = some (.cells [x, y, z].toArray t (0, 0))) (a b c : Value) :
    (((w.setCell ⟨g, 0, none⟩ a).setCell ⟨g, 1, none⟩ b).setCell ⟨g, 2, none⟩ c).heap[g]? = some (.cells [a, b, c].toArray t (0, 0)) := rowSet c (rowSet b (rowSet a hg))
theorem sizeSig : (Try.prog.info? 29).map (·.size) = some 3 := by kernel_rfl
end Go.Proofs.Ytfhihhkdbdidnaa
namespace Go.Proofs.Ytfhihhkdbdidnaa
open Go.RowKit

set_option maxHeartbeats 1000000 in
set_option maxRecDepth 100000 in
theorem toSig (k e s : Int) (w : World) :
    Calls Try.prog 19 #[.agg #[.int .i64 k, .int .i64 e, .int .i64 s]] w fun r w' => r = .returned (.agg #[.int .i64 k, .int .i64 e, .int .i64 s]) ∧ Below w.heap.size w w' := by
  go_enter Try.func19, Try.ntmps19
  go_wp2
  go_returns
  refine ⟨rfl, ?_⟩
  repeat' first | exact Below.refl _ _ | refine Below.setCell ?_ (by simp) _ | refine Below.alloc ?_ (by simp; try omega) _
end Go.Proofs.Ytfhihhkdbdidnaa
