/- impl.putMore, walked. FnExactNameRight, walks: 'impl.NameRight' answers true just where the text is a right name; the law. impl.isTime, isSerial, NameRight, walked. impl.isTime, impl.namesRight, walked. impl.rightButSig, walked. (impl.numberThing).body, walked. impl.layThing at a number, impl.DerInt, walked. -/
import Derived.Test.YtfhihhkdbdidnaaPBd07
import Derived.Test.YtfhihhkdbdidnaaPBd01
import Derived.Test.YtfhihhkdbdidnaaPBd02
import Derived.WalkLawsBesides
import Derived.Deep.Cut
import Derived.Test.YtfhihhkdbdidnaaPBd05
import Derived.Test.YtfhihhkdbdidnaaPBd03
import Derived.Deep.RegionWith
namespace Go.Proofs.Ytfhihhkdbdidnaa
open Go.RowKit

set_option maxHeartbeats 4000000 in
set_option maxRecDepth 100000 in
theorem implMore (a : Option Addr) (names : List ByteArray) (cap : Nat) (ca : Bool) (w : World) (hl : names.length ≤ 5) (hs : ∀ i, i < names.length → (tAt names i).size ≤ 40) (ha : IsStrs w a names) :
    Calls Try.prog 31 #[.agg #[.slice a names.length cap, .bool ca]] w fun e w' => e = .returned (.string (moreD names ca)) ∧ Below w.heap.size w w' := by
  have zN := namesD_le hl hs
  have zC := caD_le ca
  have HLn : Hid (∀ V, IsStrs V a names → Calls Try.prog 58 #[.agg #[.slice a names.length cap, .bool ca]] V fun e w' => e = .returned (.string (namesD names)) ∧ Below V.heap.size V w') := fun V hV => implLayNames a names cap ca V hl hs hV
  have HLc : Hid (∀ V, Calls Try.prog 59 #[.agg #[.slice a names.length cap, .bool ca]] V fun e w' => e = .returned (.string (caD ca)) ∧ Below V.heap.size V w') := fun V => implLayCa _ ca V
  have HJ1 : Hid (∀ V, Calls Try.prog 56 #[.string ⟨#[]⟩, .string (namesD names)] V fun e w' => e = .returned (.string (namesD names)) ∧ Below V.heap.size V w') := fun V => by
    have h := joinTexts ⟨#[]⟩ (namesD names) V (by show 0 ≤ _; omega) (by omega)
    have e : (⟨#[]⟩ : ByteArray) ++ namesD names = namesD names := ByteArray.empty_append
    rw [e] at h
    exact h
  have HJ2 : Hid (∀ V, Calls Try.prog 56 #[.string (namesD names), .string (caD ca)] V fun e w' => e = .returned (.string (namesD names ++ caD ca)) ∧ Below V.heap.size V w') := fun V => joinTexts _ _ V (by omega) (by omega)
  have zT : (namesD names ++ caD ca).size ≤ 370 := by rw [ByteArray.size_append]; omega
  obtain ⟨M, hM⟩ : ∃ M, M = moreD names ca := ⟨_, rfl⟩
  rw [← hM]
  have HM : Hid (M = moreT (namesD names ++ caD ca)) := hM
  clear hM zN zC hl hs
  generalize namesD names ++ caD ca = T at *
  generalize namesD names = N at *
  generalize caD ca = C at *
  generalize names.length = nl at *
  have TR : Hid (∀ V W, Hid (Below w.heap.size w V) → Below V.heap.size V W → Hid (Below w.heap.size w W)) := fun V W h k => h.out.trans (k.mono h.out.size)
  have HA : Hid (∀ V, Below w.heap.size w V → IsStrs V a names) := fun V hV => ha.keep hV
  clear ha
  go_enter Try.func31, Try.ntmps31
  go_wp2_with fail
  refine wp_loop_rounds 3 ?_
  rw [rounds_succ]
  go_wp2_with fail
  refine (HLn.out _ (HA.out _ (((Below.refl _ w).alloc (Nat.le_refl _) _).alloc (by simp) _))).mono ?_
  rintro e V1 ⟨rfl, b1⟩
  have f1 := b1.cell (p := ⟨w.heap.size + 1, 1, none⟩) (by simp)
  have g0 := b1.cell (p := ⟨w.heap.size, 0, none⟩) (by simp; omega)
  have g1 := b1.cell (p := ⟨w.heap.size, 1, none⟩) (by simp; omega)
  have z1 := b1.size
  simp at f1 g0 g1 z1
  have K1 : Hid (Below w.heap.size w V1) := (((Below.refl _ w).alloc (Nat.le_refl _) _).alloc (by simp) _).trans (b1.mono (by simp; omega))
  clear b1
  go_wp2_with fail
  refine (HJ1.out _).mono ?_
  rintro e V2 ⟨rfl, b2⟩
  have K2 := TR.out _ _ K1 b2
  have f2 := (b2.cell (p := ⟨w.heap.size + 1, 1, none⟩) (show w.heap.size + 1 < V1.heap.size by omega)).trans f1
  have h0 := (b2.cell (p := ⟨w.heap.size, 0, none⟩) (show w.heap.size < V1.heap.size by omega)).trans g0
  have h1 := (b2.cell (p := ⟨w.heap.size, 1, none⟩) (show w.heap.size < V1.heap.size by omega)).trans g1
  clear b2 f1 g0 g1 K1 z1 HJ1 HLn
  go_wp2_with fail
  rw [rounds_succ]
  go_wp2_with fail
  refine (HLc.out _).mono ?_
  rintro e V3 ⟨rfl, b3⟩
  have K3 := TR.out _ _ K2 b3
  clear b3 f2 h0 h1 K2 HLc
  go_wp2_with fail
  refine (HJ2.out _).mono ?_
  rintro e V4 ⟨rfl, b4⟩
  have K4 := TR.out _ _ K3 b4
  clear b4 K3 HJ2
  go_wp2_with fail
  rw [rounds_succ]
  by_cases ht : T.size = 0
  · have HF : Hid (M = ⟨#[]⟩) := by show _ = _; rw [HM.out, moreT, if_pos ht]
    have he := isEmpty_of ht
    go_wp2
    go_ret
    exact ⟨by rw [HF.out]; rfl, K4.out⟩
  · have hF : M = thingD 163 (seqD T) := by rw [HM.out, moreT, if_neg ht]
    have he := isEmpty_not ht
    have x1 := seqD_le T
    have P1 : Hid (∀ V (g : Nat), V.heap[g]? = some (.cells #[.string T] 9 (0, 0)) → Calls Try.prog 25 #[.slice (some ⟨g, 0, none⟩) 1 1] V fun e w' => e = .returned (.string (seqD T)) ∧ Below V.heap.size V w') := fun V g hg => implSeq1 _ g V (by omega) hg
    have P2 : Hid (∀ V (g : Nat), V.heap[g]? = some (.cells #[.string (seqD T)] 9 (0, 0)) → Calls Try.prog 26 #[.int .i64 163, .slice (some ⟨g, 0, none⟩) 1 1] V fun e w' => e = .returned (.string M) ∧ Below V.heap.size V w') := fun V g hg => by rw [hF]; exact implParts1 163 _ g V (by decide) (by omega) hg
    clear hF x1 HM
    generalize seqD T = q at *
    have AL : Hid (∀ V o, Hid (Below w.heap.size w V) → Hid (Below w.heap.size w (V.alloc o))) := fun V o h => h.out.alloc h.out.size o
    go_wp2_with fail
    refine (P1.out _ _ (heap_alloc_new V4 _)).mono ?_
    rintro e V5 ⟨rfl, b5⟩
    have K5 := TR.out _ _ (AL.out _ _ K4) b5
    clear b5
    go_wp2_with fail
    refine (P2.out _ _ (heap_alloc_new V5 _)).mono ?_
    rintro e V6 ⟨rfl, b6⟩
    have K6 := TR.out _ _ (AL.out _ _ K5) b6
    clear b6
    go_wp2
    go_ret
    exact ⟨rfl, K6.out⟩
end Go.Proofs.Ytfhihhkdbdidnaa
namespace Go.Proofs.Ytfhihhkdbdidnaa
open Go.RowKit

theorem isLetter (n : Int) (w : World) : Calls Try.prog 62 #[.int .u8 n] w fun e w' => e = .returned (.bool (decide (97 ≤ n) && decide (n ≤ 122))) ∧ w' = w := by
  by_cases h1 : 97 ≤ n
  · by_cases h2 : n ≤ 122
    all_goals
      go_enter Try.func62, Try.ntmps62
      go_wp2
      go_ret
      exact ⟨by simp [h1, h2], rfl⟩
  · go_enter Try.func62, Try.ntmps62
    go_wp2
    go_ret
    exact ⟨by simp; omega, rfl⟩
theorem isDigit (n : Int) (w : World) : Calls Try.prog 63 #[.int .u8 n] w fun e w' => e = .returned (.bool (decide (48 ≤ n) && decide (n ≤ 57))) ∧ w' = w := by
  by_cases h1 : 48 ≤ n
  · by_cases h2 : n ≤ 57
    all_goals
      go_enter Try.func63, Try.ntmps63
      go_wp2
      go_ret
      exact ⟨by simp [h1, h2], rfl⟩
  · go_enter Try.func63, Try.ntmps63
    go_wp2
    go_ret
    exact ⟨by simp; omega, rfl⟩

set_option maxHeartbeats 1000000 in
theorem implName (s : ByteArray) (w : World) (hs : s.size ≤ maxLen) :
    Calls Try.prog 42 #[.string s] w fun e w' => AnsB (NameOk s) e ∧ w' = w := by
  unfold maxLen at hs
  by_cases h1 : s.size < 1
  · go_enter Try.func42, Try.ntmps42
    go_wp2
    go_ret
    exact ⟨AnsB.no (fun h => by have := h.1; omega) rfl, rfl⟩
  by_cases h2 : 40 < s.size
  · go_enter Try.func42, Try.ntmps42
    go_wp2
    go_ret
    exact ⟨AnsB.no (fun h => by have := h.2.1; omega) rfl, rfl⟩
  have hp : 0 < s.size := by omega
  by_cases h3 : OkAt s 0 hp
  rotate_left
  · rcases cls (s[0].toNat : Int) with ⟨c, e1, e2, e3, e4, e5⟩ | ⟨c, e1, e2, e3, e4, e5⟩ | ⟨c, e1, e2, e3, e4, e5⟩ | ⟨c, e1, e2, e3, e4, e5⟩ | ⟨c, e1, e2, e3, e4, e5⟩ | ⟨c, e1, e2, e3, e4, e5⟩ | ⟨c, e1, e2, e3, e4, e5⟩
    all_goals
      first
        | (exfalso; exact h3 (by unfold OkAt OkN; omega))
        | (go_enter Try.func42, Try.ntmps42
           go_wp2
           go_ret
           exact ⟨AnsB.no (name_no s 0 hp h3) rfl, rfl⟩)
  have hc : 97 ≤ (s[0].toNat : Int) ∧ (s[0].toNat : Int) ≤ 122 := by unfold OkAt OkN at h3; omega
  obtain ⟨c1, c2⟩ := hc
  have H3 : Hid (OkAt s 0 hp) := h3
  clear h3
  go_enter Try.func42, Try.ntmps42
  go_wp2
  go_loop [3] (fun i => ∃ k : Nat, 1 ≤ k ∧ k ≤ s.size ∧ i = .int .i64 k ∧ OkTo s k) (fun i => s.size - (intOf i).toNat)
  case atStart => exact ⟨1, by omega, by omega, rfl, okTo_succ s 0 hp (okTo_zero s) H3.out⟩
  case round =>
    obtain ⟨k, hk1, hk, rfl, hok⟩ := hrel
    have HO : Hid (OkTo s k) := hok
    clear hok
    by_cases hlt : k < s.size
    · rcases cls (s[k].toNat : Int) with ⟨c, e1, e2, e3, e4, e5⟩ | ⟨c, e1, e2, e3, e4, e5⟩ | ⟨c, e1, e2, e3, e4, e5⟩ | ⟨c, e1, e2, e3, e4, e5⟩ | ⟨c, e1, e2, e3, e4, e5⟩ | ⟨c, e1, e2, e3, e4, e5⟩ | ⟨c, e1, e2, e3, e4, e5⟩
      all_goals
        go_wp2
        first
          | (go_ret; exact ⟨AnsB.no (name_no s k hlt (by unfold OkAt OkN; omega)) rfl, rfl⟩)
          | exact ⟨⟨k + 1, by omega, by omega, by go_num, okTo_succ s k hlt HO.out (by unfold OkAt OkN; omega)⟩, by simp [intOf]; omega⟩
    · go_wp2
      go_ret
      have e : k = s.size := by omega
      have hf := HO.out
      rw [e] at hf
      exact ⟨AnsB.yes ⟨by omega, by omega, hf⟩ rfl, rfl⟩
end Go.Proofs.Ytfhihhkdbdidnaa
namespace Go.Proofs.Ytfhihhkdbdidnaa
open Go.RowKit

theorem implTime (n : Int) (w : World) :
    Calls Try.prog 43 #[.int .i64 n] w fun e w' => e = .returned (.bool (timeB n)) ∧ w' = w := by
  by_cases h0 : 0 ≤ n
  · by_cases h1 : n ≤ 1000000000
    · have HF : Hid (timeB n = true) := by show _ = _; simp [timeB, h0, h1]
      go_enter Try.func43, Try.ntmps43
      go_wp2
      go_ret
      exact ⟨by rw [HF.out]; rfl, rfl⟩
    · have HF : Hid (timeB n = false) := by show _ = _; simp [timeB, h1]
      go_enter Try.func43, Try.ntmps43
      go_wp2
      go_ret
      exact ⟨by rw [HF.out]; rfl, rfl⟩
  · have HF : Hid (timeB n = false) := by show _ = _; simp [timeB, h0]
    go_enter Try.func43, Try.ntmps43
    go_wp2
    go_ret
    exact ⟨by rw [HF.out]; rfl, rfl⟩
theorem implSerial (n : Int) (w : World) :
    Calls Try.prog 41 #[.int .i64 n] w fun e w' => e = .returned (.bool (serB n)) ∧ w' = w := by
  by_cases h0 : 1 ≤ n
  · by_cases h1 : n ≤ 1000000000
    · have HF : Hid (serB n = true) := by show _ = _; simp [serB, h0, h1]
      go_enter Try.func41, Try.ntmps41
      go_wp2
      go_ret
      exact ⟨by rw [HF.out]; rfl, rfl⟩
    · have HF : Hid (serB n = false) := by show _ = _; simp [serB, h1]
      go_enter Try.func41, Try.ntmps41
      go_wp2
      go_ret
      exact ⟨by rw [HF.out]; rfl, rfl⟩
  · have HF : Hid (serB n = false) := by show _ = _; simp [serB, h0]
    go_enter Try.func41, Try.ntmps41
    go_wp2
    go_ret
    exact ⟨by rw [HF.out]; rfl, rfl⟩
theorem implNameB (s : ByteArray) (w : World) (hs : s.size ≤ maxLen) :
    Calls Try.prog 42 #[.string s] w fun e w' => e = .returned (.bool (nameB s)) ∧ w' = w :=
  (implName s w hs).mono fun _ _ h => ⟨ans_name h.1, h.2⟩
end Go.Proofs.Ytfhihhkdbdidnaa
namespace Go.Proofs.Ytfhihhkdbdidnaa
open Go.RowKit

set_option maxHeartbeats 1000000 in
set_option maxRecDepth 100000 in
theorem implNames (a : Option Addr) (ss : List ByteArray) (c : Nat) (w : World) (hl : ss.length ≤ 1048576) (hs : totS ss ss.length ≤ 1048576) (ha : IsStrs w a ss) :
    Calls Try.prog 45 #[.slice a ss.length c] w fun e w' => e = .returned (.bool (namesB ss)) ∧ Below w.heap.size w w' := by
  have HSz : Hid (∀ k, k < ss.length → (tAt ss k).size ≤ 1048576) := fun k hk => Nat.le_trans (totS_at ss hk) hs
  clear hs
  by_cases h5 : 5 < ss.length
  · have HF : Hid (namesB ss = false) := by show _ = _; rw [namesB, decide_eq_false (by omega)]; simp
    go_enter Try.func45, Try.ntmps45
    go_wp2
    go_ret
    exact ⟨by rw [HF.out]; rfl, Below.refl _ _⟩
  go_enter Try.func45, Try.ntmps45
  go_wp2
  go_loopw [10] (fun i wr => ∃ k : Nat, k ≤ ss.length ∧ i = .int .i64 k ∧ okTo ss k = true ∧ Below w.heap.size w wr) (fun i _ => ss.length - (intOf i).toNat)
  case atStart => exact ⟨0, Nat.zero_le _, rfl, rfl, Below.refl _ _⟩
  case round =>
    obtain ⟨k, hk, rfl, hok, hbr⟩ := hrel
    have HOk : Hid (okTo ss k = true) := hok
    have HB : Hid (Below w.heap.size w wr) := hbr
    clear hok
    by_cases hlt : k < ss.length
    · obtain ⟨x, o, rfl, hc⟩ : ∃ x o, a = some ⟨x, o, none⟩ ∧ ∀ i, i < ss.length → wr.cell? ⟨x, o + i, none⟩ = some (.string (tAt ss i)) := by
        rcases ha.below hbr ha.lt with rfl | h
        · simp at hlt
        · exact h
      have hck := hc k hlt
      have hz := HSz.out k hlt
      have HNm : Hid (∀ V : World, Calls Try.prog 42 #[.string (tAt ss k)] V fun e w' => e = .returned (.bool (nameB (tAt ss k))) ∧ w' = V) := fun V => implNameB _ V (by unfold maxLen; omega)
      clear hz
      have a0 : (0 : Int) ≤ (k : Int) := by omega
      have b0 : (k : Int) < (ss.length : Int) := by omega
      cases hn : nameB (tAt ss k) with
      | false =>
        have HF : Hid (namesB ss = false) := by show _ = _; rw [namesB, okTo_no (okN_not hn) hlt]; rfl
        rw [hn] at HNm
        generalize tAt ss k = z at *
        generalize ss.length = n at *
        clear hc ha hbr hn HSz
        go_wp2_with fail
        refine (HNm.out _).mono ?_
        rintro e w2 ⟨rfl, rfl⟩
        go_wp2
        go_ret
        exact ⟨by rw [HF.out]; rfl, HB.out⟩
      | true =>
        rw [hn] at HNm
        by_cases h0 : k = 0
        · subst h0
          have HF : Hid (okN ss 0 = true) := okN_zero hn
          rw [Nat.add_zero] at hck
          generalize tAt ss 0 = z at *
          generalize ss.length = n at *
          clear hc ha hbr hn HSz
          go_wp2_with fail
          refine (HNm.out _).mono ?_
          rintro e w2 ⟨rfl, rfl⟩
          go_wp2
          go_roundw
          case rel => exact ⟨1, by omega, by go_num, okTo_yes HOk.out HF.out, HB.out⟩
          case measure => simp [intOf]; omega
        · have hck1 := hc (k - 1) (by omega)
          have ek : ((k : Int) - 1) = ((k - 1 : Nat) : Int) := by omega
          have ew : IntKind.i64.wrap ((k : Int) - 1) = ((k - 1 : Nat) : Int) := by rw [IntKind.wrap_i64]; omega
          have a1 : (0 : Int) < (k : Int) := by omega
          have b1 : ((k - 1 : Nat) : Int) < (ss.length : Int) := by omega
          have hbl := okN_more (ss := ss) (k := k) (by omega) hn
          cases hr : Op.bytesLess (tAt ss (k - 1)).toList (tAt ss k).toList with
          | false =>
            have HF : Hid (namesB ss = false) := by show _ = _; rw [namesB, okTo_no (hbl.trans hr) hlt]; rfl
            generalize tAt ss k = z at *
            generalize tAt ss (k - 1) = y at *
            generalize k - 1 = k1 at *
            generalize ss.length = n at *
            clear hc ha hbr hn HSz hbl
            go_wp2_with fail
            refine (HNm.out _).mono ?_
            rintro e w2 ⟨rfl, rfl⟩
            go_wp2
            go_ret
            exact ⟨by rw [HF.out]; rfl, HB.out⟩
          | true =>
            have HF : Hid (okN ss k = true) := hbl.trans hr
            generalize tAt ss k = z at *
            generalize tAt ss (k - 1) = y at *
            generalize k - 1 = k1 at *
            generalize ss.length = n at *
            clear hc ha hbr hn HSz hbl
            go_wp2_with fail
            refine (HNm.out _).mono ?_
            rintro e w2 ⟨rfl, rfl⟩
            go_wp2
            go_roundw
            case rel => exact ⟨k + 1, by omega, by go_num, okTo_yes HOk.out HF.out, HB.out⟩
            case measure => simp [intOf]; omega
    · obtain rfl : k = ss.length := by omega
      have HF : Hid (namesB ss = true) := by show _ = _; rw [namesB, HOk.out, decide_eq_true (by omega)]; rfl
      clear ha hbr
      go_wp2
      go_ret
      exact ⟨by rw [HF.out]; rfl, HB.out⟩
end Go.Proofs.Ytfhihhkdbdidnaa
namespace Go.Proofs.Ytfhihhkdbdidnaa
open Go.RowKit

set_option maxHeartbeats 2000000 in
set_option maxRecDepth 100000 in
theorem implPaper (c : Paper) (a : Option Addr) (cap : Nat) (w : World) (hi : c.issuer.size ≤ maxLen) (hs : c.subject.size ≤ maxLen) (hl : c.names.length ≤ 1048576) (ht : totS c.names c.names.length ≤ 1048576) (ha : IsStrs w a c.names) :
    Calls Try.prog 20 #[c.val (.slice a c.names.length cap)] w fun e w' => e = .returned (.bool (paperB c)) ∧ Below w.heap.size w w' := by
  obtain ⟨ser, iss, sub, fr, till, key, names, ca, sk, se, ss⟩ := c
  simp only at hi hs hl ht ha
  unfold Paper.val
  simp only
  obtain ⟨R, hR⟩ : ∃ R, R = paperB ⟨ser, iss, sub, fr, till, key, names, ca, sk, se, ss⟩ := ⟨_, rfl⟩
  rw [← hR]
  have HR : Hid (R = (decide (1 ≤ ser) && decide (ser ≤ 1000000000) && nameB iss && nameB sub && timeB fr && timeB till && decide (fr ≤ till) && rightG key && namesB names)) := hR
  clear hR
  obtain ⟨w1, hw1⟩ : ∃ w1, w1 = w.alloc (.cells #[.int .i64 ser, .string iss, .string sub, .int .i64 fr, .int .i64 till, .int .i64 key, .slice a names.length cap, .bool ca, .int .i64 sk, .int .i64 se, .int .i64 ss] 31 (0, 0)) := ⟨_, rfl⟩
  have hrow : w1.heap[w.heap.size]? = some (.cells [Value.int .i64 ser, .string iss, .string sub, .int .i64 fr, .int .i64 till, .int .i64 key, .slice a names.length cap, .bool ca, .int .i64 sk, .int .i64 se, .int .i64 ss].toArray 31 (0, 0)) := by rw [hw1]; exact heap_alloc_new w _
  have B1 : Hid (Below w.heap.size w w1) := by rw [hw1]; exact (Below.refl _ _).alloc (Nat.le_refl _) _
  have A1 : Hid (IsStrs w1 a names) := ha.keep B1.out
  have c0 := rowFacts hrow 0 _ rfl
  have c1 := rowFacts hrow 1 _ rfl
  have c2 := rowFacts hrow 2 _ rfl
  have c3 := rowFacts hrow 3 _ rfl
  have c4 := rowFacts hrow 4 _ rfl
  have c5 := rowFacts hrow 5 _ rfl
  have c6 := rowFacts hrow 6 _ rfl
  have HNm : Hid (∀ V, IsStrs V a names → Calls Try.prog 45 #[.slice a names.length cap] V fun e w' => e = .returned (.bool (namesB names)) ∧ Below V.heap.size V w') := fun V hV => implNames a names cap V hl ht hV
  have HRow : Hid (w1.heap[w.heap.size]? = some (.cells [Value.int .i64 ser, .string iss, .string sub, .int .i64 fr, .int .i64 till, .int .i64 key, .slice a names.length cap, .bool ca, .int .i64 sk, .int .i64 se, .int .i64 ss].toArray 31 (0, 0))) := hrow
  generalize names.length = nl at *
  clear hrow ha hl ht
  go_enter Try.func20, Try.ntmps20
  go_upto_region 1 with fail
  rw [← hw1]
  clear hw1
  go_wp2_with fail
  refine (implSerial ser _).mono ?_
  rintro e w2 ⟨rfl, rfl⟩
  cases h1 : serB ser with
  | false =>
    have HF : Hid (R = false) := by show _ = _; rw [HR.out]; unfold serB at h1; rw [h1]; rfl
    go_wp2
    go_ret
    exact ⟨by rw [HF.out]; rfl, B1.out⟩
  | true =>
  unfold serB at h1
  rw [h1] at HR
  clear h1
  go_wp2_with fail
  refine (implNameB iss _ hi).mono ?_
  rintro e w2 ⟨rfl, rfl⟩
  cases h3 : nameB iss with
  | false =>
    have HF : Hid (R = false) := by show _ = _; rw [HR.out]; simp [h3]
    go_wp2
    go_ret
    exact ⟨by rw [HF.out]; rfl, B1.out⟩
  | true =>
  rw [h3] at HR
  go_wp2_with fail
  refine (implNameB sub _ hs).mono ?_
  rintro e w2 ⟨rfl, rfl⟩
  cases h4 : nameB sub with
  | false =>
    have HF : Hid (R = false) := by show _ = _; rw [HR.out]; simp [h4]
    go_wp2
    go_ret
    exact ⟨by rw [HF.out]; rfl, B1.out⟩
  | true =>
  rw [h4] at HR
  go_wp2_with fail
  refine (implTime fr _).mono ?_
  rintro e w2 ⟨rfl, rfl⟩
  cases h5 : timeB fr with
  | false =>
    have HF : Hid (R = false) := by show _ = _; rw [HR.out]; simp [h5]
    go_wp2
    go_ret
    exact ⟨by rw [HF.out]; rfl, B1.out⟩
  | true =>
  rw [h5] at HR
  go_wp2_with fail
  refine (implTime till _).mono ?_
  rintro e w2 ⟨rfl, rfl⟩
  cases h6 : timeB till with
  | false =>
    have HF : Hid (R = false) := by show _ = _; rw [HR.out]; simp [h6]
    go_wp2
    go_ret
    exact ⟨by rw [HF.out]; rfl, B1.out⟩
  | true =>
  rw [h6] at HR
  by_cases h7 : fr ≤ till
  rotate_left
  · have h7' : till < fr := by omega
    have HF : Hid (R = false) := by show _ = _; rw [HR.out]; simp [h7]
    go_wp2
    go_ret
    exact ⟨by rw [HF.out]; rfl, B1.out⟩
  rw [decide_eq_true h7] at HR
  go_wp2_with fail
  refine (implGroupRight key _).mono ?_
  rintro e w3 ⟨rfl, b3⟩
  have B3 : Hid (Below w.heap.size w w3) := B1.out.trans (b3.mono B1.out.size)
  have A3 : Hid (IsStrs w3 a names) := A1.out.keep b3
  have d6 := (b3.cell (p := ⟨w.heap.size, 6, none⟩) (heap_lt HRow.out)).trans c6
  clear b3
  cases h8 : rightG key with
  | false =>
    have HF : Hid (R = false) := by show _ = _; rw [HR.out]; simp [h8]
    go_wp2
    go_ret
    exact ⟨by rw [HF.out]; rfl, B3.out⟩
  | true =>
  rw [h8] at HR
  have HF : Hid (R = namesB names) := by show _ = _; rw [HR.out]; simp
  go_wp2_with fail
  refine (HNm.out _ A3.out).mono ?_
  rintro e w4 ⟨rfl, b4⟩
  rw [← HF.out]
  have B4 : Hid (Below w.heap.size w w4) := B3.out.trans (b4.mono B3.out.size)
  clear b4
  go_wp2
  go_ret
  exact ⟨rfl, B4.out⟩
end Go.Proofs.Ytfhihhkdbdidnaa
namespace Go.Proofs.Ytfhihhkdbdidnaa
open Go.RowKit Go.Lib

theorem sign_bits (n : Int) (h0 : -9223372036854775808 ≤ n) (h1 : n ≤ 9223372036854775807) : bits BinOp.xor IntKind.i64 n (n / 9223372036854775808) = (bareN n : Int) := by
  have hn : n / 9223372036854775808 = 0 ∨ n / 9223372036854775808 = -1 := by omega
  rcases hn with e | e
  · rw [e]
    have : bits BinOp.xor IntKind.i64 n 0 = IntKind.i64.wrap ((BitVec.ofInt 64 n ^^^ BitVec.ofInt 64 0).toNat : Nat) := rfl
    rw [this, show BitVec.ofInt 64 0 = 0#64 from by decide, BitVec.xor_zero, BitVec.toNat_ofInt, IntKind.wrap_i64]
    unfold bareN
    split <;> omega
  · rw [e]
    have : bits BinOp.xor IntKind.i64 n (-1) = IntKind.i64.wrap ((BitVec.ofInt 64 n ^^^ BitVec.ofInt 64 (-1)).toNat : Nat) := rfl
    rw [this, show BitVec.ofInt 64 (-1) = BitVec.allOnes 64 from by decide, BitVec.xor_allOnes, BitVec.toNat_not, BitVec.toNat_ofInt, IntKind.wrap_i64]
    unfold bareN
    split <;> omega
set_option maxHeartbeats 1000000 in
set_option maxRecDepth 100000 in
theorem bodyNumber (n : Int) (w : World) (h0 : -9223372036854775808 ≤ n) (h1 : n ≤ 9223372036854775807) :
    Calls Try.prog 109 #[.agg #[.int .i64 n]] w fun e w' => e = .returned (.string (strOfNums (intL n))) ∧ Below w.heap.size w w' := by
  obtain ⟨i0, hi, hz0, hz1, hz2⟩ := info_parts infoByte
  have hx := sign_bits n h0 h1
  have hbl := intL_bits h0 h1
  have hl8 := (intL_len n).2
  have hbn : bareN n < 9223372036854775808 := by unfold bareN; split <;> omega
  go_enter Try.func109, Try.ntmps109
  go_wp2_with fail
  refine (len64 _ _ (by omega) (by omega)).mono ?_
  rintro e w' ⟨rfl, rfl⟩
  rw [show ((bareN n : Int).toNat) = bareN n from rfl]
  obtain ⟨c, hc⟩ : ∃ c, c = (intL n).length := ⟨_, rfl⟩
  have hq : (Lib.bitLen (bareN n) : Int) / 8 + 1 = (c : Int) := by omega
  have hb64 : Lib.bitLen (bareN n) ≤ 64 := Lib.bitLen_le _ 64 (by omega) (by omega)
  have hc8 : c ≤ 8 := by omega
  have hc1 : 1 ≤ c := by omega
  have HA : Hid (∀ i, i < c → (intL n).getD (c - 1 - i) 0 = n / 256 ^ i % 256) := fun i hi => by rw [hc]; exact intL_at (by omega)
  have HC : Hid (c = (intL n).length) := hc
  generalize Lib.bitLen (bareN n) = L at *
  clear hbl hx hbn hl8 hc
  go_wp2_with (at_make; refine wpList_make_full _ rfl _ _ 67 rfl (w.heap.size + 1) 5 i0 (.int .u8 0) 1 Try.underlying67 hi hz0 hz1 .i64 .i64 _ _ c rfl rfl ?c1 ?c2 ?c3 ?c4 ?c5 ?_)
  case c1 => omega
  case c2 => omega
  case c3 => rw [hz2]; omega
  case c4 => unfold maxLen; omega
  case c5 => simp
  intro w1 hown hgrow
  have hlw : (w.alloc (Obj.cells #[.int .i64 n] 60)).heap.size = w.heap.size + 1 := by simp
  have hb1 : Below (w.heap.size + 1) (w.alloc (Obj.cells #[.int .i64 n] 60)) w1 := (Below.refl _ _).grown hgrow (by rw [hlw]; exact Nat.le_refl _) (fun k hk => by cases hk)
  have hB1 : Below w.heap.size w w1 := ((Below.refl _ w).alloc (Nat.le_refl _) _).trans (hb1.mono (Nat.le_succ _))
  have ht : w1.cell? ⟨w.heap.size, 0, none⟩ = some (.int .i64 n) := (hb1.cell (by simp)).trans (by simp)
  obtain ⟨hrow, hlen⟩ := rowOf hown rfl
  generalize (madeCells #[Value.int IntKind.u8 0] c).toList = M0 at hrow hlen
  clear hgrow hlw hb1 hown
  go_wp2_with fail
  go_loopw [19] (fun i wr => ∃ (k : Nat) (M : List Value), k ≤ c ∧ i = .int .i64 (k : Int) ∧ M.length = c ∧ wr.heap[w.heap.size + 1]? = some (.cells M.toArray 5 (0, 0)) ∧ wr.cell? ⟨w.heap.size, 0, none⟩ = some (.int .i64 n) ∧
      (∀ j, j < c → c - k ≤ j → M[j]? = some (.int .u8 ((intL n).getD j 0))) ∧ Below w.heap.size w wr)
    (fun i _ => c - (Lib.intOf i).toNat)
  case atStart => exact ⟨0, M0, Nat.zero_le _, rfl, hlen, hrow, ht, fun j h1 h2 => by omega, hB1⟩
  case round =>
    obtain ⟨k, M, hk, rfl, hM, hr, htw, hat, hbel⟩ := hrel
    have HAt : Hid (∀ j, j < c → c - k ≤ j → M[j]? = some (.int .u8 ((intL n).getD j 0))) := hat
    have HR : Hid (wr.heap[w.heap.size + 1]? = some (.cells M.toArray 5 (0, 0))) := hr
    clear hat hrow hlen hB1 ht
    by_cases hlt : k < c
    · obtain ⟨j, hj⟩ : ∃ j, j = c - 1 - k := ⟨_, rfl⟩
      have hjc : j < c := by omega
      have e1 : (c : Int) - 1 - (k : Int) = (j : Int) := by omega
      have hv : wr.cell? ⟨w.heap.size + 1, j, none⟩ = some (M[j]'(by omega)) := rowFacts hr j _ (List.getElem?_eq_getElem (by omega))
      generalize M[j]'(by omega) = v0 at hv
      have hf : wr.frozen? ⟨w.heap.size + 1, j, none⟩ = false := frozen_of_row wr _ j _ _ hr
      have HJ : Hid (j = c - 1 - k) := hj
      clear hj hr
      have HC2 : Hid (∀ v, (wr.setCell ⟨w.heap.size + 1, j, none⟩ v).cell? ⟨w.heap.size, 0, none⟩ = some (.int .i64 n)) := fun v => by
        rw [((Below.refl (w.heap.size + 1) wr).setCell (Nat.le_refl _) v).cell (p := ⟨w.heap.size, 0, none⟩) (by simp)]; exact htw
      have HB2 : Hid (∀ v, Below w.heap.size w (wr.setCell ⟨w.heap.size + 1, j, none⟩ v)) := fun v => hbel.setCell (by simp) v
      clear hbel
      go_wp2
      go_roundw
      case rel =>
        have hj := HJ.out
        refine ⟨k + 1, M.set j (.int .u8 (n / 2 ^ (8 * k) % 256)), by omega, by go_num, by simpa using hM, rowSet _ HR.out, HC2.out _, ?_, HB2.out _⟩
        intro i hi1 hi2
        by_cases ei : i = j
        · subst ei
          rw [List.getElem?_set_self (by omega)]
          have ha := HA.out k hlt
          rw [← hj] at ha
          rw [ha, show (256 : Int) ^ k = 2 ^ (8 * k) from by rw [Int.pow_mul]; rfl]
        · rw [List.getElem?_set_ne (by omega)]
          exact HAt.out i hi1 (by omega)
      case measure => simp [Lib.intOf]; omega
    · obtain rfl : k = c := by omega
      have hcv : (convert 67 9 (.slice (some ⟨w.heap.size + 1, 0, none⟩) k k)).run Try.prog wr = .ok (.string (strOfNums (intL n))) wr := by
        have hc := HC.out
        refine convertRow wr _ (intL n) 5 k k hc.symm ?_
        rw [hr]
        congr 3
        apply List.ext_getElem?
        intro j
        rcases Nat.lt_or_ge j k with hj | hj
        · rw [HAt.out j hj (by omega)]
          simp [List.getD, List.getElem?_eq_getElem (show j < (intL n).length by omega)]
        · rw [List.getElem?_eq_none (by omega), List.getElem?_eq_none (by simp; omega)]
      clear hr HR HAt
      go_wp2
      go_ret
      exact ⟨rfl, hbel⟩
end Go.Proofs.Ytfhihhkdbdidnaa
namespace Go.Proofs.Ytfhihhkdbdidnaa
open Go.RowKit Go.Lib

theorem tagNumber (n : Int) (w : World) :
    Calls Try.prog 73 #[.iface 60 (.agg #[.int .i64 n])] w fun e w' => e = .returned (.int .i64 2) ∧ Below w.heap.size w w' := by
  have x0 := as10
  go_enter Try.func73, Try.ntmps73
  go_wp2
  go_ret
  exact ⟨rfl, (Below.refl _ _).alloc (Nat.le_refl _) _⟩
theorem methodNumber (v : Value) (w : World) : (Go.method 216 60 v "loop.example/g00371/impl.body").run Try.prog w = .ok (109, v) w := by kernel_rfl
set_option maxHeartbeats 1000000 in
set_option maxRecDepth 100000 in
theorem layNumber (n : Int) (b : ByteArray) (w : World) (h0 : -9223372036854775808 ≤ n) (h1 : n ≤ 9223372036854775807) (heq : b = strOfNums (intL n)) :
    Calls Try.prog 54 #[.iface 60 (.agg #[.int .i64 n])] w fun e w' => e = .returned (.string (thingD 2 b)) ∧ Below w.heap.size w w' := by
  have hb : b.size ≤ 4000 := by have := (intL_len n).2; rw [heq, strOfNums_size]; omega
  have hmt := methodNumber
  have ew : IntKind.u8.wrap 2 = 2 := by rw [IntKind.wrap_u8]; rfl
  go_enter Try.func54, Try.ntmps54
  go_wp2_with fail
  refine (bodyNumber n _ h0 h1).mono ?_
  rintro e w1 ⟨rfl, hb1⟩
  rw [← heq]
  clear heq h0 h1
  have s1 := hb1.size
  have HT1 : Hid (∀ V : World, Hid (Below w.heap.size w V) → Calls Try.prog 73 #[.iface 60 (.agg #[.int .i64 n])] V fun e W => e = .returned (.int .i64 2) ∧ Hid (Below w.heap.size w W)) := fun V hV => by
    refine (tagNumber n V).mono ?_
    rintro e W ⟨rfl, hW⟩
    exact ⟨rfl, hV.out.trans (hW.mono hV.out.size)⟩
  have HT2 : Hid (∀ V : World, Hid (Below w.heap.size w V) → Calls Try.prog 74 #[.int .i64 (b.size : Int)] V fun e W => e = .returned (.string (strOfNums (lenD b.size))) ∧ Hid (Below w.heap.size w W) ∧ Hid (∀ k o, V.heap[k]? = some o → W.heap[k]? = some o)) := fun V hV => by
    refine (putLength b.size V hb).mono ?_
    rintro e W ⟨rfl, hW⟩
    refine ⟨rfl, hV.out.trans (hW.mono hV.out.size), fun k o hk => ?_⟩
    rw [hW.block k (heap_lt hk)]; exact hk
  have HF : Hid (∀ s l, s = strOfNums [2] → l = strOfNums (lenD b.size) → s ++ l ++ b = thingD 2 b) := fun s l hs hl => by
    subst hs hl
    unfold thingD headD
    congr 1
  have hl1 : (strOfNums [2]).size = 1 := rfl
  have hl2 : (strOfNums (lenD b.size)).size ≤ 3 := by rw [strOfNums_size]; exact lenD_le _
  have hcv := fun V => convertLit V #[.int .u8 2] [2] rfl 1 rfl 5
  have HE := HF.out _ _ rfl rfl
  have HCR := fun W2 k h => convertRow W2 k [2] 5 1 1 rfl h
  generalize strOfNums [2] = s at *
  generalize strOfNums (lenD b.size) = l at *
  have HE : Hid (s ++ l ++ b = thingD 2 b) := HE
  have HCR : Hid (∀ (W2 : World) (k : Nat), W2.heap[k]? = some (.cells ([2].map (Value.int .u8)).toArray 5 (0, 0)) → (convert 67 9 (.slice (some ⟨k, 0, none⟩) 1 1)).run Try.prog W2 = .ok (.string s) W2) := HCR
  have HJ : Hid (∀ (V : World) (x y : ByteArray), Hid (Below w.heap.size w V) → x.size ≤ 4 → y.size ≤ 4000 → Calls Try.prog 56 #[.string x, .string y] V fun e W => e = .returned (.string (x ++ y)) ∧ Hid (Below w.heap.size w W)) := fun V x y hV hx hy => by
    refine (joinTexts x y V (by omega) (by omega)).mono ?_
    rintro e W ⟨rfl, hW⟩
    exact ⟨rfl, hV.out.trans (hW.mono hV.out.size)⟩
  have B1 : Hid (Below w.heap.size w w1) := hb1
  have HA : Hid (∀ V o, Hid (Below w.heap.size w V) → Hid (Below w.heap.size w (V.alloc o))) := fun V o h => h.out.alloc h.out.size o
  clear hb1 hmt HF
  go_wp2_with fail
  have D1 : Hid (Below w.heap.size w w1.drew) := B1.out.drew
  go_region_with (first
    | (go_at_call 73; refine (HT1.out _ (by first | assumption | exact HA.out _ _ (by assumption))).mono ?_; rintro r W1 ⟨rfl, k1⟩)
    | (go_at_call 74; refine (HT2.out _ (by first | assumption | exact HA.out _ _ (by assumption))).mono ?_; rintro r W2 ⟨rfl, k2, e2⟩; (first | have hcv2 := HCR.out W2 _ (e2.out _ _ (heap_alloc_new _ _)) | skip))
    | (go_at_call 56; refine (HJ.out _ _ _ (by first | assumption | exact HA.out _ _ (by assumption)) (by omega) (by omega)).mono ?_; rintro r W3 ⟨rfl, k3⟩))
  all_goals
    have hl3 : (s ++ l).size ≤ 4 := by rw [ByteArray.size_append]; omega
    have HQ := HJ.out W3 (s ++ l) b k3 hl3 hb
    rw [HE.out] at HQ
    generalize s ++ l = q at *
    have HQ : Hid (Calls Try.prog 56 #[.string q, .string b] W3 fun e W => e = .returned (.string (thingD 2 b)) ∧ Hid (Below w.heap.size w W)) := HQ
    clear HT1 HT2 HJ HCR HE hcv
    go_wp2_with fail
    refine HQ.out.mono ?_
    rintro r W4 ⟨rfl, k4⟩
    go_wp2
    go_ret
    exact ⟨rfl, k4.out⟩

theorem implDerInt (n : Int) (w : World) (h0 : -9223372036854775808 ≤ n) (h1 : n ≤ 9223372036854775807) :
    Calls Try.prog 27 #[.int .i64 n] w fun e w' => e = .returned (.string (thingD 2 (strOfNums (intL n)))) ∧ Below w.heap.size w w' := by
  have HB : Hid (∀ v : World, Calls Try.prog 54 #[.iface 60 (.agg #[.int .i64 n])] v fun e w' => e = .returned (.string (thingD 2 (strOfNums (intL n)))) ∧ Below v.heap.size v w') := fun v => layNumber n _ v h0 h1 rfl
  generalize thingD 2 (strOfNums (intL n)) = s at *
  go_enter Try.func27, Try.ntmps27
  go_wp2_with fail
  refine (HB.out _).mono ?_
  rintro e w1 ⟨rfl, hb1⟩
  go_wp2
  go_ret
  exact ⟨rfl, hb1⟩
end Go.Proofs.Ytfhihhkdbdidnaa
