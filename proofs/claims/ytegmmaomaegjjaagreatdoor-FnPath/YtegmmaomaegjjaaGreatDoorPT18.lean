/- Is a time within two others? Is a paper good? Plain mathematics: no program is named here. Is a paper good: plain mathematics, no program is named here. impl.isWithin, walked. impl.isListed, walked. How large what a path is asked of may be. FnExactNameRight, walks: 'impl.NameRight' answers true just where the text is a right name; the law. impl.isTime, NameRight, walked. impl.isSerial, walked. impl.isTime, impl.namesRight, walked. impl.rightButSig, walked. impl.isRemainder, impl.SigRight, walked. impl.rightButSig, impl.CertRight, walked. math/bits.Len64 and Len, walked. impl.lengthBytes, walked. Rows of bytes that are known whole, made into texts. impl.putLength, walked. Kinds of thing, told apart. -/
import Derived.Test.YtegmmaomaegjjaaGreatDoorPT01
import Derived.Test.YtegmmaomaegjjaaGreatDoorPT03
import Derived.Test.YtegmmaomaegjjaaGreatDoorPT05
import Derived.Test.YtegmmaomaegjjaaGreatDoorPT12
import Derived.WalkMore
import Derived.Test.YtegmmaomaegjjaaGreatDoorPT06
import Derived.Test.YtegmmaomaegjjaaGreatDoorPT02
import Derived.WalkLawsBesides
import Derived.Deep.Cut
import Derived.Lib.BitFns
import Derived.Lib.Walk
namespace Go.Proofs.YtegmmaomaegjjaaGreatDoor
open Go.RowKit

def withinB (t a b : Int) : Bool := decide (a ≤ t) && decide (t ≤ b)
end Go.Proofs.YtegmmaomaegjjaaGreatDoor
namespace Go.Proofs.YtegmmaomaegjjaaGreatDoor
open Go.RowKit

noncomputable def goodB (k : Int) (c : Paper) : Bool := certB c && decide (k = c.sk) && sigCB c.sk c.se c.ss (bodyD c)
end Go.Proofs.YtegmmaomaegjjaaGreatDoor
namespace Go.Proofs.YtegmmaomaegjjaaGreatDoor
open Go.RowKit

/-- Is one of the first k that number? -/
def hasTo (zs : List Int) (n : Int) : Nat → Bool
  | 0 => false
  | k + 1 => hasTo zs n k || decide (zs.getD k 0 = n)
def hasB (zs : List Int) (n : Int) : Bool := hasTo zs n zs.length
theorem hasTo_yes {zs : List Int} {n : Int} {k : Nat} (h : zs.getD k 0 = n) : ∀ {m : Nat}, k < m → hasTo zs n m = true := by
  intro m
  induction m with
  | zero => intro h'; omega
  | succ m ih =>
    intro h'
    show (hasTo zs n m || decide (zs.getD m 0 = n)) = true
    by_cases e : k = m
    · subst e; rw [decide_eq_true h, Bool.or_true]
    · rw [ih (by omega)]; rfl
theorem hasTo_more {zs : List Int} {n : Int} {k : Nat} (h : hasTo zs n k = false) (h' : zs.getD k 0 ≠ n) : hasTo zs n (k + 1) = false := by
  show (hasTo zs n k || decide (zs.getD k 0 = n)) = false
  rw [h, decide_eq_false h']; rfl
/-- They rise: from one on all are greater still. -/
theorem okS_rise {zs : List Int} : ∀ {m : Nat}, okSTo zs m = true → ∀ {i j : Nat}, i < j → j < m → zs.getD i 0 < zs.getD j 0 := by
  intro m
  induction m with
  | zero => intro _ i j _ h; omega
  | succ m ih =>
    intro h i j hij hj
    have h' : (okSTo zs m && okS zs m) = true := h
    rw [Bool.and_eq_true] at h'
    by_cases e : j = m
    · subst e
      have h2 := h'.2
      unfold okS at h2
      simp only [Bool.and_eq_true, Bool.or_eq_true, decide_eq_true_eq] at h2
      have h3 : zs.getD (j - 1) 0 < zs.getD j 0 := by rcases h2.2 with h | h
                                                      · omega
                                                      · exact h
      by_cases e2 : i = j - 1
      · rw [e2]; exact h3
      · exact Int.lt_trans (ih h'.1 (i := i) (j := j - 1) (by omega) (by omega)) h3
    · exact ih h'.1 hij (by omega)
theorem hasTo_rise {zs : List Int} {n : Int} {k : Nat} (hz : okSTo zs zs.length = true) (hk : k < zs.length) (h : hasTo zs n k = false) (h' : n < zs.getD k 0) : ∀ {m : Nat}, k ≤ m → m ≤ zs.length → hasTo zs n m = false := by
  intro m
  induction m with
  | zero => intro h1 _; have : k = 0 := by omega
            subst this; exact h
  | succ m ih =>
    intro h1 h2
    by_cases e : k = m + 1
    · rw [← e]; exact h
    · refine hasTo_more (ih (by omega) (by omega)) ?_
      by_cases e2 : k = m
      · subst e2; omega
      · have := okS_rise hz (i := k) (j := m) (by omega) (by omega)
        omega
noncomputable def formP (r c : Paper) (l : Lst) (t : Int) : Bool := certB r && certB c && crlB l && timeB t
noncomputable def issP (r c : Paper) : Bool := r.ca && goodB r.key r && (c.issuer.toList == r.subject.toList)
noncomputable def noneP (r : Paper) (l : Lst) (t : Int) : Bool := (l.issuer.toList == r.subject.toList) && crlGoodB r.key l && withinB t l.fr l.till
noncomputable def pathC (r c : Paper) (l : Lst) (t : Int) : Int :=
  if formP r c l t = true then
    if issP r c = true then
      if goodB r.key c = true then
        if (withinB t r.fr r.till && withinB t c.fr c.till) = true then
          if noneP r l t = true then
            if hasB l.serials c.serial = true then 14 else 0
          else 8
        else 12
      else 6
    else 13
  else 1
/-- Is one of the first k that text? -/
def textTo (ss : List ByteArray) (n : ByteArray) : Nat → Bool
  | 0 => false
  | k + 1 => textTo ss n k || ((tAt ss k).toList == n.toList)
noncomputable def pathN (r c : Paper) (l : Lst) (t : Int) (n : ByteArray) : Bool := decide (pathC r c l t = 0) && textTo c.names n c.names.length
end Go.Proofs.YtegmmaomaegjjaaGreatDoor
namespace Go.Proofs.YtegmmaomaegjjaaGreatDoor
open Go.RowKit

theorem implWithin (t a b : Int) (w : World) : Calls Tryz.prog 29 #[.int .i64 t, .int .i64 a, .int .i64 b] w fun e w' => e = .returned (.bool (withinB t a b)) ∧ w' = w := by
  by_cases h1 : a ≤ t
  · by_cases h2 : t ≤ b
    · have HF : Hid (withinB t a b = true) := by show _ = _; rw [withinB, decide_eq_true h1, decide_eq_true h2]; rfl
      go_enter Tryz.func29, Tryz.ntmps29
      go_wp2
      go_ret
      exact ⟨by rw [HF.out]; rfl, rfl⟩
    · have HF : Hid (withinB t a b = false) := by show _ = _; rw [withinB, decide_eq_true h1, decide_eq_false h2]; rfl
      go_enter Tryz.func29, Tryz.ntmps29
      go_wp2
      go_ret
      exact ⟨by rw [HF.out]; rfl, rfl⟩
  · have HF : Hid (withinB t a b = false) := by show _ = _; rw [withinB, decide_eq_false h1]; rfl
    go_enter Tryz.func29, Tryz.ntmps29
    go_wp2
    go_ret
    exact ⟨by rw [HF.out]; rfl, rfl⟩
end Go.Proofs.YtegmmaomaegjjaaGreatDoor
namespace Go.Proofs.YtegmmaomaegjjaaGreatDoor
open Go.RowKit

set_option linter.unusedSimpArgs false in
set_option maxHeartbeats 1000000 in
set_option maxRecDepth 100000 in
theorem implListed (n : Int) (a : Option Addr) (zs : List Int) (c : Nat) (w : World) (hl : zs.length ≤ 1048576) (ha : IsInts w a zs) (hz : okSTo zs zs.length = true) :
    Calls Tryz.prog 31 #[.int .i64 n, .slice a zs.length c] w fun e w' => e = .returned (.bool (hasB zs n)) ∧ Below w.heap.size w w' := by
  go_enter Tryz.func31, Tryz.ntmps31
  go_wp2
  go_step3
  go_wp2
  go_step3
  go_wp2
  go_loopw [5, 10] (fun f i wr => ∃ k : Nat, k ≤ zs.length ∧ f = .bool false ∧ i = .int .i64 k ∧ hasTo zs n k = false ∧ wr = w) (fun _ i _ => zs.length - (intOf i).toNat)
  case atStart => exact ⟨0, Nat.zero_le _, rfl, rfl, rfl, rfl⟩
  case round =>
    obtain ⟨k, hk, rfl, rfl, hok, rfl⟩ := hrel
    have HOk : Hid (hasTo zs n k = false) := hok
    clear hok
    by_cases hlt : k < zs.length
    · obtain ⟨x, o, rfl, hc⟩ : ∃ x o, a = some ⟨x, o, none⟩ ∧ ∀ i, i < zs.length → wr.cell? ⟨x, o + i, none⟩ = some (.int .i64 (zs.getD i 0)) := by
        rcases ha with rfl | h
        · simp at hlt
        · exact h
      have hck := hc k hlt
      have a0 : (0 : Int) ≤ (k : Int) := by omega
      have b0 : (k : Int) < (zs.length : Int) := by omega
      by_cases he : zs.getD k 0 = n
      · have HF : Hid (hasB zs n = true) := hasTo_yes he hlt
        rw [he] at hck
        generalize zs.length = m at *
        clear hc ha he
        go_wp2
        try rw [Exit.noGoto_ret]
        go_ret
        exact ⟨by rw [HF.out]; rfl, Below.refl _ _⟩
      · by_cases hgt : n < zs.getD k 0
        · have HF : Hid (hasB zs n = false) := hasTo_rise hz hlt HOk.out hgt (by omega) (Nat.le_refl _)
          generalize zs.getD k 0 = z at *
          generalize zs.length = m at *
          clear hc ha
          go_wp2
          try rw [Exit.noGoto_ret]
          go_ret
          exact ⟨by rw [HF.out]; rfl, Below.refl _ _⟩
        · have HF : Hid (hasTo zs n (k + 1) = false) := hasTo_more HOk.out he
          generalize zs.getD k 0 = z at *
          generalize zs.length = m at *
          clear hc ha
          go_wp2
          go_roundw
          case rel => exact ⟨k + 1, by omega, rfl, by go_num, HF.out, by first | rfl | trivial⟩
          case measure => simp [intOf]; omega
    · obtain rfl : k = zs.length := by omega
      have HF : Hid (hasB zs n = false) := HOk.out
      clear ha
      go_wp2
      try rw [Exit.noGoto_ret]
      go_ret
      exact ⟨by rw [HF.out]; rfl, Below.refl _ _⟩
end Go.Proofs.YtegmmaomaegjjaaGreatDoor
namespace Go.Proofs.YtegmmaomaegjjaaGreatDoor
open Go.RowKit

/-- A paper that is not too large; a list. -/
def PIn (c : Paper) : Prop := c.issuer.size ≤ maxLen ∧ c.subject.size ≤ maxLen ∧ c.names.length ≤ 1048576 ∧ totS c.names c.names.length ≤ 1048576
def LIn (c : Lst) : Prop := c.issuer.size ≤ maxLen ∧ c.serials.length ≤ 1048576
theorem crlB_ok {l : Lst} (h : crlB l = true) : okSTo l.serials l.serials.length = true := by
  unfold crlB listB serialsB at h
  simp only [Bool.and_eq_true] at h
  exact h.1.2.1
end Go.Proofs.YtegmmaomaegjjaaGreatDoor
namespace Go.Proofs.YtegmmaomaegjjaaGreatDoor
open Go.RowKit

theorem isLetter (n : Int) (w : World) : Calls Tryz.prog 98 #[.int .u8 n] w fun e w' => e = .returned (.bool (decide (97 ≤ n) && decide (n ≤ 122))) ∧ w' = w := by
  by_cases h1 : 97 ≤ n
  · by_cases h2 : n ≤ 122
    all_goals
      go_enter Tryz.func98, Tryz.ntmps98
      go_wp2
      go_ret
      exact ⟨by simp [h1, h2], rfl⟩
  · go_enter Tryz.func98, Tryz.ntmps98
    go_wp2
    go_ret
    exact ⟨by simp; omega, rfl⟩
theorem isDigit (n : Int) (w : World) : Calls Tryz.prog 99 #[.int .u8 n] w fun e w' => e = .returned (.bool (decide (48 ≤ n) && decide (n ≤ 57))) ∧ w' = w := by
  by_cases h1 : 48 ≤ n
  · by_cases h2 : n ≤ 57
    all_goals
      go_enter Tryz.func99, Tryz.ntmps99
      go_wp2
      go_ret
      exact ⟨by simp [h1, h2], rfl⟩
  · go_enter Tryz.func99, Tryz.ntmps99
    go_wp2
    go_ret
    exact ⟨by simp; omega, rfl⟩

set_option maxHeartbeats 1000000 in
theorem implName (s : ByteArray) (w : World) (hs : s.size ≤ maxLen) :
    Calls Tryz.prog 66 #[.string s] w fun e w' => AnsB (NameOk s) e ∧ w' = w := by
  unfold maxLen at hs
  by_cases h1 : s.size < 1
  · go_enter Tryz.func66, Tryz.ntmps66
    go_wp2
    go_ret
    exact ⟨AnsB.no (fun h => by have := h.1; omega) rfl, rfl⟩
  by_cases h2 : 40 < s.size
  · go_enter Tryz.func66, Tryz.ntmps66
    go_wp2
    go_ret
    exact ⟨AnsB.no (fun h => by have := h.2.1; omega) rfl, rfl⟩
  have hp : 0 < s.size := by omega
  by_cases h3 : OkAt s 0 hp
  rotate_left
  · rcases cls (s[0].toNat : Int) with ⟨c, e1, e2, e3, e4, e5⟩ | ⟨c, e1, e2, e3, e4, e5⟩ | ⟨c, e1, e2, e3, e4, e5⟩ | ⟨c, e1, e2, e3, e4, e5⟩ | ⟨c, e1, e2, e3, e4, e5⟩ | ⟨c, e1, e2, e3, e4, e5⟩ | ⟨c, e1, e2, e3, e4, e5⟩
    all_goals
      first
        | (exfalso; exact h3 (by unfold OkAt OkN; omega))
        | (go_enter Tryz.func66, Tryz.ntmps66
           go_wp2
           go_ret
           exact ⟨AnsB.no (name_no s 0 hp h3) rfl, rfl⟩)
  have hc : 97 ≤ (s[0].toNat : Int) ∧ (s[0].toNat : Int) ≤ 122 := by unfold OkAt OkN at h3; omega
  obtain ⟨c1, c2⟩ := hc
  have H3 : Hid (OkAt s 0 hp) := h3
  clear h3
  go_enter Tryz.func66, Tryz.ntmps66
  go_wp2
  go_loop [3] (fun i => ∃ k : Nat, 1 ≤ k ∧ k ≤ s.size ∧ i = .int .i64 k ∧ OkTo s k) (fun i => s.size - (intOf i).toNat)
  case atStart => exact ⟨1, by omega, by omega, rfl, okTo_succ s 0 hp (okTo_zero s) H3.out⟩
  case round =>
    obtain ⟨k, hk1, hk, rfl, hok⟩ := hrel
    have HO : Hid (OkTo s k) := hok
    clear hok
    by_cases hlt : k < s.size
    · rcases cls (s[k].toNat : Int) with ⟨c, e1, e2, e3, e4, e5⟩ | ⟨c, e1, e2, e3, e4, e5⟩ | ⟨c, e1, e2, e3, e4, e5⟩ | ⟨c, e1, e2, e3, e4, e5⟩ | ⟨c, e1, e2, e3, e4, e5⟩ | ⟨c, e1, e2, e3, e4, e5⟩ | ⟨c, e1, e2, e3, e4, e5⟩
      all_goals
        go_wp2
        first
          | (go_ret; exact ⟨AnsB.no (name_no s k hlt (by unfold OkAt OkN; omega)) rfl, rfl⟩)
          | exact ⟨⟨k + 1, by omega, by omega, by go_num, okTo_succ s k hlt HO.out (by unfold OkAt OkN; omega)⟩, by simp [intOf]; omega⟩
    · go_wp2
      go_ret
      have e : k = s.size := by omega
      have hf := HO.out
      rw [e] at hf
      exact ⟨AnsB.yes ⟨by omega, by omega, hf⟩ rfl, rfl⟩
end Go.Proofs.YtegmmaomaegjjaaGreatDoor
namespace Go.Proofs.YtegmmaomaegjjaaGreatDoor
open Go.RowKit

theorem implTime (n : Int) (w : World) :
    Calls Tryz.prog 27 #[.int .i64 n] w fun e w' => e = .returned (.bool (timeB n)) ∧ w' = w := by
  by_cases h0 : 0 ≤ n
  · by_cases h1 : n ≤ 1000000000
    · have HF : Hid (timeB n = true) := by show _ = _; simp [timeB, h0, h1]
      go_enter Tryz.func27, Tryz.ntmps27
      go_wp2
      go_ret
      exact ⟨by rw [HF.out]; rfl, rfl⟩
    · have HF : Hid (timeB n = false) := by show _ = _; simp [timeB, h1]
      go_enter Tryz.func27, Tryz.ntmps27
      go_wp2
      go_ret
      exact ⟨by rw [HF.out]; rfl, rfl⟩
  · have HF : Hid (timeB n = false) := by show _ = _; simp [timeB, h0]
    go_enter Tryz.func27, Tryz.ntmps27
    go_wp2
    go_ret
    exact ⟨by rw [HF.out]; rfl, rfl⟩
theorem implNameB (s : ByteArray) (w : World) (hs : s.size ≤ maxLen) :
    Calls Tryz.prog 66 #[.string s] w fun e w' => e = .returned (.bool (nameB s)) ∧ w' = w :=
  (implName s w hs).mono fun _ _ h => ⟨ans_name h.1, h.2⟩
end Go.Proofs.YtegmmaomaegjjaaGreatDoor
namespace Go.Proofs.YtegmmaomaegjjaaGreatDoor
open Go.RowKit

theorem implSerial (n : Int) (w : World) :
    Calls Tryz.prog 65 #[.int .i64 n] w fun e w' => e = .returned (.bool (serB n)) ∧ w' = w := by
  by_cases h0 : 1 ≤ n
  · by_cases h1 : n ≤ 1000000000
    · have HF : Hid (serB n = true) := by show _ = _; simp [serB, h0, h1]
      go_enter Tryz.func65, Tryz.ntmps65
      go_wp2
      go_ret
      exact ⟨by rw [HF.out]; rfl, rfl⟩
    · have HF : Hid (serB n = false) := by show _ = _; simp [serB, h1]
      go_enter Tryz.func65, Tryz.ntmps65
      go_wp2
      go_ret
      exact ⟨by rw [HF.out]; rfl, rfl⟩
  · have HF : Hid (serB n = false) := by show _ = _; simp [serB, h0]
    go_enter Tryz.func65, Tryz.ntmps65
    go_wp2
    go_ret
    exact ⟨by rw [HF.out]; rfl, rfl⟩
end Go.Proofs.YtegmmaomaegjjaaGreatDoor
namespace Go.Proofs.YtegmmaomaegjjaaGreatDoor
open Go.RowKit

set_option maxHeartbeats 1000000 in
set_option maxRecDepth 100000 in
theorem implNames (a : Option Addr) (ss : List ByteArray) (c : Nat) (w : World) (hl : ss.length ≤ 1048576) (hs : totS ss ss.length ≤ 1048576) (ha : IsStrs w a ss) :
    Calls Tryz.prog 68 #[.slice a ss.length c] w fun e w' => e = .returned (.bool (namesB ss)) ∧ Below w.heap.size w w' := by
  have HSz : Hid (∀ k, k < ss.length → (tAt ss k).size ≤ 1048576) := fun k hk => Nat.le_trans (totS_at ss hk) hs
  clear hs
  by_cases h5 : 5 < ss.length
  · have HF : Hid (namesB ss = false) := by show _ = _; rw [namesB, decide_eq_false (by omega)]; simp
    go_enter Tryz.func68, Tryz.ntmps68
    go_wp2
    go_ret
    exact ⟨by rw [HF.out]; rfl, Below.refl _ _⟩
  go_enter Tryz.func68, Tryz.ntmps68
  go_wp2
  go_loopw [10] (fun i wr => ∃ k : Nat, k ≤ ss.length ∧ i = .int .i64 k ∧ okTo ss k = true ∧ Below w.heap.size w wr) (fun i _ => ss.length - (intOf i).toNat)
  case atStart => exact ⟨0, Nat.zero_le _, rfl, rfl, Below.refl _ _⟩
  case round =>
    obtain ⟨k, hk, rfl, hok, hbr⟩ := hrel
    have HOk : Hid (okTo ss k = true) := hok
    have HB : Hid (Below w.heap.size w wr) := hbr
    clear hok
    by_cases hlt : k < ss.length
    · obtain ⟨x, o, rfl, hc⟩ : ∃ x o, a = some ⟨x, o, none⟩ ∧ ∀ i, i < ss.length → wr.cell? ⟨x, o + i, none⟩ = some (.string (tAt ss i)) := by
        rcases ha.below hbr ha.lt with rfl | h
        · simp at hlt
        · exact h
      have hck := hc k hlt
      have hz := HSz.out k hlt
      have HNm : Hid (∀ V : World, Calls Tryz.prog 66 #[.string (tAt ss k)] V fun e w' => e = .returned (.bool (nameB (tAt ss k))) ∧ w' = V) := fun V => implNameB _ V (by unfold maxLen; omega)
      clear hz
      have a0 : (0 : Int) ≤ (k : Int) := by omega
      have b0 : (k : Int) < (ss.length : Int) := by omega
      cases hn : nameB (tAt ss k) with
      | false =>
        have HF : Hid (namesB ss = false) := by show _ = _; rw [namesB, okTo_no (okN_not hn) hlt]; rfl
        rw [hn] at HNm
        generalize tAt ss k = z at *
        generalize ss.length = n at *
        clear hc ha hbr hn HSz
        go_wp2_with fail
        refine (HNm.out _).mono ?_
        rintro e w2 ⟨rfl, rfl⟩
        go_wp2
        go_ret
        exact ⟨by rw [HF.out]; rfl, HB.out⟩
      | true =>
        rw [hn] at HNm
        by_cases h0 : k = 0
        · subst h0
          have HF : Hid (okN ss 0 = true) := okN_zero hn
          rw [Nat.add_zero] at hck
          generalize tAt ss 0 = z at *
          generalize ss.length = n at *
          clear hc ha hbr hn HSz
          go_wp2_with fail
          refine (HNm.out _).mono ?_
          rintro e w2 ⟨rfl, rfl⟩
          go_wp2
          go_roundw
          case rel => exact ⟨1, by omega, by go_num, okTo_yes HOk.out HF.out, HB.out⟩
          case measure => simp [intOf]; omega
        · have hck1 := hc (k - 1) (by omega)
          have ek : ((k : Int) - 1) = ((k - 1 : Nat) : Int) := by omega
          have ew : IntKind.i64.wrap ((k : Int) - 1) = ((k - 1 : Nat) : Int) := by rw [IntKind.wrap_i64]; omega
          have a1 : (0 : Int) < (k : Int) := by omega
          have b1 : ((k - 1 : Nat) : Int) < (ss.length : Int) := by omega
          have hbl := okN_more (ss := ss) (k := k) (by omega) hn
          cases hr : Op.bytesLess (tAt ss (k - 1)).toList (tAt ss k).toList with
          | false =>
            have HF : Hid (namesB ss = false) := by show _ = _; rw [namesB, okTo_no (hbl.trans hr) hlt]; rfl
            generalize tAt ss k = z at *
            generalize tAt ss (k - 1) = y at *
            generalize k - 1 = k1 at *
            generalize ss.length = n at *
            clear hc ha hbr hn HSz hbl
            go_wp2_with fail
            refine (HNm.out _).mono ?_
            rintro e w2 ⟨rfl, rfl⟩
            go_wp2
            go_ret
            exact ⟨by rw [HF.out]; rfl, HB.out⟩
          | true =>
            have HF : Hid (okN ss k = true) := hbl.trans hr
            generalize tAt ss k = z at *
            generalize tAt ss (k - 1) = y at *
            generalize k - 1 = k1 at *
            generalize ss.length = n at *
            clear hc ha hbr hn HSz hbl
            go_wp2_with fail
            refine (HNm.out _).mono ?_
            rintro e w2 ⟨rfl, rfl⟩
            go_wp2
            go_roundw
            case rel => exact ⟨k + 1, by omega, by go_num, okTo_yes HOk.out HF.out, HB.out⟩
            case measure => simp [intOf]; omega
    · obtain rfl : k = ss.length := by omega
      have HF : Hid (namesB ss = true) := by show _ = _; rw [namesB, HOk.out, decide_eq_true (by omega)]; rfl
      clear ha hbr
      go_wp2
      go_ret
      exact ⟨by rw [HF.out]; rfl, HB.out⟩
end Go.Proofs.YtegmmaomaegjjaaGreatDoor
namespace Go.Proofs.YtegmmaomaegjjaaGreatDoor
open Go.RowKit

set_option maxHeartbeats 2000000 in
set_option maxRecDepth 100000 in
theorem implPaper (c : Paper) (a : Option Addr) (cap : Nat) (w : World) (hi : c.issuer.size ≤ maxLen) (hs : c.subject.size ≤ maxLen) (hl : c.names.length ≤ 1048576) (ht : totS c.names c.names.length ≤ 1048576) (ha : IsStrs w a c.names) :
    Calls Tryz.prog 43 #[c.val (.slice a c.names.length cap)] w fun e w' => e = .returned (.bool (paperB c)) ∧ Below w.heap.size w w' := by
  obtain ⟨ser, iss, sub, fr, till, key, names, ca, sk, se, ss⟩ := c
  simp only at hi hs hl ht ha
  unfold Paper.val
  simp only
  obtain ⟨R, hR⟩ : ∃ R, R = paperB ⟨ser, iss, sub, fr, till, key, names, ca, sk, se, ss⟩ := ⟨_, rfl⟩
  rw [← hR]
  have HR : Hid (R = (decide (1 ≤ ser) && decide (ser ≤ 1000000000) && nameB iss && nameB sub && timeB fr && timeB till && decide (fr ≤ till) && rightG key && namesB names)) := hR
  clear hR
  obtain ⟨w1, hw1⟩ : ∃ w1, w1 = w.alloc (.cells #[.int .i64 ser, .string iss, .string sub, .int .i64 fr, .int .i64 till, .int .i64 key, .slice a names.length cap, .bool ca, .int .i64 sk, .int .i64 se, .int .i64 ss] 27 (0, 0)) := ⟨_, rfl⟩
  have hrow : w1.heap[w.heap.size]? = some (.cells [Value.int .i64 ser, .string iss, .string sub, .int .i64 fr, .int .i64 till, .int .i64 key, .slice a names.length cap, .bool ca, .int .i64 sk, .int .i64 se, .int .i64 ss].toArray 27 (0, 0)) := by rw [hw1]; exact heap_alloc_new w _
  have B1 : Hid (Below w.heap.size w w1) := by rw [hw1]; exact (Below.refl _ _).alloc (Nat.le_refl _) _
  have A1 : Hid (IsStrs w1 a names) := ha.keep B1.out
  have c0 := rowFacts hrow 0 _ rfl
  have c1 := rowFacts hrow 1 _ rfl
  have c2 := rowFacts hrow 2 _ rfl
  have c3 := rowFacts hrow 3 _ rfl
  have c4 := rowFacts hrow 4 _ rfl
  have c5 := rowFacts hrow 5 _ rfl
  have c6 := rowFacts hrow 6 _ rfl
  have HNm : Hid (∀ V, IsStrs V a names → Calls Tryz.prog 68 #[.slice a names.length cap] V fun e w' => e = .returned (.bool (namesB names)) ∧ Below V.heap.size V w') := fun V hV => implNames a names cap V hl ht hV
  have HRow : Hid (w1.heap[w.heap.size]? = some (.cells [Value.int .i64 ser, .string iss, .string sub, .int .i64 fr, .int .i64 till, .int .i64 key, .slice a names.length cap, .bool ca, .int .i64 sk, .int .i64 se, .int .i64 ss].toArray 27 (0, 0))) := hrow
  generalize names.length = nl at *
  clear hrow ha hl ht
  go_enter Tryz.func43, Tryz.ntmps43
  go_upto_region 1 with fail
  rw [← hw1]
  clear hw1
  go_wp2_with fail
  refine (implSerial ser _).mono ?_
  rintro e w2 ⟨rfl, rfl⟩
  cases h1 : serB ser with
  | false =>
    have HF : Hid (R = false) := by show _ = _; rw [HR.out]; unfold serB at h1; rw [h1]; rfl
    go_wp2
    go_ret
    exact ⟨by rw [HF.out]; rfl, B1.out⟩
  | true =>
  unfold serB at h1
  rw [h1] at HR
  clear h1
  go_wp2_with fail
  refine (implNameB iss _ hi).mono ?_
  rintro e w2 ⟨rfl, rfl⟩
  cases h3 : nameB iss with
  | false =>
    have HF : Hid (R = false) := by show _ = _; rw [HR.out]; simp [h3]
    go_wp2
    go_ret
    exact ⟨by rw [HF.out]; rfl, B1.out⟩
  | true =>
  rw [h3] at HR
  go_wp2_with fail
  refine (implNameB sub _ hs).mono ?_
  rintro e w2 ⟨rfl, rfl⟩
  cases h4 : nameB sub with
  | false =>
    have HF : Hid (R = false) := by show _ = _; rw [HR.out]; simp [h4]
    go_wp2
    go_ret
    exact ⟨by rw [HF.out]; rfl, B1.out⟩
  | true =>
  rw [h4] at HR
  go_wp2_with fail
  refine (implTime fr _).mono ?_
  rintro e w2 ⟨rfl, rfl⟩
  cases h5 : timeB fr with
  | false =>
    have HF : Hid (R = false) := by show _ = _; rw [HR.out]; simp [h5]
    go_wp2
    go_ret
    exact ⟨by rw [HF.out]; rfl, B1.out⟩
  | true =>
  rw [h5] at HR
  go_wp2_with fail
  refine (implTime till _).mono ?_
  rintro e w2 ⟨rfl, rfl⟩
  cases h6 : timeB till with
  | false =>
    have HF : Hid (R = false) := by show _ = _; rw [HR.out]; simp [h6]
    go_wp2
    go_ret
    exact ⟨by rw [HF.out]; rfl, B1.out⟩
  | true =>
  rw [h6] at HR
  by_cases h7 : fr ≤ till
  rotate_left
  · have h7' : till < fr := by omega
    have HF : Hid (R = false) := by show _ = _; rw [HR.out]; simp [h7]
    go_wp2
    go_ret
    exact ⟨by rw [HF.out]; rfl, B1.out⟩
  rw [decide_eq_true h7] at HR
  go_wp2_with fail
  refine (implGroupRight key _).mono ?_
  rintro e w3 ⟨rfl, b3⟩
  have B3 : Hid (Below w.heap.size w w3) := B1.out.trans (b3.mono B1.out.size)
  have A3 : Hid (IsStrs w3 a names) := A1.out.keep b3
  have d6 := (b3.cell (p := ⟨w.heap.size, 6, none⟩) (heap_lt HRow.out)).trans c6
  clear b3
  cases h8 : rightG key with
  | false =>
    have HF : Hid (R = false) := by show _ = _; rw [HR.out]; simp [h8]
    go_wp2
    go_ret
    exact ⟨by rw [HF.out]; rfl, B3.out⟩
  | true =>
  rw [h8] at HR
  have HF : Hid (R = namesB names) := by show _ = _; rw [HR.out]; simp
  go_wp2_with fail
  refine (HNm.out _ A3.out).mono ?_
  rintro e w4 ⟨rfl, b4⟩
  rw [← HF.out]
  have B4 : Hid (Below w.heap.size w w4) := B3.out.trans (b4.mono B3.out.size)
  clear b4
  go_wp2
  go_ret
  exact ⟨rfl, B4.out⟩
end Go.Proofs.YtegmmaomaegjjaaGreatDoor
namespace Go.Proofs.YtegmmaomaegjjaaGreatDoor
open Go.RowKit

theorem implRem (n : Int) (w : World) :
    Calls Tryz.prog 93 #[.int .i64 n] w fun e w' => e = .returned (.bool (remB n)) ∧ w' = w := by
  by_cases h1 : 0 ≤ n
  · by_cases h2 : n < 1073741789
    · have e : remB n = true := decide_eq_true ⟨h1, h2⟩
      rw [e]
      go_enter Tryz.func93, Tryz.ntmps93
      go_wp2
      go_ret
      exact ⟨rfl, rfl⟩
    · have e : remB n = false := decide_eq_false (by omega)
      rw [e]
      go_enter Tryz.func93, Tryz.ntmps93
      go_wp2
      go_ret
      exact ⟨rfl, rfl⟩
  · have e : remB n = false := decide_eq_false (by omega)
    rw [e]
    go_enter Tryz.func93, Tryz.ntmps93
    go_wp2
    go_ret
    exact ⟨rfl, rfl⟩
set_option maxHeartbeats 1000000 in
set_option maxRecDepth 100000 in
theorem implSigRight (k e s : Int) (w : World) :
    Calls Tryz.prog 56 #[.agg #[.int .i64 k, .int .i64 e, .int .i64 s]] w fun r w' => r = .returned (.bool (sigRB k e s)) ∧ Below w.heap.size w w' := by
  go_enter Tryz.func56, Tryz.ntmps56
  go_wp2_with fail
  refine (implGroupRight k _).mono ?_
  rintro e1 w1 ⟨rfl, hb1⟩
  have HB : Hid (Below w.heap.size w w1) := ((Below.refl _ w).alloc (Nat.le_refl _) _).trans (hb1.mono (by simp))
  have c1 : w1.cell? ⟨w.heap.size, 1, none⟩ = some (.int .i64 e) := by rw [hb1.cell (p := ⟨w.heap.size, 1, none⟩) (by simp)]; simp
  have c2 : w1.cell? ⟨w.heap.size, 2, none⟩ = some (.int .i64 s) := by rw [hb1.cell (p := ⟨w.heap.size, 2, none⟩) (by simp)]; simp
  clear hb1
  by_cases h1 : rightG k = true
  · rw [h1]
    go_wp2_with fail
    refine (implRem e _).mono ?_
    rintro e2 w2 ⟨rfl, rfl⟩
    by_cases h2 : remB e = true
    · rw [h2]
      go_wp2_with fail
      refine (implRem s _).mono ?_
      rintro e3 w3 ⟨rfl, rfl⟩
      generalize hb3 : remB s = b
      go_wp2
      go_ret
      exact ⟨by simp [sigRB, *], HB.out⟩
    · rw [Bool.not_eq_true] at h2
      rw [h2]
      go_wp2
      go_ret
      exact ⟨by simp [sigRB, *], HB.out⟩
  · rw [Bool.not_eq_true] at h1
    rw [h1]
    go_wp2
    go_ret
    exact ⟨by simp [sigRB, *], HB.out⟩
end Go.Proofs.YtegmmaomaegjjaaGreatDoor
namespace Go.Proofs.YtegmmaomaegjjaaGreatDoor
open Go.RowKit

set_option maxHeartbeats 2000000 in
set_option maxRecDepth 100000 in
theorem implCert (c : Paper) (a : Option Addr) (cap : Nat) (w : World) (hi : c.issuer.size ≤ maxLen) (hs : c.subject.size ≤ maxLen) (hl : c.names.length ≤ 1048576) (ht : totS c.names c.names.length ≤ 1048576) (ha : IsStrs w a c.names) :
    Calls Tryz.prog 24 #[c.val (.slice a c.names.length cap)] w fun e w' => e = .returned (.bool (certB c)) ∧ Below w.heap.size w w' := by
  have HP : Hid (∀ V, IsStrs V a c.names → Calls Tryz.prog 43 #[c.val (.slice a c.names.length cap)] V fun e w' => e = .returned (.bool (paperB c)) ∧ Below V.heap.size V w') := fun V hV => implPaper c a cap V hi hs hl ht hV
  obtain ⟨R, hR⟩ : ∃ R, R = certB c := ⟨_, rfl⟩
  rw [← hR]
  obtain ⟨P, hP⟩ : ∃ P, P = paperB c := ⟨_, rfl⟩
  rw [← hP] at HP
  have HR : Hid (R = (P && sigRB c.sk c.se c.ss)) := by show _ = _; rw [hR, hP]; rfl
  clear hR hP
  obtain ⟨ser, iss, sub, fr, till, key, names, ca, sk, se, ss⟩ := c
  simp only at hi hs hl ht ha HP HR
  unfold Paper.val at HP ⊢
  simp only at HP ⊢
  generalize names.length = nl at *
  obtain ⟨w1, hw1⟩ : ∃ w1, w1 = w.alloc (.cells #[.int .i64 ser, .string iss, .string sub, .int .i64 fr, .int .i64 till, .int .i64 key, .slice a nl cap, .bool ca, .int .i64 sk, .int .i64 se, .int .i64 ss] 27 (0, 0)) := ⟨_, rfl⟩
  have hrow : w1.heap[w.heap.size]? = some (.cells [Value.int .i64 ser, .string iss, .string sub, .int .i64 fr, .int .i64 till, .int .i64 key, .slice a nl cap, .bool ca, .int .i64 sk, .int .i64 se, .int .i64 ss].toArray 27 (0, 0)) := by rw [hw1]; exact heap_alloc_new w _
  have B1 : Hid (Below w.heap.size w w1) := by rw [hw1]; exact (Below.refl _ _).alloc (Nat.le_refl _) _
  have A1 : Hid (IsStrs w1 a names) := ha.keep B1.out
  have c0 := rowFacts hrow 0 _ rfl
  have c1 := rowFacts hrow 1 _ rfl
  have c2 := rowFacts hrow 2 _ rfl
  have c3 := rowFacts hrow 3 _ rfl
  have c4 := rowFacts hrow 4 _ rfl
  have c5 := rowFacts hrow 5 _ rfl
  have c6 := rowFacts hrow 6 _ rfl
  have c7 := rowFacts hrow 7 _ rfl
  have c8 := rowFacts hrow 8 _ rfl
  have c9 := rowFacts hrow 9 _ rfl
  have c10 := rowFacts hrow 10 _ rfl
  have HRow : Hid (w1.heap[w.heap.size]? = some (.cells [Value.int .i64 ser, .string iss, .string sub, .int .i64 fr, .int .i64 till, .int .i64 key, .slice a nl cap, .bool ca, .int .i64 sk, .int .i64 se, .int .i64 ss].toArray 27 (0, 0))) := hrow
  clear hrow ha hl ht hi hs
  go_enter Tryz.func24, Tryz.ntmps24
  go_upto_region 1 with fail
  rw [← hw1]
  clear hw1
  go_wp2_with fail
  refine (HP.out _ A1.out).mono ?_
  rintro e w2 ⟨rfl, b2⟩
  have B2 : Hid (Below w.heap.size w w2) := B1.out.trans (b2.mono B1.out.size)
  have d8 := (b2.cell (p := ⟨w.heap.size, 8, none⟩) (heap_lt HRow.out)).trans c8
  have d9 := (b2.cell (p := ⟨w.heap.size, 9, none⟩) (heap_lt HRow.out)).trans c9
  have d10 := (b2.cell (p := ⟨w.heap.size, 10, none⟩) (heap_lt HRow.out)).trans c10
  clear b2 c0 c1 c2 c3 c4 c5 c6 c7 c8 c9 c10 HP A1 HRow
  cases P with
  | false =>
    have HF : Hid (R = false) := HR.out
    go_wp2
    go_ret
    exact ⟨by rw [HF.out]; rfl, B2.out⟩
  | true =>
  have HF : Hid (R = sigRB sk se ss) := HR.out
  go_wp2_with fail
  refine (implSigRight sk se ss _).mono ?_
  rintro e w4 ⟨rfl, b4⟩
  rw [← HF.out]
  have B4 : Hid (Below w.heap.size w w4) := B2.out.trans (b4.mono B2.out.size)
  clear b4
  go_wp2
  go_ret
  exact ⟨rfl, B4.out⟩
end Go.Proofs.YtegmmaomaegjjaaGreatDoor
namespace Go.Proofs.YtegmmaomaegjjaaGreatDoor
open Go.RowKit Go.Lib

/-- The table's byte at the top of a number. -/
theorem lenTop (x y : Int) (k : Nat) (hx0 : 0 ≤ x) (hx : x < 18446744073709551616) (hy : y = x / 2 ^ k) (hy1 : y ≤ 255) (hk : (2 : Int) ^ k ≤ x ∨ k = 0) : (k : Int) + Lib.len8 y = (Lib.bitLen x.toNat : Int) := by
  have hp : (0 : Int) < 2 ^ k := Int.pow_pos (by decide)
  have hy0 : 0 ≤ y := by rw [hy]; exact Int.ediv_nonneg hx0 (Int.le_of_lt hp)
  rw [Lib.len8_of y hy0 hy1]
  have e : y.toNat = x.toNat / 2 ^ k := by
    obtain ⟨n, rfl⟩ := Int.eq_ofNat_of_zero_le hx0
    rw [hy]
    have : ((n : Int) / 2 ^ k) = ((n / 2 ^ k : Nat) : Int) := by simp
    rw [this]; rfl
  rcases hk with hk | rfl
  · have h2 : 2 ^ k ≤ x.toNat := by
      obtain ⟨n, rfl⟩ := Int.eq_ofNat_of_zero_le hx0
      have : ((2 ^ k : Nat) : Int) ≤ (n : Int) := by simpa using hk
      show 2 ^ k ≤ n
      exact_mod_cast this
    have h3 : x.toNat < 2 ^ 64 := by
      have : (2 : Nat) ^ 64 = 18446744073709551616 := by decide
      omega
    rw [e, Lib.bitLen_shift k x.toNat h2 h3]
    omega
  · rw [e]; simp
theorem tabAt (y : Int) (h : y.toNat < len8tab.size) : (len8tab[y.toNat].toNat : Int) = Lib.len8 y := by
  unfold Lib.len8
  rw [getElem?_pos len8tab y.toNat h]; rfl
theorem lenGoal (x y : Int) (k : Nat) (h : y.toNat < len8tab.size) (hx0 : 0 ≤ x) (hx : x < 18446744073709551616) (hy : y = x / 2 ^ k) (hy1 : y ≤ 255) (hk : (2 : Int) ^ k ≤ x ∨ k = 0) :
    wrap64 ((k : Int) + wrap64 (len8tab[y.toNat].toNat : Int)) = (Lib.bitLen x.toNat : Int) := by
  have e := lenTop x y k hx0 hx hy hy1 hk
  have l := Lib.bitLen_le x.toNat 64 (by omega) (by have : (2 : Nat) ^ 64 = 18446744073709551616 := by decide
                                                    omega)
  rw [tabAt y h]
  have b : 0 ≤ Lib.len8 y := by unfold Lib.len8; omega
  have w1 : wrap64 (Lib.len8 y) = Lib.len8 y := by unfold wrap64; omega
  rw [w1]
  unfold wrap64
  omega
set_option maxHeartbeats 4000000 in
set_option maxRecDepth 100000 in
theorem len64 (x : Int) (w : World) (h0 : 0 ≤ x) (h1 : x ≤ 18446744073709551615) :
    Calls Tryz.prog 158 #[.int .u64 x] w fun e w' => e = .returned (.int .i64 (Lib.bitLen x.toNat : Int)) ∧ w' = w := by
  have hts : (len8tab.size : Int) = 256 := by rw [len8tab_size]; rfl
  go_enter Tryz.func158, Tryz.ntmps158
  go_wp2
  all_goals
    go_ret
    refine ⟨ret_int ?_, rfl⟩
    first
      | exact lenGoal x _ 56 (by omega) h0 (by omega) (by omega) (by omega) (by omega)
      | exact lenGoal x _ 48 (by omega) h0 (by omega) (by omega) (by omega) (by omega)
      | exact lenGoal x _ 40 (by omega) h0 (by omega) (by omega) (by omega) (by omega)
      | exact lenGoal x _ 32 (by omega) h0 (by omega) (by omega) (by omega) (by omega)
      | exact lenGoal x _ 24 (by omega) h0 (by omega) (by omega) (by omega) (by omega)
      | exact lenGoal x _ 16 (by omega) h0 (by omega) (by omega) (by omega) (by omega)
      | exact lenGoal x _ 8 (by omega) h0 (by omega) (by omega) (by omega) (by omega)
      | (have e := lenGoal x x 0 (by omega) h0 (by omega) (by simp) (by omega) (.inr rfl)
         rw [← e]
         simp)
theorem lenUint (x : Int) (w : World) (h0 : 0 ≤ x) (h1 : x ≤ 18446744073709551615) :
    Calls Tryz.prog 155 #[.int .u64 x] w fun e w' => e = .returned (.int .i64 (Lib.bitLen x.toNat : Int)) ∧ w' = w := by
  go_enter Tryz.func155, Tryz.ntmps155
  go_wp2_with fail
  refine (len64 x _ h0 h1).mono ?_
  rintro e w' ⟨rfl, rfl⟩
  go_wp2
  go_ret
  exact ⟨rfl, rfl⟩
end Go.Proofs.YtegmmaomaegjjaaGreatDoor
namespace Go.Proofs.YtegmmaomaegjjaaGreatDoor
open Go.RowKit Go.Lib

/-- How many bytes a length needs behind the first one. -/
def moreL (n : Nat) : Nat := if n < 128 then 0 else if n < 256 then 1 else 2
theorem bitLen_top {x k : Nat} (h0 : 2 ^ k ≤ x) (h1 : x < 2 ^ (k + 1)) (hk : k < 64) : Lib.bitLen x = k + 1 := by
  have hx : x < 2 ^ 64 := Nat.lt_of_lt_of_le h1 (Nat.pow_le_pow_right (by omega) (by omega))
  rw [Lib.bitLen_shift k x h0 hx]
  have e : x / 2 ^ k = 1 := by
    have := Nat.two_pow_pos k
    have a : 1 ≤ x / 2 ^ k := (Nat.le_div_iff_mul_le this).2 (by omega)
    have b : x / 2 ^ k < 2 := (Nat.div_lt_iff_lt_mul this).2 (by rw [Nat.pow_succ] at h1; omega)
    omega
  rw [e]
  have : Lib.bitLen 1 = 1 := by decide
  omega
theorem moreL_bits {n : Nat} (h0 : 128 ≤ n) (h1 : n < 65536) : (Lib.bitLen n + 7) / 8 = moreL n := by
  unfold moreL
  rw [if_neg (by omega)]
  split
  · rw [bitLen_top (k := 7) (by omega) (by omega) (by omega)]
  · have l := Lib.bitLen_le n 16 (by omega) (by omega)
    have g := Lib.bitLen_shift 8 n (by omega) (by omega)
    have g1 : 1 ≤ Lib.bitLen (n / 2 ^ 8) := by
      have := Lib.bitLen_half (n / 2 ^ 8) (by omega) (by omega)
      omega
    omega
set_option maxRecDepth 100000 in
theorem lengthBytes (n : Nat) (w : World) (h : n < 65536) :
    Calls Tryz.prog 147 #[.int .i64 (n : Int)] w fun e w' => e = .returned (.int .i64 (moreL n : Int)) ∧ w' = w := by
  by_cases h1 : n < 128
  · have HF : Hid (moreL n = 0) := if_pos h1
    go_enter Tryz.func147, Tryz.ntmps147
    go_wp2
    go_ret
    exact ⟨by rw [HF.out]; rfl, rfl⟩
  · have HF : Hid ((Lib.bitLen n + 7) / 8 = moreL n) := moreL_bits (by omega) h
    have l := Lib.bitLen_le n 16 (by omega) (by omega)
    go_enter Tryz.func147, Tryz.ntmps147
    go_wp2_with fail
    refine (lenUint _ _ (by omega) (by omega)).mono ?_
    rintro e w' ⟨rfl, rfl⟩
    rw [show ((n : Int).toNat) = n from rfl]
    generalize Lib.bitLen n = c at *
    go_wp2
    go_ret
    exact ⟨ret_int (by rw [← HF.out]; omega), rfl⟩
end Go.Proofs.YtegmmaomaegjjaaGreatDoor
namespace Go.Proofs.YtegmmaomaegjjaaGreatDoor
open Go.RowKit Go.Lib

theorem madeN (n : Nat) : (madeCells #[Value.int .u8 0] n).toList = List.replicate n (.int .u8 0) := by
  simp [madeCells, Nat.mod_one, List.map_const']
theorem made2 : (madeCells #[Value.int .u8 0] 2).toList = [.int .u8 0, .int .u8 0] := madeN 2
theorem made3 : (madeCells #[Value.int .u8 0] 3).toList = [.int .u8 0, .int .u8 0, .int .u8 0] := madeN 3
/-- 'string(b)' of a row that is known whole. -/
theorem convertRow (w : World) (g : Nat) (xs : List Int) (T n c : Nat) (hn : xs.length = n) (h : w.heap[g]? = some (.cells (xs.map (Value.int .u8)).toArray T (0, 0))) :
    (convert 22 9 (.slice (some ⟨g, 0, none⟩) n c)).run Tryz.prog w = .ok (.string (strOfNums xs)) w := by
  refine run_convert_bytes_arg _ 22 5 Tryz.underlying22 Tryz.underlying5 g 0 n c xs hn ?_ 9 Tryz.underlying9
  intro i hi
  rw [Nat.zero_add, cell_of_row _ _ i _ T (0, 0) h]
  have hi' : i < xs.length := by omega
  simp [hi', List.getD]
end Go.Proofs.YtegmmaomaegjjaaGreatDoor
namespace Go.Proofs.YtegmmaomaegjjaaGreatDoor
open Go.RowKit Go.Lib

set_option maxHeartbeats 1000000 in
set_option maxRecDepth 100000 in
theorem putLength (n : Nat) (w : World) (h : n ≤ 4000) :
    Calls Tryz.prog 132 #[.int .i64 (n : Int)] w fun e w' => e = .returned (.string (strOfNums (lenD n))) ∧ Below w.heap.size w w' := by
  obtain ⟨i0, hi, hz0, hz1, hz2⟩ := info_parts infoByte
  go_enter Tryz.func132, Tryz.ntmps132
  go_wp2_with fail
  refine (lengthBytes n _ (by omega)).mono ?_
  rintro e w' ⟨rfl, rfl⟩
  by_cases c1 : n < 128
  · have hm : moreL n = 0 := if_pos c1
    have HF : Hid (lenD n = [(n : Int)]) := by unfold Hid lenD; rw [if_pos c1]
    have hcv := convertRow (w'.alloc (.cells #[.int .u8 (n : Int)] 5 (0, 0))) w'.heap.size [(n : Int)] 5 1 1 rfl (heap_alloc_new _ _)
    rw [hm]
    go_wp2
    go_ret
    exact ⟨by rw [HF.out]; rfl, (Below.refl _ _).alloc (Nat.le_refl _) _⟩
  · by_cases c2 : n < 256
    · have hm : moreL n = 1 := by rw [moreL, if_neg c1, if_pos c2]
      have HF : Hid (lenD n = [129, (n : Int)]) := by unfold Hid lenD; rw [if_neg c1, if_pos c2]
      rw [hm]
      go_wp2_with (at_make; refine wpList_make_full _ rfl _ _ 22 rfl w'.heap.size 5 i0 (.int .u8 0) 1 Tryz.underlying22 hi hz0 hz1 .i64 .i64 _ _ 2 rfl rfl ?c1 ?c2 ?c3 ?c4 ?c5 ?_)
      case c1 => omega
      case c2 => omega
      case c3 => rw [hz2]; omega
      case c4 => unfold maxLen; omega
      case c5 => exact Nat.le_refl _
      intro w1 hown hgrow
      have hrow : w1.heap[w'.heap.size]? = some (.cells [Value.int .u8 0, .int .u8 0].toArray 5 (0, 0)) := by rw [(rowOf hown rfl).1, made2]
      have hB1 : Below w'.heap.size w' w1 := (Below.refl _ w').grown hgrow (Nat.le_refl _) (fun k hk => by cases hk)
      have r0 := rowFacts hrow 0 _ rfl
      have r1 := rowFacts hrow 1 _ rfl
      have f0 := frozen_of_row w1 w'.heap.size 0 _ 5 hrow
      have f1 := frozen_of_row w1 w'.heap.size 1 _ 5 hrow
      have hcv := convertRow _ w'.heap.size [129, (n : Int)] 5 2 2 rfl (rowSet (i := 1) (.int .u8 (n : Int)) (rowSet (i := 0) (.int .u8 129) hrow))
      have HB : Hid (∀ a b, Below w'.heap.size w' ((w1.setCell ⟨w'.heap.size, 0, none⟩ a).setCell ⟨w'.heap.size, 1, none⟩ b)) := fun a b => (hB1.setCell (Nat.le_refl _) a).setCell (Nat.le_refl _) b
      clear hown hgrow hrow hB1
      go_wp2_with fail
      refine wp_loop_rounds 2 ?_
      rw [rounds_succ]
      go_wp2
      rw [rounds_succ]
      go_wp2
      go_ret
      exact ⟨by rw [HF.out]; rfl, HB.out _ _⟩
    · have hm : moreL n = 2 := by rw [moreL, if_neg c1, if_neg c2]
      have HF : Hid (lenD n = [130, (n : Int) / 256, (n : Int) % 256]) := by unfold Hid lenD; rw [if_neg c1, if_neg c2]; simp
      rw [hm]
      go_wp2_with (at_make; refine wpList_make_full _ rfl _ _ 22 rfl w'.heap.size 5 i0 (.int .u8 0) 1 Tryz.underlying22 hi hz0 hz1 .i64 .i64 _ _ 3 rfl rfl ?c1 ?c2 ?c3 ?c4 ?c5 ?_)
      case c1 => omega
      case c2 => omega
      case c3 => rw [hz2]; omega
      case c4 => unfold maxLen; omega
      case c5 => exact Nat.le_refl _
      intro w1 hown hgrow
      have hrow : w1.heap[w'.heap.size]? = some (.cells [Value.int .u8 0, .int .u8 0, .int .u8 0].toArray 5 (0, 0)) := by rw [(rowOf hown rfl).1, made3]
      have hB1 : Below w'.heap.size w' w1 := (Below.refl _ w').grown hgrow (Nat.le_refl _) (fun k hk => by cases hk)
      have r0 := rowFacts hrow 0 _ rfl
      have r1 := rowFacts hrow 1 _ rfl
      have r2 := rowFacts hrow 2 _ rfl
      have f0 := frozen_of_row w1 w'.heap.size 0 _ 5 hrow
      have f1 := frozen_of_row w1 w'.heap.size 1 _ 5 hrow
      have f2 := frozen_of_row w1 w'.heap.size 2 _ 5 hrow
      have hcv := convertRow _ w'.heap.size [130, (n : Int) / 256, (n : Int) % 256] 5 3 3 rfl (rowSet (i := 1) (.int .u8 ((n : Int) / 256)) (rowSet (i := 2) (.int .u8 ((n : Int) % 256)) (rowSet (i := 0) (.int .u8 130) hrow)))
      have HB : Hid (∀ a b c, Below w'.heap.size w' (((w1.setCell ⟨w'.heap.size, 0, none⟩ a).setCell ⟨w'.heap.size, 2, none⟩ b).setCell ⟨w'.heap.size, 1, none⟩ c)) := fun a b c => ((hB1.setCell (Nat.le_refl _) a).setCell (Nat.le_refl _) b).setCell (Nat.le_refl _) c
      clear hown hgrow hrow hB1
      go_wp2_with fail
      refine wp_loop_rounds 3 ?_
      rw [rounds_succ]
      go_wp2
      rw [rounds_succ]
      go_wp2
      rw [rounds_succ]
      go_wp2
      go_ret
      exact ⟨by rw [HF.out]; rfl, HB.out _ _ _⟩
end Go.Proofs.YtegmmaomaegjjaaGreatDoor
namespace Go.Proofs.YtegmmaomaegjjaaGreatDoor
open Go.RowKit Go.Lib

theorem as00 (a : Int) (b : ByteArray) (w : World) : (Instr.typeAssert (.iface 128 (.agg #[.int .i64 a, .string b])) 136 109 true).run Tryz.prog w = .ok (.tuple #[.agg #[.int .i64 0], .bool false]) w := by kernel_rfl
theorem as01 (a : Int) (b : ByteArray) (w : World) : (Instr.typeAssert (.iface 128 (.agg #[.int .i64 a, .string b])) 136 140 true).run Tryz.prog w = .ok (.tuple #[.agg #[.slice none 0 0], .bool false]) w := by kernel_rfl
theorem as02 (a : Int) (b : ByteArray) (w : World) : (Instr.typeAssert (.iface 128 (.agg #[.int .i64 a, .string b])) 136 128 true).run Tryz.prog w = .ok (.tuple #[.agg #[.int .i64 a, .string b], .bool true]) w := by kernel_rfl
theorem as10 (a : Int) (w : World) : (Instr.typeAssert (.iface 109 (.agg #[.int .i64 a])) 136 109 true).run Tryz.prog w = .ok (.tuple #[.agg #[.int .i64 a], .bool true]) w := by kernel_rfl
theorem as20 (a : Value) (w : World) : (Instr.typeAssert (.iface 140 (.agg #[a])) 136 109 true).run Tryz.prog w = .ok (.tuple #[.agg #[.int .i64 0], .bool false]) w := by kernel_rfl
theorem as21 (a : Value) (w : World) : (Instr.typeAssert (.iface 140 (.agg #[a])) 136 140 true).run Tryz.prog w = .ok (.tuple #[.agg #[a], .bool true]) w := by kernel_rfl
end Go.Proofs.YtegmmaomaegjjaaGreatDoor
