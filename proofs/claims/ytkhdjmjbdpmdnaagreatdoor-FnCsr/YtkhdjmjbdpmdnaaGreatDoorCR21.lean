/- spec.l06Open, and the readers' method in, walked. spec.l05Int, walked. The readers' method num, walked. How long what is read can be. Plain mathematics: no program is named here. The readers' method name, walked. spec.GetNum, walked. spec.GetNum at every argument. spec.l06Bits, walked. -/
import Derived.Test.YtkhdjmjbdpmdnaaGreatDoorCR20
import Derived.Deep.Cut
import Derived.Deep.RegionHeld3
import Derived.Test.YtkhdjmjbdpmdnaaGreatDoorCR07
import Derived.Test.YtkhdjmjbdpmdnaaGreatDoorCR15
import Derived.Test.YtkhdjmjbdpmdnaaGreatDoorCR09
import Derived.Test.YtkhdjmjbdpmdnaaGreatDoorCR17
import Derived.Test.YtkhdjmjbdpmdnaaGreatDoorCR02
import Derived.Test.YtkhdjmjbdpmdnaaGreatDoorCR01
import Derived.Test.YtkhdjmjbdpmdnaaGreatDoorCR06
namespace Go.Proofs.YtkhdjmjbdpmdnaaGreatDoor
open Go.RowKit

/-- What a text opens to. -/
def openR (s : ByteArray) : List (Int × ByteArray) × Bool := ((allD s).1, decide ((allD s).2 ≠ 0))
theorem OwnT.isTo {w : World} {B : Nat} {a : Option Addr} {n c : Nat} {l : List (Int × ByteArray)} (h : OwnT w B (.slice a n c) l) : IsTo w a l := by
  rcases h.isT with h | ⟨g, rfl, hg, hc⟩
  · exact .inl h
  · exact .inr ⟨g, 0, rfl, hg, fun i p hp => by rw [Nat.zero_add]; exact hc i p hp⟩
theorem OwnT.cap {w : World} {B : Nat} {a : Option Addr} {n c : Nat} {l : List (Int × ByteArray)} (h : OwnT w B (.slice a n c) l) : l.length ≤ c := by
  rcases h.2 with ⟨_, h'⟩ | ⟨g, cap, cur, e, _, hg, hc, _⟩
  · omega
  · simp only [Value.slice.injEq] at e
    omega
theorem IsTo.keep {w w' : World} {a : Option Addr} {l : List (Int × ByteArray)} (h : IsTo w a l) (hb : Below w.heap.size w w') : IsTo w' a l := by
  rcases h with h | ⟨g, o, rfl, hg, hc⟩
  · exact .inl h
  · refine .inr ⟨g, o, rfl, Nat.lt_of_lt_of_le hg hb.size, fun i p hp => ?_⟩
    rw [hb.cell (p := ⟨g, o + i * 2, none⟩) hg, hb.cell (p := ⟨g, o + i * 2 + 1, none⟩) hg]
    exact hc i p hp
theorem addr_lt {w : World} {B : Nat} {a : Option Addr} {n c : Nat} {l : List (Int × ByteArray)} (h : OwnT w B (.slice a n c) l) : ∀ b, a = some b → B ≤ b.block ∧ b.block < w.heap.size := by
  rcases h.2 with ⟨e, _⟩ | ⟨g, cap, cur, e, hB, hg, _⟩
  · simp only [Value.slice.injEq] at e
    intro b hb
    rw [e.1] at hb
    cases hb
  · simp only [Value.slice.injEq] at e
    intro b hb
    rw [e.1] at hb
    cases hb
    exact ⟨hB, heap_lt hg⟩
set_option linter.unusedSimpArgs false in
set_option maxHeartbeats 1000000 in
set_option maxRecDepth 100000 in
theorem rdOpen (s : ByteArray) (w : World) (hs : s.size ≤ 20000) :
    Calls Tryz.prog 104 #[.string s] w fun e w' => ∃ g, e = .returned (.pointer (some ⟨g, 0, none⟩)) ∧ w.heap.size ≤ g ∧ IsRd w' w.heap.size g (openR s).1 (openR s).2 ∧ Below w.heap.size w w' := by
  have HA := specAll s w hs
  have hD : allR s (s.size + 1) 0 [] = allD s := by unfold allD; rw [if_neg (by omega)]
  rw [hD] at HA
  have HO : Hid ((openR s).1 = (allD s).1 ∧ (openR s).2 = decide ((allD s).2 ≠ 0)) := ⟨rfl, rfl⟩
  rw [HO.out.1, HO.out.2]
  have HAl : Hid (Calls Tryz.prog 160 #[.string s] w fun e w' => ∃ v, e = .returned (.agg #[v, .int .i64 (allD s).2]) ∧ OwnT w' w.heap.size v (allD s).1 ∧ Below w.heap.size w w') := HA
  generalize (allD s).1 = L at *
  generalize (allD s).2 = cd at *
  clear HA hD HO hs
  go_enter Tryz.func104, Tryz.ntmps104
  go_wp2_with fail
  refine HAl.out.mono ?_
  rintro e w2 ⟨v, rfl, o2, b2⟩
  obtain ⟨va, vc, rfl⟩ := OwnT.form o2
  have T2 : Hid (IsTo w2 va L) := o2.isTo
  have C2 : Hid (L.length ≤ vc) := o2.cap
  have A2 : Hid (∀ b, va = some b → w.heap.size ≤ b.block ∧ b.block < w2.heap.size) := addr_lt o2
  have B2 : Hid (Below w.heap.size w w2) := b2
  clear o2 b2 HAl
  generalize hn : L.length = n at *
  go_wp2_with fail
  go_ret
  have hbn : (cd != 0) = decide (cd ≠ 0) := by by_cases h : cd = 0 <;> simp [h]
  have hW : Below w2.heap.size w2 ((w2.alloc (.cells #[.slice va n vc, .int .i64 cd] 138 (0, 0))).alloc (.cells #[.slice va n vc, .bool (cd != 0)] 114 (0, 0))) := ((Below.refl _ _).alloc (Nat.le_refl _) _).alloc (by simp) _
  refine ⟨w2.heap.size + 1, rfl, by have := B2.out.size; omega, ⟨va, vc, ?_, by rw [hn]; exact C2.out, T2.out.keep hW, by have := B2.out.size; omega, fun b hb => by have := A2.out b hb; omega⟩, B2.out.trans (hW.mono B2.out.size)⟩
  rw [hn, ← hbn]
  exact heap_alloc2 w2 _ _
/-- What is taken of a reader and opened. -/
def inR (l : List (Int × ByteArray)) (bad : Bool) (t : Int) : (List (Int × ByteArray) × Bool) × List (Int × ByteArray) × Bool :=
  (((openR (takeR l bad t).1).1, (openR (takeR l bad t).1).2 || (takeR l bad t).2.2), (takeR l bad t).2)
theorem IsRd.keep {w w' : World} {B g : Nat} {l : List (Int × ByteArray)} {b : Bool} (h : IsRd w B g l b) (hb : Below w.heap.size w w') : IsRd w' B g l b := by
  obtain ⟨a, c, hg, hc, ht, h1, hne⟩ := h
  exact ⟨a, c, by rw [hb.block _ (heap_lt hg)]; exact hg, hc, ht.keep hb, h1, hne⟩
set_option linter.unusedSimpArgs false in
set_option maxHeartbeats 1000000 in
set_option maxRecDepth 100000 in
theorem rdIn (B g : Nat) (l : List (Int × ByteArray)) (bad : Bool) (t : Int) (w : World) (hr : IsRd w B g l bad) (hl : ∀ p ∈ l, p.2.size ≤ 4000) :
    Calls Tryz.prog 105 #[.pointer (some ⟨g, 0, none⟩), .int .i64 t] w fun e w' => ∃ x, e = .returned (.pointer (some ⟨x, 0, none⟩)) ∧ w.heap.size ≤ x ∧ IsRd w' w.heap.size x (inR l bad t).1.1 (inR l bad t).1.2 ∧ IsRd w' B g (inR l bad t).2.1 (inR l bad t).2.2 ∧ (∀ k, k < w.heap.size → k ≠ g → w'.heap[k]? = w.heap[k]?) ∧ ∀ A, A ≤ g → Below A w w' := by
  have HTk : Hid (Calls Tryz.prog 109 #[.pointer (some ⟨g, 0, none⟩), .int .i64 t] w fun e w' => e = .returned (.string (takeR l bad t).1) ∧ IsRd w' B g (takeR l bad t).2.1 (takeR l bad t).2.2 ∧ (∀ k, k < w.heap.size → k ≠ g → w'.heap[k]? = w.heap[k]?) ∧ ∀ A, A ≤ g → Below A w w') := rdTake B g l bad t w hr
  have hz : (takeR l bad t).1.size ≤ 20000 := by
    unfold takeR
    cases l with
    | nil => exact Nat.zero_le _
    | cons p r =>
      have := hl p (List.mem_cons_self ..)
      simp only
      split
      · exact Nat.zero_le _
      · split
        · show p.2.size ≤ _
          omega
        · exact Nat.zero_le _
  have HOp : Hid (∀ V, Calls Tryz.prog 104 #[.string (takeR l bad t).1] V fun e w' => ∃ g, e = .returned (.pointer (some ⟨g, 0, none⟩)) ∧ V.heap.size ≤ g ∧ IsRd w' V.heap.size g (openR (takeR l bad t).1).1 (openR (takeR l bad t).1).2 ∧ Below V.heap.size V w') := fun V => rdOpen _ V hz
  unfold inR
  simp only
  have hgl : g < w.heap.size := by exact hr.ge.2
  have HGl : Hid (g < w.heap.size) := hgl
  generalize takeR l bad t = T at *
  generalize openR T.1 = O at *
  obtain ⟨tb, tl, tbad⟩ := T
  obtain ⟨ol, obad⟩ := O
  simp only at HTk HOp ⊢
  clear hr hl hz hgl
  go_enter Tryz.func105, Tryz.ntmps105
  go_wp2_with fail
  refine HTk.out.mono ?_
  rintro e w2 ⟨rfl, r2, s2, b2⟩
  have R2 : Hid (IsRd w2 B g tl tbad) := r2
  have S2 : Hid (∀ k, k < w.heap.size → k ≠ g → w2.heap[k]? = w.heap[k]?) := s2
  have B2 : Hid (∀ A, A ≤ g → Below A w w2) := b2
  clear r2 s2 b2 HTk
  go_wp2_with fail
  refine (HOp.out w2).mono ?_
  rintro e w3 ⟨x, rfl, hx, r3, b3⟩
  have r2 := R2.out.keep b3
  obtain ⟨a2, c2, g2, _⟩ := r2
  obtain ⟨a3, c3, g3, hc3, ht3, h13, hn3⟩ := r3
  have HFin : Hid (∀ b : Bool, w.heap.size ≤ x ∧ IsRd (w3.setCell ⟨x, 1, none⟩ (.bool b)) w.heap.size x ol b ∧ IsRd (w3.setCell ⟨x, 1, none⟩ (.bool b)) B g tl tbad ∧ (∀ k, k < w.heap.size → k ≠ g → (w3.setCell ⟨x, 1, none⟩ (.bool b)).heap[k]? = w.heap[k]?) ∧ ∀ A, A ≤ g → Below A w (w3.setCell ⟨x, 1, none⟩ (.bool b))) := fun b => by
    have hs2 := (B2.out g (Nat.le_refl _)).size
    have hW : Below w2.heap.size w2 (w3.setCell ⟨x, 1, none⟩ (.bool b)) := b3.setCell hx _
    have hgl := HGl.out
    exact ⟨by omega, ⟨a3, c3, rowSet (i := 1) (.bool b) g3, hc3, ht3.set x 1 _ (fun b hb => Nat.ne_of_lt (hn3 b hb).2), Nat.le_trans hs2 h13, fun b hb => ⟨Nat.le_trans hs2 (hn3 b hb).1, (hn3 b hb).2⟩⟩, R2.out.keep hW, fun k hk hkg => by rw [hW.block k (by omega), S2.out k hk hkg], fun A hA => (B2.out A hA).trans (hW.mono (by omega))⟩
  have y1 := rowFacts g2 1 _ rfl
  have x1 := rowFacts g3 1 _ rfl
  have z1 := rowFree g3 1
  clear g2 g3 HOp R2 S2 B2 HGl hc3 ht3 hn3 h13 b3 hx
  cases obad with
  | true =>
    go_wp2
    go_ret
    exact ⟨x, rfl, HFin.out true⟩
  | false =>
    go_wp2
    go_ret
    exact ⟨x, rfl, by rw [Bool.false_or]; exact HFin.out tbad⟩
end Go.Proofs.YtkhdjmjbdpmdnaaGreatDoor
namespace Go.Proofs.YtkhdjmjbdpmdnaaGreatDoor
open Go.RowKit Go.Lib

set_option maxHeartbeats 1000000 in
set_option maxRecDepth 100000 in
theorem specIntOf (s : ByteArray) (w : World) (h0 : 0 < s.size) (h8 : s.size ≤ 8) :
    Calls Tryz.prog 161 #[.string s] w fun e w' => e = .returned (.tuple #[.int .i64 (sv s s.size), .bool (decide (strOfNums (intL (sv s s.size)) = s))]) ∧ Below w.heap.size w w' := by
  have hb0 := bN_eq s 0 h0
  have hu := u8_lt s[0]
  have HZ : Hid (sv s 0 = if 128 ≤ bN s 0 then -1 else 0) := rfl
  have h0i : (0 : Int) < (s.size : Int) := by omega
  have HB : Hid (∀ v : World, Calls Tryz.prog 176 #[.int .i64 (sv s s.size)] v fun e w' => e = .returned (.string (strOfNums (intL (sv s s.size)))) ∧ Below v.heap.size v w') := fun v => specBytes _ v (sv_bd s h8).1 (by have := (sv_bd s h8).2; omega)
  go_enter Tryz.func161, Tryz.ntmps161
  go_wp2_with fail
  all_goals
    go_loopw [4, 5] (fun n i wr => ∃ k : Nat, k ≤ s.size ∧ n = .int .i64 (sv s k) ∧ i = .int .i64 (k : Int) ∧ wr = w)
      (fun _ i _ => s.size - (RowKit.intOf i).toNat)
    case atStart =>
      refine ⟨0, Nat.zero_le _, ?_, rfl, rfl⟩
      rw [HZ.out, hb0]
      first | rw [if_pos (by omega)] | rw [if_neg (by omega)]
    case round =>
      obtain ⟨k, hk, rfl, rfl, rfl⟩ := hrel
      by_cases hlt : k < s.size
      · have hv := sv_low s (show k < 8 by omega)
        have hbk := bN_eq s k hlt
        have hub := u8_lt s[k]
        have ho := or8 (sv s k) (bN s k) (bN_lt s k) hv.1 hv.2
        have HS : Hid (sv s (k + 1) = sv s k * 256 + (bN s k : Int)) := rfl
        rw [hbk] at ho HS
        generalize sv s k = v at *
        have hv0 := hv.1
        have hv1 := hv.2
        clear hv
        have q2 : (k : Int) < (s.size : Int) := by omega
        go_wp2
        go_roundw
        case rel => exact ⟨k + 1, by omega, by rw [HS.out], by go_num, trivial⟩
        case measure => simp [RowKit.intOf]; omega
      · obtain rfl : k = s.size := by omega
        have hv := sv_bd s h8
        have HX : Hid (∀ x, x = strOfNums (intL (sv s s.size)) → (x.toList == s.toList) = decide (strOfNums (intL (sv s s.size)) = s)) := fun x hx => by rw [hx, same_text]
        have HX2 := HX.out _ rfl
        have HV : Hid (sv s s.size = sv s s.size) := rfl
        generalize hvv : sv s s.size = v at hv HB
        generalize hxx : strOfNums (intL v) = x at HB
        have hv0 := hv.1
        have hv1 := hv.2
        have HVV : Hid (sv s s.size = v) := hvv
        have HXX : Hid (strOfNums (intL v) = x) := hxx
        clear hv hvv hxx HX HX2
        go_wp2_with fail
        refine (HB.out _).mono ?_
        rintro e w1 ⟨rfl, hb1⟩
        go_wp2
        go_ret2
        exact ⟨by rw [HVV.out, HXX.out, same_text]; rfl, hb1⟩
end Go.Proofs.YtkhdjmjbdpmdnaaGreatDoor
namespace Go.Proofs.YtkhdjmjbdpmdnaaGreatDoor
open Go.RowKit

/-- A body's number, and whether it has one, as the specification reckons both. -/
noncomputable def intQ (s : ByteArray) : Int × Bool := if s.size = 0 ∨ 8 < s.size then (0, false) else (sv s s.size, decide (strOfNums (intL (sv s s.size)) = s))
set_option maxHeartbeats 1000000 in
theorem specInt (s : ByteArray) (w : World) (hs : s.size ≤ maxLen) : Calls Tryz.prog 161 #[.string s] w fun e w' => e = .returned (.tuple #[.int .i64 (intQ s).1, .bool (intQ s).2]) ∧ Below w.heap.size w w' := by
  unfold maxLen at hs
  by_cases h2 : s.size = 0 ∨ 8 < s.size
  · have HF : Hid (intQ s = (0, false)) := by show _ = _; rw [intQ, if_pos h2]
    rw [HF.out]
    clear HF
    rcases h2 with h2 | h2
    all_goals
      go_enter Tryz.func161, Tryz.ntmps161
      go_wp2
      go_ret2
      exact ⟨rfl, Below.refl _ _⟩
  · have HF : intQ s = (sv s s.size, decide (strOfNums (intL (sv s s.size)) = s)) := by rw [intQ, if_neg h2]
    rw [HF]
    exact specIntOf s w (by omega) (by omega)
/-- A number taken of a reader. -/
noncomputable def numR (l : List (Int × ByteArray)) (bad : Bool) : Int × List (Int × ByteArray) × Bool :=
  ((intQ (takeR l bad 2).1).1, (takeR l bad 2).2.1, (takeR l bad 2).2.2 || !(intQ (takeR l bad 2).1).2)
theorem takeR_sz {l : List (Int × ByteArray)} {bad : Bool} {t : Int} (hl : ∀ p ∈ l, p.2.size ≤ 4000) : (takeR l bad t).1.size ≤ 4000 := by
  unfold takeR
  cases l with
  | nil => exact Nat.zero_le _
  | cons p r =>
    have := hl p (List.mem_cons_self ..)
    simp only
    split
    · exact Nat.zero_le _
    · split
      · exact this
      · exact Nat.zero_le _
set_option linter.unusedSimpArgs false in
set_option maxHeartbeats 1000000 in
set_option maxRecDepth 100000 in
theorem rdNum (B g : Nat) (l : List (Int × ByteArray)) (bad : Bool) (w : World) (hr : IsRd w B g l bad) (hl : ∀ p ∈ l, p.2.size ≤ 4000) :
    Calls Tryz.prog 107 #[.pointer (some ⟨g, 0, none⟩)] w fun e w' => e = .returned (.int .i64 (numR l bad).1) ∧ IsRd w' B g (numR l bad).2.1 (numR l bad).2.2 ∧ (∀ k, k < w.heap.size → k ≠ g → w'.heap[k]? = w.heap[k]?) ∧ ∀ A, A ≤ g → Below A w w' := by
  have HTk : Hid (Calls Tryz.prog 109 #[.pointer (some ⟨g, 0, none⟩), .int .i64 2] w fun e w' => e = .returned (.string (takeR l bad 2).1) ∧ IsRd w' B g (takeR l bad 2).2.1 (takeR l bad 2).2.2 ∧ (∀ k, k < w.heap.size → k ≠ g → w'.heap[k]? = w.heap[k]?) ∧ ∀ A, A ≤ g → Below A w w') := rdTake B g l bad 2 w hr
  have hz := takeR_sz (bad := bad) (t := 2) hl
  have HIn : Hid (∀ V, Calls Tryz.prog 161 #[.string (takeR l bad 2).1] V fun e w' => e = .returned (.tuple #[.int .i64 (intQ (takeR l bad 2).1).1, .bool (intQ (takeR l bad 2).1).2]) ∧ Below V.heap.size V w') := fun V => specInt _ V (by unfold maxLen; omega)
  unfold numR
  simp only
  have hgl : g < w.heap.size := by exact hr.ge.2
  have HGl : Hid (g < w.heap.size) := hgl
  generalize takeR l bad 2 = T at *
  generalize intQ T.1 = O at *
  obtain ⟨tb, tl, tbad⟩ := T
  obtain ⟨n, ok⟩ := O
  simp only at HTk HIn ⊢
  clear hr hl hz hgl
  go_enter Tryz.func107, Tryz.ntmps107
  go_wp2_with fail
  refine HTk.out.mono ?_
  rintro e w2 ⟨rfl, r2, s2, b2⟩
  have R2 : Hid (IsRd w2 B g tl tbad) := r2
  have S2 : Hid (∀ k, k < w.heap.size → k ≠ g → w2.heap[k]? = w.heap[k]?) := s2
  have B2 : Hid (∀ A, A ≤ g → Below A w w2) := b2
  clear r2 s2 b2 HTk
  go_wp2_with fail
  refine (HIn.out w2).mono ?_
  rintro e w3 ⟨rfl, b3⟩
  have r3 := R2.out.keep b3
  obtain ⟨a3, c3, g3, hc3, ht3, h13, hn3⟩ := r3
  have HFin : Hid (∀ b : Bool, IsRd (w3.setCell ⟨g, 1, none⟩ (.bool b)) B g tl b ∧ (∀ k, k < w.heap.size → k ≠ g → (w3.setCell ⟨g, 1, none⟩ (.bool b)).heap[k]? = w.heap[k]?) ∧ ∀ A, A ≤ g → Below A w (w3.setCell ⟨g, 1, none⟩ (.bool b))) := fun b => by
    have hs2 := (B2.out g (Nat.le_refl _)).size
    have hgl := HGl.out
    exact ⟨⟨a3, c3, rowSet (i := 1) (.bool b) g3, hc3, ht3.set g 1 _ (fun b hb => Nat.ne_of_lt (hn3 b hb).2), h13, hn3⟩, fun k hk hkg => by rw [heap_setCell_other w3 _ k _ hkg, b3.block k (by omega), S2.out k hk hkg], fun A hA => ((B2.out A hA).trans (b3.mono (by omega))).setCell hA _⟩
  have y1 := rowFacts g3 1 _ rfl
  have z1 := rowFree g3 1
  clear g3 HIn R2 S2 B2 HGl hc3 ht3 hn3 h13 b3
  cases tbad with
  | true =>
    go_wp2
    go_ret
    exact ⟨rfl, HFin.out true⟩
  | false =>
    go_wp2
    go_ret
    exact ⟨rfl, by rw [Bool.false_or]; exact HFin.out (!ok)⟩
end Go.Proofs.YtkhdjmjbdpmdnaaGreatDoor
namespace Go.Proofs.YtkhdjmjbdpmdnaaGreatDoor

theorem bodyAt_sz (s : ByteArray) (t n f : Nat) : (bodyAt s t n f).body.size ≤ n := by
  rcases Nat.lt_or_ge s.size (f + n) with h | h
  · rw [bodyAt_short h]
    exact Nat.zero_le _
  · rw [bodyAt_ok h]
    show (s.extract _ _).size ≤ _
    rw [ByteArray.size_extract]
    omega
theorem bad_sz (c : Int) (n : Nat) : (GetR.bad c).body.size ≤ n := Nat.zero_le _
theorem getAt_4000 (s : ByteArray) (k : Nat) : (getAt s k).body.size ≤ 4000 := by
  have hb := bN_lt s (k + 2)
  unfold getAt
  split
  · exact bad_sz _ _
  split
  · exact bad_sz _ _
  split
  · exact bad_sz _ _
  split
  · exact Nat.le_trans (bodyAt_sz ..) (by omega)
  split
  · split
    · exact bad_sz _ _
    split
    · exact bad_sz _ _
    exact Nat.le_trans (bodyAt_sz ..) (by omega)
  split
  · split
    · exact bad_sz _ _
    split
    · exact bad_sz _ _
    split
    · exact bad_sz _ _
    exact Nat.le_trans (bodyAt_sz ..) (by omega)
  exact bad_sz _ _
theorem allR_4000 (s : ByteArray) : ∀ (f k : Nat) (acc : List (Int × ByteArray)), (∀ q ∈ acc, q.2.size ≤ 4000) → ∀ q ∈ (allR s f k acc).1, q.2.size ≤ 4000
  | 0, _, acc, h => h
  | f + 1, k, acc, h => by
    rw [allR]
    split
    · exact h
    · split
      · simp
      · split
        · simp
        · refine allR_4000 s f _ _ (fun q hq => ?_)
          rcases List.mem_append.1 hq with hq | hq
          · exact h q hq
          · obtain rfl := List.mem_singleton.1 hq
            exact getAt_4000 s k
theorem allD_4000 (s : ByteArray) : ∀ q ∈ (allD s).1, q.2.size ≤ 4000 := by
  unfold allD
  split
  · simp
  · exact allR_4000 s _ _ _ (by simp)
theorem totS_le (l : List ByteArray) (m : Nat) (h : ∀ q ∈ l, q.size ≤ m) : ∀ k, k ≤ l.length → totS l k ≤ k * m
  | 0, _ => by simp [totS]
  | k + 1, hk => by
    rw [totS, Nat.succ_mul]
    have hm : tAt l k ∈ l := by
      unfold tAt
      rw [List.getD_eq_getElem?_getD, List.getElem?_eq_getElem (by omega)]
      exact List.getElem_mem _
    have := h _ hm
    have := totS_le l m h k (by omega)
    omega
theorem bodiesR_fit (s : ByteArray) : (bodiesR s).length ≤ 1048576 ∧ totS (bodiesR s) (bodiesR s).length ≤ 1048576 := by
  have h0 := allD_len s
  have h1 : (bodiesR s).length ≤ 60 := by
    unfold bodiesR
    rw [List.length_map]
    exact h0
  have h2 : ∀ q ∈ bodiesR s, q.size ≤ 4000 := fun q hq => by
    unfold bodiesR at hq
    obtain ⟨p, hp, rfl⟩ := List.mem_map.1 hq
    exact allD_4000 s p hp
  have h3 := totS_le (bodiesR s) 4000 h2 _ (Nat.le_refl _)
  generalize totS (bodiesR s) (bodiesR s).length = T at *
  generalize (bodiesR s).length = n at *
  omega
end Go.Proofs.YtkhdjmjbdpmdnaaGreatDoor
namespace Go.Proofs.YtkhdjmjbdpmdnaaGreatDoor
open Go.RowKit

theorem inR_4000 (l : List (Int × ByteArray)) (bad : Bool) (t : Int) : ∀ p ∈ (inR l bad t).1.1, p.2.size ≤ 4000 := fun p hp => allD_4000 _ p hp
/-- A name taken of a reader. -/
def nameR (l : List (Int × ByteArray)) (bad : Bool) : ByteArray × List (Int × ByteArray) × Bool :=
  let i1 := inR l bad 48
  let i2 := inR i1.1.1 i1.1.2 49
  let i3 := inR i2.1.1 i2.1.2 48
  let t6 := takeR i3.1.1 i3.1.2 6
  let t12 := takeR t6.2.1 t6.2.2 12
  (t12.1, i1.2.1, i1.2.2 || t12.2.2)
set_option linter.unusedSimpArgs false in
set_option maxHeartbeats 1000000 in
set_option maxRecDepth 100000 in
theorem rdName (B g : Nat) (l : List (Int × ByteArray)) (bad : Bool) (w : World) (hr : IsRd w B g l bad) (hl : ∀ p ∈ l, p.2.size ≤ 4000) :
    Calls Tryz.prog 106 #[.pointer (some ⟨g, 0, none⟩)] w fun e w' => e = .returned (.string (nameR l bad).1) ∧ IsRd w' B g (nameR l bad).2.1 (nameR l bad).2.2 ∧ (∀ k, k < w.heap.size → k ≠ g → w'.heap[k]? = w.heap[k]?) ∧ ∀ A, A ≤ g → Below A w w' := by
  obtain ⟨R, hR⟩ : ∃ R, R = nameR l bad := ⟨_, rfl⟩
  rw [← hR]
  obtain ⟨⟨⟨l1, d1⟩, m1, f1⟩, h1⟩ : ∃ i, i = inR l bad 48 := ⟨_, rfl⟩
  obtain ⟨⟨⟨l2, d2⟩, m2, f2⟩, h2⟩ : ∃ i, i = inR l1 d1 49 := ⟨_, rfl⟩
  obtain ⟨⟨⟨l3, d3⟩, m3, f3⟩, h3⟩ : ∃ i, i = inR l2 d2 48 := ⟨_, rfl⟩
  obtain ⟨⟨b6, l6, d6⟩, h6⟩ : ∃ i, i = takeR l3 d3 6 := ⟨_, rfl⟩
  obtain ⟨⟨b12, l12, d12⟩, h12⟩ : ∃ i, i = takeR l6 d6 12 := ⟨_, rfl⟩
  have z1 : ∀ p ∈ l1, p.2.size ≤ 4000 := by have := inR_4000 l bad 48; rw [← h1] at this; exact this
  have z2 : ∀ p ∈ l2, p.2.size ≤ 4000 := by have := inR_4000 l1 d1 49; rw [← h2] at this; exact this
  have hRR : R = (b12, m1, f1 || d12) := by
    rw [hR, nameR]
    simp only [← h1, ← h2, ← h3, ← h6, ← h12]
  have C1 : Hid (Calls Tryz.prog 105 #[.pointer (some ⟨g, 0, none⟩), .int .i64 48] w fun e w' => ∃ x, e = .returned (.pointer (some ⟨x, 0, none⟩)) ∧ w.heap.size ≤ x ∧ IsRd w' w.heap.size x l1 d1 ∧ IsRd w' B g m1 f1 ∧ (∀ k, k < w.heap.size → k ≠ g → w'.heap[k]? = w.heap[k]?) ∧ ∀ A, A ≤ g → Below A w w') := by have := rdIn B g l bad 48 w hr hl; rw [← h1] at this; exact this
  have C2 : Hid (∀ V A x, IsRd V A x l1 d1 → Calls Tryz.prog 105 #[.pointer (some ⟨x, 0, none⟩), .int .i64 49] V fun e w' => ∃ y, e = .returned (.pointer (some ⟨y, 0, none⟩)) ∧ V.heap.size ≤ y ∧ IsRd w' V.heap.size y l2 d2 ∧ ∀ A, A ≤ x → Below A V w') := fun V A x hV => by
    have := rdIn A x l1 d1 49 V hV z1
    rw [← h2] at this
    exact this.mono fun e W ⟨y, a, b, c, _, _, d⟩ => ⟨y, a, b, c, d⟩
  have C3 : Hid (∀ V A x, IsRd V A x l2 d2 → Calls Tryz.prog 105 #[.pointer (some ⟨x, 0, none⟩), .int .i64 48] V fun e w' => ∃ y, e = .returned (.pointer (some ⟨y, 0, none⟩)) ∧ V.heap.size ≤ y ∧ IsRd w' V.heap.size y l3 d3 ∧ ∀ A, A ≤ x → Below A V w') := fun V A x hV => by
    have := rdIn A x l2 d2 48 V hV z2
    rw [← h3] at this
    exact this.mono fun e W ⟨y, a, b, c, _, _, d⟩ => ⟨y, a, b, c, d⟩
  have C6 : Hid (∀ V A x, IsRd V A x l3 d3 → Calls Tryz.prog 109 #[.pointer (some ⟨x, 0, none⟩), .int .i64 6] V fun e w' => e = .returned (.string b6) ∧ IsRd w' A x l6 d6 ∧ ∀ A, A ≤ x → Below A V w') := fun V A x hV => by
    have := rdTake A x l3 d3 6 V hV
    rw [← h6] at this
    exact this.mono fun e W ⟨a, b, _, d⟩ => ⟨a, b, d⟩
  have C12 : Hid (∀ V A x, IsRd V A x l6 d6 → Calls Tryz.prog 109 #[.pointer (some ⟨x, 0, none⟩), .int .i64 12] V fun e w' => e = .returned (.string b12) ∧ IsRd w' A x l12 d12 ∧ ∀ A, A ≤ x → Below A V w') := fun V A x hV => by
    have := rdTake A x l6 d6 12 V hV
    rw [← h12] at this
    exact this.mono fun e W ⟨a, b, _, d⟩ => ⟨a, b, d⟩
  have hgl : g < w.heap.size := by exact hr.ge.2
  have HGl : Hid (g < w.heap.size) := hgl
  have HRR : Hid (R = (b12, m1, f1 || d12)) := hRR
  clear hR hRR h1 h2 h3 h6 h12 z1 z2 hr hl hgl
  go_enter Tryz.func106, Tryz.ntmps106
  go_wp2_with fail
  refine C1.out.mono ?_
  rintro e w2 ⟨x1, rfl, q1, r1, rg, s2, b2⟩
  have RG : Hid (IsRd w2 B g m1 f1) := rg
  have S2 : Hid (∀ k, k < w.heap.size → k ≠ g → w2.heap[k]? = w.heap[k]?) := s2
  have B2 : Hid (∀ A, A ≤ g → Below A w w2) := b2
  have R1 : Hid (IsRd w2 w.heap.size x1 l1 d1) := r1
  have Q1 : Hid (w.heap.size ≤ x1) := q1
  have Z2 : Hid (w.heap.size ≤ w2.heap.size) := (b2 g (Nat.le_refl _)).size
  clear rg s2 b2 r1 q1 C1
  go_wp2_with fail
  refine (C2.out w2 _ x1 R1.out).mono ?_
  rintro e w3 ⟨x2, rfl, q2, r2, b3⟩
  have R2 : Hid (IsRd w3 w2.heap.size x2 l2 d2) := r2
  have Q2 : Hid (w.heap.size ≤ x2) := Nat.le_trans Z2.out q2
  have B3 : Hid (Below w.heap.size w2 w3) := b3 _ Q1.out
  clear r2 q2 b3 C2 R1
  go_wp2_with fail
  refine (C3.out w3 _ x2 R2.out).mono ?_
  rintro e w4 ⟨x3, rfl, q3, r3, b4⟩
  have R3 : Hid (IsRd w4 w3.heap.size x3 l3 d3) := r3
  have Q3 : Hid (w.heap.size ≤ x3) := Nat.le_trans Z2.out (Nat.le_trans B3.out.size q3)
  have B4 : Hid (Below w.heap.size w2 w4) := B3.out.trans (b4 _ Q2.out)
  clear r3 q3 b4 C3 R2
  go_wp2_with fail
  refine (C6.out w4 _ x3 R3.out).mono ?_
  rintro e w5 ⟨rfl, r5, b5⟩
  have R5 : Hid (IsRd w5 w3.heap.size x3 l6 d6) := r5
  have B5 : Hid (Below w.heap.size w2 w5) := B4.out.trans (b5 _ Q3.out)
  clear r5 b5 C6 R3
  go_wp2_with fail
  refine (C12.out w5 _ x3 R5.out).mono ?_
  rintro e w6 ⟨rfl, r6, b6'⟩
  have B6 : Hid (Below w.heap.size w2 w6) := B5.out.trans (b6' _ Q3.out)
  have rg := RG.out.far (B6.out.mono (by have := HGl.out; omega))
  obtain ⟨a3, c3, g3, hc3, ht3, h13, hn3⟩ := rg
  obtain ⟨a6, c6, g6, _⟩ := r6
  have HFin : Hid (∀ b : Bool, IsRd (w6.setCell ⟨g, 1, none⟩ (.bool b)) B g m1 b ∧ (∀ k, k < w.heap.size → k ≠ g → (w6.setCell ⟨g, 1, none⟩ (.bool b)).heap[k]? = w.heap[k]?) ∧ ∀ A, A ≤ g → Below A w (w6.setCell ⟨g, 1, none⟩ (.bool b))) := fun b => by
    have hgl := HGl.out
    exact ⟨⟨a3, c3, rowSet (i := 1) (.bool b) g3, hc3, ht3.set g 1 _ (fun b hb => Nat.ne_of_lt (hn3 b hb).2), h13, hn3⟩, fun k hk hkg => by rw [heap_setCell_other w6 _ k _ hkg, B6.out.block k hk, S2.out k hk hkg], fun A hA => ((B2.out A hA).trans (B6.out.mono (by omega))).setCell hA _⟩
  have y1 := rowFacts g3 1 _ rfl
  have z1 := rowFree g3 1
  have u1 := rowFacts g6 1 _ rfl
  clear g3 g6 C12 RG R5 S2 B2 HGl hc3 ht3 hn3 h13 b6' B3 B4 B5 B6 Q1 Q2 Q3 Z2
  cases f1 with
  | true =>
    go_wp2
    go_ret
    rw [HRR.out]
    exact ⟨rfl, HFin.out true⟩
  | false =>
    go_wp2
    go_ret
    rw [HRR.out]
    exact ⟨rfl, by simp only [Bool.false_or]; exact HFin.out d12⟩
end Go.Proofs.YtkhdjmjbdpmdnaaGreatDoor
namespace Go.Proofs.YtkhdjmjbdpmdnaaGreatDoor
open Go.RowKit Go.Lib

set_option maxHeartbeats 4000000 in
set_option maxRecDepth 100000 in
theorem specGet (s : ByteArray) (p : Nat) (w : World) (hs : s.size ≤ 20000) (hp : (p : Int) ≤ 9223372036854775807) :
    Calls Tryz.prog 162 #[.string s, .int .i64 (p : Int)] w fun e w' => e = .returned (numV (getR s p 10 0 0)) ∧ Below w.heap.size w w' := by
  obtain ⟨R, hR⟩ : ∃ R, R = getR s p 10 0 0 := ⟨_, rfl⟩
  rw [← hR]
  have H0 : Hid (getR s p 10 0 0 = R) := hR.symm
  clear hR
  go_enter Tryz.func162, Tryz.ntmps162
  go_wp2
  go_loopw [5, 6] (fun a b wr => ∃ i u : Nat, i ≤ 10 ∧ b = .int .i64 i ∧ a = .int .u64 u ∧ u < 128 ^ i ∧ getR s p (10 - i) i u = R ∧ wr = w.alloc (.cells #[.int .i64 0, .int .i64 0, .int .i64 0] 150))
    (fun _ b _ => 10 - (RowKit.intOf b).toNat)
  case atStart => exact ⟨0, 0, by omega, rfl, rfl, by omega, H0.out, rfl⟩
  case round =>
    obtain ⟨i, u, hi, rfl, rfl, hu, hg, rfl⟩ := hrel
    by_cases h10 : i < 10
    rotate_left
    · obtain rfl : i = 10 := by omega
      have hf : Hid (R = .bad 3) := by rw [← hg]; rfl
      clear hg hu H0
      go_wp2
      refine bodyPost_ret (v := .agg #[.int .i64 0, .int .i64 0, .int .i64 3]) (by simp [results, Tryz.results162, go_sem]) rfl ⟨?_, ?_⟩
      · rw [hf.out]; rfl
      · repeat (first | exact Below.refl _ _ | refine Below.setCell ?_ (by simp) _ | refine Below.alloc ?_ (Nat.le_refl _) _)
    obtain ⟨f, hf⟩ : ∃ f, 10 - i = f + 1 := ⟨9 - i, by omega⟩
    rw [hf] at hg
    have HF : Hid (10 - i = f + 1) := hf
    have HU : Hid (u < 128 ^ i) := hu
    have HG : Hid (getR s p (f + 1) i u = R) := hg
    clear hu hg H0 hf
    by_cases hsh : s.size ≤ p + i
    · have hfin : Hid (R = .bad 4) := by rw [← HG.out]; exact getR_short hsh
      go_wp2
      refine bodyPost_ret (v := .agg #[.int .i64 0, .int .i64 0, .int .i64 4]) (by simp [results, Tryz.results162, go_sem]) rfl ⟨?_, ?_⟩
      · rw [hfin.out]; rfl
      · repeat (first | exact Below.refl _ _ | refine Below.setCell ?_ (by simp) _ | refine Below.alloc ?_ (Nat.le_refl _) _)
    have hlt : p + i < s.size := by omega
    have HB : Hid (bNu s (p + i) = s[p + i].toNat) := bU_eq s (p + i) hlt
    have hbl : (s[p + i].toNat : Int) ≤ 255 := by have := bU_lt s (p + i); rw [HB.out] at this; omega
    by_cases h9 : i = 9 ∧ 1 < s[p + i].toNat
    · obtain ⟨h9a, h9b⟩ := h9
      have hfin : Hid (R = .bad 3) := by
        rw [← HG.out]
        subst h9a
        exact getR_ninth hlt (by rw [HB.out]; exact h9b)
      have e9 : ((i : Int) == 9) = true := by rw [beq_iff_eq]; omega
      have e9b : (1 : Int) < (s[p + i].toNat : Int) := by omega
      clear h9a
      go_wp2
      refine bodyPost_ret (v := .agg #[.int .i64 0, .int .i64 0, .int .i64 3]) (by simp [results, Tryz.results162, go_sem]) rfl ⟨?_, ?_⟩
      · rw [hfin.out]; rfl
      · repeat (first | exact Below.refl _ _ | refine Below.setCell ?_ (by simp) _ | refine Below.alloc ?_ (Nat.le_refl _) _)
    have H9 : Hid (i = 9 → bNu s (p + i) ≤ 1) := fun e => by rw [HB.out]; omega
    have hw1 := wrapSh hlt (by omega) H9.out
    have hxl := sh7_le (s := s) (j := p + i) (by omega) H9.out
    obtain ⟨x, hx⟩ : ∃ x, x = sh7 i (bNu s (p + i) % 128) := ⟨_, rfl⟩
    rw [← hx] at hw1 hxl
    obtain ⟨hw2, hvl⟩ := wrapSum HU.out (by omega) hxl
    obtain ⟨v, hv⟩ : ∃ v, v = u + x := ⟨_, rfl⟩
    rw [← hv] at hw2 hvl
    have hvl' : (v : Int) ≤ 18446744073709551615 := by omega
    have HV : Hid (v = u + sh7 i (bNu s (p + i) % 128)) := (by rw [hv, hx] : v = u + sh7 i (bNu s (p + i) % 128))
    clear hx hv hxl hvl
    have h9c : ((i : Int) == 9) = true ∧ (s[p + i].toNat : Int) ≤ 1 ∨ ((i : Int) == 9) = false := by
      by_cases h : i = 9
      · left; exact ⟨by rw [beq_iff_eq]; omega, by omega⟩
      · right; rw [beq_eq_false_iff_ne]; omega
    have h9d : Hid (((i : Int) == 9) = false → i < 9) := fun h => by rw [beq_eq_false_iff_ne] at h; omega
    clear h9
    by_cases hc : 128 ≤ (s[p + i].toNat : Int)
    · rcases h9c with ⟨e9, e1⟩ | e9
      · exfalso; omega
      have hi9 := h9d.out e9
      have HN : Hid (getR s p f (i + 1) v = R) := (by rw [← HG.out, getR_more hlt H9.out (by rw [HB.out]; omega), ← HV.out] : getR s p f (i + 1) v = R)
      have HVB : Hid (v < 128 ^ (i + 1)) := by rw [HV.out]; exact sh7_bound HU.out (by omega)
      go_wp2
      go_roundw
      case rel => exact ⟨i + 1, v, by omega, by go_num, rfl, HVB.out, by rw [show 10 - (i + 1) = f from by have := HF.out; omega]; exact HN.out, trivial⟩
      case measure => simp [RowKit.intOf]; omega
    by_cases hz : s[p + i].toNat = 0 ∧ 0 < i
    · have hfin : Hid (R = .bad 3) := by
        rw [← HG.out]
        exact getR_zero hlt (by rw [HB.out]; exact hz.1) hz.2
      have ez : ((s[p + i].toNat : Int) == 0) = true := by rw [beq_iff_eq]; omega
      have ei : (0 : Int) < (i : Int) := by omega
      clear hz
      rcases h9c with ⟨e9, e1⟩ | e9
      all_goals
        go_wp2
        refine bodyPost_ret (v := .agg #[.int .i64 0, .int .i64 0, .int .i64 3]) (by simp [results, Tryz.results162, go_sem]) rfl ⟨?_, ?_⟩
        · rw [hfin.out]; rfl
        · repeat (first | exact Below.refl _ _ | refine Below.setCell ?_ (by simp) _ | refine Below.alloc ?_ (Nat.le_refl _) _)
    have hfin : Hid (R = ⟨unI v, (p + i + 1 : Nat), 0⟩) := (by
      rw [← HG.out, getR_last hlt H9.out (by rw [HB.out]; omega) (by rw [HB.out]; exact hz), ← HV.out] : R = ⟨unI v, (p + i + 1 : Nat), 0⟩)
    have hz2 : ((s[p + i].toNat : Int) == 0) = false ∨ (i : Int) ≤ 0 ∧ ((s[p + i].toNat : Int) == 0) = true := by
      by_cases h : s[p + i].toNat = 0
      · right; exact ⟨by omega, by rw [beq_iff_eq]; omega⟩
      · left; rw [beq_eq_false_iff_ne]; omega
    clear hz
    by_cases hodd : v % 2 = 1
    · have eo : ((v : Int) % 2 == 1) = true := by rw [beq_iff_eq]; omega
      have hun : Hid (unI v = -((v : Int) / 2) - 1) := by unfold Hid unI; rw [if_pos hodd]; omega
      clear hodd
      rcases h9c with ⟨e9, e1⟩ | e9 <;> rcases hz2 with ez | ⟨ei, ez⟩
      all_goals
        go_wp2
        refine bodyPost_ret (v := .agg #[.int .i64 (-((v : Int) / 2) - 1), .int .i64 ((p : Int) + (i : Int) + 1), .int .i64 0]) (by simp [results, Tryz.results162, go_sem]) rfl ⟨?_, ?_⟩
        · rw [hfin.out, numV, hun.out]; simp only [Int.natCast_add]; rfl
        · repeat (first | exact Below.refl _ _ | refine Below.setCell ?_ (by simp) _ | refine Below.alloc ?_ (Nat.le_refl _) _)
    · have eo : ((v : Int) % 2 == 1) = false := by rw [beq_eq_false_iff_ne]; omega
      have hun : Hid (unI v = (v : Int) / 2) := by unfold Hid unI; rw [if_neg hodd]; omega
      clear hodd
      rcases h9c with ⟨e9, e1⟩ | e9 <;> rcases hz2 with ez | ⟨ei, ez⟩
      all_goals
        go_wp2
        refine bodyPost_ret (v := .agg #[.int .i64 ((v : Int) / 2), .int .i64 ((p : Int) + (i : Int) + 1), .int .i64 0]) (by simp [results, Tryz.results162, go_sem]) rfl ⟨?_, ?_⟩
        · rw [hfin.out, numV, hun.out]; simp only [Int.natCast_add]; rfl
        · repeat (first | exact Below.refl _ _ | refine Below.setCell ?_ (by simp) _ | refine Below.alloc ?_ (Nat.le_refl _) _)
end Go.Proofs.YtkhdjmjbdpmdnaaGreatDoor
namespace Go.Proofs.YtkhdjmjbdpmdnaaGreatDoor
open Go.RowKit Go.Lib

theorem specGet_any (s : ByteArray) (p : Int) (w : World) (hs : s.size ≤ maxLen) (hp0 : -9223372036854775808 ≤ p) (hp1 : p ≤ 9223372036854775807) :
    Calls Tryz.prog 162 #[.string s, .int .i64 p] w fun e w' => e = .returned (numV (numAt s p)) ∧ Below w.heap.size w w' := by
  unfold maxLen at hs
  by_cases h1 : 20000 < s.size
  · rw [numAt, if_pos h1]
    go_enter Tryz.func162, Tryz.ntmps162
    go_wp2
    refine bodyPost_ret (v := .agg #[.int .i64 0, .int .i64 0, .int .i64 2]) (by simp [results, Tryz.results162, go_sem]) rfl ⟨rfl, ?_⟩
    repeat (first | exact Below.refl _ _ | refine Below.setCell ?_ (by simp) _ | refine Below.alloc ?_ (Nat.le_refl _) _)
  by_cases h2 : p < 0
  · rw [numAt, if_neg h1, if_pos h2]
    go_enter Tryz.func162, Tryz.ntmps162
    go_wp2
    refine bodyPost_ret (v := .agg #[.int .i64 0, .int .i64 0, .int .i64 1]) (by simp [results, Tryz.results162, go_sem]) rfl ⟨rfl, ?_⟩
    repeat (first | exact Below.refl _ _ | refine Below.setCell ?_ (by simp) _ | refine Below.alloc ?_ (Nat.le_refl _) _)
  obtain ⟨q, rfl⟩ := Int.eq_ofNat_of_zero_le (show 0 ≤ p by omega)
  rw [numAt, if_neg h1, if_neg h2, Int.toNat_natCast]
  exact specGet s q w (by omega) hp1
end Go.Proofs.YtkhdjmjbdpmdnaaGreatDoor
namespace Go.Proofs.YtkhdjmjbdpmdnaaGreatDoor
open Go.RowKit

set_option linter.unusedSimpArgs false in
set_option maxHeartbeats 1000000 in
set_option maxRecDepth 100000 in
theorem specBits (s : ByteArray) (n : Nat) (w : World) (hs : s.size ≤ 20000) (hn : n ≤ 3) :
    Calls Tryz.prog 108 #[.string s, .int .i64 (n : Int)] w fun e w' => ∃ v, e = .returned v ∧ OwnL w' w.heap.size v (bitsQ s n 1) ∧ Below w.heap.size w w' := by
  obtain ⟨i0, hi, hz0, hz1, hz2⟩ := info_parts infoLong
  have HGt : Hid (∀ V (p : Int), 0 ≤ p → p ≤ 20000 → Calls Tryz.prog 162 #[.string s, .int .i64 p] V fun e w' => e = .returned (numV (numAt s p)) ∧ Below V.heap.size V w') := fun V p h0 h1 => specGet_any s p V (by unfold maxLen; omega) (by omega) (by omega)
  have HAt : Hid (∀ p, 0 ≤ (numAt s p).at' ∧ (numAt s p).at' ≤ 20000) := fun p => by have := numAt_any s p; omega
  obtain ⟨R, hR⟩ : ∃ R, R = bitsQ s n 1 := ⟨_, rfl⟩
  rw [← hR]
  have HR : Hid (R = bitsQ s n 1) := hR
  clear hR hs
  go_enter Tryz.func108, Tryz.ntmps108
  go_wp2_with fail
  go_loopw [5, 6, 7] (fun v a i wr => ∃ (k : Nat) (p : Int) (pre : List Int), k ≤ n ∧ i = .int .i64 (k : Int) ∧ a = .int .i64 p ∧ 0 ≤ p ∧ p ≤ 20000 ∧ pre.length = k ∧ R = pre ++ bitsQ s (n - k) p ∧ OwnL wr w.heap.size v pre ∧ Below w.heap.size w wr) (fun _ _ i _ => n - (intOf i).toNat)
  case atStart =>
    refine ⟨0, 1, [], Nat.zero_le _, rfl, rfl, by omega, by omega, rfl, HR.out, ?_, (Below.refl _ _).alloc (Nat.le_refl _) _⟩
    refine ⟨rfl, .inr ⟨w.heap.size, 0, #[], rfl, Nat.le_refl _, heap_alloc_new w _, ?_⟩⟩
    simp [lCells]
  case round =>
    obtain ⟨k, p, pre, hk, rfl, rfl, hp0, hp1, hpl, hat, hown, hbr⟩ := hrel
    have HB : Hid (Below w.heap.size w wr) := hbr
    obtain ⟨xa, xc, rfl, hvc⟩ := OwnL.form hown
    have HO : Hid (OwnL wr w.heap.size (.slice xa pre.length xc) pre) := hown
    have HPl : Hid (pre.length = k) := hpl
    rw [hpl] at HO hvc ⊢
    clear hown hbr
    by_cases hlt : k < n
    · have HX : Hid (R = pre ++ ((numAt s p).n :: bitsQ s (n - (k + 1)) (numAt s p).at')) := by
        show _ = _
        rw [hat, show n - k = (n - (k + 1)) + 1 by omega, bitsQ]
      have HG := HGt.out wr p hp0 hp1
      have hA := HAt.out p
      unfold numV at HG
      generalize (numAt s p).n = z at *
      generalize (numAt s p).at' = za at *
      generalize (numAt s p).code = zc at *
      have HG' : Hid _ := HG
      clear HG hat HGt HAt
      go_wp2_with fail
      refine Calls.mono HG'.out ?_
      rintro e w4 ⟨rfl, b4⟩
      obtain ⟨w5, hw5⟩ : ∃ y, y = w4.alloc (.cells #[.int .i64 z, .int .i64 za, .int .i64 zc] 150 (0, 0)) := ⟨_, rfl⟩
      have b5 : Below wr.heap.size wr w5 := by rw [hw5]; exact b4.alloc b4.size _
      have g5 : w5.heap[w4.heap.size]? = some (.cells [Value.int .i64 z, .int .i64 za, .int .i64 zc].toArray 150 (0, 0)) := by rw [hw5]; exact heap_alloc_new w4 _
      have B5 : Hid (Below w.heap.size w w5) := HB.out.trans (b5.mono HB.out.size)
      have hO : w5.ownsRow w.heap.size 2 1 (.slice xa k xc) k (lCells pre) := by
        have h2 := HO.out.keep b5
        unfold OwnL at h2
        rw [HPl.out] at h2
        exact h2
      have hz5 : w.heap.size ≤ w5.heap.size := B5.out.size
      have G5 : Hid _ := g5
      have Z4 : Hid (wr.heap.size ≤ w4.heap.size) := b4.size
      have y0 := rowFacts g5 0 _ rfl
      clear b4 b5 g5 HG'
      go_upto_region 7 with fail
      rw [← hw5]
      clear hw5
      go_wp2_with (at_builtin; refine wpList_append_own _ rfl _ _ 51 rfl w.heap.size 2 i0 (.int .i64 0) 1 8 Tryz.underlying51 hi hz0 hz1 hz2 rfl (by decide) _ _ _ rfl (hO.alloc _) ⟨w5.heap.size, 0, none⟩ 1 1 [.int .i64 z] rfl rfl ?c1 ?c2 ?c3 ?c4 ?c5 ?_)
      case c1 => exact cells_one (by simp)
      case c2 => intro u hu; simp at hu; subst hu; rfl
      case c3 => unfold maxLen; omega
      case c4 => omega
      case c5 => simp; omega
      intro v' w6 hown' hgrow _
      have hB6 : Below w.heap.size w w6 := (B5.out.alloc B5.out.size _).grown hgrow (by simp; omega) (fun k hk => (hO.lt k hk).1)
      have hl5 := heap_lt G5.out
      have g6 : w6.heap[w4.heap.size]? = some (.cells [Value.int .i64 z, .int .i64 za, .int .i64 zc].toArray 150 (0, 0)) := by
        rw [hgrow.block _ (by simp; omega) (fun e => by
          have h1 := HO.out
          rw [← HPl.out] at h1 e
          have h2 := (h1.ge e.symm).2
          have h3 := Z4.out
          omega), Below.heap_alloc _ _ _ hl5]
        exact G5.out
      have y1 := rowFacts g6 1 _ rfl
      have HO6 : Hid (OwnL w6 w.heap.size v' (pre ++ [z])) := by
        show World.ownsRow _ _ _ _ _ _ _
        rw [List.length_append, HPl.out, lCells, List.map_append]
        exact hown'
      have HB6 : Hid (Below w.heap.size w w6) := hB6
      clear hown' hgrow hB6 hO g6 y0 hl5
      go_wp2_with fail
      go_roundw
      case rel => exact ⟨k + 1, za, pre ++ [z], by omega, by go_num, rfl, hA.1, hA.2, by rw [List.length_append, HPl.out]; rfl, by rw [HX.out, List.append_assoc]; rfl, HO6.out, HB6.out⟩
      case measure => simp [intOf]; omega
    · obtain rfl : k = n := by omega
      have HF : Hid (R = pre) := by show _ = _; rw [hat, Nat.sub_self]; simp [bitsQ]
      clear hat
      go_wp2
      go_ret
      exact ⟨_, rfl, by rw [HF.out]; exact HO.out, HB.out⟩
end Go.Proofs.YtkhdjmjbdpmdnaaGreatDoor
