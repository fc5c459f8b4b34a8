/- What marks a row of numbers, and what looks for the marks: laws.markInt64S, heldInt64S, walked. A row of numbers that bears the marks. laws.markCrl, heldCrl, walked. laws.szInt64S, szCrl, walked. laws.eqInt64S, walked. laws.eqSig, walked: of a Sig and itself. laws.eqCrl, walked: of one and itself. Names that came in, opened. What a walk is told of a slice of integers that came in. A list of what is taken back, that came in, opened. -/
import Derived.Test.YthofeoelndplpaaGreatDoorLSg05
import Derived.Test.YthofeoelndplpaaGreatDoorLSg07
import Derived.Test.YthofeoelndplpaaGreatDoorLSg03
import Derived.Deep.Cut
import Derived.Handy
import Derived.Test.YthofeoelndplpaaGreatDoorLSg01
import Derived.ProofKit
import Derived.SliceStrings
import Derived.Deep.Strs
import Derived.OpenShut
namespace Go.Proofs.YthofeoelndplpaaGreatDoor
open Go.RowKit

/-- The first n cells count on from k. -/
def Counts (k : Int) (n : Nat) (M : List Value) : Prop := ∀ j, j < n → M[j]? = some (.int .i64 (k + j))
/-- A row was written, nothing else. -/
def RowOnly (g : Nat) (w w' : World) : Prop := w'.heap.size = w.heap.size ∧ (∀ b, b ≠ g → w'.heap[b]? = w.heap[b]?) ∧ ∀ B w0, B ≤ g → Below B w0 w → Below B w0 w'
theorem RowOnly.refl (g : Nat) (w : World) : RowOnly g w w := ⟨rfl, fun _ _ => rfl, fun _ _ _ h => h⟩
theorem RowOnly.set {g : Nat} {w w' : World} (h : RowOnly g w w') (i : Nat) (v : Value) : RowOnly g w (w'.setCell ⟨g, i, none⟩ v) :=
  ⟨by rw [← h.1]; simp, fun b hb => by rw [heap_setCell_other _ _ _ _ hb]; exact h.2.1 b hb, fun B w0 hB hw => (h.2.2 B w0 hB hw).setCell hB v⟩
set_option maxHeartbeats 1000000 in
set_option maxRecDepth 100000 in
theorem markInts (g n c : Nat) (L : List Value) (k : Int) (w : World) (hn : n ≤ 1048576) (hk0 : 0 ≤ k) (hk : k ≤ 1048576) (hL : n ≤ L.length) (hg : w.heap[g]? = some (.cells L.toArray 2 (0, 0))) :
    Calls Tryz.prog 54 #[.slice (some ⟨g, 0, none⟩) n c, .int .i64 k] w fun e w' => e = .returned (.int .i64 (k + n)) ∧ (∃ M, w'.heap[g]? = some (.cells M.toArray 2 (0, 0)) ∧ Counts k n M) ∧ RowOnly g w w' := by
  go_enter Tryz.func54, Tryz.ntmps54
  go_wp2_with fail
  go_loopw [1, 5] (fun q i wr => ∃ (j : Nat) (M : List Value), j ≤ n ∧ q = .int .i64 (k + j) ∧ i = .int .i64 j ∧ n ≤ M.length ∧ wr.heap[g]? = some (.cells M.toArray 2 (0, 0)) ∧ Counts k j M ∧ RowOnly g w wr)
    (fun _ i _ => n - (intOf i).toNat)
  case atStart => exact ⟨0, L, Nat.zero_le _, by simp, rfl, hL, hg, fun j hj => by omega, RowOnly.refl _ _⟩
  case round =>
    clear hg hL
    obtain ⟨j, M, hj, rfl, rfl, hM, hgr, hc, ho⟩ := hrel
    by_cases hlt : j < n
    · have hd := rowFacts hgr j M[j] (List.getElem?_eq_getElem (by omega))
      have hz := frozen_of_row wr _ j _ _ hgr
      have HG : Hid (∀ v, (wr.setCell ⟨g, j, none⟩ v).heap[g]? = some (.cells (M.set j v).toArray 2 (0, 0))) := fun v => rowSet v hgr
      have HC : Hid (Counts k (j + 1) (M.set j (.int .i64 (k + j)))) := fun t ht => by
        by_cases e : t = j
        · subst e; rw [List.getElem?_set_self (by omega)]
        · rw [List.getElem?_set_ne (by omega), hc t (by omega)]
      have HL : Hid (∀ v, n ≤ (M.set j v).length) := fun v => by simpa using hM
      have HO : Hid (∀ v, RowOnly g w (wr.setCell ⟨g, j, none⟩ v)) := fun v => ho.set j v
      generalize M[j] = v0 at hd
      clear hc ho hgr hM
      go_wp2
      go_roundw
      case rel => exact ⟨j + 1, _, by omega, by go_num, by go_num, HL.out _, HG.out _, HC.out, HO.out _⟩
      case measure => simp [intOf]; omega
    · have hjn : j = n := by omega
      have HC : Hid (∃ M : List Value, wr.heap[g]? = some (.cells M.toArray 2 (0, 0)) ∧ Counts k n M) := ⟨M, hgr, by rw [← hjn]; exact hc⟩
      have HO : Hid (RowOnly g w wr) := ho
      clear hc ho hgr
      go_wp2
      go_ret
      exact ⟨ret_int (by rw [← hjn]), HC.out, HO.out⟩
set_option maxHeartbeats 1000000 in
set_option maxRecDepth 100000 in
theorem heldInts (g n c : Nat) (M : List Value) (k : Int) (w : World) (hn : n ≤ 1048576) (hk0 : 0 ≤ k) (hk : k ≤ 1048576) (hg : w.heap[g]? = some (.cells M.toArray 2 (0, 0))) (hc : Counts k n M) :
    Calls Tryz.prog 55 #[.slice (some ⟨g, 0, none⟩) n c, .int .i64 k] w fun e w' => e = .returned (.int .i64 (k + n)) ∧ w' = w := by
  go_enter Tryz.func55, Tryz.ntmps55
  go_wp2_with fail
  go_loopw [1, 5] (fun q i wr => ∃ j : Nat, j ≤ n ∧ q = .int .i64 (k + j) ∧ i = .int .i64 j ∧ wr = w)
    (fun _ i _ => n - (intOf i).toNat)
  case atStart => exact ⟨0, Nat.zero_le _, by simp, rfl, rfl⟩
  case round =>
    obtain ⟨j, hj, rfl, rfl, rfl⟩ := hrel
    by_cases hlt : j < n
    · have hd := rowFacts hg j _ (hc j hlt)
      clear hc hg
      go_wp2
      go_roundw
      case rel => exact ⟨j + 1, by omega, by go_num, by go_num, trivial⟩
      case measure => simp [intOf]; omega
    · have hjn : j = n := by omega
      clear hc hg
      go_wp2
      go_ret
      exact ⟨ret_int (by rw [← hjn]), rfl⟩
end Go.Proofs.YthofeoelndplpaaGreatDoor
namespace Go.Proofs.YthofeoelndplpaaGreatDoor
open Go.RowKit

/-- A row of n numbers bears the marks. -/
def MkL (w : World) (v : Value) (n : Nat) : Prop := (n = 0 ∧ ∃ a c, v = .slice a 0 c) ∨ ∃ g cap M, v = .slice (some ⟨g, 0, none⟩) n cap ∧ w.heap[g]? = some (.cells M.toArray 2 (0, 0)) ∧ Counts 1 n M
theorem MkL.keep {w w' : World} {v : Value} {n : Nat} (h : MkL w v n) (hb : Below w.heap.size w w') : MkL w' v n := by
  rcases h with h | ⟨g, cap, M, e, hg, hm⟩
  · exact .inl h
  · exact .inr ⟨g, cap, M, e, by rw [hb.block g (heap_lt hg)]; exact hg, hm⟩
end Go.Proofs.YthofeoelndplpaaGreatDoor
namespace Go.Proofs.YthofeoelndplpaaGreatDoor
open Go.RowKit

set_option maxHeartbeats 2000000 in
set_option maxRecDepth 100000 in
theorem markCrlC (c : Lst) (v : Value) (l : List Int) (B : Nat) (w : World) (hl : l.length ≤ 1048576) (ho : OwnL w B v l) :
    Calls Tryz.prog 25 #[c.val v, .int .i64 1] w fun e w' => e = .returned (.int .i64 ((1 + l.length : Nat) : Int)) ∧ MkL w' v l.length ∧
      (∀ b, v.ownBlock ≠ some b → b < w.heap.size → w'.heap[b]? = w.heap[b]?) ∧ w.heap.size ≤ w'.heap.size ∧ ∀ B' w0, B' ≤ B → B' ≤ w.heap.size → Below B' w0 w → Below B' w0 w' := by
  obtain ⟨iss, fr, till, serials, sk, se, ss⟩ := c
  unfold Lst.val
  simp only
  rcases ho.2 with ⟨rfl, h0⟩ | ⟨g, cap, cur, rfl, hBg, hg, hnc, hcm, hcs, ht⟩
  · rw [h0]
    have HMk : Hid (∀ V : World, Calls Tryz.prog 54 #[.slice none 0 0, .int .i64 1] V fun e w' => e = .returned (.int .i64 1) ∧ w' = V) := fun V => by
      go_enter Tryz.func54, Tryz.ntmps54
      go_wp2_with fail
      refine wp_loop_rounds 1 ?_
      rw [rounds_succ]
      go_wp2_with fail
      go_ret
      exact ⟨rfl, rfl⟩
    clear ho h0
    go_enter Tryz.func25, Tryz.ntmps25
    go_wp2_with fail
    refine (HMk.out _).mono ?_
    rintro e w1 ⟨rfl, rfl⟩
    go_wp2_with fail
    go_ret
    refine ⟨rfl, .inl ⟨rfl, _, _, rfl⟩, fun b _ hb => Below.heap_alloc _ _ _ hb, by simp, fun B' w0 _ h2 h3 => h3.alloc h2 _⟩
  · have hgl : g < w.heap.size := heap_lt hg
    have HMk : Hid (∀ o, Calls Tryz.prog 54 #[.slice (some ⟨g, 0, none⟩) l.length cap, .int .i64 1] (w.alloc o) fun e w' => e = .returned (.int .i64 ((1 + l.length : Nat) : Int)) ∧ (∃ M, w'.heap[g]? = some (.cells M.toArray 2 (0, 0)) ∧ Counts 1 l.length M) ∧
        (∀ b, b ≠ g → b < w.heap.size + 1 → w'.heap[b]? = (w.alloc o).heap[b]?) ∧ w.heap.size ≤ w'.heap.size ∧ ∀ B w0, B ≤ g → B ≤ w.heap.size + 1 → Below B w0 (w.alloc o) → Below B w0 w') := fun o => by
      have := markInts g l.length cap cur.toList 1 (w.alloc o) (by omega) (by omega) (by omega) (by simp only [Array.length_toList, hcs]; omega) (by rw [Below.heap_alloc _ _ _ hgl]; simpa using hg)
      rw [show (1 : Int) + (l.length : Int) = ((1 + l.length : Nat) : Int) from by omega] at this
      refine this.mono ?_
      rintro e w' ⟨he, h1, ho⟩
      have hsz : (w.alloc o).heap.size = w.heap.size + 1 := by simp
      exact ⟨he, h1, fun b hb _ => ho.2.1 b hb, by have := ho.1; omega, fun B w0 hB1 _ hB3 => ho.2.2 B w0 hB1 hB3⟩
    obtain ⟨n, hn⟩ : ∃ n, n = l.length := ⟨_, rfl⟩
    rw [← hn] at hl HMk ⊢
    clear ho hg ht hcs hcm hnc hn
    go_enter Tryz.func25, Tryz.ntmps25
    go_wp2_with fail
    refine (HMk.out _).mono ?_
    rintro e w1 ⟨rfl, ⟨M, hM, hMk⟩, h2, h3, h4⟩
    have HM : Hid (w1.heap[g]? = some (.cells M.toArray 2 (0, 0)) ∧ Counts 1 n M) := ⟨hM, hMk⟩
    have H2 : Hid (∀ b, b ≠ g → b < w.heap.size → w1.heap[b]? = w.heap[b]?) := fun b hb hl => by
      rw [h2 b hb (by omega)]; exact Below.heap_alloc _ _ _ hl
    have H4 : Hid (∀ B' w0, B' ≤ B → B' ≤ w.heap.size → Below B' w0 w → Below B' w0 w1) := fun B' w0 hB1 hB2 hB3 => h4 B' w0 (by omega) (by omega) (hB3.alloc hB2 _)
    clear hM hMk h2 h4 HMk
    go_wp2_with fail
    go_ret
    refine ⟨rfl, .inr ⟨g, cap, M, rfl, HM.out.1, HM.out.2⟩, fun b hb hl => H2.out b (fun e => hb (by rw [e]; rfl)) hl, h3, H4.out⟩
set_option maxHeartbeats 1000000 in
set_option maxRecDepth 100000 in
theorem heldCrlC (c : Lst) (v : Value) (n : Nat) (w : World) (hl : n ≤ 1048576) (hm : MkL w v n) :
    Calls Tryz.prog 26 #[c.val v, .int .i64 1] w fun e w' => e = .returned (.int .i64 ((1 + n : Nat) : Int)) ∧ Below w.heap.size w w' := by
  obtain ⟨iss, fr, till, serials, sk, se, ss⟩ := c
  unfold Lst.val
  simp only
  rcases hm with ⟨rfl, a, c, rfl⟩ | ⟨g, cap, M, rfl, hg, hm⟩
  · have HMk : Hid (∀ V : World, Calls Tryz.prog 55 #[.slice a 0 c, .int .i64 1] V fun e w' => e = .returned (.int .i64 1) ∧ w' = V) := fun V => by
      go_enter Tryz.func55, Tryz.ntmps55
      go_wp2_with fail
      refine wp_loop_rounds 1 ?_
      rw [rounds_succ]
      go_wp2_with fail
      go_ret
      exact ⟨rfl, rfl⟩
    go_enter Tryz.func26, Tryz.ntmps26
    go_wp2_with fail
    refine (HMk.out _).mono ?_
    rintro e w1 ⟨rfl, rfl⟩
    go_wp2_with fail
    go_ret
    exact ⟨rfl, (Below.refl _ _).alloc (Nat.le_refl _) _⟩
  · have hgl : g < w.heap.size := heap_lt hg
    have HMk : Hid (∀ o, Calls Tryz.prog 55 #[.slice (some ⟨g, 0, none⟩) n cap, .int .i64 1] (w.alloc o) fun e w' => e = .returned (.int .i64 ((1 + n : Nat) : Int)) ∧ Below (w.alloc o).heap.size (w.alloc o) w') := fun o => by
      have := heldInts g n cap M 1 (w.alloc o) (by omega) (by omega) (by omega) (by rw [Below.heap_alloc _ _ _ hgl]; exact hg) hm
      rw [show (1 : Int) + (n : Int) = ((1 + n : Nat) : Int) from by omega] at this
      exact this.mono fun e w' h => ⟨h.1, by rw [h.2]; exact Below.refl _ _⟩
    clear hg hm
    obtain ⟨m, hmm⟩ : ∃ m, m = 1 + n := ⟨_, rfl⟩
    rw [← hmm] at HMk ⊢
    have hm1 : 1 ≤ m := by omega
    clear hmm
    go_enter Tryz.func26, Tryz.ntmps26
    go_wp2_with fail
    refine (HMk.out _).mono ?_
    rintro e w1 ⟨rfl, hb1⟩
    have HB : Hid (Below w.heap.size w w1) := ((Below.refl _ w).alloc (Nat.le_refl _) _).trans (hb1.mono (by simp))
    clear hb1 HMk
    go_wp2_with fail
    go_ret
    exact ⟨rfl, HB.out⟩
end Go.Proofs.YthofeoelndplpaaGreatDoor
namespace Go.Proofs.YthofeoelndplpaaGreatDoor
open Go.RowKit

def Lst.Small (c : Lst) : Prop := c.issuer.size ≤ 1048576 ∧ c.serials.length ≤ 1048576
theorem szInts (a : Option Addr) (n c : Nat) (left : Int) (w : World) (hn : n ≤ maxLen) (h0 : 0 ≤ left) (h1 : left ≤ 1048576) :
    Calls Tryz.prog 46 #[.slice a n c, .int .i64 left] w fun e w' => ∃ x : Int, e = .returned (.int .i64 x) ∧ (x < 0 ∨ n ≤ 1048576) ∧ -1 ≤ x ∧ x ≤ 1048576 ∧ w' = w := by
  unfold maxLen at hn
  by_cases hfit : left < (n : Int)
  · go_enter Tryz.func46, Tryz.ntmps46
    go_wp2
    go_ret
    exact ⟨_, rfl, .inl (by omega), by omega, by omega, rfl⟩
  · go_enter Tryz.func46, Tryz.ntmps46
    go_wp2
    go_ret
    exact ⟨_, rfl, .inr (by omega), by omega, by omega, rfl⟩
set_option maxHeartbeats 4000000 in
set_option maxRecDepth 100000 in
theorem szCrl (c : Lst) (a : Option Addr) (cap : Nat) (w : World) (hi : c.issuer.size ≤ maxLen) (hl : c.serials.length ≤ maxLen) :
    Calls Tryz.prog 20 #[c.val (.slice a c.serials.length cap), .int .i64 1048576] w fun e w' => ∃ x : Int, e = .returned (.int .i64 x) ∧ (x < 0 ∨ c.Small) ∧ -1 ≤ x ∧ x ≤ 1048576 ∧ Below w.heap.size w w' := by
  have HSm : Hid (c.issuer.size ≤ 1048576 → c.serials.length ≤ 1048576 → c.Small) := fun h1 h2 => ⟨h1, h2⟩
  obtain ⟨iss, fr, till, serials, sk, se, ss⟩ := c
  simp only at hi hl HSm
  generalize Lst.Small ⟨iss, fr, till, serials, sk, se, ss⟩ = Sm at *
  unfold Lst.val
  simp only
  generalize serials.length = nl at *
  obtain ⟨w1, hw1⟩ : ∃ w1, w1 = w.alloc (.cells #[.string iss, .int .i64 fr, .int .i64 till, .slice a nl cap, .int .i64 sk, .int .i64 se, .int .i64 ss] 43 (0, 0)) := ⟨_, rfl⟩
  have hrow : w1.heap[w.heap.size]? = some (.cells [Value.string iss, .int .i64 fr, .int .i64 till, .slice a nl cap, .int .i64 sk, .int .i64 se, .int .i64 ss].toArray 43 (0, 0)) := by rw [hw1]; exact heap_alloc_new w _
  have B1 : Hid (Below w.heap.size w w1) := by rw [hw1]; exact (Below.refl _ _).alloc (Nat.le_refl _) _
  have c0 := rowFacts hrow 0 _ rfl
  have c3 := rowFacts hrow 3 _ rfl
  have HZ : Hid (∀ V (left : Int), 0 ≤ left → left ≤ 1048576 → Calls Tryz.prog 46 #[.slice a nl cap, .int .i64 left] V fun e w' => ∃ x : Int, e = .returned (.int .i64 x) ∧ (x < 0 ∨ nl ≤ 1048576) ∧ -1 ≤ x ∧ x ≤ 1048576 ∧ w' = V) := fun V left h0 h1 => szInts a nl cap left V hl h0 h1
  unfold maxLen at hi
  clear hrow hl
  go_enter Tryz.func20, Tryz.ntmps20
  go_upto_region 1 with fail
  rw [← hw1]
  clear hw1
  by_cases h1 : 1048576 < iss.size
  · go_wp2
    go_ret
    exact ⟨_, rfl, .inl (by omega), by omega, by omega, B1.out⟩
  obtain ⟨l2, hl2⟩ : ∃ l2 : Int, l2 = 1048576 - (iss.size : Int) := ⟨_, rfl⟩
  have hl20 : 0 ≤ l2 := by omega
  have hl21 : l2 ≤ 1048576 := by omega
  go_upto_region 4 with fail
  rw [← hl2]
  clear hl2
  go_wp2_with fail
  refine (HZ.out _ l2 hl20 hl21).mono ?_
  rintro e w2 ⟨q, rfl, hq0, hq1, hq2, rfl⟩
  by_cases hq : q < 0
  · go_wp2
    go_ret
    exact ⟨_, rfl, .inl (by omega), by omega, by omega, B1.out⟩
  · have HSm' : Hid Sm := HSm.out (by omega) (by rcases hq0 with h | h <;> omega)
    go_wp2
    go_ret
    exact ⟨_, rfl, .inr HSm'.out, by omega, by omega, B1.out⟩
end Go.Proofs.YthofeoelndplpaaGreatDoor
namespace Go.Proofs.YthofeoelndplpaaGreatDoor
open Go.RowKit

set_option maxHeartbeats 1000000 in
set_option maxRecDepth 100000 in
theorem eqInts (a b : Option Addr) (zs : List Int) (c d : Nat) (w : World) (hl : zs.length ≤ 2000000) (ha : IsInts w a zs) (hb : IsInts w b zs) :
    Calls Tryz.prog 53 #[.slice a zs.length c, .slice b zs.length d] w fun e w' => e = .returned (.bool true) ∧ Below w.heap.size w w' := by
  go_enter Tryz.func53, Tryz.ntmps53
  go_wp2
  go_loopw [5] (fun i wr => ∃ k : Nat, k ≤ zs.length ∧ i = .int .i64 k ∧ Below w.heap.size w wr) (fun i _ => zs.length - (intOf i).toNat)
  case atStart => exact ⟨0, Nat.zero_le _, rfl, Below.refl _ _⟩
  case round =>
    obtain ⟨k, hk, rfl, hbr⟩ := hrel
    by_cases hlt : k < zs.length
    · obtain ⟨x, o, rfl, hc⟩ : ∃ x o, a = some ⟨x, o, none⟩ ∧ ∀ i, i < zs.length → wr.cell? ⟨x, o + i, none⟩ = some (.int .i64 (zs.getD i 0)) := by
        rcases ha.below hbr ha.lt with rfl | h
        · simp at hlt
        · exact h
      obtain ⟨y, p, rfl, hd⟩ : ∃ x o, b = some ⟨x, o, none⟩ ∧ ∀ i, i < zs.length → wr.cell? ⟨x, o + i, none⟩ = some (.int .i64 (zs.getD i 0)) := by
        rcases hb.below hbr hb.lt with rfl | h
        · simp at hlt
        · exact h
      have hck := hc k hlt
      have hdk := hd k hlt
      have HB : Hid (Below w.heap.size w wr) := hbr
      generalize zs.getD k 0 = z at hck hdk
      generalize hn : zs.length = n at *
      clear hc hd ha hb hbr hn
      go_wp2
      go_quiet (fail)
      go_wp2
      go_roundw
      case rel => exact ⟨k + 1, by omega, by go_num, below_drewN HB.out _⟩
      case measure => simp [intOf]; omega
    · go_wp2
      go_ret
      exact ⟨rfl, hbr⟩
end Go.Proofs.YthofeoelndplpaaGreatDoor
namespace Go.Proofs.YthofeoelndplpaaGreatDoor
open Go.RowKit

set_option maxHeartbeats 1000000 in
set_option maxRecDepth 100000 in
theorem eqSig (k e s : Int) (w : World) :
    Calls Tryz.prog 38 #[.agg #[.int .i64 k, .int .i64 e, .int .i64 s], .agg #[.int .i64 k, .int .i64 e, .int .i64 s]] w fun r w' => r = .returned (.bool true) ∧ Below w.heap.size w w' := by
  go_enter Tryz.func38, Tryz.ntmps38
  go_wp2
  go_ret
  exact ⟨rfl, (allocBelow w _).alloc (by simp) _⟩
end Go.Proofs.YthofeoelndplpaaGreatDoor
namespace Go.Proofs.YthofeoelndplpaaGreatDoor
open Go.RowKit

set_option maxHeartbeats 4000000 in
set_option maxRecDepth 100000 in
theorem eqCrl (c : Lst) (a b : Option Addr) (ca1 cb : Nat) (w : World) (hl : c.serials.length ≤ 1048576) (ha : IsInts w a c.serials) (hb : IsInts w b c.serials) :
    Calls Tryz.prog 24 #[c.val (.slice a c.serials.length ca1), c.val (.slice b c.serials.length cb)] w fun e w' => e = .returned (.bool true) ∧ Below w.heap.size w w' := by
  obtain ⟨iss, fr, till, serials, sk, se, ss⟩ := c
  simp only at hl ha hb
  unfold Lst.val
  simp only
  have HE : Hid (∀ V, IsInts V a serials → IsInts V b serials → Calls Tryz.prog 53 #[.slice a serials.length ca1, .slice b serials.length cb] V fun e w' => e = .returned (.bool true) ∧ Below V.heap.size V w') := fun V h1 h2 => eqInts a b serials ca1 cb V (by omega) h1 h2
  generalize serials.length = nl at *
  obtain ⟨w0, hw0⟩ : ∃ w0, w0 = w.alloc (.cells #[.string iss, .int .i64 fr, .int .i64 till, .slice a nl ca1, .int .i64 sk, .int .i64 se, .int .i64 ss] 46 (0, 0)) := ⟨_, rfl⟩
  obtain ⟨w1, hw1⟩ : ∃ w1, w1 = w0.alloc (.cells #[.string iss, .int .i64 fr, .int .i64 till, .slice b nl cb, .int .i64 sk, .int .i64 se, .int .i64 ss] 46 (0, 0)) := ⟨_, rfl⟩
  have z0 : w0.heap.size = w.heap.size + 1 := by rw [hw0]; simp
  have r1 : w1.heap[w.heap.size + 1]? = some (.cells [Value.string iss, .int .i64 fr, .int .i64 till, .slice b nl cb, .int .i64 sk, .int .i64 se, .int .i64 ss].toArray 46 (0, 0)) := by rw [hw1, ← z0]; exact heap_alloc_new w0 _
  have r0 : w1.heap[w.heap.size]? = some (.cells [Value.string iss, .int .i64 fr, .int .i64 till, .slice a nl ca1, .int .i64 sk, .int .i64 se, .int .i64 ss].toArray 46 (0, 0)) := by rw [hw1, Below.heap_alloc _ _ _ (by omega), hw0]; exact heap_alloc_new w _
  have B1 : Hid (Below w.heap.size w w1) := by rw [hw1, hw0]; exact ((Below.refl _ _).alloc (Nat.le_refl _) _).alloc (by simp) _
  have A1 : Hid (IsInts w1 a serials) := ha.keep B1.out
  have A2 : Hid (IsInts w1 b serials) := hb.keep B1.out
  have c0 := rowFacts r0 0 _ rfl
  have d0 := rowFacts r1 0 _ rfl
  have c1 := rowFacts r0 1 _ rfl
  have d1 := rowFacts r1 1 _ rfl
  have c2 := rowFacts r0 2 _ rfl
  have d2 := rowFacts r1 2 _ rfl
  have c3 := rowFacts r0 3 _ rfl
  have d3 := rowFacts r1 3 _ rfl
  have c4 := rowFacts r0 4 _ rfl
  have d4 := rowFacts r1 4 _ rfl
  have c5 := rowFacts r0 5 _ rfl
  have d5 := rowFacts r1 5 _ rfl
  have c6 := rowFacts r0 6 _ rfl
  have d6 := rowFacts r1 6 _ rfl
  have R0 : Hid (w.heap.size < w1.heap.size) := heap_lt r0
  have R1 : Hid (w.heap.size + 1 < w1.heap.size) := heap_lt r1
  rw [hw0] at hw1
  clear r0 r1 ha hb hw0 z0
  go_enter Tryz.func24, Tryz.ntmps24
  go_upto_region 1 with fail
  rw [← hw1]
  clear hw1
  go_wp2_with fail
  refine (HE.out _ A1.out A2.out).mono ?_
  rintro e w2 ⟨rfl, b2⟩
  have B2 : Hid (Below w.heap.size w w2) := B1.out.trans (b2.mono B1.out.size)
  have e4 := (b2.cell (p := ⟨w.heap.size, 4, none⟩) R0.out).trans c4
  have f4 := (b2.cell (p := ⟨w.heap.size + 1, 4, none⟩) R1.out).trans d4
  have e5 := (b2.cell (p := ⟨w.heap.size, 5, none⟩) R0.out).trans c5
  have f5 := (b2.cell (p := ⟨w.heap.size + 1, 5, none⟩) R1.out).trans d5
  have e6 := (b2.cell (p := ⟨w.heap.size, 6, none⟩) R0.out).trans c6
  have f6 := (b2.cell (p := ⟨w.heap.size + 1, 6, none⟩) R1.out).trans d6
  clear b2 B1 A1 A2 HE R0 R1 c0 d0 c1 d1 c2 d2 c3 d3 c4 d4 c5 d5 c6 d6
  go_wp2_with fail
  refine (eqSig sk se ss _).mono ?_
  rintro e w3 ⟨rfl, b3⟩
  have B3 : Hid (Below w.heap.size w w3) := B2.out.trans (b3.mono B2.out.size)
  clear b3 B2
  go_wp2
  go_ret
  exact ⟨rfl, B3.out⟩
end Go.Proofs.YthofeoelndplpaaGreatDoor
namespace Go.Proofs.YthofeoelndplpaaGreatDoor
open Go.RowKit Go.WideShapes Go.ChangeShapes Go.Deep

theorem cellsInt : Tryz.prog.cellsOf 2 = 1 := by kernel_rfl
theorem cellsStr : Tryz.prog.cellsOf 9 = 1 := by kernel_rfl
theorem cellsStrs : Tryz.prog.cellsOf 22 = 1 := by kernel_rfl
theorem cellsBool : Tryz.prog.cellsOf 4 = 1 := by kernel_rfl
theorem cellsSig : Tryz.prog.cellsOf 34 = 3 := by kernel_rfl
theorem open_names {H : Type} {enc : TypeId × Value → H} {W : World} {base : Nat} {spare : Nat → Bool} {held : Bool} {n : Nat} {v : Value} {x : DataW H × List MemPlace} (h : DataW.trod enc Tryz.prog W base spare held n 22 [v] = some x) :
    ∃ (a : Option Addr) (ss : List ByteArray) (cap : Nat), v = .slice a ss.length cap ∧ IsStrs W a ss ∧ ss.length ≤ maxLen ∧ ∀ s ∈ ss, s.size ≤ maxLen := by
  rcases open_strings Tryz.underlying22 Tryz.underlying9 cellsStr h with ⟨hcs, _⟩ | ⟨x, len, cap, ss, hcs, _, hl, hm, hz, _, hcell, hws⟩
  · exact ⟨none, [], 0, (List.cons.inj hcs).1, .inl rfl, Nat.zero_le _, fun s hs => by cases hs⟩
  · have hle : len ≤ ss.length := by rw [hz]; split <;> omega
    have hlen : (ss.take len).length = len := by rw [List.length_take]; omega
    refine ⟨some x, ss.take len, cap, by rw [hlen]; exact (List.cons.inj hcs).1, ?_, by rw [hlen]; omega, fun s hs => hws s (List.mem_of_mem_take hs)⟩
    by_cases h0 : len = 0
    · exact .inl (by simp [h0])
    obtain ⟨b, off, spot⟩ := x
    have hc0 := hcell 0 (by omega)
    have hspot : spot = none := by simpa [Addr.add] using World.cell?_spot hc0
    subst hspot
    refine .inr ⟨b, off, rfl, fun i hi => ?_⟩
    rw [hlen] at hi
    have h1 := hcell i (by omega)
    rw [Addr.add_lit] at h1
    rw [h1, tAt, List.getD, List.getD, List.getElem?_take, if_pos hi]
/-- What is known of texts that came in. -/
structure CameT (W : World) (a : Option Addr) (ss : List ByteArray) : Prop where
  strs : IsStrs W a ss
  len : ss.length ≤ maxLen
  each : ∀ s ∈ ss, s.size ≤ maxLen
set_option maxRecDepth 100000 in
theorem openTexts {H : Type} {enc : TypeId × Value → H} {W : World} {base b0 : Nat} {r : Reach} {spare : Nat → Bool} {held : Bool} {v : Value} {d : DataW H} {p : List MemPlace}
    (hv : Value.okWide Tryz.prog W r b0 22 v) (h : DataW.Trod enc Tryz.prog W base spare held 22 v d p) :
    ∃ (a : Option Addr) (ss : List ByteArray) (cap : Nat), v = .slice a ss.length cap ∧ CameT W a ss := by
  obtain ⟨a, len, cap, rfl⟩ := okWide_slice Tryz.underlying22 hv
  obtain ⟨fuel, hf⟩ := h
  obtain ⟨a', ss, cap', e, h1, h2, h3⟩ := open_names (v := .slice a len cap) hf
  exact ⟨a', ss, cap', e, ⟨h1, h2, h3⟩⟩
end Go.Proofs.YthofeoelndplpaaGreatDoor
namespace Go.Proofs.YthofeoelndplpaaGreatDoor
open Go.RowKit

/-- It is nil; or it leads to a row of 'cap' cells, the numbers 'zs', the first 'len' being its elements, each fitting its kind. -/
def IsRow (k : IntKind) (w : World) (a : Option Addr) (len cap : Nat) (zs : List Int) : Prop :=
  (a = none ∧ len = 0 ∧ cap = 0 ∧ zs = []) ∨
  ∃ x, a = some x ∧ len ≤ cap ∧ cap ≤ maxLen ∧ zs.length = cap ∧ (∀ i, i < zs.length → w.cell? (x.add i) = some (.int k (zs.getD i 0))) ∧ ∀ n ∈ zs, (Lit.int k n).wf = true
theorem IsRow.len_le {k : IntKind} {w : World} {a : Option Addr} {len cap : Nat} {zs : List Int} (h : IsRow k w a len cap zs) : len ≤ maxLen := by
  rcases h with ⟨_, rfl, _, _⟩ | ⟨_, _, hl, hm, _⟩
  · exact Nat.zero_le _
  · omega
theorem IsRow.ints {w : World} {a : Option Addr} {len cap : Nat} {zs : List Int} (h : IsRow .i64 w a len cap zs) : ∃ ys : List Int, ys.length = len ∧ IsInts w a ys ∧ ∀ n ∈ ys, (Lit.int .i64 n).wf = true := by
  rcases h with ⟨rfl, rfl, _, _⟩ | ⟨x, rfl, hl, _, hz, hc, hw⟩
  · exact ⟨[], rfl, .inl rfl, fun n hn => by cases hn⟩
  refine ⟨zs.take len, by simp; omega, ?_, fun n hn => hw n (List.mem_of_mem_take hn)⟩
  by_cases h0 : len = 0
  · exact .inl (by simp [h0])
  obtain ⟨b, off, spot⟩ := x
  have hc0 := hc 0 (by omega)
  have hspot : spot = none := by simpa [Addr.add] using World.cell?_spot hc0
  subst hspot
  refine .inr ⟨b, off, rfl, fun i hi => ?_⟩
  simp at hi
  have h1 := hc i (by omega)
  rw [Addr.add_lit] at h1
  rw [h1]
  rw [List.getD, List.getD, List.getElem?_take, if_pos (by omega)]
end Go.Proofs.YthofeoelndplpaaGreatDoor
namespace Go.Proofs.YthofeoelndplpaaGreatDoor
open Go.RowKit Go.WideShapes Go.ChangeShapes Go.Deep

theorem array7 {α : Type} {cs : Array α} (h : cs.size = 7) : ∃ c0 c1 c2 c3 c4 c5 c6, cs = #[c0, c1, c2, c3, c4, c5, c6] := by
  obtain ⟨l⟩ := cs
  match l, h with
  | [c0, c1, c2, c3, c4, c5, c6], _ => exact ⟨c0, c1, c2, c3, c4, c5, c6, rfl⟩
theorem cellsCrl : Tryz.prog.cellsOf 43 = 7 := by kernel_rfl
theorem cellsLongs : Tryz.prog.cellsOf 41 = 1 := by kernel_rfl
/-- What is known of one that came in. -/
structure CameL (W : World) (c : Lst) (a : Option Addr) : Prop where
  ints : IsInts W a c.serials
  len : c.serials.length ≤ maxLen
  each : ∀ n ∈ c.serials, (Lit.int .i64 n).wf = true
  iss : c.issuer.size ≤ maxLen
  wfr : (Lit.int .i64 c.fr).wf = true
  wtill : (Lit.int .i64 c.till).wf = true
  wsk : (Lit.int .i64 c.sk).wf = true
  wse : (Lit.int .i64 c.se).wf = true
  wss : (Lit.int .i64 c.ss).wf = true
theorem open_nums {H : Type} {enc : TypeId × Value → H} {W : World} {base : Nat} {spare : Nat → Bool} {held : Bool} {n : Nat} {v : Value} {x : DataW H × List MemPlace} (h : DataW.trod enc Tryz.prog W base spare held n 41 [v] = some x) :
    ∃ (a : Option Addr) (zs : List Int) (cap : Nat), v = .slice a zs.length cap ∧ IsInts W a zs ∧ zs.length ≤ maxLen ∧ ∀ n ∈ zs, (Lit.int .i64 n).wf = true := by
  rcases open_ints Tryz.underlying41 Tryz.underlying2 (by kernel_rfl) h with ⟨hcs, _⟩ | ⟨x, len, cap, zs, hcs, _, hl, hm, hz, _, hcell, hwz⟩
  · exact ⟨none, [], 0, (List.cons.inj hcs).1, .inl rfl, Nat.zero_le _, fun s hs => by cases hs⟩
  · have hle : len ≤ zs.length := by rw [hz]; split <;> omega
    have hlen : (zs.take len).length = len := by rw [List.length_take]; omega
    refine ⟨some x, zs.take len, cap, by rw [hlen]; exact (List.cons.inj hcs).1, ?_, by rw [hlen]; omega, fun s hs => hwz s (List.mem_of_mem_take hs)⟩
    by_cases h0 : len = 0
    · exact .inl (by simp [h0])
    obtain ⟨b, off, spot⟩ := x
    have hc0 := hcell 0 (by omega)
    have hspot : spot = none := by simpa [Addr.add] using World.cell?_spot hc0
    subst hspot
    refine .inr ⟨b, off, rfl, fun i hi => ?_⟩
    rw [hlen] at hi
    have h1 := hcell i (by omega)
    rw [Addr.add_lit] at h1
    rw [h1, List.getD, List.getD, List.getElem?_take, if_pos hi]
set_option linter.unusedSimpArgs false in
set_option maxRecDepth 100000 in
theorem openCrl {H : Type} {enc : TypeId × Value → H} {W : World} {base b0 : Nat} {r : Reach} {spare : Nat → Bool} {held : Bool} {v : Value} {d : DataW H} {p : List MemPlace}
    (hv : Value.okWide Tryz.prog W r b0 43 v) (h : DataW.Trod enc Tryz.prog W base spare held 43 v d p) :
    ∃ (c : Lst) (a : Option Addr) (cap : Nat), v = c.val (.slice a c.serials.length cap) ∧ CameL W c a := by
  obtain ⟨cs, rfl, hsz⟩ := okWide_struct Tryz.underlying43 hv
  obtain ⟨c0, c1, c2, c3, c4, c5, c6, rfl⟩ := array7 (hsz.trans cellsCrl)
  obtain ⟨fuel, hf⟩ := h
  obtain ⟨xs, n, _, _, _, hlen, hff⟩ := DataW.trod_struct Tryz.underlying43 hf
  have hx : ∀ i, i < 5 → ∃ y, xs[i]? = some y := fun i hi => ⟨xs[i]'(by rw [hlen]; exact hi), List.getElem?_eq_getElem _⟩
  obtain ⟨y0, e0⟩ := hx 0 (by omega)
  obtain ⟨y1, e1⟩ := hx 1 (by omega)
  obtain ⟨y2, e2⟩ := hx 2 (by omega)
  obtain ⟨y3, e3⟩ := hx 3 (by omega)
  obtain ⟨y4, e4⟩ := hx 4 (by omega)
  have t0 := (hff 0 _ rfl).trans e0
  have t1 := (hff 1 _ rfl).trans e1
  have t2 := (hff 2 _ rfl).trans e2
  have t3 := (hff 3 _ rfl).trans e3
  have t4 := (hff 4 _ rfl).trans e4
  simp only [Value.cells, cellsInt, cellsStr, cellsLongs, cellsSig, List.drop_zero, List.drop_succ_cons, List.take_succ_cons, List.take_zero] at t0 t1 t2 t3 t4
  obtain ⟨iss, g0, _, w0⟩ := DataW.trod_string Tryz.underlying9 t0
  obtain ⟨fr, g1, _, w1⟩ := DataW.trod_int Tryz.underlying2 t1
  obtain ⟨till, g2, _, w2⟩ := DataW.trod_int Tryz.underlying2 t2
  obtain ⟨a, zs, cap, g3, hs, hl, he⟩ := open_nums t3
  obtain ⟨z0, z1, z2, m, _, _, u0, u1, u2⟩ := trod_struct3 Tryz.underlying34 t4
  simp only [cellsInt, List.drop_zero, List.drop_succ_cons, List.take_succ_cons, List.take_zero] at u0 u1 u2
  obtain ⟨sk, g8, _, w8⟩ := DataW.trod_int Tryz.underlying2 u0
  obtain ⟨se, g9, _, w9⟩ := DataW.trod_int Tryz.underlying2 u1
  obtain ⟨s3, g10, _, w10⟩ := DataW.trod_int Tryz.underlying2 u2
  obtain rfl := (List.cons.inj g0).1
  obtain rfl := (List.cons.inj g1).1
  obtain rfl := (List.cons.inj g2).1
  obtain rfl := g3
  obtain rfl := (List.cons.inj g8).1
  obtain rfl := (List.cons.inj g9).1
  obtain rfl := (List.cons.inj g10).1
  exact ⟨⟨iss, fr, till, zs, sk, se, s3⟩, a, cap, rfl, ⟨hs, hl, he, w0, w1, w2, w8, w9, w10⟩⟩
end Go.Proofs.YthofeoelndplpaaGreatDoor
