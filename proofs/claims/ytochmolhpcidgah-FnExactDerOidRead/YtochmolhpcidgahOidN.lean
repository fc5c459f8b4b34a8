/- laws.eqOidOut, markOidOut, heldOidOut, walked. -/
import Derived.Test.YtochmolhpcidgahOidJ
import Derived.Test.YtochmolhpcidgahIntsE
import Derived.Test.YtochmolhpcidgahIntsM
import Derived.Test.YtochmolhpcidgahResK
namespace Go.Proofs.Ytochmolhpcidgah
open Go.RowKit

theorem IsInts.keep {w w' : World} {a : Option Addr} {zs : List Int} (h : IsInts w a zs) (hb : Below w.heap.size w w') : IsInts w' a zs := h.below hb h.lt
set_option maxHeartbeats 1000000 in
set_option maxRecDepth 100000 in
theorem eqOidOut (a b : Option Addr) (l : List Int) (c d : Nat) (z : Int) (w : World) (hl : l.length ≤ 10) (ha : IsInts w a l) (hb : IsInts w b l) :
    Calls Try.prog 18 #[.agg #[.slice a l.length c, .int .i64 z], .agg #[.slice b l.length d, .int .i64 z]] w fun e w' => e = .returned (.bool true) ∧ Below w.heap.size w w' := by
  have HQ : Hid (∀ V, Below w.heap.size w V → Calls Try.prog 15 #[.slice a l.length c, .slice b l.length d] V fun e w' => e = .returned (.bool true) ∧ Below V.heap.size V w') := fun V hV => eqInts a b l c d V (by omega) (ha.keep hV) (hb.keep hV)
  have ez : (z != z) = false := by simp
  generalize l.length = n at *
  clear ha hb
  go_enter Try.func18, Try.ntmps18
  go_wp2_with fail
  refine (HQ.out _ (((Below.refl _ w).alloc (Nat.le_refl _) _).alloc (by simp) _)).mono ?_
  rintro e w1 ⟨rfl, hb1⟩
  have k1 : w1.cell? ⟨w.heap.size, 1, none⟩ = some (.int .i64 z) := (hb1.cell (by simp; omega)).trans (by simp)
  have j1 : w1.cell? ⟨w.heap.size + 1, 1, none⟩ = some (.int .i64 z) := (hb1.cell (by simp)).trans (by simp)
  have HB : Hid (Below w.heap.size w w1) := (((Below.refl _ w).alloc (Nat.le_refl _) _).alloc (by simp) _).trans (hb1.mono (by simp; omega))
  clear hb1
  go_wp2
  go_ret
  exact ⟨rfl, HB.out⟩
/-- A row of n numbers bears the marks. -/
def MkL (w : World) (v : Value) (n : Nat) : Prop := (n = 0 ∧ ∃ a c, v = .slice a 0 c) ∨ ∃ g cap M, v = .slice (some ⟨g, 0, none⟩) n cap ∧ w.heap[g]? = some (.cells M.toArray 2 (0, 0)) ∧ Counts 1 n M
theorem MkL.keep {w w' : World} {v : Value} {n : Nat} (h : MkL w v n) (hb : Below w.heap.size w w') : MkL w' v n := by
  rcases h with h | ⟨g, cap, M, e, hg, hm⟩
  · exact .inl h
  · exact .inr ⟨g, cap, M, e, by rw [hb.block g (heap_lt hg)]; exact hg, hm⟩
set_option maxHeartbeats 2000000 in
set_option maxRecDepth 100000 in
theorem markOutL (v : Value) (l : List Int) (B : Nat) (z : Int) (w : World) (hl : l.length ≤ 10) (ho : OwnL w B v l) :
    Calls Try.prog 19 #[.agg #[v, .int .i64 z], .int .i64 1] w fun e w' => e = .returned (.int .i64 ((1 + l.length : Nat) : Int)) ∧ MkL w' v l.length ∧
      (∀ b, v.ownBlock ≠ some b → b < w.heap.size → w'.heap[b]? = w.heap[b]?) ∧ w.heap.size ≤ w'.heap.size ∧ ∀ B' w0, B' ≤ B → B' ≤ w.heap.size → Below B' w0 w → Below B' w0 w' := by
  rcases ho.2 with ⟨rfl, h0⟩ | ⟨g, cap, cur, rfl, hBg, hg, hnc, hcm, hcs, ht⟩
  · rw [h0]
    have HMk : Hid (∀ V : World, Calls Try.prog 33 #[.slice none 0 0, .int .i64 1] V fun e w' => e = .returned (.int .i64 1) ∧ w' = V) := fun V => by
      go_enter Try.func33, Try.ntmps33
      go_wp2_with fail
      refine wp_loop_rounds 1 ?_
      rw [rounds_succ]
      go_wp2_with fail
      go_ret
      exact ⟨rfl, rfl⟩
    clear ho h0
    go_enter Try.func19, Try.ntmps19
    go_wp2_with fail
    refine (HMk.out _).mono ?_
    rintro e w1 ⟨rfl, rfl⟩
    go_wp2_with fail
    go_ret
    refine ⟨rfl, .inl ⟨rfl, _, _, rfl⟩, fun b _ hb => Below.heap_alloc _ _ _ hb, by simp, fun B' w0 _ h2 h3 => h3.alloc h2 _⟩
  · have hgl : g < w.heap.size := heap_lt hg
    have HMk : Hid (∀ o, Calls Try.prog 33 #[.slice (some ⟨g, 0, none⟩) l.length cap, .int .i64 1] (w.alloc o) fun e w' => e = .returned (.int .i64 ((1 + l.length : Nat) : Int)) ∧ (∃ M, w'.heap[g]? = some (.cells M.toArray 2 (0, 0)) ∧ Counts 1 l.length M) ∧ RowOnly g (w.alloc o) w') := fun o => by
      have := markInts g l.length cap cur.toList 1 (w.alloc o) (by omega) (by omega) (by omega) (by simp only [Array.length_toList, hcs]; omega) (by rw [Below.heap_alloc _ _ _ hgl]; simpa using hg)
      rw [show (1 : Int) + (l.length : Int) = ((1 + l.length : Nat) : Int) from by omega] at this
      exact this
    obtain ⟨n, hn⟩ : ∃ n, n = l.length := ⟨_, rfl⟩
    rw [← hn] at hl HMk ⊢
    clear ho hg ht hcs hcm hnc hn
    go_enter Try.func19, Try.ntmps19
    go_wp2_with fail
    refine (HMk.out _).mono ?_
    rintro e w1 ⟨rfl, ⟨M, hM, hMk⟩, ho⟩
    have HM : Hid (w1.heap[g]? = some (.cells M.toArray 2 (0, 0)) ∧ Counts 1 n M) := ⟨hM, hMk⟩
    have H2 : Hid (∀ b, b ≠ g → b < w.heap.size → w1.heap[b]? = w.heap[b]?) := fun b hb hl => by
      rw [ho.2.1 b hb]; exact Below.heap_alloc _ _ _ hl
    have h3 : w.heap.size ≤ w1.heap.size := by have := ho.1; simp at this; omega
    have H4 : Hid (∀ B' w0, B' ≤ B → B' ≤ w.heap.size → Below B' w0 w → Below B' w0 w1) := fun B' w0 hB1 hB2 hB3 => ho.2.2 B' w0 (by omega) (hB3.alloc hB2 _)
    clear hM hMk ho HMk
    go_wp2_with fail
    go_ret
    refine ⟨rfl, .inr ⟨g, cap, M, rfl, HM.out.1, HM.out.2⟩, fun b hb hl => H2.out b (fun e => hb (by rw [e]; rfl)) hl, h3, H4.out⟩
set_option maxHeartbeats 1000000 in
set_option maxRecDepth 100000 in
theorem heldOutL (v : Value) (n : Nat) (z : Int) (w : World) (hl : n ≤ 10) (hm : MkL w v n) :
    Calls Try.prog 20 #[.agg #[v, .int .i64 z], .int .i64 1] w fun e w' => e = .returned (.int .i64 ((1 + n : Nat) : Int)) ∧ Below w.heap.size w w' := by
  rcases hm with ⟨rfl, a, c, rfl⟩ | ⟨g, cap, M, rfl, hg, hm⟩
  · have HMk : Hid (∀ V : World, Calls Try.prog 34 #[.slice a 0 c, .int .i64 1] V fun e w' => e = .returned (.int .i64 1) ∧ w' = V) := fun V => by
      go_enter Try.func34, Try.ntmps34
      go_wp2_with fail
      refine wp_loop_rounds 1 ?_
      rw [rounds_succ]
      go_wp2_with fail
      go_ret
      exact ⟨rfl, rfl⟩
    go_enter Try.func20, Try.ntmps20
    go_wp2_with fail
    refine (HMk.out _).mono ?_
    rintro e w1 ⟨rfl, rfl⟩
    go_wp2_with fail
    go_ret
    exact ⟨rfl, (Below.refl _ _).alloc (Nat.le_refl _) _⟩
  · have hgl : g < w.heap.size := heap_lt hg
    have HMk : Hid (∀ o, Calls Try.prog 34 #[.slice (some ⟨g, 0, none⟩) n cap, .int .i64 1] (w.alloc o) fun e w' => e = .returned (.int .i64 ((1 + n : Nat) : Int)) ∧ w' = w.alloc o) := fun o => by
      have := heldInts g n cap M 1 (w.alloc o) (by omega) (by omega) (by omega) (by rw [Below.heap_alloc _ _ _ hgl]; exact hg) hm
      rw [show (1 : Int) + (n : Int) = ((1 + n : Nat) : Int) from by omega] at this
      exact this
    clear hg hm
    obtain ⟨m, hmm⟩ : ∃ m, m = 1 + n := ⟨_, rfl⟩
    rw [← hmm] at HMk ⊢
    have hm1 : 1 ≤ m := by omega
    clear hmm
    go_enter Try.func20, Try.ntmps20
    go_wp2_with fail
    refine (HMk.out _).mono ?_
    rintro e w1 ⟨rfl, rfl⟩
    clear HMk
    go_wp2_with fail
    go_ret
    exact ⟨rfl, (Below.refl _ _).alloc (Nat.le_refl _) _⟩
end Go.Proofs.Ytochmolhpcidgah
