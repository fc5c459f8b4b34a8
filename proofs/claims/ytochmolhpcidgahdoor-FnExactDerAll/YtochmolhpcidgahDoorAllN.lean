/- laws.heldTlvS, markTlvsOut, heldTlvsOut, walked. -/
import Derived.Test.YtochmolhpcidgahDoorAllM
namespace Go.Proofs.YtochmolhpcidgahDoor
open Go.RowKit

set_option maxHeartbeats 2000000 in
set_option maxRecDepth 100000 in
theorem heldTlvS (g n c k : Nat) (M : List Value) (w : World) (hn : n ≤ 60) (hk0 : 1 ≤ k) (hk : k ≤ 100) (hg : w.heap[g]? = some (.cells M.toArray 23 (0, 0))) (hm : MarksT k n M) :
    Calls Tryd.prog 21 #[.slice (some ⟨g, 0, none⟩) n c, .int .i64 (k : Int)] w fun e w' => e = .returned (.int .i64 ((k + 2 * n : Nat) : Int)) ∧ Below w.heap.size w w' := by
  have hgl : g < w.heap.size := heap_lt hg
  have HC : Hid (∀ W, Below w.heap.size w W → ∀ i, i < n → W.cell? ⟨g, i * 2, none⟩ = some (.int .i64 ((k + 2 * i : Nat) : Int)) ∧ W.cell? ⟨g, i * 2 + 1, none⟩ = some (.string (mkT (k + 2 * i + 1)))) := fun W hW i hi => by
    rw [hW.cell (p := ⟨g, i * 2, none⟩) hgl, hW.cell (p := ⟨g, i * 2 + 1, none⟩) hgl]
    exact ⟨rowFacts hg _ _ (hm i hi).1, rowFacts hg _ _ (hm i hi).2⟩
  clear hg hm
  go_enter Tryd.func21, Tryd.ntmps21
  go_wp2_with fail
  go_loopw [1, 5] (fun q i wr => ∃ j : Nat, j ≤ n ∧ q = .int .i64 ((k + 2 * j : Nat) : Int) ∧ i = .int .i64 (j : Int) ∧ Below w.heap.size w wr)
    (fun _ i _ => n - (intOf i).toNat)
  case atStart => exact ⟨0, Nat.zero_le _, by simp, rfl, Below.refl _ _⟩
  case round =>
    obtain ⟨j, hj, rfl, rfl, hbr⟩ := hrel
    by_cases hlt : j < n
    · obtain ⟨q, hq⟩ : ∃ q, q = k + 2 * j := ⟨_, rfl⟩
      obtain ⟨c0, c1⟩ := HC.out wr hbr j hlt
      rw [← hq] at c0 c1 ⊢
      have hq1 : 1 ≤ q := by omega
      have hq2 : q ≤ 220 := by omega
      have hsr := hbr.size
      have hgr : g < wr.heap.size := by omega
      have HQ : Hid (q = k + 2 * j) := hq
      have HMk : Hid (∀ V : World, Hid (Below wr.heap.size wr V) → Calls Tryd.prog 30 #[.int .i64 ((q : Int) + 1)] V fun e W => e = .returned (.string (mkT (q + 1))) ∧ Hid (Below wr.heap.size wr W) ∧ W.cell? ⟨g, j * 2 + 1, none⟩ = some (.string (mkT (q + 1)))) := fun V hV => by
        have := markText (q + 1) V (by omega) (by omega)
        rw [show (((q + 1 : Nat) : Int)) = (q : Int) + 1 from by omega] at this
        refine this.mono ?_
        rintro e W ⟨rfl, hW⟩
        have hB := hV.out.trans (hW.mono hV.out.size)
        exact ⟨rfl, hB, by rw [hB.cell (p := ⟨g, j * 2 + 1, none⟩) hgr]; exact c1⟩
      have HBr : Hid (Below w.heap.size w wr) := hbr
      have HD : Hid (Below wr.heap.size wr wr.drew) := (Below.refl _ wr).drew
      have eq1 : ((q : Int) != (q : Int)) = false := by simp
      have hji : (j : Int) < (n : Int) := by omega
      have hj0 : (0 : Int) ≤ (j : Int) := by omega
      clear hq hbr
      generalize mkT (q + 1) = u at *
      go_wp2_with fail
      go_region_held3 (fun V => V.cell? ⟨g, j * 2 + 1, none⟩ = some (.string u)) (first | exact p0 | go_keep)
        (first | (go_at_call 30; refine (HMk.out _ (by assumption)).mono ?_; rintro r w1 ⟨rfl, kk, p0⟩))
      have HB1 : Hid (Below w.heap.size w w1) := HBr.out.trans (kk.out.mono hsr)
      clear kk HMk HD p0 c0 c1
      go_wp2_with fail
      go_roundw
      case rel => exact ⟨j + 1, by omega, by have := HQ.out; go_num, by go_num, HB1.out⟩
      case measure => simp [intOf]; omega
    · obtain rfl : j = n := by omega
      go_wp2_with fail
      go_ret
      exact ⟨rfl, hbr⟩
/-- A row of n things bears the marks. -/
def MkT (w : World) (v : Value) (n : Nat) : Prop := (n = 0 ∧ ∃ a c, v = .slice a 0 c) ∨ ∃ g cap M, v = .slice (some ⟨g, 0, none⟩) n cap ∧ w.heap[g]? = some (.cells M.toArray 23 (0, 0)) ∧ MarksT 1 n M
theorem MkT.keep {w w' : World} {v : Value} {n : Nat} (h : MkT w v n) (hb : Below w.heap.size w w') : MkT w' v n := by
  rcases h with h | ⟨g, cap, M, e, hg, hm⟩
  · exact .inl h
  · exact .inr ⟨g, cap, M, e, by rw [hb.block g (heap_lt hg)]; exact hg, hm⟩
set_option maxHeartbeats 2000000 in
set_option maxRecDepth 100000 in
theorem markOutT (v : Value) (l : List (Int × ByteArray)) (B : Nat) (z : Int) (w : World) (hl : l.length ≤ 60) (ho : OwnT w B v l) :
    Calls Tryd.prog 11 #[.agg #[v, .int .i64 z], .int .i64 1] w fun e w' => e = .returned (.int .i64 ((1 + 2 * l.length : Nat) : Int)) ∧ MkT w' v l.length ∧
      (∀ b, v.ownBlock ≠ some b → b < w.heap.size → w'.heap[b]? = w.heap[b]?) ∧ w.heap.size ≤ w'.heap.size ∧ ∀ B' w0, B' ≤ B → B' ≤ w.heap.size → Below B' w0 w → Below B' w0 w' := by
  rcases ho.2 with ⟨rfl, h0⟩ | ⟨g, cap, cur, rfl, hBg, hg, hnc, hcm, hcs, ht⟩
  · rw [h0]
    have HMk : Hid (∀ V : World, Calls Tryd.prog 20 #[.slice none 0 0, .int .i64 1] V fun e w' => e = .returned (.int .i64 1) ∧ w' = V) := fun V => by
      go_enter Tryd.func20, Tryd.ntmps20
      go_wp2_with fail
      refine wp_loop_rounds 1 ?_
      rw [rounds_succ]
      go_wp2_with fail
      go_ret
      exact ⟨rfl, rfl⟩
    clear ho h0
    go_enter Tryd.func11, Tryd.ntmps11
    go_wp2_with fail
    refine (HMk.out _).mono ?_
    rintro e w1 ⟨rfl, rfl⟩
    go_wp2_with fail
    go_ret
    refine ⟨rfl, .inl ⟨rfl, _, _, rfl⟩, fun b _ hb => Below.heap_alloc _ _ _ hb, by simp, fun B' w0 _ h2 h3 => h3.alloc h2 _⟩
  · have hgl : g < w.heap.size := heap_lt hg
    have HMk : Hid (∀ o, Calls Tryd.prog 20 #[.slice (some ⟨g, 0, none⟩) l.length cap, .int .i64 1] (w.alloc o) fun e w' => e = .returned (.int .i64 ((1 + 2 * l.length : Nat) : Int)) ∧ (∃ M, w'.heap[g]? = some (.cells M.toArray 23 (0, 0)) ∧ MarksT 1 l.length M) ∧
        (∀ b, b ≠ g → b < w.heap.size + 1 → w'.heap[b]? = (w.alloc o).heap[b]?) ∧ w.heap.size ≤ w'.heap.size ∧ ∀ B w0, B ≤ g → B ≤ w.heap.size + 1 → Below B w0 (w.alloc o) → Below B w0 w') := fun o => by
      refine (markTlvS g l.length cap 1 cur.toList (w.alloc o) hl (by omega) (by omega) ?_ ?_).mono ?_
      · simp only [Array.length_toList, hcs]; omega
      · rw [Below.heap_alloc _ _ _ hgl]; simpa using hg
      · rintro e w' ⟨he, h1, h2, h3, h4⟩
        have hsz : (w.alloc o).heap.size = w.heap.size + 1 := by simp
        exact ⟨he, h1, fun b hb hb2 => h2 b hb (by omega), by omega, fun B w0 hB1 hB2 hB3 => h4 B w0 hB1 (by omega) hB3⟩
    obtain ⟨n, hn⟩ : ∃ n, n = l.length := ⟨_, rfl⟩
    rw [← hn] at hl HMk ⊢
    clear ho hg ht hcs hcm hnc hn
    go_enter Tryd.func11, Tryd.ntmps11
    go_wp2_with fail
    refine (HMk.out _).mono ?_
    rintro e w1 ⟨rfl, ⟨M, hM, hMk⟩, h2, h3, h4⟩
    have HM : Hid (w1.heap[g]? = some (.cells M.toArray 23 (0, 0)) ∧ MarksT 1 n M) := ⟨hM, hMk⟩
    have H2 : Hid (∀ b, b ≠ g → b < w.heap.size → w1.heap[b]? = w.heap[b]?) := fun b hb hl => by
      rw [h2 b hb (by omega)]; exact Below.heap_alloc _ _ _ hl
    have H4 : Hid (∀ B' w0, B' ≤ B → B' ≤ w.heap.size → Below B' w0 w → Below B' w0 w1) := fun B' w0 hB1 hB2 hB3 => h4 B' w0 (by omega) (by omega) (hB3.alloc hB2 _)
    clear hM hMk h2 h4 HMk
    go_wp2_with fail
    go_ret
    refine ⟨rfl, .inr ⟨g, cap, M, rfl, HM.out.1, HM.out.2⟩, fun b hb hl => H2.out b (fun e => hb (by rw [e]; rfl)) hl, h3, H4.out⟩
set_option maxHeartbeats 1000000 in
set_option maxRecDepth 100000 in
theorem heldOutT (v : Value) (n : Nat) (z : Int) (w : World) (hl : n ≤ 60) (hm : MkT w v n) :
    Calls Tryd.prog 12 #[.agg #[v, .int .i64 z], .int .i64 1] w fun e w' => e = .returned (.int .i64 ((1 + 2 * n : Nat) : Int)) ∧ Below w.heap.size w w' := by
  rcases hm with ⟨rfl, a, c, rfl⟩ | ⟨g, cap, M, rfl, hg, hm⟩
  · have HMk : Hid (∀ V : World, Calls Tryd.prog 21 #[.slice a 0 c, .int .i64 1] V fun e w' => e = .returned (.int .i64 1) ∧ w' = V) := fun V => by
      go_enter Tryd.func21, Tryd.ntmps21
      go_wp2_with fail
      refine wp_loop_rounds 1 ?_
      rw [rounds_succ]
      go_wp2_with fail
      go_ret
      exact ⟨rfl, rfl⟩
    go_enter Tryd.func12, Tryd.ntmps12
    go_wp2_with fail
    refine (HMk.out _).mono ?_
    rintro e w1 ⟨rfl, rfl⟩
    go_wp2_with fail
    go_ret
    exact ⟨rfl, (Below.refl _ _).alloc (Nat.le_refl _) _⟩
  · have hgl : g < w.heap.size := heap_lt hg
    have HMk : Hid (∀ o, Calls Tryd.prog 21 #[.slice (some ⟨g, 0, none⟩) n cap, .int .i64 1] (w.alloc o) fun e w' => e = .returned (.int .i64 ((1 + 2 * n : Nat) : Int)) ∧ Below (w.alloc o).heap.size (w.alloc o) w') := fun o =>
      heldTlvS g n cap 1 M (w.alloc o) hl (by omega) (by omega) (by rw [Below.heap_alloc _ _ _ hgl]; exact hg) hm
    clear hg hm
    obtain ⟨m, hmm⟩ : ∃ m, m = 1 + 2 * n := ⟨_, rfl⟩
    rw [← hmm] at HMk ⊢
    have hm1 : 1 ≤ m := by omega
    clear hmm
    go_enter Tryd.func12, Tryd.ntmps12
    go_wp2_with fail
    refine (HMk.out _).mono ?_
    rintro e w1 ⟨rfl, hb1⟩
    have HB : Hid (Below w.heap.size w w1) := ((Below.refl _ w).alloc (Nat.le_refl _) _).trans (hb1.mono (by simp))
    clear hb1 HMk
    go_wp2_with fail
    go_ret
    exact ⟨rfl, HB.out⟩
end Go.Proofs.YtochmolhpcidgahDoor
