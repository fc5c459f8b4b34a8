/- impl.mostSecond, impl.arcsRight, walked. -/
import Derived.Test.YtochmolhpcidgahDerO
import Derived.Test.YtochmolhpcidgahInts
import Derived.Deep.RegionHeld3
namespace Go.Proofs.Ytochmolhpcidgah
open Go.RowKit

theorem mostSecond (x : Int) (w : World) :
    Calls Try.prog 41 #[.int .i64 x] w fun e w' => e = .returned (.int .i64 (most2 x)) ∧ w' = w := by
  by_cases h : x = 2
  · have HF : Hid (most2 x = 100) := if_pos h
    subst h
    go_enter Try.func41, Try.ntmps41
    go_wp2
    go_ret
    exact ⟨by rw [HF.out]; rfl, rfl⟩
  · have HF : Hid (most2 x = 39) := if_neg h
    have e1 : (x == 2) = false := by rw [beq_eq_false_iff_ne]; exact h
    go_enter Try.func41, Try.ntmps41
    go_wp2
    go_ret
    exact ⟨by rw [HF.out]; rfl, rfl⟩
theorem IsInts.atZ {w : World} {a : Option Addr} {zs : List Int} (h : IsInts w a zs) (h0 : zs ≠ []) : ∃ b o, a = some ⟨b, o, none⟩ ∧ ∀ i, i < zs.length → w.cell? ⟨b, o + i, none⟩ = some (.int .i64 (zs.getD i 0)) := by
  rcases h with h | h
  · exact absurd h h0
  · exact h
set_option maxHeartbeats 1000000 in
set_option maxRecDepth 100000 in
theorem arcsRight (a : Option Addr) (zs : List Int) (c : Nat) (w : World) (hl : zs.length ≤ 1048576) (hcap : zs.length ≤ c) (ha : IsInts w a zs) :
    Calls Try.prog 30 #[.slice a zs.length c] w fun e w' => e = .returned (.bool (arcsB zs)) ∧ Below w.heap.size w w' := by
  by_cases h1 : zs.length < 2 ∨ 10 < zs.length
  · have HF : Hid (arcsB zs = false) := by
      show _ = _
      rw [← Bool.not_eq_true, arcsB_iff]; omega
    generalize zs.length = n at *
    clear ha
    rcases h1 with h1 | h1
    all_goals
      go_enter Try.func30, Try.ntmps30
      go_wp2_with fail
      go_ret
      exact ⟨by rw [HF.out]; rfl, Below.refl _ _⟩
  obtain ⟨b, o, rfl, hc⟩ := ha.atZ (by intro h; rw [h] at h1; simp at h1)
  have c0 := hc 0 (by omega)
  have c1 := hc 1 (by omega)
  rw [Nat.add_zero] at c0
  have HI : Hid (∀ i, i < zs.length → w.cell? ⟨b, o + i, none⟩ = some (.int .i64 (zs.getD i 0))) := hc
  have HIF : Hid (arcsB zs = true ↔ 2 ≤ zs.length ∧ zs.length ≤ 10 ∧ 0 ≤ zs.getD 0 0 ∧ zs.getD 0 0 ≤ 2 ∧ 0 ≤ zs.getD 1 0 ∧ zs.getD 1 0 ≤ most2 (zs.getD 0 0) ∧ ∀ j, 2 ≤ j → j < zs.length → 0 ≤ zs.getD j 0 ∧ zs.getD j 0 ≤ 2147483647) := arcsB_iff
  clear hc ha
  obtain ⟨n, hn⟩ : ∃ n, n = zs.length := ⟨_, rfl⟩
  obtain ⟨x0, hx0⟩ : ∃ x, x = zs.getD 0 0 := ⟨_, rfl⟩
  obtain ⟨x1, hx1⟩ : ∃ x, x = zs.getD 1 0 := ⟨_, rfl⟩
  rw [← hx0] at c0 HIF
  rw [← hx1] at c1 HIF
  rw [← hn] at HI HIF hl hcap h1 ⊢
  have HIF2 := HIF.out
  have h2 : 2 ≤ n := by omega
  have h10 : n ≤ 10 := by omega
  have i0 : (0 : Int) < (n : Int) := by omega
  have i1 : (1 : Int) < (n : Int) := by omega
  have j0 : 0 < n := by omega
  have j1 : 1 < n := by omega
  clear hx0 hx1 hn HIF h1
  by_cases g0 : x0 < 0
  · have HF : Hid (arcsB zs = false) := by
      show _ = _
      rw [← Bool.not_eq_true, HIF2]; omega
    clear HIF2
    go_enter Try.func30, Try.ntmps30
    go_wp2_with fail
    go_quiet (fail)
    clear c0 c1 i0 i1 j0 j1
    go_wp2_with fail
    go_ret
    exact ⟨by rw [HF.out]; rfl, below_drewN (Below.refl _ _) _⟩
  by_cases g1 : 2 < x0
  · have HF : Hid (arcsB zs = false) := by
      show _ = _
      rw [← Bool.not_eq_true, HIF2]; omega
    clear HIF2
    go_enter Try.func30, Try.ntmps30
    go_wp2_with fail
    go_quiet (fail)
    clear c0 c1 i0 i1 j0 j1
    go_wp2_with fail
    go_ret
    exact ⟨by rw [HF.out]; rfl, below_drewN (Below.refl _ _) _⟩
  by_cases g2 : x1 < 0
  · have HF : Hid (arcsB zs = false) := by
      show _ = _
      rw [← Bool.not_eq_true, HIF2]; omega
    clear HIF2
    go_enter Try.func30, Try.ntmps30
    go_wp2_with fail
    go_quiet (fail)
    clear c0 c1 i0 i1 j0 j1
    go_wp2_with fail
    go_ret
    exact ⟨by rw [HF.out]; rfl, below_drewN (Below.refl _ _) _⟩
  by_cases g3 : most2 x0 < x1
  · have HF : Hid (arcsB zs = false) := by
      show _ = _
      rw [← Bool.not_eq_true, HIF2]; omega
    clear HIF2
    go_enter Try.func30, Try.ntmps30
    go_wp2_with fail
    go_quiet (fail)
    clear c0 c1 i0 i1 j0 j1
    go_wp2_with fail
    refine (mostSecond _ _).mono ?_
    rintro e w' ⟨rfl, rfl⟩
    generalize most2 x0 = m2 at *
    go_wp2_with fail
    go_ret
    exact ⟨by rw [HF.out]; rfl, below_drewN (Below.refl _ _) _⟩
  · have HIF : Hid (arcsB zs = true ↔ ∀ j, 2 ≤ j → j < n → 0 ≤ zs.getD j 0 ∧ zs.getD j 0 ≤ 2147483647) :=
      ⟨fun h => (HIF2.1 h).2.2.2.2.2.2, fun h => HIF2.2 ⟨h2, h10, by omega, by omega, by omega, by omega, h⟩⟩
    clear HIF2
    go_enter Try.func30, Try.ntmps30
    go_wp2_with fail
    go_quiet (fail)
    clear c0 c1 i0 i1 j0 j1
    go_wp2_with fail
    refine (mostSecond _ _).mono ?_
    rintro e w' ⟨rfl, rfl⟩
    generalize most2 x0 = m2 at *
    go_wp2_with fail
    case inl =>
      have hn2 : n = 2 := by omega
      subst hn2
      have HF : Hid (arcsB zs = true) := HIF.out.2 (fun j h3 h4 => by omega)
      refine wp_loop_rounds 1 ?_
      rw [rounds_succ]
      go_wp2_with fail
      go_ret
      exact ⟨by rw [HF.out]; rfl, below_drewN (Below.refl _ _) _⟩
    case inr =>
      go_loopw [40] (fun i wr => ∃ k : Nat, k + 2 ≤ n ∧ i = .int .i64 (k : Int) ∧ (∀ j, 2 ≤ j → j < k + 2 → 0 ≤ zs.getD j 0 ∧ zs.getD j 0 ≤ 2147483647) ∧ wr = w.drewN nq)
        (fun i _ => n - (intOf i).toNat)
      case atStart => exact ⟨0, h2, rfl, fun j h3 h4 => by omega, rfl⟩
      case round =>
        obtain ⟨k, hk, rfl, hgood, rfl⟩ := hrel
        have HGd : Hid (∀ j, 2 ≤ j → j < k + 2 → 0 ≤ zs.getD j 0 ∧ zs.getD j 0 ≤ 2147483647) := hgood
        clear hgood
        by_cases hlt : k + 2 < n
        · have ck : w.cell? ⟨b, o + 2 + k, none⟩ = some (.int .i64 (zs.getD (k + 2) 0)) := by
            have := HI.out (k + 2) hlt
            rw [show o + (k + 2) = o + 2 + k from by omega] at this
            exact this
          have hki : (k : Int) < ((n - 2 : Nat) : Int) := by omega
          have hkn : k < n - 2 := by omega
          obtain ⟨xk, hxk⟩ : ∃ x, x = zs.getD (k + 2) 0 := ⟨_, rfl⟩
          rw [← hxk] at ck
          have HX : Hid (xk = zs.getD (k + 2) 0) := hxk
          clear hxk
          by_cases ha0 : xk < 0
          · have HF : Hid (arcsB zs = false) := by
              show _ = _
              rw [← Bool.not_eq_true, HIF.out]
              intro h
              have := h (k + 2) (by omega) hlt
              rw [← HX.out] at this
              omega
            go_wp2_with fail
            go_ret
            exact ⟨by rw [HF.out]; rfl, below_drewN (Below.refl _ _) _⟩
          by_cases ha1 : 2147483647 < xk
          · have HF : Hid (arcsB zs = false) := by
              show _ = _
              rw [← Bool.not_eq_true, HIF.out]
              intro h
              have := h (k + 2) (by omega) hlt
              rw [← HX.out] at this
              omega
            go_wp2_with fail
            go_ret
            exact ⟨by rw [HF.out]; rfl, below_drewN (Below.refl _ _) _⟩
          · go_wp2_with fail
            go_roundw
            case rel =>
              refine ⟨k + 1, by omega, by go_num, fun j h3 h4 => ?_, trivial⟩
              by_cases ej : j = k + 2
              · subst ej; rw [← HX.out]; omega
              · exact HGd.out j h3 (by omega)
            case measure => simp [intOf]; omega
        · have hkn : ¬ (k : Int) < ((n - 2 : Nat) : Int) := by omega
          have HF : Hid (arcsB zs = true) := HIF.out.2 (fun j h3 h4 => HGd.out j h3 (by omega))
          go_wp2_with fail
          go_ret
          exact ⟨by rw [HF.out]; rfl, below_drewN (Below.refl _ _) _⟩
end Go.Proofs.Ytochmolhpcidgah
