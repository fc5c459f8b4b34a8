/- spec.l05Arcs, spec.l05Oid, spec.DerOid, walked. -/
import Derived.Test.YtochmolhpcidgahDerS
import Derived.Test.YtochmolhpcidgahDerA
import Derived.Test.YtochmolhpcidgahDerW
import Derived.Test.YtochmolhpcidgahInts
namespace Go.Proofs.Ytochmolhpcidgah
open Go.RowKit

theorem IsInts.at {w : World} {a : Option Addr} {zs : List Int} (h : IsInts w a zs) (h0 : zs ≠ []) : ∃ b o, a = some ⟨b, o, none⟩ ∧ ∀ i, i < zs.length → w.cell? ⟨b, o + i, none⟩ = some (.int .i64 (zs.getD i 0)) := by
  rcases h with h | h
  · exact absurd h h0
  · exact h
set_option maxHeartbeats 1000000 in
set_option maxRecDepth 100000 in
theorem specArcs (a : Option Addr) (zs : List Int) (c : Nat) (w : World) (hl : zs.length ≤ 1048576) (ha : IsInts w a zs) :
    Calls Try.prog 28 #[.slice a zs.length c] w fun e w' => e = .returned (.bool (arcsB zs)) ∧ w' = w := by
  by_cases h1 : zs.length < 2 ∨ 10 < zs.length
  · have HF : Hid (arcsB zs = false) := by
      show _ = _
      rw [← Bool.not_eq_true, arcsB_iff]; omega
    generalize zs.length = n at *
    clear ha
    rcases h1 with h1 | h1
    all_goals
      go_enter Try.func28, Try.ntmps28
      go_wp2_with fail
      go_ret
      exact ⟨by rw [HF.out]; rfl, rfl⟩
  obtain ⟨b, o, rfl, hc⟩ := ha.at (by intro h; rw [h] at h1; simp at h1)
  have c0 := hc 0 (by omega)
  have c1 := hc 1 (by omega)
  rw [Nat.add_zero] at c0
  have HI : Hid (∀ i, i < zs.length → w.cell? ⟨b, o + i, none⟩ = some (.int .i64 (zs.getD i 0))) := hc
  have HIF : Hid (arcsB zs = true ↔ 2 ≤ zs.length ∧ zs.length ≤ 10 ∧ 0 ≤ zs.getD 0 0 ∧ zs.getD 0 0 ≤ 2 ∧ 0 ≤ zs.getD 1 0 ∧ zs.getD 1 0 ≤ most2 (zs.getD 0 0) ∧ ∀ j, 2 ≤ j → j < zs.length → 0 ≤ zs.getD j 0 ∧ zs.getD j 0 ≤ 2147483647) := arcsB_iff
  clear hc ha
  obtain ⟨n, hn⟩ : ∃ n, n = zs.length := ⟨_, rfl⟩
  obtain ⟨x0, hx0⟩ : ∃ x, x = zs.getD 0 0 := ⟨_, rfl⟩
  obtain ⟨x1, hx1⟩ : ∃ x, x = zs.getD 1 0 := ⟨_, rfl⟩
  rw [← hx0] at c0 HIF
  rw [← hx1] at c1 HIF
  rw [← hn] at HI HIF hl h1 ⊢
  have HIF2 := HIF.out
  have h2 : 2 ≤ n := by omega
  have h10 : n ≤ 10 := by omega
  clear hx0 hx1 hn HIF h1
  by_cases hA : 0 ≤ x0 ∧ x0 ≤ 2
  rotate_left
  · have HF : Hid (arcsB zs = false) := by
      show _ = _
      rw [← Bool.not_eq_true, HIF2]; omega
    have e0 : (decide (0 ≤ x0) && decide (x0 ≤ 2)) = false := by simp; omega
    clear HIF2
    go_enter Try.func28, Try.ntmps28
    go_wp2_with fail
    refine (specIs _ _ _ _).mono ?_
    rintro e w' ⟨rfl, rfl⟩
    rw [e0]
    go_wp2_with fail
    go_ret
    exact ⟨by rw [HF.out]; rfl, rfl⟩
  have e0 : (decide (0 ≤ x0) && decide (x0 ≤ 2)) = true := by simp; omega
  by_cases hB : 0 ≤ x1 ∧ x1 ≤ 100
  rotate_left
  · have HF : Hid (arcsB zs = false) := by
      show _ = _
      have : most2 x0 ≤ 100 := by unfold most2; split <;> omega
      rw [← Bool.not_eq_true, HIF2]; omega
    have e1 : (decide (0 ≤ x1) && decide (x1 ≤ 100)) = false := by simp; omega
    clear HIF2
    go_enter Try.func28, Try.ntmps28
    go_wp2_with fail
    refine (specIs _ _ _ _).mono ?_
    rintro e w' ⟨rfl, rfl⟩
    rw [e0]
    go_wp2_with fail
    refine (specIs _ _ _ _).mono ?_
    rintro e w' ⟨rfl, rfl⟩
    rw [e1]
    go_wp2_with fail
    go_ret
    exact ⟨by rw [HF.out]; rfl, rfl⟩
  have e1 : (decide (0 ≤ x1) && decide (x1 ≤ 100)) = true := by simp; omega
  obtain ⟨a0, a2⟩ := hA
  obtain ⟨b0, b2⟩ := hB
  by_cases hC : x0 < 2 ∧ 39 < x1
  · have HF : Hid (arcsB zs = false) := by
      show _ = _
      have : most2 x0 = 39 := by unfold most2; rw [if_neg (by omega)]
      rw [← Bool.not_eq_true, HIF2]; omega
    obtain ⟨g0, g1⟩ := hC
    clear HIF2
    go_enter Try.func28, Try.ntmps28
    go_wp2_with fail
    refine (specIs _ _ _ _).mono ?_
    rintro e w' ⟨rfl, rfl⟩
    rw [e0]
    go_wp2_with fail
    refine (specIs _ _ _ _).mono ?_
    rintro e w' ⟨rfl, rfl⟩
    rw [e1]
    go_wp2_with fail
    go_ret
    exact ⟨by rw [HF.out]; rfl, rfl⟩
  have HM : Hid (x1 ≤ most2 x0) := by
    show _ ≤ _
    unfold most2; split <;> omega
  have HIF : Hid (arcsB zs = true ↔ ∀ j, 2 ≤ j → j < n → 0 ≤ zs.getD j 0 ∧ zs.getD j 0 ≤ 2147483647) := by
    have := HM.out
    exact ⟨fun h => (HIF2.1 h).2.2.2.2.2.2, fun h => HIF2.2 ⟨h2, h10, a0, a2, b0, this, h⟩⟩
  clear HIF2
  have hC' : 2 = x0 ∨ (x0 < 2 ∧ x1 ≤ 39) := by omega
  rcases hC' with rfl | ⟨g0, g1⟩
  all_goals
    go_enter Try.func28, Try.ntmps28
    go_wp2_with fail
    refine (specIs _ _ _ _).mono ?_
    rintro e w' ⟨rfl, rfl⟩
    rw [e0]
    go_wp2_with fail
    refine (specIs _ _ _ _).mono ?_
    rintro e w' ⟨rfl, rfl⟩
    rw [e1]
    go_wp2_with fail
    go_loopw [3] (fun i wr => ∃ k : Nat, 2 ≤ k ∧ k ≤ n ∧ i = .int .i64 (k : Int) ∧ (∀ j, 2 ≤ j → j < k → 0 ≤ zs.getD j 0 ∧ zs.getD j 0 ≤ 2147483647) ∧ wr = w')
      (fun i _ => n - (intOf i).toNat)
    case atStart => exact ⟨2, Nat.le_refl _, h2, rfl, fun j h3 h4 => by omega, rfl⟩
    case round =>
      obtain ⟨k, hk2, hk, rfl, hgood, rfl⟩ := hrel
      have HGd : Hid (∀ j, 2 ≤ j → j < k → 0 ≤ zs.getD j 0 ∧ zs.getD j 0 ≤ 2147483647) := hgood
      clear hgood
      by_cases hlt : k < n
      · have ck := HI.out k hlt
        obtain ⟨xk, hxk⟩ : ∃ x, x = zs.getD k 0 := ⟨_, rfl⟩
        rw [← hxk] at ck
        have HX : Hid (xk = zs.getD k 0) := hxk
        clear hxk
        by_cases hg : 0 ≤ xk ∧ xk ≤ 2147483647
        · have eg : (decide (0 ≤ xk) && decide (xk ≤ 2147483647)) = true := by simp; omega
          go_wp2_with fail
          refine (specIs _ _ _ _).mono ?_
          rintro e w' ⟨rfl, rfl⟩
          rw [eg]
          go_wp2_with fail
          go_roundw
          case rel =>
            refine ⟨k + 1, by omega, by omega, by go_num, fun j h3 h4 => ?_, trivial⟩
            by_cases ej : j = k
            · subst ej; rw [← HX.out]; exact hg
            · exact HGd.out j h3 (by omega)
          case measure => simp [intOf]; omega
        · have eg : (decide (0 ≤ xk) && decide (xk ≤ 2147483647)) = false := by simp; omega
          have HF : Hid (arcsB zs = false) := by
            show _ = _
            rw [← Bool.not_eq_true, HIF.out]
            intro h
            exact hg (by rw [HX.out]; exact h k hk2 hlt)
          go_wp2_with fail
          refine (specIs _ _ _ _).mono ?_
          rintro e w' ⟨rfl, rfl⟩
          rw [eg]
          go_wp2_with fail
          go_ret
          exact ⟨by rw [HF.out]; rfl, rfl⟩
      · have HF : Hid (arcsB zs = true) := HIF.out.2 (fun j h3 h4 => HGd.out j h3 (by omega))
        go_wp2_with fail
        go_ret
        exact ⟨by rw [HF.out]; rfl, rfl⟩
end Go.Proofs.Ytochmolhpcidgah
