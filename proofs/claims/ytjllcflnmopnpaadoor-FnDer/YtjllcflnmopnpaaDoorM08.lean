/- spec.l05Arcs, spec.l05Oid, spec.DerOid, walked. spec.l05Oid, spec.DerOid, walked. -/
import Derived.Test.YtjllcflnmopnpaaDoorM02
import Derived.Test.YtjllcflnmopnpaaDoorM01
import Derived.Test.YtjllcflnmopnpaaDoorM07
import Derived.Test.YtjllcflnmopnpaaDoorM06
import Derived.Deep.RegionHeld3
namespace Go.Proofs.YtjllcflnmopnpaaDoor
open Go.RowKit

theorem IsInts.at {w : World} {a : Option Addr} {zs : List Int} (h : IsInts w a zs) (h0 : zs ≠ []) : ∃ b o, a = some ⟨b, o, none⟩ ∧ ∀ i, i < zs.length → w.cell? ⟨b, o + i, none⟩ = some (.int .i64 (zs.getD i 0)) := by
  rcases h with h | h
  · exact absurd h h0
  · exact h
set_option maxHeartbeats 1000000 in
set_option maxRecDepth 100000 in
theorem specArcs (a : Option Addr) (zs : List Int) (c : Nat) (w : World) (hl : zs.length ≤ 1048576) (ha : IsInts w a zs) :
    Calls Tryd.prog 48 #[.slice a zs.length c] w fun e w' => e = .returned (.bool (arcsB zs)) ∧ w' = w := by
  by_cases h1 : zs.length < 2 ∨ 10 < zs.length
  · have HF : Hid (arcsB zs = false) := by
      show _ = _
      rw [← Bool.not_eq_true, arcsB_iff]; omega
    generalize zs.length = n at *
    clear ha
    rcases h1 with h1 | h1
    all_goals
      go_enter Tryd.func48, Tryd.ntmps48
      go_wp2_with fail
      go_ret
      exact ⟨by rw [HF.out]; rfl, rfl⟩
  obtain ⟨b, o, rfl, hc⟩ := ha.at (by intro h; rw [h] at h1; simp at h1)
  have c0 := hc 0 (by omega)
  have c1 := hc 1 (by omega)
  rw [Nat.add_zero] at c0
  have HI : Hid (∀ i, i < zs.length → w.cell? ⟨b, o + i, none⟩ = some (.int .i64 (zs.getD i 0))) := hc
  have HIF : Hid (arcsB zs = true ↔ 2 ≤ zs.length ∧ zs.length ≤ 10 ∧ 0 ≤ zs.getD 0 0 ∧ zs.getD 0 0 ≤ 2 ∧ 0 ≤ zs.getD 1 0 ∧ zs.getD 1 0 ≤ most2 (zs.getD 0 0) ∧ ∀ j, 2 ≤ j → j < zs.length → 0 ≤ zs.getD j 0 ∧ zs.getD j 0 ≤ 2147483647) := arcsB_iff
  clear hc ha
  obtain ⟨n, hn⟩ : ∃ n, n = zs.length := ⟨_, rfl⟩
  obtain ⟨x0, hx0⟩ : ∃ x, x = zs.getD 0 0 := ⟨_, rfl⟩
  obtain ⟨x1, hx1⟩ : ∃ x, x = zs.getD 1 0 := ⟨_, rfl⟩
  rw [← hx0] at c0 HIF
  rw [← hx1] at c1 HIF
  rw [← hn] at HI HIF hl h1 ⊢
  have HIF2 := HIF.out
  have h2 : 2 ≤ n := by omega
  have h10 : n ≤ 10 := by omega
  clear hx0 hx1 hn HIF h1
  by_cases hA : 0 ≤ x0 ∧ x0 ≤ 2
  rotate_left
  · have HF : Hid (arcsB zs = false) := by
      show _ = _
      rw [← Bool.not_eq_true, HIF2]; omega
    have e0 : (decide (0 ≤ x0) && decide (x0 ≤ 2)) = false := by simp; omega
    clear HIF2
    go_enter Tryd.func48, Tryd.ntmps48
    go_wp2_with fail
    refine (specIs _ _ _ _).mono ?_
    rintro e w' ⟨rfl, rfl⟩
    rw [e0]
    go_wp2_with fail
    go_ret
    exact ⟨by rw [HF.out]; rfl, rfl⟩
  have e0 : (decide (0 ≤ x0) && decide (x0 ≤ 2)) = true := by simp; omega
  by_cases hB : 0 ≤ x1 ∧ x1 ≤ 100
  rotate_left
  · have HF : Hid (arcsB zs = false) := by
      show _ = _
      have : most2 x0 ≤ 100 := by unfold most2; split <;> omega
      rw [← Bool.not_eq_true, HIF2]; omega
    have e1 : (decide (0 ≤ x1) && decide (x1 ≤ 100)) = false := by simp; omega
    clear HIF2
    go_enter Tryd.func48, Tryd.ntmps48
    go_wp2_with fail
    refine (specIs _ _ _ _).mono ?_
    rintro e w' ⟨rfl, rfl⟩
    rw [e0]
    go_wp2_with fail
    refine (specIs _ _ _ _).mono ?_
    rintro e w' ⟨rfl, rfl⟩
    rw [e1]
    go_wp2_with fail
    go_ret
    exact ⟨by rw [HF.out]; rfl, rfl⟩
  have e1 : (decide (0 ≤ x1) && decide (x1 ≤ 100)) = true := by simp; omega
  obtain ⟨a0, a2⟩ := hA
  obtain ⟨b0, b2⟩ := hB
  by_cases hC : x0 < 2 ∧ 39 < x1
  · have HF : Hid (arcsB zs = false) := by
      show _ = _
      have : most2 x0 = 39 := by unfold most2; rw [if_neg (by omega)]
      rw [← Bool.not_eq_true, HIF2]; omega
    obtain ⟨g0, g1⟩ := hC
    clear HIF2
    go_enter Tryd.func48, Tryd.ntmps48
    go_wp2_with fail
    refine (specIs _ _ _ _).mono ?_
    rintro e w' ⟨rfl, rfl⟩
    rw [e0]
    go_wp2_with fail
    refine (specIs _ _ _ _).mono ?_
    rintro e w' ⟨rfl, rfl⟩
    rw [e1]
    go_wp2_with fail
    go_ret
    exact ⟨by rw [HF.out]; rfl, rfl⟩
  have HM : Hid (x1 ≤ most2 x0) := by
    show _ ≤ _
    unfold most2; split <;> omega
  have HIF : Hid (arcsB zs = true ↔ ∀ j, 2 ≤ j → j < n → 0 ≤ zs.getD j 0 ∧ zs.getD j 0 ≤ 2147483647) := by
    have := HM.out
    exact ⟨fun h => (HIF2.1 h).2.2.2.2.2.2, fun h => HIF2.2 ⟨h2, h10, a0, a2, b0, this, h⟩⟩
  clear HIF2
  have hC' : 2 = x0 ∨ (x0 < 2 ∧ x1 ≤ 39) := by omega
  rcases hC' with rfl | ⟨g0, g1⟩
  all_goals
    go_enter Tryd.func48, Tryd.ntmps48
    go_wp2_with fail
    refine (specIs _ _ _ _).mono ?_
    rintro e w' ⟨rfl, rfl⟩
    rw [e0]
    go_wp2_with fail
    refine (specIs _ _ _ _).mono ?_
    rintro e w' ⟨rfl, rfl⟩
    rw [e1]
    go_wp2_with fail
    go_loopw [3] (fun i wr => ∃ k : Nat, 2 ≤ k ∧ k ≤ n ∧ i = .int .i64 (k : Int) ∧ (∀ j, 2 ≤ j → j < k → 0 ≤ zs.getD j 0 ∧ zs.getD j 0 ≤ 2147483647) ∧ wr = w')
      (fun i _ => n - (intOf i).toNat)
    case atStart => exact ⟨2, Nat.le_refl _, h2, rfl, fun j h3 h4 => by omega, rfl⟩
    case round =>
      obtain ⟨k, hk2, hk, rfl, hgood, rfl⟩ := hrel
      have HGd : Hid (∀ j, 2 ≤ j → j < k → 0 ≤ zs.getD j 0 ∧ zs.getD j 0 ≤ 2147483647) := hgood
      clear hgood
      by_cases hlt : k < n
      · have ck := HI.out k hlt
        obtain ⟨xk, hxk⟩ : ∃ x, x = zs.getD k 0 := ⟨_, rfl⟩
        rw [← hxk] at ck
        have HX : Hid (xk = zs.getD k 0) := hxk
        clear hxk
        by_cases hg : 0 ≤ xk ∧ xk ≤ 2147483647
        · have eg : (decide (0 ≤ xk) && decide (xk ≤ 2147483647)) = true := by simp; omega
          go_wp2_with fail
          refine (specIs _ _ _ _).mono ?_
          rintro e w' ⟨rfl, rfl⟩
          rw [eg]
          go_wp2_with fail
          go_roundw
          case rel =>
            refine ⟨k + 1, by omega, by omega, by go_num, fun j h3 h4 => ?_, trivial⟩
            by_cases ej : j = k
            · subst ej; rw [← HX.out]; exact hg
            · exact HGd.out j h3 (by omega)
          case measure => simp [intOf]; omega
        · have eg : (decide (0 ≤ xk) && decide (xk ≤ 2147483647)) = false := by simp; omega
          have HF : Hid (arcsB zs = false) := by
            show _ = _
            rw [← Bool.not_eq_true, HIF.out]
            intro h
            exact hg (by rw [HX.out]; exact h k hk2 hlt)
          go_wp2_with fail
          refine (specIs _ _ _ _).mono ?_
          rintro e w' ⟨rfl, rfl⟩
          rw [eg]
          go_wp2_with fail
          go_ret
          exact ⟨by rw [HF.out]; rfl, rfl⟩
      · have HF : Hid (arcsB zs = true) := HIF.out.2 (fun j h3 h4 => HGd.out j h3 (by omega))
        go_wp2_with fail
        go_ret
        exact ⟨by rw [HF.out]; rfl, rfl⟩
end Go.Proofs.YtjllcflnmopnpaaDoor
namespace Go.Proofs.YtjllcflnmopnpaaDoor
open Go.RowKit

theorem arcs_nat {zs : List Int} (h : arcsB zs = true) (i : Nat) (h2 : 2 ≤ i) (hi : i < zs.length) : ∃ x : Nat, zs.getD i 0 = (x : Int) ∧ x ≤ 2147483647 := by
  have := (arcsB_iff.1 h).2.2.2.2.2.2 i h2 hi
  exact ⟨(zs.getD i 0).toNat, by omega, by omega⟩
set_option maxHeartbeats 1000000 in
set_option maxRecDepth 100000 in
theorem specOid (a : Option Addr) (zs : List Int) (c : Nat) (w : World) (hr : arcsB zs = true) (ha : IsInts w a zs) :
    Calls Tryd.prog 49 #[.slice a zs.length c] w fun e w' => e = .returned (.string (thingD 6 (strOfNums (oidL zs)))) ∧ Below w.heap.size w w' := by
  obtain ⟨r2, r10, r0, r0', r1, r1', _⟩ := arcsB_iff.1 hr
  have hm2 : most2 (zs.getD 0 0) ≤ 100 := by unfold most2; split <;> omega
  have hlt := ha.lt
  obtain ⟨b, o, rfl, hc⟩ := ha.at (by intro h; rw [h] at r2; simp at r2)
  have hbw : b < w.heap.size := by
    rcases hlt with h | h
    · rw [h] at r2; simp at r2
    · exact h _ rfl
  have c0 := hc 0 (by omega)
  have c1 := hc 1 (by omega)
  rw [Nat.add_zero] at c0
  have HI : Hid (∀ W, Below w.heap.size w W → ∀ i, i < zs.length → W.cell? ⟨b, o + i, none⟩ = some (.int .i64 (zs.getD i 0))) := fun W hW i hi => by
    rw [hW.cell (p := ⟨b, o + i, none⟩) hbw]; exact hc i hi
  obtain ⟨y, hy⟩ : ∃ y : Nat, y = (40 * zs.getD 0 0 + zs.getD 1 0).toNat := ⟨_, rfl⟩
  have H0 : Hid (oidTo zs 0 = sevL y) := by rw [hy]; rfl
  have hyi : 40 * zs.getD 0 0 + zs.getD 1 0 = (y : Int) := by omega
  have hy2 : y ≤ 180 := by omega
  obtain ⟨n, hn⟩ : ∃ n, n = zs.length := ⟨_, rfl⟩
  have HL : Hid (oidL zs = oidTo zs (n - 2)) := by rw [hn]; rfl
  have HLen : Hid (∀ k, k + 2 ≤ n → (strOfNums (oidTo zs k)).size ≤ 45) := fun k hk => by
    rw [strOfNums_size]
    have := oidTo_len hr k (by omega)
    omega
  have HN : Hid (∀ i, 2 ≤ i → i < n → ∃ x : Nat, zs.getD i 0 = (x : Int) ∧ x ≤ 2147483647) := fun i h1 h2 => arcs_nat hr i h1 (by omega)
  rw [← hn] at HI r2 r10 ⊢
  generalize zs.getD 0 0 = x0 at *
  generalize zs.getD 1 0 = x1 at *
  clear hc ha hr hlt hn hy
  go_enter Tryd.func49, Tryd.ntmps49
  go_wp2_with fail
  have ew1 : IntKind.i64.wrap (40 * x0) = 40 * x0 := by rw [IntKind.wrap_i64]; omega
  have ew2 : IntKind.i64.wrap (y : Int) = (y : Int) := by rw [IntKind.wrap_i64]; omega
  have i0 : (0 : Int) < (n : Int) := by omega
  have i1 : (1 : Int) < (n : Int) := by omega
  have j0 : 0 < n := by omega
  have j1 : 1 < n := by omega
  have HT : Hid (∀ V : World, Hid (Below w.heap.size w V) → Calls Tryd.prog 68 #[.int .i64 (y : Int)] V fun e W => e = .returned (.string (strOfNums (sevL y))) ∧ Hid (Below w.heap.size w W) ∧ W.cell? ⟨b, o, none⟩ = some (.int .i64 x0) ∧ W.cell? ⟨b, o + 1, none⟩ = some (.int .i64 x1)) := fun V hV => by
    refine (specSeven y V (by omega)).mono ?_
    rintro e W ⟨rfl, hW⟩
    have hB := hV.out.trans (hW.mono hV.out.size)
    exact ⟨rfl, hB, by rw [hB.cell (p := ⟨b, o, none⟩) hbw]; exact c0, by rw [hB.cell (p := ⟨b, o + 1, none⟩) hbw]; exact c1⟩
  have HD : Hid (Below w.heap.size w w.drew) := (Below.refl _ w).drew
  go_region_held3 (fun V => V.cell? ⟨b, o, none⟩ = some (.int .i64 x0) ∧ V.cell? ⟨b, o + 1, none⟩ = some (.int .i64 x1)) (first | exact ⟨k0, k1⟩ | go_keep)
    (first | (go_at_call 68; refine (HT.out _ (by assumption)).mono ?_; rintro r w1 ⟨rfl, kk, k0, k1⟩))
  have hb1 := kk.out
  clear kk HD HT k0 k1 ew1 ew2 i0 i1 j0 j1 c0 c1
  go_wp2_with fail
  go_loopw [3, 4] (fun t i wr => ∃ k : Nat, k + 2 ≤ n ∧ t = .string (strOfNums (oidTo zs k)) ∧ i = .int .i64 ((k : Int) + 2) ∧ Below w.heap.size w wr ∧ w.heap.size ≤ wr.heap.size)
    (fun _ i _ => n - (intOf i).toNat)
  case atStart => exact ⟨0, by omega, by rw [H0.out], rfl, hb1, hb1.size⟩
  case round =>
    obtain ⟨k, hk, rfl, rfl, hbr, hsr⟩ := hrel
    have hls := HLen.out k hk
    by_cases hlt : k + 2 < n
    · have ck := HI.out wr hbr (k + 2) hlt
      obtain ⟨x, hx, hxm⟩ := HN.out (k + 2) (by omega) hlt
      rw [hx] at ck
      have HS : Hid (strOfNums (oidTo zs (k + 1)) = strOfNums (oidTo zs k) ++ strOfNums (sevL x)) := by
        show _ = _
        rw [oidTo, strOfNums_append, hx]; rfl
      have hls2 := HLen.out (k + 1) (by omega)
      have hsz : (strOfNums (oidTo zs k) ++ strOfNums (sevL x)).size ≤ 45 := by rw [← HS.out]; exact hls2
      have HSv : Hid (∀ V : World, Calls Tryd.prog 68 #[.int .i64 (x : Int)] V fun e w' => e = .returned (.string (strOfNums (sevL x))) ∧ Below V.heap.size V w') := fun V => specSeven x V (by omega)
      have hsx : (strOfNums (sevL x)).size ≤ 45 := by rw [ByteArray.size_append] at hsz; omega
      generalize strOfNums (oidTo zs k) = t at *
      generalize strOfNums (sevL x) = u at *
      go_wp2_with fail
      refine (HSv.out _).mono ?_
      rintro e w2 ⟨rfl, hb2⟩
      have HB2 : Hid (Below w.heap.size w w2) := hbr.trans (hb2.mono hsr)
      clear hb2 hbr ck
      go_wp2_with fail
      go_roundw
      case rel => exact ⟨k + 1, by omega, by rw [HS.out], by go_num, HB2.out, HB2.out.size⟩
      case measure => simp [intOf]; omega
    · obtain rfl : n = k + 2 := by omega
      have HL2 : Hid (∀ V : World, Calls Tryd.prog 34 #[.int .i64 6, .string (strOfNums (oidTo zs k))] V fun e w' => e = .returned (.string (thingD 6 (strOfNums (oidL zs)))) ∧ Below V.heap.size V w') := fun V => by
        have h := specThing 6 (strOfNums (oidTo zs k)) V (by decide) (by decide) (by omega)
        rw [HL.out, show k + 2 - 2 = k from by omega]
        exact h
      generalize strOfNums (oidTo zs k) = t at *
      go_wp2_with fail
      refine (HL2.out _).mono ?_
      rintro e w2 ⟨rfl, hb2⟩
      go_wp2_with fail
      go_ret
      exact ⟨rfl, hbr.trans (hb2.mono hsr)⟩
set_option maxHeartbeats 1000000 in
theorem specDerOid (a : Option Addr) (zs : List Int) (c : Nat) (w : World) (hl : zs.length ≤ 1048576) (ha : IsInts w a zs) :
    Calls Tryd.prog 20 #[.slice a zs.length c] w fun e w' => e = .returned (.string (oidD zs)) ∧ Below w.heap.size w w' := by
  cases hr : arcsB zs with
  | false =>
    have HF : Hid (oidD zs = ByteArray.empty) := by unfold Hid oidD; rw [if_neg (by simp [hr])]
    have HA : Hid (∀ V : World, V = w → Calls Tryd.prog 48 #[.slice a zs.length c] V fun e w' => e = .returned (.bool false) ∧ w' = V) := fun V hV => by
      subst hV
      have := specArcs a zs c V hl ha
      rw [hr] at this
      exact this
    generalize zs.length = n at *
    clear ha hr
    by_cases h4 : 400 < n
    · go_enter Tryd.func20, Tryd.ntmps20
      go_wp2_with fail
      go_ret
      exact ⟨by rw [HF.out]; rfl, Below.refl _ _⟩
    · go_enter Tryd.func20, Tryd.ntmps20
      go_wp2_with fail
      refine (HA.out _ rfl).mono ?_
      rintro e w1 ⟨rfl, rfl⟩
      go_wp2_with fail
      go_ret
      exact ⟨by rw [HF.out]; rfl, Below.refl _ _⟩
  | true =>
    have h10 := (arcsB_iff.1 hr).2.1
    have HF : Hid (oidD zs = thingD 6 (strOfNums (oidL zs))) := by unfold Hid oidD; rw [if_pos hr]
    have HA : Hid (∀ V : World, V = w → Calls Tryd.prog 48 #[.slice a zs.length c] V fun e w' => e = .returned (.bool true) ∧ w' = V) := fun V hV => by
      subst hV
      have := specArcs a zs c V hl ha
      rw [hr] at this
      exact this
    have HO : Hid (Calls Tryd.prog 49 #[.slice a zs.length c] w fun e w' => e = .returned (.string (thingD 6 (strOfNums (oidL zs)))) ∧ Below w.heap.size w w') := specOid a zs c w hr ha
    generalize zs.length = n at *
    generalize thingD 6 (strOfNums (oidL zs)) = s at *
    clear ha hr
    go_enter Tryd.func20, Tryd.ntmps20
    go_wp2_with fail
    refine (HA.out _ rfl).mono ?_
    rintro e w1 ⟨rfl, rfl⟩
    go_wp2_with fail
    refine HO.out.mono ?_
    rintro e w2 ⟨rfl, hb2⟩
    go_wp2_with fail
    go_ret
    exact ⟨by rw [HF.out]; rfl, hb2⟩
end Go.Proofs.YtjllcflnmopnpaaDoor
