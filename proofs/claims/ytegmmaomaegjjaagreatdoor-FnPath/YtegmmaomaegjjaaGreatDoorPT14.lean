/- '.l07Crl', walked: a list of what is taken back, as the draws make it. -/
import Derived.Test.YtegmmaomaegjjaaGreatDoorPT12
import Derived.Test.YtegmmaomaegjjaaGreatDoorPT13
import Derived.Deep.Cut
import Derived.Deep.CutRange
import Derived.Deep.RegionHeld3
import Derived.Deep.RegionLaw
import Derived.Deep.MidRow
import Derived.RegionTactic
namespace Go.Proofs.YtegmmaomaegjjaaGreatDoor
open Go.RowKit

set_option linter.unusedVariables false in
set_option maxRecDepth 100000 in
set_option maxHeartbeats 16000000 in
theorem sk_crl {w W : World} {a : Option Addr} {len cap : Nat} (h : SS w a len cap W) :
    Calls Tryz.prog 17 #[.pointer (some ⟨w.heap.size, 0, none⟩)] W fun e w' => ∃ (c : Lst) (v : Value), e = .returned (c.val v) ∧ OwnL w' W.heap.size v c.serials ∧ LMay c ∧ SS w a len cap w' ∧ Grows w.heap.size W w' := by
  obtain ⟨i0, hi0, hz0, hz1, hz2⟩ := info_parts infoLong
  have hlt := h.2.2.1
  obtain ⟨w1, hw1⟩ : ∃ y, y = W.alloc (.cells [Value.string ⟨#[]⟩, .int .i64 0, .int .i64 0, .slice none 0 0, .int .i64 0, .int .i64 0, .int .i64 0].toArray 30 (0, 0)) := ⟨_, rfl⟩
  have b1 : Below W.heap.size W w1 := by rw [hw1]; exact (Below.refl _ _).alloc (Nat.le_refl _) _
  have S1 : Hid (SS w a len cap w1) := h.keep b1
  have G1 : Hid (Grows w.heap.size W w1) := below_grows b1
  have Z1 : Hid (w1.heap[W.heap.size]? = some (.cells [Value.string ⟨#[]⟩, .int .i64 0, .int .i64 0, .slice none 0 0, .int .i64 0, .int .i64 0, .int .i64 0].toArray 30 (0, 0))) := by rw [hw1]; exact heap_alloc_new W _
  have HZ1 : Hid (w1.heap.size = W.heap.size + 1) := by rw [hw1]; show _ = _; simp
  have hlt1 : w.heap.size < w1.heap.size := S1.out.2.2.1
  clear h b1
  go_enter Tryz.func17, Tryz.ntmps17
  go_upto_region 1 with fail
  rw [← hw1]
  clear hw1
  go_wp2_with fail
  refine (sk_pick 3 _ 10 _ [⟨#[114, 111, 111, 116]⟩, ⟨#[114, 111, 111, 116]⟩, ⟨#[111, 116, 104, 101, 114]⟩] S1.out rfl (by omega) (by omega) (by decide)).mono ?_
  rintro e wa ⟨⟨xiss, hiss, rfl⟩, ha, hga⟩
  have SA : Hid (SS w a len cap wa) := ha
  have GA : Hid (Grows w.heap.size w1 wa) := hga
  clear ha hga
  go_wp2_with fail
  refine (sk_n 50 (by omega) SA.out).mono ?_
  rintro e w2 ⟨fr0, rfl, hfr, h2, hg2⟩
  have S2 : Hid (SS w a len cap w2) := h2
  have G2 : Hid (Grows w.heap.size w1 w2) := GA.out.trans hg2
  have hq1 : w1.heap.size ≤ w2.heap.size := G2.out.size
  obtain ⟨xfr, hxfr, hfre⟩ : ∃ n : Int, (0 ≤ n ∧ n ≤ 50) ∧ (fr0 : Int) = n := ⟨_, by omega, rfl⟩
  clear h2 hg2 hfr SA GA
  rw [hfre]
  clear hfre
  obtain ⟨w3, hw3⟩ : ∃ y, y = w2.alloc (.cells [Value.string xiss, .int .i64 xfr, .int .i64 0, .slice none 0 0, .int .i64 0, .int .i64 0, .int .i64 0].toArray 30 (0, 0)) := ⟨_, rfl⟩
  have b3 : Below w2.heap.size w2 w3 := by rw [hw3]; exact (Below.refl _ _).alloc (Nat.le_refl _) _
  have r3 : w3.heap[w2.heap.size]? = some (.cells [Value.string xiss, .int .i64 xfr, .int .i64 0, .slice none 0 0, .int .i64 0, .int .i64 0, .int .i64 0].toArray 30 (0, 0)) := by rw [hw3]; exact heap_alloc_new w2 _
  have V3 : Hid (CL w a len cap w1 w2.heap.size w3 ⟨xiss, xfr, 0, [], 0, 0, 0⟩ (.slice none 0 0)) := ⟨r3, ownL_nil _ _, by simp [Value.ownBlock], ⟨hiss, by simp, by show inW xfr; unfold inW; omega, zero_inW, zero_inW, zero_inW, zero_inW⟩, S2.out.keep b3, G2.out.trans (below_grows b3)⟩
  clear b3 S2 G2 r3
  go_upto_region 2 with fail
  rw [← hw3]
  clear hw3
  have VD : Hid (CL w a len cap w1 w2.heap.size w3.drew ⟨xiss, xfr, 0, [], 0, 0, 0⟩ (.slice none 0 0)) := V3.out.below (by omega) hlt1 ((Below.refl _ _).drew)
  have HR : Hid (∀ V : World, V.heap[w2.heap.size]? = some (.cells ([Value.string xiss, .int .i64 xfr, .int .i64 0, .slice none 0 0, .int .i64 0, .int .i64 0, .int .i64 0] : List Value).toArray 30 (0, 0)) → V.cell? ⟨w2.heap.size, 1, none⟩ = some (.int .i64 xfr)) := fun V hV => rowFacts hV 1 _ rfl
  refine wp_region_held_drew (S := fun V => V.cell? ⟨w2.heap.size, 1, none⟩ = some (.int .i64 xfr)) (by kernel_rfl) ?_ (fun hHeld => ?_)
  · exact HR.out _ VD.out.row
  refine wpAnyH_take (i := 0) (oi := ⟨some 14, _, _, _, _, _⟩) (v := ?_) rfl (by kernel_rfl) (by kernel_rfl) (by kernel_rfl) (fun _ _ _ h => h) (Or.inl ⟨by kernel_rfl, ?_⟩) (by assumption) ?_
  rotate_left
  · (intro w hSw; (try dsimp only at hSw); go_simp; try with_reducible rfl)
  (try simp only [Act.put, List.setIfInBounds_toArray, List.set_cons_zero, List.set_cons_succ])
  refine wpAnyH_take (i := 1) (oi := ⟨some 15, _, _, _, _, _⟩) (v := ?_) rfl (by kernel_rfl) (by kernel_rfl) (by kernel_rfl) (fun _ _ _ h => h) (Or.inl ⟨by kernel_rfl, ?_⟩) (by assumption) ?_
  rotate_left
  · (intro w hSw; (try dsimp only at hSw); go_simp; try with_reducible rfl)
  (try simp only [Act.put, List.setIfInBounds_toArray, List.set_cons_zero, List.set_cons_succ])
  refine wpAnyH_take (i := 2) (oi := ⟨some 16, _, _, _, _, _⟩) (v := ?_) rfl (by kernel_rfl) (by kernel_rfl) (by kernel_rfl) (fun _ _ _ h => h) (Or.inl ⟨by kernel_rfl, ?_⟩) (by assumption) ?_
  rotate_left
  · (intro w hSw; (try dsimp only at hSw); go_simp; try with_reducible rfl)
  (try simp only [Act.put, List.setIfInBounds_toArray, List.set_cons_zero, List.set_cons_succ])
  refine wpAnyH_ready (rs := [3]) (by kernel_rfl) (by simp) ?_
  refine AllReadyH.cons (o := ⟨some 17, _, _, _, _, _⟩) rfl (fun K hK => ?_) AllReadyH.nil
  go_simp
  refine (sk_n 100 (by omega) VD.out.ss).mono ?_
  rintro e w4 ⟨r4, rfl, hr4, h4, hg4⟩
  have V4 : Hid (CL w a len cap w1 w2.heap.size w4 ⟨xiss, xfr, 0, [], 0, 0, 0⟩ (.slice none 0 0)) := VD.out.keep (by omega) hlt1 h4 hg4
  have r4' : w4.heap[w2.heap.size]? = some (.cells [Value.string xiss, .int .i64 xfr, .int .i64 0, .slice none 0 0, .int .i64 0, .int .i64 0, .int .i64 0].toArray 30 (0, 0)) := V4.out.row
  refine hK.out _ _ ?_ (fun hHeld => ?_)
  · exact HR.out _ r4'
  clear hK K h4 hg4 V3 VD
  obtain ⟨xtill, htill, htillw⟩ : ∃ n : Int, inW n ∧ IntKind.i64.wrap (xfr + (r4 : Int)) = n := ⟨_, by unfold inW; rw [IntKind.wrap_i64]; omega, rfl⟩
  have c2 := rowFacts r4' 2 _ rfl
  have f2 := rowFree r4' 2
  clear r4' hr4
  refine wpAnyH_take (i := 4) (oi := ⟨some 18, _, _, _, _, _⟩) (v := ?_) rfl (by kernel_rfl) (by kernel_rfl) (by kernel_rfl) (fun _ _ _ h => h) (Or.inl ⟨by kernel_rfl, ?_⟩) (by assumption) ?_
  rotate_left
  · (intro w hSw; (try dsimp only at hSw); go_simp; try with_reducible rfl)
  (try simp only [Act.put, List.setIfInBounds_toArray, List.set_cons_zero, List.set_cons_succ])
  refine wpAnyH_take (i := 5) (oi := ⟨some 19, _, _, _, _, _⟩) (v := ?_) rfl (by kernel_rfl) (by kernel_rfl) (by kernel_rfl) (fun _ _ _ h => h) (Or.inl ⟨by kernel_rfl, ?_⟩) (by assumption) ?_
  rotate_left
  · (intro w hSw; (try dsimp only at hSw); go_simp; try with_reducible rfl)
  (try simp only [Act.put, List.setIfInBounds_toArray, List.set_cons_zero, List.set_cons_succ])
  refine wpAnyH_ready (rs := [6]) (by kernel_rfl) (by simp) ?_
  refine AllReadyH.cons (o := ⟨none, _, _, _, _, _⟩) rfl (fun K hK => ?_) AllReadyH.nil
  go_simp
  have V5 : Hid (CL w a len cap w1 w2.heap.size (w4.setCell ⟨w2.heap.size, 2, none⟩ (.int .i64 xtill)) ⟨xiss, xfr, xtill, [], 0, 0, 0⟩ (.slice none 0 0)) := V4.out.set (by omega) hq1 2 (.int .i64 xtill) ⟨xiss, xfr, xtill, [], 0, 0, 0⟩ rfl rfl ⟨hiss, by simp, by show inW xfr; unfold inW; omega, htill, zero_inW, zero_inW, zero_inW⟩
  refine hK.out _ _ ?_ (fun _ => ?_)
  · exact rowFacts (cs := [Value.string xiss, .int .i64 xfr, .int .i64 xtill, .slice none 0 0, .int .i64 0, .int .i64 0, .int .i64 0]) V5.out.row 1 _ rfl
  clear hK K V4
  refine wpAnyH_done (by kernel_rfl) ?_ _
  obtain ⟨w5, hw5⟩ : ∃ y, y = w4.setCell ⟨w2.heap.size, 2, none⟩ (.int .i64 xtill) := ⟨_, rfl⟩
  rw [← hw5] at V5 ⊢
  clear hw5 c2 f2 htillw HR
  go_wp2_with fail
  refine (sk_n 4 (by omega) V5.out.ss).mono ?_
  rintro e w6 ⟨r6, rfl, hr6, h6, hg6⟩
  have V6 : Hid (CL w a len cap w1 w2.heap.size w6 ⟨xiss, xfr, xtill, [], 0, 0, 0⟩ (.slice none 0 0)) := V5.out.keep (by omega) hlt1 h6 hg6
  have hr6' : r6 ≤ 4 := by omega
  clear h6 hg6 V5 hr6
  go_wp2_with fail
  go_loopw [4] (fun q wr => ∃ (j : Nat) (c : Lst) (v : Value), q = .int .i64 (j : Int) ∧ j ≤ 4 ∧ c.serials.length + j ≤ 4 ∧ CL w a len cap w1 w2.heap.size wr c v)
    (fun q _ => (intOf q).toNat)
  case atStart => exact ⟨r6, _, _, rfl, hr6', by simpa using hr6', V6.out⟩
  case round =>
    clear V6 hr6' hiss htill
    obtain ⟨j, c, v, rfl, hj, hlj, hcl⟩ := hrel
    obtain ⟨va, vc, hvv, _⟩ := hcl.own.form
    subst hvv
    obtain ⟨xiss, xfr, xtill, xser, xsk, xse, xss⟩ := c
    obtain ⟨nl, hnl⟩ : ∃ n, n = xser.length := ⟨_, rfl⟩
    have HNl : Hid (nl = xser.length) := hnl
    have HQ : Hid (∀ V : World, V.heap[w2.heap.size]? = some (.cells ([Value.string xiss, .int .i64 xfr, .int .i64 xtill, .slice va nl vc, .int .i64 xsk, .int .i64 xse, .int .i64 xss] : List Value).toArray 30 (0, 0)) → (V.cell? ⟨w2.heap.size, 0, none⟩ = some (.string xiss) ∧ V.cell? ⟨w2.heap.size, 1, none⟩ = some (.int .i64 xfr) ∧ V.cell? ⟨w2.heap.size, 2, none⟩ = some (.int .i64 xtill) ∧ V.cell? ⟨w2.heap.size, 3, none⟩ = some (.slice va nl vc) ∧ V.cell? ⟨w2.heap.size, 4, none⟩ = some (.int .i64 xsk) ∧ V.cell? ⟨w2.heap.size, 5, none⟩ = some (.int .i64 xse) ∧ V.cell? ⟨w2.heap.size, 6, none⟩ = some (.int .i64 xss))) := fun V hP => ⟨rowFacts hP 0 _ rfl, rowFacts hP 1 _ rfl, rowFacts hP 2 _ rfl, rowFacts hP 3 _ rfl, rowFacts hP 4 _ rfl, rowFacts hP 5 _ rfl, rowFacts hP 6 _ rfl⟩
    have VR : Hid (CL w a len cap w1 w2.heap.size wr ⟨xiss, xfr, xtill, xser, xsk, xse, xss⟩ (.slice va nl vc)) := by rw [hnl]; exact hcl
    have hlj' : nl + j ≤ 4 := by rw [hnl]; exact hlj
    have HLe : Hid (nl ≤ 4) := by show _ ≤ _; omega
    clear hcl hlj hnl
    by_cases hj0 : 0 < j
    · obtain ⟨f0, f1, f2, f3, f4, f5, f6⟩ := HQ.out _ VR.out.row
      go_upto_if 30 with fail
      go_cut [6] from 29 to 46 (fun s6 wx => wx = wr ∧ ∃ z : Int, s6 = .int .i64 z)
      case first =>
        by_cases hn0 : 0 < nl
        · obtain ⟨bb, oo, hva, hcc⟩ : ∃ b o, va = some ⟨b, o, none⟩ ∧ ∀ i, i < xser.length → wr.cell? ⟨b, o + i, none⟩ = some (.int .i64 (xser.getD i 0)) := (OwnL.ints VR.out.own).at (by intro e; have e9 : xser = [] := e; have h := HNl.out; rw [e9] at h; simp at h; omega)
          subst hva
          have hcz := hcc (nl - 1) (by have := HNl.out; omega)
          generalize xser.getD (nl - 1) 0 = z at hcz
          have e1 : IntKind.i64.wrap ((nl : Int) - 1) = ((nl - 1 : Nat) : Int) := by rw [IntKind.wrap_i64]; omega
          have e2 : (0 : Int) ≤ ((nl - 1 : Nat) : Int) := by omega
          have e3 : ((nl - 1 : Nat) : Int) < (nl : Int) := by omega
          have e4 : (0 : Int) < (nl : Int) := by omega
          clear hcc
          go_wp2_with fail
          go_meet
          case rel => exact ⟨rfl, _, rfl⟩
        · have e4 : ¬ (0 : Int) < (nl : Int) := by omega
          go_wp2_with fail
          go_meet
          case rel => exact ⟨rfl, _, rfl⟩
      case rest =>
        obtain ⟨hwc, z, hz6⟩ := hcut
        subst hwc hz6
        clear f0 f1 f2 f3 f4 f5 f6
        obtain ⟨z1, hz1w⟩ : ∃ y : Int, IntKind.i64.wrap (z + 1) = y := ⟨_, rfl⟩
        go_upto_region 10 with fail
        have V0 : Hid (CL w a len cap w1 w2.heap.size wc.drew ⟨xiss, xfr, xtill, xser, xsk, xse, xss⟩ (.slice va nl vc)) := VR.out.below (by omega) hlt1 ((Below.refl _ _).drew)
        refine wp_region_any (by kernel_rfl) ?_
        change wpAny _ _ _ _ _ _ _ wc.drew
        refine wpAny_take (i := 0) (oi := ⟨some 37, _, _, _, _, _⟩) (v := ?_) rfl (by kernel_rfl) (by kernel_rfl) (by kernel_rfl) (fun _ _ _ h => h) (Or.inl ⟨by kernel_rfl, ?_⟩) ?_
        rotate_left
        · (intro w; go_simp; try with_reducible rfl)
        (try simp only [Act.put, List.setIfInBounds_toArray, List.set_cons_zero, List.set_cons_succ])
        refine wpAny_take (i := 2) (oi := ⟨some 39, _, _, _, _, _⟩) (v := ?_) rfl (by kernel_rfl) (by kernel_rfl) (by kernel_rfl) (fun _ _ _ h => h) (Or.inl ⟨by kernel_rfl, ?_⟩) ?_
        rotate_left
        · (intro w; go_simp; try with_reducible rfl)
        (try simp only [Act.put, List.setIfInBounds_toArray, List.set_cons_zero, List.set_cons_succ])
        refine wpAny_take (i := 3) (oi := ⟨some 40, _, _, _, _, _⟩) (v := ?_) rfl (by kernel_rfl) (by kernel_rfl) (by kernel_rfl) (fun _ _ _ h => h) (Or.inl ⟨by kernel_rfl, ?_⟩) ?_
        rotate_left
        · (intro w; go_simp; try with_reducible rfl)
        (try simp only [Act.put, List.setIfInBounds_toArray, List.set_cons_zero, List.set_cons_succ])
        refine wpAny_take (i := 4) (oi := ⟨some 41, _, _, _, _, _⟩) (v := ?_) rfl (by kernel_rfl) (by kernel_rfl) (by kernel_rfl) (fun _ _ _ h => h) (Or.inl ⟨by kernel_rfl, ?_⟩) ?_
        rotate_left
        · (intro w; go_simp; try with_reducible rfl)
        (try simp only [Act.put, List.setIfInBounds_toArray, List.set_cons_zero, List.set_cons_succ])
        refine wpAny_ready (rs := [1, 5]) (by kernel_rfl) (by simp) ?_
        refine (AllReady.cons (o := ⟨some 38, _, _, _, _, _⟩) rfl (fun K hK => ?_) (AllReady.cons (o := ⟨some 42, _, _, _, _, _⟩) rfl (fun K hK => ?_) AllReady.nil))
        · skip
          have HK : Hid _ := hK
          clear hK
          obtain ⟨f0, f1, f2, f3, f4, f5, f6⟩ := HQ.out _ V0.out.row
          go_simp
          refine HK.out _ _ ?_
          clear HK K f0 f1 f2 f3 f4 f5 f6
          (try simp only [Act.put, List.setIfInBounds_toArray, List.set_cons_zero, List.set_cons_succ])
          refine wpAny_ready (rs := [5]) (by kernel_rfl) (by simp) ?_
          refine (AllReady.cons (o := ⟨some 42, _, _, _, _, _⟩) rfl (fun K hK => ?_) AllReady.nil)
          have HK : Hid _ := hK
          clear hK
          go_simp
          refine (sk_n 100 (by omega) V0.out.ss).mono ?_
          rintro e' W21 ⟨rr, rfl, hr21, h21, hg21⟩
          have V21 : Hid (CL w a len cap w1 w2.heap.size W21 ⟨xiss, xfr, xtill, xser, xsk, xse, xss⟩ (.slice va nl vc)) := V0.out.keep (by omega) hlt1 h21 hg21
          obtain ⟨zz, hzz⟩ : ∃ y : Int, IntKind.i64.wrap (z1 + (rr : Int)) = y := ⟨_, rfl⟩
          refine HK.out _ _ ?_
          clear HK K h21 hg21 hr21
          (try simp only [Act.put, List.setIfInBounds_toArray, List.set_cons_zero, List.set_cons_succ])
          refine wpAny_take (i := 6) (oi := ⟨some 43, _, _, _, _, _⟩) (v := ?_) rfl (by kernel_rfl) (by kernel_rfl) (by kernel_rfl) (fun _ _ _ h => h) (Or.inl ⟨by kernel_rfl, ?_⟩) ?_
          rotate_left
          · (intro w; go_simp; try with_reducible rfl)
          (try simp only [Act.put, List.setIfInBounds_toArray, List.set_cons_zero, List.set_cons_succ])
          refine wpAny_ready (rs := [7]) (by kernel_rfl) (by simp) ?_
          refine (AllReady.cons (o := ⟨some 44, _, _, _, _, _⟩) rfl (fun K hK => ?_) AllReady.nil)
          have HK : Hid _ := hK
          clear hK
          go_simp
          have bb22 : Below W21.heap.size W21 (W21.alloc (.cells #[.int .i64 zz] 2 (0, 0))) := (Below.refl _ _).alloc (Nat.le_refl _) _
          have V22 : Hid (CL w a len cap w1 w2.heap.size (W21.alloc (.cells #[.int .i64 zz] 2 (0, 0))) ⟨xiss, xfr, xtill, xser, xsk, xse, xss⟩ (.slice va nl vc)) := V21.out.below (by omega) hlt1 bb22
          have rw22 : (W21.alloc (.cells #[.int .i64 zz] 2 (0, 0))).heap[W21.heap.size]? = some (.cells #[.int .i64 zz] 2 (0, 0)) := heap_alloc_new W21 _
          have gz22 := V21.out.grows.size
          refine HK.out _ _ ?_
          clear HK K bb22
          (try simp only [Act.put, List.setIfInBounds_toArray, List.set_cons_zero, List.set_cons_succ])
          refine wpAny_ready (rs := [8]) (by kernel_rfl) (by simp) ?_
          refine (AllReady.cons (o := ⟨some 45, _, _, _, _, _⟩) rfl (fun K hK => ?_) AllReady.nil)
          have HK : Hid _ := hK
          clear hK
          have hown : (W21.alloc (.cells #[.int .i64 zz] 2 (0, 0))).ownsRow w1.heap.size 2 1 (.slice va nl vc) nl (lCells xser) := by
            have h := V22.out.own
            unfold OwnL at h
            rw [← HNl.out] at h
            exact h
          refine step_append_any (by rfl) _ _ _ (by rfl) w1.heap.size 2 i0 (.int .i64 0) 1 8 Tryz.underlying28 hi0 hz0 hz1 hz2 rfl (by decide) (.slice va nl vc) nl (lCells xser) rfl hown ⟨W21.heap.size, 0, none⟩ 1 1 [.int .i64 zz] rfl rfl (news_one rw22) (by simp [Value.oneCell']) (by unfold maxLen; have := HLe.out; omega) (by have := HLe.out; omega) (by have := V22.out.grows.size; simp; omega) ?_
          intro v' w9 hown' hgrow hnil
          have ho9 : OwnL w9 w1.heap.size v' (xser ++ [zz]) := by
            show World.ownsRow _ _ _ _ _ _ _
            rw [List.length_append, lCells, List.map_append, show xser.length = nl from HNl.out.symm]
            exact hown'
          obtain ⟨row9, hcl9⟩ := V22.out.app (by omega) hlt1 hq1 ho9 hgrow (by have := HLe.out; have := HNl.out; show xser.length < 60; omega)
          obtain ⟨vx, vy, hvx, _⟩ := ho9.form
          subst hvx
          have d3 := rowFacts row9 3 _ rfl
          have g3 := rowFree row9 3
          have HAp : Hid (CL w a len cap w1 w2.heap.size (w9.setCell ⟨w2.heap.size, 3, none⟩ (.slice vx (xser ++ [zz]).length vy)) ⟨xiss, xfr, xtill, xser ++ [zz], xsk, xse, xss⟩ (.slice vx (xser ++ [zz]).length vy)) := hcl9
          have HAl : Hid ((xser ++ [zz]).length = nl + 1) := by show _ = _; have := HNl.out; simp; omega
          generalize xser ++ [zz] = yser at *
          obtain ⟨yl, hyl⟩ : ∃ y, y = yser.length := ⟨_, rfl⟩
          rw [← hyl] at HAp HAl ⊢
          have HYl : Hid (yl = yser.length) := hyl
          clear hown' hgrow hnil hown ho9 row9 hcl9 hyl
          refine HK.out _ _ ?_
          clear HK K
          (try simp only [Act.put, List.setIfInBounds_toArray, List.set_cons_zero, List.set_cons_succ])
          refine wpAny_take (i := 9) (oi := ⟨some 46, _, _, _, _, _⟩) (v := ?_) rfl (by kernel_rfl) (by kernel_rfl) (by kernel_rfl) (fun _ _ _ h => h) (Or.inl ⟨by kernel_rfl, ?_⟩) ?_
          rotate_left
          · (intro w; go_simp; try with_reducible rfl)
          (try simp only [Act.put, List.setIfInBounds_toArray, List.set_cons_zero, List.set_cons_succ])
          refine wpAny_ready (rs := [10]) (by kernel_rfl) (by simp) ?_
          refine (AllReady.cons (o := ⟨none, _, _, _, _, _⟩) rfl (fun K hK => ?_) AllReady.nil)
          have HK : Hid _ := hK
          clear hK
          go_simp
          refine HK.out _ _ ?_
          refine wpAny_done (by kernel_rfl) ?_ _
          go_wp2_with fail
          go_roundw
          case rel => exact ⟨j - 1, _, _, by simp; omega, by omega, by show yser.length + (j - 1) ≤ 4; have := HAl.out; have := HYl.out; omega, HAp.out⟩
          case measure => simp [intOf]; omega
        · skip
          have HK : Hid _ := hK
          clear hK
          go_simp
          refine (sk_n 100 (by omega) V0.out.ss).mono ?_
          rintro e' W21 ⟨rr, rfl, hr21, h21, hg21⟩
          have V21 : Hid (CL w a len cap w1 w2.heap.size W21 ⟨xiss, xfr, xtill, xser, xsk, xse, xss⟩ (.slice va nl vc)) := V0.out.keep (by omega) hlt1 h21 hg21
          obtain ⟨zz, hzz⟩ : ∃ y : Int, IntKind.i64.wrap (z1 + (rr : Int)) = y := ⟨_, rfl⟩
          refine HK.out _ _ ?_
          clear HK K h21 hg21 hr21
          (try simp only [Act.put, List.setIfInBounds_toArray, List.set_cons_zero, List.set_cons_succ])
          refine wpAny_take (i := 6) (oi := ⟨some 43, _, _, _, _, _⟩) (v := ?_) rfl (by kernel_rfl) (by kernel_rfl) (by kernel_rfl) (fun _ _ _ h => h) (Or.inl ⟨by kernel_rfl, ?_⟩) ?_
          rotate_left
          · (intro w; go_simp; try with_reducible rfl)
          (try simp only [Act.put, List.setIfInBounds_toArray, List.set_cons_zero, List.set_cons_succ])
          refine wpAny_ready (rs := [1, 7]) (by kernel_rfl) (by simp) ?_
          refine (AllReady.cons (o := ⟨some 38, _, _, _, _, _⟩) rfl (fun K hK => ?_) (AllReady.cons (o := ⟨some 44, _, _, _, _, _⟩) rfl (fun K hK => ?_) AllReady.nil))
          · skip
            have HK : Hid _ := hK
            clear hK
            obtain ⟨f0, f1, f2, f3, f4, f5, f6⟩ := HQ.out _ V21.out.row
            go_simp
            refine HK.out _ _ ?_
            clear HK K f0 f1 f2 f3 f4 f5 f6
            (try simp only [Act.put, List.setIfInBounds_toArray, List.set_cons_zero, List.set_cons_succ])
            refine wpAny_ready (rs := [7]) (by kernel_rfl) (by simp) ?_
            refine (AllReady.cons (o := ⟨some 44, _, _, _, _, _⟩) rfl (fun K hK => ?_) AllReady.nil)
            have HK : Hid _ := hK
            clear hK
            go_simp
            have bb22 : Below W21.heap.size W21 (W21.alloc (.cells #[.int .i64 zz] 2 (0, 0))) := (Below.refl _ _).alloc (Nat.le_refl _) _
            have V22 : Hid (CL w a len cap w1 w2.heap.size (W21.alloc (.cells #[.int .i64 zz] 2 (0, 0))) ⟨xiss, xfr, xtill, xser, xsk, xse, xss⟩ (.slice va nl vc)) := V21.out.below (by omega) hlt1 bb22
            have rw22 : (W21.alloc (.cells #[.int .i64 zz] 2 (0, 0))).heap[W21.heap.size]? = some (.cells #[.int .i64 zz] 2 (0, 0)) := heap_alloc_new W21 _
            have gz22 := V21.out.grows.size
            refine HK.out _ _ ?_
            clear HK K bb22
            (try simp only [Act.put, List.setIfInBounds_toArray, List.set_cons_zero, List.set_cons_succ])
            refine wpAny_ready (rs := [8]) (by kernel_rfl) (by simp) ?_
            refine (AllReady.cons (o := ⟨some 45, _, _, _, _, _⟩) rfl (fun K hK => ?_) AllReady.nil)
            have HK : Hid _ := hK
            clear hK
            have hown : (W21.alloc (.cells #[.int .i64 zz] 2 (0, 0))).ownsRow w1.heap.size 2 1 (.slice va nl vc) nl (lCells xser) := by
              have h := V22.out.own
              unfold OwnL at h
              rw [← HNl.out] at h
              exact h
            refine step_append_any (by rfl) _ _ _ (by rfl) w1.heap.size 2 i0 (.int .i64 0) 1 8 Tryz.underlying28 hi0 hz0 hz1 hz2 rfl (by decide) (.slice va nl vc) nl (lCells xser) rfl hown ⟨W21.heap.size, 0, none⟩ 1 1 [.int .i64 zz] rfl rfl (news_one rw22) (by simp [Value.oneCell']) (by unfold maxLen; have := HLe.out; omega) (by have := HLe.out; omega) (by have := V22.out.grows.size; simp; omega) ?_
            intro v' w9 hown' hgrow hnil
            have ho9 : OwnL w9 w1.heap.size v' (xser ++ [zz]) := by
              show World.ownsRow _ _ _ _ _ _ _
              rw [List.length_append, lCells, List.map_append, show xser.length = nl from HNl.out.symm]
              exact hown'
            obtain ⟨row9, hcl9⟩ := V22.out.app (by omega) hlt1 hq1 ho9 hgrow (by have := HLe.out; have := HNl.out; show xser.length < 60; omega)
            obtain ⟨vx, vy, hvx, _⟩ := ho9.form
            subst hvx
            have d3 := rowFacts row9 3 _ rfl
            have g3 := rowFree row9 3
            have HAp : Hid (CL w a len cap w1 w2.heap.size (w9.setCell ⟨w2.heap.size, 3, none⟩ (.slice vx (xser ++ [zz]).length vy)) ⟨xiss, xfr, xtill, xser ++ [zz], xsk, xse, xss⟩ (.slice vx (xser ++ [zz]).length vy)) := hcl9
            have HAl : Hid ((xser ++ [zz]).length = nl + 1) := by show _ = _; have := HNl.out; simp; omega
            generalize xser ++ [zz] = yser at *
            obtain ⟨yl, hyl⟩ : ∃ y, y = yser.length := ⟨_, rfl⟩
            rw [← hyl] at HAp HAl ⊢
            have HYl : Hid (yl = yser.length) := hyl
            clear hown' hgrow hnil hown ho9 row9 hcl9 hyl
            refine HK.out _ _ ?_
            clear HK K
            (try simp only [Act.put, List.setIfInBounds_toArray, List.set_cons_zero, List.set_cons_succ])
            refine wpAny_take (i := 9) (oi := ⟨some 46, _, _, _, _, _⟩) (v := ?_) rfl (by kernel_rfl) (by kernel_rfl) (by kernel_rfl) (fun _ _ _ h => h) (Or.inl ⟨by kernel_rfl, ?_⟩) ?_
            rotate_left
            · (intro w; go_simp; try with_reducible rfl)
            (try simp only [Act.put, List.setIfInBounds_toArray, List.set_cons_zero, List.set_cons_succ])
            refine wpAny_ready (rs := [10]) (by kernel_rfl) (by simp) ?_
            refine (AllReady.cons (o := ⟨none, _, _, _, _, _⟩) rfl (fun K hK => ?_) AllReady.nil)
            have HK : Hid _ := hK
            clear hK
            go_simp
            refine HK.out _ _ ?_
            refine wpAny_done (by kernel_rfl) ?_ _
            go_wp2_with fail
            go_roundw
            case rel => exact ⟨j - 1, _, _, by simp; omega, by omega, by show yser.length + (j - 1) ≤ 4; have := HAl.out; have := HYl.out; omega, HAp.out⟩
            case measure => simp [intOf]; omega
          · skip
            have HK : Hid _ := hK
            clear hK
            go_simp
            have bb22 : Below W21.heap.size W21 (W21.alloc (.cells #[.int .i64 zz] 2 (0, 0))) := (Below.refl _ _).alloc (Nat.le_refl _) _
            have V22 : Hid (CL w a len cap w1 w2.heap.size (W21.alloc (.cells #[.int .i64 zz] 2 (0, 0))) ⟨xiss, xfr, xtill, xser, xsk, xse, xss⟩ (.slice va nl vc)) := V21.out.below (by omega) hlt1 bb22
            have rw22 : (W21.alloc (.cells #[.int .i64 zz] 2 (0, 0))).heap[W21.heap.size]? = some (.cells #[.int .i64 zz] 2 (0, 0)) := heap_alloc_new W21 _
            have gz22 := V21.out.grows.size
            refine HK.out _ _ ?_
            clear HK K bb22
            (try simp only [Act.put, List.setIfInBounds_toArray, List.set_cons_zero, List.set_cons_succ])
            refine wpAny_ready (rs := [1]) (by kernel_rfl) (by simp) ?_
            refine (AllReady.cons (o := ⟨some 38, _, _, _, _, _⟩) rfl (fun K hK => ?_) AllReady.nil)
            have HK : Hid _ := hK
            clear hK
            obtain ⟨f0, f1, f2, f3, f4, f5, f6⟩ := HQ.out _ V22.out.row
            go_simp
            refine HK.out _ _ ?_
            clear HK K f0 f1 f2 f3 f4 f5 f6
            (try simp only [Act.put, List.setIfInBounds_toArray, List.set_cons_zero, List.set_cons_succ])
            refine wpAny_ready (rs := [8]) (by kernel_rfl) (by simp) ?_
            refine (AllReady.cons (o := ⟨some 45, _, _, _, _, _⟩) rfl (fun K hK => ?_) AllReady.nil)
            have HK : Hid _ := hK
            clear hK
            have hown : (W21.alloc (.cells #[.int .i64 zz] 2 (0, 0))).ownsRow w1.heap.size 2 1 (.slice va nl vc) nl (lCells xser) := by
              have h := V22.out.own
              unfold OwnL at h
              rw [← HNl.out] at h
              exact h
            refine step_append_any (by rfl) _ _ _ (by rfl) w1.heap.size 2 i0 (.int .i64 0) 1 8 Tryz.underlying28 hi0 hz0 hz1 hz2 rfl (by decide) (.slice va nl vc) nl (lCells xser) rfl hown ⟨W21.heap.size, 0, none⟩ 1 1 [.int .i64 zz] rfl rfl (news_one rw22) (by simp [Value.oneCell']) (by unfold maxLen; have := HLe.out; omega) (by have := HLe.out; omega) (by have := V22.out.grows.size; simp; omega) ?_
            intro v' w9 hown' hgrow hnil
            have ho9 : OwnL w9 w1.heap.size v' (xser ++ [zz]) := by
              show World.ownsRow _ _ _ _ _ _ _
              rw [List.length_append, lCells, List.map_append, show xser.length = nl from HNl.out.symm]
              exact hown'
            obtain ⟨row9, hcl9⟩ := V22.out.app (by omega) hlt1 hq1 ho9 hgrow (by have := HLe.out; have := HNl.out; show xser.length < 60; omega)
            obtain ⟨vx, vy, hvx, _⟩ := ho9.form
            subst hvx
            have d3 := rowFacts row9 3 _ rfl
            have g3 := rowFree row9 3
            have HAp : Hid (CL w a len cap w1 w2.heap.size (w9.setCell ⟨w2.heap.size, 3, none⟩ (.slice vx (xser ++ [zz]).length vy)) ⟨xiss, xfr, xtill, xser ++ [zz], xsk, xse, xss⟩ (.slice vx (xser ++ [zz]).length vy)) := hcl9
            have HAl : Hid ((xser ++ [zz]).length = nl + 1) := by show _ = _; have := HNl.out; simp; omega
            generalize xser ++ [zz] = yser at *
            obtain ⟨yl, hyl⟩ : ∃ y, y = yser.length := ⟨_, rfl⟩
            rw [← hyl] at HAp HAl ⊢
            have HYl : Hid (yl = yser.length) := hyl
            clear hown' hgrow hnil hown ho9 row9 hcl9 hyl
            refine HK.out _ _ ?_
            clear HK K
            (try simp only [Act.put, List.setIfInBounds_toArray, List.set_cons_zero, List.set_cons_succ])
            refine wpAny_take (i := 9) (oi := ⟨some 46, _, _, _, _, _⟩) (v := ?_) rfl (by kernel_rfl) (by kernel_rfl) (by kernel_rfl) (fun _ _ _ h => h) (Or.inl ⟨by kernel_rfl, ?_⟩) ?_
            rotate_left
            · (intro w; go_simp; try with_reducible rfl)
            (try simp only [Act.put, List.setIfInBounds_toArray, List.set_cons_zero, List.set_cons_succ])
            refine wpAny_ready (rs := [10]) (by kernel_rfl) (by simp) ?_
            refine (AllReady.cons (o := ⟨none, _, _, _, _, _⟩) rfl (fun K hK => ?_) AllReady.nil)
            have HK : Hid _ := hK
            clear hK
            go_simp
            refine HK.out _ _ ?_
            refine wpAny_done (by kernel_rfl) ?_ _
            go_wp2_with fail
            go_roundw
            case rel => exact ⟨j - 1, _, _, by simp; omega, by omega, by show yser.length + (j - 1) ≤ 4; have := HAl.out; have := HYl.out; omega, HAp.out⟩
            case measure => simp [intOf]; omega
    · have hj1 : j = 0 := by omega
      subst hj1
      clear hlj' hj hj0
      go_upto_region 11 with fail
      go_cut [] from 47 (fun wx => ∃ c v, CL w a len cap w1 w2.heap.size wx c v ∧ c.serials.length ≤ 4)
      case first =>
        have hm0 := VR.out.may
        have HRL : Hid (nl ≤ 4) := HLe.out
        have V0 : Hid (CL w a len cap w1 w2.heap.size wr.drew ⟨xiss, xfr, xtill, xser, xsk, xse, xss⟩ (.slice va nl vc)) := VR.out.below (by omega) hlt1 ((Below.refl _ _).drew)
        have HSg : Hid (∀ (y : Int) (V : World), CL w a len cap w1 w2.heap.size V ⟨xiss, xfr, xtill, xser, xsk, xse, xss⟩ (.slice va nl vc) → Calls Tryz.prog 22 #[.int .i64 y, .agg #[.string xiss, .int .i64 xfr, .int .i64 xtill, .slice va nl vc, .int .i64 xsk, .int .i64 xse, .int .i64 xss]] V fun r w' => ∃ (c : Lst) (v : Value), r = .returned (c.val v) ∧ OwnL w' V.heap.size v c.serials ∧ LMay c ∧ c.serials.length ≤ 4 ∧ Below V.heap.size V w') := fun y V hV => by
          obtain ⟨k, e, s, hsv, hk', he', hs'⟩ := signV_may y (listD ⟨xiss, xfr, xtill, xser, xsk, xse, xss⟩)
          have q := specSignLG y ⟨xiss, xfr, xtill, xser, xsk, xse, xss⟩ va vc k e s V (by have := hm0.iss; show xiss.size ≤ maxLen; unfold maxLen; simp only at this; omega) (by show xser.length ≤ _; have := HNl.out; have := HRL.out; omega) hV.own.rowL (fun _ _ => hsv)
          rw [show (⟨xiss, xfr, xtill, xser, xsk, xse, xss⟩ : Lst).serials.length = nl from HNl.out.symm] at q
          refine q.mono ?_
          rintro r w' ⟨v, rfl, ho, hb⟩
          exact ⟨_, v, rfl, ho, signL_may hm0 hk' he' hs', Nat.le_trans (signL_len _ _ _ _ _) (by show xser.length ≤ 4; have := HNl.out; have := HRL.out; omega), hb⟩
        clear hm0
        refine wp_region_any (by kernel_rfl) ?_
        change wpAny _ _ _ _ _ _ _ wr.drew
        refine wpAny_take (i := 1) (oi := ⟨some 48, _, _, _, _, _⟩) (v := ?_) rfl (by kernel_rfl) (by kernel_rfl) (by kernel_rfl) (fun _ _ _ h => h) (Or.inl ⟨by kernel_rfl, ?_⟩) ?_
        rotate_left
        · (intro w; go_simp; try with_reducible rfl)
        (try simp only [Act.put, List.setIfInBounds_toArray, List.set_cons_zero, List.set_cons_succ])
        refine wpAny_ready (rs := [0, 2, 5]) (by kernel_rfl) (by simp) ?_
        refine (AllReady.cons (o := ⟨some 47, _, _, _, _, _⟩) rfl (fun K hK => ?_) (AllReady.cons (o := ⟨some 49, _, _, _, _, _⟩) rfl (fun K hK => ?_) (AllReady.cons (o := ⟨some 52, _, _, _, _, _⟩) rfl (fun K hK => ?_) AllReady.nil)))
        · skip
          have HK : Hid _ := hK
          clear hK
          go_simp
          have bb21 : Below wr.heap.size wr (wr.alloc (.cells #[.int .i64 5, .int .i64 77] 2 (0, 0))).drew := ((Below.refl _ _).alloc (Nat.le_refl _) _).drew
          have V21 : Hid (CL w a len cap w1 w2.heap.size (wr.alloc (.cells #[.int .i64 5, .int .i64 77] 2 (0, 0))).drew ⟨xiss, xfr, xtill, xser, xsk, xse, xss⟩ (.slice va nl vc)) := VR.out.below (by omega) hlt1 bb21
          have rw21 : (wr.alloc (.cells #[.int .i64 5, .int .i64 77] 2 (0, 0))).drew.heap[wr.heap.size]? = some (.cells #[.int .i64 5, .int .i64 77] 2 (0, 0)) := heap_alloc_new wr _
          have gz21 := VR.out.grows.size
          refine HK.out _ _ ?_
          clear HK K bb21
          (try simp only [Act.put, List.setIfInBounds_toArray, List.set_cons_zero, List.set_cons_succ])
          refine wpAny_ready (rs := [2, 5]) (by kernel_rfl) (by simp) ?_
          refine (AllReady.cons (o := ⟨some 49, _, _, _, _, _⟩) rfl (fun K hK => ?_) (AllReady.cons (o := ⟨some 52, _, _, _, _, _⟩) rfl (fun K hK => ?_) AllReady.nil))
          · skip
            have HK : Hid _ := hK
            clear hK
            go_simp
            refine (sk_n 2 (by omega) V21.out.ss).mono ?_
            rintro e' W22 ⟨rr, rfl, hr22, h22, hg22⟩
            have V22 : Hid (CL w a len cap w1 w2.heap.size W22 ⟨xiss, xfr, xtill, xser, xsk, xse, xss⟩ (.slice va nl vc)) := V21.out.keep (by omega) hlt1 h22 hg22
            have rk22 := rw21
            rw [← hg22.keepBlock (heap_lt rw21) (by have := V0.out.grows.size; simp; omega)] at rk22
            have hrr : rr < 2 := by omega
            have hri : (rr : Int) < 2 := by omega
            refine HK.out _ _ ?_
            clear HK K h22 hg22 hr22
            (try simp only [Act.put, List.setIfInBounds_toArray, List.set_cons_zero, List.set_cons_succ])
            refine wpAny_take (i := 3) (oi := ⟨some 50, _, _, _, _, _⟩) (v := ?_) rfl (by kernel_rfl) (by kernel_rfl) (by kernel_rfl) (fun _ _ _ h => h) (Or.inl ⟨by kernel_rfl, ?_⟩) ?_
            rotate_left
            · (intro w; go_simp; try with_reducible rfl)
            (try simp only [Act.put, List.setIfInBounds_toArray, List.set_cons_zero, List.set_cons_succ])
            refine wpAny_ready (rs := [4, 5]) (by kernel_rfl) (by simp) ?_
            refine (AllReady.cons (o := ⟨some 51, _, _, _, _, _⟩) rfl (fun K hK => ?_) (AllReady.cons (o := ⟨some 52, _, _, _, _, _⟩) rfl (fun K hK => ?_) AllReady.nil))
            · skip
              have HK : Hid _ := hK
              clear hK
              have hcr := cell_of_row _ _ rr _ _ (0, 0) rk22
              obtain ⟨y, hyc⟩ : ∃ y : Int, W22.cell? ⟨wr.heap.size, rr, none⟩ = some (.int .i64 y) := by
                rw [hcr]
                have hq : rr = 0 ∨ rr = 1 := by omega
                rcases hq with rfl | rfl
                · exact ⟨5, rfl⟩
                · exact ⟨77, rfl⟩
              clear hcr
              go_simp
              refine HK.out _ _ ?_
              clear HK K hyc
              (try simp only [Act.put, List.setIfInBounds_toArray, List.set_cons_zero, List.set_cons_succ])
              refine wpAny_ready (rs := [5]) (by kernel_rfl) (by simp) ?_
              refine (AllReady.cons (o := ⟨some 52, _, _, _, _, _⟩) rfl (fun K hK => ?_) AllReady.nil)
              have HK : Hid _ := hK
              clear hK
              obtain ⟨f0, f1, f2, f3, f4, f5, f6⟩ := HQ.out _ V22.out.row
              go_simp
              refine HK.out _ _ ?_
              clear HK K f0 f1 f2 f3 f4 f5 f6
              (try simp only [Act.put, List.setIfInBounds_toArray, List.set_cons_zero, List.set_cons_succ])
              refine wpAny_ready (rs := [6]) (by kernel_rfl) (by simp) ?_
              refine (AllReady.cons (o := ⟨some 53, _, _, _, _, _⟩) rfl (fun K hK => ?_) AllReady.nil)
              have HK : Hid _ := hK
              clear hK
              go_simp
              refine (HSg.out y _ V22.out).mono ?_
              rintro e' w20 ⟨c, v, rfl, ho20, hm20, hl20, b20⟩
              have V20 : Hid (CL w a len cap w1 w2.heap.size w20 ⟨xiss, xfr, xtill, xser, xsk, xse, xss⟩ (.slice va nl vc)) := V22.out.below (by omega) hlt1 b20
              have gs20 := V22.out.grows.size
              have hq20 := heap_lt V22.out.row
              refine HK.out _ _ ?_
              clear HK K
              (try simp only [Act.put, List.setIfInBounds_toArray, List.set_cons_zero, List.set_cons_succ])
              refine wpAny_ready (rs := [7]) (by kernel_rfl) (by simp) ?_
              refine (AllReady.cons (o := ⟨none, _, _, _, _, _⟩) rfl (fun K hK => ?_) AllReady.nil)
              have HK : Hid _ := hK
              clear hK
              obtain ⟨va3, vc3, hv3, _⟩ := ho20.form
              subst hv3
              obtain ⟨ziss, zfr, ztill, zser, zsk, zse, zss⟩ := c
              obtain ⟨nz, hnz⟩ : ∃ n, n = zser.length := ⟨_, rfl⟩
              simp only at ho20 hl20
              rw [← hnz] at ho20 ⊢
              clear hnz
              have r20 : w20.heap[w2.heap.size]? = some (.cells [Value.string xiss, .int .i64 xfr, .int .i64 xtill, .slice va nl vc, .int .i64 xsk, .int .i64 xse, .int .i64 xss].toArray 30 (0, 0)) := V20.out.row
              have h1c : ∀ u ∈ [Value.string ziss, .int .i64 zfr, .int .i64 ztill, .slice va3 nz vc3, .int .i64 zsk, .int .i64 zse, .int .i64 zss], u.oneCell' = true := by simp [Value.oneCell']
              rw [if_pos (by rfl)]
              refine wp_store_row 30 _ _ rfl w2.heap.size [Value.string xiss, .int .i64 xfr, .int .i64 xtill, .slice va nl vc, .int .i64 xsk, .int .i64 xse, .int .i64 xss] [Value.string ziss, .int .i64 zfr, .int .i64 ztill, .slice va3 nz vc3, .int .i64 zsk, .int .i64 zse, .int .i64 zss] 30 rfl rfl r20 rfl sizeCrl h1c ?_
              intro w21 hrow ho hs hbb
              have hg21 := grown_row ho hbb
              have HFin : Hid (CL w a len cap w1 w2.heap.size w21 ⟨ziss, zfr, ztill, zser, zsk, zse, zss⟩ (.slice va3 nz vc3)) := ⟨hrow, (ho20.mono gs20).rowOff hg21 (fun e => by have := (ho20.ge e).1; omega), fun e => by have := (ho20.ge e).1; omega, hm20, V20.out.ss.row hg21 (by omega), V20.out.grows.row hg21 hq1⟩
              refine HK.out _ _ ?_
              clear HK K hrow ho hs hbb hg21
              refine wpAny_done (by kernel_rfl) ?_ _
              go_wp2_with fail
              go_meet
              case rel => exact ⟨_, _, HFin.out, hl20⟩
            · skip
              have HK : Hid _ := hK
              clear hK
              obtain ⟨f0, f1, f2, f3, f4, f5, f6⟩ := HQ.out _ V22.out.row
              go_simp
              refine HK.out _ _ ?_
              clear HK K f0 f1 f2 f3 f4 f5 f6
              (try simp only [Act.put, List.setIfInBounds_toArray, List.set_cons_zero, List.set_cons_succ])
              refine wpAny_ready (rs := [4]) (by kernel_rfl) (by simp) ?_
              refine (AllReady.cons (o := ⟨some 51, _, _, _, _, _⟩) rfl (fun K hK => ?_) AllReady.nil)
              have HK : Hid _ := hK
              clear hK
              have hcr := cell_of_row _ _ rr _ _ (0, 0) rk22
              obtain ⟨y, hyc⟩ : ∃ y : Int, W22.cell? ⟨wr.heap.size, rr, none⟩ = some (.int .i64 y) := by
                rw [hcr]
                have hq : rr = 0 ∨ rr = 1 := by omega
                rcases hq with rfl | rfl
                · exact ⟨5, rfl⟩
                · exact ⟨77, rfl⟩
              clear hcr
              go_simp
              refine HK.out _ _ ?_
              clear HK K hyc
              (try simp only [Act.put, List.setIfInBounds_toArray, List.set_cons_zero, List.set_cons_succ])
              refine wpAny_ready (rs := [6]) (by kernel_rfl) (by simp) ?_
              refine (AllReady.cons (o := ⟨some 53, _, _, _, _, _⟩) rfl (fun K hK => ?_) AllReady.nil)
              have HK : Hid _ := hK
              clear hK
              go_simp
              refine (HSg.out y _ V22.out).mono ?_
              rintro e' w20 ⟨c, v, rfl, ho20, hm20, hl20, b20⟩
              have V20 : Hid (CL w a len cap w1 w2.heap.size w20 ⟨xiss, xfr, xtill, xser, xsk, xse, xss⟩ (.slice va nl vc)) := V22.out.below (by omega) hlt1 b20
              have gs20 := V22.out.grows.size
              have hq20 := heap_lt V22.out.row
              refine HK.out _ _ ?_
              clear HK K
              (try simp only [Act.put, List.setIfInBounds_toArray, List.set_cons_zero, List.set_cons_succ])
              refine wpAny_ready (rs := [7]) (by kernel_rfl) (by simp) ?_
              refine (AllReady.cons (o := ⟨none, _, _, _, _, _⟩) rfl (fun K hK => ?_) AllReady.nil)
              have HK : Hid _ := hK
              clear hK
              obtain ⟨va3, vc3, hv3, _⟩ := ho20.form
              subst hv3
              obtain ⟨ziss, zfr, ztill, zser, zsk, zse, zss⟩ := c
              obtain ⟨nz, hnz⟩ : ∃ n, n = zser.length := ⟨_, rfl⟩
              simp only at ho20 hl20
              rw [← hnz] at ho20 ⊢
              clear hnz
              have r20 : w20.heap[w2.heap.size]? = some (.cells [Value.string xiss, .int .i64 xfr, .int .i64 xtill, .slice va nl vc, .int .i64 xsk, .int .i64 xse, .int .i64 xss].toArray 30 (0, 0)) := V20.out.row
              have h1c : ∀ u ∈ [Value.string ziss, .int .i64 zfr, .int .i64 ztill, .slice va3 nz vc3, .int .i64 zsk, .int .i64 zse, .int .i64 zss], u.oneCell' = true := by simp [Value.oneCell']
              rw [if_pos (by rfl)]
              refine wp_store_row 30 _ _ rfl w2.heap.size [Value.string xiss, .int .i64 xfr, .int .i64 xtill, .slice va nl vc, .int .i64 xsk, .int .i64 xse, .int .i64 xss] [Value.string ziss, .int .i64 zfr, .int .i64 ztill, .slice va3 nz vc3, .int .i64 zsk, .int .i64 zse, .int .i64 zss] 30 rfl rfl r20 rfl sizeCrl h1c ?_
              intro w21 hrow ho hs hbb
              have hg21 := grown_row ho hbb
              have HFin : Hid (CL w a len cap w1 w2.heap.size w21 ⟨ziss, zfr, ztill, zser, zsk, zse, zss⟩ (.slice va3 nz vc3)) := ⟨hrow, (ho20.mono gs20).rowOff hg21 (fun e => by have := (ho20.ge e).1; omega), fun e => by have := (ho20.ge e).1; omega, hm20, V20.out.ss.row hg21 (by omega), V20.out.grows.row hg21 hq1⟩
              refine HK.out _ _ ?_
              clear HK K hrow ho hs hbb hg21
              refine wpAny_done (by kernel_rfl) ?_ _
              go_wp2_with fail
              go_meet
              case rel => exact ⟨_, _, HFin.out, hl20⟩
          · skip
            have HK : Hid _ := hK
            clear hK
            obtain ⟨f0, f1, f2, f3, f4, f5, f6⟩ := HQ.out _ V21.out.row
            go_simp
            refine HK.out _ _ ?_
            clear HK K f0 f1 f2 f3 f4 f5 f6
            (try simp only [Act.put, List.setIfInBounds_toArray, List.set_cons_zero, List.set_cons_succ])
            refine wpAny_ready (rs := [2]) (by kernel_rfl) (by simp) ?_
            refine (AllReady.cons (o := ⟨some 49, _, _, _, _, _⟩) rfl (fun K hK => ?_) AllReady.nil)
            have HK : Hid _ := hK
            clear hK
            go_simp
            refine (sk_n 2 (by omega) V21.out.ss).mono ?_
            rintro e' W22 ⟨rr, rfl, hr22, h22, hg22⟩
            have V22 : Hid (CL w a len cap w1 w2.heap.size W22 ⟨xiss, xfr, xtill, xser, xsk, xse, xss⟩ (.slice va nl vc)) := V21.out.keep (by omega) hlt1 h22 hg22
            have rk22 := rw21
            rw [← hg22.keepBlock (heap_lt rw21) (by have := V0.out.grows.size; simp; omega)] at rk22
            have hrr : rr < 2 := by omega
            have hri : (rr : Int) < 2 := by omega
            refine HK.out _ _ ?_
            clear HK K h22 hg22 hr22
            (try simp only [Act.put, List.setIfInBounds_toArray, List.set_cons_zero, List.set_cons_succ])
            refine wpAny_take (i := 3) (oi := ⟨some 50, _, _, _, _, _⟩) (v := ?_) rfl (by kernel_rfl) (by kernel_rfl) (by kernel_rfl) (fun _ _ _ h => h) (Or.inl ⟨by kernel_rfl, ?_⟩) ?_
            rotate_left
            · (intro w; go_simp; try with_reducible rfl)
            (try simp only [Act.put, List.setIfInBounds_toArray, List.set_cons_zero, List.set_cons_succ])
            refine wpAny_ready (rs := [4]) (by kernel_rfl) (by simp) ?_
            refine (AllReady.cons (o := ⟨some 51, _, _, _, _, _⟩) rfl (fun K hK => ?_) AllReady.nil)
            have HK : Hid _ := hK
            clear hK
            have hcr := cell_of_row _ _ rr _ _ (0, 0) rk22
            obtain ⟨y, hyc⟩ : ∃ y : Int, W22.cell? ⟨wr.heap.size, rr, none⟩ = some (.int .i64 y) := by
              rw [hcr]
              have hq : rr = 0 ∨ rr = 1 := by omega
              rcases hq with rfl | rfl
              · exact ⟨5, rfl⟩
              · exact ⟨77, rfl⟩
            clear hcr
            go_simp
            refine HK.out _ _ ?_
            clear HK K hyc
            (try simp only [Act.put, List.setIfInBounds_toArray, List.set_cons_zero, List.set_cons_succ])
            refine wpAny_ready (rs := [6]) (by kernel_rfl) (by simp) ?_
            refine (AllReady.cons (o := ⟨some 53, _, _, _, _, _⟩) rfl (fun K hK => ?_) AllReady.nil)
            have HK : Hid _ := hK
            clear hK
            go_simp
            refine (HSg.out y _ V22.out).mono ?_
            rintro e' w20 ⟨c, v, rfl, ho20, hm20, hl20, b20⟩
            have V20 : Hid (CL w a len cap w1 w2.heap.size w20 ⟨xiss, xfr, xtill, xser, xsk, xse, xss⟩ (.slice va nl vc)) := V22.out.below (by omega) hlt1 b20
            have gs20 := V22.out.grows.size
            have hq20 := heap_lt V22.out.row
            refine HK.out _ _ ?_
            clear HK K
            (try simp only [Act.put, List.setIfInBounds_toArray, List.set_cons_zero, List.set_cons_succ])
            refine wpAny_ready (rs := [7]) (by kernel_rfl) (by simp) ?_
            refine (AllReady.cons (o := ⟨none, _, _, _, _, _⟩) rfl (fun K hK => ?_) AllReady.nil)
            have HK : Hid _ := hK
            clear hK
            obtain ⟨va3, vc3, hv3, _⟩ := ho20.form
            subst hv3
            obtain ⟨ziss, zfr, ztill, zser, zsk, zse, zss⟩ := c
            obtain ⟨nz, hnz⟩ : ∃ n, n = zser.length := ⟨_, rfl⟩
            simp only at ho20 hl20
            rw [← hnz] at ho20 ⊢
            clear hnz
            have r20 : w20.heap[w2.heap.size]? = some (.cells [Value.string xiss, .int .i64 xfr, .int .i64 xtill, .slice va nl vc, .int .i64 xsk, .int .i64 xse, .int .i64 xss].toArray 30 (0, 0)) := V20.out.row
            have h1c : ∀ u ∈ [Value.string ziss, .int .i64 zfr, .int .i64 ztill, .slice va3 nz vc3, .int .i64 zsk, .int .i64 zse, .int .i64 zss], u.oneCell' = true := by simp [Value.oneCell']
            rw [if_pos (by rfl)]
            refine wp_store_row 30 _ _ rfl w2.heap.size [Value.string xiss, .int .i64 xfr, .int .i64 xtill, .slice va nl vc, .int .i64 xsk, .int .i64 xse, .int .i64 xss] [Value.string ziss, .int .i64 zfr, .int .i64 ztill, .slice va3 nz vc3, .int .i64 zsk, .int .i64 zse, .int .i64 zss] 30 rfl rfl r20 rfl sizeCrl h1c ?_
            intro w21 hrow ho hs hbb
            have hg21 := grown_row ho hbb
            have HFin : Hid (CL w a len cap w1 w2.heap.size w21 ⟨ziss, zfr, ztill, zser, zsk, zse, zss⟩ (.slice va3 nz vc3)) := ⟨hrow, (ho20.mono gs20).rowOff hg21 (fun e => by have := (ho20.ge e).1; omega), fun e => by have := (ho20.ge e).1; omega, hm20, V20.out.ss.row hg21 (by omega), V20.out.grows.row hg21 hq1⟩
            refine HK.out _ _ ?_
            clear HK K hrow ho hs hbb hg21
            refine wpAny_done (by kernel_rfl) ?_ _
            go_wp2_with fail
            go_meet
            case rel => exact ⟨_, _, HFin.out, hl20⟩
        · skip
          have HK : Hid _ := hK
          clear hK
          go_simp
          refine (sk_n 2 (by omega) V0.out.ss).mono ?_
          rintro e' W21 ⟨rr, rfl, hr21, h21, hg21⟩
          have V21 : Hid (CL w a len cap w1 w2.heap.size W21 ⟨xiss, xfr, xtill, xser, xsk, xse, xss⟩ (.slice va nl vc)) := V0.out.keep (by omega) hlt1 h21 hg21
          have hrr : rr < 2 := by omega
          have hri : (rr : Int) < 2 := by omega
          refine HK.out _ _ ?_
          clear HK K h21 hg21 hr21
          (try simp only [Act.put, List.setIfInBounds_toArray, List.set_cons_zero, List.set_cons_succ])
          refine wpAny_ready (rs := [0, 5]) (by kernel_rfl) (by simp) ?_
          refine (AllReady.cons (o := ⟨some 47, _, _, _, _, _⟩) rfl (fun K hK => ?_) (AllReady.cons (o := ⟨some 52, _, _, _, _, _⟩) rfl (fun K hK => ?_) AllReady.nil))
          · skip
            have HK : Hid _ := hK
            clear hK
            go_simp
            have bb22 : Below W21.heap.size W21 (W21.alloc (.cells #[.int .i64 5, .int .i64 77] 2 (0, 0))) := (Below.refl _ _).alloc (Nat.le_refl _) _
            have V22 : Hid (CL w a len cap w1 w2.heap.size (W21.alloc (.cells #[.int .i64 5, .int .i64 77] 2 (0, 0))) ⟨xiss, xfr, xtill, xser, xsk, xse, xss⟩ (.slice va nl vc)) := V21.out.below (by omega) hlt1 bb22
            have rw22 : (W21.alloc (.cells #[.int .i64 5, .int .i64 77] 2 (0, 0))).heap[W21.heap.size]? = some (.cells #[.int .i64 5, .int .i64 77] 2 (0, 0)) := heap_alloc_new W21 _
            have gz22 := V21.out.grows.size
            refine HK.out _ _ ?_
            clear HK K bb22
            (try simp only [Act.put, List.setIfInBounds_toArray, List.set_cons_zero, List.set_cons_succ])
            refine wpAny_take (i := 3) (oi := ⟨some 50, _, _, _, _, _⟩) (v := ?_) rfl (by kernel_rfl) (by kernel_rfl) (by kernel_rfl) (fun _ _ _ h => h) (Or.inl ⟨by kernel_rfl, ?_⟩) ?_
            rotate_left
            · (intro w; go_simp; try with_reducible rfl)
            (try simp only [Act.put, List.setIfInBounds_toArray, List.set_cons_zero, List.set_cons_succ])
            refine wpAny_ready (rs := [4, 5]) (by kernel_rfl) (by simp) ?_
            refine (AllReady.cons (o := ⟨some 51, _, _, _, _, _⟩) rfl (fun K hK => ?_) (AllReady.cons (o := ⟨some 52, _, _, _, _, _⟩) rfl (fun K hK => ?_) AllReady.nil))
            · skip
              have HK : Hid _ := hK
              clear hK
              have hcr := cell_of_row _ _ rr _ _ (0, 0) rw22
              obtain ⟨y, hyc⟩ : ∃ y : Int, (W21.alloc (.cells #[.int .i64 5, .int .i64 77] 2 (0, 0))).cell? ⟨W21.heap.size, rr, none⟩ = some (.int .i64 y) := by
                rw [hcr]
                have hq : rr = 0 ∨ rr = 1 := by omega
                rcases hq with rfl | rfl
                · exact ⟨5, rfl⟩
                · exact ⟨77, rfl⟩
              clear hcr
              go_simp
              refine HK.out _ _ ?_
              clear HK K hyc
              (try simp only [Act.put, List.setIfInBounds_toArray, List.set_cons_zero, List.set_cons_succ])
              refine wpAny_ready (rs := [5]) (by kernel_rfl) (by simp) ?_
              refine (AllReady.cons (o := ⟨some 52, _, _, _, _, _⟩) rfl (fun K hK => ?_) AllReady.nil)
              have HK : Hid _ := hK
              clear hK
              obtain ⟨f0, f1, f2, f3, f4, f5, f6⟩ := HQ.out _ V22.out.row
              go_simp
              refine HK.out _ _ ?_
              clear HK K f0 f1 f2 f3 f4 f5 f6
              (try simp only [Act.put, List.setIfInBounds_toArray, List.set_cons_zero, List.set_cons_succ])
              refine wpAny_ready (rs := [6]) (by kernel_rfl) (by simp) ?_
              refine (AllReady.cons (o := ⟨some 53, _, _, _, _, _⟩) rfl (fun K hK => ?_) AllReady.nil)
              have HK : Hid _ := hK
              clear hK
              go_simp
              refine (HSg.out y _ V22.out).mono ?_
              rintro e' w20 ⟨c, v, rfl, ho20, hm20, hl20, b20⟩
              have V20 : Hid (CL w a len cap w1 w2.heap.size w20 ⟨xiss, xfr, xtill, xser, xsk, xse, xss⟩ (.slice va nl vc)) := V22.out.below (by omega) hlt1 b20
              have gs20 := V22.out.grows.size
              have hq20 := heap_lt V22.out.row
              refine HK.out _ _ ?_
              clear HK K
              (try simp only [Act.put, List.setIfInBounds_toArray, List.set_cons_zero, List.set_cons_succ])
              refine wpAny_ready (rs := [7]) (by kernel_rfl) (by simp) ?_
              refine (AllReady.cons (o := ⟨none, _, _, _, _, _⟩) rfl (fun K hK => ?_) AllReady.nil)
              have HK : Hid _ := hK
              clear hK
              obtain ⟨va3, vc3, hv3, _⟩ := ho20.form
              subst hv3
              obtain ⟨ziss, zfr, ztill, zser, zsk, zse, zss⟩ := c
              obtain ⟨nz, hnz⟩ : ∃ n, n = zser.length := ⟨_, rfl⟩
              simp only at ho20 hl20
              rw [← hnz] at ho20 ⊢
              clear hnz
              have r20 : w20.heap[w2.heap.size]? = some (.cells [Value.string xiss, .int .i64 xfr, .int .i64 xtill, .slice va nl vc, .int .i64 xsk, .int .i64 xse, .int .i64 xss].toArray 30 (0, 0)) := V20.out.row
              have h1c : ∀ u ∈ [Value.string ziss, .int .i64 zfr, .int .i64 ztill, .slice va3 nz vc3, .int .i64 zsk, .int .i64 zse, .int .i64 zss], u.oneCell' = true := by simp [Value.oneCell']
              rw [if_pos (by rfl)]
              refine wp_store_row 30 _ _ rfl w2.heap.size [Value.string xiss, .int .i64 xfr, .int .i64 xtill, .slice va nl vc, .int .i64 xsk, .int .i64 xse, .int .i64 xss] [Value.string ziss, .int .i64 zfr, .int .i64 ztill, .slice va3 nz vc3, .int .i64 zsk, .int .i64 zse, .int .i64 zss] 30 rfl rfl r20 rfl sizeCrl h1c ?_
              intro w21 hrow ho hs hbb
              have hg21 := grown_row ho hbb
              have HFin : Hid (CL w a len cap w1 w2.heap.size w21 ⟨ziss, zfr, ztill, zser, zsk, zse, zss⟩ (.slice va3 nz vc3)) := ⟨hrow, (ho20.mono gs20).rowOff hg21 (fun e => by have := (ho20.ge e).1; omega), fun e => by have := (ho20.ge e).1; omega, hm20, V20.out.ss.row hg21 (by omega), V20.out.grows.row hg21 hq1⟩
              refine HK.out _ _ ?_
              clear HK K hrow ho hs hbb hg21
              refine wpAny_done (by kernel_rfl) ?_ _
              go_wp2_with fail
              go_meet
              case rel => exact ⟨_, _, HFin.out, hl20⟩
            · skip
              have HK : Hid _ := hK
              clear hK
              obtain ⟨f0, f1, f2, f3, f4, f5, f6⟩ := HQ.out _ V22.out.row
              go_simp
              refine HK.out _ _ ?_
              clear HK K f0 f1 f2 f3 f4 f5 f6
              (try simp only [Act.put, List.setIfInBounds_toArray, List.set_cons_zero, List.set_cons_succ])
              refine wpAny_ready (rs := [4]) (by kernel_rfl) (by simp) ?_
              refine (AllReady.cons (o := ⟨some 51, _, _, _, _, _⟩) rfl (fun K hK => ?_) AllReady.nil)
              have HK : Hid _ := hK
              clear hK
              have hcr := cell_of_row _ _ rr _ _ (0, 0) rw22
              obtain ⟨y, hyc⟩ : ∃ y : Int, (W21.alloc (.cells #[.int .i64 5, .int .i64 77] 2 (0, 0))).cell? ⟨W21.heap.size, rr, none⟩ = some (.int .i64 y) := by
                rw [hcr]
                have hq : rr = 0 ∨ rr = 1 := by omega
                rcases hq with rfl | rfl
                · exact ⟨5, rfl⟩
                · exact ⟨77, rfl⟩
              clear hcr
              go_simp
              refine HK.out _ _ ?_
              clear HK K hyc
              (try simp only [Act.put, List.setIfInBounds_toArray, List.set_cons_zero, List.set_cons_succ])
              refine wpAny_ready (rs := [6]) (by kernel_rfl) (by simp) ?_
              refine (AllReady.cons (o := ⟨some 53, _, _, _, _, _⟩) rfl (fun K hK => ?_) AllReady.nil)
              have HK : Hid _ := hK
              clear hK
              go_simp
              refine (HSg.out y _ V22.out).mono ?_
              rintro e' w20 ⟨c, v, rfl, ho20, hm20, hl20, b20⟩
              have V20 : Hid (CL w a len cap w1 w2.heap.size w20 ⟨xiss, xfr, xtill, xser, xsk, xse, xss⟩ (.slice va nl vc)) := V22.out.below (by omega) hlt1 b20
              have gs20 := V22.out.grows.size
              have hq20 := heap_lt V22.out.row
              refine HK.out _ _ ?_
              clear HK K
              (try simp only [Act.put, List.setIfInBounds_toArray, List.set_cons_zero, List.set_cons_succ])
              refine wpAny_ready (rs := [7]) (by kernel_rfl) (by simp) ?_
              refine (AllReady.cons (o := ⟨none, _, _, _, _, _⟩) rfl (fun K hK => ?_) AllReady.nil)
              have HK : Hid _ := hK
              clear hK
              obtain ⟨va3, vc3, hv3, _⟩ := ho20.form
              subst hv3
              obtain ⟨ziss, zfr, ztill, zser, zsk, zse, zss⟩ := c
              obtain ⟨nz, hnz⟩ : ∃ n, n = zser.length := ⟨_, rfl⟩
              simp only at ho20 hl20
              rw [← hnz] at ho20 ⊢
              clear hnz
              have r20 : w20.heap[w2.heap.size]? = some (.cells [Value.string xiss, .int .i64 xfr, .int .i64 xtill, .slice va nl vc, .int .i64 xsk, .int .i64 xse, .int .i64 xss].toArray 30 (0, 0)) := V20.out.row
              have h1c : ∀ u ∈ [Value.string ziss, .int .i64 zfr, .int .i64 ztill, .slice va3 nz vc3, .int .i64 zsk, .int .i64 zse, .int .i64 zss], u.oneCell' = true := by simp [Value.oneCell']
              rw [if_pos (by rfl)]
              refine wp_store_row 30 _ _ rfl w2.heap.size [Value.string xiss, .int .i64 xfr, .int .i64 xtill, .slice va nl vc, .int .i64 xsk, .int .i64 xse, .int .i64 xss] [Value.string ziss, .int .i64 zfr, .int .i64 ztill, .slice va3 nz vc3, .int .i64 zsk, .int .i64 zse, .int .i64 zss] 30 rfl rfl r20 rfl sizeCrl h1c ?_
              intro w21 hrow ho hs hbb
              have hg21 := grown_row ho hbb
              have HFin : Hid (CL w a len cap w1 w2.heap.size w21 ⟨ziss, zfr, ztill, zser, zsk, zse, zss⟩ (.slice va3 nz vc3)) := ⟨hrow, (ho20.mono gs20).rowOff hg21 (fun e => by have := (ho20.ge e).1; omega), fun e => by have := (ho20.ge e).1; omega, hm20, V20.out.ss.row hg21 (by omega), V20.out.grows.row hg21 hq1⟩
              refine HK.out _ _ ?_
              clear HK K hrow ho hs hbb hg21
              refine wpAny_done (by kernel_rfl) ?_ _
              go_wp2_with fail
              go_meet
              case rel => exact ⟨_, _, HFin.out, hl20⟩
          · skip
            have HK : Hid _ := hK
            clear hK
            obtain ⟨f0, f1, f2, f3, f4, f5, f6⟩ := HQ.out _ V21.out.row
            go_simp
            refine HK.out _ _ ?_
            clear HK K f0 f1 f2 f3 f4 f5 f6
            (try simp only [Act.put, List.setIfInBounds_toArray, List.set_cons_zero, List.set_cons_succ])
            refine wpAny_ready (rs := [0]) (by kernel_rfl) (by simp) ?_
            refine (AllReady.cons (o := ⟨some 47, _, _, _, _, _⟩) rfl (fun K hK => ?_) AllReady.nil)
            have HK : Hid _ := hK
            clear hK
            go_simp
            have bb22 : Below W21.heap.size W21 (W21.alloc (.cells #[.int .i64 5, .int .i64 77] 2 (0, 0))) := (Below.refl _ _).alloc (Nat.le_refl _) _
            have V22 : Hid (CL w a len cap w1 w2.heap.size (W21.alloc (.cells #[.int .i64 5, .int .i64 77] 2 (0, 0))) ⟨xiss, xfr, xtill, xser, xsk, xse, xss⟩ (.slice va nl vc)) := V21.out.below (by omega) hlt1 bb22
            have rw22 : (W21.alloc (.cells #[.int .i64 5, .int .i64 77] 2 (0, 0))).heap[W21.heap.size]? = some (.cells #[.int .i64 5, .int .i64 77] 2 (0, 0)) := heap_alloc_new W21 _
            have gz22 := V21.out.grows.size
            refine HK.out _ _ ?_
            clear HK K bb22
            (try simp only [Act.put, List.setIfInBounds_toArray, List.set_cons_zero, List.set_cons_succ])
            refine wpAny_take (i := 3) (oi := ⟨some 50, _, _, _, _, _⟩) (v := ?_) rfl (by kernel_rfl) (by kernel_rfl) (by kernel_rfl) (fun _ _ _ h => h) (Or.inl ⟨by kernel_rfl, ?_⟩) ?_
            rotate_left
            · (intro w; go_simp; try with_reducible rfl)
            (try simp only [Act.put, List.setIfInBounds_toArray, List.set_cons_zero, List.set_cons_succ])
            refine wpAny_ready (rs := [4]) (by kernel_rfl) (by simp) ?_
            refine (AllReady.cons (o := ⟨some 51, _, _, _, _, _⟩) rfl (fun K hK => ?_) AllReady.nil)
            have HK : Hid _ := hK
            clear hK
            have hcr := cell_of_row _ _ rr _ _ (0, 0) rw22
            obtain ⟨y, hyc⟩ : ∃ y : Int, (W21.alloc (.cells #[.int .i64 5, .int .i64 77] 2 (0, 0))).cell? ⟨W21.heap.size, rr, none⟩ = some (.int .i64 y) := by
              rw [hcr]
              have hq : rr = 0 ∨ rr = 1 := by omega
              rcases hq with rfl | rfl
              · exact ⟨5, rfl⟩
              · exact ⟨77, rfl⟩
            clear hcr
            go_simp
            refine HK.out _ _ ?_
            clear HK K hyc
            (try simp only [Act.put, List.setIfInBounds_toArray, List.set_cons_zero, List.set_cons_succ])
            refine wpAny_ready (rs := [6]) (by kernel_rfl) (by simp) ?_
            refine (AllReady.cons (o := ⟨some 53, _, _, _, _, _⟩) rfl (fun K hK => ?_) AllReady.nil)
            have HK : Hid _ := hK
            clear hK
            go_simp
            refine (HSg.out y _ V22.out).mono ?_
            rintro e' w20 ⟨c, v, rfl, ho20, hm20, hl20, b20⟩
            have V20 : Hid (CL w a len cap w1 w2.heap.size w20 ⟨xiss, xfr, xtill, xser, xsk, xse, xss⟩ (.slice va nl vc)) := V22.out.below (by omega) hlt1 b20
            have gs20 := V22.out.grows.size
            have hq20 := heap_lt V22.out.row
            refine HK.out _ _ ?_
            clear HK K
            (try simp only [Act.put, List.setIfInBounds_toArray, List.set_cons_zero, List.set_cons_succ])
            refine wpAny_ready (rs := [7]) (by kernel_rfl) (by simp) ?_
            refine (AllReady.cons (o := ⟨none, _, _, _, _, _⟩) rfl (fun K hK => ?_) AllReady.nil)
            have HK : Hid _ := hK
            clear hK
            obtain ⟨va3, vc3, hv3, _⟩ := ho20.form
            subst hv3
            obtain ⟨ziss, zfr, ztill, zser, zsk, zse, zss⟩ := c
            obtain ⟨nz, hnz⟩ : ∃ n, n = zser.length := ⟨_, rfl⟩
            simp only at ho20 hl20
            rw [← hnz] at ho20 ⊢
            clear hnz
            have r20 : w20.heap[w2.heap.size]? = some (.cells [Value.string xiss, .int .i64 xfr, .int .i64 xtill, .slice va nl vc, .int .i64 xsk, .int .i64 xse, .int .i64 xss].toArray 30 (0, 0)) := V20.out.row
            have h1c : ∀ u ∈ [Value.string ziss, .int .i64 zfr, .int .i64 ztill, .slice va3 nz vc3, .int .i64 zsk, .int .i64 zse, .int .i64 zss], u.oneCell' = true := by simp [Value.oneCell']
            rw [if_pos (by rfl)]
            refine wp_store_row 30 _ _ rfl w2.heap.size [Value.string xiss, .int .i64 xfr, .int .i64 xtill, .slice va nl vc, .int .i64 xsk, .int .i64 xse, .int .i64 xss] [Value.string ziss, .int .i64 zfr, .int .i64 ztill, .slice va3 nz vc3, .int .i64 zsk, .int .i64 zse, .int .i64 zss] 30 rfl rfl r20 rfl sizeCrl h1c ?_
            intro w21 hrow ho hs hbb
            have hg21 := grown_row ho hbb
            have HFin : Hid (CL w a len cap w1 w2.heap.size w21 ⟨ziss, zfr, ztill, zser, zsk, zse, zss⟩ (.slice va3 nz vc3)) := ⟨hrow, (ho20.mono gs20).rowOff hg21 (fun e => by have := (ho20.ge e).1; omega), fun e => by have := (ho20.ge e).1; omega, hm20, V20.out.ss.row hg21 (by omega), V20.out.grows.row hg21 hq1⟩
            refine HK.out _ _ ?_
            clear HK K hrow ho hs hbb hg21
            refine wpAny_done (by kernel_rfl) ?_ _
            go_wp2_with fail
            go_meet
            case rel => exact ⟨_, _, HFin.out, hl20⟩
        · skip
          have HK : Hid _ := hK
          clear hK
          obtain ⟨f0, f1, f2, f3, f4, f5, f6⟩ := HQ.out _ V0.out.row
          go_simp
          refine HK.out _ _ ?_
          clear HK K f0 f1 f2 f3 f4 f5 f6
          (try simp only [Act.put, List.setIfInBounds_toArray, List.set_cons_zero, List.set_cons_succ])
          refine wpAny_ready (rs := [0, 2]) (by kernel_rfl) (by simp) ?_
          refine (AllReady.cons (o := ⟨some 47, _, _, _, _, _⟩) rfl (fun K hK => ?_) (AllReady.cons (o := ⟨some 49, _, _, _, _, _⟩) rfl (fun K hK => ?_) AllReady.nil))
          · skip
            have HK : Hid _ := hK
            clear hK
            go_simp
            have bb21 : Below wr.heap.size wr (wr.alloc (.cells #[.int .i64 5, .int .i64 77] 2 (0, 0))).drew := ((Below.refl _ _).alloc (Nat.le_refl _) _).drew
            have V21 : Hid (CL w a len cap w1 w2.heap.size (wr.alloc (.cells #[.int .i64 5, .int .i64 77] 2 (0, 0))).drew ⟨xiss, xfr, xtill, xser, xsk, xse, xss⟩ (.slice va nl vc)) := VR.out.below (by omega) hlt1 bb21
            have rw21 : (wr.alloc (.cells #[.int .i64 5, .int .i64 77] 2 (0, 0))).drew.heap[wr.heap.size]? = some (.cells #[.int .i64 5, .int .i64 77] 2 (0, 0)) := heap_alloc_new wr _
            have gz21 := VR.out.grows.size
            refine HK.out _ _ ?_
            clear HK K bb21
            (try simp only [Act.put, List.setIfInBounds_toArray, List.set_cons_zero, List.set_cons_succ])
            refine wpAny_ready (rs := [2]) (by kernel_rfl) (by simp) ?_
            refine (AllReady.cons (o := ⟨some 49, _, _, _, _, _⟩) rfl (fun K hK => ?_) AllReady.nil)
            have HK : Hid _ := hK
            clear hK
            go_simp
            refine (sk_n 2 (by omega) V21.out.ss).mono ?_
            rintro e' W22 ⟨rr, rfl, hr22, h22, hg22⟩
            have V22 : Hid (CL w a len cap w1 w2.heap.size W22 ⟨xiss, xfr, xtill, xser, xsk, xse, xss⟩ (.slice va nl vc)) := V21.out.keep (by omega) hlt1 h22 hg22
            have rk22 := rw21
            rw [← hg22.keepBlock (heap_lt rw21) (by have := V0.out.grows.size; simp; omega)] at rk22
            have hrr : rr < 2 := by omega
            have hri : (rr : Int) < 2 := by omega
            refine HK.out _ _ ?_
            clear HK K h22 hg22 hr22
            (try simp only [Act.put, List.setIfInBounds_toArray, List.set_cons_zero, List.set_cons_succ])
            refine wpAny_take (i := 3) (oi := ⟨some 50, _, _, _, _, _⟩) (v := ?_) rfl (by kernel_rfl) (by kernel_rfl) (by kernel_rfl) (fun _ _ _ h => h) (Or.inl ⟨by kernel_rfl, ?_⟩) ?_
            rotate_left
            · (intro w; go_simp; try with_reducible rfl)
            (try simp only [Act.put, List.setIfInBounds_toArray, List.set_cons_zero, List.set_cons_succ])
            refine wpAny_ready (rs := [4]) (by kernel_rfl) (by simp) ?_
            refine (AllReady.cons (o := ⟨some 51, _, _, _, _, _⟩) rfl (fun K hK => ?_) AllReady.nil)
            have HK : Hid _ := hK
            clear hK
            have hcr := cell_of_row _ _ rr _ _ (0, 0) rk22
            obtain ⟨y, hyc⟩ : ∃ y : Int, W22.cell? ⟨wr.heap.size, rr, none⟩ = some (.int .i64 y) := by
              rw [hcr]
              have hq : rr = 0 ∨ rr = 1 := by omega
              rcases hq with rfl | rfl
              · exact ⟨5, rfl⟩
              · exact ⟨77, rfl⟩
            clear hcr
            go_simp
            refine HK.out _ _ ?_
            clear HK K hyc
            (try simp only [Act.put, List.setIfInBounds_toArray, List.set_cons_zero, List.set_cons_succ])
            refine wpAny_ready (rs := [6]) (by kernel_rfl) (by simp) ?_
            refine (AllReady.cons (o := ⟨some 53, _, _, _, _, _⟩) rfl (fun K hK => ?_) AllReady.nil)
            have HK : Hid _ := hK
            clear hK
            go_simp
            refine (HSg.out y _ V22.out).mono ?_
            rintro e' w20 ⟨c, v, rfl, ho20, hm20, hl20, b20⟩
            have V20 : Hid (CL w a len cap w1 w2.heap.size w20 ⟨xiss, xfr, xtill, xser, xsk, xse, xss⟩ (.slice va nl vc)) := V22.out.below (by omega) hlt1 b20
            have gs20 := V22.out.grows.size
            have hq20 := heap_lt V22.out.row
            refine HK.out _ _ ?_
            clear HK K
            (try simp only [Act.put, List.setIfInBounds_toArray, List.set_cons_zero, List.set_cons_succ])
            refine wpAny_ready (rs := [7]) (by kernel_rfl) (by simp) ?_
            refine (AllReady.cons (o := ⟨none, _, _, _, _, _⟩) rfl (fun K hK => ?_) AllReady.nil)
            have HK : Hid _ := hK
            clear hK
            obtain ⟨va3, vc3, hv3, _⟩ := ho20.form
            subst hv3
            obtain ⟨ziss, zfr, ztill, zser, zsk, zse, zss⟩ := c
            obtain ⟨nz, hnz⟩ : ∃ n, n = zser.length := ⟨_, rfl⟩
            simp only at ho20 hl20
            rw [← hnz] at ho20 ⊢
            clear hnz
            have r20 : w20.heap[w2.heap.size]? = some (.cells [Value.string xiss, .int .i64 xfr, .int .i64 xtill, .slice va nl vc, .int .i64 xsk, .int .i64 xse, .int .i64 xss].toArray 30 (0, 0)) := V20.out.row
            have h1c : ∀ u ∈ [Value.string ziss, .int .i64 zfr, .int .i64 ztill, .slice va3 nz vc3, .int .i64 zsk, .int .i64 zse, .int .i64 zss], u.oneCell' = true := by simp [Value.oneCell']
            rw [if_pos (by rfl)]
            refine wp_store_row 30 _ _ rfl w2.heap.size [Value.string xiss, .int .i64 xfr, .int .i64 xtill, .slice va nl vc, .int .i64 xsk, .int .i64 xse, .int .i64 xss] [Value.string ziss, .int .i64 zfr, .int .i64 ztill, .slice va3 nz vc3, .int .i64 zsk, .int .i64 zse, .int .i64 zss] 30 rfl rfl r20 rfl sizeCrl h1c ?_
            intro w21 hrow ho hs hbb
            have hg21 := grown_row ho hbb
            have HFin : Hid (CL w a len cap w1 w2.heap.size w21 ⟨ziss, zfr, ztill, zser, zsk, zse, zss⟩ (.slice va3 nz vc3)) := ⟨hrow, (ho20.mono gs20).rowOff hg21 (fun e => by have := (ho20.ge e).1; omega), fun e => by have := (ho20.ge e).1; omega, hm20, V20.out.ss.row hg21 (by omega), V20.out.grows.row hg21 hq1⟩
            refine HK.out _ _ ?_
            clear HK K hrow ho hs hbb hg21
            refine wpAny_done (by kernel_rfl) ?_ _
            go_wp2_with fail
            go_meet
            case rel => exact ⟨_, _, HFin.out, hl20⟩
          · skip
            have HK : Hid _ := hK
            clear hK
            go_simp
            refine (sk_n 2 (by omega) V0.out.ss).mono ?_
            rintro e' W21 ⟨rr, rfl, hr21, h21, hg21⟩
            have V21 : Hid (CL w a len cap w1 w2.heap.size W21 ⟨xiss, xfr, xtill, xser, xsk, xse, xss⟩ (.slice va nl vc)) := V0.out.keep (by omega) hlt1 h21 hg21
            have hrr : rr < 2 := by omega
            have hri : (rr : Int) < 2 := by omega
            refine HK.out _ _ ?_
            clear HK K h21 hg21 hr21
            (try simp only [Act.put, List.setIfInBounds_toArray, List.set_cons_zero, List.set_cons_succ])
            refine wpAny_ready (rs := [0]) (by kernel_rfl) (by simp) ?_
            refine (AllReady.cons (o := ⟨some 47, _, _, _, _, _⟩) rfl (fun K hK => ?_) AllReady.nil)
            have HK : Hid _ := hK
            clear hK
            go_simp
            have bb22 : Below W21.heap.size W21 (W21.alloc (.cells #[.int .i64 5, .int .i64 77] 2 (0, 0))) := (Below.refl _ _).alloc (Nat.le_refl _) _
            have V22 : Hid (CL w a len cap w1 w2.heap.size (W21.alloc (.cells #[.int .i64 5, .int .i64 77] 2 (0, 0))) ⟨xiss, xfr, xtill, xser, xsk, xse, xss⟩ (.slice va nl vc)) := V21.out.below (by omega) hlt1 bb22
            have rw22 : (W21.alloc (.cells #[.int .i64 5, .int .i64 77] 2 (0, 0))).heap[W21.heap.size]? = some (.cells #[.int .i64 5, .int .i64 77] 2 (0, 0)) := heap_alloc_new W21 _
            have gz22 := V21.out.grows.size
            refine HK.out _ _ ?_
            clear HK K bb22
            (try simp only [Act.put, List.setIfInBounds_toArray, List.set_cons_zero, List.set_cons_succ])
            refine wpAny_take (i := 3) (oi := ⟨some 50, _, _, _, _, _⟩) (v := ?_) rfl (by kernel_rfl) (by kernel_rfl) (by kernel_rfl) (fun _ _ _ h => h) (Or.inl ⟨by kernel_rfl, ?_⟩) ?_
            rotate_left
            · (intro w; go_simp; try with_reducible rfl)
            (try simp only [Act.put, List.setIfInBounds_toArray, List.set_cons_zero, List.set_cons_succ])
            refine wpAny_ready (rs := [4]) (by kernel_rfl) (by simp) ?_
            refine (AllReady.cons (o := ⟨some 51, _, _, _, _, _⟩) rfl (fun K hK => ?_) AllReady.nil)
            have HK : Hid _ := hK
            clear hK
            have hcr := cell_of_row _ _ rr _ _ (0, 0) rw22
            obtain ⟨y, hyc⟩ : ∃ y : Int, (W21.alloc (.cells #[.int .i64 5, .int .i64 77] 2 (0, 0))).cell? ⟨W21.heap.size, rr, none⟩ = some (.int .i64 y) := by
              rw [hcr]
              have hq : rr = 0 ∨ rr = 1 := by omega
              rcases hq with rfl | rfl
              · exact ⟨5, rfl⟩
              · exact ⟨77, rfl⟩
            clear hcr
            go_simp
            refine HK.out _ _ ?_
            clear HK K hyc
            (try simp only [Act.put, List.setIfInBounds_toArray, List.set_cons_zero, List.set_cons_succ])
            refine wpAny_ready (rs := [6]) (by kernel_rfl) (by simp) ?_
            refine (AllReady.cons (o := ⟨some 53, _, _, _, _, _⟩) rfl (fun K hK => ?_) AllReady.nil)
            have HK : Hid _ := hK
            clear hK
            go_simp
            refine (HSg.out y _ V22.out).mono ?_
            rintro e' w20 ⟨c, v, rfl, ho20, hm20, hl20, b20⟩
            have V20 : Hid (CL w a len cap w1 w2.heap.size w20 ⟨xiss, xfr, xtill, xser, xsk, xse, xss⟩ (.slice va nl vc)) := V22.out.below (by omega) hlt1 b20
            have gs20 := V22.out.grows.size
            have hq20 := heap_lt V22.out.row
            refine HK.out _ _ ?_
            clear HK K
            (try simp only [Act.put, List.setIfInBounds_toArray, List.set_cons_zero, List.set_cons_succ])
            refine wpAny_ready (rs := [7]) (by kernel_rfl) (by simp) ?_
            refine (AllReady.cons (o := ⟨none, _, _, _, _, _⟩) rfl (fun K hK => ?_) AllReady.nil)
            have HK : Hid _ := hK
            clear hK
            obtain ⟨va3, vc3, hv3, _⟩ := ho20.form
            subst hv3
            obtain ⟨ziss, zfr, ztill, zser, zsk, zse, zss⟩ := c
            obtain ⟨nz, hnz⟩ : ∃ n, n = zser.length := ⟨_, rfl⟩
            simp only at ho20 hl20
            rw [← hnz] at ho20 ⊢
            clear hnz
            have r20 : w20.heap[w2.heap.size]? = some (.cells [Value.string xiss, .int .i64 xfr, .int .i64 xtill, .slice va nl vc, .int .i64 xsk, .int .i64 xse, .int .i64 xss].toArray 30 (0, 0)) := V20.out.row
            have h1c : ∀ u ∈ [Value.string ziss, .int .i64 zfr, .int .i64 ztill, .slice va3 nz vc3, .int .i64 zsk, .int .i64 zse, .int .i64 zss], u.oneCell' = true := by simp [Value.oneCell']
            rw [if_pos (by rfl)]
            refine wp_store_row 30 _ _ rfl w2.heap.size [Value.string xiss, .int .i64 xfr, .int .i64 xtill, .slice va nl vc, .int .i64 xsk, .int .i64 xse, .int .i64 xss] [Value.string ziss, .int .i64 zfr, .int .i64 ztill, .slice va3 nz vc3, .int .i64 zsk, .int .i64 zse, .int .i64 zss] 30 rfl rfl r20 rfl sizeCrl h1c ?_
            intro w21 hrow ho hs hbb
            have hg21 := grown_row ho hbb
            have HFin : Hid (CL w a len cap w1 w2.heap.size w21 ⟨ziss, zfr, ztill, zser, zsk, zse, zss⟩ (.slice va3 nz vc3)) := ⟨hrow, (ho20.mono gs20).rowOff hg21 (fun e => by have := (ho20.ge e).1; omega), fun e => by have := (ho20.ge e).1; omega, hm20, V20.out.ss.row hg21 (by omega), V20.out.grows.row hg21 hq1⟩
            refine HK.out _ _ ?_
            clear HK K hrow ho hs hbb hg21
            refine wpAny_done (by kernel_rfl) ?_ _
            go_wp2_with fail
            go_meet
            case rel => exact ⟨_, _, HFin.out, hl20⟩
      case rest =>
        obtain ⟨c, v, hcl, hcl4⟩ := hcut
        clear HQ HNl HLe VR
        obtain ⟨va, vc, hvv, _⟩ := hcl.own.form
        subst hvv
        obtain ⟨xiss, xfr, xtill, xser, xsk, xse, xss⟩ := c
        obtain ⟨nl, hnl⟩ : ∃ n, n = xser.length := ⟨_, rfl⟩
        have HNl : Hid (nl = xser.length) := hnl
        have HQ : Hid (∀ V : World, V.heap[w2.heap.size]? = some (.cells ([Value.string xiss, .int .i64 xfr, .int .i64 xtill, .slice va nl vc, .int .i64 xsk, .int .i64 xse, .int .i64 xss] : List Value).toArray 30 (0, 0)) → (V.cell? ⟨w2.heap.size, 0, none⟩ = some (.string xiss) ∧ V.cell? ⟨w2.heap.size, 1, none⟩ = some (.int .i64 xfr) ∧ V.cell? ⟨w2.heap.size, 2, none⟩ = some (.int .i64 xtill) ∧ V.cell? ⟨w2.heap.size, 3, none⟩ = some (.slice va nl vc) ∧ V.cell? ⟨w2.heap.size, 4, none⟩ = some (.int .i64 xsk) ∧ V.cell? ⟨w2.heap.size, 5, none⟩ = some (.int .i64 xse) ∧ V.cell? ⟨w2.heap.size, 6, none⟩ = some (.int .i64 xss))) := fun V hP => ⟨rowFacts hP 0 _ rfl, rowFacts hP 1 _ rfl, rowFacts hP 2 _ rfl, rowFacts hP 3 _ rfl, rowFacts hP 4 _ rfl, rowFacts hP 5 _ rfl, rowFacts hP 6 _ rfl⟩
        have VR : Hid (CL w a len cap w1 w2.heap.size wc ⟨xiss, xfr, xtill, xser, xsk, xse, xss⟩ (.slice va nl vc)) := by rw [hnl]; exact hcl
        have HLe : Hid (nl ≤ 4) := by show nl ≤ 4; rw [hnl]; exact hcl4
        clear hcl hcl4 hnl
        obtain ⟨wo, hwo⟩ : ∃ y, y = wr := ⟨_, rfl⟩
        subst hwo
        obtain ⟨wp, hwp⟩ : ∃ y, y = wc := ⟨_, rfl⟩
        rw [← hwp] at VR ⊢
        clear hwp
        go_wp2_with fail
        refine (sk_one 12 (by omega) VR.out.ss).mono ?_
        rintro e' w12 ⟨⟨bb, rfl⟩, h12, hg12⟩
        have VB : Hid (CL w a len cap w1 w2.heap.size w12 ⟨xiss, xfr, xtill, xser, xsk, xse, xss⟩ (.slice va nl vc)) := VR.out.keep (by omega) hlt1 h12 hg12
        clear h12 hg12 VR
        go_upto_if 55 with fail
        go_cut [] from 54 (fun wx => ∃ c v, CL w a len cap w1 w2.heap.size wx c v)
        case first =>
          cases bb with
          | false =>
            go_wp2_with fail
            go_meet
            case rel => exact ⟨_, _, VB.out⟩
          | true =>
            go_wp2_with fail
            refine (sk_n 4 (by omega) VB.out.ss).mono ?_
            rintro e' w13 ⟨r7, rfl, hr7, h13, hg13⟩
            have V13 : Hid (CL w a len cap w1 w2.heap.size w13 ⟨xiss, xfr, xtill, xser, xsk, xse, xss⟩ (.slice va nl vc)) := VB.out.keep (by omega) hlt1 h13 hg13
            have r13 : w13.heap[w2.heap.size]? = some (.cells [Value.string xiss, .int .i64 xfr, .int .i64 xtill, .slice va nl vc, .int .i64 xsk, .int .i64 xse, .int .i64 xss].toArray 30 (0, 0)) := V13.out.row
            clear h13 hg13 VB
            have hc7 : r7 = 0 ∨ r7 = 1 ∨ r7 = 2 ∨ r7 = 3 := by omega
            clear hr7
            rcases hc7 with rfl | rfl | rfl | rfl
            · have d1 := rowFacts r13 1 _ rfl
              have d2 := rowFacts r13 2 _ rfl
              have g2 := rowFree r13 2
              obtain ⟨u, hu, huw⟩ : ∃ n : Int, inW n ∧ IntKind.i64.wrap (xfr - 1) = n := ⟨_, by unfold inW; rw [IntKind.wrap_i64]; omega, rfl⟩
              clear r13
              have m := V13.out.may
              go_wp2_with fail
              go_meet
              case rel => exact ⟨_, _, V13.out.set (by omega) hq1 2 (.int .i64 u) ⟨xiss, xfr, u, xser, xsk, xse, xss⟩ rfl rfl ⟨m.iss, m.len, m.fr, hu, m.sk, m.se, m.ss⟩⟩
            · skip
              clear r13
              go_upto_region 22 with fail
              have V0 : Hid (CL w a len cap w1 w2.heap.size w13.drew ⟨xiss, xfr, xtill, xser, xsk, xse, xss⟩ (.slice va nl vc)) := V13.out.below (by omega) hlt1 ((Below.refl _ _).drew)
              refine wp_region_any (by kernel_rfl) ?_
              change wpAny _ _ _ _ _ _ _ w13.drew
              refine wpAny_take (i := 0) (oi := ⟨some 83, _, _, _, _, _⟩) (v := ?_) rfl (by kernel_rfl) (by kernel_rfl) (by kernel_rfl) (fun _ _ _ h => h) (Or.inl ⟨by kernel_rfl, ?_⟩) ?_
              rotate_left
              · (intro w; go_simp; try with_reducible rfl)
              (try simp only [Act.put, List.setIfInBounds_toArray, List.set_cons_zero, List.set_cons_succ])
              refine wpAny_take (i := 2) (oi := ⟨some 85, _, _, _, _, _⟩) (v := ?_) rfl (by kernel_rfl) (by kernel_rfl) (by kernel_rfl) (fun _ _ _ h => h) (Or.inl ⟨by kernel_rfl, ?_⟩) ?_
              rotate_left
              · (intro w; go_simp; try with_reducible rfl)
              (try simp only [Act.put, List.setIfInBounds_toArray, List.set_cons_zero, List.set_cons_succ])
              refine wpAny_ready (rs := [1, 3]) (by kernel_rfl) (by simp) ?_
              refine (AllReady.cons (o := ⟨some 84, _, _, _, _, _⟩) rfl (fun K hK => ?_) (AllReady.cons (o := ⟨some 86, _, _, _, _, _⟩) rfl (fun K hK => ?_) AllReady.nil))
              · skip
                have HK : Hid _ := hK
                clear hK
                obtain ⟨f0, f1, f2, f3, f4, f5, f6⟩ := HQ.out _ V0.out.row
                go_simp
                refine HK.out _ _ ?_
                clear HK K f0 f1 f2 f3 f4 f5 f6
                (try simp only [Act.put, List.setIfInBounds_toArray, List.set_cons_zero, List.set_cons_succ])
                refine wpAny_ready (rs := [3]) (by kernel_rfl) (by simp) ?_
                refine (AllReady.cons (o := ⟨some 86, _, _, _, _, _⟩) rfl (fun K hK => ?_) AllReady.nil)
                have HK : Hid _ := hK
                clear hK
                go_simp
                refine (sk_n 9 (by omega) V0.out.ss).mono ?_
                rintro e' W21 ⟨rr, rfl, hr21, h21, hg21⟩
                have V21 : Hid (CL w a len cap w1 w2.heap.size W21 ⟨xiss, xfr, xtill, xser, xsk, xse, xss⟩ (.slice va nl vc)) := V0.out.keep (by omega) hlt1 h21 hg21
                obtain ⟨zz, hzz⟩ : ∃ y : Int, y = (rr : Int) := ⟨_, rfl⟩
                rw [← hzz]
                clear hzz
                refine HK.out _ _ ?_
                clear HK K h21 hg21 hr21
                (try simp only [Act.put, List.setIfInBounds_toArray, List.set_cons_zero, List.set_cons_succ])
                refine wpAny_ready (rs := [4]) (by kernel_rfl) (by simp) ?_
                refine (AllReady.cons (o := ⟨some 87, _, _, _, _, _⟩) rfl (fun K hK => ?_) AllReady.nil)
                have HK : Hid _ := hK
                clear hK
                go_simp
                have bb22 : Below W21.heap.size W21 (W21.alloc (.cells #[.int .i64 zz] 2 (0, 0))) := (Below.refl _ _).alloc (Nat.le_refl _) _
                have V22 : Hid (CL w a len cap w1 w2.heap.size (W21.alloc (.cells #[.int .i64 zz] 2 (0, 0))) ⟨xiss, xfr, xtill, xser, xsk, xse, xss⟩ (.slice va nl vc)) := V21.out.below (by omega) hlt1 bb22
                have rw22 : (W21.alloc (.cells #[.int .i64 zz] 2 (0, 0))).heap[W21.heap.size]? = some (.cells #[.int .i64 zz] 2 (0, 0)) := heap_alloc_new W21 _
                have gz22 := V21.out.grows.size
                refine HK.out _ _ ?_
                clear HK K bb22
                (try simp only [Act.put, List.setIfInBounds_toArray, List.set_cons_zero, List.set_cons_succ])
                refine wpAny_ready (rs := [5]) (by kernel_rfl) (by simp) ?_
                refine (AllReady.cons (o := ⟨some 88, _, _, _, _, _⟩) rfl (fun K hK => ?_) AllReady.nil)
                have HK : Hid _ := hK
                clear hK
                have hown : (W21.alloc (.cells #[.int .i64 zz] 2 (0, 0))).ownsRow w1.heap.size 2 1 (.slice va nl vc) nl (lCells xser) := by
                  have h := V22.out.own
                  unfold OwnL at h
                  rw [← HNl.out] at h
                  exact h
                refine step_append_any (by rfl) _ _ _ (by rfl) w1.heap.size 2 i0 (.int .i64 0) 1 8 Tryz.underlying28 hi0 hz0 hz1 hz2 rfl (by decide) (.slice va nl vc) nl (lCells xser) rfl hown ⟨W21.heap.size, 0, none⟩ 1 1 [.int .i64 zz] rfl rfl (news_one rw22) (by simp [Value.oneCell']) (by unfold maxLen; have := HLe.out; omega) (by have := HLe.out; omega) (by have := V22.out.grows.size; simp; omega) ?_
                intro v' w9 hown' hgrow hnil
                have ho9 : OwnL w9 w1.heap.size v' (xser ++ [zz]) := by
                  show World.ownsRow _ _ _ _ _ _ _
                  rw [List.length_append, lCells, List.map_append, show xser.length = nl from HNl.out.symm]
                  exact hown'
                obtain ⟨row9, hcl9⟩ := V22.out.app (by omega) hlt1 hq1 ho9 hgrow (by have := HLe.out; have := HNl.out; show xser.length < 60; omega)
                obtain ⟨vx, vy, hvx, _⟩ := ho9.form
                subst hvx
                have d3 := rowFacts row9 3 _ rfl
                have g3 := rowFree row9 3
                have HAp : Hid (CL w a len cap w1 w2.heap.size (w9.setCell ⟨w2.heap.size, 3, none⟩ (.slice vx (xser ++ [zz]).length vy)) ⟨xiss, xfr, xtill, xser ++ [zz], xsk, xse, xss⟩ (.slice vx (xser ++ [zz]).length vy)) := hcl9
                have HAl : Hid ((xser ++ [zz]).length = nl + 1) := by show _ = _; have := HNl.out; simp; omega
                generalize xser ++ [zz] = yser at *
                obtain ⟨yl, hyl⟩ : ∃ y, y = yser.length := ⟨_, rfl⟩
                rw [← hyl] at HAp HAl ⊢
                have HYl : Hid (yl = yser.length) := hyl
                clear hown' hgrow hnil hown ho9 row9 hcl9 hyl
                refine HK.out _ _ ?_
                clear HK K
                (try simp only [Act.put, List.setIfInBounds_toArray, List.set_cons_zero, List.set_cons_succ])
                refine wpAny_take (i := 6) (oi := ⟨some 89, _, _, _, _, _⟩) (v := ?_) rfl (by kernel_rfl) (by kernel_rfl) (by kernel_rfl) (fun _ _ _ h => h) (Or.inl ⟨by kernel_rfl, ?_⟩) ?_
                rotate_left
                · (intro w; go_simp; try with_reducible rfl)
                (try simp only [Act.put, List.setIfInBounds_toArray, List.set_cons_zero, List.set_cons_succ])
                refine wpAny_ready (rs := [7]) (by kernel_rfl) (by simp) ?_
                refine (AllReady.cons (o := ⟨none, _, _, _, _, _⟩) rfl (fun K hK => ?_) AllReady.nil)
                have HK : Hid _ := hK
                clear hK
                go_simp
                refine HK.out _ _ ?_
                refine wpAny_done (by kernel_rfl) ?_ _
                go_wp2_with fail
                go_meet
                case rel => exact ⟨_, _, HAp.out⟩
              · skip
                have HK : Hid _ := hK
                clear hK
                go_simp
                refine (sk_n 9 (by omega) V0.out.ss).mono ?_
                rintro e' W21 ⟨rr, rfl, hr21, h21, hg21⟩
                have V21 : Hid (CL w a len cap w1 w2.heap.size W21 ⟨xiss, xfr, xtill, xser, xsk, xse, xss⟩ (.slice va nl vc)) := V0.out.keep (by omega) hlt1 h21 hg21
                obtain ⟨zz, hzz⟩ : ∃ y : Int, y = (rr : Int) := ⟨_, rfl⟩
                rw [← hzz]
                clear hzz
                refine HK.out _ _ ?_
                clear HK K h21 hg21 hr21
                (try simp only [Act.put, List.setIfInBounds_toArray, List.set_cons_zero, List.set_cons_succ])
                refine wpAny_ready (rs := [1, 4]) (by kernel_rfl) (by simp) ?_
                refine (AllReady.cons (o := ⟨some 84, _, _, _, _, _⟩) rfl (fun K hK => ?_) (AllReady.cons (o := ⟨some 87, _, _, _, _, _⟩) rfl (fun K hK => ?_) AllReady.nil))
                · skip
                  have HK : Hid _ := hK
                  clear hK
                  obtain ⟨f0, f1, f2, f3, f4, f5, f6⟩ := HQ.out _ V21.out.row
                  go_simp
                  refine HK.out _ _ ?_
                  clear HK K f0 f1 f2 f3 f4 f5 f6
                  (try simp only [Act.put, List.setIfInBounds_toArray, List.set_cons_zero, List.set_cons_succ])
                  refine wpAny_ready (rs := [4]) (by kernel_rfl) (by simp) ?_
                  refine (AllReady.cons (o := ⟨some 87, _, _, _, _, _⟩) rfl (fun K hK => ?_) AllReady.nil)
                  have HK : Hid _ := hK
                  clear hK
                  go_simp
                  have bb22 : Below W21.heap.size W21 (W21.alloc (.cells #[.int .i64 zz] 2 (0, 0))) := (Below.refl _ _).alloc (Nat.le_refl _) _
                  have V22 : Hid (CL w a len cap w1 w2.heap.size (W21.alloc (.cells #[.int .i64 zz] 2 (0, 0))) ⟨xiss, xfr, xtill, xser, xsk, xse, xss⟩ (.slice va nl vc)) := V21.out.below (by omega) hlt1 bb22
                  have rw22 : (W21.alloc (.cells #[.int .i64 zz] 2 (0, 0))).heap[W21.heap.size]? = some (.cells #[.int .i64 zz] 2 (0, 0)) := heap_alloc_new W21 _
                  have gz22 := V21.out.grows.size
                  refine HK.out _ _ ?_
                  clear HK K bb22
                  (try simp only [Act.put, List.setIfInBounds_toArray, List.set_cons_zero, List.set_cons_succ])
                  refine wpAny_ready (rs := [5]) (by kernel_rfl) (by simp) ?_
                  refine (AllReady.cons (o := ⟨some 88, _, _, _, _, _⟩) rfl (fun K hK => ?_) AllReady.nil)
                  have HK : Hid _ := hK
                  clear hK
                  have hown : (W21.alloc (.cells #[.int .i64 zz] 2 (0, 0))).ownsRow w1.heap.size 2 1 (.slice va nl vc) nl (lCells xser) := by
                    have h := V22.out.own
                    unfold OwnL at h
                    rw [← HNl.out] at h
                    exact h
                  refine step_append_any (by rfl) _ _ _ (by rfl) w1.heap.size 2 i0 (.int .i64 0) 1 8 Tryz.underlying28 hi0 hz0 hz1 hz2 rfl (by decide) (.slice va nl vc) nl (lCells xser) rfl hown ⟨W21.heap.size, 0, none⟩ 1 1 [.int .i64 zz] rfl rfl (news_one rw22) (by simp [Value.oneCell']) (by unfold maxLen; have := HLe.out; omega) (by have := HLe.out; omega) (by have := V22.out.grows.size; simp; omega) ?_
                  intro v' w9 hown' hgrow hnil
                  have ho9 : OwnL w9 w1.heap.size v' (xser ++ [zz]) := by
                    show World.ownsRow _ _ _ _ _ _ _
                    rw [List.length_append, lCells, List.map_append, show xser.length = nl from HNl.out.symm]
                    exact hown'
                  obtain ⟨row9, hcl9⟩ := V22.out.app (by omega) hlt1 hq1 ho9 hgrow (by have := HLe.out; have := HNl.out; show xser.length < 60; omega)
                  obtain ⟨vx, vy, hvx, _⟩ := ho9.form
                  subst hvx
                  have d3 := rowFacts row9 3 _ rfl
                  have g3 := rowFree row9 3
                  have HAp : Hid (CL w a len cap w1 w2.heap.size (w9.setCell ⟨w2.heap.size, 3, none⟩ (.slice vx (xser ++ [zz]).length vy)) ⟨xiss, xfr, xtill, xser ++ [zz], xsk, xse, xss⟩ (.slice vx (xser ++ [zz]).length vy)) := hcl9
                  have HAl : Hid ((xser ++ [zz]).length = nl + 1) := by show _ = _; have := HNl.out; simp; omega
                  generalize xser ++ [zz] = yser at *
                  obtain ⟨yl, hyl⟩ : ∃ y, y = yser.length := ⟨_, rfl⟩
                  rw [← hyl] at HAp HAl ⊢
                  have HYl : Hid (yl = yser.length) := hyl
                  clear hown' hgrow hnil hown ho9 row9 hcl9 hyl
                  refine HK.out _ _ ?_
                  clear HK K
                  (try simp only [Act.put, List.setIfInBounds_toArray, List.set_cons_zero, List.set_cons_succ])
                  refine wpAny_take (i := 6) (oi := ⟨some 89, _, _, _, _, _⟩) (v := ?_) rfl (by kernel_rfl) (by kernel_rfl) (by kernel_rfl) (fun _ _ _ h => h) (Or.inl ⟨by kernel_rfl, ?_⟩) ?_
                  rotate_left
                  · (intro w; go_simp; try with_reducible rfl)
                  (try simp only [Act.put, List.setIfInBounds_toArray, List.set_cons_zero, List.set_cons_succ])
                  refine wpAny_ready (rs := [7]) (by kernel_rfl) (by simp) ?_
                  refine (AllReady.cons (o := ⟨none, _, _, _, _, _⟩) rfl (fun K hK => ?_) AllReady.nil)
                  have HK : Hid _ := hK
                  clear hK
                  go_simp
                  refine HK.out _ _ ?_
                  refine wpAny_done (by kernel_rfl) ?_ _
                  go_wp2_with fail
                  go_meet
                  case rel => exact ⟨_, _, HAp.out⟩
                · skip
                  have HK : Hid _ := hK
                  clear hK
                  go_simp
                  have bb22 : Below W21.heap.size W21 (W21.alloc (.cells #[.int .i64 zz] 2 (0, 0))) := (Below.refl _ _).alloc (Nat.le_refl _) _
                  have V22 : Hid (CL w a len cap w1 w2.heap.size (W21.alloc (.cells #[.int .i64 zz] 2 (0, 0))) ⟨xiss, xfr, xtill, xser, xsk, xse, xss⟩ (.slice va nl vc)) := V21.out.below (by omega) hlt1 bb22
                  have rw22 : (W21.alloc (.cells #[.int .i64 zz] 2 (0, 0))).heap[W21.heap.size]? = some (.cells #[.int .i64 zz] 2 (0, 0)) := heap_alloc_new W21 _
                  have gz22 := V21.out.grows.size
                  refine HK.out _ _ ?_
                  clear HK K bb22
                  (try simp only [Act.put, List.setIfInBounds_toArray, List.set_cons_zero, List.set_cons_succ])
                  refine wpAny_ready (rs := [1]) (by kernel_rfl) (by simp) ?_
                  refine (AllReady.cons (o := ⟨some 84, _, _, _, _, _⟩) rfl (fun K hK => ?_) AllReady.nil)
                  have HK : Hid _ := hK
                  clear hK
                  obtain ⟨f0, f1, f2, f3, f4, f5, f6⟩ := HQ.out _ V22.out.row
                  go_simp
                  refine HK.out _ _ ?_
                  clear HK K f0 f1 f2 f3 f4 f5 f6
                  (try simp only [Act.put, List.setIfInBounds_toArray, List.set_cons_zero, List.set_cons_succ])
                  refine wpAny_ready (rs := [5]) (by kernel_rfl) (by simp) ?_
                  refine (AllReady.cons (o := ⟨some 88, _, _, _, _, _⟩) rfl (fun K hK => ?_) AllReady.nil)
                  have HK : Hid _ := hK
                  clear hK
                  have hown : (W21.alloc (.cells #[.int .i64 zz] 2 (0, 0))).ownsRow w1.heap.size 2 1 (.slice va nl vc) nl (lCells xser) := by
                    have h := V22.out.own
                    unfold OwnL at h
                    rw [← HNl.out] at h
                    exact h
                  refine step_append_any (by rfl) _ _ _ (by rfl) w1.heap.size 2 i0 (.int .i64 0) 1 8 Tryz.underlying28 hi0 hz0 hz1 hz2 rfl (by decide) (.slice va nl vc) nl (lCells xser) rfl hown ⟨W21.heap.size, 0, none⟩ 1 1 [.int .i64 zz] rfl rfl (news_one rw22) (by simp [Value.oneCell']) (by unfold maxLen; have := HLe.out; omega) (by have := HLe.out; omega) (by have := V22.out.grows.size; simp; omega) ?_
                  intro v' w9 hown' hgrow hnil
                  have ho9 : OwnL w9 w1.heap.size v' (xser ++ [zz]) := by
                    show World.ownsRow _ _ _ _ _ _ _
                    rw [List.length_append, lCells, List.map_append, show xser.length = nl from HNl.out.symm]
                    exact hown'
                  obtain ⟨row9, hcl9⟩ := V22.out.app (by omega) hlt1 hq1 ho9 hgrow (by have := HLe.out; have := HNl.out; show xser.length < 60; omega)
                  obtain ⟨vx, vy, hvx, _⟩ := ho9.form
                  subst hvx
                  have d3 := rowFacts row9 3 _ rfl
                  have g3 := rowFree row9 3
                  have HAp : Hid (CL w a len cap w1 w2.heap.size (w9.setCell ⟨w2.heap.size, 3, none⟩ (.slice vx (xser ++ [zz]).length vy)) ⟨xiss, xfr, xtill, xser ++ [zz], xsk, xse, xss⟩ (.slice vx (xser ++ [zz]).length vy)) := hcl9
                  have HAl : Hid ((xser ++ [zz]).length = nl + 1) := by show _ = _; have := HNl.out; simp; omega
                  generalize xser ++ [zz] = yser at *
                  obtain ⟨yl, hyl⟩ : ∃ y, y = yser.length := ⟨_, rfl⟩
                  rw [← hyl] at HAp HAl ⊢
                  have HYl : Hid (yl = yser.length) := hyl
                  clear hown' hgrow hnil hown ho9 row9 hcl9 hyl
                  refine HK.out _ _ ?_
                  clear HK K
                  (try simp only [Act.put, List.setIfInBounds_toArray, List.set_cons_zero, List.set_cons_succ])
                  refine wpAny_take (i := 6) (oi := ⟨some 89, _, _, _, _, _⟩) (v := ?_) rfl (by kernel_rfl) (by kernel_rfl) (by kernel_rfl) (fun _ _ _ h => h) (Or.inl ⟨by kernel_rfl, ?_⟩) ?_
                  rotate_left
                  · (intro w; go_simp; try with_reducible rfl)
                  (try simp only [Act.put, List.setIfInBounds_toArray, List.set_cons_zero, List.set_cons_succ])
                  refine wpAny_ready (rs := [7]) (by kernel_rfl) (by simp) ?_
                  refine (AllReady.cons (o := ⟨none, _, _, _, _, _⟩) rfl (fun K hK => ?_) AllReady.nil)
                  have HK : Hid _ := hK
                  clear hK
                  go_simp
                  refine HK.out _ _ ?_
                  refine wpAny_done (by kernel_rfl) ?_ _
                  go_wp2_with fail
                  go_meet
                  case rel => exact ⟨_, _, HAp.out⟩
            · have d6 := rowFacts r13 6 _ rfl
              have g6 := rowFree r13 6
              obtain ⟨u, hu, huw⟩ : ∃ n : Int, inW n ∧ IntKind.i64.wrap (xss + 1) = n := ⟨_, by unfold inW; rw [IntKind.wrap_i64]; omega, rfl⟩
              clear r13
              have m := V13.out.may
              go_wp2_with fail
              go_meet
              case rel => exact ⟨_, _, V13.out.set (by omega) hq1 6 (.int .i64 u) ⟨xiss, xfr, xtill, xser, xsk, xse, u⟩ rfl rfl ⟨m.iss, m.len, m.fr, m.till, m.sk, m.se, hu⟩⟩
            · have d3 := rowFacts r13 3 _ rfl
              have g3 := rowFree r13 3
              have VZ : Hid (CL w a len cap w1 w2.heap.size (w13.setCell ⟨w2.heap.size, 3, none⟩ (.slice none 0 0)) ⟨xiss, xfr, xtill, [], xsk, xse, xss⟩ (.slice none 0 0)) := V13.out.clear (by omega) hq1
              obtain ⟨w14, hw14⟩ : ∃ y, y = w13.setCell ⟨w2.heap.size, 3, none⟩ (.slice none 0 0) := ⟨_, rfl⟩
              rw [← hw14] at VZ
              clear r13
              go_upto_region 15 with fail
              rw [← hw14]
              clear hw14 d3 g3 V13 HQ HNl HLe
              go_wp2_with fail
              refine (sk_n 3 (by omega) VZ.out.ss).mono ?_
              rintro e' w15 ⟨r8, rfl, hr8, h15, hg15⟩
              have V15 : Hid (CL w a len cap w1 w2.heap.size w15 ⟨xiss, xfr, xtill, [], xsk, xse, xss⟩ (.slice none 0 0)) := VZ.out.keep (by omega) hlt1 h15 hg15
              obtain ⟨i8, hi8, hi8w⟩ : ∃ n : Nat, n ≤ 41 ∧ IntKind.i64.wrap (39 + (r8 : Int)) = (n : Int) := ⟨39 + r8, by omega, by rw [IntKind.wrap_i64]; omega⟩
              clear h15 hg15 VZ hr8
              go_wp2_with fail
              go_loopw [7] (fun q wx => ∃ (j : Nat) (c : Lst) (v : Value), q = .int .i64 (j : Int) ∧ j ≤ 41 ∧ c.serials.length + j ≤ 41 ∧ CL w a len cap w1 w2.heap.size wx c v)
                (fun q _ => (intOf q).toNat)
              case atStart => exact ⟨i8, _, _, rfl, hi8, by simpa using hi8, V15.out⟩
              case round =>
                clear V15 hi8w
                obtain ⟨j, c, v, rfl, hj, hlj, hcl⟩ := hrel
                obtain ⟨va, vc, hvv, _⟩ := hcl.own.form
                subst hvv
                obtain ⟨xiss, xfr, xtill, xser, xsk, xse, xss⟩ := c
                obtain ⟨nl, hnl⟩ : ∃ n, n = xser.length := ⟨_, rfl⟩
                have HNl : Hid (nl = xser.length) := hnl
                have HQ : Hid (∀ V : World, V.heap[w2.heap.size]? = some (.cells ([Value.string xiss, .int .i64 xfr, .int .i64 xtill, .slice va nl vc, .int .i64 xsk, .int .i64 xse, .int .i64 xss] : List Value).toArray 30 (0, 0)) → (V.cell? ⟨w2.heap.size, 0, none⟩ = some (.string xiss) ∧ V.cell? ⟨w2.heap.size, 1, none⟩ = some (.int .i64 xfr) ∧ V.cell? ⟨w2.heap.size, 2, none⟩ = some (.int .i64 xtill) ∧ V.cell? ⟨w2.heap.size, 3, none⟩ = some (.slice va nl vc) ∧ V.cell? ⟨w2.heap.size, 4, none⟩ = some (.int .i64 xsk) ∧ V.cell? ⟨w2.heap.size, 5, none⟩ = some (.int .i64 xse) ∧ V.cell? ⟨w2.heap.size, 6, none⟩ = some (.int .i64 xss))) := fun V hP => ⟨rowFacts hP 0 _ rfl, rowFacts hP 1 _ rfl, rowFacts hP 2 _ rfl, rowFacts hP 3 _ rfl, rowFacts hP 4 _ rfl, rowFacts hP 5 _ rfl, rowFacts hP 6 _ rfl⟩
                have VR : Hid (CL w a len cap w1 w2.heap.size wr ⟨xiss, xfr, xtill, xser, xsk, xse, xss⟩ (.slice va nl vc)) := by rw [hnl]; exact hcl
                have hlj' : nl + j ≤ 41 := by rw [hnl]; exact hlj
                have HLe : Hid (nl ≤ 41) := by show _ ≤ _; omega
                clear hcl hlj hnl
                by_cases hj0 : 0 < j
                · obtain ⟨f0, f1, f2, f3, f4, f5, f6⟩ := HQ.out _ VR.out.row
                  have e1 : IntKind.i64.wrap ((nl : Int) + 1) = (nl : Int) + 1 := by rw [IntKind.wrap_i64]; omega
                  obtain ⟨zz, hzz⟩ : ∃ z : Int, IntKind.i64.wrap ((nl : Int) + 1) = z := ⟨_, rfl⟩
                  rw [e1] at hzz
                  rw [hzz] at e1
                  have VA : Hid (CL w a len cap w1 w2.heap.size (wr.alloc (.cells #[.int .i64 zz] 2 (0, 0))) ⟨xiss, xfr, xtill, xser, xsk, xse, xss⟩ (.slice va nl vc)) := VR.out.below (by omega) hlt1 ((Below.refl _ _).alloc (Nat.le_refl _) _)
                  have hown : (wr.alloc (.cells #[.int .i64 zz] 2 (0, 0))).ownsRow w1.heap.size 2 1 (.slice va nl vc) nl (lCells xser) := by
                    have h := VA.out.own
                    unfold OwnL at h
                    rw [← HNl.out] at h
                    exact h
                  have hnews := news_one (heap_alloc_new wr (.cells #[.int .i64 zz] 2 (0, 0)))
                  have gzr := VR.out.grows.size
                  go_wp2_with (at_builtin; refine wpList_append_own _ rfl _ _ 28 rfl w1.heap.size 2 i0 (.int .i64 0) 1 8 Tryz.underlying28 hi0 hz0 hz1 hz2 rfl (by decide) _ _ _ rfl hown ⟨wr.heap.size, 0, none⟩ 1 1 [.int .i64 zz] rfl ?c0 hnews ?c2 ?c3 ?c4 ?c5 ?_)
                  case c2 => simp [Value.oneCell']
                  case c3 => unfold maxLen; omega
                  case c4 => omega
                  case c5 => first | omega | (simp; omega)
                  intro v' w9 hown' hgrow hnil
                  have ho9 : OwnL w9 w1.heap.size v' (xser ++ [zz]) := by
                    show World.ownsRow _ _ _ _ _ _ _
                    rw [List.length_append, lCells, List.map_append, show xser.length = nl from HNl.out.symm]
                    exact hown'
                  obtain ⟨row9, hcl9⟩ := VA.out.app (by omega) hlt1 hq1 ho9 hgrow (by have := HLe.out; have := HNl.out; show xser.length < 60; omega)
                  obtain ⟨vx, vy, hvx, _⟩ := ho9.form
                  subst hvx
                  have d3 := rowFacts row9 3 _ rfl
                  have g3 := rowFree row9 3
                  have HAp : Hid (CL w a len cap w1 w2.heap.size (w9.setCell ⟨w2.heap.size, 3, none⟩ (.slice vx (xser ++ [zz]).length vy)) ⟨xiss, xfr, xtill, xser ++ [zz], xsk, xse, xss⟩ (.slice vx (xser ++ [zz]).length vy)) := hcl9
                  have HAl : Hid ((xser ++ [zz]).length = nl + 1) := by show _ = _; have := HNl.out; simp; omega
                  generalize xser ++ [zz] = yser at *
                  obtain ⟨yl, hyl⟩ : ∃ y, y = yser.length := ⟨_, rfl⟩
                  rw [← hyl] at HAp HAl ⊢
                  have HYl : Hid (yl = yser.length) := hyl
                  clear hown' hgrow hnil hown ho9 row9 hcl9 hyl hnews f0 f1 f2 f3 f4 f5 f6 VA VR
                  go_wp2_with fail
                  go_roundw
                  case rel => exact ⟨j - 1, _, _, by simp; omega, by omega, by show yser.length + (j - 1) ≤ 41; have := HAl.out; have := HYl.out; omega, HAp.out⟩
                  case measure => simp [intOf]; omega
                · have hj1 : j = 0 := by omega
                  subst hj1
                  go_wp2_with fail
                  go_meet
                  case rel => exact ⟨_, _, VR.out⟩
        case rest =>
          clear HQ HNl HLe VB
          obtain ⟨c, v, hcl⟩ := hcut
          obtain ⟨va, vc, hvv, _⟩ := hcl.own.form
          subst hvv
          obtain ⟨xiss, xfr, xtill, xser, xsk, xse, xss⟩ := c
          obtain ⟨nl, hnl⟩ : ∃ n, n = xser.length := ⟨_, rfl⟩
          have HNl : Hid (nl = xser.length) := hnl
          have HQ : Hid (∀ V : World, V.heap[w2.heap.size]? = some (.cells ([Value.string xiss, .int .i64 xfr, .int .i64 xtill, .slice va nl vc, .int .i64 xsk, .int .i64 xse, .int .i64 xss] : List Value).toArray 30 (0, 0)) → (V.cell? ⟨w2.heap.size, 0, none⟩ = some (.string xiss) ∧ V.cell? ⟨w2.heap.size, 1, none⟩ = some (.int .i64 xfr) ∧ V.cell? ⟨w2.heap.size, 2, none⟩ = some (.int .i64 xtill) ∧ V.cell? ⟨w2.heap.size, 3, none⟩ = some (.slice va nl vc) ∧ V.cell? ⟨w2.heap.size, 4, none⟩ = some (.int .i64 xsk) ∧ V.cell? ⟨w2.heap.size, 5, none⟩ = some (.int .i64 xse) ∧ V.cell? ⟨w2.heap.size, 6, none⟩ = some (.int .i64 xss))) := fun V hP => ⟨rowFacts hP 0 _ rfl, rowFacts hP 1 _ rfl, rowFacts hP 2 _ rfl, rowFacts hP 3 _ rfl, rowFacts hP 4 _ rfl, rowFacts hP 5 _ rfl, rowFacts hP 6 _ rfl⟩
          have VC : Hid (CL w a len cap w1 w2.heap.size wc ⟨xiss, xfr, xtill, xser, xsk, xse, xss⟩ (.slice va nl vc)) := by rw [hnl]; exact hcl
          clear hcl hnl
          have rz : wc.heap[W.heap.size]? = some (.cells [Value.string ⟨#[]⟩, .int .i64 0, .int .i64 0, .slice none 0 0, .int .i64 0, .int .i64 0, .int .i64 0].toArray 30 (0, 0)) := by rw [VC.out.grows.keepBlock (heap_lt Z1.out) (by omega)]; exact Z1.out
          have hr := rangeRow (show wc.heap[w2.heap.size]? = some (.cells [Value.string xiss, .int .i64 xfr, .int .i64 xtill, .slice va nl vc, .int .i64 xsk, .int .i64 xse, .int .i64 xss].toArray 30 (0, 0)) from VC.out.row)
          have h1c : ∀ u ∈ [Value.string xiss, .int .i64 xfr, .int .i64 xtill, .slice va nl vc, .int .i64 xsk, .int .i64 xse, .int .i64 xss], u.oneCell' = true := by simp [Value.oneCell']
          go_wp2_with (first | (refine wpList_load_mid rfl 30 _ rfl w2.heap.size 0 rfl [Value.string xiss, .int .i64 xfr, .int .i64 xtill, .slice va nl vc, .int .i64 xsk, .int .i64 xse, .int .i64 xss] _ hr Tryz.underlying30 rfl sizeCrl ?_) | (refine wpList_store_row rfl 30 _ _ rfl W.heap.size [Value.string ⟨#[]⟩, .int .i64 0, .int .i64 0, .slice none 0 0, .int .i64 0, .int .i64 0, .int .i64 0] [Value.string xiss, .int .i64 xfr, .int .i64 xtill, .slice va nl vc, .int .i64 xsk, .int .i64 xse, .int .i64 xss] 30 rfl rfl rz rfl sizeCrl h1c ?_))
          intro w18 hrow18 ho18 hs18 hbb18
          have hg18 := grown_row ho18 hbb18
          have hl3 := run_loadVar_mid (P := Tryz.prog) _ W.heap.size 0 30 _ _ (rangeRow hrow18) Tryz.underlying30 rfl sizeCrl
          have HFIN : Hid (OwnL w18 W.heap.size (.slice va nl vc) xser ∧ LMay ⟨xiss, xfr, xtill, xser, xsk, xse, xss⟩ ∧ SS w a len cap w18 ∧ Grows w.heap.size W w18) :=
            ⟨(VC.out.own.rowOff hg18 (fun e => by have := (VC.out.own.ge e).1; have := HZ1.out; omega)).mono (by have := HZ1.out; omega), VC.out.may, VC.out.ss.row hg18 hlt, (G1.out.trans VC.out.grows).row hg18 (Nat.le_refl _)⟩
          clear ho18 hs18 hbb18 hg18 hr rz h1c VC
          go_wp2
          refine bodyPost_ret (v := .agg [Value.string xiss, .int .i64 xfr, .int .i64 xtill, .slice va nl vc, .int .i64 xsk, .int .i64 xse, .int .i64 xss].toArray) ?_ rfl ⟨⟨xiss, xfr, xtill, xser, xsk, xse, xss⟩, .slice va nl vc, rfl, HFIN.out⟩
          simp [results, Tryz.results17, asAddr, hl3]
end Go.Proofs.YtegmmaomaegjjaaGreatDoor
