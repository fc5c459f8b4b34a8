/- '.l06Cert', walked: a paper as the draws make it. -/
import Derived.Test.YtegmmaomaegjjaaGreatDoorPT02
import Derived.Test.YtegmmaomaegjjaaGreatDoorPT10
import Derived.Test.YtegmmaomaegjjaaGreatDoorPT09
import Derived.Test.YtegmmaomaegjjaaGreatDoorPT05
import Derived.Deep.Cut
import Derived.Deep.RegionHeld3
import Derived.Deep.RegionLaw
import Derived.RegionTactic
import Derived.Deep.MidRow
namespace Go.Proofs.YtegmmaomaegjjaaGreatDoor
open Go.RowKit

set_option maxRecDepth 100000 in
set_option maxHeartbeats 8000000 in
theorem sk_cert {w W : World} {a : Option Addr} {len cap : Nat} (h : SS w a len cap W) :
    Calls Tryz.prog 16 #[.pointer (some ⟨w.heap.size, 0, none⟩)] W fun e w' => ∃ (c : Paper) (v : Value), e = .returned (c.val v) ∧ OwnS w' W.heap.size v c.names ∧ PMay c ∧ (v = .slice none 0 0 → c.issuer.size = 0) ∧ SS w a len cap w' ∧ Grows w.heap.size W w' := by
  obtain ⟨i0, hi0, hz0, hz1, hz2⟩ := info_parts infoText
  have hlt := h.2.2.1
  obtain ⟨w1, hw1⟩ : ∃ y, y = W.alloc (.cells [Value.int .i64 0, .string ⟨#[]⟩, .string ⟨#[]⟩, .int .i64 0, .int .i64 0, .int .i64 0, .slice none 0 0, .bool false, .int .i64 0, .int .i64 0, .int .i64 0].toArray 27 (0, 0)) := ⟨_, rfl⟩
  have b1 : Below W.heap.size W w1 := by rw [hw1]; exact (Below.refl _ _).alloc (Nat.le_refl _) _
  have S1 : Hid (SS w a len cap w1) := h.keep b1
  have G1 : Hid (Grows w.heap.size W w1) := below_grows b1
  have Z1 : Hid (w1.heap[W.heap.size]? = some (.cells [Value.int .i64 0, .string ⟨#[]⟩, .string ⟨#[]⟩, .int .i64 0, .int .i64 0, .int .i64 0, .slice none 0 0, .bool false, .int .i64 0, .int .i64 0, .int .i64 0].toArray 27 (0, 0))) := by rw [hw1]; exact heap_alloc_new W _
  have HZ1 : Hid (w1.heap.size = W.heap.size + 1) := by rw [hw1]; show _ = _; simp
  have hlt1 : w.heap.size < w1.heap.size := S1.out.2.2.1
  clear h b1
  go_enter Tryz.func16, Tryz.ntmps16
  go_upto_region 1 with fail
  rw [← hw1]
  clear hw1
  go_wp2_with fail
  refine (sk_n 2 (by omega) (S1.out.alloc _)).mono ?_
  rintro e w2 ⟨r, rfl, hr, h2, hg2⟩
  have hrow : w2.heap[w1.heap.size]? = some (.cells #[.int .i64 5, .int .i64 77] 2 (0, 0)) := by
    rw [hg2.keepBlock (by simp) (by omega), heap_alloc_new]
  have hcell := cell_of_row w2 w1.heap.size r _ _ (0, 0) hrow
  have hr2 : r < 2 := by omega
  obtain ⟨x, hx, huc⟩ : ∃ x : Int, inW x ∧ w2.cell? ⟨w1.heap.size, r, none⟩ = some (.int .i64 x) := by
    rw [hcell]
    have hq : r = 0 ∨ r = 1 := by omega
    rcases hq with rfl | rfl
    · exact ⟨5, by decide, rfl⟩
    · exact ⟨77, by decide, rfl⟩
  have q2 : (r : Int) < 2 := by omega
  have S2 : Hid (SS w a len cap w2) := h2
  have G2 : Hid (Grows w.heap.size w1 w2) := ((Grows.refl _ w1).alloc _).trans hg2
  clear hrow hcell h2 hg2 hr S1
  go_wp2_with fail
  refine (sk_n 300 (by omega) S2.out).mono ?_
  rintro e w3 ⟨r1, rfl, hr1, h3, hg3⟩
  have S3 : Hid (SS w a len cap w3) := h3
  have G3 : Hid (Grows w.heap.size w1 w3) := G2.out.trans hg3
  obtain ⟨ser, hser, hserw⟩ : ∃ n : Int, inW n ∧ IntKind.i64.wrap (1 + (r1 : Int)) = n := ⟨_, by unfold inW; rw [IntKind.wrap_i64]; omega, rfl⟩
  clear h3 hg3 hr1 S2 G2 huc
  go_wp2_with fail
  refine (sk_pick 3 _ 10 _ [⟨#[114, 111, 111, 116]⟩, ⟨#[114, 111, 111, 116]⟩, ⟨#[111, 116, 104, 101, 114]⟩] S3.out rfl (by omega) (by omega) (by decide)).mono ?_
  rintro e w4 ⟨⟨iss, hiss, rfl⟩, h4, hg4⟩
  have S4 : Hid (SS w a len cap w4) := h4
  have G4 : Hid (Grows w.heap.size w1 w4) := G3.out.trans hg4
  clear h4 hg4 S3 G3
  go_wp2_with fail
  refine (sk_pick 3 _ 10 _ [⟨#[114, 111, 111, 116]⟩, ⟨#[97, 110, 110]⟩, ⟨#[98, 111, 98]⟩] S4.out rfl (by omega) (by omega) (by decide)).mono ?_
  rintro e w5 ⟨⟨sub, hsub, rfl⟩, h5, hg5⟩
  have S5 : Hid (SS w a len cap w5) := h5
  have G5 : Hid (Grows w.heap.size w1 w5) := G4.out.trans hg5
  clear h5 hg5 S4 G4
  go_wp2_with fail
  refine (sk_n 40 (by omega) S5.out).mono ?_
  rintro e w6 ⟨fr0, rfl, hfr, h6, hg6⟩
  have S6 : Hid (SS w a len cap w6) := h6
  have G6 : Hid (Grows w.heap.size w1 w6) := G5.out.trans hg6
  obtain ⟨fr, hfr2, hfre⟩ : ∃ n : Int, (0 ≤ n ∧ n ≤ 40) ∧ (fr0 : Int) = n := ⟨_, by omega, rfl⟩
  clear h6 hg6 hfr S5 G5
  rw [hfre]
  clear hfre
  go_wp2_with fail
  refine (sk_n 3 (by omega) S6.out).mono ?_
  rintro e w7 ⟨r3, rfl, hr3, h7, hg7⟩
  have S7 : Hid (SS w a len cap w7) := h7
  have G7 : Hid (Grows w.heap.size w1 w7) := G6.out.trans hg7
  obtain ⟨ks, hks, hksw⟩ : ∃ n : Int, inW n ∧ IntKind.i64.wrap (5 + (r3 : Int)) = n := ⟨_, by unfold inW; rw [IntKind.wrap_i64]; omega, rfl⟩
  clear h7 hg7 hr3 S6 G6
  go_wp2_with fail
  refine (specPublic ks w7).mono ?_
  rintro e w7' ⟨rfl, rfl⟩
  have hkey := pubA_in ks
  generalize pubA ks = key at *
  go_wp2_with fail
  refine (sk_names S7.out).mono ?_
  rintro e w8 ⟨g, gc, names, rfl, ho8, hl8, hs8, h8, hg8⟩
  have S8 : Hid (SS w a len cap w8) := h8
  have G8 : Hid (Grows w.heap.size w1 w8) := G7.out.trans hg8
  have O8 : Hid (OwnS w8 w1.heap.size (.slice (some ⟨g, 0, none⟩) names.length gc) names) := ho8.mono G7.out.size
  have T8 : Hid (∀ t ∈ names, t.size ≤ 6) := hs8
  clear h8 hg8 ho8 hs8 S7 G7
  go_wp2_with fail
  refine (sk_one 3 (by omega) S8.out).mono ?_
  rintro e w9 ⟨⟨ca, rfl⟩, h9, hg9⟩
  have hO9 := O8.out.grow hg9 (by omega)
  have O9 : Hid (OwnS w9 w1.heap.size (.slice (some ⟨g, 0, none⟩) names.length gc) names) := hO9
  have hgb := hO9.ge (g := g) rfl
  have G9 : Hid (Grows w.heap.size w1 w9) := G8.out.trans hg9
  obtain ⟨nl, hnl⟩ : ∃ n, n = names.length := ⟨_, rfl⟩
  rw [← hnl]
  have HNl : Hid (nl = names.length) := hnl
  obtain ⟨w10, hw10⟩ : ∃ y, y = w9.alloc (.cells [Value.int .i64 ser, .string iss, .string sub, .int .i64 fr, .int .i64 0, .int .i64 key, .slice (some ⟨g, 0, none⟩) nl gc, .bool ca, .int .i64 0, .int .i64 0, .int .i64 0].toArray 27 (0, 0)) := ⟨_, rfl⟩
  have b10 : Below w9.heap.size w9 w10 := by rw [hw10]; exact (Below.refl _ _).alloc (Nat.le_refl _) _
  have r10 : w10.heap[w9.heap.size]? = some (.cells [Value.int .i64 ser, .string iss, .string sub, .int .i64 fr, .int .i64 0, .int .i64 key, .slice (some ⟨g, 0, none⟩) nl gc, .bool ca, .int .i64 0, .int .i64 0, .int .i64 0].toArray 27 (0, 0)) := by rw [hw10]; exact heap_alloc_new w9 _
  have S10 : Hid (SS w a len cap w10) := h9.keep b10
  have G10 : Hid (Grows w.heap.size w1 w10) := G9.out.trans (below_grows b10)
  have O10 : Hid (OwnS w10 w1.heap.size (.slice (some ⟨g, 0, none⟩) nl gc) names) := by rw [hnl]; exact hO9.keep b10
  have R10 : Hid _ := r10
  have hq9 : w1.heap.size ≤ w9.heap.size := G9.out.size
  clear h9 hg9 hO9 O9 b10 S8 G8 O8 G9 hnl
  go_upto_region 3 with fail
  rw [← hw10]
  clear hw10 hserw hksw
  have hSD : SS w a len cap w10.drew := S10.out.keep ((Below.refl _ _).drew)
  have hGD : Grows w.heap.size w1 w10.drew := G10.out.drew
  have HK3 : Hid (∀ V, Grows w.heap.size w10.drew V → V.heap[w9.heap.size]? = some (.cells [Value.int .i64 ser, .string iss, .string sub, .int .i64 fr, .int .i64 0, .int .i64 key, .slice (some ⟨g, 0, none⟩) nl gc, .bool ca, .int .i64 0, .int .i64 0, .int .i64 0].toArray 27 (0, 0))) := fun V hV => by
    rw [hV.keepBlock (heap_lt (w := w10) R10.out) (by omega)]; exact R10.out
  have HO3 : Hid (∀ V, Grows w.heap.size w10.drew V → OwnS V w1.heap.size (.slice (some ⟨g, 0, none⟩) nl gc) names) := fun V hV => OwnS.grow (O10.out.keep ((Below.refl _ _).drew)) hV hlt1
  clear r10 O10
  refine wp_region_held_drew (S := fun V => V.cell? ⟨w9.heap.size, 3, none⟩ = some (.int .i64 fr)) (by kernel_rfl) ?_ (fun hHeld => ?_)
  · exact rowFacts (HK3.out _ (Grows.refl _ _)) 3 _ rfl
  refine wpAnyH_take (i := 0) (oi := ⟨some 30, _, _, _, _, _⟩) (v := ?_) rfl (by kernel_rfl) (by kernel_rfl) (by kernel_rfl) (fun _ _ _ h => h) (Or.inl ⟨by kernel_rfl, ?_⟩) (by assumption) ?_
  rotate_left
  · (intro w hSw; (try dsimp only at hSw); go_simp; try with_reducible rfl)
  (try simp only [Act.put, List.setIfInBounds_toArray, List.set_cons_zero, List.set_cons_succ])
  refine wpAnyH_take (i := 1) (oi := ⟨some 31, _, _, _, _, _⟩) (v := ?_) rfl (by kernel_rfl) (by kernel_rfl) (by kernel_rfl) (fun _ _ _ h => h) (Or.inl ⟨by kernel_rfl, ?_⟩) (by assumption) ?_
  rotate_left
  · (intro w hSw; (try dsimp only at hSw); go_simp; try with_reducible rfl)
  (try simp only [Act.put, List.setIfInBounds_toArray, List.set_cons_zero, List.set_cons_succ])
  refine wpAnyH_take (i := 2) (oi := ⟨some 32, _, _, _, _, _⟩) (v := ?_) rfl (by kernel_rfl) (by kernel_rfl) (by kernel_rfl) (fun _ _ _ h => h) (Or.inl ⟨by kernel_rfl, ?_⟩) (by assumption) ?_
  rotate_left
  · (intro w hSw; (try dsimp only at hSw); go_simp; try with_reducible rfl)
  (try simp only [Act.put, List.setIfInBounds_toArray, List.set_cons_zero, List.set_cons_succ])
  refine wpAnyH_ready (rs := [3]) (by kernel_rfl) (by simp) ?_
  refine AllReadyH.cons (o := ⟨some 33, _, _, _, _, _⟩) rfl (fun K hK => ?_) AllReadyH.nil
  go_simp
  refine (sk_n 200 (by omega) hSD).mono ?_
  rintro e w11 ⟨r4, rfl, hr4, h11, hg11⟩
  have hr11 := HK3.out _ hg11
  refine hK.out _ _ ?_ (fun hHeld => ?_)
  · exact rowFacts hr11 3 _ rfl
  clear hK K
  obtain ⟨till, htill, htillw⟩ : ∃ n : Int, inW n ∧ IntKind.i64.wrap (fr + (r4 : Int)) = n := ⟨_, by unfold inW; rw [IntKind.wrap_i64]; omega, rfl⟩
  have S11 : Hid (SS w a len cap w11) := h11
  have G11 : Hid (Grows w.heap.size w1 w11) := hGD.trans hg11
  have O11 : Hid (OwnS w11 w1.heap.size (.slice (some ⟨g, 0, none⟩) nl gc) names) := HO3.out _ hg11
  have R11 : Hid (w11.heap[w9.heap.size]? = some (.cells [Value.int .i64 ser, .string iss, .string sub, .int .i64 fr, .int .i64 0, .int .i64 key, .slice (some ⟨g, 0, none⟩) nl gc, .bool ca, .int .i64 0, .int .i64 0, .int .i64 0].toArray 27 (0, 0))) := hr11
  have c4 := rowFacts hr11 4 _ rfl
  have f4 := rowFree hr11 4
  clear hSD hGD HK3 HO3 S10 G10 R10 hr11 h11 hg11 hr4
  refine wpAnyH_take (i := 4) (oi := ⟨some 34, _, _, _, _, _⟩) (v := ?_) rfl (by kernel_rfl) (by kernel_rfl) (by kernel_rfl) (fun _ _ _ h => h) (Or.inl ⟨by kernel_rfl, ?_⟩) (by assumption) ?_
  rotate_left
  · (intro w hSw; (try dsimp only at hSw); go_simp; try with_reducible rfl)
  (try simp only [Act.put, List.setIfInBounds_toArray, List.set_cons_zero, List.set_cons_succ])
  refine wpAnyH_take (i := 5) (oi := ⟨some 35, _, _, _, _, _⟩) (v := ?_) rfl (by kernel_rfl) (by kernel_rfl) (by kernel_rfl) (fun _ _ _ h => h) (Or.inl ⟨by kernel_rfl, ?_⟩) (by assumption) ?_
  rotate_left
  · (intro w hSw; (try dsimp only at hSw); go_simp; try with_reducible rfl)
  (try simp only [Act.put, List.setIfInBounds_toArray, List.set_cons_zero, List.set_cons_succ])
  refine wpAnyH_ready (rs := [6]) (by kernel_rfl) (by simp) ?_
  refine AllReadyH.cons (o := ⟨none, _, _, _, _, _⟩) rfl (fun K hK => ?_) AllReadyH.nil
  go_simp
  have r12 : (w11.setCell ⟨w9.heap.size, 4, none⟩ (.int .i64 till)).heap[w9.heap.size]? = some (.cells [Value.int .i64 ser, .string iss, .string sub, .int .i64 fr, .int .i64 till, .int .i64 key, .slice (some ⟨g, 0, none⟩) nl gc, .bool ca, .int .i64 0, .int .i64 0, .int .i64 0].toArray 27 (0, 0)) := rowSet (i := 4) _ R11.out
  refine hK.out _ _ ?_ (fun _ => ?_)
  · exact rowFacts r12 3 _ rfl
  clear hK K
  refine wpAnyH_done (by kernel_rfl) ?_ _
  have hg12 := grown_cell w11 w9.heap.size 4 (.int .i64 till)
  obtain ⟨w12, hw12⟩ : ∃ y, y = w11.setCell ⟨w9.heap.size, 4, none⟩ (.int .i64 till) := ⟨_, rfl⟩
  rw [← hw12] at r12 hg12 ⊢
  have S12 : Hid (SS w a len cap w12) := S11.out.row hg12 (by omega)
  have G12 : Hid (Grows w.heap.size w1 w12) := G11.out.row hg12 hq9
  have O12 : Hid (OwnS w12 w1.heap.size (.slice (some ⟨g, 0, none⟩) nl gc) names) := O11.out.rowOff hg12 (by simp [Value.ownBlock]; omega)
  have hm0 : PMay ⟨ser, iss, sub, fr, till, key, names, ca, 0, 0, 0⟩ := ⟨hiss, hsub, by show names.length ≤ 5; omega, T8.out, hser, by show inW fr; unfold inW; omega, htill, hkey, zero_inW, zero_inW, zero_inW⟩
  obtain ⟨k, e, s, hsv, hk', he', hs'⟩ := signV_may x (bodyD ⟨ser, iss, sub, fr, till, key, names, ca, 0, 0, 0⟩)
  have hmR := sign_may (x := x) hm0 hk' he' hs'
  have hcc : ∀ i, i < names.length → w12.cell? ⟨g, 0 + i, none⟩ = some (.string (tAt names i)) := by
    have o := O12.out
    rw [HNl.out] at o
    obtain ⟨g', c', e', _, _, h'⟩ := own_addr o (by simp)
    simp only [Value.slice.injEq, Option.some.injEq, Addr.mk.injEq] at e'
    rw [← e'.1.1] at h'
    exact h'
  have hsg := specSignG x ⟨ser, iss, sub, fr, till, key, names, ca, 0, 0, 0⟩ (some ⟨g, 0, none⟩) gc k e s w12 (by show iss.size ≤ maxLen; unfold maxLen; omega) (by show sub.size ≤ maxLen; unfold maxLen; omega) (by show names.length ≤ 1048576; omega) (by have := hm0.tot; omega) (.inr ⟨g, 0, rfl, hcc⟩)
    (fun _ => ⟨g, 0, rfl, by have := heap_lt r12; have := O12.out.ge (g := g) rfl; omega, hcc⟩) (fun _ _ => hsv)
  have HZP : Hid (signP x ⟨ser, iss, sub, fr, till, key, names, ca, 0, 0, 0⟩ k e s = zeroP → (signP x ⟨ser, iss, sub, fr, till, key, names, ca, 0, 0, 0⟩ k e s).issuer.size = 0) := fun h => by rw [h]; rfl
  rw [show (⟨ser, iss, sub, fr, till, key, names, ca, 0, 0, 0⟩ : Paper).names.length = nl from HNl.out.symm] at hsg
  have HL4 : Hid ((signP x ⟨ser, iss, sub, fr, till, key, names, ca, 0, 0, 0⟩ k e s).names.length ≤ 4) := Nat.le_trans (signP_len _ _ _ _ _) hl8
  generalize signP x ⟨ser, iss, sub, fr, till, key, names, ca, 0, 0, 0⟩ k e s = R at *
  have HSg : Hid (Calls Tryz.prog 19 #[.int .i64 x, .agg [Value.int .i64 ser, .string iss, .string sub, .int .i64 fr, .int .i64 till, .int .i64 key, .slice (some ⟨g, 0, none⟩) nl gc, .bool ca, .int .i64 0, .int .i64 0, .int .i64 0].toArray] w12 fun r w' => ∃ v, r = .returned (R.val v) ∧ OwnS w' w12.heap.size v R.names ∧ Below w12.heap.size w12 w' ∧ (v = .slice none 0 0 → R = zeroP)) := hsg
  have HMR : Hid (PMay R) := hmR
  obtain ⟨rser, riss, rsub, rfr, rtill, rkey, rnames, rca, rsk, rse, rss⟩ := R
  unfold Paper.val at HSg
  simp only at HSg HZP HL4
  have hr := rangeRow r12
  have R12 : Hid _ := r12
  clear hsg hcc hm0 hmR hsv hk' he' hs' r12 hg12 hw12 S11 G11 O11 R11
  go_wp2_with (refine wpList_load_mid rfl 27 _ rfl w9.heap.size 0 rfl [Value.int .i64 ser, .string iss, .string sub, .int .i64 fr, .int .i64 till, .int .i64 key, .slice (some ⟨g, 0, none⟩) nl gc, .bool ca, .int .i64 0, .int .i64 0, .int .i64 0] _ hr Tryz.underlying27 rfl sizeCert ?_)
  refine HSg.out.mono ?_
  rintro e' w13 ⟨v, rfl, o13, b13, hvn⟩
  obtain ⟨va, vc, rfl, _⟩ := o13.form
  obtain ⟨rl, hrl⟩ : ∃ n, n = rnames.length := ⟨_, rfl⟩
  rw [← hrl] at o13 hvn ⊢
  clear hrl
  have hR13 : w13.heap[w9.heap.size]? = some (.cells [Value.int .i64 ser, .string iss, .string sub, .int .i64 fr, .int .i64 till, .int .i64 key, .slice (some ⟨g, 0, none⟩) nl gc, .bool ca, .int .i64 0, .int .i64 0, .int .i64 0].toArray 27 (0, 0)) := by rw [b13.block _ (heap_lt R12.out)]; exact R12.out
  have h1c : ∀ u ∈ [Value.int .i64 rser, .string riss, .string rsub, .int .i64 rfr, .int .i64 rtill, .int .i64 rkey, .slice va rl vc, .bool rca, .int .i64 rsk, .int .i64 rse, .int .i64 rss], u.oneCell' = true := by simp [Value.oneCell']
  go_wp2_with (refine wpList_store_row rfl 27 _ _ rfl w9.heap.size [Value.int .i64 ser, .string iss, .string sub, .int .i64 fr, .int .i64 till, .int .i64 key, .slice (some ⟨g, 0, none⟩) nl gc, .bool ca, .int .i64 0, .int .i64 0, .int .i64 0] [Value.int .i64 rser, .string riss, .string rsub, .int .i64 rfr, .int .i64 rtill, .int .i64 rkey, .slice va rl vc, .bool rca, .int .i64 rsk, .int .i64 rse, .int .i64 rss] 27 rfl rfl hR13 rfl sizeCert h1c ?_)
  intro w14 hrow14 ho14 hs14 hbb14
  have hg14 := grown_row ho14 hbb14
  have hq12 := heap_lt R12.out
  have V14 : Hid (CV w a len cap w1 w9.heap.size w14 ⟨rser, riss, rsub, rfr, rtill, rkey, rnames, rca, rsk, rse, rss⟩ (.slice va rl vc)) :=
    ⟨hrow14, (o13.mono G12.out.size).rowOff hg14 (fun e => by have := (o13.ge e).1; omega), fun e => by have := (o13.ge e).1; omega, HMR.out, fun e => HZP.out (hvn e), (S12.out.keep b13).row hg14 (by omega), (G12.out.trans (below_grows b13)).row hg14 hq9⟩
  clear hrow14 ho14 hs14 hbb14 hg14 hR13 h1c o13 b13 hvn hr R12 HSg HMR HZP S12 G12 O12
  go_wp2_with fail
  refine (sk_one 12 (by omega) V14.out.ss).mono ?_
  rintro e' w15 ⟨⟨bb, rfl⟩, h15, hg15⟩
  have V15 : Hid (CV w a len cap w1 w9.heap.size w15 ⟨rser, riss, rsub, rfr, rtill, rkey, rnames, rca, rsk, rse, rss⟩ (.slice va rl vc)) := V14.out.keep (by omega) hlt1 h15 hg15
  clear h15 hg15 V14
  go_upto_if 40 with fail
  go_cut [] from 5 (fun wx => ∃ c v, CV w a len cap w1 w9.heap.size wx c v)
  case first =>
    cases bb with
    | false =>
      go_wp2_with fail
      go_meet
      case rel => exact ⟨_, _, V15.out⟩
    | true =>
      go_wp2_with fail
      refine (sk_n 6 (by omega) V15.out.ss).mono ?_
      rintro e' w16 ⟨r6, rfl, hr6, h16, hg16⟩
      have V16 : Hid (CV w a len cap w1 w9.heap.size w16 ⟨rser, riss, rsub, rfr, rtill, rkey, rnames, rca, rsk, rse, rss⟩ (.slice va rl vc)) := V15.out.keep (by omega) hlt1 h16 hg16
      have r16 : w16.heap[w9.heap.size]? = some (.cells [Value.int .i64 rser, .string riss, .string rsub, .int .i64 rfr, .int .i64 rtill, .int .i64 rkey, .slice va rl vc, .bool rca, .int .i64 rsk, .int .i64 rse, .int .i64 rss].toArray 27 (0, 0)) := V16.out.row
      clear h16 hg16 V15
      have hc6 : r6 = 0 ∨ r6 = 1 ∨ r6 = 2 ∨ r6 = 3 ∨ r6 = 4 ∨ r6 = 5 := by omega
      clear hr6
      rcases hc6 with rfl | rfl | rfl | rfl | rfl | rfl
      · clear r16
        go_wp2_with fail
        refine (sk_n 3 (by omega) (V16.out.ss.alloc _)).mono ?_
        rintro e' w17 ⟨r7, rfl, hr7, h17, hg17⟩
        have hrow := heap_alloc_new w16 (.cells #[.int .i64 0, .int .i64 1000000000, .int .i64 1000000001] 2 (0, 0))
        rw [← hg17.keepBlock (by simp) (by have := V16.out.grows.size; omega)] at hrow
        have hcell := cell_of_row w17 w16.heap.size r7 _ _ (0, 0) hrow
        have hr73 : r7 < 3 := by omega
        obtain ⟨u, hu, huc⟩ : ∃ u : Int, inW u ∧ w17.cell? ⟨w16.heap.size, r7, none⟩ = some (.int .i64 u) := by
          rw [hcell]
          have hq : r7 = 0 ∨ r7 = 1 ∨ r7 = 2 := by omega
          rcases hq with rfl | rfl | rfl
          · exact ⟨0, by decide, rfl⟩
          · exact ⟨1000000000, by decide, rfl⟩
          · exact ⟨1000000001, by decide, rfl⟩
        have q7 : (r7 : Int) < 3 := by omega
        have V17 : Hid (CV w a len cap w1 w9.heap.size w17 ⟨rser, riss, rsub, rfr, rtill, rkey, rnames, rca, rsk, rse, rss⟩ (.slice va rl vc)) := V16.out.keep (by omega) hlt1 h17 (((Grows.refl _ w16).alloc _).trans hg17)
        have r17 : w17.heap[w9.heap.size]? = some (.cells [Value.int .i64 rser, .string riss, .string rsub, .int .i64 rfr, .int .i64 rtill, .int .i64 rkey, .slice va rl vc, .bool rca, .int .i64 rsk, .int .i64 rse, .int .i64 rss].toArray 27 (0, 0)) := V17.out.row
        have c0 := rowFacts r17 0 _ rfl
        have f0 := rowFree r17 0
        clear hrow hcell h17 hg17 hr7 V16 r17
        have m := V17.out.may
        go_wp2_with fail
        go_meet
        case rel => exact ⟨_, _, V17.out.set (by omega) hq9 0 (.int .i64 u) ⟨u, riss, rsub, rfr, rtill, rkey, rnames, rca, rsk, rse, rss⟩ rfl rfl ⟨m.iss, m.sub, m.len, m.each, hu, m.fr, m.till, m.key, m.sk, m.se, m.ss⟩ rfl⟩
      · have c3 := rowFacts r16 3 _ rfl
        have c4 := rowFacts r16 4 _ rfl
        have f4 := rowFree r16 4
        obtain ⟨u, hu, huw⟩ : ∃ n : Int, inW n ∧ IntKind.i64.wrap (rfr - 1) = n := ⟨_, by unfold inW; rw [IntKind.wrap_i64]; omega, rfl⟩
        clear r16
        have m := V16.out.may
        go_wp2_with fail
        go_meet
        case rel => exact ⟨_, _, V16.out.set (by omega) hq9 4 (.int .i64 u) ⟨rser, riss, rsub, rfr, u, rkey, rnames, rca, rsk, rse, rss⟩ rfl rfl ⟨m.iss, m.sub, m.len, m.each, m.ser, m.fr, hu, m.key, m.sk, m.se, m.ss⟩ rfl⟩
      · clear r16
        have HQ6 : Hid (∀ V : World, V.heap[w9.heap.size]? = some (.cells (([Value.int .i64 rser, .string riss, .string rsub, .int .i64 rfr, .int .i64 rtill, .int .i64 rkey, .slice va rl vc, .bool rca, .int .i64 rsk, .int .i64 rse, .int .i64 rss] : List Value).toArray) 27 (0, 0)) → V.cell? ⟨w9.heap.size, 6, none⟩ = some (.slice va rl vc)) := fun V hV => rowFacts hV 6 _ rfl
        go_upto_region 13 with fail
        have c16 : w16.drew.cell? ⟨w9.heap.size, 6, none⟩ = some (.slice va rl vc) := HQ6.out w16 V16.out.row
        refine wp_region_any (by kernel_rfl) ?_
        change wpAny _ _ _ _ _ _ _ w16.drew
        refine wpAny_take (i := 0) (oi := ⟨some 63, _, _, _, _, _⟩) (v := ?_) rfl (by kernel_rfl) (by kernel_rfl) (by kernel_rfl) (fun _ _ _ h => h) (Or.inl ⟨by kernel_rfl, ?_⟩) ?_
        rotate_left
        · (intro w; go_simp; try with_reducible rfl)
        (try simp only [Act.put, List.setIfInBounds_toArray, List.set_cons_zero, List.set_cons_succ])
        refine wpAny_take (i := 2) (oi := ⟨some 65, _, _, _, _, _⟩) (v := ?_) rfl (by kernel_rfl) (by kernel_rfl) (by kernel_rfl) (fun _ _ _ h => h) (Or.inl ⟨by kernel_rfl, ?_⟩) ?_
        rotate_left
        · (intro w; go_simp; try with_reducible rfl)
        (try simp only [Act.put, List.setIfInBounds_toArray, List.set_cons_zero, List.set_cons_succ])
        refine wpAny_ready (rs := [1, 3]) (by kernel_rfl) (by simp) ?_
        refine (AllReady.cons (o := ⟨some 64, _, _, _, _, _⟩) rfl (fun K hK => ?_) (AllReady.cons (o := ⟨some 66, _, _, _, _, _⟩) rfl (fun K hK => ?_) AllReady.nil))
        · skip
          have HK : Hid _ := hK
          clear hK
          go_simp
          refine HK.out _ _ ?_
          clear HK K
          (try simp only [Act.put, List.setIfInBounds_toArray, List.set_cons_zero, List.set_cons_succ])
          refine wpAny_ready (rs := [3]) (by kernel_rfl) (by simp) ?_
          refine (AllReady.cons (o := ⟨some 66, _, _, _, _, _⟩) rfl (fun K hK => ?_) AllReady.nil)
          have HK : Hid _ := hK
          clear hK
          go_simp
          have bA : Below w16.heap.size w16 (w16.alloc (.cells #[.string ⟨#[97, 108, 112, 104, 97]⟩, .string ⟨#[122, 101, 100]⟩, .string ⟨#[65]⟩] 9 (0, 0))).drew := ((Below.refl _ _).alloc (Nat.le_refl _) _).drew
          have VA : Hid (CV w a len cap w1 w9.heap.size (w16.alloc (.cells #[.string ⟨#[97, 108, 112, 104, 97]⟩, .string ⟨#[122, 101, 100]⟩, .string ⟨#[65]⟩] 9 (0, 0))).drew ⟨rser, riss, rsub, rfr, rtill, rkey, rnames, rca, rsk, rse, rss⟩ (.slice va rl vc)) := V16.out.keep (by omega) hlt1 (V16.out.ss.keep bA) (below_grows bA)
          have rowA : (w16.alloc (.cells #[.string ⟨#[97, 108, 112, 104, 97]⟩, .string ⟨#[122, 101, 100]⟩, .string ⟨#[65]⟩] 9 (0, 0))).drew.heap[w16.heap.size]? = some (.cells (([⟨#[97, 108, 112, 104, 97]⟩, ⟨#[122, 101, 100]⟩, ⟨#[65]⟩] : List ByteArray).map Value.string).toArray 9 (0, 0)) := heap_alloc_new w16 _
          have cA := HQ6.out _ VA.out.row
          have hz16 := V16.out.grows.size
          refine HK.out _ _ ?_
          clear HK K
          (try simp only [Act.put, List.setIfInBounds_toArray, List.set_cons_zero, List.set_cons_succ])
          refine wpAny_ready (rs := [4]) (by kernel_rfl) (by simp) ?_
          refine (AllReady.cons (o := ⟨some 67, _, _, _, _, _⟩) rfl (fun K hK => ?_) AllReady.nil)
          have HK : Hid _ := hK
          clear hK
          go_simp
          refine (sk_pick2 w16.heap.size 3 _ 6 _ [⟨#[97, 108, 112, 104, 97]⟩, ⟨#[122, 101, 100]⟩, ⟨#[65]⟩] VA.out.ss rowA (by omega) rfl (by omega) (by omega) (by decide)).mono ?_
          rintro e' w17 ⟨⟨u, hu, rfl⟩, h17, hg17⟩
          have V17 : Hid (CV w a len cap w1 w9.heap.size w17 ⟨rser, riss, rsub, rfr, rtill, rkey, rnames, rca, rsk, rse, rss⟩ (.slice va rl vc)) := VA.out.keep (by omega) hlt1 h17 hg17
          have c17 := HQ6.out _ V17.out.row
          refine HK.out _ _ ?_
          clear HK K h17 hg17 VA V16 rowA bA cA
          (try simp only [Act.put, List.setIfInBounds_toArray, List.set_cons_zero, List.set_cons_succ])
          refine wpAny_ready (rs := [5]) (by kernel_rfl) (by simp) ?_
          refine (AllReady.cons (o := ⟨some 68, _, _, _, _, _⟩) rfl (fun K hK => ?_) AllReady.nil)
          have HK : Hid _ := hK
          clear hK
          go_simp
          have b18 : Below w17.heap.size w17 (w17.alloc (.cells #[.string u] 9 (0, 0))) := (Below.refl _ _).alloc (Nat.le_refl _) _
          have V18 : Hid (CV w a len cap w1 w9.heap.size (w17.alloc (.cells #[.string u] 9 (0, 0))) ⟨rser, riss, rsub, rfr, rtill, rkey, rnames, rca, rsk, rse, rss⟩ (.slice va rl vc)) := V17.out.keep (by omega) hlt1 (V17.out.ss.keep b18) (below_grows b18)
          have c18 := HQ6.out _ V18.out.row
          refine HK.out _ _ ?_
          clear HK K b18
          (try simp only [Act.put, List.setIfInBounds_toArray, List.set_cons_zero, List.set_cons_succ])
          refine wpAny_ready (rs := [6]) (by kernel_rfl) (by simp) ?_
          refine (AllReady.cons (o := ⟨some 69, _, _, _, _, _⟩) rfl (fun K hK => ?_) AllReady.nil)
          have HK : Hid _ := hK
          clear hK
          have hrow18 := heap_alloc_new w17 (.cells #[.string u] 9 (0, 0))
          have hnews : ∀ j y, [Value.string u][j]? = some y → (w17.alloc (.cells #[.string u] 9 (0, 0))).cell? ((⟨w17.heap.size, 0, none⟩ : Addr).add j) = some y := fun j y hy => by
            have hj : j = 0 := by
              rcases Nat.lt_or_ge j 1 with h | h
              · omega
              · rw [List.getElem?_eq_none (by simpa using h)] at hy; cases hy
            subst hj
            rw [Addr.add_lit, cell_of_row _ w17.heap.size 0 _ _ (0, 0) hrow18]
            simpa using hy
          have hz17 : w1.heap.size ≤ w17.heap.size := V17.out.grows.size
          have hl4 := HL4.out
          have hown18 : (w17.alloc (.cells #[.string u] 9 (0, 0))).ownsRow w1.heap.size 9 1 (.slice va rl vc) rnames.length (sCells rnames) := V18.out.own
          refine step_append_any (by rfl) _ _ _ (by rfl) w1.heap.size 9 i0 (.string ⟨#[]⟩) 1 16 Tryz.underlying23 hi0 hz0 hz1 hz2 rfl (by decide) (.slice va rl vc) rnames.length (sCells rnames) rfl hown18 ⟨w17.heap.size, 0, none⟩ 1 1 [.string u] rfl rfl hnews (by simp [Value.oneCell']) (by unfold maxLen; show rnames.length + 1 ≤ _; omega) (by show (rnames.length + 1) * 16 ≤ _; omega) (by simp; omega) ?_
          intro v' w19 hown' hgrow hnil
          have hown : OwnS w19 w1.heap.size v' (rnames ++ [u]) := by
            show World.ownsRow _ _ _ _ _ _ _
            rw [List.length_append, sCells, List.map_append]
            exact hown'
          have hoff := V18.out.off
          have row19 : w19.heap[w9.heap.size]? = some (.cells (([Value.int .i64 rser, .string riss, .string rsub, .int .i64 rfr, .int .i64 rtill, .int .i64 rkey, .slice va rl vc, .bool rca, .int .i64 rsk, .int .i64 rse, .int .i64 rss] : List Value).toArray) 27 (0, 0)) := by
            rw [hgrow.block _ (heap_lt V18.out.row) (fun e => hoff e.symm)]; exact V18.out.row
          have hoff' : v'.ownBlock ≠ some w9.heap.size := fun e => by
            rcases hown.2 with ⟨h', _⟩ | ⟨gg, cp, cur, e2, _, h2, _⟩
            · rw [h'] at e; simp [Value.ownBlock] at e
            · rw [e2] at e
              simp only [Value.ownBlock, Option.some.injEq] at e
              rw [e, row19] at h2
              simp at h2
          have hlo := hown18.lt
          have SS19 : SS w a len cap w19 := V18.out.ss.grown hgrow (fun j hj => by have := (hlo j hj).1; omega)
          have G19 : Grows w.heap.size w1 w19 := V18.out.grows.grown hgrow (fun j hj => (hlo j hj).1)
          have hnn : v' ≠ .slice none 0 0 := fun e => by have h := (hnil.1 e).2; omega
          obtain ⟨vx, vy, rfl, _⟩ := hown.form
          have hmay := V18.out.may
          have c6 := rowFacts row19 6 _ rfl
          have f6 := rowFree row19 6
          have hg20 := grown_cell w19 w9.heap.size 6 (.slice vx (rnames ++ [u]).length vy)
          have V20 : Hid (CV w a len cap w1 w9.heap.size (w19.setCell ⟨w9.heap.size, 6, none⟩ (.slice vx (rnames ++ [u]).length vy)) ⟨rser, riss, rsub, rfr, rtill, rkey, rnames ++ [u], rca, rsk, rse, rss⟩ (.slice vx (rnames ++ [u]).length vy)) :=
            ⟨rowSet (i := 6) _ row19, hown.rowOff hg20 hoff', hoff', ⟨hmay.iss, hmay.sub, by show (rnames ++ [u]).length ≤ 5; simp; omega, fun y hy => by
              rcases List.mem_append.1 hy with hy | hy
              · exact hmay.each y hy
              · rw [List.mem_singleton] at hy; subst hy; exact hu, hmay.ser, hmay.fr, hmay.till, hmay.key, hmay.sk, hmay.se, hmay.ss⟩, fun e => absurd e hnn, SS19.row hg20 (by omega), G19.row hg20 hq9⟩
          generalize (rnames ++ [u]).length = n' at *
          refine HK.out _ _ ?_
          clear HK K hown' hgrow hnil hown hoff row19 hoff' hlo SS19 G19 hnn hmay hg20 hnews hrow18 hz17 hl4 V18 V17 hown18
          (try simp only [Act.put, List.setIfInBounds_toArray, List.set_cons_zero, List.set_cons_succ])
          refine wpAny_take (i := 7) (oi := ⟨some 70, _, _, _, _, _⟩) (v := ?_) rfl (by kernel_rfl) (by kernel_rfl) (by kernel_rfl) (fun _ _ _ h => h) (Or.inl ⟨by kernel_rfl, ?_⟩) ?_
          rotate_left
          · (intro w; go_simp; try with_reducible rfl)
          (try simp only [Act.put, List.setIfInBounds_toArray, List.set_cons_zero, List.set_cons_succ])
          refine wpAny_ready (rs := [8]) (by kernel_rfl) (by simp) ?_
          refine (AllReady.cons (o := ⟨none, _, _, _, _, _⟩) rfl (fun K hK => ?_) AllReady.nil)
          have HK : Hid _ := hK
          clear hK
          go_simp
          refine HK.out _ _ ?_
          refine wpAny_done (by kernel_rfl) ?_ _
          go_wp2_with fail
          go_meet
          case rel => exact ⟨_, _, V20.out⟩
        · skip
          have HK : Hid _ := hK
          clear hK
          go_simp
          have bA : Below w16.heap.size w16 (w16.alloc (.cells #[.string ⟨#[97, 108, 112, 104, 97]⟩, .string ⟨#[122, 101, 100]⟩, .string ⟨#[65]⟩] 9 (0, 0))).drew := ((Below.refl _ _).alloc (Nat.le_refl _) _).drew
          have VA : Hid (CV w a len cap w1 w9.heap.size (w16.alloc (.cells #[.string ⟨#[97, 108, 112, 104, 97]⟩, .string ⟨#[122, 101, 100]⟩, .string ⟨#[65]⟩] 9 (0, 0))).drew ⟨rser, riss, rsub, rfr, rtill, rkey, rnames, rca, rsk, rse, rss⟩ (.slice va rl vc)) := V16.out.keep (by omega) hlt1 (V16.out.ss.keep bA) (below_grows bA)
          have rowA : (w16.alloc (.cells #[.string ⟨#[97, 108, 112, 104, 97]⟩, .string ⟨#[122, 101, 100]⟩, .string ⟨#[65]⟩] 9 (0, 0))).drew.heap[w16.heap.size]? = some (.cells (([⟨#[97, 108, 112, 104, 97]⟩, ⟨#[122, 101, 100]⟩, ⟨#[65]⟩] : List ByteArray).map Value.string).toArray 9 (0, 0)) := heap_alloc_new w16 _
          have cA := HQ6.out _ VA.out.row
          have hz16 := V16.out.grows.size
          refine HK.out _ _ ?_
          clear HK K
          (try simp only [Act.put, List.setIfInBounds_toArray, List.set_cons_zero, List.set_cons_succ])
          refine wpAny_ready (rs := [1, 4]) (by kernel_rfl) (by simp) ?_
          refine (AllReady.cons (o := ⟨some 64, _, _, _, _, _⟩) rfl (fun K hK => ?_) (AllReady.cons (o := ⟨some 67, _, _, _, _, _⟩) rfl (fun K hK => ?_) AllReady.nil))
          · skip
            have HK : Hid _ := hK
            clear hK
            go_simp
            refine HK.out _ _ ?_
            clear HK K
            (try simp only [Act.put, List.setIfInBounds_toArray, List.set_cons_zero, List.set_cons_succ])
            refine wpAny_ready (rs := [4]) (by kernel_rfl) (by simp) ?_
            refine (AllReady.cons (o := ⟨some 67, _, _, _, _, _⟩) rfl (fun K hK => ?_) AllReady.nil)
            have HK : Hid _ := hK
            clear hK
            go_simp
            refine (sk_pick2 w16.heap.size 3 _ 6 _ [⟨#[97, 108, 112, 104, 97]⟩, ⟨#[122, 101, 100]⟩, ⟨#[65]⟩] VA.out.ss rowA (by omega) rfl (by omega) (by omega) (by decide)).mono ?_
            rintro e' w17 ⟨⟨u, hu, rfl⟩, h17, hg17⟩
            have V17 : Hid (CV w a len cap w1 w9.heap.size w17 ⟨rser, riss, rsub, rfr, rtill, rkey, rnames, rca, rsk, rse, rss⟩ (.slice va rl vc)) := VA.out.keep (by omega) hlt1 h17 hg17
            have c17 := HQ6.out _ V17.out.row
            refine HK.out _ _ ?_
            clear HK K h17 hg17 VA V16 rowA bA cA
            (try simp only [Act.put, List.setIfInBounds_toArray, List.set_cons_zero, List.set_cons_succ])
            refine wpAny_ready (rs := [5]) (by kernel_rfl) (by simp) ?_
            refine (AllReady.cons (o := ⟨some 68, _, _, _, _, _⟩) rfl (fun K hK => ?_) AllReady.nil)
            have HK : Hid _ := hK
            clear hK
            go_simp
            have b18 : Below w17.heap.size w17 (w17.alloc (.cells #[.string u] 9 (0, 0))) := (Below.refl _ _).alloc (Nat.le_refl _) _
            have V18 : Hid (CV w a len cap w1 w9.heap.size (w17.alloc (.cells #[.string u] 9 (0, 0))) ⟨rser, riss, rsub, rfr, rtill, rkey, rnames, rca, rsk, rse, rss⟩ (.slice va rl vc)) := V17.out.keep (by omega) hlt1 (V17.out.ss.keep b18) (below_grows b18)
            have c18 := HQ6.out _ V18.out.row
            refine HK.out _ _ ?_
            clear HK K b18
            (try simp only [Act.put, List.setIfInBounds_toArray, List.set_cons_zero, List.set_cons_succ])
            refine wpAny_ready (rs := [6]) (by kernel_rfl) (by simp) ?_
            refine (AllReady.cons (o := ⟨some 69, _, _, _, _, _⟩) rfl (fun K hK => ?_) AllReady.nil)
            have HK : Hid _ := hK
            clear hK
            have hrow18 := heap_alloc_new w17 (.cells #[.string u] 9 (0, 0))
            have hnews : ∀ j y, [Value.string u][j]? = some y → (w17.alloc (.cells #[.string u] 9 (0, 0))).cell? ((⟨w17.heap.size, 0, none⟩ : Addr).add j) = some y := fun j y hy => by
              have hj : j = 0 := by
                rcases Nat.lt_or_ge j 1 with h | h
                · omega
                · rw [List.getElem?_eq_none (by simpa using h)] at hy; cases hy
              subst hj
              rw [Addr.add_lit, cell_of_row _ w17.heap.size 0 _ _ (0, 0) hrow18]
              simpa using hy
            have hz17 : w1.heap.size ≤ w17.heap.size := V17.out.grows.size
            have hl4 := HL4.out
            have hown18 : (w17.alloc (.cells #[.string u] 9 (0, 0))).ownsRow w1.heap.size 9 1 (.slice va rl vc) rnames.length (sCells rnames) := V18.out.own
            refine step_append_any (by rfl) _ _ _ (by rfl) w1.heap.size 9 i0 (.string ⟨#[]⟩) 1 16 Tryz.underlying23 hi0 hz0 hz1 hz2 rfl (by decide) (.slice va rl vc) rnames.length (sCells rnames) rfl hown18 ⟨w17.heap.size, 0, none⟩ 1 1 [.string u] rfl rfl hnews (by simp [Value.oneCell']) (by unfold maxLen; show rnames.length + 1 ≤ _; omega) (by show (rnames.length + 1) * 16 ≤ _; omega) (by simp; omega) ?_
            intro v' w19 hown' hgrow hnil
            have hown : OwnS w19 w1.heap.size v' (rnames ++ [u]) := by
              show World.ownsRow _ _ _ _ _ _ _
              rw [List.length_append, sCells, List.map_append]
              exact hown'
            have hoff := V18.out.off
            have row19 : w19.heap[w9.heap.size]? = some (.cells (([Value.int .i64 rser, .string riss, .string rsub, .int .i64 rfr, .int .i64 rtill, .int .i64 rkey, .slice va rl vc, .bool rca, .int .i64 rsk, .int .i64 rse, .int .i64 rss] : List Value).toArray) 27 (0, 0)) := by
              rw [hgrow.block _ (heap_lt V18.out.row) (fun e => hoff e.symm)]; exact V18.out.row
            have hoff' : v'.ownBlock ≠ some w9.heap.size := fun e => by
              rcases hown.2 with ⟨h', _⟩ | ⟨gg, cp, cur, e2, _, h2, _⟩
              · rw [h'] at e; simp [Value.ownBlock] at e
              · rw [e2] at e
                simp only [Value.ownBlock, Option.some.injEq] at e
                rw [e, row19] at h2
                simp at h2
            have hlo := hown18.lt
            have SS19 : SS w a len cap w19 := V18.out.ss.grown hgrow (fun j hj => by have := (hlo j hj).1; omega)
            have G19 : Grows w.heap.size w1 w19 := V18.out.grows.grown hgrow (fun j hj => (hlo j hj).1)
            have hnn : v' ≠ .slice none 0 0 := fun e => by have h := (hnil.1 e).2; omega
            obtain ⟨vx, vy, rfl, _⟩ := hown.form
            have hmay := V18.out.may
            have c6 := rowFacts row19 6 _ rfl
            have f6 := rowFree row19 6
            have hg20 := grown_cell w19 w9.heap.size 6 (.slice vx (rnames ++ [u]).length vy)
            have V20 : Hid (CV w a len cap w1 w9.heap.size (w19.setCell ⟨w9.heap.size, 6, none⟩ (.slice vx (rnames ++ [u]).length vy)) ⟨rser, riss, rsub, rfr, rtill, rkey, rnames ++ [u], rca, rsk, rse, rss⟩ (.slice vx (rnames ++ [u]).length vy)) :=
              ⟨rowSet (i := 6) _ row19, hown.rowOff hg20 hoff', hoff', ⟨hmay.iss, hmay.sub, by show (rnames ++ [u]).length ≤ 5; simp; omega, fun y hy => by
                rcases List.mem_append.1 hy with hy | hy
                · exact hmay.each y hy
                · rw [List.mem_singleton] at hy; subst hy; exact hu, hmay.ser, hmay.fr, hmay.till, hmay.key, hmay.sk, hmay.se, hmay.ss⟩, fun e => absurd e hnn, SS19.row hg20 (by omega), G19.row hg20 hq9⟩
            generalize (rnames ++ [u]).length = n' at *
            refine HK.out _ _ ?_
            clear HK K hown' hgrow hnil hown hoff row19 hoff' hlo SS19 G19 hnn hmay hg20 hnews hrow18 hz17 hl4 V18 V17 hown18
            (try simp only [Act.put, List.setIfInBounds_toArray, List.set_cons_zero, List.set_cons_succ])
            refine wpAny_take (i := 7) (oi := ⟨some 70, _, _, _, _, _⟩) (v := ?_) rfl (by kernel_rfl) (by kernel_rfl) (by kernel_rfl) (fun _ _ _ h => h) (Or.inl ⟨by kernel_rfl, ?_⟩) ?_
            rotate_left
            · (intro w; go_simp; try with_reducible rfl)
            (try simp only [Act.put, List.setIfInBounds_toArray, List.set_cons_zero, List.set_cons_succ])
            refine wpAny_ready (rs := [8]) (by kernel_rfl) (by simp) ?_
            refine (AllReady.cons (o := ⟨none, _, _, _, _, _⟩) rfl (fun K hK => ?_) AllReady.nil)
            have HK : Hid _ := hK
            clear hK
            go_simp
            refine HK.out _ _ ?_
            refine wpAny_done (by kernel_rfl) ?_ _
            go_wp2_with fail
            go_meet
            case rel => exact ⟨_, _, V20.out⟩
          · skip
            have HK : Hid _ := hK
            clear hK
            go_simp
            refine (sk_pick2 w16.heap.size 3 _ 6 _ [⟨#[97, 108, 112, 104, 97]⟩, ⟨#[122, 101, 100]⟩, ⟨#[65]⟩] VA.out.ss rowA (by omega) rfl (by omega) (by omega) (by decide)).mono ?_
            rintro e' w17 ⟨⟨u, hu, rfl⟩, h17, hg17⟩
            have V17 : Hid (CV w a len cap w1 w9.heap.size w17 ⟨rser, riss, rsub, rfr, rtill, rkey, rnames, rca, rsk, rse, rss⟩ (.slice va rl vc)) := VA.out.keep (by omega) hlt1 h17 hg17
            have c17 := HQ6.out _ V17.out.row
            refine HK.out _ _ ?_
            clear HK K h17 hg17 VA V16 rowA bA cA
            (try simp only [Act.put, List.setIfInBounds_toArray, List.set_cons_zero, List.set_cons_succ])
            refine wpAny_ready (rs := [1, 5]) (by kernel_rfl) (by simp) ?_
            refine (AllReady.cons (o := ⟨some 64, _, _, _, _, _⟩) rfl (fun K hK => ?_) (AllReady.cons (o := ⟨some 68, _, _, _, _, _⟩) rfl (fun K hK => ?_) AllReady.nil))
            · skip
              have HK : Hid _ := hK
              clear hK
              go_simp
              refine HK.out _ _ ?_
              clear HK K
              (try simp only [Act.put, List.setIfInBounds_toArray, List.set_cons_zero, List.set_cons_succ])
              refine wpAny_ready (rs := [5]) (by kernel_rfl) (by simp) ?_
              refine (AllReady.cons (o := ⟨some 68, _, _, _, _, _⟩) rfl (fun K hK => ?_) AllReady.nil)
              have HK : Hid _ := hK
              clear hK
              go_simp
              have b18 : Below w17.heap.size w17 (w17.alloc (.cells #[.string u] 9 (0, 0))) := (Below.refl _ _).alloc (Nat.le_refl _) _
              have V18 : Hid (CV w a len cap w1 w9.heap.size (w17.alloc (.cells #[.string u] 9 (0, 0))) ⟨rser, riss, rsub, rfr, rtill, rkey, rnames, rca, rsk, rse, rss⟩ (.slice va rl vc)) := V17.out.keep (by omega) hlt1 (V17.out.ss.keep b18) (below_grows b18)
              have c18 := HQ6.out _ V18.out.row
              refine HK.out _ _ ?_
              clear HK K b18
              (try simp only [Act.put, List.setIfInBounds_toArray, List.set_cons_zero, List.set_cons_succ])
              refine wpAny_ready (rs := [6]) (by kernel_rfl) (by simp) ?_
              refine (AllReady.cons (o := ⟨some 69, _, _, _, _, _⟩) rfl (fun K hK => ?_) AllReady.nil)
              have HK : Hid _ := hK
              clear hK
              have hrow18 := heap_alloc_new w17 (.cells #[.string u] 9 (0, 0))
              have hnews : ∀ j y, [Value.string u][j]? = some y → (w17.alloc (.cells #[.string u] 9 (0, 0))).cell? ((⟨w17.heap.size, 0, none⟩ : Addr).add j) = some y := fun j y hy => by
                have hj : j = 0 := by
                  rcases Nat.lt_or_ge j 1 with h | h
                  · omega
                  · rw [List.getElem?_eq_none (by simpa using h)] at hy; cases hy
                subst hj
                rw [Addr.add_lit, cell_of_row _ w17.heap.size 0 _ _ (0, 0) hrow18]
                simpa using hy
              have hz17 : w1.heap.size ≤ w17.heap.size := V17.out.grows.size
              have hl4 := HL4.out
              have hown18 : (w17.alloc (.cells #[.string u] 9 (0, 0))).ownsRow w1.heap.size 9 1 (.slice va rl vc) rnames.length (sCells rnames) := V18.out.own
              refine step_append_any (by rfl) _ _ _ (by rfl) w1.heap.size 9 i0 (.string ⟨#[]⟩) 1 16 Tryz.underlying23 hi0 hz0 hz1 hz2 rfl (by decide) (.slice va rl vc) rnames.length (sCells rnames) rfl hown18 ⟨w17.heap.size, 0, none⟩ 1 1 [.string u] rfl rfl hnews (by simp [Value.oneCell']) (by unfold maxLen; show rnames.length + 1 ≤ _; omega) (by show (rnames.length + 1) * 16 ≤ _; omega) (by simp; omega) ?_
              intro v' w19 hown' hgrow hnil
              have hown : OwnS w19 w1.heap.size v' (rnames ++ [u]) := by
                show World.ownsRow _ _ _ _ _ _ _
                rw [List.length_append, sCells, List.map_append]
                exact hown'
              have hoff := V18.out.off
              have row19 : w19.heap[w9.heap.size]? = some (.cells (([Value.int .i64 rser, .string riss, .string rsub, .int .i64 rfr, .int .i64 rtill, .int .i64 rkey, .slice va rl vc, .bool rca, .int .i64 rsk, .int .i64 rse, .int .i64 rss] : List Value).toArray) 27 (0, 0)) := by
                rw [hgrow.block _ (heap_lt V18.out.row) (fun e => hoff e.symm)]; exact V18.out.row
              have hoff' : v'.ownBlock ≠ some w9.heap.size := fun e => by
                rcases hown.2 with ⟨h', _⟩ | ⟨gg, cp, cur, e2, _, h2, _⟩
                · rw [h'] at e; simp [Value.ownBlock] at e
                · rw [e2] at e
                  simp only [Value.ownBlock, Option.some.injEq] at e
                  rw [e, row19] at h2
                  simp at h2
              have hlo := hown18.lt
              have SS19 : SS w a len cap w19 := V18.out.ss.grown hgrow (fun j hj => by have := (hlo j hj).1; omega)
              have G19 : Grows w.heap.size w1 w19 := V18.out.grows.grown hgrow (fun j hj => (hlo j hj).1)
              have hnn : v' ≠ .slice none 0 0 := fun e => by have h := (hnil.1 e).2; omega
              obtain ⟨vx, vy, rfl, _⟩ := hown.form
              have hmay := V18.out.may
              have c6 := rowFacts row19 6 _ rfl
              have f6 := rowFree row19 6
              have hg20 := grown_cell w19 w9.heap.size 6 (.slice vx (rnames ++ [u]).length vy)
              have V20 : Hid (CV w a len cap w1 w9.heap.size (w19.setCell ⟨w9.heap.size, 6, none⟩ (.slice vx (rnames ++ [u]).length vy)) ⟨rser, riss, rsub, rfr, rtill, rkey, rnames ++ [u], rca, rsk, rse, rss⟩ (.slice vx (rnames ++ [u]).length vy)) :=
                ⟨rowSet (i := 6) _ row19, hown.rowOff hg20 hoff', hoff', ⟨hmay.iss, hmay.sub, by show (rnames ++ [u]).length ≤ 5; simp; omega, fun y hy => by
                  rcases List.mem_append.1 hy with hy | hy
                  · exact hmay.each y hy
                  · rw [List.mem_singleton] at hy; subst hy; exact hu, hmay.ser, hmay.fr, hmay.till, hmay.key, hmay.sk, hmay.se, hmay.ss⟩, fun e => absurd e hnn, SS19.row hg20 (by omega), G19.row hg20 hq9⟩
              generalize (rnames ++ [u]).length = n' at *
              refine HK.out _ _ ?_
              clear HK K hown' hgrow hnil hown hoff row19 hoff' hlo SS19 G19 hnn hmay hg20 hnews hrow18 hz17 hl4 V18 V17 hown18
              (try simp only [Act.put, List.setIfInBounds_toArray, List.set_cons_zero, List.set_cons_succ])
              refine wpAny_take (i := 7) (oi := ⟨some 70, _, _, _, _, _⟩) (v := ?_) rfl (by kernel_rfl) (by kernel_rfl) (by kernel_rfl) (fun _ _ _ h => h) (Or.inl ⟨by kernel_rfl, ?_⟩) ?_
              rotate_left
              · (intro w; go_simp; try with_reducible rfl)
              (try simp only [Act.put, List.setIfInBounds_toArray, List.set_cons_zero, List.set_cons_succ])
              refine wpAny_ready (rs := [8]) (by kernel_rfl) (by simp) ?_
              refine (AllReady.cons (o := ⟨none, _, _, _, _, _⟩) rfl (fun K hK => ?_) AllReady.nil)
              have HK : Hid _ := hK
              clear hK
              go_simp
              refine HK.out _ _ ?_
              refine wpAny_done (by kernel_rfl) ?_ _
              go_wp2_with fail
              go_meet
              case rel => exact ⟨_, _, V20.out⟩
            · skip
              have HK : Hid _ := hK
              clear hK
              go_simp
              have b18 : Below w17.heap.size w17 (w17.alloc (.cells #[.string u] 9 (0, 0))) := (Below.refl _ _).alloc (Nat.le_refl _) _
              have V18 : Hid (CV w a len cap w1 w9.heap.size (w17.alloc (.cells #[.string u] 9 (0, 0))) ⟨rser, riss, rsub, rfr, rtill, rkey, rnames, rca, rsk, rse, rss⟩ (.slice va rl vc)) := V17.out.keep (by omega) hlt1 (V17.out.ss.keep b18) (below_grows b18)
              have c18 := HQ6.out _ V18.out.row
              refine HK.out _ _ ?_
              clear HK K b18
              (try simp only [Act.put, List.setIfInBounds_toArray, List.set_cons_zero, List.set_cons_succ])
              refine wpAny_ready (rs := [1]) (by kernel_rfl) (by simp) ?_
              refine (AllReady.cons (o := ⟨some 64, _, _, _, _, _⟩) rfl (fun K hK => ?_) AllReady.nil)
              have HK : Hid _ := hK
              clear hK
              go_simp
              refine HK.out _ _ ?_
              clear HK K
              (try simp only [Act.put, List.setIfInBounds_toArray, List.set_cons_zero, List.set_cons_succ])
              refine wpAny_ready (rs := [6]) (by kernel_rfl) (by simp) ?_
              refine (AllReady.cons (o := ⟨some 69, _, _, _, _, _⟩) rfl (fun K hK => ?_) AllReady.nil)
              have HK : Hid _ := hK
              clear hK
              have hrow18 := heap_alloc_new w17 (.cells #[.string u] 9 (0, 0))
              have hnews : ∀ j y, [Value.string u][j]? = some y → (w17.alloc (.cells #[.string u] 9 (0, 0))).cell? ((⟨w17.heap.size, 0, none⟩ : Addr).add j) = some y := fun j y hy => by
                have hj : j = 0 := by
                  rcases Nat.lt_or_ge j 1 with h | h
                  · omega
                  · rw [List.getElem?_eq_none (by simpa using h)] at hy; cases hy
                subst hj
                rw [Addr.add_lit, cell_of_row _ w17.heap.size 0 _ _ (0, 0) hrow18]
                simpa using hy
              have hz17 : w1.heap.size ≤ w17.heap.size := V17.out.grows.size
              have hl4 := HL4.out
              have hown18 : (w17.alloc (.cells #[.string u] 9 (0, 0))).ownsRow w1.heap.size 9 1 (.slice va rl vc) rnames.length (sCells rnames) := V18.out.own
              refine step_append_any (by rfl) _ _ _ (by rfl) w1.heap.size 9 i0 (.string ⟨#[]⟩) 1 16 Tryz.underlying23 hi0 hz0 hz1 hz2 rfl (by decide) (.slice va rl vc) rnames.length (sCells rnames) rfl hown18 ⟨w17.heap.size, 0, none⟩ 1 1 [.string u] rfl rfl hnews (by simp [Value.oneCell']) (by unfold maxLen; show rnames.length + 1 ≤ _; omega) (by show (rnames.length + 1) * 16 ≤ _; omega) (by simp; omega) ?_
              intro v' w19 hown' hgrow hnil
              have hown : OwnS w19 w1.heap.size v' (rnames ++ [u]) := by
                show World.ownsRow _ _ _ _ _ _ _
                rw [List.length_append, sCells, List.map_append]
                exact hown'
              have hoff := V18.out.off
              have row19 : w19.heap[w9.heap.size]? = some (.cells (([Value.int .i64 rser, .string riss, .string rsub, .int .i64 rfr, .int .i64 rtill, .int .i64 rkey, .slice va rl vc, .bool rca, .int .i64 rsk, .int .i64 rse, .int .i64 rss] : List Value).toArray) 27 (0, 0)) := by
                rw [hgrow.block _ (heap_lt V18.out.row) (fun e => hoff e.symm)]; exact V18.out.row
              have hoff' : v'.ownBlock ≠ some w9.heap.size := fun e => by
                rcases hown.2 with ⟨h', _⟩ | ⟨gg, cp, cur, e2, _, h2, _⟩
                · rw [h'] at e; simp [Value.ownBlock] at e
                · rw [e2] at e
                  simp only [Value.ownBlock, Option.some.injEq] at e
                  rw [e, row19] at h2
                  simp at h2
              have hlo := hown18.lt
              have SS19 : SS w a len cap w19 := V18.out.ss.grown hgrow (fun j hj => by have := (hlo j hj).1; omega)
              have G19 : Grows w.heap.size w1 w19 := V18.out.grows.grown hgrow (fun j hj => (hlo j hj).1)
              have hnn : v' ≠ .slice none 0 0 := fun e => by have h := (hnil.1 e).2; omega
              obtain ⟨vx, vy, rfl, _⟩ := hown.form
              have hmay := V18.out.may
              have c6 := rowFacts row19 6 _ rfl
              have f6 := rowFree row19 6
              have hg20 := grown_cell w19 w9.heap.size 6 (.slice vx (rnames ++ [u]).length vy)
              have V20 : Hid (CV w a len cap w1 w9.heap.size (w19.setCell ⟨w9.heap.size, 6, none⟩ (.slice vx (rnames ++ [u]).length vy)) ⟨rser, riss, rsub, rfr, rtill, rkey, rnames ++ [u], rca, rsk, rse, rss⟩ (.slice vx (rnames ++ [u]).length vy)) :=
                ⟨rowSet (i := 6) _ row19, hown.rowOff hg20 hoff', hoff', ⟨hmay.iss, hmay.sub, by show (rnames ++ [u]).length ≤ 5; simp; omega, fun y hy => by
                  rcases List.mem_append.1 hy with hy | hy
                  · exact hmay.each y hy
                  · rw [List.mem_singleton] at hy; subst hy; exact hu, hmay.ser, hmay.fr, hmay.till, hmay.key, hmay.sk, hmay.se, hmay.ss⟩, fun e => absurd e hnn, SS19.row hg20 (by omega), G19.row hg20 hq9⟩
              generalize (rnames ++ [u]).length = n' at *
              refine HK.out _ _ ?_
              clear HK K hown' hgrow hnil hown hoff row19 hoff' hlo SS19 G19 hnn hmay hg20 hnews hrow18 hz17 hl4 V18 V17 hown18
              (try simp only [Act.put, List.setIfInBounds_toArray, List.set_cons_zero, List.set_cons_succ])
              refine wpAny_take (i := 7) (oi := ⟨some 70, _, _, _, _, _⟩) (v := ?_) rfl (by kernel_rfl) (by kernel_rfl) (by kernel_rfl) (fun _ _ _ h => h) (Or.inl ⟨by kernel_rfl, ?_⟩) ?_
              rotate_left
              · (intro w; go_simp; try with_reducible rfl)
              (try simp only [Act.put, List.setIfInBounds_toArray, List.set_cons_zero, List.set_cons_succ])
              refine wpAny_ready (rs := [8]) (by kernel_rfl) (by simp) ?_
              refine (AllReady.cons (o := ⟨none, _, _, _, _, _⟩) rfl (fun K hK => ?_) AllReady.nil)
              have HK : Hid _ := hK
              clear hK
              go_simp
              refine HK.out _ _ ?_
              refine wpAny_done (by kernel_rfl) ?_ _
              go_wp2_with fail
              go_meet
              case rel => exact ⟨_, _, V20.out⟩
      · clear r16
        go_wp2_with fail
        refine (sk_n 9 (by omega) V16.out.ss).mono ?_
        rintro e' w17 ⟨r7, rfl, hr7, h17, hg17⟩
        have V17 : Hid (CV w a len cap w1 w9.heap.size w17 ⟨rser, riss, rsub, rfr, rtill, rkey, rnames, rca, rsk, rse, rss⟩ (.slice va rl vc)) := V16.out.keep (by omega) hlt1 h17 hg17
        have r17 : w17.heap[w9.heap.size]? = some (.cells [Value.int .i64 rser, .string riss, .string rsub, .int .i64 rfr, .int .i64 rtill, .int .i64 rkey, .slice va rl vc, .bool rca, .int .i64 rsk, .int .i64 rse, .int .i64 rss].toArray 27 (0, 0)) := V17.out.row
        have c5 := rowFacts r17 5 _ rfl
        have f5 := rowFree r17 5
        have hu : inW (r7 : Int) := by unfold inW; omega
        clear h17 hg17 hr7 V16 r17
        have m := V17.out.may
        go_wp2_with fail
        go_meet
        case rel => exact ⟨_, _, V17.out.set (by omega) hq9 5 (.int .i64 (r7 : Int)) ⟨rser, riss, rsub, rfr, rtill, (r7 : Int), rnames, rca, rsk, rse, rss⟩ rfl rfl ⟨m.iss, m.sub, m.len, m.each, m.ser, m.fr, m.till, hu, m.sk, m.se, m.ss⟩ rfl⟩
      · have c9 := rowFacts r16 9 _ rfl
        have f9 := rowFree r16 9
        obtain ⟨u, hu, huw⟩ : ∃ n : Int, inW n ∧ IntKind.i64.wrap (rse + 1) = n := ⟨_, by unfold inW; rw [IntKind.wrap_i64]; omega, rfl⟩
        clear r16
        have m := V16.out.may
        go_wp2_with fail
        go_meet
        case rel => exact ⟨_, _, V16.out.set (by omega) hq9 9 (.int .i64 u) ⟨rser, riss, rsub, rfr, rtill, rkey, rnames, rca, rsk, u, rss⟩ rfl rfl ⟨m.iss, m.sub, m.len, m.each, m.ser, m.fr, m.till, m.key, m.sk, hu, m.ss⟩ rfl⟩
      · clear r16
        go_wp2_with fail
        refine (sk_pick 2 _ 10 _ [⟨#[]⟩, ⟨#[66]⟩] V16.out.ss rfl (by omega) (by omega) (by decide)).mono ?_
        rintro e' w17 ⟨⟨u, hu, rfl⟩, h17, hg17⟩
        have V17 : Hid (CV w a len cap w1 w9.heap.size w17 ⟨rser, riss, rsub, rfr, rtill, rkey, rnames, rca, rsk, rse, rss⟩ (.slice va rl vc)) := V16.out.keep (by omega) hlt1 h17 hg17
        have r17 : w17.heap[w9.heap.size]? = some (.cells [Value.int .i64 rser, .string riss, .string rsub, .int .i64 rfr, .int .i64 rtill, .int .i64 rkey, .slice va rl vc, .bool rca, .int .i64 rsk, .int .i64 rse, .int .i64 rss].toArray 27 (0, 0)) := V17.out.row
        have c2 := rowFacts r17 2 _ rfl
        have f2 := rowFree r17 2
        clear h17 hg17 V16 r17
        have m := V17.out.may
        go_wp2_with fail
        go_meet
        case rel => exact ⟨_, _, V17.out.set (by omega) hq9 2 (.string u) ⟨rser, riss, u, rfr, rtill, rkey, rnames, rca, rsk, rse, rss⟩ rfl rfl ⟨m.iss, hu, m.len, m.each, m.ser, m.fr, m.till, m.key, m.sk, m.se, m.ss⟩ rfl⟩
  case rest =>
    obtain ⟨c, v, hcv⟩ := hcut
    obtain ⟨va2, vc2, rfl, _⟩ := hcv.own.form
    obtain ⟨ser2, iss2, sub2, fr2, till2, key2, names2, ca2, sk2, se2, ss2⟩ := c
    have VC : Hid (CV w a len cap w1 w9.heap.size wc ⟨ser2, iss2, sub2, fr2, till2, key2, names2, ca2, sk2, se2, ss2⟩ (.slice va2 names2.length vc2)) := hcv
    clear hcv V15
    obtain ⟨n2, hn2⟩ : ∃ n, n = names2.length := ⟨_, rfl⟩
    rw [← hn2] at VC
    clear hn2
    have rz : wc.heap[W.heap.size]? = some (.cells [Value.int .i64 0, .string ⟨#[]⟩, .string ⟨#[]⟩, .int .i64 0, .int .i64 0, .int .i64 0, .slice none 0 0, .bool false, .int .i64 0, .int .i64 0, .int .i64 0].toArray 27 (0, 0)) := by rw [VC.out.grows.keepBlock (heap_lt Z1.out) (by omega)]; exact Z1.out
    have hr := rangeRow VC.out.row
    have h1c : ∀ u ∈ [Value.int .i64 ser2, .string iss2, .string sub2, .int .i64 fr2, .int .i64 till2, .int .i64 key2, .slice va2 n2 vc2, .bool ca2, .int .i64 sk2, .int .i64 se2, .int .i64 ss2], u.oneCell' = true := by simp [Value.oneCell']
    go_wp2_with (first | (refine wpList_load_mid rfl 27 _ rfl w9.heap.size 0 rfl [Value.int .i64 ser2, .string iss2, .string sub2, .int .i64 fr2, .int .i64 till2, .int .i64 key2, .slice va2 n2 vc2, .bool ca2, .int .i64 sk2, .int .i64 se2, .int .i64 ss2] _ hr Tryz.underlying27 rfl sizeCert ?_) | (refine wpList_store_row rfl 27 _ _ rfl W.heap.size [Value.int .i64 0, .string ⟨#[]⟩, .string ⟨#[]⟩, .int .i64 0, .int .i64 0, .int .i64 0, .slice none 0 0, .bool false, .int .i64 0, .int .i64 0, .int .i64 0] [Value.int .i64 ser2, .string iss2, .string sub2, .int .i64 fr2, .int .i64 till2, .int .i64 key2, .slice va2 n2 vc2, .bool ca2, .int .i64 sk2, .int .i64 se2, .int .i64 ss2] 27 rfl rfl rz rfl sizeCert h1c ?_))
    intro w18 hrow18 ho18 hs18 hbb18
    have hg18 := grown_row ho18 hbb18
    have hl3 := run_loadVar_mid (P := Tryz.prog) _ W.heap.size 0 27 _ _ (rangeRow hrow18) Tryz.underlying27 rfl sizeCert
    have HFIN : Hid (OwnS w18 W.heap.size (.slice va2 n2 vc2) names2 ∧ PMay ⟨ser2, iss2, sub2, fr2, till2, key2, names2, ca2, sk2, se2, ss2⟩ ∧ (Value.slice va2 n2 vc2 = .slice none 0 0 → iss2.size = 0) ∧ SS w a len cap w18 ∧ Grows w.heap.size W w18) :=
      ⟨(VC.out.own.rowOff hg18 (fun e => by have := (VC.out.own.ge e).1; have := HZ1.out; omega)).mono (by have := HZ1.out; omega), VC.out.may, VC.out.named, VC.out.ss.row hg18 hlt, (G1.out.trans VC.out.grows).row hg18 (Nat.le_refl _)⟩
    clear ho18 hs18 hbb18 hg18 hr rz h1c VC
    go_wp2
    refine bodyPost_ret (v := .agg [Value.int .i64 ser2, .string iss2, .string sub2, .int .i64 fr2, .int .i64 till2, .int .i64 key2, .slice va2 n2 vc2, .bool ca2, .int .i64 sk2, .int .i64 se2, .int .i64 ss2].toArray) ?_ rfl ⟨⟨ser2, iss2, sub2, fr2, till2, key2, names2, ca2, sk2, se2, ss2⟩, .slice va2 n2 vc2, rfl, HFIN.out⟩
    simp [results, Tryz.results16, asAddr, hl3]
end Go.Proofs.YtegmmaomaegjjaaGreatDoor
