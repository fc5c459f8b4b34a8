/- spec.CrlSign, walked. -/
import Derived.Test.YtegmmaomaegjjaaGreatDoorPT12
import Derived.Test.YtegmmaomaegjjaaGreatDoorPT03
import Derived.Test.YtegmmaomaegjjaaGreatDoorPT08
import Derived.Test.YtegmmaomaegjjaaGreatDoorPT10
import Derived.Test.YtegmmaomaegjjaaGreatDoorPT04
import Derived.Test.YtegmmaomaegjjaaGreatDoorPT06
import Derived.Deep.Cut
namespace Go.Proofs.YtegmmaomaegjjaaGreatDoor
open Go.RowKit

set_option linter.unusedSimpArgs false in
set_option maxHeartbeats 4000000 in
set_option maxRecDepth 100000 in
theorem specSignLG (x : Int) (c : Lst) (a : Option Addr) (cap : Nat) (k e s : Int) (w : World) (hi : c.issuer.size ≤ maxLen) (hl : c.serials.length ≤ 1048576) (hA : RowL w a cap c.serials)
    (hv : secB x = true → listB c = true → signV x (listD c) = .agg #[.int .i64 k, .int .i64 e, .int .i64 s]) :
    Calls Tryz.prog 22 #[.int .i64 x, c.val (.slice a c.serials.length cap)] w fun r w' => ∃ v, r = .returned ((signL x c k e s).val v) ∧ OwnL w' w.heap.size v (signL x c k e s).serials ∧ Below w.heap.size w w' := by
  have HP : Hid (∀ V a' cap', IsInts V a' c.serials → Calls Tryz.prog 33 #[c.val (.slice a' c.serials.length cap')] V fun e w' => e = .returned (.bool (listB c)) ∧ Below V.heap.size V w') := fun V a' cap' hV => specList c a' cap' V hi hl hV
  have HBo : Hid (listB c = true → ∀ V a' cap', IsInts V a' c.serials → Calls Tryz.prog 55 #[c.val (.slice a' c.serials.length cap')] V fun e w' => e = .returned (.string (listD c)) ∧ Below V.heap.size V w') := fun h V a' cap' hV => specListD c a' cap' V (list_fits h) hV
  have HSg : Hid (secB x = true → listB c = true → ∀ V, Calls Tryz.prog 53 #[.int .i64 x, .string (listD c)] V fun r w' => r = .returned (.agg #[.int .i64 k, .int .i64 e, .int .i64 s]) ∧ Below V.heap.size V w') := fun h1 h2 V => by
    have := specSign x (listD c) V (by have := listD_le (list_fits h2); unfold maxLen; omega)
    rw [hv h1 h2] at this
    exact this
  have HY : Hid (secB x = true → listB c = true → signL x c k e s = ⟨c.issuer, c.fr, c.till, c.serials, k, e, s⟩) := fun h1 h2 => signL_yes h1 h2 k e s
  have HNo : Hid (secB x = false ∨ listB c = false → signL x c k e s = zeroL) := fun h => signL_no h k e s
  have ha : IsInts w a c.serials := hA.ints
  obtain ⟨i0, hi0, hz0, hz1, hz2⟩ := info_parts infoLong
  have HN : Hid (∀ V, Below w.heap.size w V → SrcRow V a c.serials.length cap (lCells c.serials)) := fun V hV => (hA.keep hV).src
  generalize signL x c k e s = R at *
  generalize listB c = P at *
  generalize listD c = D at *
  clear hi hv hA
  obtain ⟨iss, fr, till, serials, sk, se, ss⟩ := c
  unfold Lst.val at HP HBo
  simp only at HP HBo HY HN hl ha
  show Calls _ _ #[.int .i64 x, .agg #[.string iss, .int .i64 fr, .int .i64 till, .slice a serials.length cap, .int .i64 sk, .int .i64 se, .int .i64 ss]] _ _
  obtain ⟨nl, hnl⟩ : ∃ nl, nl = serials.length := ⟨_, rfl⟩
  rw [← hnl] at HP HBo hl HN ⊢
  have HNl : Hid (nl = serials.length) := hnl
  clear hnl
  obtain ⟨w1, hw1⟩ : ∃ w1, w1 = (w.alloc (.cells #[.string iss, .int .i64 fr, .int .i64 till, .slice a nl cap, .int .i64 sk, .int .i64 se, .int .i64 ss] 30 (0, 0))).alloc (.cells #[.string ⟨#[]⟩, .int .i64 0, .int .i64 0, .slice none 0 0, .int .i64 0, .int .i64 0, .int .i64 0] 30 (0, 0)) := ⟨_, rfl⟩
  have r0 : w1.heap[w.heap.size]? = some (.cells [Value.string iss, .int .i64 fr, .int .i64 till, .slice a nl cap, .int .i64 sk, .int .i64 se, .int .i64 ss].toArray 30 (0, 0)) := by rw [hw1, Below.heap_alloc _ _ _ (by simp)]; exact heap_alloc_new w _
  have r1 : w1.heap[w.heap.size + 1]? = some (.cells [Value.string ⟨#[]⟩, .int .i64 0, .int .i64 0, .slice none 0 0, .int .i64 0, .int .i64 0, .int .i64 0].toArray 30 (0, 0)) := by rw [hw1]; exact heap_alloc2 w _ _
  have B1 : Hid (Below w.heap.size w w1) := by rw [hw1]; exact ((Below.refl _ _).alloc (Nat.le_refl _) _).alloc (by simp) _
  have HRw : Hid (∀ V, Below w1.heap.size w1 V → V.heap[w.heap.size]? = some (.cells [Value.string iss, .int .i64 fr, .int .i64 till, .slice a nl cap, .int .i64 sk, .int .i64 se, .int .i64 ss].toArray 30 (0, 0)) ∧ V.heap[w.heap.size + 1]? = some (.cells [Value.string ⟨#[]⟩, .int .i64 0, .int .i64 0, .slice none 0 0, .int .i64 0, .int .i64 0, .int .i64 0].toArray 30 (0, 0))) := fun V hV => ⟨(hV.block _ (heap_lt r0)).trans r0, (hV.block _ (heap_lt r1)).trans r1⟩
  have HC : Hid (∀ V : World, V.heap[w.heap.size]? = some (.cells [Value.string iss, .int .i64 fr, .int .i64 till, .slice a nl cap, .int .i64 sk, .int .i64 se, .int .i64 ss].toArray 30 (0, 0)) → V.cell? ⟨w.heap.size, 0, none⟩ = some (.string iss) ∧ V.cell? ⟨w.heap.size, 1, none⟩ = some (.int .i64 fr) ∧ V.cell? ⟨w.heap.size, 2, none⟩ = some (.int .i64 till) ∧ V.cell? ⟨w.heap.size, 3, none⟩ = some (.slice a nl cap) ∧ V.cell? ⟨w.heap.size, 4, none⟩ = some (.int .i64 sk) ∧ V.cell? ⟨w.heap.size, 5, none⟩ = some (.int .i64 se) ∧ V.cell? ⟨w.heap.size, 6, none⟩ = some (.int .i64 ss)) := fun V hP => ⟨rowFacts hP 0 _ rfl, rowFacts hP 1 _ rfl, rowFacts hP 2 _ rfl, rowFacts hP 3 _ rfl, rowFacts hP 4 _ rfl, rowFacts hP 5 _ rfl, rowFacts hP 6 _ rfl⟩
  have HK : Hid (∀ V, Below w1.heap.size w1 V → V.cell? ⟨w.heap.size, 0, none⟩ = some (.string iss) ∧ V.cell? ⟨w.heap.size, 1, none⟩ = some (.int .i64 fr) ∧ V.cell? ⟨w.heap.size, 2, none⟩ = some (.int .i64 till) ∧ V.cell? ⟨w.heap.size, 3, none⟩ = some (.slice a nl cap) ∧ V.cell? ⟨w.heap.size, 4, none⟩ = some (.int .i64 sk) ∧ V.cell? ⟨w.heap.size, 5, none⟩ = some (.int .i64 se) ∧ V.cell? ⟨w.heap.size, 6, none⟩ = some (.int .i64 ss)) := fun V hV => HC.out V (HRw.out V hV).1
  have HB : Hid (∀ V, Below w1.heap.size w1 V → Below w.heap.size w V) := fun V hV => B1.out.trans (hV.mono B1.out.size)
  have Z1 : Hid (w1.heap.size = w.heap.size + 2) := by show _ = _; rw [hw1]; simp
  have I1 : Hid (Below w1.heap.size w1 w1) := Below.refl _ _
  have D1 : Hid (Below w1.heap.size w1 w1.drew) := I1.out.drew
  have A1 : Hid (IsInts w1 a serials) := ha.keep B1.out
  clear r0 r1 B1 ha
  go_enter Tryz.func22, Tryz.ntmps22
  go_upto_region 1 with fail
  rw [← hw1]
  clear hw1
  go_wp2_with fail
  refine (specSecret x _).mono ?_
  rintro r w1' ⟨rfl, h2w⟩
  subst w1'
  cases hx : secB x with
  | false =>
    have HF : Hid (R = zeroL) := HNo.out (.inl hx)
    have hR := (HRw.out _ I1.out).2
    have h1 : ∀ v ∈ [Value.string ⟨#[]⟩, .int .i64 0, .int .i64 0, .slice none 0 0, .int .i64 0, .int .i64 0, .int .i64 0], v.oneCell' = true := by simp [Value.oneCell']
    go_wp2_with (refine wpList_store_row rfl 30 _ _ rfl (w.heap.size + 1) _ [Value.string ⟨#[]⟩, .int .i64 0, .int .i64 0, .slice none 0 0, .int .i64 0, .int .i64 0, .int .i64 0] 30 rfl rfl hR rfl sizeCrl h1 ?_)
    intro w8 hrow ho hs8 hbb
    have HROW : Hid _ := hrow
    have HB8 : Hid (Below w.heap.size w w8) := hbb _ _ (by omega) (HB.out _ I1.out)
    clear ho hs8 hbb hrow hR h1
    go_wp2
    refine bodyPost_ret (v := .agg [Value.string ⟨#[]⟩, .int .i64 0, .int .i64 0, .slice none 0 0, .int .i64 0, .int .i64 0, .int .i64 0].toArray) ?_ rfl ⟨.slice none 0 0, by rw [HF.out]; rfl, by rw [HF.out]; exact ownL_nil _ _, HB8.out⟩
    have hl3 := run_loadVar_mid (P := Tryz.prog) _ (w.heap.size + 1) 0 30 _ _ (rangeRow HROW.out) Tryz.underlying30 rfl sizeCrl
    simp [results, Tryz.results22, asAddr, hl3]
  | true =>
    obtain ⟨c0, c1, c2, c3, c4, c5, c6⟩ := HK.out w1 I1.out
    go_wp2_with fail
    refine (HP.out _ _ _ A1.out).mono ?_
    rintro r w2 ⟨rfl, b2⟩
    have K2 : Hid (Below w1.heap.size w1 w2) := b2
    clear b2 c0 c1 c2 c3 c4 c5 c6 A1 HP
    cases P with
    | false =>
      have HF : Hid (R = zeroL) := HNo.out (.inr rfl)
      have hR := (HRw.out _ K2.out).2
      have h1 : ∀ v ∈ [Value.string ⟨#[]⟩, .int .i64 0, .int .i64 0, .slice none 0 0, .int .i64 0, .int .i64 0, .int .i64 0], v.oneCell' = true := by simp [Value.oneCell']
      go_wp2_with (refine wpList_store_row rfl 30 _ _ rfl (w.heap.size + 1) _ [Value.string ⟨#[]⟩, .int .i64 0, .int .i64 0, .slice none 0 0, .int .i64 0, .int .i64 0, .int .i64 0] 30 rfl rfl hR rfl sizeCrl h1 ?_)
      intro w8 hrow ho hs8 hbb
      have HROW : Hid _ := hrow
      have HB8 : Hid (Below w.heap.size w w8) := hbb _ _ (by omega) (HB.out _ K2.out)
      clear ho hs8 hbb hrow hR h1
      go_wp2
      refine bodyPost_ret (v := .agg [Value.string ⟨#[]⟩, .int .i64 0, .int .i64 0, .slice none 0 0, .int .i64 0, .int .i64 0, .int .i64 0].toArray) ?_ rfl ⟨.slice none 0 0, by rw [HF.out]; rfl, by rw [HF.out]; exact ownL_nil _ _, HB8.out⟩
      have hl3 := run_loadVar_mid (P := Tryz.prog) _ (w.heap.size + 1) 0 30 _ _ (rangeRow HROW.out) Tryz.underlying30 rfl sizeCrl
      simp [results, Tryz.results22, asAddr, hl3]
    | true =>
      have hY := HY.out hx rfl
      have HF : Hid (R = ⟨iss, fr, till, serials, k, e, s⟩) := hY
      have B' := HBo.out rfl
      have HBo' : Hid _ := B'
      have G' := HSg.out hx rfl
      have HSg' : Hid _ := G'
      clear HY HNo HBo HSg hY B' G'
      obtain ⟨r0, r1⟩ := HRw.out w2 K2.out
      have KW : Hid (Below w.heap.size w w2) := HB.out _ K2.out
      have z1 : w.heap.size + 2 ≤ w2.heap.size := by have := K2.out.size; have := Z1.out; omega
      have c6 := rowFacts r0 3 _ rfl
      have c6a : ∀ ob, (w2.alloc ob).cell? ⟨w.heap.size, 3, none⟩ = some (.slice a nl cap) := fun ob => by rw [World.cell?_alloc_lt _ _ _ (by show w.heap.size < w2.heap.size; omega)]; exact c6
      have hown : (w2.alloc (.cells #[] 2 (0, 0))).ownsRow (w.heap.size + 2) 2 1 (.slice (some ⟨w2.heap.size, 0, none⟩) 0 0) 0 [] := by
        have := World.ownsRow_lit (base := w.heap.size + 2) (e := 2) (size := 1) w2 #[] 0 (by omega) (by decide) rfl
        simpa using this
      have hnews := HN.out _ (KW.out.alloc KW.out.size (.cells #[] 2 (0, 0)))
      have R0 : Hid _ := r0
      have R1 : Hid _ := r1
      have Z2 : Hid (w.heap.size + 2 ≤ w2.heap.size) := z1
      clear r0 r1 z1
      go_wp2_with (at_builtin; refine wpList_append_opt rfl _ _ 28 rfl (w.heap.size + 2) 2 i0 (.int .i64 0) 1 8 Tryz.underlying28 hi0 hz0 hz1 hz2 rfl (by decide) _ _ _ rfl hown a nl cap (lCells serials) rfl ?c0 hnews ?c2 ?c3 ?c4 ?c5 ?_)
      case c0 => rw [HNl.out]; simp [lCells]
      case c2 => exact oneCell_ints .i64 serials
      case c3 => unfold maxLen; omega
      case c4 => omega
      case c5 => have := Z2.out; simp; omega
      intro v' w3 hown' hgrow hnil
      have z3 : w.heap.size + 2 ≤ w3.heap.size := by have h := hgrow.size; simp at h; have := Z2.out; omega
      have hkeep : ∀ b, b < w.heap.size + 2 → w3.heap[b]? = w2.heap[b]? := fun b hb => by
        rw [hgrow.block b (by have := Z2.out; simp; omega) (fun e => by have h := (hown.lt b e.symm).1; omega)]
        exact Below.heap_alloc _ _ _ (by have := Z2.out; omega)
      have r0 : w3.heap[w.heap.size]? = some (.cells [Value.string iss, .int .i64 fr, .int .i64 till, .slice a nl cap, .int .i64 sk, .int .i64 se, .int .i64 ss].toArray 30 (0, 0)) := by rw [hkeep _ (by omega)]; exact R0.out
      have r1 : w3.heap[w.heap.size + 1]? = some (.cells [Value.string ⟨#[]⟩, .int .i64 0, .int .i64 0, .slice none 0 0, .int .i64 0, .int .i64 0, .int .i64 0].toArray 30 (0, 0)) := by rw [hkeep _ (by omega)]; exact R1.out
      have K3 : Hid (Below w.heap.size w w3) := (KW.out.alloc KW.out.size _).grown hgrow (by have := Z2.out; simp; omega) (fun k hk => by have := (hown.lt k hk).1; omega)
      have O3 : Hid (OwnL w3 (w.heap.size + 2) v' serials) := by
        show World.ownsRow _ _ _ _ _ _ _
        rw [← HNl.out]
        simpa using hown'
      clear hown' hgrow hnil hkeep hown hnews c6a c6 R0 R1 K2 Z2 HN KW
      obtain ⟨va, vc, hv, _⟩ := OwnL.form O3.out
      rw [← HNl.out] at hv
      subst hv
      obtain ⟨w4, hw4⟩ : ∃ y, y = w3.setCell ⟨w.heap.size, 3, none⟩ (.slice va nl vc) := ⟨_, rfl⟩
      have t0 : w4.heap[w.heap.size]? = some (.cells [Value.string iss, .int .i64 fr, .int .i64 till, .slice va nl vc, .int .i64 sk, .int .i64 se, .int .i64 ss].toArray 30 (0, 0)) := by rw [hw4]; exact rowSet (i := 3) _ r0
      have t1 : w4.heap[w.heap.size + 1]? = some (.cells [Value.string ⟨#[]⟩, .int .i64 0, .int .i64 0, .slice none 0 0, .int .i64 0, .int .i64 0, .int .i64 0].toArray 30 (0, 0)) := by rw [hw4, heap_setCell_other _ _ _ _ (by simp)]; exact r1
      have K4 : Hid (Below w.heap.size w w4) := by rw [hw4]; exact K3.out.setCell (by simp) _
      have O4 : Hid (OwnL w4 (w.heap.size + 2) (.slice va nl vc) serials) := O3.out.same fun b h1 h2 => by rw [hw4, heap_setCell_other _ _ _ _ (by show b ≠ w.heap.size; omega)]
      have c6 := rowFacts r0 3 _ rfl
      have f6 := rowFree r0 3
      have S0 : Hid _ := t0
      have S1 : Hid _ := t1
      clear r0 r1 t0 t1 K3 O3 z3
      go_upto_region 4 with fail
      rw [← hw4]
      clear hw4 c6 f6
      have c0 := rowFacts S0.out 0 _ rfl
      have c1 := rowFacts S0.out 1 _ rfl
      have c2 := rowFacts S0.out 2 _ rfl
      have c3 := rowFacts S0.out 3 _ rfl
      have c4 := rowFacts S0.out 4 _ rfl
      have c5 := rowFacts S0.out 5 _ rfl
      have c6 := rowFacts S0.out 6 _ rfl
      go_wp2_with fail
      refine (HBo'.out _ _ _ (OwnL.ints O4.out)).mono ?_
      rintro r w5 ⟨rfl, b5⟩
      have K5 : Hid (Below w.heap.size w w5) := K4.out.trans (b5.mono K4.out.size)
      have T0 : Hid (w5.heap[w.heap.size]? = some (.cells [Value.string iss, .int .i64 fr, .int .i64 till, .slice va nl vc, .int .i64 sk, .int .i64 se, .int .i64 ss].toArray 30 (0, 0))) := by show _ = _; rw [b5.block _ (heap_lt S0.out)]; exact S0.out
      have T1 : Hid (w5.heap[w.heap.size + 1]? = some (.cells [Value.string ⟨#[]⟩, .int .i64 0, .int .i64 0, .slice none 0 0, .int .i64 0, .int .i64 0, .int .i64 0].toArray 30 (0, 0))) := by show _ = _; rw [b5.block _ (heap_lt S1.out)]; exact S1.out
      have O5 : Hid (OwnL w5 (w.heap.size + 2) (.slice va nl vc) serials) := O4.out.keep b5
      clear b5 c0 c1 c2 c3 c4 c5 c6 S0 S1 K4 O4 HBo'
      go_wp2_with fail
      refine (HSg'.out _).mono ?_
      rintro r w6 ⟨rfl, b6⟩
      have K6 : Hid (Below w.heap.size w w6) := K5.out.trans (b6.mono K5.out.size)
      have r0 : w6.heap[w.heap.size]? = some (.cells [Value.string iss, .int .i64 fr, .int .i64 till, .slice va nl vc, .int .i64 sk, .int .i64 se, .int .i64 ss].toArray 30 (0, 0)) := by rw [b6.block _ (heap_lt T0.out)]; exact T0.out
      have r1 : w6.heap[w.heap.size + 1]? = some (.cells [Value.string ⟨#[]⟩, .int .i64 0, .int .i64 0, .slice none 0 0, .int .i64 0, .int .i64 0, .int .i64 0].toArray 30 (0, 0)) := by rw [b6.block _ (heap_lt T1.out)]; exact T1.out
      have O6 : Hid (OwnL w6 (w.heap.size + 2) (.slice va nl vc) serials) := O5.out.keep b6
      clear b6 T0 T1 K5 O5 HSg'
      obtain ⟨w7, hw7⟩ : ∃ y, y = ((w6.setCell ⟨w.heap.size, 4, none⟩ (.int .i64 k)).setCell ⟨w.heap.size, 5, none⟩ (.int .i64 e)).setCell ⟨w.heap.size, 6, none⟩ (.int .i64 s) := ⟨_, rfl⟩
      have t0 : w7.heap[w.heap.size]? = some (.cells [Value.string iss, .int .i64 fr, .int .i64 till, .slice va nl vc, .int .i64 k, .int .i64 e, .int .i64 s].toArray 30 (0, 0)) := by rw [hw7]; exact rowSet (i := 6) _ (rowSet (i := 5) _ (rowSet (i := 4) _ r0))
      have t1 : w7.heap[w.heap.size + 1]? = some (.cells [Value.string ⟨#[]⟩, .int .i64 0, .int .i64 0, .slice none 0 0, .int .i64 0, .int .i64 0, .int .i64 0].toArray 30 (0, 0)) := by rw [hw7, heap_setCell_other _ _ _ _ (by simp; try omega), heap_setCell_other _ _ _ _ (by simp; try omega), heap_setCell_other _ _ _ _ (by simp; try omega)]; exact r1
      have K7 : Hid (Below w.heap.size w w7) := by rw [hw7]; exact ((K6.out.setCell (by simp; try omega) _).setCell (by simp; try omega) _).setCell (by simp; try omega) _
      have O7 : Hid (OwnL w7 (w.heap.size + 2) (.slice va nl vc) serials) := O6.out.same fun b h1 h2 => by rw [hw7, heap_setCell_other _ _ _ _ (by show b ≠ w.heap.size; omega), heap_setCell_other _ _ _ _ (by show b ≠ w.heap.size; omega), heap_setCell_other _ _ _ _ (by show b ≠ w.heap.size; omega)]
      have p8 := rowFacts r0 4 _ rfl
      have p9 := rowFacts r0 5 _ rfl
      have p10 := rowFacts r0 6 _ rfl
      have q8 := rowFree r0 4
      have q9 := rowFree r0 5
      have q10 := rowFree r0 6
      have T0 : Hid _ := t0
      have T1 : Hid _ := t1
      clear r0 r1 t0 t1 K6 O6
      go_upto_region 5 with fail
      rw [← hw7]
      clear hw7 p8 p9 p10 q8 q9 q10
      obtain ⟨C, hC⟩ : ∃ C, C = [Value.string iss, .int .i64 fr, .int .i64 till, .slice va nl vc, .int .i64 k, .int .i64 e, .int .i64 s] := ⟨_, rfl⟩
      have hr := rangeRow T0.out
      rw [← hC] at hr
      have hR := T1.out
      have h1 : ∀ v ∈ C, v.oneCell' = true := by rw [hC]; simp [Value.oneCell']
      have hi : (Tryz.prog.info? 30).map (·.size) = some C.length := by rw [hC]; exact sizeCrl
      have HLen : Hid ([Value.string ⟨#[]⟩, .int .i64 0, .int .i64 0, .slice none 0 0, .int .i64 0, .int .i64 0, .int .i64 0].length = C.length) := by rw [hC]; rfl
      have HCC : Hid (C = [Value.string iss, .int .i64 fr, .int .i64 till, .slice va nl vc, .int .i64 k, .int .i64 e, .int .i64 s]) := hC
      clear hC
      go_wp2_with (first | (refine wpList_load_mid rfl 30 _ rfl (w.heap.size) 0 rfl C _ hr Tryz.underlying30 rfl hi ?_) | (refine wpList_store_row rfl 30 _ _ rfl (w.heap.size + 1) _ C 30 rfl rfl hR HLen.out hi h1 ?_))
      intro w8 hrow ho hs8 hbb
      have HROW : Hid _ := hrow
      have HB8 : Hid (Below w.heap.size w w8) := hbb _ _ (by omega) K7.out
      have O8 : Hid (OwnL w8 (w.heap.size + 2) (.slice va nl vc) serials) := O7.out.same fun b h1 h2 => ho b (by omega)
      clear ho hs8 hbb hrow hr hR h1
      go_wp2
      refine bodyPost_ret (v := .agg C.toArray) ?_ rfl ⟨.slice va nl vc, by rw [HF.out, HCC.out]; rfl, by rw [HF.out]; exact O8.out.mono (by omega), HB8.out⟩
      have hl3 := run_loadVar_mid (P := Tryz.prog) _ (w.heap.size + 1) 0 30 _ _ (rangeRow HROW.out) Tryz.underlying30 rfl hi
      simp [results, Tryz.results22, asAddr, hl3]
theorem specSignL (x : Int) (c : Lst) (g o cap : Nat) (k e s : Int) (w : World) (hi : c.issuer.size ≤ maxLen) (hl : c.serials.length ≤ 1048576) (hgw : g < w.heap.size) (hc : ∀ i, i < c.serials.length → w.cell? ⟨g, o + i, none⟩ = some (.int .i64 (c.serials.getD i 0)))
    (hv : secB x = true → listB c = true → signV x (listD c) = .agg #[.int .i64 k, .int .i64 e, .int .i64 s]) :
    Calls Tryz.prog 22 #[.int .i64 x, c.val (.slice (some ⟨g, o, none⟩) c.serials.length cap)] w fun r w' => ∃ v, r = .returned ((signL x c k e s).val v) ∧ OwnL w' w.heap.size v (signL x c k e s).serials ∧ Below w.heap.size w w' :=
  specSignLG x c _ cap k e s w hi hl (.inr ⟨g, o, rfl, hgw, hc⟩) hv
end Go.Proofs.YtegmmaomaegjjaaGreatDoor
