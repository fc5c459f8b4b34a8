/- spec.CrlSign, walked. impl.copyText, walked. impl.copyCrl, walked. FnExactNameRight, walks: 'impl.NameRight' answers true just where the text is a right name; the law. impl.isTime, isSerial, NameRight, walked. -/
import Derived.Test.YthofeoelndplpaaGreatDoorLSg05
import Derived.Test.YthofeoelndplpaaGreatDoorLSg06
import Derived.Test.YthofeoelndplpaaGreatDoorLSg07
import Derived.Test.YthofeoelndplpaaGreatDoorLSg09
import Derived.Test.YthofeoelndplpaaGreatDoorLSg04
import Derived.Deep.Cut
import Derived.Test.YthofeoelndplpaaGreatDoorLSg01
import Derived.Test.YthofeoelndplpaaGreatDoorLSg02
import Derived.WalkLawsBesides
namespace Go.Proofs.YthofeoelndplpaaGreatDoor
open Go.RowKit

set_option linter.unusedSimpArgs false in
set_option maxHeartbeats 4000000 in
set_option maxRecDepth 100000 in
theorem specSignL (x : Int) (c : Lst) (g o cap : Nat) (k e s : Int) (w : World) (hi : c.issuer.size ≤ maxLen) (hl : c.serials.length ≤ 1048576) (hgw : g < w.heap.size) (hc : ∀ i, i < c.serials.length → w.cell? ⟨g, o + i, none⟩ = some (.int .i64 (c.serials.getD i 0)))
    (hv : secB x = true → listB c = true → signV x (listD c) = .agg #[.int .i64 k, .int .i64 e, .int .i64 s]) :
    Calls Tryz.prog 21 #[.int .i64 x, c.val (.slice (some ⟨g, o, none⟩) c.serials.length cap)] w fun r w' => ∃ v, r = .returned ((signL x c k e s).val v) ∧ OwnL w' w.heap.size v (signL x c k e s).serials ∧ Below w.heap.size w w' := by
  have HP : Hid (∀ V a' cap', IsInts V a' c.serials → Calls Tryz.prog 47 #[c.val (.slice a' c.serials.length cap')] V fun e w' => e = .returned (.bool (listB c)) ∧ Below V.heap.size V w') := fun V a' cap' hV => specList c a' cap' V hi hl hV
  have HBo : Hid (listB c = true → ∀ V a' cap', IsInts V a' c.serials → Calls Tryz.prog 48 #[c.val (.slice a' c.serials.length cap')] V fun e w' => e = .returned (.string (listD c)) ∧ Below V.heap.size V w') := fun h V a' cap' hV => specListD c a' cap' V (list_fits h) hV
  have HSg : Hid (secB x = true → listB c = true → ∀ V, Calls Tryz.prog 32 #[.int .i64 x, .string (listD c)] V fun r w' => r = .returned (.agg #[.int .i64 k, .int .i64 e, .int .i64 s]) ∧ Below V.heap.size V w') := fun h1 h2 V => by
    have := specSign x (listD c) V (by have := listD_le (list_fits h2); unfold maxLen; omega)
    rw [hv h1 h2] at this
    exact this
  have HY : Hid (secB x = true → listB c = true → signL x c k e s = ⟨c.issuer, c.fr, c.till, c.serials, k, e, s⟩) := fun h1 h2 => signL_yes h1 h2 k e s
  have HNo : Hid (secB x = false ∨ listB c = false → signL x c k e s = zeroL) := fun h => signL_no h k e s
  have ha : IsInts w (some ⟨g, o, none⟩) c.serials := .inr ⟨g, o, rfl, hc⟩
  obtain ⟨i0, hi0, hz0, hz1, hz2⟩ := info_parts infoLong
  have HN : Hid (∀ V, Below w.heap.size w V → ∀ j u, (lCells c.serials)[j]? = some u → V.cell? ((⟨g, o, none⟩ : Addr).add j) = some u) := fun V hV j u hu => by
    rw [Addr.add_lit, hV.cell (p := ⟨g, o + j, none⟩) hgw]
    have hj : j < c.serials.length := by
      rcases Nat.lt_or_ge j c.serials.length with h | h
      · exact h
      · rw [List.getElem?_eq_none (by simpa [lCells] using h)] at hu; cases hu
    rw [hc j hj]
    rw [lCells_at hj] at hu
    exact hu
  generalize signL x c k e s = R at *
  generalize listB c = P at *
  generalize listD c = D at *
  clear hi hc hv hgw
  obtain ⟨iss, fr, till, serials, sk, se, ss⟩ := c
  unfold Lst.val at HP HBo
  simp only at HP HBo HY HN hl ha
  show Calls _ _ #[.int .i64 x, .agg #[.string iss, .int .i64 fr, .int .i64 till, .slice (some ⟨g, o, none⟩) serials.length cap, .int .i64 sk, .int .i64 se, .int .i64 ss]] _ _
  obtain ⟨nl, hnl⟩ : ∃ nl, nl = serials.length := ⟨_, rfl⟩
  rw [← hnl] at HP HBo hl ⊢
  have HNl : Hid (nl = serials.length) := hnl
  clear hnl
  obtain ⟨w1, hw1⟩ : ∃ w1, w1 = (w.alloc (.cells #[.string iss, .int .i64 fr, .int .i64 till, .slice (some ⟨g, o, none⟩) nl cap, .int .i64 sk, .int .i64 se, .int .i64 ss] 46 (0, 0))).alloc (.cells #[.string ⟨#[]⟩, .int .i64 0, .int .i64 0, .slice none 0 0, .int .i64 0, .int .i64 0, .int .i64 0] 46 (0, 0)) := ⟨_, rfl⟩
  have r0 : w1.heap[w.heap.size]? = some (.cells [Value.string iss, .int .i64 fr, .int .i64 till, .slice (some ⟨g, o, none⟩) nl cap, .int .i64 sk, .int .i64 se, .int .i64 ss].toArray 46 (0, 0)) := by rw [hw1, Below.heap_alloc _ _ _ (by simp)]; exact heap_alloc_new w _
  have r1 : w1.heap[w.heap.size + 1]? = some (.cells [Value.string ⟨#[]⟩, .int .i64 0, .int .i64 0, .slice none 0 0, .int .i64 0, .int .i64 0, .int .i64 0].toArray 46 (0, 0)) := by rw [hw1]; exact heap_alloc2 w _ _
  have B1 : Hid (Below w.heap.size w w1) := by rw [hw1]; exact ((Below.refl _ _).alloc (Nat.le_refl _) _).alloc (by simp) _
  have HRw : Hid (∀ V, Below w1.heap.size w1 V → V.heap[w.heap.size]? = some (.cells [Value.string iss, .int .i64 fr, .int .i64 till, .slice (some ⟨g, o, none⟩) nl cap, .int .i64 sk, .int .i64 se, .int .i64 ss].toArray 46 (0, 0)) ∧ V.heap[w.heap.size + 1]? = some (.cells [Value.string ⟨#[]⟩, .int .i64 0, .int .i64 0, .slice none 0 0, .int .i64 0, .int .i64 0, .int .i64 0].toArray 46 (0, 0))) := fun V hV => ⟨(hV.block _ (heap_lt r0)).trans r0, (hV.block _ (heap_lt r1)).trans r1⟩
  have HC : Hid (∀ V : World, V.heap[w.heap.size]? = some (.cells [Value.string iss, .int .i64 fr, .int .i64 till, .slice (some ⟨g, o, none⟩) nl cap, .int .i64 sk, .int .i64 se, .int .i64 ss].toArray 46 (0, 0)) → V.cell? ⟨w.heap.size, 0, none⟩ = some (.string iss) ∧ V.cell? ⟨w.heap.size, 1, none⟩ = some (.int .i64 fr) ∧ V.cell? ⟨w.heap.size, 2, none⟩ = some (.int .i64 till) ∧ V.cell? ⟨w.heap.size, 3, none⟩ = some (.slice (some ⟨g, o, none⟩) nl cap) ∧ V.cell? ⟨w.heap.size, 4, none⟩ = some (.int .i64 sk) ∧ V.cell? ⟨w.heap.size, 5, none⟩ = some (.int .i64 se) ∧ V.cell? ⟨w.heap.size, 6, none⟩ = some (.int .i64 ss)) := fun V hP => ⟨rowFacts hP 0 _ rfl, rowFacts hP 1 _ rfl, rowFacts hP 2 _ rfl, rowFacts hP 3 _ rfl, rowFacts hP 4 _ rfl, rowFacts hP 5 _ rfl, rowFacts hP 6 _ rfl⟩
  have HK : Hid (∀ V, Below w1.heap.size w1 V → V.cell? ⟨w.heap.size, 0, none⟩ = some (.string iss) ∧ V.cell? ⟨w.heap.size, 1, none⟩ = some (.int .i64 fr) ∧ V.cell? ⟨w.heap.size, 2, none⟩ = some (.int .i64 till) ∧ V.cell? ⟨w.heap.size, 3, none⟩ = some (.slice (some ⟨g, o, none⟩) nl cap) ∧ V.cell? ⟨w.heap.size, 4, none⟩ = some (.int .i64 sk) ∧ V.cell? ⟨w.heap.size, 5, none⟩ = some (.int .i64 se) ∧ V.cell? ⟨w.heap.size, 6, none⟩ = some (.int .i64 ss)) := fun V hV => HC.out V (HRw.out V hV).1
  have HB : Hid (∀ V, Below w1.heap.size w1 V → Below w.heap.size w V) := fun V hV => B1.out.trans (hV.mono B1.out.size)
  have Z1 : Hid (w1.heap.size = w.heap.size + 2) := by show _ = _; rw [hw1]; simp
  have I1 : Hid (Below w1.heap.size w1 w1) := Below.refl _ _
  have D1 : Hid (Below w1.heap.size w1 w1.drew) := I1.out.drew
  have A1 : Hid (IsInts w1 (some ⟨g, o, none⟩) serials) := ha.keep B1.out
  clear r0 r1 B1 ha
  go_enter Tryz.func21, Tryz.ntmps21
  go_upto_region 1 with fail
  rw [← hw1]
  clear hw1
  go_wp2_with fail
  refine (specSecret x _).mono ?_
  rintro r w1' ⟨rfl, h2w⟩
  subst w1'
  cases hx : secB x with
  | false =>
    have HF : Hid (R = zeroL) := HNo.out (.inl hx)
    have hR := (HRw.out _ I1.out).2
    have h1 : ∀ v ∈ [Value.string ⟨#[]⟩, .int .i64 0, .int .i64 0, .slice none 0 0, .int .i64 0, .int .i64 0, .int .i64 0], v.oneCell' = true := by simp [Value.oneCell']
    go_wp2_with (refine wpList_store_row rfl 46 _ _ rfl (w.heap.size + 1) _ [Value.string ⟨#[]⟩, .int .i64 0, .int .i64 0, .slice none 0 0, .int .i64 0, .int .i64 0, .int .i64 0] 46 rfl rfl hR rfl sizeCrl h1 ?_)
    intro w8 hrow ho hs8 hbb
    have HROW : Hid _ := hrow
    have HB8 : Hid (Below w.heap.size w w8) := hbb _ _ (by omega) (HB.out _ I1.out)
    clear ho hs8 hbb hrow hR h1
    go_wp2
    refine bodyPost_ret (v := .agg [Value.string ⟨#[]⟩, .int .i64 0, .int .i64 0, .slice none 0 0, .int .i64 0, .int .i64 0, .int .i64 0].toArray) ?_ rfl ⟨.slice none 0 0, by rw [HF.out]; rfl, by rw [HF.out]; exact ownL_nil _ _, HB8.out⟩
    have hl3 := run_loadVar_mid (P := Tryz.prog) _ (w.heap.size + 1) 0 46 _ _ (rangeRow HROW.out) Tryz.underlying46 rfl sizeCrl
    simp [results, Tryz.results21, asAddr, hl3]
  | true =>
    obtain ⟨c0, c1, c2, c3, c4, c5, c6⟩ := HK.out w1 I1.out
    go_wp2_with fail
    refine (HP.out _ _ _ A1.out).mono ?_
    rintro r w2 ⟨rfl, b2⟩
    have K2 : Hid (Below w1.heap.size w1 w2) := b2
    clear b2 c0 c1 c2 c3 c4 c5 c6 A1 HP
    cases P with
    | false =>
      have HF : Hid (R = zeroL) := HNo.out (.inr rfl)
      have hR := (HRw.out _ K2.out).2
      have h1 : ∀ v ∈ [Value.string ⟨#[]⟩, .int .i64 0, .int .i64 0, .slice none 0 0, .int .i64 0, .int .i64 0, .int .i64 0], v.oneCell' = true := by simp [Value.oneCell']
      go_wp2_with (refine wpList_store_row rfl 46 _ _ rfl (w.heap.size + 1) _ [Value.string ⟨#[]⟩, .int .i64 0, .int .i64 0, .slice none 0 0, .int .i64 0, .int .i64 0, .int .i64 0] 46 rfl rfl hR rfl sizeCrl h1 ?_)
      intro w8 hrow ho hs8 hbb
      have HROW : Hid _ := hrow
      have HB8 : Hid (Below w.heap.size w w8) := hbb _ _ (by omega) (HB.out _ K2.out)
      clear ho hs8 hbb hrow hR h1
      go_wp2
      refine bodyPost_ret (v := .agg [Value.string ⟨#[]⟩, .int .i64 0, .int .i64 0, .slice none 0 0, .int .i64 0, .int .i64 0, .int .i64 0].toArray) ?_ rfl ⟨.slice none 0 0, by rw [HF.out]; rfl, by rw [HF.out]; exact ownL_nil _ _, HB8.out⟩
      have hl3 := run_loadVar_mid (P := Tryz.prog) _ (w.heap.size + 1) 0 46 _ _ (rangeRow HROW.out) Tryz.underlying46 rfl sizeCrl
      simp [results, Tryz.results21, asAddr, hl3]
    | true =>
      have hY := HY.out hx rfl
      have HF : Hid (R = ⟨iss, fr, till, serials, k, e, s⟩) := hY
      have B' := HBo.out rfl
      have HBo' : Hid _ := B'
      have G' := HSg.out hx rfl
      have HSg' : Hid _ := G'
      clear HY HNo HBo HSg hY B' G'
      obtain ⟨r0, r1⟩ := HRw.out w2 K2.out
      have KW : Hid (Below w.heap.size w w2) := HB.out _ K2.out
      have z1 : w.heap.size + 2 ≤ w2.heap.size := by have := K2.out.size; have := Z1.out; omega
      have c6 := rowFacts r0 3 _ rfl
      have c6a : ∀ ob, (w2.alloc ob).cell? ⟨w.heap.size, 3, none⟩ = some (.slice (some ⟨g, o, none⟩) nl cap) := fun ob => by rw [World.cell?_alloc_lt _ _ _ (by show w.heap.size < w2.heap.size; omega)]; exact c6
      have hown : (w2.alloc (.cells #[] 2 (0, 0))).ownsRow (w.heap.size + 2) 2 1 (.slice (some ⟨w2.heap.size, 0, none⟩) 0 0) 0 [] := by
        have := World.ownsRow_lit (base := w.heap.size + 2) (e := 2) (size := 1) w2 #[] 0 (by omega) (by decide) rfl
        simpa using this
      have hnews := HN.out _ (KW.out.alloc KW.out.size (.cells #[] 2 (0, 0)))
      have R0 : Hid _ := r0
      have R1 : Hid _ := r1
      have Z2 : Hid (w.heap.size + 2 ≤ w2.heap.size) := z1
      clear r0 r1 z1
      go_wp2_with (at_builtin; refine wpList_append_own _ rfl _ _ 41 rfl (w.heap.size + 2) 2 i0 (.int .i64 0) 1 8 Tryz.underlying41 hi0 hz0 hz1 hz2 rfl (by decide) _ _ _ rfl hown ⟨g, o, none⟩ nl cap (lCells serials) rfl ?c0 hnews ?c2 ?c3 ?c4 ?c5 ?_)
      case c0 => rw [HNl.out]; simp [lCells]
      case c2 => exact oneCell_ints .i64 serials
      case c3 => unfold maxLen; omega
      case c4 => omega
      case c5 => have := Z2.out; simp; omega
      intro v' w3 hown' hgrow hnil
      have z3 : w.heap.size + 2 ≤ w3.heap.size := by have h := hgrow.size; simp at h; have := Z2.out; omega
      have hkeep : ∀ b, b < w.heap.size + 2 → w3.heap[b]? = w2.heap[b]? := fun b hb => by
        rw [hgrow.block b (by have := Z2.out; simp; omega) (fun e => by have h := (hown.lt b e.symm).1; omega)]
        exact Below.heap_alloc _ _ _ (by have := Z2.out; omega)
      have r0 : w3.heap[w.heap.size]? = some (.cells [Value.string iss, .int .i64 fr, .int .i64 till, .slice (some ⟨g, o, none⟩) nl cap, .int .i64 sk, .int .i64 se, .int .i64 ss].toArray 46 (0, 0)) := by rw [hkeep _ (by omega)]; exact R0.out
      have r1 : w3.heap[w.heap.size + 1]? = some (.cells [Value.string ⟨#[]⟩, .int .i64 0, .int .i64 0, .slice none 0 0, .int .i64 0, .int .i64 0, .int .i64 0].toArray 46 (0, 0)) := by rw [hkeep _ (by omega)]; exact R1.out
      have K3 : Hid (Below w.heap.size w w3) := (KW.out.alloc KW.out.size _).grown hgrow (by have := Z2.out; simp; omega) (fun k hk => by have := (hown.lt k hk).1; omega)
      have O3 : Hid (OwnL w3 (w.heap.size + 2) v' serials) := by
        show World.ownsRow _ _ _ _ _ _ _
        rw [← HNl.out]
        simpa using hown'
      clear hown' hgrow hnil hkeep hown hnews c6a c6 R0 R1 K2 Z2 HN KW
      obtain ⟨va, vc, hv, _⟩ := OwnL.form O3.out
      rw [← HNl.out] at hv
      subst hv
      obtain ⟨w4, hw4⟩ : ∃ y, y = w3.setCell ⟨w.heap.size, 3, none⟩ (.slice va nl vc) := ⟨_, rfl⟩
      have t0 : w4.heap[w.heap.size]? = some (.cells [Value.string iss, .int .i64 fr, .int .i64 till, .slice va nl vc, .int .i64 sk, .int .i64 se, .int .i64 ss].toArray 46 (0, 0)) := by rw [hw4]; exact rowSet (i := 3) _ r0
      have t1 : w4.heap[w.heap.size + 1]? = some (.cells [Value.string ⟨#[]⟩, .int .i64 0, .int .i64 0, .slice none 0 0, .int .i64 0, .int .i64 0, .int .i64 0].toArray 46 (0, 0)) := by rw [hw4, heap_setCell_other _ _ _ _ (by simp)]; exact r1
      have K4 : Hid (Below w.heap.size w w4) := by rw [hw4]; exact K3.out.setCell (by simp) _
      have O4 : Hid (OwnL w4 (w.heap.size + 2) (.slice va nl vc) serials) := O3.out.same fun b h1 h2 => by rw [hw4, heap_setCell_other _ _ _ _ (by show b ≠ w.heap.size; omega)]
      have c6 := rowFacts r0 3 _ rfl
      have f6 := rowFree r0 3
      have S0 : Hid _ := t0
      have S1 : Hid _ := t1
      clear r0 r1 t0 t1 K3 O3 z3
      go_upto_region 4 with fail
      rw [← hw4]
      clear hw4 c6 f6
      have c0 := rowFacts S0.out 0 _ rfl
      have c1 := rowFacts S0.out 1 _ rfl
      have c2 := rowFacts S0.out 2 _ rfl
      have c3 := rowFacts S0.out 3 _ rfl
      have c4 := rowFacts S0.out 4 _ rfl
      have c5 := rowFacts S0.out 5 _ rfl
      have c6 := rowFacts S0.out 6 _ rfl
      go_wp2_with fail
      refine (HBo'.out _ _ _ (OwnL.ints O4.out)).mono ?_
      rintro r w5 ⟨rfl, b5⟩
      have K5 : Hid (Below w.heap.size w w5) := K4.out.trans (b5.mono K4.out.size)
      have T0 : Hid (w5.heap[w.heap.size]? = some (.cells [Value.string iss, .int .i64 fr, .int .i64 till, .slice va nl vc, .int .i64 sk, .int .i64 se, .int .i64 ss].toArray 46 (0, 0))) := by show _ = _; rw [b5.block _ (heap_lt S0.out)]; exact S0.out
      have T1 : Hid (w5.heap[w.heap.size + 1]? = some (.cells [Value.string ⟨#[]⟩, .int .i64 0, .int .i64 0, .slice none 0 0, .int .i64 0, .int .i64 0, .int .i64 0].toArray 46 (0, 0))) := by show _ = _; rw [b5.block _ (heap_lt S1.out)]; exact S1.out
      have O5 : Hid (OwnL w5 (w.heap.size + 2) (.slice va nl vc) serials) := O4.out.keep b5
      clear b5 c0 c1 c2 c3 c4 c5 c6 S0 S1 K4 O4 HBo'
      go_wp2_with fail
      refine (HSg'.out _).mono ?_
      rintro r w6 ⟨rfl, b6⟩
      have K6 : Hid (Below w.heap.size w w6) := K5.out.trans (b6.mono K5.out.size)
      have r0 : w6.heap[w.heap.size]? = some (.cells [Value.string iss, .int .i64 fr, .int .i64 till, .slice va nl vc, .int .i64 sk, .int .i64 se, .int .i64 ss].toArray 46 (0, 0)) := by rw [b6.block _ (heap_lt T0.out)]; exact T0.out
      have r1 : w6.heap[w.heap.size + 1]? = some (.cells [Value.string ⟨#[]⟩, .int .i64 0, .int .i64 0, .slice none 0 0, .int .i64 0, .int .i64 0, .int .i64 0].toArray 46 (0, 0)) := by rw [b6.block _ (heap_lt T1.out)]; exact T1.out
      have O6 : Hid (OwnL w6 (w.heap.size + 2) (.slice va nl vc) serials) := O5.out.keep b6
      clear b6 T0 T1 K5 O5 HSg'
      obtain ⟨w7, hw7⟩ : ∃ y, y = ((w6.setCell ⟨w.heap.size, 4, none⟩ (.int .i64 k)).setCell ⟨w.heap.size, 5, none⟩ (.int .i64 e)).setCell ⟨w.heap.size, 6, none⟩ (.int .i64 s) := ⟨_, rfl⟩
      have t0 : w7.heap[w.heap.size]? = some (.cells [Value.string iss, .int .i64 fr, .int .i64 till, .slice va nl vc, .int .i64 k, .int .i64 e, .int .i64 s].toArray 46 (0, 0)) := by rw [hw7]; exact rowSet (i := 6) _ (rowSet (i := 5) _ (rowSet (i := 4) _ r0))
      have t1 : w7.heap[w.heap.size + 1]? = some (.cells [Value.string ⟨#[]⟩, .int .i64 0, .int .i64 0, .slice none 0 0, .int .i64 0, .int .i64 0, .int .i64 0].toArray 46 (0, 0)) := by rw [hw7, heap_setCell_other _ _ _ _ (by simp; try omega), heap_setCell_other _ _ _ _ (by simp; try omega), heap_setCell_other _ _ _ _ (by simp; try omega)]; exact r1
      have K7 : Hid (Below w.heap.size w w7) := by rw [hw7]; exact ((K6.out.setCell (by simp; try omega) _).setCell (by simp; try omega) _).setCell (by simp; try omega) _
      have O7 : Hid (OwnL w7 (w.heap.size + 2) (.slice va nl vc) serials) := O6.out.same fun b h1 h2 => by rw [hw7, heap_setCell_other _ _ _ _ (by show b ≠ w.heap.size; omega), heap_setCell_other _ _ _ _ (by show b ≠ w.heap.size; omega), heap_setCell_other _ _ _ _ (by show b ≠ w.heap.size; omega)]
      have p8 := rowFacts r0 4 _ rfl
      have p9 := rowFacts r0 5 _ rfl
      have p10 := rowFacts r0 6 _ rfl
      have q8 := rowFree r0 4
      have q9 := rowFree r0 5
      have q10 := rowFree r0 6
      have T0 : Hid _ := t0
      have T1 : Hid _ := t1
      clear r0 r1 t0 t1 K6 O6
      go_upto_region 5 with fail
      rw [← hw7]
      clear hw7 p8 p9 p10 q8 q9 q10
      obtain ⟨C, hC⟩ : ∃ C, C = [Value.string iss, .int .i64 fr, .int .i64 till, .slice va nl vc, .int .i64 k, .int .i64 e, .int .i64 s] := ⟨_, rfl⟩
      have hr := rangeRow T0.out
      rw [← hC] at hr
      have hR := T1.out
      have h1 : ∀ v ∈ C, v.oneCell' = true := by rw [hC]; simp [Value.oneCell']
      have hi : (Tryz.prog.info? 46).map (·.size) = some C.length := by rw [hC]; exact sizeCrl
      have HLen : Hid ([Value.string ⟨#[]⟩, .int .i64 0, .int .i64 0, .slice none 0 0, .int .i64 0, .int .i64 0, .int .i64 0].length = C.length) := by rw [hC]; rfl
      have HCC : Hid (C = [Value.string iss, .int .i64 fr, .int .i64 till, .slice va nl vc, .int .i64 k, .int .i64 e, .int .i64 s]) := hC
      clear hC
      go_wp2_with (first | (refine wpList_load_mid rfl 46 _ rfl (w.heap.size) 0 rfl C _ hr Tryz.underlying46 rfl hi ?_) | (refine wpList_store_row rfl 46 _ _ rfl (w.heap.size + 1) _ C 46 rfl rfl hR HLen.out hi h1 ?_))
      intro w8 hrow ho hs8 hbb
      have HROW : Hid _ := hrow
      have HB8 : Hid (Below w.heap.size w w8) := hbb _ _ (by omega) K7.out
      have O8 : Hid (OwnL w8 (w.heap.size + 2) (.slice va nl vc) serials) := O7.out.same fun b h1 h2 => ho b (by omega)
      clear ho hs8 hbb hrow hr hR h1
      go_wp2
      refine bodyPost_ret (v := .agg C.toArray) ?_ rfl ⟨.slice va nl vc, by rw [HF.out, HCC.out]; rfl, by rw [HF.out]; exact O8.out.mono (by omega), HB8.out⟩
      have hl3 := run_loadVar_mid (P := Tryz.prog) _ (w.heap.size + 1) 0 46 _ _ (rangeRow HROW.out) Tryz.underlying46 rfl hi
      simp [results, Tryz.results21, asAddr, hl3]
end Go.Proofs.YthofeoelndplpaaGreatDoor
namespace Go.Proofs.YthofeoelndplpaaGreatDoor
open Go.RowKit Go.Lib

set_option maxHeartbeats 1000000 in
set_option maxRecDepth 100000 in
theorem copyText (a : ByteArray) (w : World) (ha : a.size ≤ 1100000) :
    Calls Tryz.prog 72 #[.string a] w fun e w' => e = .returned (.string a) ∧ Below w.heap.size w w' := by
  obtain ⟨i0, hi, hz0, hz1, hz2⟩ := info_parts infoByte
  go_enter Tryz.func72, Tryz.ntmps72
  go_wp2_with (at_make; refine wpList_make_full _ rfl _ _ 90 rfl w.heap.size 5 i0 (.int .u8 0) 1 Tryz.underlying90 hi hz0 hz1 .i64 .i64 _ _ a.size rfl rfl ?c1 ?c2 ?c3 ?c4 ?c5 ?_)
  case c1 => omega
  case c2 => omega
  case c3 => rw [hz2]; omega
  case c4 => unfold maxLen; omega
  case c5 => exact Nat.le_refl _
  intro w1 hown hgrow
  obtain ⟨hrow, hlen⟩ := rowOf hown rfl
  have hB1 : Below w.heap.size w w1 := (Below.refl _ w).grown hgrow (Nat.le_refl _) (fun k hk => by cases hk)
  generalize (madeCells #[Value.int IntKind.u8 0] a.size).toList = L at hrow hlen
  have la : (byteCells a.data.toList).length = a.size := by rw [byteCells_length, ← size_eq]
  have HF : Hid (∀ w3 : World, w3.heap[w.heap.size]? = some (.cells (splice L 0 (byteCells a.data.toList)).toArray 5 (0, 0)) →
      (convert 90 9 (.slice (some ⟨w.heap.size, 0, none⟩) a.size a.size)).run Tryz.prog w3 = .ok (.string a) w3) := by
    intro w3 h3
    rw [splice_one L (byteCells a.data.toList) (by omega)] at h3
    have h4 : w3.heap[w.heap.size]? = some (.cells (byteCells a.data.toList ++ []).toArray 5 (0, 0)) := by simpa using h3
    have := run_convert_row (P := Tryz.prog) (src := 90) (dst := 9) (cap := a.size) Tryz.underlying90 Tryz.underlying5 Tryz.underlying9 h4
    rw [← size_eq] at this
    exact this
  clear hown hgrow la
  go_wp2_with (refine wpList_copy_str rfl _ _ 90 9 rfl 5 Tryz.underlying90 byteSize _ _ _ a rfl rfl w.heap.size 0 L 5 hrow (fun _ => rfl) ?d2 ?d3 w.heap.size w hB1 (Nat.le_refl _) ?_)
  case d2 => exact Nat.le_refl _
  case d3 => omega
  intro w2 H2 hB2 hs2
  have hcv := HF.out w2 H2.out
  clear hrow hB1 hs2
  go_wp2
  go_ret
  exact ⟨rfl, hB2⟩

end Go.Proofs.YthofeoelndplpaaGreatDoor
namespace Go.Proofs.YthofeoelndplpaaGreatDoor
open Go.RowKit

set_option linter.unusedSimpArgs false in
set_option maxHeartbeats 4000000 in
set_option maxRecDepth 100000 in
theorem copyCrl (c : Lst) (g o cap : Nat) (w : World) (hi : c.issuer.size ≤ 1048576) (hl : c.serials.length ≤ 1048576) (hgw : g < w.heap.size) (hc : ∀ i, i < c.serials.length → w.cell? ⟨g, o + i, none⟩ = some (.int .i64 (c.serials.getD i 0))) :
    Calls Tryz.prog 52 #[c.val (.slice (some ⟨g, o, none⟩) c.serials.length cap)] w fun e w' => ∃ v, e = .returned (c.val v) ∧ OwnL w' w.heap.size v c.serials ∧ Below w.heap.size w w' := by
  have HC' : Hid (∀ V (t : ByteArray), t.size ≤ 1048576 → Calls Tryz.prog 72 #[.string t] V fun e w' => e = .returned (.string t) ∧ Below V.heap.size V w') := fun V t h => copyText t V (by omega)
  obtain ⟨i0, hi0, hz0, hz1, hz2⟩ := info_parts infoLong
  have HN : Hid (∀ V, Below w.heap.size w V → ∀ j u, (lCells c.serials)[j]? = some u → V.cell? ((⟨g, o, none⟩ : Addr).add j) = some u) := fun V hV j u hu => by
    rw [Addr.add_lit, hV.cell (p := ⟨g, o + j, none⟩) hgw]
    have hj : j < c.serials.length := by
      rcases Nat.lt_or_ge j c.serials.length with h | h
      · exact h
      · rw [List.getElem?_eq_none (by simpa [lCells] using h)] at hu; cases hu
    rw [hc j hj]
    rw [lCells_at hj] at hu
    exact hu
  clear hc hgw
  obtain ⟨iss, fr, till, serials, sk, se, ss⟩ := c
  unfold Lst.val
  simp only at hi hl HN ⊢
  obtain ⟨nl, hnl⟩ : ∃ nl, nl = serials.length := ⟨_, rfl⟩
  rw [← hnl] at hl ⊢
  have HNl : Hid (nl = serials.length) := hnl
  clear hnl
  obtain ⟨w1, hw1⟩ : ∃ w1, w1 = (w.alloc (.cells #[.string iss, .int .i64 fr, .int .i64 till, .slice (some ⟨g, o, none⟩) nl cap, .int .i64 sk, .int .i64 se, .int .i64 ss] 46 (0, 0))).alloc (.cells #[.string ⟨#[]⟩, .int .i64 0, .int .i64 0, .slice none 0 0, .int .i64 0, .int .i64 0, .int .i64 0] 46 (0, 0)) := ⟨_, rfl⟩
  have r0 : w1.heap[w.heap.size]? = some (.cells [Value.string iss, .int .i64 fr, .int .i64 till, .slice (some ⟨g, o, none⟩) nl cap, .int .i64 sk, .int .i64 se, .int .i64 ss].toArray 46 (0, 0)) := by rw [hw1, Below.heap_alloc _ _ _ (by simp)]; exact heap_alloc_new w _
  have r1 : w1.heap[w.heap.size + 1]? = some (.cells [Value.string ⟨#[]⟩, .int .i64 0, .int .i64 0, .slice none 0 0, .int .i64 0, .int .i64 0, .int .i64 0].toArray 46 (0, 0)) := by rw [hw1]; exact heap_alloc2 w _ _
  have B1 : Hid (Below w.heap.size w w1) := by rw [hw1]; exact ((Below.refl _ _).alloc (Nat.le_refl _) _).alloc (by simp) _
  have HRw : Hid (∀ V, Below w1.heap.size w1 V → V.heap[w.heap.size]? = some (.cells [Value.string iss, .int .i64 fr, .int .i64 till, .slice (some ⟨g, o, none⟩) nl cap, .int .i64 sk, .int .i64 se, .int .i64 ss].toArray 46 (0, 0)) ∧ V.heap[w.heap.size + 1]? = some (.cells [Value.string ⟨#[]⟩, .int .i64 0, .int .i64 0, .slice none 0 0, .int .i64 0, .int .i64 0, .int .i64 0].toArray 46 (0, 0))) := fun V hV => ⟨(hV.block _ (heap_lt r0)).trans r0, (hV.block _ (heap_lt r1)).trans r1⟩
  have HC : Hid (∀ V : World, V.heap[w.heap.size]? = some (.cells [Value.string iss, .int .i64 fr, .int .i64 till, .slice (some ⟨g, o, none⟩) nl cap, .int .i64 sk, .int .i64 se, .int .i64 ss].toArray 46 (0, 0)) → V.cell? ⟨w.heap.size, 0, none⟩ = some (.string iss) ∧ V.cell? ⟨w.heap.size, 1, none⟩ = some (.int .i64 fr) ∧ V.cell? ⟨w.heap.size, 2, none⟩ = some (.int .i64 till) ∧ V.cell? ⟨w.heap.size, 3, none⟩ = some (.slice (some ⟨g, o, none⟩) nl cap) ∧ V.cell? ⟨w.heap.size, 4, none⟩ = some (.int .i64 sk) ∧ V.cell? ⟨w.heap.size, 5, none⟩ = some (.int .i64 se) ∧ V.cell? ⟨w.heap.size, 6, none⟩ = some (.int .i64 ss)) := fun V hP => ⟨rowFacts hP 0 _ rfl, rowFacts hP 1 _ rfl, rowFacts hP 2 _ rfl, rowFacts hP 3 _ rfl, rowFacts hP 4 _ rfl, rowFacts hP 5 _ rfl, rowFacts hP 6 _ rfl⟩
  have HK : Hid (∀ V, Below w1.heap.size w1 V → V.cell? ⟨w.heap.size, 0, none⟩ = some (.string iss) ∧ V.cell? ⟨w.heap.size, 1, none⟩ = some (.int .i64 fr) ∧ V.cell? ⟨w.heap.size, 2, none⟩ = some (.int .i64 till) ∧ V.cell? ⟨w.heap.size, 3, none⟩ = some (.slice (some ⟨g, o, none⟩) nl cap) ∧ V.cell? ⟨w.heap.size, 4, none⟩ = some (.int .i64 sk) ∧ V.cell? ⟨w.heap.size, 5, none⟩ = some (.int .i64 se) ∧ V.cell? ⟨w.heap.size, 6, none⟩ = some (.int .i64 ss)) := fun V hV => HC.out V (HRw.out V hV).1
  have HB : Hid (∀ V, Below w1.heap.size w1 V → Below w.heap.size w V) := fun V hV => B1.out.trans (hV.mono B1.out.size)
  have Z1 : Hid (w1.heap.size = w.heap.size + 2) := by show _ = _; rw [hw1]; simp
  have I1 : Hid (Below w1.heap.size w1 w1) := Below.refl _ _
  have D1 : Hid (Below w1.heap.size w1 w1.drew) := I1.out.drew
  clear r0 r1 B1
  go_enter Tryz.func52, Tryz.ntmps52
  go_upto_region 1 with fail
  rw [← hw1]
  clear hw1
  obtain ⟨c0, c1, c2, c3, c4, c5, c6⟩ := HK.out w1 I1.out
  go_wp2_with fail
  refine (HC'.out _ iss hi).mono ?_
  rintro e w2 ⟨rfl, b2⟩
  have K2 : Hid (Below w1.heap.size w1 w2) := b2
  clear b2 c0 c1 c2 c3 c4 c5 c6
  obtain ⟨r0, r1⟩ := HRw.out w2 K2.out
  obtain ⟨w3, hw3⟩ : ∃ y, y = w2.setCell ⟨w.heap.size, 0, none⟩ (.string iss) := ⟨_, rfl⟩
  have t0 : w3.heap[w.heap.size]? = some (.cells [Value.string iss, .int .i64 fr, .int .i64 till, .slice (some ⟨g, o, none⟩) nl cap, .int .i64 sk, .int .i64 se, .int .i64 ss].toArray 46 (0, 0)) := by rw [hw3]; exact rowSet (i := 0) _ r0
  have t1 : w3.heap[w.heap.size + 1]? = some (.cells [Value.string ⟨#[]⟩, .int .i64 0, .int .i64 0, .slice none 0 0, .int .i64 0, .int .i64 0, .int .i64 0].toArray 46 (0, 0)) := by rw [hw3, heap_setCell_other _ _ _ _ (by simp)]; exact r1
  have K3 : Hid (Below w.heap.size w w3) := by rw [hw3]; exact (HB.out _ K2.out).setCell (by simp) _
  have z3 : w.heap.size + 2 ≤ w3.heap.size := by rw [hw3]; have := K2.out.size; have := Z1.out; simp; omega
  have c6 := rowFacts r0 0 _ rfl
  have f6 := rowFree r0 0
  have S0 : Hid _ := t0
  have S1 : Hid _ := t1
  clear r0 r1 t0 t1
  go_upto_region 2 with fail
  rw [← hw3]
  clear hw3 c6 f6
  have c6 := rowFacts S0.out 3 _ rfl
  have hown : w3.ownsRow (w.heap.size + 2) 2 1 (.slice none 0 0) 0 [] := ⟨rfl, .inl ⟨rfl, rfl⟩⟩
  have hnews := HN.out _ K3.out
  have Z3 : Hid (w.heap.size + 2 ≤ w3.heap.size) := z3
  clear z3
  go_wp2_with (at_builtin; refine wpList_append_own _ rfl _ _ 41 rfl (w.heap.size + 2) 2 i0 (.int .i64 0) 1 8 Tryz.underlying41 hi0 hz0 hz1 hz2 rfl (by decide) _ _ _ rfl hown ⟨g, o, none⟩ nl cap (lCells serials) rfl ?c0 hnews ?c2 ?c3 ?c4 ?c5 ?_)
  case c0 => rw [HNl.out]; simp [lCells]
  case c2 => exact oneCell_ints .i64 serials
  case c3 => unfold maxLen; omega
  case c4 => omega
  case c5 => have := Z3.out; omega
  intro v' w4 hown' hgrow hnil
  have hkeep : ∀ b, b < w.heap.size + 2 → w4.heap[b]? = w3.heap[b]? := fun b hb => hgrow.block b (by have := Z3.out; omega) (fun e => by have h := (hown.lt b e.symm).1; omega)
  have r0 : w4.heap[w.heap.size]? = some (.cells [Value.string iss, .int .i64 fr, .int .i64 till, .slice (some ⟨g, o, none⟩) nl cap, .int .i64 sk, .int .i64 se, .int .i64 ss].toArray 46 (0, 0)) := by rw [hkeep _ (by omega)]; exact S0.out
  have r1 : w4.heap[w.heap.size + 1]? = some (.cells [Value.string ⟨#[]⟩, .int .i64 0, .int .i64 0, .slice none 0 0, .int .i64 0, .int .i64 0, .int .i64 0].toArray 46 (0, 0)) := by rw [hkeep _ (by omega)]; exact S1.out
  have K4 : Hid (Below w.heap.size w w4) := K3.out.grown hgrow (by have := Z3.out; omega) (fun k hk => by have := (hown.lt k hk).1; omega)
  have O4 : Hid (OwnL w4 (w.heap.size + 2) v' serials) := by
    show World.ownsRow _ _ _ _ _ _ _
    rw [← HNl.out]
    simpa using hown'
  clear hown' hgrow hnil hkeep hown hnews c6 S0 S1 K2 K3 HN
  obtain ⟨va, vc, hv, _⟩ := OwnL.form O4.out
  rw [← HNl.out] at hv
  subst hv
  obtain ⟨w7, hw7⟩ : ∃ y, y = w4.setCell ⟨w.heap.size, 3, none⟩ (.slice va nl vc) := ⟨_, rfl⟩
  have t0 : w7.heap[w.heap.size]? = some (.cells [Value.string iss, .int .i64 fr, .int .i64 till, .slice va nl vc, .int .i64 sk, .int .i64 se, .int .i64 ss].toArray 46 (0, 0)) := by rw [hw7]; exact rowSet (i := 3) _ r0
  have t1 : w7.heap[w.heap.size + 1]? = some (.cells [Value.string ⟨#[]⟩, .int .i64 0, .int .i64 0, .slice none 0 0, .int .i64 0, .int .i64 0, .int .i64 0].toArray 46 (0, 0)) := by rw [hw7, heap_setCell_other _ _ _ _ (by simp)]; exact r1
  have K7 : Hid (Below w.heap.size w w7) := by rw [hw7]; exact K4.out.setCell (by simp) _
  have O7 : Hid (OwnL w7 (w.heap.size + 2) (.slice va nl vc) serials) := O4.out.same fun b h1 h2 => by rw [hw7, heap_setCell_other _ _ _ _ (by show b ≠ w.heap.size; omega)]
  have c6 := rowFacts r0 3 _ rfl
  have f6 := rowFree r0 3
  have T0 : Hid _ := t0
  have T1 : Hid _ := t1
  clear r0 r1 t0 t1 K4 O4
  go_upto_region 3 with fail
  rw [← hw7]
  clear hw7 c6 f6
  obtain ⟨C, hC⟩ : ∃ C, C = [Value.string iss, .int .i64 fr, .int .i64 till, .slice va nl vc, .int .i64 sk, .int .i64 se, .int .i64 ss] := ⟨_, rfl⟩
  have hr := rangeRow T0.out
  rw [← hC] at hr
  have hR := T1.out
  have h1 : ∀ v ∈ C, v.oneCell' = true := by rw [hC]; simp [Value.oneCell']
  have hi : (Tryz.prog.info? 46).map (·.size) = some C.length := by rw [hC]; exact sizeCrl
  have HLen : Hid ([Value.string ⟨#[]⟩, .int .i64 0, .int .i64 0, .slice none 0 0, .int .i64 0, .int .i64 0, .int .i64 0].length = C.length) := by rw [hC]; rfl
  have HCC : Hid (C = [Value.string iss, .int .i64 fr, .int .i64 till, .slice va nl vc, .int .i64 sk, .int .i64 se, .int .i64 ss]) := hC
  clear hC
  go_wp2_with (first | (refine wpList_load_mid rfl 46 _ rfl (w.heap.size) 0 rfl C _ hr Tryz.underlying46 rfl hi ?_) | (refine wpList_store_row rfl 46 _ _ rfl (w.heap.size + 1) _ C 46 rfl rfl hR HLen.out hi h1 ?_))
  intro w8 hrow ho hs8 hbb
  have HROW : Hid _ := hrow
  have HB8 : Hid (Below w.heap.size w w8) := hbb _ _ (by omega) K7.out
  have O8 : Hid (OwnL w8 (w.heap.size + 2) (.slice va nl vc) serials) := O7.out.same fun b h1 h2 => ho b (by omega)
  clear ho hs8 hbb hrow hr hR h1
  go_wp2
  refine bodyPost_ret (v := .agg C.toArray) ?_ rfl ⟨_, by rw [HCC.out], O8.out.mono (by omega), HB8.out⟩
  have hl3 := run_loadVar_mid (P := Tryz.prog) _ (w.heap.size + 1) 0 46 _ _ (rangeRow HROW.out) Tryz.underlying46 rfl hi
  simp [results, Tryz.results52, asAddr, hl3]
end Go.Proofs.YthofeoelndplpaaGreatDoor
namespace Go.Proofs.YthofeoelndplpaaGreatDoor
open Go.RowKit

theorem isLetter (n : Int) (w : World) : Calls Tryz.prog 126 #[.int .u8 n] w fun e w' => e = .returned (.bool (decide (97 ≤ n) && decide (n ≤ 122))) ∧ w' = w := by
  by_cases h1 : 97 ≤ n
  · by_cases h2 : n ≤ 122
    all_goals
      go_enter Tryz.func126, Tryz.ntmps126
      go_wp2
      go_ret
      exact ⟨by simp [h1, h2], rfl⟩
  · go_enter Tryz.func126, Tryz.ntmps126
    go_wp2
    go_ret
    exact ⟨by simp; omega, rfl⟩
theorem isDigit (n : Int) (w : World) : Calls Tryz.prog 127 #[.int .u8 n] w fun e w' => e = .returned (.bool (decide (48 ≤ n) && decide (n ≤ 57))) ∧ w' = w := by
  by_cases h1 : 48 ≤ n
  · by_cases h2 : n ≤ 57
    all_goals
      go_enter Tryz.func127, Tryz.ntmps127
      go_wp2
      go_ret
      exact ⟨by simp [h1, h2], rfl⟩
  · go_enter Tryz.func127, Tryz.ntmps127
    go_wp2
    go_ret
    exact ⟨by simp; omega, rfl⟩

set_option maxHeartbeats 1000000 in
theorem implName (s : ByteArray) (w : World) (hs : s.size ≤ maxLen) :
    Calls Tryz.prog 107 #[.string s] w fun e w' => AnsB (NameOk s) e ∧ w' = w := by
  unfold maxLen at hs
  by_cases h1 : s.size < 1
  · go_enter Tryz.func107, Tryz.ntmps107
    go_wp2
    go_ret
    exact ⟨AnsB.no (fun h => by have := h.1; omega) rfl, rfl⟩
  by_cases h2 : 40 < s.size
  · go_enter Tryz.func107, Tryz.ntmps107
    go_wp2
    go_ret
    exact ⟨AnsB.no (fun h => by have := h.2.1; omega) rfl, rfl⟩
  have hp : 0 < s.size := by omega
  by_cases h3 : OkAt s 0 hp
  rotate_left
  · rcases cls (s[0].toNat : Int) with ⟨c, e1, e2, e3, e4, e5⟩ | ⟨c, e1, e2, e3, e4, e5⟩ | ⟨c, e1, e2, e3, e4, e5⟩ | ⟨c, e1, e2, e3, e4, e5⟩ | ⟨c, e1, e2, e3, e4, e5⟩ | ⟨c, e1, e2, e3, e4, e5⟩ | ⟨c, e1, e2, e3, e4, e5⟩
    all_goals
      first
        | (exfalso; exact h3 (by unfold OkAt OkN; omega))
        | (go_enter Tryz.func107, Tryz.ntmps107
           go_wp2
           go_ret
           exact ⟨AnsB.no (name_no s 0 hp h3) rfl, rfl⟩)
  have hc : 97 ≤ (s[0].toNat : Int) ∧ (s[0].toNat : Int) ≤ 122 := by unfold OkAt OkN at h3; omega
  obtain ⟨c1, c2⟩ := hc
  have H3 : Hid (OkAt s 0 hp) := h3
  clear h3
  go_enter Tryz.func107, Tryz.ntmps107
  go_wp2
  go_loop [3] (fun i => ∃ k : Nat, 1 ≤ k ∧ k ≤ s.size ∧ i = .int .i64 k ∧ OkTo s k) (fun i => s.size - (intOf i).toNat)
  case atStart => exact ⟨1, by omega, by omega, rfl, okTo_succ s 0 hp (okTo_zero s) H3.out⟩
  case round =>
    obtain ⟨k, hk1, hk, rfl, hok⟩ := hrel
    have HO : Hid (OkTo s k) := hok
    clear hok
    by_cases hlt : k < s.size
    · rcases cls (s[k].toNat : Int) with ⟨c, e1, e2, e3, e4, e5⟩ | ⟨c, e1, e2, e3, e4, e5⟩ | ⟨c, e1, e2, e3, e4, e5⟩ | ⟨c, e1, e2, e3, e4, e5⟩ | ⟨c, e1, e2, e3, e4, e5⟩ | ⟨c, e1, e2, e3, e4, e5⟩ | ⟨c, e1, e2, e3, e4, e5⟩
      all_goals
        go_wp2
        first
          | (go_ret; exact ⟨AnsB.no (name_no s k hlt (by unfold OkAt OkN; omega)) rfl, rfl⟩)
          | exact ⟨⟨k + 1, by omega, by omega, by go_num, okTo_succ s k hlt HO.out (by unfold OkAt OkN; omega)⟩, by simp [intOf]; omega⟩
    · go_wp2
      go_ret
      have e : k = s.size := by omega
      have hf := HO.out
      rw [e] at hf
      exact ⟨AnsB.yes ⟨by omega, by omega, hf⟩ rfl, rfl⟩
end Go.Proofs.YthofeoelndplpaaGreatDoor
namespace Go.Proofs.YthofeoelndplpaaGreatDoor
open Go.RowKit

theorem implTime (n : Int) (w : World) :
    Calls Tryz.prog 108 #[.int .i64 n] w fun e w' => e = .returned (.bool (timeB n)) ∧ w' = w := by
  by_cases h0 : 0 ≤ n
  · by_cases h1 : n ≤ 1000000000
    · have HF : Hid (timeB n = true) := by show _ = _; simp [timeB, h0, h1]
      go_enter Tryz.func108, Tryz.ntmps108
      go_wp2
      go_ret
      exact ⟨by rw [HF.out]; rfl, rfl⟩
    · have HF : Hid (timeB n = false) := by show _ = _; simp [timeB, h1]
      go_enter Tryz.func108, Tryz.ntmps108
      go_wp2
      go_ret
      exact ⟨by rw [HF.out]; rfl, rfl⟩
  · have HF : Hid (timeB n = false) := by show _ = _; simp [timeB, h0]
    go_enter Tryz.func108, Tryz.ntmps108
    go_wp2
    go_ret
    exact ⟨by rw [HF.out]; rfl, rfl⟩
theorem implSerial (n : Int) (w : World) :
    Calls Tryz.prog 128 #[.int .i64 n] w fun e w' => e = .returned (.bool (serB n)) ∧ w' = w := by
  by_cases h0 : 1 ≤ n
  · by_cases h1 : n ≤ 1000000000
    · have HF : Hid (serB n = true) := by show _ = _; simp [serB, h0, h1]
      go_enter Tryz.func128, Tryz.ntmps128
      go_wp2
      go_ret
      exact ⟨by rw [HF.out]; rfl, rfl⟩
    · have HF : Hid (serB n = false) := by show _ = _; simp [serB, h1]
      go_enter Tryz.func128, Tryz.ntmps128
      go_wp2
      go_ret
      exact ⟨by rw [HF.out]; rfl, rfl⟩
  · have HF : Hid (serB n = false) := by show _ = _; simp [serB, h0]
    go_enter Tryz.func128, Tryz.ntmps128
    go_wp2
    go_ret
    exact ⟨by rw [HF.out]; rfl, rfl⟩
theorem implNameB (s : ByteArray) (w : World) (hs : s.size ≤ maxLen) :
    Calls Tryz.prog 107 #[.string s] w fun e w' => e = .returned (.bool (nameB s)) ∧ w' = w :=
  (implName s w hs).mono fun _ _ h => ⟨ans_name h.1, h.2⟩
end Go.Proofs.YthofeoelndplpaaGreatDoor
