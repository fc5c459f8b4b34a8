/- spec.l05All, spec.DerAll, walked. -/
import Derived.Test.YtochmolhpcidgahDoorDerGb
import Derived.Test.YtochmolhpcidgahDoorAllO
namespace Go.Proofs.YtochmolhpcidgahDoor
open Go.RowKit

set_option maxHeartbeats 2000000 in
set_option maxRecDepth 100000 in
theorem specAll (s : ByteArray) (w : World) (hs : s.size ≤ 20000) :
    Calls Tryd.prog 17 #[.string s] w fun e w' => ∃ v, e = .returned (.agg #[v, .int .i64 (allR s (s.size + 1) 0 []).2]) ∧ OwnT w' w.heap.size v (allR s (s.size + 1) 0 []).1 ∧ Below w.heap.size w w' := by
  obtain ⟨i0, hi, hz0, hz1, hz2⟩ := info_parts infoTlv
  obtain ⟨R, hR⟩ : ∃ R, R = allR s (s.size + 1) 0 [] := ⟨_, rfl⟩
  rw [← hR]
  have HR : Hid (R = allR s (s.size + 1) 0 []) := hR
  clear hR
  go_enter Tryd.func17, Tryd.ntmps17
  go_wp2_with fail
  go_loopw [4] (fun a wr => ∃ (k f : Nat) (acc : List (Int × ByteArray)) (v : Value), a = .int .i64 (k : Int) ∧ k ≤ s.size ∧ s.size < k + f ∧ acc.length ≤ 60 ∧ allR s f k acc = R ∧
      wr.heap[w.heap.size]? = some (.cells [.slice none 0 0, .int .i64 0].toArray 31 (0, 0)) ∧ wr.heap[w.heap.size + 1]? = some (.cells [v, .int .i64 0].toArray 31 (0, 0)) ∧
      OwnT wr (w.heap.size + 2) v acc ∧ Below w.heap.size w wr ∧ w.heap.size + 2 ≤ wr.heap.size)
    (fun a _ => s.size - (intOf a).toNat)
  case atStart =>
    refine ⟨0, s.size + 1, [], .slice none 0 0, rfl, Nat.zero_le _, by omega, by simp, HR.out.symm, ?_, heap_alloc2 w _ _, ⟨rfl, .inl ⟨rfl, rfl⟩⟩, ((Below.refl _ _).alloc (Nat.le_refl _) _).alloc (by simp) _, by simp⟩
    rw [Below.heap_alloc _ _ _ (by simp)]
    exact heap_alloc_new w _
  case round =>
    obtain ⟨k, f, acc, v, rfl, hk, hf, hacc, hall, hr0, hr1, hown, hbel, hsz⟩ := hrel
    have HAll : Hid (allR s f k acc = R) := hall
    have HR0 : Hid (wr.heap[w.heap.size]? = some (.cells [.slice none 0 0, .int .i64 0].toArray 31 (0, 0))) := hr0
    have HR1 : Hid (wr.heap[w.heap.size + 1]? = some (.cells [v, .int .i64 0].toArray 31 (0, 0))) := hr1
    have HO : Hid (OwnT wr (w.heap.size + 2) v acc) := hown
    have HB : Hid (Below w.heap.size w wr) := hbel
    clear hall hr0 hr1 hown hbel HR
    by_cases hlt : k < s.size
    · have HG : Hid (∀ V : World, Calls Tryd.prog 13 #[.string s, .int .i64 (k : Int)] V fun e w' => e = .returned (getAt s k).val ∧ Below V.heap.size V w') := fun V => specGetAt s k V hs
      have HAt : Hid ((getAt s k).code = 0 → k + 2 ≤ (getAt s k).at'.toNat ∧ (getAt s k).at'.toNat ≤ s.size ∧ 0 ≤ (getAt s k).at') := getAt_at
      obtain ⟨f', rfl⟩ : ∃ f', f = f' + 1 := ⟨f - 1, by omega⟩
      have HBad : Hid ((getAt s k).code ≠ 0 → R = ([], (getAt s k).code)) := fun h => by rw [← HAll.out, allR_bad hlt h]
      have HFull : Hid ((getAt s k).code = 0 → 60 ≤ acc.length → R = ([], 11)) := fun h h' => by rw [← HAll.out, allR_full hlt h h']
      have HMore : Hid ((getAt s k).code = 0 → acc.length < 60 → allR s f' (getAt s k).at'.toNat (acc ++ [((getAt s k).tag, (getAt s k).body)]) = R) := fun h h' => by rw [← HAll.out, allR_more hlt h h']
      generalize getAt s k = g at *
      obtain ⟨g0, g1, g2, g3⟩ := g
      clear HAll
      unfold GetR.val at HG
      simp only at HG HAt HBad HFull HMore
      go_wp2_with fail
      refine (HG.out _).mono ?_
      rintro e w1 ⟨rfl, hb1⟩
      have HB1 : Hid (Below w.heap.size w w1) := HB.out.trans (hb1.mono (by omega))
      have hs1 := hb1.size
      have HX0 : Hid (w1.heap[w.heap.size]? = some (.cells [.slice none 0 0, .int .i64 0].toArray 31 (0, 0))) := by show _ = _; rw [hb1.block _ (by omega)]; exact HR0.out
      have HX1 : Hid (w1.heap[w.heap.size + 1]? = some (.cells [v, .int .i64 0].toArray 31 (0, 0))) := by show _ = _; rw [hb1.block _ (by omega)]; exact HR1.out
      have HO1 : Hid (OwnT w1 (w.heap.size + 2) v acc) := OwnT.keep HO.out hb1
      clear hb1 HR0 HR1 HO HB HG
      obtain ⟨⟨c0, c1⟩, f0, f1⟩ := cells2 HX0.out
      obtain ⟨⟨d0, d1⟩, e0, e1⟩ := cells2 HX1.out
      have hl0 : w.heap.size < w1.heap.size := by omega
      have hl1 : w.heap.size + 1 < w1.heap.size := by omega
      by_cases hc : g3 = 0
      rotate_left
      · have HF : Hid (R = ([], g3)) := HBad.out hc
        have ec : (g3 != 0) = true := by rw [bne_iff_ne]; exact hc
        clear hc d0 d1 e0 e1
        go_wp2_with fail
        refine bodyPost_ret (v := .agg #[.slice none 0 0, .int .i64 g3]) (by simp [results, Tryd.results17, go_sem, c0, c1, hl0]) rfl ⟨.slice none 0 0, ?_, ?_, ?_⟩
        · rw [HF.out]
        · rw [HF.out]; exact ownT_nil _ _
        · repeat (first | exact HB1.out | refine Below.setCell ?_ (by simp) _ | refine Below.alloc ?_ (by simp <;> omega) _)
      obtain ⟨at1, at2, at3⟩ := HAt.out hc
      obtain ⟨va, vc, hv⟩ := OwnT.form HO1.out
      by_cases h60 : 60 ≤ acc.length
      · have HF : Hid (R = ([], 11)) := HFull.out hc h60
        subst hv
        subst hc
        go_wp2_with fail
        refine bodyPost_ret (v := .agg #[.slice none 0 0, .int .i64 11]) (by simp [results, Tryd.results17, go_sem, c0, c1, hl0]) rfl ⟨.slice none 0 0, ?_, ?_, ?_⟩
        · rw [HF.out]
        · rw [HF.out]; exact ownT_nil _ _
        · repeat (first | exact HB1.out | refine Below.setCell ?_ (by simp) _ | refine Below.alloc ?_ (by simp <;> omega) _)
      · have HF := HMore.out hc (by omega)
        have HF : Hid (allR s f' g2.toNat (acc ++ [(g0, g1)]) = R) := HF
        obtain ⟨m, rfl⟩ := Int.eq_ofNat_of_zero_le at3
        subst hv
        subst hc
        clear HMore HFull HBad HAt f0 f1 c0 c1
        have hO : w1.ownsRow (w.heap.size + 2) 23 2 (.slice va acc.length vc) acc.length (tCells acc) := HO1.out
        go_wp2_with (at_builtin; refine wpList_append_own _ rfl _ _ 29 rfl (w.heap.size + 2) 23 i0 (.agg #[.int .i64 0, .string ⟨#[]⟩]) 2 24 Tryd.underlying29 hi hz0 hz1 hz2 rfl (by decide) _ _ _ rfl ((hO.alloc _).alloc _) ⟨w1.heap.size + 1, 0, none⟩ 1 1 [.int .i64 g0, .string g1] rfl rfl ?c1 ?c2 ?c3 ?c4 ?c5 ?_)
        case c1 =>
          intro j u hj
          rw [Addr.add_lit, Nat.zero_add]
          exact rowFacts (cs := [.int .i64 g0, .string g1]) (heap_alloc2 w1 _ _) j u hj
        case c2 => intro u hu; simp at hu; rcases hu with rfl | rfl <;> rfl
        case c3 => unfold maxLen; omega
        case c4 => omega
        case c5 => simp; omega
        intro v' w2 hown' hgrow _
        have hlt2 := fun k hk => hO.lt k hk
        have hB2 : Below w.heap.size w w2 := ((HB1.out.alloc (by omega) _).alloc (by simp; omega) _).grown hgrow (by simp; omega) (fun k hk => by have := (hlt2 k hk).1; omega)
        have hs2 : w1.heap.size + 2 ≤ w2.heap.size := by have := hgrow.size; simp at this; omega
        have HY0 : Hid (w2.heap[w.heap.size]? = some (.cells [.slice none 0 0, .int .i64 0].toArray 31 (0, 0))) := by
          show _ = _
          rw [hgrow.block _ (by simp; omega) (fun e => by have := (hlt2 _ e.symm).1; omega), Below.heap_alloc _ _ _ (by simp; omega), Below.heap_alloc _ _ _ hl0]
          exact HX0.out
        have HY1 : Hid (w2.heap[w.heap.size + 1]? = some (.cells [.slice va acc.length vc, .int .i64 0].toArray 31 (0, 0))) := by
          show _ = _
          rw [hgrow.block _ (by simp; omega) (fun e => by have := (hlt2 _ e.symm).1; omega), Below.heap_alloc _ _ _ (by simp; omega), Below.heap_alloc _ _ _ hl1]
          exact HX1.out
        have hx2 : w2.cell? ⟨w1.heap.size, 2, none⟩ = some (.int .i64 (m : Int)) := by
          have hr : w2.heap[w1.heap.size]? = some (.cells [.int .i64 g0, .string g1, .int .i64 (m : Int), .int .i64 0].toArray 25 (0, 0)) := by
            rw [hgrow.block _ (by simp; omega) (fun e => by have := (hlt2 _ e.symm).2; omega), Below.heap_alloc _ _ _ (by simp)]
            exact heap_alloc_new w1 _
          exact rowFacts hr 2 _ rfl
        have HO2 : Hid (OwnT w2 (w.heap.size + 2) v' (acc ++ [(g0, g1)])) := by
          show World.ownsRow _ _ _ _ _ _ _
          rw [tCells_snoc, List.length_append]
          exact hown'
        obtain ⟨va', vc', hv'⟩ := OwnT.form HO2.out
        rw [List.length_append, List.length_singleton] at hv'
        subst hv'
        obtain ⟨⟨d0', d1'⟩, e0', e1'⟩ := cells2 HY1.out
        have HB2 : Hid (Below w.heap.size w w2) := hB2
        clear hown' hgrow hlt2 hB2 hO d0 d1 e0 e1
        go_wp2_with fail
        go_roundw
        case rel =>
          refine ⟨m, f', acc ++ [(g0, g1)], _, rfl, at2, by omega, by simp; omega, HF.out, ?_, rowSet _ HY1.out, OwnT.other HO2.out (by omega), HB2.out.setCell (by simp) _, by simp; omega⟩
          rw [heap_setCell_other _ _ _ _ (by simp)]
          exact HY0.out
        case measure => simp [intOf]; omega
    · have HF : Hid (R = (acc, 0)) := by
        show _ = _
        rw [← HAll.out, allR_end (by omega)]
      obtain ⟨⟨c0, c1⟩, f0, f1⟩ := cells2 HR0.out
      obtain ⟨⟨d0, d1⟩, e0, e1⟩ := cells2 HR1.out
      obtain ⟨va, vc, rfl⟩ := OwnT.form HO.out
      go_wp2_with fail
      refine bodyPost_ret (v := .agg #[.slice va acc.length vc, .int .i64 0]) (by simp [results, Tryd.results17, go_sem, c0, c1]) rfl ⟨.slice va acc.length vc, ?_, ?_, ?_⟩
      · rw [HF.out]
      · rw [HF.out]
        exact ((OwnT.other (OwnT.other HO.out (by omega)) (by omega))).mono (by omega)
      · repeat (first | exact HB.out | refine Below.setCell ?_ (by simp) _ | refine Below.alloc ?_ (by simp <;> omega) _)
set_option maxHeartbeats 1000000 in
set_option maxRecDepth 100000 in
theorem specDerAll (s : ByteArray) (w : World) (hs : s.size ≤ maxLen) :
    Calls Tryd.prog 8 #[.string s] w fun e w' => ∃ v, e = .returned (.agg #[v, .int .i64 (allD s).2]) ∧ OwnT w' w.heap.size v (allD s).1 ∧ Below w.heap.size w w' := by
  unfold maxLen at hs
  by_cases h1 : 20000 < s.size
  · have HF : Hid (allD s = ([], 2)) := if_pos h1
    go_enter Tryd.func8, Tryd.ntmps8
    go_wp2_with fail
    refine bodyPost_ret (v := .agg #[.slice none 0 0, .int .i64 2]) (by simp [results, Tryd.results8, go_sem]) rfl ⟨.slice none 0 0, ?_, ?_, ?_⟩
    · rw [HF.out]
    · rw [HF.out]; exact ownT_nil _ _
    · repeat (first | exact Below.refl _ _ | refine Below.setCell ?_ (by simp) _ | refine Below.alloc ?_ (by simp) _)
  · have HF : Hid (allD s = allR s (s.size + 1) 0 []) := if_neg h1
    have HB : Hid (∀ V : World, Calls Tryd.prog 17 #[.string s] V fun e w' => ∃ v, e = .returned (.agg #[v, .int .i64 (allD s).2]) ∧ OwnT w' V.heap.size v (allD s).1 ∧ Below V.heap.size V w') := fun V => by
      rw [HF.out]; exact specAll s V (by omega)
    generalize allD s = R at *
    obtain ⟨l, c⟩ := R
    go_enter Tryd.func8, Tryd.ntmps8
    go_wp2_with fail
    refine (HB.out _).mono ?_
    rintro e w1 ⟨v, rfl, hO, hb1⟩
    obtain ⟨hr, hB, hz⟩ := resKeep (cs := [.slice none 0 0, .int .i64 0]) (T := 31) hb1
    obtain ⟨⟨c0, c1⟩, f0, f1⟩ := cells2 hr
    have HO : Hid (OwnT w1 (w.heap.size + 1) v l) := by show OwnT _ _ _ _; simpa using hO
    obtain ⟨va, vc, rfl⟩ := OwnT.form HO.out
    simp only
    clear hb1 hr hO
    go_wp2_with fail
    refine bodyPost_ret (v := .agg #[.slice va l.length vc, .int .i64 c]) (by simp [results, Tryd.results8, go_sem, c0, c1]) rfl ⟨.slice va l.length vc, rfl, ?_, ?_⟩
    · exact (OwnT.other (OwnT.other HO.out (by omega)) (by omega)).mono (by omega)
    · repeat (first | exact hB | refine Below.setCell ?_ (by simp) _)
end Go.Proofs.YtochmolhpcidgahDoor
