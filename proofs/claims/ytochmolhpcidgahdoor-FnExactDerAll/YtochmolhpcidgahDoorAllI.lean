/- impl.DerAll, walked. -/
import Derived.Test.YtochmolhpcidgahDoorDerN
import Derived.Test.YtochmolhpcidgahDoorAllO
namespace Go.Proofs.YtochmolhpcidgahDoor
open Go.RowKit

set_option maxHeartbeats 2000000 in
set_option maxRecDepth 100000 in
theorem implDerAll (s : ByteArray) (w : World) (hs : s.size ≤ maxLen) (hg : ErrType w) :
    Calls Tryd.prog 9 #[.string s] w fun e w' => ∃ v, e = .returned (.agg #[v, .int .i64 (allD s).2]) ∧ OwnT w' w.heap.size v (allD s).1 ∧ Below w.heap.size w w' := by
  have hs' := hs
  unfold maxLen at hs'
  have hpos := hg.pos
  have HGt : Hid (ErrType w) := hg
  clear hg
  obtain ⟨i0, hi, hz0, hz1, hz2⟩ := info_parts infoTlv
  by_cases h1 : 20000 < s.size
  · have HF : Hid (allD s = ([], 2)) := if_pos h1
    have hd : decide (20000 < s.size) = true := decide_eq_true h1
    go_enter Tryd.func9, Tryd.ntmps9
    go_wp2_with fail
    refine (tooLong s _ hs).mono ?_
    rintro e w' ⟨rfl, rfl⟩
    rw [hd]
    go_wp2_with fail
    refine bodyPost_ret (v := .agg #[.slice none 0 0, .int .i64 2]) (by simp [results, Tryd.results9, go_sem]) rfl ⟨.slice none 0 0, ?_, ?_, ?_⟩
    · rw [HF.out]
    · rw [HF.out]; exact ownT_nil _ _
    · repeat (first | exact Below.refl _ _ | refine Below.setCell ?_ (by simp) _ | refine Below.alloc ?_ (by simp) _)
  have hd : decide (20000 < s.size) = false := decide_eq_false h1
  obtain ⟨R, hR⟩ : ∃ R, R = allD s := ⟨_, rfl⟩
  have HR : Hid (R = allR s (s.size + 1) 0 []) := by rw [hR]; exact if_neg h1
  rw [← hR]
  clear hR
  go_enter Tryd.func9, Tryd.ntmps9
  go_wp2_with fail
  refine (tooLong s _ hs).mono ?_
  rintro e w' ⟨rfl, hw'⟩
  rw [hd, hw']
  clear hw' hd
  go_wp2_with fail
  go_loopw [3, 4] (fun b a wr => ∃ (k f : Nat) (acc : List (Int × ByteArray)), a = .int .i64 (k : Int) ∧ k ≤ s.size ∧ s.size < k + f ∧ acc.length ≤ 60 ∧ allR s f k acc = R ∧
      wr.heap[w.heap.size]? = some (.cells [.slice none 0 0, .int .i64 0].toArray 31 (0, 0)) ∧ OwnT wr (w.heap.size + 1) b acc ∧ Below w.heap.size w wr ∧ w.heap.size + 1 ≤ wr.heap.size)
    (fun _ a _ => s.size - (intOf a).toNat)
  case atStart =>
    exact ⟨0, s.size + 1, [], rfl, Nat.zero_le _, by omega, by simp, HR.out.symm, heap_alloc_new w _, ownT_nil _ _, (Below.refl _ _).alloc (Nat.le_refl _) _, by simp⟩
  case round =>
    obtain ⟨k, f, acc, rfl, hk, hf, hacc, hall, hr0, hown, hbel, hsz⟩ := hrel
    have HAll : Hid (allR s f k acc = R) := hall
    have HR0 : Hid (wr.heap[w.heap.size]? = some (.cells [.slice none 0 0, .int .i64 0].toArray 31 (0, 0))) := hr0
    obtain ⟨va, vc, rfl⟩ := OwnT.form hown
    have HO : Hid (OwnT wr (w.heap.size + 1) (.slice va acc.length vc) acc) := hown
    have HB : Hid (Below w.heap.size w wr) := hbel
    clear hall hr0 hown hbel HR
    by_cases hlt : k < s.size
    · have HG : Hid (∀ V : World, Below w.heap.size w V → Calls Tryd.prog 6 #[.string s, .int .i64 (k : Int)] V fun e w' => e = .returned (getAt s k).val ∧ Below V.heap.size V w') := fun V hV => by
        have h := implDerGet s (k : Int) V hs (by omega) (HGt.out.below hV hpos)
        rw [show getD s (k : Int) = getAt s k from by unfold getD; rw [if_neg h1, if_neg (by omega)]; rfl] at h
        exact h
      have HAt : Hid ((getAt s k).code = 0 → k + 2 ≤ (getAt s k).at'.toNat ∧ (getAt s k).at'.toNat ≤ s.size ∧ 0 ≤ (getAt s k).at') := getAt_at
      obtain ⟨f', rfl⟩ : ∃ f', f = f' + 1 := ⟨f - 1, by omega⟩
      have HBad : Hid ((getAt s k).code ≠ 0 → R = ([], (getAt s k).code)) := fun h => by rw [← HAll.out, allR_bad hlt h]
      have HFull : Hid ((getAt s k).code = 0 → 60 ≤ acc.length → R = ([], 11)) := fun h h' => by rw [← HAll.out, allR_full hlt h h']
      have HMore : Hid ((getAt s k).code = 0 → acc.length < 60 → allR s f' (getAt s k).at'.toNat (acc ++ [((getAt s k).tag, (getAt s k).body)]) = R) := fun h h' => by rw [← HAll.out, allR_more hlt h h']
      generalize getAt s k = g at *
      obtain ⟨g0, g1, g2, g3⟩ := g
      clear HAll
      unfold GetR.val at HG
      simp only at HG HAt HBad HFull HMore
      go_wp2_with fail
      refine (HG.out _ HB.out).mono ?_
      rintro e w1 ⟨rfl, hb1⟩
      have HB1 : Hid (Below w.heap.size w w1) := HB.out.trans (hb1.mono (by omega))
      have hs1 := hb1.size
      have HX0 : Hid (w1.heap[w.heap.size]? = some (.cells [.slice none 0 0, .int .i64 0].toArray 31 (0, 0))) := by show _ = _; rw [hb1.block _ (by omega)]; exact HR0.out
      have HO1 : Hid (OwnT w1 (w.heap.size + 1) (.slice va acc.length vc) acc) := OwnT.keep HO.out hb1
      clear hb1 HR0 HO HB HG
      obtain ⟨⟨c0, c1⟩, f0, f1⟩ := cells2 HX0.out
      have hl0 : w.heap.size < w1.heap.size := by omega
      by_cases hc : g3 = 0
      rotate_left
      · have HF : Hid (R = ([], g3)) := HBad.out hc
        have ec : (g3 != 0) = true := by rw [bne_iff_ne]; exact hc
        clear hc
        go_wp2_with fail
        refine bodyPost_ret (v := .agg #[.slice none 0 0, .int .i64 g3]) (by simp [results, Tryd.results9, go_sem, c0, c1, hl0]) rfl ⟨.slice none 0 0, ?_, ?_, ?_⟩
        · rw [HF.out]
        · rw [HF.out]; exact ownT_nil _ _
        · repeat (first | exact HB1.out | refine Below.setCell ?_ (by simp) _ | refine Below.alloc ?_ (by simp <;> omega) _)
      obtain ⟨at1, at2, at3⟩ := HAt.out hc
      by_cases h60 : acc.length = 60
      · have HF : Hid (R = ([], 11)) := HFull.out hc (by omega)
        have e60 : (acc.length : Int) = 60 := by omega
        subst hc
        go_wp2_with fail
        refine bodyPost_ret (v := .agg #[.slice none 0 0, .int .i64 11]) (by simp [results, Tryd.results9, go_sem, c0, c1, hl0]) rfl ⟨.slice none 0 0, ?_, ?_, ?_⟩
        · rw [HF.out]
        · rw [HF.out]; exact ownT_nil _ _
        · repeat (first | exact HB1.out | refine Below.setCell ?_ (by simp) _ | refine Below.alloc ?_ (by simp <;> omega) _)
      · have HF := HMore.out hc (by omega)
        have HF : Hid (allR s f' g2.toNat (acc ++ [(g0, g1)]) = R) := HF
        have e60 : ((acc.length : Int) == 60) = false := by rw [beq_eq_false_iff_ne]; omega
        obtain ⟨m, rfl⟩ := Int.eq_ofNat_of_zero_le at3
        subst hc
        clear HMore HFull HBad HAt f0 f1 c0 c1
        have hO : w1.ownsRow (w.heap.size + 1) 23 2 (.slice va acc.length vc) acc.length (tCells acc) := HO1.out
        go_wp2_with (at_builtin; refine wpList_append_own _ rfl _ _ 29 rfl (w.heap.size + 1) 23 i0 (.agg #[.int .i64 0, .string ⟨#[]⟩]) 2 24 Tryd.underlying29 hi hz0 hz1 hz2 rfl (by decide) _ _ _ rfl ((hO.alloc _).alloc _) ⟨w1.heap.size + 1, 0, none⟩ 1 1 [.int .i64 g0, .string g1] rfl rfl ?c1 ?c2 ?c3 ?c4 ?c5 ?_)
        case c1 =>
          intro j u hj
          rw [Addr.add_lit, Nat.zero_add]
          exact rowFacts (cs := [.int .i64 g0, .string g1]) (heap_alloc2 w1 _ _) j u hj
        case c2 => intro u hu; simp at hu; rcases hu with rfl | rfl <;> rfl
        case c3 => unfold maxLen; omega
        case c4 => omega
        case c5 => simp; omega
        intro v' w2 hown' hgrow _
        have hlt2 := fun k hk => hO.lt k hk
        have hB2 : Below w.heap.size w w2 := ((HB1.out.alloc (by omega) _).alloc (by simp; omega) _).grown hgrow (by simp; omega) (fun k hk => by have := (hlt2 k hk).1; omega)
        have hs2 : w1.heap.size + 2 ≤ w2.heap.size := by have := hgrow.size; simp at this; omega
        have HY0 : Hid (w2.heap[w.heap.size]? = some (.cells [.slice none 0 0, .int .i64 0].toArray 31 (0, 0))) := by
          show _ = _
          rw [hgrow.block _ (by simp; omega) (fun e => by have := (hlt2 _ e.symm).1; omega), Below.heap_alloc _ _ _ (by simp; omega), Below.heap_alloc _ _ _ hl0]
          exact HX0.out
        have hx2 : w2.cell? ⟨w1.heap.size, 2, none⟩ = some (.int .i64 (m : Int)) := by
          have hr : w2.heap[w1.heap.size]? = some (.cells [.int .i64 g0, .string g1, .int .i64 (m : Int), .int .i64 0].toArray 25 (0, 0)) := by
            rw [hgrow.block _ (by simp; omega) (fun e => by have := (hlt2 _ e.symm).2; omega), Below.heap_alloc _ _ _ (by simp)]
            exact heap_alloc_new w1 _
          exact rowFacts hr 2 _ rfl
        have HO2 : Hid (OwnT w2 (w.heap.size + 1) v' (acc ++ [(g0, g1)])) := by
          show World.ownsRow _ _ _ _ _ _ _
          rw [tCells_snoc, List.length_append]
          exact hown'
        have HB2 : Hid (Below w.heap.size w w2) := hB2
        clear hown' hgrow hlt2 hB2 hO
        go_wp2_with fail
        go_roundw
        case rel =>
          exact ⟨m, f', acc ++ [(g0, g1)], rfl, at2, by omega, by simp; omega, HF.out, HY0.out, HO2.out, HB2.out, by omega⟩
        case measure => simp [intOf]; omega
    · have HF : Hid (R = (acc, 0)) := by
        show _ = _
        rw [← HAll.out, allR_end (by omega)]
      obtain ⟨⟨c0, c1⟩, f0, f1⟩ := cells2 HR0.out
      go_wp2_with fail
      refine bodyPost_ret (v := .agg #[.slice va acc.length vc, .int .i64 0]) (by simp [results, Tryd.results9, go_sem, c0, c1]) rfl ⟨.slice va acc.length vc, ?_, ?_, ?_⟩
      · rw [HF.out]
      · rw [HF.out]
        exact (OwnT.other (OwnT.other HO.out (by omega)) (by omega)).mono (by omega)
      · repeat (first | exact HB.out | refine Below.setCell ?_ (by simp) _ | refine Below.alloc ?_ (by simp <;> omega) _)
end Go.Proofs.YtochmolhpcidgahDoor
