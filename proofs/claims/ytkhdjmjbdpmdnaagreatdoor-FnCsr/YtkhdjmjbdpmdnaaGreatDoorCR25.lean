/- impl.DerAll, walked. impl.bodyAt, walked. impl.readNames, walked. errors.As with the world by what it keeps, beside the reading of a number. impl.GetNum at every argument. impl.readNumbers, walked. -/
import Derived.Test.YtkhdjmjbdpmdnaaGreatDoorCR24
import Derived.Test.YtkhdjmjbdpmdnaaGreatDoorCR20
import Derived.Test.YtkhdjmjbdpmdnaaGreatDoorCR17
import Derived.Test.YtkhdjmjbdpmdnaaGreatDoorCR12
import Derived.Test.YtkhdjmjbdpmdnaaGreatDoorCR06
import Derived.Deep.Cut
import Derived.Deep.RegionHeld3
namespace Go.Proofs.YtkhdjmjbdpmdnaaGreatDoor
open Go.RowKit

set_option maxHeartbeats 2000000 in
set_option maxRecDepth 100000 in
theorem implDerAll (s : ByteArray) (w : World) (hs : s.size ≤ maxLen) (hg : ErrType w) :
    Calls Tryz.prog 145 #[.string s] w fun e w' => ∃ v, e = .returned (.agg #[v, .int .i64 (allD s).2]) ∧ OwnT w' w.heap.size v (allD s).1 ∧ Below w.heap.size w w' := by
  have hs' := hs
  unfold maxLen at hs'
  have hpos := hg.pos
  have HGt : Hid (ErrType w) := hg
  clear hg
  obtain ⟨i0, hi, hz0, hz1, hz2⟩ := info_parts infoTlv
  by_cases h1 : 20000 < s.size
  · have HF : Hid (allD s = ([], 2)) := if_pos h1
    have hd : decide (20000 < s.size) = true := decide_eq_true h1
    go_enter Tryz.func145, Tryz.ntmps145
    go_wp2_with fail
    refine (tooLong s _ hs).mono ?_
    rintro e w' ⟨rfl, rfl⟩
    rw [hd]
    go_wp2_with fail
    refine bodyPost_ret (v := .agg #[.slice none 0 0, .int .i64 2]) (by simp [results, Tryz.results145, go_sem]) rfl ⟨.slice none 0 0, ?_, ?_, ?_⟩
    · rw [HF.out]
    · rw [HF.out]; exact ownT_nil _ _
    · repeat (first | exact Below.refl _ _ | refine Below.setCell ?_ (by simp) _ | refine Below.alloc ?_ (by simp) _)
  have hd : decide (20000 < s.size) = false := decide_eq_false h1
  obtain ⟨R, hR⟩ : ∃ R, R = allD s := ⟨_, rfl⟩
  have HR : Hid (R = allR s (s.size + 1) 0 []) := by rw [hR]; exact if_neg h1
  rw [← hR]
  clear hR
  go_enter Tryz.func145, Tryz.ntmps145
  go_wp2_with fail
  refine (tooLong s _ hs).mono ?_
  rintro e w' ⟨rfl, hw'⟩
  rw [hd, hw']
  clear hw' hd
  go_wp2_with fail
  go_loopw [3, 4] (fun b a wr => ∃ (k f : Nat) (acc : List (Int × ByteArray)), a = .int .i64 (k : Int) ∧ k ≤ s.size ∧ s.size < k + f ∧ acc.length ≤ 60 ∧ allR s f k acc = R ∧
      wr.heap[w.heap.size]? = some (.cells [.slice none 0 0, .int .i64 0].toArray 138 (0, 0)) ∧ OwnT wr (w.heap.size + 1) b acc ∧ Below w.heap.size w wr ∧ w.heap.size + 1 ≤ wr.heap.size)
    (fun _ a _ => s.size - (intOf a).toNat)
  case atStart =>
    exact ⟨0, s.size + 1, [], rfl, Nat.zero_le _, by omega, by simp, HR.out.symm, heap_alloc_new w _, ownT_nil _ _, (Below.refl _ _).alloc (Nat.le_refl _) _, by simp⟩
  case round =>
    obtain ⟨k, f, acc, rfl, hk, hf, hacc, hall, hr0, hown, hbel, hsz⟩ := hrel
    have HAll : Hid (allR s f k acc = R) := hall
    have HR0 : Hid (wr.heap[w.heap.size]? = some (.cells [.slice none 0 0, .int .i64 0].toArray 138 (0, 0))) := hr0
    obtain ⟨va, vc, rfl⟩ := OwnT.form hown
    have HO : Hid (OwnT wr (w.heap.size + 1) (.slice va acc.length vc) acc) := hown
    have HB : Hid (Below w.heap.size w wr) := hbel
    clear hall hr0 hown hbel HR
    by_cases hlt : k < s.size
    · have HG : Hid (∀ V : World, Below w.heap.size w V → Calls Tryz.prog 186 #[.string s, .int .i64 (k : Int)] V fun e w' => e = .returned (getAt s k).val ∧ Below V.heap.size V w') := fun V hV => by
        have h := implDerGet s (k : Int) V hs (by omega) (HGt.out.below hV hpos)
        rw [show getD s (k : Int) = getAt s k from by unfold getD; rw [if_neg h1, if_neg (by omega)]; rfl] at h
        exact h
      have HAt : Hid ((getAt s k).code = 0 → k + 2 ≤ (getAt s k).at'.toNat ∧ (getAt s k).at'.toNat ≤ s.size ∧ 0 ≤ (getAt s k).at') := getAt_at
      obtain ⟨f', rfl⟩ : ∃ f', f = f' + 1 := ⟨f - 1, by omega⟩
      have HBad : Hid ((getAt s k).code ≠ 0 → R = ([], (getAt s k).code)) := fun h => by rw [← HAll.out, allR_bad hlt h]
      have HFull : Hid ((getAt s k).code = 0 → 60 ≤ acc.length → R = ([], 11)) := fun h h' => by rw [← HAll.out, allR_full hlt h h']
      have HMore : Hid ((getAt s k).code = 0 → acc.length < 60 → allR s f' (getAt s k).at'.toNat (acc ++ [((getAt s k).tag, (getAt s k).body)]) = R) := fun h h' => by rw [← HAll.out, allR_more hlt h h']
      generalize getAt s k = g at *
      obtain ⟨g0, g1, g2, g3⟩ := g
      clear HAll
      unfold GetR.val at HG
      simp only at HG HAt HBad HFull HMore
      go_wp2_with fail
      refine (HG.out _ HB.out).mono ?_
      rintro e w1 ⟨rfl, hb1⟩
      have HB1 : Hid (Below w.heap.size w w1) := HB.out.trans (hb1.mono (by omega))
      have hs1 := hb1.size
      have HX0 : Hid (w1.heap[w.heap.size]? = some (.cells [.slice none 0 0, .int .i64 0].toArray 138 (0, 0))) := by show _ = _; rw [hb1.block _ (by omega)]; exact HR0.out
      have HO1 : Hid (OwnT w1 (w.heap.size + 1) (.slice va acc.length vc) acc) := OwnT.keep HO.out hb1
      clear hb1 HR0 HO HB HG
      obtain ⟨⟨c0, c1⟩, f0, f1⟩ := cells2 HX0.out
      have hl0 : w.heap.size < w1.heap.size := by omega
      by_cases hc : g3 = 0
      rotate_left
      · have HF : Hid (R = ([], g3)) := HBad.out hc
        have ec : (g3 != 0) = true := by rw [bne_iff_ne]; exact hc
        clear hc
        go_wp2_with fail
        refine bodyPost_ret (v := .agg #[.slice none 0 0, .int .i64 g3]) (by simp [results, Tryz.results145, go_sem, c0, c1, hl0]) rfl ⟨.slice none 0 0, ?_, ?_, ?_⟩
        · rw [HF.out]
        · rw [HF.out]; exact ownT_nil _ _
        · repeat (first | exact HB1.out | refine Below.setCell ?_ (by simp) _ | refine Below.alloc ?_ (by simp <;> omega) _)
      obtain ⟨at1, at2, at3⟩ := HAt.out hc
      by_cases h60 : acc.length = 60
      · have HF : Hid (R = ([], 11)) := HFull.out hc (by omega)
        have e60 : (acc.length : Int) = 60 := by omega
        subst hc
        go_wp2_with fail
        refine bodyPost_ret (v := .agg #[.slice none 0 0, .int .i64 11]) (by simp [results, Tryz.results145, go_sem, c0, c1, hl0]) rfl ⟨.slice none 0 0, ?_, ?_, ?_⟩
        · rw [HF.out]
        · rw [HF.out]; exact ownT_nil _ _
        · repeat (first | exact HB1.out | refine Below.setCell ?_ (by simp) _ | refine Below.alloc ?_ (by simp <;> omega) _)
      · have HF := HMore.out hc (by omega)
        have HF : Hid (allR s f' g2.toNat (acc ++ [(g0, g1)]) = R) := HF
        have e60 : ((acc.length : Int) == 60) = false := by rw [beq_eq_false_iff_ne]; omega
        obtain ⟨m, rfl⟩ := Int.eq_ofNat_of_zero_le at3
        subst hc
        clear HMore HFull HBad HAt f0 f1 c0 c1
        have hO : w1.ownsRow (w.heap.size + 1) 157 2 (.slice va acc.length vc) acc.length (tCells acc) := HO1.out
        go_wp2_with (at_builtin; refine wpList_append_own _ rfl _ _ 112 rfl (w.heap.size + 1) 157 i0 (.agg #[.int .i64 0, .string ⟨#[]⟩]) 2 24 Tryz.underlying112 hi hz0 hz1 hz2 rfl (by decide) _ _ _ rfl ((hO.alloc _).alloc _) ⟨w1.heap.size + 1, 0, none⟩ 1 1 [.int .i64 g0, .string g1] rfl rfl ?c1 ?c2 ?c3 ?c4 ?c5 ?_)
        case c1 =>
          intro j u hj
          rw [Addr.add_lit, Nat.zero_add]
          exact rowFacts (cs := [.int .i64 g0, .string g1]) (heap_alloc2 w1 _ _) j u hj
        case c2 => intro u hu; simp at hu; rcases hu with rfl | rfl <;> rfl
        case c3 => unfold maxLen; omega
        case c4 => omega
        case c5 => simp; omega
        intro v' w2 hown' hgrow _
        have hlt2 := fun k hk => hO.lt k hk
        have hB2 : Below w.heap.size w w2 := ((HB1.out.alloc (by omega) _).alloc (by simp; omega) _).grown hgrow (by simp; omega) (fun k hk => by have := (hlt2 k hk).1; omega)
        have hs2 : w1.heap.size + 2 ≤ w2.heap.size := by have := hgrow.size; simp at this; omega
        have HY0 : Hid (w2.heap[w.heap.size]? = some (.cells [.slice none 0 0, .int .i64 0].toArray 138 (0, 0))) := by
          show _ = _
          rw [hgrow.block _ (by simp; omega) (fun e => by have := (hlt2 _ e.symm).1; omega), Below.heap_alloc _ _ _ (by simp; omega), Below.heap_alloc _ _ _ hl0]
          exact HX0.out
        have hx2 : w2.cell? ⟨w1.heap.size, 2, none⟩ = some (.int .i64 (m : Int)) := by
          have hr : w2.heap[w1.heap.size]? = some (.cells [.int .i64 g0, .string g1, .int .i64 (m : Int), .int .i64 0].toArray 185 (0, 0)) := by
            rw [hgrow.block _ (by simp; omega) (fun e => by have := (hlt2 _ e.symm).2; omega), Below.heap_alloc _ _ _ (by simp)]
            exact heap_alloc_new w1 _
          exact rowFacts hr 2 _ rfl
        have HO2 : Hid (OwnT w2 (w.heap.size + 1) v' (acc ++ [(g0, g1)])) := by
          show World.ownsRow _ _ _ _ _ _ _
          rw [tCells_snoc, List.length_append]
          exact hown'
        have HB2 : Hid (Below w.heap.size w w2) := hB2
        clear hown' hgrow hlt2 hB2 hO
        go_wp2_with fail
        go_roundw
        case rel =>
          exact ⟨m, f', acc ++ [(g0, g1)], rfl, at2, by omega, by simp; omega, HF.out, HY0.out, HO2.out, HB2.out, by omega⟩
        case measure => simp [intOf]; omega
    · have HF : Hid (R = (acc, 0)) := by
        show _ = _
        rw [← HAll.out, allR_end (by omega)]
      obtain ⟨⟨c0, c1⟩, f0, f1⟩ := cells2 HR0.out
      go_wp2_with fail
      refine bodyPost_ret (v := .agg #[.slice va acc.length vc, .int .i64 0]) (by simp [results, Tryz.results145, go_sem, c0, c1]) rfl ⟨.slice va acc.length vc, ?_, ?_, ?_⟩
      · rw [HF.out]
      · rw [HF.out]
        exact (OwnT.other (OwnT.other HO.out (by omega)) (by omega)).mono (by omega)
      · repeat (first | exact HB.out | refine Below.setCell ?_ (by simp) _ | refine Below.alloc ?_ (by simp <;> omega) _)
end Go.Proofs.YtkhdjmjbdpmdnaaGreatDoor
namespace Go.Proofs.YtkhdjmjbdpmdnaaGreatDoor
open Go.RowKit

/-- The places ks lie in block g. -/
def IsPl (w : World) (g : Nat) (ks : List Nat) : Prop := ∀ i, i < ks.length → w.cell? ⟨g, i, none⟩ = some (.int .i64 ((ks.getD i 0 : Nat) : Int))
theorem IsPl.row {w : World} {g : Nat} {t : TypeId} {ks : List Nat} (h : w.heap[g]? = some (.cells (ks.map fun k : Nat => Value.int .i64 (k : Int)).toArray t (0, 0))) : IsPl w g ks := fun i hi => by
  rw [cell_of_row w g i _ t (0, 0) h]
  simp [List.getD, hi]
theorem atP_step {s : ByteArray} {ks : List Nat} {k : Nat} (h : k < ks.length) : atP s (ks.drop k) = if ks.getD k 0 < (allD s).1.length then atP (bodyK s (ks.getD k 0)) (ks.drop (k + 1)) else ⟨#[]⟩ := by
  rw [List.drop_eq_getElem_cons h, atP, List.getD, List.getElem?_eq_getElem h]
  rfl
theorem tlvs (v : Value) (c : Int) (w : World) : (Instr.field 138 (.agg #[v, .int .i64 c]) 0).run Tryz.prog w = .ok v w := by kernel_rfl
set_option linter.unusedSimpArgs false in
set_option maxHeartbeats 4000000 in
set_option maxRecDepth 100000 in
theorem implAt (s : ByteArray) (ks : List Nat) (g c : Nat) (w : World) (hs : s.size ≤ 20000) (hl : ks.length ≤ 4) (hk : ∀ i, i < ks.length → ks.getD i 0 ≤ 100) (hgl : g < w.heap.size) (hg : IsPl w g ks) (hE : ErrType w) :
    Calls Tryz.prog 144 #[.string s, .slice (some ⟨g, 0, none⟩) ks.length c] w fun e w' => e = .returned (.string (atP s ks)) ∧ Below w.heap.size w w' := by
  have hEp := hE.pos
  have HE : Hid (∀ V, Below w.heap.size w V → ErrType V) := fun V hV => hE.below hV hEp
  have HPl : Hid (∀ V, Below w.heap.size w V → IsPl V g ks) := fun V hV i hi => by rw [hV.cell (p := ⟨g, i, none⟩) hgl]; exact hg i hi
  have HKl : Hid (∀ i, i < ks.length → ks.getD i 0 ≤ 100) := hk
  have HAl : Hid (∀ V (q : ByteArray), ErrType V → q.size ≤ 20000 → Calls Tryz.prog 145 #[.string q] V fun e w' => ∃ v, e = .returned (.agg #[v, .int .i64 (allD q).2]) ∧ OwnT w' V.heap.size v (allD q).1 ∧ Below V.heap.size V w') := fun V q hV hq => implDerAll q V (by unfold maxLen; omega) hV
  obtain ⟨R, hR⟩ : ∃ R, R = atP s ks := ⟨_, rfl⟩
  rw [← hR]
  have HR : Hid (R = atP s ks) := hR
  clear hR hE hg hk hEp hgl
  go_enter Tryz.func144, Tryz.ntmps144
  go_wp2
  go_loopw [0, 10] (fun r i wr => ∃ (k : Nat) (q : ByteArray), k ≤ ks.length ∧ i = .int .i64 k ∧ r = .string q ∧ atP s ks = atP q (ks.drop k) ∧ q.size ≤ 20000 ∧ Below w.heap.size w wr) (fun _ i _ => ks.length - (intOf i).toNat)
  case atStart => exact ⟨0, s, Nat.zero_le _, rfl, rfl, rfl, hs, Below.refl _ _⟩
  case round =>
    obtain ⟨k, q, hk, rfl, rfl, hat, hq, hbr⟩ := hrel
    have HB : Hid (Below w.heap.size w wr) := hbr
    by_cases hlt : k < ks.length
    · have hck := HPl.out wr hbr k hlt
      have hp := HKl.out k hlt
      have hst := atP_step (s := q) hlt
      have HX : Hid (R = if ks.getD k 0 < (allD q).1.length then atP (bodyK q (ks.getD k 0)) (ks.drop (k + 1)) else ⟨#[]⟩) := HR.out.trans (hat.trans hst)
      have HAt : Hid (atP s ks = atP q (ks.drop k)) := hat
      have HSt : Hid (atP q (ks.drop k) = if ks.getD k 0 < (allD q).1.length then atP (bodyK q (ks.getD k 0)) (ks.drop (k + 1)) else ⟨#[]⟩) := hst
      have a0 : (0 : Int) ≤ (k : Int) := by omega
      have b0 : (k : Int) < (ks.length : Int) := by omega
      have HC : Hid (Calls Tryz.prog 145 #[.string q] wr fun e w' => ∃ v, e = .returned (.agg #[v, .int .i64 (allD q).2]) ∧ OwnT w' wr.heap.size v (allD q).1 ∧ Below wr.heap.size wr w') := HAl.out wr q (HE.out _ hbr) hq
      have hlen := allD_len q
      have HBk : Hid (∀ n p, (allD q).1[n]? = some p → bodyK q n = p.2) := fun n p h => by unfold bodyK; rw [h]; rfl
      have HBl : Hid (∀ n, (bodyK q n).size ≤ 20000) := fun n => Nat.le_trans (bodyK_le q n) hq
      have tl := tlvs
      obtain ⟨L, hL⟩ : ∃ L, L = (allD q).1 := ⟨_, rfl⟩
      rw [← hL] at HX HSt HC hlen HBk
      obtain ⟨p, hpk⟩ : ∃ p, p = ks.getD k 0 := ⟨_, rfl⟩
      rw [← hpk] at hck hp HX HSt
      generalize (allD q).2 = cd at *
      obtain ⟨n, hn⟩ : ∃ n, n = ks.length := ⟨_, rfl⟩
      rw [← hn] at b0 ⊢
      have HN : Hid (n = ks.length) := hn
      have hkn : k < n := by omega
      clear hat hst hbr hL hpk HAl hn hlt
      have zero0 : (0 : Nat) + k = k := Nat.zero_add k
      go_wp2_with fail
      refine HC.out.mono ?_
      rintro e w2 ⟨v, rfl, ho, b2⟩
      have B2 : Hid (Below w.heap.size w w2) := HB.out.trans (b2.mono HB.out.size)
      obtain ⟨va, vc, rfl⟩ := OwnT.form ho
      have hI := ho.isT
      clear ho b2
      by_cases hpl : p < L.length
      · obtain ⟨y, hy⟩ : ∃ y, L[p]? = some y := ⟨L[p], List.getElem?_eq_getElem hpl⟩
        obtain ⟨g2, rfl, hg2, hcs⟩ : ∃ g2, va = some ⟨g2, 0, none⟩ ∧ g2 < w2.heap.size ∧ ∀ i p, L[i]? = some p → w2.cell? ⟨g2, i * 2, none⟩ = some (.int .i64 p.1) ∧ w2.cell? ⟨g2, i * 2 + 1, none⟩ = some (.string p.2) := by
          rcases hI with h | h
          · subst h; simp at hpl
          · exact h
        obtain ⟨k0, k1⟩ := hcs p y hy
        have hby := HBk.out p y hy
        have HF : Hid (∃ (j : Nat) (q' : ByteArray), j ≤ ks.length ∧ Value.int .i64 ((k : Int) + 1) = .int .i64 (j : Int) ∧ Value.string y.2 = .string q' ∧ atP s ks = atP q' (ks.drop j) ∧ q'.size ≤ 20000) := ⟨k + 1, y.2, by have := HN.out; omega, by congr 1, rfl, by rw [HAt.out, HSt.out, if_pos hpl, hby], by rw [← hby]; exact HBl.out p⟩
        generalize y.2 = yb at *
        generalize y.1 = yt at *
        have a1 : (0 : Int) ≤ (p : Int) := by omega
        have b1 : (p : Int) < (L.length : Int) := by omega
        have b2' : ¬ (L.length : Int) ≤ (p : Int) := by omega
        generalize L.length = ll at *
        clear hcs hI hby hy HBk HBl HX HAt HSt
        go_wp2_with fail
        go_roundw
        case rel =>
          obtain ⟨j, q', j1, j2, j3, j4, j5⟩ := HF.out
          exact ⟨j, q', by first | exact j1 | (rw [HN.out]; exact j1), by first | exact j2 | (rw [← j2]; simp; omega), j3, j4, j5, B2.out⟩
        case measure => simp [intOf]; omega
      · have HF : Hid (R = ⟨#[]⟩) := by show _ = _; rw [HX.out, if_neg hpl]
        have b1 : (L.length : Int) ≤ (p : Int) := by omega
        generalize L.length = ll at *
        clear hI HBk HBl HX HAt HSt
        go_wp2
        go_ret
        exact ⟨by rw [HF.out]; rfl, B2.out⟩
    · obtain rfl : k = ks.length := by omega
      have HF : Hid (R = q) := by show _ = _; rw [HR.out, hat, List.drop_length]; rfl
      clear hat hbr HAl
      go_wp2
      go_ret
      exact ⟨by rw [HF.out]; rfl, HB.out⟩
end Go.Proofs.YtkhdjmjbdpmdnaaGreatDoor
namespace Go.Proofs.YtkhdjmjbdpmdnaaGreatDoor
open Go.RowKit

theorem take_map {α β : Type} (f : α → β) (l : List α) {k : Nat} {y : α} (h : l[k]? = some y) : (l.take (k + 1)).map f = (l.take k).map f ++ [f y] := by
  have hk : k < l.length := by
    rcases Nat.lt_or_ge k l.length with h' | h'
    · exact h'
    · rw [List.getElem?_eq_none h'] at h; cases h
  rw [List.take_succ_eq_append_getElem hk, List.map_append]
  rw [List.getElem?_eq_getElem hk] at h
  rw [Option.some.inj h]
  rfl
set_option linter.unusedSimpArgs false in
set_option maxHeartbeats 4000000 in
set_option maxRecDepth 100000 in
theorem implReadNames (s : ByteArray) (w : World) (hs : s.size ≤ 20000) (hE : ErrType w) :
    Calls Tryz.prog 153 #[.string s] w fun e w' => ∃ v, e = .returned v ∧ OwnS w' w.heap.size v (bodiesR s) ∧ Below w.heap.size w w' := by
  obtain ⟨i0, hi, hz0, hz1, hz2⟩ := info_parts infoText
  have hEp := hE.pos
  have HE : Hid (∀ V, Below w.heap.size w V → ErrType V) := fun V hV => hE.below hV hEp
  have HAl : Hid (∀ V, ErrType V → Calls Tryz.prog 145 #[.string s] V fun e w' => ∃ v, e = .returned (.agg #[v, .int .i64 (allD s).2]) ∧ OwnT w' V.heap.size v (allD s).1 ∧ Below V.heap.size V w') := fun V hV => implDerAll s V (by unfold maxLen; omega) hV
  have tl := tlvs
  have hlen := allD_len s
  obtain ⟨R, hR⟩ : ∃ R, R = bodiesR s := ⟨_, rfl⟩
  rw [← hR]
  obtain ⟨L, hL⟩ : ∃ L, L = (allD s).1 := ⟨_, rfl⟩
  have HR : Hid (R = L.map (·.2)) := by show _ = _; rw [hR, hL]; rfl
  rw [← hL] at HAl hlen
  generalize (allD s).2 = cd at *
  have HE0 : Hid (ErrType w) := hE
  clear hR hL hs hE hEp
  go_enter Tryz.func153, Tryz.ntmps153
  go_wp2_with fail
  refine (HAl.out _ HE0.out).mono ?_
  rintro e w2 ⟨v, rfl, ho, b2⟩
  have B2 : Hid (Below w.heap.size w w2) := b2
  obtain ⟨va, vc, rfl⟩ := OwnT.form ho
  have HIt : Hid (IsT w2 va L) := ho.isT
  obtain ⟨ll, hll⟩ : ∃ ll, ll = L.length := ⟨_, rfl⟩
  rw [← hll] at hlen ⊢
  have HLl : Hid (ll = L.length) := hll
  have S2 : Hid (w.heap.size ≤ w2.heap.size) := b2.size
  clear ho b2 hll HAl
  go_wp2_with fail
  go_loopw [3, 10] (fun v i wr => ∃ k : Nat, k ≤ ll ∧ i = .int .i64 k ∧ OwnS wr w2.heap.size v ((L.take k).map (·.2)) ∧ Below w2.heap.size w2 wr) (fun _ i _ => ll - (intOf i).toNat)
  case atStart => exact ⟨0, Nat.zero_le _, rfl, ownS_nil _ _, Below.refl _ _⟩
  case round =>
    obtain ⟨k, hk, rfl, hown, hbr⟩ := hrel
    have HB : Hid (Below w2.heap.size w2 wr) := hbr
    have hlt' : ((L.take k).map (·.2)).length = k := by rw [List.length_map, List.length_take]; have := HLl.out; omega
    obtain ⟨xa, xc, rfl, hvc⟩ := OwnS.form hown
    have HO : Hid (OwnS wr w2.heap.size (.slice xa ((L.take k).map (·.2)).length xc) ((L.take k).map (·.2))) := hown
    rw [hlt'] at HO ⊢
    clear hown hvc
    by_cases hlt : k < ll
    · have hkL : k < L.length := by rw [← HLl.out]; exact hlt
      obtain ⟨y, hy⟩ : ∃ y, L[k]? = some y := ⟨L[k], List.getElem?_eq_getElem hkL⟩
      obtain ⟨g2, rfl, hg2, hcs⟩ : ∃ g2, va = some ⟨g2, 0, none⟩ ∧ g2 < w2.heap.size ∧ ∀ i p, L[i]? = some p → w2.cell? ⟨g2, i * 2, none⟩ = some (.int .i64 p.1) ∧ w2.cell? ⟨g2, i * 2 + 1, none⟩ = some (.string p.2) := by
        rcases HIt.out with h | h
        · subst h; simp at hkL
        · exact h
      have k0 := (hbr.cell (p := ⟨g2, k * 2, none⟩) hg2).trans (hcs k y hy).1
      have k1 := (hbr.cell (p := ⟨g2, k * 2 + 1, none⟩) hg2).trans (hcs k y hy).2
      have HT : Hid ((L.take (k + 1)).map (·.2) = (L.take k).map (·.2) ++ [y.2]) := take_map _ L hy
      have HLn : Hid (((L.take k).map (·.2)).length = k) := hlt'
      have a0 : (0 : Int) ≤ (k : Int) := by omega
      have b0 : (k : Int) < (ll : Int) := by omega
      have hsz := hbr.size
      generalize y.2 = yb at *
      generalize y.1 = yt at *
      generalize hpre : (L.take k).map (·.2) = pre at *
      have hO : wr.ownsRow w2.heap.size 9 1 (.slice xa k xc) k (sCells pre) := by
        have := HO.out
        unfold OwnS at this
        rw [HLn.out] at this
        exact this
      clear hcs hbr hlt' hy hkL hpre
      go_wp2_with (at_builtin; refine wpList_append_own _ rfl _ _ 23 rfl w2.heap.size 9 i0 (.string ⟨#[]⟩) 1 16 Tryz.underlying23 hi hz0 hz1 hz2 rfl (by decide) _ _ _ rfl ((hO.alloc _).alloc _) ⟨wr.heap.size + 1, 0, none⟩ 1 1 [.string yb] rfl rfl ?c1 ?c2 ?c3 ?c4 ?c5 ?_)
      case c1 => exact cells_one (by simp)
      case c2 => intro u hu; simp at hu; subst hu; rfl
      case c3 => unfold maxLen; omega
      case c4 => omega
      case c5 => simp; omega
      intro v' w3 hown' hgrow _
      have hB3 : Below w2.heap.size w2 w3 := ((HB.out.alloc HB.out.size _).alloc (by have := HB.out.size; simp; omega) _).grown hgrow (by have := HB.out.size; simp; omega) (fun k hk => (hO.lt k hk).1)
      have HO3 : Hid (OwnS w3 w2.heap.size v' ((L.take (k + 1)).map (·.2))) := by
        show World.ownsRow _ _ _ _ _ _ _
        rw [HT.out, List.length_append, HLn.out, sCells, List.map_append]
        exact hown'
      have HB3 : Hid (Below w2.heap.size w2 w3) := hB3
      clear hown' hgrow hB3 hO
      go_wp2_with fail
      go_roundw
      case rel => exact ⟨k + 1, by omega, by go_num, HO3.out, HB3.out⟩
      case measure => simp [intOf]; omega
    · obtain rfl : k = ll := by omega
      have HF : Hid (OwnS wr w2.heap.size (.slice xa k xc) R) := by
        have := HO.out
        rw [show L.take k = L from by rw [HLl.out]; exact List.take_length, ← HR.out] at this
        exact this
      clear hbr
      go_wp2
      go_ret
      exact ⟨_, rfl, HF.out.mono S2.out, B2.out.trans (HB.out.mono S2.out)⟩
end Go.Proofs.YtkhdjmjbdpmdnaaGreatDoor
namespace Go.Proofs.YtkhdjmjbdpmdnaaGreatDoor
end Go.Proofs.YtkhdjmjbdpmdnaaGreatDoor
namespace Go.Proofs.YtkhdjmjbdpmdnaaGreatDoor
open Go.RowKit Go.Lib

set_option maxHeartbeats 2000000 in
set_option maxRecDepth 100000 in
theorem implGet (s : ByteArray) (p : Int) (w : World) (hs : s.size ≤ maxLen) (hp0 : -9223372036854775808 ≤ p) (hp1 : p ≤ 9223372036854775807) (hg : ErrType w) :
    Calls Tryz.prog 189 #[.string s, .int .i64 p] w fun e w' => e = .returned (numV (numAt s p)) ∧ Below w.heap.size w w' := by
  have hread := fun W => readNum s p W hs hp0 hp1
  generalize numAt s p = R at *
  have HR : Hid (∀ W, Calls Tryz.prog 211 #[.string s, .int .i64 p] W fun e w' => ReadOk R e ∧ w' = W) := hread
  have HG : Hid (ErrType w) := hg
  have hpos := hg.pos
  clear hread hg
  go_enter Tryz.func189, Tryz.ntmps189
  go_wp2_with fail
  refine (HR.out _).mono ?_
  rintro e w' ⟨hb, rfl⟩
  rcases hb with ⟨hc, rfl⟩ | ⟨hc, hR, n, rfl⟩
  · have HC : Hid (R.code = 0) := hc
    clear hc
    go_wp2_with fail
    refine (as_nil _ _).mono ?_
    rintro e w' ⟨rfl, rfl⟩
    go_wp2
    refine bodyPost_ret (v := .agg #[.int .i64 R.n, .int .i64 R.at', .int .i64 0]) (by simp [results, Tryz.results189, go_sem]) rfl ⟨?_, ?_⟩
    · rw [numV, HC.out]
    · repeat (first | exact Below.refl _ _ | refine Below.setCell ?_ (by simp) _ | refine Below.alloc ?_ (by simp) _)
  · have HC : Hid (R = .bad R.code) := hR
    generalize hcc : R.code = c at *
    have HCC : Hid (R.code = c) := hcc
    clear hc hR hcc
    have HG2 : Hid (∀ o1 o2, ErrType ((w.alloc o1).alloc o2)) := fun o1 o2 => HG.out.below (((Below.refl _ _).alloc (Nat.le_refl _) o1).alloc (by simp) o2) hpos
    go_wp2_with fail
    refine (as_hit2 ⟨w.heap.size + 1, 0, none⟩ c (.int .i64 0) _ (HG2.out _ _) (by simp) (by simp)).mono ?_
    rintro e w1 ⟨rfl, ht, hb⟩
    have hB : Below (w.heap.size + 1) ((w.alloc (Obj.cells #[Value.int IntKind.i64 0, Value.int IntKind.i64 0, Value.int IntKind.i64 0] 150)).alloc (Obj.cells #[Value.int IntKind.i64 0] 216)) w1 := hb
    have c0 : w1.cell? ⟨w.heap.size, 0, none⟩ = some (.int .i64 0) := (hB.cell (by simp)).trans (by simp)
    have c1 : w1.cell? ⟨w.heap.size, 1, none⟩ = some (.int .i64 0) := (hB.cell (by simp)).trans (by simp)
    have c2 : w1.cell? ⟨w.heap.size, 2, none⟩ = some (.int .i64 0) := (hB.cell (by simp)).trans (by simp)
    have f0 : w1.frozen? ⟨w.heap.size, 0, none⟩ = false := (hB.frozen (by simp)).trans (by simp)
    have f1 : w1.frozen? ⟨w.heap.size, 1, none⟩ = false := (hB.frozen (by simp)).trans (by simp)
    have f2 : w1.frozen? ⟨w.heap.size, 2, none⟩ = false := (hB.frozen (by simp)).trans (by simp)
    have HB : Hid (Below w.heap.size w w1) := (((Below.refl _ w).alloc (Nat.le_refl _) _).alloc (by simp) _).trans (hB.mono (Nat.le_succ _))
    clear hb hB
    go_wp2
    refine bodyPost_ret (v := .agg #[.int .i64 0, .int .i64 0, .int .i64 c]) (by simp [results, Tryz.results189, go_sem, c0, c1, c2]) rfl ⟨?_, ?_⟩
    · rw [HC.out]; rfl
    · repeat (first | exact HB.out | refine Below.setCell ?_ (by simp) _)
end Go.Proofs.YtkhdjmjbdpmdnaaGreatDoor
namespace Go.Proofs.YtkhdjmjbdpmdnaaGreatDoor
open Go.RowKit

set_option linter.unusedSimpArgs false in
set_option maxHeartbeats 4000000 in
set_option maxRecDepth 100000 in
theorem implReadNums (s : ByteArray) (n : Nat) (w : World) (hs : s.size ≤ 20000) (hn : n ≤ 3) (hE : ErrType w) :
    Calls Tryz.prog 148 #[.string s, .int .i64 (n : Int)] w fun e w' => e = .returned (.slice (some ⟨w.heap.size, 0, none⟩) n n) ∧ w'.heap[w.heap.size]? = some (.cells (lCells (numsGo s n 1)).toArray 2 (0, 0)) ∧ Below w.heap.size w w' := by
  obtain ⟨i0, hi, hz0, hz1, hz2⟩ := info_parts infoLong
  have hEp := hE.pos
  have HE : Hid (∀ V, Below w.heap.size w V → ErrType V) := fun V hV => hE.below hV hEp
  have HGt : Hid (∀ V (p : Int), ErrType V → -9223372036854775808 ≤ p → p ≤ 9223372036854775807 → Calls Tryz.prog 189 #[.string s, .int .i64 p] V fun e w' => e = .returned (numV (numAt s p)) ∧ Below V.heap.size V w') := fun V p hV h0 h1 => implGet s p V (by unfold maxLen; omega) h0 h1 hV
  obtain ⟨R, hR⟩ : ∃ R, R = numsGo s n 1 := ⟨_, rfl⟩
  rw [← hR]
  have HR : Hid (R = numsGo s n 1) := hR
  clear hR hE hEp
  go_enter Tryz.func148, Tryz.ntmps148
  go_wp2_with (at_make; refine wpList_make_full _ rfl _ _ 51 rfl w.heap.size 2 i0 (.int .i64 0) 1 Tryz.underlying51 hi hz0 hz1 .i64 .i64 _ _ n rfl rfl ?c1 ?c2 ?c3 ?c4 ?c5 ?_)
  case c1 => omega
  case c2 => omega
  case c3 => rw [hz2]; omega
  case c4 => unfold maxLen; omega
  case c5 => exact Nat.le_refl _
  intro w1 hown hgrow
  have hB1 : Below w.heap.size w w1 := (Below.refl _ w).grown hgrow (Nat.le_refl _) (fun k hk => by cases hk)
  obtain ⟨hrow, hlen⟩ := rowOf hown rfl
  have hz : (madeCells #[Value.int IntKind.i64 0] n).toList = lCells (List.replicate n 0) := by
    have h3 : n = 0 ∨ n = 1 ∨ n = 2 ∨ n = 3 := by omega
    rcases h3 with rfl | rfl | rfl | rfl <;> simp [madeCells, lCells, List.replicate, List.range_succ]
  rw [hz] at hrow
  have HR0 : Hid (w1.heap[w.heap.size]? = some (.cells (lCells (List.replicate n 0)).toArray 2 (0, 0))) := hrow
  have HB1 : Hid (Below w.heap.size w w1) := hB1
  clear hown hgrow hrow hlen hB1 hz
  go_wp2_with fail
  go_loopw [6, 13] (fun q i wr => ∃ (k : Nat) (p : Int) (pre : List Int), k ≤ n ∧ i = .int .i64 k ∧ q = .int .i64 p ∧ 0 ≤ p ∧ p ≤ 20000 ∧ pre.length = k ∧ R = pre ++ numsGo s (n - k) p ∧ wr.heap[w.heap.size]? = some (.cells (lCells (pre ++ List.replicate (n - k) 0)).toArray 2 (0, 0)) ∧ Below w.heap.size w wr) (fun _ i _ => n - (intOf i).toNat)
  case atStart => exact ⟨0, 1, [], Nat.zero_le _, rfl, rfl, by omega, by omega, rfl, HR.out, HR0.out, HB1.out⟩
  case round =>
    obtain ⟨k, p, pre, hk, rfl, rfl, hp0, hp1, hpl, hpre, hgr, hbr⟩ := hrel
    have HB : Hid (Below w.heap.size w wr) := hbr
    by_cases hlt : k < n
    · have HC : Hid (Calls Tryz.prog 189 #[.string s, .int .i64 p] wr fun e w' => e = .returned (numV (numAt s p)) ∧ Below wr.heap.size wr w') := HGt.out wr p (HE.out _ hbr) (by omega) (by omega)
      unfold numV at HC
      have HX : Hid (R = pre ++ numsGo s (n - k) p) := hpre
      have HG : Hid (wr.heap[w.heap.size]? = some (.cells (lCells (pre ++ List.replicate (n - k) 0)).toArray 2 (0, 0))) := hgr
      have HNx : Hid (∀ h : (numAt s p).code = 0, numsGo s (n - k) p = (numAt s p).n :: numsGo s (n - (k + 1)) (numAt s p).at') := fun h => by
        rw [show n - k = (n - (k + 1)) + 1 from by omega, numsGo, if_pos h]
      have HNo : Hid (∀ h : ¬ (numAt s p).code = 0, numsGo s (n - k) p = List.replicate (n - k) 0) := fun h => by
        rw [show n - k = (n - (k + 1)) + 1 from by omega, numsGo, if_neg h]
      have HAt : Hid ((numAt s p).code = 0 → 0 ≤ (numAt s p).at' ∧ (numAt s p).at' ≤ 20000) := fun h => by have := numAt_lies h; omega
      generalize (numAt s p).n = rn at *
      generalize (numAt s p).at' = ra at *
      generalize (numAt s p).code = rc at *
      have a0 : (0 : Int) ≤ (k : Int) := by omega
      have b0 : (k : Int) < (n : Int) := by omega
      have HPl : Hid (pre.length = k) := hpl
      clear hpre hgr hbr hpl HGt
      go_wp2_with fail
      refine HC.out.mono ?_
      rintro e w2 ⟨rfl, b2⟩
      have B2 : Hid (Below w.heap.size w w2) := HB.out.trans (b2.mono HB.out.size)
      have HG2 : Hid (w2.heap[w.heap.size]? = some (.cells (lCells (pre ++ List.replicate (n - k) 0)).toArray 2 (0, 0))) := (b2.block _ (heap_lt HG.out)).trans HG.out
      clear b2 HG HC
      have hgl := heap_lt HG2.out
      have hkc : (lCells (pre ++ List.replicate (n - k) 0))[k]? = some (.int .i64 0) := by
        rw [lCells, List.getElem?_map, List.getElem?_append_right (by rw [HPl.out]; exact Nat.le_refl _), HPl.out, Nat.sub_self, show n - k = (n - (k + 1)) + 1 from by omega, List.replicate_succ]
        rfl
      by_cases hc : rc = 0
      · have hat := HAt.out hc
        have HF : Hid (∃ (j : Nat) (p' : Int) (pre' : List Int), j ≤ n ∧ Value.int .i64 ((k : Int) + 1) = .int .i64 (j : Int) ∧ Value.int .i64 ra = .int .i64 p' ∧ 0 ≤ p' ∧ p' ≤ 20000 ∧ pre'.length = j ∧ R = pre' ++ numsGo s (n - j) p' ∧ (lCells (pre ++ List.replicate (n - k) 0)).set k (.int .i64 rn) = lCells (pre' ++ List.replicate (n - j) 0)) :=
          ⟨k + 1, ra, pre ++ [rn], by omega, by congr 1, rfl, hat.1, hat.2, by rw [List.length_append, HPl.out]; rfl, by rw [HX.out, HNx.out hc, List.append_assoc]; rfl, by
            rw [lCells, lCells, List.map_append, List.set_append, if_neg (by simp [HPl.out]), List.length_map, HPl.out, Nat.sub_self, show n - k = (n - (k + 1)) + 1 from by omega, List.replicate_succ, List.map_cons, List.set_cons_zero, List.append_assoc, List.map_append, List.singleton_append, List.map_cons]⟩
        subst hc
        obtain ⟨w3, hw3⟩ : ∃ y, y = w2.alloc (.cells #[.int .i64 rn, .int .i64 ra, .int .i64 0] 150 (0, 0)) := ⟨_, rfl⟩
        have r3 : w3.heap[w.heap.size]? = some (.cells (lCells (pre ++ List.replicate (n - k) 0)).toArray 2 (0, 0)) := by rw [hw3, Below.heap_alloc _ _ _ hgl]; exact HG2.out
        have q3 : w3.heap[w2.heap.size]? = some (.cells [Value.int .i64 rn, .int .i64 ra, .int .i64 0].toArray 150 (0, 0)) := by rw [hw3]; exact heap_alloc_new w2 _
        have B3 : Hid (Below w.heap.size w w3) := by rw [hw3]; exact B2.out.alloc B2.out.size _
        have HNz : Hid (w.heap.size < w2.heap.size) := hgl
        have hd := rowFacts r3 k _ hkc
        have hf := rowFree r3 k
        have y0 := rowFacts q3 0 _ rfl
        have y1 := rowFacts q3 1 _ rfl
        have y2 := rowFacts q3 2 _ rfl
        have HG3 : Hid (∀ v, (w3.setCell ⟨w.heap.size, k, none⟩ v).heap[w.heap.size]? = some (.cells ((lCells (pre ++ List.replicate (n - k) 0)).set k v).toArray 2 (0, 0))) := fun v => rowSet v r3
        have HB3 : Hid (∀ v, Below w.heap.size w (w3.setCell ⟨w.heap.size, k, none⟩ v)) := fun v => B3.out.setCell (Nat.le_refl _) v
        clear r3 q3 hkc HNx HNo HAt hat HX
        go_upto_region 8 with fail
        rw [← hw3]
        clear hw3
        have D3 : Hid (Below w.heap.size w w3.drew) := B3.out.drew
        refine wp_region_held_drew (S := fun V => V.cell? ⟨w2.heap.size, 0, none⟩ = some (.int .i64 rn) ∧ V.cell? ⟨w2.heap.size, 1, none⟩ = some (.int .i64 ra)) (by kernel_rfl) ?_ (fun hHeld => ?_)
        · exact ⟨y0, y1⟩
        refine wpAnyH_take (i := 0) (oi := ⟨some 22, _, _, _, _, _⟩) (v := ?_) rfl (by kernel_rfl) (by kernel_rfl) (by kernel_rfl) (fun _ _ _ h => h) (Or.inl ⟨by kernel_rfl, ?_⟩) (by assumption) ?_
        rotate_left
        · (intro w hSw; (try dsimp only at hSw); go_simp; try with_reducible rfl)
        (try simp only [Act.put, List.setIfInBounds_toArray, List.set_cons_zero, List.set_cons_succ])
        refine wpAnyH_take (i := 1) (oi := ⟨some 23, _, _, _, _, _⟩) (v := ?_) rfl (by kernel_rfl) (by kernel_rfl) (by kernel_rfl) (fun _ _ _ h => h) (Or.inl ⟨by kernel_rfl, ?_⟩) (by assumption) ?_
        rotate_left
        · (intro w hSw; (try dsimp only at hSw); go_simp; try with_reducible rfl)
        (try simp only [Act.put, List.setIfInBounds_toArray, List.set_cons_zero, List.set_cons_succ])
        refine wpAnyH_take (i := 2) (oi := ⟨some 24, _, _, _, _, _⟩) (v := ?_) rfl (by kernel_rfl) (by kernel_rfl) (by kernel_rfl) (fun _ _ _ h => h) (Or.inl ⟨by kernel_rfl, ?_⟩) (by assumption) ?_
        rotate_left
        · (intro w hSw; (try dsimp only at hSw); go_simp; try with_reducible rfl)
        (try simp only [Act.put, List.setIfInBounds_toArray, List.set_cons_zero, List.set_cons_succ])
        refine wpAnyH_take (i := 3) (oi := ⟨some 25, _, _, _, _, _⟩) (v := ?_) rfl (by kernel_rfl) (by kernel_rfl) (by kernel_rfl) (fun _ _ _ h => h) (Or.inl ⟨by kernel_rfl, ?_⟩) (by assumption) ?_
        rotate_left
        · (intro w hSw; (try dsimp only at hSw); go_simp; try with_reducible rfl)
        (try simp only [Act.put, List.setIfInBounds_toArray, List.set_cons_zero, List.set_cons_succ])
        refine wpAnyH_take (i := 4) (oi := ⟨some 26, _, _, _, _, _⟩) (v := ?_) rfl (by kernel_rfl) (by kernel_rfl) (by kernel_rfl) (fun _ _ _ h => h) (Or.inl ⟨by kernel_rfl, ?_⟩) (by assumption) ?_
        rotate_left
        · (intro w hSw; (try dsimp only at hSw); go_simp; try with_reducible rfl)
        (try simp only [Act.put, List.setIfInBounds_toArray, List.set_cons_zero, List.set_cons_succ])
        refine wpAnyH_take (i := 5) (oi := ⟨some 27, _, _, _, _, _⟩) (v := ?_) rfl (by kernel_rfl) (by kernel_rfl) (by kernel_rfl) (fun _ _ _ h => h) (Or.inl ⟨by kernel_rfl, ?_⟩) (by assumption) ?_
        rotate_left
        · (intro w hSw; (try dsimp only at hSw); go_simp; try with_reducible rfl)
        (try simp only [Act.put, List.setIfInBounds_toArray, List.set_cons_zero, List.set_cons_succ])
        refine wpAnyH_take (i := 6) (oi := ⟨some 28, _, _, _, _, _⟩) (v := ?_) rfl (by kernel_rfl) (by kernel_rfl) (by kernel_rfl) (fun _ _ _ h => h) (Or.inl ⟨by kernel_rfl, ?_⟩) (by assumption) ?_
        rotate_left
        · (intro w hSw; (try dsimp only at hSw); go_simp; try with_reducible rfl)
        (try simp only [Act.put, List.setIfInBounds_toArray, List.set_cons_zero, List.set_cons_succ])
        refine wpAnyH_ready (rs := [7]) (by kernel_rfl) (by simp) ?_
        refine AllReadyH.cons (o := ⟨none, _, _, _, _, _⟩) rfl (fun K hK => ?_) AllReadyH.nil
        have hd' : w3.drew.cell? ⟨w.heap.size, k, none⟩ = some (.int .i64 0) := hd
        have hf' : w3.drew.frozen? ⟨w.heap.size, k, none⟩ = false := hf
        go_simp
        refine hK.out _ _ ?_ (fun hHeld => ?_)
        · have hne : w2.heap.size ≠ w.heap.size := by have := HNz.out; omega
          exact ⟨(World.cell?_setCell_far w3 ⟨w.heap.size, k, none⟩ ⟨w2.heap.size, 0, none⟩ (.int .i64 rn) (by show w.heap.size ≠ w2.heap.size; omega)).trans y0, (World.cell?_setCell_far w3 ⟨w.heap.size, k, none⟩ ⟨w2.heap.size, 1, none⟩ (.int .i64 rn) (by show w.heap.size ≠ w2.heap.size; omega)).trans y1⟩
        clear hK K
        (try simp only [Act.put, List.setIfInBounds_toArray, List.set_cons_zero, List.set_cons_succ])
        refine wpAnyH_take (i := 8) (oi := ⟨some 6, _, _, _, _, _⟩) (v := ?_) rfl (by kernel_rfl) (by kernel_rfl) (by kernel_rfl) (fun _ _ _ h => h) (Or.inl ⟨by kernel_rfl, ?_⟩) (by assumption) ?_
        rotate_left
        · (intro w hSw; (try dsimp only at hSw); go_simp; try with_reducible rfl)
        (try simp only [Act.put, List.setIfInBounds_toArray, List.set_cons_zero, List.set_cons_succ])
        refine wpAnyH_done (by kernel_rfl) ?_ _
        clear hHeld hd' hf' hd hf y0 y1 y2
        go_wp2
        go_roundw
        case rel =>
          obtain ⟨j, p', pre', j1, j2, j3, j4, j5, j6, j7, j8⟩ := HF.out
          exact ⟨j, p', pre', j1, by first | exact j2 | (rw [← j2]; simp; omega), j3, j4, j5, j6, j7, by show (w3.setCell ⟨w.heap.size, k, none⟩ (.int .i64 rn)).heap[w.heap.size]? = _; rw [HG3.out, j8], (HB3.out _).drew⟩
        case measure => simp [intOf]; omega
      · have HF : Hid (R = pre ++ List.replicate (n - k) 0) := by show _ = _; rw [HX.out, HNo.out hc]
        have HGo : Hid (∀ o, (w2.alloc o).heap[w.heap.size]? = some (.cells (lCells R).toArray 2 (0, 0))) := fun o => by rw [Below.heap_alloc _ _ _ hgl, HG2.out, HF.out]
        have HBo : Hid (∀ o, Below w.heap.size w (w2.alloc o)) := fun o => B2.out.alloc B2.out.size o
        clear hkc HNx HNo HAt HX
        go_wp2
        go_ret
        exact ⟨rfl, HGo.out _, HBo.out _⟩
    · obtain rfl : k = n := by omega
      have HF : Hid (wr.heap[w.heap.size]? = some (.cells (lCells R).toArray 2 (0, 0))) := by
        show _ = _
        rw [hgr, hpre, Nat.sub_self]
        rfl
      clear hbr hgr hpre
      go_wp2
      go_ret
      exact ⟨rfl, HF.out, HB.out⟩
end Go.Proofs.YtkhdjmjbdpmdnaaGreatDoor
