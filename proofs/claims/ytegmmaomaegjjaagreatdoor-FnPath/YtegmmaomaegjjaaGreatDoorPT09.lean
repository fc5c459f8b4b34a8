/- A text taken into a hash, walked: spec.l02More. The end of a hash, walked: spec.l02End. spec.HashBegin, walked. spec.l04Num, walked: the number of a text's digest. spec.l04Challenge, walked. spec.PublicOf, walked. A Sig in memory. -/
import Derived.Test.YtegmmaomaegjjaaGreatDoorPT08
import Derived.Test.YtegmmaomaegjjaaGreatDoorPT05
import Derived.Deep.Cut
import Derived.Test.YtegmmaomaegjjaaGreatDoorPT07
import Derived.Test.YtegmmaomaegjjaaGreatDoorPT03
import Derived.Test.YtegmmaomaegjjaaGreatDoorPT01
namespace Go.Proofs.YtegmmaomaegjjaaGreatDoor
open Go.RowKit

theorem made0 (w : World) : (w.alloc (.cells #[] 2 (0, 0))).ownsRow w.heap.size 2 1 (.slice (some ⟨w.heap.size, 0, none⟩) 0 0) 0 [] := World.ownsRow_made _ #[] 0 (Nat.le_refl _) (Nat.zero_le _) rfl
theorem madeS2 (w : World) (o : Obj) : ((w.alloc o).alloc (.cells #[] 2 (0, 0))).ownsRow w.heap.size 2 1 (.slice (some ⟨w.heap.size + 1, 0, none⟩) 0 0) 0 [] := by
  have h := World.ownsRow_made (base := w.heap.size) (e := 2) (size := 1) (w.alloc o) #[] 0 (by simp) (Nat.zero_le _) rfl
  rw [show (w.alloc o).heap.size = w.heap.size + 1 from by simp] at h
  exact h
theorem iCells_all (s : St) : ∀ v ∈ iCells s, v.oneCell' = true := fun v hv => by
  simp only [iCells, List.mem_map] at hv
  obtain ⟨x, _, rfl⟩ := hv
  rfl
theorem owns_other {w w' : World} {B g n c : Nat} {t : TypeId} {xs : List Value} (h : w.ownsRow B t 1 (.slice (some ⟨g, 0, none⟩) n c) n xs) (hh : w'.heap[g]? = w.heap[g]?) : w'.ownsRow B t 1 (.slice (some ⟨g, 0, none⟩) n c) n xs := by
  refine ⟨h.1, ?_⟩
  rcases h.2 with ⟨h', _⟩ | ⟨g', c', cur, h', hb, hg, hr⟩
  · simp at h'
  · simp only [Value.slice.injEq, Option.some.injEq, Addr.mk.injEq, and_true, true_and] at h'
    obtain ⟨rfl, rfl⟩ := h'
    exact .inr ⟨g, c, cur, rfl, hb, by rw [hh]; exact hg, hr⟩
theorem owns_range {w : World} {B g n c : Nat} {t : TypeId} {xs : List Value} (h : w.ownsRow B t 1 (.slice (some ⟨g, 0, none⟩) n c) n xs) : w.rangeAt g 0 xs := fun j v hv => by
  have hj : j < xs.length := by
    rcases Nat.lt_or_ge j xs.length with h' | h'
    · exact h'
    · rw [List.getElem?_eq_none h'] at hv; cases hv
  have hl := h.1
  rw [Nat.zero_add, h.cellAt j (by omega)]; exact hv
theorem rowThree {w : World} {g : Nat} {t : TypeId} {x y z : Value} (hg : w.heap[g]? = some (.cells [x, y, z].toArray t (0, 0))) (a b c : Value) :
    (((w.setCell ⟨g, 0, none⟩ a).setCell ⟨g, 1, none⟩ b).setCell ⟨g, 2, none⟩ c).heap[g]? = some (.cells [a, b, c].toArray t (0, 0)) := rowSet c (rowSet b (rowSet a hg))
set_option maxHeartbeats 1000000 in
set_option maxRecDepth 100000 in
theorem specMore (s : St) (r text : ByteArray) (n : Int) (w : World) (gs cap : Nat) (hr : r.size ≤ 1000000) (ht : text.size ≤ 900000) (h0 : 0 ≤ n) (hn : n ≤ 2000000000000) (hst : w.rangeAt gs 0 (iCells s)) :
    Calls Tryz.prog 113 #[.agg #[.slice (some ⟨gs, 0, none⟩) 8 cap, .string r, .int .i64 n], .string text] w
      fun e w' => ∃ v, e = .returned (.agg #[v, .string (restOf (r ++ text)), .int .i64 (n + text.size)]) ∧ w'.ownsRow w.heap.size 2 1 v 8 (iCells (more s (r ++ text))) ∧ Below w.heap.size w w' := by
  obtain ⟨il, hil, hl0, hl1, hl2⟩ := info_parts infoLong
  have hgsl : gs < w.heap.size := World.block_lt_of_cell? w _ (hst 0 _ rfl)
  go_enter Tryz.func113, Tryz.ntmps113
  go_wp2_with fail
  have hA : ∀ x y, Below w.heap.size w ((w.alloc x).alloc y) := fun x y => ((Below.refl _ w).alloc (Nat.le_refl _) x).alloc (by simp) y
  generalize hw1 : (w.alloc (.cells #[.slice (some ⟨gs, 0, none⟩) 8 cap, .string r, .int .i64 n] 113 (0, 0))).alloc (.cells #[.slice none 0 0, .string ⟨#[]⟩, .int .i64 0] 113 (0, 0)) = w1
  have hb1 : Below w.heap.size w w1 := by rw [← hw1]; exact hA _ _
  have hs1 : w1.heap.size = w.heap.size + 2 := by rw [← hw1]; simp
  have p0 : w1.cell? ⟨w.heap.size, 0, none⟩ = some (.slice (some ⟨gs, 0, none⟩) 8 cap) := by rw [← hw1]; simp
  have p1 : w1.cell? ⟨w.heap.size, 1, none⟩ = some (.string r) := by rw [← hw1]; simp
  have p2 : w1.cell? ⟨w.heap.size, 2, none⟩ = some (.int .i64 n) := by rw [← hw1]; simp
  have hR1 : w1.heap[w.heap.size + 1]? = some (.cells [Value.slice none 0 0, .string ⟨#[]⟩, .int .i64 0].toArray 113 (0, 0)) := by rw [← hw1]; exact heap_alloc2 w _ _
  have hfs : (r ++ text).size ≤ 1900000 := by rw [size_append]; omega
  generalize hF : r ++ text = F at hfs
  have HF : Hid (r ++ text = F) := hF
  have HS1 : Hid (w1.heap.size = w.heap.size + 2) := hs1
  have hle : w.heap.size ≤ w1.heap.size := by omega
  have HN : Hid (∀ W, Below w.heap.size w W → ∀ j u, (iCells s)[j]? = some u → W.cell? ((⟨gs, 0, none⟩ : Addr).add j) = some u) := fun W hW j u hu => by
    rw [Addr.add_lit, hW.cell (p := ⟨gs, 0 + j, none⟩) hgsl]; exact hst j u hu
  have HO := iCells_all s
  clear hA hw1 hs1 hst
  have hsum : ¬ 9223372036854775807 < r.size + text.size := by omega
  have hwn : IntKind.i64.wrap (n + (text.size : Int)) = n + (text.size : Int) := by rw [IntKind.wrap_i64]; omega
  go_cut [5] from 7 (fun s5 wx => ∃ q g c, s5 = .pointer (some ⟨q, 0, none⟩) ∧ w1.heap.size ≤ q ∧ g ≠ q ∧ wx.heap[q]? = some (.cells [.slice (some ⟨g, 0, none⟩) 8 c, .string F, .int .i64 (n + text.size)].toArray 113 (0, 0)) ∧ wx.ownsRow w1.heap.size 2 1 (.slice (some ⟨g, 0, none⟩) 8 c) 8 (iCells s) ∧ Below w1.heap.size w1 wx)
  case first =>
    have KS : Hid (∀ W, Below w1.heap.size w1 W → W.cell? ⟨w.heap.size, 0, none⟩ = some (.slice (some ⟨gs, 0, none⟩) 8 cap) ∧ W.cell? ⟨w.heap.size, 1, none⟩ = some (.string r) ∧ W.cell? ⟨w.heap.size, 2, none⟩ = some (.int .i64 n)) := fun W hW => by
      have hlt : w.heap.size < w1.heap.size := by have := HS1.out; omega
      exact ⟨(hW.cell (p := ⟨w.heap.size, 0, none⟩) hlt).trans p0, (hW.cell (p := ⟨w.heap.size, 1, none⟩) hlt).trans p1, (hW.cell (p := ⟨w.heap.size, 2, none⟩) hlt).trans p2⟩
    go_region_held3 (fun W => W.cell? ⟨w.heap.size, 0, none⟩ = some (.slice (some ⟨gs, 0, none⟩) 8 cap) ∧ W.cell? ⟨w.heap.size, 1, none⟩ = some (.string r) ∧ W.cell? ⟨w.heap.size, 2, none⟩ = some (.int .i64 n)) (exact KS.out _ (by go_grown))
      (first | (refine step_append_lies _ (by rfl) _ _ _ (by rfl) w1.heap.size 2 il _ 1 8 Tryz.underlying28 hil hl0 hl1 hl2 rfl (by omega) _ 0 [] (by rfl) (by first | exact (made0 w1).drew | exact ((made0 w1).alloc _).drew | exact (madeS2 w1 _).drew) ⟨gs, 0, none⟩ 8 cap (iCells s) (by rfl) (by rfl) (HN.out _ (by go_grown)) HO (by omega) (by unfold maxLen; omega) (by omega) (by go_size) _ rfl ?_; intro gg c2 w6 hown1 hgrow hat hlt1; have hb6 : Below w1.heap.size w1 w6 := Below.grown (by go_grown) hgrow (by go_size) (by intro k hk; cases hk; go_size); have hs6 : w1.heap.size ≤ w6.heap.size := hb6.size; first | (have hq6 := (hgrow.block (w1.heap.size + 1) (by go_size) (by show some (w1.heap.size + 1) ≠ some w1.heap.size; simp)).trans (heap_alloc2 w1 _ _); have o0 := rowFacts hq6 0 _ rfl; have o1 := rowFacts hq6 1 _ rfl; have o2 := rowFacts hq6 2 _ rfl; have y0 := frozen_of_row w6 _ 0 _ _ hq6; have y1 := frozen_of_row w6 _ 1 _ _ hq6; have y2 := frozen_of_row w6 _ 2 _ _ hq6) | (have hq6 := (hgrow.block w1.heap.size (by go_size) (by show some w1.heap.size ≠ some (w1.heap.size + 1); simp)).trans ((Below.heap_alloc (w1.alloc _) _ _ (by simp)).trans (heap_alloc_new w1 _)); have o0 := rowFacts hq6 0 _ rfl; have o1 := rowFacts hq6 1 _ rfl; have o2 := rowFacts hq6 2 _ rfl; have y0 := frozen_of_row w6 _ 0 _ _ hq6; have y1 := frozen_of_row w6 _ 1 _ _ hq6; have y2 := frozen_of_row w6 _ 2 _ _ hq6) | skip))
    · have HO6 : Hid (w6.ownsRow w1.heap.size 2 1 (.slice (some ⟨gg, 0, none⟩) 8 c2) 8 (iCells s)) := hown1
      have HB6 : Hid (Below w1.heap.size w1 w6) := hb6
      clear hown1 hgrow hat hb6 hil hl0 hl1 hl2
      go_wp2
      go_meet
      case rel => exact ⟨w6.heap.size, gg, c2, rfl, hs6, by omega, heap_alloc_new w6 _, HO6.out.alloc _, HB6.out.alloc hs6 _⟩
    · have HO6 : Hid (w6.ownsRow w1.heap.size 2 1 (.slice (some ⟨gg, 0, none⟩) 8 c2) 8 (iCells s)) := hown1
      have HB6 : Hid (Below w1.heap.size w1 w6) := hb6
      have hne : gg ≠ w1.heap.size + 1 := by
        rcases hat with h | h
        · have h' : some w1.heap.size = some gg := h
          simp at h'; omega
        · rw [h]; simp
      have HQ : Hid _ := hq6
      clear hown1 hgrow hat hb6 hil hl0 hl1 hl2 hq6
      go_wp2
      go_meet
      case rel => exact ⟨w1.heap.size + 1, gg, c2, rfl, by omega, hne, rowThree HQ.out _ _ _, owns_other HO6.out (by rw [heap_setCell_other _ _ _ _ hne, heap_setCell_other _ _ _ _ hne, heap_setCell_other _ _ _ _ hne]), ((HB6.out.setCell (by simp) _).setCell (by simp) _).setCell (by simp) _⟩
    · have HO6 : Hid (w6.ownsRow w1.heap.size 2 1 (.slice (some ⟨gg, 0, none⟩) 8 c2) 8 (iCells s)) := hown1
      have HB6 : Hid (Below w1.heap.size w1 w6) := hb6
      have hne : gg ≠ w1.heap.size := by
        rcases hat with h | h
        · have h' : some (w1.heap.size + 1) = some gg := h
          simp at h'; omega
        · rw [h]; simp; omega
      have HQ : Hid _ := hq6
      clear hown1 hgrow hat hb6 hil hl0 hl1 hl2 hq6
      go_wp2
      go_meet
      case rel => exact ⟨w1.heap.size, gg, c2, rfl, Nat.le_refl _, hne, rowThree HQ.out _ _ _, owns_other HO6.out (by rw [heap_setCell_other _ _ _ _ hne, heap_setCell_other _ _ _ _ hne, heap_setCell_other _ _ _ _ hne]), ((HB6.out.setCell (by simp) _).setCell (by simp) _).setCell (by simp) _⟩
  case rest =>
    obtain ⟨q, g, c, rfl, hq, hgq, hQ, hown, hbc⟩ := hcut
    have hRc : wc.heap[w.heap.size + 1]? = some (.cells [Value.slice none 0 0, .string ⟨#[]⟩, .int .i64 0].toArray 113 (0, 0)) := by
      rw [hbc.block _ (by have := HS1.out; omega)]; exact hR1
    have HBc : Hid (Below w.heap.size w wc) := hb1.trans (hbc.mono hle)
    have q0 := rowFacts hQ 0 _ rfl
    have q1 := rowFacts hQ 1 _ rfl
    have q2 := rowFacts hQ 2 _ rfl
    have HQ : Hid _ := hQ
    have HOc : Hid (wc.ownsRow w1.heap.size 2 1 (.slice (some ⟨g, 0, none⟩) 8 c) 8 (iCells s)) := hown
    have HRc : Hid _ := hRc
    clear hQ hown hRc hbc hb1 hR1 p0 p1 p2 HN HO
    go_wp2_with fail
    have hql := heap_lt HQ.out
    go_loopw [6] (fun v wr => ∃ (m a G cG : Nat), a = 64 * m ∧ a ≤ F.size ∧ v = .int .i64 (a : Int) ∧ G ≠ q ∧ q < wr.heap.size ∧ wr.heap[q]? = some (.cells [.slice (some ⟨G, 0, none⟩) 8 cG, .string F, .int .i64 (n + text.size)].toArray 113 (0, 0)) ∧ wr.ownsRow w1.heap.size 2 1 (.slice (some ⟨G, 0, none⟩) 8 cG) 8 (iCells (blks s F m)) ∧ wr.heap[w.heap.size + 1]? = some (.cells [Value.slice none 0 0, .string ⟨#[]⟩, .int .i64 0].toArray 113 (0, 0)) ∧ Below w.heap.size w wr ∧ w1.heap.size ≤ wr.heap.size)
      (fun v _ => F.size - (intOf v).toNat)
    case atStart => exact ⟨0, 0, g, c, rfl, Nat.zero_le _, rfl, hgq, hql, HQ.out, HOc.out, HRc.out, HBc.out, by omega⟩
    case round =>
      clear q0 q1 q2 HQ HOc HRc HBc hql hgq
      obtain ⟨m, a, G, cG, ha, haF, rfl, hGq, hql, hQ, hown, hRr, hbr, hs1r⟩ := hrel
      have q0 := rowFacts hQ 0 _ rfl
      have q1 := rowFacts hQ 1 _ rfl
      have q2 := rowFacts hQ 2 _ rfl
      by_cases hlt : a + 64 ≤ F.size
      · have hsz : (F.extract a (a + 64)).size = 64 := by rw [ByteArray.size_extract]; omega
        have HT : Hid (Calls Tryz.prog 136 #[.slice (some ⟨G, 0, none⟩) 8 cG, .string (F.extract a (a + 64))] wr.drew fun e w' => ∃ G2 c2, e = .returned (.slice (some ⟨G2, 0, none⟩) 8 c2) ∧ w'.cell? ⟨q, 0, none⟩ = some (.slice (some ⟨G, 0, none⟩) 8 cG) ∧ w'.frozen? ⟨q, 0, none⟩ = false ∧ w'.cell? ⟨q, 1, none⟩ = some (.string F) ∧ (∀ v, (w'.setCell ⟨q, 0, none⟩ v).cell? ⟨q, 1, none⟩ = some (.string F)) ∧
            Hid (∀ v, v = Value.slice (some ⟨G2, 0, none⟩) 8 c2 → G2 ≠ q ∧ q < (w'.setCell ⟨q, 0, none⟩ v).heap.size ∧ (w'.setCell ⟨q, 0, none⟩ v).heap[q]? = some (.cells [v, .string F, .int .i64 (n + text.size)].toArray 113 (0, 0)) ∧ (w'.setCell ⟨q, 0, none⟩ v).ownsRow w1.heap.size 2 1 v 8 (iCells (blks s F (m + 1))) ∧ (w'.setCell ⟨q, 0, none⟩ v).heap[w.heap.size + 1]? = some (.cells [Value.slice none 0 0, .string ⟨#[]⟩, .int .i64 0].toArray 113 (0, 0)) ∧ Below w.heap.size w (w'.setCell ⟨q, 0, none⟩ v) ∧ w1.heap.size ≤ (w'.setCell ⟨q, 0, none⟩ v).heap.size)) := by
          show Calls _ _ _ _ _
          refine (specBlock (blks s F m) (F.extract a (a + 64)) wr.drew G cG hsz (owns_range hown)).mono ?_
          rintro e w' ⟨v, rfl, hown', hb'⟩
          have hbs : blk (blks s F m) (wordAt (F.extract a (a + 64)) 0) = blks s F (m + 1) := by
            rw [blks]
            refine blk_congr (fun i hi => wordAt_congr (fun j hj => ?_)) _
            unfold byteAt
            rw [list_extract, List.getD, List.getD, List.getElem?_drop, List.getElem?_take, if_pos (by omega), ha]
            congr 2
            omega
          rw [hbs] at hown'
          obtain ⟨G2, c2, rfl, hG2, hgG2⟩ : ∃ G2 c2, v = .slice (some ⟨G2, 0, none⟩) 8 c2 ∧ wr.heap.size ≤ G2 ∧ ∃ cur, w'.heap[G2]? = some (.cells cur 2 (0, 0)) := by
            rcases hown'.2 with ⟨_, h⟩ | ⟨G2, c2, cur, h, hb, hg, _⟩
            · omega
            · exact ⟨G2, c2, h, hb, cur, hg⟩
          obtain ⟨cur, hgG2⟩ := hgG2
          have hs' : wr.heap.size ≤ w'.heap.size := hb'.size
          have hQ' : w'.heap[q]? = some (.cells [.slice (some ⟨G, 0, none⟩) 8 cG, .string F, .int .i64 (n + text.size)].toArray 113 (0, 0)) := by rw [hb'.block q hql]; exact hQ
          have hne : w.heap.size + 1 ≠ q := by have := HS1.out; omega
          have hR' : w'.heap[w.heap.size + 1]? = some (.cells [Value.slice none 0 0, .string ⟨#[]⟩, .int .i64 0].toArray 113 (0, 0)) := by
            rw [hb'.block _ (show w.heap.size + 1 < wr.heap.size by have := HS1.out; omega)]; exact hRr
          refine ⟨G2, c2, rfl, rowFacts hQ' 0 _ rfl, frozen_of_row w' q 0 _ _ hQ', rowFacts hQ' 1 _ rfl, fun v => rowFacts (rowSet v hQ') 1 _ rfl, ?_⟩
          intro v hv
          subst hv
          refine ⟨by omega, by simp; omega, rowSet _ hQ', ?_, by rw [heap_setCell_other _ _ _ _ hne]; exact hR', (hbr.drew.trans (hb'.mono hbr.size)).setCell (by show w.heap.size ≤ q; omega) _, by simp; omega⟩
          refine owns_other ?_ (heap_setCell_other _ _ _ _ (show G2 ≠ q by omega))
          refine ⟨hown'.1, ?_⟩
          rcases hown'.2 with h | ⟨g3, c3, cur3, h3, hb3, hr3⟩
          · exact .inl h
          · exact .inr ⟨g3, c3, cur3, h3, Nat.le_trans hs1r hb3, hr3⟩
        have ta : ((a : Int) + 64).toNat = a + 64 := by omega
        have ew : IntKind.i64.wrap ((a : Int) + 64) = (a : Int) + 64 := by rw [IntKind.wrap_i64]; omega
        have e0 : (0 : Int) ≤ (a : Int) := by omega
        have e1 : (0 : Int) ≤ (a : Int) + 64 := by omega
        have e2 : (a : Int) + 64 ≤ (F.size : Int) := by omega
        have e3 : (a : Int) ≤ (a : Int) + 64 := by omega
        have HA : Hid (a + 64 = 64 * (m + 1)) := by show _ = _; omega
        clear hQ hown hRr hbr ha
        go_wp2_with fail
        go_region_with (first | (go_at_call 136; refine HT.out.mono ?_; rintro e w' ⟨G2, c2, rfl, r0, z0, r1, r3, kk⟩))
        all_goals
          obtain ⟨k1, k2, k3, k4, k5, k6, k7⟩ := kk.out _ rfl
          have HK : Hid _ := (⟨k1, k2, k3, k4, k5, k6, k7⟩ : _ ∧ _ ∧ _ ∧ _ ∧ _ ∧ _ ∧ _)
          clear k1 k2 k3 k4 k5 k6 k7 kk q0 q1 q2 r0 z0 r1 r3 e0 e1 e2 e3 ta ew HT
          go_wp2
          first
            | exact ⟨⟨m + 1, a + 64, G2, c2, HA.out, hlt, by go_num, HK.out.1, HK.out.2.1, HK.out.2.2.1, HK.out.2.2.2.1, HK.out.2.2.2.2.1, HK.out.2.2.2.2.2.1, HK.out.2.2.2.2.2.2⟩, by simp [intOf]; omega⟩
            | (go_roundw
               case rel => exact ⟨m + 1, a + 64, G2, c2, HA.out, hlt, by go_num, HK.out.1, HK.out.2.1, HK.out.2.2.1, HK.out.2.2.2.1, HK.out.2.2.2.2.1, HK.out.2.2.2.2.2.1, HK.out.2.2.2.2.2.2⟩
               case measure => simp [intOf]; omega)
      · have hmm : m = F.size / 64 := by omega
        have hfz := frozen_of_row wr q 1 _ _ hQ
        have hQ1 : (wr.setCell ⟨q, 1, none⟩ (.string (F.extract a F.size))).heap[q]? = some (.cells [.slice (some ⟨G, 0, none⟩) 8 cG, .string (F.extract a F.size), .int .i64 (n + text.size)].toArray 113 (0, 0)) := rowSet _ hQ
        have hne : w.heap.size + 1 ≠ q := by have := HS1.out; omega
        have hR1 : (wr.setCell ⟨q, 1, none⟩ (.string (F.extract a F.size))).heap[w.heap.size + 1]? = some (.cells [Value.slice none 0 0, .string ⟨#[]⟩, .int .i64 0].toArray 113 (0, 0)) := by rw [heap_setCell_other _ _ _ _ hne]; exact hRr
        have o0 := rowFacts hR1 0 _ rfl
        have o1 := rowFacts hR1 1 _ rfl
        have o2 := rowFacts hR1 2 _ rfl
        have y0 := frozen_of_row _ _ 0 _ _ hR1
        have y1 := frozen_of_row _ _ 1 _ _ hR1
        have y2 := frozen_of_row _ _ 2 _ _ hR1
        have x0 := rowFacts hQ1 0 _ rfl
        have x1 := rowFacts hQ1 1 _ rfl
        have x2 := rowFacts hQ1 2 _ rfl
        have HO1 : Hid ((wr.setCell ⟨q, 1, none⟩ (.string (F.extract a F.size))).ownsRow w1.heap.size 2 1 (.slice (some ⟨G, 0, none⟩) 8 cG) 8 (iCells (blks s F m))) := owns_other hown (heap_setCell_other _ _ _ _ hGq)
        have HB1 : Hid (Below w.heap.size w (wr.setCell ⟨q, 1, none⟩ (.string (F.extract a F.size)))) := hbr.setCell (by show w.heap.size ≤ q; omega) _
        have e0 : (0 : Int) ≤ (a : Int) := by omega
        have e1 : (a : Int) ≤ (F.size : Int) := by omega
        have HE : Hid (F.extract a F.size = restOf F ∧ blks s F m = more s F) := by
          rw [ha, hmm]
          exact ⟨rfl, rfl⟩
        have HR1 : Hid _ := hR1
        clear hQ hQ1 hR1 hown hbr hRr hmm ha
        go_wp2
        obtain ⟨he1, he2⟩ := HE.out
        have hne2 : G ≠ w.heap.size + 1 := by
          have h1 := HS1.out
          rcases HO1.out.2 with ⟨h', _⟩ | ⟨g', c', cur, h', hb, _⟩
          · simp at h'
          · simp only [Value.slice.injEq, Option.some.injEq, Addr.mk.injEq, and_true, true_and] at h'
            obtain ⟨rfl, rfl⟩ := h'
            omega
        refine bodyPost_ret (v := .agg #[.slice (some ⟨G, 0, none⟩) 8 cG, .string (F.extract a F.size), .int .i64 (n + text.size)]) ?_ rfl ?_
        · have hrow := rowThree HR1.out (.slice (some ⟨G, 0, none⟩) 8 cG) (.string (F.extract a F.size)) (.int .i64 (n + text.size))
          have hl3 := run_loadVar_mid (P := Tryz.prog) _ (w.heap.size + 1) 0 113 _ _ (rangeRow hrow) Tryz.underlying113 rfl (by kernel_rfl)
          simp [results, Tryz.results113, asAddr, hl3]
        · rw [HF.out, ← he1, ← he2]
          refine ⟨_, rfl, ?_, ((HB1.out.setCell (by simp) _).setCell (by simp) _).setCell (by simp) _⟩
          have ho := owns_other (w' := (((wr.setCell ⟨q, 1, none⟩ (.string (F.extract a F.size))).setCell ⟨w.heap.size + 1, 0, none⟩ (.slice (some ⟨G, 0, none⟩) 8 cG)).setCell ⟨w.heap.size + 1, 1, none⟩ (.string (F.extract a F.size))).setCell ⟨w.heap.size + 1, 2, none⟩ (.int .i64 (n + text.size))) HO1.out (by rw [heap_setCell_other _ _ _ _ hne2, heap_setCell_other _ _ _ _ hne2, heap_setCell_other _ _ _ _ hne2])
          refine ⟨ho.1, ?_⟩
          rcases ho.2 with h | ⟨g3, c3, cur3, h3, hb3, hr3⟩
          · exact .inl h
          · exact .inr ⟨g3, c3, cur3, h3, Nat.le_trans hle hb3, hr3⟩
end Go.Proofs.YtegmmaomaegjjaaGreatDoor
namespace Go.Proofs.YtegmmaomaegjjaaGreatDoor
open Go.RowKit

theorem zeros_iff (n j : Nat) (hj : j ≤ zerosOf n) : (n + (1 + j)) % 64 = 56 ↔ j = zerosOf n := by unfold zerosOf at *; omega
theorem be_take (x t : Nat) (ht : t < 8) : (beF x 8).take (t + 1) = (beF x 8).take t ++ [((x / 256 ^ (7 - t) % 256 : Nat) : Int)] := by
  have hl : t < (beF x 8).length := by simp [beF]; omega
  rw [List.take_succ_eq_append_getElem hl]
  congr 2
  simp [beF]
theorem owns_form {w : World} {B n : Nat} {t : TypeId} {v : Value} {xs : List Value} (h : w.ownsRow B t 1 v n xs) (h0 : 0 < n) : ∃ g c, v = .slice (some ⟨g, 0, none⟩) n c := by
  rcases h.2 with ⟨_, h'⟩ | ⟨g, c, cur, h', _⟩
  · omega
  · exact ⟨g, c, h'⟩
def lenOf : Value → Nat
  | .slice _ l _ => l
  | _ => 0
theorem shrByte (n t p : Nat) (h : p + 8 * t = 56) : (8 * (n : Int)) / 2 ^ p % 256 = ((8 * n / 256 ^ (7 - t) % 256 : Nat) : Int) := by
  have e : 2 ^ p = 256 ^ (7 - t) := by rw [show (256 : Nat) = 2 ^ 8 by rfl, ← Nat.pow_mul]; congr 1; omega
  rw [← e]
  simp
theorem digL_take (s : St) (k : Nat) (h : k < 8) : (digL s).take (4 * k + 4) = (digL s).take (4 * k) ++ [uI (s.row.getD k 0) / 16777216, uI (s.row.getD k 0) / 65536 % 256, uI (s.row.getD k 0) / 256 % 256, uI (s.row.getD k 0) % 256] := by
  rcases (by omega : k = 0 ∨ k = 1 ∨ k = 2 ∨ k = 3 ∨ k = 4 ∨ k = 5 ∨ k = 6 ∨ k = 7) with rfl | rfl | rfl | rfl | rfl | rfl | rfl | rfl <;> rfl
/-- One element more of a row of bytes that the call owns. -/
theorem grow1 {B : Nat} {w0 wr w1 : World} {v v' : Value} {xs ys : List Int} {m : Nat} (o : Obj) (hB : B ≤ wr.heap.size) (hb : Below B w0 wr) (hown : wr.ownsRow B 5 1 v m (xs.map (Value.int .u8))) {k : Nat}
    (hown' : w1.ownsRow B 5 1 v' (m + k) (xs.map (Value.int .u8) ++ ys.map (Value.int .u8))) (hg : (wr.alloc o).grownBy w1 v.ownBlock) :
    w1.ownsRow B 5 1 v' (m + k) ((xs ++ ys).map (Value.int .u8)) ∧ Below B w0 w1 ∧ B ≤ w1.heap.size := by
  refine ⟨by simpa using hown', (hb.alloc hB o).grown hg (by simp; omega) (fun k hk => (hown.lt k hk).1), ?_⟩
  have := hg.size
  simp at this
  omega
set_option maxHeartbeats 1000000 in
set_option maxRecDepth 100000 in
theorem specEnd (s : St) (r : ByteArray) (n : Nat) (w : World) (gs cap : Nat) (hr : r.size ≤ 1000000) (hn : n ≤ 1900000000000) (hst : w.rangeAt gs 0 (iCells s)) :
    Calls Tryz.prog 112 #[.agg #[.slice (some ⟨gs, 0, none⟩) 8 cap, .string r, .int .i64 (n : Int)]] w
      fun e w' => e = .returned (.string (strOfNums (digL (endSt s r n)))) ∧ Below w.heap.size w w' := by
  obtain ⟨ib, hib, hz0, hz1, hz2⟩ := info_parts infoByte
  have hgsl : gs < w.heap.size := World.block_lt_of_cell? w _ (hst 0 _ rfl)
  go_enter Tryz.func112, Tryz.ntmps112
  go_wp2_with fail
  have HST : Hid (w.rangeAt gs 0 (iCells s)) := hst
  clear hst
  go_loopw [3] (fun b wr => ∃ j : Nat, j ≤ zerosOf n ∧ wr.ownsRow (w.heap.size + 1) 5 1 b (1 + j) (((128 : Int) :: List.replicate j 0).map (Value.int .u8)) ∧ Below (w.heap.size + 1) (w.alloc (.cells #[.slice (some ⟨gs, 0, none⟩) 8 cap, .string r, .int .i64 (n : Int)] 113 (0, 0))) wr ∧ w.heap.size + 1 ≤ wr.heap.size)
    (fun b _ => 1 + zerosOf n - lenOf b)
  case atStart =>
    refine ⟨0, Nat.zero_le _, ?_, (Below.refl _ (w.alloc _)).alloc (by simp) _, by simp⟩
    have h := World.ownsRow_lit (base := w.heap.size + 1) (e := 5) (size := 1) (w.alloc (.cells #[.slice (some ⟨gs, 0, none⟩) 8 cap, .string r, .int .i64 (n : Int)] 113 (0, 0))) #[.int .u8 128] 1 (by simp) (by decide) rfl
    simpa using h
  case round =>
    obtain ⟨j, hj, hown, hb, hsz⟩ := hrel
    obtain ⟨gb, cb, rfl⟩ := owns_form hown (by omega)
    have p2 := hb.cell (p := ⟨w.heap.size, 2, none⟩) (by simp)
    simp at p2
    have hz := zeros_iff n j hj
    have hzo : zerosOf n ≤ 63 := by unfold zerosOf; omega
    have tm : ((n : Int) + (1 + (j : Int))).tmod 64 = ((n : Int) + (1 + (j : Int))) % 64 := Int.tmod_eq_emod_of_nonneg (by omega)
    by_cases hlt : j < zerosOf n
    · have hne : ¬ (n + (1 + j)) % 64 = 56 := fun h => by have := hz.1 h; omega
      have hneI : ¬ ((n : Int) + (1 + (j : Int))) % 64 = 56 := by omega
      have HB : Hid (Below (w.heap.size + 1) (w.alloc (.cells #[.slice (some ⟨gs, 0, none⟩) 8 cap, .string r, .int .i64 (n : Int)] 113 (0, 0))) wr) := hb
      generalize hX : ((128 : Int) :: List.replicate j 0) = X at hown
      have HX : Hid ((128 : Int) :: List.replicate j 0 = X) := hX
      clear hz hne hb hX
      go_wp2_with (at_builtin; refine wpList_append_own _ rfl _ _ 22 rfl (w.heap.size + 1) 5 ib (.int .u8 0) 1 1 Tryz.underlying22 hib hz0 hz1 hz2 rfl (by decide) _ _ _ rfl (hown.alloc _) ⟨wr.heap.size, 0, none⟩ 1 1 [.int .u8 0] rfl rfl ?c1 ?c2 ?c3 ?c4 ?c5 ?_)
      case c1 => exact cells_one (by simp)
      case c2 => intro u hu; simp at hu; subst hu; rfl
      case c3 => unfold maxLen; omega
      case c4 => omega
      case c5 => simp; omega
      intro v' w1 hown' hgrow _
      have R := grow1 (ys := [0]) _ hsz HB.out hown hown' hgrow
      have R1 : w1.ownsRow (w.heap.size + 1) 5 1 v' (1 + (j + 1)) (((128 : Int) :: List.replicate (j + 1) 0).map (Value.int .u8)) := by
        have h := R.1
        rw [← HX.out, List.cons_append, ← List.replicate_succ'] at h
        exact h
      have HR : Hid _ := R1
      have R2 := R.2
      obtain ⟨g2, c2, rfl⟩ := owns_form R1 (by omega)
      clear hown' hgrow hown R R1
      go_wp2
      go_roundw
      case rel => exact ⟨j + 1, by omega, HR.out, R2.1, R2.2⟩
      case measure => simp [lenOf]; omega
    · have hjz : j = zerosOf n := by omega
      have heqI : ((n : Int) + (1 + (j : Int))) % 64 = 56 := by have := hz.2 hjz; omega
      subst hjz
      generalize hX : ((128 : Int) :: List.replicate (zerosOf n) 0) = X at hown
      have HX : Hid ((128 : Int) :: List.replicate (zerosOf n) 0 = X) := hX
      have HO : Hid (wr.ownsRow (w.heap.size + 1) 5 1 (.slice (some ⟨gb, 0, none⟩) (1 + zerosOf n) cb) (1 + zerosOf n) (X.map (Value.int .u8))) := hown
      have HB : Hid (Below (w.heap.size + 1) (w.alloc (.cells #[.slice (some ⟨gs, 0, none⟩) 8 cap, .string r, .int .i64 (n : Int)] 113 (0, 0))) wr) := hb
      clear hz hown hb hX
      go_wp2_with fail
      go_loopw [3, 5] (fun b k wr => ∃ (t : Nat) (kI : Int), t ≤ 8 ∧ kI = 56 - 8 * t ∧ k = .int .i64 kI ∧ wr.ownsRow (w.heap.size + 1) 5 1 b (1 + zerosOf n + t) ((X ++ (beF (8 * n) 8).take t).map (Value.int .u8)) ∧ Below (w.heap.size + 1) (w.alloc (.cells #[.slice (some ⟨gs, 0, none⟩) 8 cap, .string r, .int .i64 (n : Int)] 113 (0, 0))) wr ∧ w.heap.size + 1 ≤ wr.heap.size)
        (fun _ k _ => (64 - (56 - intOf k)).toNat)
      case atStart => exact ⟨0, 56, by omega, by omega, rfl, by rw [List.take_zero, List.append_nil]; exact HO.out, HB.out, hsz⟩
      case round =>
        clear HO HB hsz p2 tm heqI
        obtain ⟨t, kI, ht, hkI, rfl, hown, hb, hsz⟩ := hrel
        by_cases hlt : t < 8
        · obtain ⟨p, rfl⟩ : ∃ p : Nat, kI = p := ⟨(56 - 8 * t), by omega⟩
          have hpt : p + 8 * t = 56 := by omega
          have hy := shrByte n t p hpt
          have HT : Hid ((beF (8 * n) 8).take (t + 1) = (beF (8 * n) 8).take t ++ [((8 * n / 256 ^ (7 - t) % 256 : Nat) : Int)]) := be_take _ _ hlt
          generalize 8 * n / 256 ^ (7 - t) % 256 = y at hy HT
          have hy2 : IntKind.u8.wrap (8 * (n : Int) / 2 ^ p) = (y : Int) := by rw [IntKind.wrap_u8]; exact hy
          generalize hZ : X ++ (beF (8 * n) 8).take t = Z at hown
          have HZ : Hid (X ++ (beF (8 * n) 8).take t = Z) := hZ
          have HB : Hid (Below (w.heap.size + 1) (w.alloc (.cells #[.slice (some ⟨gs, 0, none⟩) 8 cap, .string r, .int .i64 (n : Int)] 113 (0, 0))) wr) := hb
          have hp56 : p ≤ 56 := by omega
          have HPT : Hid (p + 8 * t = 56) := hpt
          clear hb hZ hkI hpt
          go_wp2_with (at_builtin; refine wpList_append_own _ rfl _ _ 22 rfl (w.heap.size + 1) 5 ib (.int .u8 0) 1 1 Tryz.underlying22 hib hz0 hz1 hz2 rfl (by decide) _ _ _ rfl (hown.alloc _) ⟨wr.heap.size, 0, none⟩ 1 1 [.int .u8 (y : Int)] rfl rfl ?c1 ?c2 ?c3 ?c4 ?c5 ?_)
          case c1 => exact cells_one (by simp)
          case c2 => intro u hu; simp at hu; subst hu; rfl
          case c3 => unfold maxLen; omega
          case c4 => omega
          case c5 => simp; omega
          intro v' w1 hown' hgrow _
          have R := grow1 (ys := [(y : Int)]) _ hsz HB.out hown hown' hgrow
          have R1 : w1.ownsRow (w.heap.size + 1) 5 1 v' (1 + zerosOf n + (t + 1)) ((X ++ (beF (8 * n) 8).take (t + 1)).map (Value.int .u8)) := by
            have h := R.1
            rw [← HZ.out] at h
            rw [HT.out, ← List.append_assoc]
            exact h
          have HR : Hid _ := R1
          have R2 := R.2
          clear hown' hgrow hown R R1
          go_wp2
          go_roundw
          case rel => exact ⟨t + 1, (p : Int) - 8, by omega, by have := HPT.out; omega, by go_num, HR.out, R2.1, R2.2⟩
          case measure => simp [intOf]; omega
        · have hpad : (X ++ (beF (8 * n) 8).take t) = padL n := by
            rw [← HX.out, List.take_of_length_le (by simp [beF]; omega)]
            rfl
          rw [hpad] at hown
          have hcv := run_convert_own (P := Tryz.prog) (src := 22) (dst := 9) Tryz.underlying22 Tryz.underlying5 Tryz.underlying9 hown
          have q0 := hb.cell (p := ⟨w.heap.size, 0, none⟩) (by simp)
          have q1 := hb.cell (p := ⟨w.heap.size, 1, none⟩) (by simp)
          have q2 := hb.cell (p := ⟨w.heap.size, 2, none⟩) (by simp)
          simp at q0 q1 q2
          have hk0 : kI < 0 := by omega
          have HW : Hid (Below w.heap.size w wr) := ((Below.refl _ w).alloc (Nat.le_refl _) _).trans (hb.mono (by omega))
          have hps : (strOfNums (padL n)).size ≤ 900000 := by
            rw [strOfNums_size, padL_len]
            omega
          have HE : Hid (endSt s r n = more s (r ++ strOfNums (padL n))) := rfl
          generalize hP : strOfNums (padL n) = P at hcv hps
          have HP : Hid (strOfNums (padL n) = P) := hP
          clear hown hb hpad hP hkI ht hlt HX
          go_wp2_with fail
          refine (specMore s r P n wr gs cap hr hps (by omega) (by omega) (fun j v hv => by rw [HW.out.cell (p := ⟨gs, 0 + j, none⟩) hgsl]; exact HST.out j v hv)).mono ?_
          rintro e w2 ⟨v, rfl, hown2, hb2⟩
          obtain ⟨G, cG, rfl⟩ := owns_form hown2 (by omega)
          have HO2 : Hid (w2.ownsRow wr.heap.size 2 1 (.slice (some ⟨G, 0, none⟩) 8 cG) 8 (iCells (more s (r ++ P)))) := hown2
          have HB2 : Hid (Below w.heap.size w w2) := HW.out.trans (hb2.mono HW.out.size)
          clear hown2 hb2 q0 q1 q2 hcv
          go_wp2_with fail
          generalize hE : more s (r ++ P) = E at HO2
          have HEE : Hid (more s (r ++ P) = E) := hE
          clear hE
          go_loopw [7, 8] (fun o i wr => ∃ k : Nat, k ≤ 8 ∧ i = .int .i64 k ∧ wr.ownsRow (w2.heap.size + 1) 5 1 o (4 * k) (((digL E).take (4 * k)).map (Value.int .u8)) ∧ Below (w2.heap.size + 1) (w2.alloc (.cells #[.slice (some ⟨G, 0, none⟩) 8 cG, .string (restOf (r ++ P)), .int .i64 ((n : Int) + P.size)] 113 (0, 0))) wr ∧ w2.heap.size + 1 ≤ wr.heap.size)
            (fun _ i _ => 8 - (intOf i).toNat)
          case atStart =>
            refine ⟨0, Nat.zero_le _, rfl, ?_, (Below.refl _ (w2.alloc _)).alloc (by simp) _, by simp⟩
            have h := World.ownsRow_made (base := w2.heap.size + 1) (e := 5) (size := 1) (w2.alloc (.cells #[.slice (some ⟨G, 0, none⟩) 8 cG, .string (restOf (r ++ P)), .int .i64 ((n : Int) + P.size)] 113 (0, 0))) #[] 0 (by simp) (Nat.zero_le _) rfl
            simpa using h
          case round =>
            obtain ⟨k, hk, rfl, hown, hb, hsz⟩ := hrel
            by_cases hlt : k < 8
            · have x0 := hb.cell (p := ⟨w2.heap.size, 0, none⟩) (by simp)
              simp at x0
              have hGl : G < w2.heap.size := World.block_lt_of_cell? w2 _ (owns_range HO2.out 0 _ rfl)
              have hc : wr.cell? ⟨G, k, none⟩ = some (.int .i64 (uI (E.row.getD k 0))) := by
                rw [hb.cell (p := ⟨G, k, none⟩) (show G < w2.heap.size + 1 by omega), World.cell?_alloc_lt _ _ _ (show G < w2.heap.size by omega)]
                have := owns_range HO2.out k _ (iCells_at E k hlt)
                rwa [Nat.zero_add] at this
              have f2 := uI_le (E.row.getD k 0)
              have f3 := uI_nonneg (E.row.getD k 0)
              have HD : Hid ((digL E).take (4 * k + 4) = (digL E).take (4 * k) ++ [uI (E.row.getD k 0) / 16777216, uI (E.row.getD k 0) / 65536 % 256, uI (E.row.getD k 0) / 256 % 256, uI (E.row.getD k 0) % 256]) := digL_take E k hlt
              generalize uI (E.row.getD k 0) = z at hc f2 f3 HD
              generalize hZ : (digL E).take (4 * k) = Z at hown
              have HZ : Hid ((digL E).take (4 * k) = Z) := hZ
              have HB : Hid (Below (w2.heap.size + 1) (w2.alloc (.cells #[.slice (some ⟨G, 0, none⟩) 8 cG, .string (restOf (r ++ P)), .int .i64 ((n : Int) + P.size)] 113 (0, 0))) wr) := hb
              clear hb hZ
              go_wp2_with (at_builtin; refine wpList_append_own _ rfl _ _ 22 rfl (w2.heap.size + 1) 5 ib (.int .u8 0) 1 1 Tryz.underlying22 hib hz0 hz1 hz2 rfl (by decide) _ _ _ rfl (hown.alloc _) ⟨wr.heap.size, 0, none⟩ 4 4 [.int .u8 (z / 16777216), .int .u8 (z / 65536 % 256), .int .u8 (z / 256 % 256), .int .u8 (z % 256)] rfl rfl ?c1 ?c2 ?c3 ?c4 ?c5 ?_)
              case c1 => exact World.news_of_block (cs := #[.int .u8 (z / 16777216), .int .u8 (z / 65536 % 256), .int .u8 (z / 256 % 256), .int .u8 (z % 256)]) (t := 5) (fr := (0, 0)) (heap_alloc_new wr _)
              case c2 => simp [Value.oneCell']
              case c3 => unfold maxLen; omega
              case c4 => omega
              case c5 => simp; omega
              intro v' w1 hown' hgrow _
              have R := grow1 (ys := [z / 16777216, z / 65536 % 256, z / 256 % 256, z % 256]) _ hsz HB.out hown hown' hgrow
              have R1 : w1.ownsRow (w2.heap.size + 1) 5 1 v' (4 * (k + 1)) (((digL E).take (4 * (k + 1))).map (Value.int .u8)) := by
                have h := R.1
                rw [← HZ.out, ← HD.out] at h
                exact h
              have HR : Hid _ := R1
              have R2 := R.2
              clear hown' hgrow hown R R1
              go_wp2
              go_roundw
              case rel => exact ⟨k + 1, by omega, by go_num, HR.out, R2.1, R2.2⟩
              case measure => simp [intOf]; omega
            · have hd : (digL E).take (4 * k) = digL E := List.take_of_length_le (by rw [digL_len]; omega)
              rw [hd] at hown
              have hcv := run_convert_own (P := Tryz.prog) (src := 22) (dst := 9) Tryz.underlying22 Tryz.underlying5 Tryz.underlying9 hown
              have HB : Hid (Below w.heap.size w wr) := (HB2.out.alloc HB2.out.size _).trans (hb.mono (by have := HB2.out.size; omega))
              clear hown hb hd
              go_wp2
              go_ret
              exact ⟨by rw [HE.out, HP.out, HEE.out]; rfl, HB.out⟩
end Go.Proofs.YtegmmaomaegjjaaGreatDoor
namespace Go.Proofs.YtegmmaomaegjjaaGreatDoor
open Go.RowKit

theorem specBegin0 (w : World) :
    Calls Tryz.prog 114 #[] w fun e w' => ∃ g, e = .returned (.agg #[.slice (some ⟨g, 0, none⟩) 8 8, .string ByteArray.empty, .int .i64 0]) ∧ w.heap.size ≤ g ∧ w'.heap[g]? = some (.cells (iCells st0).toArray 2 (0, 0)) ∧ Below w.heap.size w w' := by
  go_enter Tryz.func114, Tryz.ntmps114
  go_wp2
  go_returns
  exact ⟨w.heap.size + 1, rfl, by omega, heap_alloc2 w _ _, ((Below.refl _ w).alloc (Nat.le_refl _) _).alloc (by simp) _⟩
end Go.Proofs.YtegmmaomaegjjaaGreatDoor
namespace Go.Proofs.YtegmmaomaegjjaaGreatDoor
open Go.RowKit

set_option maxHeartbeats 1000000 in
set_option maxRecDepth 100000 in
theorem specNum (t : ByteArray) (w : World) (ht : t.size ≤ 30000) :
    Calls Tryz.prog 84 #[.string t] w fun e w' => e = .returned (.int .i64 (dnum t : Nat)) ∧ Below w.heap.size w w' := by
  go_enter Tryz.func84, Tryz.ntmps84
  go_wp2_with fail
  refine (specBegin0 w).mono ?_
  rintro e w1 ⟨g, rfl, hg, hr, hb1⟩
  have HR : Hid _ := rangeRow hr
  have HB1 : Hid (Below w.heap.size w w1) := hb1
  clear hr hb1
  go_wp2_with fail
  refine (specMore st0 ByteArray.empty t 0 w1 g 8 (by simp) (by omega) (by omega) (by omega) HR.out).mono ?_
  rintro e w2 ⟨v, rfl, hown, hb2⟩
  rw [empty_append] at hown ⊢
  obtain ⟨G, cG, rfl⟩ := owns_form hown (by omega)
  have HO : Hid _ := owns_range hown
  have HB2 : Hid (Below w.heap.size w w2) := HB1.out.trans (hb2.mono HB1.out.size)
  have e0 : (0 : Int) + (t.size : Int) = ((t.size : Nat) : Int) := by omega
  rw [e0]
  clear hown hb2 e0
  go_wp2_with fail
  refine (specEnd (more st0 t) (restOf t) t.size w2 G cG (by rw [size_restOf]; omega) (by omega) HO.out).mono ?_
  rintro e w3 ⟨rfl, hb3⟩
  have HB3 : Hid (Below w.heap.size w w3) := HB2.out.trans (hb3.mono HB2.out.size)
  clear hb3 HB2 HO HB1 HR
  have hd := digOf_size t
  obtain ⟨D, hD⟩ : ∃ D, strOfNums (digL (endSt (more st0 t) (restOf t) t.size)) = D := ⟨_, rfl⟩
  have HD : Hid (digOf t = D) := hD
  rw [show digOf t = D from hD] at hd
  rw [hD]
  clear hD
  go_wp2_with fail
  go_loopw [4, 5] (fun n i wr => ∃ k : Nat, k ≤ 7 ∧ i = .int .i64 k ∧ n = .int .i64 (bnum D k : Nat) ∧ wr = w3) (fun _ i _ => 7 - (intOf i).toNat)
  case atStart => exact ⟨0, by omega, rfl, rfl, rfl⟩
  case round =>
    obtain ⟨k, hk7, rfl, rfl, rfl⟩ := hrel
    by_cases hlt : k < 7
    · have hb := bnum_le D (k := k) (by omega)
      have hc := (byteAt D k).toNat_lt
      have hg : byteAt D k = D[k] := byteAt_get D k (by omega)
      have HN : Hid (bnum D (k + 1) = 256 * bnum D k + (byteAt D k).toNat) := rfl
      have HG : Hid (byteAt D k = D[k]) := hg
      clear hg
      have hb' : (bnum D k : Int) ≤ 281474976710655 := by omega
      have hb0 : (0 : Int) ≤ (bnum D k : Int) := by omega
      obtain ⟨y, hy⟩ : ∃ y : Int, y = (bnum D k : Int) := ⟨_, rfl⟩
      have HY : Hid (y = (bnum D k : Int)) := hy
      have hc' := u8_lt D[k]
      rw [← hy] at hb' hb0 ⊢
      clear hb hy hc
      go_wp2
      go_roundw
      case rel => exact ⟨k + 1, by omega, by go_num, by rw [HN.out, HG.out, HY.out]; go_num, trivial⟩
      case measure => simp [intOf]; omega
    · go_wp2
      go_ret
      exact ⟨ret_int (by unfold dnum; rw [HD.out, show k = 7 from by omega]), HB3.out⟩
end Go.Proofs.YtegmmaomaegjjaaGreatDoor
namespace Go.Proofs.YtegmmaomaegjjaaGreatDoor
open Go.RowKit

set_option maxHeartbeats 1000000 in
set_option maxRecDepth 100000 in
theorem specChal (r key : Int) (t : ByteArray) (w : World) (ht : t.size ≤ 20000) (r0 : -9223372036854775808 ≤ r) (r1 : r ≤ 9223372036854775807) (k0 : -9223372036854775808 ≤ key) (k1 : key ≤ 9223372036854775807) :
    Calls Tryz.prog 86 #[.int .i64 r, .int .i64 key, .string t] w fun e w' => e = .returned (.int .i64 (chal r key t : Int)) ∧ Below w.heap.size w w' := by
  have s2 := putS_size r
  have s3 := putS_size key
  have P2 : Hid (∀ v : World, Calls Tryz.prog 85 #[.int .i64 r] v fun e w' => e = .returned (.string (putS r)) ∧ Below v.heap.size v w') := fun v => specPut r v r0 r1
  have P3 : Hid (∀ v : World, Calls Tryz.prog 85 #[.int .i64 key] v fun e w' => e = .returned (.string (putS key)) ∧ Below v.heap.size v w') := fun v => specPut key v k0 k1
  have EC : Hid ((dnum (putS r ++ putS key ++ t) % 1073741789 : Nat) = chal r key t) := rfl
  have ld := dnum_lt (putS r ++ putS key ++ t)
  have LD : Hid (∀ a b : ByteArray, a = putS r → b = putS key → dnum (a ++ b ++ t) < 72057594037927936 ∧ dnum (a ++ b ++ t) % 1073741789 = chal r key t) := fun a b ha hb => by subst ha hb; exact ⟨ld, EC.out⟩
  generalize hp : putS r = p at s2 P2
  generalize hq : putS key = q at s3 P3
  have LD' := LD.out p q hp.symm hq.symm
  have LE : Hid (dnum (p ++ q ++ t) < 72057594037927936 ∧ dnum (p ++ q ++ t) % 1073741789 = chal r key t) := LD'
  clear LD LD' ld EC hp hq r0 r1 k0 k1
  have n1 : (p ++ q).size = p.size + q.size := size_append p q
  have n2 : (p ++ q ++ t).size = p.size + q.size + t.size := by rw [size_append, size_append]
  go_enter Tryz.func86, Tryz.ntmps86
  go_wp2_with fail
  refine (P2.out _).mono ?_
  rintro e w1 ⟨rfl, hb1⟩
  have B1 : Hid (Below w.heap.size w w1) := hb1
  have z1 := hb1.size
  clear hb1
  go_wp2_with fail
  refine (P3.out _).mono ?_
  rintro e w2 ⟨rfl, hb2⟩
  have B2 : Hid (Below w.heap.size w w2) := B1.out.trans (hb2.mono z1)
  have z2 := B2.out.size
  clear hb2
  go_wp2_with fail
  refine (specNum (p ++ q ++ t) _ (by omega)).mono ?_
  rintro e w4 ⟨rfl, hb4⟩
  have B4 : Hid (Below w.heap.size w w4) := B2.out.trans (hb4.mono z2)
  clear hb4
  obtain ⟨l1, l2⟩ := LE.out
  generalize dnum (p ++ q ++ t) = d at l1 l2
  have t1 : (d : Int).tmod 1073741789 = ((d % 1073741789 : Nat) : Int) := tmodN d 1073741789
  rw [l2] at t1
  clear LE l1 l2
  go_wp2
  go_ret
  exact ⟨rfl, B4.out⟩
end Go.Proofs.YtegmmaomaegjjaaGreatDoor
namespace Go.Proofs.YtegmmaomaegjjaaGreatDoor
open Go.RowKit

set_option maxHeartbeats 1000000 in
set_option maxRecDepth 100000 in
theorem specPublic (x : Int) (w : World) :
    Calls Tryz.prog 12 #[.int .i64 x] w fun e w' => e = .returned (.int .i64 (pubA x)) ∧ w' = w := by
  by_cases h : secB x = true
  · obtain ⟨n, rfl, n1, n2⟩ := secB_nat h
    rw [pubA_nat n h]
    have HP : Hid (∀ v : World, Calls Tryz.prog 48 #[.int .i64 4, .int .i64 (n : Int), .int .i64 2147483579] v fun e w' => e = .returned (.int .i64 ((pm 4 n 2147483579 : Nat) : Int)) ∧ w' = v) := fun v => specPow 4 n 2147483579 v (by omega) (by omega) (by omega)
    generalize pm 4 n 2147483579 = z at *
    go_enter Tryz.func12, Tryz.ntmps12
    go_wp2_with fail
    refine (specSecret n w).mono ?_
    rintro e w' ⟨rfl, rfl⟩
    rw [h]
    go_wp2_with fail
    refine (HP.out _).mono ?_
    rintro e w2 ⟨rfl, rfl⟩
    go_wp2
    go_ret
    exact ⟨rfl, rfl⟩
  · rw [Bool.not_eq_true] at h
    have ea : Hid (pubA x = 0) := by
      show _ = _
      rw [pubA, if_neg (by rw [h]; simp)]
    go_enter Tryz.func12, Tryz.ntmps12
    go_wp2_with fail
    refine (specSecret x w).mono ?_
    rintro e w' ⟨rfl, rfl⟩
    rw [h]
    go_wp2
    go_ret
    exact ⟨ret_int ea.out.symm, rfl⟩
end Go.Proofs.YtegmmaomaegjjaaGreatDoor
namespace Go.Proofs.YtegmmaomaegjjaaGreatDoor
open Go.RowKit

theorem sigRow {w : World} {g : Nat} {t : TypeId} {x y z : Value} (hg : w.heap[g]? = some (.cells [x, y, z].toArray t (0, 0))) (a b c : Value) :
    (((w.setCell ⟨g, 0, none⟩ a).setCell ⟨g, 1, none⟩ b).setCell ⟨g, 2, none⟩ c).heap[g]? = some (.cells [a, b, c].toArray t (0, 0)) := rowSet c (rowSet b (rowSet a hg))
theorem sizeSig : (Tryz.prog.info? 25).map (·.size) = some 3 := by kernel_rfl
end Go.Proofs.YtegmmaomaegjjaaGreatDoor
