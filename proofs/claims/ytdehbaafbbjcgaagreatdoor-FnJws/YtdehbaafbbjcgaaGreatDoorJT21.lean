/- A text taken into a hash, walked: spec.l02More. -/
import Derived.Test.YtdehbaafbbjcgaaGreatDoorJT20
import Derived.Test.YtdehbaafbbjcgaaGreatDoorJT08
import Derived.Deep.Cut
namespace Go.Proofs.YtdehbaafbbjcgaaGreatDoor
open Go.RowKit

theorem made0 (w : World) : (w.alloc (.cells #[] 2 (0, 0))).ownsRow w.heap.size 2 1 (.slice (some ⟨w.heap.size, 0, none⟩) 0 0) 0 [] := World.ownsRow_made _ #[] 0 (Nat.le_refl _) (Nat.zero_le _) rfl
theorem madeS2 (w : World) (o : Obj) : ((w.alloc o).alloc (.cells #[] 2 (0, 0))).ownsRow w.heap.size 2 1 (.slice (some ⟨w.heap.size + 1, 0, none⟩) 0 0) 0 [] := by
  have h := World.ownsRow_made (base := w.heap.size) (e := 2) (size := 1) (w.alloc o) #[] 0 (by simp) (Nat.zero_le _) rfl
  rw [show (w.alloc o).heap.size = w.heap.size + 1 from by simp] at h
  exact h
theorem iCells_all (s : St) : ∀ v ∈ iCells s, v.oneCell' = true := fun v hv => by
  simp only [iCells, List.mem_map] at hv
  obtain ⟨x, _, rfl⟩ := hv
  rfl
theorem owns_other {w w' : World} {B g n c : Nat} {t : TypeId} {xs : List Value} (h : w.ownsRow B t 1 (.slice (some ⟨g, 0, none⟩) n c) n xs) (hh : w'.heap[g]? = w.heap[g]?) : w'.ownsRow B t 1 (.slice (some ⟨g, 0, none⟩) n c) n xs := by
  refine ⟨h.1, ?_⟩
  rcases h.2 with ⟨h', _⟩ | ⟨g', c', cur, h', hb, hg, hr⟩
  · simp at h'
  · simp only [Value.slice.injEq, Option.some.injEq, Addr.mk.injEq, and_true, true_and] at h'
    obtain ⟨rfl, rfl⟩ := h'
    exact .inr ⟨g, c, cur, rfl, hb, by rw [hh]; exact hg, hr⟩
theorem owns_range {w : World} {B g n c : Nat} {t : TypeId} {xs : List Value} (h : w.ownsRow B t 1 (.slice (some ⟨g, 0, none⟩) n c) n xs) : w.rangeAt g 0 xs := fun j v hv => by
  have hj : j < xs.length := by
    rcases Nat.lt_or_ge j xs.length with h' | h'
    · exact h'
    · rw [List.getElem?_eq_none h'] at hv; cases hv
  have hl := h.1
  rw [Nat.zero_add, h.cellAt j (by omega)]; exact hv
theorem rowThree {w : World} {g : Nat} {t : TypeId} {x y z : Value} (hg : w.heap[g]? = some (.cells [x, y, z].toArray t (0, 0))) (a b c : Value) :
    (((w.setCell ⟨g, 0, none⟩ a).setCell ⟨g, 1, none⟩ b).setCell ⟨g, 2, none⟩ c).heap[g]? = some (.cells [a, b, c].toArray t (0, 0)) := rowSet c (rowSet b (rowSet a hg))
set_option maxHeartbeats 1000000 in
set_option maxRecDepth 100000 in
theorem specMore (s : St) (r text : ByteArray) (n : Int) (w : World) (gs cap : Nat) (hr : r.size ≤ 1000000) (ht : text.size ≤ 900000) (h0 : 0 ≤ n) (hn : n ≤ 2000000000000) (hst : w.rangeAt gs 0 (iCells s)) :
    Calls Tryz.prog 83 #[.agg #[.slice (some ⟨gs, 0, none⟩) 8 cap, .string r, .int .i64 n], .string text] w
      fun e w' => ∃ v, e = .returned (.agg #[v, .string (restOf (r ++ text)), .int .i64 (n + text.size)]) ∧ w'.ownsRow w.heap.size 2 1 v 8 (iCells (more s (r ++ text))) ∧ Below w.heap.size w w' := by
  obtain ⟨il, hil, hl0, hl1, hl2⟩ := info_parts infoLong
  have hgsl : gs < w.heap.size := World.block_lt_of_cell? w _ (hst 0 _ rfl)
  go_enter Tryz.func83, Tryz.ntmps83
  go_wp2_with fail
  have hA : ∀ x y, Below w.heap.size w ((w.alloc x).alloc y) := fun x y => ((Below.refl _ w).alloc (Nat.le_refl _) x).alloc (by simp) y
  generalize hw1 : (w.alloc (.cells #[.slice (some ⟨gs, 0, none⟩) 8 cap, .string r, .int .i64 n] 91 (0, 0))).alloc (.cells #[.slice none 0 0, .string ⟨#[]⟩, .int .i64 0] 91 (0, 0)) = w1
  have hb1 : Below w.heap.size w w1 := by rw [← hw1]; exact hA _ _
  have hs1 : w1.heap.size = w.heap.size + 2 := by rw [← hw1]; simp
  have p0 : w1.cell? ⟨w.heap.size, 0, none⟩ = some (.slice (some ⟨gs, 0, none⟩) 8 cap) := by rw [← hw1]; simp
  have p1 : w1.cell? ⟨w.heap.size, 1, none⟩ = some (.string r) := by rw [← hw1]; simp
  have p2 : w1.cell? ⟨w.heap.size, 2, none⟩ = some (.int .i64 n) := by rw [← hw1]; simp
  have hR1 : w1.heap[w.heap.size + 1]? = some (.cells [Value.slice none 0 0, .string ⟨#[]⟩, .int .i64 0].toArray 91 (0, 0)) := by rw [← hw1]; exact heap_alloc2 w _ _
  have hfs : (r ++ text).size ≤ 1900000 := by rw [size_append]; omega
  generalize hF : r ++ text = F at hfs
  have HF : Hid (r ++ text = F) := hF
  have HS1 : Hid (w1.heap.size = w.heap.size + 2) := hs1
  have hle : w.heap.size ≤ w1.heap.size := by omega
  have HN : Hid (∀ W, Below w.heap.size w W → ∀ j u, (iCells s)[j]? = some u → W.cell? ((⟨gs, 0, none⟩ : Addr).add j) = some u) := fun W hW j u hu => by
    rw [Addr.add_lit, hW.cell (p := ⟨gs, 0 + j, none⟩) hgsl]; exact hst j u hu
  have HO := iCells_all s
  clear hA hw1 hs1 hst
  have hsum : ¬ 9223372036854775807 < r.size + text.size := by omega
  have hwn : IntKind.i64.wrap (n + (text.size : Int)) = n + (text.size : Int) := by rw [IntKind.wrap_i64]; omega
  go_cut [5] from 7 (fun s5 wx => ∃ q g c, s5 = .pointer (some ⟨q, 0, none⟩) ∧ w1.heap.size ≤ q ∧ g ≠ q ∧ wx.heap[q]? = some (.cells [.slice (some ⟨g, 0, none⟩) 8 c, .string F, .int .i64 (n + text.size)].toArray 91 (0, 0)) ∧ wx.ownsRow w1.heap.size 2 1 (.slice (some ⟨g, 0, none⟩) 8 c) 8 (iCells s) ∧ Below w1.heap.size w1 wx)
  case first =>
    have KS : Hid (∀ W, Below w1.heap.size w1 W → W.cell? ⟨w.heap.size, 0, none⟩ = some (.slice (some ⟨gs, 0, none⟩) 8 cap) ∧ W.cell? ⟨w.heap.size, 1, none⟩ = some (.string r) ∧ W.cell? ⟨w.heap.size, 2, none⟩ = some (.int .i64 n)) := fun W hW => by
      have hlt : w.heap.size < w1.heap.size := by have := HS1.out; omega
      exact ⟨(hW.cell (p := ⟨w.heap.size, 0, none⟩) hlt).trans p0, (hW.cell (p := ⟨w.heap.size, 1, none⟩) hlt).trans p1, (hW.cell (p := ⟨w.heap.size, 2, none⟩) hlt).trans p2⟩
    go_region_held3 (fun W => W.cell? ⟨w.heap.size, 0, none⟩ = some (.slice (some ⟨gs, 0, none⟩) 8 cap) ∧ W.cell? ⟨w.heap.size, 1, none⟩ = some (.string r) ∧ W.cell? ⟨w.heap.size, 2, none⟩ = some (.int .i64 n)) (exact KS.out _ (by go_grown))
      (first | (refine step_append_lies _ (by rfl) _ _ _ (by rfl) w1.heap.size 2 il _ 1 8 Tryz.underlying54 hil hl0 hl1 hl2 rfl (by omega) _ 0 [] (by rfl) (by first | exact (made0 w1).drew | exact ((made0 w1).alloc _).drew | exact (madeS2 w1 _).drew) ⟨gs, 0, none⟩ 8 cap (iCells s) (by rfl) (by rfl) (HN.out _ (by go_grown)) HO (by omega) (by unfold maxLen; omega) (by omega) (by go_size) _ rfl ?_; intro gg c2 w6 hown1 hgrow hat hlt1; have hb6 : Below w1.heap.size w1 w6 := Below.grown (by go_grown) hgrow (by go_size) (by intro k hk; cases hk; go_size); have hs6 : w1.heap.size ≤ w6.heap.size := hb6.size; first | (have hq6 := (hgrow.block (w1.heap.size + 1) (by go_size) (by show some (w1.heap.size + 1) ≠ some w1.heap.size; simp)).trans (heap_alloc2 w1 _ _); have o0 := rowFacts hq6 0 _ rfl; have o1 := rowFacts hq6 1 _ rfl; have o2 := rowFacts hq6 2 _ rfl; have y0 := frozen_of_row w6 _ 0 _ _ hq6; have y1 := frozen_of_row w6 _ 1 _ _ hq6; have y2 := frozen_of_row w6 _ 2 _ _ hq6) | (have hq6 := (hgrow.block w1.heap.size (by go_size) (by show some w1.heap.size ≠ some (w1.heap.size + 1); simp)).trans ((Below.heap_alloc (w1.alloc _) _ _ (by simp)).trans (heap_alloc_new w1 _)); have o0 := rowFacts hq6 0 _ rfl; have o1 := rowFacts hq6 1 _ rfl; have o2 := rowFacts hq6 2 _ rfl; have y0 := frozen_of_row w6 _ 0 _ _ hq6; have y1 := frozen_of_row w6 _ 1 _ _ hq6; have y2 := frozen_of_row w6 _ 2 _ _ hq6) | skip))
    · have HO6 : Hid (w6.ownsRow w1.heap.size 2 1 (.slice (some ⟨gg, 0, none⟩) 8 c2) 8 (iCells s)) := hown1
      have HB6 : Hid (Below w1.heap.size w1 w6) := hb6
      clear hown1 hgrow hat hb6 hil hl0 hl1 hl2
      go_wp2
      go_meet
      case rel => exact ⟨w6.heap.size, gg, c2, rfl, hs6, by omega, heap_alloc_new w6 _, HO6.out.alloc _, HB6.out.alloc hs6 _⟩
    · have HO6 : Hid (w6.ownsRow w1.heap.size 2 1 (.slice (some ⟨gg, 0, none⟩) 8 c2) 8 (iCells s)) := hown1
      have HB6 : Hid (Below w1.heap.size w1 w6) := hb6
      have hne : gg ≠ w1.heap.size + 1 := by
        rcases hat with h | h
        · have h' : some w1.heap.size = some gg := h
          simp at h'; omega
        · rw [h]; simp
      have HQ : Hid _ := hq6
      clear hown1 hgrow hat hb6 hil hl0 hl1 hl2 hq6
      go_wp2
      go_meet
      case rel => exact ⟨w1.heap.size + 1, gg, c2, rfl, by omega, hne, rowThree HQ.out _ _ _, owns_other HO6.out (by rw [heap_setCell_other _ _ _ _ hne, heap_setCell_other _ _ _ _ hne, heap_setCell_other _ _ _ _ hne]), ((HB6.out.setCell (by simp) _).setCell (by simp) _).setCell (by simp) _⟩
    · have HO6 : Hid (w6.ownsRow w1.heap.size 2 1 (.slice (some ⟨gg, 0, none⟩) 8 c2) 8 (iCells s)) := hown1
      have HB6 : Hid (Below w1.heap.size w1 w6) := hb6
      have hne : gg ≠ w1.heap.size := by
        rcases hat with h | h
        · have h' : some (w1.heap.size + 1) = some gg := h
          simp at h'; omega
        · rw [h]; simp; omega
      have HQ : Hid _ := hq6
      clear hown1 hgrow hat hb6 hil hl0 hl1 hl2 hq6
      go_wp2
      go_meet
      case rel => exact ⟨w1.heap.size, gg, c2, rfl, Nat.le_refl _, hne, rowThree HQ.out _ _ _, owns_other HO6.out (by rw [heap_setCell_other _ _ _ _ hne, heap_setCell_other _ _ _ _ hne, heap_setCell_other _ _ _ _ hne]), ((HB6.out.setCell (by simp) _).setCell (by simp) _).setCell (by simp) _⟩
  case rest =>
    obtain ⟨q, g, c, rfl, hq, hgq, hQ, hown, hbc⟩ := hcut
    have hRc : wc.heap[w.heap.size + 1]? = some (.cells [Value.slice none 0 0, .string ⟨#[]⟩, .int .i64 0].toArray 91 (0, 0)) := by
      rw [hbc.block _ (by have := HS1.out; omega)]; exact hR1
    have HBc : Hid (Below w.heap.size w wc) := hb1.trans (hbc.mono hle)
    have q0 := rowFacts hQ 0 _ rfl
    have q1 := rowFacts hQ 1 _ rfl
    have q2 := rowFacts hQ 2 _ rfl
    have HQ : Hid _ := hQ
    have HOc : Hid (wc.ownsRow w1.heap.size 2 1 (.slice (some ⟨g, 0, none⟩) 8 c) 8 (iCells s)) := hown
    have HRc : Hid _ := hRc
    clear hQ hown hRc hbc hb1 hR1 p0 p1 p2 HN HO
    go_wp2_with fail
    have hql := heap_lt HQ.out
    go_loopw [6] (fun v wr => ∃ (m a G cG : Nat), a = 64 * m ∧ a ≤ F.size ∧ v = .int .i64 (a : Int) ∧ G ≠ q ∧ q < wr.heap.size ∧ wr.heap[q]? = some (.cells [.slice (some ⟨G, 0, none⟩) 8 cG, .string F, .int .i64 (n + text.size)].toArray 91 (0, 0)) ∧ wr.ownsRow w1.heap.size 2 1 (.slice (some ⟨G, 0, none⟩) 8 cG) 8 (iCells (blks s F m)) ∧ wr.heap[w.heap.size + 1]? = some (.cells [Value.slice none 0 0, .string ⟨#[]⟩, .int .i64 0].toArray 91 (0, 0)) ∧ Below w.heap.size w wr ∧ w1.heap.size ≤ wr.heap.size)
      (fun v _ => F.size - (intOf v).toNat)
    case atStart => exact ⟨0, 0, g, c, rfl, Nat.zero_le _, rfl, hgq, hql, HQ.out, HOc.out, HRc.out, HBc.out, by omega⟩
    case round =>
      clear q0 q1 q2 HQ HOc HRc HBc hql hgq
      obtain ⟨m, a, G, cG, ha, haF, rfl, hGq, hql, hQ, hown, hRr, hbr, hs1r⟩ := hrel
      have q0 := rowFacts hQ 0 _ rfl
      have q1 := rowFacts hQ 1 _ rfl
      have q2 := rowFacts hQ 2 _ rfl
      by_cases hlt : a + 64 ≤ F.size
      · have hsz : (F.extract a (a + 64)).size = 64 := by rw [ByteArray.size_extract]; omega
        have HT : Hid (Calls Tryz.prog 98 #[.slice (some ⟨G, 0, none⟩) 8 cG, .string (F.extract a (a + 64))] wr.drew fun e w' => ∃ G2 c2, e = .returned (.slice (some ⟨G2, 0, none⟩) 8 c2) ∧ w'.cell? ⟨q, 0, none⟩ = some (.slice (some ⟨G, 0, none⟩) 8 cG) ∧ w'.frozen? ⟨q, 0, none⟩ = false ∧ w'.cell? ⟨q, 1, none⟩ = some (.string F) ∧ (∀ v, (w'.setCell ⟨q, 0, none⟩ v).cell? ⟨q, 1, none⟩ = some (.string F)) ∧
            Hid (∀ v, v = Value.slice (some ⟨G2, 0, none⟩) 8 c2 → G2 ≠ q ∧ q < (w'.setCell ⟨q, 0, none⟩ v).heap.size ∧ (w'.setCell ⟨q, 0, none⟩ v).heap[q]? = some (.cells [v, .string F, .int .i64 (n + text.size)].toArray 91 (0, 0)) ∧ (w'.setCell ⟨q, 0, none⟩ v).ownsRow w1.heap.size 2 1 v 8 (iCells (blks s F (m + 1))) ∧ (w'.setCell ⟨q, 0, none⟩ v).heap[w.heap.size + 1]? = some (.cells [Value.slice none 0 0, .string ⟨#[]⟩, .int .i64 0].toArray 91 (0, 0)) ∧ Below w.heap.size w (w'.setCell ⟨q, 0, none⟩ v) ∧ w1.heap.size ≤ (w'.setCell ⟨q, 0, none⟩ v).heap.size)) := by
          show Calls _ _ _ _ _
          refine (specBlock (blks s F m) (F.extract a (a + 64)) wr.drew G cG hsz (owns_range hown)).mono ?_
          rintro e w' ⟨v, rfl, hown', hb'⟩
          have hbs : blk (blks s F m) (wordAt (F.extract a (a + 64)) 0) = blks s F (m + 1) := by
            rw [blks]
            refine blk_congr (fun i hi => wordAt_congr (fun j hj => ?_)) _
            unfold byteAt
            rw [list_extract, List.getD, List.getD, List.getElem?_drop, List.getElem?_take, if_pos (by omega), ha]
            congr 2
            omega
          rw [hbs] at hown'
          obtain ⟨G2, c2, rfl, hG2, hgG2⟩ : ∃ G2 c2, v = .slice (some ⟨G2, 0, none⟩) 8 c2 ∧ wr.heap.size ≤ G2 ∧ ∃ cur, w'.heap[G2]? = some (.cells cur 2 (0, 0)) := by
            rcases hown'.2 with ⟨_, h⟩ | ⟨G2, c2, cur, h, hb, hg, _⟩
            · omega
            · exact ⟨G2, c2, h, hb, cur, hg⟩
          obtain ⟨cur, hgG2⟩ := hgG2
          have hs' : wr.heap.size ≤ w'.heap.size := hb'.size
          have hQ' : w'.heap[q]? = some (.cells [.slice (some ⟨G, 0, none⟩) 8 cG, .string F, .int .i64 (n + text.size)].toArray 91 (0, 0)) := by rw [hb'.block q hql]; exact hQ
          have hne : w.heap.size + 1 ≠ q := by have := HS1.out; omega
          have hR' : w'.heap[w.heap.size + 1]? = some (.cells [Value.slice none 0 0, .string ⟨#[]⟩, .int .i64 0].toArray 91 (0, 0)) := by
            rw [hb'.block _ (show w.heap.size + 1 < wr.heap.size by have := HS1.out; omega)]; exact hRr
          refine ⟨G2, c2, rfl, rowFacts hQ' 0 _ rfl, frozen_of_row w' q 0 _ _ hQ', rowFacts hQ' 1 _ rfl, fun v => rowFacts (rowSet v hQ') 1 _ rfl, ?_⟩
          intro v hv
          subst hv
          refine ⟨by omega, by simp; omega, rowSet _ hQ', ?_, by rw [heap_setCell_other _ _ _ _ hne]; exact hR', (hbr.drew.trans (hb'.mono hbr.size)).setCell (by show w.heap.size ≤ q; omega) _, by simp; omega⟩
          refine owns_other ?_ (heap_setCell_other _ _ _ _ (show G2 ≠ q by omega))
          refine ⟨hown'.1, ?_⟩
          rcases hown'.2 with h | ⟨g3, c3, cur3, h3, hb3, hr3⟩
          · exact .inl h
          · exact .inr ⟨g3, c3, cur3, h3, Nat.le_trans hs1r hb3, hr3⟩
        have ta : ((a : Int) + 64).toNat = a + 64 := by omega
        have ew : IntKind.i64.wrap ((a : Int) + 64) = (a : Int) + 64 := by rw [IntKind.wrap_i64]; omega
        have e0 : (0 : Int) ≤ (a : Int) := by omega
        have e1 : (0 : Int) ≤ (a : Int) + 64 := by omega
        have e2 : (a : Int) + 64 ≤ (F.size : Int) := by omega
        have e3 : (a : Int) ≤ (a : Int) + 64 := by omega
        have HA : Hid (a + 64 = 64 * (m + 1)) := by show _ = _; omega
        clear hQ hown hRr hbr ha
        go_wp2_with fail
        go_region_with (first | (go_at_call 98; refine HT.out.mono ?_; rintro e w' ⟨G2, c2, rfl, r0, z0, r1, r3, kk⟩))
        all_goals
          obtain ⟨k1, k2, k3, k4, k5, k6, k7⟩ := kk.out _ rfl
          have HK : Hid _ := (⟨k1, k2, k3, k4, k5, k6, k7⟩ : _ ∧ _ ∧ _ ∧ _ ∧ _ ∧ _ ∧ _)
          clear k1 k2 k3 k4 k5 k6 k7 kk q0 q1 q2 r0 z0 r1 r3 e0 e1 e2 e3 ta ew HT
          go_wp2
          first
            | exact ⟨⟨m + 1, a + 64, G2, c2, HA.out, hlt, by go_num, HK.out.1, HK.out.2.1, HK.out.2.2.1, HK.out.2.2.2.1, HK.out.2.2.2.2.1, HK.out.2.2.2.2.2.1, HK.out.2.2.2.2.2.2⟩, by simp [intOf]; omega⟩
            | (go_roundw
               case rel => exact ⟨m + 1, a + 64, G2, c2, HA.out, hlt, by go_num, HK.out.1, HK.out.2.1, HK.out.2.2.1, HK.out.2.2.2.1, HK.out.2.2.2.2.1, HK.out.2.2.2.2.2.1, HK.out.2.2.2.2.2.2⟩
               case measure => simp [intOf]; omega)
      · have hmm : m = F.size / 64 := by omega
        have hfz := frozen_of_row wr q 1 _ _ hQ
        have hQ1 : (wr.setCell ⟨q, 1, none⟩ (.string (F.extract a F.size))).heap[q]? = some (.cells [.slice (some ⟨G, 0, none⟩) 8 cG, .string (F.extract a F.size), .int .i64 (n + text.size)].toArray 91 (0, 0)) := rowSet _ hQ
        have hne : w.heap.size + 1 ≠ q := by have := HS1.out; omega
        have hR1 : (wr.setCell ⟨q, 1, none⟩ (.string (F.extract a F.size))).heap[w.heap.size + 1]? = some (.cells [Value.slice none 0 0, .string ⟨#[]⟩, .int .i64 0].toArray 91 (0, 0)) := by rw [heap_setCell_other _ _ _ _ hne]; exact hRr
        have o0 := rowFacts hR1 0 _ rfl
        have o1 := rowFacts hR1 1 _ rfl
        have o2 := rowFacts hR1 2 _ rfl
        have y0 := frozen_of_row _ _ 0 _ _ hR1
        have y1 := frozen_of_row _ _ 1 _ _ hR1
        have y2 := frozen_of_row _ _ 2 _ _ hR1
        have x0 := rowFacts hQ1 0 _ rfl
        have x1 := rowFacts hQ1 1 _ rfl
        have x2 := rowFacts hQ1 2 _ rfl
        have HO1 : Hid ((wr.setCell ⟨q, 1, none⟩ (.string (F.extract a F.size))).ownsRow w1.heap.size 2 1 (.slice (some ⟨G, 0, none⟩) 8 cG) 8 (iCells (blks s F m))) := owns_other hown (heap_setCell_other _ _ _ _ hGq)
        have HB1 : Hid (Below w.heap.size w (wr.setCell ⟨q, 1, none⟩ (.string (F.extract a F.size)))) := hbr.setCell (by show w.heap.size ≤ q; omega) _
        have e0 : (0 : Int) ≤ (a : Int) := by omega
        have e1 : (a : Int) ≤ (F.size : Int) := by omega
        have HE : Hid (F.extract a F.size = restOf F ∧ blks s F m = more s F) := by
          rw [ha, hmm]
          exact ⟨rfl, rfl⟩
        have HR1 : Hid _ := hR1
        clear hQ hQ1 hR1 hown hbr hRr hmm ha
        go_wp2
        obtain ⟨he1, he2⟩ := HE.out
        have hne2 : G ≠ w.heap.size + 1 := by
          have h1 := HS1.out
          rcases HO1.out.2 with ⟨h', _⟩ | ⟨g', c', cur, h', hb, _⟩
          · simp at h'
          · simp only [Value.slice.injEq, Option.some.injEq, Addr.mk.injEq, and_true, true_and] at h'
            obtain ⟨rfl, rfl⟩ := h'
            omega
        refine bodyPost_ret (v := .agg #[.slice (some ⟨G, 0, none⟩) 8 cG, .string (F.extract a F.size), .int .i64 (n + text.size)]) ?_ rfl ?_
        · have hrow := rowThree HR1.out (.slice (some ⟨G, 0, none⟩) 8 cG) (.string (F.extract a F.size)) (.int .i64 (n + text.size))
          have hl3 := run_loadVar_mid (P := Tryz.prog) _ (w.heap.size + 1) 0 91 _ _ (rangeRow hrow) Tryz.underlying91 rfl (by kernel_rfl)
          simp [results, Tryz.results83, asAddr, hl3]
        · rw [HF.out, ← he1, ← he2]
          refine ⟨_, rfl, ?_, ((HB1.out.setCell (by simp) _).setCell (by simp) _).setCell (by simp) _⟩
          have ho := owns_other (w' := (((wr.setCell ⟨q, 1, none⟩ (.string (F.extract a F.size))).setCell ⟨w.heap.size + 1, 0, none⟩ (.slice (some ⟨G, 0, none⟩) 8 cG)).setCell ⟨w.heap.size + 1, 1, none⟩ (.string (F.extract a F.size))).setCell ⟨w.heap.size + 1, 2, none⟩ (.int .i64 (n + text.size))) HO1.out (by rw [heap_setCell_other _ _ _ _ hne2, heap_setCell_other _ _ _ _ hne2, heap_setCell_other _ _ _ _ hne2])
          refine ⟨ho.1, ?_⟩
          rcases ho.2 with h | ⟨g3, c3, cur3, h3, hb3, hr3⟩
          · exact .inl h
          · exact .inr ⟨g3, c3, cur3, h3, Nat.le_trans hle hb3, hr3⟩
end Go.Proofs.YtdehbaafbbjcgaaGreatDoor
