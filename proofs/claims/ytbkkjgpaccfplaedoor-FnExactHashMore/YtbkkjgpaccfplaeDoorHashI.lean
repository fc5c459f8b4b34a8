/- spec.HashMore of a hash that is handed back as it is; both at a text that is too long, walked. -/
import Derived.Test.YtbkkjgpaccfplaeDoorHashH
import Derived.Test.YtbkkjgpaccfplaeDoorHashFS
import Derived.Test.YtbkkjgpaccfplaeDoorHashO
namespace Go.Proofs.YtbkkjgpaccfplaeDoor
open Go.RowKit

set_option maxHeartbeats 1000000 in
set_option maxRecDepth 100000 in
theorem implHashLong (g : Nat) (zs : List Int) (c : Nat) (r text : ByteArray) (z : Int) (w : World) (ht : 20000 < text.size) (hm : text.size ≤ maxLen) :
    Calls Tryd.prog 9 #[hashV (some ⟨g, 0, none⟩) zs.length c r z, .string text] w fun e w' => e = .returned (hashV none 0 0 ByteArray.empty 0) ∧ Below w.heap.size w w' := by
  have hA : ∀ x y, Below w.heap.size w ((w.alloc x).alloc y) := fun x y => ((Below.refl _ w).alloc (Nat.le_refl _) x).alloc (by simp) y
  have hd : decide (20000 < text.size) = true := by simp; omega
  go_enter Tryd.func9, Tryd.ntmps9
  go_wp2_with fail
  refine (tooLong text _ hm).mono ?_
  rintro e w' ⟨rfl, rfl⟩
  go_wp2
  refine bodyPost_ret (v := hashV none 0 0 ByteArray.empty 0) ?_ rfl ⟨rfl, hA _ _⟩
  have hl3 := run_loadVar_mid (P := Tryd.prog) _ (w.heap.size + 1) 0 26 _ _ (rangeRow (heap_alloc2 w (.cells #[.slice (some ⟨g, 0, none⟩) zs.length c, .string r, .int .i64 z] 26 (0, 0)) (.cells [Value.slice none 0 0, .string ⟨#[]⟩, .int .i64 0].toArray 26 (0, 0)))) Tryd.underlying26 rfl sizeHash
  simp [results, Tryd.results9, asAddr, hl3]
  rfl
set_option maxHeartbeats 1000000 in
set_option maxRecDepth 100000 in
theorem specHashLong (g : Nat) (zs : List Int) (c : Nat) (r text : ByteArray) (z : Int) (w : World) (ht : 20000 < text.size) (hm : text.size ≤ maxLen) :
    Calls Tryd.prog 7 #[hashV (some ⟨g, 0, none⟩) zs.length c r z, .string text] w fun e w' => e = .returned (hashV none 0 0 ByteArray.empty 0) ∧ Below w.heap.size w w' := by
  have hA : ∀ x y, Below w.heap.size w ((w.alloc x).alloc y) := fun x y => ((Below.refl _ w).alloc (Nat.le_refl _) x).alloc (by simp) y
  unfold maxLen at hm
  go_enter Tryd.func7, Tryd.ntmps7
  go_wp2
  refine bodyPost_ret (v := hashV none 0 0 ByteArray.empty 0) ?_ rfl ⟨rfl, hA _ _⟩
  have hl3 := run_loadVar_mid (P := Tryd.prog) _ (w.heap.size + 1) 0 26 _ _ (rangeRow (heap_alloc2 w (.cells #[.slice (some ⟨g, 0, none⟩) zs.length c, .string r, .int .i64 z] 26 (0, 0)) (.cells [Value.slice none 0 0, .string ⟨#[]⟩, .int .i64 0].toArray 26 (0, 0)))) Tryd.underlying26 rfl sizeHash
  simp [results, Tryd.results7, asAddr, hl3]
  rfl
set_option maxHeartbeats 1000000 in
set_option maxRecDepth 100000 in
theorem specHashKeep (g : Nat) (zs : List Int) (c : Nat) (r text : ByteArray) (z : Int) (w : World) (ht : text.size ≤ 20000) (hl : zs.length ≤ 1048576) (hr : r.size ≤ 1048576) (z0 : -9223372036854775808 ≤ z) (z1 : z ≤ 9223372036854775807) (hno : rightB zs r.size z = false ∨ (rightB zs r.size z = true ∧ 0 ≤ z ∧ z ≤ 1099511627776 ∧ 1099511627776 < z + text.size)) (ha : IsInts w (some ⟨g, 0, none⟩) zs) :
    Calls Tryd.prog 7 #[hashV (some ⟨g, 0, none⟩) zs.length c r z, .string text] w fun e w' => ∃ q cq, e = .returned (hashV q zs.length cq r z) ∧ OwnI w' w.heap.size q zs ∧ Below w.heap.size w w' := by
  have hA : ∀ x y, Below w.heap.size w ((w.alloc x).alloc y) := fun x y => ((Below.refl _ w).alloc (Nat.le_refl _) x).alloc (by simp) y
  go_enter Tryd.func7, Tryd.ntmps7
  go_wp2_with fail
  generalize hw1 : (w.alloc (.cells #[.slice (some ⟨g, 0, none⟩) zs.length c, .string r, .int .i64 z] 26 (0, 0))).alloc (.cells #[.slice none 0 0, .string ⟨#[]⟩, .int .i64 0] 26 (0, 0)) = w1
  have hb1 : Below w.heap.size w w1 := by rw [← hw1]; exact hA _ _
  have hs1 : w1.heap.size = w.heap.size + 2 := by rw [← hw1]; simp
  have p0 : w1.cell? ⟨w.heap.size, 0, none⟩ = some (.slice (some ⟨g, 0, none⟩) zs.length c) := by rw [← hw1]; simp
  have p1 : w1.cell? ⟨w.heap.size, 1, none⟩ = some (.string r) := by rw [← hw1]; simp
  have p2 : w1.cell? ⟨w.heap.size, 2, none⟩ = some (.int .i64 z) := by rw [← hw1]; simp
  have hR1 : w1.heap[w.heap.size + 1]? = some (.cells [Value.slice none 0 0, .string ⟨#[]⟩, .int .i64 0].toArray 26 (0, 0)) := by rw [← hw1]; exact heap_alloc2 w _ _
  have hP1 : w1.heap[w.heap.size]? = some (.cells [Value.slice (some ⟨g, 0, none⟩) zs.length c, .string r, .int .i64 z].toArray 26 (0, 0)) := by
    rw [← hw1, Below.heap_alloc _ _ _ (by simp)]; exact heap_alloc_new w _
  have ha1 := ha.below hb1 ha.lt
  refine (specRight (some ⟨g, 0, none⟩) zs c r z w1 hl hr z0 z1 ha1).mono ?_
  rintro e w2 ⟨rfl, hb2⟩
  have ha2 := ha1.below hb2 ha1.lt
  rw [← hb2.cell (p := ⟨w.heap.size, 0, none⟩) (show w.heap.size < w1.heap.size by omega)] at p0
  rw [← hb2.cell (p := ⟨w.heap.size, 1, none⟩) (show w.heap.size < w1.heap.size by omega)] at p1
  rw [← hb2.cell (p := ⟨w.heap.size, 2, none⟩) (show w.heap.size < w1.heap.size by omega)] at p2
  have hR2 : w2.heap[w.heap.size + 1]? = some (.cells [Value.slice none 0 0, .string ⟨#[]⟩, .int .i64 0].toArray 26 (0, 0)) := by rw [hb2.block _ (by omega)]; exact hR1
  have hP2 : w2.heap[w.heap.size]? = some (.cells [Value.slice (some ⟨g, 0, none⟩) zs.length c, .string r, .int .i64 z].toArray 26 (0, 0)) := by rw [hb2.block _ (by omega)]; exact hP1
  have HB2 : Hid (Below w.heap.size w w2) := hb1.trans (hb2.mono (by omega))
  have HI : Hid (IsInts w2 (some ⟨g, 0, none⟩) zs) := ha2
  have HR2 : Hid _ := hR2
  have HP2 : Hid _ := hP2
  have HS2 : Hid (w.heap.size + 2 ≤ w2.heap.size) := by have := hb2.size; show _ ≤ _; omega
  clear hb1 hb2 ha ha1 ha2 hw1 hA hs1 hR1 hR2 hP1 hP2
  have hlt2 : w.heap.size < w2.heap.size := by have := HS2.out; omega
  have a0 := fun o => (World.cell?_alloc_lt w2 o ⟨w.heap.size, 0, none⟩ hlt2).trans p0
  have HKP : Hid (∀ W : World, Below w2.heap.size w2 W →
      W.heap[w.heap.size]? = some (.cells [Value.slice (some ⟨g, 0, none⟩) zs.length c, .string r, .int .i64 z].toArray 26 (0, 0)) ∧ W.heap[w.heap.size + 1]? = some (.cells [Value.slice none 0 0, .string ⟨#[]⟩, .int .i64 0].toArray 26 (0, 0))) := fun W hb => by
    refine ⟨?_, ?_⟩
    · rw [hb.block _ hlt2]; exact HP2.out
    · rw [hb.block _ (by have := HS2.out; omega)]; exact HR2.out
  obtain ⟨il, hil, hl0, hl1, hl2⟩ := info_parts infoLong
  have hA : Below w2.heap.size w2 (w2.alloc (.cells #[] 2 (0, 0))) := (Below.refl _ w2).alloc (Nat.le_refl _) _
  have HN : Hid (∀ j u, (lCells zs)[j]? = some u → (w2.alloc (.cells #[] 2 (0, 0))).cell? ((⟨g, 0, none⟩ : Addr).add j) = some u) := fun j u hu => by
    rcases HI.out.below hA HI.out.lt with h | ⟨b, o, hb, hc⟩
    · rw [h] at hu; simp [lCells] at hu
    · simp only [Option.some.injEq, Addr.mk.injEq, and_true] at hb
      obtain ⟨rfl, rfl⟩ := hb
      have hj : j < zs.length := by
        rcases Nat.lt_or_ge j zs.length with h' | h'
        · exact h'
        · rw [List.getElem?_eq_none (by simp [lCells]; omega)] at hu; cases hu
      rw [Addr.add_lit, hc j hj, ← hu]
      simp [lCells, List.getD, hj]
  have HO : Hid (∀ v ∈ lCells zs, v.oneCell' = true) := fun v hv => by
    simp only [lCells, List.mem_map] at hv
    obtain ⟨x, _, rfl⟩ := hv
    rfl
  have HLn : Hid ((lCells zs).length = zs.length * 1) := by show _ = _; simp [lCells]
  generalize hZ : lCells zs = Z at HN HO HLn
  have HZ : Hid (lCells zs = Z) := hZ
  have HA : Hid _ := hA
  clear hZ hA
  rcases hno with hno | ⟨hno, n0, n1, n2⟩
  all_goals
    rw [hno]
    clear hno
    go_wp2_with (at_builtin; refine wpList_append_own _ rfl _ _ 22 rfl w2.heap.size 2 il (.int .i64 0) 1 8 Tryd.underlying22 hil hl0 hl1 hl2 rfl (by decide) _ 0 [] rfl (made0 w2) ⟨g, 0, none⟩ zs.length c Z rfl HLn.out HN.out HO.out ?c3 ?c4 ?c5 ?_)
    case c3 => unfold maxLen; omega
    case c4 => omega
    case c5 => simp
    intro v' w3 hown' hgrow _
    have hown2 : w3.ownsRow w2.heap.size 2 1 v' zs.length Z := by simpa using hown'
    have hb3 : Below w2.heap.size w2 w3 := HA.out.grown hgrow (by simp) (fun k hk => by cases hk; simp)
    obtain ⟨q, cq, rfl, hgq⟩ : ∃ q cq, v' = .slice q zs.length cq ∧ OwnI w3 w2.heap.size q zs := by
      rcases hown2.2 with ⟨hx, hy⟩ | ⟨g', c', cur, h', hbq, hg, _, _, _, ht⟩
      · exact ⟨none, 0, by rw [hx, hy], .inl ⟨rfl, List.eq_nil_of_length_eq_zero hy⟩⟩
      · refine ⟨some ⟨g', 0, none⟩, c', h', .inr ⟨g', cur.toList.drop zs.length, rfl, hbq, ?_⟩⟩
        rw [hg, HZ.out, ← ht, Nat.mul_one, List.take_append_drop]
    obtain ⟨hP3, hR3⟩ := HKP.out w3 hb3
    have u0 := rowFacts hP3 0 _ rfl
    have u1 := rowFacts hP3 1 _ rfl
    have u2 := rowFacts hP3 2 _ rfl
    have f0 := frozen_of_row w3 _ 0 _ _ hP3
    have m0 := rowFacts hR3 0 _ rfl
    have m1 := rowFacts hR3 1 _ rfl
    have m2 := rowFacts hR3 2 _ rfl
    have y0 := frozen_of_row w3 _ 0 _ _ hR3
    have y1 := frozen_of_row w3 _ 1 _ _ hR3
    have y2 := frozen_of_row w3 _ 2 _ _ hR3
    have HB3 : Hid (Below w.heap.size w w3) := HB2.out.trans (hb3.mono HB2.out.size)
    have HG : Hid (OwnI w3 (w.heap.size + 2) q zs) := hgq.mono HS2.out
    have HR3 : Hid _ := hR3
    clear hown' hgrow hown2 hb3 hgq hP3 hR3 p0 p1 p2 a0 hlt2 HA HN HO HLn HKP
    go_wp2
    refine bodyPost_ret (v := hashV q zs.length cq r z) ?_ rfl ?_
    · have hrow := row3 (g := w.heap.size + 1) (w := w3.setCell ⟨w.heap.size, 0, none⟩ (.slice q zs.length cq)) (by rw [heap_setCell_other _ _ _ _ (by simp)]; exact HR3.out) (.slice q zs.length cq) (.string r) (.int .i64 z)
      have hl3 := run_loadVar_mid (P := Tryd.prog) _ (w.heap.size + 1) 0 26 _ _ (rangeRow hrow) Tryd.underlying26 rfl sizeHash
      simp [results, Tryd.results7, asAddr, hl3]
    · exact ⟨q, cq, rfl, ((((HG.out.set (by omega) _).set (by omega) _).set (by omega) _).set (by omega) _).mono (by omega), (((HB3.out.setCell (by simp) _).setCell (by simp) _).setCell (by simp) _).setCell (by simp) _⟩
end Go.Proofs.YtbkkjgpaccfplaeDoor
