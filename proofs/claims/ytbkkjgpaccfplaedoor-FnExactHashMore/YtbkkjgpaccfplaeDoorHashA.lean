/- A row of whole numbers as the laws' helpers read it: laws.eqInt64S, toInt64S, szInt64S, eqHash, szHash, toHash, walked. -/
import Derived.Test.YtbkkjgpaccfplaeDoorHashZ
namespace Go.Proofs.YtbkkjgpaccfplaeDoor
open Go.RowKit

set_option maxHeartbeats 1000000 in
set_option maxRecDepth 100000 in
theorem eqInts (a b : Option Addr) (zs : List Int) (c d : Nat) (w : World) (hl : zs.length ≤ 2000000) (ha : IsInts w a zs) (hb : IsInts w b zs) :
    Calls Tryd.prog 27 #[.slice a zs.length c, .slice b zs.length d] w fun e w' => e = .returned (.bool true) ∧ Below w.heap.size w w' := by
  go_enter Tryd.func27, Tryd.ntmps27
  go_wp2
  go_loopw [5] (fun i wr => ∃ k : Nat, k ≤ zs.length ∧ i = .int .i64 k ∧ Below w.heap.size w wr) (fun i _ => zs.length - (intOf i).toNat)
  case atStart => exact ⟨0, Nat.zero_le _, rfl, Below.refl _ _⟩
  case round =>
    obtain ⟨k, hk, rfl, hbr⟩ := hrel
    by_cases hlt : k < zs.length
    · obtain ⟨x, o, rfl, hc⟩ : ∃ x o, a = some ⟨x, o, none⟩ ∧ ∀ i, i < zs.length → wr.cell? ⟨x, o + i, none⟩ = some (.int .i64 (zs.getD i 0)) := by
        rcases ha.below hbr ha.lt with rfl | h
        · simp at hlt
        · exact h
      obtain ⟨y, p, rfl, hd⟩ : ∃ x o, b = some ⟨x, o, none⟩ ∧ ∀ i, i < zs.length → wr.cell? ⟨x, o + i, none⟩ = some (.int .i64 (zs.getD i 0)) := by
        rcases hb.below hbr hb.lt with rfl | h
        · simp at hlt
        · exact h
      have hck := hc k hlt
      have hdk := hd k hlt
      have HB : Hid (Below w.heap.size w wr) := hbr
      generalize zs.getD k 0 = z at hck hdk
      generalize hn : zs.length = n at *
      clear hc hd ha hb hbr hn
      go_wp2
      go_quiet (fail)
      go_wp2
      go_roundw
      case rel => exact ⟨k + 1, by omega, by go_num, below_drewN HB.out _⟩
      case measure => simp [intOf]; omega
    · go_wp2
      go_ret
      exact ⟨rfl, hbr⟩
set_option maxHeartbeats 1000000 in
set_option maxRecDepth 100000 in
theorem eqHash (a b : Option Addr) (zs : List Int) (c d : Nat) (r : ByteArray) (z : Int) (w : World) (hl : zs.length ≤ 2000000) (ha : IsInts w a zs) (hb : IsInts w b zs) :
    Calls Tryd.prog 10 #[hashV a zs.length c r z, hashV b zs.length d r z] w fun e w' => e = .returned (.bool true) ∧ Below w.heap.size w w' := by
  unfold hashV
  go_enter Tryd.func10, Tryd.ntmps10
  go_wp2_with fail
  have hbb : ∀ x y, Below w.heap.size w ((w.alloc x).alloc y) := fun x y => ((Below.refl _ w).alloc (Nat.le_refl _) x).alloc (by simp) y
  refine (eqInts a b zs c d _ hl (ha.below (hbb _ _) ha.lt) (hb.below (hbb _ _) hb.lt)).mono ?_
  rintro e w' ⟨rfl, hb'⟩
  have HB : Hid (Below w.heap.size w w') := (hbb _ _).trans (hb'.mono (by simp; omega))
  have d1 := hb'.cell (p := ⟨w.heap.size, 1, none⟩) (by simp; omega)
  have d2 := hb'.cell (p := ⟨w.heap.size, 2, none⟩) (by simp; omega)
  have e1 := hb'.cell (p := ⟨w.heap.size + 1, 1, none⟩) (by simp)
  have e2 := hb'.cell (p := ⟨w.heap.size + 1, 2, none⟩) (by simp)
  simp at d1 d2 e1 e2
  clear ha hb hb' hbb
  go_wp2
  go_ret
  exact ⟨rfl, HB.out⟩
theorem szHash (a : Option Addr) (n c : Nat) (r : ByteArray) (z left : Int) (w : World) (hn : n ≤ maxLen) (hr : r.size ≤ maxLen) (h0 : left = 1048576) :
    Calls Tryd.prog 6 #[hashV a n c r z, .int .i64 left] w fun e w' => ∃ x : Int, e = .returned (.int .i64 x) ∧ (x < 0 ∨ (n : Int) + r.size ≤ 1048576) ∧ -1 ≤ x ∧ x ≤ 1048576 ∧ Below w.heap.size w w' := by
  unfold maxLen at hn hr
  unfold hashV
  subst h0
  go_enter Tryd.func6, Tryd.ntmps6
  go_wp2
  all_goals go_ret
  all_goals exact ⟨_, rfl, by omega, by omega, by omega, (Below.refl _ _).alloc (Nat.le_refl _) _⟩

set_option maxHeartbeats 1000000 in
set_option maxRecDepth 100000 in
theorem toInts (a : Option Addr) (zs : List Int) (c : Nat) (w : World) (hl : zs.length ≤ 1048576) (ha : IsInts w a zs) :
    Calls Tryd.prog 20 #[.slice a zs.length c] w fun e w' => e = .returned (.slice (some ⟨w.heap.size, 0, none⟩) zs.length zs.length) ∧ w'.heap[w.heap.size]? = some (.cells (lCells zs).toArray 2 (0, 0)) ∧ Below w.heap.size w w' := by
  obtain ⟨i0, hi, hz0, hz1, hz2⟩ := info_parts infoLong
  go_enter Tryd.func20, Tryd.ntmps20
  go_wp2_with (at_make; refine wpList_make_full _ rfl _ _ 22 rfl w.heap.size 2 i0 (.int .i64 0) 1 Tryd.underlying22 hi hz0 hz1 .i64 .i64 _ _ zs.length rfl rfl ?c1 ?c2 ?c3 ?c4 ?c5 ?_)
  case c1 => omega
  case c2 => omega
  case c3 => rw [hz2]; omega
  case c4 => unfold maxLen; omega
  case c5 => exact Nat.le_refl _
  intro w1 hown hgrow
  have hB1 : Below w.heap.size w w1 := (Below.refl _ w).grown hgrow (Nat.le_refl _) (fun k hk => by cases hk)
  obtain ⟨hrow, hlen⟩ := rowOf hown rfl
  generalize (madeCells #[Value.int IntKind.i64 0] zs.length).toList = L0 at hrow hlen
  have HR0 : Hid (w1.heap[w.heap.size]? = some (.cells L0.toArray 2 (0, 0))) := hrow
  have HL0 : Hid (L0.length = zs.length) := hlen
  have HB1 : Hid (Below w.heap.size w w1) := hB1
  clear hown hgrow hrow hlen hB1
  go_wp2_with fail
  go_loopw [4] (fun i wr => ∃ (k : Nat) (L : List Value), k ≤ zs.length ∧ i = .int .i64 k ∧ L.length = zs.length ∧ wr.heap[w.heap.size]? = some (.cells L.toArray 2 (0, 0)) ∧ (∀ j, j < k → L[j]? = some (.int .i64 (zs.getD j 0))) ∧ Below w.heap.size w wr)
    (fun i _ => zs.length - (intOf i).toNat)
  case atStart => exact ⟨0, L0, Nat.zero_le _, rfl, HL0.out, HR0.out, fun j hj => by omega, HB1.out⟩
  case round =>
    clear HL0 HR0 HB1
    obtain ⟨k, L, hk, rfl, hL, hg, hv, hb⟩ := hrel
    by_cases hlt : k < zs.length
    · obtain ⟨x, o, rfl, hc⟩ : ∃ x o, a = some ⟨x, o, none⟩ ∧ ∀ i, i < zs.length → wr.cell? ⟨x, o + i, none⟩ = some (.int .i64 (zs.getD i 0)) := by
        rcases ha.below hb ha.lt with rfl | h
        · simp at hlt
        · exact h
      have hck := hc k hlt
      have hd : wr.cell? ⟨w.heap.size, k, none⟩ = some L[k] := by
        rw [cell_of_row wr _ k _ _ (0, 0) hg]; simp
      have hz := frozen_of_row wr _ k _ _ hg
      have HG : Hid (∀ v, (wr.setCell ⟨w.heap.size, k, none⟩ v).heap[w.heap.size]? = some (.cells (L.set k v).toArray 2 (0, 0))) := fun v => by
        rw [heap_setCell_same wr _ k _ _ v hg]; simp
      have HV : Hid (∀ j, j < k + 1 → (L.set k (.int .i64 (zs.getD k 0)))[j]? = some (.int .i64 (zs.getD j 0))) := fun j hj => by
        by_cases e : j = k
        · subst e; rw [List.getElem?_set_self (by omega)]
        · rw [List.getElem?_set_ne (by omega), hv j (by omega)]
      have HL : Hid (∀ v, (L.set k v).length = zs.length) := fun v => by simpa using hL
      have HB : Hid (∀ v, Below w.heap.size w (wr.setCell ⟨w.heap.size, k, none⟩ v)) := fun v => hb.setCell (Nat.le_refl _) v
      generalize L[k] = v0 at hd
      generalize zs.getD k 0 = z at hck HV
      have a0 : (0 : Int) ≤ (k : Int) := by omega
      have b0 : (k : Int) < (zs.length : Int) := by omega
      generalize zs.length = n at *
      clear hc ha hv hg hb hL
      go_wp2
      go_roundw
      case rel => exact ⟨k + 1, _, by omega, by go_num, HL.out _, HG.out _, HV.out, HB.out _⟩
      case measure => simp [intOf]; omega
    · have hLe : L = lCells zs := by
        apply List.ext_getElem?
        intro j
        by_cases hj : j < zs.length
        · rw [hv j (by omega)]; simp [lCells, List.getD, hj]
        · rw [List.getElem?_eq_none (by omega), List.getElem?_eq_none (by simp [lCells]; omega)]
      subst hLe
      have HG : Hid (wr.heap[w.heap.size]? = some (.cells (lCells zs).toArray 2 (0, 0))) := hg
      have HB : Hid (Below w.heap.size w wr) := hb
      clear hg hv hb hL ha
      go_wp2
      go_ret
      exact ⟨rfl, HG.out, HB.out⟩
set_option maxHeartbeats 1000000 in
set_option maxRecDepth 100000 in
theorem toHash (a : Option Addr) (zs : List Int) (c : Nat) (r : ByteArray) (z : Int) (w : World) (hl : zs.length ≤ 1048576) (ha : IsInts w a zs) :
    Calls Tryd.prog 8 #[hashV a zs.length c r z] w fun e w' => ∃ g, e = .returned (hashV (some ⟨g, 0, none⟩) zs.length zs.length r z) ∧ w.heap.size ≤ g ∧ w'.heap[g]? = some (.cells (lCells zs).toArray 2 (0, 0)) ∧ Below w.heap.size w w' := by
  unfold hashV
  go_enter Tryd.func8, Tryd.ntmps8
  go_wp2_with fail
  have hbb : ∀ x y u, Below w.heap.size w (((w.alloc x).alloc y).alloc u) := fun x y u => (((Below.refl _ w).alloc (Nat.le_refl _) x).alloc (by simp) y).alloc (by simp; omega) u
  refine (toInts a zs c _ hl (ha.below (hbb _ _ _) ha.lt)).mono ?_
  rintro e w' ⟨rfl, hg', hb'⟩
  have c00 := hb'.cell (p := ⟨w.heap.size, 0, none⟩) (by simp <;> omega)
  have z00 := hb'.frozen (p := ⟨w.heap.size, 0, none⟩) (by simp <;> omega)
  have c01 := hb'.cell (p := ⟨w.heap.size, 1, none⟩) (by simp <;> omega)
  have z01 := hb'.frozen (p := ⟨w.heap.size, 1, none⟩) (by simp <;> omega)
  have c02 := hb'.cell (p := ⟨w.heap.size, 2, none⟩) (by simp <;> omega)
  have z02 := hb'.frozen (p := ⟨w.heap.size, 2, none⟩) (by simp <;> omega)
  have c10 := hb'.cell (p := ⟨w.heap.size + 1, 0, none⟩) (by simp <;> omega)
  have z10 := hb'.frozen (p := ⟨w.heap.size + 1, 0, none⟩) (by simp <;> omega)
  have c11 := hb'.cell (p := ⟨w.heap.size + 1, 1, none⟩) (by simp <;> omega)
  have z11 := hb'.frozen (p := ⟨w.heap.size + 1, 1, none⟩) (by simp <;> omega)
  have c12 := hb'.cell (p := ⟨w.heap.size + 1, 2, none⟩) (by simp <;> omega)
  have z12 := hb'.frozen (p := ⟨w.heap.size + 1, 2, none⟩) (by simp <;> omega)
  have c20 := hb'.cell (p := ⟨w.heap.size + 1 + 1, 0, none⟩) (by simp <;> omega)
  have z20 := hb'.frozen (p := ⟨w.heap.size + 1 + 1, 0, none⟩) (by simp <;> omega)
  have c21 := hb'.cell (p := ⟨w.heap.size + 1 + 1, 1, none⟩) (by simp <;> omega)
  have z21 := hb'.frozen (p := ⟨w.heap.size + 1 + 1, 1, none⟩) (by simp <;> omega)
  have c22 := hb'.cell (p := ⟨w.heap.size + 1 + 1, 2, none⟩) (by simp <;> omega)
  have z22 := hb'.frozen (p := ⟨w.heap.size + 1 + 1, 2, none⟩) (by simp <;> omega)
  have hr1 : w'.heap[w.heap.size + 1]? = some (.cells [Value.slice none 0 0, .string ⟨#[]⟩, .int .i64 0].toArray 26 (0, 0)) := by
    rw [hb'.block _ (by simp <;> omega), Below.heap_alloc _ _ _ (by simp)]
    exact heap_alloc2 w _ _
  simp at c00 c01 c02 c10 c11 c12 c20 c21 c22 z00 z01 z02 z10 z11 z12 z20 z21 z22 hg'
  have HB : Hid (Below w.heap.size w w') := (hbb _ _ _).trans (hb'.mono (by simp; omega))
  have HG : Hid (w'.heap[w.heap.size + 1 + 1 + 1]? = some (.cells (lCells zs).toArray 2 (0, 0))) := hg'
  have HR1 : Hid _ := hr1
  clear ha hb' hbb hg' hr1
  go_wp2
  refine bodyPost_ret (v := hashV (some ⟨w.heap.size + 1 + 1 + 1, 0, none⟩) zs.length zs.length r z) ?_ rfl ?_
  · have hrow := row3 (w := ((w'.setCell ⟨w.heap.size + 1 + 1, 0, none⟩ (.slice (some ⟨w.heap.size + 1 + 1 + 1, 0, none⟩) zs.length zs.length)).setCell ⟨w.heap.size + 1 + 1, 1, none⟩ (.string r)).setCell ⟨w.heap.size + 1 + 1, 2, none⟩ (.int .i64 z)) (g := w.heap.size + 1)
        (by rw [heap_setCell_other _ _ _ _ (by simp), heap_setCell_other _ _ _ _ (by simp), heap_setCell_other _ _ _ _ (by simp)]; exact HR1.out) (.slice (some ⟨w.heap.size + 1 + 1 + 1, 0, none⟩) zs.length zs.length) (.string r) (.int .i64 z)
    have hl3 := run_loadVar_mid (P := Tryd.prog) _ (w.heap.size + 1) 0 26 _ _ (rangeRow hrow) Tryd.underlying26 rfl sizeHash
    simp [results, Tryd.results8, asAddr, hl3, hashV]
  refine ⟨_, rfl, by omega, ?_, ?_⟩
  · repeat rw [heap_setCell_other _ _ _ _ (by simp <;> omega)]
    exact HG.out
  · exact (((((HB.out.setCell (by simp; omega) _).setCell (by simp; omega) _).setCell (by simp; omega) _).setCell (by simp) _).setCell (by simp) _).setCell (by simp) _
end Go.Proofs.YtbkkjgpaccfplaeDoor
