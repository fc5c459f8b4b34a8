/- laws.toStringS, walked. -/
import Derived.Test.YtkopinnhicoggaaStrs
namespace Go.Proofs.Ytkopinnhicoggaa
open Go.RowKit

set_option maxHeartbeats 1000000 in
set_option maxRecDepth 100000 in
theorem toStrs (a : Option Addr) (zs : List ByteArray) (c : Nat) (w : World) (hl : zs.length ≤ 1048576) (ha : IsStrs w a zs) :
    Calls Try.prog 18 #[.slice a zs.length c] w fun e w' => e = .returned (.slice (some ⟨w.heap.size, 0, none⟩) zs.length zs.length) ∧ w'.heap[w.heap.size]? = some (.cells (sCells zs).toArray 9 (0, 0)) ∧ Below w.heap.size w w' := by
  obtain ⟨i0, hi, hz0, hz1, hz2⟩ := info_parts infoText
  go_enter Try.func18, Try.ntmps18
  go_wp2_with (at_make; refine wpList_make_full _ rfl _ _ 22 rfl w.heap.size 9 i0 (.string ⟨#[]⟩) 1 Try.underlying22 hi hz0 hz1 .i64 .i64 _ _ zs.length rfl rfl ?c1 ?c2 ?c3 ?c4 ?c5 ?_)
  case c1 => omega
  case c2 => omega
  case c3 => rw [hz2]; omega
  case c4 => unfold maxLen; omega
  case c5 => exact Nat.le_refl _
  intro w1 hown hgrow
  have hB1 : Below w.heap.size w w1 := (Below.refl _ w).grown hgrow (Nat.le_refl _) (fun k hk => by cases hk)
  obtain ⟨hrow, hlen⟩ := rowOf hown rfl
  generalize (madeCells #[Value.string ⟨#[]⟩] zs.length).toList = L0 at hrow hlen
  have HR0 : Hid (w1.heap[w.heap.size]? = some (.cells L0.toArray 9 (0, 0))) := hrow
  have HL0 : Hid (L0.length = zs.length) := hlen
  have HB1 : Hid (Below w.heap.size w w1) := hB1
  clear hown hgrow hrow hlen hB1
  go_wp2_with fail
  go_loopw [4] (fun i wr => ∃ (k : Nat) (L : List Value), k ≤ zs.length ∧ i = .int .i64 k ∧ L.length = zs.length ∧ wr.heap[w.heap.size]? = some (.cells L.toArray 9 (0, 0)) ∧ (∀ j, j < k → L[j]? = some (.string (tAt zs j))) ∧ Below w.heap.size w wr)
    (fun i _ => zs.length - (intOf i).toNat)
  case atStart => exact ⟨0, L0, Nat.zero_le _, rfl, HL0.out, HR0.out, fun j hj => by omega, HB1.out⟩
  case round =>
    clear HL0 HR0 HB1
    obtain ⟨k, L, hk, rfl, hL, hg, hv, hb⟩ := hrel
    by_cases hlt : k < zs.length
    · obtain ⟨x, o, rfl, hc⟩ : ∃ x o, a = some ⟨x, o, none⟩ ∧ ∀ i, i < zs.length → wr.cell? ⟨x, o + i, none⟩ = some (.string (tAt zs i)) := by
        rcases ha.below hb ha.lt with rfl | h
        · simp at hlt
        · exact h
      have hck := hc k hlt
      have hd : wr.cell? ⟨w.heap.size, k, none⟩ = some L[k] := by
        rw [cell_of_row wr _ k _ _ (0, 0) hg]; simp
      have hz := frozen_of_row wr _ k _ _ hg
      have HG : Hid (∀ v, (wr.setCell ⟨w.heap.size, k, none⟩ v).heap[w.heap.size]? = some (.cells (L.set k v).toArray 9 (0, 0))) := fun v => by
        rw [heap_setCell_same wr _ k _ _ v hg]; simp
      have HV : Hid (∀ j, j < k + 1 → (L.set k (.string (tAt zs k)))[j]? = some (.string (tAt zs j))) := fun j hj => by
        by_cases e : j = k
        · subst e; rw [List.getElem?_set_self (by omega)]
        · rw [List.getElem?_set_ne (by omega), hv j (by omega)]
      have HL : Hid (∀ v, (L.set k v).length = zs.length) := fun v => by simpa using hL
      have HB : Hid (∀ v, Below w.heap.size w (wr.setCell ⟨w.heap.size, k, none⟩ v)) := fun v => hb.setCell (Nat.le_refl _) v
      generalize L[k] = v0 at hd
      generalize tAt zs k = z at hck HV
      have a0 : (0 : Int) ≤ (k : Int) := by omega
      have b0 : (k : Int) < (zs.length : Int) := by omega
      generalize zs.length = n at *
      clear hc ha hv hg hb hL
      go_wp2
      go_roundw
      case rel => exact ⟨k + 1, _, by omega, by go_num, HL.out _, HG.out _, HV.out, HB.out _⟩
      case measure => simp [intOf]; omega
    · have hLe : L = sCells zs := by
        apply List.ext_getElem?
        intro j
        by_cases hj : j < zs.length
        · rw [hv j (by omega)]; exact (sCells_at hj).symm
        · rw [List.getElem?_eq_none (by omega), List.getElem?_eq_none (by simp [sCells]; omega)]
      subst hLe
      have HG : Hid (wr.heap[w.heap.size]? = some (.cells (sCells zs).toArray 9 (0, 0))) := hg
      have HB : Hid (Below w.heap.size w wr) := hb
      clear hg hv hb hL ha
      go_wp2
      go_ret
      exact ⟨rfl, HG.out, HB.out⟩
end Go.Proofs.Ytkopinnhicoggaa
