/- laws.eqTlvS, laws.eqTlvsOut, walked. -/
import Derived.Test.YtochmolhpcidgahDoorEqTlv
import Derived.Test.YtochmolhpcidgahDoorAllO
import Derived.Deep.RegionHeld3
namespace Go.Proofs.YtochmolhpcidgahDoor
open Go.RowKit

/-- The things l lie behind the address (none at all: any address serves). -/
def IsT (w : World) (a : Option Addr) (l : List (Int × ByteArray)) : Prop :=
  l = [] ∨ ∃ g, a = some ⟨g, 0, none⟩ ∧ g < w.heap.size ∧ ∀ i p, l[i]? = some p → w.cell? ⟨g, i * 2, none⟩ = some (.int .i64 p.1) ∧ w.cell? ⟨g, i * 2 + 1, none⟩ = some (.string p.2)
theorem IsT.keep {w w' : World} {a : Option Addr} {l : List (Int × ByteArray)} (h : IsT w a l) (hb : Below w.heap.size w w') : IsT w' a l := by
  rcases h with h | ⟨g, rfl, hg, hc⟩
  · exact .inl h
  · refine .inr ⟨g, rfl, Nat.lt_of_lt_of_le hg hb.size, fun i p hp => ?_⟩
    rw [hb.cell (p := ⟨g, i * 2, none⟩) hg, hb.cell (p := ⟨g, i * 2 + 1, none⟩) hg]
    exact hc i p hp
theorem OwnT.isT {w : World} {B : Nat} {a : Option Addr} {n c : Nat} {l : List (Int × ByteArray)} (h : OwnT w B (.slice a n c) l) : IsT w a l := by
  rcases h.2 with ⟨_, h'⟩ | ⟨g, cap, cur, e, _, hg, _, _, _, ht⟩
  · exact .inl (List.eq_nil_of_length_eq_zero h')
  · simp only [Value.slice.injEq] at e
    obtain ⟨rfl, _, _⟩ := e
    refine .inr ⟨g, rfl, heap_lt hg, fun i p hp => ?_⟩
    have hl : i < l.length := by
      rcases Nat.lt_or_ge i l.length with h' | h'
      · exact h'
      · rw [List.getElem?_eq_none h'] at hp; cases hp
    obtain ⟨k0, k1⟩ := tCells_at l i p hp
    rw [Nat.mul_comm 2 i] at k0 k1
    rw [← ht, List.getElem?_take, if_pos (by omega)] at k0 k1
    rw [cell_of_row w g _ _ _ (0, 0) hg, cell_of_row w g _ _ _ (0, 0) hg]
    exact ⟨by simpa using k0, by simpa using k1⟩
set_option maxHeartbeats 2000000 in
set_option maxRecDepth 100000 in
theorem eqTlvS (a b : Option Addr) (l : List (Int × ByteArray)) (c d : Nat) (w : World) (hl : l.length ≤ 60) (ha : IsT w a l) (hb : IsT w b l) :
    Calls Tryd.prog 19 #[.slice a l.length c, .slice b l.length d] w fun e w' => e = .returned (.bool true) ∧ Below w.heap.size w w' := by
  obtain ⟨n, hn⟩ : ∃ n, n = l.length := ⟨_, rfl⟩
  rw [← hn] at hl ⊢
  have HN : Hid (n = l.length) := hn
  clear hn
  have HA : Hid (∀ W, Below w.heap.size w W → IsT W a l) := fun W hW => ha.keep hW
  have HB : Hid (∀ W, Below w.heap.size w W → IsT W b l) := fun W hW => hb.keep hW
  clear ha hb
  go_enter Tryd.func19, Tryd.ntmps19
  go_wp2_with fail
  go_loopw [5] (fun i wr => ∃ k : Nat, k ≤ n ∧ i = .int .i64 (k : Int) ∧ Below w.heap.size w wr) (fun i _ => n - (intOf i).toNat)
  case atStart => exact ⟨0, Nat.zero_le _, rfl, Below.refl _ _⟩
  case round =>
    obtain ⟨k, hk, rfl, hbr⟩ := hrel
    by_cases hlt : k < n
    · have hl2 : k < l.length := by have := HN.out; omega
      have hne : l ≠ [] := by intro h; rw [h] at hl2; simp at hl2
      have hp : l[k]? = some (l[k]'hl2) := List.getElem?_eq_getElem hl2
      obtain ⟨x, rfl, hx, hcx⟩ : ∃ g, a = some ⟨g, 0, none⟩ ∧ g < wr.heap.size ∧ ∀ i p, l[i]? = some p → wr.cell? ⟨g, i * 2, none⟩ = some (.int .i64 p.1) ∧ wr.cell? ⟨g, i * 2 + 1, none⟩ = some (.string p.2) := by
        rcases HA.out wr hbr with h | h
        · exact absurd h hne
        · exact h
      obtain ⟨y, rfl, hy, hcy⟩ : ∃ g, b = some ⟨g, 0, none⟩ ∧ g < wr.heap.size ∧ ∀ i p, l[i]? = some p → wr.cell? ⟨g, i * 2, none⟩ = some (.int .i64 p.1) ∧ wr.cell? ⟨g, i * 2 + 1, none⟩ = some (.string p.2) := by
        rcases HB.out wr hbr with h | h
        · exact absurd h hne
        · exact h
      obtain ⟨x0, x1⟩ := hcx k _ hp
      obtain ⟨y0, y1⟩ := hcy k _ hp
      generalize (l[k]'hl2).1 = t at *
      generalize (l[k]'hl2).2 = u at *
      have HBr : Hid (Below w.heap.size w wr) := hbr
      clear hcx hcy hp hne hl2 hbr
      have HT : Hid (∀ V : World, Hid (Below wr.heap.size wr V) → Calls Tryd.prog 16 #[.agg #[.int .i64 t, .string u], .agg #[.int .i64 t, .string u]] V fun e W => e = .returned (.bool true) ∧ Hid (Below wr.heap.size wr W) ∧ W.cell? ⟨x, k * 2, none⟩ = some (.int .i64 t) ∧ W.cell? ⟨x, k * 2 + 1, none⟩ = some (.string u) ∧ W.cell? ⟨y, k * 2, none⟩ = some (.int .i64 t) ∧ W.cell? ⟨y, k * 2 + 1, none⟩ = some (.string u)) := fun V hV => by
        refine (eqTlv t u V).mono ?_
        rintro e W ⟨rfl, hW⟩
        have hB := hV.out.trans (hW.mono hV.out.size)
        exact ⟨rfl, hB, by rw [hB.cell (p := ⟨x, k * 2, none⟩) hx]; exact x0, by rw [hB.cell (p := ⟨x, k * 2 + 1, none⟩) hx]; exact x1, by rw [hB.cell (p := ⟨y, k * 2, none⟩) hy]; exact y0, by rw [hB.cell (p := ⟨y, k * 2 + 1, none⟩) hy]; exact y1⟩
      have HD : Hid (Below wr.heap.size wr wr.drew) := (Below.refl _ wr).drew
      have hki : (k : Int) < (n : Int) := by omega
      have hk0 : (0 : Int) ≤ (k : Int) := by omega
      go_wp2_with fail
      go_region_held3 (fun V => V.cell? ⟨x, k * 2, none⟩ = some (.int .i64 t) ∧ V.cell? ⟨x, k * 2 + 1, none⟩ = some (.string u) ∧ V.cell? ⟨y, k * 2, none⟩ = some (.int .i64 t) ∧ V.cell? ⟨y, k * 2 + 1, none⟩ = some (.string u)) (first | exact ⟨p0, p1, p2, p3⟩ | go_keep)
        (first | (go_at_call 16; refine (HT.out _ (by assumption)).mono ?_; rintro r w1 ⟨rfl, kk, p0, p1, p2, p3⟩))
      have HB1 : Hid (Below w.heap.size w w1) := HBr.out.trans (kk.out.mono HBr.out.size)
      clear kk HT HD p0 p1 p2 p3 x0 x1 y0 y1
      go_wp2_with fail
      go_roundw
      case rel => exact ⟨k + 1, by omega, by go_num, HB1.out⟩
      case measure => simp [intOf]; omega
    · go_wp2_with fail
      go_ret
      exact ⟨rfl, hbr⟩
set_option maxHeartbeats 1000000 in
set_option maxRecDepth 100000 in
theorem eqTlvsOut (a b : Option Addr) (l : List (Int × ByteArray)) (c d : Nat) (z : Int) (w : World) (hl : l.length ≤ 60) (ha : IsT w a l) (hb : IsT w b l) :
    Calls Tryd.prog 10 #[.agg #[.slice a l.length c, .int .i64 z], .agg #[.slice b l.length d, .int .i64 z]] w fun e w' => e = .returned (.bool true) ∧ Below w.heap.size w w' := by
  have HQ : Hid (∀ V, Below w.heap.size w V → Calls Tryd.prog 19 #[.slice a l.length c, .slice b l.length d] V fun e w' => e = .returned (.bool true) ∧ Below V.heap.size V w') := fun V hV => eqTlvS a b l c d V hl (ha.keep hV) (hb.keep hV)
  have ez : (z != z) = false := by simp
  generalize l.length = n at *
  clear ha hb
  go_enter Tryd.func10, Tryd.ntmps10
  go_wp2_with fail
  refine (HQ.out _ (((Below.refl _ w).alloc (Nat.le_refl _) _).alloc (by simp) _)).mono ?_
  rintro e w1 ⟨rfl, hb1⟩
  have k1 : w1.cell? ⟨w.heap.size, 1, none⟩ = some (.int .i64 z) := (hb1.cell (by simp; omega)).trans (by simp)
  have j1 : w1.cell? ⟨w.heap.size + 1, 1, none⟩ = some (.int .i64 z) := (hb1.cell (by simp)).trans (by simp)
  have HB : Hid (Below w.heap.size w w1) := (((Below.refl _ w).alloc (Nat.le_refl _) _).alloc (by simp) _).trans (hb1.mono (by simp; omega))
  clear hb1
  go_wp2
  go_ret
  exact ⟨rfl, HB.out⟩
end Go.Proofs.YtochmolhpcidgahDoor
