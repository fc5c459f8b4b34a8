/- laws.szStringS, walked. -/
import Derived.Test.YtkopinnhicoggaaStrs
namespace Go.Proofs.Ytkopinnhicoggaa
open Go.RowKit

theorem szR_no {ss : List ByteArray} {left : Int} (h : left < (ss.length : Int) + totS ss ss.length) : szR ss left = -1 := if_neg (by omega)
set_option maxHeartbeats 1000000 in
set_option maxRecDepth 100000 in
theorem szStrs (a : Option Addr) (ss : List ByteArray) (c : Nat) (left : Int) (w : World) (hl : ss.length ≤ maxLen) (hs : ∀ s ∈ ss, s.size ≤ maxLen) (h0 : 0 ≤ left) (h1 : left ≤ 1048576) (ha : IsStrs w a ss) :
    Calls Try.prog 15 #[.slice a ss.length c, .int .i64 left] w fun e w' => e = .returned (.int .i64 (szR ss left)) ∧ Below w.heap.size w w' := by
  unfold maxLen at hl
  have HSz : Hid (∀ k, k < ss.length → (tAt ss k).size ≤ 9223372036854775807) := fun k hk => by
    have := hs (ss[k]) (List.getElem_mem hk)
    unfold maxLen at this
    rw [tAt, List.getD, List.getElem?_eq_getElem hk]
    simpa using this
  clear hs
  by_cases hfit : left < (ss.length : Int)
  · have HF : Hid (szR ss left = -1) := szR_no (by omega)
    go_enter Try.func15, Try.ntmps15
    go_wp2
    go_ret
    exact ⟨by rw [HF.out]; rfl, Below.refl _ _⟩
  · go_enter Try.func15, Try.ntmps15
    go_wp2
    go_loopw [1, 5] (fun l i wr => ∃ k : Nat, k ≤ ss.length ∧ i = .int .i64 k ∧ (totS ss k : Int) ≤ left - ss.length ∧ l = .int .i64 (left - ss.length - totS ss k) ∧ Below w.heap.size w wr) (fun _ i _ => ss.length - (intOf i).toNat)
    case atStart => exact ⟨0, Nat.zero_le _, rfl, by show (0 : Int) ≤ _; omega, by simp [totS], Below.refl _ _⟩
    case round =>
      obtain ⟨k, hk, rfl, ht, rfl, hbr⟩ := hrel
      by_cases hlt : k < ss.length
      · obtain ⟨x, o, rfl, hc⟩ : ∃ x o, a = some ⟨x, o, none⟩ ∧ ∀ i, i < ss.length → wr.cell? ⟨x, o + i, none⟩ = some (.string (tAt ss i)) := by
          rcases ha.below hbr ha.lt with rfl | h
          · simp at hlt
          · exact h
        have hck := hc k hlt
        have hz := HSz.out k hlt
        have e1 : totS ss (k + 1) = totS ss k + (tAt ss k).size := rfl
        have HN : Hid (left - ss.length - totS ss k < (tAt ss k).size → szR ss left = -1) := fun h => szR_no (by have := totS_mono ss (show k + 1 ≤ ss.length by omega); omega)
        have HB : Hid (Below w.heap.size w wr) := hbr
        have HE : Hid (totS ss (k + 1) = totS ss k + (tAt ss k).size) := e1
        obtain ⟨m, hm⟩ : ∃ m : Int, m = left - ss.length - totS ss k := ⟨_, rfl⟩
        rw [← hm] at HN ⊢
        have HM : Hid (m = left - ss.length - totS ss k) := hm
        have hm0 : 0 ≤ m := by omega
        have hm1 : m ≤ 1048576 := by omega
        have hk1 : k < 1048576 := by omega
        generalize tAt ss k = z at *
        generalize hn : ss.length = n at *
        have HNn : Hid (ss.length = n) := hn
        clear hc ha hbr hn e1 hm ht hl h0 h1 hfit
        by_cases hlast : m < (z.size : Int)
        · have HF : Hid (szR ss left = -1) := HN.out hlast
          go_wp2
          go_ret
          exact ⟨by rw [HF.out]; rfl, HB.out⟩
        · go_wp2
          go_roundw
          case rel => exact ⟨k + 1, by have := HNn.out; omega, by go_num, by have := HE.out; have := HM.out; have := HNn.out; omega, by congr 1; have := HE.out; have := HM.out; have := HNn.out; omega, HB.out⟩
          case measure => have := HNn.out; simp [intOf]; omega
      · obtain rfl : k = ss.length := by omega
        have HF : Hid (szR ss left = left - ss.length - totS ss ss.length) := if_pos (by omega)
        have HB : Hid (Below w.heap.size w wr) := hbr
        clear hbr ha
        go_wp2
        go_ret
        exact ⟨by rw [HF.out]; rfl, HB.out⟩
end Go.Proofs.Ytkopinnhicoggaa
