/- spec.Hex and impl.Hex, walked. -/
import Derived.Test.YtliegfndhlnolaeDoorBase
import Derived.Deep.RegionHeld3
import Derived.Deep.RegionLaw
import Derived.Deep.AppendLies
namespace Go.Proofs.YtliegfndhlnolaeDoor
open Go.RowKit Go.Lib

/-- A digit of sixteen. -/
def hexN (q : Nat) : Int := if q < 10 then 48 + q else 87 + q
def hexL (l : List UInt8) : List Int := l.flatMap fun b => [hexN (b.toNat / 16), hexN (b.toNat % 16)]
theorem idxHex (q : Nat) (h : q < 16) (w : World) :
    (Instr.index 9 (.string ⟨#[48, 49, 50, 51, 52, 53, 54, 55, 56, 57, 97, 98, 99, 100, 101, 102]⟩) (.int .u8 (q : Int))).run Tryd.prog w = .ok (.int .u8 (hexN q)) w := by
  have hq : q = 0 ∨ q = 1 ∨ q = 2 ∨ q = 3 ∨ q = 4 ∨ q = 5 ∨ q = 6 ∨ q = 7 ∨ q = 8 ∨ q = 9 ∨ q = 10 ∨ q = 11 ∨ q = 12 ∨ q = 13 ∨ q = 14 ∨ q = 15 := by omega
  rcases hq with rfl | rfl | rfl | rfl | rfl | rfl | rfl | rfl | rfl | rfl | rfl | rfl | rfl | rfl | rfl | rfl <;> (show _ = _; kernel_rfl)
theorem idxHi (c : UInt8) (w : World) :
    (Instr.index 9 (.string ⟨#[48, 49, 50, 51, 52, 53, 54, 55, 56, 57, 97, 98, 99, 100, 101, 102]⟩) (.int .u8 ((c.toNat : Int) / 16))).run Tryd.prog w = .ok (.int .u8 (hexN (c.toNat / 16))) w := by
  have h := idxHex (c.toNat / 16) (by have := c.toNat_lt; omega) w
  rw [show ((c.toNat / 16 : Nat) : Int) = (c.toNat : Int) / 16 from by omega] at h
  exact h
theorem idxLo (c : UInt8) (w : World) :
    (Instr.index 9 (.string ⟨#[48, 49, 50, 51, 52, 53, 54, 55, 56, 57, 97, 98, 99, 100, 101, 102]⟩) (.int .u8 ((c.toNat : Int) % 16))).run Tryd.prog w = .ok (.int .u8 (hexN (c.toNat % 16))) w := by
  have h := idxHex (c.toNat % 16) (by omega) w
  rw [show ((c.toNat % 16 : Nat) : Int) = (c.toNat : Int) % 16 from by omega] at h
  exact h

theorem take_snoc (s : ByteArray) (k : Nat) (h : k < s.size) : s.data.toList.take (k + 1) = s.data.toList.take k ++ [s[k]] := by
  rw [List.take_succ_eq_append_getElem (by simpa using h)]; rfl
theorem hexL_snoc (l : List UInt8) (c : UInt8) : hexL (l ++ [c]) = hexL l ++ [hexN (c.toNat / 16), hexN (c.toNat % 16)] := by simp [hexL]
theorem hexL_len (l : List UInt8) : (hexL l).length = 2 * l.length := by
  induction l with
  | nil => rfl
  | cons c l ih => simp only [hexL, List.flatMap_cons, List.length_append, List.length_cons, List.length_nil] at *; omega
theorem hexL_take (s : ByteArray) (k : Nat) (h : k < s.size) : hexL (s.data.toList.take (k + 1)) = hexL (s.data.toList.take k) ++ [hexN (s[k].toNat / 16), hexN (s[k].toNat % 16)] := by
  rw [take_snoc s k h, hexL_snoc]
theorem hexL_takeLen (s : ByteArray) (k : Nat) (h : k ≤ s.size) : (hexL (s.data.toList.take k)).length = 2 * k := by
  rw [hexL_len, List.length_take, Nat.min_eq_left (by rw [← size_eq]; exact h)]
theorem hexStep {M : List Value} {A : List Int} {k : Nat} {x y : Int} (hA : A.length = 2 * k) (hM : 2 * k + 1 < M.length) (h : ∀ j, j < 2 * k → M[j]? = some (.int .u8 (A.getD j 0))) :
    ∀ j, j < 2 * (k + 1) → ((M.set (2 * k) (.int .u8 x)).set (2 * k + 1) (.int .u8 y))[j]? = some (.int .u8 ((A ++ [x, y]).getD j 0)) := by
  intro j hj
  by_cases e1 : j = 2 * k + 1
  · subst e1
    rw [List.getElem?_set_self (by simpa using hM)]
    simp [List.getD, hA]
  · rw [List.getElem?_set_ne (by omega)]
    by_cases e0 : j = 2 * k
    · subst e0
      rw [List.getElem?_set_self (by omega)]
      simp [List.getD, ← hA]
    · rw [List.getElem?_set_ne (by omega), h j (by omega)]
      simp [List.getD, List.getElem?_append_left (show j < A.length by omega)]

set_option maxHeartbeats 1000000 in
set_option maxRecDepth 100000 in
theorem specHex (s : ByteArray) (w : World) (hs : s.size ≤ 20000) :
    Calls Tryd.prog 32 #[.string s] w fun e w' => e = .returned (.string (strOfNums (hexL s.data.toList))) ∧ Below w.heap.size w w' := by
  obtain ⟨i0, hi, hz0, hz1, hz2⟩ := info_parts infoByte
  go_enter Tryd.func32, Tryd.ntmps32
  go_wp2
  go_loopw [3, 4] (fun b i wr => ∃ k : Nat, k ≤ s.size ∧ i = .int .i64 k ∧ wr.ownsRow w.heap.size 5 1 b (2 * k) ((hexL (s.data.toList.take k)).map (Value.int .u8)) ∧ Below w.heap.size w wr ∧ w.heap.size ≤ wr.heap.size)
    (fun _ i _ => s.size - (intOf i).toNat)
  case atStart =>
    exact ⟨0, Nat.zero_le _, rfl, World.ownsRow_made _ #[] 0 (Nat.le_refl _) (Nat.zero_le _) rfl, (Below.refl _ _).alloc (Nat.le_refl _) _, by simp⟩
  case round =>
    obtain ⟨k, hk, rfl, hown, hbel, hsz⟩ := hrel
    by_cases hlt : k < s.size
    · have hu := u8_lt s[k]
      have q1 : (0 : Int) ≤ (k : Int) := Int.natCast_nonneg _
      have q2 : (k : Int) < (s.size : Int) := by omega
      have p1 : (0 : Int) ≤ (s[k].toNat : Int) / 16 := by omega
      have p2 : (s[k].toNat : Int) / 16 < 16 := by omega
      have p3 : (0 : Int) ≤ (s[k].toNat : Int) % 16 := by omega
      have p4 : (s[k].toNat : Int) % 16 < 16 := by omega
      have ew : IntKind.u8.wrap ((s[k].toNat : Int) / 16) = (s[k].toNat : Int) / 16 := by rw [IntKind.wrap_u8]; omega
      have ew2 : (s[k].toNat : Int).tmod 16 = (s[k].toNat : Int) % 16 := Int.tmod_eq_emod_of_nonneg (by omega)
      have e1 := idxHi s[k]
      have e2 := idxLo s[k]
      go_wp2_with fail
      go_region_law ((refine step_append_lies _ (by rfl) _ _ _ (by rfl) w.heap.size 5 i0 _ 1 1 Tryd.underlying54 hi hz0 hz1 hz2 rfl (by omega) _ _ _ (by rfl) ((hown.alloc _).drew) ⟨wr.heap.size, 0, none⟩ 2 2 [.int .u8 (hexN (s[k].toNat / 16)), .int .u8 (hexN (s[k].toNat % 16))] (by rfl) (by rfl) (World.news_of_block (cs := #[.int .u8 (hexN (s[k].toNat / 16)), .int .u8 (hexN (s[k].toNat % 16))]) (t := 5) (fr := (0, 0)) (heap_alloc_new wr _)) (by simp [Value.oneCell']) (by omega) (by unfold maxLen; omega) (by omega) (by simp; omega) (wr.heap.size + 1) (by simp) ?_; intro gg cap w1 hown1 hgrow hat hlt1))
      all_goals
        have hb1 : Below w.heap.size w w1 := ((hbel.alloc hsz _).drew).grown hgrow (by simp; omega) (fun j hj => (hown.lt j hj).1)
        have hs1 : w.heap.size ≤ w1.heap.size := hb1.size
        have ho1 : w1.ownsRow w.heap.size 5 1 (.slice (some ⟨gg, 0, none⟩) (2 * k + 2) cap) (2 * (k + 1)) ((hexL (s.data.toList.take (k + 1))).map (Value.int .u8)) := by
          rw [hexL_take s k hlt, show 2 * (k + 1) = 2 * k + 2 from by omega]
          simpa using hown1
        clear hown1 hgrow hat hlt1 hown hbel
        go_wp2
        go_roundw
        case rel => exact ⟨k + 1, by omega, by go_num, ho1, hb1, hs1⟩
        case measure => simp [intOf]; omega
    · obtain rfl : k = s.size := by omega
      have ht : s.data.toList.take s.size = s.data.toList := List.take_of_length_le (by rw [← size_eq]; exact Nat.le_refl _)
      rw [ht] at hown
      have hcv := run_convert_own (P := Tryd.prog) (src := 54) (dst := 9) Tryd.underlying54 Tryd.underlying5 Tryd.underlying9 hown
      clear hown ht
      go_wp2
      go_ret
      exact ⟨rfl, hbel⟩
end Go.Proofs.YtliegfndhlnolaeDoor
