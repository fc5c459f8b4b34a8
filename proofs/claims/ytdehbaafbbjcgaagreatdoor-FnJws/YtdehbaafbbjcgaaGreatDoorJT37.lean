/- impl.copyText, walked. impl.readText, impl.GetText, walked. impl.GetText, walked. -/
import Derived.Test.YtdehbaafbbjcgaaGreatDoorJT01
import Derived.Test.YtdehbaafbbjcgaaGreatDoorJT13
import Derived.Test.YtdehbaafbbjcgaaGreatDoorJT36
namespace Go.Proofs.YtdehbaafbbjcgaaGreatDoor
open Go.RowKit Go.Lib

set_option maxHeartbeats 1000000 in
set_option maxRecDepth 100000 in
theorem copyText (a : ByteArray) (w : World) (ha : a.size ≤ 1100000) :
    Calls Tryz.prog 109 #[.string a] w fun e w' => e = .returned (.string a) ∧ Below w.heap.size w w' := by
  obtain ⟨i0, hi, hz0, hz1, hz2⟩ := info_parts infoByte
  go_enter Tryz.func109, Tryz.ntmps109
  go_wp2_with (at_make; refine wpList_make_full _ rfl _ _ 22 rfl w.heap.size 5 i0 (.int .u8 0) 1 Tryz.underlying22 hi hz0 hz1 .i64 .i64 _ _ a.size rfl rfl ?c1 ?c2 ?c3 ?c4 ?c5 ?_)
  case c1 => omega
  case c2 => omega
  case c3 => rw [hz2]; omega
  case c4 => unfold maxLen; omega
  case c5 => exact Nat.le_refl _
  intro w1 hown hgrow
  obtain ⟨hrow, hlen⟩ := rowOf hown rfl
  have hB1 : Below w.heap.size w w1 := (Below.refl _ w).grown hgrow (Nat.le_refl _) (fun k hk => by cases hk)
  generalize (madeCells #[Value.int IntKind.u8 0] a.size).toList = L at hrow hlen
  have la : (byteCells a.data.toList).length = a.size := by rw [byteCells_length, ← size_eq]
  have HF : Hid (∀ w3 : World, w3.heap[w.heap.size]? = some (.cells (splice L 0 (byteCells a.data.toList)).toArray 5 (0, 0)) →
      (convert 22 9 (.slice (some ⟨w.heap.size, 0, none⟩) a.size a.size)).run Tryz.prog w3 = .ok (.string a) w3) := by
    intro w3 h3
    rw [splice_one L (byteCells a.data.toList) (by omega)] at h3
    have h4 : w3.heap[w.heap.size]? = some (.cells (byteCells a.data.toList ++ []).toArray 5 (0, 0)) := by simpa using h3
    have := run_convert_row (P := Tryz.prog) (src := 22) (dst := 9) (cap := a.size) Tryz.underlying22 Tryz.underlying5 Tryz.underlying9 h4
    rw [← size_eq] at this
    exact this
  clear hown hgrow la
  go_wp2_with (refine wpList_copy_str rfl _ _ 22 9 rfl 5 Tryz.underlying22 byteSize _ _ _ a rfl rfl w.heap.size 0 L 5 hrow (fun _ => rfl) ?d2 ?d3 w.heap.size w hB1 (Nat.le_refl _) ?_)
  case d2 => exact Nat.le_refl _
  case d3 => omega
  intro w2 H2 hB2 hs2
  have hcv := HF.out w2 H2.out
  clear hrow hB1 hs2
  go_wp2
  go_ret
  exact ⟨rfl, hB2⟩

end Go.Proofs.YtdehbaafbbjcgaaGreatDoor
namespace Go.Proofs.YtdehbaafbbjcgaaGreatDoor
open Go.RowKit Go.Lib

/-- What readText hands back. -/
def TextOk (s : ByteArray) (R : NumR) (e : Ending) : Prop :=
  (∃ t a, textR s R = outV t a 0 ∧ e = .returned (.tuple #[.string t, .int .i64 a, .nilIface])) ∨
  (∃ c, textR s R = outV ByteArray.empty 0 c ∧ ∃ t, e = .returned (.tuple #[.string t, .int .i64 0, .iface 100 (.agg #[.int .i64 c])]))
theorem extract_le (s : ByteArray) (a b : Nat) : (s.extract a b).size ≤ s.size := by
  rw [ByteArray.size_extract]; omega
set_option maxHeartbeats 2000000 in
theorem readText (s : ByteArray) (p : Int) (w : World) (hs : s.size ≤ maxLen) (hp0 : -9223372036854775808 ≤ p) (hp1 : p ≤ 9223372036854775807) :
    Calls Tryz.prog 89 #[.string s, .int .i64 p] w fun e w' => TextOk s (numAt s p) e ∧ Below w.heap.size w w' := by
  have hread := fun W => readNum s p W hs hp0 hp1
  have hat := @numAt_at s p
  generalize numAt s p = R at *
  have HR : Hid (∀ W, Calls Tryz.prog 87 #[.string s, .int .i64 p] W fun e w' => ReadOk R e ∧ w' = W) := hread
  have HA : Hid (R.code = 0 → s.size ≤ 20000 ∧ 0 < R.at' ∧ R.at' ≤ s.size) := hat
  clear hread hat
  go_enter Tryz.func89, Tryz.ntmps89
  go_wp2_with fail
  refine (HR.out _).mono ?_
  rintro e w' ⟨hb, rfl⟩
  rcases hb with ⟨hc, rfl⟩ | ⟨hc, hR, n, rfl⟩
  rotate_left
  · have hfin : Hid (textR s R = outV ByteArray.empty 0 R.code) := by unfold Hid textR; rw [if_pos hc]
    clear hc hR
    go_wp2
    go_ret3
    exact ⟨.inr ⟨_, hfin.out, _, rfl⟩, Below.refl _ _⟩
  obtain ⟨hs2, ha0, ha1⟩ := HA.out hc
  have HC : Hid (R.code = 0) := hc
  clear hc
  by_cases hn0 : R.n < 0
  · have hfin : Hid (textR s R = outV ByteArray.empty 0 3) := by unfold Hid textR; rw [if_neg (by simp [HC.out]), if_pos (.inl hn0)]
    go_wp2
    go_ret3
    exact ⟨.inr ⟨_, hfin.out, _, rfl⟩, Below.refl _ _⟩
  by_cases hn1 : 20000 < R.n
  · have hfin : Hid (textR s R = outV ByteArray.empty 0 3) := by unfold Hid textR; rw [if_neg (by simp [HC.out]), if_pos (.inr hn1)]
    go_wp2
    go_ret3
    exact ⟨.inr ⟨_, hfin.out, _, rfl⟩, Below.refl _ _⟩
  by_cases hsh : (s.size : Int) - R.n < R.at'
  · have hfin : Hid (textR s R = outV ByteArray.empty 0 4) := by unfold Hid textR; rw [if_neg (by simp [HC.out]), if_neg (by omega), if_pos hsh]
    have hsh' : (s.size : Int) - R.at' < R.n := by omega
    go_wp2
    go_ret3
    exact ⟨.inr ⟨_, hfin.out, _, rfl⟩, Below.refl _ _⟩
  have hfin : Hid (textR s R = outV (s.extract R.at'.toNat (R.at' + R.n).toNat) (R.at' + R.n) 0) := by unfold Hid textR; rw [if_neg (by simp [HC.out]), if_neg (by omega), if_neg hsh]
  have hsh' : R.n ≤ (s.size : Int) - R.at' := by omega
  have q2 : R.at' + R.n ≤ (s.size : Int) := by omega
  go_wp2_with fail
  refine (copyText _ _ (by have := extract_le s R.at'.toNat (R.at' + R.n).toNat; omega)).mono ?_
  rintro e w1 ⟨rfl, hb1⟩
  go_wp2
  go_ret3
  exact ⟨.inl ⟨_, _, hfin.out, rfl⟩, hb1⟩
end Go.Proofs.YtdehbaafbbjcgaaGreatDoor
namespace Go.Proofs.YtdehbaafbbjcgaaGreatDoor
open Go.RowKit

set_option maxHeartbeats 2000000 in
set_option maxRecDepth 100000 in
theorem implGetText (s : ByteArray) (p : Int) (w : World) (hs : s.size ≤ maxLen) (hp0 : -9223372036854775808 ≤ p) (hp1 : p ≤ 9223372036854775807) (hg : ErrType w) :
    Calls Tryz.prog 66 #[.string s, .int .i64 p] w fun e w' => e = .returned (textR s (numAt s p)) ∧ Below w.heap.size w w' := by
  have hread := fun W => readText s p W hs hp0 hp1
  generalize numAt s p = R at *
  have HR : Hid (∀ W, Calls Tryz.prog 89 #[.string s, .int .i64 p] W fun e w' => TextOk s R e ∧ Below W.heap.size W w') := hread
  have HG : Hid (ErrType w) := hg
  have hpos := hg.pos
  clear hread hg
  go_enter Tryz.func66, Tryz.ntmps66
  go_wp2_with fail
  refine (HR.out _).mono ?_
  rintro e w1 ⟨hb, hB0⟩
  have hB : Below (w.heap.size + 1) (w.alloc (.cells #[.string ⟨#[]⟩, .int .i64 0, .int .i64 0] 26)) w1 := by simpa using hB0
  have c0 : w1.cell? ⟨w.heap.size, 0, none⟩ = some (.string ⟨#[]⟩) := (hB.cell (by simp)).trans (by simp)
  have c1 : w1.cell? ⟨w.heap.size, 1, none⟩ = some (.int .i64 0) := (hB.cell (by simp)).trans (by simp)
  have c2 : w1.cell? ⟨w.heap.size, 2, none⟩ = some (.int .i64 0) := (hB.cell (by simp)).trans (by simp)
  have f0 : w1.frozen? ⟨w.heap.size, 0, none⟩ = false := (hB.frozen (by simp)).trans (by simp)
  have f1 : w1.frozen? ⟨w.heap.size, 1, none⟩ = false := (hB.frozen (by simp)).trans (by simp)
  have f2 : w1.frozen? ⟨w.heap.size, 2, none⟩ = false := (hB.frozen (by simp)).trans (by simp)
  have hz : w.heap.size < w1.heap.size := by have := hB.size; simp at this; omega
  have HB : Hid (Below w.heap.size w w1) := ((Below.refl _ w).alloc (Nat.le_refl _) _).trans (hB.mono (Nat.le_succ _))
  have HG1 : Hid (ErrType w1) := HG.out.below HB.out hpos
  clear hB0 hB
  rcases hb with ⟨t, a, ht, rfl⟩ | ⟨c, ht, t, rfl⟩
  · have HT : Hid (textR s R = outV t a 0) := ht
    clear ht
    go_wp2_with fail
    refine (as_nil _ _).mono ?_
    rintro e w' ⟨rfl, rfl⟩
    go_wp2
    refine bodyPost_ret (v := .agg #[.string t, .int .i64 a, .int .i64 0]) (by simp [results, Tryz.results66, go_sem, c0, c1, c2, hz]) rfl ⟨?_, ?_⟩
    · rw [HT.out]; rfl
    · repeat (first | exact HB.out | refine Below.setCell ?_ (by simp) _ | refine Below.alloc ?_ (by simp; omega) _ | refine Below.alloc ?_ (by omega) _)
  · have HT : Hid (textR s R = outV ByteArray.empty 0 c) := ht
    clear ht
    have HG2 : Hid (∀ o2, ErrType (w1.alloc o2)) := fun o2 => HG1.out.below ((Below.refl _ _).alloc (Nat.le_refl _) o2) (by omega)
    go_wp2_with fail
    refine (as_hit2 ⟨w1.heap.size, 0, none⟩ c (.int .i64 0) _ (HG2.out _) (by simp) (by simp)).mono ?_
    rintro e w2 ⟨rfl, hc, hb2⟩
    have hB2 : Below w1.heap.size (w1.alloc (.cells #[.int .i64 0] 100)) w2 := hb2
    have hB3 : Below w1.heap.size w1 w2 := ((Below.refl _ w1).alloc (Nat.le_refl _) _).trans hB2
    have d0 : w2.cell? ⟨w.heap.size, 0, none⟩ = some (.string ⟨#[]⟩) := (hB3.cell hz).trans c0
    have d1 : w2.cell? ⟨w.heap.size, 1, none⟩ = some (.int .i64 0) := (hB3.cell hz).trans c1
    have d2 : w2.cell? ⟨w.heap.size, 2, none⟩ = some (.int .i64 0) := (hB3.cell hz).trans c2
    have g0 : w2.frozen? ⟨w.heap.size, 0, none⟩ = false := (hB3.frozen hz).trans f0
    have g1 : w2.frozen? ⟨w.heap.size, 1, none⟩ = false := (hB3.frozen hz).trans f1
    have g2 : w2.frozen? ⟨w.heap.size, 2, none⟩ = false := (hB3.frozen hz).trans f2
    have HB2 : Hid (Below w.heap.size w w2) := HB.out.trans (hB3.mono (Nat.le_of_lt hz))
    clear hb2 hB2 hB3 c0 c1 c2 f0 f1 f2
    go_wp2
    refine bodyPost_ret (v := .agg #[.string ⟨#[]⟩, .int .i64 0, .int .i64 c]) (by simp [results, Tryz.results66, go_sem, d0, d1, d2]) rfl ⟨?_, ?_⟩
    · rw [HT.out]; rfl
    · repeat (first | exact HB2.out | refine Below.setCell ?_ (by simp) _)

theorem textR_form (s : ByteArray) (R : NumR) : ∃ t a c, textR s R = .agg #[.string t, .int .i64 a, .int .i64 c] := by
  unfold textR
  split
  · exact ⟨_, _, _, rfl⟩
  · split
    · exact ⟨_, _, _, rfl⟩
    · split
      · exact ⟨_, _, _, rfl⟩
      · exact ⟨_, _, _, rfl⟩
end Go.Proofs.YtdehbaafbbjcgaaGreatDoor
