/- The draws' source: '(*l01Src).n', '.one', walked: a number below most; nothing but the source itself turns. -/
import Derived.Test.YtbkkjgpaccfplaaDoorBase
import Derived.WalkKit
import Derived.WalkSpells
import Derived.WalkLawsBesides
import Derived.Below
import Derived.Deep.QuietTactic
import Derived.BigQuiet
import Derived.OpenShut
namespace Go.Proofs.YtbkkjgpaccfplaaDoor
open Go.RowKit

/-- The source at block g: its bytes, how many are read, its mix, its size. -/
def SrcAt (g : Nat) (a : Option Addr) (len cap : Nat) (w : World) : Prop :=
  ∃ (p m z : Nat), p ≤ len ∧ m ≤ 18446744073709551615 ∧ z ≤ 12 ∧ w.heap[g]? = some (.cells #[.slice a len cap, .int .i64 p, .int .u64 m, .int .i64 z] 74 (0, 0))
/-- Its bytes can be read. -/
def CodeAt (a : Option Addr) (len : Nat) (w : World) : Prop :=
  len = 0 ∨ ∃ b off, a = some ⟨b, off, none⟩ ∧ ∀ i, i < len → ∃ z : Nat, z ≤ 255 ∧ w.cell? ⟨b, off + i, none⟩ = some (.int .u8 z)
theorem xor_bd (a b : Nat) (ha : a ≤ 18446744073709551615) (hb : b ≤ 18446744073709551615) : ∃ m : Nat, m ≤ 18446744073709551615 ∧ bits BinOp.xor IntKind.u64 (a : Int) (b : Int) = (m : Int) := by
  refine ⟨a ^^^ b, ?_, u64_xor_nat a b (by omega) (by omega)⟩
  have := Nat.xor_lt_two_pow (x := a) (y := b) (n := 64) (by omega) (by omega)
  omega
theorem wrap_bd (x : Int) : ∃ m : Nat, m ≤ 18446744073709551615 ∧ IntKind.u64.wrap x = (m : Int) := by
  rw [IntKind.wrap_u64]
  exact ⟨(x % 18446744073709551616).toNat, by omega, by omega⟩
theorem set2 (W : World) (x : Addr) (v1 v2 : Value) (h : (W.cell? x).isSome = true) : ((W.setCell x v1).setCell x v2).cell? x = some v2 := by
  have h1 := World.cell?_setCell_same' W x v1 h
  exact World.cell?_setCell_same' _ x v2 (by rw [h1]; rfl)
theorem set3 (W : World) (x : Addr) (v1 v2 v3 : Value) (h : (W.cell? x).isSome = true) : (((W.setCell x v1).setCell x v2).setCell x v3).cell? x = some v3 := by
  exact World.cell?_setCell_same' _ x v3 (by rw [set2 W x v1 v2 h]; rfl)
/-- The frame of a call that turns block g alone. -/
def Turns (g : Nat) (w w' : World) : Prop := w.grownBy w' (some g) ∧ w'.heap.size = w.heap.size
theorem Turns.refl (g : Nat) (w : World) : Turns g w w := ⟨World.grownBy.refl _ _, rfl⟩
theorem Turns.trans {g : Nat} {a b c : World} (h : Turns g a b) (k : Turns g b c) : Turns g a c :=
  ⟨⟨k.1.os.trans h.1.os, k.1.tape.trans h.1.tape, k.1.output.trans h.1.output, by rw [k.2, h.2]; exact Nat.le_refl _, fun j hj hn => (k.1.block j (by rw [h.2]; exact hj) hn).trans (h.1.block j hj hn)⟩, k.2.trans h.2⟩
theorem Turns.setCell {g : Nat} {a w : World} (h : Turns g a w) (j : Nat) (v : Value) : Turns g a (w.setCell ⟨g, j, none⟩ v) :=
  ⟨⟨h.1.os, h.1.tape, h.1.output, by simpa using h.1.size, fun k hk hn => (Below.heap_setCell _ _ _ _ (fun e => hn (by simp [e]))).trans (h.1.block k hk hn)⟩, by simpa using h.2⟩
theorem Turns.drew {g : Nat} {a w : World} (h : Turns g a w) : Turns g a w.drew := ⟨⟨h.1.os, h.1.tape, h.1.output, h.1.size, h.1.block⟩, h.2⟩
theorem Turns.drewN {g : Nat} {a w : World} (h : Turns g a w) (n : Nat) : Turns g a (w.drewN n) := ⟨⟨h.1.os, h.1.tape, h.1.output, h.1.size, h.1.block⟩, h.2⟩
theorem Turns.below {g B : Nat} {a w w' : World} (h : Turns g w w') (hb : Below B a w) (hB : B ≤ g) (hs : B ≤ w.heap.size) : Below B a w' :=
  hb.grown h.1 hs (fun k hk => by cases hk; exact hB)
theorem below_max (x : Int) (n most : Nat) (h : x = ((n % most : Nat) : Int)) (hm : most ≤ 4611686018427387904) (h1 : 1 < most) : wrap64 x = ((n % most : Nat) : Int) := by
  have := Nat.mod_lt n (show 0 < most by omega)
  rw [h]
  simp only [wrap64]
  omega
theorem modCast (y m most : Nat) : ((y : Int) + (m : Int) / 1048576) % (most : Int) = (((y + m / 1048576) % most : Nat) : Int) := by
  rw [Int.natCast_emod, Int.natCast_add, Int.natCast_ediv]
  rfl

set_option maxHeartbeats 2000000 in
set_option maxRecDepth 100000 in
theorem srcN (g : Nat) (a : Option Addr) (len cap : Nat) (most : Nat) (w : World) (hlen : len ≤ 1048576) (hm : most ≤ 4611686018427387904) (hs : SrcAt g a len cap w) (hc : CodeAt a len w) (hne : ∀ x, 0 < len → a = some x → x.block ≠ g) :
    Calls Tryd.prog 30 #[.pointer (some ⟨g, 0, none⟩), .int .i64 (most : Int)] w fun e w' =>
      ∃ r : Nat, e = .returned (.int .i64 (r : Int)) ∧ (r < most ∨ r = 0) ∧ SrcAt g a len cap w' ∧ Turns g w w' := by
  by_cases h1 : most ≤ 1
  · go_enter Tryd.func30, Tryd.ntmps30
    go_wp2
    go_ret
    exact ⟨0, rfl, .inr rfl, hs, World.grownBy.refl _ _, rfl⟩
  obtain ⟨p, m, z, hp, hm0, hz, hg⟩ := hs
  have c0 := cell_of_row w g 0 _ _ (0, 0) hg
  have c1 := cell_of_row w g 1 _ _ (0, 0) hg
  have c2 := cell_of_row w g 2 _ _ (0, 0) hg
  have f1 := frozen_of_row w g 1 _ _ hg
  have f2 := frozen_of_row w g 2 _ _ hg
  simp at c0 c1 c2
  obtain ⟨x1, hx1, ew1⟩ := wrap_bd ((m : Int) * 8192)
  obtain ⟨m1, hm1, em1⟩ := xor_bd m x1 hm0 hx1
  obtain ⟨m2, hm2, em2⟩ := xor_bd m1 (m1 / 128) hm1 (by omega)
  rw [show ((m1 / 128 : Nat) : Int) = (m1 : Int) / 128 from by omega] at em2
  obtain ⟨x3, hx3, ew3⟩ := wrap_bd ((m2 : Int) * 131072)
  obtain ⟨m3, hm3, em3⟩ := xor_bd m2 x3 hm2 hx3
  have k2 := fun W h => set2 W ⟨g, 2, none⟩ (.int .u64 (m1 : Int)) (.int .u64 (m2 : Int)) h
  have k3 := fun W h => set3 W ⟨g, 2, none⟩ (.int .u64 (m1 : Int)) (.int .u64 (m2 : Int)) (.int .u64 (m3 : Int)) h
  have HG : Hid (w.heap[g]? = some (.cells #[.slice a len cap, .int .i64 p, .int .u64 m, .int .i64 z] 74 (0, 0))) := hg
  clear hg
  by_cases hpl : p < len
  · obtain ⟨b, off, rfl, hcell⟩ : ∃ b off, a = some ⟨b, off, none⟩ ∧ ∀ i, i < len → ∃ z : Nat, z ≤ 255 ∧ w.cell? ⟨b, off + i, none⟩ = some (.int .u8 z) := by
      rcases hc with h | h
      · omega
      · exact h
    obtain ⟨y, hy, hyc⟩ := hcell p hpl
    have hb := hne _ (by omega) rfl
    have q1 : (0 : Int) ≤ (p : Int) := Int.natCast_nonneg _
    have q2 : (p : Int) < (len : Int) := by omega
    clear hcell hc hne
    go_enter Tryd.func30, Tryd.ntmps30
    go_wp2
    go_quiet (fail)
    go_wp2
    go_quiet (fail)
    go_wp2
    go_region
    go_wp2
    go_region
    go_wp2
    go_region
    go_wp2
    go_ret
    refine ⟨(y + m3 / 1048576) % most, ret_int (below_max _ _ _ (modCast _ _ _) hm (by omega)), .inl (Nat.mod_lt _ (by omega)), ⟨p + 1, m3, z, by omega, hm3, hz, ?_⟩, ?_⟩
    · have h1 := heap_setCell_same w g 1 _ _ (.int .i64 ((p : Int) + 1)) HG.out
      have h2 := heap_setCell_same _ g 2 _ _ (.int .u64 (m1 : Int)) h1
      have h3 := heap_setCell_same _ g 2 _ _ (.int .u64 (m2 : Int)) h2
      have h4 := heap_setCell_same _ g 2 _ _ (.int .u64 (m3 : Int)) h3
      exact h4
    · repeat (first | exact Turns.refl _ _ | refine Turns.drew ?_ | refine Turns.drewN ?_ _ | refine Turns.setCell ?_ _ _)
  · have q2 : (len : Int) ≤ (p : Int) := by omega
    clear hc hne
    go_enter Tryd.func30, Tryd.ntmps30
    go_wp2
    go_quiet (fail)
    go_wp2
    go_region
    go_wp2
    go_region
    go_wp2
    go_region
    go_wp2
    go_ret
    refine ⟨(0 + m3 / 1048576) % most, ret_int (below_max _ _ _ (by have := modCast 0 m3 most; rw [Int.natCast_zero, Int.zero_add] at this; exact this) hm (by omega)), .inl (Nat.mod_lt _ (by omega)), ⟨p, m3, z, hp, hm3, hz, ?_⟩, ?_⟩
    · have h2 := heap_setCell_same w g 2 _ _ (.int .u64 (m1 : Int)) HG.out
      have h3 := heap_setCell_same _ g 2 _ _ (.int .u64 (m2 : Int)) h2
      have h4 := heap_setCell_same _ g 2 _ _ (.int .u64 (m3 : Int)) h3
      exact h4
    · repeat (first | exact Turns.refl _ _ | refine Turns.drew ?_ | refine Turns.drewN ?_ _ | refine Turns.setCell ?_ _ _)
end Go.Proofs.YtbkkjgpaccfplaaDoor
