/- '.l03Num', '.l03Modulus', '.l03Key', 'spec.DrawModMul', 'spec.DrawGroupPow', walked: some numbers. -/
import Derived.Test.YtbkkjgpaccfplaaDrawEdge
import Derived.Test.YtbkkjgpaccfplaaGrpA
import Derived.OwnWalk
namespace Go.Proofs.Ytbkkjgpaccfplaa
open Go.RowKit

theorem num_any (g : Nat) (a : Option Addr) (len cap : Nat) (w : World) (hs : Src g a len cap w) :
    Calls Try.prog 30 #[.pointer (some ⟨g, 0, none⟩)] w fun e w' => AnyI e ∧ Src g a len cap w' ∧ Grows g w w' := by
  have HS : Hid (Src g a len cap w) := hs
  clear hs
  go_enter Try.func30, Try.ntmps30
  go_wp2_with fail
  refine (one_any g a len cap 6 _ (by omega) HS.out).mono ?_
  rintro e w1 ⟨hb, hs1, ht1⟩
  have H1 : Hid (Src g a len cap w1) := hs1
  have G1 : Hid (Grows g w w1) := ht1.grows
  clear hs1 ht1
  rcases hb with rfl | rfl
  · go_wp2_with fail
    refine (edge_any g a len cap _ H1.out).mono ?_
    rintro e w2 ⟨⟨v, hv, rfl⟩, hs2, hg2⟩
    have H2 : Hid (Src g a len cap w2) := hs2
    have G2 : Hid (Grows g w w2) := G1.out.trans hg2
    clear hs2 hg2
    go_wp2
    go_ret
    exact ⟨⟨v, hv, rfl⟩, H2.out, G2.out⟩
  · go_wp2_with fail
    refine (n_any g a len cap 1048576 _ (by omega) H1.out).mono ?_
    rintro e w2 ⟨r, rfl, hr, hs2, ht2⟩
    have H2 : Hid (Src g a len cap w2) := hs2
    have G2 : Hid (Grows g w w2) := G1.out.trans ht2.grows
    have hr' : (r : Int) ≤ 1099511627776 := by omega
    clear hs2 ht2 hr
    go_wp2
    go_ret
    exact ⟨⟨_, by omega, rfl⟩, H2.out, G2.out⟩
set_option maxRecDepth 100000 in
set_option maxHeartbeats 1000000 in
theorem modulus_any (g : Nat) (a : Option Addr) (len cap : Nat) (w : World) (hs : Src g a len cap w) :
    Calls Try.prog 31 #[.pointer (some ⟨g, 0, none⟩)] w fun e w' => AnyI e ∧ Src g a len cap w' ∧ Grows g w w' := by
  have hglt := hs.lt
  have HS : Hid (Src g a len cap w) := hs
  clear hs
  go_enter Try.func31, Try.ntmps31
  go_wp2_with fail
  refine (n_any g a len cap 12 _ (by omega) (HS.out.alloc _)).mono ?_
  rintro e w1 ⟨r, rfl, hr, hs1, ht1⟩
  have H1 : Hid (Src g a len cap w1) := hs1
  have G1 : Hid (Grows g w w1) := ((Grows.refl g w).alloc _).trans ht1.grows
  have hrow : w1.heap[w.heap.size]? = some (.cells #[.int .i64 2, .int .i64 3, .int .i64 7, .int .i64 97, .int .i64 2147483579, .int .i64 1073741789, .int .i64 2147483647, .int .i64 2147483648, .int .i64 1, .int .i64 0, .int .i64 (-5), .int .i64 1000] 2 (0, 0)) := by
    rw [ht1.1.block w.heap.size (by simp) (by intro e; have := Option.some.inj e; omega), heap_alloc_new]
  have hcell := cell_of_row w1 w.heap.size r _ _ (0, 0) hrow
  have hr14 : r < 12 := by omega
  obtain ⟨v, hv, hvc⟩ : ∃ v : Int, (-9223372036854775808 ≤ v ∧ v ≤ 9223372036854775807) ∧ w1.cell? ⟨w.heap.size, r, none⟩ = some (.int .i64 v) := by
    rw [hcell]
    have hq : r = 0 ∨ r = 1 ∨ r = 2 ∨ r = 3 ∨ r = 4 ∨ r = 5 ∨ r = 6 ∨ r = 7 ∨ r = 8 ∨ r = 9 ∨ r = 10 ∨ r = 11 := by omega
    rcases hq with rfl | rfl | rfl | rfl | rfl | rfl | rfl | rfl | rfl | rfl | rfl | rfl <;> exact ⟨_, by decide, rfl⟩
  have q2 : (r : Int) < 12 := by omega
  clear hrow hcell hs1 ht1 hr
  go_wp2
  go_ret
  exact ⟨⟨v, hv, rfl⟩, H1.out, G1.out⟩
set_option maxRecDepth 100000 in
set_option maxHeartbeats 1000000 in
theorem key_any (g : Nat) (a : Option Addr) (len cap : Nat) (w : World) (hs : Src g a len cap w) :
    Calls Try.prog 37 #[.pointer (some ⟨g, 0, none⟩)] w fun e w' => AnyI e ∧ Src g a len cap w' ∧ Grows g w w' := by
  have hglt := hs.lt
  have HS : Hid (Src g a len cap w) := hs
  clear hs
  go_enter Try.func37, Try.ntmps37
  go_wp2_with fail
  refine (one_any g a len cap 15 _ (by omega) HS.out).mono ?_
  rintro e w1 ⟨hb, hs1, ht1⟩
  have H1 : Hid (Src g a len cap w1) := hs1
  have G1 : Hid (Grows g w w1) := ht1.grows
  have z1 : w1.heap.size = w.heap.size := ht1.2
  clear hs1 ht1
  rcases hb with rfl | rfl
  · go_wp2_with fail
    refine (edge_any g a len cap _ H1.out).mono ?_
    rintro e w2 ⟨⟨v, hv, rfl⟩, hs2, hg2⟩
    have H2 : Hid (Src g a len cap w2) := hs2
    have G2 : Hid (Grows g w w2) := G1.out.trans hg2
    have z2 : w.heap.size ≤ w2.heap.size := G2.out.size
    clear hs2 hg2
    go_wp2_with fail
    refine (n_any g a len cap 7 _ (by omega) (H2.out.alloc _)).mono ?_
    rintro e w3 ⟨r, rfl, hr, hs3, ht3⟩
    have H3 : Hid (Src g a len cap w3) := hs3
    have G3 : Hid (Grows g w w3) := (G2.out.alloc _).trans ht3.grows
    have hrow : w3.heap[w2.heap.size]? = some (.cells #[.int .i64 (-1), .int .i64 0, .int .i64 1, .int .i64 2147483578, .int .i64 2147483579, .int .i64 2, .int .i64 v] 2 (0, 0)) := by
      rw [ht3.1.block w2.heap.size (by simp) (by intro e; have := Option.some.inj e; omega), heap_alloc_new]
    have hcell := cell_of_row w3 w2.heap.size r _ _ (0, 0) hrow
    have hr7 : r < 7 := by omega
    obtain ⟨u, hu, huc⟩ : ∃ u : Int, (-9223372036854775808 ≤ u ∧ u ≤ 9223372036854775807) ∧ w3.cell? ⟨w2.heap.size, r, none⟩ = some (.int .i64 u) := by
      rw [hcell]
      have hq : r = 0 ∨ r = 1 ∨ r = 2 ∨ r = 3 ∨ r = 4 ∨ r = 5 ∨ r = 6 := by omega
      rcases hq with rfl | rfl | rfl | rfl | rfl | rfl | rfl
      · exact ⟨-1, by decide, rfl⟩
      · exact ⟨0, by decide, rfl⟩
      · exact ⟨1, by decide, rfl⟩
      · exact ⟨2147483578, by decide, rfl⟩
      · exact ⟨2147483579, by decide, rfl⟩
      · exact ⟨2, by decide, rfl⟩
      · exact ⟨v, hv, rfl⟩
    have q2 : (r : Int) < 7 := by omega
    clear hrow hcell hs3 ht3 hr
    go_wp2
    go_ret
    exact ⟨⟨u, hu, rfl⟩, H3.out, G3.out⟩
  · go_wp2_with fail
    refine (n_any g a len cap 5 _ (by omega) H1.out).mono ?_
    rintro e w2 ⟨r, rfl, hr, hs2, ht2⟩
    have H2 : Hid (Src g a len cap w2) := hs2
    have G2 : Hid (Grows g w w2) := G1.out.trans ht2.grows
    have hr' : (r : Int) ≤ 5 := by omega
    have hr2 : r ≤ 5 := by omega
    have e1 : (1 : Int) + (r : Int) = ((1 + r : Nat) : Int) := by omega
    have HC : Hid (∀ v : World, Calls Try.prog 38 #[.int .i64 4, .int .i64 ((1 + r : Nat) : Int), .int .i64 2147483579] v fun e w' => e = .returned (.int .i64 ((pm 4 (1 + r) 2147483579 : Nat) : Int)) ∧ w' = v) := fun v => specPow 4 (1 + r) 2147483579 v (by omega) (by omega) (by omega)
    have hz := pm_lt 4 (1 + r) (m := 2147483579) (by omega)
    generalize 1 + r = j at *
    generalize pm 4 j 2147483579 = z at *
    clear hs2 ht2 hr
    go_wp2_with fail
    refine (HC.out _).mono ?_
    rintro e w' ⟨rfl, rfl⟩
    go_wp2
    go_ret
    exact ⟨⟨_, by omega, rfl⟩, H2.out, G2.out⟩
/-- Some three numbers are answered. -/
def Any3 (e : Ending) : Prop := ∃ x y z : Int, ((-9223372036854775808 ≤ x ∧ x ≤ 9223372036854775807) ∧ (-9223372036854775808 ≤ y ∧ y ≤ 9223372036854775807) ∧ (-9223372036854775808 ≤ z ∧ z ≤ 9223372036854775807)) ∧ e = .returned (.tuple #[.int .i64 x, .int .i64 y, .int .i64 z])
/-- Some two numbers are answered. -/
def Any2 (e : Ending) : Prop := ∃ x y : Int, ((-9223372036854775808 ≤ x ∧ x ≤ 9223372036854775807) ∧ (-9223372036854775808 ≤ y ∧ y ≤ 9223372036854775807)) ∧ e = .returned (.tuple #[.int .i64 x, .int .i64 y])
set_option maxRecDepth 100000 in
theorem drawModMul (a : Option Addr) (len cap : Nat) (w : World) (hlen : len ≤ 1048576) (hc : CodeAt a len w) (hblk : ∀ x, 0 < len → a = some x → x.block < w.heap.size) :
    Calls Try.prog 10 #[.slice a len cap] w fun e w' => Any3 e ∧ Below w.heap.size w w' := by
  have HC : Hid (CodeAt a len w) := hc
  have HBk : Hid (∀ x, 0 < len → a = some x → x.block < w.heap.size) := hblk
  clear hc hblk
  go_enter Try.func10, Try.ntmps10
  go_wp2_with fail
  refine (source_any a len cap _ hlen HC.out HBk.out).mono ?_
  rintro e w1 ⟨rfl, hs1, hb1, hz1⟩
  have H1 : Hid (Src w.heap.size a len cap w1) := hs1
  have B1 : Hid (Below w.heap.size w w1) := hb1
  have z1 := hb1.size
  clear hs1 hb1
  go_wp2_with fail
  refine (num_any w.heap.size a len cap _ H1.out).mono ?_
  rintro e w2 ⟨⟨x, hx, rfl⟩, hs2, hg2⟩
  have H2 : Hid (Src w.heap.size a len cap w2) := hs2
  have B2 : Hid (Below w.heap.size w w2) := hg2.below B1.out (Nat.le_refl _) (by omega)
  have z2 := B2.out.size
  clear hs2 hg2
  go_wp2_with fail
  refine (num_any w.heap.size a len cap _ H2.out).mono ?_
  rintro e w3 ⟨⟨y, hy, rfl⟩, hs3, hg3⟩
  have H3 : Hid (Src w.heap.size a len cap w3) := hs3
  have B3 : Hid (Below w.heap.size w w3) := hg3.below B2.out (Nat.le_refl _) (by omega)
  have z3 := B3.out.size
  clear hs3 hg3
  go_wp2_with fail
  refine (modulus_any w.heap.size a len cap _ H3.out).mono ?_
  rintro e w4 ⟨⟨z, hz, rfl⟩, hs4, hg4⟩
  have B4 : Hid (Below w.heap.size w w4) := hg4.below B3.out (Nat.le_refl _) (by omega)
  clear hs4 hg4
  go_wp2
  go_ret3
  exact ⟨⟨x, y, z, ⟨hx, hy, hz⟩, rfl⟩, B4.out⟩
set_option maxRecDepth 100000 in
theorem drawGroupPow (a : Option Addr) (len cap : Nat) (w : World) (hlen : len ≤ 1048576) (hc : CodeAt a len w) (hblk : ∀ x, 0 < len → a = some x → x.block < w.heap.size) :
    Calls Try.prog 14 #[.slice a len cap] w fun e w' => Any2 e ∧ Below w.heap.size w w' := by
  have HC : Hid (CodeAt a len w) := hc
  have HBk : Hid (∀ x, 0 < len → a = some x → x.block < w.heap.size) := hblk
  clear hc hblk
  go_enter Try.func14, Try.ntmps14
  go_wp2_with fail
  refine (source_any a len cap _ hlen HC.out HBk.out).mono ?_
  rintro e w1 ⟨rfl, hs1, hb1, hz1⟩
  have H1 : Hid (Src w.heap.size a len cap w1) := hs1
  have B1 : Hid (Below w.heap.size w w1) := hb1
  have z1 := hb1.size
  clear hs1 hb1
  go_wp2_with fail
  refine (key_any w.heap.size a len cap _ H1.out).mono ?_
  rintro e w2 ⟨⟨x, hx, rfl⟩, hs2, hg2⟩
  have H2 : Hid (Src w.heap.size a len cap w2) := hs2
  have B2 : Hid (Below w.heap.size w w2) := hg2.below B1.out (Nat.le_refl _) (by omega)
  have z2 := B2.out.size
  clear hs2 hg2
  go_wp2_with fail
  refine (num_any w.heap.size a len cap _ H2.out).mono ?_
  rintro e w3 ⟨⟨y, hy, rfl⟩, hs3, hg3⟩
  have B3 : Hid (Below w.heap.size w w3) := hg3.below B2.out (Nat.le_refl _) (by omega)
  clear hs3 hg3
  go_wp2
  go_ret2
  exact ⟨⟨x, y, ⟨hx, hy⟩, rfl⟩, B3.out⟩
end Go.Proofs.Ytbkkjgpaccfplaa
