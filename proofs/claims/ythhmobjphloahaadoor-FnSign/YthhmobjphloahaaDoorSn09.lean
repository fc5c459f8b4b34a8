/- '.l04Secret', 'spec.DrawSignText', 'spec.DrawGroupRight', walked: some numbers, a short text. What a walk is told of a slice of integers that came in. -/
import Derived.Test.YthhmobjphloahaaDoorSn08
import Derived.OwnWalk
import Derived.OpenShut
namespace Go.Proofs.YthhmobjphloahaaDoor
open Go.RowKit

set_option maxRecDepth 100000 in
set_option maxHeartbeats 1000000 in
theorem secret_any (g : Nat) (a : Option Addr) (len cap : Nat) (w : World) (hs : Src g a len cap w) :
    Calls Tryd.prog 55 #[.pointer (some ⟨g, 0, none⟩)] w fun e w' => AnyI e ∧ Src g a len cap w' ∧ Grows g w w' := by
  have hglt := hs.lt
  have HS : Hid (Src g a len cap w) := hs
  clear hs
  go_enter Tryd.func55, Tryd.ntmps55
  go_wp2_with fail
  refine (one_any g a len cap 20 _ (by omega) HS.out).mono ?_
  rintro e w1 ⟨hb, hs1, ht1⟩
  have H1 : Hid (Src g a len cap w1) := hs1
  have G1 : Hid (Grows g w w1) := ht1.grows
  have z1 : w1.heap.size = w.heap.size := ht1.2
  clear hs1 ht1
  rcases hb with rfl | rfl
  · go_wp2_with fail
    refine (edge_any g a len cap _ H1.out).mono ?_
    rintro e w2 ⟨⟨v, hv, rfl⟩, hs2, hg2⟩
    have H2 : Hid (Src g a len cap w2) := hs2
    have G2 : Hid (Grows g w w2) := G1.out.trans hg2
    have z2 : w.heap.size ≤ w2.heap.size := G2.out.size
    clear hs2 hg2
    go_wp2_with fail
    refine (n_any g a len cap 5 _ (by omega) (H2.out.alloc _)).mono ?_
    rintro e w3 ⟨r, rfl, hr, hs3, ht3⟩
    have H3 : Hid (Src g a len cap w3) := hs3
    have G3 : Hid (Grows g w w3) := (G2.out.alloc _).trans ht3.grows
    have hrow : w3.heap[w2.heap.size]? = some (.cells #[.int .i64 0, .int .i64 (-1), .int .i64 1073741788, .int .i64 1073741789, .int .i64 v] 2 (0, 0)) := by
      rw [ht3.1.block w2.heap.size (by simp) (by intro e; have := Option.some.inj e; omega), heap_alloc_new]
    have hcell := cell_of_row w3 w2.heap.size r _ _ (0, 0) hrow
    have hr7 : r < 5 := by omega
    obtain ⟨u, hu, huc⟩ : ∃ u : Int, (-9223372036854775808 ≤ u ∧ u ≤ 9223372036854775807) ∧ w3.cell? ⟨w2.heap.size, r, none⟩ = some (.int .i64 u) := by
      rw [hcell]
      have hq : r = 0 ∨ r = 1 ∨ r = 2 ∨ r = 3 ∨ r = 4 := by omega
      rcases hq with rfl | rfl | rfl | rfl | rfl
      · exact ⟨0, by decide, rfl⟩
      · exact ⟨-1, by decide, rfl⟩
      · exact ⟨1073741788, by decide, rfl⟩
      · exact ⟨1073741789, by decide, rfl⟩
      · exact ⟨v, hv, rfl⟩
    have q2 : (r : Int) < 5 := by omega
    clear hrow hcell hs3 ht3 hr
    go_wp2
    go_ret
    exact ⟨⟨u, hu, rfl⟩, H3.out, G3.out⟩
  · go_wp2_with fail
    refine (n_any g a len cap 6 _ (by omega) H1.out).mono ?_
    rintro e w2 ⟨r, rfl, hr, hs2, ht2⟩
    have H2 : Hid (Src g a len cap w2) := hs2
    have G2 : Hid (Grows g w w2) := G1.out.trans ht2.grows
    have hr' : (r : Int) ≤ 6 := by omega
    clear hs2 ht2 hr
    go_wp2
    go_ret
    exact ⟨⟨_, by omega, rfl⟩, H2.out, G2.out⟩
/-- Some number and some text of fewer than 40 bytes are answered. -/
def AnyIT (e : Ending) : Prop := ∃ (x : Int) (t : ByteArray), ((-9223372036854775808 ≤ x ∧ x ≤ 9223372036854775807) ∧ t.size ≤ 40) ∧ e = .returned (.tuple #[.int .i64 x, .string t])
set_option maxRecDepth 100000 in
theorem drawSignText (a : Option Addr) (len cap : Nat) (w : World) (hlen : len ≤ 1048576) (hc : CodeAt a len w) (hblk : ∀ x, 0 < len → a = some x → x.block < w.heap.size) :
    Calls Tryd.prog 24 #[.slice a len cap] w fun e w' => AnyIT e ∧ Below w.heap.size w w' := by
  have HC : Hid (CodeAt a len w) := hc
  have HBk : Hid (∀ x, 0 < len → a = some x → x.block < w.heap.size) := hblk
  clear hc hblk
  go_enter Tryd.func24, Tryd.ntmps24
  go_wp2_with fail
  refine (source_any a len cap _ hlen HC.out HBk.out).mono ?_
  rintro e w1 ⟨rfl, hs1, hb1, hz1⟩
  have H1 : Hid (Src w.heap.size a len cap w1) := hs1
  have B1 : Hid (Below w.heap.size w w1) := hb1
  have z1 := hb1.size
  clear hs1 hb1
  go_wp2_with fail
  refine (secret_any w.heap.size a len cap _ H1.out).mono ?_
  rintro e w2 ⟨⟨x, hx, rfl⟩, hs2, hg2⟩
  have H2 : Hid (Src w.heap.size a len cap w2) := hs2
  have B2 : Hid (Below w.heap.size w w2) := hg2.below B1.out (Nat.le_refl _) (by omega)
  have z2 := B2.out.size
  clear hs2 hg2
  go_wp2_with fail
  refine (n_any w.heap.size a len cap 40 _ (by omega) H2.out).mono ?_
  rintro e w3 ⟨r, rfl, hr, hs3, ht3⟩
  have H3 : Hid (Src w.heap.size a len cap w3) := hs3
  have B3 : Hid (Below w.heap.size w w3) := ht3.grows.below B2.out (Nat.le_refl _) (by omega)
  have z3 := B3.out.size
  have hr' : r ≤ 40 := by omega
  have K3 : Hid (∀ x, 0 < len → a = some x → x.block < w3.heap.size) := fun x h0 hx => by have := HBk.out x h0 hx; omega
  clear hs3 ht3 hr
  go_wp2_with fail
  refine (bytes_any w.heap.size a len cap r _ (by omega) H3.out K3.out).mono ?_
  rintro e w4 ⟨⟨t, ht, rfl⟩, hs4, hg4⟩
  have B4 : Hid (Below w.heap.size w w4) := hg4.below B3.out (Nat.le_refl _) (by omega)
  clear hs4 hg4
  go_wp2
  go_ret2
  exact ⟨⟨x, t, ⟨hx, by omega⟩, rfl⟩, B4.out⟩
set_option maxRecDepth 100000 in
theorem drawGroupRight (a : Option Addr) (len cap : Nat) (w : World) (hlen : len ≤ 1048576) (hc : CodeAt a len w) (hblk : ∀ x, 0 < len → a = some x → x.block < w.heap.size) :
    Calls Tryd.prog 29 #[.slice a len cap] w fun e w' => AnyI e ∧ Below w.heap.size w w' := by
  have HC : Hid (CodeAt a len w) := hc
  have HBk : Hid (∀ x, 0 < len → a = some x → x.block < w.heap.size) := hblk
  clear hc hblk
  go_enter Tryd.func29, Tryd.ntmps29
  go_wp2_with fail
  refine (source_any a len cap _ hlen HC.out HBk.out).mono ?_
  rintro e w1 ⟨rfl, hs1, hb1, hz1⟩
  have H1 : Hid (Src w.heap.size a len cap w1) := hs1
  have B1 : Hid (Below w.heap.size w w1) := hb1
  have z1 := hb1.size
  clear hs1 hb1
  go_wp2_with fail
  refine (one_any w.heap.size a len cap 3 _ (by omega) H1.out).mono ?_
  rintro e w2 ⟨hb, hs2, ht2⟩
  have H2 : Hid (Src w.heap.size a len cap w2) := hs2
  have B2 : Hid (Below w.heap.size w w2) := ht2.grows.below B1.out (Nat.le_refl _) (by omega)
  have z2 := B2.out.size
  clear hs2 ht2
  rcases hb with rfl | rfl
  · go_wp2_with fail
    refine (num_any w.heap.size a len cap _ H2.out).mono ?_
    rintro e w3 ⟨⟨x, hx, rfl⟩, hs3, hg3⟩
    have B3 : Hid (Below w.heap.size w w3) := hg3.below B2.out (Nat.le_refl _) (by omega)
    clear hs3 hg3
    go_wp2
    go_ret
    exact ⟨⟨x, hx, rfl⟩, B3.out⟩
  · go_wp2_with fail
    refine (key_any w.heap.size a len cap _ H2.out).mono ?_
    rintro e w3 ⟨⟨x, hx, rfl⟩, hs3, hg3⟩
    have B3 : Hid (Below w.heap.size w w3) := hg3.below B2.out (Nat.le_refl _) (by omega)
    clear hs3 hg3
    go_wp2
    go_ret
    exact ⟨⟨x, hx, rfl⟩, B3.out⟩
end Go.Proofs.YthhmobjphloahaaDoor
namespace Go.Proofs.YthhmobjphloahaaDoor
open Go.RowKit

/-- It is nil; or it leads to a row of 'cap' cells, the numbers 'zs', the first 'len' being its elements, each fitting its kind. -/
def IsRow (k : IntKind) (w : World) (a : Option Addr) (len cap : Nat) (zs : List Int) : Prop :=
  (a = none ∧ len = 0 ∧ cap = 0 ∧ zs = []) ∨
  ∃ x, a = some x ∧ len ≤ cap ∧ cap ≤ maxLen ∧ zs.length = cap ∧ (∀ i, i < zs.length → w.cell? (x.add i) = some (.int k (zs.getD i 0))) ∧ ∀ n ∈ zs, (Lit.int k n).wf = true
theorem IsRow.code {w : World} {a : Option Addr} {len cap : Nat} {zs : List Int} (h : IsRow .u8 w a len cap zs) : CodeAt a len w ∧ ∀ x, 0 < len → a = some x → x.block < w.heap.size := by
  rcases h with ⟨rfl, rfl, _, _⟩ | ⟨x, rfl, hl, _, hz, hc, hw⟩
  · exact ⟨.inl rfl, fun x h => by omega⟩
  by_cases h0 : len = 0
  · exact ⟨.inl h0, fun x h => by omega⟩
  obtain ⟨b, off, spot⟩ := x
  have hc0 := hc 0 (by omega)
  have hspot : spot = none := by simpa [Addr.add] using World.cell?_spot hc0
  subst hspot
  refine ⟨.inr ⟨b, off, rfl, fun i hi => ?_⟩, fun x _ hx => ?_⟩
  · have h1 := hc i (by omega)
    have hm : zs.getD i 0 ∈ zs := by
      rw [List.getD, List.getElem?_eq_getElem (show i < zs.length by omega)]
      exact List.getElem_mem _
    have hb := bounds_u8 (hw _ hm)
    refine ⟨(zs.getD i 0).toNat, by omega, ?_⟩
    rw [Int.toNat_of_nonneg hb.1]
    rw [Addr.add_lit] at h1
    exact h1
  · cases hx
    have := World.block_lt_of_cell? w _ hc0
    simpa [Addr.add] using this
theorem IsRow.len_le {k : IntKind} {w : World} {a : Option Addr} {len cap : Nat} {zs : List Int} (h : IsRow k w a len cap zs) : len ≤ maxLen := by
  rcases h with ⟨_, rfl, _, _⟩ | ⟨_, _, hl, hm, _⟩
  · exact Nat.zero_le _
  · omega
end Go.Proofs.YthhmobjphloahaaDoor
