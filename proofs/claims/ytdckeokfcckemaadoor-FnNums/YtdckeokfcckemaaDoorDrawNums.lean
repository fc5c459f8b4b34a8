/- '.edge', '.l01Any', 'spec.DrawPutNum', 'spec.DrawPutText', walked. -/
import Derived.Test.YtdckeokfcckemaaDoorSrcC
namespace Go.Proofs.YtdckeokfcckemaaDoor
open Go.RowKit

/-- Some number of its kind is answered. -/
def AnyI (e : Ending) : Prop := ∃ v : Int, (-9223372036854775808 ≤ v ∧ v ≤ 9223372036854775807) ∧ e = .returned (.int .i64 v)
/-- Some text of at most k bytes is answered. -/
def UpTo (k : Nat) (e : Ending) : Prop := ∃ t : ByteArray, t.size ≤ k ∧ e = .returned (.string t)
set_option maxRecDepth 100000 in
set_option maxHeartbeats 1000000 in
theorem edge_any (g : Nat) (a : Option Addr) (len cap : Nat) (w : World) (hs : Src g a len cap w) :
    Calls Tryd.prog 24 #[.pointer (some ⟨g, 0, none⟩)] w fun e w' => AnyI e ∧ Src g a len cap w' ∧ Grows g w w' := by
  have hglt := hs.lt
  have HS : Hid (Src g a len cap w) := hs
  clear hs
  go_enter Tryd.func24, Tryd.ntmps24
  go_wp2_with fail
  refine (n_any g a len cap 14 _ (by omega) (HS.out.alloc _)).mono ?_
  rintro e w1 ⟨r, rfl, hr, hs1, ht1⟩
  have H1 : Hid (Src g a len cap w1) := hs1
  have G1 : Hid (Grows g w w1) := ((Grows.refl g w).alloc _).trans ht1.grows
  have hrow : w1.heap[w.heap.size]? = some (.cells #[.int .i64 0, .int .i64 1, .int .i64 (-1), .int .i64 2, .int .i64 1000, .int .i64 1001, .int .i64 2147483648, .int .i64 2147483647, .int .i64 (-2147483648), .int .i64 4611686018427387904, .int .i64 9223372036854775807, .int .i64 (-9223372036854775808), .int .i64 1000000, .int .i64 1000001] 2 (0, 0)) := by
    rw [ht1.1.block w.heap.size (by simp) (by intro e; have := Option.some.inj e; omega), heap_alloc_new]
  have hcell := cell_of_row w1 w.heap.size r _ _ (0, 0) hrow
  have hr14 : r < 14 := by omega
  obtain ⟨v, hv, hvc⟩ : ∃ v : Int, (-9223372036854775808 ≤ v ∧ v ≤ 9223372036854775807) ∧ w1.cell? ⟨w.heap.size, r, none⟩ = some (.int .i64 v) := by
    rw [hcell]
    have hq : r = 0 ∨ r = 1 ∨ r = 2 ∨ r = 3 ∨ r = 4 ∨ r = 5 ∨ r = 6 ∨ r = 7 ∨ r = 8 ∨ r = 9 ∨ r = 10 ∨ r = 11 ∨ r = 12 ∨ r = 13 := by omega
    rcases hq with rfl | rfl | rfl | rfl | rfl | rfl | rfl | rfl | rfl | rfl | rfl | rfl | rfl | rfl <;> exact ⟨_, by decide, rfl⟩
  have q2 : (r : Int) < 14 := by omega
  clear hrow hcell hs1 ht1 hr
  go_wp2
  go_ret
  exact ⟨⟨v, hv, rfl⟩, H1.out, G1.out⟩
theorem any_any (g : Nat) (a : Option Addr) (len cap : Nat) (w : World) (hs : Src g a len cap w) :
    Calls Tryd.prog 13 #[.pointer (some ⟨g, 0, none⟩)] w fun e w' => AnyI e ∧ Src g a len cap w' ∧ Grows g w w' := by
  have HS : Hid (Src g a len cap w) := hs
  clear hs
  go_enter Tryd.func13, Tryd.ntmps13
  go_wp2_with fail
  refine (one_any g a len cap 4 _ (by omega) HS.out).mono ?_
  rintro e w1 ⟨hb, hs1, ht1⟩
  have H1 : Hid (Src g a len cap w1) := hs1
  have G1 : Hid (Grows g w w1) := ht1.grows
  clear hs1 ht1
  rcases hb with rfl | rfl
  · go_wp2_with fail
    refine (edge_any g a len cap _ H1.out).mono ?_
    rintro e w2 ⟨⟨v, hv, rfl⟩, hs2, hg2⟩
    have H2 : Hid (Src g a len cap w2) := hs2
    have G2 : Hid (Grows g w w2) := G1.out.trans hg2
    clear hs2 hg2
    go_wp2
    go_ret
    exact ⟨⟨v, hv, rfl⟩, H2.out, G2.out⟩
  · go_wp2_with fail
    refine (n_any g a len cap 1099511627776 _ (by omega) H1.out).mono ?_
    rintro e w2 ⟨r, rfl, hr, hs2, ht2⟩
    have H2 : Hid (Src g a len cap w2) := hs2
    have G2 : Hid (Grows g w w2) := G1.out.trans ht2.grows
    have hr' : (r : Int) ≤ 1099511627776 := by omega
    clear hs2 ht2 hr
    go_wp2
    go_ret
    exact ⟨⟨_, by omega, rfl⟩, H2.out, G2.out⟩
theorem drawPutNum (a : Option Addr) (len cap : Nat) (w : World) (hlen : len ≤ 1048576) (hc : CodeAt a len w) (hblk : ∀ x, 0 < len → a = some x → x.block < w.heap.size) :
    Calls Tryd.prog 4 #[.slice a len cap] w fun e w' => AnyI e ∧ Below w.heap.size w w' := by
  have HC : Hid (CodeAt a len w) := hc
  have HBk : Hid (∀ x, 0 < len → a = some x → x.block < w.heap.size) := hblk
  clear hc hblk
  go_enter Tryd.func4, Tryd.ntmps4
  go_wp2_with fail
  refine (source_any a len cap _ hlen HC.out HBk.out).mono ?_
  rintro e w1 ⟨rfl, hs1, hb1, hz1⟩
  have H1 : Hid (Src w.heap.size a len cap w1) := hs1
  have B1 : Hid (Below w.heap.size w w1) := hb1
  clear hs1 hb1
  go_wp2_with fail
  refine (any_any w.heap.size a len cap _ H1.out).mono ?_
  rintro e w2 ⟨⟨v, hv, rfl⟩, hs2, hg2⟩
  have B2 : Hid (Below w.heap.size w w2) := hg2.below B1.out (Nat.le_refl _) (by omega)
  clear hs2 hg2
  go_wp2
  go_ret
  exact ⟨⟨v, hv, rfl⟩, B2.out⟩
theorem made_bytes (n : Nat) : (madeCells #[Value.int IntKind.u8 0] n).toList = (List.replicate n (0 : Int)).map (Value.int .u8) := by
  rw [toList_madeCells_one, List.map_replicate]
set_option maxHeartbeats 1000000 in
theorem drawPutText (a : Option Addr) (len cap : Nat) (w : World) (hlen : len ≤ 1048576) (hc : CodeAt a len w) (hblk : ∀ x, 0 < len → a = some x → x.block < w.heap.size) :
    Calls Tryd.prog 8 #[.slice a len cap] w fun e w' => UpTo 20001 e ∧ Below w.heap.size w w' := by
  obtain ⟨i0, hi, hz0, hz1', hz2'⟩ := info_parts infoByte
  have HC : Hid (CodeAt a len w) := hc
  have HBk : Hid (∀ x, 0 < len → a = some x → x.block < w.heap.size) := hblk
  clear hc hblk
  go_enter Tryd.func8, Tryd.ntmps8
  go_wp2_with fail
  refine (source_any a len cap _ hlen HC.out HBk.out).mono ?_
  rintro e w1 ⟨rfl, hs1, hb1, hz1⟩
  have H1 : Hid (Src w.heap.size a len cap w1) := hs1
  have B1 : Hid (Below w.heap.size w w1) := hb1
  clear hs1 hb1
  go_wp2_with fail
  refine (one_any w.heap.size a len cap 8 _ (by omega) H1.out).mono ?_
  rintro e w2 ⟨hb, hs2, ht2⟩
  have hz2 : w2.heap.size = w.heap.size + 1 := by rw [ht2.2, hz1]
  have H2 : Hid (Src w.heap.size a len cap w2) := hs2
  have B2 : Hid (Below w.heap.size w w2) := ht2.below B1.out (Nat.le_refl _) (by omega)
  clear hs2 ht2
  rcases hb with rfl | rfl
  · go_wp2_with fail
    refine (n_any w.heap.size a len cap 3 _ (by omega) H2.out).mono ?_
    rintro e w3 ⟨r, rfl, hr, hs3, ht3⟩
    have hz3 : w3.heap.size = w.heap.size + 1 := by rw [ht3.2, hz2]
    have B3 : Hid (Below w.heap.size w w3) := ht3.below B2.out (Nat.le_refl _) (by omega)
    have hr3 : r ≤ 2 := by omega
    clear hs3 ht3 hr
    go_wp2_with (at_make; refine wpList_make_full _ rfl _ _ 22 rfl w3.heap.size 5 i0 (.int .u8 0) 1 Tryd.underlying22 hi hz0 hz1' .i64 .i64 _ _ (19999 + r) rfl rfl ?c1 ?c2 ?c3 ?c4 ?c5 ?_)
    case c1 => omega
    case c2 => omega
    case c3 => rw [hz2']; omega
    case c4 => unfold maxLen; omega
    case c5 => exact Nat.le_refl _
    intro w4 hown hgrow
    have B4 : Hid (Below w.heap.size w w4) := B3.out.grown hgrow (by omega) (fun k hk => by cases hk)
    rw [made_bytes] at hown
    have hcv := run_convert_own (P := Tryd.prog) (src := 22) (dst := 9) Tryd.underlying22 Tryd.underlying5 Tryd.underlying9 hown
    have hsz : (strOfNums (List.replicate (19999 + r) (0 : Int))).size ≤ 20001 := by rw [size_nums, List.length_replicate]; omega
    generalize strOfNums (List.replicate (19999 + r) (0 : Int)) = u at *
    clear hown hgrow
    go_wp2
    go_ret
    exact ⟨⟨u, hsz, rfl⟩, B4.out⟩
  · go_wp2_with fail
    refine (n_any w.heap.size a len cap 20 _ (by omega) H2.out).mono ?_
    rintro e w3 ⟨r, rfl, hr, hs3, ht3⟩
    have hr' : r < 20 := by omega
    have hz3 : w3.heap.size = w.heap.size + 1 := by rw [ht3.2, hz2]
    have H3 : Hid (Src w.heap.size a len cap w3) := hs3
    have B3 : Hid (Below w.heap.size w w3) := ht3.below B2.out (Nat.le_refl _) (by omega)
    have HB3 : Hid (∀ x, 0 < len → a = some x → x.block < w3.heap.size) := fun x h0 hx => by have := HBk.out x h0 hx; omega
    clear hr hs3 ht3
    go_wp2_with fail
    refine (bytes_any w.heap.size a len cap r _ (by omega) H3.out HB3.out).mono ?_
    rintro e w4 ⟨⟨t, ht, rfl⟩, hs4, hg4⟩
    have B4 : Hid (Below w.heap.size w w4) := hg4.below B3.out (Nat.le_refl _) (by omega)
    clear hs4 hg4
    go_wp2
    go_ret
    exact ⟨⟨t, by omega, rfl⟩, B4.out⟩
end Go.Proofs.YtdckeokfcckemaaDoor
