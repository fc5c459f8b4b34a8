/- 'spec.DrawHex', 'spec.DrawHexRead', walked: some text of few bytes; nothing that was there turns. -/
import Derived.Test.YtdckeokfcckemaaSrcD
import Derived.Test.YtdckeokfcckemaaHexA
namespace Go.Proofs.Ytdckeokfcckemaa
open Go.RowKit

theorem drawHex (a : Option Addr) (len cap : Nat) (w : World) (hlen : len ≤ 1048576) (hc : CodeAt a len w) (hblk : ∀ x, 0 < len → a = some x → x.block < w.heap.size) :
    Calls Try.prog 4 #[.slice a len cap] w fun e w' => UpT 20 e ∧ Below w.heap.size w w' := by
  have HC : Hid (CodeAt a len w) := hc
  have HBk : Hid (∀ x, 0 < len → a = some x → x.block < w.heap.size) := hblk
  clear hc hblk
  go_enter Try.func4, Try.ntmps4
  go_wp2_with fail
  refine (source_any a len cap _ hlen HC.out HBk.out).mono ?_
  rintro e w1 ⟨rfl, hs1, hb1, hz1⟩
  have H1 : Hid (Src w.heap.size a len cap w1) := hs1
  have B1 : Hid (Below w.heap.size w w1) := hb1
  clear hs1 hb1
  go_wp2_with fail
  refine (n_any w.heap.size a len cap 20 _ (by omega) H1.out).mono ?_
  rintro e w2 ⟨r, rfl, hr, hs2, ht2⟩
  have hr' : r < 20 := by omega
  have hz2 : w2.heap.size = w.heap.size + 1 := by rw [ht2.2, hz1]
  have H2 : Hid (Src w.heap.size a len cap w2) := hs2
  have B2 : Hid (Below w.heap.size w w2) := ht2.below B1.out (Nat.le_refl _) (by omega)
  have HB2 : Hid (∀ x, 0 < len → a = some x → x.block < w2.heap.size) := fun x h0 hx => by have := HBk.out x h0 hx; omega
  clear hr hs2 ht2
  go_wp2_with fail
  refine (bytes_any w.heap.size a len cap r _ (by omega) H2.out HB2.out).mono ?_
  rintro e w3 ⟨⟨t, ht, rfl⟩, hs3, hg3⟩
  have B3 : Hid (Below w.heap.size w w3) := hg3.below B2.out (Nat.le_refl _) (by omega)
  clear hs3 hg3
  go_wp2
  go_ret
  exact ⟨⟨t, by omega, rfl⟩, B3.out⟩
theorem CodeAt.below {a : Option Addr} {len B : Nat} {w w' : World} (h : CodeAt a len w) (hb : Below B w w') (hblk : ∀ x, 0 < len → a = some x → x.block < B) : CodeAt a len w' := by
  rcases h with h | ⟨b, off, rfl, hc⟩
  · exact .inl h
  · refine .inr ⟨b, off, rfl, fun i hi => ?_⟩
    obtain ⟨z, hz, hcell⟩ := hc i hi
    exact ⟨z, hz, (hb.cell (p := ⟨b, off + i, none⟩) (show b < B from hblk ⟨b, off, none⟩ (by omega) rfl)).trans hcell⟩
theorem Src.below {g : Nat} {a : Option Addr} {len cap B : Nat} {w w' : World} (h : Src g a len cap w) (hb : Below B w w') (hg : g < B) (hblk : ∀ x, 0 < len → a = some x → x.block < B) : Src g a len cap w' := by
  obtain ⟨p, m, z, hp, hm, hz, hh⟩ := h.at_
  exact ⟨⟨p, m, z, hp, hm, hz, (hb.block g hg).trans hh⟩, h.code.below hb hblk, h.ne, h.le⟩
set_option maxHeartbeats 1000000 in
theorem drawHexRead (a : Option Addr) (len cap : Nat) (w : World) (hlen : len ≤ 1048576) (hc : CodeAt a len w) (hblk : ∀ x, 0 < len → a = some x → x.block < w.heap.size) :
    Calls Try.prog 5 #[.slice a len cap] w fun e w' => UpT 20 e ∧ Below w.heap.size w w' := by
  have HC : Hid (CodeAt a len w) := hc
  have HBk : Hid (∀ x, 0 < len → a = some x → x.block < w.heap.size) := hblk
  clear hc hblk
  go_enter Try.func5, Try.ntmps5
  go_wp2_with fail
  refine (source_any a len cap _ hlen HC.out HBk.out).mono ?_
  rintro e w1 ⟨rfl, hs1, hb1, hz1⟩
  have H1 : Hid (Src w.heap.size a len cap w1) := hs1
  have B1 : Hid (Below w.heap.size w w1) := hb1
  clear hs1 hb1
  go_wp2_with fail
  refine (n_any w.heap.size a len cap 9 _ (by omega) H1.out).mono ?_
  rintro e w2 ⟨r, rfl, hr, hs2, ht2⟩
  have hr' : r < 9 := by omega
  have hz2 : w2.heap.size = w.heap.size + 1 := by rw [ht2.2, hz1]
  have H2 : Hid (Src w.heap.size a len cap w2) := hs2
  have B2 : Hid (Below w.heap.size w w2) := ht2.below B1.out (Nat.le_refl _) (by omega)
  have HB2 : Hid (∀ x, 0 < len → a = some x → x.block < w2.heap.size) := fun x h0 hx => by have := HBk.out x h0 hx; omega
  clear hr hs2 ht2
  go_wp2_with fail
  refine (bytes_any w.heap.size a len cap r _ (by omega) H2.out HB2.out).mono ?_
  rintro e w3 ⟨⟨t, ht, rfl⟩, hs3, hg3⟩
  have H3 : Hid (Src w.heap.size a len cap w3) := hs3
  have B3 : Hid (Below w.heap.size w w3) := hg3.below B2.out (Nat.le_refl _) (by omega)
  have hz3 : w.heap.size + 1 ≤ w3.heap.size := by have := hg3.size; omega
  clear hs3 hg3
  go_wp2_with fail
  refine (specHex t _ (by omega)).mono ?_
  rintro e w4 ⟨rfl, hb4⟩
  have hz4 : w.heap.size + 1 ≤ w4.heap.size := by have := hb4.size; omega
  have H4 : Hid (Src w.heap.size a len cap w4) := H3.out.below hb4 (by omega) (fun x h0 hx => by have := HBk.out x h0 hx; omega)
  have B4 : Hid (Below w.heap.size w w4) := B3.out.trans (hb4.mono (by omega))
  have HB4 : Hid (∀ x, 0 < len → a = some x → x.block < w4.heap.size) := fun x h0 hx => by have := HBk.out x h0 hx; omega
  have hsz : (strOfNums (hexL t.data.toList)).size ≤ 16 := by
    have e1 := hexL_len t.data.toList
    have e2 := Go.Lib.size_eq t
    simp only [strOfNums, ByteArray.size, List.size_toArray, List.length_map]
    omega
  generalize strOfNums (hexL t.data.toList) = u at *
  clear hb4
  go_wp2_with fail
  refine (one_any w.heap.size a len cap 3 _ (by omega) H4.out).mono ?_
  rintro e w5 ⟨hb, hs5, ht5⟩
  have hz5 : w.heap.size + 1 ≤ w5.heap.size := by rw [ht5.2]; omega
  have H5 : Hid (Src w.heap.size a len cap w5) := hs5
  have B5 : Hid (Below w.heap.size w w5) := ht5.below B4.out (Nat.le_refl _) (by omega)
  have HB5 : Hid (∀ x, 0 < len → a = some x → x.block < w5.heap.size) := fun x h0 hx => by have := HBk.out x h0 hx; omega
  clear hs5 ht5
  rcases hb with rfl | rfl
  · go_wp2_with fail
    refine (spoil_any w.heap.size a len cap u _ (by omega) H5.out HB5.out).mono ?_
    rintro e w6 ⟨⟨v, hv, rfl⟩, hs6, hg6⟩
    have B6 : Hid (Below w.heap.size w w6) := hg6.below B5.out (Nat.le_refl _) (by omega)
    clear hs6 hg6
    go_wp2
    go_ret
    exact ⟨⟨v, by omega, rfl⟩, B6.out⟩
  · go_wp2
    go_ret
    exact ⟨⟨u, by omega, rfl⟩, B5.out⟩
end Go.Proofs.Ytdckeokfcckemaa
