/- The draws' source and its bytes behind calls that leave them alone. -/
import Derived.Test.YtbkkjgpaccfplaaDoorSrcB
namespace Go.Proofs.YtbkkjgpaccfplaaDoor
open Go.RowKit

theorem CodeAt.below {a : Option Addr} {len B : Nat} {w w' : World} (h : CodeAt a len w) (hb : Below B w w') (hblk : ∀ x, 0 < len → a = some x → x.block < B) : CodeAt a len w' := by
  rcases h with h | ⟨b, off, rfl, hc⟩
  · exact .inl h
  · refine .inr ⟨b, off, rfl, fun i hi => ?_⟩
    obtain ⟨z, hz, hcell⟩ := hc i hi
    exact ⟨z, hz, (hb.cell (p := ⟨b, off + i, none⟩) (show b < B from hblk ⟨b, off, none⟩ (by omega) rfl)).trans hcell⟩
theorem Src.below {g : Nat} {a : Option Addr} {len cap B : Nat} {w w' : World} (h : Src g a len cap w) (hb : Below B w w') (hg : g < B) (hblk : ∀ x, 0 < len → a = some x → x.block < B) : Src g a len cap w' := by
  obtain ⟨p, m, z, hp, hm, hz, hh⟩ := h.at_
  exact ⟨⟨p, m, z, hp, hm, hz, (hb.block g hg).trans hh⟩, h.code.below hb hblk, h.ne, h.le⟩
end Go.Proofs.YtbkkjgpaccfplaaDoor
