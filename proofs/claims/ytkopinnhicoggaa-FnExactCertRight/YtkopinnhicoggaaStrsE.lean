/- laws.eqStringS, walked. -/
import Derived.Test.YtkopinnhicoggaaStrs
namespace Go.Proofs.Ytkopinnhicoggaa
open Go.RowKit

set_option maxHeartbeats 1000000 in
set_option maxRecDepth 100000 in
theorem eqStrs (a b : Option Addr) (zs : List ByteArray) (c d : Nat) (w : World) (hl : zs.length ≤ 2000000) (ha : IsStrs w a zs) (hb : IsStrs w b zs) :
    Calls Try.prog 22 #[.slice a zs.length c, .slice b zs.length d] w fun e w' => e = .returned (.bool true) ∧ Below w.heap.size w w' := by
  go_enter Try.func22, Try.ntmps22
  go_wp2
  go_loopw [5] (fun i wr => ∃ k : Nat, k ≤ zs.length ∧ i = .int .i64 k ∧ Below w.heap.size w wr) (fun i _ => zs.length - (intOf i).toNat)
  case atStart => exact ⟨0, Nat.zero_le _, rfl, Below.refl _ _⟩
  case round =>
    obtain ⟨k, hk, rfl, hbr⟩ := hrel
    by_cases hlt : k < zs.length
    · obtain ⟨x, o, rfl, hc⟩ : ∃ x o, a = some ⟨x, o, none⟩ ∧ ∀ i, i < zs.length → wr.cell? ⟨x, o + i, none⟩ = some (.string (tAt zs i)) := by
        rcases ha.below hbr ha.lt with rfl | h
        · simp at hlt
        · exact h
      obtain ⟨y, p, rfl, hd⟩ : ∃ x o, b = some ⟨x, o, none⟩ ∧ ∀ i, i < zs.length → wr.cell? ⟨x, o + i, none⟩ = some (.string (tAt zs i)) := by
        rcases hb.below hbr hb.lt with rfl | h
        · simp at hlt
        · exact h
      have hck := hc k hlt
      have hdk := hd k hlt
      have HB : Hid (Below w.heap.size w wr) := hbr
      generalize tAt zs k = z at hck hdk
      generalize hn : zs.length = n at *
      clear hc hd ha hb hbr hn
      go_wp2
      go_quiet (fail)
      go_wp2
      go_roundw
      case rel => exact ⟨k + 1, by omega, by go_num, below_drewN HB.out _⟩
      case measure => simp [intOf]; omega
    · go_wp2
      go_ret
      exact ⟨rfl, hbr⟩
end Go.Proofs.Ytkopinnhicoggaa
