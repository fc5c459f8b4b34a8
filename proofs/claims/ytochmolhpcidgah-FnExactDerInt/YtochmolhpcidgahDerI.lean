/- spec.l05Bytes, walked. -/
import Derived.Test.YtochmolhpcidgahBase
import Derived.Test.YtochmolhpcidgahDerQ
namespace Go.Proofs.Ytochmolhpcidgah
open Go.RowKit Go.Lib

theorem own_slice {w : World} {B e n : Nat} {v : Value} {xs : List Value} (h : w.ownsRow B e 1 v n xs) (hn : 0 < n) : ∃ g cap, v = .slice (some ⟨g, 0, none⟩) n cap := by
  rcases h.2 with ⟨_, h'⟩ | ⟨g, cap, _, h', _⟩
  · omega
  · exact ⟨g, cap, h'⟩
def sLen : Value → Nat
  | .slice _ n _ => n
  | _ => 0
set_option maxHeartbeats 1000000 in
set_option maxRecDepth 100000 in
theorem specBytes (n : Int) (w : World) (h0 : -9223372036854775808 ≤ n) (h1 : n ≤ 9223372036854775807) :
    Calls Try.prog 22 #[.int .i64 n] w fun e w' => e = .returned (.string (strOfNums (intL n))) ∧ Below w.heap.size w w' := by
  obtain ⟨i0, hi, hz0, hz1, hz2⟩ := info_parts infoByte
  have hF := fits7 h0 h1
  go_enter Try.func22, Try.ntmps22
  go_wp2_with fail
  go_loopw [3, 4] (fun b r wr => ∃ (m : Int) (f g c : Nat) (tl : List Int), Fits f m ∧ -9223372036854775808 ≤ m ∧ m ≤ 9223372036854775807 ∧ f + tl.length ≤ 7 ∧ b = .slice (some ⟨g, 0, none⟩) (tl.length + 1) c ∧ r = .int .i64 (m / 256) ∧
      wr.ownsRow w.heap.size 5 1 (.slice (some ⟨g, 0, none⟩) (tl.length + 1) c) (tl.length + 1) ((m % 256 :: tl).map (Value.int .u8)) ∧ Below w.heap.size w wr ∧ w.heap.size ≤ wr.heap.size ∧ intF f m ++ tl = intL n)
    (fun b _ _ => 10 - sLen b)
  case atStart =>
    exact ⟨n, 7, _, 1, [], hF, h0, h1, by simp, rfl, rfl, World.ownsRow_lit _ _ 1 (Nat.le_refl _) (by decide) rfl, (Below.refl _ _).alloc (Nat.le_refl _) _, by simp, by simp [intL]⟩
  case round =>
    obtain ⟨m, f, g, c, tl, hf, m0, m1, hlen, rfl, rfl, hown, hbel, hsz, heq⟩ := hrel
    have c0 : wr.cell? ⟨g, 0, none⟩ = some (.int .u8 (m % 256)) := by have := hown.cellAt 0 (by omega); simpa using this
    have HE : Hid (intF f m ++ tl = intL n) := heq
    have HF : Hid (Fits f m) := hf
    obtain ⟨q, hq⟩ : ∃ q, q = m / 256 := ⟨_, rfl⟩
    obtain ⟨r, hr⟩ : ∃ r, r = m % 256 := ⟨_, rfl⟩
    have q0 : -9223372036854775808 ≤ q := by omega
    have q1 : q ≤ 9223372036854775807 := by omega
    have r0 : 0 ≤ r := by omega
    have r1 : r < 256 := by omega
    have HM : Hid (q = m / 256 ∧ r = m % 256) := ⟨hq, hr⟩
    rw [← hq]
    rw [← hr] at c0 hown
    by_cases hst : -128 ≤ m ∧ m < 128
    · have HS : Hid (intL n = r :: tl) := by
        show _ = _
        rw [← HE.out, intF_last hst.1 hst.2, hr]; rfl
      have hcv := run_convert_own (P := Try.prog) (src := 53) (dst := 9) Try.underlying53 Try.underlying5 Try.underlying9 hown
      have hc : (q = 0 ∧ r < 128) ∨ (q = -1 ∧ 128 ≤ r) := by omega
      clear hq hr hst heq hf m0 m1 hF h0 h1 hown HE HF HM
      rcases hc with ⟨rfl, hc⟩ | ⟨rfl, hc⟩
      all_goals
        go_wp2
        go_ret
        exact ⟨by rw [HS.out]; rfl, hbel⟩
    · have hc : (q = 0 ∧ decide (r < 128) = false ∧ decide (128 ≤ r) = true) ∨ (q = -1 ∧ decide (r < 128) = true ∧ decide (128 ≤ r) = false) ∨ ((q == 0) = false ∧ (q == -1) = false) := by simp; omega
      have HN : Hid (¬(-128 ≤ m ∧ m < 128)) := hst
      have HSRC : Hid (∀ j u, ((r :: tl).map (Value.int .u8))[j]? = some u → wr.cell? ⟨g, j, none⟩ = some u) := fun j u hj => by
        rw [hown.cellAt j (by
          rcases Nat.lt_or_ge j (tl.length + 1) with h | h
          · omega
          · rw [List.getElem?_eq_none (by simpa using h)] at hj; cases hj)]
        exact hj
      clear hq hr hst heq hf m0 m1 hF h0 h1
      have hlt := (hown.lt g rfl).2
      rcases hc with ⟨rfl, hc, hc'⟩ | ⟨rfl, hc, hc'⟩ | ⟨hc, hc'⟩
      all_goals
        go_wp2_with (at_builtin; refine wpList_append_own _ rfl _ _ 53 rfl w.heap.size 5 i0 (.int .u8 0) 1 1 Try.underlying53 hi hz0 hz1 hz2 rfl (by decide) _ 1 _ rfl (World.ownsRow_lit _ _ 1 hsz (by decide) rfl) ⟨g, 0, none⟩ (tl.length + 1) c ((r :: tl).map (Value.int .u8)) rfl (by simp) ?c1 ?c2 ?c3 ?c4 ?c5 ?_)
        case c1 =>
          intro j u hj
          rw [Addr.add_lit, Nat.zero_add, World.cell?_alloc_lt _ _ ⟨g, j, none⟩ hlt]
          exact HSRC.out j u hj
        case c2 => intro u hu; exact oneCell_ints .u8 _ u hu
        case c3 => unfold maxLen; omega
        case c4 => omega
        case c5 => simp; omega
        intro v' w1 hown' hgrow hx
        obtain ⟨g', cap, rfl⟩ := own_slice hown' (by omega)
        have hb1 : Below w.heap.size w w1 := (hbel.alloc hsz _).grown hgrow (by simp; omega) (fun k hk => (World.ownsRow_lit (base := w.heap.size) (e := 5) (size := 1) wr #[.int .u8 0] 1 hsz (by decide) rfl).lt k hk |>.1)
        have hs1 : w.heap.size ≤ w1.heap.size := hb1.size
        have HO : Hid (w1.ownsRow w.heap.size 5 1 (.slice (some ⟨g', 0, none⟩) ((r :: tl).length + 1) cap) ((r :: tl).length + 1) (((m / 256) % 256 :: r :: tl).map (Value.int .u8))) := by
          show World.ownsRow _ _ _ _ _ _ _
          rw [← HM.out.1]
          have e1 : 1 + (tl.length + 1) = (r :: tl).length + 1 := by simp; omega
          rw [e1] at hown'
          simpa using hown'
        have hw : 1 + (tl.length + 1) = (r :: tl).length + 1 := by simp; omega
        rw [hw]
        clear hown' hgrow hx hown hbel hlt HSRC
        go_wp2
        go_roundw
        case rel =>
          obtain ⟨f', rfl, hf', he⟩ := intF_more HN.out HF.out
          have hq := HM.out.1
          refine ⟨m / 256, f', g', cap, r :: tl, hf', by omega, by omega, by simp; omega, rfl, ?_, HO.out, hb1, hs1, ?_⟩
          · first | (rw [← hq]; done) | (rw [← hq]; rfl)
          · rw [← HE.out, he, HM.out.2]; simp
        case measure => simp [sLen]; omega
end Go.Proofs.Ytochmolhpcidgah
