/- FnHex: a drawn text comes back from its digits of sixteen; what is read of a drawn text is told by just these digits. No condition. -/
import Derived.Test.YtdckeokfcckemaaDrawHex
import Derived.Test.YtdckeokfcckemaaHexB
import Derived.Test.YtdckeokfcckemaaReadB
import Derived.Test.YtdckeokfcckemaaHexM
import Derived.Test.YtdckeokfcckemaaIsRow
import Derived.ProofKit
import Derived.OpenShut
import Derived.ShutString
import Derived.ChangeOld
import Derived.Below
import Derived.Deep.RegionHeld3
import Derived.Deep.RegionWith
import Derived.Test.YtdckeokfcckemaaStepCall
namespace Go.Proofs.Ytdckeokfcckemaa
open Go.RowKit

set_option maxHeartbeats 4000000 in
set_option maxRecDepth 100000 in
theorem hexTop (w : World) (a0 : Option Addr) (len0 cap0 : Nat) (z0 : List Int) (w0 : IsRow .u8 w a0 len0 cap0 z0) (a1 : Option Addr) (len1 cap1 : Nat) (z1 : List Int) (w1' : IsRow .u8 w a1 len1 cap1 z1) :
    Calls Try.prog 3 #[.slice a0 len0 cap0, .slice a1 len1 cap1] w fun e w' => e = .returned (.bool true) ∧ Below w.heap.size w w' := by
  have hl0 := w0.len_le
  have hl1 := w1'.len_le
  unfold maxLen at hl0 hl1
  obtain ⟨hc0, hk0⟩ := w0.code
  obtain ⟨hc1, hk1⟩ := w1'.code
  clear w0 w1'
  by_cases h0 : 1048576 < len0
  · clear hc0 hk0 hc1 hk1
    go_enter Try.func3, Try.ntmps3
    go_wp2
    go_ret
    exact ⟨rfl, Below.refl _ _⟩
  by_cases h1 : 1048576 < len1
  · clear hc0 hk0 hc1 hk1
    go_enter Try.func3, Try.ntmps3
    go_wp2
    go_ret
    exact ⟨rfl, Below.refl _ _⟩
  have C0 : Hid (CodeAt a0 len0 w) := hc0
  have K0 : Hid (∀ x, 0 < len0 → a0 = some x → x.block < w.heap.size) := hk0
  have C1 : Hid (CodeAt a1 len1 w) := hc1
  have K1 : Hid (∀ x, 0 < len1 → a1 = some x → x.block < w.heap.size) := hk1
  clear hc0 hk0 hc1 hk1
  go_enter Try.func3, Try.ntmps3
  go_wp2_with fail
  refine (drawHex a0 len0 cap0 _ (by omega) C0.out K0.out).mono ?_
  rintro e w1 ⟨⟨t, ht, rfl⟩, hb1⟩
  have B1 : Hid (Below w.heap.size w w1) := hb1
  have s1 := hb1.size
  have C1' : Hid (CodeAt a1 len1 w1) := C1.out.below hb1 K1.out
  have K1' : Hid (∀ x, 0 < len1 → a1 = some x → x.block < w1.heap.size) := fun x h0 hx => by have := K1.out x h0 hx; omega
  clear hb1
  go_wp2_with fail
  refine (drawHexRead a1 len1 cap1 _ (by omega) C1'.out K1'.out).mono ?_
  rintro e w2 ⟨⟨u, hu, rfl⟩, hb2⟩
  have B2 : Hid (Below w.heap.size w w2) := B1.out.trans (hb2.mono s1)
  have s2 := B2.out.size
  clear hb2
  go_wp2_with fail
  refine (implHex t _ (by omega)).mono ?_
  rintro e w3 ⟨rfl, hb3⟩
  have B3 : Hid (Below w.heap.size w w3) := B2.out.trans (hb3.mono s2)
  have s3 := B3.out.size
  have hback := read_hex t (by omega)
  have hhl : (strOfNums (hexL t.data.toList)).size = 2 * t.size := by rw [size_str, hexL_len, ← Go.Lib.size_eq]
  generalize strOfNums (hexL t.data.toList) = h at *
  have HK : Hid (hexOut h = outV t 0 0) := hback
  clear hb3 hback
  go_wp2_with fail
  refine (implRead u _ (by omega)).mono ?_
  rintro e w4 ⟨rfl, hb4⟩
  have B4 : Hid (Below w.heap.size w w4) := B3.out.trans (hb4.mono s3)
  have s4 := B4.out.size
  clear hb4
  obtain ⟨x, xa, xc, hcode, hx⟩ : ∃ x xa xc, (xc = 0 ∨ xc = 2 ∨ xc = 3) ∧ hexOut u = .agg #[.string x, .int .i64 xa, .int .i64 xc] := by
    unfold hexOut
    split
    · exact ⟨_, _, 2, .inr (.inl rfl), rfl⟩
    · split
      · exact ⟨_, _, 0, .inl rfl, rfl⟩
      · exact ⟨_, _, 3, .inr (.inr rfl), rfl⟩
  have HX : Hid (hexOut u = .agg #[.string x, .int .i64 xa, .int .i64 xc]) := hx
  rw [hx]
  clear hx
  have hq : (t.size : Int) ≤ 10000 := by omega
  have hq2 : ((h.size : Int) != 2 * (t.size : Int)) = false := by rw [bne_eq_false_iff_eq]; omega
  go_wp2_with fail
  refine (implRead h _ (by omega)).mono ?_
  rintro e w5 ⟨rfl, hb5⟩
  rw [HK.out]
  unfold outV
  have k0 : w5.cell? ⟨w4.heap.size, 0, none⟩ = some (.string x) := (hb5.cell (by simp)).trans (by simp)
  have k1 : w5.cell? ⟨w4.heap.size, 1, none⟩ = some (.int .i64 xa) := (hb5.cell (by simp)).trans (by simp)
  have k2 : w5.cell? ⟨w4.heap.size, 2, none⟩ = some (.int .i64 xc) := (hb5.cell (by simp)).trans (by simp)
  have s5 : w4.heap.size < w5.heap.size := by have := hb5.size; simp at this; omega
  have b5 : Below w.heap.size w w5 := (B4.out.alloc s4 _).trans (hb5.mono (by simp; omega))
  clear hb5
  have hkeep : ∀ W w' : World, (W.cell? ⟨w4.heap.size, 0, none⟩ = some (.string x) ∧ W.cell? ⟨w4.heap.size, 1, none⟩ = some (.int .i64 xa) ∧ W.cell? ⟨w4.heap.size, 2, none⟩ = some (.int .i64 xc) ∧ w4.heap.size < W.heap.size ∧ Below w.heap.size w W) → Below W.heap.size W w' → (w'.cell? ⟨w4.heap.size, 0, none⟩ = some (.string x) ∧ w'.cell? ⟨w4.heap.size, 1, none⟩ = some (.int .i64 xa) ∧ w'.cell? ⟨w4.heap.size, 2, none⟩ = some (.int .i64 xc) ∧ w4.heap.size < w'.heap.size ∧ Below w.heap.size w w') := fun W w' ⟨a, b, c, d, e⟩ hb =>
    ⟨(hb.cell d).trans a, (hb.cell d).trans b, (hb.cell d).trans c, by have := hb.size; omega, e.trans (hb.mono (by have := e.size; omega))⟩
  have HS8 : Hid (∀ W, (W.cell? ⟨w4.heap.size, 0, none⟩ = some (.string x) ∧ W.cell? ⟨w4.heap.size, 1, none⟩ = some (.int .i64 xa) ∧ W.cell? ⟨w4.heap.size, 2, none⟩ = some (.int .i64 xc) ∧ w4.heap.size < W.heap.size ∧ Below w.heap.size w W) → Calls Try.prog 8 #[.string u] W fun e w' => e = .returned (.agg #[.string x, .int .i64 xa, .int .i64 xc]) ∧ w'.cell? ⟨w4.heap.size, 0, none⟩ = some (.string x) ∧ w'.cell? ⟨w4.heap.size, 1, none⟩ = some (.int .i64 xa) ∧ w'.cell? ⟨w4.heap.size, 2, none⟩ = some (.int .i64 xc) ∧ w4.heap.size < w'.heap.size ∧ Below w.heap.size w w') := fun W hW => by
    refine (specRead u W (by omega)).mono ?_
    rintro e w' ⟨rfl, hb⟩
    exact ⟨by rw [HX.out], hkeep W w' hW hb⟩
  have e1 : (xa == xa) = true := by simp
  have e2 : (xc == xc) = true := by simp
  rcases hcode with rfl | hcode
  · obtain ⟨hrt, hxs⟩ := hex_read u x xa HX.out
    have HS6 : Hid (∀ W, (W.cell? ⟨w4.heap.size, 0, none⟩ = some (.string x) ∧ W.cell? ⟨w4.heap.size, 1, none⟩ = some (.int .i64 xa) ∧ W.cell? ⟨w4.heap.size, 2, none⟩ = some (.int .i64 0) ∧ w4.heap.size < W.heap.size ∧ Below w.heap.size w W) → Calls Try.prog 6 #[.string x] W fun e w' => e = .returned (.string u) ∧ w'.cell? ⟨w4.heap.size, 0, none⟩ = some (.string x) ∧ w'.cell? ⟨w4.heap.size, 1, none⟩ = some (.int .i64 xa) ∧ w'.cell? ⟨w4.heap.size, 2, none⟩ = some (.int .i64 0) ∧ w4.heap.size < w'.heap.size ∧ Below w.heap.size w w') := fun W hW => by
      refine (implHex x W (by omega)).mono ?_
      rintro e w' ⟨rfl, hb⟩
      exact ⟨by rw [hrt], hkeep W w' hW hb⟩
    clear hkeep hrt
    go_wp2_with fail
    go_region_held3 (fun w' => w'.cell? ⟨w4.heap.size, 0, none⟩ = some (.string x) ∧ w'.cell? ⟨w4.heap.size, 1, none⟩ = some (.int .i64 xa) ∧ w'.cell? ⟨w4.heap.size, 2, none⟩ = some (.int .i64 0) ∧ w4.heap.size < w'.heap.size) (go_keep)
      (first | (go_at_call 8; refine (HS8.out _ ?_).mono ?_; (refine ⟨?_, ?_, ?_, ?_, ?_⟩ <;> first | assumption | exact Below.drew (by assumption) | (simp [*]; done)); rintro e w' ⟨rfl, hS0, hS1, hS2, hS3, hS4⟩) | (go_at_call 6; refine (HS6.out _ ?_).mono ?_; (refine ⟨?_, ?_, ?_, ?_, ?_⟩ <;> first | assumption | exact Below.drew (by assumption) | (simp [*]; done)); rintro e w' ⟨rfl, hT0, hT1, hT2, hT3, hT4⟩))
    go_wp2
    go_ret
    exact ⟨rfl, hT4⟩
  · clear hkeep
    rcases hcode with rfl | rfl
    · go_wp2_with fail
      first | go_region_law ((refine step_call1 (by rfl) 8 _ _ (by rfl) _ _ (by rfl) (fun w' => w'.cell? ⟨w4.heap.size, 0, none⟩ = some (.string x) ∧ w'.cell? ⟨w4.heap.size, 1, none⟩ = some (.int .i64 xa) ∧ w'.cell? ⟨w4.heap.size, 2, none⟩ = some (.int .i64 2) ∧ w4.heap.size < w'.heap.size ∧ Below w.heap.size w w') (fun _ _ => by kernel_rfl) (HS8.out _ (by refine ⟨?_, ?_, ?_, ?_, ?_⟩ <;> first | assumption | exact Below.drew (by assumption) | (simp [*]; done))) ?_; intro w' ⟨hS0, hS1, hS2, hS3, hS4⟩)) | fail
      all_goals go_wp2
      all_goals go_ret
      all_goals exact ⟨rfl, by assumption⟩
    · go_wp2_with fail
      first | go_region_law ((refine step_call1 (by rfl) 8 _ _ (by rfl) _ _ (by rfl) (fun w' => w'.cell? ⟨w4.heap.size, 0, none⟩ = some (.string x) ∧ w'.cell? ⟨w4.heap.size, 1, none⟩ = some (.int .i64 xa) ∧ w'.cell? ⟨w4.heap.size, 2, none⟩ = some (.int .i64 3) ∧ w4.heap.size < w'.heap.size ∧ Below w.heap.size w w') (fun _ _ => by kernel_rfl) (HS8.out _ (by refine ⟨?_, ?_, ?_, ?_, ?_⟩ <;> first | assumption | exact Below.drew (by assumption) | (simp [*]; done))) ?_; intro w' ⟨hS0, hS1, hS2, hS3, hS4⟩)) | fail
      all_goals go_wp2
      all_goals go_ret
      all_goals exact ⟨rfl, by assumption⟩
namespace fnHexDone
open Go.ChangeShapes Go.WideShapes Go.ChangeAt Go.RowKit
open Go.ChangeMaps (open_string shut_string)
theorem own : ownKnob Try.prog.godebug = none := by kernel_rfl
theorem laidOut : laidOutB Try.prog = true := by kernel_rfl
set_option linter.unusedVariables false
set_option maxRecDepth 100000 in
theorem lifted (os : Os) (started : os.Started) (H : Type) (enc : TypeId × Value → H) :
    ReturnsInHanded {} Try.checked os 3 .any (Rows.fnHexSpec.pre6 enc Try.prog Try.f3 Rows.fnHexRow.domain false) (Rows.fnHexSpec.post enc Try.prog Try.f3 false true false false) := by
  refine returnsInHanded_of_change (C := Try.checked) own started (by kernel_rfl) Try.func3
    (ChangeSpec.witness6 (enc := enc) (C := Try.checked) false ⟨#[], #[.slice none 0 0, .slice none 0 0], []⟩ 8 (by kernel_rfl) (by kernel_rfl) (by kernel_rfl) (by kernel_rfl)) ?_
  intro W base args ds gs before hval0 hW hcnd _
  have hval : ∀ (j : Nat) t v, Try.f3.params[j]? = some t → args[j]? = some v → Value.okWide Try.prog W .any base t v := hval0
  have hW' := hW
  obtain ⟨p, q, hA0, hV, rfl, hfz, hnd⟩ := hW
  have hA : DataW.TrodAll enc Try.prog W 0 (fun _ => true) true Try.f3.params.toList args.toList ds p := hA0
  rw [Try.params3] at hA hval
  obtain ⟨v0, vs0, d0, ds0, p0, q0, hargs, rfl, rfl, h0, r0⟩ := trodAll_cons hA
  obtain ⟨v1, vs1, d1, ds1, p1, q1, rfl, rfl, rfl, h1, r1⟩ := trodAll_cons r0
  obtain ⟨rfl, rfl, rfl⟩ := trodAll_nil r1
  obtain rfl : args = #[v0, v1] := by cases args; simp_all
  obtain ⟨rfl, rfl⟩ := trodVars_none hV
  obtain ⟨a0, len0, cap0, rfl⟩ := okWide_slice Try.underlying22 (hval 0 22 v0 rfl rfl)
  have k0 := h0
  have lt0 : ∀ x ∈ p0, x.block < W.heap.size := by obtain ⟨m, hm⟩ := k0; exact DataW.trod_lt m _ _ _ hm
  obtain ⟨z0, w0⟩ : ∃ zs, IsRow .u8 W a0 len0 cap0 zs := by
    obtain ⟨fuel, hf⟩ := h0
    rcases open_ints Try.underlying22 Try.underlying5 (by kernel_rfl) hf with ⟨hcs, _⟩ | ⟨x, l, c, zs, hcs, _, hl, hm, hz, _, hcell, hwz⟩
    · simp [Value.cells] at hcs
      obtain ⟨rfl, rfl, rfl⟩ := hcs
      exact ⟨[], .inl ⟨rfl, rfl, rfl, rfl⟩⟩
    · simp [Value.cells] at hcs
      obtain ⟨rfl, rfl, rfl⟩ := hcs
      exact ⟨zs, .inr ⟨_, rfl, hl, hm, by simpa using hz, hcell, hwz⟩⟩
  obtain ⟨a1, len1, cap1, rfl⟩ := okWide_slice Try.underlying22 (hval 1 22 v1 rfl rfl)
  have k1 := h1
  have lt1 : ∀ x ∈ p1, x.block < W.heap.size := by obtain ⟨m, hm⟩ := k1; exact DataW.trod_lt m _ _ _ hm
  obtain ⟨z1, w1⟩ : ∃ zs, IsRow .u8 W a1 len1 cap1 zs := by
    obtain ⟨fuel, hf⟩ := h1
    rcases open_ints Try.underlying22 Try.underlying5 (by kernel_rfl) hf with ⟨hcs, _⟩ | ⟨x, l, c, zs, hcs, _, hl, hm, hz, _, hcell, hwz⟩
    · simp [Value.cells] at hcs
      obtain ⟨rfl, rfl, rfl⟩ := hcs
      exact ⟨[], .inl ⟨rfl, rfl, rfl, rfl⟩⟩
    · simp [Value.cells] at hcs
      obtain ⟨rfl, rfl, rfl⟩ := hcs
      exact ⟨zs, .inr ⟨_, rfl, hl, hm, by simpa using hz, hcell, hwz⟩⟩
  clear hA0 hval0
  refine (hexTop W a0 len0 cap0 z0 w0 a1 len1 cap1 z1 w1).mono fun e W' ⟨he, bel⟩ => ?_
  subst he
  exact ⟨_, rfl, _, _, _, [], _, [], hW', trodAll_mk1 (shut_bool Try.underlying4 _), (trodAll_cons_mk (Below.trod laidOut (by kernel_rfl) (of_decide_eq_true (by kernel_rfl)) k0 bel lt0) (trodAll_cons_mk (Below.trod laidOut (by kernel_rfl) (of_decide_eq_true (by kernel_rfl)) k1 bel lt1) trodAll_mk0)), rfl, bel.frame _, fun h => by cases h⟩
theorem over : Rows.fnHexRow.holds Try.pinned (OpenSpec.ofChange Rows.fnHexSpec) :=
  OpenClaim.holds_of_wide 3 Try.f3 rfl rfl rfl rfl rfl rfl rfl ⟨rfl, rfl, rfl, rfl, rfl⟩ rfl rfl rfl rfl rfl (by kernel_rfl) Try.func3 (by kernel_rfl)
    (of_decide_eq_true (by kernel_rfl)) (by unfold Func.isWrapper; first | (rw [if_pos (by decide +kernel)]; kernel_rfl) | (rw [if_neg (by decide +kernel)]; exact ⟨rfl, rfl⟩))
    (fun os started H enc _ => lifted os started H enc)
end fnHexDone
theorem fnHex_holds : Rows.FnHexSaid := fnHexDone.over
#print axioms fnHex_holds
end Go.Proofs.Ytdckeokfcckemaa
