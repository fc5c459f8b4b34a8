/- FnExactHashEnd, its tied card: at every Hash HashEnd answers as the specification's, and does not write into it. The listed table is tied to the program's text; no other condition. -/
import Derived.Test.YtliegfndhlnolaeDoorHashE
import Derived.Test.YtliegfndhlnolaeDoorTabLaid
import Derived.Test.YtliegfndhlnolaeDoorCards
import Derived.Test.YtliegfndhlnolaeDoorTie
import Derived.SevenTiedAt
import Derived.Test.YtliegfndhlnolaeDoorIsRowI
import Derived.ProofKit
import Derived.OpenShut
import Derived.ShutString
import Derived.ChangeOld
import Derived.Below
import Derived.Lib.SmallJoins
namespace Go.Proofs.YtliegfndhlnolaeDoor
open Go.RowKit
set_option maxHeartbeats 1000000 in
set_option maxRecDepth 100000 in
theorem hashEndWalk (w : World) (a0 : Option Addr) (len0 cap0 : Nat) (z0 : List Int) (w0 : IsRow .i64 w a0 len0 cap0 z0) (s0 : ByteArray) (ws0 : s0.size ≤ maxLen) (i0 : Int) (wi0 : (Lit.int .i64 i0).wf = true) (hk : Keys w) :
    Calls Tryd.prog 4 #[.agg #[.slice a0 len0 cap0, .string s0, .int .i64 i0]] w fun e w' => e = .returned (.bool true) ∧ Below w.heap.size w w' := by
  obtain ⟨b0, b1⟩ := bounds_i64 wi0
  have HK : Hid (Keys w) := hk
  have hkp := hk.pos
  clear hk
  have hlm := w0.len_le
  obtain ⟨zs, rfl, hints, _⟩ := w0.ints
  have ws1 := ws0
  have hlm1 := hlm
  unfold maxLen at hlm ws0
  go_enter Tryd.func4, Tryd.ntmps4
  go_wp2_with fail
  refine (szHash a0 zs.length cap0 s0 i0 _ _ hlm1 ws1 rfl).mono ?_
  rintro e w1 ⟨x, rfl, hx, hx0, hx1, hb1⟩
  have hA : Below w.heap.size w (w.alloc (.cells #[.slice a0 zs.length cap0, .string s0, .int .i64 i0] 24 (0, 0))) := (Below.refl _ w).alloc (Nat.le_refl _) _
  by_cases hneg : x < 0
  · go_wp2
    go_ret
    exact ⟨rfl, hA.trans (hb1.mono (by simp))⟩
  · have hlz : zs.length ≤ 1048576 := by omega
    have hsz : s0.size ≤ 1048576 := by omega
    have hN1 : w.heap.size + 1 ≤ w1.heap.size := by have := hb1.size; simpa using this
    have p0 := hb1.cell (p := ⟨w.heap.size, 0, none⟩) (by simp)
    have p1 := hb1.cell (p := ⟨w.heap.size, 1, none⟩) (by simp)
    have p2 := hb1.cell (p := ⟨w.heap.size, 2, none⟩) (by simp)
    simp at p0 p1 p2
    have HB1 : Hid (Below w.heap.size w w1) := hA.trans (hb1.mono (by simp))
    have HI : Hid (IsInts w a0 zs) := hints
    clear hx hx0 hx1 hb1 hA hints w0 hlm hlm1 ws0 ws1 wi0
    go_wp2_with fail
    refine (toHash a0 zs cap0 s0 i0 _ hlz (HI.out.below HB1.out HI.out.lt)).mono ?_
    rintro e w2 ⟨g1, rfl, hg1, hr1, hb2⟩
    have HB2 : Hid (Below w.heap.size w w2) := HB1.out.trans (hb2.mono HB1.out.size)
    have hI1 : IsInts w2 (some ⟨g1, 0, none⟩) zs := .row (rest := []) (by simpa using hr1)
    rw [← hb2.cell (p := ⟨w.heap.size, 0, none⟩) (show w.heap.size < w1.heap.size by omega)] at p0
    rw [← hb2.cell (p := ⟨w.heap.size, 1, none⟩) (show w.heap.size < w1.heap.size by omega)] at p1
    rw [← hb2.cell (p := ⟨w.heap.size, 2, none⟩) (show w.heap.size < w1.heap.size by omega)] at p2
    have hN2 : w.heap.size + 1 ≤ w2.heap.size := by have := hb2.size; omega
    clear hr1 hb2 hN1
    unfold hashV
    go_wp2_with fail
    refine (specHashEnd g1 zs zs.length s0 i0 _ hlz hsz b0 b1 hI1).mono ?_
    rintro e w3 ⟨rfl, hb3⟩
    have HB3 : Hid (Below w.heap.size w w3) := HB2.out.trans (hb3.mono HB2.out.size)
    rw [← hb3.cell (p := ⟨w.heap.size, 0, none⟩) (show w.heap.size < w2.heap.size by omega)] at p0
    rw [← hb3.cell (p := ⟨w.heap.size, 1, none⟩) (show w.heap.size < w2.heap.size by omega)] at p1
    rw [← hb3.cell (p := ⟨w.heap.size, 2, none⟩) (show w.heap.size < w2.heap.size by omega)] at p2
    have hN3 : w.heap.size + 1 ≤ w3.heap.size := by have := hb3.size; omega
    clear hb3 hN2 hI1
    go_wp2_with fail
    refine (toHash a0 zs cap0 s0 i0 _ hlz (HI.out.below HB3.out HI.out.lt)).mono ?_
    rintro e w4 ⟨g2, rfl, hg2, hr2, hb4⟩
    have HB4 : Hid (Below w.heap.size w w4) := HB3.out.trans (hb4.mono HB3.out.size)
    have hI2 : IsInts w4 (some ⟨g2, 0, none⟩) zs := .row (rest := []) (by simpa using hr2)
    rw [← hb4.cell (p := ⟨w.heap.size, 0, none⟩) (show w.heap.size < w3.heap.size by omega)] at p0
    rw [← hb4.cell (p := ⟨w.heap.size, 1, none⟩) (show w.heap.size < w3.heap.size by omega)] at p1
    rw [← hb4.cell (p := ⟨w.heap.size, 2, none⟩) (show w.heap.size < w3.heap.size by omega)] at p2
    have hN4 : w.heap.size + 1 ≤ w4.heap.size := by have := hb4.size; omega
    clear hr2 hb4 hN3
    have HI2 : Hid (IsInts w4 (some ⟨g2, 0, none⟩) zs) := hI2
    clear hI2
    unfold hashV
    go_wp2_with fail
    have hA4 : ∀ o, Below w4.heap.size w4 (w4.alloc o) := fun o => (Below.refl _ w4).alloc (Nat.le_refl _) o
    generalize hw5 : w4.alloc _ = w5
    have hb5 : Below w4.heap.size w4 w5 := by rw [← hw5]; exact hA4 _
    have hN5 : w5.heap.size = w4.heap.size + 1 := by rw [← hw5]; simp
    have q0 : w5.cell? ⟨w4.heap.size, 0, none⟩ = some (.slice (some ⟨g2, 0, none⟩) zs.length zs.length) := by rw [← hw5]; simp
    have q1 : w5.cell? ⟨w4.heap.size, 1, none⟩ = some (.string s0) := by rw [← hw5]; simp
    have q2 : w5.cell? ⟨w4.heap.size, 2, none⟩ = some (.int .i64 i0) := by rw [← hw5]; simp
    rw [← hb5.cell (p := ⟨w.heap.size, 0, none⟩) (show w.heap.size < w4.heap.size by omega)] at p0
    rw [← hb5.cell (p := ⟨w.heap.size, 1, none⟩) (show w.heap.size < w4.heap.size by omega)] at p1
    rw [← hb5.cell (p := ⟨w.heap.size, 2, none⟩) (show w.heap.size < w4.heap.size by omega)] at p2
    have hI5 : IsInts w5 (some ⟨g2, 0, none⟩) zs := HI2.out.below hb5 HI2.out.lt
    have HB5 : Hid (Below w.heap.size w w5) := HB4.out.trans (hb5.mono HB4.out.size)
    refine (implHashEnd g2 zs zs.length s0 i0 _ hlz hsz b0 b1 hI5 (HK.out.below HB5.out hkp)).mono ?_
    rintro e w6 ⟨rfl, hb6⟩
    rw [← hb6.cell (p := ⟨w.heap.size, 0, none⟩) (show w.heap.size < w5.heap.size by omega)] at p0
    rw [← hb6.cell (p := ⟨w.heap.size, 1, none⟩) (show w.heap.size < w5.heap.size by omega)] at p1
    rw [← hb6.cell (p := ⟨w.heap.size, 2, none⟩) (show w.heap.size < w5.heap.size by omega)] at p2
    rw [← hb6.cell (p := ⟨w4.heap.size, 0, none⟩) (show w4.heap.size < w5.heap.size by omega)] at q0
    rw [← hb6.cell (p := ⟨w4.heap.size, 1, none⟩) (show w4.heap.size < w5.heap.size by omega)] at q1
    rw [← hb6.cell (p := ⟨w4.heap.size, 2, none⟩) (show w4.heap.size < w5.heap.size by omega)] at q2
    have hI6 : IsInts w6 (some ⟨g2, 0, none⟩) zs := hI5.below hb6 hI5.lt
    have HB6 : Hid (Below w.heap.size w w6) := HB5.out.trans (hb6.mono HB5.out.size)
    have hN6 : w4.heap.size + 1 ≤ w6.heap.size := by have := hb6.size; omega
    have HI6 : Hid (IsInts w6 (some ⟨g2, 0, none⟩) zs) := hI6
    clear hI5 hb5 hw5 hA4 hI6 hb6 hN5
    generalize endOf zs s0 i0 = rr
    have HT : Hid (Calls Tryd.prog 8 #[hashV a0 zs.length cap0 s0 i0] w6.drew fun e w7 => ∃ g3, e = .returned (hashV (some ⟨g3, 0, none⟩) zs.length zs.length s0 i0) ∧ Hid (Below w.heap.size w w7) ∧ Hid (IsInts w7 (some ⟨g3, 0, none⟩) zs) ∧ Hid (IsInts w7 (some ⟨g2, 0, none⟩) zs) ∧
        w7.cell? ⟨w4.heap.size, 0, none⟩ = some (.slice (some ⟨g2, 0, none⟩) zs.length zs.length) ∧ w7.cell? ⟨w4.heap.size, 1, none⟩ = some (.string s0) ∧ w7.cell? ⟨w4.heap.size, 2, none⟩ = some (.int .i64 i0)) := by
      show Calls _ _ _ _ _
      refine (toHash a0 zs cap0 s0 i0 w6.drew hlz (HI.out.below HB6.out.drew HI.out.lt)).mono ?_
      rintro e w7 ⟨g3, rfl, hg3, hr3, hb7⟩
      refine ⟨g3, rfl, HB6.out.drew.trans (hb7.mono HB6.out.size), .row (rest := []) (by simpa using hr3), HI6.out.below (w := w6.drew) (B := w6.heap.size) hb7 HI6.out.lt, ?_, ?_, ?_⟩
      · exact (hb7.cell (p := ⟨w4.heap.size, 0, none⟩) (show w4.heap.size < w6.heap.size by omega)).trans q0
      · exact (hb7.cell (p := ⟨w4.heap.size, 1, none⟩) (show w4.heap.size < w6.heap.size by omega)).trans q1
      · exact (hb7.cell (p := ⟨w4.heap.size, 2, none⟩) (show w4.heap.size < w6.heap.size by omega)).trans q2
    have HQ : Hid (∀ W g3, Hid (Below w.heap.size w W) → Hid (IsInts W (some ⟨g3, 0, none⟩) zs) → Hid (IsInts W (some ⟨g2, 0, none⟩) zs) → Calls Tryd.prog 10 #[hashV (some ⟨g2, 0, none⟩) zs.length zs.length s0 i0, hashV (some ⟨g3, 0, none⟩) zs.length zs.length s0 i0] W fun e w8 => e = .returned (.bool true) ∧ Hid (Below w.heap.size w w8)) := fun W g3 h1 h2 h3 => by
      refine (eqHash (some ⟨g2, 0, none⟩) (some ⟨g3, 0, none⟩) zs zs.length zs.length s0 i0 W (by omega) h3.out h2.out).mono ?_
      rintro e w8 ⟨rfl, hb8⟩
      exact ⟨rfl, h1.out.trans (hb8.mono h1.out.size)⟩
    go_wp2_with fail
    go_region_with (first | (go_at_call 8; refine HT.out.mono ?_; rintro e w7 ⟨g3, rfl, k1, k2, k3, r0, r1, r2⟩) | (go_at_call 10; refine (HQ.out _ _ (by assumption) (by assumption) (by assumption)).mono ?_; rintro e w8 ⟨rfl, k4⟩))
    all_goals
      go_wp2
      go_ret
      exact ⟨rfl, k4.out⟩
namespace fnExactHashEndDone
open Go.ChangeShapes Go.WideShapes Go.ChangeAt Go.RowKit
open Go.ChangeMaps (open_string shut_string)
theorem own : ownKnob Tryd.prog.godebug = none := by kernel_rfl
theorem laidOut : laidOutB Tryd.prog = true := by kernel_rfl
set_option linter.unusedVariables false
theorem laid_met (os : Os) (args : Array Value) : laidMetH Tryd.prog Rows.fnExactHashEndRow.laid ((World.doorLaid Tryd.prog 400 os).forCall (fun _ _ => 0) ⟨#[], args, []⟩).memory :=
  laidMetH_of_parts3 (fuel := 8) (laidMet_of_run' 8 (by kernel_rfl) (by kernel_rfl)) (by kernel_rfl) (by kernel_rfl)
set_option maxRecDepth 100000 in
theorem lifted (os : Os) (started : os.Started) (H : Type) (enc : TypeId × Value → H) :
    ReturnsInHanded {} Tryd.checked os 4 .any (fun w args => (Rows.fnExactHashEndSpec.pre enc Tryd.prog Tryd.f4 [] false w args ∧ laidMetH Tryd.prog Rows.fnExactHashEndRow.laid w) ∧ sizedMet enc Tryd.prog Tryd.f4 (OpenSpec.ofChange Rows.fnExactHashEndSpec) false w args)
      (Rows.fnExactHashEndSpec.post enc Tryd.prog Tryd.f4 false true false false) := by
  refine returnsInHanded_of_change_and (C := Tryd.checked) (X := fun w _ => laidMetH Tryd.prog Rows.fnExactHashEndRow.laid w) (fun _ _ _ hh h => h.of_heap hh) own started (by kernel_rfl) Tryd.func4
    (ChangeSpec.witness_shaped (enc := enc) (C := Tryd.checked) (os := os) (X := fun w _ => laidMetH Tryd.prog Rows.fnExactHashEndRow.laid w) false (World.doorLaid Tryd.prog 400 os) #[.agg #[.slice none 0 0, .string ByteArray.empty, .int .i64 0]] 8 rfl (World.shaped_of_RefB (by kernel_rfl) (by kernel_rfl)) (by kernel_rfl) (by kernel_rfl) (by kernel_rfl) (laid_met os _)) ?_
  intro W base args ds gs before hval0 hW _ _ hL _
  have hval : ∀ (j : Nat) t v, Tryd.f4.params[j]? = some t → args[j]? = some v → Value.okWide Tryd.prog W .any base t v := hval0
  have hW' := hW
  obtain ⟨p, q, hA0, hV, rfl, hfz, hnd⟩ := hW
  have hV0 := hV
  obtain ⟨_, _, _, _, dv, _, rfl, _⟩ := trodVars_one hV
  have hA : DataW.TrodAll enc Tryd.prog W 0 (fun _ => true) true Tryd.f4.params.toList args.toList ds p := hA0
  rw [Tryd.params4] at hA hval
  obtain ⟨v0, vs0, d0, ds0, p0, q0, hargs, rfl, rfl, h0, r0⟩ := trodAll_cons hA
  obtain ⟨rfl, rfl, rfl⟩ := trodAll_nil r0
  obtain rfl : args = #[v0] := by cases args; simp_all
  have k0 := h0
  have lt0 : ∀ x ∈ p0, x.block < W.heap.size := by obtain ⟨m, hm⟩ := k0; exact DataW.trod_lt m _ _ _ hm
  obtain ⟨x00, x10, x20, y00, y10, y20, n0, rfl, _, _, t00, t10, t20⟩ := Joins.open_agg3 Tryd.underlying24 (by kernel_rfl) (by kernel_rfl) (hval 0 24 v0 rfl rfl) h0
  obtain ⟨a0, len0, cap0, z0, e0, w0⟩ : ∃ a len cap zs, x00 = .slice a len cap ∧ IsRow .i64 W a len cap zs := by
    rcases open_ints Tryd.underlying22 Tryd.underlying2 (by kernel_rfl) t00 with ⟨hcs, _⟩ | ⟨x, l, c, zs, hcs, _, hl, hm, hz, _, hcell, hwz⟩
    · exact ⟨_, _, _, [], (List.cons.inj hcs).1, .inl ⟨rfl, rfl, rfl, rfl⟩⟩
    · exact ⟨_, _, _, zs, (List.cons.inj hcs).1, .inr ⟨_, rfl, hl, hm, by simpa using hz, hcell, hwz⟩⟩
  subst e0
  obtain ⟨s0, f0, _, ws0⟩ := DataW.trod_string Tryd.underlying9 t10
  obtain ⟨i0, g0, _, wi0⟩ := DataW.trod_int Tryd.underlying2 t20
  obtain rfl := (List.cons.inj f0).1
  obtain rfl := (List.cons.inj g0).1
  clear hA0 hval0
  refine (hashEndWalk W a0 len0 cap0 z0 w0 s0 ws0 i0 wi0 (keys_of_laid hL)).mono fun e W' ⟨he, bel⟩ => ?_
  subst he
  exact ⟨_, rfl, _, _, _, [], _, _, hW', trodAll_mk1 (shut_bool Tryd.underlying4 _), (trodAll_cons_mk (Below.trod laidOut (by kernel_rfl) (of_decide_eq_true (by kernel_rfl)) k0 bel lt0) trodAll_mk0), bel.trodVars laidOut (by kernel_rfl) hV0, bel.frame _, fun h => by cases h⟩
theorem said : Rows.FnExactHashEndSaid :=
  OpenClaim.holds_of_wide 4 Tryd.f4 rfl rfl rfl rfl rfl rfl rfl ⟨rfl, rfl, rfl, rfl, rfl⟩ rfl rfl rfl rfl rfl (by kernel_rfl) Tryd.func4 (by kernel_rfl)
    (of_decide_eq_true (by kernel_rfl)) (by unfold Func.isWrapper; first | (rw [if_pos (by decide +kernel)]; kernel_rfl) | (rw [if_neg (by decide +kernel)]; exact ⟨rfl, rfl⟩))
    (fun os started H enc _ => lifted os started H enc)
theorem plain (f : FuncId) (fn : Func) (hf : Tryd.pinned.checked.prog.funcNamed "loop.example/g00371/laws.FnExactHashEnd" = some f) (hfn : Tryd.pinned.checked.prog.funcs[f]? = some fn) :
    false = Tryd.pinned.checked.prog.looks [] ∧ ∀ (j : Nat) t, fn.params[j]? = some t → Tryd.pinned.checked.prog.wantsStandIn t = false := by
  obtain rfl : f = 4 := Option.some.inj ((show Tryd.prog.funcNamed "loop.example/g00371/laws.FnExactHashEnd" = some 4 by kernel_rfl).symm.trans hf) |>.symm
  obtain rfl : fn = Tryd.f4 := (Option.some.inj (Tryd.func4.symm.trans hfn)).symm
  refine ⟨by kernel_rfl, fun j t ht => ?_⟩
  rw [Tryd.params4] at ht
  have hm : t = 24 := by simpa using Array.mem_of_getElem? ht
  rcases hm with rfl <;> (show _ = _; kernel_rfl)
end fnExactHashEndDone
theorem fnExactHashEnd_card : Rows.FnExactHashEndCardSaid :=
  Claim7.holds_tied_plain_at .later [] _ _ _ _ fnExactHashEndDone.said (fun _ h => by cases h) (by kernel_rfl) (fun _ h => by cases h) fnExactHashEnd_row_tie rfl ⟨rfl, rfl⟩ (by kernel_rfl) rfl fnExactHashEndDone.plain (by kernel_rfl)
#print axioms fnExactHashEnd_card
end Go.Proofs.YtliegfndhlnolaeDoor
