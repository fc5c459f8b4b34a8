/- spec.l08Root, walked; two papers and a list in variables, as the draws make them. -/
import Derived.Test.YtegmmaomaegjjaaGreatDoorPT11
import Derived.Test.YtegmmaomaegjjaaGreatDoorPT14
namespace Go.Proofs.YtegmmaomaegjjaaGreatDoor
open Go.RowKit

set_option linter.unusedVariables false in
set_option maxRecDepth 100000 in
set_option maxHeartbeats 4000000 in
theorem specRoot (W : World) :
    Calls Tryz.prog 15 #[.int .i64 5] W fun e w' => ∃ (c : Paper) (v : Value), e = .returned (c.val v) ∧ OwnS w' W.heap.size v c.names ∧ PMay c ∧ (v = .slice none 0 0 → c.issuer.size = 0) ∧ Below W.heap.size W w' := by
  obtain ⟨w1, hw1⟩ : ∃ y, y = W.alloc (.cells [Value.int .i64 0, .string ⟨#[]⟩, .string ⟨#[]⟩, .int .i64 0, .int .i64 0, .int .i64 0, .slice none 0 0, .bool false, .int .i64 0, .int .i64 0, .int .i64 0].toArray 27 (0, 0)) := ⟨_, rfl⟩
  have B1 : Hid (Below W.heap.size W w1) := by rw [hw1]; exact (Below.refl _ _).alloc (Nat.le_refl _) _
  have Z1 : Hid (w1.heap[W.heap.size]? = some (.cells [Value.int .i64 0, .string ⟨#[]⟩, .string ⟨#[]⟩, .int .i64 0, .int .i64 0, .int .i64 0, .slice none 0 0, .bool false, .int .i64 0, .int .i64 0, .int .i64 0].toArray 27 (0, 0))) := by rw [hw1]; exact heap_alloc_new W _
  have HZ1 : Hid (w1.heap.size = W.heap.size + 1) := by rw [hw1]; show _ = _; simp
  have hpk := pubA_in 5
  have HP : Hid (∀ V : World, Calls Tryz.prog 12 #[.int .i64 5] V fun e w' => e = .returned (.int .i64 (pubA 5)) ∧ w' = V) := fun V => specPublic 5 V
  generalize pubA 5 = pk at *
  have hm : PMay ⟨1, ⟨#[114, 111, 111, 116]⟩, ⟨#[114, 111, 111, 116]⟩, 0, 500, pk, [], true, 0, 0, 0⟩ := ⟨by show (⟨#[114, 111, 111, 116]⟩ : ByteArray).size ≤ 10; decide, by show (⟨#[114, 111, 111, 116]⟩ : ByteArray).size ≤ 10; decide, by simp, fun t ht => (by cases ht), by show inW 1; decide, by show inW 0; decide, by show inW 500; decide, hpk, zero_inW, zero_inW, zero_inW⟩
  obtain ⟨k, e, s, hsv, hk', he', hs'⟩ := signV_may 5 (bodyD ⟨1, ⟨#[114, 111, 111, 116]⟩, ⟨#[114, 111, 111, 116]⟩, 0, 500, pk, [], true, 0, 0, 0⟩)
  have hmR := sign_may (x := 5) hm hk' he' hs'
  have hsg := fun V => specSignR 5 ⟨1, ⟨#[114, 111, 111, 116]⟩, ⟨#[114, 111, 111, 116]⟩, 0, 500, pk, [], true, 0, 0, 0⟩ none 0 k e s V (by show (⟨#[114, 111, 111, 116]⟩ : ByteArray).size ≤ maxLen; decide) (by show (⟨#[114, 111, 111, 116]⟩ : ByteArray).size ≤ maxLen; decide) (by simp) (by simp [totS]) (.inl rfl) (fun _ => .inl ⟨rfl, rfl, rfl⟩) (fun _ _ => hsv)
  have HZP : Hid (signP 5 ⟨1, ⟨#[114, 111, 111, 116]⟩, ⟨#[114, 111, 111, 116]⟩, 0, 500, pk, [], true, 0, 0, 0⟩ k e s = zeroP → (signP 5 ⟨1, ⟨#[114, 111, 111, 116]⟩, ⟨#[114, 111, 111, 116]⟩, 0, 500, pk, [], true, 0, 0, 0⟩ k e s).issuer.size = 0) := fun h => by rw [h]; rfl
  generalize signP 5 ⟨1, ⟨#[114, 111, 111, 116]⟩, ⟨#[114, 111, 111, 116]⟩, 0, 500, pk, [], true, 0, 0, 0⟩ k e s = R at *
  have HSg : Hid (∀ V : World, Calls Tryz.prog 19 #[.int .i64 5, .agg #[.int .i64 1, .string ⟨#[114, 111, 111, 116]⟩, .string ⟨#[114, 111, 111, 116]⟩, .int .i64 0, .int .i64 500, .int .i64 pk, .slice none 0 0, .bool true, .int .i64 0, .int .i64 0, .int .i64 0]] V fun r w' => ∃ v, r = .returned (R.val v) ∧ OwnS w' V.heap.size v R.names ∧ Below V.heap.size V w' ∧ (v = .slice none 0 0 → R = zeroP)) := hsg
  have HMR : Hid (PMay R) := hmR
  obtain ⟨rser, riss, rsub, rfr, rtill, rkey, rnames, rca, rsk, rse, rss⟩ := R
  unfold Paper.val at HSg
  simp only at HSg HZP
  clear hsg hsv hk' he' hs' hmR hm
  go_enter Tryz.func15, Tryz.ntmps15
  go_upto_region 1 with fail
  rw [← hw1]
  clear hw1
  go_wp2_with fail
  refine (HP.out _).mono ?_
  rintro e' w2 ⟨rfl, rfl⟩
  go_wp2_with fail
  refine (HSg.out _).mono ?_
  rintro e' w3 ⟨v, rfl, o3, b3, hvn⟩
  obtain ⟨va, vc, rfl, _⟩ := o3.form
  obtain ⟨rl, hrl⟩ : ∃ n, n = rnames.length := ⟨_, rfl⟩
  rw [← hrl] at o3 hvn ⊢
  clear hrl
  have rz : w3.heap[W.heap.size]? = some (.cells [Value.int .i64 0, .string ⟨#[]⟩, .string ⟨#[]⟩, .int .i64 0, .int .i64 0, .int .i64 0, .slice none 0 0, .bool false, .int .i64 0, .int .i64 0, .int .i64 0].toArray 27 (0, 0)) := by rw [b3.block _ (heap_lt Z1.out)]; exact Z1.out
  have h1c : ∀ u ∈ [Value.int .i64 rser, .string riss, .string rsub, .int .i64 rfr, .int .i64 rtill, .int .i64 rkey, .slice va rl vc, .bool rca, .int .i64 rsk, .int .i64 rse, .int .i64 rss], u.oneCell' = true := by simp [Value.oneCell']
  have HB3 : Hid (Below w2.heap.size w2 w3) := b3
  have HO3 : Hid (OwnS w3 w2.heap.size (.slice va rl vc) rnames) := o3
  have HV3 : Hid (Value.slice va rl vc = .slice none 0 0 → riss.size = 0) := fun h => HZP.out (hvn h)
  clear b3 o3 hvn HSg HP
  go_wp2_with (refine wpList_store_row rfl 27 _ _ rfl W.heap.size [Value.int .i64 0, .string ⟨#[]⟩, .string ⟨#[]⟩, .int .i64 0, .int .i64 0, .int .i64 0, .slice none 0 0, .bool false, .int .i64 0, .int .i64 0, .int .i64 0] [Value.int .i64 rser, .string riss, .string rsub, .int .i64 rfr, .int .i64 rtill, .int .i64 rkey, .slice va rl vc, .bool rca, .int .i64 rsk, .int .i64 rse, .int .i64 rss] 27 rfl rfl rz rfl sizeCert h1c ?_)
  intro w4 hrow4 ho4 hs4 hbb4
  have hg4 := grown_row ho4 hbb4
  have hl3 := run_loadVar_mid (P := Tryz.prog) _ W.heap.size 0 27 _ _ (rangeRow hrow4) Tryz.underlying27 rfl sizeCert
  have HFIN : Hid (OwnS w4 W.heap.size (.slice va rl vc) rnames ∧ Below W.heap.size W w4) :=
    ⟨(HO3.out.rowOff hg4 (fun e => by have := (HO3.out.ge e).1; have := HZ1.out; omega)).mono (by have := HZ1.out; omega), hbb4 _ _ (Nat.le_refl _) (B1.out.trans (HB3.out.mono (by have := HZ1.out; omega)))⟩
  clear ho4 hs4 hbb4 hg4 rz h1c
  go_wp2
  refine bodyPost_ret (v := .agg [Value.int .i64 rser, .string riss, .string rsub, .int .i64 rfr, .int .i64 rtill, .int .i64 rkey, .slice va rl vc, .bool rca, .int .i64 rsk, .int .i64 rse, .int .i64 rss].toArray) ?_ rfl ⟨⟨rser, riss, rsub, rfr, rtill, rkey, rnames, rca, rsk, rse, rss⟩, .slice va rl vc, rfl, HFIN.out.1, HMR.out, HV3.out, HFIN.out.2⟩
  simp [results, Tryz.results15, asAddr, hl3]
/-- In the blocks q1, q2, q3 lie two papers and a list; the source stands; else all is as it was at w1. -/
def PV (w : World) (a : Option Addr) (len cap : Nat) (w1 : World) (q1 q2 q3 : Nat) (V : World) : Prop :=
  ∃ r vr c vc l vl, CV w a len cap w1 q1 V r vr ∧ CV w a len cap w1 q2 V c vc ∧ CL w a len cap w1 q3 V l vl
section
variable {w w1 V V' : World} {a : Option Addr} {len cap q1 q2 q3 : Nat}
theorem PV.ss (h : PV w a len cap w1 q1 q2 q3 V) : SS w a len cap V := by
  obtain ⟨r, vr, c, vc, l, vl, h1, h2, h3⟩ := h
  exact h1.ss
theorem PV.grows (h : PV w a len cap w1 q1 q2 q3 V) : Grows w.heap.size w1 V := by
  obtain ⟨r, vr, c, vc, l, vl, h1, h2, h3⟩ := h
  exact h1.grows
theorem PV.keep (h : PV w a len cap w1 q1 q2 q3 V) (hq1 : w.heap.size < q1) (hq2 : w.heap.size < q2) (hq3 : w.heap.size < q3) (h1 : w.heap.size < w1.heap.size) (hs : SS w a len cap V') (hg : Grows w.heap.size V V') : PV w a len cap w1 q1 q2 q3 V' := by
  obtain ⟨r, vr, c, vc, l, vl, a1, a2, a3⟩ := h
  exact ⟨r, vr, c, vc, l, vl, a1.keep hq1 h1 hs hg, a2.keep hq2 h1 hs hg, a3.keep hq3 h1 hs hg⟩
/-- A whole row stored elsewhere. -/
theorem CV.other {q p : Nat} {c : Paper} {v : Value} (h : CV w a len cap w1 q V c v) (hq : w.heap.size < p) (h1 : w1.heap.size ≤ p) (hg : V.grownBy V' (some p)) (hp : p ≠ q) (hv : v.ownBlock ≠ some p) : CV w a len cap w1 q V' c v :=
  ⟨by rw [hg.block _ (heap_lt h.row) (by intro e; exact hp (Option.some.inj e).symm)]; exact h.row, h.own.rowOff hg hv, h.off, h.may, h.named, h.ss.row hg hq, h.grows.row hg h1⟩
theorem CL.other {q p : Nat} {c : Lst} {v : Value} (h : CL w a len cap w1 q V c v) (hq : w.heap.size < p) (h1 : w1.heap.size ≤ p) (hg : V.grownBy V' (some p)) (hp : p ≠ q) (hv : v.ownBlock ≠ some p) : CL w a len cap w1 q V' c v :=
  ⟨by rw [hg.block _ (heap_lt h.row) (by intro e; exact hp (Option.some.inj e).symm)]; exact h.row, h.own.rowOff hg hv, h.off, h.may, h.ss.row hg hq, h.grows.row hg h1⟩
/-- What owns a row of texts or numbers owns no variable. -/
theorem OwnS.notRow {B p : Nat} {v : Value} {l : List ByteArray} {cs : List Value} {T : TypeId} (h : OwnS V B v l) (hr : V.heap[p]? = some (.cells cs.toArray T (0, 0))) (hT : T ≠ 9) : v.ownBlock ≠ some p := fun e => by
  rcases h.2 with ⟨h', _⟩ | ⟨gg, cp, cur, e2, _, h2, _⟩
  · rw [h'] at e; simp [Value.ownBlock] at e
  · rw [e2] at e
    simp only [Value.ownBlock, Option.some.injEq] at e
    rw [e, hr] at h2
    simp only [Option.some.injEq, Obj.cells.injEq] at h2
    exact hT h2.2.1
theorem OwnL.notRow {B p : Nat} {v : Value} {l : List Int} {cs : List Value} {T : TypeId} (h : OwnL V B v l) (hr : V.heap[p]? = some (.cells cs.toArray T (0, 0))) (hT : T ≠ 2) : v.ownBlock ≠ some p := fun e => by
  rcases h.2 with ⟨h', _⟩ | ⟨gg, cp, cur, e2, _, h2, _⟩
  · rw [h'] at e; simp [Value.ownBlock] at e
  · rw [e2] at e
    simp only [Value.ownBlock, Option.some.injEq] at e
    rw [e, hr] at h2
    simp only [Option.some.injEq, Obj.cells.injEq] at h2
    exact hT h2.2.1
end
end Go.Proofs.YtegmmaomaegjjaaGreatDoor
