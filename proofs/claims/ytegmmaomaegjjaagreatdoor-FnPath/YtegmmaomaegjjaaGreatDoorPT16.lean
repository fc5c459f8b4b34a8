/- spec.DrawPathCheck, walked. -/
import Derived.Test.YtegmmaomaegjjaaGreatDoorPT15
import Derived.Test.YtegmmaomaegjjaaGreatDoorPT01
import Derived.Deep.Cut
import Derived.Deep.RegionHeld3
namespace Go.Proofs.YtegmmaomaegjjaaGreatDoor
open Go.RowKit

theorem sk_edge {w W : World} {a : Option Addr} {len cap : Nat} (h : SS w a len cap W) :
    Calls Tryz.prog 23 #[.pointer (some ⟨w.heap.size, 0, none⟩)] W fun e w' => AnyI e ∧ SS w a len cap w' ∧ Grows w.heap.size W w' := by
  refine (edge_any w.heap.size a len cap W h.1).mono ?_
  rintro e w' ⟨hb, h1, h2⟩
  exact ⟨hb, h.grows h1 h2, h2⟩
/-- Two papers, a list and a time are told. -/
def AnyPath (w : World) (e : Ending) (w' : World) : Prop := ∃ (r c : Paper) (l : Lst) (t : Int) (vr vc vl : Value), e = .returned (.tuple #[r.val vr, c.val vc, l.val vl, .int .i64 t]) ∧ inW t ∧ PMay r ∧ PMay c ∧ LMay l ∧ OwnS w' w.heap.size vr r.names ∧ OwnS w' w.heap.size vc c.names ∧ OwnL w' w.heap.size vl l.serials
set_option linter.unusedVariables false in
set_option linter.unusedSimpArgs false in
set_option maxRecDepth 100000 in
set_option maxHeartbeats 8000000 in
theorem drawPathCheck (a : Option Addr) (len cap : Nat) (w : World) (hlen : len ≤ 1048576) (hc : CodeAt a len w) (hblk : ∀ x, 0 < len → a = some x → x.block < w.heap.size) :
    Calls Tryz.prog 4 #[.slice a len cap] w fun e w' => AnyPath w e w' ∧ Below w.heap.size w w' := by
  obtain ⟨w1, hw1⟩ : ∃ y, y = ((w.alloc (.cells [Value.int .i64 0, .string ⟨#[]⟩, .string ⟨#[]⟩, .int .i64 0, .int .i64 0, .int .i64 0, .slice none 0 0, .bool false, .int .i64 0, .int .i64 0, .int .i64 0].toArray 27 (0, 0))).alloc (.cells [Value.int .i64 0, .string ⟨#[]⟩, .string ⟨#[]⟩, .int .i64 0, .int .i64 0, .int .i64 0, .slice none 0 0, .bool false, .int .i64 0, .int .i64 0, .int .i64 0].toArray 27 (0, 0))).alloc (.cells [Value.string ⟨#[]⟩, .int .i64 0, .int .i64 0, .slice none 0 0, .int .i64 0, .int .i64 0, .int .i64 0].toArray 30 (0, 0)) := ⟨_, rfl⟩
  have b1 : Below w.heap.size w w1 := by rw [hw1]; exact (((Below.refl _ _).alloc (Nat.le_refl _) _).alloc (by simp) _).alloc (by simp; omega) _
  have HZ : Hid (w1.heap.size = w.heap.size + 3) := by rw [hw1]; show _ = _; simp
  have Z1 : Hid (w1.heap[w.heap.size]? = some (.cells [Value.int .i64 0, .string ⟨#[]⟩, .string ⟨#[]⟩, .int .i64 0, .int .i64 0, .int .i64 0, .slice none 0 0, .bool false, .int .i64 0, .int .i64 0, .int .i64 0].toArray 27 (0, 0))) := by rw [hw1]; show _ = _; rw [Below.heap_alloc _ _ _ (by simp; omega), Below.heap_alloc _ _ _ (by simp)]; exact heap_alloc_new w _
  have Z2 : Hid (w1.heap[w.heap.size + 1]? = some (.cells [Value.int .i64 0, .string ⟨#[]⟩, .string ⟨#[]⟩, .int .i64 0, .int .i64 0, .int .i64 0, .slice none 0 0, .bool false, .int .i64 0, .int .i64 0, .int .i64 0].toArray 27 (0, 0))) := by rw [hw1]; show _ = _; rw [Below.heap_alloc _ _ _ (by simp)]; exact heap_alloc2 w _ _
  have Z3 : Hid (w1.heap[w.heap.size + 2]? = some (.cells [Value.string ⟨#[]⟩, .int .i64 0, .int .i64 0, .slice none 0 0, .int .i64 0, .int .i64 0, .int .i64 0].toArray 30 (0, 0))) := by rw [hw1]; show _ = _; have := heap_alloc_new ((w.alloc (.cells [Value.int .i64 0, .string ⟨#[]⟩, .string ⟨#[]⟩, .int .i64 0, .int .i64 0, .int .i64 0, .slice none 0 0, .bool false, .int .i64 0, .int .i64 0, .int .i64 0].toArray 27 (0, 0))).alloc (.cells [Value.int .i64 0, .string ⟨#[]⟩, .string ⟨#[]⟩, .int .i64 0, .int .i64 0, .int .i64 0, .slice none 0 0, .bool false, .int .i64 0, .int .i64 0, .int .i64 0].toArray 27 (0, 0))) (.cells [Value.string ⟨#[]⟩, .int .i64 0, .int .i64 0, .slice none 0 0, .int .i64 0, .int .i64 0, .int .i64 0].toArray 30 (0, 0)); simpa using this
  have HC : Hid (CodeAt a len w1) := hc.below b1 hblk
  have HB : Hid (∀ x, 0 < len → a = some x → x.block < w1.heap.size) := fun x h0 hx => by have := hblk x h0 hx; have := HZ.out; omega
  have B1 : Hid (Below w.heap.size w w1) := b1
  clear b1 hc hblk
  go_enter Tryz.func4, Tryz.ntmps4
  go_upto_region 1 with fail
  rw [← hw1]
  clear hw1
  go_wp2_with fail
  refine (ss_source a len cap w1 hlen HC.out HB.out).mono ?_
  rintro e w2 ⟨rfl, h2⟩
  have S2 : Hid (SS w1 a len cap w2) := h2
  have hlt2 : w1.heap.size < w2.heap.size := h2.2.2.1
  clear h2
  go_wp2_with fail
  refine (specRoot w2).mono ?_
  rintro e w3 ⟨r, vr, rfl, or3, mr3, nr3, b3⟩
  have hq1 : w2.heap.size ≤ w3.heap.size := b3.size
  obtain ⟨va, vc, rfl, _⟩ := or3.form
  obtain ⟨rser, riss, rsub, rfr, rtill, rkey, rnames, rca, rsk, rse, rss⟩ := r
  obtain ⟨rl, hrl⟩ : ∃ n, n = rnames.length := ⟨_, rfl⟩
  have HRl : Hid (rl = rnames.length) := hrl
  simp only at hrl or3
  unfold Paper.val
  simp only
  rw [← hrl] at or3 nr3 ⊢
  clear hrl
  obtain ⟨w4, hw4⟩ : ∃ y, y = w3.alloc (.cells [Value.int .i64 rser, .string riss, .string rsub, .int .i64 rfr, .int .i64 rtill, .int .i64 rkey, .slice va rl vc, .bool rca, .int .i64 rsk, .int .i64 rse, .int .i64 rss].toArray 27 (0, 0)) := ⟨_, rfl⟩
  have b4 : Below w3.heap.size w3 w4 := by rw [hw4]; exact (Below.refl _ _).alloc (Nat.le_refl _) _
  have r4 : w4.heap[w3.heap.size]? = some (.cells [Value.int .i64 rser, .string riss, .string rsub, .int .i64 rfr, .int .i64 rtill, .int .i64 rkey, .slice va rl vc, .bool rca, .int .i64 rsk, .int .i64 rse, .int .i64 rss].toArray 27 (0, 0)) := by rw [hw4]; exact heap_alloc_new w3 _
  have e4 : Below w2.heap.size w2 w4 := b3.trans (b4.mono b3.size)
  have V4 : Hid (CV w1 a len cap w2 w3.heap.size w4 ⟨rser, riss, rsub, rfr, rtill, rkey, rnames, rca, rsk, rse, rss⟩ (.slice va rl vc)) :=
    ⟨r4, or3.keep b4, (or3.keep b4).notRow r4 (by decide), mr3, nr3, S2.out.keep e4, below_grows e4⟩
  clear b3 b4 r4 e4 or3 mr3 nr3 S2
  go_upto_region 3 with fail
  rw [← hw4]
  clear hw4
  go_wp2_with fail
  refine (sk_cert V4.out.ss).mono ?_
  rintro e w5 ⟨c, v5, rfl, oc5, mc5, nc5, h5, hg5⟩
  have V5 : Hid (CV w1 a len cap w2 w3.heap.size w5 ⟨rser, riss, rsub, rfr, rtill, rkey, rnames, rca, rsk, rse, rss⟩ (.slice va rl vc)) := V4.out.keep (by omega) hlt2 h5 hg5
  have hq45 : w4.heap.size ≤ w5.heap.size := hg5.size
  have hq4 : w3.heap.size < w4.heap.size := heap_lt V4.out.row
  obtain ⟨ca, cc, rfl, _⟩ := oc5.form
  obtain ⟨cser, ciss, csub, cfr, ctill, ckey, cnames, cca, csk, cse, css⟩ := c
  obtain ⟨cl, hcl⟩ : ∃ n, n = cnames.length := ⟨_, rfl⟩
  simp only at hcl oc5
  unfold Paper.val
  simp only
  rw [← hcl] at oc5 nc5 ⊢
  clear hcl
  obtain ⟨w6, hw6⟩ : ∃ y, y = w5.alloc (.cells [Value.int .i64 cser, .string ciss, .string csub, .int .i64 cfr, .int .i64 ctill, .int .i64 ckey, .slice ca cl cc, .bool cca, .int .i64 csk, .int .i64 cse, .int .i64 css].toArray 27 (0, 0)) := ⟨_, rfl⟩
  have b6 : Below w5.heap.size w5 w6 := by rw [hw6]; exact (Below.refl _ _).alloc (Nat.le_refl _) _
  have r6 : w6.heap[w5.heap.size]? = some (.cells [Value.int .i64 cser, .string ciss, .string csub, .int .i64 cfr, .int .i64 ctill, .int .i64 ckey, .slice ca cl cc, .bool cca, .int .i64 csk, .int .i64 cse, .int .i64 css].toArray 27 (0, 0)) := by rw [hw6]; exact heap_alloc_new w5 _
  have V6 : Hid (CV w1 a len cap w2 w3.heap.size w6 ⟨rser, riss, rsub, rfr, rtill, rkey, rnames, rca, rsk, rse, rss⟩ (.slice va rl vc)) := V5.out.keep (by omega) hlt2 (h5.keep b6) (below_grows b6)
  have W6 : Hid (CV w1 a len cap w2 w5.heap.size w6 ⟨cser, ciss, csub, cfr, ctill, ckey, cnames, cca, csk, cse, css⟩ (.slice ca cl cc)) :=
    ⟨r6, (oc5.mono V4.out.grows.size).keep b6, (oc5.keep b6).notRow r6 (by decide), mc5, nc5, h5.keep b6, V5.out.grows.trans (below_grows b6)⟩
  clear b6 r6 oc5 mc5 nc5 h5 hg5 V4 V5
  go_upto_region 4 with fail
  rw [← hw6]
  clear hw6
  go_wp2_with fail
  refine (sk_crl V6.out.ss).mono ?_
  rintro e w7 ⟨l, v7, rfl, ol7, ml7, h7, hg7⟩
  have V7 : Hid (CV w1 a len cap w2 w3.heap.size w7 ⟨rser, riss, rsub, rfr, rtill, rkey, rnames, rca, rsk, rse, rss⟩ (.slice va rl vc)) := V6.out.keep (by omega) hlt2 h7 hg7
  have W7 : Hid (CV w1 a len cap w2 w5.heap.size w7 ⟨cser, ciss, csub, cfr, ctill, ckey, cnames, cca, csk, cse, css⟩ (.slice ca cl cc)) := W6.out.keep (by omega) hlt2 h7 hg7
  have hq67 : w6.heap.size ≤ w7.heap.size := hg7.size
  have hq6 : w5.heap.size < w6.heap.size := heap_lt W6.out.row
  obtain ⟨la, lc, rfl, _⟩ := ol7.form
  obtain ⟨liss, lfr, ltill, lser, lsk, lse, lss⟩ := l
  obtain ⟨ll, hll⟩ : ∃ n, n = lser.length := ⟨_, rfl⟩
  simp only at hll ol7
  unfold Lst.val
  simp only
  rw [← hll] at ol7 ⊢
  clear hll
  obtain ⟨w8, hw8⟩ : ∃ y, y = w7.alloc (.cells [Value.string liss, .int .i64 lfr, .int .i64 ltill, .slice la ll lc, .int .i64 lsk, .int .i64 lse, .int .i64 lss].toArray 30 (0, 0)) := ⟨_, rfl⟩
  have b8 : Below w7.heap.size w7 w8 := by rw [hw8]; exact (Below.refl _ _).alloc (Nat.le_refl _) _
  have r8 : w8.heap[w7.heap.size]? = some (.cells [Value.string liss, .int .i64 lfr, .int .i64 ltill, .slice la ll lc, .int .i64 lsk, .int .i64 lse, .int .i64 lss].toArray 30 (0, 0)) := by rw [hw8]; exact heap_alloc_new w7 _
  have P8 : Hid (PV w1 a len cap w2 w3.heap.size w5.heap.size w7.heap.size w8) :=
    ⟨⟨rser, riss, rsub, rfr, rtill, rkey, rnames, rca, rsk, rse, rss⟩, .slice va rl vc, ⟨cser, ciss, csub, cfr, ctill, ckey, cnames, cca, csk, cse, css⟩, .slice ca cl cc, ⟨liss, lfr, ltill, lser, lsk, lse, lss⟩, .slice la ll lc, V7.out.keep (by omega) hlt2 (h7.keep b8) (below_grows b8), W7.out.keep (by omega) hlt2 (h7.keep b8) (below_grows b8),
      ⟨r8, (ol7.mono W6.out.grows.size).keep b8, (ol7.keep b8).notRow r8 (by decide), ml7, h7.keep b8, W7.out.grows.trans (below_grows b8)⟩⟩
  clear b8 r8 ol7 ml7 h7 hg7 V6 V7 W6 W7 HRl
  go_upto_region 5 with fail
  rw [← hw8]
  clear hw8
  go_wp2_with fail
  refine (sk_one 4 (by omega) P8.out.ss).mono ?_
  rintro e w9 ⟨⟨bb, rfl⟩, h9, hg9⟩
  have P9 : Hid (PV w1 a len cap w2 w3.heap.size w5.heap.size w7.heap.size w9) := P8.out.keep (by omega) (by omega) (by omega) hlt2 h9 hg9
  clear h9 hg9 P8
  go_upto_if 19 with fail
  go_cut [] from 10 (fun wx => PV w1 a len cap w2 w3.heap.size w5.heap.size w7.heap.size wx)
  case first =>
    cases bb with
    | true =>
      go_wp2_with fail
      go_meet
      case rel => exact P9.out
    | false =>
      go_wp2_with fail
      refine (sk_n 9 (by omega) P9.out.ss).mono ?_
      rintro e y1 ⟨n1, rfl, hn1, g1, k1⟩
      have Q1 : Hid (PV w1 a len cap w2 w3.heap.size w5.heap.size w7.heap.size y1) := P9.out.keep (by omega) (by omega) (by omega) hlt2 g1 k1
      obtain ⟨ser, hser, hserw⟩ : ∃ n : Int, inW n ∧ IntKind.i64.wrap (2 + (n1 : Int)) = n := ⟨_, by unfold inW; rw [IntKind.wrap_i64]; omega, rfl⟩
      clear g1 k1 hn1 P9
      go_wp2_with fail
      refine (sk_n 9 (by omega) Q1.out.ss).mono ?_
      rintro e y2 ⟨n2, rfl, hn2, g2, k2⟩
      have Q2 : Hid (PV w1 a len cap w2 w3.heap.size w5.heap.size w7.heap.size y2) := Q1.out.keep (by omega) (by omega) (by omega) hlt2 g2 k2
      obtain ⟨fr, hfr, hfre⟩ : ∃ n : Int, inW n ∧ (n2 : Int) = n := ⟨_, by unfold inW; omega, rfl⟩
      clear g2 k2 hn2 Q1
      rw [hfre]
      clear hfre
      go_wp2_with fail
      refine (sk_n 30 (by omega) Q2.out.ss).mono ?_
      rintro e y3 ⟨n3, rfl, hn3, g3, k3⟩
      have Q3 : Hid (PV w1 a len cap w2 w3.heap.size w5.heap.size w7.heap.size y3) := Q2.out.keep (by omega) (by omega) (by omega) hlt2 g3 k3
      obtain ⟨till, htill, htillw⟩ : ∃ n : Int, inW n ∧ IntKind.i64.wrap (30 + (n3 : Int)) = n := ⟨_, by unfold inW; rw [IntKind.wrap_i64]; omega, rfl⟩
      clear g3 k3 hn3 Q2
      go_wp2_with fail
      refine (specPublic 7 y3).mono ?_
      rintro e y3' ⟨rfl, rfl⟩
      have hpk := pubA_in 7
      generalize pubA 7 = pk at *
      go_wp2_with fail
      refine (sk_names Q3.out.ss).mono ?_
      rintro e y4 ⟨g, gc, names, rfl, ho4, hl4, hs4, g4, k4⟩
      have Q4 : Hid (PV w1 a len cap w2 w3.heap.size w5.heap.size w7.heap.size y4) := Q3.out.keep (by omega) (by omega) (by omega) hlt2 g4 k4
      have hQ3 := Q3.out.grows.size
      have hm : PMay ⟨ser, ⟨#[114, 111, 111, 116]⟩, ⟨#[97, 110, 110]⟩, fr, till, pk, names, false, 0, 0, 0⟩ := ⟨by show (⟨#[114, 111, 111, 116]⟩ : ByteArray).size ≤ 10; decide, by show (⟨#[97, 110, 110]⟩ : ByteArray).size ≤ 10; decide, by show names.length ≤ 5; omega, hs4, hser, hfr, htill, hpk, zero_inW, zero_inW, zero_inW⟩
      obtain ⟨k, e, s, hsv, hk', he', hs'⟩ := signV_may 5 (bodyD ⟨ser, ⟨#[114, 111, 111, 116]⟩, ⟨#[97, 110, 110]⟩, fr, till, pk, names, false, 0, 0, 0⟩)
      have hmR := sign_may (x := 5) hm hk' he' hs'
      have hsg := specSignR 5 ⟨ser, ⟨#[114, 111, 111, 116]⟩, ⟨#[97, 110, 110]⟩, fr, till, pk, names, false, 0, 0, 0⟩ (some ⟨g, 0, none⟩) gc k e s y4 (by show (⟨#[114, 111, 111, 116]⟩ : ByteArray).size ≤ maxLen; decide) (by show (⟨#[97, 110, 110]⟩ : ByteArray).size ≤ maxLen; decide) (by show names.length ≤ 1048576; omega) (by have := hm.tot; omega) ho4.strs (fun _ => ho4.rowT) (fun _ _ => hsv)
      have HZP : Hid (signP 5 ⟨ser, ⟨#[114, 111, 111, 116]⟩, ⟨#[97, 110, 110]⟩, fr, till, pk, names, false, 0, 0, 0⟩ k e s = zeroP → (signP 5 ⟨ser, ⟨#[114, 111, 111, 116]⟩, ⟨#[97, 110, 110]⟩, fr, till, pk, names, false, 0, 0, 0⟩ k e s).issuer.size = 0) := fun h => by rw [h]; rfl
      generalize signP 5 ⟨ser, ⟨#[114, 111, 111, 116]⟩, ⟨#[97, 110, 110]⟩, fr, till, pk, names, false, 0, 0, 0⟩ k e s = R at *
      obtain ⟨nl, hnl⟩ : ∃ n, n = names.length := ⟨_, rfl⟩
      rw [show (⟨ser, ⟨#[114, 111, 111, 116]⟩, ⟨#[97, 110, 110]⟩, fr, till, pk, names, false, 0, 0, 0⟩ : Paper).names.length = nl from hnl.symm] at hsg
      rw [← hnl]
      have HSg : Hid (Calls Tryz.prog 19 #[.int .i64 5, .agg #[.int .i64 ser, .string ⟨#[114, 111, 111, 116]⟩, .string ⟨#[97, 110, 110]⟩, .int .i64 fr, .int .i64 till, .int .i64 pk, .slice (some ⟨g, 0, none⟩) nl gc, .bool false, .int .i64 0, .int .i64 0, .int .i64 0]] y4 fun r w' => ∃ v, r = .returned (R.val v) ∧ OwnS w' y4.heap.size v R.names ∧ Below y4.heap.size y4 w' ∧ (v = .slice none 0 0 → R = zeroP)) := hsg
      have HMR : Hid (PMay R) := hmR
      clear hsg hsv hk' he' hs' hmR hm ho4 hs4 g4 k4 Q3 hnl hl4
      go_wp2_with fail
      refine HSg.out.mono ?_
      rintro e' y5 ⟨v, rfl, o5, b5, hvn⟩
      have Q5 : Hid (PV w1 a len cap w2 w3.heap.size w5.heap.size w7.heap.size y5) := Q4.out.keep (by omega) (by omega) (by omega) hlt2 (Q4.out.ss.keep b5) (below_grows b5)
      have hQ4 : w2.heap.size ≤ y4.heap.size := Q4.out.grows.size
      clear b5 HSg Q4
      obtain ⟨r0, vr0, c0, vc0, l0, vl0, R0, C0, L0⟩ := Q5.out
      obtain ⟨va0, vx0, hvv, _⟩ := o5.form
      subst hvv
      have rz : y5.heap[w5.heap.size]? = some (.cells (c0.cells vc0).toArray 27 (0, 0)) := C0.row
      have h1c : ∀ u ∈ R.cells (.slice va0 R.names.length vx0), u.oneCell' = true := by simp [Paper.cells, Value.oneCell']
      have hnot := o5.notRow rz (by decide)
      have hnr := R0.own.notRow rz (by decide)
      have hnl := L0.own.notRow rz (by decide)
      have HM5 : Hid (OwnS y5 w2.heap.size (.slice va0 R.names.length vx0) R.names) := o5.mono hQ4
      have HV5 : Hid (Value.slice va0 R.names.length vx0 = .slice none 0 0 → R.issuer.size = 0) := fun h => HZP.out (hvn h)
      have HK5 : Hid (∀ V, V.heap[w5.heap.size]? = some (.cells (R.cells (.slice va0 R.names.length vx0)).toArray 27 (0, 0)) → y5.grownBy V (some w5.heap.size) → PV w1 a len cap w2 w3.heap.size w5.heap.size w7.heap.size V) := fun V hr hg =>
        ⟨r0, vr0, R, .slice va0 R.names.length vx0, l0, vl0, R0.other (by omega) (by omega) hg (by omega) hnr, ⟨hr, HM5.out.rowOff hg hnot, hnot, HMR.out, HV5.out, R0.ss.row hg (by omega), R0.grows.row hg (by omega)⟩, L0.other (by omega) (by omega) hg (by omega) hnl⟩
      clear hnot hnr hnl o5 hvn R0 C0 L0 Q5 HM5 HV5 HZP
      obtain ⟨Rser, Riss, Rsub, Rfr, Rtill, Rkey, Rnames, Rca, Rsk, Rse, Rss⟩ := R
      obtain ⟨cser0, ciss0, csub0, cfr0, ctill0, ckey0, cnames0, cca0, csk0, cse0, css0⟩ := c0
      unfold Paper.cells at rz h1c HK5
      unfold Paper.val
      simp only at rz h1c HK5 ⊢
      obtain ⟨Rl, hRl⟩ : ∃ n, n = Rnames.length := ⟨_, rfl⟩
      rw [← hRl] at h1c HK5 ⊢
      clear hRl
      go_wp2_with (refine wpList_store_row rfl 27 _ _ rfl w5.heap.size [Value.int .i64 cser0, .string ciss0, .string csub0, .int .i64 cfr0, .int .i64 ctill0, .int .i64 ckey0, vc0, .bool cca0, .int .i64 csk0, .int .i64 cse0, .int .i64 css0] [Value.int .i64 Rser, .string Riss, .string Rsub, .int .i64 Rfr, .int .i64 Rtill, .int .i64 Rkey, .slice va0 Rl vx0, .bool Rca, .int .i64 Rsk, .int .i64 Rse, .int .i64 Rss] 27 rfl rfl rz rfl sizeCert h1c ?_)
      intro y6 hrow6 ho6 hs6 hbb6
      have Q6 : Hid (PV w1 a len cap w2 w3.heap.size w5.heap.size w7.heap.size y6) := HK5.out _ hrow6 (grown_row ho6 hbb6)
      clear hrow6 ho6 hs6 hbb6 HK5 rz h1c
      go_wp2_with fail
      refine (sk_n 20 (by omega) Q6.out.ss).mono ?_
      rintro e y7 ⟨n7, rfl, hn7, g7, k7⟩
      have Q7 : Hid (PV w1 a len cap w2 w3.heap.size w5.heap.size w7.heap.size y7) := Q6.out.keep (by omega) (by omega) (by omega) hlt2 g7 k7
      obtain ⟨lfr1, hlfr, hlfre⟩ : ∃ n : Int, inW n ∧ (n7 : Int) = n := ⟨_, by unfold inW; omega, rfl⟩
      clear g7 k7 hn7 Q6
      rw [hlfre]
      clear hlfre
      go_wp2_with fail
      refine (sk_n 30 (by omega) Q7.out.ss).mono ?_
      rintro e y8 ⟨n8, rfl, hn8, g8, k8⟩
      have Q8 : Hid (PV w1 a len cap w2 w3.heap.size w5.heap.size w7.heap.size y8) := Q7.out.keep (by omega) (by omega) (by omega) hlt2 g8 k8
      obtain ⟨ltill1, hltill, hltillw⟩ : ∃ n : Int, inW n ∧ IntKind.i64.wrap (30 + (n8 : Int)) = n := ⟨_, by unfold inW; rw [IntKind.wrap_i64]; omega, rfl⟩
      clear g8 k8 hn8 Q7
      go_wp2_with fail
      refine (sk_n 4 (by omega) (Q8.out.ss.alloc _)).mono ?_
      rintro e y9 ⟨n9, rfl, hn9, g9, k9⟩
      have Q9 : Hid (PV w1 a len cap w2 w3.heap.size w5.heap.size w7.heap.size y9) := (Q8.out.keep (by omega) (by omega) (by omega) hlt2 (Q8.out.ss.alloc _) ((Grows.refl _ _).alloc _)).keep (by omega) (by omega) (by omega) hlt2 g9 k9
      have hz8 : w1.heap.size < y8.heap.size := Q8.out.ss.2.2.1
      have hrow9 : y9.heap[y8.heap.size]? = some (.cells #[.int .i64 3, .int .i64 5, .int .i64 7] 2 (0, 0)) := by
        rw [k9.keepBlock (by simp) (by omega), heap_alloc_new]
      have hn9' : n9 ≤ 3 := by omega
      have hc9 : ∀ i, i < (([3, 5, 7] : List Int).take n9).length → y9.cell? ⟨y8.heap.size, 0 + i, none⟩ = some (.int .i64 (([3, 5, 7] : List Int).take n9 |>.getD i 0)) := fun i hi => by
        have hi' : i < n9 := by simp at hi; omega
        rw [Nat.zero_add, cell_of_row y9 y8.heap.size i _ _ (0, 0) hrow9, List.getD_eq_getElem?_getD, List.getElem?_take, if_pos hi']
        have hi3 : i = 0 ∨ i = 1 ∨ i = 2 := by omega
        rcases hi3 with rfl | rfl | rfl <;> rfl
      have hlt9 := heap_lt hrow9
      have hl9 : (([3, 5, 7] : List Int).take n9).length = n9 := by simp; omega
      clear g9 k9 hn9 Q8
      have q9a : (0 : Int) ≤ (n9 : Int) := by omega
      have q9b : (n9 : Int) ≤ 3 := by omega
      generalize ([3, 5, 7] : List Int).take n9 = zs at *
      have hm9 : LMay ⟨⟨#[114, 111, 111, 116]⟩, lfr1, ltill1, zs, 0, 0, 0⟩ := ⟨by show (⟨#[114, 111, 111, 116]⟩ : ByteArray).size ≤ 10; decide, by show zs.length ≤ 60; omega, hlfr, hltill, zero_inW, zero_inW, zero_inW⟩
      obtain ⟨k, e, s, hsv, hk', he', hs'⟩ := signV_may 5 (listD ⟨⟨#[114, 111, 111, 116]⟩, lfr1, ltill1, zs, 0, 0, 0⟩)
      have hmR := signL_may (x := 5) hm9 hk' he' hs'
      have hsg := specSignLG 5 ⟨⟨#[114, 111, 111, 116]⟩, lfr1, ltill1, zs, 0, 0, 0⟩ (some ⟨y8.heap.size, 0, none⟩) 3 k e s y9 (by show (⟨#[114, 111, 111, 116]⟩ : ByteArray).size ≤ maxLen; decide) (by show zs.length ≤ 1048576; omega) (.inr ⟨_, _, rfl, hlt9, hc9⟩) (fun _ _ => hsv)
      rw [show (⟨⟨#[114, 111, 111, 116]⟩, lfr1, ltill1, zs, 0, 0, 0⟩ : Lst).serials.length = n9 from hl9] at hsg
      generalize signL 5 ⟨⟨#[114, 111, 111, 116]⟩, lfr1, ltill1, zs, 0, 0, 0⟩ k e s = R at *
      have HSg : Hid (Calls Tryz.prog 22 #[.int .i64 5, .agg #[.string ⟨#[114, 111, 111, 116]⟩, .int .i64 lfr1, .int .i64 ltill1, .slice (some ⟨y8.heap.size, 0, none⟩) n9 3, .int .i64 0, .int .i64 0, .int .i64 0]] y9 fun r w' => ∃ v, r = .returned (R.val v) ∧ OwnL w' y9.heap.size v R.serials ∧ Below y9.heap.size y9 w') := hsg
      have HML : Hid (LMay R) := hmR
      clear hsg hsv hk' he' hs' hmR hm9 hc9 hrow9 hlt9 hl9
      go_wp2_with fail
      refine HSg.out.mono ?_
      rintro e' y10 ⟨v, rfl, o10, b10⟩
      have Q10 : Hid (PV w1 a len cap w2 w3.heap.size w5.heap.size w7.heap.size y10) := Q9.out.keep (by omega) (by omega) (by omega) hlt2 (Q9.out.ss.keep b10) (below_grows b10)
      have hQ9 : w2.heap.size ≤ y9.heap.size := Q9.out.grows.size
      clear b10 HSg Q9
      obtain ⟨r0, vr0, c0, vc0, l0, vl0, R0, C0, L0⟩ := Q10.out
      obtain ⟨va0, vx0, hvv, _⟩ := o10.form
      subst hvv
      have rz : y10.heap[w7.heap.size]? = some (.cells (l0.cellsL vl0).toArray 30 (0, 0)) := L0.row
      have h1c : ∀ u ∈ R.cellsL (.slice va0 R.serials.length vx0), u.oneCell' = true := by simp [Lst.cellsL, Value.oneCell']
      have hnot := o10.notRow rz (by decide)
      have hnr := R0.own.notRow rz (by decide)
      have hnl := C0.own.notRow rz (by decide)
      have HM5 : Hid (OwnL y10 w2.heap.size (.slice va0 R.serials.length vx0) R.serials) := o10.mono hQ9
      have HK5 : Hid (∀ V, V.heap[w7.heap.size]? = some (.cells (R.cellsL (.slice va0 R.serials.length vx0)).toArray 30 (0, 0)) → y10.grownBy V (some w7.heap.size) → PV w1 a len cap w2 w3.heap.size w5.heap.size w7.heap.size V) := fun V hr hg =>
        ⟨r0, vr0, c0, vc0, R, .slice va0 R.serials.length vx0, R0.other (by omega) (by omega) hg (by omega) hnr, C0.other (by omega) (by omega) hg (by omega) hnl, ⟨hr, HM5.out.rowOff hg hnot, hnot, HML.out, R0.ss.row hg (by omega), R0.grows.row hg (by omega)⟩⟩
      clear hnot hnr hnl o10 R0 C0 L0 Q10 HM5
      obtain ⟨Riss, Rfr, Rtill, Rser, Rsk, Rse, Rss⟩ := R
      obtain ⟨liss0, lfr0, ltill0, lser0, lsk0, lse0, lss0⟩ := l0
      unfold Lst.cellsL at rz h1c HK5
      unfold Lst.val
      simp only at rz h1c HK5 ⊢
      obtain ⟨Rl, hRl⟩ : ∃ n, n = Rser.length := ⟨_, rfl⟩
      rw [← hRl] at h1c HK5 ⊢
      clear hRl
      go_wp2_with (refine wpList_store_row rfl 30 _ _ rfl w7.heap.size [Value.string liss0, .int .i64 lfr0, .int .i64 ltill0, vl0, .int .i64 lsk0, .int .i64 lse0, .int .i64 lss0] [Value.string Riss, .int .i64 Rfr, .int .i64 Rtill, .slice va0 Rl vx0, .int .i64 Rsk, .int .i64 Rse, .int .i64 Rss] 30 rfl rfl rz rfl sizeCrl h1c ?_)
      intro y11 hrow11 ho11 hs11 hbb11
      have Q11 : Hid (PV w1 a len cap w2 w3.heap.size w5.heap.size w7.heap.size y11) := HK5.out _ hrow11 (grown_row ho11 hbb11)
      clear hrow11 ho11 hs11 hbb11 HK5 rz h1c
      go_wp2_with fail
      go_meet
      case rel => exact Q11.out
  case rest =>
    have P10 : Hid (PV w1 a len cap w2 w3.heap.size w5.heap.size w7.heap.size wc) := hcut
    clear hcut P9
    go_wp2_with fail
    refine (sk_one 15 (by omega) P10.out.ss).mono ?_
    rintro e w11 ⟨⟨bb2, rfl⟩, h11, hg11⟩
    have P11 : Hid (PV w1 a len cap w2 w3.heap.size w5.heap.size w7.heap.size w11) := P10.out.keep (by omega) (by omega) (by omega) hlt2 h11 hg11
    clear h11 hg11 P10
    go_upto_if 45 with fail
    go_cut [] from 10 (fun wx => PV w1 a len cap w2 w3.heap.size w5.heap.size w7.heap.size wx)
    case first =>
      cases bb2 with
      | false =>
        go_wp2_with fail
        go_meet
        case rel => exact P11.out
      | true =>
        go_wp2_with fail
        refine (sk_cert P11.out.ss).mono ?_
        rintro e y5 ⟨R, v, rfl, o5, hmR, hvn, h5, k5⟩
        have Q5 : Hid (PV w1 a len cap w2 w3.heap.size w5.heap.size w7.heap.size y5) := P11.out.keep (by omega) (by omega) (by omega) hlt2 h5 k5
        have HMR : Hid (PMay R) := hmR
        have hQ4 : w2.heap.size ≤ w11.heap.size := P11.out.grows.size
        clear P11 h5 k5 hmR
        obtain ⟨r0, vr0, c0, vc0, l0, vl0, R0, C0, L0⟩ := Q5.out
        obtain ⟨va0, vx0, hvv, _⟩ := o5.form
        subst hvv
        have rz : y5.heap[w3.heap.size]? = some (.cells (r0.cells vr0).toArray 27 (0, 0)) := R0.row
        have h1c : ∀ u ∈ R.cells (.slice va0 R.names.length vx0), u.oneCell' = true := by simp [Paper.cells, Value.oneCell']
        have hnot := o5.notRow rz (by decide)
        have hnr := C0.own.notRow rz (by decide)
        have hnl := L0.own.notRow rz (by decide)
        have HM5 : Hid (OwnS y5 w2.heap.size (.slice va0 R.names.length vx0) R.names) := o5.mono hQ4
        have HK5 : Hid (∀ V, V.heap[w3.heap.size]? = some (.cells (R.cells (.slice va0 R.names.length vx0)).toArray 27 (0, 0)) → y5.grownBy V (some w3.heap.size) → PV w1 a len cap w2 w3.heap.size w5.heap.size w7.heap.size V) := fun V hr hg =>
          ⟨R, .slice va0 R.names.length vx0, c0, vc0, l0, vl0, ⟨hr, HM5.out.rowOff hg hnot, hnot, HMR.out, hvn, R0.ss.row hg (by omega), R0.grows.row hg (by omega)⟩, C0.other (by omega) (by omega) hg (by omega) hnr, L0.other (by omega) (by omega) hg (by omega) hnl⟩
        clear hnot hnr hnl o5 R0 C0 L0 Q5 HM5 hvn
        obtain ⟨Rser, Riss, Rsub, Rfr, Rtill, Rkey, Rnames, Rca, Rsk, Rse, Rss⟩ := R
        obtain ⟨cser0, ciss0, csub0, cfr0, ctill0, ckey0, cnames0, cca0, csk0, cse0, css0⟩ := r0
        unfold Paper.cells at rz h1c HK5
        unfold Paper.val
        simp only at rz h1c HK5 ⊢
        obtain ⟨Rl, hRl⟩ : ∃ n, n = Rnames.length := ⟨_, rfl⟩
        rw [← hRl] at h1c HK5 ⊢
        clear hRl
        go_wp2_with (refine wpList_store_row rfl 27 _ _ rfl w3.heap.size [Value.int .i64 cser0, .string ciss0, .string csub0, .int .i64 cfr0, .int .i64 ctill0, .int .i64 ckey0, vr0, .bool cca0, .int .i64 csk0, .int .i64 cse0, .int .i64 css0] [Value.int .i64 Rser, .string Riss, .string Rsub, .int .i64 Rfr, .int .i64 Rtill, .int .i64 Rkey, .slice va0 Rl vx0, .bool Rca, .int .i64 Rsk, .int .i64 Rse, .int .i64 Rss] 27 rfl rfl rz rfl sizeCert h1c ?_)
        intro y6 hrow6 ho6 hs6 hbb6
        have Q6 : Hid (PV w1 a len cap w2 w3.heap.size w5.heap.size w7.heap.size y6) := HK5.out _ hrow6 (grown_row ho6 hbb6)
        clear hrow6 ho6 hs6 hbb6 HK5 rz h1c
        go_wp2_with fail
        go_meet
        case rel => exact Q6.out
    case rest =>
      have P12 : Hid (PV w1 a len cap w2 w3.heap.size w5.heap.size w7.heap.size wc) := hcut
      clear hcut P11
      go_wp2_with fail
      refine (sk_one 15 (by omega) P12.out.ss).mono ?_
      rintro e x1 ⟨⟨bb3, rfl⟩, h13, g13⟩
      have P13 : Hid (PV w1 a len cap w2 w3.heap.size w5.heap.size w7.heap.size x1) := P12.out.keep (by omega) (by omega) (by omega) hlt2 h13 g13
      clear h13 g13 P12
      obtain ⟨r0, vr0, c0, vc0, l0, vl0, R0, C0, L0⟩ := P13.out
      clear P13
      obtain ⟨ra, rc, hv1, _⟩ := R0.own.form
      subst hv1
      obtain ⟨ca0, cc0, hv2, _⟩ := C0.own.form
      subst hv2
      obtain ⟨la0, lc0, hv3, _⟩ := L0.own.form
      subst hv3
      have HR : Hid (PMay r0 ∧ PMay c0 ∧ LMay l0) := ⟨R0.may, C0.may, L0.may⟩
      have HS : Hid (SS w1 a len cap x1) := R0.ss
      have HOR : Hid (OwnS x1 w2.heap.size (.slice ra r0.names.length rc) r0.names) := R0.own
      have HOC : Hid (OwnS x1 w2.heap.size (.slice ca0 c0.names.length cc0) c0.names) := C0.own
      have HOL : Hid (OwnL x1 w2.heap.size (.slice la0 l0.serials.length lc0) l0.serials) := L0.own
      have HrR : Hid (x1.heap[w3.heap.size]? = some (.cells (r0.cells (.slice ra r0.names.length rc)).toArray 27 (0, 0))) := R0.row
      have HrC : Hid (x1.heap[w5.heap.size]? = some (.cells (c0.cells (.slice ca0 c0.names.length cc0)).toArray 27 (0, 0))) := C0.row
      have HrL : Hid (x1.heap[w7.heap.size]? = some (.cells (l0.cellsL (.slice la0 l0.serials.length lc0)).toArray 30 (0, 0))) := L0.row
      clear R0 C0 L0
      obtain ⟨RN, hRN⟩ : ∃ n, n = r0.names.length := ⟨_, rfl⟩
      obtain ⟨CN, hCN⟩ : ∃ n, n = c0.names.length := ⟨_, rfl⟩
      obtain ⟨LN, hLN⟩ : ∃ n, n = l0.serials.length := ⟨_, rfl⟩
      rw [← hRN] at HOR HrR
      rw [← hCN] at HOC HrC
      rw [← hLN] at HOL HrL
      obtain ⟨aser, aiss, asub, afr, atill, akey, anames, aca, ask, ase, ass⟩ := r0
      obtain ⟨bser, biss, bsub, bfr, btill, bkey, bnames, bca, bsk, bse, bss⟩ := c0
      obtain ⟨diss, dfr, dtill, dser, dsk, dse, dss⟩ := l0
      unfold Paper.cells at HrR HrC
      unfold Lst.cellsL at HrL
      simp only at HrR HrC HrL HOR HOC HOL
      clear hRN hCN hLN
      have HX : Hid (∀ V : World, V.heap[w3.heap.size]? = some (.cells [Value.int .i64 aser, .string aiss, .string asub, .int .i64 afr, .int .i64 atill, .int .i64 akey, .slice ra RN rc, .bool aca, .int .i64 ask, .int .i64 ase, .int .i64 ass].toArray 27 (0, 0)) → V.heap[w5.heap.size]? = some (.cells [Value.int .i64 bser, .string biss, .string bsub, .int .i64 bfr, .int .i64 btill, .int .i64 bkey, .slice ca0 CN cc0, .bool bca, .int .i64 bsk, .int .i64 bse, .int .i64 bss].toArray 27 (0, 0)) → V.heap[w7.heap.size]? = some (.cells [Value.string diss, .int .i64 dfr, .int .i64 dtill, .slice la0 LN lc0, .int .i64 dsk, .int .i64 dse, .int .i64 dss].toArray 30 (0, 0)) → ((V.cell? ⟨w3.heap.size, 0, none⟩ = some (.int .i64 aser) ∧ V.cell? ⟨w3.heap.size, 1, none⟩ = some (.string aiss) ∧ V.cell? ⟨w3.heap.size, 2, none⟩ = some (.string asub) ∧ V.cell? ⟨w3.heap.size, 3, none⟩ = some (.int .i64 afr) ∧ V.cell? ⟨w3.heap.size, 4, none⟩ = some (.int .i64 atill) ∧ V.cell? ⟨w3.heap.size, 5, none⟩ = some (.int .i64 akey) ∧ V.cell? ⟨w3.heap.size, 6, none⟩ = some (.slice ra RN rc) ∧ V.cell? ⟨w3.heap.size, 7, none⟩ = some (.bool aca) ∧ V.cell? ⟨w3.heap.size, 8, none⟩ = some (.int .i64 ask) ∧ V.cell? ⟨w3.heap.size, 9, none⟩ = some (.int .i64 ase) ∧ V.cell? ⟨w3.heap.size, 10, none⟩ = some (.int .i64 ass)) ∧ (V.cell? ⟨w5.heap.size, 0, none⟩ = some (.int .i64 bser) ∧ V.cell? ⟨w5.heap.size, 1, none⟩ = some (.string biss) ∧ V.cell? ⟨w5.heap.size, 2, none⟩ = some (.string bsub) ∧ V.cell? ⟨w5.heap.size, 3, none⟩ = some (.int .i64 bfr) ∧ V.cell? ⟨w5.heap.size, 4, none⟩ = some (.int .i64 btill) ∧ V.cell? ⟨w5.heap.size, 5, none⟩ = some (.int .i64 bkey) ∧ V.cell? ⟨w5.heap.size, 6, none⟩ = some (.slice ca0 CN cc0) ∧ V.cell? ⟨w5.heap.size, 7, none⟩ = some (.bool bca) ∧ V.cell? ⟨w5.heap.size, 8, none⟩ = some (.int .i64 bsk) ∧ V.cell? ⟨w5.heap.size, 9, none⟩ = some (.int .i64 bse) ∧ V.cell? ⟨w5.heap.size, 10, none⟩ = some (.int .i64 bss)) ∧ (V.cell? ⟨w7.heap.size, 0, none⟩ = some (.string diss) ∧ V.cell? ⟨w7.heap.size, 1, none⟩ = some (.int .i64 dfr) ∧ V.cell? ⟨w7.heap.size, 2, none⟩ = some (.int .i64 dtill) ∧ V.cell? ⟨w7.heap.size, 3, none⟩ = some (.slice la0 LN lc0) ∧ V.cell? ⟨w7.heap.size, 4, none⟩ = some (.int .i64 dsk) ∧ V.cell? ⟨w7.heap.size, 5, none⟩ = some (.int .i64 dse) ∧ V.cell? ⟨w7.heap.size, 6, none⟩ = some (.int .i64 dss)))) := fun V h1 h2 h3 => ⟨⟨rowFacts h1 0 _ rfl, rowFacts h1 1 _ rfl, rowFacts h1 2 _ rfl, rowFacts h1 3 _ rfl, rowFacts h1 4 _ rfl, rowFacts h1 5 _ rfl, rowFacts h1 6 _ rfl, rowFacts h1 7 _ rfl, rowFacts h1 8 _ rfl, rowFacts h1 9 _ rfl, rowFacts h1 10 _ rfl⟩, ⟨rowFacts h2 0 _ rfl, rowFacts h2 1 _ rfl, rowFacts h2 2 _ rfl, rowFacts h2 3 _ rfl, rowFacts h2 4 _ rfl, rowFacts h2 5 _ rfl, rowFacts h2 6 _ rfl, rowFacts h2 7 _ rfl, rowFacts h2 8 _ rfl, rowFacts h2 9 _ rfl, rowFacts h2 10 _ rfl⟩, ⟨rowFacts h3 0 _ rfl, rowFacts h3 1 _ rfl, rowFacts h3 2 _ rfl, rowFacts h3 3 _ rfl, rowFacts h3 4 _ rfl, rowFacts h3 5 _ rfl, rowFacts h3 6 _ rfl⟩⟩
      have ho1 : ∀ u ∈ [Value.int .i64 aser, .string aiss, .string asub, .int .i64 afr, .int .i64 atill, .int .i64 akey, .slice ra RN rc, .bool aca, .int .i64 ask, .int .i64 ase, .int .i64 ass], u.oneCell' = true := by simp [Value.oneCell']
      have ho2 : ∀ u ∈ [Value.int .i64 bser, .string biss, .string bsub, .int .i64 bfr, .int .i64 btill, .int .i64 bkey, .slice ca0 CN cc0, .bool bca, .int .i64 bsk, .int .i64 bse, .int .i64 bss], u.oneCell' = true := by simp [Value.oneCell']
      have ho3 : ∀ u ∈ [Value.string diss, .int .i64 dfr, .int .i64 dtill, .slice la0 LN lc0, .int .i64 dsk, .int .i64 dse, .int .i64 dss], u.oneCell' = true := by simp [Value.oneCell']
      have HO1 : Hid _ := ho1
      have HO2 : Hid _ := ho2
      have HO3 : Hid _ := ho3
      clear ho1 ho2 ho3
      have hSD : SS w1 a len cap x1.drew := HS.out.keep ((Below.refl _ _).drew)
      cases bb3 with
      | true =>
        go_upto_region 11 with fail
        refine wp_region_held_drew (S := fun V => ((V.cell? ⟨w3.heap.size, 0, none⟩ = some (.int .i64 aser) ∧ V.cell? ⟨w3.heap.size, 1, none⟩ = some (.string aiss) ∧ V.cell? ⟨w3.heap.size, 2, none⟩ = some (.string asub) ∧ V.cell? ⟨w3.heap.size, 3, none⟩ = some (.int .i64 afr) ∧ V.cell? ⟨w3.heap.size, 4, none⟩ = some (.int .i64 atill) ∧ V.cell? ⟨w3.heap.size, 5, none⟩ = some (.int .i64 akey) ∧ V.cell? ⟨w3.heap.size, 6, none⟩ = some (.slice ra RN rc) ∧ V.cell? ⟨w3.heap.size, 7, none⟩ = some (.bool aca) ∧ V.cell? ⟨w3.heap.size, 8, none⟩ = some (.int .i64 ask) ∧ V.cell? ⟨w3.heap.size, 9, none⟩ = some (.int .i64 ase) ∧ V.cell? ⟨w3.heap.size, 10, none⟩ = some (.int .i64 ass)) ∧ (V.cell? ⟨w5.heap.size, 0, none⟩ = some (.int .i64 bser) ∧ V.cell? ⟨w5.heap.size, 1, none⟩ = some (.string biss) ∧ V.cell? ⟨w5.heap.size, 2, none⟩ = some (.string bsub) ∧ V.cell? ⟨w5.heap.size, 3, none⟩ = some (.int .i64 bfr) ∧ V.cell? ⟨w5.heap.size, 4, none⟩ = some (.int .i64 btill) ∧ V.cell? ⟨w5.heap.size, 5, none⟩ = some (.int .i64 bkey) ∧ V.cell? ⟨w5.heap.size, 6, none⟩ = some (.slice ca0 CN cc0) ∧ V.cell? ⟨w5.heap.size, 7, none⟩ = some (.bool bca) ∧ V.cell? ⟨w5.heap.size, 8, none⟩ = some (.int .i64 bsk) ∧ V.cell? ⟨w5.heap.size, 9, none⟩ = some (.int .i64 bse) ∧ V.cell? ⟨w5.heap.size, 10, none⟩ = some (.int .i64 bss)) ∧ (V.cell? ⟨w7.heap.size, 0, none⟩ = some (.string diss) ∧ V.cell? ⟨w7.heap.size, 1, none⟩ = some (.int .i64 dfr) ∧ V.cell? ⟨w7.heap.size, 2, none⟩ = some (.int .i64 dtill) ∧ V.cell? ⟨w7.heap.size, 3, none⟩ = some (.slice la0 LN lc0) ∧ V.cell? ⟨w7.heap.size, 4, none⟩ = some (.int .i64 dsk) ∧ V.cell? ⟨w7.heap.size, 5, none⟩ = some (.int .i64 dse) ∧ V.cell? ⟨w7.heap.size, 6, none⟩ = some (.int .i64 dss)))) (by kernel_rfl) ?_ (fun hHeld => ?_)
        · exact HX.out _ HrR.out HrC.out HrL.out
        refine wpAnyH_take (i := 0) (oi := ⟨some 50, _, _, _, _, _⟩) (v := ?_) rfl (by kernel_rfl) (by kernel_rfl) (by kernel_rfl) (fun _ _ _ h => h) (Or.inl ⟨by kernel_rfl, ?_⟩) (by assumption) ?_
        rotate_left
        · (intro w hSw; (try dsimp only at hSw); go_simp; try with_reducible rfl)
        (try simp only [Act.put, List.setIfInBounds_toArray, List.set_cons_zero, List.set_cons_succ])
        refine wpAnyH_take (i := 1) (oi := ⟨some 51, _, _, _, _, _⟩) (v := ?_) rfl (by kernel_rfl) (by kernel_rfl) (by kernel_rfl) (fun _ _ _ h => h) (Or.inl ⟨by kernel_rfl, ?_⟩) (by assumption) ?_
        rotate_left
        · (intro w hSw; (try dsimp only at hSw); go_simp; try with_reducible rfl)
        (try simp only [Act.put, List.setIfInBounds_toArray, List.set_cons_zero, List.set_cons_succ])
        refine wpAnyH_take (i := 2) (oi := ⟨some 52, _, _, _, _, _⟩) (v := ?_) rfl (by kernel_rfl) (by kernel_rfl) (by kernel_rfl) (fun _ _ _ h => h) (Or.inl ⟨by kernel_rfl, ?_⟩) (by assumption) ?_
        rotate_left
        · (intro w hSw; (try dsimp only at hSw); go_simp; try with_reducible rfl)
        (try simp only [Act.put, List.setIfInBounds_toArray, List.set_cons_zero, List.set_cons_succ])
        refine wpAnyH_take (i := 3) (oi := ⟨some 53, _, _, _, _, _⟩) (v := ?_) rfl (by kernel_rfl) (by kernel_rfl) (by kernel_rfl) (fun _ _ _ h => h) (Or.inl ⟨by kernel_rfl, ?_⟩) (by assumption) ?_
        rotate_left
        · (intro w hSw; (try dsimp only at hSw); go_simp; try with_reducible rfl)
        (try simp only [Act.put, List.setIfInBounds_toArray, List.set_cons_zero, List.set_cons_succ])
        refine wpAnyH_ready (rs := [4]) (by kernel_rfl) (by simp) ?_
        refine AllReadyH.cons (o := ⟨some 54, _, _, _, _, _⟩) rfl (fun K hK => ?_) AllReadyH.nil
        go_simp
        refine (sk_edge hSD).mono ?_
        rintro e x2 ⟨⟨tv, htv, rfl⟩, h2, g2⟩
        have hx2 : w2.heap.size ≤ x1.heap.size := by have := HrL.out; have h := heap_lt HrL.out; omega
        have kR : Hid (x2.heap[w3.heap.size]? = some (.cells [Value.int .i64 aser, .string aiss, .string asub, .int .i64 afr, .int .i64 atill, .int .i64 akey, .slice ra RN rc, .bool aca, .int .i64 ask, .int .i64 ase, .int .i64 ass].toArray 27 (0, 0))) := by show _ = _; rw [g2.keepBlock (heap_lt (w := x1) HrR.out) (by omega)]; exact HrR.out
        have kC : Hid (x2.heap[w5.heap.size]? = some (.cells [Value.int .i64 bser, .string biss, .string bsub, .int .i64 bfr, .int .i64 btill, .int .i64 bkey, .slice ca0 CN cc0, .bool bca, .int .i64 bsk, .int .i64 bse, .int .i64 bss].toArray 27 (0, 0))) := by show _ = _; rw [g2.keepBlock (heap_lt (w := x1) HrC.out) (by omega)]; exact HrC.out
        have kL : Hid (x2.heap[w7.heap.size]? = some (.cells [Value.string diss, .int .i64 dfr, .int .i64 dtill, .slice la0 LN lc0, .int .i64 dsk, .int .i64 dse, .int .i64 dss].toArray 30 (0, 0))) := by show _ = _; rw [g2.keepBlock (heap_lt (w := x1) HrL.out) (by omega)]; exact HrL.out
        have hzz := HZ.out
        have kZ1 : x2.heap[w.heap.size]? = some (.cells [Value.int .i64 0, .string ⟨#[]⟩, .string ⟨#[]⟩, .int .i64 0, .int .i64 0, .int .i64 0, .slice none 0 0, .bool false, .int .i64 0, .int .i64 0, .int .i64 0].toArray 27 (0, 0)) := by rw [h2.2.1.block _ (by omega)]; exact Z1.out
        have kZ2 : x2.heap[w.heap.size + 1]? = some (.cells [Value.int .i64 0, .string ⟨#[]⟩, .string ⟨#[]⟩, .int .i64 0, .int .i64 0, .int .i64 0, .slice none 0 0, .bool false, .int .i64 0, .int .i64 0, .int .i64 0].toArray 27 (0, 0)) := by rw [h2.2.1.block _ (by omega)]; exact Z2.out
        have kZ3 : x2.heap[w.heap.size + 2]? = some (.cells [Value.string ⟨#[]⟩, .int .i64 0, .int .i64 0, .slice none 0 0, .int .i64 0, .int .i64 0, .int .i64 0].toArray 30 (0, 0)) := by rw [h2.2.1.block _ (by omega)]; exact Z3.out
        have KZ2 : Hid _ := kZ2
        have KZ3 : Hid _ := kZ3
        have U2 : Hid (OwnS x2 w2.heap.size (.slice ra RN rc) anames ∧ OwnS x2 w2.heap.size (.slice ca0 CN cc0) bnames ∧ OwnL x2 w2.heap.size (.slice la0 LN lc0) dser ∧ Below w.heap.size w x2) :=
          ⟨(HOR.out.keep ((Below.refl _ _).drew)).grow g2 (by omega), (HOC.out.keep ((Below.refl _ _).drew)).grow g2 (by omega), (HOL.out.keep ((Below.refl _ _).drew)).grow g2 (by omega), B1.out.trans (h2.2.1.mono (by omega))⟩
        clear h2 g2 kZ2 kZ3
        refine hK.out _ _ ?_ (fun hHeld => ?_)
        · exact HX.out _ kR.out kC.out kL.out
        clear hK K
        (try simp only [Act.put, List.setIfInBounds_toArray, List.set_cons_zero, List.set_cons_succ])
        refine wpAnyH_ready (rs := [5]) (by kernel_rfl) (by simp) ?_
        refine AllReadyH.cons (o := ⟨none, _, _, _, _, _⟩) rfl (fun K hK => ?_) AllReadyH.nil
        rw [if_pos (by rfl)]
        refine wp_store_row 27 _ _ rfl w.heap.size [Value.int .i64 0, .string ⟨#[]⟩, .string ⟨#[]⟩, .int .i64 0, .int .i64 0, .int .i64 0, .slice none 0 0, .bool false, .int .i64 0, .int .i64 0, .int .i64 0] [Value.int .i64 aser, .string aiss, .string asub, .int .i64 afr, .int .i64 atill, .int .i64 akey, .slice ra RN rc, .bool aca, .int .i64 ask, .int .i64 ase, .int .i64 ass] 27 rfl rfl kZ1 rfl sizeCert HO1.out ?_
        intro x3 s1 ho1 hs1 hbb1
        have q1R : x3.heap[w3.heap.size]? = some (.cells [Value.int .i64 aser, .string aiss, .string asub, .int .i64 afr, .int .i64 atill, .int .i64 akey, .slice ra RN rc, .bool aca, .int .i64 ask, .int .i64 ase, .int .i64 ass].toArray 27 (0, 0)) := by rw [ho1 _ (by omega)]; exact kR.out
        have q1C : x3.heap[w5.heap.size]? = some (.cells [Value.int .i64 bser, .string biss, .string bsub, .int .i64 bfr, .int .i64 btill, .int .i64 bkey, .slice ca0 CN cc0, .bool bca, .int .i64 bsk, .int .i64 bse, .int .i64 bss].toArray 27 (0, 0)) := by rw [ho1 _ (by omega)]; exact kC.out
        have q1L : x3.heap[w7.heap.size]? = some (.cells [Value.string diss, .int .i64 dfr, .int .i64 dtill, .slice la0 LN lc0, .int .i64 dsk, .int .i64 dse, .int .i64 dss].toArray 30 (0, 0)) := by rw [ho1 _ (by omega)]; exact kL.out
        have jZ2 : x3.heap[w.heap.size + 1]? = some (.cells [Value.int .i64 0, .string ⟨#[]⟩, .string ⟨#[]⟩, .int .i64 0, .int .i64 0, .int .i64 0, .slice none 0 0, .bool false, .int .i64 0, .int .i64 0, .int .i64 0].toArray 27 (0, 0)) := by rw [ho1 _ (by omega)]; exact KZ2.out
        have jZ3 : x3.heap[w.heap.size + 2]? = some (.cells [Value.string ⟨#[]⟩, .int .i64 0, .int .i64 0, .slice none 0 0, .int .i64 0, .int .i64 0, .int .i64 0].toArray 30 (0, 0)) := by rw [ho1 _ (by omega)]; exact KZ3.out
        have JZ3 : Hid _ := jZ3
        have hgr1 := grown_row ho1 hbb1
        have U3 : Hid (OwnS x3 w2.heap.size (.slice ra RN rc) anames ∧ OwnS x3 w2.heap.size (.slice ca0 CN cc0) bnames ∧ OwnL x3 w2.heap.size (.slice la0 LN lc0) dser ∧ Below w.heap.size w x3) :=
          ⟨U2.out.1.rowOff hgr1 (fun e => by have := (U2.out.1.ge e).1; omega), U2.out.2.1.rowOff hgr1 (fun e => by have := (U2.out.2.1.ge e).1; omega), U2.out.2.2.1.rowOff hgr1 (fun e => by have := (U2.out.2.2.1.ge e).1; omega), hbb1 _ _ (by omega) U2.out.2.2.2⟩
        have T1 : Hid (x3.heap[w.heap.size]? = some (.cells [Value.int .i64 aser, .string aiss, .string asub, .int .i64 afr, .int .i64 atill, .int .i64 akey, .slice ra RN rc, .bool aca, .int .i64 ask, .int .i64 ase, .int .i64 ass].toArray 27 (0, 0))) := s1
        have KR3 : Hid _ := q1R
        have KC3 : Hid _ := q1C
        have KL3 : Hid _ := q1L
        refine hK.out _ _ ?_ (fun hHeld => ?_)
        · exact HX.out _ q1R q1C q1L
        clear hK K q1R q1C q1L ho1 hs1 hbb1 hgr1 s1 kZ1 KZ2 KZ3 U2 kR kC kL jZ3
        refine wpAnyH_ready (rs := [6]) (by kernel_rfl) (by simp) ?_
        refine AllReadyH.cons (o := ⟨none, _, _, _, _, _⟩) rfl (fun K hK => ?_) AllReadyH.nil
        rw [if_pos (by rfl)]
        refine wp_store_row 27 _ _ rfl (w.heap.size + 1) [Value.int .i64 0, .string ⟨#[]⟩, .string ⟨#[]⟩, .int .i64 0, .int .i64 0, .int .i64 0, .slice none 0 0, .bool false, .int .i64 0, .int .i64 0, .int .i64 0] [Value.int .i64 bser, .string biss, .string bsub, .int .i64 bfr, .int .i64 btill, .int .i64 bkey, .slice ca0 CN cc0, .bool bca, .int .i64 bsk, .int .i64 bse, .int .i64 bss] 27 rfl rfl jZ2 rfl sizeCert HO2.out ?_
        intro x4 s2 ho1 hs1 hbb1
        have q1R : x4.heap[w3.heap.size]? = some (.cells [Value.int .i64 aser, .string aiss, .string asub, .int .i64 afr, .int .i64 atill, .int .i64 akey, .slice ra RN rc, .bool aca, .int .i64 ask, .int .i64 ase, .int .i64 ass].toArray 27 (0, 0)) := by rw [ho1 _ (by omega)]; exact KR3.out
        have q1C : x4.heap[w5.heap.size]? = some (.cells [Value.int .i64 bser, .string biss, .string bsub, .int .i64 bfr, .int .i64 btill, .int .i64 bkey, .slice ca0 CN cc0, .bool bca, .int .i64 bsk, .int .i64 bse, .int .i64 bss].toArray 27 (0, 0)) := by rw [ho1 _ (by omega)]; exact KC3.out
        have q1L : x4.heap[w7.heap.size]? = some (.cells [Value.string diss, .int .i64 dfr, .int .i64 dtill, .slice la0 LN lc0, .int .i64 dsk, .int .i64 dse, .int .i64 dss].toArray 30 (0, 0)) := by rw [ho1 _ (by omega)]; exact KL3.out
        have iZ3 : x4.heap[w.heap.size + 2]? = some (.cells [Value.string ⟨#[]⟩, .int .i64 0, .int .i64 0, .slice none 0 0, .int .i64 0, .int .i64 0, .int .i64 0].toArray 30 (0, 0)) := by rw [ho1 _ (by omega)]; exact JZ3.out
        have hgr1 := grown_row ho1 hbb1
        have U4 : Hid (OwnS x4 w2.heap.size (.slice ra RN rc) anames ∧ OwnS x4 w2.heap.size (.slice ca0 CN cc0) bnames ∧ OwnL x4 w2.heap.size (.slice la0 LN lc0) dser ∧ Below w.heap.size w x4) :=
          ⟨U3.out.1.rowOff hgr1 (fun e => by have := (U3.out.1.ge e).1; omega), U3.out.2.1.rowOff hgr1 (fun e => by have := (U3.out.2.1.ge e).1; omega), U3.out.2.2.1.rowOff hgr1 (fun e => by have := (U3.out.2.2.1.ge e).1; omega), hbb1 _ _ (by omega) U3.out.2.2.2⟩
        have T14 : Hid (x4.heap[w.heap.size]? = some (.cells [Value.int .i64 aser, .string aiss, .string asub, .int .i64 afr, .int .i64 atill, .int .i64 akey, .slice ra RN rc, .bool aca, .int .i64 ask, .int .i64 ase, .int .i64 ass].toArray 27 (0, 0))) := by show _ = _; rw [ho1 _ (by omega)]; exact T1.out
        have T24 : Hid (x4.heap[w.heap.size + 1]? = some (.cells [Value.int .i64 bser, .string biss, .string bsub, .int .i64 bfr, .int .i64 btill, .int .i64 bkey, .slice ca0 CN cc0, .bool bca, .int .i64 bsk, .int .i64 bse, .int .i64 bss].toArray 27 (0, 0))) := s2
        have KR4 : Hid _ := q1R
        have KC4 : Hid _ := q1C
        have KL4 : Hid _ := q1L
        refine hK.out _ _ ?_ (fun hHeld => ?_)
        · exact HX.out _ q1R q1C q1L
        clear hK K q1R q1C q1L ho1 hs1 hbb1 hgr1 s2 jZ2 JZ3 U3 T1 KR3 KC3 KL3
        refine wpAnyH_ready (rs := [7]) (by kernel_rfl) (by simp) ?_
        refine AllReadyH.cons (o := ⟨none, _, _, _, _, _⟩) rfl (fun K hK => ?_) AllReadyH.nil
        rw [if_pos (by rfl)]
        refine wp_store_row 30 _ _ rfl (w.heap.size + 2) [Value.string ⟨#[]⟩, .int .i64 0, .int .i64 0, .slice none 0 0, .int .i64 0, .int .i64 0, .int .i64 0] [Value.string diss, .int .i64 dfr, .int .i64 dtill, .slice la0 LN lc0, .int .i64 dsk, .int .i64 dse, .int .i64 dss] 30 rfl rfl iZ3 rfl sizeCrl HO3.out ?_
        intro x5 s3 ho1 hs1 hbb1
        have q1R : x5.heap[w3.heap.size]? = some (.cells [Value.int .i64 aser, .string aiss, .string asub, .int .i64 afr, .int .i64 atill, .int .i64 akey, .slice ra RN rc, .bool aca, .int .i64 ask, .int .i64 ase, .int .i64 ass].toArray 27 (0, 0)) := by rw [ho1 _ (by omega)]; exact KR4.out
        have q1C : x5.heap[w5.heap.size]? = some (.cells [Value.int .i64 bser, .string biss, .string bsub, .int .i64 bfr, .int .i64 btill, .int .i64 bkey, .slice ca0 CN cc0, .bool bca, .int .i64 bsk, .int .i64 bse, .int .i64 bss].toArray 27 (0, 0)) := by rw [ho1 _ (by omega)]; exact KC4.out
        have q1L : x5.heap[w7.heap.size]? = some (.cells [Value.string diss, .int .i64 dfr, .int .i64 dtill, .slice la0 LN lc0, .int .i64 dsk, .int .i64 dse, .int .i64 dss].toArray 30 (0, 0)) := by rw [ho1 _ (by omega)]; exact KL4.out
        have hgr1 := grown_row ho1 hbb1
        have U5 : OwnS x5 w2.heap.size (.slice ra RN rc) anames ∧ OwnS x5 w2.heap.size (.slice ca0 CN cc0) bnames ∧ OwnL x5 w2.heap.size (.slice la0 LN lc0) dser ∧ Below w.heap.size w x5 :=
          ⟨U4.out.1.rowOff hgr1 (fun e => by have := (U4.out.1.ge e).1; omega), U4.out.2.1.rowOff hgr1 (fun e => by have := (U4.out.2.1.ge e).1; omega), U4.out.2.2.1.rowOff hgr1 (fun e => by have := (U4.out.2.2.1.ge e).1; omega), hbb1 _ _ (by omega) U4.out.2.2.2⟩
        have T15 : x5.heap[w.heap.size]? = some (.cells [Value.int .i64 aser, .string aiss, .string asub, .int .i64 afr, .int .i64 atill, .int .i64 akey, .slice ra RN rc, .bool aca, .int .i64 ask, .int .i64 ase, .int .i64 ass].toArray 27 (0, 0)) := by rw [ho1 _ (by omega)]; exact T14.out
        have T25 : x5.heap[w.heap.size + 1]? = some (.cells [Value.int .i64 bser, .string biss, .string bsub, .int .i64 bfr, .int .i64 btill, .int .i64 bkey, .slice ca0 CN cc0, .bool bca, .int .i64 bsk, .int .i64 bse, .int .i64 bss].toArray 27 (0, 0)) := by rw [ho1 _ (by omega)]; exact T24.out
        have hl1 := run_loadVar_mid (P := Tryz.prog) _ w.heap.size 0 27 _ _ (rangeRow T15) Tryz.underlying27 rfl sizeCert
        have hl2 := run_loadVar_mid (P := Tryz.prog) _ (w.heap.size + 1) 0 27 _ _ (rangeRow T25) Tryz.underlying27 rfl sizeCert
        have hl3 := run_loadVar_mid (P := Tryz.prog) _ (w.heap.size + 2) 0 30 _ _ (rangeRow s3) Tryz.underlying30 rfl sizeCrl
        have HFIN : Hid (AnyPath w (.returned (.tuple #[.agg [Value.int .i64 aser, .string aiss, .string asub, .int .i64 afr, .int .i64 atill, .int .i64 akey, .slice ra RN rc, .bool aca, .int .i64 ask, .int .i64 ase, .int .i64 ass].toArray, .agg [Value.int .i64 bser, .string biss, .string bsub, .int .i64 bfr, .int .i64 btill, .int .i64 bkey, .slice ca0 CN cc0, .bool bca, .int .i64 bsk, .int .i64 bse, .int .i64 bss].toArray, .agg [Value.string diss, .int .i64 dfr, .int .i64 dtill, .slice la0 LN lc0, .int .i64 dsk, .int .i64 dse, .int .i64 dss].toArray, .int .i64 tv])) x5 ∧ Below w.heap.size w x5) :=
          ⟨⟨⟨aser, aiss, asub, afr, atill, akey, anames, aca, ask, ase, ass⟩, ⟨bser, biss, bsub, bfr, btill, bkey, bnames, bca, bsk, bse, bss⟩, ⟨diss, dfr, dtill, dser, dsk, dse, dss⟩, tv, .slice ra RN rc, .slice ca0 CN cc0, .slice la0 LN lc0, rfl, by unfold inW; exact htv, HR.out.1, HR.out.2.1, HR.out.2.2, U5.1.mono (by omega), U5.2.1.mono (by omega), U5.2.2.1.mono (by omega)⟩, U5.2.2.2⟩
        refine hK.out _ _ ?_ (fun hHeld => ?_)
        · exact HX.out _ q1R q1C q1L
        clear hK K q1R q1C q1L ho1 hs1 hbb1 hgr1 U5 U4
        refine wpAnyH_take (i := 8) (oi := ⟨some 5, _, _, _, _, _⟩) (v := ?_) rfl (by kernel_rfl) (by kernel_rfl) (by kernel_rfl) (fun _ _ _ h => h) (Or.inl ⟨by kernel_rfl, ?_⟩) (by assumption) ?_
        rotate_left
        · (intro w hSw; (try dsimp only at hSw); go_simp; try with_reducible rfl)
        (try simp only [Act.put, List.setIfInBounds_toArray, List.set_cons_zero, List.set_cons_succ])
        refine wpAnyH_done (by kernel_rfl) ?_ _
        go_wp2
        refine bodyPost_ret (v := .tuple #[.agg [Value.int .i64 aser, .string aiss, .string asub, .int .i64 afr, .int .i64 atill, .int .i64 akey, .slice ra RN rc, .bool aca, .int .i64 ask, .int .i64 ase, .int .i64 ass].toArray, .agg [Value.int .i64 bser, .string biss, .string bsub, .int .i64 bfr, .int .i64 btill, .int .i64 bkey, .slice ca0 CN cc0, .bool bca, .int .i64 bsk, .int .i64 bse, .int .i64 bss].toArray, .agg [Value.string diss, .int .i64 dfr, .int .i64 dtill, .slice la0 LN lc0, .int .i64 dsk, .int .i64 dse, .int .i64 dss].toArray, .int .i64 tv]) ?_ rfl HFIN.out
        simp [results, Tryz.results4, asAddr, hl1, hl2, hl3, Act.put]
      | false =>
        go_upto_region 12 with fail
        refine wp_region_held_drew (S := fun V => ((V.cell? ⟨w3.heap.size, 0, none⟩ = some (.int .i64 aser) ∧ V.cell? ⟨w3.heap.size, 1, none⟩ = some (.string aiss) ∧ V.cell? ⟨w3.heap.size, 2, none⟩ = some (.string asub) ∧ V.cell? ⟨w3.heap.size, 3, none⟩ = some (.int .i64 afr) ∧ V.cell? ⟨w3.heap.size, 4, none⟩ = some (.int .i64 atill) ∧ V.cell? ⟨w3.heap.size, 5, none⟩ = some (.int .i64 akey) ∧ V.cell? ⟨w3.heap.size, 6, none⟩ = some (.slice ra RN rc) ∧ V.cell? ⟨w3.heap.size, 7, none⟩ = some (.bool aca) ∧ V.cell? ⟨w3.heap.size, 8, none⟩ = some (.int .i64 ask) ∧ V.cell? ⟨w3.heap.size, 9, none⟩ = some (.int .i64 ase) ∧ V.cell? ⟨w3.heap.size, 10, none⟩ = some (.int .i64 ass)) ∧ (V.cell? ⟨w5.heap.size, 0, none⟩ = some (.int .i64 bser) ∧ V.cell? ⟨w5.heap.size, 1, none⟩ = some (.string biss) ∧ V.cell? ⟨w5.heap.size, 2, none⟩ = some (.string bsub) ∧ V.cell? ⟨w5.heap.size, 3, none⟩ = some (.int .i64 bfr) ∧ V.cell? ⟨w5.heap.size, 4, none⟩ = some (.int .i64 btill) ∧ V.cell? ⟨w5.heap.size, 5, none⟩ = some (.int .i64 bkey) ∧ V.cell? ⟨w5.heap.size, 6, none⟩ = some (.slice ca0 CN cc0) ∧ V.cell? ⟨w5.heap.size, 7, none⟩ = some (.bool bca) ∧ V.cell? ⟨w5.heap.size, 8, none⟩ = some (.int .i64 bsk) ∧ V.cell? ⟨w5.heap.size, 9, none⟩ = some (.int .i64 bse) ∧ V.cell? ⟨w5.heap.size, 10, none⟩ = some (.int .i64 bss)) ∧ (V.cell? ⟨w7.heap.size, 0, none⟩ = some (.string diss) ∧ V.cell? ⟨w7.heap.size, 1, none⟩ = some (.int .i64 dfr) ∧ V.cell? ⟨w7.heap.size, 2, none⟩ = some (.int .i64 dtill) ∧ V.cell? ⟨w7.heap.size, 3, none⟩ = some (.slice la0 LN lc0) ∧ V.cell? ⟨w7.heap.size, 4, none⟩ = some (.int .i64 dsk) ∧ V.cell? ⟨w7.heap.size, 5, none⟩ = some (.int .i64 dse) ∧ V.cell? ⟨w7.heap.size, 6, none⟩ = some (.int .i64 dss)))) (by kernel_rfl) ?_ (fun hHeld => ?_)
        · exact HX.out _ HrR.out HrC.out HrL.out
        refine wpAnyH_take (i := 0) (oi := ⟨some 55, _, _, _, _, _⟩) (v := ?_) rfl (by kernel_rfl) (by kernel_rfl) (by kernel_rfl) (fun _ _ _ h => h) (Or.inl ⟨by kernel_rfl, ?_⟩) (by assumption) ?_
        rotate_left
        · (intro w hSw; (try dsimp only at hSw); go_simp; try with_reducible rfl)
        (try simp only [Act.put, List.setIfInBounds_toArray, List.set_cons_zero, List.set_cons_succ])
        refine wpAnyH_take (i := 1) (oi := ⟨some 56, _, _, _, _, _⟩) (v := ?_) rfl (by kernel_rfl) (by kernel_rfl) (by kernel_rfl) (fun _ _ _ h => h) (Or.inl ⟨by kernel_rfl, ?_⟩) (by assumption) ?_
        rotate_left
        · (intro w hSw; (try dsimp only at hSw); go_simp; try with_reducible rfl)
        (try simp only [Act.put, List.setIfInBounds_toArray, List.set_cons_zero, List.set_cons_succ])
        refine wpAnyH_take (i := 2) (oi := ⟨some 57, _, _, _, _, _⟩) (v := ?_) rfl (by kernel_rfl) (by kernel_rfl) (by kernel_rfl) (fun _ _ _ h => h) (Or.inl ⟨by kernel_rfl, ?_⟩) (by assumption) ?_
        rotate_left
        · (intro w hSw; (try dsimp only at hSw); go_simp; try with_reducible rfl)
        (try simp only [Act.put, List.setIfInBounds_toArray, List.set_cons_zero, List.set_cons_succ])
        refine wpAnyH_take (i := 3) (oi := ⟨some 58, _, _, _, _, _⟩) (v := ?_) rfl (by kernel_rfl) (by kernel_rfl) (by kernel_rfl) (fun _ _ _ h => h) (Or.inl ⟨by kernel_rfl, ?_⟩) (by assumption) ?_
        rotate_left
        · (intro w hSw; (try dsimp only at hSw); go_simp; try with_reducible rfl)
        (try simp only [Act.put, List.setIfInBounds_toArray, List.set_cons_zero, List.set_cons_succ])
        refine wpAnyH_ready (rs := [4]) (by kernel_rfl) (by simp) ?_
        refine AllReadyH.cons (o := ⟨some 59, _, _, _, _, _⟩) rfl (fun K hK => ?_) AllReadyH.nil
        go_simp
        refine (sk_n 70 (by omega) hSD).mono ?_
        rintro e x2 ⟨n0, rfl, hn0, h2, g2⟩
        obtain ⟨tv, htv, htve⟩ : ∃ n : Int, inW n ∧ (n0 : Int) = n := ⟨_, by unfold inW; omega, rfl⟩
        rw [htve]
        clear htve hn0
        have hx2 : w2.heap.size ≤ x1.heap.size := by have := HrL.out; have h := heap_lt HrL.out; omega
        have kR : Hid (x2.heap[w3.heap.size]? = some (.cells [Value.int .i64 aser, .string aiss, .string asub, .int .i64 afr, .int .i64 atill, .int .i64 akey, .slice ra RN rc, .bool aca, .int .i64 ask, .int .i64 ase, .int .i64 ass].toArray 27 (0, 0))) := by show _ = _; rw [g2.keepBlock (heap_lt (w := x1) HrR.out) (by omega)]; exact HrR.out
        have kC : Hid (x2.heap[w5.heap.size]? = some (.cells [Value.int .i64 bser, .string biss, .string bsub, .int .i64 bfr, .int .i64 btill, .int .i64 bkey, .slice ca0 CN cc0, .bool bca, .int .i64 bsk, .int .i64 bse, .int .i64 bss].toArray 27 (0, 0))) := by show _ = _; rw [g2.keepBlock (heap_lt (w := x1) HrC.out) (by omega)]; exact HrC.out
        have kL : Hid (x2.heap[w7.heap.size]? = some (.cells [Value.string diss, .int .i64 dfr, .int .i64 dtill, .slice la0 LN lc0, .int .i64 dsk, .int .i64 dse, .int .i64 dss].toArray 30 (0, 0))) := by show _ = _; rw [g2.keepBlock (heap_lt (w := x1) HrL.out) (by omega)]; exact HrL.out
        have hzz := HZ.out
        have kZ1 : x2.heap[w.heap.size]? = some (.cells [Value.int .i64 0, .string ⟨#[]⟩, .string ⟨#[]⟩, .int .i64 0, .int .i64 0, .int .i64 0, .slice none 0 0, .bool false, .int .i64 0, .int .i64 0, .int .i64 0].toArray 27 (0, 0)) := by rw [h2.2.1.block _ (by omega)]; exact Z1.out
        have kZ2 : x2.heap[w.heap.size + 1]? = some (.cells [Value.int .i64 0, .string ⟨#[]⟩, .string ⟨#[]⟩, .int .i64 0, .int .i64 0, .int .i64 0, .slice none 0 0, .bool false, .int .i64 0, .int .i64 0, .int .i64 0].toArray 27 (0, 0)) := by rw [h2.2.1.block _ (by omega)]; exact Z2.out
        have kZ3 : x2.heap[w.heap.size + 2]? = some (.cells [Value.string ⟨#[]⟩, .int .i64 0, .int .i64 0, .slice none 0 0, .int .i64 0, .int .i64 0, .int .i64 0].toArray 30 (0, 0)) := by rw [h2.2.1.block _ (by omega)]; exact Z3.out
        have KZ2 : Hid _ := kZ2
        have KZ3 : Hid _ := kZ3
        have U2 : Hid (OwnS x2 w2.heap.size (.slice ra RN rc) anames ∧ OwnS x2 w2.heap.size (.slice ca0 CN cc0) bnames ∧ OwnL x2 w2.heap.size (.slice la0 LN lc0) dser ∧ Below w.heap.size w x2) :=
          ⟨(HOR.out.keep ((Below.refl _ _).drew)).grow g2 (by omega), (HOC.out.keep ((Below.refl _ _).drew)).grow g2 (by omega), (HOL.out.keep ((Below.refl _ _).drew)).grow g2 (by omega), B1.out.trans (h2.2.1.mono (by omega))⟩
        clear h2 g2 kZ2 kZ3
        refine hK.out _ _ ?_ (fun hHeld => ?_)
        · exact HX.out _ kR.out kC.out kL.out
        clear hK K
        (try simp only [Act.put, List.setIfInBounds_toArray, List.set_cons_zero, List.set_cons_succ])
        refine wpAnyH_ready (rs := [5]) (by kernel_rfl) (by simp) ?_
        refine AllReadyH.cons (o := ⟨none, _, _, _, _, _⟩) rfl (fun K hK => ?_) AllReadyH.nil
        rw [if_pos (by rfl)]
        refine wp_store_row 27 _ _ rfl w.heap.size [Value.int .i64 0, .string ⟨#[]⟩, .string ⟨#[]⟩, .int .i64 0, .int .i64 0, .int .i64 0, .slice none 0 0, .bool false, .int .i64 0, .int .i64 0, .int .i64 0] [Value.int .i64 aser, .string aiss, .string asub, .int .i64 afr, .int .i64 atill, .int .i64 akey, .slice ra RN rc, .bool aca, .int .i64 ask, .int .i64 ase, .int .i64 ass] 27 rfl rfl kZ1 rfl sizeCert HO1.out ?_
        intro x3 s1 ho1 hs1 hbb1
        have q1R : x3.heap[w3.heap.size]? = some (.cells [Value.int .i64 aser, .string aiss, .string asub, .int .i64 afr, .int .i64 atill, .int .i64 akey, .slice ra RN rc, .bool aca, .int .i64 ask, .int .i64 ase, .int .i64 ass].toArray 27 (0, 0)) := by rw [ho1 _ (by omega)]; exact kR.out
        have q1C : x3.heap[w5.heap.size]? = some (.cells [Value.int .i64 bser, .string biss, .string bsub, .int .i64 bfr, .int .i64 btill, .int .i64 bkey, .slice ca0 CN cc0, .bool bca, .int .i64 bsk, .int .i64 bse, .int .i64 bss].toArray 27 (0, 0)) := by rw [ho1 _ (by omega)]; exact kC.out
        have q1L : x3.heap[w7.heap.size]? = some (.cells [Value.string diss, .int .i64 dfr, .int .i64 dtill, .slice la0 LN lc0, .int .i64 dsk, .int .i64 dse, .int .i64 dss].toArray 30 (0, 0)) := by rw [ho1 _ (by omega)]; exact kL.out
        have jZ2 : x3.heap[w.heap.size + 1]? = some (.cells [Value.int .i64 0, .string ⟨#[]⟩, .string ⟨#[]⟩, .int .i64 0, .int .i64 0, .int .i64 0, .slice none 0 0, .bool false, .int .i64 0, .int .i64 0, .int .i64 0].toArray 27 (0, 0)) := by rw [ho1 _ (by omega)]; exact KZ2.out
        have jZ3 : x3.heap[w.heap.size + 2]? = some (.cells [Value.string ⟨#[]⟩, .int .i64 0, .int .i64 0, .slice none 0 0, .int .i64 0, .int .i64 0, .int .i64 0].toArray 30 (0, 0)) := by rw [ho1 _ (by omega)]; exact KZ3.out
        have JZ3 : Hid _ := jZ3
        have hgr1 := grown_row ho1 hbb1
        have U3 : Hid (OwnS x3 w2.heap.size (.slice ra RN rc) anames ∧ OwnS x3 w2.heap.size (.slice ca0 CN cc0) bnames ∧ OwnL x3 w2.heap.size (.slice la0 LN lc0) dser ∧ Below w.heap.size w x3) :=
          ⟨U2.out.1.rowOff hgr1 (fun e => by have := (U2.out.1.ge e).1; omega), U2.out.2.1.rowOff hgr1 (fun e => by have := (U2.out.2.1.ge e).1; omega), U2.out.2.2.1.rowOff hgr1 (fun e => by have := (U2.out.2.2.1.ge e).1; omega), hbb1 _ _ (by omega) U2.out.2.2.2⟩
        have T1 : Hid (x3.heap[w.heap.size]? = some (.cells [Value.int .i64 aser, .string aiss, .string asub, .int .i64 afr, .int .i64 atill, .int .i64 akey, .slice ra RN rc, .bool aca, .int .i64 ask, .int .i64 ase, .int .i64 ass].toArray 27 (0, 0))) := s1
        have KR3 : Hid _ := q1R
        have KC3 : Hid _ := q1C
        have KL3 : Hid _ := q1L
        refine hK.out _ _ ?_ (fun hHeld => ?_)
        · exact HX.out _ q1R q1C q1L
        clear hK K q1R q1C q1L ho1 hs1 hbb1 hgr1 s1 kZ1 KZ2 KZ3 U2 kR kC kL jZ3
        refine wpAnyH_ready (rs := [6]) (by kernel_rfl) (by simp) ?_
        refine AllReadyH.cons (o := ⟨none, _, _, _, _, _⟩) rfl (fun K hK => ?_) AllReadyH.nil
        rw [if_pos (by rfl)]
        refine wp_store_row 27 _ _ rfl (w.heap.size + 1) [Value.int .i64 0, .string ⟨#[]⟩, .string ⟨#[]⟩, .int .i64 0, .int .i64 0, .int .i64 0, .slice none 0 0, .bool false, .int .i64 0, .int .i64 0, .int .i64 0] [Value.int .i64 bser, .string biss, .string bsub, .int .i64 bfr, .int .i64 btill, .int .i64 bkey, .slice ca0 CN cc0, .bool bca, .int .i64 bsk, .int .i64 bse, .int .i64 bss] 27 rfl rfl jZ2 rfl sizeCert HO2.out ?_
        intro x4 s2 ho1 hs1 hbb1
        have q1R : x4.heap[w3.heap.size]? = some (.cells [Value.int .i64 aser, .string aiss, .string asub, .int .i64 afr, .int .i64 atill, .int .i64 akey, .slice ra RN rc, .bool aca, .int .i64 ask, .int .i64 ase, .int .i64 ass].toArray 27 (0, 0)) := by rw [ho1 _ (by omega)]; exact KR3.out
        have q1C : x4.heap[w5.heap.size]? = some (.cells [Value.int .i64 bser, .string biss, .string bsub, .int .i64 bfr, .int .i64 btill, .int .i64 bkey, .slice ca0 CN cc0, .bool bca, .int .i64 bsk, .int .i64 bse, .int .i64 bss].toArray 27 (0, 0)) := by rw [ho1 _ (by omega)]; exact KC3.out
        have q1L : x4.heap[w7.heap.size]? = some (.cells [Value.string diss, .int .i64 dfr, .int .i64 dtill, .slice la0 LN lc0, .int .i64 dsk, .int .i64 dse, .int .i64 dss].toArray 30 (0, 0)) := by rw [ho1 _ (by omega)]; exact KL3.out
        have iZ3 : x4.heap[w.heap.size + 2]? = some (.cells [Value.string ⟨#[]⟩, .int .i64 0, .int .i64 0, .slice none 0 0, .int .i64 0, .int .i64 0, .int .i64 0].toArray 30 (0, 0)) := by rw [ho1 _ (by omega)]; exact JZ3.out
        have hgr1 := grown_row ho1 hbb1
        have U4 : Hid (OwnS x4 w2.heap.size (.slice ra RN rc) anames ∧ OwnS x4 w2.heap.size (.slice ca0 CN cc0) bnames ∧ OwnL x4 w2.heap.size (.slice la0 LN lc0) dser ∧ Below w.heap.size w x4) :=
          ⟨U3.out.1.rowOff hgr1 (fun e => by have := (U3.out.1.ge e).1; omega), U3.out.2.1.rowOff hgr1 (fun e => by have := (U3.out.2.1.ge e).1; omega), U3.out.2.2.1.rowOff hgr1 (fun e => by have := (U3.out.2.2.1.ge e).1; omega), hbb1 _ _ (by omega) U3.out.2.2.2⟩
        have T14 : Hid (x4.heap[w.heap.size]? = some (.cells [Value.int .i64 aser, .string aiss, .string asub, .int .i64 afr, .int .i64 atill, .int .i64 akey, .slice ra RN rc, .bool aca, .int .i64 ask, .int .i64 ase, .int .i64 ass].toArray 27 (0, 0))) := by show _ = _; rw [ho1 _ (by omega)]; exact T1.out
        have T24 : Hid (x4.heap[w.heap.size + 1]? = some (.cells [Value.int .i64 bser, .string biss, .string bsub, .int .i64 bfr, .int .i64 btill, .int .i64 bkey, .slice ca0 CN cc0, .bool bca, .int .i64 bsk, .int .i64 bse, .int .i64 bss].toArray 27 (0, 0))) := s2
        have KR4 : Hid _ := q1R
        have KC4 : Hid _ := q1C
        have KL4 : Hid _ := q1L
        refine hK.out _ _ ?_ (fun hHeld => ?_)
        · exact HX.out _ q1R q1C q1L
        clear hK K q1R q1C q1L ho1 hs1 hbb1 hgr1 s2 jZ2 JZ3 U3 T1 KR3 KC3 KL3
        refine wpAnyH_ready (rs := [7]) (by kernel_rfl) (by simp) ?_
        refine AllReadyH.cons (o := ⟨none, _, _, _, _, _⟩) rfl (fun K hK => ?_) AllReadyH.nil
        rw [if_pos (by rfl)]
        refine wp_store_row 30 _ _ rfl (w.heap.size + 2) [Value.string ⟨#[]⟩, .int .i64 0, .int .i64 0, .slice none 0 0, .int .i64 0, .int .i64 0, .int .i64 0] [Value.string diss, .int .i64 dfr, .int .i64 dtill, .slice la0 LN lc0, .int .i64 dsk, .int .i64 dse, .int .i64 dss] 30 rfl rfl iZ3 rfl sizeCrl HO3.out ?_
        intro x5 s3 ho1 hs1 hbb1
        have q1R : x5.heap[w3.heap.size]? = some (.cells [Value.int .i64 aser, .string aiss, .string asub, .int .i64 afr, .int .i64 atill, .int .i64 akey, .slice ra RN rc, .bool aca, .int .i64 ask, .int .i64 ase, .int .i64 ass].toArray 27 (0, 0)) := by rw [ho1 _ (by omega)]; exact KR4.out
        have q1C : x5.heap[w5.heap.size]? = some (.cells [Value.int .i64 bser, .string biss, .string bsub, .int .i64 bfr, .int .i64 btill, .int .i64 bkey, .slice ca0 CN cc0, .bool bca, .int .i64 bsk, .int .i64 bse, .int .i64 bss].toArray 27 (0, 0)) := by rw [ho1 _ (by omega)]; exact KC4.out
        have q1L : x5.heap[w7.heap.size]? = some (.cells [Value.string diss, .int .i64 dfr, .int .i64 dtill, .slice la0 LN lc0, .int .i64 dsk, .int .i64 dse, .int .i64 dss].toArray 30 (0, 0)) := by rw [ho1 _ (by omega)]; exact KL4.out
        have hgr1 := grown_row ho1 hbb1
        have U5 : OwnS x5 w2.heap.size (.slice ra RN rc) anames ∧ OwnS x5 w2.heap.size (.slice ca0 CN cc0) bnames ∧ OwnL x5 w2.heap.size (.slice la0 LN lc0) dser ∧ Below w.heap.size w x5 :=
          ⟨U4.out.1.rowOff hgr1 (fun e => by have := (U4.out.1.ge e).1; omega), U4.out.2.1.rowOff hgr1 (fun e => by have := (U4.out.2.1.ge e).1; omega), U4.out.2.2.1.rowOff hgr1 (fun e => by have := (U4.out.2.2.1.ge e).1; omega), hbb1 _ _ (by omega) U4.out.2.2.2⟩
        have T15 : x5.heap[w.heap.size]? = some (.cells [Value.int .i64 aser, .string aiss, .string asub, .int .i64 afr, .int .i64 atill, .int .i64 akey, .slice ra RN rc, .bool aca, .int .i64 ask, .int .i64 ase, .int .i64 ass].toArray 27 (0, 0)) := by rw [ho1 _ (by omega)]; exact T14.out
        have T25 : x5.heap[w.heap.size + 1]? = some (.cells [Value.int .i64 bser, .string biss, .string bsub, .int .i64 bfr, .int .i64 btill, .int .i64 bkey, .slice ca0 CN cc0, .bool bca, .int .i64 bsk, .int .i64 bse, .int .i64 bss].toArray 27 (0, 0)) := by rw [ho1 _ (by omega)]; exact T24.out
        have hl1 := run_loadVar_mid (P := Tryz.prog) _ w.heap.size 0 27 _ _ (rangeRow T15) Tryz.underlying27 rfl sizeCert
        have hl2 := run_loadVar_mid (P := Tryz.prog) _ (w.heap.size + 1) 0 27 _ _ (rangeRow T25) Tryz.underlying27 rfl sizeCert
        have hl3 := run_loadVar_mid (P := Tryz.prog) _ (w.heap.size + 2) 0 30 _ _ (rangeRow s3) Tryz.underlying30 rfl sizeCrl
        have HFIN : Hid (AnyPath w (.returned (.tuple #[.agg [Value.int .i64 aser, .string aiss, .string asub, .int .i64 afr, .int .i64 atill, .int .i64 akey, .slice ra RN rc, .bool aca, .int .i64 ask, .int .i64 ase, .int .i64 ass].toArray, .agg [Value.int .i64 bser, .string biss, .string bsub, .int .i64 bfr, .int .i64 btill, .int .i64 bkey, .slice ca0 CN cc0, .bool bca, .int .i64 bsk, .int .i64 bse, .int .i64 bss].toArray, .agg [Value.string diss, .int .i64 dfr, .int .i64 dtill, .slice la0 LN lc0, .int .i64 dsk, .int .i64 dse, .int .i64 dss].toArray, .int .i64 tv])) x5 ∧ Below w.heap.size w x5) :=
          ⟨⟨⟨aser, aiss, asub, afr, atill, akey, anames, aca, ask, ase, ass⟩, ⟨bser, biss, bsub, bfr, btill, bkey, bnames, bca, bsk, bse, bss⟩, ⟨diss, dfr, dtill, dser, dsk, dse, dss⟩, tv, .slice ra RN rc, .slice ca0 CN cc0, .slice la0 LN lc0, rfl, htv, HR.out.1, HR.out.2.1, HR.out.2.2, U5.1.mono (by omega), U5.2.1.mono (by omega), U5.2.2.1.mono (by omega)⟩, U5.2.2.2⟩
        refine hK.out _ _ ?_ (fun hHeld => ?_)
        · exact HX.out _ q1R q1C q1L
        clear hK K q1R q1C q1L ho1 hs1 hbb1 hgr1 U5 U4
        refine wpAnyH_take (i := 8) (oi := ⟨some 5, _, _, _, _, _⟩) (v := ?_) rfl (by kernel_rfl) (by kernel_rfl) (by kernel_rfl) (fun _ _ _ h => h) (Or.inl ⟨by kernel_rfl, ?_⟩) (by assumption) ?_
        rotate_left
        · (intro w hSw; (try dsimp only at hSw); go_simp; try with_reducible rfl)
        (try simp only [Act.put, List.setIfInBounds_toArray, List.set_cons_zero, List.set_cons_succ])
        refine wpAnyH_done (by kernel_rfl) ?_ _
        go_wp2
        refine bodyPost_ret (v := .tuple #[.agg [Value.int .i64 aser, .string aiss, .string asub, .int .i64 afr, .int .i64 atill, .int .i64 akey, .slice ra RN rc, .bool aca, .int .i64 ask, .int .i64 ase, .int .i64 ass].toArray, .agg [Value.int .i64 bser, .string biss, .string bsub, .int .i64 bfr, .int .i64 btill, .int .i64 bkey, .slice ca0 CN cc0, .bool bca, .int .i64 bsk, .int .i64 bse, .int .i64 bss].toArray, .agg [Value.string diss, .int .i64 dfr, .int .i64 dtill, .slice la0 LN lc0, .int .i64 dsk, .int .i64 dse, .int .i64 dss].toArray, .int .i64 tv]) ?_ rfl HFIN.out
        simp [results, Tryz.results4, asAddr, hl1, hl2, hl3, Act.put]
end Go.Proofs.YtegmmaomaegjjaaGreatDoor
