/- spec.l07Read, walked. -/
import Derived.Test.YtkhdjmjbdpmdnaaGreatDoorCR22
import Derived.Test.YtkhdjmjbdpmdnaaGreatDoorCR12
import Derived.Deep.Cut
import Derived.Deep.RegionHeld3
namespace Go.Proofs.YtkhdjmjbdpmdnaaGreatDoor
open Go.RowKit

set_option linter.unusedSimpArgs false in
set_option maxHeartbeats 4000000 in
set_option maxRecDepth 100000 in
theorem specRead7 (s : ByteArray) (w : World) (hs : s.size ≤ 20000) :
    Calls Tryz.prog 102 #[.string s] w fun e w' => ∃ v, e = .returned ((askS s).val v) ∧ OwnS w' w.heap.size v (askS s).names ∧ Below w.heap.size w w' := by
  obtain ⟨i0, hi, hz0, hz1, hz2⟩ := info_parts infoText
  obtain ⟨⟨ol, ob⟩, hO⟩ : ∃ o, o = openR s := ⟨_, rfl⟩
  obtain ⟨⟨⟨rl, rb⟩, q1⟩, hR⟩ : ∃ i, i = inR ol ob 48 := ⟨_, rfl⟩
  obtain ⟨⟨⟨bl, bb⟩, rl2, rb2⟩, hB⟩ : ∃ i, i = inR rl rb 48 := ⟨_, rfl⟩
  obtain ⟨⟨vn, vl, vb⟩, hVn⟩ : ∃ i, i = numR bl bb := ⟨_, rfl⟩
  obtain ⟨⟨tb, tl, td⟩, hT⟩ : ∃ i, i = takeR vl vb 3 := ⟨_, rfl⟩
  obtain ⟨⟨⟨hl, hb⟩, q2⟩, hH⟩ : ∃ i, i = inR tl td 48 := ⟨_, rfl⟩
  obtain ⟨⟨nb, q3⟩, hN⟩ : ∃ i, i = takeR rl2 rb2 3 := ⟨_, rfl⟩
  obtain ⟨k0, hk0⟩ : ∃ k, bitsQ tb 1 1 = [k] := ⟨_, rfl⟩
  obtain ⟨n0, n1, hn⟩ : ∃ a b, bitsQ nb 2 1 = [a, b] := ⟨_, _, rfl⟩
  have hA : askS s = ⟨k0, hostsR hl hb, k0, n0, n1⟩ := by
    unfold askS
    simp only [← hO, ← hR, ← hB, ← hVn, ← hT, ← hH, ← hN, hk0, hn, List.getD_cons_zero, List.getD_cons_succ]
  have zo : ∀ p ∈ ol, p.2.size ≤ 4000 := by have := allD_4000 s; rw [show ol = (openR s).1 by rw [← hO]]; exact this
  have zr : ∀ p ∈ rl, p.2.size ≤ 4000 := by have := inR_4000 ol ob 48; rw [← hR] at this; exact this
  have zb : ∀ p ∈ bl, p.2.size ≤ 4000 := by have := inR_4000 rl rb 48; rw [← hB] at this; exact this
  have zv : ∀ p ∈ vl, p.2.size ≤ 4000 := by have : vl = (takeR bl bb 2).2.1 := by have := congrArg (fun x => x.2.1) hVn; exact this
                                            rw [this]; exact takeR_rest zb
  have zt : ∀ p ∈ tl, p.2.size ≤ 4000 := by have : tl = (takeR vl vb 3).2.1 := by rw [← hT]
                                            rw [this]; exact takeR_rest zv
  have zh : ∀ p ∈ hl, p.2.size ≤ 4000 := by have := inR_4000 tl td 48; rw [← hH] at this; exact this
  have zr2 : ∀ p ∈ rl2, p.2.size ≤ 4000 := by have : rl2 = (takeR rl rb 48).2.1 := by have := congrArg (fun x => x.2.1) hB; exact this
                                              rw [this]; exact takeR_rest zr
  have ztb : tb.size ≤ 4000 := by have := takeR_sz (bad := vb) (t := 3) zv; rw [← hT] at this; exact this
  have znb : nb.size ≤ 4000 := by have := takeR_sz (bad := rb2) (t := 3) zr2; rw [← hN] at this; exact this
  have zhl : hl.length ≤ 60 := by
    have : hl = (allD (takeR tl td 48).1).1 := by have := congrArg (fun x => x.1.1) hH; exact this
    rw [this]; exact allD_len _
  rw [hA]
  have C0 : Hid (∀ V, Calls Tryz.prog 104 #[.string s] V fun e w' => ∃ g, e = .returned (.pointer (some ⟨g, 0, none⟩)) ∧ V.heap.size ≤ g ∧ IsRd w' V.heap.size g ol ob ∧ Below V.heap.size V w') := fun V => by have := rdOpen s V hs; rw [← hO] at this; exact this
  have C1 : Hid (∀ V A x, IsRd V A x ol ob → Calls Tryz.prog 105 #[.pointer (some ⟨x, 0, none⟩), .int .i64 48] V fun e w' => ∃ y, e = .returned (.pointer (some ⟨y, 0, none⟩)) ∧ V.heap.size ≤ y ∧ IsRd w' V.heap.size y rl rb ∧ ∀ A, A ≤ x → Below A V w') := fun V A x hV => by
    have := rdIn A x ol ob 48 V hV zo
    rw [← hR] at this
    exact this.mono fun e W ⟨y, a, b, c, _, _, d⟩ => ⟨y, a, b, c, d⟩
  have C2 : Hid (∀ V A x, IsRd V A x rl rb → Calls Tryz.prog 105 #[.pointer (some ⟨x, 0, none⟩), .int .i64 48] V fun e w' => ∃ y, e = .returned (.pointer (some ⟨y, 0, none⟩)) ∧ V.heap.size ≤ y ∧ IsRd w' V.heap.size y bl bb ∧ IsRd w' A x rl2 rb2 ∧ ∀ A, A ≤ x → Below A V w') := fun V A x hV => by
    have := rdIn A x rl rb 48 V hV zr
    rw [← hB] at this
    exact this.mono fun e W ⟨y, a, b, c, d, _, f⟩ => ⟨y, a, b, c, d, f⟩
  have C3 : Hid (∀ V A x, IsRd V A x bl bb → Calls Tryz.prog 107 #[.pointer (some ⟨x, 0, none⟩)] V fun e w' => e = .returned (.int .i64 vn) ∧ IsRd w' A x vl vb ∧ ∀ A, A ≤ x → Below A V w') := fun V A x hV => by
    have := rdNum A x bl bb V hV zb
    rw [← hVn] at this
    exact this.mono fun e W ⟨a, b, _, d⟩ => ⟨a, b, d⟩
  have C4 : Hid (∀ V A x, IsRd V A x vl vb → Calls Tryz.prog 109 #[.pointer (some ⟨x, 0, none⟩), .int .i64 3] V fun e w' => e = .returned (.string tb) ∧ IsRd w' A x tl td ∧ ∀ A, A ≤ x → Below A V w') := fun V A x hV => by
    have := rdTake A x vl vb 3 V hV
    rw [← hT] at this
    exact this.mono fun e W ⟨a, b, _, d⟩ => ⟨a, b, d⟩
  have C5 : Hid (∀ V A x, IsRd V A x tl td → Calls Tryz.prog 105 #[.pointer (some ⟨x, 0, none⟩), .int .i64 48] V fun e w' => ∃ y, e = .returned (.pointer (some ⟨y, 0, none⟩)) ∧ V.heap.size ≤ y ∧ IsRd w' V.heap.size y hl hb ∧ ∀ A, A ≤ x → Below A V w') := fun V A x hV => by
    have := rdIn A x tl td 48 V hV zt
    rw [← hH] at this
    exact this.mono fun e W ⟨y, a, b, c, _, _, d⟩ => ⟨y, a, b, c, d⟩
  have C6 : Hid (∀ V A x, IsRd V A x rl2 rb2 → Calls Tryz.prog 109 #[.pointer (some ⟨x, 0, none⟩), .int .i64 3] V fun e w' => e = .returned (.string nb) ∧ (∀ k, k < V.heap.size → k ≠ x → w'.heap[k]? = V.heap[k]?) ∧ ∀ A, A ≤ x → Below A V w') := fun V A x hV => by
    have := rdTake A x rl2 rb2 3 V hV
    rw [← hN] at this
    exact this.mono fun e W ⟨a, _, c, d⟩ => ⟨a, c, d⟩
  have E1 : Hid (∀ V, Calls Tryz.prog 108 #[.string tb, .int .i64 1] V fun e w' => ∃ g c, e = .returned (.slice (some ⟨g, 0, none⟩) 1 c) ∧ 1 ≤ c ∧ w'.cell? ⟨g, 0, none⟩ = some (.int .i64 k0) ∧ Below V.heap.size V w') := fun V => (specBits tb 1 V (by omega) (by omega)).mono fun e W ⟨v, e1, o, b⟩ => by
    rw [hk0] at o
    obtain ⟨g, c, rfl, hg, hc, hcs⟩ := OwnL.at o (by simp)
    exact ⟨g, c, e1, hc, hcs 0 k0 rfl, b⟩
  have E2 : Hid (∀ V, Calls Tryz.prog 108 #[.string nb, .int .i64 2] V fun e w' => ∃ g c, e = .returned (.slice (some ⟨g, 0, none⟩) 2 c) ∧ 2 ≤ c ∧ V.heap.size ≤ g ∧ w'.cell? ⟨g, 0, none⟩ = some (.int .i64 n0) ∧ w'.cell? ⟨g, 1, none⟩ = some (.int .i64 n1) ∧ Below V.heap.size V w') := fun V => (specBits nb 2 V (by omega) (by omega)).mono fun e W ⟨v, e1, o, b⟩ => by
    rw [hn] at o
    obtain ⟨g, c, rfl, hg, hc, hcs⟩ := OwnL.at o (by simp)
    exact ⟨g, c, e1, hc, hg, hcs 0 n0 rfl, hcs 1 n1 rfl, b⟩
  have ZH : Hid ((∀ p ∈ hl, p.2.size ≤ 4000) ∧ hl.length ≤ 60) := ⟨zh, zhl⟩
  clear hO hR hB hVn hT hH hN hk0 hn hA zo zr zb zv zt zh zr2 ztb znb zhl hs
  obtain ⟨R, hRR⟩ : ∃ R, R = hostsR hl hb := ⟨_, rfl⟩
  rw [← hRR]
  have HR : Hid (R = hostsR hl hb) := hRR
  clear hRR
  obtain ⟨w1, hw1⟩ : ∃ y, y = (w.alloc (.cells #[.int .i64 0, .slice none 0 0, .int .i64 0, .int .i64 0, .int .i64 0] 44 (0, 0))).alloc (.cells #[.int .i64 0, .slice none 0 0, .int .i64 0, .int .i64 0, .int .i64 0] 44 (0, 0)) := ⟨_, rfl⟩
  have g1 : w1.heap[w.heap.size + 1]? = some (.cells [Value.int .i64 0, .slice none 0 0, .int .i64 0, .int .i64 0, .int .i64 0].toArray 44 (0, 0)) := by rw [hw1]; exact heap_alloc2 w _ _
  have b1 : Below w.heap.size w w1 := by rw [hw1]; exact ((Below.refl _ w).alloc (Nat.le_refl _) _).alloc (by simp) _
  have z1 : w1.heap.size = w.heap.size + 2 := by rw [hw1]; simp
  have Z1 : Hid (w1.heap.size = w.heap.size + 2) := z1
  have G1 : Hid _ := g1
  have B1 : Hid (Below w.heap.size w w1) := b1
  have GR1 : Hid (w1.heap[w.heap.size]? = some (.cells [Value.int .i64 0, .slice none 0 0, .int .i64 0, .int .i64 0, .int .i64 0].toArray 44 (0, 0))) := by show _ = _; rw [hw1, Below.heap_alloc _ _ _ (by simp)]; exact heap_alloc_new w _
  clear g1 b1 z1
  go_enter Tryz.func102, Tryz.ntmps102
  go_wp2_with fail
  rw [← hw1]
  refine (C0.out w1).mono ?_
  rintro e w2 ⟨x0, rfl, p0, r0, b2⟩
  have R0 : Hid (IsRd w2 w1.heap.size x0 ol ob) := r0
  have P0 : Hid (w1.heap.size ≤ x0) := p0
  have B2 : Hid (Below w1.heap.size w1 w2) := b2
  clear r0 p0 b2 C0 hw1
  go_wp2_with fail
  refine (C1.out w2 _ x0 R0.out).mono ?_
  rintro e w3 ⟨x1, rfl, p1, r1, b3⟩
  have R1 : Hid (IsRd w3 w1.heap.size x1 rl rb) := r1.mono B2.out.size
  have P1 : Hid (w1.heap.size ≤ x1) := Nat.le_trans B2.out.size p1
  have B3 : Hid (Below w1.heap.size w1 w3) := B2.out.trans (b3 _ P0.out)
  clear r1 p1 b3 C1 R0
  go_wp2_with fail
  refine (C2.out w3 _ x1 R1.out).mono ?_
  rintro e w4 ⟨x2, rfl, p2, r2, rr, b4⟩
  have R2 : Hid (IsRd w4 w1.heap.size x2 bl bb) := r2.mono B3.out.size
  have P2 : Hid (x1 + 1 ≤ x2) := by have := R1.out.ge.2; show x1 + 1 ≤ x2; omega
  have Q4 : Hid (IsRd w4 w1.heap.size x1 rl2 rb2) := rr
  have B4 : Hid (Below w1.heap.size w1 w4) := B3.out.trans (b4 _ P1.out)
  have P2' : Hid (w1.heap.size ≤ x2) := by have := P2.out; have := P1.out; show w1.heap.size ≤ x2; omega
  clear r2 p2 rr b4 C2 R1
  go_wp2_with fail
  refine (C3.out w4 _ x2 R2.out).mono ?_
  rintro e w5 ⟨rfl, r2, b5⟩
  have R3 : Hid (IsRd w5 w1.heap.size x2 vl vb) := r2
  have Q5 : Hid (IsRd w5 w1.heap.size x1 rl2 rb2) := Q4.out.far (b5 _ P2.out)
  have B5 : Hid (Below w1.heap.size w1 w5) := B4.out.trans (b5 _ P2'.out)
  clear r2 b5 C3 R2 Q4
  go_wp2_with fail
  refine (C4.out w5 _ x2 R3.out).mono ?_
  rintro e w6 ⟨rfl, r2, b6⟩
  have R4 : Hid (IsRd w6 w1.heap.size x2 tl td) := r2
  have Q6 : Hid (IsRd w6 w1.heap.size x1 rl2 rb2) := Q5.out.far (b6 _ P2.out)
  have B6 : Hid (Below w1.heap.size w1 w6) := B5.out.trans (b6 _ P2'.out)
  clear r2 b6 C4 R3 Q5
  go_wp2_with fail
  refine (E1.out w6).mono ?_
  rintro e w7 ⟨ib, ic, rfl, hic, hic0, b7⟩
  have R5 : Hid (IsRd w7 w1.heap.size x2 tl td) := R4.out.keep b7
  have Q7 : Hid (IsRd w7 w1.heap.size x1 rl2 rb2) := Q6.out.keep b7
  have B7 : Hid (Below w1.heap.size w1 w7) := B6.out.trans (b7.mono B6.out.size)
  have g7 : w7.heap[w.heap.size + 1]? = some (.cells [Value.int .i64 0, .slice none 0 0, .int .i64 0, .int .i64 0, .int .i64 0].toArray 44 (0, 0)) := by rw [B7.out.block _ (by have := Z1.out; omega)]; exact G1.out
  have G7 : Hid _ := g7
  have y0 := rowFacts g7 0 _ rfl
  have z0 := rowFree g7 0
  clear b7 E1 R4 Q6 g7
  obtain ⟨w8, hw8⟩ : ∃ y, y = w7.setCell ⟨w.heap.size + 1, 0, none⟩ (.int .i64 k0) := ⟨_, rfl⟩
  have G8 : Hid (w8.heap[w.heap.size + 1]? = some (.cells [Value.int .i64 k0, .slice none 0 0, .int .i64 0, .int .i64 0, .int .i64 0].toArray 44 (0, 0))) := by show _ = _; rw [hw8]; exact rowSet (i := 0) _ G7.out
  have R8 : Hid (IsRd w8 w1.heap.size x2 tl td) := by rw [hw8]; exact R5.out.put (by have := Z1.out; omega) _
  have Q8 : Hid (IsRd w8 w1.heap.size x1 rl2 rb2) := by rw [hw8]; exact Q7.out.put (by have := Z1.out; omega) _
  have B8 : Hid (Below w.heap.size w w8) := by rw [hw8]; exact (B1.out.trans (B7.out.mono (by have := Z1.out; omega))).setCell (by simp) _
  have S8 : Hid (w1.heap.size ≤ w8.heap.size) := by rw [hw8]; show w1.heap.size ≤ (w7.setCell _ _).heap.size; have := B7.out.size; simpa using this
  have GR8 : Hid (w8.heap[w.heap.size]? = some (.cells [Value.int .i64 0, .slice none 0 0, .int .i64 0, .int .i64 0, .int .i64 0].toArray 44 (0, 0))) := by show _ = _; rw [hw8, heap_setCell_other w7 _ _ _ (by show w.heap.size ≠ w.heap.size + 1; omega), B7.out.block _ (by have := Z1.out; omega)]; exact GR1.out
  clear R5 Q7 G7 B7
  go_wp2_with fail
  rw [← hw8]
  refine (C5.out w8 _ x2 R8.out).mono ?_
  rintro e w9 ⟨x3, rfl, p3, r3, b9⟩
  have R9 : Hid (IsRd w9 w1.heap.size x3 hl hb) := r3.mono S8.out
  have P3 : Hid (x1 + 1 ≤ x3 ∧ w1.heap.size ≤ x3 ∧ x3 < w9.heap.size) := by have h1 := R8.out.ge.2; have h2 := P2.out; have h3 := r3.ge; have h4 := S8.out; show _ ∧ _ ∧ _; omega
  have Q9 : Hid (IsRd w9 w1.heap.size x1 rl2 rb2) := Q8.out.far (b9 _ P2.out)
  have G9 : Hid (w9.heap[w.heap.size + 1]? = some (.cells [Value.int .i64 k0, .slice none 0 0, .int .i64 0, .int .i64 0, .int .i64 0].toArray 44 (0, 0))) := by show _ = _; rw [(b9 _ P2'.out).block _ (by have := Z1.out; omega)]; exact G8.out
  have B9 : Hid (Below w.heap.size w w9) := B8.out.trans (b9 _ (by have := Z1.out; have := P2'.out; omega))
  have GR9 : Hid (w9.heap[w.heap.size]? = some (.cells [Value.int .i64 0, .slice none 0 0, .int .i64 0, .int .i64 0, .int .i64 0].toArray 44 (0, 0))) := by show _ = _; rw [(b9 _ P2'.out).block _ (by have := Z1.out; omega)]; exact GR8.out
  clear b9 p3 r3 hw8 GR8 R8 Q8 G8 B8 S8 C5 y0 z0 hic0 hic
  go_wp2_with fail
  go_loopw [] (fun wr => ∃ (pre : List ByteArray) (l : List (Int × ByteArray)) (b : Bool) (v : Value), IsRd wr w1.heap.size x3 l b ∧ IsRd wr w1.heap.size x1 rl2 rb2 ∧ wr.heap[w.heap.size + 1]? = some (.cells [Value.int .i64 k0, v, .int .i64 0, .int .i64 0, .int .i64 0].toArray 44 (0, 0)) ∧ OwnS wr w9.heap.size v pre ∧ R = pre ++ hostsR l b ∧ Below w.heap.size w wr ∧ w9.heap.size ≤ wr.heap.size ∧ wr.heap[w.heap.size]? = some (.cells [Value.int .i64 0, .slice none 0 0, .int .i64 0, .int .i64 0, .int .i64 0].toArray 44 (0, 0))) (fun wr => measR wr x3)
  case atStart => exact ⟨[], hl, hb, .slice none 0 0, R9.out, Q9.out, G9.out, ownS_nil _ _, HR.out, B9.out, Nat.le_refl _, GR9.out⟩
  case round =>
    obtain ⟨pre, l, b, v, hrd, hq, hg, hown, hR2, hbl, hws, hgr⟩ := hrel
    have hme := measR_is hrd
    obtain ⟨ha, hac, hx3, _, _, _, _⟩ := id hrd
    have u0 := rowFacts hx3 0 _ rfl
    have u1 := rowFacts hx3 1 _ rfl
    have HQ : Hid (IsRd wr w1.heap.size x1 rl2 rb2) := hq
    have HG : Hid _ := hg
    have HGR : Hid (wr.heap[w.heap.size]? = some (.cells [Value.int .i64 0, .slice none 0 0, .int .i64 0, .int .i64 0, .int .i64 0].toArray 44 (0, 0))) := hgr
    have HRD : Hid (IsRd wr w1.heap.size x3 l b) := hrd
    have HBL : Hid (Below w.heap.size w wr) := hbl
    have HWS : Hid (w9.heap.size ≤ wr.heap.size) := hws
    obtain ⟨va, vc, rfl, hvc⟩ := OwnS.form hown
    have HO : Hid (OwnS wr w9.heap.size (.slice va pre.length vc) pre) := hown
    clear hrd hq hg hown hbl hws hx3 hgr
    by_cases hgo : b = false ∧ 0 < l.length
    rotate_left
    · have HF : Hid (R = pre) := by
        show _ = _
        rw [hR2]
        cases b with
        | true => rw [hostsR_bad, List.append_nil]
        | false =>
          cases l with
          | nil => rw [hostsR_nil, List.append_nil]
          | cons p r => exact absurd ⟨rfl, by simp⟩ hgo
      have HC : Hid (b = true ∨ (b = false ∧ l = [])) := by
        show _ ∨ _
        cases b with
        | true => exact .inl rfl
        | false =>
          cases l with
          | nil => exact .inr ⟨rfl, rfl⟩
          | cons p r => exact absurd ⟨rfl, by simp⟩ hgo
      clear hme hR2 hgo HRD
      obtain ⟨pl, hpl⟩ : ∃ n, n = pre.length := ⟨_, rfl⟩
      have HPl : Hid (pl = pre.length) := hpl
      rw [← hpl] at HG HO hvc
      clear hpl
      rcases HC.out with rfl | ⟨rfl, rfl⟩
      all_goals
        clear HC
        go_wp2_with fail
        refine (C6.out wr _ x1 HQ.out).mono ?_
        rintro e v1 ⟨rfl, c0, c1⟩
        have K1 : Hid (Below w1.heap.size wr v1) := c1 _ P1.out
        have O1 : Hid (OwnS v1 w9.heap.size (.slice va pl vc) pre) := HO.out.same fun k h1 h2 => c0 k h2 (by have := P3.out; omega)
        clear c0 c1
        go_wp2_with fail
        refine (E2.out v1).mono ?_
        rintro e v2 ⟨jb, jc, rfl, hjc, hjb, hj0, hj1, c2⟩
        have hz1 := Z1.out
        have hp3 := P3.out
        have hws := HWS.out
        have hk1 := K1.out.size
        have g2 : v2.heap[w.heap.size + 1]? = some (.cells [Value.int .i64 k0, .slice va pl vc, .int .i64 0, .int .i64 0, .int .i64 0].toArray 44 (0, 0)) := by rw [c2.block _ (by omega), K1.out.block _ (by omega)]; exact HG.out
        have gr2 : v2.heap[w.heap.size]? = some (.cells [Value.int .i64 0, .slice none 0 0, .int .i64 0, .int .i64 0, .int .i64 0].toArray 44 (0, 0)) := by rw [c2.block _ (by omega), K1.out.block _ (by omega)]; exact HGR.out
        have O2 : Hid (OwnS v2 w9.heap.size (.slice va pl vc) pre) := O1.out.keep c2
        have B2 : Hid (Below w.heap.size w v2) := (HBL.out.trans (K1.out.mono (by omega))).trans (c2.mono (by omega))
        have hs2 : w9.heap.size ≤ v2.heap.size := by have := c2.size; omega
        have hjn : jb ≠ w.heap.size + 1 := by omega
        obtain ⟨v3, hv3⟩ : ∃ y, y = (((v2.setCell ⟨w.heap.size + 1, 2, none⟩ (.int .i64 k0)).setCell ⟨w.heap.size + 1, 3, none⟩ (.int .i64 n0)).setCell ⟨w.heap.size + 1, 4, none⟩ (.int .i64 n1)) := ⟨_, rfl⟩
        have t0 : v3.heap[w.heap.size + 1]? = some (.cells [Value.int .i64 k0, .slice va pl vc, .int .i64 k0, .int .i64 n0, .int .i64 n1].toArray 44 (0, 0)) := by rw [hv3]; exact rowSet (i := 4) _ (rowSet (i := 3) _ (rowSet (i := 2) _ g2))
        have ho3 : ∀ k, k ≠ w.heap.size + 1 → v3.heap[k]? = v2.heap[k]? := fun k hk => by rw [hv3, heap_setCell_other _ _ _ _ hk, heap_setCell_other _ _ _ _ hk, heap_setCell_other _ _ _ _ hk]
        have t1 : v3.heap[w.heap.size]? = some (.cells [Value.int .i64 0, .slice none 0 0, .int .i64 0, .int .i64 0, .int .i64 0].toArray 44 (0, 0)) := by rw [ho3 _ (by omega)]; exact gr2
        have B3 : Hid (Below w.heap.size w v3) := by rw [hv3]; exact ((B2.out.setCell (by simp) _).setCell (by simp) _).setCell (by simp) _
        have O3 : Hid (OwnS v3 w9.heap.size (.slice va pl vc) pre) := O2.out.same fun k h1 h2 => ho3 k (by omega)
        have T0 : Hid _ := t0
        have T1 : Hid _ := t1
        have HS3 : Hid (v3.cell? ⟨w.heap.size + 1, 0, none⟩ = some (.int .i64 k0) ∧ v3.cell? ⟨jb, 0, none⟩ = some (.int .i64 n0) ∧ v3.cell? ⟨jb, 1, none⟩ = some (.int .i64 n1)) := by
          refine ⟨rowFacts t0 0 _ rfl, ?_, ?_⟩
          · rw [hv3, World.cell?_setCell_far _ _ _ _ (fun h => hjn h.symm), World.cell?_setCell_far _ _ _ _ (fun h => hjn h.symm), World.cell?_setCell_far _ _ _ _ (fun h => hjn h.symm)]; exact hj0
          · rw [hv3, World.cell?_setCell_far _ _ _ _ (fun h => hjn h.symm), World.cell?_setCell_far _ _ _ _ (fun h => hjn h.symm), World.cell?_setCell_far _ _ _ _ (fun h => hjn h.symm)]; exact hj1
        have p0 := rowFacts g2 0 _ rfl
        have p2 := rowFacts g2 2 _ rfl
        have p3 := rowFacts g2 3 _ rfl
        have p4 := rowFacts g2 4 _ rfl
        have q2 := rowFree g2 2
        have q3 := rowFree g2 3
        have q4 := rowFree g2 4
        clear hz1 hp3 hws hk1 g2 gr2 c2 hs2 t0 t1 ho3 B2 O2 O1 K1
        go_upto_region 10 with fail
        refine wp_region_held_drew (S := fun V => V.cell? ⟨w.heap.size + 1, 0, none⟩ = some (.int .i64 k0) ∧ V.cell? ⟨jb, 0, none⟩ = some (.int .i64 n0) ∧ V.cell? ⟨jb, 1, none⟩ = some (.int .i64 n1)) (by kernel_rfl) ⟨p0, hj0, hj1⟩ (fun hHeld => ?_)
        refine wpAnyH_take (i := 0) (oi := ⟨some 47, _, _, _, _, _⟩) (v := ?_) rfl (by kernel_rfl) (by kernel_rfl) (by kernel_rfl) (fun _ _ _ h => h) (Or.inl ⟨by kernel_rfl, ?_⟩) (by assumption) ?_
        rotate_left
        · (intro w hSw; (try dsimp only at hSw); go_simp; try with_reducible rfl)
        (try simp only [Act.put, List.setIfInBounds_toArray, List.set_cons_zero, List.set_cons_succ])
        refine wpAnyH_take (i := 1) (oi := ⟨some 48, _, _, _, _, _⟩) (v := ?_) rfl (by kernel_rfl) (by kernel_rfl) (by kernel_rfl) (fun _ _ _ h => h) (Or.inl ⟨by kernel_rfl, ?_⟩) (by assumption) ?_
        rotate_left
        · (intro w hSw; (try dsimp only at hSw); go_simp; try with_reducible rfl)
        (try simp only [Act.put, List.setIfInBounds_toArray, List.set_cons_zero, List.set_cons_succ])
        refine wpAnyH_take (i := 2) (oi := ⟨some 49, _, _, _, _, _⟩) (v := ?_) rfl (by kernel_rfl) (by kernel_rfl) (by kernel_rfl) (fun _ _ _ h => h) (Or.inl ⟨by kernel_rfl, ?_⟩) (by assumption) ?_
        rotate_left
        · (intro w hSw; (try dsimp only at hSw); go_simp; try with_reducible rfl)
        (try simp only [Act.put, List.setIfInBounds_toArray, List.set_cons_zero, List.set_cons_succ])
        refine wpAnyH_take (i := 3) (oi := ⟨some 50, _, _, _, _, _⟩) (v := ?_) rfl (by kernel_rfl) (by kernel_rfl) (by kernel_rfl) (fun _ _ _ h => h) (Or.inl ⟨by kernel_rfl, ?_⟩) (by assumption) ?_
        rotate_left
        · (intro w hSw; (try dsimp only at hSw); go_simp; try with_reducible rfl)
        (try simp only [Act.put, List.setIfInBounds_toArray, List.set_cons_zero, List.set_cons_succ])
        refine wpAnyH_take (i := 4) (oi := ⟨some 51, _, _, _, _, _⟩) (v := ?_) rfl (by kernel_rfl) (by kernel_rfl) (by kernel_rfl) (fun _ _ _ h => h) (Or.inl ⟨by kernel_rfl, ?_⟩) (by assumption) ?_
        rotate_left
        · (intro w hSw; (try dsimp only at hSw); go_simp; try with_reducible rfl)
        (try simp only [Act.put, List.setIfInBounds_toArray, List.set_cons_zero, List.set_cons_succ])
        refine wpAnyH_take (i := 5) (oi := ⟨some 52, _, _, _, _, _⟩) (v := ?_) rfl (by kernel_rfl) (by kernel_rfl) (by kernel_rfl) (fun _ _ _ h => h) (Or.inl ⟨by kernel_rfl, ?_⟩) (by assumption) ?_
        rotate_left
        · (intro w hSw; (try dsimp only at hSw); go_simp; try with_reducible rfl)
        (try simp only [Act.put, List.setIfInBounds_toArray, List.set_cons_zero, List.set_cons_succ])
        refine wpAnyH_take (i := 6) (oi := ⟨some 53, _, _, _, _, _⟩) (v := ?_) rfl (by kernel_rfl) (by kernel_rfl) (by kernel_rfl) (fun _ _ _ h => h) (Or.inl ⟨by kernel_rfl, ?_⟩) (by assumption) ?_
        rotate_left
        · (intro w hSw; (try dsimp only at hSw); go_simp; try with_reducible rfl)
        (try simp only [Act.put, List.setIfInBounds_toArray, List.set_cons_zero, List.set_cons_succ])
        refine wpAnyH_take (i := 7) (oi := ⟨some 54, _, _, _, _, _⟩) (v := ?_) rfl (by kernel_rfl) (by kernel_rfl) (by kernel_rfl) (fun _ _ _ h => h) (Or.inl ⟨by kernel_rfl, ?_⟩) (by assumption) ?_
        rotate_left
        · (intro w hSw; (try dsimp only at hSw); go_simp; try with_reducible rfl)
        (try simp only [Act.put, List.setIfInBounds_toArray, List.set_cons_zero, List.set_cons_succ])
        refine wpAnyH_take (i := 8) (oi := ⟨some 55, _, _, _, _, _⟩) (v := ?_) rfl (by kernel_rfl) (by kernel_rfl) (by kernel_rfl) (fun _ _ _ h => h) (Or.inl ⟨by kernel_rfl, ?_⟩) (by assumption) ?_
        rotate_left
        · (intro w hSw; (try dsimp only at hSw); go_simp; try with_reducible rfl)
        (try simp only [Act.put, List.setIfInBounds_toArray, List.set_cons_zero, List.set_cons_succ])
        refine wpAnyH_take (i := 9) (oi := ⟨some 56, _, _, _, _, _⟩) (v := ?_) rfl (by kernel_rfl) (by kernel_rfl) (by kernel_rfl) (fun _ _ _ h => h) (Or.inl ⟨by kernel_rfl, ?_⟩) (by assumption) ?_
        rotate_left
        · (intro w hSw; (try dsimp only at hSw); go_simp; try with_reducible rfl)
        (try simp only [Act.put, List.setIfInBounds_toArray, List.set_cons_zero, List.set_cons_succ])
        refine wpAnyH_ready (rs := [10]) (by kernel_rfl) (by simp) ?_
        refine AllReadyH.cons (o := ⟨none, _, _, _, _, _⟩) rfl (fun K hK => ?_) AllReadyH.nil
        go_simp
        rw [← hv3]
        refine hK.out _ _ ?_ (fun hHeld => ?_)
        · exact HS3.out
        clear hK K hv3 p0 p2 p3 p4 q2 q3 q4 hj0 hj1
        (try simp only [Act.put, List.setIfInBounds_toArray, List.set_cons_zero, List.set_cons_succ])
        refine wpAnyH_done (by kernel_rfl) ?_ _
        obtain ⟨C, hC⟩ : ∃ C, C = [Value.int .i64 k0, .slice va pl vc, .int .i64 k0, .int .i64 n0, .int .i64 n1] := ⟨_, rfl⟩
        have hr := rangeRow T0.out
        rw [← hC] at hr
        have hR := T1.out
        have h1 : ∀ v ∈ C, v.oneCell' = true := by rw [hC]; simp [Value.oneCell']
        have hi' : (Tryz.prog.info? 44).map (·.size) = some C.length := by rw [hC]; exact sizeCsr
        have HLn : Hid ([Value.int .i64 0, .slice none 0 0, .int .i64 0, .int .i64 0, .int .i64 0].length = C.length) := by rw [hC]; rfl
        have HCC : Hid (C = [Value.int .i64 k0, .slice va pl vc, .int .i64 k0, .int .i64 n0, .int .i64 n1]) := hC
        clear hC
        go_wp2_with (first | (refine wpList_load_mid rfl 44 _ rfl (w.heap.size + 1) 0 rfl C _ hr Tryz.underlying44 rfl hi' ?_) | (refine wpList_store_row rfl 44 _ _ rfl (w.heap.size) _ C 44 rfl rfl hR HLn.out hi' h1 ?_))
        intro w8 hrow ho hs8 hbb
        have HROW : Hid _ := hrow
        have HB8 : Hid (Below w.heap.size w w8) := hbb _ _ (Nat.le_refl _) B3.out.drew
        have O8 : Hid (OwnS w8 w9.heap.size (.slice va pl vc) pre) := O3.out.same fun b h1 h2 => ho b (by have := P3.out; have := Z1.out; omega)
        clear ho hs8 hbb hrow hr hR h1
        go_wp2
        refine bodyPost_ret (v := .agg C.toArray) ?_ rfl ⟨.slice va pl vc, by rw [HCC.out]; rfl, by rw [HF.out]; exact O8.out.mono (by have := P3.out; have := Z1.out; omega), HB8.out⟩
        have hl3 := run_loadVar_mid (P := Tryz.prog) _ (w.heap.size) 0 44 _ _ (rangeRow HROW.out) Tryz.underlying44 rfl hi'
        simp [results, Tryz.results102, asAddr, hl3]
    obtain ⟨rfl, hl0⟩ := hgo
    obtain ⟨p, r, rfl⟩ : ∃ p r, l = p :: r := by
      cases l with
      | nil => simp at hl0
      | cons p r => exact ⟨p, r, rfl⟩
    have hst := hostsR_step p r
    have hls := takeR_less p r 130
    obtain ⟨⟨tk, l', b'⟩, hTK⟩ : ∃ i, i = takeR (p :: r) false 130 := ⟨_, rfl⟩
    have HTk : Hid (∀ V, IsRd V w1.heap.size x3 (p :: r) false → Calls Tryz.prog 109 #[.pointer (some ⟨x3, 0, none⟩), .int .i64 130] V fun e w' => e = .returned (.string tk) ∧ IsRd w' w1.heap.size x3 l' b' ∧ (∀ k, k < V.heap.size → k ≠ x3 → w'.heap[k]? = V.heap[k]?) ∧ ∀ A, A ≤ x3 → Below A V w') := fun V hV => by
      have := rdTake w1.heap.size x3 (p :: r) false 130 V hV
      rw [← hTK] at this
      exact this
    rw [← hTK] at hst hls
    simp only at hst hls
    have HX : Hid (R = (pre ++ [tk]) ++ hostsR l' b') := by show _ = _; rw [hR2, hst, List.append_assoc]; rfl
    have HLen : Hid (pre.length + 1 ≤ 60) := by
      have h1 := hostsR_len hl hb
      have h2 := congrArg List.length HR.out
      have h3 := congrArg List.length HX.out
      have h4 := ZH.out.2
      simp only [List.length_append, List.length_cons, List.length_nil] at h3
      show _ ≤ _
      omega
    have HME : Hid (l'.length + (if b' = true then 0 else 1) < measR wr x3) := by rw [hme]; exact hls
    generalize hpl : (p :: r).length = nl at *
    generalize hpp : pre.length = pl at *
    have HPl : Hid (pre.length = pl) := hpp
    have y1 := rowFacts HG.out 1 _ rfl
    clear hst hls hTK hR2 hme hpl hpp
    go_upto_region 8 with fail
    refine wp_region_held_drew (S := fun _ => True) (by kernel_rfl) trivial (fun hHeld => ?_)
    have y1' : wr.drew.cell? ⟨w.heap.size + 1, 1, none⟩ = some (.slice va pl vc) := y1
    refine wpAnyH_take (i := 0) (oi := ⟨some 37, _, _, _, _, _⟩) (v := ?_) rfl (by kernel_rfl) (by kernel_rfl) (by kernel_rfl) (fun _ _ _ h => h) (Or.inl ⟨by kernel_rfl, ?_⟩) (by assumption) ?_
    rotate_left
    · (intro w hSw; (try dsimp only at hSw); go_simp; try with_reducible rfl)
    (try simp only [Act.put, List.setIfInBounds_toArray, List.set_cons_zero, List.set_cons_succ])
    refine wpAnyH_take (i := 2) (oi := ⟨some 39, _, _, _, _, _⟩) (v := ?_) rfl (by kernel_rfl) (by kernel_rfl) (by kernel_rfl) (fun _ _ _ h => h) (Or.inl ⟨by kernel_rfl, ?_⟩) (by assumption) ?_
    rotate_left
    · (intro w hSw; (try dsimp only at hSw); go_simp; try with_reducible rfl)
    (try simp only [Act.put, List.setIfInBounds_toArray, List.set_cons_zero, List.set_cons_succ])
    refine wpAnyH_ready (rs := [1, 3]) (by kernel_rfl) (by simp) ?_
    refine AllReadyH.cons (o := ⟨some 38, _, _, _, _, _⟩) rfl (fun K hK => ?_) (AllReadyH.cons (o := ⟨some 40, _, _, _, _, _⟩) rfl (fun K hK => ?_) AllReadyH.nil)
    · go_simp
      refine hK.out _ _ trivial (fun hHeld => ?_)
      clear hK K
      (try simp only [Act.put, List.setIfInBounds_toArray, List.set_cons_zero, List.set_cons_succ])
      refine wpAnyH_ready (rs := [3]) (by kernel_rfl) (by simp) ?_
      refine AllReadyH.cons (o := ⟨some 40, _, _, _, _, _⟩) rfl (fun K hK => ?_) AllReadyH.nil
      go_simp
      refine (HTk.out wr.drew HRD.out).mono ?_
      rintro e w4 ⟨rfl, f1, f2, f3⟩
      have R4 : Hid (IsRd w4 w1.heap.size x3 l' b') := f1
      have F4 : Hid (∀ k, k < wr.heap.size → k ≠ x3 → w4.heap[k]? = wr.heap[k]?) := f2
      have B4' : Hid (∀ A, A ≤ x3 → Below A wr w4) := fun A hA => (Below.refl A wr).drew.trans (f3 A hA)
      have O4 : Hid (OwnS w4 w9.heap.size (.slice va pl vc) pre) := HO.out.same fun k hk hk2 => F4.out k hk2 (by have := P3.out.2.2; omega)
      have g4 : w4.heap[w.heap.size + 1]? = some (.cells [Value.int .i64 k0, .slice va pl vc, .int .i64 0, .int .i64 0, .int .i64 0].toArray 44 (0, 0)) := by rw [F4.out _ (by have := HG.out; exact heap_lt this) (by have := P3.out.2.1; have := Z1.out; omega)]; exact HG.out
      have G4 : Hid _ := g4
      have S4 : Hid (wr.heap.size ≤ w4.heap.size) := (B4'.out w1.heap.size P3.out.2.1).size
      clear f1 f2 f3
      refine hK.out _ _ trivial (fun hHeld => ?_)
      clear hK K
      (try simp only [Act.put, List.setIfInBounds_toArray, List.set_cons_zero, List.set_cons_succ])
      refine wpAnyH_ready (rs := [4]) (by kernel_rfl) (by simp) ?_
      refine AllReadyH.cons (o := ⟨some 41, _, _, _, _, _⟩) rfl (fun K hK => ?_) AllReadyH.nil
      go_simp
      refine hK.out _ _ trivial (fun hHeld => ?_)
      clear hK K
      (try simp only [Act.put, List.setIfInBounds_toArray, List.set_cons_zero, List.set_cons_succ])
      refine wpAnyH_ready (rs := [5]) (by kernel_rfl) (by simp) ?_
      refine AllReadyH.cons (o := ⟨some 42, _, _, _, _, _⟩) rfl (fun K hK => ?_) AllReadyH.nil
      rw [if_pos (by rfl)]
      have hO : w4.ownsRow w9.heap.size 9 1 (.slice va pl vc) pl (sCells pre) := by
        have h2 := O4.out
        unfold OwnS at h2
        rw [HPl.out] at h2
        exact h2
      refine wp_append_own _ _ _ 23 rfl w9.heap.size 9 i0 (.string ⟨#[]⟩) 1 16 Tryz.underlying23 hi hz0 hz1 hz2 rfl (by decide) _ _ _ rfl (hO.alloc _) ⟨w4.heap.size, 0, none⟩ 1 1 [.string tk] rfl rfl ?c1 ?c2 ?c3 ?c4 ?c5 ?_
      case c1 => exact cells_one (by simp)
      case c2 => intro u hu; simp at hu; subst hu; rfl
      case c3 => have := HLen.out; unfold maxLen; omega
      case c4 => have := HLen.out; omega
      case c5 => have := S4.out; have := HWS.out; simp; omega
      intro v' w5 hown' hgrow _
      have b5 : Below w9.heap.size w4 w5 := ((Below.refl _ w4).alloc (by have := S4.out; have := HWS.out; omega) _).grown hgrow (by have := S4.out; have := HWS.out; simp; omega) (fun k hk => (hO.lt k hk).1)
      have R5 : Hid (IsRd w5 w1.heap.size x3 l' b') := R4.out.far (b5.mono P3.out.2.2)
      have Q5 : Hid (IsRd w5 w1.heap.size x1 rl2 rb2) := (HQ.out.far (B4'.out _ P3.out.1)).far (b5.mono (by have := P3.out; omega))
      have g5 : w5.heap[w.heap.size + 1]? = some (.cells [Value.int .i64 k0, .slice va pl vc, .int .i64 0, .int .i64 0, .int .i64 0].toArray 44 (0, 0)) := by rw [b5.block _ (by have := P3.out; have := Z1.out; omega)]; exact G4.out
      have o5 : OwnS w5 w9.heap.size v' (pre ++ [tk]) := by
        show World.ownsRow _ _ _ _ _ _ _
        rw [List.length_append, HPl.out, sCells, List.map_append]
        exact hown'
      obtain ⟨ua, uc, e5, _⟩ := OwnS.form o5
      obtain ⟨ul, hul⟩ : ∃ n, n = (pre ++ [tk]).length := ⟨_, rfl⟩
      rw [← hul] at e5
      subst e5
      have O5 : Hid (OwnS w5 w9.heap.size (.slice ua ul uc) (pre ++ [tk])) := o5
      clear hul o5
      have B5' : Hid (Below w.heap.size w w5) := (HBL.out.trans (B4'.out w.heap.size (by have := P3.out; have := Z1.out; omega))).trans (b5.mono (by have := P3.out; have := Z1.out; omega))
      have S5 : Hid (w9.heap.size ≤ w5.heap.size) := Nat.le_trans HWS.out (Nat.le_trans S4.out b5.size)
      have G5 : Hid _ := g5
      have GR5 : Hid (w5.heap[w.heap.size]? = some (.cells [Value.int .i64 0, .slice none 0 0, .int .i64 0, .int .i64 0, .int .i64 0].toArray 44 (0, 0))) := by show _ = _; rw [b5.block _ (by have := P3.out; have := Z1.out; omega), F4.out _ (heap_lt HGR.out) (by have := P3.out.2.1; have := Z1.out; omega)]; exact HGR.out
      have y5 := rowFacts g5 1 _ rfl
      have z5 := rowFree g5 1
      clear hown' hgrow b5 hO R4 F4 O4 G4 S4 B4' g5 g4 y1 y1'
      refine hK.out _ _ trivial (fun hHeld => ?_)
      clear hK K
      (try simp only [Act.put, List.setIfInBounds_toArray, List.set_cons_zero, List.set_cons_succ])
      refine wpAnyH_take (i := 6) (oi := ⟨some 43, _, _, _, _, _⟩) (v := ?_) rfl (by kernel_rfl) (by kernel_rfl) (by kernel_rfl) (fun _ _ _ h => h) (Or.inl ⟨by kernel_rfl, ?_⟩) (by assumption) ?_
      rotate_left
      · (intro w hSw; (try dsimp only at hSw); go_simp; try with_reducible rfl)
      (try simp only [Act.put, List.setIfInBounds_toArray, List.set_cons_zero, List.set_cons_succ])
      refine wpAnyH_ready (rs := [7]) (by kernel_rfl) (by simp) ?_
      refine AllReadyH.cons (o := ⟨none, _, _, _, _, _⟩) rfl (fun K hK => ?_) AllReadyH.nil
      go_simp
      refine hK.out _ _ trivial (fun hHeld => ?_)
      clear hK K
      (try simp only [Act.put, List.setIfInBounds_toArray, List.set_cons_zero, List.set_cons_succ])
      refine wpAnyH_done (by kernel_rfl) ?_ _
      have hz1 := Z1.out
      have hp3 := P3.out
      have hs5 := S5.out
      have R6 : Hid (IsRd (w5.setCell ⟨w.heap.size + 1, 1, none⟩ (.slice ua ul uc)) w1.heap.size x3 l' b') := R5.out.put (by omega) _
      have HRel : Hid (∃ (pre : List ByteArray) (l : List (Int × ByteArray)) (b : Bool) (v : Value), IsRd (w5.setCell ⟨w.heap.size + 1, 1, none⟩ (.slice ua ul uc)) w1.heap.size x3 l b ∧ IsRd (w5.setCell ⟨w.heap.size + 1, 1, none⟩ (.slice ua ul uc)) w1.heap.size x1 rl2 rb2 ∧ (w5.setCell ⟨w.heap.size + 1, 1, none⟩ (.slice ua ul uc)).heap[w.heap.size + 1]? = some (.cells [Value.int .i64 k0, v, .int .i64 0, .int .i64 0, .int .i64 0].toArray 44 (0, 0)) ∧ OwnS (w5.setCell ⟨w.heap.size + 1, 1, none⟩ (.slice ua ul uc)) w9.heap.size v pre ∧ R = pre ++ hostsR l b ∧ Below w.heap.size w (w5.setCell ⟨w.heap.size + 1, 1, none⟩ (.slice ua ul uc)) ∧ w9.heap.size ≤ (w5.setCell ⟨w.heap.size + 1, 1, none⟩ (.slice ua ul uc)).heap.size ∧ (w5.setCell ⟨w.heap.size + 1, 1, none⟩ (.slice ua ul uc)).heap[w.heap.size]? = some (.cells [Value.int .i64 0, .slice none 0 0, .int .i64 0, .int .i64 0, .int .i64 0].toArray 44 (0, 0))) := ⟨pre ++ [tk], l', b', _, R6.out, Q5.out.put (by omega) _, rowSet (i := 1) _ G5.out, O5.out.same (fun k hk _ => heap_setCell_other w5 _ k _ (by show k ≠ w.heap.size + 1; omega)), HX.out, B5'.out.setCell (by simp) _, by simpa using hs5, by rw [heap_setCell_other w5 _ _ _ (by show w.heap.size ≠ w.heap.size + 1; omega)]; exact GR5.out⟩
      have HM2 : Hid (measR (w5.setCell ⟨w.heap.size + 1, 1, none⟩ (.slice ua ul uc)) x3 < measR wr x3) := by show _ < _; rw [measR_is R6.out]; exact HME.out
      clear R5 Q5 G5 GR5 O5 B5' S5 R6 y5 z5 hz1 hp3 hs5
      go_roundw
      case rel => exact ⟨_, _, _, _, _, _, _, _, _, _, _, _, _, _, _, _, _, _, _, _, HRel.out, rfl⟩
      case measure => exact HM2.out
    · go_simp
      refine (HTk.out wr.drew HRD.out).mono ?_
      rintro e w4 ⟨rfl, f1, f2, f3⟩
      have R4 : Hid (IsRd w4 w1.heap.size x3 l' b') := f1
      have F4 : Hid (∀ k, k < wr.heap.size → k ≠ x3 → w4.heap[k]? = wr.heap[k]?) := f2
      have B4' : Hid (∀ A, A ≤ x3 → Below A wr w4) := fun A hA => (Below.refl A wr).drew.trans (f3 A hA)
      have O4 : Hid (OwnS w4 w9.heap.size (.slice va pl vc) pre) := HO.out.same fun k hk hk2 => F4.out k hk2 (by have := P3.out.2.2; omega)
      have g4 : w4.heap[w.heap.size + 1]? = some (.cells [Value.int .i64 k0, .slice va pl vc, .int .i64 0, .int .i64 0, .int .i64 0].toArray 44 (0, 0)) := by rw [F4.out _ (by have := HG.out; exact heap_lt this) (by have := P3.out.2.1; have := Z1.out; omega)]; exact HG.out
      have G4 : Hid _ := g4
      have S4 : Hid (wr.heap.size ≤ w4.heap.size) := (B4'.out w1.heap.size P3.out.2.1).size
      clear f1 f2 f3
      refine hK.out _ _ trivial (fun hHeld => ?_)
      clear hK K
      (try simp only [Act.put, List.setIfInBounds_toArray, List.set_cons_zero, List.set_cons_succ])
      have y4 := rowFacts G4.out 1 _ rfl
      have y4b : (w4.alloc (.cells #[.string tk] 9 (0, 0))).cell? ⟨w.heap.size + 1, 1, none⟩ = some (.slice va pl vc) := by rw [World.cell?_alloc_some _ _ _ (by rw [y4]; rfl)]; exact y4
      refine wpAnyH_ready (rs := [1, 4]) (by kernel_rfl) (by simp) ?_
      refine AllReadyH.cons (o := ⟨some 38, _, _, _, _, _⟩) rfl (fun K hK => ?_) (AllReadyH.cons (o := ⟨some 41, _, _, _, _, _⟩) rfl (fun K hK => ?_) AllReadyH.nil)
      · go_simp
        refine hK.out _ _ trivial (fun hHeld => ?_)
        clear hK K
        (try simp only [Act.put, List.setIfInBounds_toArray, List.set_cons_zero, List.set_cons_succ])
        refine wpAnyH_ready (rs := [4]) (by kernel_rfl) (by simp) ?_
        refine AllReadyH.cons (o := ⟨some 41, _, _, _, _, _⟩) rfl (fun K hK => ?_) AllReadyH.nil
        go_simp
        refine hK.out _ _ trivial (fun hHeld => ?_)
        clear hK K
        (try simp only [Act.put, List.setIfInBounds_toArray, List.set_cons_zero, List.set_cons_succ])
        refine wpAnyH_ready (rs := [5]) (by kernel_rfl) (by simp) ?_
        refine AllReadyH.cons (o := ⟨some 42, _, _, _, _, _⟩) rfl (fun K hK => ?_) AllReadyH.nil
        rw [if_pos (by rfl)]
        have hO : w4.ownsRow w9.heap.size 9 1 (.slice va pl vc) pl (sCells pre) := by
          have h2 := O4.out
          unfold OwnS at h2
          rw [HPl.out] at h2
          exact h2
        refine wp_append_own _ _ _ 23 rfl w9.heap.size 9 i0 (.string ⟨#[]⟩) 1 16 Tryz.underlying23 hi hz0 hz1 hz2 rfl (by decide) _ _ _ rfl (hO.alloc _) ⟨w4.heap.size, 0, none⟩ 1 1 [.string tk] rfl rfl ?c1 ?c2 ?c3 ?c4 ?c5 ?_
        case c1 => exact cells_one (by simp)
        case c2 => intro u hu; simp at hu; subst hu; rfl
        case c3 => have := HLen.out; unfold maxLen; omega
        case c4 => have := HLen.out; omega
        case c5 => have := S4.out; have := HWS.out; simp; omega
        intro v' w5 hown' hgrow _
        have b5 : Below w9.heap.size w4 w5 := ((Below.refl _ w4).alloc (by have := S4.out; have := HWS.out; omega) _).grown hgrow (by have := S4.out; have := HWS.out; simp; omega) (fun k hk => (hO.lt k hk).1)
        have R5 : Hid (IsRd w5 w1.heap.size x3 l' b') := R4.out.far (b5.mono P3.out.2.2)
        have Q5 : Hid (IsRd w5 w1.heap.size x1 rl2 rb2) := (HQ.out.far (B4'.out _ P3.out.1)).far (b5.mono (by have := P3.out; omega))
        have g5 : w5.heap[w.heap.size + 1]? = some (.cells [Value.int .i64 k0, .slice va pl vc, .int .i64 0, .int .i64 0, .int .i64 0].toArray 44 (0, 0)) := by rw [b5.block _ (by have := P3.out; have := Z1.out; omega)]; exact G4.out
        have o5 : OwnS w5 w9.heap.size v' (pre ++ [tk]) := by
          show World.ownsRow _ _ _ _ _ _ _
          rw [List.length_append, HPl.out, sCells, List.map_append]
          exact hown'
        obtain ⟨ua, uc, e5, _⟩ := OwnS.form o5
        obtain ⟨ul, hul⟩ : ∃ n, n = (pre ++ [tk]).length := ⟨_, rfl⟩
        rw [← hul] at e5
        subst e5
        have O5 : Hid (OwnS w5 w9.heap.size (.slice ua ul uc) (pre ++ [tk])) := o5
        clear hul o5
        have B5' : Hid (Below w.heap.size w w5) := (HBL.out.trans (B4'.out w.heap.size (by have := P3.out; have := Z1.out; omega))).trans (b5.mono (by have := P3.out; have := Z1.out; omega))
        have S5 : Hid (w9.heap.size ≤ w5.heap.size) := Nat.le_trans HWS.out (Nat.le_trans S4.out b5.size)
        have G5 : Hid _ := g5
        have GR5 : Hid (w5.heap[w.heap.size]? = some (.cells [Value.int .i64 0, .slice none 0 0, .int .i64 0, .int .i64 0, .int .i64 0].toArray 44 (0, 0))) := by show _ = _; rw [b5.block _ (by have := P3.out; have := Z1.out; omega), F4.out _ (heap_lt HGR.out) (by have := P3.out.2.1; have := Z1.out; omega)]; exact HGR.out
        have y5 := rowFacts g5 1 _ rfl
        have z5 := rowFree g5 1
        clear hown' hgrow b5 hO R4 F4 O4 G4 S4 B4' g5 g4 y1 y1'
        refine hK.out _ _ trivial (fun hHeld => ?_)
        clear hK K
        (try simp only [Act.put, List.setIfInBounds_toArray, List.set_cons_zero, List.set_cons_succ])
        refine wpAnyH_take (i := 6) (oi := ⟨some 43, _, _, _, _, _⟩) (v := ?_) rfl (by kernel_rfl) (by kernel_rfl) (by kernel_rfl) (fun _ _ _ h => h) (Or.inl ⟨by kernel_rfl, ?_⟩) (by assumption) ?_
        rotate_left
        · (intro w hSw; (try dsimp only at hSw); go_simp; try with_reducible rfl)
        (try simp only [Act.put, List.setIfInBounds_toArray, List.set_cons_zero, List.set_cons_succ])
        refine wpAnyH_ready (rs := [7]) (by kernel_rfl) (by simp) ?_
        refine AllReadyH.cons (o := ⟨none, _, _, _, _, _⟩) rfl (fun K hK => ?_) AllReadyH.nil
        go_simp
        refine hK.out _ _ trivial (fun hHeld => ?_)
        clear hK K
        (try simp only [Act.put, List.setIfInBounds_toArray, List.set_cons_zero, List.set_cons_succ])
        refine wpAnyH_done (by kernel_rfl) ?_ _
        have hz1 := Z1.out
        have hp3 := P3.out
        have hs5 := S5.out
        have R6 : Hid (IsRd (w5.setCell ⟨w.heap.size + 1, 1, none⟩ (.slice ua ul uc)) w1.heap.size x3 l' b') := R5.out.put (by omega) _
        have HRel : Hid (∃ (pre : List ByteArray) (l : List (Int × ByteArray)) (b : Bool) (v : Value), IsRd (w5.setCell ⟨w.heap.size + 1, 1, none⟩ (.slice ua ul uc)) w1.heap.size x3 l b ∧ IsRd (w5.setCell ⟨w.heap.size + 1, 1, none⟩ (.slice ua ul uc)) w1.heap.size x1 rl2 rb2 ∧ (w5.setCell ⟨w.heap.size + 1, 1, none⟩ (.slice ua ul uc)).heap[w.heap.size + 1]? = some (.cells [Value.int .i64 k0, v, .int .i64 0, .int .i64 0, .int .i64 0].toArray 44 (0, 0)) ∧ OwnS (w5.setCell ⟨w.heap.size + 1, 1, none⟩ (.slice ua ul uc)) w9.heap.size v pre ∧ R = pre ++ hostsR l b ∧ Below w.heap.size w (w5.setCell ⟨w.heap.size + 1, 1, none⟩ (.slice ua ul uc)) ∧ w9.heap.size ≤ (w5.setCell ⟨w.heap.size + 1, 1, none⟩ (.slice ua ul uc)).heap.size ∧ (w5.setCell ⟨w.heap.size + 1, 1, none⟩ (.slice ua ul uc)).heap[w.heap.size]? = some (.cells [Value.int .i64 0, .slice none 0 0, .int .i64 0, .int .i64 0, .int .i64 0].toArray 44 (0, 0))) := ⟨pre ++ [tk], l', b', _, R6.out, Q5.out.put (by omega) _, rowSet (i := 1) _ G5.out, O5.out.same (fun k hk _ => heap_setCell_other w5 _ k _ (by show k ≠ w.heap.size + 1; omega)), HX.out, B5'.out.setCell (by simp) _, by simpa using hs5, by rw [heap_setCell_other w5 _ _ _ (by show w.heap.size ≠ w.heap.size + 1; omega)]; exact GR5.out⟩
        have HM2 : Hid (measR (w5.setCell ⟨w.heap.size + 1, 1, none⟩ (.slice ua ul uc)) x3 < measR wr x3) := by show _ < _; rw [measR_is R6.out]; exact HME.out
        clear R5 Q5 G5 GR5 O5 B5' S5 R6 y5 z5 hz1 hp3 hs5
        go_roundw
        case rel => exact ⟨_, _, _, _, _, _, _, _, _, _, _, _, _, _, _, _, _, _, _, _, HRel.out, rfl⟩
        case measure => exact HM2.out
      · go_simp
        refine hK.out _ _ trivial (fun hHeld => ?_)
        clear hK K
        (try simp only [Act.put, List.setIfInBounds_toArray, List.set_cons_zero, List.set_cons_succ])
        refine wpAnyH_ready (rs := [1]) (by kernel_rfl) (by simp) ?_
        refine AllReadyH.cons (o := ⟨some 38, _, _, _, _, _⟩) rfl (fun K hK => ?_) AllReadyH.nil
        go_simp
        refine hK.out _ _ trivial (fun hHeld => ?_)
        clear hK K
        (try simp only [Act.put, List.setIfInBounds_toArray, List.set_cons_zero, List.set_cons_succ])
        refine wpAnyH_ready (rs := [5]) (by kernel_rfl) (by simp) ?_
        refine AllReadyH.cons (o := ⟨some 42, _, _, _, _, _⟩) rfl (fun K hK => ?_) AllReadyH.nil
        rw [if_pos (by rfl)]
        have hO : w4.ownsRow w9.heap.size 9 1 (.slice va pl vc) pl (sCells pre) := by
          have h2 := O4.out
          unfold OwnS at h2
          rw [HPl.out] at h2
          exact h2
        refine wp_append_own _ _ _ 23 rfl w9.heap.size 9 i0 (.string ⟨#[]⟩) 1 16 Tryz.underlying23 hi hz0 hz1 hz2 rfl (by decide) _ _ _ rfl (hO.alloc _) ⟨w4.heap.size, 0, none⟩ 1 1 [.string tk] rfl rfl ?c1 ?c2 ?c3 ?c4 ?c5 ?_
        case c1 => exact cells_one (by simp)
        case c2 => intro u hu; simp at hu; subst hu; rfl
        case c3 => have := HLen.out; unfold maxLen; omega
        case c4 => have := HLen.out; omega
        case c5 => have := S4.out; have := HWS.out; simp; omega
        intro v' w5 hown' hgrow _
        have b5 : Below w9.heap.size w4 w5 := ((Below.refl _ w4).alloc (by have := S4.out; have := HWS.out; omega) _).grown hgrow (by have := S4.out; have := HWS.out; simp; omega) (fun k hk => (hO.lt k hk).1)
        have R5 : Hid (IsRd w5 w1.heap.size x3 l' b') := R4.out.far (b5.mono P3.out.2.2)
        have Q5 : Hid (IsRd w5 w1.heap.size x1 rl2 rb2) := (HQ.out.far (B4'.out _ P3.out.1)).far (b5.mono (by have := P3.out; omega))
        have g5 : w5.heap[w.heap.size + 1]? = some (.cells [Value.int .i64 k0, .slice va pl vc, .int .i64 0, .int .i64 0, .int .i64 0].toArray 44 (0, 0)) := by rw [b5.block _ (by have := P3.out; have := Z1.out; omega)]; exact G4.out
        have o5 : OwnS w5 w9.heap.size v' (pre ++ [tk]) := by
          show World.ownsRow _ _ _ _ _ _ _
          rw [List.length_append, HPl.out, sCells, List.map_append]
          exact hown'
        obtain ⟨ua, uc, e5, _⟩ := OwnS.form o5
        obtain ⟨ul, hul⟩ : ∃ n, n = (pre ++ [tk]).length := ⟨_, rfl⟩
        rw [← hul] at e5
        subst e5
        have O5 : Hid (OwnS w5 w9.heap.size (.slice ua ul uc) (pre ++ [tk])) := o5
        clear hul o5
        have B5' : Hid (Below w.heap.size w w5) := (HBL.out.trans (B4'.out w.heap.size (by have := P3.out; have := Z1.out; omega))).trans (b5.mono (by have := P3.out; have := Z1.out; omega))
        have S5 : Hid (w9.heap.size ≤ w5.heap.size) := Nat.le_trans HWS.out (Nat.le_trans S4.out b5.size)
        have G5 : Hid _ := g5
        have GR5 : Hid (w5.heap[w.heap.size]? = some (.cells [Value.int .i64 0, .slice none 0 0, .int .i64 0, .int .i64 0, .int .i64 0].toArray 44 (0, 0))) := by show _ = _; rw [b5.block _ (by have := P3.out; have := Z1.out; omega), F4.out _ (heap_lt HGR.out) (by have := P3.out.2.1; have := Z1.out; omega)]; exact HGR.out
        have y5 := rowFacts g5 1 _ rfl
        have z5 := rowFree g5 1
        clear hown' hgrow b5 hO R4 F4 O4 G4 S4 B4' g5 g4 y1 y1'
        refine hK.out _ _ trivial (fun hHeld => ?_)
        clear hK K
        (try simp only [Act.put, List.setIfInBounds_toArray, List.set_cons_zero, List.set_cons_succ])
        refine wpAnyH_take (i := 6) (oi := ⟨some 43, _, _, _, _, _⟩) (v := ?_) rfl (by kernel_rfl) (by kernel_rfl) (by kernel_rfl) (fun _ _ _ h => h) (Or.inl ⟨by kernel_rfl, ?_⟩) (by assumption) ?_
        rotate_left
        · (intro w hSw; (try dsimp only at hSw); go_simp; try with_reducible rfl)
        (try simp only [Act.put, List.setIfInBounds_toArray, List.set_cons_zero, List.set_cons_succ])
        refine wpAnyH_ready (rs := [7]) (by kernel_rfl) (by simp) ?_
        refine AllReadyH.cons (o := ⟨none, _, _, _, _, _⟩) rfl (fun K hK => ?_) AllReadyH.nil
        go_simp
        refine hK.out _ _ trivial (fun hHeld => ?_)
        clear hK K
        (try simp only [Act.put, List.setIfInBounds_toArray, List.set_cons_zero, List.set_cons_succ])
        refine wpAnyH_done (by kernel_rfl) ?_ _
        have hz1 := Z1.out
        have hp3 := P3.out
        have hs5 := S5.out
        have R6 : Hid (IsRd (w5.setCell ⟨w.heap.size + 1, 1, none⟩ (.slice ua ul uc)) w1.heap.size x3 l' b') := R5.out.put (by omega) _
        have HRel : Hid (∃ (pre : List ByteArray) (l : List (Int × ByteArray)) (b : Bool) (v : Value), IsRd (w5.setCell ⟨w.heap.size + 1, 1, none⟩ (.slice ua ul uc)) w1.heap.size x3 l b ∧ IsRd (w5.setCell ⟨w.heap.size + 1, 1, none⟩ (.slice ua ul uc)) w1.heap.size x1 rl2 rb2 ∧ (w5.setCell ⟨w.heap.size + 1, 1, none⟩ (.slice ua ul uc)).heap[w.heap.size + 1]? = some (.cells [Value.int .i64 k0, v, .int .i64 0, .int .i64 0, .int .i64 0].toArray 44 (0, 0)) ∧ OwnS (w5.setCell ⟨w.heap.size + 1, 1, none⟩ (.slice ua ul uc)) w9.heap.size v pre ∧ R = pre ++ hostsR l b ∧ Below w.heap.size w (w5.setCell ⟨w.heap.size + 1, 1, none⟩ (.slice ua ul uc)) ∧ w9.heap.size ≤ (w5.setCell ⟨w.heap.size + 1, 1, none⟩ (.slice ua ul uc)).heap.size ∧ (w5.setCell ⟨w.heap.size + 1, 1, none⟩ (.slice ua ul uc)).heap[w.heap.size]? = some (.cells [Value.int .i64 0, .slice none 0 0, .int .i64 0, .int .i64 0, .int .i64 0].toArray 44 (0, 0))) := ⟨pre ++ [tk], l', b', _, R6.out, Q5.out.put (by omega) _, rowSet (i := 1) _ G5.out, O5.out.same (fun k hk _ => heap_setCell_other w5 _ k _ (by show k ≠ w.heap.size + 1; omega)), HX.out, B5'.out.setCell (by simp) _, by simpa using hs5, by rw [heap_setCell_other w5 _ _ _ (by show w.heap.size ≠ w.heap.size + 1; omega)]; exact GR5.out⟩
        have HM2 : Hid (measR (w5.setCell ⟨w.heap.size + 1, 1, none⟩ (.slice ua ul uc)) x3 < measR wr x3) := by show _ < _; rw [measR_is R6.out]; exact HME.out
        clear R5 Q5 G5 GR5 O5 B5' S5 R6 y5 z5 hz1 hp3 hs5
        go_roundw
        case rel => exact ⟨_, _, _, _, _, _, _, _, _, _, _, _, _, _, _, _, _, _, _, _, HRel.out, rfl⟩
        case measure => exact HM2.out
end Go.Proofs.YtkhdjmjbdpmdnaaGreatDoor
