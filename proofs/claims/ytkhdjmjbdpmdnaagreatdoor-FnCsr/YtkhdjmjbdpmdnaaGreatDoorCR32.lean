/- spec.CrlRead, walked: what is read is laid anew and compared. -/
import Derived.Test.YtkhdjmjbdpmdnaaGreatDoorCR30
import Derived.Test.YtkhdjmjbdpmdnaaGreatDoorCR23
import Derived.Test.YtkhdjmjbdpmdnaaGreatDoorCR31
import Derived.Test.YtkhdjmjbdpmdnaaGreatDoorCR14
import Derived.Deep.Cut
import Derived.Deep.RegionHeld3
namespace Go.Proofs.YtkhdjmjbdpmdnaaGreatDoor
open Go.RowKit

/-- What the specification tells of a text. -/
noncomputable def crlS (s : ByteArray) : Lst × Int :=
  if 20000 < s.size then (zeroLst, 2) else if s.size = 0 ∨ crlBytesD (listS s) ≠ s then (zeroLst, 3) else (listS s, 0)
theorem listS_fit (s : ByteArray) : (listS s).serials.length ≤ 60 := by
  obtain ⟨hl, hb, h1, h2⟩ : ∃ l b, (listS s).serials = numsL l b ∧ l.length ≤ 60 := ⟨_, _, rfl, allD_len _⟩
  rw [h1]
  exact Nat.le_trans (numsL_len _ _) h2
theorem crlS_fit (s : ByteArray) : (crlS s).1.serials.length ≤ 1048576 := by
  have h := listS_fit s
  unfold crlS
  split
  · exact Nat.zero_le _
  · split
    · exact Nat.zero_le _
    · show (listS s).serials.length ≤ _
      omega
set_option linter.unusedSimpArgs false in
set_option maxHeartbeats 4000000 in
set_option maxRecDepth 100000 in
theorem specCrlRead (s : ByteArray) (w : World) :
    Calls Tryz.prog 41 #[.string s] w fun e w' => ∃ v, e = .returned (crlV (crlS s).1 v (crlS s).2) ∧ OwnL w' w.heap.size v (crlS s).1.serials ∧ Below w.heap.size w w' := by
  by_cases hs : 20000 < s.size
  · have HF : Hid (crlS s = (zeroLst, 2)) := by show _ = _; rw [crlS, if_pos hs]
    obtain ⟨w1, hw1⟩ : ∃ y, y = w.alloc (.cells #[Value.string ⟨#[]⟩, .int .i64 0, .int .i64 0, .slice none 0 0, .int .i64 0, .int .i64 0, .int .i64 0, .int .i64 0] 60 (0, 0)) := ⟨_, rfl⟩
    have hg1 : w1.heap[w.heap.size]? = some (.cells [Value.string ⟨#[]⟩, .int .i64 0, .int .i64 0, .slice none 0 0, .int .i64 0, .int .i64 0, .int .i64 0, .int .i64 0].toArray 60 (0, 0)) := by rw [hw1]; exact heap_alloc_new w _
    have hB1 : Below w.heap.size w w1 := by rw [hw1]; exact (Below.refl _ w).alloc (Nat.le_refl _) _
    have HRes : Hid _ := hg1
    have HB1 : Hid _ := hB1
    clear hg1 hB1
    generalize crlS s = R at *
    go_enter Tryz.func41, Tryz.ntmps41
    go_upto_region 2 with fail
    rw [← hw1]
    clear hw1
    go_wp2_with (refine wpList_store_row rfl 60 _ _ rfl (w.heap.size) _ [Value.string ⟨#[]⟩, .int .i64 0, .int .i64 0, .slice none 0 0, .int .i64 0, .int .i64 0, .int .i64 0, .int .i64 2] 60 rfl rfl HRes.out rfl sizeCrlOut (by simp [Value.oneCell']) ?_)
    intro w8' hrow ho hs8 hbb
    have HROW : Hid _ := hrow
    have HB8 : Hid (Below w.heap.size w w8') := hbb _ _ (Nat.le_refl _) HB1.out
    clear ho hs8 hbb hrow
    go_wp2
    refine bodyPost_ret (v := .agg [Value.string ⟨#[]⟩, .int .i64 0, .int .i64 0, .slice none 0 0, .int .i64 0, .int .i64 0, .int .i64 0, .int .i64 2].toArray) ?_ rfl ⟨.slice none 0 0, by rw [HF.out]; rfl, by rw [HF.out]; exact ownL_nil _ _, HB8.out⟩
    have hl3 := run_loadVar_mid (P := Tryz.prog) _ (w.heap.size) 0 60 _ _ (rangeRow HROW.out) Tryz.underlying60 rfl sizeCrlOut
    simp [results, Tryz.results41, asAddr, hl3]
  replace hs : s.size ≤ 20000 := by omega
  obtain ⟨i0, hi, hz0, hz1, hz2⟩ := info_parts infoLong
  obtain ⟨⟨ol, ob⟩, hO⟩ : ∃ o, o = openR s := ⟨_, rfl⟩
  obtain ⟨⟨⟨rl, rb⟩, q1⟩, hR⟩ : ∃ i, i = inR ol ob 48 := ⟨_, rfl⟩
  obtain ⟨⟨⟨bl, bb⟩, rl2, rb2⟩, hB⟩ : ∃ i, i = inR rl rb 48 := ⟨_, rfl⟩
  obtain ⟨⟨iss, ml, mb⟩, hM⟩ : ∃ i, i = nameR bl bb := ⟨_, rfl⟩
  obtain ⟨⟨fr, vl, vb⟩, hVn⟩ : ∃ i, i = numR ml mb := ⟨_, rfl⟩
  obtain ⟨⟨ti, tl, td⟩, hT⟩ : ∃ i, i = numR vl vb := ⟨_, rfl⟩
  obtain ⟨⟨⟨hl, hb⟩, q2⟩, hH⟩ : ∃ i, i = inR tl td 48 := ⟨_, rfl⟩
  obtain ⟨⟨nb, q3⟩, hN⟩ : ∃ i, i = takeR rl2 rb2 3 := ⟨_, rfl⟩
  obtain ⟨n0, n1, n2, hn⟩ : ∃ a b c, bitsQ nb 3 1 = [a, b, c] := ⟨_, _, _, rfl⟩
  have hA : listS s = ⟨iss, fr, ti, numsL hl hb, n0, n1, n2⟩ := by
    unfold listS
    simp only [← hO, ← hR, ← hB, ← hM, ← hVn, ← hT, ← hH, ← hN, hn, List.getD_cons_zero, List.getD_cons_succ]
  have zo : ∀ p ∈ ol, p.2.size ≤ 4000 := by have := allD_4000 s; rw [show ol = (openR s).1 by rw [← hO]]; exact this
  have zr : ∀ p ∈ rl, p.2.size ≤ 4000 := by have := inR_4000 ol ob 48; rw [← hR] at this; exact this
  have zb : ∀ p ∈ bl, p.2.size ≤ 4000 := by have := inR_4000 rl rb 48; rw [← hB] at this; exact this
  have zm : ∀ p ∈ ml, p.2.size ≤ 4000 := by
    have : ml = (takeR bl bb 48).2.1 := by have := congrArg (fun x => x.2.1) hM; exact this
    rw [this]; exact takeR_rest zb
  have zi : iss.size ≤ 4000 := by
    have : iss = (nameR bl bb).1 := congrArg (fun x => x.1) hM
    rw [this]
    unfold nameR
    simp only
    exact takeR_sz (takeR_rest (inR_4000 _ _ _))
  have zv : ∀ p ∈ vl, p.2.size ≤ 4000 := by
    have : vl = (takeR ml mb 2).2.1 := by have := congrArg (fun x => x.2.1) hVn; exact this
    rw [this]; exact takeR_rest zm
  have zt : ∀ p ∈ tl, p.2.size ≤ 4000 := by
    have : tl = (takeR vl vb 2).2.1 := by have := congrArg (fun x => x.2.1) hT; exact this
    rw [this]; exact takeR_rest zv
  have zh : ∀ p ∈ hl, p.2.size ≤ 4000 := by have := inR_4000 tl td 48; rw [← hH] at this; exact this
  have zr2 : ∀ p ∈ rl2, p.2.size ≤ 4000 := by
    have : rl2 = (takeR rl rb 48).2.1 := by have := congrArg (fun x => x.2.1) hB; exact this
    rw [this]; exact takeR_rest zr
  have znb : nb.size ≤ 4000 := by have := takeR_sz (bad := rb2) (t := 3) zr2; rw [← hN] at this; exact this
  have zhl : hl.length ≤ 60 := by
    have : hl = (allD (takeR tl td 48).1).1 := by have := congrArg (fun x => x.1.1) hH; exact this
    rw [this]; exact allD_len _
  have C0 : Hid (∀ V, Calls Tryz.prog 104 #[.string s] V fun e w' => ∃ g, e = .returned (.pointer (some ⟨g, 0, none⟩)) ∧ V.heap.size ≤ g ∧ IsRd w' V.heap.size g ol ob ∧ Below V.heap.size V w') := fun V => by have := rdOpen s V hs; rw [← hO] at this; exact this
  have C1 : Hid (∀ V A x, IsRd V A x ol ob → Calls Tryz.prog 105 #[.pointer (some ⟨x, 0, none⟩), .int .i64 48] V fun e w' => ∃ y, e = .returned (.pointer (some ⟨y, 0, none⟩)) ∧ V.heap.size ≤ y ∧ IsRd w' V.heap.size y rl rb ∧ ∀ A, A ≤ x → Below A V w') := fun V A x hV => by
    have := rdIn A x ol ob 48 V hV zo
    rw [← hR] at this
    exact this.mono fun e W ⟨y, a, b, c, _, _, d⟩ => ⟨y, a, b, c, d⟩
  have C2 : Hid (∀ V A x, IsRd V A x rl rb → Calls Tryz.prog 105 #[.pointer (some ⟨x, 0, none⟩), .int .i64 48] V fun e w' => ∃ y, e = .returned (.pointer (some ⟨y, 0, none⟩)) ∧ V.heap.size ≤ y ∧ IsRd w' V.heap.size y bl bb ∧ IsRd w' A x rl2 rb2 ∧ ∀ A, A ≤ x → Below A V w') := fun V A x hV => by
    have := rdIn A x rl rb 48 V hV zr
    rw [← hB] at this
    exact this.mono fun e W ⟨y, a, b, c, d, _, f⟩ => ⟨y, a, b, c, d, f⟩
  have C3 : Hid (∀ V A x, IsRd V A x bl bb → Calls Tryz.prog 106 #[.pointer (some ⟨x, 0, none⟩)] V fun e w' => e = .returned (.string iss) ∧ IsRd w' A x ml mb ∧ ∀ A, A ≤ x → Below A V w') := fun V A x hV => by
    have := rdName A x bl bb V hV zb
    rw [← hM] at this
    exact this.mono fun e W ⟨a, b, _, d⟩ => ⟨a, b, d⟩
  have C4 : Hid (∀ V A x, IsRd V A x ml mb → Calls Tryz.prog 107 #[.pointer (some ⟨x, 0, none⟩)] V fun e w' => e = .returned (.int .i64 fr) ∧ IsRd w' A x vl vb ∧ ∀ A, A ≤ x → Below A V w') := fun V A x hV => by
    have := rdNum A x ml mb V hV zm
    rw [← hVn] at this
    exact this.mono fun e W ⟨a, b, _, d⟩ => ⟨a, b, d⟩
  have C4b : Hid (∀ V A x, IsRd V A x vl vb → Calls Tryz.prog 107 #[.pointer (some ⟨x, 0, none⟩)] V fun e w' => e = .returned (.int .i64 ti) ∧ IsRd w' A x tl td ∧ ∀ A, A ≤ x → Below A V w') := fun V A x hV => by
    have := rdNum A x vl vb V hV zv
    rw [← hT] at this
    exact this.mono fun e W ⟨a, b, _, d⟩ => ⟨a, b, d⟩
  have C5 : Hid (∀ V A x, IsRd V A x tl td → Calls Tryz.prog 105 #[.pointer (some ⟨x, 0, none⟩), .int .i64 48] V fun e w' => ∃ y, e = .returned (.pointer (some ⟨y, 0, none⟩)) ∧ V.heap.size ≤ y ∧ IsRd w' V.heap.size y hl hb ∧ ∀ A, A ≤ x → Below A V w') := fun V A x hV => by
    have := rdIn A x tl td 48 V hV zt
    rw [← hH] at this
    exact this.mono fun e W ⟨y, a, b, c, _, _, d⟩ => ⟨y, a, b, c, d⟩
  have C6 : Hid (∀ V A x, IsRd V A x rl2 rb2 → Calls Tryz.prog 109 #[.pointer (some ⟨x, 0, none⟩), .int .i64 3] V fun e w' => e = .returned (.string nb) ∧ (∀ k, k < V.heap.size → k ≠ x → w'.heap[k]? = V.heap[k]?) ∧ ∀ A, A ≤ x → Below A V w') := fun V A x hV => by
    have := rdTake A x rl2 rb2 3 V hV
    rw [← hN] at this
    exact this.mono fun e W ⟨a, _, c, d⟩ => ⟨a, c, d⟩
  have E2 : Hid (∀ V, Calls Tryz.prog 108 #[.string nb, .int .i64 3] V fun e w' => ∃ g c, e = .returned (.slice (some ⟨g, 0, none⟩) 3 c) ∧ 3 ≤ c ∧ V.heap.size ≤ g ∧ w'.cell? ⟨g, 0, none⟩ = some (.int .i64 n0) ∧ w'.cell? ⟨g, 1, none⟩ = some (.int .i64 n1) ∧ w'.cell? ⟨g, 2, none⟩ = some (.int .i64 n2) ∧ Below V.heap.size V w') := fun V => (specBits nb 3 V (by omega) (by omega)).mono fun e W ⟨v, e1, o, b⟩ => by
    rw [hn] at o
    obtain ⟨g, c, rfl, hg, hc, hcs⟩ := OwnL.at o (by simp)
    exact ⟨g, c, e1, hc, hg, hcs 0 n0 rfl, hcs 1 n1 rfl, hcs 2 n2 rfl, b⟩
  have ZH : Hid ((∀ p ∈ hl, p.2.size ≤ 4000) ∧ hl.length ≤ 60) := ⟨zh, zhl⟩
  obtain ⟨R, hRR⟩ : ∃ R, R = numsL hl hb := ⟨_, rfl⟩
  rw [← hRR] at hA
  have HR : Hid (R = numsL hl hb) := hRR
  have HRl : Hid (R.length ≤ 60) := by show _ ≤ _; rw [hRR]; exact Nat.le_trans (numsL_len _ _) zhl
  have HCS : Hid (crlS s = if s.size = 0 ∨ crlBytesD ⟨iss, fr, ti, R, n0, n1, n2⟩ ≠ s then (zeroLst, 3) else (⟨iss, fr, ti, R, n0, n1, n2⟩, 0)) := by show _ = _; rw [crlS, if_neg (by omega), hA]
  have HBy : Hid (∀ V a cap, IsInts V a R → Calls Tryz.prog 33 #[(Lst.mk iss fr ti R n0 n1 n2).val (.slice a R.length cap)] V fun e w' => e = .returned (.string (crlBytesD ⟨iss, fr, ti, R, n0, n1, n2⟩)) ∧ Below V.heap.size V w') := fun V a cap hV => specCrlBytes ⟨iss, fr, ti, R, n0, n1, n2⟩ a cap V (by show iss.size ≤ maxLen; unfold maxLen; omega) (by have := HRl.out; show R.length ≤ _; omega) hV
  clear hO hR hB hM hVn hT hH hN hn hA zo zr zb zm zi zv zt zh zr2 znb zhl hRR
  generalize crlBytesD ⟨iss, fr, ti, R, n0, n1, n2⟩ = Y at *
  generalize crlS s = RR at *
  unfold Lst.val at HBy
  simp only at HBy
  obtain ⟨w1, hw1⟩ : ∃ y, y = (w.alloc (.cells #[Value.string ⟨#[]⟩, .int .i64 0, .int .i64 0, .slice none 0 0, .int .i64 0, .int .i64 0, .int .i64 0, .int .i64 0] 60 (0, 0))).alloc (.cells #[Value.string ⟨#[]⟩, .int .i64 0, .int .i64 0, .slice none 0 0, .int .i64 0, .int .i64 0, .int .i64 0] 53 (0, 0)) := ⟨_, rfl⟩
  have g1 : w1.heap[w.heap.size + 1]? = some (.cells [Value.string ⟨#[]⟩, .int .i64 0, .int .i64 0, .slice none 0 0, .int .i64 0, .int .i64 0, .int .i64 0].toArray 53 (0, 0)) := by rw [hw1]; exact heap_alloc2 w _ _
  have b1 : Below w.heap.size w w1 := by rw [hw1]; exact ((Below.refl _ w).alloc (Nat.le_refl _) _).alloc (by simp) _
  have z1 : w1.heap.size = w.heap.size + 2 := by rw [hw1]; simp
  have Z1 : Hid (w1.heap.size = w.heap.size + 2) := z1
  have G1 : Hid _ := g1
  have B1 : Hid (Below w.heap.size w w1) := b1
  have GR1 : Hid (w1.heap[w.heap.size]? = some (.cells [Value.string ⟨#[]⟩, .int .i64 0, .int .i64 0, .slice none 0 0, .int .i64 0, .int .i64 0, .int .i64 0, .int .i64 0].toArray 60 (0, 0))) := by show _ = _; rw [hw1, Below.heap_alloc _ _ _ (by simp)]; exact heap_alloc_new w _
  clear g1 b1 z1
  go_enter Tryz.func41, Tryz.ntmps41
  go_wp2_with fail
  rw [← hw1]
  refine (C0.out w1).mono ?_
  rintro e w2 ⟨x0, rfl, p0, r0, b2⟩
  have R0 : Hid (IsRd w2 w1.heap.size x0 ol ob) := r0
  have P0 : Hid (w1.heap.size ≤ x0) := p0
  have B2 : Hid (Below w1.heap.size w1 w2) := b2
  clear r0 p0 b2 C0 hw1 hs
  go_wp2_with fail
  refine (C1.out w2 _ x0 R0.out).mono ?_
  rintro e w3 ⟨x1, rfl, p1, r1, b3⟩
  have R1 : Hid (IsRd w3 w1.heap.size x1 rl rb) := r1.mono B2.out.size
  have P1 : Hid (w1.heap.size ≤ x1) := Nat.le_trans B2.out.size p1
  have B3 : Hid (Below w1.heap.size w1 w3) := B2.out.trans (b3 _ P0.out)
  clear r1 p1 b3 C1 R0
  go_wp2_with fail
  refine (C2.out w3 _ x1 R1.out).mono ?_
  rintro e w4 ⟨x2, rfl, p2, r2, rr, b4⟩
  have R2 : Hid (IsRd w4 w1.heap.size x2 bl bb) := r2.mono B3.out.size
  have P2 : Hid (x1 + 1 ≤ x2) := by have := R1.out.ge.2; show x1 + 1 ≤ x2; omega
  have Q4 : Hid (IsRd w4 w1.heap.size x1 rl2 rb2) := rr
  have B4 : Hid (Below w.heap.size w w4) := B1.out.trans ((B3.out.trans (b4 _ P1.out)).mono B1.out.size)
  have P2' : Hid (w1.heap.size ≤ x2) := by have := P2.out; have := P1.out; show w1.heap.size ≤ x2; omega
  have S4 : Hid (w1.heap.size ≤ w4.heap.size) := (B3.out.trans (b4 _ P1.out)).size
  have G4 : Hid (w4.heap[w.heap.size + 1]? = some (.cells [Value.string ⟨#[]⟩, .int .i64 0, .int .i64 0, .slice none 0 0, .int .i64 0, .int .i64 0, .int .i64 0].toArray 53 (0, 0))) := by show _ = _; rw [(B3.out.trans (b4 _ P1.out)).block _ (by have := Z1.out; omega)]; exact G1.out
  have GR4 : Hid (w4.heap[w.heap.size]? = some (.cells [Value.string ⟨#[]⟩, .int .i64 0, .int .i64 0, .slice none 0 0, .int .i64 0, .int .i64 0, .int .i64 0, .int .i64 0].toArray 60 (0, 0))) := by show _ = _; rw [(B3.out.trans (b4 _ P1.out)).block _ (by have := Z1.out; omega)]; exact GR1.out
  clear r2 p2 rr b4 C2 R1 B2 B3 G1 GR1
  go_wp2_with fail
  refine (C3.out w4 _ x2 R2.out).mono ?_
  rintro e u5 ⟨rfl, r2, b5⟩
  have gu : u5.heap[w.heap.size + 1]? = some (.cells [Value.string ⟨#[]⟩, .int .i64 0, .int .i64 0, .slice none 0 0, .int .i64 0, .int .i64 0, .int .i64 0].toArray 53 (0, 0)) := by rw [(b5 _ P2'.out).block _ (by have := Z1.out; omega)]; exact G4.out
  have gru : u5.heap[w.heap.size]? = some (.cells [Value.string ⟨#[]⟩, .int .i64 0, .int .i64 0, .slice none 0 0, .int .i64 0, .int .i64 0, .int .i64 0, .int .i64 0].toArray 60 (0, 0)) := by rw [(b5 _ P2'.out).block _ (by have := Z1.out; omega)]; exact GR4.out
  obtain ⟨w5, hw5⟩ : ∃ y, y = u5.setCell ⟨w.heap.size + 1, 0, none⟩ (.string iss) := ⟨_, rfl⟩
  have G5 : Hid (w5.heap[w.heap.size + 1]? = some (.cells [Value.string iss, .int .i64 0, .int .i64 0, .slice none 0 0, .int .i64 0, .int .i64 0, .int .i64 0].toArray 53 (0, 0))) := by show _ = _; rw [hw5]; exact rowSet (i := 0) _ gu
  have GR5 : Hid (w5.heap[w.heap.size]? = some (.cells [Value.string ⟨#[]⟩, .int .i64 0, .int .i64 0, .slice none 0 0, .int .i64 0, .int .i64 0, .int .i64 0, .int .i64 0].toArray 60 (0, 0))) := by show _ = _; rw [hw5, heap_setCell_other u5 _ _ _ (by show w.heap.size ≠ w.heap.size + 1; omega)]; exact gru
  have R3 : Hid (IsRd w5 w1.heap.size x2 ml mb) := by rw [hw5]; exact r2.put (by have := Z1.out; omega) _
  have Q5 : Hid (IsRd w5 w1.heap.size x1 rl2 rb2) := by rw [hw5]; exact (Q4.out.far (b5 _ P2.out)).put (by have := Z1.out; omega) _
  have B5 : Hid (Below w.heap.size w w5) := by rw [hw5]; exact (B4.out.trans (b5 _ (by have := Z1.out; have := P2'.out; omega))).setCell (by simp) _
  have S5 : Hid (w1.heap.size ≤ w5.heap.size) := by rw [hw5]; show w1.heap.size ≤ (u5.setCell _ _).heap.size; have h1 := S4.out; have h2 := (b5 _ P2'.out).size; simp; omega
  have y5 := rowFacts gu 0 _ rfl
  have z5 := rowFree gu 0
  clear gu gru r2 b5 C3 R2 Q4 G4 GR4 B4 S4
  go_wp2_with fail
  rw [← hw5]
  clear hw5 y5 z5
  refine (C4.out w5 _ x2 R3.out).mono ?_
  rintro e u6 ⟨rfl, r2, b5⟩
  have gu : u6.heap[w.heap.size + 1]? = some (.cells [Value.string iss, .int .i64 0, .int .i64 0, .slice none 0 0, .int .i64 0, .int .i64 0, .int .i64 0].toArray 53 (0, 0)) := by rw [(b5 _ P2'.out).block _ (by have := Z1.out; omega)]; exact G5.out
  have gru : u6.heap[w.heap.size]? = some (.cells [Value.string ⟨#[]⟩, .int .i64 0, .int .i64 0, .slice none 0 0, .int .i64 0, .int .i64 0, .int .i64 0, .int .i64 0].toArray 60 (0, 0)) := by rw [(b5 _ P2'.out).block _ (by have := Z1.out; omega)]; exact GR5.out
  obtain ⟨w6, hw6⟩ : ∃ y, y = u6.setCell ⟨w.heap.size + 1, 1, none⟩ (.int .i64 fr) := ⟨_, rfl⟩
  have G6 : Hid (w6.heap[w.heap.size + 1]? = some (.cells [Value.string iss, .int .i64 fr, .int .i64 0, .slice none 0 0, .int .i64 0, .int .i64 0, .int .i64 0].toArray 53 (0, 0))) := by show _ = _; rw [hw6]; exact rowSet (i := 1) _ gu
  have GR6 : Hid (w6.heap[w.heap.size]? = some (.cells [Value.string ⟨#[]⟩, .int .i64 0, .int .i64 0, .slice none 0 0, .int .i64 0, .int .i64 0, .int .i64 0, .int .i64 0].toArray 60 (0, 0))) := by show _ = _; rw [hw6, heap_setCell_other u6 _ _ _ (by show w.heap.size ≠ w.heap.size + 1; omega)]; exact gru
  have R4 : Hid (IsRd w6 w1.heap.size x2 vl vb) := by rw [hw6]; exact r2.put (by have := Z1.out; omega) _
  have Q6 : Hid (IsRd w6 w1.heap.size x1 rl2 rb2) := by rw [hw6]; exact (Q5.out.far (b5 _ P2.out)).put (by have := Z1.out; omega) _
  have B6 : Hid (Below w.heap.size w w6) := by rw [hw6]; exact (B5.out.trans (b5 _ (by have := Z1.out; have := P2'.out; omega))).setCell (by simp) _
  have S6 : Hid (w1.heap.size ≤ w6.heap.size) := by rw [hw6]; show w1.heap.size ≤ (u6.setCell _ _).heap.size; have h1 := S5.out; have h2 := (b5 _ P2'.out).size; simp; omega
  have y6 := rowFacts gu 1 _ rfl
  have z6 := rowFree gu 1
  clear gu gru r2 b5 C4 R3 Q5 G5 GR5 B5 S5
  go_wp2_with fail
  rw [← hw6]
  clear hw6 y6 z6
  refine (C4b.out w6 _ x2 R4.out).mono ?_
  rintro e u7 ⟨rfl, r2, b5⟩
  have gu : u7.heap[w.heap.size + 1]? = some (.cells [Value.string iss, .int .i64 fr, .int .i64 0, .slice none 0 0, .int .i64 0, .int .i64 0, .int .i64 0].toArray 53 (0, 0)) := by rw [(b5 _ P2'.out).block _ (by have := Z1.out; omega)]; exact G6.out
  have gru : u7.heap[w.heap.size]? = some (.cells [Value.string ⟨#[]⟩, .int .i64 0, .int .i64 0, .slice none 0 0, .int .i64 0, .int .i64 0, .int .i64 0, .int .i64 0].toArray 60 (0, 0)) := by rw [(b5 _ P2'.out).block _ (by have := Z1.out; omega)]; exact GR6.out
  obtain ⟨w7, hw7⟩ : ∃ y, y = u7.setCell ⟨w.heap.size + 1, 2, none⟩ (.int .i64 ti) := ⟨_, rfl⟩
  have G7 : Hid (w7.heap[w.heap.size + 1]? = some (.cells [Value.string iss, .int .i64 fr, .int .i64 ti, .slice none 0 0, .int .i64 0, .int .i64 0, .int .i64 0].toArray 53 (0, 0))) := by show _ = _; rw [hw7]; exact rowSet (i := 2) _ gu
  have GR7 : Hid (w7.heap[w.heap.size]? = some (.cells [Value.string ⟨#[]⟩, .int .i64 0, .int .i64 0, .slice none 0 0, .int .i64 0, .int .i64 0, .int .i64 0, .int .i64 0].toArray 60 (0, 0))) := by show _ = _; rw [hw7, heap_setCell_other u7 _ _ _ (by show w.heap.size ≠ w.heap.size + 1; omega)]; exact gru
  have R5 : Hid (IsRd w7 w1.heap.size x2 tl td) := by rw [hw7]; exact r2.put (by have := Z1.out; omega) _
  have Q7 : Hid (IsRd w7 w1.heap.size x1 rl2 rb2) := by rw [hw7]; exact (Q6.out.far (b5 _ P2.out)).put (by have := Z1.out; omega) _
  have B7 : Hid (Below w.heap.size w w7) := by rw [hw7]; exact (B6.out.trans (b5 _ (by have := Z1.out; have := P2'.out; omega))).setCell (by simp) _
  have S7 : Hid (w1.heap.size ≤ w7.heap.size) := by rw [hw7]; show w1.heap.size ≤ (u7.setCell _ _).heap.size; have h1 := S6.out; have h2 := (b5 _ P2'.out).size; simp; omega
  have y7 := rowFacts gu 2 _ rfl
  have z7 := rowFree gu 2
  clear gu gru r2 b5 C4b R4 Q6 G6 GR6 B6 S6
  go_wp2_with fail
  rw [← hw7]
  clear hw7 y7 z7
  refine (C5.out w7 _ x2 R5.out).mono ?_
  rintro e w9 ⟨x3, rfl, p3, r3, b9⟩
  have R9 : Hid (IsRd w9 w1.heap.size x3 hl hb) := r3.mono S7.out
  have P3 : Hid (x1 + 1 ≤ x3 ∧ w1.heap.size ≤ x3 ∧ x3 < w9.heap.size) := by have h1 := R5.out.ge.2; have h2 := P2.out; have h3 := r3.ge; have h4 := S7.out; show _ ∧ _ ∧ _; omega
  have Q9 : Hid (IsRd w9 w1.heap.size x1 rl2 rb2) := Q7.out.far (b9 _ P2.out)
  have G9 : Hid (w9.heap[w.heap.size + 1]? = some (.cells [Value.string iss, .int .i64 fr, .int .i64 ti, .slice none 0 0, .int .i64 0, .int .i64 0, .int .i64 0].toArray 53 (0, 0))) := by show _ = _; rw [(b9 _ P2'.out).block _ (by have := Z1.out; omega)]; exact G7.out
  have B9 : Hid (Below w.heap.size w w9) := B7.out.trans (b9 _ (by have := Z1.out; have := P2'.out; omega))
  have GR9 : Hid (w9.heap[w.heap.size]? = some (.cells [Value.string ⟨#[]⟩, .int .i64 0, .int .i64 0, .slice none 0 0, .int .i64 0, .int .i64 0, .int .i64 0, .int .i64 0].toArray 60 (0, 0))) := by show _ = _; rw [(b9 _ P2'.out).block _ (by have := Z1.out; omega)]; exact GR7.out
  clear b9 p3 r3 R5 Q7 G7 GR7 B7 S7 C5
  go_wp2_with fail
  go_loopw [] (fun wr => ∃ (pre : List Int) (l : List (Int × ByteArray)) (b : Bool) (v : Value), IsRd wr w1.heap.size x3 l b ∧ IsRd wr w1.heap.size x1 rl2 rb2 ∧ wr.heap[w.heap.size + 1]? = some (.cells [Value.string iss, .int .i64 fr, .int .i64 ti, v, .int .i64 0, .int .i64 0, .int .i64 0].toArray 53 (0, 0)) ∧ OwnL wr w9.heap.size v pre ∧ R = pre ++ numsL l b ∧ (∀ p ∈ l, p.2.size ≤ 4000) ∧ Below w.heap.size w wr ∧ w9.heap.size ≤ wr.heap.size ∧ wr.heap[w.heap.size]? = some (.cells [Value.string ⟨#[]⟩, .int .i64 0, .int .i64 0, .slice none 0 0, .int .i64 0, .int .i64 0, .int .i64 0, .int .i64 0].toArray 60 (0, 0))) (fun wr => measR wr x3)
  case atStart => exact ⟨[], hl, hb, .slice none 0 0, R9.out, Q9.out, G9.out, ownL_nil _ _, HR.out, ZH.out.1, B9.out, Nat.le_refl _, GR9.out⟩
  case round =>
    obtain ⟨pre, l, b, v, hrd, hq, hg, hown, hR2, hsz, hbl, hws, hgr⟩ := hrel
    have hme := measR_is hrd
    obtain ⟨ha, hac, hx3, _, _, _, _⟩ := id hrd
    have u0 := rowFacts hx3 0 _ rfl
    have u1 := rowFacts hx3 1 _ rfl
    have HQ : Hid (IsRd wr w1.heap.size x1 rl2 rb2) := hq
    have HG : Hid _ := hg
    have HGR : Hid (wr.heap[w.heap.size]? = some (.cells [Value.string ⟨#[]⟩, .int .i64 0, .int .i64 0, .slice none 0 0, .int .i64 0, .int .i64 0, .int .i64 0, .int .i64 0].toArray 60 (0, 0))) := hgr
    have HRD : Hid (IsRd wr w1.heap.size x3 l b) := hrd
    have HBL : Hid (Below w.heap.size w wr) := hbl
    have HWS : Hid (w9.heap.size ≤ wr.heap.size) := hws
    obtain ⟨va, vc, rfl, hvc⟩ := OwnL.form hown
    have HO : Hid (OwnL wr w9.heap.size (.slice va pre.length vc) pre) := hown
    clear hrd hq hg hown hbl hws hx3 hgr
    by_cases hgo : b = false ∧ 0 < l.length
    rotate_left
    · have HF : Hid (R = pre) := by
        show _ = _
        rw [hR2]
        cases b with
        | true => rw [numsL_bad, List.append_nil]
        | false =>
          cases l with
          | nil => rw [numsL_nil, List.append_nil]
          | cons p r => exact absurd ⟨rfl, by simp⟩ hgo
      have HC : Hid (b = true ∨ (b = false ∧ l = [])) := by
        show _ ∨ _
        cases b with
        | true => exact .inl rfl
        | false =>
          cases l with
          | nil => exact .inr ⟨rfl, rfl⟩
          | cons p r => exact absurd ⟨rfl, by simp⟩ hgo
      clear hme hR2 hgo HRD hsz
      obtain rfl := HF.out
      clear HF
      obtain ⟨pl, hpl⟩ : ∃ n, n = R.length := ⟨_, rfl⟩
      have HPl : Hid (pl = R.length) := hpl
      rw [← hpl] at HG HO hvc HBy
      clear hpl
      rcases HC.out with rfl | ⟨rfl, rfl⟩
      all_goals
        clear HC
        go_wp2_with fail
        refine (C6.out wr _ x1 HQ.out).mono ?_
        rintro e v1 ⟨rfl, c0, c1⟩
        have K1 : Hid (Below w1.heap.size wr v1) := c1 _ P1.out
        have O1 : Hid (OwnL v1 w9.heap.size (.slice va pl vc) R) := HO.out.same fun k h1 h2 => c0 k h2 (by have := P3.out; omega)
        clear c0 c1
        go_wp2_with fail
        refine (E2.out v1).mono ?_
        rintro e v2 ⟨jb, jc, rfl, hjc, hjb, hj0, hj1, hj2, c2⟩
        have hz1 := Z1.out
        have hp3 := P3.out
        have hws := HWS.out
        have hk1 := K1.out.size
        have g2 : v2.heap[w.heap.size + 1]? = some (.cells [Value.string iss, .int .i64 fr, .int .i64 ti, .slice va pl vc, .int .i64 0, .int .i64 0, .int .i64 0].toArray 53 (0, 0)) := by rw [c2.block _ (by omega), K1.out.block _ (by omega)]; exact HG.out
        have gr2 : v2.heap[w.heap.size]? = some (.cells [Value.string ⟨#[]⟩, .int .i64 0, .int .i64 0, .slice none 0 0, .int .i64 0, .int .i64 0, .int .i64 0, .int .i64 0].toArray 60 (0, 0)) := by rw [c2.block _ (by omega), K1.out.block _ (by omega)]; exact HGR.out
        have O2 : Hid (OwnL v2 w9.heap.size (.slice va pl vc) R) := O1.out.keep c2
        have B2 : Hid (Below w.heap.size w v2) := (HBL.out.trans (K1.out.mono (by omega))).trans (c2.mono (by omega))
        have hs2 : w9.heap.size ≤ v2.heap.size := by have := c2.size; omega
        have hjn : jb ≠ w.heap.size + 1 := by omega
        obtain ⟨v3, hv3⟩ : ∃ y, y = (((v2.setCell ⟨w.heap.size + 1, 4, none⟩ (.int .i64 n0)).setCell ⟨w.heap.size + 1, 5, none⟩ (.int .i64 n1)).setCell ⟨w.heap.size + 1, 6, none⟩ (.int .i64 n2)) := ⟨_, rfl⟩
        have t0 : v3.heap[w.heap.size + 1]? = some (.cells [Value.string iss, .int .i64 fr, .int .i64 ti, .slice va pl vc, .int .i64 n0, .int .i64 n1, .int .i64 n2].toArray 53 (0, 0)) := by rw [hv3]; exact rowSet (i := 6) _ (rowSet (i := 5) _ (rowSet (i := 4) _ g2))
        have ho3 : ∀ k, k ≠ w.heap.size + 1 → v3.heap[k]? = v2.heap[k]? := fun k hk => by rw [hv3, heap_setCell_other _ _ _ _ hk, heap_setCell_other _ _ _ _ hk, heap_setCell_other _ _ _ _ hk]
        have t1 : v3.heap[w.heap.size]? = some (.cells [Value.string ⟨#[]⟩, .int .i64 0, .int .i64 0, .slice none 0 0, .int .i64 0, .int .i64 0, .int .i64 0, .int .i64 0].toArray 60 (0, 0)) := by rw [ho3 _ (by omega)]; exact gr2
        have B3 : Hid (Below w.heap.size w v3) := by rw [hv3]; exact ((B2.out.setCell (by simp) _).setCell (by simp) _).setCell (by simp) _
        have O3 : Hid (OwnL v3 w9.heap.size (.slice va pl vc) R) := O2.out.same fun k h1 h2 => ho3 k (by omega)
        have T0 : Hid _ := t0
        have T1 : Hid _ := t1
        have HS3 : Hid (v3.cell? ⟨jb, 0, none⟩ = some (.int .i64 n0) ∧ v3.cell? ⟨jb, 1, none⟩ = some (.int .i64 n1) ∧ v3.cell? ⟨jb, 2, none⟩ = some (.int .i64 n2)) := by
          refine ⟨?_, ?_, ?_⟩
          · rw [hv3, World.cell?_setCell_far _ _ _ _ (fun h => hjn h.symm), World.cell?_setCell_far _ _ _ _ (fun h => hjn h.symm), World.cell?_setCell_far _ _ _ _ (fun h => hjn h.symm)]; exact hj0
          · rw [hv3, World.cell?_setCell_far _ _ _ _ (fun h => hjn h.symm), World.cell?_setCell_far _ _ _ _ (fun h => hjn h.symm), World.cell?_setCell_far _ _ _ _ (fun h => hjn h.symm)]; exact hj1
          · rw [hv3, World.cell?_setCell_far _ _ _ _ (fun h => hjn h.symm), World.cell?_setCell_far _ _ _ _ (fun h => hjn h.symm), World.cell?_setCell_far _ _ _ _ (fun h => hjn h.symm)]; exact hj2
        have p4 := rowFacts g2 4 _ rfl
        have p5 := rowFacts g2 5 _ rfl
        have p6 := rowFacts g2 6 _ rfl
        have q4 := rowFree g2 4
        have q5 := rowFree g2 5
        have q6 := rowFree g2 6
        clear hz1 hp3 hws hk1 g2 gr2 c2 hs2 t0 t1 ho3 B2 O2 O1 K1
        go_upto_region 13 with fail
        refine wp_region_held_drew (S := fun V => V.cell? ⟨jb, 0, none⟩ = some (.int .i64 n0) ∧ V.cell? ⟨jb, 1, none⟩ = some (.int .i64 n1) ∧ V.cell? ⟨jb, 2, none⟩ = some (.int .i64 n2)) (by kernel_rfl) ⟨hj0, hj1, hj2⟩ (fun hHeld => ?_)
        refine wpAnyH_take (i := 0) (oi := ⟨some 52, _, _, _, _, _⟩) (v := ?_) rfl (by kernel_rfl) (by kernel_rfl) (by kernel_rfl) (fun _ _ _ h => h) (Or.inl ⟨by kernel_rfl, ?_⟩) (by assumption) ?_
        rotate_left
        · (intro w hSw; (try dsimp only at hSw); go_simp; try with_reducible rfl)
        (try simp only [Act.put, List.setIfInBounds_toArray, List.set_cons_zero, List.set_cons_succ])
        refine wpAnyH_take (i := 1) (oi := ⟨some 53, _, _, _, _, _⟩) (v := ?_) rfl (by kernel_rfl) (by kernel_rfl) (by kernel_rfl) (fun _ _ _ h => h) (Or.inl ⟨by kernel_rfl, ?_⟩) (by assumption) ?_
        rotate_left
        · (intro w hSw; (try dsimp only at hSw); go_simp; try with_reducible rfl)
        (try simp only [Act.put, List.setIfInBounds_toArray, List.set_cons_zero, List.set_cons_succ])
        refine wpAnyH_take (i := 2) (oi := ⟨some 54, _, _, _, _, _⟩) (v := ?_) rfl (by kernel_rfl) (by kernel_rfl) (by kernel_rfl) (fun _ _ _ h => h) (Or.inl ⟨by kernel_rfl, ?_⟩) (by assumption) ?_
        rotate_left
        · (intro w hSw; (try dsimp only at hSw); go_simp; try with_reducible rfl)
        (try simp only [Act.put, List.setIfInBounds_toArray, List.set_cons_zero, List.set_cons_succ])
        refine wpAnyH_take (i := 3) (oi := ⟨some 55, _, _, _, _, _⟩) (v := ?_) rfl (by kernel_rfl) (by kernel_rfl) (by kernel_rfl) (fun _ _ _ h => h) (Or.inl ⟨by kernel_rfl, ?_⟩) (by assumption) ?_
        rotate_left
        · (intro w hSw; (try dsimp only at hSw); go_simp; try with_reducible rfl)
        (try simp only [Act.put, List.setIfInBounds_toArray, List.set_cons_zero, List.set_cons_succ])
        refine wpAnyH_take (i := 4) (oi := ⟨some 56, _, _, _, _, _⟩) (v := ?_) rfl (by kernel_rfl) (by kernel_rfl) (by kernel_rfl) (fun _ _ _ h => h) (Or.inl ⟨by kernel_rfl, ?_⟩) (by assumption) ?_
        rotate_left
        · (intro w hSw; (try dsimp only at hSw); go_simp; try with_reducible rfl)
        (try simp only [Act.put, List.setIfInBounds_toArray, List.set_cons_zero, List.set_cons_succ])
        refine wpAnyH_take (i := 5) (oi := ⟨some 57, _, _, _, _, _⟩) (v := ?_) rfl (by kernel_rfl) (by kernel_rfl) (by kernel_rfl) (fun _ _ _ h => h) (Or.inl ⟨by kernel_rfl, ?_⟩) (by assumption) ?_
        rotate_left
        · (intro w hSw; (try dsimp only at hSw); go_simp; try with_reducible rfl)
        (try simp only [Act.put, List.setIfInBounds_toArray, List.set_cons_zero, List.set_cons_succ])
        refine wpAnyH_take (i := 6) (oi := ⟨some 58, _, _, _, _, _⟩) (v := ?_) rfl (by kernel_rfl) (by kernel_rfl) (by kernel_rfl) (fun _ _ _ h => h) (Or.inl ⟨by kernel_rfl, ?_⟩) (by assumption) ?_
        rotate_left
        · (intro w hSw; (try dsimp only at hSw); go_simp; try with_reducible rfl)
        (try simp only [Act.put, List.setIfInBounds_toArray, List.set_cons_zero, List.set_cons_succ])
        refine wpAnyH_take (i := 7) (oi := ⟨some 59, _, _, _, _, _⟩) (v := ?_) rfl (by kernel_rfl) (by kernel_rfl) (by kernel_rfl) (fun _ _ _ h => h) (Or.inl ⟨by kernel_rfl, ?_⟩) (by assumption) ?_
        rotate_left
        · (intro w hSw; (try dsimp only at hSw); go_simp; try with_reducible rfl)
        (try simp only [Act.put, List.setIfInBounds_toArray, List.set_cons_zero, List.set_cons_succ])
        refine wpAnyH_take (i := 8) (oi := ⟨some 60, _, _, _, _, _⟩) (v := ?_) rfl (by kernel_rfl) (by kernel_rfl) (by kernel_rfl) (fun _ _ _ h => h) (Or.inl ⟨by kernel_rfl, ?_⟩) (by assumption) ?_
        rotate_left
        · (intro w hSw; (try dsimp only at hSw); go_simp; try with_reducible rfl)
        (try simp only [Act.put, List.setIfInBounds_toArray, List.set_cons_zero, List.set_cons_succ])
        refine wpAnyH_take (i := 9) (oi := ⟨some 61, _, _, _, _, _⟩) (v := ?_) rfl (by kernel_rfl) (by kernel_rfl) (by kernel_rfl) (fun _ _ _ h => h) (Or.inl ⟨by kernel_rfl, ?_⟩) (by assumption) ?_
        rotate_left
        · (intro w hSw; (try dsimp only at hSw); go_simp; try with_reducible rfl)
        (try simp only [Act.put, List.setIfInBounds_toArray, List.set_cons_zero, List.set_cons_succ])
        refine wpAnyH_take (i := 10) (oi := ⟨some 62, _, _, _, _, _⟩) (v := ?_) rfl (by kernel_rfl) (by kernel_rfl) (by kernel_rfl) (fun _ _ _ h => h) (Or.inl ⟨by kernel_rfl, ?_⟩) (by assumption) ?_
        rotate_left
        · (intro w hSw; (try dsimp only at hSw); go_simp; try with_reducible rfl)
        (try simp only [Act.put, List.setIfInBounds_toArray, List.set_cons_zero, List.set_cons_succ])
        refine wpAnyH_ready (rs := [11]) (by kernel_rfl) (by simp) ?_
        refine AllReadyH.cons (o := ⟨none, _, _, _, _, _⟩) rfl (fun K hK => ?_) AllReadyH.nil
        go_simp
        rw [← hv3]
        refine hK.out _ _ ?_ (fun hHeld => ?_)
        · exact HS3.out
        clear hK K hv3 p4 p5 p6 q4 q5 q6 hj0 hj1 hj2
        (try simp only [Act.put, List.setIfInBounds_toArray, List.set_cons_zero, List.set_cons_succ])
        refine wpAnyH_done (by kernel_rfl) ?_ _
        have hp3 := P3.out
        have hz1 := Z1.out
        by_cases hs0 : s.size = 0
        · have HF : Hid (RR = (zeroLst, 3)) := by show _ = _; rw [HCS.out, if_pos (Or.inl hs0)]
          have he := isEmpty_of hs0
          go_wp2_with (refine wpList_store_row rfl 60 _ _ rfl (w.heap.size) _ [Value.string ⟨#[]⟩, .int .i64 0, .int .i64 0, .slice none 0 0, .int .i64 0, .int .i64 0, .int .i64 0, .int .i64 3] 60 rfl rfl T1.out rfl sizeCrlOut (by simp [Value.oneCell']) ?_)
          intro w8' hrow ho hs8 hbb
          have HROW : Hid _ := hrow
          have HB8 : Hid (Below w.heap.size w w8') := hbb _ _ (Nat.le_refl _) B3.out.drew
          clear ho hs8 hbb hrow
          go_wp2
          refine bodyPost_ret (v := .agg [Value.string ⟨#[]⟩, .int .i64 0, .int .i64 0, .slice none 0 0, .int .i64 0, .int .i64 0, .int .i64 0, .int .i64 3].toArray) ?_ rfl ⟨.slice none 0 0, by rw [HF.out]; rfl, by rw [HF.out]; exact ownL_nil _ _, HB8.out⟩
          have hl3 := run_loadVar_mid (P := Tryz.prog) _ (w.heap.size) 0 60 _ _ (rangeRow HROW.out) Tryz.underlying60 rfl sizeCrlOut
          simp [results, Tryz.results41, asAddr, hl3]
        have he := isEmpty_not hs0
        have d0 := rowFacts T0.out 0 _ rfl
        have d1 := rowFacts T0.out 1 _ rfl
        have d2 := rowFacts T0.out 2 _ rfl
        have d3 := rowFacts T0.out 3 _ rfl
        have d4 := rowFacts T0.out 4 _ rfl
        have d5 := rowFacts T0.out 5 _ rfl
        have d6 := rowFacts T0.out 6 _ rfl
        go_wp2_with fail
        refine (HBy.out v3.drew va vc (show OwnL v3.drew _ _ _ from O3.out).ints).mono ?_
        rintro e v5 ⟨rfl, b5⟩
        have T5 : Hid (v5.heap[w.heap.size + 1]? = some (.cells [Value.string iss, .int .i64 fr, .int .i64 ti, .slice va pl vc, .int .i64 n0, .int .i64 n1, .int .i64 n2].toArray 53 (0, 0))) := (b5.block _ (heap_lt T0.out)).trans T0.out
        have U5 : Hid (v5.heap[w.heap.size]? = some (.cells [Value.string ⟨#[]⟩, .int .i64 0, .int .i64 0, .slice none 0 0, .int .i64 0, .int .i64 0, .int .i64 0, .int .i64 0].toArray 60 (0, 0))) := (b5.block _ (heap_lt T1.out)).trans T1.out
        have O5 : Hid (OwnL v5 (w.heap.size + 1) (.slice va pl vc) R) := ((show OwnL v3.drew _ _ _ from O3.out).keep b5).mono (by omega)
        have B5 : Hid (Below w.heap.size w v5) := B3.out.drew.trans (b5.mono B3.out.size)
        clear b5 d0 d1 d2 d3 d4 d5 d6
        by_cases hY : Y = s
        rotate_left
        · have HF : Hid (RR = (zeroLst, 3)) := by show _ = _; rw [HCS.out, if_pos (Or.inr hY)]
          have e1 : (Y.toList == s.toList) = false := by rw [same_text, decide_eq_false hY]
          have e2 : (Y.toList != s.toList) = true := by rw [bne, e1]; rfl
          go_wp2_with (refine wpList_store_row rfl 60 _ _ rfl (w.heap.size) _ [Value.string ⟨#[]⟩, .int .i64 0, .int .i64 0, .slice none 0 0, .int .i64 0, .int .i64 0, .int .i64 0, .int .i64 3] 60 rfl rfl U5.out rfl sizeCrlOut (by simp [Value.oneCell']) ?_)
          intro w8' hrow ho hs8 hbb
          have HROW : Hid _ := hrow
          have HB8 : Hid (Below w.heap.size w w8') := hbb _ _ (Nat.le_refl _) B5.out
          clear ho hs8 hbb hrow
          go_wp2
          refine bodyPost_ret (v := .agg [Value.string ⟨#[]⟩, .int .i64 0, .int .i64 0, .slice none 0 0, .int .i64 0, .int .i64 0, .int .i64 0, .int .i64 3].toArray) ?_ rfl ⟨.slice none 0 0, by rw [HF.out]; rfl, by rw [HF.out]; exact ownL_nil _ _, HB8.out⟩
          have hl3 := run_loadVar_mid (P := Tryz.prog) _ (w.heap.size) 0 60 _ _ (rangeRow HROW.out) Tryz.underlying60 rfl sizeCrlOut
          simp [results, Tryz.results41, asAddr, hl3]
        have HF : Hid (RR = (⟨iss, fr, ti, R, n0, n1, n2⟩, 0)) := by
          show _ = _
          rw [HCS.out, if_neg]
          rintro (h | h)
          · exact hs0 h
          · exact h hY
        have e2 : (Y.toList != s.toList) = false := by rw [bne, same_text, decide_eq_true hY]; rfl
        have d0 := rowFacts T5.out 0 _ rfl
        have d1 := rowFacts T5.out 1 _ rfl
        have d2 := rowFacts T5.out 2 _ rfl
        have d3 := rowFacts T5.out 3 _ rfl
        have d4 := rowFacts T5.out 4 _ rfl
        have d5 := rowFacts T5.out 5 _ rfl
        have d6 := rowFacts T5.out 6 _ rfl
        go_wp2_with (refine wpList_store_row rfl 60 _ _ rfl (w.heap.size) _ [Value.string iss, .int .i64 fr, .int .i64 ti, .slice va pl vc, .int .i64 n0, .int .i64 n1, .int .i64 n2, .int .i64 0] 60 rfl rfl U5.out rfl sizeCrlOut (by simp [Value.oneCell']) ?_)
        intro w8' hrow ho hs8 hbb
        have HROW : Hid _ := hrow
        have HB8 : Hid (Below w.heap.size w w8') := hbb _ _ (Nat.le_refl _) B5.out
        have O8 : Hid (OwnL w8' (w.heap.size + 1) (.slice va pl vc) R) := O5.out.same fun b h1 h2 => ho b (by omega)
        clear ho hs8 hbb hrow
        go_wp2
        refine bodyPost_ret (v := .agg [Value.string iss, .int .i64 fr, .int .i64 ti, .slice va pl vc, .int .i64 n0, .int .i64 n1, .int .i64 n2, .int .i64 0].toArray) ?_ rfl ⟨.slice va pl vc, by rw [HF.out]; rfl, by rw [HF.out]; exact O8.out.mono (by omega), HB8.out⟩
        have hl3 := run_loadVar_mid (P := Tryz.prog) _ (w.heap.size) 0 60 _ _ (rangeRow HROW.out) Tryz.underlying60 rfl sizeCrlOut
        simp [results, Tryz.results41, asAddr, hl3]
    obtain ⟨rfl, hl0⟩ := hgo
    obtain ⟨p, r, rfl⟩ : ∃ p r, l = p :: r := by
      cases l with
      | nil => simp at hl0
      | cons p r => exact ⟨p, r, rfl⟩
    have hst := numsL_step p r
    have hls := numR_less p r
    have hrs : ∀ q ∈ (numR (p :: r) false).2.1, q.2.size ≤ 4000 := takeR_rest hsz
    obtain ⟨⟨tk, l', b'⟩, hTK⟩ : ∃ i, i = numR (p :: r) false := ⟨_, rfl⟩
    have HTk : Hid (∀ V, IsRd V w1.heap.size x3 (p :: r) false → Calls Tryz.prog 107 #[.pointer (some ⟨x3, 0, none⟩)] V fun e w' => e = .returned (.int .i64 tk) ∧ IsRd w' w1.heap.size x3 l' b' ∧ (∀ k, k < V.heap.size → k ≠ x3 → w'.heap[k]? = V.heap[k]?) ∧ ∀ A, A ≤ x3 → Below A V w') := fun V hV => by
      have := rdNum w1.heap.size x3 (p :: r) false V hV hsz
      rw [← hTK] at this
      exact this
    rw [← hTK] at hst hls hrs
    simp only at hst hls hrs
    have HRS : Hid (∀ q ∈ l', q.2.size ≤ 4000) := hrs
    have HX : Hid (R = (pre ++ [tk]) ++ numsL l' b') := by show _ = _; rw [hR2, hst, List.append_assoc]; rfl
    have HLen : Hid (pre.length + 1 ≤ 60) := by
      have h3 := congrArg List.length HX.out
      have h4 := HRl.out
      simp only [List.length_append, List.length_cons, List.length_nil] at h3
      show _ ≤ _
      omega
    have HME : Hid (l'.length + (if b' = true then 0 else 1) < measR wr x3) := by rw [hme]; exact hls
    clear hsz hrs
    generalize hpl : (p :: r).length = nl at *
    generalize hpp : pre.length = pl at *
    have HPl : Hid (pre.length = pl) := hpp
    have y1 := rowFacts HG.out 3 _ rfl
    clear hst hls hTK hR2 hme hpl hpp
    go_upto_region 11 with fail
    refine wp_region_held_drew (S := fun _ => True) (by kernel_rfl) trivial (fun hHeld => ?_)
    have y1' : wr.drew.cell? ⟨w.heap.size + 1, 3, none⟩ = some (.slice va pl vc) := y1
    refine wpAnyH_take (i := 0) (oi := ⟨some 42, _, _, _, _, _⟩) (v := ?_) rfl (by kernel_rfl) (by kernel_rfl) (by kernel_rfl) (fun _ _ _ h => h) (Or.inl ⟨by kernel_rfl, ?_⟩) (by assumption) ?_
    rotate_left
    · (intro w hSw; (try dsimp only at hSw); go_simp; try with_reducible rfl)
    (try simp only [Act.put, List.setIfInBounds_toArray, List.set_cons_zero, List.set_cons_succ])
    refine wpAnyH_take (i := 2) (oi := ⟨some 44, _, _, _, _, _⟩) (v := ?_) rfl (by kernel_rfl) (by kernel_rfl) (by kernel_rfl) (fun _ _ _ h => h) (Or.inl ⟨by kernel_rfl, ?_⟩) (by assumption) ?_
    rotate_left
    · (intro w hSw; (try dsimp only at hSw); go_simp; try with_reducible rfl)
    (try simp only [Act.put, List.setIfInBounds_toArray, List.set_cons_zero, List.set_cons_succ])
    refine wpAnyH_ready (rs := [1, 3]) (by kernel_rfl) (by simp) ?_
    refine AllReadyH.cons (o := ⟨some 43, _, _, _, _, _⟩) rfl (fun K hK => ?_) (AllReadyH.cons (o := ⟨some 45, _, _, _, _, _⟩) rfl (fun K hK => ?_) AllReadyH.nil)
    · go_simp
      refine hK.out _ _ trivial (fun hHeld => ?_)
      clear hK K
      (try simp only [Act.put, List.setIfInBounds_toArray, List.set_cons_zero, List.set_cons_succ])
      refine wpAnyH_ready (rs := [3]) (by kernel_rfl) (by simp) ?_
      refine AllReadyH.cons (o := ⟨some 45, _, _, _, _, _⟩) rfl (fun K hK => ?_) AllReadyH.nil
      go_simp
      refine (HTk.out wr.drew HRD.out).mono ?_
      rintro e w4 ⟨rfl, f1, f2, f3⟩
      have R4 : Hid (IsRd w4 w1.heap.size x3 l' b') := f1
      have F4 : Hid (∀ k, k < wr.heap.size → k ≠ x3 → w4.heap[k]? = wr.heap[k]?) := f2
      have B4' : Hid (∀ A, A ≤ x3 → Below A wr w4) := fun A hA => (Below.refl A wr).drew.trans (f3 A hA)
      have O4 : Hid (OwnL w4 w9.heap.size (.slice va pl vc) pre) := HO.out.same fun k hk hk2 => F4.out k hk2 (by have := P3.out.2.2; omega)
      have g4 : w4.heap[w.heap.size + 1]? = some (.cells [Value.string iss, .int .i64 fr, .int .i64 ti, .slice va pl vc, .int .i64 0, .int .i64 0, .int .i64 0].toArray 53 (0, 0)) := by rw [F4.out _ (by have := HG.out; exact heap_lt this) (by have := P3.out.2.1; have := Z1.out; omega)]; exact HG.out
      have G4 : Hid _ := g4
      have S4 : Hid (wr.heap.size ≤ w4.heap.size) := (B4'.out w1.heap.size P3.out.2.1).size
      clear f1 f2 f3
      refine hK.out _ _ trivial (fun hHeld => ?_)
      clear hK K
      (try simp only [Act.put, List.setIfInBounds_toArray, List.set_cons_zero, List.set_cons_succ])
      refine wpAnyH_ready (rs := [4]) (by kernel_rfl) (by simp) ?_
      refine AllReadyH.cons (o := ⟨some 46, _, _, _, _, _⟩) rfl (fun K hK => ?_) AllReadyH.nil
      go_simp
      refine hK.out _ _ trivial (fun hHeld => ?_)
      clear hK K
      (try simp only [Act.put, List.setIfInBounds_toArray, List.set_cons_zero, List.set_cons_succ])
      refine wpAnyH_ready (rs := [5]) (by kernel_rfl) (by simp) ?_
      refine AllReadyH.cons (o := ⟨some 47, _, _, _, _, _⟩) rfl (fun K hK => ?_) AllReadyH.nil
      rw [if_pos (by rfl)]
      have hO : w4.ownsRow w9.heap.size 2 1 (.slice va pl vc) pl (lCells pre) := by
        have h2 := O4.out
        unfold OwnL at h2
        rw [HPl.out] at h2
        exact h2
      refine wp_append_own _ _ _ 51 rfl w9.heap.size 2 i0 (.int .i64 0) 1 8 Tryz.underlying51 hi hz0 hz1 hz2 rfl (by decide) _ _ _ rfl (hO.alloc _) ⟨w4.heap.size, 0, none⟩ 1 1 [.int .i64 tk] rfl rfl ?c1 ?c2 ?c3 ?c4 ?c5 ?_
      case c1 => exact cells_one (by simp)
      case c2 => intro u hu; simp at hu; subst hu; rfl
      case c3 => have := HLen.out; unfold maxLen; omega
      case c4 => have := HLen.out; omega
      case c5 => have := S4.out; have := HWS.out; simp; omega
      intro v' w5 hown' hgrow _
      have b5 : Below w9.heap.size w4 w5 := ((Below.refl _ w4).alloc (by have := S4.out; have := HWS.out; omega) _).grown hgrow (by have := S4.out; have := HWS.out; simp; omega) (fun k hk => (hO.lt k hk).1)
      have R5 : Hid (IsRd w5 w1.heap.size x3 l' b') := R4.out.far (b5.mono P3.out.2.2)
      have Q5 : Hid (IsRd w5 w1.heap.size x1 rl2 rb2) := (HQ.out.far (B4'.out _ P3.out.1)).far (b5.mono (by have := P3.out; omega))
      have g5 : w5.heap[w.heap.size + 1]? = some (.cells [Value.string iss, .int .i64 fr, .int .i64 ti, .slice va pl vc, .int .i64 0, .int .i64 0, .int .i64 0].toArray 53 (0, 0)) := by rw [b5.block _ (by have := P3.out; have := Z1.out; omega)]; exact G4.out
      have o5 : OwnL w5 w9.heap.size v' (pre ++ [tk]) := by
        show World.ownsRow _ _ _ _ _ _ _
        rw [List.length_append, HPl.out, lCells, List.map_append]
        exact hown'
      obtain ⟨ua, uc, e5, _⟩ := OwnL.form o5
      obtain ⟨ul, hul⟩ : ∃ n, n = (pre ++ [tk]).length := ⟨_, rfl⟩
      rw [← hul] at e5
      subst e5
      have O5 : Hid (OwnL w5 w9.heap.size (.slice ua ul uc) (pre ++ [tk])) := o5
      clear hul o5
      have B5' : Hid (Below w.heap.size w w5) := (HBL.out.trans (B4'.out w.heap.size (by have := P3.out; have := Z1.out; omega))).trans (b5.mono (by have := P3.out; have := Z1.out; omega))
      have S5 : Hid (w9.heap.size ≤ w5.heap.size) := Nat.le_trans HWS.out (Nat.le_trans S4.out b5.size)
      have G5 : Hid _ := g5
      have GR5 : Hid (w5.heap[w.heap.size]? = some (.cells [Value.string ⟨#[]⟩, .int .i64 0, .int .i64 0, .slice none 0 0, .int .i64 0, .int .i64 0, .int .i64 0, .int .i64 0].toArray 60 (0, 0))) := by show _ = _; rw [b5.block _ (by have := P3.out; have := Z1.out; omega), F4.out _ (heap_lt HGR.out) (by have := P3.out.2.1; have := Z1.out; omega)]; exact HGR.out
      have y5 := rowFacts g5 3 _ rfl
      have z5 := rowFree g5 3
      clear hown' hgrow b5 hO R4 F4 O4 G4 S4 B4' g5 g4 y1 y1'
      refine hK.out _ _ trivial (fun hHeld => ?_)
      clear hK K
      (try simp only [Act.put, List.setIfInBounds_toArray, List.set_cons_zero, List.set_cons_succ])
      refine wpAnyH_take (i := 6) (oi := ⟨some 48, _, _, _, _, _⟩) (v := ?_) rfl (by kernel_rfl) (by kernel_rfl) (by kernel_rfl) (fun _ _ _ h => h) (Or.inl ⟨by kernel_rfl, ?_⟩) (by assumption) ?_
      rotate_left
      · (intro w hSw; (try dsimp only at hSw); go_simp; try with_reducible rfl)
      (try simp only [Act.put, List.setIfInBounds_toArray, List.set_cons_zero, List.set_cons_succ])
      refine wpAnyH_ready (rs := [7]) (by kernel_rfl) (by simp) ?_
      refine AllReadyH.cons (o := ⟨none, _, _, _, _, _⟩) rfl (fun K hK => ?_) AllReadyH.nil
      go_simp
      refine hK.out _ _ trivial (fun hHeld => ?_)
      clear hK K
      (try simp only [Act.put, List.setIfInBounds_toArray, List.set_cons_zero, List.set_cons_succ])
      refine wpAnyH_done (by kernel_rfl) ?_ _
      have hz1 := Z1.out
      have hp3 := P3.out
      have hs5 := S5.out
      have R6 : Hid (IsRd (w5.setCell ⟨w.heap.size + 1, 3, none⟩ (.slice ua ul uc)) w1.heap.size x3 l' b') := R5.out.put (by omega) _
      have HRel : Hid (∃ (pre : List Int) (l : List (Int × ByteArray)) (b : Bool) (v : Value), IsRd (w5.setCell ⟨w.heap.size + 1, 3, none⟩ (.slice ua ul uc)) w1.heap.size x3 l b ∧ IsRd (w5.setCell ⟨w.heap.size + 1, 3, none⟩ (.slice ua ul uc)) w1.heap.size x1 rl2 rb2 ∧ (w5.setCell ⟨w.heap.size + 1, 3, none⟩ (.slice ua ul uc)).heap[w.heap.size + 1]? = some (.cells [Value.string iss, .int .i64 fr, .int .i64 ti, v, .int .i64 0, .int .i64 0, .int .i64 0].toArray 53 (0, 0)) ∧ OwnL (w5.setCell ⟨w.heap.size + 1, 3, none⟩ (.slice ua ul uc)) w9.heap.size v pre ∧ R = pre ++ numsL l b ∧ (∀ p ∈ l, p.2.size ≤ 4000) ∧ Below w.heap.size w (w5.setCell ⟨w.heap.size + 1, 3, none⟩ (.slice ua ul uc)) ∧ w9.heap.size ≤ (w5.setCell ⟨w.heap.size + 1, 3, none⟩ (.slice ua ul uc)).heap.size ∧ (w5.setCell ⟨w.heap.size + 1, 3, none⟩ (.slice ua ul uc)).heap[w.heap.size]? = some (.cells [Value.string ⟨#[]⟩, .int .i64 0, .int .i64 0, .slice none 0 0, .int .i64 0, .int .i64 0, .int .i64 0, .int .i64 0].toArray 60 (0, 0))) := ⟨pre ++ [tk], l', b', _, R6.out, Q5.out.put (by omega) _, rowSet (i := 3) _ G5.out, O5.out.same (fun k hk _ => heap_setCell_other w5 _ k _ (by show k ≠ w.heap.size + 1; omega)), HX.out, HRS.out, B5'.out.setCell (by simp) _, by simpa using hs5, by rw [heap_setCell_other w5 _ _ _ (by show w.heap.size ≠ w.heap.size + 1; omega)]; exact GR5.out⟩
      have HM2 : Hid (measR (w5.setCell ⟨w.heap.size + 1, 3, none⟩ (.slice ua ul uc)) x3 < measR wr x3) := by show _ < _; rw [measR_is R6.out]; exact HME.out
      clear R5 Q5 G5 GR5 O5 B5' S5 R6 y5 z5 hz1 hp3 hs5
      go_roundw
      case rel => exact ⟨_, _, _, _, _, _, _, _, _, _, _, _, _, _, _, _, _, _, _, _, HRel.out, rfl⟩
      case measure => exact HM2.out
    · go_simp
      refine (HTk.out wr.drew HRD.out).mono ?_
      rintro e w4 ⟨rfl, f1, f2, f3⟩
      have R4 : Hid (IsRd w4 w1.heap.size x3 l' b') := f1
      have F4 : Hid (∀ k, k < wr.heap.size → k ≠ x3 → w4.heap[k]? = wr.heap[k]?) := f2
      have B4' : Hid (∀ A, A ≤ x3 → Below A wr w4) := fun A hA => (Below.refl A wr).drew.trans (f3 A hA)
      have O4 : Hid (OwnL w4 w9.heap.size (.slice va pl vc) pre) := HO.out.same fun k hk hk2 => F4.out k hk2 (by have := P3.out.2.2; omega)
      have g4 : w4.heap[w.heap.size + 1]? = some (.cells [Value.string iss, .int .i64 fr, .int .i64 ti, .slice va pl vc, .int .i64 0, .int .i64 0, .int .i64 0].toArray 53 (0, 0)) := by rw [F4.out _ (by have := HG.out; exact heap_lt this) (by have := P3.out.2.1; have := Z1.out; omega)]; exact HG.out
      have G4 : Hid _ := g4
      have S4 : Hid (wr.heap.size ≤ w4.heap.size) := (B4'.out w1.heap.size P3.out.2.1).size
      clear f1 f2 f3
      refine hK.out _ _ trivial (fun hHeld => ?_)
      clear hK K
      (try simp only [Act.put, List.setIfInBounds_toArray, List.set_cons_zero, List.set_cons_succ])
      have y4 := rowFacts G4.out 3 _ rfl
      have y4b : (w4.alloc (.cells #[.int .i64 tk] 2 (0, 0))).cell? ⟨w.heap.size + 1, 3, none⟩ = some (.slice va pl vc) := by rw [World.cell?_alloc_some _ _ _ (by rw [y4]; rfl)]; exact y4
      refine wpAnyH_ready (rs := [1, 4]) (by kernel_rfl) (by simp) ?_
      refine AllReadyH.cons (o := ⟨some 43, _, _, _, _, _⟩) rfl (fun K hK => ?_) (AllReadyH.cons (o := ⟨some 46, _, _, _, _, _⟩) rfl (fun K hK => ?_) AllReadyH.nil)
      · go_simp
        refine hK.out _ _ trivial (fun hHeld => ?_)
        clear hK K
        (try simp only [Act.put, List.setIfInBounds_toArray, List.set_cons_zero, List.set_cons_succ])
        refine wpAnyH_ready (rs := [4]) (by kernel_rfl) (by simp) ?_
        refine AllReadyH.cons (o := ⟨some 46, _, _, _, _, _⟩) rfl (fun K hK => ?_) AllReadyH.nil
        go_simp
        refine hK.out _ _ trivial (fun hHeld => ?_)
        clear hK K
        (try simp only [Act.put, List.setIfInBounds_toArray, List.set_cons_zero, List.set_cons_succ])
        refine wpAnyH_ready (rs := [5]) (by kernel_rfl) (by simp) ?_
        refine AllReadyH.cons (o := ⟨some 47, _, _, _, _, _⟩) rfl (fun K hK => ?_) AllReadyH.nil
        rw [if_pos (by rfl)]
        have hO : w4.ownsRow w9.heap.size 2 1 (.slice va pl vc) pl (lCells pre) := by
          have h2 := O4.out
          unfold OwnL at h2
          rw [HPl.out] at h2
          exact h2
        refine wp_append_own _ _ _ 51 rfl w9.heap.size 2 i0 (.int .i64 0) 1 8 Tryz.underlying51 hi hz0 hz1 hz2 rfl (by decide) _ _ _ rfl (hO.alloc _) ⟨w4.heap.size, 0, none⟩ 1 1 [.int .i64 tk] rfl rfl ?c1 ?c2 ?c3 ?c4 ?c5 ?_
        case c1 => exact cells_one (by simp)
        case c2 => intro u hu; simp at hu; subst hu; rfl
        case c3 => have := HLen.out; unfold maxLen; omega
        case c4 => have := HLen.out; omega
        case c5 => have := S4.out; have := HWS.out; simp; omega
        intro v' w5 hown' hgrow _
        have b5 : Below w9.heap.size w4 w5 := ((Below.refl _ w4).alloc (by have := S4.out; have := HWS.out; omega) _).grown hgrow (by have := S4.out; have := HWS.out; simp; omega) (fun k hk => (hO.lt k hk).1)
        have R5 : Hid (IsRd w5 w1.heap.size x3 l' b') := R4.out.far (b5.mono P3.out.2.2)
        have Q5 : Hid (IsRd w5 w1.heap.size x1 rl2 rb2) := (HQ.out.far (B4'.out _ P3.out.1)).far (b5.mono (by have := P3.out; omega))
        have g5 : w5.heap[w.heap.size + 1]? = some (.cells [Value.string iss, .int .i64 fr, .int .i64 ti, .slice va pl vc, .int .i64 0, .int .i64 0, .int .i64 0].toArray 53 (0, 0)) := by rw [b5.block _ (by have := P3.out; have := Z1.out; omega)]; exact G4.out
        have o5 : OwnL w5 w9.heap.size v' (pre ++ [tk]) := by
          show World.ownsRow _ _ _ _ _ _ _
          rw [List.length_append, HPl.out, lCells, List.map_append]
          exact hown'
        obtain ⟨ua, uc, e5, _⟩ := OwnL.form o5
        obtain ⟨ul, hul⟩ : ∃ n, n = (pre ++ [tk]).length := ⟨_, rfl⟩
        rw [← hul] at e5
        subst e5
        have O5 : Hid (OwnL w5 w9.heap.size (.slice ua ul uc) (pre ++ [tk])) := o5
        clear hul o5
        have B5' : Hid (Below w.heap.size w w5) := (HBL.out.trans (B4'.out w.heap.size (by have := P3.out; have := Z1.out; omega))).trans (b5.mono (by have := P3.out; have := Z1.out; omega))
        have S5 : Hid (w9.heap.size ≤ w5.heap.size) := Nat.le_trans HWS.out (Nat.le_trans S4.out b5.size)
        have G5 : Hid _ := g5
        have GR5 : Hid (w5.heap[w.heap.size]? = some (.cells [Value.string ⟨#[]⟩, .int .i64 0, .int .i64 0, .slice none 0 0, .int .i64 0, .int .i64 0, .int .i64 0, .int .i64 0].toArray 60 (0, 0))) := by show _ = _; rw [b5.block _ (by have := P3.out; have := Z1.out; omega), F4.out _ (heap_lt HGR.out) (by have := P3.out.2.1; have := Z1.out; omega)]; exact HGR.out
        have y5 := rowFacts g5 3 _ rfl
        have z5 := rowFree g5 3
        clear hown' hgrow b5 hO R4 F4 O4 G4 S4 B4' g5 g4 y1 y1'
        refine hK.out _ _ trivial (fun hHeld => ?_)
        clear hK K
        (try simp only [Act.put, List.setIfInBounds_toArray, List.set_cons_zero, List.set_cons_succ])
        refine wpAnyH_take (i := 6) (oi := ⟨some 48, _, _, _, _, _⟩) (v := ?_) rfl (by kernel_rfl) (by kernel_rfl) (by kernel_rfl) (fun _ _ _ h => h) (Or.inl ⟨by kernel_rfl, ?_⟩) (by assumption) ?_
        rotate_left
        · (intro w hSw; (try dsimp only at hSw); go_simp; try with_reducible rfl)
        (try simp only [Act.put, List.setIfInBounds_toArray, List.set_cons_zero, List.set_cons_succ])
        refine wpAnyH_ready (rs := [7]) (by kernel_rfl) (by simp) ?_
        refine AllReadyH.cons (o := ⟨none, _, _, _, _, _⟩) rfl (fun K hK => ?_) AllReadyH.nil
        go_simp
        refine hK.out _ _ trivial (fun hHeld => ?_)
        clear hK K
        (try simp only [Act.put, List.setIfInBounds_toArray, List.set_cons_zero, List.set_cons_succ])
        refine wpAnyH_done (by kernel_rfl) ?_ _
        have hz1 := Z1.out
        have hp3 := P3.out
        have hs5 := S5.out
        have R6 : Hid (IsRd (w5.setCell ⟨w.heap.size + 1, 3, none⟩ (.slice ua ul uc)) w1.heap.size x3 l' b') := R5.out.put (by omega) _
        have HRel : Hid (∃ (pre : List Int) (l : List (Int × ByteArray)) (b : Bool) (v : Value), IsRd (w5.setCell ⟨w.heap.size + 1, 3, none⟩ (.slice ua ul uc)) w1.heap.size x3 l b ∧ IsRd (w5.setCell ⟨w.heap.size + 1, 3, none⟩ (.slice ua ul uc)) w1.heap.size x1 rl2 rb2 ∧ (w5.setCell ⟨w.heap.size + 1, 3, none⟩ (.slice ua ul uc)).heap[w.heap.size + 1]? = some (.cells [Value.string iss, .int .i64 fr, .int .i64 ti, v, .int .i64 0, .int .i64 0, .int .i64 0].toArray 53 (0, 0)) ∧ OwnL (w5.setCell ⟨w.heap.size + 1, 3, none⟩ (.slice ua ul uc)) w9.heap.size v pre ∧ R = pre ++ numsL l b ∧ (∀ p ∈ l, p.2.size ≤ 4000) ∧ Below w.heap.size w (w5.setCell ⟨w.heap.size + 1, 3, none⟩ (.slice ua ul uc)) ∧ w9.heap.size ≤ (w5.setCell ⟨w.heap.size + 1, 3, none⟩ (.slice ua ul uc)).heap.size ∧ (w5.setCell ⟨w.heap.size + 1, 3, none⟩ (.slice ua ul uc)).heap[w.heap.size]? = some (.cells [Value.string ⟨#[]⟩, .int .i64 0, .int .i64 0, .slice none 0 0, .int .i64 0, .int .i64 0, .int .i64 0, .int .i64 0].toArray 60 (0, 0))) := ⟨pre ++ [tk], l', b', _, R6.out, Q5.out.put (by omega) _, rowSet (i := 3) _ G5.out, O5.out.same (fun k hk _ => heap_setCell_other w5 _ k _ (by show k ≠ w.heap.size + 1; omega)), HX.out, HRS.out, B5'.out.setCell (by simp) _, by simpa using hs5, by rw [heap_setCell_other w5 _ _ _ (by show w.heap.size ≠ w.heap.size + 1; omega)]; exact GR5.out⟩
        have HM2 : Hid (measR (w5.setCell ⟨w.heap.size + 1, 3, none⟩ (.slice ua ul uc)) x3 < measR wr x3) := by show _ < _; rw [measR_is R6.out]; exact HME.out
        clear R5 Q5 G5 GR5 O5 B5' S5 R6 y5 z5 hz1 hp3 hs5
        go_roundw
        case rel => exact ⟨_, _, _, _, _, _, _, _, _, _, _, _, _, _, _, _, _, _, _, _, HRel.out, rfl⟩
        case measure => exact HM2.out
      · go_simp
        refine hK.out _ _ trivial (fun hHeld => ?_)
        clear hK K
        (try simp only [Act.put, List.setIfInBounds_toArray, List.set_cons_zero, List.set_cons_succ])
        refine wpAnyH_ready (rs := [1]) (by kernel_rfl) (by simp) ?_
        refine AllReadyH.cons (o := ⟨some 43, _, _, _, _, _⟩) rfl (fun K hK => ?_) AllReadyH.nil
        go_simp
        refine hK.out _ _ trivial (fun hHeld => ?_)
        clear hK K
        (try simp only [Act.put, List.setIfInBounds_toArray, List.set_cons_zero, List.set_cons_succ])
        refine wpAnyH_ready (rs := [5]) (by kernel_rfl) (by simp) ?_
        refine AllReadyH.cons (o := ⟨some 47, _, _, _, _, _⟩) rfl (fun K hK => ?_) AllReadyH.nil
        rw [if_pos (by rfl)]
        have hO : w4.ownsRow w9.heap.size 2 1 (.slice va pl vc) pl (lCells pre) := by
          have h2 := O4.out
          unfold OwnL at h2
          rw [HPl.out] at h2
          exact h2
        refine wp_append_own _ _ _ 51 rfl w9.heap.size 2 i0 (.int .i64 0) 1 8 Tryz.underlying51 hi hz0 hz1 hz2 rfl (by decide) _ _ _ rfl (hO.alloc _) ⟨w4.heap.size, 0, none⟩ 1 1 [.int .i64 tk] rfl rfl ?c1 ?c2 ?c3 ?c4 ?c5 ?_
        case c1 => exact cells_one (by simp)
        case c2 => intro u hu; simp at hu; subst hu; rfl
        case c3 => have := HLen.out; unfold maxLen; omega
        case c4 => have := HLen.out; omega
        case c5 => have := S4.out; have := HWS.out; simp; omega
        intro v' w5 hown' hgrow _
        have b5 : Below w9.heap.size w4 w5 := ((Below.refl _ w4).alloc (by have := S4.out; have := HWS.out; omega) _).grown hgrow (by have := S4.out; have := HWS.out; simp; omega) (fun k hk => (hO.lt k hk).1)
        have R5 : Hid (IsRd w5 w1.heap.size x3 l' b') := R4.out.far (b5.mono P3.out.2.2)
        have Q5 : Hid (IsRd w5 w1.heap.size x1 rl2 rb2) := (HQ.out.far (B4'.out _ P3.out.1)).far (b5.mono (by have := P3.out; omega))
        have g5 : w5.heap[w.heap.size + 1]? = some (.cells [Value.string iss, .int .i64 fr, .int .i64 ti, .slice va pl vc, .int .i64 0, .int .i64 0, .int .i64 0].toArray 53 (0, 0)) := by rw [b5.block _ (by have := P3.out; have := Z1.out; omega)]; exact G4.out
        have o5 : OwnL w5 w9.heap.size v' (pre ++ [tk]) := by
          show World.ownsRow _ _ _ _ _ _ _
          rw [List.length_append, HPl.out, lCells, List.map_append]
          exact hown'
        obtain ⟨ua, uc, e5, _⟩ := OwnL.form o5
        obtain ⟨ul, hul⟩ : ∃ n, n = (pre ++ [tk]).length := ⟨_, rfl⟩
        rw [← hul] at e5
        subst e5
        have O5 : Hid (OwnL w5 w9.heap.size (.slice ua ul uc) (pre ++ [tk])) := o5
        clear hul o5
        have B5' : Hid (Below w.heap.size w w5) := (HBL.out.trans (B4'.out w.heap.size (by have := P3.out; have := Z1.out; omega))).trans (b5.mono (by have := P3.out; have := Z1.out; omega))
        have S5 : Hid (w9.heap.size ≤ w5.heap.size) := Nat.le_trans HWS.out (Nat.le_trans S4.out b5.size)
        have G5 : Hid _ := g5
        have GR5 : Hid (w5.heap[w.heap.size]? = some (.cells [Value.string ⟨#[]⟩, .int .i64 0, .int .i64 0, .slice none 0 0, .int .i64 0, .int .i64 0, .int .i64 0, .int .i64 0].toArray 60 (0, 0))) := by show _ = _; rw [b5.block _ (by have := P3.out; have := Z1.out; omega), F4.out _ (heap_lt HGR.out) (by have := P3.out.2.1; have := Z1.out; omega)]; exact HGR.out
        have y5 := rowFacts g5 3 _ rfl
        have z5 := rowFree g5 3
        clear hown' hgrow b5 hO R4 F4 O4 G4 S4 B4' g5 g4 y1 y1'
        refine hK.out _ _ trivial (fun hHeld => ?_)
        clear hK K
        (try simp only [Act.put, List.setIfInBounds_toArray, List.set_cons_zero, List.set_cons_succ])
        refine wpAnyH_take (i := 6) (oi := ⟨some 48, _, _, _, _, _⟩) (v := ?_) rfl (by kernel_rfl) (by kernel_rfl) (by kernel_rfl) (fun _ _ _ h => h) (Or.inl ⟨by kernel_rfl, ?_⟩) (by assumption) ?_
        rotate_left
        · (intro w hSw; (try dsimp only at hSw); go_simp; try with_reducible rfl)
        (try simp only [Act.put, List.setIfInBounds_toArray, List.set_cons_zero, List.set_cons_succ])
        refine wpAnyH_ready (rs := [7]) (by kernel_rfl) (by simp) ?_
        refine AllReadyH.cons (o := ⟨none, _, _, _, _, _⟩) rfl (fun K hK => ?_) AllReadyH.nil
        go_simp
        refine hK.out _ _ trivial (fun hHeld => ?_)
        clear hK K
        (try simp only [Act.put, List.setIfInBounds_toArray, List.set_cons_zero, List.set_cons_succ])
        refine wpAnyH_done (by kernel_rfl) ?_ _
        have hz1 := Z1.out
        have hp3 := P3.out
        have hs5 := S5.out
        have R6 : Hid (IsRd (w5.setCell ⟨w.heap.size + 1, 3, none⟩ (.slice ua ul uc)) w1.heap.size x3 l' b') := R5.out.put (by omega) _
        have HRel : Hid (∃ (pre : List Int) (l : List (Int × ByteArray)) (b : Bool) (v : Value), IsRd (w5.setCell ⟨w.heap.size + 1, 3, none⟩ (.slice ua ul uc)) w1.heap.size x3 l b ∧ IsRd (w5.setCell ⟨w.heap.size + 1, 3, none⟩ (.slice ua ul uc)) w1.heap.size x1 rl2 rb2 ∧ (w5.setCell ⟨w.heap.size + 1, 3, none⟩ (.slice ua ul uc)).heap[w.heap.size + 1]? = some (.cells [Value.string iss, .int .i64 fr, .int .i64 ti, v, .int .i64 0, .int .i64 0, .int .i64 0].toArray 53 (0, 0)) ∧ OwnL (w5.setCell ⟨w.heap.size + 1, 3, none⟩ (.slice ua ul uc)) w9.heap.size v pre ∧ R = pre ++ numsL l b ∧ (∀ p ∈ l, p.2.size ≤ 4000) ∧ Below w.heap.size w (w5.setCell ⟨w.heap.size + 1, 3, none⟩ (.slice ua ul uc)) ∧ w9.heap.size ≤ (w5.setCell ⟨w.heap.size + 1, 3, none⟩ (.slice ua ul uc)).heap.size ∧ (w5.setCell ⟨w.heap.size + 1, 3, none⟩ (.slice ua ul uc)).heap[w.heap.size]? = some (.cells [Value.string ⟨#[]⟩, .int .i64 0, .int .i64 0, .slice none 0 0, .int .i64 0, .int .i64 0, .int .i64 0, .int .i64 0].toArray 60 (0, 0))) := ⟨pre ++ [tk], l', b', _, R6.out, Q5.out.put (by omega) _, rowSet (i := 3) _ G5.out, O5.out.same (fun k hk _ => heap_setCell_other w5 _ k _ (by show k ≠ w.heap.size + 1; omega)), HX.out, HRS.out, B5'.out.setCell (by simp) _, by simpa using hs5, by rw [heap_setCell_other w5 _ _ _ (by show w.heap.size ≠ w.heap.size + 1; omega)]; exact GR5.out⟩
        have HM2 : Hid (measR (w5.setCell ⟨w.heap.size + 1, 3, none⟩ (.slice ua ul uc)) x3 < measR wr x3) := by show _ < _; rw [measR_is R6.out]; exact HME.out
        clear R5 Q5 G5 GR5 O5 B5' S5 R6 y5 z5 hz1 hp3 hs5
        go_roundw
        case rel => exact ⟨_, _, _, _, _, _, _, _, _, _, _, _, _, _, _, _, _, _, _, _, HRel.out, rfl⟩
        case measure => exact HM2.out
end Go.Proofs.YtkhdjmjbdpmdnaaGreatDoor
