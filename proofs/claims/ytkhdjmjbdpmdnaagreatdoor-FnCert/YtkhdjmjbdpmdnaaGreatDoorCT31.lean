/- spec.l06Read, walked. -/
import Derived.Test.YtkhdjmjbdpmdnaaGreatDoorCT30
import Derived.Test.YtkhdjmjbdpmdnaaGreatDoorCT27
import Derived.Deep.Cut
import Derived.Deep.RegionHeld3
namespace Go.Proofs.YtkhdjmjbdpmdnaaGreatDoor
open Go.RowKit

theorem sizeCert' : (Tryz.prog.info? 27).map (·.size) = some 11 := by kernel_rfl
set_option linter.unusedSimpArgs false in
set_option maxHeartbeats 8000000 in
set_option maxRecDepth 100000 in
theorem specReadP (s : ByteArray) (w : World) (hs : s.size ≤ 20000) :
    Calls Tryz.prog 74 #[.string s] w fun e w' => ∃ v, e = .returned ((certSP s).val v) ∧ OwnS w' w.heap.size v (certSP s).names ∧ Below w.heap.size w w' := by
  obtain ⟨i0, hi, hz0, hz1, hz2⟩ := info_parts infoText
  obtain ⟨⟨ol, ob⟩, hO⟩ : ∃ o, o = openR s := ⟨_, rfl⟩
  obtain ⟨⟨⟨rl, rb⟩, q1⟩, hR⟩ : ∃ i, i = inR ol ob 48 := ⟨_, rfl⟩
  obtain ⟨⟨⟨bl, bb⟩, rl2, rb2⟩, hB⟩ : ∃ i, i = inR rl rb 48 := ⟨_, rfl⟩
  obtain ⟨⟨q2, zl, zb⟩, hZ⟩ : ∃ i, i = inR bl bb 160 := ⟨_, rfl⟩
  obtain ⟨⟨ser, sl, sb⟩, hX⟩ : ∃ i, i = numR zl zb := ⟨_, rfl⟩
  obtain ⟨⟨q3, al, ab⟩, hA⟩ : ∃ i, i = takeR sl sb 48 := ⟨_, rfl⟩
  obtain ⟨⟨iss, il, ib⟩, hI⟩ : ∃ i, i = nameR al ab := ⟨_, rfl⟩
  obtain ⟨⟨⟨vl, vb⟩, jl, jb⟩, hV⟩ : ∃ i, i = inR il ib 48 := ⟨_, rfl⟩
  obtain ⟨⟨fr, fl, fb⟩, hF⟩ : ∃ i, i = numR vl vb := ⟨_, rfl⟩
  obtain ⟨⟨ti, q4⟩, hT⟩ : ∃ i, i = numR fl fb := ⟨_, rfl⟩
  obtain ⟨⟨sub, ul, ub⟩, hU⟩ : ∃ i, i = nameR jl jb := ⟨_, rfl⟩
  obtain ⟨⟨⟨kl, kb⟩, ml, mb⟩, hK⟩ : ∃ i, i = inR ul ub 48 := ⟨_, rfl⟩
  obtain ⟨⟨q5, dl, db⟩, hD⟩ : ∃ i, i = takeR kl kb 48 := ⟨_, rfl⟩
  obtain ⟨⟨kx, q6⟩, hE⟩ : ∃ i, i = takeR dl db 3 := ⟨_, rfl⟩
  obtain ⟨⟨q7, gl, gb⟩, hG⟩ : ∃ i, i = takeR rl2 rb2 48 := ⟨_, rfl⟩
  obtain ⟨⟨nb, q8⟩, hN⟩ : ∃ i, i = takeR gl gb 3 := ⟨_, rfl⟩
  obtain ⟨k0, hk0⟩ : ∃ k, bitsQ kx 1 1 = [k] := ⟨_, rfl⟩
  obtain ⟨n0, n1, n2, hn⟩ : ∃ a b c, bitsQ nb 3 1 = [a, b, c] := ⟨_, _, _, rfl⟩
  obtain ⟨⟨RN, RC⟩, hM⟩ : ∃ i, i = tailS ml mb := ⟨_, rfl⟩
  have hSP : certSP s = ⟨ser, iss, sub, fr, ti, k0, RN, RC, n0, n1, n2⟩ := by
    unfold certSP
    simp only [← hO, ← hR, ← hB, ← hZ, ← hX, ← hA, ← hI, ← hV, ← hF, ← hT, ← hU, ← hK, ← hD, ← hE, ← hG, ← hN, ← hM, hk0, hn, List.getD_cons_zero, List.getD_cons_succ]
  have zo : ∀ p ∈ ol, p.2.size ≤ 4000 := by have := allD_4000 s; rw [show ol = (openR s).1 by rw [← hO]]; exact this
  have zr : ∀ p ∈ rl, p.2.size ≤ 4000 := by have := inR_4000 ol ob 48; rw [← hR] at this; exact this
  have zb' : ∀ p ∈ bl, p.2.size ≤ 4000 := by have := inR_4000 rl rb 48; rw [← hB] at this; exact this
  have zr2 : ∀ p ∈ rl2, p.2.size ≤ 4000 := by
    have : rl2 = (takeR rl rb 48).2.1 := by have := congrArg (fun x => x.2.1) hB; exact this
    rw [this]; exact takeR_rest zr
  have zz : ∀ p ∈ zl, p.2.size ≤ 4000 := by
    have : zl = (takeR bl bb 160).2.1 := by have := congrArg (fun x => x.2.1) hZ; exact this
    rw [this]; exact takeR_rest zb'
  have zs : ∀ p ∈ sl, p.2.size ≤ 4000 := by
    have : sl = (takeR zl zb 2).2.1 := by have := congrArg (fun x => x.2.1) hX; exact this
    rw [this]; exact takeR_rest zz
  have za : ∀ p ∈ al, p.2.size ≤ 4000 := by
    have : al = (takeR sl sb 48).2.1 := by have := congrArg (fun x => x.2.1) hA; exact this
    rw [this]; exact takeR_rest zs
  have zi : ∀ p ∈ il, p.2.size ≤ 4000 := by
    have : il = (takeR al ab 48).2.1 := by have := congrArg (fun x => x.2.1) hI; exact this
    rw [this]; exact takeR_rest za
  have zj : ∀ p ∈ jl, p.2.size ≤ 4000 := by
    have : jl = (takeR il ib 48).2.1 := by have := congrArg (fun x => x.2.1) hV; exact this
    rw [this]; exact takeR_rest zi
  have zv : ∀ p ∈ vl, p.2.size ≤ 4000 := by have := inR_4000 il ib 48; rw [← hV] at this; exact this
  have zf : ∀ p ∈ fl, p.2.size ≤ 4000 := by
    have : fl = (takeR vl vb 2).2.1 := by have := congrArg (fun x => x.2.1) hF; exact this
    rw [this]; exact takeR_rest zv
  have zu : ∀ p ∈ ul, p.2.size ≤ 4000 := by
    have : ul = (takeR jl jb 48).2.1 := by have := congrArg (fun x => x.2.1) hU; exact this
    rw [this]; exact takeR_rest zj
  have zm : ∀ p ∈ ml, p.2.size ≤ 4000 := by
    have : ml = (takeR ul ub 48).2.1 := by have := congrArg (fun x => x.2.1) hK; exact this
    rw [this]; exact takeR_rest zu
  have zk : ∀ p ∈ kl, p.2.size ≤ 4000 := by have := inR_4000 ul ub 48; rw [← hK] at this; exact this
  have zd : ∀ p ∈ dl, p.2.size ≤ 4000 := by
    have : dl = (takeR kl kb 48).2.1 := by have := congrArg (fun x => x.2.1) hD; exact this
    rw [this]; exact takeR_rest zk
  have zkx : kx.size ≤ 4000 := by have := takeR_sz (bad := db) (t := 3) zd; rw [← hE] at this; exact this
  have zg : ∀ p ∈ gl, p.2.size ≤ 4000 := by
    have : gl = (takeR rl2 rb2 48).2.1 := by have := congrArg (fun x => x.2.1) hG; exact this
    rw [this]; exact takeR_rest zr2
  have znb : nb.size ≤ 4000 := by have := takeR_sz (bad := gb) (t := 3) zg; rw [← hN] at this; exact this
  rw [hSP]
  have C0 : Hid (∀ V, Calls Tryz.prog 104 #[.string s] V fun e w' => ∃ g, e = .returned (.pointer (some ⟨g, 0, none⟩)) ∧ V.heap.size ≤ g ∧ IsRd w' V.heap.size g ol ob ∧ Below V.heap.size V w') := fun V => by have := rdOpen s V hs; rw [← hO] at this; exact this
  have C2 : Hid (∀ V cs S x, Stk w V cs (.slice none 0 0) [] ((x, rl, rb) :: S) → Calls Tryz.prog 105 #[.pointer (some ⟨x, 0, none⟩), .int .i64 48] V fun e w' => ∃ y, e = .returned (.pointer (some ⟨y, 0, none⟩)) ∧ Stk w w' cs (.slice none 0 0) [] ((y, bl, bb) :: (x, rl2, rb2) :: S)) := fun V cs S x hVV => by
    have := stkIn hVV 48 zr
    rw [← hB] at this
    exact this
  have C3 : Hid (∀ V cs S x, Stk w V cs (.slice none 0 0) [] ((x, bl, bb) :: S) → Calls Tryz.prog 105 #[.pointer (some ⟨x, 0, none⟩), .int .i64 160] V fun e w' => ∃ y, e = .returned (.pointer (some ⟨y, 0, none⟩)) ∧ Stk w w' cs (.slice none 0 0) [] ((y, q2.1, q2.2) :: (x, zl, zb) :: S)) := fun V cs S x hVV => by
    have := stkIn hVV 160 zb'
    rw [← hZ] at this
    exact this
  have C4 : Hid (∀ V cs S x, Stk w V cs (.slice none 0 0) [] ((x, zl, zb) :: S) → Calls Tryz.prog 107 #[.pointer (some ⟨x, 0, none⟩)] V fun e w' => e = .returned (.int .i64 ser) ∧ Stk w w' cs (.slice none 0 0) [] ((x, sl, sb) :: S)) := fun V cs S x hVV => by
    have := stkNum hVV zz
    rw [← hX] at this
    exact this
  have C5 : Hid (∀ V cs S x, Stk w V cs (.slice none 0 0) [] ((x, sl, sb) :: S) → Calls Tryz.prog 109 #[.pointer (some ⟨x, 0, none⟩), .int .i64 48] V fun e w' => e = .returned (.string q3) ∧ Stk w w' cs (.slice none 0 0) [] ((x, al, ab) :: S)) := fun V cs S x hVV => by
    have := stkTake hVV 48
    rw [← hA] at this
    exact this
  have C6 : Hid (∀ V cs S x, Stk w V cs (.slice none 0 0) [] ((x, al, ab) :: S) → Calls Tryz.prog 106 #[.pointer (some ⟨x, 0, none⟩)] V fun e w' => e = .returned (.string iss) ∧ Stk w w' cs (.slice none 0 0) [] ((x, il, ib) :: S)) := fun V cs S x hVV => by
    have := stkName hVV za
    rw [← hI] at this
    exact this
  have C7 : Hid (∀ V cs S x, Stk w V cs (.slice none 0 0) [] ((x, il, ib) :: S) → Calls Tryz.prog 105 #[.pointer (some ⟨x, 0, none⟩), .int .i64 48] V fun e w' => ∃ y, e = .returned (.pointer (some ⟨y, 0, none⟩)) ∧ Stk w w' cs (.slice none 0 0) [] ((y, vl, vb) :: (x, jl, jb) :: S)) := fun V cs S x hVV => by
    have := stkIn hVV 48 zi
    rw [← hV] at this
    exact this
  have C8 : Hid (∀ V cs S x, Stk w V cs (.slice none 0 0) [] ((x, vl, vb) :: S) → Calls Tryz.prog 107 #[.pointer (some ⟨x, 0, none⟩)] V fun e w' => e = .returned (.int .i64 fr) ∧ Stk w w' cs (.slice none 0 0) [] ((x, fl, fb) :: S)) := fun V cs S x hVV => by
    have := stkNum hVV zv
    rw [← hF] at this
    exact this
  have C9 : Hid (∀ V cs S x, Stk w V cs (.slice none 0 0) [] ((x, fl, fb) :: S) → Calls Tryz.prog 107 #[.pointer (some ⟨x, 0, none⟩)] V fun e w' => e = .returned (.int .i64 ti) ∧ Stk w w' cs (.slice none 0 0) [] ((x, q4.1, q4.2) :: S)) := fun V cs S x hVV => by
    have := stkNum hVV zf
    rw [← hT] at this
    exact this
  have C10 : Hid (∀ V cs S x, Stk w V cs (.slice none 0 0) [] ((x, jl, jb) :: S) → Calls Tryz.prog 106 #[.pointer (some ⟨x, 0, none⟩)] V fun e w' => e = .returned (.string sub) ∧ Stk w w' cs (.slice none 0 0) [] ((x, ul, ub) :: S)) := fun V cs S x hVV => by
    have := stkName hVV zj
    rw [← hU] at this
    exact this
  have C11 : Hid (∀ V cs S x, Stk w V cs (.slice none 0 0) [] ((x, ul, ub) :: S) → Calls Tryz.prog 105 #[.pointer (some ⟨x, 0, none⟩), .int .i64 48] V fun e w' => ∃ y, e = .returned (.pointer (some ⟨y, 0, none⟩)) ∧ Stk w w' cs (.slice none 0 0) [] ((y, kl, kb) :: (x, ml, mb) :: S)) := fun V cs S x hVV => by
    have := stkIn hVV 48 zu
    rw [← hK] at this
    exact this
  have C12 : Hid (∀ V cs S x, Stk w V cs (.slice none 0 0) [] ((x, kl, kb) :: S) → Calls Tryz.prog 109 #[.pointer (some ⟨x, 0, none⟩), .int .i64 48] V fun e w' => e = .returned (.string q5) ∧ Stk w w' cs (.slice none 0 0) [] ((x, dl, db) :: S)) := fun V cs S x hVV => by
    have := stkTake hVV 48
    rw [← hD] at this
    exact this
  have C13 : Hid (∀ V cs S x, Stk w V cs (.slice none 0 0) [] ((x, dl, db) :: S) → Calls Tryz.prog 109 #[.pointer (some ⟨x, 0, none⟩), .int .i64 3] V fun e w' => e = .returned (.string kx) ∧ Stk w w' cs (.slice none 0 0) [] ((x, q6.1, q6.2) :: S)) := fun V cs S x hVV => by
    have := stkTake hVV 3
    rw [← hE] at this
    exact this
  have D1 : Hid (∀ V cs v ns S x, Stk w V cs v ns ((x, rl2, rb2) :: S) → Calls Tryz.prog 109 #[.pointer (some ⟨x, 0, none⟩), .int .i64 48] V fun e w' => e = .returned (.string q7) ∧ Stk w w' cs v ns ((x, gl, gb) :: S)) := fun V cs v ns S x hVV => by
    have := stkTake hVV 48
    rw [← hG] at this
    exact this
  have D2 : Hid (∀ V cs v ns S x, Stk w V cs v ns ((x, gl, gb) :: S) → Calls Tryz.prog 109 #[.pointer (some ⟨x, 0, none⟩), .int .i64 3] V fun e w' => e = .returned (.string nb) ∧ Stk w w' cs v ns ((x, q8.1, q8.2) :: S)) := fun V cs v ns S x hVV => by
    have := stkTake hVV 3
    rw [← hN] at this
    exact this
  have E1 : Hid (∀ V cs S, Stk w V cs (.slice none 0 0) [] S → Calls Tryz.prog 108 #[.string kx, .int .i64 1] V fun e w' => ∃ g c, e = .returned (.slice (some ⟨g, 0, none⟩) 1 c) ∧ 1 ≤ c ∧ w'.cell? ⟨g, 0, none⟩ = some (.int .i64 k0) ∧ Stk w w' cs (.slice none 0 0) [] S) := fun V cs S hV => (stkBits hV kx 1 (by omega) (by omega) (by omega)).mono fun e W ⟨g, c, e1, hc, _, hcs, h⟩ => ⟨g, c, e1, hc, hcs 0 k0 (by rw [hk0]; rfl), h⟩
  have E2 : Hid (∀ V cs v ns S, Stk w V cs v ns S → Calls Tryz.prog 108 #[.string nb, .int .i64 3] V fun e w' => ∃ g c, e = .returned (.slice (some ⟨g, 0, none⟩) 3 c) ∧ 3 ≤ c ∧ w.heap.size + 2 ≤ g ∧ w'.cell? ⟨g, 0, none⟩ = some (.int .i64 n0) ∧ w'.cell? ⟨g, 1, none⟩ = some (.int .i64 n1) ∧ w'.cell? ⟨g, 2, none⟩ = some (.int .i64 n2) ∧ Stk w w' cs v ns S) := fun V cs v ns S hV => (stkBits hV nb 3 (by omega) (by omega) (by omega)).mono fun e W ⟨g, c, e1, hc, hg, hcs, h⟩ => ⟨g, c, e1, hc, hg, hcs 0 n0 (by rw [hn]; rfl), hcs 1 n1 (by rw [hn]; rfl), hcs 2 n2 (by rw [hn]; rfl), h⟩
  have C1 : Hid (∀ V A x, A ≤ V.heap.size → IsRd V A x ol ob → Calls Tryz.prog 105 #[.pointer (some ⟨x, 0, none⟩), .int .i64 48] V fun e w' => ∃ y, e = .returned (.pointer (some ⟨y, 0, none⟩)) ∧ IsRd w' A y rl rb ∧ Below A V w') := fun V A x hA hV => by
    have := rdIn A x ol ob 48 V hV zo
    rw [← hR] at this
    exact this.mono fun e W ⟨y, a, b, c, _, _, d⟩ => ⟨y, a, c.mono hA, d _ hV.ge.1⟩
  have HMz : Hid (∀ p ∈ ml, p.2.size ≤ 4000) := zm
  have HM : Hid ((RN, RC) = tailS ml mb) := hM
  clear hO hR hB hZ hX hA hI hV hF hT hU hK hD hE hG hN hk0 hn hM hSP zo zr zb' zr2 zz zs za zi zj zv zf zu zm zk zd zkx zg znb hs
  obtain ⟨w1, hw1⟩ : ∃ y, y = (w.alloc (.cells #[.int .i64 0, .string ⟨#[]⟩, .string ⟨#[]⟩, .int .i64 0, .int .i64 0, .int .i64 0, .slice none 0 0, .bool false, .int .i64 0, .int .i64 0, .int .i64 0] 27 (0, 0))).alloc (.cells #[.int .i64 0, .string ⟨#[]⟩, .string ⟨#[]⟩, .int .i64 0, .int .i64 0, .int .i64 0, .slice none 0 0, .bool false, .int .i64 0, .int .i64 0, .int .i64 0] 27 (0, 0)) := ⟨_, rfl⟩
  have g1 : w1.heap[w.heap.size + 1]? = some (.cells [Value.int .i64 0, .string ⟨#[]⟩, .string ⟨#[]⟩, .int .i64 0, .int .i64 0, .int .i64 0, .slice none 0 0, .bool false, .int .i64 0, .int .i64 0, .int .i64 0].toArray 27 (0, 0)) := by rw [hw1]; exact heap_alloc2 w _ _
  have b1 : Below w.heap.size w w1 := by rw [hw1]; exact ((Below.refl _ w).alloc (Nat.le_refl _) _).alloc (by simp) _
  have z1 : w1.heap.size = w.heap.size + 2 := by rw [hw1]; simp
  have gr1 : w1.heap[w.heap.size]? = some (.cells zCert.toArray 27 (0, 0)) := by rw [hw1, Below.heap_alloc _ _ _ (by simp)]; exact heap_alloc_new w _
  have S1 : Hid (Stk w w1 [Value.int .i64 0, .string ⟨#[]⟩, .string ⟨#[]⟩, .int .i64 0, .int .i64 0, .int .i64 0, .slice none 0 0, .bool false, .int .i64 0, .int .i64 0, .int .i64 0] (.slice none 0 0) [] []) := ⟨g1, gr1, b1, trivial, ownS_nil _ _⟩
  have Z1 : Hid (w1.heap.size = w.heap.size + 2) := z1
  clear g1 b1 z1 gr1
  go_enter Tryz.func74, Tryz.ntmps74
  go_wp2_with fail
  rw [← hw1]
  refine (C0.out w1).mono ?_
  rintro e w2 ⟨x0, rfl, p0, r0, b2⟩
  have R0 : Hid (IsRd w2 w1.heap.size x0 ol ob) := r0
  have B2 : Hid (Below w1.heap.size w1 w2) := b2
  clear r0 p0 b2 C0 hw1
  go_wp2_with fail
  refine (C1.out w2 _ x0 B2.out.size R0.out).mono ?_
  rintro e w3 ⟨x1, rfl, r1, b3⟩
  have S3 : Hid (Stk w w3 [Value.int .i64 0, .string ⟨#[]⟩, .string ⟨#[]⟩, .int .i64 0, .int .i64 0, .int .i64 0, .slice none 0 0, .bool false, .int .i64 0, .int .i64 0, .int .i64 0] (.slice none 0 0) [] [(x1, rl, rb)]) := (S1.out.keep (B2.out.trans b3)).push (Nat.le_of_eq Z1.out.symm) (fun _ h => by cases h) (fun _ h => by cases h) r1
  clear r1 b3 C1 R0 B2 S1 Z1
  go_wp2_with fail
  refine (C2.out w3 _ _ x1 S3.out).mono ?_
  rintro e w4 ⟨x2, rfl, h4⟩
  have S4 : Hid (Stk w w4 [Value.int .i64 0, .string ⟨#[]⟩, .string ⟨#[]⟩, .int .i64 0, .int .i64 0, .int .i64 0, .slice none 0 0, .bool false, .int .i64 0, .int .i64 0, .int .i64 0] (.slice none 0 0) [] [(x2, bl, bb), (x1, rl2, rb2)]) := h4
  clear h4 C2 S3
  go_wp2_with fail
  refine (C3.out w4 _ _ x2 S4.out).mono ?_
  rintro e w5 ⟨x3, rfl, h5⟩
  have S5 : Hid (Stk w w5 [Value.int .i64 0, .string ⟨#[]⟩, .string ⟨#[]⟩, .int .i64 0, .int .i64 0, .int .i64 0, .slice none 0 0, .bool false, .int .i64 0, .int .i64 0, .int .i64 0] (.slice none 0 0) [] [(x3, q2.1, q2.2), (x2, zl, zb), (x1, rl2, rb2)]) := h5
  clear h5 C3 S4
  replace S5 : Hid (Stk w w5 [Value.int .i64 0, .string ⟨#[]⟩, .string ⟨#[]⟩, .int .i64 0, .int .i64 0, .int .i64 0, .slice none 0 0, .bool false, .int .i64 0, .int .i64 0, .int .i64 0] (.slice none 0 0) [] [(x2, zl, zb), (x1, rl2, rb2)]) := S5.out.pop
  go_wp2_with fail
  refine (C4.out w5 _ _ x2 S5.out).mono ?_
  rintro e w6 ⟨rfl, h6⟩
  have S6 : Hid (Stk w w6 [Value.int .i64 0, .string ⟨#[]⟩, .string ⟨#[]⟩, .int .i64 0, .int .i64 0, .int .i64 0, .slice none 0 0, .bool false, .int .i64 0, .int .i64 0, .int .i64 0] (.slice none 0 0) [] [(x2, sl, sb), (x1, rl2, rb2)]) := h6
  clear h6 C4 S5
  obtain ⟨w7, hw7⟩ : ∃ y, y = w6.setCell ⟨w.heap.size + 1, 0, none⟩ (.int .i64 ser) := ⟨_, rfl⟩
  have S7 : Hid (Stk w w7 [Value.int .i64 ser, .string ⟨#[]⟩, .string ⟨#[]⟩, .int .i64 0, .int .i64 0, .int .i64 0, .slice none 0 0, .bool false, .int .i64 0, .int .i64 0, .int .i64 0] (.slice none 0 0) [] [(x2, sl, sb), (x1, rl2, rb2)]) := by rw [hw7]; exact S6.out.put 0 _
  have y7 := rowFacts S6.out.c 0 _ rfl
  have z7 := rowFree S6.out.c 0
  clear S6
  go_wp2_with fail
  rw [← hw7]
  clear hw7 y7 z7
  refine (C5.out w7 _ _ x2 S7.out).mono ?_
  rintro e w8 ⟨rfl, h8⟩
  have S8 : Hid (Stk w w8 [Value.int .i64 ser, .string ⟨#[]⟩, .string ⟨#[]⟩, .int .i64 0, .int .i64 0, .int .i64 0, .slice none 0 0, .bool false, .int .i64 0, .int .i64 0, .int .i64 0] (.slice none 0 0) [] [(x2, al, ab), (x1, rl2, rb2)]) := h8
  clear h8 C5 S7
  go_wp2_with fail
  refine (C6.out w8 _ _ x2 S8.out).mono ?_
  rintro e w9 ⟨rfl, h9⟩
  have S9 : Hid (Stk w w9 [Value.int .i64 ser, .string ⟨#[]⟩, .string ⟨#[]⟩, .int .i64 0, .int .i64 0, .int .i64 0, .slice none 0 0, .bool false, .int .i64 0, .int .i64 0, .int .i64 0] (.slice none 0 0) [] [(x2, il, ib), (x1, rl2, rb2)]) := h9
  clear h9 C6 S8
  obtain ⟨w10, hw10⟩ : ∃ y, y = w9.setCell ⟨w.heap.size + 1, 1, none⟩ (.string iss) := ⟨_, rfl⟩
  have S10 : Hid (Stk w w10 [Value.int .i64 ser, .string iss, .string ⟨#[]⟩, .int .i64 0, .int .i64 0, .int .i64 0, .slice none 0 0, .bool false, .int .i64 0, .int .i64 0, .int .i64 0] (.slice none 0 0) [] [(x2, il, ib), (x1, rl2, rb2)]) := by rw [hw10]; exact S9.out.put 1 _
  have y10 := rowFacts S9.out.c 1 _ rfl
  have z10 := rowFree S9.out.c 1
  clear S9
  go_wp2_with fail
  rw [← hw10]
  clear hw10 y10 z10
  refine (C7.out w10 _ _ x2 S10.out).mono ?_
  rintro e w11 ⟨x4, rfl, h11⟩
  have S11 : Hid (Stk w w11 [Value.int .i64 ser, .string iss, .string ⟨#[]⟩, .int .i64 0, .int .i64 0, .int .i64 0, .slice none 0 0, .bool false, .int .i64 0, .int .i64 0, .int .i64 0] (.slice none 0 0) [] [(x4, vl, vb), (x2, jl, jb), (x1, rl2, rb2)]) := h11
  clear h11 C7 S10
  go_wp2_with fail
  refine (C8.out w11 _ _ x4 S11.out).mono ?_
  rintro e w12 ⟨rfl, h12⟩
  have S12 : Hid (Stk w w12 [Value.int .i64 ser, .string iss, .string ⟨#[]⟩, .int .i64 0, .int .i64 0, .int .i64 0, .slice none 0 0, .bool false, .int .i64 0, .int .i64 0, .int .i64 0] (.slice none 0 0) [] [(x4, fl, fb), (x2, jl, jb), (x1, rl2, rb2)]) := h12
  clear h12 C8 S11
  obtain ⟨w13, hw13⟩ : ∃ y, y = w12.setCell ⟨w.heap.size + 1, 3, none⟩ (.int .i64 fr) := ⟨_, rfl⟩
  have S13 : Hid (Stk w w13 [Value.int .i64 ser, .string iss, .string ⟨#[]⟩, .int .i64 fr, .int .i64 0, .int .i64 0, .slice none 0 0, .bool false, .int .i64 0, .int .i64 0, .int .i64 0] (.slice none 0 0) [] [(x4, fl, fb), (x2, jl, jb), (x1, rl2, rb2)]) := by rw [hw13]; exact S12.out.put 3 _
  have y13 := rowFacts S12.out.c 3 _ rfl
  have z13 := rowFree S12.out.c 3
  clear S12
  go_wp2_with fail
  rw [← hw13]
  clear hw13 y13 z13
  refine (C9.out w13 _ _ x4 S13.out).mono ?_
  rintro e w14 ⟨rfl, h14⟩
  have S14 : Hid (Stk w w14 [Value.int .i64 ser, .string iss, .string ⟨#[]⟩, .int .i64 fr, .int .i64 0, .int .i64 0, .slice none 0 0, .bool false, .int .i64 0, .int .i64 0, .int .i64 0] (.slice none 0 0) [] [(x4, q4.1, q4.2), (x2, jl, jb), (x1, rl2, rb2)]) := h14
  clear h14 C9 S13
  obtain ⟨w15, hw15⟩ : ∃ y, y = w14.setCell ⟨w.heap.size + 1, 4, none⟩ (.int .i64 ti) := ⟨_, rfl⟩
  have S15 : Hid (Stk w w15 [Value.int .i64 ser, .string iss, .string ⟨#[]⟩, .int .i64 fr, .int .i64 ti, .int .i64 0, .slice none 0 0, .bool false, .int .i64 0, .int .i64 0, .int .i64 0] (.slice none 0 0) [] [(x4, q4.1, q4.2), (x2, jl, jb), (x1, rl2, rb2)]) := by rw [hw15]; exact S14.out.put 4 _
  have y15 := rowFacts S14.out.c 4 _ rfl
  have z15 := rowFree S14.out.c 4
  clear S14
  replace S15 : Hid (Stk w w15 [Value.int .i64 ser, .string iss, .string ⟨#[]⟩, .int .i64 fr, .int .i64 ti, .int .i64 0, .slice none 0 0, .bool false, .int .i64 0, .int .i64 0, .int .i64 0] (.slice none 0 0) [] [(x2, jl, jb), (x1, rl2, rb2)]) := S15.out.pop
  go_wp2_with fail
  rw [← hw15]
  clear hw15 y15 z15
  refine (C10.out w15 _ _ x2 S15.out).mono ?_
  rintro e w16 ⟨rfl, h16⟩
  have S16 : Hid (Stk w w16 [Value.int .i64 ser, .string iss, .string ⟨#[]⟩, .int .i64 fr, .int .i64 ti, .int .i64 0, .slice none 0 0, .bool false, .int .i64 0, .int .i64 0, .int .i64 0] (.slice none 0 0) [] [(x2, ul, ub), (x1, rl2, rb2)]) := h16
  clear h16 C10 S15
  obtain ⟨w17, hw17⟩ : ∃ y, y = w16.setCell ⟨w.heap.size + 1, 2, none⟩ (.string sub) := ⟨_, rfl⟩
  have S17 : Hid (Stk w w17 [Value.int .i64 ser, .string iss, .string sub, .int .i64 fr, .int .i64 ti, .int .i64 0, .slice none 0 0, .bool false, .int .i64 0, .int .i64 0, .int .i64 0] (.slice none 0 0) [] [(x2, ul, ub), (x1, rl2, rb2)]) := by rw [hw17]; exact S16.out.put 2 _
  have y17 := rowFacts S16.out.c 2 _ rfl
  have z17 := rowFree S16.out.c 2
  clear S16
  go_wp2_with fail
  rw [← hw17]
  clear hw17 y17 z17
  refine (C11.out w17 _ _ x2 S17.out).mono ?_
  rintro e w18 ⟨x5, rfl, h18⟩
  have S18 : Hid (Stk w w18 [Value.int .i64 ser, .string iss, .string sub, .int .i64 fr, .int .i64 ti, .int .i64 0, .slice none 0 0, .bool false, .int .i64 0, .int .i64 0, .int .i64 0] (.slice none 0 0) [] [(x5, kl, kb), (x2, ml, mb), (x1, rl2, rb2)]) := h18
  clear h18 C11 S17
  go_wp2_with fail
  refine (C12.out w18 _ _ x5 S18.out).mono ?_
  rintro e w19 ⟨rfl, h19⟩
  have S19 : Hid (Stk w w19 [Value.int .i64 ser, .string iss, .string sub, .int .i64 fr, .int .i64 ti, .int .i64 0, .slice none 0 0, .bool false, .int .i64 0, .int .i64 0, .int .i64 0] (.slice none 0 0) [] [(x5, dl, db), (x2, ml, mb), (x1, rl2, rb2)]) := h19
  clear h19 C12 S18
  go_wp2_with fail
  refine (C13.out w19 _ _ x5 S19.out).mono ?_
  rintro e w20 ⟨rfl, h20⟩
  have S20 : Hid (Stk w w20 [Value.int .i64 ser, .string iss, .string sub, .int .i64 fr, .int .i64 ti, .int .i64 0, .slice none 0 0, .bool false, .int .i64 0, .int .i64 0, .int .i64 0] (.slice none 0 0) [] [(x5, q6.1, q6.2), (x2, ml, mb), (x1, rl2, rb2)]) := h20
  clear h20 C13 S19
  replace S20 : Hid (Stk w w20 [Value.int .i64 ser, .string iss, .string sub, .int .i64 fr, .int .i64 ti, .int .i64 0, .slice none 0 0, .bool false, .int .i64 0, .int .i64 0, .int .i64 0] (.slice none 0 0) [] [(x2, ml, mb), (x1, rl2, rb2)]) := S20.out.pop
  go_wp2_with fail
  refine (E1.out w20 _ _ S20.out).mono ?_
  rintro e w21 ⟨kg, kc, rfl, hkc, hkg, h21⟩
  have S21 : Hid (Stk w w21 [Value.int .i64 ser, .string iss, .string sub, .int .i64 fr, .int .i64 ti, .int .i64 0, .slice none 0 0, .bool false, .int .i64 0, .int .i64 0, .int .i64 0] (.slice none 0 0) [] [(x2, ml, mb), (x1, rl2, rb2)]) := h21
  clear h21 E1 S20
  obtain ⟨w22, hw22⟩ : ∃ y, y = w21.setCell ⟨w.heap.size + 1, 5, none⟩ (.int .i64 k0) := ⟨_, rfl⟩
  have S22 : Hid (Stk w w22 [Value.int .i64 ser, .string iss, .string sub, .int .i64 fr, .int .i64 ti, .int .i64 k0, .slice none 0 0, .bool false, .int .i64 0, .int .i64 0, .int .i64 0] (.slice none 0 0) [] [(x2, ml, mb), (x1, rl2, rb2)]) := by rw [hw22]; exact S21.out.put 5 _
  have y22 := rowFacts S21.out.c 5 _ rfl
  have z22 := rowFree S21.out.c 5
  clear S21
  obtain ⟨ma, mc, hgm, hmc, -⟩ := S22.out.rd.1.at
  have um0 := rowFacts hgm 0 _ rfl
  have um1 := rowFacts hgm 1 _ rfl
  simp only at um0 um1
  have HSm : Hid (Stk w w22 [Value.int .i64 ser, .string iss, .string sub, .int .i64 fr, .int .i64 ti, .int .i64 k0, .slice none 0 0, .bool false, .int .i64 0, .int .i64 0, .int .i64 0] (.slice none 0 0) [] [(x2, ml, mb), (x1, rl2, rb2)]) := S22.out
  clear hgm hmc S22
  go_upto_region 15 with fail
  rw [← hw22]
  clear hw22 y22 z22 hkc hkg
  go_cut [61] from 49 (fun s61 wx => s61 = .bool (decide (mb = false ∧ 0 < ml.length)) ∧ w22 = wx)
  case first =>
    cases hmb : mb with
    | true =>
      rw [hmb] at um1
      go_wp2_with fail
      go_meet
      case rel => exact ⟨by simp [hmb], rfl⟩
    | false =>
      rw [hmb] at um1
      by_cases hml : 0 < ml.length
      · have h0 : (0 : Int) < (ml.length : Int) := by omega
        go_wp2_with fail
        go_meet
        case rel => exact ⟨by simp [hmb, hml], rfl⟩
      · have h0 : ml = [] := List.eq_nil_of_length_eq_zero (by omega)
        subst h0
        go_wp2_with fail
        go_meet
        case rel => exact ⟨by simp [hmb], rfl⟩
  obtain ⟨rfl, hwc⟩ := hcut
  subst hwc
  clear um0 um1
  go_upto_if 61 with fail
  go_cut [8, 9, 10] from 49 (fun _ _ _ wx => ∃ v, Stk w wx [Value.int .i64 ser, .string iss, .string sub, .int .i64 fr, .int .i64 ti, .int .i64 k0, v, .bool RC, .int .i64 0, .int .i64 0, .int .i64 0] v RN [(x1, rl2, rb2)])
  rotate_left
  · obtain ⟨v, hS⟩ := hcut
    obtain ⟨va, vc, rfl, hvc⟩ := OwnS.form hS.o
    have HS : Hid (Stk w wc [Value.int .i64 ser, .string iss, .string sub, .int .i64 fr, .int .i64 ti, .int .i64 k0, .slice va RN.length vc, .bool RC, .int .i64 0, .int .i64 0, .int .i64 0] (.slice va RN.length vc) RN [(x1, rl2, rb2)]) := hS
    clear hS HSm HM HMz
    obtain ⟨pl, hpl⟩ : ∃ n, n = RN.length := ⟨_, rfl⟩
    rw [← hpl] at HS hvc
    have HPl : Hid (pl = RN.length) := hpl
    clear hpl
    go_wp2_with fail
    refine (D1.out wc _ _ _ _ _ HS.out).mono ?_
    rintro e v1 ⟨rfl, h1⟩
    have T1 : Hid (Stk w v1 [Value.int .i64 ser, .string iss, .string sub, .int .i64 fr, .int .i64 ti, .int .i64 k0, .slice va pl vc, .bool RC, .int .i64 0, .int .i64 0, .int .i64 0] (.slice va pl vc) RN [(x1, gl, gb)]) := h1
    clear h1 D1 HS
    go_wp2_with fail
    refine (D2.out v1 _ _ _ _ _ T1.out).mono ?_
    rintro e v2 ⟨rfl, h1⟩
    have T2 : Hid (Stk w v2 [Value.int .i64 ser, .string iss, .string sub, .int .i64 fr, .int .i64 ti, .int .i64 k0, .slice va pl vc, .bool RC, .int .i64 0, .int .i64 0, .int .i64 0] (.slice va pl vc) RN [(x1, q8.1, q8.2)]) := h1
    clear h1 D2 T1
    go_wp2_with fail
    refine (E2.out v2 _ _ _ _ T2.out).mono ?_
    rintro e v3 ⟨jb, jc, rfl, hjc, hjb, hj0, hj1, hj2, h1⟩
    have T3 : Hid (Stk w v3 [Value.int .i64 ser, .string iss, .string sub, .int .i64 fr, .int .i64 ti, .int .i64 k0, .slice va pl vc, .bool RC, .int .i64 0, .int .i64 0, .int .i64 0] (.slice va pl vc) RN [(x1, q8.1, q8.2)]) := h1
    have g2 := T3.out.c
    have hjn : jb ≠ w.heap.size + 1 := by omega
    obtain ⟨v4, hv4⟩ : ∃ y, y = (((v3.setCell ⟨w.heap.size + 1, 8, none⟩ (.int .i64 n0)).setCell ⟨w.heap.size + 1, 9, none⟩ (.int .i64 n1)).setCell ⟨w.heap.size + 1, 10, none⟩ (.int .i64 n2)) := ⟨_, rfl⟩
    have T4 : Hid (Stk w v4 [Value.int .i64 ser, .string iss, .string sub, .int .i64 fr, .int .i64 ti, .int .i64 k0, .slice va pl vc, .bool RC, .int .i64 n0, .int .i64 n1, .int .i64 n2] (.slice va pl vc) RN [(x1, q8.1, q8.2)]) := by show Stk _ _ _ _ _ _; rw [hv4]; exact ((h1.put 8 _).put 9 _).put 10 _
    have HS4 : Hid (v4.cell? ⟨jb, 0, none⟩ = some (.int .i64 n0) ∧ v4.cell? ⟨jb, 1, none⟩ = some (.int .i64 n1) ∧ v4.cell? ⟨jb, 2, none⟩ = some (.int .i64 n2)) := by
      refine ⟨?_, ?_, ?_⟩
      · rw [hv4, World.cell?_setCell_far _ _ _ _ (fun h => hjn h.symm), World.cell?_setCell_far _ _ _ _ (fun h => hjn h.symm), World.cell?_setCell_far _ _ _ _ (fun h => hjn h.symm)]; exact hj0
      · rw [hv4, World.cell?_setCell_far _ _ _ _ (fun h => hjn h.symm), World.cell?_setCell_far _ _ _ _ (fun h => hjn h.symm), World.cell?_setCell_far _ _ _ _ (fun h => hjn h.symm)]; exact hj1
      · rw [hv4, World.cell?_setCell_far _ _ _ _ (fun h => hjn h.symm), World.cell?_setCell_far _ _ _ _ (fun h => hjn h.symm), World.cell?_setCell_far _ _ _ _ (fun h => hjn h.symm)]; exact hj2
    have p4 := rowFacts g2 8 _ rfl
    have p5 := rowFacts g2 9 _ rfl
    have p6 := rowFacts g2 10 _ rfl
    have q4' := rowFree g2 8
    have q5' := rowFree g2 9
    have q6' := rowFree g2 10
    clear h1 g2 T2 T3 E2 hjn hjb
    go_upto_region 27 with fail
    refine wp_region_held_drew (S := fun V => V.cell? ⟨jb, 0, none⟩ = some (.int .i64 n0) ∧ V.cell? ⟨jb, 1, none⟩ = some (.int .i64 n1) ∧ V.cell? ⟨jb, 2, none⟩ = some (.int .i64 n2)) (by kernel_rfl) ⟨hj0, hj1, hj2⟩ (fun hHeld => ?_)
    refine wpAnyH_take (i := 0) (oi := ⟨some 124, _, _, _, _, _⟩) (v := ?_) rfl (by kernel_rfl) (by kernel_rfl) (by kernel_rfl) (fun _ _ _ h => h) (Or.inl ⟨by kernel_rfl, ?_⟩) (by assumption) ?_
    rotate_left
    · (intro w hSw; (try dsimp only at hSw); go_simp; try with_reducible rfl)
    (try simp only [Act.put, List.setIfInBounds_toArray, List.set_cons_zero, List.set_cons_succ])
    refine wpAnyH_take (i := 1) (oi := ⟨some 125, _, _, _, _, _⟩) (v := ?_) rfl (by kernel_rfl) (by kernel_rfl) (by kernel_rfl) (fun _ _ _ h => h) (Or.inl ⟨by kernel_rfl, ?_⟩) (by assumption) ?_
    rotate_left
    · (intro w hSw; (try dsimp only at hSw); go_simp; try with_reducible rfl)
    (try simp only [Act.put, List.setIfInBounds_toArray, List.set_cons_zero, List.set_cons_succ])
    refine wpAnyH_take (i := 2) (oi := ⟨some 126, _, _, _, _, _⟩) (v := ?_) rfl (by kernel_rfl) (by kernel_rfl) (by kernel_rfl) (fun _ _ _ h => h) (Or.inl ⟨by kernel_rfl, ?_⟩) (by assumption) ?_
    rotate_left
    · (intro w hSw; (try dsimp only at hSw); go_simp; try with_reducible rfl)
    (try simp only [Act.put, List.setIfInBounds_toArray, List.set_cons_zero, List.set_cons_succ])
    refine wpAnyH_take (i := 3) (oi := ⟨some 127, _, _, _, _, _⟩) (v := ?_) rfl (by kernel_rfl) (by kernel_rfl) (by kernel_rfl) (fun _ _ _ h => h) (Or.inl ⟨by kernel_rfl, ?_⟩) (by assumption) ?_
    rotate_left
    · (intro w hSw; (try dsimp only at hSw); go_simp; try with_reducible rfl)
    (try simp only [Act.put, List.setIfInBounds_toArray, List.set_cons_zero, List.set_cons_succ])
    refine wpAnyH_take (i := 4) (oi := ⟨some 128, _, _, _, _, _⟩) (v := ?_) rfl (by kernel_rfl) (by kernel_rfl) (by kernel_rfl) (fun _ _ _ h => h) (Or.inl ⟨by kernel_rfl, ?_⟩) (by assumption) ?_
    rotate_left
    · (intro w hSw; (try dsimp only at hSw); go_simp; try with_reducible rfl)
    (try simp only [Act.put, List.setIfInBounds_toArray, List.set_cons_zero, List.set_cons_succ])
    refine wpAnyH_take (i := 5) (oi := ⟨some 129, _, _, _, _, _⟩) (v := ?_) rfl (by kernel_rfl) (by kernel_rfl) (by kernel_rfl) (fun _ _ _ h => h) (Or.inl ⟨by kernel_rfl, ?_⟩) (by assumption) ?_
    rotate_left
    · (intro w hSw; (try dsimp only at hSw); go_simp; try with_reducible rfl)
    (try simp only [Act.put, List.setIfInBounds_toArray, List.set_cons_zero, List.set_cons_succ])
    refine wpAnyH_take (i := 6) (oi := ⟨some 130, _, _, _, _, _⟩) (v := ?_) rfl (by kernel_rfl) (by kernel_rfl) (by kernel_rfl) (fun _ _ _ h => h) (Or.inl ⟨by kernel_rfl, ?_⟩) (by assumption) ?_
    rotate_left
    · (intro w hSw; (try dsimp only at hSw); go_simp; try with_reducible rfl)
    (try simp only [Act.put, List.setIfInBounds_toArray, List.set_cons_zero, List.set_cons_succ])
    refine wpAnyH_take (i := 7) (oi := ⟨some 131, _, _, _, _, _⟩) (v := ?_) rfl (by kernel_rfl) (by kernel_rfl) (by kernel_rfl) (fun _ _ _ h => h) (Or.inl ⟨by kernel_rfl, ?_⟩) (by assumption) ?_
    rotate_left
    · (intro w hSw; (try dsimp only at hSw); go_simp; try with_reducible rfl)
    (try simp only [Act.put, List.setIfInBounds_toArray, List.set_cons_zero, List.set_cons_succ])
    refine wpAnyH_take (i := 8) (oi := ⟨some 132, _, _, _, _, _⟩) (v := ?_) rfl (by kernel_rfl) (by kernel_rfl) (by kernel_rfl) (fun _ _ _ h => h) (Or.inl ⟨by kernel_rfl, ?_⟩) (by assumption) ?_
    rotate_left
    · (intro w hSw; (try dsimp only at hSw); go_simp; try with_reducible rfl)
    (try simp only [Act.put, List.setIfInBounds_toArray, List.set_cons_zero, List.set_cons_succ])
    refine wpAnyH_take (i := 9) (oi := ⟨some 133, _, _, _, _, _⟩) (v := ?_) rfl (by kernel_rfl) (by kernel_rfl) (by kernel_rfl) (fun _ _ _ h => h) (Or.inl ⟨by kernel_rfl, ?_⟩) (by assumption) ?_
    rotate_left
    · (intro w hSw; (try dsimp only at hSw); go_simp; try with_reducible rfl)
    (try simp only [Act.put, List.setIfInBounds_toArray, List.set_cons_zero, List.set_cons_succ])
    refine wpAnyH_take (i := 10) (oi := ⟨some 134, _, _, _, _, _⟩) (v := ?_) rfl (by kernel_rfl) (by kernel_rfl) (by kernel_rfl) (fun _ _ _ h => h) (Or.inl ⟨by kernel_rfl, ?_⟩) (by assumption) ?_
    rotate_left
    · (intro w hSw; (try dsimp only at hSw); go_simp; try with_reducible rfl)
    (try simp only [Act.put, List.setIfInBounds_toArray, List.set_cons_zero, List.set_cons_succ])
    refine wpAnyH_ready (rs := [11]) (by kernel_rfl) (by simp) ?_
    refine AllReadyH.cons (o := ⟨none, _, _, _, _, _⟩) rfl (fun K hK => ?_) AllReadyH.nil
    go_simp
    rw [← hv4]
    refine hK.out _ _ ?_ (fun hHeld => ?_)
    · exact HS4.out
    clear hK K hv4 p4 p5 p6 q4' q5' q6' hj0 hj1 hj2
    (try simp only [Act.put, List.setIfInBounds_toArray, List.set_cons_zero, List.set_cons_succ])
    refine wpAnyH_done (by kernel_rfl) ?_ _
    obtain ⟨C, hC⟩ : ∃ C, C = [Value.int .i64 ser, .string iss, .string sub, .int .i64 fr, .int .i64 ti, .int .i64 k0, .slice va pl vc, .bool RC, .int .i64 n0, .int .i64 n1, .int .i64 n2] := ⟨_, rfl⟩
    have hr := rangeRow T4.out.c
    rw [← hC] at hr
    have hR := T4.out.r
    have h1 : ∀ v ∈ C, v.oneCell' = true := by rw [hC]; simp [Value.oneCell']
    have hi' : (Tryz.prog.info? 27).map (·.size) = some C.length := by rw [hC]; exact sizeCert'
    have HLn : Hid (zCert.length = C.length) := by rw [hC]; rfl
    have HCC : Hid (C = [Value.int .i64 ser, .string iss, .string sub, .int .i64 fr, .int .i64 ti, .int .i64 k0, .slice va pl vc, .bool RC, .int .i64 n0, .int .i64 n1, .int .i64 n2]) := hC
    clear hC
    go_wp2_with (first | (refine wpList_load_mid rfl 27 _ rfl (w.heap.size + 1) 0 rfl C _ hr Tryz.underlying27 rfl hi' ?_) | (refine wpList_store_row rfl 27 _ _ rfl (w.heap.size) _ C 27 rfl rfl hR HLn.out hi' h1 ?_))
    intro w8 hrow ho hs8 hbb
    have HROW : Hid _ := hrow
    have HB8 : Hid (Below w.heap.size w w8) := hbb _ _ (Nat.le_refl _) T4.out.b.drew
    have O8 : Hid (OwnS w8 (w.heap.size + 2) (.slice va pl vc) RN) := T4.out.o.same fun b h1 h2 => ho b (by omega)
    clear ho hs8 hbb hrow hr hR h1
    go_wp2
    refine bodyPost_ret (v := .agg C.toArray) ?_ rfl ⟨.slice va pl vc, by rw [HCC.out]; rfl, O8.out.mono (by omega), HB8.out⟩
    have hl3 := run_loadVar_mid (P := Tryz.prog) _ (w.heap.size) 0 27 _ _ (rangeRow HROW.out) Tryz.underlying27 rfl hi'
    simp [results, Tryz.results74, asAddr, hl3]
  by_cases hgo : mb = false ∧ 0 < ml.length
  rotate_left
  · have hn : (RN, RC) = ([], false) := by rw [HM.out, tailS, if_neg (by simpa using hgo)]
    obtain ⟨rfl, rfl⟩ := Prod.mk.inj hn
    rw [decide_eq_false hgo]
    clear hn HM
    go_wp2_with fail
    go_meet
    case rel => exact ⟨.slice none 0 0, HSm.out.pop⟩
  rw [decide_eq_true hgo]
  obtain ⟨rfl, hml⟩ := hgo
  obtain ⟨⟨⟨cl, cb⟩, q9⟩, hIa⟩ : ∃ i, i = inR ml false 163 := ⟨_, rfl⟩
  obtain ⟨⟨⟨l0, b0⟩, q10⟩, hIb⟩ : ∃ i, i = inR cl cb 48 := ⟨_, rfl⟩
  have hm2 : (RN, RC) = moreS l0 b0 ([], false) := by
    rw [HM.out, tailS, if_pos ⟨rfl, hml⟩]
    simp only [← hIa, ← hIb]
  have zc : ∀ p ∈ cl, p.2.size ≤ 4000 := by have := inR_4000 ml false 163; rw [← hIa] at this; exact this
  have z0 : ∀ p ∈ l0, p.2.size ≤ 4000 := by have := inR_4000 cl cb 48; rw [← hIb] at this; exact this
  have l60 : l0.length ≤ 60 := by
    have : l0 = (allD (takeR cl cb 48).1).1 := by have := congrArg (fun x => x.1.1) hIb; exact this
    rw [this]; exact allD_len _
  have F1 : Hid (∀ V cs S x, Stk w V cs (.slice none 0 0) [] ((x, ml, false) :: S) → Calls Tryz.prog 105 #[.pointer (some ⟨x, 0, none⟩), .int .i64 163] V fun e w' => ∃ y, e = .returned (.pointer (some ⟨y, 0, none⟩)) ∧ Stk w w' cs (.slice none 0 0) [] ((y, cl, cb) :: (x, q9.1, q9.2) :: S)) := fun V cs S x hVV => by
    have := stkIn hVV 163 HMz.out
    rw [← hIa] at this
    exact this
  have F2 : Hid (∀ V cs S x, Stk w V cs (.slice none 0 0) [] ((x, cl, cb) :: S) → Calls Tryz.prog 105 #[.pointer (some ⟨x, 0, none⟩), .int .i64 48] V fun e w' => ∃ y, e = .returned (.pointer (some ⟨y, 0, none⟩)) ∧ Stk w w' cs (.slice none 0 0) [] ((y, l0, b0) :: (x, q10.1, q10.2) :: S)) := fun V cs S x hVV => by
    have := stkIn hVV 48 zc
    rw [← hIb] at this
    exact this
  have HM2 : Hid ((RN, RC) = moreS l0 b0 ([], false)) := hm2
  have Z0 : Hid ((∀ p ∈ l0, p.2.size ≤ 4000) ∧ l0.length ≤ 60) := ⟨z0, l60⟩
  clear hIa hIb hm2 zc z0 l60 HM HMz hml
  go_wp2_with fail
  refine (F1.out w22 _ _ _ HSm.out).mono ?_
  rintro e u1 ⟨xc, rfl, h1⟩
  have U1 : Hid (Stk w u1 [Value.int .i64 ser, .string iss, .string sub, .int .i64 fr, .int .i64 ti, .int .i64 k0, .slice none 0 0, .bool false, .int .i64 0, .int .i64 0, .int .i64 0] (.slice none 0 0) [] [(xc, cl, cb), (x2, q9.1, q9.2), (x1, rl2, rb2)]) := h1
  clear h1 F1 HSm
  go_wp2_with fail
  refine (F2.out u1 _ _ _ U1.out).mono ?_
  rintro e u2 ⟨xm, rfl, h1⟩
  have U2 : Hid (Stk w u2 [Value.int .i64 ser, .string iss, .string sub, .int .i64 fr, .int .i64 ti, .int .i64 k0, .slice none 0 0, .bool false, .int .i64 0, .int .i64 0, .int .i64 0] (.slice none 0 0) [] [(xm, l0, b0), (x1, rl2, rb2)]) := h1.drop2.drop2
  clear h1 F2 U1
  go_wp2_with fail
  go_loopw [] (fun wr => ∃ (names : List ByteArray) (ca : Bool) (l : List (Int × ByteArray)) (b : Bool) (v : Value), Stk w wr [Value.int .i64 ser, .string iss, .string sub, .int .i64 fr, .int .i64 ti, .int .i64 k0, v, .bool ca, .int .i64 0, .int .i64 0, .int .i64 0] v names [(xm, l, b), (x1, rl2, rb2)] ∧ moreS l b (names, ca) = (RN, RC) ∧ names.length + 60 * l.length ≤ 3600 ∧ ∀ p ∈ l, p.2.size ≤ 4000) (fun wr => measR wr xm)
  case atStart => exact ⟨[], false, l0, b0, .slice none 0 0, U2.out, HM2.out.symm, by have := Z0.out.2; simp; omega, Z0.out.1⟩
  case round =>
    obtain ⟨names, ca, l, b, v, hst, hmo, hbd, hsz⟩ := hrel
    obtain ⟨ga, gc, hgm, hgc, -⟩ := hst.rd.1.at
    have um0 := rowFacts hgm 0 _ rfl
    have um1 := rowFacts hgm 1 _ rfl
    simp only at um0 um1
    obtain ⟨B0, hB0⟩ := hst.top
    have hme := measR_is hB0
    have HME0 : Hid (measR wr xm = l.length + if b = true then 0 else 1) := hme
    clear hB0 hme hgm hgc HM2 Z0 U2
    have HST : Hid (Stk w wr [Value.int .i64 ser, .string iss, .string sub, .int .i64 fr, .int .i64 ti, .int .i64 k0, v, .bool ca, .int .i64 0, .int .i64 0, .int .i64 0] v names [(xm, l, b), (x1, rl2, rb2)]) := hst
    have HMO : Hid (moreS l b (names, ca) = (RN, RC)) := hmo
    have HBD : Hid (names.length + 60 * l.length ≤ 3600) := hbd
    clear hst hmo hbd
    by_cases hgo : b = false ∧ 0 < l.length
    rotate_left
    · have HF : Hid (RN = names ∧ RC = ca) := by
        have h := HMO.out
        have h2 : moreS l b (names, ca) = (names, ca) := by
          cases b with
          | true => exact moreS_bad _ _
          | false =>
            cases l with
            | nil => rfl
            | cons p r => exact absurd ⟨rfl, by simp⟩ hgo
        rw [h2] at h
        obtain ⟨rfl, rfl⟩ := Prod.mk.inj h
        exact ⟨rfl, rfl⟩
      have HC : Hid (b = true ∨ (b = false ∧ l = [])) := by
        show _ ∨ _
        cases b with
        | true => exact .inl rfl
        | false =>
          cases l with
          | nil => exact .inr ⟨rfl, rfl⟩
          | cons p r => exact absurd ⟨rfl, by simp⟩ hgo
      clear hgo HBD hsz HME0 HMO
      obtain ⟨rfl, rfl⟩ := HF.out
      clear HF
      rcases HC.out with rfl | ⟨rfl, rfl⟩
      all_goals
        clear HC
        go_wp2_with fail
        go_meet
        case rel => exact ⟨v, HST.out.drop1⟩
    obtain ⟨rfl, hl0⟩ := hgo
    obtain ⟨p, r, rfl⟩ : ∃ p r, l = p :: r := by
      cases l with
      | nil => simp at hl0
      | cons p r => exact ⟨p, r, rfl⟩
    obtain ⟨⟨⟨el, eb⟩, l', b'⟩, hIe⟩ : ∃ i, i = inR (p :: r) false 48 := ⟨_, rfl⟩
    obtain ⟨⟨q11, fl', fb'⟩, hTe⟩ : ∃ i, i = takeR el eb 6 := ⟨_, rfl⟩
    have ze : ∀ p ∈ el, p.2.size ≤ 4000 := by have := inR_4000 (p :: r) false 48; rw [← hIe] at this; exact this
    have e2 : (l', b') = (takeR (p :: r) false 48).2 := congrArg (fun x => x.2) hIe
    have zl' : ∀ q ∈ l', q.2.size ≤ 4000 := by
      have : l' = (takeR (p :: r) false 48).2.1 := congrArg (fun x => x.1) e2
      rw [this]; exact takeR_rest hsz
    have hls := takeR_less p r 48
    rw [← e2] at hls
    have hl' : l'.length ≤ r.length ∨ (b' = true ∧ l'.length = r.length + 1 ∧ eb = true) := by
      by_cases h : p.1 = 48
      · left
        have : l' = r := by rw [show l' = (takeR (p :: r) false 48).2.1 from congrArg (fun x => x.1) e2]; simp [takeR, h]
        rw [this]; exact Nat.le_refl _
      · right
        have h3 : takeR (p :: r) false 48 = (⟨#[]⟩, p :: r, true) := by simp [takeR, h]
        have h4 : eb = ((openR (takeR (p :: r) false 48).1).2 || (takeR (p :: r) false 48).2.2) := congrArg (fun x => x.1.2) hIe
        rw [h3] at e2 h4
        obtain ⟨rfl, rfl⟩ := Prod.mk.inj e2
        exact ⟨rfl, rfl, by rw [h4]; simp⟩
    have hmo : moreS l' b' (partS (names, ca) el eb) = (RN, RC) := by
      have := HMO.out
      rw [moreS_step, ← hIe] at this
      exact this
    have zf' : ∀ q ∈ fl', q.2.size ≤ 4000 := by
      have : fl' = (takeR el eb 6).2.1 := by rw [← hTe]
      rw [this]; exact takeR_rest ze
    have hpa : partS (names, ca) el eb = if fb' = false ∧ fl'.length = 1 then (names ++ hostsR (inR (inR fl' fb' 4).1.1 (inR fl' fb' 4).1.2 48).1.1 (inR (inR fl' fb' 4).1.1 (inR fl' fb' 4).1.2 48).1.2, ca) else (names, true) := by
      unfold partS
      simp only [← hTe]
    have hfe : eb = true → fb' = true := fun h => by
      have : fb' = (takeR el eb 6).2.2 := by rw [← hTe]
      rw [this, h]
      unfold takeR
      cases el <;> simp
    rw [hpa] at hmo
    have G1 : Hid (∀ V cs v ns S x, Stk w V cs v ns ((x, p :: r, false) :: S) → Calls Tryz.prog 105 #[.pointer (some ⟨x, 0, none⟩), .int .i64 48] V fun e w' => ∃ y, e = .returned (.pointer (some ⟨y, 0, none⟩)) ∧ Stk w w' cs v ns ((y, el, eb) :: (x, l', b') :: S)) := fun V cs v ns S x hVV => by
      have := stkIn hVV 48 hsz
      rw [← hIe] at this
      exact this
    have G2 : Hid (∀ V cs v ns S x, Stk w V cs v ns ((x, el, eb) :: S) → Calls Tryz.prog 109 #[.pointer (some ⟨x, 0, none⟩), .int .i64 6] V fun e w' => e = .returned (.string q11) ∧ Stk w w' cs v ns ((x, fl', fb') :: S)) := fun V cs v ns S x hVV => by
      have := stkTake hVV 6
      rw [← hTe] at this
      exact this
    have HMP : Hid (moreS l' b' (if fb' = false ∧ fl'.length = 1 then (names ++ hostsR (inR (inR fl' fb' 4).1.1 (inR fl' fb' 4).1.2 48).1.1 (inR (inR fl' fb' 4).1.1 (inR fl' fb' 4).1.2 48).1.2, ca) else (names, true)) = (RN, RC)) := hmo
    have HZ : Hid ((∀ q ∈ l', q.2.size ≤ 4000) ∧ ∀ q ∈ fl', q.2.size ≤ 4000) := ⟨zl', zf'⟩
    have HLL : Hid (l'.length + (if b' = true then 0 else 1) < measR wr xm) := by show _ < _; rw [HME0.out]; exact hls
    have HBN : Hid ((fb' = false → names.length + 60 + 60 * l'.length ≤ 3600) ∧ names.length + 60 * l'.length ≤ 3600) := by
      have h := HBD.out
      simp only [List.length_cons] at h
      refine ⟨fun hf => ?_, ?_⟩
      · rcases hl' with h2 | ⟨h2, h3, h4⟩
        · omega
        · rw [hfe h4] at hf; cases hf
      · rcases hl' with h2 | ⟨h2, h3, h4⟩ <;> omega
    generalize hpl : (p :: r).length = nl at *
    clear hIe hTe ze e2 zl' hls hl' hmo zf' hpa hfe HMO HBD HME0 hsz hpl
    go_wp2_with fail
    refine (G1.out wr _ _ _ _ _ HST.out).mono ?_
    rintro e a1 ⟨xe, rfl, h1⟩
    have A1 : Hid (Stk w a1 [Value.int .i64 ser, .string iss, .string sub, .int .i64 fr, .int .i64 ti, .int .i64 k0, v, .bool ca, .int .i64 0, .int .i64 0, .int .i64 0] v names [(xe, el, eb), (xm, l', b'), (x1, rl2, rb2)]) := h1
    clear h1 G1 HST
    go_wp2_with fail
    refine (G2.out a1 _ _ _ _ _ A1.out).mono ?_
    rintro e a2 ⟨rfl, h1⟩
    have A2 : Hid (Stk w a2 [Value.int .i64 ser, .string iss, .string sub, .int .i64 fr, .int .i64 ti, .int .i64 k0, v, .bool ca, .int .i64 0, .int .i64 0, .int .i64 0] v names [(xe, fl', fb'), (xm, l', b'), (x1, rl2, rb2)]) := h1
    clear G2 A1
    obtain ⟨ea, ec, hge, hgec, -⟩ := h1.rd.1.at
    have ue0 := rowFacts hge 0 _ rfl
    have ue1 := rowFacts hge 1 _ rfl
    simp only at ue0 ue1
    clear h1 hge hgec um0 um1
    by_cases hgo : fb' = false ∧ fl'.length = 1
    rotate_left
    · have HR3 : Hid (moreS l' b' (names, true) = (RN, RC)) := by have := HMP.out; rw [if_neg hgo] at this; exact this
      have HA3 : Hid (Stk w (a2.setCell ⟨w.heap.size + 1, 7, none⟩ (.bool true)) [Value.int .i64 ser, .string iss, .string sub, .int .i64 fr, .int .i64 ti, .int .i64 k0, v, .bool true, .int .i64 0, .int .i64 0, .int .i64 0] v names [(xm, l', b'), (x1, rl2, rb2)]) := (A2.out.put 7 _).pop
      have hca := rowFacts A2.out.c 7 _ rfl
      have hcf := rowFree A2.out.c 7
      have HRel : Hid (∃ (names : List ByteArray) (ca : Bool) (l : List (Int × ByteArray)) (b : Bool) (v : Value), Stk w (a2.setCell ⟨w.heap.size + 1, 7, none⟩ (.bool true)) [Value.int .i64 ser, .string iss, .string sub, .int .i64 fr, .int .i64 ti, .int .i64 k0, v, .bool ca, .int .i64 0, .int .i64 0, .int .i64 0] v names [(xm, l, b), (x1, rl2, rb2)] ∧ moreS l b (names, ca) = (RN, RC) ∧ names.length + 60 * l.length ≤ 3600 ∧ ∀ p ∈ l, p.2.size ≤ 4000) := ⟨names, true, l', b', v, HA3.out, HR3.out, HBN.out.2, HZ.out.1⟩
      have HM3 : Hid (measR (a2.setCell ⟨w.heap.size + 1, 7, none⟩ (.bool true)) xm < measR wr xm) := by
        obtain ⟨B1, h1⟩ := HA3.out.top
        show _ < _
        rw [measR_is h1]
        exact HLL.out
      have HC : Hid (fb' = true ∨ (fb' = false ∧ fl'.length ≠ 1)) := by
        show _ ∨ _
        cases fb' with
        | true => exact .inl rfl
        | false => exact .inr ⟨rfl, fun h => hgo ⟨rfl, h⟩⟩
      clear hgo HMP HA3 HR3
      rcases HC.out with rfl | ⟨rfl, hne⟩
      · clear HC A2 HBN
        go_wp2_with fail
        go_roundw
        case rel => exact HRel.out
        case measure => exact HM3.out
      · clear HC A2 HBN
        generalize fl'.length = fn at *
        have hne' : ¬ (fn : Int) = 1 := by omega
        have hne2 : ((fn : Int) == 1) = false := by simpa using hne'
        go_wp2_with fail
        go_roundw
        case rel => exact HRel.out
        case measure => exact HM3.out
    obtain ⟨rfl, hfl⟩ := hgo
    obtain ⟨⟨⟨tl, tb⟩, q12⟩, hIt⟩ : ∃ i, i = inR fl' false 4 := ⟨_, rfl⟩
    obtain ⟨⟨⟨hl, hb⟩, q13⟩, hIh⟩ : ∃ i, i = inR tl tb 48 := ⟨_, rfl⟩
    have hmp := HMP.out
    rw [if_pos ⟨rfl, hfl⟩] at hmp
    simp only [← hIt, ← hIh] at hmp
    have zt : ∀ p ∈ tl, p.2.size ≤ 4000 := by have := inR_4000 fl' false 4; rw [← hIt] at this; exact this
    have h60 : hl.length ≤ 60 := by
      have : hl = (allD (takeR tl tb 48).1).1 := by have := congrArg (fun x => x.1.1) hIh; exact this
      rw [this]; exact allD_len _
    have G3 : Hid (∀ V cs v ns S x, Stk w V cs v ns ((x, fl', false) :: S) → Calls Tryz.prog 105 #[.pointer (some ⟨x, 0, none⟩), .int .i64 4] V fun e w' => ∃ y, e = .returned (.pointer (some ⟨y, 0, none⟩)) ∧ Stk w w' cs v ns ((y, tl, tb) :: (x, q12.1, q12.2) :: S)) := fun V cs v ns S x hVV => by
      have := stkIn hVV 4 HZ.out.2
      rw [← hIt] at this
      exact this
    have G4 : Hid (∀ V cs v ns S x, Stk w V cs v ns ((x, tl, tb) :: S) → Calls Tryz.prog 105 #[.pointer (some ⟨x, 0, none⟩), .int .i64 48] V fun e w' => ∃ y, e = .returned (.pointer (some ⟨y, 0, none⟩)) ∧ Stk w w' cs v ns ((y, hl, hb) :: (x, q13.1, q13.2) :: S)) := fun V cs v ns S x hVV => by
      have := stkIn hVV 48 zt
      rw [← hIh] at this
      exact this
    obtain ⟨R', hR'⟩ : ∃ R', R' = names ++ hostsR hl hb := ⟨_, rfl⟩
    rw [← hR'] at hmp
    have HR' : Hid (R' = names ++ hostsR hl hb) := hR'
    have HRl : Hid (R'.length + 60 * l'.length ≤ 3600) := by
      have h1 := hostsR_len hl hb
      have h2 := HBN.out.1 rfl
      show _ ≤ _
      rw [hR', List.length_append]
      omega
    have HMQ : Hid (moreS l' b' (R', ca) = (RN, RC)) := hmp
    rw [hfl] at ue0
    clear hmp hIt hIh zt h60 hR' HMP HBN hfl
    go_wp2_with fail
    refine (G3.out a2 _ _ _ _ _ A2.out).mono ?_
    rintro e a3 ⟨xt, rfl, h1⟩
    have A3 : Hid (Stk w a3 [Value.int .i64 ser, .string iss, .string sub, .int .i64 fr, .int .i64 ti, .int .i64 k0, v, .bool ca, .int .i64 0, .int .i64 0, .int .i64 0] v names [(xt, tl, tb), (xe, q12.1, q12.2), (xm, l', b'), (x1, rl2, rb2)]) := h1
    clear h1 G3 A2 ue0 ue1
    go_wp2_with fail
    refine (G4.out a3 _ _ _ _ _ A3.out).mono ?_
    rintro e a4 ⟨xh, rfl, h1⟩
    have A4 : Hid (Stk w a4 [Value.int .i64 ser, .string iss, .string sub, .int .i64 fr, .int .i64 ti, .int .i64 k0, v, .bool ca, .int .i64 0, .int .i64 0, .int .i64 0] v names [(xh, hl, hb), (xm, l', b'), (x1, rl2, rb2)]) := h1.drop2.drop2
    clear h1 G4 A3
    obtain ⟨wo, hwo⟩ : ∃ y, y = wr := ⟨_, rfl⟩
    subst hwo
    go_wp2_with fail
    go_loopw [] (fun wv => ∃ (pre : List ByteArray) (l : List (Int × ByteArray)) (b : Bool) (v : Value), Stk w wv [Value.int .i64 ser, .string iss, .string sub, .int .i64 fr, .int .i64 ti, .int .i64 k0, v, .bool ca, .int .i64 0, .int .i64 0, .int .i64 0] v pre [(xh, l, b), (xm, l', b'), (x1, rl2, rb2)] ∧ R' = pre ++ hostsR l b) (fun wv => measR wv xh)
    case atStart => exact ⟨names, hl, hb, v, A4.out, HR'.out⟩
    case round =>
      obtain ⟨pre, l, b, v2, hst, hR2⟩ := hrel
      obtain ⟨ga, gc, hgm, hgc, -⟩ := hst.rd.1.at
      have um0 := rowFacts hgm 0 _ rfl
      have um1 := rowFacts hgm 1 _ rfl
      simp only at um0 um1
      obtain ⟨B0, hB0⟩ := hst.top
      have hme := measR_is hB0
      have HME0 : Hid (measR wr xh = l.length + if b = true then 0 else 1) := hme
      clear hB0 hme hgm hgc A4 HR'
      obtain ⟨va, vc, rfl, hvc⟩ := OwnS.form hst.o
      have HSI : Hid (Stk w wr [Value.int .i64 ser, .string iss, .string sub, .int .i64 fr, .int .i64 ti, .int .i64 k0, .slice va pre.length vc, .bool ca, .int .i64 0, .int .i64 0, .int .i64 0] (.slice va pre.length vc) pre [(xh, l, b), (xm, l', b'), (x1, rl2, rb2)]) := hst
      have HR2 : Hid (R' = pre ++ hostsR l b) := hR2
      clear hst hR2
      by_cases hgo : b = false ∧ 0 < l.length
      rotate_left
      · have HF : Hid (R' = pre) := by
          show _ = _
          rw [HR2.out]
          cases b with
          | true => rw [hostsR_bad, List.append_nil]
          | false =>
            cases l with
            | nil => rw [hostsR_nil, List.append_nil]
            | cons p r => exact absurd ⟨rfl, by simp⟩ hgo
        have HC : Hid (b = true ∨ (b = false ∧ l = [])) := by
          show _ ∨ _
          cases b with
          | true => exact .inl rfl
          | false =>
            cases l with
            | nil => exact .inr ⟨rfl, rfl⟩
            | cons p r => exact absurd ⟨rfl, by simp⟩ hgo
        have HRel : Hid (∃ (names : List ByteArray) (ca : Bool) (l : List (Int × ByteArray)) (b : Bool) (v : Value), Stk w wr [Value.int .i64 ser, .string iss, .string sub, .int .i64 fr, .int .i64 ti, .int .i64 k0, v, .bool ca, .int .i64 0, .int .i64 0, .int .i64 0] v names [(xm, l, b), (x1, rl2, rb2)] ∧ moreS l b (names, ca) = (RN, RC) ∧ names.length + 60 * l.length ≤ 3600 ∧ ∀ p ∈ l, p.2.size ≤ 4000) := by
          have h2 := HMQ.out
          have h3 := HRl.out
          rw [HF.out] at h2 h3
          exact ⟨pre, ca, l', b', _, HSI.out.pop, h2, h3, HZ.out.1⟩
        have HM3 : Hid (measR wr xm < measR wo xm) := by
          obtain ⟨B1, h1⟩ := HSI.out.pop.top
          show _ < _
          rw [measR_is h1]
          exact HLL.out
        clear hgo HR2 HME0 HF HSI HLL HMQ HRl HZ
        rcases HC.out with rfl | ⟨rfl, rfl⟩
        all_goals
          clear HC
          go_wp2_with fail
          go_roundw
          case rel => exact HRel.out
          case measure => exact HM3.out
      obtain ⟨rfl, hl0⟩ := hgo
      obtain ⟨p, r, rfl⟩ : ∃ p r, l = p :: r := by
        cases l with
        | nil => simp at hl0
        | cons p r => exact ⟨p, r, rfl⟩
      have hst := hostsR_step p r
      have hls := takeR_less p r 130
      obtain ⟨⟨tk, l2, b2⟩, hTK⟩ : ∃ i, i = takeR (p :: r) false 130 := ⟨_, rfl⟩
      have HTk : Hid (∀ V cs v ns S x, Stk w V cs v ns ((x, p :: r, false) :: S) → Calls Tryz.prog 109 #[.pointer (some ⟨x, 0, none⟩), .int .i64 130] V fun e w' => e = .returned (.string tk) ∧ Stk w w' cs v ns ((x, l2, b2) :: S)) := fun V cs v ns S x hVV => by
        have := stkTake hVV 130
        rw [← hTK] at this
        exact this
      rw [← hTK] at hst hls
      simp only at hst hls
      have HX : Hid (R' = (pre ++ [tk]) ++ hostsR l2 b2) := by show _ = _; rw [HR2.out, hst, List.append_assoc]; rfl
      have HLen : Hid (pre.length + 1 ≤ 3600) := by
        have h3 := congrArg List.length HX.out
        have h4 := HRl.out
        simp only [List.length_append, List.length_cons, List.length_nil] at h3
        show _ ≤ _
        omega
      have HME : Hid (l2.length + (if b2 = true then 0 else 1) < measR wr xh) := by rw [HME0.out]; exact hls
      generalize hpl : (p :: r).length = nl at *
      generalize hpp : pre.length = pl at *
      have HPl : Hid (pre.length = pl) := hpp
      have y1 := rowFacts HSI.out.c 6 _ rfl
      clear hst hls hTK HR2 HME0 hpl hpp HLL HMQ HRl HZ
      go_upto_region 23 with fail
      refine wp_region_held_drew (S := fun _ => True) (by kernel_rfl) trivial (fun hHeld => ?_)
      have y1' : wr.drew.cell? ⟨w.heap.size + 1, 6, none⟩ = some (.slice va pl vc) := y1
      refine wpAnyH_take (i := 0) (oi := ⟨some 111, _, _, _, _, _⟩) (v := ?_) rfl (by kernel_rfl) (by kernel_rfl) (by kernel_rfl) (fun _ _ _ h => h) (Or.inl ⟨by kernel_rfl, ?_⟩) (by assumption) ?_
      rotate_left
      · (intro w hSw; (try dsimp only at hSw); go_simp; try with_reducible rfl)
      (try simp only [Act.put, List.setIfInBounds_toArray, List.set_cons_zero, List.set_cons_succ])
      refine wpAnyH_take (i := 2) (oi := ⟨some 113, _, _, _, _, _⟩) (v := ?_) rfl (by kernel_rfl) (by kernel_rfl) (by kernel_rfl) (fun _ _ _ h => h) (Or.inl ⟨by kernel_rfl, ?_⟩) (by assumption) ?_
      rotate_left
      · (intro w hSw; (try dsimp only at hSw); go_simp; try with_reducible rfl)
      (try simp only [Act.put, List.setIfInBounds_toArray, List.set_cons_zero, List.set_cons_succ])
      refine wpAnyH_ready (rs := [1, 3]) (by kernel_rfl) (by simp) ?_
      refine AllReadyH.cons (o := ⟨some 112, _, _, _, _, _⟩) rfl (fun K hK => ?_) (AllReadyH.cons (o := ⟨some 114, _, _, _, _, _⟩) rfl (fun K hK => ?_) AllReadyH.nil)
      · go_simp
        refine hK.out _ _ trivial (fun hHeld => ?_)
        clear hK K
        (try simp only [Act.put, List.setIfInBounds_toArray, List.set_cons_zero, List.set_cons_succ])
        refine wpAnyH_ready (rs := [3]) (by kernel_rfl) (by simp) ?_
        refine AllReadyH.cons (o := ⟨some 114, _, _, _, _, _⟩) rfl (fun K hK => ?_) AllReadyH.nil
        go_simp
        refine (HTk.out wr.drew _ _ _ _ _ HSI.out.drew).mono ?_
        rintro e w4 ⟨rfl, f1⟩
        have S4 : Hid (Stk w w4 [Value.int .i64 ser, .string iss, .string sub, .int .i64 fr, .int .i64 ti, .int .i64 k0, .slice va pl vc, .bool ca, .int .i64 0, .int .i64 0, .int .i64 0] (.slice va pl vc) pre [(xh, l2, b2), (xm, l', b'), (x1, rl2, rb2)]) := f1
        clear f1
        refine hK.out _ _ trivial (fun hHeld => ?_)
        clear hK K
        (try simp only [Act.put, List.setIfInBounds_toArray, List.set_cons_zero, List.set_cons_succ])
        refine wpAnyH_ready (rs := [4]) (by kernel_rfl) (by simp) ?_
        refine AllReadyH.cons (o := ⟨some 115, _, _, _, _, _⟩) rfl (fun K hK => ?_) AllReadyH.nil
        go_simp
        refine hK.out _ _ trivial (fun hHeld => ?_)
        clear hK K
        (try simp only [Act.put, List.setIfInBounds_toArray, List.set_cons_zero, List.set_cons_succ])
        refine wpAnyH_ready (rs := [5]) (by kernel_rfl) (by simp) ?_
        refine AllReadyH.cons (o := ⟨some 116, _, _, _, _, _⟩) rfl (fun K hK => ?_) AllReadyH.nil
        rw [if_pos (by rfl)]
        have s5 : Stk w (w4.alloc (.cells #[.string tk] 9 (0, 0))) [Value.int .i64 ser, .string iss, .string sub, .int .i64 fr, .int .i64 ti, .int .i64 k0, .slice va pl vc, .bool ca, .int .i64 0, .int .i64 0, .int .i64 0] (.slice va pl vc) pre [(xh, l2, b2), (xm, l', b'), (x1, rl2, rb2)] := S4.out.keep ((Below.refl _ w4).alloc (Nat.le_refl _) _)
        have hO : (w4.alloc (.cells #[.string tk] 9 (0, 0))).ownsRow (w.heap.size + 2) 9 1 (.slice va pl vc) pl (sCells pre) := by
          have h2 := s5.o
          unfold OwnS at h2
          rw [HPl.out] at h2
          exact h2
        refine wp_append_new _ _ 23 rfl (w.heap.size + 2) 9 i0 (.string ⟨#[]⟩) 1 16 Tryz.underlying23 hi hz0 hz1 hz2 rfl (by decide) _ _ _ rfl hO ⟨w4.heap.size, 0, none⟩ 1 1 [.string tk] rfl rfl ?c1 ?c2 ?c3 ?c4 ?c5 ?_
        case c1 => exact cells_one (by simp)
        case c2 => intro u hu; simp at hu; subst hu; rfl
        case c3 => have := HLen.out; unfold maxLen; omega
        case c4 => have := HLen.out; omega
        case c5 => exact s5.size
        intro v' w6 hown' hgrow hnew
        have o6 : OwnS w6 (w.heap.size + 2) v' (pre ++ [tk]) := by
          show World.ownsRow _ _ _ _ _ _ _
          rw [List.length_append, HPl.out, sCells, List.map_append]
          exact hown'
        have s6 := s5.grow hgrow hnew o6
        obtain ⟨ua, uc, e6, _⟩ := OwnS.form o6
        obtain ⟨ul, hul⟩ : ∃ n, n = (pre ++ [tk]).length := ⟨_, rfl⟩
        rw [← hul] at e6
        subst e6
        have S6 : Hid (Stk w w6 [Value.int .i64 ser, .string iss, .string sub, .int .i64 fr, .int .i64 ti, .int .i64 k0, .slice va pl vc, .bool ca, .int .i64 0, .int .i64 0, .int .i64 0] (.slice ua ul uc) (pre ++ [tk]) [(xh, l2, b2), (xm, l', b'), (x1, rl2, rb2)]) := s6
        have y5 := rowFacts s6.c 6 _ rfl
        have z5 := rowFree s6.c 6
        clear hul o6 s6 s5 hO hown' hgrow hnew S4 y1 y1'
        refine hK.out _ _ trivial (fun hHeld => ?_)
        clear hK K
        (try simp only [Act.put, List.setIfInBounds_toArray, List.set_cons_zero, List.set_cons_succ])
        refine wpAnyH_take (i := 6) (oi := ⟨some 117, _, _, _, _, _⟩) (v := ?_) rfl (by kernel_rfl) (by kernel_rfl) (by kernel_rfl) (fun _ _ _ h => h) (Or.inl ⟨by kernel_rfl, ?_⟩) (by assumption) ?_
        rotate_left
        · (intro w hSw; (try dsimp only at hSw); go_simp; try with_reducible rfl)
        (try simp only [Act.put, List.setIfInBounds_toArray, List.set_cons_zero, List.set_cons_succ])
        refine wpAnyH_ready (rs := [7]) (by kernel_rfl) (by simp) ?_
        refine AllReadyH.cons (o := ⟨none, _, _, _, _, _⟩) rfl (fun K hK => ?_) AllReadyH.nil
        go_simp
        refine hK.out _ _ trivial (fun hHeld => ?_)
        clear hK K
        (try simp only [Act.put, List.setIfInBounds_toArray, List.set_cons_zero, List.set_cons_succ])
        refine wpAnyH_done (by kernel_rfl) ?_ _
        have S7 : Hid (Stk w (w6.setCell ⟨w.heap.size + 1, 6, none⟩ (.slice ua ul uc)) [Value.int .i64 ser, .string iss, .string sub, .int .i64 fr, .int .i64 ti, .int .i64 k0, .slice ua ul uc, .bool ca, .int .i64 0, .int .i64 0, .int .i64 0] (.slice ua ul uc) (pre ++ [tk]) [(xh, l2, b2), (xm, l', b'), (x1, rl2, rb2)]) := S6.out.put 6 _
        have HRel : Hid (∃ (pre : List ByteArray) (l : List (Int × ByteArray)) (b : Bool) (v : Value), Stk w (w6.setCell ⟨w.heap.size + 1, 6, none⟩ (.slice ua ul uc)) [Value.int .i64 ser, .string iss, .string sub, .int .i64 fr, .int .i64 ti, .int .i64 k0, v, .bool ca, .int .i64 0, .int .i64 0, .int .i64 0] v pre [(xh, l, b), (xm, l', b'), (x1, rl2, rb2)] ∧ R' = pre ++ hostsR l b) := ⟨pre ++ [tk], l2, b2, _, S7.out, HX.out⟩
        have HM2 : Hid (measR (w6.setCell ⟨w.heap.size + 1, 6, none⟩ (.slice ua ul uc)) xh < measR wr xh) := by
          obtain ⟨B1, h1⟩ := S7.out.top
          show _ < _
          rw [measR_is h1]
          exact HME.out
        clear S6 S7 y5 z5
        go_roundw
        case rel => exact ⟨_, _, _, _, _, _, _, _, _, _, _, _, _, _, _, _, _, _, _, _, HRel.out, rfl⟩
        case measure => exact HM2.out
      · go_simp
        refine (HTk.out wr.drew _ _ _ _ _ HSI.out.drew).mono ?_
        rintro e w4 ⟨rfl, f1⟩
        have S4 : Hid (Stk w w4 [Value.int .i64 ser, .string iss, .string sub, .int .i64 fr, .int .i64 ti, .int .i64 k0, .slice va pl vc, .bool ca, .int .i64 0, .int .i64 0, .int .i64 0] (.slice va pl vc) pre [(xh, l2, b2), (xm, l', b'), (x1, rl2, rb2)]) := f1
        clear f1
        refine hK.out _ _ trivial (fun hHeld => ?_)
        clear hK K
        (try simp only [Act.put, List.setIfInBounds_toArray, List.set_cons_zero, List.set_cons_succ])
        have y4 := rowFacts S4.out.c 6 _ rfl
        have y4b : (w4.alloc (.cells #[.string tk] 9 (0, 0))).cell? ⟨w.heap.size + 1, 6, none⟩ = some (.slice va pl vc) := by rw [World.cell?_alloc_some _ _ _ (by rw [y4]; rfl)]; exact y4
        refine wpAnyH_ready (rs := [1, 4]) (by kernel_rfl) (by simp) ?_
        refine AllReadyH.cons (o := ⟨some 112, _, _, _, _, _⟩) rfl (fun K hK => ?_) (AllReadyH.cons (o := ⟨some 115, _, _, _, _, _⟩) rfl (fun K hK => ?_) AllReadyH.nil)
        · go_simp
          refine hK.out _ _ trivial (fun hHeld => ?_)
          clear hK K
          (try simp only [Act.put, List.setIfInBounds_toArray, List.set_cons_zero, List.set_cons_succ])
          refine wpAnyH_ready (rs := [4]) (by kernel_rfl) (by simp) ?_
          refine AllReadyH.cons (o := ⟨some 115, _, _, _, _, _⟩) rfl (fun K hK => ?_) AllReadyH.nil
          go_simp
          refine hK.out _ _ trivial (fun hHeld => ?_)
          clear hK K
          (try simp only [Act.put, List.setIfInBounds_toArray, List.set_cons_zero, List.set_cons_succ])
          refine wpAnyH_ready (rs := [5]) (by kernel_rfl) (by simp) ?_
          refine AllReadyH.cons (o := ⟨some 116, _, _, _, _, _⟩) rfl (fun K hK => ?_) AllReadyH.nil
          rw [if_pos (by rfl)]
          have s5 : Stk w (w4.alloc (.cells #[.string tk] 9 (0, 0))) [Value.int .i64 ser, .string iss, .string sub, .int .i64 fr, .int .i64 ti, .int .i64 k0, .slice va pl vc, .bool ca, .int .i64 0, .int .i64 0, .int .i64 0] (.slice va pl vc) pre [(xh, l2, b2), (xm, l', b'), (x1, rl2, rb2)] := S4.out.keep ((Below.refl _ w4).alloc (Nat.le_refl _) _)
          have hO : (w4.alloc (.cells #[.string tk] 9 (0, 0))).ownsRow (w.heap.size + 2) 9 1 (.slice va pl vc) pl (sCells pre) := by
            have h2 := s5.o
            unfold OwnS at h2
            rw [HPl.out] at h2
            exact h2
          refine wp_append_new _ _ 23 rfl (w.heap.size + 2) 9 i0 (.string ⟨#[]⟩) 1 16 Tryz.underlying23 hi hz0 hz1 hz2 rfl (by decide) _ _ _ rfl hO ⟨w4.heap.size, 0, none⟩ 1 1 [.string tk] rfl rfl ?c1 ?c2 ?c3 ?c4 ?c5 ?_
          case c1 => exact cells_one (by simp)
          case c2 => intro u hu; simp at hu; subst hu; rfl
          case c3 => have := HLen.out; unfold maxLen; omega
          case c4 => have := HLen.out; omega
          case c5 => exact s5.size
          intro v' w6 hown' hgrow hnew
          have o6 : OwnS w6 (w.heap.size + 2) v' (pre ++ [tk]) := by
            show World.ownsRow _ _ _ _ _ _ _
            rw [List.length_append, HPl.out, sCells, List.map_append]
            exact hown'
          have s6 := s5.grow hgrow hnew o6
          obtain ⟨ua, uc, e6, _⟩ := OwnS.form o6
          obtain ⟨ul, hul⟩ : ∃ n, n = (pre ++ [tk]).length := ⟨_, rfl⟩
          rw [← hul] at e6
          subst e6
          have S6 : Hid (Stk w w6 [Value.int .i64 ser, .string iss, .string sub, .int .i64 fr, .int .i64 ti, .int .i64 k0, .slice va pl vc, .bool ca, .int .i64 0, .int .i64 0, .int .i64 0] (.slice ua ul uc) (pre ++ [tk]) [(xh, l2, b2), (xm, l', b'), (x1, rl2, rb2)]) := s6
          have y5 := rowFacts s6.c 6 _ rfl
          have z5 := rowFree s6.c 6
          clear hul o6 s6 s5 hO hown' hgrow hnew S4 y1 y1'
          refine hK.out _ _ trivial (fun hHeld => ?_)
          clear hK K
          (try simp only [Act.put, List.setIfInBounds_toArray, List.set_cons_zero, List.set_cons_succ])
          refine wpAnyH_take (i := 6) (oi := ⟨some 117, _, _, _, _, _⟩) (v := ?_) rfl (by kernel_rfl) (by kernel_rfl) (by kernel_rfl) (fun _ _ _ h => h) (Or.inl ⟨by kernel_rfl, ?_⟩) (by assumption) ?_
          rotate_left
          · (intro w hSw; (try dsimp only at hSw); go_simp; try with_reducible rfl)
          (try simp only [Act.put, List.setIfInBounds_toArray, List.set_cons_zero, List.set_cons_succ])
          refine wpAnyH_ready (rs := [7]) (by kernel_rfl) (by simp) ?_
          refine AllReadyH.cons (o := ⟨none, _, _, _, _, _⟩) rfl (fun K hK => ?_) AllReadyH.nil
          go_simp
          refine hK.out _ _ trivial (fun hHeld => ?_)
          clear hK K
          (try simp only [Act.put, List.setIfInBounds_toArray, List.set_cons_zero, List.set_cons_succ])
          refine wpAnyH_done (by kernel_rfl) ?_ _
          have S7 : Hid (Stk w (w6.setCell ⟨w.heap.size + 1, 6, none⟩ (.slice ua ul uc)) [Value.int .i64 ser, .string iss, .string sub, .int .i64 fr, .int .i64 ti, .int .i64 k0, .slice ua ul uc, .bool ca, .int .i64 0, .int .i64 0, .int .i64 0] (.slice ua ul uc) (pre ++ [tk]) [(xh, l2, b2), (xm, l', b'), (x1, rl2, rb2)]) := S6.out.put 6 _
          have HRel : Hid (∃ (pre : List ByteArray) (l : List (Int × ByteArray)) (b : Bool) (v : Value), Stk w (w6.setCell ⟨w.heap.size + 1, 6, none⟩ (.slice ua ul uc)) [Value.int .i64 ser, .string iss, .string sub, .int .i64 fr, .int .i64 ti, .int .i64 k0, v, .bool ca, .int .i64 0, .int .i64 0, .int .i64 0] v pre [(xh, l, b), (xm, l', b'), (x1, rl2, rb2)] ∧ R' = pre ++ hostsR l b) := ⟨pre ++ [tk], l2, b2, _, S7.out, HX.out⟩
          have HM2 : Hid (measR (w6.setCell ⟨w.heap.size + 1, 6, none⟩ (.slice ua ul uc)) xh < measR wr xh) := by
            obtain ⟨B1, h1⟩ := S7.out.top
            show _ < _
            rw [measR_is h1]
            exact HME.out
          clear S6 S7 y5 z5
          go_roundw
          case rel => exact ⟨_, _, _, _, _, _, _, _, _, _, _, _, _, _, _, _, _, _, _, _, HRel.out, rfl⟩
          case measure => exact HM2.out
        · go_simp
          refine hK.out _ _ trivial (fun hHeld => ?_)
          clear hK K
          (try simp only [Act.put, List.setIfInBounds_toArray, List.set_cons_zero, List.set_cons_succ])
          refine wpAnyH_ready (rs := [1]) (by kernel_rfl) (by simp) ?_
          refine AllReadyH.cons (o := ⟨some 112, _, _, _, _, _⟩) rfl (fun K hK => ?_) AllReadyH.nil
          go_simp
          refine hK.out _ _ trivial (fun hHeld => ?_)
          clear hK K
          (try simp only [Act.put, List.setIfInBounds_toArray, List.set_cons_zero, List.set_cons_succ])
          refine wpAnyH_ready (rs := [5]) (by kernel_rfl) (by simp) ?_
          refine AllReadyH.cons (o := ⟨some 116, _, _, _, _, _⟩) rfl (fun K hK => ?_) AllReadyH.nil
          rw [if_pos (by rfl)]
          have s5 : Stk w (w4.alloc (.cells #[.string tk] 9 (0, 0))) [Value.int .i64 ser, .string iss, .string sub, .int .i64 fr, .int .i64 ti, .int .i64 k0, .slice va pl vc, .bool ca, .int .i64 0, .int .i64 0, .int .i64 0] (.slice va pl vc) pre [(xh, l2, b2), (xm, l', b'), (x1, rl2, rb2)] := S4.out.keep ((Below.refl _ w4).alloc (Nat.le_refl _) _)
          have hO : (w4.alloc (.cells #[.string tk] 9 (0, 0))).ownsRow (w.heap.size + 2) 9 1 (.slice va pl vc) pl (sCells pre) := by
            have h2 := s5.o
            unfold OwnS at h2
            rw [HPl.out] at h2
            exact h2
          refine wp_append_new _ _ 23 rfl (w.heap.size + 2) 9 i0 (.string ⟨#[]⟩) 1 16 Tryz.underlying23 hi hz0 hz1 hz2 rfl (by decide) _ _ _ rfl hO ⟨w4.heap.size, 0, none⟩ 1 1 [.string tk] rfl rfl ?c1 ?c2 ?c3 ?c4 ?c5 ?_
          case c1 => exact cells_one (by simp)
          case c2 => intro u hu; simp at hu; subst hu; rfl
          case c3 => have := HLen.out; unfold maxLen; omega
          case c4 => have := HLen.out; omega
          case c5 => exact s5.size
          intro v' w6 hown' hgrow hnew
          have o6 : OwnS w6 (w.heap.size + 2) v' (pre ++ [tk]) := by
            show World.ownsRow _ _ _ _ _ _ _
            rw [List.length_append, HPl.out, sCells, List.map_append]
            exact hown'
          have s6 := s5.grow hgrow hnew o6
          obtain ⟨ua, uc, e6, _⟩ := OwnS.form o6
          obtain ⟨ul, hul⟩ : ∃ n, n = (pre ++ [tk]).length := ⟨_, rfl⟩
          rw [← hul] at e6
          subst e6
          have S6 : Hid (Stk w w6 [Value.int .i64 ser, .string iss, .string sub, .int .i64 fr, .int .i64 ti, .int .i64 k0, .slice va pl vc, .bool ca, .int .i64 0, .int .i64 0, .int .i64 0] (.slice ua ul uc) (pre ++ [tk]) [(xh, l2, b2), (xm, l', b'), (x1, rl2, rb2)]) := s6
          have y5 := rowFacts s6.c 6 _ rfl
          have z5 := rowFree s6.c 6
          clear hul o6 s6 s5 hO hown' hgrow hnew S4 y1 y1'
          refine hK.out _ _ trivial (fun hHeld => ?_)
          clear hK K
          (try simp only [Act.put, List.setIfInBounds_toArray, List.set_cons_zero, List.set_cons_succ])
          refine wpAnyH_take (i := 6) (oi := ⟨some 117, _, _, _, _, _⟩) (v := ?_) rfl (by kernel_rfl) (by kernel_rfl) (by kernel_rfl) (fun _ _ _ h => h) (Or.inl ⟨by kernel_rfl, ?_⟩) (by assumption) ?_
          rotate_left
          · (intro w hSw; (try dsimp only at hSw); go_simp; try with_reducible rfl)
          (try simp only [Act.put, List.setIfInBounds_toArray, List.set_cons_zero, List.set_cons_succ])
          refine wpAnyH_ready (rs := [7]) (by kernel_rfl) (by simp) ?_
          refine AllReadyH.cons (o := ⟨none, _, _, _, _, _⟩) rfl (fun K hK => ?_) AllReadyH.nil
          go_simp
          refine hK.out _ _ trivial (fun hHeld => ?_)
          clear hK K
          (try simp only [Act.put, List.setIfInBounds_toArray, List.set_cons_zero, List.set_cons_succ])
          refine wpAnyH_done (by kernel_rfl) ?_ _
          have S7 : Hid (Stk w (w6.setCell ⟨w.heap.size + 1, 6, none⟩ (.slice ua ul uc)) [Value.int .i64 ser, .string iss, .string sub, .int .i64 fr, .int .i64 ti, .int .i64 k0, .slice ua ul uc, .bool ca, .int .i64 0, .int .i64 0, .int .i64 0] (.slice ua ul uc) (pre ++ [tk]) [(xh, l2, b2), (xm, l', b'), (x1, rl2, rb2)]) := S6.out.put 6 _
          have HRel : Hid (∃ (pre : List ByteArray) (l : List (Int × ByteArray)) (b : Bool) (v : Value), Stk w (w6.setCell ⟨w.heap.size + 1, 6, none⟩ (.slice ua ul uc)) [Value.int .i64 ser, .string iss, .string sub, .int .i64 fr, .int .i64 ti, .int .i64 k0, v, .bool ca, .int .i64 0, .int .i64 0, .int .i64 0] v pre [(xh, l, b), (xm, l', b'), (x1, rl2, rb2)] ∧ R' = pre ++ hostsR l b) := ⟨pre ++ [tk], l2, b2, _, S7.out, HX.out⟩
          have HM2 : Hid (measR (w6.setCell ⟨w.heap.size + 1, 6, none⟩ (.slice ua ul uc)) xh < measR wr xh) := by
            obtain ⟨B1, h1⟩ := S7.out.top
            show _ < _
            rw [measR_is h1]
            exact HME.out
          clear S6 S7 y5 z5
          go_roundw
          case rel => exact ⟨_, _, _, _, _, _, _, _, _, _, _, _, _, _, _, _, _, _, _, _, HRel.out, rfl⟩
          case measure => exact HM2.out

end Go.Proofs.YtkhdjmjbdpmdnaaGreatDoor
