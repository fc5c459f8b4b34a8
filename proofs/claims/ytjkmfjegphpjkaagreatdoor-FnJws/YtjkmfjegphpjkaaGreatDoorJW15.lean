/- spec.l09Jws, walked. 'spec.DrawJwsRead', walked: some text. -/
import Derived.Test.YtjkmfjegphpjkaaGreatDoorJW10
import Derived.Test.YtjkmfjegphpjkaaGreatDoorJW13
import Derived.Test.YtjkmfjegphpjkaaGreatDoorJW12
import Derived.Test.YtjkmfjegphpjkaaGreatDoorJW14
import Derived.Test.YtjkmfjegphpjkaaGreatDoorJW04
import Derived.Deep.MidRow
import Derived.Deep.Cut
import Derived.Test.YtjkmfjegphpjkaaGreatDoorJW06
namespace Go.Proofs.YtjkmfjegphpjkaaGreatDoor
open Go.RowKit Go.Lib

theorem sizeJws : (Tryz.prog.info? 34).map (·.size) = some 7 := by kernel_rfl
set_option linter.unusedSimpArgs false in
set_option maxHeartbeats 8000000 in
set_option maxRecDepth 100000 in
theorem specJws (s : ByteArray) (w : World) (hs : s.size ≤ 20000) :
    Calls Tryz.prog 46 #[.string s] w fun e w' => e = .returned (readJS s).val ∧ Below w.heap.size w w' := by
  obtain ⟨w1, hw1⟩ : ∃ y, y = w.alloc (.cells #[.int .i64 0, .int .i64 0, .string ⟨#[]⟩, .string ⟨#[]⟩, .int .i64 0, .int .i64 0, .int .i64 0] 34 (0, 0)) := ⟨_, rfl⟩
  have hz : w1.heap.size = w.heap.size + 1 := by rw [hw1]; simp
  have hL1 : HasB w1 [(w.heap.size, [Value.int .i64 0, .int .i64 0, .string ⟨#[]⟩, .string ⟨#[]⟩, .int .i64 0, .int .i64 0, .int .i64 0], 34)] := by rw [hw1]; exact (HasB.nil w).alloc _ _
  have hB1 : Below w.heap.size w w1 := by rw [hw1]; exact (Below.refl _ w).alloc (Nat.le_refl _) _
  have L1 : Hid _ := hL1
  have B1 : Hid (Below w.heap.size w w1) := hB1
  have Z1 : Hid (w1.heap.size = w.heap.size + 1) := hz
  have HSp : Hid (∀ V, Calls Tryz.prog 72 #[.string s, .int .u8 46] V fun e w' => ∃ v, e = .returned v ∧ OwnS w' V.heap.size v (pcs s) ∧ Below V.heap.size V w') := fun V => specSplit s V hs
  have HJ : Hid (∀ a b c, pcs s = [a, b, c] → readJS s = parseJ (readLT a).1 (readLT b).1 (readLT c).1) := fun a b c h => by rw [readJS, h]
  have HJ0 : Hid ((pcs s).length ≠ 3 → readJS s = .zero) := fun h => by
    unfold readJS
    split
    · rename_i a b c e
      rw [e] at h
      exact absurd rfl h
    · rfl
  have HPz : Hid (∀ p ∈ pcs s, p.size ≤ 20000) := fun p hp => Nat.le_trans (pcs_size hp) hs
  clear hL1 hB1 hz hs
  generalize readJS s = RJ at *
  generalize pcs s = PC at *
  go_enter Tryz.func46, Tryz.ntmps46
  go_wp2_with fail
  rw [← hw1]
  clear hw1
  refine (HSp.out w1).mono ?_
  rintro e w2 ⟨v, rfl, o2, b2⟩
  have O2 : Hid (OwnS w2 w1.heap.size v PC) := o2
  have B2 : Hid (Below w.heap.size w w2) := B1.out.trans (b2.mono B1.out.size)
  have L2 : Hid (HasB w2 [(w.heap.size, [Value.int .i64 0, .int .i64 0, .string ⟨#[]⟩, .string ⟨#[]⟩, .int .i64 0, .int .i64 0, .int .i64 0], 34)]) := HasB.keep L1.out b2
  clear o2 b2 HSp L1 B1
  obtain ⟨va, vc, rfl, _⟩ := OwnS.form O2.out
  obtain ⟨w3, hw3⟩ : ∃ y, y = w2.alloc (.cells #[.int .i64 0, .int .i64 0, .string ⟨#[]⟩, .string ⟨#[]⟩, .int .i64 0, .int .i64 0, .int .i64 0] 34 (0, 0)) := ⟨_, rfl⟩
  have L3 : Hid (HasB w3 [(w2.heap.size, [Value.int .i64 0, .int .i64 0, .string ⟨#[]⟩, .string ⟨#[]⟩, .int .i64 0, .int .i64 0, .int .i64 0], 34), (w.heap.size, [Value.int .i64 0, .int .i64 0, .string ⟨#[]⟩, .string ⟨#[]⟩, .int .i64 0, .int .i64 0, .int .i64 0], 34)]) := by rw [hw3]; exact HasB.alloc L2.out _ _
  have B3 : Hid (Below w.heap.size w w3) := by rw [hw3]; exact B2.out.alloc B2.out.size _
  have O3 : Hid (OwnS w3 w1.heap.size (.slice va PC.length vc) PC) := by rw [hw3]; exact O2.out.keep ((Below.refl _ w2).alloc (Nat.le_refl _) _)
  have Z3 : Hid (w.heap.size < w2.heap.size) := L2.out.lt _ (List.mem_singleton_self _)
  clear O2 B2 L2
  by_cases h3 : PC.length = 3
  rotate_left
  · have HF : Hid (RJ = .zero) := HJ0.out h3
    have hn : ((PC.length : Int) != 3) = true := by rw [bne_iff_ne]; omega
    clear HJ HJ0 HPz
    go_upto_region 3 with fail
    rw [← hw3]
    clear hw3
    have hr := rangeRow L3.out.head
    have hR := L3.out.tail.head
    have hi' := sizeJws
    go_wp2_with (first | (refine wpList_load_mid rfl 34 _ rfl (w2.heap.size) 0 rfl [Value.int .i64 0, .int .i64 0, .string ⟨#[]⟩, .string ⟨#[]⟩, .int .i64 0, .int .i64 0, .int .i64 0] _ hr Tryz.underlying34 rfl hi' ?_) | (refine wpList_store_row rfl 34 _ _ rfl (w.heap.size) _ [Value.int .i64 0, .int .i64 0, .string ⟨#[]⟩, .string ⟨#[]⟩, .int .i64 0, .int .i64 0, .int .i64 0] 34 rfl rfl hR rfl hi' (by simp [Value.oneCell']) ?_))
    intro w8 hrow ho hs8 hbb
    have HROW : Hid _ := hrow
    have HB8 : Hid (Below w.heap.size w w8) := hbb _ _ (Nat.le_refl _) B3.out
    clear ho hs8 hbb hrow hr hR
    go_wp2
    refine bodyPost_ret (v := .agg [Value.int .i64 0, .int .i64 0, .string ⟨#[]⟩, .string ⟨#[]⟩, .int .i64 0, .int .i64 0, .int .i64 0].toArray) ?_ rfl ⟨by rw [HF.out]; rfl, HB8.out⟩
    have hl3 := run_loadVar_mid (P := Tryz.prog) _ (w.heap.size) 0 34 _ _ (rangeRow HROW.out) Tryz.underlying34 rfl hi'
    simp [results, Tryz.results46, asAddr, hl3]
  obtain ⟨pa, pb, pc, rfl⟩ := three_of h3
  have HF0 := HJ.out pa pb pc rfl
  have za : pa.size ≤ 20000 := HPz.out pa (by simp)
  have zb : pb.size ≤ 20000 := HPz.out pb (by simp)
  have zc : pc.size ≤ 20000 := HPz.out pc (by simp)
  have sa := readLT_size pa
  have sc := readLT_size pc
  obtain ⟨hd, hhd⟩ : ∃ x, x = (readLT pa).1 := ⟨_, rfl⟩
  obtain ⟨bd, hbd⟩ : ∃ x, x = (readLT pb).1 := ⟨_, rfl⟩
  obtain ⟨tl, htl⟩ : ∃ x, x = (readLT pc).1 := ⟨_, rfl⟩
  rw [← hhd] at sa
  rw [← htl] at sc
  rw [← hhd, ← hbd, ← htl] at HF0
  have CA : Hid (∀ V, Calls Tryz.prog 29 #[.string pa] V fun e w' => e = .returned (.tuple #[.string hd, .bool (readLT pa).2]) ∧ Below V.heap.size V w') := fun V => by rw [hhd]; exact specReadL pa V za
  have CB : Hid (∀ V, Calls Tryz.prog 29 #[.string pb] V fun e w' => e = .returned (.tuple #[.string bd, .bool (readLT pb).2]) ∧ Below V.heap.size V w') := fun V => by rw [hbd]; exact specReadL pb V zb
  have CC : Hid (∀ V, Calls Tryz.prog 29 #[.string pc] V fun e w' => e = .returned (.tuple #[.string tl, .bool (readLT pc).2]) ∧ Below V.heap.size V w') := fun V => by rw [htl]; exact specReadL pc V zc
  have GN : Hid (∀ V (x : ByteArray) (p : Int), x.size ≤ 40000 → 0 ≤ p ∧ p ≤ 40000 → Calls Tryz.prog 73 #[.string x, .int .i64 p] V fun e w' => e = .returned (numV (numAt x p)) ∧ Below V.heap.size V w') := fun V x p hx hp => specGet_any x p V (by unfold maxLen; omega) (by omega) (by omega)
  have GT : Hid (∀ V (x : ByteArray) (p : Int), x.size ≤ 40000 → 0 ≤ p ∧ p ≤ 40000 → Calls Tryz.prog 74 #[.string x, .int .i64 p] V fun e w' => e = .returned (textR x (numAt x p)) ∧ Below V.heap.size V w') := fun V x p hx hp => specGetText x p V (by unfold maxLen; omega) (by omega) (by omega)
  have zh : hd.size ≤ 40000 := by omega
  have zt : tl.size ≤ 40000 := by omega
  obtain ⟨⟨n1, a1, c1⟩, hn1⟩ : ∃ x, x = numAt hd 0 := ⟨_, rfl⟩
  obtain ⟨⟨n2, a2, c2⟩, hn2⟩ : ∃ x, x = numAt hd a1 := ⟨_, rfl⟩
  obtain ⟨⟨n4, a4, c4⟩, hn4⟩ : ∃ x, x = numAt tl 0 := ⟨_, rfl⟩
  obtain ⟨⟨n5, a5, c5⟩, hn5⟩ : ∃ x, x = numAt tl a4 := ⟨_, rfl⟩
  have b1 := numAt_small hd 0 zh
  have b2 := numAt_small hd a1 zh
  have b4 := numAt_small tl 0 zt
  rw [← hn1] at b1
  rw [← hn2] at b2
  rw [← hn4] at b4
  simp only at b1 b2 b4
  obtain ⟨ta, tc, ht⟩ := txtA_form hd a2
  obtain ⟨ur, hur⟩ : ∃ x, x = txtA hd a2 := ⟨_, rfl⟩
  have HF : Hid (RJ = ⟨n1, n2, ur, bd, n4, n5⟩) := by
    show _ = _
    rw [HF0, parseJ]
    simp only [← hn1, ← hn2, ← hn4, ← hn5, ← hur]
  have N1 : Hid (∀ V, Calls Tryz.prog 73 #[.string hd, .int .i64 0] V fun e w' => e = .returned (.agg #[.int .i64 n1, .int .i64 a1, .int .i64 c1]) ∧ Below V.heap.size V w') := fun V => by have := GN.out V hd 0 zh (by omega); rw [← hn1] at this; exact this
  have N2 : Hid (∀ V, Calls Tryz.prog 73 #[.string hd, .int .i64 a1] V fun e w' => e = .returned (.agg #[.int .i64 n2, .int .i64 a2, .int .i64 c2]) ∧ Below V.heap.size V w') := fun V => by have := GN.out V hd a1 zh b1; rw [← hn2] at this; exact this
  have N3 : Hid (∀ V, Calls Tryz.prog 74 #[.string hd, .int .i64 a2] V fun e w' => e = .returned (.agg #[.string ur, .int .i64 ta, .int .i64 tc]) ∧ Below V.heap.size V w') := fun V => by have := GT.out V hd a2 zh b2; rw [ht, ← hur] at this; exact this
  have N4 : Hid (∀ V, Calls Tryz.prog 73 #[.string tl, .int .i64 0] V fun e w' => e = .returned (.agg #[.int .i64 n4, .int .i64 a4, .int .i64 c4]) ∧ Below V.heap.size V w') := fun V => by have := GN.out V tl 0 zt (by omega); rw [← hn4] at this; exact this
  have N5 : Hid (∀ V, Calls Tryz.prog 73 #[.string tl, .int .i64 a4] V fun e w' => e = .returned (.agg #[.int .i64 n5, .int .i64 a5, .int .i64 c5]) ∧ Below V.heap.size V w') := fun V => by have := GN.out V tl a4 zt b4; rw [← hn5] at this; exact this
  obtain ⟨pg, rfl, hpg⟩ : ∃ g, va = some ⟨g, 0, none⟩ ∧ g < w3.heap.size := by
    have h := O3.out
    rcases h.2 with ⟨_, h⟩ | ⟨g, _, _, e, _, h2, _⟩
    · cases h
    · simp only [Value.slice.injEq] at e
      exact ⟨g, e.1, heap_lt h2⟩
  have hP0 : ∀ i z, ([pa, pb, pc] : List ByteArray)[i]? = some z → w3.cell? ⟨pg, i, none⟩ = some (.string z) := fun i z hi => by
    have h := World.ownsRow.cellAt O3.out i (by
      have : i < 3 := by
        rcases Nat.lt_or_ge i 3 with h | h
        · exact h
        · rw [List.getElem?_eq_none (by simpa using h)] at hi; cases hi
      simpa using this)
    rw [h, sCells, List.getElem?_map, hi]
    rfl
  have HP : Hid (∀ V, Below w3.heap.size w3 V → V.cell? ⟨pg, 0, none⟩ = some (.string pa) ∧ V.cell? ⟨pg, 1, none⟩ = some (.string pb) ∧ V.cell? ⟨pg, 2, none⟩ = some (.string pc)) := fun V hV => ⟨(hV.cell (p := ⟨pg, 0, none⟩) hpg).trans (hP0 0 pa rfl), (hV.cell (p := ⟨pg, 1, none⟩) hpg).trans (hP0 1 pb rfl), (hV.cell (p := ⟨pg, 2, none⟩) hpg).trans (hP0 2 pc rfl)⟩
  have hl3 : ((([pa, pb, pc] : List ByteArray).length : Int) != 3) = false := rfl
  have I3 : Hid (Below w3.heap.size w3 w3) := Below.refl _ _
  clear HJ HJ0 HPz HF0 za zb zc sa sc hhd hbd htl GN GT zh zt hn1 hn2 hn4 hn5 b1 b2 b4 ht hur hpg hP0 O3 h3
  obtain ⟨jb, hjb⟩ : ∃ b, b = w2.heap.size := ⟨_, rfl⟩
  rw [← hjb] at L3 Z3
  obtain ⟨p0, p1, p2⟩ := HP.out w3 I3.out
  go_upto_region 3 with fail
  rw [← hw3, ← hjb]
  clear hw3 hjb
  go_wp2_with fail
  refine (CA.out _).mono ?_
  rintro e w4 ⟨rfl, b'⟩
  have L4 : Hid (HasB w4 [(jb, [Value.int .i64 0, .int .i64 0, .string ⟨#[]⟩, .string ⟨#[]⟩, .int .i64 0, .int .i64 0, .int .i64 0], 34), (w.heap.size, [Value.int .i64 0, .int .i64 0, .string ⟨#[]⟩, .string ⟨#[]⟩, .int .i64 0, .int .i64 0, .int .i64 0], 34)]) := HasB.keep L3.out b'
  have B4 : Hid (Below w.heap.size w w4) := B3.out.trans (b'.mono B3.out.size)
  have I4 : Hid (Below w3.heap.size w3 w4) := I3.out.trans (b'.mono I3.out.size)
  clear b' CA L3 B3 I3
  obtain ⟨p0, p1, p2⟩ := HP.out w4 I4.out
  go_wp2_with fail
  refine (CB.out _).mono ?_
  rintro e w5 ⟨rfl, b'⟩
  have L5 : Hid (HasB w5 [(jb, [Value.int .i64 0, .int .i64 0, .string ⟨#[]⟩, .string ⟨#[]⟩, .int .i64 0, .int .i64 0, .int .i64 0], 34), (w.heap.size, [Value.int .i64 0, .int .i64 0, .string ⟨#[]⟩, .string ⟨#[]⟩, .int .i64 0, .int .i64 0, .int .i64 0], 34)]) := HasB.keep L4.out b'
  have B5 : Hid (Below w.heap.size w w5) := B4.out.trans (b'.mono B4.out.size)
  have I5 : Hid (Below w3.heap.size w3 w5) := I4.out.trans (b'.mono I4.out.size)
  clear b' CB L4 B4 I4
  obtain ⟨p0, p1, p2⟩ := HP.out w5 I5.out
  go_wp2_with fail
  refine (CC.out _).mono ?_
  rintro e w6 ⟨rfl, b'⟩
  have L6 : Hid (HasB w6 [(jb, [Value.int .i64 0, .int .i64 0, .string ⟨#[]⟩, .string ⟨#[]⟩, .int .i64 0, .int .i64 0, .int .i64 0], 34), (w.heap.size, [Value.int .i64 0, .int .i64 0, .string ⟨#[]⟩, .string ⟨#[]⟩, .int .i64 0, .int .i64 0, .int .i64 0], 34)]) := HasB.keep L5.out b'
  have B6 : Hid (Below w.heap.size w w6) := B5.out.trans (b'.mono B5.out.size)
  have I6 : Hid (Below w3.heap.size w3 w6) := I5.out.trans (b'.mono I5.out.size)
  clear b' CC L5 B5 I5
  clear HP I6
  go_wp2_with fail
  refine (N1.out _).mono ?_
  rintro e w7 ⟨rfl, b'⟩
  have L7 : Hid (HasB w7 [(jb, [Value.int .i64 0, .int .i64 0, .string ⟨#[]⟩, .string ⟨#[]⟩, .int .i64 0, .int .i64 0, .int .i64 0], 34), (w.heap.size, [Value.int .i64 0, .int .i64 0, .string ⟨#[]⟩, .string ⟨#[]⟩, .int .i64 0, .int .i64 0, .int .i64 0], 34)]) := HasB.keep L6.out b'
  have B7 : Hid (Below w.heap.size w w7) := B6.out.trans (b'.mono B6.out.size)
  clear b' N1 L6 B6
  obtain ⟨xb, hxb⟩ : ∃ b, b = w7.heap.size := ⟨_, rfl⟩
  obtain ⟨w8, hw8⟩ : ∃ y, y = w7.alloc (.cells #[.int .i64 n1, .int .i64 a1, .int .i64 c1] 82 (0, 0)) := ⟨_, rfl⟩
  have L8 : Hid (HasB w8 [(xb, [Value.int .i64 n1, .int .i64 a1, .int .i64 c1], 82), (jb, [Value.int .i64 0, .int .i64 0, .string ⟨#[]⟩, .string ⟨#[]⟩, .int .i64 0, .int .i64 0, .int .i64 0], 34), (w.heap.size, [Value.int .i64 0, .int .i64 0, .string ⟨#[]⟩, .string ⟨#[]⟩, .int .i64 0, .int .i64 0, .int .i64 0], 34)]) := by rw [hw8, hxb]; exact HasB.alloc L7.out _ _
  have B8 : Hid (Below w.heap.size w w8) := by rw [hw8]; exact B7.out.alloc B7.out.size _
  have Sxb : Hid (∀ p ∈ [(jb, [Value.int .i64 0, .int .i64 0, .string ⟨#[]⟩, .string ⟨#[]⟩, .int .i64 0, .int .i64 0, .int .i64 0], 34), (w.heap.size, [Value.int .i64 0, .int .i64 0, .string ⟨#[]⟩, .string ⟨#[]⟩, .int .i64 0, .int .i64 0, .int .i64 0], 34)], p.1 < xb) := by rw [hxb]; exact HasB.lt L7.out
  clear L7 B7
  go_upto_region 9 with fail
  rw [← hw8, ← hxb]
  clear hw8 hxb
  have f1 := rowFacts L8.out.head 1 _ rfl
  go_wp2_with fail
  refine (N2.out _).mono ?_
  rintro e w9 ⟨rfl, b'⟩
  have L9 : Hid (HasB w9 [(xb, [Value.int .i64 n1, .int .i64 a1, .int .i64 c1], 82), (jb, [Value.int .i64 0, .int .i64 0, .string ⟨#[]⟩, .string ⟨#[]⟩, .int .i64 0, .int .i64 0, .int .i64 0], 34), (w.heap.size, [Value.int .i64 0, .int .i64 0, .string ⟨#[]⟩, .string ⟨#[]⟩, .int .i64 0, .int .i64 0, .int .i64 0], 34)]) := HasB.keep L8.out b'
  have B9 : Hid (Below w.heap.size w w9) := B8.out.trans (b'.mono B8.out.size)
  clear b' N2 L8 B8
  clear f1
  obtain ⟨yb, hyb⟩ : ∃ b, b = w9.heap.size := ⟨_, rfl⟩
  obtain ⟨w10, hw10⟩ : ∃ y, y = w9.alloc (.cells #[.int .i64 n2, .int .i64 a2, .int .i64 c2] 82 (0, 0)) := ⟨_, rfl⟩
  have L10 : Hid (HasB w10 [(yb, [Value.int .i64 n2, .int .i64 a2, .int .i64 c2], 82), (xb, [Value.int .i64 n1, .int .i64 a1, .int .i64 c1], 82), (jb, [Value.int .i64 0, .int .i64 0, .string ⟨#[]⟩, .string ⟨#[]⟩, .int .i64 0, .int .i64 0, .int .i64 0], 34), (w.heap.size, [Value.int .i64 0, .int .i64 0, .string ⟨#[]⟩, .string ⟨#[]⟩, .int .i64 0, .int .i64 0, .int .i64 0], 34)]) := by rw [hw10, hyb]; exact HasB.alloc L9.out _ _
  have B10 : Hid (Below w.heap.size w w10) := by rw [hw10]; exact B9.out.alloc B9.out.size _
  have Syb : Hid (∀ p ∈ [(xb, [Value.int .i64 n1, .int .i64 a1, .int .i64 c1], 82), (jb, [Value.int .i64 0, .int .i64 0, .string ⟨#[]⟩, .string ⟨#[]⟩, .int .i64 0, .int .i64 0, .int .i64 0], 34), (w.heap.size, [Value.int .i64 0, .int .i64 0, .string ⟨#[]⟩, .string ⟨#[]⟩, .int .i64 0, .int .i64 0, .int .i64 0], 34)], p.1 < yb) := by rw [hyb]; exact HasB.lt L9.out
  clear L9 B9
  go_upto_region 10 with fail
  rw [← hw10, ← hyb]
  clear hw10 hyb
  have f1 := rowFacts L10.out.head 1 _ rfl
  go_wp2_with fail
  refine (N3.out _).mono ?_
  rintro e w11 ⟨rfl, b'⟩
  have L11 : Hid (HasB w11 [(yb, [Value.int .i64 n2, .int .i64 a2, .int .i64 c2], 82), (xb, [Value.int .i64 n1, .int .i64 a1, .int .i64 c1], 82), (jb, [Value.int .i64 0, .int .i64 0, .string ⟨#[]⟩, .string ⟨#[]⟩, .int .i64 0, .int .i64 0, .int .i64 0], 34), (w.heap.size, [Value.int .i64 0, .int .i64 0, .string ⟨#[]⟩, .string ⟨#[]⟩, .int .i64 0, .int .i64 0, .int .i64 0], 34)]) := HasB.keep L10.out b'
  have B11 : Hid (Below w.heap.size w w11) := B10.out.trans (b'.mono B10.out.size)
  clear b' N3 L10 B10
  clear f1
  obtain ⟨zb, hzb⟩ : ∃ b, b = w11.heap.size := ⟨_, rfl⟩
  obtain ⟨w12, hw12⟩ : ∃ y, y = w11.alloc (.cells #[.string ur, .int .i64 ta, .int .i64 tc] 26 (0, 0)) := ⟨_, rfl⟩
  have L12 : Hid (HasB w12 [(zb, [Value.string ur, .int .i64 ta, .int .i64 tc], 26), (yb, [Value.int .i64 n2, .int .i64 a2, .int .i64 c2], 82), (xb, [Value.int .i64 n1, .int .i64 a1, .int .i64 c1], 82), (jb, [Value.int .i64 0, .int .i64 0, .string ⟨#[]⟩, .string ⟨#[]⟩, .int .i64 0, .int .i64 0, .int .i64 0], 34), (w.heap.size, [Value.int .i64 0, .int .i64 0, .string ⟨#[]⟩, .string ⟨#[]⟩, .int .i64 0, .int .i64 0, .int .i64 0], 34)]) := by rw [hw12, hzb]; exact HasB.alloc L11.out _ _
  have B12 : Hid (Below w.heap.size w w12) := by rw [hw12]; exact B11.out.alloc B11.out.size _
  have Szb : Hid (∀ p ∈ [(yb, [Value.int .i64 n2, .int .i64 a2, .int .i64 c2], 82), (xb, [Value.int .i64 n1, .int .i64 a1, .int .i64 c1], 82), (jb, [Value.int .i64 0, .int .i64 0, .string ⟨#[]⟩, .string ⟨#[]⟩, .int .i64 0, .int .i64 0, .int .i64 0], 34), (w.heap.size, [Value.int .i64 0, .int .i64 0, .string ⟨#[]⟩, .string ⟨#[]⟩, .int .i64 0, .int .i64 0, .int .i64 0], 34)], p.1 < zb) := by rw [hzb]; exact HasB.lt L11.out
  clear L11 B11
  go_upto_region 11 with fail
  rw [← hw12, ← hzb]
  clear hw12 hzb
  have NJ : Hid (∀ p ∈ [(zb, [Value.string ur, .int .i64 ta, .int .i64 tc], 26), (yb, [Value.int .i64 n2, .int .i64 a2, .int .i64 c2], 82), (xb, [Value.int .i64 n1, .int .i64 a1, .int .i64 c1], 82), (w.heap.size, [Value.int .i64 0, .int .i64 0, .string ⟨#[]⟩, .string ⟨#[]⟩, .int .i64 0, .int .i64 0, .int .i64 0], 34)], p.1 ≠ jb) := by
    have h1 := Sxb.out (jb, _, _) (List.mem_cons_self ..)
    have h2 := Syb.out (xb, _, _) (List.mem_cons_self ..)
    have h3 := Szb.out (yb, _, _) (List.mem_cons_self ..)
    have h4 := Z3.out
    simp only at h1 h2 h3
    intro p hp
    simp only [List.mem_cons, List.not_mem_nil, or_false] at hp
    rcases hp with rfl | rfl | rfl | rfl <;> simp only <;> omega
  have f1 := rowFacts L12.out.tail.tail.head 0 _ rfl
  have f2 := rowFacts L12.out.tail.tail.tail.head 0 _ rfl
  have f3 := rowFree L12.out.tail.tail.tail.head 0
  have L12' : Hid (HasB w12 [(jb, [Value.int .i64 0, .int .i64 0, .string ⟨#[]⟩, .string ⟨#[]⟩, .int .i64 0, .int .i64 0, .int .i64 0], 34), (zb, [Value.string ur, .int .i64 ta, .int .i64 tc], 26), (yb, [Value.int .i64 n2, .int .i64 a2, .int .i64 c2], 82), (xb, [Value.int .i64 n1, .int .i64 a1, .int .i64 c1], 82), (w.heap.size, [Value.int .i64 0, .int .i64 0, .string ⟨#[]⟩, .string ⟨#[]⟩, .int .i64 0, .int .i64 0, .int .i64 0], 34)]) := fun p hp => L12.out p (by simp only [List.mem_cons] at hp ⊢; rcases hp with h | h | h | h | h | h <;> simp [h])
  obtain ⟨w13, hw13⟩ : ∃ y, y = w12.setCell ⟨jb, 0, none⟩ (.int .i64 n1) := ⟨_, rfl⟩
  have L13 : Hid (HasB w13 [(jb, [Value.int .i64 n1, .int .i64 0, .string ⟨#[]⟩, .string ⟨#[]⟩, .int .i64 0, .int .i64 0, .int .i64 0], 34), (zb, [Value.string ur, .int .i64 ta, .int .i64 tc], 26), (yb, [Value.int .i64 n2, .int .i64 a2, .int .i64 c2], 82), (xb, [Value.int .i64 n1, .int .i64 a1, .int .i64 c1], 82), (w.heap.size, [Value.int .i64 0, .int .i64 0, .string ⟨#[]⟩, .string ⟨#[]⟩, .int .i64 0, .int .i64 0, .int .i64 0], 34)]) := by rw [hw13]; exact HasB.put L12'.out NJ.out 0 _
  have B13 : Hid (Below w.heap.size w w13) := by rw [hw13]; exact B12.out.setCell (Nat.le_of_lt Z3.out) _
  clear L12 L12' B12
  go_upto_region 12 with fail
  rw [← hw13]
  clear hw13 f2 f3 f1
  have f1 := rowFacts L13.out.tail.tail.head 0 _ rfl
  have f2 := rowFacts L13.out.head 1 _ rfl
  have f3 := rowFree L13.out.head 1
  have L13' : Hid (HasB w13 [(jb, [Value.int .i64 n1, .int .i64 0, .string ⟨#[]⟩, .string ⟨#[]⟩, .int .i64 0, .int .i64 0, .int .i64 0], 34), (zb, [Value.string ur, .int .i64 ta, .int .i64 tc], 26), (yb, [Value.int .i64 n2, .int .i64 a2, .int .i64 c2], 82), (xb, [Value.int .i64 n1, .int .i64 a1, .int .i64 c1], 82), (w.heap.size, [Value.int .i64 0, .int .i64 0, .string ⟨#[]⟩, .string ⟨#[]⟩, .int .i64 0, .int .i64 0, .int .i64 0], 34)]) := fun p hp => L13.out p (by simp only [List.mem_cons] at hp ⊢; rcases hp with h | h | h | h | h | h <;> simp [h])
  obtain ⟨w14, hw14⟩ : ∃ y, y = w13.setCell ⟨jb, 1, none⟩ (.int .i64 n2) := ⟨_, rfl⟩
  have L14 : Hid (HasB w14 [(jb, [Value.int .i64 n1, .int .i64 n2, .string ⟨#[]⟩, .string ⟨#[]⟩, .int .i64 0, .int .i64 0, .int .i64 0], 34), (zb, [Value.string ur, .int .i64 ta, .int .i64 tc], 26), (yb, [Value.int .i64 n2, .int .i64 a2, .int .i64 c2], 82), (xb, [Value.int .i64 n1, .int .i64 a1, .int .i64 c1], 82), (w.heap.size, [Value.int .i64 0, .int .i64 0, .string ⟨#[]⟩, .string ⟨#[]⟩, .int .i64 0, .int .i64 0, .int .i64 0], 34)]) := by rw [hw14]; exact HasB.put L13'.out NJ.out 1 _
  have B14 : Hid (Below w.heap.size w w14) := by rw [hw14]; exact B13.out.setCell (Nat.le_of_lt Z3.out) _
  clear L13 L13' B13
  go_upto_region 13 with fail
  rw [← hw14]
  clear hw14 f2 f3 f1
  have f1 := rowFacts L14.out.tail.head 0 _ rfl
  have f2 := rowFacts L14.out.head 2 _ rfl
  have f3 := rowFree L14.out.head 2
  have L14' : Hid (HasB w14 [(jb, [Value.int .i64 n1, .int .i64 n2, .string ⟨#[]⟩, .string ⟨#[]⟩, .int .i64 0, .int .i64 0, .int .i64 0], 34), (zb, [Value.string ur, .int .i64 ta, .int .i64 tc], 26), (yb, [Value.int .i64 n2, .int .i64 a2, .int .i64 c2], 82), (xb, [Value.int .i64 n1, .int .i64 a1, .int .i64 c1], 82), (w.heap.size, [Value.int .i64 0, .int .i64 0, .string ⟨#[]⟩, .string ⟨#[]⟩, .int .i64 0, .int .i64 0, .int .i64 0], 34)]) := fun p hp => L14.out p (by simp only [List.mem_cons] at hp ⊢; rcases hp with h | h | h | h | h | h <;> simp [h])
  obtain ⟨w15, hw15⟩ : ∃ y, y = w14.setCell ⟨jb, 2, none⟩ (.string ur) := ⟨_, rfl⟩
  have L15 : Hid (HasB w15 [(jb, [Value.int .i64 n1, .int .i64 n2, .string ur, .string ⟨#[]⟩, .int .i64 0, .int .i64 0, .int .i64 0], 34), (zb, [Value.string ur, .int .i64 ta, .int .i64 tc], 26), (yb, [Value.int .i64 n2, .int .i64 a2, .int .i64 c2], 82), (xb, [Value.int .i64 n1, .int .i64 a1, .int .i64 c1], 82), (w.heap.size, [Value.int .i64 0, .int .i64 0, .string ⟨#[]⟩, .string ⟨#[]⟩, .int .i64 0, .int .i64 0, .int .i64 0], 34)]) := by rw [hw15]; exact HasB.put L14'.out NJ.out 2 _
  have B15 : Hid (Below w.heap.size w w15) := by rw [hw15]; exact B14.out.setCell (Nat.le_of_lt Z3.out) _
  clear L14 L14' B14
  go_upto_region 14 with fail
  rw [← hw15]
  clear hw15 f2 f3 f1
  have f2 := rowFacts L15.out.head 3 _ rfl
  have f3 := rowFree L15.out.head 3
  have L15' : Hid (HasB w15 [(jb, [Value.int .i64 n1, .int .i64 n2, .string ur, .string ⟨#[]⟩, .int .i64 0, .int .i64 0, .int .i64 0], 34), (zb, [Value.string ur, .int .i64 ta, .int .i64 tc], 26), (yb, [Value.int .i64 n2, .int .i64 a2, .int .i64 c2], 82), (xb, [Value.int .i64 n1, .int .i64 a1, .int .i64 c1], 82), (w.heap.size, [Value.int .i64 0, .int .i64 0, .string ⟨#[]⟩, .string ⟨#[]⟩, .int .i64 0, .int .i64 0, .int .i64 0], 34)]) := fun p hp => L15.out p (by simp only [List.mem_cons] at hp ⊢; rcases hp with h | h | h | h | h | h <;> simp [h])
  obtain ⟨w16, hw16⟩ : ∃ y, y = w15.setCell ⟨jb, 3, none⟩ (.string bd) := ⟨_, rfl⟩
  have L16 : Hid (HasB w16 [(jb, [Value.int .i64 n1, .int .i64 n2, .string ur, .string bd, .int .i64 0, .int .i64 0, .int .i64 0], 34), (zb, [Value.string ur, .int .i64 ta, .int .i64 tc], 26), (yb, [Value.int .i64 n2, .int .i64 a2, .int .i64 c2], 82), (xb, [Value.int .i64 n1, .int .i64 a1, .int .i64 c1], 82), (w.heap.size, [Value.int .i64 0, .int .i64 0, .string ⟨#[]⟩, .string ⟨#[]⟩, .int .i64 0, .int .i64 0, .int .i64 0], 34)]) := by rw [hw16]; exact HasB.put L15'.out NJ.out 3 _
  have B16 : Hid (Below w.heap.size w w16) := by rw [hw16]; exact B15.out.setCell (Nat.le_of_lt Z3.out) _
  clear L15 L15' B15
  go_upto_region 15 with fail
  rw [← hw16]
  clear hw16 f2 f3
  clear NJ
  go_wp2_with fail
  refine (N4.out _).mono ?_
  rintro e w17 ⟨rfl, b'⟩
  have L17 : Hid (HasB w17 [(jb, [Value.int .i64 n1, .int .i64 n2, .string ur, .string bd, .int .i64 0, .int .i64 0, .int .i64 0], 34), (zb, [Value.string ur, .int .i64 ta, .int .i64 tc], 26), (yb, [Value.int .i64 n2, .int .i64 a2, .int .i64 c2], 82), (xb, [Value.int .i64 n1, .int .i64 a1, .int .i64 c1], 82), (w.heap.size, [Value.int .i64 0, .int .i64 0, .string ⟨#[]⟩, .string ⟨#[]⟩, .int .i64 0, .int .i64 0, .int .i64 0], 34)]) := HasB.keep L16.out b'
  have B17 : Hid (Below w.heap.size w w17) := B16.out.trans (b'.mono B16.out.size)
  clear b' N4 L16 B16
  obtain ⟨eb, heb⟩ : ∃ b, b = w17.heap.size := ⟨_, rfl⟩
  obtain ⟨w18, hw18⟩ : ∃ y, y = w17.alloc (.cells #[.int .i64 n4, .int .i64 a4, .int .i64 c4] 82 (0, 0)) := ⟨_, rfl⟩
  have L18 : Hid (HasB w18 [(eb, [Value.int .i64 n4, .int .i64 a4, .int .i64 c4], 82), (jb, [Value.int .i64 n1, .int .i64 n2, .string ur, .string bd, .int .i64 0, .int .i64 0, .int .i64 0], 34), (zb, [Value.string ur, .int .i64 ta, .int .i64 tc], 26), (yb, [Value.int .i64 n2, .int .i64 a2, .int .i64 c2], 82), (xb, [Value.int .i64 n1, .int .i64 a1, .int .i64 c1], 82), (w.heap.size, [Value.int .i64 0, .int .i64 0, .string ⟨#[]⟩, .string ⟨#[]⟩, .int .i64 0, .int .i64 0, .int .i64 0], 34)]) := by rw [hw18, heb]; exact HasB.alloc L17.out _ _
  have B18 : Hid (Below w.heap.size w w18) := by rw [hw18]; exact B17.out.alloc B17.out.size _
  have Seb : Hid (∀ p ∈ [(jb, [Value.int .i64 n1, .int .i64 n2, .string ur, .string bd, .int .i64 0, .int .i64 0, .int .i64 0], 34), (zb, [Value.string ur, .int .i64 ta, .int .i64 tc], 26), (yb, [Value.int .i64 n2, .int .i64 a2, .int .i64 c2], 82), (xb, [Value.int .i64 n1, .int .i64 a1, .int .i64 c1], 82), (w.heap.size, [Value.int .i64 0, .int .i64 0, .string ⟨#[]⟩, .string ⟨#[]⟩, .int .i64 0, .int .i64 0, .int .i64 0], 34)], p.1 < eb) := by rw [heb]; exact HasB.lt L17.out
  clear L17 B17
  go_upto_region 16 with fail
  rw [← hw18, ← heb]
  clear hw18 heb
  have f1 := rowFacts L18.out.head 1 _ rfl
  go_wp2_with fail
  refine (N5.out _).mono ?_
  rintro e w19 ⟨rfl, b'⟩
  have L19 : Hid (HasB w19 [(eb, [Value.int .i64 n4, .int .i64 a4, .int .i64 c4], 82), (jb, [Value.int .i64 n1, .int .i64 n2, .string ur, .string bd, .int .i64 0, .int .i64 0, .int .i64 0], 34), (zb, [Value.string ur, .int .i64 ta, .int .i64 tc], 26), (yb, [Value.int .i64 n2, .int .i64 a2, .int .i64 c2], 82), (xb, [Value.int .i64 n1, .int .i64 a1, .int .i64 c1], 82), (w.heap.size, [Value.int .i64 0, .int .i64 0, .string ⟨#[]⟩, .string ⟨#[]⟩, .int .i64 0, .int .i64 0, .int .i64 0], 34)]) := HasB.keep L18.out b'
  have B19 : Hid (Below w.heap.size w w19) := B18.out.trans (b'.mono B18.out.size)
  clear b' N5 L18 B18
  clear f1
  obtain ⟨sb, hsb⟩ : ∃ b, b = w19.heap.size := ⟨_, rfl⟩
  obtain ⟨w20, hw20⟩ : ∃ y, y = w19.alloc (.cells #[.int .i64 n5, .int .i64 a5, .int .i64 c5] 82 (0, 0)) := ⟨_, rfl⟩
  have L20 : Hid (HasB w20 [(sb, [Value.int .i64 n5, .int .i64 a5, .int .i64 c5], 82), (eb, [Value.int .i64 n4, .int .i64 a4, .int .i64 c4], 82), (jb, [Value.int .i64 n1, .int .i64 n2, .string ur, .string bd, .int .i64 0, .int .i64 0, .int .i64 0], 34), (zb, [Value.string ur, .int .i64 ta, .int .i64 tc], 26), (yb, [Value.int .i64 n2, .int .i64 a2, .int .i64 c2], 82), (xb, [Value.int .i64 n1, .int .i64 a1, .int .i64 c1], 82), (w.heap.size, [Value.int .i64 0, .int .i64 0, .string ⟨#[]⟩, .string ⟨#[]⟩, .int .i64 0, .int .i64 0, .int .i64 0], 34)]) := by rw [hw20, hsb]; exact HasB.alloc L19.out _ _
  have B20 : Hid (Below w.heap.size w w20) := by rw [hw20]; exact B19.out.alloc B19.out.size _
  have Ssb : Hid (∀ p ∈ [(eb, [Value.int .i64 n4, .int .i64 a4, .int .i64 c4], 82), (jb, [Value.int .i64 n1, .int .i64 n2, .string ur, .string bd, .int .i64 0, .int .i64 0, .int .i64 0], 34), (zb, [Value.string ur, .int .i64 ta, .int .i64 tc], 26), (yb, [Value.int .i64 n2, .int .i64 a2, .int .i64 c2], 82), (xb, [Value.int .i64 n1, .int .i64 a1, .int .i64 c1], 82), (w.heap.size, [Value.int .i64 0, .int .i64 0, .string ⟨#[]⟩, .string ⟨#[]⟩, .int .i64 0, .int .i64 0, .int .i64 0], 34)], p.1 < sb) := by rw [hsb]; exact HasB.lt L19.out
  clear L19 B19
  go_upto_region 17 with fail
  rw [← hw20, ← hsb]
  clear hw20 hsb
  have f0 := rowFacts L20.out.tail.tail.head 0 _ rfl
  have f1 := rowFacts L20.out.tail.head 0 _ rfl
  have f2 := rowFacts L20.out.head 0 _ rfl
  have g4 := rowFacts L20.out.tail.tail.head 4 _ rfl
  have g5 := rowFacts L20.out.tail.tail.head 5 _ rfl
  have g6 := rowFacts L20.out.tail.tail.head 6 _ rfl
  have q4 := rowFree L20.out.tail.tail.head 4
  have q5 := rowFree L20.out.tail.tail.head 5
  have q6 := rowFree L20.out.tail.tail.head 6
  have R0 := L20.out.tail.tail.tail.tail.tail.tail.head
  have R1 := L20.out.tail.tail.head
  obtain ⟨w21, hw21⟩ : ∃ y, y = (((w20.setCell ⟨jb, 4, none⟩ (.int .i64 n1)).setCell ⟨jb, 5, none⟩ (.int .i64 n4)).setCell ⟨jb, 6, none⟩ (.int .i64 n5)) := ⟨_, rfl⟩
  have hr1 : w21.heap[jb]? = some (.cells [Value.int .i64 n1, .int .i64 n2, .string ur, .string bd, .int .i64 n1, .int .i64 n4, .int .i64 n5].toArray 34 (0, 0)) := by rw [hw21]; exact rowSet (i := 6) _ (rowSet (i := 5) _ (rowSet (i := 4) _ R1))
  have hne : w.heap.size ≠ jb := by have := Z3.out; omega
  have hr0 : w21.heap[w.heap.size]? = some (.cells [Value.int .i64 0, .int .i64 0, .string ⟨#[]⟩, .string ⟨#[]⟩, .int .i64 0, .int .i64 0, .int .i64 0].toArray 34 (0, 0)) := by rw [hw21, heap_setCell_other _ _ _ _ hne, heap_setCell_other _ _ _ _ hne, heap_setCell_other _ _ _ _ hne]; exact R0
  have B21 : Hid (Below w.heap.size w w21) := by rw [hw21]; exact ((B20.out.setCell (Nat.le_of_lt Z3.out) _).setCell (Nat.le_of_lt Z3.out) _).setCell (Nat.le_of_lt Z3.out) _
  have R1' : Hid _ := hr1
  have R0' : Hid _ := hr0
  clear R0 R1 hr1 hr0 L20 B20 hne
  go_upto_region 18 with fail
  rw [← hw21]
  clear hw21 f0 f1 f2 g4 g5 g6 q4 q5 q6
  obtain ⟨C, hC⟩ : ∃ C, C = [Value.int .i64 n1, .int .i64 n2, .string ur, .string bd, .int .i64 n1, .int .i64 n4, .int .i64 n5] := ⟨_, rfl⟩
  have hr := rangeRow R1'.out
  rw [← hC] at hr
  have hR := R0'.out
  have h1 : ∀ v ∈ C, v.oneCell' = true := by rw [hC]; simp [Value.oneCell']
  have hi' : (Tryz.prog.info? 34).map (·.size) = some C.length := by rw [hC]; exact sizeJws
  have HLn : Hid ([Value.int .i64 0, .int .i64 0, .string ⟨#[]⟩, .string ⟨#[]⟩, .int .i64 0, .int .i64 0, .int .i64 0].length = C.length) := by rw [hC]; rfl
  have HCC : Hid (C = [Value.int .i64 n1, .int .i64 n2, .string ur, .string bd, .int .i64 n1, .int .i64 n4, .int .i64 n5]) := hC
  clear hC
  go_wp2_with (first | (refine wpList_load_mid rfl 34 _ rfl jb 0 rfl C _ hr Tryz.underlying34 rfl hi' ?_) | (refine wpList_store_row rfl 34 _ _ rfl (w.heap.size) _ C 34 rfl rfl hR HLn.out hi' h1 ?_))
  intro w80 hrow ho hs8 hbb
  have HROW : Hid _ := hrow
  have HB8 : Hid (Below w.heap.size w w80) := hbb _ _ (Nat.le_refl _) B21.out
  clear ho hs8 hbb hrow hr hR h1
  go_wp2
  refine bodyPost_ret (v := .agg C.toArray) ?_ rfl ⟨by rw [HF.out, HCC.out]; rfl, HB8.out⟩
  have hl3 := run_loadVar_mid (P := Tryz.prog) _ (w.heap.size) 0 34 _ _ (rangeRow HROW.out) Tryz.underlying34 rfl hi'
  simp [results, Tryz.results46, asAddr, hl3]
end Go.Proofs.YtjkmfjegphpjkaaGreatDoor
namespace Go.Proofs.YtjkmfjegphpjkaaGreatDoor
open Go.RowKit

set_option maxRecDepth 100000 in
set_option maxHeartbeats 4000000 in
theorem drawJwsRead (a : Option Addr) (len cap : Nat) (w : World) (hlen : len ≤ 1048576) (hc : CodeAt a len w) (hblk : ∀ x, 0 < len → a = some x → x.block < w.heap.size) :
    Calls Tryz.prog 16 #[.slice a len cap] w fun e w' => UpT 10000 e ∧ Below w.heap.size w w' := by
  have HC : Hid (CodeAt a len w) := hc
  have HBk : Hid (∀ x, 0 < len → a = some x → x.block < w.heap.size) := hblk
  clear hc hblk
  go_enter Tryz.func16, Tryz.ntmps16
  go_wp2_with fail
  refine (ss_source a len cap _ hlen HC.out HBk.out).mono ?_
  rintro e w1 ⟨rfl, h1⟩
  have H1 : Hid (SS w a len cap w1) := h1
  clear h1
  go_wp2_with fail
  refine (ss_n 3 (by omega) H1.out).mono ?_
  rintro e w2 ⟨r, rfl, hr, h2, _⟩
  have H2 : Hid (SS w a len cap w2) := h2
  obtain ⟨x, hx, hxw⟩ : ∃ x : Int, (-9223372036854775808 ≤ x ∧ x ≤ 9223372036854775807) ∧ IntKind.i64.wrap (5 + (r : Int)) = x := ⟨_, by rw [IntKind.wrap_i64]; omega, rfl⟩
  clear h2 hr H1
  go_wp2_with fail
  refine (ss_n 30 (by omega) H2.out).mono ?_
  rintro e w3 ⟨n, rfl, hn, h3, _⟩
  have H3 : Hid (SS w a len cap w3) := h3
  have hn' : n ≤ 30 := by omega
  clear h3 hn H2
  go_wp2_with fail
  refine (ss_pick 2 _ 7 _ [⟨#[97, 99, 99, 111, 117, 110, 116]⟩, ⟨#[111, 114, 100, 101, 114]⟩] H3.out rfl (by omega) (by omega) (by decide)).mono ?_
  rintro e w4 ⟨⟨url, hurl, rfl⟩, h4⟩
  have H4 : Hid (SS w a len cap w4) := h4
  clear h4 H3
  go_wp2_with fail
  refine (ss_n 9 (by omega) H4.out).mono ?_
  rintro e w5 ⟨q, rfl, hq, h5, _⟩
  have H5 : Hid (SS w a len cap w5) := h5
  have hq' : q ≤ 9 := by omega
  clear h5 hq H4
  go_wp2_with fail
  refine (ss_bytes q (by omega) H5.out).mono ?_
  rintro e w6 ⟨⟨body, hbody, rfl⟩, h6⟩
  have H6 : Hid (SS w a len cap w6) := h6
  clear h6 H5
  go_wp2_with fail
  refine (specJwsSign x (n : Int) url body _ hx.1 hx.2 (by omega) (by omega) (by omega) (by omega)).mono ?_
  rintro e w7 ⟨rfl, h7⟩
  have H7 : Hid (SS w a len cap w7) := H6.out.keep h7
  have hcase := jSign_read x (n : Int) url body
  generalize jSign x (n : Int) url body = t at *
  have HCase : Hid _ := hcase
  have hts : t.size ≤ 5000 := by
    rcases hcase with rfl | ⟨_, _, _, h, _⟩
    · exact Nat.zero_le _
    · exact h
  clear h7 H6 hcase
  go_wp2_with fail
  refine (ss_n 4 (by omega) H7.out).mono ?_
  rintro e w8 ⟨p, rfl, hp, h8, _⟩
  have H8 : Hid (SS w a len cap w8) := h8
  have hp' : p = 0 ∨ p = 1 ∨ 1 < p := by omega
  have B8 : Hid (Below w.heap.size w w8) := h8.2.1
  clear h8 hp
  rcases hp' with rfl | rfl | hp'
  · go_wp2_with fail
    refine (ss_spoil t (by omega) H8.out).mono ?_
    rintro e w9 ⟨⟨v, hv, rfl⟩, h9⟩
    have B9 : Hid (Below w.heap.size w w9) := h9.2.1
    clear h9
    go_wp2
    go_ret
    exact ⟨⟨v, by omega, rfl⟩, B9.out⟩
  · go_wp2_with fail
    refine (specJws t _ (by omega)).mono ?_
    rintro e w9 ⟨rfl, h9⟩
    have H9 : Hid (SS w a len cap w9) := H8.out.keep h9
    obtain ⟨key, nonce, url2, body2, se, ss, hj, hk, hno, hu2, hb2, hse, hss⟩ : ∃ (key nonce : Int) (url2 body2 : ByteArray) (se ss : Int), (readJS t).val = jV key nonce url2 body2 key se ss ∧ (-9223372036854775808 ≤ key ∧ key ≤ 9223372036854775807) ∧ (-9223372036854775808 ≤ nonce ∧ nonce ≤ 9223372036854775807) ∧ url2.size ≤ 40 ∧ body2.size ≤ 2000 ∧ (-9223372036854775808 ≤ se ∧ se ≤ 9223372036854775807) ∧ (-9223372036854775808 ≤ ss ∧ ss ≤ 9223372036854775807) := by
      rcases HCase.out with h | ⟨e, s, _, _, _, ht, h1, h2, h3, h4, h5⟩
      · refine ⟨0, 0, ⟨#[]⟩, ⟨#[]⟩, 0, 0, ?_, by decide, by decide, by decide, by decide, by decide, by decide⟩
        rw [h]
        rfl
      · have hrd := readJS_back body h3 (show -9223372036854775808 ≤ (n : Int) ∧ (n : Int) ≤ 9223372036854775807 by omega) h4 h5 (url := url) (by omega)
        rw [← ht] at hrd
        refine ⟨pubA x, n, url, body, e, s, ?_, h3, by omega, h1, h2, h4, h5⟩
        rw [hrd]
        rfl
    rw [hj]
    unfold jV
    clear h9 hj H8
    obtain ⟨no2, hno2, hw2⟩ : ∃ no2 : Int, (-9223372036854775808 ≤ no2 ∧ no2 ≤ 9223372036854775807) ∧ IntKind.i64.wrap (nonce + 1) = no2 := ⟨_, by rw [IntKind.wrap_i64]; omega, rfl⟩
    have HT : Hid (∀ V : World, Calls Tryz.prog 41 #[.agg #[.int .i64 key, .int .i64 no2, .string url2, .string body2, .int .i64 key, .int .i64 se, .int .i64 ss]] V fun r w' => (∃ v : ByteArray, v.size ≤ 5000 ∧ r = .returned (.string v)) ∧ Below V.heap.size V w') := fun V => by
      refine (specText key no2 url2 body2 key se ss V hk hno2 hu2 hb2 hse hss).mono ?_
      rintro r w' ⟨rfl, hb⟩
      have hz := (jText_size key no2 url2 body2 se ss).2
      exact ⟨⟨_, by omega, rfl⟩, hb⟩
    go_wp2_with fail
    refine (HT.out _).mono ?_
    rintro e w10 ⟨⟨v, hv, rfl⟩, h10⟩
    have B10 : Hid (Below w.heap.size w w10) := by
      have h9 := H9.out
      have hz := Nat.le_of_lt h9.2.2.1
      exact (h9.2.1.alloc hz _).trans (h10.mono (by simp; omega))
    clear h10
    go_wp2
    go_ret
    exact ⟨⟨v, by omega, rfl⟩, B10.out⟩
  · have q1 : ((p : Int) == 0) = false := by rw [beq_eq_false_iff_ne]; omega
    have q2 : ((p : Int) == 1) = false := by rw [beq_eq_false_iff_ne]; omega
    go_wp2
    go_ret
    exact ⟨⟨t, by omega, rfl⟩, B8.out⟩
end Go.Proofs.YtjkmfjegphpjkaaGreatDoor
