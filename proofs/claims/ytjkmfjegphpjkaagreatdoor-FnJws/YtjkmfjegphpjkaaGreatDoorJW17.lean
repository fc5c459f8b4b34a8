/- impl.regroup from 6 bits to 8, walked. impl.Base64Read, walked. spec.Base64Read, walked. FnExactNameRight, walks: 'impl.NameRight' answers true just where the text is a right name; the law. impl.isTime, NameRight, walked. -/
import Derived.Test.YtjkmfjegphpjkaaGreatDoorJW06
import Derived.Deep.Cut
import Derived.Test.YtjkmfjegphpjkaaGreatDoorJW16
import Derived.Test.YtjkmfjegphpjkaaGreatDoorJW05
import Derived.Test.YtjkmfjegphpjkaaGreatDoorJW14
import Derived.Test.YtjkmfjegphpjkaaGreatDoorJW02
import Derived.Test.YtjkmfjegphpjkaaGreatDoorJW03
import Derived.WalkLawsBesides
namespace Go.Proofs.YtjkmfjegphpjkaaGreatDoor
open Go.RowKit Go.Lib

set_option linter.unusedSimpArgs false in
set_option maxHeartbeats 4000000 in
set_option maxRecDepth 100000 in
theorem implRegroup68 (zs : List Nat) (a : Option Addr) (cap : Nat) (w : World) (hl : zs.length ≤ 100000) (hz : ∀ x ∈ zs, x < 64) (ha : IsBts w a zs) :
    Calls Tryz.prog 23 #[.slice a zs.length cap, .int .i64 6, .int .i64 8] w fun e w' => ∃ v, e = .returned (.tuple #[v, .int .u8 (((rgi zs 0 0).2.1 : Nat) : Int), .int .i64 (((rgi zs 0 0).2.2 : Nat) : Int)]) ∧ OwnB w' w.heap.size v (rgi zs 0 0).1 ∧ Below w.heap.size w w' := by
  obtain ⟨i0, hi, hz0, hz1, hz2⟩ := info_parts infoByte
  have hRl := rgi_len zs 0 0
  obtain ⟨⟨R, RH, RC⟩, hR⟩ : ∃ R, R = rgi zs 0 0 := ⟨_, rfl⟩
  rw [← hR] at hRl ⊢
  have HR : Hid (((R, RH, RC) : List Nat × Nat × Nat) = rgi zs 0 0) := hR
  have HRl : Hid (R.length ≤ 200000) := by show _ ≤ _; simp only at hRl; omega
  obtain ⟨n, hn⟩ : ∃ n, n = zs.length := ⟨_, rfl⟩
  rw [← hn]
  have HN : Hid (n = zs.length ∧ n ≤ 100000) := ⟨hn, by omega⟩
  have HA : Hid (IsBts w a zs) := ha
  have HZ : Hid (∀ x ∈ zs, x < 64) := hz
  clear hR hRl hn hl ha hz
  go_enter Tryz.func23, Tryz.ntmps23
  go_wp2
  go_loopw [9, 10, 11, 16] (fun v h c i wr => ∃ (k h' c' : Nat) (pre : List Nat), i = .int .i64 k ∧ h = .int .i64 h' ∧ c = .int .i64 c' ∧ k ≤ n ∧ h' < 2 ^ c' ∧ (c' = 0 ∨ c' = 6 ∨ c' = 4 ∨ c' = 2) ∧ OwnB wr w.heap.size v pre ∧ (R, RH, RC) = (pre ++ (rgi (zs.drop k) h' c').1, (rgi (zs.drop k) h' c').2) ∧ Below w.heap.size w wr)
    (fun _ _ _ i _ => n - (RowKit.intOf i).toNat)
  case atStart =>
    exact ⟨0, 0, 0, [], rfl, rfl, rfl, Nat.zero_le _, by decide, .inl rfl, ownB_nil _ _, HR.out, Below.refl _ _⟩
  case round =>
    obtain ⟨k, h, c, pre, rfl, rfl, rfl, hk, hh, hc, hown, hat, hbel⟩ := hrel
    have HB : Hid (Below w.heap.size w wr) := hbel
    have HO : Hid _ := hown
    have HT : Hid _ := hat
    clear hown hat hbel
    by_cases hlt : k < n
    rotate_left
    · have q2 : ¬ (k : Int) < (n : Int) := by omega
      have hT := HT.out
      rw [List.drop_eq_nil_of_le (by have := HN.out.1; omega), rgi, List.append_nil] at hT
      simp only [Prod.mk.injEq] at hT
      obtain ⟨rfl, rfl, rfl⟩ := hT
      have hu : IntKind.u8.wrap (RH : Int) = (RH : Int) := by
        rw [IntKind.wrap_u8]
        have : RH < 128 := by rcases hc with rfl | rfl | rfl | rfl <;> simp at hh <;> omega
        omega
      clear HR HRl HT hc hh
      go_wp2
      go_ret3
      exact ⟨_, rfl, HO.out, HB.out⟩
    have hkz : k < zs.length := by have := HN.out.1; omega
    obtain ⟨z, hz⟩ : ∃ z, zs[k]? = some z := ⟨zs[k], List.getElem?_eq_getElem hkz⟩
    have hzl : z < 64 := HZ.out z (List.mem_of_getElem? hz)
    have hdr : zs.drop k = z :: zs.drop (k + 1) := by
      rw [List.drop_eq_getElem_cons hkz]
      congr 1
      rw [List.getElem?_eq_getElem hkz] at hz
      exact Option.some.inj hz
    obtain ⟨gb, rfl, hgb, hcs⟩ : ∃ b, a = some ⟨b, 0, none⟩ ∧ b < w.heap.size ∧ ∀ (i z : Nat), zs[i]? = some z → w.cell? ⟨b, i, none⟩ = some (.int .u8 (z : Int)) := by
      rcases HA.out with h | h
      · subst h; simp at hkz
      · exact h
    have hcell : wr.cell? ⟨gb, k, none⟩ = some (.int .u8 (z : Int)) := (HB.out.cell (p := ⟨gb, k, none⟩) hgb).trans (hcs k z hz)
    have q1 : (0 : Int) ≤ (k : Int) := Int.natCast_nonneg _
    have q2 : (k : Int) < (n : Int) := by omega
    have hn5 : n ≤ 100000 := HN.out.2
    have HT2 : Hid _ := (show ((R, RH, RC) : List Nat × Nat × Nat) = (pre ++ (rgi (z :: zs.drop (k + 1)) h c).1, (rgi (z :: zs.drop (k + 1)) h c).2) from by rw [← hdr]; exact HT.out)
    clear HT hdr hcs hgb hkz hz
    obtain ⟨va, vc, rfl, _⟩ := OwnB.form HO.out
    obtain ⟨x, hx⟩ : ∃ x, x = h * 64 + z := ⟨_, rfl⟩
    have o1 : bits .or .i64 ((h : Int) * 64) (z : Int) = (x : Int) := by
      have hhh : h < 64 := by rcases hc with rfl | rfl | rfl | rfl <;> simp at hh <;> omega
      have := or_low 6 (by omega) h z (by omega) (by omega)
      rw [hx, ← this]
      congr 1
    obtain ⟨pl, hpl⟩ : ∃ p, p = pre.length := ⟨_, rfl⟩
    have HPl : Hid (pl = pre.length) := hpl
    rw [← hpl] at HO ⊢
    have HX : Hid (x = h * 64 + z) := hx
    clear hx hpl
    rcases hc with rfl | rfl | rfl | rfl
    · obtain rfl : h = 0 := by simp at hh; exact hh
      have o0 : bits .or .i64 0 (z : Int) = (x : Int) := by simpa using o1
      clear o1
      have hxb : x < 64 := by have := HX.out; simp at hh; omega
      have HT3 : Hid (((R, RH, RC) : List Nat × Nat × Nat) = ((pre ++ []) ++ (rgi (zs.drop (k + 1)) (x) 6).1, (rgi (zs.drop (k + 1)) (x) 6).2)) := by
        show _ = _
        rw [HT2.out, rgi, ← HX.out]
        simp
      have hbd : pl + 0 ≤ 200000 := by
        have h1 := congrArg (fun y => y.1.length) HT3.out
        have h2 := HRl.out
        have h3 := HPl.out
        simp only [List.length_append, List.length_cons, List.length_nil] at h1
        omega
      clear hxb HT2 hh
      go_wp2
      refine wp_loop_rounds 1 ?_
      rw [rounds_succ]
      go_wp2
      go_roundw
      case rel =>
        have hT := HT3.out
        skip
        simp only [List.append_nil] at hT
        exact ⟨k + 1, x, 6, _, by go_num, by go_num, by go_num, by omega, by have := HX.out; simp; omega, by simp, by have h2 := HO.out; rw [HPl.out] at h2 ⊢; exact h2, hT, HB.out⟩
      case measure => simp [RowKit.intOf]; omega
    · have hh4 : h < 64 := by simpa using hh
      have hxb : x < 4096 := by have := HX.out; simp at hh; omega
      have HT3 : Hid (((R, RH, RC) : List Nat × Nat × Nat) = ((pre ++ [x / 16]) ++ (rgi (zs.drop (k + 1)) (x % 16) 4).1, (rgi (zs.drop (k + 1)) (x % 16) 4).2)) := by
        show _ = _
        rw [HT2.out, rgi, ← HX.out]
        simp
      obtain ⟨g0, hg0⟩ : ∃ g, g = x / 16 := ⟨_, rfl⟩
      obtain ⟨r0, hr0⟩ : ∃ r, r = x % 16 := ⟨_, rfl⟩
      have s0 : IntKind.u8.wrap ((x : Int) / 16) = (g0 : Int) := by rw [IntKind.wrap_u8]; omega
      have m0 : bits .and .i64 (x : Int) 15 = (r0 : Int) := by have := and_mask 4 (by omega) x; rw [hr0]; simpa using this
      have hbd : pl + 1 ≤ 200000 := by
        have h1 := congrArg (fun y => y.1.length) HT3.out
        have h2 := HRl.out
        have h3 := HPl.out
        simp only [List.length_append, List.length_cons, List.length_nil] at h1
        omega
      have HG : Hid (g0 = x / 16 ∧ r0 = x % 16) := by refine ⟨?_, ?_⟩ <;> omega
      clear hg0 hr0 hxb HT2 hh
      go_wp2
      refine wp_loop_rounds 2 ?_
      rw [rounds_succ]
      have hO0 : wr.ownsRow w.heap.size 5 1 (.slice va pl vc) (pl) (((pre).map (fun x : Nat => (x : Int))).map (Value.int .u8)) := by
        have h2 := HO.out
        unfold OwnB at h2
        simpa only [List.length_append, List.length_cons, List.length_nil, ← HPl.out] using h2
      have hs0 : w.heap.size ≤ wr.heap.size := HB.out.size
      go_wp2_with (at_builtin; refine wpList_append_own _ rfl _ _ 22 rfl w.heap.size 5 i0 (.int .u8 0) 1 1 Tryz.underlying22 hi hz0 hz1 hz2 rfl (by decide) _ _ _ rfl (hO0.alloc _) ⟨wr.heap.size, 0, none⟩ 1 1 [.int .u8 (g0 : Int)] rfl rfl ?c1 ?c2 ?c3 ?c4 ?c5 ?_)
      case c1 => exact cells_one (by simp)
      case c2 => intro u hu; simp at hu; subst hu; rfl
      case c3 => unfold maxLen; omega
      case c4 => omega
      case c5 => simp; omega
      intro y0 w0 hown0 hgrow0 _
      have B0 : Hid (Below w.heap.size w w0) := (HB.out.alloc (by omega) _).grown hgrow0 (by simp; omega) (fun j hj => (hO0.lt j hj).1)
      have O0 : Hid (OwnB w0 w.heap.size y0 (pre ++ [g0])) := by
        show World.ownsRow _ _ _ _ _ _ _
        simpa [List.map_append, ← HPl.out] using hown0
      clear hgrow0 hown0 hO0 hs0 HO HB
      go_wp2
      rw [rounds_succ]
      go_wp2
      go_roundw
      case rel =>
        have hT := HT3.out
        obtain ⟨e0, e1⟩ := HG.out
        rw [← e0, ← e1] at hT
        exact ⟨k + 1, r0, 4, _, by go_num, by go_num, by go_num, by omega, by simp; omega, by simp, O0.out, hT, B0.out⟩
      case measure => simp [RowKit.intOf]; omega
    · have hh4 : h < 16 := by simpa using hh
      have hxb : x < 1024 := by have := HX.out; simp at hh; omega
      have HT3 : Hid (((R, RH, RC) : List Nat × Nat × Nat) = ((pre ++ [x / 4]) ++ (rgi (zs.drop (k + 1)) (x % 4) 2).1, (rgi (zs.drop (k + 1)) (x % 4) 2).2)) := by
        show _ = _
        rw [HT2.out, rgi, ← HX.out]
        simp
      obtain ⟨g0, hg0⟩ : ∃ g, g = x / 4 := ⟨_, rfl⟩
      obtain ⟨r0, hr0⟩ : ∃ r, r = x % 4 := ⟨_, rfl⟩
      have s0 : IntKind.u8.wrap ((x : Int) / 4) = (g0 : Int) := by rw [IntKind.wrap_u8]; omega
      have m0 : bits .and .i64 (x : Int) 3 = (r0 : Int) := by have := and_mask 2 (by omega) x; rw [hr0]; simpa using this
      have hbd : pl + 1 ≤ 200000 := by
        have h1 := congrArg (fun y => y.1.length) HT3.out
        have h2 := HRl.out
        have h3 := HPl.out
        simp only [List.length_append, List.length_cons, List.length_nil] at h1
        omega
      have HG : Hid (g0 = x / 4 ∧ r0 = x % 4) := by refine ⟨?_, ?_⟩ <;> omega
      clear hg0 hr0 hxb HT2 hh
      go_wp2
      refine wp_loop_rounds 2 ?_
      rw [rounds_succ]
      have hO0 : wr.ownsRow w.heap.size 5 1 (.slice va pl vc) (pl) (((pre).map (fun x : Nat => (x : Int))).map (Value.int .u8)) := by
        have h2 := HO.out
        unfold OwnB at h2
        simpa only [List.length_append, List.length_cons, List.length_nil, ← HPl.out] using h2
      have hs0 : w.heap.size ≤ wr.heap.size := HB.out.size
      go_wp2_with (at_builtin; refine wpList_append_own _ rfl _ _ 22 rfl w.heap.size 5 i0 (.int .u8 0) 1 1 Tryz.underlying22 hi hz0 hz1 hz2 rfl (by decide) _ _ _ rfl (hO0.alloc _) ⟨wr.heap.size, 0, none⟩ 1 1 [.int .u8 (g0 : Int)] rfl rfl ?c1 ?c2 ?c3 ?c4 ?c5 ?_)
      case c1 => exact cells_one (by simp)
      case c2 => intro u hu; simp at hu; subst hu; rfl
      case c3 => unfold maxLen; omega
      case c4 => omega
      case c5 => simp; omega
      intro y0 w0 hown0 hgrow0 _
      have B0 : Hid (Below w.heap.size w w0) := (HB.out.alloc (by omega) _).grown hgrow0 (by simp; omega) (fun j hj => (hO0.lt j hj).1)
      have O0 : Hid (OwnB w0 w.heap.size y0 (pre ++ [g0])) := by
        show World.ownsRow _ _ _ _ _ _ _
        simpa [List.map_append, ← HPl.out] using hown0
      clear hgrow0 hown0 hO0 hs0 HO HB
      go_wp2
      rw [rounds_succ]
      go_wp2
      go_roundw
      case rel =>
        have hT := HT3.out
        obtain ⟨e0, e1⟩ := HG.out
        rw [← e0, ← e1] at hT
        exact ⟨k + 1, r0, 2, _, by go_num, by go_num, by go_num, by omega, by simp; omega, by simp, O0.out, hT, B0.out⟩
      case measure => simp [RowKit.intOf]; omega
    · have hh4 : h < 4 := by simpa using hh
      have hxb : x < 256 := by have := HX.out; simp at hh; omega
      have HT3 : Hid (((R, RH, RC) : List Nat × Nat × Nat) = ((pre ++ [x]) ++ (rgi (zs.drop (k + 1)) (0) 0).1, (rgi (zs.drop (k + 1)) (0) 0).2)) := by
        show _ = _
        rw [HT2.out, rgi, ← HX.out]
        simp
      obtain ⟨g0, hg0⟩ : ∃ g, g = x / 1 := ⟨_, rfl⟩
      obtain ⟨r0, hr0⟩ : ∃ r, r = x % 1 := ⟨_, rfl⟩
      have s0 : IntKind.u8.wrap (x : Int) = (g0 : Int) := by rw [IntKind.wrap_u8]; omega
      have m0 : bits .and .i64 (x : Int) 0 = (r0 : Int) := by have := and_mask 0 (by omega) x; rw [hr0]; simpa using this
      have hbd : pl + 1 ≤ 200000 := by
        have h1 := congrArg (fun y => y.1.length) HT3.out
        have h2 := HRl.out
        have h3 := HPl.out
        simp only [List.length_append, List.length_cons, List.length_nil] at h1
        omega
      have HG : Hid (g0 = x ∧ r0 = 0) := by refine ⟨?_, ?_⟩ <;> omega
      clear hg0 hr0 hxb HT2 hh
      go_wp2
      refine wp_loop_rounds 2 ?_
      rw [rounds_succ]
      have hO0 : wr.ownsRow w.heap.size 5 1 (.slice va pl vc) (pl) (((pre).map (fun x : Nat => (x : Int))).map (Value.int .u8)) := by
        have h2 := HO.out
        unfold OwnB at h2
        simpa only [List.length_append, List.length_cons, List.length_nil, ← HPl.out] using h2
      have hs0 : w.heap.size ≤ wr.heap.size := HB.out.size
      go_wp2_with (at_builtin; refine wpList_append_own _ rfl _ _ 22 rfl w.heap.size 5 i0 (.int .u8 0) 1 1 Tryz.underlying22 hi hz0 hz1 hz2 rfl (by decide) _ _ _ rfl (hO0.alloc _) ⟨wr.heap.size, 0, none⟩ 1 1 [.int .u8 (g0 : Int)] rfl rfl ?c1 ?c2 ?c3 ?c4 ?c5 ?_)
      case c1 => exact cells_one (by simp)
      case c2 => intro u hu; simp at hu; subst hu; rfl
      case c3 => unfold maxLen; omega
      case c4 => omega
      case c5 => simp; omega
      intro y0 w0 hown0 hgrow0 _
      have B0 : Hid (Below w.heap.size w w0) := (HB.out.alloc (by omega) _).grown hgrow0 (by simp; omega) (fun j hj => (hO0.lt j hj).1)
      have O0 : Hid (OwnB w0 w.heap.size y0 (pre ++ [g0])) := by
        show World.ownsRow _ _ _ _ _ _ _
        simpa [List.map_append, ← HPl.out] using hown0
      clear hgrow0 hown0 hO0 hs0 HO HB
      go_wp2
      rw [rounds_succ]
      go_wp2
      go_roundw
      case rel =>
        have hT := HT3.out
        obtain ⟨e0, e1⟩ := HG.out
        rw [← e0] at hT
        exact ⟨k + 1, 0, 0, _, by go_num, by rw [e1], by go_num, by omega, by decide, by simp, O0.out, hT, B0.out⟩
      case measure => simp [RowKit.intOf]; omega
end Go.Proofs.YtjkmfjegphpjkaaGreatDoor
namespace Go.Proofs.YtjkmfjegphpjkaaGreatDoor
open Go.RowKit Go.Lib

set_option linter.unusedSimpArgs false in
set_option maxHeartbeats 4000000 in
set_option maxRecDepth 100000 in
theorem implBase64Read (s : ByteArray) (w : World) (hm : s.size ≤ maxLen) :
    Calls Tryz.prog 8 #[.string s] w fun e w' => e = .returned (txtV (readTD s)) ∧ Below w.heap.size w w' := by
  obtain ⟨w1, hw1⟩ : ∃ y, y = w.alloc (.cells #[.string ⟨#[]⟩, .int .i64 0, .int .i64 0] 26 (0, 0)) := ⟨_, rfl⟩
  have hz : w1.heap.size = w.heap.size + 1 := by rw [hw1]; simp
  have hg1 : w1.heap[w.heap.size]? = some (.cells [Value.string ⟨#[]⟩, .int .i64 0, .int .i64 0].toArray 26 (0, 0)) := by rw [hw1]; exact heap_alloc_new w _
  have hB1 : Below w.heap.size w w1 := by rw [hw1]; exact (Below.refl _ w).alloc (Nat.le_refl _) _
  have HB : Hid (∀ V, Below w1.heap.size w1 V → Below w.heap.size w V) := fun V hV => hB1.trans (hV.mono (by omega))
  have HRes : Hid (∀ V, Below w1.heap.size w1 V → V.heap[w.heap.size]? = some (.cells [Value.string ⟨#[]⟩, .int .i64 0, .int .i64 0].toArray 26 (0, 0))) := fun V hV => by rw [hV.block _ (by omega)]; exact hg1
  have I1 : Hid (Below w1.heap.size w1 w1) := Below.refl _ _
  have Z1 : Hid (w1.heap.size = w.heap.size + 1) := hz
  clear hg1 hB1 hz
  have HLg : Hid (∀ V, Calls Tryz.prog 25 #[.string s] V fun e w' => e = .returned (.bool (decide (20000 < s.size))) ∧ w' = V) := fun V => tooLong s V hm
  by_cases hl : 20000 < s.size
  · have HF : Hid (readTD s = (⟨#[]⟩, 2)) := by show _ = _; rw [readTD, if_pos hl]
    rw [decide_eq_true hl] at HLg
    clear hl
    go_enter Tryz.func8, Tryz.ntmps8
    go_wp2_with fail
    rw [← hw1]
    refine (HLg.out w1).mono ?_
    rintro e w2 ⟨rfl, rfl⟩
    clear hw1
    go_wp2_with (refine wpList_store_row rfl 26 _ _ rfl (w.heap.size) _ [Value.string ⟨#[]⟩, .int .i64 0, .int .i64 2] 26 rfl rfl (HRes.out _ I1.out) rfl sizeTextOut (by simp [Value.oneCell']) ?_)
    intro w8 hrow ho hs8 hbb
    have HROW : Hid _ := hrow
    have HB8 : Hid (Below w.heap.size w w8) := hbb _ _ (Nat.le_refl _) (HB.out _ I1.out)
    clear ho hs8 hbb hrow
    go_wp2
    refine bodyPost_ret (v := .agg [Value.string ⟨#[]⟩, .int .i64 0, .int .i64 2].toArray) ?_ rfl ⟨by rw [HF.out]; rfl, HB8.out⟩
    have hl3 := run_loadVar_mid (P := Tryz.prog) _ (w.heap.size) 0 26 _ _ (rangeRow HROW.out) Tryz.underlying26 rfl sizeTextOut
    simp [results, Tryz.results8, asAddr, hl3]
  rw [decide_eq_false hl] at HLg
  have HS : Hid (∀ V, Calls Tryz.prog 26 #[.string s] V fun e w' => ∃ v, e = .returned (.tuple #[v, .bool (readV (bts s)).isSome]) ∧ OwnB w' V.heap.size v ((readV (bts s)).getD []) ∧ Below V.heap.size V w') := fun V => implReadSigns s V (by omega)
  have hE : readTD s = match readV (bts s) with
    | none => (⟨#[]⟩, 3)
    | some vs => if base64D (natT (rgi vs 0 0).1) = s then (natT (rgi vs 0 0).1, 0) else (⟨#[]⟩, 3) := by
    rw [readTD, if_neg hl]
    cases readV (bts s) <;> rfl
  cases hv : readV (bts s) with
  | none =>
    have HF : Hid (readTD s = (⟨#[]⟩, 3)) := by show _ = _; rw [hE, hv]
    rw [hv] at HS
    clear hE hv hl
    go_enter Tryz.func8, Tryz.ntmps8
    go_wp2_with fail
    rw [← hw1]
    refine (HLg.out w1).mono ?_
    rintro e w2 ⟨rfl, rfl⟩
    clear hw1
    go_wp2_with fail
    refine (HS.out _).mono ?_
    rintro e w3 ⟨v, rfl, o3, b3⟩
    have K3 : Hid (Below w2.heap.size w2 w3) := b3
    clear b3 o3
    go_wp2_with (refine wpList_store_row rfl 26 _ _ rfl (w.heap.size) _ [Value.string ⟨#[]⟩, .int .i64 0, .int .i64 3] 26 rfl rfl (HRes.out _ K3.out) rfl sizeTextOut (by simp [Value.oneCell']) ?_)
    intro w8 hrow ho hs8 hbb
    have HROW : Hid _ := hrow
    have HB8 : Hid (Below w.heap.size w w8) := hbb _ _ (Nat.le_refl _) (HB.out _ K3.out)
    clear ho hs8 hbb hrow
    go_wp2
    refine bodyPost_ret (v := .agg [Value.string ⟨#[]⟩, .int .i64 0, .int .i64 3].toArray) ?_ rfl ⟨by rw [HF.out]; rfl, HB8.out⟩
    have hl3 := run_loadVar_mid (P := Tryz.prog) _ (w.heap.size) 0 26 _ _ (rangeRow HROW.out) Tryz.underlying26 rfl sizeTextOut
    simp [results, Tryz.results8, asAddr, hl3]
  | some vs =>
  rw [hv] at HS hE
  simp only at hE
  have hvl := readV_len _ _ hv
  rw [bts_len] at hvl
  have hv64 := readV_lt _ _ hv
  have HRg : Hid (∀ V a cap, IsBts V a vs → Calls Tryz.prog 23 #[.slice a vs.length cap, .int .i64 6, .int .i64 8] V fun e w' => ∃ v, e = .returned (.tuple #[v, .int .u8 (((rgi vs 0 0).2.1 : Nat) : Int), .int .i64 (((rgi vs 0 0).2.2 : Nat) : Int)]) ∧ OwnB w' V.heap.size v (rgi vs 0 0).1 ∧ Below V.heap.size V w') := fun V a cap h => implRegroup68 vs a cap V (by omega) hv64 h
  have hrl := rgi_len vs 0 0
  obtain ⟨⟨R, RH, RC⟩, hR⟩ : ∃ R, R = rgi vs 0 0 := ⟨_, rfl⟩
  rw [← hR] at HRg hE hrl
  simp only at HRg hE hrl
  have HBa : Hid (∀ V, Calls Tryz.prog 6 #[.string (natT R)] V fun e w' => e = .returned (.string (base64D (natT R))) ∧ Below V.heap.size V w') := fun V => implBase64 (natT R) V (by rw [natT_size]; unfold maxLen; omega)
  have HE : Hid (readTD s = if base64D (natT R) = s then (natT R, 0) else (⟨#[]⟩, 3)) := hE
  clear hE hv hl hvl hv64 hR hrl hm
  go_enter Tryz.func8, Tryz.ntmps8
  go_wp2_with fail
  rw [← hw1]
  refine (HLg.out w1).mono ?_
  rintro e w2 ⟨rfl, rfl⟩
  clear hw1
  go_wp2_with fail
  refine (HS.out _).mono ?_
  rintro e w3 ⟨v, rfl, o3, b3⟩
  have K3 : Hid (Below w2.heap.size w2 w3) := b3
  have O3 : Hid (OwnB w3 w2.heap.size v vs) := o3
  clear b3 o3 HS HLg
  obtain ⟨va, vc, rfl, _⟩ := OwnB.form O3.out
  go_wp2_with fail
  refine (HRg.out w3 va vc O3.out.bts).mono ?_
  rintro e w4 ⟨y, rfl, o4, b4⟩
  have K4 : Hid (Below w2.heap.size w2 w4) := K3.out.trans (b4.mono K3.out.size)
  have hcv := run_convert_own (P := Tryz.prog) (src := 22) (dst := 9) Tryz.underlying22 Tryz.underlying5 Tryz.underlying9 o4
  have hnt : strOfNums (R.map fun x : Nat => (x : Int)) = natT R := rfl
  rw [hnt] at hcv
  clear b4 o4 O3 K3 HRg hnt
  generalize natT R = N at *
  go_wp2_with fail
  refine (HBa.out w4).mono ?_
  rintro e w5 ⟨rfl, b5⟩
  have K5 : Hid (Below w2.heap.size w2 w5) := K4.out.trans (b5.mono K4.out.size)
  clear b5 K4 HBa hcv
  generalize base64D N = BT at *
  by_cases hY : BT = s
  rotate_left
  · have HF : Hid (readTD s = (⟨#[]⟩, 3)) := by show _ = _; rw [HE.out, if_neg hY]
    have e1 : (BT.toList == s.toList) = false := by rw [same_text', decide_eq_false hY]
    have e2 : (BT.toList != s.toList) = true := by rw [bne, e1]; rfl
    go_wp2_with (refine wpList_store_row rfl 26 _ _ rfl (w.heap.size) _ [Value.string ⟨#[]⟩, .int .i64 0, .int .i64 3] 26 rfl rfl (HRes.out _ K5.out) rfl sizeTextOut (by simp [Value.oneCell']) ?_)
    intro w8 hrow ho hs8 hbb
    have HROW : Hid _ := hrow
    have HB8 : Hid (Below w.heap.size w w8) := hbb _ _ (Nat.le_refl _) (HB.out _ K5.out)
    clear ho hs8 hbb hrow
    go_wp2
    refine bodyPost_ret (v := .agg [Value.string ⟨#[]⟩, .int .i64 0, .int .i64 3].toArray) ?_ rfl ⟨by rw [HF.out]; rfl, HB8.out⟩
    have hl3 := run_loadVar_mid (P := Tryz.prog) _ (w.heap.size) 0 26 _ _ (rangeRow HROW.out) Tryz.underlying26 rfl sizeTextOut
    simp [results, Tryz.results8, asAddr, hl3]
  have HF : Hid (readTD s = (N, 0)) := by show _ = _; rw [HE.out, if_pos hY]
  have e2 : (BT.toList != s.toList) = false := by rw [bne, same_text', decide_eq_true hY]; rfl
  go_wp2_with (refine wpList_store_row rfl 26 _ _ rfl (w.heap.size) _ [Value.string N, .int .i64 0, .int .i64 0] 26 rfl rfl (HRes.out _ K5.out) rfl sizeTextOut (by simp [Value.oneCell']) ?_)
  intro w8 hrow ho hs8 hbb
  have HROW : Hid _ := hrow
  have HB8 : Hid (Below w.heap.size w w8) := hbb _ _ (Nat.le_refl _) (HB.out _ K5.out)
  clear ho hs8 hbb hrow
  go_wp2
  refine bodyPost_ret (v := .agg [Value.string N, .int .i64 0, .int .i64 0].toArray) ?_ rfl ⟨by rw [HF.out]; rfl, HB8.out⟩
  have hl3 := run_loadVar_mid (P := Tryz.prog) _ (w.heap.size) 0 26 _ _ (rangeRow HROW.out) Tryz.underlying26 rfl sizeTextOut
  simp [results, Tryz.results8, asAddr, hl3]
end Go.Proofs.YtjkmfjegphpjkaaGreatDoor
namespace Go.Proofs.YtjkmfjegphpjkaaGreatDoor
open Go.RowKit Go.Lib

set_option linter.unusedSimpArgs false in
set_option maxHeartbeats 4000000 in
set_option maxRecDepth 100000 in
theorem specBase64Read (s : ByteArray) (w : World) (hm : s.size ≤ maxLen) :
    Calls Tryz.prog 10 #[.string s] w fun e w' => e = .returned (txtV (readTD s)) ∧ Below w.heap.size w w' := by
  unfold maxLen at hm
  obtain ⟨w1, hw1⟩ : ∃ y, y = w.alloc (.cells #[.string ⟨#[]⟩, .int .i64 0, .int .i64 0] 26 (0, 0)) := ⟨_, rfl⟩
  have hz : w1.heap.size = w.heap.size + 1 := by rw [hw1]; simp
  have hg1 : w1.heap[w.heap.size]? = some (.cells [Value.string ⟨#[]⟩, .int .i64 0, .int .i64 0].toArray 26 (0, 0)) := by rw [hw1]; exact heap_alloc_new w _
  have hB1 : Below w.heap.size w w1 := by rw [hw1]; exact (Below.refl _ w).alloc (Nat.le_refl _) _
  have HB : Hid (∀ V, Below w1.heap.size w1 V → Below w.heap.size w V) := fun V hV => hB1.trans (hV.mono (by omega))
  have HRes : Hid (∀ V, Below w1.heap.size w1 V → V.heap[w.heap.size]? = some (.cells [Value.string ⟨#[]⟩, .int .i64 0, .int .i64 0].toArray 26 (0, 0))) := fun V hV => by rw [hV.block _ (by omega)]; exact hg1
  have I1 : Hid (Below w1.heap.size w1 w1) := Below.refl _ _
  have Z1 : Hid (w1.heap.size = w.heap.size + 1) := hz
  clear hg1 hB1 hz
  by_cases hl : 20000 < s.size
  · have HF : Hid (readTD s = (⟨#[]⟩, 2)) := by show _ = _; rw [readTD, if_pos hl]
    go_enter Tryz.func10, Tryz.ntmps10
    go_upto_region 2 with fail
    rw [← hw1]
    clear hw1
    go_wp2_with (refine wpList_store_row rfl 26 _ _ rfl (w.heap.size) _ [Value.string ⟨#[]⟩, .int .i64 0, .int .i64 2] 26 rfl rfl (HRes.out _ I1.out) rfl sizeTextOut (by simp [Value.oneCell']) ?_)
    intro w8 hrow ho hs8 hbb
    have HROW : Hid _ := hrow
    have HB8 : Hid (Below w.heap.size w w8) := hbb _ _ (Nat.le_refl _) (HB.out _ I1.out)
    clear ho hs8 hbb hrow
    go_wp2
    refine bodyPost_ret (v := .agg [Value.string ⟨#[]⟩, .int .i64 0, .int .i64 2].toArray) ?_ rfl ⟨by rw [HF.out]; rfl, HB8.out⟩
    have hl3 := run_loadVar_mid (P := Tryz.prog) _ (w.heap.size) 0 26 _ _ (rangeRow HROW.out) Tryz.underlying26 rfl sizeTextOut
    simp [results, Tryz.results10, asAddr, hl3]
  have HL : Hid (∀ V, Calls Tryz.prog 29 #[.string s] V fun e w' => e = .returned (.tuple #[.string (readLT s).1, .bool (readLT s).2]) ∧ Below V.heap.size V w') := fun V => specReadL s V (by omega)
  have hE : readTD s = if (readLT s).2 = true then ((readLT s).1, 0) else (⟨#[]⟩, 3) := by
    unfold readTD readLT
    rw [if_neg hl]
    cases hv : readV (bts s) with
    | none => rfl
    | some vs =>
      have hr := read_same hv
      simp only [decide_eq_true_eq]
      by_cases h : base64D (natT (rgi vs 0 0).1) = s
      · rw [if_pos h, if_pos (hr.1 h)]
      · rw [if_neg h, if_neg (fun h' => h (hr.2 h'))]
  obtain ⟨⟨X, ok⟩, hX⟩ : ∃ x, x = readLT s := ⟨_, rfl⟩
  rw [← hX] at HL hE
  simp only at HL hE
  have HE : Hid (readTD s = if ok = true then (X, 0) else (⟨#[]⟩, 3)) := hE
  clear hX hE
  go_enter Tryz.func10, Tryz.ntmps10
  go_wp2_with fail
  rw [← hw1]
  refine (HL.out w1).mono ?_
  rintro e w2 ⟨rfl, b2⟩
  have K2 : Hid (Below w1.heap.size w1 w2) := b2
  clear b2 hw1 HL
  cases ok with
  | false =>
    have HF : Hid (readTD s = (⟨#[]⟩, 3)) := by show _ = _; rw [HE.out]; rfl
    go_wp2_with (refine wpList_store_row rfl 26 _ _ rfl (w.heap.size) _ [Value.string ⟨#[]⟩, .int .i64 0, .int .i64 3] 26 rfl rfl (HRes.out _ K2.out) rfl sizeTextOut (by simp [Value.oneCell']) ?_)
    intro w8 hrow ho hs8 hbb
    have HROW : Hid _ := hrow
    have HB8 : Hid (Below w.heap.size w w8) := hbb _ _ (Nat.le_refl _) (HB.out _ K2.out)
    clear ho hs8 hbb hrow
    go_wp2
    refine bodyPost_ret (v := .agg [Value.string ⟨#[]⟩, .int .i64 0, .int .i64 3].toArray) ?_ rfl ⟨by rw [HF.out]; rfl, HB8.out⟩
    have hl3 := run_loadVar_mid (P := Tryz.prog) _ (w.heap.size) 0 26 _ _ (rangeRow HROW.out) Tryz.underlying26 rfl sizeTextOut
    simp [results, Tryz.results10, asAddr, hl3]
  | true =>
    have HF : Hid (readTD s = (X, 0)) := by show _ = _; rw [HE.out]; rfl
    go_wp2_with (refine wpList_store_row rfl 26 _ _ rfl (w.heap.size) _ [Value.string X, .int .i64 0, .int .i64 0] 26 rfl rfl (HRes.out _ K2.out) rfl sizeTextOut (by simp [Value.oneCell']) ?_)
    intro w8 hrow ho hs8 hbb
    have HROW : Hid _ := hrow
    have HB8 : Hid (Below w.heap.size w w8) := hbb _ _ (Nat.le_refl _) (HB.out _ K2.out)
    clear ho hs8 hbb hrow
    go_wp2
    refine bodyPost_ret (v := .agg [Value.string X, .int .i64 0, .int .i64 0].toArray) ?_ rfl ⟨by rw [HF.out]; rfl, HB8.out⟩
    have hl3 := run_loadVar_mid (P := Tryz.prog) _ (w.heap.size) 0 26 _ _ (rangeRow HROW.out) Tryz.underlying26 rfl sizeTextOut
    simp [results, Tryz.results10, asAddr, hl3]
end Go.Proofs.YtjkmfjegphpjkaaGreatDoor
namespace Go.Proofs.YtjkmfjegphpjkaaGreatDoor
open Go.RowKit

theorem isLetter (n : Int) (w : World) : Calls Tryz.prog 81 #[.int .u8 n] w fun e w' => e = .returned (.bool (decide (97 ≤ n) && decide (n ≤ 122))) ∧ w' = w := by
  by_cases h1 : 97 ≤ n
  · by_cases h2 : n ≤ 122
    all_goals
      go_enter Tryz.func81, Tryz.ntmps81
      go_wp2
      go_ret
      exact ⟨by simp [h1, h2], rfl⟩
  · go_enter Tryz.func81, Tryz.ntmps81
    go_wp2
    go_ret
    exact ⟨by simp; omega, rfl⟩
theorem isDigit (n : Int) (w : World) : Calls Tryz.prog 82 #[.int .u8 n] w fun e w' => e = .returned (.bool (decide (48 ≤ n) && decide (n ≤ 57))) ∧ w' = w := by
  by_cases h1 : 48 ≤ n
  · by_cases h2 : n ≤ 57
    all_goals
      go_enter Tryz.func82, Tryz.ntmps82
      go_wp2
      go_ret
      exact ⟨by simp [h1, h2], rfl⟩
  · go_enter Tryz.func82, Tryz.ntmps82
    go_wp2
    go_ret
    exact ⟨by simp; omega, rfl⟩

set_option maxHeartbeats 1000000 in
theorem implName (s : ByteArray) (w : World) (hs : s.size ≤ maxLen) :
    Calls Tryz.prog 57 #[.string s] w fun e w' => AnsB (NameOk s) e ∧ w' = w := by
  unfold maxLen at hs
  by_cases h1 : s.size < 1
  · go_enter Tryz.func57, Tryz.ntmps57
    go_wp2
    go_ret
    exact ⟨AnsB.no (fun h => by have := h.1; omega) rfl, rfl⟩
  by_cases h2 : 40 < s.size
  · go_enter Tryz.func57, Tryz.ntmps57
    go_wp2
    go_ret
    exact ⟨AnsB.no (fun h => by have := h.2.1; omega) rfl, rfl⟩
  have hp : 0 < s.size := by omega
  by_cases h3 : OkAt s 0 hp
  rotate_left
  · rcases cls (s[0].toNat : Int) with ⟨c, e1, e2, e3, e4, e5⟩ | ⟨c, e1, e2, e3, e4, e5⟩ | ⟨c, e1, e2, e3, e4, e5⟩ | ⟨c, e1, e2, e3, e4, e5⟩ | ⟨c, e1, e2, e3, e4, e5⟩ | ⟨c, e1, e2, e3, e4, e5⟩ | ⟨c, e1, e2, e3, e4, e5⟩
    all_goals
      first
        | (exfalso; exact h3 (by unfold OkAt OkN; omega))
        | (go_enter Tryz.func57, Tryz.ntmps57
           go_wp2
           go_ret
           exact ⟨AnsB.no (name_no s 0 hp h3) rfl, rfl⟩)
  have hc : 97 ≤ (s[0].toNat : Int) ∧ (s[0].toNat : Int) ≤ 122 := by unfold OkAt OkN at h3; omega
  obtain ⟨c1, c2⟩ := hc
  have H3 : Hid (OkAt s 0 hp) := h3
  clear h3
  go_enter Tryz.func57, Tryz.ntmps57
  go_wp2
  go_loop [3] (fun i => ∃ k : Nat, 1 ≤ k ∧ k ≤ s.size ∧ i = .int .i64 k ∧ OkTo s k) (fun i => s.size - (intOf i).toNat)
  case atStart => exact ⟨1, by omega, by omega, rfl, okTo_succ s 0 hp (okTo_zero s) H3.out⟩
  case round =>
    obtain ⟨k, hk1, hk, rfl, hok⟩ := hrel
    have HO : Hid (OkTo s k) := hok
    clear hok
    by_cases hlt : k < s.size
    · rcases cls (s[k].toNat : Int) with ⟨c, e1, e2, e3, e4, e5⟩ | ⟨c, e1, e2, e3, e4, e5⟩ | ⟨c, e1, e2, e3, e4, e5⟩ | ⟨c, e1, e2, e3, e4, e5⟩ | ⟨c, e1, e2, e3, e4, e5⟩ | ⟨c, e1, e2, e3, e4, e5⟩ | ⟨c, e1, e2, e3, e4, e5⟩
      all_goals
        go_wp2
        first
          | (go_ret; exact ⟨AnsB.no (name_no s k hlt (by unfold OkAt OkN; omega)) rfl, rfl⟩)
          | exact ⟨⟨k + 1, by omega, by omega, by go_num, okTo_succ s k hlt HO.out (by unfold OkAt OkN; omega)⟩, by simp [intOf]; omega⟩
    · go_wp2
      go_ret
      have e : k = s.size := by omega
      have hf := HO.out
      rw [e] at hf
      exact ⟨AnsB.yes ⟨by omega, by omega, hf⟩ rfl, rfl⟩
end Go.Proofs.YtjkmfjegphpjkaaGreatDoor
namespace Go.Proofs.YtjkmfjegphpjkaaGreatDoor
open Go.RowKit

theorem implTime (n : Int) (w : World) :
    Calls Tryz.prog 56 #[.int .i64 n] w fun e w' => e = .returned (.bool (timeB n)) ∧ w' = w := by
  by_cases h0 : 0 ≤ n
  · by_cases h1 : n ≤ 1000000000
    · have HF : Hid (timeB n = true) := by show _ = _; simp [timeB, h0, h1]
      go_enter Tryz.func56, Tryz.ntmps56
      go_wp2
      go_ret
      exact ⟨by rw [HF.out]; rfl, rfl⟩
    · have HF : Hid (timeB n = false) := by show _ = _; simp [timeB, h1]
      go_enter Tryz.func56, Tryz.ntmps56
      go_wp2
      go_ret
      exact ⟨by rw [HF.out]; rfl, rfl⟩
  · have HF : Hid (timeB n = false) := by show _ = _; simp [timeB, h0]
    go_enter Tryz.func56, Tryz.ntmps56
    go_wp2
    go_ret
    exact ⟨by rw [HF.out]; rfl, rfl⟩
theorem implNameB (s : ByteArray) (w : World) (hs : s.size ≤ maxLen) :
    Calls Tryz.prog 57 #[.string s] w fun e w' => e = .returned (.bool (nameB s)) ∧ w' = w :=
  (implName s w hs).mono fun _ _ h => ⟨ans_name h.1, h.2⟩
end Go.Proofs.YtjkmfjegphpjkaaGreatDoor
