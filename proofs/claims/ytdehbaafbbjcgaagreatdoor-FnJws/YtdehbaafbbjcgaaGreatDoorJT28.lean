/- 'spec.DrawJwsRead', walked: some text. impl.regroup from 8 bits to 6, walked. -/
import Derived.Test.YtdehbaafbbjcgaaGreatDoorJT10
import Derived.Test.YtdehbaafbbjcgaaGreatDoorJT19
import Derived.Test.YtdehbaafbbjcgaaGreatDoorJT23
import Derived.Test.YtdehbaafbbjcgaaGreatDoorJT27
import Derived.Test.YtdehbaafbbjcgaaGreatDoorJT11
import Derived.Deep.Cut
namespace Go.Proofs.YtdehbaafbbjcgaaGreatDoor
open Go.RowKit

set_option maxRecDepth 100000 in
set_option maxHeartbeats 4000000 in
theorem drawJwsRead (a : Option Addr) (len cap : Nat) (w : World) (hlen : len ≤ 1048576) (hc : CodeAt a len w) (hblk : ∀ x, 0 < len → a = some x → x.block < w.heap.size) :
    Calls Tryz.prog 15 #[.slice a len cap] w fun e w' => UpT 10000 e ∧ Below w.heap.size w w' := by
  have HC : Hid (CodeAt a len w) := hc
  have HBk : Hid (∀ x, 0 < len → a = some x → x.block < w.heap.size) := hblk
  clear hc hblk
  go_enter Tryz.func15, Tryz.ntmps15
  go_wp2_with fail
  refine (ss_source a len cap _ hlen HC.out HBk.out).mono ?_
  rintro e w1 ⟨rfl, h1⟩
  have H1 : Hid (SS w a len cap w1) := h1
  clear h1
  go_wp2_with fail
  refine (ss_n 3 (by omega) H1.out).mono ?_
  rintro e w2 ⟨r, rfl, hr, h2, _⟩
  have H2 : Hid (SS w a len cap w2) := h2
  obtain ⟨x, hx, hxw⟩ : ∃ x : Int, (-9223372036854775808 ≤ x ∧ x ≤ 9223372036854775807) ∧ IntKind.i64.wrap (5 + (r : Int)) = x := ⟨_, by rw [IntKind.wrap_i64]; omega, rfl⟩
  clear h2 hr H1
  go_wp2_with fail
  refine (ss_n 30 (by omega) H2.out).mono ?_
  rintro e w3 ⟨n, rfl, hn, h3, _⟩
  have H3 : Hid (SS w a len cap w3) := h3
  have hn' : n ≤ 30 := by omega
  clear h3 hn H2
  go_wp2_with fail
  refine (ss_pick 2 _ 7 _ [⟨#[97, 99, 99, 111, 117, 110, 116]⟩, ⟨#[111, 114, 100, 101, 114]⟩] H3.out rfl (by omega) (by omega) (by decide)).mono ?_
  rintro e w4 ⟨⟨url, hurl, rfl⟩, h4⟩
  have H4 : Hid (SS w a len cap w4) := h4
  clear h4 H3
  go_wp2_with fail
  refine (ss_n 9 (by omega) H4.out).mono ?_
  rintro e w5 ⟨q, rfl, hq, h5, _⟩
  have H5 : Hid (SS w a len cap w5) := h5
  have hq' : q ≤ 9 := by omega
  clear h5 hq H4
  go_wp2_with fail
  refine (ss_bytes q (by omega) H5.out).mono ?_
  rintro e w6 ⟨⟨body, hbody, rfl⟩, h6⟩
  have H6 : Hid (SS w a len cap w6) := h6
  clear h6 H5
  go_wp2_with fail
  refine (specJwsSign x (n : Int) url body _ hx.1 hx.2 (by omega) (by omega) (by omega) (by omega)).mono ?_
  rintro e w7 ⟨rfl, h7⟩
  have H7 : Hid (SS w a len cap w7) := H6.out.keep h7
  have hcase := jSign_read x (n : Int) url body
  generalize jSign x (n : Int) url body = t at *
  have HCase : Hid _ := hcase
  have hts : t.size ≤ 5000 := by
    rcases hcase with rfl | ⟨_, _, _, h, _⟩
    · exact Nat.zero_le _
    · exact h
  clear h7 H6 hcase
  go_wp2_with fail
  refine (ss_n 4 (by omega) H7.out).mono ?_
  rintro e w8 ⟨p, rfl, hp, h8, _⟩
  have H8 : Hid (SS w a len cap w8) := h8
  have hp' : p = 0 ∨ p = 1 ∨ 1 < p := by omega
  have B8 : Hid (Below w.heap.size w w8) := h8.2.1
  clear h8 hp
  rcases hp' with rfl | rfl | hp'
  · go_wp2_with fail
    refine (ss_spoil t (by omega) H8.out).mono ?_
    rintro e w9 ⟨⟨v, hv, rfl⟩, h9⟩
    have B9 : Hid (Below w.heap.size w w9) := h9.2.1
    clear h9
    go_wp2
    go_ret
    exact ⟨⟨v, by omega, rfl⟩, B9.out⟩
  · go_wp2_with fail
    refine (specJws t _ (by omega)).mono ?_
    rintro e w9 ⟨rfl, h9⟩
    have H9 : Hid (SS w a len cap w9) := H8.out.keep h9
    obtain ⟨key, nonce, url2, body2, se, ss, hj, hk, hno, hu2, hb2, hse, hss⟩ : ∃ (key nonce : Int) (url2 body2 : ByteArray) (se ss : Int), (readJS t).val = jV key nonce url2 body2 key se ss ∧ (-9223372036854775808 ≤ key ∧ key ≤ 9223372036854775807) ∧ (-9223372036854775808 ≤ nonce ∧ nonce ≤ 9223372036854775807) ∧ url2.size ≤ 40 ∧ body2.size ≤ 2000 ∧ (-9223372036854775808 ≤ se ∧ se ≤ 9223372036854775807) ∧ (-9223372036854775808 ≤ ss ∧ ss ≤ 9223372036854775807) := by
      rcases HCase.out with h | ⟨e, s, _, _, _, ht, h1, h2, h3, h4, h5⟩
      · refine ⟨0, 0, ⟨#[]⟩, ⟨#[]⟩, 0, 0, ?_, by decide, by decide, by decide, by decide, by decide, by decide⟩
        rw [h]
        rfl
      · have hrd := readJS_back body h3 (show -9223372036854775808 ≤ (n : Int) ∧ (n : Int) ≤ 9223372036854775807 by omega) h4 h5 (url := url) (by omega)
        rw [← ht] at hrd
        refine ⟨pubA x, n, url, body, e, s, ?_, h3, by omega, h1, h2, h4, h5⟩
        rw [hrd]
        rfl
    rw [hj]
    unfold jV
    clear h9 hj H8
    obtain ⟨no2, hno2, hw2⟩ : ∃ no2 : Int, (-9223372036854775808 ≤ no2 ∧ no2 ≤ 9223372036854775807) ∧ IntKind.i64.wrap (nonce + 1) = no2 := ⟨_, by rw [IntKind.wrap_i64]; omega, rfl⟩
    have HT : Hid (∀ V : World, Calls Tryz.prog 39 #[.agg #[.int .i64 key, .int .i64 no2, .string url2, .string body2, .int .i64 key, .int .i64 se, .int .i64 ss]] V fun r w' => (∃ v : ByteArray, v.size ≤ 5000 ∧ r = .returned (.string v)) ∧ Below V.heap.size V w') := fun V => by
      refine (specText key no2 url2 body2 key se ss V hk hno2 hu2 hb2 hse hss).mono ?_
      rintro r w' ⟨rfl, hb⟩
      have hz := (jText_size key no2 url2 body2 se ss).2
      exact ⟨⟨_, by omega, rfl⟩, hb⟩
    go_wp2_with fail
    refine (HT.out _).mono ?_
    rintro e w10 ⟨⟨v, hv, rfl⟩, h10⟩
    have B10 : Hid (Below w.heap.size w w10) := by
      have h9 := H9.out
      have hz := Nat.le_of_lt h9.2.2.1
      exact (h9.2.1.alloc hz _).trans (h10.mono (by simp; omega))
    clear h10
    go_wp2
    go_ret
    exact ⟨⟨v, by omega, rfl⟩, B10.out⟩
  · have q1 : ((p : Int) == 0) = false := by rw [beq_eq_false_iff_ne]; omega
    have q2 : ((p : Int) == 1) = false := by rw [beq_eq_false_iff_ne]; omega
    go_wp2
    go_ret
    exact ⟨⟨t, by omega, rfl⟩, B8.out⟩
end Go.Proofs.YtdehbaafbbjcgaaGreatDoor
namespace Go.Proofs.YtdehbaafbbjcgaaGreatDoor
open Go.RowKit Go.Lib

set_option linter.unusedSimpArgs false in
set_option maxHeartbeats 4000000 in
set_option maxRecDepth 100000 in
theorem implRegroup86 (zs : List Nat) (a : Option Addr) (cap : Nat) (w : World) (hl : zs.length ≤ 100000) (hz : ∀ x ∈ zs, x < 256) (ha : IsBts w a zs) :
    Calls Tryz.prog 21 #[.slice a zs.length cap, .int .i64 8, .int .i64 6] w fun e w' => ∃ v, e = .returned (.tuple #[v, .int .u8 (((rgo zs 0 0).2.1 : Nat) : Int), .int .i64 (((rgo zs 0 0).2.2 : Nat) : Int)]) ∧ OwnB w' w.heap.size v (rgo zs 0 0).1 ∧ Below w.heap.size w w' := by
  obtain ⟨i0, hi, hz0, hz1, hz2⟩ := info_parts infoByte
  have hRl := rgo_len zs 0 0
  obtain ⟨⟨R, RH, RC⟩, hR⟩ : ∃ R, R = rgo zs 0 0 := ⟨_, rfl⟩
  rw [← hR] at hRl ⊢
  have HR : Hid (((R, RH, RC) : List Nat × Nat × Nat) = rgo zs 0 0) := hR
  have HRl : Hid (R.length ≤ 200000) := by show _ ≤ _; simp only at hRl; omega
  obtain ⟨n, hn⟩ : ∃ n, n = zs.length := ⟨_, rfl⟩
  rw [← hn]
  have HN : Hid (n = zs.length ∧ n ≤ 100000) := ⟨hn, by omega⟩
  have HA : Hid (IsBts w a zs) := ha
  have HZ : Hid (∀ x ∈ zs, x < 256) := hz
  clear hR hRl hn hl ha hz
  go_enter Tryz.func21, Tryz.ntmps21
  go_wp2
  go_loopw [9, 10, 11, 16] (fun v h c i wr => ∃ (k h' c' : Nat) (pre : List Nat), i = .int .i64 k ∧ h = .int .i64 h' ∧ c = .int .i64 c' ∧ k ≤ n ∧ h' < 2 ^ c' ∧ (c' = 0 ∨ c' = 2 ∨ c' = 4) ∧ OwnB wr w.heap.size v pre ∧ (R, RH, RC) = (pre ++ (rgo (zs.drop k) h' c').1, (rgo (zs.drop k) h' c').2) ∧ Below w.heap.size w wr)
    (fun _ _ _ i _ => n - (RowKit.intOf i).toNat)
  case atStart =>
    exact ⟨0, 0, 0, [], rfl, rfl, rfl, Nat.zero_le _, by decide, .inl rfl, ownB_nil _ _, HR.out, Below.refl _ _⟩
  case round =>
    obtain ⟨k, h, c, pre, rfl, rfl, rfl, hk, hh, hc, hown, hat, hbel⟩ := hrel
    have HB : Hid (Below w.heap.size w wr) := hbel
    have HO : Hid _ := hown
    have HT : Hid _ := hat
    clear hown hat hbel
    by_cases hlt : k < n
    rotate_left
    · have q2 : ¬ (k : Int) < (n : Int) := by omega
      have hT := HT.out
      rw [List.drop_eq_nil_of_le (by have := HN.out.1; omega), rgo, List.append_nil] at hT
      simp only [Prod.mk.injEq] at hT
      obtain ⟨rfl, rfl, rfl⟩ := hT
      have hu : IntKind.u8.wrap (RH : Int) = (RH : Int) := by
        rw [IntKind.wrap_u8]
        have : RH < 64 := by rcases hc with rfl | rfl | rfl <;> simp at hh <;> omega
        omega
      clear HR HRl HT hc hh
      go_wp2
      go_ret3
      exact ⟨_, rfl, HO.out, HB.out⟩
    have hkz : k < zs.length := by have := HN.out.1; omega
    obtain ⟨z, hz⟩ : ∃ z, zs[k]? = some z := ⟨zs[k], List.getElem?_eq_getElem hkz⟩
    have hzl : z < 256 := HZ.out z (List.mem_of_getElem? hz)
    have hdr : zs.drop k = z :: zs.drop (k + 1) := by
      rw [List.drop_eq_getElem_cons hkz]
      congr 1
      rw [List.getElem?_eq_getElem hkz] at hz
      exact Option.some.inj hz
    obtain ⟨gb, rfl, hgb, hcs⟩ : ∃ b, a = some ⟨b, 0, none⟩ ∧ b < w.heap.size ∧ ∀ (i z : Nat), zs[i]? = some z → w.cell? ⟨b, i, none⟩ = some (.int .u8 (z : Int)) := by
      rcases HA.out with h | h
      · subst h; simp at hkz
      · exact h
    have hcell : wr.cell? ⟨gb, k, none⟩ = some (.int .u8 (z : Int)) := (HB.out.cell (p := ⟨gb, k, none⟩) hgb).trans (hcs k z hz)
    have q1 : (0 : Int) ≤ (k : Int) := Int.natCast_nonneg _
    have q2 : (k : Int) < (n : Int) := by omega
    have hn5 : n ≤ 100000 := HN.out.2
    have HT2 : Hid _ := (show ((R, RH, RC) : List Nat × Nat × Nat) = (pre ++ (rgo (z :: zs.drop (k + 1)) h c).1, (rgo (z :: zs.drop (k + 1)) h c).2) from by rw [← hdr]; exact HT.out)
    clear HT hdr hcs hgb hkz hz
    obtain ⟨va, vc, rfl, _⟩ := OwnB.form HO.out
    obtain ⟨x, hx⟩ : ∃ x, x = h * 256 + z := ⟨_, rfl⟩
    have o1 : bits .or .i64 ((h : Int) * 256) (z : Int) = (x : Int) := by
      have hhh : h < 16 := by rcases hc with rfl | rfl | rfl <;> simp at hh <;> omega
      have := or_low 8 (by omega) h z (by omega) (by omega)
      rw [hx, ← this]
      congr 1
    obtain ⟨pl, hpl⟩ : ∃ p, p = pre.length := ⟨_, rfl⟩
    have HPl : Hid (pl = pre.length) := hpl
    rw [← hpl] at HO ⊢
    have HX : Hid (x = h * 256 + z) := hx
    clear hx hpl
    rcases hc with rfl | rfl | rfl
    · obtain rfl : h = 0 := by simp at hh; exact hh
      have o0 : bits .or .i64 0 (z : Int) = (x : Int) := by simpa using o1
      clear o1
      have hxb : x < 256 := by have := HX.out; simp at hh; omega
      have HT3 : Hid (((R, RH, RC) : List Nat × Nat × Nat) = ((pre ++ [x / 4]) ++ (rgo (zs.drop (k + 1)) (x % 4) 2).1, (rgo (zs.drop (k + 1)) (x % 4) 2).2)) := by
        show _ = _
        rw [HT2.out, rgo, ← HX.out]
        simp
      obtain ⟨g0, hg0⟩ : ∃ g, g = x / 4 := ⟨_, rfl⟩
      obtain ⟨r0, hr0⟩ : ∃ r, r = x % 4 := ⟨_, rfl⟩
      have s0 : IntKind.u8.wrap ((x : Int) / 4) = (g0 : Int) := by rw [IntKind.wrap_u8]; omega
      have m0 : bits .and .i64 (x : Int) 3 = (r0 : Int) := by have := and_mask 2 (by omega) x; rw [hr0]; simpa using this
      have hbd : pl + 1 ≤ 200000 := by
        have h1 := congrArg (fun y => y.1.length) HT3.out
        have h2 := HRl.out
        have h3 := HPl.out
        simp only [List.length_append, List.length_cons, List.length_nil] at h1
        omega
      have HG : Hid (g0 = x / 4 ∧ r0 = x % 4) := by refine ⟨?_, ?_⟩ <;> omega
      clear hg0 hr0 hxb HT2 hh
      go_wp2
      refine wp_loop_rounds 2 ?_
      rw [rounds_succ]
      have hO0 : wr.ownsRow w.heap.size 5 1 (.slice va pl vc) (pl) (((pre).map (fun x : Nat => (x : Int))).map (Value.int .u8)) := by
        have h2 := HO.out
        unfold OwnB at h2
        simpa only [List.length_append, List.length_cons, List.length_nil, ← HPl.out] using h2
      have hs0 : w.heap.size ≤ wr.heap.size := HB.out.size
      go_wp2_with (at_builtin; refine wpList_append_own _ rfl _ _ 22 rfl w.heap.size 5 i0 (.int .u8 0) 1 1 Tryz.underlying22 hi hz0 hz1 hz2 rfl (by decide) _ _ _ rfl (hO0.alloc _) ⟨wr.heap.size, 0, none⟩ 1 1 [.int .u8 (g0 : Int)] rfl rfl ?c1 ?c2 ?c3 ?c4 ?c5 ?_)
      case c1 => exact cells_one (by simp)
      case c2 => intro u hu; simp at hu; subst hu; rfl
      case c3 => unfold maxLen; omega
      case c4 => omega
      case c5 => simp; omega
      intro y0 w0 hown0 hgrow0 _
      have B0 : Hid (Below w.heap.size w w0) := (HB.out.alloc (by omega) _).grown hgrow0 (by simp; omega) (fun j hj => (hO0.lt j hj).1)
      have O0 : Hid (OwnB w0 w.heap.size y0 (pre ++ [g0])) := by
        show World.ownsRow _ _ _ _ _ _ _
        simpa [List.map_append, ← HPl.out] using hown0
      clear hgrow0 hown0 hO0 hs0 HO HB
      go_wp2
      rw [rounds_succ]
      go_wp2
      go_roundw
      case rel =>
        have hT := HT3.out
        obtain ⟨e0, e1⟩ := HG.out
        rw [← e0, ← e1] at hT
        exact ⟨k + 1, r0, 2, _, by go_num, by go_num, by go_num, by omega, by simp; omega, by simp, O0.out, hT, B0.out⟩
      case measure => simp [RowKit.intOf]; omega
    · have hh4 : h < 4 := by simpa using hh
      have hxb : x < 1024 := by have := HX.out; simp at hh; omega
      have HT3 : Hid (((R, RH, RC) : List Nat × Nat × Nat) = ((pre ++ [x / 16]) ++ (rgo (zs.drop (k + 1)) (x % 16) 4).1, (rgo (zs.drop (k + 1)) (x % 16) 4).2)) := by
        show _ = _
        rw [HT2.out, rgo, ← HX.out]
        simp
      obtain ⟨g0, hg0⟩ : ∃ g, g = x / 16 := ⟨_, rfl⟩
      obtain ⟨r0, hr0⟩ : ∃ r, r = x % 16 := ⟨_, rfl⟩
      have s0 : IntKind.u8.wrap ((x : Int) / 16) = (g0 : Int) := by rw [IntKind.wrap_u8]; omega
      have m0 : bits .and .i64 (x : Int) 15 = (r0 : Int) := by have := and_mask 4 (by omega) x; rw [hr0]; simpa using this
      have hbd : pl + 1 ≤ 200000 := by
        have h1 := congrArg (fun y => y.1.length) HT3.out
        have h2 := HRl.out
        have h3 := HPl.out
        simp only [List.length_append, List.length_cons, List.length_nil] at h1
        omega
      have HG : Hid (g0 = x / 16 ∧ r0 = x % 16) := by refine ⟨?_, ?_⟩ <;> omega
      clear hg0 hr0 hxb HT2 hh
      go_wp2
      refine wp_loop_rounds 2 ?_
      rw [rounds_succ]
      have hO0 : wr.ownsRow w.heap.size 5 1 (.slice va pl vc) (pl) (((pre).map (fun x : Nat => (x : Int))).map (Value.int .u8)) := by
        have h2 := HO.out
        unfold OwnB at h2
        simpa only [List.length_append, List.length_cons, List.length_nil, ← HPl.out] using h2
      have hs0 : w.heap.size ≤ wr.heap.size := HB.out.size
      go_wp2_with (at_builtin; refine wpList_append_own _ rfl _ _ 22 rfl w.heap.size 5 i0 (.int .u8 0) 1 1 Tryz.underlying22 hi hz0 hz1 hz2 rfl (by decide) _ _ _ rfl (hO0.alloc _) ⟨wr.heap.size, 0, none⟩ 1 1 [.int .u8 (g0 : Int)] rfl rfl ?c1 ?c2 ?c3 ?c4 ?c5 ?_)
      case c1 => exact cells_one (by simp)
      case c2 => intro u hu; simp at hu; subst hu; rfl
      case c3 => unfold maxLen; omega
      case c4 => omega
      case c5 => simp; omega
      intro y0 w0 hown0 hgrow0 _
      have B0 : Hid (Below w.heap.size w w0) := (HB.out.alloc (by omega) _).grown hgrow0 (by simp; omega) (fun j hj => (hO0.lt j hj).1)
      have O0 : Hid (OwnB w0 w.heap.size y0 (pre ++ [g0])) := by
        show World.ownsRow _ _ _ _ _ _ _
        simpa [List.map_append, ← HPl.out] using hown0
      clear hgrow0 hown0 hO0 hs0 HO HB
      go_wp2
      rw [rounds_succ]
      go_wp2
      go_roundw
      case rel =>
        have hT := HT3.out
        obtain ⟨e0, e1⟩ := HG.out
        rw [← e0, ← e1] at hT
        exact ⟨k + 1, r0, 4, _, by go_num, by go_num, by go_num, by omega, by simp; omega, by simp, O0.out, hT, B0.out⟩
      case measure => simp [RowKit.intOf]; omega
    · have hh4 : h < 16 := by simpa using hh
      have hxb : x < 4096 := by have := HX.out; simp at hh; omega
      have HT3 : Hid (((R, RH, RC) : List Nat × Nat × Nat) = ((pre ++ [x / 64, x % 64]) ++ (rgo (zs.drop (k + 1)) (0) 0).1, (rgo (zs.drop (k + 1)) (0) 0).2)) := by
        show _ = _
        rw [HT2.out, rgo, ← HX.out]
        simp
      obtain ⟨g0, hg0⟩ : ∃ g, g = x / 64 := ⟨_, rfl⟩
      obtain ⟨r0, hr0⟩ : ∃ r, r = x % 64 := ⟨_, rfl⟩
      have s0 : IntKind.u8.wrap ((x : Int) / 64) = (g0 : Int) := by rw [IntKind.wrap_u8]; omega
      have m0 : bits .and .i64 (x : Int) 63 = (r0 : Int) := by have := and_mask 6 (by omega) x; rw [hr0]; simpa using this
      obtain ⟨g1, hg1⟩ : ∃ g, g = r0 / 1 := ⟨_, rfl⟩
      obtain ⟨r1, hr1⟩ : ∃ r, r = r0 % 1 := ⟨_, rfl⟩
      have s1 : IntKind.u8.wrap (r0 : Int) = (g1 : Int) := by rw [IntKind.wrap_u8]; omega
      have m1 : bits .and .i64 (r0 : Int) 0 = (r1 : Int) := by have := and_mask 0 (by omega) r0; rw [hr1]; simpa using this
      have hbd : pl + 2 ≤ 200000 := by
        have h1 := congrArg (fun y => y.1.length) HT3.out
        have h2 := HRl.out
        have h3 := HPl.out
        simp only [List.length_append, List.length_cons, List.length_nil] at h1
        omega
      have HG : Hid (g0 = x / 64 ∧ g1 = x % 64 ∧ r1 = 0) := by refine ⟨?_, ?_, ?_⟩ <;> omega
      clear hg0 hr0 hg1 hr1 hxb HT2 hh
      go_wp2
      refine wp_loop_rounds 3 ?_
      rw [rounds_succ]
      have hO0 : wr.ownsRow w.heap.size 5 1 (.slice va pl vc) (pl) (((pre).map (fun x : Nat => (x : Int))).map (Value.int .u8)) := by
        have h2 := HO.out
        unfold OwnB at h2
        simpa only [List.length_append, List.length_cons, List.length_nil, ← HPl.out] using h2
      have hs0 : w.heap.size ≤ wr.heap.size := HB.out.size
      go_wp2_with (at_builtin; refine wpList_append_own _ rfl _ _ 22 rfl w.heap.size 5 i0 (.int .u8 0) 1 1 Tryz.underlying22 hi hz0 hz1 hz2 rfl (by decide) _ _ _ rfl (hO0.alloc _) ⟨wr.heap.size, 0, none⟩ 1 1 [.int .u8 (g0 : Int)] rfl rfl ?c1 ?c2 ?c3 ?c4 ?c5 ?_)
      case c1 => exact cells_one (by simp)
      case c2 => intro u hu; simp at hu; subst hu; rfl
      case c3 => unfold maxLen; omega
      case c4 => omega
      case c5 => simp; omega
      intro y0 w0 hown0 hgrow0 _
      have B0 : Hid (Below w.heap.size w w0) := (HB.out.alloc (by omega) _).grown hgrow0 (by simp; omega) (fun j hj => (hO0.lt j hj).1)
      have O0 : Hid (OwnB w0 w.heap.size y0 (pre ++ [g0])) := by
        show World.ownsRow _ _ _ _ _ _ _
        simpa [List.map_append, ← HPl.out] using hown0
      clear hgrow0 hown0 hO0 hs0 HO HB
      go_wp2
      rw [rounds_succ]
      have hO1 : w0.ownsRow w.heap.size 5 1 y0 (pl + 1) (((pre ++ [g0]).map (fun x : Nat => (x : Int))).map (Value.int .u8)) := by
        have h2 := O0.out
        unfold OwnB at h2
        simpa only [List.length_append, List.length_cons, List.length_nil, ← HPl.out, Nat.zero_add] using h2
      have hs1 : w.heap.size ≤ w0.heap.size := B0.out.size
      go_wp2_with (at_builtin; refine wpList_append_own _ rfl _ _ 22 rfl w.heap.size 5 i0 (.int .u8 0) 1 1 Tryz.underlying22 hi hz0 hz1 hz2 rfl (by decide) _ _ _ rfl (hO1.alloc _) ⟨w0.heap.size, 0, none⟩ 1 1 [.int .u8 (g1 : Int)] rfl rfl ?c1 ?c2 ?c3 ?c4 ?c5 ?_)
      case c1 => exact cells_one (by simp)
      case c2 => intro u hu; simp at hu; subst hu; rfl
      case c3 => unfold maxLen; omega
      case c4 => omega
      case c5 => simp; omega
      intro y1 w1 hown1 hgrow1 _
      have B1 : Hid (Below w.heap.size w w1) := (B0.out.alloc (by omega) _).grown hgrow1 (by simp; omega) (fun j hj => (hO1.lt j hj).1)
      have O1 : Hid (OwnB w1 w.heap.size y1 (pre ++ [g0, g1])) := by
        show World.ownsRow _ _ _ _ _ _ _
        simpa [List.map_append, ← HPl.out] using hown1
      clear hgrow1 hown1 hO1 hs1 O0 B0
      go_wp2
      rw [rounds_succ]
      go_wp2
      go_roundw
      case rel =>
        have hT := HT3.out
        obtain ⟨e0, e1, e2⟩ := HG.out
        rw [← e0, ← e1] at hT
        exact ⟨k + 1, 0, 0, _, by go_num, by rw [e2], by go_num, by omega, by decide, by simp, O1.out, hT, B1.out⟩
      case measure => simp [RowKit.intOf]; omega
end Go.Proofs.YtdehbaafbbjcgaaGreatDoor
