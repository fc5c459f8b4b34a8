/- impl.regroup from 8 bits to 6, walked. impl.Base64, walked. What Base64Read tells, as a value. The map of signs: impl.signValues, walked. impl.readSigns, walked. -/
import Derived.Test.YtjkmfjegphpjkaaGreatDoorJW06
import Derived.Deep.Cut
import Derived.Test.YtjkmfjegphpjkaaGreatDoorJW04
import Derived.Deep.MidRow
import Derived.Maps.OwnSet
import Derived.Lib.OthersKept
import Derived.Lib.TrimU
import Derived.WalkArith
namespace Go.Proofs.YtjkmfjegphpjkaaGreatDoor
open Go.RowKit Go.Lib

set_option linter.unusedSimpArgs false in
set_option maxHeartbeats 4000000 in
set_option maxRecDepth 100000 in
theorem implRegroup86 (zs : List Nat) (a : Option Addr) (cap : Nat) (w : World) (hl : zs.length ≤ 100000) (hz : ∀ x ∈ zs, x < 256) (ha : IsBts w a zs) :
    Calls Tryz.prog 23 #[.slice a zs.length cap, .int .i64 8, .int .i64 6] w fun e w' => ∃ v, e = .returned (.tuple #[v, .int .u8 (((rgo zs 0 0).2.1 : Nat) : Int), .int .i64 (((rgo zs 0 0).2.2 : Nat) : Int)]) ∧ OwnB w' w.heap.size v (rgo zs 0 0).1 ∧ Below w.heap.size w w' := by
  obtain ⟨i0, hi, hz0, hz1, hz2⟩ := info_parts infoByte
  have hRl := rgo_len zs 0 0
  obtain ⟨⟨R, RH, RC⟩, hR⟩ : ∃ R, R = rgo zs 0 0 := ⟨_, rfl⟩
  rw [← hR] at hRl ⊢
  have HR : Hid (((R, RH, RC) : List Nat × Nat × Nat) = rgo zs 0 0) := hR
  have HRl : Hid (R.length ≤ 200000) := by show _ ≤ _; simp only at hRl; omega
  obtain ⟨n, hn⟩ : ∃ n, n = zs.length := ⟨_, rfl⟩
  rw [← hn]
  have HN : Hid (n = zs.length ∧ n ≤ 100000) := ⟨hn, by omega⟩
  have HA : Hid (IsBts w a zs) := ha
  have HZ : Hid (∀ x ∈ zs, x < 256) := hz
  clear hR hRl hn hl ha hz
  go_enter Tryz.func23, Tryz.ntmps23
  go_wp2
  go_loopw [9, 10, 11, 16] (fun v h c i wr => ∃ (k h' c' : Nat) (pre : List Nat), i = .int .i64 k ∧ h = .int .i64 h' ∧ c = .int .i64 c' ∧ k ≤ n ∧ h' < 2 ^ c' ∧ (c' = 0 ∨ c' = 2 ∨ c' = 4) ∧ OwnB wr w.heap.size v pre ∧ (R, RH, RC) = (pre ++ (rgo (zs.drop k) h' c').1, (rgo (zs.drop k) h' c').2) ∧ Below w.heap.size w wr)
    (fun _ _ _ i _ => n - (RowKit.intOf i).toNat)
  case atStart =>
    exact ⟨0, 0, 0, [], rfl, rfl, rfl, Nat.zero_le _, by decide, .inl rfl, ownB_nil _ _, HR.out, Below.refl _ _⟩
  case round =>
    obtain ⟨k, h, c, pre, rfl, rfl, rfl, hk, hh, hc, hown, hat, hbel⟩ := hrel
    have HB : Hid (Below w.heap.size w wr) := hbel
    have HO : Hid _ := hown
    have HT : Hid _ := hat
    clear hown hat hbel
    by_cases hlt : k < n
    rotate_left
    · have q2 : ¬ (k : Int) < (n : Int) := by omega
      have hT := HT.out
      rw [List.drop_eq_nil_of_le (by have := HN.out.1; omega), rgo, List.append_nil] at hT
      simp only [Prod.mk.injEq] at hT
      obtain ⟨rfl, rfl, rfl⟩ := hT
      have hu : IntKind.u8.wrap (RH : Int) = (RH : Int) := by
        rw [IntKind.wrap_u8]
        have : RH < 64 := by rcases hc with rfl | rfl | rfl <;> simp at hh <;> omega
        omega
      clear HR HRl HT hc hh
      go_wp2
      go_ret3
      exact ⟨_, rfl, HO.out, HB.out⟩
    have hkz : k < zs.length := by have := HN.out.1; omega
    obtain ⟨z, hz⟩ : ∃ z, zs[k]? = some z := ⟨zs[k], List.getElem?_eq_getElem hkz⟩
    have hzl : z < 256 := HZ.out z (List.mem_of_getElem? hz)
    have hdr : zs.drop k = z :: zs.drop (k + 1) := by
      rw [List.drop_eq_getElem_cons hkz]
      congr 1
      rw [List.getElem?_eq_getElem hkz] at hz
      exact Option.some.inj hz
    obtain ⟨gb, rfl, hgb, hcs⟩ : ∃ b, a = some ⟨b, 0, none⟩ ∧ b < w.heap.size ∧ ∀ (i z : Nat), zs[i]? = some z → w.cell? ⟨b, i, none⟩ = some (.int .u8 (z : Int)) := by
      rcases HA.out with h | h
      · subst h; simp at hkz
      · exact h
    have hcell : wr.cell? ⟨gb, k, none⟩ = some (.int .u8 (z : Int)) := (HB.out.cell (p := ⟨gb, k, none⟩) hgb).trans (hcs k z hz)
    have q1 : (0 : Int) ≤ (k : Int) := Int.natCast_nonneg _
    have q2 : (k : Int) < (n : Int) := by omega
    have hn5 : n ≤ 100000 := HN.out.2
    have HT2 : Hid _ := (show ((R, RH, RC) : List Nat × Nat × Nat) = (pre ++ (rgo (z :: zs.drop (k + 1)) h c).1, (rgo (z :: zs.drop (k + 1)) h c).2) from by rw [← hdr]; exact HT.out)
    clear HT hdr hcs hgb hkz hz
    obtain ⟨va, vc, rfl, _⟩ := OwnB.form HO.out
    obtain ⟨x, hx⟩ : ∃ x, x = h * 256 + z := ⟨_, rfl⟩
    have o1 : bits .or .i64 ((h : Int) * 256) (z : Int) = (x : Int) := by
      have hhh : h < 16 := by rcases hc with rfl | rfl | rfl <;> simp at hh <;> omega
      have := or_low 8 (by omega) h z (by omega) (by omega)
      rw [hx, ← this]
      congr 1
    obtain ⟨pl, hpl⟩ : ∃ p, p = pre.length := ⟨_, rfl⟩
    have HPl : Hid (pl = pre.length) := hpl
    rw [← hpl] at HO ⊢
    have HX : Hid (x = h * 256 + z) := hx
    clear hx hpl
    rcases hc with rfl | rfl | rfl
    · obtain rfl : h = 0 := by simp at hh; exact hh
      have o0 : bits .or .i64 0 (z : Int) = (x : Int) := by simpa using o1
      clear o1
      have hxb : x < 256 := by have := HX.out; simp at hh; omega
      have HT3 : Hid (((R, RH, RC) : List Nat × Nat × Nat) = ((pre ++ [x / 4]) ++ (rgo (zs.drop (k + 1)) (x % 4) 2).1, (rgo (zs.drop (k + 1)) (x % 4) 2).2)) := by
        show _ = _
        rw [HT2.out, rgo, ← HX.out]
        simp
      obtain ⟨g0, hg0⟩ : ∃ g, g = x / 4 := ⟨_, rfl⟩
      obtain ⟨r0, hr0⟩ : ∃ r, r = x % 4 := ⟨_, rfl⟩
      have s0 : IntKind.u8.wrap ((x : Int) / 4) = (g0 : Int) := by rw [IntKind.wrap_u8]; omega
      have m0 : bits .and .i64 (x : Int) 3 = (r0 : Int) := by have := and_mask 2 (by omega) x; rw [hr0]; simpa using this
      have hbd : pl + 1 ≤ 200000 := by
        have h1 := congrArg (fun y => y.1.length) HT3.out
        have h2 := HRl.out
        have h3 := HPl.out
        simp only [List.length_append, List.length_cons, List.length_nil] at h1
        omega
      have HG : Hid (g0 = x / 4 ∧ r0 = x % 4) := by refine ⟨?_, ?_⟩ <;> omega
      clear hg0 hr0 hxb HT2 hh
      go_wp2
      refine wp_loop_rounds 2 ?_
      rw [rounds_succ]
      have hO0 : wr.ownsRow w.heap.size 5 1 (.slice va pl vc) (pl) (((pre).map (fun x : Nat => (x : Int))).map (Value.int .u8)) := by
        have h2 := HO.out
        unfold OwnB at h2
        simpa only [List.length_append, List.length_cons, List.length_nil, ← HPl.out] using h2
      have hs0 : w.heap.size ≤ wr.heap.size := HB.out.size
      go_wp2_with (at_builtin; refine wpList_append_own _ rfl _ _ 22 rfl w.heap.size 5 i0 (.int .u8 0) 1 1 Tryz.underlying22 hi hz0 hz1 hz2 rfl (by decide) _ _ _ rfl (hO0.alloc _) ⟨wr.heap.size, 0, none⟩ 1 1 [.int .u8 (g0 : Int)] rfl rfl ?c1 ?c2 ?c3 ?c4 ?c5 ?_)
      case c1 => exact cells_one (by simp)
      case c2 => intro u hu; simp at hu; subst hu; rfl
      case c3 => unfold maxLen; omega
      case c4 => omega
      case c5 => simp; omega
      intro y0 w0 hown0 hgrow0 _
      have B0 : Hid (Below w.heap.size w w0) := (HB.out.alloc (by omega) _).grown hgrow0 (by simp; omega) (fun j hj => (hO0.lt j hj).1)
      have O0 : Hid (OwnB w0 w.heap.size y0 (pre ++ [g0])) := by
        show World.ownsRow _ _ _ _ _ _ _
        simpa [List.map_append, ← HPl.out] using hown0
      clear hgrow0 hown0 hO0 hs0 HO HB
      go_wp2
      rw [rounds_succ]
      go_wp2
      go_roundw
      case rel =>
        have hT := HT3.out
        obtain ⟨e0, e1⟩ := HG.out
        rw [← e0, ← e1] at hT
        exact ⟨k + 1, r0, 2, _, by go_num, by go_num, by go_num, by omega, by simp; omega, by simp, O0.out, hT, B0.out⟩
      case measure => simp [RowKit.intOf]; omega
    · have hh4 : h < 4 := by simpa using hh
      have hxb : x < 1024 := by have := HX.out; simp at hh; omega
      have HT3 : Hid (((R, RH, RC) : List Nat × Nat × Nat) = ((pre ++ [x / 16]) ++ (rgo (zs.drop (k + 1)) (x % 16) 4).1, (rgo (zs.drop (k + 1)) (x % 16) 4).2)) := by
        show _ = _
        rw [HT2.out, rgo, ← HX.out]
        simp
      obtain ⟨g0, hg0⟩ : ∃ g, g = x / 16 := ⟨_, rfl⟩
      obtain ⟨r0, hr0⟩ : ∃ r, r = x % 16 := ⟨_, rfl⟩
      have s0 : IntKind.u8.wrap ((x : Int) / 16) = (g0 : Int) := by rw [IntKind.wrap_u8]; omega
      have m0 : bits .and .i64 (x : Int) 15 = (r0 : Int) := by have := and_mask 4 (by omega) x; rw [hr0]; simpa using this
      have hbd : pl + 1 ≤ 200000 := by
        have h1 := congrArg (fun y => y.1.length) HT3.out
        have h2 := HRl.out
        have h3 := HPl.out
        simp only [List.length_append, List.length_cons, List.length_nil] at h1
        omega
      have HG : Hid (g0 = x / 16 ∧ r0 = x % 16) := by refine ⟨?_, ?_⟩ <;> omega
      clear hg0 hr0 hxb HT2 hh
      go_wp2
      refine wp_loop_rounds 2 ?_
      rw [rounds_succ]
      have hO0 : wr.ownsRow w.heap.size 5 1 (.slice va pl vc) (pl) (((pre).map (fun x : Nat => (x : Int))).map (Value.int .u8)) := by
        have h2 := HO.out
        unfold OwnB at h2
        simpa only [List.length_append, List.length_cons, List.length_nil, ← HPl.out] using h2
      have hs0 : w.heap.size ≤ wr.heap.size := HB.out.size
      go_wp2_with (at_builtin; refine wpList_append_own _ rfl _ _ 22 rfl w.heap.size 5 i0 (.int .u8 0) 1 1 Tryz.underlying22 hi hz0 hz1 hz2 rfl (by decide) _ _ _ rfl (hO0.alloc _) ⟨wr.heap.size, 0, none⟩ 1 1 [.int .u8 (g0 : Int)] rfl rfl ?c1 ?c2 ?c3 ?c4 ?c5 ?_)
      case c1 => exact cells_one (by simp)
      case c2 => intro u hu; simp at hu; subst hu; rfl
      case c3 => unfold maxLen; omega
      case c4 => omega
      case c5 => simp; omega
      intro y0 w0 hown0 hgrow0 _
      have B0 : Hid (Below w.heap.size w w0) := (HB.out.alloc (by omega) _).grown hgrow0 (by simp; omega) (fun j hj => (hO0.lt j hj).1)
      have O0 : Hid (OwnB w0 w.heap.size y0 (pre ++ [g0])) := by
        show World.ownsRow _ _ _ _ _ _ _
        simpa [List.map_append, ← HPl.out] using hown0
      clear hgrow0 hown0 hO0 hs0 HO HB
      go_wp2
      rw [rounds_succ]
      go_wp2
      go_roundw
      case rel =>
        have hT := HT3.out
        obtain ⟨e0, e1⟩ := HG.out
        rw [← e0, ← e1] at hT
        exact ⟨k + 1, r0, 4, _, by go_num, by go_num, by go_num, by omega, by simp; omega, by simp, O0.out, hT, B0.out⟩
      case measure => simp [RowKit.intOf]; omega
    · have hh4 : h < 16 := by simpa using hh
      have hxb : x < 4096 := by have := HX.out; simp at hh; omega
      have HT3 : Hid (((R, RH, RC) : List Nat × Nat × Nat) = ((pre ++ [x / 64, x % 64]) ++ (rgo (zs.drop (k + 1)) (0) 0).1, (rgo (zs.drop (k + 1)) (0) 0).2)) := by
        show _ = _
        rw [HT2.out, rgo, ← HX.out]
        simp
      obtain ⟨g0, hg0⟩ : ∃ g, g = x / 64 := ⟨_, rfl⟩
      obtain ⟨r0, hr0⟩ : ∃ r, r = x % 64 := ⟨_, rfl⟩
      have s0 : IntKind.u8.wrap ((x : Int) / 64) = (g0 : Int) := by rw [IntKind.wrap_u8]; omega
      have m0 : bits .and .i64 (x : Int) 63 = (r0 : Int) := by have := and_mask 6 (by omega) x; rw [hr0]; simpa using this
      obtain ⟨g1, hg1⟩ : ∃ g, g = r0 / 1 := ⟨_, rfl⟩
      obtain ⟨r1, hr1⟩ : ∃ r, r = r0 % 1 := ⟨_, rfl⟩
      have s1 : IntKind.u8.wrap (r0 : Int) = (g1 : Int) := by rw [IntKind.wrap_u8]; omega
      have m1 : bits .and .i64 (r0 : Int) 0 = (r1 : Int) := by have := and_mask 0 (by omega) r0; rw [hr1]; simpa using this
      have hbd : pl + 2 ≤ 200000 := by
        have h1 := congrArg (fun y => y.1.length) HT3.out
        have h2 := HRl.out
        have h3 := HPl.out
        simp only [List.length_append, List.length_cons, List.length_nil] at h1
        omega
      have HG : Hid (g0 = x / 64 ∧ g1 = x % 64 ∧ r1 = 0) := by refine ⟨?_, ?_, ?_⟩ <;> omega
      clear hg0 hr0 hg1 hr1 hxb HT2 hh
      go_wp2
      refine wp_loop_rounds 3 ?_
      rw [rounds_succ]
      have hO0 : wr.ownsRow w.heap.size 5 1 (.slice va pl vc) (pl) (((pre).map (fun x : Nat => (x : Int))).map (Value.int .u8)) := by
        have h2 := HO.out
        unfold OwnB at h2
        simpa only [List.length_append, List.length_cons, List.length_nil, ← HPl.out] using h2
      have hs0 : w.heap.size ≤ wr.heap.size := HB.out.size
      go_wp2_with (at_builtin; refine wpList_append_own _ rfl _ _ 22 rfl w.heap.size 5 i0 (.int .u8 0) 1 1 Tryz.underlying22 hi hz0 hz1 hz2 rfl (by decide) _ _ _ rfl (hO0.alloc _) ⟨wr.heap.size, 0, none⟩ 1 1 [.int .u8 (g0 : Int)] rfl rfl ?c1 ?c2 ?c3 ?c4 ?c5 ?_)
      case c1 => exact cells_one (by simp)
      case c2 => intro u hu; simp at hu; subst hu; rfl
      case c3 => unfold maxLen; omega
      case c4 => omega
      case c5 => simp; omega
      intro y0 w0 hown0 hgrow0 _
      have B0 : Hid (Below w.heap.size w w0) := (HB.out.alloc (by omega) _).grown hgrow0 (by simp; omega) (fun j hj => (hO0.lt j hj).1)
      have O0 : Hid (OwnB w0 w.heap.size y0 (pre ++ [g0])) := by
        show World.ownsRow _ _ _ _ _ _ _
        simpa [List.map_append, ← HPl.out] using hown0
      clear hgrow0 hown0 hO0 hs0 HO HB
      go_wp2
      rw [rounds_succ]
      have hO1 : w0.ownsRow w.heap.size 5 1 y0 (pl + 1) (((pre ++ [g0]).map (fun x : Nat => (x : Int))).map (Value.int .u8)) := by
        have h2 := O0.out
        unfold OwnB at h2
        simpa only [List.length_append, List.length_cons, List.length_nil, ← HPl.out, Nat.zero_add] using h2
      have hs1 : w.heap.size ≤ w0.heap.size := B0.out.size
      go_wp2_with (at_builtin; refine wpList_append_own _ rfl _ _ 22 rfl w.heap.size 5 i0 (.int .u8 0) 1 1 Tryz.underlying22 hi hz0 hz1 hz2 rfl (by decide) _ _ _ rfl (hO1.alloc _) ⟨w0.heap.size, 0, none⟩ 1 1 [.int .u8 (g1 : Int)] rfl rfl ?c1 ?c2 ?c3 ?c4 ?c5 ?_)
      case c1 => exact cells_one (by simp)
      case c2 => intro u hu; simp at hu; subst hu; rfl
      case c3 => unfold maxLen; omega
      case c4 => omega
      case c5 => simp; omega
      intro y1 w1 hown1 hgrow1 _
      have B1 : Hid (Below w.heap.size w w1) := (B0.out.alloc (by omega) _).grown hgrow1 (by simp; omega) (fun j hj => (hO1.lt j hj).1)
      have O1 : Hid (OwnB w1 w.heap.size y1 (pre ++ [g0, g1])) := by
        show World.ownsRow _ _ _ _ _ _ _
        simpa [List.map_append, ← HPl.out] using hown1
      clear hgrow1 hown1 hO1 hs1 O0 B0
      go_wp2
      rw [rounds_succ]
      go_wp2
      go_roundw
      case rel =>
        have hT := HT3.out
        obtain ⟨e0, e1, e2⟩ := HG.out
        rw [← e0, ← e1] at hT
        exact ⟨k + 1, 0, 0, _, by go_num, by rw [e2], by go_num, by omega, by decide, by simp, O1.out, hT, B1.out⟩
      case measure => simp [RowKit.intOf]; omega
end Go.Proofs.YtjkmfjegphpjkaaGreatDoor
namespace Go.Proofs.YtjkmfjegphpjkaaGreatDoor
open Go.RowKit Go.Lib

theorem conv_bts (W : World) (s : ByteArray) : ∃ (c : Nat) (W' : World), (convert 9 22 (.string s)).run Tryz.prog W = .ok (.slice (some ⟨W.heap.size, 0, none⟩) s.size c) W' ∧ IsBts W' (some ⟨W.heap.size, 0, none⟩) (bts s) ∧ Below W.heap.size W W' := by
  refine ⟨_, _, run_bytes_of_string W 9 22 5 s Tryz.underlying9 Tryz.underlying22 Tryz.underlying5, .inr ⟨W.heap.size, rfl, by show _ < (W.heap.push _).size; simp, fun i z hz => ?_⟩, (Below.refl _ W).drew.alloc (Nat.le_refl _) _⟩
  have hi : i < s.data.size := by
    have : i < (bts s).length := by
      rcases Nat.lt_or_ge i (bts s).length with h | h
      · exact h
      · rw [List.getElem?_eq_none h] at hz; cases hz
    rw [bts_len] at this
    exact this
  rw [cell_of_row _ W.heap.size i _ _ _ (heap_alloc_new W.drew _), bytesRow_at s _ i hi]
  simp only [bts, List.getElem?_map, Array.getElem?_toList, Array.getElem?_eq_getElem hi, Option.map_some, Option.some.injEq] at hz
  rw [← hz]
/-- The first k values are signs already. -/
def mixG (G : List Nat) (k : Nat) : List Int := (G.take k).map sg ++ (G.drop k).map (fun x : Nat => (x : Int))
theorem mixG_zero (G : List Nat) : mixG G 0 = G.map (fun x : Nat => (x : Int)) := by simp [mixG]
theorem mixG_all (G : List Nat) : mixG G G.length = G.map sg := by simp [mixG]
theorem mixG_len (G : List Nat) (k : Nat) : (mixG G k).length = G.length := by simp [mixG]; omega
theorem mixG_at (G : List Nat) {k z : Nat} (h : G[k]? = some z) : (mixG G k)[k]? = some (z : Int) := by
  have hk : k < G.length := by
    rcases Nat.lt_or_ge k G.length with h' | h'
    · exact h'
    · rw [List.getElem?_eq_none h'] at h; cases h
  have hl : ((G.take k).map sg).length = k := by simp; omega
  rw [mixG, List.getElem?_append_right (by omega), hl, Nat.sub_self, List.getElem?_map, List.getElem?_drop, Nat.add_zero, h]
  rfl
theorem mixG_set (G : List Nat) {k z : Nat} (h : G[k]? = some z) : (mixG G k).set k (sg z) = mixG G (k + 1) := by
  have hk : k < G.length := by
    rcases Nat.lt_or_ge k G.length with h' | h'
    · exact h'
    · rw [List.getElem?_eq_none h'] at h; cases h
  have hz : G[k] = z := by rw [List.getElem?_eq_getElem hk] at h; exact Option.some.inj h
  have hl : ((G.take k).map sg).length = k := by simp; omega
  rw [mixG, mixG, List.set_append_right _ _ (by omega), hl, Nat.sub_self, List.drop_eq_getElem_cons hk, List.map_cons, List.set_cons_zero, List.take_succ_eq_append_getElem hk, List.map_append, hz]
  simp
set_option linter.unusedSimpArgs false in
set_option maxHeartbeats 4000000 in
set_option maxRecDepth 100000 in
theorem implBase64 (s : ByteArray) (w : World) (hm : s.size ≤ maxLen) :
    Calls Tryz.prog 6 #[.string s] w fun e w' => e = .returned (.string (base64D s)) ∧ Below w.heap.size w w' := by
  unfold maxLen at hm
  by_cases h4 : 4000 < s.size
  · have HF : Hid (base64D s = ⟨#[]⟩) := by show _ = _; rw [base64D, if_pos h4]
    go_enter Tryz.func6, Tryz.ntmps6
    go_wp2
    go_ret
    exact ⟨by rw [HF.out]; rfl, Below.refl _ _⟩
  obtain ⟨i0, hi, hz0, hz1, hz2⟩ := info_parts infoByte
  obtain ⟨G, hG⟩ : ∃ G, G = b64 (bts s) := ⟨_, rfl⟩
  have HF : Hid (base64D s = strOfNums (G.map sg)) := by show _ = _; rw [base64D, if_neg h4, hG]; rfl
  have HGl : Hid (G.length ≤ 8000) := by show _ ≤ _; have := b64_len (bts s); rw [bts_len, ← hG] at this; omega
  have HGt : Hid (∀ y ∈ G, y < 64) := by show ∀ y ∈ G, _; rw [hG]; exact b64_lt _ (bts_lt s)
  have hr := b64_rgo (bts s)
  have HRg : Hid (∀ V a cap, IsBts V a (bts s) → Calls Tryz.prog 23 #[.slice a s.size cap, .int .i64 8, .int .i64 6] V fun e w' => ∃ v, e = .returned (.tuple #[v, .int .u8 (((rgo (bts s) 0 0).2.1 : Nat) : Int), .int .i64 (((rgo (bts s) 0 0).2.2 : Nat) : Int)]) ∧ OwnB w' V.heap.size v (rgo (bts s) 0 0).1 ∧ Below V.heap.size V w') := fun V a cap h => by
    have := implRegroup86 (bts s) a cap V (by rw [bts_len]; omega) (bts_lt s) h
    rw [bts_len] at this
    exact this
  obtain ⟨⟨R, RH, RC⟩, hR⟩ : ∃ R, R = rgo (bts s) 0 0 := ⟨_, rfl⟩
  rw [← hG, ← hR] at hr
  rw [← hR] at HRg
  simp only at hr HRg
  have HR : Hid (G = R ++ tailG (RH, RC)) := hr.1
  have HC : Hid (RC = 0 ∨ (RC = 2 ∧ RH < 4) ∨ (RC = 4 ∧ RH < 16)) := hr.2
  obtain ⟨c0, w1, hcv, hb1, hbb1⟩ := conv_bts w s
  have HB1 : Hid (Below w.heap.size w w1) := hbb1
  have HI1 : Hid _ := hb1
  clear hr hG hR hb1 hbb1
  go_enter Tryz.func6, Tryz.ntmps6
  go_wp2_with fail
  refine (HRg.out _ _ _ HI1.out).mono ?_
  rintro e w2 ⟨v, rfl, ho, b2⟩
  have HB2 : Hid (Below w.heap.size w w2) := HB1.out.trans (b2.mono HB1.out.size)
  have HO : Hid (OwnB w2 w1.heap.size v R) := ho
  have S1 : Hid (w.heap.size ≤ w1.heap.size ∧ w1.heap.size ≤ w2.heap.size) := ⟨HB1.out.size, b2.size⟩
  clear ho b2 hcv HI1 HRg HB1 h4 hm
  obtain ⟨va, vc, rfl, _⟩ := OwnB.form HO.out
  obtain ⟨ci, hci⟩ : ∃ ci : Int, ci = (RC : Int) := ⟨_, rfl⟩
  rw [← hci]
  go_upto_if 19 with fail
  go_cut [3, 4, 5] from 8 (fun s3 _ _ wx => OwnB wx w1.heap.size s3 G ∧ Below w.heap.size w wx)
  case first =>
    rcases HC.out with rfl | ⟨rfl, hh⟩ | ⟨rfl, hh⟩
    · obtain rfl : ci = 0 := hci
      have hG : G = R := by rw [HR.out]; simp [tailG]
      subst hG
      go_wp2_with fail
      go_meet
      case rel => exact ⟨HO.out, HB2.out⟩
    · obtain rfl : ci = 2 := hci
      obtain ⟨q, hq⟩ : ∃ q, q = RH * 16 := ⟨_, rfl⟩
      have hG : G = R ++ [q] := by rw [HR.out, hq]; simp [tailG]
      have sw : IntKind.u8.wrap ((RH : Int) * 16) = (q : Int) := by rw [IntKind.wrap_u8]; omega
      obtain ⟨pl, hpl⟩ : ∃ p, p = R.length := ⟨_, rfl⟩
      have HPl : Hid (pl = R.length) := hpl
      have hO : w2.ownsRow w1.heap.size 5 1 (.slice va pl vc) pl ((R.map (fun x : Nat => (x : Int))).map (Value.int .u8)) := by
        have h2 := HO.out
        unfold OwnB at h2
        rw [← hpl] at h2
        exact h2
      have hbd : pl + 1 ≤ 8000 := by
        have h1 := HGl.out
        rw [hG, List.length_append, ← hpl] at h1
        exact h1
      rw [← hpl]
      have HGG : Hid (G = R ++ [q]) := hG
      clear hpl hq hG
      go_wp2_with (at_builtin; refine wpList_append_own _ rfl _ _ 22 rfl w1.heap.size 5 i0 (.int .u8 0) 1 1 Tryz.underlying22 hi hz0 hz1 hz2 rfl (by decide) _ _ _ rfl (hO.alloc _) ⟨w2.heap.size, 0, none⟩ 1 1 [.int .u8 (q : Int)] rfl rfl (cells_one (by simp)) (by simp [Value.oneCell']) ?c3 ?c4 ?c5 ?_)
      case c3 => unfold maxLen; omega
      case c4 => omega
      case c5 => have := S1.out; simp; omega
      intro y w3 hown3 hgrow3 _
      have B3 : Hid (Below w.heap.size w w3) := (HB2.out.alloc (by have := S1.out; omega) _).grown hgrow3 (by have := S1.out; simp; omega) (fun j hj => by have := (hO.lt j hj).1; have := S1.out; omega)
      have O3 : Hid (OwnB w3 w1.heap.size y G) := by
        show World.ownsRow _ _ _ _ _ _ _
        rw [HGG.out, List.length_append, ← HPl.out]
        simpa [List.map_append] using hown3
      clear hgrow3 hown3 hO
      go_wp2
      go_meet
      case rel => exact ⟨O3.out, B3.out⟩
    · obtain rfl : ci = 4 := hci
      obtain ⟨q, hq⟩ : ∃ q, q = RH * 4 := ⟨_, rfl⟩
      have hG : G = R ++ [q] := by rw [HR.out, hq]; simp [tailG]
      have sw : IntKind.u8.wrap ((RH : Int) * 4) = (q : Int) := by rw [IntKind.wrap_u8]; omega
      obtain ⟨pl, hpl⟩ : ∃ p, p = R.length := ⟨_, rfl⟩
      have HPl : Hid (pl = R.length) := hpl
      have hO : w2.ownsRow w1.heap.size 5 1 (.slice va pl vc) pl ((R.map (fun x : Nat => (x : Int))).map (Value.int .u8)) := by
        have h2 := HO.out
        unfold OwnB at h2
        rw [← hpl] at h2
        exact h2
      have hbd : pl + 1 ≤ 8000 := by
        have h1 := HGl.out
        rw [hG, List.length_append, ← hpl] at h1
        exact h1
      rw [← hpl]
      have HGG : Hid (G = R ++ [q]) := hG
      clear hpl hq hG
      go_wp2_with (at_builtin; refine wpList_append_own _ rfl _ _ 22 rfl w1.heap.size 5 i0 (.int .u8 0) 1 1 Tryz.underlying22 hi hz0 hz1 hz2 rfl (by decide) _ _ _ rfl (hO.alloc _) ⟨w2.heap.size, 0, none⟩ 1 1 [.int .u8 (q : Int)] rfl rfl (cells_one (by simp)) (by simp [Value.oneCell']) ?d3 ?d4 ?d5 ?_)
      case d3 => unfold maxLen; omega
      case d4 => omega
      case d5 => have := S1.out; simp; omega
      intro y w3 hown3 hgrow3 _
      have B3 : Hid (Below w.heap.size w w3) := (HB2.out.alloc (by have := S1.out; omega) _).grown hgrow3 (by have := S1.out; simp; omega) (fun j hj => by have := (hO.lt j hj).1; have := S1.out; omega)
      have O3 : Hid (OwnB w3 w1.heap.size y G) := by
        show World.ownsRow _ _ _ _ _ _ _
        rw [HGG.out, List.length_append, ← HPl.out]
        simpa [List.map_append] using hown3
      clear hgrow3 hown3 hO
      go_wp2
      go_meet
      case rel => exact ⟨O3.out, B3.out⟩
  obtain ⟨ho, hb⟩ := hcut
  have B3 : Hid (Below w.heap.size w wc) := hb
  have O3 : Hid (OwnB wc w1.heap.size u3 G) := ho
  clear ho hb HO HB2 HC HR
  obtain ⟨ga, gc, rfl, hgc⟩ := OwnB.form O3.out
  obtain ⟨n, hn⟩ : ∃ n, n = G.length := ⟨_, rfl⟩
  rw [← hn] at O3 ⊢
  have HN : Hid (n = G.length) := hn
  clear hn hgc
  have hn5 : n ≤ 8000 := by rw [HN.out]; exact HGl.out
  go_wp2_with fail
  go_loopw [29] (fun i wr => ∃ (k : Nat), i = .int .i64 k ∧ k ≤ n ∧ wr.ownsRow w1.heap.size 5 1 (.slice ga n gc) n ((mixG G k).map (Value.int .u8)) ∧ Below w.heap.size w wr)
    (fun i _ => n - (RowKit.intOf i).toNat)
  case atStart =>
    refine ⟨0, rfl, Nat.zero_le _, ?_, B3.out⟩
    have h2 := O3.out
    unfold OwnB at h2
    rw [← HN.out] at h2
    rw [mixG_zero]
    exact h2
  case round =>
    obtain ⟨k, rfl, hk, hown, hbel⟩ := hrel
    by_cases hlt : k < n
    rotate_left
    · obtain rfl : k = n := by omega
      have q2 : ¬ (k : Int) < (k : Int) := by omega
      have hx : mixG G k = G.map sg := by rw [HN.out]; exact mixG_all G
      rw [hx] at hown
      have hcv := run_convert_own (P := Tryz.prog) (src := 22) (dst := 9) Tryz.underlying22 Tryz.underlying5 Tryz.underlying9 hown
      have HBl : Hid (Below w.heap.size w wr) := hbel
      clear hown hbel hx hlt hk O3 B3
      go_wp2
      go_ret
      exact ⟨by rw [HF.out]; rfl, HBl.out⟩
    have hkG : k < G.length := by have := HN.out; omega
    obtain ⟨z, hz⟩ : ∃ z, G[k]? = some z := ⟨G[k], List.getElem?_eq_getElem hkG⟩
    have hzl : z < 64 := HGt.out z (List.mem_of_getElem? hz)
    obtain ⟨g, rfl⟩ : ∃ g, ga = some ⟨g, 0, none⟩ := by
      rcases hown.2 with ⟨_, h⟩ | ⟨g, _, _, e, _⟩
      · omega
      · simp only [Value.slice.injEq] at e
        exact ⟨g, e.1⟩
    have hcell : wr.cell? ⟨g, k, none⟩ = some (.int .u8 (z : Int)) := by
      rw [hown.cellAt k (by omega), List.getElem?_map, mixG_at G hz]
      rfl
    have hfr := hown.frozenAt k
    have hst := hown.stored k (.int .u8 (sg z))
    have hge : w.heap.size ≤ g := by
      have := (hown.lt g rfl).1
      have := S1.out.1
      omega
    have HW : Hid ((wr.setCell ⟨g, k, none⟩ (.int .u8 (sg z))).ownsRow w1.heap.size 5 1 (.slice (some ⟨g, 0, none⟩) n gc) n ((mixG G (k + 1)).map (Value.int .u8))) := by
      have h2 := hst.1
      rw [← mixG_set G hz, List.map_set]
      exact h2
    have HBl : Hid (Below w.heap.size w (wr.setCell ⟨g, k, none⟩ (.int .u8 (sg z)))) := hbel.setCell hge _
    have q1 : (0 : Int) ≤ (k : Int) := Int.natCast_nonneg _
    have q2 : (k : Int) < (n : Int) := by omega
    have e1 := idxSg8 z hzl
    clear hown hst hbel hz hkG hge O3 B3
    go_wp2
    go_roundw
    case rel => exact ⟨k + 1, by go_num, by omega, HW.out, HBl.out⟩
    case measure => simp [RowKit.intOf]; omega
end Go.Proofs.YtjkmfjegphpjkaaGreatDoor
namespace Go.Proofs.YtjkmfjegphpjkaaGreatDoor
open Go.RowKit Go.Lib

theorem sizeTextOut : (Tryz.prog.info? 26).map (·.size) = some 3 := by kernel_rfl
def txtV (x : ByteArray × Int) : Value := .agg #[.string x.1, .int .i64 0, .int .i64 x.2]
end Go.Proofs.YtjkmfjegphpjkaaGreatDoor
namespace Go.Proofs.YtjkmfjegphpjkaaGreatDoor
open Go.RowKit Go.Lib Go.Maps

def sgnT : ByteArray := ⟨#[65, 66, 67, 68, 69, 70, 71, 72, 73, 74, 75, 76, 77, 78, 79, 80, 81, 82, 83, 84, 85, 86, 87, 88, 89, 90, 97, 98, 99, 100, 101, 102, 103, 104, 105, 106, 107, 108, 109, 110, 111, 112, 113, 114, 115, 116, 117, 118, 119, 120, 121, 122, 48, 49, 50, 51, 52, 53, 54, 55, 56, 57, 45, 95]⟩
theorem sgnT_at : ∀ k : Fin 64, ((sgnT.data.getD k 0).toNat : Int) = sg k := by decide +kernel
theorem sgnT_size : sgnT.size = 64 := rfl
theorem sgnT_get (k : Nat) (h : k < sgnT.size) : ((sgnT[k]'h).toNat : Int) = sg k := by
  have h1 := sgnT_at ⟨k, h⟩
  have h2 : sgnT.data.getD k 0 = sgnT[k]'h := by
    rw [Array.getD_eq_getD_getElem?, Array.getElem?_eq_getElem (show k < sgnT.data.size from h)]
    rfl
  rw [← h2]
  exact h1
/-- The map as it reads once the first k signs are in. -/
def sgD : Nat → DataW Unit
  | 0 => .map []
  | k + 1 => (sgD k).put (.int .i32 (sg k)) (.lit (.int .u8 (k : Int)))
theorem sgD_map : ∀ k, IsMap (sgD k)
  | 0 => ⟨_, rfl⟩
  | k + 1 => by
    obtain ⟨es, h⟩ := sgD_map k
    rw [sgD, h]
    exact ⟨_, rfl⟩
theorem key_ne {a b : Int} (h : a ≠ b) : (Lit.int .i32 a) ≠ (Lit.int .i32 b) := fun e => h (by cases e; rfl)
theorem keyLit (a : Int) : WideAt.IsKeyLit (.int .i32 a) := by first | trivial | simp [WideAt.IsKeyLit]
theorem sgD_some : ∀ k q, q < k → k ≤ 64 → has (sgD k) (.int .i32 (sg q)) = true ∧ ∀ z, (sgD k).atKey (.int .i32 (sg q)) z = .lit (.int .u8 (q : Int))
  | 0, q, h, _ => by omega
  | k + 1, q, h, hk => by
    by_cases e : q = k
    · subst e
      exact ⟨has_put_same (sgD_map q) (keyLit _) _, fun z => atKey_put_same (sgD_map q) (keyLit _) _ z⟩
    · have hne : sg q ≠ sg k := fun he => by
        have := sg_inj ⟨q, by omega⟩ ⟨k, by omega⟩ he
        simp at this
        exact e this
      have ih := sgD_some k q (by omega) (by omega)
      exact ⟨by rw [sgD, has_put_other (key_ne hne)]; exact ih.1, fun z => by rw [sgD, atKey_put_other (key_ne hne)]; exact ih.2 z⟩
theorem sgD_none : ∀ k (x : Int), (∀ q, q < k → sg q ≠ x) → has (sgD k) (.int .i32 x) = false
  | 0, _, _ => rfl
  | k + 1, x, h => by
    rw [sgD, has_put_other (key_ne (Ne.symm (h k (by omega))))]
    exact sgD_none k x fun q hq => h q (by omega)
theorem lawR : Keyed Tryz.prog 21 := int_keyed Tryz.underlying21
theorem zeroB (w : World) : (zeroValue 5).run Tryz.prog w = .ok (.int .u8 0) w := by kernel_rfl
theorem ownsMap_iterAt {w : World} {P : Program} {k : TypeId} {R : Value → Option (DataW Unit × List MemPlace)} {b n r : Nat} {D : DataW Unit} {s : ByteArray} {p : Nat} (h : w.ownsMap P k R b n D) (hne : b ≠ r) : (w.iterAt r s p).ownsMap P k R b n D := by
  obtain ⟨es, clock, hb, rest⟩ := h
  exact ⟨es, clock, (iterAt_other w r b s p hne).trans hb, rest⟩
set_option maxHeartbeats 4000000 in
set_option maxRecDepth 100000 in
theorem signVals (w : World) :
    Calls Tryz.prog 50 #[] w fun e w' => e = .returned (.map (some w.heap.size)) ∧ w'.ownsMap Tryz.prog 21 (plainElem Tryz.prog 5) w.heap.size 64 (sgD 64) ∧ Below w.heap.size w w' := by
  have hmm : ∀ V : World, (Instr.makeMap 69 (some (.int .i64 64))).run Tryz.prog V = .ok (.map (some V.heap.size)) (V.alloc (.map #[] 0)) := fun V => by kernel_rfl
  go_enter Tryz.func50, Tryz.ntmps50
  go_wp2
  go_loopw [] (fun wr => ∃ k : Nat, k ≤ 64 ∧ wr.heap[w.heap.size + 1]? = some (.stringIter sgnT k) ∧ wr.ownsMap Tryz.prog 21 (plainElem Tryz.prog 5) w.heap.size k (sgD k) ∧ Below w.heap.size w wr) (fun wr => 64 - wr.iterPos (w.heap.size + 1))
  case atStart =>
    refine ⟨0, Nat.zero_le _, ?_, ?_, ?_⟩
    · have := World.iter_heap (w.alloc (.map #[] 0)) sgnT 0
      rw [show (w.alloc (.map #[] 0)).heap.size = w.heap.size + 1 from by simp] at this
      exact this
    · exact (World.ownsMap_made w _ _ _).alloc _
    · exact ((Below.refl _ w).alloc (Nat.le_refl _) _).alloc (by simp) _
  case round =>
    obtain ⟨k, hk, hit, hown, hbel⟩ := hrel
    have hpos : wr.iterPos (w.heap.size + 1) = k := by simp [World.iterPos, hit]
    have HP : Hid (wr.iterPos (w.heap.size + 1) = k) := hpos
    clear hpos
    by_cases hlt : k < 64
    rotate_left
    · obtain rfl : k = 64 := by omega
      have hnx := fun ty => run_next_end_at (P := Tryz.prog) wr (w.heap.size + 1) sgnT 64 ty hit (by rw [sgnT_size]; omega)
      have HO : Hid _ := hown
      have HB : Hid (Below w.heap.size w wr) := hbel
      clear hit hown hbel
      go_wp2
      go_ret
      exact ⟨rfl, HO.out, HB.out⟩
    have hks : k < sgnT.size := by rw [sgnT_size]; exact hlt
    have hsg := sgnT_get k hks
    have hr := sg_range ⟨k, hlt⟩
    simp only at hr
    have hnx : ∀ ty, (Instr.next (.pointer (some ⟨w.heap.size + 1, 0, none⟩)) true ty).run Tryz.prog wr = .ok (.tuple #[.bool true, .int .i64 (k : Int), .int .i32 (sg k)]) (wr.iterAt (w.heap.size + 1) sgnT (k + 1)) := fun ty => by
      have := run_next_ascii_at (P := Tryz.prog) wr (w.heap.size + 1) sgnT k ty hit hks (by omega)
      rw [this, hsg]
    obtain ⟨w2, hw2⟩ : ∃ y, y = wr.iterAt (w.heap.size + 1) sgnT (k + 1) := ⟨_, rfl⟩
    have hown2 : w2.ownsMap Tryz.prog 21 (plainElem Tryz.prog 5) w.heap.size k (sgD k) := by rw [hw2]; exact ownsMap_iterAt hown (by omega)
    have HI2 : Hid (w2.heap[w.heap.size + 1]? = some (.stringIter sgnT (k + 1))) := by rw [hw2]; exact iterAt_heap wr _ _ _ _ hit
    have HB2 : Hid (Below w.heap.size w w2) := by rw [hw2]; exact below_iterAt hbel (by omega) _ _
    rw [← hw2] at hnx
    have hwb : IntKind.u8.wrap (k : Int) = (k : Int) := by rw [IntKind.wrap_u8]; omega
    have hkey : keyOf Tryz.prog 21 (.int .i32 (sg k)) = some (.int .i32 (sg k)) := keyOf_int_mk Tryz.underlying21 (WalkArith.wf_i32 (by omega))
    have hwf : (Lit.int .u8 (k : Int)).wf = true := WalkArith.wf_u8 (by omega)
    clear hit hown hbel hsg hks hr hw2
    go_wp2_with (at_mapUpdate; refine wpList_mapUpdate_own _ rfl _ _ _ 69 rfl 21 5 lawR Tryz.underlying69 _ w.heap.size k _ rfl hown2 (by unfold maxLen; omega) _ _ _ rfl rfl hkey _ [] (plainElem_int Tryz.underlying5 hwf) ?_; intro w3 hown3 hgrow3)
    have HI3 : Hid (w3.heap[w.heap.size + 1]? = some (.stringIter sgnT (k + 1))) := (hgrow3.block _ (Array.getElem?_eq_some_iff.1 HI2.out).1 (by simp)).trans HI2.out
    have HB3 : Hid (Below w.heap.size w w3) := HB2.out.grown hgrow3 HB2.out.size (fun j hj => by cases hj; exact Nat.le_refl _)
    have HO3 : Hid _ := hown3
    clear hown3 hgrow3 hown2
    go_wp2
    go_frame
    go_roundw
    case rel => exact ⟨k + 1, by omega, HI3.out, HO3.out, HB3.out⟩
    case measure =>
      have e : w3.iterPos (w.heap.size + 1) = k + 1 := by simp [World.iterPos, HI3.out]
      rw [e, HP.out]
      omega
end Go.Proofs.YtjkmfjegphpjkaaGreatDoor
namespace Go.Proofs.YtjkmfjegphpjkaaGreatDoor
open Go.RowKit Go.Lib Go.Maps

theorem OwnB.far {w w' : World} {B : Nat} {v : Value} {l : List Nat} (h : OwnB w B v l) (hs : ∀ k, B ≤ k → k < w.heap.size → w'.heap[k]? = w.heap[k]?) : OwnB w' B v l := by
  refine ⟨h.1, ?_⟩
  rcases h.2 with h | ⟨g, cap, cur, e, h1, h2, h3⟩
  · exact .inl h
  · exact .inr ⟨g, cap, cur, e, h1, by rw [hs g h1 (heap_lt h2)]; exact h2, h3⟩
theorem OwnB.mono {w : World} {B B' : Nat} {v : Value} {l : List Nat} (h : OwnB w B v l) (hB : B' ≤ B) : OwnB w B' v l := by
  refine ⟨h.1, ?_⟩
  rcases h.2 with h | ⟨g, cap, cur, e, h1, h2⟩
  · exact .inl h
  · exact .inr ⟨g, cap, cur, e, Nat.le_trans hB h1, h2⟩
set_option linter.unusedSimpArgs false in
set_option maxHeartbeats 4000000 in
set_option maxRecDepth 100000 in
theorem implReadSigns (s : ByteArray) (w : World) (hs : s.size ≤ 20000) :
    Calls Tryz.prog 26 #[.string s] w fun e w' => ∃ v, e = .returned (.tuple #[v, .bool (readV (bts s)).isSome]) ∧ OwnB w' w.heap.size v ((readV (bts s)).getD []) ∧ Below w.heap.size w w' := by
  obtain ⟨i0, hi, hz0, hz1, hz2⟩ := info_parts infoByte
  obtain ⟨R, hR⟩ : ∃ R, R = readV (bts s) := ⟨_, rfl⟩
  rw [← hR]
  have HR : Hid (R = (readV ((bts s).drop 0)).map fun vs => [] ++ vs) := by
    show _ = _
    rw [hR]
    simp
  have HM : Hid (∀ V, Calls Tryz.prog 50 #[] V fun e w' => e = .returned (.map (some V.heap.size)) ∧ w'.ownsMap Tryz.prog 21 (plainElem Tryz.prog 5) V.heap.size 64 (sgD 64) ∧ Below V.heap.size V w') := fun V => signVals V
  clear hR
  go_enter Tryz.func26, Tryz.ntmps26
  go_wp2_with fail
  refine (HM.out w).mono ?_
  rintro e w2 ⟨rfl, hm2, b2⟩
  have HM2 : Hid (w2.ownsMap Tryz.prog 21 (plainElem Tryz.prog 5) w.heap.size 64 (sgD 64)) := hm2
  have HB2 : Hid (Below w.heap.size w w2) := b2
  have hlt2 : w.heap.size < w2.heap.size := hm2.lt
  have L2 : Hid (w.heap.size < w2.heap.size) := hlt2
  clear hm2 b2 hlt2 HM
  go_wp2
  go_loopw [4] (fun v wr => ∃ (k : Nat) (pre : List Nat), k ≤ s.size ∧ pre.length = k ∧ wr.heap[w2.heap.size]? = some (.stringIter s k) ∧ wr.ownsMap Tryz.prog 21 (plainElem Tryz.prog 5) w.heap.size 64 (sgD 64) ∧ OwnB wr (w2.heap.size + 1) v pre ∧ (R = (readV ((bts s).drop k)).map fun vs => pre ++ vs) ∧ Below w.heap.size w wr) (fun _ wr => s.size - wr.iterPos w2.heap.size)
  case atStart =>
    exact ⟨0, [], Nat.zero_le _, rfl, World.iter_heap w2 s 0, World.ownsMap.alloc (show w2.ownsMap _ _ _ _ _ _ from HM2.out) _, ownB_nil _ _, HR.out, HB2.out.alloc (Nat.le_of_lt L2.out) _⟩
  case round =>
    obtain ⟨k, pre, hk, hpk, hit, hown, hob, hat, hbel⟩ := hrel
    have HP : Hid (wr.iterPos w2.heap.size = k) := by show _ = _; simp [World.iterPos, hit]
    have HT : Hid (R = (readV ((bts s).drop k)).map fun vs => pre ++ vs) := hat
    have HO : Hid (OwnB wr (w2.heap.size + 1) _ pre) := hob
    have HB : Hid (Below w.heap.size w wr) := hbel
    clear hat hob hbel HR HM2 HB2
    obtain ⟨va, vc, rfl, _⟩ := OwnB.form HO.out
    rw [hpk] at HO ⊢
    have HPk : Hid (pre.length = k) := hpk
    clear hpk
    by_cases hlt : k < s.size
    rotate_left
    · obtain rfl : k = s.size := by omega
      have hRs : R = some pre := by rw [HT.out, bts_end s _ (Nat.le_refl _)]; simp [readV]
      have HF : Hid (R.isSome = true ∧ R.getD [] = pre) := by rw [hRs]; exact ⟨rfl, rfl⟩
      have hnx := fun ty => run_next_end_at (P := Tryz.prog) wr w2.heap.size s s.size ty hit (by omega)
      clear hit hown hRs HT
      go_wp2
      go_ret2
      exact ⟨_, by rw [HF.out.1]; rfl, by rw [HF.out.2]; exact HO.out.mono (by have := L2.out; omega), HB.out⟩
    obtain ⟨z, hz⟩ : ∃ z, z = s[k].toNat := ⟨_, rfl⟩
    have hdr := bts_drop s k hlt
    rw [← hz] at hdr
    obtain ⟨ρ, hρ⟩ : ∃ ρ, ρ = (Utf8.decode s k).1 := ⟨_, rfl⟩
    have hρm : ρ ≤ 1114111 := by rw [hρ]; exact rune_le s k
    have hkey : keyOf Tryz.prog 21 (.int .i32 (ρ : Int)) = some (.int .i32 (ρ : Int)) := keyOf_int_mk Tryz.underlying21 (WalkArith.wf_i32 (by omega))
    have hnx : ∀ ty, (Instr.next (.pointer (some ⟨w2.heap.size, 0, none⟩)) true ty).run Tryz.prog wr = .ok (.tuple #[.bool true, .int .i64 (k : Int), .int .i32 (ρ : Int)]) (wr.iterAt w2.heap.size s (k + (Utf8.decode s k).2)) := fun ty => by
      have := run_next_any_at (P := Tryz.prog) wr w2.heap.size s k ty hit hlt
      rw [this, hρ]
    obtain ⟨w3, hw3⟩ : ∃ y, y = wr.iterAt w2.heap.size s (k + (Utf8.decode s k).2) := ⟨_, rfl⟩
    have hown3 : w3.ownsMap Tryz.prog 21 (plainElem Tryz.prog 5) w.heap.size 64 (sgD 64) := by rw [hw3]; exact ownsMap_iterAt hown (by have := L2.out; omega)
    have HB3 : Hid (Below w.heap.size w w3) := by rw [hw3]; exact below_iterAt HB.out (Nat.le_of_lt L2.out) _ _
    have HI3 : Hid (w3.heap[w2.heap.size]? = some (.stringIter s (k + (Utf8.decode s k).2))) := by rw [hw3]; exact iterAt_heap wr _ _ _ _ hit
    have HO3 : Hid (OwnB w3 (w2.heap.size + 1) (.slice va k vc) pre) := by rw [hw3]; exact HO.out.far fun j hj _ => iterAt_other wr _ _ _ _ (by omega)
    have HS3 : Hid (w2.heap.size < w3.heap.size) := (Array.getElem?_eq_some_iff.1 HI3.out).1
    rw [← hw3] at hnx
    have HM3 : Hid (w3.ownsMap Tryz.prog 21 (plainElem Tryz.prog 5) w.heap.size 64 (sgD 64)) := hown3
    by_cases hgood : ∃ q, z < 128 ∧ sgi z = some q
    rotate_left
    · have hno : sgi z = none := by
        cases hh : sgi z with
        | none => rfl
        | some q =>
          have h1 := sgi_some hh
          have h2 := sg_range ⟨q, h1.1⟩
          simp only at h2
          exact absurd ⟨q, by omega, hh⟩ hgood
      have hRn : R = none := by rw [HT.out, hdr, readV, hno]; rfl
      have HF : Hid (R.isSome = false ∧ R.getD [] = []) := by rw [hRn]; exact ⟨rfl, rfl⟩
      have hhas : Maps.has (sgD 64) (.int .i32 (ρ : Int)) = false := by
        refine sgD_none 64 _ fun q hq => ?_
        by_cases hzl : z < 128
        · have e : ρ = z := by
            rw [hρ, decode_ascii s k hlt (by omega), hz]
          rw [e]
          exact sgi_none hno q hq
        · have h1 := (decode_high s k hlt (by omega)).1
          have h2 := sg_range ⟨q, hq⟩
          simp only at h2
          omega
      clear hit hown hρ hdr hRn HT HO hw3 hno hgood hz hρm HM3
      go_wp2_with (at_lookup; refine wpList_lookup_own_ok_int _ rfl _ _ 69 rfl 21 5 .u8 lawR Tryz.underlying69 Tryz.underlying5 (zeroB _) w.heap.size 64 _ rfl hown3 _ _ rfl hkey ?_; intro cc hatc hwc)
      clear hatc hwc hown3
      go_wp2
      go_ret2
      exact ⟨_, by rw [HF.out.1]; rfl, by rw [HF.out.2]; exact ownB_nil _ _, HB3.out⟩
    obtain ⟨q, hz1', hq⟩ := hgood
    have e : ρ = z := by rw [hρ, decode_ascii s k hlt (by omega), hz]
    have e2 : (Utf8.decode s k).2 = 1 := by rw [decode_ascii s k hlt (by omega)]
    rw [e2] at HI3
    have hqs := sgi_some hq
    have hsome := sgD_some 64 q hqs.1 (Nat.le_refl _)
    rw [hqs.2, ← e] at hsome
    have hhas := hsome.1
    have HAt : Hid (∀ zz, (sgD 64).atKey (.int .i32 (ρ : Int)) zz = .lit (.int .u8 (q : Int))) := hsome.2
    have HT3 : Hid (R = (readV ((bts s).drop (k + 1))).map fun vs => (pre ++ [q]) ++ vs) := by
      show _ = _
      rw [HT.out, hdr, readV, hq]
      cases readV ((bts s).drop (k + 1)) <;> simp
    have hO : w3.ownsRow (w2.heap.size + 1) 5 1 (.slice va k vc) k ((pre.map (fun x : Nat => (x : Int))).map (Value.int .u8)) := by
      have h2 := HO3.out
      unfold OwnB at h2
      rw [HPk.out] at h2
      exact h2
    clear hit hown hρ hdr HT HO hw3 hz hsome e e2 hqs hq hz1' hρm
    go_wp2_with (first
      | (at_lookup; refine wpList_lookup_own_ok_int _ rfl _ _ 69 rfl 21 5 .u8 lawR Tryz.underlying69 Tryz.underlying5 (zeroB _) w.heap.size 64 _ rfl hown3 _ _ rfl hkey ?_; intro cc hatc hwc)
      | (at_builtin; refine wpList_append_own _ rfl _ _ 22 rfl (w2.heap.size + 1) 5 i0 (.int .u8 0) 1 1 Tryz.underlying22 hi hz0 hz1 hz2 rfl (by decide) _ _ _ rfl (hO.alloc _) ⟨w3.heap.size, 0, none⟩ 1 1 [.int .u8 cc] rfl rfl (cells_one (by simp)) (by simp [Value.oneCell']) (by unfold maxLen; omega) (by omega) (by have := HS3.out; simp; omega) ?_))
    obtain rfl : cc = (q : Int) := by
      have h1 := HAt.out (.lit (.int .u8 0))
      rw [h1] at hatc
      injection hatc with h2
      injection h2 with _ h3
      exact h3.symm
    have HM4 := HM3
    clear hatc hwc hown3
    intro y w4 hown4 hgrow4 _
    have hba : Below (w2.heap.size + 1) w3 w4 := ((Below.refl _ w3).alloc (by have := HS3.out; omega) _).grown hgrow4 (by have := HS3.out; simp; omega) (fun j hj => (hO.lt j hj).1)
    have HB4 : Hid (Below w.heap.size w w4) := HB3.out.trans (hba.mono (by have := L2.out; omega))
    have HI4 : Hid (w4.heap[w2.heap.size]? = some (.stringIter s (k + 1))) := (hba.block _ (by omega)).trans HI3.out
    have HM5 : Hid (w4.ownsMap Tryz.prog 21 (plainElem Tryz.prog 5) w.heap.size 64 (sgD 64)) := by
      obtain ⟨es, clock, hb, rest⟩ := HM4.out
      exact ⟨es, clock, (hba.block _ (by have := L2.out; omega)).trans hb, rest⟩
    have HO4 : Hid (OwnB w4 (w2.heap.size + 1) y (pre ++ [q])) := by
      show World.ownsRow _ _ _ _ _ _ _
      rw [List.length_append, HPk.out]
      simpa [List.map_append] using hown4
    clear hgrow4 hown4 hO hba HB3 HI3 HM4 HO3
    go_wp2
    go_roundw
    case rel => exact ⟨k + 1, _, by omega, by rw [List.length_append, HPk.out]; rfl, HI4.out, HM5.out, HO4.out, HT3.out, HB4.out⟩
    case measure =>
      have e : w4.iterPos w2.heap.size = k + 1 := by simp [World.iterPos, HI4.out]
      rw [e, HP.out]
      omega
end Go.Proofs.YtjkmfjegphpjkaaGreatDoor
