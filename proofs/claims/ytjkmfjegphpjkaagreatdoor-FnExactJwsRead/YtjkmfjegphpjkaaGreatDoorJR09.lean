/- spec.l09Base, spec.Base64, walked. spec.l09Read, walked. -/
import Derived.Test.YtjkmfjegphpjkaaGreatDoorJR01
import Derived.Deep.Cut
import Derived.Test.YtjkmfjegphpjkaaGreatDoorJR08
import Derived.Test.YtjkmfjegphpjkaaGreatDoorJR05
namespace Go.Proofs.YtjkmfjegphpjkaaGreatDoor
open Go.RowKit Go.Lib

set_option linter.unusedSimpArgs false in
set_option maxHeartbeats 4000000 in
set_option maxRecDepth 100000 in
theorem specBase (s : ByteArray) (w : World) (hs : s.size ≤ 100000) :
    Calls Tryz.prog 24 #[.string s] w fun e w' => e = .returned (.string (b64D s)) ∧ Below w.heap.size w w' := by
  obtain ⟨i0, hi, hz0, hz1, hz2⟩ := info_parts infoByte
  have hR0 := b64I_len (bts s)
  rw [bts_len] at hR0
  obtain ⟨R, hR⟩ : ∃ R, R = b64I (bts s) := ⟨_, rfl⟩
  have HD : Hid (b64D s = strOfNums R) := by show _ = _; rw [hR]; rfl
  rw [HD.out]
  rw [← hR] at hR0
  have HRl : Hid (R.length ≤ 200000) := by show _ ≤ _; omega
  have HR : Hid (R = b64I (bts s)) := hR
  clear hR hR0 HD
  go_enter Tryz.func24, Tryz.ntmps24
  go_wp2
  go_loopw [3, 4] (fun b i wr => ∃ (k : Nat) (pre : List Int), i = .int .i64 k ∧ k ≤ s.size + 2 ∧ wr.ownsRow w.heap.size 5 1 b pre.length (pre.map (Value.int .u8)) ∧ R = pre ++ b64I ((bts s).drop k) ∧ Below w.heap.size w wr ∧ w.heap.size ≤ wr.heap.size)
    (fun _ i _ => s.size + 3 - (RowKit.intOf i).toNat)
  case atStart =>
    exact ⟨0, [], rfl, by omega, World.ownsRow_made _ #[] 0 (Nat.le_refl _) (Nat.zero_le _) rfl, HR.out, (Below.refl _ _).alloc (Nat.le_refl _) _, by simp⟩
  case round =>
    obtain ⟨k, pre, rfl, hk, hown, hpre, hbel, hsz⟩ := hrel
    by_cases hlt : k < s.size
    rotate_left
    · have hRp : R = pre := by rw [hpre, bts_end s k (by omega)]; simp [b64I, b64]
      subst hRp
      have hcv := run_convert_own (P := Tryz.prog) (src := 22) (dst := 9) Tryz.underlying22 Tryz.underlying5 Tryz.underlying9 hown
      have q2 : ¬ (k : Int) < (s.size : Int) := by omega
      clear hown hpre HR HRl hlt
      go_wp2
      go_ret
      exact ⟨rfl, hbel⟩
    have q1 : (0 : Int) ≤ (k : Int) := Int.natCast_nonneg _
    have q2 : (k : Int) < (s.size : Int) := by omega
    have ha := u8_lt s[k]
    by_cases h3 : k + 2 < s.size
    · have hb := u8_lt (s[k + 1]'(by omega))
      have hc := u8_lt (s[k + 2]'(by omega))
      have hd : b64I ((bts s).drop k) = [sg (s[k].toNat / 4), sg (s[k].toNat % 4 * 16 + (s[k + 1]'(by omega)).toNat / 16), sg ((s[k + 1]'(by omega)).toNat % 16 * 4 + (s[k + 2]'(by omega)).toNat / 64), sg ((s[k + 2]'(by omega)).toNat % 64)] ++ b64I ((bts s).drop (k + 3)) := by
        rw [bts_drop s k hlt, bts_drop s (k + 1) (by omega), bts_drop s (k + 1 + 1) (by omega)]
        rfl
      have q3 : (k : Int) + 1 < (s.size : Int) := by omega
      have q4 : (k : Int) + 2 < (s.size : Int) := by omega
      obtain ⟨m, hm⟩ : ∃ m : Nat, m = s[k].toNat * 65536 + (s[k + 1]'(by omega)).toNat * 256 := ⟨_, rfl⟩
      obtain ⟨N, hN⟩ : ∃ N : Nat, N = m + (s[k + 2]'(by omega)).toNat := ⟨_, rfl⟩
      have o1 : bits .or .i64 ((s[k].toNat : Int) * 65536) (((s[k + 1]'(by omega)).toNat : Int) * 256) = (m : Int) := by
        have h := or_low 16 (by omega) s[k].toNat ((s[k + 1]'(by omega)).toNat * 256) (by omega) (by omega)
        rw [hm, ← h]
        congr 1 <;> omega
      have o2 : bits .or .i64 (m : Int) ((s[k + 2]'(by omega)).toNat : Int) = (N : Int) := by
        have h := or_low 8 (by omega) (s[k].toNat * 256 + (s[k + 1]'(by omega)).toNat) (s[k + 2]'(by omega)).toNat (by omega) (by omega)
        have e : (s[k].toNat * 256 + (s[k + 1]'(by omega)).toNat) * 2 ^ 8 = m := by omega
        rw [e, ← hN] at h
        exact h
      obtain ⟨g0, hg0⟩ : ∃ g, g = s[k].toNat / 4 := ⟨_, rfl⟩
      rw [← hg0] at hd
      have v0 : bits .and .i64 (((N : Int) / 262144)) 63 = (g0 : Int) := by rw [and63]; omega
      have e0 := idxSg g0 (by omega)
      obtain ⟨g1, hg1⟩ : ∃ g, g = s[k].toNat % 4 * 16 + (s[k + 1]'(by omega)).toNat / 16 := ⟨_, rfl⟩
      rw [← hg1] at hd
      have v1 : bits .and .i64 (((N : Int) / 4096)) 63 = (g1 : Int) := by rw [and63]; omega
      have e1 := idxSg g1 (by omega)
      obtain ⟨g2, hg2⟩ : ∃ g, g = (s[k + 1]'(by omega)).toNat % 16 * 4 + (s[k + 2]'(by omega)).toNat / 64 := ⟨_, rfl⟩
      rw [← hg2] at hd
      have v2 : bits .and .i64 (((N : Int) / 64)) 63 = (g2 : Int) := by rw [and63]; omega
      have e2 := idxSg g2 (by omega)
      obtain ⟨g3, hg3⟩ : ∃ g, g = (s[k + 2]'(by omega)).toNat % 64 := ⟨_, rfl⟩
      rw [← hg3] at hd
      have v3 : bits .and .i64 ((N : Int)) 63 = (g3 : Int) := by rw [and63]; omega
      have e3 := idxSg g3 (by omega)
      obtain ⟨pl, hpl⟩ : ∃ n, n = pre.length := ⟨_, rfl⟩
      have HPl : Hid (pl = pre.length) := hpl
      have HX : Hid (R = pre ++ ([sg g0, sg g1, sg g2, sg g3] ++ b64I ((bts s).drop (k + 3)))) := by show _ = _; rw [hpre, hd]
      have hbd : pl + 4 ≤ 200000 := by
        have h1 := congrArg List.length HX.out
        have h2 := HRl.out
        simp only [List.length_append, List.length_cons, List.length_nil] at h1
        omega
      rw [← hpl] at hown
      clear hpre hd hpl hN hm hg0 hg1 hg2 hg3
      go_upto_region 10 with fail
      clear ha hb hc o1 o2
      go_region_law ((refine step_append_lies _ (by rfl) _ _ _ (by rfl) w.heap.size 5 i0 _ 1 1 Tryz.underlying22 hi hz0 hz1 hz2 rfl (by omega) _ _ _ (by rfl) ((hown.alloc _).drew) ⟨wr.heap.size, 0, none⟩ 2 2 [.int .u8 (sg g0), .int .u8 (sg g1)] (by rfl) (by rfl) (World.news_of_block (cs := #[.int .u8 (sg g0), .int .u8 (sg g1)]) (t := 5) (fr := (0, 0)) (heap_alloc_new wr _)) (by simp [Value.oneCell']) (by omega) (by unfold maxLen; omega) (by omega) (by simp; omega) (wr.heap.size + 1) (by simp) ?_; intro gg cap w1 hown1 hgrow hat hlt1))
      all_goals
        have hb1 : Below w.heap.size w w1 := ((hbel.alloc hsz _).drew).grown hgrow (by simp; omega) (fun j hj => (hown.lt j hj).1)
        have hs1 : w.heap.size ≤ w1.heap.size := hb1.size
        have HB1 : Hid (Below w.heap.size w w1) := hb1
        clear hgrow hat hlt1 hbel hb1 hown e0 e1 v0 v1
        go_wp2_with (at_builtin; refine wpList_append_own _ rfl _ _ 22 rfl w.heap.size 5 i0 (.int .u8 0) 1 1 Tryz.underlying22 hi hz0 hz1 hz2 rfl (by decide) _ _ _ rfl (hown1.alloc _) ⟨w1.heap.size, 0, none⟩ 1 1 [.int .u8 (sg g2)] rfl rfl ?c1 ?c2 ?c3 ?c4 ?c5 ?_)
        case c1 => exact cells_one (by simp)
        case c2 => intro u hu; simp at hu; subst hu; rfl
        case c3 => unfold maxLen; omega
        case c4 => omega
        case c5 => simp; omega
        intro x2 w2 hownw2 hgroww2 _
        have HBw2 : Hid (Below w.heap.size w w2) := (HB1.out.alloc (by omega) _).grown hgroww2 (by simp; omega) (fun j hj => (hown1.lt j hj).1)
        have hsw2 : w.heap.size ≤ w2.heap.size := HBw2.out.size
        clear hgroww2 hown1 e2 v2
        go_wp2_with (at_builtin; refine wpList_append_own _ rfl _ _ 22 rfl w.heap.size 5 i0 (.int .u8 0) 1 1 Tryz.underlying22 hi hz0 hz1 hz2 rfl (by decide) _ _ _ rfl (hownw2.alloc _) ⟨w2.heap.size, 0, none⟩ 1 1 [.int .u8 (sg g3)] rfl rfl ?c1 ?c2 ?c3 ?c4 ?c5 ?_)
        case c1 => exact cells_one (by simp)
        case c2 => intro u hu; simp at hu; subst hu; rfl
        case c3 => unfold maxLen; omega
        case c4 => omega
        case c5 => simp; omega
        intro x3 w3 hownw3 hgroww3 _
        have HBw3 : Hid (Below w.heap.size w w3) := (HBw2.out.alloc (by omega) _).grown hgroww3 (by simp; omega) (fun j hj => (hownw2.lt j hj).1)
        have hsw3 : w.heap.size ≤ w3.heap.size := HBw3.out.size
        clear hgroww3 hownw2 e3 v3
        have ho : w3.ownsRow w.heap.size 5 1 x3 (pre ++ [sg g0, sg g1, sg g2, sg g3]).length ((pre ++ [sg g0, sg g1, sg g2, sg g3]).map (Value.int .u8)) := by
          simpa [List.map_append, HPl.out] using hownw3
        have HO : Hid _ := ho
        clear ho hownw3
        have HRe : Hid (R = (pre ++ [sg g0, sg g1, sg g2, sg g3]) ++ b64I ((bts s).drop (k + 3))) := by
          show _ = _
          rw [HX.out]
          simp [b64I, b64]
        clear HX
        go_wp2
        go_roundw
        case rel => exact ⟨k + 3, _, by go_num, by omega, HO.out, HRe.out, HBw3.out, HBw3.out.size⟩
        case measure => simp [RowKit.intOf]; omega
    by_cases h2 : k + 1 < s.size
    · have hb := u8_lt (s[k + 1]'(by omega))
      have hd : b64I ((bts s).drop k) = [sg (s[k].toNat / 4), sg (s[k].toNat % 4 * 16 + (s[k + 1]'(by omega)).toNat / 16), sg ((s[k + 1]'(by omega)).toNat % 16 * 4)] := by
        rw [bts_drop s k hlt, bts_drop s (k + 1) (by omega), bts_end s (k + 1 + 1) (by omega)]
        rfl
      have q3 : (k : Int) + 1 < (s.size : Int) := by omega
      have q4 : ¬ (k : Int) + 2 < (s.size : Int) := by omega
      obtain ⟨N, hN⟩ : ∃ N : Nat, N = s[k].toNat * 65536 + (s[k + 1]'(by omega)).toNat * 256 := ⟨_, rfl⟩
      have o1 : bits .or .i64 ((s[k].toNat : Int) * 65536) (((s[k + 1]'(by omega)).toNat : Int) * 256) = (N : Int) := by
        have h := or_low 16 (by omega) s[k].toNat ((s[k + 1]'(by omega)).toNat * 256) (by omega) (by omega)
        rw [hN, ← h]
        congr 1 <;> omega
      obtain ⟨g0, hg0⟩ : ∃ g, g = s[k].toNat / 4 := ⟨_, rfl⟩
      rw [← hg0] at hd
      have v0 : bits .and .i64 (((N : Int) / 262144)) 63 = (g0 : Int) := by rw [and63]; omega
      have e0 := idxSg g0 (by omega)
      obtain ⟨g1, hg1⟩ : ∃ g, g = s[k].toNat % 4 * 16 + (s[k + 1]'(by omega)).toNat / 16 := ⟨_, rfl⟩
      rw [← hg1] at hd
      have v1 : bits .and .i64 (((N : Int) / 4096)) 63 = (g1 : Int) := by rw [and63]; omega
      have e1 := idxSg g1 (by omega)
      obtain ⟨g2, hg2⟩ : ∃ g, g = (s[k + 1]'(by omega)).toNat % 16 * 4 := ⟨_, rfl⟩
      rw [← hg2] at hd
      have v2 : bits .and .i64 (((N : Int) / 64)) 63 = (g2 : Int) := by rw [and63]; omega
      have e2 := idxSg g2 (by omega)
      obtain ⟨pl, hpl⟩ : ∃ n, n = pre.length := ⟨_, rfl⟩
      have HPl : Hid (pl = pre.length) := hpl
      have HX : Hid (R = pre ++ ([sg g0, sg g1, sg g2])) := by show _ = _; rw [hpre, hd]
      have hbd : pl + 3 ≤ 200000 := by
        have h1 := congrArg List.length HX.out
        have h2 := HRl.out
        simp only [List.length_append, List.length_cons, List.length_nil] at h1
        omega
      rw [← hpl] at hown
      clear hpre hd hpl hN hg0 hg1 hg2
      go_upto_region 10 with fail
      clear ha hb o1
      go_region_law ((refine step_append_lies _ (by rfl) _ _ _ (by rfl) w.heap.size 5 i0 _ 1 1 Tryz.underlying22 hi hz0 hz1 hz2 rfl (by omega) _ _ _ (by rfl) ((hown.alloc _).drew) ⟨wr.heap.size, 0, none⟩ 2 2 [.int .u8 (sg g0), .int .u8 (sg g1)] (by rfl) (by rfl) (World.news_of_block (cs := #[.int .u8 (sg g0), .int .u8 (sg g1)]) (t := 5) (fr := (0, 0)) (heap_alloc_new wr _)) (by simp [Value.oneCell']) (by omega) (by unfold maxLen; omega) (by omega) (by simp; omega) (wr.heap.size + 1) (by simp) ?_; intro gg cap w1 hown1 hgrow hat hlt1))
      all_goals
        have hb1 : Below w.heap.size w w1 := ((hbel.alloc hsz _).drew).grown hgrow (by simp; omega) (fun j hj => (hown.lt j hj).1)
        have hs1 : w.heap.size ≤ w1.heap.size := hb1.size
        have HB1 : Hid (Below w.heap.size w w1) := hb1
        clear hgrow hat hlt1 hbel hb1 hown e0 e1 v0 v1
        go_wp2_with (at_builtin; refine wpList_append_own _ rfl _ _ 22 rfl w.heap.size 5 i0 (.int .u8 0) 1 1 Tryz.underlying22 hi hz0 hz1 hz2 rfl (by decide) _ _ _ rfl (hown1.alloc _) ⟨w1.heap.size, 0, none⟩ 1 1 [.int .u8 (sg g2)] rfl rfl ?c1 ?c2 ?c3 ?c4 ?c5 ?_)
        case c1 => exact cells_one (by simp)
        case c2 => intro u hu; simp at hu; subst hu; rfl
        case c3 => unfold maxLen; omega
        case c4 => omega
        case c5 => simp; omega
        intro x2 w2 hownw2 hgroww2 _
        have HBw2 : Hid (Below w.heap.size w w2) := (HB1.out.alloc (by omega) _).grown hgroww2 (by simp; omega) (fun j hj => (hown1.lt j hj).1)
        have hsw2 : w.heap.size ≤ w2.heap.size := HBw2.out.size
        clear hgroww2 hown1 e2 v2
        have ho : w2.ownsRow w.heap.size 5 1 x2 (pre ++ [sg g0, sg g1, sg g2]).length ((pre ++ [sg g0, sg g1, sg g2]).map (Value.int .u8)) := by
          simpa [List.map_append, HPl.out] using hownw2
        have HO : Hid _ := ho
        clear ho hownw2
        have HRe : Hid (R = (pre ++ [sg g0, sg g1, sg g2]) ++ b64I ((bts s).drop (k + 3))) := by
          show _ = _
          rw [HX.out, bts_end s (k + 3) (by omega)]
          simp [b64I, b64]
        clear HX
        go_wp2
        go_roundw
        case rel => exact ⟨k + 3, _, by go_num, by omega, HO.out, HRe.out, HBw2.out, HBw2.out.size⟩
        case measure => simp [RowKit.intOf]; omega
    have hd : b64I ((bts s).drop k) = [sg (s[k].toNat / 4), sg (s[k].toNat % 4 * 16)] := by
      rw [bts_drop s k hlt, bts_end s (k + 1) (by omega)]
      rfl
    have q3 : ¬ (k : Int) + 1 < (s.size : Int) := by omega
    have q4 : ¬ (k : Int) + 2 < (s.size : Int) := by omega
    obtain ⟨N, hN⟩ : ∃ N : Nat, N = s[k].toNat * 65536 := ⟨_, rfl⟩
    have o1 : (s[k].toNat : Int) * 65536 = (N : Int) := by omega
    obtain ⟨g0, hg0⟩ : ∃ g, g = s[k].toNat / 4 := ⟨_, rfl⟩
    rw [← hg0] at hd
    have v0 : bits .and .i64 (((N : Int) / 262144)) 63 = (g0 : Int) := by rw [and63]; omega
    have e0 := idxSg g0 (by omega)
    obtain ⟨g1, hg1⟩ : ∃ g, g = s[k].toNat % 4 * 16 := ⟨_, rfl⟩
    rw [← hg1] at hd
    have v1 : bits .and .i64 (((N : Int) / 4096)) 63 = (g1 : Int) := by rw [and63]; omega
    have e1 := idxSg g1 (by omega)
    obtain ⟨pl, hpl⟩ : ∃ n, n = pre.length := ⟨_, rfl⟩
    have HPl : Hid (pl = pre.length) := hpl
    have HX : Hid (R = pre ++ ([sg g0, sg g1])) := by show _ = _; rw [hpre, hd]
    have hbd : pl + 2 ≤ 200000 := by
      have h1 := congrArg List.length HX.out
      have h2 := HRl.out
      simp only [List.length_append, List.length_cons, List.length_nil] at h1
      omega
    rw [← hpl] at hown
    clear hpre hd hpl hN hg0 hg1
    go_upto_region 10 with fail
    clear ha o1
    go_region_law ((refine step_append_lies _ (by rfl) _ _ _ (by rfl) w.heap.size 5 i0 _ 1 1 Tryz.underlying22 hi hz0 hz1 hz2 rfl (by omega) _ _ _ (by rfl) ((hown.alloc _).drew) ⟨wr.heap.size, 0, none⟩ 2 2 [.int .u8 (sg g0), .int .u8 (sg g1)] (by rfl) (by rfl) (World.news_of_block (cs := #[.int .u8 (sg g0), .int .u8 (sg g1)]) (t := 5) (fr := (0, 0)) (heap_alloc_new wr _)) (by simp [Value.oneCell']) (by omega) (by unfold maxLen; omega) (by omega) (by simp; omega) (wr.heap.size + 1) (by simp) ?_; intro gg cap w1 hown1 hgrow hat hlt1))
    all_goals
      have hb1 : Below w.heap.size w w1 := ((hbel.alloc hsz _).drew).grown hgrow (by simp; omega) (fun j hj => (hown.lt j hj).1)
      have hs1 : w.heap.size ≤ w1.heap.size := hb1.size
      have HB1 : Hid (Below w.heap.size w w1) := hb1
      clear hgrow hat hlt1 hbel hb1 hown e0 e1 v0 v1
      have ho : w1.ownsRow w.heap.size 5 1 (.slice (some ⟨gg, 0, none⟩) (pl + 2) cap) (pre ++ [sg g0, sg g1]).length ((pre ++ [sg g0, sg g1]).map (Value.int .u8)) := by
        simpa [List.map_append, HPl.out] using hown1
      have HO : Hid _ := ho
      clear ho hown1
      have HRe : Hid (R = (pre ++ [sg g0, sg g1]) ++ b64I ((bts s).drop (k + 3))) := by
        show _ = _
        rw [HX.out, bts_end s (k + 3) (by omega)]
        simp [b64I, b64]
      clear HX
      go_wp2
      go_roundw
      case rel => exact ⟨k + 3, _, by go_num, by omega, HO.out, HRe.out, HB1.out, HB1.out.size⟩
      case measure => simp [RowKit.intOf]; omega
end Go.Proofs.YtjkmfjegphpjkaaGreatDoor
namespace Go.Proofs.YtjkmfjegphpjkaaGreatDoor
open Go.RowKit Go.Lib

theorem and16 (n : Nat) : bits .and .i64 (n : Int) 65535 = ((n % 65536 : Nat) : Int) := by
  have := and_mask 16 (by omega) n
  simpa using this
set_option linter.unusedSimpArgs false in
set_option maxHeartbeats 4000000 in
set_option maxRecDepth 100000 in
theorem specReadL (s : ByteArray) (w : World) (hs : s.size ≤ 20000) :
    Calls Tryz.prog 29 #[.string s] w fun e w' => e = .returned (.tuple #[.string (readLT s).1, .bool (readLT s).2]) ∧ Below w.heap.size w w' := by
  obtain ⟨i0, hi, hz0, hz1, hz2⟩ := info_parts infoByte
  obtain ⟨R, hR⟩ : ∃ R, R = (readV (bts s)).map fun vs => (rgi vs 0 0).1 := ⟨_, rfl⟩
  have HRl : Hid (∀ l, R = some l → l.length ≤ 40000) := fun l hl => by
    rw [hR] at hl
    cases hv : readV (bts s) with
    | none => rw [hv] at hl; cases hl
    | some vs =>
      rw [hv] at hl
      simp at hl
      have h1 := readV_len _ _ hv
      rw [bts_len] at h1
      have h2 := rgi_len vs 0 0
      rw [← hl]
      omega
  have HN : Hid (R = none → readLT s = (⟨#[]⟩, false)) := fun h => by
    rw [hR] at h
    unfold readLT
    cases hv : readV (bts s) with
    | none => rfl
    | some vs => rw [hv] at h; cases h
  have HS : Hid (∀ l, R = some l → readLT s = (natT l, decide (l.length ≤ 4000 ∧ b64D (natT l) = s))) := fun l hl => by
    rw [hR] at hl
    unfold readLT
    cases hv : readV (bts s) with
    | none => rw [hv] at hl; cases hl
    | some vs =>
      rw [hv] at hl
      simp at hl
      simp only [hl]
  have HR : Hid (R = (readV (bts s)).map fun vs => [] ++ (rgi vs 0 0).1) := by show _ = _; simpa using hR
  have HSg : Hid (∀ V (c : Nat), Calls Tryz.prog 51 #[.int .u8 (c : Int)] V fun e w' => e = .returned (.int .i64 (sgk c)) ∧ w' = V) := fun V c => specSgn c V
  have HBs : Hid (∀ V l, l.length ≤ 4000 → Calls Tryz.prog 24 #[.string (natT l)] V fun e w' => e = .returned (.string (b64D (natT l))) ∧ Below V.heap.size V w') := fun V l hl => specBase (natT l) V (by rw [natT_size]; omega)
  clear hR
  go_enter Tryz.func29, Tryz.ntmps29
  go_wp2
  go_loopw [4, 5, 6, 7] (fun b n c i wr => ∃ (k n' c' : Nat) (pre : List Nat), i = .int .i64 k ∧ n = .int .i64 n' ∧ c = .int .i64 c' ∧ k ≤ s.size ∧ n' < 65536 ∧ pre.length ≤ k ∧ (c' = 0 ∨ c' = 6 ∨ c' = 4 ∨ c' = 2) ∧ OwnB wr w.heap.size b pre ∧ (R = (readV ((bts s).drop k)).map fun vs => pre ++ (rgi vs (n' % 2 ^ c') c').1) ∧ Below w.heap.size w wr)
    (fun _ _ _ i _ => s.size - (RowKit.intOf i).toNat)
  case atStart =>
    exact ⟨0, 0, 0, [], rfl, rfl, rfl, Nat.zero_le _, by omega, Nat.le_refl _, .inl rfl, World.ownsRow_made _ #[] 0 (Nat.le_refl _) (Nat.zero_le _) rfl, HR.out, (Below.refl _ _).alloc (Nat.le_refl _) _⟩
  case round =>
    obtain ⟨k, n, c, pre, rfl, rfl, rfl, hk, hn, hpk, hc, hown, hat, hbel⟩ := hrel
    have HB : Hid (Below w.heap.size w wr) := hbel
    have HO : Hid (OwnB wr w.heap.size _ pre) := hown
    have HT : Hid _ := hat
    clear hown hat hbel
    by_cases hlt : k < s.size
    rotate_left
    · obtain rfl : k = s.size := by omega
      have hRs : R = some pre := by
        rw [HT.out, bts_end s s.size (Nat.le_refl _)]
        simp [readV, rgi]
      have HF : Hid _ := HS.out _ hRs
      obtain ⟨va, vc, rfl, _⟩ := OwnB.form HO.out
      obtain ⟨pl, hpl⟩ : ∃ p, p = pre.length := ⟨_, rfl⟩
      have hO : wr.ownsRow w.heap.size 5 1 (.slice va pl vc) pl ((pre.map (fun x : Nat => (x : Int))).map (Value.int .u8)) := by
        have h2 := HO.out
        unfold OwnB at h2
        rw [← hpl] at h2
        exact h2
      have HCv : Hid (∀ V : World, V.ownsRow w.heap.size 5 1 (.slice va pl vc) pl ((pre.map (fun x : Nat => (x : Int))).map (Value.int .u8)) → (convert 22 9 (.slice va pl vc)).run Tryz.prog V = .ok (.string (natT pre)) V) := fun V hV => run_convert_own (P := Tryz.prog) (src := 22) (dst := 9) Tryz.underlying22 Tryz.underlying5 Tryz.underlying9 hV
      have HPl : Hid (pl = pre.length) := hpl
      rw [← hpl] at HF ⊢
      have HBp : Hid (pl ≤ 4000 → ∀ V, Calls Tryz.prog 24 #[.string (natT pre)] V fun e w' => e = .returned (.string (b64D (natT pre))) ∧ Below V.heap.size V w') := fun h V => HBs.out V pre (by rw [← HPl.out]; exact h)
      have hD : wr.drew.ownsRow w.heap.size 5 1 (.slice va pl vc) pl ((pre.map (fun x : Nat => (x : Int))).map (Value.int .u8)) := hO
      have q2 : ¬ (s.size : Int) < (s.size : Int) := by omega
      have hcv := HCv.out
      clear hRs hpl HT HO HS HN HR HRl HSg HBs HCv hpk
      generalize natT pre = T at *
      generalize hLL : (pre.map (fun x : Nat => (x : Int))).map (Value.int .u8) = LL at *
      by_cases h4 : pl ≤ 4000
      · have H4 : Hid _ := HBp.out h4
        generalize b64D T = BT at *
        have h4i : ((pl : Nat) : Int) ≤ 4000 := by omega
        have hd4 : decide (pl ≤ 4000 ∧ BT = s) = decide (BT = s) := by simp [h4]
        have HF1 : Hid (readLT s = (T, decide (BT = s))) := by show _ = _; rw [HF.out, hd4]
        have hst := same_text' BT s
        clear HBp hd4 hLL HF
        go_upto_region 14 with fail
        refine wp_region_held_drew (S := fun V => V.ownsRow w.heap.size 5 1 (.slice va pl vc) pl LL) (by kernel_rfl) hD (fun hHeld => ?_)
        refine wpAnyH_take (i := 0) (oi := ⟨some 41, _, _, _, _, _⟩) (v := ?_) rfl (by kernel_rfl) (by kernel_rfl) (by kernel_rfl) (fun _ _ _ h => h) (Or.inl ⟨by kernel_rfl, ?_⟩) (by assumption) ?_
        rotate_left
        · (intro w hSw; (try dsimp only at hSw); go_simp; try with_reducible rfl)
        (try simp only [Act.put, List.setIfInBounds_toArray, List.set_cons_zero, List.set_cons_succ])
        refine wpAnyH_take (i := 1) (oi := ⟨some 42, _, _, _, _, _⟩) (v := ?_) rfl (by kernel_rfl) (by kernel_rfl) (by kernel_rfl) (fun _ _ _ h => h) (Or.inl ⟨by kernel_rfl, ?_⟩) (by assumption) ?_
        rotate_left
        · (intro w hSw; (try dsimp only at hSw); go_simp; try with_reducible rfl)
        (try simp only [Act.put, List.setIfInBounds_toArray, List.set_cons_zero, List.set_cons_succ])
        refine wpAnyH_take (i := 2) (oi := ⟨some 43, _, _, _, _, _⟩) (v := ?_) rfl (by kernel_rfl) (by kernel_rfl) (by kernel_rfl) (fun _ _ _ h => h) (Or.inl ⟨by kernel_rfl, ?_⟩) (by assumption) ?_
        rotate_left
        · (intro w hSw; (try dsimp only at hSw); go_simp; try with_reducible rfl)
        (try simp only [Act.put, List.setIfInBounds_toArray, List.set_cons_zero, List.set_cons_succ])
        refine wpAnyH_take (i := 3) (oi := ⟨some 44, _, _, _, _, _⟩) (v := ?_) rfl (by kernel_rfl) (by kernel_rfl) (by kernel_rfl) (fun _ _ _ h => h) (Or.inl ⟨by kernel_rfl, ?_⟩) (by assumption) ?_
        rotate_left
        · (intro w hSw; (try dsimp only at hSw); go_simp; try with_reducible rfl)
        (try simp only [Act.put, List.setIfInBounds_toArray, List.set_cons_zero, List.set_cons_succ])
        refine wpAnyH_take (i := 4) (oi := ⟨some 45, _, _, _, _, _⟩) (v := ?_) rfl (by kernel_rfl) (by kernel_rfl) (by kernel_rfl) (fun _ _ _ h => h) (Or.inl ⟨by kernel_rfl, ?_⟩) (by assumption) ?_
        rotate_left
        · (intro w hSw; (try dsimp only at hSw); go_simp; try with_reducible rfl)
        (try simp only [Act.put, List.setIfInBounds_toArray, List.set_cons_zero, List.set_cons_succ])
        refine wpAnyH_take (i := 5) (oi := ⟨some 46, _, _, _, _, _⟩) (v := ?_) rfl (by kernel_rfl) (by kernel_rfl) (by kernel_rfl) (fun _ _ _ h => h) (Or.inl ⟨by kernel_rfl, ?_⟩) (by assumption) ?_
        rotate_left
        · (intro w hSw; (try dsimp only at hSw); go_simp; try with_reducible rfl)
        (try simp only [Act.put, List.setIfInBounds_toArray, List.set_cons_zero, List.set_cons_succ])
        refine wpAnyH_take (i := 6) (oi := ⟨some 47, _, _, _, _, _⟩) (v := ?_) rfl (by kernel_rfl) (by kernel_rfl) (by kernel_rfl) (fun _ _ _ h => h) (Or.inl ⟨by kernel_rfl, ?_⟩) (by assumption) ?_
        rotate_left
        · (intro w hSw; (try dsimp only at hSw); go_simp; try with_reducible rfl)
        (try simp only [Act.put, List.setIfInBounds_toArray, List.set_cons_zero, List.set_cons_succ])
        refine wpAnyH_take (i := 7) (oi := ⟨some 48, _, _, _, _, _⟩) (v := ?_) rfl (by kernel_rfl) (by kernel_rfl) (by kernel_rfl) (fun _ _ _ h => h) (Or.inl ⟨by kernel_rfl, ?_⟩) (by assumption) ?_
        rotate_left
        · (intro w hSw; (try dsimp only at hSw); go_simp; try with_reducible rfl)
        (try simp only [Act.put, List.setIfInBounds_toArray, List.set_cons_zero, List.set_cons_succ])
        refine wpAnyH_take (i := 9) (oi := ⟨some 50, _, _, _, _, _⟩) (v := ?_) rfl (by kernel_rfl) (by kernel_rfl) (by kernel_rfl) (fun _ _ _ h => h) (Or.inl ⟨by kernel_rfl, ?_⟩) (by assumption) ?_
        rotate_left
        · (intro w hSw; (try dsimp only at hSw); go_simp; try with_reducible rfl)
        (try simp only [Act.put, List.setIfInBounds_toArray, List.set_cons_zero, List.set_cons_succ])
        refine wpAnyH_ready (rs := [8]) (by kernel_rfl) (by simp) ?_
        refine AllReadyH.cons (o := ⟨some 49, _, _, _, _, _⟩) rfl (fun K hK => ?_) AllReadyH.nil
        go_simp
        refine (H4.out wr.drew).mono ?_
        rintro e w2 ⟨rfl, b2⟩
        have hO2 : w2.ownsRow w.heap.size 5 1 (.slice va pl vc) pl LL := by
          refine ⟨hD.1, ?_⟩
          rcases hD.2 with h | ⟨g, cap, cur, e, h1, h2, h3⟩
          · exact .inl h
          · exact .inr ⟨g, cap, cur, e, h1, by rw [b2.block g (heap_lt h2)]; exact h2, h3⟩
        have HB2 : Hid (Below w.heap.size w w2) := HB.out.drew.trans (b2.mono HB.out.size)
        refine hK.out _ _ hO2 (fun hHeld => ?_)
        clear hK K b2 hD hO HB H4
        (try simp only [Act.put, List.setIfInBounds_toArray, List.set_cons_zero, List.set_cons_succ])
        refine wpAnyH_take (i := 10) (oi := ⟨some 51, _, _, _, _, _⟩) (v := ?_) rfl (by kernel_rfl) (by kernel_rfl) (by kernel_rfl) (fun _ _ _ h => h) (Or.inl ⟨by kernel_rfl, ?_⟩) (by assumption) ?_
        rotate_left
        · (intro w hSw; (try dsimp only at hSw); go_simp; try with_reducible rfl)
        (try simp only [Act.put, List.setIfInBounds_toArray, List.set_cons_zero, List.set_cons_succ])
        refine wpAnyH_take (i := 11) (oi := ⟨some 52, _, _, _, _, _⟩) (v := ?_) rfl (by kernel_rfl) (by kernel_rfl) (by kernel_rfl) (fun _ _ _ h => h) (Or.inl ⟨by kernel_rfl, ?_⟩) (by assumption) ?_
        rotate_left
        · (intro w hSw; (try dsimp only at hSw); go_simp; try with_reducible rfl)
        (try simp only [Act.put, List.setIfInBounds_toArray, List.set_cons_zero, List.set_cons_succ])
        refine wpAnyH_take (i := 12) (oi := ⟨some 2, _, _, _, _, _⟩) (v := ?_) rfl (by kernel_rfl) (by kernel_rfl) (by kernel_rfl) (fun _ _ _ h => h) (Or.inl ⟨by kernel_rfl, ?_⟩) (by assumption) ?_
        rotate_left
        · (intro w hSw; (try dsimp only at hSw); go_simp; try with_reducible rfl)
        (try simp only [Act.put, List.setIfInBounds_toArray, List.set_cons_zero, List.set_cons_succ])
        refine wpAnyH_take (i := 13) (oi := ⟨some 3, _, _, _, _, _⟩) (v := ?_) rfl (by kernel_rfl) (by kernel_rfl) (by kernel_rfl) (fun _ _ _ h => h) (Or.inl ⟨by kernel_rfl, ?_⟩) (by assumption) ?_
        rotate_left
        · (intro w hSw; (try dsimp only at hSw); go_simp; try with_reducible rfl)
        (try simp only [Act.put, List.setIfInBounds_toArray, List.set_cons_zero, List.set_cons_succ])
        refine wpAnyH_done (by kernel_rfl) ?_ _
        go_wp2
        go_ret2
        exact ⟨by rw [HF1.out]; rfl, HB2.out⟩
      · have h4i : ¬ ((pl : Nat) : Int) ≤ 4000 := by omega
        have hd4 : decide (pl ≤ 4000 ∧ b64D T = s) = false := by simp [h4]
        have HF1 : Hid (readLT s = (T, false)) := by show _ = _; rw [HF.out, hd4]
        have HB2 : Hid (Below w.heap.size w wr.drew) := HB.out.drew
        clear HBp hd4 hLL HF
        go_upto_region 14 with fail
        refine wp_region_held_drew (S := fun V => V.ownsRow w.heap.size 5 1 (.slice va pl vc) pl LL) (by kernel_rfl) hD (fun hHeld => ?_)
        refine wpAnyH_take (i := 0) (oi := ⟨some 41, _, _, _, _, _⟩) (v := ?_) rfl (by kernel_rfl) (by kernel_rfl) (by kernel_rfl) (fun _ _ _ h => h) (Or.inl ⟨by kernel_rfl, ?_⟩) (by assumption) ?_
        rotate_left
        · (intro w hSw; (try dsimp only at hSw); go_simp; try with_reducible rfl)
        (try simp only [Act.put, List.setIfInBounds_toArray, List.set_cons_zero, List.set_cons_succ])
        refine wpAnyH_take (i := 1) (oi := ⟨some 42, _, _, _, _, _⟩) (v := ?_) rfl (by kernel_rfl) (by kernel_rfl) (by kernel_rfl) (fun _ _ _ h => h) (Or.inl ⟨by kernel_rfl, ?_⟩) (by assumption) ?_
        rotate_left
        · (intro w hSw; (try dsimp only at hSw); go_simp; try with_reducible rfl)
        (try simp only [Act.put, List.setIfInBounds_toArray, List.set_cons_zero, List.set_cons_succ])
        refine wpAnyH_take (i := 2) (oi := ⟨some 43, _, _, _, _, _⟩) (v := ?_) rfl (by kernel_rfl) (by kernel_rfl) (by kernel_rfl) (fun _ _ _ h => h) (Or.inl ⟨by kernel_rfl, ?_⟩) (by assumption) ?_
        rotate_left
        · (intro w hSw; (try dsimp only at hSw); go_simp; try with_reducible rfl)
        (try simp only [Act.put, List.setIfInBounds_toArray, List.set_cons_zero, List.set_cons_succ])
        refine wpAnyH_take (i := 3) (oi := ⟨some 44, _, _, _, _, _⟩) (v := ?_) rfl (by kernel_rfl) (by kernel_rfl) (by kernel_rfl) (fun _ _ _ h => h) (Or.inl ⟨by kernel_rfl, ?_⟩) (by assumption) ?_
        rotate_left
        · (intro w hSw; (try dsimp only at hSw); go_simp; try with_reducible rfl)
        (try simp only [Act.put, List.setIfInBounds_toArray, List.set_cons_zero, List.set_cons_succ])
        refine wpAnyH_take (i := 4) (oi := ⟨some 45, _, _, _, _, _⟩) (v := ?_) rfl (by kernel_rfl) (by kernel_rfl) (by kernel_rfl) (fun _ _ _ h => h) (Or.inl ⟨by kernel_rfl, ?_⟩) (by assumption) ?_
        rotate_left
        · (intro w hSw; (try dsimp only at hSw); go_simp; try with_reducible rfl)
        (try simp only [Act.put, List.setIfInBounds_toArray, List.set_cons_zero, List.set_cons_succ])
        refine wpAnyH_take (i := 5) (oi := ⟨some 46, _, _, _, _, _⟩) (v := ?_) rfl (by kernel_rfl) (by kernel_rfl) (by kernel_rfl) (fun _ _ _ h => h) (Or.inl ⟨by kernel_rfl, ?_⟩) (by assumption) ?_
        rotate_left
        · (intro w hSw; (try dsimp only at hSw); go_simp; try with_reducible rfl)
        (try simp only [Act.put, List.setIfInBounds_toArray, List.set_cons_zero, List.set_cons_succ])
        refine wpAnyH_take (i := 6) (oi := ⟨some 47, _, _, _, _, _⟩) (v := undef) rfl (by kernel_rfl) (by kernel_rfl) (by kernel_rfl) (fun _ _ _ h => h) (Or.inr ⟨by kernel_rfl, rfl⟩) (by assumption) ?_
        (try simp only [Act.put, List.setIfInBounds_toArray, List.set_cons_zero, List.set_cons_succ])
        refine wpAnyH_take (i := 7) (oi := ⟨some 48, _, _, _, _, _⟩) (v := undef) rfl (by kernel_rfl) (by kernel_rfl) (by kernel_rfl) (fun _ _ _ h => h) (Or.inr ⟨by kernel_rfl, rfl⟩) (by assumption) ?_
        (try simp only [Act.put, List.setIfInBounds_toArray, List.set_cons_zero, List.set_cons_succ])
        refine wpAnyH_take (i := 8) (oi := ⟨some 49, _, _, _, _, _⟩) (v := undef) rfl (by kernel_rfl) (by kernel_rfl) (by kernel_rfl) (fun _ _ _ h => h) (Or.inr ⟨by kernel_rfl, rfl⟩) (by assumption) ?_
        (try simp only [Act.put, List.setIfInBounds_toArray, List.set_cons_zero, List.set_cons_succ])
        refine wpAnyH_take (i := 9) (oi := ⟨some 50, _, _, _, _, _⟩) (v := undef) rfl (by kernel_rfl) (by kernel_rfl) (by kernel_rfl) (fun _ _ _ h => h) (Or.inr ⟨by kernel_rfl, rfl⟩) (by assumption) ?_
        (try simp only [Act.put, List.setIfInBounds_toArray, List.set_cons_zero, List.set_cons_succ])
        refine wpAnyH_take (i := 10) (oi := ⟨some 51, _, _, _, _, _⟩) (v := undef) rfl (by kernel_rfl) (by kernel_rfl) (by kernel_rfl) (fun _ _ _ h => h) (Or.inr ⟨by kernel_rfl, rfl⟩) (by assumption) ?_
        (try simp only [Act.put, List.setIfInBounds_toArray, List.set_cons_zero, List.set_cons_succ])
        refine wpAnyH_take (i := 11) (oi := ⟨some 52, _, _, _, _, _⟩) (v := ?_) rfl (by kernel_rfl) (by kernel_rfl) (by kernel_rfl) (fun _ _ _ h => h) (Or.inl ⟨by kernel_rfl, ?_⟩) (by assumption) ?_
        rotate_left
        · (intro w hSw; (try dsimp only at hSw); go_simp; try with_reducible rfl)
        (try simp only [Act.put, List.setIfInBounds_toArray, List.set_cons_zero, List.set_cons_succ])
        refine wpAnyH_take (i := 12) (oi := ⟨some 2, _, _, _, _, _⟩) (v := ?_) rfl (by kernel_rfl) (by kernel_rfl) (by kernel_rfl) (fun _ _ _ h => h) (Or.inl ⟨by kernel_rfl, ?_⟩) (by assumption) ?_
        rotate_left
        · (intro w hSw; (try dsimp only at hSw); go_simp; try with_reducible rfl)
        (try simp only [Act.put, List.setIfInBounds_toArray, List.set_cons_zero, List.set_cons_succ])
        refine wpAnyH_take (i := 13) (oi := ⟨some 3, _, _, _, _, _⟩) (v := ?_) rfl (by kernel_rfl) (by kernel_rfl) (by kernel_rfl) (fun _ _ _ h => h) (Or.inl ⟨by kernel_rfl, ?_⟩) (by assumption) ?_
        rotate_left
        · (intro w hSw; (try dsimp only at hSw); go_simp; try with_reducible rfl)
        (try simp only [Act.put, List.setIfInBounds_toArray, List.set_cons_zero, List.set_cons_succ])
        refine wpAnyH_done (by kernel_rfl) ?_ _
        go_wp2
        go_ret2
        exact ⟨by rw [HF1.out]; rfl, HB2.out⟩
    have q1 : (0 : Int) ≤ (k : Int) := Int.natCast_nonneg _
    have q2 : (k : Int) < (s.size : Int) := by omega
    have hT := HT.out
    rw [bts_drop s k hlt, readV] at hT
    have hcz := u8_lt s[k]
    obtain ⟨z, hz⟩ : ∃ z, z = s[k].toNat := ⟨_, rfl⟩
    have hidx : (s[k].toNat : Int) = (z : Int) := by rw [hz]
    rw [← hz] at hT
    have HZ : Hid (s[k].toNat = z) := hz.symm
    obtain ⟨va, vc, rfl, _⟩ := OwnB.form HO.out
    cases hsg : sgi z with
    | none =>
      have hRn : R = none := by rw [hT, hsg]; rfl
      have HF : Hid _ := HN.out hRn
      have hk1 : sgk z = -1 := by rw [sgk, hsg]
      clear hT HT hRn HS HBs HR
      go_wp2_with fail
      refine (HSg.out wr z).mono ?_
      rintro e w2 ⟨rfl, rfl⟩
      rw [hk1]
      clear hsg hk1
      go_wp2
      go_ret2
      exact ⟨by rw [HF.out]; rfl, HB.out⟩
    | some q =>
    have hq := (sgi_some hsg).1
    have hk1 : sgk z = (q : Int) := by rw [sgk, hsg]
    have HT2 : Hid (R = (readV ((bts s).drop (k + 1))).map fun vs => pre ++ (rgi (q :: vs) (n % 2 ^ c) c).1) := by
      show _ = _
      rw [hT, hsg]
      cases readV ((bts s).drop (k + 1)) <;> rfl
    obtain ⟨m, hm⟩ : ∃ m, m = n * 64 + q := ⟨_, rfl⟩
    have o1 : bits .or .i64 ((n : Int) * 64) (q : Int) = (m : Int) := by
      have := or_low 6 (by omega) n q (by omega) (by omega)
      rw [hm, ← this]
      congr 1
    obtain ⟨n2, hn2⟩ : ∃ n2, n2 = m % 65536 := ⟨_, rfl⟩
    have o2 : bits .and .i64 (m : Int) 65535 = (n2 : Int) := by rw [and16, hn2]
    have hn2l : n2 < 65536 := by omega
    have HMN : Hid (m = n * 64 + q ∧ n2 = m % 65536 ∧ q < 64 ∧ n < 65536) := ⟨hm, hn2, hq, hn⟩
    obtain ⟨pl, hpl⟩ : ∃ p, p = pre.length := ⟨_, rfl⟩
    have HPl : Hid (pl = pre.length) := hpl
    rw [← hpl] at HO ⊢
    have q0 : (0 : Int) ≤ (q : Int) := Int.natCast_nonneg _
    have q64 : (q : Int) < 64 := by omega
    clear hT HT hm hn2 hpl
    rcases hc with rfl | rfl | rfl | rfl
    · have HT3 : Hid (R = (readV ((bts s).drop (k + 1))).map fun vs => pre ++ (rgi vs (n2 % 2 ^ 6) 6).1) := by
        show _ = _
        rw [HT2.out]
        have hx : n2 % 2 ^ 6 = (n % 2 ^ 0) * 64 + q := by have := HMN.out; omega
        congr 1
        funext vs
        rw [rgi, if_pos rfl, hx]
      go_wp2_with fail
      refine (HSg.out wr z).mono ?_
      rintro e w2 ⟨rfl, rfl⟩
      rw [hk1]
      clear hsg hk1 HT2
      go_wp2
      go_roundw
      case rel => exact ⟨k + 1, n2, 6, pre, by go_num, by go_num, by go_num, by omega, hn2l, by omega, by simp, by have h2 := HO.out; rw [HPl.out] at h2 ⊢; exact h2, HT3.out, HB.out⟩
      case measure => simp [RowKit.intOf]; omega
    · obtain ⟨g, hg⟩ : ∃ g, g = ((n % 2 ^ 6) * 64 + q) / 16 := ⟨_, rfl⟩
      have hx : n2 % 2 ^ 4 = (((n % 2 ^ 6) * 64 + q)) % 16 := by have := HMN.out; omega
      have sw : IntKind.u8.wrap ((n2 : Int) / 16) = (g : Int) := by
        rw [IntKind.wrap_u8]
        have := HMN.out
        omega
      have HT3 : Hid (R = (readV ((bts s).drop (k + 1))).map fun vs => (pre ++ [g]) ++ (rgi vs (n2 % 2 ^ 4) 4).1) := by
        show _ = _
        rw [HT2.out]
        congr 1
        funext vs
        rw [hx, hg, rgi]
        simp
      have hbd : pl + 1 ≤ 40000 := by rw [HPl.out]; omega
      clear hg hx HT2
      go_wp2_with fail
      refine (HSg.out wr z).mono ?_
      rintro e w2 ⟨rfl, rfl⟩
      rw [hk1]
      clear hsg hk1
      have hO : w2.ownsRow w.heap.size 5 1 (.slice va pl vc) pl ((pre.map (fun x : Nat => (x : Int))).map (Value.int .u8)) := by
        have h2 := HO.out
        unfold OwnB at h2
        rw [← HPl.out] at h2
        exact h2
      have hs2 : w.heap.size ≤ w2.heap.size := HB.out.size
      go_wp2_with (at_builtin; refine wpList_append_own _ rfl _ _ 22 rfl w.heap.size 5 i0 (.int .u8 0) 1 1 Tryz.underlying22 hi hz0 hz1 hz2 rfl (by decide) _ _ _ rfl (hO.alloc _) ⟨w2.heap.size, 0, none⟩ 1 1 [.int .u8 (g : Int)] rfl rfl (cells_one (by simp)) (by simp [Value.oneCell']) (by unfold maxLen; omega) (by omega) (by simp; omega) ?_)
      intro y w3 hown3 hgrow3 _
      have B3 : Hid (Below w.heap.size w w3) := (HB.out.alloc (by omega) _).grown hgrow3 (by simp; omega) (fun j hj => (hO.lt j hj).1)
      have O3 : Hid (OwnB w3 w.heap.size y (pre ++ [g])) := by
        show World.ownsRow _ _ _ _ _ _ _
        rw [List.length_append, ← HPl.out]
        simpa [List.map_append] using hown3
      clear hgrow3 hown3 hO hs2 HO HB
      go_wp2
      go_roundw
      case rel => exact ⟨k + 1, n2, 4, _, by go_num, by go_num, by go_num, by omega, hn2l, by rw [List.length_append]; show pre.length + 1 ≤ k + 1; omega, by simp, O3.out, HT3.out, B3.out⟩
      case measure => simp [RowKit.intOf]; omega
    · obtain ⟨g, hg⟩ : ∃ g, g = ((n % 2 ^ 4) * 64 + q) / 4 := ⟨_, rfl⟩
      have hx : n2 % 2 ^ 2 = (((n % 2 ^ 4) * 64 + q)) % 4 := by have := HMN.out; omega
      have sw : IntKind.u8.wrap ((n2 : Int) / 4) = (g : Int) := by
        rw [IntKind.wrap_u8]
        have := HMN.out
        omega
      have HT3 : Hid (R = (readV ((bts s).drop (k + 1))).map fun vs => (pre ++ [g]) ++ (rgi vs (n2 % 2 ^ 2) 2).1) := by
        show _ = _
        rw [HT2.out]
        congr 1
        funext vs
        rw [hx, hg, rgi]
        simp
      have hbd : pl + 1 ≤ 40000 := by rw [HPl.out]; omega
      clear hg hx HT2
      go_wp2_with fail
      refine (HSg.out wr z).mono ?_
      rintro e w2 ⟨rfl, rfl⟩
      rw [hk1]
      clear hsg hk1
      have hO : w2.ownsRow w.heap.size 5 1 (.slice va pl vc) pl ((pre.map (fun x : Nat => (x : Int))).map (Value.int .u8)) := by
        have h2 := HO.out
        unfold OwnB at h2
        rw [← HPl.out] at h2
        exact h2
      have hs2 : w.heap.size ≤ w2.heap.size := HB.out.size
      go_wp2_with (at_builtin; refine wpList_append_own _ rfl _ _ 22 rfl w.heap.size 5 i0 (.int .u8 0) 1 1 Tryz.underlying22 hi hz0 hz1 hz2 rfl (by decide) _ _ _ rfl (hO.alloc _) ⟨w2.heap.size, 0, none⟩ 1 1 [.int .u8 (g : Int)] rfl rfl (cells_one (by simp)) (by simp [Value.oneCell']) (by unfold maxLen; omega) (by omega) (by simp; omega) ?_)
      intro y w3 hown3 hgrow3 _
      have B3 : Hid (Below w.heap.size w w3) := (HB.out.alloc (by omega) _).grown hgrow3 (by simp; omega) (fun j hj => (hO.lt j hj).1)
      have O3 : Hid (OwnB w3 w.heap.size y (pre ++ [g])) := by
        show World.ownsRow _ _ _ _ _ _ _
        rw [List.length_append, ← HPl.out]
        simpa [List.map_append] using hown3
      clear hgrow3 hown3 hO hs2 HO HB
      go_wp2
      go_roundw
      case rel => exact ⟨k + 1, n2, 2, _, by go_num, by go_num, by go_num, by omega, hn2l, by rw [List.length_append]; show pre.length + 1 ≤ k + 1; omega, by simp, O3.out, HT3.out, B3.out⟩
      case measure => simp [RowKit.intOf]; omega
    · obtain ⟨g, hg⟩ : ∃ g, g = ((n % 2 ^ 2) * 64 + q) := ⟨_, rfl⟩
      have hx : n2 % 2 ^ 0 = 0 := by have := HMN.out; omega
      have sw : IntKind.u8.wrap ((n2 : Int)) = (g : Int) := by
        rw [IntKind.wrap_u8]
        have := HMN.out
        omega
      have HT3 : Hid (R = (readV ((bts s).drop (k + 1))).map fun vs => (pre ++ [g]) ++ (rgi vs (n2 % 2 ^ 0) 0).1) := by
        show _ = _
        rw [HT2.out]
        congr 1
        funext vs
        rw [hx, hg, rgi]
        simp
      have hbd : pl + 1 ≤ 40000 := by rw [HPl.out]; omega
      clear hg hx HT2
      go_wp2_with fail
      refine (HSg.out wr z).mono ?_
      rintro e w2 ⟨rfl, rfl⟩
      rw [hk1]
      clear hsg hk1
      have hO : w2.ownsRow w.heap.size 5 1 (.slice va pl vc) pl ((pre.map (fun x : Nat => (x : Int))).map (Value.int .u8)) := by
        have h2 := HO.out
        unfold OwnB at h2
        rw [← HPl.out] at h2
        exact h2
      have hs2 : w.heap.size ≤ w2.heap.size := HB.out.size
      go_wp2_with (at_builtin; refine wpList_append_own _ rfl _ _ 22 rfl w.heap.size 5 i0 (.int .u8 0) 1 1 Tryz.underlying22 hi hz0 hz1 hz2 rfl (by decide) _ _ _ rfl (hO.alloc _) ⟨w2.heap.size, 0, none⟩ 1 1 [.int .u8 (g : Int)] rfl rfl (cells_one (by simp)) (by simp [Value.oneCell']) (by unfold maxLen; omega) (by omega) (by simp; omega) ?_)
      intro y w3 hown3 hgrow3 _
      have B3 : Hid (Below w.heap.size w w3) := (HB.out.alloc (by omega) _).grown hgrow3 (by simp; omega) (fun j hj => (hO.lt j hj).1)
      have O3 : Hid (OwnB w3 w.heap.size y (pre ++ [g])) := by
        show World.ownsRow _ _ _ _ _ _ _
        rw [List.length_append, ← HPl.out]
        simpa [List.map_append] using hown3
      clear hgrow3 hown3 hO hs2 HO HB
      go_wp2
      go_roundw
      case rel => exact ⟨k + 1, n2, 0, _, by go_num, by go_num, by go_num, by omega, hn2l, by rw [List.length_append]; show pre.length + 1 ≤ k + 1; omega, by simp, O3.out, HT3.out, B3.out⟩
      case measure => simp [RowKit.intOf]; omega
end Go.Proofs.YtjkmfjegphpjkaaGreatDoor
