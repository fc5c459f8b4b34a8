/- spec.l09Base, spec.Base64, walked. spec.Base64, walked. A row of texts: what is said of it. FnExactNameRight, walks: 'spec.NameRight' and 'impl.NameRight' answer true just where the text is a right name. -/
import Derived.Test.YtdehbaafbbjcgaaGreatDoorJT03
import Derived.Deep.Cut
import Derived.Test.YtdehbaafbbjcgaaGreatDoorJT01
import Derived.Handy
import Derived.Deep.QuietTactic
import Derived.BigQuiet
import Derived.Test.YtdehbaafbbjcgaaGreatDoorRows
import Derived.WalkKit
import Derived.WalkSpells
import Derived.WalkLawsBesides
import Derived.Below
namespace Go.Proofs.YtdehbaafbbjcgaaGreatDoor
open Go.RowKit Go.Lib

set_option linter.unusedSimpArgs false in
set_option maxHeartbeats 4000000 in
set_option maxRecDepth 100000 in
theorem specBase (s : ByteArray) (w : World) (hs : s.size ≤ 100000) :
    Calls Tryz.prog 22 #[.string s] w fun e w' => e = .returned (.string (b64D s)) ∧ Below w.heap.size w w' := by
  obtain ⟨i0, hi, hz0, hz1, hz2⟩ := info_parts infoByte
  have hR0 := b64I_len (bts s)
  rw [bts_len] at hR0
  obtain ⟨R, hR⟩ : ∃ R, R = b64I (bts s) := ⟨_, rfl⟩
  have HD : Hid (b64D s = strOfNums R) := by show _ = _; rw [hR]; rfl
  rw [HD.out]
  rw [← hR] at hR0
  have HRl : Hid (R.length ≤ 200000) := by show _ ≤ _; omega
  have HR : Hid (R = b64I (bts s)) := hR
  clear hR hR0 HD
  go_enter Tryz.func22, Tryz.ntmps22
  go_wp2
  go_loopw [3, 4] (fun b i wr => ∃ (k : Nat) (pre : List Int), i = .int .i64 k ∧ k ≤ s.size + 2 ∧ wr.ownsRow w.heap.size 5 1 b pre.length (pre.map (Value.int .u8)) ∧ R = pre ++ b64I ((bts s).drop k) ∧ Below w.heap.size w wr ∧ w.heap.size ≤ wr.heap.size)
    (fun _ i _ => s.size + 3 - (RowKit.intOf i).toNat)
  case atStart =>
    exact ⟨0, [], rfl, by omega, World.ownsRow_made _ #[] 0 (Nat.le_refl _) (Nat.zero_le _) rfl, HR.out, (Below.refl _ _).alloc (Nat.le_refl _) _, by simp⟩
  case round =>
    obtain ⟨k, pre, rfl, hk, hown, hpre, hbel, hsz⟩ := hrel
    by_cases hlt : k < s.size
    rotate_left
    · have hRp : R = pre := by rw [hpre, bts_end s k (by omega)]; simp [b64I, b64]
      subst hRp
      have hcv := run_convert_own (P := Tryz.prog) (src := 22) (dst := 9) Tryz.underlying22 Tryz.underlying5 Tryz.underlying9 hown
      have q2 : ¬ (k : Int) < (s.size : Int) := by omega
      clear hown hpre HR HRl hlt
      go_wp2
      go_ret
      exact ⟨rfl, hbel⟩
    have q1 : (0 : Int) ≤ (k : Int) := Int.natCast_nonneg _
    have q2 : (k : Int) < (s.size : Int) := by omega
    have ha := u8_lt s[k]
    by_cases h3 : k + 2 < s.size
    · have hb := u8_lt (s[k + 1]'(by omega))
      have hc := u8_lt (s[k + 2]'(by omega))
      have hd : b64I ((bts s).drop k) = [sg (s[k].toNat / 4), sg (s[k].toNat % 4 * 16 + (s[k + 1]'(by omega)).toNat / 16), sg ((s[k + 1]'(by omega)).toNat % 16 * 4 + (s[k + 2]'(by omega)).toNat / 64), sg ((s[k + 2]'(by omega)).toNat % 64)] ++ b64I ((bts s).drop (k + 3)) := by
        rw [bts_drop s k hlt, bts_drop s (k + 1) (by omega), bts_drop s (k + 1 + 1) (by omega)]
        rfl
      have q3 : (k : Int) + 1 < (s.size : Int) := by omega
      have q4 : (k : Int) + 2 < (s.size : Int) := by omega
      obtain ⟨m, hm⟩ : ∃ m : Nat, m = s[k].toNat * 65536 + (s[k + 1]'(by omega)).toNat * 256 := ⟨_, rfl⟩
      obtain ⟨N, hN⟩ : ∃ N : Nat, N = m + (s[k + 2]'(by omega)).toNat := ⟨_, rfl⟩
      have o1 : bits .or .i64 ((s[k].toNat : Int) * 65536) (((s[k + 1]'(by omega)).toNat : Int) * 256) = (m : Int) := by
        have h := or_low 16 (by omega) s[k].toNat ((s[k + 1]'(by omega)).toNat * 256) (by omega) (by omega)
        rw [hm, ← h]
        congr 1 <;> omega
      have o2 : bits .or .i64 (m : Int) ((s[k + 2]'(by omega)).toNat : Int) = (N : Int) := by
        have h := or_low 8 (by omega) (s[k].toNat * 256 + (s[k + 1]'(by omega)).toNat) (s[k + 2]'(by omega)).toNat (by omega) (by omega)
        have e : (s[k].toNat * 256 + (s[k + 1]'(by omega)).toNat) * 2 ^ 8 = m := by omega
        rw [e, ← hN] at h
        exact h
      obtain ⟨g0, hg0⟩ : ∃ g, g = s[k].toNat / 4 := ⟨_, rfl⟩
      rw [← hg0] at hd
      have v0 : bits .and .i64 (((N : Int) / 262144)) 63 = (g0 : Int) := by rw [and63]; omega
      have e0 := idxSg g0 (by omega)
      obtain ⟨g1, hg1⟩ : ∃ g, g = s[k].toNat % 4 * 16 + (s[k + 1]'(by omega)).toNat / 16 := ⟨_, rfl⟩
      rw [← hg1] at hd
      have v1 : bits .and .i64 (((N : Int) / 4096)) 63 = (g1 : Int) := by rw [and63]; omega
      have e1 := idxSg g1 (by omega)
      obtain ⟨g2, hg2⟩ : ∃ g, g = (s[k + 1]'(by omega)).toNat % 16 * 4 + (s[k + 2]'(by omega)).toNat / 64 := ⟨_, rfl⟩
      rw [← hg2] at hd
      have v2 : bits .and .i64 (((N : Int) / 64)) 63 = (g2 : Int) := by rw [and63]; omega
      have e2 := idxSg g2 (by omega)
      obtain ⟨g3, hg3⟩ : ∃ g, g = (s[k + 2]'(by omega)).toNat % 64 := ⟨_, rfl⟩
      rw [← hg3] at hd
      have v3 : bits .and .i64 ((N : Int)) 63 = (g3 : Int) := by rw [and63]; omega
      have e3 := idxSg g3 (by omega)
      obtain ⟨pl, hpl⟩ : ∃ n, n = pre.length := ⟨_, rfl⟩
      have HPl : Hid (pl = pre.length) := hpl
      have HX : Hid (R = pre ++ ([sg g0, sg g1, sg g2, sg g3] ++ b64I ((bts s).drop (k + 3)))) := by show _ = _; rw [hpre, hd]
      have hbd : pl + 4 ≤ 200000 := by
        have h1 := congrArg List.length HX.out
        have h2 := HRl.out
        simp only [List.length_append, List.length_cons, List.length_nil] at h1
        omega
      rw [← hpl] at hown
      clear hpre hd hpl hN hm hg0 hg1 hg2 hg3
      go_upto_region 10 with fail
      clear ha hb hc o1 o2
      go_region_law ((refine step_append_lies _ (by rfl) _ _ _ (by rfl) w.heap.size 5 i0 _ 1 1 Tryz.underlying22 hi hz0 hz1 hz2 rfl (by omega) _ _ _ (by rfl) ((hown.alloc _).drew) ⟨wr.heap.size, 0, none⟩ 2 2 [.int .u8 (sg g0), .int .u8 (sg g1)] (by rfl) (by rfl) (World.news_of_block (cs := #[.int .u8 (sg g0), .int .u8 (sg g1)]) (t := 5) (fr := (0, 0)) (heap_alloc_new wr _)) (by simp [Value.oneCell']) (by omega) (by unfold maxLen; omega) (by omega) (by simp; omega) (wr.heap.size + 1) (by simp) ?_; intro gg cap w1 hown1 hgrow hat hlt1))
      all_goals
        have hb1 : Below w.heap.size w w1 := ((hbel.alloc hsz _).drew).grown hgrow (by simp; omega) (fun j hj => (hown.lt j hj).1)
        have hs1 : w.heap.size ≤ w1.heap.size := hb1.size
        have HB1 : Hid (Below w.heap.size w w1) := hb1
        clear hgrow hat hlt1 hbel hb1 hown e0 e1 v0 v1
        go_wp2_with (at_builtin; refine wpList_append_own _ rfl _ _ 22 rfl w.heap.size 5 i0 (.int .u8 0) 1 1 Tryz.underlying22 hi hz0 hz1 hz2 rfl (by decide) _ _ _ rfl (hown1.alloc _) ⟨w1.heap.size, 0, none⟩ 1 1 [.int .u8 (sg g2)] rfl rfl ?c1 ?c2 ?c3 ?c4 ?c5 ?_)
        case c1 => exact cells_one (by simp)
        case c2 => intro u hu; simp at hu; subst hu; rfl
        case c3 => unfold maxLen; omega
        case c4 => omega
        case c5 => simp; omega
        intro x2 w2 hownw2 hgroww2 _
        have HBw2 : Hid (Below w.heap.size w w2) := (HB1.out.alloc (by omega) _).grown hgroww2 (by simp; omega) (fun j hj => (hown1.lt j hj).1)
        have hsw2 : w.heap.size ≤ w2.heap.size := HBw2.out.size
        clear hgroww2 hown1 e2 v2
        go_wp2_with (at_builtin; refine wpList_append_own _ rfl _ _ 22 rfl w.heap.size 5 i0 (.int .u8 0) 1 1 Tryz.underlying22 hi hz0 hz1 hz2 rfl (by decide) _ _ _ rfl (hownw2.alloc _) ⟨w2.heap.size, 0, none⟩ 1 1 [.int .u8 (sg g3)] rfl rfl ?c1 ?c2 ?c3 ?c4 ?c5 ?_)
        case c1 => exact cells_one (by simp)
        case c2 => intro u hu; simp at hu; subst hu; rfl
        case c3 => unfold maxLen; omega
        case c4 => omega
        case c5 => simp; omega
        intro x3 w3 hownw3 hgroww3 _
        have HBw3 : Hid (Below w.heap.size w w3) := (HBw2.out.alloc (by omega) _).grown hgroww3 (by simp; omega) (fun j hj => (hownw2.lt j hj).1)
        have hsw3 : w.heap.size ≤ w3.heap.size := HBw3.out.size
        clear hgroww3 hownw2 e3 v3
        have ho : w3.ownsRow w.heap.size 5 1 x3 (pre ++ [sg g0, sg g1, sg g2, sg g3]).length ((pre ++ [sg g0, sg g1, sg g2, sg g3]).map (Value.int .u8)) := by
          simpa [List.map_append, HPl.out] using hownw3
        have HO : Hid _ := ho
        clear ho hownw3
        have HRe : Hid (R = (pre ++ [sg g0, sg g1, sg g2, sg g3]) ++ b64I ((bts s).drop (k + 3))) := by
          show _ = _
          rw [HX.out]
          simp [b64I, b64]
        clear HX
        go_wp2
        go_roundw
        case rel => exact ⟨k + 3, _, by go_num, by omega, HO.out, HRe.out, HBw3.out, HBw3.out.size⟩
        case measure => simp [RowKit.intOf]; omega
    by_cases h2 : k + 1 < s.size
    · have hb := u8_lt (s[k + 1]'(by omega))
      have hd : b64I ((bts s).drop k) = [sg (s[k].toNat / 4), sg (s[k].toNat % 4 * 16 + (s[k + 1]'(by omega)).toNat / 16), sg ((s[k + 1]'(by omega)).toNat % 16 * 4)] := by
        rw [bts_drop s k hlt, bts_drop s (k + 1) (by omega), bts_end s (k + 1 + 1) (by omega)]
        rfl
      have q3 : (k : Int) + 1 < (s.size : Int) := by omega
      have q4 : ¬ (k : Int) + 2 < (s.size : Int) := by omega
      obtain ⟨N, hN⟩ : ∃ N : Nat, N = s[k].toNat * 65536 + (s[k + 1]'(by omega)).toNat * 256 := ⟨_, rfl⟩
      have o1 : bits .or .i64 ((s[k].toNat : Int) * 65536) (((s[k + 1]'(by omega)).toNat : Int) * 256) = (N : Int) := by
        have h := or_low 16 (by omega) s[k].toNat ((s[k + 1]'(by omega)).toNat * 256) (by omega) (by omega)
        rw [hN, ← h]
        congr 1 <;> omega
      obtain ⟨g0, hg0⟩ : ∃ g, g = s[k].toNat / 4 := ⟨_, rfl⟩
      rw [← hg0] at hd
      have v0 : bits .and .i64 (((N : Int) / 262144)) 63 = (g0 : Int) := by rw [and63]; omega
      have e0 := idxSg g0 (by omega)
      obtain ⟨g1, hg1⟩ : ∃ g, g = s[k].toNat % 4 * 16 + (s[k + 1]'(by omega)).toNat / 16 := ⟨_, rfl⟩
      rw [← hg1] at hd
      have v1 : bits .and .i64 (((N : Int) / 4096)) 63 = (g1 : Int) := by rw [and63]; omega
      have e1 := idxSg g1 (by omega)
      obtain ⟨g2, hg2⟩ : ∃ g, g = (s[k + 1]'(by omega)).toNat % 16 * 4 := ⟨_, rfl⟩
      rw [← hg2] at hd
      have v2 : bits .and .i64 (((N : Int) / 64)) 63 = (g2 : Int) := by rw [and63]; omega
      have e2 := idxSg g2 (by omega)
      obtain ⟨pl, hpl⟩ : ∃ n, n = pre.length := ⟨_, rfl⟩
      have HPl : Hid (pl = pre.length) := hpl
      have HX : Hid (R = pre ++ ([sg g0, sg g1, sg g2])) := by show _ = _; rw [hpre, hd]
      have hbd : pl + 3 ≤ 200000 := by
        have h1 := congrArg List.length HX.out
        have h2 := HRl.out
        simp only [List.length_append, List.length_cons, List.length_nil] at h1
        omega
      rw [← hpl] at hown
      clear hpre hd hpl hN hg0 hg1 hg2
      go_upto_region 10 with fail
      clear ha hb o1
      go_region_law ((refine step_append_lies _ (by rfl) _ _ _ (by rfl) w.heap.size 5 i0 _ 1 1 Tryz.underlying22 hi hz0 hz1 hz2 rfl (by omega) _ _ _ (by rfl) ((hown.alloc _).drew) ⟨wr.heap.size, 0, none⟩ 2 2 [.int .u8 (sg g0), .int .u8 (sg g1)] (by rfl) (by rfl) (World.news_of_block (cs := #[.int .u8 (sg g0), .int .u8 (sg g1)]) (t := 5) (fr := (0, 0)) (heap_alloc_new wr _)) (by simp [Value.oneCell']) (by omega) (by unfold maxLen; omega) (by omega) (by simp; omega) (wr.heap.size + 1) (by simp) ?_; intro gg cap w1 hown1 hgrow hat hlt1))
      all_goals
        have hb1 : Below w.heap.size w w1 := ((hbel.alloc hsz _).drew).grown hgrow (by simp; omega) (fun j hj => (hown.lt j hj).1)
        have hs1 : w.heap.size ≤ w1.heap.size := hb1.size
        have HB1 : Hid (Below w.heap.size w w1) := hb1
        clear hgrow hat hlt1 hbel hb1 hown e0 e1 v0 v1
        go_wp2_with (at_builtin; refine wpList_append_own _ rfl _ _ 22 rfl w.heap.size 5 i0 (.int .u8 0) 1 1 Tryz.underlying22 hi hz0 hz1 hz2 rfl (by decide) _ _ _ rfl (hown1.alloc _) ⟨w1.heap.size, 0, none⟩ 1 1 [.int .u8 (sg g2)] rfl rfl ?c1 ?c2 ?c3 ?c4 ?c5 ?_)
        case c1 => exact cells_one (by simp)
        case c2 => intro u hu; simp at hu; subst hu; rfl
        case c3 => unfold maxLen; omega
        case c4 => omega
        case c5 => simp; omega
        intro x2 w2 hownw2 hgroww2 _
        have HBw2 : Hid (Below w.heap.size w w2) := (HB1.out.alloc (by omega) _).grown hgroww2 (by simp; omega) (fun j hj => (hown1.lt j hj).1)
        have hsw2 : w.heap.size ≤ w2.heap.size := HBw2.out.size
        clear hgroww2 hown1 e2 v2
        have ho : w2.ownsRow w.heap.size 5 1 x2 (pre ++ [sg g0, sg g1, sg g2]).length ((pre ++ [sg g0, sg g1, sg g2]).map (Value.int .u8)) := by
          simpa [List.map_append, HPl.out] using hownw2
        have HO : Hid _ := ho
        clear ho hownw2
        have HRe : Hid (R = (pre ++ [sg g0, sg g1, sg g2]) ++ b64I ((bts s).drop (k + 3))) := by
          show _ = _
          rw [HX.out, bts_end s (k + 3) (by omega)]
          simp [b64I, b64]
        clear HX
        go_wp2
        go_roundw
        case rel => exact ⟨k + 3, _, by go_num, by omega, HO.out, HRe.out, HBw2.out, HBw2.out.size⟩
        case measure => simp [RowKit.intOf]; omega
    have hd : b64I ((bts s).drop k) = [sg (s[k].toNat / 4), sg (s[k].toNat % 4 * 16)] := by
      rw [bts_drop s k hlt, bts_end s (k + 1) (by omega)]
      rfl
    have q3 : ¬ (k : Int) + 1 < (s.size : Int) := by omega
    have q4 : ¬ (k : Int) + 2 < (s.size : Int) := by omega
    obtain ⟨N, hN⟩ : ∃ N : Nat, N = s[k].toNat * 65536 := ⟨_, rfl⟩
    have o1 : (s[k].toNat : Int) * 65536 = (N : Int) := by omega
    obtain ⟨g0, hg0⟩ : ∃ g, g = s[k].toNat / 4 := ⟨_, rfl⟩
    rw [← hg0] at hd
    have v0 : bits .and .i64 (((N : Int) / 262144)) 63 = (g0 : Int) := by rw [and63]; omega
    have e0 := idxSg g0 (by omega)
    obtain ⟨g1, hg1⟩ : ∃ g, g = s[k].toNat % 4 * 16 := ⟨_, rfl⟩
    rw [← hg1] at hd
    have v1 : bits .and .i64 (((N : Int) / 4096)) 63 = (g1 : Int) := by rw [and63]; omega
    have e1 := idxSg g1 (by omega)
    obtain ⟨pl, hpl⟩ : ∃ n, n = pre.length := ⟨_, rfl⟩
    have HPl : Hid (pl = pre.length) := hpl
    have HX : Hid (R = pre ++ ([sg g0, sg g1])) := by show _ = _; rw [hpre, hd]
    have hbd : pl + 2 ≤ 200000 := by
      have h1 := congrArg List.length HX.out
      have h2 := HRl.out
      simp only [List.length_append, List.length_cons, List.length_nil] at h1
      omega
    rw [← hpl] at hown
    clear hpre hd hpl hN hg0 hg1
    go_upto_region 10 with fail
    clear ha o1
    go_region_law ((refine step_append_lies _ (by rfl) _ _ _ (by rfl) w.heap.size 5 i0 _ 1 1 Tryz.underlying22 hi hz0 hz1 hz2 rfl (by omega) _ _ _ (by rfl) ((hown.alloc _).drew) ⟨wr.heap.size, 0, none⟩ 2 2 [.int .u8 (sg g0), .int .u8 (sg g1)] (by rfl) (by rfl) (World.news_of_block (cs := #[.int .u8 (sg g0), .int .u8 (sg g1)]) (t := 5) (fr := (0, 0)) (heap_alloc_new wr _)) (by simp [Value.oneCell']) (by omega) (by unfold maxLen; omega) (by omega) (by simp; omega) (wr.heap.size + 1) (by simp) ?_; intro gg cap w1 hown1 hgrow hat hlt1))
    all_goals
      have hb1 : Below w.heap.size w w1 := ((hbel.alloc hsz _).drew).grown hgrow (by simp; omega) (fun j hj => (hown.lt j hj).1)
      have hs1 : w.heap.size ≤ w1.heap.size := hb1.size
      have HB1 : Hid (Below w.heap.size w w1) := hb1
      clear hgrow hat hlt1 hbel hb1 hown e0 e1 v0 v1
      have ho : w1.ownsRow w.heap.size 5 1 (.slice (some ⟨gg, 0, none⟩) (pl + 2) cap) (pre ++ [sg g0, sg g1]).length ((pre ++ [sg g0, sg g1]).map (Value.int .u8)) := by
        simpa [List.map_append, HPl.out] using hown1
      have HO : Hid _ := ho
      clear ho hown1
      have HRe : Hid (R = (pre ++ [sg g0, sg g1]) ++ b64I ((bts s).drop (k + 3))) := by
        show _ = _
        rw [HX.out, bts_end s (k + 3) (by omega)]
        simp [b64I, b64]
      clear HX
      go_wp2
      go_roundw
      case rel => exact ⟨k + 3, _, by go_num, by omega, HO.out, HRe.out, HB1.out, HB1.out.size⟩
      case measure => simp [RowKit.intOf]; omega
end Go.Proofs.YtdehbaafbbjcgaaGreatDoor
namespace Go.Proofs.YtdehbaafbbjcgaaGreatDoor
open Go.RowKit Go.Lib

theorem specBase64 (s : ByteArray) (w : World) (hm : s.size ≤ maxLen) :
    Calls Tryz.prog 6 #[.string s] w fun e w' => e = .returned (.string (base64D s)) ∧ Below w.heap.size w w' := by
  unfold maxLen at hm
  by_cases h4 : 4000 < s.size
  · have HF : Hid (base64D s = ⟨#[]⟩) := by show _ = _; rw [base64D, if_pos h4]
    go_enter Tryz.func6, Tryz.ntmps6
    go_wp2
    go_ret
    exact ⟨by rw [HF.out]; rfl, Below.refl _ _⟩
  · have HF : Hid (base64D s = b64D s) := by show _ = _; rw [base64D, if_neg h4]
    have HS : Hid (∀ V, Calls Tryz.prog 22 #[.string s] V fun e w' => e = .returned (.string (b64D s)) ∧ Below V.heap.size V w') := fun V => specBase s V (by omega)
    go_enter Tryz.func6, Tryz.ntmps6
    go_wp2_with fail
    refine (HS.out w).mono ?_
    rintro e w2 ⟨rfl, b2⟩
    go_wp2
    go_ret
    exact ⟨by rw [HF.out]; rfl, b2⟩
end Go.Proofs.YtdehbaafbbjcgaaGreatDoor
namespace Go.Proofs.YtdehbaafbbjcgaaGreatDoor
open Go.RowKit

/-- Text number i of a row. -/
def tAt (ss : List ByteArray) (i : Nat) : ByteArray := ss.getD i ByteArray.empty
/-- The texts ss lie behind the address (none at all: any address serves). -/
def IsStrs (w : World) (a : Option Addr) (ss : List ByteArray) : Prop := ss = [] ∨ ∃ b o, a = some ⟨b, o, none⟩ ∧ ∀ i, i < ss.length → w.cell? ⟨b, o + i, none⟩ = some (.string (tAt ss i))
/-- .. and its block lies below B. -/
def StrsBelow (B : Nat) (a : Option Addr) (ss : List ByteArray) : Prop := ss = [] ∨ ∀ x, a = some x → x.block < B
theorem IsStrs.below {B : Nat} {w w' : World} {a : Option Addr} {ss : List ByteArray} (h : IsStrs w a ss) (hb : Below B w w') (hB : StrsBelow B a ss) : IsStrs w' a ss := by
  rcases h with rfl | ⟨b, o, rfl, hc⟩
  · exact .inl rfl
  · rcases hB with rfl | hB
    · exact .inl rfl
    · exact .inr ⟨b, o, rfl, fun i hi => by rw [hb.cell (p := ⟨b, o + i, none⟩) (hB ⟨b, o, none⟩ rfl)]; exact hc i hi⟩
theorem IsStrs.lt {w : World} {a : Option Addr} {ss : List ByteArray} (h : IsStrs w a ss) : StrsBelow w.heap.size a ss := by
  rcases h with rfl | ⟨b, o, rfl, hc⟩
  · exact .inl rfl
  · by_cases h0 : ss.length = 0
    · exact .inl (List.eq_nil_of_length_eq_zero h0)
    · refine .inr fun x hx => ?_
      cases hx
      exact World.block_lt_of_cell? w _ (hc 0 (by omega))
theorem IsStrs.keep {w w' : World} {a : Option Addr} {ss : List ByteArray} (h : IsStrs w a ss) (hb : Below w.heap.size w w') : IsStrs w' a ss := h.below hb h.lt
def sCells (ss : List ByteArray) : List Value := ss.map Value.string
theorem sCells_at {ss : List ByteArray} {i : Nat} (h : i < ss.length) : (sCells ss)[i]? = some (.string (tAt ss i)) := by simp [sCells, tAt, List.getD, h]
theorem IsStrs.row {w : World} {g : Nat} {t : TypeId} {ss : List ByteArray} (h : w.heap[g]? = some (.cells (sCells ss).toArray t (0, 0))) : IsStrs w (some ⟨g, 0, none⟩) ss :=
  .inr ⟨g, 0, rfl, fun i hi => by
    rw [Nat.zero_add, cell_of_row w g i _ t (0, 0) h]
    simpa using sCells_at hi⟩
theorem infoText : (Tryz.prog.info? 9).map (fun i => (i.zero, i.size, i.bytes)) = some (some (.string ⟨#[]⟩), 1, 16) := by kernel_rfl
/-- How many bytes and texts there are. -/
def totS : List ByteArray → Nat → Nat
  | _, 0 => 0
  | ss, k + 1 => totS ss k + (tAt ss k).size
theorem totS_mono (ss : List ByteArray) : ∀ {i k : Nat}, i ≤ k → totS ss i ≤ totS ss k := by
  intro i k h
  induction k with
  | zero => obtain rfl : i = 0 := by omega
            exact Nat.le_refl _
  | succ k ih =>
    by_cases e : i = k + 1
    · subst e; exact Nat.le_refl _
    · have := ih (by omega)
      show totS ss i ≤ totS ss k + _
      omega
theorem totS_at (ss : List ByteArray) {i k : Nat} (h : i < k) : (tAt ss i).size ≤ totS ss k := by
  have := totS_mono ss (show i + 1 ≤ k by omega)
  have e : totS ss (i + 1) = totS ss i + (tAt ss i).size := rfl
  omega
/-- What laws.szStringS leaves. -/
def szR (ss : List ByteArray) (left : Int) : Int := if (ss.length : Int) + totS ss ss.length ≤ left then left - ss.length - totS ss ss.length else -1
end Go.Proofs.YtdehbaafbbjcgaaGreatDoor
namespace Go.Proofs.YtdehbaafbbjcgaaGreatDoor
open Go.RowKit

def AnsB (P : Prop) (e : Ending) : Prop := ∃ r : Bool, e = .returned (.bool r) ∧ (r = true ↔ P)
theorem AnsB.yes {P : Prop} {e : Ending} (h : P) (he : e = .returned (.bool true)) : AnsB P e := ⟨true, he, by simp [h]⟩
theorem AnsB.no {P : Prop} {e : Ending} (h : ¬ P) (he : e = .returned (.bool false)) : AnsB P e := ⟨false, he, by simp [h]⟩

def OkN (k : Nat) (n : Int) : Prop := (97 ≤ n ∧ n ≤ 122) ∨ k ≠ 0 ∧ ((48 ≤ n ∧ n ≤ 57) ∨ n = 45)
def OkAt (s : ByteArray) (k : Nat) (h : k < s.size) : Prop := OkN k (s[k].toNat : Int)
def OkTo (s : ByteArray) (k : Nat) : Prop := ∀ j (h : j < s.size), j < k → OkAt s j h
def NameOk (s : ByteArray) : Prop := 1 ≤ s.size ∧ s.size ≤ 40 ∧ OkTo s s.size
theorem okTo_zero (s : ByteArray) : OkTo s 0 := fun j _ h => by omega
theorem okTo_succ (s : ByteArray) (k : Nat) (hk : k < s.size) (h : OkTo s k) (h' : OkAt s k hk) : OkTo s (k + 1) := fun j hj hlt => by
  by_cases e : j = k
  · subst e; exact h'
  · exact h j hj (by omega)
theorem name_no (s : ByteArray) (k : Nat) (hk : k < s.size) (h' : ¬ OkAt s k hk) : ¬ NameOk s := fun h => h' (h.2.2 k hk hk)
def Cls (n : Int) (a z d0 d9 m : Bool) : Prop := decide (97 ≤ n) = a ∧ decide (n ≤ 122) = z ∧ decide (48 ≤ n) = d0 ∧ decide (n ≤ 57) = d9 ∧ (n != 45) = m
theorem cls (n : Int) : n < 45 ∧ Cls n false true false true true ∨ (45 ≤ n ∧ n ≤ 45) ∧ Cls n false true false true false ∨ (46 ≤ n ∧ n ≤ 47) ∧ Cls n false true false true true ∨
    (48 ≤ n ∧ n ≤ 57) ∧ Cls n false true true true true ∨ (58 ≤ n ∧ n ≤ 96) ∧ Cls n false true true false true ∨ (97 ≤ n ∧ n ≤ 122) ∧ Cls n true true true false true ∨ 123 ≤ n ∧ Cls n true false true false true := by
  have h : n < 45 ∨ (45 ≤ n ∧ n ≤ 45) ∨ (46 ≤ n ∧ n ≤ 47) ∨ (48 ≤ n ∧ n ≤ 57) ∨ (58 ≤ n ∧ n ≤ 96) ∨ (97 ≤ n ∧ n ≤ 122) ∨ 123 ≤ n := by omega
  unfold Cls
  simp only [decide_eq_true_eq, decide_eq_false_iff_not, bne_iff_ne, bne_eq_false_iff_eq]
  omega

set_option maxHeartbeats 1000000 in
theorem specName (s : ByteArray) (w : World) (hs : s.size ≤ maxLen) :
    Calls Tryz.prog 36 #[.string s] w fun e w' => AnsB (NameOk s) e ∧ w' = w := by
  unfold maxLen at hs
  by_cases h1 : s.size < 1
  · go_enter Tryz.func36, Tryz.ntmps36
    go_wp2
    go_ret
    exact ⟨AnsB.no (fun h => by have := h.1; omega) rfl, rfl⟩
  by_cases h2 : 40 < s.size
  · go_enter Tryz.func36, Tryz.ntmps36
    go_wp2
    go_ret
    exact ⟨AnsB.no (fun h => by have := h.2.1; omega) rfl, rfl⟩
  go_enter Tryz.func36, Tryz.ntmps36
  go_wp2
  go_loop [3] (fun i => ∃ k : Nat, k ≤ s.size ∧ i = .int .i64 k ∧ OkTo s k) (fun i => s.size - (intOf i).toNat)
  case atStart => exact ⟨0, Nat.zero_le _, rfl, okTo_zero s⟩
  case round =>
    obtain ⟨k, hk, rfl, hok⟩ := hrel
    have HO : Hid (OkTo s k) := hok
    clear hok
    by_cases hlt : k < s.size
    · by_cases hk0 : k < 1
      · obtain rfl : k = 0 := by omega
        rcases cls (s[0].toNat : Int) with ⟨c, e1, e2, e3, e4, e5⟩ | ⟨c, e1, e2, e3, e4, e5⟩ | ⟨c, e1, e2, e3, e4, e5⟩ | ⟨c, e1, e2, e3, e4, e5⟩ | ⟨c, e1, e2, e3, e4, e5⟩ | ⟨c, e1, e2, e3, e4, e5⟩ | ⟨c, e1, e2, e3, e4, e5⟩
        all_goals
          go_wp2
          first
            | (go_ret; exact ⟨AnsB.no (name_no s 0 hlt (by unfold OkAt OkN; omega)) rfl, rfl⟩)
            | exact ⟨⟨1, by omega, rfl, okTo_succ s 0 hlt HO.out (by unfold OkAt OkN; omega)⟩, by simp [intOf]; omega⟩
      · have ek : ((k : Int) == 0) = false := by simp; omega
        rcases cls (s[k].toNat : Int) with ⟨c, e1, e2, e3, e4, e5⟩ | ⟨c, e1, e2, e3, e4, e5⟩ | ⟨c, e1, e2, e3, e4, e5⟩ | ⟨c, e1, e2, e3, e4, e5⟩ | ⟨c, e1, e2, e3, e4, e5⟩ | ⟨c, e1, e2, e3, e4, e5⟩ | ⟨c, e1, e2, e3, e4, e5⟩
        all_goals
          go_wp2
          first
            | (go_ret; exact ⟨AnsB.no (name_no s k hlt (by unfold OkAt OkN; omega)) rfl, rfl⟩)
            | exact ⟨⟨k + 1, by omega, by go_num, okTo_succ s k hlt HO.out (by unfold OkAt OkN; omega)⟩, by simp [intOf]; omega⟩
    · go_wp2
      go_ret
      have e : k = s.size := by omega
      have hf := HO.out
      rw [e] at hf
      exact ⟨AnsB.yes ⟨by omega, by omega, hf⟩ rfl, rfl⟩
end Go.Proofs.YtdehbaafbbjcgaaGreatDoor
