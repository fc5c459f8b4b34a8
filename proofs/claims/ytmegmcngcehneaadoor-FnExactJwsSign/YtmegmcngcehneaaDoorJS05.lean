/- Requests as texts. Plain, but for what their values are. spec.l09Base, spec.Base64, walked. spec.l09Head, l09Text, walked. What the program's table of types says of int64. The numbers of the rounds, walked: spec.l02Keys. -/
import Derived.Test.YtmegmcngcehneaaDoorJS01
import Derived.Test.YtmegmcngcehneaaDoorJS02
import Derived.Test.YtmegmcngcehneaaDoorJS04
import Derived.Deep.Cut
import Derived.Deep.RegionHeld3
import Derived.Test.YtmegmcngcehneaaDoorJS03
namespace Go.Proofs.YtmegmcngcehneaaDoor
open Go.RowKit Go.Lib

/-- A text behind its length. -/
def putTx (t : ByteArray) : ByteArray := strOfNums (putF 9 (foldI t.size)) ++ t
def dotD : ByteArray := ⟨#[46]⟩
def jHead (key nonce : Int) (url : ByteArray) : ByteArray := putS key ++ putS nonce ++ putTx url
/-- The first two parts. -/
def jTwo (key nonce : Int) (url body : ByteArray) : ByteArray := b64D (jHead key nonce url) ++ dotD ++ b64D body
def jText (key nonce : Int) (url body : ByteArray) (e s : Int) : ByteArray := jTwo key nonce url body ++ dotD ++ b64D (putS e ++ putS s)
def jV (key nonce : Int) (url body : ByteArray) (sk se ss : Int) : Value := .agg #[.int .i64 key, .int .i64 nonce, .string url, .string body, .int .i64 sk, .int .i64 se, .int .i64 ss]
theorem b64D_size (s : ByteArray) : (b64D s).size ≤ 2 * s.size := by
  unfold b64D
  rw [strOfNums_size]
  have := b64I_len (bts s)
  rw [bts_len] at this
  exact this
theorem putTx_size (t : ByteArray) : (putTx t).size ≤ 10 + t.size := by
  have := putStr_size 9 (foldI t.size)
  rw [putTx, ByteArray.size_append]
  omega
theorem jHead_size (key nonce : Int) (url : ByteArray) : (jHead key nonce url).size ≤ 30 + url.size := by
  have h1 := putS_size key
  have h2 := putS_size nonce
  have h3 := putTx_size url
  rw [jHead, ByteArray.size_append, ByteArray.size_append]
  omega
theorem jTwo_size (key nonce : Int) (url body : ByteArray) : (jTwo key nonce url body).size ≤ 61 + 2 * url.size + 2 * body.size := by
  have h1 := b64D_size (jHead key nonce url)
  have h2 := b64D_size body
  have h3 := jHead_size key nonce url
  have h4 : dotD.size = 1 := rfl
  rw [jTwo, ByteArray.size_append, ByteArray.size_append, h4]
  omega
/-- Is what is asked right, whatever its signature is? -/
noncomputable def askB (key nonce : Int) (url body : ByteArray) : Bool := rightG key && (timeB nonce && (nameB url && decide (body.size ≤ 2000)))
/-- What JwsSign tells. -/
noncomputable def jSign (x nonce : Int) (url body : ByteArray) : ByteArray :=
  if secB x = true ∧ timeB nonce = true ∧ nameB url = true ∧ body.size ≤ 2000 then
    jText (pubA x) nonce url body (signE x.toNat (jTwo (pubA x) nonce url body)) (signS x.toNat (jTwo (pubA x) nonce url body))
  else ⟨#[]⟩
theorem pub_askB (x nonce : Int) (url body : ByteArray) : askB (pubA x) nonce url body = (secB x && (timeB nonce && (nameB url && decide (body.size ≤ 2000)))) := by
  unfold askB
  by_cases h : secB x = true
  · obtain ⟨n, rfl, h1, h2⟩ := secB_nat h
    rw [pubA_nat n h, pub_right h1 h2, h]
  · have e : rightG 0 = false := rightG_out (by omega)
    rw [pubA, if_neg h, e]
    rw [Bool.not_eq_true] at h
    rw [h]
open Classical in
theorem name_size {url : ByteArray} (h : nameB url = true) : url.size ≤ 40 := by
  unfold nameB at h
  have := of_decide_eq_true h
  exact this.2.1
end Go.Proofs.YtmegmcngcehneaaDoor
namespace Go.Proofs.YtmegmcngcehneaaDoor
open Go.RowKit Go.Lib

set_option linter.unusedSimpArgs false in
set_option maxHeartbeats 4000000 in
set_option maxRecDepth 100000 in
theorem specBase (s : ByteArray) (w : World) (hs : s.size ≤ 100000) :
    Calls Tryd.prog 22 #[.string s] w fun e w' => e = .returned (.string (b64D s)) ∧ Below w.heap.size w w' := by
  obtain ⟨i0, hi, hz0, hz1, hz2⟩ := info_parts infoByte
  have hR0 := b64I_len (bts s)
  rw [bts_len] at hR0
  obtain ⟨R, hR⟩ : ∃ R, R = b64I (bts s) := ⟨_, rfl⟩
  have HD : Hid (b64D s = strOfNums R) := by show _ = _; rw [hR]; rfl
  rw [HD.out]
  rw [← hR] at hR0
  have HRl : Hid (R.length ≤ 200000) := by show _ ≤ _; omega
  have HR : Hid (R = b64I (bts s)) := hR
  clear hR hR0 HD
  go_enter Tryd.func22, Tryd.ntmps22
  go_wp2
  go_loopw [3, 4] (fun b i wr => ∃ (k : Nat) (pre : List Int), i = .int .i64 k ∧ k ≤ s.size + 2 ∧ wr.ownsRow w.heap.size 5 1 b pre.length (pre.map (Value.int .u8)) ∧ R = pre ++ b64I ((bts s).drop k) ∧ Below w.heap.size w wr ∧ w.heap.size ≤ wr.heap.size)
    (fun _ i _ => s.size + 3 - (RowKit.intOf i).toNat)
  case atStart =>
    exact ⟨0, [], rfl, by omega, World.ownsRow_made _ #[] 0 (Nat.le_refl _) (Nat.zero_le _) rfl, HR.out, (Below.refl _ _).alloc (Nat.le_refl _) _, by simp⟩
  case round =>
    obtain ⟨k, pre, rfl, hk, hown, hpre, hbel, hsz⟩ := hrel
    by_cases hlt : k < s.size
    rotate_left
    · have hRp : R = pre := by rw [hpre, bts_end s k (by omega)]; simp [b64I, b64]
      subst hRp
      have hcv := run_convert_own (P := Tryd.prog) (src := 53) (dst := 9) Tryd.underlying53 Tryd.underlying5 Tryd.underlying9 hown
      have q2 : ¬ (k : Int) < (s.size : Int) := by omega
      clear hown hpre HR HRl hlt
      go_wp2
      go_ret
      exact ⟨rfl, hbel⟩
    have q1 : (0 : Int) ≤ (k : Int) := Int.natCast_nonneg _
    have q2 : (k : Int) < (s.size : Int) := by omega
    have ha := u8_lt s[k]
    by_cases h3 : k + 2 < s.size
    · have hb := u8_lt (s[k + 1]'(by omega))
      have hc := u8_lt (s[k + 2]'(by omega))
      have hd : b64I ((bts s).drop k) = [sg (s[k].toNat / 4), sg (s[k].toNat % 4 * 16 + (s[k + 1]'(by omega)).toNat / 16), sg ((s[k + 1]'(by omega)).toNat % 16 * 4 + (s[k + 2]'(by omega)).toNat / 64), sg ((s[k + 2]'(by omega)).toNat % 64)] ++ b64I ((bts s).drop (k + 3)) := by
        rw [bts_drop s k hlt, bts_drop s (k + 1) (by omega), bts_drop s (k + 1 + 1) (by omega)]
        rfl
      have q3 : (k : Int) + 1 < (s.size : Int) := by omega
      have q4 : (k : Int) + 2 < (s.size : Int) := by omega
      obtain ⟨m, hm⟩ : ∃ m : Nat, m = s[k].toNat * 65536 + (s[k + 1]'(by omega)).toNat * 256 := ⟨_, rfl⟩
      obtain ⟨N, hN⟩ : ∃ N : Nat, N = m + (s[k + 2]'(by omega)).toNat := ⟨_, rfl⟩
      have o1 : bits .or .i64 ((s[k].toNat : Int) * 65536) (((s[k + 1]'(by omega)).toNat : Int) * 256) = (m : Int) := by
        have h := or_low 16 (by omega) s[k].toNat ((s[k + 1]'(by omega)).toNat * 256) (by omega) (by omega)
        rw [hm, ← h]
        congr 1 <;> omega
      have o2 : bits .or .i64 (m : Int) ((s[k + 2]'(by omega)).toNat : Int) = (N : Int) := by
        have h := or_low 8 (by omega) (s[k].toNat * 256 + (s[k + 1]'(by omega)).toNat) (s[k + 2]'(by omega)).toNat (by omega) (by omega)
        have e : (s[k].toNat * 256 + (s[k + 1]'(by omega)).toNat) * 2 ^ 8 = m := by omega
        rw [e, ← hN] at h
        exact h
      obtain ⟨g0, hg0⟩ : ∃ g, g = s[k].toNat / 4 := ⟨_, rfl⟩
      rw [← hg0] at hd
      have v0 : bits .and .i64 (((N : Int) / 262144)) 63 = (g0 : Int) := by rw [and63]; omega
      have e0 := idxSg g0 (by omega)
      obtain ⟨g1, hg1⟩ : ∃ g, g = s[k].toNat % 4 * 16 + (s[k + 1]'(by omega)).toNat / 16 := ⟨_, rfl⟩
      rw [← hg1] at hd
      have v1 : bits .and .i64 (((N : Int) / 4096)) 63 = (g1 : Int) := by rw [and63]; omega
      have e1 := idxSg g1 (by omega)
      obtain ⟨g2, hg2⟩ : ∃ g, g = (s[k + 1]'(by omega)).toNat % 16 * 4 + (s[k + 2]'(by omega)).toNat / 64 := ⟨_, rfl⟩
      rw [← hg2] at hd
      have v2 : bits .and .i64 (((N : Int) / 64)) 63 = (g2 : Int) := by rw [and63]; omega
      have e2 := idxSg g2 (by omega)
      obtain ⟨g3, hg3⟩ : ∃ g, g = (s[k + 2]'(by omega)).toNat % 64 := ⟨_, rfl⟩
      rw [← hg3] at hd
      have v3 : bits .and .i64 ((N : Int)) 63 = (g3 : Int) := by rw [and63]; omega
      have e3 := idxSg g3 (by omega)
      obtain ⟨pl, hpl⟩ : ∃ n, n = pre.length := ⟨_, rfl⟩
      have HPl : Hid (pl = pre.length) := hpl
      have HX : Hid (R = pre ++ ([sg g0, sg g1, sg g2, sg g3] ++ b64I ((bts s).drop (k + 3)))) := by show _ = _; rw [hpre, hd]
      have hbd : pl + 4 ≤ 200000 := by
        have h1 := congrArg List.length HX.out
        have h2 := HRl.out
        simp only [List.length_append, List.length_cons, List.length_nil] at h1
        omega
      rw [← hpl] at hown
      clear hpre hd hpl hN hm hg0 hg1 hg2 hg3
      go_upto_region 10 with fail
      clear ha hb hc o1 o2
      go_region_law ((refine step_append_lies _ (by rfl) _ _ _ (by rfl) w.heap.size 5 i0 _ 1 1 Tryd.underlying53 hi hz0 hz1 hz2 rfl (by omega) _ _ _ (by rfl) ((hown.alloc _).drew) ⟨wr.heap.size, 0, none⟩ 2 2 [.int .u8 (sg g0), .int .u8 (sg g1)] (by rfl) (by rfl) (World.news_of_block (cs := #[.int .u8 (sg g0), .int .u8 (sg g1)]) (t := 5) (fr := (0, 0)) (heap_alloc_new wr _)) (by simp [Value.oneCell']) (by omega) (by unfold maxLen; omega) (by omega) (by simp; omega) (wr.heap.size + 1) (by simp) ?_; intro gg cap w1 hown1 hgrow hat hlt1))
      all_goals
        have hb1 : Below w.heap.size w w1 := ((hbel.alloc hsz _).drew).grown hgrow (by simp; omega) (fun j hj => (hown.lt j hj).1)
        have hs1 : w.heap.size ≤ w1.heap.size := hb1.size
        have HB1 : Hid (Below w.heap.size w w1) := hb1
        clear hgrow hat hlt1 hbel hb1 hown e0 e1 v0 v1
        go_wp2_with (at_builtin; refine wpList_append_own _ rfl _ _ 53 rfl w.heap.size 5 i0 (.int .u8 0) 1 1 Tryd.underlying53 hi hz0 hz1 hz2 rfl (by decide) _ _ _ rfl (hown1.alloc _) ⟨w1.heap.size, 0, none⟩ 1 1 [.int .u8 (sg g2)] rfl rfl ?c1 ?c2 ?c3 ?c4 ?c5 ?_)
        case c1 => exact cells_one (by simp)
        case c2 => intro u hu; simp at hu; subst hu; rfl
        case c3 => unfold maxLen; omega
        case c4 => omega
        case c5 => simp; omega
        intro x2 w2 hownw2 hgroww2 _
        have HBw2 : Hid (Below w.heap.size w w2) := (HB1.out.alloc (by omega) _).grown hgroww2 (by simp; omega) (fun j hj => (hown1.lt j hj).1)
        have hsw2 : w.heap.size ≤ w2.heap.size := HBw2.out.size
        clear hgroww2 hown1 e2 v2
        go_wp2_with (at_builtin; refine wpList_append_own _ rfl _ _ 53 rfl w.heap.size 5 i0 (.int .u8 0) 1 1 Tryd.underlying53 hi hz0 hz1 hz2 rfl (by decide) _ _ _ rfl (hownw2.alloc _) ⟨w2.heap.size, 0, none⟩ 1 1 [.int .u8 (sg g3)] rfl rfl ?c1 ?c2 ?c3 ?c4 ?c5 ?_)
        case c1 => exact cells_one (by simp)
        case c2 => intro u hu; simp at hu; subst hu; rfl
        case c3 => unfold maxLen; omega
        case c4 => omega
        case c5 => simp; omega
        intro x3 w3 hownw3 hgroww3 _
        have HBw3 : Hid (Below w.heap.size w w3) := (HBw2.out.alloc (by omega) _).grown hgroww3 (by simp; omega) (fun j hj => (hownw2.lt j hj).1)
        have hsw3 : w.heap.size ≤ w3.heap.size := HBw3.out.size
        clear hgroww3 hownw2 e3 v3
        have ho : w3.ownsRow w.heap.size 5 1 x3 (pre ++ [sg g0, sg g1, sg g2, sg g3]).length ((pre ++ [sg g0, sg g1, sg g2, sg g3]).map (Value.int .u8)) := by
          simpa [List.map_append, HPl.out] using hownw3
        have HO : Hid _ := ho
        clear ho hownw3
        have HRe : Hid (R = (pre ++ [sg g0, sg g1, sg g2, sg g3]) ++ b64I ((bts s).drop (k + 3))) := by
          show _ = _
          rw [HX.out]
          simp [b64I, b64]
        clear HX
        go_wp2
        go_roundw
        case rel => exact ⟨k + 3, _, by go_num, by omega, HO.out, HRe.out, HBw3.out, HBw3.out.size⟩
        case measure => simp [RowKit.intOf]; omega
    by_cases h2 : k + 1 < s.size
    · have hb := u8_lt (s[k + 1]'(by omega))
      have hd : b64I ((bts s).drop k) = [sg (s[k].toNat / 4), sg (s[k].toNat % 4 * 16 + (s[k + 1]'(by omega)).toNat / 16), sg ((s[k + 1]'(by omega)).toNat % 16 * 4)] := by
        rw [bts_drop s k hlt, bts_drop s (k + 1) (by omega), bts_end s (k + 1 + 1) (by omega)]
        rfl
      have q3 : (k : Int) + 1 < (s.size : Int) := by omega
      have q4 : ¬ (k : Int) + 2 < (s.size : Int) := by omega
      obtain ⟨N, hN⟩ : ∃ N : Nat, N = s[k].toNat * 65536 + (s[k + 1]'(by omega)).toNat * 256 := ⟨_, rfl⟩
      have o1 : bits .or .i64 ((s[k].toNat : Int) * 65536) (((s[k + 1]'(by omega)).toNat : Int) * 256) = (N : Int) := by
        have h := or_low 16 (by omega) s[k].toNat ((s[k + 1]'(by omega)).toNat * 256) (by omega) (by omega)
        rw [hN, ← h]
        congr 1 <;> omega
      obtain ⟨g0, hg0⟩ : ∃ g, g = s[k].toNat / 4 := ⟨_, rfl⟩
      rw [← hg0] at hd
      have v0 : bits .and .i64 (((N : Int) / 262144)) 63 = (g0 : Int) := by rw [and63]; omega
      have e0 := idxSg g0 (by omega)
      obtain ⟨g1, hg1⟩ : ∃ g, g = s[k].toNat % 4 * 16 + (s[k + 1]'(by omega)).toNat / 16 := ⟨_, rfl⟩
      rw [← hg1] at hd
      have v1 : bits .and .i64 (((N : Int) / 4096)) 63 = (g1 : Int) := by rw [and63]; omega
      have e1 := idxSg g1 (by omega)
      obtain ⟨g2, hg2⟩ : ∃ g, g = (s[k + 1]'(by omega)).toNat % 16 * 4 := ⟨_, rfl⟩
      rw [← hg2] at hd
      have v2 : bits .and .i64 (((N : Int) / 64)) 63 = (g2 : Int) := by rw [and63]; omega
      have e2 := idxSg g2 (by omega)
      obtain ⟨pl, hpl⟩ : ∃ n, n = pre.length := ⟨_, rfl⟩
      have HPl : Hid (pl = pre.length) := hpl
      have HX : Hid (R = pre ++ ([sg g0, sg g1, sg g2])) := by show _ = _; rw [hpre, hd]
      have hbd : pl + 3 ≤ 200000 := by
        have h1 := congrArg List.length HX.out
        have h2 := HRl.out
        simp only [List.length_append, List.length_cons, List.length_nil] at h1
        omega
      rw [← hpl] at hown
      clear hpre hd hpl hN hg0 hg1 hg2
      go_upto_region 10 with fail
      clear ha hb o1
      go_region_law ((refine step_append_lies _ (by rfl) _ _ _ (by rfl) w.heap.size 5 i0 _ 1 1 Tryd.underlying53 hi hz0 hz1 hz2 rfl (by omega) _ _ _ (by rfl) ((hown.alloc _).drew) ⟨wr.heap.size, 0, none⟩ 2 2 [.int .u8 (sg g0), .int .u8 (sg g1)] (by rfl) (by rfl) (World.news_of_block (cs := #[.int .u8 (sg g0), .int .u8 (sg g1)]) (t := 5) (fr := (0, 0)) (heap_alloc_new wr _)) (by simp [Value.oneCell']) (by omega) (by unfold maxLen; omega) (by omega) (by simp; omega) (wr.heap.size + 1) (by simp) ?_; intro gg cap w1 hown1 hgrow hat hlt1))
      all_goals
        have hb1 : Below w.heap.size w w1 := ((hbel.alloc hsz _).drew).grown hgrow (by simp; omega) (fun j hj => (hown.lt j hj).1)
        have hs1 : w.heap.size ≤ w1.heap.size := hb1.size
        have HB1 : Hid (Below w.heap.size w w1) := hb1
        clear hgrow hat hlt1 hbel hb1 hown e0 e1 v0 v1
        go_wp2_with (at_builtin; refine wpList_append_own _ rfl _ _ 53 rfl w.heap.size 5 i0 (.int .u8 0) 1 1 Tryd.underlying53 hi hz0 hz1 hz2 rfl (by decide) _ _ _ rfl (hown1.alloc _) ⟨w1.heap.size, 0, none⟩ 1 1 [.int .u8 (sg g2)] rfl rfl ?c1 ?c2 ?c3 ?c4 ?c5 ?_)
        case c1 => exact cells_one (by simp)
        case c2 => intro u hu; simp at hu; subst hu; rfl
        case c3 => unfold maxLen; omega
        case c4 => omega
        case c5 => simp; omega
        intro x2 w2 hownw2 hgroww2 _
        have HBw2 : Hid (Below w.heap.size w w2) := (HB1.out.alloc (by omega) _).grown hgroww2 (by simp; omega) (fun j hj => (hown1.lt j hj).1)
        have hsw2 : w.heap.size ≤ w2.heap.size := HBw2.out.size
        clear hgroww2 hown1 e2 v2
        have ho : w2.ownsRow w.heap.size 5 1 x2 (pre ++ [sg g0, sg g1, sg g2]).length ((pre ++ [sg g0, sg g1, sg g2]).map (Value.int .u8)) := by
          simpa [List.map_append, HPl.out] using hownw2
        have HO : Hid _ := ho
        clear ho hownw2
        have HRe : Hid (R = (pre ++ [sg g0, sg g1, sg g2]) ++ b64I ((bts s).drop (k + 3))) := by
          show _ = _
          rw [HX.out, bts_end s (k + 3) (by omega)]
          simp [b64I, b64]
        clear HX
        go_wp2
        go_roundw
        case rel => exact ⟨k + 3, _, by go_num, by omega, HO.out, HRe.out, HBw2.out, HBw2.out.size⟩
        case measure => simp [RowKit.intOf]; omega
    have hd : b64I ((bts s).drop k) = [sg (s[k].toNat / 4), sg (s[k].toNat % 4 * 16)] := by
      rw [bts_drop s k hlt, bts_end s (k + 1) (by omega)]
      rfl
    have q3 : ¬ (k : Int) + 1 < (s.size : Int) := by omega
    have q4 : ¬ (k : Int) + 2 < (s.size : Int) := by omega
    obtain ⟨N, hN⟩ : ∃ N : Nat, N = s[k].toNat * 65536 := ⟨_, rfl⟩
    have o1 : (s[k].toNat : Int) * 65536 = (N : Int) := by omega
    obtain ⟨g0, hg0⟩ : ∃ g, g = s[k].toNat / 4 := ⟨_, rfl⟩
    rw [← hg0] at hd
    have v0 : bits .and .i64 (((N : Int) / 262144)) 63 = (g0 : Int) := by rw [and63]; omega
    have e0 := idxSg g0 (by omega)
    obtain ⟨g1, hg1⟩ : ∃ g, g = s[k].toNat % 4 * 16 := ⟨_, rfl⟩
    rw [← hg1] at hd
    have v1 : bits .and .i64 (((N : Int) / 4096)) 63 = (g1 : Int) := by rw [and63]; omega
    have e1 := idxSg g1 (by omega)
    obtain ⟨pl, hpl⟩ : ∃ n, n = pre.length := ⟨_, rfl⟩
    have HPl : Hid (pl = pre.length) := hpl
    have HX : Hid (R = pre ++ ([sg g0, sg g1])) := by show _ = _; rw [hpre, hd]
    have hbd : pl + 2 ≤ 200000 := by
      have h1 := congrArg List.length HX.out
      have h2 := HRl.out
      simp only [List.length_append, List.length_cons, List.length_nil] at h1
      omega
    rw [← hpl] at hown
    clear hpre hd hpl hN hg0 hg1
    go_upto_region 10 with fail
    clear ha o1
    go_region_law ((refine step_append_lies _ (by rfl) _ _ _ (by rfl) w.heap.size 5 i0 _ 1 1 Tryd.underlying53 hi hz0 hz1 hz2 rfl (by omega) _ _ _ (by rfl) ((hown.alloc _).drew) ⟨wr.heap.size, 0, none⟩ 2 2 [.int .u8 (sg g0), .int .u8 (sg g1)] (by rfl) (by rfl) (World.news_of_block (cs := #[.int .u8 (sg g0), .int .u8 (sg g1)]) (t := 5) (fr := (0, 0)) (heap_alloc_new wr _)) (by simp [Value.oneCell']) (by omega) (by unfold maxLen; omega) (by omega) (by simp; omega) (wr.heap.size + 1) (by simp) ?_; intro gg cap w1 hown1 hgrow hat hlt1))
    all_goals
      have hb1 : Below w.heap.size w w1 := ((hbel.alloc hsz _).drew).grown hgrow (by simp; omega) (fun j hj => (hown.lt j hj).1)
      have hs1 : w.heap.size ≤ w1.heap.size := hb1.size
      have HB1 : Hid (Below w.heap.size w w1) := hb1
      clear hgrow hat hlt1 hbel hb1 hown e0 e1 v0 v1
      have ho : w1.ownsRow w.heap.size 5 1 (.slice (some ⟨gg, 0, none⟩) (pl + 2) cap) (pre ++ [sg g0, sg g1]).length ((pre ++ [sg g0, sg g1]).map (Value.int .u8)) := by
        simpa [List.map_append, HPl.out] using hown1
      have HO : Hid _ := ho
      clear ho hown1
      have HRe : Hid (R = (pre ++ [sg g0, sg g1]) ++ b64I ((bts s).drop (k + 3))) := by
        show _ = _
        rw [HX.out, bts_end s (k + 3) (by omega)]
        simp [b64I, b64]
      clear HX
      go_wp2
      go_roundw
      case rel => exact ⟨k + 3, _, by go_num, by omega, HO.out, HRe.out, HB1.out, HB1.out.size⟩
      case measure => simp [RowKit.intOf]; omega
end Go.Proofs.YtmegmcngcehneaaDoor
namespace Go.Proofs.YtmegmcngcehneaaDoor
open Go.RowKit Go.Lib

set_option linter.unusedSimpArgs false in
set_option maxHeartbeats 4000000 in
set_option maxRecDepth 100000 in
theorem specHead (key nonce : Int) (url body : ByteArray) (sk se ss : Int) (w : World) (hk : -9223372036854775808 ≤ key ∧ key ≤ 9223372036854775807) (hn : -9223372036854775808 ≤ nonce ∧ nonce ≤ 9223372036854775807) (hu : url.size ≤ 40) (hb : body.size ≤ 2000) :
    Calls Tryd.prog 11 #[jV key nonce url body sk se ss] w fun r w' => r = .returned (.string (jTwo key nonce url body)) ∧ Below w.heap.size w w' := by
  unfold jV
  obtain ⟨w1, hw1⟩ : ∃ w1, w1 = w.alloc (.cells #[.int .i64 key, .int .i64 nonce, .string url, .string body, .int .i64 sk, .int .i64 se, .int .i64 ss] 31 (0, 0)) := ⟨_, rfl⟩
  have r0 : w1.heap[w.heap.size]? = some (.cells [Value.int .i64 key, .int .i64 nonce, .string url, .string body, .int .i64 sk, .int .i64 se, .int .i64 ss].toArray 31 (0, 0)) := by rw [hw1]; exact heap_alloc_new w _
  have B1 : Hid (Below w.heap.size w w1) := by rw [hw1]; exact (Below.refl _ _).alloc (Nat.le_refl _) _
  have z1 : w.heap.size < w1.heap.size := by rw [hw1]; simp
  have HK : Hid (∀ V, Below w1.heap.size w1 V → V.cell? ⟨w.heap.size, 0, none⟩ = some (.int .i64 key) ∧ V.cell? ⟨w.heap.size, 1, none⟩ = some (.int .i64 nonce) ∧ V.cell? ⟨w.heap.size, 2, none⟩ = some (.string url) ∧ V.cell? ⟨w.heap.size, 3, none⟩ = some (.string body) ∧ V.cell? ⟨w.heap.size, 4, none⟩ = some (.int .i64 sk) ∧ V.cell? ⟨w.heap.size, 5, none⟩ = some (.int .i64 se) ∧ V.cell? ⟨w.heap.size, 6, none⟩ = some (.int .i64 ss)) := fun V hV => by
    have hP := (hV.block _ z1).trans r0
    exact ⟨rowFacts hP 0 _ rfl, rowFacts hP 1 _ rfl, rowFacts hP 2 _ rfl, rowFacts hP 3 _ rfl, rowFacts hP 4 _ rfl, rowFacts hP 5 _ rfl, rowFacts hP 6 _ rfl⟩
  have HB : Hid (∀ V, Below w1.heap.size w1 V → Below w.heap.size w V) := fun V hV => B1.out.trans (hV.mono B1.out.size)
  have PP : Hid (∀ V (n : Int), Hid (Below w1.heap.size w1 V) → -9223372036854775808 ≤ n ∧ n ≤ 9223372036854775807 → Calls Tryd.prog 20 #[.int .i64 n] V fun e W => e = .returned (.string (putS n)) ∧ Hid (Below w1.heap.size w1 W)) := fun V n hV hn => (specPut n V hn.1 hn.2).mono fun e W h => ⟨h.1, hV.out.trans (h.2.mono hV.out.size)⟩
  have PT : Hid (∀ V, Hid (Below w1.heap.size w1 V) → Calls Tryd.prog 23 #[.string url] V fun e W => e = .returned (.string (putTx url)) ∧ Hid (Below w1.heap.size w1 W)) := fun V hV => (specPutText url V (by omega)).mono fun e W h => ⟨h.1, hV.out.trans (h.2.mono hV.out.size)⟩
  have PA : Hid (∀ V (t : ByteArray), Hid (Below w1.heap.size w1 V) → t.size ≤ 4000 → Calls Tryd.prog 22 #[.string t] V fun e W => e = .returned (.string (b64D t)) ∧ Hid (Below w1.heap.size w1 W)) := fun V t hV ht => (specBase t V (by omega)).mono fun e W h => ⟨h.1, hV.out.trans (h.2.mono hV.out.size)⟩
  have I1 : Hid (Below w1.heap.size w1 w1) := Below.refl _ _
  have D1 : Hid (Below w1.heap.size w1 w1.drew) := I1.out.drew
  clear r0 z1 B1
  obtain ⟨R, hR⟩ : ∃ R, R = jTwo key nonce url body := ⟨_, rfl⟩
  have HR : Hid (R = jTwo key nonce url body) := hR
  have y1 := putS_size key
  have y2 := putS_size nonce
  have y3 := putTx_size url
  obtain ⟨q1, e1⟩ : ∃ q, putS key ++ putS nonce = q := ⟨_, rfl⟩
  have s1 : q1.size ≤ 20 := by rw [← e1, ByteArray.size_append]; omega
  obtain ⟨q2, e2⟩ : ∃ q, q1 ++ putTx url = q := ⟨_, rfl⟩
  have s2 : q2.size ≤ 70 := by rw [← e2, ByteArray.size_append]; omega
  have s3 := b64D_size q2
  have s4 := b64D_size body
  have sd : dotD.size = 1 := rfl
  obtain ⟨q3, e3⟩ : ∃ q, b64D q2 ++ (⟨#[46]⟩ : ByteArray) = q := ⟨_, rfl⟩
  have s5 : q3.size ≤ 141 := by rw [← e3, ByteArray.size_append]; show _ + dotD.size ≤ _; omega
  have e4 : q3 ++ b64D body = R := by rw [hR, ← e3, ← e2, ← e1]; rfl
  have a1 : ¬ 9223372036854775807 < (putS key).size + (putS nonce).size := by omega
  have a2 : ¬ 9223372036854775807 < q1.size + (putTx url).size := by omega
  have a3 : ¬ 9223372036854775807 < (b64D q2).size + (⟨#[46]⟩ : ByteArray).size := by show ¬ _ < _ + dotD.size; omega
  have a3' : ¬ 9223372036854775807 < (b64D q2).size + 1 := by omega
  have a4 : ¬ 9223372036854775807 < q3.size + (b64D body).size := by omega
  rw [← hR]
  have hb4 : body.size ≤ 4000 := by omega
  have s24 : q2.size ≤ 4000 := by omega
  clear y1 y2 y3 s1 s2 s3 s4 s5 sd hR HR
  obtain ⟨c0, c1, c2, c3, c4, c5, c6⟩ := HK.out w1 I1.out
  go_enter Tryd.func11, Tryd.ntmps11
  go_upto_region 1 with fail
  rw [← hw1]
  clear hw1
  go_region_held3 (fun V => V.cell? ⟨w.heap.size, 0, none⟩ = some (.int .i64 key) ∧ V.cell? ⟨w.heap.size, 1, none⟩ = some (.int .i64 nonce) ∧ V.cell? ⟨w.heap.size, 2, none⟩ = some (.string url) ∧ V.cell? ⟨w.heap.size, 3, none⟩ = some (.string body) ∧ V.cell? ⟨w.heap.size, 4, none⟩ = some (.int .i64 sk) ∧ V.cell? ⟨w.heap.size, 5, none⟩ = some (.int .i64 se) ∧ V.cell? ⟨w.heap.size, 6, none⟩ = some (.int .i64 ss)) (first | (refine ⟨?_, ?_, ?_, ?_, ?_, ?_, ?_⟩ <;> assumption) | exact HK.out _ (Hid.out (by assumption)))
    (first
      | (go_at_call 20; refine (PP.out _ _ (by assumption) (by assumption)).mono ?_; rintro r V1 ⟨rfl, k1⟩)
      | (go_at_call 23; refine (PT.out _ (by assumption)).mono ?_; rintro r V2 ⟨rfl, k2⟩)
      | (go_at_call 22; refine (PA.out _ _ (by assumption) (by assumption)).mono ?_; rintro r V3 ⟨rfl, k3⟩))
  all_goals
    go_wp2
    go_ret
    exact ⟨rfl, HB.out _ (Hid.out (by assumption))⟩
set_option linter.unusedSimpArgs false in
set_option maxHeartbeats 4000000 in
set_option maxRecDepth 100000 in
theorem specText (key nonce : Int) (url body : ByteArray) (sk se ss : Int) (w : World) (hk : -9223372036854775808 ≤ key ∧ key ≤ 9223372036854775807) (hn : -9223372036854775808 ≤ nonce ∧ nonce ≤ 9223372036854775807) (hu : url.size ≤ 40) (hb : body.size ≤ 2000) (he : -9223372036854775808 ≤ se ∧ se ≤ 9223372036854775807) (hs : -9223372036854775808 ≤ ss ∧ ss ≤ 9223372036854775807) :
    Calls Tryd.prog 12 #[jV key nonce url body sk se ss] w fun r w' => r = .returned (.string (jText key nonce url body se ss)) ∧ Below w.heap.size w w' := by
  unfold jV
  obtain ⟨w1, hw1⟩ : ∃ w1, w1 = w.alloc (.cells #[.int .i64 key, .int .i64 nonce, .string url, .string body, .int .i64 sk, .int .i64 se, .int .i64 ss] 31 (0, 0)) := ⟨_, rfl⟩
  have r0 : w1.heap[w.heap.size]? = some (.cells [Value.int .i64 key, .int .i64 nonce, .string url, .string body, .int .i64 sk, .int .i64 se, .int .i64 ss].toArray 31 (0, 0)) := by rw [hw1]; exact heap_alloc_new w _
  have B1 : Hid (Below w.heap.size w w1) := by rw [hw1]; exact (Below.refl _ _).alloc (Nat.le_refl _) _
  have z1 : w.heap.size < w1.heap.size := by rw [hw1]; simp
  have HK : Hid (∀ V, Below w1.heap.size w1 V → V.cell? ⟨w.heap.size, 0, none⟩ = some (.int .i64 key) ∧ V.cell? ⟨w.heap.size, 1, none⟩ = some (.int .i64 nonce) ∧ V.cell? ⟨w.heap.size, 2, none⟩ = some (.string url) ∧ V.cell? ⟨w.heap.size, 3, none⟩ = some (.string body) ∧ V.cell? ⟨w.heap.size, 4, none⟩ = some (.int .i64 sk) ∧ V.cell? ⟨w.heap.size, 5, none⟩ = some (.int .i64 se) ∧ V.cell? ⟨w.heap.size, 6, none⟩ = some (.int .i64 ss)) := fun V hV => by
    have hP := (hV.block _ z1).trans r0
    exact ⟨rowFacts hP 0 _ rfl, rowFacts hP 1 _ rfl, rowFacts hP 2 _ rfl, rowFacts hP 3 _ rfl, rowFacts hP 4 _ rfl, rowFacts hP 5 _ rfl, rowFacts hP 6 _ rfl⟩
  have HB : Hid (∀ V, Below w1.heap.size w1 V → Below w.heap.size w V) := fun V hV => B1.out.trans (hV.mono B1.out.size)
  have PP : Hid (∀ V (n : Int), Hid (Below w1.heap.size w1 V) → -9223372036854775808 ≤ n ∧ n ≤ 9223372036854775807 → Calls Tryd.prog 20 #[.int .i64 n] V fun e W => e = .returned (.string (putS n)) ∧ Hid (Below w1.heap.size w1 W)) := fun V n hV hn => (specPut n V hn.1 hn.2).mono fun e W h => ⟨h.1, hV.out.trans (h.2.mono hV.out.size)⟩
  have PH : Hid (∀ V, Hid (Below w1.heap.size w1 V) → Calls Tryd.prog 11 #[.agg #[.int .i64 key, .int .i64 nonce, .string url, .string body, .int .i64 sk, .int .i64 se, .int .i64 ss]] V fun e W => e = .returned (.string (jTwo key nonce url body)) ∧ Hid (Below w1.heap.size w1 W)) := fun V hV => (specHead key nonce url body sk se ss V hk hn hu hb).mono fun e W h => ⟨h.1, hV.out.trans (h.2.mono hV.out.size)⟩
  have PA : Hid (∀ V (t : ByteArray), Hid (Below w1.heap.size w1 V) → t.size ≤ 4000 → Calls Tryd.prog 22 #[.string t] V fun e W => e = .returned (.string (b64D t)) ∧ Hid (Below w1.heap.size w1 W)) := fun V t hV ht => (specBase t V (by omega)).mono fun e W h => ⟨h.1, hV.out.trans (h.2.mono hV.out.size)⟩
  have I1 : Hid (Below w1.heap.size w1 w1) := Below.refl _ _
  have D1 : Hid (Below w1.heap.size w1 w1.drew) := I1.out.drew
  clear r0 z1 B1
  obtain ⟨R, hR⟩ : ∃ R, R = jText key nonce url body se ss := ⟨_, rfl⟩
  have y1 := putS_size se
  have y2 := putS_size ss
  have y3 := jTwo_size key nonce url body
  obtain ⟨q1, e1⟩ : ∃ q, jTwo key nonce url body ++ (⟨#[46]⟩ : ByteArray) = q := ⟨_, rfl⟩
  have sd : dotD.size = 1 := rfl
  have s1 : q1.size ≤ 5000 := by rw [← e1, ByteArray.size_append]; show _ + dotD.size ≤ _; omega
  obtain ⟨q2, e2⟩ : ∃ q, putS se ++ putS ss = q := ⟨_, rfl⟩
  have s2 : q2.size ≤ 20 := by rw [← e2, ByteArray.size_append]; omega
  have s3 := b64D_size q2
  have e4 : q1 ++ b64D q2 = R := by rw [hR, ← e1, ← e2]; rfl
  have a1 : ¬ 9223372036854775807 < (jTwo key nonce url body).size + (⟨#[46]⟩ : ByteArray).size := by show ¬ _ < _ + dotD.size; omega
  have a1' : ¬ 9223372036854775807 < (jTwo key nonce url body).size + 1 := by omega
  have a2 : ¬ 9223372036854775807 < (putS se).size + (putS ss).size := by omega
  have a3 : ¬ 9223372036854775807 < q1.size + (b64D q2).size := by omega
  rw [← hR]
  have s24 : q2.size ≤ 4000 := by omega
  clear y1 y2 y3 s1 s2 s3 sd hR
  generalize jTwo key nonce url body = TW at *
  obtain ⟨c0, c1, c2, c3, c4, c5, c6⟩ := HK.out w1 I1.out
  go_enter Tryd.func12, Tryd.ntmps12
  go_upto_region 1 with fail
  rw [← hw1]
  clear hw1
  go_region_held3 (fun V => V.cell? ⟨w.heap.size, 0, none⟩ = some (.int .i64 key) ∧ V.cell? ⟨w.heap.size, 1, none⟩ = some (.int .i64 nonce) ∧ V.cell? ⟨w.heap.size, 2, none⟩ = some (.string url) ∧ V.cell? ⟨w.heap.size, 3, none⟩ = some (.string body) ∧ V.cell? ⟨w.heap.size, 4, none⟩ = some (.int .i64 sk) ∧ V.cell? ⟨w.heap.size, 5, none⟩ = some (.int .i64 se) ∧ V.cell? ⟨w.heap.size, 6, none⟩ = some (.int .i64 ss)) (first | (refine ⟨?_, ?_, ?_, ?_, ?_, ?_, ?_⟩ <;> assumption) | exact HK.out _ (Hid.out (by assumption)))
    (first
      | (go_at_call 20; refine (PP.out _ _ (by assumption) (by assumption)).mono ?_; rintro r V1 ⟨rfl, k1⟩)
      | (go_at_call 11; refine (PH.out _ (by assumption)).mono ?_; rintro r V2 ⟨rfl, k2⟩)
      | (go_at_call 22; refine (PA.out _ _ (by assumption) (by assumption)).mono ?_; rintro r V3 ⟨rfl, k3⟩))
  all_goals
    go_wp2
    go_ret
    exact ⟨rfl, HB.out _ (Hid.out (by assumption))⟩
end Go.Proofs.YtmegmcngcehneaaDoor
namespace Go.Proofs.YtmegmcngcehneaaDoor
open Go.RowKit
theorem infoLong : (Tryd.prog.info? 2).map (fun i => (i.zero, i.size, i.bytes)) = some (some (.int .i64 0), 1, 8) := by kernel_rfl
end Go.Proofs.YtmegmcngcehneaaDoor
namespace Go.Proofs.YtmegmcngcehneaaDoor
open Go.RowKit

def keyV : List Value := keyL.map fun n : Nat => Value.int .u32 (n : Int)
theorem key_at (k : Nat) (h : k < 64) : keyV[k]? = some (.int .u32 (uI (kAt k))) := by
  unfold keyV
  have hl : k < keyL.length := h
  rw [List.getElem?_map, List.getElem?_eq_getElem hl]
  have hb : ∀ n ∈ keyL, n < 4294967296 := by decide
  have := hb _ (List.getElem_mem hl)
  unfold kAt uI
  rw [BitVec.toNat_ofNat, List.getD, List.getElem?_eq_getElem hl]
  simp only [Option.map_some, Option.getD_some]
  rw [Nat.mod_eq_of_lt (by simpa using this)]
set_option maxRecDepth 100000 in
theorem specKeys (w : World) :
    Calls Tryd.prog 57 #[] w fun e w' => e = .returned (.slice (some ⟨w.heap.size, 0, none⟩) 64 64) ∧ w'.heap[w.heap.size]? = some (.cells keyV.toArray 64 (0, 0)) ∧ Below w.heap.size w w' := by
  go_enter Tryd.func57, Tryd.ntmps57
  go_wp2
  go_ret
  exact ⟨rfl, heap_alloc_new _ _, (Below.refl _ _).alloc (Nat.le_refl _) _⟩
theorem add_row (s T : St) (j : Nat) (h : j < 8) : (s.add T).row.getD j 0 = s.row.getD j 0 + T.row.getD j 0 := by
  rcases (by omega : j = 0 ∨ j = 1 ∨ j = 2 ∨ j = 3 ∨ j = 4 ∨ j = 5 ∨ j = 6 ∨ j = 7) with rfl | rfl | rfl | rfl | rfl | rfl | rfl | rfl <;> rfl
theorem iCells_take (s : St) (j : Nat) (h : j < 8) : (iCells s).take (j + 1) = (iCells s).take j ++ [.int .i64 (uI (s.row.getD j 0))] := by
  have e := iCells_at s j h
  have hl : j < (iCells s).length := h
  rw [List.getElem?_eq_getElem hl] at e
  rw [List.take_succ_eq_append_getElem hl, Option.some.inj e]
theorem infoWord : (Tryd.prog.info? 64).map (fun i => (i.zero, i.size, i.bytes)) = some (some (.int .u32 0), 1, 4) := by kernel_rfl
end Go.Proofs.YtmegmcngcehneaaDoor
