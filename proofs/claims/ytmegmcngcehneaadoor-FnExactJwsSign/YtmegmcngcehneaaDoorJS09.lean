/- impl.Base64, walked. FnExactNameRight, walks: 'impl.NameRight' answers true just where the text is a right name; the law. impl.isTime, NameRight, walked. impl.askedText, layRequest, askedRight, walked. -/
import Derived.Test.YtmegmcngcehneaaDoorJS08
import Derived.Test.YtmegmcngcehneaaDoorJS01
import Derived.Test.YtmegmcngcehneaaDoorJS02
import Derived.WalkLawsBesides
import Derived.Test.YtmegmcngcehneaaDoorJS05
import Derived.Test.YtmegmcngcehneaaDoorJS04
import Derived.Test.YtmegmcngcehneaaDoorJS03
import Derived.Deep.Cut
import Derived.Deep.RegionHeld3
namespace Go.Proofs.YtmegmcngcehneaaDoor
open Go.RowKit Go.Lib

theorem conv_bts (W : World) (s : ByteArray) : ∃ (c : Nat) (W' : World), (convert 9 53 (.string s)).run Tryd.prog W = .ok (.slice (some ⟨W.heap.size, 0, none⟩) s.size c) W' ∧ IsBts W' (some ⟨W.heap.size, 0, none⟩) (bts s) ∧ Below W.heap.size W W' := by
  refine ⟨_, _, run_bytes_of_string W 9 53 5 s Tryd.underlying9 Tryd.underlying53 Tryd.underlying5, .inr ⟨W.heap.size, rfl, by show _ < (W.heap.push _).size; simp, fun i z hz => ?_⟩, (Below.refl _ W).drew.alloc (Nat.le_refl _) _⟩
  have hi : i < s.data.size := by
    have : i < (bts s).length := by
      rcases Nat.lt_or_ge i (bts s).length with h | h
      · exact h
      · rw [List.getElem?_eq_none h] at hz; cases hz
    rw [bts_len] at this
    exact this
  rw [cell_of_row _ W.heap.size i _ _ _ (heap_alloc_new W.drew _), bytesRow_at s _ i hi]
  simp only [bts, List.getElem?_map, Array.getElem?_toList, Array.getElem?_eq_getElem hi, Option.map_some, Option.some.injEq] at hz
  rw [← hz]
/-- The first k values are signs already. -/
def mixG (G : List Nat) (k : Nat) : List Int := (G.take k).map sg ++ (G.drop k).map (fun x : Nat => (x : Int))
theorem mixG_zero (G : List Nat) : mixG G 0 = G.map (fun x : Nat => (x : Int)) := by simp [mixG]
theorem mixG_all (G : List Nat) : mixG G G.length = G.map sg := by simp [mixG]
theorem mixG_len (G : List Nat) (k : Nat) : (mixG G k).length = G.length := by simp [mixG]; omega
theorem mixG_at (G : List Nat) {k z : Nat} (h : G[k]? = some z) : (mixG G k)[k]? = some (z : Int) := by
  have hk : k < G.length := by
    rcases Nat.lt_or_ge k G.length with h' | h'
    · exact h'
    · rw [List.getElem?_eq_none h'] at h; cases h
  have hl : ((G.take k).map sg).length = k := by simp; omega
  rw [mixG, List.getElem?_append_right (by omega), hl, Nat.sub_self, List.getElem?_map, List.getElem?_drop, Nat.add_zero, h]
  rfl
theorem mixG_set (G : List Nat) {k z : Nat} (h : G[k]? = some z) : (mixG G k).set k (sg z) = mixG G (k + 1) := by
  have hk : k < G.length := by
    rcases Nat.lt_or_ge k G.length with h' | h'
    · exact h'
    · rw [List.getElem?_eq_none h'] at h; cases h
  have hz : G[k] = z := by rw [List.getElem?_eq_getElem hk] at h; exact Option.some.inj h
  have hl : ((G.take k).map sg).length = k := by simp; omega
  rw [mixG, mixG, List.set_append_right _ _ (by omega), hl, Nat.sub_self, List.drop_eq_getElem_cons hk, List.map_cons, List.set_cons_zero, List.take_succ_eq_append_getElem hk, List.map_append, hz]
  simp
set_option linter.unusedSimpArgs false in
set_option maxHeartbeats 4000000 in
set_option maxRecDepth 100000 in
theorem implBase64 (s : ByteArray) (w : World) (hm : s.size ≤ maxLen) :
    Calls Tryd.prog 35 #[.string s] w fun e w' => e = .returned (.string (base64D s)) ∧ Below w.heap.size w w' := by
  unfold maxLen at hm
  by_cases h4 : 4000 < s.size
  · have HF : Hid (base64D s = ⟨#[]⟩) := by show _ = _; rw [base64D, if_pos h4]
    go_enter Tryd.func35, Tryd.ntmps35
    go_wp2
    go_ret
    exact ⟨by rw [HF.out]; rfl, Below.refl _ _⟩
  obtain ⟨i0, hi, hz0, hz1, hz2⟩ := info_parts infoByte
  obtain ⟨G, hG⟩ : ∃ G, G = b64 (bts s) := ⟨_, rfl⟩
  have HF : Hid (base64D s = strOfNums (G.map sg)) := by show _ = _; rw [base64D, if_neg h4, hG]; rfl
  have HGl : Hid (G.length ≤ 8000) := by show _ ≤ _; have := b64_len (bts s); rw [bts_len, ← hG] at this; omega
  have HGt : Hid (∀ y ∈ G, y < 64) := by show ∀ y ∈ G, _; rw [hG]; exact b64_lt _ (bts_lt s)
  have hr := b64_rgo (bts s)
  have HRg : Hid (∀ V a cap, IsBts V a (bts s) → Calls Tryd.prog 47 #[.slice a s.size cap, .int .i64 8, .int .i64 6] V fun e w' => ∃ v, e = .returned (.tuple #[v, .int .u8 (((rgo (bts s) 0 0).2.1 : Nat) : Int), .int .i64 (((rgo (bts s) 0 0).2.2 : Nat) : Int)]) ∧ OwnB w' V.heap.size v (rgo (bts s) 0 0).1 ∧ Below V.heap.size V w') := fun V a cap h => by
    have := implRegroup86 (bts s) a cap V (by rw [bts_len]; omega) (bts_lt s) h
    rw [bts_len] at this
    exact this
  obtain ⟨⟨R, RH, RC⟩, hR⟩ : ∃ R, R = rgo (bts s) 0 0 := ⟨_, rfl⟩
  rw [← hG, ← hR] at hr
  rw [← hR] at HRg
  simp only at hr HRg
  have HR : Hid (G = R ++ tailG (RH, RC)) := hr.1
  have HC : Hid (RC = 0 ∨ (RC = 2 ∧ RH < 4) ∨ (RC = 4 ∧ RH < 16)) := hr.2
  obtain ⟨c0, w1, hcv, hb1, hbb1⟩ := conv_bts w s
  have HB1 : Hid (Below w.heap.size w w1) := hbb1
  have HI1 : Hid _ := hb1
  clear hr hG hR hb1 hbb1
  go_enter Tryd.func35, Tryd.ntmps35
  go_wp2_with fail
  refine (HRg.out _ _ _ HI1.out).mono ?_
  rintro e w2 ⟨v, rfl, ho, b2⟩
  have HB2 : Hid (Below w.heap.size w w2) := HB1.out.trans (b2.mono HB1.out.size)
  have HO : Hid (OwnB w2 w1.heap.size v R) := ho
  have S1 : Hid (w.heap.size ≤ w1.heap.size ∧ w1.heap.size ≤ w2.heap.size) := ⟨HB1.out.size, b2.size⟩
  clear ho b2 hcv HI1 HRg HB1 h4 hm
  obtain ⟨va, vc, rfl, _⟩ := OwnB.form HO.out
  obtain ⟨ci, hci⟩ : ∃ ci : Int, ci = (RC : Int) := ⟨_, rfl⟩
  rw [← hci]
  go_upto_if 19 with fail
  go_cut [3, 4, 5] from 8 (fun s3 _ _ wx => OwnB wx w1.heap.size s3 G ∧ Below w.heap.size w wx)
  case first =>
    rcases HC.out with rfl | ⟨rfl, hh⟩ | ⟨rfl, hh⟩
    · obtain rfl : ci = 0 := hci
      have hG : G = R := by rw [HR.out]; simp [tailG]
      subst hG
      go_wp2_with fail
      go_meet
      case rel => exact ⟨HO.out, HB2.out⟩
    · obtain rfl : ci = 2 := hci
      obtain ⟨q, hq⟩ : ∃ q, q = RH * 16 := ⟨_, rfl⟩
      have hG : G = R ++ [q] := by rw [HR.out, hq]; simp [tailG]
      have sw : IntKind.u8.wrap ((RH : Int) * 16) = (q : Int) := by rw [IntKind.wrap_u8]; omega
      obtain ⟨pl, hpl⟩ : ∃ p, p = R.length := ⟨_, rfl⟩
      have HPl : Hid (pl = R.length) := hpl
      have hO : w2.ownsRow w1.heap.size 5 1 (.slice va pl vc) pl ((R.map (fun x : Nat => (x : Int))).map (Value.int .u8)) := by
        have h2 := HO.out
        unfold OwnB at h2
        rw [← hpl] at h2
        exact h2
      have hbd : pl + 1 ≤ 8000 := by
        have h1 := HGl.out
        rw [hG, List.length_append, ← hpl] at h1
        exact h1
      rw [← hpl]
      have HGG : Hid (G = R ++ [q]) := hG
      clear hpl hq hG
      go_wp2_with (at_builtin; refine wpList_append_own _ rfl _ _ 53 rfl w1.heap.size 5 i0 (.int .u8 0) 1 1 Tryd.underlying53 hi hz0 hz1 hz2 rfl (by decide) _ _ _ rfl (hO.alloc _) ⟨w2.heap.size, 0, none⟩ 1 1 [.int .u8 (q : Int)] rfl rfl (cells_one (by simp)) (by simp [Value.oneCell']) ?c3 ?c4 ?c5 ?_)
      case c3 => unfold maxLen; omega
      case c4 => omega
      case c5 => have := S1.out; simp; omega
      intro y w3 hown3 hgrow3 _
      have B3 : Hid (Below w.heap.size w w3) := (HB2.out.alloc (by have := S1.out; omega) _).grown hgrow3 (by have := S1.out; simp; omega) (fun j hj => by have := (hO.lt j hj).1; have := S1.out; omega)
      have O3 : Hid (OwnB w3 w1.heap.size y G) := by
        show World.ownsRow _ _ _ _ _ _ _
        rw [HGG.out, List.length_append, ← HPl.out]
        simpa [List.map_append] using hown3
      clear hgrow3 hown3 hO
      go_wp2
      go_meet
      case rel => exact ⟨O3.out, B3.out⟩
    · obtain rfl : ci = 4 := hci
      obtain ⟨q, hq⟩ : ∃ q, q = RH * 4 := ⟨_, rfl⟩
      have hG : G = R ++ [q] := by rw [HR.out, hq]; simp [tailG]
      have sw : IntKind.u8.wrap ((RH : Int) * 4) = (q : Int) := by rw [IntKind.wrap_u8]; omega
      obtain ⟨pl, hpl⟩ : ∃ p, p = R.length := ⟨_, rfl⟩
      have HPl : Hid (pl = R.length) := hpl
      have hO : w2.ownsRow w1.heap.size 5 1 (.slice va pl vc) pl ((R.map (fun x : Nat => (x : Int))).map (Value.int .u8)) := by
        have h2 := HO.out
        unfold OwnB at h2
        rw [← hpl] at h2
        exact h2
      have hbd : pl + 1 ≤ 8000 := by
        have h1 := HGl.out
        rw [hG, List.length_append, ← hpl] at h1
        exact h1
      rw [← hpl]
      have HGG : Hid (G = R ++ [q]) := hG
      clear hpl hq hG
      go_wp2_with (at_builtin; refine wpList_append_own _ rfl _ _ 53 rfl w1.heap.size 5 i0 (.int .u8 0) 1 1 Tryd.underlying53 hi hz0 hz1 hz2 rfl (by decide) _ _ _ rfl (hO.alloc _) ⟨w2.heap.size, 0, none⟩ 1 1 [.int .u8 (q : Int)] rfl rfl (cells_one (by simp)) (by simp [Value.oneCell']) ?d3 ?d4 ?d5 ?_)
      case d3 => unfold maxLen; omega
      case d4 => omega
      case d5 => have := S1.out; simp; omega
      intro y w3 hown3 hgrow3 _
      have B3 : Hid (Below w.heap.size w w3) := (HB2.out.alloc (by have := S1.out; omega) _).grown hgrow3 (by have := S1.out; simp; omega) (fun j hj => by have := (hO.lt j hj).1; have := S1.out; omega)
      have O3 : Hid (OwnB w3 w1.heap.size y G) := by
        show World.ownsRow _ _ _ _ _ _ _
        rw [HGG.out, List.length_append, ← HPl.out]
        simpa [List.map_append] using hown3
      clear hgrow3 hown3 hO
      go_wp2
      go_meet
      case rel => exact ⟨O3.out, B3.out⟩
  obtain ⟨ho, hb⟩ := hcut
  have B3 : Hid (Below w.heap.size w wc) := hb
  have O3 : Hid (OwnB wc w1.heap.size u3 G) := ho
  clear ho hb HO HB2 HC HR
  obtain ⟨ga, gc, rfl, hgc⟩ := OwnB.form O3.out
  obtain ⟨n, hn⟩ : ∃ n, n = G.length := ⟨_, rfl⟩
  rw [← hn] at O3 ⊢
  have HN : Hid (n = G.length) := hn
  clear hn hgc
  have hn5 : n ≤ 8000 := by rw [HN.out]; exact HGl.out
  go_wp2_with fail
  go_loopw [29] (fun i wr => ∃ (k : Nat), i = .int .i64 k ∧ k ≤ n ∧ wr.ownsRow w1.heap.size 5 1 (.slice ga n gc) n ((mixG G k).map (Value.int .u8)) ∧ Below w.heap.size w wr)
    (fun i _ => n - (RowKit.intOf i).toNat)
  case atStart =>
    refine ⟨0, rfl, Nat.zero_le _, ?_, B3.out⟩
    have h2 := O3.out
    unfold OwnB at h2
    rw [← HN.out] at h2
    rw [mixG_zero]
    exact h2
  case round =>
    obtain ⟨k, rfl, hk, hown, hbel⟩ := hrel
    by_cases hlt : k < n
    rotate_left
    · obtain rfl : k = n := by omega
      have q2 : ¬ (k : Int) < (k : Int) := by omega
      have hx : mixG G k = G.map sg := by rw [HN.out]; exact mixG_all G
      rw [hx] at hown
      have hcv := run_convert_own (P := Tryd.prog) (src := 53) (dst := 9) Tryd.underlying53 Tryd.underlying5 Tryd.underlying9 hown
      have HBl : Hid (Below w.heap.size w wr) := hbel
      clear hown hbel hx hlt hk O3 B3
      go_wp2
      go_ret
      exact ⟨by rw [HF.out]; rfl, HBl.out⟩
    have hkG : k < G.length := by have := HN.out; omega
    obtain ⟨z, hz⟩ : ∃ z, G[k]? = some z := ⟨G[k], List.getElem?_eq_getElem hkG⟩
    have hzl : z < 64 := HGt.out z (List.mem_of_getElem? hz)
    obtain ⟨g, rfl⟩ : ∃ g, ga = some ⟨g, 0, none⟩ := by
      rcases hown.2 with ⟨_, h⟩ | ⟨g, _, _, e, _⟩
      · omega
      · simp only [Value.slice.injEq] at e
        exact ⟨g, e.1⟩
    have hcell : wr.cell? ⟨g, k, none⟩ = some (.int .u8 (z : Int)) := by
      rw [hown.cellAt k (by omega), List.getElem?_map, mixG_at G hz]
      rfl
    have hfr := hown.frozenAt k
    have hst := hown.stored k (.int .u8 (sg z))
    have hge : w.heap.size ≤ g := by
      have := (hown.lt g rfl).1
      have := S1.out.1
      omega
    have HW : Hid ((wr.setCell ⟨g, k, none⟩ (.int .u8 (sg z))).ownsRow w1.heap.size 5 1 (.slice (some ⟨g, 0, none⟩) n gc) n ((mixG G (k + 1)).map (Value.int .u8))) := by
      have h2 := hst.1
      rw [← mixG_set G hz, List.map_set]
      exact h2
    have HBl : Hid (Below w.heap.size w (wr.setCell ⟨g, k, none⟩ (.int .u8 (sg z)))) := hbel.setCell hge _
    have q1 : (0 : Int) ≤ (k : Int) := Int.natCast_nonneg _
    have q2 : (k : Int) < (n : Int) := by omega
    have e1 := idxSg8 z hzl
    clear hown hst hbel hz hkG hge O3 B3
    go_wp2
    go_roundw
    case rel => exact ⟨k + 1, by go_num, by omega, HW.out, HBl.out⟩
    case measure => simp [RowKit.intOf]; omega
end Go.Proofs.YtmegmcngcehneaaDoor
namespace Go.Proofs.YtmegmcngcehneaaDoor
open Go.RowKit

theorem isLetter (n : Int) (w : World) : Calls Tryd.prog 42 #[.int .u8 n] w fun e w' => e = .returned (.bool (decide (97 ≤ n) && decide (n ≤ 122))) ∧ w' = w := by
  by_cases h1 : 97 ≤ n
  · by_cases h2 : n ≤ 122
    all_goals
      go_enter Tryd.func42, Tryd.ntmps42
      go_wp2
      go_ret
      exact ⟨by simp [h1, h2], rfl⟩
  · go_enter Tryd.func42, Tryd.ntmps42
    go_wp2
    go_ret
    exact ⟨by simp; omega, rfl⟩
theorem isDigit (n : Int) (w : World) : Calls Tryd.prog 43 #[.int .u8 n] w fun e w' => e = .returned (.bool (decide (48 ≤ n) && decide (n ≤ 57))) ∧ w' = w := by
  by_cases h1 : 48 ≤ n
  · by_cases h2 : n ≤ 57
    all_goals
      go_enter Tryd.func43, Tryd.ntmps43
      go_wp2
      go_ret
      exact ⟨by simp [h1, h2], rfl⟩
  · go_enter Tryd.func43, Tryd.ntmps43
    go_wp2
    go_ret
    exact ⟨by simp; omega, rfl⟩

set_option maxHeartbeats 1000000 in
theorem implName (s : ByteArray) (w : World) (hs : s.size ≤ maxLen) :
    Calls Tryd.prog 28 #[.string s] w fun e w' => AnsB (NameOk s) e ∧ w' = w := by
  unfold maxLen at hs
  by_cases h1 : s.size < 1
  · go_enter Tryd.func28, Tryd.ntmps28
    go_wp2
    go_ret
    exact ⟨AnsB.no (fun h => by have := h.1; omega) rfl, rfl⟩
  by_cases h2 : 40 < s.size
  · go_enter Tryd.func28, Tryd.ntmps28
    go_wp2
    go_ret
    exact ⟨AnsB.no (fun h => by have := h.2.1; omega) rfl, rfl⟩
  have hp : 0 < s.size := by omega
  by_cases h3 : OkAt s 0 hp
  rotate_left
  · rcases cls (s[0].toNat : Int) with ⟨c, e1, e2, e3, e4, e5⟩ | ⟨c, e1, e2, e3, e4, e5⟩ | ⟨c, e1, e2, e3, e4, e5⟩ | ⟨c, e1, e2, e3, e4, e5⟩ | ⟨c, e1, e2, e3, e4, e5⟩ | ⟨c, e1, e2, e3, e4, e5⟩ | ⟨c, e1, e2, e3, e4, e5⟩
    all_goals
      first
        | (exfalso; exact h3 (by unfold OkAt OkN; omega))
        | (go_enter Tryd.func28, Tryd.ntmps28
           go_wp2
           go_ret
           exact ⟨AnsB.no (name_no s 0 hp h3) rfl, rfl⟩)
  have hc : 97 ≤ (s[0].toNat : Int) ∧ (s[0].toNat : Int) ≤ 122 := by unfold OkAt OkN at h3; omega
  obtain ⟨c1, c2⟩ := hc
  have H3 : Hid (OkAt s 0 hp) := h3
  clear h3
  go_enter Tryd.func28, Tryd.ntmps28
  go_wp2
  go_loop [3] (fun i => ∃ k : Nat, 1 ≤ k ∧ k ≤ s.size ∧ i = .int .i64 k ∧ OkTo s k) (fun i => s.size - (intOf i).toNat)
  case atStart => exact ⟨1, by omega, by omega, rfl, okTo_succ s 0 hp (okTo_zero s) H3.out⟩
  case round =>
    obtain ⟨k, hk1, hk, rfl, hok⟩ := hrel
    have HO : Hid (OkTo s k) := hok
    clear hok
    by_cases hlt : k < s.size
    · rcases cls (s[k].toNat : Int) with ⟨c, e1, e2, e3, e4, e5⟩ | ⟨c, e1, e2, e3, e4, e5⟩ | ⟨c, e1, e2, e3, e4, e5⟩ | ⟨c, e1, e2, e3, e4, e5⟩ | ⟨c, e1, e2, e3, e4, e5⟩ | ⟨c, e1, e2, e3, e4, e5⟩ | ⟨c, e1, e2, e3, e4, e5⟩
      all_goals
        go_wp2
        first
          | (go_ret; exact ⟨AnsB.no (name_no s k hlt (by unfold OkAt OkN; omega)) rfl, rfl⟩)
          | exact ⟨⟨k + 1, by omega, by omega, by go_num, okTo_succ s k hlt HO.out (by unfold OkAt OkN; omega)⟩, by simp [intOf]; omega⟩
    · go_wp2
      go_ret
      have e : k = s.size := by omega
      have hf := HO.out
      rw [e] at hf
      exact ⟨AnsB.yes ⟨by omega, by omega, hf⟩ rfl, rfl⟩
end Go.Proofs.YtmegmcngcehneaaDoor
namespace Go.Proofs.YtmegmcngcehneaaDoor
open Go.RowKit

theorem implTime (n : Int) (w : World) :
    Calls Tryd.prog 27 #[.int .i64 n] w fun e w' => e = .returned (.bool (timeB n)) ∧ w' = w := by
  by_cases h0 : 0 ≤ n
  · by_cases h1 : n ≤ 1000000000
    · have HF : Hid (timeB n = true) := by show _ = _; simp [timeB, h0, h1]
      go_enter Tryd.func27, Tryd.ntmps27
      go_wp2
      go_ret
      exact ⟨by rw [HF.out]; rfl, rfl⟩
    · have HF : Hid (timeB n = false) := by show _ = _; simp [timeB, h1]
      go_enter Tryd.func27, Tryd.ntmps27
      go_wp2
      go_ret
      exact ⟨by rw [HF.out]; rfl, rfl⟩
  · have HF : Hid (timeB n = false) := by show _ = _; simp [timeB, h0]
    go_enter Tryd.func27, Tryd.ntmps27
    go_wp2
    go_ret
    exact ⟨by rw [HF.out]; rfl, rfl⟩
theorem implNameB (s : ByteArray) (w : World) (hs : s.size ≤ maxLen) :
    Calls Tryd.prog 28 #[.string s] w fun e w' => e = .returned (.bool (nameB s)) ∧ w' = w :=
  (implName s w hs).mono fun _ _ h => ⟨ans_name h.1, h.2⟩
end Go.Proofs.YtmegmcngcehneaaDoor
namespace Go.Proofs.YtmegmcngcehneaaDoor
open Go.RowKit Go.Lib

theorem base64D_small {t : ByteArray} (h : t.size ≤ 4000) : base64D t = b64D t := by rw [base64D, if_neg (by omega)]
set_option linter.unusedSimpArgs false in
set_option maxHeartbeats 4000000 in
set_option maxRecDepth 100000 in
theorem implTwo (key nonce : Int) (url body : ByteArray) (sk se ss : Int) (w : World) (hk : -9223372036854775808 ≤ key ∧ key ≤ 9223372036854775807) (hn : -9223372036854775808 ≤ nonce ∧ nonce ≤ 9223372036854775807) (hu : url.size ≤ 40) (hb : body.size ≤ 2000) :
    Calls Tryd.prog 16 #[jV key nonce url body sk se ss] w fun r w' => r = .returned (.string (jTwo key nonce url body)) ∧ Below w.heap.size w w' := by
  unfold jV
  obtain ⟨w1, hw1⟩ : ∃ w1, w1 = w.alloc (.cells #[.int .i64 key, .int .i64 nonce, .string url, .string body, .int .i64 sk, .int .i64 se, .int .i64 ss] 31 (0, 0)) := ⟨_, rfl⟩
  have r0 : w1.heap[w.heap.size]? = some (.cells [Value.int .i64 key, .int .i64 nonce, .string url, .string body, .int .i64 sk, .int .i64 se, .int .i64 ss].toArray 31 (0, 0)) := by rw [hw1]; exact heap_alloc_new w _
  have B1 : Hid (Below w.heap.size w w1) := by rw [hw1]; exact (Below.refl _ _).alloc (Nat.le_refl _) _
  have z1 : w.heap.size < w1.heap.size := by rw [hw1]; simp
  have HK : Hid (∀ V, Below w1.heap.size w1 V → V.cell? ⟨w.heap.size, 0, none⟩ = some (.int .i64 key) ∧ V.cell? ⟨w.heap.size, 1, none⟩ = some (.int .i64 nonce) ∧ V.cell? ⟨w.heap.size, 2, none⟩ = some (.string url) ∧ V.cell? ⟨w.heap.size, 3, none⟩ = some (.string body) ∧ V.cell? ⟨w.heap.size, 4, none⟩ = some (.int .i64 sk) ∧ V.cell? ⟨w.heap.size, 5, none⟩ = some (.int .i64 se) ∧ V.cell? ⟨w.heap.size, 6, none⟩ = some (.int .i64 ss)) := fun V hV => by
    have hP := (hV.block _ z1).trans r0
    exact ⟨rowFacts hP 0 _ rfl, rowFacts hP 1 _ rfl, rowFacts hP 2 _ rfl, rowFacts hP 3 _ rfl, rowFacts hP 4 _ rfl, rowFacts hP 5 _ rfl, rowFacts hP 6 _ rfl⟩
  have HB : Hid (∀ V, Below w1.heap.size w1 V → Below w.heap.size w V) := fun V hV => B1.out.trans (hV.mono B1.out.size)
  have PP : Hid (∀ V (n : Int), Hid (Below w1.heap.size w1 V) → -9223372036854775808 ≤ n ∧ n ≤ 9223372036854775807 → Calls Tryd.prog 33 #[.int .i64 n] V fun e W => e = .returned (.string (putS n)) ∧ Hid (Below w1.heap.size w1 W)) := fun V n hV hn => (implPut n V hn.1 hn.2).mono fun e W h => ⟨h.1, hV.out.trans (h.2.mono hV.out.size)⟩
  have PT : Hid (∀ V, Hid (Below w1.heap.size w1 V) → Calls Tryd.prog 34 #[.string url] V fun e W => e = .returned (.string (putTx url)) ∧ Hid (Below w1.heap.size w1 W)) := fun V hV => (implPutText url V (by omega)).mono fun e W h => ⟨h.1, hV.out.trans (h.2.mono hV.out.size)⟩
  have PJ : Hid (∀ V (a b : ByteArray), Hid (Below w1.heap.size w1 V) → a.size ≤ 4000 → b.size ≤ 4000 → Calls Tryd.prog 32 #[.string a, .string b] V fun e W => e = .returned (.string (a ++ b)) ∧ Hid (Below w1.heap.size w1 W)) := fun V a b hV ha hb => (joinTexts a b V (by omega) (by omega)).mono fun e W h => ⟨h.1, hV.out.trans (h.2.mono hV.out.size)⟩
  have PA : Hid (∀ V (t : ByteArray), Hid (Below w1.heap.size w1 V) → t.size ≤ 4000 → Calls Tryd.prog 35 #[.string t] V fun e W => e = .returned (.string (b64D t)) ∧ Hid (Below w1.heap.size w1 W)) := fun V t hV ht => by
    have := implBase64 t V (by unfold maxLen; omega)
    rw [base64D_small ht] at this
    exact this.mono fun e W h => ⟨h.1, hV.out.trans (h.2.mono hV.out.size)⟩
  have I1 : Hid (Below w1.heap.size w1 w1) := Below.refl _ _
  have D1 : Hid (Below w1.heap.size w1 w1.drew) := I1.out.drew
  clear r0 z1 B1
  obtain ⟨R, hR⟩ : ∃ R, R = jTwo key nonce url body := ⟨_, rfl⟩
  have HR : Hid (R = jTwo key nonce url body) := hR
  have y1 := putS_size key
  have y2 := putS_size nonce
  have y3 := putTx_size url
  obtain ⟨q1, e1⟩ : ∃ q, putS key ++ putS nonce = q := ⟨_, rfl⟩
  have s1 : q1.size ≤ 20 := by rw [← e1, ByteArray.size_append]; omega
  obtain ⟨q2, e2⟩ : ∃ q, q1 ++ putTx url = q := ⟨_, rfl⟩
  have s2 : q2.size ≤ 70 := by rw [← e2, ByteArray.size_append]; omega
  have s3 := b64D_size q2
  have s4 := b64D_size body
  have sd : dotD.size = 1 := rfl
  obtain ⟨q3, e3⟩ : ∃ q, b64D q2 ++ (⟨#[46]⟩ : ByteArray) = q := ⟨_, rfl⟩
  have s5 : q3.size ≤ 141 := by rw [← e3, ByteArray.size_append]; show _ + dotD.size ≤ _; omega
  have e4 : q3 ++ b64D body = R := by rw [hR, ← e3, ← e2, ← e1]; rfl
  have a1 : ¬ 9223372036854775807 < (putS key).size + (putS nonce).size := by omega
  have a2 : ¬ 9223372036854775807 < q1.size + (putTx url).size := by omega
  have a3 : ¬ 9223372036854775807 < (b64D q2).size + (⟨#[46]⟩ : ByteArray).size := by show ¬ _ < _ + dotD.size; omega
  have a3' : ¬ 9223372036854775807 < (b64D q2).size + 1 := by omega
  have a4 : ¬ 9223372036854775807 < q3.size + (b64D body).size := by omega
  rw [← hR]
  have hb4 : body.size ≤ 4000 := by omega
  have s24 : q2.size ≤ 4000 := by omega
  have z0 : (putS key).size ≤ 4000 := by omega
  have z1 : (putS nonce).size ≤ 4000 := by omega
  have z2 : (putTx url).size ≤ 4000 := by omega
  have z3 : q1.size ≤ 4000 := by omega
  clear y1 y2 y3 s1 s2 s3 s4 s5 sd hR HR
  obtain ⟨c0, c1, c2, c3, c4, c5, c6⟩ := HK.out w1 I1.out
  go_enter Tryd.func16, Tryd.ntmps16
  go_upto_region 1 with fail
  rw [← hw1]
  clear hw1
  go_region_held3 (fun V => V.cell? ⟨w.heap.size, 0, none⟩ = some (.int .i64 key) ∧ V.cell? ⟨w.heap.size, 1, none⟩ = some (.int .i64 nonce) ∧ V.cell? ⟨w.heap.size, 2, none⟩ = some (.string url) ∧ V.cell? ⟨w.heap.size, 3, none⟩ = some (.string body) ∧ V.cell? ⟨w.heap.size, 4, none⟩ = some (.int .i64 sk) ∧ V.cell? ⟨w.heap.size, 5, none⟩ = some (.int .i64 se) ∧ V.cell? ⟨w.heap.size, 6, none⟩ = some (.int .i64 ss)) (first | (refine ⟨?_, ?_, ?_, ?_, ?_, ?_, ?_⟩ <;> assumption) | exact HK.out _ (Hid.out (by assumption)))
    (first
      | (go_at_call 33; refine (PP.out _ _ (by assumption) (by assumption)).mono ?_; rintro r V1 ⟨rfl, k1⟩)
      | (go_at_call 34; refine (PT.out _ (by assumption)).mono ?_; rintro r V2 ⟨rfl, k2⟩)
      | (go_at_call 32; refine (PJ.out _ _ _ (by assumption) (by assumption) (by assumption)).mono ?_; rintro r V4 ⟨rfl, k4⟩)
      | (go_at_call 35; refine (PA.out _ _ (by assumption) (by assumption)).mono ?_; rintro r V3 ⟨rfl, k3⟩))
  all_goals
    have D9 : Hid (Below w1.heap.size w1 V4.drew) := k4.out.drew
    obtain ⟨c0, c1, c2, c3, c4, c5, c6⟩ := HK.out V4 k4.out
    go_upto_region 2 with fail
    go_region_held3 (fun V => V.cell? ⟨w.heap.size, 0, none⟩ = some (.int .i64 key) ∧ V.cell? ⟨w.heap.size, 1, none⟩ = some (.int .i64 nonce) ∧ V.cell? ⟨w.heap.size, 2, none⟩ = some (.string url) ∧ V.cell? ⟨w.heap.size, 3, none⟩ = some (.string body) ∧ V.cell? ⟨w.heap.size, 4, none⟩ = some (.int .i64 sk) ∧ V.cell? ⟨w.heap.size, 5, none⟩ = some (.int .i64 se) ∧ V.cell? ⟨w.heap.size, 6, none⟩ = some (.int .i64 ss)) (first | (refine ⟨?_, ?_, ?_, ?_, ?_, ?_, ?_⟩ <;> assumption) | exact HK.out _ (Hid.out (by assumption)))
      (first
        | (go_at_call 33; refine (PP.out _ _ (by assumption) (by assumption)).mono ?_; rintro r V1 ⟨rfl, k1⟩)
        | (go_at_call 34; refine (PT.out _ (by assumption)).mono ?_; rintro r V2 ⟨rfl, k2⟩)
        | (go_at_call 32; refine (PJ.out _ _ _ (by assumption) (by assumption) (by assumption)).mono ?_; rintro r V4 ⟨rfl, k4⟩)
        | (go_at_call 35; refine (PA.out _ _ (by assumption) (by assumption)).mono ?_; rintro r V3 ⟨rfl, k3⟩))
  all_goals
    go_wp2
    go_ret
    exact ⟨rfl, HB.out _ (Hid.out (by assumption))⟩
set_option linter.unusedSimpArgs false in
set_option maxHeartbeats 4000000 in
set_option maxRecDepth 100000 in
theorem implLay (key nonce : Int) (url body : ByteArray) (sk se ss : Int) (w : World) (hk : -9223372036854775808 ≤ key ∧ key ≤ 9223372036854775807) (hn : -9223372036854775808 ≤ nonce ∧ nonce ≤ 9223372036854775807) (hu : url.size ≤ 40) (hb : body.size ≤ 2000) (he : -9223372036854775808 ≤ se ∧ se ≤ 9223372036854775807) (hs : -9223372036854775808 ≤ ss ∧ ss ≤ 9223372036854775807) :
    Calls Tryd.prog 17 #[jV key nonce url body sk se ss] w fun r w' => r = .returned (.string (jText key nonce url body se ss)) ∧ Below w.heap.size w w' := by
  unfold jV
  obtain ⟨w1, hw1⟩ : ∃ w1, w1 = w.alloc (.cells #[.int .i64 key, .int .i64 nonce, .string url, .string body, .int .i64 sk, .int .i64 se, .int .i64 ss] 31 (0, 0)) := ⟨_, rfl⟩
  have r0 : w1.heap[w.heap.size]? = some (.cells [Value.int .i64 key, .int .i64 nonce, .string url, .string body, .int .i64 sk, .int .i64 se, .int .i64 ss].toArray 31 (0, 0)) := by rw [hw1]; exact heap_alloc_new w _
  have B1 : Hid (Below w.heap.size w w1) := by rw [hw1]; exact (Below.refl _ _).alloc (Nat.le_refl _) _
  have z1 : w.heap.size < w1.heap.size := by rw [hw1]; simp
  have HK : Hid (∀ V, Below w1.heap.size w1 V → V.cell? ⟨w.heap.size, 0, none⟩ = some (.int .i64 key) ∧ V.cell? ⟨w.heap.size, 1, none⟩ = some (.int .i64 nonce) ∧ V.cell? ⟨w.heap.size, 2, none⟩ = some (.string url) ∧ V.cell? ⟨w.heap.size, 3, none⟩ = some (.string body) ∧ V.cell? ⟨w.heap.size, 4, none⟩ = some (.int .i64 sk) ∧ V.cell? ⟨w.heap.size, 5, none⟩ = some (.int .i64 se) ∧ V.cell? ⟨w.heap.size, 6, none⟩ = some (.int .i64 ss)) := fun V hV => by
    have hP := (hV.block _ z1).trans r0
    exact ⟨rowFacts hP 0 _ rfl, rowFacts hP 1 _ rfl, rowFacts hP 2 _ rfl, rowFacts hP 3 _ rfl, rowFacts hP 4 _ rfl, rowFacts hP 5 _ rfl, rowFacts hP 6 _ rfl⟩
  have HB : Hid (∀ V, Below w1.heap.size w1 V → Below w.heap.size w V) := fun V hV => B1.out.trans (hV.mono B1.out.size)
  have PP : Hid (∀ V (n : Int), Hid (Below w1.heap.size w1 V) → -9223372036854775808 ≤ n ∧ n ≤ 9223372036854775807 → Calls Tryd.prog 33 #[.int .i64 n] V fun e W => e = .returned (.string (putS n)) ∧ Hid (Below w1.heap.size w1 W)) := fun V n hV hn => (implPut n V hn.1 hn.2).mono fun e W h => ⟨h.1, hV.out.trans (h.2.mono hV.out.size)⟩
  have PH : Hid (∀ V, Hid (Below w1.heap.size w1 V) → Calls Tryd.prog 16 #[.agg #[.int .i64 key, .int .i64 nonce, .string url, .string body, .int .i64 sk, .int .i64 se, .int .i64 ss]] V fun e W => e = .returned (.string (jTwo key nonce url body)) ∧ Hid (Below w1.heap.size w1 W)) := fun V hV => (implTwo key nonce url body sk se ss V hk hn hu hb).mono fun e W h => ⟨h.1, hV.out.trans (h.2.mono hV.out.size)⟩
  have PJ : Hid (∀ V (a b : ByteArray), Hid (Below w1.heap.size w1 V) → a.size ≤ 4000 → b.size ≤ 4000 → Calls Tryd.prog 32 #[.string a, .string b] V fun e W => e = .returned (.string (a ++ b)) ∧ Hid (Below w1.heap.size w1 W)) := fun V a b hV ha hb => (joinTexts a b V (by omega) (by omega)).mono fun e W h => ⟨h.1, hV.out.trans (h.2.mono hV.out.size)⟩
  have PA : Hid (∀ V (t : ByteArray), Hid (Below w1.heap.size w1 V) → t.size ≤ 4000 → Calls Tryd.prog 35 #[.string t] V fun e W => e = .returned (.string (b64D t)) ∧ Hid (Below w1.heap.size w1 W)) := fun V t hV ht => by
    have := implBase64 t V (by unfold maxLen; omega)
    rw [base64D_small ht] at this
    exact this.mono fun e W h => ⟨h.1, hV.out.trans (h.2.mono hV.out.size)⟩
  have I1 : Hid (Below w1.heap.size w1 w1) := Below.refl _ _
  have D1 : Hid (Below w1.heap.size w1 w1.drew) := I1.out.drew
  clear r0 z1 B1
  obtain ⟨R, hR⟩ : ∃ R, R = jText key nonce url body se ss := ⟨_, rfl⟩
  have y1 := putS_size se
  have y2 := putS_size ss
  have y3 := jTwo_size key nonce url body
  obtain ⟨q1, e1⟩ : ∃ q, jTwo key nonce url body ++ (⟨#[46]⟩ : ByteArray) = q := ⟨_, rfl⟩
  have sd : dotD.size = 1 := rfl
  have s1 : q1.size ≤ 5000 := by rw [← e1, ByteArray.size_append]; show _ + dotD.size ≤ _; omega
  obtain ⟨q2, e2⟩ : ∃ q, putS se ++ putS ss = q := ⟨_, rfl⟩
  have s2 : q2.size ≤ 20 := by rw [← e2, ByteArray.size_append]; omega
  have s3 := b64D_size q2
  have e4 : q1 ++ b64D q2 = R := by rw [hR, ← e1, ← e2]; rfl
  have a1 : ¬ 9223372036854775807 < (jTwo key nonce url body).size + (⟨#[46]⟩ : ByteArray).size := by show ¬ _ < _ + dotD.size; omega
  have a1' : ¬ 9223372036854775807 < (jTwo key nonce url body).size + 1 := by omega
  have a2 : ¬ 9223372036854775807 < (putS se).size + (putS ss).size := by omega
  have a3 : ¬ 9223372036854775807 < q1.size + (b64D q2).size := by omega
  rw [← hR]
  have s24 : q2.size ≤ 4000 := by omega
  have z0 : (putS se).size ≤ 4000 := by omega
  have z1 : (putS ss).size ≤ 4000 := by omega
  clear y1 y2 y3 s1 s2 s3 sd hR
  generalize jTwo key nonce url body = TW at *
  obtain ⟨c0, c1, c2, c3, c4, c5, c6⟩ := HK.out w1 I1.out
  go_enter Tryd.func17, Tryd.ntmps17
  go_upto_region 1 with fail
  rw [← hw1]
  clear hw1
  go_region_held3 (fun V => V.cell? ⟨w.heap.size, 0, none⟩ = some (.int .i64 key) ∧ V.cell? ⟨w.heap.size, 1, none⟩ = some (.int .i64 nonce) ∧ V.cell? ⟨w.heap.size, 2, none⟩ = some (.string url) ∧ V.cell? ⟨w.heap.size, 3, none⟩ = some (.string body) ∧ V.cell? ⟨w.heap.size, 4, none⟩ = some (.int .i64 sk) ∧ V.cell? ⟨w.heap.size, 5, none⟩ = some (.int .i64 se) ∧ V.cell? ⟨w.heap.size, 6, none⟩ = some (.int .i64 ss)) (first | (refine ⟨?_, ?_, ?_, ?_, ?_, ?_, ?_⟩ <;> assumption) | exact HK.out _ (Hid.out (by assumption)))
    (first
      | (go_at_call 33; refine (PP.out _ _ (by assumption) (by assumption)).mono ?_; rintro r V1 ⟨rfl, k1⟩)
      | (go_at_call 16; refine (PH.out _ (by assumption)).mono ?_; rintro r V2 ⟨rfl, k2⟩)
      | (go_at_call 32; refine (PJ.out _ _ _ (by assumption) (by assumption) (by assumption)).mono ?_; rintro r V4 ⟨rfl, k4⟩)
      | (go_at_call 35; refine (PA.out _ _ (by assumption) (by assumption)).mono ?_; rintro r V3 ⟨rfl, k3⟩))
  all_goals
    go_wp2
    go_ret
    exact ⟨rfl, HB.out _ (Hid.out (by assumption))⟩
set_option linter.unusedSimpArgs false in
set_option maxHeartbeats 4000000 in
set_option maxRecDepth 100000 in
theorem implAsked (key nonce : Int) (url body : ByteArray) (sk se ss : Int) (w : World) (hu : url.size ≤ maxLen) (hb : body.size ≤ maxLen) :
    Calls Tryd.prog 14 #[jV key nonce url body sk se ss] w fun r w' => r = .returned (.bool (askB key nonce url body)) ∧ Below w.heap.size w w' := by
  unfold jV
  obtain ⟨w1, hw1⟩ : ∃ w1, w1 = w.alloc (.cells #[.int .i64 key, .int .i64 nonce, .string url, .string body, .int .i64 sk, .int .i64 se, .int .i64 ss] 31 (0, 0)) := ⟨_, rfl⟩
  have r0 : w1.heap[w.heap.size]? = some (.cells [Value.int .i64 key, .int .i64 nonce, .string url, .string body, .int .i64 sk, .int .i64 se, .int .i64 ss].toArray 31 (0, 0)) := by rw [hw1]; exact heap_alloc_new w _
  have B1 : Hid (Below w.heap.size w w1) := by rw [hw1]; exact (Below.refl _ _).alloc (Nat.le_refl _) _
  have z1 : w.heap.size < w1.heap.size := by rw [hw1]; simp
  have HK : Hid (∀ V, Below w1.heap.size w1 V → V.cell? ⟨w.heap.size, 0, none⟩ = some (.int .i64 key) ∧ V.cell? ⟨w.heap.size, 1, none⟩ = some (.int .i64 nonce) ∧ V.cell? ⟨w.heap.size, 2, none⟩ = some (.string url) ∧ V.cell? ⟨w.heap.size, 3, none⟩ = some (.string body) ∧ V.cell? ⟨w.heap.size, 4, none⟩ = some (.int .i64 sk) ∧ V.cell? ⟨w.heap.size, 5, none⟩ = some (.int .i64 se) ∧ V.cell? ⟨w.heap.size, 6, none⟩ = some (.int .i64 ss)) := fun V hV => by
    have hP := (hV.block _ z1).trans r0
    exact ⟨rowFacts hP 0 _ rfl, rowFacts hP 1 _ rfl, rowFacts hP 2 _ rfl, rowFacts hP 3 _ rfl, rowFacts hP 4 _ rfl, rowFacts hP 5 _ rfl, rowFacts hP 6 _ rfl⟩
  have HB : Hid (∀ V, Below w1.heap.size w1 V → Below w.heap.size w V) := fun V hV => B1.out.trans (hV.mono B1.out.size)
  have HG : Hid (∀ V, Calls Tryd.prog 26 #[.int .i64 key] V fun e w' => e = .returned (.bool (rightG key)) ∧ Below V.heap.size V w') := fun V => implGroupRight key V
  have HT : Hid (∀ V, Calls Tryd.prog 27 #[.int .i64 nonce] V fun e w' => e = .returned (.bool (timeB nonce)) ∧ w' = V) := fun V => implTime nonce V
  have HN : Hid (∀ V, Calls Tryd.prog 28 #[.string url] V fun e w' => e = .returned (.bool (nameB url)) ∧ w' = V) := fun V => implNameB url V hu
  obtain ⟨R, hR⟩ : ∃ R, R = askB key nonce url body := ⟨_, rfl⟩
  rw [← hR]
  have HR : Hid (R = (rightG key && (timeB nonce && (nameB url && decide (body.size ≤ 2000))))) := hR
  unfold maxLen at hb
  clear r0 z1 B1 hR hu
  obtain ⟨c0, c1, c2, c3, c4, c5, c6⟩ := HK.out w1 (Below.refl _ _)
  generalize rightG key = P1 at *
  generalize timeB nonce = P2 at *
  generalize nameB url = P3 at *
  go_enter Tryd.func14, Tryd.ntmps14
  go_upto_region 1 with fail
  rw [← hw1]
  clear hw1
  cases P1 with
  | false =>
    have HF : Hid (R = false) := by show _ = _; rw [HR.out]; rfl
    go_wp2_with fail
    refine (HG.out w1).mono ?_
    rintro e w2 ⟨rfl, b2⟩
    have B2 : Hid (Below w1.heap.size w1 w2) := b2
    obtain ⟨d0, d1, d2, d3, d4, d5, d6⟩ := HK.out w2 B2.out
    clear b2 c0 c1 c2 c3 c4 c5 c6
    go_wp2
    go_ret
    exact ⟨by rw [HF.out]; first | rfl | simp_all, HB.out _ B2.out⟩
  | true =>
  cases P2 with
  | false =>
    have HF : Hid (R = false) := by show _ = _; rw [HR.out]; rfl
    go_wp2_with fail
    refine (HG.out w1).mono ?_
    rintro e w2 ⟨rfl, b2⟩
    have B2 : Hid (Below w1.heap.size w1 w2) := b2
    obtain ⟨d0, d1, d2, d3, d4, d5, d6⟩ := HK.out w2 B2.out
    clear b2 c0 c1 c2 c3 c4 c5 c6
    go_wp2_with fail
    refine (HT.out w2).mono ?_
    rintro e w3 ⟨rfl, rfl⟩
    go_wp2
    go_ret
    exact ⟨by rw [HF.out]; first | rfl | simp_all, HB.out _ B2.out⟩
  | true =>
  cases P3 with
  | false =>
    have HF : Hid (R = false) := by show _ = _; rw [HR.out]; rfl
    go_wp2_with fail
    refine (HG.out w1).mono ?_
    rintro e w2 ⟨rfl, b2⟩
    have B2 : Hid (Below w1.heap.size w1 w2) := b2
    obtain ⟨d0, d1, d2, d3, d4, d5, d6⟩ := HK.out w2 B2.out
    clear b2 c0 c1 c2 c3 c4 c5 c6
    go_wp2_with fail
    refine (HT.out w2).mono ?_
    rintro e w3 ⟨rfl, rfl⟩
    go_wp2_with fail
    refine (HN.out _).mono ?_
    rintro e w4 ⟨rfl, rfl⟩
    go_wp2
    go_ret
    exact ⟨by rw [HF.out]; first | rfl | simp_all, HB.out _ B2.out⟩
  | true =>
  by_cases h4 : body.size ≤ 2000
  · have HF : Hid (R = true) := by show _ = _; rw [HR.out]; simp [h4]
    have hd : decide ((body.size : Int) ≤ 2000) = true := decide_eq_true (by omega)
    go_wp2_with fail
    refine (HG.out w1).mono ?_
    rintro e w2 ⟨rfl, b2⟩
    have B2 : Hid (Below w1.heap.size w1 w2) := b2
    obtain ⟨d0, d1, d2, d3, d4, d5, d6⟩ := HK.out w2 B2.out
    clear b2 c0 c1 c2 c3 c4 c5 c6
    go_wp2_with fail
    refine (HT.out w2).mono ?_
    rintro e w3 ⟨rfl, rfl⟩
    go_wp2_with fail
    refine (HN.out _).mono ?_
    rintro e w4 ⟨rfl, rfl⟩
    go_wp2
    go_ret
    exact ⟨by rw [HF.out]; first | rfl | simp_all, HB.out _ B2.out⟩
  · have HF : Hid (R = false) := by show _ = _; rw [HR.out]; simp [h4]
    have hd : decide ((body.size : Int) ≤ 2000) = false := decide_eq_false (by omega)
    go_wp2_with fail
    refine (HG.out w1).mono ?_
    rintro e w2 ⟨rfl, b2⟩
    have B2 : Hid (Below w1.heap.size w1 w2) := b2
    obtain ⟨d0, d1, d2, d3, d4, d5, d6⟩ := HK.out w2 B2.out
    clear b2 c0 c1 c2 c3 c4 c5 c6
    go_wp2_with fail
    refine (HT.out w2).mono ?_
    rintro e w3 ⟨rfl, rfl⟩
    go_wp2_with fail
    refine (HN.out _).mono ?_
    rintro e w4 ⟨rfl, rfl⟩
    go_wp2
    go_ret
    exact ⟨by rw [HF.out]; first | rfl | simp_all, HB.out _ B2.out⟩
end Go.Proofs.YtmegmcngcehneaaDoor
