/- impl.Base64, walked. impl.Base64Read, walked. errors.As at the target '*impl.byteFault', by its contracts: a nil error: false; an error that is a byteFault: true, and the target is set. After the guide's worked example. errors.As once more, with the world by what it keeps. errors.As with the world by what it keeps, beside the reading of a number. impl.GetNum at every argument. impl.copyText, walked. impl.readText, impl.GetText, walked. -/
import Derived.Test.YtjkmfjegphpjkaaGreatDoorJR15
import Derived.Test.YtjkmfjegphpjkaaGreatDoorJR14
import Derived.Test.YtjkmfjegphpjkaaGreatDoorJR04
import Derived.Test.YtjkmfjegphpjkaaGreatDoorJR05
import Derived.Test.YtjkmfjegphpjkaaGreatDoorRows
import Derived.WalkKit
import Derived.LaidEql
import Derived.Stop.Asserts
import Derived.RowKitTokens
import Derived.Test.YtjkmfjegphpjkaaGreatDoorJR01
import Derived.Below
namespace Go.Proofs.YtjkmfjegphpjkaaGreatDoor
open Go.RowKit Go.Lib

theorem conv_bts (W : World) (s : ByteArray) : ∃ (c : Nat) (W' : World), (convert 9 22 (.string s)).run Tryz.prog W = .ok (.slice (some ⟨W.heap.size, 0, none⟩) s.size c) W' ∧ IsBts W' (some ⟨W.heap.size, 0, none⟩) (bts s) ∧ Below W.heap.size W W' := by
  refine ⟨_, _, run_bytes_of_string W 9 22 5 s Tryz.underlying9 Tryz.underlying22 Tryz.underlying5, .inr ⟨W.heap.size, rfl, by show _ < (W.heap.push _).size; simp, fun i z hz => ?_⟩, (Below.refl _ W).drew.alloc (Nat.le_refl _) _⟩
  have hi : i < s.data.size := by
    have : i < (bts s).length := by
      rcases Nat.lt_or_ge i (bts s).length with h | h
      · exact h
      · rw [List.getElem?_eq_none h] at hz; cases hz
    rw [bts_len] at this
    exact this
  rw [cell_of_row _ W.heap.size i _ _ _ (heap_alloc_new W.drew _), bytesRow_at s _ i hi]
  simp only [bts, List.getElem?_map, Array.getElem?_toList, Array.getElem?_eq_getElem hi, Option.map_some, Option.some.injEq] at hz
  rw [← hz]
/-- The first k values are signs already. -/
def mixG (G : List Nat) (k : Nat) : List Int := (G.take k).map sg ++ (G.drop k).map (fun x : Nat => (x : Int))
theorem mixG_zero (G : List Nat) : mixG G 0 = G.map (fun x : Nat => (x : Int)) := by simp [mixG]
theorem mixG_all (G : List Nat) : mixG G G.length = G.map sg := by simp [mixG]
theorem mixG_len (G : List Nat) (k : Nat) : (mixG G k).length = G.length := by simp [mixG]; omega
theorem mixG_at (G : List Nat) {k z : Nat} (h : G[k]? = some z) : (mixG G k)[k]? = some (z : Int) := by
  have hk : k < G.length := by
    rcases Nat.lt_or_ge k G.length with h' | h'
    · exact h'
    · rw [List.getElem?_eq_none h'] at h; cases h
  have hl : ((G.take k).map sg).length = k := by simp; omega
  rw [mixG, List.getElem?_append_right (by omega), hl, Nat.sub_self, List.getElem?_map, List.getElem?_drop, Nat.add_zero, h]
  rfl
theorem mixG_set (G : List Nat) {k z : Nat} (h : G[k]? = some z) : (mixG G k).set k (sg z) = mixG G (k + 1) := by
  have hk : k < G.length := by
    rcases Nat.lt_or_ge k G.length with h' | h'
    · exact h'
    · rw [List.getElem?_eq_none h'] at h; cases h
  have hz : G[k] = z := by rw [List.getElem?_eq_getElem hk] at h; exact Option.some.inj h
  have hl : ((G.take k).map sg).length = k := by simp; omega
  rw [mixG, mixG, List.set_append_right _ _ (by omega), hl, Nat.sub_self, List.drop_eq_getElem_cons hk, List.map_cons, List.set_cons_zero, List.take_succ_eq_append_getElem hk, List.map_append, hz]
  simp
set_option linter.unusedSimpArgs false in
set_option maxHeartbeats 4000000 in
set_option maxRecDepth 100000 in
theorem implBase64 (s : ByteArray) (w : World) (hm : s.size ≤ maxLen) :
    Calls Tryz.prog 6 #[.string s] w fun e w' => e = .returned (.string (base64D s)) ∧ Below w.heap.size w w' := by
  unfold maxLen at hm
  by_cases h4 : 4000 < s.size
  · have HF : Hid (base64D s = ⟨#[]⟩) := by show _ = _; rw [base64D, if_pos h4]
    go_enter Tryz.func6, Tryz.ntmps6
    go_wp2
    go_ret
    exact ⟨by rw [HF.out]; rfl, Below.refl _ _⟩
  obtain ⟨i0, hi, hz0, hz1, hz2⟩ := info_parts infoByte
  obtain ⟨G, hG⟩ : ∃ G, G = b64 (bts s) := ⟨_, rfl⟩
  have HF : Hid (base64D s = strOfNums (G.map sg)) := by show _ = _; rw [base64D, if_neg h4, hG]; rfl
  have HGl : Hid (G.length ≤ 8000) := by show _ ≤ _; have := b64_len (bts s); rw [bts_len, ← hG] at this; omega
  have HGt : Hid (∀ y ∈ G, y < 64) := by show ∀ y ∈ G, _; rw [hG]; exact b64_lt _ (bts_lt s)
  have hr := b64_rgo (bts s)
  have HRg : Hid (∀ V a cap, IsBts V a (bts s) → Calls Tryz.prog 23 #[.slice a s.size cap, .int .i64 8, .int .i64 6] V fun e w' => ∃ v, e = .returned (.tuple #[v, .int .u8 (((rgo (bts s) 0 0).2.1 : Nat) : Int), .int .i64 (((rgo (bts s) 0 0).2.2 : Nat) : Int)]) ∧ OwnB w' V.heap.size v (rgo (bts s) 0 0).1 ∧ Below V.heap.size V w') := fun V a cap h => by
    have := implRegroup86 (bts s) a cap V (by rw [bts_len]; omega) (bts_lt s) h
    rw [bts_len] at this
    exact this
  obtain ⟨⟨R, RH, RC⟩, hR⟩ : ∃ R, R = rgo (bts s) 0 0 := ⟨_, rfl⟩
  rw [← hG, ← hR] at hr
  rw [← hR] at HRg
  simp only at hr HRg
  have HR : Hid (G = R ++ tailG (RH, RC)) := hr.1
  have HC : Hid (RC = 0 ∨ (RC = 2 ∧ RH < 4) ∨ (RC = 4 ∧ RH < 16)) := hr.2
  obtain ⟨c0, w1, hcv, hb1, hbb1⟩ := conv_bts w s
  have HB1 : Hid (Below w.heap.size w w1) := hbb1
  have HI1 : Hid _ := hb1
  clear hr hG hR hb1 hbb1
  go_enter Tryz.func6, Tryz.ntmps6
  go_wp2_with fail
  refine (HRg.out _ _ _ HI1.out).mono ?_
  rintro e w2 ⟨v, rfl, ho, b2⟩
  have HB2 : Hid (Below w.heap.size w w2) := HB1.out.trans (b2.mono HB1.out.size)
  have HO : Hid (OwnB w2 w1.heap.size v R) := ho
  have S1 : Hid (w.heap.size ≤ w1.heap.size ∧ w1.heap.size ≤ w2.heap.size) := ⟨HB1.out.size, b2.size⟩
  clear ho b2 hcv HI1 HRg HB1 h4 hm
  obtain ⟨va, vc, rfl, _⟩ := OwnB.form HO.out
  obtain ⟨ci, hci⟩ : ∃ ci : Int, ci = (RC : Int) := ⟨_, rfl⟩
  rw [← hci]
  go_upto_if 19 with fail
  go_cut [3, 4, 5] from 8 (fun s3 _ _ wx => OwnB wx w1.heap.size s3 G ∧ Below w.heap.size w wx)
  case first =>
    rcases HC.out with rfl | ⟨rfl, hh⟩ | ⟨rfl, hh⟩
    · obtain rfl : ci = 0 := hci
      have hG : G = R := by rw [HR.out]; simp [tailG]
      subst hG
      go_wp2_with fail
      go_meet
      case rel => exact ⟨HO.out, HB2.out⟩
    · obtain rfl : ci = 2 := hci
      obtain ⟨q, hq⟩ : ∃ q, q = RH * 16 := ⟨_, rfl⟩
      have hG : G = R ++ [q] := by rw [HR.out, hq]; simp [tailG]
      have sw : IntKind.u8.wrap ((RH : Int) * 16) = (q : Int) := by rw [IntKind.wrap_u8]; omega
      obtain ⟨pl, hpl⟩ : ∃ p, p = R.length := ⟨_, rfl⟩
      have HPl : Hid (pl = R.length) := hpl
      have hO : w2.ownsRow w1.heap.size 5 1 (.slice va pl vc) pl ((R.map (fun x : Nat => (x : Int))).map (Value.int .u8)) := by
        have h2 := HO.out
        unfold OwnB at h2
        rw [← hpl] at h2
        exact h2
      have hbd : pl + 1 ≤ 8000 := by
        have h1 := HGl.out
        rw [hG, List.length_append, ← hpl] at h1
        exact h1
      rw [← hpl]
      have HGG : Hid (G = R ++ [q]) := hG
      clear hpl hq hG
      go_wp2_with (at_builtin; refine wpList_append_own _ rfl _ _ 22 rfl w1.heap.size 5 i0 (.int .u8 0) 1 1 Tryz.underlying22 hi hz0 hz1 hz2 rfl (by decide) _ _ _ rfl (hO.alloc _) ⟨w2.heap.size, 0, none⟩ 1 1 [.int .u8 (q : Int)] rfl rfl (cells_one (by simp)) (by simp [Value.oneCell']) ?c3 ?c4 ?c5 ?_)
      case c3 => unfold maxLen; omega
      case c4 => omega
      case c5 => have := S1.out; simp; omega
      intro y w3 hown3 hgrow3 _
      have B3 : Hid (Below w.heap.size w w3) := (HB2.out.alloc (by have := S1.out; omega) _).grown hgrow3 (by have := S1.out; simp; omega) (fun j hj => by have := (hO.lt j hj).1; have := S1.out; omega)
      have O3 : Hid (OwnB w3 w1.heap.size y G) := by
        show World.ownsRow _ _ _ _ _ _ _
        rw [HGG.out, List.length_append, ← HPl.out]
        simpa [List.map_append] using hown3
      clear hgrow3 hown3 hO
      go_wp2
      go_meet
      case rel => exact ⟨O3.out, B3.out⟩
    · obtain rfl : ci = 4 := hci
      obtain ⟨q, hq⟩ : ∃ q, q = RH * 4 := ⟨_, rfl⟩
      have hG : G = R ++ [q] := by rw [HR.out, hq]; simp [tailG]
      have sw : IntKind.u8.wrap ((RH : Int) * 4) = (q : Int) := by rw [IntKind.wrap_u8]; omega
      obtain ⟨pl, hpl⟩ : ∃ p, p = R.length := ⟨_, rfl⟩
      have HPl : Hid (pl = R.length) := hpl
      have hO : w2.ownsRow w1.heap.size 5 1 (.slice va pl vc) pl ((R.map (fun x : Nat => (x : Int))).map (Value.int .u8)) := by
        have h2 := HO.out
        unfold OwnB at h2
        rw [← hpl] at h2
        exact h2
      have hbd : pl + 1 ≤ 8000 := by
        have h1 := HGl.out
        rw [hG, List.length_append, ← hpl] at h1
        exact h1
      rw [← hpl]
      have HGG : Hid (G = R ++ [q]) := hG
      clear hpl hq hG
      go_wp2_with (at_builtin; refine wpList_append_own _ rfl _ _ 22 rfl w1.heap.size 5 i0 (.int .u8 0) 1 1 Tryz.underlying22 hi hz0 hz1 hz2 rfl (by decide) _ _ _ rfl (hO.alloc _) ⟨w2.heap.size, 0, none⟩ 1 1 [.int .u8 (q : Int)] rfl rfl (cells_one (by simp)) (by simp [Value.oneCell']) ?d3 ?d4 ?d5 ?_)
      case d3 => unfold maxLen; omega
      case d4 => omega
      case d5 => have := S1.out; simp; omega
      intro y w3 hown3 hgrow3 _
      have B3 : Hid (Below w.heap.size w w3) := (HB2.out.alloc (by have := S1.out; omega) _).grown hgrow3 (by have := S1.out; simp; omega) (fun j hj => by have := (hO.lt j hj).1; have := S1.out; omega)
      have O3 : Hid (OwnB w3 w1.heap.size y G) := by
        show World.ownsRow _ _ _ _ _ _ _
        rw [HGG.out, List.length_append, ← HPl.out]
        simpa [List.map_append] using hown3
      clear hgrow3 hown3 hO
      go_wp2
      go_meet
      case rel => exact ⟨O3.out, B3.out⟩
  obtain ⟨ho, hb⟩ := hcut
  have B3 : Hid (Below w.heap.size w wc) := hb
  have O3 : Hid (OwnB wc w1.heap.size u3 G) := ho
  clear ho hb HO HB2 HC HR
  obtain ⟨ga, gc, rfl, hgc⟩ := OwnB.form O3.out
  obtain ⟨n, hn⟩ : ∃ n, n = G.length := ⟨_, rfl⟩
  rw [← hn] at O3 ⊢
  have HN : Hid (n = G.length) := hn
  clear hn hgc
  have hn5 : n ≤ 8000 := by rw [HN.out]; exact HGl.out
  go_wp2_with fail
  go_loopw [29] (fun i wr => ∃ (k : Nat), i = .int .i64 k ∧ k ≤ n ∧ wr.ownsRow w1.heap.size 5 1 (.slice ga n gc) n ((mixG G k).map (Value.int .u8)) ∧ Below w.heap.size w wr)
    (fun i _ => n - (RowKit.intOf i).toNat)
  case atStart =>
    refine ⟨0, rfl, Nat.zero_le _, ?_, B3.out⟩
    have h2 := O3.out
    unfold OwnB at h2
    rw [← HN.out] at h2
    rw [mixG_zero]
    exact h2
  case round =>
    obtain ⟨k, rfl, hk, hown, hbel⟩ := hrel
    by_cases hlt : k < n
    rotate_left
    · obtain rfl : k = n := by omega
      have q2 : ¬ (k : Int) < (k : Int) := by omega
      have hx : mixG G k = G.map sg := by rw [HN.out]; exact mixG_all G
      rw [hx] at hown
      have hcv := run_convert_own (P := Tryz.prog) (src := 22) (dst := 9) Tryz.underlying22 Tryz.underlying5 Tryz.underlying9 hown
      have HBl : Hid (Below w.heap.size w wr) := hbel
      clear hown hbel hx hlt hk O3 B3
      go_wp2
      go_ret
      exact ⟨by rw [HF.out]; rfl, HBl.out⟩
    have hkG : k < G.length := by have := HN.out; omega
    obtain ⟨z, hz⟩ : ∃ z, G[k]? = some z := ⟨G[k], List.getElem?_eq_getElem hkG⟩
    have hzl : z < 64 := HGt.out z (List.mem_of_getElem? hz)
    obtain ⟨g, rfl⟩ : ∃ g, ga = some ⟨g, 0, none⟩ := by
      rcases hown.2 with ⟨_, h⟩ | ⟨g, _, _, e, _⟩
      · omega
      · simp only [Value.slice.injEq] at e
        exact ⟨g, e.1⟩
    have hcell : wr.cell? ⟨g, k, none⟩ = some (.int .u8 (z : Int)) := by
      rw [hown.cellAt k (by omega), List.getElem?_map, mixG_at G hz]
      rfl
    have hfr := hown.frozenAt k
    have hst := hown.stored k (.int .u8 (sg z))
    have hge : w.heap.size ≤ g := by
      have := (hown.lt g rfl).1
      have := S1.out.1
      omega
    have HW : Hid ((wr.setCell ⟨g, k, none⟩ (.int .u8 (sg z))).ownsRow w1.heap.size 5 1 (.slice (some ⟨g, 0, none⟩) n gc) n ((mixG G (k + 1)).map (Value.int .u8))) := by
      have h2 := hst.1
      rw [← mixG_set G hz, List.map_set]
      exact h2
    have HBl : Hid (Below w.heap.size w (wr.setCell ⟨g, k, none⟩ (.int .u8 (sg z)))) := hbel.setCell hge _
    have q1 : (0 : Int) ≤ (k : Int) := Int.natCast_nonneg _
    have q2 : (k : Int) < (n : Int) := by omega
    have e1 := idxSg8 z hzl
    clear hown hst hbel hz hkG hge O3 B3
    go_wp2
    go_roundw
    case rel => exact ⟨k + 1, by go_num, by omega, HW.out, HBl.out⟩
    case measure => simp [RowKit.intOf]; omega
end Go.Proofs.YtjkmfjegphpjkaaGreatDoor
namespace Go.Proofs.YtjkmfjegphpjkaaGreatDoor
open Go.RowKit Go.Lib

set_option linter.unusedSimpArgs false in
set_option maxHeartbeats 4000000 in
set_option maxRecDepth 100000 in
theorem implBase64Read (s : ByteArray) (w : World) (hm : s.size ≤ maxLen) :
    Calls Tryz.prog 8 #[.string s] w fun e w' => e = .returned (txtV (readTD s)) ∧ Below w.heap.size w w' := by
  obtain ⟨w1, hw1⟩ : ∃ y, y = w.alloc (.cells #[.string ⟨#[]⟩, .int .i64 0, .int .i64 0] 26 (0, 0)) := ⟨_, rfl⟩
  have hz : w1.heap.size = w.heap.size + 1 := by rw [hw1]; simp
  have hg1 : w1.heap[w.heap.size]? = some (.cells [Value.string ⟨#[]⟩, .int .i64 0, .int .i64 0].toArray 26 (0, 0)) := by rw [hw1]; exact heap_alloc_new w _
  have hB1 : Below w.heap.size w w1 := by rw [hw1]; exact (Below.refl _ w).alloc (Nat.le_refl _) _
  have HB : Hid (∀ V, Below w1.heap.size w1 V → Below w.heap.size w V) := fun V hV => hB1.trans (hV.mono (by omega))
  have HRes : Hid (∀ V, Below w1.heap.size w1 V → V.heap[w.heap.size]? = some (.cells [Value.string ⟨#[]⟩, .int .i64 0, .int .i64 0].toArray 26 (0, 0))) := fun V hV => by rw [hV.block _ (by omega)]; exact hg1
  have I1 : Hid (Below w1.heap.size w1 w1) := Below.refl _ _
  have Z1 : Hid (w1.heap.size = w.heap.size + 1) := hz
  clear hg1 hB1 hz
  have HLg : Hid (∀ V, Calls Tryz.prog 25 #[.string s] V fun e w' => e = .returned (.bool (decide (20000 < s.size))) ∧ w' = V) := fun V => tooLong s V hm
  by_cases hl : 20000 < s.size
  · have HF : Hid (readTD s = (⟨#[]⟩, 2)) := by show _ = _; rw [readTD, if_pos hl]
    rw [decide_eq_true hl] at HLg
    clear hl
    go_enter Tryz.func8, Tryz.ntmps8
    go_wp2_with fail
    rw [← hw1]
    refine (HLg.out w1).mono ?_
    rintro e w2 ⟨rfl, rfl⟩
    clear hw1
    go_wp2_with (refine wpList_store_row rfl 26 _ _ rfl (w.heap.size) _ [Value.string ⟨#[]⟩, .int .i64 0, .int .i64 2] 26 rfl rfl (HRes.out _ I1.out) rfl sizeTextOut (by simp [Value.oneCell']) ?_)
    intro w8 hrow ho hs8 hbb
    have HROW : Hid _ := hrow
    have HB8 : Hid (Below w.heap.size w w8) := hbb _ _ (Nat.le_refl _) (HB.out _ I1.out)
    clear ho hs8 hbb hrow
    go_wp2
    refine bodyPost_ret (v := .agg [Value.string ⟨#[]⟩, .int .i64 0, .int .i64 2].toArray) ?_ rfl ⟨by rw [HF.out]; rfl, HB8.out⟩
    have hl3 := run_loadVar_mid (P := Tryz.prog) _ (w.heap.size) 0 26 _ _ (rangeRow HROW.out) Tryz.underlying26 rfl sizeTextOut
    simp [results, Tryz.results8, asAddr, hl3]
  rw [decide_eq_false hl] at HLg
  have HS : Hid (∀ V, Calls Tryz.prog 26 #[.string s] V fun e w' => ∃ v, e = .returned (.tuple #[v, .bool (readV (bts s)).isSome]) ∧ OwnB w' V.heap.size v ((readV (bts s)).getD []) ∧ Below V.heap.size V w') := fun V => implReadSigns s V (by omega)
  have hE : readTD s = match readV (bts s) with
    | none => (⟨#[]⟩, 3)
    | some vs => if base64D (natT (rgi vs 0 0).1) = s then (natT (rgi vs 0 0).1, 0) else (⟨#[]⟩, 3) := by
    rw [readTD, if_neg hl]
    cases readV (bts s) <;> rfl
  cases hv : readV (bts s) with
  | none =>
    have HF : Hid (readTD s = (⟨#[]⟩, 3)) := by show _ = _; rw [hE, hv]
    rw [hv] at HS
    clear hE hv hl
    go_enter Tryz.func8, Tryz.ntmps8
    go_wp2_with fail
    rw [← hw1]
    refine (HLg.out w1).mono ?_
    rintro e w2 ⟨rfl, rfl⟩
    clear hw1
    go_wp2_with fail
    refine (HS.out _).mono ?_
    rintro e w3 ⟨v, rfl, o3, b3⟩
    have K3 : Hid (Below w2.heap.size w2 w3) := b3
    clear b3 o3
    go_wp2_with (refine wpList_store_row rfl 26 _ _ rfl (w.heap.size) _ [Value.string ⟨#[]⟩, .int .i64 0, .int .i64 3] 26 rfl rfl (HRes.out _ K3.out) rfl sizeTextOut (by simp [Value.oneCell']) ?_)
    intro w8 hrow ho hs8 hbb
    have HROW : Hid _ := hrow
    have HB8 : Hid (Below w.heap.size w w8) := hbb _ _ (Nat.le_refl _) (HB.out _ K3.out)
    clear ho hs8 hbb hrow
    go_wp2
    refine bodyPost_ret (v := .agg [Value.string ⟨#[]⟩, .int .i64 0, .int .i64 3].toArray) ?_ rfl ⟨by rw [HF.out]; rfl, HB8.out⟩
    have hl3 := run_loadVar_mid (P := Tryz.prog) _ (w.heap.size) 0 26 _ _ (rangeRow HROW.out) Tryz.underlying26 rfl sizeTextOut
    simp [results, Tryz.results8, asAddr, hl3]
  | some vs =>
  rw [hv] at HS hE
  simp only at hE
  have hvl := readV_len _ _ hv
  rw [bts_len] at hvl
  have hv64 := readV_lt _ _ hv
  have HRg : Hid (∀ V a cap, IsBts V a vs → Calls Tryz.prog 23 #[.slice a vs.length cap, .int .i64 6, .int .i64 8] V fun e w' => ∃ v, e = .returned (.tuple #[v, .int .u8 (((rgi vs 0 0).2.1 : Nat) : Int), .int .i64 (((rgi vs 0 0).2.2 : Nat) : Int)]) ∧ OwnB w' V.heap.size v (rgi vs 0 0).1 ∧ Below V.heap.size V w') := fun V a cap h => implRegroup68 vs a cap V (by omega) hv64 h
  have hrl := rgi_len vs 0 0
  obtain ⟨⟨R, RH, RC⟩, hR⟩ : ∃ R, R = rgi vs 0 0 := ⟨_, rfl⟩
  rw [← hR] at HRg hE hrl
  simp only at HRg hE hrl
  have HBa : Hid (∀ V, Calls Tryz.prog 6 #[.string (natT R)] V fun e w' => e = .returned (.string (base64D (natT R))) ∧ Below V.heap.size V w') := fun V => implBase64 (natT R) V (by rw [natT_size]; unfold maxLen; omega)
  have HE : Hid (readTD s = if base64D (natT R) = s then (natT R, 0) else (⟨#[]⟩, 3)) := hE
  clear hE hv hl hvl hv64 hR hrl hm
  go_enter Tryz.func8, Tryz.ntmps8
  go_wp2_with fail
  rw [← hw1]
  refine (HLg.out w1).mono ?_
  rintro e w2 ⟨rfl, rfl⟩
  clear hw1
  go_wp2_with fail
  refine (HS.out _).mono ?_
  rintro e w3 ⟨v, rfl, o3, b3⟩
  have K3 : Hid (Below w2.heap.size w2 w3) := b3
  have O3 : Hid (OwnB w3 w2.heap.size v vs) := o3
  clear b3 o3 HS HLg
  obtain ⟨va, vc, rfl, _⟩ := OwnB.form O3.out
  go_wp2_with fail
  refine (HRg.out w3 va vc O3.out.bts).mono ?_
  rintro e w4 ⟨y, rfl, o4, b4⟩
  have K4 : Hid (Below w2.heap.size w2 w4) := K3.out.trans (b4.mono K3.out.size)
  have hcv := run_convert_own (P := Tryz.prog) (src := 22) (dst := 9) Tryz.underlying22 Tryz.underlying5 Tryz.underlying9 o4
  have hnt : strOfNums (R.map fun x : Nat => (x : Int)) = natT R := rfl
  rw [hnt] at hcv
  clear b4 o4 O3 K3 HRg hnt
  generalize natT R = N at *
  go_wp2_with fail
  refine (HBa.out w4).mono ?_
  rintro e w5 ⟨rfl, b5⟩
  have K5 : Hid (Below w2.heap.size w2 w5) := K4.out.trans (b5.mono K4.out.size)
  clear b5 K4 HBa hcv
  generalize base64D N = BT at *
  by_cases hY : BT = s
  rotate_left
  · have HF : Hid (readTD s = (⟨#[]⟩, 3)) := by show _ = _; rw [HE.out, if_neg hY]
    have e1 : (BT.toList == s.toList) = false := by rw [same_text', decide_eq_false hY]
    have e2 : (BT.toList != s.toList) = true := by rw [bne, e1]; rfl
    go_wp2_with (refine wpList_store_row rfl 26 _ _ rfl (w.heap.size) _ [Value.string ⟨#[]⟩, .int .i64 0, .int .i64 3] 26 rfl rfl (HRes.out _ K5.out) rfl sizeTextOut (by simp [Value.oneCell']) ?_)
    intro w8 hrow ho hs8 hbb
    have HROW : Hid _ := hrow
    have HB8 : Hid (Below w.heap.size w w8) := hbb _ _ (Nat.le_refl _) (HB.out _ K5.out)
    clear ho hs8 hbb hrow
    go_wp2
    refine bodyPost_ret (v := .agg [Value.string ⟨#[]⟩, .int .i64 0, .int .i64 3].toArray) ?_ rfl ⟨by rw [HF.out]; rfl, HB8.out⟩
    have hl3 := run_loadVar_mid (P := Tryz.prog) _ (w.heap.size) 0 26 _ _ (rangeRow HROW.out) Tryz.underlying26 rfl sizeTextOut
    simp [results, Tryz.results8, asAddr, hl3]
  have HF : Hid (readTD s = (N, 0)) := by show _ = _; rw [HE.out, if_pos hY]
  have e2 : (BT.toList != s.toList) = false := by rw [bne, same_text', decide_eq_true hY]; rfl
  go_wp2_with (refine wpList_store_row rfl 26 _ _ rfl (w.heap.size) _ [Value.string N, .int .i64 0, .int .i64 0] 26 rfl rfl (HRes.out _ K5.out) rfl sizeTextOut (by simp [Value.oneCell']) ?_)
  intro w8 hrow ho hs8 hbb
  have HROW : Hid _ := hrow
  have HB8 : Hid (Below w.heap.size w w8) := hbb _ _ (Nat.le_refl _) (HB.out _ K5.out)
  clear ho hs8 hbb hrow
  go_wp2
  refine bodyPost_ret (v := .agg [Value.string N, .int .i64 0, .int .i64 0].toArray) ?_ rfl ⟨by rw [HF.out]; rfl, HB8.out⟩
  have hl3 := run_loadVar_mid (P := Tryz.prog) _ (w.heap.size) 0 26 _ _ (rangeRow HROW.out) Tryz.underlying26 rfl sizeTextOut
  simp [results, Tryz.results8, asAddr, hl3]
end Go.Proofs.YtjkmfjegphpjkaaGreatDoor
namespace Go.Proofs.YtjkmfjegphpjkaaGreatDoor
open Go.RowKit Go.Extern.Stop Go.Stop Go.Extern

theorem as_nil (t : Value) (w : World) :
    Calls Tryz.prog 92 #[.nilIface, t] w fun e w' => e = .returned (.bool false) ∧ w' = w := by
  go_enter Tryz.func92, Tryz.ntmps92
  go_wp2
  go_ret
  exact ⟨rfl, rfl⟩

theorem valueOfP (t : Addr) (w : World) : (ReflectliteValue.unpack (.iface 105 (.pointer (some t)))).run Tryz.prog w
    = .ok (.agg #[.pointer (some ⟨5, 105, none⟩), .pointer (some ⟨w.heap.size, 0, none⟩), .int .u64 150]) (w.alloc (.cells #[.pointer (some t)] 105)) := by kernel_rfl
theorem typeP (a : Addr) (w : World) : (ReflectliteValue.methodAny (ReflectliteValue.valueError "reflectlite.Value.Type" 0) (fun t _ _ _ => ReflectliteType.toType t) #[.agg #[.pointer (some ⟨5, 105, none⟩), .pointer (some a), .int .u64 150]]).run Tryz.prog w
    = .ok (.iface 147 (.agg #[.pointer (some ⟨5, 105, none⟩)])) w := by kernel_rfl
theorem methodKind (h : Value) (w : World) : (Go.method 300 147 (.agg #[h]) "Kind").run Tryz.prog w = .ok (154, h) w := by kernel_rfl
theorem kindP (w : World) : ((ReflectliteType.abiMethod fun t => (fun a : Nat => Value.int IntKind.u8 (a : Int)) <$> Rtype.kind t) #[.pointer (some ⟨5, 105, none⟩)]).run Tryz.prog w = .ok (.int .u8 22) w := by kernel_rfl
theorem kindS (w : World) : ((ReflectliteType.abiMethod fun t => (fun a : Nat => Value.int IntKind.u8 (a : Int)) <$> Rtype.kind t) #[.pointer (some ⟨5, 103, none⟩)]).run Tryz.prog w = .ok (.int .u8 25) w := by kernel_rfl
theorem partsP (a : Addr) (w : World) : (ReflectliteValue.parts (.agg #[.pointer (some ⟨5, 105, none⟩), .pointer (some a), .int .u64 150])).run Tryz.prog w = .ok (some (105, a, 150)) w := by kernel_rfl
theorem isNilP (a p : Addr) (W : World) (ha : W.cell? a = some (.pointer (some p))) :
    (ReflectliteValue.method (ReflectliteValue.valueError "reflectlite.Value.IsNil" 0) ReflectliteValue.isNil #[.agg #[.pointer (some ⟨5, 105, none⟩), .pointer (some a), .int .u64 150]]).run Tryz.prog W = .ok (.bool false) W := by
  unfold ReflectliteValue.method ReflectliteValue.method.match_2
  simp [Array.getLit, partsP, ReflectliteValue.isNil, loadVar, isAgg, underlying, Tryz.underlying105, ha, Result.andThen]
theorem methodElem (h : Value) (w : World) : (Go.method 300 147 (.agg #[h]) "Elem").run Tryz.prog w = .ok (164, .agg #[h]) w := by kernel_rfl
theorem methodImplements (h : Value) (w : World) : (Go.method 300 147 (.agg #[h]) "Implements").run Tryz.prog w = .ok (165, .agg #[h]) w := by kernel_rfl
theorem methodAssignableTo (h : Value) (w : World) : (Go.method 300 147 (.agg #[h]) "AssignableTo").run Tryz.prog w = .ok (162, .agg #[h]) w := by kernel_rfl
theorem elemP (w : World) : (ReflectliteType.method ReflectliteType.elem #[.agg #[.pointer (some ⟨5, 105, none⟩)]]).run Tryz.prog w = .ok (.iface 147 (.agg #[.pointer (some ⟨5, 103, none⟩)])) w := by kernel_rfl
theorem implementsS (w : World) : (ReflectliteType.relation "Implements" ReflectliteType.implements_ #[.agg #[.pointer (some ⟨5, 103, none⟩)], .iface 147 (.agg #[.pointer (some ⟨5, 99, none⟩)])]).run Tryz.prog w = .ok (.bool true) w := by kernel_rfl
theorem typeOfS (v : Value) (w : World) : (ReflectliteType.typeOf #[.iface 103 v]).run Tryz.prog w = .ok (.iface 147 (.agg #[.pointer (some ⟨5, 103, none⟩)])) w := by kernel_rfl
theorem assignableS (w : World) : (ReflectliteType.relation "AssignableTo" ReflectliteType.assignableTo #[.agg #[.pointer (some ⟨5, 103, none⟩)], .iface 147 (.agg #[.pointer (some ⟨5, 103, none⟩)])]).run Tryz.prog w = .ok (.bool true) w := by kernel_rfl
theorem valueOfS (c : Int) (w : World) : (ReflectliteValue.unpack (.iface 103 (.agg #[.int .i64 c]))).run Tryz.prog w
    = .ok (.agg #[.pointer (some ⟨5, 103, none⟩), .pointer (some ⟨w.heap.size, 0, none⟩), .int .u64 153]) (w.alloc (.cells #[.int .i64 c] 103)) := by kernel_rfl
theorem elemOfP (w : World) : (Rtype.elem? 105).run Tryz.prog w = .ok (some 103) w := by kernel_rfl
theorem mkS (p : Addr) (w : World) : (ReflectliteValue.mk 103 p ReflectliteValue.flagAddr).run Tryz.prog w = .ok (.agg #[.pointer (some ⟨5, 103, none⟩), .pointer (some p), .int .u64 409]) w := by kernel_rfl
theorem elemVP (a p : Addr) (W : World) (ha : W.cell? a = some (.pointer (some p))) :
    (ReflectliteValue.method (ReflectliteValue.valueError "reflectlite.Value.Elem" 0) ReflectliteValue.elem #[.agg #[.pointer (some ⟨5, 105, none⟩), .pointer (some a), .int .u64 150]]).run Tryz.prog W
      = .ok (.agg #[.pointer (some ⟨5, 103, none⟩), .pointer (some p), .int .u64 409]) W := by
  unfold ReflectliteValue.method ReflectliteValue.method.match_2
  simp [Array.getLit, partsP, ReflectliteValue.elem, loadVar, isAgg, underlying, Tryz.underlying105, ha, Result.andThen, elemOfP, mkS]
theorem partsSa (a : Addr) (w : World) : (ReflectliteValue.parts (.agg #[.pointer (some ⟨5, 103, none⟩), .pointer (some a), .int .u64 409])).run Tryz.prog w = .ok (some (103, a, 409)) w := by kernel_rfl
theorem partsS (a : Addr) (w : World) : (ReflectliteValue.parts (.agg #[.pointer (some ⟨5, 103, none⟩), .pointer (some a), .int .u64 153])).run Tryz.prog w = .ok (some (103, a, 153)) w := by kernel_rfl
theorem directS (w : World) : (Rtype.directlyAssignable 103 103).run Tryz.prog w = .ok true w := by kernel_rfl
theorem sizeS (w : World) : (sizeOf 103).run Tryz.prog w = .ok 1 w := by kernel_rfl
theorem setS (ta b : Addr) (c : Int) (old : Value) (W : World) (hb : W.cell? b = some (.int .i64 c)) (ht : W.cell? ta = some old) (hf : W.frozen? ta = false) :
    (ReflectliteValue.set #[.agg #[.pointer (some ⟨5, 103, none⟩), .pointer (some ta), .int .u64 409], .agg #[.pointer (some ⟨5, 103, none⟩), .pointer (some b), .int .u64 153]]).run Tryz.prog W
      = .ok (.tuple #[]) (W.setCell ta (.int .i64 c)) := by
  have hl : (loadCells b 1).run Tryz.prog W = .ok #[.int .i64 c] W := by
    have := run_loadCells_list (P := Tryz.prog) W b [.int .i64 c] (fun j v hj => by
      match j, hj with
      | 0, hj => simp at hj; subst hj; simpa [Addr.add] using hb)
    simpa using this
  unfold ReflectliteValue.set ReflectliteValue.set.match_3
  simp [Array.getLit, partsSa, partsS, ReflectliteValue.flagAddr, loadVar, isAgg, underlying, Tryz.underlying103, Result.andThen, directS, storeVar, Value.cells, hl, storeCells, Addr.add]
  rw [run_store Tryz.prog W ta _ _ (by rfl)]
  simp [ht, hf]
def asBox (n : Nat) : Obj := .cells #[.pointer (some ⟨5, 105, none⟩), .pointer (some ⟨n, 0, none⟩), .int .u64 150] 128
def asW (t : Addr) (c : Int) (w : World) : World := (((w.alloc (.cells #[.pointer (some t)] 105)).alloc (asBox w.heap.size)).alloc (asBox w.heap.size)).alloc (.cells #[.int .i64 c] 103)
set_option maxHeartbeats 4000000 in
set_option maxRecDepth 100000 in
theorem as_hit (t : Addr) (c : Int) (old : Value) (w : World) (hg : w.cell? ⟨0, 0, none⟩ = some (.iface 147 (.agg #[.pointer (some ⟨5, 99, none⟩)]))) (ht0 : w.cell? t = some old) (hf0 : w.frozen? t = false) :
    Calls Tryz.prog 92 #[.iface 103 (.agg #[.int .i64 c]), .iface 105 (.pointer (some t))] w fun ev w' => ev = .returned (.bool true) ∧ w' = (asW t c w).setCell t (.int .i64 c) := by
  have hVO := @run_callFunc_extern Tryz.prog 109 _ (fun args => ReflectliteValue.unpack (args.getD 0 (.tuple #[]))) Tryz.func109 (by kernel_rfl) (by kernel_rfl) (by kernel_rfl) (by kernel_rfl)
  have hVT := @run_callFunc_extern Tryz.prog 110 _ (ReflectliteValue.methodAny (ReflectliteValue.valueError "reflectlite.Value.Type" 0) (fun t _ _ _ => ReflectliteType.toType t)) Tryz.func110 (by kernel_rfl) (by kernel_rfl) (by kernel_rfl) (by kernel_rfl)
  have hVN := @run_callFunc_extern Tryz.prog 111 _ (ReflectliteValue.method (ReflectliteValue.valueError "reflectlite.Value.IsNil" 0) ReflectliteValue.isNil) Tryz.func111 (by kernel_rfl) (by kernel_rfl) (by kernel_rfl) (by kernel_rfl)
  have hK := @run_callFunc_extern Tryz.prog 154 _ (ReflectliteType.abiMethod fun t => do pure (.int .u8 (← Rtype.kind t))) Tryz.func154 (by kernel_rfl) (by kernel_rfl) (by kernel_rfl) (by kernel_rfl)
  have hTE := @run_callFunc_extern Tryz.prog 164 _ (ReflectliteType.method ReflectliteType.elem) Tryz.func164 (by kernel_rfl) (by kernel_rfl) (by kernel_rfl) (by kernel_rfl)
  have hTI := @run_callFunc_extern Tryz.prog 165 _ (ReflectliteType.relation "Implements" ReflectliteType.implements_) Tryz.func165 (by kernel_rfl) (by kernel_rfl) (by kernel_rfl) (by kernel_rfl)
  have hTO := @run_callFunc_extern Tryz.prog 126 _ ReflectliteType.typeOf Tryz.func126 (by kernel_rfl) (by kernel_rfl) (by kernel_rfl) (by kernel_rfl)
  have hTA := @run_callFunc_extern Tryz.prog 162 _ (ReflectliteType.relation "AssignableTo" ReflectliteType.assignableTo) Tryz.func162 (by kernel_rfl) (by kernel_rfl) (by kernel_rfl) (by kernel_rfl)
  have hVE := @run_callFunc_extern Tryz.prog 127 _ (ReflectliteValue.method (ReflectliteValue.valueError "reflectlite.Value.Elem" 0) ReflectliteValue.elem) Tryz.func127 (by kernel_rfl) (by kernel_rfl) (by kernel_rfl) (by kernel_rfl)
  have hVS := @run_callFunc_extern Tryz.prog 128 _ ReflectliteValue.set Tryz.func128 (by kernel_rfl) (by kernel_rfl) (by kernel_rfl) (by kernel_rfl)
  have x1 := typeOfS
  have x2 := methodAssignableTo
  have x3 := assignableS
  have x4 := valueOfS
  have x5 := valueOfP
  have x6 := typeP
  have x7 := methodKind
  have x8 := methodElem
  have x9 := methodImplements
  have x10 := kindP
  have x11 := kindS
  have x12 := elemP
  have x13 := implementsS
  have n8 := isNilP ⟨w.heap.size, 0, none⟩ t ((w.alloc (.cells #[.pointer (some t)] 105)).alloc (asBox w.heap.size)) (by simp [asBox])
  have hlt : 0 < w.heap.size := World.block_lt_of_cell? w _ hg
  have hg2 : ((w.alloc (.cells #[.pointer (some t)] 105)).alloc (asBox w.heap.size)).cell? ⟨0, 0, none⟩ = some (.iface 147 (.agg #[.pointer (some ⟨5, 99, none⟩)])) := by
    rw [World.cell?_alloc_lt _ _ ⟨0, 0, none⟩ (by simp <;> omega), World.cell?_alloc_lt _ _ ⟨0, 0, none⟩ hlt]; exact hg
  have htl : t.block < w.heap.size := by
    rcases Nat.lt_or_ge t.block w.heap.size with h | h
    · exact h
    · simp [World.cell?, Array.getElem?_eq_none h] at ht0
  have el := elemVP ⟨w.heap.size, 0, none⟩ t (((w.alloc (.cells #[.pointer (some t)] 105)).alloc (asBox w.heap.size)).alloc (asBox w.heap.size)) (by rw [World.cell?_alloc_lt _ _ ⟨w.heap.size, 0, none⟩ (by simp <;> omega)]; simp [asBox])
  have st := setS t ⟨w.heap.size + 1 + 1 + 1, 0, none⟩ c old (asW t c w)
    (by unfold asW; rw [World.cell?_alloc_at _ _ _ _ (by simp)]; rfl)
    (by unfold asW; rw [World.cell?_alloc_lt _ _ t (by simp <;> omega), World.cell?_alloc_lt _ _ t (by simp <;> omega), World.cell?_alloc_lt _ _ t (by simp <;> omega), World.cell?_alloc_lt _ _ t htl]; exact ht0)
    (by unfold asW; rw [World.frozen?_alloc_old _ _ t (by simp <;> omega), World.frozen?_alloc_old _ _ t (by simp <;> omega), World.frozen?_alloc_old _ _ t (by simp <;> omega), World.frozen?_alloc_old _ _ t (Nat.ne_of_lt htl)]; exact hf0)
  unfold asW at st ⊢
  unfold asBox at *
  go_enter Tryz.func92, Tryz.ntmps92
  go_wp2
  refine wp_loop_rounds 1 ?_
  rw [rounds_succ]
  go_wp2
  go_ret
  exact ⟨rfl, rfl⟩
end Go.Proofs.YtjkmfjegphpjkaaGreatDoor
namespace Go.Proofs.YtjkmfjegphpjkaaGreatDoor
open Go.RowKit Go.Lib

def ErrType (w : World) : Prop := w.cell? ⟨0, 0, none⟩ = some (.iface 147 (.agg #[.pointer (some ⟨5, 99, none⟩)]))
theorem ErrType.pos {w : World} (h : ErrType w) : 0 < w.heap.size := World.block_lt_of_cell? w _ h
theorem ErrType.below {w w' : World} {B : Nat} (h : ErrType w) (hb : Below B w w') (hB : 0 < B) : ErrType w' := by
  unfold ErrType at *
  rw [hb.cell hB]; exact h
theorem below_asW (t : Addr) (c : Int) (w : World) : Below w.heap.size w (asW t c w) := by
  unfold asW
  exact ((((Below.refl _ _).alloc (Nat.le_refl _) _).alloc (by simp) _).alloc (by simp; omega) _).alloc (by simp; omega) _
theorem size_asW (t : Addr) (c : Int) (w : World) : (asW t c w).heap.size = w.heap.size + 4 := by
  unfold asW
  simp

theorem as_hit2 (t : Addr) (c : Int) (old : Value) (w : World) (hg : ErrType w) (ht0 : w.cell? t = some old) (hf0 : w.frozen? t = false) :
    Calls Tryz.prog 92 #[.iface 103 (.agg #[.int .i64 c]), .iface 105 (.pointer (some t))] w fun ev w' =>
      ev = .returned (.bool true) ∧ w'.cell? t = some (.int .i64 c) ∧ Below t.block w w' := by
  have htl := World.block_lt_of_cell? w t ht0
  refine (as_hit t c old w hg ht0 hf0).mono ?_
  rintro e w' ⟨rfl, rfl⟩
  have hb := below_asW t c w
  refine ⟨rfl, World.cell?_setCell_same _ _ _ ((hb.cell htl).trans ht0), (hb.mono (Nat.le_of_lt htl)).setCell (Nat.le_refl _) _⟩

end Go.Proofs.YtjkmfjegphpjkaaGreatDoor
namespace Go.Proofs.YtjkmfjegphpjkaaGreatDoor
end Go.Proofs.YtjkmfjegphpjkaaGreatDoor
namespace Go.Proofs.YtjkmfjegphpjkaaGreatDoor
open Go.RowKit Go.Lib

set_option maxHeartbeats 2000000 in
set_option maxRecDepth 100000 in
theorem implGet (s : ByteArray) (p : Int) (w : World) (hs : s.size ≤ maxLen) (hp0 : -9223372036854775808 ≤ p) (hp1 : p ≤ 9223372036854775807) (hg : ErrType w) :
    Calls Tryz.prog 68 #[.string s, .int .i64 p] w fun e w' => e = .returned (numV (numAt s p)) ∧ Below w.heap.size w w' := by
  have hread := fun W => readNum s p W hs hp0 hp1
  generalize numAt s p = R at *
  have HR : Hid (∀ W, Calls Tryz.prog 91 #[.string s, .int .i64 p] W fun e w' => ReadOk R e ∧ w' = W) := hread
  have HG : Hid (ErrType w) := hg
  have hpos := hg.pos
  clear hread hg
  go_enter Tryz.func68, Tryz.ntmps68
  go_wp2_with fail
  refine (HR.out _).mono ?_
  rintro e w' ⟨hb, rfl⟩
  rcases hb with ⟨hc, rfl⟩ | ⟨hc, hR, n, rfl⟩
  · have HC : Hid (R.code = 0) := hc
    clear hc
    go_wp2_with fail
    refine (as_nil _ _).mono ?_
    rintro e w' ⟨rfl, rfl⟩
    go_wp2
    refine bodyPost_ret (v := .agg #[.int .i64 R.n, .int .i64 R.at', .int .i64 0]) (by simp [results, Tryz.results68, go_sem]) rfl ⟨?_, ?_⟩
    · rw [numV, HC.out]
    · repeat (first | exact Below.refl _ _ | refine Below.setCell ?_ (by simp) _ | refine Below.alloc ?_ (by simp) _)
  · have HC : Hid (R = .bad R.code) := hR
    generalize hcc : R.code = c at *
    have HCC : Hid (R.code = c) := hcc
    clear hc hR hcc
    have HG2 : Hid (∀ o1 o2, ErrType ((w.alloc o1).alloc o2)) := fun o1 o2 => HG.out.below (((Below.refl _ _).alloc (Nat.le_refl _) o1).alloc (by simp) o2) hpos
    go_wp2_with fail
    refine (as_hit2 ⟨w.heap.size + 1, 0, none⟩ c (.int .i64 0) _ (HG2.out _ _) (by simp) (by simp)).mono ?_
    rintro e w1 ⟨rfl, ht, hb⟩
    have hB : Below (w.heap.size + 1) ((w.alloc (Obj.cells #[Value.int IntKind.i64 0, Value.int IntKind.i64 0, Value.int IntKind.i64 0] 82)).alloc (Obj.cells #[Value.int IntKind.i64 0] 103)) w1 := hb
    have c0 : w1.cell? ⟨w.heap.size, 0, none⟩ = some (.int .i64 0) := (hB.cell (by simp)).trans (by simp)
    have c1 : w1.cell? ⟨w.heap.size, 1, none⟩ = some (.int .i64 0) := (hB.cell (by simp)).trans (by simp)
    have c2 : w1.cell? ⟨w.heap.size, 2, none⟩ = some (.int .i64 0) := (hB.cell (by simp)).trans (by simp)
    have f0 : w1.frozen? ⟨w.heap.size, 0, none⟩ = false := (hB.frozen (by simp)).trans (by simp)
    have f1 : w1.frozen? ⟨w.heap.size, 1, none⟩ = false := (hB.frozen (by simp)).trans (by simp)
    have f2 : w1.frozen? ⟨w.heap.size, 2, none⟩ = false := (hB.frozen (by simp)).trans (by simp)
    have HB : Hid (Below w.heap.size w w1) := (((Below.refl _ w).alloc (Nat.le_refl _) _).alloc (by simp) _).trans (hB.mono (Nat.le_succ _))
    clear hb hB
    go_wp2
    refine bodyPost_ret (v := .agg #[.int .i64 0, .int .i64 0, .int .i64 c]) (by simp [results, Tryz.results68, go_sem, c0, c1, c2]) rfl ⟨?_, ?_⟩
    · rw [HC.out]; rfl
    · repeat (first | exact HB.out | refine Below.setCell ?_ (by simp) _)
end Go.Proofs.YtjkmfjegphpjkaaGreatDoor
namespace Go.Proofs.YtjkmfjegphpjkaaGreatDoor
open Go.RowKit Go.Lib

set_option maxHeartbeats 1000000 in
set_option maxRecDepth 100000 in
theorem copyText (a : ByteArray) (w : World) (ha : a.size ≤ 1100000) :
    Calls Tryz.prog 113 #[.string a] w fun e w' => e = .returned (.string a) ∧ Below w.heap.size w w' := by
  obtain ⟨i0, hi, hz0, hz1, hz2⟩ := info_parts infoByte
  go_enter Tryz.func113, Tryz.ntmps113
  go_wp2_with (at_make; refine wpList_make_full _ rfl _ _ 22 rfl w.heap.size 5 i0 (.int .u8 0) 1 Tryz.underlying22 hi hz0 hz1 .i64 .i64 _ _ a.size rfl rfl ?c1 ?c2 ?c3 ?c4 ?c5 ?_)
  case c1 => omega
  case c2 => omega
  case c3 => rw [hz2]; omega
  case c4 => unfold maxLen; omega
  case c5 => exact Nat.le_refl _
  intro w1 hown hgrow
  obtain ⟨hrow, hlen⟩ := rowOf hown rfl
  have hB1 : Below w.heap.size w w1 := (Below.refl _ w).grown hgrow (Nat.le_refl _) (fun k hk => by cases hk)
  generalize (madeCells #[Value.int IntKind.u8 0] a.size).toList = L at hrow hlen
  have la : (byteCells a.data.toList).length = a.size := by rw [byteCells_length, ← size_eq]
  have HF : Hid (∀ w3 : World, w3.heap[w.heap.size]? = some (.cells (splice L 0 (byteCells a.data.toList)).toArray 5 (0, 0)) →
      (convert 22 9 (.slice (some ⟨w.heap.size, 0, none⟩) a.size a.size)).run Tryz.prog w3 = .ok (.string a) w3) := by
    intro w3 h3
    rw [splice_one L (byteCells a.data.toList) (by omega)] at h3
    have h4 : w3.heap[w.heap.size]? = some (.cells (byteCells a.data.toList ++ []).toArray 5 (0, 0)) := by simpa using h3
    have := run_convert_row (P := Tryz.prog) (src := 22) (dst := 9) (cap := a.size) Tryz.underlying22 Tryz.underlying5 Tryz.underlying9 h4
    rw [← size_eq] at this
    exact this
  clear hown hgrow la
  go_wp2_with (refine wpList_copy_str rfl _ _ 22 9 rfl 5 Tryz.underlying22 byteSize _ _ _ a rfl rfl w.heap.size 0 L 5 hrow (fun _ => rfl) ?d2 ?d3 w.heap.size w hB1 (Nat.le_refl _) ?_)
  case d2 => exact Nat.le_refl _
  case d3 => omega
  intro w2 H2 hB2 hs2
  have hcv := HF.out w2 H2.out
  clear hrow hB1 hs2
  go_wp2
  go_ret
  exact ⟨rfl, hB2⟩

end Go.Proofs.YtjkmfjegphpjkaaGreatDoor
namespace Go.Proofs.YtjkmfjegphpjkaaGreatDoor
open Go.RowKit Go.Lib

/-- What readText hands back. -/
def TextOk (s : ByteArray) (R : NumR) (e : Ending) : Prop :=
  (∃ t a, textR s R = outV t a 0 ∧ e = .returned (.tuple #[.string t, .int .i64 a, .nilIface])) ∨
  (∃ c, textR s R = outV ByteArray.empty 0 c ∧ ∃ t, e = .returned (.tuple #[.string t, .int .i64 0, .iface 103 (.agg #[.int .i64 c])]))
theorem extract_le (s : ByteArray) (a b : Nat) : (s.extract a b).size ≤ s.size := by
  rw [ByteArray.size_extract]; omega
set_option maxHeartbeats 2000000 in
theorem readText (s : ByteArray) (p : Int) (w : World) (hs : s.size ≤ maxLen) (hp0 : -9223372036854775808 ≤ p) (hp1 : p ≤ 9223372036854775807) :
    Calls Tryz.prog 93 #[.string s, .int .i64 p] w fun e w' => TextOk s (numAt s p) e ∧ Below w.heap.size w w' := by
  have hread := fun W => readNum s p W hs hp0 hp1
  have hat := @numAt_at s p
  generalize numAt s p = R at *
  have HR : Hid (∀ W, Calls Tryz.prog 91 #[.string s, .int .i64 p] W fun e w' => ReadOk R e ∧ w' = W) := hread
  have HA : Hid (R.code = 0 → s.size ≤ 20000 ∧ 0 < R.at' ∧ R.at' ≤ s.size) := hat
  clear hread hat
  go_enter Tryz.func93, Tryz.ntmps93
  go_wp2_with fail
  refine (HR.out _).mono ?_
  rintro e w' ⟨hb, rfl⟩
  rcases hb with ⟨hc, rfl⟩ | ⟨hc, hR, n, rfl⟩
  rotate_left
  · have hfin : Hid (textR s R = outV ByteArray.empty 0 R.code) := by unfold Hid textR; rw [if_pos hc]
    clear hc hR
    go_wp2
    go_ret3
    exact ⟨.inr ⟨_, hfin.out, _, rfl⟩, Below.refl _ _⟩
  obtain ⟨hs2, ha0, ha1⟩ := HA.out hc
  have HC : Hid (R.code = 0) := hc
  clear hc
  by_cases hn0 : R.n < 0
  · have hfin : Hid (textR s R = outV ByteArray.empty 0 3) := by unfold Hid textR; rw [if_neg (by simp [HC.out]), if_pos (.inl hn0)]
    go_wp2
    go_ret3
    exact ⟨.inr ⟨_, hfin.out, _, rfl⟩, Below.refl _ _⟩
  by_cases hn1 : 20000 < R.n
  · have hfin : Hid (textR s R = outV ByteArray.empty 0 3) := by unfold Hid textR; rw [if_neg (by simp [HC.out]), if_pos (.inr hn1)]
    go_wp2
    go_ret3
    exact ⟨.inr ⟨_, hfin.out, _, rfl⟩, Below.refl _ _⟩
  by_cases hsh : (s.size : Int) - R.n < R.at'
  · have hfin : Hid (textR s R = outV ByteArray.empty 0 4) := by unfold Hid textR; rw [if_neg (by simp [HC.out]), if_neg (by omega), if_pos hsh]
    have hsh' : (s.size : Int) - R.at' < R.n := by omega
    go_wp2
    go_ret3
    exact ⟨.inr ⟨_, hfin.out, _, rfl⟩, Below.refl _ _⟩
  have hfin : Hid (textR s R = outV (s.extract R.at'.toNat (R.at' + R.n).toNat) (R.at' + R.n) 0) := by unfold Hid textR; rw [if_neg (by simp [HC.out]), if_neg (by omega), if_neg hsh]
  have hsh' : R.n ≤ (s.size : Int) - R.at' := by omega
  have q2 : R.at' + R.n ≤ (s.size : Int) := by omega
  go_wp2_with fail
  refine (copyText _ _ (by have := extract_le s R.at'.toNat (R.at' + R.n).toNat; omega)).mono ?_
  rintro e w1 ⟨rfl, hb1⟩
  go_wp2
  go_ret3
  exact ⟨.inl ⟨_, _, hfin.out, rfl⟩, hb1⟩
end Go.Proofs.YtjkmfjegphpjkaaGreatDoor
