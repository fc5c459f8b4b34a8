/- impl.Base64, walked. impl.tooLong, walked. Texts compared; what l09Read tells. Plain. impl.Base64Read, walked. spec.l09Sign, walked. spec.l09Base, spec.Base64, walked. -/
import Derived.Test.YtifkjelffalbhaaBR02
import Derived.Test.YtifkjelffalbhaaBR01
import Derived.Deep.Cut
namespace Go.Proofs.Ytifkjelffalbhaa
open Go.RowKit Go.Lib

theorem conv_bts (W : World) (s : ByteArray) : ∃ (c : Nat) (W' : World), (convert 9 29 (.string s)).run Try.prog W = .ok (.slice (some ⟨W.heap.size, 0, none⟩) s.size c) W' ∧ IsBts W' (some ⟨W.heap.size, 0, none⟩) (bts s) ∧ Below W.heap.size W W' := by
  refine ⟨_, _, run_bytes_of_string W 9 29 5 s Try.underlying9 Try.underlying29 Try.underlying5, .inr ⟨W.heap.size, rfl, by show _ < (W.heap.push _).size; simp, fun i z hz => ?_⟩, (Below.refl _ W).drew.alloc (Nat.le_refl _) _⟩
  have hi : i < s.data.size := by
    have : i < (bts s).length := by
      rcases Nat.lt_or_ge i (bts s).length with h | h
      · exact h
      · rw [List.getElem?_eq_none h] at hz; cases hz
    rw [bts_len] at this
    exact this
  rw [cell_of_row _ W.heap.size i _ _ _ (heap_alloc_new W.drew _), bytesRow_at s _ i hi]
  simp only [bts, List.getElem?_map, Array.getElem?_toList, Array.getElem?_eq_getElem hi, Option.map_some, Option.some.injEq] at hz
  rw [← hz]
/-- The first k values are signs already. -/
def mixG (G : List Nat) (k : Nat) : List Int := (G.take k).map sg ++ (G.drop k).map (fun x : Nat => (x : Int))
theorem mixG_zero (G : List Nat) : mixG G 0 = G.map (fun x : Nat => (x : Int)) := by simp [mixG]
theorem mixG_all (G : List Nat) : mixG G G.length = G.map sg := by simp [mixG]
theorem mixG_len (G : List Nat) (k : Nat) : (mixG G k).length = G.length := by simp [mixG]; omega
theorem mixG_at (G : List Nat) {k z : Nat} (h : G[k]? = some z) : (mixG G k)[k]? = some (z : Int) := by
  have hk : k < G.length := by
    rcases Nat.lt_or_ge k G.length with h' | h'
    · exact h'
    · rw [List.getElem?_eq_none h'] at h; cases h
  have hl : ((G.take k).map sg).length = k := by simp; omega
  rw [mixG, List.getElem?_append_right (by omega), hl, Nat.sub_self, List.getElem?_map, List.getElem?_drop, Nat.add_zero, h]
  rfl
theorem mixG_set (G : List Nat) {k z : Nat} (h : G[k]? = some z) : (mixG G k).set k (sg z) = mixG G (k + 1) := by
  have hk : k < G.length := by
    rcases Nat.lt_or_ge k G.length with h' | h'
    · exact h'
    · rw [List.getElem?_eq_none h'] at h; cases h
  have hz : G[k] = z := by rw [List.getElem?_eq_getElem hk] at h; exact Option.some.inj h
  have hl : ((G.take k).map sg).length = k := by simp; omega
  rw [mixG, mixG, List.set_append_right _ _ (by omega), hl, Nat.sub_self, List.drop_eq_getElem_cons hk, List.map_cons, List.set_cons_zero, List.take_succ_eq_append_getElem hk, List.map_append, hz]
  simp
set_option linter.unusedSimpArgs false in
set_option maxHeartbeats 4000000 in
set_option maxRecDepth 100000 in
theorem implBase64 (s : ByteArray) (w : World) (hm : s.size ≤ maxLen) :
    Calls Try.prog 11 #[.string s] w fun e w' => e = .returned (.string (base64D s)) ∧ Below w.heap.size w w' := by
  unfold maxLen at hm
  by_cases h4 : 4000 < s.size
  · have HF : Hid (base64D s = ⟨#[]⟩) := by show _ = _; rw [base64D, if_pos h4]
    go_enter Try.func11, Try.ntmps11
    go_wp2
    go_ret
    exact ⟨by rw [HF.out]; rfl, Below.refl _ _⟩
  obtain ⟨i0, hi, hz0, hz1, hz2⟩ := info_parts infoByte
  obtain ⟨G, hG⟩ : ∃ G, G = b64 (bts s) := ⟨_, rfl⟩
  have HF : Hid (base64D s = strOfNums (G.map sg)) := by show _ = _; rw [base64D, if_neg h4, hG]; rfl
  have HGl : Hid (G.length ≤ 8000) := by show _ ≤ _; have := b64_len (bts s); rw [bts_len, ← hG] at this; omega
  have HGt : Hid (∀ y ∈ G, y < 64) := by show ∀ y ∈ G, _; rw [hG]; exact b64_lt _ (bts_lt s)
  have hr := b64_rgo (bts s)
  have HRg : Hid (∀ V a cap, IsBts V a (bts s) → Calls Try.prog 10 #[.slice a s.size cap, .int .i64 8, .int .i64 6] V fun e w' => ∃ v, e = .returned (.tuple #[v, .int .u8 (((rgo (bts s) 0 0).2.1 : Nat) : Int), .int .i64 (((rgo (bts s) 0 0).2.2 : Nat) : Int)]) ∧ OwnB w' V.heap.size v (rgo (bts s) 0 0).1 ∧ Below V.heap.size V w') := fun V a cap h => by
    have := implRegroup86 (bts s) a cap V (by rw [bts_len]; omega) (bts_lt s) h
    rw [bts_len] at this
    exact this
  obtain ⟨⟨R, RH, RC⟩, hR⟩ : ∃ R, R = rgo (bts s) 0 0 := ⟨_, rfl⟩
  rw [← hG, ← hR] at hr
  rw [← hR] at HRg
  simp only at hr HRg
  have HR : Hid (G = R ++ tailG (RH, RC)) := hr.1
  have HC : Hid (RC = 0 ∨ (RC = 2 ∧ RH < 4) ∨ (RC = 4 ∧ RH < 16)) := hr.2
  obtain ⟨c0, w1, hcv, hb1, hbb1⟩ := conv_bts w s
  have HB1 : Hid (Below w.heap.size w w1) := hbb1
  have HI1 : Hid _ := hb1
  clear hr hG hR hb1 hbb1
  go_enter Try.func11, Try.ntmps11
  go_wp2_with fail
  refine (HRg.out _ _ _ HI1.out).mono ?_
  rintro e w2 ⟨v, rfl, ho, b2⟩
  have HB2 : Hid (Below w.heap.size w w2) := HB1.out.trans (b2.mono HB1.out.size)
  have HO : Hid (OwnB w2 w1.heap.size v R) := ho
  have S1 : Hid (w.heap.size ≤ w1.heap.size ∧ w1.heap.size ≤ w2.heap.size) := ⟨HB1.out.size, b2.size⟩
  clear ho b2 hcv HI1 HRg HB1 h4 hm
  obtain ⟨va, vc, rfl, _⟩ := OwnB.form HO.out
  obtain ⟨ci, hci⟩ : ∃ ci : Int, ci = (RC : Int) := ⟨_, rfl⟩
  rw [← hci]
  go_upto_if 19 with fail
  go_cut [3, 4, 5] from 8 (fun s3 _ _ wx => OwnB wx w1.heap.size s3 G ∧ Below w.heap.size w wx)
  case first =>
    rcases HC.out with rfl | ⟨rfl, hh⟩ | ⟨rfl, hh⟩
    · obtain rfl : ci = 0 := hci
      have hG : G = R := by rw [HR.out]; simp [tailG]
      subst hG
      go_wp2_with fail
      go_meet
      case rel => exact ⟨HO.out, HB2.out⟩
    · obtain rfl : ci = 2 := hci
      obtain ⟨q, hq⟩ : ∃ q, q = RH * 16 := ⟨_, rfl⟩
      have hG : G = R ++ [q] := by rw [HR.out, hq]; simp [tailG]
      have sw : IntKind.u8.wrap ((RH : Int) * 16) = (q : Int) := by rw [IntKind.wrap_u8]; omega
      obtain ⟨pl, hpl⟩ : ∃ p, p = R.length := ⟨_, rfl⟩
      have HPl : Hid (pl = R.length) := hpl
      have hO : w2.ownsRow w1.heap.size 5 1 (.slice va pl vc) pl ((R.map (fun x : Nat => (x : Int))).map (Value.int .u8)) := by
        have h2 := HO.out
        unfold OwnB at h2
        rw [← hpl] at h2
        exact h2
      have hbd : pl + 1 ≤ 8000 := by
        have h1 := HGl.out
        rw [hG, List.length_append, ← hpl] at h1
        exact h1
      rw [← hpl]
      have HGG : Hid (G = R ++ [q]) := hG
      clear hpl hq hG
      go_wp2_with (at_builtin; refine wpList_append_own _ rfl _ _ 29 rfl w1.heap.size 5 i0 (.int .u8 0) 1 1 Try.underlying29 hi hz0 hz1 hz2 rfl (by decide) _ _ _ rfl (hO.alloc _) ⟨w2.heap.size, 0, none⟩ 1 1 [.int .u8 (q : Int)] rfl rfl (cells_one (by simp)) (by simp [Value.oneCell']) ?c3 ?c4 ?c5 ?_)
      case c3 => unfold maxLen; omega
      case c4 => omega
      case c5 => have := S1.out; simp; omega
      intro y w3 hown3 hgrow3 _
      have B3 : Hid (Below w.heap.size w w3) := (HB2.out.alloc (by have := S1.out; omega) _).grown hgrow3 (by have := S1.out; simp; omega) (fun j hj => by have := (hO.lt j hj).1; have := S1.out; omega)
      have O3 : Hid (OwnB w3 w1.heap.size y G) := by
        show World.ownsRow _ _ _ _ _ _ _
        rw [HGG.out, List.length_append, ← HPl.out]
        simpa [List.map_append] using hown3
      clear hgrow3 hown3 hO
      go_wp2
      go_meet
      case rel => exact ⟨O3.out, B3.out⟩
    · obtain rfl : ci = 4 := hci
      obtain ⟨q, hq⟩ : ∃ q, q = RH * 4 := ⟨_, rfl⟩
      have hG : G = R ++ [q] := by rw [HR.out, hq]; simp [tailG]
      have sw : IntKind.u8.wrap ((RH : Int) * 4) = (q : Int) := by rw [IntKind.wrap_u8]; omega
      obtain ⟨pl, hpl⟩ : ∃ p, p = R.length := ⟨_, rfl⟩
      have HPl : Hid (pl = R.length) := hpl
      have hO : w2.ownsRow w1.heap.size 5 1 (.slice va pl vc) pl ((R.map (fun x : Nat => (x : Int))).map (Value.int .u8)) := by
        have h2 := HO.out
        unfold OwnB at h2
        rw [← hpl] at h2
        exact h2
      have hbd : pl + 1 ≤ 8000 := by
        have h1 := HGl.out
        rw [hG, List.length_append, ← hpl] at h1
        exact h1
      rw [← hpl]
      have HGG : Hid (G = R ++ [q]) := hG
      clear hpl hq hG
      go_wp2_with (at_builtin; refine wpList_append_own _ rfl _ _ 29 rfl w1.heap.size 5 i0 (.int .u8 0) 1 1 Try.underlying29 hi hz0 hz1 hz2 rfl (by decide) _ _ _ rfl (hO.alloc _) ⟨w2.heap.size, 0, none⟩ 1 1 [.int .u8 (q : Int)] rfl rfl (cells_one (by simp)) (by simp [Value.oneCell']) ?d3 ?d4 ?d5 ?_)
      case d3 => unfold maxLen; omega
      case d4 => omega
      case d5 => have := S1.out; simp; omega
      intro y w3 hown3 hgrow3 _
      have B3 : Hid (Below w.heap.size w w3) := (HB2.out.alloc (by have := S1.out; omega) _).grown hgrow3 (by have := S1.out; simp; omega) (fun j hj => by have := (hO.lt j hj).1; have := S1.out; omega)
      have O3 : Hid (OwnB w3 w1.heap.size y G) := by
        show World.ownsRow _ _ _ _ _ _ _
        rw [HGG.out, List.length_append, ← HPl.out]
        simpa [List.map_append] using hown3
      clear hgrow3 hown3 hO
      go_wp2
      go_meet
      case rel => exact ⟨O3.out, B3.out⟩
  obtain ⟨ho, hb⟩ := hcut
  have B3 : Hid (Below w.heap.size w wc) := hb
  have O3 : Hid (OwnB wc w1.heap.size u3 G) := ho
  clear ho hb HO HB2 HC HR
  obtain ⟨ga, gc, rfl, hgc⟩ := OwnB.form O3.out
  obtain ⟨n, hn⟩ : ∃ n, n = G.length := ⟨_, rfl⟩
  rw [← hn] at O3 ⊢
  have HN : Hid (n = G.length) := hn
  clear hn hgc
  have hn5 : n ≤ 8000 := by rw [HN.out]; exact HGl.out
  go_wp2_with fail
  go_loopw [29] (fun i wr => ∃ (k : Nat), i = .int .i64 k ∧ k ≤ n ∧ wr.ownsRow w1.heap.size 5 1 (.slice ga n gc) n ((mixG G k).map (Value.int .u8)) ∧ Below w.heap.size w wr)
    (fun i _ => n - (RowKit.intOf i).toNat)
  case atStart =>
    refine ⟨0, rfl, Nat.zero_le _, ?_, B3.out⟩
    have h2 := O3.out
    unfold OwnB at h2
    rw [← HN.out] at h2
    rw [mixG_zero]
    exact h2
  case round =>
    obtain ⟨k, rfl, hk, hown, hbel⟩ := hrel
    by_cases hlt : k < n
    rotate_left
    · obtain rfl : k = n := by omega
      have q2 : ¬ (k : Int) < (k : Int) := by omega
      have hx : mixG G k = G.map sg := by rw [HN.out]; exact mixG_all G
      rw [hx] at hown
      have hcv := run_convert_own (P := Try.prog) (src := 29) (dst := 9) Try.underlying29 Try.underlying5 Try.underlying9 hown
      have HBl : Hid (Below w.heap.size w wr) := hbel
      clear hown hbel hx hlt hk O3 B3
      go_wp2
      go_ret
      exact ⟨by rw [HF.out]; rfl, HBl.out⟩
    have hkG : k < G.length := by have := HN.out; omega
    obtain ⟨z, hz⟩ : ∃ z, G[k]? = some z := ⟨G[k], List.getElem?_eq_getElem hkG⟩
    have hzl : z < 64 := HGt.out z (List.mem_of_getElem? hz)
    obtain ⟨g, rfl⟩ : ∃ g, ga = some ⟨g, 0, none⟩ := by
      rcases hown.2 with ⟨_, h⟩ | ⟨g, _, _, e, _⟩
      · omega
      · simp only [Value.slice.injEq] at e
        exact ⟨g, e.1⟩
    have hcell : wr.cell? ⟨g, k, none⟩ = some (.int .u8 (z : Int)) := by
      rw [hown.cellAt k (by omega), List.getElem?_map, mixG_at G hz]
      rfl
    have hfr := hown.frozenAt k
    have hst := hown.stored k (.int .u8 (sg z))
    have hge : w.heap.size ≤ g := by
      have := (hown.lt g rfl).1
      have := S1.out.1
      omega
    have HW : Hid ((wr.setCell ⟨g, k, none⟩ (.int .u8 (sg z))).ownsRow w1.heap.size 5 1 (.slice (some ⟨g, 0, none⟩) n gc) n ((mixG G (k + 1)).map (Value.int .u8))) := by
      have h2 := hst.1
      rw [← mixG_set G hz, List.map_set]
      exact h2
    have HBl : Hid (Below w.heap.size w (wr.setCell ⟨g, k, none⟩ (.int .u8 (sg z)))) := hbel.setCell hge _
    have q1 : (0 : Int) ≤ (k : Int) := Int.natCast_nonneg _
    have q2 : (k : Int) < (n : Int) := by omega
    have e1 := idxSg8 z hzl
    clear hown hst hbel hz hkG hge O3 B3
    go_wp2
    go_roundw
    case rel => exact ⟨k + 1, by go_num, by omega, HW.out, HBl.out⟩
    case measure => simp [RowKit.intOf]; omega
end Go.Proofs.Ytifkjelffalbhaa
namespace Go.Proofs.Ytifkjelffalbhaa
open Go.RowKit

theorem tooLong (s : ByteArray) (w : World) (hs : s.size ≤ maxLen) :
    Calls Try.prog 8 #[.string s] w fun e w' => e = .returned (.bool (decide (20000 < s.size))) ∧ w' = w := by
  unfold maxLen at hs
  go_enter Try.func8, Try.ntmps8
  go_wp2
  go_ret
  exact ⟨by simp; omega, rfl⟩
end Go.Proofs.Ytifkjelffalbhaa
namespace Go.Proofs.Ytifkjelffalbhaa
open Go.RowKit Go.Lib

theorem same_text' (a b : ByteArray) : (a.toList == b.toList) = decide (a = b) := by
  by_cases h : a = b
  · subst h; simp
  · rw [decide_eq_false h, beq_eq_false_iff_ne]
    intro h'
    rw [Lib.toList_data, Lib.toList_data] at h'
    exact h (ByteArray.ext (Array.toList_inj.1 h'))
/-- What l09Read tells. -/
def readLT (s : ByteArray) : ByteArray × Bool := match readV (bts s) with
  | none => (⟨#[]⟩, false)
  | some vs => (natT (rgi vs 0 0).1, decide ((rgi vs 0 0).1.length ≤ 4000 ∧ b64D (natT (rgi vs 0 0).1) = s))
end Go.Proofs.Ytifkjelffalbhaa
namespace Go.Proofs.Ytifkjelffalbhaa
open Go.RowKit Go.Lib

set_option linter.unusedSimpArgs false in
set_option maxHeartbeats 4000000 in
set_option maxRecDepth 100000 in
theorem implBase64Read (s : ByteArray) (w : World) (hm : s.size ≤ maxLen) :
    Calls Try.prog 5 #[.string s] w fun e w' => e = .returned (txtV (readTD s)) ∧ Below w.heap.size w w' := by
  obtain ⟨w1, hw1⟩ : ∃ y, y = w.alloc (.cells #[.string ⟨#[]⟩, .int .i64 0, .int .i64 0] 23 (0, 0)) := ⟨_, rfl⟩
  have hz : w1.heap.size = w.heap.size + 1 := by rw [hw1]; simp
  have hg1 : w1.heap[w.heap.size]? = some (.cells [Value.string ⟨#[]⟩, .int .i64 0, .int .i64 0].toArray 23 (0, 0)) := by rw [hw1]; exact heap_alloc_new w _
  have hB1 : Below w.heap.size w w1 := by rw [hw1]; exact (Below.refl _ w).alloc (Nat.le_refl _) _
  have HB : Hid (∀ V, Below w1.heap.size w1 V → Below w.heap.size w V) := fun V hV => hB1.trans (hV.mono (by omega))
  have HRes : Hid (∀ V, Below w1.heap.size w1 V → V.heap[w.heap.size]? = some (.cells [Value.string ⟨#[]⟩, .int .i64 0, .int .i64 0].toArray 23 (0, 0))) := fun V hV => by rw [hV.block _ (by omega)]; exact hg1
  have I1 : Hid (Below w1.heap.size w1 w1) := Below.refl _ _
  have Z1 : Hid (w1.heap.size = w.heap.size + 1) := hz
  clear hg1 hB1 hz
  have HLg : Hid (∀ V, Calls Try.prog 8 #[.string s] V fun e w' => e = .returned (.bool (decide (20000 < s.size))) ∧ w' = V) := fun V => tooLong s V hm
  by_cases hl : 20000 < s.size
  · have HF : Hid (readTD s = (⟨#[]⟩, 2)) := by show _ = _; rw [readTD, if_pos hl]
    rw [decide_eq_true hl] at HLg
    clear hl
    go_enter Try.func5, Try.ntmps5
    go_wp2_with fail
    rw [← hw1]
    refine (HLg.out w1).mono ?_
    rintro e w2 ⟨rfl, rfl⟩
    clear hw1
    go_wp2_with (refine wpList_store_row rfl 23 _ _ rfl (w.heap.size) _ [Value.string ⟨#[]⟩, .int .i64 0, .int .i64 2] 23 rfl rfl (HRes.out _ I1.out) rfl sizeTextOut (by simp [Value.oneCell']) ?_)
    intro w8 hrow ho hs8 hbb
    have HROW : Hid _ := hrow
    have HB8 : Hid (Below w.heap.size w w8) := hbb _ _ (Nat.le_refl _) (HB.out _ I1.out)
    clear ho hs8 hbb hrow
    go_wp2
    refine bodyPost_ret (v := .agg [Value.string ⟨#[]⟩, .int .i64 0, .int .i64 2].toArray) ?_ rfl ⟨by rw [HF.out]; rfl, HB8.out⟩
    have hl3 := run_loadVar_mid (P := Try.prog) _ (w.heap.size) 0 23 _ _ (rangeRow HROW.out) Try.underlying23 rfl sizeTextOut
    simp [results, Try.results5, asAddr, hl3]
  rw [decide_eq_false hl] at HLg
  have HS : Hid (∀ V, Calls Try.prog 9 #[.string s] V fun e w' => ∃ v, e = .returned (.tuple #[v, .bool (readV (bts s)).isSome]) ∧ OwnB w' V.heap.size v ((readV (bts s)).getD []) ∧ Below V.heap.size V w') := fun V => implReadSigns s V (by omega)
  have hE : readTD s = match readV (bts s) with
    | none => (⟨#[]⟩, 3)
    | some vs => if base64D (natT (rgi vs 0 0).1) = s then (natT (rgi vs 0 0).1, 0) else (⟨#[]⟩, 3) := by
    rw [readTD, if_neg hl]
    cases readV (bts s) <;> rfl
  cases hv : readV (bts s) with
  | none =>
    have HF : Hid (readTD s = (⟨#[]⟩, 3)) := by show _ = _; rw [hE, hv]
    rw [hv] at HS
    clear hE hv hl
    go_enter Try.func5, Try.ntmps5
    go_wp2_with fail
    rw [← hw1]
    refine (HLg.out w1).mono ?_
    rintro e w2 ⟨rfl, rfl⟩
    clear hw1
    go_wp2_with fail
    refine (HS.out _).mono ?_
    rintro e w3 ⟨v, rfl, o3, b3⟩
    have K3 : Hid (Below w2.heap.size w2 w3) := b3
    clear b3 o3
    go_wp2_with (refine wpList_store_row rfl 23 _ _ rfl (w.heap.size) _ [Value.string ⟨#[]⟩, .int .i64 0, .int .i64 3] 23 rfl rfl (HRes.out _ K3.out) rfl sizeTextOut (by simp [Value.oneCell']) ?_)
    intro w8 hrow ho hs8 hbb
    have HROW : Hid _ := hrow
    have HB8 : Hid (Below w.heap.size w w8) := hbb _ _ (Nat.le_refl _) (HB.out _ K3.out)
    clear ho hs8 hbb hrow
    go_wp2
    refine bodyPost_ret (v := .agg [Value.string ⟨#[]⟩, .int .i64 0, .int .i64 3].toArray) ?_ rfl ⟨by rw [HF.out]; rfl, HB8.out⟩
    have hl3 := run_loadVar_mid (P := Try.prog) _ (w.heap.size) 0 23 _ _ (rangeRow HROW.out) Try.underlying23 rfl sizeTextOut
    simp [results, Try.results5, asAddr, hl3]
  | some vs =>
  rw [hv] at HS hE
  simp only at hE
  have hvl := readV_len _ _ hv
  rw [bts_len] at hvl
  have hv64 := readV_lt _ _ hv
  have HRg : Hid (∀ V a cap, IsBts V a vs → Calls Try.prog 10 #[.slice a vs.length cap, .int .i64 6, .int .i64 8] V fun e w' => ∃ v, e = .returned (.tuple #[v, .int .u8 (((rgi vs 0 0).2.1 : Nat) : Int), .int .i64 (((rgi vs 0 0).2.2 : Nat) : Int)]) ∧ OwnB w' V.heap.size v (rgi vs 0 0).1 ∧ Below V.heap.size V w') := fun V a cap h => implRegroup68 vs a cap V (by omega) hv64 h
  have hrl := rgi_len vs 0 0
  obtain ⟨⟨R, RH, RC⟩, hR⟩ : ∃ R, R = rgi vs 0 0 := ⟨_, rfl⟩
  rw [← hR] at HRg hE hrl
  simp only at HRg hE hrl
  have HBa : Hid (∀ V, Calls Try.prog 11 #[.string (natT R)] V fun e w' => e = .returned (.string (base64D (natT R))) ∧ Below V.heap.size V w') := fun V => implBase64 (natT R) V (by rw [natT_size]; unfold maxLen; omega)
  have HE : Hid (readTD s = if base64D (natT R) = s then (natT R, 0) else (⟨#[]⟩, 3)) := hE
  clear hE hv hl hvl hv64 hR hrl hm
  go_enter Try.func5, Try.ntmps5
  go_wp2_with fail
  rw [← hw1]
  refine (HLg.out w1).mono ?_
  rintro e w2 ⟨rfl, rfl⟩
  clear hw1
  go_wp2_with fail
  refine (HS.out _).mono ?_
  rintro e w3 ⟨v, rfl, o3, b3⟩
  have K3 : Hid (Below w2.heap.size w2 w3) := b3
  have O3 : Hid (OwnB w3 w2.heap.size v vs) := o3
  clear b3 o3 HS HLg
  obtain ⟨va, vc, rfl, _⟩ := OwnB.form O3.out
  go_wp2_with fail
  refine (HRg.out w3 va vc O3.out.bts).mono ?_
  rintro e w4 ⟨y, rfl, o4, b4⟩
  have K4 : Hid (Below w2.heap.size w2 w4) := K3.out.trans (b4.mono K3.out.size)
  have hcv := run_convert_own (P := Try.prog) (src := 29) (dst := 9) Try.underlying29 Try.underlying5 Try.underlying9 o4
  have hnt : strOfNums (R.map fun x : Nat => (x : Int)) = natT R := rfl
  rw [hnt] at hcv
  clear b4 o4 O3 K3 HRg hnt
  generalize natT R = N at *
  go_wp2_with fail
  refine (HBa.out w4).mono ?_
  rintro e w5 ⟨rfl, b5⟩
  have K5 : Hid (Below w2.heap.size w2 w5) := K4.out.trans (b5.mono K4.out.size)
  clear b5 K4 HBa hcv
  generalize base64D N = BT at *
  by_cases hY : BT = s
  rotate_left
  · have HF : Hid (readTD s = (⟨#[]⟩, 3)) := by show _ = _; rw [HE.out, if_neg hY]
    have e1 : (BT.toList == s.toList) = false := by rw [same_text', decide_eq_false hY]
    have e2 : (BT.toList != s.toList) = true := by rw [bne, e1]; rfl
    go_wp2_with (refine wpList_store_row rfl 23 _ _ rfl (w.heap.size) _ [Value.string ⟨#[]⟩, .int .i64 0, .int .i64 3] 23 rfl rfl (HRes.out _ K5.out) rfl sizeTextOut (by simp [Value.oneCell']) ?_)
    intro w8 hrow ho hs8 hbb
    have HROW : Hid _ := hrow
    have HB8 : Hid (Below w.heap.size w w8) := hbb _ _ (Nat.le_refl _) (HB.out _ K5.out)
    clear ho hs8 hbb hrow
    go_wp2
    refine bodyPost_ret (v := .agg [Value.string ⟨#[]⟩, .int .i64 0, .int .i64 3].toArray) ?_ rfl ⟨by rw [HF.out]; rfl, HB8.out⟩
    have hl3 := run_loadVar_mid (P := Try.prog) _ (w.heap.size) 0 23 _ _ (rangeRow HROW.out) Try.underlying23 rfl sizeTextOut
    simp [results, Try.results5, asAddr, hl3]
  have HF : Hid (readTD s = (N, 0)) := by show _ = _; rw [HE.out, if_pos hY]
  have e2 : (BT.toList != s.toList) = false := by rw [bne, same_text', decide_eq_true hY]; rfl
  go_wp2_with (refine wpList_store_row rfl 23 _ _ rfl (w.heap.size) _ [Value.string N, .int .i64 0, .int .i64 0] 23 rfl rfl (HRes.out _ K5.out) rfl sizeTextOut (by simp [Value.oneCell']) ?_)
  intro w8 hrow ho hs8 hbb
  have HROW : Hid _ := hrow
  have HB8 : Hid (Below w.heap.size w w8) := hbb _ _ (Nat.le_refl _) (HB.out _ K5.out)
  clear ho hs8 hbb hrow
  go_wp2
  refine bodyPost_ret (v := .agg [Value.string N, .int .i64 0, .int .i64 0].toArray) ?_ rfl ⟨by rw [HF.out]; rfl, HB8.out⟩
  have hl3 := run_loadVar_mid (P := Try.prog) _ (w.heap.size) 0 23 _ _ (rangeRow HROW.out) Try.underlying23 rfl sizeTextOut
  simp [results, Try.results5, asAddr, hl3]
end Go.Proofs.Ytifkjelffalbhaa
namespace Go.Proofs.Ytifkjelffalbhaa
open Go.RowKit Go.Lib

set_option maxHeartbeats 4000000 in
set_option maxRecDepth 100000 in
theorem specSgn (c : Nat) (w : World) :
    Calls Try.prog 12 #[.int .u8 (c : Int)] w fun e w' => e = .returned (.int .i64 (sgk c)) ∧ w' = w := by
  go_enter Try.func12, Try.ntmps12
  go_wp2
  go_loopw [3] (fun i wr => ∃ k : Nat, k ≤ 64 ∧ i = .int .i64 k ∧ wr = w ∧ ∀ q, q < k → sg q ≠ (c : Int)) (fun i _ => 64 - (RowKit.intOf i).toNat)
  case atStart => exact ⟨0, Nat.zero_le _, rfl, rfl, fun q hq => by omega⟩
  case round =>
    obtain ⟨k, hk, rfl, rfl, hq⟩ := hrel
    have HQ : Hid (∀ q, q < k → sg q ≠ (c : Int)) := hq
    clear hq
    by_cases hlt : k < 64
    · have e1 := idxSg k hlt
      have q2 : (k : Int) < 64 := by omega
      by_cases he : sg k = (c : Int)
      · have HF : Hid (sgk c = (k : Int)) := by show _ = _; rw [sgk, sgi_eq hlt he]
        have hb : (sg k == (c : Int)) = true := by rw [he]; simp
        go_wp2
        go_ret
        exact ⟨by rw [HF.out]; rfl, rfl⟩
      · have hb : (sg k == (c : Int)) = false := by simpa using he
        go_wp2
        go_roundw
        case rel => exact ⟨k + 1, by omega, by go_num, trivial, fun q hq => by
          by_cases e : q = k
          · subst e; exact he
          · exact HQ.out q (by omega)⟩
        case measure => simp [RowKit.intOf]; omega
    · obtain rfl : k = 64 := by omega
      have HF : Hid (sgk c = -1) := by
        show _ = _
        rw [sgk]
        cases hh : sgi c with
        | none => rfl
        | some q => exact absurd (sgi_some hh).2 (HQ.out q (sgi_some hh).1)
      go_wp2
      go_ret
      exact ⟨by rw [HF.out]; rfl, rfl⟩
end Go.Proofs.Ytifkjelffalbhaa
namespace Go.Proofs.Ytifkjelffalbhaa
open Go.RowKit Go.Lib

set_option linter.unusedSimpArgs false in
set_option maxHeartbeats 4000000 in
set_option maxRecDepth 100000 in
theorem specBase (s : ByteArray) (w : World) (hs : s.size ≤ 100000) :
    Calls Try.prog 13 #[.string s] w fun e w' => e = .returned (.string (b64D s)) ∧ Below w.heap.size w w' := by
  obtain ⟨i0, hi, hz0, hz1, hz2⟩ := info_parts infoByte
  have hR0 := b64I_len (bts s)
  rw [bts_len] at hR0
  obtain ⟨R, hR⟩ : ∃ R, R = b64I (bts s) := ⟨_, rfl⟩
  have HD : Hid (b64D s = strOfNums R) := by show _ = _; rw [hR]; rfl
  rw [HD.out]
  rw [← hR] at hR0
  have HRl : Hid (R.length ≤ 200000) := by show _ ≤ _; omega
  have HR : Hid (R = b64I (bts s)) := hR
  clear hR hR0 HD
  go_enter Try.func13, Try.ntmps13
  go_wp2
  go_loopw [3, 4] (fun b i wr => ∃ (k : Nat) (pre : List Int), i = .int .i64 k ∧ k ≤ s.size + 2 ∧ wr.ownsRow w.heap.size 5 1 b pre.length (pre.map (Value.int .u8)) ∧ R = pre ++ b64I ((bts s).drop k) ∧ Below w.heap.size w wr ∧ w.heap.size ≤ wr.heap.size)
    (fun _ i _ => s.size + 3 - (RowKit.intOf i).toNat)
  case atStart =>
    exact ⟨0, [], rfl, by omega, World.ownsRow_made _ #[] 0 (Nat.le_refl _) (Nat.zero_le _) rfl, HR.out, (Below.refl _ _).alloc (Nat.le_refl _) _, by simp⟩
  case round =>
    obtain ⟨k, pre, rfl, hk, hown, hpre, hbel, hsz⟩ := hrel
    by_cases hlt : k < s.size
    rotate_left
    · have hRp : R = pre := by rw [hpre, bts_end s k (by omega)]; simp [b64I, b64]
      subst hRp
      have hcv := run_convert_own (P := Try.prog) (src := 29) (dst := 9) Try.underlying29 Try.underlying5 Try.underlying9 hown
      have q2 : ¬ (k : Int) < (s.size : Int) := by omega
      clear hown hpre HR HRl hlt
      go_wp2
      go_ret
      exact ⟨rfl, hbel⟩
    have q1 : (0 : Int) ≤ (k : Int) := Int.natCast_nonneg _
    have q2 : (k : Int) < (s.size : Int) := by omega
    have ha := u8_lt s[k]
    by_cases h3 : k + 2 < s.size
    · have hb := u8_lt (s[k + 1]'(by omega))
      have hc := u8_lt (s[k + 2]'(by omega))
      have hd : b64I ((bts s).drop k) = [sg (s[k].toNat / 4), sg (s[k].toNat % 4 * 16 + (s[k + 1]'(by omega)).toNat / 16), sg ((s[k + 1]'(by omega)).toNat % 16 * 4 + (s[k + 2]'(by omega)).toNat / 64), sg ((s[k + 2]'(by omega)).toNat % 64)] ++ b64I ((bts s).drop (k + 3)) := by
        rw [bts_drop s k hlt, bts_drop s (k + 1) (by omega), bts_drop s (k + 1 + 1) (by omega)]
        rfl
      have q3 : (k : Int) + 1 < (s.size : Int) := by omega
      have q4 : (k : Int) + 2 < (s.size : Int) := by omega
      obtain ⟨m, hm⟩ : ∃ m : Nat, m = s[k].toNat * 65536 + (s[k + 1]'(by omega)).toNat * 256 := ⟨_, rfl⟩
      obtain ⟨N, hN⟩ : ∃ N : Nat, N = m + (s[k + 2]'(by omega)).toNat := ⟨_, rfl⟩
      have o1 : bits .or .i64 ((s[k].toNat : Int) * 65536) (((s[k + 1]'(by omega)).toNat : Int) * 256) = (m : Int) := by
        have h := or_low 16 (by omega) s[k].toNat ((s[k + 1]'(by omega)).toNat * 256) (by omega) (by omega)
        rw [hm, ← h]
        congr 1 <;> omega
      have o2 : bits .or .i64 (m : Int) ((s[k + 2]'(by omega)).toNat : Int) = (N : Int) := by
        have h := or_low 8 (by omega) (s[k].toNat * 256 + (s[k + 1]'(by omega)).toNat) (s[k + 2]'(by omega)).toNat (by omega) (by omega)
        have e : (s[k].toNat * 256 + (s[k + 1]'(by omega)).toNat) * 2 ^ 8 = m := by omega
        rw [e, ← hN] at h
        exact h
      obtain ⟨g0, hg0⟩ : ∃ g, g = s[k].toNat / 4 := ⟨_, rfl⟩
      rw [← hg0] at hd
      have v0 : bits .and .i64 (((N : Int) / 262144)) 63 = (g0 : Int) := by rw [and63]; omega
      have e0 := idxSg g0 (by omega)
      obtain ⟨g1, hg1⟩ : ∃ g, g = s[k].toNat % 4 * 16 + (s[k + 1]'(by omega)).toNat / 16 := ⟨_, rfl⟩
      rw [← hg1] at hd
      have v1 : bits .and .i64 (((N : Int) / 4096)) 63 = (g1 : Int) := by rw [and63]; omega
      have e1 := idxSg g1 (by omega)
      obtain ⟨g2, hg2⟩ : ∃ g, g = (s[k + 1]'(by omega)).toNat % 16 * 4 + (s[k + 2]'(by omega)).toNat / 64 := ⟨_, rfl⟩
      rw [← hg2] at hd
      have v2 : bits .and .i64 (((N : Int) / 64)) 63 = (g2 : Int) := by rw [and63]; omega
      have e2 := idxSg g2 (by omega)
      obtain ⟨g3, hg3⟩ : ∃ g, g = (s[k + 2]'(by omega)).toNat % 64 := ⟨_, rfl⟩
      rw [← hg3] at hd
      have v3 : bits .and .i64 ((N : Int)) 63 = (g3 : Int) := by rw [and63]; omega
      have e3 := idxSg g3 (by omega)
      obtain ⟨pl, hpl⟩ : ∃ n, n = pre.length := ⟨_, rfl⟩
      have HPl : Hid (pl = pre.length) := hpl
      have HX : Hid (R = pre ++ ([sg g0, sg g1, sg g2, sg g3] ++ b64I ((bts s).drop (k + 3)))) := by show _ = _; rw [hpre, hd]
      have hbd : pl + 4 ≤ 200000 := by
        have h1 := congrArg List.length HX.out
        have h2 := HRl.out
        simp only [List.length_append, List.length_cons, List.length_nil] at h1
        omega
      rw [← hpl] at hown
      clear hpre hd hpl hN hm hg0 hg1 hg2 hg3
      go_upto_region 10 with fail
      clear ha hb hc o1 o2
      go_region_law ((refine step_append_lies _ (by rfl) _ _ _ (by rfl) w.heap.size 5 i0 _ 1 1 Try.underlying29 hi hz0 hz1 hz2 rfl (by omega) _ _ _ (by rfl) ((hown.alloc _).drew) ⟨wr.heap.size, 0, none⟩ 2 2 [.int .u8 (sg g0), .int .u8 (sg g1)] (by rfl) (by rfl) (World.news_of_block (cs := #[.int .u8 (sg g0), .int .u8 (sg g1)]) (t := 5) (fr := (0, 0)) (heap_alloc_new wr _)) (by simp [Value.oneCell']) (by omega) (by unfold maxLen; omega) (by omega) (by simp; omega) (wr.heap.size + 1) (by simp) ?_; intro gg cap w1 hown1 hgrow hat hlt1))
      all_goals
        have hb1 : Below w.heap.size w w1 := ((hbel.alloc hsz _).drew).grown hgrow (by simp; omega) (fun j hj => (hown.lt j hj).1)
        have hs1 : w.heap.size ≤ w1.heap.size := hb1.size
        have HB1 : Hid (Below w.heap.size w w1) := hb1
        clear hgrow hat hlt1 hbel hb1 hown e0 e1 v0 v1
        go_wp2_with (at_builtin; refine wpList_append_own _ rfl _ _ 29 rfl w.heap.size 5 i0 (.int .u8 0) 1 1 Try.underlying29 hi hz0 hz1 hz2 rfl (by decide) _ _ _ rfl (hown1.alloc _) ⟨w1.heap.size, 0, none⟩ 1 1 [.int .u8 (sg g2)] rfl rfl ?c1 ?c2 ?c3 ?c4 ?c5 ?_)
        case c1 => exact cells_one (by simp)
        case c2 => intro u hu; simp at hu; subst hu; rfl
        case c3 => unfold maxLen; omega
        case c4 => omega
        case c5 => simp; omega
        intro x2 w2 hownw2 hgroww2 _
        have HBw2 : Hid (Below w.heap.size w w2) := (HB1.out.alloc (by omega) _).grown hgroww2 (by simp; omega) (fun j hj => (hown1.lt j hj).1)
        have hsw2 : w.heap.size ≤ w2.heap.size := HBw2.out.size
        clear hgroww2 hown1 e2 v2
        go_wp2_with (at_builtin; refine wpList_append_own _ rfl _ _ 29 rfl w.heap.size 5 i0 (.int .u8 0) 1 1 Try.underlying29 hi hz0 hz1 hz2 rfl (by decide) _ _ _ rfl (hownw2.alloc _) ⟨w2.heap.size, 0, none⟩ 1 1 [.int .u8 (sg g3)] rfl rfl ?c1 ?c2 ?c3 ?c4 ?c5 ?_)
        case c1 => exact cells_one (by simp)
        case c2 => intro u hu; simp at hu; subst hu; rfl
        case c3 => unfold maxLen; omega
        case c4 => omega
        case c5 => simp; omega
        intro x3 w3 hownw3 hgroww3 _
        have HBw3 : Hid (Below w.heap.size w w3) := (HBw2.out.alloc (by omega) _).grown hgroww3 (by simp; omega) (fun j hj => (hownw2.lt j hj).1)
        have hsw3 : w.heap.size ≤ w3.heap.size := HBw3.out.size
        clear hgroww3 hownw2 e3 v3
        have ho : w3.ownsRow w.heap.size 5 1 x3 (pre ++ [sg g0, sg g1, sg g2, sg g3]).length ((pre ++ [sg g0, sg g1, sg g2, sg g3]).map (Value.int .u8)) := by
          simpa [List.map_append, HPl.out] using hownw3
        have HO : Hid _ := ho
        clear ho hownw3
        have HRe : Hid (R = (pre ++ [sg g0, sg g1, sg g2, sg g3]) ++ b64I ((bts s).drop (k + 3))) := by
          show _ = _
          rw [HX.out]
          simp [b64I, b64]
        clear HX
        go_wp2
        go_roundw
        case rel => exact ⟨k + 3, _, by go_num, by omega, HO.out, HRe.out, HBw3.out, HBw3.out.size⟩
        case measure => simp [RowKit.intOf]; omega
    by_cases h2 : k + 1 < s.size
    · have hb := u8_lt (s[k + 1]'(by omega))
      have hd : b64I ((bts s).drop k) = [sg (s[k].toNat / 4), sg (s[k].toNat % 4 * 16 + (s[k + 1]'(by omega)).toNat / 16), sg ((s[k + 1]'(by omega)).toNat % 16 * 4)] := by
        rw [bts_drop s k hlt, bts_drop s (k + 1) (by omega), bts_end s (k + 1 + 1) (by omega)]
        rfl
      have q3 : (k : Int) + 1 < (s.size : Int) := by omega
      have q4 : ¬ (k : Int) + 2 < (s.size : Int) := by omega
      obtain ⟨N, hN⟩ : ∃ N : Nat, N = s[k].toNat * 65536 + (s[k + 1]'(by omega)).toNat * 256 := ⟨_, rfl⟩
      have o1 : bits .or .i64 ((s[k].toNat : Int) * 65536) (((s[k + 1]'(by omega)).toNat : Int) * 256) = (N : Int) := by
        have h := or_low 16 (by omega) s[k].toNat ((s[k + 1]'(by omega)).toNat * 256) (by omega) (by omega)
        rw [hN, ← h]
        congr 1 <;> omega
      obtain ⟨g0, hg0⟩ : ∃ g, g = s[k].toNat / 4 := ⟨_, rfl⟩
      rw [← hg0] at hd
      have v0 : bits .and .i64 (((N : Int) / 262144)) 63 = (g0 : Int) := by rw [and63]; omega
      have e0 := idxSg g0 (by omega)
      obtain ⟨g1, hg1⟩ : ∃ g, g = s[k].toNat % 4 * 16 + (s[k + 1]'(by omega)).toNat / 16 := ⟨_, rfl⟩
      rw [← hg1] at hd
      have v1 : bits .and .i64 (((N : Int) / 4096)) 63 = (g1 : Int) := by rw [and63]; omega
      have e1 := idxSg g1 (by omega)
      obtain ⟨g2, hg2⟩ : ∃ g, g = (s[k + 1]'(by omega)).toNat % 16 * 4 := ⟨_, rfl⟩
      rw [← hg2] at hd
      have v2 : bits .and .i64 (((N : Int) / 64)) 63 = (g2 : Int) := by rw [and63]; omega
      have e2 := idxSg g2 (by omega)
      obtain ⟨pl, hpl⟩ : ∃ n, n = pre.length := ⟨_, rfl⟩
      have HPl : Hid (pl = pre.length) := hpl
      have HX : Hid (R = pre ++ ([sg g0, sg g1, sg g2])) := by show _ = _; rw [hpre, hd]
      have hbd : pl + 3 ≤ 200000 := by
        have h1 := congrArg List.length HX.out
        have h2 := HRl.out
        simp only [List.length_append, List.length_cons, List.length_nil] at h1
        omega
      rw [← hpl] at hown
      clear hpre hd hpl hN hg0 hg1 hg2
      go_upto_region 10 with fail
      clear ha hb o1
      go_region_law ((refine step_append_lies _ (by rfl) _ _ _ (by rfl) w.heap.size 5 i0 _ 1 1 Try.underlying29 hi hz0 hz1 hz2 rfl (by omega) _ _ _ (by rfl) ((hown.alloc _).drew) ⟨wr.heap.size, 0, none⟩ 2 2 [.int .u8 (sg g0), .int .u8 (sg g1)] (by rfl) (by rfl) (World.news_of_block (cs := #[.int .u8 (sg g0), .int .u8 (sg g1)]) (t := 5) (fr := (0, 0)) (heap_alloc_new wr _)) (by simp [Value.oneCell']) (by omega) (by unfold maxLen; omega) (by omega) (by simp; omega) (wr.heap.size + 1) (by simp) ?_; intro gg cap w1 hown1 hgrow hat hlt1))
      all_goals
        have hb1 : Below w.heap.size w w1 := ((hbel.alloc hsz _).drew).grown hgrow (by simp; omega) (fun j hj => (hown.lt j hj).1)
        have hs1 : w.heap.size ≤ w1.heap.size := hb1.size
        have HB1 : Hid (Below w.heap.size w w1) := hb1
        clear hgrow hat hlt1 hbel hb1 hown e0 e1 v0 v1
        go_wp2_with (at_builtin; refine wpList_append_own _ rfl _ _ 29 rfl w.heap.size 5 i0 (.int .u8 0) 1 1 Try.underlying29 hi hz0 hz1 hz2 rfl (by decide) _ _ _ rfl (hown1.alloc _) ⟨w1.heap.size, 0, none⟩ 1 1 [.int .u8 (sg g2)] rfl rfl ?c1 ?c2 ?c3 ?c4 ?c5 ?_)
        case c1 => exact cells_one (by simp)
        case c2 => intro u hu; simp at hu; subst hu; rfl
        case c3 => unfold maxLen; omega
        case c4 => omega
        case c5 => simp; omega
        intro x2 w2 hownw2 hgroww2 _
        have HBw2 : Hid (Below w.heap.size w w2) := (HB1.out.alloc (by omega) _).grown hgroww2 (by simp; omega) (fun j hj => (hown1.lt j hj).1)
        have hsw2 : w.heap.size ≤ w2.heap.size := HBw2.out.size
        clear hgroww2 hown1 e2 v2
        have ho : w2.ownsRow w.heap.size 5 1 x2 (pre ++ [sg g0, sg g1, sg g2]).length ((pre ++ [sg g0, sg g1, sg g2]).map (Value.int .u8)) := by
          simpa [List.map_append, HPl.out] using hownw2
        have HO : Hid _ := ho
        clear ho hownw2
        have HRe : Hid (R = (pre ++ [sg g0, sg g1, sg g2]) ++ b64I ((bts s).drop (k + 3))) := by
          show _ = _
          rw [HX.out, bts_end s (k + 3) (by omega)]
          simp [b64I, b64]
        clear HX
        go_wp2
        go_roundw
        case rel => exact ⟨k + 3, _, by go_num, by omega, HO.out, HRe.out, HBw2.out, HBw2.out.size⟩
        case measure => simp [RowKit.intOf]; omega
    have hd : b64I ((bts s).drop k) = [sg (s[k].toNat / 4), sg (s[k].toNat % 4 * 16)] := by
      rw [bts_drop s k hlt, bts_end s (k + 1) (by omega)]
      rfl
    have q3 : ¬ (k : Int) + 1 < (s.size : Int) := by omega
    have q4 : ¬ (k : Int) + 2 < (s.size : Int) := by omega
    obtain ⟨N, hN⟩ : ∃ N : Nat, N = s[k].toNat * 65536 := ⟨_, rfl⟩
    have o1 : (s[k].toNat : Int) * 65536 = (N : Int) := by omega
    obtain ⟨g0, hg0⟩ : ∃ g, g = s[k].toNat / 4 := ⟨_, rfl⟩
    rw [← hg0] at hd
    have v0 : bits .and .i64 (((N : Int) / 262144)) 63 = (g0 : Int) := by rw [and63]; omega
    have e0 := idxSg g0 (by omega)
    obtain ⟨g1, hg1⟩ : ∃ g, g = s[k].toNat % 4 * 16 := ⟨_, rfl⟩
    rw [← hg1] at hd
    have v1 : bits .and .i64 (((N : Int) / 4096)) 63 = (g1 : Int) := by rw [and63]; omega
    have e1 := idxSg g1 (by omega)
    obtain ⟨pl, hpl⟩ : ∃ n, n = pre.length := ⟨_, rfl⟩
    have HPl : Hid (pl = pre.length) := hpl
    have HX : Hid (R = pre ++ ([sg g0, sg g1])) := by show _ = _; rw [hpre, hd]
    have hbd : pl + 2 ≤ 200000 := by
      have h1 := congrArg List.length HX.out
      have h2 := HRl.out
      simp only [List.length_append, List.length_cons, List.length_nil] at h1
      omega
    rw [← hpl] at hown
    clear hpre hd hpl hN hg0 hg1
    go_upto_region 10 with fail
    clear ha o1
    go_region_law ((refine step_append_lies _ (by rfl) _ _ _ (by rfl) w.heap.size 5 i0 _ 1 1 Try.underlying29 hi hz0 hz1 hz2 rfl (by omega) _ _ _ (by rfl) ((hown.alloc _).drew) ⟨wr.heap.size, 0, none⟩ 2 2 [.int .u8 (sg g0), .int .u8 (sg g1)] (by rfl) (by rfl) (World.news_of_block (cs := #[.int .u8 (sg g0), .int .u8 (sg g1)]) (t := 5) (fr := (0, 0)) (heap_alloc_new wr _)) (by simp [Value.oneCell']) (by omega) (by unfold maxLen; omega) (by omega) (by simp; omega) (wr.heap.size + 1) (by simp) ?_; intro gg cap w1 hown1 hgrow hat hlt1))
    all_goals
      have hb1 : Below w.heap.size w w1 := ((hbel.alloc hsz _).drew).grown hgrow (by simp; omega) (fun j hj => (hown.lt j hj).1)
      have hs1 : w.heap.size ≤ w1.heap.size := hb1.size
      have HB1 : Hid (Below w.heap.size w w1) := hb1
      clear hgrow hat hlt1 hbel hb1 hown e0 e1 v0 v1
      have ho : w1.ownsRow w.heap.size 5 1 (.slice (some ⟨gg, 0, none⟩) (pl + 2) cap) (pre ++ [sg g0, sg g1]).length ((pre ++ [sg g0, sg g1]).map (Value.int .u8)) := by
        simpa [List.map_append, HPl.out] using hown1
      have HO : Hid _ := ho
      clear ho hown1
      have HRe : Hid (R = (pre ++ [sg g0, sg g1]) ++ b64I ((bts s).drop (k + 3))) := by
        show _ = _
        rw [HX.out, bts_end s (k + 3) (by omega)]
        simp [b64I, b64]
      clear HX
      go_wp2
      go_roundw
      case rel => exact ⟨k + 3, _, by go_num, by omega, HO.out, HRe.out, HB1.out, HB1.out.size⟩
      case measure => simp [RowKit.intOf]; omega
end Go.Proofs.Ytifkjelffalbhaa
