/- impl.Base64, walked. -/
import Derived.Test.YtmegmcngcehneaaGreatDoorJX34
namespace Go.Proofs.YtmegmcngcehneaaGreatDoor
open Go.RowKit Go.Lib

theorem conv_bts (W : World) (s : ByteArray) : ∃ (c : Nat) (W' : World), (convert 9 59 (.string s)).run Tryz.prog W = .ok (.slice (some ⟨W.heap.size, 0, none⟩) s.size c) W' ∧ IsBts W' (some ⟨W.heap.size, 0, none⟩) (bts s) ∧ Below W.heap.size W W' := by
  refine ⟨_, _, run_bytes_of_string W 9 59 5 s Tryz.underlying9 Tryz.underlying59 Tryz.underlying5, .inr ⟨W.heap.size, rfl, by show _ < (W.heap.push _).size; simp, fun i z hz => ?_⟩, (Below.refl _ W).drew.alloc (Nat.le_refl _) _⟩
  have hi : i < s.data.size := by
    have : i < (bts s).length := by
      rcases Nat.lt_or_ge i (bts s).length with h | h
      · exact h
      · rw [List.getElem?_eq_none h] at hz; cases hz
    rw [bts_len] at this
    exact this
  rw [cell_of_row _ W.heap.size i _ _ _ (heap_alloc_new W.drew _), bytesRow_at s _ i hi]
  simp only [bts, List.getElem?_map, Array.getElem?_toList, Array.getElem?_eq_getElem hi, Option.map_some, Option.some.injEq] at hz
  rw [← hz]
/-- The first k values are signs already. -/
def mixG (G : List Nat) (k : Nat) : List Int := (G.take k).map sg ++ (G.drop k).map (fun x : Nat => (x : Int))
theorem mixG_zero (G : List Nat) : mixG G 0 = G.map (fun x : Nat => (x : Int)) := by simp [mixG]
theorem mixG_all (G : List Nat) : mixG G G.length = G.map sg := by simp [mixG]
theorem mixG_len (G : List Nat) (k : Nat) : (mixG G k).length = G.length := by simp [mixG]; omega
theorem mixG_at (G : List Nat) {k z : Nat} (h : G[k]? = some z) : (mixG G k)[k]? = some (z : Int) := by
  have hk : k < G.length := by
    rcases Nat.lt_or_ge k G.length with h' | h'
    · exact h'
    · rw [List.getElem?_eq_none h'] at h; cases h
  have hl : ((G.take k).map sg).length = k := by simp; omega
  rw [mixG, List.getElem?_append_right (by omega), hl, Nat.sub_self, List.getElem?_map, List.getElem?_drop, Nat.add_zero, h]
  rfl
theorem mixG_set (G : List Nat) {k z : Nat} (h : G[k]? = some z) : (mixG G k).set k (sg z) = mixG G (k + 1) := by
  have hk : k < G.length := by
    rcases Nat.lt_or_ge k G.length with h' | h'
    · exact h'
    · rw [List.getElem?_eq_none h'] at h; cases h
  have hz : G[k] = z := by rw [List.getElem?_eq_getElem hk] at h; exact Option.some.inj h
  have hl : ((G.take k).map sg).length = k := by simp; omega
  rw [mixG, mixG, List.set_append_right _ _ (by omega), hl, Nat.sub_self, List.drop_eq_getElem_cons hk, List.map_cons, List.set_cons_zero, List.take_succ_eq_append_getElem hk, List.map_append, hz]
  simp
set_option linter.unusedSimpArgs false in
set_option maxHeartbeats 4000000 in
set_option maxRecDepth 100000 in
theorem implBase64 (s : ByteArray) (w : World) (hm : s.size ≤ maxLen) :
    Calls Tryz.prog 40 #[.string s] w fun e w' => e = .returned (.string (base64D s)) ∧ Below w.heap.size w w' := by
  unfold maxLen at hm
  by_cases h4 : 4000 < s.size
  · have HF : Hid (base64D s = ⟨#[]⟩) := by show _ = _; rw [base64D, if_pos h4]
    go_enter Tryz.func40, Tryz.ntmps40
    go_wp2
    go_ret
    exact ⟨by rw [HF.out]; rfl, Below.refl _ _⟩
  obtain ⟨i0, hi, hz0, hz1, hz2⟩ := info_parts infoByte
  obtain ⟨G, hG⟩ : ∃ G, G = b64 (bts s) := ⟨_, rfl⟩
  have HF : Hid (base64D s = strOfNums (G.map sg)) := by show _ = _; rw [base64D, if_neg h4, hG]; rfl
  have HGl : Hid (G.length ≤ 8000) := by show _ ≤ _; have := b64_len (bts s); rw [bts_len, ← hG] at this; omega
  have HGt : Hid (∀ y ∈ G, y < 64) := by show ∀ y ∈ G, _; rw [hG]; exact b64_lt _ (bts_lt s)
  have hr := b64_rgo (bts s)
  have HRg : Hid (∀ V a cap, IsBts V a (bts s) → Calls Tryz.prog 54 #[.slice a s.size cap, .int .i64 8, .int .i64 6] V fun e w' => ∃ v, e = .returned (.tuple #[v, .int .u8 (((rgo (bts s) 0 0).2.1 : Nat) : Int), .int .i64 (((rgo (bts s) 0 0).2.2 : Nat) : Int)]) ∧ OwnB w' V.heap.size v (rgo (bts s) 0 0).1 ∧ Below V.heap.size V w') := fun V a cap h => by
    have := implRegroup86 (bts s) a cap V (by rw [bts_len]; omega) (bts_lt s) h
    rw [bts_len] at this
    exact this
  obtain ⟨⟨R, RH, RC⟩, hR⟩ : ∃ R, R = rgo (bts s) 0 0 := ⟨_, rfl⟩
  rw [← hG, ← hR] at hr
  rw [← hR] at HRg
  simp only at hr HRg
  have HR : Hid (G = R ++ tailG (RH, RC)) := hr.1
  have HC : Hid (RC = 0 ∨ (RC = 2 ∧ RH < 4) ∨ (RC = 4 ∧ RH < 16)) := hr.2
  obtain ⟨c0, w1, hcv, hb1, hbb1⟩ := conv_bts w s
  have HB1 : Hid (Below w.heap.size w w1) := hbb1
  have HI1 : Hid _ := hb1
  clear hr hG hR hb1 hbb1
  go_enter Tryz.func40, Tryz.ntmps40
  go_wp2_with fail
  refine (HRg.out _ _ _ HI1.out).mono ?_
  rintro e w2 ⟨v, rfl, ho, b2⟩
  have HB2 : Hid (Below w.heap.size w w2) := HB1.out.trans (b2.mono HB1.out.size)
  have HO : Hid (OwnB w2 w1.heap.size v R) := ho
  have S1 : Hid (w.heap.size ≤ w1.heap.size ∧ w1.heap.size ≤ w2.heap.size) := ⟨HB1.out.size, b2.size⟩
  clear ho b2 hcv HI1 HRg HB1 h4 hm
  obtain ⟨va, vc, rfl, _⟩ := OwnB.form HO.out
  obtain ⟨ci, hci⟩ : ∃ ci : Int, ci = (RC : Int) := ⟨_, rfl⟩
  rw [← hci]
  go_upto_if 19 with fail
  go_cut [3, 4, 5] from 8 (fun s3 _ _ wx => OwnB wx w1.heap.size s3 G ∧ Below w.heap.size w wx)
  case first =>
    rcases HC.out with rfl | ⟨rfl, hh⟩ | ⟨rfl, hh⟩
    · obtain rfl : ci = 0 := hci
      have hG : G = R := by rw [HR.out]; simp [tailG]
      subst hG
      go_wp2_with fail
      go_meet
      case rel => exact ⟨HO.out, HB2.out⟩
    · obtain rfl : ci = 2 := hci
      obtain ⟨q, hq⟩ : ∃ q, q = RH * 16 := ⟨_, rfl⟩
      have hG : G = R ++ [q] := by rw [HR.out, hq]; simp [tailG]
      have sw : IntKind.u8.wrap ((RH : Int) * 16) = (q : Int) := by rw [IntKind.wrap_u8]; omega
      obtain ⟨pl, hpl⟩ : ∃ p, p = R.length := ⟨_, rfl⟩
      have HPl : Hid (pl = R.length) := hpl
      have hO : w2.ownsRow w1.heap.size 5 1 (.slice va pl vc) pl ((R.map (fun x : Nat => (x : Int))).map (Value.int .u8)) := by
        have h2 := HO.out
        unfold OwnB at h2
        rw [← hpl] at h2
        exact h2
      have hbd : pl + 1 ≤ 8000 := by
        have h1 := HGl.out
        rw [hG, List.length_append, ← hpl] at h1
        exact h1
      rw [← hpl]
      have HGG : Hid (G = R ++ [q]) := hG
      clear hpl hq hG
      go_wp2_with (at_builtin; refine wpList_append_own _ rfl _ _ 59 rfl w1.heap.size 5 i0 (.int .u8 0) 1 1 Tryz.underlying59 hi hz0 hz1 hz2 rfl (by decide) _ _ _ rfl (hO.alloc _) ⟨w2.heap.size, 0, none⟩ 1 1 [.int .u8 (q : Int)] rfl rfl (cells_one (by simp)) (by simp [Value.oneCell']) ?c3 ?c4 ?c5 ?_)
      case c3 => unfold maxLen; omega
      case c4 => omega
      case c5 => have := S1.out; simp; omega
      intro y w3 hown3 hgrow3 _
      have B3 : Hid (Below w.heap.size w w3) := (HB2.out.alloc (by have := S1.out; omega) _).grown hgrow3 (by have := S1.out; simp; omega) (fun j hj => by have := (hO.lt j hj).1; have := S1.out; omega)
      have O3 : Hid (OwnB w3 w1.heap.size y G) := by
        show World.ownsRow _ _ _ _ _ _ _
        rw [HGG.out, List.length_append, ← HPl.out]
        simpa [List.map_append] using hown3
      clear hgrow3 hown3 hO
      go_wp2
      go_meet
      case rel => exact ⟨O3.out, B3.out⟩
    · obtain rfl : ci = 4 := hci
      obtain ⟨q, hq⟩ : ∃ q, q = RH * 4 := ⟨_, rfl⟩
      have hG : G = R ++ [q] := by rw [HR.out, hq]; simp [tailG]
      have sw : IntKind.u8.wrap ((RH : Int) * 4) = (q : Int) := by rw [IntKind.wrap_u8]; omega
      obtain ⟨pl, hpl⟩ : ∃ p, p = R.length := ⟨_, rfl⟩
      have HPl : Hid (pl = R.length) := hpl
      have hO : w2.ownsRow w1.heap.size 5 1 (.slice va pl vc) pl ((R.map (fun x : Nat => (x : Int))).map (Value.int .u8)) := by
        have h2 := HO.out
        unfold OwnB at h2
        rw [← hpl] at h2
        exact h2
      have hbd : pl + 1 ≤ 8000 := by
        have h1 := HGl.out
        rw [hG, List.length_append, ← hpl] at h1
        exact h1
      rw [← hpl]
      have HGG : Hid (G = R ++ [q]) := hG
      clear hpl hq hG
      go_wp2_with (at_builtin; refine wpList_append_own _ rfl _ _ 59 rfl w1.heap.size 5 i0 (.int .u8 0) 1 1 Tryz.underlying59 hi hz0 hz1 hz2 rfl (by decide) _ _ _ rfl (hO.alloc _) ⟨w2.heap.size, 0, none⟩ 1 1 [.int .u8 (q : Int)] rfl rfl (cells_one (by simp)) (by simp [Value.oneCell']) ?d3 ?d4 ?d5 ?_)
      case d3 => unfold maxLen; omega
      case d4 => omega
      case d5 => have := S1.out; simp; omega
      intro y w3 hown3 hgrow3 _
      have B3 : Hid (Below w.heap.size w w3) := (HB2.out.alloc (by have := S1.out; omega) _).grown hgrow3 (by have := S1.out; simp; omega) (fun j hj => by have := (hO.lt j hj).1; have := S1.out; omega)
      have O3 : Hid (OwnB w3 w1.heap.size y G) := by
        show World.ownsRow _ _ _ _ _ _ _
        rw [HGG.out, List.length_append, ← HPl.out]
        simpa [List.map_append] using hown3
      clear hgrow3 hown3 hO
      go_wp2
      go_meet
      case rel => exact ⟨O3.out, B3.out⟩
  obtain ⟨ho, hb⟩ := hcut
  have B3 : Hid (Below w.heap.size w wc) := hb
  have O3 : Hid (OwnB wc w1.heap.size u3 G) := ho
  clear ho hb HO HB2 HC HR
  obtain ⟨ga, gc, rfl, hgc⟩ := OwnB.form O3.out
  obtain ⟨n, hn⟩ : ∃ n, n = G.length := ⟨_, rfl⟩
  rw [← hn] at O3 ⊢
  have HN : Hid (n = G.length) := hn
  clear hn hgc
  have hn5 : n ≤ 8000 := by rw [HN.out]; exact HGl.out
  go_wp2_with fail
  go_loopw [29] (fun i wr => ∃ (k : Nat), i = .int .i64 k ∧ k ≤ n ∧ wr.ownsRow w1.heap.size 5 1 (.slice ga n gc) n ((mixG G k).map (Value.int .u8)) ∧ Below w.heap.size w wr)
    (fun i _ => n - (RowKit.intOf i).toNat)
  case atStart =>
    refine ⟨0, rfl, Nat.zero_le _, ?_, B3.out⟩
    have h2 := O3.out
    unfold OwnB at h2
    rw [← HN.out] at h2
    rw [mixG_zero]
    exact h2
  case round =>
    obtain ⟨k, rfl, hk, hown, hbel⟩ := hrel
    by_cases hlt : k < n
    rotate_left
    · obtain rfl : k = n := by omega
      have q2 : ¬ (k : Int) < (k : Int) := by omega
      have hx : mixG G k = G.map sg := by rw [HN.out]; exact mixG_all G
      rw [hx] at hown
      have hcv := run_convert_own (P := Tryz.prog) (src := 59) (dst := 9) Tryz.underlying59 Tryz.underlying5 Tryz.underlying9 hown
      have HBl : Hid (Below w.heap.size w wr) := hbel
      clear hown hbel hx hlt hk O3 B3
      go_wp2
      go_ret
      exact ⟨by rw [HF.out]; rfl, HBl.out⟩
    have hkG : k < G.length := by have := HN.out; omega
    obtain ⟨z, hz⟩ : ∃ z, G[k]? = some z := ⟨G[k], List.getElem?_eq_getElem hkG⟩
    have hzl : z < 64 := HGt.out z (List.mem_of_getElem? hz)
    obtain ⟨g, rfl⟩ : ∃ g, ga = some ⟨g, 0, none⟩ := by
      rcases hown.2 with ⟨_, h⟩ | ⟨g, _, _, e, _⟩
      · omega
      · simp only [Value.slice.injEq] at e
        exact ⟨g, e.1⟩
    have hcell : wr.cell? ⟨g, k, none⟩ = some (.int .u8 (z : Int)) := by
      rw [hown.cellAt k (by omega), List.getElem?_map, mixG_at G hz]
      rfl
    have hfr := hown.frozenAt k
    have hst := hown.stored k (.int .u8 (sg z))
    have hge : w.heap.size ≤ g := by
      have := (hown.lt g rfl).1
      have := S1.out.1
      omega
    have HW : Hid ((wr.setCell ⟨g, k, none⟩ (.int .u8 (sg z))).ownsRow w1.heap.size 5 1 (.slice (some ⟨g, 0, none⟩) n gc) n ((mixG G (k + 1)).map (Value.int .u8))) := by
      have h2 := hst.1
      rw [← mixG_set G hz, List.map_set]
      exact h2
    have HBl : Hid (Below w.heap.size w (wr.setCell ⟨g, k, none⟩ (.int .u8 (sg z)))) := hbel.setCell hge _
    have q1 : (0 : Int) ≤ (k : Int) := Int.natCast_nonneg _
    have q2 : (k : Int) < (n : Int) := by omega
    have e1 := idxSg8 z hzl
    clear hown hst hbel hz hkG hge O3 B3
    go_wp2
    go_roundw
    case rel => exact ⟨k + 1, by go_num, by omega, HW.out, HBl.out⟩
    case measure => simp [RowKit.intOf]; omega
end Go.Proofs.YtmegmcngcehneaaGreatDoor
