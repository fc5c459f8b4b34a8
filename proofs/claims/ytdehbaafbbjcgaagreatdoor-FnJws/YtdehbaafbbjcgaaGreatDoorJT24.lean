/- A row of texts of the call's own. spec.l01Split at a dot, walked. spec.l09Sign, walked. -/
import Derived.Test.YtdehbaafbbjcgaaGreatDoorJT04
import Derived.Test.YtdehbaafbbjcgaaGreatDoorJT12
import Derived.Deep.Cut
import Derived.Test.YtdehbaafbbjcgaaGreatDoorJT11
namespace Go.Proofs.YtdehbaafbbjcgaaGreatDoor
open Go.RowKit

def OwnS (w : World) (B : Nat) (v : Value) (l : List ByteArray) : Prop := w.ownsRow B 9 1 v l.length (sCells l)
theorem OwnS.keep {w w' : World} {B : Nat} {v : Value} {l : List ByteArray} (h : OwnS w B v l) (hb : Below w.heap.size w w') : OwnS w' B v l := by
  refine ⟨h.1, ?_⟩
  rcases h.2 with h | ⟨g, cap, cur, e, h1, h2, h3⟩
  · exact .inl h
  · exact .inr ⟨g, cap, cur, e, h1, by rw [hb.block g (heap_lt h2)]; exact h2, h3⟩
theorem OwnS.mono {w : World} {B B' : Nat} {v : Value} {l : List ByteArray} (h : OwnS w B v l) (hB : B' ≤ B) : OwnS w B' v l := by
  refine ⟨h.1, ?_⟩
  rcases h.2 with h | ⟨g, cap, cur, e, h1, h3⟩
  · exact .inl h
  · exact .inr ⟨g, cap, cur, e, Nat.le_trans hB h1, h3⟩
theorem OwnS.form {w : World} {B : Nat} {v : Value} {l : List ByteArray} (h : OwnS w B v l) : ∃ a c, v = .slice a l.length c ∧ l.length ≤ c := by
  rcases h.2 with ⟨h, h'⟩ | ⟨g, cap, _, e, _, _, hc, _⟩
  · exact ⟨none, 0, by rw [h']; exact h, by omega⟩
  · exact ⟨_, _, e, hc⟩
theorem ownS_nil (w : World) (B : Nat) : OwnS w B (.slice none 0 0) [] := ⟨rfl, .inl ⟨rfl, rfl⟩⟩
theorem OwnS.strs {w : World} {B : Nat} {a : Option Addr} {n c : Nat} {l : List ByteArray} (h : OwnS w B (.slice a n c) l) : IsStrs w a l := by
  rcases h.2 with ⟨_, h'⟩ | ⟨g, cap, cur, e, _, hg, _, _, _, ht⟩
  · exact .inl (List.eq_nil_of_length_eq_zero h')
  · simp only [Value.slice.injEq] at e
    obtain ⟨rfl, _, _⟩ := e
    refine .inr ⟨g, 0, rfl, fun i hi => ?_⟩
    have k0 := sCells_at hi
    rw [← ht, List.getElem?_take, if_pos (by omega)] at k0
    rw [Nat.zero_add, cell_of_row w g _ _ _ (0, 0) hg]
    simpa using k0
theorem OwnS.ge {w : World} {B g : Nat} {v : Value} {l : List ByteArray} (h : OwnS w B v l) (e : v.ownBlock = some g) : B ≤ g ∧ g < w.heap.size :=
  (show World.ownsRow w B 9 1 v l.length (sCells l) from h).lt g e
/-- It stands where its blocks are as they were. -/
theorem OwnS.same {w w' : World} {B : Nat} {v : Value} {l : List ByteArray} (h : OwnS w B v l) (hs : ∀ k, B ≤ k → k < w.heap.size → w'.heap[k]? = w.heap[k]?) : OwnS w' B v l := by
  refine ⟨h.1, ?_⟩
  rcases h.2 with h | ⟨g, cap, cur, e, h1, h2, h3⟩
  · exact .inl h
  · exact .inr ⟨g, cap, cur, e, h1, by rw [hs g h1 (heap_lt h2)]; exact h2, h3⟩
theorem take_snoc (l : List ByteArray) {k : Nat} (h : k < l.length) : l.take (k + 1) = l.take k ++ [tAt l k] := by
  rw [List.take_succ_eq_append_getElem h, tAt, List.getD, List.getElem?_eq_getElem h]; rfl
/-- It stands where all blocks but one that is not its own are as they were. -/
theorem OwnS.off {w w' : World} {B q : Nat} {v : Value} {l : List ByteArray} (h : OwnS w B v l) (hq : v.ownBlock ≠ some q) (hs : ∀ k, k ≠ q → w'.heap[k]? = w.heap[k]?) : OwnS w' B v l := by
  refine ⟨h.1, ?_⟩
  rcases h.2 with h | ⟨g, cap, cur, e, h1, h2, h3⟩
  · exact .inl h
  · exact .inr ⟨g, cap, cur, e, h1, by rw [hs g (fun e' => hq (by rw [e, ← e']; rfl))]; exact h2, h3⟩
theorem oneCell_texts (l : List ByteArray) : ∀ u ∈ sCells l, u.oneCell' = true := by
  intro u hu
  simp only [sCells, List.mem_map] at hu
  obtain ⟨s, _, rfl⟩ := hu
  rfl
end Go.Proofs.YtdehbaafbbjcgaaGreatDoor
namespace Go.Proofs.YtdehbaafbbjcgaaGreatDoor
open Go.RowKit Go.Lib

set_option linter.unusedSimpArgs false in
set_option maxHeartbeats 4000000 in
set_option maxRecDepth 100000 in
theorem specSplit (s : ByteArray) (w : World) (hs : s.size ≤ 20000) :
    Calls Tryz.prog 69 #[.string s, .int .u8 46] w fun e w' => ∃ v, e = .returned v ∧ OwnS w' w.heap.size v (pcs s) ∧ Below w.heap.size w w' := by
  obtain ⟨i0, hi, hz0, hz1, hz2⟩ := info_parts infoText
  obtain ⟨R, hR⟩ : ∃ R, R = pcs s := ⟨_, rfl⟩
  have hRl := pcs_len s
  rw [← hR] at hRl ⊢
  have HRl : Hid (R.length ≤ 20001) := by show _ ≤ _; omega
  have HR : Hid (R = [] ++ (spl ((bts s).drop 0) (((bts s).drop 0).take (0 - 0))).map natT) := by show _ = _; rw [hR]; simp [pcs]
  clear hR hRl
  go_enter Tryz.func69, Tryz.ntmps69
  go_wp2
  go_loopw [5, 6, 7] (fun v f i wr => ∃ (k j : Nat) (pre : List ByteArray), i = .int .i64 k ∧ f = .int .i64 j ∧ j ≤ k ∧ k ≤ s.size ∧ OwnS wr w.heap.size v pre ∧ R = pre ++ (spl ((bts s).drop k) (((bts s).drop j).take (k - j))).map natT ∧ Below w.heap.size w wr) (fun _ _ i _ => s.size - (RowKit.intOf i).toNat)
  case atStart =>
    exact ⟨0, 0, [], rfl, rfl, Nat.le_refl _, Nat.zero_le _, World.ownsRow_made _ #[] 0 (Nat.le_refl _) (Nat.zero_le _) rfl, HR.out, (Below.refl _ _).alloc (Nat.le_refl _) _⟩
  case round =>
    obtain ⟨k, j, pre, rfl, rfl, hj, hk, hown, hat, hbel⟩ := hrel
    have HB : Hid (Below w.heap.size w wr) := hbel
    have HO : Hid (OwnS wr w.heap.size _ pre) := hown
    have HT : Hid _ := hat
    have hsz : w.heap.size ≤ wr.heap.size := hbel.size
    clear hown hat hbel HR
    obtain ⟨va, vc, rfl, _⟩ := OwnS.form HO.out
    obtain ⟨pl, hpl⟩ : ∃ p, p = pre.length := ⟨_, rfl⟩
    have HPl : Hid (pl = pre.length) := hpl
    have hO : wr.ownsRow w.heap.size 9 1 (.slice va pl vc) pl (sCells pre) := by
      have h2 := HO.out
      unfold OwnS at h2
      rw [← hpl] at h2
      exact h2
    rw [← hpl]
    clear hpl
    by_cases hlt : k < s.size
    rotate_left
    · obtain rfl : k = s.size := by omega
      have hRp : R = pre ++ [s.extract j s.size] := by
        rw [HT.out, bts_end s _ (Nat.le_refl _), spl, List.map_cons, List.map_nil, natT_extract s j s.size]
      have hbd : pl + 1 ≤ 20001 := by
        have h1 := HRl.out
        rw [hRp, List.length_append] at h1
        rw [HPl.out]
        exact h1
      have q2 : ¬ (s.size : Int) < (s.size : Int) := by omega
      have q3 : (0 : Int) ≤ (j : Int) := Int.natCast_nonneg _
      have q4 : (j : Int) ≤ (s.size : Int) := by omega
      have HRp : Hid (R = pre ++ [s.extract j s.size]) := hRp
      clear hRp HT
      go_wp2_with (at_builtin; refine wpList_append_own _ rfl _ _ 50 rfl w.heap.size 9 i0 (.string ⟨#[]⟩) 1 16 Tryz.underlying50 hi hz0 hz1 hz2 rfl (by decide) _ _ _ rfl (hO.alloc _) ⟨wr.heap.size, 0, none⟩ 1 1 [.string (s.extract j s.size)] rfl rfl (cells_one (by simp)) (by simp [Value.oneCell']) (by unfold maxLen; omega) (by omega) (by simp; omega) ?_)
      intro y w2 hown2 hgrow2 _
      have B2 : Hid (Below w.heap.size w w2) := (HB.out.alloc hsz _).grown hgrow2 (by simp; omega) (fun j hj => (hO.lt j hj).1)
      have O2 : Hid (OwnS w2 w.heap.size y (pre ++ [s.extract j s.size])) := by
        show World.ownsRow _ _ _ _ _ _ _
        rw [List.length_append, ← HPl.out, sCells, List.map_append]
        exact hown2
      clear hown2 hgrow2 hO HO HB
      go_wp2
      go_ret
      exact ⟨_, rfl, by rw [HRp.out]; exact O2.out, B2.out⟩
    have q1 : (0 : Int) ≤ (k : Int) := Int.natCast_nonneg _
    have q2 : (k : Int) < (s.size : Int) := by omega
    have q3 : (0 : Int) ≤ (j : Int) := Int.natCast_nonneg _
    have q4 : (j : Int) ≤ (k : Int) := by omega
    have q5 : (k : Int) ≤ (s.size : Int) := by omega
    have hdk := bts_drop s k hlt
    have htk : ((bts s).drop j).take (k + 1 - j) = ((bts s).drop j).take (k - j) ++ [s[k].toNat] := by
      have hl : k - j < ((bts s).drop j).length := by rw [List.length_drop, bts_len]; omega
      rw [show k + 1 - j = k - j + 1 from by omega, List.take_succ_eq_append_getElem hl]
      congr 2
      have h2 := congrArg (fun l => l[0]?) hdk
      rw [List.getElem?_drop, List.getElem?_cons_zero, Nat.add_zero] at h2
      rw [List.getElem_drop]
      have h3 : j + (k - j) = k := by omega
      have h4 : (bts s)[j + (k - j)]? = some s[k].toNat := by rw [h3]; exact h2
      rw [List.getElem?_eq_getElem (by rw [bts_len]; omega)] at h4
      exact Option.some.inj h4
    have hu := u8_lt s[k]
    by_cases h46 : s[k].toNat = 46
    · have hb : ((s[k].toNat : Int) == 46) = true := by rw [h46]; rfl
      have HRp : Hid (R = (pre ++ [s.extract j k]) ++ (spl ((bts s).drop (k + 1)) (((bts s).drop (k + 1)).take (k + 1 - (k + 1)))).map natT) := by
        show _ = _
        rw [HT.out, hdk, spl, if_pos h46, List.map_cons, natT_extract s j k]
        simp
      have hbd : pl + 1 ≤ 20001 := by
        have h1 := HRl.out
        rw [HRp.out, List.length_append, List.length_append] at h1
        rw [HPl.out]
        simp only [List.length_cons, List.length_nil] at h1
        omega
      clear hdk htk HT h46 hu
      go_wp2_with (at_builtin; refine wpList_append_own _ rfl _ _ 50 rfl w.heap.size 9 i0 (.string ⟨#[]⟩) 1 16 Tryz.underlying50 hi hz0 hz1 hz2 rfl (by decide) _ _ _ rfl (hO.alloc _) ⟨wr.heap.size, 0, none⟩ 1 1 [.string (s.extract j k)] rfl rfl (cells_one (by simp)) (by simp [Value.oneCell']) (by unfold maxLen; omega) (by omega) (by simp; omega) ?_)
      intro y w2 hown2 hgrow2 _
      have B2 : Hid (Below w.heap.size w w2) := (HB.out.alloc hsz _).grown hgrow2 (by simp; omega) (fun j hj => (hO.lt j hj).1)
      have O2 : Hid (OwnS w2 w.heap.size y (pre ++ [s.extract j k])) := by
        show World.ownsRow _ _ _ _ _ _ _
        rw [List.length_append, ← HPl.out, sCells, List.map_append]
        exact hown2
      clear hown2 hgrow2 hO HO HB
      go_wp2
      go_roundw
      case rel => exact ⟨k + 1, k + 1, _, by go_num, by go_num, Nat.le_refl _, by omega, O2.out, HRp.out, B2.out⟩
      case measure => simp [RowKit.intOf]; omega
    · have hb : ((s[k].toNat : Int) == 46) = false := by
        rw [beq_eq_false_iff_ne]
        omega
      have HRp : Hid (R = pre ++ (spl ((bts s).drop (k + 1)) (((bts s).drop j).take (k + 1 - j))).map natT) := by
        show _ = _
        rw [HT.out, hdk, spl, if_neg h46, htk]
      clear hdk htk HT hO
      go_wp2
      go_roundw
      case rel => exact ⟨k + 1, j, pre, by go_num, by go_num, by omega, by omega, by have h2 := HO.out; rw [← HPl.out] at h2; exact h2, HRp.out, HB.out⟩
      case measure => simp [RowKit.intOf]; omega
end Go.Proofs.YtdehbaafbbjcgaaGreatDoor
namespace Go.Proofs.YtdehbaafbbjcgaaGreatDoor
open Go.RowKit Go.Lib

set_option maxHeartbeats 4000000 in
set_option maxRecDepth 100000 in
theorem specSgn (c : Nat) (w : World) :
    Calls Tryz.prog 48 #[.int .u8 (c : Int)] w fun e w' => e = .returned (.int .i64 (sgk c)) ∧ w' = w := by
  go_enter Tryz.func48, Tryz.ntmps48
  go_wp2
  go_loopw [3] (fun i wr => ∃ k : Nat, k ≤ 64 ∧ i = .int .i64 k ∧ wr = w ∧ ∀ q, q < k → sg q ≠ (c : Int)) (fun i _ => 64 - (RowKit.intOf i).toNat)
  case atStart => exact ⟨0, Nat.zero_le _, rfl, rfl, fun q hq => by omega⟩
  case round =>
    obtain ⟨k, hk, rfl, rfl, hq⟩ := hrel
    have HQ : Hid (∀ q, q < k → sg q ≠ (c : Int)) := hq
    clear hq
    by_cases hlt : k < 64
    · have e1 := idxSg k hlt
      have q2 : (k : Int) < 64 := by omega
      by_cases he : sg k = (c : Int)
      · have HF : Hid (sgk c = (k : Int)) := by show _ = _; rw [sgk, sgi_eq hlt he]
        have hb : (sg k == (c : Int)) = true := by rw [he]; simp
        go_wp2
        go_ret
        exact ⟨by rw [HF.out]; rfl, rfl⟩
      · have hb : (sg k == (c : Int)) = false := by simpa using he
        go_wp2
        go_roundw
        case rel => exact ⟨k + 1, by omega, by go_num, trivial, fun q hq => by
          by_cases e : q = k
          · subst e; exact he
          · exact HQ.out q (by omega)⟩
        case measure => simp [RowKit.intOf]; omega
    · obtain rfl : k = 64 := by omega
      have HF : Hid (sgk c = -1) := by
        show _ = _
        rw [sgk]
        cases hh : sgi c with
        | none => rfl
        | some q => exact absurd (sgi_some hh).2 (HQ.out q (sgi_some hh).1)
      go_wp2
      go_ret
      exact ⟨by rw [HF.out]; rfl, rfl⟩
end Go.Proofs.YtdehbaafbbjcgaaGreatDoor
