/- impl.readMore, walked. -/
import Derived.Test.YtkhdjmjbdpmdnaaGreatDoorCR25
import Derived.Test.YtkhdjmjbdpmdnaaGreatDoorCR21
import Derived.Test.YtkhdjmjbdpmdnaaGreatDoorCR38
import Derived.Test.YtkhdjmjbdpmdnaaGreatDoorCR12
namespace Go.Proofs.YtkhdjmjbdpmdnaaGreatDoor
open Go.RowKit

/-- What a part of what is more adds. -/
def partR (m : List ByteArray × Bool) (p : ByteArray) : List ByteArray × Bool :=
  (if (oidR (atP p [0])).1 = [2, 5, 29, 17] then bodiesR (atP p [1, 0]) else m.1, if (oidR (atP p [0])).1 = [2, 5, 29, 19] then true else m.2)
def partsR (m : List ByteArray × Bool) (l : List (Int × ByteArray)) : List ByteArray × Bool := l.foldl (fun m q => partR m q.2) m
def moreR (m : List ByteArray × Bool) (l : List (Int × ByteArray)) : List ByteArray × Bool := l.foldl (fun m q => partsR m (allD (atP q.2 [0])).1) m
/-- All blocks but one are as they were. -/
def But (mb : Nat) (w w' : World) : Prop := w.heap.size ≤ w'.heap.size ∧ ∀ b, b ≠ mb → b < w.heap.size → w'.heap[b]? = w.heap[b]?
theorem But.of {mb : Nat} {w w' : World} (h : Below w.heap.size w w') : But mb w w' := ⟨h.size, fun b _ hb => h.block b hb⟩
theorem But.refl (mb : Nat) (w : World) : But mb w w := ⟨Nat.le_refl _, fun _ _ _ => rfl⟩
theorem But.trans {mb : Nat} {a b c : World} (h : But mb a b) (h' : But mb b c) : But mb a c := ⟨Nat.le_trans h.1 h'.1, fun k hk hl => (h'.2 k hk (Nat.lt_of_lt_of_le hl h.1)).trans (h.2 k hk hl)⟩
theorem But.set {mb o : Nat} {w w' : World} (h : But mb w w') (v : Value) : But mb w (w'.setCell ⟨mb, o, none⟩ v) := ⟨by simpa using h.1, fun b hb hl => (heap_setCell_other w' _ b _ hb).trans (h.2 b hb hl)⟩
theorem IsTo.but {mb : Nat} {w w' : World} {a : Option Addr} {l : List (Int × ByteArray)} (h : IsTo w a l) (hb : But mb w w') (hn : ∀ x, a = some x → x.block ≠ mb) : IsTo w' a l := by
  rcases h with h | ⟨g, o, rfl, hg, hc⟩
  · exact .inl h
  · have e := hb.2 g (hn _ rfl) hg
    have ec : ∀ o, w'.cell? ⟨g, o, none⟩ = w.cell? ⟨g, o, none⟩ := fun o => by unfold World.cell?; simp only [e]
    exact .inr ⟨g, o, rfl, Nat.lt_of_lt_of_le hg hb.1, fun i p hp => by rw [ec, ec]; exact hc i p hp⟩
theorem foldl_take {α β : Type} (f : β → α → β) (b : β) (l : List α) {k : Nat} {y : α} (h : l[k]? = some y) : (l.take (k + 1)).foldl f b = f ((l.take k).foldl f b) y := by
  rw [List.take_add_one, h, List.foldl_append]
  rfl
set_option linter.unusedSimpArgs false in
set_option maxHeartbeats 4000000 in
set_option maxRecDepth 100000 in
theorem implReadMore (a : Option Addr) (L : List (Int × ByteArray)) (c : Nat) (w : World) (hE : ErrType w) (hL : L.length ≤ 60) (ha : IsTo w a L) (hz : ∀ p ∈ L, p.2.size ≤ 4000) :
    Calls Tryz.prog 147 #[.slice a L.length c] w fun e w' => ∃ v, e = .returned (.agg #[v, .bool (moreR ([], false) L).2]) ∧ OwnS w' w.heap.size v (moreR ([], false) L).1 ∧ Below w.heap.size w w' := by
  have hEp := hE.pos
  have HE : Hid (∀ V, Below w.heap.size w V → ErrType V) := fun V hV => hE.below hV hEp
  have HAt1 : Hid (∀ V q, q.size ≤ 4000 → Below w.heap.size w V → Calls Tryz.prog 144 #[.string q, .slice (some ⟨V.heap.size, 0, none⟩) 1 1] (V.alloc (.cells #[.int .i64 0] 3 (0, 0))) fun e w' => e = .returned (.string (atP q [0])) ∧ Below V.heap.size V w') := fun V q hq hV => by
    have hA : Below V.heap.size V (V.alloc (.cells #[.int .i64 0] 3 (0, 0))) := (Below.refl _ V).alloc (Nat.le_refl _) _
    refine (implAt q [0] V.heap.size 1 _ (by omega) (by show 1 ≤ 4; omega) (fun i hi => ?_) (by simp) (IsPl.row (t := 3) (heap_alloc_new V _)) (HE.out _ (hV.trans (hA.mono hV.size)))).mono ?_
    · obtain rfl : i = 0 := by simp at hi; omega
      show 0 ≤ 100
      omega
    · rintro e w' ⟨rfl, hb⟩
      exact ⟨rfl, hA.trans (hb.mono (by simp))⟩
  have HAt2 : Hid (∀ V q, q.size ≤ 4000 → Below w.heap.size w V → Calls Tryz.prog 144 #[.string q, .slice (some ⟨V.heap.size, 0, none⟩) 2 2] (V.alloc (.cells #[.int .i64 1, .int .i64 0] 3 (0, 0))) fun e w' => e = .returned (.string (atP q [1, 0])) ∧ Below V.heap.size V w') := fun V q hq hV => by
    have hA : Below V.heap.size V (V.alloc (.cells #[.int .i64 1, .int .i64 0] 3 (0, 0))) := (Below.refl _ V).alloc (Nat.le_refl _) _
    refine (implAt q [1, 0] V.heap.size 2 _ (by omega) (by show 2 ≤ 4; omega) (fun i hi => ?_) (by simp) (IsPl.row (t := 3) (heap_alloc_new V _)) (HE.out _ (hV.trans (hA.mono hV.size)))).mono ?_
    · have : i = 0 ∨ i = 1 := by simp at hi; omega
      rcases this with rfl | rfl <;> simp [List.getD]
    · rintro e w' ⟨rfl, hb⟩
      exact ⟨rfl, hA.trans (hb.mono (by simp))⟩
  have HAl : Hid (∀ V q, q.size ≤ 4000 → Below w.heap.size w V → Calls Tryz.prog 145 #[.string q] V fun e w' => ∃ v, e = .returned (.agg #[v, .int .i64 (allD q).2]) ∧ OwnT w' V.heap.size v (allD q).1 ∧ Below V.heap.size V w') := fun V q hq hV => implDerAll q V (by unfold maxLen; omega) (HE.out V hV)
  have HOi : Hid (∀ V q, q.size ≤ 4000 → Calls Tryz.prog 187 #[.string q] V fun e w' => ∃ v, e = .returned (.agg #[v, .int .i64 (oidR q).2]) ∧ OwnL w' V.heap.size v (oidR q).1 ∧ Below V.heap.size V w') := fun V q hq => implOidRead q V (by unfold maxLen; omega)
  have HNa : Hid (∀ V q, q.size ≤ 4000 → Below w.heap.size w V → Calls Tryz.prog 153 #[.string q] V fun e w' => ∃ v, e = .returned v ∧ OwnS w' V.heap.size v (bodiesR q) ∧ Below V.heap.size V w') := fun V q hq hV => implReadNames q V (by omega) (HE.out V hV)
  have HAr : Hid (∀ (V : World) (n : Int), Calls Tryz.prog 183 #[.int .i64 n] V fun e w' => e = .returned (.slice (some ⟨V.heap.size, 0, none⟩) 4 4) ∧ w'.heap[V.heap.size]? = some (.cells #[.int .i64 2, .int .i64 5, .int .i64 29, .int .i64 n] 2 (0, 0)) ∧ Below V.heap.size V w') := fun V n => implArcs n V
  have tl := tlvs
  have od : ∀ (v : Value) (n : Int) (W : World), (Instr.field 188 (.agg #[v, .int .i64 n]) 0).run Tryz.prog W = .ok v W := fun v n W => by kernel_rfl
  have HOl : Hid (∀ q, (oidR q).1.length ≤ 1048576) := fun q => by have := oidR_len q; omega
  have HLe : Hid (∀ q k, q.size ≤ 4000 → (atP q [k]).size ≤ 4000) := fun q k h => Nat.le_trans (atP_le [k] q) h
  have HLe2 : Hid (∀ q, q.size ≤ 4000 → (atP q [1, 0]).size ≤ 4000) := fun q h => Nat.le_trans (atP_le [1, 0] q) h
  obtain ⟨w1, hw1⟩ : ∃ y, y = (w.alloc (.cells #[.slice none 0 0, .bool false] 79 (0, 0))).alloc (.cells #[.slice none 0 0, .bool false] 79 (0, 0)) := ⟨_, rfl⟩
  have G1 : Hid (w1.heap[w.heap.size + 1]? = some (.cells [Value.slice none 0 0, .bool false].toArray 79 (0, 0))) := by show _ = _; rw [hw1]; exact heap_alloc2 w _ _
  have GR1 : Hid (w1.heap[w.heap.size]? = some (.cells [Value.slice none 0 0, .bool false].toArray 79 (0, 0))) := by show _ = _; rw [hw1, Below.heap_alloc _ _ _ (by simp)]; exact heap_alloc_new w _
  have B1 : Hid (Below w.heap.size w w1) := by rw [hw1]; exact ((Below.refl _ w).alloc (Nat.le_refl _) _).alloc (by simp) _
  have Z1 : Hid (w1.heap.size = w.heap.size + 2) := by show _ = _; rw [hw1]; simp
  have HA : Hid (IsTo w a L) := ha
  have HZ : Hid (∀ p ∈ L, p.2.size ≤ 4000) := hz
  obtain ⟨R, hR⟩ : ∃ R, R = moreR ([], false) L := ⟨_, rfl⟩
  rw [← hR]
  have HR : Hid (R = moreR ([], false) L) := hR
  obtain ⟨ll, hll⟩ : ∃ ll, ll = L.length := ⟨_, rfl⟩
  have HLl : Hid (ll = L.length) := hll
  rw [← hll] at hL ⊢
  clear hE hEp ha hz hR hll
  go_enter Tryz.func147, Tryz.ntmps147
  go_wp2_with fail
  rw [← hw1]
  clear hw1
  go_loopw [11] (fun i wr => ∃ (k : Nat) (v : Value) (st : List ByteArray × Bool), k ≤ ll ∧ i = .int .i64 k ∧ st = moreR ([], false) (L.take k) ∧ But (w.heap.size + 1) w1 wr ∧ Below w.heap.size w wr ∧ wr.heap[w.heap.size + 1]? = some (.cells [v, .bool st.2].toArray 79 (0, 0)) ∧ OwnS wr (w.heap.size + 2) v st.1) (fun i _ => ll - (intOf i).toNat)
  case atStart => exact ⟨0, .slice none 0 0, ([], false), Nat.zero_le _, rfl, rfl, But.refl _ _, B1.out, G1.out, ownS_nil _ _⟩
  case round =>
    obtain ⟨k, v, st, hk, rfl, hst, hbut, hbl, hg, hown⟩ := hrel
    have HBT : Hid (But (w.heap.size + 1) w1 wr) := hbut
    have HBL : Hid (Below w.heap.size w wr) := hbl
    have HG : Hid _ := hg
    have HO : Hid (OwnS wr (w.heap.size + 2) v st.1) := hown
    have HST : Hid (st = moreR ([], false) (L.take k)) := hst
    have hws : w.heap.size + 2 ≤ wr.heap.size := by have := hbut.1; rw [Z1.out] at this; exact this
    have HWS : Hid (w.heap.size + 2 ≤ wr.heap.size) := hws
    clear hbut hg hown hst hws
    by_cases hlt : k < ll
    rotate_left
    · obtain rfl : k = ll := by omega
      have HF : Hid (st = R) := by show _ = _; rw [HST.out, HR.out, HLl.out, List.take_length]
      clear HST
      obtain ⟨s1, s2⟩ := st
      have GRw : Hid (wr.heap[w.heap.size]? = some (.cells [Value.slice none 0 0, .bool false].toArray 79 (0, 0))) := by show _ = _; rw [HBT.out.2 _ (by omega) (by have := Z1.out; omega)]; exact GR1.out
      obtain ⟨va, vc, rfl, _⟩ := OwnS.form HO.out
      obtain ⟨sl, hsl⟩ : ∃ n, n = s1.length := ⟨_, rfl⟩
      simp only at HG HO
      rw [← hsl] at HG HO
      clear hsl hbl HBT
      obtain ⟨C, hC⟩ : ∃ C, C = [Value.slice va sl vc, .bool s2] := ⟨_, rfl⟩
      have hr := rangeRow HG.out
      rw [← hC] at hr
      have hR := GRw.out
      have h1 : ∀ v ∈ C, v.oneCell' = true := by rw [hC]; simp [Value.oneCell']
      have hi' : (Tryz.prog.info? 79).map (·.size) = some C.length := by rw [hC]; kernel_rfl
      have HLn : Hid ([Value.slice none 0 0, .bool false].length = C.length) := by rw [hC]; rfl
      have HCC : Hid (C = [Value.slice va sl vc, .bool s2]) := hC
      clear hC
      go_wp2_with (first | (refine wpList_load_mid rfl 79 _ rfl (w.heap.size + 1) 0 rfl C _ hr Tryz.underlying79 rfl hi' ?_) | (refine wpList_store_row rfl 79 _ _ rfl (w.heap.size) _ C 79 rfl rfl hR HLn.out hi' h1 ?_))
      intro w8 hrow ho hs8 hbb
      have HROW : Hid _ := hrow
      have HB8 : Hid (Below w.heap.size w w8) := hbb _ _ (Nat.le_refl _) HBL.out
      have O8 : Hid (OwnS w8 (w.heap.size + 2) (.slice va sl vc) s1) := HO.out.same fun b h1 h2 => ho b (by omega)
      clear ho hs8 hbb hrow hr hR h1
      go_wp2
      refine bodyPost_ret (v := .agg C.toArray) ?_ rfl ⟨.slice va sl vc, by rw [HCC.out, ← HF.out], by rw [← HF.out]; exact O8.out.mono (by omega), HB8.out⟩
      have hl3 := run_loadVar_mid (P := Tryz.prog) _ (w.heap.size) 0 79 _ _ (rangeRow HROW.out) Tryz.underlying79 rfl hi'
      simp [results, Tryz.results147, asAddr, hl3]
    have hkL : k < L.length := by rw [← HLl.out]; exact hlt
    obtain ⟨y, hy⟩ : ∃ y, L[k]? = some y := ⟨L[k], List.getElem?_eq_getElem hkL⟩
    obtain ⟨g2, o2, rfl, hg2, hcs⟩ : ∃ g2 o2, a = some ⟨g2, o2, none⟩ ∧ g2 < wr.heap.size ∧ ∀ i p, L[i]? = some p → wr.cell? ⟨g2, o2 + i * 2, none⟩ = some (.int .i64 p.1) ∧ wr.cell? ⟨g2, o2 + i * 2 + 1, none⟩ = some (.string p.2) := by
      rcases HA.out.keep hbl with h | h
      · subst h; simp at hkL
      · exact h
    obtain ⟨k0, k1⟩ := hcs k y hy
    have HS1 : Hid (moreR ([], false) (L.take (k + 1)) = partsR st (allD (atP y.2 [0])).1) := by show _ = _; unfold moreR; rw [foldl_take _ _ L hy, HST.out]; rfl
    have hy4 : Hid (y.2.size ≤ 4000) := HZ.out y (List.mem_of_getElem? hy)
    have a0 : (0 : Int) ≤ (k : Int) := by omega
    have b0 : (k : Int) < (ll : Int) := by omega
    obtain ⟨yt, yb⟩ := y
    simp only at k0 k1 HS1 hy4
    obtain ⟨q0, hq0⟩ : ∃ q, q = atP yb [0] := ⟨_, rfl⟩
    have Q0 : Hid (q0 = atP yb [0] ∧ q0.size ≤ 4000) := ⟨hq0, by rw [hq0]; exact HLe.out _ _ hy4.out⟩
    rw [← hq0] at HS1
    obtain ⟨Q, hQ⟩ : ∃ Q, Q = (allD q0).1 := ⟨_, rfl⟩
    have hQl : Q.length ≤ 60 := by rw [hQ]; exact allD_len _
    have HQz : Hid (∀ p ∈ Q, p.2.size ≤ 4000) := by show ∀ p ∈ Q, _; rw [hQ]; exact allD_4000 _
    have HQ : Hid (Q = (allD q0).1) := hQ
    rw [← hQ] at HS1
    clear hcs hq0 hQ hy hkL hbl HST
    go_wp2_with fail
    obtain ⟨wa, hwa⟩ : ∃ y, y = wr.alloc (.cells #[.int .i64 yt, .string yb] 157 (0, 0)) := ⟨_, rfl⟩
    have hza : wa.heap.size = wr.heap.size + 1 := by rw [hwa]; simp
    have ba : Below wr.heap.size wr wa := by rw [hwa]; exact (Below.refl _ wr).alloc (Nat.le_refl _) _
    rw [← hwa, ← hza]
    refine (HAt1.out wa yb hy4.out (HBL.out.trans (ba.mono HBL.out.size))).mono ?_
    rintro e w2 ⟨rfl, b2⟩
    rw [← Q0.out.1]
    have B2 : Hid (Below wr.heap.size wr w2) := ba.trans (b2.mono (by omega))
    rw [hza]
    clear b2 k0 k1 hwa hza ba
    go_wp2_with fail
    refine (HAl.out w2 q0 Q0.out.2 (HBL.out.trans (B2.out.mono HBL.out.size))).mono ?_
    rintro e w3 ⟨tv, rfl, ot, b3⟩
    obtain ⟨ta, tc, rfl⟩ := OwnT.form ot
    have B3 : Hid (Below wr.heap.size wr w3) := B2.out.trans (b3.mono B2.out.size)
    have HTo : Hid (IsTo w3 ta (allD q0).1) := ot.isTo
    have HTa : Hid (∀ x, ta = some x → x.block ≠ w.heap.size + 1) := fun x hx => by have := (addr_lt ot x hx).1; have := B2.out.size; have := HWS.out; omega
    rw [← HQ.out] at HTo ⊢
    clear ot b3 B2
    obtain ⟨ql, hql⟩ : ∃ ql, ql = Q.length := ⟨_, rfl⟩
    have HQl : Hid (ql = Q.length) := hql
    rw [← hql] at hQl ⊢
    clear hql
    have hws := HWS.out
    have G3 : Hid (w3.heap[w.heap.size + 1]? = some (.cells [v, .bool st.2].toArray 79 (0, 0))) := by show _ = _; rw [B3.out.block _ (by omega)]; exact HG.out
    have O3 : Hid (OwnS w3 (w.heap.size + 2) v st.1) := HO.out.keep B3.out
    have BL3 : Hid (Below w.heap.size w w3) := HBL.out.trans (B3.out.mono HBL.out.size)
    have BT3 : Hid (But (w.heap.size + 1) w1 w3) := HBT.out.trans (But.of B3.out)
    have S3 : Hid (w.heap.size + 2 ≤ w3.heap.size) := Nat.le_trans hws B3.out.size
    clear hws HG HO B3 HBL HBT HWS
    go_wp2_with fail
    go_loopw [22] (fun i wr => ∃ (j : Nat) (v' : Value) (s' : List ByteArray × Bool), j ≤ ql ∧ i = .int .i64 j ∧ s' = partsR st (Q.take j) ∧ But (w.heap.size + 1) w3 wr ∧ Below w.heap.size w wr ∧ wr.heap[w.heap.size + 1]? = some (.cells [v', .bool s'.2].toArray 79 (0, 0)) ∧ OwnS wr (w.heap.size + 2) v' s'.1) (fun i _ => ql - (intOf i).toNat)
    case atStart => exact ⟨0, v, st, Nat.zero_le _, rfl, rfl, But.refl _ _, BL3.out, G3.out, O3.out⟩
    case round =>
      obtain ⟨j, v', s', hj, rfl, hs', hbut, hbl, hg, hown⟩ := hrel
      have HBT : Hid (But (w.heap.size + 1) w3 wr) := hbut
      have HBL : Hid (Below w.heap.size w wr) := hbl
      have HG : Hid _ := hg
      have HO : Hid (OwnS wr (w.heap.size + 2) v' s'.1) := hown
      have HS' : Hid (s' = partsR st (Q.take j)) := hs'
      have hws : w.heap.size + 2 ≤ wr.heap.size := Nat.le_trans S3.out hbut.1
      have HWS : Hid (w.heap.size + 2 ≤ wr.heap.size) := hws
      have HTw : Hid (IsTo wr ta Q) := HTo.out.but hbut HTa.out
      clear hg hown hs' hws
      by_cases hlt2 : j < ql
      rotate_left
      · obtain rfl : j = ql := by omega
        have HF : Hid (s' = moreR ([], false) (L.take (k + 1))) := by show _ = _; rw [HS1.out, HS'.out, HQl.out, List.take_length]
        have HBT2 : Hid (But (w.heap.size + 1) w1 wr) := BT3.out.trans hbut
        clear hbut hbl HS' HS1
        go_wp2
        go_roundw
        case rel => exact ⟨k + 1, v', s', by omega, by go_num, HF.out, HBT2.out, HBL.out, HG.out, HO.out⟩
        case measure => simp [intOf]; omega
      have hjQ : j < Q.length := by rw [← HQl.out]; exact hlt2
      obtain ⟨x, hx⟩ : ∃ x, Q[j]? = some x := ⟨Q[j], List.getElem?_eq_getElem hjQ⟩
      obtain ⟨g3, o3, rfl, hg3, hcs⟩ : ∃ g2 o2, ta = some ⟨g2, o2, none⟩ ∧ g2 < wr.heap.size ∧ ∀ i p, Q[i]? = some p → wr.cell? ⟨g2, o2 + i * 2, none⟩ = some (.int .i64 p.1) ∧ wr.cell? ⟨g2, o2 + i * 2 + 1, none⟩ = some (.string p.2) := by
        rcases HTw.out with h | h
        · subst h; simp at hjQ
        · exact h
      obtain ⟨k0, k1⟩ := hcs j x hx
      have HS2 : Hid (partsR st (Q.take (j + 1)) = partR s' x.2) := by show _ = _; unfold partsR; rw [foldl_take _ _ Q hx, HS'.out]; rfl
      have hx4 : Hid (x.2.size ≤ 4000) := HQz.out x (List.mem_of_getElem? hx)
      have a1 : (0 : Int) ≤ (j : Int) := by omega
      have b1 : (j : Int) < (ql : Int) := by omega
      obtain ⟨xt, xb⟩ := x
      simp only at k0 k1 HS2 hx4
      obtain ⟨p0, hp0⟩ : ∃ q, q = atP xb [0] := ⟨_, rfl⟩
      have P0 : Hid (p0 = atP xb [0] ∧ p0.size ≤ 4000) := ⟨hp0, by rw [hp0]; exact HLe.out _ _ hx4.out⟩
      unfold partR at HS2
      rw [← hp0] at HS2
      clear hcs hp0 hx hjQ hbut hbl HTw HS'
      go_wp2_with fail
      obtain ⟨wa, hwa⟩ : ∃ y, y = wr.alloc (.cells #[.int .i64 xt, .string xb] 157 (0, 0)) := ⟨_, rfl⟩
      have hza : wa.heap.size = wr.heap.size + 1 := by rw [hwa]; simp
      have ba : Below wr.heap.size wr wa := by rw [hwa]; exact (Below.refl _ wr).alloc (Nat.le_refl _) _
      have ga : wa.heap[wr.heap.size]? = some (.cells [Value.int .i64 xt, .string xb].toArray 157 (0, 0)) := by rw [hwa]; exact heap_alloc_new wr _
      rw [← hwa, ← hza]
      refine (HAt1.out wa xb hx4.out (HBL.out.trans (ba.mono HBL.out.size))).mono ?_
      rintro e w4 ⟨rfl, b2⟩
      rw [← P0.out.1]
      have B4 : Hid (Below wr.heap.size wr w4) := ba.trans (b2.mono (by omega))
      have GP4 : Hid (w4.heap[wr.heap.size]? = some (.cells [Value.int .i64 xt, .string xb].toArray 157 (0, 0))) := by show _ = _; rw [b2.block _ (by omega)]; exact ga
      rw [hza]
      clear b2 k0 k1 hwa hza ba ga
      go_wp2_with fail
      refine (HOi.out w4 p0 P0.out.2).mono ?_
      rintro e w5 ⟨av, rfl, oa, b3⟩
      obtain ⟨aa, ac, rfl, hac⟩ := OwnL.form oa
      have B5 : Hid (Below wr.heap.size wr w5) := B4.out.trans (b3.mono B4.out.size)
      have GP5 : Hid (w5.heap[wr.heap.size]? = some (.cells [Value.int .i64 xt, .string xb].toArray 157 (0, 0))) := by show _ = _; rw [b3.block _ (heap_lt GP4.out)]; exact GP4.out
      obtain ⟨arcs, harcs⟩ : ∃ l, l = (oidR p0).1 := ⟨_, rfl⟩
      have hal : arcs.length ≤ 1048576 := by rw [harcs]; exact HOl.out p0
      rw [← harcs] at HS2 oa hac ⊢
      have HAa : Hid (IsInts w5 aa arcs) := oa.ints
      have OA : Hid (OwnL w5 w4.heap.size (.slice aa arcs.length ac) arcs) := oa
      have S4 : Hid (w.heap.size + 2 ≤ w4.heap.size) := Nat.le_trans HWS.out B4.out.size
      clear oa b3 B4 GP4 harcs
      have HAaw5 : Hid (IsInts w5 aa arcs) := HAa
      have HAaK : Hid (∀ V, (∀ k, w4.heap.size ≤ k → k < w5.heap.size → V.heap[k]? = w5.heap[k]?) → IsInts V aa arcs) := fun V hV => (OA.out.same hV).ints
      have hne : ([2, 5, 29, 17] : List Int) ≠ [2, 5, 29, 19] := by decide
      go_wp2_with fail
      refine (HAr.out w5 17).mono ?_
      rintro e w6 ⟨rfl, hg6, b6⟩
      have HEq : Hid (Calls Tryz.prog 188 #[.slice aa arcs.length ac, .slice (some ⟨w5.heap.size, 0, none⟩) 4 4] w6 fun e w' => e = .returned (.bool (decide (arcs = [2, 5, 29, 17]))) ∧ Below w6.heap.size w6 w') := sliceEq arcs [2, 5, 29, 17] aa _ ac 4 w6 hal (by simp) (HAaw5.out.keep b6) (IsInts.row (rest := []) (by simpa [lCells] using hg6))
      have B6 : Hid (Below wr.heap.size wr w6) := B5.out.trans (b6.mono B5.out.size)
      have C6 : Hid (Below w5.heap.size w5 w6) := b6
      clear hg6 b6
      go_wp2_with fail
      refine HEq.out.mono ?_
      rintro e w7 ⟨rfl, b7⟩
      have B7 : Hid (Below wr.heap.size wr w7) := B6.out.trans (b7.mono B6.out.size)
      have C7 : Hid (Below w5.heap.size w5 w7) := C6.out.trans (b7.mono C6.out.size)
      clear b7 HEq B6 C6
      have hws := HWS.out
      have G7 : Hid (w7.heap[w.heap.size + 1]? = some (.cells [v', .bool s'.2].toArray 79 (0, 0))) := by show _ = _; rw [B7.out.block _ (by omega)]; exact HG.out
      have O7 : Hid (OwnS w7 (w.heap.size + 2) v' s'.1) := HO.out.keep B7.out
      have BL7 : Hid (Below w.heap.size w w7) := HBL.out.trans (B7.out.mono HBL.out.size)
      have BT7 : Hid (But (w.heap.size + 1) w3 w7) := HBT.out.trans (But.of B7.out)
      have GP7 : Hid (w7.heap[wr.heap.size]? = some (.cells [Value.int .i64 xt, .string xb].toArray 157 (0, 0))) := by show _ = _; rw [C7.out.block _ (heap_lt GP5.out)]; exact GP5.out
      have S7 : Hid (w.heap.size + 2 ≤ w7.heap.size) := Nat.le_trans hws B7.out.size
      have NP : Hid (wr.heap.size ≠ w.heap.size + 1) := by show _ ≠ _; omega
      clear hws HG HO HBL HBT HWS B5 GP5 B7
      by_cases h17 : arcs = [2, 5, 29, 17]
      · have d17 : decide (arcs = [2, 5, 29, 17]) = true := decide_eq_true h17
        have n19 : ¬ arcs = [2, 5, 29, 19] := fun h => hne (h17.symm.trans h)
        have HS3 : Hid (partsR st (Q.take (j + 1)) = (bodiesR (atP xb [1, 0]), s'.2)) := by show _ = _; rw [HS2.out, if_pos h17, if_neg n19]
        rw [d17]
        clear d17 HS2 h17
        have t1 := rowFacts GP7.out 1 _ rfl
        go_wp2_with fail
        refine (HAt2.out w7 xb hx4.out BL7.out).mono ?_
        rintro e w8 ⟨rfl, b8⟩
        have BL8 : Hid (Below w.heap.size w w8) := BL7.out.trans (b8.mono BL7.out.size)
        have B8 : Hid (Below w7.heap.size w7 w8) := b8
        clear b8 t1
        go_wp2_with fail
        refine (HNa.out w8 _ (HLe2.out _ hx4.out) BL8.out).mono ?_
        rintro e w9 ⟨nv, rfl, on, b9⟩
        obtain ⟨na, nc, rfl, _⟩ := OwnS.form on
        obtain ⟨N, hN⟩ : ∃ N, N = bodiesR (atP xb [1, 0]) := ⟨_, rfl⟩
        rw [← hN] at on HS3 ⊢
        obtain ⟨nl, hnl⟩ : ∃ nl, nl = N.length := ⟨_, rfl⟩
        rw [← hnl] at on ⊢
        have B9 : Hid (Below w7.heap.size w7 w9) := B8.out.trans (b9.mono B8.out.size)
        have hs7 := S7.out
        have ON : Hid (OwnS w9 (w.heap.size + 2) (.slice na nl nc) N) := OwnS.mono (B := w8.heap.size) on (by have := B8.out.size; omega)
        have g9 : w9.heap[w.heap.size + 1]? = some (.cells [v', .bool s'.2].toArray 79 (0, 0)) := by rw [B9.out.block _ (by omega)]; exact G7.out
        obtain ⟨va', vc', hv', _⟩ := OwnS.form O7.out
        subst hv'
        have y0 := rowFacts g9 0 _ rfl
        have z0 := rowFree g9 0
        obtain ⟨w10, hw10⟩ : ∃ y, y = w9.setCell ⟨w.heap.size + 1, 0, none⟩ (.slice na nl nc) := ⟨_, rfl⟩
        have G10 : Hid (w10.heap[w.heap.size + 1]? = some (.cells [Value.slice na nl nc, .bool s'.2].toArray 79 (0, 0))) := by show _ = _; rw [hw10]; exact rowSet (i := 0) _ g9
        have O10 : Hid (OwnS w10 (w.heap.size + 2) (.slice na nl nc) N) := by rw [hw10]; exact ON.out.same fun b h1 h2 => heap_setCell_other w9 _ b _ (by show b ≠ w.heap.size + 1; omega)
        have BL10 : Hid (Below w.heap.size w w10) := by rw [hw10]; exact (BL7.out.trans (B9.out.mono BL7.out.size)).setCell (by simp) _
        have BT10 : Hid (But (w.heap.size + 1) w7 w10) := by rw [hw10]; exact (But.of B9.out).set _
        have BT10' : Hid (But (w.heap.size + 1) w3 w10) := BT7.out.trans BT10.out
        have I10 : Hid (IsInts w10 aa arcs) := HAaK.out w10 fun k h1 h2 => by
          have h3 := S4.out
          have h4 := C7.out.size
          rw [hw10, heap_setCell_other w9 _ k _ (by show k ≠ w.heap.size + 1; omega), B9.out.block _ (by omega), C7.out.block _ h2]
        have HD19 : Hid (decide (arcs = [2, 5, 29, 19]) = false) := decide_eq_false n19
        clear n19
        clear b9 on g9 hN hnl hs7 HS1 B8 B9 BL8 ON BT7 BT10 BL7 G7 O7 GP7 C7 HAaK HAaw5 OA
        go_wp2_with fail
        rw [← hw10]
        clear hw10 y0 z0
        refine (HAr.out w10 19).mono ?_
        rintro e w11 ⟨rfl, hg6, b6⟩
        have HEq : Hid (Calls Tryz.prog 188 #[.slice aa arcs.length ac, .slice (some ⟨w10.heap.size, 0, none⟩) 4 4] w11 fun e w' => e = .returned (.bool (decide (arcs = [2, 5, 29, 19]))) ∧ Below w11.heap.size w11 w') := sliceEq arcs [2, 5, 29, 19] aa _ ac 4 w11 hal (by simp) (I10.out.keep b6) (IsInts.row (rest := []) (by simpa [lCells] using hg6))
        have B11 : Hid (Below w10.heap.size w10 w11) := b6
        clear hg6 b6
        go_wp2_with fail
        refine HEq.out.mono ?_
        rintro e w12 ⟨rfl, b7⟩
        have B12 : Hid (Below w10.heap.size w10 w12) := B11.out.trans (b7.mono B11.out.size)
        have hl10 := heap_lt G10.out
        have HRel : Hid (partsR st (Q.take (j + 1)) = (N, s'.2) ∧ But (w.heap.size + 1) w3 w12 ∧ Below w.heap.size w w12 ∧ w12.heap[w.heap.size + 1]? = some (.cells [Value.slice na nl nc, .bool s'.2].toArray 79 (0, 0)) ∧ OwnS w12 (w.heap.size + 2) (.slice na nl nc) N) := ⟨HS3.out, BT10'.out.trans (But.of B12.out), BL10.out.trans (B12.out.mono BL10.out.size), by rw [B12.out.block _ hl10]; exact G10.out, O10.out.keep B12.out⟩
        clear b7 HEq B11 B12 hl10 G10 O10 BL10 BT10' I10 HS3
        rw [HD19.out]
        go_wp2
        go_roundw
        case rel => exact ⟨j + 1, .slice na nl nc, (N, s'.2), by omega, by go_num, HRel.out.1.symm, HRel.out.2.1, HRel.out.2.2.1, HRel.out.2.2.2.1, HRel.out.2.2.2.2⟩
        case measure => simp [intOf]; omega
      · have d17 : decide (arcs = [2, 5, 29, 17]) = false := decide_eq_false h17
        have I7 : Hid (IsInts w7 aa arcs) := HAaK.out w7 fun k h1 h2 => C7.out.block _ h2
        rw [d17]
        clear d17 HAaK HAaw5 OA C7
        go_wp2_with fail
        refine (HAr.out w7 19).mono ?_
        rintro e w11 ⟨rfl, hg6, b6⟩
        have HEq : Hid (Calls Tryz.prog 188 #[.slice aa arcs.length ac, .slice (some ⟨w7.heap.size, 0, none⟩) 4 4] w11 fun e w' => e = .returned (.bool (decide (arcs = [2, 5, 29, 19]))) ∧ Below w11.heap.size w11 w') := sliceEq arcs [2, 5, 29, 19] aa _ ac 4 w11 hal (by simp) (I7.out.keep b6) (IsInts.row (rest := []) (by simpa [lCells] using hg6))
        have B11 : Hid (Below w7.heap.size w7 w11) := b6
        clear hg6 b6
        go_wp2_with fail
        refine HEq.out.mono ?_
        rintro e w12 ⟨rfl, b7⟩
        have B12 : Hid (Below w7.heap.size w7 w12) := B11.out.trans (b7.mono B11.out.size)
        have hl10 := heap_lt G7.out
        have g12 : w12.heap[w.heap.size + 1]? = some (.cells [v', .bool s'.2].toArray 79 (0, 0)) := by rw [B12.out.block _ hl10]; exact G7.out
        have o12 : OwnS w12 (w.heap.size + 2) v' s'.1 := O7.out.keep B12.out
        have bt12 : But (w.heap.size + 1) w3 w12 := BT7.out.trans (But.of B12.out)
        have bl12 : Below w.heap.size w w12 := BL7.out.trans (B12.out.mono BL7.out.size)
        obtain ⟨va', vc', hv', _⟩ := OwnS.form o12
        subst hv'
        by_cases h19 : arcs = [2, 5, 29, 19]
        · have d19 : decide (arcs = [2, 5, 29, 19]) = true := decide_eq_true h19
          have y1 := rowFacts g12 1 _ rfl
          have z1 := rowFree g12 1
          have HRel : Hid (partsR st (Q.take (j + 1)) = (s'.1, true) ∧ But (w.heap.size + 1) w3 (w12.setCell ⟨w.heap.size + 1, 1, none⟩ (.bool true)) ∧ Below w.heap.size w (w12.setCell ⟨w.heap.size + 1, 1, none⟩ (.bool true)) ∧ (w12.setCell ⟨w.heap.size + 1, 1, none⟩ (.bool true)).heap[w.heap.size + 1]? = some (.cells [Value.slice va' s'.1.length vc', .bool true].toArray 79 (0, 0)) ∧ OwnS (w12.setCell ⟨w.heap.size + 1, 1, none⟩ (.bool true)) (w.heap.size + 2) (.slice va' s'.1.length vc') s'.1) := ⟨by rw [HS2.out, if_neg h17, if_pos h19], bt12.set _, bl12.setCell (by simp) _, rowSet (i := 1) _ g12, o12.same fun b h1 h2 => heap_setCell_other w12 _ b _ (by show b ≠ w.heap.size + 1; omega)⟩
          clear b7 HEq B11 B12 hl10 g12 o12 bt12 bl12 I7 HS2 G7 O7 BL7 BT7
          rw [d19]
          clear d19
          go_wp2
          go_roundw
          case rel => exact ⟨j + 1, .slice va' s'.1.length vc', (s'.1, true), by omega, by go_num, HRel.out.1.symm, HRel.out.2.1, HRel.out.2.2.1, HRel.out.2.2.2.1, HRel.out.2.2.2.2⟩
          case measure => simp [intOf]; omega
        · have d19 : decide (arcs = [2, 5, 29, 19]) = false := decide_eq_false h19
          have HRel : Hid (partsR st (Q.take (j + 1)) = s' ∧ But (w.heap.size + 1) w3 w12 ∧ Below w.heap.size w w12 ∧ w12.heap[w.heap.size + 1]? = some (.cells [Value.slice va' s'.1.length vc', .bool s'.2].toArray 79 (0, 0)) ∧ OwnS w12 (w.heap.size + 2) (.slice va' s'.1.length vc') s'.1) := ⟨by rw [HS2.out, if_neg h17, if_neg h19], bt12, bl12, g12, o12⟩
          clear b7 HEq B11 B12 hl10 g12 o12 bt12 bl12 I7 HS2 G7 O7 BL7 BT7
          rw [d19]
          clear d19
          go_wp2
          go_roundw
          case rel => exact ⟨j + 1, .slice va' s'.1.length vc', s', by omega, by go_num, HRel.out.1.symm, HRel.out.2.1, HRel.out.2.2.1, HRel.out.2.2.2.1, HRel.out.2.2.2.2⟩
          case measure => simp [intOf]; omega
end Go.Proofs.YtkhdjmjbdpmdnaaGreatDoor
