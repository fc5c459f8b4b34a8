/- laws.szStringS, walked. What laws.szStringS leaves, in words. Names that came in, opened. FnExactCsrSign, walked: at every number and names CsrSign answers as the specification's; it writes into no argument, its answer owns its memory, behind another call too. What the listed table gives the walks: the numbers of the rounds, each in its cell. What the listed table and error give the walks. As many variables are read as are named. No program is named. -/
import Derived.Test.YthofeoelndplpaaGreatDoorASg01
import Derived.ProofKit
import Derived.SliceStrings
import Derived.Deep.Strs
import Derived.Test.YthofeoelndplpaaGreatDoorASg10
import Derived.Test.YthofeoelndplpaaGreatDoorASg16
import Derived.Test.YthofeoelndplpaaGreatDoorASg09
import Derived.Test.YthofeoelndplpaaGreatDoorASg14
import Derived.Below
import Derived.Deep.Cut
import Derived.Deep.RegionHeld3
import Derived.Test.YthofeoelndplpaaGreatDoorASg04
import Derived.OpenShut
import Derived.LaidMore
import Derived.Stop.Joined
import Derived.OpenVars
import Derived.Lay
import Derived.Stop.LaidErr
import Derived.ChangeShapes
import Derived.Test.YthofeoelndplpaaGreatDoorRows
namespace Go.Proofs.YthofeoelndplpaaGreatDoor
open Go.RowKit

theorem szR_no {ss : List ByteArray} {left : Int} (h : left < (ss.length : Int) + totS ss ss.length) : szR ss left = -1 := if_neg (by omega)
set_option maxHeartbeats 1000000 in
set_option maxRecDepth 100000 in
theorem szStrs (a : Option Addr) (ss : List ByteArray) (c : Nat) (left : Int) (w : World) (hl : ss.length ≤ maxLen) (hs : ∀ s ∈ ss, s.size ≤ maxLen) (h0 : 0 ≤ left) (h1 : left ≤ 1048576) (ha : IsStrs w a ss) :
    Calls Tryz.prog 7 #[.slice a ss.length c, .int .i64 left] w fun e w' => e = .returned (.int .i64 (szR ss left)) ∧ Below w.heap.size w w' := by
  unfold maxLen at hl
  have HSz : Hid (∀ k, k < ss.length → (tAt ss k).size ≤ 9223372036854775807) := fun k hk => by
    have := hs (ss[k]) (List.getElem_mem hk)
    unfold maxLen at this
    rw [tAt, List.getD, List.getElem?_eq_getElem hk]
    simpa using this
  clear hs
  by_cases hfit : left < (ss.length : Int)
  · have HF : Hid (szR ss left = -1) := szR_no (by omega)
    go_enter Tryz.func7, Tryz.ntmps7
    go_wp2
    go_ret
    exact ⟨by rw [HF.out]; rfl, Below.refl _ _⟩
  · go_enter Tryz.func7, Tryz.ntmps7
    go_wp2
    go_loopw [1, 5] (fun l i wr => ∃ k : Nat, k ≤ ss.length ∧ i = .int .i64 k ∧ (totS ss k : Int) ≤ left - ss.length ∧ l = .int .i64 (left - ss.length - totS ss k) ∧ Below w.heap.size w wr) (fun _ i _ => ss.length - (intOf i).toNat)
    case atStart => exact ⟨0, Nat.zero_le _, rfl, by show (0 : Int) ≤ _; omega, by simp [totS], Below.refl _ _⟩
    case round =>
      obtain ⟨k, hk, rfl, ht, rfl, hbr⟩ := hrel
      by_cases hlt : k < ss.length
      · obtain ⟨x, o, rfl, hc⟩ : ∃ x o, a = some ⟨x, o, none⟩ ∧ ∀ i, i < ss.length → wr.cell? ⟨x, o + i, none⟩ = some (.string (tAt ss i)) := by
          rcases ha.below hbr ha.lt with rfl | h
          · simp at hlt
          · exact h
        have hck := hc k hlt
        have hz := HSz.out k hlt
        have e1 : totS ss (k + 1) = totS ss k + (tAt ss k).size := rfl
        have HN : Hid (left - ss.length - totS ss k < (tAt ss k).size → szR ss left = -1) := fun h => szR_no (by have := totS_mono ss (show k + 1 ≤ ss.length by omega); omega)
        have HB : Hid (Below w.heap.size w wr) := hbr
        have HE : Hid (totS ss (k + 1) = totS ss k + (tAt ss k).size) := e1
        obtain ⟨m, hm⟩ : ∃ m : Int, m = left - ss.length - totS ss k := ⟨_, rfl⟩
        rw [← hm] at HN ⊢
        have HM : Hid (m = left - ss.length - totS ss k) := hm
        have hm0 : 0 ≤ m := by omega
        have hm1 : m ≤ 1048576 := by omega
        have hk1 : k < 1048576 := by omega
        generalize tAt ss k = z at *
        generalize hn : ss.length = n at *
        have HNn : Hid (ss.length = n) := hn
        clear hc ha hbr hn e1 hm ht hl h0 h1 hfit
        by_cases hlast : m < (z.size : Int)
        · have HF : Hid (szR ss left = -1) := HN.out hlast
          go_wp2
          go_ret
          exact ⟨by rw [HF.out]; rfl, HB.out⟩
        · go_wp2
          go_roundw
          case rel => exact ⟨k + 1, by have := HNn.out; omega, by go_num, by have := HE.out; have := HM.out; have := HNn.out; omega, by congr 1; have := HE.out; have := HM.out; have := HNn.out; omega, HB.out⟩
          case measure => have := HNn.out; simp [intOf]; omega
      · obtain rfl : k = ss.length := by omega
        have HF : Hid (szR ss left = left - ss.length - totS ss ss.length) := if_pos (by omega)
        have HB : Hid (Below w.heap.size w wr) := hbr
        clear hbr ha
        go_wp2
        go_ret
        exact ⟨by rw [HF.out]; rfl, HB.out⟩
end Go.Proofs.YthofeoelndplpaaGreatDoor
namespace Go.Proofs.YthofeoelndplpaaGreatDoor
open Go.RowKit

theorem szR_some {ss : List ByteArray} {left : Int} (h : 0 ≤ szR ss left) : (ss.length : Int) + totS ss ss.length ≤ left := by
  unfold szR at h
  split at h
  · assumption
  · omega
theorem szR_neg {ss : List ByteArray} {left : Int} : -1 ≤ szR ss left := by
  unfold szR
  split <;> omega
theorem szR_le {ss : List ByteArray} {left : Int} (h : -1 ≤ left) : szR ss left ≤ left := by
  unfold szR
  split <;> omega
end Go.Proofs.YthofeoelndplpaaGreatDoor
namespace Go.Proofs.YthofeoelndplpaaGreatDoor
open Go.RowKit Go.WideShapes Go.ChangeShapes Go.Deep

theorem cellsInt : Tryz.prog.cellsOf 2 = 1 := by kernel_rfl
theorem cellsStr : Tryz.prog.cellsOf 9 = 1 := by kernel_rfl
theorem cellsStrs : Tryz.prog.cellsOf 22 = 1 := by kernel_rfl
theorem cellsBool : Tryz.prog.cellsOf 4 = 1 := by kernel_rfl
theorem cellsSig : Tryz.prog.cellsOf 34 = 3 := by kernel_rfl
theorem open_names {H : Type} {enc : TypeId × Value → H} {W : World} {base : Nat} {spare : Nat → Bool} {held : Bool} {n : Nat} {v : Value} {x : DataW H × List MemPlace} (h : DataW.trod enc Tryz.prog W base spare held n 22 [v] = some x) :
    ∃ (a : Option Addr) (ss : List ByteArray) (cap : Nat), v = .slice a ss.length cap ∧ IsStrs W a ss ∧ ss.length ≤ maxLen ∧ ∀ s ∈ ss, s.size ≤ maxLen := by
  rcases open_strings Tryz.underlying22 Tryz.underlying9 cellsStr h with ⟨hcs, _⟩ | ⟨x, len, cap, ss, hcs, _, hl, hm, hz, _, hcell, hws⟩
  · exact ⟨none, [], 0, (List.cons.inj hcs).1, .inl rfl, Nat.zero_le _, fun s hs => by cases hs⟩
  · have hle : len ≤ ss.length := by rw [hz]; split <;> omega
    have hlen : (ss.take len).length = len := by rw [List.length_take]; omega
    refine ⟨some x, ss.take len, cap, by rw [hlen]; exact (List.cons.inj hcs).1, ?_, by rw [hlen]; omega, fun s hs => hws s (List.mem_of_mem_take hs)⟩
    by_cases h0 : len = 0
    · exact .inl (by simp [h0])
    obtain ⟨b, off, spot⟩ := x
    have hc0 := hcell 0 (by omega)
    have hspot : spot = none := by simpa [Addr.add] using World.cell?_spot hc0
    subst hspot
    refine .inr ⟨b, off, rfl, fun i hi => ?_⟩
    rw [hlen] at hi
    have h1 := hcell i (by omega)
    rw [Addr.add_lit] at h1
    rw [h1, tAt, List.getD, List.getD, List.getElem?_take, if_pos hi]
/-- What is known of texts that came in. -/
structure CameT (W : World) (a : Option Addr) (ss : List ByteArray) : Prop where
  strs : IsStrs W a ss
  len : ss.length ≤ maxLen
  each : ∀ s ∈ ss, s.size ≤ maxLen
set_option maxRecDepth 100000 in
theorem openTexts {H : Type} {enc : TypeId × Value → H} {W : World} {base b0 : Nat} {r : Reach} {spare : Nat → Bool} {held : Bool} {v : Value} {d : DataW H} {p : List MemPlace}
    (hv : Value.okWide Tryz.prog W r b0 22 v) (h : DataW.Trod enc Tryz.prog W base spare held 22 v d p) :
    ∃ (a : Option Addr) (ss : List ByteArray) (cap : Nat), v = .slice a ss.length cap ∧ CameT W a ss := by
  obtain ⟨a, len, cap, rfl⟩ := okWide_slice Tryz.underlying22 hv
  obtain ⟨fuel, hf⟩ := h
  obtain ⟨a', ss, cap', e, h1, h2, h3⟩ := open_names (v := .slice a len cap) hf
  exact ⟨a', ss, cap', e, ⟨h1, h2, h3⟩⟩
end Go.Proofs.YthofeoelndplpaaGreatDoor
namespace Go.Proofs.YthofeoelndplpaaGreatDoor
open Go.RowKit

set_option linter.unusedSimpArgs false in
set_option maxHeartbeats 4000000 in
set_option maxRecDepth 100000 in
theorem csrSignWalk (w : World) (k : Int) (_ : (Lit.int .i64 k).wf = true) (a : Option Addr) (ns : List ByteArray) (cap : Nat) (h : CameT w a ns) (hk : Keys w ∧ Err1 w) :
    Calls Tryz.prog 3 #[.int .i64 k, .slice a ns.length cap] w fun e w' => e = .returned (.bool true) ∧ Below w.heap.size w w' := by
  have HZ : Hid (∀ V, IsStrs V a ns → Calls Tryz.prog 7 #[.slice a ns.length cap, .int .i64 1048576] V fun e w' => e = .returned (.int .i64 (szR ns 1048576)) ∧ Below V.heap.size V w') := fun V hV => szStrs a ns cap 1048576 V h.len h.each (by omega) (by omega) hV
  have HSm : Hid (0 ≤ szR ns 1048576 → ns.length ≤ 1048576 ∧ totS ns ns.length ≤ 1048576) := fun h0 => by have := szR_some h0; omega
  obtain ⟨sk', se', ss', hsv⟩ := signV_is4 k (askD (askO k ns))
  have HRL := signA_len k ns sk' se' ss'
  have HT : Hid (ns.length ≤ 1048576 → ∀ V, IsStrs V a ns → Calls Tryz.prog 9 #[.slice a ns.length cap] V fun e w' => e = .returned (.slice (some ⟨V.heap.size, 0, none⟩) ns.length ns.length) ∧ w'.heap[V.heap.size]? = some (.cells (sCells ns).toArray 9 (0, 0)) ∧ Below V.heap.size V w') := fun hl V hV => toStrs a ns cap V hl hV
  have HS : Hid (ns.length ≤ 1048576 ∧ totS ns ns.length ≤ 1048576 → ∀ V g, V.heap[g]? = some (.cells (sCells ns).toArray 9 (0, 0)) → Calls Tryz.prog 8 #[.int .i64 k, .slice (some ⟨g, 0, none⟩) ns.length ns.length] V fun e w' => ∃ v, e = .returned ((signA k ns sk' se' ss').val v) ∧ OwnS w' V.heap.size v (signA k ns sk' se' ss').names ∧ Below V.heap.size V w') := fun hs V g hV => specSignA k ns g 0 _ sk' se' ss' V hs.1 hs.2 (heap_lt hV) (fun i hi => rowFacts hV (0 + i) _ (by rw [Nat.zero_add]; exact sCells_at hi)) (fun _ => hsv)
  have HI : Hid (ns.length ≤ 1048576 ∧ totS ns ns.length ≤ 1048576 → ∀ V g, Keys V ∧ Err1 V → V.heap[g]? = some (.cells (sCells ns).toArray 9 (0, 0)) → Calls Tryz.prog 10 #[.int .i64 k, .slice (some ⟨g, 0, none⟩) ns.length ns.length] V fun e w' => ∃ v, e = .returned ((signA k ns sk' se' ss').val v) ∧ OwnS w' V.heap.size v (signA k ns sk' se' ss').names ∧ Below V.heap.size V w') := fun hs V g hKV hV => implSignA k ns (some ⟨g, 0, none⟩) _ sk' se' ss' V hs.1 hs.2 (IsStrs.row hV) hKV.1 hKV.2 (fun _ => hsv)
  have HER : Hid (ns.length ≤ 1048576 → ∀ V a b p q, IsStrs V a (signA k ns sk' se' ss').names → IsStrs V b (signA k ns sk' se' ss').names → Calls Tryz.prog 11 #[(signA k ns sk' se' ss').val (.slice a (signA k ns sk' se' ss').names.length p), (signA k ns sk' se' ss').val (.slice b (signA k ns sk' se' ss').names.length q)] V fun e w' => e = .returned (.bool true) ∧ Below V.heap.size V w') := fun hl V a b p q h1 h2 => eqCsr _ a b p q V (Nat.le_trans HRL hl) h1 h2
  have HMX : Hid (ns.length ≤ 1048576 → ∀ V g, V.heap[g]? = some (.cells (sCells ns).toArray 9 (0, 0)) → Calls Tryz.prog 13 #[.slice (some ⟨g, 0, none⟩) ns.length ns.length, .int .i64 1] V fun e w' => (∃ x : Int, e = .returned (.int .i64 x) ∧ 1 ≤ x) ∧ (∀ b, b ≠ g → b < V.heap.size → w'.heap[b]? = V.heap[b]?) ∧ V.heap.size ≤ w'.heap.size ∧ ∀ B' w0, B' ≤ g → B' ≤ V.heap.size → Below B' w0 V → Below B' w0 w') := fun hl V g hV => by
    refine (markStrs g ns.length ns.length 1 (sCells ns) V hl (by omega) (by omega) (by simp [sCells]) hV).mono ?_
    rintro e w' ⟨he, _, h2, h3, h4⟩
    exact ⟨⟨_, he, by omega⟩, h2, h3, h4⟩
  have HMR : Hid (ns.length ≤ 1048576 → ∀ V B v, OwnS V B v (signA k ns sk' se' ss').names → Calls Tryz.prog 14 #[(signA k ns sk' se' ss').val v, .int .i64 1] V fun e w' => e = .returned (.int .i64 ((1 + (signA k ns sk' se' ss').names.length : Nat) : Int)) ∧ MkS w' v (signA k ns sk' se' ss').names.length ∧
      (∀ b, v.ownBlock ≠ some b → b < V.heap.size → w'.heap[b]? = V.heap[b]?) ∧ V.heap.size ≤ w'.heap.size ∧ ∀ B' w0, B' ≤ B → B' ≤ V.heap.size → Below B' w0 V → Below B' w0 w') := fun hl V B v ho => markCsrC _ v _ B V (Nat.le_trans HRL hl) ho
  have HHR : Hid (ns.length ≤ 1048576 → ∀ V v, MkS V v (signA k ns sk' se' ss').names.length → Calls Tryz.prog 15 #[(signA k ns sk' se' ss').val v, .int .i64 1] V fun e w' => e = .returned (.int .i64 ((1 + (signA k ns sk' se' ss').names.length : Nat) : Int)) ∧ Below V.heap.size V w') := fun hl V v hm => heldCsrC _ v _ V (Nat.le_trans HRL hl) hm
  have HE : Hid (ns.length ≤ 1048576 → ∀ V g k, IsStrs V (some ⟨g, 0, none⟩) ns → IsStrs V (some ⟨k, 0, none⟩) ns → Calls Tryz.prog 12 #[.slice (some ⟨g, 0, none⟩) ns.length ns.length, .slice (some ⟨k, 0, none⟩) ns.length ns.length] V fun e w' => e = .returned (.bool true) ∧ Below V.heap.size V w') := fun hl V g k h1 h2 => eqStrs _ _ ns _ _ V (by omega) h1 h2
  have ha := h.strs
  have hkp := hk.1.pos
  have HKy : Hid (∀ V, Below w.heap.size w V → Keys V ∧ Err1 V) := fun V hV => ⟨hk.1.below hV hkp, hk.2.keep hV⟩
  have HA : Hid (∀ V, Below w.heap.size w V → IsStrs V a ns) := fun V hV => ha.keep hV
  have g1 := szR_neg (ss := ns) (left := 1048576)
  have g2 := szR_le (ss := ns) (left := 1048576) (by omega)
  clear h hk hkp hsv ha
  generalize signA k ns sk' se' ss' = R at *
  generalize szR ns 1048576 = x at *
  obtain ⟨nl, hnl⟩ : ∃ nl, nl = ns.length := ⟨_, rfl⟩
  rw [← hnl] at HZ HSm HT HS HI HMX HER HMR HHR HE HRL ⊢
  generalize totS ns nl = tn at *
  have HNl : Hid (nl = ns.length) := hnl
  clear hnl
  have I0 : Hid (Below w.heap.size w w) := Below.refl _ _
  go_enter Tryz.func3, Tryz.ntmps3
  go_wp2_with fail
  refine (HZ.out _ (HA.out _ I0.out)).mono ?_
  rintro e w2 ⟨rfl, b2⟩
  have K2 : Hid (Below w.heap.size w w2) := b2
  clear b2
  by_cases hneg : x < 0
  · go_wp2
    go_ret
    exact ⟨rfl, K2.out⟩
  have hS := HSm.out (by omega)
  have T1 := HT.out hS.1
  have HT' : Hid _ := T1
  have S1 := HS.out hS
  have HS' : Hid _ := S1
  have I1 := HI.out hS
  have HI' : Hid _ := I1
  have E1 := HE.out hS.1
  have HE' : Hid _ := E1
  have F1 := HER.out hS.1
  have HER' : Hid _ := F1
  have F2 := HMX.out hS.1
  have HMX' : Hid _ := F2
  have F3 := HMR.out hS.1
  have HMR' : Hid _ := F3
  have F4 := HHR.out hS.1
  have HHR' : Hid _ := F4
  have hnl1 := hS.1
  clear F1 F2 F3 F4 HER HMX HMR HHR T1 S1 I1 E1 HT HS HI HE HZ HSm hS
  go_wp2_with fail
  refine (HT'.out _ (HA.out _ K2.out)).mono ?_
  rintro e w3 ⟨rfl, hr1, b3⟩
  have K3 : Hid (Below w.heap.size w w3) := K2.out.trans (b3.mono K2.out.size)
  have A3 : Hid (w3.heap[w2.heap.size]? = some (.cells (sCells ns).toArray 9 (0, 0))) := hr1
  clear b3 hr1
  go_wp2_with fail
  refine (HS'.out _ _ A3.out).mono ?_
  rintro e w4 ⟨v0, rfl, o0, b4⟩
  have K4 : Hid (Below w.heap.size w w4) := K3.out.trans (b4.mono K3.out.size)
  have O0 : Hid (OwnS w4 w.heap.size v0 R.names) := o0.mono K3.out.size
  clear b4 A3 K3 K2 o0
  obtain ⟨x0, y0, rfl, _⟩ := O0.out.form
  obtain ⟨rkey, rnames, rsk, rse, rss⟩ := R
  unfold Ask.val at HS' HI' HER' HMR' HHR'
  unfold Ask.val
  simp only at HS' HI' HER' HMR' HHR' O0 HRL ⊢
  generalize hrl : rnames.length = rl at *
  obtain ⟨w5, hw5⟩ : ∃ w5, w5 = w4.alloc (.cells #[.int .i64 rkey, .slice x0 rl y0, .int .i64 rsk, .int .i64 rse, .int .i64 rss] 27 (0, 0)) := ⟨_, rfl⟩
  have b5 : Below w4.heap.size w4 w5 := by rw [hw5]; exact (Below.refl _ _).alloc (Nat.le_refl _) _
  have K5 : Hid (Below w.heap.size w w5) := K4.out.trans (b5.mono K4.out.size)
  have O5 : Hid (OwnS w5 w.heap.size (.slice x0 rl y0) rnames) := by show OwnS _ _ _ _; exact O0.out.keep b5
  have Z5 : Hid (w4.heap.size < w5.heap.size) := by show _ < _; rw [hw5]; simp
  have R5 : Hid (w5.heap[w4.heap.size]? = some (.cells [Value.int .i64 rkey, .slice x0 rl y0, .int .i64 rsk, .int .i64 rse, .int .i64 rss].toArray 27 (0, 0))) := by show _ = _; rw [hw5]; exact heap_alloc_new w4 _
  have ZK : Hid (w.heap.size ≤ w4.heap.size) := K4.out.size
  clear b5 K4 O0
  go_upto_region 6 with fail
  rw [← hw5]
  clear hw5
  go_wp2_with fail
  refine (HT'.out _ (HA.out _ K5.out)).mono ?_
  rintro e w7 ⟨rfl, hr2, d7⟩
  have K7 : Hid (Below w.heap.size w w7) := K5.out.trans (d7.mono K5.out.size)
  have R7 : Hid (w7.heap[w4.heap.size]? = some (.cells [Value.int .i64 rkey, .slice x0 rl y0, .int .i64 rsk, .int .i64 rse, .int .i64 rss].toArray 27 (0, 0))) := (d7.block _ Z5.out).trans R5.out
  have G7 : Hid (w7.heap[w5.heap.size]? = some (.cells (sCells ns).toArray 9 (0, 0))) := hr2
  have O7 : Hid (OwnS w7 w.heap.size (.slice x0 rl y0) rnames) := O5.out.keep d7
  have Z7 : Hid (w5.heap.size < w7.heap.size) := heap_lt hr2
  have P5 : Hid (∀ g, (Value.slice x0 rl y0).ownBlock = some g → g < w5.heap.size) := fun g e => (OwnS.ge O5.out e).2
  clear d7 hr2 R5 O5 K5
  go_wp2_with fail
  refine (HI'.out _ _ (HKy.out _ K7.out) G7.out).mono ?_
  rintro e w8 ⟨v1, rfl, o1, b8⟩
  obtain ⟨x1, y1, e1, _⟩ := OwnS.form o1
  subst e1
  rw [hrl] at o1 ⊢
  obtain ⟨w9, hw9⟩ : ∃ w9, w9 = w8.alloc (.cells #[.int .i64 rkey, .slice x1 rl y1, .int .i64 rsk, .int .i64 rse, .int .i64 rss] 27 (0, 0)) := ⟨_, rfl⟩
  have b9 : Below w8.heap.size w8 w9 := by rw [hw9]; exact (Below.refl _ _).alloc (Nat.le_refl _) _
  have d9 : Below w7.heap.size w7 w9 := b8.trans (b9.mono b8.size)
  have s8 := b8.size
  have z9 : w8.heap.size < w9.heap.size := by rw [hw9]; simp
  have z5 := Z5.out
  have z7 := Z7.out
  have K9 : Hid (Below w.heap.size w w9) := K7.out.trans (d9.mono K7.out.size)
  have R9 : Hid (w9.heap[w4.heap.size]? = some (.cells [Value.int .i64 rkey, .slice x0 rl y0, .int .i64 rsk, .int .i64 rse, .int .i64 rss].toArray 27 (0, 0))) := (d9.block _ (by omega)).trans R7.out
  have Y9 : Hid (w9.heap[w8.heap.size]? = some (.cells [Value.int .i64 rkey, .slice x1 rl y1, .int .i64 rsk, .int .i64 rse, .int .i64 rss].toArray 27 (0, 0))) := by show _ = _; rw [hw9]; exact heap_alloc_new w8 _
  have G9 : Hid (w9.heap[w5.heap.size]? = some (.cells (sCells ns).toArray 9 (0, 0))) := (d9.block _ (by omega)).trans G7.out
  have O9 : Hid (OwnS w9 w.heap.size (.slice x0 rl y0) rnames) := O7.out.keep d9
  have Q9 : Hid (OwnS w9 w7.heap.size (.slice x1 rl y1) rnames) := o1.keep b9
  have P8 : Hid (∀ g, (Value.slice x1 rl y1).ownBlock = some g → w7.heap.size ≤ g ∧ g < w8.heap.size) := fun g e => OwnS.ge o1 e
  have Z9 : Hid (w7.heap.size ≤ w8.heap.size ∧ w8.heap.size < w9.heap.size) := ⟨s8, z9⟩
  clear b8 b9 d9 s8 z9 z5 z7 o1 K7 R7 G7 O7
  go_upto_region 8 with fail
  rw [← hw9]
  clear hw9
  have k0 := rowFacts Y9.out 0 _ rfl
  have k1 := rowFacts Y9.out 1 _ rfl
  have k2 := rowFacts Y9.out 2 _ rfl
  have k3 := rowFacts Y9.out 3 _ rfl
  have k4 := rowFacts Y9.out 4 _ rfl
  have d0 := rowFacts R9.out 0 _ rfl
  have d1 := rowFacts R9.out 1 _ rfl
  have d2 := rowFacts R9.out 2 _ rfl
  have d3 := rowFacts R9.out 3 _ rfl
  have d4 := rowFacts R9.out 4 _ rfl
  go_wp2_with fail
  refine (HER'.out _ _ _ _ _ Q9.out.strs O9.out.strs).mono ?_
  rintro e w10 ⟨rfl, b10⟩
  have J10 : Hid (Below w9.heap.size w9 w10) := b10
  clear b10 k0 k1 k2 k3 k4 d0 d1 d2 d3 d4
  have HQ : Hid (∀ V, Below w9.heap.size w9 V → Below w.heap.size w V) := fun V hV => K9.out.trans (hV.mono K9.out.size)
  go_wp2_with fail
  refine (HT'.out _ (HA.out _ (HQ.out _ J10.out))).mono ?_
  rintro e w11 ⟨rfl, hr3, b11⟩
  have J11 : Hid (Below w9.heap.size w9 w11) := J10.out.trans (b11.mono J10.out.size)
  have A11 : Hid (IsStrs w11 (some ⟨w10.heap.size, 0, none⟩) ns) := IsStrs.row hr3
  clear b11 hr3
  go_wp2_with fail
  refine (HE'.out _ _ _ ((IsStrs.row G9.out).keep J11.out) A11.out).mono ?_
  rintro e w12 ⟨rfl, b12⟩
  have J12 : Hid (Below w9.heap.size w9 w12) := J11.out.trans (b12.mono J11.out.size)
  clear b12 J10 J11 A11
  have z5 := Z5.out
  have z7 := Z7.out
  have z9 := Z9.out
  have zk := ZK.out
  have z12 := J12.out.size
  have R12 : Hid (w12.heap[w4.heap.size]? = some (.cells [Value.int .i64 rkey, .slice x0 rl y0, .int .i64 rsk, .int .i64 rse, .int .i64 rss].toArray 27 (0, 0))) := (J12.out.block _ (by omega)).trans R9.out
  have Y12 : Hid (w12.heap[w8.heap.size]? = some (.cells [Value.int .i64 rkey, .slice x1 rl y1, .int .i64 rsk, .int .i64 rse, .int .i64 rss].toArray 27 (0, 0))) := (J12.out.block _ (by omega)).trans Y9.out
  have G12 : Hid (w12.heap[w5.heap.size]? = some (.cells (sCells ns).toArray 9 (0, 0))) := (J12.out.block _ (by omega)).trans G9.out
  have O12 : Hid (OwnS w12 w.heap.size (.slice x0 rl y0) rnames) := O9.out.keep J12.out
  have Q12 : Hid (OwnS w12 w7.heap.size (.slice x1 rl y1) rnames) := Q9.out.keep J12.out
  have K12 : Hid (Below w.heap.size w w12) := HQ.out _ J12.out
  have HZ12 : Hid (w4.heap.size < w5.heap.size ∧ w5.heap.size < w7.heap.size ∧ w7.heap.size ≤ w8.heap.size ∧ w8.heap.size < w9.heap.size ∧ w9.heap.size ≤ w12.heap.size ∧ w.heap.size ≤ w4.heap.size) := ⟨by omega, by omega, by omega, by omega, by omega, by omega⟩
  clear R9 Y9 G9 O9 Q9 K9 J12 HQ z5 z7 z9 zk z12
  go_wp2_with fail
  refine (HMX'.out _ _ G12.out).mono ?_
  rintro e w13 ⟨⟨xm, rfl, hxm⟩, sm, s13, bl⟩
  have zz := HZ12.out
  have R13 : Hid (w13.heap[w4.heap.size]? = some (.cells [Value.int .i64 rkey, .slice x0 rl y0, .int .i64 rsk, .int .i64 rse, .int .i64 rss].toArray 27 (0, 0))) := (sm _ (by omega) (by omega)).trans R12.out
  have Y13 : Hid (w13.heap[w8.heap.size]? = some (.cells [Value.int .i64 rkey, .slice x1 rl y1, .int .i64 rsk, .int .i64 rse, .int .i64 rss].toArray 27 (0, 0))) := (sm _ (by omega) (by omega)).trans Y12.out
  have O13 : Hid (OwnS w13 w.heap.size (.slice x0 rl y0) rnames) := by
    refine ⟨O12.out.1, ?_⟩
    rcases O12.out.2 with h | ⟨g, cap, cur, e, h1, h2, h3⟩
    · exact .inl h
    · have hgb := P5.out g (by rw [e]; rfl)
      exact .inr ⟨g, cap, cur, e, h1, by rw [sm g (by omega) (by omega)]; exact h2, h3⟩
  have Q13 : Hid (OwnS w13 w7.heap.size (.slice x1 rl y1) rnames) := Q12.out.same (fun b h1 h2 => sm b (by omega) h2)
  have K13 : Hid (Below w.heap.size w w13) := bl _ _ (by omega) (by omega) K12.out
  have Z13 : Hid (w9.heap.size ≤ w13.heap.size) := by show _ ≤ _; omega
  clear sm bl s13 zz R12 Y12 G12 O12 Q12 K12
  have k0 := rowFacts Y13.out 0 _ rfl
  have k1 := rowFacts Y13.out 1 _ rfl
  have k2 := rowFacts Y13.out 2 _ rfl
  have k3 := rowFacts Y13.out 3 _ rfl
  have k4 := rowFacts Y13.out 4 _ rfl
  have d0 := rowFacts R13.out 0 _ rfl
  have d1 := rowFacts R13.out 1 _ rfl
  have d2 := rowFacts R13.out 2 _ rfl
  have d3 := rowFacts R13.out 3 _ rfl
  have d4 := rowFacts R13.out 4 _ rfl
  have hx0 : ¬ xm < 0 := by omega
  go_wp2_with fail
  refine (HER'.out _ _ _ _ _ Q13.out.strs O13.out.strs).mono ?_
  rintro e w14 ⟨rfl, b14⟩
  have zz := HZ12.out
  have z13 := Z13.out
  have z14 := b14.size
  have R14 : Hid (w14.heap[w4.heap.size]? = some (.cells [Value.int .i64 rkey, .slice x0 rl y0, .int .i64 rsk, .int .i64 rse, .int .i64 rss].toArray 27 (0, 0))) := (b14.block _ (by omega)).trans R13.out
  have Y14 : Hid (w14.heap[w8.heap.size]? = some (.cells [Value.int .i64 rkey, .slice x1 rl y1, .int .i64 rsk, .int .i64 rse, .int .i64 rss].toArray 27 (0, 0))) := (b14.block _ (by omega)).trans Y13.out
  have O14 : Hid (OwnS w14 w.heap.size (.slice x0 rl y0) rnames) := O13.out.keep b14
  have Q14 : Hid (OwnS w14 w7.heap.size (.slice x1 rl y1) rnames) := Q13.out.keep b14
  have K14 : Hid (Below w.heap.size w w14) := K13.out.trans (b14.mono K13.out.size)
  have Z14 : Hid (w9.heap.size ≤ w14.heap.size) := by show _ ≤ _; omega
  clear b14 R13 Y13 O13 Q13 K13 k0 k1 k2 k3 k4 d0 d1 d2 d3 d4 zz z13 z14
  obtain ⟨m, hm⟩ : ∃ m, m = 1 + rl := ⟨_, rfl⟩
  rw [← hm] at HMR' HHR'
  have hm1 : 1 ≤ m := by omega
  have em : ((m : Int) != (m : Int)) = false := by simp
  clear hm
  go_upto_region 17 with fail
  have k0 := rowFacts Y14.out 0 _ rfl
  have k1 := rowFacts Y14.out 1 _ rfl
  have k2 := rowFacts Y14.out 2 _ rfl
  have k3 := rowFacts Y14.out 3 _ rfl
  have k4 := rowFacts Y14.out 4 _ rfl
  go_wp2_with fail
  refine (HMR'.out _ _ _ Q14.out).mono ?_
  rintro e w15 ⟨rfl, mk, sm, s15, bl⟩
  have zz := HZ12.out
  have z14 := Z14.out
  have R15 : Hid (w15.heap[w4.heap.size]? = some (.cells [Value.int .i64 rkey, .slice x0 rl y0, .int .i64 rsk, .int .i64 rse, .int .i64 rss].toArray 27 (0, 0))) := (sm _ (fun e => by have := (P8.out _ e).1; omega) (by omega)).trans R14.out
  have Y15 : Hid (w15.heap[w8.heap.size]? = some (.cells [Value.int .i64 rkey, .slice x1 rl y1, .int .i64 rsk, .int .i64 rse, .int .i64 rss].toArray 27 (0, 0))) := (sm _ (fun e => by have := (P8.out _ e).2; omega) (by omega)).trans Y14.out
  have O15 : Hid (OwnS w15 w.heap.size (.slice x0 rl y0) rnames) := by
    refine ⟨O14.out.1, ?_⟩
    rcases O14.out.2 with h | ⟨g, cap, cur, e, h1, h2, h3⟩
    · exact .inl h
    · have hgb := P5.out g (by rw [e]; rfl)
      exact .inr ⟨g, cap, cur, e, h1, by rw [sm g (fun e => by have := (P8.out _ e).1; omega) (by omega)]; exact h2, h3⟩
  have M15 : Hid (MkS w15 (.slice x1 rl y1) rl) := mk
  have K15 : Hid (Below w.heap.size w w15) := bl _ _ (by omega) (by omega) K14.out
  have Z15 : Hid (w9.heap.size ≤ w15.heap.size) := by show _ ≤ _; omega
  clear sm bl mk s15 zz z14 R14 Y14 O14 Q14 K14 k0 k1 k2 k3 k4
  go_upto_region 19 with fail
  have k0 := rowFacts Y15.out 0 _ rfl
  have k1 := rowFacts Y15.out 1 _ rfl
  have k2 := rowFacts Y15.out 2 _ rfl
  have k3 := rowFacts Y15.out 3 _ rfl
  have k4 := rowFacts Y15.out 4 _ rfl
  go_wp2_with fail
  refine (HHR'.out _ _ M15.out).mono ?_
  rintro e w16 ⟨rfl, b16⟩
  have s16 := b16.size
  have zz := HZ12.out
  have z15 := Z15.out
  have R16 : Hid (w16.heap[w4.heap.size]? = some (.cells [Value.int .i64 rkey, .slice x0 rl y0, .int .i64 rsk, .int .i64 rse, .int .i64 rss].toArray 27 (0, 0))) := (b16.block _ (by omega)).trans R15.out
  have Y16 : Hid (w16.heap[w8.heap.size]? = some (.cells [Value.int .i64 rkey, .slice x1 rl y1, .int .i64 rsk, .int .i64 rse, .int .i64 rss].toArray 27 (0, 0))) := (b16.block _ (by omega)).trans Y15.out
  have O16 : Hid (OwnS w16 w.heap.size (.slice x0 rl y0) rnames) := O15.out.keep b16
  have M16 : Hid (MkS w16 (.slice x1 rl y1) rl) := M15.out.keep b16
  have K16 : Hid (Below w.heap.size w w16) := K15.out.trans (b16.mono K15.out.size)
  have Z16 : Hid (w9.heap.size ≤ w16.heap.size) := by show _ ≤ _; omega
  clear b16 R15 Y15 O15 M15 K15 k0 k1 k2 k3 k4 s16 zz z15
  go_upto_region 24 with fail
  go_wp2_with fail
  refine (HT'.out _ (HA.out _ K16.out)).mono ?_
  rintro e w17 ⟨rfl, hr4, b17⟩
  have G17 : Hid _ := hr4
  have B17 : Hid (Below w16.heap.size w16 w17) := b17
  clear hr4 b17
  go_wp2_with fail
  have K17 : Hid (Below w.heap.size w w17) := K16.out.trans (B17.out.mono K16.out.size)
  refine (HI'.out _ _ (HKy.out _ K17.out) G17.out).mono ?_
  rintro e w18 ⟨v2, rfl, o2, b18⟩
  obtain ⟨x2, y2, e2, _⟩ := OwnS.form o2
  subst e2
  rw [hrl] at o2 ⊢
  obtain ⟨w19, hw19⟩ : ∃ w19, w19 = w18.alloc (.cells #[.int .i64 rkey, .slice x2 rl y2, .int .i64 rsk, .int .i64 rse, .int .i64 rss] 27 (0, 0)) := ⟨_, rfl⟩
  have b19 : Below w18.heap.size w18 w19 := by rw [hw19]; exact (Below.refl _ _).alloc (Nat.le_refl _) _
  have s17 := B17.out.size
  have s18 := b18.size
  have zz := HZ12.out
  have z16 := Z16.out
  have d19 : Below w16.heap.size w16 w19 := (B17.out.trans (b18.mono s17)).trans (b19.mono (by omega))
  have R19 : Hid (w19.heap[w4.heap.size]? = some (.cells [Value.int .i64 rkey, .slice x0 rl y0, .int .i64 rsk, .int .i64 rse, .int .i64 rss].toArray 27 (0, 0))) := (d19.block _ (by omega)).trans R16.out
  have Y19 : Hid (w19.heap[w8.heap.size]? = some (.cells [Value.int .i64 rkey, .slice x1 rl y1, .int .i64 rsk, .int .i64 rse, .int .i64 rss].toArray 27 (0, 0))) := (d19.block _ (by omega)).trans Y16.out
  have H19 : Hid (w19.heap[w18.heap.size]? = some (.cells [Value.int .i64 rkey, .slice x2 rl y2, .int .i64 rsk, .int .i64 rse, .int .i64 rss].toArray 27 (0, 0))) := by show _ = _; rw [hw19]; exact heap_alloc_new w18 _
  have O19 : Hid (OwnS w19 w.heap.size (.slice x0 rl y0) rnames) := O16.out.keep d19
  have Q19 : Hid (OwnS w19 w17.heap.size (.slice x2 rl y2) rnames) := o2.keep b19
  have M19 : Hid (MkS w19 (.slice x1 rl y1) rl) := M16.out.keep d19
  have K19 : Hid (Below w.heap.size w w19) := K16.out.trans (d19.mono K16.out.size)
  have Z19 : Hid (w9.heap.size ≤ w19.heap.size) := by show _ ≤ _; have := d19.size; omega
  clear b18 b19 d19 o2 s17 s18 zz z16 B17 G17 R16 Y16 O16 M16 K16 K17
  go_upto_region 25 with fail
  rw [← hw19]
  clear hw19
  have k0 := rowFacts H19.out 0 _ rfl
  have k1 := rowFacts H19.out 1 _ rfl
  have k2 := rowFacts H19.out 2 _ rfl
  have k3 := rowFacts H19.out 3 _ rfl
  have k4 := rowFacts H19.out 4 _ rfl
  have d0 := rowFacts R19.out 0 _ rfl
  have d1 := rowFacts R19.out 1 _ rfl
  have d2 := rowFacts R19.out 2 _ rfl
  have d3 := rowFacts R19.out 3 _ rfl
  have d4 := rowFacts R19.out 4 _ rfl
  go_wp2_with fail
  refine (HER'.out _ _ _ _ _ Q19.out.strs O19.out.strs).mono ?_
  rintro e w20 ⟨rfl, b20⟩
  have s20 := b20.size
  have zz := HZ12.out
  have z19 := Z19.out
  have Y20 : Hid (w20.heap[w8.heap.size]? = some (.cells [Value.int .i64 rkey, .slice x1 rl y1, .int .i64 rsk, .int .i64 rse, .int .i64 rss].toArray 27 (0, 0))) := (b20.block _ (by omega)).trans Y19.out
  have M20 : Hid (MkS w20 (.slice x1 rl y1) rl) := M19.out.keep b20
  have K20 : Hid (Below w.heap.size w w20) := K19.out.trans (b20.mono K19.out.size)
  clear b20 s20 zz z19 R19 Y19 H19 O19 Q19 M19 K19 k0 k1 k2 k3 k4 d0 d1 d2 d3 d4
  go_upto_region 28 with fail
  have k0 := rowFacts Y20.out 0 _ rfl
  have k1 := rowFacts Y20.out 1 _ rfl
  have k2 := rowFacts Y20.out 2 _ rfl
  have k3 := rowFacts Y20.out 3 _ rfl
  have k4 := rowFacts Y20.out 4 _ rfl
  go_wp2_with fail
  refine (HHR'.out _ _ M20.out).mono ?_
  rintro e w21 ⟨rfl, b21⟩
  have K21 : Hid (Below w.heap.size w w21) := K20.out.trans (b21.mono K20.out.size)
  clear b21 k0 k1 k2 k3 k4
  go_wp2_with fail
  go_ret
  exact ⟨rfl, K21.out⟩
end Go.Proofs.YthofeoelndplpaaGreatDoor
namespace Go.Proofs.YthofeoelndplpaaGreatDoor
open Go.ChangeShapes Go.WideShapes Go.ChangeAt Go.RowKit

theorem key_gv : Tryz.prog.globalNamed "loop.example/g00371/impl.roundNumbers" = some 3 := by kernel_rfl
theorem key_gt : (Tryz.prog.globals[3]?).map (·.type) = some 150 := by kernel_rfl
theorem key_c : Tryz.prog.cellsOf 125 = 1 := by kernel_rfl
theorem keyLaid {H : Type} : (Rows.laid_loop_example_g00371_impl_roundNumbers : DataW H) = .agg (keyL.map fun n : Nat => .lit (.int .u32 (n : Int))) := rfl
theorem key_num (k : Nat) (h : k < 64) : ((keyL.getD k 0 : Nat) : Int) = uI (kAt k) := by
  have hl : k < keyL.length := h
  have hb : ∀ n ∈ keyL, n < 4294967296 := by decide
  have := hb _ (List.getElem_mem hl)
  unfold kAt uI
  rw [BitVec.toNat_ofNat, List.getD, List.getElem?_eq_getElem hl]
  simp only [Option.getD_some]
  rw [Nat.mod_eq_of_lt (by simpa using this)]
theorem keys_of_trod {W : World} {enc : TypeId × Value → Unit} {base g0 : Nat} {sp : Nat → Bool} {t0 : TypeId} {cs0 : Array Value} {f0 : Nat} {p0 : List MemPlace}
    (hg0 : Tryz.prog.globalNamed "loop.example/g00371/impl.roundNumbers" = some g0) (ht0 : (Tryz.prog.globals[g0]?).map (·.type) = some t0) (hv0 : W.var? Tryz.prog "loop.example/g00371/impl.roundNumbers" = some cs0)
    (hd0 : DataW.trod enc Tryz.prog W base sp false f0 t0 cs0.toList = some (Rows.laid_loop_example_g00371_impl_roundNumbers, p0)) : Keys W := by
  obtain rfl := Option.some.inj (key_gv.symm.trans hg0)
  obtain rfl := Option.some.inj (key_gt.symm.trans ht0)
  obtain ⟨xs, m1, rfl, hx1, hlen, hn, hel⟩ := DataW.trod_array Tryz.underlying150 hd0
  rw [keyLaid] at hx1
  simp only [Prod.mk.injEq, DataW.agg.injEq] at hx1
  intro i hi
  have h1 := hel i hi
  have hxi : i < xs.length := by omega
  rw [List.getElem?_eq_getElem hxi] at h1
  obtain ⟨k, e1, e2, _⟩ := DataW.trod_int Tryz.underlying125 h1
  have h2 : xs[i].1 = .lit (.int .u32 (uI (kAt i))) := by
    have h3 : (xs.map (·.1))[i]? = (keyL.map fun n : Nat => DataW.lit (.int .u32 (n : Int)))[i]? := by rw [← hx1.1]
    rw [List.getElem?_map, List.getElem?_map, List.getElem?_eq_getElem hxi, List.getElem?_eq_getElem (show i < keyL.length from hi)] at h3
    have h4 : xs[i].1 = _ := Option.some.inj h3
    rw [h4, ← key_num i hi, List.getD, List.getElem?_eq_getElem (show i < keyL.length from hi)]
    rfl
  rw [e2] at h2
  have hk : k = uI (kAt i) := by simpa using h2
  subst hk
  have hc := World.var?_cell hg0 hv0 i
  rw [hc]
  rw [key_c, Nat.mul_one] at e1
  have h5 := congrArg (fun l => l[0]?) e1
  simp only [List.getElem?_take, List.getElem?_drop] at h5
  simpa using h5
theorem keys_of_laid {W : World} (h : laidMetH Tryz.prog [("loop.example/g00371/impl.roundNumbers", Rows.laid_loop_example_g00371_impl_roundNumbers)] W) : Keys W := by
  rw [MakeChecks.laidMetH_plain _ _ _ (by kernel_rfl)] at h
  obtain ⟨ps, ⟨g0, t0, cs0, f0, p0, q0, hg0, ht0, hv0, hd0, _⟩, _⟩ := h
  exact keys_of_trod hg0 ht0 hv0 hd0
end Go.Proofs.YthofeoelndplpaaGreatDoor
namespace Go.Proofs.YthofeoelndplpaaGreatDoor
open Go.ChangeShapes Go.WideShapes Go.ChangeAt Go.RowKit

theorem gv_errNotRight : Tryz.prog.globalNamed "loop.example/g00371/impl.errNotRight" = some 0 := by kernel_rfl
theorem gt_errNotRight : (Tryz.prog.globals[0]?).map (·.type) = some 61 := by kernel_rfl
theorem errCells : Tryz.prog.cellsOf 174 = 1 := by kernel_rfl
theorem strCells : Tryz.prog.cellsOf 9 = 1 := by kernel_rfl
theorem errStar : "*" ++ "errors.errorString" = "*errors.errorString" := by decide
theorem errName (u : TypeId) (h : Tryz.prog.typeName? 3 u = some "*errors.errorString") : u = 159 :=
  typeName_ptr_named (nm := "errors.errorString") (by rw [errStar]; kernel_rfl) (by kernel_rfl) (by decide) u (by rw [errStar]; exact h)
set_option maxRecDepth 100000 in
set_option maxHeartbeats 2000000 in
theorem laid_T1 {W : World} (h : laidMetH Tryz.prog [("loop.example/g00371/impl.roundNumbers", Rows.laid_loop_example_g00371_impl_roundNumbers), ("loop.example/g00371/impl.errNotRight", Rows.laid_loop_example_g00371_impl_errNotRight)] W) : Keys W ∧ Err1 W := by
  rw [MakeChecks.laidMetH_plain _ _ _ (by kernel_rfl)] at h
  obtain ⟨ps, ⟨gT, tT, csT, fT, pT, qT, hgT, htT, hvT, hdT, ⟨g1, t1, cs1, f1, p1, q1, hg1, ht1, hv1, hd1, hn, e1⟩, eT⟩, hnd, hrows⟩ := h
  have kT := keys_of_trod hgT htT hvT hdT
  obtain rfl := Option.some.inj (gv_errNotRight.symm.trans hg1)
  obtain rfl := Option.some.inj (gt_errNotRight.symm.trans ht1)
  subst e1
  subst eT
  obtain ⟨l1⟩ := cs1
  have ok1 : ∀ u v, l1 = [.iface u v] → Value.okWide Tryz.prog W .any 0 u v := fun u v e => by
    subst e
    exact (hrows 0 0 (by simp [MemPlace.row])).2 u v (by simpa using World.var?_cell hg1 hv1 0)
  obtain ⟨a1, s1, rfl, _, _, _, rfl⟩ := errorString_of_trod Tryz.underlying61 errName Tryz.underlying159 Tryz.underlying174 rfl rfl Tryz.underlying9 errCells strCells hd1 ok1
  obtain ⟨c1, y1, hb1⟩ := (hrows a1.block a1.off (by simp [MemPlace.row])).1
  have E1 : ErrV 0 W a1 := ⟨by simpa using World.var?_cell hg1 hv1 0, c1, y1, hb1⟩
  exact ⟨kT, _, E1⟩
end Go.Proofs.YthofeoelndplpaaGreatDoor
namespace Go.Proofs.YthofeoelndplpaaGreatDoor

theorem trodVars_len {H : Type} {enc : TypeId × Value → H} {P : Program} {w : World} {spare : Nat → Bool} : ∀ {ns : List String} {gs : List (DataW H)} {ps : List MemPlace}, DataW.TrodVars enc P w spare ns gs ps → gs.length = ns.length
  | [], [], _, _ => rfl
  | [], _ :: _, _, h => by simp [DataW.TrodVars] at h
  | _ :: _, [], _, h => by simp [DataW.TrodVars] at h
  | _ :: _, _ :: _, _, h => by
    obtain ⟨g, t, cs, fuel, p, q, _, _, _, _, hs, _⟩ := h
    simp only [List.length_cons, trodVars_len hs]
end Go.Proofs.YthofeoelndplpaaGreatDoor
