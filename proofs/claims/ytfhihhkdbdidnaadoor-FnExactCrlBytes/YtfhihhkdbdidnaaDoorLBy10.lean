/- impl.CrlBytes, walked. laws.szInt64S, szCrl, walked. laws.toInt64S, walked. A Sig in memory. laws.toSig, walked. laws.toCrl, walked. laws.eqInt64S, walked. laws.eqSig, walked: of a Sig and itself. laws.eqCrl, walked: of one and itself. Names that came in, opened. What a walk is told of a slice of integers that came in. -/
import Derived.Test.YtfhihhkdbdidnaaDoorLBy09
import Derived.Test.YtfhihhkdbdidnaaDoorLBy03
import Derived.Deep.Cut
import Derived.Test.YtfhihhkdbdidnaaDoorLBy02
import Derived.Test.YtfhihhkdbdidnaaDoorLBy01
import Derived.Handy
import Derived.Test.YtfhihhkdbdidnaaDoorLBy08
import Derived.ProofKit
import Derived.SliceStrings
import Derived.Deep.Strs
import Derived.OpenShut
namespace Go.Proofs.YtfhihhkdbdidnaaDoor
open Go.RowKit

set_option linter.unusedSimpArgs false in
set_option maxHeartbeats 4000000 in
set_option maxRecDepth 100000 in
theorem implCrlBytes (c : Lst) (a : Option Addr) (cap : Nat) (w : World) (hi : c.issuer.size ≤ maxLen) (hl : c.serials.length ≤ 1048576) (ha : IsInts w a c.serials) (hE : Err1 w) :
    Calls Tryd.prog 7 #[c.val (.slice a c.serials.length cap)] w fun e w' => e = .returned (.string (crlBytesD c)) ∧ Below w.heap.size w w' := by
  have HBx : Hid (∀ V, IsInts V a c.serials → Calls Tryd.prog 17 #[c.val (.slice a c.serials.length cap)] V fun e w' => ∃ g, e = .returned (c.box (.slice a c.serials.length cap) (listE c) (.slice (some ⟨g, 0, none⟩) 3 3)) ∧ Row3 c.sk c.se c.ss w' g ∧ Below V.heap.size V w') := fun V hV => boxCrl c a cap V hi hl hV
  obtain ⟨b1, h1⟩ := hE
  have zE := listE_size c
  have HRt : Hid (∀ V v nv, Below w.heap.size w V → Calls Tryd.prog 18 #[c.box v (listE c) nv] V fun r w' => (∃ t p, (crlB c = false ∧ r = .returned (.iface t p)) ∨ (crlB c = true ∧ r = .returned .nilIface)) ∧ Below V.heap.size V w') := fun V v nv hV => by
    refine (rightCrl c v nv (listE c) _ V (h1.keep hV).1).mono ?_
    rintro r w' ⟨rfl, hb⟩
    refine ⟨?_, hb⟩
    rw [listE_ne]
    cases e1 : (listB c && sigRB c.sk c.se c.ss) with
    | false => exact ⟨_, _, .inl ⟨e1, rfl⟩⟩
    | true => exact ⟨0, .nilIface, .inr ⟨e1, rfl⟩⟩
  have HLy : Hid (crlB c = true → ∀ V v g, Row3 c.sk c.se c.ss V g → Calls Tryd.prog 19 #[c.box v (listE c) (.slice (some ⟨g, 0, none⟩) 3 3)] V fun r w' => r = .returned (.string (crlBytesD c)) ∧ Below V.heap.size V w') := fun h V v g hg => by
    have hD : listE c = listD c := if_pos (crlB_list h)
    have := layCrl c v (listE c) g V (by omega) (crlB_sig h) hg
    rw [show crlBytesD c = listY c from if_pos h]
    rw [hD] at this ⊢
    exact this
  have HN : Hid (crlB c = false → crlBytesD c = ⟨#[]⟩) := fun h => by show (if _ then _ else _) = _; rw [if_neg (by rw [h]; simp)]
  clear hi hl zE h1
  generalize crlBytesD c = R at *
  generalize crlB c = P at *
  generalize listE c = D at *
  obtain ⟨iss, fr, till, serials, sk, se, ss⟩ := c
  unfold Lst.val at *
  unfold Lst.box at *
  simp only at HBx HRt HLy ha ⊢
  generalize serials.length = nl at *
  obtain ⟨w1, hw1⟩ : ∃ w1, w1 = w.alloc (.cells #[.string iss, .int .i64 fr, .int .i64 till, .slice a nl cap, .int .i64 sk, .int .i64 se, .int .i64 ss] 31 (0, 0)) := ⟨_, rfl⟩
  have r0 : w1.heap[w.heap.size]? = some (.cells [Value.string iss, .int .i64 fr, .int .i64 till, .slice a nl cap, .int .i64 sk, .int .i64 se, .int .i64 ss].toArray 31 (0, 0)) := by rw [hw1]; exact heap_alloc_new w _
  have B1 : Hid (Below w.heap.size w w1) := by rw [hw1]; exact (Below.refl _ _).alloc (Nat.le_refl _) _
  have z1 : w.heap.size < w1.heap.size := by rw [hw1]; simp
  have HK : Hid (∀ V, Below w1.heap.size w1 V → V.cell? ⟨w.heap.size, 0, none⟩ = some (.string iss) ∧ V.cell? ⟨w.heap.size, 1, none⟩ = some (.int .i64 fr) ∧ V.cell? ⟨w.heap.size, 2, none⟩ = some (.int .i64 till) ∧ V.cell? ⟨w.heap.size, 3, none⟩ = some (.slice a nl cap) ∧ V.cell? ⟨w.heap.size, 4, none⟩ = some (.int .i64 sk) ∧ V.cell? ⟨w.heap.size, 5, none⟩ = some (.int .i64 se) ∧ V.cell? ⟨w.heap.size, 6, none⟩ = some (.int .i64 ss)) := fun V hV => by
    have hP := (hV.block _ z1).trans r0
    exact ⟨rowFacts hP 0 _ rfl, rowFacts hP 1 _ rfl, rowFacts hP 2 _ rfl, rowFacts hP 3 _ rfl, rowFacts hP 4 _ rfl, rowFacts hP 5 _ rfl, rowFacts hP 6 _ rfl⟩
  have HA : Hid (∀ V, Below w1.heap.size w1 V → IsInts V a serials) := fun V hV => (ha.keep B1.out).keep hV
  have HB : Hid (∀ V, Below w1.heap.size w1 V → Below w.heap.size w V) := fun V hV => B1.out.trans (hV.mono B1.out.size)
  have I1 : Hid (Below w1.heap.size w1 w1) := Below.refl _ _
  have D1 : Hid (Below w1.heap.size w1 w1.drew) := I1.out.drew
  clear r0 z1 B1 ha
  obtain ⟨c0, c1, c2, c3, c4, c5, c6⟩ := HK.out w1 I1.out
  go_enter Tryd.func7, Tryd.ntmps7
  go_upto_region 1 with fail
  rw [← hw1]
  clear hw1
  go_wp2_with fail
  refine (HBx.out _ (HA.out _ I1.out)).mono ?_
  rintro e w2 ⟨g, rfl, r2, b2⟩
  have K2 : Hid (Below w1.heap.size w1 w2) := b2
  clear b2 c0 c1 c2 c3 c4 c5 c6
  obtain ⟨w3, hw3⟩ : ∃ w3, w3 = w2.alloc (.cells #[.string iss, .int .i64 fr, .int .i64 till, .slice a nl cap, .int .i64 sk, .int .i64 se, .int .i64 ss, .string D, .int .i64 sk, .int .i64 se, .int .i64 ss, .slice (some ⟨g, 0, none⟩) 3 3] 43 (0, 0)) := ⟨_, rfl⟩
  have b3 : Below w2.heap.size w2 w3 := by rw [hw3]; exact (Below.refl _ _).alloc (Nat.le_refl _) _
  have r3 : w3.heap[w2.heap.size]? = some (.cells [Value.string iss, .int .i64 fr, .int .i64 till, .slice a nl cap, .int .i64 sk, .int .i64 se, .int .i64 ss, .string D, .int .i64 sk, .int .i64 se, .int .i64 ss, .slice (some ⟨g, 0, none⟩) 3 3].toArray 43 (0, 0)) := by rw [hw3]; exact heap_alloc_new w2 _
  have K3 : Hid (Below w1.heap.size w1 w3) := K2.out.trans (b3.mono K2.out.size)
  have G3 : Hid (Row3 sk se ss w3 g) := r2.keep b3
  have z3 : w2.heap.size < w3.heap.size := by rw [hw3]; simp
  have HX : Hid (∀ V, Below w3.heap.size w3 V → V.cell? ⟨w2.heap.size, 0, none⟩ = some (.string iss) ∧ V.cell? ⟨w2.heap.size, 1, none⟩ = some (.int .i64 fr) ∧ V.cell? ⟨w2.heap.size, 2, none⟩ = some (.int .i64 till) ∧ V.cell? ⟨w2.heap.size, 3, none⟩ = some (.slice a nl cap) ∧ V.cell? ⟨w2.heap.size, 4, none⟩ = some (.int .i64 sk) ∧ V.cell? ⟨w2.heap.size, 5, none⟩ = some (.int .i64 se) ∧ V.cell? ⟨w2.heap.size, 6, none⟩ = some (.int .i64 ss) ∧ V.cell? ⟨w2.heap.size, 7, none⟩ = some (.string D) ∧ V.cell? ⟨w2.heap.size, 8, none⟩ = some (.int .i64 sk) ∧ V.cell? ⟨w2.heap.size, 9, none⟩ = some (.int .i64 se) ∧ V.cell? ⟨w2.heap.size, 10, none⟩ = some (.int .i64 ss) ∧ V.cell? ⟨w2.heap.size, 11, none⟩ = some (.slice (some ⟨g, 0, none⟩) 3 3)) := fun V hV => by
    have hP := (hV.block _ z3).trans r3
    exact ⟨rowFacts hP 0 _ rfl, rowFacts hP 1 _ rfl, rowFacts hP 2 _ rfl, rowFacts hP 3 _ rfl, rowFacts hP 4 _ rfl, rowFacts hP 5 _ rfl, rowFacts hP 6 _ rfl, rowFacts hP 7 _ rfl, rowFacts hP 8 _ rfl, rowFacts hP 9 _ rfl, rowFacts hP 10 _ rfl, rowFacts hP 11 _ rfl⟩
  have HQ : Hid (∀ V, Below w3.heap.size w3 V → Below w1.heap.size w1 V) := fun V hV => K3.out.trans (hV.mono K3.out.size)
  have I3 : Hid (Below w3.heap.size w3 w3) := Below.refl _ _
  clear b3 r3 z3 r2
  obtain ⟨d0, d1, d2, d3, d4, d5, d6, d7, d8, d9, d10, d11⟩ := HX.out w3 I3.out
  go_upto_region 2 with fail
  rw [← hw3]
  clear hw3
  go_wp2_with fail
  refine (HRt.out _ _ _ (HB.out _ K3.out)).mono ?_
  rintro e w4 ⟨⟨t4, p4, h4⟩, b4⟩
  have J4 : Hid (Below w3.heap.size w3 w4) := b4
  clear b4 d0 d1 d2 d3 d4 d5 d6 d7 d8 d9 d10 d11
  rcases h4 with ⟨hP, rfl⟩ | ⟨hP, rfl⟩
  · have HF : Hid (R = ⟨#[]⟩) := HN.out hP
    go_wp2
    go_ret
    exact ⟨by rw [HF.out]; rfl, HB.out _ (HQ.out _ J4.out)⟩
  have HL' := HLy.out hP
  have HL : Hid _ := HL'
  clear HL' HLy HN HRt hP
  obtain ⟨d0, d1, d2, d3, d4, d5, d6, d7, d8, d9, d10, d11⟩ := HX.out w4 J4.out
  go_wp2_with fail
  refine (HL.out _ _ g (G3.out.keep J4.out)).mono ?_
  rintro e w5 ⟨rfl, b5⟩
  have J5 : Hid (Below w3.heap.size w3 w5) := J4.out.trans (b5.mono J4.out.size)
  clear b5 d0 d1 d2 d3 d4 d5 d6 d7 d8 d9 d10 d11
  go_wp2
  go_ret
  exact ⟨rfl, HB.out _ (HQ.out _ J5.out)⟩
end Go.Proofs.YtfhihhkdbdidnaaDoor
namespace Go.Proofs.YtfhihhkdbdidnaaDoor
open Go.RowKit

def Lst.Small (c : Lst) : Prop := c.issuer.size ≤ 1048576 ∧ c.serials.length ≤ 1048576
theorem szInts (a : Option Addr) (n c : Nat) (left : Int) (w : World) (hn : n ≤ maxLen) (h0 : 0 ≤ left) (h1 : left ≤ 1048576) :
    Calls Tryd.prog 9 #[.slice a n c, .int .i64 left] w fun e w' => ∃ x : Int, e = .returned (.int .i64 x) ∧ (x < 0 ∨ n ≤ 1048576) ∧ -1 ≤ x ∧ x ≤ 1048576 ∧ w' = w := by
  unfold maxLen at hn
  by_cases hfit : left < (n : Int)
  · go_enter Tryd.func9, Tryd.ntmps9
    go_wp2
    go_ret
    exact ⟨_, rfl, .inl (by omega), by omega, by omega, rfl⟩
  · go_enter Tryd.func9, Tryd.ntmps9
    go_wp2
    go_ret
    exact ⟨_, rfl, .inr (by omega), by omega, by omega, rfl⟩
set_option maxHeartbeats 4000000 in
set_option maxRecDepth 100000 in
theorem szCrl (c : Lst) (a : Option Addr) (cap : Nat) (w : World) (hi : c.issuer.size ≤ maxLen) (hl : c.serials.length ≤ maxLen) :
    Calls Tryd.prog 4 #[c.val (.slice a c.serials.length cap), .int .i64 1048576] w fun e w' => ∃ x : Int, e = .returned (.int .i64 x) ∧ (x < 0 ∨ c.Small) ∧ -1 ≤ x ∧ x ≤ 1048576 ∧ Below w.heap.size w w' := by
  have HSm : Hid (c.issuer.size ≤ 1048576 → c.serials.length ≤ 1048576 → c.Small) := fun h1 h2 => ⟨h1, h2⟩
  obtain ⟨iss, fr, till, serials, sk, se, ss⟩ := c
  simp only at hi hl HSm
  generalize Lst.Small ⟨iss, fr, till, serials, sk, se, ss⟩ = Sm at *
  unfold Lst.val
  simp only
  generalize serials.length = nl at *
  obtain ⟨w1, hw1⟩ : ∃ w1, w1 = w.alloc (.cells #[.string iss, .int .i64 fr, .int .i64 till, .slice a nl cap, .int .i64 sk, .int .i64 se, .int .i64 ss] 26 (0, 0)) := ⟨_, rfl⟩
  have hrow : w1.heap[w.heap.size]? = some (.cells [Value.string iss, .int .i64 fr, .int .i64 till, .slice a nl cap, .int .i64 sk, .int .i64 se, .int .i64 ss].toArray 26 (0, 0)) := by rw [hw1]; exact heap_alloc_new w _
  have B1 : Hid (Below w.heap.size w w1) := by rw [hw1]; exact (Below.refl _ _).alloc (Nat.le_refl _) _
  have c0 := rowFacts hrow 0 _ rfl
  have c3 := rowFacts hrow 3 _ rfl
  have HZ : Hid (∀ V (left : Int), 0 ≤ left → left ≤ 1048576 → Calls Tryd.prog 9 #[.slice a nl cap, .int .i64 left] V fun e w' => ∃ x : Int, e = .returned (.int .i64 x) ∧ (x < 0 ∨ nl ≤ 1048576) ∧ -1 ≤ x ∧ x ≤ 1048576 ∧ w' = V) := fun V left h0 h1 => szInts a nl cap left V hl h0 h1
  unfold maxLen at hi
  clear hrow hl
  go_enter Tryd.func4, Tryd.ntmps4
  go_upto_region 1 with fail
  rw [← hw1]
  clear hw1
  by_cases h1 : 1048576 < iss.size
  · go_wp2
    go_ret
    exact ⟨_, rfl, .inl (by omega), by omega, by omega, B1.out⟩
  obtain ⟨l2, hl2⟩ : ∃ l2 : Int, l2 = 1048576 - (iss.size : Int) := ⟨_, rfl⟩
  have hl20 : 0 ≤ l2 := by omega
  have hl21 : l2 ≤ 1048576 := by omega
  go_upto_region 4 with fail
  rw [← hl2]
  clear hl2
  go_wp2_with fail
  refine (HZ.out _ l2 hl20 hl21).mono ?_
  rintro e w2 ⟨q, rfl, hq0, hq1, hq2, rfl⟩
  by_cases hq : q < 0
  · go_wp2
    go_ret
    exact ⟨_, rfl, .inl (by omega), by omega, by omega, B1.out⟩
  · have HSm' : Hid Sm := HSm.out (by omega) (by rcases hq0 with h | h <;> omega)
    go_wp2
    go_ret
    exact ⟨_, rfl, .inr HSm'.out, by omega, by omega, B1.out⟩
end Go.Proofs.YtfhihhkdbdidnaaDoor
namespace Go.Proofs.YtfhihhkdbdidnaaDoor
open Go.RowKit

set_option maxHeartbeats 1000000 in
set_option maxRecDepth 100000 in
theorem toInts (a : Option Addr) (zs : List Int) (c : Nat) (w : World) (hl : zs.length ≤ 1048576) (ha : IsInts w a zs) :
    Calls Tryd.prog 15 #[.slice a zs.length c] w fun e w' => e = .returned (.slice (some ⟨w.heap.size, 0, none⟩) zs.length zs.length) ∧ w'.heap[w.heap.size]? = some (.cells (lCells zs).toArray 2 (0, 0)) ∧ Below w.heap.size w w' := by
  obtain ⟨i0, hi, hz0, hz1, hz2⟩ := info_parts infoLong
  go_enter Tryd.func15, Tryd.ntmps15
  go_wp2_with (at_make; refine wpList_make_full _ rfl _ _ 22 rfl w.heap.size 2 i0 (.int .i64 0) 1 Tryd.underlying22 hi hz0 hz1 .i64 .i64 _ _ zs.length rfl rfl ?c1 ?c2 ?c3 ?c4 ?c5 ?_)
  case c1 => omega
  case c2 => omega
  case c3 => rw [hz2]; omega
  case c4 => unfold maxLen; omega
  case c5 => exact Nat.le_refl _
  intro w1 hown hgrow
  have hB1 : Below w.heap.size w w1 := (Below.refl _ w).grown hgrow (Nat.le_refl _) (fun k hk => by cases hk)
  obtain ⟨hrow, hlen⟩ := rowOf hown rfl
  generalize (madeCells #[Value.int IntKind.i64 0] zs.length).toList = L0 at hrow hlen
  have HR0 : Hid (w1.heap[w.heap.size]? = some (.cells L0.toArray 2 (0, 0))) := hrow
  have HL0 : Hid (L0.length = zs.length) := hlen
  have HB1 : Hid (Below w.heap.size w w1) := hB1
  clear hown hgrow hrow hlen hB1
  go_wp2_with fail
  go_loopw [4] (fun i wr => ∃ (k : Nat) (L : List Value), k ≤ zs.length ∧ i = .int .i64 k ∧ L.length = zs.length ∧ wr.heap[w.heap.size]? = some (.cells L.toArray 2 (0, 0)) ∧ (∀ j, j < k → L[j]? = some (.int .i64 (zs.getD j 0))) ∧ Below w.heap.size w wr)
    (fun i _ => zs.length - (intOf i).toNat)
  case atStart => exact ⟨0, L0, Nat.zero_le _, rfl, HL0.out, HR0.out, fun j hj => by omega, HB1.out⟩
  case round =>
    clear HL0 HR0 HB1
    obtain ⟨k, L, hk, rfl, hL, hg, hv, hb⟩ := hrel
    by_cases hlt : k < zs.length
    · obtain ⟨x, o, rfl, hc⟩ : ∃ x o, a = some ⟨x, o, none⟩ ∧ ∀ i, i < zs.length → wr.cell? ⟨x, o + i, none⟩ = some (.int .i64 (zs.getD i 0)) := by
        rcases ha.below hb ha.lt with rfl | h
        · simp at hlt
        · exact h
      have hck := hc k hlt
      have hd : wr.cell? ⟨w.heap.size, k, none⟩ = some L[k] := by
        rw [cell_of_row wr _ k _ _ (0, 0) hg]; simp
      have hz := frozen_of_row wr _ k _ _ hg
      have HG : Hid (∀ v, (wr.setCell ⟨w.heap.size, k, none⟩ v).heap[w.heap.size]? = some (.cells (L.set k v).toArray 2 (0, 0))) := fun v => by
        rw [heap_setCell_same wr _ k _ _ v hg]; simp
      have HV : Hid (∀ j, j < k + 1 → (L.set k (.int .i64 (zs.getD k 0)))[j]? = some (.int .i64 (zs.getD j 0))) := fun j hj => by
        by_cases e : j = k
        · subst e; rw [List.getElem?_set_self (by omega)]
        · rw [List.getElem?_set_ne (by omega), hv j (by omega)]
      have HL : Hid (∀ v, (L.set k v).length = zs.length) := fun v => by simpa using hL
      have HB : Hid (∀ v, Below w.heap.size w (wr.setCell ⟨w.heap.size, k, none⟩ v)) := fun v => hb.setCell (Nat.le_refl _) v
      generalize L[k] = v0 at hd
      generalize zs.getD k 0 = z at hck HV
      have a0 : (0 : Int) ≤ (k : Int) := by omega
      have b0 : (k : Int) < (zs.length : Int) := by omega
      generalize zs.length = n at *
      clear hc ha hv hg hb hL
      go_wp2
      go_roundw
      case rel => exact ⟨k + 1, _, by omega, by go_num, HL.out _, HG.out _, HV.out, HB.out _⟩
      case measure => simp [intOf]; omega
    · have hLe : L = lCells zs := by
        apply List.ext_getElem?
        intro j
        by_cases hj : j < zs.length
        · rw [hv j (by omega)]; simp [lCells, List.getD, hj]
        · rw [List.getElem?_eq_none (by omega), List.getElem?_eq_none (by simp [lCells]; omega)]
      subst hLe
      have HG : Hid (wr.heap[w.heap.size]? = some (.cells (lCells zs).toArray 2 (0, 0))) := hg
      have HB : Hid (Below w.heap.size w wr) := hb
      clear hg hv hb hL ha
      go_wp2
      go_ret
      exact ⟨rfl, HG.out, HB.out⟩
end Go.Proofs.YtfhihhkdbdidnaaDoor
namespace Go.Proofs.YtfhihhkdbdidnaaDoor
open Go.RowKit

theorem sigRow {w : World} {g : Nat} {t : TypeId} {x y z : Value} (hg : w.heap[g]? = some (.cells [x, y, z].toArray t (0, 0))) (a b c : Value) :
    (((w.setCell ⟨g, 0, none⟩ a).setCell ⟨g, 1, none⟩ b).setCell ⟨g, 2, none⟩ c).heap[g]? = some (.cells [a, b, c].toArray t (0, 0)) := rowSet c (rowSet b (rowSet a hg))
theorem sizeSig : (Tryd.prog.info? 29).map (·.size) = some 3 := by kernel_rfl
end Go.Proofs.YtfhihhkdbdidnaaDoor
namespace Go.Proofs.YtfhihhkdbdidnaaDoor
open Go.RowKit

set_option maxHeartbeats 1000000 in
set_option maxRecDepth 100000 in
theorem toSig (k e s : Int) (w : World) :
    Calls Tryd.prog 16 #[.agg #[.int .i64 k, .int .i64 e, .int .i64 s]] w fun r w' => r = .returned (.agg #[.int .i64 k, .int .i64 e, .int .i64 s]) ∧ Below w.heap.size w w' := by
  go_enter Tryd.func16, Tryd.ntmps16
  go_wp2
  go_returns
  refine ⟨rfl, ?_⟩
  repeat' first | exact Below.refl _ _ | refine Below.setCell ?_ (by simp) _ | refine Below.alloc ?_ (by simp; try omega) _
end Go.Proofs.YtfhihhkdbdidnaaDoor
namespace Go.Proofs.YtfhihhkdbdidnaaDoor
open Go.RowKit

theorem sizeCrl : (Tryd.prog.info? 31).map (·.size) = some 7 := by kernel_rfl
set_option maxHeartbeats 4000000 in
set_option maxRecDepth 100000 in
theorem toCrl (c : Lst) (a : Option Addr) (cap : Nat) (w : World) (hl : c.serials.length ≤ 1048576) (ha : IsInts w a c.serials) :
    Calls Tryd.prog 6 #[c.val (.slice a c.serials.length cap)] w fun e w' => ∃ g, e = .returned (c.val (.slice (some ⟨g, 0, none⟩) c.serials.length c.serials.length)) ∧ w.heap.size ≤ g ∧ w'.heap[g]? = some (.cells (lCells c.serials).toArray 2 (0, 0)) ∧ Below w.heap.size w w' := by
  obtain ⟨iss, fr, till, serials, sk, se, ss⟩ := c
  simp only at hl ha
  unfold Lst.val
  simp only
  have HT : Hid (∀ V, IsInts V a serials → Calls Tryd.prog 15 #[.slice a serials.length cap] V fun e w' => e = .returned (.slice (some ⟨V.heap.size, 0, none⟩) serials.length serials.length) ∧ w'.heap[V.heap.size]? = some (.cells (lCells serials).toArray 2 (0, 0)) ∧ Below V.heap.size V w') := fun V h1 => toInts a serials cap V hl h1
  generalize serials.length = nl at *
  obtain ⟨w1, hw1⟩ : ∃ w1, w1 = ((w.alloc (.cells #[.string iss, .int .i64 fr, .int .i64 till, .slice a nl cap, .int .i64 sk, .int .i64 se, .int .i64 ss] 26 (0, 0))).alloc (.cells #[.string ⟨#[]⟩, .int .i64 0, .int .i64 0, .slice none 0 0, .int .i64 0, .int .i64 0, .int .i64 0] 31 (0, 0))).alloc (.cells #[.string iss, .int .i64 fr, .int .i64 till, .slice none 0 0, .int .i64 0, .int .i64 0, .int .i64 0] 31 (0, 0)) := ⟨_, rfl⟩
  have r0 : w1.heap[w.heap.size]? = some (.cells [Value.string iss, .int .i64 fr, .int .i64 till, .slice a nl cap, .int .i64 sk, .int .i64 se, .int .i64 ss].toArray 26 (0, 0)) := by
    rw [hw1, Below.heap_alloc _ _ _ (by simp; omega), Below.heap_alloc _ _ _ (by simp)]; exact heap_alloc_new w _
  have r1 : w1.heap[w.heap.size + 1]? = some (.cells [Value.string ⟨#[]⟩, .int .i64 0, .int .i64 0, .slice none 0 0, .int .i64 0, .int .i64 0, .int .i64 0].toArray 31 (0, 0)) := by
    rw [hw1, Below.heap_alloc _ _ _ (by simp)]; exact heap_alloc2 w _ _
  have z1 : w1.heap.size = w.heap.size + 3 := by rw [hw1]; simp
  have r2 : w1.heap[w.heap.size + 1 + 1]? = some (.cells [Value.string iss, .int .i64 fr, .int .i64 till, .slice none 0 0, .int .i64 0, .int .i64 0, .int .i64 0].toArray 31 (0, 0)) := by
    rw [hw1]
    have := heap_alloc2 (w.alloc (.cells #[.string iss, .int .i64 fr, .int .i64 till, .slice a nl cap, .int .i64 sk, .int .i64 se, .int .i64 ss] 26 (0, 0))) (.cells #[.string ⟨#[]⟩, .int .i64 0, .int .i64 0, .slice none 0 0, .int .i64 0, .int .i64 0, .int .i64 0] 31 (0, 0)) (.cells #[.string iss, .int .i64 fr, .int .i64 till, .slice none 0 0, .int .i64 0, .int .i64 0, .int .i64 0] 31 (0, 0))
    simpa using this
  have B1 : Hid (Below w.heap.size w w1) := by rw [hw1]; exact (((Below.refl _ _).alloc (Nat.le_refl _) _).alloc (by simp) _).alloc (by simp; omega) _
  have A1 : Hid (IsInts w1 a serials) := ha.keep B1.out
  clear ha hl
  go_enter Tryd.func6, Tryd.ntmps6
  go_upto_region 5 with fail
  rw [← hw1]
  clear hw1
  have c6 := rowFacts r0 3 _ rfl
  have R0 : Hid _ := r0
  have R1 : Hid _ := r1
  have R2 : Hid _ := r2
  have Z1 : Hid (w1.heap.size = w.heap.size + 3) := z1
  clear r0 r1 r2 z1
  go_wp2_with fail
  refine (HT.out _ A1.out).mono ?_
  rintro e w2 ⟨rfl, hg, b2⟩
  have z1 := Z1.out
  have r0 : w2.heap[w.heap.size]? = some (.cells [Value.string iss, .int .i64 fr, .int .i64 till, .slice a nl cap, .int .i64 sk, .int .i64 se, .int .i64 ss].toArray 26 (0, 0)) := by rw [b2.block _ (by omega)]; exact R0.out
  have r1 : w2.heap[w.heap.size + 1]? = some (.cells [Value.string ⟨#[]⟩, .int .i64 0, .int .i64 0, .slice none 0 0, .int .i64 0, .int .i64 0, .int .i64 0].toArray 31 (0, 0)) := by rw [b2.block _ (by omega)]; exact R1.out
  have r2 : w2.heap[w.heap.size + 1 + 1]? = some (.cells [Value.string iss, .int .i64 fr, .int .i64 till, .slice none 0 0, .int .i64 0, .int .i64 0, .int .i64 0].toArray 31 (0, 0)) := by rw [b2.block _ (by omega)]; exact R2.out
  have B2 : Hid (Below w.heap.size w w2) := B1.out.trans (b2.mono B1.out.size)
  clear R0 R1 R2 c6 b2 A1 B1 HT
  obtain ⟨w3, hw3⟩ : ∃ w3, w3 = w2.setCell ⟨w.heap.size + 1 + 1, 3, none⟩ (.slice (some ⟨w1.heap.size, 0, none⟩) nl nl) := ⟨_, rfl⟩
  have t0 : w3.heap[w.heap.size]? = some (.cells [Value.string iss, .int .i64 fr, .int .i64 till, .slice a nl cap, .int .i64 sk, .int .i64 se, .int .i64 ss].toArray 26 (0, 0)) := by rw [hw3, heap_setCell_other _ _ _ _ (by simp; omega)]; exact r0
  have t1 : w3.heap[w.heap.size + 1]? = some (.cells [Value.string ⟨#[]⟩, .int .i64 0, .int .i64 0, .slice none 0 0, .int .i64 0, .int .i64 0, .int .i64 0].toArray 31 (0, 0)) := by rw [hw3, heap_setCell_other _ _ _ _ (by simp)]; exact r1
  have t2 : w3.heap[w.heap.size + 1 + 1]? = some (.cells [Value.string iss, .int .i64 fr, .int .i64 till, .slice (some ⟨w1.heap.size, 0, none⟩) nl nl, .int .i64 0, .int .i64 0, .int .i64 0].toArray 31 (0, 0)) := by rw [hw3]; exact rowSet (i := 3) _ r2
  have hg3 : w3.heap[w1.heap.size]? = some (.cells (lCells serials).toArray 2 (0, 0)) := by rw [hw3, heap_setCell_other _ _ _ _ (by simp; omega)]; exact hg
  have B3 : Hid (Below w.heap.size w w3) := by rw [hw3]; exact B2.out.setCell (by simp; omega) _
  have d6 := rowFacts r2 3 _ rfl
  have f6 := rowFree r2 3
  have T0 : Hid _ := t0
  have T1 : Hid _ := t1
  have T2 : Hid _ := t2
  have HG3 : Hid _ := hg3
  clear r0 r1 r2 t0 t1 t2 hg hg3 B2 z1
  go_upto_region 6 with fail
  rw [← hw3]
  clear hw3 d6 f6
  have c8 := rowFacts T0.out 4 _ rfl
  have c9 := rowFacts T0.out 5 _ rfl
  have c10 := rowFacts T0.out 6 _ rfl
  go_wp2_with fail
  refine (toSig sk se ss _).mono ?_
  rintro e w4 ⟨rfl, b4⟩
  have u1 : w4.heap[w.heap.size + 1]? = some (.cells [Value.string ⟨#[]⟩, .int .i64 0, .int .i64 0, .slice none 0 0, .int .i64 0, .int .i64 0, .int .i64 0].toArray 31 (0, 0)) := by rw [b4.block _ (heap_lt T1.out)]; exact T1.out
  have u2 : w4.heap[w.heap.size + 1 + 1]? = some (.cells [Value.string iss, .int .i64 fr, .int .i64 till, .slice (some ⟨w1.heap.size, 0, none⟩) nl nl, .int .i64 0, .int .i64 0, .int .i64 0].toArray 31 (0, 0)) := by rw [b4.block _ (heap_lt T2.out)]; exact T2.out
  have HG4 : Hid (w4.heap[w1.heap.size]? = some (.cells (lCells serials).toArray 2 (0, 0))) := by show _ = _; rw [b4.block _ (heap_lt HG3.out)]; exact HG3.out
  have B4 : Hid (Below w.heap.size w w4) := B3.out.trans (b4.mono B3.out.size)
  have U1 : Hid _ := u1
  have U2 : Hid _ := u2
  clear c8 c9 c10 T0 T1 T2 HG3 b4 B3
  obtain ⟨w5, hw5⟩ : ∃ w5, w5 = (((w4.setCell ⟨w.heap.size + 1 + 1, 4, none⟩ (.int .i64 sk)).setCell ⟨w.heap.size + 1 + 1, 5, none⟩ (.int .i64 se)).setCell ⟨w.heap.size + 1 + 1, 6, none⟩ (.int .i64 ss)) := ⟨_, rfl⟩
  obtain ⟨C, hC⟩ : ∃ C, C = [Value.string iss, .int .i64 fr, .int .i64 till, .slice (some ⟨w1.heap.size, 0, none⟩) nl nl, .int .i64 sk, .int .i64 se, .int .i64 ss] := ⟨_, rfl⟩
  have v2 : w5.heap[w.heap.size + 1 + 1]? = some (.cells C.toArray 31 (0, 0)) := by rw [hw5, hC]; exact (rowSet (i := 6) (.int .i64 ss) (rowSet (i := 5) (.int .i64 se) (rowSet (i := 4) (.int .i64 sk) U2.out)))
  have v1 : w5.heap[w.heap.size + 1]? = some (.cells [Value.string ⟨#[]⟩, .int .i64 0, .int .i64 0, .slice none 0 0, .int .i64 0, .int .i64 0, .int .i64 0].toArray 31 (0, 0)) := by rw [hw5, heap_setCell_other _ _ _ _ (by simp), heap_setCell_other _ _ _ _ (by simp), heap_setCell_other _ _ _ _ (by simp)]; exact U1.out
  have vg : w5.heap[w1.heap.size]? = some (.cells (lCells serials).toArray 2 (0, 0)) := by
    have := Z1.out
    rw [hw5, heap_setCell_other _ _ _ _ (by simp; omega), heap_setCell_other _ _ _ _ (by simp; omega), heap_setCell_other _ _ _ _ (by simp; omega)]; exact HG4.out
  have B5 : Hid (Below w.heap.size w w5) := by rw [hw5]; exact ((B4.out.setCell (by simp; omega) _).setCell (by simp; omega) _).setCell (by simp; omega) _
  have hone : ∀ v ∈ C, v.oneCell' = true := by rw [hC]; simp [Value.oneCell']
  have hi : (Tryd.prog.info? 31).map (·.size) = some C.length := by rw [hC]; exact sizeCrl
  have hlen : [Value.string ⟨#[]⟩, .int .i64 0, .int .i64 0, .slice none 0 0, .int .i64 0, .int .i64 0, .int .i64 0].length = C.length := by rw [hC]; rfl
  have HC : Hid (C = [Value.string iss, .int .i64 fr, .int .i64 till, .slice (some ⟨w1.heap.size, 0, none⟩) nl nl, .int .i64 sk, .int .i64 se, .int .i64 ss]) := hC
  have VG : Hid _ := vg
  have p8 := rowFacts u2 4 _ rfl
  have p9 := rowFacts u2 5 _ rfl
  have p10 := rowFacts u2 6 _ rfl
  have q8 := rowFree u2 4
  have q9 := rowFree u2 5
  have q10 := rowFree u2 6
  have V1 : Hid _ := v1
  have V2 : Hid _ := v2
  have HOne : Hid (∀ v ∈ C, v.oneCell' = true) := hone
  have HI : Hid ((Tryd.prog.info? 31).map (·.size) = some C.length) := hi
  have HLen : Hid ([Value.string ⟨#[]⟩, .int .i64 0, .int .i64 0, .slice none 0 0, .int .i64 0, .int .i64 0, .int .i64 0].length = C.length) := hlen
  clear u1 u2 v1 v2 vg hone hi hlen hC HG4 B4 U1 U2
  go_upto_region 7 with fail
  rw [← hw5]
  clear hw5 p8 p9 p10 q8 q9 q10
  have hr := rangeRow V2.out
  have hR := V1.out
  have h1 := HOne.out
  have hi := HI.out
  go_wp2_with (first | (refine wpList_load_mid rfl 31 _ rfl (w.heap.size + 1 + 1) 0 rfl C _ hr Tryd.underlying31 rfl hi ?_) | (refine wpList_store_row rfl 31 _ _ rfl (w.heap.size + 1) _ C 31 rfl rfl hR HLen.out hi h1 ?_))
  intro w6 hrow ho hs6 hbb
  have HROW : Hid _ := hrow
  have HB6 : Hid (Below w.heap.size w w6) := hbb _ _ (by omega) B5.out
  have HG6 : Hid (w6.heap[w1.heap.size]? = some (.cells (lCells serials).toArray 2 (0, 0))) := by show _ = _; rw [ho _ (by have := Z1.out; omega)]; exact VG.out
  clear ho hs6 hbb hrow hr hR h1
  go_wp2
  refine bodyPost_ret (v := .agg C.toArray) ?_ rfl ⟨w1.heap.size, by rw [HC.out], by have := Z1.out; omega, HG6.out, HB6.out⟩
  have hl3 := run_loadVar_mid (P := Tryd.prog) _ (w.heap.size + 1) 0 31 _ _ (rangeRow HROW.out) Tryd.underlying31 rfl hi
  simp [results, Tryd.results6, asAddr, hl3]
end Go.Proofs.YtfhihhkdbdidnaaDoor
namespace Go.Proofs.YtfhihhkdbdidnaaDoor
open Go.RowKit

set_option maxHeartbeats 1000000 in
set_option maxRecDepth 100000 in
theorem eqInts (a b : Option Addr) (zs : List Int) (c d : Nat) (w : World) (hl : zs.length ≤ 2000000) (ha : IsInts w a zs) (hb : IsInts w b zs) :
    Calls Tryd.prog 20 #[.slice a zs.length c, .slice b zs.length d] w fun e w' => e = .returned (.bool true) ∧ Below w.heap.size w w' := by
  go_enter Tryd.func20, Tryd.ntmps20
  go_wp2
  go_loopw [5] (fun i wr => ∃ k : Nat, k ≤ zs.length ∧ i = .int .i64 k ∧ Below w.heap.size w wr) (fun i _ => zs.length - (intOf i).toNat)
  case atStart => exact ⟨0, Nat.zero_le _, rfl, Below.refl _ _⟩
  case round =>
    obtain ⟨k, hk, rfl, hbr⟩ := hrel
    by_cases hlt : k < zs.length
    · obtain ⟨x, o, rfl, hc⟩ : ∃ x o, a = some ⟨x, o, none⟩ ∧ ∀ i, i < zs.length → wr.cell? ⟨x, o + i, none⟩ = some (.int .i64 (zs.getD i 0)) := by
        rcases ha.below hbr ha.lt with rfl | h
        · simp at hlt
        · exact h
      obtain ⟨y, p, rfl, hd⟩ : ∃ x o, b = some ⟨x, o, none⟩ ∧ ∀ i, i < zs.length → wr.cell? ⟨x, o + i, none⟩ = some (.int .i64 (zs.getD i 0)) := by
        rcases hb.below hbr hb.lt with rfl | h
        · simp at hlt
        · exact h
      have hck := hc k hlt
      have hdk := hd k hlt
      have HB : Hid (Below w.heap.size w wr) := hbr
      generalize zs.getD k 0 = z at hck hdk
      generalize hn : zs.length = n at *
      clear hc hd ha hb hbr hn
      go_wp2
      go_quiet (fail)
      go_wp2
      go_roundw
      case rel => exact ⟨k + 1, by omega, by go_num, below_drewN HB.out _⟩
      case measure => simp [intOf]; omega
    · go_wp2
      go_ret
      exact ⟨rfl, hbr⟩
end Go.Proofs.YtfhihhkdbdidnaaDoor
namespace Go.Proofs.YtfhihhkdbdidnaaDoor
open Go.RowKit

set_option maxHeartbeats 1000000 in
set_option maxRecDepth 100000 in
theorem eqSig (k e s : Int) (w : World) :
    Calls Tryd.prog 21 #[.agg #[.int .i64 k, .int .i64 e, .int .i64 s], .agg #[.int .i64 k, .int .i64 e, .int .i64 s]] w fun r w' => r = .returned (.bool true) ∧ Below w.heap.size w w' := by
  go_enter Tryd.func21, Tryd.ntmps21
  go_wp2
  go_ret
  exact ⟨rfl, (allocBelow w _).alloc (by simp) _⟩
end Go.Proofs.YtfhihhkdbdidnaaDoor
namespace Go.Proofs.YtfhihhkdbdidnaaDoor
open Go.RowKit

set_option maxHeartbeats 4000000 in
set_option maxRecDepth 100000 in
theorem eqCrl (c : Lst) (a b : Option Addr) (ca1 cb : Nat) (w : World) (hl : c.serials.length ≤ 1048576) (ha : IsInts w a c.serials) (hb : IsInts w b c.serials) :
    Calls Tryd.prog 8 #[c.val (.slice a c.serials.length ca1), c.val (.slice b c.serials.length cb)] w fun e w' => e = .returned (.bool true) ∧ Below w.heap.size w w' := by
  obtain ⟨iss, fr, till, serials, sk, se, ss⟩ := c
  simp only at hl ha hb
  unfold Lst.val
  simp only
  have HE : Hid (∀ V, IsInts V a serials → IsInts V b serials → Calls Tryd.prog 20 #[.slice a serials.length ca1, .slice b serials.length cb] V fun e w' => e = .returned (.bool true) ∧ Below V.heap.size V w') := fun V h1 h2 => eqInts a b serials ca1 cb V (by omega) h1 h2
  generalize serials.length = nl at *
  obtain ⟨w0, hw0⟩ : ∃ w0, w0 = w.alloc (.cells #[.string iss, .int .i64 fr, .int .i64 till, .slice a nl ca1, .int .i64 sk, .int .i64 se, .int .i64 ss] 31 (0, 0)) := ⟨_, rfl⟩
  obtain ⟨w1, hw1⟩ : ∃ w1, w1 = w0.alloc (.cells #[.string iss, .int .i64 fr, .int .i64 till, .slice b nl cb, .int .i64 sk, .int .i64 se, .int .i64 ss] 31 (0, 0)) := ⟨_, rfl⟩
  have z0 : w0.heap.size = w.heap.size + 1 := by rw [hw0]; simp
  have r1 : w1.heap[w.heap.size + 1]? = some (.cells [Value.string iss, .int .i64 fr, .int .i64 till, .slice b nl cb, .int .i64 sk, .int .i64 se, .int .i64 ss].toArray 31 (0, 0)) := by rw [hw1, ← z0]; exact heap_alloc_new w0 _
  have r0 : w1.heap[w.heap.size]? = some (.cells [Value.string iss, .int .i64 fr, .int .i64 till, .slice a nl ca1, .int .i64 sk, .int .i64 se, .int .i64 ss].toArray 31 (0, 0)) := by rw [hw1, Below.heap_alloc _ _ _ (by omega), hw0]; exact heap_alloc_new w _
  have B1 : Hid (Below w.heap.size w w1) := by rw [hw1, hw0]; exact ((Below.refl _ _).alloc (Nat.le_refl _) _).alloc (by simp) _
  have A1 : Hid (IsInts w1 a serials) := ha.keep B1.out
  have A2 : Hid (IsInts w1 b serials) := hb.keep B1.out
  have c0 := rowFacts r0 0 _ rfl
  have d0 := rowFacts r1 0 _ rfl
  have c1 := rowFacts r0 1 _ rfl
  have d1 := rowFacts r1 1 _ rfl
  have c2 := rowFacts r0 2 _ rfl
  have d2 := rowFacts r1 2 _ rfl
  have c3 := rowFacts r0 3 _ rfl
  have d3 := rowFacts r1 3 _ rfl
  have c4 := rowFacts r0 4 _ rfl
  have d4 := rowFacts r1 4 _ rfl
  have c5 := rowFacts r0 5 _ rfl
  have d5 := rowFacts r1 5 _ rfl
  have c6 := rowFacts r0 6 _ rfl
  have d6 := rowFacts r1 6 _ rfl
  have R0 : Hid (w.heap.size < w1.heap.size) := heap_lt r0
  have R1 : Hid (w.heap.size + 1 < w1.heap.size) := heap_lt r1
  rw [hw0] at hw1
  clear r0 r1 ha hb hw0 z0
  go_enter Tryd.func8, Tryd.ntmps8
  go_upto_region 1 with fail
  rw [← hw1]
  clear hw1
  go_wp2_with fail
  refine (HE.out _ A1.out A2.out).mono ?_
  rintro e w2 ⟨rfl, b2⟩
  have B2 : Hid (Below w.heap.size w w2) := B1.out.trans (b2.mono B1.out.size)
  have e4 := (b2.cell (p := ⟨w.heap.size, 4, none⟩) R0.out).trans c4
  have f4 := (b2.cell (p := ⟨w.heap.size + 1, 4, none⟩) R1.out).trans d4
  have e5 := (b2.cell (p := ⟨w.heap.size, 5, none⟩) R0.out).trans c5
  have f5 := (b2.cell (p := ⟨w.heap.size + 1, 5, none⟩) R1.out).trans d5
  have e6 := (b2.cell (p := ⟨w.heap.size, 6, none⟩) R0.out).trans c6
  have f6 := (b2.cell (p := ⟨w.heap.size + 1, 6, none⟩) R1.out).trans d6
  clear b2 B1 A1 A2 HE R0 R1 c0 d0 c1 d1 c2 d2 c3 d3 c4 d4 c5 d5 c6 d6
  go_wp2_with fail
  refine (eqSig sk se ss _).mono ?_
  rintro e w3 ⟨rfl, b3⟩
  have B3 : Hid (Below w.heap.size w w3) := B2.out.trans (b3.mono B2.out.size)
  clear b3 B2
  go_wp2
  go_ret
  exact ⟨rfl, B3.out⟩
end Go.Proofs.YtfhihhkdbdidnaaDoor
namespace Go.Proofs.YtfhihhkdbdidnaaDoor
open Go.RowKit Go.WideShapes Go.ChangeShapes Go.Deep

theorem cellsInt : Tryd.prog.cellsOf 2 = 1 := by kernel_rfl
theorem cellsStr : Tryd.prog.cellsOf 9 = 1 := by kernel_rfl
theorem cellsStrs : Tryd.prog.cellsOf 64 = 1 := by kernel_rfl
theorem cellsBool : Tryd.prog.cellsOf 4 = 1 := by kernel_rfl
theorem cellsSig : Tryd.prog.cellsOf 24 = 3 := by kernel_rfl
theorem open_names {H : Type} {enc : TypeId × Value → H} {W : World} {base : Nat} {spare : Nat → Bool} {held : Bool} {n : Nat} {v : Value} {x : DataW H × List MemPlace} (h : DataW.trod enc Tryd.prog W base spare held n 64 [v] = some x) :
    ∃ (a : Option Addr) (ss : List ByteArray) (cap : Nat), v = .slice a ss.length cap ∧ IsStrs W a ss ∧ ss.length ≤ maxLen ∧ ∀ s ∈ ss, s.size ≤ maxLen := by
  rcases open_strings Tryd.underlying64 Tryd.underlying9 cellsStr h with ⟨hcs, _⟩ | ⟨x, len, cap, ss, hcs, _, hl, hm, hz, _, hcell, hws⟩
  · exact ⟨none, [], 0, (List.cons.inj hcs).1, .inl rfl, Nat.zero_le _, fun s hs => by cases hs⟩
  · have hle : len ≤ ss.length := by rw [hz]; split <;> omega
    have hlen : (ss.take len).length = len := by rw [List.length_take]; omega
    refine ⟨some x, ss.take len, cap, by rw [hlen]; exact (List.cons.inj hcs).1, ?_, by rw [hlen]; omega, fun s hs => hws s (List.mem_of_mem_take hs)⟩
    by_cases h0 : len = 0
    · exact .inl (by simp [h0])
    obtain ⟨b, off, spot⟩ := x
    have hc0 := hcell 0 (by omega)
    have hspot : spot = none := by simpa [Addr.add] using World.cell?_spot hc0
    subst hspot
    refine .inr ⟨b, off, rfl, fun i hi => ?_⟩
    rw [hlen] at hi
    have h1 := hcell i (by omega)
    rw [Addr.add_lit] at h1
    rw [h1, tAt, List.getD, List.getD, List.getElem?_take, if_pos hi]
/-- What is known of texts that came in. -/
structure CameT (W : World) (a : Option Addr) (ss : List ByteArray) : Prop where
  strs : IsStrs W a ss
  len : ss.length ≤ maxLen
  each : ∀ s ∈ ss, s.size ≤ maxLen
set_option maxRecDepth 100000 in
theorem openTexts {H : Type} {enc : TypeId × Value → H} {W : World} {base b0 : Nat} {r : Reach} {spare : Nat → Bool} {held : Bool} {v : Value} {d : DataW H} {p : List MemPlace}
    (hv : Value.okWide Tryd.prog W r b0 64 v) (h : DataW.Trod enc Tryd.prog W base spare held 64 v d p) :
    ∃ (a : Option Addr) (ss : List ByteArray) (cap : Nat), v = .slice a ss.length cap ∧ CameT W a ss := by
  obtain ⟨a, len, cap, rfl⟩ := okWide_slice Tryd.underlying64 hv
  obtain ⟨fuel, hf⟩ := h
  obtain ⟨a', ss, cap', e, h1, h2, h3⟩ := open_names (v := .slice a len cap) hf
  exact ⟨a', ss, cap', e, ⟨h1, h2, h3⟩⟩
end Go.Proofs.YtfhihhkdbdidnaaDoor
namespace Go.Proofs.YtfhihhkdbdidnaaDoor
open Go.RowKit

/-- It is nil; or it leads to a row of 'cap' cells, the numbers 'zs', the first 'len' being its elements, each fitting its kind. -/
def IsRow (k : IntKind) (w : World) (a : Option Addr) (len cap : Nat) (zs : List Int) : Prop :=
  (a = none ∧ len = 0 ∧ cap = 0 ∧ zs = []) ∨
  ∃ x, a = some x ∧ len ≤ cap ∧ cap ≤ maxLen ∧ zs.length = cap ∧ (∀ i, i < zs.length → w.cell? (x.add i) = some (.int k (zs.getD i 0))) ∧ ∀ n ∈ zs, (Lit.int k n).wf = true
theorem IsRow.len_le {k : IntKind} {w : World} {a : Option Addr} {len cap : Nat} {zs : List Int} (h : IsRow k w a len cap zs) : len ≤ maxLen := by
  rcases h with ⟨_, rfl, _, _⟩ | ⟨_, _, hl, hm, _⟩
  · exact Nat.zero_le _
  · omega
theorem IsRow.ints {w : World} {a : Option Addr} {len cap : Nat} {zs : List Int} (h : IsRow .i64 w a len cap zs) : ∃ ys : List Int, ys.length = len ∧ IsInts w a ys ∧ ∀ n ∈ ys, (Lit.int .i64 n).wf = true := by
  rcases h with ⟨rfl, rfl, _, _⟩ | ⟨x, rfl, hl, _, hz, hc, hw⟩
  · exact ⟨[], rfl, .inl rfl, fun n hn => by cases hn⟩
  refine ⟨zs.take len, by simp; omega, ?_, fun n hn => hw n (List.mem_of_mem_take hn)⟩
  by_cases h0 : len = 0
  · exact .inl (by simp [h0])
  obtain ⟨b, off, spot⟩ := x
  have hc0 := hc 0 (by omega)
  have hspot : spot = none := by simpa [Addr.add] using World.cell?_spot hc0
  subst hspot
  refine .inr ⟨b, off, rfl, fun i hi => ?_⟩
  simp at hi
  have h1 := hc i (by omega)
  rw [Addr.add_lit] at h1
  rw [h1]
  rw [List.getD, List.getD, List.getElem?_take, if_pos (by omega)]
end Go.Proofs.YtfhihhkdbdidnaaDoor
