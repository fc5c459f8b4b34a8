/- A row of texts of the call's own. '.l06Names', walked: some names, as a new row. What is asked for, signed. Plain mathematics: no program is named here. How large impl.Csr is. An asking paper in a variable, as the draws make it. spec.GroupRight, walked. The specification's papers in bytes: spec.l06Seq, l06Kind, l06Name, l06Hosts, walked. spec.l06Time, spec.l06Names, walked. spec.l04In, spec.SigRight, walked. spec.l04Check, spec.SigCheck, walked. -/
import Derived.Test.YtkhdjmjbdpmdnaaGreatDoorCR02
import Derived.OwnWalk
import Derived.Test.YtkhdjmjbdpmdnaaGreatDoorCR06
import Derived.Test.YtkhdjmjbdpmdnaaGreatDoorCR09
import Derived.Test.YtkhdjmjbdpmdnaaGreatDoorCR05
import Derived.Test.YtkhdjmjbdpmdnaaGreatDoorCR07
import Derived.Test.YtkhdjmjbdpmdnaaGreatDoorCR03
import Derived.WalkLawsBesides
import Derived.Deep.QuietTactic
import Derived.BigQuiet
import Derived.Deep.RegionHeld3
namespace Go.Proofs.YtkhdjmjbdpmdnaaGreatDoor
open Go.RowKit

def OwnS (w : World) (B : Nat) (v : Value) (l : List ByteArray) : Prop := w.ownsRow B 9 1 v l.length (sCells l)
theorem OwnS.keep {w w' : World} {B : Nat} {v : Value} {l : List ByteArray} (h : OwnS w B v l) (hb : Below w.heap.size w w') : OwnS w' B v l := by
  refine ⟨h.1, ?_⟩
  rcases h.2 with h | ⟨g, cap, cur, e, h1, h2, h3⟩
  · exact .inl h
  · exact .inr ⟨g, cap, cur, e, h1, by rw [hb.block g (heap_lt h2)]; exact h2, h3⟩
theorem OwnS.mono {w : World} {B B' : Nat} {v : Value} {l : List ByteArray} (h : OwnS w B v l) (hB : B' ≤ B) : OwnS w B' v l := by
  refine ⟨h.1, ?_⟩
  rcases h.2 with h | ⟨g, cap, cur, e, h1, h3⟩
  · exact .inl h
  · exact .inr ⟨g, cap, cur, e, Nat.le_trans hB h1, h3⟩
theorem OwnS.form {w : World} {B : Nat} {v : Value} {l : List ByteArray} (h : OwnS w B v l) : ∃ a c, v = .slice a l.length c ∧ l.length ≤ c := by
  rcases h.2 with ⟨h, h'⟩ | ⟨g, cap, _, e, _, _, hc, _⟩
  · exact ⟨none, 0, by rw [h']; exact h, by omega⟩
  · exact ⟨_, _, e, hc⟩
theorem ownS_nil (w : World) (B : Nat) : OwnS w B (.slice none 0 0) [] := ⟨rfl, .inl ⟨rfl, rfl⟩⟩
theorem OwnS.strs {w : World} {B : Nat} {a : Option Addr} {n c : Nat} {l : List ByteArray} (h : OwnS w B (.slice a n c) l) : IsStrs w a l := by
  rcases h.2 with ⟨_, h'⟩ | ⟨g, cap, cur, e, _, hg, _, _, _, ht⟩
  · exact .inl (List.eq_nil_of_length_eq_zero h')
  · simp only [Value.slice.injEq] at e
    obtain ⟨rfl, _, _⟩ := e
    refine .inr ⟨g, 0, rfl, fun i hi => ?_⟩
    have k0 := sCells_at hi
    rw [← ht, List.getElem?_take, if_pos (by omega)] at k0
    rw [Nat.zero_add, cell_of_row w g _ _ _ (0, 0) hg]
    simpa using k0
theorem OwnS.ge {w : World} {B g : Nat} {v : Value} {l : List ByteArray} (h : OwnS w B v l) (e : v.ownBlock = some g) : B ≤ g ∧ g < w.heap.size :=
  (show World.ownsRow w B 9 1 v l.length (sCells l) from h).lt g e
/-- It stands where its blocks are as they were. -/
theorem OwnS.same {w w' : World} {B : Nat} {v : Value} {l : List ByteArray} (h : OwnS w B v l) (hs : ∀ k, B ≤ k → k < w.heap.size → w'.heap[k]? = w.heap[k]?) : OwnS w' B v l := by
  refine ⟨h.1, ?_⟩
  rcases h.2 with h | ⟨g, cap, cur, e, h1, h2, h3⟩
  · exact .inl h
  · exact .inr ⟨g, cap, cur, e, h1, by rw [hs g h1 (heap_lt h2)]; exact h2, h3⟩
theorem take_snoc (l : List ByteArray) {k : Nat} (h : k < l.length) : l.take (k + 1) = l.take k ++ [tAt l k] := by
  rw [List.take_succ_eq_append_getElem h, tAt, List.getD, List.getElem?_eq_getElem h]; rfl
/-- It stands where all blocks but one that is not its own are as they were. -/
theorem OwnS.off {w w' : World} {B q : Nat} {v : Value} {l : List ByteArray} (h : OwnS w B v l) (hq : v.ownBlock ≠ some q) (hs : ∀ k, k ≠ q → w'.heap[k]? = w.heap[k]?) : OwnS w' B v l := by
  refine ⟨h.1, ?_⟩
  rcases h.2 with h | ⟨g, cap, cur, e, h1, h2, h3⟩
  · exact .inl h
  · exact .inr ⟨g, cap, cur, e, h1, by rw [hs g (fun e' => hq (by rw [e, ← e']; rfl))]; exact h2, h3⟩
theorem oneCell_texts (l : List ByteArray) : ∀ u ∈ sCells l, u.oneCell' = true := by
  intro u hu
  simp only [sCells, List.mem_map] at hu
  obtain ⟨s, _, rfl⟩ := hu
  rfl
end Go.Proofs.YtkhdjmjbdpmdnaaGreatDoor
namespace Go.Proofs.YtkhdjmjbdpmdnaaGreatDoor
open Go.RowKit

theorem OwnS.grow {n B : Nat} {W W' : World} {v : Value} {l : List ByteArray} (h : OwnS W B v l) (hg : Grows n W W') (hn : n < B) : OwnS W' B v l :=
  h.same fun k hk hl => hg.keepBlock hl (by omega)
theorem OwnS.rowOff {q B : Nat} {W W' : World} {v : Value} {l : List ByteArray} (h : OwnS W B v l) (hg : W.grownBy W' (some q)) (hq : v.ownBlock ≠ some q) : OwnS W' B v l := by
  refine ⟨h.1, ?_⟩
  rcases h.2 with h | ⟨g, cap, cur, e, h1, h2, h3⟩
  · exact .inl h
  · exact .inr ⟨g, cap, cur, e, h1, by rw [hg.block g (heap_lt h2) (by intro e'; exact hq (by rw [e, ← e']; rfl))]; exact h2, h3⟩
theorem own_addr {w : World} {B : Nat} {v : Value} {l : List ByteArray} (h : OwnS w B v l) (hn : v ≠ .slice none 0 0) : ∃ g c, v = .slice (some ⟨g, 0, none⟩) l.length c ∧ B ≤ g ∧ g < w.heap.size ∧ ∀ i, i < l.length → w.cell? ⟨g, 0 + i, none⟩ = some (.string (tAt l i)) := by
  rcases h.2 with ⟨h', _⟩ | ⟨g, cap, cur, e, h1, h2, h3, h4, h5, ht⟩
  · exact absurd h' hn
  · refine ⟨g, cap, e, h1, heap_lt h2, fun i hi => ?_⟩
    have k0 := sCells_at hi
    rw [← ht, List.getElem?_take, if_pos (by omega)] at k0
    rw [Nat.zero_add, cell_of_row w g _ _ _ (0, 0) h2]
    simpa using k0
set_option maxRecDepth 100000 in
set_option maxHeartbeats 4000000 in
theorem sk_names {w W : World} {a : Option Addr} {len cap : Nat} (h : SS w a len cap W) :
    Calls Tryz.prog 76 #[.pointer (some ⟨w.heap.size, 0, none⟩)] W fun e w' => ∃ (g c : Nat) (ss : List ByteArray), e = .returned (.slice (some ⟨g, 0, none⟩) ss.length c) ∧ OwnS w' W.heap.size (.slice (some ⟨g, 0, none⟩) ss.length c) ss ∧ ss.length ≤ 4 ∧ (∀ t ∈ ss, t.size ≤ 6) ∧ SS w a len cap w' ∧ Grows w.heap.size W w' := by
  obtain ⟨i0, hi0, hz0, hz1, hz2⟩ := info_parts infoText
  have hlt := h.2.2.1
  have H1 : Hid (SS w a len cap W) := h
  clear h
  have hown0 : OwnS (W.alloc (.cells #[] 9 (0, 0))) W.heap.size (.slice (some ⟨W.heap.size, 0, none⟩) 0 0) [] := by
    have := World.ownsRow_lit (base := W.heap.size) (e := 9) (size := 1) W #[] 0 (Nat.le_refl _) (by decide) rfl
    simpa [OwnS, sCells] using this
  have HO0 : Hid _ := hown0
  clear hown0
  go_enter Tryz.func76, Tryz.ntmps76
  go_wp2_with fail
  go_loopw [3, 4] (fun v i wr => ∃ (k g c : Nat) (ss : List ByteArray), k ≤ 4 ∧ i = .int .i64 (k : Int) ∧ v = .slice (some ⟨g, 0, none⟩) ss.length c ∧ OwnS wr W.heap.size (.slice (some ⟨g, 0, none⟩) ss.length c) ss ∧ ss.length ≤ k ∧ (∀ t ∈ ss, t.size ≤ 6) ∧ SS w a len cap wr ∧ Grows w.heap.size W wr)
    (fun _ i _ => 4 - (intOf i).toNat)
  case atStart => exact ⟨0, W.heap.size, 0, [], by omega, rfl, rfl, HO0.out, by simp, by simp, H1.out.alloc _, (Grows.refl _ W).alloc _⟩
  case round =>
    clear HO0 H1
    obtain ⟨k, g, c, ss, hk, rfl, rfl, ho, hl, hs, hss, hgr⟩ := hrel
    have O1 : Hid (OwnS wr W.heap.size (.slice (some ⟨g, 0, none⟩) ss.length c) ss) := ho
    have S1 : Hid (SS w a len cap wr) := hss
    have G1 : Hid (Grows w.heap.size W wr) := hgr
    have T1 : Hid (∀ t ∈ ss, t.size ≤ 6) := hs
    clear ho hss hgr hs
    by_cases hlt4 : k < 4
    · go_wp2_with fail
      refine (sk_one 2 (by omega) S1.out).mono ?_
      rintro e w2 ⟨⟨bb, rfl⟩, h2, hg2⟩
      have S2 : Hid (SS w a len cap w2) := h2
      have G2 : Hid (Grows w.heap.size W w2) := G1.out.trans hg2
      have O2 : Hid (OwnS w2 W.heap.size (.slice (some ⟨g, 0, none⟩) ss.length c) ss) := O1.out.grow hg2 hlt
      clear h2 hg2 S1 G1 O1
      cases bb with
      | false =>
        go_wp2_with fail
        go_roundw
        case rel => exact ⟨k + 1, g, c, ss, by omega, by go_num, rfl, O2.out, by omega, T1.out, S2.out, G2.out⟩
        case measure => simp [intOf]; omega
      | true =>
        obtain ⟨t, ht, hcell⟩ : ∃ t : ByteArray, t.size ≤ 6 ∧ ∀ V : World, (V.alloc (.cells #[.string ⟨#[97, 108, 112, 104, 97]⟩, .string ⟨#[98, 101, 116, 97]⟩, .string ⟨#[104, 111, 115, 116, 45, 49]⟩, .string ⟨#[119, 119, 119]⟩] 9 (0, 0))).cell? ⟨V.heap.size, k, none⟩ = some (.string t) := by
          have hq : k = 0 ∨ k = 1 ∨ k = 2 ∨ k = 3 := by omega
          rcases hq with rfl | rfl | rfl | rfl
          · exact ⟨⟨#[97, 108, 112, 104, 97]⟩, by decide, fun V => by rw [cell_of_row _ V.heap.size 0 _ _ (0, 0) (heap_alloc_new V _)]; rfl⟩
          · exact ⟨⟨#[98, 101, 116, 97]⟩, by decide, fun V => by rw [cell_of_row _ V.heap.size 1 _ _ (0, 0) (heap_alloc_new V _)]; rfl⟩
          · exact ⟨⟨#[104, 111, 115, 116, 45, 49]⟩, by decide, fun V => by rw [cell_of_row _ V.heap.size 2 _ _ (0, 0) (heap_alloc_new V _)]; rfl⟩
          · exact ⟨⟨#[119, 119, 119]⟩, by decide, fun V => by rw [cell_of_row _ V.heap.size 3 _ _ (0, 0) (heap_alloc_new V _)]; rfl⟩
        have hck := hcell w2
        have k4 : (k : Int) < 4 := by omega
        have k0 : (0 : Int) ≤ (k : Int) := by omega
        obtain ⟨w4, hw4⟩ : ∃ y, y = (w2.alloc (.cells #[.string ⟨#[97, 108, 112, 104, 97]⟩, .string ⟨#[98, 101, 116, 97]⟩, .string ⟨#[104, 111, 115, 116, 45, 49]⟩, .string ⟨#[119, 119, 119]⟩] 9 (0, 0))).alloc (.cells #[.string t] 9 (0, 0)) := ⟨_, rfl⟩
        have hz4 : w4.heap.size = w2.heap.size + 2 := by rw [hw4]; simp
        have b4 : Below w2.heap.size w2 w4 := by rw [hw4]; exact ((Below.refl _ _).alloc (Nat.le_refl _) _).alloc (by simp) _
        have S4 : Hid (SS w a len cap w4) := S2.out.keep b4
        have G4 : Hid (Grows w.heap.size W w4) := G2.out.trans (below_grows b4)
        have hW2 : W.heap.size ≤ w2.heap.size := G2.out.size
        have hown : w4.ownsRow W.heap.size 9 1 (.slice (some ⟨g, 0, none⟩) ss.length c) ss.length (sCells ss) := O2.out.keep b4
        have hrow4 : w4.heap[w2.heap.size + 1]? = some (.cells #[.string t] 9 (0, 0)) := by rw [hw4]; simpa using heap_alloc_new (w2.alloc (.cells #[.string ⟨#[97, 108, 112, 104, 97]⟩, .string ⟨#[98, 101, 116, 97]⟩, .string ⟨#[104, 111, 115, 116, 45, 49]⟩, .string ⟨#[119, 119, 119]⟩] 9 (0, 0))) (.cells #[.string t] 9 (0, 0))
        have hnews : ∀ j u, [Value.string t][j]? = some u → w4.cell? ((⟨w2.heap.size + 1, 0, none⟩ : Addr).add j) = some u := fun j u hu => by
          have hj : j = 0 := by
            rcases Nat.lt_or_ge j 1 with h | h
            · omega
            · rw [List.getElem?_eq_none (by simpa using h)] at hu; cases hu
          subst hj
          rw [Addr.add_lit, cell_of_row _ (w2.heap.size + 1) 0 _ _ (0, 0) hrow4]
          simpa using hu
        clear b4 S2 G2 O2 hcell hrow4
        go_wp2_with (at_builtin; rw [← hw4]; refine wpList_append_own _ rfl _ _ 23 rfl W.heap.size 9 i0 (.string ⟨#[]⟩) 1 16 Tryz.underlying23 hi0 hz0 hz1 hz2 rfl (by decide) _ _ _ rfl hown ⟨w2.heap.size + 1, 0, none⟩ 1 1 [.string t] rfl ?c0 hnews ?c2 ?c3 ?c4 ?c5 ?_)
        case c0 => simp
        case c2 => simp [Value.oneCell']
        case c3 => unfold maxLen; omega
        case c4 => omega
        case c5 => omega
        intro v' w5 hown' hgrow hnil
        rw [← hw4] at hgrow
        have hgg := hown.lt
        have S5 : Hid (SS w a len cap w5) := S4.out.grown hgrow (fun j hj => by have := (hgg j hj).1; omega)
        have G5 : Hid (Grows w.heap.size W w5) := G4.out.grown hgrow (fun j hj => (hgg j hj).1)
        have hO5 : OwnS w5 W.heap.size v' (ss ++ [t]) := by
          show World.ownsRow _ _ _ _ _ _ _
          rw [List.length_append, sCells, List.map_append]
          exact hown'
        obtain ⟨va, vc, hv, hvc⟩ := hO5.form
        obtain ⟨gv, rfl⟩ : ∃ gv, va = some ⟨gv, 0, none⟩ := by
          rcases hO5.2 with ⟨_, h'⟩ | ⟨gv, cp, cur, e, _⟩
          · simp at h'
          · rw [hv] at e
            simp only [Value.slice.injEq] at e
            exact ⟨gv, e.1⟩
        subst hv
        have O5 : Hid (OwnS w5 W.heap.size (.slice (some ⟨gv, 0, none⟩) (ss ++ [t]).length vc) (ss ++ [t])) := hO5
        have L5 : (ss ++ [t]).length ≤ k + 1 := by simp; omega
        have T5 : Hid (∀ u ∈ ss ++ [t], u.size ≤ 6) := fun u hu => by
          rcases List.mem_append.1 hu with hu | hu
          · exact T1.out u hu
          · rw [List.mem_singleton] at hu; subst hu; exact ht
        generalize ss ++ [t] = ss' at *
        clear hown hown' hgrow hnil hnews hgg hO5 hw4 S4 G4 T1 hck hz4
        go_wp2_with fail
        go_roundw
        case rel => exact ⟨k + 1, gv, vc, ss', by omega, by go_num, rfl, O5.out, L5, T5.out, S5.out, G5.out⟩
        case measure => simp [intOf]; omega
    · go_wp2_with fail
      go_ret
      exact ⟨g, c, ss, rfl, O1.out, by omega, T1.out, S1.out, G1.out⟩
end Go.Proofs.YtkhdjmjbdpmdnaaGreatDoor
namespace Go.Proofs.YtkhdjmjbdpmdnaaGreatDoor
open Go.RowKit

def zeroA : Ask := ⟨0, [], 0, 0, 0⟩
/-- When a secret may ask for names. -/
noncomputable def askOk (x : Int) (ns : List ByteArray) : Bool := secB x && namesB ns && decide (0 < ns.length)
/-- What CsrSign hands back, its Sig being k, e, s. -/
noncomputable def signA (x : Int) (ns : List ByteArray) (k e s : Int) : Ask := if askOk x ns = true then ⟨pubA x, ns, k, e, s⟩ else zeroA
theorem signA_yes {x : Int} {ns : List ByteArray} (h : askOk x ns = true) (k e s : Int) : signA x ns k e s = ⟨pubA x, ns, k, e, s⟩ := if_pos h
theorem signA_no {x : Int} {ns : List ByteArray} (h : askOk x ns = false) (k e s : Int) : signA x ns k e s = zeroA := if_neg (by rw [h]; simp)
theorem signA_len (x : Int) (ns : List ByteArray) (k e s : Int) : (signA x ns k e s).names.length ≤ ns.length := by
  unfold signA
  split
  · exact Nat.le_refl _
  · exact Nat.zero_le _
/-- What it signs. -/
def askO (x : Int) (ns : List ByteArray) : Ask := ⟨pubA x, ns, 0, 0, 0⟩
theorem pub_rightG {x : Int} (h : secB x = true) : rightG (pubA x) = true := by
  obtain ⟨n, rfl, n1, n2⟩ := secB_nat h
  rw [pubA_nat n h]
  exact pub_right n1 n2
theorem askOk_ask {x : Int} {ns : List ByteArray} (h : secB x = true) : askB (askO x ns) = (namesB ns && decide (0 < ns.length)) := by
  unfold askB askO
  simp only [pub_rightG h, Bool.true_and]
theorem signV_key {x : Int} {t : ByteArray} {k e s : Int} (hx : secB x = true) (ht : t.size ≤ 20000) (h : signV x t = .agg #[.int .i64 k, .int .i64 e, .int .i64 s]) : k = pubA x := by
  obtain ⟨n, rfl, _, _⟩ := secB_nat hx
  rw [signV_nat ht hx] at h
  rw [pubA_nat n hx]
  unfold sigV at h
  simp only [Value.agg.injEq, Array.mk.injEq, List.cons.injEq, Value.int.injEq, true_and, and_true] at h
  exact h.1.symm
theorem signV_is4 (x : Int) (t : ByteArray) : ∃ k e s : Int, signV x t = .agg #[.int .i64 k, .int .i64 e, .int .i64 s] := by
  by_cases h : t.size ≤ 20000 ∧ secB x = true
  · obtain ⟨n, rfl, _, _⟩ := secB_nat h.2
    exact ⟨_, _, _, signV_nat h.1 h.2⟩
  · exact ⟨0, 0, 0, signV_no h⟩
end Go.Proofs.YtkhdjmjbdpmdnaaGreatDoor
namespace Go.Proofs.YtkhdjmjbdpmdnaaGreatDoor
open Go.RowKit

theorem sizeCsr : (Tryz.prog.info? 44).map (·.size) = some 5 := by kernel_rfl
end Go.Proofs.YtkhdjmjbdpmdnaaGreatDoor
namespace Go.Proofs.YtkhdjmjbdpmdnaaGreatDoor
open Go.RowKit

structure AMay (c : Ask) : Prop where
  len : c.names.length ≤ 5
  each : ∀ t ∈ c.names, t.size ≤ 6
  key : inW c.key
  sk : inW c.sk
  se : inW c.se
  ss : inW c.ss
theorem AMay.tot {c : Ask} (h : AMay c) : totS c.names c.names.length ≤ 40 := by
  have h1 := totS_may c.names c.names.length h.each
  have h2 := h.len
  omega
theorem may_at {l : List ByteArray} {K : Nat} (h : ∀ t ∈ l, t.size ≤ K) (i : Nat) : (tAt l i).size ≤ K := by
  unfold tAt
  rw [List.getD_eq_getElem?_getD]
  cases hk : l[i]? with
  | none => exact Nat.zero_le _
  | some t => exact h t (List.mem_of_getElem? hk)
theorem zeroA_may : AMay zeroA := ⟨by decide, fun t ht => (by cases ht), by decide, by decide, by decide, by decide⟩
theorem signA_may {x k e s : Int} {ns : List ByteArray} (hl : ns.length ≤ 5) (h : ∀ t ∈ ns, t.size ≤ 6) (hk : inW k) (he : inW e) (hs : inW s) : AMay (signA x ns k e s) := by
  unfold signA
  split
  · exact ⟨hl, h, pubA_in x, hk, he, hs⟩
  · exact zeroA_may
def Ask.cellsA (c : Ask) (v : Value) : List Value := [.int .i64 c.key, v, .int .i64 c.sk, .int .i64 c.se, .int .i64 c.ss]
/-- In block q lies the paper c, its names behind v; the source stands; else all is as it was at w1. -/
structure AV (w : World) (a : Option Addr) (len cap : Nat) (w1 : World) (q : Nat) (V : World) (c : Ask) (v : Value) : Prop where
  row : V.heap[q]? = some (.cells (c.cellsA v).toArray 44 (0, 0))
  own : OwnS V w1.heap.size v c.names
  off : v.ownBlock ≠ some q
  may : AMay c
  ss : SS w a len cap V
  grows : Grows w.heap.size w1 V
section
variable {w w1 V V' : World} {a : Option Addr} {len cap q : Nat} {c : Ask} {v : Value}
theorem AV.keep (h : AV w a len cap w1 q V c v) (hq : w.heap.size < q) (h1 : w.heap.size < w1.heap.size) (hs : SS w a len cap V') (hg : Grows w.heap.size V V') : AV w a len cap w1 q V' c v :=
  ⟨by rw [hg.keepBlock (heap_lt h.row) (by omega)]; exact h.row, h.own.grow hg h1, h.off, h.may, hs, h.grows.trans hg⟩
/-- One cell of it set anew, not that of the names. -/
theorem AV.set (h : AV w a len cap w1 q V c v) (hq : w.heap.size < q) (h1 : w1.heap.size ≤ q) (j : Nat) (u : Value) (c' : Ask) (hr : (c.cellsA v).set j u = c'.cellsA v) (hn : c'.names = c.names) (hm : AMay c') : AV w a len cap w1 q (V.setCell ⟨q, j, none⟩ u) c' v := by
  have hg := grown_cell V q j u
  exact ⟨by rw [← hr]; exact rowSet (i := j) u h.row, by rw [hn]; exact h.own.rowOff hg h.off, h.off, hm, h.ss.row hg hq, h.grows.row hg h1⟩
/-- Its names thrown away. -/
theorem AV.clear (h : AV w a len cap w1 q V c v) (hq : w.heap.size < q) (h1 : w1.heap.size ≤ q) : AV w a len cap w1 q (V.setCell ⟨q, 1, none⟩ (.slice none 0 0)) ⟨c.key, [], c.sk, c.se, c.ss⟩ (.slice none 0 0) := by
  have hg := grown_cell V q 1 (.slice none 0 0)
  have m := h.may
  exact ⟨rowSet (i := 1) _ h.row, ownS_nil _ _, by simp [Value.ownBlock], ⟨by simp, fun t ht => (by cases ht), m.key, m.sk, m.se, m.ss⟩, h.ss.row hg hq, h.grows.row hg h1⟩
end
/-- What an append of one text makes. -/
theorem appended {w w1 V V' : World} {a : Option Addr} {len cap : Nat} {sv v' : Value} {ss : List ByteArray} {t : ByteArray} (hlt1 : w.heap.size < w1.heap.size) (hS : SS w a len cap V) (hG : Grows w.heap.size w1 V) (hO : OwnS V w1.heap.size sv ss)
    (hn : V'.ownsRow w1.heap.size 9 1 v' (ss.length + 1) (sCells ss ++ [.string t])) (hg : V.grownBy V' sv.ownBlock) :
    ∃ gv vc, v' = .slice (some ⟨gv, 0, none⟩) (ss ++ [t]).length vc ∧ OwnS V' w1.heap.size (.slice (some ⟨gv, 0, none⟩) (ss ++ [t]).length vc) (ss ++ [t]) ∧ SS w a len cap V' ∧ Grows w.heap.size w1 V' := by
  have hlo := (show World.ownsRow _ _ _ _ _ _ _ from hO).lt
  have hs : SS w a len cap V' := hS.grown hg (fun j hj => by have := (hlo j hj).1; omega)
  have hgr : Grows w.heap.size w1 V' := hG.grown hg (fun j hj => (hlo j hj).1)
  have hO5 : OwnS V' w1.heap.size v' (ss ++ [t]) := by
    show World.ownsRow _ _ _ _ _ _ _
    rw [List.length_append, sCells, List.map_append]
    exact hn
  obtain ⟨va, vc, hv, hvc⟩ := hO5.form
  obtain ⟨gv, rfl⟩ : ∃ gv, va = some ⟨gv, 0, none⟩ := by
    rcases hO5.2 with ⟨_, h'⟩ | ⟨gv, cp, cur, e, _⟩
    · simp at h'
    · rw [hv] at e
      simp only [Value.slice.injEq] at e
      exact ⟨gv, e.1⟩
  subst hv
  exact ⟨gv, vc, rfl, hO5, hs, hgr⟩
theorem news_text {V : World} {B : Nat} {ty : TypeId} {t : ByteArray} (h : V.heap[B]? = some (.cells #[.string t] ty (0, 0))) : ∀ j y, [Value.string t][j]? = some y → V.cell? ((⟨B, 0, none⟩ : Addr).add j) = some y := fun j y hy => by
  have hj : j = 0 := by
    rcases Nat.lt_or_ge j 1 with h | h
    · omega
    · rw [List.getElem?_eq_none (by simpa using h)] at hy; cases hy
  subst hj
  rw [Addr.add_lit, cell_of_row _ B 0 _ _ (0, 0) h]
  simpa using hy
end Go.Proofs.YtkhdjmjbdpmdnaaGreatDoor
namespace Go.Proofs.YtkhdjmjbdpmdnaaGreatDoor
open Go.RowKit

set_option maxHeartbeats 1000000 in
set_option maxRecDepth 100000 in
theorem specGroupRight (y : Int) (w : World) :
    Calls Tryz.prog 128 #[.int .i64 y] w fun e w' => e = .returned (.bool (rightG y)) ∧ w' = w := by
  by_cases h1 : 1 < y
  · by_cases h2 : y < 2147483579
    · obtain ⟨x, rfl⟩ := nat_of (show ¬ y < 0 by omega)
      have HC : Hid (∀ v : World, Calls Tryz.prog 68 #[.int .i64 (x : Int), .int .i64 1073741789, .int .i64 2147483579] v fun e w' => e = .returned (.int .i64 ((pm x 1073741789 2147483579 : Nat) : Int)) ∧ w' = v) := fun v => specPow x 1073741789 2147483579 v (by omega) (by omega) (by omega)
      have hrt := rightG_pos (x := x) (by omega) (by omega)
      have hrf := rightG_neg (x := x)
      generalize pm x 1073741789 2147483579 = z at *
      by_cases hz : z = 1
      · subst hz
        rw [hrt rfl]
        clear hrt hrf
        go_enter Tryz.func128, Tryz.ntmps128
        go_wp2_with fail
        refine (HC.out _).mono ?_
        rintro e w2 ⟨rfl, rfl⟩
        go_wp2
        go_ret
        exact ⟨rfl, rfl⟩
      · rw [hrf hz]
        clear hrt hrf
        have hz' : ((z : Int) == 1) = false := by rw [beq_eq_false_iff_ne]; omega
        go_enter Tryz.func128, Tryz.ntmps128
        go_wp2_with fail
        refine (HC.out _).mono ?_
        rintro e w2 ⟨rfl, rfl⟩
        go_wp2
        go_ret
        exact ⟨rfl, rfl⟩
    · rw [rightG_out (by omega)]
      go_enter Tryz.func128, Tryz.ntmps128
      go_wp2
      go_ret
      exact ⟨rfl, rfl⟩
  · rw [rightG_out (by omega)]
    go_enter Tryz.func128, Tryz.ntmps128
    go_wp2
    go_ret
    exact ⟨rfl, rfl⟩
end Go.Proofs.YtkhdjmjbdpmdnaaGreatDoor
namespace Go.Proofs.YtkhdjmjbdpmdnaaGreatDoor
open Go.RowKit

set_option maxHeartbeats 1000000 in
set_option maxRecDepth 100000 in
theorem specHosts (a : Option Addr) (ss : List ByteArray) (c : Nat) (w : World) (hl : ss.length ≤ 5) (hs : ∀ i, i < ss.length → (tAt ss i).size ≤ 40) (ha : IsStrs w a ss) :
    Calls Tryz.prog 152 #[.slice a ss.length c] w fun e w' => e = .returned (.string (seqD (hostsD ss ss.length))) ∧ Below w.heap.size w w' := by
  have HS : Hid (∀ i, i < ss.length → (tAt ss i).size ≤ 40) := hs
  have HL : Hid (∀ k, k ≤ ss.length → (hostsD ss k).size ≤ 44 * k) := fun k hk => hostsD_le k (fun i hi => hs i (by omega))
  clear hs
  go_enter Tryz.func152, Tryz.ntmps152
  go_wp2
  go_loopw [3, 4] (fun t i wr => ∃ k : Nat, k ≤ ss.length ∧ i = .int .i64 k ∧ t = .string (hostsD ss k) ∧ Below w.heap.size w wr) (fun _ i _ => ss.length - (intOf i).toNat)
  case atStart => exact ⟨0, Nat.zero_le _, rfl, rfl, Below.refl _ _⟩
  case round =>
    obtain ⟨k, hk, rfl, rfl, hbr⟩ := hrel
    have HB : Hid (Below w.heap.size w wr) := hbr
    by_cases hlt : k < ss.length
    · obtain ⟨x, o, rfl, hc⟩ : ∃ x o, a = some ⟨x, o, none⟩ ∧ ∀ i, i < ss.length → wr.cell? ⟨x, o + i, none⟩ = some (.string (tAt ss i)) := by
        rcases ha.below hbr ha.lt with rfl | h
        · simp at hlt
        · exact h
      have hck := hc k hlt
      have hz := HS.out k hlt
      have HP : Hid (∀ V, Calls Tryz.prog 132 #[.int .i64 130, .string (tAt ss k)] V fun e w' => e = .returned (.string (thingD 130 (tAt ss k))) ∧ Below V.heap.size V w') := fun V => specThing 130 _ V (by omega) (by omega) (by omega)
      have he : hostsD ss k ++ thingD 130 (tAt ss k) = hostsD ss (k + 1) := rfl
      have a0 : (0 : Int) ≤ (k : Int) := by omega
      have b0 : (k : Int) < (ss.length : Int) := by omega
      have z0 := HL.out k (by omega)
      have z1 := thingD_le 130 (tAt ss k)
      have HR : Hid (∃ j : Nat, j ≤ ss.length ∧ Value.int .i64 ((k : Int) + 1) = .int .i64 (j : Int) ∧ Value.string (hostsD ss (k + 1)) = .string (hostsD ss j)) := ⟨k + 1, by omega, by congr 1, rfl⟩
      generalize hostsD ss (k + 1) = h1 at *
      generalize thingD 130 (tAt ss k) = h2 at *
      generalize tAt ss k = z at *
      clear hc ha hbr HS HL
      go_wp2_with fail
      refine (HP.out _).mono ?_
      rintro e w2 ⟨rfl, b2⟩
      have B2 : Hid (Below w.heap.size w w2) := HB.out.trans (b2.mono HB.out.size)
      clear b2
      go_wp2_with fail
      go_roundw
      case rel =>
        obtain ⟨j, j1, j2, j3⟩ := HR.out
        exact ⟨j, j1, by first | exact j2 | (rw [← j2]; simp; omega), j3, B2.out⟩
      case measure => simp [intOf]; omega
    · obtain rfl : k = ss.length := by omega
      have z0 := HL.out ss.length (Nat.le_refl _)
      have HP : Hid (∀ V, Calls Tryz.prog 58 #[.string (hostsD ss ss.length)] V fun e w' => e = .returned (.string (seqD (hostsD ss ss.length))) ∧ Below V.heap.size V w') := fun V => specSeq _ V (by omega)
      clear ha hbr HS HL
      go_wp2_with fail
      refine (HP.out _).mono ?_
      rintro e w2 ⟨rfl, b2⟩
      have B2 : Hid (Below w.heap.size w w2) := HB.out.trans (b2.mono HB.out.size)
      clear b2
      go_wp2
      go_ret
      exact ⟨rfl, B2.out⟩
end Go.Proofs.YtkhdjmjbdpmdnaaGreatDoor
namespace Go.Proofs.YtkhdjmjbdpmdnaaGreatDoor
open Go.RowKit

set_option maxHeartbeats 1000000 in
set_option maxRecDepth 100000 in
theorem specNames (a : Option Addr) (ss : List ByteArray) (c : Nat) (w : World) (hl : ss.length ≤ 1048576) (hs : totS ss ss.length ≤ 1048576) (ha : IsStrs w a ss) :
    Calls Tryz.prog 83 #[.slice a ss.length c] w fun e w' => e = .returned (.bool (namesB ss)) ∧ Below w.heap.size w w' := by
  have HSz : Hid (∀ k, k < ss.length → (tAt ss k).size ≤ 1048576) := fun k hk => Nat.le_trans (totS_at ss hk) hs
  clear hs
  go_enter Tryz.func83, Tryz.ntmps83
  go_wp2
  go_loopw [3] (fun i wr => ∃ k : Nat, k ≤ ss.length ∧ i = .int .i64 k ∧ okTo ss k = true ∧ Below w.heap.size w wr) (fun i _ => ss.length - (intOf i).toNat)
  case atStart => exact ⟨0, Nat.zero_le _, rfl, rfl, Below.refl _ _⟩
  case round =>
    obtain ⟨k, hk, rfl, hok, hbr⟩ := hrel
    have HOk : Hid (okTo ss k = true) := hok
    have HB : Hid (Below w.heap.size w wr) := hbr
    clear hok
    by_cases hlt : k < ss.length
    · obtain ⟨x, o, rfl, hc⟩ : ∃ x o, a = some ⟨x, o, none⟩ ∧ ∀ i, i < ss.length → wr.cell? ⟨x, o + i, none⟩ = some (.string (tAt ss i)) := by
        rcases ha.below hbr ha.lt with rfl | h
        · simp at hlt
        · exact h
      have hck := hc k hlt
      have hz := HSz.out k hlt
      have HNm : Hid (∀ V : World, Calls Tryz.prog 126 #[.string (tAt ss k)] V fun e w' => e = .returned (.bool (nameB (tAt ss k))) ∧ w' = V) := fun V => specNameB _ V (by unfold maxLen; omega)
      clear hz
      have a0 : (0 : Int) ≤ (k : Int) := by omega
      have b0 : (k : Int) < (ss.length : Int) := by omega
      cases hn : nameB (tAt ss k) with
      | false =>
        have HF : Hid (namesB ss = false) := by show _ = _; rw [namesB, okTo_no (okN_not hn) hlt]; rfl
        rw [hn] at HNm
        generalize tAt ss k = z at *
        generalize ss.length = n at *
        clear hc ha hbr hn HSz
        go_wp2_with fail
        go_quiet ((go_at_call 126; exact Calls.quiet_of_same (HNm.out _)))
        go_wp2
        go_ret
        exact ⟨by rw [HF.out]; rfl, below_drewN HB.out _⟩
      | true =>
        rw [hn] at HNm
        by_cases h0 : k = 0
        · subst h0
          have HF : Hid (okN ss 0 = true) := okN_zero hn
          rw [Nat.add_zero] at hck
          generalize tAt ss 0 = z at *
          generalize ss.length = n at *
          clear hc ha hbr hn HSz
          go_wp2_with fail
          go_quiet ((go_at_call 126; exact Calls.quiet_of_same (HNm.out _)))
          go_wp2
          go_roundw
          case rel => exact ⟨1, by omega, by go_num, okTo_yes HOk.out HF.out, below_drewN HB.out _⟩
          case measure => simp [intOf]; omega
        · have hck1 := hc (k - 1) (by omega)
          have ek : ((k : Int) - 1) = ((k - 1 : Nat) : Int) := by omega
          have ew : IntKind.i64.wrap ((k : Int) - 1) = ((k - 1 : Nat) : Int) := by rw [IntKind.wrap_i64]; omega
          have a1 : (0 : Int) < (k : Int) := by omega
          have a2 : 0 < k := by omega
          have g1 : decide ((0 : Int) < (k : Int)) = true := decide_eq_true a1
          have b1 : ((k - 1 : Nat) : Int) < (ss.length : Int) := by omega
          have hbl := okN_more (ss := ss) (k := k) (by omega) hn
          cases hr : Op.bytesLess (tAt ss (k - 1)).toList (tAt ss k).toList with
          | false =>
            have HF : Hid (namesB ss = false) := by show _ = _; rw [namesB, okTo_no (hbl.trans hr) hlt]; rfl
            generalize tAt ss k = z at *
            generalize tAt ss (k - 1) = y at *
            generalize k - 1 = k1 at *
            generalize ss.length = n at *
            clear hc ha hbr hn HSz hbl
            go_wp2_with fail
            go_quiet ((go_at_call 126; exact Calls.quiet_of_same (HNm.out _)))
            go_wp2
            go_ret
            exact ⟨by rw [HF.out]; rfl, below_drewN HB.out _⟩
          | true =>
            have HF : Hid (okN ss k = true) := hbl.trans hr
            generalize tAt ss k = z at *
            generalize tAt ss (k - 1) = y at *
            generalize k - 1 = k1 at *
            generalize ss.length = n at *
            clear hc ha hbr hn HSz hbl
            go_wp2_with fail
            go_quiet ((go_at_call 126; exact Calls.quiet_of_same (HNm.out _)))
            go_wp2
            go_roundw
            case rel => exact ⟨k + 1, by omega, by go_num, okTo_yes HOk.out HF.out, below_drewN HB.out _⟩
            case measure => simp [intOf]; omega
    · obtain rfl : k = ss.length := by omega
      have HF : Hid (namesB ss = decide (ss.length ≤ 5)) := by show _ = _; rw [namesB, HOk.out]; rfl
      clear ha hbr
      by_cases h5 : ss.length ≤ 5
      · rw [decide_eq_true h5] at HF
        go_wp2
        go_ret
        exact ⟨by rw [HF.out]; first | rfl | (simp; omega), HB.out⟩
      · rw [decide_eq_false h5] at HF
        go_wp2
        go_ret
        exact ⟨by rw [HF.out]; first | rfl | (simp; omega), HB.out⟩
end Go.Proofs.YtkhdjmjbdpmdnaaGreatDoor
namespace Go.Proofs.YtkhdjmjbdpmdnaaGreatDoor
open Go.RowKit

theorem specRem (n : Int) (w : World) :
    Calls Tryz.prog 142 #[.int .i64 n] w fun e w' => e = .returned (.bool (remB n)) ∧ w' = w := by
  by_cases h1 : 0 ≤ n
  · by_cases h2 : n < 1073741789
    · have e : remB n = true := decide_eq_true ⟨h1, h2⟩
      rw [e]
      go_enter Tryz.func142, Tryz.ntmps142
      go_wp2
      go_ret
      exact ⟨rfl, rfl⟩
    · have e : remB n = false := decide_eq_false (by omega)
      rw [e]
      go_enter Tryz.func142, Tryz.ntmps142
      go_wp2
      go_ret
      exact ⟨rfl, rfl⟩
  · have e : remB n = false := decide_eq_false (by omega)
    rw [e]
    go_enter Tryz.func142, Tryz.ntmps142
    go_wp2
    go_ret
    exact ⟨rfl, rfl⟩
set_option maxHeartbeats 1000000 in
set_option maxRecDepth 100000 in
theorem specSigRight (k e s : Int) (w : World) :
    Calls Tryz.prog 66 #[.agg #[.int .i64 k, .int .i64 e, .int .i64 s]] w fun r w' => r = .returned (.bool (sigRB k e s)) ∧ Below w.heap.size w w' := by
  go_enter Tryz.func66, Tryz.ntmps66
  go_wp2_with fail
  refine (specGroupRight k _).mono ?_
  rintro e1 w1 ⟨rfl, rfl⟩
  by_cases h1 : rightG k = true
  · rw [h1]
    go_wp2_with fail
    refine (specRem e _).mono ?_
    rintro e2 w2 ⟨rfl, rfl⟩
    by_cases h2 : remB e = true
    · rw [h2]
      go_wp2_with fail
      refine (specRem s _).mono ?_
      rintro e3 w3 ⟨rfl, rfl⟩
      generalize hb3 : remB s = b
      go_wp2
      go_ret
      exact ⟨by simp [sigRB, *], allocBelow _ _⟩
    · rw [Bool.not_eq_true] at h2
      rw [h2]
      go_wp2
      go_ret
      exact ⟨by simp [sigRB, *], allocBelow _ _⟩
  · rw [Bool.not_eq_true] at h1
    rw [h1]
    go_wp2
    go_ret
    exact ⟨by simp [sigRB, *], allocBelow _ _⟩
end Go.Proofs.YtkhdjmjbdpmdnaaGreatDoor
namespace Go.Proofs.YtkhdjmjbdpmdnaaGreatDoor
open Go.RowKit

/-- A power modulo GroupP, of numbers as a call has them. -/
def powP (a n : Int) : Int := ((pm a.toNat n.toNat 2147483579 : Nat) : Int)
theorem powP_nat (a n : Nat) : powP a n = ((pm a n 2147483579 : Nat) : Int) := by unfold powP; rw [Int.toNat_natCast, Int.toNat_natCast]
theorem specPowP (a n : Int) (w : World) (ha : 0 ≤ a) (hn : 0 ≤ n) (hn2 : n ≤ 9223372036854775807) :
    Calls Tryz.prog 68 #[.int .i64 a, .int .i64 n, .int .i64 2147483579] w fun e w' => e = .returned (.int .i64 (powP a n)) ∧ w' = w := by
  obtain ⟨A, rfl⟩ := Int.eq_ofNat_of_zero_le ha
  obtain ⟨N, rfl⟩ := Int.eq_ofNat_of_zero_le hn
  rw [powP_nat]
  exact specPow A N 2147483579 w (by omega) (by omega) (by omega)
set_option maxHeartbeats 1000000 in
set_option maxRecDepth 100000 in
theorem specCheck (k e s : Nat) (t : ByteArray) (w : World) (ht : t.size ≤ 20000) (hk : k < 2147483579) (he : e < 1073741789) (hs : s < 1073741789) :
    Calls Tryz.prog 149 #[.agg #[.int .i64 (k : Int), .int .i64 (e : Int), .int .i64 (s : Int)], .string t] w fun r w' => r = .returned (.bool (decide ((chal (backR k e s : Nat) k t : Int) = (e : Int)))) ∧ Below w.heap.size w w' := by
  obtain ⟨j, hj⟩ : ∃ j : Nat, j = 1073741789 - e := ⟨_, rfl⟩
  obtain ⟨y1, hy1⟩ : ∃ y : Nat, y = pm 4 s 2147483579 := ⟨_, rfl⟩
  obtain ⟨y2, hy2⟩ : ∃ y : Nat, y = pm k j 2147483579 := ⟨_, rfl⟩
  have hb := backR_nat k e s
  rw [← hj, ← hy1, ← hy2] at hb
  have e1 : powP 4 (s : Int) = (y1 : Int) := by rw [hy1]; exact powP_nat 4 s
  have e2 : powP (k : Int) (j : Int) = (y2 : Int) := by rw [hy2]; exact powP_nat k j
  have q1 : y1 < 2147483579 := by rw [hy1]; exact pm_lt 4 s (by omega)
  have q2 : y2 < 2147483579 := by rw [hy2]; exact pm_lt k j (by omega)
  have hj' : (1073741789 : Int) - (e : Int) = (j : Int) := by omega
  obtain ⟨p, hp, ep, lp, up⟩ := prod_bd y1 y2 (by omega) (by omega)
  obtain ⟨b, hbb⟩ : ∃ b : Nat, b = backR k e s := ⟨_, rfl⟩
  rw [← hbb] at hb
  have hz : b < 2147483579 := by rw [hb]; exact Nat.mod_lt _ (by omega)
  have t0 : (p : Int).tmod 2147483579 = (b : Int) := by rw [hb, ← hp]; exact tmodN p 2147483579
  obtain ⟨c, hc⟩ : ∃ c : Nat, c = chal (b : Int) k t := ⟨_, rfl⟩
  have HX : Hid (∀ v : World, Calls Tryz.prog 131 #[.int .i64 (b : Int), .int .i64 (k : Int), .string t] v fun r w' => r = .returned (.int .i64 (c : Int)) ∧ Below v.heap.size v w') := fun v => by rw [hc]; exact specChal _ _ t v ht (by omega) (by omega) (by omega) (by omega)
  rw [← hbb, ← hc]
  clear hb hp q1 q2 hj hy1 hy2 hbb hc hz hk
  go_enter Tryz.func149, Tryz.ntmps149
  go_wp2_with fail
  go_quiet ((go_at_call 68; exact Calls.quiet_of_same (specPowP _ _ _ (by omega) (by omega) (by omega))))
  go_wp2_with fail
  obtain ⟨w1, hw1⟩ : ∃ w1, (w.alloc (.cells #[.int .i64 (k : Int), .int .i64 (e : Int), .int .i64 (s : Int)] 25 (0, 0))).drewN nq = w1 := ⟨_, rfl⟩
  have hg1 : w1.heap[w.heap.size]? = some (.cells [Value.int .i64 (k : Int), .int .i64 (e : Int), .int .i64 (s : Int)].toArray 25 (0, 0)) := by rw [← hw1]; exact heap_alloc_new w _
  have hb1 : Below w.heap.size w w1 := by rw [← hw1]; exact below_drewN (allocBelow w _) nq
  rw [hw1]
  have p0 := rowFacts hg1 0 _ rfl
  have p1 := rowFacts hg1 1 _ rfl
  have HT : Hid (Calls Tryz.prog 131 #[.int .i64 (b : Int), .int .i64 (k : Int), .string t] w1.drew fun r W => r = .returned (.int .i64 (c : Int)) ∧ Hid (Below w.heap.size w W) ∧ W.cell? ⟨w.heap.size, 0, none⟩ = some (.int .i64 (k : Int)) ∧ W.cell? ⟨w.heap.size, 1, none⟩ = some (.int .i64 (e : Int))) := by
    show Calls _ _ _ _ _
    refine (HX.out w1.drew).mono ?_
    rintro r W ⟨rfl, hb⟩
    have hl : w.heap.size < w1.drew.heap.size := heap_lt (show w1.drew.heap[w.heap.size]? = _ from hg1)
    exact ⟨rfl, hb1.drew.trans (hb.mono (Nat.le_of_lt hl)), by rw [hb.cell hl]; exact p0, by rw [hb.cell hl]; exact p1⟩
  clear hw1 hg1 hb1 HX e1 e2 hj' ep lp up t0
  go_region_held3 (fun V => V.cell? ⟨w.heap.size, 0, none⟩ = some (.int .i64 (k : Int)) ∧ V.cell? ⟨w.heap.size, 1, none⟩ = some (.int .i64 (e : Int))) (first | exact ⟨c0, c1⟩ | go_keep)
    (first | (go_at_call 131; refine HT.out.mono ?_; rintro r W ⟨rfl, kk, c0, c1⟩))
  all_goals
    go_wp2
    go_ret
    exact ⟨rfl, kk.out⟩
set_option maxHeartbeats 1000000 in
set_option maxRecDepth 100000 in
theorem specSigCheck (k e s : Int) (t : ByteArray) (w : World) (ht : t.size ≤ maxLen) :
    Calls Tryz.prog 75 #[.agg #[.int .i64 k, .int .i64 e, .int .i64 s], .string t] w fun r w' => r = .returned (.bool (sigCB k e s t)) ∧ Below w.heap.size w w' := by
  have htm := ht
  unfold maxLen at htm
  by_cases h1 : 20000 < t.size
  · have ea : Hid (sigCB k e s t = false) := sigCB_long h1
    go_enter Tryz.func75, Tryz.ntmps75
    go_wp2
    go_ret
    exact ⟨by rw [ea.out]; rfl, allocBelow _ _⟩
  have ht2 : t.size ≤ 20000 := by omega
  by_cases h2 : sigRB k e s = true
  · obtain ⟨K, E, S, rfl, rfl, rfl, hk, he, hs, _⟩ := sigRB_nat h2
    have ea : Hid (sigCB K E S t = decide ((chal (backR K E S : Nat) K t : Int) = (E : Int))) := sigCB_right ht2 h2
    have HX : Hid (∀ v : World, Calls Tryz.prog 149 #[.agg #[.int .i64 (K : Int), .int .i64 (E : Int), .int .i64 (S : Int)], .string t] v fun r w' => r = .returned (.bool (decide ((chal (backR K E S : Nat) K t : Int) = (E : Int)))) ∧ Below v.heap.size v w') := fun v => specCheck K E S t v ht2 hk he hs
    generalize decide ((chal (backR K E S : Nat) K t : Int) = (E : Int)) = b at *
    go_enter Tryz.func75, Tryz.ntmps75
    go_wp2_with fail
    refine (specSigRight K E S _).mono ?_
    rintro r w1 ⟨rfl, hb1⟩
    rw [h2]
    have c0 : w1.cell? ⟨w.heap.size, 0, none⟩ = some (.int .i64 (K : Int)) := by rw [hb1.cell (p := ⟨w.heap.size, 0, none⟩) (by simp)]; simp
    have c1 : w1.cell? ⟨w.heap.size, 1, none⟩ = some (.int .i64 (E : Int)) := by rw [hb1.cell (p := ⟨w.heap.size, 1, none⟩) (by simp)]; simp
    have c2 : w1.cell? ⟨w.heap.size, 2, none⟩ = some (.int .i64 (S : Int)) := by rw [hb1.cell (p := ⟨w.heap.size, 2, none⟩) (by simp)]; simp
    have B1 : Hid (Below w.heap.size w w1) := (allocBelow w _).trans (hb1.mono (by simp))
    clear hb1
    go_wp2_with fail
    refine (HX.out _).mono ?_
    rintro r w2 ⟨rfl, hb2⟩
    have B2 : Hid (Below w.heap.size w w2) := B1.out.trans (hb2.mono B1.out.size)
    clear hb2
    go_wp2
    go_ret
    exact ⟨by rw [ea.out]; rfl, B2.out⟩
  · rw [Bool.not_eq_true] at h2
    have ea : Hid (sigCB k e s t = false) := sigCB_wrong h2
    go_enter Tryz.func75, Tryz.ntmps75
    go_wp2_with fail
    refine (specSigRight k e s _).mono ?_
    rintro r w1 ⟨rfl, hb1⟩
    rw [h2]
    have B1 : Hid (Below w.heap.size w w1) := (allocBelow w _).trans (hb1.mono (by simp))
    clear hb1
    go_wp2
    go_ret
    exact ⟨by rw [ea.out]; rfl, B1.out⟩
end Go.Proofs.YtkhdjmjbdpmdnaaGreatDoor
