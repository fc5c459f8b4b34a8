/- The draws as steps from a source at work to a source at work, all else as it was. A row of texts: what is said of it. A row of texts of the call's own. '.l06Names', walked: some names, as a new row. FnExactNameRight, walks: 'spec.NameRight' and 'impl.NameRight' answer true just where the text is a right name. When a number is a secret. Powers modulo a number: plain mathematics, no program is named here. The group's order, and what a signature's numbers lead to: plain mathematics, no program is named here. Products and remainders of numbers, as a walk has them. impl.modulo, the function that it answers, impl.product, walked. impl.ModMul, ModPow, ModInv and the specification's, walked. impl.power, walked. impl.ModPow, walked. -/
import Derived.Test.YtegmmaomaegjjaaGreatDoorPT01
import Derived.Handy
import Derived.Deep.QuietTactic
import Derived.BigQuiet
import Derived.OwnWalk
import Derived.Test.YtegmmaomaegjjaaGreatDoorRows
import Derived.WalkKit
import Derived.WalkSpells
import Derived.WalkLawsBesides
import Derived.Below
import Derived.Deep.RegionLaw
import Derived.Deep.RegionWith
namespace Go.Proofs.YtegmmaomaegjjaaGreatDoor
open Go.RowKit

section
variable {w W W' : World} {a : Option Addr} {len cap : Nat}
theorem SS.grown {row : Option Nat} (h : SS w a len cap W) (hg : W.grownBy W' row) (hr : ∀ j, row = some j → w.heap.size < j) : SS w a len cap W' :=
  ⟨h.1.grown hg (fun e => by have := hr _ e.symm; omega) (fun x h0 hx e => by have h1 := h.2.2.2 x h0 hx; have h2 := hr _ e.symm; omega),
    h.2.1.grown hg (Nat.le_of_lt h.2.2.1) (fun k hk => by have := hr _ hk; omega), Nat.lt_of_lt_of_le h.2.2.1 hg.size, h.2.2.2⟩
theorem Grows.keepBlock {n b : Nat} (h : Grows n W W') (hb : b < W.heap.size) (hn : b ≠ n) : W'.heap[b]? = W.heap[b]? := h.block b hb (by intro e; exact hn (Option.some.inj e))
theorem below_grows {n : Nat} (h : Below W.heap.size W W') : Grows n W W' :=
  ⟨h.os, h.tape, h.output, h.size, fun b hb _ => h.block b hb⟩
theorem grown_row {q : Nat} (ho : ∀ k, k ≠ q → W'.heap[k]? = W.heap[k]?) (hbb : ∀ B w0, B ≤ q → Below B w0 W → Below B w0 W') : W.grownBy W' (some q) := by
  have hb := hbb q W (Nat.le_refl _) (Below.refl _ _)
  exact ⟨hb.os, hb.tape, hb.output, hb.size, fun b _ hn => ho b (by intro e; exact hn (by rw [e]))⟩
theorem grown_cell (W : World) (q j : Nat) (v : Value) : W.grownBy (W.setCell ⟨q, j, none⟩ v) (some q) := ((Turns.refl q W).setCell j v).1
theorem Grows.row {n q : Nat} {V : World} (h : Grows n V W) (hg : W.grownBy W' (some q)) (hq : V.heap.size ≤ q) : Grows n V W' := h.grown hg (fun j hj => by have := Option.some.inj hj; omega)
theorem SS.row {q : Nat} (h : SS w a len cap W) (hg : W.grownBy W' (some q)) (hq : w.heap.size < q) : SS w a len cap W' := h.grown hg (fun j hj => by have := Option.some.inj hj; omega)
theorem sk_n (most : Nat) (hm : most ≤ 4611686018427387904) (h : SS w a len cap W) :
    Calls Tryz.prog 20 #[.pointer (some ⟨w.heap.size, 0, none⟩), .int .i64 (most : Int)] W fun e w' => ∃ r : Nat, e = .returned (.int .i64 (r : Int)) ∧ (r < most ∨ r = 0) ∧ SS w a len cap w' ∧ Grows w.heap.size W w' := by
  refine (n_any w.heap.size a len cap most W hm h.1).mono ?_
  rintro e w' ⟨r, rfl, hr, h1, h2⟩
  exact ⟨r, rfl, hr, h.grows h1 h2.grows, h2.grows⟩
theorem sk_one (most : Nat) (hm : most ≤ 4611686018427387904) (h : SS w a len cap W) :
    Calls Tryz.prog 18 #[.pointer (some ⟨w.heap.size, 0, none⟩), .int .i64 (most : Int)] W fun e w' => (∃ b : Bool, e = .returned (.bool b)) ∧ SS w a len cap w' ∧ Grows w.heap.size W w' := by
  refine (one_any w.heap.size a len cap most W hm h.1).mono ?_
  rintro e w' ⟨hb, h1, h2⟩
  refine ⟨?_, h.grows h1 h2.grows, h2.grows⟩
  rcases hb with hb | hb
  · exact ⟨_, hb⟩
  · exact ⟨_, hb⟩
theorem sk_pick (m c K : Nat) (T : TypeId) (ss : List ByteArray) (h : SS w a len cap W) (hm : ss.length = m) (h0 : 0 < m) (h1 : m ≤ 100) (hK : ∀ t ∈ ss, t.size ≤ K) :
    Calls Tryz.prog 40 #[.pointer (some ⟨w.heap.size, 0, none⟩), .slice (some ⟨W.heap.size, 0, none⟩) m c] (W.alloc (.cells (ss.map Value.string).toArray T (0, 0))) fun e w' => UpT K e ∧ SS w a len cap w' ∧ Grows w.heap.size W w' := by
  have h' := h.alloc (.cells (ss.map Value.string).toArray T (0, 0))
  refine (pick_any w.heap.size a len cap W.heap.size m c K T ss _ h'.1 (heap_alloc_new _ _) hm h0 h1 hK (by have := h.2.2.1; omega)).mono ?_
  rintro e w' ⟨hb, h1, h2⟩
  exact ⟨hb, h'.grows h1 h2, ((Grows.refl _ W).alloc _).trans h2⟩
theorem sk_pick2 (B m c K : Nat) (T : TypeId) (ss : List ByteArray) (h : SS w a len cap W) (hrow : W.heap[B]? = some (.cells (ss.map Value.string).toArray T (0, 0))) (hB : B ≠ w.heap.size) (hm : ss.length = m) (h0 : 0 < m) (h1 : m ≤ 100) (hK : ∀ t ∈ ss, t.size ≤ K) :
    Calls Tryz.prog 40 #[.pointer (some ⟨w.heap.size, 0, none⟩), .slice (some ⟨B, 0, none⟩) m c] W fun e w' => UpT K e ∧ SS w a len cap w' ∧ Grows w.heap.size W w' := by
  refine (pick_any w.heap.size a len cap B m c K T ss _ h.1 hrow hm h0 h1 hK hB).mono ?_
  rintro e w' ⟨hb, h1, h2⟩
  exact ⟨hb, h.grows h1 h2, h2⟩
end
end Go.Proofs.YtegmmaomaegjjaaGreatDoor
namespace Go.Proofs.YtegmmaomaegjjaaGreatDoor
open Go.RowKit

/-- Text number i of a row. -/
def tAt (ss : List ByteArray) (i : Nat) : ByteArray := ss.getD i ByteArray.empty
/-- The texts ss lie behind the address (none at all: any address serves). -/
def IsStrs (w : World) (a : Option Addr) (ss : List ByteArray) : Prop := ss = [] ∨ ∃ b o, a = some ⟨b, o, none⟩ ∧ ∀ i, i < ss.length → w.cell? ⟨b, o + i, none⟩ = some (.string (tAt ss i))
/-- .. and its block lies below B. -/
def StrsBelow (B : Nat) (a : Option Addr) (ss : List ByteArray) : Prop := ss = [] ∨ ∀ x, a = some x → x.block < B
theorem IsStrs.below {B : Nat} {w w' : World} {a : Option Addr} {ss : List ByteArray} (h : IsStrs w a ss) (hb : Below B w w') (hB : StrsBelow B a ss) : IsStrs w' a ss := by
  rcases h with rfl | ⟨b, o, rfl, hc⟩
  · exact .inl rfl
  · rcases hB with rfl | hB
    · exact .inl rfl
    · exact .inr ⟨b, o, rfl, fun i hi => by rw [hb.cell (p := ⟨b, o + i, none⟩) (hB ⟨b, o, none⟩ rfl)]; exact hc i hi⟩
theorem IsStrs.lt {w : World} {a : Option Addr} {ss : List ByteArray} (h : IsStrs w a ss) : StrsBelow w.heap.size a ss := by
  rcases h with rfl | ⟨b, o, rfl, hc⟩
  · exact .inl rfl
  · by_cases h0 : ss.length = 0
    · exact .inl (List.eq_nil_of_length_eq_zero h0)
    · refine .inr fun x hx => ?_
      cases hx
      exact World.block_lt_of_cell? w _ (hc 0 (by omega))
theorem IsStrs.keep {w w' : World} {a : Option Addr} {ss : List ByteArray} (h : IsStrs w a ss) (hb : Below w.heap.size w w') : IsStrs w' a ss := h.below hb h.lt
def sCells (ss : List ByteArray) : List Value := ss.map Value.string
theorem sCells_at {ss : List ByteArray} {i : Nat} (h : i < ss.length) : (sCells ss)[i]? = some (.string (tAt ss i)) := by simp [sCells, tAt, List.getD, h]
theorem IsStrs.row {w : World} {g : Nat} {t : TypeId} {ss : List ByteArray} (h : w.heap[g]? = some (.cells (sCells ss).toArray t (0, 0))) : IsStrs w (some ⟨g, 0, none⟩) ss :=
  .inr ⟨g, 0, rfl, fun i hi => by
    rw [Nat.zero_add, cell_of_row w g i _ t (0, 0) h]
    simpa using sCells_at hi⟩
theorem infoText : (Tryz.prog.info? 9).map (fun i => (i.zero, i.size, i.bytes)) = some (some (.string ⟨#[]⟩), 1, 16) := by kernel_rfl
/-- How many bytes and texts there are. -/
def totS : List ByteArray → Nat → Nat
  | _, 0 => 0
  | ss, k + 1 => totS ss k + (tAt ss k).size
theorem totS_mono (ss : List ByteArray) : ∀ {i k : Nat}, i ≤ k → totS ss i ≤ totS ss k := by
  intro i k h
  induction k with
  | zero => obtain rfl : i = 0 := by omega
            exact Nat.le_refl _
  | succ k ih =>
    by_cases e : i = k + 1
    · subst e; exact Nat.le_refl _
    · have := ih (by omega)
      show totS ss i ≤ totS ss k + _
      omega
theorem totS_at (ss : List ByteArray) {i k : Nat} (h : i < k) : (tAt ss i).size ≤ totS ss k := by
  have := totS_mono ss (show i + 1 ≤ k by omega)
  have e : totS ss (i + 1) = totS ss i + (tAt ss i).size := rfl
  omega
/-- What laws.szStringS leaves. -/
def szR (ss : List ByteArray) (left : Int) : Int := if (ss.length : Int) + totS ss ss.length ≤ left then left - ss.length - totS ss ss.length else -1
end Go.Proofs.YtegmmaomaegjjaaGreatDoor
namespace Go.Proofs.YtegmmaomaegjjaaGreatDoor
open Go.RowKit

def OwnS (w : World) (B : Nat) (v : Value) (l : List ByteArray) : Prop := w.ownsRow B 9 1 v l.length (sCells l)
theorem OwnS.keep {w w' : World} {B : Nat} {v : Value} {l : List ByteArray} (h : OwnS w B v l) (hb : Below w.heap.size w w') : OwnS w' B v l := by
  refine ⟨h.1, ?_⟩
  rcases h.2 with h | ⟨g, cap, cur, e, h1, h2, h3⟩
  · exact .inl h
  · exact .inr ⟨g, cap, cur, e, h1, by rw [hb.block g (heap_lt h2)]; exact h2, h3⟩
theorem OwnS.mono {w : World} {B B' : Nat} {v : Value} {l : List ByteArray} (h : OwnS w B v l) (hB : B' ≤ B) : OwnS w B' v l := by
  refine ⟨h.1, ?_⟩
  rcases h.2 with h | ⟨g, cap, cur, e, h1, h3⟩
  · exact .inl h
  · exact .inr ⟨g, cap, cur, e, Nat.le_trans hB h1, h3⟩
theorem OwnS.form {w : World} {B : Nat} {v : Value} {l : List ByteArray} (h : OwnS w B v l) : ∃ a c, v = .slice a l.length c ∧ l.length ≤ c := by
  rcases h.2 with ⟨h, h'⟩ | ⟨g, cap, _, e, _, _, hc, _⟩
  · exact ⟨none, 0, by rw [h']; exact h, by omega⟩
  · exact ⟨_, _, e, hc⟩
theorem ownS_nil (w : World) (B : Nat) : OwnS w B (.slice none 0 0) [] := ⟨rfl, .inl ⟨rfl, rfl⟩⟩
theorem OwnS.strs {w : World} {B : Nat} {a : Option Addr} {n c : Nat} {l : List ByteArray} (h : OwnS w B (.slice a n c) l) : IsStrs w a l := by
  rcases h.2 with ⟨_, h'⟩ | ⟨g, cap, cur, e, _, hg, _, _, _, ht⟩
  · exact .inl (List.eq_nil_of_length_eq_zero h')
  · simp only [Value.slice.injEq] at e
    obtain ⟨rfl, _, _⟩ := e
    refine .inr ⟨g, 0, rfl, fun i hi => ?_⟩
    have k0 := sCells_at hi
    rw [← ht, List.getElem?_take, if_pos (by omega)] at k0
    rw [Nat.zero_add, cell_of_row w g _ _ _ (0, 0) hg]
    simpa using k0
theorem OwnS.ge {w : World} {B g : Nat} {v : Value} {l : List ByteArray} (h : OwnS w B v l) (e : v.ownBlock = some g) : B ≤ g ∧ g < w.heap.size :=
  (show World.ownsRow w B 9 1 v l.length (sCells l) from h).lt g e
/-- It stands where its blocks are as they were. -/
theorem OwnS.same {w w' : World} {B : Nat} {v : Value} {l : List ByteArray} (h : OwnS w B v l) (hs : ∀ k, B ≤ k → k < w.heap.size → w'.heap[k]? = w.heap[k]?) : OwnS w' B v l := by
  refine ⟨h.1, ?_⟩
  rcases h.2 with h | ⟨g, cap, cur, e, h1, h2, h3⟩
  · exact .inl h
  · exact .inr ⟨g, cap, cur, e, h1, by rw [hs g h1 (heap_lt h2)]; exact h2, h3⟩
theorem take_snoc (l : List ByteArray) {k : Nat} (h : k < l.length) : l.take (k + 1) = l.take k ++ [tAt l k] := by
  rw [List.take_succ_eq_append_getElem h, tAt, List.getD, List.getElem?_eq_getElem h]; rfl
/-- It stands where all blocks but one that is not its own are as they were. -/
theorem OwnS.off {w w' : World} {B q : Nat} {v : Value} {l : List ByteArray} (h : OwnS w B v l) (hq : v.ownBlock ≠ some q) (hs : ∀ k, k ≠ q → w'.heap[k]? = w.heap[k]?) : OwnS w' B v l := by
  refine ⟨h.1, ?_⟩
  rcases h.2 with h | ⟨g, cap, cur, e, h1, h2, h3⟩
  · exact .inl h
  · exact .inr ⟨g, cap, cur, e, h1, by rw [hs g (fun e' => hq (by rw [e, ← e']; rfl))]; exact h2, h3⟩
theorem oneCell_texts (l : List ByteArray) : ∀ u ∈ sCells l, u.oneCell' = true := by
  intro u hu
  simp only [sCells, List.mem_map] at hu
  obtain ⟨s, _, rfl⟩ := hu
  rfl
end Go.Proofs.YtegmmaomaegjjaaGreatDoor
namespace Go.Proofs.YtegmmaomaegjjaaGreatDoor
open Go.RowKit

theorem OwnS.grow {n B : Nat} {W W' : World} {v : Value} {l : List ByteArray} (h : OwnS W B v l) (hg : Grows n W W') (hn : n < B) : OwnS W' B v l :=
  h.same fun k hk hl => hg.keepBlock hl (by omega)
theorem OwnS.rowOff {q B : Nat} {W W' : World} {v : Value} {l : List ByteArray} (h : OwnS W B v l) (hg : W.grownBy W' (some q)) (hq : v.ownBlock ≠ some q) : OwnS W' B v l := by
  refine ⟨h.1, ?_⟩
  rcases h.2 with h | ⟨g, cap, cur, e, h1, h2, h3⟩
  · exact .inl h
  · exact .inr ⟨g, cap, cur, e, h1, by rw [hg.block g (heap_lt h2) (by intro e'; exact hq (by rw [e, ← e']; rfl))]; exact h2, h3⟩
theorem own_addr {w : World} {B : Nat} {v : Value} {l : List ByteArray} (h : OwnS w B v l) (hn : v ≠ .slice none 0 0) : ∃ g c, v = .slice (some ⟨g, 0, none⟩) l.length c ∧ B ≤ g ∧ g < w.heap.size ∧ ∀ i, i < l.length → w.cell? ⟨g, 0 + i, none⟩ = some (.string (tAt l i)) := by
  rcases h.2 with ⟨h', _⟩ | ⟨g, cap, cur, e, h1, h2, h3, h4, h5, ht⟩
  · exact absurd h' hn
  · refine ⟨g, cap, e, h1, heap_lt h2, fun i hi => ?_⟩
    have k0 := sCells_at hi
    rw [← ht, List.getElem?_take, if_pos (by omega)] at k0
    rw [Nat.zero_add, cell_of_row w g _ _ _ (0, 0) h2]
    simpa using k0
set_option maxRecDepth 100000 in
set_option maxHeartbeats 4000000 in
theorem sk_names {w W : World} {a : Option Addr} {len cap : Nat} (h : SS w a len cap W) :
    Calls Tryz.prog 21 #[.pointer (some ⟨w.heap.size, 0, none⟩)] W fun e w' => ∃ (g c : Nat) (ss : List ByteArray), e = .returned (.slice (some ⟨g, 0, none⟩) ss.length c) ∧ OwnS w' W.heap.size (.slice (some ⟨g, 0, none⟩) ss.length c) ss ∧ ss.length ≤ 4 ∧ (∀ t ∈ ss, t.size ≤ 6) ∧ SS w a len cap w' ∧ Grows w.heap.size W w' := by
  obtain ⟨i0, hi0, hz0, hz1, hz2⟩ := info_parts infoText
  have hlt := h.2.2.1
  have H1 : Hid (SS w a len cap W) := h
  clear h
  have hown0 : OwnS (W.alloc (.cells #[] 9 (0, 0))) W.heap.size (.slice (some ⟨W.heap.size, 0, none⟩) 0 0) [] := by
    have := World.ownsRow_lit (base := W.heap.size) (e := 9) (size := 1) W #[] 0 (Nat.le_refl _) (by decide) rfl
    simpa [OwnS, sCells] using this
  have HO0 : Hid _ := hown0
  clear hown0
  go_enter Tryz.func21, Tryz.ntmps21
  go_wp2_with fail
  go_loopw [3, 4] (fun v i wr => ∃ (k g c : Nat) (ss : List ByteArray), k ≤ 4 ∧ i = .int .i64 (k : Int) ∧ v = .slice (some ⟨g, 0, none⟩) ss.length c ∧ OwnS wr W.heap.size (.slice (some ⟨g, 0, none⟩) ss.length c) ss ∧ ss.length ≤ k ∧ (∀ t ∈ ss, t.size ≤ 6) ∧ SS w a len cap wr ∧ Grows w.heap.size W wr)
    (fun _ i _ => 4 - (intOf i).toNat)
  case atStart => exact ⟨0, W.heap.size, 0, [], by omega, rfl, rfl, HO0.out, by simp, by simp, H1.out.alloc _, (Grows.refl _ W).alloc _⟩
  case round =>
    clear HO0 H1
    obtain ⟨k, g, c, ss, hk, rfl, rfl, ho, hl, hs, hss, hgr⟩ := hrel
    have O1 : Hid (OwnS wr W.heap.size (.slice (some ⟨g, 0, none⟩) ss.length c) ss) := ho
    have S1 : Hid (SS w a len cap wr) := hss
    have G1 : Hid (Grows w.heap.size W wr) := hgr
    have T1 : Hid (∀ t ∈ ss, t.size ≤ 6) := hs
    clear ho hss hgr hs
    by_cases hlt4 : k < 4
    · go_wp2_with fail
      refine (sk_one 2 (by omega) S1.out).mono ?_
      rintro e w2 ⟨⟨bb, rfl⟩, h2, hg2⟩
      have S2 : Hid (SS w a len cap w2) := h2
      have G2 : Hid (Grows w.heap.size W w2) := G1.out.trans hg2
      have O2 : Hid (OwnS w2 W.heap.size (.slice (some ⟨g, 0, none⟩) ss.length c) ss) := O1.out.grow hg2 hlt
      clear h2 hg2 S1 G1 O1
      cases bb with
      | false =>
        go_wp2_with fail
        go_roundw
        case rel => exact ⟨k + 1, g, c, ss, by omega, by go_num, rfl, O2.out, by omega, T1.out, S2.out, G2.out⟩
        case measure => simp [intOf]; omega
      | true =>
        obtain ⟨t, ht, hcell⟩ : ∃ t : ByteArray, t.size ≤ 6 ∧ ∀ V : World, (V.alloc (.cells #[.string ⟨#[97, 108, 112, 104, 97]⟩, .string ⟨#[98, 101, 116, 97]⟩, .string ⟨#[104, 111, 115, 116, 45, 49]⟩, .string ⟨#[119, 119, 119]⟩] 9 (0, 0))).cell? ⟨V.heap.size, k, none⟩ = some (.string t) := by
          have hq : k = 0 ∨ k = 1 ∨ k = 2 ∨ k = 3 := by omega
          rcases hq with rfl | rfl | rfl | rfl
          · exact ⟨⟨#[97, 108, 112, 104, 97]⟩, by decide, fun V => by rw [cell_of_row _ V.heap.size 0 _ _ (0, 0) (heap_alloc_new V _)]; rfl⟩
          · exact ⟨⟨#[98, 101, 116, 97]⟩, by decide, fun V => by rw [cell_of_row _ V.heap.size 1 _ _ (0, 0) (heap_alloc_new V _)]; rfl⟩
          · exact ⟨⟨#[104, 111, 115, 116, 45, 49]⟩, by decide, fun V => by rw [cell_of_row _ V.heap.size 2 _ _ (0, 0) (heap_alloc_new V _)]; rfl⟩
          · exact ⟨⟨#[119, 119, 119]⟩, by decide, fun V => by rw [cell_of_row _ V.heap.size 3 _ _ (0, 0) (heap_alloc_new V _)]; rfl⟩
        have hck := hcell w2
        have k4 : (k : Int) < 4 := by omega
        have k0 : (0 : Int) ≤ (k : Int) := by omega
        obtain ⟨w4, hw4⟩ : ∃ y, y = (w2.alloc (.cells #[.string ⟨#[97, 108, 112, 104, 97]⟩, .string ⟨#[98, 101, 116, 97]⟩, .string ⟨#[104, 111, 115, 116, 45, 49]⟩, .string ⟨#[119, 119, 119]⟩] 9 (0, 0))).alloc (.cells #[.string t] 9 (0, 0)) := ⟨_, rfl⟩
        have hz4 : w4.heap.size = w2.heap.size + 2 := by rw [hw4]; simp
        have b4 : Below w2.heap.size w2 w4 := by rw [hw4]; exact ((Below.refl _ _).alloc (Nat.le_refl _) _).alloc (by simp) _
        have S4 : Hid (SS w a len cap w4) := S2.out.keep b4
        have G4 : Hid (Grows w.heap.size W w4) := G2.out.trans (below_grows b4)
        have hW2 : W.heap.size ≤ w2.heap.size := G2.out.size
        have hown : w4.ownsRow W.heap.size 9 1 (.slice (some ⟨g, 0, none⟩) ss.length c) ss.length (sCells ss) := O2.out.keep b4
        have hrow4 : w4.heap[w2.heap.size + 1]? = some (.cells #[.string t] 9 (0, 0)) := by rw [hw4]; simpa using heap_alloc_new (w2.alloc (.cells #[.string ⟨#[97, 108, 112, 104, 97]⟩, .string ⟨#[98, 101, 116, 97]⟩, .string ⟨#[104, 111, 115, 116, 45, 49]⟩, .string ⟨#[119, 119, 119]⟩] 9 (0, 0))) (.cells #[.string t] 9 (0, 0))
        have hnews : ∀ j u, [Value.string t][j]? = some u → w4.cell? ((⟨w2.heap.size + 1, 0, none⟩ : Addr).add j) = some u := fun j u hu => by
          have hj : j = 0 := by
            rcases Nat.lt_or_ge j 1 with h | h
            · omega
            · rw [List.getElem?_eq_none (by simpa using h)] at hu; cases hu
          subst hj
          rw [Addr.add_lit, cell_of_row _ (w2.heap.size + 1) 0 _ _ (0, 0) hrow4]
          simpa using hu
        clear b4 S2 G2 O2 hcell hrow4
        go_wp2_with (at_builtin; rw [← hw4]; refine wpList_append_own _ rfl _ _ 23 rfl W.heap.size 9 i0 (.string ⟨#[]⟩) 1 16 Tryz.underlying23 hi0 hz0 hz1 hz2 rfl (by decide) _ _ _ rfl hown ⟨w2.heap.size + 1, 0, none⟩ 1 1 [.string t] rfl ?c0 hnews ?c2 ?c3 ?c4 ?c5 ?_)
        case c0 => simp
        case c2 => simp [Value.oneCell']
        case c3 => unfold maxLen; omega
        case c4 => omega
        case c5 => omega
        intro v' w5 hown' hgrow hnil
        rw [← hw4] at hgrow
        have hgg := hown.lt
        have S5 : Hid (SS w a len cap w5) := S4.out.grown hgrow (fun j hj => by have := (hgg j hj).1; omega)
        have G5 : Hid (Grows w.heap.size W w5) := G4.out.grown hgrow (fun j hj => (hgg j hj).1)
        have hO5 : OwnS w5 W.heap.size v' (ss ++ [t]) := by
          show World.ownsRow _ _ _ _ _ _ _
          rw [List.length_append, sCells, List.map_append]
          exact hown'
        obtain ⟨va, vc, hv, hvc⟩ := hO5.form
        obtain ⟨gv, rfl⟩ : ∃ gv, va = some ⟨gv, 0, none⟩ := by
          rcases hO5.2 with ⟨_, h'⟩ | ⟨gv, cp, cur, e, _⟩
          · simp at h'
          · rw [hv] at e
            simp only [Value.slice.injEq] at e
            exact ⟨gv, e.1⟩
        subst hv
        have O5 : Hid (OwnS w5 W.heap.size (.slice (some ⟨gv, 0, none⟩) (ss ++ [t]).length vc) (ss ++ [t])) := hO5
        have L5 : (ss ++ [t]).length ≤ k + 1 := by simp; omega
        have T5 : Hid (∀ u ∈ ss ++ [t], u.size ≤ 6) := fun u hu => by
          rcases List.mem_append.1 hu with hu | hu
          · exact T1.out u hu
          · rw [List.mem_singleton] at hu; subst hu; exact ht
        generalize ss ++ [t] = ss' at *
        clear hown hown' hgrow hnil hnews hgg hO5 hw4 S4 G4 T1 hck hz4
        go_wp2_with fail
        go_roundw
        case rel => exact ⟨k + 1, gv, vc, ss', by omega, by go_num, rfl, O5.out, L5, T5.out, S5.out, G5.out⟩
        case measure => simp [intOf]; omega
    · go_wp2_with fail
      go_ret
      exact ⟨g, c, ss, rfl, O1.out, by omega, T1.out, S1.out, G1.out⟩
end Go.Proofs.YtegmmaomaegjjaaGreatDoor
namespace Go.Proofs.YtegmmaomaegjjaaGreatDoor
open Go.RowKit

def AnsB (P : Prop) (e : Ending) : Prop := ∃ r : Bool, e = .returned (.bool r) ∧ (r = true ↔ P)
theorem AnsB.yes {P : Prop} {e : Ending} (h : P) (he : e = .returned (.bool true)) : AnsB P e := ⟨true, he, by simp [h]⟩
theorem AnsB.no {P : Prop} {e : Ending} (h : ¬ P) (he : e = .returned (.bool false)) : AnsB P e := ⟨false, he, by simp [h]⟩

def OkN (k : Nat) (n : Int) : Prop := (97 ≤ n ∧ n ≤ 122) ∨ k ≠ 0 ∧ ((48 ≤ n ∧ n ≤ 57) ∨ n = 45)
def OkAt (s : ByteArray) (k : Nat) (h : k < s.size) : Prop := OkN k (s[k].toNat : Int)
def OkTo (s : ByteArray) (k : Nat) : Prop := ∀ j (h : j < s.size), j < k → OkAt s j h
def NameOk (s : ByteArray) : Prop := 1 ≤ s.size ∧ s.size ≤ 40 ∧ OkTo s s.size
theorem okTo_zero (s : ByteArray) : OkTo s 0 := fun j _ h => by omega
theorem okTo_succ (s : ByteArray) (k : Nat) (hk : k < s.size) (h : OkTo s k) (h' : OkAt s k hk) : OkTo s (k + 1) := fun j hj hlt => by
  by_cases e : j = k
  · subst e; exact h'
  · exact h j hj (by omega)
theorem name_no (s : ByteArray) (k : Nat) (hk : k < s.size) (h' : ¬ OkAt s k hk) : ¬ NameOk s := fun h => h' (h.2.2 k hk hk)
def Cls (n : Int) (a z d0 d9 m : Bool) : Prop := decide (97 ≤ n) = a ∧ decide (n ≤ 122) = z ∧ decide (48 ≤ n) = d0 ∧ decide (n ≤ 57) = d9 ∧ (n != 45) = m
theorem cls (n : Int) : n < 45 ∧ Cls n false true false true true ∨ (45 ≤ n ∧ n ≤ 45) ∧ Cls n false true false true false ∨ (46 ≤ n ∧ n ≤ 47) ∧ Cls n false true false true true ∨
    (48 ≤ n ∧ n ≤ 57) ∧ Cls n false true true true true ∨ (58 ≤ n ∧ n ≤ 96) ∧ Cls n false true true false true ∨ (97 ≤ n ∧ n ≤ 122) ∧ Cls n true true true false true ∨ 123 ≤ n ∧ Cls n true false true false true := by
  have h : n < 45 ∨ (45 ≤ n ∧ n ≤ 45) ∨ (46 ≤ n ∧ n ≤ 47) ∨ (48 ≤ n ∧ n ≤ 57) ∨ (58 ≤ n ∧ n ≤ 96) ∨ (97 ≤ n ∧ n ≤ 122) ∨ 123 ≤ n := by omega
  unfold Cls
  simp only [decide_eq_true_eq, decide_eq_false_iff_not, bne_iff_ne, bne_eq_false_iff_eq]
  omega

set_option maxHeartbeats 1000000 in
theorem specName (s : ByteArray) (w : World) (hs : s.size ≤ maxLen) :
    Calls Tryz.prog 60 #[.string s] w fun e w' => AnsB (NameOk s) e ∧ w' = w := by
  unfold maxLen at hs
  by_cases h1 : s.size < 1
  · go_enter Tryz.func60, Tryz.ntmps60
    go_wp2
    go_ret
    exact ⟨AnsB.no (fun h => by have := h.1; omega) rfl, rfl⟩
  by_cases h2 : 40 < s.size
  · go_enter Tryz.func60, Tryz.ntmps60
    go_wp2
    go_ret
    exact ⟨AnsB.no (fun h => by have := h.2.1; omega) rfl, rfl⟩
  go_enter Tryz.func60, Tryz.ntmps60
  go_wp2
  go_loop [3] (fun i => ∃ k : Nat, k ≤ s.size ∧ i = .int .i64 k ∧ OkTo s k) (fun i => s.size - (intOf i).toNat)
  case atStart => exact ⟨0, Nat.zero_le _, rfl, okTo_zero s⟩
  case round =>
    obtain ⟨k, hk, rfl, hok⟩ := hrel
    have HO : Hid (OkTo s k) := hok
    clear hok
    by_cases hlt : k < s.size
    · by_cases hk0 : k < 1
      · obtain rfl : k = 0 := by omega
        rcases cls (s[0].toNat : Int) with ⟨c, e1, e2, e3, e4, e5⟩ | ⟨c, e1, e2, e3, e4, e5⟩ | ⟨c, e1, e2, e3, e4, e5⟩ | ⟨c, e1, e2, e3, e4, e5⟩ | ⟨c, e1, e2, e3, e4, e5⟩ | ⟨c, e1, e2, e3, e4, e5⟩ | ⟨c, e1, e2, e3, e4, e5⟩
        all_goals
          go_wp2
          first
            | (go_ret; exact ⟨AnsB.no (name_no s 0 hlt (by unfold OkAt OkN; omega)) rfl, rfl⟩)
            | exact ⟨⟨1, by omega, rfl, okTo_succ s 0 hlt HO.out (by unfold OkAt OkN; omega)⟩, by simp [intOf]; omega⟩
      · have ek : ((k : Int) == 0) = false := by simp; omega
        rcases cls (s[k].toNat : Int) with ⟨c, e1, e2, e3, e4, e5⟩ | ⟨c, e1, e2, e3, e4, e5⟩ | ⟨c, e1, e2, e3, e4, e5⟩ | ⟨c, e1, e2, e3, e4, e5⟩ | ⟨c, e1, e2, e3, e4, e5⟩ | ⟨c, e1, e2, e3, e4, e5⟩ | ⟨c, e1, e2, e3, e4, e5⟩
        all_goals
          go_wp2
          first
            | (go_ret; exact ⟨AnsB.no (name_no s k hlt (by unfold OkAt OkN; omega)) rfl, rfl⟩)
            | exact ⟨⟨k + 1, by omega, by go_num, okTo_succ s k hlt HO.out (by unfold OkAt OkN; omega)⟩, by simp [intOf]; omega⟩
    · go_wp2
      go_ret
      have e : k = s.size := by omega
      have hf := HO.out
      rw [e] at hf
      exact ⟨AnsB.yes ⟨by omega, by omega, hf⟩ rfl, rfl⟩
end Go.Proofs.YtegmmaomaegjjaaGreatDoor
namespace Go.Proofs.YtegmmaomaegjjaaGreatDoor

def secB (x : Int) : Bool := decide (1 ≤ x ∧ x < 1073741789)
end Go.Proofs.YtegmmaomaegjjaaGreatDoor
namespace Go.Proofs.YtegmmaomaegjjaaGreatDoor
open Go.RowKit

/-- A power modulo m. -/
def pm (a n m : Nat) : Nat := a ^ n % m
theorem pm_lt (a n : Nat) {m : Nat} (h : 2 ≤ m) : pm a n m < m := Nat.mod_lt _ (by omega)
theorem pm_zero (a : Nat) {m : Nat} (h : 2 ≤ m) : pm a 0 m = 1 := by
  unfold pm; rw [Nat.pow_zero]; exact Nat.mod_eq_of_lt (by omega)
theorem pm_one (a m : Nat) : pm a 1 m = a % m := by unfold pm; rw [Nat.pow_one]
theorem pm_two (a m : Nat) : pm a 2 m = a * a % m := by unfold pm; rw [Nat.pow_two]
theorem pm_base (a n m : Nat) : pm (a % m) n m = pm a n m := by unfold pm; exact (Nat.pow_mod a n m).symm
theorem mm (a b m : Nat) : a % m * (b % m) % m = a * b % m := (Nat.mul_mod a b m).symm
theorem pm_mul (y a b p : Nat) : pm y a p * pm y b p % p = pm y (a + b) p := by
  unfold pm; rw [mm, ← Nat.pow_add]
theorem pm_pm (y a b p : Nat) : pm (pm y a p) b p = pm y (a * b) p := by
  unfold pm; rw [← Nat.pow_mod, ← Nat.pow_mul]
theorem pm_unit {y q p : Nat} (hp : 2 ≤ p) (h : pm y q p = 1) (n : Nat) : pm y (q * n) p = 1 := by
  rw [← pm_pm, h]
  unfold pm
  rw [Nat.one_pow]
  exact Nat.mod_eq_of_lt (by omega)
theorem pm_red {y q p : Nat} (hp : 2 ≤ p) (h : pm y q p = 1) (n : Nat) : pm y (n % q) p = pm y n p := by
  conv => rhs; rw [← Nat.div_add_mod n q]
  rw [← pm_mul, pm_unit hp h, Nat.one_mul]
  exact (Nat.mod_eq_of_lt (pm_lt y _ hp)).symm
/-- A power of what comes round at q comes round at q. -/
theorem pm_in {y q p : Nat} (hp : 2 ≤ p) (h : pm y q p = 1) (n : Nat) : pm (pm y n p) q p = 1 := by
  rw [pm_pm, Nat.mul_comm, pm_unit hp h]
/-- What comes round is no multiple of the modulus. -/
theorem pm_pos {y q p : Nat} (hq : 1 ≤ q) (h : pm y q p = 1) : 1 ≤ y % p := by
  rcases Nat.eq_zero_or_pos (y % p) with e | e
  · rw [← pm_base, e] at h
    unfold pm at h
    rw [Nat.zero_pow (by omega)] at h
    simp at h
  · exact e

/-- What the rounds keep: all times square to what is left is the power that is asked for. -/
def PowInv (A N m out a n : Nat) : Prop := out < m ∧ out * a ^ n % m = pm A N m
theorem PowInv.start (A N : Nat) {m : Nat} (h : 2 ≤ m) : PowInv A N m 1 A N := ⟨by omega, by rw [Nat.one_mul]; rfl⟩
theorem PowInv.start' (A N : Nat) {m : Nat} (h : 2 ≤ m) : PowInv A N m 1 (A % m) N := ⟨by omega, by rw [Nat.one_mul, ← Nat.pow_mod]; rfl⟩
theorem PowInv.done {A N m out a : Nat} (h : PowInv A N m out a 0) : out = pm A N m := by
  have := h.2; rw [Nat.pow_zero, Nat.mul_one, Nat.mod_eq_of_lt h.1] at this; exact this
theorem half_even {n : Nat} (e : n % 2 = 0) (a : Nat) : a ^ n = (a * a) ^ (n / 2) := by
  rw [← Nat.pow_two, ← Nat.pow_mul, show 2 * (n / 2) = n from by omega]
theorem half_odd {n : Nat} (e : n % 2 = 1) (a : Nat) : a ^ n = a * (a * a) ^ (n / 2) := by
  rw [← Nat.pow_two, ← Nat.pow_mul, Nat.mul_comm a, ← Nat.pow_succ, show (2 * (n / 2)).succ = n from by omega]
theorem PowInv.even {A N m out a n : Nat} (e : n % 2 = 0) (h : PowInv A N m out a n) : PowInv A N m out (a * a % m) (n / 2) := by
  refine ⟨h.1, ?_⟩
  rw [← h.2, half_even e, Nat.mul_mod, ← Nat.pow_mod, ← Nat.mul_mod]
theorem PowInv.odd {A N m out a n : Nat} (hm : 2 ≤ m) (e : n % 2 = 1) (h : PowInv A N m out a n) : PowInv A N m (out * a % m) (a * a % m) (n / 2) := by
  refine ⟨Nat.mod_lt _ (by omega), ?_⟩
  rw [← h.2, half_odd e, Nat.mul_mod, ← Nat.pow_mod, Nat.mod_mod, ← Nat.mul_mod, Nat.mul_assoc]
end Go.Proofs.YtegmmaomaegjjaaGreatDoor
namespace Go.Proofs.YtegmmaomaegjjaaGreatDoor
open Go.RowKit

/-- A power modulo m, reckoned quickly: f rounds at most. -/
def qp : Nat → Nat → Nat → Nat → Nat → Nat
  | 0, _, _, _, out => out
  | f + 1, a, n, m, out => if n = 0 then out else qp f (a * a % m) (n / 2) m (if n % 2 = 1 then out * a % m else out)
theorem qp_inv {A N m : Nat} (hm : 2 ≤ m) : ∀ (f a n out : Nat), n < 2 ^ f → PowInv A N m out a n → qp f a n m out = pm A N m
  | 0, a, n, out, h, k => by
    have : n = 0 := by simp at h; omega
    subst this
    exact k.done
  | f + 1, a, n, out, h, k => by
    rw [qp]
    by_cases h0 : n = 0
    · subst h0
      rw [if_pos rfl]
      exact k.done
    · rw [if_neg h0]
      have hn : n / 2 < 2 ^ f := by rw [Nat.pow_succ] at h; omega
      by_cases e : n % 2 = 1
      · rw [if_pos e]
        exact qp_inv hm f _ _ _ hn (k.odd hm e)
      · rw [if_neg e]
        exact qp_inv hm f _ _ _ hn (k.even (by omega))
theorem qp_pm (a n : Nat) {m : Nat} (hm : 2 ≤ m) (f : Nat) (h : n < 2 ^ f) : pm a n m = qp f a n m 1 := (qp_inv hm f a n 1 h (PowInv.start a n hm)).symm
theorem pm4 : pm 4 1073741789 2147483579 = 1 := by
  rw [qp_pm 4 1073741789 (by omega) 31 (by decide)]
  decide +kernel
/-- No number from 2 to the root of q divides q. -/
def noDiv (q : Nat) : Nat → Bool
  | 0 => true
  | d + 1 => decide (q % (d + 2) ≠ 0) && noDiv q d
theorem noDiv_at {q : Nat} : ∀ {n d : Nat}, noDiv q n = true → 2 ≤ d → d < n + 2 → q % d ≠ 0
  | 0, d, _, h2, h3 => by omega
  | n + 1, d, h, h2, h3 => by
    simp only [noDiv, Bool.and_eq_true, decide_eq_true_eq] at h
    by_cases e : d = n + 2
    · subst e; exact h.1
    · exact noDiv_at h.2 h2 (by omega)
theorem noDivQ : noDiv 1073741789 32767 = true := by decide +kernel
theorem primeQ {d : Nat} (h : d ∣ 1073741789) (hl : d < 1073741789) : d = 1 := by
  obtain ⟨e, he⟩ := h
  by_cases d1 : d = 1
  · exact d1
  exfalso
  have d0 : d ≠ 0 := by intro h; subst h; simp at he
  have e0 : e ≠ 0 := by intro h; subst h; simp at he
  have e1 : e ≠ 1 := by intro h; subst h; simp at he; omega
  by_cases hd : d < 32769
  · exact noDiv_at noDivQ (d := d) (by omega) (by omega) (by rw [he]; exact Nat.mul_mod_right d e)
  by_cases hq : e < 32769
  · exact noDiv_at noDivQ (d := e) (by omega) (by omega) (by rw [he]; exact Nat.mul_mod_left d e)
  have : 32769 * 32769 ≤ d * e := Nat.mul_le_mul (by omega) (by omega)
  omega
theorem pm_gcd {y p : Nat} (hp : 2 ≤ p) : ∀ (a b : Nat), pm y a p = 1 → pm y b p = 1 → pm y (Nat.gcd a b) p = 1 := by
  intro a b
  induction a, b using Nat.gcd.induction with
  | H0 n => intro _ h; rw [Nat.gcd_zero_left]; exact h
  | H1 m n hm ih =>
    intro h1 h2
    rw [Nat.gcd_rec]
    exact ih (by rw [pm_red hp h1]; exact h2) h1
/-- A power of 4 that is 1 is none from 1 to q less 1. -/
theorem pm4_ne {x : Nat} (h1 : 1 ≤ x) (h2 : x < 1073741789) : pm 4 x 2147483579 ≠ 1 := by
  intro h
  have hg := pm_gcd (y := 4) (p := 2147483579) (by omega) x 1073741789 h pm4
  have hd : Nat.gcd x 1073741789 = 1 := primeQ (Nat.gcd_dvd_right _ _) (Nat.lt_of_le_of_lt (Nat.gcd_le_left _ (by omega)) h2)
  rw [hd, pm_one] at hg
  omega
theorem pm_prod (a b n p : Nat) : pm (a * b % p) n p = pm a n p * pm b n p % p := by
  unfold pm
  rw [← Nat.pow_mod, Nat.mul_pow, ← Nat.mul_mod]
/-- What a signature leads to: the power that it was made with. -/
theorem sig_back {g q p k e x : Nat} (hp : 2 ≤ p) (hg : pm g q p = 1) (he : e < q) :
    pm g ((k + e * x) % q) p * pm (pm g x p) (q - e) p % p = pm g k p := by
  rw [pm_red hp hg, pm_pm, pm_mul]
  have h1 : e * x + x * (q - e) = q * x := by
    rw [Nat.mul_comm e x, ← Nat.mul_add, show e + (q - e) = q from by omega, Nat.mul_comm]
  rw [Nat.add_assoc, h1, ← pm_mul, pm_unit hp hg, Nat.mul_one]
  exact Nat.mod_eq_of_lt (pm_lt g _ hp)
end Go.Proofs.YtegmmaomaegjjaaGreatDoor
namespace Go.Proofs.YtegmmaomaegjjaaGreatDoor
open Go.RowKit

/-- A product of two remainders, as the walk has it. -/
theorem prod_bd (a b : Nat) (ha : a ≤ 2147483647) (hb : b ≤ 2147483647) : ∃ p : Nat, p = a * b ∧ (a : Int) * (b : Int) = (p : Int) ∧ (0 : Int) ≤ (p : Int) ∧ (p : Int) ≤ 4611686018427387904 := by
  refine ⟨a * b, rfl, by rw [Int.natCast_mul], by omega, ?_⟩
  have : a * b ≤ 2147483647 * 2147483647 := Nat.mul_le_mul ha hb
  omega
theorem tmodN (p m : Nat) : (p : Int).tmod (m : Int) = ((p % m : Nat) : Int) := by
  rw [Int.tmod_eq_emod_of_nonneg (Int.natCast_nonneg _)]; rfl

end Go.Proofs.YtegmmaomaegjjaaGreatDoor
namespace Go.Proofs.YtegmmaomaegjjaaGreatDoor
open Go.RowKit

theorem i64_and1 (n : Int) : bits .and .i64 n 1 = n % 2 := by
  have h1 : (BitVec.ofInt 64 1).toNat = 2 ^ 1 - 1 := by decide
  have key : (BitVec.ofInt 64 n &&& BitVec.ofInt 64 1).toNat = (n % ((2 ^ 64 : Nat) : Int)).toNat % 2 ^ 1 := by
    rw [BitVec.toNat_and, BitVec.toNat_ofInt, h1, Nat.and_two_pow_sub_one_eq_mod]
  show IntKind.i64.wrap ((BitVec.ofInt 64 n &&& BitVec.ofInt 64 1).toNat : Nat) = n % 2
  rw [key, IntKind.wrap_i64]
  omega
/-- What 'modulo' answers: a function that keeps the modulus in block g. -/
def restV (g : Nat) : Value := .func (.func 141) #[] #[.pointer (some ⟨g, 0, none⟩)]
theorem implModulo (m : Int) (w : World) :
    Calls Tryz.prog 122 #[.int .i64 m] w fun e w' => e = .returned (restV w.heap.size) ∧ w' = w.alloc (.cells #[.int .i64 m] 2 (0, 0)) := by
  have hmf : ∀ (fn : Fn) (first cap : Array Value) (w : World), (Instr.makeFunc fn first cap).run Tryz.prog w = .ok (.func fn first cap) w := fun _ _ _ _ => rfl
  go_enter Tryz.func122, Tryz.ntmps122
  go_wp2
  go_ret
  exact ⟨rfl, rfl⟩
theorem implRest (g n m : Nat) (w : World) (hm : 2 ≤ m) (hm2 : m ≤ 2147483647) (hc : w.cell? ⟨g, 0, none⟩ = some (.int .i64 (m : Int))) :
    Calls Tryz.prog 141 #[.int .i64 (n : Int), .pointer (some ⟨g, 0, none⟩)] w fun e w' => e = .returned (.int .i64 ((n % m : Nat) : Int)) ∧ w' = w := by
  have e2 := tmodN n m
  have h0 : ((m : Int) == 0) = false := by rw [beq_eq_false_iff_ne]; omega
  go_enter Tryz.func141, Tryz.ntmps141
  go_wp2
  go_ret
  exact ⟨rfl, rfl⟩
set_option maxHeartbeats 1000000 in
set_option maxRecDepth 100000 in
theorem implProduct (g a b m : Nat) (w : World) (hm : 2 ≤ m) (hm2 : m ≤ 2147483647) (hc : w.cell? ⟨g, 0, none⟩ = some (.int .i64 (m : Int))) :
    Calls Tryz.prog 140 #[.int .i64 (a : Int), .int .i64 (b : Int), restV g] w fun e w' => e = .returned (.int .i64 ((a * b % m : Nat) : Int)) ∧ w' = w := by
  obtain ⟨p, hp, ep, lp, up⟩ := prod_bd (a % m) (b % m) (by have := Nat.mod_lt a (show 0 < m by omega); omega) (by have := Nat.mod_lt b (show 0 < m by omega); omega)
  have hfin : p % m = a * b % m := by rw [hp]; exact mm a b m
  have HF : Hid (p % m = a * b % m) := hfin
  rw [Int.natCast_emod, Int.natCast_emod] at ep
  have t1 := tmodN a m
  have t2 := tmodN b m
  have t3 := tmodN p m
  have h0 : ((m : Int) == 0) = false := by rw [beq_eq_false_iff_ne]; omega
  clear hfin hp
  unfold restV
  go_enter Tryz.func140, Tryz.ntmps140
  go_wp2
  go_ret
  exact ⟨ret_int (by rw [← HF.out]; rfl), rfl⟩
end Go.Proofs.YtegmmaomaegjjaaGreatDoor
namespace Go.Proofs.YtegmmaomaegjjaaGreatDoor
open Go.RowKit

/-- Is it a modulus? -/
def modB (m : Int) : Bool := decide (2 ≤ m ∧ m ≤ 2147483647)
theorem modB_nat {m : Int} (h : modB m = true) : ∃ k : Nat, m = (k : Int) ∧ 2 ≤ k ∧ k ≤ 2147483647 := by
  unfold modB at h
  have := of_decide_eq_true h
  exact ⟨m.toNat, by omega, by omega, by omega⟩
def mulA (a b m : Int) : Int := if 0 ≤ a ∧ 0 ≤ b ∧ modB m = true then ((a.toNat * b.toNat % m.toNat : Nat) : Int) else 0
def powA (a n m : Int) : Int := if 0 ≤ a ∧ 0 ≤ n ∧ modB m = true then ((pm a.toNat n.toNat m.toNat : Nat) : Int) else 0
def invA (a m : Int) : Int := if modB m = true ∧ 1 ≤ a ∧ a < m then ((pm a.toNat (m.toNat - 2) m.toNat : Nat) : Int) else 0
theorem mulA_nat (a b k : Nat) (h : modB (k : Int) = true) : mulA a b k = ((a * b % k : Nat) : Int) := by
  rw [mulA, if_pos ⟨by omega, by omega, h⟩]; simp
theorem powA_nat (a n k : Nat) (h : modB (k : Int) = true) : powA a n k = ((pm a n k : Nat) : Int) := by
  rw [powA, if_pos ⟨by omega, by omega, h⟩]; simp
theorem invA_nat (a k : Nat) (h : modB (k : Int) = true) (h1 : 1 ≤ a) (h2 : a < k) : invA a k = ((pm a (k - 2) k : Nat) : Int) := by
  rw [invA, if_pos ⟨h, by omega, by omega⟩]; simp
theorem nat_of {a : Int} (h : ¬ a < 0) : ∃ n : Nat, a = (n : Int) := ⟨a.toNat, by omega⟩

theorem implModRight (m : Int) (w : World) :
    Calls Tryz.prog 120 #[.int .i64 m] w fun e w' => e = .returned (.bool (modB m)) ∧ w' = w := by
  by_cases h1 : 2 ≤ m
  · by_cases h2 : m ≤ 2147483647
    · have e : modB m = true := decide_eq_true ⟨h1, h2⟩
      rw [e]
      go_enter Tryz.func120, Tryz.ntmps120
      go_wp2
      go_ret
      exact ⟨rfl, rfl⟩
    · have e : modB m = false := decide_eq_false (by omega)
      rw [e]
      go_enter Tryz.func120, Tryz.ntmps120
      go_wp2
      go_ret
      exact ⟨rfl, rfl⟩
  · have e : modB m = false := decide_eq_false (by omega)
    rw [e]
    go_enter Tryz.func120, Tryz.ntmps120
    go_wp2
    go_ret
    exact ⟨rfl, rfl⟩
theorem allocBelow (w : World) (o : Obj) : Below w.heap.size w (w.alloc o) := (Below.refl _ w).alloc (Nat.le_refl _) o
theorem newCell (w : World) (v : Value) (t : TypeId) : (w.alloc (.cells #[v] t (0, 0))).cell? ⟨w.heap.size, 0, none⟩ = some v := by simp
end Go.Proofs.YtegmmaomaegjjaaGreatDoor
namespace Go.Proofs.YtegmmaomaegjjaaGreatDoor
open Go.RowKit

set_option maxHeartbeats 1000000 in
set_option maxRecDepth 100000 in
theorem implPower (g a n m : Nat) (w : World) (hm : 2 ≤ m) (hm2 : m ≤ 2147483647) (hn : n ≤ 9223372036854775807) (hc : w.cell? ⟨g, 0, none⟩ = some (.int .i64 (m : Int))) :
    Calls Tryz.prog 121 #[.int .i64 (a : Int), .int .i64 (n : Int), restV g] w fun e w' => e = .returned (.int .i64 ((pm a n m : Nat) : Int)) ∧ w' = w := by
  have HI : Hid (PowInv a n m 1 a n) := PowInv.start a n hm
  go_enter Tryz.func121, Tryz.ntmps121
  go_wp2_with fail
  go_loopw [1, 7, 8] (fun y z x wr => ∃ (b k o : Nat), x = .int .i64 (b : Int) ∧ y = .int .i64 (k : Int) ∧ z = .int .i64 (o : Int) ∧ k ≤ 9223372036854775807 ∧ Hid (PowInv a n m o b k) ∧ wr = w)
    (fun y _ _ _ => (intOf y).toNat)
  case atStart => exact ⟨a, n, 1, rfl, rfl, rfl, hn, HI, rfl⟩
  case round =>
    clear HI
    obtain ⟨b, k, o, rfl, rfl, rfl, hk, hinv, rfl⟩ := hrel
    have HC : Hid (∀ o b : Nat, Calls Tryz.prog 140 #[.int .i64 (o : Int), .int .i64 (b : Int), restV g] wr fun e w' => e = .returned (.int .i64 ((o * b % m : Nat) : Int)) ∧ w' = wr) := fun o b => implProduct g o b m wr hm hm2 hc
    clear hc
    by_cases h : k = 0
    · subst h
      have hd := hinv.out.done
      clear hinv
      subst hd
      go_wp2
      go_ret
      exact ⟨rfl, rfl⟩
    · have q0 : (0 : Int) < (k : Int) := by omega
      have hkl : k / 2 ≤ 9223372036854775807 := by omega
      by_cases hodd : k % 2 = 1
      · have HN : Hid (PowInv a n m (o * b % m) (b * b % m) (k / 2)) := hinv.out.odd hm hodd
        have t3 : bits BinOp.and IntKind.i64 (k : Int) 1 = 1 := by rw [i64_and1]; omega
        clear hinv hodd
        go_wp2_with fail
        refine (HC.out o b).mono ?_
        rintro e w' ⟨rfl, rfl⟩
        generalize o * b % m = x at *
        go_wp2_with fail
        refine (HC.out b b).mono ?_
        rintro e w' ⟨rfl, rfl⟩
        generalize b * b % m = y at *
        go_wp2
        go_roundw
        case rel => exact ⟨y, k / 2, x, rfl, rfl, rfl, hkl, HN, trivial⟩
        case measure => simp [intOf]; omega
      · have HN : Hid (PowInv a n m o (b * b % m) (k / 2)) := hinv.out.even (by omega)
        have t3 : bits BinOp.and IntKind.i64 (k : Int) 1 = 0 := by rw [i64_and1]; omega
        clear hinv hodd
        go_wp2_with fail
        refine (HC.out b b).mono ?_
        rintro e w' ⟨rfl, rfl⟩
        generalize b * b % m = y at *
        go_wp2
        go_roundw
        case rel => exact ⟨y, k / 2, o, rfl, rfl, rfl, hkl, HN, trivial⟩
        case measure => simp [intOf]; omega
end Go.Proofs.YtegmmaomaegjjaaGreatDoor
namespace Go.Proofs.YtegmmaomaegjjaaGreatDoor
open Go.RowKit

set_option maxHeartbeats 1000000 in
set_option maxRecDepth 100000 in
theorem implModPow (a n m : Int) (w : World) (hn : n ≤ 9223372036854775807) :
    Calls Tryz.prog 101 #[.int .i64 a, .int .i64 n, .int .i64 m] w fun e w' => e = .returned (.int .i64 (powA a n m)) ∧ Below w.heap.size w w' := by
  by_cases h1 : a < 0
  · have ea : Hid (powA a n m = 0) := by
      show _ = _
      rw [powA, if_neg (by omega)]
    go_enter Tryz.func101, Tryz.ntmps101
    go_wp2
    go_ret
    exact ⟨ret_int ea.out.symm, Below.refl _ _⟩
  by_cases h2 : n < 0
  · have ea : Hid (powA a n m = 0) := by
      show _ = _
      rw [powA, if_neg (by omega)]
    go_enter Tryz.func101, Tryz.ntmps101
    go_wp2
    go_ret
    exact ⟨ret_int ea.out.symm, Below.refl _ _⟩
  by_cases h3 : modB m = true
  · obtain ⟨k, rfl, k1, k2⟩ := modB_nat h3
    obtain ⟨x, rfl⟩ := nat_of h1
    obtain ⟨y, rfl⟩ := nat_of h2
    rw [powA_nat x y k h3]
    clear h1 h2
    generalize hz : pm x y k = z
    go_enter Tryz.func101, Tryz.ntmps101
    go_wp2_with fail
    refine (implModRight k w).mono ?_
    rintro e w' ⟨rfl, rfl⟩
    rw [h3]
    go_wp2_with fail
    refine (implModulo k _).mono ?_
    rintro e w' ⟨rfl, rfl⟩
    go_wp2_with fail
    refine (implPower _ x y k _ k1 k2 (by omega) (newCell _ _ _)).mono ?_
    rintro e w' ⟨rfl, rfl⟩
    rw [hz]
    clear hz
    go_wp2
    go_ret
    exact ⟨rfl, allocBelow _ _⟩
  · rw [Bool.not_eq_true] at h3
    have ea : Hid (powA a n m = 0) := by
      show _ = _
      rw [powA, if_neg (by rw [h3]; simp)]
    go_enter Tryz.func101, Tryz.ntmps101
    go_wp2_with fail
    refine (implModRight m w).mono ?_
    rintro e w' ⟨rfl, rfl⟩
    rw [h3]
    go_wp2
    go_ret
    exact ⟨ret_int ea.out.symm, Below.refl _ _⟩
end Go.Proofs.YtegmmaomaegjjaaGreatDoor
