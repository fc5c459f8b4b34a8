/- spec.l05All, walked. A row of things in memory. A whole variable of many cells, stored. No program is named. spec's readers: what one is in memory; take, walked. spec.l06Open, and the readers' method in, walked. spec.l05Bytes, walked. -/
import Derived.Test.YtfliacfeebooeaaGreatDoorCR08
import Derived.Test.YtfliacfeebooeaaGreatDoorCR03
import Derived.Test.YtfliacfeebooeaaGreatDoorCR02
import Derived.Test.YtfliacfeebooeaaGreatDoorCR05
import Derived.Deep.Cut
import Derived.Deep.RegionHeld3
import Derived.Test.YtfliacfeebooeaaGreatDoorCR01
namespace Go.Proofs.YtfliacfeebooeaaGreatDoor
open Go.RowKit

set_option maxHeartbeats 2000000 in
set_option maxRecDepth 100000 in
theorem specAll (s : ByteArray) (w : World) (hs : s.size ≤ 20000) :
    Calls Tryz.prog 44 #[.string s] w fun e w' => ∃ v, e = .returned (.agg #[v, .int .i64 (allR s (s.size + 1) 0 []).2]) ∧ OwnT w' w.heap.size v (allR s (s.size + 1) 0 []).1 ∧ Below w.heap.size w w' := by
  obtain ⟨i0, hi, hz0, hz1, hz2⟩ := info_parts infoTlv
  obtain ⟨R, hR⟩ : ∃ R, R = allR s (s.size + 1) 0 [] := ⟨_, rfl⟩
  rw [← hR]
  have HR : Hid (R = allR s (s.size + 1) 0 []) := hR
  clear hR
  go_enter Tryz.func44, Tryz.ntmps44
  go_wp2_with fail
  go_loopw [4] (fun a wr => ∃ (k f : Nat) (acc : List (Int × ByteArray)) (v : Value), a = .int .i64 (k : Int) ∧ k ≤ s.size ∧ s.size < k + f ∧ acc.length ≤ 60 ∧ allR s f k acc = R ∧
      wr.heap[w.heap.size]? = some (.cells [.slice none 0 0, .int .i64 0].toArray 53 (0, 0)) ∧ wr.heap[w.heap.size + 1]? = some (.cells [v, .int .i64 0].toArray 53 (0, 0)) ∧
      OwnT wr (w.heap.size + 2) v acc ∧ Below w.heap.size w wr ∧ w.heap.size + 2 ≤ wr.heap.size)
    (fun a _ => s.size - (intOf a).toNat)
  case atStart =>
    refine ⟨0, s.size + 1, [], .slice none 0 0, rfl, Nat.zero_le _, by omega, by simp, HR.out.symm, ?_, heap_alloc2 w _ _, ⟨rfl, .inl ⟨rfl, rfl⟩⟩, ((Below.refl _ _).alloc (Nat.le_refl _) _).alloc (by simp) _, by simp⟩
    rw [Below.heap_alloc _ _ _ (by simp)]
    exact heap_alloc_new w _
  case round =>
    obtain ⟨k, f, acc, v, rfl, hk, hf, hacc, hall, hr0, hr1, hown, hbel, hsz⟩ := hrel
    have HAll : Hid (allR s f k acc = R) := hall
    have HR0 : Hid (wr.heap[w.heap.size]? = some (.cells [.slice none 0 0, .int .i64 0].toArray 53 (0, 0))) := hr0
    have HR1 : Hid (wr.heap[w.heap.size + 1]? = some (.cells [v, .int .i64 0].toArray 53 (0, 0))) := hr1
    have HO : Hid (OwnT wr (w.heap.size + 2) v acc) := hown
    have HB : Hid (Below w.heap.size w wr) := hbel
    clear hall hr0 hr1 hown hbel HR
    by_cases hlt : k < s.size
    · have HG : Hid (∀ V : World, Calls Tryz.prog 78 #[.string s, .int .i64 (k : Int)] V fun e w' => e = .returned (getAt s k).val ∧ Below V.heap.size V w') := fun V => specGetAt s k V hs
      have HAt : Hid ((getAt s k).code = 0 → k + 2 ≤ (getAt s k).at'.toNat ∧ (getAt s k).at'.toNat ≤ s.size ∧ 0 ≤ (getAt s k).at') := getAt_at
      obtain ⟨f', rfl⟩ : ∃ f', f = f' + 1 := ⟨f - 1, by omega⟩
      have HBad : Hid ((getAt s k).code ≠ 0 → R = ([], (getAt s k).code)) := fun h => by rw [← HAll.out, allR_bad hlt h]
      have HFull : Hid ((getAt s k).code = 0 → 60 ≤ acc.length → R = ([], 11)) := fun h h' => by rw [← HAll.out, allR_full hlt h h']
      have HMore : Hid ((getAt s k).code = 0 → acc.length < 60 → allR s f' (getAt s k).at'.toNat (acc ++ [((getAt s k).tag, (getAt s k).body)]) = R) := fun h h' => by rw [← HAll.out, allR_more hlt h h']
      generalize getAt s k = g at *
      obtain ⟨g0, g1, g2, g3⟩ := g
      clear HAll
      unfold GetR.val at HG
      simp only at HG HAt HBad HFull HMore
      go_wp2_with fail
      refine (HG.out _).mono ?_
      rintro e w1 ⟨rfl, hb1⟩
      have HB1 : Hid (Below w.heap.size w w1) := HB.out.trans (hb1.mono (by omega))
      have hs1 := hb1.size
      have HX0 : Hid (w1.heap[w.heap.size]? = some (.cells [.slice none 0 0, .int .i64 0].toArray 53 (0, 0))) := by show _ = _; rw [hb1.block _ (by omega)]; exact HR0.out
      have HX1 : Hid (w1.heap[w.heap.size + 1]? = some (.cells [v, .int .i64 0].toArray 53 (0, 0))) := by show _ = _; rw [hb1.block _ (by omega)]; exact HR1.out
      have HO1 : Hid (OwnT w1 (w.heap.size + 2) v acc) := OwnT.keep HO.out hb1
      clear hb1 HR0 HR1 HO HB HG
      obtain ⟨⟨c0, c1⟩, f0, f1⟩ := cells2 HX0.out
      obtain ⟨⟨d0, d1⟩, e0, e1⟩ := cells2 HX1.out
      have hl0 : w.heap.size < w1.heap.size := by omega
      have hl1 : w.heap.size + 1 < w1.heap.size := by omega
      by_cases hc : g3 = 0
      rotate_left
      · have HF : Hid (R = ([], g3)) := HBad.out hc
        have ec : (g3 != 0) = true := by rw [bne_iff_ne]; exact hc
        clear hc d0 d1 e0 e1
        go_wp2_with fail
        refine bodyPost_ret (v := .agg #[.slice none 0 0, .int .i64 g3]) (by simp [results, Tryz.results44, go_sem, c0, c1, hl0]) rfl ⟨.slice none 0 0, ?_, ?_, ?_⟩
        · rw [HF.out]
        · rw [HF.out]; exact ownT_nil _ _
        · repeat (first | exact HB1.out | refine Below.setCell ?_ (by simp) _ | refine Below.alloc ?_ (by simp <;> omega) _)
      obtain ⟨at1, at2, at3⟩ := HAt.out hc
      obtain ⟨va, vc, hv⟩ := OwnT.form HO1.out
      by_cases h60 : 60 ≤ acc.length
      · have HF : Hid (R = ([], 11)) := HFull.out hc h60
        subst hv
        subst hc
        go_wp2_with fail
        refine bodyPost_ret (v := .agg #[.slice none 0 0, .int .i64 11]) (by simp [results, Tryz.results44, go_sem, c0, c1, hl0]) rfl ⟨.slice none 0 0, ?_, ?_, ?_⟩
        · rw [HF.out]
        · rw [HF.out]; exact ownT_nil _ _
        · repeat (first | exact HB1.out | refine Below.setCell ?_ (by simp) _ | refine Below.alloc ?_ (by simp <;> omega) _)
      · have HF := HMore.out hc (by omega)
        have HF : Hid (allR s f' g2.toNat (acc ++ [(g0, g1)]) = R) := HF
        obtain ⟨m, rfl⟩ := Int.eq_ofNat_of_zero_le at3
        subst hv
        subst hc
        clear HMore HFull HBad HAt f0 f1 c0 c1
        have hO : w1.ownsRow (w.heap.size + 2) 68 2 (.slice va acc.length vc) acc.length (tCells acc) := HO1.out
        go_wp2_with (at_builtin; refine wpList_append_own _ rfl _ _ 46 rfl (w.heap.size + 2) 68 i0 (.agg #[.int .i64 0, .string ⟨#[]⟩]) 2 24 Tryz.underlying46 hi hz0 hz1 hz2 rfl (by decide) _ _ _ rfl ((hO.alloc _).alloc _) ⟨w1.heap.size + 1, 0, none⟩ 1 1 [.int .i64 g0, .string g1] rfl rfl ?c1 ?c2 ?c3 ?c4 ?c5 ?_)
        case c1 =>
          intro j u hj
          rw [Addr.add_lit, Nat.zero_add]
          exact rowFacts (cs := [.int .i64 g0, .string g1]) (heap_alloc2 w1 _ _) j u hj
        case c2 => intro u hu; simp at hu; rcases hu with rfl | rfl <;> rfl
        case c3 => unfold maxLen; omega
        case c4 => omega
        case c5 => simp; omega
        intro v' w2 hown' hgrow _
        have hlt2 := fun k hk => hO.lt k hk
        have hB2 : Below w.heap.size w w2 := ((HB1.out.alloc (by omega) _).alloc (by simp; omega) _).grown hgrow (by simp; omega) (fun k hk => by have := (hlt2 k hk).1; omega)
        have hs2 : w1.heap.size + 2 ≤ w2.heap.size := by have := hgrow.size; simp at this; omega
        have HY0 : Hid (w2.heap[w.heap.size]? = some (.cells [.slice none 0 0, .int .i64 0].toArray 53 (0, 0))) := by
          show _ = _
          rw [hgrow.block _ (by simp; omega) (fun e => by have := (hlt2 _ e.symm).1; omega), Below.heap_alloc _ _ _ (by simp; omega), Below.heap_alloc _ _ _ hl0]
          exact HX0.out
        have HY1 : Hid (w2.heap[w.heap.size + 1]? = some (.cells [.slice va acc.length vc, .int .i64 0].toArray 53 (0, 0))) := by
          show _ = _
          rw [hgrow.block _ (by simp; omega) (fun e => by have := (hlt2 _ e.symm).1; omega), Below.heap_alloc _ _ _ (by simp; omega), Below.heap_alloc _ _ _ hl1]
          exact HX1.out
        have hx2 : w2.cell? ⟨w1.heap.size, 2, none⟩ = some (.int .i64 (m : Int)) := by
          have hr : w2.heap[w1.heap.size]? = some (.cells [.int .i64 g0, .string g1, .int .i64 (m : Int), .int .i64 0].toArray 76 (0, 0)) := by
            rw [hgrow.block _ (by simp; omega) (fun e => by have := (hlt2 _ e.symm).2; omega), Below.heap_alloc _ _ _ (by simp)]
            exact heap_alloc_new w1 _
          exact rowFacts hr 2 _ rfl
        have HO2 : Hid (OwnT w2 (w.heap.size + 2) v' (acc ++ [(g0, g1)])) := by
          show World.ownsRow _ _ _ _ _ _ _
          rw [tCells_snoc, List.length_append]
          exact hown'
        obtain ⟨va', vc', hv'⟩ := OwnT.form HO2.out
        rw [List.length_append, List.length_singleton] at hv'
        subst hv'
        obtain ⟨⟨d0', d1'⟩, e0', e1'⟩ := cells2 HY1.out
        have HB2 : Hid (Below w.heap.size w w2) := hB2
        clear hown' hgrow hlt2 hB2 hO d0 d1 e0 e1
        go_wp2_with fail
        go_roundw
        case rel =>
          refine ⟨m, f', acc ++ [(g0, g1)], _, rfl, at2, by omega, by simp; omega, HF.out, ?_, rowSet _ HY1.out, OwnT.other HO2.out (by omega), HB2.out.setCell (by simp) _, by simp; omega⟩
          rw [heap_setCell_other _ _ _ _ (by simp)]
          exact HY0.out
        case measure => simp [intOf]; omega
    · have HF : Hid (R = (acc, 0)) := by
        show _ = _
        rw [← HAll.out, allR_end (by omega)]
      obtain ⟨⟨c0, c1⟩, f0, f1⟩ := cells2 HR0.out
      obtain ⟨⟨d0, d1⟩, e0, e1⟩ := cells2 HR1.out
      obtain ⟨va, vc, rfl⟩ := OwnT.form HO.out
      go_wp2_with fail
      refine bodyPost_ret (v := .agg #[.slice va acc.length vc, .int .i64 0]) (by simp [results, Tryz.results44, go_sem, c0, c1]) rfl ⟨.slice va acc.length vc, ?_, ?_, ?_⟩
      · rw [HF.out]
      · rw [HF.out]
        exact ((OwnT.other (OwnT.other HO.out (by omega)) (by omega))).mono (by omega)
      · repeat (first | exact HB.out | refine Below.setCell ?_ (by simp) _ | refine Below.alloc ?_ (by simp <;> omega) _)
end Go.Proofs.YtfliacfeebooeaaGreatDoor
namespace Go.Proofs.YtfliacfeebooeaaGreatDoor
open Go.RowKit

/-- The things l lie behind the address (none at all: any address serves). -/
def IsT (w : World) (a : Option Addr) (l : List (Int × ByteArray)) : Prop :=
  l = [] ∨ ∃ g, a = some ⟨g, 0, none⟩ ∧ g < w.heap.size ∧ ∀ i p, l[i]? = some p → w.cell? ⟨g, i * 2, none⟩ = some (.int .i64 p.1) ∧ w.cell? ⟨g, i * 2 + 1, none⟩ = some (.string p.2)
theorem IsT.keep {w w' : World} {a : Option Addr} {l : List (Int × ByteArray)} (h : IsT w a l) (hb : Below w.heap.size w w') : IsT w' a l := by
  rcases h with h | ⟨g, rfl, hg, hc⟩
  · exact .inl h
  · refine .inr ⟨g, rfl, Nat.lt_of_lt_of_le hg hb.size, fun i p hp => ?_⟩
    rw [hb.cell (p := ⟨g, i * 2, none⟩) hg, hb.cell (p := ⟨g, i * 2 + 1, none⟩) hg]
    exact hc i p hp
theorem OwnT.isT {w : World} {B : Nat} {a : Option Addr} {n c : Nat} {l : List (Int × ByteArray)} (h : OwnT w B (.slice a n c) l) : IsT w a l := by
  rcases h.2 with ⟨_, h'⟩ | ⟨g, cap, cur, e, _, hg, _, _, _, ht⟩
  · exact .inl (List.eq_nil_of_length_eq_zero h')
  · simp only [Value.slice.injEq] at e
    obtain ⟨rfl, _, _⟩ := e
    refine .inr ⟨g, rfl, heap_lt hg, fun i p hp => ?_⟩
    have hl : i < l.length := by
      rcases Nat.lt_or_ge i l.length with h' | h'
      · exact h'
      · rw [List.getElem?_eq_none h'] at hp; cases hp
    obtain ⟨k0, k1⟩ := tCells_at l i p hp
    rw [Nat.mul_comm 2 i] at k0 k1
    rw [← ht, List.getElem?_take, if_pos (by omega)] at k0 k1
    rw [cell_of_row w g _ _ _ (0, 0) hg, cell_of_row w g _ _ _ (0, 0) hg]
    exact ⟨by simpa using k0, by simpa using k1⟩
end Go.Proofs.YtfliacfeebooeaaGreatDoor
namespace Go.Proofs.YtfliacfeebooeaaGreatDoor
open Go.RowKit

theorem splice_cons {α : Type} (cs r : List α) (v : α) (o : Nat) (h : o < cs.length) : splice (cs.set o v) (o + 1) r = splice cs o (v :: r) := by
  unfold splice
  rw [List.take_succ_eq_append_getElem (by simpa using h)]
  simp only [List.getElem_set_self, List.take_set_of_le (Nat.le_refl o), List.append_assoc, List.length_cons, List.cons_append, List.nil_append]
  rw [List.drop_set_of_lt (by omega), show o + 1 + r.length = o + (r.length + 1) by omega]
/-- A row behind many stores. -/
theorem rowSetCells {g : Nat} {t : TypeId} : ∀ (vs cs : List Value) (o : Nat) (w : World), w.heap[g]? = some (.cells cs.toArray t (0, 0)) → o + vs.length ≤ cs.length → (w.setCells g o vs).heap[g]? = some (.cells (splice cs o vs).toArray t (0, 0))
  | [], cs, o, w, hg, _ => by simpa [World.setCells, splice] using hg
  | v :: r, cs, o, w, hg, hl => by
    rw [World.setCells, ← splice_cons cs r v o (by simp at hl; omega)]
    exact rowSetCells r (cs.set o v) (o + 1) _ (rowSet v hg) (by simp at hl ⊢; omega)
theorem otherSetCells (g : Nat) : ∀ (vs : List Value) (o : Nat) (w : World) (k : Nat), k ≠ g → (w.setCells g o vs).heap[k]? = w.heap[k]?
  | [], _, _, _, _ => rfl
  | v :: r, o, w, k, hk => by rw [World.setCells, otherSetCells g r (o + 1) _ k hk, heap_setCell_other w _ k v hk]
theorem sizeSetCells (g : Nat) : ∀ (vs : List Value) (o : Nat) (w : World), (w.setCells g o vs).heap.size = w.heap.size
  | [], _, _ => rfl
  | v :: r, o, w => by rw [World.setCells, sizeSetCells g r (o + 1) _]; simp
/-- A whole variable of many cells, stored. -/
theorem wpList_store_row {P : Program} {ops : Array Oper} {rest : List Oper} {op : Oper} {a : Act} {w : World} {Q : Exit → Act → World → Prop} (hgd : op.guard = none) (ty : TypeId) (x y : Operand) (ho : op.op = .store ty x y)
    (g : Nat) (cs vs : List Value) (t : TypeId) (hx : a.eval x = .pointer (some ⟨g, 0, none⟩)) (hy : a.eval y = .agg vs.toArray) (hg : w.heap[g]? = some (.cells cs.toArray t (0, 0))) (hl : cs.length = vs.length)
    (hi : (P.info? ty).map (·.size) = some vs.length) (h1 : ∀ v ∈ vs, v.oneCell' = true)
    (h : ∀ w', w'.heap[g]? = some (.cells vs.toArray t (0, 0)) → (∀ k, k ≠ g → w'.heap[k]? = w.heap[k]?) → w'.heap.size = w.heap.size → (∀ B w0, B ≤ g → Below B w0 w → Below B w0 w') → wpList P ops Q rest (a.put op.dst undef) w') : wpList P ops Q (op :: rest) a w := by
  refine wpList_store_mid hgd ty x y ho g 0 vs.toArray hx hy (by have := thereRow hg; rw [hl] at this; simpa using this) (by simpa using hi) (all_oneCell_toArray h1) ?_
  refine h _ ?_ (fun k hk => otherSetCells g _ _ _ _ hk) (sizeSetCells g _ _ _) (fun B w0 hB hb => below_setCells hB _ _ _ hb)
  have := rowSetCells vs cs 0 w hg (by omega)
  rwa [splice_one cs vs hl] at this
/-- The same, inside a drawn region. -/
theorem wp_store_row {P : Program} {op : Oper} {a : Act} {w : World} {K : Act → World → Prop} {Q : Exit → Act → World → Prop} (ty : TypeId) (x y : Operand) (ho : op.op = .store ty x y)
    (g : Nat) (cs vs : List Value) (t : TypeId) (hx : a.eval x = .pointer (some ⟨g, 0, none⟩)) (hy : a.eval y = .agg vs.toArray) (hg : w.heap[g]? = some (.cells cs.toArray t (0, 0))) (hl : cs.length = vs.length)
    (hi : (P.info? ty).map (·.size) = some vs.length) (h1 : ∀ v ∈ vs, v.oneCell' = true)
    (h : ∀ w', w'.heap[g]? = some (.cells vs.toArray t (0, 0)) → (∀ k, k ≠ g → w'.heap[k]? = w.heap[k]?) → w'.heap.size = w.heap.size → (∀ B w0, B ≤ g → Below B w0 w → Below B w0 w') → K (a.put op.dst undef) w') : op.wp P a w K Q := by
  refine wp_store_mid ty x y ho g 0 vs.toArray hx hy (by have := thereRow hg; rw [hl] at this; simpa using this) (by simpa using hi) (all_oneCell_toArray h1) ?_
  refine h _ ?_ (fun k hk => otherSetCells g _ _ _ _ hk) (sizeSetCells g _ _ _) (fun B w0 hB hb => below_setCells hB _ _ _ hb)
  have := rowSetCells vs cs 0 w hg (by omega)
  rwa [splice_one cs vs hl] at this
end Go.Proofs.YtfliacfeebooeaaGreatDoor
namespace Go.Proofs.YtfliacfeebooeaaGreatDoor
open Go.RowKit

/-- The things l lie from address a on. -/
def IsTo (w : World) (a : Option Addr) (l : List (Int × ByteArray)) : Prop := l = [] ∨ ∃ g o, a = some ⟨g, o, none⟩ ∧ g < w.heap.size ∧ ∀ i p, l[i]? = some p → w.cell? ⟨g, o + i * 2, none⟩ = some (.int .i64 p.1) ∧ w.cell? ⟨g, o + i * 2 + 1, none⟩ = some (.string p.2)
/-- Block g is a reader of the things l, with its word bad; it and its things lie from block B on. -/
def IsRd (w : World) (B : Nat) (g : Nat) (l : List (Int × ByteArray)) (bad : Bool) : Prop := ∃ a c, w.heap[g]? = some (.cells [Value.slice a l.length c, .bool bad].toArray 48 (0, 0)) ∧ l.length ≤ c ∧ IsTo w a l ∧ B ≤ g ∧ ∀ b, a = some b → B ≤ b.block ∧ b.block < g
theorem IsRd.ge {w : World} {B g : Nat} {l : List (Int × ByteArray)} {b : Bool} (h : IsRd w B g l b) : B ≤ g ∧ g < w.heap.size := by
  obtain ⟨a, c, hg, hc, ht, h1, hne⟩ := h
  exact ⟨h1, heap_lt hg⟩
theorem IsRd.mono {w : World} {B B' g : Nat} {l : List (Int × ByteArray)} {b : Bool} (h : IsRd w B g l b) (hB : B' ≤ B) : IsRd w B' g l b := by
  obtain ⟨a, c, hg, hc, ht, h1, hne⟩ := h
  exact ⟨a, c, hg, hc, ht, Nat.le_trans hB h1, fun b hb => ⟨Nat.le_trans hB (hne b hb).1, (hne b hb).2⟩⟩
/-- What is taken of a reader, what it is behind it. -/
def takeR (l : List (Int × ByteArray)) (bad : Bool) (t : Int) : ByteArray × List (Int × ByteArray) × Bool :=
  match l with
  | [] => (⟨#[]⟩, [], true)
  | p :: r => if bad = true then (⟨#[]⟩, p :: r, true) else if p.1 = t then (p.2, r, bad) else (⟨#[]⟩, p :: r, true)
theorem IsTo.set {w : World} {a : Option Addr} {l : List (Int × ByteArray)} (h : IsTo w a l) (g o : Nat) (v : Value) (hn : ∀ b, a = some b → b.block ≠ g) : IsTo (w.setCell ⟨g, o, none⟩ v) a l := by
  rcases h with h | ⟨g2, o2, rfl, hg, hc⟩
  · exact .inl h
  · have hne : g ≠ g2 := fun e => hn _ rfl e.symm
    refine .inr ⟨g2, o2, rfl, by simpa using hg, fun i p hp => ?_⟩
    rw [World.cell?_setCell_far w ⟨g, o, none⟩ ⟨g2, _, none⟩ v hne, World.cell?_setCell_far w ⟨g, o, none⟩ ⟨g2, _, none⟩ v hne]
    exact hc i p hp
theorem IsTo.tail {w : World} {g o : Nat} {p : Int × ByteArray} {r : List (Int × ByteArray)} (h : IsTo w (some ⟨g, o, none⟩) (p :: r)) : IsTo w (some ⟨g, o + 2, none⟩) r := by
  rcases h with h | ⟨g2, o2, e, hg, hc⟩
  · cases h
  · simp only [Option.some.injEq, Addr.mk.injEq, and_true] at e
    obtain ⟨rfl, rfl⟩ := e
    refine .inr ⟨g, o + 2, rfl, hg, fun i q hq => ?_⟩
    have := hc (i + 1) q (by simpa using hq)
    rw [show o + (i + 1) * 2 = o + 2 + i * 2 by omega] at this
    exact this
/-- A reader is kept where all blocks from B on are. -/
theorem IsRd.same {w w' : World} {B g : Nat} {l : List (Int × ByteArray)} {b : Bool} (h : IsRd w B g l b) (hs : ∀ k, B ≤ k → k < w.heap.size → w'.heap[k]? = w.heap[k]?) : IsRd w' B g l b := by
  obtain ⟨a, c, hg, hc, ht, h1, hne⟩ := h
  refine ⟨a, c, by rw [hs g h1 (heap_lt hg)]; exact hg, hc, ?_, h1, hne⟩
  rcases ht with h | ⟨g2, o, rfl, hg2, hcs⟩
  · exact .inl h
  · have hlt := hne _ rfl
    have e := hs g2 hlt.1 hg2
    have ec : ∀ o, w'.cell? ⟨g2, o, none⟩ = w.cell? ⟨g2, o, none⟩ := fun o => by unfold World.cell?; simp only [e]
    refine .inr ⟨g2, o, rfl, ?_, fun i p hp => ?_⟩
    · rw [Array.getElem?_eq_getElem hg2] at e
      exact heap_lt e
    · rw [ec, ec]
      exact hcs i p hp
/-- A reader whose word is set. -/
theorem IsRd.bad {w : World} {B g : Nat} {l : List (Int × ByteArray)} {b : Bool} (h : IsRd w B g l b) : IsRd (w.setCell ⟨g, 1, none⟩ (.bool true)) B g l true ∧ (∀ k, k < w.heap.size → k ≠ g → (w.setCell ⟨g, 1, none⟩ (.bool true)).heap[k]? = w.heap[k]?) ∧ ∀ A, A ≤ g → Below A w (w.setCell ⟨g, 1, none⟩ (.bool true)) := by
  obtain ⟨a, c, hg, hc, ht, h1, hne⟩ := h
  exact ⟨⟨a, c, rowSet (i := 1) (.bool true) hg, hc, ht.set g 1 _ (fun b hb => Nat.ne_of_lt (hne b hb).2), h1, hne⟩, fun k _ hk => heap_setCell_other w _ k _ hk, fun A hA => (Below.refl _ _).setCell hA _⟩
/-- A reader is kept where only later blocks turn. -/
theorem IsRd.far {w w' : World} {B g : Nat} {l : List (Int × ByteArray)} {b : Bool} (h : IsRd w B g l b) (hb : Below (g + 1) w w') : IsRd w' B g l b := by
  obtain ⟨a, c, hg, hc, ht, h1, hne⟩ := h
  refine ⟨a, c, by rw [hb.block g (by omega)]; exact hg, hc, ?_, h1, hne⟩
  rcases ht with h | ⟨g2, o, rfl, hg2, hcs⟩
  · exact .inl h
  · have hlt : g2 < g := (hne _ rfl).2
    refine .inr ⟨g2, o, rfl, Nat.lt_of_lt_of_le hg2 hb.size, fun i p hp => ?_⟩
    rw [hb.cell (p := ⟨g2, o + i * 2, none⟩) (by show g2 < _; omega), hb.cell (p := ⟨g2, o + i * 2 + 1, none⟩) (by show g2 < _; omega)]
    exact hcs i p hp
set_option linter.unusedSimpArgs false in
set_option maxHeartbeats 1000000 in
set_option maxRecDepth 100000 in
theorem rdTake (B g : Nat) (l : List (Int × ByteArray)) (bad : Bool) (t : Int) (w : World) (hr : IsRd w B g l bad) :
    Calls Tryz.prog 21 #[.pointer (some ⟨g, 0, none⟩), .int .i64 t] w fun e w' => e = .returned (.string (takeR l bad t).1) ∧ IsRd w' B g (takeR l bad t).2.1 (takeR l bad t).2.2 ∧ (∀ k, k < w.heap.size → k ≠ g → w'.heap[k]? = w.heap[k]?) ∧ ∀ A, A ≤ g → Below A w w' := by
  have HRd : Hid (IsRd w B g l bad) := hr
  obtain ⟨a, c, hg, hc, ht, hB, hne⟩ := hr
  have HG : Hid _ := hg
  have y0 := rowFacts hg 0 _ rfl
  have y1 := rowFacts hg 1 _ rfl
  have z0 := rowFree hg 0
  have z1 := rowFree hg 1
  clear hg
  obtain ⟨R, hR⟩ : ∃ R, R = takeR l bad t := ⟨_, rfl⟩
  rw [← hR]
  cases bad with
  | true =>
    have HF : Hid (R = (⟨#[]⟩, l, true)) := by
      show _ = _
      rw [hR]
      cases l <;> rfl
    clear hR hc ht hne hB HG
    go_enter Tryz.func21, Tryz.ntmps21
    go_wp2
    go_ret
    rw [HF.out]
    exact ⟨rfl, HRd.out.bad⟩
  | false =>
  cases l with
  | nil =>
    have HF : Hid (R = (⟨#[]⟩, [], true)) := hR
    clear hR hc ht hne hB HG
    go_enter Tryz.func21, Tryz.ntmps21
    go_wp2
    go_ret
    rw [HF.out]
    exact ⟨rfl, HRd.out.bad⟩
  | cons p r =>
    obtain ⟨p1, p2⟩ := p
    have ht0 := ht
    rcases ht0 with h | ⟨g2, o, rfl, hg2, hcs⟩
    · cases h
    obtain ⟨k0, k1⟩ := hcs 0 (p1, p2) rfl
    rw [Nat.zero_mul, Nat.add_zero] at k0 k1
    by_cases hp : p1 = t
    rotate_left
    · have HF : Hid (R = (⟨#[]⟩, (p1, p2) :: r, true)) := by show _ = _; rw [hR, takeR, if_neg (by simp), if_neg hp]
      obtain ⟨n, hn⟩ : ∃ n, n = ((p1, p2) :: r).length := ⟨_, rfl⟩
      have hn1 : 0 < n := by rw [hn]; simp
      have hpn : (p1 != t) = true := by simpa using hp
      rw [← hn] at y0
      clear hR hc ht hne hB HG hcs hn
      go_enter Tryz.func21, Tryz.ntmps21
      go_wp2
      go_ret
      rw [HF.out]
      exact ⟨rfl, HRd.out.bad⟩
    · have HF : Hid (R = (p2, r, false)) := by show _ = _; rw [hR, takeR, if_neg (by simp), if_pos hp]
      have hg2g : g2 < g := (hne _ rfl).2
      have HBB : Hid (B ≤ g ∧ B ≤ g2) := ⟨hB, (hne _ rfl).1⟩
      have HT : Hid (IsTo w (some ⟨g2, o + 2, none⟩) r) := IsTo.tail ht
      have hnl : ((p1, p2) :: r).length = r.length + 1 := rfl
      rw [hnl] at y0 hc HG
      have HG' : Hid (w.heap[g]? = some (.cells [Value.slice (some ⟨g2, o, none⟩) (r.length + 1) c, .bool false].toArray 48 (0, 0))) := HG.out
      obtain ⟨n, hn⟩ : ∃ n, n = r.length := ⟨_, rfl⟩
      have HNl : Hid (n = r.length) := hn
      rw [← hn] at y0 hc
      clear hR ht hne hB HG hcs hn hnl
      subst hp
      go_enter Tryz.func21, Tryz.ntmps21
      go_wp2
      · go_ret
        obtain rfl := HNl.out
        have hr0 : r = [] := List.eq_nil_of_length_eq_zero (by omega)
        rw [HF.out]
        exact ⟨rfl, ⟨_, _, rowSet (i := 0) _ HG'.out, by show r.length ≤ _; omega, .inl hr0, HBB.out.1, fun b hb => by cases hb; exact ⟨HBB.out.2, hg2g⟩⟩, fun k _ hk => heap_setCell_other w _ k _ hk, fun A hA => (Below.refl _ _).setCell hA _⟩
      · go_ret
        obtain rfl := HNl.out
        rw [HF.out]
        exact ⟨rfl, ⟨_, _, rowSet (i := 0) _ HG'.out, by show r.length ≤ _; omega, HT.out.set g 0 _ (fun b hb => by cases hb; exact Nat.ne_of_lt hg2g), HBB.out.1, fun b hb => by cases hb; exact ⟨HBB.out.2, hg2g⟩⟩, fun k _ hk => heap_setCell_other w _ k _ hk, fun A hA => (Below.refl _ _).setCell hA _⟩
end Go.Proofs.YtfliacfeebooeaaGreatDoor
namespace Go.Proofs.YtfliacfeebooeaaGreatDoor
open Go.RowKit

/-- What a text opens to. -/
def openR (s : ByteArray) : List (Int × ByteArray) × Bool := ((allD s).1, decide ((allD s).2 ≠ 0))
theorem OwnT.isTo {w : World} {B : Nat} {a : Option Addr} {n c : Nat} {l : List (Int × ByteArray)} (h : OwnT w B (.slice a n c) l) : IsTo w a l := by
  rcases h.isT with h | ⟨g, rfl, hg, hc⟩
  · exact .inl h
  · exact .inr ⟨g, 0, rfl, hg, fun i p hp => by rw [Nat.zero_add]; exact hc i p hp⟩
theorem OwnT.cap {w : World} {B : Nat} {a : Option Addr} {n c : Nat} {l : List (Int × ByteArray)} (h : OwnT w B (.slice a n c) l) : l.length ≤ c := by
  rcases h.2 with ⟨_, h'⟩ | ⟨g, cap, cur, e, _, hg, hc, _⟩
  · omega
  · simp only [Value.slice.injEq] at e
    omega
theorem IsTo.keep {w w' : World} {a : Option Addr} {l : List (Int × ByteArray)} (h : IsTo w a l) (hb : Below w.heap.size w w') : IsTo w' a l := by
  rcases h with h | ⟨g, o, rfl, hg, hc⟩
  · exact .inl h
  · refine .inr ⟨g, o, rfl, Nat.lt_of_lt_of_le hg hb.size, fun i p hp => ?_⟩
    rw [hb.cell (p := ⟨g, o + i * 2, none⟩) hg, hb.cell (p := ⟨g, o + i * 2 + 1, none⟩) hg]
    exact hc i p hp
theorem addr_lt {w : World} {B : Nat} {a : Option Addr} {n c : Nat} {l : List (Int × ByteArray)} (h : OwnT w B (.slice a n c) l) : ∀ b, a = some b → B ≤ b.block ∧ b.block < w.heap.size := by
  rcases h.2 with ⟨e, _⟩ | ⟨g, cap, cur, e, hB, hg, _⟩
  · simp only [Value.slice.injEq] at e
    intro b hb
    rw [e.1] at hb
    cases hb
  · simp only [Value.slice.injEq] at e
    intro b hb
    rw [e.1] at hb
    cases hb
    exact ⟨hB, heap_lt hg⟩
set_option linter.unusedSimpArgs false in
set_option maxHeartbeats 1000000 in
set_option maxRecDepth 100000 in
theorem rdOpen (s : ByteArray) (w : World) (hs : s.size ≤ 20000) :
    Calls Tryz.prog 18 #[.string s] w fun e w' => ∃ g, e = .returned (.pointer (some ⟨g, 0, none⟩)) ∧ w.heap.size ≤ g ∧ IsRd w' w.heap.size g (openR s).1 (openR s).2 ∧ Below w.heap.size w w' := by
  have HA := specAll s w hs
  have hD : allR s (s.size + 1) 0 [] = allD s := by unfold allD; rw [if_neg (by omega)]
  rw [hD] at HA
  have HO : Hid ((openR s).1 = (allD s).1 ∧ (openR s).2 = decide ((allD s).2 ≠ 0)) := ⟨rfl, rfl⟩
  rw [HO.out.1, HO.out.2]
  have HAl : Hid (Calls Tryz.prog 44 #[.string s] w fun e w' => ∃ v, e = .returned (.agg #[v, .int .i64 (allD s).2]) ∧ OwnT w' w.heap.size v (allD s).1 ∧ Below w.heap.size w w') := HA
  generalize (allD s).1 = L at *
  generalize (allD s).2 = cd at *
  clear HA hD HO hs
  go_enter Tryz.func18, Tryz.ntmps18
  go_wp2_with fail
  refine HAl.out.mono ?_
  rintro e w2 ⟨v, rfl, o2, b2⟩
  obtain ⟨va, vc, rfl⟩ := OwnT.form o2
  have T2 : Hid (IsTo w2 va L) := o2.isTo
  have C2 : Hid (L.length ≤ vc) := o2.cap
  have A2 : Hid (∀ b, va = some b → w.heap.size ≤ b.block ∧ b.block < w2.heap.size) := addr_lt o2
  have B2 : Hid (Below w.heap.size w w2) := b2
  clear o2 b2 HAl
  generalize hn : L.length = n at *
  go_wp2_with fail
  go_ret
  have hbn : (cd != 0) = decide (cd ≠ 0) := by by_cases h : cd = 0 <;> simp [h]
  have hW : Below w2.heap.size w2 ((w2.alloc (.cells #[.slice va n vc, .int .i64 cd] 53 (0, 0))).alloc (.cells #[.slice va n vc, .bool (cd != 0)] 48 (0, 0))) := ((Below.refl _ _).alloc (Nat.le_refl _) _).alloc (by simp) _
  refine ⟨w2.heap.size + 1, rfl, by have := B2.out.size; omega, ⟨va, vc, ?_, by rw [hn]; exact C2.out, T2.out.keep hW, by have := B2.out.size; omega, fun b hb => by have := A2.out b hb; omega⟩, B2.out.trans (hW.mono B2.out.size)⟩
  rw [hn, ← hbn]
  exact heap_alloc2 w2 _ _
/-- What is taken of a reader and opened. -/
def inR (l : List (Int × ByteArray)) (bad : Bool) (t : Int) : (List (Int × ByteArray) × Bool) × List (Int × ByteArray) × Bool :=
  (((openR (takeR l bad t).1).1, (openR (takeR l bad t).1).2 || (takeR l bad t).2.2), (takeR l bad t).2)
theorem IsRd.keep {w w' : World} {B g : Nat} {l : List (Int × ByteArray)} {b : Bool} (h : IsRd w B g l b) (hb : Below w.heap.size w w') : IsRd w' B g l b := by
  obtain ⟨a, c, hg, hc, ht, h1, hne⟩ := h
  exact ⟨a, c, by rw [hb.block _ (heap_lt hg)]; exact hg, hc, ht.keep hb, h1, hne⟩
set_option linter.unusedSimpArgs false in
set_option maxHeartbeats 1000000 in
set_option maxRecDepth 100000 in
theorem rdIn (B g : Nat) (l : List (Int × ByteArray)) (bad : Bool) (t : Int) (w : World) (hr : IsRd w B g l bad) (hl : ∀ p ∈ l, p.2.size ≤ 4000) :
    Calls Tryz.prog 19 #[.pointer (some ⟨g, 0, none⟩), .int .i64 t] w fun e w' => ∃ x, e = .returned (.pointer (some ⟨x, 0, none⟩)) ∧ w.heap.size ≤ x ∧ IsRd w' w.heap.size x (inR l bad t).1.1 (inR l bad t).1.2 ∧ IsRd w' B g (inR l bad t).2.1 (inR l bad t).2.2 ∧ (∀ k, k < w.heap.size → k ≠ g → w'.heap[k]? = w.heap[k]?) ∧ ∀ A, A ≤ g → Below A w w' := by
  have HTk : Hid (Calls Tryz.prog 21 #[.pointer (some ⟨g, 0, none⟩), .int .i64 t] w fun e w' => e = .returned (.string (takeR l bad t).1) ∧ IsRd w' B g (takeR l bad t).2.1 (takeR l bad t).2.2 ∧ (∀ k, k < w.heap.size → k ≠ g → w'.heap[k]? = w.heap[k]?) ∧ ∀ A, A ≤ g → Below A w w') := rdTake B g l bad t w hr
  have hz : (takeR l bad t).1.size ≤ 20000 := by
    unfold takeR
    cases l with
    | nil => exact Nat.zero_le _
    | cons p r =>
      have := hl p (List.mem_cons_self ..)
      simp only
      split
      · exact Nat.zero_le _
      · split
        · show p.2.size ≤ _
          omega
        · exact Nat.zero_le _
  have HOp : Hid (∀ V, Calls Tryz.prog 18 #[.string (takeR l bad t).1] V fun e w' => ∃ g, e = .returned (.pointer (some ⟨g, 0, none⟩)) ∧ V.heap.size ≤ g ∧ IsRd w' V.heap.size g (openR (takeR l bad t).1).1 (openR (takeR l bad t).1).2 ∧ Below V.heap.size V w') := fun V => rdOpen _ V hz
  unfold inR
  simp only
  have hgl : g < w.heap.size := by exact hr.ge.2
  have HGl : Hid (g < w.heap.size) := hgl
  generalize takeR l bad t = T at *
  generalize openR T.1 = O at *
  obtain ⟨tb, tl, tbad⟩ := T
  obtain ⟨ol, obad⟩ := O
  simp only at HTk HOp ⊢
  clear hr hl hz hgl
  go_enter Tryz.func19, Tryz.ntmps19
  go_wp2_with fail
  refine HTk.out.mono ?_
  rintro e w2 ⟨rfl, r2, s2, b2⟩
  have R2 : Hid (IsRd w2 B g tl tbad) := r2
  have S2 : Hid (∀ k, k < w.heap.size → k ≠ g → w2.heap[k]? = w.heap[k]?) := s2
  have B2 : Hid (∀ A, A ≤ g → Below A w w2) := b2
  clear r2 s2 b2 HTk
  go_wp2_with fail
  refine (HOp.out w2).mono ?_
  rintro e w3 ⟨x, rfl, hx, r3, b3⟩
  have r2 := R2.out.keep b3
  obtain ⟨a2, c2, g2, _⟩ := r2
  obtain ⟨a3, c3, g3, hc3, ht3, h13, hn3⟩ := r3
  have HFin : Hid (∀ b : Bool, w.heap.size ≤ x ∧ IsRd (w3.setCell ⟨x, 1, none⟩ (.bool b)) w.heap.size x ol b ∧ IsRd (w3.setCell ⟨x, 1, none⟩ (.bool b)) B g tl tbad ∧ (∀ k, k < w.heap.size → k ≠ g → (w3.setCell ⟨x, 1, none⟩ (.bool b)).heap[k]? = w.heap[k]?) ∧ ∀ A, A ≤ g → Below A w (w3.setCell ⟨x, 1, none⟩ (.bool b))) := fun b => by
    have hs2 := (B2.out g (Nat.le_refl _)).size
    have hW : Below w2.heap.size w2 (w3.setCell ⟨x, 1, none⟩ (.bool b)) := b3.setCell hx _
    have hgl := HGl.out
    exact ⟨by omega, ⟨a3, c3, rowSet (i := 1) (.bool b) g3, hc3, ht3.set x 1 _ (fun b hb => Nat.ne_of_lt (hn3 b hb).2), Nat.le_trans hs2 h13, fun b hb => ⟨Nat.le_trans hs2 (hn3 b hb).1, (hn3 b hb).2⟩⟩, R2.out.keep hW, fun k hk hkg => by rw [hW.block k (by omega), S2.out k hk hkg], fun A hA => (B2.out A hA).trans (hW.mono (by omega))⟩
  have y1 := rowFacts g2 1 _ rfl
  have x1 := rowFacts g3 1 _ rfl
  have z1 := rowFree g3 1
  clear g2 g3 HOp R2 S2 B2 HGl hc3 ht3 hn3 h13 b3 hx
  cases obad with
  | true =>
    go_wp2
    go_ret
    exact ⟨x, rfl, HFin.out true⟩
  | false =>
    go_wp2
    go_ret
    exact ⟨x, rfl, by rw [Bool.false_or]; exact HFin.out tbad⟩
end Go.Proofs.YtfliacfeebooeaaGreatDoor
namespace Go.Proofs.YtfliacfeebooeaaGreatDoor
open Go.RowKit Go.Lib

theorem own_slice {w : World} {B e n : Nat} {v : Value} {xs : List Value} (h : w.ownsRow B e 1 v n xs) (hn : 0 < n) : ∃ g cap, v = .slice (some ⟨g, 0, none⟩) n cap := by
  rcases h.2 with ⟨_, h'⟩ | ⟨g, cap, _, h', _⟩
  · omega
  · exact ⟨g, cap, h'⟩
def sLen : Value → Nat
  | .slice _ n _ => n
  | _ => 0
set_option maxHeartbeats 1000000 in
set_option maxRecDepth 100000 in
theorem specBytes (n : Int) (w : World) (h0 : -9223372036854775808 ≤ n) (h1 : n ≤ 9223372036854775807) :
    Calls Tryz.prog 79 #[.int .i64 n] w fun e w' => e = .returned (.string (strOfNums (intL n))) ∧ Below w.heap.size w w' := by
  obtain ⟨i0, hi, hz0, hz1, hz2⟩ := info_parts infoByte
  have hF := fits7 h0 h1
  go_enter Tryz.func79, Tryz.ntmps79
  go_wp2_with fail
  go_loopw [3, 4] (fun b r wr => ∃ (m : Int) (f g c : Nat) (tl : List Int), Fits f m ∧ -9223372036854775808 ≤ m ∧ m ≤ 9223372036854775807 ∧ f + tl.length ≤ 7 ∧ b = .slice (some ⟨g, 0, none⟩) (tl.length + 1) c ∧ r = .int .i64 (m / 256) ∧
      wr.ownsRow w.heap.size 5 1 (.slice (some ⟨g, 0, none⟩) (tl.length + 1) c) (tl.length + 1) ((m % 256 :: tl).map (Value.int .u8)) ∧ Below w.heap.size w wr ∧ w.heap.size ≤ wr.heap.size ∧ intF f m ++ tl = intL n)
    (fun b _ _ => 10 - sLen b)
  case atStart =>
    exact ⟨n, 7, _, 1, [], hF, h0, h1, by simp, rfl, rfl, World.ownsRow_lit _ _ 1 (Nat.le_refl _) (by decide) rfl, (Below.refl _ _).alloc (Nat.le_refl _) _, by simp, by simp [intL]⟩
  case round =>
    obtain ⟨m, f, g, c, tl, hf, m0, m1, hlen, rfl, rfl, hown, hbel, hsz, heq⟩ := hrel
    have c0 : wr.cell? ⟨g, 0, none⟩ = some (.int .u8 (m % 256)) := by have := hown.cellAt 0 (by omega); simpa using this
    have HE : Hid (intF f m ++ tl = intL n) := heq
    have HF : Hid (Fits f m) := hf
    obtain ⟨q, hq⟩ : ∃ q, q = m / 256 := ⟨_, rfl⟩
    obtain ⟨r, hr⟩ : ∃ r, r = m % 256 := ⟨_, rfl⟩
    have q0 : -9223372036854775808 ≤ q := by omega
    have q1 : q ≤ 9223372036854775807 := by omega
    have r0 : 0 ≤ r := by omega
    have r1 : r < 256 := by omega
    have HM : Hid (q = m / 256 ∧ r = m % 256) := ⟨hq, hr⟩
    rw [← hq]
    rw [← hr] at c0 hown
    by_cases hst : -128 ≤ m ∧ m < 128
    · have HS : Hid (intL n = r :: tl) := by
        show _ = _
        rw [← HE.out, intF_last hst.1 hst.2, hr]; rfl
      have hcv := run_convert_own (P := Tryz.prog) (src := 94) (dst := 9) Tryz.underlying94 Tryz.underlying5 Tryz.underlying9 hown
      have hc : (q = 0 ∧ r < 128) ∨ (q = -1 ∧ 128 ≤ r) := by omega
      clear hq hr hst heq hf m0 m1 hF h0 h1 hown HE HF HM
      rcases hc with ⟨rfl, hc⟩ | ⟨rfl, hc⟩
      all_goals
        go_wp2
        go_ret
        exact ⟨by rw [HS.out]; rfl, hbel⟩
    · have hc : (q = 0 ∧ decide (r < 128) = false ∧ decide (128 ≤ r) = true) ∨ (q = -1 ∧ decide (r < 128) = true ∧ decide (128 ≤ r) = false) ∨ ((q == 0) = false ∧ (q == -1) = false) := by simp; omega
      have HN : Hid (¬(-128 ≤ m ∧ m < 128)) := hst
      have HSRC : Hid (∀ j u, ((r :: tl).map (Value.int .u8))[j]? = some u → wr.cell? ⟨g, j, none⟩ = some u) := fun j u hj => by
        rw [hown.cellAt j (by
          rcases Nat.lt_or_ge j (tl.length + 1) with h | h
          · omega
          · rw [List.getElem?_eq_none (by simpa using h)] at hj; cases hj)]
        exact hj
      clear hq hr hst heq hf m0 m1 hF h0 h1
      have hlt := (hown.lt g rfl).2
      rcases hc with ⟨rfl, hc, hc'⟩ | ⟨rfl, hc, hc'⟩ | ⟨hc, hc'⟩
      all_goals
        go_wp2_with (at_builtin; refine wpList_append_own _ rfl _ _ 94 rfl w.heap.size 5 i0 (.int .u8 0) 1 1 Tryz.underlying94 hi hz0 hz1 hz2 rfl (by decide) _ 1 _ rfl (World.ownsRow_lit _ _ 1 hsz (by decide) rfl) ⟨g, 0, none⟩ (tl.length + 1) c ((r :: tl).map (Value.int .u8)) rfl (by simp) ?c1 ?c2 ?c3 ?c4 ?c5 ?_)
        case c1 =>
          intro j u hj
          rw [Addr.add_lit, Nat.zero_add, World.cell?_alloc_lt _ _ ⟨g, j, none⟩ hlt]
          exact HSRC.out j u hj
        case c2 => intro u hu; exact oneCell_ints .u8 _ u hu
        case c3 => unfold maxLen; omega
        case c4 => omega
        case c5 => simp; omega
        intro v' w1 hown' hgrow hx
        obtain ⟨g', cap, rfl⟩ := own_slice hown' (by omega)
        have hb1 : Below w.heap.size w w1 := (hbel.alloc hsz _).grown hgrow (by simp; omega) (fun k hk => (World.ownsRow_lit (base := w.heap.size) (e := 5) (size := 1) wr #[.int .u8 0] 1 hsz (by decide) rfl).lt k hk |>.1)
        have hs1 : w.heap.size ≤ w1.heap.size := hb1.size
        have HO : Hid (w1.ownsRow w.heap.size 5 1 (.slice (some ⟨g', 0, none⟩) ((r :: tl).length + 1) cap) ((r :: tl).length + 1) (((m / 256) % 256 :: r :: tl).map (Value.int .u8))) := by
          show World.ownsRow _ _ _ _ _ _ _
          rw [← HM.out.1]
          have e1 : 1 + (tl.length + 1) = (r :: tl).length + 1 := by simp; omega
          rw [e1] at hown'
          simpa using hown'
        have hw : 1 + (tl.length + 1) = (r :: tl).length + 1 := by simp; omega
        rw [hw]
        clear hown' hgrow hx hown hbel hlt HSRC
        go_wp2
        go_roundw
        case rel =>
          obtain ⟨f', rfl, hf', he⟩ := intF_more HN.out HF.out
          have hq := HM.out.1
          refine ⟨m / 256, f', g', cap, r :: tl, hf', by omega, by omega, by simp; omega, rfl, ?_, HO.out, hb1, hs1, ?_⟩
          · first | (rw [← hq]; done) | (rw [← hq]; rfl)
          · rw [← HE.out, he, HM.out.2]; simp
        case measure => simp [sLen]; omega
end Go.Proofs.YtfliacfeebooeaaGreatDoor
