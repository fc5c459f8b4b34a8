/- impl.GetNum at every argument. A row of numbers of the call's own. impl.readNumbers, walked. impl.readName, walked. A drawn region by what holds whatever has come up so far: each operation is looked at once, not each order. No program is named. A drawn region by what each slot holds once its operation has come up: an invariant that is shown anew for each operation. No program is named. -/
import Derived.Test.YtkhdjmjbdpmdnaaGreatDoorCT19
import Derived.Test.YtkhdjmjbdpmdnaaGreatDoorCT06
import Derived.Test.YtkhdjmjbdpmdnaaGreatDoorCT17
import Derived.Deep.Cut
import Derived.Deep.RegionHeld3
import Derived.OrdersHeld
import Derived.Test.YtkhdjmjbdpmdnaaGreatDoorCT02
import Derived.Below
namespace Go.Proofs.YtkhdjmjbdpmdnaaGreatDoor
open Go.RowKit Go.Lib

set_option maxHeartbeats 2000000 in
set_option maxRecDepth 100000 in
theorem implGet (s : ByteArray) (p : Int) (w : World) (hs : s.size ≤ maxLen) (hp0 : -9223372036854775808 ≤ p) (hp1 : p ≤ 9223372036854775807) (hg : ErrType w) :
    Calls Tryz.prog 189 #[.string s, .int .i64 p] w fun e w' => e = .returned (numV (numAt s p)) ∧ Below w.heap.size w w' := by
  have hread := fun W => readNum s p W hs hp0 hp1
  generalize numAt s p = R at *
  have HR : Hid (∀ W, Calls Tryz.prog 211 #[.string s, .int .i64 p] W fun e w' => ReadOk R e ∧ w' = W) := hread
  have HG : Hid (ErrType w) := hg
  have hpos := hg.pos
  clear hread hg
  go_enter Tryz.func189, Tryz.ntmps189
  go_wp2_with fail
  refine (HR.out _).mono ?_
  rintro e w' ⟨hb, rfl⟩
  rcases hb with ⟨hc, rfl⟩ | ⟨hc, hR, n, rfl⟩
  · have HC : Hid (R.code = 0) := hc
    clear hc
    go_wp2_with fail
    refine (as_nil _ _).mono ?_
    rintro e w' ⟨rfl, rfl⟩
    go_wp2
    refine bodyPost_ret (v := .agg #[.int .i64 R.n, .int .i64 R.at', .int .i64 0]) (by simp [results, Tryz.results189, go_sem]) rfl ⟨?_, ?_⟩
    · rw [numV, HC.out]
    · repeat (first | exact Below.refl _ _ | refine Below.setCell ?_ (by simp) _ | refine Below.alloc ?_ (by simp) _)
  · have HC : Hid (R = .bad R.code) := hR
    generalize hcc : R.code = c at *
    have HCC : Hid (R.code = c) := hcc
    clear hc hR hcc
    have HG2 : Hid (∀ o1 o2, ErrType ((w.alloc o1).alloc o2)) := fun o1 o2 => HG.out.below (((Below.refl _ _).alloc (Nat.le_refl _) o1).alloc (by simp) o2) hpos
    go_wp2_with fail
    refine (as_hit2 ⟨w.heap.size + 1, 0, none⟩ c (.int .i64 0) _ (HG2.out _ _) (by simp) (by simp)).mono ?_
    rintro e w1 ⟨rfl, ht, hb⟩
    have hB : Below (w.heap.size + 1) ((w.alloc (Obj.cells #[Value.int IntKind.i64 0, Value.int IntKind.i64 0, Value.int IntKind.i64 0] 150)).alloc (Obj.cells #[Value.int IntKind.i64 0] 216)) w1 := hb
    have c0 : w1.cell? ⟨w.heap.size, 0, none⟩ = some (.int .i64 0) := (hB.cell (by simp)).trans (by simp)
    have c1 : w1.cell? ⟨w.heap.size, 1, none⟩ = some (.int .i64 0) := (hB.cell (by simp)).trans (by simp)
    have c2 : w1.cell? ⟨w.heap.size, 2, none⟩ = some (.int .i64 0) := (hB.cell (by simp)).trans (by simp)
    have f0 : w1.frozen? ⟨w.heap.size, 0, none⟩ = false := (hB.frozen (by simp)).trans (by simp)
    have f1 : w1.frozen? ⟨w.heap.size, 1, none⟩ = false := (hB.frozen (by simp)).trans (by simp)
    have f2 : w1.frozen? ⟨w.heap.size, 2, none⟩ = false := (hB.frozen (by simp)).trans (by simp)
    have HB : Hid (Below w.heap.size w w1) := (((Below.refl _ w).alloc (Nat.le_refl _) _).alloc (by simp) _).trans (hB.mono (Nat.le_succ _))
    clear hb hB
    go_wp2
    refine bodyPost_ret (v := .agg #[.int .i64 0, .int .i64 0, .int .i64 c]) (by simp [results, Tryz.results189, go_sem, c0, c1, c2]) rfl ⟨?_, ?_⟩
    · rw [HC.out]; rfl
    · repeat (first | exact HB.out | refine Below.setCell ?_ (by simp) _)
end Go.Proofs.YtkhdjmjbdpmdnaaGreatDoor
namespace Go.Proofs.YtkhdjmjbdpmdnaaGreatDoor
open Go.RowKit

/-- A row of numbers of the call's own. -/
def OwnL (w : World) (B : Nat) (v : Value) (l : List Int) : Prop := w.ownsRow B 2 1 v l.length (lCells l)
theorem OwnL.keep {w w' : World} {B : Nat} {v : Value} {l : List Int} (h : OwnL w B v l) (hb : Below w.heap.size w w') : OwnL w' B v l := by
  refine ⟨h.1, ?_⟩
  rcases h.2 with h | ⟨g, cap, cur, e, h1, h2, h3⟩
  · exact .inl h
  · exact .inr ⟨g, cap, cur, e, h1, by rw [hb.block g (heap_lt h2)]; exact h2, h3⟩
theorem OwnL.mono {w : World} {B B' : Nat} {v : Value} {l : List Int} (h : OwnL w B v l) (hB : B' ≤ B) : OwnL w B' v l := by
  refine ⟨h.1, ?_⟩
  rcases h.2 with h | ⟨g, cap, cur, e, h1, h3⟩
  · exact .inl h
  · exact .inr ⟨g, cap, cur, e, Nat.le_trans hB h1, h3⟩
theorem OwnL.other {w : World} {B b o : Nat} {v u : Value} {l : List Int} (h : OwnL w B v l) (hb : b < B) : OwnL (w.setCell ⟨b, o, none⟩ u) B v l := by
  refine ⟨h.1, ?_⟩
  rcases h.2 with h | ⟨g, cap, cur, e, h1, h2, h3⟩
  · exact .inl h
  · exact .inr ⟨g, cap, cur, e, h1, by rw [heap_setCell_other _ _ _ _ (by show g ≠ b; omega)]; exact h2, h3⟩
theorem OwnL.form {w : World} {B : Nat} {v : Value} {l : List Int} (h : OwnL w B v l) : ∃ a c, v = .slice a l.length c ∧ l.length ≤ c := by
  rcases h.2 with ⟨h, h'⟩ | ⟨g, cap, _, e, _, _, hc, _⟩
  · exact ⟨none, 0, by rw [h']; exact h, by omega⟩
  · exact ⟨_, _, e, hc⟩
theorem ownL_nil (w : World) (B : Nat) : OwnL w B (.slice none 0 0) [] := ⟨rfl, .inl ⟨rfl, rfl⟩⟩
theorem OwnL.ints {w : World} {B : Nat} {a : Option Addr} {n c : Nat} {l : List Int} (h : OwnL w B (.slice a n c) l) : IsInts w a l := by
  rcases h.2 with ⟨_, h'⟩ | ⟨g, cap, cur, e, _, hg, _, _, _, ht⟩
  · exact .inl (List.eq_nil_of_length_eq_zero h')
  · simp only [Value.slice.injEq] at e
    obtain ⟨rfl, _, _⟩ := e
    refine .inr ⟨g, 0, rfl, fun i hi => ?_⟩
    have k0 : (lCells l)[i]? = some (.int .i64 (l.getD i 0)) := by simp [lCells, List.getD, hi]
    rw [← ht, List.getElem?_take, if_pos (by omega)] at k0
    rw [Nat.zero_add, cell_of_row w g _ _ _ (0, 0) hg]
    simpa using k0
theorem OwnL.ge {w : World} {B g : Nat} {v : Value} {l : List Int} (h : OwnL w B v l) (e : v.ownBlock = some g) : B ≤ g ∧ g < w.heap.size :=
  (show World.ownsRow w B 2 1 v l.length (lCells l) from h).lt g e
/-- It stands where its blocks are as they were. -/
theorem OwnL.same {w w' : World} {B : Nat} {v : Value} {l : List Int} (h : OwnL w B v l) (hs : ∀ k, B ≤ k → k < w.heap.size → w'.heap[k]? = w.heap[k]?) : OwnL w' B v l := by
  refine ⟨h.1, ?_⟩
  rcases h.2 with h | ⟨g, cap, cur, e, h1, h2, h3⟩
  · exact .inl h
  · exact .inr ⟨g, cap, cur, e, h1, by rw [hs g h1 (heap_lt h2)]; exact h2, h3⟩
theorem lCells_at {l : List Int} {i : Nat} (h : i < l.length) : (lCells l)[i]? = some (.int .i64 (l.getD i 0)) := by simp [lCells, List.getD, h]
end Go.Proofs.YtkhdjmjbdpmdnaaGreatDoor
namespace Go.Proofs.YtkhdjmjbdpmdnaaGreatDoor
open Go.RowKit

set_option linter.unusedSimpArgs false in
set_option maxHeartbeats 4000000 in
set_option maxRecDepth 100000 in
theorem implReadNums (s : ByteArray) (n : Nat) (w : World) (hs : s.size ≤ 20000) (hn : n ≤ 3) (hE : ErrType w) :
    Calls Tryz.prog 148 #[.string s, .int .i64 (n : Int)] w fun e w' => e = .returned (.slice (some ⟨w.heap.size, 0, none⟩) n n) ∧ w'.heap[w.heap.size]? = some (.cells (lCells (numsGo s n 1)).toArray 2 (0, 0)) ∧ Below w.heap.size w w' := by
  obtain ⟨i0, hi, hz0, hz1, hz2⟩ := info_parts infoLong
  have hEp := hE.pos
  have HE : Hid (∀ V, Below w.heap.size w V → ErrType V) := fun V hV => hE.below hV hEp
  have HGt : Hid (∀ V (p : Int), ErrType V → -9223372036854775808 ≤ p → p ≤ 9223372036854775807 → Calls Tryz.prog 189 #[.string s, .int .i64 p] V fun e w' => e = .returned (numV (numAt s p)) ∧ Below V.heap.size V w') := fun V p hV h0 h1 => implGet s p V (by unfold maxLen; omega) h0 h1 hV
  obtain ⟨R, hR⟩ : ∃ R, R = numsGo s n 1 := ⟨_, rfl⟩
  rw [← hR]
  have HR : Hid (R = numsGo s n 1) := hR
  clear hR hE hEp
  go_enter Tryz.func148, Tryz.ntmps148
  go_wp2_with (at_make; refine wpList_make_full _ rfl _ _ 51 rfl w.heap.size 2 i0 (.int .i64 0) 1 Tryz.underlying51 hi hz0 hz1 .i64 .i64 _ _ n rfl rfl ?c1 ?c2 ?c3 ?c4 ?c5 ?_)
  case c1 => omega
  case c2 => omega
  case c3 => rw [hz2]; omega
  case c4 => unfold maxLen; omega
  case c5 => exact Nat.le_refl _
  intro w1 hown hgrow
  have hB1 : Below w.heap.size w w1 := (Below.refl _ w).grown hgrow (Nat.le_refl _) (fun k hk => by cases hk)
  obtain ⟨hrow, hlen⟩ := rowOf hown rfl
  have hz : (madeCells #[Value.int IntKind.i64 0] n).toList = lCells (List.replicate n 0) := by
    have h3 : n = 0 ∨ n = 1 ∨ n = 2 ∨ n = 3 := by omega
    rcases h3 with rfl | rfl | rfl | rfl <;> simp [madeCells, lCells, List.replicate, List.range_succ]
  rw [hz] at hrow
  have HR0 : Hid (w1.heap[w.heap.size]? = some (.cells (lCells (List.replicate n 0)).toArray 2 (0, 0))) := hrow
  have HB1 : Hid (Below w.heap.size w w1) := hB1
  clear hown hgrow hrow hlen hB1 hz
  go_wp2_with fail
  go_loopw [6, 13] (fun q i wr => ∃ (k : Nat) (p : Int) (pre : List Int), k ≤ n ∧ i = .int .i64 k ∧ q = .int .i64 p ∧ 0 ≤ p ∧ p ≤ 20000 ∧ pre.length = k ∧ R = pre ++ numsGo s (n - k) p ∧ wr.heap[w.heap.size]? = some (.cells (lCells (pre ++ List.replicate (n - k) 0)).toArray 2 (0, 0)) ∧ Below w.heap.size w wr) (fun _ i _ => n - (intOf i).toNat)
  case atStart => exact ⟨0, 1, [], Nat.zero_le _, rfl, rfl, by omega, by omega, rfl, HR.out, HR0.out, HB1.out⟩
  case round =>
    obtain ⟨k, p, pre, hk, rfl, rfl, hp0, hp1, hpl, hpre, hgr, hbr⟩ := hrel
    have HB : Hid (Below w.heap.size w wr) := hbr
    by_cases hlt : k < n
    · have HC : Hid (Calls Tryz.prog 189 #[.string s, .int .i64 p] wr fun e w' => e = .returned (numV (numAt s p)) ∧ Below wr.heap.size wr w') := HGt.out wr p (HE.out _ hbr) (by omega) (by omega)
      unfold numV at HC
      have HX : Hid (R = pre ++ numsGo s (n - k) p) := hpre
      have HG : Hid (wr.heap[w.heap.size]? = some (.cells (lCells (pre ++ List.replicate (n - k) 0)).toArray 2 (0, 0))) := hgr
      have HNx : Hid (∀ h : (numAt s p).code = 0, numsGo s (n - k) p = (numAt s p).n :: numsGo s (n - (k + 1)) (numAt s p).at') := fun h => by
        rw [show n - k = (n - (k + 1)) + 1 from by omega, numsGo, if_pos h]
      have HNo : Hid (∀ h : ¬ (numAt s p).code = 0, numsGo s (n - k) p = List.replicate (n - k) 0) := fun h => by
        rw [show n - k = (n - (k + 1)) + 1 from by omega, numsGo, if_neg h]
      have HAt : Hid ((numAt s p).code = 0 → 0 ≤ (numAt s p).at' ∧ (numAt s p).at' ≤ 20000) := fun h => by have := numAt_lies h; omega
      generalize (numAt s p).n = rn at *
      generalize (numAt s p).at' = ra at *
      generalize (numAt s p).code = rc at *
      have a0 : (0 : Int) ≤ (k : Int) := by omega
      have b0 : (k : Int) < (n : Int) := by omega
      have HPl : Hid (pre.length = k) := hpl
      clear hpre hgr hbr hpl HGt
      go_wp2_with fail
      refine HC.out.mono ?_
      rintro e w2 ⟨rfl, b2⟩
      have B2 : Hid (Below w.heap.size w w2) := HB.out.trans (b2.mono HB.out.size)
      have HG2 : Hid (w2.heap[w.heap.size]? = some (.cells (lCells (pre ++ List.replicate (n - k) 0)).toArray 2 (0, 0))) := (b2.block _ (heap_lt HG.out)).trans HG.out
      clear b2 HG HC
      have hgl := heap_lt HG2.out
      have hkc : (lCells (pre ++ List.replicate (n - k) 0))[k]? = some (.int .i64 0) := by
        rw [lCells, List.getElem?_map, List.getElem?_append_right (by rw [HPl.out]; exact Nat.le_refl _), HPl.out, Nat.sub_self, show n - k = (n - (k + 1)) + 1 from by omega, List.replicate_succ]
        rfl
      by_cases hc : rc = 0
      · have hat := HAt.out hc
        have HF : Hid (∃ (j : Nat) (p' : Int) (pre' : List Int), j ≤ n ∧ Value.int .i64 ((k : Int) + 1) = .int .i64 (j : Int) ∧ Value.int .i64 ra = .int .i64 p' ∧ 0 ≤ p' ∧ p' ≤ 20000 ∧ pre'.length = j ∧ R = pre' ++ numsGo s (n - j) p' ∧ (lCells (pre ++ List.replicate (n - k) 0)).set k (.int .i64 rn) = lCells (pre' ++ List.replicate (n - j) 0)) :=
          ⟨k + 1, ra, pre ++ [rn], by omega, by congr 1, rfl, hat.1, hat.2, by rw [List.length_append, HPl.out]; rfl, by rw [HX.out, HNx.out hc, List.append_assoc]; rfl, by
            rw [lCells, lCells, List.map_append, List.set_append, if_neg (by simp [HPl.out]), List.length_map, HPl.out, Nat.sub_self, show n - k = (n - (k + 1)) + 1 from by omega, List.replicate_succ, List.map_cons, List.set_cons_zero, List.append_assoc, List.map_append, List.singleton_append, List.map_cons]⟩
        subst hc
        obtain ⟨w3, hw3⟩ : ∃ y, y = w2.alloc (.cells #[.int .i64 rn, .int .i64 ra, .int .i64 0] 150 (0, 0)) := ⟨_, rfl⟩
        have r3 : w3.heap[w.heap.size]? = some (.cells (lCells (pre ++ List.replicate (n - k) 0)).toArray 2 (0, 0)) := by rw [hw3, Below.heap_alloc _ _ _ hgl]; exact HG2.out
        have q3 : w3.heap[w2.heap.size]? = some (.cells [Value.int .i64 rn, .int .i64 ra, .int .i64 0].toArray 150 (0, 0)) := by rw [hw3]; exact heap_alloc_new w2 _
        have B3 : Hid (Below w.heap.size w w3) := by rw [hw3]; exact B2.out.alloc B2.out.size _
        have HNz : Hid (w.heap.size < w2.heap.size) := hgl
        have hd := rowFacts r3 k _ hkc
        have hf := rowFree r3 k
        have y0 := rowFacts q3 0 _ rfl
        have y1 := rowFacts q3 1 _ rfl
        have y2 := rowFacts q3 2 _ rfl
        have HG3 : Hid (∀ v, (w3.setCell ⟨w.heap.size, k, none⟩ v).heap[w.heap.size]? = some (.cells ((lCells (pre ++ List.replicate (n - k) 0)).set k v).toArray 2 (0, 0))) := fun v => rowSet v r3
        have HB3 : Hid (∀ v, Below w.heap.size w (w3.setCell ⟨w.heap.size, k, none⟩ v)) := fun v => B3.out.setCell (Nat.le_refl _) v
        clear r3 q3 hkc HNx HNo HAt hat HX
        go_upto_region 8 with fail
        rw [← hw3]
        clear hw3
        have D3 : Hid (Below w.heap.size w w3.drew) := B3.out.drew
        refine wp_region_held_drew (S := fun V => V.cell? ⟨w2.heap.size, 0, none⟩ = some (.int .i64 rn) ∧ V.cell? ⟨w2.heap.size, 1, none⟩ = some (.int .i64 ra)) (by kernel_rfl) ?_ (fun hHeld => ?_)
        · exact ⟨y0, y1⟩
        refine wpAnyH_take (i := 0) (oi := ⟨some 22, _, _, _, _, _⟩) (v := ?_) rfl (by kernel_rfl) (by kernel_rfl) (by kernel_rfl) (fun _ _ _ h => h) (Or.inl ⟨by kernel_rfl, ?_⟩) (by assumption) ?_
        rotate_left
        · (intro w hSw; (try dsimp only at hSw); go_simp; try with_reducible rfl)
        (try simp only [Act.put, List.setIfInBounds_toArray, List.set_cons_zero, List.set_cons_succ])
        refine wpAnyH_take (i := 1) (oi := ⟨some 23, _, _, _, _, _⟩) (v := ?_) rfl (by kernel_rfl) (by kernel_rfl) (by kernel_rfl) (fun _ _ _ h => h) (Or.inl ⟨by kernel_rfl, ?_⟩) (by assumption) ?_
        rotate_left
        · (intro w hSw; (try dsimp only at hSw); go_simp; try with_reducible rfl)
        (try simp only [Act.put, List.setIfInBounds_toArray, List.set_cons_zero, List.set_cons_succ])
        refine wpAnyH_take (i := 2) (oi := ⟨some 24, _, _, _, _, _⟩) (v := ?_) rfl (by kernel_rfl) (by kernel_rfl) (by kernel_rfl) (fun _ _ _ h => h) (Or.inl ⟨by kernel_rfl, ?_⟩) (by assumption) ?_
        rotate_left
        · (intro w hSw; (try dsimp only at hSw); go_simp; try with_reducible rfl)
        (try simp only [Act.put, List.setIfInBounds_toArray, List.set_cons_zero, List.set_cons_succ])
        refine wpAnyH_take (i := 3) (oi := ⟨some 25, _, _, _, _, _⟩) (v := ?_) rfl (by kernel_rfl) (by kernel_rfl) (by kernel_rfl) (fun _ _ _ h => h) (Or.inl ⟨by kernel_rfl, ?_⟩) (by assumption) ?_
        rotate_left
        · (intro w hSw; (try dsimp only at hSw); go_simp; try with_reducible rfl)
        (try simp only [Act.put, List.setIfInBounds_toArray, List.set_cons_zero, List.set_cons_succ])
        refine wpAnyH_take (i := 4) (oi := ⟨some 26, _, _, _, _, _⟩) (v := ?_) rfl (by kernel_rfl) (by kernel_rfl) (by kernel_rfl) (fun _ _ _ h => h) (Or.inl ⟨by kernel_rfl, ?_⟩) (by assumption) ?_
        rotate_left
        · (intro w hSw; (try dsimp only at hSw); go_simp; try with_reducible rfl)
        (try simp only [Act.put, List.setIfInBounds_toArray, List.set_cons_zero, List.set_cons_succ])
        refine wpAnyH_take (i := 5) (oi := ⟨some 27, _, _, _, _, _⟩) (v := ?_) rfl (by kernel_rfl) (by kernel_rfl) (by kernel_rfl) (fun _ _ _ h => h) (Or.inl ⟨by kernel_rfl, ?_⟩) (by assumption) ?_
        rotate_left
        · (intro w hSw; (try dsimp only at hSw); go_simp; try with_reducible rfl)
        (try simp only [Act.put, List.setIfInBounds_toArray, List.set_cons_zero, List.set_cons_succ])
        refine wpAnyH_take (i := 6) (oi := ⟨some 28, _, _, _, _, _⟩) (v := ?_) rfl (by kernel_rfl) (by kernel_rfl) (by kernel_rfl) (fun _ _ _ h => h) (Or.inl ⟨by kernel_rfl, ?_⟩) (by assumption) ?_
        rotate_left
        · (intro w hSw; (try dsimp only at hSw); go_simp; try with_reducible rfl)
        (try simp only [Act.put, List.setIfInBounds_toArray, List.set_cons_zero, List.set_cons_succ])
        refine wpAnyH_ready (rs := [7]) (by kernel_rfl) (by simp) ?_
        refine AllReadyH.cons (o := ⟨none, _, _, _, _, _⟩) rfl (fun K hK => ?_) AllReadyH.nil
        have hd' : w3.drew.cell? ⟨w.heap.size, k, none⟩ = some (.int .i64 0) := hd
        have hf' : w3.drew.frozen? ⟨w.heap.size, k, none⟩ = false := hf
        go_simp
        refine hK.out _ _ ?_ (fun hHeld => ?_)
        · have hne : w2.heap.size ≠ w.heap.size := by have := HNz.out; omega
          exact ⟨(World.cell?_setCell_far w3 ⟨w.heap.size, k, none⟩ ⟨w2.heap.size, 0, none⟩ (.int .i64 rn) (by show w.heap.size ≠ w2.heap.size; omega)).trans y0, (World.cell?_setCell_far w3 ⟨w.heap.size, k, none⟩ ⟨w2.heap.size, 1, none⟩ (.int .i64 rn) (by show w.heap.size ≠ w2.heap.size; omega)).trans y1⟩
        clear hK K
        (try simp only [Act.put, List.setIfInBounds_toArray, List.set_cons_zero, List.set_cons_succ])
        refine wpAnyH_take (i := 8) (oi := ⟨some 6, _, _, _, _, _⟩) (v := ?_) rfl (by kernel_rfl) (by kernel_rfl) (by kernel_rfl) (fun _ _ _ h => h) (Or.inl ⟨by kernel_rfl, ?_⟩) (by assumption) ?_
        rotate_left
        · (intro w hSw; (try dsimp only at hSw); go_simp; try with_reducible rfl)
        (try simp only [Act.put, List.setIfInBounds_toArray, List.set_cons_zero, List.set_cons_succ])
        refine wpAnyH_done (by kernel_rfl) ?_ _
        clear hHeld hd' hf' hd hf y0 y1 y2
        go_wp2
        go_roundw
        case rel =>
          obtain ⟨j, p', pre', j1, j2, j3, j4, j5, j6, j7, j8⟩ := HF.out
          exact ⟨j, p', pre', j1, by first | exact j2 | (rw [← j2]; simp; omega), j3, j4, j5, j6, j7, by show (w3.setCell ⟨w.heap.size, k, none⟩ (.int .i64 rn)).heap[w.heap.size]? = _; rw [HG3.out, j8], (HB3.out _).drew⟩
        case measure => simp [intOf]; omega
      · have HF : Hid (R = pre ++ List.replicate (n - k) 0) := by show _ = _; rw [HX.out, HNo.out hc]
        have HGo : Hid (∀ o, (w2.alloc o).heap[w.heap.size]? = some (.cells (lCells R).toArray 2 (0, 0))) := fun o => by rw [Below.heap_alloc _ _ _ hgl, HG2.out, HF.out]
        have HBo : Hid (∀ o, Below w.heap.size w (w2.alloc o)) := fun o => B2.out.alloc B2.out.size o
        clear hkc HNx HNo HAt HX
        go_wp2
        go_ret
        exact ⟨rfl, HGo.out _, HBo.out _⟩
    · obtain rfl : k = n := by omega
      have HF : Hid (wr.heap[w.heap.size]? = some (.cells (lCells R).toArray 2 (0, 0))) := by
        show _ = _
        rw [hgr, hpre, Nat.sub_self]
        rfl
      clear hbr hgr hpre
      go_wp2
      go_ret
      exact ⟨rfl, HF.out, HB.out⟩
end Go.Proofs.YtkhdjmjbdpmdnaaGreatDoor
namespace Go.Proofs.YtkhdjmjbdpmdnaaGreatDoor
open Go.RowKit

set_option linter.unusedSimpArgs false in
set_option maxHeartbeats 4000000 in
set_option maxRecDepth 100000 in
theorem implReadName (s : ByteArray) (w : World) (hs : s.size ≤ 20000) (hE : ErrType w) :
    Calls Tryz.prog 157 #[.string s] w fun e w' => e = .returned (.string (atP s [0, 0, 1])) ∧ Below w.heap.size w w' := by
  have hEp := hE.pos
  have HAt : Hid (∀ V, Below w.heap.size w V → Calls Tryz.prog 144 #[.string s, .slice (some ⟨V.heap.size, 0, none⟩) 3 3] (V.alloc (.cells #[.int .i64 0, .int .i64 0, .int .i64 1] 3 (0, 0))) fun e w' => e = .returned (.string (atP s [0, 0, 1])) ∧ Below w.heap.size w w') := fun V hV => by
    have hA : Below w.heap.size w (V.alloc (.cells #[.int .i64 0, .int .i64 0, .int .i64 1] 3 (0, 0))) := hV.alloc hV.size _
    refine (implAt s [0, 0, 1] V.heap.size 3 _ hs (by show 3 ≤ 4; omega) (fun i hi => ?_) (by simp) (IsPl.row (t := 3) (heap_alloc_new V _)) (hE.below hA hEp)).mono ?_
    · have : i = 0 ∨ i = 1 ∨ i = 2 := by simp at hi; omega
      rcases this with rfl | rfl | rfl <;> simp [List.getD]
    · rintro e w' ⟨rfl, hb⟩
      exact ⟨rfl, hA.trans (hb.mono hA.size)⟩
  have HR0 : Hid (Below w.heap.size w w) := Below.refl _ _
  clear hE hEp hs
  generalize atP s [0, 0, 1] = R at *
  go_enter Tryz.func157, Tryz.ntmps157
  go_wp2_with fail
  refine (HAt.out _ HR0.out).mono ?_
  rintro e w2 ⟨rfl, b2⟩
  have B2 : Hid (Below w.heap.size w w2) := b2
  clear b2
  go_wp2
  go_ret
  exact ⟨rfl, B2.out⟩
end Go.Proofs.YtkhdjmjbdpmdnaaGreatDoor
namespace Go.Proofs.YtkhdjmjbdpmdnaaGreatDoor

section
variable {P : Program} {ops : Array Oper} {Q : Exit → Act → World → Prop} {md : Region.Mode}

/-- How many have not come up yet. -/
def leftN (listed : Array Bool) : Nat := listed.toList.countP (· == false)
theorem countP_set : ∀ (l : List Bool) (i : Nat), l[i]? = some false → (l.set i true).countP (· == false) + 1 = l.countP (· == false)
  | [], i, h => by simp at h
  | b :: l, 0, h => by
    simp at h
    subst h
    simp
  | b :: l, i + 1, h => by
    have := countP_set l i (by simpa using h)
    rw [List.set_cons_succ, List.countP_cons, List.countP_cons]
    omega
theorem leftN_set {listed : Array Bool} {i : Nat} (h : listed.getD i true = false) : leftN (listed.setIfInBounds i true) + 1 = leftN listed := by
  have hi : listed.toList[i]? = some false := by
    rw [Array.getElem?_toList]
    rw [Array.getD_eq_getD_getElem?] at h
    cases he : listed[i]? with
    | none => rw [he] at h; simp at h
    | some b => rw [he] at h; simp at h; rw [h]
  unfold leftN
  rw [Array.toList_setIfInBounds]
  exact countP_set _ _ hi
theorem leftN_pos {listed : Array Bool} {i : Nat} (h : listed.getD i true = false) : 0 < leftN listed := by
  have := leftN_set h
  omega
/-- Operations wait for earlier ones alone. -/
def lowB (md : Region.Mode) (ops : Array Oper) : Bool := (List.range ops.size).all fun i => ((ops[i]?).map fun o => o.after.all fun e => !Region.binds md e || decide (e.on < i)).getD true
theorem low_spec (h : lowB md ops = true) {i : Nat} {o : Oper} (ho : ops[i]? = some o) : ∀ e ∈ o.after, Region.binds md e = true → e.on < i := by
  intro e he hb
  have hi : i < ops.size := by
    rcases Nat.lt_or_ge i ops.size with h' | h'
    · exact h'
    · rw [Array.getElem?_eq_none h'] at ho; cases ho
  have h1 := List.all_eq_true.1 h i (List.mem_range.2 hi)
  rw [ho] at h1
  simp only [Option.map_some, Option.getD_some, Array.all_eq_true_iff_forall_mem] at h1
  have h2 := h1 e he
  rw [hb] at h2
  simpa using h2
/-- If not all have come up, one may. -/
theorem ready_some (hl : lowB md ops = true) (listed : Array Bool) (hs : listed.size = ops.size) : ∀ (n i : Nat), i ≤ n → listed.getD i true = false → Region.ready md ops listed ≠ [] := by
  intro n
  induction n with
  | zero =>
    intro i hi h hn
    obtain rfl : i = 0 := by omega
    have hlt : 0 < ops.size := by
      rcases Nat.lt_or_ge 0 listed.size with h' | h'
      · omega
      · rw [Array.getD_eq_getD_getElem?, Array.getElem?_eq_none h'] at h; simp at h
    have : 0 ∈ Region.ready md ops listed := mem_ready.2 ⟨h, ops[0], Array.getElem?_eq_getElem hlt, fun e he hb => by have := low_spec hl (Array.getElem?_eq_getElem hlt) e he hb; omega⟩
    rw [hn] at this
    cases this
  | succ n ih =>
    intro i hi h hn
    have hlt : i < ops.size := by
      rcases Nat.lt_or_ge i listed.size with h' | h'
      · omega
      · rw [Array.getD_eq_getD_getElem?, Array.getElem?_eq_none h'] at h; simp at h
    by_cases hall : ∀ e ∈ (ops[i]).after, Region.binds md e = true → listed.getD e.on false = true
    · have : i ∈ Region.ready md ops listed := mem_ready.2 ⟨h, ops[i], Array.getElem?_eq_getElem hlt, hall⟩
      rw [hn] at this
      cases this
    · simp only [Classical.not_forall] at hall
      obtain ⟨e, he, hb, hf⟩ := hall
      have hlow := low_spec hl (Array.getElem?_eq_getElem hlt) e he hb
      have hun : listed.getD e.on true = false := by
        have hin : e.on < listed.size := by omega
        rw [Array.getD_eq_getD_getElem?, Array.getElem?_eq_getElem hin] at hf ⊢
        simpa using hf
      exact ih e.on (by omega) hun hn
theorem wpAnyH_inv (I : Array Bool → Act → World → Prop) (hl : lowB md ops = true)
    (hend : ∀ listed a w, I listed a w → (∀ i, i < ops.size → listed.getD i true = true) → Q .normal a w)
    (hstep : ∀ listed a w i o, I listed a w → ops[i]? = some o → listed.size = ops.size → listed.getD i true = false → (∀ e ∈ o.after, Region.binds md e = true → listed.getD e.on false = true) → wpOp P ops Q i (fun a' w' => I (listed.setIfInBounds i true) a' w') a w) :
    ∀ (fuel : Nat) (listed : Array Bool) (a : Act) (w : World), listed.size = ops.size → leftN listed ≤ fuel → I listed a w → wpAnyH P md ops Q (fun _ => True) fuel listed a w := by
  intro fuel
  have hfin : ∀ (listed : Array Bool), listed.size = ops.size → Region.ready md ops listed = [] → ∀ i, i < ops.size → listed.getD i true = true := fun listed hs hr i _ => by
    cases h : listed.getD i true with
    | true => rfl
    | false => exact absurd hr (ready_some hl listed hs i i (Nat.le_refl _) h)
  induction fuel with
  | zero =>
    intro listed a w hs hn hI
    have hr : Region.ready md ops listed = [] := by
      cases hr : Region.ready md ops listed with
      | nil => rfl
      | cons i r =>
        have hm : i ∈ Region.ready md ops listed := by rw [hr]; exact List.mem_cons_self ..
        have := leftN_pos (mem_ready.1 hm).1
        omega
    exact ⟨hr, hend listed a w hI (hfin listed hs hr)⟩
  | succ fuel ih =>
    intro listed a w hs hn hI
    refine ⟨fun hr => hend listed a w hI (hfin listed hs hr), fun i hi => ?_⟩
    obtain ⟨hun, o, ho, haf⟩ := mem_ready.1 hi
    refine wpOp_mono (fun a' w' h => ⟨trivial, ih _ a' w' (by rw [Array.size_setIfInBounds]; exact hs) (by have := leftN_set hun; omega) h⟩) (hstep listed a w i o hI ho hs hun haf)
theorem leftN_start (n : Nat) : leftN (Array.replicate n false) ≤ n := by
  unfold leftN
  refine Nat.le_trans List.countP_le_length ?_
  simp
/-- The whole region. -/
theorem wp_region_inv {id : Nat} {a : Act} {w : World} (I : Array Bool → Act → World → Prop) (hm : P.follows .mixedOrders = true) (hl : lowB .any ops = true)
    (hend : ∀ listed a w, I listed a w → (∀ i, i < ops.size → listed.getD i true = true) → Q .normal a w)
    (hstep : ∀ listed a w i o, I listed a w → ops[i]? = some o → listed.size = ops.size → listed.getD i true = false → (∀ e ∈ o.after, Region.binds .any e = true → listed.getD e.on false = true) → wpOp P ops Q i (fun a' w' => I (listed.setIfInBounds i true) a' w') a w)
    (h0 : I (Array.replicate ops.size false) a w.drew) : (Code.region id ops true).wp P Q a w :=
  wp_region_held_drew (S := fun _ => True) hm trivial fun _ => wpAnyH_inv I hl hend hstep _ _ _ _ (by simp) (leftN_start _) h0
end
end Go.Proofs.YtkhdjmjbdpmdnaaGreatDoor
namespace Go.Proofs.YtkhdjmjbdpmdnaaGreatDoor
open Go.RowKit

theorem getD_tf {l : Array Bool} {j : Nat} (h : l.getD j false = true) : l.getD j true = true := by
  rw [Array.getD_eq_getD_getElem?] at h ⊢
  cases e : l[j]? with
  | none => rfl
  | some b => rw [e] at h; exact h
/-- What a slot may hold. -/
inductive Kd where
  | any
  | eq (v : Value)
  | one (t : TypeId) (n : Int)
  | ints (B : Nat) (f : Value → Value) (l : List Int)
  | strs (B : Nat) (f : Value → Value) (l : List ByteArray)
  | at' (v : Value)
  | row (t : TypeId) (l : List Int)
def Kd.holds : Kd → Value → World → Prop
  | .any, _, _ => True
  | .eq v, t, _ => t = v
  | .one ty n, t, V => ∃ g, t = .slice (some ⟨g, 0, none⟩) 1 1 ∧ V.heap[g]? = some (.cells #[.int .i64 n] ty (0, 0))
  | .ints B f l, t, V => ∃ v, t = f v ∧ OwnL V B v l
  | .strs B f l, t, V => ∃ v, t = f v ∧ OwnS V B v l
  | .at' v, t, V => ∃ ad, t = .pointer (some ad) ∧ V.cell? ad = some v
  | .row ty l, t, V => ∃ g, t = .slice (some ⟨g, 0, none⟩) l.length l.length ∧ V.heap[g]? = some (.cells (lCells l).toArray ty (0, 0))
theorem Kd.keep {k : Kd} {t : Value} {V V' : World} (h : k.holds t V) (hb : Below V.heap.size V V') : k.holds t V' := by
  cases k with
  | any => trivial
  | eq v => exact h
  | one ty n => obtain ⟨g, e, hg⟩ := h; exact ⟨g, e, by rw [hb.block _ (heap_lt hg)]; exact hg⟩
  | ints B f l => obtain ⟨v, e, ho⟩ := h; exact ⟨v, e, ho.keep hb⟩
  | strs B f l => obtain ⟨v, e, ho⟩ := h; exact ⟨v, e, ho.keep hb⟩
  | at' v => obtain ⟨ad, e, hc⟩ := h; exact ⟨ad, e, by rw [hb.cell (World.block_lt_of_cell? V ad hc)]; exact hc⟩
  | row ty l => obtain ⟨g, e, hg⟩ := h; exact ⟨g, e, by rw [hb.block _ (heap_lt hg)]; exact hg⟩

/-- The slots that have come up hold what they should; the others of the frame are as they were. -/
structure Slots (A : Array Value) (D : List Deferred) (base : Nat) (G : List Kd) (listed : Array Bool) (a : Act) (V : World) : Prop where
  size : a.tmps.size = A.size
  defers : a.defers = D
  other : ∀ k, (k < base ∨ base + G.length ≤ k) → a.tmps[k]? = A[k]?
  slot : ∀ j k, G[j]? = some k → listed.getD j true = true → ∃ t, a.tmps[base + j]? = some t ∧ k.holds t V
section
variable {A : Array Value} {D : List Deferred} {base : Nat} {G : List Kd} {listed : Array Bool} {a : Act} {V V' : World}
theorem Slots.put (h : Slots A D base G listed a V) {i : Nat} {k : Kd} {v : Value} (hk : G[i]? = some k) (hA : base + G.length ≤ A.size) (hv : k.holds v V') (hb : Below V.heap.size V V') : Slots A D base G (listed.setIfInBounds i true) (a.put (some (base + i)) v) V' := by
  have hi : i < G.length := by
    rcases Nat.lt_or_ge i G.length with h | h
    · exact h
    · rw [List.getElem?_eq_none h] at hk; cases hk
  refine ⟨?_, h.defers, fun q hq => ?_, fun j kj hj hl => ?_⟩
  · show (a.tmps.setIfInBounds (base + i) v).size = _
    rw [Array.size_setIfInBounds]
    exact h.size
  · show (a.tmps.setIfInBounds (base + i) v)[q]? = _
    rw [Array.getElem?_setIfInBounds_ne (by omega)]
    exact h.other q hq
  · by_cases e : j = i
    · subst e
      rw [hk] at hj
      obtain rfl := Option.some.inj hj
      refine ⟨v, ?_, hv⟩
      show (a.tmps.setIfInBounds (base + j) v)[base + j]? = _
      rw [Array.getElem?_setIfInBounds_self_of_lt (by rw [h.size]; omega)]
    · rw [getD_set_ne true (Ne.symm e)] at hl
      obtain ⟨t, ht, hh⟩ := h.slot j kj hj hl
      refine ⟨t, ?_, Kd.keep hh hb⟩
      show (a.tmps.setIfInBounds (base + i) v)[base + j]? = _
      rw [Array.getElem?_setIfInBounds_ne (by omega)]
      exact ht
theorem eval_of {k : Nat} {t : Value} (h : a.tmps[k]? = some t) : a.eval (.tmp k) = t := by
  show a.tmps.getD k undef = t
  rw [Array.getD_eq_getD_getElem?, h]
  rfl
theorem Slots.get (h : Slots A D base G listed a V) {j : Nat} {k : Kd} (hk : G[j]? = some k) (hl : listed.getD j true = true) : ∃ t, a.eval (.tmp (base + j)) = t ∧ a.tmps[base + j]? = some t ∧ k.holds t V := by
  obtain ⟨t, ht, hh⟩ := h.slot j k hk hl
  exact ⟨t, eval_of ht, ht, hh⟩
theorem Slots.pre' (h : Slots A D base G listed a V) {k : Nat} {v : Value} (hk : A[k]? = some v) (hlt : k < base) : a.tmps[k]? = some v := by
  rw [h.other k (.inl hlt)]
  exact hk
theorem Slots.pre (h : Slots A D base G listed a V) {k : Nat} {v : Value} (hk : A[k]? = some v) (hlt : k < base) : a.eval (.tmp k) = v :=
  eval_of (by rw [h.other k (.inl hlt)]; exact hk)
end
section
variable {P : Program} {ops : Array Oper} {Q : Exit → Act → World → Prop} {a : Act} {V V' : World} {K : Act → World → Prop}
theorem st_val {i : Nat} {o : Oper} {v : Value} (ho : ops[i]? = some o) (hg : o.guard = none) (hr : (execOp a.eval o).run P V = .ok (.value v) V') (hk : K (a.put o.dst v) V') : wpOp P ops Q i K a V :=
  wpOp_step ho fun K' hK => by
    rw [if_pos (by simp [Region.wanted, hg])]
    unfold Oper.wp
    rw [hr]
    exact hK _ _ hk
theorem st_call {i : Nat} {o : Oper} {f : FuncId} {args : Array Value} (ho : ops[i]? = some o) (hg : o.guard = none) (hr : (execOp a.eval o).run P V = .ok (.enter f args) V) (hc : Calls P f args V fun e w' => ∃ r, e = .returned r ∧ K (a.put o.dst r) w') : wpOp P ops Q i K a V :=
  wpOp_step ho fun K' hK => by
    rw [if_pos (by simp [Region.wanted, hg])]
    unfold Oper.wp
    rw [hr]
    refine Calls.mono hc ?_
    rintro e w' ⟨r, rfl, hk⟩
    exact hK _ _ hk
end
end Go.Proofs.YtkhdjmjbdpmdnaaGreatDoor
