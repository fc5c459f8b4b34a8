/- impl.readNumbers, walked. impl.readCsr, walked. FnExactNameRight, walks: 'impl.NameRight' answers true just where the text is a right name; the law. impl.isTime, isSerial, NameRight, walked. impl.isTime, impl.namesRight, walked. -/
import Derived.Test.YtekflbicjokdnaaGreatDoorCR05
import Derived.Test.YtekflbicjokdnaaGreatDoorCR16
import Derived.Test.YtekflbicjokdnaaGreatDoorCR10
import Derived.Deep.Cut
import Derived.Deep.RegionHeld3
import Derived.Test.YtekflbicjokdnaaGreatDoorCR13
import Derived.Test.YtekflbicjokdnaaGreatDoorCR08
import Derived.Test.YtekflbicjokdnaaGreatDoorCR09
import Derived.Test.YtekflbicjokdnaaGreatDoorCR11
import Derived.Test.YtekflbicjokdnaaGreatDoorCR15
import Derived.Test.YtekflbicjokdnaaGreatDoorCR03
import Derived.Test.YtekflbicjokdnaaGreatDoorCR04
import Derived.WalkLawsBesides
namespace Go.Proofs.YtekflbicjokdnaaGreatDoor
open Go.RowKit

set_option linter.unusedSimpArgs false in
set_option maxHeartbeats 4000000 in
set_option maxRecDepth 100000 in
theorem implReadNums (s : ByteArray) (n : Nat) (w : World) (hs : s.size ≤ 20000) (hn : n ≤ 3) (hE : ErrType w) :
    Calls Tryz.prog 64 #[.string s, .int .i64 (n : Int)] w fun e w' => e = .returned (.slice (some ⟨w.heap.size, 0, none⟩) n n) ∧ w'.heap[w.heap.size]? = some (.cells (lCells (numsGo s n 1)).toArray 2 (0, 0)) ∧ Below w.heap.size w w' := by
  obtain ⟨i0, hi, hz0, hz1, hz2⟩ := info_parts infoLong
  have hEp := hE.pos
  have HE : Hid (∀ V, Below w.heap.size w V → ErrType V) := fun V hV => hE.below hV hEp
  have HGt : Hid (∀ V (p : Int), ErrType V → -9223372036854775808 ≤ p → p ≤ 9223372036854775807 → Calls Tryz.prog 112 #[.string s, .int .i64 p] V fun e w' => e = .returned (numV (numAt s p)) ∧ Below V.heap.size V w') := fun V p hV h0 h1 => implGet s p V (by unfold maxLen; omega) h0 h1 hV
  obtain ⟨R, hR⟩ : ∃ R, R = numsGo s n 1 := ⟨_, rfl⟩
  rw [← hR]
  have HR : Hid (R = numsGo s n 1) := hR
  clear hR hE hEp
  go_enter Tryz.func64, Tryz.ntmps64
  go_wp2_with (at_make; refine wpList_make_full _ rfl _ _ 40 rfl w.heap.size 2 i0 (.int .i64 0) 1 Tryz.underlying40 hi hz0 hz1 .i64 .i64 _ _ n rfl rfl ?c1 ?c2 ?c3 ?c4 ?c5 ?_)
  case c1 => omega
  case c2 => omega
  case c3 => rw [hz2]; omega
  case c4 => unfold maxLen; omega
  case c5 => exact Nat.le_refl _
  intro w1 hown hgrow
  have hB1 : Below w.heap.size w w1 := (Below.refl _ w).grown hgrow (Nat.le_refl _) (fun k hk => by cases hk)
  obtain ⟨hrow, hlen⟩ := rowOf hown rfl
  have hz : (madeCells #[Value.int IntKind.i64 0] n).toList = lCells (List.replicate n 0) := by
    have h3 : n = 0 ∨ n = 1 ∨ n = 2 ∨ n = 3 := by omega
    rcases h3 with rfl | rfl | rfl | rfl <;> simp [madeCells, lCells, List.replicate, List.range_succ]
  rw [hz] at hrow
  have HR0 : Hid (w1.heap[w.heap.size]? = some (.cells (lCells (List.replicate n 0)).toArray 2 (0, 0))) := hrow
  have HB1 : Hid (Below w.heap.size w w1) := hB1
  clear hown hgrow hrow hlen hB1 hz
  go_wp2_with fail
  go_loopw [6, 13] (fun q i wr => ∃ (k : Nat) (p : Int) (pre : List Int), k ≤ n ∧ i = .int .i64 k ∧ q = .int .i64 p ∧ 0 ≤ p ∧ p ≤ 20000 ∧ pre.length = k ∧ R = pre ++ numsGo s (n - k) p ∧ wr.heap[w.heap.size]? = some (.cells (lCells (pre ++ List.replicate (n - k) 0)).toArray 2 (0, 0)) ∧ Below w.heap.size w wr) (fun _ i _ => n - (intOf i).toNat)
  case atStart => exact ⟨0, 1, [], Nat.zero_le _, rfl, rfl, by omega, by omega, rfl, HR.out, HR0.out, HB1.out⟩
  case round =>
    obtain ⟨k, p, pre, hk, rfl, rfl, hp0, hp1, hpl, hpre, hgr, hbr⟩ := hrel
    have HB : Hid (Below w.heap.size w wr) := hbr
    by_cases hlt : k < n
    · have HC : Hid (Calls Tryz.prog 112 #[.string s, .int .i64 p] wr fun e w' => e = .returned (numV (numAt s p)) ∧ Below wr.heap.size wr w') := HGt.out wr p (HE.out _ hbr) (by omega) (by omega)
      unfold numV at HC
      have HX : Hid (R = pre ++ numsGo s (n - k) p) := hpre
      have HG : Hid (wr.heap[w.heap.size]? = some (.cells (lCells (pre ++ List.replicate (n - k) 0)).toArray 2 (0, 0))) := hgr
      have HNx : Hid (∀ h : (numAt s p).code = 0, numsGo s (n - k) p = (numAt s p).n :: numsGo s (n - (k + 1)) (numAt s p).at') := fun h => by
        rw [show n - k = (n - (k + 1)) + 1 from by omega, numsGo, if_pos h]
      have HNo : Hid (∀ h : ¬ (numAt s p).code = 0, numsGo s (n - k) p = List.replicate (n - k) 0) := fun h => by
        rw [show n - k = (n - (k + 1)) + 1 from by omega, numsGo, if_neg h]
      have HAt : Hid ((numAt s p).code = 0 → 0 ≤ (numAt s p).at' ∧ (numAt s p).at' ≤ 20000) := fun h => by have := numAt_at h; omega
      generalize (numAt s p).n = rn at *
      generalize (numAt s p).at' = ra at *
      generalize (numAt s p).code = rc at *
      have a0 : (0 : Int) ≤ (k : Int) := by omega
      have b0 : (k : Int) < (n : Int) := by omega
      have HPl : Hid (pre.length = k) := hpl
      clear hpre hgr hbr hpl HGt
      go_wp2_with fail
      refine HC.out.mono ?_
      rintro e w2 ⟨rfl, b2⟩
      have B2 : Hid (Below w.heap.size w w2) := HB.out.trans (b2.mono HB.out.size)
      have HG2 : Hid (w2.heap[w.heap.size]? = some (.cells (lCells (pre ++ List.replicate (n - k) 0)).toArray 2 (0, 0))) := (b2.block _ (heap_lt HG.out)).trans HG.out
      clear b2 HG HC
      have hgl := heap_lt HG2.out
      have hkc : (lCells (pre ++ List.replicate (n - k) 0))[k]? = some (.int .i64 0) := by
        rw [lCells, List.getElem?_map, List.getElem?_append_right (by rw [HPl.out]; exact Nat.le_refl _), HPl.out, Nat.sub_self, show n - k = (n - (k + 1)) + 1 from by omega, List.replicate_succ]
        rfl
      by_cases hc : rc = 0
      · have hat := HAt.out hc
        have HF : Hid (∃ (j : Nat) (p' : Int) (pre' : List Int), j ≤ n ∧ Value.int .i64 ((k : Int) + 1) = .int .i64 (j : Int) ∧ Value.int .i64 ra = .int .i64 p' ∧ 0 ≤ p' ∧ p' ≤ 20000 ∧ pre'.length = j ∧ R = pre' ++ numsGo s (n - j) p' ∧ (lCells (pre ++ List.replicate (n - k) 0)).set k (.int .i64 rn) = lCells (pre' ++ List.replicate (n - j) 0)) :=
          ⟨k + 1, ra, pre ++ [rn], by omega, by congr 1, rfl, hat.1, hat.2, by rw [List.length_append, HPl.out]; rfl, by rw [HX.out, HNx.out hc, List.append_assoc]; rfl, by
            rw [lCells, lCells, List.map_append, List.set_append, if_neg (by simp [HPl.out]), List.length_map, HPl.out, Nat.sub_self, show n - k = (n - (k + 1)) + 1 from by omega, List.replicate_succ, List.map_cons, List.set_cons_zero, List.append_assoc, List.map_append, List.singleton_append, List.map_cons]⟩
        subst hc
        obtain ⟨w3, hw3⟩ : ∃ y, y = w2.alloc (.cells #[.int .i64 rn, .int .i64 ra, .int .i64 0] 113 (0, 0)) := ⟨_, rfl⟩
        have r3 : w3.heap[w.heap.size]? = some (.cells (lCells (pre ++ List.replicate (n - k) 0)).toArray 2 (0, 0)) := by rw [hw3, Below.heap_alloc _ _ _ hgl]; exact HG2.out
        have q3 : w3.heap[w2.heap.size]? = some (.cells [Value.int .i64 rn, .int .i64 ra, .int .i64 0].toArray 113 (0, 0)) := by rw [hw3]; exact heap_alloc_new w2 _
        have B3 : Hid (Below w.heap.size w w3) := by rw [hw3]; exact B2.out.alloc B2.out.size _
        have HNz : Hid (w.heap.size < w2.heap.size) := hgl
        have hd := rowFacts r3 k _ hkc
        have hf := rowFree r3 k
        have y0 := rowFacts q3 0 _ rfl
        have y1 := rowFacts q3 1 _ rfl
        have y2 := rowFacts q3 2 _ rfl
        have HG3 : Hid (∀ v, (w3.setCell ⟨w.heap.size, k, none⟩ v).heap[w.heap.size]? = some (.cells ((lCells (pre ++ List.replicate (n - k) 0)).set k v).toArray 2 (0, 0))) := fun v => rowSet v r3
        have HB3 : Hid (∀ v, Below w.heap.size w (w3.setCell ⟨w.heap.size, k, none⟩ v)) := fun v => B3.out.setCell (Nat.le_refl _) v
        clear r3 q3 hkc HNx HNo HAt hat HX
        go_upto_region 8 with fail
        rw [← hw3]
        clear hw3
        have D3 : Hid (Below w.heap.size w w3.drew) := B3.out.drew
        refine wp_region_held_drew (S := fun V => V.cell? ⟨w2.heap.size, 0, none⟩ = some (.int .i64 rn) ∧ V.cell? ⟨w2.heap.size, 1, none⟩ = some (.int .i64 ra)) (by kernel_rfl) ?_ (fun hHeld => ?_)
        · exact ⟨y0, y1⟩
        refine wpAnyH_take (i := 0) (oi := ⟨some 22, _, _, _, _, _⟩) (v := ?_) rfl (by kernel_rfl) (by kernel_rfl) (by kernel_rfl) (fun _ _ _ h => h) (Or.inl ⟨by kernel_rfl, ?_⟩) (by assumption) ?_
        rotate_left
        · (intro w hSw; (try dsimp only at hSw); go_simp; try with_reducible rfl)
        (try simp only [Act.put, List.setIfInBounds_toArray, List.set_cons_zero, List.set_cons_succ])
        refine wpAnyH_take (i := 1) (oi := ⟨some 23, _, _, _, _, _⟩) (v := ?_) rfl (by kernel_rfl) (by kernel_rfl) (by kernel_rfl) (fun _ _ _ h => h) (Or.inl ⟨by kernel_rfl, ?_⟩) (by assumption) ?_
        rotate_left
        · (intro w hSw; (try dsimp only at hSw); go_simp; try with_reducible rfl)
        (try simp only [Act.put, List.setIfInBounds_toArray, List.set_cons_zero, List.set_cons_succ])
        refine wpAnyH_take (i := 2) (oi := ⟨some 24, _, _, _, _, _⟩) (v := ?_) rfl (by kernel_rfl) (by kernel_rfl) (by kernel_rfl) (fun _ _ _ h => h) (Or.inl ⟨by kernel_rfl, ?_⟩) (by assumption) ?_
        rotate_left
        · (intro w hSw; (try dsimp only at hSw); go_simp; try with_reducible rfl)
        (try simp only [Act.put, List.setIfInBounds_toArray, List.set_cons_zero, List.set_cons_succ])
        refine wpAnyH_take (i := 3) (oi := ⟨some 25, _, _, _, _, _⟩) (v := ?_) rfl (by kernel_rfl) (by kernel_rfl) (by kernel_rfl) (fun _ _ _ h => h) (Or.inl ⟨by kernel_rfl, ?_⟩) (by assumption) ?_
        rotate_left
        · (intro w hSw; (try dsimp only at hSw); go_simp; try with_reducible rfl)
        (try simp only [Act.put, List.setIfInBounds_toArray, List.set_cons_zero, List.set_cons_succ])
        refine wpAnyH_take (i := 4) (oi := ⟨some 26, _, _, _, _, _⟩) (v := ?_) rfl (by kernel_rfl) (by kernel_rfl) (by kernel_rfl) (fun _ _ _ h => h) (Or.inl ⟨by kernel_rfl, ?_⟩) (by assumption) ?_
        rotate_left
        · (intro w hSw; (try dsimp only at hSw); go_simp; try with_reducible rfl)
        (try simp only [Act.put, List.setIfInBounds_toArray, List.set_cons_zero, List.set_cons_succ])
        refine wpAnyH_take (i := 5) (oi := ⟨some 27, _, _, _, _, _⟩) (v := ?_) rfl (by kernel_rfl) (by kernel_rfl) (by kernel_rfl) (fun _ _ _ h => h) (Or.inl ⟨by kernel_rfl, ?_⟩) (by assumption) ?_
        rotate_left
        · (intro w hSw; (try dsimp only at hSw); go_simp; try with_reducible rfl)
        (try simp only [Act.put, List.setIfInBounds_toArray, List.set_cons_zero, List.set_cons_succ])
        refine wpAnyH_take (i := 6) (oi := ⟨some 28, _, _, _, _, _⟩) (v := ?_) rfl (by kernel_rfl) (by kernel_rfl) (by kernel_rfl) (fun _ _ _ h => h) (Or.inl ⟨by kernel_rfl, ?_⟩) (by assumption) ?_
        rotate_left
        · (intro w hSw; (try dsimp only at hSw); go_simp; try with_reducible rfl)
        (try simp only [Act.put, List.setIfInBounds_toArray, List.set_cons_zero, List.set_cons_succ])
        refine wpAnyH_ready (rs := [7]) (by kernel_rfl) (by simp) ?_
        refine AllReadyH.cons (o := ⟨none, _, _, _, _, _⟩) rfl (fun K hK => ?_) AllReadyH.nil
        have hd' : w3.drew.cell? ⟨w.heap.size, k, none⟩ = some (.int .i64 0) := hd
        have hf' : w3.drew.frozen? ⟨w.heap.size, k, none⟩ = false := hf
        go_simp
        refine hK.out _ _ ?_ (fun hHeld => ?_)
        · have hne : w2.heap.size ≠ w.heap.size := by have := HNz.out; omega
          exact ⟨(World.cell?_setCell_far w3 ⟨w.heap.size, k, none⟩ ⟨w2.heap.size, 0, none⟩ (.int .i64 rn) (by show w.heap.size ≠ w2.heap.size; omega)).trans y0, (World.cell?_setCell_far w3 ⟨w.heap.size, k, none⟩ ⟨w2.heap.size, 1, none⟩ (.int .i64 rn) (by show w.heap.size ≠ w2.heap.size; omega)).trans y1⟩
        clear hK K
        (try simp only [Act.put, List.setIfInBounds_toArray, List.set_cons_zero, List.set_cons_succ])
        refine wpAnyH_take (i := 8) (oi := ⟨some 6, _, _, _, _, _⟩) (v := ?_) rfl (by kernel_rfl) (by kernel_rfl) (by kernel_rfl) (fun _ _ _ h => h) (Or.inl ⟨by kernel_rfl, ?_⟩) (by assumption) ?_
        rotate_left
        · (intro w hSw; (try dsimp only at hSw); go_simp; try with_reducible rfl)
        (try simp only [Act.put, List.setIfInBounds_toArray, List.set_cons_zero, List.set_cons_succ])
        refine wpAnyH_done (by kernel_rfl) ?_ _
        clear hHeld hd' hf' hd hf y0 y1 y2
        go_wp2
        go_roundw
        case rel =>
          obtain ⟨j, p', pre', j1, j2, j3, j4, j5, j6, j7, j8⟩ := HF.out
          exact ⟨j, p', pre', j1, by first | exact j2 | (rw [← j2]; simp; omega), j3, j4, j5, j6, j7, by show (w3.setCell ⟨w.heap.size, k, none⟩ (.int .i64 rn)).heap[w.heap.size]? = _; rw [HG3.out, j8], (HB3.out _).drew⟩
        case measure => simp [intOf]; omega
      · have HF : Hid (R = pre ++ List.replicate (n - k) 0) := by show _ = _; rw [HX.out, HNo.out hc]
        have HGo : Hid (∀ o, (w2.alloc o).heap[w.heap.size]? = some (.cells (lCells R).toArray 2 (0, 0))) := fun o => by rw [Below.heap_alloc _ _ _ hgl, HG2.out, HF.out]
        have HBo : Hid (∀ o, Below w.heap.size w (w2.alloc o)) := fun o => B2.out.alloc B2.out.size o
        clear hkc HNx HNo HAt HX
        go_wp2
        go_ret
        exact ⟨rfl, HGo.out _, HBo.out _⟩
    · obtain rfl : k = n := by omega
      have HF : Hid (wr.heap[w.heap.size]? = some (.cells (lCells R).toArray 2 (0, 0))) := by
        show _ = _
        rw [hgr, hpre, Nat.sub_self]
        rfl
      clear hbr hgr hpre
      go_wp2
      go_ret
      exact ⟨rfl, HF.out, HB.out⟩
end Go.Proofs.YtekflbicjokdnaaGreatDoor
namespace Go.Proofs.YtekflbicjokdnaaGreatDoor
open Go.RowKit

/-- What is read of what is asked for. -/
def readA (s : ByteArray) : Ask :=
  let k := (numsGo (atP (atP (atP s [0]) [0]) [1]) 1 1).getD 0 0
  let n := numsGo (atP (atP s [0]) [1]) 2 1
  ⟨k, bodiesR (atP (atP (atP s [0]) [0]) [2]), k, n.getD 0 0, n.getD 1 0⟩
set_option linter.unusedSimpArgs false in
set_option maxHeartbeats 4000000 in
set_option maxRecDepth 100000 in
theorem implReadCsr (s : ByteArray) (w : World) (hs : s.size ≤ 20000) (hE : ErrType w) :
    Calls Tryz.prog 34 #[.string s] w fun e w' => ∃ v, e = .returned ((readA s).val v) ∧ OwnS w' w.heap.size v (readA s).names ∧ Below w.heap.size w w' := by
  have hEp := hE.pos
  obtain ⟨w1, hw1⟩ : ∃ y, y = w.alloc (.cells #[.int .i64 0, .slice none 0 0, .int .i64 0, .int .i64 0, .int .i64 0] 34 (0, 0)) := ⟨_, rfl⟩
  have hz : w1.heap.size = w.heap.size + 1 := by rw [hw1]; simp
  have hg1 : w1.heap[w.heap.size]? = some (.cells [Value.int .i64 0, .slice none 0 0, .int .i64 0, .int .i64 0, .int .i64 0].toArray 34 (0, 0)) := by rw [hw1]; exact heap_alloc_new w _
  have hB1 : Below w.heap.size w w1 := by rw [hw1]; exact (Below.refl _ w).alloc (Nat.le_refl _) _
  have HB : Hid (∀ V, Below w1.heap.size w1 V → Below w.heap.size w V) := fun V hV => hB1.trans (hV.mono (by omega))
  have HE : Hid (∀ V, Below w1.heap.size w1 V → ErrType V) := fun V hV => hE.below (HB.out V hV) hEp
  have HRes : Hid (∀ V, Below w1.heap.size w1 V → V.heap[w.heap.size]? = some (.cells [Value.int .i64 0, .slice none 0 0, .int .i64 0, .int .i64 0, .int .i64 0].toArray 34 (0, 0))) := fun V hV => by rw [hV.block _ (by omega)]; exact hg1
  have HAt : Hid (∀ V q k, k ≤ 3 → q.size ≤ 20000 → Below w1.heap.size w1 V → Calls Tryz.prog 60 #[.string q, .slice (some ⟨V.heap.size, 0, none⟩) 1 1] (V.alloc (.cells #[.int .i64 ((k : Nat) : Int)] 3 (0, 0))) fun e w' => e = .returned (.string (atP q [k])) ∧ Below V.heap.size V w') := fun V q k hk hq hV => by
    have hA : Below V.heap.size V (V.alloc (.cells #[.int .i64 ((k : Nat) : Int)] 3 (0, 0))) := (Below.refl _ V).alloc (Nat.le_refl _) _
    refine (implAt q [k] V.heap.size 1 _ hq (by show 1 ≤ 4; omega) (fun i hi => ?_) (by simp) (IsPl.row (t := 3) (heap_alloc_new V _)) (HE.out _ (hV.trans (hA.mono hV.size)))).mono ?_
    · obtain rfl : i = 0 := by simp at hi; omega
      show k ≤ 100
      omega
    · rintro e w' ⟨rfl, hb⟩
      exact ⟨rfl, hA.trans (hb.mono (by simp))⟩
  have HNu : Hid (∀ V q (n : Nat), n ≤ 3 → q.size ≤ 20000 → Below w1.heap.size w1 V → Calls Tryz.prog 64 #[.string q, .int .i64 (n : Int)] V fun e w' => e = .returned (.slice (some ⟨V.heap.size, 0, none⟩) n n) ∧ w'.heap[V.heap.size]? = some (.cells (lCells (numsGo q n 1)).toArray 2 (0, 0)) ∧ Below V.heap.size V w') := fun V q n hn hq hV => implReadNums q n V hq hn (HE.out V hV)
  have HNa : Hid (∀ V q, q.size ≤ 20000 → Below w1.heap.size w1 V → Calls Tryz.prog 82 #[.string q] V fun e w' => ∃ v, e = .returned v ∧ OwnS w' V.heap.size v (bodiesR q) ∧ Below V.heap.size V w') := fun V q hq hV => implReadNames q V hq (HE.out V hV)
  have HLe : Hid (∀ q k, q.size ≤ 20000 → (atP q [k]).size ≤ 20000) := fun q k h => Nat.le_trans (atP_le [k] q) h
  have HN1 : Hid (∀ q, ∃ x, numsGo q 1 1 = [x]) := fun q => by
    have := numsGo_len q 1 1
    match h : numsGo q 1 1, this with
    | [x], _ => exact ⟨x, rfl⟩
  have HN2 : Hid (∀ q, ∃ x y, numsGo q 2 1 = [x, y]) := fun q => by
    have := numsGo_len q 2 1
    match h : numsGo q 2 1, this with
    | [x, y], _ => exact ⟨x, y, rfl⟩
  have HR0 : Hid (∃ wh bd kq nq nm, wh = atP s [0] ∧ bd = atP wh [0] ∧ kq = atP bd [1] ∧ nq = atP wh [1] ∧ nm = atP bd [2] ∧ readA s = ⟨(numsGo kq 1 1).getD 0 0, bodiesR nm, (numsGo kq 1 1).getD 0 0, (numsGo nq 2 1).getD 0 0, (numsGo nq 2 1).getD 1 0⟩) := ⟨_, _, _, _, _, rfl, rfl, rfl, rfl, rfl, rfl⟩
  obtain ⟨wh, bd, kq, nq, nm, e1, e2, e3, e4, e5, eR⟩ := HR0.out
  rw [eR]
  have C1 : Hid (wh = atP s [0] ∧ wh.size ≤ 20000) := ⟨e1, by rw [e1]; exact HLe.out _ _ hs⟩
  have C2 : Hid (bd = atP wh [0] ∧ bd.size ≤ 20000) := ⟨e2, by rw [e2]; exact HLe.out _ _ C1.out.2⟩
  have C3 : Hid (kq = atP bd [1] ∧ kq.size ≤ 20000) := ⟨e3, by rw [e3]; exact HLe.out _ _ C2.out.2⟩
  have C4 : Hid (nq = atP wh [1] ∧ nq.size ≤ 20000) := ⟨e4, by rw [e4]; exact HLe.out _ _ C1.out.2⟩
  have C5 : Hid (nm = atP bd [2] ∧ nm.size ≤ 20000) := ⟨e5, by rw [e5]; exact HLe.out _ _ C2.out.2⟩
  obtain ⟨k0, hk0⟩ := HN1.out kq
  obtain ⟨n0, n1, hn⟩ := HN2.out nq
  rw [hk0, hn]
  have HK : Hid (lCells (numsGo kq 1 1) = [.int .i64 k0]) := by show _ = _; rw [hk0]; rfl
  have HN : Hid (lCells (numsGo nq 2 1) = [.int .i64 n0, .int .i64 n1]) := by show _ = _; rw [hn]; rfl
  have H0 : Hid (s.size ≤ 20000) := hs
  have HR1 : Hid (Below w1.heap.size w1 w1) := Below.refl _ _
  have Z1 : Hid (w1.heap.size = w.heap.size + 1) := hz
  clear hE hEp HR0 e1 e2 e3 e4 e5 eR hk0 hn HN1 HN2 hg1 hB1 HLe hs
  go_enter Tryz.func34, Tryz.ntmps34
  go_wp2_with fail
  rw [← hw1, ← hz]
  refine (HAt.out w1 s 0 (by omega) H0.out HR1.out).mono ?_
  rintro e w2 ⟨rfl, b2⟩
  rw [← C1.out.1]
  have B2 : Hid (Below w1.heap.size w1 w2) := b2
  clear b2 hw1 hz
  go_wp2_with fail
  refine (HAt.out w2 wh 0 (by omega) C1.out.2 B2.out).mono ?_
  rintro e w3 ⟨rfl, b3⟩
  rw [← C2.out.1]
  have B3 : Hid (Below w1.heap.size w1 w3) := B2.out.trans (b3.mono B2.out.size)
  clear b3
  go_wp2_with fail
  refine (HAt.out w3 bd 1 (by omega) C2.out.2 B3.out).mono ?_
  rintro e w4 ⟨rfl, b4⟩
  rw [← C3.out.1]
  have B4 : Hid (Below w1.heap.size w1 w4) := B3.out.trans (b4.mono B3.out.size)
  clear b4
  go_wp2_with fail
  refine (HNu.out w4 kq 1 (by omega) C3.out.2 B4.out).mono ?_
  rintro e w5 ⟨rfl, g5, b5⟩
  have B5 : Hid (Below w1.heap.size w1 w5) := B4.out.trans (b5.mono B4.out.size)
  rw [HK.out] at g5
  have q0 := rowFacts g5 0 _ rfl
  clear b5 g5
  go_wp2_with fail
  refine (HAt.out w5 wh 1 (by omega) C1.out.2 B5.out).mono ?_
  rintro e w6 ⟨rfl, b6⟩
  rw [← C4.out.1]
  have B6 : Hid (Below w1.heap.size w1 w6) := B5.out.trans (b6.mono B5.out.size)
  clear b6 q0
  go_wp2_with fail
  refine (HNu.out w6 nq 2 (by omega) C4.out.2 B6.out).mono ?_
  rintro e w7 ⟨rfl, g7, b7⟩
  have B7 : Hid (Below w1.heap.size w1 w7) := B6.out.trans (b7.mono B6.out.size)
  rw [HN.out] at g7
  have q0 := rowFacts g7 0 _ rfl
  have q1 := rowFacts g7 1 _ rfl
  have Q7 : Hid _ := g7
  clear g7 b7
  go_upto_region 5 with fail
  have HK7 : Hid (∀ V, Below w7.heap.size w7 V → V.cell? ⟨w6.heap.size, 0, none⟩ = some (.int .i64 n0) ∧ V.cell? ⟨w6.heap.size, 1, none⟩ = some (.int .i64 n1)) := fun V hV => by
    have hP := (hV.block _ (heap_lt Q7.out)).trans Q7.out
    exact ⟨rowFacts hP 0 _ rfl, rowFacts hP 1 _ rfl⟩
  have D7 : Hid (Below w7.heap.size w7 w7.drew) := (Below.refl _ _ : Below w7.heap.size w7 w7).drew
  have HQ : Hid (∀ V, Below w7.heap.size w7 V → Below w1.heap.size w1 V) := fun V hV => B7.out.trans (hV.mono B7.out.size)
  refine wp_region_held_drew (S := fun V => V.cell? ⟨w6.heap.size, 0, none⟩ = some (.int .i64 n0) ∧ V.cell? ⟨w6.heap.size, 1, none⟩ = some (.int .i64 n1)) (by kernel_rfl) ?_ (fun hHeld => ?_)
  · exact HK7.out _ D7.out
  refine wpAnyH_take (i := 0) (oi := ⟨some 23, _, _, _, _, _⟩) (v := ?_) rfl (by kernel_rfl) (by kernel_rfl) (by kernel_rfl) (fun _ _ _ h => h) (Or.inl ⟨by kernel_rfl, ?_⟩) (by assumption) ?_
  rotate_left
  · (intro w hSw; (try dsimp only at hSw); go_simp; try with_reducible rfl)
  (try simp only [Act.put, List.setIfInBounds_toArray, List.set_cons_zero, List.set_cons_succ])
  refine wpAnyH_take (i := 1) (oi := ⟨some 24, _, _, _, _, _⟩) (v := ?_) rfl (by kernel_rfl) (by kernel_rfl) (by kernel_rfl) (fun _ _ _ h => h) (Or.inl ⟨by kernel_rfl, ?_⟩) (by assumption) ?_
  rotate_left
  · (intro w hSw; (try dsimp only at hSw); go_simp; try with_reducible rfl)
  (try simp only [Act.put, List.setIfInBounds_toArray, List.set_cons_zero, List.set_cons_succ])
  refine wpAnyH_take (i := 5) (oi := ⟨some 28, _, _, _, _, _⟩) (v := ?_) rfl (by kernel_rfl) (by kernel_rfl) (by kernel_rfl) (fun _ _ _ h => h) (Or.inl ⟨by kernel_rfl, ?_⟩) (by assumption) ?_
  rotate_left
  · (intro w hSw; (try dsimp only at hSw); go_simp; try with_reducible rfl)
  (try simp only [Act.put, List.setIfInBounds_toArray, List.set_cons_zero, List.set_cons_succ])
  refine wpAnyH_take (i := 6) (oi := ⟨some 29, _, _, _, _, _⟩) (v := ?_) rfl (by kernel_rfl) (by kernel_rfl) (by kernel_rfl) (fun _ _ _ h => h) (Or.inl ⟨by kernel_rfl, ?_⟩) (by assumption) ?_
  rotate_left
  · (intro w hSw; (try dsimp only at hSw); go_simp; try with_reducible rfl)
  (try simp only [Act.put, List.setIfInBounds_toArray, List.set_cons_zero, List.set_cons_succ])
  refine wpAnyH_take (i := 7) (oi := ⟨some 30, _, _, _, _, _⟩) (v := ?_) rfl (by kernel_rfl) (by kernel_rfl) (by kernel_rfl) (fun _ _ _ h => h) (Or.inl ⟨by kernel_rfl, ?_⟩) (by assumption) ?_
  rotate_left
  · (intro w hSw; (try dsimp only at hSw); go_simp; try with_reducible rfl)
  (try simp only [Act.put, List.setIfInBounds_toArray, List.set_cons_zero, List.set_cons_succ])
  refine wpAnyH_take (i := 8) (oi := ⟨some 31, _, _, _, _, _⟩) (v := ?_) rfl (by kernel_rfl) (by kernel_rfl) (by kernel_rfl) (fun _ _ _ h => h) (Or.inl ⟨by kernel_rfl, ?_⟩) (by assumption) ?_
  rotate_left
  · (intro w hSw; (try dsimp only at hSw); go_simp; try with_reducible rfl)
  (try simp only [Act.put, List.setIfInBounds_toArray, List.set_cons_zero, List.set_cons_succ])
  refine wpAnyH_take (i := 9) (oi := ⟨some 32, _, _, _, _, _⟩) (v := ?_) rfl (by kernel_rfl) (by kernel_rfl) (by kernel_rfl) (fun _ _ _ h => h) (Or.inl ⟨by kernel_rfl, ?_⟩) (by assumption) ?_
  rotate_left
  · (intro w hSw; (try dsimp only at hSw); go_simp; try with_reducible rfl)
  (try simp only [Act.put, List.setIfInBounds_toArray, List.set_cons_zero, List.set_cons_succ])
  refine wpAnyH_take (i := 10) (oi := ⟨some 33, _, _, _, _, _⟩) (v := ?_) rfl (by kernel_rfl) (by kernel_rfl) (by kernel_rfl) (fun _ _ _ h => h) (Or.inl ⟨by kernel_rfl, ?_⟩) (by assumption) ?_
  rotate_left
  · (intro w hSw; (try dsimp only at hSw); go_simp; try with_reducible rfl)
  (try simp only [Act.put, List.setIfInBounds_toArray, List.set_cons_zero, List.set_cons_succ])
  refine wpAnyH_take (i := 11) (oi := ⟨some 34, _, _, _, _, _⟩) (v := ?_) rfl (by kernel_rfl) (by kernel_rfl) (by kernel_rfl) (fun _ _ _ h => h) (Or.inl ⟨by kernel_rfl, ?_⟩) (by assumption) ?_
  rotate_left
  · (intro w hSw; (try dsimp only at hSw); go_simp; try with_reducible rfl)
  (try simp only [Act.put, List.setIfInBounds_toArray, List.set_cons_zero, List.set_cons_succ])
  refine wpAnyH_take (i := 12) (oi := ⟨some 35, _, _, _, _, _⟩) (v := ?_) rfl (by kernel_rfl) (by kernel_rfl) (by kernel_rfl) (fun _ _ _ h => h) (Or.inl ⟨by kernel_rfl, ?_⟩) (by assumption) ?_
  rotate_left
  · (intro w hSw; (try dsimp only at hSw); go_simp; try with_reducible rfl)
  (try simp only [Act.put, List.setIfInBounds_toArray, List.set_cons_zero, List.set_cons_succ])
  refine wpAnyH_ready (rs := [2]) (by kernel_rfl) (by simp) ?_
  refine AllReadyH.cons (o := ⟨some 25, _, _, _, _, _⟩) rfl (fun K hK => ?_) AllReadyH.nil
  go_simp
  refine hK.out _ _ ?_ (fun hHeld => ?_)
  · exact HK7.out _ (D7.out.alloc D7.out.size _)
  clear hK K
  (try simp only [Act.put, List.setIfInBounds_toArray, List.set_cons_zero, List.set_cons_succ])
  refine wpAnyH_ready (rs := [3]) (by kernel_rfl) (by simp) ?_
  refine AllReadyH.cons (o := ⟨some 26, _, _, _, _, _⟩) rfl (fun K hK => ?_) AllReadyH.nil
  go_simp
  refine (HAt.out w7.drew bd 2 (by omega) C2.out.2 (HQ.out _ D7.out)).mono ?_
  rintro e V1 ⟨rfl, bV⟩
  rw [← C5.out.1]
  have J1 : Hid (Below w7.heap.size w7 V1) := D7.out.trans (bV.mono D7.out.size)
  refine hK.out _ _ ?_ (fun hHeld => ?_)
  · exact HK7.out _ J1.out
  clear hK K bV
  (try simp only [Act.put, List.setIfInBounds_toArray, List.set_cons_zero, List.set_cons_succ])
  refine wpAnyH_ready (rs := [4]) (by kernel_rfl) (by simp) ?_
  refine AllReadyH.cons (o := ⟨some 27, _, _, _, _, _⟩) rfl (fun K hK => ?_) AllReadyH.nil
  go_simp
  refine (HNa.out V1 nm C5.out.2 (HQ.out _ J1.out)).mono ?_
  rintro e V2 ⟨v, rfl, o2, bV⟩
  have J2 : Hid (Below w7.heap.size w7 V2) := J1.out.trans (bV.mono J1.out.size)
  refine hK.out _ _ ?_ (fun hHeld => ?_)
  · exact HK7.out _ J2.out
  clear hK K bV
  (try simp only [Act.put, List.setIfInBounds_toArray, List.set_cons_zero, List.set_cons_succ])
  obtain ⟨va, vc, hv', _⟩ := OwnS.form o2
  subst hv'
  obtain ⟨nl, hnl⟩ : ∃ nl, nl = (bodiesR nm).length := ⟨_, rfl⟩
  rw [← hnl] at o2 ⊢
  have z6 : w.heap.size + 1 ≤ V1.heap.size := by have := B7.out.size; have := J1.out.size; have := Z1.out; omega
  have O2 : Hid (OwnS V2 (w.heap.size + 1) (.slice va nl vc) (bodiesR nm)) := o2.mono z6
  clear o2 z6 hnl
  refine wpAnyH_take (i := 13) (oi := ⟨some 36, _, _, _, _, _⟩) (v := ?_) rfl (by kernel_rfl) (by kernel_rfl) (by kernel_rfl) (fun _ _ _ h => h) (Or.inl ⟨by kernel_rfl, ?_⟩) (by assumption) ?_
  rotate_left
  · (intro w hSw; (try dsimp only at hSw); go_simp; try with_reducible rfl)
  (try simp only [Act.put, List.setIfInBounds_toArray, List.set_cons_zero, List.set_cons_succ])
  refine wpAnyH_ready (rs := [14]) (by kernel_rfl) (by simp) ?_
  refine AllReadyH.cons (o := ⟨none, _, _, _, _, _⟩) rfl (fun K hK => ?_) AllReadyH.nil
  rw [if_pos (by rfl)]
  refine wp_store_row 34 _ _ rfl (w.heap.size) [Value.int .i64 0, .slice none 0 0, .int .i64 0, .int .i64 0, .int .i64 0] [Value.int .i64 k0, .slice va nl vc, .int .i64 k0, .int .i64 n0, .int .i64 n1] 34 rfl rfl (HRes.out _ (HQ.out _ J2.out)) rfl sizeCsr (by simp [Value.oneCell']) ?_
  intro w8 hrow ho hs8 hbb
  have HROW : Hid _ := hrow
  have HB8 : Hid (Below w.heap.size w w8) := hbb _ _ (by omega) (HB.out _ (HQ.out _ J2.out))
  have O8 : Hid (OwnS w8 (w.heap.size + 1) (.slice va nl vc) (bodiesR nm)) := O2.out.same fun b h1 h2 => ho b (by omega)
  have hne : w6.heap.size ≠ w.heap.size := by have := B6.out.size; have := Z1.out; omega
  refine hK.out _ _ ?_ (fun hHeld => ?_)
  · have hP := (ho _ hne).trans ((J2.out.block _ (heap_lt Q7.out)).trans Q7.out)
    exact ⟨rowFacts hP 0 _ rfl, rowFacts hP 1 _ rfl⟩
  clear hK K ho hs8 hbb hrow
  (try simp only [Act.put, List.setIfInBounds_toArray, List.set_cons_zero, List.set_cons_succ])
  refine wpAnyH_done (by kernel_rfl) ?_ _
  go_wp2
  refine bodyPost_ret (v := .agg [Value.int .i64 k0, .slice va nl vc, .int .i64 k0, .int .i64 n0, .int .i64 n1].toArray) ?_ rfl ⟨.slice va nl vc, rfl, O8.out.mono (by omega), HB8.out⟩
  have hl3 := run_loadVar_mid (P := Tryz.prog) _ (w.heap.size) 0 34 _ _ (rangeRow HROW.out) Tryz.underlying34 rfl sizeCsr
  simp [results, Tryz.results34, asAddr, hl3]
end Go.Proofs.YtekflbicjokdnaaGreatDoor
namespace Go.Proofs.YtekflbicjokdnaaGreatDoor
open Go.RowKit

theorem isLetter (n : Int) (w : World) : Calls Tryz.prog 151 #[.int .u8 n] w fun e w' => e = .returned (.bool (decide (97 ≤ n) && decide (n ≤ 122))) ∧ w' = w := by
  by_cases h1 : 97 ≤ n
  · by_cases h2 : n ≤ 122
    all_goals
      go_enter Tryz.func151, Tryz.ntmps151
      go_wp2
      go_ret
      exact ⟨by simp [h1, h2], rfl⟩
  · go_enter Tryz.func151, Tryz.ntmps151
    go_wp2
    go_ret
    exact ⟨by simp; omega, rfl⟩
theorem isDigit (n : Int) (w : World) : Calls Tryz.prog 152 #[.int .u8 n] w fun e w' => e = .returned (.bool (decide (48 ≤ n) && decide (n ≤ 57))) ∧ w' = w := by
  by_cases h1 : 48 ≤ n
  · by_cases h2 : n ≤ 57
    all_goals
      go_enter Tryz.func152, Tryz.ntmps152
      go_wp2
      go_ret
      exact ⟨by simp [h1, h2], rfl⟩
  · go_enter Tryz.func152, Tryz.ntmps152
    go_wp2
    go_ret
    exact ⟨by simp; omega, rfl⟩

set_option maxHeartbeats 1000000 in
theorem implName (s : ByteArray) (w : World) (hs : s.size ≤ maxLen) :
    Calls Tryz.prog 114 #[.string s] w fun e w' => AnsB (NameOk s) e ∧ w' = w := by
  unfold maxLen at hs
  by_cases h1 : s.size < 1
  · go_enter Tryz.func114, Tryz.ntmps114
    go_wp2
    go_ret
    exact ⟨AnsB.no (fun h => by have := h.1; omega) rfl, rfl⟩
  by_cases h2 : 40 < s.size
  · go_enter Tryz.func114, Tryz.ntmps114
    go_wp2
    go_ret
    exact ⟨AnsB.no (fun h => by have := h.2.1; omega) rfl, rfl⟩
  have hp : 0 < s.size := by omega
  by_cases h3 : OkAt s 0 hp
  rotate_left
  · rcases cls (s[0].toNat : Int) with ⟨c, e1, e2, e3, e4, e5⟩ | ⟨c, e1, e2, e3, e4, e5⟩ | ⟨c, e1, e2, e3, e4, e5⟩ | ⟨c, e1, e2, e3, e4, e5⟩ | ⟨c, e1, e2, e3, e4, e5⟩ | ⟨c, e1, e2, e3, e4, e5⟩ | ⟨c, e1, e2, e3, e4, e5⟩
    all_goals
      first
        | (exfalso; exact h3 (by unfold OkAt OkN; omega))
        | (go_enter Tryz.func114, Tryz.ntmps114
           go_wp2
           go_ret
           exact ⟨AnsB.no (name_no s 0 hp h3) rfl, rfl⟩)
  have hc : 97 ≤ (s[0].toNat : Int) ∧ (s[0].toNat : Int) ≤ 122 := by unfold OkAt OkN at h3; omega
  obtain ⟨c1, c2⟩ := hc
  have H3 : Hid (OkAt s 0 hp) := h3
  clear h3
  go_enter Tryz.func114, Tryz.ntmps114
  go_wp2
  go_loop [3] (fun i => ∃ k : Nat, 1 ≤ k ∧ k ≤ s.size ∧ i = .int .i64 k ∧ OkTo s k) (fun i => s.size - (intOf i).toNat)
  case atStart => exact ⟨1, by omega, by omega, rfl, okTo_succ s 0 hp (okTo_zero s) H3.out⟩
  case round =>
    obtain ⟨k, hk1, hk, rfl, hok⟩ := hrel
    have HO : Hid (OkTo s k) := hok
    clear hok
    by_cases hlt : k < s.size
    · rcases cls (s[k].toNat : Int) with ⟨c, e1, e2, e3, e4, e5⟩ | ⟨c, e1, e2, e3, e4, e5⟩ | ⟨c, e1, e2, e3, e4, e5⟩ | ⟨c, e1, e2, e3, e4, e5⟩ | ⟨c, e1, e2, e3, e4, e5⟩ | ⟨c, e1, e2, e3, e4, e5⟩ | ⟨c, e1, e2, e3, e4, e5⟩
      all_goals
        go_wp2
        first
          | (go_ret; exact ⟨AnsB.no (name_no s k hlt (by unfold OkAt OkN; omega)) rfl, rfl⟩)
          | exact ⟨⟨k + 1, by omega, by omega, by go_num, okTo_succ s k hlt HO.out (by unfold OkAt OkN; omega)⟩, by simp [intOf]; omega⟩
    · go_wp2
      go_ret
      have e : k = s.size := by omega
      have hf := HO.out
      rw [e] at hf
      exact ⟨AnsB.yes ⟨by omega, by omega, hf⟩ rfl, rfl⟩
end Go.Proofs.YtekflbicjokdnaaGreatDoor
namespace Go.Proofs.YtekflbicjokdnaaGreatDoor
open Go.RowKit

theorem implTime (n : Int) (w : World) :
    Calls Tryz.prog 115 #[.int .i64 n] w fun e w' => e = .returned (.bool (timeB n)) ∧ w' = w := by
  by_cases h0 : 0 ≤ n
  · by_cases h1 : n ≤ 1000000000
    · have HF : Hid (timeB n = true) := by show _ = _; simp [timeB, h0, h1]
      go_enter Tryz.func115, Tryz.ntmps115
      go_wp2
      go_ret
      exact ⟨by rw [HF.out]; rfl, rfl⟩
    · have HF : Hid (timeB n = false) := by show _ = _; simp [timeB, h1]
      go_enter Tryz.func115, Tryz.ntmps115
      go_wp2
      go_ret
      exact ⟨by rw [HF.out]; rfl, rfl⟩
  · have HF : Hid (timeB n = false) := by show _ = _; simp [timeB, h0]
    go_enter Tryz.func115, Tryz.ntmps115
    go_wp2
    go_ret
    exact ⟨by rw [HF.out]; rfl, rfl⟩
theorem implSerial (n : Int) (w : World) :
    Calls Tryz.prog 113 #[.int .i64 n] w fun e w' => e = .returned (.bool (serB n)) ∧ w' = w := by
  by_cases h0 : 1 ≤ n
  · by_cases h1 : n ≤ 1000000000
    · have HF : Hid (serB n = true) := by show _ = _; simp [serB, h0, h1]
      go_enter Tryz.func113, Tryz.ntmps113
      go_wp2
      go_ret
      exact ⟨by rw [HF.out]; rfl, rfl⟩
    · have HF : Hid (serB n = false) := by show _ = _; simp [serB, h1]
      go_enter Tryz.func113, Tryz.ntmps113
      go_wp2
      go_ret
      exact ⟨by rw [HF.out]; rfl, rfl⟩
  · have HF : Hid (serB n = false) := by show _ = _; simp [serB, h0]
    go_enter Tryz.func113, Tryz.ntmps113
    go_wp2
    go_ret
    exact ⟨by rw [HF.out]; rfl, rfl⟩
theorem implNameB (s : ByteArray) (w : World) (hs : s.size ≤ maxLen) :
    Calls Tryz.prog 114 #[.string s] w fun e w' => e = .returned (.bool (nameB s)) ∧ w' = w :=
  (implName s w hs).mono fun _ _ h => ⟨ans_name h.1, h.2⟩
end Go.Proofs.YtekflbicjokdnaaGreatDoor
namespace Go.Proofs.YtekflbicjokdnaaGreatDoor
open Go.RowKit

set_option maxHeartbeats 1000000 in
set_option maxRecDepth 100000 in
theorem implNames (a : Option Addr) (ss : List ByteArray) (c : Nat) (w : World) (hl : ss.length ≤ 1048576) (hs : totS ss ss.length ≤ 1048576) (ha : IsStrs w a ss) :
    Calls Tryz.prog 117 #[.slice a ss.length c] w fun e w' => e = .returned (.bool (namesB ss)) ∧ Below w.heap.size w w' := by
  have HSz : Hid (∀ k, k < ss.length → (tAt ss k).size ≤ 1048576) := fun k hk => Nat.le_trans (totS_at ss hk) hs
  clear hs
  by_cases h5 : 5 < ss.length
  · have HF : Hid (namesB ss = false) := by show _ = _; rw [namesB, decide_eq_false (by omega)]; simp
    go_enter Tryz.func117, Tryz.ntmps117
    go_wp2
    go_ret
    exact ⟨by rw [HF.out]; rfl, Below.refl _ _⟩
  go_enter Tryz.func117, Tryz.ntmps117
  go_wp2
  go_loopw [10] (fun i wr => ∃ k : Nat, k ≤ ss.length ∧ i = .int .i64 k ∧ okTo ss k = true ∧ Below w.heap.size w wr) (fun i _ => ss.length - (intOf i).toNat)
  case atStart => exact ⟨0, Nat.zero_le _, rfl, rfl, Below.refl _ _⟩
  case round =>
    obtain ⟨k, hk, rfl, hok, hbr⟩ := hrel
    have HOk : Hid (okTo ss k = true) := hok
    have HB : Hid (Below w.heap.size w wr) := hbr
    clear hok
    by_cases hlt : k < ss.length
    · obtain ⟨x, o, rfl, hc⟩ : ∃ x o, a = some ⟨x, o, none⟩ ∧ ∀ i, i < ss.length → wr.cell? ⟨x, o + i, none⟩ = some (.string (tAt ss i)) := by
        rcases ha.below hbr ha.lt with rfl | h
        · simp at hlt
        · exact h
      have hck := hc k hlt
      have hz := HSz.out k hlt
      have HNm : Hid (∀ V : World, Calls Tryz.prog 114 #[.string (tAt ss k)] V fun e w' => e = .returned (.bool (nameB (tAt ss k))) ∧ w' = V) := fun V => implNameB _ V (by unfold maxLen; omega)
      clear hz
      have a0 : (0 : Int) ≤ (k : Int) := by omega
      have b0 : (k : Int) < (ss.length : Int) := by omega
      cases hn : nameB (tAt ss k) with
      | false =>
        have HF : Hid (namesB ss = false) := by show _ = _; rw [namesB, okTo_no (okN_not hn) hlt]; rfl
        rw [hn] at HNm
        generalize tAt ss k = z at *
        generalize ss.length = n at *
        clear hc ha hbr hn HSz
        go_wp2_with fail
        refine (HNm.out _).mono ?_
        rintro e w2 ⟨rfl, rfl⟩
        go_wp2
        go_ret
        exact ⟨by rw [HF.out]; rfl, HB.out⟩
      | true =>
        rw [hn] at HNm
        by_cases h0 : k = 0
        · subst h0
          have HF : Hid (okN ss 0 = true) := okN_zero hn
          rw [Nat.add_zero] at hck
          generalize tAt ss 0 = z at *
          generalize ss.length = n at *
          clear hc ha hbr hn HSz
          go_wp2_with fail
          refine (HNm.out _).mono ?_
          rintro e w2 ⟨rfl, rfl⟩
          go_wp2
          go_roundw
          case rel => exact ⟨1, by omega, by go_num, okTo_yes HOk.out HF.out, HB.out⟩
          case measure => simp [intOf]; omega
        · have hck1 := hc (k - 1) (by omega)
          have ek : ((k : Int) - 1) = ((k - 1 : Nat) : Int) := by omega
          have ew : IntKind.i64.wrap ((k : Int) - 1) = ((k - 1 : Nat) : Int) := by rw [IntKind.wrap_i64]; omega
          have a1 : (0 : Int) < (k : Int) := by omega
          have b1 : ((k - 1 : Nat) : Int) < (ss.length : Int) := by omega
          have hbl := okN_more (ss := ss) (k := k) (by omega) hn
          cases hr : Op.bytesLess (tAt ss (k - 1)).toList (tAt ss k).toList with
          | false =>
            have HF : Hid (namesB ss = false) := by show _ = _; rw [namesB, okTo_no (hbl.trans hr) hlt]; rfl
            generalize tAt ss k = z at *
            generalize tAt ss (k - 1) = y at *
            generalize k - 1 = k1 at *
            generalize ss.length = n at *
            clear hc ha hbr hn HSz hbl
            go_wp2_with fail
            refine (HNm.out _).mono ?_
            rintro e w2 ⟨rfl, rfl⟩
            go_wp2
            go_ret
            exact ⟨by rw [HF.out]; rfl, HB.out⟩
          | true =>
            have HF : Hid (okN ss k = true) := hbl.trans hr
            generalize tAt ss k = z at *
            generalize tAt ss (k - 1) = y at *
            generalize k - 1 = k1 at *
            generalize ss.length = n at *
            clear hc ha hbr hn HSz hbl
            go_wp2_with fail
            refine (HNm.out _).mono ?_
            rintro e w2 ⟨rfl, rfl⟩
            go_wp2
            go_roundw
            case rel => exact ⟨k + 1, by omega, by go_num, okTo_yes HOk.out HF.out, HB.out⟩
            case measure => simp [intOf]; omega
    · obtain rfl : k = ss.length := by omega
      have HF : Hid (namesB ss = true) := by show _ = _; rw [namesB, HOk.out, decide_eq_true (by omega)]; rfl
      clear ha hbr
      go_wp2
      go_ret
      exact ⟨by rw [HF.out]; rfl, HB.out⟩
end Go.Proofs.YtekflbicjokdnaaGreatDoor
