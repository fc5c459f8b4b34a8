/- impl.readCsr, walked. FnExactNameRight, walks: 'impl.NameRight' answers true just where the text is a right name; the law. impl.isTime, NameRight, walked. impl.isSerial, walked. impl.isTime, impl.namesRight, walked. impl.putNumbers, putNames, moreArcs, (moreParts).layNames, layCa, walked. (impl.numberThing).body, walked. impl.layThing at a number, impl.DerInt, walked. A row of the three numbers of a Sig. -/
import Derived.Test.YtkhdjmjbdpmdnaaGreatDoorCR25
import Derived.Test.YtkhdjmjbdpmdnaaGreatDoorCR06
import Derived.Test.YtkhdjmjbdpmdnaaGreatDoorCR12
import Derived.Test.YtkhdjmjbdpmdnaaGreatDoorCR09
import Derived.Test.YtkhdjmjbdpmdnaaGreatDoorCR04
import Derived.Test.YtkhdjmjbdpmdnaaGreatDoorCR24
import Derived.Test.YtkhdjmjbdpmdnaaGreatDoorCR02
import Derived.Test.YtkhdjmjbdpmdnaaGreatDoorCR03
import Derived.WalkLawsBesides
import Derived.Test.YtkhdjmjbdpmdnaaGreatDoorCR19
import Derived.Deep.Cut
import Derived.Deep.RegionHeld3
import Derived.Test.YtkhdjmjbdpmdnaaGreatDoorCR18
import Derived.Deep.RegionWith
import Derived.Test.YtkhdjmjbdpmdnaaGreatDoorCR01
namespace Go.Proofs.YtkhdjmjbdpmdnaaGreatDoor
open Go.RowKit

/-- What is read of what is asked for. -/
def readA (s : ByteArray) : Ask :=
  let k := (numsGo (atP (atP (atP s [0]) [0]) [1]) 1 1).getD 0 0
  let n := numsGo (atP (atP s [0]) [1]) 2 1
  ⟨k, bodiesR (atP (atP (atP s [0]) [0]) [2]), k, n.getD 0 0, n.getD 1 0⟩
set_option linter.unusedSimpArgs false in
set_option maxHeartbeats 4000000 in
set_option maxRecDepth 100000 in
theorem implReadCsr (s : ByteArray) (w : World) (hs : s.size ≤ 20000) (hE : ErrType w) :
    Calls Tryz.prog 87 #[.string s] w fun e w' => ∃ v, e = .returned ((readA s).val v) ∧ OwnS w' w.heap.size v (readA s).names ∧ Below w.heap.size w w' := by
  have hEp := hE.pos
  obtain ⟨w1, hw1⟩ : ∃ y, y = w.alloc (.cells #[.int .i64 0, .slice none 0 0, .int .i64 0, .int .i64 0, .int .i64 0] 44 (0, 0)) := ⟨_, rfl⟩
  have hz : w1.heap.size = w.heap.size + 1 := by rw [hw1]; simp
  have hg1 : w1.heap[w.heap.size]? = some (.cells [Value.int .i64 0, .slice none 0 0, .int .i64 0, .int .i64 0, .int .i64 0].toArray 44 (0, 0)) := by rw [hw1]; exact heap_alloc_new w _
  have hB1 : Below w.heap.size w w1 := by rw [hw1]; exact (Below.refl _ w).alloc (Nat.le_refl _) _
  have HB : Hid (∀ V, Below w1.heap.size w1 V → Below w.heap.size w V) := fun V hV => hB1.trans (hV.mono (by omega))
  have HE : Hid (∀ V, Below w1.heap.size w1 V → ErrType V) := fun V hV => hE.below (HB.out V hV) hEp
  have HRes : Hid (∀ V, Below w1.heap.size w1 V → V.heap[w.heap.size]? = some (.cells [Value.int .i64 0, .slice none 0 0, .int .i64 0, .int .i64 0, .int .i64 0].toArray 44 (0, 0))) := fun V hV => by rw [hV.block _ (by omega)]; exact hg1
  have HAt : Hid (∀ V q k, k ≤ 3 → q.size ≤ 20000 → Below w1.heap.size w1 V → Calls Tryz.prog 144 #[.string q, .slice (some ⟨V.heap.size, 0, none⟩) 1 1] (V.alloc (.cells #[.int .i64 ((k : Nat) : Int)] 3 (0, 0))) fun e w' => e = .returned (.string (atP q [k])) ∧ Below V.heap.size V w') := fun V q k hk hq hV => by
    have hA : Below V.heap.size V (V.alloc (.cells #[.int .i64 ((k : Nat) : Int)] 3 (0, 0))) := (Below.refl _ V).alloc (Nat.le_refl _) _
    refine (implAt q [k] V.heap.size 1 _ hq (by show 1 ≤ 4; omega) (fun i hi => ?_) (by simp) (IsPl.row (t := 3) (heap_alloc_new V _)) (HE.out _ (hV.trans (hA.mono hV.size)))).mono ?_
    · obtain rfl : i = 0 := by simp at hi; omega
      show k ≤ 100
      omega
    · rintro e w' ⟨rfl, hb⟩
      exact ⟨rfl, hA.trans (hb.mono (by simp))⟩
  have HNu : Hid (∀ V q (n : Nat), n ≤ 3 → q.size ≤ 20000 → Below w1.heap.size w1 V → Calls Tryz.prog 148 #[.string q, .int .i64 (n : Int)] V fun e w' => e = .returned (.slice (some ⟨V.heap.size, 0, none⟩) n n) ∧ w'.heap[V.heap.size]? = some (.cells (lCells (numsGo q n 1)).toArray 2 (0, 0)) ∧ Below V.heap.size V w') := fun V q n hn hq hV => implReadNums q n V hq hn (HE.out V hV)
  have HNa : Hid (∀ V q, q.size ≤ 20000 → Below w1.heap.size w1 V → Calls Tryz.prog 153 #[.string q] V fun e w' => ∃ v, e = .returned v ∧ OwnS w' V.heap.size v (bodiesR q) ∧ Below V.heap.size V w') := fun V q hq hV => implReadNames q V hq (HE.out V hV)
  have HLe : Hid (∀ q k, q.size ≤ 20000 → (atP q [k]).size ≤ 20000) := fun q k h => Nat.le_trans (atP_le [k] q) h
  have HN1 : Hid (∀ q, ∃ x, numsGo q 1 1 = [x]) := fun q => by
    have := numsGo_len q 1 1
    match h : numsGo q 1 1, this with
    | [x], _ => exact ⟨x, rfl⟩
  have HN2 : Hid (∀ q, ∃ x y, numsGo q 2 1 = [x, y]) := fun q => by
    have := numsGo_len q 2 1
    match h : numsGo q 2 1, this with
    | [x, y], _ => exact ⟨x, y, rfl⟩
  have HR0 : Hid (∃ wh bd kq nq nm, wh = atP s [0] ∧ bd = atP wh [0] ∧ kq = atP bd [1] ∧ nq = atP wh [1] ∧ nm = atP bd [2] ∧ readA s = ⟨(numsGo kq 1 1).getD 0 0, bodiesR nm, (numsGo kq 1 1).getD 0 0, (numsGo nq 2 1).getD 0 0, (numsGo nq 2 1).getD 1 0⟩) := ⟨_, _, _, _, _, rfl, rfl, rfl, rfl, rfl, rfl⟩
  obtain ⟨wh, bd, kq, nq, nm, e1, e2, e3, e4, e5, eR⟩ := HR0.out
  rw [eR]
  have C1 : Hid (wh = atP s [0] ∧ wh.size ≤ 20000) := ⟨e1, by rw [e1]; exact HLe.out _ _ hs⟩
  have C2 : Hid (bd = atP wh [0] ∧ bd.size ≤ 20000) := ⟨e2, by rw [e2]; exact HLe.out _ _ C1.out.2⟩
  have C3 : Hid (kq = atP bd [1] ∧ kq.size ≤ 20000) := ⟨e3, by rw [e3]; exact HLe.out _ _ C2.out.2⟩
  have C4 : Hid (nq = atP wh [1] ∧ nq.size ≤ 20000) := ⟨e4, by rw [e4]; exact HLe.out _ _ C1.out.2⟩
  have C5 : Hid (nm = atP bd [2] ∧ nm.size ≤ 20000) := ⟨e5, by rw [e5]; exact HLe.out _ _ C2.out.2⟩
  obtain ⟨k0, hk0⟩ := HN1.out kq
  obtain ⟨n0, n1, hn⟩ := HN2.out nq
  rw [hk0, hn]
  have HK : Hid (lCells (numsGo kq 1 1) = [.int .i64 k0]) := by show _ = _; rw [hk0]; rfl
  have HN : Hid (lCells (numsGo nq 2 1) = [.int .i64 n0, .int .i64 n1]) := by show _ = _; rw [hn]; rfl
  have H0 : Hid (s.size ≤ 20000) := hs
  have HR1 : Hid (Below w1.heap.size w1 w1) := Below.refl _ _
  have Z1 : Hid (w1.heap.size = w.heap.size + 1) := hz
  clear hE hEp HR0 e1 e2 e3 e4 e5 eR hk0 hn HN1 HN2 hg1 hB1 HLe hs
  go_enter Tryz.func87, Tryz.ntmps87
  go_wp2_with fail
  rw [← hw1, ← hz]
  refine (HAt.out w1 s 0 (by omega) H0.out HR1.out).mono ?_
  rintro e w2 ⟨rfl, b2⟩
  rw [← C1.out.1]
  have B2 : Hid (Below w1.heap.size w1 w2) := b2
  clear b2 hw1 hz
  go_wp2_with fail
  refine (HAt.out w2 wh 0 (by omega) C1.out.2 B2.out).mono ?_
  rintro e w3 ⟨rfl, b3⟩
  rw [← C2.out.1]
  have B3 : Hid (Below w1.heap.size w1 w3) := B2.out.trans (b3.mono B2.out.size)
  clear b3
  go_wp2_with fail
  refine (HAt.out w3 bd 1 (by omega) C2.out.2 B3.out).mono ?_
  rintro e w4 ⟨rfl, b4⟩
  rw [← C3.out.1]
  have B4 : Hid (Below w1.heap.size w1 w4) := B3.out.trans (b4.mono B3.out.size)
  clear b4
  go_wp2_with fail
  refine (HNu.out w4 kq 1 (by omega) C3.out.2 B4.out).mono ?_
  rintro e w5 ⟨rfl, g5, b5⟩
  have B5 : Hid (Below w1.heap.size w1 w5) := B4.out.trans (b5.mono B4.out.size)
  rw [HK.out] at g5
  have q0 := rowFacts g5 0 _ rfl
  clear b5 g5
  go_wp2_with fail
  refine (HAt.out w5 wh 1 (by omega) C1.out.2 B5.out).mono ?_
  rintro e w6 ⟨rfl, b6⟩
  rw [← C4.out.1]
  have B6 : Hid (Below w1.heap.size w1 w6) := B5.out.trans (b6.mono B5.out.size)
  clear b6 q0
  go_wp2_with fail
  refine (HNu.out w6 nq 2 (by omega) C4.out.2 B6.out).mono ?_
  rintro e w7 ⟨rfl, g7, b7⟩
  have B7 : Hid (Below w1.heap.size w1 w7) := B6.out.trans (b7.mono B6.out.size)
  rw [HN.out] at g7
  have q0 := rowFacts g7 0 _ rfl
  have q1 := rowFacts g7 1 _ rfl
  have Q7 : Hid _ := g7
  clear g7 b7
  go_upto_region 5 with fail
  have HK7 : Hid (∀ V, Below w7.heap.size w7 V → V.cell? ⟨w6.heap.size, 0, none⟩ = some (.int .i64 n0) ∧ V.cell? ⟨w6.heap.size, 1, none⟩ = some (.int .i64 n1)) := fun V hV => by
    have hP := (hV.block _ (heap_lt Q7.out)).trans Q7.out
    exact ⟨rowFacts hP 0 _ rfl, rowFacts hP 1 _ rfl⟩
  have D7 : Hid (Below w7.heap.size w7 w7.drew) := (Below.refl _ _ : Below w7.heap.size w7 w7).drew
  have HQ : Hid (∀ V, Below w7.heap.size w7 V → Below w1.heap.size w1 V) := fun V hV => B7.out.trans (hV.mono B7.out.size)
  refine wp_region_held_drew (S := fun V => V.cell? ⟨w6.heap.size, 0, none⟩ = some (.int .i64 n0) ∧ V.cell? ⟨w6.heap.size, 1, none⟩ = some (.int .i64 n1)) (by kernel_rfl) ?_ (fun hHeld => ?_)
  · exact HK7.out _ D7.out
  refine wpAnyH_take (i := 0) (oi := ⟨some 23, _, _, _, _, _⟩) (v := ?_) rfl (by kernel_rfl) (by kernel_rfl) (by kernel_rfl) (fun _ _ _ h => h) (Or.inl ⟨by kernel_rfl, ?_⟩) (by assumption) ?_
  rotate_left
  · (intro w hSw; (try dsimp only at hSw); go_simp; try with_reducible rfl)
  (try simp only [Act.put, List.setIfInBounds_toArray, List.set_cons_zero, List.set_cons_succ])
  refine wpAnyH_take (i := 1) (oi := ⟨some 24, _, _, _, _, _⟩) (v := ?_) rfl (by kernel_rfl) (by kernel_rfl) (by kernel_rfl) (fun _ _ _ h => h) (Or.inl ⟨by kernel_rfl, ?_⟩) (by assumption) ?_
  rotate_left
  · (intro w hSw; (try dsimp only at hSw); go_simp; try with_reducible rfl)
  (try simp only [Act.put, List.setIfInBounds_toArray, List.set_cons_zero, List.set_cons_succ])
  refine wpAnyH_take (i := 5) (oi := ⟨some 28, _, _, _, _, _⟩) (v := ?_) rfl (by kernel_rfl) (by kernel_rfl) (by kernel_rfl) (fun _ _ _ h => h) (Or.inl ⟨by kernel_rfl, ?_⟩) (by assumption) ?_
  rotate_left
  · (intro w hSw; (try dsimp only at hSw); go_simp; try with_reducible rfl)
  (try simp only [Act.put, List.setIfInBounds_toArray, List.set_cons_zero, List.set_cons_succ])
  refine wpAnyH_take (i := 6) (oi := ⟨some 29, _, _, _, _, _⟩) (v := ?_) rfl (by kernel_rfl) (by kernel_rfl) (by kernel_rfl) (fun _ _ _ h => h) (Or.inl ⟨by kernel_rfl, ?_⟩) (by assumption) ?_
  rotate_left
  · (intro w hSw; (try dsimp only at hSw); go_simp; try with_reducible rfl)
  (try simp only [Act.put, List.setIfInBounds_toArray, List.set_cons_zero, List.set_cons_succ])
  refine wpAnyH_take (i := 7) (oi := ⟨some 30, _, _, _, _, _⟩) (v := ?_) rfl (by kernel_rfl) (by kernel_rfl) (by kernel_rfl) (fun _ _ _ h => h) (Or.inl ⟨by kernel_rfl, ?_⟩) (by assumption) ?_
  rotate_left
  · (intro w hSw; (try dsimp only at hSw); go_simp; try with_reducible rfl)
  (try simp only [Act.put, List.setIfInBounds_toArray, List.set_cons_zero, List.set_cons_succ])
  refine wpAnyH_take (i := 8) (oi := ⟨some 31, _, _, _, _, _⟩) (v := ?_) rfl (by kernel_rfl) (by kernel_rfl) (by kernel_rfl) (fun _ _ _ h => h) (Or.inl ⟨by kernel_rfl, ?_⟩) (by assumption) ?_
  rotate_left
  · (intro w hSw; (try dsimp only at hSw); go_simp; try with_reducible rfl)
  (try simp only [Act.put, List.setIfInBounds_toArray, List.set_cons_zero, List.set_cons_succ])
  refine wpAnyH_take (i := 9) (oi := ⟨some 32, _, _, _, _, _⟩) (v := ?_) rfl (by kernel_rfl) (by kernel_rfl) (by kernel_rfl) (fun _ _ _ h => h) (Or.inl ⟨by kernel_rfl, ?_⟩) (by assumption) ?_
  rotate_left
  · (intro w hSw; (try dsimp only at hSw); go_simp; try with_reducible rfl)
  (try simp only [Act.put, List.setIfInBounds_toArray, List.set_cons_zero, List.set_cons_succ])
  refine wpAnyH_take (i := 10) (oi := ⟨some 33, _, _, _, _, _⟩) (v := ?_) rfl (by kernel_rfl) (by kernel_rfl) (by kernel_rfl) (fun _ _ _ h => h) (Or.inl ⟨by kernel_rfl, ?_⟩) (by assumption) ?_
  rotate_left
  · (intro w hSw; (try dsimp only at hSw); go_simp; try with_reducible rfl)
  (try simp only [Act.put, List.setIfInBounds_toArray, List.set_cons_zero, List.set_cons_succ])
  refine wpAnyH_take (i := 11) (oi := ⟨some 34, _, _, _, _, _⟩) (v := ?_) rfl (by kernel_rfl) (by kernel_rfl) (by kernel_rfl) (fun _ _ _ h => h) (Or.inl ⟨by kernel_rfl, ?_⟩) (by assumption) ?_
  rotate_left
  · (intro w hSw; (try dsimp only at hSw); go_simp; try with_reducible rfl)
  (try simp only [Act.put, List.setIfInBounds_toArray, List.set_cons_zero, List.set_cons_succ])
  refine wpAnyH_take (i := 12) (oi := ⟨some 35, _, _, _, _, _⟩) (v := ?_) rfl (by kernel_rfl) (by kernel_rfl) (by kernel_rfl) (fun _ _ _ h => h) (Or.inl ⟨by kernel_rfl, ?_⟩) (by assumption) ?_
  rotate_left
  · (intro w hSw; (try dsimp only at hSw); go_simp; try with_reducible rfl)
  (try simp only [Act.put, List.setIfInBounds_toArray, List.set_cons_zero, List.set_cons_succ])
  refine wpAnyH_ready (rs := [2]) (by kernel_rfl) (by simp) ?_
  refine AllReadyH.cons (o := ⟨some 25, _, _, _, _, _⟩) rfl (fun K hK => ?_) AllReadyH.nil
  go_simp
  refine hK.out _ _ ?_ (fun hHeld => ?_)
  · exact HK7.out _ (D7.out.alloc D7.out.size _)
  clear hK K
  (try simp only [Act.put, List.setIfInBounds_toArray, List.set_cons_zero, List.set_cons_succ])
  refine wpAnyH_ready (rs := [3]) (by kernel_rfl) (by simp) ?_
  refine AllReadyH.cons (o := ⟨some 26, _, _, _, _, _⟩) rfl (fun K hK => ?_) AllReadyH.nil
  go_simp
  refine (HAt.out w7.drew bd 2 (by omega) C2.out.2 (HQ.out _ D7.out)).mono ?_
  rintro e V1 ⟨rfl, bV⟩
  rw [← C5.out.1]
  have J1 : Hid (Below w7.heap.size w7 V1) := D7.out.trans (bV.mono D7.out.size)
  refine hK.out _ _ ?_ (fun hHeld => ?_)
  · exact HK7.out _ J1.out
  clear hK K bV
  (try simp only [Act.put, List.setIfInBounds_toArray, List.set_cons_zero, List.set_cons_succ])
  refine wpAnyH_ready (rs := [4]) (by kernel_rfl) (by simp) ?_
  refine AllReadyH.cons (o := ⟨some 27, _, _, _, _, _⟩) rfl (fun K hK => ?_) AllReadyH.nil
  go_simp
  refine (HNa.out V1 nm C5.out.2 (HQ.out _ J1.out)).mono ?_
  rintro e V2 ⟨v, rfl, o2, bV⟩
  have J2 : Hid (Below w7.heap.size w7 V2) := J1.out.trans (bV.mono J1.out.size)
  refine hK.out _ _ ?_ (fun hHeld => ?_)
  · exact HK7.out _ J2.out
  clear hK K bV
  (try simp only [Act.put, List.setIfInBounds_toArray, List.set_cons_zero, List.set_cons_succ])
  obtain ⟨va, vc, hv', _⟩ := OwnS.form o2
  subst hv'
  obtain ⟨nl, hnl⟩ : ∃ nl, nl = (bodiesR nm).length := ⟨_, rfl⟩
  rw [← hnl] at o2 ⊢
  have z6 : w.heap.size + 1 ≤ V1.heap.size := by have := B7.out.size; have := J1.out.size; have := Z1.out; omega
  have O2 : Hid (OwnS V2 (w.heap.size + 1) (.slice va nl vc) (bodiesR nm)) := o2.mono z6
  clear o2 z6 hnl
  refine wpAnyH_take (i := 13) (oi := ⟨some 36, _, _, _, _, _⟩) (v := ?_) rfl (by kernel_rfl) (by kernel_rfl) (by kernel_rfl) (fun _ _ _ h => h) (Or.inl ⟨by kernel_rfl, ?_⟩) (by assumption) ?_
  rotate_left
  · (intro w hSw; (try dsimp only at hSw); go_simp; try with_reducible rfl)
  (try simp only [Act.put, List.setIfInBounds_toArray, List.set_cons_zero, List.set_cons_succ])
  refine wpAnyH_ready (rs := [14]) (by kernel_rfl) (by simp) ?_
  refine AllReadyH.cons (o := ⟨none, _, _, _, _, _⟩) rfl (fun K hK => ?_) AllReadyH.nil
  rw [if_pos (by rfl)]
  refine wp_store_row 44 _ _ rfl (w.heap.size) [Value.int .i64 0, .slice none 0 0, .int .i64 0, .int .i64 0, .int .i64 0] [Value.int .i64 k0, .slice va nl vc, .int .i64 k0, .int .i64 n0, .int .i64 n1] 44 rfl rfl (HRes.out _ (HQ.out _ J2.out)) rfl sizeCsr (by simp [Value.oneCell']) ?_
  intro w8 hrow ho hs8 hbb
  have HROW : Hid _ := hrow
  have HB8 : Hid (Below w.heap.size w w8) := hbb _ _ (by omega) (HB.out _ (HQ.out _ J2.out))
  have O8 : Hid (OwnS w8 (w.heap.size + 1) (.slice va nl vc) (bodiesR nm)) := O2.out.same fun b h1 h2 => ho b (by omega)
  have hne : w6.heap.size ≠ w.heap.size := by have := B6.out.size; have := Z1.out; omega
  refine hK.out _ _ ?_ (fun hHeld => ?_)
  · have hP := (ho _ hne).trans ((J2.out.block _ (heap_lt Q7.out)).trans Q7.out)
    exact ⟨rowFacts hP 0 _ rfl, rowFacts hP 1 _ rfl⟩
  clear hK K ho hs8 hbb hrow
  (try simp only [Act.put, List.setIfInBounds_toArray, List.set_cons_zero, List.set_cons_succ])
  refine wpAnyH_done (by kernel_rfl) ?_ _
  go_wp2
  refine bodyPost_ret (v := .agg [Value.int .i64 k0, .slice va nl vc, .int .i64 k0, .int .i64 n0, .int .i64 n1].toArray) ?_ rfl ⟨.slice va nl vc, rfl, O8.out.mono (by omega), HB8.out⟩
  have hl3 := run_loadVar_mid (P := Tryz.prog) _ (w.heap.size) 0 44 _ _ (rangeRow HROW.out) Tryz.underlying44 rfl sizeCsr
  simp [results, Tryz.results87, asAddr, hl3]
end Go.Proofs.YtkhdjmjbdpmdnaaGreatDoor
namespace Go.Proofs.YtkhdjmjbdpmdnaaGreatDoor
open Go.RowKit

theorem isLetter (n : Int) (w : World) : Calls Tryz.prog 163 #[.int .u8 n] w fun e w' => e = .returned (.bool (decide (97 ≤ n) && decide (n ≤ 122))) ∧ w' = w := by
  by_cases h1 : 97 ≤ n
  · by_cases h2 : n ≤ 122
    all_goals
      go_enter Tryz.func163, Tryz.ntmps163
      go_wp2
      go_ret
      exact ⟨by simp [h1, h2], rfl⟩
  · go_enter Tryz.func163, Tryz.ntmps163
    go_wp2
    go_ret
    exact ⟨by simp; omega, rfl⟩
theorem isDigit (n : Int) (w : World) : Calls Tryz.prog 164 #[.int .u8 n] w fun e w' => e = .returned (.bool (decide (48 ≤ n) && decide (n ≤ 57))) ∧ w' = w := by
  by_cases h1 : 48 ≤ n
  · by_cases h2 : n ≤ 57
    all_goals
      go_enter Tryz.func164, Tryz.ntmps164
      go_wp2
      go_ret
      exact ⟨by simp [h1, h2], rfl⟩
  · go_enter Tryz.func164, Tryz.ntmps164
    go_wp2
    go_ret
    exact ⟨by simp; omega, rfl⟩

set_option maxHeartbeats 1000000 in
theorem implName (s : ByteArray) (w : World) (hs : s.size ≤ maxLen) :
    Calls Tryz.prog 113 #[.string s] w fun e w' => AnsB (NameOk s) e ∧ w' = w := by
  unfold maxLen at hs
  by_cases h1 : s.size < 1
  · go_enter Tryz.func113, Tryz.ntmps113
    go_wp2
    go_ret
    exact ⟨AnsB.no (fun h => by have := h.1; omega) rfl, rfl⟩
  by_cases h2 : 40 < s.size
  · go_enter Tryz.func113, Tryz.ntmps113
    go_wp2
    go_ret
    exact ⟨AnsB.no (fun h => by have := h.2.1; omega) rfl, rfl⟩
  have hp : 0 < s.size := by omega
  by_cases h3 : OkAt s 0 hp
  rotate_left
  · rcases cls (s[0].toNat : Int) with ⟨c, e1, e2, e3, e4, e5⟩ | ⟨c, e1, e2, e3, e4, e5⟩ | ⟨c, e1, e2, e3, e4, e5⟩ | ⟨c, e1, e2, e3, e4, e5⟩ | ⟨c, e1, e2, e3, e4, e5⟩ | ⟨c, e1, e2, e3, e4, e5⟩ | ⟨c, e1, e2, e3, e4, e5⟩
    all_goals
      first
        | (exfalso; exact h3 (by unfold OkAt OkN; omega))
        | (go_enter Tryz.func113, Tryz.ntmps113
           go_wp2
           go_ret
           exact ⟨AnsB.no (name_no s 0 hp h3) rfl, rfl⟩)
  have hc : 97 ≤ (s[0].toNat : Int) ∧ (s[0].toNat : Int) ≤ 122 := by unfold OkAt OkN at h3; omega
  obtain ⟨c1, c2⟩ := hc
  have H3 : Hid (OkAt s 0 hp) := h3
  clear h3
  go_enter Tryz.func113, Tryz.ntmps113
  go_wp2
  go_loop [3] (fun i => ∃ k : Nat, 1 ≤ k ∧ k ≤ s.size ∧ i = .int .i64 k ∧ OkTo s k) (fun i => s.size - (intOf i).toNat)
  case atStart => exact ⟨1, by omega, by omega, rfl, okTo_succ s 0 hp (okTo_zero s) H3.out⟩
  case round =>
    obtain ⟨k, hk1, hk, rfl, hok⟩ := hrel
    have HO : Hid (OkTo s k) := hok
    clear hok
    by_cases hlt : k < s.size
    · rcases cls (s[k].toNat : Int) with ⟨c, e1, e2, e3, e4, e5⟩ | ⟨c, e1, e2, e3, e4, e5⟩ | ⟨c, e1, e2, e3, e4, e5⟩ | ⟨c, e1, e2, e3, e4, e5⟩ | ⟨c, e1, e2, e3, e4, e5⟩ | ⟨c, e1, e2, e3, e4, e5⟩ | ⟨c, e1, e2, e3, e4, e5⟩
      all_goals
        go_wp2
        first
          | (go_ret; exact ⟨AnsB.no (name_no s k hlt (by unfold OkAt OkN; omega)) rfl, rfl⟩)
          | exact ⟨⟨k + 1, by omega, by omega, by go_num, okTo_succ s k hlt HO.out (by unfold OkAt OkN; omega)⟩, by simp [intOf]; omega⟩
    · go_wp2
      go_ret
      have e : k = s.size := by omega
      have hf := HO.out
      rw [e] at hf
      exact ⟨AnsB.yes ⟨by omega, by omega, hf⟩ rfl, rfl⟩
end Go.Proofs.YtkhdjmjbdpmdnaaGreatDoor
namespace Go.Proofs.YtkhdjmjbdpmdnaaGreatDoor
open Go.RowKit

theorem implTime (n : Int) (w : World) :
    Calls Tryz.prog 114 #[.int .i64 n] w fun e w' => e = .returned (.bool (timeB n)) ∧ w' = w := by
  by_cases h0 : 0 ≤ n
  · by_cases h1 : n ≤ 1000000000
    · have HF : Hid (timeB n = true) := by show _ = _; simp [timeB, h0, h1]
      go_enter Tryz.func114, Tryz.ntmps114
      go_wp2
      go_ret
      exact ⟨by rw [HF.out]; rfl, rfl⟩
    · have HF : Hid (timeB n = false) := by show _ = _; simp [timeB, h1]
      go_enter Tryz.func114, Tryz.ntmps114
      go_wp2
      go_ret
      exact ⟨by rw [HF.out]; rfl, rfl⟩
  · have HF : Hid (timeB n = false) := by show _ = _; simp [timeB, h0]
    go_enter Tryz.func114, Tryz.ntmps114
    go_wp2
    go_ret
    exact ⟨by rw [HF.out]; rfl, rfl⟩
theorem implNameB (s : ByteArray) (w : World) (hs : s.size ≤ maxLen) :
    Calls Tryz.prog 113 #[.string s] w fun e w' => e = .returned (.bool (nameB s)) ∧ w' = w :=
  (implName s w hs).mono fun _ _ h => ⟨ans_name h.1, h.2⟩
end Go.Proofs.YtkhdjmjbdpmdnaaGreatDoor
namespace Go.Proofs.YtkhdjmjbdpmdnaaGreatDoor
open Go.RowKit

theorem implSerial (n : Int) (w : World) :
    Calls Tryz.prog 112 #[.int .i64 n] w fun e w' => e = .returned (.bool (serB n)) ∧ w' = w := by
  by_cases h0 : 1 ≤ n
  · by_cases h1 : n ≤ 1000000000
    · have HF : Hid (serB n = true) := by show _ = _; simp [serB, h0, h1]
      go_enter Tryz.func112, Tryz.ntmps112
      go_wp2
      go_ret
      exact ⟨by rw [HF.out]; rfl, rfl⟩
    · have HF : Hid (serB n = false) := by show _ = _; simp [serB, h1]
      go_enter Tryz.func112, Tryz.ntmps112
      go_wp2
      go_ret
      exact ⟨by rw [HF.out]; rfl, rfl⟩
  · have HF : Hid (serB n = false) := by show _ = _; simp [serB, h0]
    go_enter Tryz.func112, Tryz.ntmps112
    go_wp2
    go_ret
    exact ⟨by rw [HF.out]; rfl, rfl⟩
end Go.Proofs.YtkhdjmjbdpmdnaaGreatDoor
namespace Go.Proofs.YtkhdjmjbdpmdnaaGreatDoor
open Go.RowKit

set_option maxHeartbeats 1000000 in
set_option maxRecDepth 100000 in
theorem implNames (a : Option Addr) (ss : List ByteArray) (c : Nat) (w : World) (hl : ss.length ≤ 1048576) (hs : totS ss ss.length ≤ 1048576) (ha : IsStrs w a ss) :
    Calls Tryz.prog 116 #[.slice a ss.length c] w fun e w' => e = .returned (.bool (namesB ss)) ∧ Below w.heap.size w w' := by
  have HSz : Hid (∀ k, k < ss.length → (tAt ss k).size ≤ 1048576) := fun k hk => Nat.le_trans (totS_at ss hk) hs
  clear hs
  by_cases h5 : 5 < ss.length
  · have HF : Hid (namesB ss = false) := by show _ = _; rw [namesB, decide_eq_false (by omega)]; simp
    go_enter Tryz.func116, Tryz.ntmps116
    go_wp2
    go_ret
    exact ⟨by rw [HF.out]; rfl, Below.refl _ _⟩
  go_enter Tryz.func116, Tryz.ntmps116
  go_wp2
  go_loopw [10] (fun i wr => ∃ k : Nat, k ≤ ss.length ∧ i = .int .i64 k ∧ okTo ss k = true ∧ Below w.heap.size w wr) (fun i _ => ss.length - (intOf i).toNat)
  case atStart => exact ⟨0, Nat.zero_le _, rfl, rfl, Below.refl _ _⟩
  case round =>
    obtain ⟨k, hk, rfl, hok, hbr⟩ := hrel
    have HOk : Hid (okTo ss k = true) := hok
    have HB : Hid (Below w.heap.size w wr) := hbr
    clear hok
    by_cases hlt : k < ss.length
    · obtain ⟨x, o, rfl, hc⟩ : ∃ x o, a = some ⟨x, o, none⟩ ∧ ∀ i, i < ss.length → wr.cell? ⟨x, o + i, none⟩ = some (.string (tAt ss i)) := by
        rcases ha.below hbr ha.lt with rfl | h
        · simp at hlt
        · exact h
      have hck := hc k hlt
      have hz := HSz.out k hlt
      have HNm : Hid (∀ V : World, Calls Tryz.prog 113 #[.string (tAt ss k)] V fun e w' => e = .returned (.bool (nameB (tAt ss k))) ∧ w' = V) := fun V => implNameB _ V (by unfold maxLen; omega)
      clear hz
      have a0 : (0 : Int) ≤ (k : Int) := by omega
      have b0 : (k : Int) < (ss.length : Int) := by omega
      cases hn : nameB (tAt ss k) with
      | false =>
        have HF : Hid (namesB ss = false) := by show _ = _; rw [namesB, okTo_no (okN_not hn) hlt]; rfl
        rw [hn] at HNm
        generalize tAt ss k = z at *
        generalize ss.length = n at *
        clear hc ha hbr hn HSz
        go_wp2_with fail
        refine (HNm.out _).mono ?_
        rintro e w2 ⟨rfl, rfl⟩
        go_wp2
        go_ret
        exact ⟨by rw [HF.out]; rfl, HB.out⟩
      | true =>
        rw [hn] at HNm
        by_cases h0 : k = 0
        · subst h0
          have HF : Hid (okN ss 0 = true) := okN_zero hn
          rw [Nat.add_zero] at hck
          generalize tAt ss 0 = z at *
          generalize ss.length = n at *
          clear hc ha hbr hn HSz
          go_wp2_with fail
          refine (HNm.out _).mono ?_
          rintro e w2 ⟨rfl, rfl⟩
          go_wp2
          go_roundw
          case rel => exact ⟨1, by omega, by go_num, okTo_yes HOk.out HF.out, HB.out⟩
          case measure => simp [intOf]; omega
        · have hck1 := hc (k - 1) (by omega)
          have ek : ((k : Int) - 1) = ((k - 1 : Nat) : Int) := by omega
          have ew : IntKind.i64.wrap ((k : Int) - 1) = ((k - 1 : Nat) : Int) := by rw [IntKind.wrap_i64]; omega
          have a1 : (0 : Int) < (k : Int) := by omega
          have b1 : ((k - 1 : Nat) : Int) < (ss.length : Int) := by omega
          have hbl := okN_more (ss := ss) (k := k) (by omega) hn
          cases hr : Op.bytesLess (tAt ss (k - 1)).toList (tAt ss k).toList with
          | false =>
            have HF : Hid (namesB ss = false) := by show _ = _; rw [namesB, okTo_no (hbl.trans hr) hlt]; rfl
            generalize tAt ss k = z at *
            generalize tAt ss (k - 1) = y at *
            generalize k - 1 = k1 at *
            generalize ss.length = n at *
            clear hc ha hbr hn HSz hbl
            go_wp2_with fail
            refine (HNm.out _).mono ?_
            rintro e w2 ⟨rfl, rfl⟩
            go_wp2
            go_ret
            exact ⟨by rw [HF.out]; rfl, HB.out⟩
          | true =>
            have HF : Hid (okN ss k = true) := hbl.trans hr
            generalize tAt ss k = z at *
            generalize tAt ss (k - 1) = y at *
            generalize k - 1 = k1 at *
            generalize ss.length = n at *
            clear hc ha hbr hn HSz hbl
            go_wp2_with fail
            refine (HNm.out _).mono ?_
            rintro e w2 ⟨rfl, rfl⟩
            go_wp2
            go_roundw
            case rel => exact ⟨k + 1, by omega, by go_num, okTo_yes HOk.out HF.out, HB.out⟩
            case measure => simp [intOf]; omega
    · obtain rfl : k = ss.length := by omega
      have HF : Hid (namesB ss = true) := by show _ = _; rw [namesB, HOk.out, decide_eq_true (by omega)]; rfl
      clear ha hbr
      go_wp2
      go_ret
      exact ⟨by rw [HF.out]; rfl, HB.out⟩
end Go.Proofs.YtkhdjmjbdpmdnaaGreatDoor
namespace Go.Proofs.YtkhdjmjbdpmdnaaGreatDoor
open Go.RowKit

set_option maxHeartbeats 1000000 in
set_option maxRecDepth 100000 in
theorem implHosts (a : Option Addr) (ss : List ByteArray) (c : Nat) (w : World) (hl : ss.length ≤ 5) (hs : ∀ i, i < ss.length → (tAt ss i).size ≤ 40) (ha : IsStrs w a ss) :
    Calls Tryz.prog 184 #[.slice a ss.length c] w fun e w' => e = .returned (.string (seqD (hostsD ss ss.length))) ∧ Below w.heap.size w w' := by
  have HS : Hid (∀ i, i < ss.length → (tAt ss i).size ≤ 40) := hs
  have HL : Hid (∀ k, k ≤ ss.length → (hostsD ss k).size ≤ 44 * k) := fun k hk => hostsD_le k (fun i hi => hs i (by omega))
  clear hs
  go_enter Tryz.func184, Tryz.ntmps184
  go_wp2
  go_loopw [3, 8] (fun t i wr => ∃ k : Nat, k ≤ ss.length ∧ i = .int .i64 k ∧ t = .string (hostsD ss k) ∧ Below w.heap.size w wr) (fun _ i _ => ss.length - (intOf i).toNat)
  case atStart => exact ⟨0, Nat.zero_le _, rfl, rfl, Below.refl _ _⟩
  case round =>
    obtain ⟨k, hk, rfl, rfl, hbr⟩ := hrel
    have HB : Hid (Below w.heap.size w wr) := hbr
    by_cases hlt : k < ss.length
    · obtain ⟨x, o, rfl, hc⟩ : ∃ x o, a = some ⟨x, o, none⟩ ∧ ∀ i, i < ss.length → wr.cell? ⟨x, o + i, none⟩ = some (.string (tAt ss i)) := by
        rcases ha.below hbr ha.lt with rfl | h
        · simp at hlt
        · exact h
      have hck := hc k hlt
      have hz := HS.out k hlt
      have z0 := HL.out k (by omega)
      have z1 := thingD_le 130 (tAt ss k)
      have HP : Hid (∀ V, Calls Tryz.prog 124 #[.int .i64 130, .string (tAt ss k)] V fun e w' => e = .returned (.string (thingD 130 (tAt ss k))) ∧ Below V.heap.size V w') := fun V => by
        have := implDerPut 130 (tAt ss k) V (by unfold maxLen; omega)
        rw [putD_right (by decide) (by omega)] at this
        exact this
      have HJ : Hid (∀ V, Calls Tryz.prog 122 #[.string (hostsD ss k), .string (thingD 130 (tAt ss k))] V fun e w' => e = .returned (.string (hostsD ss (k + 1))) ∧ Below V.heap.size V w') := fun V => joinTexts _ _ V (by omega) (by omega)
      have a0 : (0 : Int) ≤ (k : Int) := by omega
      have b0 : (k : Int) < (ss.length : Int) := by omega
      have HR : Hid (∃ j : Nat, j ≤ ss.length ∧ Value.int .i64 ((k : Int) + 1) = .int .i64 (j : Int) ∧ Value.string (hostsD ss (k + 1)) = .string (hostsD ss j)) := ⟨k + 1, by omega, by congr 1, rfl⟩
      generalize hostsD ss (k + 1) = h1 at *
      generalize thingD 130 (tAt ss k) = h2 at *
      generalize tAt ss k = z at *
      clear hc ha hbr HS HL z0 z1 hz
      go_wp2_with fail
      refine (HP.out _).mono ?_
      rintro e w2 ⟨rfl, b2⟩
      have B2 : Hid (Below w.heap.size w w2) := HB.out.trans (b2.mono HB.out.size)
      clear b2
      go_wp2_with fail
      refine (HJ.out _).mono ?_
      rintro e w3 ⟨rfl, b3⟩
      have B3 : Hid (Below w.heap.size w w3) := B2.out.trans (b3.mono B2.out.size)
      clear b3
      go_wp2_with fail
      go_roundw
      case rel =>
        obtain ⟨j, j1, j2, j3⟩ := HR.out
        exact ⟨j, j1, by first | exact j2 | (rw [← j2]; simp; omega), j3, B3.out⟩
      case measure => simp [intOf]; omega
    · obtain rfl : k = ss.length := by omega
      have z0 := HL.out ss.length (Nat.le_refl _)
      have HP : Hid (∀ V (g : Nat), V.heap[g]? = some (.cells #[.string (hostsD ss ss.length)] 9 (0, 0)) → Calls Tryz.prog 50 #[.slice (some ⟨g, 0, none⟩) 1 1] V fun e w' => e = .returned (.string (seqD (hostsD ss ss.length))) ∧ Below V.heap.size V w') := fun V g hg => implSeq1 _ g V (by omega) hg
      clear ha hbr HS HL
      go_wp2_with fail
      refine (HP.out _ _ (heap_alloc_new wr _)).mono ?_
      rintro e w2 ⟨rfl, b2⟩
      have B2 : Hid (Below w.heap.size w w2) := (HB.out.alloc HB.out.size _).trans (b2.mono (by have := HB.out.size; simp; omega))
      clear b2
      go_wp2
      go_ret
      exact ⟨rfl, B2.out⟩
end Go.Proofs.YtkhdjmjbdpmdnaaGreatDoor
namespace Go.Proofs.YtkhdjmjbdpmdnaaGreatDoor
open Go.RowKit Go.Lib

theorem sign_bits (n : Int) (h0 : -9223372036854775808 ≤ n) (h1 : n ≤ 9223372036854775807) : bits BinOp.xor IntKind.i64 n (n / 9223372036854775808) = (bareN n : Int) := by
  have hn : n / 9223372036854775808 = 0 ∨ n / 9223372036854775808 = -1 := by omega
  rcases hn with e | e
  · rw [e]
    have : bits BinOp.xor IntKind.i64 n 0 = IntKind.i64.wrap ((BitVec.ofInt 64 n ^^^ BitVec.ofInt 64 0).toNat : Nat) := rfl
    rw [this, show BitVec.ofInt 64 0 = 0#64 from by decide, BitVec.xor_zero, BitVec.toNat_ofInt, IntKind.wrap_i64]
    unfold bareN
    split <;> omega
  · rw [e]
    have : bits BinOp.xor IntKind.i64 n (-1) = IntKind.i64.wrap ((BitVec.ofInt 64 n ^^^ BitVec.ofInt 64 (-1)).toNat : Nat) := rfl
    rw [this, show BitVec.ofInt 64 (-1) = BitVec.allOnes 64 from by decide, BitVec.xor_allOnes, BitVec.toNat_not, BitVec.toNat_ofInt, IntKind.wrap_i64]
    unfold bareN
    split <;> omega
set_option maxHeartbeats 1000000 in
set_option maxRecDepth 100000 in
theorem bodyNumber (n : Int) (w : World) (h0 : -9223372036854775808 ≤ n) (h1 : n ≤ 9223372036854775807) :
    Calls Tryz.prog 193 #[.agg #[.int .i64 n]] w fun e w' => e = .returned (.string (strOfNums (intL n))) ∧ Below w.heap.size w w' := by
  obtain ⟨i0, hi, hz0, hz1, hz2⟩ := info_parts infoByte
  have hx := sign_bits n h0 h1
  have hbl := intL_bits h0 h1
  have hl8 := (intL_len n).2
  have hbn : bareN n < 9223372036854775808 := by unfold bareN; split <;> omega
  go_enter Tryz.func193, Tryz.ntmps193
  go_wp2_with fail
  refine (len64 _ _ (by omega) (by omega)).mono ?_
  rintro e w' ⟨rfl, rfl⟩
  rw [show ((bareN n : Int).toNat) = bareN n from rfl]
  obtain ⟨c, hc⟩ : ∃ c, c = (intL n).length := ⟨_, rfl⟩
  have hq : (Lib.bitLen (bareN n) : Int) / 8 + 1 = (c : Int) := by omega
  have hb64 : Lib.bitLen (bareN n) ≤ 64 := Lib.bitLen_le _ 64 (by omega) (by omega)
  have hc8 : c ≤ 8 := by omega
  have hc1 : 1 ≤ c := by omega
  have HA : Hid (∀ i, i < c → (intL n).getD (c - 1 - i) 0 = n / 256 ^ i % 256) := fun i hi => by rw [hc]; exact intL_at (by omega)
  have HC : Hid (c = (intL n).length) := hc
  generalize Lib.bitLen (bareN n) = L at *
  clear hbl hx hbn hl8 hc
  go_wp2_with (at_make; refine wpList_make_full _ rfl _ _ 22 rfl (w.heap.size + 1) 5 i0 (.int .u8 0) 1 Tryz.underlying22 hi hz0 hz1 .i64 .i64 _ _ c rfl rfl ?c1 ?c2 ?c3 ?c4 ?c5 ?_)
  case c1 => omega
  case c2 => omega
  case c3 => rw [hz2]; omega
  case c4 => unfold maxLen; omega
  case c5 => simp
  intro w1 hown hgrow
  have hlw : (w.alloc (Obj.cells #[.int .i64 n] 133)).heap.size = w.heap.size + 1 := by simp
  have hb1 : Below (w.heap.size + 1) (w.alloc (Obj.cells #[.int .i64 n] 133)) w1 := (Below.refl _ _).grown hgrow (by rw [hlw]; exact Nat.le_refl _) (fun k hk => by cases hk)
  have hB1 : Below w.heap.size w w1 := ((Below.refl _ w).alloc (Nat.le_refl _) _).trans (hb1.mono (Nat.le_succ _))
  have ht : w1.cell? ⟨w.heap.size, 0, none⟩ = some (.int .i64 n) := (hb1.cell (by simp)).trans (by simp)
  obtain ⟨hrow, hlen⟩ := rowOf hown rfl
  generalize (madeCells #[Value.int IntKind.u8 0] c).toList = M0 at hrow hlen
  clear hgrow hlw hb1 hown
  go_wp2_with fail
  go_loopw [19] (fun i wr => ∃ (k : Nat) (M : List Value), k ≤ c ∧ i = .int .i64 (k : Int) ∧ M.length = c ∧ wr.heap[w.heap.size + 1]? = some (.cells M.toArray 5 (0, 0)) ∧ wr.cell? ⟨w.heap.size, 0, none⟩ = some (.int .i64 n) ∧
      (∀ j, j < c → c - k ≤ j → M[j]? = some (.int .u8 ((intL n).getD j 0))) ∧ Below w.heap.size w wr)
    (fun i _ => c - (Lib.intOf i).toNat)
  case atStart => exact ⟨0, M0, Nat.zero_le _, rfl, hlen, hrow, ht, fun j h1 h2 => by omega, hB1⟩
  case round =>
    obtain ⟨k, M, hk, rfl, hM, hr, htw, hat, hbel⟩ := hrel
    have HAt : Hid (∀ j, j < c → c - k ≤ j → M[j]? = some (.int .u8 ((intL n).getD j 0))) := hat
    have HR : Hid (wr.heap[w.heap.size + 1]? = some (.cells M.toArray 5 (0, 0))) := hr
    clear hat hrow hlen hB1 ht
    by_cases hlt : k < c
    · obtain ⟨j, hj⟩ : ∃ j, j = c - 1 - k := ⟨_, rfl⟩
      have hjc : j < c := by omega
      have e1 : (c : Int) - 1 - (k : Int) = (j : Int) := by omega
      have hv : wr.cell? ⟨w.heap.size + 1, j, none⟩ = some (M[j]'(by omega)) := rowFacts hr j _ (List.getElem?_eq_getElem (by omega))
      generalize M[j]'(by omega) = v0 at hv
      have hf : wr.frozen? ⟨w.heap.size + 1, j, none⟩ = false := frozen_of_row wr _ j _ _ hr
      have HJ : Hid (j = c - 1 - k) := hj
      clear hj hr
      have HC2 : Hid (∀ v, (wr.setCell ⟨w.heap.size + 1, j, none⟩ v).cell? ⟨w.heap.size, 0, none⟩ = some (.int .i64 n)) := fun v => by
        rw [((Below.refl (w.heap.size + 1) wr).setCell (Nat.le_refl _) v).cell (p := ⟨w.heap.size, 0, none⟩) (by simp)]; exact htw
      have HB2 : Hid (∀ v, Below w.heap.size w (wr.setCell ⟨w.heap.size + 1, j, none⟩ v)) := fun v => hbel.setCell (by simp) v
      clear hbel
      go_wp2
      go_roundw
      case rel =>
        have hj := HJ.out
        refine ⟨k + 1, M.set j (.int .u8 (n / 2 ^ (8 * k) % 256)), by omega, by go_num, by simpa using hM, rowSet _ HR.out, HC2.out _, ?_, HB2.out _⟩
        intro i hi1 hi2
        by_cases ei : i = j
        · subst ei
          rw [List.getElem?_set_self (by omega)]
          have ha := HA.out k hlt
          rw [← hj] at ha
          rw [ha, show (256 : Int) ^ k = 2 ^ (8 * k) from by rw [Int.pow_mul]; rfl]
        · rw [List.getElem?_set_ne (by omega)]
          exact HAt.out i hi1 (by omega)
      case measure => simp [Lib.intOf]; omega
    · obtain rfl : k = c := by omega
      have hcv : (convert 22 9 (.slice (some ⟨w.heap.size + 1, 0, none⟩) k k)).run Tryz.prog wr = .ok (.string (strOfNums (intL n))) wr := by
        have hc := HC.out
        refine convertRow wr _ (intL n) 5 k k hc.symm ?_
        rw [hr]
        congr 3
        apply List.ext_getElem?
        intro j
        rcases Nat.lt_or_ge j k with hj | hj
        · rw [HAt.out j hj (by omega)]
          simp [List.getD, List.getElem?_eq_getElem (show j < (intL n).length by omega)]
        · rw [List.getElem?_eq_none (by omega), List.getElem?_eq_none (by simp; omega)]
      clear hr HR HAt
      go_wp2
      go_ret
      exact ⟨rfl, hbel⟩
end Go.Proofs.YtkhdjmjbdpmdnaaGreatDoor
namespace Go.Proofs.YtkhdjmjbdpmdnaaGreatDoor
open Go.RowKit Go.Lib

theorem tagNumber (n : Int) (w : World) :
    Calls Tryz.prog 181 #[.iface 133 (.agg #[.int .i64 n])] w fun e w' => e = .returned (.int .i64 2) ∧ Below w.heap.size w w' := by
  have x0 := as10
  go_enter Tryz.func181, Tryz.ntmps181
  go_wp2
  go_ret
  exact ⟨rfl, (Below.refl _ _).alloc (Nat.le_refl _) _⟩
theorem methodNumber (v : Value) (w : World) : (Go.method 390 133 v "loop.example/g00371/impl.body").run Tryz.prog w = .ok (193, v) w := by kernel_rfl
set_option maxHeartbeats 1000000 in
set_option maxRecDepth 100000 in
theorem layNumber (n : Int) (b : ByteArray) (w : World) (h0 : -9223372036854775808 ≤ n) (h1 : n ≤ 9223372036854775807) (heq : b = strOfNums (intL n)) :
    Calls Tryz.prog 138 #[.iface 133 (.agg #[.int .i64 n])] w fun e w' => e = .returned (.string (thingD 2 b)) ∧ Below w.heap.size w w' := by
  have hb : b.size ≤ 4000 := by have := (intL_len n).2; rw [heq, strOfNums_size]; omega
  have hmt := methodNumber
  have ew : IntKind.u8.wrap 2 = 2 := by rw [IntKind.wrap_u8]; rfl
  go_enter Tryz.func138, Tryz.ntmps138
  go_wp2_with fail
  refine (bodyNumber n _ h0 h1).mono ?_
  rintro e w1 ⟨rfl, hb1⟩
  rw [← heq]
  clear heq h0 h1
  have s1 := hb1.size
  have HT1 : Hid (∀ V : World, Hid (Below w.heap.size w V) → Calls Tryz.prog 181 #[.iface 133 (.agg #[.int .i64 n])] V fun e W => e = .returned (.int .i64 2) ∧ Hid (Below w.heap.size w W)) := fun V hV => by
    refine (tagNumber n V).mono ?_
    rintro e W ⟨rfl, hW⟩
    exact ⟨rfl, hV.out.trans (hW.mono hV.out.size)⟩
  have HT2 : Hid (∀ V : World, Hid (Below w.heap.size w V) → Calls Tryz.prog 182 #[.int .i64 (b.size : Int)] V fun e W => e = .returned (.string (strOfNums (lenD b.size))) ∧ Hid (Below w.heap.size w W) ∧ Hid (∀ k o, V.heap[k]? = some o → W.heap[k]? = some o)) := fun V hV => by
    refine (putLength b.size V hb).mono ?_
    rintro e W ⟨rfl, hW⟩
    refine ⟨rfl, hV.out.trans (hW.mono hV.out.size), fun k o hk => ?_⟩
    rw [hW.block k (heap_lt hk)]; exact hk
  have HF : Hid (∀ s l, s = strOfNums [2] → l = strOfNums (lenD b.size) → s ++ l ++ b = thingD 2 b) := fun s l hs hl => by
    subst hs hl
    unfold thingD headD
    congr 1
  have hl1 : (strOfNums [2]).size = 1 := rfl
  have hl2 : (strOfNums (lenD b.size)).size ≤ 3 := by rw [strOfNums_size]; exact lenD_le _
  have hcv := fun V => convertLit V #[.int .u8 2] [2] rfl 1 rfl 5
  have HE := HF.out _ _ rfl rfl
  have HCR := fun W2 k h => convertRow W2 k [2] 5 1 1 rfl h
  generalize strOfNums [2] = s at *
  generalize strOfNums (lenD b.size) = l at *
  have HE : Hid (s ++ l ++ b = thingD 2 b) := HE
  have HCR : Hid (∀ (W2 : World) (k : Nat), W2.heap[k]? = some (.cells ([2].map (Value.int .u8)).toArray 5 (0, 0)) → (convert 22 9 (.slice (some ⟨k, 0, none⟩) 1 1)).run Tryz.prog W2 = .ok (.string s) W2) := HCR
  have HJ : Hid (∀ (V : World) (x y : ByteArray), Hid (Below w.heap.size w V) → x.size ≤ 4 → y.size ≤ 4000 → Calls Tryz.prog 122 #[.string x, .string y] V fun e W => e = .returned (.string (x ++ y)) ∧ Hid (Below w.heap.size w W)) := fun V x y hV hx hy => by
    refine (joinTexts x y V (by omega) (by omega)).mono ?_
    rintro e W ⟨rfl, hW⟩
    exact ⟨rfl, hV.out.trans (hW.mono hV.out.size)⟩
  have B1 : Hid (Below w.heap.size w w1) := hb1
  have HA : Hid (∀ V o, Hid (Below w.heap.size w V) → Hid (Below w.heap.size w (V.alloc o))) := fun V o h => h.out.alloc h.out.size o
  clear hb1 hmt HF
  go_wp2_with fail
  have D1 : Hid (Below w.heap.size w w1.drew) := B1.out.drew
  go_region_with (first
    | (go_at_call 181; refine (HT1.out _ (by first | assumption | exact HA.out _ _ (by assumption))).mono ?_; rintro r W1 ⟨rfl, k1⟩)
    | (go_at_call 182; refine (HT2.out _ (by first | assumption | exact HA.out _ _ (by assumption))).mono ?_; rintro r W2 ⟨rfl, k2, e2⟩; (first | have hcv2 := HCR.out W2 _ (e2.out _ _ (heap_alloc_new _ _)) | skip))
    | (go_at_call 122; refine (HJ.out _ _ _ (by first | assumption | exact HA.out _ _ (by assumption)) (by omega) (by omega)).mono ?_; rintro r W3 ⟨rfl, k3⟩))
  all_goals
    have hl3 : (s ++ l).size ≤ 4 := by rw [ByteArray.size_append]; omega
    have HQ := HJ.out W3 (s ++ l) b k3 hl3 hb
    rw [HE.out] at HQ
    generalize s ++ l = q at *
    have HQ : Hid (Calls Tryz.prog 122 #[.string q, .string b] W3 fun e W => e = .returned (.string (thingD 2 b)) ∧ Hid (Below w.heap.size w W)) := HQ
    clear HT1 HT2 HJ HCR HE hcv
    go_wp2_with fail
    refine HQ.out.mono ?_
    rintro r W4 ⟨rfl, k4⟩
    go_wp2
    go_ret
    exact ⟨rfl, k4.out⟩

theorem implDerInt (n : Int) (w : World) (h0 : -9223372036854775808 ≤ n) (h1 : n ≤ 9223372036854775807) :
    Calls Tryz.prog 62 #[.int .i64 n] w fun e w' => e = .returned (.string (thingD 2 (strOfNums (intL n)))) ∧ Below w.heap.size w w' := by
  have HB : Hid (∀ v : World, Calls Tryz.prog 138 #[.iface 133 (.agg #[.int .i64 n])] v fun e w' => e = .returned (.string (thingD 2 (strOfNums (intL n)))) ∧ Below v.heap.size v w') := fun v => layNumber n _ v h0 h1 rfl
  generalize thingD 2 (strOfNums (intL n)) = s at *
  go_enter Tryz.func62, Tryz.ntmps62
  go_wp2_with fail
  refine (HB.out _).mono ?_
  rintro e w1 ⟨rfl, hb1⟩
  go_wp2
  go_ret
  exact ⟨rfl, hb1⟩
end Go.Proofs.YtkhdjmjbdpmdnaaGreatDoor
namespace Go.Proofs.YtkhdjmjbdpmdnaaGreatDoor
open Go.RowKit

/-- A row of the three numbers of a Sig stands in block b. -/
def Row3 (x y z : Int) (V : World) (b : Nat) : Prop := V.heap[b]? = some (.cells #[.int .i64 x, .int .i64 y, .int .i64 z] 2 (0, 0))
theorem Row3.keep {x y z : Int} {V W : World} {b : Nat} (h : Row3 x y z V b) (hb : Below V.heap.size V W) : Row3 x y z W b := (hb.block b (heap_lt h)).trans h
theorem Row3.al {x y z : Int} {V : World} {b : Nat} {o : Obj} (h : Row3 x y z V b) : Row3 x y z (V.alloc o) b := by
  unfold Row3
  rw [Below.heap_alloc _ _ _ (heap_lt h)]
  exact h
theorem alKeep {V : World} {g : Nat} {o r : Obj} (h : V.heap[g]? = some r) : (V.alloc o).heap[g]? = some r := by
  rw [Below.heap_alloc _ _ _ (heap_lt h)]
  exact h
end Go.Proofs.YtkhdjmjbdpmdnaaGreatDoor
