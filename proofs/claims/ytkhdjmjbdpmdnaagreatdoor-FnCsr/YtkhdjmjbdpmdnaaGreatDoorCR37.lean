/- impl.readFixed, walked. -/
import Derived.Test.YtkhdjmjbdpmdnaaGreatDoorCR30
import Derived.Test.YtkhdjmjbdpmdnaaGreatDoorCR33
import Derived.Test.YtkhdjmjbdpmdnaaGreatDoorCR25
import Derived.Test.YtkhdjmjbdpmdnaaGreatDoorCR09
import Derived.Test.YtkhdjmjbdpmdnaaGreatDoorCR04
import Derived.Test.YtkhdjmjbdpmdnaaGreatDoorCR03
namespace Go.Proofs.YtkhdjmjbdpmdnaaGreatDoor
open Go.RowKit

theorem sizeCertV : (Tryz.prog.info? 27).map (·.size) = some 11 := by kernel_rfl
/-- What is read of a paper's fixed parts. -/
def fixR (b1 b3 b4 b5 b6 : ByteArray) : Paper := ⟨(intR b1).1, atP b3 [0, 0, 1], atP b5 [0, 0, 1], (intR (atP b4 [0])).1, (intR (atP b4 [1])).1, (numsGo (atP b6 [1]) 1 1).getD 0 0, [], false, 0, 0, 0⟩
set_option linter.unusedSimpArgs false in
set_option maxHeartbeats 8000000 in
set_option maxRecDepth 100000 in
theorem implReadFixed (g c : Nat) (b1 b3 b4 b5 b6 : ByteArray) (w : World) (hE : ErrType w) (hc : w.cell? ⟨g, 3, none⟩ = some (.string b1) ∧ w.cell? ⟨g, 7, none⟩ = some (.string b3) ∧ w.cell? ⟨g, 9, none⟩ = some (.string b4) ∧ w.cell? ⟨g, 11, none⟩ = some (.string b5) ∧ w.cell? ⟨g, 13, none⟩ = some (.string b6))
    (s1 : b1.size ≤ 20000) (s3 : b3.size ≤ 20000) (s4 : b4.size ≤ 20000) (s5 : b5.size ≤ 20000) (s6 : b6.size ≤ 20000) :
    Calls Tryz.prog 146 #[.slice (some ⟨g, 0, none⟩) 7 c] w fun e w' => e = .returned ((fixR b1 b3 b4 b5 b6).val (.slice none 0 0)) ∧ Below w.heap.size w w' := by
  have hEp := hE.pos
  have hgl : g < w.heap.size := World.block_lt_of_cell? w _ hc.1
  obtain ⟨w1, hw1⟩ : ∃ y, y = w.alloc (.cells #[.int .i64 0, .string ⟨#[]⟩, .string ⟨#[]⟩, .int .i64 0, .int .i64 0, .int .i64 0, .slice none 0 0, .bool false, .int .i64 0, .int .i64 0, .int .i64 0] 27 (0, 0)) := ⟨_, rfl⟩
  have hz : w1.heap.size = w.heap.size + 1 := by rw [hw1]; simp
  have hg1 : w1.heap[w.heap.size]? = some (.cells [Value.int .i64 0, .string ⟨#[]⟩, .string ⟨#[]⟩, .int .i64 0, .int .i64 0, .int .i64 0, .slice none 0 0, .bool false, .int .i64 0, .int .i64 0, .int .i64 0].toArray 27 (0, 0)) := by rw [hw1]; exact heap_alloc_new w _
  have hB1 : Below w.heap.size w w1 := by rw [hw1]; exact (Below.refl _ w).alloc (Nat.le_refl _) _
  have HB : Hid (∀ V, Below w1.heap.size w1 V → Below w.heap.size w V) := fun V hV => hB1.trans (hV.mono (by omega))
  have HE : Hid (∀ V, Below w1.heap.size w1 V → ErrType V) := fun V hV => hE.below (HB.out V hV) hEp
  have HC : Hid (∀ V, Below w1.heap.size w1 V → V.cell? ⟨g, 3, none⟩ = some (.string b1) ∧ V.cell? ⟨g, 7, none⟩ = some (.string b3) ∧ V.cell? ⟨g, 9, none⟩ = some (.string b4) ∧ V.cell? ⟨g, 11, none⟩ = some (.string b5) ∧ V.cell? ⟨g, 13, none⟩ = some (.string b6)) := fun V hV => by
    have hb := HB.out V hV
    exact ⟨by rw [hb.cell (p := ⟨g, 3, none⟩) hgl]; exact hc.1, by rw [hb.cell (p := ⟨g, 7, none⟩) hgl]; exact hc.2.1, by rw [hb.cell (p := ⟨g, 9, none⟩) hgl]; exact hc.2.2.1, by rw [hb.cell (p := ⟨g, 11, none⟩) hgl]; exact hc.2.2.2.1, by rw [hb.cell (p := ⟨g, 13, none⟩) hgl]; exact hc.2.2.2.2⟩
  have HRes : Hid (∀ V, Below w1.heap.size w1 V → V.heap[w.heap.size]? = some (.cells [Value.int .i64 0, .string ⟨#[]⟩, .string ⟨#[]⟩, .int .i64 0, .int .i64 0, .int .i64 0, .slice none 0 0, .bool false, .int .i64 0, .int .i64 0, .int .i64 0].toArray 27 (0, 0))) := fun V hV => by rw [hV.block _ (by omega)]; exact hg1
  have HAt0 : Hid (∀ V q k g, k ≤ 3 → q.size ≤ 20000 → Below w1.heap.size w1 V → V.heap[g]? = some (.cells #[.int .i64 ((k : Nat) : Int)] 3 (0, 0)) → Calls Tryz.prog 144 #[.string q, .slice (some ⟨g, 0, none⟩) 1 1] V fun e w' => e = .returned (.string (atP q [k])) ∧ Below V.heap.size V w') := fun V q k g hk hq hV hg => by
    refine implAt q [k] g 1 V hq (by show 1 ≤ 4; omega) (fun i hi => ?_) (heap_lt hg) (IsPl.row (t := 3) hg) (HE.out _ hV)
    obtain rfl : i = 0 := by simp at hi; omega
    show k ≤ 100
    omega
  have HLe : ∀ q k, q.size ≤ 20000 → (atP q [k]).size ≤ 20000 := fun q k h => Nat.le_trans (atP_le [k] q) h
  obtain ⟨d0, hd0⟩ : ∃ x, x = atP b4 [0] := ⟨_, rfl⟩
  obtain ⟨d1, hd1⟩ : ∃ x, x = atP b4 [1] := ⟨_, rfl⟩
  obtain ⟨d2, hd2⟩ : ∃ x, x = atP b6 [1] := ⟨_, rfl⟩
  have D0 : Hid (d0 = atP b4 [0] ∧ d0.size ≤ 20000) := ⟨hd0, by rw [hd0]; exact HLe _ _ s4⟩
  have D1 : Hid (d1 = atP b4 [1] ∧ d1.size ≤ 20000) := ⟨hd1, by rw [hd1]; exact HLe _ _ s4⟩
  have D2 : Hid (d2 = atP b6 [1] ∧ d2.size ≤ 20000) := ⟨hd2, by rw [hd2]; exact HLe _ _ s6⟩
  have Sb4 : Hid (b4.size ≤ 20000) := s4
  have Sb6 : Hid (b6.size ≤ 20000) := s6
  have hN1 : ∃ x, numsGo d2 1 1 = [x] := by
    have := numsGo_len d2 1 1
    match h : numsGo d2 1 1, this with
    | [x], _ => exact ⟨x, rfl⟩
  obtain ⟨key, hkey⟩ := hN1
  obtain ⟨ser, hser⟩ : ∃ x, x = (intR b1).1 := ⟨_, rfl⟩
  obtain ⟨sc, hsc⟩ : ∃ x, x = (intR b1).2 := ⟨_, rfl⟩
  obtain ⟨fr, hfr⟩ : ∃ x, x = (intR d0).1 := ⟨_, rfl⟩
  obtain ⟨fc, hfc⟩ : ∃ x, x = (intR d0).2 := ⟨_, rfl⟩
  obtain ⟨ti, hti⟩ : ∃ x, x = (intR d1).1 := ⟨_, rfl⟩
  obtain ⟨tc, htc⟩ : ∃ x, x = (intR d1).2 := ⟨_, rfl⟩
  obtain ⟨iss, hiss⟩ : ∃ x, x = atP b3 [0, 0, 1] := ⟨_, rfl⟩
  obtain ⟨sub, hsub⟩ : ∃ x, x = atP b5 [0, 0, 1] := ⟨_, rfl⟩
  have hR : fixR b1 b3 b4 b5 b6 = ⟨ser, iss, sub, fr, ti, key, [], false, 0, 0, 0⟩ := by
    unfold fixR
    rw [← hd0, ← hd1, ← hd2, hkey, hser, hfr, hti, hiss, hsub]
    rfl
  rw [hR]
  have X1 : Hid (∀ V, Calls Tryz.prog 158 #[.string b1] V fun e w' => e = .returned (numT ser sc) ∧ Below V.heap.size V w') := fun V => by rw [hser, hsc]; exact implIntRead b1 V (by unfold maxLen; omega)
  have X3 : Hid (∀ V, Below w1.heap.size w1 V → Calls Tryz.prog 157 #[.string b3] V fun e w' => e = .returned (.string iss) ∧ Below V.heap.size V w') := fun V hV => by rw [hiss]; exact implReadName b3 V s3 (HE.out V hV)
  have X4 : Hid (∀ V, Calls Tryz.prog 158 #[.string d0] V fun e w' => e = .returned (numT fr fc) ∧ Below V.heap.size V w') := fun V => by rw [hfr, hfc]; exact implIntRead d0 V (by have := D0.out.2; unfold maxLen; omega)
  have X5 : Hid (∀ V, Calls Tryz.prog 158 #[.string d1] V fun e w' => e = .returned (numT ti tc) ∧ Below V.heap.size V w') := fun V => by rw [hti, htc]; exact implIntRead d1 V (by have := D1.out.2; unfold maxLen; omega)
  have X6 : Hid (∀ V, Below w1.heap.size w1 V → Calls Tryz.prog 157 #[.string b5] V fun e w' => e = .returned (.string sub) ∧ Below V.heap.size V w') := fun V hV => by rw [hsub]; exact implReadName b5 V s5 (HE.out V hV)
  have X7 : Hid (∀ V, Below w1.heap.size w1 V → Calls Tryz.prog 148 #[.string d2, .int .i64 1] V fun e w' => e = .returned (.slice (some ⟨V.heap.size, 0, none⟩) 1 1) ∧ w'.heap[V.heap.size]? = some (.cells (lCells [key]).toArray 2 (0, 0)) ∧ Below V.heap.size V w') := fun V hV => by
    have := implReadNums d2 1 V D2.out.2 (by omega) (HE.out V hV)
    rw [hkey] at this
    exact this
  clear hE hEp hc hgl hz hg1 hB1 HLe hd0 hd1 hd2 hkey hser hsc hfr hfc hti htc hiss hsub hR s1 s3 s4 s5 s6 HE
  unfold Paper.val
  simp only
  go_enter Tryz.func146, Tryz.ntmps146
  go_upto_region 1 with fail
  rw [← hw1]
  clear hw1
  obtain ⟨A, hA⟩ : ∃ A : Array Value, A = #[.slice (some ⟨g, 0, none⟩) 7 c, undef, .pointer (some ⟨w.heap.size, 0, none⟩), undef, undef, undef, undef, undef, undef, undef, undef, undef, undef, undef, undef, undef, undef, undef, undef, undef, undef, undef, undef, undef, undef, undef, undef, undef, undef, undef, undef, undef, undef, undef, undef, undef, undef, undef, undef, undef, undef, undef, undef, undef, undef] := ⟨_, rfl⟩
  obtain ⟨G, hG⟩ : ∃ G : List Kd, G = [.eq (.slice (some ⟨g, 0, none⟩) 7 c), .eq (.pointer (some ⟨g, 2, none⟩)), .eq (.pointer (some ⟨g, 3, none⟩)), .eq (.string b1), .eq (numT ser sc), .eq (.int .i64 ser), .eq (.slice (some ⟨g, 0, none⟩) 7 c), .eq (.pointer (some ⟨g, 6, none⟩)), .eq (.pointer (some ⟨g, 7, none⟩)), .eq (.string b3), .eq (.string iss), .eq (.slice (some ⟨g, 0, none⟩) 7 c), .eq (.pointer (some ⟨g, 8, none⟩)), .eq (.pointer (some ⟨g, 9, none⟩)), .eq (.string b4), .one 3 0, .eq (.string d0), .eq (numT fr fc), .eq (.int .i64 fr), .eq (.slice (some ⟨g, 0, none⟩) 7 c), .eq (.pointer (some ⟨g, 8, none⟩)), .eq (.pointer (some ⟨g, 9, none⟩)), .eq (.string b4), .one 3 1, .eq (.string d1), .eq (numT ti tc), .eq (.int .i64 ti), .eq (.slice (some ⟨g, 0, none⟩) 7 c), .eq (.pointer (some ⟨g, 10, none⟩)), .eq (.pointer (some ⟨g, 11, none⟩)), .eq (.string b5), .eq (.string sub), .eq (.slice (some ⟨g, 0, none⟩) 7 c), .eq (.pointer (some ⟨g, 12, none⟩)), .eq (.pointer (some ⟨g, 13, none⟩)), .eq (.string b6), .one 3 1, .eq (.string d2), .row 2 [key], .at' (.int .i64 key), .eq (.int .i64 key), .eq (.agg #[.int .i64 ser, .string iss, .string sub, .int .i64 fr, .int .i64 ti, .int .i64 key, .slice none 0 0, .bool false, .int .i64 0, .int .i64 0, .int .i64 0])] := ⟨_, rfl⟩
  have hAG : 3 + G.length ≤ A.size := by rw [hA, hG]; show 3 + 42 ≤ 45; omega
  have hGl : G.length = 42 := by rw [hG]; rfl
  rw [← hA]
  refine wp_region_inv (fun listed a V => (listed.getD 42 true = false ∧ Slots A [] 3 G listed a V ∧ Below w1.heap.size w1 V) ∨ ((∀ j, j < 43 → listed.getD j true = true) ∧ a.defers = [] ∧ a.eval (.tmp 2) = .pointer (some ⟨w.heap.size, 0, none⟩) ∧ V.heap[w.heap.size]? = some (.cells [Value.int .i64 ser, .string iss, .string sub, .int .i64 fr, .int .i64 ti, .int .i64 key, .slice none 0 0, .bool false, .int .i64 0, .int .i64 0, .int .i64 0].toArray 27 (0, 0)) ∧ Below w.heap.size w V)) (by kernel_rfl) (by kernel_rfl) ?hend ?hstep ?h0
  case h0 =>
    refine .inl ⟨rfl, ⟨rfl, rfl, fun _ _ => rfl, fun j k hj hl => ?_⟩, (Below.refl _ _).drew⟩
    exfalso
    have hi : j < 43 := by
      rcases Nat.lt_or_ge j 43 with h | h
      · exact h
      · rw [List.getElem?_eq_none (by rw [hGl]; omega)] at hj; cases hj
    rw [Array.getD_eq_getD_getElem?, Array.getElem?_eq_getElem (by simpa using hi)] at hl
    simp at hl
  case hend =>
    intro listed a V hI hall
    rcases hI with ⟨h29, _⟩ | ⟨_, hdf, e2, hrow, hb⟩
    · rw [hall 42 (by decide)] at h29
      cases h29
    obtain ⟨tm, df⟩ := a
    obtain rfl : df = [] := hdf
    have h2 : tm.getD 2 undef = .pointer (some ⟨w.heap.size, 0, none⟩) := e2
    have HROW : Hid _ := hrow
    have HFin : Hid (Below w.heap.size w V) := hb
    clear hrow hb hall
    go_wp2
    have HROW2 := HROW.out
    refine bodyPost_ret (v := .agg [Value.int .i64 ser, .string iss, .string sub, .int .i64 fr, .int .i64 ti, .int .i64 key, .slice none 0 0, .bool false, .int .i64 0, .int .i64 0, .int .i64 0].toArray) ?_ rfl ⟨rfl, HFin.out⟩
    have hl3 := run_loadVar_mid (P := Tryz.prog) _ (w.heap.size) 0 27 _ _ (rangeRow HROW2) Tryz.underlying27 rfl sizeCertV
    rw [Array.getD_eq_getD_getElem?] at h2
    simp [results, Tryz.results146, asAddr, h2, hl3]
  case hstep =>
    intro listed a V i o hI ho hsz hun hdep
    rcases hI with ⟨h29, hS, hB⟩ | ⟨hall, _⟩
    rotate_left
    · exfalso
      have hi : i < 43 := by
        rcases Nat.lt_or_ge i 43 with h | h
        · exact h
        · rw [Array.getElem?_eq_none (by simpa using h)] at ho; cases ho
      rw [hall i hi] at hun
      cases hun
    have hi : i < 43 := by
      rcases Nat.lt_or_ge i 43 with h | h
      · exact h
      · rw [Array.getElem?_eq_none (by simpa using h)] at ho; cases ho
    have hV := hB
    rcases (by omega : i = 0 ∨ i = 1 ∨ i = 2 ∨ i = 3 ∨ i = 4 ∨ i = 5 ∨ i = 6 ∨ i = 7 ∨ i = 8 ∨ i = 9 ∨ i = 10 ∨ i = 11 ∨ i = 12 ∨ i = 13 ∨ i = 14 ∨ i = 15 ∨ i = 16 ∨ i = 17 ∨ i = 18 ∨ i = 19 ∨ i = 20 ∨ i = 21 ∨ i = 22 ∨ i = 23 ∨ i = 24 ∨ i = 25 ∨ i = 26 ∨ i = 27 ∨ i = 28 ∨ i = 29 ∨ i = 30 ∨ i = 31 ∨ i = 32 ∨ i = 33 ∨ i = 34 ∨ i = 35 ∨ i = 36 ∨ i = 37 ∨ i = 38 ∨ i = 39 ∨ i = 40 ∨ i = 41 ∨ i = 42) with rfl | rfl | rfl | rfl | rfl | rfl | rfl | rfl | rfl | rfl | rfl | rfl | rfl | rfl | rfl | rfl | rfl | rfl | rfl | rfl | rfl | rfl | rfl | rfl | rfl | rfl | rfl | rfl | rfl | rfl | rfl | rfl | rfl | rfl | rfl | rfl | rfl | rfl | rfl | rfl | rfl | rfl | rfl
    · have ho0 := ho
      simp only [List.getElem?_toArray, List.getElem?_cons_zero, List.getElem?_cons_succ, Option.some.injEq] at ho
      subst ho
      have r0 := hS.pre' (k := 0) (v := .slice (some ⟨g, 0, none⟩) 7 c) (by rw [hA]; rfl) (by omega)
      exact st_val (v := .slice (some ⟨g, 0, none⟩) 7 c) (V' := V) ho0 rfl (by simp [execOp, r0, go_sem, Instr.loadAt, Instr.indexAt, Instr.fieldAt, Instr.build, numT]) (.inl ⟨by rw [getD_set_ne true (by omega)]; exact h29, hS.put (i := 0) (k := .eq (.slice (some ⟨g, 0, none⟩) 7 c)) (by rw [hG]; rfl) hAG rfl (Below.refl _ _), hB⟩)
    · have ho0 := ho
      simp only [List.getElem?_toArray, List.getElem?_cons_zero, List.getElem?_cons_succ, Option.some.injEq] at ho
      subst ho
      obtain ⟨t0, et0, rt0, ht0⟩ := hS.get (j := 0) (by rw [hG]; rfl) (getD_tf (hdep ⟨0, .data⟩ (by simp) rfl))
      subst ht0
      exact st_val (v := .pointer (some ⟨g, 2, none⟩)) (V' := V) ho0 rfl (by simp [execOp, rt0, go_sem, Instr.loadAt, Instr.indexAt, Instr.fieldAt, Instr.build, numT]) (.inl ⟨by rw [getD_set_ne true (by omega)]; exact h29, hS.put (i := 1) (k := .eq (.pointer (some ⟨g, 2, none⟩))) (by rw [hG]; rfl) hAG rfl (Below.refl _ _), hB⟩)
    · have ho0 := ho
      simp only [List.getElem?_toArray, List.getElem?_cons_zero, List.getElem?_cons_succ, Option.some.injEq] at ho
      subst ho
      obtain ⟨t1, et1, rt1, ht1⟩ := hS.get (j := 1) (by rw [hG]; rfl) (getD_tf (hdep ⟨1, .data⟩ (by simp) rfl))
      subst ht1
      exact st_val (v := .pointer (some ⟨g, 3, none⟩)) (V' := V) ho0 rfl (by simp [execOp, rt1, go_sem, Instr.loadAt, Instr.indexAt, Instr.fieldAt, Instr.build, numT]) (.inl ⟨by rw [getD_set_ne true (by omega)]; exact h29, hS.put (i := 2) (k := .eq (.pointer (some ⟨g, 3, none⟩))) (by rw [hG]; rfl) hAG rfl (Below.refl _ _), hB⟩)
    · have ho0 := ho
      simp only [List.getElem?_toArray, List.getElem?_cons_zero, List.getElem?_cons_succ, Option.some.injEq] at ho
      subst ho
      obtain ⟨t2, et2, rt2, ht2⟩ := hS.get (j := 2) (by rw [hG]; rfl) (getD_tf (hdep ⟨2, .data⟩ (by simp) rfl))
      subst ht2
      obtain ⟨c1, c3, c4, c5, c6⟩ := HC.out V hB
      exact st_val (v := .string b1) (V' := V) ho0 rfl (by simp [execOp, rt2, c1, c3, c4, c5, c6, go_sem, Instr.loadAt, Instr.indexAt, Instr.fieldAt, Instr.build, numT]) (.inl ⟨by rw [getD_set_ne true (by omega)]; exact h29, hS.put (i := 3) (k := .eq (.string b1)) (by rw [hG]; rfl) hAG rfl (Below.refl _ _), hB⟩)
    · have ho0 := ho
      simp only [List.getElem?_toArray, List.getElem?_cons_zero, List.getElem?_cons_succ, Option.some.injEq] at ho
      subst ho
      obtain ⟨t3, et3, rt3, ht3⟩ := hS.get (j := 3) (by rw [hG]; rfl) (getD_tf (hdep ⟨3, .data⟩ (by simp) rfl))
      subst ht3
      refine st_call (f := 158) (args := #[.string b1]) ho0 rfl (by simp only [execOp, resolve, invoke, Sem.run_bind, Sem.run_pure, Result.andThen_ok, List.map_toArray, List.map_cons, List.map_nil, et3, Deferred.ofValue, Array.append_empty]; rfl) ((X1.out V).mono ?_)
      rintro e V2 ⟨rfl, hb⟩
      exact ⟨_, rfl, .inl ⟨by rw [getD_set_ne true (by omega)]; exact h29, hS.put (i := 4) (k := .eq (numT ser sc)) (by rw [hG]; rfl) hAG rfl hb, hB.trans (hb.mono hB.size)⟩⟩
    · have ho0 := ho
      simp only [List.getElem?_toArray, List.getElem?_cons_zero, List.getElem?_cons_succ, Option.some.injEq] at ho
      subst ho
      obtain ⟨t4, et4, rt4, ht4⟩ := hS.get (j := 4) (by rw [hG]; rfl) (getD_tf (hdep ⟨4, .data⟩ (by simp) rfl))
      subst ht4
      exact st_val (v := .int .i64 ser) (V' := V) ho0 rfl (by simp only [execOp, et4, numT, Sem.run_bind, numF, Result.andThen_ok, Sem.run_pure]) (.inl ⟨by rw [getD_set_ne true (by omega)]; exact h29, hS.put (i := 5) (k := .eq (.int .i64 ser)) (by rw [hG]; rfl) hAG rfl (Below.refl _ _), hB⟩)
    · have ho0 := ho
      simp only [List.getElem?_toArray, List.getElem?_cons_zero, List.getElem?_cons_succ, Option.some.injEq] at ho
      subst ho
      have r0 := hS.pre' (k := 0) (v := .slice (some ⟨g, 0, none⟩) 7 c) (by rw [hA]; rfl) (by omega)
      exact st_val (v := .slice (some ⟨g, 0, none⟩) 7 c) (V' := V) ho0 rfl (by simp [execOp, r0, go_sem, Instr.loadAt, Instr.indexAt, Instr.fieldAt, Instr.build, numT]) (.inl ⟨by rw [getD_set_ne true (by omega)]; exact h29, hS.put (i := 6) (k := .eq (.slice (some ⟨g, 0, none⟩) 7 c)) (by rw [hG]; rfl) hAG rfl (Below.refl _ _), hB⟩)
    · have ho0 := ho
      simp only [List.getElem?_toArray, List.getElem?_cons_zero, List.getElem?_cons_succ, Option.some.injEq] at ho
      subst ho
      obtain ⟨t6, et6, rt6, ht6⟩ := hS.get (j := 6) (by rw [hG]; rfl) (getD_tf (hdep ⟨6, .data⟩ (by simp) rfl))
      subst ht6
      exact st_val (v := .pointer (some ⟨g, 6, none⟩)) (V' := V) ho0 rfl (by simp [execOp, rt6, go_sem, Instr.loadAt, Instr.indexAt, Instr.fieldAt, Instr.build, numT]) (.inl ⟨by rw [getD_set_ne true (by omega)]; exact h29, hS.put (i := 7) (k := .eq (.pointer (some ⟨g, 6, none⟩))) (by rw [hG]; rfl) hAG rfl (Below.refl _ _), hB⟩)
    · have ho0 := ho
      simp only [List.getElem?_toArray, List.getElem?_cons_zero, List.getElem?_cons_succ, Option.some.injEq] at ho
      subst ho
      obtain ⟨t7, et7, rt7, ht7⟩ := hS.get (j := 7) (by rw [hG]; rfl) (getD_tf (hdep ⟨7, .data⟩ (by simp) rfl))
      subst ht7
      exact st_val (v := .pointer (some ⟨g, 7, none⟩)) (V' := V) ho0 rfl (by simp [execOp, rt7, go_sem, Instr.loadAt, Instr.indexAt, Instr.fieldAt, Instr.build, numT]) (.inl ⟨by rw [getD_set_ne true (by omega)]; exact h29, hS.put (i := 8) (k := .eq (.pointer (some ⟨g, 7, none⟩))) (by rw [hG]; rfl) hAG rfl (Below.refl _ _), hB⟩)
    · have ho0 := ho
      simp only [List.getElem?_toArray, List.getElem?_cons_zero, List.getElem?_cons_succ, Option.some.injEq] at ho
      subst ho
      obtain ⟨t8, et8, rt8, ht8⟩ := hS.get (j := 8) (by rw [hG]; rfl) (getD_tf (hdep ⟨8, .data⟩ (by simp) rfl))
      subst ht8
      obtain ⟨c1, c3, c4, c5, c6⟩ := HC.out V hB
      exact st_val (v := .string b3) (V' := V) ho0 rfl (by simp [execOp, rt8, c1, c3, c4, c5, c6, go_sem, Instr.loadAt, Instr.indexAt, Instr.fieldAt, Instr.build, numT]) (.inl ⟨by rw [getD_set_ne true (by omega)]; exact h29, hS.put (i := 9) (k := .eq (.string b3)) (by rw [hG]; rfl) hAG rfl (Below.refl _ _), hB⟩)
    · have ho0 := ho
      simp only [List.getElem?_toArray, List.getElem?_cons_zero, List.getElem?_cons_succ, Option.some.injEq] at ho
      subst ho
      obtain ⟨t9, et9, rt9, ht9⟩ := hS.get (j := 9) (by rw [hG]; rfl) (getD_tf (hdep ⟨9, .data⟩ (by simp) rfl))
      subst ht9
      refine st_call (f := 157) (args := #[.string b3]) ho0 rfl (by simp only [execOp, resolve, invoke, Sem.run_bind, Sem.run_pure, Result.andThen_ok, List.map_toArray, List.map_cons, List.map_nil, et9, Deferred.ofValue, Array.append_empty]; rfl) ((X3.out V hV).mono ?_)
      rintro e V2 ⟨rfl, hb⟩
      exact ⟨_, rfl, .inl ⟨by rw [getD_set_ne true (by omega)]; exact h29, hS.put (i := 10) (k := .eq (.string iss)) (by rw [hG]; rfl) hAG rfl hb, hB.trans (hb.mono hB.size)⟩⟩
    · have ho0 := ho
      simp only [List.getElem?_toArray, List.getElem?_cons_zero, List.getElem?_cons_succ, Option.some.injEq] at ho
      subst ho
      have r0 := hS.pre' (k := 0) (v := .slice (some ⟨g, 0, none⟩) 7 c) (by rw [hA]; rfl) (by omega)
      exact st_val (v := .slice (some ⟨g, 0, none⟩) 7 c) (V' := V) ho0 rfl (by simp [execOp, r0, go_sem, Instr.loadAt, Instr.indexAt, Instr.fieldAt, Instr.build, numT]) (.inl ⟨by rw [getD_set_ne true (by omega)]; exact h29, hS.put (i := 11) (k := .eq (.slice (some ⟨g, 0, none⟩) 7 c)) (by rw [hG]; rfl) hAG rfl (Below.refl _ _), hB⟩)
    · have ho0 := ho
      simp only [List.getElem?_toArray, List.getElem?_cons_zero, List.getElem?_cons_succ, Option.some.injEq] at ho
      subst ho
      obtain ⟨t11, et11, rt11, ht11⟩ := hS.get (j := 11) (by rw [hG]; rfl) (getD_tf (hdep ⟨11, .data⟩ (by simp) rfl))
      subst ht11
      exact st_val (v := .pointer (some ⟨g, 8, none⟩)) (V' := V) ho0 rfl (by simp [execOp, rt11, go_sem, Instr.loadAt, Instr.indexAt, Instr.fieldAt, Instr.build, numT]) (.inl ⟨by rw [getD_set_ne true (by omega)]; exact h29, hS.put (i := 12) (k := .eq (.pointer (some ⟨g, 8, none⟩))) (by rw [hG]; rfl) hAG rfl (Below.refl _ _), hB⟩)
    · have ho0 := ho
      simp only [List.getElem?_toArray, List.getElem?_cons_zero, List.getElem?_cons_succ, Option.some.injEq] at ho
      subst ho
      obtain ⟨t12, et12, rt12, ht12⟩ := hS.get (j := 12) (by rw [hG]; rfl) (getD_tf (hdep ⟨12, .data⟩ (by simp) rfl))
      subst ht12
      exact st_val (v := .pointer (some ⟨g, 9, none⟩)) (V' := V) ho0 rfl (by simp [execOp, rt12, go_sem, Instr.loadAt, Instr.indexAt, Instr.fieldAt, Instr.build, numT]) (.inl ⟨by rw [getD_set_ne true (by omega)]; exact h29, hS.put (i := 13) (k := .eq (.pointer (some ⟨g, 9, none⟩))) (by rw [hG]; rfl) hAG rfl (Below.refl _ _), hB⟩)
    · have ho0 := ho
      simp only [List.getElem?_toArray, List.getElem?_cons_zero, List.getElem?_cons_succ, Option.some.injEq] at ho
      subst ho
      obtain ⟨t13, et13, rt13, ht13⟩ := hS.get (j := 13) (by rw [hG]; rfl) (getD_tf (hdep ⟨13, .data⟩ (by simp) rfl))
      subst ht13
      obtain ⟨c1, c3, c4, c5, c6⟩ := HC.out V hB
      exact st_val (v := .string b4) (V' := V) ho0 rfl (by simp [execOp, rt13, c1, c3, c4, c5, c6, go_sem, Instr.loadAt, Instr.indexAt, Instr.fieldAt, Instr.build, numT]) (.inl ⟨by rw [getD_set_ne true (by omega)]; exact h29, hS.put (i := 14) (k := .eq (.string b4)) (by rw [hG]; rfl) hAG rfl (Below.refl _ _), hB⟩)
    · have ho0 := ho
      simp only [List.getElem?_toArray, List.getElem?_cons_zero, List.getElem?_cons_succ, Option.some.injEq] at ho
      subst ho
      have hb : Below V.heap.size V (V.alloc (.cells #[.int .i64 0] 3 (0, 0))) := (Below.refl _ V).alloc (Nat.le_refl _) _
      exact st_val (v := .slice (some ⟨V.heap.size, 0, none⟩) 1 1) (V' := V.alloc (.cells #[.int .i64 0] 3 (0, 0))) ho0 rfl (by kernel_rfl) (.inl ⟨by rw [getD_set_ne true (by omega)]; exact h29, hS.put (i := 15) (k := .one 3 0) (by rw [hG]; rfl) hAG ⟨_, rfl, heap_alloc_new V _⟩ hb, hB.trans (hb.mono hB.size)⟩)
    · have ho0 := ho
      simp only [List.getElem?_toArray, List.getElem?_cons_zero, List.getElem?_cons_succ, Option.some.injEq] at ho
      subst ho
      obtain ⟨t14, et14, rt14, ht14⟩ := hS.get (j := 14) (by rw [hG]; rfl) (getD_tf (hdep ⟨14, .data⟩ (by simp) rfl))
      subst ht14
      obtain ⟨t15, et15, rt15, ht15⟩ := hS.get (j := 15) (by rw [hG]; rfl) (getD_tf (hdep ⟨15, .data⟩ (by simp) rfl))
      obtain ⟨g', rfl, hg'⟩ := ht15
      refine st_call (f := 144) (args := #[.string b4, .slice (some ⟨g', 0, none⟩) 1 1]) ho0 rfl (by simp only [execOp, resolve, invoke, Sem.run_bind, Sem.run_pure, Result.andThen_ok, List.map_toArray, List.map_cons, List.map_nil, et14, et15, Deferred.ofValue, Array.append_empty]; rfl) ((HAt0.out V b4 0 g' (by omega) Sb4.out hV hg').mono ?_)
      rintro e V2 ⟨rfl, hb⟩
      rw [← D0.out.1]
      exact ⟨_, rfl, .inl ⟨by rw [getD_set_ne true (by omega)]; exact h29, hS.put (i := 16) (k := .eq (.string d0)) (by rw [hG]; rfl) hAG rfl hb, hB.trans (hb.mono hB.size)⟩⟩
    · have ho0 := ho
      simp only [List.getElem?_toArray, List.getElem?_cons_zero, List.getElem?_cons_succ, Option.some.injEq] at ho
      subst ho
      obtain ⟨t16, et16, rt16, ht16⟩ := hS.get (j := 16) (by rw [hG]; rfl) (getD_tf (hdep ⟨16, .data⟩ (by simp) rfl))
      subst ht16
      refine st_call (f := 158) (args := #[.string d0]) ho0 rfl (by simp only [execOp, resolve, invoke, Sem.run_bind, Sem.run_pure, Result.andThen_ok, List.map_toArray, List.map_cons, List.map_nil, et16, Deferred.ofValue, Array.append_empty]; rfl) ((X4.out V).mono ?_)
      rintro e V2 ⟨rfl, hb⟩
      exact ⟨_, rfl, .inl ⟨by rw [getD_set_ne true (by omega)]; exact h29, hS.put (i := 17) (k := .eq (numT fr fc)) (by rw [hG]; rfl) hAG rfl hb, hB.trans (hb.mono hB.size)⟩⟩
    · have ho0 := ho
      simp only [List.getElem?_toArray, List.getElem?_cons_zero, List.getElem?_cons_succ, Option.some.injEq] at ho
      subst ho
      obtain ⟨t17, et17, rt17, ht17⟩ := hS.get (j := 17) (by rw [hG]; rfl) (getD_tf (hdep ⟨17, .data⟩ (by simp) rfl))
      subst ht17
      exact st_val (v := .int .i64 fr) (V' := V) ho0 rfl (by simp only [execOp, et17, numT, Sem.run_bind, numF, Result.andThen_ok, Sem.run_pure]) (.inl ⟨by rw [getD_set_ne true (by omega)]; exact h29, hS.put (i := 18) (k := .eq (.int .i64 fr)) (by rw [hG]; rfl) hAG rfl (Below.refl _ _), hB⟩)
    · have ho0 := ho
      simp only [List.getElem?_toArray, List.getElem?_cons_zero, List.getElem?_cons_succ, Option.some.injEq] at ho
      subst ho
      have r0 := hS.pre' (k := 0) (v := .slice (some ⟨g, 0, none⟩) 7 c) (by rw [hA]; rfl) (by omega)
      exact st_val (v := .slice (some ⟨g, 0, none⟩) 7 c) (V' := V) ho0 rfl (by simp [execOp, r0, go_sem, Instr.loadAt, Instr.indexAt, Instr.fieldAt, Instr.build, numT]) (.inl ⟨by rw [getD_set_ne true (by omega)]; exact h29, hS.put (i := 19) (k := .eq (.slice (some ⟨g, 0, none⟩) 7 c)) (by rw [hG]; rfl) hAG rfl (Below.refl _ _), hB⟩)
    · have ho0 := ho
      simp only [List.getElem?_toArray, List.getElem?_cons_zero, List.getElem?_cons_succ, Option.some.injEq] at ho
      subst ho
      obtain ⟨t19, et19, rt19, ht19⟩ := hS.get (j := 19) (by rw [hG]; rfl) (getD_tf (hdep ⟨19, .data⟩ (by simp) rfl))
      subst ht19
      exact st_val (v := .pointer (some ⟨g, 8, none⟩)) (V' := V) ho0 rfl (by simp [execOp, rt19, go_sem, Instr.loadAt, Instr.indexAt, Instr.fieldAt, Instr.build, numT]) (.inl ⟨by rw [getD_set_ne true (by omega)]; exact h29, hS.put (i := 20) (k := .eq (.pointer (some ⟨g, 8, none⟩))) (by rw [hG]; rfl) hAG rfl (Below.refl _ _), hB⟩)
    · have ho0 := ho
      simp only [List.getElem?_toArray, List.getElem?_cons_zero, List.getElem?_cons_succ, Option.some.injEq] at ho
      subst ho
      obtain ⟨t20, et20, rt20, ht20⟩ := hS.get (j := 20) (by rw [hG]; rfl) (getD_tf (hdep ⟨20, .data⟩ (by simp) rfl))
      subst ht20
      exact st_val (v := .pointer (some ⟨g, 9, none⟩)) (V' := V) ho0 rfl (by simp [execOp, rt20, go_sem, Instr.loadAt, Instr.indexAt, Instr.fieldAt, Instr.build, numT]) (.inl ⟨by rw [getD_set_ne true (by omega)]; exact h29, hS.put (i := 21) (k := .eq (.pointer (some ⟨g, 9, none⟩))) (by rw [hG]; rfl) hAG rfl (Below.refl _ _), hB⟩)
    · have ho0 := ho
      simp only [List.getElem?_toArray, List.getElem?_cons_zero, List.getElem?_cons_succ, Option.some.injEq] at ho
      subst ho
      obtain ⟨t21, et21, rt21, ht21⟩ := hS.get (j := 21) (by rw [hG]; rfl) (getD_tf (hdep ⟨21, .data⟩ (by simp) rfl))
      subst ht21
      obtain ⟨c1, c3, c4, c5, c6⟩ := HC.out V hB
      exact st_val (v := .string b4) (V' := V) ho0 rfl (by simp [execOp, rt21, c1, c3, c4, c5, c6, go_sem, Instr.loadAt, Instr.indexAt, Instr.fieldAt, Instr.build, numT]) (.inl ⟨by rw [getD_set_ne true (by omega)]; exact h29, hS.put (i := 22) (k := .eq (.string b4)) (by rw [hG]; rfl) hAG rfl (Below.refl _ _), hB⟩)
    · have ho0 := ho
      simp only [List.getElem?_toArray, List.getElem?_cons_zero, List.getElem?_cons_succ, Option.some.injEq] at ho
      subst ho
      have hb : Below V.heap.size V (V.alloc (.cells #[.int .i64 1] 3 (0, 0))) := (Below.refl _ V).alloc (Nat.le_refl _) _
      exact st_val (v := .slice (some ⟨V.heap.size, 0, none⟩) 1 1) (V' := V.alloc (.cells #[.int .i64 1] 3 (0, 0))) ho0 rfl (by kernel_rfl) (.inl ⟨by rw [getD_set_ne true (by omega)]; exact h29, hS.put (i := 23) (k := .one 3 1) (by rw [hG]; rfl) hAG ⟨_, rfl, heap_alloc_new V _⟩ hb, hB.trans (hb.mono hB.size)⟩)
    · have ho0 := ho
      simp only [List.getElem?_toArray, List.getElem?_cons_zero, List.getElem?_cons_succ, Option.some.injEq] at ho
      subst ho
      obtain ⟨t22, et22, rt22, ht22⟩ := hS.get (j := 22) (by rw [hG]; rfl) (getD_tf (hdep ⟨22, .data⟩ (by simp) rfl))
      subst ht22
      obtain ⟨t23, et23, rt23, ht23⟩ := hS.get (j := 23) (by rw [hG]; rfl) (getD_tf (hdep ⟨23, .data⟩ (by simp) rfl))
      obtain ⟨g', rfl, hg'⟩ := ht23
      refine st_call (f := 144) (args := #[.string b4, .slice (some ⟨g', 0, none⟩) 1 1]) ho0 rfl (by simp only [execOp, resolve, invoke, Sem.run_bind, Sem.run_pure, Result.andThen_ok, List.map_toArray, List.map_cons, List.map_nil, et22, et23, Deferred.ofValue, Array.append_empty]; rfl) ((HAt0.out V b4 1 g' (by omega) Sb4.out hV hg').mono ?_)
      rintro e V2 ⟨rfl, hb⟩
      rw [← D1.out.1]
      exact ⟨_, rfl, .inl ⟨by rw [getD_set_ne true (by omega)]; exact h29, hS.put (i := 24) (k := .eq (.string d1)) (by rw [hG]; rfl) hAG rfl hb, hB.trans (hb.mono hB.size)⟩⟩
    · have ho0 := ho
      simp only [List.getElem?_toArray, List.getElem?_cons_zero, List.getElem?_cons_succ, Option.some.injEq] at ho
      subst ho
      obtain ⟨t24, et24, rt24, ht24⟩ := hS.get (j := 24) (by rw [hG]; rfl) (getD_tf (hdep ⟨24, .data⟩ (by simp) rfl))
      subst ht24
      refine st_call (f := 158) (args := #[.string d1]) ho0 rfl (by simp only [execOp, resolve, invoke, Sem.run_bind, Sem.run_pure, Result.andThen_ok, List.map_toArray, List.map_cons, List.map_nil, et24, Deferred.ofValue, Array.append_empty]; rfl) ((X5.out V).mono ?_)
      rintro e V2 ⟨rfl, hb⟩
      exact ⟨_, rfl, .inl ⟨by rw [getD_set_ne true (by omega)]; exact h29, hS.put (i := 25) (k := .eq (numT ti tc)) (by rw [hG]; rfl) hAG rfl hb, hB.trans (hb.mono hB.size)⟩⟩
    · have ho0 := ho
      simp only [List.getElem?_toArray, List.getElem?_cons_zero, List.getElem?_cons_succ, Option.some.injEq] at ho
      subst ho
      obtain ⟨t25, et25, rt25, ht25⟩ := hS.get (j := 25) (by rw [hG]; rfl) (getD_tf (hdep ⟨25, .data⟩ (by simp) rfl))
      subst ht25
      exact st_val (v := .int .i64 ti) (V' := V) ho0 rfl (by simp only [execOp, et25, numT, Sem.run_bind, numF, Result.andThen_ok, Sem.run_pure]) (.inl ⟨by rw [getD_set_ne true (by omega)]; exact h29, hS.put (i := 26) (k := .eq (.int .i64 ti)) (by rw [hG]; rfl) hAG rfl (Below.refl _ _), hB⟩)
    · have ho0 := ho
      simp only [List.getElem?_toArray, List.getElem?_cons_zero, List.getElem?_cons_succ, Option.some.injEq] at ho
      subst ho
      have r0 := hS.pre' (k := 0) (v := .slice (some ⟨g, 0, none⟩) 7 c) (by rw [hA]; rfl) (by omega)
      exact st_val (v := .slice (some ⟨g, 0, none⟩) 7 c) (V' := V) ho0 rfl (by simp [execOp, r0, go_sem, Instr.loadAt, Instr.indexAt, Instr.fieldAt, Instr.build, numT]) (.inl ⟨by rw [getD_set_ne true (by omega)]; exact h29, hS.put (i := 27) (k := .eq (.slice (some ⟨g, 0, none⟩) 7 c)) (by rw [hG]; rfl) hAG rfl (Below.refl _ _), hB⟩)
    · have ho0 := ho
      simp only [List.getElem?_toArray, List.getElem?_cons_zero, List.getElem?_cons_succ, Option.some.injEq] at ho
      subst ho
      obtain ⟨t27, et27, rt27, ht27⟩ := hS.get (j := 27) (by rw [hG]; rfl) (getD_tf (hdep ⟨27, .data⟩ (by simp) rfl))
      subst ht27
      exact st_val (v := .pointer (some ⟨g, 10, none⟩)) (V' := V) ho0 rfl (by simp [execOp, rt27, go_sem, Instr.loadAt, Instr.indexAt, Instr.fieldAt, Instr.build, numT]) (.inl ⟨by rw [getD_set_ne true (by omega)]; exact h29, hS.put (i := 28) (k := .eq (.pointer (some ⟨g, 10, none⟩))) (by rw [hG]; rfl) hAG rfl (Below.refl _ _), hB⟩)
    · have ho0 := ho
      simp only [List.getElem?_toArray, List.getElem?_cons_zero, List.getElem?_cons_succ, Option.some.injEq] at ho
      subst ho
      obtain ⟨t28, et28, rt28, ht28⟩ := hS.get (j := 28) (by rw [hG]; rfl) (getD_tf (hdep ⟨28, .data⟩ (by simp) rfl))
      subst ht28
      exact st_val (v := .pointer (some ⟨g, 11, none⟩)) (V' := V) ho0 rfl (by simp [execOp, rt28, go_sem, Instr.loadAt, Instr.indexAt, Instr.fieldAt, Instr.build, numT]) (.inl ⟨by rw [getD_set_ne true (by omega)]; exact h29, hS.put (i := 29) (k := .eq (.pointer (some ⟨g, 11, none⟩))) (by rw [hG]; rfl) hAG rfl (Below.refl _ _), hB⟩)
    · have ho0 := ho
      simp only [List.getElem?_toArray, List.getElem?_cons_zero, List.getElem?_cons_succ, Option.some.injEq] at ho
      subst ho
      obtain ⟨t29, et29, rt29, ht29⟩ := hS.get (j := 29) (by rw [hG]; rfl) (getD_tf (hdep ⟨29, .data⟩ (by simp) rfl))
      subst ht29
      obtain ⟨c1, c3, c4, c5, c6⟩ := HC.out V hB
      exact st_val (v := .string b5) (V' := V) ho0 rfl (by simp [execOp, rt29, c1, c3, c4, c5, c6, go_sem, Instr.loadAt, Instr.indexAt, Instr.fieldAt, Instr.build, numT]) (.inl ⟨by rw [getD_set_ne true (by omega)]; exact h29, hS.put (i := 30) (k := .eq (.string b5)) (by rw [hG]; rfl) hAG rfl (Below.refl _ _), hB⟩)
    · have ho0 := ho
      simp only [List.getElem?_toArray, List.getElem?_cons_zero, List.getElem?_cons_succ, Option.some.injEq] at ho
      subst ho
      obtain ⟨t30, et30, rt30, ht30⟩ := hS.get (j := 30) (by rw [hG]; rfl) (getD_tf (hdep ⟨30, .data⟩ (by simp) rfl))
      subst ht30
      refine st_call (f := 157) (args := #[.string b5]) ho0 rfl (by simp only [execOp, resolve, invoke, Sem.run_bind, Sem.run_pure, Result.andThen_ok, List.map_toArray, List.map_cons, List.map_nil, et30, Deferred.ofValue, Array.append_empty]; rfl) ((X6.out V hV).mono ?_)
      rintro e V2 ⟨rfl, hb⟩
      exact ⟨_, rfl, .inl ⟨by rw [getD_set_ne true (by omega)]; exact h29, hS.put (i := 31) (k := .eq (.string sub)) (by rw [hG]; rfl) hAG rfl hb, hB.trans (hb.mono hB.size)⟩⟩
    · have ho0 := ho
      simp only [List.getElem?_toArray, List.getElem?_cons_zero, List.getElem?_cons_succ, Option.some.injEq] at ho
      subst ho
      have r0 := hS.pre' (k := 0) (v := .slice (some ⟨g, 0, none⟩) 7 c) (by rw [hA]; rfl) (by omega)
      exact st_val (v := .slice (some ⟨g, 0, none⟩) 7 c) (V' := V) ho0 rfl (by simp [execOp, r0, go_sem, Instr.loadAt, Instr.indexAt, Instr.fieldAt, Instr.build, numT]) (.inl ⟨by rw [getD_set_ne true (by omega)]; exact h29, hS.put (i := 32) (k := .eq (.slice (some ⟨g, 0, none⟩) 7 c)) (by rw [hG]; rfl) hAG rfl (Below.refl _ _), hB⟩)
    · have ho0 := ho
      simp only [List.getElem?_toArray, List.getElem?_cons_zero, List.getElem?_cons_succ, Option.some.injEq] at ho
      subst ho
      obtain ⟨t32, et32, rt32, ht32⟩ := hS.get (j := 32) (by rw [hG]; rfl) (getD_tf (hdep ⟨32, .data⟩ (by simp) rfl))
      subst ht32
      exact st_val (v := .pointer (some ⟨g, 12, none⟩)) (V' := V) ho0 rfl (by simp [execOp, rt32, go_sem, Instr.loadAt, Instr.indexAt, Instr.fieldAt, Instr.build, numT]) (.inl ⟨by rw [getD_set_ne true (by omega)]; exact h29, hS.put (i := 33) (k := .eq (.pointer (some ⟨g, 12, none⟩))) (by rw [hG]; rfl) hAG rfl (Below.refl _ _), hB⟩)
    · have ho0 := ho
      simp only [List.getElem?_toArray, List.getElem?_cons_zero, List.getElem?_cons_succ, Option.some.injEq] at ho
      subst ho
      obtain ⟨t33, et33, rt33, ht33⟩ := hS.get (j := 33) (by rw [hG]; rfl) (getD_tf (hdep ⟨33, .data⟩ (by simp) rfl))
      subst ht33
      exact st_val (v := .pointer (some ⟨g, 13, none⟩)) (V' := V) ho0 rfl (by simp [execOp, rt33, go_sem, Instr.loadAt, Instr.indexAt, Instr.fieldAt, Instr.build, numT]) (.inl ⟨by rw [getD_set_ne true (by omega)]; exact h29, hS.put (i := 34) (k := .eq (.pointer (some ⟨g, 13, none⟩))) (by rw [hG]; rfl) hAG rfl (Below.refl _ _), hB⟩)
    · have ho0 := ho
      simp only [List.getElem?_toArray, List.getElem?_cons_zero, List.getElem?_cons_succ, Option.some.injEq] at ho
      subst ho
      obtain ⟨t34, et34, rt34, ht34⟩ := hS.get (j := 34) (by rw [hG]; rfl) (getD_tf (hdep ⟨34, .data⟩ (by simp) rfl))
      subst ht34
      obtain ⟨c1, c3, c4, c5, c6⟩ := HC.out V hB
      exact st_val (v := .string b6) (V' := V) ho0 rfl (by simp [execOp, rt34, c1, c3, c4, c5, c6, go_sem, Instr.loadAt, Instr.indexAt, Instr.fieldAt, Instr.build, numT]) (.inl ⟨by rw [getD_set_ne true (by omega)]; exact h29, hS.put (i := 35) (k := .eq (.string b6)) (by rw [hG]; rfl) hAG rfl (Below.refl _ _), hB⟩)
    · have ho0 := ho
      simp only [List.getElem?_toArray, List.getElem?_cons_zero, List.getElem?_cons_succ, Option.some.injEq] at ho
      subst ho
      have hb : Below V.heap.size V (V.alloc (.cells #[.int .i64 1] 3 (0, 0))) := (Below.refl _ V).alloc (Nat.le_refl _) _
      exact st_val (v := .slice (some ⟨V.heap.size, 0, none⟩) 1 1) (V' := V.alloc (.cells #[.int .i64 1] 3 (0, 0))) ho0 rfl (by kernel_rfl) (.inl ⟨by rw [getD_set_ne true (by omega)]; exact h29, hS.put (i := 36) (k := .one 3 1) (by rw [hG]; rfl) hAG ⟨_, rfl, heap_alloc_new V _⟩ hb, hB.trans (hb.mono hB.size)⟩)
    · have ho0 := ho
      simp only [List.getElem?_toArray, List.getElem?_cons_zero, List.getElem?_cons_succ, Option.some.injEq] at ho
      subst ho
      obtain ⟨t35, et35, rt35, ht35⟩ := hS.get (j := 35) (by rw [hG]; rfl) (getD_tf (hdep ⟨35, .data⟩ (by simp) rfl))
      subst ht35
      obtain ⟨t36, et36, rt36, ht36⟩ := hS.get (j := 36) (by rw [hG]; rfl) (getD_tf (hdep ⟨36, .data⟩ (by simp) rfl))
      obtain ⟨g', rfl, hg'⟩ := ht36
      refine st_call (f := 144) (args := #[.string b6, .slice (some ⟨g', 0, none⟩) 1 1]) ho0 rfl (by simp only [execOp, resolve, invoke, Sem.run_bind, Sem.run_pure, Result.andThen_ok, List.map_toArray, List.map_cons, List.map_nil, et35, et36, Deferred.ofValue, Array.append_empty]; rfl) ((HAt0.out V b6 1 g' (by omega) Sb6.out hV hg').mono ?_)
      rintro e V2 ⟨rfl, hb⟩
      rw [← D2.out.1]
      exact ⟨_, rfl, .inl ⟨by rw [getD_set_ne true (by omega)]; exact h29, hS.put (i := 37) (k := .eq (.string d2)) (by rw [hG]; rfl) hAG rfl hb, hB.trans (hb.mono hB.size)⟩⟩
    · have ho0 := ho
      simp only [List.getElem?_toArray, List.getElem?_cons_zero, List.getElem?_cons_succ, Option.some.injEq] at ho
      subst ho
      obtain ⟨t37, et37, rt37, ht37⟩ := hS.get (j := 37) (by rw [hG]; rfl) (getD_tf (hdep ⟨37, .data⟩ (by simp) rfl))
      subst ht37
      refine st_call (f := 148) (args := #[.string d2, .int .i64 1]) ho0 rfl (by simp only [execOp, resolve, invoke, Sem.run_bind, Sem.run_pure, Result.andThen_ok, List.map_toArray, List.map_cons, List.map_nil, et37, show a.eval (.const (.int .i64 1)) = .int .i64 1 from rfl, Deferred.ofValue, Array.append_empty]; rfl) ((X7.out V hV).mono ?_)
      rintro e V2 ⟨rfl, hg2, hb⟩
      exact ⟨_, rfl, .inl ⟨by rw [getD_set_ne true (by omega)]; exact h29, hS.put (i := 38) (k := .row 2 [key]) (by rw [hG]; rfl) hAG ⟨_, rfl, hg2⟩ hb, hB.trans (hb.mono hB.size)⟩⟩
    · have ho0 := ho
      simp only [List.getElem?_toArray, List.getElem?_cons_zero, List.getElem?_cons_succ, Option.some.injEq] at ho
      subst ho
      obtain ⟨t38, et38, rt38, ht38⟩ := hS.get (j := 38) (by rw [hG]; rfl) (getD_tf (hdep ⟨38, .data⟩ (by simp) rfl))
      obtain ⟨g', rfl, hg'⟩ := ht38
      exact st_val (v := .pointer (some ⟨g', 0, none⟩)) (V' := V) ho0 rfl (by simp [execOp, rt38, go_sem, Instr.loadAt, Instr.indexAt, Instr.fieldAt, Instr.build, numT]) (.inl ⟨by rw [getD_set_ne true (by omega)]; exact h29, hS.put (i := 39) (k := .at' (.int .i64 key)) (by rw [hG]; rfl) hAG ⟨_, rfl, rowFacts hg' 0 _ rfl⟩ (Below.refl _ _), hB⟩)
    · have ho0 := ho
      simp only [List.getElem?_toArray, List.getElem?_cons_zero, List.getElem?_cons_succ, Option.some.injEq] at ho
      subst ho
      obtain ⟨t39, et39, rt39, ht39⟩ := hS.get (j := 39) (by rw [hG]; rfl) (getD_tf (hdep ⟨39, .data⟩ (by simp) rfl))
      obtain ⟨ad, rfl, had⟩ := ht39
      exact st_val (v := .int .i64 key) (V' := V) ho0 rfl (by simp [execOp, rt39, had, go_sem, Instr.loadAt, Instr.indexAt, Instr.fieldAt, Instr.build, numT]) (.inl ⟨by rw [getD_set_ne true (by omega)]; exact h29, hS.put (i := 40) (k := .eq (.int .i64 key)) (by rw [hG]; rfl) hAG rfl (Below.refl _ _), hB⟩)
    · have ho0 := ho
      simp only [List.getElem?_toArray, List.getElem?_cons_zero, List.getElem?_cons_succ, Option.some.injEq] at ho
      subst ho
      obtain ⟨t5, et5, rt5, ht5⟩ := hS.get (j := 5) (by rw [hG]; rfl) (getD_tf (hdep ⟨5, .data⟩ (by simp) rfl))
      subst ht5
      obtain ⟨t10, et10, rt10, ht10⟩ := hS.get (j := 10) (by rw [hG]; rfl) (getD_tf (hdep ⟨10, .data⟩ (by simp) rfl))
      subst ht10
      obtain ⟨t18, et18, rt18, ht18⟩ := hS.get (j := 18) (by rw [hG]; rfl) (getD_tf (hdep ⟨18, .data⟩ (by simp) rfl))
      subst ht18
      obtain ⟨t26, et26, rt26, ht26⟩ := hS.get (j := 26) (by rw [hG]; rfl) (getD_tf (hdep ⟨26, .data⟩ (by simp) rfl))
      subst ht26
      obtain ⟨t31, et31, rt31, ht31⟩ := hS.get (j := 31) (by rw [hG]; rfl) (getD_tf (hdep ⟨31, .data⟩ (by simp) rfl))
      subst ht31
      obtain ⟨t40, et40, rt40, ht40⟩ := hS.get (j := 40) (by rw [hG]; rfl) (getD_tf (hdep ⟨40, .data⟩ (by simp) rfl))
      subst ht40
      exact st_val (v := .agg #[.int .i64 ser, .string iss, .string sub, .int .i64 fr, .int .i64 ti, .int .i64 key, .slice none 0 0, .bool false, .int .i64 0, .int .i64 0, .int .i64 0]) (V' := V) ho0 rfl (by simp [execOp, rt5, rt10, rt18, rt26, rt31, rt40, go_sem, Instr.loadAt, Instr.indexAt, Instr.fieldAt, Instr.build, numT]) (.inl ⟨by rw [getD_set_ne true (by omega)]; exact h29, hS.put (i := 41) (k := .eq (.agg #[.int .i64 ser, .string iss, .string sub, .int .i64 fr, .int .i64 ti, .int .i64 key, .slice none 0 0, .bool false, .int .i64 0, .int .i64 0, .int .i64 0])) (by rw [hG]; rfl) hAG rfl (Below.refl _ _), hB⟩)
    · have ho0 := ho
      simp only [List.getElem?_toArray, List.getElem?_cons_zero, List.getElem?_cons_succ, Option.some.injEq] at ho
      subst ho
      obtain ⟨t41, et41, rt41, ht41⟩ := hS.get (j := 41) (by rw [hG]; rfl) (getD_tf (hdep ⟨41, .data⟩ (by simp) rfl))
      subst ht41
      have e2 := hS.pre (k := 2) (v := .pointer (some ⟨w.heap.size, 0, none⟩)) (by rw [hA]; rfl) (by omega)
      refine wpOp_step ho0 fun K' hK => ?_
      rw [if_pos (by rfl)]
      refine wp_store_row 27 _ _ rfl (w.heap.size) [Value.int .i64 0, .string ⟨#[]⟩, .string ⟨#[]⟩, .int .i64 0, .int .i64 0, .int .i64 0, .slice none 0 0, .bool false, .int .i64 0, .int .i64 0, .int .i64 0] [Value.int .i64 ser, .string iss, .string sub, .int .i64 fr, .int .i64 ti, .int .i64 key, .slice none 0 0, .bool false, .int .i64 0, .int .i64 0, .int .i64 0] 27 e2 et41 (HRes.out _ hB) rfl sizeCertV (by simp [Value.oneCell']) ?_
      intro w8 hrow ho8 hs8 hbb
      refine hK _ _ (.inr ⟨fun j hj => ?_, hS.defers, e2, hrow, hbb _ _ (Nat.le_refl _) (HB.out _ hB)⟩)
      by_cases e : j = 42
      · subst e
        rw [Array.getD_eq_getD_getElem?, Array.getElem?_setIfInBounds_self_of_lt (by rw [hsz]; decide)]
        rfl
      · rw [getD_set_ne true (Ne.symm e)]
        have hj29 : j < 42 := by omega
        refine getD_tf (hdep ⟨j, .phase⟩ ?_ rfl)
        rcases (by omega : j = 0 ∨ j = 1 ∨ j = 2 ∨ j = 3 ∨ j = 4 ∨ j = 5 ∨ j = 6 ∨ j = 7 ∨ j = 8 ∨ j = 9 ∨ j = 10 ∨ j = 11 ∨ j = 12 ∨ j = 13 ∨ j = 14 ∨ j = 15 ∨ j = 16 ∨ j = 17 ∨ j = 18 ∨ j = 19 ∨ j = 20 ∨ j = 21 ∨ j = 22 ∨ j = 23 ∨ j = 24 ∨ j = 25 ∨ j = 26 ∨ j = 27 ∨ j = 28 ∨ j = 29 ∨ j = 30 ∨ j = 31 ∨ j = 32 ∨ j = 33 ∨ j = 34 ∨ j = 35 ∨ j = 36 ∨ j = 37 ∨ j = 38 ∨ j = 39 ∨ j = 40 ∨ j = 41) with rfl | rfl | rfl | rfl | rfl | rfl | rfl | rfl | rfl | rfl | rfl | rfl | rfl | rfl | rfl | rfl | rfl | rfl | rfl | rfl | rfl | rfl | rfl | rfl | rfl | rfl | rfl | rfl | rfl | rfl | rfl | rfl | rfl | rfl | rfl | rfl | rfl | rfl | rfl | rfl | rfl | rfl <;> simp
end Go.Proofs.YtkhdjmjbdpmdnaaGreatDoor
