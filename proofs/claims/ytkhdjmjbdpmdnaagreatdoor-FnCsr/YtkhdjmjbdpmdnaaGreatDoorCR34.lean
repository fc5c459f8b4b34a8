/- impl.readCrl, walked. -/
import Derived.Test.YtkhdjmjbdpmdnaaGreatDoorCR30
import Derived.Test.YtkhdjmjbdpmdnaaGreatDoorCR33
import Derived.Test.YtkhdjmjbdpmdnaaGreatDoorCR25
import Derived.Test.YtkhdjmjbdpmdnaaGreatDoorCR09
import Derived.Test.YtkhdjmjbdpmdnaaGreatDoorCR04
namespace Go.Proofs.YtkhdjmjbdpmdnaaGreatDoor
open Go.RowKit

theorem sizeCrlV : (Tryz.prog.info? 53).map (·.size) = some 7 := by kernel_rfl
set_option linter.unusedSimpArgs false in
set_option maxHeartbeats 4000000 in
set_option maxRecDepth 100000 in
theorem implReadCrl (s : ByteArray) (w : World) (hs : s.size ≤ 20000) (hE : ErrType w) :
    Calls Tryz.prog 99 #[.string s] w fun e w' => ∃ v, e = .returned ((readL s).val v) ∧ OwnL w' w.heap.size v (readL s).serials ∧ Below w.heap.size w w' := by
  have hEp := hE.pos
  obtain ⟨w1, hw1⟩ : ∃ y, y = w.alloc (.cells #[.string ⟨#[]⟩, .int .i64 0, .int .i64 0, .slice none 0 0, .int .i64 0, .int .i64 0, .int .i64 0] 53 (0, 0)) := ⟨_, rfl⟩
  have hz : w1.heap.size = w.heap.size + 1 := by rw [hw1]; simp
  have hg1 : w1.heap[w.heap.size]? = some (.cells [Value.string ⟨#[]⟩, .int .i64 0, .int .i64 0, .slice none 0 0, .int .i64 0, .int .i64 0, .int .i64 0].toArray 53 (0, 0)) := by rw [hw1]; exact heap_alloc_new w _
  have hB1 : Below w.heap.size w w1 := by rw [hw1]; exact (Below.refl _ w).alloc (Nat.le_refl _) _
  have HB : Hid (∀ V, Below w1.heap.size w1 V → Below w.heap.size w V) := fun V hV => hB1.trans (hV.mono (by omega))
  have HE : Hid (∀ V, Below w1.heap.size w1 V → ErrType V) := fun V hV => hE.below (HB.out V hV) hEp
  have HRes : Hid (∀ V, Below w1.heap.size w1 V → V.heap[w.heap.size]? = some (.cells [Value.string ⟨#[]⟩, .int .i64 0, .int .i64 0, .slice none 0 0, .int .i64 0, .int .i64 0, .int .i64 0].toArray 53 (0, 0))) := fun V hV => by rw [hV.block _ (by omega)]; exact hg1
  have HAt0 : Hid (∀ V q k g, k ≤ 3 → q.size ≤ 20000 → Below w1.heap.size w1 V → V.heap[g]? = some (.cells #[.int .i64 ((k : Nat) : Int)] 3 (0, 0)) → Calls Tryz.prog 144 #[.string q, .slice (some ⟨g, 0, none⟩) 1 1] V fun e w' => e = .returned (.string (atP q [k])) ∧ Below V.heap.size V w') := fun V q k g hk hq hV hg => by
    refine implAt q [k] g 1 V hq (by show 1 ≤ 4; omega) (fun i hi => ?_) (heap_lt hg) (IsPl.row (t := 3) hg) (HE.out _ hV)
    obtain rfl : i = 0 := by simp at hi; omega
    show k ≤ 100
    omega
  have HAt : Hid (∀ V q k, k ≤ 3 → q.size ≤ 20000 → Below w1.heap.size w1 V → Calls Tryz.prog 144 #[.string q, .slice (some ⟨V.heap.size, 0, none⟩) 1 1] (V.alloc (.cells #[.int .i64 ((k : Nat) : Int)] 3 (0, 0))) fun e w' => e = .returned (.string (atP q [k])) ∧ Below V.heap.size V w') := fun V q k hk hq hV => by
    have hA : Below V.heap.size V (V.alloc (.cells #[.int .i64 ((k : Nat) : Int)] 3 (0, 0))) := (Below.refl _ V).alloc (Nat.le_refl _) _
    refine (HAt0.out _ q k V.heap.size hk hq (hV.trans (hA.mono hV.size)) (heap_alloc_new V _)).mono ?_
    rintro e w' ⟨rfl, hb⟩
    exact ⟨rfl, hA.trans (hb.mono hA.size)⟩
  have HNu : Hid (∀ V q (n : Nat), n ≤ 3 → q.size ≤ 20000 → Below w1.heap.size w1 V → Calls Tryz.prog 148 #[.string q, .int .i64 (n : Int)] V fun e w' => e = .returned (.slice (some ⟨V.heap.size, 0, none⟩) n n) ∧ w'.heap[V.heap.size]? = some (.cells (lCells (numsGo q n 1)).toArray 2 (0, 0)) ∧ Below V.heap.size V w') := fun V q n hn hq hV => implReadNums q n V hq hn (HE.out V hV)
  have HNm : Hid (∀ V q, q.size ≤ 20000 → Below w1.heap.size w1 V → Calls Tryz.prog 157 #[.string q] V fun e w' => e = .returned (.string (atP q [0, 0, 1])) ∧ Below V.heap.size V w') := fun V q hq hV => implReadName q V hq (HE.out V hV)
  have HIn : Hid (∀ V q, q.size ≤ 20000 → Calls Tryz.prog 158 #[.string q] V fun e w' => e = .returned (numT (intR q).1 (intR q).2) ∧ Below V.heap.size V w') := fun V q hq => implIntRead q V (by unfold maxLen; omega)
  have HSe : Hid (∀ V q, q.size ≤ 20000 → Below w1.heap.size w1 V → Calls Tryz.prog 159 #[.string q] V fun e w' => ∃ v, e = .returned v ∧ OwnL w' V.heap.size v (serialsR q) ∧ Below V.heap.size V w') := fun V q hq hV => implReadSerials q V hq (HE.out V hV)
  have HLe : Hid (∀ q k, q.size ≤ 20000 → (atP q [k]).size ≤ 20000) := fun q k h => Nat.le_trans (atP_le [k] q) h
  have HN3 : Hid (∀ q, ∃ x y z, numsGo q 3 1 = [x, y, z]) := fun q => by
    have := numsGo_len q 3 1
    match h : numsGo q 3 1, this with
    | [x, y, z], _ => exact ⟨x, y, z, rfl⟩
  have HR0 : Hid (∃ wh bd nq b0 b1 b2 b3, wh = atP s [0] ∧ bd = atP wh [0] ∧ nq = atP wh [1] ∧ b0 = atP bd [0] ∧ b1 = atP bd [1] ∧ b2 = atP bd [2] ∧ b3 = atP bd [3] ∧ readL s = ⟨atP b0 [0, 0, 1], (intR b1).1, (intR b2).1, serialsR b3, (numsGo nq 3 1).getD 0 0, (numsGo nq 3 1).getD 1 0, (numsGo nq 3 1).getD 2 0⟩) := ⟨_, _, _, _, _, _, _, rfl, rfl, rfl, rfl, rfl, rfl, rfl, by simp only [readL]⟩
  obtain ⟨wh, bd, nq, q0, q1, q2, q3, e1, e2, e3, e4, e5, e6, e7, eR⟩ := HR0.out
  rw [eR]
  have C1 : Hid (wh = atP s [0] ∧ wh.size ≤ 20000) := ⟨e1, by rw [e1]; exact HLe.out _ _ hs⟩
  have C2 : Hid (bd = atP wh [0] ∧ bd.size ≤ 20000) := ⟨e2, by rw [e2]; exact HLe.out _ _ C1.out.2⟩
  have C3 : Hid (nq = atP wh [1] ∧ nq.size ≤ 20000) := ⟨e3, by rw [e3]; exact HLe.out _ _ C1.out.2⟩
  have D0 : Hid (q0 = atP bd [0] ∧ q0.size ≤ 20000) := ⟨e4, by rw [e4]; exact HLe.out _ _ C2.out.2⟩
  have D1 : Hid (q1 = atP bd [1] ∧ q1.size ≤ 20000) := ⟨e5, by rw [e5]; exact HLe.out _ _ C2.out.2⟩
  have D2 : Hid (q2 = atP bd [2] ∧ q2.size ≤ 20000) := ⟨e6, by rw [e6]; exact HLe.out _ _ C2.out.2⟩
  have D3 : Hid (q3 = atP bd [3] ∧ q3.size ≤ 20000) := ⟨e7, by rw [e7]; exact HLe.out _ _ C2.out.2⟩
  obtain ⟨n0, n1, n2, hn⟩ := HN3.out nq
  rw [hn]
  have HN : Hid (lCells (numsGo nq 3 1) = [.int .i64 n0, .int .i64 n1, .int .i64 n2]) := by show _ = _; rw [hn]; rfl
  have H0 : Hid (s.size ≤ 20000) := hs
  have HR1 : Hid (Below w1.heap.size w1 w1) := Below.refl _ _
  have Z1 : Hid (w1.heap.size = w.heap.size + 1) := hz
  obtain ⟨iss, hiss⟩ : ∃ x, x = atP q0 [0, 0, 1] := ⟨_, rfl⟩
  obtain ⟨fr, hfr⟩ : ∃ x, x = (intR q1).1 := ⟨_, rfl⟩
  obtain ⟨frc, hfrc⟩ : ∃ x, x = (intR q1).2 := ⟨_, rfl⟩
  obtain ⟨ti, hti⟩ : ∃ x, x = (intR q2).1 := ⟨_, rfl⟩
  obtain ⟨tic, htic⟩ : ∃ x, x = (intR q2).2 := ⟨_, rfl⟩
  obtain ⟨ser, hser⟩ : ∃ x, x = serialsR q3 := ⟨_, rfl⟩
  rw [← hiss, ← hfr, ← hti, ← hser]
  have X0 : Hid (∀ V, Below w1.heap.size w1 V → Calls Tryz.prog 157 #[.string q0] V fun e w' => e = .returned (.string iss) ∧ Below V.heap.size V w') := fun V hV => by rw [hiss]; exact HNm.out V q0 D0.out.2 hV
  have X1 : Hid (∀ V, Calls Tryz.prog 158 #[.string q1] V fun e w' => e = .returned (numT fr frc) ∧ Below V.heap.size V w') := fun V => by rw [hfr, hfrc]; exact HIn.out V q1 D1.out.2
  have X2 : Hid (∀ V, Calls Tryz.prog 158 #[.string q2] V fun e w' => e = .returned (numT ti tic) ∧ Below V.heap.size V w') := fun V => by rw [hti, htic]; exact HIn.out V q2 D2.out.2
  have X3 : Hid (∀ V, Below w1.heap.size w1 V → Calls Tryz.prog 159 #[.string q3] V fun e w' => ∃ v, e = .returned v ∧ OwnL w' V.heap.size v ser ∧ Below V.heap.size V w') := fun V hV => by rw [hser]; exact HSe.out V q3 D3.out.2 hV
  clear hE hEp HR0 e1 e2 e3 e4 e5 e6 e7 eR hn HN3 hg1 hB1 HLe hs hiss hfr hfrc hti htic hser HNm HIn HSe
  go_enter Tryz.func99, Tryz.ntmps99
  go_wp2_with fail
  rw [← hw1, ← hz]
  refine (HAt.out w1 s 0 (by omega) H0.out HR1.out).mono ?_
  rintro e w2 ⟨rfl, b2⟩
  rw [← C1.out.1]
  have B2 : Hid (Below w1.heap.size w1 w2) := b2
  clear b2 hw1 hz
  go_wp2_with fail
  refine (HAt.out w2 wh 0 (by omega) C1.out.2 B2.out).mono ?_
  rintro e w3 ⟨rfl, b3⟩
  rw [← C2.out.1]
  have B3 : Hid (Below w1.heap.size w1 w3) := B2.out.trans (b3.mono B2.out.size)
  clear b3
  go_wp2_with fail
  refine (HAt.out w3 wh 1 (by omega) C1.out.2 B3.out).mono ?_
  rintro e w6 ⟨rfl, b6⟩
  rw [← C3.out.1]
  have B6 : Hid (Below w1.heap.size w1 w6) := B3.out.trans (b6.mono B3.out.size)
  clear b6
  go_wp2_with fail
  refine (HNu.out w6 nq 3 (by omega) C3.out.2 B6.out).mono ?_
  rintro e w7 ⟨rfl, g7, b7⟩
  have B7 : Hid (Below w1.heap.size w1 w7) := B6.out.trans (b7.mono B6.out.size)
  rw [HN.out] at g7
  have Q7 : Hid _ := g7
  clear g7 b7
  go_upto_region 4 with fail
  have HQ : Hid (∀ V, Below w7.heap.size w7 V → Below w1.heap.size w1 V) := fun V hV => B7.out.trans (hV.mono B7.out.size)
  have HC7 : Hid (∀ V, Below w7.heap.size w7 V → V.cell? ⟨w6.heap.size, 0, none⟩ = some (.int .i64 n0) ∧ V.cell? ⟨w6.heap.size, 1, none⟩ = some (.int .i64 n1) ∧ V.cell? ⟨w6.heap.size, 2, none⟩ = some (.int .i64 n2)) := fun V hV => by
    have hP := (hV.block _ (heap_lt Q7.out)).trans Q7.out
    exact ⟨rowFacts hP 0 _ rfl, rowFacts hP 1 _ rfl, rowFacts hP 2 _ rfl⟩
  obtain ⟨A, hA⟩ : ∃ A : Array Value, A = #[.string s, undef, .pointer (some ⟨w.heap.size, 0, none⟩), .string wh, .string bd, .slice (some ⟨w6.heap.size, 0, none⟩) 3 3, .string s, .slice (some ⟨w1.heap.size, 0, none⟩) 1 1, .string wh, .string wh, .slice (some ⟨w2.heap.size, 0, none⟩) 1 1, .string bd, .string wh, .slice (some ⟨w3.heap.size, 0, none⟩) 1 1, .string nq, .slice (some ⟨w6.heap.size, 0, none⟩) 3 3, undef, undef, undef, undef, undef, undef, undef, undef, undef, undef, undef, undef, undef, undef, undef, undef, undef, undef, undef, undef, undef, undef, undef, undef, undef, undef, undef, undef, undef] := ⟨_, rfl⟩
  obtain ⟨G, hG⟩ : ∃ G : List Kd, G = [.eq (.string bd), .one 3 0, .eq (.string q0), .eq (.string iss), .eq (.string bd), .one 3 1, .eq (.string q1), .eq (numT fr frc), .eq (.int .i64 fr), .eq (.string bd), .one 3 2, .eq (.string q2), .eq (numT ti tic), .eq (.int .i64 ti), .eq (.string bd), .one 3 3, .eq (.string q3), .ints (w.heap.size + 1) (fun v => v) ser, .eq (.slice (some ⟨w6.heap.size, 0, none⟩) 3 3), .eq (.pointer (some ⟨w6.heap.size, 0, none⟩)), .eq (.int .i64 n0), .eq (.slice (some ⟨w6.heap.size, 0, none⟩) 3 3), .eq (.pointer (some ⟨w6.heap.size, 1, none⟩)), .eq (.int .i64 n1), .eq (.slice (some ⟨w6.heap.size, 0, none⟩) 3 3), .eq (.pointer (some ⟨w6.heap.size, 2, none⟩)), .eq (.int .i64 n2), .eq (.agg #[.int .i64 n0, .int .i64 n1, .int .i64 n2]), .ints (w.heap.size + 1) (fun v => .agg #[.string iss, .int .i64 fr, .int .i64 ti, v, .int .i64 n0, .int .i64 n1, .int .i64 n2]) ser] := ⟨_, rfl⟩
  have hAG : 16 + G.length ≤ A.size := by rw [hA, hG]; show 16 + 29 ≤ 45; omega
  rw [← hA]
  refine wp_region_inv (fun listed a V => (listed.getD 29 true = false ∧ Slots A [] 16 G listed a V ∧ Below w7.heap.size w7 V) ∨ ((∀ j, j < 30 → listed.getD j true = true) ∧ a.defers = [] ∧ a.eval (.tmp 2) = .pointer (some ⟨w.heap.size, 0, none⟩) ∧ ∃ v, V.heap[w.heap.size]? = some (.cells [Value.string iss, .int .i64 fr, .int .i64 ti, v, .int .i64 n0, .int .i64 n1, .int .i64 n2].toArray 53 (0, 0)) ∧ OwnL V (w.heap.size + 1) v ser ∧ Below w.heap.size w V)) (by kernel_rfl) (by kernel_rfl) ?hend ?hstep ?h0
  case h0 =>
    refine .inl ⟨rfl, ⟨rfl, rfl, fun _ _ => rfl, fun j k hj hl => ?_⟩, (Below.refl _ _).drew⟩
    exfalso
    have hi : j < 30 := by
      rcases Nat.lt_or_ge j 30 with h | h
      · exact h
      · rw [List.getElem?_eq_none (by rw [hG]; show 29 ≤ j; omega)] at hj; cases hj
    rw [Array.getD_eq_getD_getElem?, Array.getElem?_eq_getElem (by simpa using hi)] at hl
    simp at hl
  case hend =>
    intro listed a V hI hall
    rcases hI with ⟨h29, _⟩ | ⟨_, hdf, e2, v, hrow, ho, hb⟩
    · rw [hall 29 (by decide)] at h29
      cases h29
    obtain ⟨tm, df⟩ := a
    obtain rfl : df = [] := hdf
    have h2 : tm.getD 2 undef = .pointer (some ⟨w.heap.size, 0, none⟩) := e2
    have HROW : Hid _ := hrow
    have HFin : Hid (OwnL V w.heap.size v ser ∧ Below w.heap.size w V) := ⟨ho.mono (by omega), hb⟩
    obtain ⟨va, vc, hv, _⟩ := OwnL.form ho
    have HV : Hid (v = .slice va ser.length vc) := hv
    clear hrow ho hb hv hall
    go_wp2
    have HROW2 := HROW.out
    have HO2 := HFin.out
    obtain rfl := HV.out
    refine bodyPost_ret (v := .agg [Value.string iss, .int .i64 fr, .int .i64 ti, .slice va ser.length vc, .int .i64 n0, .int .i64 n1, .int .i64 n2].toArray) ?_ rfl ⟨.slice va ser.length vc, rfl, HO2.1, HO2.2⟩
    have hl3 := run_loadVar_mid (P := Tryz.prog) _ (w.heap.size) 0 53 _ _ (rangeRow HROW2) Tryz.underlying53 rfl sizeCrlV
    rw [Array.getD_eq_getD_getElem?] at h2
    simp [results, Tryz.results99, asAddr, h2, hl3]
  case hstep =>
    intro listed a V i o hI ho hsz hun hdep
    rcases hI with ⟨h29, hS, hB⟩ | ⟨hall, _⟩
    rotate_left
    · exfalso
      have hi : i < 30 := by
        rcases Nat.lt_or_ge i 30 with h | h
        · exact h
        · rw [Array.getElem?_eq_none (by simpa using h)] at ho; cases ho
      rw [hall i hi] at hun
      cases hun
    have hi : i < 30 := by
      rcases Nat.lt_or_ge i 30 with h | h
      · exact h
      · rw [Array.getElem?_eq_none (by simpa using h)] at ho; cases ho
    have hV := HQ.out V hB
    rcases (by omega : i = 0 ∨ i = 1 ∨ i = 2 ∨ i = 3 ∨ i = 4 ∨ i = 5 ∨ i = 6 ∨ i = 7 ∨ i = 8 ∨ i = 9 ∨ i = 10 ∨ i = 11 ∨ i = 12 ∨ i = 13 ∨ i = 14 ∨ i = 15 ∨ i = 16 ∨ i = 17 ∨ i = 18 ∨ i = 19 ∨ i = 20 ∨ i = 21 ∨ i = 22 ∨ i = 23 ∨ i = 24 ∨ i = 25 ∨ i = 26 ∨ i = 27 ∨ i = 28 ∨ i = 29) with rfl | rfl | rfl | rfl | rfl | rfl | rfl | rfl | rfl | rfl | rfl | rfl | rfl | rfl | rfl | rfl | rfl | rfl | rfl | rfl | rfl | rfl | rfl | rfl | rfl | rfl | rfl | rfl | rfl | rfl
    · have ho0 := ho
      simp only [List.getElem?_toArray, List.getElem?_cons_zero, List.getElem?_cons_succ, Option.some.injEq] at ho
      subst ho
      have r4 := hS.pre'   (k := 4) (v := .string bd) (by rw [hA]; rfl) (by omega)
      exact st_val (v := .string bd) (V' := V) ho0 rfl (by simp [execOp, r4, go_sem, Instr.loadAt, Instr.indexAt, Instr.field, Instr.build, numT]) (.inl ⟨by rw [getD_set_ne true (by omega)]; exact h29, hS.put (i := 0) (k := .eq (.string bd)) (by rw [hG]; rfl) hAG rfl (Below.refl _ _), hB⟩)
    · have ho0 := ho
      simp only [List.getElem?_toArray, List.getElem?_cons_zero, List.getElem?_cons_succ, Option.some.injEq] at ho
      subst ho
      have hb : Below V.heap.size V (V.alloc (.cells #[.int .i64 0] 3 (0, 0))) := (Below.refl _ V).alloc (Nat.le_refl _) _
      exact st_val (v := .slice (some ⟨V.heap.size, 0, none⟩) 1 1) (V' := V.alloc (.cells #[.int .i64 0] 3 (0, 0))) ho0 rfl (by kernel_rfl) (.inl ⟨by rw [getD_set_ne true (by omega)]; exact h29, hS.put (i := 1) (k := .one 3 0) (by rw [hG]; rfl) hAG ⟨_, rfl, heap_alloc_new V _⟩ hb, hB.trans (hb.mono hB.size)⟩)
    · have ho0 := ho
      simp only [List.getElem?_toArray, List.getElem?_cons_zero, List.getElem?_cons_succ, Option.some.injEq] at ho
      subst ho
      obtain ⟨t0, et0, rt0, ht0⟩ := hS.get (j := 0) (by rw [hG]; rfl) (getD_tf (hdep ⟨0, .data⟩ (by simp) rfl))
      subst ht0
      obtain ⟨t1, et1, rt1, ht1⟩ := hS.get (j := 1) (by rw [hG]; rfl) (getD_tf (hdep ⟨1, .data⟩ (by simp) rfl))
      obtain ⟨g, rfl, hg⟩ := ht1
      refine st_call (f := 144) (args := #[.string bd, .slice (some ⟨g, 0, none⟩) 1 1]) ho0 rfl (by simp only [execOp, resolve, invoke, Sem.run_bind, Sem.run_pure, Result.andThen_ok, List.map_toArray, List.map_cons, List.map_nil, et0, et1, Deferred.ofValue, Array.append_empty]; rfl) ((HAt0.out V bd 0 g (by omega) C2.out.2 hV hg).mono ?_)
      rintro e V2 ⟨rfl, hb⟩
      rw [← D0.out.1]
      exact ⟨_, rfl, .inl ⟨by rw [getD_set_ne true (by omega)]; exact h29, hS.put (i := 2) (k := .eq (.string q0)) (by rw [hG]; rfl) hAG rfl hb, hB.trans (hb.mono hB.size)⟩⟩
    · have ho0 := ho
      simp only [List.getElem?_toArray, List.getElem?_cons_zero, List.getElem?_cons_succ, Option.some.injEq] at ho
      subst ho
      obtain ⟨t2, et2, rt2, ht2⟩ := hS.get (j := 2) (by rw [hG]; rfl) (getD_tf (hdep ⟨2, .data⟩ (by simp) rfl))
      subst ht2
      refine st_call (f := 157) (args := #[.string q0]) ho0 rfl (by simp only [execOp, resolve, invoke, Sem.run_bind, Sem.run_pure, Result.andThen_ok, List.map_toArray, List.map_cons, List.map_nil, et2, Deferred.ofValue, Array.append_empty]; rfl) ((X0.out V hV).mono ?_)
      rintro e V2 ⟨rfl, hb⟩
      exact ⟨_, rfl, .inl ⟨by rw [getD_set_ne true (by omega)]; exact h29, hS.put (i := 3) (k := .eq (.string iss)) (by rw [hG]; rfl) hAG rfl hb, hB.trans (hb.mono hB.size)⟩⟩
    · have ho0 := ho
      simp only [List.getElem?_toArray, List.getElem?_cons_zero, List.getElem?_cons_succ, Option.some.injEq] at ho
      subst ho
      have r4 := hS.pre'   (k := 4) (v := .string bd) (by rw [hA]; rfl) (by omega)
      exact st_val (v := .string bd) (V' := V) ho0 rfl (by simp [execOp, r4, go_sem, Instr.loadAt, Instr.indexAt, Instr.field, Instr.build, numT]) (.inl ⟨by rw [getD_set_ne true (by omega)]; exact h29, hS.put (i := 4) (k := .eq (.string bd)) (by rw [hG]; rfl) hAG rfl (Below.refl _ _), hB⟩)
    · have ho0 := ho
      simp only [List.getElem?_toArray, List.getElem?_cons_zero, List.getElem?_cons_succ, Option.some.injEq] at ho
      subst ho
      have hb : Below V.heap.size V (V.alloc (.cells #[.int .i64 1] 3 (0, 0))) := (Below.refl _ V).alloc (Nat.le_refl _) _
      exact st_val (v := .slice (some ⟨V.heap.size, 0, none⟩) 1 1) (V' := V.alloc (.cells #[.int .i64 1] 3 (0, 0))) ho0 rfl (by kernel_rfl) (.inl ⟨by rw [getD_set_ne true (by omega)]; exact h29, hS.put (i := 5) (k := .one 3 1) (by rw [hG]; rfl) hAG ⟨_, rfl, heap_alloc_new V _⟩ hb, hB.trans (hb.mono hB.size)⟩)
    · have ho0 := ho
      simp only [List.getElem?_toArray, List.getElem?_cons_zero, List.getElem?_cons_succ, Option.some.injEq] at ho
      subst ho
      obtain ⟨t4, et4, rt4, ht4⟩ := hS.get (j := 4) (by rw [hG]; rfl) (getD_tf (hdep ⟨4, .data⟩ (by simp) rfl))
      subst ht4
      obtain ⟨t5, et5, rt5, ht5⟩ := hS.get (j := 5) (by rw [hG]; rfl) (getD_tf (hdep ⟨5, .data⟩ (by simp) rfl))
      obtain ⟨g, rfl, hg⟩ := ht5
      refine st_call (f := 144) (args := #[.string bd, .slice (some ⟨g, 0, none⟩) 1 1]) ho0 rfl (by simp only [execOp, resolve, invoke, Sem.run_bind, Sem.run_pure, Result.andThen_ok, List.map_toArray, List.map_cons, List.map_nil, et4, et5, Deferred.ofValue, Array.append_empty]; rfl) ((HAt0.out V bd 1 g (by omega) C2.out.2 hV hg).mono ?_)
      rintro e V2 ⟨rfl, hb⟩
      rw [← D1.out.1]
      exact ⟨_, rfl, .inl ⟨by rw [getD_set_ne true (by omega)]; exact h29, hS.put (i := 6) (k := .eq (.string q1)) (by rw [hG]; rfl) hAG rfl hb, hB.trans (hb.mono hB.size)⟩⟩
    · have ho0 := ho
      simp only [List.getElem?_toArray, List.getElem?_cons_zero, List.getElem?_cons_succ, Option.some.injEq] at ho
      subst ho
      obtain ⟨t6, et6, rt6, ht6⟩ := hS.get (j := 6) (by rw [hG]; rfl) (getD_tf (hdep ⟨6, .data⟩ (by simp) rfl))
      subst ht6
      refine st_call (f := 158) (args := #[.string q1]) ho0 rfl (by simp only [execOp, resolve, invoke, Sem.run_bind, Sem.run_pure, Result.andThen_ok, List.map_toArray, List.map_cons, List.map_nil, et6, Deferred.ofValue, Array.append_empty]; rfl) ((X1.out V).mono ?_)
      rintro e V2 ⟨rfl, hb⟩
      exact ⟨_, rfl, .inl ⟨by rw [getD_set_ne true (by omega)]; exact h29, hS.put (i := 7) (k := .eq (numT fr frc)) (by rw [hG]; rfl) hAG rfl hb, hB.trans (hb.mono hB.size)⟩⟩
    · have ho0 := ho
      simp only [List.getElem?_toArray, List.getElem?_cons_zero, List.getElem?_cons_succ, Option.some.injEq] at ho
      subst ho
      obtain ⟨t7, et7, rt7, ht7⟩ := hS.get (j := 7) (by rw [hG]; rfl) (getD_tf (hdep ⟨7, .data⟩ (by simp) rfl))
      subst ht7
      exact st_val (v := .int .i64 fr) (V' := V) ho0 rfl (by simp only [execOp, et7, numT, Sem.run_bind, numF, Result.andThen_ok, Sem.run_pure]) (.inl ⟨by rw [getD_set_ne true (by omega)]; exact h29, hS.put (i := 8) (k := .eq (.int .i64 fr)) (by rw [hG]; rfl) hAG rfl (Below.refl _ _), hB⟩)
    · have ho0 := ho
      simp only [List.getElem?_toArray, List.getElem?_cons_zero, List.getElem?_cons_succ, Option.some.injEq] at ho
      subst ho
      have r4 := hS.pre'   (k := 4) (v := .string bd) (by rw [hA]; rfl) (by omega)
      exact st_val (v := .string bd) (V' := V) ho0 rfl (by simp [execOp, r4, go_sem, Instr.loadAt, Instr.indexAt, Instr.field, Instr.build, numT]) (.inl ⟨by rw [getD_set_ne true (by omega)]; exact h29, hS.put (i := 9) (k := .eq (.string bd)) (by rw [hG]; rfl) hAG rfl (Below.refl _ _), hB⟩)
    · have ho0 := ho
      simp only [List.getElem?_toArray, List.getElem?_cons_zero, List.getElem?_cons_succ, Option.some.injEq] at ho
      subst ho
      have hb : Below V.heap.size V (V.alloc (.cells #[.int .i64 2] 3 (0, 0))) := (Below.refl _ V).alloc (Nat.le_refl _) _
      exact st_val (v := .slice (some ⟨V.heap.size, 0, none⟩) 1 1) (V' := V.alloc (.cells #[.int .i64 2] 3 (0, 0))) ho0 rfl (by kernel_rfl) (.inl ⟨by rw [getD_set_ne true (by omega)]; exact h29, hS.put (i := 10) (k := .one 3 2) (by rw [hG]; rfl) hAG ⟨_, rfl, heap_alloc_new V _⟩ hb, hB.trans (hb.mono hB.size)⟩)
    · have ho0 := ho
      simp only [List.getElem?_toArray, List.getElem?_cons_zero, List.getElem?_cons_succ, Option.some.injEq] at ho
      subst ho
      obtain ⟨t9, et9, rt9, ht9⟩ := hS.get (j := 9) (by rw [hG]; rfl) (getD_tf (hdep ⟨9, .data⟩ (by simp) rfl))
      subst ht9
      obtain ⟨t10, et10, rt10, ht10⟩ := hS.get (j := 10) (by rw [hG]; rfl) (getD_tf (hdep ⟨10, .data⟩ (by simp) rfl))
      obtain ⟨g, rfl, hg⟩ := ht10
      refine st_call (f := 144) (args := #[.string bd, .slice (some ⟨g, 0, none⟩) 1 1]) ho0 rfl (by simp only [execOp, resolve, invoke, Sem.run_bind, Sem.run_pure, Result.andThen_ok, List.map_toArray, List.map_cons, List.map_nil, et9, et10, Deferred.ofValue, Array.append_empty]; rfl) ((HAt0.out V bd 2 g (by omega) C2.out.2 hV hg).mono ?_)
      rintro e V2 ⟨rfl, hb⟩
      rw [← D2.out.1]
      exact ⟨_, rfl, .inl ⟨by rw [getD_set_ne true (by omega)]; exact h29, hS.put (i := 11) (k := .eq (.string q2)) (by rw [hG]; rfl) hAG rfl hb, hB.trans (hb.mono hB.size)⟩⟩
    · have ho0 := ho
      simp only [List.getElem?_toArray, List.getElem?_cons_zero, List.getElem?_cons_succ, Option.some.injEq] at ho
      subst ho
      obtain ⟨t11, et11, rt11, ht11⟩ := hS.get (j := 11) (by rw [hG]; rfl) (getD_tf (hdep ⟨11, .data⟩ (by simp) rfl))
      subst ht11
      refine st_call (f := 158) (args := #[.string q2]) ho0 rfl (by simp only [execOp, resolve, invoke, Sem.run_bind, Sem.run_pure, Result.andThen_ok, List.map_toArray, List.map_cons, List.map_nil, et11, Deferred.ofValue, Array.append_empty]; rfl) ((X2.out V).mono ?_)
      rintro e V2 ⟨rfl, hb⟩
      exact ⟨_, rfl, .inl ⟨by rw [getD_set_ne true (by omega)]; exact h29, hS.put (i := 12) (k := .eq (numT ti tic)) (by rw [hG]; rfl) hAG rfl hb, hB.trans (hb.mono hB.size)⟩⟩
    · have ho0 := ho
      simp only [List.getElem?_toArray, List.getElem?_cons_zero, List.getElem?_cons_succ, Option.some.injEq] at ho
      subst ho
      obtain ⟨t12, et12, rt12, ht12⟩ := hS.get (j := 12) (by rw [hG]; rfl) (getD_tf (hdep ⟨12, .data⟩ (by simp) rfl))
      subst ht12
      exact st_val (v := .int .i64 ti) (V' := V) ho0 rfl (by simp only [execOp, et12, numT, Sem.run_bind, numF, Result.andThen_ok, Sem.run_pure]) (.inl ⟨by rw [getD_set_ne true (by omega)]; exact h29, hS.put (i := 13) (k := .eq (.int .i64 ti)) (by rw [hG]; rfl) hAG rfl (Below.refl _ _), hB⟩)
    · have ho0 := ho
      simp only [List.getElem?_toArray, List.getElem?_cons_zero, List.getElem?_cons_succ, Option.some.injEq] at ho
      subst ho
      have r4 := hS.pre'   (k := 4) (v := .string bd) (by rw [hA]; rfl) (by omega)
      exact st_val (v := .string bd) (V' := V) ho0 rfl (by simp [execOp, r4, go_sem, Instr.loadAt, Instr.indexAt, Instr.field, Instr.build, numT]) (.inl ⟨by rw [getD_set_ne true (by omega)]; exact h29, hS.put (i := 14) (k := .eq (.string bd)) (by rw [hG]; rfl) hAG rfl (Below.refl _ _), hB⟩)
    · have ho0 := ho
      simp only [List.getElem?_toArray, List.getElem?_cons_zero, List.getElem?_cons_succ, Option.some.injEq] at ho
      subst ho
      have hb : Below V.heap.size V (V.alloc (.cells #[.int .i64 3] 3 (0, 0))) := (Below.refl _ V).alloc (Nat.le_refl _) _
      exact st_val (v := .slice (some ⟨V.heap.size, 0, none⟩) 1 1) (V' := V.alloc (.cells #[.int .i64 3] 3 (0, 0))) ho0 rfl (by kernel_rfl) (.inl ⟨by rw [getD_set_ne true (by omega)]; exact h29, hS.put (i := 15) (k := .one 3 3) (by rw [hG]; rfl) hAG ⟨_, rfl, heap_alloc_new V _⟩ hb, hB.trans (hb.mono hB.size)⟩)
    · have ho0 := ho
      simp only [List.getElem?_toArray, List.getElem?_cons_zero, List.getElem?_cons_succ, Option.some.injEq] at ho
      subst ho
      obtain ⟨t14, et14, rt14, ht14⟩ := hS.get (j := 14) (by rw [hG]; rfl) (getD_tf (hdep ⟨14, .data⟩ (by simp) rfl))
      subst ht14
      obtain ⟨t15, et15, rt15, ht15⟩ := hS.get (j := 15) (by rw [hG]; rfl) (getD_tf (hdep ⟨15, .data⟩ (by simp) rfl))
      obtain ⟨g, rfl, hg⟩ := ht15
      refine st_call (f := 144) (args := #[.string bd, .slice (some ⟨g, 0, none⟩) 1 1]) ho0 rfl (by simp only [execOp, resolve, invoke, Sem.run_bind, Sem.run_pure, Result.andThen_ok, List.map_toArray, List.map_cons, List.map_nil, et14, et15, Deferred.ofValue, Array.append_empty]; rfl) ((HAt0.out V bd 3 g (by omega) C2.out.2 hV hg).mono ?_)
      rintro e V2 ⟨rfl, hb⟩
      rw [← D3.out.1]
      exact ⟨_, rfl, .inl ⟨by rw [getD_set_ne true (by omega)]; exact h29, hS.put (i := 16) (k := .eq (.string q3)) (by rw [hG]; rfl) hAG rfl hb, hB.trans (hb.mono hB.size)⟩⟩
    · have ho0 := ho
      simp only [List.getElem?_toArray, List.getElem?_cons_zero, List.getElem?_cons_succ, Option.some.injEq] at ho
      subst ho
      obtain ⟨t16, et16, rt16, ht16⟩ := hS.get (j := 16) (by rw [hG]; rfl) (getD_tf (hdep ⟨16, .data⟩ (by simp) rfl))
      subst ht16
      refine st_call (f := 159) (args := #[.string q3]) ho0 rfl (by simp only [execOp, resolve, invoke, Sem.run_bind, Sem.run_pure, Result.andThen_ok, List.map_toArray, List.map_cons, List.map_nil, et16, Deferred.ofValue, Array.append_empty]; rfl) ((X3.out V hV).mono ?_)
      rintro e V2 ⟨v, rfl, ho, hb⟩
      have ho2 : OwnL V2 (w.heap.size + 1) v ser := ho.mono (by have := hV.size; have := Z1.out; omega)
      exact ⟨_, rfl, .inl ⟨by rw [getD_set_ne true (by omega)]; exact h29, hS.put (i := 17) (k := .ints (w.heap.size + 1) (fun v => v) ser) (by rw [hG]; rfl) hAG ⟨v, rfl, ho2⟩ hb, hB.trans (hb.mono hB.size)⟩⟩
    · have ho0 := ho
      simp only [List.getElem?_toArray, List.getElem?_cons_zero, List.getElem?_cons_succ, Option.some.injEq] at ho
      subst ho
      have r5 := hS.pre'   (k := 5) (v := .slice (some ⟨w6.heap.size, 0, none⟩) 3 3) (by rw [hA]; rfl) (by omega)
      exact st_val (v := .slice (some ⟨w6.heap.size, 0, none⟩) 3 3) (V' := V) ho0 rfl (by simp [execOp, r5, go_sem, Instr.loadAt, Instr.indexAt, Instr.field, Instr.build, numT]) (.inl ⟨by rw [getD_set_ne true (by omega)]; exact h29, hS.put (i := 18) (k := .eq (.slice (some ⟨w6.heap.size, 0, none⟩) 3 3)) (by rw [hG]; rfl) hAG rfl (Below.refl _ _), hB⟩)
    · have ho0 := ho
      simp only [List.getElem?_toArray, List.getElem?_cons_zero, List.getElem?_cons_succ, Option.some.injEq] at ho
      subst ho
      obtain ⟨t18, et18, rt18, ht18⟩ := hS.get (j := 18) (by rw [hG]; rfl) (getD_tf (hdep ⟨18, .data⟩ (by simp) rfl))
      subst ht18
      exact st_val (v := .pointer (some ⟨w6.heap.size, 0, none⟩)) (V' := V) ho0 rfl (by simp [execOp, rt18, go_sem, Instr.loadAt, Instr.indexAt, Instr.field, Instr.build, numT]) (.inl ⟨by rw [getD_set_ne true (by omega)]; exact h29, hS.put (i := 19) (k := .eq (.pointer (some ⟨w6.heap.size, 0, none⟩))) (by rw [hG]; rfl) hAG rfl (Below.refl _ _), hB⟩)
    · have ho0 := ho
      simp only [List.getElem?_toArray, List.getElem?_cons_zero, List.getElem?_cons_succ, Option.some.injEq] at ho
      subst ho
      obtain ⟨t19, et19, rt19, ht19⟩ := hS.get (j := 19) (by rw [hG]; rfl) (getD_tf (hdep ⟨19, .data⟩ (by simp) rfl))
      subst ht19
      obtain ⟨c0, c1, c2⟩ := HC7.out V hB
      exact st_val (v := .int .i64 n0) (V' := V) ho0 rfl (by simp [execOp, rt19, c0, c1, c2, go_sem, Instr.loadAt, Instr.indexAt, Instr.field, Instr.build, numT]) (.inl ⟨by rw [getD_set_ne true (by omega)]; exact h29, hS.put (i := 20) (k := .eq (.int .i64 n0)) (by rw [hG]; rfl) hAG rfl (Below.refl _ _), hB⟩)
    · have ho0 := ho
      simp only [List.getElem?_toArray, List.getElem?_cons_zero, List.getElem?_cons_succ, Option.some.injEq] at ho
      subst ho
      have r5 := hS.pre'   (k := 5) (v := .slice (some ⟨w6.heap.size, 0, none⟩) 3 3) (by rw [hA]; rfl) (by omega)
      exact st_val (v := .slice (some ⟨w6.heap.size, 0, none⟩) 3 3) (V' := V) ho0 rfl (by simp [execOp, r5, go_sem, Instr.loadAt, Instr.indexAt, Instr.field, Instr.build, numT]) (.inl ⟨by rw [getD_set_ne true (by omega)]; exact h29, hS.put (i := 21) (k := .eq (.slice (some ⟨w6.heap.size, 0, none⟩) 3 3)) (by rw [hG]; rfl) hAG rfl (Below.refl _ _), hB⟩)
    · have ho0 := ho
      simp only [List.getElem?_toArray, List.getElem?_cons_zero, List.getElem?_cons_succ, Option.some.injEq] at ho
      subst ho
      obtain ⟨t21, et21, rt21, ht21⟩ := hS.get (j := 21) (by rw [hG]; rfl) (getD_tf (hdep ⟨21, .data⟩ (by simp) rfl))
      subst ht21
      exact st_val (v := .pointer (some ⟨w6.heap.size, 1, none⟩)) (V' := V) ho0 rfl (by simp [execOp, rt21, go_sem, Instr.loadAt, Instr.indexAt, Instr.field, Instr.build, numT]) (.inl ⟨by rw [getD_set_ne true (by omega)]; exact h29, hS.put (i := 22) (k := .eq (.pointer (some ⟨w6.heap.size, 1, none⟩))) (by rw [hG]; rfl) hAG rfl (Below.refl _ _), hB⟩)
    · have ho0 := ho
      simp only [List.getElem?_toArray, List.getElem?_cons_zero, List.getElem?_cons_succ, Option.some.injEq] at ho
      subst ho
      obtain ⟨t22, et22, rt22, ht22⟩ := hS.get (j := 22) (by rw [hG]; rfl) (getD_tf (hdep ⟨22, .data⟩ (by simp) rfl))
      subst ht22
      obtain ⟨c0, c1, c2⟩ := HC7.out V hB
      exact st_val (v := .int .i64 n1) (V' := V) ho0 rfl (by simp [execOp, rt22, c0, c1, c2, go_sem, Instr.loadAt, Instr.indexAt, Instr.field, Instr.build, numT]) (.inl ⟨by rw [getD_set_ne true (by omega)]; exact h29, hS.put (i := 23) (k := .eq (.int .i64 n1)) (by rw [hG]; rfl) hAG rfl (Below.refl _ _), hB⟩)
    · have ho0 := ho
      simp only [List.getElem?_toArray, List.getElem?_cons_zero, List.getElem?_cons_succ, Option.some.injEq] at ho
      subst ho
      have r5 := hS.pre'   (k := 5) (v := .slice (some ⟨w6.heap.size, 0, none⟩) 3 3) (by rw [hA]; rfl) (by omega)
      exact st_val (v := .slice (some ⟨w6.heap.size, 0, none⟩) 3 3) (V' := V) ho0 rfl (by simp [execOp, r5, go_sem, Instr.loadAt, Instr.indexAt, Instr.field, Instr.build, numT]) (.inl ⟨by rw [getD_set_ne true (by omega)]; exact h29, hS.put (i := 24) (k := .eq (.slice (some ⟨w6.heap.size, 0, none⟩) 3 3)) (by rw [hG]; rfl) hAG rfl (Below.refl _ _), hB⟩)
    · have ho0 := ho
      simp only [List.getElem?_toArray, List.getElem?_cons_zero, List.getElem?_cons_succ, Option.some.injEq] at ho
      subst ho
      obtain ⟨t24, et24, rt24, ht24⟩ := hS.get (j := 24) (by rw [hG]; rfl) (getD_tf (hdep ⟨24, .data⟩ (by simp) rfl))
      subst ht24
      exact st_val (v := .pointer (some ⟨w6.heap.size, 2, none⟩)) (V' := V) ho0 rfl (by simp [execOp, rt24, go_sem, Instr.loadAt, Instr.indexAt, Instr.field, Instr.build, numT]) (.inl ⟨by rw [getD_set_ne true (by omega)]; exact h29, hS.put (i := 25) (k := .eq (.pointer (some ⟨w6.heap.size, 2, none⟩))) (by rw [hG]; rfl) hAG rfl (Below.refl _ _), hB⟩)
    · have ho0 := ho
      simp only [List.getElem?_toArray, List.getElem?_cons_zero, List.getElem?_cons_succ, Option.some.injEq] at ho
      subst ho
      obtain ⟨t25, et25, rt25, ht25⟩ := hS.get (j := 25) (by rw [hG]; rfl) (getD_tf (hdep ⟨25, .data⟩ (by simp) rfl))
      subst ht25
      obtain ⟨c0, c1, c2⟩ := HC7.out V hB
      exact st_val (v := .int .i64 n2) (V' := V) ho0 rfl (by simp [execOp, rt25, c0, c1, c2, go_sem, Instr.loadAt, Instr.indexAt, Instr.field, Instr.build, numT]) (.inl ⟨by rw [getD_set_ne true (by omega)]; exact h29, hS.put (i := 26) (k := .eq (.int .i64 n2)) (by rw [hG]; rfl) hAG rfl (Below.refl _ _), hB⟩)
    · have ho0 := ho
      simp only [List.getElem?_toArray, List.getElem?_cons_zero, List.getElem?_cons_succ, Option.some.injEq] at ho
      subst ho
      obtain ⟨t20, et20, rt20, ht20⟩ := hS.get (j := 20) (by rw [hG]; rfl) (getD_tf (hdep ⟨20, .data⟩ (by simp) rfl))
      subst ht20
      obtain ⟨t23, et23, rt23, ht23⟩ := hS.get (j := 23) (by rw [hG]; rfl) (getD_tf (hdep ⟨23, .data⟩ (by simp) rfl))
      subst ht23
      obtain ⟨t26, et26, rt26, ht26⟩ := hS.get (j := 26) (by rw [hG]; rfl) (getD_tf (hdep ⟨26, .data⟩ (by simp) rfl))
      subst ht26
      exact st_val (v := .agg #[.int .i64 n0, .int .i64 n1, .int .i64 n2]) (V' := V) ho0 rfl (by simp [execOp, rt20, rt23, rt26, go_sem, Instr.loadAt, Instr.indexAt, Instr.field, Instr.build, numT]) (.inl ⟨by rw [getD_set_ne true (by omega)]; exact h29, hS.put (i := 27) (k := .eq (.agg #[.int .i64 n0, .int .i64 n1, .int .i64 n2])) (by rw [hG]; rfl) hAG rfl (Below.refl _ _), hB⟩)
    · have ho0 := ho
      simp only [List.getElem?_toArray, List.getElem?_cons_zero, List.getElem?_cons_succ, Option.some.injEq] at ho
      subst ho
      obtain ⟨t3, et3, rt3, ht3⟩ := hS.get (j := 3) (by rw [hG]; rfl) (getD_tf (hdep ⟨3, .data⟩ (by simp) rfl))
      subst ht3
      obtain ⟨t8, et8, rt8, ht8⟩ := hS.get (j := 8) (by rw [hG]; rfl) (getD_tf (hdep ⟨8, .data⟩ (by simp) rfl))
      subst ht8
      obtain ⟨t13, et13, rt13, ht13⟩ := hS.get (j := 13) (by rw [hG]; rfl) (getD_tf (hdep ⟨13, .data⟩ (by simp) rfl))
      subst ht13
      obtain ⟨t27, et27, rt27, ht27⟩ := hS.get (j := 27) (by rw [hG]; rfl) (getD_tf (hdep ⟨27, .data⟩ (by simp) rfl))
      subst ht27
      obtain ⟨t17, et17, rt17, ht17⟩ := hS.get (j := 17) (by rw [hG]; rfl) (getD_tf (hdep ⟨17, .data⟩ (by simp) rfl))
      obtain ⟨v, rfl, ho⟩ := ht17
      obtain ⟨va, vc, hv, _⟩ := OwnL.form ho
      subst hv
      exact st_val (v := .agg #[.string iss, .int .i64 fr, .int .i64 ti, .slice va ser.length vc, .int .i64 n0, .int .i64 n1, .int .i64 n2]) (V' := V) ho0 rfl (by simp [execOp, rt3, rt8, rt13, rt27, rt17, go_sem, Instr.build]) (.inl ⟨by rw [getD_set_ne true (by omega)]; exact h29, hS.put (i := 28) (k := .ints (w.heap.size + 1) (fun v => .agg #[.string iss, .int .i64 fr, .int .i64 ti, v, .int .i64 n0, .int .i64 n1, .int .i64 n2]) ser) (by rw [hG]; rfl) hAG ⟨_, rfl, ho⟩ (Below.refl _ _), hB⟩)
    · have ho0 := ho
      simp only [List.getElem?_toArray, List.getElem?_cons_zero, List.getElem?_cons_succ, Option.some.injEq] at ho
      subst ho
      obtain ⟨t28, et28, rt28, ht28⟩ := hS.get (j := 28) (by rw [hG]; rfl) (getD_tf (hdep ⟨28, .data⟩ (by simp) rfl))
      obtain ⟨v, rfl, ho⟩ := ht28
      obtain ⟨va, vc, hv, _⟩ := OwnL.form ho
      subst hv
      have e2 := hS.pre (k := 2) (v := .pointer (some ⟨w.heap.size, 0, none⟩)) (by rw [hA]; rfl) (by omega)
      refine wpOp_step ho0 fun K' hK => ?_
      rw [if_pos (by rfl)]
      refine wp_store_row 53 _ _ rfl (w.heap.size) [Value.string ⟨#[]⟩, .int .i64 0, .int .i64 0, .slice none 0 0, .int .i64 0, .int .i64 0, .int .i64 0] [Value.string iss, .int .i64 fr, .int .i64 ti, .slice va ser.length vc, .int .i64 n0, .int .i64 n1, .int .i64 n2] 53 e2 et28 (HRes.out _ hV) rfl sizeCrlV (by simp [Value.oneCell']) ?_
      intro w8 hrow ho8 hs8 hbb
      refine hK _ _ (.inr ⟨fun j hj => ?_, hS.defers, e2, _, hrow, ho.same fun b h1 h2 => ho8 b (by omega), hbb _ _ (Nat.le_refl _) (HB.out _ hV)⟩)
      by_cases e : j = 29
      · subst e
        rw [Array.getD_eq_getD_getElem?, Array.getElem?_setIfInBounds_self_of_lt (by rw [hsz]; decide)]
        rfl
      · rw [getD_set_ne true (Ne.symm e)]
        have hj29 : j < 29 := by omega
        refine getD_tf (hdep ⟨j, .phase⟩ ?_ rfl)
        rcases (by omega : j = 0 ∨ j = 1 ∨ j = 2 ∨ j = 3 ∨ j = 4 ∨ j = 5 ∨ j = 6 ∨ j = 7 ∨ j = 8 ∨ j = 9 ∨ j = 10 ∨ j = 11 ∨ j = 12 ∨ j = 13 ∨ j = 14 ∨ j = 15 ∨ j = 16 ∨ j = 17 ∨ j = 18 ∨ j = 19 ∨ j = 20 ∨ j = 21 ∨ j = 22 ∨ j = 23 ∨ j = 24 ∨ j = 25 ∨ j = 26 ∨ j = 27 ∨ j = 28) with rfl | rfl | rfl | rfl | rfl | rfl | rfl | rfl | rfl | rfl | rfl | rfl | rfl | rfl | rfl | rfl | rfl | rfl | rfl | rfl | rfl | rfl | rfl | rfl | rfl | rfl | rfl | rfl | rfl <;> simp
end Go.Proofs.YtkhdjmjbdpmdnaaGreatDoor
