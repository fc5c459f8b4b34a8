/- errors.Is at errors of errors.New's make, by its contracts: nil: false; the same: true; another: false. After the guide's worked example. impl.CsrRead, walked. What the program reads of what is asked for, as it was laid. Plain mathematics, but for where readA is told. spec.l07Right, walked. -/
import Derived.Test.YtkhdjmjbdpmdnaaGreatDoorCR27
import Derived.WalkKit
import Derived.LaidEql
import Derived.Stop.Asserts
import Derived.RowKitTokens
import Derived.Test.YtkhdjmjbdpmdnaaGreatDoorCR26
import Derived.Test.YtkhdjmjbdpmdnaaGreatDoorCR28
import Derived.Test.YtkhdjmjbdpmdnaaGreatDoorCR21
import Derived.Test.YtkhdjmjbdpmdnaaGreatDoorCR12
import Derived.Test.YtkhdjmjbdpmdnaaGreatDoorCR19
import Derived.Test.YtkhdjmjbdpmdnaaGreatDoorCR13
namespace Go.Proofs.YtkhdjmjbdpmdnaaGreatDoor
open Go.RowKit Go.Extern.Stop Go.Stop Go.Extern

/-- An error of errors.New's make, at a. -/
def errAt (a : Addr) : Value := .iface 260 (.pointer (some a))
theorem tyOfE (v : Value) (w : World) : (Extern.ReflectliteType.typeOf #[.iface 260 v]).run Tryz.prog w = .ok (.iface 191 (.agg #[.pointer (some ⟨7, 260, none⟩)])) w := by kernel_rfl
/-- What stands in for the method Comparable. -/
noncomputable def cmpF : Array Value → Sem Value := (find Tryz.f263).getD fun _ => pure .nilIface
theorem cmpE (w : World) : (cmpF #[.agg #[.pointer (some ⟨7, 260, none⟩)]]).run Tryz.prog w = .ok (.bool true) w := by kernel_rfl
theorem methodCmp (v : Value) (w : World) : (Go.method 390 191 v "Comparable").run Tryz.prog w = .ok (263, v) w := by kernel_rfl
theorem cmpInfo : (Tryz.prog.info? 260).map (·.comparable) = some true := by kernel_rfl
theorem sizeInfo : (Tryz.prog.info? 279).map (·.size) = some 1 := by kernel_rfl
theorem lacksIs (v : Value) (t : TypeId) (w : World) : (Instr.typeAssert (.iface 260 v) t 193 true).run Tryz.prog w = .ok (.tuple #[.nilIface, .bool false]) w := run_typeAssert_lacksB Tryz.underlying193 (by kernel_rfl) (by kernel_rfl) v t w
theorem lacksUnwrap (v : Value) (t : TypeId) (w : World) : (Instr.typeAssert (.iface 260 v) t 196 true).run Tryz.prog w = .ok (.tuple #[.nilIface, .bool false]) w := run_typeAssert_lacksB Tryz.underlying196 (by kernel_rfl) (by kernel_rfl) v t w
theorem lacksUnwraps (v : Value) (t : TypeId) (w : World) : (Instr.typeAssert (.iface 260 v) t 197 true).run Tryz.prog w = .ok (.tuple #[.nilIface, .bool false]) w := run_typeAssert_lacksB Tryz.underlying197 (by kernel_rfl) (by kernel_rfl) v t w
theorem isE_nil (b : Addr) (w : World) : Calls Tryz.prog 89 #[.nilIface, errAt b] w fun e w' => e = .returned (.bool false) ∧ w' = w := by
  unfold errAt
  have hn := run_eql_iface_nil_left (P := Tryz.prog) w 260 (.pointer (some b)) Tryz.underlying90
  go_enter Tryz.func89, Tryz.ntmps89
  go_wp2
  go_ret
  exact ⟨rfl, rfl⟩
theorem isE_same (a : Addr) (w : World) : Calls Tryz.prog 89 #[errAt a, errAt a] w fun e w' => e = .returned (.bool true) ∧ w' = w := by
  unfold errAt
  obtain ⟨i, hi, hcmp⟩ := Option.map_eq_some_iff.1 cmpInfo
  obtain ⟨j, hj, hjs⟩ := Option.map_eq_some_iff.1 sizeInfo
  have x1 := @run_callFunc_extern Tryz.prog 154 _ Extern.ReflectliteType.typeOf Tryz.func154 (by kernel_rfl) (by kernel_rfl) (by kernel_rfl) (by kernel_rfl)
  have x2 := @run_callFunc_extern Tryz.prog 263 _ cmpF Tryz.func263 (by kernel_rfl) (by kernel_rfl) (by kernel_rfl) (by kernel_rfl)
  have t1 := tyOfE
  have t2 := cmpE
  have t3 := methodCmp
  have heq := run_eql_iface_ptr_same (P := Tryz.prog) w a Tryz.underlying90 Tryz.underlying260 hi hcmp hj
  go_enter Tryz.func89, Tryz.ntmps89
  go_wp2
  refine wp_loop_rounds 1 ?_
  rw [rounds_succ]
  go_wp2
  go_ret
  exact ⟨rfl, rfl⟩
theorem isE_other (a b : Addr) (w : World) (hne : a ≠ b) (ha : ∃ c t, w.heap[a.block]? = some (.cells c t (0, 0))) (hb : ∃ c t, w.heap[b.block]? = some (.cells c t (0, 0))) : Calls Tryz.prog 89 #[errAt a, errAt b] w fun e w' => e = .returned (.bool false) ∧ w' = w := by
  unfold errAt
  obtain ⟨ca, ta, ha⟩ := ha
  obtain ⟨cb, tb, hb⟩ := hb
  obtain ⟨i, hi, hcmp⟩ := Option.map_eq_some_iff.1 cmpInfo
  obtain ⟨j, hj, hjs⟩ := Option.map_eq_some_iff.1 sizeInfo
  have x1 := @run_callFunc_extern Tryz.prog 154 _ Extern.ReflectliteType.typeOf Tryz.func154 (by kernel_rfl) (by kernel_rfl) (by kernel_rfl) (by kernel_rfl)
  have x2 := @run_callFunc_extern Tryz.prog 263 _ cmpF Tryz.func263 (by kernel_rfl) (by kernel_rfl) (by kernel_rfl) (by kernel_rfl)
  have t1 := tyOfE
  have t2 := cmpE
  have t3 := methodCmp
  have l1 := lacksIs
  have l2 := lacksUnwrap
  have l3 := lacksUnwraps
  have heq := run_eql_iface_ptr_other (P := Tryz.prog) w Tryz.underlying90 Tryz.underlying260 hi hcmp hj (by rw [hjs]; decide) hne ha hb
  go_enter Tryz.func89, Tryz.ntmps89
  go_wp2
  refine wp_loop_rounds 1 ?_
  rw [rounds_succ]
  go_wp2
  go_ret
  exact ⟨rfl, rfl⟩
end Go.Proofs.YtkhdjmjbdpmdnaaGreatDoor
namespace Go.Proofs.YtkhdjmjbdpmdnaaGreatDoor
open Go.RowKit

/-- What is told of a text, so that it is one that is asked for: its parts, and a code. -/
noncomputable def csrR (s : ByteArray) : Ask × Int :=
  if 20000 < s.size then (zeroA, 2)
  else if (decide ((askE (readA s)).size ≠ 0) && sigRB (readA s).sk (readA s).se (readA s).ss) = true ∧ seqD (askE (readA s) ++ thingD 3 (numsD [(readA s).se, (readA s).ss] 2)) = s
    then (if sigCB (readA s).sk (readA s).se (readA s).ss (askE (readA s)) = true then (readA s, 0) else (zeroA, 6))
    else (zeroA, 3)
def csrV (c : Ask) (v : Value) (n : Int) : Value := .agg #[.int .i64 c.key, v, .int .i64 c.sk, .int .i64 c.se, .int .i64 c.ss, .int .i64 n]
/-- The four errors. -/
def Err4 (w : World) : Prop := ∃ b1 b2 b0 b3, ErrV 1 w b1 ∧ ErrV 2 w b2 ∧ ErrV 0 w b0 ∧ ErrV 3 w b3 ∧ b1 ≠ b0 ∧ b3 ≠ b0
theorem sizeCsrOut : (Tryz.prog.info? 49).map (·.size) = some 6 := by kernel_rfl
theorem readA_names (s : ByteArray) : (readA s).names = bodiesR (atP (atP (atP s [0]) [0]) [2]) := by simp only [readA]
theorem readA_fit (s : ByteArray) : (readA s).names.length ≤ 1048576 ∧ totS (readA s).names (readA s).names.length ≤ 1048576 := by
  rw [readA_names]
  exact bodiesR_fit _
theorem readA_sk (s : ByteArray) : (readA s).sk = (readA s).key := by simp only [readA]
theorem csrR_short {s : ByteArray} (h : ¬ 20000 < s.size) : csrR s = if (decide ((askE (readA s)).size ≠ 0) && sigRB (readA s).sk (readA s).se (readA s).ss) = true ∧ seqD (askE (readA s) ++ thingD 3 (numsD [(readA s).se, (readA s).ss] 2)) = s
    then (if sigCB (readA s).sk (readA s).se (readA s).ss (askE (readA s)) = true then (readA s, 0) else (zeroA, 6))
    else (zeroA, 3) := by
  rw [csrR, if_neg h]
set_option linter.unusedSimpArgs false in
set_option maxHeartbeats 1000000 in
set_option maxRecDepth 100000 in
theorem implCsrRead (s : ByteArray) (w : World) (hs : s.size ≤ maxLen) (hw : Keys w) (hE : ErrType w) (h4 : Err4 w) :
    Calls Tryz.prog 28 #[.string s] w fun e w' => ∃ v, e = .returned (csrV (csrR s).1 v (csrR s).2) ∧ OwnS w' w.heap.size v (csrR s).1.names ∧ Below w.heap.size w w' := by
  obtain ⟨w1, hw1⟩ : ∃ y, y = w.alloc (.cells #[.int .i64 0, .slice none 0 0, .int .i64 0, .int .i64 0, .int .i64 0, .int .i64 0] 49 (0, 0)) := ⟨_, rfl⟩
  have hz : w1.heap.size = w.heap.size + 1 := by rw [hw1]; simp
  have hg1 : w1.heap[w.heap.size]? = some (.cells [Value.int .i64 0, .slice none 0 0, .int .i64 0, .int .i64 0, .int .i64 0, .int .i64 0].toArray 49 (0, 0)) := by rw [hw1]; exact heap_alloc_new w _
  have hB1 : Below w.heap.size w w1 := by rw [hw1]; exact (Below.refl _ w).alloc (Nat.le_refl _) _
  have HB : Hid (∀ V, Below w1.heap.size w1 V → Below w.heap.size w V) := fun V hV => hB1.trans (hV.mono (by omega))
  have HRes : Hid (∀ V, Below w1.heap.size w1 V → V.heap[w.heap.size]? = some (.cells [Value.int .i64 0, .slice none 0 0, .int .i64 0, .int .i64 0, .int .i64 0, .int .i64 0].toArray 49 (0, 0))) := fun V hV => by rw [hV.block _ (by omega)]; exact hg1
  have HTl : Hid (∀ V, Calls Tryz.prog 69 #[.string s] V fun e w' => e = .returned (.bool (decide (20000 < s.size))) ∧ w' = V) := fun V => tooLong s V hs
  have hEp := hE.pos
  have HRd : Hid (¬ 20000 < s.size → ∀ V, Below w1.heap.size w1 V → Calls Tryz.prog 87 #[.string s] V fun e w' => ∃ v, e = .returned ((readA s).val v) ∧ OwnS w' V.heap.size v (readA s).names ∧ Below V.heap.size V w') := fun h V hV => implReadCsr s V (by omega) (hE.below (HB.out V hV) hEp)
  have HNf : Hid (¬ 20000 < s.size → (readA s).names.length ≤ 1048576 ∧ totS (readA s).names (readA s).names.length ≤ 1048576) := fun _ => readA_fit s
  have HKe : Hid ((readA s).sk = (readA s).key) := readA_sk s
  have HRn : Hid (¬ 20000 < s.size → csrR s = _) := fun h => csrR_short h
  have hkp := hw.pos
  have HKy : Hid (∀ V, Below w1.heap.size w1 V → Keys V) := fun V hV => hw.below (HB.out V hV) hkp
  have H4 : Hid (∀ V, Below w1.heap.size w1 V → Err4 V) := fun V hV => by
    obtain ⟨b1, b2, b0, b3, e1, e2, e0, e3, n⟩ := h4
    have hb := HB.out V hV
    exact ⟨b1, b2, b0, b3, e1.keep hb, e2.keep hb, e0.keep hb, e3.keep hb, n⟩
  clear h4 hE hw hkp hEp
  obtain ⟨R, hR⟩ : ∃ R, R = csrR s := ⟨_, rfl⟩
  rw [← hR]
  have HR : Hid (R = csrR s) := hR
  have I1 : Hid (Below w1.heap.size w1 w1) := Below.refl _ _
  have Z1 : Hid (w1.heap.size = w.heap.size + 1) := hz
  clear hR hg1 hB1 hz
  go_enter Tryz.func28, Tryz.ntmps28
  go_upto_region 1 with fail
  rw [← hw1]
  clear hw1
  go_wp2_with fail
  refine (HTl.out _).mono ?_
  rintro e w2 ⟨rfl, rfl⟩
  by_cases hl : 20000 < s.size
  · have HF : Hid (R = (zeroA, 2)) := by show _ = _; rw [HR.out, csrR, if_pos hl]
    have hd : decide (20000 < s.size) = true := decide_eq_true hl
    rw [hd]
    go_wp2_with (refine wpList_store_row rfl 49 _ _ rfl (w.heap.size) _ [Value.int .i64 0, .slice none 0 0, .int .i64 0, .int .i64 0, .int .i64 0, .int .i64 2] 49 rfl rfl (HRes.out _ I1.out) rfl sizeCsrOut (by simp [Value.oneCell']) ?_)
    intro w8 hrow ho hs8 hbb
    have HROW : Hid _ := hrow
    have HB8 : Hid (Below w.heap.size w w8) := hbb _ _ (by omega) (HB.out _ I1.out)
    clear ho hs8 hbb hrow
    go_wp2
    refine bodyPost_ret (v := .agg [Value.int .i64 0, .slice none 0 0, .int .i64 0, .int .i64 0, .int .i64 0, .int .i64 2].toArray) ?_ rfl ⟨.slice none 0 0, by rw [HF.out]; rfl, by rw [HF.out]; exact ownS_nil _ _, HB8.out⟩
    have hl3 := run_loadVar_mid (P := Tryz.prog) _ (w.heap.size) 0 49 _ _ (rangeRow HROW.out) Tryz.underlying49 rfl sizeCsrOut
    simp [results, Tryz.results28, asAddr, hl3]
  · have hd : decide (20000 < s.size) = false := decide_eq_false hl
    rw [hd]
    have HRd' := HRd.out hl
    have HNf' := HNf.out hl
    have HRn' := HRn.out hl
    rw [← HR.out] at HRn'
    clear HRd HNf HRn
    obtain ⟨c, hc⟩ : ∃ c, c = readA s := ⟨_, rfl⟩
    rw [← hc] at HRd' HNf' HRn' HKe
    have HRd : Hid (∀ V, Below w2.heap.size w2 V → Calls Tryz.prog 87 #[.string s] V fun e w' => ∃ v, e = .returned (c.val v) ∧ OwnS w' V.heap.size v c.names ∧ Below V.heap.size V w') := HRd'
    have HRn : Hid _ := HRn'
    have HNf : Hid _ := HNf'
    clear HRd' HNf' HRn' hc
    go_wp2_with fail
    refine (HRd.out _ I1.out).mono ?_
    rintro e w3 ⟨v, rfl, o3, b3⟩
    obtain ⟨va, vc, rfl, _⟩ := OwnS.form o3
    have O3 : Hid (OwnS w3 (w.heap.size + 1) (.slice va c.names.length vc) c.names) := o3.mono (by rw [Z1.out]; omega)
    have B3 : Hid (Below w2.heap.size w2 w3) := b3
    clear o3 b3
    have HIs : Hid (∀ V, Below w3.heap.size w3 V → IsStrs V va c.names) := fun V hV => O3.out.strs.keep hV
    obtain ⟨key, names, sk, se, ss⟩ := c
    obtain rfl : sk = key := HKe.out
    unfold Ask.val
    simp only at HIs O3 HNf ⊢
    obtain ⟨w4, hw4⟩ : ∃ y, y = w3.alloc (.cells #[.int .i64 sk, .slice va names.length vc, .int .i64 sk, .int .i64 se, .int .i64 ss] 44 (0, 0)) := ⟨_, rfl⟩
    have b4 : Below w3.heap.size w3 w4 := by rw [hw4]; exact (Below.refl _ w3).alloc (Nat.le_refl _) _
    have g4 : w4.heap[w3.heap.size]? = some (.cells [Value.int .i64 sk, .slice va names.length vc, .int .i64 sk, .int .i64 se, .int .i64 ss].toArray 44 (0, 0)) := by rw [hw4]; exact heap_alloc_new w3 _
    have B4 : Hid (Below w3.heap.size w3 w4) := b4
    have B4' : Hid (Below w3.heap.size w3 w4) := b4
    have G4 : Hid _ := g4
    have HBx := boxCsr ⟨sk, names, sk, se, ss⟩ va vc w4 HNf.out.1 HNf.out.2 (HIs.out _ b4)
    obtain ⟨D, hD⟩ : ∃ D, D = askE ⟨sk, names, sk, se, ss⟩ := ⟨_, rfl⟩
    have HDz : Hid (D.size ≤ 255) := by show _ ≤ _; rw [hD]; exact askE_size _
    rw [← hD] at HBx HRn
    unfold Ask.val Ask.box at HBx
    simp only at HBx HRn
    have HBX : Hid (Calls Tryz.prog 77 #[.agg #[.int .i64 sk, .slice va names.length vc, .int .i64 sk, .int .i64 se, .int .i64 ss]] w4 fun e w' => ∃ g, e = .returned (.agg #[.int .i64 sk, .slice va names.length vc, .int .i64 sk, .int .i64 se, .int .i64 ss, .string D, .int .i64 sk, .int .i64 se, .int .i64 ss, .slice (some ⟨g, 0, none⟩) 2 2]) ∧ Row2 se ss w' g ∧ Below w4.heap.size w4 w') := HBx
    have HLa : Hid (∀ V g E E0 tE pE, E = .iface tE pE → Row2 se ss V g → V.cell? ⟨1, 0, none⟩ = some E → V.cell? ⟨3, 0, none⟩ = some E0 → Calls Tryz.prog 88 #[.agg #[.int .i64 sk, .slice va names.length vc, .int .i64 sk, .int .i64 se, .int .i64 ss, .string D, .int .i64 sk, .int .i64 se, .int .i64 ss, .slice (some ⟨g, 0, none⟩) 2 2], .string s] V fun r w' => r = .returned (if (decide (D.size ≠ 0) && sigRB sk se ss) = true then (if seqD (D ++ thingD 3 (numsD [se, ss] 2)) = s then .nilIface else E0) else E) ∧ Below V.heap.size V w') := fun V g E E0 tE pE h1 h2 h3 h5 => laidAsCsr ⟨sk, names, sk, se, ss⟩ _ D s g E E0 tE pE h1 V (by have := HDz.out; omega) h2 h3 h5
    have HSw : Hid (∀ V g E E0 E2 tE pE, E = .iface tE pE → Keys V → V.cell? ⟨1, 0, none⟩ = some E → V.cell? ⟨0, 0, none⟩ = some E0 → V.cell? ⟨2, 0, none⟩ = some E2 → Calls Tryz.prog 81 #[.agg #[.int .i64 sk, .slice va names.length vc, .int .i64 sk, .int .i64 se, .int .i64 ss, .string D, .int .i64 sk, .int .i64 se, .int .i64 ss, .slice (some ⟨g, 0, none⟩) 2 2], .int .i64 sk] V fun r w' => r = .returned (if (decide (D.size ≠ 0) && sigRB sk se ss) = true then (if sk = sk then (if sigCB sk se ss D = true then .nilIface else E0) else E2) else E) ∧ Below V.heap.size V w') := fun V g E E0 E2 tE pE h1 h2 h3 h5 h6 => signedWithCsr ⟨sk, names, sk, se, ss⟩ _ _ D sk E E0 E2 tE pE h1 V (by have := HDz.out; omega) h2 h3 h5 h6
    have K4 : Hid (Below w2.heap.size w2 w4) := B3.out.trans (b4.mono B3.out.size)
    clear HBx hD b4 HNf HIs HDz HKe B4
    have d0 := rowFacts g4 0 _ rfl
    have d1 := rowFacts g4 1 _ rfl
    have d2 := rowFacts g4 2 _ rfl
    have d3 := rowFacts g4 3 _ rfl
    have d4 := rowFacts g4 4 _ rfl
    clear g4
    go_upto_region 4 with fail
    rw [← hw4]
    clear hw4
    go_wp2_with fail
    refine HBX.out.mono ?_
    rintro e w5 ⟨g, rfl, r5, b5⟩
    clear d0 d1 d2 d3 d4
    have K5 : Hid (Below w2.heap.size w2 w5) := K4.out.trans (b5.mono K4.out.size)
    obtain ⟨w6, hw6⟩ : ∃ y, y = w5.alloc (.cells #[.int .i64 sk, .slice va names.length vc, .int .i64 sk, .int .i64 se, .int .i64 ss, .string D, .int .i64 sk, .int .i64 se, .int .i64 ss, .slice (some ⟨g, 0, none⟩) 2 2] 87 (0, 0)) := ⟨_, rfl⟩
    have b6 : Below w5.heap.size w5 w6 := by rw [hw6]; exact (Below.refl _ w5).alloc (Nat.le_refl _) _
    have g6 : w6.heap[w5.heap.size]? = some (.cells [Value.int .i64 sk, .slice va names.length vc, .int .i64 sk, .int .i64 se, .int .i64 ss, .string D, .int .i64 sk, .int .i64 se, .int .i64 ss, .slice (some ⟨g, 0, none⟩) 2 2].toArray 87 (0, 0)) := by rw [hw6]; exact heap_alloc_new w5 _
    have K6 : Hid (Below w2.heap.size w2 w6) := K5.out.trans (b6.mono K5.out.size)
    have c6 : w6.heap[w3.heap.size]? = some (.cells [Value.int .i64 sk, .slice va names.length vc, .int .i64 sk, .int .i64 se, .int .i64 ss].toArray 44 (0, 0)) := by
      rw [b6.block _ (by have := heap_lt G4.out; have := b5.size; omega), b5.block _ (heap_lt G4.out)]
      exact G4.out
    have q6 : Row2 se ss w6 g := r5.keep b6
    have o6 : OwnS w6 (w.heap.size + 1) (.slice va names.length vc) names := O3.out.keep ((B4'.out.trans (b5.mono B4'.out.size)).trans (b6.mono (by have := B4'.out.size; have := b5.size; omega)))
    have Q6 : Hid (Row2 se ss w6 g) := q6
    have O6 : Hid (OwnS w6 (w.heap.size + 1) (.slice va names.length vc) names) := o6
    have G6 : Hid _ := g6
    have C6 : Hid _ := c6
    have d0 := rowFacts g6 0 _ rfl
    have d1 := rowFacts g6 1 _ rfl
    have d2 := rowFacts g6 2 _ rfl
    have d3 := rowFacts g6 3 _ rfl
    have d4 := rowFacts g6 4 _ rfl
    have d5 := rowFacts g6 5 _ rfl
    have d6 := rowFacts g6 6 _ rfl
    have d7 := rowFacts g6 7 _ rfl
    have d8 := rowFacts g6 8 _ rfl
    have d9 := rowFacts g6 9 _ rfl
    clear b5 r5 b6 g6 c6 q6 o6 HBX O3 K4 G4 K5
    go_upto_region 5 with fail
    rw [← hw6]
    clear hw6
    obtain ⟨b1, b2, b0, b3, e1, e2, e0, e3, n10, n30⟩ := H4.out w6 K6.out
    go_wp2_with fail
    refine (HLa.out w6 g _ _ _ _ rfl Q6.out e1.1 e3.1).mono ?_
    rintro e w7 ⟨rfl, b7⟩
    clear d0 d1 d2 d3 d4 d5 d6 d7 d8 d9
    have K7 : Hid (Below w2.heap.size w2 w7) := K6.out.trans (b7.mono K6.out.size)
    have E1 := e1.keep b7
    have E2 := e2.keep b7
    have E0 := e0.keep b7
    have E3 := e3.keep b7
    have G7 : Hid _ := (b7.block _ (heap_lt G6.out)).trans G6.out
    have C7 : Hid _ := (b7.block _ (heap_lt C6.out)).trans C6.out
    have O7 : Hid (OwnS w7 (w.heap.size + 1) (.slice va names.length vc) names) := O6.out.keep b7
    clear e1 e2 e0 e3 b7 Q6 G6 C6 O6 K6 HLa
    by_cases hP : (decide (D.size ≠ 0) && sigRB sk se ss) = true ∧ seqD (D ++ thingD 3 (numsD [se, ss] 2)) = s
    · have hR := HRn.out
      rw [if_pos hP] at hR
      rw [if_pos hP.1, if_pos hP.2]
      have HR' : Hid _ := hR
      have HS' : Hid (Calls Tryz.prog 81 #[.agg #[.int .i64 sk, .slice va names.length vc, .int .i64 sk, .int .i64 se, .int .i64 ss, .string D, .int .i64 sk, .int .i64 se, .int .i64 ss, .slice (some ⟨g, 0, none⟩) 2 2], .int .i64 sk] w7 fun r w' => r = .returned (if sigCB sk se ss D = true then .nilIface else errAt b0) ∧ Below w7.heap.size w7 w') := (HSw.out w7 g _ _ _ _ _ rfl (HKy.out _ K7.out) E1.1 E0.1 E2.1).mono fun e W h => by
        rw [if_pos hP.1] at h
        simpa [errAt] using h
      clear HSw hR hP HRn
      have d0 := rowFacts G7.out 0 _ rfl
      have d1 := rowFacts G7.out 1 _ rfl
      have d2 := rowFacts G7.out 2 _ rfl
      have d3 := rowFacts G7.out 3 _ rfl
      have d4 := rowFacts G7.out 4 _ rfl
      have d5 := rowFacts G7.out 5 _ rfl
      have d6 := rowFacts G7.out 6 _ rfl
      have d7 := rowFacts G7.out 7 _ rfl
      have d8 := rowFacts G7.out 8 _ rfl
      have d9 := rowFacts G7.out 9 _ rfl
      have f0 := rowFacts C7.out 0 _ rfl
      have n0 := E0
      clear E1 E2 E3 E0
      go_wp2_with fail
      refine Calls.mono HS'.out ?_
      rintro e w9 ⟨rfl, b9⟩
      clear d0 d1 d2 d3 d4 d5 d6 d7 d8 d9 f0
      have k0 := (n0.keep b9).1
      have K9 : Hid (Below w2.heap.size w2 w9) := K7.out.trans (b9.mono K7.out.size)
      have G9 : Hid _ := (b9.block _ (heap_lt G7.out)).trans G7.out
      have O9 : Hid (OwnS w9 (w.heap.size + 1) (.slice va names.length vc) names) := O7.out.keep b9
      clear b9 n0 HS' C7 G7 O7
      cases hq : sigCB sk se ss D with
      | false =>
        have HF : Hid (R = (zeroA, 6)) := by show _ = _; rw [HR'.out, hq]; simp
        have HIs : Hid (Calls Tryz.prog 89 #[errAt b0, errAt b0] w9 fun e w' => e = .returned (.bool true) ∧ w' = w9) := isE_same b0 w9
        clear hq HR'
        unfold errAt at HIs ⊢
        simp only [Bool.false_eq_true, if_false]
        go_wp2_with fail
        refine Calls.mono HIs.out ?_
        rintro e w10 ⟨rfl, h10⟩
        subst h10
        go_wp2_with (refine wpList_store_row rfl 49 _ _ rfl (w.heap.size) _ [Value.int .i64 0, .slice none 0 0, .int .i64 0, .int .i64 0, .int .i64 0, .int .i64 6] 49 rfl rfl (HRes.out _ K9.out) rfl sizeCsrOut (by simp [Value.oneCell']) ?_)
        intro w8 hrow ho hs8 hbb
        have HROW : Hid _ := hrow
        have HB8 : Hid (Below w.heap.size w w8) := hbb _ _ (by omega) (HB.out _ K9.out)
        clear ho hs8 hbb hrow
        go_wp2
        refine bodyPost_ret (v := .agg [Value.int .i64 0, .slice none 0 0, .int .i64 0, .int .i64 0, .int .i64 0, .int .i64 6].toArray) ?_ rfl ⟨.slice none 0 0, by rw [HF.out]; rfl, by rw [HF.out]; exact ownS_nil _ _, HB8.out⟩
        have hl3 := run_loadVar_mid (P := Tryz.prog) _ (w.heap.size) 0 49 _ _ (rangeRow HROW.out) Tryz.underlying49 rfl sizeCsrOut
        simp [results, Tryz.results28, asAddr, hl3]
      | true =>
        have HF : Hid (R = (⟨sk, names, sk, se, ss⟩, 0)) := by show _ = _; rw [HR'.out, hq]; simp
        have HIs : Hid (Calls Tryz.prog 89 #[.nilIface, errAt b0] w9 fun e w' => e = .returned (.bool false) ∧ w' = w9) := isE_nil b0 w9
        clear hq HR'
        unfold errAt at HIs
        simp only [if_true]
        have d0 := rowFacts G9.out 0 _ rfl
        have d1 := rowFacts G9.out 1 _ rfl
        have d2 := rowFacts G9.out 2 _ rfl
        have d3 := rowFacts G9.out 3 _ rfl
        have d4 := rowFacts G9.out 4 _ rfl
        have d5 := rowFacts G9.out 5 _ rfl
        have d6 := rowFacts G9.out 6 _ rfl
        have d7 := rowFacts G9.out 7 _ rfl
        have d8 := rowFacts G9.out 8 _ rfl
        have d9 := rowFacts G9.out 9 _ rfl
        go_wp2_with fail
        refine Calls.mono HIs.out ?_
        rintro e w10 ⟨rfl, h10⟩
        subst h10
        go_wp2_with (refine wpList_store_row rfl 49 _ _ rfl (w.heap.size) _ [Value.int .i64 sk, .slice va names.length vc, .int .i64 sk, .int .i64 se, .int .i64 ss, .int .i64 0] 49 rfl rfl (HRes.out _ K9.out) rfl sizeCsrOut (by simp [Value.oneCell']) ?_)
        intro w8 hrow ho hs8 hbb
        have HROW : Hid _ := hrow
        have HB8 : Hid (Below w.heap.size w w8) := hbb _ _ (by omega) (HB.out _ K9.out)
        have O8 : Hid (OwnS w8 (w.heap.size + 1) (.slice va names.length vc) names) := O9.out.same fun b h1 h2 => ho b (by omega)
        clear ho hs8 hbb hrow d0 d1 d2 d3 d4 d5 d6 d7 d8 d9
        go_wp2
        refine bodyPost_ret (v := .agg [Value.int .i64 sk, .slice va names.length vc, .int .i64 sk, .int .i64 se, .int .i64 ss, .int .i64 0].toArray) ?_ rfl ⟨.slice va names.length vc, by rw [HF.out]; rfl, by rw [HF.out]; exact O8.out.mono (by omega), HB8.out⟩
        have hl3 := run_loadVar_mid (P := Tryz.prog) _ (w.heap.size) 0 49 _ _ (rangeRow HROW.out) Tryz.underlying49 rfl sizeCsrOut
        simp [results, Tryz.results28, asAddr, hl3]
    · have HF : Hid (R = (zeroA, 3)) := by show _ = _; rw [HRn.out, if_neg hP]
      obtain ⟨b, hb, hne, hrw⟩ : ∃ b, (if (decide (D.size ≠ 0) && sigRB sk se ss) = true then (if seqD (D ++ thingD 3 (numsD [se, ss] 2)) = s then Value.nilIface else .iface 260 (.pointer (some b3))) else .iface 260 (.pointer (some b1))) = errAt b ∧ b ≠ b0 ∧ ∃ c t, w7.heap[b.block]? = some (.cells c t (0, 0)) := by
        by_cases h1 : (decide (D.size ≠ 0) && sigRB sk se ss) = true
        · rw [if_pos h1, if_neg (fun h => hP ⟨h1, h⟩)]
          exact ⟨b3, rfl, n30, E3.2⟩
        · rw [if_neg h1]
          exact ⟨b1, rfl, n10, E1.2⟩
      rw [hb]
      have HIs := isE_other b b0 w7 hne hrw E0.2
      have k0 := E0.1
      clear hP hb hne hrw HRn HSw E1 E2 E3
      unfold errAt at HIs ⊢
      have HIs' : Hid _ := HIs
      clear HIs
      go_wp2_with fail
      refine Calls.mono HIs'.out ?_
      rintro e w9 ⟨rfl, h9⟩
      subst h9
      go_wp2_with (refine wpList_store_row rfl 49 _ _ rfl (w.heap.size) _ [Value.int .i64 0, .slice none 0 0, .int .i64 0, .int .i64 0, .int .i64 0, .int .i64 3] 49 rfl rfl (HRes.out _ K7.out) rfl sizeCsrOut (by simp [Value.oneCell']) ?_)
      intro w8 hrow ho hs8 hbb
      have HROW : Hid _ := hrow
      have HB8 : Hid (Below w.heap.size w w8) := hbb _ _ (by omega) (HB.out _ K7.out)
      clear ho hs8 hbb hrow
      go_wp2
      refine bodyPost_ret (v := .agg [Value.int .i64 0, .slice none 0 0, .int .i64 0, .int .i64 0, .int .i64 0, .int .i64 3].toArray) ?_ rfl ⟨.slice none 0 0, by rw [HF.out]; rfl, by rw [HF.out]; exact ownS_nil _ _, HB8.out⟩
      have hl3 := run_loadVar_mid (P := Tryz.prog) _ (w.heap.size) 0 49 _ _ (rangeRow HROW.out) Tryz.underlying49 rfl sizeCsrOut
      simp [results, Tryz.results28, asAddr, hl3]
end Go.Proofs.YtkhdjmjbdpmdnaaGreatDoor
namespace Go.Proofs.YtkhdjmjbdpmdnaaGreatDoor
open Go.RowKit

theorem readA_back {c : Ask} (h : formB c = true) : readA (askY c) = c := by
  obtain ⟨a1, a2, a3, a4, a5, n1, n2, _, _, b1⟩ := ask_back h
  have hk := form_key h
  unfold readA
  simp only [a1, a2, a3, a4, a5, n1, n2, b1, List.getD_cons_zero, List.getD_cons_succ]
  cases c
  simp only at hk ⊢
  rw [hk]
end Go.Proofs.YtkhdjmjbdpmdnaaGreatDoor
namespace Go.Proofs.YtkhdjmjbdpmdnaaGreatDoor
open Go.RowKit

set_option linter.unusedSimpArgs false in
set_option maxHeartbeats 4000000 in
set_option maxRecDepth 100000 in
theorem specAskR (c : Ask) (a : Option Addr) (cap : Nat) (w : World) (hl : c.names.length ≤ 1048576) (ht : totS c.names c.names.length ≤ 1048576) (ha : IsStrs w a c.names) :
    Calls Tryz.prog 85 #[c.val (.slice a c.names.length cap)] w fun e w' => e = .returned (.bool (askR c)) ∧ Below w.heap.size w w' := by
  have HP : Hid (∀ V, IsStrs V a c.names → Calls Tryz.prog 103 #[c.val (.slice a c.names.length cap)] V fun e w' => e = .returned (.bool (formB c)) ∧ Below V.heap.size V w') := fun V hV => specForm c a cap V hl ht hV
  have HQ : Hid (formB c = true → ∀ V, IsStrs V a c.names → Calls Tryz.prog 84 #[c.val (.slice a c.names.length cap)] V fun e w' => e = .returned (.string (askD c)) ∧ Below V.heap.size V w') := fun h V hV => by
    obtain ⟨f1, f2, f3, f4⟩ := ask_fits (formB_ask h)
    exact specAskD c a cap V (by omega) f2 f4 hV
  have HZ : Hid (formB c = true → (askD c).size ≤ 255) := fun h => askD_le (formB_ask h)
  have HG : Hid (askR c = (formB c && sigCB c.sk c.se c.ss (askD c))) := rfl
  generalize askR c = R at *
  generalize formB c = P at *
  generalize askD c = D at *
  clear hl ht
  obtain ⟨key, names, sk, se, ss⟩ := c
  unfold Ask.val at *
  simp only at HP HQ HG ha ⊢
  generalize names.length = nl at *
  obtain ⟨w1, hw1⟩ : ∃ w1, w1 = w.alloc (.cells #[.int .i64 key, .slice a nl cap, .int .i64 sk, .int .i64 se, .int .i64 ss] 44 (0, 0)) := ⟨_, rfl⟩
  have r0 : w1.heap[w.heap.size]? = some (.cells [Value.int .i64 key, .slice a nl cap, .int .i64 sk, .int .i64 se, .int .i64 ss].toArray 44 (0, 0)) := by rw [hw1]; exact heap_alloc_new w _
  have B1 : Hid (Below w.heap.size w w1) := by rw [hw1]; exact (Below.refl _ _).alloc (Nat.le_refl _) _
  have z1 : w.heap.size < w1.heap.size := by rw [hw1]; simp
  have HK : Hid (∀ V, Below w1.heap.size w1 V → V.cell? ⟨w.heap.size, 0, none⟩ = some (.int .i64 key) ∧ V.cell? ⟨w.heap.size, 1, none⟩ = some (.slice a nl cap) ∧ V.cell? ⟨w.heap.size, 2, none⟩ = some (.int .i64 sk) ∧ V.cell? ⟨w.heap.size, 3, none⟩ = some (.int .i64 se) ∧ V.cell? ⟨w.heap.size, 4, none⟩ = some (.int .i64 ss)) := fun V hV => by
    have hP := (hV.block _ z1).trans r0
    exact ⟨rowFacts hP 0 _ rfl, rowFacts hP 1 _ rfl, rowFacts hP 2 _ rfl, rowFacts hP 3 _ rfl, rowFacts hP 4 _ rfl⟩
  have HA : Hid (∀ V, Below w1.heap.size w1 V → IsStrs V a names) := fun V hV => (ha.keep B1.out).keep hV
  have HB : Hid (∀ V, Below w1.heap.size w1 V → Below w.heap.size w V) := fun V hV => B1.out.trans (hV.mono B1.out.size)
  have I1 : Hid (Below w1.heap.size w1 w1) := Below.refl _ _
  have D1 : Hid (Below w1.heap.size w1 w1.drew) := I1.out.drew
  clear r0 z1 B1 ha
  have PC : Hid (∀ V, Hid (Below w1.heap.size w1 V) → Calls Tryz.prog 103 #[.agg #[.int .i64 key, .slice a nl cap, .int .i64 sk, .int .i64 se, .int .i64 ss]] V fun e W => e = .returned (.bool P) ∧ Hid (Below w1.heap.size w1 W)) := fun V hV => (HP.out V (HA.out V hV.out)).mono fun e W h => ⟨h.1, hV.out.trans (h.2.mono hV.out.size)⟩
  clear HP
  go_enter Tryz.func85, Tryz.ntmps85
  go_upto_region 1 with fail
  rw [← hw1]
  clear hw1
  obtain ⟨c0, c1, c2, c3, c4⟩ := HK.out w1 I1.out
  cases P with
  | false =>
    have HF : Hid (R = false) := HG.out
    refine wp_region_held_drew (S := fun V => V.cell? ⟨w.heap.size, 0, none⟩ = some (.int .i64 key) ∧ V.cell? ⟨w.heap.size, 1, none⟩ = some (.slice a nl cap) ∧ V.cell? ⟨w.heap.size, 2, none⟩ = some (.int .i64 sk) ∧ V.cell? ⟨w.heap.size, 3, none⟩ = some (.int .i64 se) ∧ V.cell? ⟨w.heap.size, 4, none⟩ = some (.int .i64 ss)) (by kernel_rfl) ?_ (fun hHeld => ?_)
    · exact HK.out _ D1.out
    refine wpAnyH_take (i := 0) (oi := ⟨some 3, _, _, _, _, _⟩) (v := ?_) rfl (by kernel_rfl) (by kernel_rfl) (by kernel_rfl) (fun _ _ _ h => h) (Or.inl ⟨by kernel_rfl, ?_⟩) (by assumption) ?_
    rotate_left
    · (intro w hSw; (try dsimp only at hSw); go_simp; try with_reducible rfl)
    (try simp only [Act.put, List.setIfInBounds_toArray, List.set_cons_zero, List.set_cons_succ])
    refine wpAnyH_ready (rs := [1]) (by kernel_rfl) (by simp) ?_
    refine AllReadyH.cons (o := ⟨some 4, _, _, _, _, _⟩) rfl (fun K hK => ?_) AllReadyH.nil
    go_simp
    refine (PC.out _ D1).mono ?_
    rintro r V1 ⟨rfl, k1⟩
    refine hK.out _ _ ?_ (fun hHeld => ?_)
    · exact HK.out _ k1.out
    clear hK K
    (try simp only [Act.put, List.setIfInBounds_toArray, List.set_cons_zero, List.set_cons_succ])
    refine wpAnyH_take (i := 2) (oi := ⟨some 5, _, _, _, _, _⟩) (v := ?_) rfl (by kernel_rfl) (by kernel_rfl) (by kernel_rfl) (fun _ _ _ h => h) (Or.inl ⟨by kernel_rfl, ?_⟩) (by assumption) ?_
    rotate_left
    · (intro w hSw; (try dsimp only at hSw); go_simp; try with_reducible rfl)
    (try simp only [Act.put, List.setIfInBounds_toArray, List.set_cons_zero, List.set_cons_succ])
    refine wpAnyH_take (i := 3) (oi := ⟨some 6, _, _, _, _, _⟩) (v := undef) rfl (by kernel_rfl) (by kernel_rfl) (by kernel_rfl) (fun _ _ _ h => h) (Or.inr ⟨by kernel_rfl, rfl⟩) (by assumption) ?_
    (try simp only [Act.put, List.setIfInBounds_toArray, List.set_cons_zero, List.set_cons_succ])
    refine wpAnyH_take (i := 4) (oi := ⟨some 7, _, _, _, _, _⟩) (v := undef) rfl (by kernel_rfl) (by kernel_rfl) (by kernel_rfl) (fun _ _ _ h => h) (Or.inr ⟨by kernel_rfl, rfl⟩) (by assumption) ?_
    (try simp only [Act.put, List.setIfInBounds_toArray, List.set_cons_zero, List.set_cons_succ])
    refine wpAnyH_take (i := 5) (oi := ⟨some 8, _, _, _, _, _⟩) (v := undef) rfl (by kernel_rfl) (by kernel_rfl) (by kernel_rfl) (fun _ _ _ h => h) (Or.inr ⟨by kernel_rfl, rfl⟩) (by assumption) ?_
    (try simp only [Act.put, List.setIfInBounds_toArray, List.set_cons_zero, List.set_cons_succ])
    refine wpAnyH_take (i := 6) (oi := ⟨some 9, _, _, _, _, _⟩) (v := undef) rfl (by kernel_rfl) (by kernel_rfl) (by kernel_rfl) (fun _ _ _ h => h) (Or.inr ⟨by kernel_rfl, rfl⟩) (by assumption) ?_
    (try simp only [Act.put, List.setIfInBounds_toArray, List.set_cons_zero, List.set_cons_succ])
    refine wpAnyH_take (i := 7) (oi := ⟨some 10, _, _, _, _, _⟩) (v := undef) rfl (by kernel_rfl) (by kernel_rfl) (by kernel_rfl) (fun _ _ _ h => h) (Or.inr ⟨by kernel_rfl, rfl⟩) (by assumption) ?_
    (try simp only [Act.put, List.setIfInBounds_toArray, List.set_cons_zero, List.set_cons_succ])
    refine wpAnyH_take (i := 8) (oi := ⟨some 11, _, _, _, _, _⟩) (v := ?_) rfl (by kernel_rfl) (by kernel_rfl) (by kernel_rfl) (fun _ _ _ h => h) (Or.inl ⟨by kernel_rfl, ?_⟩) (by assumption) ?_
    rotate_left
    · (intro w hSw; (try dsimp only at hSw); go_simp; try with_reducible rfl)
    (try simp only [Act.put, List.setIfInBounds_toArray, List.set_cons_zero, List.set_cons_succ])
    refine wpAnyH_take (i := 9) (oi := ⟨some 2, _, _, _, _, _⟩) (v := ?_) rfl (by kernel_rfl) (by kernel_rfl) (by kernel_rfl) (fun _ _ _ h => h) (Or.inl ⟨by kernel_rfl, ?_⟩) (by assumption) ?_
    rotate_left
    · (intro w hSw; (try dsimp only at hSw); go_simp; try with_reducible rfl)
    (try simp only [Act.put, List.setIfInBounds_toArray, List.set_cons_zero, List.set_cons_succ])
    refine wpAnyH_done (by kernel_rfl) ?_ _
    go_wp2
    go_ret
    exact ⟨by rw [HF.out]; rfl, HB.out _ k1.out⟩
  | true =>
    have hR : R = sigCB sk se ss D := by rw [HG.out]; simp
    have zD := HZ.out rfl
    have Q1 := HQ.out rfl
    have PB : Hid (∀ V, Hid (Below w1.heap.size w1 V) → Calls Tryz.prog 84 #[.agg #[.int .i64 key, .slice a nl cap, .int .i64 sk, .int .i64 se, .int .i64 ss]] V fun e W => e = .returned (.string D) ∧ Hid (Below w1.heap.size w1 W)) := fun V hV => (Q1 V (HA.out V hV.out)).mono fun e W h => ⟨h.1, hV.out.trans (h.2.mono hV.out.size)⟩
    have PG : Hid (∀ V, Hid (Below w1.heap.size w1 V) → Calls Tryz.prog 75 #[.agg #[.int .i64 sk, .int .i64 se, .int .i64 ss], .string D] V fun e W => e = .returned (.bool R) ∧ Hid (Below w1.heap.size w1 W)) := fun V hV => by
      rw [hR]
      exact (specSigCheck sk se ss D V (by unfold maxLen; omega)).mono fun e W h => ⟨h.1, hV.out.trans (h.2.mono hV.out.size)⟩
    clear hR zD Q1 HQ HZ HG HA
    go_region_held3 (fun V => V.cell? ⟨w.heap.size, 0, none⟩ = some (.int .i64 key) ∧ V.cell? ⟨w.heap.size, 1, none⟩ = some (.slice a nl cap) ∧ V.cell? ⟨w.heap.size, 2, none⟩ = some (.int .i64 sk) ∧ V.cell? ⟨w.heap.size, 3, none⟩ = some (.int .i64 se) ∧ V.cell? ⟨w.heap.size, 4, none⟩ = some (.int .i64 ss)) (first | (refine ⟨?_, ?_, ?_, ?_, ?_⟩ <;> assumption) | exact HK.out _ (Hid.out (by assumption)))
      (first
        | (go_at_call 103; refine (PC.out _ (by assumption)).mono ?_; rintro r V1 ⟨rfl, k1⟩)
        | (go_at_call 84; refine (PB.out _ (by assumption)).mono ?_; rintro r V2 ⟨rfl, k2⟩)
        | (go_at_call 75; refine (PG.out _ (by assumption)).mono ?_; rintro r V3 ⟨rfl, k3⟩))
    go_wp2
    go_ret
    exact ⟨rfl, HB.out _ k3.out⟩
end Go.Proofs.YtkhdjmjbdpmdnaaGreatDoor
