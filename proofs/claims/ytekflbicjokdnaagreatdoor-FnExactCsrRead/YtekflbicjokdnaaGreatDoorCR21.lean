/- errors.Is at errors of errors.New's make, by its contracts: nil: false; the same: true; another: false. After the guide's worked example. impl.CsrRead, walked. What the program reads of what is asked for, as it was laid. Plain mathematics, but for where readA is told. spec.l05Seven, walked. spec.l05Oid, walked. -/
import Derived.Test.YtekflbicjokdnaaGreatDoorCR19
import Derived.WalkKit
import Derived.LaidEql
import Derived.Stop.Asserts
import Derived.RowKitTokens
import Derived.Test.YtekflbicjokdnaaGreatDoorCR17
import Derived.Test.YtekflbicjokdnaaGreatDoorCR10
import Derived.Test.YtekflbicjokdnaaGreatDoorCR20
import Derived.Test.YtekflbicjokdnaaGreatDoorCR08
import Derived.Test.YtekflbicjokdnaaGreatDoorCR03
import Derived.Test.YtekflbicjokdnaaGreatDoorCR01
import Derived.Test.YtekflbicjokdnaaGreatDoorCR06
import Derived.Deep.RegionHeld3
namespace Go.Proofs.YtekflbicjokdnaaGreatDoor
open Go.RowKit Go.Extern.Stop Go.Stop Go.Extern

/-- An error of errors.New's make, at a. -/
def errAt (a : Addr) : Value := .iface 246 (.pointer (some a))
theorem tyOfE (v : Value) (w : World) : (Extern.ReflectliteType.typeOf #[.iface 246 v]).run Tryz.prog w = .ok (.iface 145 (.agg #[.pointer (some ⟨7, 246, none⟩)])) w := by kernel_rfl
/-- What stands in for the method Comparable. -/
noncomputable def cmpF : Array Value → Sem Value := (find Tryz.f237).getD fun _ => pure .nilIface
theorem cmpE (w : World) : (cmpF #[.agg #[.pointer (some ⟨7, 246, none⟩)]]).run Tryz.prog w = .ok (.bool true) w := by kernel_rfl
theorem methodCmp (v : Value) (w : World) : (Go.method 376 145 v "Comparable").run Tryz.prog w = .ok (237, v) w := by kernel_rfl
theorem cmpInfo : (Tryz.prog.info? 246).map (·.comparable) = some true := by kernel_rfl
theorem sizeInfo : (Tryz.prog.info? 265).map (·.size) = some 1 := by kernel_rfl
theorem lacksIs (v : Value) (t : TypeId) (w : World) : (Instr.typeAssert (.iface 246 v) t 147 true).run Tryz.prog w = .ok (.tuple #[.nilIface, .bool false]) w := run_typeAssert_lacksB Tryz.underlying147 (by kernel_rfl) (by kernel_rfl) v t w
theorem lacksUnwrap (v : Value) (t : TypeId) (w : World) : (Instr.typeAssert (.iface 246 v) t 150 true).run Tryz.prog w = .ok (.tuple #[.nilIface, .bool false]) w := run_typeAssert_lacksB Tryz.underlying150 (by kernel_rfl) (by kernel_rfl) v t w
theorem lacksUnwraps (v : Value) (t : TypeId) (w : World) : (Instr.typeAssert (.iface 246 v) t 151 true).run Tryz.prog w = .ok (.tuple #[.nilIface, .bool false]) w := run_typeAssert_lacksB Tryz.underlying151 (by kernel_rfl) (by kernel_rfl) v t w
theorem isE_nil (b : Addr) (w : World) : Calls Tryz.prog 38 #[.nilIface, errAt b] w fun e w' => e = .returned (.bool false) ∧ w' = w := by
  unfold errAt
  have hn := run_eql_iface_nil_left (P := Tryz.prog) w 246 (.pointer (some b)) Tryz.underlying60
  go_enter Tryz.func38, Tryz.ntmps38
  go_wp2
  go_ret
  exact ⟨rfl, rfl⟩
theorem isE_same (a : Addr) (w : World) : Calls Tryz.prog 38 #[errAt a, errAt a] w fun e w' => e = .returned (.bool true) ∧ w' = w := by
  unfold errAt
  obtain ⟨i, hi, hcmp⟩ := Option.map_eq_some_iff.1 cmpInfo
  obtain ⟨j, hj, hjs⟩ := Option.map_eq_some_iff.1 sizeInfo
  have x1 := @run_callFunc_extern Tryz.prog 87 _ Extern.ReflectliteType.typeOf Tryz.func87 (by kernel_rfl) (by kernel_rfl) (by kernel_rfl) (by kernel_rfl)
  have x2 := @run_callFunc_extern Tryz.prog 237 _ cmpF Tryz.func237 (by kernel_rfl) (by kernel_rfl) (by kernel_rfl) (by kernel_rfl)
  have t1 := tyOfE
  have t2 := cmpE
  have t3 := methodCmp
  have heq := run_eql_iface_ptr_same (P := Tryz.prog) w a Tryz.underlying60 Tryz.underlying246 hi hcmp hj
  go_enter Tryz.func38, Tryz.ntmps38
  go_wp2
  refine wp_loop_rounds 1 ?_
  rw [rounds_succ]
  go_wp2
  go_ret
  exact ⟨rfl, rfl⟩
theorem isE_other (a b : Addr) (w : World) (hne : a ≠ b) (ha : ∃ c t, w.heap[a.block]? = some (.cells c t (0, 0))) (hb : ∃ c t, w.heap[b.block]? = some (.cells c t (0, 0))) : Calls Tryz.prog 38 #[errAt a, errAt b] w fun e w' => e = .returned (.bool false) ∧ w' = w := by
  unfold errAt
  obtain ⟨ca, ta, ha⟩ := ha
  obtain ⟨cb, tb, hb⟩ := hb
  obtain ⟨i, hi, hcmp⟩ := Option.map_eq_some_iff.1 cmpInfo
  obtain ⟨j, hj, hjs⟩ := Option.map_eq_some_iff.1 sizeInfo
  have x1 := @run_callFunc_extern Tryz.prog 87 _ Extern.ReflectliteType.typeOf Tryz.func87 (by kernel_rfl) (by kernel_rfl) (by kernel_rfl) (by kernel_rfl)
  have x2 := @run_callFunc_extern Tryz.prog 237 _ cmpF Tryz.func237 (by kernel_rfl) (by kernel_rfl) (by kernel_rfl) (by kernel_rfl)
  have t1 := tyOfE
  have t2 := cmpE
  have t3 := methodCmp
  have l1 := lacksIs
  have l2 := lacksUnwrap
  have l3 := lacksUnwraps
  have heq := run_eql_iface_ptr_other (P := Tryz.prog) w Tryz.underlying60 Tryz.underlying246 hi hcmp hj (by rw [hjs]; decide) hne ha hb
  go_enter Tryz.func38, Tryz.ntmps38
  go_wp2
  refine wp_loop_rounds 1 ?_
  rw [rounds_succ]
  go_wp2
  go_ret
  exact ⟨rfl, rfl⟩
end Go.Proofs.YtekflbicjokdnaaGreatDoor
namespace Go.Proofs.YtekflbicjokdnaaGreatDoor
open Go.RowKit

/-- What is told of a text, so that it is one that is asked for: its parts, and a code. -/
noncomputable def csrR (s : ByteArray) : Ask × Int :=
  if 20000 < s.size then (zeroA, 2)
  else if (decide ((askE (readA s)).size ≠ 0) && sigRB (readA s).sk (readA s).se (readA s).ss) = true ∧ seqD (askE (readA s) ++ thingD 3 (numsD [(readA s).se, (readA s).ss] 2)) = s
    then (if sigCB (readA s).sk (readA s).se (readA s).ss (askE (readA s)) = true then (readA s, 0) else (zeroA, 6))
    else (zeroA, 3)
def csrV (c : Ask) (v : Value) (n : Int) : Value := .agg #[.int .i64 c.key, v, .int .i64 c.sk, .int .i64 c.se, .int .i64 c.ss, .int .i64 n]
/-- The four errors. -/
def Err4 (w : World) : Prop := ∃ b1 b2 b0 b3, ErrV 3 w b1 ∧ ErrV 2 w b2 ∧ ErrV 0 w b0 ∧ ErrV 1 w b3 ∧ b1 ≠ b0 ∧ b3 ≠ b0
theorem sizeCsrOut : (Tryz.prog.info? 36).map (·.size) = some 6 := by kernel_rfl
theorem readA_names (s : ByteArray) : (readA s).names = bodiesR (atP (atP (atP s [0]) [0]) [2]) := by simp only [readA]
theorem readA_fit (s : ByteArray) : (readA s).names.length ≤ 1048576 ∧ totS (readA s).names (readA s).names.length ≤ 1048576 := by
  rw [readA_names]
  exact bodiesR_fit _
theorem readA_sk (s : ByteArray) : (readA s).sk = (readA s).key := by simp only [readA]
theorem csrR_short {s : ByteArray} (h : ¬ 20000 < s.size) : csrR s = if (decide ((askE (readA s)).size ≠ 0) && sigRB (readA s).sk (readA s).se (readA s).ss) = true ∧ seqD (askE (readA s) ++ thingD 3 (numsD [(readA s).se, (readA s).ss] 2)) = s
    then (if sigCB (readA s).sk (readA s).se (readA s).ss (askE (readA s)) = true then (readA s, 0) else (zeroA, 6))
    else (zeroA, 3) := by
  rw [csrR, if_neg h]
set_option linter.unusedSimpArgs false in
set_option maxHeartbeats 1000000 in
set_option maxRecDepth 100000 in
theorem implCsrRead (s : ByteArray) (w : World) (hs : s.size ≤ maxLen) (hw : Keys w) (hE : ErrType w) (h4 : Err4 w) :
    Calls Tryz.prog 12 #[.string s] w fun e w' => ∃ v, e = .returned (csrV (csrR s).1 v (csrR s).2) ∧ OwnS w' w.heap.size v (csrR s).1.names ∧ Below w.heap.size w w' := by
  obtain ⟨w1, hw1⟩ : ∃ y, y = w.alloc (.cells #[.int .i64 0, .slice none 0 0, .int .i64 0, .int .i64 0, .int .i64 0, .int .i64 0] 36 (0, 0)) := ⟨_, rfl⟩
  have hz : w1.heap.size = w.heap.size + 1 := by rw [hw1]; simp
  have hg1 : w1.heap[w.heap.size]? = some (.cells [Value.int .i64 0, .slice none 0 0, .int .i64 0, .int .i64 0, .int .i64 0, .int .i64 0].toArray 36 (0, 0)) := by rw [hw1]; exact heap_alloc_new w _
  have hB1 : Below w.heap.size w w1 := by rw [hw1]; exact (Below.refl _ w).alloc (Nat.le_refl _) _
  have HB : Hid (∀ V, Below w1.heap.size w1 V → Below w.heap.size w V) := fun V hV => hB1.trans (hV.mono (by omega))
  have HRes : Hid (∀ V, Below w1.heap.size w1 V → V.heap[w.heap.size]? = some (.cells [Value.int .i64 0, .slice none 0 0, .int .i64 0, .int .i64 0, .int .i64 0, .int .i64 0].toArray 36 (0, 0))) := fun V hV => by rw [hV.block _ (by omega)]; exact hg1
  have HTl : Hid (∀ V, Calls Tryz.prog 23 #[.string s] V fun e w' => e = .returned (.bool (decide (20000 < s.size))) ∧ w' = V) := fun V => tooLong s V hs
  have hEp := hE.pos
  have HRd : Hid (¬ 20000 < s.size → ∀ V, Below w1.heap.size w1 V → Calls Tryz.prog 34 #[.string s] V fun e w' => ∃ v, e = .returned ((readA s).val v) ∧ OwnS w' V.heap.size v (readA s).names ∧ Below V.heap.size V w') := fun h V hV => implReadCsr s V (by omega) (hE.below (HB.out V hV) hEp)
  have HNf : Hid (¬ 20000 < s.size → (readA s).names.length ≤ 1048576 ∧ totS (readA s).names (readA s).names.length ≤ 1048576) := fun _ => readA_fit s
  have HKe : Hid ((readA s).sk = (readA s).key) := readA_sk s
  have HRn : Hid (¬ 20000 < s.size → csrR s = _) := fun h => csrR_short h
  have hkp := hw.pos
  have HKy : Hid (∀ V, Below w1.heap.size w1 V → Keys V) := fun V hV => hw.below (HB.out V hV) hkp
  have H4 : Hid (∀ V, Below w1.heap.size w1 V → Err4 V) := fun V hV => by
    obtain ⟨b1, b2, b0, b3, e1, e2, e0, e3, n⟩ := h4
    have hb := HB.out V hV
    exact ⟨b1, b2, b0, b3, e1.keep hb, e2.keep hb, e0.keep hb, e3.keep hb, n⟩
  clear h4 hE hw hkp hEp
  obtain ⟨R, hR⟩ : ∃ R, R = csrR s := ⟨_, rfl⟩
  rw [← hR]
  have HR : Hid (R = csrR s) := hR
  have I1 : Hid (Below w1.heap.size w1 w1) := Below.refl _ _
  have Z1 : Hid (w1.heap.size = w.heap.size + 1) := hz
  clear hR hg1 hB1 hz
  go_enter Tryz.func12, Tryz.ntmps12
  go_upto_region 1 with fail
  rw [← hw1]
  clear hw1
  go_wp2_with fail
  refine (HTl.out _).mono ?_
  rintro e w2 ⟨rfl, rfl⟩
  by_cases hl : 20000 < s.size
  · have HF : Hid (R = (zeroA, 2)) := by show _ = _; rw [HR.out, csrR, if_pos hl]
    have hd : decide (20000 < s.size) = true := decide_eq_true hl
    rw [hd]
    go_wp2_with (refine wpList_store_row rfl 36 _ _ rfl (w.heap.size) _ [Value.int .i64 0, .slice none 0 0, .int .i64 0, .int .i64 0, .int .i64 0, .int .i64 2] 36 rfl rfl (HRes.out _ I1.out) rfl sizeCsrOut (by simp [Value.oneCell']) ?_)
    intro w8 hrow ho hs8 hbb
    have HROW : Hid _ := hrow
    have HB8 : Hid (Below w.heap.size w w8) := hbb _ _ (by omega) (HB.out _ I1.out)
    clear ho hs8 hbb hrow
    go_wp2
    refine bodyPost_ret (v := .agg [Value.int .i64 0, .slice none 0 0, .int .i64 0, .int .i64 0, .int .i64 0, .int .i64 2].toArray) ?_ rfl ⟨.slice none 0 0, by rw [HF.out]; rfl, by rw [HF.out]; exact ownS_nil _ _, HB8.out⟩
    have hl3 := run_loadVar_mid (P := Tryz.prog) _ (w.heap.size) 0 36 _ _ (rangeRow HROW.out) Tryz.underlying36 rfl sizeCsrOut
    simp [results, Tryz.results12, asAddr, hl3]
  · have hd : decide (20000 < s.size) = false := decide_eq_false hl
    rw [hd]
    have HRd' := HRd.out hl
    have HNf' := HNf.out hl
    have HRn' := HRn.out hl
    rw [← HR.out] at HRn'
    clear HRd HNf HRn
    obtain ⟨c, hc⟩ : ∃ c, c = readA s := ⟨_, rfl⟩
    rw [← hc] at HRd' HNf' HRn' HKe
    have HRd : Hid (∀ V, Below w2.heap.size w2 V → Calls Tryz.prog 34 #[.string s] V fun e w' => ∃ v, e = .returned (c.val v) ∧ OwnS w' V.heap.size v c.names ∧ Below V.heap.size V w') := HRd'
    have HRn : Hid _ := HRn'
    have HNf : Hid _ := HNf'
    clear HRd' HNf' HRn' hc
    go_wp2_with fail
    refine (HRd.out _ I1.out).mono ?_
    rintro e w3 ⟨v, rfl, o3, b3⟩
    obtain ⟨va, vc, rfl, _⟩ := OwnS.form o3
    have O3 : Hid (OwnS w3 (w.heap.size + 1) (.slice va c.names.length vc) c.names) := o3.mono (by rw [Z1.out]; omega)
    have B3 : Hid (Below w2.heap.size w2 w3) := b3
    clear o3 b3
    have HIs : Hid (∀ V, Below w3.heap.size w3 V → IsStrs V va c.names) := fun V hV => O3.out.strs.keep hV
    obtain ⟨key, names, sk, se, ss⟩ := c
    obtain rfl : sk = key := HKe.out
    unfold Ask.val
    simp only at HIs O3 HNf ⊢
    obtain ⟨w4, hw4⟩ : ∃ y, y = w3.alloc (.cells #[.int .i64 sk, .slice va names.length vc, .int .i64 sk, .int .i64 se, .int .i64 ss] 34 (0, 0)) := ⟨_, rfl⟩
    have b4 : Below w3.heap.size w3 w4 := by rw [hw4]; exact (Below.refl _ w3).alloc (Nat.le_refl _) _
    have g4 : w4.heap[w3.heap.size]? = some (.cells [Value.int .i64 sk, .slice va names.length vc, .int .i64 sk, .int .i64 se, .int .i64 ss].toArray 34 (0, 0)) := by rw [hw4]; exact heap_alloc_new w3 _
    have B4 : Hid (Below w3.heap.size w3 w4) := b4
    have B4' : Hid (Below w3.heap.size w3 w4) := b4
    have G4 : Hid _ := g4
    have HBx := boxCsr ⟨sk, names, sk, se, ss⟩ va vc w4 HNf.out.1 HNf.out.2 (HIs.out _ b4)
    obtain ⟨D, hD⟩ : ∃ D, D = askE ⟨sk, names, sk, se, ss⟩ := ⟨_, rfl⟩
    have HDz : Hid (D.size ≤ 255) := by show _ ≤ _; rw [hD]; exact askE_size _
    rw [← hD] at HBx HRn
    unfold Ask.val Ask.box at HBx
    simp only at HBx HRn
    have HBX : Hid (Calls Tryz.prog 35 #[.agg #[.int .i64 sk, .slice va names.length vc, .int .i64 sk, .int .i64 se, .int .i64 ss]] w4 fun e w' => ∃ g, e = .returned (.agg #[.int .i64 sk, .slice va names.length vc, .int .i64 sk, .int .i64 se, .int .i64 ss, .string D, .int .i64 sk, .int .i64 se, .int .i64 ss, .slice (some ⟨g, 0, none⟩) 2 2]) ∧ Row2 se ss w' g ∧ Below w4.heap.size w4 w') := HBx
    have HLa : Hid (∀ V g E E0 tE pE, E = .iface tE pE → Row2 se ss V g → V.cell? ⟨3, 0, none⟩ = some E → V.cell? ⟨1, 0, none⟩ = some E0 → Calls Tryz.prog 36 #[.agg #[.int .i64 sk, .slice va names.length vc, .int .i64 sk, .int .i64 se, .int .i64 ss, .string D, .int .i64 sk, .int .i64 se, .int .i64 ss, .slice (some ⟨g, 0, none⟩) 2 2], .string s] V fun r w' => r = .returned (if (decide (D.size ≠ 0) && sigRB sk se ss) = true then (if seqD (D ++ thingD 3 (numsD [se, ss] 2)) = s then .nilIface else E0) else E) ∧ Below V.heap.size V w') := fun V g E E0 tE pE h1 h2 h3 h5 => laidAsCsr ⟨sk, names, sk, se, ss⟩ _ D s g E E0 tE pE h1 V (by have := HDz.out; omega) h2 h3 h5
    have HSw : Hid (∀ V g E E0 E2 tE pE, E = .iface tE pE → Keys V → V.cell? ⟨3, 0, none⟩ = some E → V.cell? ⟨0, 0, none⟩ = some E0 → V.cell? ⟨2, 0, none⟩ = some E2 → Calls Tryz.prog 37 #[.agg #[.int .i64 sk, .slice va names.length vc, .int .i64 sk, .int .i64 se, .int .i64 ss, .string D, .int .i64 sk, .int .i64 se, .int .i64 ss, .slice (some ⟨g, 0, none⟩) 2 2], .int .i64 sk] V fun r w' => r = .returned (if (decide (D.size ≠ 0) && sigRB sk se ss) = true then (if sk = sk then (if sigCB sk se ss D = true then .nilIface else E0) else E2) else E) ∧ Below V.heap.size V w') := fun V g E E0 E2 tE pE h1 h2 h3 h5 h6 => signedWithCsr ⟨sk, names, sk, se, ss⟩ _ _ D sk E E0 E2 tE pE h1 V (by have := HDz.out; omega) h2 h3 h5 h6
    have K4 : Hid (Below w2.heap.size w2 w4) := B3.out.trans (b4.mono B3.out.size)
    clear HBx hD b4 HNf HIs HDz HKe B4
    have d0 := rowFacts g4 0 _ rfl
    have d1 := rowFacts g4 1 _ rfl
    have d2 := rowFacts g4 2 _ rfl
    have d3 := rowFacts g4 3 _ rfl
    have d4 := rowFacts g4 4 _ rfl
    clear g4
    go_upto_region 4 with fail
    rw [← hw4]
    clear hw4
    go_wp2_with fail
    refine HBX.out.mono ?_
    rintro e w5 ⟨g, rfl, r5, b5⟩
    clear d0 d1 d2 d3 d4
    have K5 : Hid (Below w2.heap.size w2 w5) := K4.out.trans (b5.mono K4.out.size)
    obtain ⟨w6, hw6⟩ : ∃ y, y = w5.alloc (.cells #[.int .i64 sk, .slice va names.length vc, .int .i64 sk, .int .i64 se, .int .i64 ss, .string D, .int .i64 sk, .int .i64 se, .int .i64 ss, .slice (some ⟨g, 0, none⟩) 2 2] 57 (0, 0)) := ⟨_, rfl⟩
    have b6 : Below w5.heap.size w5 w6 := by rw [hw6]; exact (Below.refl _ w5).alloc (Nat.le_refl _) _
    have g6 : w6.heap[w5.heap.size]? = some (.cells [Value.int .i64 sk, .slice va names.length vc, .int .i64 sk, .int .i64 se, .int .i64 ss, .string D, .int .i64 sk, .int .i64 se, .int .i64 ss, .slice (some ⟨g, 0, none⟩) 2 2].toArray 57 (0, 0)) := by rw [hw6]; exact heap_alloc_new w5 _
    have K6 : Hid (Below w2.heap.size w2 w6) := K5.out.trans (b6.mono K5.out.size)
    have c6 : w6.heap[w3.heap.size]? = some (.cells [Value.int .i64 sk, .slice va names.length vc, .int .i64 sk, .int .i64 se, .int .i64 ss].toArray 34 (0, 0)) := by
      rw [b6.block _ (by have := heap_lt G4.out; have := b5.size; omega), b5.block _ (heap_lt G4.out)]
      exact G4.out
    have q6 : Row2 se ss w6 g := r5.keep b6
    have o6 : OwnS w6 (w.heap.size + 1) (.slice va names.length vc) names := O3.out.keep ((B4'.out.trans (b5.mono B4'.out.size)).trans (b6.mono (by have := B4'.out.size; have := b5.size; omega)))
    have Q6 : Hid (Row2 se ss w6 g) := q6
    have O6 : Hid (OwnS w6 (w.heap.size + 1) (.slice va names.length vc) names) := o6
    have G6 : Hid _ := g6
    have C6 : Hid _ := c6
    have d0 := rowFacts g6 0 _ rfl
    have d1 := rowFacts g6 1 _ rfl
    have d2 := rowFacts g6 2 _ rfl
    have d3 := rowFacts g6 3 _ rfl
    have d4 := rowFacts g6 4 _ rfl
    have d5 := rowFacts g6 5 _ rfl
    have d6 := rowFacts g6 6 _ rfl
    have d7 := rowFacts g6 7 _ rfl
    have d8 := rowFacts g6 8 _ rfl
    have d9 := rowFacts g6 9 _ rfl
    clear b5 r5 b6 g6 c6 q6 o6 HBX O3 K4 G4 K5
    go_upto_region 5 with fail
    rw [← hw6]
    clear hw6
    obtain ⟨b1, b2, b0, b3, e1, e2, e0, e3, n10, n30⟩ := H4.out w6 K6.out
    go_wp2_with fail
    refine (HLa.out w6 g _ _ _ _ rfl Q6.out e1.1 e3.1).mono ?_
    rintro e w7 ⟨rfl, b7⟩
    clear d0 d1 d2 d3 d4 d5 d6 d7 d8 d9
    have K7 : Hid (Below w2.heap.size w2 w7) := K6.out.trans (b7.mono K6.out.size)
    have E1 := e1.keep b7
    have E2 := e2.keep b7
    have E0 := e0.keep b7
    have E3 := e3.keep b7
    have G7 : Hid _ := (b7.block _ (heap_lt G6.out)).trans G6.out
    have C7 : Hid _ := (b7.block _ (heap_lt C6.out)).trans C6.out
    have O7 : Hid (OwnS w7 (w.heap.size + 1) (.slice va names.length vc) names) := O6.out.keep b7
    clear e1 e2 e0 e3 b7 Q6 G6 C6 O6 K6 HLa
    by_cases hP : (decide (D.size ≠ 0) && sigRB sk se ss) = true ∧ seqD (D ++ thingD 3 (numsD [se, ss] 2)) = s
    · have hR := HRn.out
      rw [if_pos hP] at hR
      rw [if_pos hP.1, if_pos hP.2]
      have HR' : Hid _ := hR
      have HS' : Hid (Calls Tryz.prog 37 #[.agg #[.int .i64 sk, .slice va names.length vc, .int .i64 sk, .int .i64 se, .int .i64 ss, .string D, .int .i64 sk, .int .i64 se, .int .i64 ss, .slice (some ⟨g, 0, none⟩) 2 2], .int .i64 sk] w7 fun r w' => r = .returned (if sigCB sk se ss D = true then .nilIface else errAt b0) ∧ Below w7.heap.size w7 w') := (HSw.out w7 g _ _ _ _ _ rfl (HKy.out _ K7.out) E1.1 E0.1 E2.1).mono fun e W h => by
        rw [if_pos hP.1] at h
        simpa [errAt] using h
      clear HSw hR hP HRn
      have d0 := rowFacts G7.out 0 _ rfl
      have d1 := rowFacts G7.out 1 _ rfl
      have d2 := rowFacts G7.out 2 _ rfl
      have d3 := rowFacts G7.out 3 _ rfl
      have d4 := rowFacts G7.out 4 _ rfl
      have d5 := rowFacts G7.out 5 _ rfl
      have d6 := rowFacts G7.out 6 _ rfl
      have d7 := rowFacts G7.out 7 _ rfl
      have d8 := rowFacts G7.out 8 _ rfl
      have d9 := rowFacts G7.out 9 _ rfl
      have f0 := rowFacts C7.out 0 _ rfl
      have n0 := E0
      clear E1 E2 E3 E0
      go_wp2_with fail
      refine Calls.mono HS'.out ?_
      rintro e w9 ⟨rfl, b9⟩
      clear d0 d1 d2 d3 d4 d5 d6 d7 d8 d9 f0
      have k0 := (n0.keep b9).1
      have K9 : Hid (Below w2.heap.size w2 w9) := K7.out.trans (b9.mono K7.out.size)
      have G9 : Hid _ := (b9.block _ (heap_lt G7.out)).trans G7.out
      have O9 : Hid (OwnS w9 (w.heap.size + 1) (.slice va names.length vc) names) := O7.out.keep b9
      clear b9 n0 HS' C7 G7 O7
      cases hq : sigCB sk se ss D with
      | false =>
        have HF : Hid (R = (zeroA, 6)) := by show _ = _; rw [HR'.out, hq]; simp
        have HIs : Hid (Calls Tryz.prog 38 #[errAt b0, errAt b0] w9 fun e w' => e = .returned (.bool true) ∧ w' = w9) := isE_same b0 w9
        clear hq HR'
        unfold errAt at HIs ⊢
        simp only [Bool.false_eq_true, if_false]
        go_wp2_with fail
        refine Calls.mono HIs.out ?_
        rintro e w10 ⟨rfl, h10⟩
        subst h10
        go_wp2_with (refine wpList_store_row rfl 36 _ _ rfl (w.heap.size) _ [Value.int .i64 0, .slice none 0 0, .int .i64 0, .int .i64 0, .int .i64 0, .int .i64 6] 36 rfl rfl (HRes.out _ K9.out) rfl sizeCsrOut (by simp [Value.oneCell']) ?_)
        intro w8 hrow ho hs8 hbb
        have HROW : Hid _ := hrow
        have HB8 : Hid (Below w.heap.size w w8) := hbb _ _ (by omega) (HB.out _ K9.out)
        clear ho hs8 hbb hrow
        go_wp2
        refine bodyPost_ret (v := .agg [Value.int .i64 0, .slice none 0 0, .int .i64 0, .int .i64 0, .int .i64 0, .int .i64 6].toArray) ?_ rfl ⟨.slice none 0 0, by rw [HF.out]; rfl, by rw [HF.out]; exact ownS_nil _ _, HB8.out⟩
        have hl3 := run_loadVar_mid (P := Tryz.prog) _ (w.heap.size) 0 36 _ _ (rangeRow HROW.out) Tryz.underlying36 rfl sizeCsrOut
        simp [results, Tryz.results12, asAddr, hl3]
      | true =>
        have HF : Hid (R = (⟨sk, names, sk, se, ss⟩, 0)) := by show _ = _; rw [HR'.out, hq]; simp
        have HIs : Hid (Calls Tryz.prog 38 #[.nilIface, errAt b0] w9 fun e w' => e = .returned (.bool false) ∧ w' = w9) := isE_nil b0 w9
        clear hq HR'
        unfold errAt at HIs
        simp only [if_true]
        have d0 := rowFacts G9.out 0 _ rfl
        have d1 := rowFacts G9.out 1 _ rfl
        have d2 := rowFacts G9.out 2 _ rfl
        have d3 := rowFacts G9.out 3 _ rfl
        have d4 := rowFacts G9.out 4 _ rfl
        have d5 := rowFacts G9.out 5 _ rfl
        have d6 := rowFacts G9.out 6 _ rfl
        have d7 := rowFacts G9.out 7 _ rfl
        have d8 := rowFacts G9.out 8 _ rfl
        have d9 := rowFacts G9.out 9 _ rfl
        go_wp2_with fail
        refine Calls.mono HIs.out ?_
        rintro e w10 ⟨rfl, h10⟩
        subst h10
        go_wp2_with (refine wpList_store_row rfl 36 _ _ rfl (w.heap.size) _ [Value.int .i64 sk, .slice va names.length vc, .int .i64 sk, .int .i64 se, .int .i64 ss, .int .i64 0] 36 rfl rfl (HRes.out _ K9.out) rfl sizeCsrOut (by simp [Value.oneCell']) ?_)
        intro w8 hrow ho hs8 hbb
        have HROW : Hid _ := hrow
        have HB8 : Hid (Below w.heap.size w w8) := hbb _ _ (by omega) (HB.out _ K9.out)
        have O8 : Hid (OwnS w8 (w.heap.size + 1) (.slice va names.length vc) names) := O9.out.same fun b h1 h2 => ho b (by omega)
        clear ho hs8 hbb hrow d0 d1 d2 d3 d4 d5 d6 d7 d8 d9
        go_wp2
        refine bodyPost_ret (v := .agg [Value.int .i64 sk, .slice va names.length vc, .int .i64 sk, .int .i64 se, .int .i64 ss, .int .i64 0].toArray) ?_ rfl ⟨.slice va names.length vc, by rw [HF.out]; rfl, by rw [HF.out]; exact O8.out.mono (by omega), HB8.out⟩
        have hl3 := run_loadVar_mid (P := Tryz.prog) _ (w.heap.size) 0 36 _ _ (rangeRow HROW.out) Tryz.underlying36 rfl sizeCsrOut
        simp [results, Tryz.results12, asAddr, hl3]
    · have HF : Hid (R = (zeroA, 3)) := by show _ = _; rw [HRn.out, if_neg hP]
      obtain ⟨b, hb, hne, hrw⟩ : ∃ b, (if (decide (D.size ≠ 0) && sigRB sk se ss) = true then (if seqD (D ++ thingD 3 (numsD [se, ss] 2)) = s then Value.nilIface else .iface 246 (.pointer (some b3))) else .iface 246 (.pointer (some b1))) = errAt b ∧ b ≠ b0 ∧ ∃ c t, w7.heap[b.block]? = some (.cells c t (0, 0)) := by
        by_cases h1 : (decide (D.size ≠ 0) && sigRB sk se ss) = true
        · rw [if_pos h1, if_neg (fun h => hP ⟨h1, h⟩)]
          exact ⟨b3, rfl, n30, E3.2⟩
        · rw [if_neg h1]
          exact ⟨b1, rfl, n10, E1.2⟩
      rw [hb]
      have HIs := isE_other b b0 w7 hne hrw E0.2
      have k0 := E0.1
      clear hP hb hne hrw HRn HSw E1 E2 E3
      unfold errAt at HIs ⊢
      have HIs' : Hid _ := HIs
      clear HIs
      go_wp2_with fail
      refine Calls.mono HIs'.out ?_
      rintro e w9 ⟨rfl, h9⟩
      subst h9
      go_wp2_with (refine wpList_store_row rfl 36 _ _ rfl (w.heap.size) _ [Value.int .i64 0, .slice none 0 0, .int .i64 0, .int .i64 0, .int .i64 0, .int .i64 3] 36 rfl rfl (HRes.out _ K7.out) rfl sizeCsrOut (by simp [Value.oneCell']) ?_)
      intro w8 hrow ho hs8 hbb
      have HROW : Hid _ := hrow
      have HB8 : Hid (Below w.heap.size w w8) := hbb _ _ (by omega) (HB.out _ K7.out)
      clear ho hs8 hbb hrow
      go_wp2
      refine bodyPost_ret (v := .agg [Value.int .i64 0, .slice none 0 0, .int .i64 0, .int .i64 0, .int .i64 0, .int .i64 3].toArray) ?_ rfl ⟨.slice none 0 0, by rw [HF.out]; rfl, by rw [HF.out]; exact ownS_nil _ _, HB8.out⟩
      have hl3 := run_loadVar_mid (P := Tryz.prog) _ (w.heap.size) 0 36 _ _ (rangeRow HROW.out) Tryz.underlying36 rfl sizeCsrOut
      simp [results, Tryz.results12, asAddr, hl3]
end Go.Proofs.YtekflbicjokdnaaGreatDoor
namespace Go.Proofs.YtekflbicjokdnaaGreatDoor
open Go.RowKit

theorem readA_back {c : Ask} (h : formB c = true) : readA (askY c) = c := by
  obtain ⟨a1, a2, a3, a4, a5, n1, n2, _, _, b1⟩ := ask_back h
  have hk := form_key h
  unfold readA
  simp only [a1, a2, a3, a4, a5, n1, n2, b1, List.getD_cons_zero, List.getD_cons_succ]
  cases c
  simp only at hk ⊢
  rw [hk]
end Go.Proofs.YtekflbicjokdnaaGreatDoor
namespace Go.Proofs.YtekflbicjokdnaaGreatDoor
open Go.RowKit

theorem own_sliceW {w : World} {B e n : Nat} {v : Value} {xs : List Value} (h : w.ownsRow B e 1 v n xs) (hn : 0 < n) : ∃ g cap, v = .slice (some ⟨g, 0, none⟩) n cap := by
  rcases h.2 with ⟨_, h'⟩ | ⟨g, cap, _, h', _⟩
  · omega
  · exact ⟨g, cap, h'⟩
def sLenW : Value → Nat
  | .slice _ n _ => n
  | _ => 0
set_option maxHeartbeats 1000000 in
set_option maxRecDepth 100000 in
theorem specSeven (x : Nat) (w : World) (hx : x < 9223372036854775808) :
    Calls Tryz.prog 145 #[.int .i64 (x : Int)] w fun e w' => e = .returned (.string (strOfNums (sevL x))) ∧ Below w.heap.size w w' := by
  obtain ⟨i0, hi, hz0, hz1, hz2⟩ := info_parts infoByte
  go_enter Tryz.func145, Tryz.ntmps145
  go_wp2_with fail
  go_loopw [0, 3] (fun n b wr => ∃ (y f g c : Nat) (tl : List Int), y < 128 ^ f ∧ y < 9223372036854775808 ∧ f + tl.length ≤ 9 ∧ n = .int .i64 (y : Int) ∧ b = .slice (some ⟨g, 0, none⟩) (tl.length + 1) c ∧
      wr.ownsRow w.heap.size 5 1 (.slice (some ⟨g, 0, none⟩) (tl.length + 1) c) (tl.length + 1) ((tl ++ [((x % 128 : Nat) : Int)]).map (Value.int .u8)) ∧ Below w.heap.size w wr ∧ w.heap.size ≤ wr.heap.size ∧ sevH f y ++ (tl ++ [((x % 128 : Nat) : Int)]) = sevL x)
    (fun _ b _ => 20 - sLenW b)
  case atStart =>
    refine ⟨x / 128, 9, _, 1, [], by rw [p9]; omega, by omega, by simp, by simp, rfl, ?_, (Below.refl _ _).alloc (Nat.le_refl _) _, by simp, by simp [sevL]⟩
    have := World.ownsRow_lit (base := w.heap.size) (e := 5) (size := 1) w #[.int .u8 ((x : Int) % 128)] 1 (Nat.le_refl _) (by decide) rfl
    simpa using this
  case round =>
    obtain ⟨y, f, g, c, tl, hf, hy, hlen, rfl, rfl, hown, hbel, hsz, heq⟩ := hrel
    have HE : Hid (sevH f y ++ (tl ++ [((x % 128 : Nat) : Int)]) = sevL x) := heq
    have HF : Hid (y < 128 ^ f) := hf
    generalize hz : ((x % 128 : Nat) : Int) = z at *
    clear heq hf
    by_cases h0 : y = 0
    · have HS : Hid (sevL x = tl ++ [z]) := by
        show _ = _
        rw [← HE.out, h0, sevH_zero]; rfl
      have hcv := run_convert_own (P := Tryz.prog) (src := 137) (dst := 9) Tryz.underlying137 Tryz.underlying5 Tryz.underlying9 hown
      clear hown HE HF
      subst h0
      go_wp2
      go_ret
      exact ⟨by rw [HS.out]; rfl, hbel⟩
    · have HN : Hid (y ≠ 0) := h0
      have hp : 0 < y := by omega
      have HSRC : Hid (∀ j u, ((tl ++ [z]).map (Value.int .u8))[j]? = some u → wr.cell? ⟨g, j, none⟩ = some u) := fun j u hj => by
        rw [hown.cellAt j (by
          rcases Nat.lt_or_ge j (tl.length + 1) with h | h
          · omega
          · rw [List.getElem?_eq_none (by simpa using h)] at hj; cases hj)]
        exact hj
      clear h0
      have hlt := (hown.lt g rfl).2
      go_wp2_with (at_builtin; refine wpList_append_own _ rfl _ _ 137 rfl w.heap.size 5 i0 (.int .u8 0) 1 1 Tryz.underlying137 hi hz0 hz1 hz2 rfl (by decide) _ 1 _ rfl (World.ownsRow_lit _ _ 1 hsz (by decide) rfl) ⟨g, 0, none⟩ (tl.length + 1) c ((tl ++ [z]).map (Value.int .u8)) rfl (by simp) ?c1 ?c2 ?c3 ?c4 ?c5 ?_)
      case c1 =>
        intro j u hj
        rw [Addr.add_lit, Nat.zero_add, World.cell?_alloc_lt _ _ ⟨g, j, none⟩ hlt]
        exact HSRC.out j u hj
      case c2 => intro u hu; exact oneCell_ints .u8 _ u hu
      case c3 => unfold maxLen; omega
      case c4 => omega
      case c5 => simp; omega
      intro v' w1 hown' hgrow hx'
      obtain ⟨g', cap, rfl⟩ := own_sliceW hown' (by omega)
      have hb1 : Below w.heap.size w w1 := (hbel.alloc hsz _).grown hgrow (by simp; omega) (fun k hk => (World.ownsRow_lit (base := w.heap.size) (e := 5) (size := 1) wr #[.int .u8 0] 1 hsz (by decide) rfl).lt k hk |>.1)
      have hs1 : w.heap.size ≤ w1.heap.size := hb1.size
      have HO : Hid (w1.ownsRow w.heap.size 5 1 (.slice (some ⟨g', 0, none⟩) ((((y % 128 + 128 : Nat) : Int) :: tl).length + 1) cap) ((((y % 128 + 128 : Nat) : Int) :: tl).length + 1) (((((y % 128 + 128 : Nat) : Int) :: tl) ++ [z]).map (Value.int .u8))) := by
        show World.ownsRow _ _ _ _ _ _ _
        have e1 : 1 + (tl.length + 1) = (((y % 128 + 128 : Nat) : Int) :: tl).length + 1 := by simp; omega
        rw [e1] at hown'
        have e2 : (128 : Int) + (y : Int) % 128 = (y : Int) % 128 + 128 := by omega
        simpa [e2] using hown'
      have hw : 1 + (tl.length + 1) = (((y % 128 + 128 : Nat) : Int) :: tl).length + 1 := by simp; omega
      rw [hw]
      clear hown' hgrow hx' hown hbel hlt HSRC hz
      go_wp2
      go_roundw
      case rel =>
        obtain ⟨f', rfl, hf', he⟩ := sevH_more HN.out HF.out
        refine ⟨y / 128, f', g', cap, ((y % 128 + 128 : Nat) : Int) :: tl, hf', by omega, by simp; omega, by simp, rfl, HO.out, hb1, hs1, ?_⟩
        rw [← HE.out, he]; simp
      case measure => simp [sLenW]; omega
end Go.Proofs.YtekflbicjokdnaaGreatDoor
namespace Go.Proofs.YtekflbicjokdnaaGreatDoor
open Go.RowKit

theorem arcs_nat {zs : List Int} (h : arcsB zs = true) (i : Nat) (h2 : 2 ≤ i) (hi : i < zs.length) : ∃ x : Nat, zs.getD i 0 = (x : Int) ∧ x ≤ 2147483647 := by
  have := (arcsB_iff.1 h).2.2.2.2.2.2 i h2 hi
  exact ⟨(zs.getD i 0).toNat, by omega, by omega⟩
set_option maxHeartbeats 1000000 in
set_option maxRecDepth 100000 in
theorem specOid (a : Option Addr) (zs : List Int) (c : Nat) (w : World) (hr : arcsB zs = true) (ha : IsInts w a zs) :
    Calls Tryz.prog 107 #[.slice a zs.length c] w fun e w' => e = .returned (.string (thingD 6 (strOfNums (oidL zs)))) ∧ Below w.heap.size w w' := by
  obtain ⟨r2, r10, r0, r0', r1, r1', _⟩ := arcsB_iff.1 hr
  have hm2 : most2 (zs.getD 0 0) ≤ 100 := by unfold most2; split <;> omega
  have hlt := ha.lt
  obtain ⟨b, o, rfl, hc⟩ := ha.at (by intro h; rw [h] at r2; simp at r2)
  have hbw : b < w.heap.size := by
    rcases hlt with h | h
    · rw [h] at r2; simp at r2
    · exact h _ rfl
  have c0 := hc 0 (by omega)
  have c1 := hc 1 (by omega)
  rw [Nat.add_zero] at c0
  have HI : Hid (∀ W, Below w.heap.size w W → ∀ i, i < zs.length → W.cell? ⟨b, o + i, none⟩ = some (.int .i64 (zs.getD i 0))) := fun W hW i hi => by
    rw [hW.cell (p := ⟨b, o + i, none⟩) hbw]; exact hc i hi
  obtain ⟨y, hy⟩ : ∃ y : Nat, y = (40 * zs.getD 0 0 + zs.getD 1 0).toNat := ⟨_, rfl⟩
  have H0 : Hid (oidTo zs 0 = sevL y) := by rw [hy]; rfl
  have hyi : 40 * zs.getD 0 0 + zs.getD 1 0 = (y : Int) := by omega
  have hy2 : y ≤ 180 := by omega
  obtain ⟨n, hn⟩ : ∃ n, n = zs.length := ⟨_, rfl⟩
  have HL : Hid (oidL zs = oidTo zs (n - 2)) := by rw [hn]; rfl
  have HLen : Hid (∀ k, k + 2 ≤ n → (strOfNums (oidTo zs k)).size ≤ 45) := fun k hk => by
    rw [strOfNums_size]
    have := oidTo_len hr k (by omega)
    omega
  have HN : Hid (∀ i, 2 ≤ i → i < n → ∃ x : Nat, zs.getD i 0 = (x : Int) ∧ x ≤ 2147483647) := fun i h1 h2 => arcs_nat hr i h1 (by omega)
  rw [← hn] at HI r2 r10 ⊢
  generalize zs.getD 0 0 = x0 at *
  generalize zs.getD 1 0 = x1 at *
  clear hc ha hr hlt hn hy
  go_enter Tryz.func107, Tryz.ntmps107
  go_wp2_with fail
  have ew1 : IntKind.i64.wrap (40 * x0) = 40 * x0 := by rw [IntKind.wrap_i64]; omega
  have ew2 : IntKind.i64.wrap (y : Int) = (y : Int) := by rw [IntKind.wrap_i64]; omega
  have i0 : (0 : Int) < (n : Int) := by omega
  have i1 : (1 : Int) < (n : Int) := by omega
  have j0 : 0 < n := by omega
  have j1 : 1 < n := by omega
  have HT : Hid (∀ V : World, Hid (Below w.heap.size w V) → Calls Tryz.prog 145 #[.int .i64 (y : Int)] V fun e W => e = .returned (.string (strOfNums (sevL y))) ∧ Hid (Below w.heap.size w W) ∧ W.cell? ⟨b, o, none⟩ = some (.int .i64 x0) ∧ W.cell? ⟨b, o + 1, none⟩ = some (.int .i64 x1)) := fun V hV => by
    refine (specSeven y V (by omega)).mono ?_
    rintro e W ⟨rfl, hW⟩
    have hB := hV.out.trans (hW.mono hV.out.size)
    exact ⟨rfl, hB, by rw [hB.cell (p := ⟨b, o, none⟩) hbw]; exact c0, by rw [hB.cell (p := ⟨b, o + 1, none⟩) hbw]; exact c1⟩
  have HD : Hid (Below w.heap.size w w.drew) := (Below.refl _ w).drew
  go_region_held3 (fun V => V.cell? ⟨b, o, none⟩ = some (.int .i64 x0) ∧ V.cell? ⟨b, o + 1, none⟩ = some (.int .i64 x1)) (first | exact ⟨k0, k1⟩ | go_keep)
    (first | (go_at_call 145; refine (HT.out _ (by assumption)).mono ?_; rintro r w1 ⟨rfl, kk, k0, k1⟩))
  have hb1 := kk.out
  clear kk HD HT k0 k1 ew1 ew2 i0 i1 j0 j1 c0 c1
  go_wp2_with fail
  go_loopw [3, 4] (fun t i wr => ∃ k : Nat, k + 2 ≤ n ∧ t = .string (strOfNums (oidTo zs k)) ∧ i = .int .i64 ((k : Int) + 2) ∧ Below w.heap.size w wr ∧ w.heap.size ≤ wr.heap.size)
    (fun _ i _ => n - (intOf i).toNat)
  case atStart => exact ⟨0, by omega, by rw [H0.out], rfl, hb1, hb1.size⟩
  case round =>
    obtain ⟨k, hk, rfl, rfl, hbr, hsr⟩ := hrel
    have hls := HLen.out k hk
    by_cases hlt : k + 2 < n
    · have ck := HI.out wr hbr (k + 2) hlt
      obtain ⟨x, hx, hxm⟩ := HN.out (k + 2) (by omega) hlt
      rw [hx] at ck
      have HS : Hid (strOfNums (oidTo zs (k + 1)) = strOfNums (oidTo zs k) ++ strOfNums (sevL x)) := by
        show _ = _
        rw [oidTo, strOfNums_append, hx]; rfl
      have hls2 := HLen.out (k + 1) (by omega)
      have hsz : (strOfNums (oidTo zs k) ++ strOfNums (sevL x)).size ≤ 45 := by rw [← HS.out]; exact hls2
      have HSv : Hid (∀ V : World, Calls Tryz.prog 145 #[.int .i64 (x : Int)] V fun e w' => e = .returned (.string (strOfNums (sevL x))) ∧ Below V.heap.size V w') := fun V => specSeven x V (by omega)
      have hsx : (strOfNums (sevL x)).size ≤ 45 := by rw [ByteArray.size_append] at hsz; omega
      generalize strOfNums (oidTo zs k) = t at *
      generalize strOfNums (sevL x) = u at *
      go_wp2_with fail
      refine (HSv.out _).mono ?_
      rintro e w2 ⟨rfl, hb2⟩
      have HB2 : Hid (Below w.heap.size w w2) := hbr.trans (hb2.mono hsr)
      clear hb2 hbr ck
      go_wp2_with fail
      go_roundw
      case rel => exact ⟨k + 1, by omega, by rw [HS.out], by go_num, HB2.out, HB2.out.size⟩
      case measure => simp [intOf]; omega
    · obtain rfl : n = k + 2 := by omega
      have HL2 : Hid (∀ V : World, Calls Tryz.prog 79 #[.int .i64 6, .string (strOfNums (oidTo zs k))] V fun e w' => e = .returned (.string (thingD 6 (strOfNums (oidL zs)))) ∧ Below V.heap.size V w') := fun V => by
        have h := specThing 6 (strOfNums (oidTo zs k)) V (by decide) (by decide) (by omega)
        rw [HL.out, show k + 2 - 2 = k from by omega]
        exact h
      generalize strOfNums (oidTo zs k) = t at *
      go_wp2_with fail
      refine (HL2.out _).mono ?_
      rintro e w2 ⟨rfl, hb2⟩
      go_wp2_with fail
      go_ret
      exact ⟨rfl, hbr.trans (hb2.mono hsr)⟩
end Go.Proofs.YtekflbicjokdnaaGreatDoor
