/- impl.Base64Read, walked. errors.As at the target '*impl.byteFault', by its contracts: a nil error: false; an error that is a byteFault: true, and the target is set. After the guide's worked example. -/
import Derived.Test.YtmegmcngcehneaaGreatDoorJX31
import Derived.Test.YtmegmcngcehneaaGreatDoorJX32
import Derived.Test.YtmegmcngcehneaaGreatDoorJX33
import Derived.Test.YtmegmcngcehneaaGreatDoorJX35
import Derived.Test.YtmegmcngcehneaaGreatDoorJX09
import Derived.Test.YtmegmcngcehneaaGreatDoorJX11
import Derived.Test.YtmegmcngcehneaaGreatDoorRows
import Derived.WalkKit
import Derived.LaidEql
import Derived.Stop.Asserts
import Derived.RowKitTokens
namespace Go.Proofs.YtmegmcngcehneaaGreatDoor
open Go.RowKit Go.Lib

set_option linter.unusedSimpArgs false in
set_option maxHeartbeats 4000000 in
set_option maxRecDepth 100000 in
theorem implBase64Read (s : ByteArray) (w : World) (hm : s.size ≤ maxLen) :
    Calls Tryz.prog 33 #[.string s] w fun e w' => e = .returned (txtV (readTD s)) ∧ Below w.heap.size w w' := by
  obtain ⟨w1, hw1⟩ : ∃ y, y = w.alloc (.cells #[.string ⟨#[]⟩, .int .i64 0, .int .i64 0] 45 (0, 0)) := ⟨_, rfl⟩
  have hz : w1.heap.size = w.heap.size + 1 := by rw [hw1]; simp
  have hg1 : w1.heap[w.heap.size]? = some (.cells [Value.string ⟨#[]⟩, .int .i64 0, .int .i64 0].toArray 45 (0, 0)) := by rw [hw1]; exact heap_alloc_new w _
  have hB1 : Below w.heap.size w w1 := by rw [hw1]; exact (Below.refl _ w).alloc (Nat.le_refl _) _
  have HB : Hid (∀ V, Below w1.heap.size w1 V → Below w.heap.size w V) := fun V hV => hB1.trans (hV.mono (by omega))
  have HRes : Hid (∀ V, Below w1.heap.size w1 V → V.heap[w.heap.size]? = some (.cells [Value.string ⟨#[]⟩, .int .i64 0, .int .i64 0].toArray 45 (0, 0))) := fun V hV => by rw [hV.block _ (by omega)]; exact hg1
  have I1 : Hid (Below w1.heap.size w1 w1) := Below.refl _ _
  have Z1 : Hid (w1.heap.size = w.heap.size + 1) := hz
  clear hg1 hB1 hz
  have HLg : Hid (∀ V, Calls Tryz.prog 12 #[.string s] V fun e w' => e = .returned (.bool (decide (20000 < s.size))) ∧ w' = V) := fun V => tooLong s V hm
  by_cases hl : 20000 < s.size
  · have HF : Hid (readTD s = (⟨#[]⟩, 2)) := by show _ = _; rw [readTD, if_pos hl]
    rw [decide_eq_true hl] at HLg
    clear hl
    go_enter Tryz.func33, Tryz.ntmps33
    go_wp2_with fail
    rw [← hw1]
    refine (HLg.out w1).mono ?_
    rintro e w2 ⟨rfl, rfl⟩
    clear hw1
    go_wp2_with (refine wpList_store_row rfl 45 _ _ rfl (w.heap.size) _ [Value.string ⟨#[]⟩, .int .i64 0, .int .i64 2] 45 rfl rfl (HRes.out _ I1.out) rfl sizeTextOut (by simp [Value.oneCell']) ?_)
    intro w8 hrow ho hs8 hbb
    have HROW : Hid _ := hrow
    have HB8 : Hid (Below w.heap.size w w8) := hbb _ _ (Nat.le_refl _) (HB.out _ I1.out)
    clear ho hs8 hbb hrow
    go_wp2
    refine bodyPost_ret (v := .agg [Value.string ⟨#[]⟩, .int .i64 0, .int .i64 2].toArray) ?_ rfl ⟨by rw [HF.out]; rfl, HB8.out⟩
    have hl3 := run_loadVar_mid (P := Tryz.prog) _ (w.heap.size) 0 45 _ _ (rangeRow HROW.out) Tryz.underlying45 rfl sizeTextOut
    simp [results, Tryz.results33, asAddr, hl3]
  rw [decide_eq_false hl] at HLg
  have HS : Hid (∀ V, Calls Tryz.prog 53 #[.string s] V fun e w' => ∃ v, e = .returned (.tuple #[v, .bool (readV (bts s)).isSome]) ∧ OwnB w' V.heap.size v ((readV (bts s)).getD []) ∧ Below V.heap.size V w') := fun V => implReadSigns s V (by omega)
  have hE : readTD s = match readV (bts s) with
    | none => (⟨#[]⟩, 3)
    | some vs => if base64D (natT (rgi vs 0 0).1) = s then (natT (rgi vs 0 0).1, 0) else (⟨#[]⟩, 3) := by
    rw [readTD, if_neg hl]
    cases readV (bts s) <;> rfl
  cases hv : readV (bts s) with
  | none =>
    have HF : Hid (readTD s = (⟨#[]⟩, 3)) := by show _ = _; rw [hE, hv]
    rw [hv] at HS
    clear hE hv hl
    go_enter Tryz.func33, Tryz.ntmps33
    go_wp2_with fail
    rw [← hw1]
    refine (HLg.out w1).mono ?_
    rintro e w2 ⟨rfl, rfl⟩
    clear hw1
    go_wp2_with fail
    refine (HS.out _).mono ?_
    rintro e w3 ⟨v, rfl, o3, b3⟩
    have K3 : Hid (Below w2.heap.size w2 w3) := b3
    clear b3 o3
    go_wp2_with (refine wpList_store_row rfl 45 _ _ rfl (w.heap.size) _ [Value.string ⟨#[]⟩, .int .i64 0, .int .i64 3] 45 rfl rfl (HRes.out _ K3.out) rfl sizeTextOut (by simp [Value.oneCell']) ?_)
    intro w8 hrow ho hs8 hbb
    have HROW : Hid _ := hrow
    have HB8 : Hid (Below w.heap.size w w8) := hbb _ _ (Nat.le_refl _) (HB.out _ K3.out)
    clear ho hs8 hbb hrow
    go_wp2
    refine bodyPost_ret (v := .agg [Value.string ⟨#[]⟩, .int .i64 0, .int .i64 3].toArray) ?_ rfl ⟨by rw [HF.out]; rfl, HB8.out⟩
    have hl3 := run_loadVar_mid (P := Tryz.prog) _ (w.heap.size) 0 45 _ _ (rangeRow HROW.out) Tryz.underlying45 rfl sizeTextOut
    simp [results, Tryz.results33, asAddr, hl3]
  | some vs =>
  rw [hv] at HS hE
  simp only at hE
  have hvl := readV_len _ _ hv
  rw [bts_len] at hvl
  have hv64 := readV_lt _ _ hv
  have HRg : Hid (∀ V a cap, IsBts V a vs → Calls Tryz.prog 54 #[.slice a vs.length cap, .int .i64 6, .int .i64 8] V fun e w' => ∃ v, e = .returned (.tuple #[v, .int .u8 (((rgi vs 0 0).2.1 : Nat) : Int), .int .i64 (((rgi vs 0 0).2.2 : Nat) : Int)]) ∧ OwnB w' V.heap.size v (rgi vs 0 0).1 ∧ Below V.heap.size V w') := fun V a cap h => implRegroup68 vs a cap V (by omega) hv64 h
  have hrl := rgi_len vs 0 0
  obtain ⟨⟨R, RH, RC⟩, hR⟩ : ∃ R, R = rgi vs 0 0 := ⟨_, rfl⟩
  rw [← hR] at HRg hE hrl
  simp only at HRg hE hrl
  have HBa : Hid (∀ V, Calls Tryz.prog 40 #[.string (natT R)] V fun e w' => e = .returned (.string (base64D (natT R))) ∧ Below V.heap.size V w') := fun V => implBase64 (natT R) V (by rw [natT_size]; unfold maxLen; omega)
  have HE : Hid (readTD s = if base64D (natT R) = s then (natT R, 0) else (⟨#[]⟩, 3)) := hE
  clear hE hv hl hvl hv64 hR hrl hm
  go_enter Tryz.func33, Tryz.ntmps33
  go_wp2_with fail
  rw [← hw1]
  refine (HLg.out w1).mono ?_
  rintro e w2 ⟨rfl, rfl⟩
  clear hw1
  go_wp2_with fail
  refine (HS.out _).mono ?_
  rintro e w3 ⟨v, rfl, o3, b3⟩
  have K3 : Hid (Below w2.heap.size w2 w3) := b3
  have O3 : Hid (OwnB w3 w2.heap.size v vs) := o3
  clear b3 o3 HS HLg
  obtain ⟨va, vc, rfl, _⟩ := OwnB.form O3.out
  go_wp2_with fail
  refine (HRg.out w3 va vc O3.out.bts).mono ?_
  rintro e w4 ⟨y, rfl, o4, b4⟩
  have K4 : Hid (Below w2.heap.size w2 w4) := K3.out.trans (b4.mono K3.out.size)
  have hcv := run_convert_own (P := Tryz.prog) (src := 59) (dst := 9) Tryz.underlying59 Tryz.underlying5 Tryz.underlying9 o4
  have hnt : strOfNums (R.map fun x : Nat => (x : Int)) = natT R := rfl
  rw [hnt] at hcv
  clear b4 o4 O3 K3 HRg hnt
  generalize natT R = N at *
  go_wp2_with fail
  refine (HBa.out w4).mono ?_
  rintro e w5 ⟨rfl, b5⟩
  have K5 : Hid (Below w2.heap.size w2 w5) := K4.out.trans (b5.mono K4.out.size)
  clear b5 K4 HBa hcv
  generalize base64D N = BT at *
  by_cases hY : BT = s
  rotate_left
  · have HF : Hid (readTD s = (⟨#[]⟩, 3)) := by show _ = _; rw [HE.out, if_neg hY]
    have e1 : (BT.toList == s.toList) = false := by rw [same_text', decide_eq_false hY]
    have e2 : (BT.toList != s.toList) = true := by rw [bne, e1]; rfl
    go_wp2_with (refine wpList_store_row rfl 45 _ _ rfl (w.heap.size) _ [Value.string ⟨#[]⟩, .int .i64 0, .int .i64 3] 45 rfl rfl (HRes.out _ K5.out) rfl sizeTextOut (by simp [Value.oneCell']) ?_)
    intro w8 hrow ho hs8 hbb
    have HROW : Hid _ := hrow
    have HB8 : Hid (Below w.heap.size w w8) := hbb _ _ (Nat.le_refl _) (HB.out _ K5.out)
    clear ho hs8 hbb hrow
    go_wp2
    refine bodyPost_ret (v := .agg [Value.string ⟨#[]⟩, .int .i64 0, .int .i64 3].toArray) ?_ rfl ⟨by rw [HF.out]; rfl, HB8.out⟩
    have hl3 := run_loadVar_mid (P := Tryz.prog) _ (w.heap.size) 0 45 _ _ (rangeRow HROW.out) Tryz.underlying45 rfl sizeTextOut
    simp [results, Tryz.results33, asAddr, hl3]
  have HF : Hid (readTD s = (N, 0)) := by show _ = _; rw [HE.out, if_pos hY]
  have e2 : (BT.toList != s.toList) = false := by rw [bne, same_text', decide_eq_true hY]; rfl
  go_wp2_with (refine wpList_store_row rfl 45 _ _ rfl (w.heap.size) _ [Value.string N, .int .i64 0, .int .i64 0] 45 rfl rfl (HRes.out _ K5.out) rfl sizeTextOut (by simp [Value.oneCell']) ?_)
  intro w8 hrow ho hs8 hbb
  have HROW : Hid _ := hrow
  have HB8 : Hid (Below w.heap.size w w8) := hbb _ _ (Nat.le_refl _) (HB.out _ K5.out)
  clear ho hs8 hbb hrow
  go_wp2
  refine bodyPost_ret (v := .agg [Value.string N, .int .i64 0, .int .i64 0].toArray) ?_ rfl ⟨by rw [HF.out]; rfl, HB8.out⟩
  have hl3 := run_loadVar_mid (P := Tryz.prog) _ (w.heap.size) 0 45 _ _ (rangeRow HROW.out) Tryz.underlying45 rfl sizeTextOut
  simp [results, Tryz.results33, asAddr, hl3]
end Go.Proofs.YtmegmcngcehneaaGreatDoor
namespace Go.Proofs.YtmegmcngcehneaaGreatDoor
open Go.RowKit Go.Extern.Stop Go.Stop Go.Extern

theorem as_nil (t : Value) (w : World) :
    Calls Tryz.prog 56 #[.nilIface, t] w fun e w' => e = .returned (.bool false) ∧ w' = w := by
  go_enter Tryz.func56, Tryz.ntmps56
  go_wp2
  go_ret
  exact ⟨rfl, rfl⟩

theorem valueOfP (t : Addr) (w : World) : (ReflectliteValue.unpack (.iface 78 (.pointer (some t)))).run Tryz.prog w
    = .ok (.agg #[.pointer (some ⟨5, 78, none⟩), .pointer (some ⟨w.heap.size, 0, none⟩), .int .u64 150]) (w.alloc (.cells #[.pointer (some t)] 78)) := by kernel_rfl
theorem typeP (a : Addr) (w : World) : (ReflectliteValue.methodAny (ReflectliteValue.valueError "reflectlite.Value.Type" 0) (fun t _ _ _ => ReflectliteType.toType t) #[.agg #[.pointer (some ⟨5, 78, none⟩), .pointer (some a), .int .u64 150]]).run Tryz.prog w
    = .ok (.iface 120 (.agg #[.pointer (some ⟨5, 78, none⟩)])) w := by kernel_rfl
theorem methodKind (h : Value) (w : World) : (Go.method 287 120 (.agg #[h]) "Kind").run Tryz.prog w = .ok (130, h) w := by kernel_rfl
theorem kindP (w : World) : ((ReflectliteType.abiMethod fun t => (fun a : Nat => Value.int IntKind.u8 (a : Int)) <$> Rtype.kind t) #[.pointer (some ⟨5, 78, none⟩)]).run Tryz.prog w = .ok (.int .u8 22) w := by kernel_rfl
theorem kindS (w : World) : ((ReflectliteType.abiMethod fun t => (fun a : Nat => Value.int IntKind.u8 (a : Int)) <$> Rtype.kind t) #[.pointer (some ⟨5, 76, none⟩)]).run Tryz.prog w = .ok (.int .u8 25) w := by kernel_rfl
theorem partsP (a : Addr) (w : World) : (ReflectliteValue.parts (.agg #[.pointer (some ⟨5, 78, none⟩), .pointer (some a), .int .u64 150])).run Tryz.prog w = .ok (some (78, a, 150)) w := by kernel_rfl
theorem isNilP (a p : Addr) (W : World) (ha : W.cell? a = some (.pointer (some p))) :
    (ReflectliteValue.method (ReflectliteValue.valueError "reflectlite.Value.IsNil" 0) ReflectliteValue.isNil #[.agg #[.pointer (some ⟨5, 78, none⟩), .pointer (some a), .int .u64 150]]).run Tryz.prog W = .ok (.bool false) W := by
  unfold ReflectliteValue.method ReflectliteValue.method.match_2
  simp [Array.getLit, partsP, ReflectliteValue.isNil, loadVar, isAgg, underlying, Tryz.underlying78, ha, Result.andThen]
theorem methodElem (h : Value) (w : World) : (Go.method 287 120 (.agg #[h]) "Elem").run Tryz.prog w = .ok (140, .agg #[h]) w := by kernel_rfl
theorem methodImplements (h : Value) (w : World) : (Go.method 287 120 (.agg #[h]) "Implements").run Tryz.prog w = .ok (141, .agg #[h]) w := by kernel_rfl
theorem methodAssignableTo (h : Value) (w : World) : (Go.method 287 120 (.agg #[h]) "AssignableTo").run Tryz.prog w = .ok (138, .agg #[h]) w := by kernel_rfl
theorem elemP (w : World) : (ReflectliteType.method ReflectliteType.elem #[.agg #[.pointer (some ⟨5, 78, none⟩)]]).run Tryz.prog w = .ok (.iface 120 (.agg #[.pointer (some ⟨5, 76, none⟩)])) w := by kernel_rfl
theorem implementsS (w : World) : (ReflectliteType.relation "Implements" ReflectliteType.implements_ #[.agg #[.pointer (some ⟨5, 76, none⟩)], .iface 120 (.agg #[.pointer (some ⟨5, 72, none⟩)])]).run Tryz.prog w = .ok (.bool true) w := by kernel_rfl
theorem typeOfS (v : Value) (w : World) : (ReflectliteType.typeOf #[.iface 76 v]).run Tryz.prog w = .ok (.iface 120 (.agg #[.pointer (some ⟨5, 76, none⟩)])) w := by kernel_rfl
theorem assignableS (w : World) : (ReflectliteType.relation "AssignableTo" ReflectliteType.assignableTo #[.agg #[.pointer (some ⟨5, 76, none⟩)], .iface 120 (.agg #[.pointer (some ⟨5, 76, none⟩)])]).run Tryz.prog w = .ok (.bool true) w := by kernel_rfl
theorem valueOfS (c : Int) (w : World) : (ReflectliteValue.unpack (.iface 76 (.agg #[.int .i64 c]))).run Tryz.prog w
    = .ok (.agg #[.pointer (some ⟨5, 76, none⟩), .pointer (some ⟨w.heap.size, 0, none⟩), .int .u64 153]) (w.alloc (.cells #[.int .i64 c] 76)) := by kernel_rfl
theorem elemOfP (w : World) : (Rtype.elem? 78).run Tryz.prog w = .ok (some 76) w := by kernel_rfl
theorem mkS (p : Addr) (w : World) : (ReflectliteValue.mk 76 p ReflectliteValue.flagAddr).run Tryz.prog w = .ok (.agg #[.pointer (some ⟨5, 76, none⟩), .pointer (some p), .int .u64 409]) w := by kernel_rfl
theorem elemVP (a p : Addr) (W : World) (ha : W.cell? a = some (.pointer (some p))) :
    (ReflectliteValue.method (ReflectliteValue.valueError "reflectlite.Value.Elem" 0) ReflectliteValue.elem #[.agg #[.pointer (some ⟨5, 78, none⟩), .pointer (some a), .int .u64 150]]).run Tryz.prog W
      = .ok (.agg #[.pointer (some ⟨5, 76, none⟩), .pointer (some p), .int .u64 409]) W := by
  unfold ReflectliteValue.method ReflectliteValue.method.match_2
  simp [Array.getLit, partsP, ReflectliteValue.elem, loadVar, isAgg, underlying, Tryz.underlying78, ha, Result.andThen, elemOfP, mkS]
theorem partsSa (a : Addr) (w : World) : (ReflectliteValue.parts (.agg #[.pointer (some ⟨5, 76, none⟩), .pointer (some a), .int .u64 409])).run Tryz.prog w = .ok (some (76, a, 409)) w := by kernel_rfl
theorem partsS (a : Addr) (w : World) : (ReflectliteValue.parts (.agg #[.pointer (some ⟨5, 76, none⟩), .pointer (some a), .int .u64 153])).run Tryz.prog w = .ok (some (76, a, 153)) w := by kernel_rfl
theorem directS (w : World) : (Rtype.directlyAssignable 76 76).run Tryz.prog w = .ok true w := by kernel_rfl
theorem sizeS (w : World) : (sizeOf 76).run Tryz.prog w = .ok 1 w := by kernel_rfl
theorem setS (ta b : Addr) (c : Int) (old : Value) (W : World) (hb : W.cell? b = some (.int .i64 c)) (ht : W.cell? ta = some old) (hf : W.frozen? ta = false) :
    (ReflectliteValue.set #[.agg #[.pointer (some ⟨5, 76, none⟩), .pointer (some ta), .int .u64 409], .agg #[.pointer (some ⟨5, 76, none⟩), .pointer (some b), .int .u64 153]]).run Tryz.prog W
      = .ok (.tuple #[]) (W.setCell ta (.int .i64 c)) := by
  have hl : (loadCells b 1).run Tryz.prog W = .ok #[.int .i64 c] W := by
    have := run_loadCells_list (P := Tryz.prog) W b [.int .i64 c] (fun j v hj => by
      match j, hj with
      | 0, hj => simp at hj; subst hj; simpa [Addr.add] using hb)
    simpa using this
  unfold ReflectliteValue.set ReflectliteValue.set.match_3
  simp [Array.getLit, partsSa, partsS, ReflectliteValue.flagAddr, loadVar, isAgg, underlying, Tryz.underlying76, Result.andThen, directS, storeVar, Value.cells, hl, storeCells, Addr.add]
  rw [run_store Tryz.prog W ta _ _ (by rfl)]
  simp [ht, hf]
def asBox (n : Nat) : Obj := .cells #[.pointer (some ⟨5, 78, none⟩), .pointer (some ⟨n, 0, none⟩), .int .u64 150] 96
def asW (t : Addr) (c : Int) (w : World) : World := (((w.alloc (.cells #[.pointer (some t)] 78)).alloc (asBox w.heap.size)).alloc (asBox w.heap.size)).alloc (.cells #[.int .i64 c] 76)
set_option maxHeartbeats 4000000 in
set_option maxRecDepth 100000 in
theorem as_hit (t : Addr) (c : Int) (old : Value) (w : World) (hg : w.cell? ⟨0, 0, none⟩ = some (.iface 120 (.agg #[.pointer (some ⟨5, 72, none⟩)]))) (ht0 : w.cell? t = some old) (hf0 : w.frozen? t = false) :
    Calls Tryz.prog 56 #[.iface 76 (.agg #[.int .i64 c]), .iface 78 (.pointer (some t))] w fun ev w' => ev = .returned (.bool true) ∧ w' = (asW t c w).setCell t (.int .i64 c) := by
  have hVO := @run_callFunc_extern Tryz.prog 73 _ (fun args => ReflectliteValue.unpack (args.getD 0 (.tuple #[]))) Tryz.func73 (by kernel_rfl) (by kernel_rfl) (by kernel_rfl) (by kernel_rfl)
  have hVT := @run_callFunc_extern Tryz.prog 74 _ (ReflectliteValue.methodAny (ReflectliteValue.valueError "reflectlite.Value.Type" 0) (fun t _ _ _ => ReflectliteType.toType t)) Tryz.func74 (by kernel_rfl) (by kernel_rfl) (by kernel_rfl) (by kernel_rfl)
  have hVN := @run_callFunc_extern Tryz.prog 75 _ (ReflectliteValue.method (ReflectliteValue.valueError "reflectlite.Value.IsNil" 0) ReflectliteValue.isNil) Tryz.func75 (by kernel_rfl) (by kernel_rfl) (by kernel_rfl) (by kernel_rfl)
  have hK := @run_callFunc_extern Tryz.prog 130 _ (ReflectliteType.abiMethod fun t => do pure (.int .u8 (← Rtype.kind t))) Tryz.func130 (by kernel_rfl) (by kernel_rfl) (by kernel_rfl) (by kernel_rfl)
  have hTE := @run_callFunc_extern Tryz.prog 140 _ (ReflectliteType.method ReflectliteType.elem) Tryz.func140 (by kernel_rfl) (by kernel_rfl) (by kernel_rfl) (by kernel_rfl)
  have hTI := @run_callFunc_extern Tryz.prog 141 _ (ReflectliteType.relation "Implements" ReflectliteType.implements_) Tryz.func141 (by kernel_rfl) (by kernel_rfl) (by kernel_rfl) (by kernel_rfl)
  have hTO := @run_callFunc_extern Tryz.prog 90 _ ReflectliteType.typeOf Tryz.func90 (by kernel_rfl) (by kernel_rfl) (by kernel_rfl) (by kernel_rfl)
  have hTA := @run_callFunc_extern Tryz.prog 138 _ (ReflectliteType.relation "AssignableTo" ReflectliteType.assignableTo) Tryz.func138 (by kernel_rfl) (by kernel_rfl) (by kernel_rfl) (by kernel_rfl)
  have hVE := @run_callFunc_extern Tryz.prog 91 _ (ReflectliteValue.method (ReflectliteValue.valueError "reflectlite.Value.Elem" 0) ReflectliteValue.elem) Tryz.func91 (by kernel_rfl) (by kernel_rfl) (by kernel_rfl) (by kernel_rfl)
  have hVS := @run_callFunc_extern Tryz.prog 92 _ ReflectliteValue.set Tryz.func92 (by kernel_rfl) (by kernel_rfl) (by kernel_rfl) (by kernel_rfl)
  have x1 := typeOfS
  have x2 := methodAssignableTo
  have x3 := assignableS
  have x4 := valueOfS
  have x5 := valueOfP
  have x6 := typeP
  have x7 := methodKind
  have x8 := methodElem
  have x9 := methodImplements
  have x10 := kindP
  have x11 := kindS
  have x12 := elemP
  have x13 := implementsS
  have n8 := isNilP ⟨w.heap.size, 0, none⟩ t ((w.alloc (.cells #[.pointer (some t)] 78)).alloc (asBox w.heap.size)) (by simp [asBox])
  have hlt : 0 < w.heap.size := World.block_lt_of_cell? w _ hg
  have hg2 : ((w.alloc (.cells #[.pointer (some t)] 78)).alloc (asBox w.heap.size)).cell? ⟨0, 0, none⟩ = some (.iface 120 (.agg #[.pointer (some ⟨5, 72, none⟩)])) := by
    rw [World.cell?_alloc_lt _ _ ⟨0, 0, none⟩ (by simp <;> omega), World.cell?_alloc_lt _ _ ⟨0, 0, none⟩ hlt]; exact hg
  have htl : t.block < w.heap.size := by
    rcases Nat.lt_or_ge t.block w.heap.size with h | h
    · exact h
    · simp [World.cell?, Array.getElem?_eq_none h] at ht0
  have el := elemVP ⟨w.heap.size, 0, none⟩ t (((w.alloc (.cells #[.pointer (some t)] 78)).alloc (asBox w.heap.size)).alloc (asBox w.heap.size)) (by rw [World.cell?_alloc_lt _ _ ⟨w.heap.size, 0, none⟩ (by simp <;> omega)]; simp [asBox])
  have st := setS t ⟨w.heap.size + 1 + 1 + 1, 0, none⟩ c old (asW t c w)
    (by unfold asW; rw [World.cell?_alloc_at _ _ _ _ (by simp)]; rfl)
    (by unfold asW; rw [World.cell?_alloc_lt _ _ t (by simp <;> omega), World.cell?_alloc_lt _ _ t (by simp <;> omega), World.cell?_alloc_lt _ _ t (by simp <;> omega), World.cell?_alloc_lt _ _ t htl]; exact ht0)
    (by unfold asW; rw [World.frozen?_alloc_old _ _ t (by simp <;> omega), World.frozen?_alloc_old _ _ t (by simp <;> omega), World.frozen?_alloc_old _ _ t (by simp <;> omega), World.frozen?_alloc_old _ _ t (Nat.ne_of_lt htl)]; exact hf0)
  unfold asW at st ⊢
  unfold asBox at *
  go_enter Tryz.func56, Tryz.ntmps56
  go_wp2
  refine wp_loop_rounds 1 ?_
  rw [rounds_succ]
  go_wp2
  go_ret
  exact ⟨rfl, rfl⟩
end Go.Proofs.YtmegmcngcehneaaGreatDoor
