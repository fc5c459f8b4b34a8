/- errors.As at the target '*impl.byteFault', by its contracts: a nil error: false; an error that is a byteFault: true, and the target is set. After the guide's worked example. errors.As once more, with the world by what it keeps. impl.readThing, impl.DerGet, walked. A row of things of the call's own. impl.DerAll, walked. A row of things in memory. impl.bodyAt, walked. errors.As with the world by what it keeps, beside the reading of a number. -/
import Derived.Test.YtkhdjmjbdpmdnaaGreatDoorRows
import Derived.WalkKit
import Derived.LaidEql
import Derived.Stop.Asserts
import Derived.RowKitTokens
import Derived.Test.YtkhdjmjbdpmdnaaGreatDoorCT01
import Derived.Below
import Derived.Test.YtkhdjmjbdpmdnaaGreatDoorCT18
import Derived.Test.YtkhdjmjbdpmdnaaGreatDoorCT05
import Derived.Test.YtkhdjmjbdpmdnaaGreatDoorCT16
import Derived.Test.YtkhdjmjbdpmdnaaGreatDoorCT17
namespace Go.Proofs.YtkhdjmjbdpmdnaaGreatDoor
open Go.RowKit Go.Extern.Stop Go.Stop Go.Extern

theorem as_nil (t : Value) (w : World) :
    Calls Tryz.prog 209 #[.nilIface, t] w fun e w' => e = .returned (.bool false) ∧ w' = w := by
  go_enter Tryz.func209, Tryz.ntmps209
  go_wp2
  go_ret
  exact ⟨rfl, rfl⟩

theorem valueOfP (t : Addr) (w : World) : (ReflectliteValue.unpack (.iface 218 (.pointer (some t)))).run Tryz.prog w
    = .ok (.agg #[.pointer (some ⟨7, 218, none⟩), .pointer (some ⟨w.heap.size, 0, none⟩), .int .u64 150]) (w.alloc (.cells #[.pointer (some t)] 218)) := by kernel_rfl
theorem typeP (a : Addr) (w : World) : (ReflectliteValue.methodAny (ReflectliteValue.valueError "reflectlite.Value.Type" 0) (fun t _ _ _ => ReflectliteType.toType t) #[.agg #[.pointer (some ⟨7, 218, none⟩), .pointer (some a), .int .u64 150]]).run Tryz.prog w
    = .ok (.iface 191 (.agg #[.pointer (some ⟨7, 218, none⟩)])) w := by kernel_rfl
theorem methodKind (h : Value) (w : World) : (Go.method 390 191 (.agg #[h]) "Kind").run Tryz.prog w = .ok (254, h) w := by kernel_rfl
theorem kindP (w : World) : ((ReflectliteType.abiMethod fun t => (fun a : Nat => Value.int IntKind.u8 (a : Int)) <$> Rtype.kind t) #[.pointer (some ⟨7, 218, none⟩)]).run Tryz.prog w = .ok (.int .u8 22) w := by kernel_rfl
theorem kindS (w : World) : ((ReflectliteType.abiMethod fun t => (fun a : Nat => Value.int IntKind.u8 (a : Int)) <$> Rtype.kind t) #[.pointer (some ⟨7, 216, none⟩)]).run Tryz.prog w = .ok (.int .u8 25) w := by kernel_rfl
theorem partsP (a : Addr) (w : World) : (ReflectliteValue.parts (.agg #[.pointer (some ⟨7, 218, none⟩), .pointer (some a), .int .u64 150])).run Tryz.prog w = .ok (some (218, a, 150)) w := by kernel_rfl
theorem isNilP (a p : Addr) (W : World) (ha : W.cell? a = some (.pointer (some p))) :
    (ReflectliteValue.method (ReflectliteValue.valueError "reflectlite.Value.IsNil" 0) ReflectliteValue.isNil #[.agg #[.pointer (some ⟨7, 218, none⟩), .pointer (some a), .int .u64 150]]).run Tryz.prog W = .ok (.bool false) W := by
  unfold ReflectliteValue.method ReflectliteValue.method.match_2
  simp [Array.getLit, partsP, ReflectliteValue.isNil, loadVar, isAgg, underlying, Tryz.underlying218, ha, Result.andThen]
theorem methodElem (h : Value) (w : World) : (Go.method 390 191 (.agg #[h]) "Elem").run Tryz.prog w = .ok (264, .agg #[h]) w := by kernel_rfl
theorem methodImplements (h : Value) (w : World) : (Go.method 390 191 (.agg #[h]) "Implements").run Tryz.prog w = .ok (265, .agg #[h]) w := by kernel_rfl
theorem methodAssignableTo (h : Value) (w : World) : (Go.method 390 191 (.agg #[h]) "AssignableTo").run Tryz.prog w = .ok (262, .agg #[h]) w := by kernel_rfl
theorem elemP (w : World) : (ReflectliteType.method ReflectliteType.elem #[.agg #[.pointer (some ⟨7, 218, none⟩)]]).run Tryz.prog w = .ok (.iface 191 (.agg #[.pointer (some ⟨7, 216, none⟩)])) w := by kernel_rfl
theorem implementsS (w : World) : (ReflectliteType.relation "Implements" ReflectliteType.implements_ #[.agg #[.pointer (some ⟨7, 216, none⟩)], .iface 191 (.agg #[.pointer (some ⟨7, 90, none⟩)])]).run Tryz.prog w = .ok (.bool true) w := by kernel_rfl
theorem typeOfS (v : Value) (w : World) : (ReflectliteType.typeOf #[.iface 216 v]).run Tryz.prog w = .ok (.iface 191 (.agg #[.pointer (some ⟨7, 216, none⟩)])) w := by kernel_rfl
theorem assignableS (w : World) : (ReflectliteType.relation "AssignableTo" ReflectliteType.assignableTo #[.agg #[.pointer (some ⟨7, 216, none⟩)], .iface 191 (.agg #[.pointer (some ⟨7, 216, none⟩)])]).run Tryz.prog w = .ok (.bool true) w := by kernel_rfl
theorem valueOfS (c : Int) (w : World) : (ReflectliteValue.unpack (.iface 216 (.agg #[.int .i64 c]))).run Tryz.prog w
    = .ok (.agg #[.pointer (some ⟨7, 216, none⟩), .pointer (some ⟨w.heap.size, 0, none⟩), .int .u64 153]) (w.alloc (.cells #[.int .i64 c] 216)) := by kernel_rfl
theorem elemOfP (w : World) : (Rtype.elem? 218).run Tryz.prog w = .ok (some 216) w := by kernel_rfl
theorem mkS (p : Addr) (w : World) : (ReflectliteValue.mk 216 p ReflectliteValue.flagAddr).run Tryz.prog w = .ok (.agg #[.pointer (some ⟨7, 216, none⟩), .pointer (some p), .int .u64 409]) w := by kernel_rfl
theorem elemVP (a p : Addr) (W : World) (ha : W.cell? a = some (.pointer (some p))) :
    (ReflectliteValue.method (ReflectliteValue.valueError "reflectlite.Value.Elem" 0) ReflectliteValue.elem #[.agg #[.pointer (some ⟨7, 218, none⟩), .pointer (some a), .int .u64 150]]).run Tryz.prog W
      = .ok (.agg #[.pointer (some ⟨7, 216, none⟩), .pointer (some p), .int .u64 409]) W := by
  unfold ReflectliteValue.method ReflectliteValue.method.match_2
  simp [Array.getLit, partsP, ReflectliteValue.elem, loadVar, isAgg, underlying, Tryz.underlying218, ha, Result.andThen, elemOfP, mkS]
theorem partsSa (a : Addr) (w : World) : (ReflectliteValue.parts (.agg #[.pointer (some ⟨7, 216, none⟩), .pointer (some a), .int .u64 409])).run Tryz.prog w = .ok (some (216, a, 409)) w := by kernel_rfl
theorem partsS (a : Addr) (w : World) : (ReflectliteValue.parts (.agg #[.pointer (some ⟨7, 216, none⟩), .pointer (some a), .int .u64 153])).run Tryz.prog w = .ok (some (216, a, 153)) w := by kernel_rfl
theorem directS (w : World) : (Rtype.directlyAssignable 216 216).run Tryz.prog w = .ok true w := by kernel_rfl
theorem sizeS (w : World) : (sizeOf 216).run Tryz.prog w = .ok 1 w := by kernel_rfl
theorem setS (ta b : Addr) (c : Int) (old : Value) (W : World) (hb : W.cell? b = some (.int .i64 c)) (ht : W.cell? ta = some old) (hf : W.frozen? ta = false) :
    (ReflectliteValue.set #[.agg #[.pointer (some ⟨7, 216, none⟩), .pointer (some ta), .int .u64 409], .agg #[.pointer (some ⟨7, 216, none⟩), .pointer (some b), .int .u64 153]]).run Tryz.prog W
      = .ok (.tuple #[]) (W.setCell ta (.int .i64 c)) := by
  have hl : (loadCells b 1).run Tryz.prog W = .ok #[.int .i64 c] W := by
    have := run_loadCells_list (P := Tryz.prog) W b [.int .i64 c] (fun j v hj => by
      match j, hj with
      | 0, hj => simp at hj; subst hj; simpa [Addr.add] using hb)
    simpa using this
  unfold ReflectliteValue.set ReflectliteValue.set.match_3
  simp [Array.getLit, partsSa, partsS, ReflectliteValue.flagAddr, loadVar, isAgg, underlying, Tryz.underlying216, Result.andThen, directS, storeVar, Value.cells, hl, storeCells, Addr.add]
  rw [run_store Tryz.prog W ta _ _ (by rfl)]
  simp [ht, hf]
def asBox (n : Nat) : Obj := .cells #[.pointer (some ⟨7, 218, none⟩), .pointer (some ⟨n, 0, none⟩), .int .u64 150] 237
def asW (t : Addr) (c : Int) (w : World) : World := (((w.alloc (.cells #[.pointer (some t)] 218)).alloc (asBox w.heap.size)).alloc (asBox w.heap.size)).alloc (.cells #[.int .i64 c] 216)
set_option maxHeartbeats 4000000 in
set_option maxRecDepth 100000 in
theorem as_hit (t : Addr) (c : Int) (old : Value) (w : World) (hg : w.cell? ⟨4, 0, none⟩ = some (.iface 191 (.agg #[.pointer (some ⟨7, 90, none⟩)]))) (ht0 : w.cell? t = some old) (hf0 : w.frozen? t = false) :
    Calls Tryz.prog 209 #[.iface 216 (.agg #[.int .i64 c]), .iface 218 (.pointer (some t))] w fun ev w' => ev = .returned (.bool true) ∧ w' = (asW t c w).setCell t (.int .i64 c) := by
  have hVO := @run_callFunc_extern Tryz.prog 226 _ (fun args => ReflectliteValue.unpack (args.getD 0 (.tuple #[]))) Tryz.func226 (by kernel_rfl) (by kernel_rfl) (by kernel_rfl) (by kernel_rfl)
  have hVT := @run_callFunc_extern Tryz.prog 227 _ (ReflectliteValue.methodAny (ReflectliteValue.valueError "reflectlite.Value.Type" 0) (fun t _ _ _ => ReflectliteType.toType t)) Tryz.func227 (by kernel_rfl) (by kernel_rfl) (by kernel_rfl) (by kernel_rfl)
  have hVN := @run_callFunc_extern Tryz.prog 228 _ (ReflectliteValue.method (ReflectliteValue.valueError "reflectlite.Value.IsNil" 0) ReflectliteValue.isNil) Tryz.func228 (by kernel_rfl) (by kernel_rfl) (by kernel_rfl) (by kernel_rfl)
  have hK := @run_callFunc_extern Tryz.prog 254 _ (ReflectliteType.abiMethod fun t => do pure (.int .u8 (← Rtype.kind t))) Tryz.func254 (by kernel_rfl) (by kernel_rfl) (by kernel_rfl) (by kernel_rfl)
  have hTE := @run_callFunc_extern Tryz.prog 264 _ (ReflectliteType.method ReflectliteType.elem) Tryz.func264 (by kernel_rfl) (by kernel_rfl) (by kernel_rfl) (by kernel_rfl)
  have hTI := @run_callFunc_extern Tryz.prog 265 _ (ReflectliteType.relation "Implements" ReflectliteType.implements_) Tryz.func265 (by kernel_rfl) (by kernel_rfl) (by kernel_rfl) (by kernel_rfl)
  have hTO := @run_callFunc_extern Tryz.prog 154 _ ReflectliteType.typeOf Tryz.func154 (by kernel_rfl) (by kernel_rfl) (by kernel_rfl) (by kernel_rfl)
  have hTA := @run_callFunc_extern Tryz.prog 262 _ (ReflectliteType.relation "AssignableTo" ReflectliteType.assignableTo) Tryz.func262 (by kernel_rfl) (by kernel_rfl) (by kernel_rfl) (by kernel_rfl)
  have hVE := @run_callFunc_extern Tryz.prog 236 _ (ReflectliteValue.method (ReflectliteValue.valueError "reflectlite.Value.Elem" 0) ReflectliteValue.elem) Tryz.func236 (by kernel_rfl) (by kernel_rfl) (by kernel_rfl) (by kernel_rfl)
  have hVS := @run_callFunc_extern Tryz.prog 237 _ ReflectliteValue.set Tryz.func237 (by kernel_rfl) (by kernel_rfl) (by kernel_rfl) (by kernel_rfl)
  have x1 := typeOfS
  have x2 := methodAssignableTo
  have x3 := assignableS
  have x4 := valueOfS
  have x5 := valueOfP
  have x6 := typeP
  have x7 := methodKind
  have x8 := methodElem
  have x9 := methodImplements
  have x10 := kindP
  have x11 := kindS
  have x12 := elemP
  have x13 := implementsS
  have n8 := isNilP ⟨w.heap.size, 0, none⟩ t ((w.alloc (.cells #[.pointer (some t)] 218)).alloc (asBox w.heap.size)) (by simp [asBox])
  have hlt : 4 < w.heap.size := World.block_lt_of_cell? w _ hg
  have hg2 : ((w.alloc (.cells #[.pointer (some t)] 218)).alloc (asBox w.heap.size)).cell? ⟨4, 0, none⟩ = some (.iface 191 (.agg #[.pointer (some ⟨7, 90, none⟩)])) := by
    rw [World.cell?_alloc_lt _ _ ⟨4, 0, none⟩ (by simp <;> omega), World.cell?_alloc_lt _ _ ⟨4, 0, none⟩ hlt]; exact hg
  have htl : t.block < w.heap.size := by
    rcases Nat.lt_or_ge t.block w.heap.size with h | h
    · exact h
    · simp [World.cell?, Array.getElem?_eq_none h] at ht0
  have el := elemVP ⟨w.heap.size, 0, none⟩ t (((w.alloc (.cells #[.pointer (some t)] 218)).alloc (asBox w.heap.size)).alloc (asBox w.heap.size)) (by rw [World.cell?_alloc_lt _ _ ⟨w.heap.size, 0, none⟩ (by simp <;> omega)]; simp [asBox])
  have st := setS t ⟨w.heap.size + 1 + 1 + 1, 0, none⟩ c old (asW t c w)
    (by unfold asW; rw [World.cell?_alloc_at _ _ _ _ (by simp)]; rfl)
    (by unfold asW; rw [World.cell?_alloc_lt _ _ t (by simp <;> omega), World.cell?_alloc_lt _ _ t (by simp <;> omega), World.cell?_alloc_lt _ _ t (by simp <;> omega), World.cell?_alloc_lt _ _ t htl]; exact ht0)
    (by unfold asW; rw [World.frozen?_alloc_old _ _ t (by simp <;> omega), World.frozen?_alloc_old _ _ t (by simp <;> omega), World.frozen?_alloc_old _ _ t (by simp <;> omega), World.frozen?_alloc_old _ _ t (Nat.ne_of_lt htl)]; exact hf0)
  unfold asW at st ⊢
  unfold asBox at *
  go_enter Tryz.func209, Tryz.ntmps209
  go_wp2
  refine wp_loop_rounds 1 ?_
  rw [rounds_succ]
  go_wp2
  go_ret
  exact ⟨rfl, rfl⟩
end Go.Proofs.YtkhdjmjbdpmdnaaGreatDoor
namespace Go.Proofs.YtkhdjmjbdpmdnaaGreatDoor
open Go.RowKit Go.Lib

def ErrType (w : World) : Prop := w.cell? ⟨4, 0, none⟩ = some (.iface 191 (.agg #[.pointer (some ⟨7, 90, none⟩)]))
theorem ErrType.pos {w : World} (h : ErrType w) : 4 < w.heap.size := World.block_lt_of_cell? w _ h
theorem ErrType.below {w w' : World} {B : Nat} (h : ErrType w) (hb : Below B w w') (hB : 4 < B) : ErrType w' := by
  unfold ErrType at *
  rw [hb.cell hB]; exact h
theorem below_asW (t : Addr) (c : Int) (w : World) : Below w.heap.size w (asW t c w) := by
  unfold asW
  exact ((((Below.refl _ _).alloc (Nat.le_refl _) _).alloc (by simp) _).alloc (by simp; omega) _).alloc (by simp; omega) _
theorem size_asW (t : Addr) (c : Int) (w : World) : (asW t c w).heap.size = w.heap.size + 4 := by
  unfold asW
  simp

theorem as_hit2 (t : Addr) (c : Int) (old : Value) (w : World) (hg : ErrType w) (ht0 : w.cell? t = some old) (hf0 : w.frozen? t = false) :
    Calls Tryz.prog 209 #[.iface 216 (.agg #[.int .i64 c]), .iface 218 (.pointer (some t))] w fun ev w' =>
      ev = .returned (.bool true) ∧ w'.cell? t = some (.int .i64 c) ∧ Below t.block w w' := by
  have htl := World.block_lt_of_cell? w t ht0
  refine (as_hit t c old w hg ht0 hf0).mono ?_
  rintro e w' ⟨rfl, rfl⟩
  have hb := below_asW t c w
  refine ⟨rfl, World.cell?_setCell_same _ _ _ ((hb.cell htl).trans ht0), (hb.mono (Nat.le_of_lt htl)).setCell (Nat.le_refl _) _⟩

end Go.Proofs.YtkhdjmjbdpmdnaaGreatDoor
namespace Go.Proofs.YtkhdjmjbdpmdnaaGreatDoor
open Go.RowKit Go.Lib

/-- What readThing hands back. -/
def ThingOk (R : GetR) (e : Ending) : Prop :=
  R.code = 0 ∧ e = .returned (.tuple #[.agg #[.int .i64 R.tag, .string R.body], .int .i64 R.at', .nilIface]) ∨
  (∃ c, c ≠ 0 ∧ R = .bad c ∧ e = .returned (.tuple #[.agg #[.int .i64 0, .string ⟨#[]⟩], .int .i64 0, errV c]))
set_option maxHeartbeats 1000000 in
set_option maxRecDepth 100000 in
theorem readThing (s : ByteArray) (p : Int) (w : World) (hs : s.size ≤ maxLen) (hp : p ≤ 9223372036854775807) :
    Calls Tryz.prog 208 #[.string s, .int .i64 p] w fun e w' => ThingOk (getD s p) e ∧ Below w.heap.size w w' := by
  have hs' := hs
  unfold maxLen at hs'
  have HT : Hid (∀ v : World, Calls Tryz.prog 224 #[.string s, .int .i64 p] v fun e w' => (tagC s p = 0 ∧ e = .returned (.tuple #[.int .i64 (bN s p.toNat : Int), .nilIface]) ∨ tagC s p ≠ 0 ∧ e = .returned (.tuple #[.int .i64 0, errV (tagC s p)])) ∧ w' = v) := fun v => readTag s p v hs
  by_cases h0 : tagC s p = 0
  · have hf : s.size ≤ 20000 ∧ 0 ≤ p ∧ p.toNat < s.size ∧ tagB (bN s p.toNat : Int) = true := by
      unfold tagC at h0
      split at h0
      · simp at h0
      · split at h0
        · simp at h0
        · split at h0
          · simp at h0
          · split at h0
            · simp at h0
            · rename_i a b c d
              exact ⟨by omega, by omega, by omega, by simpa using d⟩
    obtain ⟨f1, f2, f3, f4⟩ := hf
    obtain ⟨k, rfl⟩ := Int.eq_ofNat_of_zero_le f2
    rw [show ((k : Int).toNat) = k from rfl] at f3 f4 HT
    have HG : Hid (getD s (k : Int) = if (lenAt s (k + 1)).1 = 0 then bodyAt s (bN s k) (lenAt s (k + 1)).2.1 (lenAt s (k + 1)).2.2 else .bad (lenAt s (k + 1)).1) := by
      show _ = _
      rw [← getAt_len f3 f4]
      unfold getD
      rw [if_neg (by omega), if_neg (by omega)]; rfl
    have HL : Hid (∀ v : World, Calls Tryz.prog 225 #[.string s, .int .i64 ((k : Int) + 1)] v fun e w' => LenOk (lenAt s (k + 1)) e ∧ w' = v) := fun v => by
      have := readLength s (k + 1) v f1
      simpa using this
    have ht := bN_lt s k
    have hlf : (lenAt s (k + 1)).1 = 0 → (lenAt s (k + 1)).2.1 ≤ 4000 ∧ (lenAt s (k + 1)).2.2 ≤ s.size := by
      have z2 := bN_lt s (k + 1 + 1)
      unfold lenAt
      repeat' split
      all_goals (intro h; simp at h ⊢; try omega)
    generalize lenAt s (k + 1) = R at *
    obtain ⟨c, n, f⟩ := R
    simp only at hlf HG
    generalize bN s k = t at *
    by_cases hc : c = 0
    · subst hc
      obtain ⟨hn, hfs⟩ := hlf rfl
      have HG1 := HG.out
      rw [if_pos rfl] at HG1
      have HL1 : Hid (∀ v : World, Calls Tryz.prog 225 #[.string s, .int .i64 ((k : Int) + 1)] v fun e w' => e = .returned (.tuple #[.int .i64 (n : Int), .int .i64 (f : Int), .nilIface]) ∧ w' = v) := fun v => by
        refine (HL.out v).mono ?_
        rintro e w' ⟨⟨_, rfl⟩ | ⟨h, _⟩, rfl⟩
        · exact ⟨rfl, rfl⟩
        · exact absurd rfl h
      have HT1 : Hid (∀ v : World, Calls Tryz.prog 224 #[.string s, .int .i64 (k : Int)] v fun e w' => e = .returned (.tuple #[.int .i64 (t : Int), .nilIface]) ∧ w' = v) := fun v => by
        refine (HT.out v).mono ?_
        rintro e w' ⟨⟨_, rfl⟩ | ⟨h, _⟩, rfl⟩
        · exact ⟨rfl, rfl⟩
        · exact absurd h0 h
      clear HT HL HG hlf h0 f4
      by_cases hsh : s.size < f + n
      · have HF : Hid (getD s (k : Int) = .bad 4) := HG1.trans (bodyAt_short hsh)
        clear HG1
        go_enter Tryz.func208, Tryz.ntmps208
        go_wp2_with fail
        refine (HT1.out _).mono ?_
        rintro e w' ⟨rfl, rfl⟩
        go_wp2_with fail
        refine (HL1.out _).mono ?_
        rintro e w' ⟨rfl, rfl⟩
        go_wp2
        refine bodyPost_ret (v := .tuple #[.agg #[.int .i64 0, .string ⟨#[]⟩], .int .i64 0, errV 4]) (by simp [errV, results, Tryz.results208, go_sem]) rfl ⟨.inr ⟨_, by decide, HF.out, rfl⟩, ?_⟩
        repeat (first | exact Below.refl _ _ | refine Below.setCell ?_ (by simp) _ | refine Below.alloc ?_ (by simp) _)
      · have HF : Hid (getD s (k : Int) = _) := HG1.trans (bodyAt_ok (by omega))
        clear HG1
        go_enter Tryz.func208, Tryz.ntmps208
        go_wp2_with fail
        refine (HT1.out _).mono ?_
        rintro e w' ⟨rfl, rfl⟩
        go_wp2_with fail
        refine (HL1.out _).mono ?_
        rintro e w' ⟨rfl, rfl⟩
        go_wp2_with fail
        refine (copyText _ _ (by rw [ByteArray.size_extract]; omega)).mono ?_
        rintro e w1 ⟨rfl, hb1⟩
        obtain ⟨hr, hB, _⟩ := resKeep (cs := [.int .i64 0, .string ⟨#[]⟩]) (T := 157) hb1
        obtain ⟨⟨c0, c1⟩, g0, g1⟩ := cells2 hr
        clear hb1 hr
        generalize s.extract f (f + n) = b at *
        go_wp2
        refine bodyPost_ret (v := .tuple #[.agg #[.int .i64 (t : Int), .string b], .int .i64 ((f : Int) + (n : Int)), .nilIface]) (by simp [results, Tryz.results208, go_sem, c0, c1]) rfl ⟨.inl ?_, ?_⟩
        · rw [HF.out]
          exact ⟨rfl, by simp⟩
        repeat (first | exact hB | refine Below.setCell ?_ (by simp) _)
    · have HF : Hid (getD s (k : Int) = .bad (c : Int)) := HG.out.trans (if_neg hc)
      have HL1 : Hid (∀ v : World, Calls Tryz.prog 225 #[.string s, .int .i64 ((k : Int) + 1)] v fun e w' => e = .returned (.tuple #[.int .i64 0, .int .i64 0, .iface 216 (.agg #[.int .i64 (c : Int)])]) ∧ w' = v) := fun v => by
        refine (HL.out v).mono ?_
        rintro e w' ⟨⟨h, _⟩ | ⟨_, rfl⟩, rfl⟩
        · exact absurd h hc
        · exact ⟨rfl, rfl⟩
      have HT1 : Hid (∀ v : World, Calls Tryz.prog 224 #[.string s, .int .i64 (k : Int)] v fun e w' => e = .returned (.tuple #[.int .i64 (t : Int), .nilIface]) ∧ w' = v) := fun v => by
        refine (HT.out v).mono ?_
        rintro e w' ⟨⟨_, rfl⟩ | ⟨h, _⟩, rfl⟩
        · exact ⟨rfl, rfl⟩
        · exact absurd h0 h
      have HC : Hid ((c : Int) ≠ 0) := by show _ ≠ _; omega
      clear HT HL HG hlf h0 f4 hc
      go_enter Tryz.func208, Tryz.ntmps208
      go_wp2_with fail
      refine (HT1.out _).mono ?_
      rintro e w' ⟨rfl, rfl⟩
      go_wp2_with fail
      refine (HL1.out _).mono ?_
      rintro e w' ⟨rfl, rfl⟩
      go_wp2
      refine bodyPost_ret (v := .tuple #[.agg #[.int .i64 0, .string ⟨#[]⟩], .int .i64 0, errV (c : Int)]) (by simp [errV, results, Tryz.results208, go_sem]) rfl ⟨.inr ⟨_, HC.out, HF.out, rfl⟩, ?_⟩
      repeat (first | exact Below.refl _ _ | refine Below.setCell ?_ (by simp) _ | refine Below.alloc ?_ (by simp) _)
  · have HF : Hid (getD s p = .bad (tagC s p)) := by
      show _ = _
      unfold getD
      unfold tagC at h0 ⊢
      split
      · rfl
      · split
        · rfl
        · split
          · rename_i h; rw [getAt_end h]
          · rename_i h1
            split
            · rename_i h; rw [getAt_tag (by omega) h]
            · rename_i h2; simp_all
    have HT1 : Hid (∀ v : World, Calls Tryz.prog 224 #[.string s, .int .i64 p] v fun e w' => e = .returned (.tuple #[.int .i64 0, .iface 216 (.agg #[.int .i64 (tagC s p)])]) ∧ w' = v) := fun v => by
      refine (HT.out v).mono ?_
      rintro e w' ⟨⟨h, _⟩ | ⟨_, rfl⟩, rfl⟩
      · exact absurd h h0
      · exact ⟨rfl, rfl⟩
    have HC : Hid (tagC s p ≠ 0) := h0
    generalize tagC s p = c at *
    clear HT h0
    go_enter Tryz.func208, Tryz.ntmps208
    go_wp2_with fail
    refine (HT1.out _).mono ?_
    rintro e w' ⟨rfl, rfl⟩
    go_wp2
    refine bodyPost_ret (v := .tuple #[.agg #[.int .i64 0, .string ⟨#[]⟩], .int .i64 0, errV c]) (by simp [errV, results, Tryz.results208, go_sem]) rfl ⟨.inr ⟨_, HC.out, HF.out, rfl⟩, ?_⟩
    repeat (first | exact Below.refl _ _ | refine Below.setCell ?_ (by simp) _ | refine Below.alloc ?_ (by simp) _)
set_option maxHeartbeats 2000000 in
set_option maxRecDepth 100000 in
theorem implDerGet (s : ByteArray) (p : Int) (w : World) (hs : s.size ≤ maxLen) (hp : p ≤ 9223372036854775807) (hg : ErrType w) :
    Calls Tryz.prog 186 #[.string s, .int .i64 p] w fun e w' => e = .returned (getD s p).val ∧ Below w.heap.size w w' := by
  have hread := fun W => readThing s p W hs hp
  generalize getD s p = R at *
  have HR : Hid (∀ W, Calls Tryz.prog 208 #[.string s, .int .i64 p] W fun e w' => ThingOk R e ∧ Below W.heap.size W w') := hread
  have HG : Hid (ErrType w) := hg
  have hpos := hg.pos
  clear hread hg
  go_enter Tryz.func186, Tryz.ntmps186
  go_wp2_with fail
  refine (HR.out _).mono ?_
  rintro e w1 ⟨hb, hB0⟩
  obtain ⟨hr, hB, hz⟩ := resKeep (cs := [.int .i64 0, .string ⟨#[]⟩, .int .i64 0, .int .i64 0]) (T := 185) hB0
  have HG1 : Hid (ErrType w1) := HG.out.below hB hpos
  have HB : Hid (Below w.heap.size w w1) := hB
  have HRow : Hid (w1.heap[w.heap.size]? = some (.cells [.int .i64 0, .string ⟨#[]⟩, .int .i64 0, .int .i64 0].toArray 185 (0, 0))) := hr
  clear hB0 hB hr
  rcases hb with ⟨hc, rfl⟩ | ⟨c, hc, rfl, rfl⟩
  · obtain ⟨⟨c0, c1, c2, c3⟩, f0, f1, f2, f3⟩ := cells4 HRow.out
    obtain ⟨r0, r1, r2, r3⟩ := R
    have HC : Hid (r3 = 0) := hc
    clear hc
    go_wp2_with fail
    refine (as_nil _ _).mono ?_
    rintro e w' ⟨rfl, rfl⟩
    go_wp2
    refine bodyPost_ret (v := .agg #[.int .i64 r0, .string r1, .int .i64 r2, .int .i64 0]) (by simp [results, Tryz.results186, go_sem, c0, c1, c2, c3, hz, Nat.lt_succ_of_lt hz]) rfl ⟨?_, ?_⟩
    · rw [HC.out]; rfl
    · repeat (first | exact HB.out | refine Below.setCell ?_ (by simp) _ | refine Below.alloc ?_ (by simp <;> omega) _)
  · have HG2 : Hid (∀ o1 o2, ErrType ((w1.alloc o1).alloc o2)) := fun o1 o2 => HG1.out.below (((Below.refl _ _).alloc (Nat.le_refl _) o1).alloc (by simp) o2) (by omega)
    clear hc
    unfold errV
    go_wp2_with fail
    refine (as_hit2 ⟨w1.heap.size + 1, 0, none⟩ c (.int .i64 0) _ (HG2.out _ _) (by simp) (by simp)).mono ?_
    rintro e w2 ⟨rfl, hcc, hb2⟩
    have hB3 : Below w1.heap.size w1 w2 := (((Below.refl _ w1).alloc (Nat.le_refl _) _).alloc (by simp) _).trans (hb2.mono (by simp))
    have HRow2 : w2.heap[w.heap.size]? = some (.cells [.int .i64 0, .string ⟨#[]⟩, .int .i64 0, .int .i64 0].toArray 185 (0, 0)) := by rw [hB3.block _ hz]; exact HRow.out
    obtain ⟨⟨c0, c1, c2, c3⟩, f0, f1, f2, f3⟩ := cells4 HRow2
    have HB2 : Hid (Below w.heap.size w w2) := HB.out.trans (hB3.mono (Nat.le_of_lt hz))
    clear hb2 hB3 HRow2
    go_wp2
    refine bodyPost_ret (v := GetR.val (.bad c)) (by simp [GetR.val, GetR.bad, results, Tryz.results186, go_sem, c0, c1, c2, c3]) rfl ⟨rfl, ?_⟩
    repeat (first | exact HB2.out | refine Below.setCell ?_ (by simp) _)
end Go.Proofs.YtkhdjmjbdpmdnaaGreatDoor
namespace Go.Proofs.YtkhdjmjbdpmdnaaGreatDoor
open Go.RowKit

theorem infoTlv : (Tryz.prog.info? 157).map (fun i => (i.zero, i.size, i.bytes)) = some (some (.agg #[.int .i64 0, .string ⟨#[]⟩]), 2, 24) := by kernel_rfl
/-- A row of things of the call's own. -/
def OwnT (w : World) (B : Nat) (v : Value) (l : List (Int × ByteArray)) : Prop := w.ownsRow B 157 2 v l.length (tCells l)
theorem OwnT.keep {w w' : World} {B : Nat} {v : Value} {l : List (Int × ByteArray)} (h : OwnT w B v l) (hb : Below w.heap.size w w') : OwnT w' B v l := by
  refine ⟨h.1, ?_⟩
  rcases h.2 with h | ⟨g, cap, cur, e, h1, h2, h3⟩
  · exact .inl h
  · exact .inr ⟨g, cap, cur, e, h1, by rw [hb.block g (heap_lt h2)]; exact h2, h3⟩
theorem OwnT.mono {w : World} {B B' : Nat} {v : Value} {l : List (Int × ByteArray)} (h : OwnT w B v l) (hB : B' ≤ B) : OwnT w B' v l := by
  refine ⟨h.1, ?_⟩
  rcases h.2 with h | ⟨g, cap, cur, e, h1, h3⟩
  · exact .inl h
  · exact .inr ⟨g, cap, cur, e, Nat.le_trans hB h1, h3⟩
theorem OwnT.other {w : World} {B b o : Nat} {v u : Value} {l : List (Int × ByteArray)} (h : OwnT w B v l) (hb : b < B) : OwnT (w.setCell ⟨b, o, none⟩ u) B v l := by
  refine ⟨h.1, ?_⟩
  rcases h.2 with h | ⟨g, cap, cur, e, h1, h2, h3⟩
  · exact .inl h
  · exact .inr ⟨g, cap, cur, e, h1, by rw [heap_setCell_other _ _ _ _ (by show g ≠ b; omega)]; exact h2, h3⟩
theorem OwnT.form {w : World} {B : Nat} {v : Value} {l : List (Int × ByteArray)} (h : OwnT w B v l) : ∃ a c, v = .slice a l.length c := by
  rcases h.2 with ⟨h, h'⟩ | ⟨g, cap, _, e, _⟩
  · exact ⟨none, 0, by rw [h']; exact h⟩
  · exact ⟨_, _, e⟩
theorem ownT_nil (w : World) (B : Nat) : OwnT w B (.slice none 0 0) [] := ⟨rfl, .inl ⟨rfl, rfl⟩⟩
end Go.Proofs.YtkhdjmjbdpmdnaaGreatDoor
namespace Go.Proofs.YtkhdjmjbdpmdnaaGreatDoor
open Go.RowKit

set_option maxHeartbeats 2000000 in
set_option maxRecDepth 100000 in
theorem implDerAll (s : ByteArray) (w : World) (hs : s.size ≤ maxLen) (hg : ErrType w) :
    Calls Tryz.prog 145 #[.string s] w fun e w' => ∃ v, e = .returned (.agg #[v, .int .i64 (allD s).2]) ∧ OwnT w' w.heap.size v (allD s).1 ∧ Below w.heap.size w w' := by
  have hs' := hs
  unfold maxLen at hs'
  have hpos := hg.pos
  have HGt : Hid (ErrType w) := hg
  clear hg
  obtain ⟨i0, hi, hz0, hz1, hz2⟩ := info_parts infoTlv
  by_cases h1 : 20000 < s.size
  · have HF : Hid (allD s = ([], 2)) := if_pos h1
    have hd : decide (20000 < s.size) = true := decide_eq_true h1
    go_enter Tryz.func145, Tryz.ntmps145
    go_wp2_with fail
    refine (tooLong s _ hs).mono ?_
    rintro e w' ⟨rfl, rfl⟩
    rw [hd]
    go_wp2_with fail
    refine bodyPost_ret (v := .agg #[.slice none 0 0, .int .i64 2]) (by simp [results, Tryz.results145, go_sem]) rfl ⟨.slice none 0 0, ?_, ?_, ?_⟩
    · rw [HF.out]
    · rw [HF.out]; exact ownT_nil _ _
    · repeat (first | exact Below.refl _ _ | refine Below.setCell ?_ (by simp) _ | refine Below.alloc ?_ (by simp) _)
  have hd : decide (20000 < s.size) = false := decide_eq_false h1
  obtain ⟨R, hR⟩ : ∃ R, R = allD s := ⟨_, rfl⟩
  have HR : Hid (R = allR s (s.size + 1) 0 []) := by rw [hR]; exact if_neg h1
  rw [← hR]
  clear hR
  go_enter Tryz.func145, Tryz.ntmps145
  go_wp2_with fail
  refine (tooLong s _ hs).mono ?_
  rintro e w' ⟨rfl, hw'⟩
  rw [hd, hw']
  clear hw' hd
  go_wp2_with fail
  go_loopw [3, 4] (fun b a wr => ∃ (k f : Nat) (acc : List (Int × ByteArray)), a = .int .i64 (k : Int) ∧ k ≤ s.size ∧ s.size < k + f ∧ acc.length ≤ 60 ∧ allR s f k acc = R ∧
      wr.heap[w.heap.size]? = some (.cells [.slice none 0 0, .int .i64 0].toArray 138 (0, 0)) ∧ OwnT wr (w.heap.size + 1) b acc ∧ Below w.heap.size w wr ∧ w.heap.size + 1 ≤ wr.heap.size)
    (fun _ a _ => s.size - (intOf a).toNat)
  case atStart =>
    exact ⟨0, s.size + 1, [], rfl, Nat.zero_le _, by omega, by simp, HR.out.symm, heap_alloc_new w _, ownT_nil _ _, (Below.refl _ _).alloc (Nat.le_refl _) _, by simp⟩
  case round =>
    obtain ⟨k, f, acc, rfl, hk, hf, hacc, hall, hr0, hown, hbel, hsz⟩ := hrel
    have HAll : Hid (allR s f k acc = R) := hall
    have HR0 : Hid (wr.heap[w.heap.size]? = some (.cells [.slice none 0 0, .int .i64 0].toArray 138 (0, 0))) := hr0
    obtain ⟨va, vc, rfl⟩ := OwnT.form hown
    have HO : Hid (OwnT wr (w.heap.size + 1) (.slice va acc.length vc) acc) := hown
    have HB : Hid (Below w.heap.size w wr) := hbel
    clear hall hr0 hown hbel HR
    by_cases hlt : k < s.size
    · have HG : Hid (∀ V : World, Below w.heap.size w V → Calls Tryz.prog 186 #[.string s, .int .i64 (k : Int)] V fun e w' => e = .returned (getAt s k).val ∧ Below V.heap.size V w') := fun V hV => by
        have h := implDerGet s (k : Int) V hs (by omega) (HGt.out.below hV hpos)
        rw [show getD s (k : Int) = getAt s k from by unfold getD; rw [if_neg h1, if_neg (by omega)]; rfl] at h
        exact h
      have HAt : Hid ((getAt s k).code = 0 → k + 2 ≤ (getAt s k).at'.toNat ∧ (getAt s k).at'.toNat ≤ s.size ∧ 0 ≤ (getAt s k).at') := getAt_at
      obtain ⟨f', rfl⟩ : ∃ f', f = f' + 1 := ⟨f - 1, by omega⟩
      have HBad : Hid ((getAt s k).code ≠ 0 → R = ([], (getAt s k).code)) := fun h => by rw [← HAll.out, allR_bad hlt h]
      have HFull : Hid ((getAt s k).code = 0 → 60 ≤ acc.length → R = ([], 11)) := fun h h' => by rw [← HAll.out, allR_full hlt h h']
      have HMore : Hid ((getAt s k).code = 0 → acc.length < 60 → allR s f' (getAt s k).at'.toNat (acc ++ [((getAt s k).tag, (getAt s k).body)]) = R) := fun h h' => by rw [← HAll.out, allR_more hlt h h']
      generalize getAt s k = g at *
      obtain ⟨g0, g1, g2, g3⟩ := g
      clear HAll
      unfold GetR.val at HG
      simp only at HG HAt HBad HFull HMore
      go_wp2_with fail
      refine (HG.out _ HB.out).mono ?_
      rintro e w1 ⟨rfl, hb1⟩
      have HB1 : Hid (Below w.heap.size w w1) := HB.out.trans (hb1.mono (by omega))
      have hs1 := hb1.size
      have HX0 : Hid (w1.heap[w.heap.size]? = some (.cells [.slice none 0 0, .int .i64 0].toArray 138 (0, 0))) := by show _ = _; rw [hb1.block _ (by omega)]; exact HR0.out
      have HO1 : Hid (OwnT w1 (w.heap.size + 1) (.slice va acc.length vc) acc) := OwnT.keep HO.out hb1
      clear hb1 HR0 HO HB HG
      obtain ⟨⟨c0, c1⟩, f0, f1⟩ := cells2 HX0.out
      have hl0 : w.heap.size < w1.heap.size := by omega
      by_cases hc : g3 = 0
      rotate_left
      · have HF : Hid (R = ([], g3)) := HBad.out hc
        have ec : (g3 != 0) = true := by rw [bne_iff_ne]; exact hc
        clear hc
        go_wp2_with fail
        refine bodyPost_ret (v := .agg #[.slice none 0 0, .int .i64 g3]) (by simp [results, Tryz.results145, go_sem, c0, c1, hl0]) rfl ⟨.slice none 0 0, ?_, ?_, ?_⟩
        · rw [HF.out]
        · rw [HF.out]; exact ownT_nil _ _
        · repeat (first | exact HB1.out | refine Below.setCell ?_ (by simp) _ | refine Below.alloc ?_ (by simp <;> omega) _)
      obtain ⟨at1, at2, at3⟩ := HAt.out hc
      by_cases h60 : acc.length = 60
      · have HF : Hid (R = ([], 11)) := HFull.out hc (by omega)
        have e60 : (acc.length : Int) = 60 := by omega
        subst hc
        go_wp2_with fail
        refine bodyPost_ret (v := .agg #[.slice none 0 0, .int .i64 11]) (by simp [results, Tryz.results145, go_sem, c0, c1, hl0]) rfl ⟨.slice none 0 0, ?_, ?_, ?_⟩
        · rw [HF.out]
        · rw [HF.out]; exact ownT_nil _ _
        · repeat (first | exact HB1.out | refine Below.setCell ?_ (by simp) _ | refine Below.alloc ?_ (by simp <;> omega) _)
      · have HF := HMore.out hc (by omega)
        have HF : Hid (allR s f' g2.toNat (acc ++ [(g0, g1)]) = R) := HF
        have e60 : ((acc.length : Int) == 60) = false := by rw [beq_eq_false_iff_ne]; omega
        obtain ⟨m, rfl⟩ := Int.eq_ofNat_of_zero_le at3
        subst hc
        clear HMore HFull HBad HAt f0 f1 c0 c1
        have hO : w1.ownsRow (w.heap.size + 1) 157 2 (.slice va acc.length vc) acc.length (tCells acc) := HO1.out
        go_wp2_with (at_builtin; refine wpList_append_own _ rfl _ _ 112 rfl (w.heap.size + 1) 157 i0 (.agg #[.int .i64 0, .string ⟨#[]⟩]) 2 24 Tryz.underlying112 hi hz0 hz1 hz2 rfl (by decide) _ _ _ rfl ((hO.alloc _).alloc _) ⟨w1.heap.size + 1, 0, none⟩ 1 1 [.int .i64 g0, .string g1] rfl rfl ?c1 ?c2 ?c3 ?c4 ?c5 ?_)
        case c1 =>
          intro j u hj
          rw [Addr.add_lit, Nat.zero_add]
          exact rowFacts (cs := [.int .i64 g0, .string g1]) (heap_alloc2 w1 _ _) j u hj
        case c2 => intro u hu; simp at hu; rcases hu with rfl | rfl <;> rfl
        case c3 => unfold maxLen; omega
        case c4 => omega
        case c5 => simp; omega
        intro v' w2 hown' hgrow _
        have hlt2 := fun k hk => hO.lt k hk
        have hB2 : Below w.heap.size w w2 := ((HB1.out.alloc (by omega) _).alloc (by simp; omega) _).grown hgrow (by simp; omega) (fun k hk => by have := (hlt2 k hk).1; omega)
        have hs2 : w1.heap.size + 2 ≤ w2.heap.size := by have := hgrow.size; simp at this; omega
        have HY0 : Hid (w2.heap[w.heap.size]? = some (.cells [.slice none 0 0, .int .i64 0].toArray 138 (0, 0))) := by
          show _ = _
          rw [hgrow.block _ (by simp; omega) (fun e => by have := (hlt2 _ e.symm).1; omega), Below.heap_alloc _ _ _ (by simp; omega), Below.heap_alloc _ _ _ hl0]
          exact HX0.out
        have hx2 : w2.cell? ⟨w1.heap.size, 2, none⟩ = some (.int .i64 (m : Int)) := by
          have hr : w2.heap[w1.heap.size]? = some (.cells [.int .i64 g0, .string g1, .int .i64 (m : Int), .int .i64 0].toArray 185 (0, 0)) := by
            rw [hgrow.block _ (by simp; omega) (fun e => by have := (hlt2 _ e.symm).2; omega), Below.heap_alloc _ _ _ (by simp)]
            exact heap_alloc_new w1 _
          exact rowFacts hr 2 _ rfl
        have HO2 : Hid (OwnT w2 (w.heap.size + 1) v' (acc ++ [(g0, g1)])) := by
          show World.ownsRow _ _ _ _ _ _ _
          rw [tCells_snoc, List.length_append]
          exact hown'
        have HB2 : Hid (Below w.heap.size w w2) := hB2
        clear hown' hgrow hlt2 hB2 hO
        go_wp2_with fail
        go_roundw
        case rel =>
          exact ⟨m, f', acc ++ [(g0, g1)], rfl, at2, by omega, by simp; omega, HF.out, HY0.out, HO2.out, HB2.out, by omega⟩
        case measure => simp [intOf]; omega
    · have HF : Hid (R = (acc, 0)) := by
        show _ = _
        rw [← HAll.out, allR_end (by omega)]
      obtain ⟨⟨c0, c1⟩, f0, f1⟩ := cells2 HR0.out
      go_wp2_with fail
      refine bodyPost_ret (v := .agg #[.slice va acc.length vc, .int .i64 0]) (by simp [results, Tryz.results145, go_sem, c0, c1]) rfl ⟨.slice va acc.length vc, ?_, ?_, ?_⟩
      · rw [HF.out]
      · rw [HF.out]
        exact (OwnT.other (OwnT.other HO.out (by omega)) (by omega)).mono (by omega)
      · repeat (first | exact HB.out | refine Below.setCell ?_ (by simp) _ | refine Below.alloc ?_ (by simp <;> omega) _)
end Go.Proofs.YtkhdjmjbdpmdnaaGreatDoor
namespace Go.Proofs.YtkhdjmjbdpmdnaaGreatDoor
open Go.RowKit

/-- The things l lie behind the address (none at all: any address serves). -/
def IsT (w : World) (a : Option Addr) (l : List (Int × ByteArray)) : Prop :=
  l = [] ∨ ∃ g, a = some ⟨g, 0, none⟩ ∧ g < w.heap.size ∧ ∀ i p, l[i]? = some p → w.cell? ⟨g, i * 2, none⟩ = some (.int .i64 p.1) ∧ w.cell? ⟨g, i * 2 + 1, none⟩ = some (.string p.2)
theorem IsT.keep {w w' : World} {a : Option Addr} {l : List (Int × ByteArray)} (h : IsT w a l) (hb : Below w.heap.size w w') : IsT w' a l := by
  rcases h with h | ⟨g, rfl, hg, hc⟩
  · exact .inl h
  · refine .inr ⟨g, rfl, Nat.lt_of_lt_of_le hg hb.size, fun i p hp => ?_⟩
    rw [hb.cell (p := ⟨g, i * 2, none⟩) hg, hb.cell (p := ⟨g, i * 2 + 1, none⟩) hg]
    exact hc i p hp
theorem OwnT.isT {w : World} {B : Nat} {a : Option Addr} {n c : Nat} {l : List (Int × ByteArray)} (h : OwnT w B (.slice a n c) l) : IsT w a l := by
  rcases h.2 with ⟨_, h'⟩ | ⟨g, cap, cur, e, _, hg, _, _, _, ht⟩
  · exact .inl (List.eq_nil_of_length_eq_zero h')
  · simp only [Value.slice.injEq] at e
    obtain ⟨rfl, _, _⟩ := e
    refine .inr ⟨g, rfl, heap_lt hg, fun i p hp => ?_⟩
    have hl : i < l.length := by
      rcases Nat.lt_or_ge i l.length with h' | h'
      · exact h'
      · rw [List.getElem?_eq_none h'] at hp; cases hp
    obtain ⟨k0, k1⟩ := tCells_at l i p hp
    rw [Nat.mul_comm 2 i] at k0 k1
    rw [← ht, List.getElem?_take, if_pos (by omega)] at k0 k1
    rw [cell_of_row w g _ _ _ (0, 0) hg, cell_of_row w g _ _ _ (0, 0) hg]
    exact ⟨by simpa using k0, by simpa using k1⟩
end Go.Proofs.YtkhdjmjbdpmdnaaGreatDoor
namespace Go.Proofs.YtkhdjmjbdpmdnaaGreatDoor
open Go.RowKit

/-- The places ks lie in block g. -/
def IsPl (w : World) (g : Nat) (ks : List Nat) : Prop := ∀ i, i < ks.length → w.cell? ⟨g, i, none⟩ = some (.int .i64 ((ks.getD i 0 : Nat) : Int))
theorem IsPl.row {w : World} {g : Nat} {t : TypeId} {ks : List Nat} (h : w.heap[g]? = some (.cells (ks.map fun k : Nat => Value.int .i64 (k : Int)).toArray t (0, 0))) : IsPl w g ks := fun i hi => by
  rw [cell_of_row w g i _ t (0, 0) h]
  simp [List.getD, hi]
theorem atP_step {s : ByteArray} {ks : List Nat} {k : Nat} (h : k < ks.length) : atP s (ks.drop k) = if ks.getD k 0 < (allD s).1.length then atP (bodyK s (ks.getD k 0)) (ks.drop (k + 1)) else ⟨#[]⟩ := by
  rw [List.drop_eq_getElem_cons h, atP, List.getD, List.getElem?_eq_getElem h]
  rfl
theorem tlvs (v : Value) (c : Int) (w : World) : (Instr.field 138 (.agg #[v, .int .i64 c]) 0).run Tryz.prog w = .ok v w := by kernel_rfl
set_option linter.unusedSimpArgs false in
set_option maxHeartbeats 4000000 in
set_option maxRecDepth 100000 in
theorem implAt (s : ByteArray) (ks : List Nat) (g c : Nat) (w : World) (hs : s.size ≤ 20000) (hl : ks.length ≤ 4) (hk : ∀ i, i < ks.length → ks.getD i 0 ≤ 100) (hgl : g < w.heap.size) (hg : IsPl w g ks) (hE : ErrType w) :
    Calls Tryz.prog 144 #[.string s, .slice (some ⟨g, 0, none⟩) ks.length c] w fun e w' => e = .returned (.string (atP s ks)) ∧ Below w.heap.size w w' := by
  have hEp := hE.pos
  have HE : Hid (∀ V, Below w.heap.size w V → ErrType V) := fun V hV => hE.below hV hEp
  have HPl : Hid (∀ V, Below w.heap.size w V → IsPl V g ks) := fun V hV i hi => by rw [hV.cell (p := ⟨g, i, none⟩) hgl]; exact hg i hi
  have HKl : Hid (∀ i, i < ks.length → ks.getD i 0 ≤ 100) := hk
  have HAl : Hid (∀ V (q : ByteArray), ErrType V → q.size ≤ 20000 → Calls Tryz.prog 145 #[.string q] V fun e w' => ∃ v, e = .returned (.agg #[v, .int .i64 (allD q).2]) ∧ OwnT w' V.heap.size v (allD q).1 ∧ Below V.heap.size V w') := fun V q hV hq => implDerAll q V (by unfold maxLen; omega) hV
  obtain ⟨R, hR⟩ : ∃ R, R = atP s ks := ⟨_, rfl⟩
  rw [← hR]
  have HR : Hid (R = atP s ks) := hR
  clear hR hE hg hk hEp hgl
  go_enter Tryz.func144, Tryz.ntmps144
  go_wp2
  go_loopw [0, 10] (fun r i wr => ∃ (k : Nat) (q : ByteArray), k ≤ ks.length ∧ i = .int .i64 k ∧ r = .string q ∧ atP s ks = atP q (ks.drop k) ∧ q.size ≤ 20000 ∧ Below w.heap.size w wr) (fun _ i _ => ks.length - (intOf i).toNat)
  case atStart => exact ⟨0, s, Nat.zero_le _, rfl, rfl, rfl, hs, Below.refl _ _⟩
  case round =>
    obtain ⟨k, q, hk, rfl, rfl, hat, hq, hbr⟩ := hrel
    have HB : Hid (Below w.heap.size w wr) := hbr
    by_cases hlt : k < ks.length
    · have hck := HPl.out wr hbr k hlt
      have hp := HKl.out k hlt
      have hst := atP_step (s := q) hlt
      have HX : Hid (R = if ks.getD k 0 < (allD q).1.length then atP (bodyK q (ks.getD k 0)) (ks.drop (k + 1)) else ⟨#[]⟩) := HR.out.trans (hat.trans hst)
      have HAt : Hid (atP s ks = atP q (ks.drop k)) := hat
      have HSt : Hid (atP q (ks.drop k) = if ks.getD k 0 < (allD q).1.length then atP (bodyK q (ks.getD k 0)) (ks.drop (k + 1)) else ⟨#[]⟩) := hst
      have a0 : (0 : Int) ≤ (k : Int) := by omega
      have b0 : (k : Int) < (ks.length : Int) := by omega
      have HC : Hid (Calls Tryz.prog 145 #[.string q] wr fun e w' => ∃ v, e = .returned (.agg #[v, .int .i64 (allD q).2]) ∧ OwnT w' wr.heap.size v (allD q).1 ∧ Below wr.heap.size wr w') := HAl.out wr q (HE.out _ hbr) hq
      have hlen := allD_len q
      have HBk : Hid (∀ n p, (allD q).1[n]? = some p → bodyK q n = p.2) := fun n p h => by unfold bodyK; rw [h]; rfl
      have HBl : Hid (∀ n, (bodyK q n).size ≤ 20000) := fun n => Nat.le_trans (bodyK_le q n) hq
      have tl := tlvs
      obtain ⟨L, hL⟩ : ∃ L, L = (allD q).1 := ⟨_, rfl⟩
      rw [← hL] at HX HSt HC hlen HBk
      obtain ⟨p, hpk⟩ : ∃ p, p = ks.getD k 0 := ⟨_, rfl⟩
      rw [← hpk] at hck hp HX HSt
      generalize (allD q).2 = cd at *
      obtain ⟨n, hn⟩ : ∃ n, n = ks.length := ⟨_, rfl⟩
      rw [← hn] at b0 ⊢
      have HN : Hid (n = ks.length) := hn
      have hkn : k < n := by omega
      clear hat hst hbr hL hpk HAl hn hlt
      have zero0 : (0 : Nat) + k = k := Nat.zero_add k
      go_wp2_with fail
      refine HC.out.mono ?_
      rintro e w2 ⟨v, rfl, ho, b2⟩
      have B2 : Hid (Below w.heap.size w w2) := HB.out.trans (b2.mono HB.out.size)
      obtain ⟨va, vc, rfl⟩ := OwnT.form ho
      have hI := ho.isT
      clear ho b2
      by_cases hpl : p < L.length
      · obtain ⟨y, hy⟩ : ∃ y, L[p]? = some y := ⟨L[p], List.getElem?_eq_getElem hpl⟩
        obtain ⟨g2, rfl, hg2, hcs⟩ : ∃ g2, va = some ⟨g2, 0, none⟩ ∧ g2 < w2.heap.size ∧ ∀ i p, L[i]? = some p → w2.cell? ⟨g2, i * 2, none⟩ = some (.int .i64 p.1) ∧ w2.cell? ⟨g2, i * 2 + 1, none⟩ = some (.string p.2) := by
          rcases hI with h | h
          · subst h; simp at hpl
          · exact h
        obtain ⟨k0, k1⟩ := hcs p y hy
        have hby := HBk.out p y hy
        have HF : Hid (∃ (j : Nat) (q' : ByteArray), j ≤ ks.length ∧ Value.int .i64 ((k : Int) + 1) = .int .i64 (j : Int) ∧ Value.string y.2 = .string q' ∧ atP s ks = atP q' (ks.drop j) ∧ q'.size ≤ 20000) := ⟨k + 1, y.2, by have := HN.out; omega, by congr 1, rfl, by rw [HAt.out, HSt.out, if_pos hpl, hby], by rw [← hby]; exact HBl.out p⟩
        generalize y.2 = yb at *
        generalize y.1 = yt at *
        have a1 : (0 : Int) ≤ (p : Int) := by omega
        have b1 : (p : Int) < (L.length : Int) := by omega
        have b2' : ¬ (L.length : Int) ≤ (p : Int) := by omega
        generalize L.length = ll at *
        clear hcs hI hby hy HBk HBl HX HAt HSt
        go_wp2_with fail
        go_roundw
        case rel =>
          obtain ⟨j, q', j1, j2, j3, j4, j5⟩ := HF.out
          exact ⟨j, q', by first | exact j1 | (rw [HN.out]; exact j1), by first | exact j2 | (rw [← j2]; simp; omega), j3, j4, j5, B2.out⟩
        case measure => simp [intOf]; omega
      · have HF : Hid (R = ⟨#[]⟩) := by show _ = _; rw [HX.out, if_neg hpl]
        have b1 : (L.length : Int) ≤ (p : Int) := by omega
        generalize L.length = ll at *
        clear hI HBk HBl HX HAt HSt
        go_wp2
        go_ret
        exact ⟨by rw [HF.out]; rfl, B2.out⟩
    · obtain rfl : k = ks.length := by omega
      have HF : Hid (R = q) := by show _ = _; rw [HR.out, hat, List.drop_length]; rfl
      clear hat hbr HAl
      go_wp2
      go_ret
      exact ⟨by rw [HF.out]; rfl, HB.out⟩
end Go.Proofs.YtkhdjmjbdpmdnaaGreatDoor
namespace Go.Proofs.YtkhdjmjbdpmdnaaGreatDoor
end Go.Proofs.YtkhdjmjbdpmdnaaGreatDoor
