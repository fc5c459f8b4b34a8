/- strings.Split at a dot: by the shelf's genSplit and its callees at one byte. errors.As at the target '*impl.byteFault', by its contracts: a nil error: false; an error that is a byteFault: true, and the target is set. After the guide's worked example. errors.As once more, with the world by what it keeps. errors.As with the world by what it keeps, beside the reading of a number. impl.GetNum at every argument. -/
import Derived.Test.YtdehbaafbbjcgaaGreatDoorJT01
import Derived.Test.YtdehbaafbbjcgaaGreatDoorJT12
import Derived.Test.YtdehbaafbbjcgaaGreatDoorJT24
import Derived.Test.YtdehbaafbbjcgaaGreatDoorRows
import Derived.WalkKit
import Derived.LaidEql
import Derived.Stop.Asserts
import Derived.RowKitTokens
import Derived.Below
import Derived.Test.YtdehbaafbbjcgaaGreatDoorJT13
namespace Go.Proofs.YtdehbaafbbjcgaaGreatDoor
open Go.RowKit Go.Lib

theorem spl_splitK : ∀ (k : Nat) (l : List UInt8), count l [46] = k → (splitK [46] 0 k l).map (fun p => p.map UInt8.toNat) = spl (l.map UInt8.toNat) []
  | k, l, hk => by
    have hidx : index l [46] = indexByte l 46 := index_one l 46
    by_cases hn : indexByte l 46 = -1
    · have h1 := indexByte_none hn
      have hno : ∀ x ∈ l.map UInt8.toNat, x ≠ 46 := by
        intro x hx
        obtain ⟨u, hu, rfl⟩ := List.mem_map.1 hx
        obtain ⟨i, hi⟩ := List.mem_iff_getElem?.1 hu
        intro e
        have : u = 46 := by
          apply UInt8.toNat_inj.1
          rw [e]
          rfl
        exact h1 i (by rw [hi, this])
      rw [spl_end _ _ hno, List.nil_append]
      cases k with
      | zero => rfl
      | succ k => rw [splitK, hidx, hn]; rfl
    · have hge := indexByte_ge l 46
      obtain ⟨o, ho⟩ : ∃ o : Nat, indexByte l 46 = o := ⟨(indexByte l 46).toNat, by omega⟩
      obtain ⟨h1, h2⟩ := indexByte_some ho
      have hol : o < l.length := by
        rcases Nat.lt_or_ge o l.length with h | h
        · exact h
        · rw [List.getElem?_eq_none h] at h1; cases h1
      have hd : l = l.take o ++ 46 :: l.drop (o + 1) := by
        conv => lhs; rw [← List.take_append_drop o l, List.drop_eq_getElem_cons hol]
        rw [List.getElem?_eq_getElem hol] at h1
        rw [Option.some.inj h1]
      have hno8 : ∀ u ∈ l.take o, u ≠ 46 := by
        intro u hu e
        obtain ⟨i, hi⟩ := List.mem_iff_getElem?.1 hu
        rw [List.getElem?_take] at hi
        split at hi
        · rename_i hio
          exact h2 i hio (by rw [hi, e])
        · cases hi
      have hno : ∀ x ∈ (l.take o).map UInt8.toNat, x ≠ 46 := by
        intro x hx
        obtain ⟨u, hu, rfl⟩ := List.mem_map.1 hx
        intro e
        refine hno8 u hu ?_
        apply UInt8.toNat_inj.1
        rw [e]
        rfl
      have hc : count l [46] = count (l.drop (o + 1)) [46] + 1 := by
        rw [count_one, count_one]
        conv => lhs; rw [hd]
        rw [List.count_append, List.count_cons_self, List.count_eq_zero_of_not_mem (fun h => hno8 _ h rfl)]
        omega
      obtain ⟨k', rfl⟩ : ∃ k', k = k' + 1 := ⟨count (l.drop (o + 1)) [46], by omega⟩
      have ih := spl_splitK k' (l.drop (o + 1)) (by omega)
      have hb : ((o : Int) == -1) = false := by
        rw [beq_eq_false_iff_ne]
        omega
      rw [splitK, hidx, ho, hb]
      simp only [Bool.false_eq_true, if_false, Int.toNat_natCast, Nat.add_zero, List.length_cons, List.length_nil, Nat.zero_add, List.map_cons]
      rw [ih]
      conv => rhs; rw [hd]
      rw [List.map_append, List.map_cons]
      have e46 : UInt8.toNat 46 = 46 := rfl
      rw [e46, spl_dot _ _ _ hno]
      rfl
  termination_by k => k
theorem splitB_pcs (s : ByteArray) : splitB ⟨#[46]⟩ 0 (countB s ⟨#[46]⟩) s = pcs s := by
  have h1 := splitB_data ⟨#[46]⟩ 0 (countB s ⟨#[46]⟩) s
  have h2 := spl_splitK (count s.data.toList [46]) s.data.toList rfl
  have h3 : (splitB ⟨#[46]⟩ 0 (countB s ⟨#[46]⟩) s).map bts = spl (bts s) [] := by
    have e : (splitB ⟨#[46]⟩ 0 (countB s ⟨#[46]⟩) s).map bts = ((splitB ⟨#[46]⟩ 0 (countB s ⟨#[46]⟩) s).map (·.data.toList)).map (fun p => p.map UInt8.toNat) := by
      rw [List.map_map]
      rfl
    rw [e, h1]
    exact h2
  unfold pcs
  rw [← h3, List.map_map]
  conv => lhs; rw [← List.map_id (splitB ⟨#[46]⟩ 0 (countB s ⟨#[46]⟩) s)]
  apply List.map_congr_left
  intro x _
  exact (natT_bts x).symm
set_option maxHeartbeats 1000000 in
theorem genSplitDot (s : ByteArray) (w : World) (hs : s.size ≤ 20000) :
    Calls Tryz.prog 86 #[.string s, .string ⟨#[46]⟩, .int .i64 0, .int .i64 (-1)] w fun e w' =>
      e = .returned (.slice (some ⟨w.heap.size, 0, none⟩) (pcs s).length (pcs s).length) ∧ w' = w.alloc (.cells ((pcs s).map Value.string).toArray 9) := by
  have hC : Calls Tryz.prog (splitLays_ren.f 138) #[.string s, .string ⟨#[46]⟩] w fun e w' => e = .returned (.int .i64 (countB s ⟨#[46]⟩)) ∧ w' = w := by
    refine (Any.strings_Count_one { splitLays with } s 46 w).mono fun e w' ⟨he, hw⟩ => ⟨?_, hw⟩
    rw [he]
    show _ = Ending.returned (Value.int .i64 ((count s.data.toList [46] : Nat) : Int))
    rw [count_one]
    rfl
  have hI : ∀ (x : ByteArray) (c : Array Value), x.size ≤ s.size → Calls Tryz.prog (splitLays_ren.f 143) #[.string x, .string ⟨#[46]⟩] (w.alloc (.cells c (splitLays_ren.t 9))) fun e w' => e = .returned (.int .i64 (indexB x ⟨#[46]⟩)) ∧ w' = w.alloc (.cells c (splitLays_ren.t 9)) := by
    intro x c _
    refine (Any.strings_Index_one { splitLays with } x 46 _).mono fun e w' ⟨he, hw⟩ => ⟨?_, hw⟩
    rw [he]
    show _ = Ending.returned (Value.int .i64 (index x.data.toList [46]))
    rw [index_one]
  have hcl := countB_le ⟨#[46]⟩ (Nat.le_refl 1) s.size s (Nat.le_refl _)
  have hl := splitB_all ⟨#[46]⟩ (Nat.le_refl 1) 0 (countB s ⟨#[46]⟩) s rfl
  have h := Any.strings_genSplit_core splitLays (by kernel_rfl) s ⟨#[46]⟩ 0 (-1) (countB s ⟨#[46]⟩ + 1) w (by omega) (Nat.le_refl 1) (Nat.zero_le _) hI hC (by decide) (by decide) (by rw [if_pos (by decide)]; omega)
  rw [Nat.add_sub_cancel] at h
  rw [splitB_pcs] at h hl
  rw [← hl] at h
  have e2 : cellsOf (pcs s) (pcs s).length = ((pcs s).map Value.string).toArray := cellsOf_full _
  rw [e2] at h
  exact h
set_option maxHeartbeats 1000000 in
theorem implSplit (s : ByteArray) (w : World) (hs : s.size ≤ 20000) :
    Calls Tryz.prog 64 #[.string s, .string ⟨#[46]⟩] w fun e w' =>
      e = .returned (.slice (some ⟨w.heap.size, 0, none⟩) (pcs s).length (pcs s).length) ∧ w' = w.alloc (.cells ((pcs s).map Value.string).toArray 9) := by
  have HG : Hid (∀ V, Calls Tryz.prog 86 #[.string s, .string ⟨#[46]⟩, .int .i64 0, .int .i64 (-1)] V fun e w' => e = .returned (.slice (some ⟨V.heap.size, 0, none⟩) (pcs s).length (pcs s).length) ∧ w' = V.alloc (.cells ((pcs s).map Value.string).toArray 9)) := fun V => genSplitDot s V hs
  go_enter Tryz.func64, Tryz.ntmps64
  go_wp2_with fail
  refine (HG.out w).mono ?_
  rintro e w2 ⟨rfl, hw⟩
  have HW : Hid _ := hw
  clear hw
  go_wp2
  go_ret
  exact ⟨rfl, HW.out⟩
end Go.Proofs.YtdehbaafbbjcgaaGreatDoor
namespace Go.Proofs.YtdehbaafbbjcgaaGreatDoor
open Go.RowKit Go.Extern.Stop Go.Stop Go.Extern

theorem as_nil (t : Value) (w : World) :
    Calls Tryz.prog 88 #[.nilIface, t] w fun e w' => e = .returned (.bool false) ∧ w' = w := by
  go_enter Tryz.func88, Tryz.ntmps88
  go_wp2
  go_ret
  exact ⟨rfl, rfl⟩

theorem valueOfP (t : Addr) (w : World) : (ReflectliteValue.unpack (.iface 102 (.pointer (some t)))).run Tryz.prog w
    = .ok (.agg #[.pointer (some ⟨5, 102, none⟩), .pointer (some ⟨w.heap.size, 0, none⟩), .int .u64 150]) (w.alloc (.cells #[.pointer (some t)] 102)) := by kernel_rfl
theorem typeP (a : Addr) (w : World) : (ReflectliteValue.methodAny (ReflectliteValue.valueError "reflectlite.Value.Type" 0) (fun t _ _ _ => ReflectliteType.toType t) #[.agg #[.pointer (some ⟨5, 102, none⟩), .pointer (some a), .int .u64 150]]).run Tryz.prog w
    = .ok (.iface 144 (.agg #[.pointer (some ⟨5, 102, none⟩)])) w := by kernel_rfl
theorem methodKind (h : Value) (w : World) : (Go.method 297 144 (.agg #[h]) "Kind").run Tryz.prog w = .ok (150, h) w := by kernel_rfl
theorem kindP (w : World) : ((ReflectliteType.abiMethod fun t => (fun a : Nat => Value.int IntKind.u8 (a : Int)) <$> Rtype.kind t) #[.pointer (some ⟨5, 102, none⟩)]).run Tryz.prog w = .ok (.int .u8 22) w := by kernel_rfl
theorem kindS (w : World) : ((ReflectliteType.abiMethod fun t => (fun a : Nat => Value.int IntKind.u8 (a : Int)) <$> Rtype.kind t) #[.pointer (some ⟨5, 100, none⟩)]).run Tryz.prog w = .ok (.int .u8 25) w := by kernel_rfl
theorem partsP (a : Addr) (w : World) : (ReflectliteValue.parts (.agg #[.pointer (some ⟨5, 102, none⟩), .pointer (some a), .int .u64 150])).run Tryz.prog w = .ok (some (102, a, 150)) w := by kernel_rfl
theorem isNilP (a p : Addr) (W : World) (ha : W.cell? a = some (.pointer (some p))) :
    (ReflectliteValue.method (ReflectliteValue.valueError "reflectlite.Value.IsNil" 0) ReflectliteValue.isNil #[.agg #[.pointer (some ⟨5, 102, none⟩), .pointer (some a), .int .u64 150]]).run Tryz.prog W = .ok (.bool false) W := by
  unfold ReflectliteValue.method ReflectliteValue.method.match_2
  simp [Array.getLit, partsP, ReflectliteValue.isNil, loadVar, isAgg, underlying, Tryz.underlying102, ha, Result.andThen]
theorem methodElem (h : Value) (w : World) : (Go.method 297 144 (.agg #[h]) "Elem").run Tryz.prog w = .ok (160, .agg #[h]) w := by kernel_rfl
theorem methodImplements (h : Value) (w : World) : (Go.method 297 144 (.agg #[h]) "Implements").run Tryz.prog w = .ok (161, .agg #[h]) w := by kernel_rfl
theorem methodAssignableTo (h : Value) (w : World) : (Go.method 297 144 (.agg #[h]) "AssignableTo").run Tryz.prog w = .ok (158, .agg #[h]) w := by kernel_rfl
theorem elemP (w : World) : (ReflectliteType.method ReflectliteType.elem #[.agg #[.pointer (some ⟨5, 102, none⟩)]]).run Tryz.prog w = .ok (.iface 144 (.agg #[.pointer (some ⟨5, 100, none⟩)])) w := by kernel_rfl
theorem implementsS (w : World) : (ReflectliteType.relation "Implements" ReflectliteType.implements_ #[.agg #[.pointer (some ⟨5, 100, none⟩)], .iface 144 (.agg #[.pointer (some ⟨5, 96, none⟩)])]).run Tryz.prog w = .ok (.bool true) w := by kernel_rfl
theorem typeOfS (v : Value) (w : World) : (ReflectliteType.typeOf #[.iface 100 v]).run Tryz.prog w = .ok (.iface 144 (.agg #[.pointer (some ⟨5, 100, none⟩)])) w := by kernel_rfl
theorem assignableS (w : World) : (ReflectliteType.relation "AssignableTo" ReflectliteType.assignableTo #[.agg #[.pointer (some ⟨5, 100, none⟩)], .iface 144 (.agg #[.pointer (some ⟨5, 100, none⟩)])]).run Tryz.prog w = .ok (.bool true) w := by kernel_rfl
theorem valueOfS (c : Int) (w : World) : (ReflectliteValue.unpack (.iface 100 (.agg #[.int .i64 c]))).run Tryz.prog w
    = .ok (.agg #[.pointer (some ⟨5, 100, none⟩), .pointer (some ⟨w.heap.size, 0, none⟩), .int .u64 153]) (w.alloc (.cells #[.int .i64 c] 100)) := by kernel_rfl
theorem elemOfP (w : World) : (Rtype.elem? 102).run Tryz.prog w = .ok (some 100) w := by kernel_rfl
theorem mkS (p : Addr) (w : World) : (ReflectliteValue.mk 100 p ReflectliteValue.flagAddr).run Tryz.prog w = .ok (.agg #[.pointer (some ⟨5, 100, none⟩), .pointer (some p), .int .u64 409]) w := by kernel_rfl
theorem elemVP (a p : Addr) (W : World) (ha : W.cell? a = some (.pointer (some p))) :
    (ReflectliteValue.method (ReflectliteValue.valueError "reflectlite.Value.Elem" 0) ReflectliteValue.elem #[.agg #[.pointer (some ⟨5, 102, none⟩), .pointer (some a), .int .u64 150]]).run Tryz.prog W
      = .ok (.agg #[.pointer (some ⟨5, 100, none⟩), .pointer (some p), .int .u64 409]) W := by
  unfold ReflectliteValue.method ReflectliteValue.method.match_2
  simp [Array.getLit, partsP, ReflectliteValue.elem, loadVar, isAgg, underlying, Tryz.underlying102, ha, Result.andThen, elemOfP, mkS]
theorem partsSa (a : Addr) (w : World) : (ReflectliteValue.parts (.agg #[.pointer (some ⟨5, 100, none⟩), .pointer (some a), .int .u64 409])).run Tryz.prog w = .ok (some (100, a, 409)) w := by kernel_rfl
theorem partsS (a : Addr) (w : World) : (ReflectliteValue.parts (.agg #[.pointer (some ⟨5, 100, none⟩), .pointer (some a), .int .u64 153])).run Tryz.prog w = .ok (some (100, a, 153)) w := by kernel_rfl
theorem directS (w : World) : (Rtype.directlyAssignable 100 100).run Tryz.prog w = .ok true w := by kernel_rfl
theorem sizeS (w : World) : (sizeOf 100).run Tryz.prog w = .ok 1 w := by kernel_rfl
theorem setS (ta b : Addr) (c : Int) (old : Value) (W : World) (hb : W.cell? b = some (.int .i64 c)) (ht : W.cell? ta = some old) (hf : W.frozen? ta = false) :
    (ReflectliteValue.set #[.agg #[.pointer (some ⟨5, 100, none⟩), .pointer (some ta), .int .u64 409], .agg #[.pointer (some ⟨5, 100, none⟩), .pointer (some b), .int .u64 153]]).run Tryz.prog W
      = .ok (.tuple #[]) (W.setCell ta (.int .i64 c)) := by
  have hl : (loadCells b 1).run Tryz.prog W = .ok #[.int .i64 c] W := by
    have := run_loadCells_list (P := Tryz.prog) W b [.int .i64 c] (fun j v hj => by
      match j, hj with
      | 0, hj => simp at hj; subst hj; simpa [Addr.add] using hb)
    simpa using this
  unfold ReflectliteValue.set ReflectliteValue.set.match_3
  simp [Array.getLit, partsSa, partsS, ReflectliteValue.flagAddr, loadVar, isAgg, underlying, Tryz.underlying100, Result.andThen, directS, storeVar, Value.cells, hl, storeCells, Addr.add]
  rw [run_store Tryz.prog W ta _ _ (by rfl)]
  simp [ht, hf]
def asBox (n : Nat) : Obj := .cells #[.pointer (some ⟨5, 102, none⟩), .pointer (some ⟨n, 0, none⟩), .int .u64 150] 125
def asW (t : Addr) (c : Int) (w : World) : World := (((w.alloc (.cells #[.pointer (some t)] 102)).alloc (asBox w.heap.size)).alloc (asBox w.heap.size)).alloc (.cells #[.int .i64 c] 100)
set_option maxHeartbeats 4000000 in
set_option maxRecDepth 100000 in
theorem as_hit (t : Addr) (c : Int) (old : Value) (w : World) (hg : w.cell? ⟨0, 0, none⟩ = some (.iface 144 (.agg #[.pointer (some ⟨5, 96, none⟩)]))) (ht0 : w.cell? t = some old) (hf0 : w.frozen? t = false) :
    Calls Tryz.prog 88 #[.iface 100 (.agg #[.int .i64 c]), .iface 102 (.pointer (some t))] w fun ev w' => ev = .returned (.bool true) ∧ w' = (asW t c w).setCell t (.int .i64 c) := by
  have hVO := @run_callFunc_extern Tryz.prog 105 _ (fun args => ReflectliteValue.unpack (args.getD 0 (.tuple #[]))) Tryz.func105 (by kernel_rfl) (by kernel_rfl) (by kernel_rfl) (by kernel_rfl)
  have hVT := @run_callFunc_extern Tryz.prog 106 _ (ReflectliteValue.methodAny (ReflectliteValue.valueError "reflectlite.Value.Type" 0) (fun t _ _ _ => ReflectliteType.toType t)) Tryz.func106 (by kernel_rfl) (by kernel_rfl) (by kernel_rfl) (by kernel_rfl)
  have hVN := @run_callFunc_extern Tryz.prog 107 _ (ReflectliteValue.method (ReflectliteValue.valueError "reflectlite.Value.IsNil" 0) ReflectliteValue.isNil) Tryz.func107 (by kernel_rfl) (by kernel_rfl) (by kernel_rfl) (by kernel_rfl)
  have hK := @run_callFunc_extern Tryz.prog 150 _ (ReflectliteType.abiMethod fun t => do pure (.int .u8 (← Rtype.kind t))) Tryz.func150 (by kernel_rfl) (by kernel_rfl) (by kernel_rfl) (by kernel_rfl)
  have hTE := @run_callFunc_extern Tryz.prog 160 _ (ReflectliteType.method ReflectliteType.elem) Tryz.func160 (by kernel_rfl) (by kernel_rfl) (by kernel_rfl) (by kernel_rfl)
  have hTI := @run_callFunc_extern Tryz.prog 161 _ (ReflectliteType.relation "Implements" ReflectliteType.implements_) Tryz.func161 (by kernel_rfl) (by kernel_rfl) (by kernel_rfl) (by kernel_rfl)
  have hTO := @run_callFunc_extern Tryz.prog 122 _ ReflectliteType.typeOf Tryz.func122 (by kernel_rfl) (by kernel_rfl) (by kernel_rfl) (by kernel_rfl)
  have hTA := @run_callFunc_extern Tryz.prog 158 _ (ReflectliteType.relation "AssignableTo" ReflectliteType.assignableTo) Tryz.func158 (by kernel_rfl) (by kernel_rfl) (by kernel_rfl) (by kernel_rfl)
  have hVE := @run_callFunc_extern Tryz.prog 123 _ (ReflectliteValue.method (ReflectliteValue.valueError "reflectlite.Value.Elem" 0) ReflectliteValue.elem) Tryz.func123 (by kernel_rfl) (by kernel_rfl) (by kernel_rfl) (by kernel_rfl)
  have hVS := @run_callFunc_extern Tryz.prog 124 _ ReflectliteValue.set Tryz.func124 (by kernel_rfl) (by kernel_rfl) (by kernel_rfl) (by kernel_rfl)
  have x1 := typeOfS
  have x2 := methodAssignableTo
  have x3 := assignableS
  have x4 := valueOfS
  have x5 := valueOfP
  have x6 := typeP
  have x7 := methodKind
  have x8 := methodElem
  have x9 := methodImplements
  have x10 := kindP
  have x11 := kindS
  have x12 := elemP
  have x13 := implementsS
  have n8 := isNilP ⟨w.heap.size, 0, none⟩ t ((w.alloc (.cells #[.pointer (some t)] 102)).alloc (asBox w.heap.size)) (by simp [asBox])
  have hlt : 0 < w.heap.size := World.block_lt_of_cell? w _ hg
  have hg2 : ((w.alloc (.cells #[.pointer (some t)] 102)).alloc (asBox w.heap.size)).cell? ⟨0, 0, none⟩ = some (.iface 144 (.agg #[.pointer (some ⟨5, 96, none⟩)])) := by
    rw [World.cell?_alloc_lt _ _ ⟨0, 0, none⟩ (by simp <;> omega), World.cell?_alloc_lt _ _ ⟨0, 0, none⟩ hlt]; exact hg
  have htl : t.block < w.heap.size := by
    rcases Nat.lt_or_ge t.block w.heap.size with h | h
    · exact h
    · simp [World.cell?, Array.getElem?_eq_none h] at ht0
  have el := elemVP ⟨w.heap.size, 0, none⟩ t (((w.alloc (.cells #[.pointer (some t)] 102)).alloc (asBox w.heap.size)).alloc (asBox w.heap.size)) (by rw [World.cell?_alloc_lt _ _ ⟨w.heap.size, 0, none⟩ (by simp <;> omega)]; simp [asBox])
  have st := setS t ⟨w.heap.size + 1 + 1 + 1, 0, none⟩ c old (asW t c w)
    (by unfold asW; rw [World.cell?_alloc_at _ _ _ _ (by simp)]; rfl)
    (by unfold asW; rw [World.cell?_alloc_lt _ _ t (by simp <;> omega), World.cell?_alloc_lt _ _ t (by simp <;> omega), World.cell?_alloc_lt _ _ t (by simp <;> omega), World.cell?_alloc_lt _ _ t htl]; exact ht0)
    (by unfold asW; rw [World.frozen?_alloc_old _ _ t (by simp <;> omega), World.frozen?_alloc_old _ _ t (by simp <;> omega), World.frozen?_alloc_old _ _ t (by simp <;> omega), World.frozen?_alloc_old _ _ t (Nat.ne_of_lt htl)]; exact hf0)
  unfold asW at st ⊢
  unfold asBox at *
  go_enter Tryz.func88, Tryz.ntmps88
  go_wp2
  refine wp_loop_rounds 1 ?_
  rw [rounds_succ]
  go_wp2
  go_ret
  exact ⟨rfl, rfl⟩
end Go.Proofs.YtdehbaafbbjcgaaGreatDoor
namespace Go.Proofs.YtdehbaafbbjcgaaGreatDoor
open Go.RowKit Go.Lib

def ErrType (w : World) : Prop := w.cell? ⟨0, 0, none⟩ = some (.iface 144 (.agg #[.pointer (some ⟨5, 96, none⟩)]))
theorem ErrType.pos {w : World} (h : ErrType w) : 0 < w.heap.size := World.block_lt_of_cell? w _ h
theorem ErrType.below {w w' : World} {B : Nat} (h : ErrType w) (hb : Below B w w') (hB : 0 < B) : ErrType w' := by
  unfold ErrType at *
  rw [hb.cell hB]; exact h
theorem below_asW (t : Addr) (c : Int) (w : World) : Below w.heap.size w (asW t c w) := by
  unfold asW
  exact ((((Below.refl _ _).alloc (Nat.le_refl _) _).alloc (by simp) _).alloc (by simp; omega) _).alloc (by simp; omega) _
theorem size_asW (t : Addr) (c : Int) (w : World) : (asW t c w).heap.size = w.heap.size + 4 := by
  unfold asW
  simp

theorem as_hit2 (t : Addr) (c : Int) (old : Value) (w : World) (hg : ErrType w) (ht0 : w.cell? t = some old) (hf0 : w.frozen? t = false) :
    Calls Tryz.prog 88 #[.iface 100 (.agg #[.int .i64 c]), .iface 102 (.pointer (some t))] w fun ev w' =>
      ev = .returned (.bool true) ∧ w'.cell? t = some (.int .i64 c) ∧ Below t.block w w' := by
  have htl := World.block_lt_of_cell? w t ht0
  refine (as_hit t c old w hg ht0 hf0).mono ?_
  rintro e w' ⟨rfl, rfl⟩
  have hb := below_asW t c w
  refine ⟨rfl, World.cell?_setCell_same _ _ _ ((hb.cell htl).trans ht0), (hb.mono (Nat.le_of_lt htl)).setCell (Nat.le_refl _) _⟩

end Go.Proofs.YtdehbaafbbjcgaaGreatDoor
namespace Go.Proofs.YtdehbaafbbjcgaaGreatDoor
end Go.Proofs.YtdehbaafbbjcgaaGreatDoor
namespace Go.Proofs.YtdehbaafbbjcgaaGreatDoor
open Go.RowKit Go.Lib

set_option maxHeartbeats 2000000 in
set_option maxRecDepth 100000 in
theorem implGet (s : ByteArray) (p : Int) (w : World) (hs : s.size ≤ maxLen) (hp0 : -9223372036854775808 ≤ p) (hp1 : p ≤ 9223372036854775807) (hg : ErrType w) :
    Calls Tryz.prog 65 #[.string s, .int .i64 p] w fun e w' => e = .returned (numV (numAt s p)) ∧ Below w.heap.size w w' := by
  have hread := fun W => readNum s p W hs hp0 hp1
  generalize numAt s p = R at *
  have HR : Hid (∀ W, Calls Tryz.prog 87 #[.string s, .int .i64 p] W fun e w' => ReadOk R e ∧ w' = W) := hread
  have HG : Hid (ErrType w) := hg
  have hpos := hg.pos
  clear hread hg
  go_enter Tryz.func65, Tryz.ntmps65
  go_wp2_with fail
  refine (HR.out _).mono ?_
  rintro e w' ⟨hb, rfl⟩
  rcases hb with ⟨hc, rfl⟩ | ⟨hc, hR, n, rfl⟩
  · have HC : Hid (R.code = 0) := hc
    clear hc
    go_wp2_with fail
    refine (as_nil _ _).mono ?_
    rintro e w' ⟨rfl, rfl⟩
    go_wp2
    refine bodyPost_ret (v := .agg #[.int .i64 R.n, .int .i64 R.at', .int .i64 0]) (by simp [results, Tryz.results65, go_sem]) rfl ⟨?_, ?_⟩
    · rw [numV, HC.out]
    · repeat (first | exact Below.refl _ _ | refine Below.setCell ?_ (by simp) _ | refine Below.alloc ?_ (by simp) _)
  · have HC : Hid (R = .bad R.code) := hR
    generalize hcc : R.code = c at *
    have HCC : Hid (R.code = c) := hcc
    clear hc hR hcc
    have HG2 : Hid (∀ o1 o2, ErrType ((w.alloc o1).alloc o2)) := fun o1 o2 => HG.out.below (((Below.refl _ _).alloc (Nat.le_refl _) o1).alloc (by simp) o2) hpos
    go_wp2_with fail
    refine (as_hit2 ⟨w.heap.size + 1, 0, none⟩ c (.int .i64 0) _ (HG2.out _ _) (by simp) (by simp)).mono ?_
    rintro e w1 ⟨rfl, ht, hb⟩
    have hB : Below (w.heap.size + 1) ((w.alloc (Obj.cells #[Value.int IntKind.i64 0, Value.int IntKind.i64 0, Value.int IntKind.i64 0] 80)).alloc (Obj.cells #[Value.int IntKind.i64 0] 100)) w1 := hb
    have c0 : w1.cell? ⟨w.heap.size, 0, none⟩ = some (.int .i64 0) := (hB.cell (by simp)).trans (by simp)
    have c1 : w1.cell? ⟨w.heap.size, 1, none⟩ = some (.int .i64 0) := (hB.cell (by simp)).trans (by simp)
    have c2 : w1.cell? ⟨w.heap.size, 2, none⟩ = some (.int .i64 0) := (hB.cell (by simp)).trans (by simp)
    have f0 : w1.frozen? ⟨w.heap.size, 0, none⟩ = false := (hB.frozen (by simp)).trans (by simp)
    have f1 : w1.frozen? ⟨w.heap.size, 1, none⟩ = false := (hB.frozen (by simp)).trans (by simp)
    have f2 : w1.frozen? ⟨w.heap.size, 2, none⟩ = false := (hB.frozen (by simp)).trans (by simp)
    have HB : Hid (Below w.heap.size w w1) := (((Below.refl _ w).alloc (Nat.le_refl _) _).alloc (by simp) _).trans (hB.mono (Nat.le_succ _))
    clear hb hB
    go_wp2
    refine bodyPost_ret (v := .agg #[.int .i64 0, .int .i64 0, .int .i64 c]) (by simp [results, Tryz.results65, go_sem, c0, c1, c2]) rfl ⟨?_, ?_⟩
    · rw [HC.out]; rfl
    · repeat (first | exact HB.out | refine Below.setCell ?_ (by simp) _)
end Go.Proofs.YtdehbaafbbjcgaaGreatDoor
