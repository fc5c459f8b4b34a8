/- FnNums: a drawn number, and a drawn text that fits in, come back from their bytes, with the place behind them; of bytes that end too early nothing is got. errors.errorType holds what the program's text lays (the card ties it). No other condition. -/
import Derived.Test.YtdckeokfcckemaaDoorDrawNums
import Derived.Test.YtdckeokfcckemaaDoorPutT
import Derived.Test.YtdckeokfcckemaaDoorNumE
import Derived.Test.YtdckeokfcckemaaDoorGetT
import Derived.Test.YtdckeokfcckemaaDoorTextM
import Derived.Test.YtdckeokfcckemaaDoorIsRow
import Derived.Test.YtdckeokfcckemaaDoorCards
import Derived.Test.YtdckeokfcckemaaDoorTie
import Derived.ProofKit
import Derived.OpenShut
import Derived.ShutString
import Derived.ChangeOld
import Derived.ChangeSame
import Derived.ChangeVars
import Derived.LaidLaws
import Derived.LaidHandle
import Derived.Stop.Joined
import Derived.SevenTiedAt
namespace Go.Proofs.YtdckeokfcckemaaDoor
open Go.RowKit Go.Lib

theorem CodeAt.below {a : Option Addr} {len B : Nat} {w w' : World} (h : CodeAt a len w) (hb : Below B w w') (hblk : ∀ x, 0 < len → a = some x → x.block < B) : CodeAt a len w' := by
  rcases h with h | ⟨b, off, rfl, hc⟩
  · exact .inl h
  · refine .inr ⟨b, off, rfl, fun i hi => ?_⟩
    obtain ⟨z, hz, hcell⟩ := hc i hi
    exact ⟨z, hz, (hb.cell (p := ⟨b, off + i, none⟩) (show b < B from hblk ⟨b, off, none⟩ (by omega) rfl)).trans hcell⟩
theorem sub_to (s : ByteArray) (w : World) (h : 0 < s.size) : (Instr.slice 9 (.string s) none (some (.int .i64 ((s.size : Int) - 1))) none).run Tryd.prog w = .ok (.string (s.extract 0 (s.size - 1))) w := by
  rw [show ((s.size : Int) - 1) = ((s.size - 1 : Nat) : Int) from by omega]
  simp [Instr.slice, run_underlying Tryd.underlying9, Instr.sliceBounds, run_sliceBound]
theorem fieldNum (W : World) : (Instr.field 26 (.agg #[.int .i64 0, .int .i64 0, .int .i64 4]) 2).run Tryd.prog W = .ok (.int .i64 4) W := by kernel_rfl
theorem fieldText (W : World) : (Instr.field 31 (.agg #[.string ByteArray.empty, .int .i64 0, .int .i64 4]) 2).run Tryd.prog W = .ok (.int .i64 4) W := by kernel_rfl
set_option maxHeartbeats 4000000 in
set_option maxRecDepth 100000 in
theorem numsTop (w : World) (a0 : Option Addr) (len0 cap0 : Nat) (z0 : List Int) (w0 : IsRow .u8 w a0 len0 cap0 z0) (a1 : Option Addr) (len1 cap1 : Nat) (z1 : List Int) (w1' : IsRow .u8 w a1 len1 cap1 z1) (hg : ErrType w) :
    Calls Tryd.prog 3 #[.slice a0 len0 cap0, .slice a1 len1 cap1] w fun e w' => e = .returned (.bool true) ∧ Below w.heap.size w w' := by
  have hl0 := w0.len_le
  have hl1 := w1'.len_le
  unfold maxLen at hl0 hl1
  obtain ⟨hc0, hk0⟩ := w0.code
  obtain ⟨hc1, hk1⟩ := w1'.code
  have HG : Hid (ErrType w) := hg
  have hpos := hg.pos
  clear w0 w1' hg
  by_cases h0 : 1048576 < len0
  · clear hc0 hk0 hc1 hk1
    go_enter Tryd.func3, Tryd.ntmps3
    go_wp2
    go_ret
    exact ⟨rfl, Below.refl _ _⟩
  by_cases h1 : 1048576 < len1
  · clear hc0 hk0 hc1 hk1
    go_enter Tryd.func3, Tryd.ntmps3
    go_wp2
    go_ret
    exact ⟨rfl, Below.refl _ _⟩
  have C0 : Hid (CodeAt a0 len0 w) := hc0
  have K0 : Hid (∀ x, 0 < len0 → a0 = some x → x.block < w.heap.size) := hk0
  have C1 : Hid (CodeAt a1 len1 w) := hc1
  have K1 : Hid (∀ x, 0 < len1 → a1 = some x → x.block < w.heap.size) := hk1
  clear hc0 hk0 hc1 hk1
  go_enter Tryd.func3, Tryd.ntmps3
  go_wp2_with fail
  refine (drawPutNum a0 len0 cap0 _ (by omega) C0.out K0.out).mono ?_
  rintro e w1 ⟨⟨n, ⟨hn0, hn1⟩, rfl⟩, hb1⟩
  have B1 : Hid (Below w.heap.size w w1) := hb1
  have s1 := hb1.size
  clear hb1
  go_wp2_with fail
  refine (implPut n _ hn0 hn1).mono ?_
  rintro e w2 ⟨rfl, hb2⟩
  have B2 : Hid (Below w.heap.size w w2) := B1.out.trans (hb2.mono s1)
  have s2 := B2.out.size
  clear hb2
  have hT1 := str_pos 9 (foldI n)
  have hT2 : (strOfNums (putF 9 (foldI n))).size ≤ 10 := by rw [size_nums]; exact putF_le 9 (foldI n)
  have hspec := fun W => specPut n W hn0 hn1
  have hxy := num_back n hn0 hn1 ⟨#[120, 121]⟩ ⟨#[122]⟩
  have hsh := num_short n hn0 hn1
  generalize strOfNums (putF 9 (foldI n)) = T at *
  have HP : Hid (∀ W, Calls Tryd.prog 6 #[.int .i64 n] W fun e w' => e = .returned (.string T) ∧ Below W.heap.size W w') := hspec
  have E1 : Hid (numAt (⟨#[120, 121]⟩ ++ T ++ ⟨#[122]⟩) 2 = ⟨n, (T.size : Int) + 2, 0⟩) := by
    have e2 : ((T.size : Int) + 2) = ((2 + T.size : Nat) : Int) := by omega
    unfold Hid numAt
    rw [e2]
    rw [if_neg (by rw [ByteArray.size_append, ByteArray.size_append]; show ¬ 20000 < 2 + T.size + 1; omega), if_neg (by omega)]
    exact hxy
  have E2 : Hid (numAt (T.extract 0 (T.size - 1)) 0 = .bad 4) := by
    unfold Hid numAt
    rw [if_neg (by rw [ByteArray.size_extract]; omega), if_neg (by omega)]
    exact hsh
  clear hspec hxy hsh
  go_wp2_with fail
  refine (HP.out _).mono ?_
  rintro e w3 ⟨rfl, hb3⟩
  have B3 : Hid (Below w.heap.size w w3) := B2.out.trans (hb3.mono s2)
  have s3 := B3.out.size
  clear hb3
  have ad1 := fun W => run_string_add_sum (P := Tryd.prog) (w := W) ⟨#[120, 121]⟩ T (show 2 + T.size ≤ _ by omega)
  have ad2 := fun W => run_string_add_sum (P := Tryd.prog) (w := W) (⟨#[120, 121]⟩ ++ T) ⟨#[122]⟩ (by rw [ByteArray.size_append]; show 2 + T.size + 1 ≤ _; omega)
  have HG3 : Hid (ErrType w3) := HG.out.below B3.out hpos
  go_wp2_with fail
  refine (implGet _ 2 _ (by rw [ByteArray.size_append, ByteArray.size_append]; show 2 + T.size + 1 ≤ maxLen; unfold maxLen; omega) (by omega) (by omega) HG3.out).mono ?_
  rintro e w4 ⟨rfl, hb4⟩
  rw [E1.out]
  unfold numV
  have B4 : Hid (Below w.heap.size w w4) := B3.out.trans (hb4.mono s3)
  have s4 := B4.out.size
  clear hb4 ad1 ad2
  have hsl := fun W => sub_to T W hT1
  have en : (n != n) = false := by simp
  have HG4 : Hid (∀ o, ErrType (w4.alloc o)) := fun o => HG.out.below (B4.out.alloc s4 o) hpos
  go_wp2_with fail
  refine (implGet _ 0 _ (by rw [ByteArray.size_extract]; unfold maxLen; omega) (by omega) (by omega) (HG4.out _)).mono ?_
  rintro e w5 ⟨rfl, hb5⟩
  rw [E2.out]
  unfold numV NumR.bad
  have hfd := fieldNum
  have B5 : Hid (Below w.heap.size w w5) := (B4.out.alloc s4 _).trans (hb5.mono (by simp; omega))
  have s5 := B5.out.size
  clear hb5 hsl
  have C1' : Hid (CodeAt a1 len1 w5) := C1.out.below B5.out K1.out
  have K1' : Hid (∀ x, 0 < len1 → a1 = some x → x.block < w5.heap.size) := fun x h0 hx => by have := K1.out x h0 hx; omega
  go_wp2_with fail
  refine (drawPutText a1 len1 cap1 _ (by omega) C1'.out K1'.out).mono ?_
  rintro e w6 ⟨⟨u, hu, rfl⟩, hb6⟩
  have B6 : Hid (Below w.heap.size w w6) := B5.out.trans (hb6.mono s5)
  have s6 := B6.out.size
  clear hb6 C1' K1'
  by_cases hul : 20000 < u.size
  · have hum : u.size ≤ maxLen := by unfold maxLen; omega
    go_wp2_with fail
    refine (implPutText_long u _ hul hum).mono ?_
    rintro e w' ⟨rfl, rfl⟩
    go_wp2_with fail
    refine (specPutText_long u _ hul hum).mono ?_
    rintro e w' ⟨rfl, rfl⟩
    go_wp2_with fail
    refine (specPutText_long u _ hul hum).mono ?_
    rintro e w' ⟨rfl, rfl⟩
    go_wp2
    go_ret
    exact ⟨rfl, B6.out⟩
  have hus : u.size ≤ 20000 := by omega
  go_wp2_with fail
  refine (implPutText u _ hus).mono ?_
  rintro e w7 ⟨rfl, hb7⟩
  have B7 : Hid (Below w.heap.size w w7) := B6.out.trans (hb7.mono s6)
  have s7 := B7.out.size
  clear hb7
  have hspec := fun W => specPutText u W hus
  have hpp : 0 < (strOfNums (putF 9 (foldI u.size)) ++ u).size := by have := str_pos 9 (foldI u.size); rw [ByteArray.size_append]; omega
  have hpl : (strOfNums (putF 9 (foldI u.size)) ++ u).size ≤ 20010 := by
    have : (strOfNums (putF 9 (foldI u.size))).size ≤ 10 := by rw [size_nums]; exact putF_le 9 _
    rw [ByteArray.size_append]; omega
  have hback := text_back u ⟨#[120]⟩ hus
  have hsh := text_short u hus
  generalize strOfNums (putF 9 (foldI u.size)) ++ u = p at *
  have HP2 : Hid (∀ W, Calls Tryd.prog 10 #[.string u] W fun e w' => e = .returned (.string p) ∧ Below W.heap.size W w') := hspec
  have E3 : Hid (p.size + 1 ≤ 20000 → textR (⟨#[120]⟩ ++ p) (numAt (⟨#[120]⟩ ++ p) 1) = outV u ((p.size : Int) + 1) 0) := fun h => by
    have hb := hback (by rw [ByteArray.size_append]; show 1 + p.size ≤ 20000; omega)
    have e1 : (((⟨#[120]⟩ : ByteArray).size + p.size : Nat) : Int) = (p.size : Int) + 1 := by show ((1 + p.size : Nat) : Int) = _; omega
    rw [e1] at hb
    exact hb
  have E4 : Hid (p.size ≤ 20000 → textR (p.extract 0 (p.size - 1)) (numAt (p.extract 0 (p.size - 1)) 0) = outV ByteArray.empty 0 4) := hsh
  clear hspec hback hsh
  have hne : p.toList.isEmpty = false := by
    rw [ByteArray.toList_eq, List.isEmpty_eq_false_iff]
    intro h
    have := size_eq p
    rw [h, List.length_nil] at this
    omega
  go_wp2_with fail
  refine (HP2.out _).mono ?_
  rintro e w8 ⟨rfl, hb8⟩
  have B8 : Hid (Below w.heap.size w w8) := B7.out.trans (hb8.mono s7)
  have s8 := B8.out.size
  clear hb8
  by_cases hfit : p.size + 1 ≤ 20000
  rotate_left
  · have q : (20000 : Int) < (p.size : Int) + 1 := by omega
    go_wp2
    go_ret
    exact ⟨rfl, B8.out⟩
  have q : (p.size : Int) + 1 ≤ 20000 := by omega
  have ad3 := fun W => run_string_add_sum (P := Tryd.prog) (w := W) ⟨#[120]⟩ p (show 1 + p.size ≤ _ by omega)
  have HG8 : Hid (ErrType w8) := HG.out.below B8.out hpos
  go_wp2_with fail
  refine (implGetText _ 1 _ (by rw [ByteArray.size_append]; show 1 + p.size ≤ maxLen; unfold maxLen; omega) (by omega) (by omega) HG8.out).mono ?_
  rintro e w9 ⟨rfl, hb9⟩
  rw [E3.out hfit]
  unfold outV
  have B9 : Hid (Below w.heap.size w w9) := B8.out.trans (hb9.mono s8)
  have s9 := B9.out.size
  clear hb9 ad3
  have HG9 : Hid (ErrType w9) := HG.out.below B9.out hpos
  have hsl := fun W => sub_to p W hpp
  go_wp2_with fail
  refine (implGetText _ 0 _ (by rw [ByteArray.size_extract]; unfold maxLen; omega) (by omega) (by omega) HG9.out).mono ?_
  rintro e w10 ⟨rfl, hb10⟩
  rw [E4.out (by omega)]
  unfold outV
  have hfd2 := fieldText
  have B10 : Hid (Below w.heap.size w w10) := B9.out.trans (hb10.mono s9)
  clear hb10 hsl
  go_wp2
  go_ret
  exact ⟨rfl, B10.out⟩
namespace fnNumsDone
open Go.ChangeShapes Go.WideShapes Go.ChangeAt Go.RowKit
open Go.ChangeMaps (open_string shut_string)
theorem own : ownKnob Tryd.prog.godebug = none := by kernel_rfl
theorem laidOut : laidOutB Tryd.prog = true := by kernel_rfl
theorem et : Tryd.prog.globalNamed "errors.errorType" = some 0 := by kernel_rfl
theorem rt : (Tryd.prog.cutTypes.find? (·.1 == "internal/reflectlite.rtype")).map (·.2) = some 75 := by kernel_rfl
theorem oneRow : ((List.range 118).filter fun t => Tryd.prog.rowNamed t [101, 114, 114, 111, 114]) = [42] := by kernel_rfl
theorem size : Tryd.prog.types.size = 118 := by kernel_rfl
set_option linter.unusedVariables false
theorem handle_of_laid {W : World} (h : laidMetH Tryd.prog Rows.fnNumsRow.laid W) : ErrType W := by
  have h' : laidMet Tryd.prog [] W ∧ handlesMet Tryd.prog Rows.fnNumsRow.laid W := h
  obtain ⟨name, u, ty, e1, e2, e3, e4, e5⟩ := h'.2 _ (List.mem_singleton.2 rfl)
  have en : name = [101, 114, 114, 111, 114] := (Option.some.inj e1).symm
  subst en
  obtain rfl := Option.some.inj (rt.symm.trans e2)
  have hm : ty ∈ (List.range 118).filter fun t => Tryd.prog.rowNamed t [101, 114, 114, 111, 114] := List.mem_filter.2 ⟨List.mem_range.2 (by rw [← size]; exact e3), e4⟩
  rw [oneRow] at hm
  obtain rfl := List.mem_singleton.1 hm
  have hh : typeHandle Tryd.prog 42 = .pointer (some ⟨1, 42, none⟩) := by kernel_rfl
  rw [hh] at e5
  unfold ErrType
  simpa using World.var?_cell et e5 0
theorem laid_met (os : Os) (args : Array Value) : laidMetH Tryd.prog Rows.fnNumsRow.laid (({ World.holding Tryd.prog os ⟨#[], #[], []⟩ with heap := (World.holding Tryd.prog os ⟨#[], #[], []⟩).heap.modify 0 fun | .cells _ t frozen => .cells #[.iface 75 (.agg #[.pointer (some ⟨1, 42, none⟩)])] t frozen | o => o } : World).forCall (fun _ _ => 0) ⟨#[], args, []⟩).memory :=
  laidMetH_of_parts (laidMet_nil _ _) (by kernel_rfl)
set_option maxRecDepth 100000 in
theorem lifted (os : Os) (started : os.Started) (H : Type) (enc : TypeId × Value → H) :
    ReturnsInHanded {} Tryd.checked os 3 .any (fun w args => (Rows.fnNumsSpec.pre enc Tryd.prog Tryd.f3 [] false w args ∧ laidMetH Tryd.prog Rows.fnNumsRow.laid w) ∧ sizedMet enc Tryd.prog Tryd.f3 (OpenSpec.ofChange Rows.fnNumsSpec) false w args)
      (Rows.fnNumsSpec.post enc Tryd.prog Tryd.f3 false true false false) := by
  refine returnsInHanded_of_change_and (C := Tryd.checked) (X := fun w _ => laidMetH Tryd.prog Rows.fnNumsRow.laid w) (fun _ _ _ hh h => h.of_heap hh) own started (by kernel_rfl) Tryd.func3
    (ChangeSpec.witness_at (enc := enc) (C := Tryd.checked) (os := os) (X := fun w _ => laidMetH Tryd.prog Rows.fnNumsRow.laid w) false ({ World.holding Tryd.prog os ⟨#[], #[], []⟩ with heap := (World.holding Tryd.prog os ⟨#[], #[], []⟩).heap.modify 0 fun | .cells _ t frozen => .cells #[.iface 75 (.agg #[.pointer (some ⟨1, 42, none⟩)])] t frozen | o => o } : World) #[.slice none 0 0, .slice none 0 0] 8 rfl (by kernel_rfl) (by kernel_rfl) (by kernel_rfl) (by kernel_rfl) (by kernel_rfl) (laid_met os _)) ?_
  intro W base args ds gs before hval0 hW _ _ hL _
  have hval : ∀ (j : Nat) t v, Tryd.f3.params[j]? = some t → args[j]? = some v → Value.okWide Tryd.prog W .any base t v := hval0
  have hW' := hW
  obtain ⟨p, q, hA0, hV, rfl, hfz, hnd⟩ := hW
  have hA : DataW.TrodAll enc Tryd.prog W 0 (fun _ => true) true Tryd.f3.params.toList args.toList ds p := hA0
  rw [Tryd.params3] at hA hval
  obtain ⟨v0, vs0, d0, ds0, p0, q0, hargs, rfl, rfl, h0, r0⟩ := trodAll_cons hA
  obtain ⟨v1, vs1, d1, ds1, p1, q1, rfl, rfl, rfl, h1, r1⟩ := trodAll_cons r0
  obtain ⟨rfl, rfl, rfl⟩ := trodAll_nil r1
  obtain rfl : args = #[v0, v1] := by cases args; simp_all
  obtain ⟨rfl, rfl⟩ := trodVars_none hV
  obtain ⟨a0, len0, cap0, rfl⟩ := okWide_slice Tryd.underlying22 (hval 0 22 v0 rfl rfl)
  have k0 := h0
  have lt0 : ∀ x ∈ p0, x.block < W.heap.size := by obtain ⟨m, hm⟩ := k0; exact DataW.trod_lt m _ _ _ hm
  obtain ⟨z0, w0⟩ : ∃ zs, IsRow .u8 W a0 len0 cap0 zs := by
    obtain ⟨fuel, hf⟩ := h0
    rcases open_ints Tryd.underlying22 Tryd.underlying5 (by kernel_rfl) hf with ⟨hcs, _⟩ | ⟨x, l, c, zs, hcs, _, hl, hm, hz, _, hcell, hwz⟩
    · simp [Value.cells] at hcs
      obtain ⟨rfl, rfl, rfl⟩ := hcs
      exact ⟨[], .inl ⟨rfl, rfl, rfl, rfl⟩⟩
    · simp [Value.cells] at hcs
      obtain ⟨rfl, rfl, rfl⟩ := hcs
      exact ⟨zs, .inr ⟨_, rfl, hl, hm, by simpa using hz, hcell, hwz⟩⟩
  obtain ⟨a1, len1, cap1, rfl⟩ := okWide_slice Tryd.underlying22 (hval 1 22 v1 rfl rfl)
  have k1 := h1
  have lt1 : ∀ x ∈ p1, x.block < W.heap.size := by obtain ⟨m, hm⟩ := k1; exact DataW.trod_lt m _ _ _ hm
  obtain ⟨z1, w1⟩ : ∃ zs, IsRow .u8 W a1 len1 cap1 zs := by
    obtain ⟨fuel, hf⟩ := h1
    rcases open_ints Tryd.underlying22 Tryd.underlying5 (by kernel_rfl) hf with ⟨hcs, _⟩ | ⟨x, l, c, zs, hcs, _, hl, hm, hz, _, hcell, hwz⟩
    · simp [Value.cells] at hcs
      obtain ⟨rfl, rfl, rfl⟩ := hcs
      exact ⟨[], .inl ⟨rfl, rfl, rfl, rfl⟩⟩
    · simp [Value.cells] at hcs
      obtain ⟨rfl, rfl, rfl⟩ := hcs
      exact ⟨zs, .inr ⟨_, rfl, hl, hm, by simpa using hz, hcell, hwz⟩⟩
  clear hA0 hval0
  refine (numsTop W a0 len0 cap0 z0 w0 a1 len1 cap1 z1 w1 (handle_of_laid hL)).mono fun e W' ⟨he, bel⟩ => ?_
  subst he
  exact ⟨_, rfl, _, _, _, [], _, [], hW', trodAll_mk1 (shut_bool Tryd.underlying4 _), (trodAll_cons_mk (Below.trod laidOut (by kernel_rfl) (of_decide_eq_true (by kernel_rfl)) k0 bel lt0) (trodAll_cons_mk (Below.trod laidOut (by kernel_rfl) (of_decide_eq_true (by kernel_rfl)) k1 bel lt1) trodAll_mk0)), rfl, bel.frame _, fun h => by cases h⟩
theorem said : Rows.FnNumsSaid :=
  OpenClaim.holds_of_wide 3 Tryd.f3 rfl rfl rfl rfl rfl rfl rfl ⟨rfl, rfl, rfl, rfl, rfl⟩ rfl rfl rfl rfl rfl (by kernel_rfl) Tryd.func3 (by kernel_rfl)
    (of_decide_eq_true (by kernel_rfl)) (by unfold Func.isWrapper; first | (rw [if_pos (by decide +kernel)]; kernel_rfl) | (rw [if_neg (by decide +kernel)]; exact ⟨rfl, rfl⟩))
    (fun os started H enc _ => lifted os started H enc)
theorem plain (f : FuncId) (fn : Func) (hf : Tryd.pinned.checked.prog.funcNamed "loop.example/g00371/laws.FnNums" = some f) (hfn : Tryd.pinned.checked.prog.funcs[f]? = some fn) :
    true = Tryd.pinned.checked.prog.looks [] ∧ ∀ (j : Nat) t, fn.params[j]? = some t → Tryd.pinned.checked.prog.wantsStandIn t = false := by
  obtain rfl : f = 3 := Option.some.inj ((show Tryd.prog.funcNamed "loop.example/g00371/laws.FnNums" = some 3 by kernel_rfl).symm.trans hf) |>.symm
  obtain rfl : fn = Tryd.f3 := (Option.some.inj (Tryd.func3.symm.trans hfn)).symm
  refine ⟨by kernel_rfl, fun j t ht => ?_⟩
  rw [Tryd.params3] at ht
  have hm : t = 22 := by simpa using Array.mem_of_getElem? ht
  rcases hm with rfl <;> (show _ = _; kernel_rfl)
end fnNumsDone
theorem fnNums_card : Rows.FnNumsCardSaid :=
  Claim7.holds_tied_plain_at .later [] _ _ _ _ fnNumsDone.said (fun _ h => by cases h) (by kernel_rfl) (fun _ h => by cases h) fnNums_row_tie rfl ⟨rfl, rfl⟩ (by kernel_rfl) rfl fnNumsDone.plain (by kernel_rfl)
#print axioms fnNums_card
end Go.Proofs.YtdckeokfcckemaaDoor
