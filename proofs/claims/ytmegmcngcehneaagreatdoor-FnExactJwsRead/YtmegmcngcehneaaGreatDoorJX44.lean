/- laws.eqSig, walked: of a Sig and itself. FnExactJwsRead, walked: at every text JwsRead answers as the specification's, field by field. What the listed table gives the walks: the numbers of the rounds, each in its cell. What the listed variables give the walks: the kind of errors, the table. As many variables are read as are named. No program is named. -/
import Derived.Test.YtmegmcngcehneaaGreatDoorJX29
import Derived.Handy
import Derived.Test.YtmegmcngcehneaaGreatDoorJX03
import Derived.Test.YtmegmcngcehneaaGreatDoorJX30
import Derived.Test.YtmegmcngcehneaaGreatDoorJX43
import Derived.Below
import Derived.Deep.Cut
import Derived.Test.YtmegmcngcehneaaGreatDoorJX07
import Derived.ProofKit
import Derived.OpenShut
import Derived.LaidMore
import Derived.Stop.Joined
import Derived.OpenVars
import Derived.Lay
import Derived.Test.YtmegmcngcehneaaGreatDoorJX37
import Derived.Stop.LaidErr
import Derived.LaidSub
import Derived.ChangeShapes
import Derived.Test.YtmegmcngcehneaaGreatDoorRows
namespace Go.Proofs.YtmegmcngcehneaaGreatDoor
open Go.RowKit

set_option maxHeartbeats 1000000 in
set_option maxRecDepth 100000 in
theorem eqSig (k e s : Int) (w : World) :
    Calls Tryz.prog 46 #[.agg #[.int .i64 k, .int .i64 e, .int .i64 s], .agg #[.int .i64 k, .int .i64 e, .int .i64 s]] w fun r w' => r = .returned (.bool true) ∧ Below w.heap.size w w' := by
  go_enter Tryz.func46, Tryz.ntmps46
  go_wp2
  go_ret
  exact ⟨rfl, (allocBelow w _).alloc (by simp) _⟩
end Go.Proofs.YtmegmcngcehneaaGreatDoor
namespace Go.Proofs.YtmegmcngcehneaaGreatDoor
open Go.RowKit

set_option maxHeartbeats 1000000 in
set_option maxRecDepth 100000 in
theorem eqJws (key nonce : Int) (url body : ByteArray) (se ss : Int) (w : World) :
    Calls Tryz.prog 19 #[.agg #[.int .i64 key, .int .i64 nonce, .string url, .string body, .int .i64 key, .int .i64 se, .int .i64 ss], .agg #[.int .i64 key, .int .i64 nonce, .string url, .string body, .int .i64 key, .int .i64 se, .int .i64 ss]] w fun e w' => e = .returned (.bool true) ∧ Below w.heap.size w w' := by
  have HE : Hid (∀ V, Calls Tryz.prog 46 #[.agg #[.int .i64 key, .int .i64 se, .int .i64 ss], .agg #[.int .i64 key, .int .i64 se, .int .i64 ss]] V fun r w' => r = .returned (.bool true) ∧ Below V.heap.size V w') := fun V => eqSig key se ss V
  have e1 : (key != key) = false := by simp
  have e2 : (nonce != nonce) = false := by simp
  go_enter Tryz.func19, Tryz.ntmps19
  go_wp2_with fail
  refine (HE.out _).mono ?_
  rintro e w2 ⟨rfl, b2⟩
  have B2 : Hid (Below w.heap.size w w2) := Below.trans (by repeat (first | exact Below.refl _ _ | refine Below.setCell ?_ (by simp) _ | refine Below.alloc ?_ (by simp) _)) (b2.mono (by simp; omega))
  clear b2
  go_wp2
  go_ret
  exact ⟨rfl, B2.out⟩
set_option maxHeartbeats 1000000 in
set_option maxRecDepth 100000 in
theorem eqJwsOut (key nonce : Int) (url body : ByteArray) (se ss c : Int) (w : World) :
    Calls Tryz.prog 6 #[.agg #[.int .i64 key, .int .i64 nonce, .string url, .string body, .int .i64 key, .int .i64 se, .int .i64 ss, .int .i64 c], .agg #[.int .i64 key, .int .i64 nonce, .string url, .string body, .int .i64 key, .int .i64 se, .int .i64 ss, .int .i64 c]] w fun e w' => e = .returned (.bool true) ∧ Below w.heap.size w w' := by
  have HE : Hid (∀ V, Calls Tryz.prog 19 #[.agg #[.int .i64 key, .int .i64 nonce, .string url, .string body, .int .i64 key, .int .i64 se, .int .i64 ss], .agg #[.int .i64 key, .int .i64 nonce, .string url, .string body, .int .i64 key, .int .i64 se, .int .i64 ss]] V fun e w' => e = .returned (.bool true) ∧ Below V.heap.size V w') := fun V => eqJws key nonce url body se ss V
  have e1 : (c != c) = false := by simp
  go_enter Tryz.func6, Tryz.ntmps6
  go_wp2_with fail
  refine (HE.out _).mono ?_
  rintro e w2 ⟨rfl, b2⟩
  have B2 : Hid (Below w.heap.size w w2) := Below.trans (by repeat (first | exact Below.refl _ _ | refine Below.setCell ?_ (by simp) _ | refine Below.alloc ?_ (by simp) _)) (b2.mono (by simp; omega))
  have k0 : w2.cell? ⟨w.heap.size, 7, none⟩ = some (.int .i64 c) := (b2.cell (by simp; omega)).trans (by simp)
  have k1 : w2.cell? ⟨w.heap.size + 1, 7, none⟩ = some (.int .i64 c) := (b2.cell (by simp)).trans (by simp)
  clear b2
  go_wp2
  go_ret
  exact ⟨rfl, B2.out⟩
set_option linter.unusedSimpArgs false in
set_option maxHeartbeats 2000000 in
set_option maxRecDepth 100000 in
theorem jwsReadWalk (a0 : ByteArray) (w0 : a0.size ≤ maxLen) (w : World) (hk : Keys w ∧ ErrType w) :
    Calls Tryz.prog 3 #[.string a0] w fun e w' => e = .returned (.bool true) ∧ Below w.heap.size w w' := by
  by_cases hb : 1048576 < a0.size
  · go_enter Tryz.func3, Tryz.ntmps3
    go_wp2
    go_ret
    exact ⟨rfl, Below.refl _ _⟩
  have hkp := hk.1.pos
  have hEp := hk.2.pos
  have HS : Hid (∀ V, Calls Tryz.prog 4 #[.string a0] V fun e w' => e = .returned (Rq.outV (jwsR a0)) ∧ Below V.heap.size V w') := fun V => specJwsRead a0 V w0
  have HI : Hid (∀ V, Below w.heap.size w V → Calls Tryz.prog 5 #[.string a0] V fun e w' => e = .returned (Rq.outV (jwsR a0)) ∧ Below V.heap.size V w') := fun V hV => implJwsRead a0 V w0 (hk.1.below hV hkp) (hk.2.below hV hEp)
  generalize jwsR a0 = R at *
  obtain ⟨⟨key, nonce, url, body, se, ss⟩, c⟩ := R
  unfold Rq.outV at HS HI
  simp only at HS HI
  have HE : Hid (∀ V, Calls Tryz.prog 6 #[.agg #[.int .i64 key, .int .i64 nonce, .string url, .string body, .int .i64 key, .int .i64 se, .int .i64 ss, .int .i64 c], .agg #[.int .i64 key, .int .i64 nonce, .string url, .string body, .int .i64 key, .int .i64 se, .int .i64 ss, .int .i64 c]] V fun e w' => e = .returned (.bool true) ∧ Below V.heap.size V w') := fun V => eqJwsOut key nonce url body se ss c V
  clear hk hkp hEp w0
  go_enter Tryz.func3, Tryz.ntmps3
  go_wp2_with fail
  refine (HS.out w).mono ?_
  rintro e w2 ⟨rfl, b2⟩
  obtain ⟨w3, hw3⟩ : ∃ y, y = w2.alloc (.cells #[.int .i64 key, .int .i64 nonce, .string url, .string body, .int .i64 key, .int .i64 se, .int .i64 ss, .int .i64 c] 27 (0, 0)) := ⟨_, rfl⟩
  have g3 : Hid (w3.heap[w2.heap.size]? = some (.cells [Value.int .i64 key, .int .i64 nonce, .string url, .string body, .int .i64 key, .int .i64 se, .int .i64 ss, .int .i64 c].toArray 27 (0, 0))) := by rw [hw3]; exact heap_alloc_new w2 _
  have B3 : Hid (Below w.heap.size w w3) := by rw [hw3]; exact b2.alloc b2.size _
  clear b2
  go_upto_region 4 with fail
  rw [← hw3]
  clear hw3
  go_wp2_with fail
  refine (HI.out w3 B3.out).mono ?_
  rintro e w4 ⟨rfl, b4⟩
  have g4 : Hid (w4.heap[w2.heap.size]? = some (.cells [Value.int .i64 key, .int .i64 nonce, .string url, .string body, .int .i64 key, .int .i64 se, .int .i64 ss, .int .i64 c].toArray 27 (0, 0))) := by show _ = _; rw [b4.block _ (heap_lt g3.out)]; exact g3.out
  have B4 : Hid (Below w.heap.size w w4) := B3.out.trans (b4.mono B3.out.size)
  clear b4 g3 B3
  obtain ⟨w5, hw5⟩ : ∃ y, y = w4.alloc (.cells #[.int .i64 key, .int .i64 nonce, .string url, .string body, .int .i64 key, .int .i64 se, .int .i64 ss, .int .i64 c] 27 (0, 0)) := ⟨_, rfl⟩
  have g5 : w5.heap[w2.heap.size]? = some (.cells [Value.int .i64 key, .int .i64 nonce, .string url, .string body, .int .i64 key, .int .i64 se, .int .i64 ss, .int .i64 c].toArray 27 (0, 0)) := by rw [hw5, Below.heap_alloc _ _ _ (heap_lt g4.out)]; exact g4.out
  have r5 : w5.heap[w4.heap.size]? = some (.cells [Value.int .i64 key, .int .i64 nonce, .string url, .string body, .int .i64 key, .int .i64 se, .int .i64 ss, .int .i64 c].toArray 27 (0, 0)) := by rw [hw5]; exact heap_alloc_new w4 _
  have B5 : Hid (Below w.heap.size w w5) := by rw [hw5]; exact B4.out.alloc B4.out.size _
  clear g4 B4
  go_upto_region 5 with fail
  rw [← hw5]
  clear hw5
  have x0 := rowFacts g5 0 _ rfl
  have x1 := rowFacts g5 1 _ rfl
  have x2 := rowFacts g5 2 _ rfl
  have x3 := rowFacts g5 3 _ rfl
  have x4 := rowFacts g5 4 _ rfl
  have x5 := rowFacts g5 5 _ rfl
  have x6 := rowFacts g5 6 _ rfl
  have x7 := rowFacts g5 7 _ rfl
  have y0 := rowFacts r5 0 _ rfl
  have y1 := rowFacts r5 1 _ rfl
  have y2 := rowFacts r5 2 _ rfl
  have y3 := rowFacts r5 3 _ rfl
  have y4 := rowFacts r5 4 _ rfl
  have y5 := rowFacts r5 5 _ rfl
  have y6 := rowFacts r5 6 _ rfl
  have y7 := rowFacts r5 7 _ rfl
  clear g5 r5
  go_wp2_with fail
  refine (HE.out w5).mono ?_
  rintro e w6 ⟨rfl, b6⟩
  have B6 : Hid (Below w.heap.size w w6) := B5.out.trans (b6.mono B5.out.size)
  clear b6 B5
  clear x0 x1 x2 x3 x4 x5 x6 x7 y0 y1 y2 y3 y4 y5 y6 y7
  go_wp2
  go_ret
  exact ⟨rfl, B6.out⟩
end Go.Proofs.YtmegmcngcehneaaGreatDoor
namespace Go.Proofs.YtmegmcngcehneaaGreatDoor
open Go.ChangeShapes Go.WideShapes Go.ChangeAt Go.RowKit

theorem key_gv : Tryz.prog.globalNamed "loop.example/g00371/impl.roundNumbers" = some 4 := by kernel_rfl
theorem key_gt : (Tryz.prog.globals[4]?).map (·.type) = some 155 := by kernel_rfl
theorem key_c : Tryz.prog.cellsOf 133 = 1 := by kernel_rfl
theorem keyLaid {H : Type} : (Rows.laid_loop_example_g00371_impl_roundNumbers : DataW H) = .agg (keyL.map fun n : Nat => .lit (.int .u32 (n : Int))) := rfl
theorem key_num (k : Nat) (h : k < 64) : ((keyL.getD k 0 : Nat) : Int) = uI (kAt k) := by
  have hl : k < keyL.length := h
  have hb : ∀ n ∈ keyL, n < 4294967296 := by decide
  have := hb _ (List.getElem_mem hl)
  unfold kAt uI
  rw [BitVec.toNat_ofNat, List.getD, List.getElem?_eq_getElem hl]
  simp only [Option.getD_some]
  rw [Nat.mod_eq_of_lt (by simpa using this)]
theorem keys_of_trod {W : World} {enc : TypeId × Value → Unit} {base g0 : Nat} {sp : Nat → Bool} {t0 : TypeId} {cs0 : Array Value} {f0 : Nat} {p0 : List MemPlace}
    (hg0 : Tryz.prog.globalNamed "loop.example/g00371/impl.roundNumbers" = some g0) (ht0 : (Tryz.prog.globals[g0]?).map (·.type) = some t0) (hv0 : W.var? Tryz.prog "loop.example/g00371/impl.roundNumbers" = some cs0)
    (hd0 : DataW.trod enc Tryz.prog W base sp false f0 t0 cs0.toList = some (Rows.laid_loop_example_g00371_impl_roundNumbers, p0)) : Keys W := by
  obtain rfl := Option.some.inj (key_gv.symm.trans hg0)
  obtain rfl := Option.some.inj (key_gt.symm.trans ht0)
  obtain ⟨xs, m1, rfl, hx1, hlen, hn, hel⟩ := DataW.trod_array Tryz.underlying155 hd0
  rw [keyLaid] at hx1
  simp only [Prod.mk.injEq, DataW.agg.injEq] at hx1
  intro i hi
  have h1 := hel i hi
  have hxi : i < xs.length := by omega
  rw [List.getElem?_eq_getElem hxi] at h1
  obtain ⟨k, e1, e2, _⟩ := DataW.trod_int Tryz.underlying133 h1
  have h2 : xs[i].1 = .lit (.int .u32 (uI (kAt i))) := by
    have h3 : (xs.map (·.1))[i]? = (keyL.map fun n : Nat => DataW.lit (.int .u32 (n : Int)))[i]? := by rw [← hx1.1]
    rw [List.getElem?_map, List.getElem?_map, List.getElem?_eq_getElem hxi, List.getElem?_eq_getElem (show i < keyL.length from hi)] at h3
    have h4 : xs[i].1 = _ := Option.some.inj h3
    rw [h4, ← key_num i hi, List.getD, List.getElem?_eq_getElem (show i < keyL.length from hi)]
    rfl
  rw [e2] at h2
  have hk : k = uI (kAt i) := by simpa using h2
  subst hk
  have hc := World.var?_cell hg0 hv0 i
  rw [hc]
  rw [key_c, Nat.mul_one] at e1
  have h5 := congrArg (fun l => l[0]?) e1
  simp only [List.getElem?_take, List.getElem?_drop] at h5
  simpa using h5
theorem keys_of_laid {W : World} (h : laidMetH Tryz.prog [("loop.example/g00371/impl.roundNumbers", Rows.laid_loop_example_g00371_impl_roundNumbers)] W) : Keys W := by
  rw [MakeChecks.laidMetH_plain _ _ _ (by kernel_rfl)] at h
  obtain ⟨ps, ⟨g0, t0, cs0, f0, p0, q0, hg0, ht0, hv0, hd0, _⟩, _⟩ := h
  exact keys_of_trod hg0 ht0 hv0 hd0
end Go.Proofs.YtmegmcngcehneaaGreatDoor
namespace Go.Proofs.YtmegmcngcehneaaGreatDoor
open Go.ChangeShapes Go.WideShapes Go.ChangeAt Go.RowKit

theorem gvJ_errorType : Tryz.prog.globalNamed "errors.errorType" = some 0 := by kernel_rfl
theorem cutRtJ : (Tryz.prog.cutTypes.find? (·.1 == "internal/reflectlite.rtype")).map (·.2) = some 120 := by kernel_rfl
theorem oneRowJ : ((List.range 187).filter fun t => Tryz.prog.rowNamed t [101, 114, 114, 111, 114]) = [72] := by kernel_rfl
theorem sizeTypesJ : Tryz.prog.types.size = 187 := by kernel_rfl
theorem errType_ofJ {W : World} (h : handlesMet Tryz.prog [("errors.errorType", Rows.laid_errors_errorType)] W) : ErrType W := by
  obtain ⟨name, u, ty, e1, e2, e3, e4, e5⟩ := h _ (List.mem_singleton.2 rfl)
  have en : name = [101, 114, 114, 111, 114] := (Option.some.inj e1).symm
  subst en
  obtain rfl := Option.some.inj (cutRtJ.symm.trans e2)
  have hm : ty ∈ (List.range 187).filter fun t => Tryz.prog.rowNamed t [101, 114, 114, 111, 114] := List.mem_filter.2 ⟨List.mem_range.2 (by rw [← sizeTypesJ]; exact e3), e4⟩
  rw [oneRowJ] at hm
  obtain rfl := List.mem_singleton.1 hm
  have hh : typeHandle Tryz.prog 72 = .pointer (some ⟨5, 72, none⟩) := by kernel_rfl
  rw [hh] at e5
  unfold ErrType
  simpa using World.var?_cell gvJ_errorType e5 0
set_option maxRecDepth 100000 in
set_option maxHeartbeats 2000000 in
theorem laid_J2 {W : World} (h : laidMetH Tryz.prog [("unicode/utf8.acceptRanges", Rows.laid_unicode_utf8_acceptRanges), ("errors.errorType", Rows.laid_errors_errorType), ("loop.example/g00371/impl.roundNumbers", Rows.laid_loop_example_g00371_impl_roundNumbers), ("unicode/utf8.first", Rows.laid_unicode_utf8_first)] W) : Keys W ∧ ErrType W := by
  obtain ⟨h1, h2⟩ := laidMetH_iff.1 h
  have hty : ErrType W := errType_ofJ h2
  replace h1 : laidMet Tryz.prog [("unicode/utf8.acceptRanges", Rows.laid_unicode_utf8_acceptRanges), ("loop.example/g00371/impl.roundNumbers", Rows.laid_loop_example_g00371_impl_roundNumbers), ("unicode/utf8.first", Rows.laid_unicode_utf8_first)] W := h1
  obtain ⟨ps, ⟨gA, tA, csA, fA, pA, qA, hgA, htA, hvA, hdA, ⟨gK, tK, csK, fK, pK, qK, hgK, htK, hvK, hdK, ⟨gF, tF, csF, fF, pF, qF, hgF, htF, hvF, hdF, hn, eF⟩, eK⟩, eA⟩, hnd, hrows⟩ := h1
  exact ⟨keys_of_trod hgK htK hvK hdK, hty⟩
end Go.Proofs.YtmegmcngcehneaaGreatDoor
namespace Go.Proofs.YtmegmcngcehneaaGreatDoor

theorem trodVars_len {H : Type} {enc : TypeId × Value → H} {P : Program} {w : World} {spare : Nat → Bool} : ∀ {ns : List String} {gs : List (DataW H)} {ps : List MemPlace}, DataW.TrodVars enc P w spare ns gs ps → gs.length = ns.length
  | [], [], _, _ => rfl
  | [], _ :: _, _, h => by simp [DataW.TrodVars] at h
  | _ :: _, [], _, h => by simp [DataW.TrodVars] at h
  | _ :: _, _ :: _, _, h => by
    obtain ⟨g, t, cs, fuel, p, q, _, _, _, _, hs, _⟩ := h
    simp only [List.length_cons, trodVars_len hs]
end Go.Proofs.YtmegmcngcehneaaGreatDoor
