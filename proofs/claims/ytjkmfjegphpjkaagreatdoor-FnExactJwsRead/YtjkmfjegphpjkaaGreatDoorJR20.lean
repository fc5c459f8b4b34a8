/- What the listed table gives the walks: the numbers of the rounds, each in its cell. What the listed variables give the walks: the kind of errors, the table. As many variables are read as are named. No program is named. -/
import Derived.Test.YtjkmfjegphpjkaaGreatDoorJR03
import Derived.ProofKit
import Derived.OpenShut
import Derived.LaidMore
import Derived.Stop.Joined
import Derived.OpenVars
import Derived.Lay
import Derived.Test.YtjkmfjegphpjkaaGreatDoorJR16
import Derived.Stop.LaidErr
import Derived.LaidSub
import Derived.ChangeShapes
import Derived.Test.YtjkmfjegphpjkaaGreatDoorRows
namespace Go.Proofs.YtjkmfjegphpjkaaGreatDoor
open Go.ChangeShapes Go.WideShapes Go.ChangeAt Go.RowKit

theorem key_gv : Tryz.prog.globalNamed "loop.example/g00371/impl.roundNumbers" = some 1 := by kernel_rfl
theorem key_gt : (Tryz.prog.globals[1]?).map (·.type) = some 161 := by kernel_rfl
theorem key_c : Tryz.prog.cellsOf 110 = 1 := by kernel_rfl
theorem keyLaid {H : Type} : (Rows.laid_loop_example_g00371_impl_roundNumbers : DataW H) = .agg (keyL.map fun n : Nat => .lit (.int .u32 (n : Int))) := rfl
theorem key_num (k : Nat) (h : k < 64) : ((keyL.getD k 0 : Nat) : Int) = uI (kAt k) := by
  have hl : k < keyL.length := h
  have hb : ∀ n ∈ keyL, n < 4294967296 := by decide
  have := hb _ (List.getElem_mem hl)
  unfold kAt uI
  rw [BitVec.toNat_ofNat, List.getD, List.getElem?_eq_getElem hl]
  simp only [Option.getD_some]
  rw [Nat.mod_eq_of_lt (by simpa using this)]
theorem keys_of_trod {W : World} {enc : TypeId × Value → Unit} {base g0 : Nat} {sp : Nat → Bool} {t0 : TypeId} {cs0 : Array Value} {f0 : Nat} {p0 : List MemPlace}
    (hg0 : Tryz.prog.globalNamed "loop.example/g00371/impl.roundNumbers" = some g0) (ht0 : (Tryz.prog.globals[g0]?).map (·.type) = some t0) (hv0 : W.var? Tryz.prog "loop.example/g00371/impl.roundNumbers" = some cs0)
    (hd0 : DataW.trod enc Tryz.prog W base sp false f0 t0 cs0.toList = some (Rows.laid_loop_example_g00371_impl_roundNumbers, p0)) : Keys W := by
  obtain rfl := Option.some.inj (key_gv.symm.trans hg0)
  obtain rfl := Option.some.inj (key_gt.symm.trans ht0)
  obtain ⟨xs, m1, rfl, hx1, hlen, hn, hel⟩ := DataW.trod_array Tryz.underlying161 hd0
  rw [keyLaid] at hx1
  simp only [Prod.mk.injEq, DataW.agg.injEq] at hx1
  intro i hi
  have h1 := hel i hi
  have hxi : i < xs.length := by omega
  rw [List.getElem?_eq_getElem hxi] at h1
  obtain ⟨k, e1, e2, _⟩ := DataW.trod_int Tryz.underlying110 h1
  have h2 : xs[i].1 = .lit (.int .u32 (uI (kAt i))) := by
    have h3 : (xs.map (·.1))[i]? = (keyL.map fun n : Nat => DataW.lit (.int .u32 (n : Int)))[i]? := by rw [← hx1.1]
    rw [List.getElem?_map, List.getElem?_map, List.getElem?_eq_getElem hxi, List.getElem?_eq_getElem (show i < keyL.length from hi)] at h3
    have h4 : xs[i].1 = _ := Option.some.inj h3
    rw [h4, ← key_num i hi, List.getD, List.getElem?_eq_getElem (show i < keyL.length from hi)]
    rfl
  rw [e2] at h2
  have hk : k = uI (kAt i) := by simpa using h2
  subst hk
  have hc := World.var?_cell hg0 hv0 i
  rw [hc]
  rw [key_c, Nat.mul_one] at e1
  have h5 := congrArg (fun l => l[0]?) e1
  simp only [List.getElem?_take, List.getElem?_drop] at h5
  simpa using h5
theorem keys_of_laid {W : World} (h : laidMetH Tryz.prog [("loop.example/g00371/impl.roundNumbers", Rows.laid_loop_example_g00371_impl_roundNumbers)] W) : Keys W := by
  rw [MakeChecks.laidMetH_plain _ _ _ (by kernel_rfl)] at h
  obtain ⟨ps, ⟨g0, t0, cs0, f0, p0, q0, hg0, ht0, hv0, hd0, _⟩, _⟩ := h
  exact keys_of_trod hg0 ht0 hv0 hd0
end Go.Proofs.YtjkmfjegphpjkaaGreatDoor
namespace Go.Proofs.YtjkmfjegphpjkaaGreatDoor
open Go.ChangeShapes Go.WideShapes Go.ChangeAt Go.RowKit

theorem gvJ_errorType : Tryz.prog.globalNamed "errors.errorType" = some 0 := by kernel_rfl
theorem cutRtJ : (Tryz.prog.cutTypes.find? (·.1 == "internal/reflectlite.rtype")).map (·.2) = some 147 := by kernel_rfl
theorem oneRowJ : ((List.range 200).filter fun t => Tryz.prog.rowNamed t [101, 114, 114, 111, 114]) = [99] := by kernel_rfl
theorem sizeTypesJ : Tryz.prog.types.size = 200 := by kernel_rfl
theorem errType_ofJ {W : World} (h : handlesMet Tryz.prog [("errors.errorType", Rows.laid_errors_errorType)] W) : ErrType W := by
  obtain ⟨name, u, ty, e1, e2, e3, e4, e5⟩ := h _ (List.mem_singleton.2 rfl)
  have en : name = [101, 114, 114, 111, 114] := (Option.some.inj e1).symm
  subst en
  obtain rfl := Option.some.inj (cutRtJ.symm.trans e2)
  have hm : ty ∈ (List.range 200).filter fun t => Tryz.prog.rowNamed t [101, 114, 114, 111, 114] := List.mem_filter.2 ⟨List.mem_range.2 (by rw [← sizeTypesJ]; exact e3), e4⟩
  rw [oneRowJ] at hm
  obtain rfl := List.mem_singleton.1 hm
  have hh : typeHandle Tryz.prog 99 = .pointer (some ⟨5, 99, none⟩) := by kernel_rfl
  rw [hh] at e5
  unfold ErrType
  simpa using World.var?_cell gvJ_errorType e5 0
set_option maxRecDepth 100000 in
set_option maxHeartbeats 2000000 in
theorem laid_J2 {W : World} (h : laidMetH Tryz.prog [("unicode/utf8.acceptRanges", Rows.laid_unicode_utf8_acceptRanges), ("errors.errorType", Rows.laid_errors_errorType), ("loop.example/g00371/impl.roundNumbers", Rows.laid_loop_example_g00371_impl_roundNumbers), ("unicode/utf8.first", Rows.laid_unicode_utf8_first)] W) : Keys W ∧ ErrType W := by
  obtain ⟨h1, h2⟩ := laidMetH_iff.1 h
  have hty : ErrType W := errType_ofJ h2
  replace h1 : laidMet Tryz.prog [("unicode/utf8.acceptRanges", Rows.laid_unicode_utf8_acceptRanges), ("loop.example/g00371/impl.roundNumbers", Rows.laid_loop_example_g00371_impl_roundNumbers), ("unicode/utf8.first", Rows.laid_unicode_utf8_first)] W := h1
  obtain ⟨ps, ⟨gA, tA, csA, fA, pA, qA, hgA, htA, hvA, hdA, ⟨gK, tK, csK, fK, pK, qK, hgK, htK, hvK, hdK, ⟨gF, tF, csF, fF, pF, qF, hgF, htF, hvF, hdF, hn, eF⟩, eK⟩, eA⟩, hnd, hrows⟩ := h1
  exact ⟨keys_of_trod hgK htK hvK hdK, hty⟩
end Go.Proofs.YtjkmfjegphpjkaaGreatDoor
namespace Go.Proofs.YtjkmfjegphpjkaaGreatDoor

theorem trodVars_len {H : Type} {enc : TypeId × Value → H} {P : Program} {w : World} {spare : Nat → Bool} : ∀ {ns : List String} {gs : List (DataW H)} {ps : List MemPlace}, DataW.TrodVars enc P w spare ns gs ps → gs.length = ns.length
  | [], [], _, _ => rfl
  | [], _ :: _, _, h => by simp [DataW.TrodVars] at h
  | _ :: _, [], _, h => by simp [DataW.TrodVars] at h
  | _ :: _, _ :: _, _, h => by
    obtain ⟨g, t, cs, fuel, p, q, _, _, _, _, hs, _⟩ := h
    simp only [List.length_cons, trodVars_len hs]
end Go.Proofs.YtjkmfjegphpjkaaGreatDoor
