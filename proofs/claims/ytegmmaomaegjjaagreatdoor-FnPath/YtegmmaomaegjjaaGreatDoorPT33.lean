/- What the listed table gives the walks: the numbers of the rounds, each in its cell. What the listed table and errors give the walks. As many variables are read as are named. No program is named. -/
import Derived.Test.YtegmmaomaegjjaaGreatDoorPT04
import Derived.ProofKit
import Derived.OpenShut
import Derived.LaidMore
import Derived.Stop.Joined
import Derived.OpenVars
import Derived.Lay
import Derived.Test.YtegmmaomaegjjaaGreatDoorPT24
import Derived.Stop.LaidErr
import Derived.ChangeShapes
import Derived.Test.YtegmmaomaegjjaaGreatDoorRows
namespace Go.Proofs.YtegmmaomaegjjaaGreatDoor
open Go.ChangeShapes Go.WideShapes Go.ChangeAt Go.RowKit

theorem key_gv : Tryz.prog.globalNamed "loop.example/g00371/impl.roundNumbers" = some 3 := by kernel_rfl
theorem key_gt : (Tryz.prog.globals[3]?).map (·.type) = some 151 := by kernel_rfl
theorem key_c : Tryz.prog.cellsOf 119 = 1 := by kernel_rfl
theorem keyLaid {H : Type} : (Rows.laid_loop_example_g00371_impl_roundNumbers : DataW H) = .agg (keyL.map fun n : Nat => .lit (.int .u32 (n : Int))) := rfl
theorem key_num (k : Nat) (h : k < 64) : ((keyL.getD k 0 : Nat) : Int) = uI (kAt k) := by
  have hl : k < keyL.length := h
  have hb : ∀ n ∈ keyL, n < 4294967296 := by decide
  have := hb _ (List.getElem_mem hl)
  unfold kAt uI
  rw [BitVec.toNat_ofNat, List.getD, List.getElem?_eq_getElem hl]
  simp only [Option.getD_some]
  rw [Nat.mod_eq_of_lt (by simpa using this)]
theorem keys_of_trod {W : World} {enc : TypeId × Value → Unit} {base g0 : Nat} {sp : Nat → Bool} {t0 : TypeId} {cs0 : Array Value} {f0 : Nat} {p0 : List MemPlace}
    (hg0 : Tryz.prog.globalNamed "loop.example/g00371/impl.roundNumbers" = some g0) (ht0 : (Tryz.prog.globals[g0]?).map (·.type) = some t0) (hv0 : W.var? Tryz.prog "loop.example/g00371/impl.roundNumbers" = some cs0)
    (hd0 : DataW.trod enc Tryz.prog W base sp false f0 t0 cs0.toList = some (Rows.laid_loop_example_g00371_impl_roundNumbers, p0)) : Keys W := by
  obtain rfl := Option.some.inj (key_gv.symm.trans hg0)
  obtain rfl := Option.some.inj (key_gt.symm.trans ht0)
  obtain ⟨xs, m1, rfl, hx1, hlen, hn, hel⟩ := DataW.trod_array Tryz.underlying151 hd0
  rw [keyLaid] at hx1
  simp only [Prod.mk.injEq, DataW.agg.injEq] at hx1
  intro i hi
  have h1 := hel i hi
  have hxi : i < xs.length := by omega
  rw [List.getElem?_eq_getElem hxi] at h1
  obtain ⟨k, e1, e2, _⟩ := DataW.trod_int Tryz.underlying119 h1
  have h2 : xs[i].1 = .lit (.int .u32 (uI (kAt i))) := by
    have h3 : (xs.map (·.1))[i]? = (keyL.map fun n : Nat => DataW.lit (.int .u32 (n : Int)))[i]? := by rw [← hx1.1]
    rw [List.getElem?_map, List.getElem?_map, List.getElem?_eq_getElem hxi, List.getElem?_eq_getElem (show i < keyL.length from hi)] at h3
    have h4 : xs[i].1 = _ := Option.some.inj h3
    rw [h4, ← key_num i hi, List.getD, List.getElem?_eq_getElem (show i < keyL.length from hi)]
    rfl
  rw [e2] at h2
  have hk : k = uI (kAt i) := by simpa using h2
  subst hk
  have hc := World.var?_cell hg0 hv0 i
  rw [hc]
  rw [key_c, Nat.mul_one] at e1
  have h5 := congrArg (fun l => l[0]?) e1
  simp only [List.getElem?_take, List.getElem?_drop] at h5
  simpa using h5
theorem keys_of_laid {W : World} (h : laidMetH Tryz.prog [("loop.example/g00371/impl.roundNumbers", Rows.laid_loop_example_g00371_impl_roundNumbers)] W) : Keys W := by
  rw [MakeChecks.laidMetH_plain _ _ _ (by kernel_rfl)] at h
  obtain ⟨ps, ⟨g0, t0, cs0, f0, p0, q0, hg0, ht0, hv0, hd0, _⟩, _⟩ := h
  exact keys_of_trod hg0 ht0 hv0 hd0
end Go.Proofs.YtegmmaomaegjjaaGreatDoor
namespace Go.Proofs.YtegmmaomaegjjaaGreatDoor
open Go.ChangeShapes Go.WideShapes Go.ChangeAt Go.RowKit

theorem gv_errNotRight : Tryz.prog.globalNamed "loop.example/g00371/impl.errNotRight" = some 0 := by kernel_rfl
theorem gt_errNotRight : (Tryz.prog.globals[0]?).map (·.type) = some 52 := by kernel_rfl
theorem gv_errOtherKey : Tryz.prog.globalNamed "loop.example/g00371/impl.errOtherKey" = some 1 := by kernel_rfl
theorem gt_errOtherKey : (Tryz.prog.globals[1]?).map (·.type) = some 52 := by kernel_rfl
theorem gv_errNoCheck : Tryz.prog.globalNamed "loop.example/g00371/impl.errNoCheck" = some 2 := by kernel_rfl
theorem gt_errNoCheck : (Tryz.prog.globals[2]?).map (·.type) = some 52 := by kernel_rfl
theorem errCells : Tryz.prog.cellsOf 176 = 1 := by kernel_rfl
theorem strCells : Tryz.prog.cellsOf 9 = 1 := by kernel_rfl
theorem errStar : "*" ++ "errors.errorString" = "*errors.errorString" := by decide
theorem errName (u : TypeId) (h : Tryz.prog.typeName? 3 u = some "*errors.errorString") : u = 161 :=
  typeName_ptr_named (nm := "errors.errorString") (by rw [errStar]; kernel_rfl) (by kernel_rfl) (by decide) u (by rw [errStar]; exact h)
set_option maxRecDepth 100000 in
set_option maxHeartbeats 2000000 in
theorem laid_T3 {W : World} (h : laidMetH Tryz.prog [("loop.example/g00371/impl.roundNumbers", Rows.laid_loop_example_g00371_impl_roundNumbers), ("loop.example/g00371/impl.errNotRight", Rows.laid_loop_example_g00371_impl_errNotRight), ("loop.example/g00371/impl.errOtherKey", Rows.laid_loop_example_g00371_impl_errOtherKey), ("loop.example/g00371/impl.errNoCheck", Rows.laid_loop_example_g00371_impl_errNoCheck)] W) : Keys W ∧ Err3 W := by
  rw [MakeChecks.laidMetH_plain _ _ _ (by kernel_rfl)] at h
  obtain ⟨ps, ⟨gT, tT, csT, fT, pT, qT, hgT, htT, hvT, hdT, ⟨g1, t1, cs1, f1, p1, q1, hg1, ht1, hv1, hd1, ⟨g2, t2, cs2, f2, p2, q2, hg2, ht2, hv2, hd2, ⟨g0, t0, cs0, f0, p0, q0, hg0, ht0, hv0, hd0, hn, e0⟩, e2⟩, e1⟩, eT⟩, hnd, hrows⟩ := h
  have kT := keys_of_trod hgT htT hvT hdT
  obtain rfl := Option.some.inj (gv_errNotRight.symm.trans hg1)
  obtain rfl := Option.some.inj (gt_errNotRight.symm.trans ht1)
  obtain rfl := Option.some.inj (gv_errOtherKey.symm.trans hg2)
  obtain rfl := Option.some.inj (gt_errOtherKey.symm.trans ht2)
  obtain rfl := Option.some.inj (gv_errNoCheck.symm.trans hg0)
  obtain rfl := Option.some.inj (gt_errNoCheck.symm.trans ht0)
  subst e0
  subst e2
  subst e1
  subst eT
  obtain ⟨l1⟩ := cs1
  have ok1 : ∀ u v, l1 = [.iface u v] → Value.okWide Tryz.prog W .any 0 u v := fun u v e => by
    subst e
    exact (hrows 0 0 (by simp [MemPlace.row])).2 u v (by simpa using World.var?_cell hg1 hv1 0)
  obtain ⟨a1, s1, rfl, _, _, _, rfl⟩ := errorString_of_trod Tryz.underlying52 errName Tryz.underlying161 Tryz.underlying176 rfl rfl Tryz.underlying9 errCells strCells hd1 ok1
  obtain ⟨c1, y1, hb1⟩ := (hrows a1.block a1.off (by simp [MemPlace.row])).1
  have E1 : ErrV 0 W a1 := ⟨by simpa using World.var?_cell hg1 hv1 0, c1, y1, hb1⟩
  obtain ⟨l2⟩ := cs2
  have ok2 : ∀ u v, l2 = [.iface u v] → Value.okWide Tryz.prog W .any 0 u v := fun u v e => by
    subst e
    exact (hrows 1 0 (by simp [MemPlace.row])).2 u v (by simpa using World.var?_cell hg2 hv2 0)
  obtain ⟨a2, s2, rfl, _, _, _, rfl⟩ := errorString_of_trod Tryz.underlying52 errName Tryz.underlying161 Tryz.underlying176 rfl rfl Tryz.underlying9 errCells strCells hd2 ok2
  obtain ⟨c2, y2, hb2⟩ := (hrows a2.block a2.off (by simp [MemPlace.row])).1
  have E2 : ErrV 1 W a2 := ⟨by simpa using World.var?_cell hg2 hv2 0, c2, y2, hb2⟩
  obtain ⟨l0⟩ := cs0
  have ok0 : ∀ u v, l0 = [.iface u v] → Value.okWide Tryz.prog W .any 0 u v := fun u v e => by
    subst e
    exact (hrows 2 0 (by simp [MemPlace.row])).2 u v (by simpa using World.var?_cell hg0 hv0 0)
  obtain ⟨a0, s0, rfl, _, _, _, rfl⟩ := errorString_of_trod Tryz.underlying52 errName Tryz.underlying161 Tryz.underlying176 rfl rfl Tryz.underlying9 errCells strCells hd0 ok0
  obtain ⟨c0, y0, hb0⟩ := (hrows a0.block a0.off (by simp [MemPlace.row])).1
  have E0 : ErrV 2 W a0 := ⟨by simpa using World.var?_cell hg0 hv0 0, c0, y0, hb0⟩
  refine ⟨kT, _, _, _, E1, E2, E0, ?_, ?_⟩
  · rintro rfl
    simp [MemPlace.row] at hnd
    have h2 := (List.nodup_append.1 (List.nodup_append.1 hnd).2.1).2.1
    simp at h2
  · rintro rfl
    simp [MemPlace.row] at hnd
    have h2 := (List.nodup_append.1 (List.nodup_append.1 hnd).2.1).2.1
    simp at h2
end Go.Proofs.YtegmmaomaegjjaaGreatDoor
namespace Go.Proofs.YtegmmaomaegjjaaGreatDoor

theorem trodVars_len {H : Type} {enc : TypeId × Value → H} {P : Program} {w : World} {spare : Nat → Bool} : ∀ {ns : List String} {gs : List (DataW H)} {ps : List MemPlace}, DataW.TrodVars enc P w spare ns gs ps → gs.length = ns.length
  | [], [], _, _ => rfl
  | [], _ :: _, _, h => by simp [DataW.TrodVars] at h
  | _ :: _, [], _, h => by simp [DataW.TrodVars] at h
  | _ :: _, _ :: _, _, h => by
    obtain ⟨g, t, cs, fuel, p, q, _, _, _, _, hs, _⟩ := h
    simp only [List.length_cons, trodVars_len hs]
end Go.Proofs.YtegmmaomaegjjaaGreatDoor
