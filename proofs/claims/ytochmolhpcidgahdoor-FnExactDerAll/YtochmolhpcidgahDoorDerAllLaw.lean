/- FnExactDerAll: at every text DerAll answers as the specification's, every field, its answer owns its memory, behind another call too; errors.errorType holds what the program's text lays (the card ties it). No other condition. -/
import Derived.Test.YtochmolhpcidgahDoorAllS
import Derived.Test.YtochmolhpcidgahDoorAllI
import Derived.Test.YtochmolhpcidgahDoorAllN
import Derived.Test.YtochmolhpcidgahDoorCards
import Derived.Test.YtochmolhpcidgahDoorTie
import Derived.ProofKit
import Derived.OpenShut
import Derived.ShutString
import Derived.ChangeOld
import Derived.ChangeSame
import Derived.ChangeVars
import Derived.LaidLaws
import Derived.LaidHandle
import Derived.Stop.Joined
import Derived.SevenTiedAt
namespace Go.Proofs.YtochmolhpcidgahDoor
open Go.RowKit

theorem OwnT.ge {w : World} {B g : Nat} {v : Value} {l : List (Int × ByteArray)} (h : OwnT w B v l) (e : v.ownBlock = some g) : B ≤ g ∧ g < w.heap.size := by
  have := (show World.ownsRow w B 23 2 v l.length (tCells l) from h).lt g e
  exact this
set_option maxHeartbeats 4000000 in
set_option maxRecDepth 100000 in
theorem derAllWalk (a0 : ByteArray) (w0 : a0.size ≤ maxLen) (w : World) (hg : ErrType w) :
    Calls Tryd.prog 4 #[.string a0] w fun e w' => e = .returned (.bool true) ∧ Below w.heap.size w w' := by
  have hm := w0
  unfold maxLen at hm
  by_cases hb : 1048576 < a0.size
  · go_enter Tryd.func4, Tryd.ntmps4
    go_wp2
    go_ret
    exact ⟨rfl, Below.refl _ _⟩
  have hl := allD_len a0
  have HS : Hid (∀ V : World, Calls Tryd.prog 8 #[.string a0] V fun e w' => ∃ v, e = .returned (.agg #[v, .int .i64 (allD a0).2]) ∧ OwnT w' V.heap.size v (allD a0).1 ∧ Below V.heap.size V w') := fun V => specDerAll a0 V w0
  have HI : Hid (∀ V : World, ErrType V → Calls Tryd.prog 9 #[.string a0] V fun e w' => ∃ v, e = .returned (.agg #[v, .int .i64 (allD a0).2]) ∧ OwnT w' V.heap.size v (allD a0).1 ∧ Below V.heap.size V w') := fun V hV => implDerAll a0 V w0 hV
  generalize allD a0 = R at *
  obtain ⟨l, z⟩ := R
  simp only at hl HS HI
  have HG : Hid (ErrType w) := hg
  have hpos := hg.pos
  clear hg
  go_enter Tryd.func4, Tryd.ntmps4
  go_wp2_with fail
  refine (HS.out _).mono ?_
  rintro e w1 ⟨v0, rfl, o0, b1⟩
  obtain ⟨x0, y0, rfl⟩ := OwnT.form o0
  have s1 := b1.size
  have HG1 : Hid (∀ o, ErrType (w1.alloc o)) := fun o => HG.out.below (b1.trans ((Below.refl _ w1).alloc b1.size o)) hpos
  have O0 : Hid (OwnT w1 w.heap.size (.slice x0 l.length y0) l) := o0
  have H0B : Hid (∀ g, (Value.slice x0 l.length y0).ownBlock = some g → g < w1.heap.size) := fun g e => (OwnT.ge o0 e).2
  have B1 : Hid (Below w.heap.size w w1) := b1
  clear o0 b1
  go_wp2_with fail
  refine (HI.out _ (HG1.out _)).mono ?_
  rintro e w2 ⟨v1, rfl, o1, b2⟩
  obtain ⟨x1, y1, rfl⟩ := OwnT.form o1
  have O1 : Hid (OwnT w2 (w1.heap.size + 1) (.slice x1 l.length y1) l) := by show OwnT _ _ _ _; simpa using o1
  obtain ⟨hr, hB, hz⟩ := resKeep (cs := [.slice x0 l.length y0, .int .i64 z]) (T := 31) b2
  have R0 : Hid (w2.heap[w1.heap.size]? = some (.cells [.slice x0 l.length y0, .int .i64 z].toArray 31 (0, 0))) := hr
  have B2 : Hid (Below w.heap.size w w2) := B1.out.trans (hB.mono s1)
  have O02 : Hid (OwnT w2 w.heap.size (.slice x0 l.length y0) l) := OwnT.keep O0.out hB
  clear o1 b2 hr hB HG1 O0 B1
  obtain ⟨⟨k0, k1⟩, _⟩ := cells2 R0.out
  have s2 : w1.heap.size < w2.heap.size := hz
  obtain ⟨w3, hw3⟩ : ∃ w3, w3 = w2.alloc (.cells #[.slice x1 l.length y1, .int .i64 z] 31) := ⟨_, rfl⟩
  have s3 : w3.heap.size = w2.heap.size + 1 := by rw [hw3]; simp
  have b3 : Below w2.heap.size w2 w3 := by rw [hw3]; exact (Below.refl _ _).alloc (Nat.le_refl _) _
  have R03 : Hid (w3.heap[w1.heap.size]? = some (.cells [.slice x0 l.length y0, .int .i64 z].toArray 31 (0, 0))) := by show _ = _; rw [b3.block _ s2]; exact R0.out
  have R13 : Hid (w3.heap[w2.heap.size]? = some (.cells [.slice x1 l.length y1, .int .i64 z].toArray 31 (0, 0))) := by show _ = _; rw [hw3]; exact heap_alloc_new w2 _
  have O03 : Hid (OwnT w3 w.heap.size (.slice x0 l.length y0) l) := OwnT.keep O02.out b3
  have O13 : Hid (OwnT w3 (w1.heap.size + 1) (.slice x1 l.length y1) l) := OwnT.keep O1.out b3
  have B3 : Hid (Below w.heap.size w w3) := B2.out.trans (b3.mono (by omega))
  have HE3 : Hid (Calls Tryd.prog 10 #[.agg #[.slice x1 l.length y1, .int .i64 z], .agg #[.slice x0 l.length y0, .int .i64 z]] w3 fun e w' => e = .returned (.bool true) ∧ Below w3.heap.size w3 w') := eqTlvsOut x1 x0 l y1 y0 z w3 hl (OwnT.isT O13.out) (OwnT.isT O03.out)
  have HNE : Hid (∀ b, b ≤ w1.heap.size → (Value.slice x1 l.length y1).ownBlock ≠ some b) := fun b hb e => by have := (OwnT.ge O1.out e).1; omega
  have HNE2 : Hid ((Value.slice x1 l.length y1).ownBlock ≠ some w2.heap.size) := fun e => by have := (OwnT.ge O1.out e).2; omega
  go_wp2_with fail
  rw [← hw3]
  have HMk : Hid (∀ V : World, OwnT V (w1.heap.size + 1) (.slice x1 l.length y1) l → Calls Tryd.prog 11 #[.agg #[.slice x1 l.length y1, .int .i64 z], .int .i64 1] V fun e w' => e = .returned (.int .i64 ((1 + 2 * l.length : Nat) : Int)) ∧ MkT w' (.slice x1 l.length y1) l.length ∧
      (∀ b, (Value.slice x1 l.length y1).ownBlock ≠ some b → b < V.heap.size → w'.heap[b]? = V.heap[b]?) ∧ V.heap.size ≤ w'.heap.size ∧ ∀ B' w0, B' ≤ w1.heap.size + 1 → B' ≤ V.heap.size → Below B' w0 V → Below B' w0 w') := fun V hV => markOutT _ l _ z V hl hV
  have HHd : Hid (∀ V : World, MkT V (.slice x1 l.length y1) l.length → Calls Tryd.prog 12 #[.agg #[.slice x1 l.length y1, .int .i64 z], .int .i64 1] V fun e w' => e = .returned (.int .i64 ((1 + 2 * l.length : Nat) : Int)) ∧ Below V.heap.size V w') := fun V hV => heldOutT _ _ z V hl hV
  have HEq : Hid (∀ (V : World) x2 y2, IsT V x2 l → IsT V x0 l → Calls Tryd.prog 10 #[.agg #[.slice x2 l.length y2, .int .i64 z], .agg #[.slice x0 l.length y0, .int .i64 z]] V fun e w' => e = .returned (.bool true) ∧ Below V.heap.size V w') := fun V x2 y2 h2 h0 => eqTlvsOut x2 x0 l y2 y0 z V hl h2 h0
  have HFm : Hid (∀ (V : World) B v, OwnT V B v l → ∃ a c, v = .slice a l.length c) := fun V B v h => OwnT.form h
  obtain ⟨m, hmm⟩ : ∃ m, m = 1 + 2 * l.length := ⟨_, rfl⟩
  rw [← hmm] at HMk HHd
  have hm1 : 1 ≤ m := by omega
  have em : ((m : Int) != (m : Int)) = false := by simp
  obtain ⟨n, hn⟩ : ∃ n, n = l.length := ⟨_, rfl⟩
  rw [← hn] at HMk HHd HEq HFm HE3 R03 R13 O03 O13 HNE HNE2 H0B k0 ⊢
  clear hw3 hn hmm O1 O02 R0 B2 HS b3 k0 k1 hl
  refine HE3.out.mono ?_
  rintro e w4 ⟨rfl, b4⟩
  have s4 := b4.size
  have R04 : Hid (w4.heap[w1.heap.size]? = some (.cells [.slice x0 n y0, .int .i64 z].toArray 31 (0, 0))) := by show _ = _; rw [b4.block _ (by omega)]; exact R03.out
  have R14 : Hid (w4.heap[w2.heap.size]? = some (.cells [.slice x1 n y1, .int .i64 z].toArray 31 (0, 0))) := by show _ = _; rw [b4.block _ (by omega)]; exact R13.out
  have O04 : Hid (OwnT w4 w.heap.size (.slice x0 n y0) l) := OwnT.keep O03.out b4
  have O14 : Hid (OwnT w4 (w1.heap.size + 1) (.slice x1 n y1) l) := OwnT.keep O13.out b4
  have B4 : Hid (Below w.heap.size w w4) := B3.out.trans (b4.mono (by omega))
  clear b4 R03 R13 O03 O13 B3 HE3
  obtain ⟨⟨k0, k1⟩, _⟩ := cells2 R14.out
  go_wp2_with fail
  refine (HMk.out _ O14.out).mono ?_
  rintro e w5 ⟨rfl, mk5, sm5, s5, bl5⟩
  have R05 : Hid (w5.heap[w1.heap.size]? = some (.cells [.slice x0 n y0, .int .i64 z].toArray 31 (0, 0))) := by show _ = _; rw [sm5 _ (HNE.out _ (Nat.le_refl _)) (by omega)]; exact R04.out
  have R15 : Hid (w5.heap[w2.heap.size]? = some (.cells [.slice x1 n y1, .int .i64 z].toArray 31 (0, 0))) := by show _ = _; rw [sm5 _ HNE2.out (by omega)]; exact R14.out
  have O05 : Hid (OwnT w5 w.heap.size (.slice x0 n y0) l) := by
    refine ⟨O04.out.1, ?_⟩
    rcases O04.out.2 with h | ⟨g, cap, cur, e, h1, h2, h3⟩
    · exact .inl h
    · have hgb := H0B.out g (by rw [e]; rfl)
      exact .inr ⟨g, cap, cur, e, h1, by rw [sm5 g (HNE.out g (by omega)) (by omega)]; exact h2, h3⟩
  have M5 : Hid (MkT w5 (.slice x1 n y1) n) := mk5
  have B5 : Hid (Below w.heap.size w w5) := bl5 _ _ (by omega) (by omega) B4.out
  clear mk5 sm5 bl5 R04 R14 O04 O14 B4 HMk k0 k1
  obtain ⟨⟨k0, k1⟩, _⟩ := cells2 R15.out
  go_wp2_with fail
  refine (HHd.out _ M5.out).mono ?_
  rintro e w6 ⟨rfl, b6⟩
  have s6 := b6.size
  have R06 : Hid (w6.heap[w1.heap.size]? = some (.cells [.slice x0 n y0, .int .i64 z].toArray 31 (0, 0))) := by show _ = _; rw [b6.block _ (by omega)]; exact R05.out
  have R16 : Hid (w6.heap[w2.heap.size]? = some (.cells [.slice x1 n y1, .int .i64 z].toArray 31 (0, 0))) := by show _ = _; rw [b6.block _ (by omega)]; exact R15.out
  have O06 : Hid (OwnT w6 w.heap.size (.slice x0 n y0) l) := OwnT.keep O05.out b6
  have M6 : Hid (MkT w6 (.slice x1 n y1) n) := M5.out.keep b6
  have B6 : Hid (Below w.heap.size w w6) := B5.out.trans (b6.mono (by omega))
  have HG6 : Hid (ErrType w6) := HG.out.below B6.out hpos
  clear b6 R05 R15 O05 M5 B5 k0 k1
  go_wp2_with fail
  refine (HI.out _ HG6.out).mono ?_
  rintro e w7 ⟨v2, rfl, o2, b7⟩
  obtain ⟨x2, y2, rfl⟩ := HFm.out _ _ _ o2
  have s7 := b7.size
  have b8 : ∀ o, Below w6.heap.size w6 (w7.alloc o) := fun o => b7.alloc s7 o
  have R08 : Hid (∀ o, (w7.alloc o).heap[w1.heap.size]? = some (.cells [.slice x0 n y0, .int .i64 z].toArray 31 (0, 0))) := fun o => by rw [(b8 o).block _ (by omega)]; exact R06.out
  have R18 : Hid (∀ o, (w7.alloc o).heap[w2.heap.size]? = some (.cells [.slice x1 n y1, .int .i64 z].toArray 31 (0, 0))) := fun o => by rw [(b8 o).block _ (by omega)]; exact R16.out
  have R07 : w7.heap[w1.heap.size]? = some (.cells [.slice x0 n y0, .int .i64 z].toArray 31 (0, 0)) := by rw [b7.block _ (by omega)]; exact R06.out
  have I08 : Hid (∀ o, IsT (w7.alloc o) x0 l) := fun o => OwnT.isT (OwnT.keep O06.out (b8 o))
  have I28 : Hid (∀ o, IsT (w7.alloc o) x2 l) := fun o => OwnT.isT (OwnT.keep o2 ((Below.refl _ w7).alloc (Nat.le_refl _) o))
  have M8 : Hid (∀ o, MkT (w7.alloc o) (.slice x1 n y1) n) := fun o => M6.out.keep (b8 o)
  have B8 : Hid (∀ o, Below w.heap.size w (w7.alloc o)) := fun o => B6.out.trans ((b8 o).mono (by omega))
  obtain ⟨⟨k0, k1⟩, _⟩ := cells2 R07
  have h17 : w1.heap.size < w7.heap.size := by omega
  clear o2 b7 b8 R06 R16 O06 M6 B6 R07 HG6
  go_wp2_with fail
  refine (HEq.out _ _ _ (I28.out _) (I08.out _)).mono ?_
  rintro e w9 ⟨rfl, b9⟩
  have s9 : w7.heap.size + 1 ≤ w9.heap.size := by have := b9.size; simpa using this
  have R19 : w9.heap[w2.heap.size]? = some (.cells [.slice x1 n y1, .int .i64 z].toArray 31 (0, 0)) := by rw [b9.block _ (by simp; omega)]; exact R18.out _
  have M9 : Hid (MkT w9 (.slice x1 n y1) n) := (M8.out _).keep b9
  have B9 : Hid (Below w.heap.size w w9) := (B8.out _).trans (b9.mono (by simp; omega))
  obtain ⟨⟨c0, c1⟩, _⟩ := cells2 R19
  clear b9 R19 k0 k1 R08 R18 I08 I28 M8 B8 h17
  go_wp2_with fail
  refine (HHd.out _ M9.out).mono ?_
  rintro e w10 ⟨rfl, b10⟩
  have B10 : Hid (Below w.heap.size w w10) := B9.out.trans (b10.mono (by omega))
  clear b10 c0 c1
  go_wp2_with fail
  go_ret
  exact ⟨rfl, B10.out⟩
namespace fnExactDerAllDone
open Go.ChangeShapes Go.WideShapes Go.ChangeAt Go.RowKit
open Go.ChangeMaps (open_string shut_string)
theorem own : ownKnob Tryd.prog.godebug = none := by kernel_rfl
theorem laidOut : laidOutB Tryd.prog = true := by kernel_rfl
theorem et : Tryd.prog.globalNamed "errors.errorType" = some 0 := by kernel_rfl
theorem rt : (Tryd.prog.cutTypes.find? (·.1 == "internal/reflectlite.rtype")).map (·.2) = some 72 := by kernel_rfl
theorem oneRow : ((List.range 119).filter fun t => Tryd.prog.rowNamed t [101, 114, 114, 111, 114]) = [37] := by kernel_rfl
theorem size : Tryd.prog.types.size = 119 := by kernel_rfl
set_option linter.unusedVariables false
theorem handle_of_laid {W : World} (h : laidMetH Tryd.prog Rows.fnExactDerAllRow.laid W) : ErrType W := by
  have h' : laidMet Tryd.prog [] W ∧ handlesMet Tryd.prog Rows.fnExactDerAllRow.laid W := h
  obtain ⟨name, u, ty, e1, e2, e3, e4, e5⟩ := h'.2 _ (List.mem_singleton.2 rfl)
  have en : name = [101, 114, 114, 111, 114] := (Option.some.inj e1).symm
  subst en
  obtain rfl := Option.some.inj (rt.symm.trans e2)
  have hm : ty ∈ (List.range 119).filter fun t => Tryd.prog.rowNamed t [101, 114, 114, 111, 114] := List.mem_filter.2 ⟨List.mem_range.2 (by rw [← size]; exact e3), e4⟩
  rw [oneRow] at hm
  obtain rfl := List.mem_singleton.1 hm
  have hh : typeHandle Tryd.prog 37 = .pointer (some ⟨1, 37, none⟩) := by kernel_rfl
  rw [hh] at e5
  unfold ErrType
  simpa using World.var?_cell et e5 0
theorem laid_met (os : Os) (args : Array Value) : laidMetH Tryd.prog Rows.fnExactDerAllRow.laid (({ World.holding Tryd.prog os ⟨#[], #[], []⟩ with heap := (World.holding Tryd.prog os ⟨#[], #[], []⟩).heap.modify 0 fun | .cells _ t frozen => .cells #[.iface 72 (.agg #[.pointer (some ⟨1, 37, none⟩)])] t frozen | o => o } : World).forCall (fun _ _ => 0) ⟨#[], args, []⟩).memory :=
  laidMetH_of_parts (laidMet_nil _ _) (by kernel_rfl)
set_option maxRecDepth 100000 in
theorem lifted (os : Os) (started : os.Started) (H : Type) (enc : TypeId × Value → H) :
    ReturnsInHanded {} Tryd.checked os 4 .any (fun w args => (Rows.fnExactDerAllSpec.pre enc Tryd.prog Tryd.f4 [] false w args ∧ laidMetH Tryd.prog Rows.fnExactDerAllRow.laid w) ∧ sizedMet enc Tryd.prog Tryd.f4 (OpenSpec.ofChange Rows.fnExactDerAllSpec) false w args)
      (Rows.fnExactDerAllSpec.post enc Tryd.prog Tryd.f4 false true false false) := by
  refine returnsInHanded_of_change_and (C := Tryd.checked) (X := fun w _ => laidMetH Tryd.prog Rows.fnExactDerAllRow.laid w) (fun _ _ _ hh h => h.of_heap hh) own started (by kernel_rfl) Tryd.func4
    (ChangeSpec.witness_at (enc := enc) (C := Tryd.checked) (os := os) (X := fun w _ => laidMetH Tryd.prog Rows.fnExactDerAllRow.laid w) false ({ World.holding Tryd.prog os ⟨#[], #[], []⟩ with heap := (World.holding Tryd.prog os ⟨#[], #[], []⟩).heap.modify 0 fun | .cells _ t frozen => .cells #[.iface 72 (.agg #[.pointer (some ⟨1, 37, none⟩)])] t frozen | o => o } : World) #[.string ByteArray.empty] 8 rfl (by kernel_rfl) (by kernel_rfl) (by kernel_rfl) (by kernel_rfl) (by kernel_rfl) (laid_met os _)) ?_
  intro W base args ds gs before hval0 hW _ _ hL _
  have hval : ∀ (j : Nat) t v, Tryd.f4.params[j]? = some t → args[j]? = some v → Value.okWide Tryd.prog W .any base t v := hval0
  have hW' := hW
  obtain ⟨p, q, hA0, hV, rfl, hfz, hnd⟩ := hW
  have hA : DataW.TrodAll enc Tryd.prog W 0 (fun _ => true) true Tryd.f4.params.toList args.toList ds p := hA0
  rw [Tryd.params4] at hA hval
  obtain ⟨v0, vs0, d0, ds0, p0, q0, hargs, rfl, rfl, h0, r0⟩ := trodAll_cons hA
  obtain ⟨rfl, rfl, rfl⟩ := trodAll_nil r0
  obtain rfl : args = #[v0] := by cases args; simp_all
  obtain ⟨rfl, rfl⟩ := trodVars_none hV
  obtain ⟨a0, rfl, rfl, rfl, w0⟩ := open_string Tryd.underlying9 (hval 0 9 v0 rfl rfl) h0
  clear hA0 hval0
  simp only [List.append_nil] at hW'
  refine (derAllWalk a0 w0 W (handle_of_laid hL)).mono fun e W' ⟨he, bel⟩ => ?_
  subst he
  exact ⟨_, rfl, _, _, _, [], [], [], hW', trodAll_mk1 (shut_bool Tryd.underlying4 _), (trodAll_cons_mk (shut_string Tryd.underlying9 w0) trodAll_mk0), rfl, bel.frame _, fun h => by cases h⟩
theorem said : Rows.FnExactDerAllSaid :=
  OpenClaim.holds_of_wide 4 Tryd.f4 rfl rfl rfl rfl rfl rfl rfl ⟨rfl, rfl, rfl, rfl, rfl⟩ rfl rfl rfl rfl rfl (by kernel_rfl) Tryd.func4 (by kernel_rfl)
    (of_decide_eq_true (by kernel_rfl)) (by unfold Func.isWrapper; first | (rw [if_pos (by decide +kernel)]; kernel_rfl) | (rw [if_neg (by decide +kernel)]; exact ⟨rfl, rfl⟩))
    (fun os started H enc _ => lifted os started H enc)
theorem plain (f : FuncId) (fn : Func) (hf : Tryd.pinned.checked.prog.funcNamed "loop.example/g00371/laws.FnExactDerAll" = some f) (hfn : Tryd.pinned.checked.prog.funcs[f]? = some fn) :
    true = Tryd.pinned.checked.prog.looks [] ∧ ∀ (j : Nat) t, fn.params[j]? = some t → Tryd.pinned.checked.prog.wantsStandIn t = false := by
  obtain rfl : f = 4 := Option.some.inj ((show Tryd.prog.funcNamed "loop.example/g00371/laws.FnExactDerAll" = some 4 by kernel_rfl).symm.trans hf) |>.symm
  obtain rfl : fn = Tryd.f4 := (Option.some.inj (Tryd.func4.symm.trans hfn)).symm
  refine ⟨by kernel_rfl, fun j t ht => ?_⟩
  rw [Tryd.params4] at ht
  have hm : t = 9 := by simpa using Array.mem_of_getElem? ht
  rcases hm with rfl <;> (show _ = _; kernel_rfl)
end fnExactDerAllDone
theorem fnExactDerAll_card : Rows.FnExactDerAllCardSaid :=
  Claim7.holds_tied_plain_at .later [] _ _ _ _ fnExactDerAllDone.said (fun _ h => by cases h) (by kernel_rfl) (fun _ h => by cases h) fnExactDerAll_row_tie rfl ⟨rfl, rfl⟩ (by kernel_rfl) rfl fnExactDerAllDone.plain (by kernel_rfl)
#print axioms fnExactDerAll_card
end Go.Proofs.YtochmolhpcidgahDoor
