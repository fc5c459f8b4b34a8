/- FnExactDerOidRead: at every text DerOidRead answers as the specification's, every field, its answer owns its memory, behind another call too. No condition. -/
import Derived.Test.YtochmolhpcidgahOidS
import Derived.Test.YtochmolhpcidgahOidK
import Derived.Test.YtochmolhpcidgahOidN
import Derived.ProofKit
import Derived.OpenShut
import Derived.ShutString
import Derived.ChangeOld
import Derived.Below
namespace Go.Proofs.Ytochmolhpcidgah
open Go.RowKit

set_option maxHeartbeats 4000000 in
set_option maxRecDepth 100000 in
theorem oidReadWalk (a0 : ByteArray) (w0 : a0.size ≤ maxLen) (w : World) :
    Calls Try.prog 6 #[.string a0] w fun e w' => e = .returned (.bool true) ∧ Below w.heap.size w w' := by
  have hm := w0
  unfold maxLen at hm
  by_cases hb : 1048576 < a0.size
  · go_enter Try.func6, Try.ntmps6
    go_wp2
    go_ret
    exact ⟨rfl, Below.refl _ _⟩
  have hl := oidR_len a0
  have HS : Hid (∀ V : World, Calls Try.prog 16 #[.string a0] V fun e w' => ∃ v, e = .returned (.agg #[v, .int .i64 (oidR a0).2]) ∧ OwnL w' V.heap.size v (oidR a0).1 ∧ Below V.heap.size V w') := fun V => specOidRead a0 V w0
  have HI : Hid (∀ V : World, Calls Try.prog 17 #[.string a0] V fun e w' => ∃ v, e = .returned (.agg #[v, .int .i64 (oidR a0).2]) ∧ OwnL w' V.heap.size v (oidR a0).1 ∧ Below V.heap.size V w') := fun V => implOidRead a0 V w0
  generalize oidR a0 = R at *
  obtain ⟨l, z⟩ := R
  simp only at hl HS HI
  go_enter Try.func6, Try.ntmps6
  go_wp2_with fail
  refine (HS.out _).mono ?_
  rintro e w1 ⟨v0, rfl, o0, b1⟩
  obtain ⟨x0, y0, rfl, _⟩ := OwnL.form o0
  have s1 := b1.size
  have O0 : Hid (OwnL w1 w.heap.size (.slice x0 l.length y0) l) := o0
  have H0B : Hid (∀ g, (Value.slice x0 l.length y0).ownBlock = some g → g < w1.heap.size) := fun g e => (OwnL.ge o0 e).2
  have B1 : Hid (Below w.heap.size w w1) := b1
  clear o0 b1
  go_wp2_with fail
  refine (HI.out _).mono ?_
  rintro e w2 ⟨v1, rfl, o1, b2⟩
  obtain ⟨x1, y1, rfl, _⟩ := OwnL.form o1
  have O1 : Hid (OwnL w2 (w1.heap.size + 1) (.slice x1 l.length y1) l) := by show OwnL _ _ _ _; simpa using o1
  obtain ⟨hr, hB, hz⟩ := resKeep (cs := [.slice x0 l.length y0, .int .i64 z]) (T := 35) b2
  have R0 : Hid (w2.heap[w1.heap.size]? = some (.cells [.slice x0 l.length y0, .int .i64 z].toArray 35 (0, 0))) := hr
  have B2 : Hid (Below w.heap.size w w2) := B1.out.trans (hB.mono s1)
  have O02 : Hid (OwnL w2 w.heap.size (.slice x0 l.length y0) l) := OwnL.keep O0.out hB
  clear o1 b2 hr hB O0 B1
  obtain ⟨⟨k0, k1⟩, _⟩ := cells2 R0.out
  have s2 : w1.heap.size < w2.heap.size := hz
  obtain ⟨w3, hw3⟩ : ∃ w3, w3 = w2.alloc (.cells #[.slice x1 l.length y1, .int .i64 z] 35) := ⟨_, rfl⟩
  have s3 : w3.heap.size = w2.heap.size + 1 := by rw [hw3]; simp
  have b3 : Below w2.heap.size w2 w3 := by rw [hw3]; exact (Below.refl _ _).alloc (Nat.le_refl _) _
  have R03 : Hid (w3.heap[w1.heap.size]? = some (.cells [.slice x0 l.length y0, .int .i64 z].toArray 35 (0, 0))) := by show _ = _; rw [b3.block _ s2]; exact R0.out
  have R13 : Hid (w3.heap[w2.heap.size]? = some (.cells [.slice x1 l.length y1, .int .i64 z].toArray 35 (0, 0))) := by show _ = _; rw [hw3]; exact heap_alloc_new w2 _
  have O03 : Hid (OwnL w3 w.heap.size (.slice x0 l.length y0) l) := OwnL.keep O02.out b3
  have O13 : Hid (OwnL w3 (w1.heap.size + 1) (.slice x1 l.length y1) l) := OwnL.keep O1.out b3
  have B3 : Hid (Below w.heap.size w w3) := B2.out.trans (b3.mono (by omega))
  have HE3 : Hid (Calls Try.prog 18 #[.agg #[.slice x1 l.length y1, .int .i64 z], .agg #[.slice x0 l.length y0, .int .i64 z]] w3 fun e w' => e = .returned (.bool true) ∧ Below w3.heap.size w3 w') := eqOidOut x1 x0 l y1 y0 z w3 hl (OwnL.ints O13.out) (OwnL.ints O03.out)
  have HNE : Hid (∀ b, b ≤ w1.heap.size → (Value.slice x1 l.length y1).ownBlock ≠ some b) := fun b hb e => by have := (OwnL.ge O1.out e).1; omega
  have HNE2 : Hid ((Value.slice x1 l.length y1).ownBlock ≠ some w2.heap.size) := fun e => by have := (OwnL.ge O1.out e).2; omega
  go_wp2_with fail
  rw [← hw3]
  have HMk : Hid (∀ V : World, OwnL V (w1.heap.size + 1) (.slice x1 l.length y1) l → Calls Try.prog 19 #[.agg #[.slice x1 l.length y1, .int .i64 z], .int .i64 1] V fun e w' => e = .returned (.int .i64 ((1 + l.length : Nat) : Int)) ∧ MkL w' (.slice x1 l.length y1) l.length ∧
      (∀ b, (Value.slice x1 l.length y1).ownBlock ≠ some b → b < V.heap.size → w'.heap[b]? = V.heap[b]?) ∧ V.heap.size ≤ w'.heap.size ∧ ∀ B' w0, B' ≤ w1.heap.size + 1 → B' ≤ V.heap.size → Below B' w0 V → Below B' w0 w') := fun V hV => markOutL _ l _ z V hl hV
  have HHd : Hid (∀ V : World, MkL V (.slice x1 l.length y1) l.length → Calls Try.prog 20 #[.agg #[.slice x1 l.length y1, .int .i64 z], .int .i64 1] V fun e w' => e = .returned (.int .i64 ((1 + l.length : Nat) : Int)) ∧ Below V.heap.size V w') := fun V hV => heldOutL _ _ z V hl hV
  have HEq : Hid (∀ (V : World) x2 y2, IsInts V x2 l → IsInts V x0 l → Calls Try.prog 18 #[.agg #[.slice x2 l.length y2, .int .i64 z], .agg #[.slice x0 l.length y0, .int .i64 z]] V fun e w' => e = .returned (.bool true) ∧ Below V.heap.size V w') := fun V x2 y2 h2 h0 => eqOidOut x2 x0 l y2 y0 z V hl h2 h0
  have HFm : Hid (∀ (V : World) B v, OwnL V B v l → ∃ a c, v = .slice a l.length c) := fun V B v h => by obtain ⟨a, c, e, _⟩ := OwnL.form h; exact ⟨a, c, e⟩
  obtain ⟨m, hmm⟩ : ∃ m, m = 1 + l.length := ⟨_, rfl⟩
  rw [← hmm] at HMk HHd
  have hm1 : 1 ≤ m := by omega
  have em : ((m : Int) != (m : Int)) = false := by simp
  obtain ⟨n, hn⟩ : ∃ n, n = l.length := ⟨_, rfl⟩
  rw [← hn] at HMk HHd HEq HFm HE3 R03 R13 O03 O13 HNE HNE2 H0B k0 ⊢
  clear hw3 hn hmm O1 O02 R0 B2 HS b3 k0 k1 hl
  refine HE3.out.mono ?_
  rintro e w4 ⟨rfl, b4⟩
  have s4 := b4.size
  have R04 : Hid (w4.heap[w1.heap.size]? = some (.cells [.slice x0 n y0, .int .i64 z].toArray 35 (0, 0))) := by show _ = _; rw [b4.block _ (by omega)]; exact R03.out
  have R14 : Hid (w4.heap[w2.heap.size]? = some (.cells [.slice x1 n y1, .int .i64 z].toArray 35 (0, 0))) := by show _ = _; rw [b4.block _ (by omega)]; exact R13.out
  have O04 : Hid (OwnL w4 w.heap.size (.slice x0 n y0) l) := OwnL.keep O03.out b4
  have O14 : Hid (OwnL w4 (w1.heap.size + 1) (.slice x1 n y1) l) := OwnL.keep O13.out b4
  have B4 : Hid (Below w.heap.size w w4) := B3.out.trans (b4.mono (by omega))
  clear b4 R03 R13 O03 O13 B3 HE3
  obtain ⟨⟨k0, k1⟩, _⟩ := cells2 R14.out
  go_wp2_with fail
  refine (HMk.out _ O14.out).mono ?_
  rintro e w5 ⟨rfl, mk5, sm5, s5, bl5⟩
  have R05 : Hid (w5.heap[w1.heap.size]? = some (.cells [.slice x0 n y0, .int .i64 z].toArray 35 (0, 0))) := by show _ = _; rw [sm5 _ (HNE.out _ (Nat.le_refl _)) (by omega)]; exact R04.out
  have R15 : Hid (w5.heap[w2.heap.size]? = some (.cells [.slice x1 n y1, .int .i64 z].toArray 35 (0, 0))) := by show _ = _; rw [sm5 _ HNE2.out (by omega)]; exact R14.out
  have O05 : Hid (OwnL w5 w.heap.size (.slice x0 n y0) l) := by
    refine ⟨O04.out.1, ?_⟩
    rcases O04.out.2 with h | ⟨g, cap, cur, e, h1, h2, h3⟩
    · exact .inl h
    · have hgb := H0B.out g (by rw [e]; rfl)
      exact .inr ⟨g, cap, cur, e, h1, by rw [sm5 g (HNE.out g (by omega)) (by omega)]; exact h2, h3⟩
  have M5 : Hid (MkL w5 (.slice x1 n y1) n) := mk5
  have B5 : Hid (Below w.heap.size w w5) := bl5 _ _ (by omega) (by omega) B4.out
  clear mk5 sm5 bl5 R04 R14 O04 O14 B4 HMk k0 k1
  obtain ⟨⟨k0, k1⟩, _⟩ := cells2 R15.out
  go_wp2_with fail
  refine (HHd.out _ M5.out).mono ?_
  rintro e w6 ⟨rfl, b6⟩
  have s6 := b6.size
  have R06 : Hid (w6.heap[w1.heap.size]? = some (.cells [.slice x0 n y0, .int .i64 z].toArray 35 (0, 0))) := by show _ = _; rw [b6.block _ (by omega)]; exact R05.out
  have R16 : Hid (w6.heap[w2.heap.size]? = some (.cells [.slice x1 n y1, .int .i64 z].toArray 35 (0, 0))) := by show _ = _; rw [b6.block _ (by omega)]; exact R15.out
  have O06 : Hid (OwnL w6 w.heap.size (.slice x0 n y0) l) := OwnL.keep O05.out b6
  have M6 : Hid (MkL w6 (.slice x1 n y1) n) := M5.out.keep b6
  have B6 : Hid (Below w.heap.size w w6) := B5.out.trans (b6.mono (by omega))
  clear b6 R05 R15 O05 M5 B5 k0 k1
  go_wp2_with fail
  refine (HI.out _).mono ?_
  rintro e w7 ⟨v2, rfl, o2, b7⟩
  obtain ⟨x2, y2, rfl⟩ := HFm.out _ _ _ o2
  have s7 := b7.size
  have b8 : ∀ o, Below w6.heap.size w6 (w7.alloc o) := fun o => b7.alloc s7 o
  have R08 : Hid (∀ o, (w7.alloc o).heap[w1.heap.size]? = some (.cells [.slice x0 n y0, .int .i64 z].toArray 35 (0, 0))) := fun o => by rw [(b8 o).block _ (by omega)]; exact R06.out
  have R18 : Hid (∀ o, (w7.alloc o).heap[w2.heap.size]? = some (.cells [.slice x1 n y1, .int .i64 z].toArray 35 (0, 0))) := fun o => by rw [(b8 o).block _ (by omega)]; exact R16.out
  have R07 : w7.heap[w1.heap.size]? = some (.cells [.slice x0 n y0, .int .i64 z].toArray 35 (0, 0)) := by rw [b7.block _ (by omega)]; exact R06.out
  have I08 : Hid (∀ o, IsInts (w7.alloc o) x0 l) := fun o => OwnL.ints (OwnL.keep O06.out (b8 o))
  have I28 : Hid (∀ o, IsInts (w7.alloc o) x2 l) := fun o => OwnL.ints (OwnL.keep o2 ((Below.refl _ w7).alloc (Nat.le_refl _) o))
  have M8 : Hid (∀ o, MkL (w7.alloc o) (.slice x1 n y1) n) := fun o => M6.out.keep (b8 o)
  have B8 : Hid (∀ o, Below w.heap.size w (w7.alloc o)) := fun o => B6.out.trans ((b8 o).mono (by omega))
  obtain ⟨⟨k0, k1⟩, _⟩ := cells2 R07
  have h17 : w1.heap.size < w7.heap.size := by omega
  clear o2 b7 b8 R06 R16 O06 M6 B6 R07
  go_wp2_with fail
  refine (HEq.out _ _ _ (I28.out _) (I08.out _)).mono ?_
  rintro e w9 ⟨rfl, b9⟩
  have s9 : w7.heap.size + 1 ≤ w9.heap.size := by have := b9.size; simpa using this
  have R19 : w9.heap[w2.heap.size]? = some (.cells [.slice x1 n y1, .int .i64 z].toArray 35 (0, 0)) := by rw [b9.block _ (by simp; omega)]; exact R18.out _
  have M9 : Hid (MkL w9 (.slice x1 n y1) n) := (M8.out _).keep b9
  have B9 : Hid (Below w.heap.size w w9) := (B8.out _).trans (b9.mono (by simp; omega))
  obtain ⟨⟨c0, c1⟩, _⟩ := cells2 R19
  clear b9 R19 k0 k1 R08 R18 I08 I28 M8 B8 h17
  go_wp2_with fail
  refine (HHd.out _ M9.out).mono ?_
  rintro e w10 ⟨rfl, b10⟩
  have B10 : Hid (Below w.heap.size w w10) := B9.out.trans (b10.mono (by omega))
  clear b10 c0 c1
  go_wp2_with fail
  go_ret
  exact ⟨rfl, B10.out⟩
namespace fnExactDerOidReadDone
open Go.ChangeShapes Go.WideShapes Go.ChangeAt Go.RowKit
open Go.ChangeMaps (open_string shut_string)
theorem own : ownKnob Try.prog.godebug = none := by kernel_rfl
theorem laidOut : laidOutB Try.prog = true := by kernel_rfl
set_option linter.unusedVariables false
set_option maxRecDepth 100000 in
theorem lifted (os : Os) (started : os.Started) (H : Type) (enc : TypeId × Value → H) :
    ReturnsInHanded {} Try.checked os 6 .any (Rows.fnExactDerOidReadSpec.pre6 enc Try.prog Try.f6 Rows.fnExactDerOidReadRow.domain false) (Rows.fnExactDerOidReadSpec.post enc Try.prog Try.f6 false true false false) := by
  refine returnsInHanded_of_change (C := Try.checked) own started (by kernel_rfl) Try.func6
    (ChangeSpec.witness6 (enc := enc) (C := Try.checked) false ⟨#[], #[.string ByteArray.empty], []⟩ 8 (by kernel_rfl) (by kernel_rfl) (by kernel_rfl) (by kernel_rfl)) ?_
  intro W base args ds gs before hval0 hW hcnd _
  have hval : ∀ (j : Nat) t v, Try.f6.params[j]? = some t → args[j]? = some v → Value.okWide Try.prog W .any base t v := hval0
  have hW' := hW
  obtain ⟨p, q, hA0, hV, rfl, hfz, hnd⟩ := hW
  have hA : DataW.TrodAll enc Try.prog W 0 (fun _ => true) true Try.f6.params.toList args.toList ds p := hA0
  rw [Try.params6] at hA hval
  obtain ⟨v0, vs0, d0, ds0, p0, q0, hargs, rfl, rfl, h0, r0⟩ := trodAll_cons hA
  obtain ⟨rfl, rfl, rfl⟩ := trodAll_nil r0
  obtain rfl : args = #[v0] := by cases args; simp_all
  obtain ⟨rfl, rfl⟩ := trodVars_none hV
  obtain ⟨a0, rfl, rfl, rfl, w0⟩ := open_string Try.underlying9 (hval 0 9 v0 rfl rfl) h0
  clear hA0 hval0
  simp only [List.append_nil] at hW'
  refine (oidReadWalk a0 w0 W).mono fun e W' ⟨he, bel⟩ => ?_
  subst he
  exact ⟨_, rfl, _, _, _, [], [], [], hW', trodAll_mk1 (shut_bool Try.underlying4 _), (trodAll_cons_mk (shut_string Try.underlying9 w0) trodAll_mk0), rfl, bel.frame _, fun h => by cases h⟩
theorem over : Rows.fnExactDerOidReadRow.holds Try.pinned (OpenSpec.ofChange Rows.fnExactDerOidReadSpec) :=
  OpenClaim.holds_of_wide 6 Try.f6 rfl rfl rfl rfl rfl rfl rfl ⟨rfl, rfl, rfl, rfl, rfl⟩ rfl rfl rfl rfl rfl (by kernel_rfl) Try.func6 (by kernel_rfl)
    (of_decide_eq_true (by kernel_rfl)) (by unfold Func.isWrapper; first | (rw [if_pos (by decide +kernel)]; kernel_rfl) | (rw [if_neg (by decide +kernel)]; exact ⟨rfl, rfl⟩))
    (fun os started H enc _ => lifted os started H enc)
end fnExactDerOidReadDone
theorem fnExactDerOidRead_holds : Rows.FnExactDerOidReadSaid := fnExactDerOidReadDone.over
#print axioms fnExactDerOidRead_holds
end Go.Proofs.Ytochmolhpcidgah
