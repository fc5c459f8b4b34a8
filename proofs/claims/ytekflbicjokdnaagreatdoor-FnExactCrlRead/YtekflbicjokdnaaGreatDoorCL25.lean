/- laws.eqCrlOut, markCrlOut, heldCrlOut, walked. FnExactCrlRead, walked: at every text CrlRead answers as the specification's, field by field; its answer owns its memory, behind another call too. The listed variables are tied to the program's text; no other condition. What the listed variables give the walks: the kind of errors, the errors. As many variables are read as are named. No program is named. -/
import Derived.Test.YtekflbicjokdnaaGreatDoorCL16
import Derived.Test.YtekflbicjokdnaaGreatDoorCL24
import Derived.Deep.Cut
import Derived.Below
import Derived.Stop.LaidErr
import Derived.ProofKit
import Derived.LaidMore
import Derived.LaidSub
import Derived.Stop.Joined
import Derived.OpenVars
import Derived.ChangeShapes
import Derived.Test.YtekflbicjokdnaaGreatDoorRows
namespace Go.Proofs.YtekflbicjokdnaaGreatDoor
open Go.RowKit

set_option linter.unusedSimpArgs false in
set_option maxHeartbeats 4000000 in
set_option maxRecDepth 100000 in
theorem eqCrlOut (c : Lst) (n : Int) (a b : Option Addr) (p q : Nat) (w : World) (hl : c.serials.length ≤ 1048576) (h1 : IsInts w a c.serials) (h2 : IsInts w b c.serials) :
    Calls Tryz.prog 18 #[crlV c (.slice a c.serials.length p) n, crlV c (.slice b c.serials.length q) n] w fun e w' => e = .returned (.bool true) ∧ Below w.heap.size w w' := by
  have HE : Hid (∀ V, Below w.heap.size w V → Calls Tryz.prog 52 #[c.val (.slice a c.serials.length p), c.val (.slice b c.serials.length q)] V fun e w' => e = .returned (.bool true) ∧ Below V.heap.size V w') := fun V hV => eqCrl c a b p q V hl (h1.keep hV) (h2.keep hV)
  clear hl h1 h2
  obtain ⟨iss, fr, till, serials, sk, se, ss⟩ := c
  unfold crlV
  unfold Lst.val at HE
  simp only at HE ⊢
  generalize serials.length = nl at *
  obtain ⟨w1, hw1⟩ : ∃ y, y = (w.alloc (.cells #[.string iss, .int .i64 fr, .int .i64 till, .slice a nl p, .int .i64 sk, .int .i64 se, .int .i64 ss, .int .i64 n] 44 (0, 0))).alloc (.cells #[.string iss, .int .i64 fr, .int .i64 till, .slice b nl q, .int .i64 sk, .int .i64 se, .int .i64 ss, .int .i64 n] 44 (0, 0)) := ⟨_, rfl⟩
  have q0 : w1.heap[w.heap.size]? = some (.cells [Value.string iss, .int .i64 fr, .int .i64 till, .slice a nl p, .int .i64 sk, .int .i64 se, .int .i64 ss, .int .i64 n].toArray 44 (0, 0)) := by rw [hw1, Below.heap_alloc _ _ _ (by simp)]; exact heap_alloc_new w _
  have q1 : w1.heap[w.heap.size + 1]? = some (.cells [Value.string iss, .int .i64 fr, .int .i64 till, .slice b nl q, .int .i64 sk, .int .i64 se, .int .i64 ss, .int .i64 n].toArray 44 (0, 0)) := by rw [hw1]; exact heap_alloc2 w _ _
  have P1 : Hid (Below w.heap.size w w1) := by rw [hw1]; exact ((Below.refl _ _).alloc (Nat.le_refl _) _).alloc (by simp) _
  have HB : Hid (∀ V, Below w1.heap.size w1 V → Below w.heap.size w V) := fun V hV => P1.out.trans (hV.mono P1.out.size)
  have I1 : Hid (Below w1.heap.size w1 w1) := Below.refl _ _
  have KA : Hid (∀ V, Below w1.heap.size w1 V → V.cell? ⟨w.heap.size, 0, none⟩ = some (.string iss) ∧ V.cell? ⟨w.heap.size, 1, none⟩ = some (.int .i64 fr) ∧ V.cell? ⟨w.heap.size, 2, none⟩ = some (.int .i64 till) ∧ V.cell? ⟨w.heap.size, 3, none⟩ = some (.slice a nl p) ∧ V.cell? ⟨w.heap.size, 4, none⟩ = some (.int .i64 sk) ∧ V.cell? ⟨w.heap.size, 5, none⟩ = some (.int .i64 se) ∧ V.cell? ⟨w.heap.size, 6, none⟩ = some (.int .i64 ss) ∧ V.cell? ⟨w.heap.size, 7, none⟩ = some (.int .i64 n)) := fun V hV => by
    have hP := (hV.block _ (heap_lt q0)).trans q0
    exact ⟨rowFacts hP 0 _ rfl, rowFacts hP 1 _ rfl, rowFacts hP 2 _ rfl, rowFacts hP 3 _ rfl, rowFacts hP 4 _ rfl, rowFacts hP 5 _ rfl, rowFacts hP 6 _ rfl, rowFacts hP 7 _ rfl⟩
  have KB : Hid (∀ V, Below w1.heap.size w1 V → V.cell? ⟨w.heap.size + 1, 0, none⟩ = some (.string iss) ∧ V.cell? ⟨w.heap.size + 1, 1, none⟩ = some (.int .i64 fr) ∧ V.cell? ⟨w.heap.size + 1, 2, none⟩ = some (.int .i64 till) ∧ V.cell? ⟨w.heap.size + 1, 3, none⟩ = some (.slice b nl q) ∧ V.cell? ⟨w.heap.size + 1, 4, none⟩ = some (.int .i64 sk) ∧ V.cell? ⟨w.heap.size + 1, 5, none⟩ = some (.int .i64 se) ∧ V.cell? ⟨w.heap.size + 1, 6, none⟩ = some (.int .i64 ss) ∧ V.cell? ⟨w.heap.size + 1, 7, none⟩ = some (.int .i64 n)) := fun V hV => by
    have hP := (hV.block _ (heap_lt q1)).trans q1
    exact ⟨rowFacts hP 0 _ rfl, rowFacts hP 1 _ rfl, rowFacts hP 2 _ rfl, rowFacts hP 3 _ rfl, rowFacts hP 4 _ rfl, rowFacts hP 5 _ rfl, rowFacts hP 6 _ rfl, rowFacts hP 7 _ rfl⟩
  clear q0 q1
  have hnn : (n != n) = false := by simp
  go_enter Tryz.func18, Tryz.ntmps18
  go_upto_region 1 with fail
  rw [← hw1]
  clear hw1
  obtain ⟨x0, x1, x2, x3, x4, x5, x6, x7⟩ := KA.out _ I1.out
  obtain ⟨y0, y1, y2, y3, y4, y5, y6, y7⟩ := KB.out _ I1.out
  go_wp2_with fail
  refine (HE.out w1 (HB.out _ I1.out)).mono ?_
  rintro e w2 ⟨rfl, b2⟩
  have K2 : Hid (Below w1.heap.size w1 w2) := b2
  clear b2 x0 x1 x2 x3 x4 x5 x6 x7 y0 y1 y2 y3 y4 y5 y6 y7
  obtain ⟨x0, x1, x2, x3, x4, x5, x6, x7⟩ := KA.out _ K2.out
  obtain ⟨y0, y1, y2, y3, y4, y5, y6, y7⟩ := KB.out _ K2.out
  go_wp2
  go_ret
  exact ⟨rfl, HB.out _ K2.out⟩
set_option linter.unusedSimpArgs false in
set_option maxHeartbeats 4000000 in
set_option maxRecDepth 100000 in
theorem markCrlOut (c : Lst) (n : Int) (a : Option Addr) (m cap : Nat) (l : List Int) (B : Nat) (w : World) (hl : l.length ≤ 1048576) (ho : OwnL w B (.slice a m cap) l) :
    Calls Tryz.prog 19 #[crlV c (.slice a m cap) n, .int .i64 1] w fun e w' => e = .returned (.int .i64 ((1 + l.length : Nat) : Int)) ∧ MkL w' (.slice a m cap) l.length ∧
      (∀ b, (Value.slice a m cap).ownBlock ≠ some b → b < w.heap.size → w'.heap[b]? = w.heap[b]?) ∧ w.heap.size ≤ w'.heap.size ∧ ∀ B' w0, B' ≤ B → B' ≤ w.heap.size → Below B' w0 w → Below B' w0 w' := by
  have HM := fun V hV => markCrlC c (.slice a m cap) l B V hl hV
  have HM' : Hid (∀ V, OwnL V B (.slice a m cap) l → _) := HM
  have ho' : Hid (OwnL w B (.slice a m cap) l) := ho
  clear HM ho
  obtain ⟨iss, fr, till, serials, sk, se, ss⟩ := c
  unfold crlV
  unfold Lst.val at HM'
  simp only at HM' ⊢
  obtain ⟨w1, hw1⟩ : ∃ y, y = w.alloc (.cells #[.string iss, .int .i64 fr, .int .i64 till, .slice a m cap, .int .i64 sk, .int .i64 se, .int .i64 ss, .int .i64 n] 44 (0, 0)) := ⟨_, rfl⟩
  have q0 : w1.heap[w.heap.size]? = some (.cells [Value.string iss, .int .i64 fr, .int .i64 till, .slice a m cap, .int .i64 sk, .int .i64 se, .int .i64 ss, .int .i64 n].toArray 44 (0, 0)) := by rw [hw1]; exact heap_alloc_new w _
  have b1 : Below w.heap.size w w1 := by rw [hw1]; exact (Below.refl _ _).alloc (Nat.le_refl _) _
  have z1 : w1.heap.size = w.heap.size + 1 := by rw [hw1]; simp
  have HAl : Hid (∀ B' w0, B' ≤ w.heap.size → Below B' w0 w → Below B' w0 w1) := fun B' w0 h1 h2 => by rw [hw1]; exact h2.alloc h1 _
  have C1 := HM'.out w1 (ho'.out.keep b1)
  have C1' : Hid _ := C1
  have B1 : Hid (Below w.heap.size w w1) := b1
  have Z1 : Hid (w1.heap.size = w.heap.size + 1) := z1
  have x0 := rowFacts q0 0 _ rfl; have x1 := rowFacts q0 1 _ rfl; have x2 := rowFacts q0 2 _ rfl; have x3 := rowFacts q0 3 _ rfl; have x4 := rowFacts q0 4 _ rfl; have x5 := rowFacts q0 5 _ rfl; have x6 := rowFacts q0 6 _ rfl; have x7 := rowFacts q0 7 _ rfl
  clear q0 b1 z1 C1 HM' ho'
  go_enter Tryz.func19, Tryz.ntmps19
  go_upto_region 1 with fail
  rw [← hw1]
  clear hw1
  go_wp2_with fail
  refine (Calls.mono C1'.out) ?_
  rintro e w2 ⟨rfl, mk, sm, s2, bl⟩
  have MK : Hid _ := mk
  have SM : Hid (∀ b, (Value.slice a m cap).ownBlock ≠ some b → b < w.heap.size → w2.heap[b]? = w.heap[b]?) := fun b hb hl => by rw [sm b hb (by rw [Z1.out]; omega)]; exact B1.out.block b hl
  have BL : Hid (∀ B' w0, B' ≤ B → B' ≤ w.heap.size → Below B' w0 w → Below B' w0 w2) := fun B' w0 h1 h2 h3 => bl B' w0 h1 (by rw [Z1.out]; omega) (HAl.out B' w0 h2 h3)
  have S2 : Hid (w.heap.size ≤ w2.heap.size) := by show _ ≤ _; have := Z1.out; omega
  clear mk sm s2 bl x0 x1 x2 x3 x4 x5 x6 x7
  go_wp2
  go_ret
  exact ⟨rfl, MK.out, SM.out, S2.out, BL.out⟩
set_option linter.unusedSimpArgs false in
set_option maxHeartbeats 4000000 in
set_option maxRecDepth 100000 in
theorem heldCrlOut (c : Lst) (n : Int) (a : Option Addr) (m cap : Nat) (r : Nat) (w : World) (hl : r ≤ 1048576) (hm : MkL w (.slice a m cap) r) :
    Calls Tryz.prog 20 #[crlV c (.slice a m cap) n, .int .i64 1] w fun e w' => e = .returned (.int .i64 ((1 + r : Nat) : Int)) ∧ Below w.heap.size w w' := by
  have HM := fun V hV => heldCrlC c (.slice a m cap) r V hl hV
  have HM' : Hid (∀ V, MkL V (.slice a m cap) r → _) := HM
  have ho' : Hid (MkL w (.slice a m cap) r) := hm
  clear HM hm
  obtain ⟨iss, fr, till, serials, sk, se, ss⟩ := c
  unfold crlV
  unfold Lst.val at HM'
  simp only at HM' ⊢
  obtain ⟨w1, hw1⟩ : ∃ y, y = w.alloc (.cells #[.string iss, .int .i64 fr, .int .i64 till, .slice a m cap, .int .i64 sk, .int .i64 se, .int .i64 ss, .int .i64 n] 44 (0, 0)) := ⟨_, rfl⟩
  have q0 : w1.heap[w.heap.size]? = some (.cells [Value.string iss, .int .i64 fr, .int .i64 till, .slice a m cap, .int .i64 sk, .int .i64 se, .int .i64 ss, .int .i64 n].toArray 44 (0, 0)) := by rw [hw1]; exact heap_alloc_new w _
  have b1 : Below w.heap.size w w1 := by rw [hw1]; exact (Below.refl _ _).alloc (Nat.le_refl _) _
  have C1 := HM'.out w1 (ho'.out.keep b1)
  have C1' : Hid _ := C1
  have B1 : Hid (Below w.heap.size w w1) := b1
  obtain ⟨mm, hmm⟩ : ∃ mm, mm = 1 + r := ⟨_, rfl⟩
  rw [← hmm] at C1' ⊢
  have hm1 : ¬ ((mm : Int) < 0) := by omega
  have x0 := rowFacts q0 0 _ rfl; have x1 := rowFacts q0 1 _ rfl; have x2 := rowFacts q0 2 _ rfl; have x3 := rowFacts q0 3 _ rfl; have x4 := rowFacts q0 4 _ rfl; have x5 := rowFacts q0 5 _ rfl; have x6 := rowFacts q0 6 _ rfl; have x7 := rowFacts q0 7 _ rfl
  clear q0 b1 C1 HM' ho' hmm
  go_enter Tryz.func20, Tryz.ntmps20
  go_upto_region 1 with fail
  rw [← hw1]
  clear hw1
  go_wp2_with fail
  refine (Calls.mono C1'.out) ?_
  rintro e w2 ⟨rfl, b2⟩
  have B2 : Hid (Below w.heap.size w w2) := B1.out.trans (b2.mono B1.out.size)
  clear b2 x0 x1 x2 x3 x4 x5 x6 x7
  go_wp2
  go_ret
  exact ⟨rfl, B2.out⟩
end Go.Proofs.YtekflbicjokdnaaGreatDoor
namespace Go.Proofs.YtekflbicjokdnaaGreatDoor
open Go.RowKit

set_option linter.unusedSimpArgs false in
set_option maxHeartbeats 4000000 in
set_option maxRecDepth 100000 in
theorem crlReadWalk (s : ByteArray) (hs : s.size ≤ maxLen) (w : World) (hk : ErrType w ∧ Err2 w) :
    Calls Tryz.prog 5 #[.string s] w fun e w' => e = .returned (.bool true) ∧ Below w.heap.size w w' := by
  have HS : Hid (∀ V : World, Calls Tryz.prog 16 #[.string s] V fun e w' => ∃ v, e = .returned (crlV (crlS s).1 v (crlS s).2) ∧ OwnL w' V.heap.size v (crlS s).1.serials ∧ Below V.heap.size V w') := fun V => specCrlRead s V
  have HI : Hid (∀ V, ErrType V ∧ Err2 V → Calls Tryz.prog 17 #[.string s] V fun e w' => ∃ v, e = .returned (crlV (crlS s).1 v (crlS s).2) ∧ OwnL w' V.heap.size v (crlS s).1.serials ∧ Below V.heap.size V w') := fun V hV => (by rw [← crlR_eq]; exact implCrlRead s V hs hV.1 hV.2)
  have hRL : (crlS s).1.serials.length ≤ 1048576 := crlS_fit s
  have HER : Hid (∀ V a b p q, IsInts V a (crlS s).1.serials → IsInts V b (crlS s).1.serials → Calls Tryz.prog 18 #[crlV (crlS s).1 (.slice a (crlS s).1.serials.length p) (crlS s).2, crlV (crlS s).1 (.slice b (crlS s).1.serials.length q) (crlS s).2] V fun e w' => e = .returned (.bool true) ∧ Below V.heap.size V w') := fun V a b p q h1 h2 => eqCrlOut _ _ a b p q V hRL h1 h2
  have HMR : Hid (∀ V B a m cap, OwnL V B (.slice a m cap) (crlS s).1.serials → Calls Tryz.prog 19 #[crlV (crlS s).1 (.slice a m cap) (crlS s).2, .int .i64 1] V fun e w' => e = .returned (.int .i64 ((1 + (crlS s).1.serials.length : Nat) : Int)) ∧ MkL w' (.slice a m cap) (crlS s).1.serials.length ∧
      (∀ b, (Value.slice a m cap).ownBlock ≠ some b → b < V.heap.size → w'.heap[b]? = V.heap[b]?) ∧ V.heap.size ≤ w'.heap.size ∧ ∀ B' w0, B' ≤ B → B' ≤ V.heap.size → Below B' w0 V → Below B' w0 w') := fun V B a m cap ho => markCrlOut _ _ a m cap _ B V hRL ho
  have HHR : Hid (∀ V a m cap, MkL V (.slice a m cap) (crlS s).1.serials.length → Calls Tryz.prog 20 #[crlV (crlS s).1 (.slice a m cap) (crlS s).2, .int .i64 1] V fun e w' => e = .returned (.int .i64 ((1 + (crlS s).1.serials.length : Nat) : Int)) ∧ Below V.heap.size V w') := fun V a m cap hm => heldCrlOut _ _ a m cap _ V hRL hm
  have HKy : Hid (∀ V, Below w.heap.size w V → ErrType V ∧ Err2 V) := fun V hV => by
    exact ⟨hk.1.below hV hk.1.pos, hk.2.keep hV⟩
  clear hk hs
  generalize (crlS s).2 = rn at *
  generalize (crlS s).1 = R at *
  obtain ⟨iss, fr, till, serials, sk, se, ss⟩ := R
  unfold crlV at HS HI HER HMR HHR
  simp only at HS HI HER HMR HHR hRL
  generalize hrl : serials.length = rl at *
  have HRl : Hid (serials.length = rl) := hrl
  clear hrl
  by_cases hbig : 1048576 < s.size
  · go_enter Tryz.func5, Tryz.ntmps5
    go_wp2
    go_ret
    exact ⟨rfl, Below.refl _ _⟩
  go_enter Tryz.func5, Tryz.ntmps5
  go_wp2_with fail
  refine (HS.out _).mono ?_
  rintro e w4 ⟨v0, rfl, o0, b4⟩
  have K4 : Hid (Below w.heap.size w w4) := b4
  have O0 : Hid (OwnL w4 w.heap.size v0 serials) := o0
  clear b4 o0
  obtain ⟨x0, y0, rfl, _⟩ := O0.out.form
  rw [HRl.out] at O0 ⊢
  obtain ⟨w5, hw5⟩ : ∃ w5, w5 = w4.alloc (.cells #[.string iss, .int .i64 fr, .int .i64 till, .slice x0 rl y0, .int .i64 sk, .int .i64 se, .int .i64 ss, .int .i64 rn] 44 (0, 0)) := ⟨_, rfl⟩
  have b5 : Below w4.heap.size w4 w5 := by rw [hw5]; exact (Below.refl _ _).alloc (Nat.le_refl _) _
  have K5 : Hid (Below w.heap.size w w5) := K4.out.trans (b5.mono K4.out.size)
  have O5 : Hid (OwnL w5 w.heap.size (.slice x0 rl y0) serials) := by show OwnL _ _ _ _; exact O0.out.keep b5
  have R5 : Hid (w5.heap[w4.heap.size]? = some (.cells [Value.string iss, .int .i64 fr, .int .i64 till, .slice x0 rl y0, .int .i64 sk, .int .i64 se, .int .i64 ss, .int .i64 rn].toArray 44 (0, 0))) := by show _ = _; rw [hw5]; exact heap_alloc_new w4 _
  have P5 : Hid (∀ g, (Value.slice x0 rl y0).ownBlock = some g → g < w5.heap.size) := fun g e => (OwnL.ge O5.out e).2
  clear b5 K4 O0
  go_upto_region 4 with fail
  rw [← hw5]
  clear hw5
  go_wp2_with fail
  refine (HI.out _ (HKy.out _ K5.out)).mono ?_
  rintro e w8 ⟨v1, rfl, o1, b8⟩
  obtain ⟨x1, y1, e1, _⟩ := OwnL.form o1
  subst e1
  rw [HRl.out] at o1 ⊢
  obtain ⟨w9, hw9⟩ : ∃ w9, w9 = w8.alloc (.cells #[.string iss, .int .i64 fr, .int .i64 till, .slice x1 rl y1, .int .i64 sk, .int .i64 se, .int .i64 ss, .int .i64 rn] 44 (0, 0)) := ⟨_, rfl⟩
  have b9 : Below w8.heap.size w8 w9 := by rw [hw9]; exact (Below.refl _ _).alloc (Nat.le_refl _) _
  have d9 : Below w5.heap.size w5 w9 := b8.trans (b9.mono b8.size)
  have s8 := b8.size
  have z9 : w8.heap.size < w9.heap.size := by rw [hw9]; simp
  have z5 : w4.heap.size < w5.heap.size := heap_lt R5.out
  have K9 : Hid (Below w.heap.size w w9) := K5.out.trans (d9.mono K5.out.size)
  have R9 : Hid (w9.heap[w4.heap.size]? = some (.cells [Value.string iss, .int .i64 fr, .int .i64 till, .slice x0 rl y0, .int .i64 sk, .int .i64 se, .int .i64 ss, .int .i64 rn].toArray 44 (0, 0))) := (d9.block _ (by omega)).trans R5.out
  have Y9 : Hid (w9.heap[w8.heap.size]? = some (.cells [Value.string iss, .int .i64 fr, .int .i64 till, .slice x1 rl y1, .int .i64 sk, .int .i64 se, .int .i64 ss, .int .i64 rn].toArray 44 (0, 0))) := by show _ = _; rw [hw9]; exact heap_alloc_new w8 _
  have O9 : Hid (OwnL w9 w.heap.size (.slice x0 rl y0) serials) := O5.out.keep d9
  have Q9 : Hid (OwnL w9 w5.heap.size (.slice x1 rl y1) serials) := o1.keep b9
  have P8 : Hid (∀ g, (Value.slice x1 rl y1).ownBlock = some g → w5.heap.size ≤ g ∧ g < w8.heap.size) := fun g e => OwnL.ge o1 e
  have ZZ : Hid (w4.heap.size < w5.heap.size ∧ w5.heap.size ≤ w8.heap.size ∧ w8.heap.size < w9.heap.size ∧ w.heap.size ≤ w5.heap.size) := ⟨z5, s8, z9, K5.out.size⟩
  clear b8 b9 d9 s8 z9 z5 o1 K5 R5 O5
  go_upto_region 5 with fail
  rw [← hw9]
  clear hw9
  have k0 := rowFacts Y9.out 0 _ rfl
  have k1 := rowFacts Y9.out 1 _ rfl
  have k2 := rowFacts Y9.out 2 _ rfl
  have k3 := rowFacts Y9.out 3 _ rfl
  have k4 := rowFacts Y9.out 4 _ rfl
  have k5 := rowFacts Y9.out 5 _ rfl
  have k6 := rowFacts Y9.out 6 _ rfl
  have k7 := rowFacts Y9.out 7 _ rfl
  have d0 := rowFacts R9.out 0 _ rfl
  have d1 := rowFacts R9.out 1 _ rfl
  have d2 := rowFacts R9.out 2 _ rfl
  have d3 := rowFacts R9.out 3 _ rfl
  have d4 := rowFacts R9.out 4 _ rfl
  have d5 := rowFacts R9.out 5 _ rfl
  have d6 := rowFacts R9.out 6 _ rfl
  have d7 := rowFacts R9.out 7 _ rfl
  go_wp2_with fail
  refine (HER.out _ _ _ _ _ Q9.out.ints O9.out.ints).mono ?_
  rintro e w14 ⟨rfl, b14⟩
  have zz := ZZ.out
  have z14 := b14.size
  have R14 : Hid (w14.heap[w4.heap.size]? = some (.cells [Value.string iss, .int .i64 fr, .int .i64 till, .slice x0 rl y0, .int .i64 sk, .int .i64 se, .int .i64 ss, .int .i64 rn].toArray 44 (0, 0))) := (b14.block _ (by omega)).trans R9.out
  have Y14 : Hid (w14.heap[w8.heap.size]? = some (.cells [Value.string iss, .int .i64 fr, .int .i64 till, .slice x1 rl y1, .int .i64 sk, .int .i64 se, .int .i64 ss, .int .i64 rn].toArray 44 (0, 0))) := (b14.block _ (by omega)).trans Y9.out
  have O14 : Hid (OwnL w14 w.heap.size (.slice x0 rl y0) serials) := O9.out.keep b14
  have Q14 : Hid (OwnL w14 w5.heap.size (.slice x1 rl y1) serials) := Q9.out.keep b14
  have K14 : Hid (Below w.heap.size w w14) := K9.out.trans (b14.mono K9.out.size)
  have Z14 : Hid (w9.heap.size ≤ w14.heap.size) := by show _ ≤ _; omega
  clear b14 R9 Y9 O9 Q9 K9 k0 k1 k2 k3 k4 k5 k6 k7 d0 d1 d2 d3 d4 d5 d6 d7 zz z14
  obtain ⟨m, hm⟩ : ∃ m, m = 1 + rl := ⟨_, rfl⟩
  rw [← hm] at HMR HHR
  have hm1 : 1 ≤ m := by omega
  have em : ((m : Int) != (m : Int)) = false := by simp
  clear hm
  go_upto_region 8 with fail
  have k0 := rowFacts Y14.out 0 _ rfl
  have k1 := rowFacts Y14.out 1 _ rfl
  have k2 := rowFacts Y14.out 2 _ rfl
  have k3 := rowFacts Y14.out 3 _ rfl
  have k4 := rowFacts Y14.out 4 _ rfl
  have k5 := rowFacts Y14.out 5 _ rfl
  have k6 := rowFacts Y14.out 6 _ rfl
  have k7 := rowFacts Y14.out 7 _ rfl
  go_wp2_with fail
  refine (HMR.out _ _ _ _ _ Q14.out).mono ?_
  rintro e w15 ⟨rfl, mk, sm, s15, bl⟩
  have zz := ZZ.out
  have z14 := Z14.out
  have R15 : Hid (w15.heap[w4.heap.size]? = some (.cells [Value.string iss, .int .i64 fr, .int .i64 till, .slice x0 rl y0, .int .i64 sk, .int .i64 se, .int .i64 ss, .int .i64 rn].toArray 44 (0, 0))) := (sm _ (fun e => by have := (P8.out _ e).1; omega) (by omega)).trans R14.out
  have Y15 : Hid (w15.heap[w8.heap.size]? = some (.cells [Value.string iss, .int .i64 fr, .int .i64 till, .slice x1 rl y1, .int .i64 sk, .int .i64 se, .int .i64 ss, .int .i64 rn].toArray 44 (0, 0))) := (sm _ (fun e => by have := (P8.out _ e).2; omega) (by omega)).trans Y14.out
  have O15 : Hid (OwnL w15 w.heap.size (.slice x0 rl y0) serials) := by
    refine ⟨O14.out.1, ?_⟩
    rcases O14.out.2 with h | ⟨g, cap, cur, e, h1, h2, h3⟩
    · exact .inl h
    · have hgb := P5.out g (by rw [e]; rfl)
      exact .inr ⟨g, cap, cur, e, h1, by rw [sm g (fun e => by have := (P8.out _ e).1; omega) (by omega)]; exact h2, h3⟩
  have M15 : Hid (MkL w15 (.slice x1 rl y1) rl) := mk
  have K15 : Hid (Below w.heap.size w w15) := bl _ _ (by omega) (by omega) K14.out
  have Z15 : Hid (w9.heap.size ≤ w15.heap.size) := by show _ ≤ _; omega
  clear sm bl mk s15 zz z14 R14 Y14 O14 Q14 K14 k0 k1 k2 k3 k4 k5 k6 k7
  go_upto_region 10 with fail
  have k0 := rowFacts Y15.out 0 _ rfl
  have k1 := rowFacts Y15.out 1 _ rfl
  have k2 := rowFacts Y15.out 2 _ rfl
  have k3 := rowFacts Y15.out 3 _ rfl
  have k4 := rowFacts Y15.out 4 _ rfl
  have k5 := rowFacts Y15.out 5 _ rfl
  have k6 := rowFacts Y15.out 6 _ rfl
  have k7 := rowFacts Y15.out 7 _ rfl
  go_wp2_with fail
  refine (HHR.out _ _ _ _ M15.out).mono ?_
  rintro e w16 ⟨rfl, b16⟩
  have s16 := b16.size
  have zz := ZZ.out
  have z15 := Z15.out
  have R16 : Hid (w16.heap[w4.heap.size]? = some (.cells [Value.string iss, .int .i64 fr, .int .i64 till, .slice x0 rl y0, .int .i64 sk, .int .i64 se, .int .i64 ss, .int .i64 rn].toArray 44 (0, 0))) := (b16.block _ (by omega)).trans R15.out
  have Y16 : Hid (w16.heap[w8.heap.size]? = some (.cells [Value.string iss, .int .i64 fr, .int .i64 till, .slice x1 rl y1, .int .i64 sk, .int .i64 se, .int .i64 ss, .int .i64 rn].toArray 44 (0, 0))) := (b16.block _ (by omega)).trans Y15.out
  have O16 : Hid (OwnL w16 w.heap.size (.slice x0 rl y0) serials) := O15.out.keep b16
  have M16 : Hid (MkL w16 (.slice x1 rl y1) rl) := M15.out.keep b16
  have K16 : Hid (Below w.heap.size w w16) := K15.out.trans (b16.mono K15.out.size)
  have Z16 : Hid (w9.heap.size ≤ w16.heap.size) := by show _ ≤ _; omega
  clear b16 R15 Y15 O15 M15 K15 k0 k1 k2 k3 k4 k5 k6 k7 s16 zz z15
  go_wp2_with fail
  refine (HI.out _ (HKy.out _ K16.out)).mono ?_
  rintro e w18 ⟨v2, rfl, o2, b18⟩
  obtain ⟨x2, y2, e2, _⟩ := OwnL.form o2
  subst e2
  rw [HRl.out] at o2 ⊢
  obtain ⟨w19, hw19⟩ : ∃ w19, w19 = w18.alloc (.cells #[.string iss, .int .i64 fr, .int .i64 till, .slice x2 rl y2, .int .i64 sk, .int .i64 se, .int .i64 ss, .int .i64 rn] 44 (0, 0)) := ⟨_, rfl⟩
  have b19 : Below w18.heap.size w18 w19 := by rw [hw19]; exact (Below.refl _ _).alloc (Nat.le_refl _) _
  have s18 := b18.size
  have zz := ZZ.out
  have z16 := Z16.out
  have d19 : Below w16.heap.size w16 w19 := b18.trans (b19.mono (by omega))
  have R19 : Hid (w19.heap[w4.heap.size]? = some (.cells [Value.string iss, .int .i64 fr, .int .i64 till, .slice x0 rl y0, .int .i64 sk, .int .i64 se, .int .i64 ss, .int .i64 rn].toArray 44 (0, 0))) := (d19.block _ (by omega)).trans R16.out
  have Y19 : Hid (w19.heap[w8.heap.size]? = some (.cells [Value.string iss, .int .i64 fr, .int .i64 till, .slice x1 rl y1, .int .i64 sk, .int .i64 se, .int .i64 ss, .int .i64 rn].toArray 44 (0, 0))) := (d19.block _ (by omega)).trans Y16.out
  have H19 : Hid (w19.heap[w18.heap.size]? = some (.cells [Value.string iss, .int .i64 fr, .int .i64 till, .slice x2 rl y2, .int .i64 sk, .int .i64 se, .int .i64 ss, .int .i64 rn].toArray 44 (0, 0))) := by show _ = _; rw [hw19]; exact heap_alloc_new w18 _
  have O19 : Hid (OwnL w19 w.heap.size (.slice x0 rl y0) serials) := O16.out.keep d19
  have Q19 : Hid (OwnL w19 w16.heap.size (.slice x2 rl y2) serials) := o2.keep b19
  have M19 : Hid (MkL w19 (.slice x1 rl y1) rl) := M16.out.keep d19
  have K19 : Hid (Below w.heap.size w w19) := K16.out.trans (d19.mono K16.out.size)
  have Z19 : Hid (w9.heap.size ≤ w19.heap.size) := by show _ ≤ _; have := d19.size; omega
  clear b18 b19 d19 o2 s18 zz z16 R16 Y16 O16 M16 K16
  go_upto_region 16 with fail
  rw [← hw19]
  clear hw19
  have k0 := rowFacts H19.out 0 _ rfl
  have k1 := rowFacts H19.out 1 _ rfl
  have k2 := rowFacts H19.out 2 _ rfl
  have k3 := rowFacts H19.out 3 _ rfl
  have k4 := rowFacts H19.out 4 _ rfl
  have k5 := rowFacts H19.out 5 _ rfl
  have k6 := rowFacts H19.out 6 _ rfl
  have k7 := rowFacts H19.out 7 _ rfl
  have d0 := rowFacts R19.out 0 _ rfl
  have d1 := rowFacts R19.out 1 _ rfl
  have d2 := rowFacts R19.out 2 _ rfl
  have d3 := rowFacts R19.out 3 _ rfl
  have d4 := rowFacts R19.out 4 _ rfl
  have d5 := rowFacts R19.out 5 _ rfl
  have d6 := rowFacts R19.out 6 _ rfl
  have d7 := rowFacts R19.out 7 _ rfl
  go_wp2_with fail
  refine (HER.out _ _ _ _ _ Q19.out.ints O19.out.ints).mono ?_
  rintro e w20 ⟨rfl, b20⟩
  have s20 := b20.size
  have zz := ZZ.out
  have z19 := Z19.out
  have Y20 : Hid (w20.heap[w8.heap.size]? = some (.cells [Value.string iss, .int .i64 fr, .int .i64 till, .slice x1 rl y1, .int .i64 sk, .int .i64 se, .int .i64 ss, .int .i64 rn].toArray 44 (0, 0))) := (b20.block _ (by omega)).trans Y19.out
  have M20 : Hid (MkL w20 (.slice x1 rl y1) rl) := M19.out.keep b20
  have K20 : Hid (Below w.heap.size w w20) := K19.out.trans (b20.mono K19.out.size)
  clear b20 s20 zz z19 R19 Y19 H19 O19 Q19 M19 K19 k0 k1 k2 k3 k4 k5 k6 k7 d0 d1 d2 d3 d4 d5 d6 d7
  go_upto_region 19 with fail
  have k0 := rowFacts Y20.out 0 _ rfl
  have k1 := rowFacts Y20.out 1 _ rfl
  have k2 := rowFacts Y20.out 2 _ rfl
  have k3 := rowFacts Y20.out 3 _ rfl
  have k4 := rowFacts Y20.out 4 _ rfl
  have k5 := rowFacts Y20.out 5 _ rfl
  have k6 := rowFacts Y20.out 6 _ rfl
  have k7 := rowFacts Y20.out 7 _ rfl
  go_wp2_with fail
  refine (HHR.out _ _ _ _ M20.out).mono ?_
  rintro e w21 ⟨rfl, b21⟩
  have K21 : Hid (Below w.heap.size w w21) := K20.out.trans (b21.mono K20.out.size)
  clear b21 k0 k1 k2 k3 k4 k5 k6 k7
  go_wp2_with fail
  go_ret
  exact ⟨rfl, K21.out⟩
end Go.Proofs.YtekflbicjokdnaaGreatDoor
namespace Go.Proofs.YtekflbicjokdnaaGreatDoor
open Go.ChangeShapes Go.WideShapes Go.ChangeAt Go.RowKit

theorem gv_errNotRight : Tryz.prog.globalNamed "loop.example/g00371/impl.errNotRight" = some 3 := by kernel_rfl
theorem gt_errNotRight : (Tryz.prog.globals[3]?).map (·.type) = some 60 := by kernel_rfl
theorem gv_errOtherwise : Tryz.prog.globalNamed "loop.example/g00371/impl.errOtherwise" = some 1 := by kernel_rfl
theorem gt_errOtherwise : (Tryz.prog.globals[1]?).map (·.type) = some 60 := by kernel_rfl
theorem errCells : Tryz.prog.cellsOf 265 = 1 := by kernel_rfl
theorem strCells : Tryz.prog.cellsOf 9 = 1 := by kernel_rfl
theorem errStar : "*" ++ "errors.errorString" = "*errors.errorString" := by decide
theorem errName (u : TypeId) (h : Tryz.prog.typeName? 3 u = some "*errors.errorString") : u = 246 :=
  typeName_ptr_named (nm := "errors.errorString") (by rw [errStar]; kernel_rfl) (by kernel_rfl) (by decide) u (by rw [errStar]; exact h)
theorem gv_errorType : Tryz.prog.globalNamed "errors.errorType" = some 4 := by kernel_rfl
theorem cutRt : (Tryz.prog.cutTypes.find? (·.1 == "internal/reflectlite.rtype")).map (·.2) = some 145 := by kernel_rfl
theorem oneRowE : ((List.range 276).filter fun t => Tryz.prog.rowNamed t [101, 114, 114, 111, 114]) = [60] := by kernel_rfl
theorem sizeTypes : Tryz.prog.types.size = 276 := by kernel_rfl
theorem errType_of {W : World} (h : handlesMet Tryz.prog [("errors.errorType", Rows.laid_errors_errorType)] W) : ErrType W := by
  obtain ⟨name, u, ty, e1, e2, e3, e4, e5⟩ := h _ (List.mem_singleton.2 rfl)
  have en : name = [101, 114, 114, 111, 114] := (Option.some.inj e1).symm
  subst en
  obtain rfl := Option.some.inj (cutRt.symm.trans e2)
  have hm : ty ∈ (List.range 276).filter fun t => Tryz.prog.rowNamed t [101, 114, 114, 111, 114] := List.mem_filter.2 ⟨List.mem_range.2 (by rw [← sizeTypes]; exact e3), e4⟩
  rw [oneRowE] at hm
  obtain rfl := List.mem_singleton.1 hm
  have hh : typeHandle Tryz.prog 60 = .pointer (some ⟨7, 60, none⟩) := by kernel_rfl
  rw [hh] at e5
  unfold ErrType
  simpa using World.var?_cell gv_errorType e5 0
set_option maxRecDepth 100000 in
set_option maxHeartbeats 2000000 in
theorem laid_L2 {W : World} (h : laidMetH Tryz.prog [("errors.errorType", Rows.laid_errors_errorType), ("loop.example/g00371/impl.errNotRight", Rows.laid_loop_example_g00371_impl_errNotRight), ("loop.example/g00371/impl.errOtherwise", Rows.laid_loop_example_g00371_impl_errOtherwise)] W) : ErrType W ∧ Err2 W := by
  obtain ⟨h1, h2⟩ := laidMetH_iff.1 h
  have hty : ErrType W := errType_of h2
  replace h1 : laidMet Tryz.prog [("loop.example/g00371/impl.errNotRight", Rows.laid_loop_example_g00371_impl_errNotRight), ("loop.example/g00371/impl.errOtherwise", Rows.laid_loop_example_g00371_impl_errOtherwise)] W := h1
  obtain ⟨ps, ⟨g0, t0, cs0, f0, p0, q0, hg0, ht0, hv0, hd0, ⟨g1, t1, cs1, f1, p1, q1, hg1, ht1, hv1, hd1, hn, e1⟩, e0⟩, hnd, hrows⟩ := h1
  obtain rfl := Option.some.inj (gv_errNotRight.symm.trans hg0)
  obtain rfl := Option.some.inj (gt_errNotRight.symm.trans ht0)
  obtain rfl := Option.some.inj (gv_errOtherwise.symm.trans hg1)
  obtain rfl := Option.some.inj (gt_errOtherwise.symm.trans ht1)
  subst e1
  subst e0
  obtain ⟨l0⟩ := cs0
  have ok0 : ∀ u v, l0 = [.iface u v] → Value.okWide Tryz.prog W .any 0 u v := fun u v e => by
    subst e
    exact (hrows 3 0 (by simp [MemPlace.row])).2 u v (by simpa using World.var?_cell hg0 hv0 0)
  obtain ⟨a0, s0, rfl, _, _, _, rfl⟩ := errorString_of_trod Tryz.underlying60 errName Tryz.underlying246 Tryz.underlying265 rfl rfl Tryz.underlying9 errCells strCells hd0 ok0
  obtain ⟨c0, y0, hb0⟩ := (hrows a0.block a0.off (by simp [MemPlace.row])).1
  have E0 : ErrV 3 W a0 := ⟨by simpa using World.var?_cell hg0 hv0 0, c0, y0, hb0⟩
  obtain ⟨l1⟩ := cs1
  have ok1 : ∀ u v, l1 = [.iface u v] → Value.okWide Tryz.prog W .any 0 u v := fun u v e => by
    subst e
    exact (hrows 1 0 (by simp [MemPlace.row])).2 u v (by simpa using World.var?_cell hg1 hv1 0)
  obtain ⟨a1, s1, rfl, _, _, _, rfl⟩ := errorString_of_trod Tryz.underlying60 errName Tryz.underlying246 Tryz.underlying265 rfl rfl Tryz.underlying9 errCells strCells hd1 ok1
  obtain ⟨c1, y1, hb1⟩ := (hrows a1.block a1.off (by simp [MemPlace.row])).1
  have E1 : ErrV 1 W a1 := ⟨by simpa using World.var?_cell hg1 hv1 0, c1, y1, hb1⟩
  exact ⟨hty, _, _, E0, E1⟩
end Go.Proofs.YtekflbicjokdnaaGreatDoor
namespace Go.Proofs.YtekflbicjokdnaaGreatDoor

theorem trodVars_len {H : Type} {enc : TypeId × Value → H} {P : Program} {w : World} {spare : Nat → Bool} : ∀ {ns : List String} {gs : List (DataW H)} {ps : List MemPlace}, DataW.TrodVars enc P w spare ns gs ps → gs.length = ns.length
  | [], [], _, _ => rfl
  | [], _ :: _, _, h => by simp [DataW.TrodVars] at h
  | _ :: _, [], _, h => by simp [DataW.TrodVars] at h
  | _ :: _, _ :: _, _, h => by
    obtain ⟨g, t, cs, fuel, p, q, _, _, _, _, hs, _⟩ := h
    simp only [List.length_cons, trodVars_len hs]
end Go.Proofs.YtekflbicjokdnaaGreatDoor
