/- laws.markCsr, heldCert, walked. laws.eqCsrOut, markCsrOut, heldCsrOut, walked. FnExactCsrRead, walked: at every text CsrRead answers as the specification's, field by field; its answer owns its memory, behind another call too. The listed variables are tied to the program's text; no other condition. What the listed table gives the walks: the numbers of the rounds, each in its cell. What the listed variables give the walks: the kind of errors, the table, the errors. -/
import Derived.Test.YtekflbicjokdnaaGreatDoorCR25
import Derived.Test.YtekflbicjokdnaaGreatDoorCR04
import Derived.Deep.Cut
import Derived.Below
import Derived.Test.YtekflbicjokdnaaGreatDoorCR12
import Derived.ProofKit
import Derived.OpenShut
import Derived.LaidMore
import Derived.Stop.Joined
import Derived.OpenVars
import Derived.Lay
import Derived.Test.YtekflbicjokdnaaGreatDoorCR21
import Derived.Stop.LaidErr
import Derived.LaidSub
namespace Go.Proofs.YtekflbicjokdnaaGreatDoor
open Go.RowKit

set_option maxHeartbeats 2000000 in
set_option maxRecDepth 100000 in
theorem markCsrC (c : Ask) (v : Value) (l : List ByteArray) (B : Nat) (w : World) (hl : l.length ≤ 1048576) (ho : OwnS w B v l) :
    Calls Tryz.prog 40 #[c.val v, .int .i64 1] w fun e w' => e = .returned (.int .i64 ((1 + l.length : Nat) : Int)) ∧ MkS w' v l.length ∧
      (∀ b, v.ownBlock ≠ some b → b < w.heap.size → w'.heap[b]? = w.heap[b]?) ∧ w.heap.size ≤ w'.heap.size ∧ ∀ B' w0, B' ≤ B → B' ≤ w.heap.size → Below B' w0 w → Below B' w0 w' := by
  obtain ⟨key, names, sk, se, ss⟩ := c
  unfold Ask.val
  simp only
  rcases ho.2 with ⟨rfl, h0⟩ | ⟨g, cap, cur, rfl, hBg, hg, hnc, hcm, hcs, ht⟩
  · rw [h0]
    have HMk : Hid (∀ V : World, Calls Tryz.prog 73 #[.slice none 0 0, .int .i64 1] V fun e w' => e = .returned (.int .i64 1) ∧ w' = V) := fun V => by
      go_enter Tryz.func73, Tryz.ntmps73
      go_wp2_with fail
      refine wp_loop_rounds 1 ?_
      rw [rounds_succ]
      go_wp2_with fail
      go_ret
      exact ⟨rfl, rfl⟩
    clear ho h0
    go_enter Tryz.func40, Tryz.ntmps40
    go_wp2_with fail
    refine (HMk.out _).mono ?_
    rintro e w1 ⟨rfl, rfl⟩
    go_wp2_with fail
    go_ret
    refine ⟨rfl, .inl ⟨rfl, _, _, rfl⟩, fun b _ hb => Below.heap_alloc _ _ _ hb, by simp, fun B' w0 _ h2 h3 => h3.alloc h2 _⟩
  · have hgl : g < w.heap.size := heap_lt hg
    have HMk : Hid (∀ o, Calls Tryz.prog 73 #[.slice (some ⟨g, 0, none⟩) l.length cap, .int .i64 1] (w.alloc o) fun e w' => e = .returned (.int .i64 ((1 + l.length : Nat) : Int)) ∧ (∃ M, w'.heap[g]? = some (.cells M.toArray 9 (0, 0)) ∧ MarksS 1 l.length M) ∧
        (∀ b, b ≠ g → b < w.heap.size + 1 → w'.heap[b]? = (w.alloc o).heap[b]?) ∧ w.heap.size ≤ w'.heap.size ∧ ∀ B w0, B ≤ g → B ≤ w.heap.size + 1 → Below B w0 (w.alloc o) → Below B w0 w') := fun o => by
      refine (markStrs g l.length cap 1 cur.toList (w.alloc o) hl (by omega) (by omega) ?_ ?_).mono ?_
      · simp only [Array.length_toList, hcs]; omega
      · rw [Below.heap_alloc _ _ _ hgl]; simpa using hg
      · rintro e w' ⟨he, h1, h2, h3, h4⟩
        have hsz : (w.alloc o).heap.size = w.heap.size + 1 := by simp
        exact ⟨he, h1, fun b hb hb2 => h2 b hb (by omega), by omega, fun B w0 hB1 hB2 hB3 => h4 B w0 hB1 (by omega) hB3⟩
    obtain ⟨n, hn⟩ : ∃ n, n = l.length := ⟨_, rfl⟩
    rw [← hn] at hl HMk ⊢
    clear ho hg ht hcs hcm hnc hn
    go_enter Tryz.func40, Tryz.ntmps40
    go_wp2_with fail
    refine (HMk.out _).mono ?_
    rintro e w1 ⟨rfl, ⟨M, hM, hMk⟩, h2, h3, h4⟩
    have HM : Hid (w1.heap[g]? = some (.cells M.toArray 9 (0, 0)) ∧ MarksS 1 n M) := ⟨hM, hMk⟩
    have H2 : Hid (∀ b, b ≠ g → b < w.heap.size → w1.heap[b]? = w.heap[b]?) := fun b hb hl => by
      rw [h2 b hb (by omega)]; exact Below.heap_alloc _ _ _ hl
    have H4 : Hid (∀ B' w0, B' ≤ B → B' ≤ w.heap.size → Below B' w0 w → Below B' w0 w1) := fun B' w0 hB1 hB2 hB3 => h4 B' w0 (by omega) (by omega) (hB3.alloc hB2 _)
    clear hM hMk h2 h4 HMk
    go_wp2_with fail
    go_ret
    refine ⟨rfl, .inr ⟨g, cap, M, rfl, HM.out.1, HM.out.2⟩, fun b hb hl => H2.out b (fun e => hb (by rw [e]; rfl)) hl, h3, H4.out⟩
set_option maxHeartbeats 1000000 in
set_option maxRecDepth 100000 in
theorem heldCsrC (c : Ask) (v : Value) (n : Nat) (w : World) (hl : n ≤ 1048576) (hm : MkS w v n) :
    Calls Tryz.prog 41 #[c.val v, .int .i64 1] w fun e w' => e = .returned (.int .i64 ((1 + n : Nat) : Int)) ∧ Below w.heap.size w w' := by
  obtain ⟨key, names, sk, se, ss⟩ := c
  unfold Ask.val
  simp only
  rcases hm with ⟨rfl, a, c, rfl⟩ | ⟨g, cap, M, rfl, hg, hm⟩
  · have HMk : Hid (∀ V : World, Calls Tryz.prog 74 #[.slice a 0 c, .int .i64 1] V fun e w' => e = .returned (.int .i64 1) ∧ w' = V) := fun V => by
      go_enter Tryz.func74, Tryz.ntmps74
      go_wp2_with fail
      refine wp_loop_rounds 1 ?_
      rw [rounds_succ]
      go_wp2_with fail
      go_ret
      exact ⟨rfl, rfl⟩
    go_enter Tryz.func41, Tryz.ntmps41
    go_wp2_with fail
    refine (HMk.out _).mono ?_
    rintro e w1 ⟨rfl, rfl⟩
    go_wp2_with fail
    go_ret
    exact ⟨rfl, (Below.refl _ _).alloc (Nat.le_refl _) _⟩
  · have hgl : g < w.heap.size := heap_lt hg
    have HMk : Hid (∀ o, Calls Tryz.prog 74 #[.slice (some ⟨g, 0, none⟩) n cap, .int .i64 1] (w.alloc o) fun e w' => e = .returned (.int .i64 ((1 + n : Nat) : Int)) ∧ Below (w.alloc o).heap.size (w.alloc o) w') := fun o =>
      heldStrs g n cap 1 M (w.alloc o) hl (by omega) (by omega) (by rw [Below.heap_alloc _ _ _ hgl]; exact hg) hm
    clear hg hm
    obtain ⟨m, hmm⟩ : ∃ m, m = 1 + n := ⟨_, rfl⟩
    rw [← hmm] at HMk ⊢
    have hm1 : 1 ≤ m := by omega
    clear hmm
    go_enter Tryz.func41, Tryz.ntmps41
    go_wp2_with fail
    refine (HMk.out _).mono ?_
    rintro e w1 ⟨rfl, hb1⟩
    have HB : Hid (Below w.heap.size w w1) := ((Below.refl _ w).alloc (Nat.le_refl _) _).trans (hb1.mono (by simp))
    clear hb1 HMk
    go_wp2_with fail
    go_ret
    exact ⟨rfl, HB.out⟩
end Go.Proofs.YtekflbicjokdnaaGreatDoor
namespace Go.Proofs.YtekflbicjokdnaaGreatDoor
open Go.RowKit

set_option linter.unusedSimpArgs false in
set_option maxHeartbeats 4000000 in
set_option maxRecDepth 100000 in
theorem eqCsrOut (c : Ask) (n : Int) (a b : Option Addr) (p q : Nat) (w : World) (hl : c.names.length ≤ 1048576) (h1 : IsStrs w a c.names) (h2 : IsStrs w b c.names) :
    Calls Tryz.prog 13 #[csrV c (.slice a c.names.length p) n, csrV c (.slice b c.names.length q) n] w fun e w' => e = .returned (.bool true) ∧ Below w.heap.size w w' := by
  have HE : Hid (∀ V, Below w.heap.size w V → Calls Tryz.prog 39 #[c.val (.slice a c.names.length p), c.val (.slice b c.names.length q)] V fun e w' => e = .returned (.bool true) ∧ Below V.heap.size V w') := fun V hV => eqCsr c a b p q V hl (h1.keep hV) (h2.keep hV)
  clear hl h1 h2
  obtain ⟨key, names, sk, se, ss⟩ := c
  unfold csrV
  unfold Ask.val at HE
  simp only at HE ⊢
  generalize names.length = nl at *
  obtain ⟨w1, hw1⟩ : ∃ y, y = (w.alloc (.cells #[.int .i64 key, .slice a nl p, .int .i64 sk, .int .i64 se, .int .i64 ss, .int .i64 n] 36 (0, 0))).alloc (.cells #[.int .i64 key, .slice b nl q, .int .i64 sk, .int .i64 se, .int .i64 ss, .int .i64 n] 36 (0, 0)) := ⟨_, rfl⟩
  have q0 : w1.heap[w.heap.size]? = some (.cells [Value.int .i64 key, .slice a nl p, .int .i64 sk, .int .i64 se, .int .i64 ss, .int .i64 n].toArray 36 (0, 0)) := by rw [hw1, Below.heap_alloc _ _ _ (by simp)]; exact heap_alloc_new w _
  have q1 : w1.heap[w.heap.size + 1]? = some (.cells [Value.int .i64 key, .slice b nl q, .int .i64 sk, .int .i64 se, .int .i64 ss, .int .i64 n].toArray 36 (0, 0)) := by rw [hw1]; exact heap_alloc2 w _ _
  have P1 : Hid (Below w.heap.size w w1) := by rw [hw1]; exact ((Below.refl _ _).alloc (Nat.le_refl _) _).alloc (by simp) _
  have HB : Hid (∀ V, Below w1.heap.size w1 V → Below w.heap.size w V) := fun V hV => P1.out.trans (hV.mono P1.out.size)
  have I1 : Hid (Below w1.heap.size w1 w1) := Below.refl _ _
  have KA : Hid (∀ V, Below w1.heap.size w1 V → V.cell? ⟨w.heap.size, 0, none⟩ = some (.int .i64 key) ∧ V.cell? ⟨w.heap.size, 1, none⟩ = some (.slice a nl p) ∧ V.cell? ⟨w.heap.size, 2, none⟩ = some (.int .i64 sk) ∧ V.cell? ⟨w.heap.size, 3, none⟩ = some (.int .i64 se) ∧ V.cell? ⟨w.heap.size, 4, none⟩ = some (.int .i64 ss) ∧ V.cell? ⟨w.heap.size, 5, none⟩ = some (.int .i64 n)) := fun V hV => by
    have hP := (hV.block _ (heap_lt q0)).trans q0
    exact ⟨rowFacts hP 0 _ rfl, rowFacts hP 1 _ rfl, rowFacts hP 2 _ rfl, rowFacts hP 3 _ rfl, rowFacts hP 4 _ rfl, rowFacts hP 5 _ rfl⟩
  have KB : Hid (∀ V, Below w1.heap.size w1 V → V.cell? ⟨w.heap.size + 1, 0, none⟩ = some (.int .i64 key) ∧ V.cell? ⟨w.heap.size + 1, 1, none⟩ = some (.slice b nl q) ∧ V.cell? ⟨w.heap.size + 1, 2, none⟩ = some (.int .i64 sk) ∧ V.cell? ⟨w.heap.size + 1, 3, none⟩ = some (.int .i64 se) ∧ V.cell? ⟨w.heap.size + 1, 4, none⟩ = some (.int .i64 ss) ∧ V.cell? ⟨w.heap.size + 1, 5, none⟩ = some (.int .i64 n)) := fun V hV => by
    have hP := (hV.block _ (heap_lt q1)).trans q1
    exact ⟨rowFacts hP 0 _ rfl, rowFacts hP 1 _ rfl, rowFacts hP 2 _ rfl, rowFacts hP 3 _ rfl, rowFacts hP 4 _ rfl, rowFacts hP 5 _ rfl⟩
  clear q0 q1
  have hnn : (n != n) = false := by simp
  go_enter Tryz.func13, Tryz.ntmps13
  go_upto_region 1 with fail
  rw [← hw1]
  clear hw1
  obtain ⟨x0, x1, x2, x3, x4, x5⟩ := KA.out _ I1.out
  obtain ⟨y0, y1, y2, y3, y4, y5⟩ := KB.out _ I1.out
  go_wp2_with fail
  refine (HE.out w1 (HB.out _ I1.out)).mono ?_
  rintro e w2 ⟨rfl, b2⟩
  have K2 : Hid (Below w1.heap.size w1 w2) := b2
  clear b2 x0 x1 x2 x3 x4 x5 y0 y1 y2 y3 y4 y5
  obtain ⟨x0, x1, x2, x3, x4, x5⟩ := KA.out _ K2.out
  obtain ⟨y0, y1, y2, y3, y4, y5⟩ := KB.out _ K2.out
  go_wp2
  go_ret
  exact ⟨rfl, HB.out _ K2.out⟩
set_option linter.unusedSimpArgs false in
set_option maxHeartbeats 4000000 in
set_option maxRecDepth 100000 in
theorem markCsrOut (c : Ask) (n : Int) (a : Option Addr) (m cap : Nat) (l : List ByteArray) (B : Nat) (w : World) (hl : l.length ≤ 1048576) (ho : OwnS w B (.slice a m cap) l) :
    Calls Tryz.prog 14 #[csrV c (.slice a m cap) n, .int .i64 1] w fun e w' => e = .returned (.int .i64 ((1 + l.length : Nat) : Int)) ∧ MkS w' (.slice a m cap) l.length ∧
      (∀ b, (Value.slice a m cap).ownBlock ≠ some b → b < w.heap.size → w'.heap[b]? = w.heap[b]?) ∧ w.heap.size ≤ w'.heap.size ∧ ∀ B' w0, B' ≤ B → B' ≤ w.heap.size → Below B' w0 w → Below B' w0 w' := by
  have HM := fun V hV => markCsrC c (.slice a m cap) l B V hl hV
  have HM' : Hid (∀ V, OwnS V B (.slice a m cap) l → _) := HM
  have ho' : Hid (OwnS w B (.slice a m cap) l) := ho
  clear HM ho
  obtain ⟨key, names, sk, se, ss⟩ := c
  unfold csrV
  unfold Ask.val at HM'
  simp only at HM' ⊢
  obtain ⟨w1, hw1⟩ : ∃ y, y = w.alloc (.cells #[.int .i64 key, .slice a m cap, .int .i64 sk, .int .i64 se, .int .i64 ss, .int .i64 n] 36 (0, 0)) := ⟨_, rfl⟩
  have q0 : w1.heap[w.heap.size]? = some (.cells [Value.int .i64 key, .slice a m cap, .int .i64 sk, .int .i64 se, .int .i64 ss, .int .i64 n].toArray 36 (0, 0)) := by rw [hw1]; exact heap_alloc_new w _
  have b1 : Below w.heap.size w w1 := by rw [hw1]; exact (Below.refl _ _).alloc (Nat.le_refl _) _
  have z1 : w1.heap.size = w.heap.size + 1 := by rw [hw1]; simp
  have HAl : Hid (∀ B' w0, B' ≤ w.heap.size → Below B' w0 w → Below B' w0 w1) := fun B' w0 h1 h2 => by rw [hw1]; exact h2.alloc h1 _
  have C1 := HM'.out w1 (ho'.out.keep b1)
  have C1' : Hid _ := C1
  have B1 : Hid (Below w.heap.size w w1) := b1
  have Z1 : Hid (w1.heap.size = w.heap.size + 1) := z1
  have x0 := rowFacts q0 0 _ rfl; have x1 := rowFacts q0 1 _ rfl; have x2 := rowFacts q0 2 _ rfl; have x3 := rowFacts q0 3 _ rfl; have x4 := rowFacts q0 4 _ rfl; have x5 := rowFacts q0 5 _ rfl
  clear q0 b1 z1 C1 HM' ho'
  go_enter Tryz.func14, Tryz.ntmps14
  go_upto_region 1 with fail
  rw [← hw1]
  clear hw1
  go_wp2_with fail
  refine (Calls.mono C1'.out) ?_
  rintro e w2 ⟨rfl, mk, sm, s2, bl⟩
  have MK : Hid _ := mk
  have SM : Hid (∀ b, (Value.slice a m cap).ownBlock ≠ some b → b < w.heap.size → w2.heap[b]? = w.heap[b]?) := fun b hb hl => by rw [sm b hb (by rw [Z1.out]; omega)]; exact B1.out.block b hl
  have BL : Hid (∀ B' w0, B' ≤ B → B' ≤ w.heap.size → Below B' w0 w → Below B' w0 w2) := fun B' w0 h1 h2 h3 => bl B' w0 h1 (by rw [Z1.out]; omega) (HAl.out B' w0 h2 h3)
  have S2 : Hid (w.heap.size ≤ w2.heap.size) := by show _ ≤ _; have := Z1.out; omega
  clear mk sm s2 bl x0 x1 x2 x3 x4 x5
  go_wp2
  go_ret
  exact ⟨rfl, MK.out, SM.out, S2.out, BL.out⟩
set_option linter.unusedSimpArgs false in
set_option maxHeartbeats 4000000 in
set_option maxRecDepth 100000 in
theorem heldCsrOut (c : Ask) (n : Int) (a : Option Addr) (m cap : Nat) (r : Nat) (w : World) (hl : r ≤ 1048576) (hm : MkS w (.slice a m cap) r) :
    Calls Tryz.prog 15 #[csrV c (.slice a m cap) n, .int .i64 1] w fun e w' => e = .returned (.int .i64 ((1 + r : Nat) : Int)) ∧ Below w.heap.size w w' := by
  have HM := fun V hV => heldCsrC c (.slice a m cap) r V hl hV
  have HM' : Hid (∀ V, MkS V (.slice a m cap) r → _) := HM
  have ho' : Hid (MkS w (.slice a m cap) r) := hm
  clear HM hm
  obtain ⟨key, names, sk, se, ss⟩ := c
  unfold csrV
  unfold Ask.val at HM'
  simp only at HM' ⊢
  obtain ⟨w1, hw1⟩ : ∃ y, y = w.alloc (.cells #[.int .i64 key, .slice a m cap, .int .i64 sk, .int .i64 se, .int .i64 ss, .int .i64 n] 36 (0, 0)) := ⟨_, rfl⟩
  have q0 : w1.heap[w.heap.size]? = some (.cells [Value.int .i64 key, .slice a m cap, .int .i64 sk, .int .i64 se, .int .i64 ss, .int .i64 n].toArray 36 (0, 0)) := by rw [hw1]; exact heap_alloc_new w _
  have b1 : Below w.heap.size w w1 := by rw [hw1]; exact (Below.refl _ _).alloc (Nat.le_refl _) _
  have C1 := HM'.out w1 (ho'.out.keep b1)
  have C1' : Hid _ := C1
  have B1 : Hid (Below w.heap.size w w1) := b1
  obtain ⟨mm, hmm⟩ : ∃ mm, mm = 1 + r := ⟨_, rfl⟩
  rw [← hmm] at C1' ⊢
  have hm1 : ¬ ((mm : Int) < 0) := by omega
  have x0 := rowFacts q0 0 _ rfl; have x1 := rowFacts q0 1 _ rfl; have x2 := rowFacts q0 2 _ rfl; have x3 := rowFacts q0 3 _ rfl; have x4 := rowFacts q0 4 _ rfl; have x5 := rowFacts q0 5 _ rfl
  clear q0 b1 C1 HM' ho' hmm
  go_enter Tryz.func15, Tryz.ntmps15
  go_upto_region 1 with fail
  rw [← hw1]
  clear hw1
  go_wp2_with fail
  refine (Calls.mono C1'.out) ?_
  rintro e w2 ⟨rfl, b2⟩
  have B2 : Hid (Below w.heap.size w w2) := B1.out.trans (b2.mono B1.out.size)
  clear b2 x0 x1 x2 x3 x4 x5
  go_wp2
  go_ret
  exact ⟨rfl, B2.out⟩
end Go.Proofs.YtekflbicjokdnaaGreatDoor
namespace Go.Proofs.YtekflbicjokdnaaGreatDoor
open Go.RowKit

set_option linter.unusedSimpArgs false in
set_option maxHeartbeats 4000000 in
set_option maxRecDepth 100000 in
theorem csrReadWalk (s : ByteArray) (hs : s.size ≤ maxLen) (w : World) (hk : Keys w ∧ ErrType w ∧ Err4 w) :
    Calls Tryz.prog 4 #[.string s] w fun e w' => e = .returned (.bool true) ∧ Below w.heap.size w w' := by
  have HS : Hid (∀ V : World, Calls Tryz.prog 11 #[.string s] V fun e w' => ∃ v, e = .returned (csrV (csrS s).1 v (csrS s).2) ∧ OwnS w' V.heap.size v (csrS s).1.names ∧ Below V.heap.size V w') := fun V => specCsrRead s V
  have HI : Hid (∀ V, Keys V ∧ ErrType V ∧ Err4 V → Calls Tryz.prog 12 #[.string s] V fun e w' => ∃ v, e = .returned (csrV (csrS s).1 v (csrS s).2) ∧ OwnS w' V.heap.size v (csrS s).1.names ∧ Below V.heap.size V w') := fun V hV => (by rw [← csrR_eq]; exact implCsrRead s V hs hV.1 hV.2.1 hV.2.2)
  have hRL : (csrS s).1.names.length ≤ 1048576 := csrS_fit s
  have HER : Hid (∀ V a b p q, IsStrs V a (csrS s).1.names → IsStrs V b (csrS s).1.names → Calls Tryz.prog 13 #[csrV (csrS s).1 (.slice a (csrS s).1.names.length p) (csrS s).2, csrV (csrS s).1 (.slice b (csrS s).1.names.length q) (csrS s).2] V fun e w' => e = .returned (.bool true) ∧ Below V.heap.size V w') := fun V a b p q h1 h2 => eqCsrOut _ _ a b p q V hRL h1 h2
  have HMR : Hid (∀ V B a m cap, OwnS V B (.slice a m cap) (csrS s).1.names → Calls Tryz.prog 14 #[csrV (csrS s).1 (.slice a m cap) (csrS s).2, .int .i64 1] V fun e w' => e = .returned (.int .i64 ((1 + (csrS s).1.names.length : Nat) : Int)) ∧ MkS w' (.slice a m cap) (csrS s).1.names.length ∧
      (∀ b, (Value.slice a m cap).ownBlock ≠ some b → b < V.heap.size → w'.heap[b]? = V.heap[b]?) ∧ V.heap.size ≤ w'.heap.size ∧ ∀ B' w0, B' ≤ B → B' ≤ V.heap.size → Below B' w0 V → Below B' w0 w') := fun V B a m cap ho => markCsrOut _ _ a m cap _ B V hRL ho
  have HHR : Hid (∀ V a m cap, MkS V (.slice a m cap) (csrS s).1.names.length → Calls Tryz.prog 15 #[csrV (csrS s).1 (.slice a m cap) (csrS s).2, .int .i64 1] V fun e w' => e = .returned (.int .i64 ((1 + (csrS s).1.names.length : Nat) : Int)) ∧ Below V.heap.size V w') := fun V a m cap hm => heldCsrOut _ _ a m cap _ V hRL hm
  have HKy : Hid (∀ V, Below w.heap.size w V → Keys V ∧ ErrType V ∧ Err4 V) := fun V hV => by
    obtain ⟨b1, b2, b0, b3, e1, e2, e0, e3, n⟩ := hk.2.2
    exact ⟨hk.1.below hV hk.1.pos, hk.2.1.below hV hk.2.1.pos, b1, b2, b0, b3, e1.keep hV, e2.keep hV, e0.keep hV, e3.keep hV, n⟩
  clear hk hs
  generalize (csrS s).2 = rn at *
  generalize (csrS s).1 = R at *
  obtain ⟨key, names, sk, se, ss⟩ := R
  unfold csrV at HS HI HER HMR HHR
  simp only at HS HI HER HMR HHR hRL
  generalize hrl : names.length = rl at *
  have HRl : Hid (names.length = rl) := hrl
  clear hrl
  by_cases hbig : 1048576 < s.size
  · go_enter Tryz.func4, Tryz.ntmps4
    go_wp2
    go_ret
    exact ⟨rfl, Below.refl _ _⟩
  go_enter Tryz.func4, Tryz.ntmps4
  go_wp2_with fail
  refine (HS.out _).mono ?_
  rintro e w4 ⟨v0, rfl, o0, b4⟩
  have K4 : Hid (Below w.heap.size w w4) := b4
  have O0 : Hid (OwnS w4 w.heap.size v0 names) := o0
  clear b4 o0
  obtain ⟨x0, y0, rfl, _⟩ := O0.out.form
  rw [HRl.out] at O0 ⊢
  obtain ⟨w5, hw5⟩ : ∃ w5, w5 = w4.alloc (.cells #[.int .i64 key, .slice x0 rl y0, .int .i64 sk, .int .i64 se, .int .i64 ss, .int .i64 rn] 36 (0, 0)) := ⟨_, rfl⟩
  have b5 : Below w4.heap.size w4 w5 := by rw [hw5]; exact (Below.refl _ _).alloc (Nat.le_refl _) _
  have K5 : Hid (Below w.heap.size w w5) := K4.out.trans (b5.mono K4.out.size)
  have O5 : Hid (OwnS w5 w.heap.size (.slice x0 rl y0) names) := by show OwnS _ _ _ _; exact O0.out.keep b5
  have R5 : Hid (w5.heap[w4.heap.size]? = some (.cells [Value.int .i64 key, .slice x0 rl y0, .int .i64 sk, .int .i64 se, .int .i64 ss, .int .i64 rn].toArray 36 (0, 0))) := by show _ = _; rw [hw5]; exact heap_alloc_new w4 _
  have P5 : Hid (∀ g, (Value.slice x0 rl y0).ownBlock = some g → g < w5.heap.size) := fun g e => (OwnS.ge O5.out e).2
  clear b5 K4 O0
  go_upto_region 4 with fail
  rw [← hw5]
  clear hw5
  go_wp2_with fail
  refine (HI.out _ (HKy.out _ K5.out)).mono ?_
  rintro e w8 ⟨v1, rfl, o1, b8⟩
  obtain ⟨x1, y1, e1, _⟩ := OwnS.form o1
  subst e1
  rw [HRl.out] at o1 ⊢
  obtain ⟨w9, hw9⟩ : ∃ w9, w9 = w8.alloc (.cells #[.int .i64 key, .slice x1 rl y1, .int .i64 sk, .int .i64 se, .int .i64 ss, .int .i64 rn] 36 (0, 0)) := ⟨_, rfl⟩
  have b9 : Below w8.heap.size w8 w9 := by rw [hw9]; exact (Below.refl _ _).alloc (Nat.le_refl _) _
  have d9 : Below w5.heap.size w5 w9 := b8.trans (b9.mono b8.size)
  have s8 := b8.size
  have z9 : w8.heap.size < w9.heap.size := by rw [hw9]; simp
  have z5 : w4.heap.size < w5.heap.size := heap_lt R5.out
  have K9 : Hid (Below w.heap.size w w9) := K5.out.trans (d9.mono K5.out.size)
  have R9 : Hid (w9.heap[w4.heap.size]? = some (.cells [Value.int .i64 key, .slice x0 rl y0, .int .i64 sk, .int .i64 se, .int .i64 ss, .int .i64 rn].toArray 36 (0, 0))) := (d9.block _ (by omega)).trans R5.out
  have Y9 : Hid (w9.heap[w8.heap.size]? = some (.cells [Value.int .i64 key, .slice x1 rl y1, .int .i64 sk, .int .i64 se, .int .i64 ss, .int .i64 rn].toArray 36 (0, 0))) := by show _ = _; rw [hw9]; exact heap_alloc_new w8 _
  have O9 : Hid (OwnS w9 w.heap.size (.slice x0 rl y0) names) := O5.out.keep d9
  have Q9 : Hid (OwnS w9 w5.heap.size (.slice x1 rl y1) names) := o1.keep b9
  have P8 : Hid (∀ g, (Value.slice x1 rl y1).ownBlock = some g → w5.heap.size ≤ g ∧ g < w8.heap.size) := fun g e => OwnS.ge o1 e
  have ZZ : Hid (w4.heap.size < w5.heap.size ∧ w5.heap.size ≤ w8.heap.size ∧ w8.heap.size < w9.heap.size ∧ w.heap.size ≤ w5.heap.size) := ⟨z5, s8, z9, K5.out.size⟩
  clear b8 b9 d9 s8 z9 z5 o1 K5 R5 O5
  go_upto_region 5 with fail
  rw [← hw9]
  clear hw9
  have k0 := rowFacts Y9.out 0 _ rfl
  have k1 := rowFacts Y9.out 1 _ rfl
  have k2 := rowFacts Y9.out 2 _ rfl
  have k3 := rowFacts Y9.out 3 _ rfl
  have k4 := rowFacts Y9.out 4 _ rfl
  have k5 := rowFacts Y9.out 5 _ rfl
  have d0 := rowFacts R9.out 0 _ rfl
  have d1 := rowFacts R9.out 1 _ rfl
  have d2 := rowFacts R9.out 2 _ rfl
  have d3 := rowFacts R9.out 3 _ rfl
  have d4 := rowFacts R9.out 4 _ rfl
  have d5 := rowFacts R9.out 5 _ rfl
  go_wp2_with fail
  refine (HER.out _ _ _ _ _ Q9.out.strs O9.out.strs).mono ?_
  rintro e w14 ⟨rfl, b14⟩
  have zz := ZZ.out
  have z14 := b14.size
  have R14 : Hid (w14.heap[w4.heap.size]? = some (.cells [Value.int .i64 key, .slice x0 rl y0, .int .i64 sk, .int .i64 se, .int .i64 ss, .int .i64 rn].toArray 36 (0, 0))) := (b14.block _ (by omega)).trans R9.out
  have Y14 : Hid (w14.heap[w8.heap.size]? = some (.cells [Value.int .i64 key, .slice x1 rl y1, .int .i64 sk, .int .i64 se, .int .i64 ss, .int .i64 rn].toArray 36 (0, 0))) := (b14.block _ (by omega)).trans Y9.out
  have O14 : Hid (OwnS w14 w.heap.size (.slice x0 rl y0) names) := O9.out.keep b14
  have Q14 : Hid (OwnS w14 w5.heap.size (.slice x1 rl y1) names) := Q9.out.keep b14
  have K14 : Hid (Below w.heap.size w w14) := K9.out.trans (b14.mono K9.out.size)
  have Z14 : Hid (w9.heap.size ≤ w14.heap.size) := by show _ ≤ _; omega
  clear b14 R9 Y9 O9 Q9 K9 k0 k1 k2 k3 k4 k5 d0 d1 d2 d3 d4 d5 zz z14
  obtain ⟨m, hm⟩ : ∃ m, m = 1 + rl := ⟨_, rfl⟩
  rw [← hm] at HMR HHR
  have hm1 : 1 ≤ m := by omega
  have em : ((m : Int) != (m : Int)) = false := by simp
  clear hm
  go_upto_region 8 with fail
  have k0 := rowFacts Y14.out 0 _ rfl
  have k1 := rowFacts Y14.out 1 _ rfl
  have k2 := rowFacts Y14.out 2 _ rfl
  have k3 := rowFacts Y14.out 3 _ rfl
  have k4 := rowFacts Y14.out 4 _ rfl
  have k5 := rowFacts Y14.out 5 _ rfl
  go_wp2_with fail
  refine (HMR.out _ _ _ _ _ Q14.out).mono ?_
  rintro e w15 ⟨rfl, mk, sm, s15, bl⟩
  have zz := ZZ.out
  have z14 := Z14.out
  have R15 : Hid (w15.heap[w4.heap.size]? = some (.cells [Value.int .i64 key, .slice x0 rl y0, .int .i64 sk, .int .i64 se, .int .i64 ss, .int .i64 rn].toArray 36 (0, 0))) := (sm _ (fun e => by have := (P8.out _ e).1; omega) (by omega)).trans R14.out
  have Y15 : Hid (w15.heap[w8.heap.size]? = some (.cells [Value.int .i64 key, .slice x1 rl y1, .int .i64 sk, .int .i64 se, .int .i64 ss, .int .i64 rn].toArray 36 (0, 0))) := (sm _ (fun e => by have := (P8.out _ e).2; omega) (by omega)).trans Y14.out
  have O15 : Hid (OwnS w15 w.heap.size (.slice x0 rl y0) names) := by
    refine ⟨O14.out.1, ?_⟩
    rcases O14.out.2 with h | ⟨g, cap, cur, e, h1, h2, h3⟩
    · exact .inl h
    · have hgb := P5.out g (by rw [e]; rfl)
      exact .inr ⟨g, cap, cur, e, h1, by rw [sm g (fun e => by have := (P8.out _ e).1; omega) (by omega)]; exact h2, h3⟩
  have M15 : Hid (MkS w15 (.slice x1 rl y1) rl) := mk
  have K15 : Hid (Below w.heap.size w w15) := bl _ _ (by omega) (by omega) K14.out
  have Z15 : Hid (w9.heap.size ≤ w15.heap.size) := by show _ ≤ _; omega
  clear sm bl mk s15 zz z14 R14 Y14 O14 Q14 K14 k0 k1 k2 k3 k4 k5
  go_upto_region 10 with fail
  have k0 := rowFacts Y15.out 0 _ rfl
  have k1 := rowFacts Y15.out 1 _ rfl
  have k2 := rowFacts Y15.out 2 _ rfl
  have k3 := rowFacts Y15.out 3 _ rfl
  have k4 := rowFacts Y15.out 4 _ rfl
  have k5 := rowFacts Y15.out 5 _ rfl
  go_wp2_with fail
  refine (HHR.out _ _ _ _ M15.out).mono ?_
  rintro e w16 ⟨rfl, b16⟩
  have s16 := b16.size
  have zz := ZZ.out
  have z15 := Z15.out
  have R16 : Hid (w16.heap[w4.heap.size]? = some (.cells [Value.int .i64 key, .slice x0 rl y0, .int .i64 sk, .int .i64 se, .int .i64 ss, .int .i64 rn].toArray 36 (0, 0))) := (b16.block _ (by omega)).trans R15.out
  have Y16 : Hid (w16.heap[w8.heap.size]? = some (.cells [Value.int .i64 key, .slice x1 rl y1, .int .i64 sk, .int .i64 se, .int .i64 ss, .int .i64 rn].toArray 36 (0, 0))) := (b16.block _ (by omega)).trans Y15.out
  have O16 : Hid (OwnS w16 w.heap.size (.slice x0 rl y0) names) := O15.out.keep b16
  have M16 : Hid (MkS w16 (.slice x1 rl y1) rl) := M15.out.keep b16
  have K16 : Hid (Below w.heap.size w w16) := K15.out.trans (b16.mono K15.out.size)
  have Z16 : Hid (w9.heap.size ≤ w16.heap.size) := by show _ ≤ _; omega
  clear b16 R15 Y15 O15 M15 K15 k0 k1 k2 k3 k4 k5 s16 zz z15
  go_wp2_with fail
  refine (HI.out _ (HKy.out _ K16.out)).mono ?_
  rintro e w18 ⟨v2, rfl, o2, b18⟩
  obtain ⟨x2, y2, e2, _⟩ := OwnS.form o2
  subst e2
  rw [HRl.out] at o2 ⊢
  obtain ⟨w19, hw19⟩ : ∃ w19, w19 = w18.alloc (.cells #[.int .i64 key, .slice x2 rl y2, .int .i64 sk, .int .i64 se, .int .i64 ss, .int .i64 rn] 36 (0, 0)) := ⟨_, rfl⟩
  have b19 : Below w18.heap.size w18 w19 := by rw [hw19]; exact (Below.refl _ _).alloc (Nat.le_refl _) _
  have s18 := b18.size
  have zz := ZZ.out
  have z16 := Z16.out
  have d19 : Below w16.heap.size w16 w19 := b18.trans (b19.mono (by omega))
  have R19 : Hid (w19.heap[w4.heap.size]? = some (.cells [Value.int .i64 key, .slice x0 rl y0, .int .i64 sk, .int .i64 se, .int .i64 ss, .int .i64 rn].toArray 36 (0, 0))) := (d19.block _ (by omega)).trans R16.out
  have Y19 : Hid (w19.heap[w8.heap.size]? = some (.cells [Value.int .i64 key, .slice x1 rl y1, .int .i64 sk, .int .i64 se, .int .i64 ss, .int .i64 rn].toArray 36 (0, 0))) := (d19.block _ (by omega)).trans Y16.out
  have H19 : Hid (w19.heap[w18.heap.size]? = some (.cells [Value.int .i64 key, .slice x2 rl y2, .int .i64 sk, .int .i64 se, .int .i64 ss, .int .i64 rn].toArray 36 (0, 0))) := by show _ = _; rw [hw19]; exact heap_alloc_new w18 _
  have O19 : Hid (OwnS w19 w.heap.size (.slice x0 rl y0) names) := O16.out.keep d19
  have Q19 : Hid (OwnS w19 w16.heap.size (.slice x2 rl y2) names) := o2.keep b19
  have M19 : Hid (MkS w19 (.slice x1 rl y1) rl) := M16.out.keep d19
  have K19 : Hid (Below w.heap.size w w19) := K16.out.trans (d19.mono K16.out.size)
  have Z19 : Hid (w9.heap.size ≤ w19.heap.size) := by show _ ≤ _; have := d19.size; omega
  clear b18 b19 d19 o2 s18 zz z16 R16 Y16 O16 M16 K16
  go_upto_region 16 with fail
  rw [← hw19]
  clear hw19
  have k0 := rowFacts H19.out 0 _ rfl
  have k1 := rowFacts H19.out 1 _ rfl
  have k2 := rowFacts H19.out 2 _ rfl
  have k3 := rowFacts H19.out 3 _ rfl
  have k4 := rowFacts H19.out 4 _ rfl
  have k5 := rowFacts H19.out 5 _ rfl
  have d0 := rowFacts R19.out 0 _ rfl
  have d1 := rowFacts R19.out 1 _ rfl
  have d2 := rowFacts R19.out 2 _ rfl
  have d3 := rowFacts R19.out 3 _ rfl
  have d4 := rowFacts R19.out 4 _ rfl
  have d5 := rowFacts R19.out 5 _ rfl
  go_wp2_with fail
  refine (HER.out _ _ _ _ _ Q19.out.strs O19.out.strs).mono ?_
  rintro e w20 ⟨rfl, b20⟩
  have s20 := b20.size
  have zz := ZZ.out
  have z19 := Z19.out
  have Y20 : Hid (w20.heap[w8.heap.size]? = some (.cells [Value.int .i64 key, .slice x1 rl y1, .int .i64 sk, .int .i64 se, .int .i64 ss, .int .i64 rn].toArray 36 (0, 0))) := (b20.block _ (by omega)).trans Y19.out
  have M20 : Hid (MkS w20 (.slice x1 rl y1) rl) := M19.out.keep b20
  have K20 : Hid (Below w.heap.size w w20) := K19.out.trans (b20.mono K19.out.size)
  clear b20 s20 zz z19 R19 Y19 H19 O19 Q19 M19 K19 k0 k1 k2 k3 k4 k5 d0 d1 d2 d3 d4 d5
  go_upto_region 19 with fail
  have k0 := rowFacts Y20.out 0 _ rfl
  have k1 := rowFacts Y20.out 1 _ rfl
  have k2 := rowFacts Y20.out 2 _ rfl
  have k3 := rowFacts Y20.out 3 _ rfl
  have k4 := rowFacts Y20.out 4 _ rfl
  have k5 := rowFacts Y20.out 5 _ rfl
  go_wp2_with fail
  refine (HHR.out _ _ _ _ M20.out).mono ?_
  rintro e w21 ⟨rfl, b21⟩
  have K21 : Hid (Below w.heap.size w w21) := K20.out.trans (b21.mono K20.out.size)
  clear b21 k0 k1 k2 k3 k4 k5
  go_wp2_with fail
  go_ret
  exact ⟨rfl, K21.out⟩
end Go.Proofs.YtekflbicjokdnaaGreatDoor
namespace Go.Proofs.YtekflbicjokdnaaGreatDoor
open Go.ChangeShapes Go.WideShapes Go.ChangeAt Go.RowKit

theorem key_gv : Tryz.prog.globalNamed "loop.example/g00371/impl.roundNumbers" = some 6 := by kernel_rfl
theorem key_gt : (Tryz.prog.globals[6]?).map (·.type) = some 242 := by kernel_rfl
theorem key_c : Tryz.prog.cellsOf 224 = 1 := by kernel_rfl
theorem keyLaid {H : Type} : (Rows.laid_loop_example_g00371_impl_roundNumbers : DataW H) = .agg (keyL.map fun n : Nat => .lit (.int .u32 (n : Int))) := rfl
theorem key_num (k : Nat) (h : k < 64) : ((keyL.getD k 0 : Nat) : Int) = uI (kAt k) := by
  have hl : k < keyL.length := h
  have hb : ∀ n ∈ keyL, n < 4294967296 := by decide
  have := hb _ (List.getElem_mem hl)
  unfold kAt uI
  rw [BitVec.toNat_ofNat, List.getD, List.getElem?_eq_getElem hl]
  simp only [Option.getD_some]
  rw [Nat.mod_eq_of_lt (by simpa using this)]
theorem keys_of_trod {W : World} {enc : TypeId × Value → Unit} {base g0 : Nat} {sp : Nat → Bool} {t0 : TypeId} {cs0 : Array Value} {f0 : Nat} {p0 : List MemPlace}
    (hg0 : Tryz.prog.globalNamed "loop.example/g00371/impl.roundNumbers" = some g0) (ht0 : (Tryz.prog.globals[g0]?).map (·.type) = some t0) (hv0 : W.var? Tryz.prog "loop.example/g00371/impl.roundNumbers" = some cs0)
    (hd0 : DataW.trod enc Tryz.prog W base sp false f0 t0 cs0.toList = some (Rows.laid_loop_example_g00371_impl_roundNumbers, p0)) : Keys W := by
  obtain rfl := Option.some.inj (key_gv.symm.trans hg0)
  obtain rfl := Option.some.inj (key_gt.symm.trans ht0)
  obtain ⟨xs, m1, rfl, hx1, hlen, hn, hel⟩ := DataW.trod_array Tryz.underlying242 hd0
  rw [keyLaid] at hx1
  simp only [Prod.mk.injEq, DataW.agg.injEq] at hx1
  intro i hi
  have h1 := hel i hi
  have hxi : i < xs.length := by omega
  rw [List.getElem?_eq_getElem hxi] at h1
  obtain ⟨k, e1, e2, _⟩ := DataW.trod_int Tryz.underlying224 h1
  have h2 : xs[i].1 = .lit (.int .u32 (uI (kAt i))) := by
    have h3 : (xs.map (·.1))[i]? = (keyL.map fun n : Nat => DataW.lit (.int .u32 (n : Int)))[i]? := by rw [← hx1.1]
    rw [List.getElem?_map, List.getElem?_map, List.getElem?_eq_getElem hxi, List.getElem?_eq_getElem (show i < keyL.length from hi)] at h3
    have h4 : xs[i].1 = _ := Option.some.inj h3
    rw [h4, ← key_num i hi, List.getD, List.getElem?_eq_getElem (show i < keyL.length from hi)]
    rfl
  rw [e2] at h2
  have hk : k = uI (kAt i) := by simpa using h2
  subst hk
  have hc := World.var?_cell hg0 hv0 i
  rw [hc]
  rw [key_c, Nat.mul_one] at e1
  have h5 := congrArg (fun l => l[0]?) e1
  simp only [List.getElem?_take, List.getElem?_drop] at h5
  simpa using h5
theorem keys_of_laid {W : World} (h : laidMetH Tryz.prog [("loop.example/g00371/impl.roundNumbers", Rows.laid_loop_example_g00371_impl_roundNumbers)] W) : Keys W := by
  rw [MakeChecks.laidMetH_plain _ _ _ (by kernel_rfl)] at h
  obtain ⟨ps, ⟨g0, t0, cs0, f0, p0, q0, hg0, ht0, hv0, hd0, _⟩, _⟩ := h
  exact keys_of_trod hg0 ht0 hv0 hd0
end Go.Proofs.YtekflbicjokdnaaGreatDoor
namespace Go.Proofs.YtekflbicjokdnaaGreatDoor
open Go.ChangeShapes Go.WideShapes Go.ChangeAt Go.RowKit

theorem gv_errNotRight : Tryz.prog.globalNamed "loop.example/g00371/impl.errNotRight" = some 3 := by kernel_rfl
theorem gt_errNotRight : (Tryz.prog.globals[3]?).map (·.type) = some 60 := by kernel_rfl
theorem gv_errOtherKey : Tryz.prog.globalNamed "loop.example/g00371/impl.errOtherKey" = some 2 := by kernel_rfl
theorem gt_errOtherKey : (Tryz.prog.globals[2]?).map (·.type) = some 60 := by kernel_rfl
theorem gv_errOtherwise : Tryz.prog.globalNamed "loop.example/g00371/impl.errOtherwise" = some 1 := by kernel_rfl
theorem gt_errOtherwise : (Tryz.prog.globals[1]?).map (·.type) = some 60 := by kernel_rfl
theorem gv_errNoCheck : Tryz.prog.globalNamed "loop.example/g00371/impl.errNoCheck" = some 0 := by kernel_rfl
theorem gt_errNoCheck : (Tryz.prog.globals[0]?).map (·.type) = some 60 := by kernel_rfl
theorem errCells : Tryz.prog.cellsOf 265 = 1 := by kernel_rfl
theorem strCells : Tryz.prog.cellsOf 9 = 1 := by kernel_rfl
theorem errStar : "*" ++ "errors.errorString" = "*errors.errorString" := by decide
theorem errName (u : TypeId) (h : Tryz.prog.typeName? 3 u = some "*errors.errorString") : u = 246 :=
  typeName_ptr_named (nm := "errors.errorString") (by rw [errStar]; kernel_rfl) (by kernel_rfl) (by decide) u (by rw [errStar]; exact h)
theorem gv_errorType : Tryz.prog.globalNamed "errors.errorType" = some 4 := by kernel_rfl
theorem cutRt : (Tryz.prog.cutTypes.find? (·.1 == "internal/reflectlite.rtype")).map (·.2) = some 145 := by kernel_rfl
theorem oneRowE : ((List.range 276).filter fun t => Tryz.prog.rowNamed t [101, 114, 114, 111, 114]) = [60] := by kernel_rfl
theorem sizeTypes : Tryz.prog.types.size = 276 := by kernel_rfl
theorem errType_of {W : World} (h : handlesMet Tryz.prog [("errors.errorType", Rows.laid_errors_errorType)] W) : ErrType W := by
  obtain ⟨name, u, ty, e1, e2, e3, e4, e5⟩ := h _ (List.mem_singleton.2 rfl)
  have en : name = [101, 114, 114, 111, 114] := (Option.some.inj e1).symm
  subst en
  obtain rfl := Option.some.inj (cutRt.symm.trans e2)
  have hm : ty ∈ (List.range 276).filter fun t => Tryz.prog.rowNamed t [101, 114, 114, 111, 114] := List.mem_filter.2 ⟨List.mem_range.2 (by rw [← sizeTypes]; exact e3), e4⟩
  rw [oneRowE] at hm
  obtain rfl := List.mem_singleton.1 hm
  have hh : typeHandle Tryz.prog 60 = .pointer (some ⟨7, 60, none⟩) := by kernel_rfl
  rw [hh] at e5
  unfold ErrType
  simpa using World.var?_cell gv_errorType e5 0
set_option maxRecDepth 100000 in
set_option maxHeartbeats 2000000 in
theorem laid_R4 {W : World} (h : laidMetH Tryz.prog [("errors.errorType", Rows.laid_errors_errorType), ("loop.example/g00371/impl.roundNumbers", Rows.laid_loop_example_g00371_impl_roundNumbers), ("loop.example/g00371/impl.errNotRight", Rows.laid_loop_example_g00371_impl_errNotRight), ("loop.example/g00371/impl.errOtherKey", Rows.laid_loop_example_g00371_impl_errOtherKey), ("loop.example/g00371/impl.errOtherwise", Rows.laid_loop_example_g00371_impl_errOtherwise), ("loop.example/g00371/impl.errNoCheck", Rows.laid_loop_example_g00371_impl_errNoCheck)] W) : Keys W ∧ ErrType W ∧ Err4 W := by
  obtain ⟨h1, h2⟩ := laidMetH_iff.1 h
  have hty : ErrType W := errType_of h2
  replace h1 : laidMet Tryz.prog [("loop.example/g00371/impl.roundNumbers", Rows.laid_loop_example_g00371_impl_roundNumbers), ("loop.example/g00371/impl.errNotRight", Rows.laid_loop_example_g00371_impl_errNotRight), ("loop.example/g00371/impl.errOtherKey", Rows.laid_loop_example_g00371_impl_errOtherKey), ("loop.example/g00371/impl.errOtherwise", Rows.laid_loop_example_g00371_impl_errOtherwise), ("loop.example/g00371/impl.errNoCheck", Rows.laid_loop_example_g00371_impl_errNoCheck)] W := h1
  obtain ⟨ps, ⟨gT, tT, csT, fT, pT, qT, hgT, htT, hvT, hdT, ⟨g0, t0, cs0, f0, p0, q0, hg0, ht0, hv0, hd0, ⟨g1, t1, cs1, f1, p1, q1, hg1, ht1, hv1, hd1, ⟨g2, t2, cs2, f2, p2, q2, hg2, ht2, hv2, hd2, ⟨g3, t3, cs3, f3, p3, q3, hg3, ht3, hv3, hd3, hn, e3⟩, e2⟩, e1⟩, e0⟩, eT⟩, hnd, hrows⟩ := h1
  have kT := keys_of_trod hgT htT hvT hdT
  obtain rfl := Option.some.inj (gv_errNotRight.symm.trans hg0)
  obtain rfl := Option.some.inj (gt_errNotRight.symm.trans ht0)
  obtain rfl := Option.some.inj (gv_errOtherKey.symm.trans hg1)
  obtain rfl := Option.some.inj (gt_errOtherKey.symm.trans ht1)
  obtain rfl := Option.some.inj (gv_errOtherwise.symm.trans hg2)
  obtain rfl := Option.some.inj (gt_errOtherwise.symm.trans ht2)
  obtain rfl := Option.some.inj (gv_errNoCheck.symm.trans hg3)
  obtain rfl := Option.some.inj (gt_errNoCheck.symm.trans ht3)
  subst e3
  subst e2
  subst e1
  subst e0
  subst eT
  obtain ⟨l0⟩ := cs0
  have ok0 : ∀ u v, l0 = [.iface u v] → Value.okWide Tryz.prog W .any 0 u v := fun u v e => by
    subst e
    exact (hrows 3 0 (by simp [MemPlace.row])).2 u v (by simpa using World.var?_cell hg0 hv0 0)
  obtain ⟨a0, s0, rfl, _, _, _, rfl⟩ := errorString_of_trod Tryz.underlying60 errName Tryz.underlying246 Tryz.underlying265 rfl rfl Tryz.underlying9 errCells strCells hd0 ok0
  obtain ⟨c0, y0, hb0⟩ := (hrows a0.block a0.off (by simp [MemPlace.row])).1
  have E0 : ErrV 3 W a0 := ⟨by simpa using World.var?_cell hg0 hv0 0, c0, y0, hb0⟩
  obtain ⟨l1⟩ := cs1
  have ok1 : ∀ u v, l1 = [.iface u v] → Value.okWide Tryz.prog W .any 0 u v := fun u v e => by
    subst e
    exact (hrows 2 0 (by simp [MemPlace.row])).2 u v (by simpa using World.var?_cell hg1 hv1 0)
  obtain ⟨a1, s1, rfl, _, _, _, rfl⟩ := errorString_of_trod Tryz.underlying60 errName Tryz.underlying246 Tryz.underlying265 rfl rfl Tryz.underlying9 errCells strCells hd1 ok1
  obtain ⟨c1, y1, hb1⟩ := (hrows a1.block a1.off (by simp [MemPlace.row])).1
  have E1 : ErrV 2 W a1 := ⟨by simpa using World.var?_cell hg1 hv1 0, c1, y1, hb1⟩
  obtain ⟨l2⟩ := cs2
  have ok2 : ∀ u v, l2 = [.iface u v] → Value.okWide Tryz.prog W .any 0 u v := fun u v e => by
    subst e
    exact (hrows 1 0 (by simp [MemPlace.row])).2 u v (by simpa using World.var?_cell hg2 hv2 0)
  obtain ⟨a2, s2, rfl, _, _, _, rfl⟩ := errorString_of_trod Tryz.underlying60 errName Tryz.underlying246 Tryz.underlying265 rfl rfl Tryz.underlying9 errCells strCells hd2 ok2
  obtain ⟨c2, y2, hb2⟩ := (hrows a2.block a2.off (by simp [MemPlace.row])).1
  have E2 : ErrV 1 W a2 := ⟨by simpa using World.var?_cell hg2 hv2 0, c2, y2, hb2⟩
  obtain ⟨l3⟩ := cs3
  have ok3 : ∀ u v, l3 = [.iface u v] → Value.okWide Tryz.prog W .any 0 u v := fun u v e => by
    subst e
    exact (hrows 0 0 (by simp [MemPlace.row])).2 u v (by simpa using World.var?_cell hg3 hv3 0)
  obtain ⟨a3, s3, rfl, _, _, _, rfl⟩ := errorString_of_trod Tryz.underlying60 errName Tryz.underlying246 Tryz.underlying265 rfl rfl Tryz.underlying9 errCells strCells hd3 ok3
  obtain ⟨c3, y3, hb3⟩ := (hrows a3.block a3.off (by simp [MemPlace.row])).1
  have E3 : ErrV 0 W a3 := ⟨by simpa using World.var?_cell hg3 hv3 0, c3, y3, hb3⟩
  refine ⟨kT, hty, _, _, _, _, E0, E1, E3, E2, ?_, ?_⟩
  · rintro rfl
    simp [MemPlace.row] at hnd
    have h2 := (List.nodup_append.1 (List.nodup_append.1 hnd).2.1).2.1
    simp at h2
  · rintro rfl
    simp [MemPlace.row] at hnd
    have h2 := (List.nodup_append.1 (List.nodup_append.1 hnd).2.1).2.1
    simp at h2
end Go.Proofs.YtekflbicjokdnaaGreatDoor
