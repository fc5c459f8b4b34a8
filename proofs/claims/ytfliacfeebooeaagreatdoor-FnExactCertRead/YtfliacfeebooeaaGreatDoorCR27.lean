/- A row of texts that bears the marks. laws.markCert, heldCert, walked. laws.eqCertOut, markCertOut, heldCertOut, walked. FnExactCertRead, walked: at every text CertRead answers as the specification's, field by field; its answer owns its memory, behind another call too. The listed variables are tied to the program's text; no other condition. -/
import Derived.Test.YtfliacfeebooeaaGreatDoorCR26
import Derived.Test.YtfliacfeebooeaaGreatDoorCR04
import Derived.Test.YtfliacfeebooeaaGreatDoorCR21
import Derived.Deep.Cut
import Derived.Below
namespace Go.Proofs.YtfliacfeebooeaaGreatDoor
open Go.RowKit

/-- A row of n texts bears the marks. -/
def MkS (w : World) (v : Value) (n : Nat) : Prop := (n = 0 ∧ ∃ a c, v = .slice a 0 c) ∨ ∃ g cap M, v = .slice (some ⟨g, 0, none⟩) n cap ∧ w.heap[g]? = some (.cells M.toArray 9 (0, 0)) ∧ MarksS 1 n M
theorem MkS.keep {w w' : World} {v : Value} {n : Nat} (h : MkS w v n) (hb : Below w.heap.size w w') : MkS w' v n := by
  rcases h with h | ⟨g, cap, M, e, hg, hm⟩
  · exact .inl h
  · exact .inr ⟨g, cap, M, e, by rw [hb.block g (heap_lt hg)]; exact hg, hm⟩
end Go.Proofs.YtfliacfeebooeaaGreatDoor
namespace Go.Proofs.YtfliacfeebooeaaGreatDoor
open Go.RowKit

set_option maxHeartbeats 2000000 in
set_option maxRecDepth 100000 in
theorem markCertC (c : Paper) (v : Value) (l : List ByteArray) (B : Nat) (w : World) (hl : l.length ≤ 1048576) (ho : OwnS w B v l) :
    Calls Tryz.prog 16 #[c.val v, .int .i64 1] w fun e w' => e = .returned (.int .i64 ((1 + l.length : Nat) : Int)) ∧ MkS w' v l.length ∧
      (∀ b, v.ownBlock ≠ some b → b < w.heap.size → w'.heap[b]? = w.heap[b]?) ∧ w.heap.size ≤ w'.heap.size ∧ ∀ B' w0, B' ≤ B → B' ≤ w.heap.size → Below B' w0 w → Below B' w0 w' := by
  obtain ⟨ser, iss, sub, fr, till, key, names, ca, sk, se, ss⟩ := c
  unfold Paper.val
  simp only
  rcases ho.2 with ⟨rfl, h0⟩ | ⟨g, cap, cur, rfl, hBg, hg, hnc, hcm, hcs, ht⟩
  · rw [h0]
    have HMk : Hid (∀ V : World, Calls Tryz.prog 42 #[.slice none 0 0, .int .i64 1] V fun e w' => e = .returned (.int .i64 1) ∧ w' = V) := fun V => by
      go_enter Tryz.func42, Tryz.ntmps42
      go_wp2_with fail
      refine wp_loop_rounds 1 ?_
      rw [rounds_succ]
      go_wp2_with fail
      go_ret
      exact ⟨rfl, rfl⟩
    clear ho h0
    go_enter Tryz.func16, Tryz.ntmps16
    go_wp2_with fail
    refine (HMk.out _).mono ?_
    rintro e w1 ⟨rfl, rfl⟩
    go_wp2_with fail
    go_ret
    refine ⟨rfl, .inl ⟨rfl, _, _, rfl⟩, fun b _ hb => Below.heap_alloc _ _ _ hb, by simp, fun B' w0 _ h2 h3 => h3.alloc h2 _⟩
  · have hgl : g < w.heap.size := heap_lt hg
    have HMk : Hid (∀ o, Calls Tryz.prog 42 #[.slice (some ⟨g, 0, none⟩) l.length cap, .int .i64 1] (w.alloc o) fun e w' => e = .returned (.int .i64 ((1 + l.length : Nat) : Int)) ∧ (∃ M, w'.heap[g]? = some (.cells M.toArray 9 (0, 0)) ∧ MarksS 1 l.length M) ∧
        (∀ b, b ≠ g → b < w.heap.size + 1 → w'.heap[b]? = (w.alloc o).heap[b]?) ∧ w.heap.size ≤ w'.heap.size ∧ ∀ B w0, B ≤ g → B ≤ w.heap.size + 1 → Below B w0 (w.alloc o) → Below B w0 w') := fun o => by
      refine (markStrs g l.length cap 1 cur.toList (w.alloc o) hl (by omega) (by omega) ?_ ?_).mono ?_
      · simp only [Array.length_toList, hcs]; omega
      · rw [Below.heap_alloc _ _ _ hgl]; simpa using hg
      · rintro e w' ⟨he, h1, h2, h3, h4⟩
        have hsz : (w.alloc o).heap.size = w.heap.size + 1 := by simp
        exact ⟨he, h1, fun b hb hb2 => h2 b hb (by omega), by omega, fun B w0 hB1 hB2 hB3 => h4 B w0 hB1 (by omega) hB3⟩
    obtain ⟨n, hn⟩ : ∃ n, n = l.length := ⟨_, rfl⟩
    rw [← hn] at hl HMk ⊢
    clear ho hg ht hcs hcm hnc hn
    go_enter Tryz.func16, Tryz.ntmps16
    go_wp2_with fail
    refine (HMk.out _).mono ?_
    rintro e w1 ⟨rfl, ⟨M, hM, hMk⟩, h2, h3, h4⟩
    have HM : Hid (w1.heap[g]? = some (.cells M.toArray 9 (0, 0)) ∧ MarksS 1 n M) := ⟨hM, hMk⟩
    have H2 : Hid (∀ b, b ≠ g → b < w.heap.size → w1.heap[b]? = w.heap[b]?) := fun b hb hl => by
      rw [h2 b hb (by omega)]; exact Below.heap_alloc _ _ _ hl
    have H4 : Hid (∀ B' w0, B' ≤ B → B' ≤ w.heap.size → Below B' w0 w → Below B' w0 w1) := fun B' w0 hB1 hB2 hB3 => h4 B' w0 (by omega) (by omega) (hB3.alloc hB2 _)
    clear hM hMk h2 h4 HMk
    go_wp2_with fail
    go_ret
    refine ⟨rfl, .inr ⟨g, cap, M, rfl, HM.out.1, HM.out.2⟩, fun b hb hl => H2.out b (fun e => hb (by rw [e]; rfl)) hl, h3, H4.out⟩
set_option maxHeartbeats 1000000 in
set_option maxRecDepth 100000 in
theorem heldCertC (c : Paper) (v : Value) (n : Nat) (w : World) (hl : n ≤ 1048576) (hm : MkS w v n) :
    Calls Tryz.prog 17 #[c.val v, .int .i64 1] w fun e w' => e = .returned (.int .i64 ((1 + n : Nat) : Int)) ∧ Below w.heap.size w w' := by
  obtain ⟨ser, iss, sub, fr, till, key, names, ca, sk, se, ss⟩ := c
  unfold Paper.val
  simp only
  rcases hm with ⟨rfl, a, c, rfl⟩ | ⟨g, cap, M, rfl, hg, hm⟩
  · have HMk : Hid (∀ V : World, Calls Tryz.prog 43 #[.slice a 0 c, .int .i64 1] V fun e w' => e = .returned (.int .i64 1) ∧ w' = V) := fun V => by
      go_enter Tryz.func43, Tryz.ntmps43
      go_wp2_with fail
      refine wp_loop_rounds 1 ?_
      rw [rounds_succ]
      go_wp2_with fail
      go_ret
      exact ⟨rfl, rfl⟩
    go_enter Tryz.func17, Tryz.ntmps17
    go_wp2_with fail
    refine (HMk.out _).mono ?_
    rintro e w1 ⟨rfl, rfl⟩
    go_wp2_with fail
    go_ret
    exact ⟨rfl, (Below.refl _ _).alloc (Nat.le_refl _) _⟩
  · have hgl : g < w.heap.size := heap_lt hg
    have HMk : Hid (∀ o, Calls Tryz.prog 43 #[.slice (some ⟨g, 0, none⟩) n cap, .int .i64 1] (w.alloc o) fun e w' => e = .returned (.int .i64 ((1 + n : Nat) : Int)) ∧ Below (w.alloc o).heap.size (w.alloc o) w') := fun o =>
      heldStrs g n cap 1 M (w.alloc o) hl (by omega) (by omega) (by rw [Below.heap_alloc _ _ _ hgl]; exact hg) hm
    clear hg hm
    obtain ⟨m, hmm⟩ : ∃ m, m = 1 + n := ⟨_, rfl⟩
    rw [← hmm] at HMk ⊢
    have hm1 : 1 ≤ m := by omega
    clear hmm
    go_enter Tryz.func17, Tryz.ntmps17
    go_wp2_with fail
    refine (HMk.out _).mono ?_
    rintro e w1 ⟨rfl, hb1⟩
    have HB : Hid (Below w.heap.size w w1) := ((Below.refl _ w).alloc (Nat.le_refl _) _).trans (hb1.mono (by simp))
    clear hb1 HMk
    go_wp2_with fail
    go_ret
    exact ⟨rfl, HB.out⟩
end Go.Proofs.YtfliacfeebooeaaGreatDoor
namespace Go.Proofs.YtfliacfeebooeaaGreatDoor
open Go.RowKit

set_option linter.unusedSimpArgs false in
set_option maxHeartbeats 4000000 in
set_option maxRecDepth 100000 in
theorem eqCertOut (c : Paper) (n : Int) (a b : Option Addr) (p q : Nat) (w : World) (hl : c.names.length ≤ 1048576) (h1 : IsStrs w a c.names) (h2 : IsStrs w b c.names) :
    Calls Tryz.prog 6 #[certV c (.slice a c.names.length p) n, certV c (.slice b c.names.length q) n] w fun e w' => e = .returned (.bool true) ∧ Below w.heap.size w w' := by
  have HE : Hid (∀ V, Below w.heap.size w V → Calls Tryz.prog 15 #[c.val (.slice a c.names.length p), c.val (.slice b c.names.length q)] V fun e w' => e = .returned (.bool true) ∧ Below V.heap.size V w') := fun V hV => eqCert c a b p q V hl (h1.keep hV) (h2.keep hV)
  clear hl h1 h2
  obtain ⟨serial, iss, sub, fr, till, key, names, ca, sk, se, ss⟩ := c
  unfold certV
  unfold Paper.val at HE
  simp only at HE ⊢
  generalize names.length = nl at *
  obtain ⟨w1, hw1⟩ : ∃ y, y = (w.alloc (.cells #[.int .i64 serial, .string iss, .string sub, .int .i64 fr, .int .i64 till, .int .i64 key, .slice a nl p, .bool ca, .int .i64 sk, .int .i64 se, .int .i64 ss, .int .i64 n] 28 (0, 0))).alloc (.cells #[.int .i64 serial, .string iss, .string sub, .int .i64 fr, .int .i64 till, .int .i64 key, .slice b nl q, .bool ca, .int .i64 sk, .int .i64 se, .int .i64 ss, .int .i64 n] 28 (0, 0)) := ⟨_, rfl⟩
  have q0 : w1.heap[w.heap.size]? = some (.cells [Value.int .i64 serial, .string iss, .string sub, .int .i64 fr, .int .i64 till, .int .i64 key, .slice a nl p, .bool ca, .int .i64 sk, .int .i64 se, .int .i64 ss, .int .i64 n].toArray 28 (0, 0)) := by rw [hw1, Below.heap_alloc _ _ _ (by simp)]; exact heap_alloc_new w _
  have q1 : w1.heap[w.heap.size + 1]? = some (.cells [Value.int .i64 serial, .string iss, .string sub, .int .i64 fr, .int .i64 till, .int .i64 key, .slice b nl q, .bool ca, .int .i64 sk, .int .i64 se, .int .i64 ss, .int .i64 n].toArray 28 (0, 0)) := by rw [hw1]; exact heap_alloc2 w _ _
  have P1 : Hid (Below w.heap.size w w1) := by rw [hw1]; exact ((Below.refl _ _).alloc (Nat.le_refl _) _).alloc (by simp) _
  have HB : Hid (∀ V, Below w1.heap.size w1 V → Below w.heap.size w V) := fun V hV => P1.out.trans (hV.mono P1.out.size)
  have I1 : Hid (Below w1.heap.size w1 w1) := Below.refl _ _
  have KA : Hid (∀ V, Below w1.heap.size w1 V → V.cell? ⟨w.heap.size, 0, none⟩ = some (.int .i64 serial) ∧ V.cell? ⟨w.heap.size, 1, none⟩ = some (.string iss) ∧ V.cell? ⟨w.heap.size, 2, none⟩ = some (.string sub) ∧ V.cell? ⟨w.heap.size, 3, none⟩ = some (.int .i64 fr) ∧ V.cell? ⟨w.heap.size, 4, none⟩ = some (.int .i64 till) ∧ V.cell? ⟨w.heap.size, 5, none⟩ = some (.int .i64 key) ∧ V.cell? ⟨w.heap.size, 6, none⟩ = some (.slice a nl p) ∧ V.cell? ⟨w.heap.size, 7, none⟩ = some (.bool ca) ∧ V.cell? ⟨w.heap.size, 8, none⟩ = some (.int .i64 sk) ∧ V.cell? ⟨w.heap.size, 9, none⟩ = some (.int .i64 se) ∧ V.cell? ⟨w.heap.size, 10, none⟩ = some (.int .i64 ss) ∧ V.cell? ⟨w.heap.size, 11, none⟩ = some (.int .i64 n)) := fun V hV => by
    have hP := (hV.block _ (heap_lt q0)).trans q0
    exact ⟨rowFacts hP 0 _ rfl, rowFacts hP 1 _ rfl, rowFacts hP 2 _ rfl, rowFacts hP 3 _ rfl, rowFacts hP 4 _ rfl, rowFacts hP 5 _ rfl, rowFacts hP 6 _ rfl, rowFacts hP 7 _ rfl, rowFacts hP 8 _ rfl, rowFacts hP 9 _ rfl, rowFacts hP 10 _ rfl, rowFacts hP 11 _ rfl⟩
  have KB : Hid (∀ V, Below w1.heap.size w1 V → V.cell? ⟨w.heap.size + 1, 0, none⟩ = some (.int .i64 serial) ∧ V.cell? ⟨w.heap.size + 1, 1, none⟩ = some (.string iss) ∧ V.cell? ⟨w.heap.size + 1, 2, none⟩ = some (.string sub) ∧ V.cell? ⟨w.heap.size + 1, 3, none⟩ = some (.int .i64 fr) ∧ V.cell? ⟨w.heap.size + 1, 4, none⟩ = some (.int .i64 till) ∧ V.cell? ⟨w.heap.size + 1, 5, none⟩ = some (.int .i64 key) ∧ V.cell? ⟨w.heap.size + 1, 6, none⟩ = some (.slice b nl q) ∧ V.cell? ⟨w.heap.size + 1, 7, none⟩ = some (.bool ca) ∧ V.cell? ⟨w.heap.size + 1, 8, none⟩ = some (.int .i64 sk) ∧ V.cell? ⟨w.heap.size + 1, 9, none⟩ = some (.int .i64 se) ∧ V.cell? ⟨w.heap.size + 1, 10, none⟩ = some (.int .i64 ss) ∧ V.cell? ⟨w.heap.size + 1, 11, none⟩ = some (.int .i64 n)) := fun V hV => by
    have hP := (hV.block _ (heap_lt q1)).trans q1
    exact ⟨rowFacts hP 0 _ rfl, rowFacts hP 1 _ rfl, rowFacts hP 2 _ rfl, rowFacts hP 3 _ rfl, rowFacts hP 4 _ rfl, rowFacts hP 5 _ rfl, rowFacts hP 6 _ rfl, rowFacts hP 7 _ rfl, rowFacts hP 8 _ rfl, rowFacts hP 9 _ rfl, rowFacts hP 10 _ rfl, rowFacts hP 11 _ rfl⟩
  clear q0 q1
  have hnn : (n != n) = false := by simp
  go_enter Tryz.func6, Tryz.ntmps6
  go_upto_region 1 with fail
  rw [← hw1]
  clear hw1
  obtain ⟨x0, x1, x2, x3, x4, x5, x6, x7, x8, x9, x10, x11⟩ := KA.out _ I1.out
  obtain ⟨y0, y1, y2, y3, y4, y5, y6, y7, y8, y9, y10, y11⟩ := KB.out _ I1.out
  go_wp2_with fail
  refine (HE.out w1 (HB.out _ I1.out)).mono ?_
  rintro e w2 ⟨rfl, b2⟩
  have K2 : Hid (Below w1.heap.size w1 w2) := b2
  clear b2 x0 x1 x2 x3 x4 x5 x6 x7 x8 x9 x10 x11 y0 y1 y2 y3 y4 y5 y6 y7 y8 y9 y10 y11
  obtain ⟨x0, x1, x2, x3, x4, x5, x6, x7, x8, x9, x10, x11⟩ := KA.out _ K2.out
  obtain ⟨y0, y1, y2, y3, y4, y5, y6, y7, y8, y9, y10, y11⟩ := KB.out _ K2.out
  go_wp2
  go_ret
  exact ⟨rfl, HB.out _ K2.out⟩
set_option linter.unusedSimpArgs false in
set_option maxHeartbeats 4000000 in
set_option maxRecDepth 100000 in
theorem markCertOut (c : Paper) (n : Int) (a : Option Addr) (m cap : Nat) (l : List ByteArray) (B : Nat) (w : World) (hl : l.length ≤ 1048576) (ho : OwnS w B (.slice a m cap) l) :
    Calls Tryz.prog 7 #[certV c (.slice a m cap) n, .int .i64 1] w fun e w' => e = .returned (.int .i64 ((1 + l.length : Nat) : Int)) ∧ MkS w' (.slice a m cap) l.length ∧
      (∀ b, (Value.slice a m cap).ownBlock ≠ some b → b < w.heap.size → w'.heap[b]? = w.heap[b]?) ∧ w.heap.size ≤ w'.heap.size ∧ ∀ B' w0, B' ≤ B → B' ≤ w.heap.size → Below B' w0 w → Below B' w0 w' := by
  have HM := fun V hV => markCertC c (.slice a m cap) l B V hl hV
  have HM' : Hid (∀ V, OwnS V B (.slice a m cap) l → _) := HM
  have ho' : Hid (OwnS w B (.slice a m cap) l) := ho
  clear HM ho
  obtain ⟨serial, iss, sub, fr, till, key, names, ca, sk, se, ss⟩ := c
  unfold certV
  unfold Paper.val at HM'
  simp only at HM' ⊢
  obtain ⟨w1, hw1⟩ : ∃ y, y = w.alloc (.cells #[.int .i64 serial, .string iss, .string sub, .int .i64 fr, .int .i64 till, .int .i64 key, .slice a m cap, .bool ca, .int .i64 sk, .int .i64 se, .int .i64 ss, .int .i64 n] 28 (0, 0)) := ⟨_, rfl⟩
  have q0 : w1.heap[w.heap.size]? = some (.cells [Value.int .i64 serial, .string iss, .string sub, .int .i64 fr, .int .i64 till, .int .i64 key, .slice a m cap, .bool ca, .int .i64 sk, .int .i64 se, .int .i64 ss, .int .i64 n].toArray 28 (0, 0)) := by rw [hw1]; exact heap_alloc_new w _
  have b1 : Below w.heap.size w w1 := by rw [hw1]; exact (Below.refl _ _).alloc (Nat.le_refl _) _
  have z1 : w1.heap.size = w.heap.size + 1 := by rw [hw1]; simp
  have HAl : Hid (∀ B' w0, B' ≤ w.heap.size → Below B' w0 w → Below B' w0 w1) := fun B' w0 h1 h2 => by rw [hw1]; exact h2.alloc h1 _
  have C1 := HM'.out w1 (ho'.out.keep b1)
  have C1' : Hid _ := C1
  have B1 : Hid (Below w.heap.size w w1) := b1
  have Z1 : Hid (w1.heap.size = w.heap.size + 1) := z1
  have x0 := rowFacts q0 0 _ rfl; have x1 := rowFacts q0 1 _ rfl; have x2 := rowFacts q0 2 _ rfl; have x3 := rowFacts q0 3 _ rfl; have x4 := rowFacts q0 4 _ rfl; have x5 := rowFacts q0 5 _ rfl; have x6 := rowFacts q0 6 _ rfl; have x7 := rowFacts q0 7 _ rfl; have x8 := rowFacts q0 8 _ rfl; have x9 := rowFacts q0 9 _ rfl; have x10 := rowFacts q0 10 _ rfl; have x11 := rowFacts q0 11 _ rfl
  clear q0 b1 z1 C1 HM' ho'
  go_enter Tryz.func7, Tryz.ntmps7
  go_upto_region 1 with fail
  rw [← hw1]
  clear hw1
  go_wp2_with fail
  refine (Calls.mono C1'.out) ?_
  rintro e w2 ⟨rfl, mk, sm, s2, bl⟩
  have MK : Hid _ := mk
  have SM : Hid (∀ b, (Value.slice a m cap).ownBlock ≠ some b → b < w.heap.size → w2.heap[b]? = w.heap[b]?) := fun b hb hl => by rw [sm b hb (by rw [Z1.out]; omega)]; exact B1.out.block b hl
  have BL : Hid (∀ B' w0, B' ≤ B → B' ≤ w.heap.size → Below B' w0 w → Below B' w0 w2) := fun B' w0 h1 h2 h3 => bl B' w0 h1 (by rw [Z1.out]; omega) (HAl.out B' w0 h2 h3)
  have S2 : Hid (w.heap.size ≤ w2.heap.size) := by show _ ≤ _; have := Z1.out; omega
  clear mk sm s2 bl x0 x1 x2 x3 x4 x5 x6 x7 x8 x9 x10 x11
  go_wp2
  go_ret
  exact ⟨rfl, MK.out, SM.out, S2.out, BL.out⟩
set_option linter.unusedSimpArgs false in
set_option maxHeartbeats 4000000 in
set_option maxRecDepth 100000 in
theorem heldCertOut (c : Paper) (n : Int) (a : Option Addr) (m cap : Nat) (r : Nat) (w : World) (hl : r ≤ 1048576) (hm : MkS w (.slice a m cap) r) :
    Calls Tryz.prog 8 #[certV c (.slice a m cap) n, .int .i64 1] w fun e w' => e = .returned (.int .i64 ((1 + r : Nat) : Int)) ∧ Below w.heap.size w w' := by
  have HM := fun V hV => heldCertC c (.slice a m cap) r V hl hV
  have HM' : Hid (∀ V, MkS V (.slice a m cap) r → _) := HM
  have ho' : Hid (MkS w (.slice a m cap) r) := hm
  clear HM hm
  obtain ⟨serial, iss, sub, fr, till, key, names, ca, sk, se, ss⟩ := c
  unfold certV
  unfold Paper.val at HM'
  simp only at HM' ⊢
  obtain ⟨w1, hw1⟩ : ∃ y, y = w.alloc (.cells #[.int .i64 serial, .string iss, .string sub, .int .i64 fr, .int .i64 till, .int .i64 key, .slice a m cap, .bool ca, .int .i64 sk, .int .i64 se, .int .i64 ss, .int .i64 n] 28 (0, 0)) := ⟨_, rfl⟩
  have q0 : w1.heap[w.heap.size]? = some (.cells [Value.int .i64 serial, .string iss, .string sub, .int .i64 fr, .int .i64 till, .int .i64 key, .slice a m cap, .bool ca, .int .i64 sk, .int .i64 se, .int .i64 ss, .int .i64 n].toArray 28 (0, 0)) := by rw [hw1]; exact heap_alloc_new w _
  have b1 : Below w.heap.size w w1 := by rw [hw1]; exact (Below.refl _ _).alloc (Nat.le_refl _) _
  have C1 := HM'.out w1 (ho'.out.keep b1)
  have C1' : Hid _ := C1
  have B1 : Hid (Below w.heap.size w w1) := b1
  obtain ⟨mm, hmm⟩ : ∃ mm, mm = 1 + r := ⟨_, rfl⟩
  rw [← hmm] at C1' ⊢
  have hm1 : ¬ ((mm : Int) < 0) := by omega
  have x0 := rowFacts q0 0 _ rfl; have x1 := rowFacts q0 1 _ rfl; have x2 := rowFacts q0 2 _ rfl; have x3 := rowFacts q0 3 _ rfl; have x4 := rowFacts q0 4 _ rfl; have x5 := rowFacts q0 5 _ rfl; have x6 := rowFacts q0 6 _ rfl; have x7 := rowFacts q0 7 _ rfl; have x8 := rowFacts q0 8 _ rfl; have x9 := rowFacts q0 9 _ rfl; have x10 := rowFacts q0 10 _ rfl; have x11 := rowFacts q0 11 _ rfl
  clear q0 b1 C1 HM' ho' hmm
  go_enter Tryz.func8, Tryz.ntmps8
  go_upto_region 1 with fail
  rw [← hw1]
  clear hw1
  go_wp2_with fail
  refine (Calls.mono C1'.out) ?_
  rintro e w2 ⟨rfl, b2⟩
  have B2 : Hid (Below w.heap.size w w2) := B1.out.trans (b2.mono B1.out.size)
  clear b2 x0 x1 x2 x3 x4 x5 x6 x7 x8 x9 x10 x11
  go_wp2
  go_ret
  exact ⟨rfl, B2.out⟩
end Go.Proofs.YtfliacfeebooeaaGreatDoor
namespace Go.Proofs.YtfliacfeebooeaaGreatDoor
open Go.RowKit

set_option linter.unusedSimpArgs false in
set_option maxHeartbeats 4000000 in
set_option maxRecDepth 100000 in
theorem certReadWalk (s : ByteArray) (hs : s.size ≤ maxLen) (w : World) (hk : ErrType w) :
    Calls Tryz.prog 3 #[.string s] w fun e w' => e = .returned (.bool true) ∧ Below w.heap.size w w' := by
  have HS : Hid (∀ V : World, Calls Tryz.prog 4 #[.string s] V fun e w' => ∃ v, e = .returned (certV (certS s).1 v (certS s).2) ∧ OwnS w' V.heap.size v (certS s).1.names ∧ Below V.heap.size V w') := fun V => specCertRead s V
  have HI : Hid (∀ V, ErrType V → Calls Tryz.prog 5 #[.string s] V fun e w' => ∃ v, e = .returned (certV (certS s).1 v (certS s).2) ∧ OwnS w' V.heap.size v (certS s).1.names ∧ Below V.heap.size V w') := fun V hV => (by rw [← certR_eq]; exact implCertRead s V hs hV)
  have hRL : (certS s).1.names.length ≤ 1048576 := (certS_fit s).1
  have HER : Hid (∀ V a b p q, IsStrs V a (certS s).1.names → IsStrs V b (certS s).1.names → Calls Tryz.prog 6 #[certV (certS s).1 (.slice a (certS s).1.names.length p) (certS s).2, certV (certS s).1 (.slice b (certS s).1.names.length q) (certS s).2] V fun e w' => e = .returned (.bool true) ∧ Below V.heap.size V w') := fun V a b p q h1 h2 => eqCertOut _ _ a b p q V hRL h1 h2
  have HMR : Hid (∀ V B a m cap, OwnS V B (.slice a m cap) (certS s).1.names → Calls Tryz.prog 7 #[certV (certS s).1 (.slice a m cap) (certS s).2, .int .i64 1] V fun e w' => e = .returned (.int .i64 ((1 + (certS s).1.names.length : Nat) : Int)) ∧ MkS w' (.slice a m cap) (certS s).1.names.length ∧
      (∀ b, (Value.slice a m cap).ownBlock ≠ some b → b < V.heap.size → w'.heap[b]? = V.heap[b]?) ∧ V.heap.size ≤ w'.heap.size ∧ ∀ B' w0, B' ≤ B → B' ≤ V.heap.size → Below B' w0 V → Below B' w0 w') := fun V B a m cap ho => markCertOut _ _ a m cap _ B V hRL ho
  have HHR : Hid (∀ V a m cap, MkS V (.slice a m cap) (certS s).1.names.length → Calls Tryz.prog 8 #[certV (certS s).1 (.slice a m cap) (certS s).2, .int .i64 1] V fun e w' => e = .returned (.int .i64 ((1 + (certS s).1.names.length : Nat) : Int)) ∧ Below V.heap.size V w') := fun V a m cap hm => heldCertOut _ _ a m cap _ V hRL hm
  have HKy : Hid (∀ V, Below w.heap.size w V → ErrType V) := fun V hV => by
    exact hk.below hV hk.pos
  clear hk hs
  generalize (certS s).2 = rn at *
  generalize (certS s).1 = R at *
  obtain ⟨serial, iss, sub, fr, till, key, names, ca, sk, se, ss⟩ := R
  unfold certV at HS HI HER HMR HHR
  simp only at HS HI HER HMR HHR hRL
  generalize hrl : names.length = rl at *
  have HRl : Hid (names.length = rl) := hrl
  clear hrl
  by_cases hbig : 1048576 < s.size
  · go_enter Tryz.func3, Tryz.ntmps3
    go_wp2
    go_ret
    exact ⟨rfl, Below.refl _ _⟩
  go_enter Tryz.func3, Tryz.ntmps3
  go_wp2_with fail
  refine (HS.out _).mono ?_
  rintro e w4 ⟨v0, rfl, o0, b4⟩
  have K4 : Hid (Below w.heap.size w w4) := b4
  have O0 : Hid (OwnS w4 w.heap.size v0 names) := o0
  clear b4 o0
  obtain ⟨x0, y0, rfl, _⟩ := O0.out.form
  rw [HRl.out] at O0 ⊢
  obtain ⟨w5, hw5⟩ : ∃ w5, w5 = w4.alloc (.cells #[.int .i64 serial, .string iss, .string sub, .int .i64 fr, .int .i64 till, .int .i64 key, .slice x0 rl y0, .bool ca, .int .i64 sk, .int .i64 se, .int .i64 ss, .int .i64 rn] 28 (0, 0)) := ⟨_, rfl⟩
  have b5 : Below w4.heap.size w4 w5 := by rw [hw5]; exact (Below.refl _ _).alloc (Nat.le_refl _) _
  have K5 : Hid (Below w.heap.size w w5) := K4.out.trans (b5.mono K4.out.size)
  have O5 : Hid (OwnS w5 w.heap.size (.slice x0 rl y0) names) := by show OwnS _ _ _ _; exact O0.out.keep b5
  have R5 : Hid (w5.heap[w4.heap.size]? = some (.cells [Value.int .i64 serial, .string iss, .string sub, .int .i64 fr, .int .i64 till, .int .i64 key, .slice x0 rl y0, .bool ca, .int .i64 sk, .int .i64 se, .int .i64 ss, .int .i64 rn].toArray 28 (0, 0))) := by show _ = _; rw [hw5]; exact heap_alloc_new w4 _
  have P5 : Hid (∀ g, (Value.slice x0 rl y0).ownBlock = some g → g < w5.heap.size) := fun g e => (OwnS.ge O5.out e).2
  clear b5 K4 O0
  go_upto_region 4 with fail
  rw [← hw5]
  clear hw5
  go_wp2_with fail
  refine (HI.out _ (HKy.out _ K5.out)).mono ?_
  rintro e w8 ⟨v1, rfl, o1, b8⟩
  obtain ⟨x1, y1, e1, _⟩ := OwnS.form o1
  subst e1
  rw [HRl.out] at o1 ⊢
  obtain ⟨w9, hw9⟩ : ∃ w9, w9 = w8.alloc (.cells #[.int .i64 serial, .string iss, .string sub, .int .i64 fr, .int .i64 till, .int .i64 key, .slice x1 rl y1, .bool ca, .int .i64 sk, .int .i64 se, .int .i64 ss, .int .i64 rn] 28 (0, 0)) := ⟨_, rfl⟩
  have b9 : Below w8.heap.size w8 w9 := by rw [hw9]; exact (Below.refl _ _).alloc (Nat.le_refl _) _
  have d9 : Below w5.heap.size w5 w9 := b8.trans (b9.mono b8.size)
  have s8 := b8.size
  have z9 : w8.heap.size < w9.heap.size := by rw [hw9]; simp
  have z5 : w4.heap.size < w5.heap.size := heap_lt R5.out
  have K9 : Hid (Below w.heap.size w w9) := K5.out.trans (d9.mono K5.out.size)
  have R9 : Hid (w9.heap[w4.heap.size]? = some (.cells [Value.int .i64 serial, .string iss, .string sub, .int .i64 fr, .int .i64 till, .int .i64 key, .slice x0 rl y0, .bool ca, .int .i64 sk, .int .i64 se, .int .i64 ss, .int .i64 rn].toArray 28 (0, 0))) := (d9.block _ (by omega)).trans R5.out
  have Y9 : Hid (w9.heap[w8.heap.size]? = some (.cells [Value.int .i64 serial, .string iss, .string sub, .int .i64 fr, .int .i64 till, .int .i64 key, .slice x1 rl y1, .bool ca, .int .i64 sk, .int .i64 se, .int .i64 ss, .int .i64 rn].toArray 28 (0, 0))) := by show _ = _; rw [hw9]; exact heap_alloc_new w8 _
  have O9 : Hid (OwnS w9 w.heap.size (.slice x0 rl y0) names) := O5.out.keep d9
  have Q9 : Hid (OwnS w9 w5.heap.size (.slice x1 rl y1) names) := o1.keep b9
  have P8 : Hid (∀ g, (Value.slice x1 rl y1).ownBlock = some g → w5.heap.size ≤ g ∧ g < w8.heap.size) := fun g e => OwnS.ge o1 e
  have ZZ : Hid (w4.heap.size < w5.heap.size ∧ w5.heap.size ≤ w8.heap.size ∧ w8.heap.size < w9.heap.size ∧ w.heap.size ≤ w5.heap.size) := ⟨z5, s8, z9, K5.out.size⟩
  clear b8 b9 d9 s8 z9 z5 o1 K5 R5 O5
  go_upto_region 5 with fail
  rw [← hw9]
  clear hw9
  have k0 := rowFacts Y9.out 0 _ rfl
  have k1 := rowFacts Y9.out 1 _ rfl
  have k2 := rowFacts Y9.out 2 _ rfl
  have k3 := rowFacts Y9.out 3 _ rfl
  have k4 := rowFacts Y9.out 4 _ rfl
  have k5 := rowFacts Y9.out 5 _ rfl
  have k6 := rowFacts Y9.out 6 _ rfl
  have k7 := rowFacts Y9.out 7 _ rfl
  have k8 := rowFacts Y9.out 8 _ rfl
  have k9 := rowFacts Y9.out 9 _ rfl
  have k10 := rowFacts Y9.out 10 _ rfl
  have k11 := rowFacts Y9.out 11 _ rfl
  have d0 := rowFacts R9.out 0 _ rfl
  have d1 := rowFacts R9.out 1 _ rfl
  have d2 := rowFacts R9.out 2 _ rfl
  have d3 := rowFacts R9.out 3 _ rfl
  have d4 := rowFacts R9.out 4 _ rfl
  have d5 := rowFacts R9.out 5 _ rfl
  have d6 := rowFacts R9.out 6 _ rfl
  have d7 := rowFacts R9.out 7 _ rfl
  have d8 := rowFacts R9.out 8 _ rfl
  have d9 := rowFacts R9.out 9 _ rfl
  have d10 := rowFacts R9.out 10 _ rfl
  have d11 := rowFacts R9.out 11 _ rfl
  go_wp2_with fail
  refine (HER.out _ _ _ _ _ Q9.out.strs O9.out.strs).mono ?_
  rintro e w14 ⟨rfl, b14⟩
  have zz := ZZ.out
  have z14 := b14.size
  have R14 : Hid (w14.heap[w4.heap.size]? = some (.cells [Value.int .i64 serial, .string iss, .string sub, .int .i64 fr, .int .i64 till, .int .i64 key, .slice x0 rl y0, .bool ca, .int .i64 sk, .int .i64 se, .int .i64 ss, .int .i64 rn].toArray 28 (0, 0))) := (b14.block _ (by omega)).trans R9.out
  have Y14 : Hid (w14.heap[w8.heap.size]? = some (.cells [Value.int .i64 serial, .string iss, .string sub, .int .i64 fr, .int .i64 till, .int .i64 key, .slice x1 rl y1, .bool ca, .int .i64 sk, .int .i64 se, .int .i64 ss, .int .i64 rn].toArray 28 (0, 0))) := (b14.block _ (by omega)).trans Y9.out
  have O14 : Hid (OwnS w14 w.heap.size (.slice x0 rl y0) names) := O9.out.keep b14
  have Q14 : Hid (OwnS w14 w5.heap.size (.slice x1 rl y1) names) := Q9.out.keep b14
  have K14 : Hid (Below w.heap.size w w14) := K9.out.trans (b14.mono K9.out.size)
  have Z14 : Hid (w9.heap.size ≤ w14.heap.size) := by show _ ≤ _; omega
  clear b14 R9 Y9 O9 Q9 K9 k0 k1 k2 k3 k4 k5 k6 k7 k8 k9 k10 k11 d0 d1 d2 d3 d4 d5 d6 d7 d8 d9 d10 d11 zz z14
  obtain ⟨m, hm⟩ : ∃ m, m = 1 + rl := ⟨_, rfl⟩
  rw [← hm] at HMR HHR
  have hm1 : 1 ≤ m := by omega
  have em : ((m : Int) != (m : Int)) = false := by simp
  clear hm
  go_upto_region 8 with fail
  have k0 := rowFacts Y14.out 0 _ rfl
  have k1 := rowFacts Y14.out 1 _ rfl
  have k2 := rowFacts Y14.out 2 _ rfl
  have k3 := rowFacts Y14.out 3 _ rfl
  have k4 := rowFacts Y14.out 4 _ rfl
  have k5 := rowFacts Y14.out 5 _ rfl
  have k6 := rowFacts Y14.out 6 _ rfl
  have k7 := rowFacts Y14.out 7 _ rfl
  have k8 := rowFacts Y14.out 8 _ rfl
  have k9 := rowFacts Y14.out 9 _ rfl
  have k10 := rowFacts Y14.out 10 _ rfl
  have k11 := rowFacts Y14.out 11 _ rfl
  go_wp2_with fail
  refine (HMR.out _ _ _ _ _ Q14.out).mono ?_
  rintro e w15 ⟨rfl, mk, sm, s15, bl⟩
  have zz := ZZ.out
  have z14 := Z14.out
  have R15 : Hid (w15.heap[w4.heap.size]? = some (.cells [Value.int .i64 serial, .string iss, .string sub, .int .i64 fr, .int .i64 till, .int .i64 key, .slice x0 rl y0, .bool ca, .int .i64 sk, .int .i64 se, .int .i64 ss, .int .i64 rn].toArray 28 (0, 0))) := (sm _ (fun e => by have := (P8.out _ e).1; omega) (by omega)).trans R14.out
  have Y15 : Hid (w15.heap[w8.heap.size]? = some (.cells [Value.int .i64 serial, .string iss, .string sub, .int .i64 fr, .int .i64 till, .int .i64 key, .slice x1 rl y1, .bool ca, .int .i64 sk, .int .i64 se, .int .i64 ss, .int .i64 rn].toArray 28 (0, 0))) := (sm _ (fun e => by have := (P8.out _ e).2; omega) (by omega)).trans Y14.out
  have O15 : Hid (OwnS w15 w.heap.size (.slice x0 rl y0) names) := by
    refine ⟨O14.out.1, ?_⟩
    rcases O14.out.2 with h | ⟨g, cap, cur, e, h1, h2, h3⟩
    · exact .inl h
    · have hgb := P5.out g (by rw [e]; rfl)
      exact .inr ⟨g, cap, cur, e, h1, by rw [sm g (fun e => by have := (P8.out _ e).1; omega) (by omega)]; exact h2, h3⟩
  have M15 : Hid (MkS w15 (.slice x1 rl y1) rl) := mk
  have K15 : Hid (Below w.heap.size w w15) := bl _ _ (by omega) (by omega) K14.out
  have Z15 : Hid (w9.heap.size ≤ w15.heap.size) := by show _ ≤ _; omega
  clear sm bl mk s15 zz z14 R14 Y14 O14 Q14 K14 k0 k1 k2 k3 k4 k5 k6 k7 k8 k9 k10 k11
  go_upto_region 10 with fail
  have k0 := rowFacts Y15.out 0 _ rfl
  have k1 := rowFacts Y15.out 1 _ rfl
  have k2 := rowFacts Y15.out 2 _ rfl
  have k3 := rowFacts Y15.out 3 _ rfl
  have k4 := rowFacts Y15.out 4 _ rfl
  have k5 := rowFacts Y15.out 5 _ rfl
  have k6 := rowFacts Y15.out 6 _ rfl
  have k7 := rowFacts Y15.out 7 _ rfl
  have k8 := rowFacts Y15.out 8 _ rfl
  have k9 := rowFacts Y15.out 9 _ rfl
  have k10 := rowFacts Y15.out 10 _ rfl
  have k11 := rowFacts Y15.out 11 _ rfl
  go_wp2_with fail
  refine (HHR.out _ _ _ _ M15.out).mono ?_
  rintro e w16 ⟨rfl, b16⟩
  have s16 := b16.size
  have zz := ZZ.out
  have z15 := Z15.out
  have R16 : Hid (w16.heap[w4.heap.size]? = some (.cells [Value.int .i64 serial, .string iss, .string sub, .int .i64 fr, .int .i64 till, .int .i64 key, .slice x0 rl y0, .bool ca, .int .i64 sk, .int .i64 se, .int .i64 ss, .int .i64 rn].toArray 28 (0, 0))) := (b16.block _ (by omega)).trans R15.out
  have Y16 : Hid (w16.heap[w8.heap.size]? = some (.cells [Value.int .i64 serial, .string iss, .string sub, .int .i64 fr, .int .i64 till, .int .i64 key, .slice x1 rl y1, .bool ca, .int .i64 sk, .int .i64 se, .int .i64 ss, .int .i64 rn].toArray 28 (0, 0))) := (b16.block _ (by omega)).trans Y15.out
  have O16 : Hid (OwnS w16 w.heap.size (.slice x0 rl y0) names) := O15.out.keep b16
  have M16 : Hid (MkS w16 (.slice x1 rl y1) rl) := M15.out.keep b16
  have K16 : Hid (Below w.heap.size w w16) := K15.out.trans (b16.mono K15.out.size)
  have Z16 : Hid (w9.heap.size ≤ w16.heap.size) := by show _ ≤ _; omega
  clear b16 R15 Y15 O15 M15 K15 k0 k1 k2 k3 k4 k5 k6 k7 k8 k9 k10 k11 s16 zz z15
  go_wp2_with fail
  refine (HI.out _ (HKy.out _ K16.out)).mono ?_
  rintro e w18 ⟨v2, rfl, o2, b18⟩
  obtain ⟨x2, y2, e2, _⟩ := OwnS.form o2
  subst e2
  rw [HRl.out] at o2 ⊢
  obtain ⟨w19, hw19⟩ : ∃ w19, w19 = w18.alloc (.cells #[.int .i64 serial, .string iss, .string sub, .int .i64 fr, .int .i64 till, .int .i64 key, .slice x2 rl y2, .bool ca, .int .i64 sk, .int .i64 se, .int .i64 ss, .int .i64 rn] 28 (0, 0)) := ⟨_, rfl⟩
  have b19 : Below w18.heap.size w18 w19 := by rw [hw19]; exact (Below.refl _ _).alloc (Nat.le_refl _) _
  have s18 := b18.size
  have zz := ZZ.out
  have z16 := Z16.out
  have d19 : Below w16.heap.size w16 w19 := b18.trans (b19.mono (by omega))
  have R19 : Hid (w19.heap[w4.heap.size]? = some (.cells [Value.int .i64 serial, .string iss, .string sub, .int .i64 fr, .int .i64 till, .int .i64 key, .slice x0 rl y0, .bool ca, .int .i64 sk, .int .i64 se, .int .i64 ss, .int .i64 rn].toArray 28 (0, 0))) := (d19.block _ (by omega)).trans R16.out
  have Y19 : Hid (w19.heap[w8.heap.size]? = some (.cells [Value.int .i64 serial, .string iss, .string sub, .int .i64 fr, .int .i64 till, .int .i64 key, .slice x1 rl y1, .bool ca, .int .i64 sk, .int .i64 se, .int .i64 ss, .int .i64 rn].toArray 28 (0, 0))) := (d19.block _ (by omega)).trans Y16.out
  have H19 : Hid (w19.heap[w18.heap.size]? = some (.cells [Value.int .i64 serial, .string iss, .string sub, .int .i64 fr, .int .i64 till, .int .i64 key, .slice x2 rl y2, .bool ca, .int .i64 sk, .int .i64 se, .int .i64 ss, .int .i64 rn].toArray 28 (0, 0))) := by show _ = _; rw [hw19]; exact heap_alloc_new w18 _
  have O19 : Hid (OwnS w19 w.heap.size (.slice x0 rl y0) names) := O16.out.keep d19
  have Q19 : Hid (OwnS w19 w16.heap.size (.slice x2 rl y2) names) := o2.keep b19
  have M19 : Hid (MkS w19 (.slice x1 rl y1) rl) := M16.out.keep d19
  have K19 : Hid (Below w.heap.size w w19) := K16.out.trans (d19.mono K16.out.size)
  have Z19 : Hid (w9.heap.size ≤ w19.heap.size) := by show _ ≤ _; have := d19.size; omega
  clear b18 b19 d19 o2 s18 zz z16 R16 Y16 O16 M16 K16
  go_upto_region 16 with fail
  rw [← hw19]
  clear hw19
  have k0 := rowFacts H19.out 0 _ rfl
  have k1 := rowFacts H19.out 1 _ rfl
  have k2 := rowFacts H19.out 2 _ rfl
  have k3 := rowFacts H19.out 3 _ rfl
  have k4 := rowFacts H19.out 4 _ rfl
  have k5 := rowFacts H19.out 5 _ rfl
  have k6 := rowFacts H19.out 6 _ rfl
  have k7 := rowFacts H19.out 7 _ rfl
  have k8 := rowFacts H19.out 8 _ rfl
  have k9 := rowFacts H19.out 9 _ rfl
  have k10 := rowFacts H19.out 10 _ rfl
  have k11 := rowFacts H19.out 11 _ rfl
  have d0 := rowFacts R19.out 0 _ rfl
  have d1 := rowFacts R19.out 1 _ rfl
  have d2 := rowFacts R19.out 2 _ rfl
  have d3 := rowFacts R19.out 3 _ rfl
  have d4 := rowFacts R19.out 4 _ rfl
  have d5 := rowFacts R19.out 5 _ rfl
  have d6 := rowFacts R19.out 6 _ rfl
  have d7 := rowFacts R19.out 7 _ rfl
  have d8 := rowFacts R19.out 8 _ rfl
  have d9 := rowFacts R19.out 9 _ rfl
  have d10 := rowFacts R19.out 10 _ rfl
  have d11 := rowFacts R19.out 11 _ rfl
  go_wp2_with fail
  refine (HER.out _ _ _ _ _ Q19.out.strs O19.out.strs).mono ?_
  rintro e w20 ⟨rfl, b20⟩
  have s20 := b20.size
  have zz := ZZ.out
  have z19 := Z19.out
  have Y20 : Hid (w20.heap[w8.heap.size]? = some (.cells [Value.int .i64 serial, .string iss, .string sub, .int .i64 fr, .int .i64 till, .int .i64 key, .slice x1 rl y1, .bool ca, .int .i64 sk, .int .i64 se, .int .i64 ss, .int .i64 rn].toArray 28 (0, 0))) := (b20.block _ (by omega)).trans Y19.out
  have M20 : Hid (MkS w20 (.slice x1 rl y1) rl) := M19.out.keep b20
  have K20 : Hid (Below w.heap.size w w20) := K19.out.trans (b20.mono K19.out.size)
  clear b20 s20 zz z19 R19 Y19 H19 O19 Q19 M19 K19 k0 k1 k2 k3 k4 k5 k6 k7 k8 k9 k10 k11 d0 d1 d2 d3 d4 d5 d6 d7 d8 d9 d10 d11
  go_upto_region 19 with fail
  have k0 := rowFacts Y20.out 0 _ rfl
  have k1 := rowFacts Y20.out 1 _ rfl
  have k2 := rowFacts Y20.out 2 _ rfl
  have k3 := rowFacts Y20.out 3 _ rfl
  have k4 := rowFacts Y20.out 4 _ rfl
  have k5 := rowFacts Y20.out 5 _ rfl
  have k6 := rowFacts Y20.out 6 _ rfl
  have k7 := rowFacts Y20.out 7 _ rfl
  have k8 := rowFacts Y20.out 8 _ rfl
  have k9 := rowFacts Y20.out 9 _ rfl
  have k10 := rowFacts Y20.out 10 _ rfl
  have k11 := rowFacts Y20.out 11 _ rfl
  go_wp2_with fail
  refine (HHR.out _ _ _ _ M20.out).mono ?_
  rintro e w21 ⟨rfl, b21⟩
  have K21 : Hid (Below w.heap.size w w21) := K20.out.trans (b21.mono K20.out.size)
  clear b21 k0 k1 k2 k3 k4 k5 k6 k7 k8 k9 k10 k11
  go_wp2_with fail
  go_ret
  exact ⟨rfl, K21.out⟩
end Go.Proofs.YtfliacfeebooeaaGreatDoor
