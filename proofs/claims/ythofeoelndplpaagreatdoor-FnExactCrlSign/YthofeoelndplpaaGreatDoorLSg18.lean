/- FnExactCrlSign, walked: at every number and list CrlSign answers as the specification's; it writes into no argument, its answer owns its memory, behind another call too. What the listed table gives the walks: the numbers of the rounds, each in its cell. What the listed table and error give the walks. As many variables are read as are named. No program is named. -/
import Derived.Test.YthofeoelndplpaaGreatDoorLSg10
import Derived.Test.YthofeoelndplpaaGreatDoorLSg16
import Derived.Test.YthofeoelndplpaaGreatDoorLSg17
import Derived.Test.YthofeoelndplpaaGreatDoorLSg07
import Derived.Test.YthofeoelndplpaaGreatDoorLSg14
import Derived.Below
import Derived.Deep.RegionHeld3
import Derived.Test.YthofeoelndplpaaGreatDoorLSg04
import Derived.ProofKit
import Derived.OpenShut
import Derived.LaidMore
import Derived.Stop.Joined
import Derived.OpenVars
import Derived.Lay
import Derived.Stop.LaidErr
import Derived.ChangeShapes
import Derived.Test.YthofeoelndplpaaGreatDoorRows
namespace Go.Proofs.YthofeoelndplpaaGreatDoor
open Go.RowKit

set_option linter.unusedSimpArgs false in
set_option maxHeartbeats 4000000 in
set_option maxRecDepth 100000 in
theorem crlSignWalk (w : World) (k : Int) (_ : (Lit.int .i64 k).wf = true) (c : Lst) (a : Option Addr) (cap : Nat) (h : CameL w c a) (hk : Keys w ∧ Err1 w) :
    Calls Tryz.prog 5 #[.int .i64 k, c.val (.slice a c.serials.length cap)] w fun e w' => e = .returned (.bool true) ∧ Below w.heap.size w w' := by
  have HZ : Hid (∀ V, IsInts V a c.serials → Calls Tryz.prog 20 #[c.val (.slice a c.serials.length cap), .int .i64 1048576] V fun e w' => ∃ x : Int, e = .returned (.int .i64 x) ∧ (x < 0 ∨ c.Small) ∧ -1 ≤ x ∧ x ≤ 1048576 ∧ Below V.heap.size V w') := fun V _ => szCrl c a cap V h.iss h.len
  have HT : Hid (c.Small → ∀ V, IsInts V a c.serials → Calls Tryz.prog 22 #[c.val (.slice a c.serials.length cap)] V fun e w' => ∃ g, e = .returned (c.val (.slice (some ⟨g, 0, none⟩) c.serials.length c.serials.length)) ∧ V.heap.size ≤ g ∧ w'.heap[g]? = some (.cells (lCells c.serials).toArray 2 (0, 0)) ∧ Below V.heap.size V w') := fun hs V hV => toCrl c a cap V hs.2 hV
  obtain ⟨sk', se', ss', hsv⟩ := signV_is3 k (listD c)
  have HRL := signL_len k c sk' se' ss'
  have HS : Hid (c.Small → ∀ V g, V.heap[g]? = some (.cells (lCells c.serials).toArray 2 (0, 0)) → Calls Tryz.prog 21 #[.int .i64 k, c.val (.slice (some ⟨g, 0, none⟩) c.serials.length c.serials.length)] V fun e w' => ∃ v, e = .returned ((signL k c sk' se' ss').val v) ∧ OwnL w' V.heap.size v (signL k c sk' se' ss').serials ∧ Below V.heap.size V w') := fun hs V g hV => specSignL k c g 0 _ sk' se' ss' V h.iss hs.2 (heap_lt hV) (fun i hi => rowFacts hV (0 + i) _ (by rw [Nat.zero_add]; exact lCells_at hi)) (fun _ _ => hsv)
  have HI : Hid (c.Small → ∀ V g, Keys V ∧ Err1 V → V.heap[g]? = some (.cells (lCells c.serials).toArray 2 (0, 0)) → Calls Tryz.prog 23 #[.int .i64 k, c.val (.slice (some ⟨g, 0, none⟩) c.serials.length c.serials.length)] V fun e w' => ∃ v, e = .returned ((signL k c sk' se' ss').val v) ∧ OwnL w' V.heap.size v (signL k c sk' se' ss').serials ∧ Below V.heap.size V w') := fun hs V g hKV hV => implSignL k c g 0 _ sk' se' ss' V hs.1 hs.2 (heap_lt hV) (fun i hi => rowFacts hV (0 + i) _ (by rw [Nat.zero_add]; exact lCells_at hi)) hKV.1 hKV.2 (fun _ _ => hsv)
  have HER : Hid (c.Small → ∀ V a b p q, IsInts V a (signL k c sk' se' ss').serials → IsInts V b (signL k c sk' se' ss').serials → Calls Tryz.prog 24 #[(signL k c sk' se' ss').val (.slice a (signL k c sk' se' ss').serials.length p), (signL k c sk' se' ss').val (.slice b (signL k c sk' se' ss').serials.length q)] V fun e w' => e = .returned (.bool true) ∧ Below V.heap.size V w') := fun hs V a b p q h1 h2 => eqCrl _ a b p q V (Nat.le_trans HRL hs.2) h1 h2
  have HMX : Hid (c.Small → ∀ V g, V.heap[g]? = some (.cells (lCells c.serials).toArray 2 (0, 0)) → Calls Tryz.prog 25 #[c.val (.slice (some ⟨g, 0, none⟩) c.serials.length c.serials.length), .int .i64 1] V fun e w' => (∃ x : Int, e = .returned (.int .i64 x) ∧ 1 ≤ x) ∧ (∀ b, b ≠ g → b < V.heap.size → w'.heap[b]? = V.heap[b]?) ∧ V.heap.size ≤ w'.heap.size ∧ ∀ B' w0, B' ≤ g → B' ≤ V.heap.size → Below B' w0 V → Below B' w0 w') := fun hs V g hV => by
    have ho : OwnL V g (.slice (some ⟨g, 0, none⟩) c.serials.length c.serials.length) c.serials := ⟨by simp [lCells], .inr ⟨g, _, _, rfl, Nat.le_refl _, hV, Nat.le_refl _, by have := hs.2; unfold maxLen; omega, by simp [lCells], by simp only [lCells, Nat.mul_one]; exact List.take_of_length_le (by simp)⟩⟩
    refine (markCrlC c _ c.serials g V hs.2 ho).mono ?_
    rintro e w' ⟨he, _, h2, h3, h4⟩
    exact ⟨⟨_, he, by omega⟩, fun b hb hl => h2 b (fun e => hb (by simpa [Value.ownBlock] using e.symm)) hl, h3, h4⟩
  have HMR : Hid (c.Small → ∀ V B v, OwnL V B v (signL k c sk' se' ss').serials → Calls Tryz.prog 25 #[(signL k c sk' se' ss').val v, .int .i64 1] V fun e w' => e = .returned (.int .i64 ((1 + (signL k c sk' se' ss').serials.length : Nat) : Int)) ∧ MkL w' v (signL k c sk' se' ss').serials.length ∧
      (∀ b, v.ownBlock ≠ some b → b < V.heap.size → w'.heap[b]? = V.heap[b]?) ∧ V.heap.size ≤ w'.heap.size ∧ ∀ B' w0, B' ≤ B → B' ≤ V.heap.size → Below B' w0 V → Below B' w0 w') := fun hs V B v ho => markCrlC _ v _ B V (Nat.le_trans HRL hs.2) ho
  have HHR : Hid (c.Small → ∀ V v, MkL V v (signL k c sk' se' ss').serials.length → Calls Tryz.prog 26 #[(signL k c sk' se' ss').val v, .int .i64 1] V fun e w' => e = .returned (.int .i64 ((1 + (signL k c sk' se' ss').serials.length : Nat) : Int)) ∧ Below V.heap.size V w') := fun hs V v hm => heldCrlC _ v _ V (Nat.le_trans HRL hs.2) hm
  have HE : Hid (c.Small → ∀ V g k, IsInts V (some ⟨g, 0, none⟩) c.serials → IsInts V (some ⟨k, 0, none⟩) c.serials → Calls Tryz.prog 24 #[c.val (.slice (some ⟨g, 0, none⟩) c.serials.length c.serials.length), c.val (.slice (some ⟨k, 0, none⟩) c.serials.length c.serials.length)] V fun e w' => e = .returned (.bool true) ∧ Below V.heap.size V w') := fun hs V g k h1 h2 => eqCrl c _ _ _ _ V hs.2 h1 h2
  have ha := h.ints
  have hkp := hk.1.pos
  have HKy : Hid (∀ V, Below w.heap.size w V → Keys V ∧ Err1 V) := fun V hV => ⟨hk.1.below hV hkp, hk.2.keep hV⟩
  clear h hk
  clear hsv
  generalize signL k c sk' se' ss' = R at *
  generalize Lst.Small c = Sm at *
  obtain ⟨iss, fr, till, serials, sk, se, ss⟩ := c
  unfold Lst.val at *
  simp only at HZ HT HS HI HE HER HMX HMR HHR ha ⊢
  generalize serials.length = nl at *
  obtain ⟨w1, hw1⟩ : ∃ w1, w1 = w.alloc (.cells #[.string iss, .int .i64 fr, .int .i64 till, .slice a nl cap, .int .i64 sk, .int .i64 se, .int .i64 ss] 43 (0, 0)) := ⟨_, rfl⟩
  have r0 : w1.heap[w.heap.size]? = some (.cells [Value.string iss, .int .i64 fr, .int .i64 till, .slice a nl cap, .int .i64 sk, .int .i64 se, .int .i64 ss].toArray 43 (0, 0)) := by rw [hw1]; exact heap_alloc_new w _
  have B1 : Hid (Below w.heap.size w w1) := by rw [hw1]; exact (Below.refl _ _).alloc (Nat.le_refl _) _
  have z1 : w.heap.size < w1.heap.size := by rw [hw1]; simp
  have HK : Hid (∀ V, Below w1.heap.size w1 V → V.cell? ⟨w.heap.size, 0, none⟩ = some (.string iss) ∧ V.cell? ⟨w.heap.size, 1, none⟩ = some (.int .i64 fr) ∧ V.cell? ⟨w.heap.size, 2, none⟩ = some (.int .i64 till) ∧ V.cell? ⟨w.heap.size, 3, none⟩ = some (.slice a nl cap) ∧ V.cell? ⟨w.heap.size, 4, none⟩ = some (.int .i64 sk) ∧ V.cell? ⟨w.heap.size, 5, none⟩ = some (.int .i64 se) ∧ V.cell? ⟨w.heap.size, 6, none⟩ = some (.int .i64 ss)) := fun V hV => by
    have hP := (hV.block _ z1).trans r0
    exact ⟨rowFacts hP 0 _ rfl, rowFacts hP 1 _ rfl, rowFacts hP 2 _ rfl, rowFacts hP 3 _ rfl, rowFacts hP 4 _ rfl, rowFacts hP 5 _ rfl, rowFacts hP 6 _ rfl⟩
  have HA : Hid (∀ V, Below w.heap.size w V → IsInts V a serials) := fun V hV => ha.keep hV
  have Z1 : Hid (w.heap.size < w1.heap.size) := z1
  clear r0 ha z1
  go_enter Tryz.func5, Tryz.ntmps5
  go_upto_region 2 with fail
  rw [← hw1]
  clear hw1
  obtain ⟨c0, c1, c2, c3, c4, c5, c6⟩ := HK.out w1 (Below.refl _ _)
  go_wp2_with fail
  refine (HZ.out _ (HA.out _ B1.out)).mono ?_
  rintro e w2 ⟨x, rfl, hx, hx0, hx1, b2⟩
  have K2 : Hid (Below w1.heap.size w1 w2) := b2
  clear b2 c0 c1 c2 c3 c4 c5 c6
  have HB : Hid (∀ V, Below w1.heap.size w1 V → Below w.heap.size w V) := fun V hV => B1.out.trans (hV.mono B1.out.size)
  by_cases hneg : x < 0
  · go_wp2
    go_ret
    exact ⟨rfl, HB.out _ K2.out⟩
  have hSm : Sm := by rcases hx with h | h
                      · exact absurd h hneg
                      · exact h
  have T1 := HT.out hSm
  have HT' : Hid _ := T1
  have S1 := HS.out hSm
  have HS' : Hid _ := S1
  have I1 := HI.out hSm
  have HI' : Hid _ := I1
  have E1 := HE.out hSm
  have HE' : Hid _ := E1
  have F1 := HER.out hSm
  have HER' : Hid _ := F1
  have F2 := HMX.out hSm
  have HMX' : Hid _ := F2
  have F3 := HMR.out hSm
  have HMR' : Hid _ := F3
  have F4 := HHR.out hSm
  have HHR' : Hid _ := F4
  clear F1 F2 F3 F4 HER HMX HMR HHR
  clear T1 S1 I1 E1 HT HS HI HE HZ hx hSm
  obtain ⟨c0, c1, c2, c3, c4, c5, c6⟩ := HK.out w2 K2.out
  go_wp2_with fail
  refine (HT'.out _ (HA.out _ (HB.out _ K2.out))).mono ?_
  rintro e w3 ⟨g1, rfl, hg1, hr1, b3⟩
  have K3 : Hid (Below w1.heap.size w1 w3) := K2.out.trans (b3.mono K2.out.size)
  have A3 : Hid (w3.heap[g1]? = some (.cells (lCells serials).toArray 2 (0, 0))) := hr1
  clear b3 hr1 hg1 c0 c1 c2 c3 c4 c5 c6
  go_wp2_with fail
  refine (HS'.out _ g1 A3.out).mono ?_
  rintro e w4 ⟨v0, rfl, o0, b4⟩
  have K4 : Hid (Below w1.heap.size w1 w4) := K3.out.trans (b4.mono K3.out.size)
  have O0 : Hid (OwnL w4 w1.heap.size v0 R.serials) := o0.mono K3.out.size
  clear b4 A3 K3 K2 o0
  obtain ⟨x0, y0, rfl, _⟩ := O0.out.form
  obtain ⟨riss, rfr, rtill, rserials, rsk, rse, rss⟩ := R
  simp only at HS' HI' HER' HMR' HHR' O0 HRL ⊢
  generalize hrl : rserials.length = rl at *
  obtain ⟨w5, hw5⟩ : ∃ w5, w5 = w4.alloc (.cells #[.string riss, .int .i64 rfr, .int .i64 rtill, .slice x0 rl y0, .int .i64 rsk, .int .i64 rse, .int .i64 rss] 46 (0, 0)) := ⟨_, rfl⟩
  have b5 : Below w4.heap.size w4 w5 := by rw [hw5]; exact (Below.refl _ _).alloc (Nat.le_refl _) _
  have q5 : w5.heap[w4.heap.size]? = some (.cells [Value.string riss, .int .i64 rfr, .int .i64 rtill, .slice x0 rl y0, .int .i64 rsk, .int .i64 rse, .int .i64 rss].toArray 46 (0, 0)) := by rw [hw5]; exact heap_alloc_new w4 _
  have K5 : Hid (Below w1.heap.size w1 w5) := K4.out.trans (b5.mono K4.out.size)
  have O5 : Hid (OwnL w5 w1.heap.size (.slice x0 rl y0) rserials) := by show OwnL _ _ _ _; exact O0.out.keep b5
  have Z5 : Hid (w4.heap.size < w5.heap.size) := by show _ < _; rw [hw5]; simp
  have R5 : Hid (w5.heap[w4.heap.size]? = some (.cells [Value.string riss, .int .i64 rfr, .int .i64 rtill, .slice x0 rl y0, .int .i64 rsk, .int .i64 rse, .int .i64 rss].toArray 46 (0, 0))) := q5
  have ZK : Hid (w1.heap.size ≤ w4.heap.size) := K4.out.size
  clear b5 q5 K4 O0
  go_upto_region 6 with fail
  rw [← hw5]
  clear hw5
  obtain ⟨c0, c1, c2, c3, c4, c5, c6⟩ := HK.out w5 K5.out
  go_wp2_with fail
  refine (HT'.out _ (HA.out _ (HB.out _ K5.out))).mono ?_
  rintro e w6 ⟨g2, rfl, hg2, hr2, b6⟩
  clear c0 c1 c2 c3 c4 c5 c6
  obtain ⟨w7, hw7⟩ : ∃ w7, w7 = w6.alloc (.cells #[.string iss, .int .i64 fr, .int .i64 till, .slice (some ⟨g2, 0, none⟩) nl nl, .int .i64 sk, .int .i64 se, .int .i64 ss] 46 (0, 0)) := ⟨_, rfl⟩
  have b7 : Below w6.heap.size w6 w7 := by rw [hw7]; exact (Below.refl _ _).alloc (Nat.le_refl _) _
  have d7 : Below w5.heap.size w5 w7 := b6.trans (b7.mono b6.size)
  have z7 : w6.heap.size < w7.heap.size := by rw [hw7]; simp
  have s6 := b6.size
  have hgl2 : g2 < w6.heap.size := heap_lt hr2
  have K7 : Hid (Below w1.heap.size w1 w7) := K5.out.trans (d7.mono K5.out.size)
  have R7 : Hid (w7.heap[w4.heap.size]? = some (.cells [Value.string riss, .int .i64 rfr, .int .i64 rtill, .slice x0 rl y0, .int .i64 rsk, .int .i64 rse, .int .i64 rss].toArray 46 (0, 0))) := (d7.block _ Z5.out).trans R5.out
  have X7 : Hid (w7.heap[w6.heap.size]? = some (.cells [Value.string iss, .int .i64 fr, .int .i64 till, .slice (some ⟨g2, 0, none⟩) nl nl, .int .i64 sk, .int .i64 se, .int .i64 ss].toArray 46 (0, 0))) := by show _ = _; rw [hw7]; exact heap_alloc_new w6 _
  have G7 : Hid (w7.heap[g2]? = some (.cells (lCells serials).toArray 2 (0, 0))) := (b7.block _ hgl2).trans hr2
  have O7 : Hid (OwnL w7 w1.heap.size (.slice x0 rl y0) rserials) := O5.out.keep d7
  have HG2 : Hid (w5.heap.size ≤ g2 ∧ g2 < w6.heap.size) := ⟨hg2, hgl2⟩
  have Z7 : Hid (w5.heap.size ≤ w6.heap.size ∧ w6.heap.size < w7.heap.size) := ⟨s6, z7⟩
  have P5 : Hid (∀ g, (Value.slice x0 rl y0).ownBlock = some g → g < w5.heap.size) := fun g e => (OwnL.ge O5.out e).2
  clear b6 b7 d7 z7 s6 hgl2 hg2 hr2 R5 O5 K5
  go_upto_region 7 with fail
  rw [← hw7]
  clear hw7
  have hP7 := X7.out
  have k0 := rowFacts hP7 0 _ rfl
  have k1 := rowFacts hP7 1 _ rfl
  have k2 := rowFacts hP7 2 _ rfl
  have k3 := rowFacts hP7 3 _ rfl
  have k4 := rowFacts hP7 4 _ rfl
  have k5 := rowFacts hP7 5 _ rfl
  have k6 := rowFacts hP7 6 _ rfl
  clear hP7
  go_wp2_with fail
  refine (HI'.out _ g2 (HKy.out _ (HB.out _ K7.out)) G7.out).mono ?_
  rintro e w8 ⟨v1, rfl, o1, b8⟩
  obtain ⟨x1, y1, e1, _⟩ := OwnL.form o1
  subst e1
  rw [hrl] at o1 ⊢
  obtain ⟨w9, hw9⟩ : ∃ w9, w9 = w8.alloc (.cells #[.string riss, .int .i64 rfr, .int .i64 rtill, .slice x1 rl y1, .int .i64 rsk, .int .i64 rse, .int .i64 rss] 46 (0, 0)) := ⟨_, rfl⟩
  have b9 : Below w8.heap.size w8 w9 := by rw [hw9]; exact (Below.refl _ _).alloc (Nat.le_refl _) _
  have d9 : Below w7.heap.size w7 w9 := b8.trans (b9.mono b8.size)
  have s8 := b8.size
  have z9 : w8.heap.size < w9.heap.size := by rw [hw9]; simp
  have z5 := Z5.out
  have z7 := Z7.out
  have hg2 := HG2.out
  have K9 : Hid (Below w1.heap.size w1 w9) := K7.out.trans (d9.mono K7.out.size)
  have R9 : Hid (w9.heap[w4.heap.size]? = some (.cells [Value.string riss, .int .i64 rfr, .int .i64 rtill, .slice x0 rl y0, .int .i64 rsk, .int .i64 rse, .int .i64 rss].toArray 46 (0, 0))) := (d9.block _ (by omega)).trans R7.out
  have X9 : Hid (w9.heap[w6.heap.size]? = some (.cells [Value.string iss, .int .i64 fr, .int .i64 till, .slice (some ⟨g2, 0, none⟩) nl nl, .int .i64 sk, .int .i64 se, .int .i64 ss].toArray 46 (0, 0))) := (d9.block _ (by omega)).trans X7.out
  have Y9 : Hid (w9.heap[w8.heap.size]? = some (.cells [Value.string riss, .int .i64 rfr, .int .i64 rtill, .slice x1 rl y1, .int .i64 rsk, .int .i64 rse, .int .i64 rss].toArray 46 (0, 0))) := by show _ = _; rw [hw9]; exact heap_alloc_new w8 _
  have G9 : Hid (w9.heap[g2]? = some (.cells (lCells serials).toArray 2 (0, 0))) := (d9.block _ (by omega)).trans G7.out
  have O9 : Hid (OwnL w9 w1.heap.size (.slice x0 rl y0) rserials) := O7.out.keep d9
  have Q9 : Hid (OwnL w9 w7.heap.size (.slice x1 rl y1) rserials) := o1.keep b9
  have P8 : Hid (∀ g, (Value.slice x1 rl y1).ownBlock = some g → w7.heap.size ≤ g ∧ g < w8.heap.size) := fun g e => OwnL.ge o1 e
  have Z9 : Hid (w7.heap.size ≤ w8.heap.size ∧ w8.heap.size < w9.heap.size) := ⟨s8, z9⟩
  clear b8 b9 d9 s8 z9 z5 z7 hg2 o1 K7 R7 X7 G7 O7 k0 k1 k2 k3 k4 k5 k6
  go_upto_region 8 with fail
  rw [← hw9]
  clear hw9
  have k0 := rowFacts Y9.out 0 _ rfl
  have k1 := rowFacts Y9.out 1 _ rfl
  have k2 := rowFacts Y9.out 2 _ rfl
  have k3 := rowFacts Y9.out 3 _ rfl
  have k4 := rowFacts Y9.out 4 _ rfl
  have k5 := rowFacts Y9.out 5 _ rfl
  have k6 := rowFacts Y9.out 6 _ rfl
  have d0 := rowFacts R9.out 0 _ rfl
  have d1 := rowFacts R9.out 1 _ rfl
  have d2 := rowFacts R9.out 2 _ rfl
  have d3 := rowFacts R9.out 3 _ rfl
  have d4 := rowFacts R9.out 4 _ rfl
  have d5 := rowFacts R9.out 5 _ rfl
  have d6 := rowFacts R9.out 6 _ rfl
  go_wp2_with fail
  refine (HER'.out _ _ _ _ _ Q9.out.ints O9.out.ints).mono ?_
  rintro e w10 ⟨rfl, b10⟩
  have J10 : Hid (Below w9.heap.size w9 w10) := b10
  clear b10 k0 k1 k2 k3 k4 k5 k6 d0 d1 d2 d3 d4 d5 d6
  have HQ : Hid (∀ V, Below w9.heap.size w9 V → Below w1.heap.size w1 V) := fun V hV => K9.out.trans (hV.mono K9.out.size)
  go_upto_region 10 with fail
  have HSS : Hid (∀ V, Below w9.heap.size w9 V → (V.cell? ⟨w6.heap.size, 0, none⟩ = some (.string iss) ∧ V.cell? ⟨w6.heap.size, 1, none⟩ = some (.int .i64 fr) ∧ V.cell? ⟨w6.heap.size, 2, none⟩ = some (.int .i64 till) ∧ V.cell? ⟨w6.heap.size, 3, none⟩ = some (.slice (some ⟨g2, 0, none⟩) nl nl) ∧ V.cell? ⟨w6.heap.size, 4, none⟩ = some (.int .i64 sk) ∧ V.cell? ⟨w6.heap.size, 5, none⟩ = some (.int .i64 se) ∧ V.cell? ⟨w6.heap.size, 6, none⟩ = some (.int .i64 ss)) ∧ (V.cell? ⟨w.heap.size, 0, none⟩ = some (.string iss) ∧ V.cell? ⟨w.heap.size, 1, none⟩ = some (.int .i64 fr) ∧ V.cell? ⟨w.heap.size, 2, none⟩ = some (.int .i64 till) ∧ V.cell? ⟨w.heap.size, 3, none⟩ = some (.slice a nl cap) ∧ V.cell? ⟨w.heap.size, 4, none⟩ = some (.int .i64 sk) ∧ V.cell? ⟨w.heap.size, 5, none⟩ = some (.int .i64 se) ∧ V.cell? ⟨w.heap.size, 6, none⟩ = some (.int .i64 ss))) := fun V hV => by
    have hP := (hV.block _ (by have := Z7.out; have := Z9.out; omega)).trans X9.out
    exact ⟨⟨rowFacts hP 0 _ rfl, rowFacts hP 1 _ rfl, rowFacts hP 2 _ rfl, rowFacts hP 3 _ rfl, rowFacts hP 4 _ rfl, rowFacts hP 5 _ rfl, rowFacts hP 6 _ rfl⟩, HK.out V (HQ.out V hV)⟩
  have D10 : Hid (Below w9.heap.size w9 w10.drew) := J10.out.drew
  refine wp_region_held_drew (S := fun V => (V.cell? ⟨w6.heap.size, 0, none⟩ = some (.string iss) ∧ V.cell? ⟨w6.heap.size, 1, none⟩ = some (.int .i64 fr) ∧ V.cell? ⟨w6.heap.size, 2, none⟩ = some (.int .i64 till) ∧ V.cell? ⟨w6.heap.size, 3, none⟩ = some (.slice (some ⟨g2, 0, none⟩) nl nl) ∧ V.cell? ⟨w6.heap.size, 4, none⟩ = some (.int .i64 sk) ∧ V.cell? ⟨w6.heap.size, 5, none⟩ = some (.int .i64 se) ∧ V.cell? ⟨w6.heap.size, 6, none⟩ = some (.int .i64 ss)) ∧ (V.cell? ⟨w.heap.size, 0, none⟩ = some (.string iss) ∧ V.cell? ⟨w.heap.size, 1, none⟩ = some (.int .i64 fr) ∧ V.cell? ⟨w.heap.size, 2, none⟩ = some (.int .i64 till) ∧ V.cell? ⟨w.heap.size, 3, none⟩ = some (.slice a nl cap) ∧ V.cell? ⟨w.heap.size, 4, none⟩ = some (.int .i64 sk) ∧ V.cell? ⟨w.heap.size, 5, none⟩ = some (.int .i64 se) ∧ V.cell? ⟨w.heap.size, 6, none⟩ = some (.int .i64 ss))) (by kernel_rfl) ?_ (fun hHeld => ?_)
  · exact HSS.out _ D10.out
  refine wpAnyH_take (i := 0) (oi := ⟨some 31, _, _, _, _, _⟩) (v := ?_) rfl (by kernel_rfl) (by kernel_rfl) (by kernel_rfl) (fun _ _ _ h => h) (Or.inl ⟨by kernel_rfl, ?_⟩) (by assumption) ?_
  rotate_left
  · (intro w hSw; (try dsimp only at hSw); go_simp; try with_reducible rfl)
  (try simp only [Act.put, List.setIfInBounds_toArray, List.set_cons_zero, List.set_cons_succ])
  refine wpAnyH_take (i := 1) (oi := ⟨some 32, _, _, _, _, _⟩) (v := ?_) rfl (by kernel_rfl) (by kernel_rfl) (by kernel_rfl) (fun _ _ _ h => h) (Or.inl ⟨by kernel_rfl, ?_⟩) (by assumption) ?_
  rotate_left
  · (intro w hSw; (try dsimp only at hSw); go_simp; try with_reducible rfl)
  (try simp only [Act.put, List.setIfInBounds_toArray, List.set_cons_zero, List.set_cons_succ])
  refine wpAnyH_ready (rs := [2]) (by kernel_rfl) (by simp) ?_
  refine AllReadyH.cons (o := ⟨some 33, _, _, _, _, _⟩) rfl (fun K hK => ?_) AllReadyH.nil
  go_simp
  refine (HT'.out _ (HA.out _ (HB.out _ (HQ.out _ D10.out)))).mono ?_
  rintro e w11 ⟨g3, rfl, hg3, hr3, b11⟩
  have J11 : Hid (Below w9.heap.size w9 w11) := D10.out.trans (b11.mono D10.out.size)
  have A11 : Hid (IsInts w11 (some ⟨g3, 0, none⟩) serials) := IsInts.row (rest := []) (by simpa using hr3)
  refine hK.out _ _ ?_ (fun hHeld => ?_)
  · exact HSS.out _ J11.out
  clear hK K b11 hr3
  (try simp only [Act.put, List.setIfInBounds_toArray, List.set_cons_zero, List.set_cons_succ])
  refine wpAnyH_ready (rs := [3]) (by kernel_rfl) (by simp) ?_
  refine AllReadyH.cons (o := ⟨some 34, _, _, _, _, _⟩) rfl (fun K hK => ?_) AllReadyH.nil
  go_simp
  refine (HE'.out _ g2 g3 ((IsInts.row (rest := []) (by simpa using G9.out)).keep J11.out) A11.out).mono ?_
  rintro e w12 ⟨rfl, b12⟩
  have J12 : Hid (Below w9.heap.size w9 w12) := J11.out.trans (b12.mono J11.out.size)
  refine hK.out _ _ ?_ (fun hHeld => ?_)
  · exact HSS.out _ J12.out
  clear hK K b12
  (try simp only [Act.put, List.setIfInBounds_toArray, List.set_cons_zero, List.set_cons_succ])
  refine wpAnyH_take (i := 4) (oi := ⟨some 35, _, _, _, _, _⟩) (v := ?_) rfl (by kernel_rfl) (by kernel_rfl) (by kernel_rfl) (fun _ _ _ h => h) (Or.inl ⟨by kernel_rfl, ?_⟩) (by assumption) ?_
  rotate_left
  · (intro w hSw; (try dsimp only at hSw); go_simp; try with_reducible rfl)
  (try simp only [Act.put, List.setIfInBounds_toArray, List.set_cons_zero, List.set_cons_succ])
  refine wpAnyH_done (by kernel_rfl) ?_ _
  clear HSS hHeld D10 J10 J11 A11 hg3
  go_upto_region 13 with fail
  have z5 := Z5.out
  have z7 := Z7.out
  have z9 := Z9.out
  have zk := ZK.out
  have zg := HG2.out
  have z12 := J12.out.size
  have R12 : Hid (w12.heap[w4.heap.size]? = some (.cells [Value.string riss, .int .i64 rfr, .int .i64 rtill, .slice x0 rl y0, .int .i64 rsk, .int .i64 rse, .int .i64 rss].toArray 46 (0, 0))) := (J12.out.block _ (by omega)).trans R9.out
  have X12 : Hid (w12.heap[w6.heap.size]? = some (.cells [Value.string iss, .int .i64 fr, .int .i64 till, .slice (some ⟨g2, 0, none⟩) nl nl, .int .i64 sk, .int .i64 se, .int .i64 ss].toArray 46 (0, 0))) := (J12.out.block _ (by omega)).trans X9.out
  have Y12 : Hid (w12.heap[w8.heap.size]? = some (.cells [Value.string riss, .int .i64 rfr, .int .i64 rtill, .slice x1 rl y1, .int .i64 rsk, .int .i64 rse, .int .i64 rss].toArray 46 (0, 0))) := (J12.out.block _ (by omega)).trans Y9.out
  have G12 : Hid (w12.heap[g2]? = some (.cells (lCells serials).toArray 2 (0, 0))) := (J12.out.block _ (by omega)).trans G9.out
  have O12 : Hid (OwnL w12 w1.heap.size (.slice x0 rl y0) rserials) := O9.out.keep J12.out
  have Q12 : Hid (OwnL w12 w7.heap.size (.slice x1 rl y1) rserials) := Q9.out.keep J12.out
  have K12 : Hid (Below w1.heap.size w1 w12) := HQ.out _ J12.out
  clear R9 X9 Y9 G9 O9 Q9 K9 J12 HQ
  have k0 := rowFacts X12.out 0 _ rfl
  have k1 := rowFacts X12.out 1 _ rfl
  have k2 := rowFacts X12.out 2 _ rfl
  have k3 := rowFacts X12.out 3 _ rfl
  have k4 := rowFacts X12.out 4 _ rfl
  have k5 := rowFacts X12.out 5 _ rfl
  have k6 := rowFacts X12.out 6 _ rfl
  go_wp2_with fail
  refine (HMX'.out _ g2 G12.out).mono ?_
  rintro e w13 ⟨⟨xm, rfl, hxm⟩, sm, s13, bl⟩
  have R13 : Hid (w13.heap[w4.heap.size]? = some (.cells [Value.string riss, .int .i64 rfr, .int .i64 rtill, .slice x0 rl y0, .int .i64 rsk, .int .i64 rse, .int .i64 rss].toArray 46 (0, 0))) := (sm _ (by omega) (by omega)).trans R12.out
  have Y13 : Hid (w13.heap[w8.heap.size]? = some (.cells [Value.string riss, .int .i64 rfr, .int .i64 rtill, .slice x1 rl y1, .int .i64 rsk, .int .i64 rse, .int .i64 rss].toArray 46 (0, 0))) := (sm _ (by omega) (by omega)).trans Y12.out
  have O13 : Hid (OwnL w13 w1.heap.size (.slice x0 rl y0) rserials) := by
    refine ⟨O12.out.1, ?_⟩
    rcases O12.out.2 with h | ⟨g, cap, cur, e, h1, h2, h3⟩
    · exact .inl h
    · have hgb := P5.out g (by rw [e]; rfl)
      exact .inr ⟨g, cap, cur, e, h1, by rw [sm g (by omega) (by omega)]; exact h2, h3⟩
  have Q13 : Hid (OwnL w13 w7.heap.size (.slice x1 rl y1) rserials) := Q12.out.same (fun b h1 h2 => sm b (by omega) h2)
  have K13 : Hid (Below w1.heap.size w1 w13) := bl _ _ (by omega) (by omega) K12.out
  have Z13 : Hid (w9.heap.size ≤ w13.heap.size) := by show _ ≤ _; omega
  clear sm bl s13 z5 z7 z9 zk zg z12 R12 X12 Y12 G12 O12 Q12 K12 k0 k1 k2 k3 k4 k5 k6
  go_upto_region 14 with fail
  have k0 := rowFacts Y13.out 0 _ rfl
  have k1 := rowFacts Y13.out 1 _ rfl
  have k2 := rowFacts Y13.out 2 _ rfl
  have k3 := rowFacts Y13.out 3 _ rfl
  have k4 := rowFacts Y13.out 4 _ rfl
  have k5 := rowFacts Y13.out 5 _ rfl
  have k6 := rowFacts Y13.out 6 _ rfl
  have d0 := rowFacts R13.out 0 _ rfl
  have d1 := rowFacts R13.out 1 _ rfl
  have d2 := rowFacts R13.out 2 _ rfl
  have d3 := rowFacts R13.out 3 _ rfl
  have d4 := rowFacts R13.out 4 _ rfl
  have d5 := rowFacts R13.out 5 _ rfl
  have d6 := rowFacts R13.out 6 _ rfl
  have hx0 : ¬ xm < 0 := by omega
  go_wp2_with fail
  refine (HER'.out _ _ _ _ _ Q13.out.ints O13.out.ints).mono ?_
  rintro e w14 ⟨rfl, b14⟩
  have z5 := Z5.out
  have z7 := Z7.out
  have z9 := Z9.out
  have zk := ZK.out
  have z13 := Z13.out
  have z14 := b14.size
  have R14 : Hid (w14.heap[w4.heap.size]? = some (.cells [Value.string riss, .int .i64 rfr, .int .i64 rtill, .slice x0 rl y0, .int .i64 rsk, .int .i64 rse, .int .i64 rss].toArray 46 (0, 0))) := (b14.block _ (by omega)).trans R13.out
  have Y14 : Hid (w14.heap[w8.heap.size]? = some (.cells [Value.string riss, .int .i64 rfr, .int .i64 rtill, .slice x1 rl y1, .int .i64 rsk, .int .i64 rse, .int .i64 rss].toArray 46 (0, 0))) := (b14.block _ (by omega)).trans Y13.out
  have O14 : Hid (OwnL w14 w1.heap.size (.slice x0 rl y0) rserials) := O13.out.keep b14
  have Q14 : Hid (OwnL w14 w7.heap.size (.slice x1 rl y1) rserials) := Q13.out.keep b14
  have K14 : Hid (Below w1.heap.size w1 w14) := K13.out.trans (b14.mono K13.out.size)
  clear b14 R13 Y13 O13 Q13 K13 k0 k1 k2 k3 k4 k5 k6 d0 d1 d2 d3 d4 d5 d6
  obtain ⟨m, hm⟩ : ∃ m, m = 1 + rl := ⟨_, rfl⟩
  rw [← hm] at HMR' HHR'
  have hm1 : 1 ≤ m := by omega
  have em : ((m : Int) != (m : Int)) = false := by simp
  clear hm
  go_upto_region 17 with fail
  have k0 := rowFacts Y14.out 0 _ rfl
  have k1 := rowFacts Y14.out 1 _ rfl
  have k2 := rowFacts Y14.out 2 _ rfl
  have k3 := rowFacts Y14.out 3 _ rfl
  have k4 := rowFacts Y14.out 4 _ rfl
  have k5 := rowFacts Y14.out 5 _ rfl
  have k6 := rowFacts Y14.out 6 _ rfl
  go_wp2_with fail
  refine (HMR'.out _ _ _ Q14.out).mono ?_
  rintro e w15 ⟨rfl, mk, sm, s15, bl⟩
  have R15 : Hid (w15.heap[w4.heap.size]? = some (.cells [Value.string riss, .int .i64 rfr, .int .i64 rtill, .slice x0 rl y0, .int .i64 rsk, .int .i64 rse, .int .i64 rss].toArray 46 (0, 0))) := (sm _ (fun e => by have := (P8.out _ e).1; omega) (by omega)).trans R14.out
  have Y15 : Hid (w15.heap[w8.heap.size]? = some (.cells [Value.string riss, .int .i64 rfr, .int .i64 rtill, .slice x1 rl y1, .int .i64 rsk, .int .i64 rse, .int .i64 rss].toArray 46 (0, 0))) := (sm _ (fun e => by have := (P8.out _ e).2; omega) (by omega)).trans Y14.out
  have O15 : Hid (OwnL w15 w1.heap.size (.slice x0 rl y0) rserials) := by
    refine ⟨O14.out.1, ?_⟩
    rcases O14.out.2 with h | ⟨g, cap, cur, e, h1, h2, h3⟩
    · exact .inl h
    · have hgb := P5.out g (by rw [e]; rfl)
      exact .inr ⟨g, cap, cur, e, h1, by rw [sm g (fun e => by have := (P8.out _ e).1; omega) (by omega)]; exact h2, h3⟩
  have M15 : Hid (MkL w15 (.slice x1 rl y1) rl) := mk
  have K15 : Hid (Below w1.heap.size w1 w15) := bl _ _ (by omega) (by omega) K14.out
  clear sm bl mk R14 Y14 O14 Q14 K14 k0 k1 k2 k3 k4 k5 k6
  go_upto_region 19 with fail
  have k0 := rowFacts Y15.out 0 _ rfl
  have k1 := rowFacts Y15.out 1 _ rfl
  have k2 := rowFacts Y15.out 2 _ rfl
  have k3 := rowFacts Y15.out 3 _ rfl
  have k4 := rowFacts Y15.out 4 _ rfl
  have k5 := rowFacts Y15.out 5 _ rfl
  have k6 := rowFacts Y15.out 6 _ rfl
  go_wp2_with fail
  refine (HHR'.out _ _ M15.out).mono ?_
  rintro e w16 ⟨rfl, b16⟩
  have s16 := b16.size
  have R16 : Hid (w16.heap[w4.heap.size]? = some (.cells [Value.string riss, .int .i64 rfr, .int .i64 rtill, .slice x0 rl y0, .int .i64 rsk, .int .i64 rse, .int .i64 rss].toArray 46 (0, 0))) := (b16.block _ (by omega)).trans R15.out
  have Y16 : Hid (w16.heap[w8.heap.size]? = some (.cells [Value.string riss, .int .i64 rfr, .int .i64 rtill, .slice x1 rl y1, .int .i64 rsk, .int .i64 rse, .int .i64 rss].toArray 46 (0, 0))) := (b16.block _ (by omega)).trans Y15.out
  have O16 : Hid (OwnL w16 w1.heap.size (.slice x0 rl y0) rserials) := O15.out.keep b16
  have M16 : Hid (MkL w16 (.slice x1 rl y1) rl) := M15.out.keep b16
  have K16 : Hid (Below w1.heap.size w1 w16) := K15.out.trans (b16.mono K15.out.size)
  clear b16 R15 Y15 O15 M15 K15 k0 k1 k2 k3 k4 k5 k6
  obtain ⟨c0, c1, c2, c3, c4, c5, c6⟩ := HK.out w16 K16.out
  go_upto_region 24 with fail
  go_wp2_with fail
  refine (HT'.out _ (HA.out _ (HB.out _ K16.out))).mono ?_
  rintro e w17 ⟨g4, rfl, hg4, hr4, b17⟩
  clear c0 c1 c2 c3 c4 c5 c6
  go_wp2_with fail
  have K17 : Hid (Below w1.heap.size w1 w17) := K16.out.trans (b17.mono K16.out.size)
  refine (HI'.out _ g4 (HKy.out _ (HB.out _ K17.out)) hr4).mono ?_
  rintro e w18 ⟨v2, rfl, o2, b18⟩
  obtain ⟨x2, y2, e2, _⟩ := OwnL.form o2
  subst e2
  rw [hrl] at o2 ⊢
  obtain ⟨w19, hw19⟩ : ∃ w19, w19 = w18.alloc (.cells #[.string riss, .int .i64 rfr, .int .i64 rtill, .slice x2 rl y2, .int .i64 rsk, .int .i64 rse, .int .i64 rss] 46 (0, 0)) := ⟨_, rfl⟩
  have b19 : Below w18.heap.size w18 w19 := by rw [hw19]; exact (Below.refl _ _).alloc (Nat.le_refl _) _
  have s17 := b17.size
  have s18 := b18.size
  have d19 : Below w16.heap.size w16 w19 := (b17.trans (b18.mono s17)).trans (b19.mono (by omega))
  have R19 : Hid (w19.heap[w4.heap.size]? = some (.cells [Value.string riss, .int .i64 rfr, .int .i64 rtill, .slice x0 rl y0, .int .i64 rsk, .int .i64 rse, .int .i64 rss].toArray 46 (0, 0))) := (d19.block _ (by omega)).trans R16.out
  have Y19 : Hid (w19.heap[w8.heap.size]? = some (.cells [Value.string riss, .int .i64 rfr, .int .i64 rtill, .slice x1 rl y1, .int .i64 rsk, .int .i64 rse, .int .i64 rss].toArray 46 (0, 0))) := (d19.block _ (by omega)).trans Y16.out
  have H19 : Hid (w19.heap[w18.heap.size]? = some (.cells [Value.string riss, .int .i64 rfr, .int .i64 rtill, .slice x2 rl y2, .int .i64 rsk, .int .i64 rse, .int .i64 rss].toArray 46 (0, 0))) := by show _ = _; rw [hw19]; exact heap_alloc_new w18 _
  have O19 : Hid (OwnL w19 w1.heap.size (.slice x0 rl y0) rserials) := O16.out.keep d19
  have Q19 : Hid (OwnL w19 w17.heap.size (.slice x2 rl y2) rserials) := o2.keep b19
  have M19 : Hid (MkL w19 (.slice x1 rl y1) rl) := M16.out.keep d19
  have K19 : Hid (Below w1.heap.size w1 w19) := K16.out.trans (d19.mono K16.out.size)
  have s19 := d19.size
  clear b17 b18 b19 d19 o2 hr4 hg4 R16 Y16 O16 M16 K16 K17
  go_upto_region 25 with fail
  rw [← hw19]
  clear hw19
  have k0 := rowFacts H19.out 0 _ rfl
  have k1 := rowFacts H19.out 1 _ rfl
  have k2 := rowFacts H19.out 2 _ rfl
  have k3 := rowFacts H19.out 3 _ rfl
  have k4 := rowFacts H19.out 4 _ rfl
  have k5 := rowFacts H19.out 5 _ rfl
  have k6 := rowFacts H19.out 6 _ rfl
  have d0 := rowFacts R19.out 0 _ rfl
  have d1 := rowFacts R19.out 1 _ rfl
  have d2 := rowFacts R19.out 2 _ rfl
  have d3 := rowFacts R19.out 3 _ rfl
  have d4 := rowFacts R19.out 4 _ rfl
  have d5 := rowFacts R19.out 5 _ rfl
  have d6 := rowFacts R19.out 6 _ rfl
  go_wp2_with fail
  refine (HER'.out _ _ _ _ _ Q19.out.ints O19.out.ints).mono ?_
  rintro e w20 ⟨rfl, b20⟩
  have s20 := b20.size
  have Y20 : Hid (w20.heap[w8.heap.size]? = some (.cells [Value.string riss, .int .i64 rfr, .int .i64 rtill, .slice x1 rl y1, .int .i64 rsk, .int .i64 rse, .int .i64 rss].toArray 46 (0, 0))) := (b20.block _ (by omega)).trans Y19.out
  have M20 : Hid (MkL w20 (.slice x1 rl y1) rl) := M19.out.keep b20
  have K20 : Hid (Below w1.heap.size w1 w20) := K19.out.trans (b20.mono K19.out.size)
  clear b20 R19 Y19 H19 O19 Q19 M19 K19 k0 k1 k2 k3 k4 k5 k6 d0 d1 d2 d3 d4 d5 d6
  go_upto_region 28 with fail
  have k0 := rowFacts Y20.out 0 _ rfl
  have k1 := rowFacts Y20.out 1 _ rfl
  have k2 := rowFacts Y20.out 2 _ rfl
  have k3 := rowFacts Y20.out 3 _ rfl
  have k4 := rowFacts Y20.out 4 _ rfl
  have k5 := rowFacts Y20.out 5 _ rfl
  have k6 := rowFacts Y20.out 6 _ rfl
  go_wp2_with fail
  refine (HHR'.out _ _ M20.out).mono ?_
  rintro e w21 ⟨rfl, b21⟩
  have K21 : Hid (Below w1.heap.size w1 w21) := K20.out.trans (b21.mono K20.out.size)
  clear b21 k0 k1 k2 k3 k4 k5 k6
  go_wp2_with fail
  go_ret
  exact ⟨rfl, HB.out _ K21.out⟩
end Go.Proofs.YthofeoelndplpaaGreatDoor
namespace Go.Proofs.YthofeoelndplpaaGreatDoor
open Go.ChangeShapes Go.WideShapes Go.ChangeAt Go.RowKit

theorem key_gv : Tryz.prog.globalNamed "loop.example/g00371/impl.roundNumbers" = some 3 := by kernel_rfl
theorem key_gt : (Tryz.prog.globals[3]?).map (·.type) = some 150 := by kernel_rfl
theorem key_c : Tryz.prog.cellsOf 125 = 1 := by kernel_rfl
theorem keyLaid {H : Type} : (Rows.laid_loop_example_g00371_impl_roundNumbers : DataW H) = .agg (keyL.map fun n : Nat => .lit (.int .u32 (n : Int))) := rfl
theorem key_num (k : Nat) (h : k < 64) : ((keyL.getD k 0 : Nat) : Int) = uI (kAt k) := by
  have hl : k < keyL.length := h
  have hb : ∀ n ∈ keyL, n < 4294967296 := by decide
  have := hb _ (List.getElem_mem hl)
  unfold kAt uI
  rw [BitVec.toNat_ofNat, List.getD, List.getElem?_eq_getElem hl]
  simp only [Option.getD_some]
  rw [Nat.mod_eq_of_lt (by simpa using this)]
theorem keys_of_trod {W : World} {enc : TypeId × Value → Unit} {base g0 : Nat} {sp : Nat → Bool} {t0 : TypeId} {cs0 : Array Value} {f0 : Nat} {p0 : List MemPlace}
    (hg0 : Tryz.prog.globalNamed "loop.example/g00371/impl.roundNumbers" = some g0) (ht0 : (Tryz.prog.globals[g0]?).map (·.type) = some t0) (hv0 : W.var? Tryz.prog "loop.example/g00371/impl.roundNumbers" = some cs0)
    (hd0 : DataW.trod enc Tryz.prog W base sp false f0 t0 cs0.toList = some (Rows.laid_loop_example_g00371_impl_roundNumbers, p0)) : Keys W := by
  obtain rfl := Option.some.inj (key_gv.symm.trans hg0)
  obtain rfl := Option.some.inj (key_gt.symm.trans ht0)
  obtain ⟨xs, m1, rfl, hx1, hlen, hn, hel⟩ := DataW.trod_array Tryz.underlying150 hd0
  rw [keyLaid] at hx1
  simp only [Prod.mk.injEq, DataW.agg.injEq] at hx1
  intro i hi
  have h1 := hel i hi
  have hxi : i < xs.length := by omega
  rw [List.getElem?_eq_getElem hxi] at h1
  obtain ⟨k, e1, e2, _⟩ := DataW.trod_int Tryz.underlying125 h1
  have h2 : xs[i].1 = .lit (.int .u32 (uI (kAt i))) := by
    have h3 : (xs.map (·.1))[i]? = (keyL.map fun n : Nat => DataW.lit (.int .u32 (n : Int)))[i]? := by rw [← hx1.1]
    rw [List.getElem?_map, List.getElem?_map, List.getElem?_eq_getElem hxi, List.getElem?_eq_getElem (show i < keyL.length from hi)] at h3
    have h4 : xs[i].1 = _ := Option.some.inj h3
    rw [h4, ← key_num i hi, List.getD, List.getElem?_eq_getElem (show i < keyL.length from hi)]
    rfl
  rw [e2] at h2
  have hk : k = uI (kAt i) := by simpa using h2
  subst hk
  have hc := World.var?_cell hg0 hv0 i
  rw [hc]
  rw [key_c, Nat.mul_one] at e1
  have h5 := congrArg (fun l => l[0]?) e1
  simp only [List.getElem?_take, List.getElem?_drop] at h5
  simpa using h5
theorem keys_of_laid {W : World} (h : laidMetH Tryz.prog [("loop.example/g00371/impl.roundNumbers", Rows.laid_loop_example_g00371_impl_roundNumbers)] W) : Keys W := by
  rw [MakeChecks.laidMetH_plain _ _ _ (by kernel_rfl)] at h
  obtain ⟨ps, ⟨g0, t0, cs0, f0, p0, q0, hg0, ht0, hv0, hd0, _⟩, _⟩ := h
  exact keys_of_trod hg0 ht0 hv0 hd0
end Go.Proofs.YthofeoelndplpaaGreatDoor
namespace Go.Proofs.YthofeoelndplpaaGreatDoor
open Go.ChangeShapes Go.WideShapes Go.ChangeAt Go.RowKit

theorem gv_errNotRight : Tryz.prog.globalNamed "loop.example/g00371/impl.errNotRight" = some 0 := by kernel_rfl
theorem gt_errNotRight : (Tryz.prog.globals[0]?).map (·.type) = some 61 := by kernel_rfl
theorem errCells : Tryz.prog.cellsOf 174 = 1 := by kernel_rfl
theorem strCells : Tryz.prog.cellsOf 9 = 1 := by kernel_rfl
theorem errStar : "*" ++ "errors.errorString" = "*errors.errorString" := by decide
theorem errName (u : TypeId) (h : Tryz.prog.typeName? 3 u = some "*errors.errorString") : u = 159 :=
  typeName_ptr_named (nm := "errors.errorString") (by rw [errStar]; kernel_rfl) (by kernel_rfl) (by decide) u (by rw [errStar]; exact h)
set_option maxRecDepth 100000 in
set_option maxHeartbeats 2000000 in
theorem laid_T1 {W : World} (h : laidMetH Tryz.prog [("loop.example/g00371/impl.roundNumbers", Rows.laid_loop_example_g00371_impl_roundNumbers), ("loop.example/g00371/impl.errNotRight", Rows.laid_loop_example_g00371_impl_errNotRight)] W) : Keys W ∧ Err1 W := by
  rw [MakeChecks.laidMetH_plain _ _ _ (by kernel_rfl)] at h
  obtain ⟨ps, ⟨gT, tT, csT, fT, pT, qT, hgT, htT, hvT, hdT, ⟨g1, t1, cs1, f1, p1, q1, hg1, ht1, hv1, hd1, hn, e1⟩, eT⟩, hnd, hrows⟩ := h
  have kT := keys_of_trod hgT htT hvT hdT
  obtain rfl := Option.some.inj (gv_errNotRight.symm.trans hg1)
  obtain rfl := Option.some.inj (gt_errNotRight.symm.trans ht1)
  subst e1
  subst eT
  obtain ⟨l1⟩ := cs1
  have ok1 : ∀ u v, l1 = [.iface u v] → Value.okWide Tryz.prog W .any 0 u v := fun u v e => by
    subst e
    exact (hrows 0 0 (by simp [MemPlace.row])).2 u v (by simpa using World.var?_cell hg1 hv1 0)
  obtain ⟨a1, s1, rfl, _, _, _, rfl⟩ := errorString_of_trod Tryz.underlying61 errName Tryz.underlying159 Tryz.underlying174 rfl rfl Tryz.underlying9 errCells strCells hd1 ok1
  obtain ⟨c1, y1, hb1⟩ := (hrows a1.block a1.off (by simp [MemPlace.row])).1
  have E1 : ErrV 0 W a1 := ⟨by simpa using World.var?_cell hg1 hv1 0, c1, y1, hb1⟩
  exact ⟨kT, _, E1⟩
end Go.Proofs.YthofeoelndplpaaGreatDoor
namespace Go.Proofs.YthofeoelndplpaaGreatDoor

theorem trodVars_len {H : Type} {enc : TypeId × Value → H} {P : Program} {w : World} {spare : Nat → Bool} : ∀ {ns : List String} {gs : List (DataW H)} {ps : List MemPlace}, DataW.TrodVars enc P w spare ns gs ps → gs.length = ns.length
  | [], [], _, _ => rfl
  | [], _ :: _, _, h => by simp [DataW.TrodVars] at h
  | _ :: _, [], _, h => by simp [DataW.TrodVars] at h
  | _ :: _, _ :: _, _, h => by
    obtain ⟨g, t, cs, fuel, p, q, _, _, _, _, hs, _⟩ := h
    simp only [List.length_cons, trodVars_len hs]
end Go.Proofs.YthofeoelndplpaaGreatDoor
