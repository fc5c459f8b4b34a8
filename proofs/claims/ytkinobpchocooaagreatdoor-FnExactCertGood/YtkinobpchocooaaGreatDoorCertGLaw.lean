/- FnExactCertGood, its tied card: at every key and paper CertGood answers as the specification's; it writes into no argument. The listed table is tied to the program's text; no other condition. -/
import Derived.Test.YtkinobpchocooaaGreatDoorCGd10
import Derived.Test.YtkinobpchocooaaGreatDoorCGd15
import Derived.Test.YtkinobpchocooaaGreatDoorCards
import Derived.Test.YtkinobpchocooaaGreatDoorTie
import Derived.SevenTiedAt
import Derived.Test.YtkinobpchocooaaGreatDoorCGd16
import Derived.Test.YtkinobpchocooaaGreatDoorCGd17
import Derived.ProofKit
import Derived.OpenShut
import Derived.ShutString
import Derived.ChangeOld
import Derived.Below
import Derived.Deep.RegionHeld3
namespace Go.Proofs.YtkinobpchocooaaGreatDoor
open Go.RowKit

set_option linter.unusedSimpArgs false in
set_option maxHeartbeats 4000000 in
set_option maxRecDepth 100000 in
theorem certGoodWalk (w : World) (k : Int) (_ : (Lit.int .i64 k).wf = true) (c : Paper) (a : Option Addr) (cap : Nat) (h : Came w c a) (hk : Keys w) :
    Calls Tryz.prog 3 #[.int .i64 k, c.val (.slice a c.names.length cap)] w fun e w' => e = .returned (.bool true) ∧ Below w.heap.size w w' := by
  have HZ : Hid (∀ V, IsStrs V a c.names → Calls Tryz.prog 4 #[c.val (.slice a c.names.length cap), .int .i64 1048576] V fun e w' => ∃ x : Int, e = .returned (.int .i64 x) ∧ (x < 0 ∨ c.Small) ∧ -1 ≤ x ∧ x ≤ 1048576 ∧ Below V.heap.size V w') := fun V hV => szCert c a cap V h.iss h.sub h.len h.each hV
  have HT : Hid (c.Small → ∀ V, IsStrs V a c.names → Calls Tryz.prog 6 #[c.val (.slice a c.names.length cap)] V fun e w' => ∃ g, e = .returned (c.val (.slice (some ⟨g, 0, none⟩) c.names.length c.names.length)) ∧ V.heap.size ≤ g ∧ w'.heap[g]? = some (.cells (sCells c.names).toArray 9 (0, 0)) ∧ Below V.heap.size V w') := fun hs V hV => toCert c a cap V hs.2.2.1 hV
  have HS : Hid (c.Small → ∀ V g, IsStrs V (some ⟨g, 0, none⟩) c.names → Calls Tryz.prog 5 #[.int .i64 k, c.val (.slice (some ⟨g, 0, none⟩) c.names.length c.names.length)] V fun e w' => e = .returned (.bool (goodB k c)) ∧ Below V.heap.size V w') := fun hs V g hV => specGood k c _ _ V h.iss h.sub hs.2.2.1 hs.2.2.2 hV
  have HI : Hid (c.Small → ∀ V g, Keys V → IsStrs V (some ⟨g, 0, none⟩) c.names → Calls Tryz.prog 7 #[.int .i64 k, c.val (.slice (some ⟨g, 0, none⟩) c.names.length c.names.length)] V fun e w' => e = .returned (.bool (goodB k c)) ∧ Below V.heap.size V w') := fun hs V g hKV hV => implGood k c _ _ V h.iss h.sub hs.2.2.1 hs.2.2.2 hV hKV
  have HE : Hid (c.Small → ∀ V g k, IsStrs V (some ⟨g, 0, none⟩) c.names → IsStrs V (some ⟨k, 0, none⟩) c.names → Calls Tryz.prog 8 #[c.val (.slice (some ⟨g, 0, none⟩) c.names.length c.names.length), c.val (.slice (some ⟨k, 0, none⟩) c.names.length c.names.length)] V fun e w' => e = .returned (.bool true) ∧ Below V.heap.size V w') := fun hs V g k h1 h2 => eqCert c _ _ _ _ V hs.2.2.1 h1 h2
  have ha := h.strs
  have hkp := hk.pos
  have HKy : Hid (∀ V, Below w.heap.size w V → Keys V) := fun V hV => hk.below hV hkp
  clear h hk
  generalize goodB k c = R at *
  generalize Paper.Small c = Sm at *
  obtain ⟨ser, iss, sub, fr, till, key, names, ca, sk, se, ss⟩ := c
  unfold Paper.val at *
  simp only at HZ HT HS HI HE ha ⊢
  generalize names.length = nl at *
  obtain ⟨w1, hw1⟩ : ∃ w1, w1 = w.alloc (.cells #[.int .i64 ser, .string iss, .string sub, .int .i64 fr, .int .i64 till, .int .i64 key, .slice a nl cap, .bool ca, .int .i64 sk, .int .i64 se, .int .i64 ss] 26 (0, 0)) := ⟨_, rfl⟩
  have r0 : w1.heap[w.heap.size]? = some (.cells [Value.int .i64 ser, .string iss, .string sub, .int .i64 fr, .int .i64 till, .int .i64 key, .slice a nl cap, .bool ca, .int .i64 sk, .int .i64 se, .int .i64 ss].toArray 26 (0, 0)) := by rw [hw1]; exact heap_alloc_new w _
  have B1 : Hid (Below w.heap.size w w1) := by rw [hw1]; exact (Below.refl _ _).alloc (Nat.le_refl _) _
  have z1 : w.heap.size < w1.heap.size := by rw [hw1]; simp
  have HK : Hid (∀ V, Below w1.heap.size w1 V → V.cell? ⟨w.heap.size, 0, none⟩ = some (.int .i64 ser) ∧ V.cell? ⟨w.heap.size, 1, none⟩ = some (.string iss) ∧ V.cell? ⟨w.heap.size, 2, none⟩ = some (.string sub) ∧ V.cell? ⟨w.heap.size, 3, none⟩ = some (.int .i64 fr) ∧ V.cell? ⟨w.heap.size, 4, none⟩ = some (.int .i64 till) ∧ V.cell? ⟨w.heap.size, 5, none⟩ = some (.int .i64 key) ∧ V.cell? ⟨w.heap.size, 6, none⟩ = some (.slice a nl cap) ∧ V.cell? ⟨w.heap.size, 7, none⟩ = some (.bool ca) ∧ V.cell? ⟨w.heap.size, 8, none⟩ = some (.int .i64 sk) ∧ V.cell? ⟨w.heap.size, 9, none⟩ = some (.int .i64 se) ∧ V.cell? ⟨w.heap.size, 10, none⟩ = some (.int .i64 ss)) := fun V hV => by
    have hP := (hV.block _ z1).trans r0
    exact ⟨rowFacts hP 0 _ rfl, rowFacts hP 1 _ rfl, rowFacts hP 2 _ rfl, rowFacts hP 3 _ rfl, rowFacts hP 4 _ rfl, rowFacts hP 5 _ rfl, rowFacts hP 6 _ rfl, rowFacts hP 7 _ rfl, rowFacts hP 8 _ rfl, rowFacts hP 9 _ rfl, rowFacts hP 10 _ rfl⟩
  have HA : Hid (∀ V, Below w.heap.size w V → IsStrs V a names) := fun V hV => ha.keep hV
  have Z1 : Hid (w.heap.size < w1.heap.size) := z1
  clear r0 ha z1
  go_enter Tryz.func3, Tryz.ntmps3
  go_upto_region 2 with fail
  rw [← hw1]
  clear hw1
  obtain ⟨c0, c1, c2, c3, c4, c5, c6, c7, c8, c9, c10⟩ := HK.out w1 (Below.refl _ _)
  go_wp2_with fail
  refine (HZ.out _ (HA.out _ B1.out)).mono ?_
  rintro e w2 ⟨x, rfl, hx, hx0, hx1, b2⟩
  have K2 : Hid (Below w1.heap.size w1 w2) := b2
  clear b2 c0 c1 c2 c3 c4 c5 c6 c7 c8 c9 c10
  have HB : Hid (∀ V, Below w1.heap.size w1 V → Below w.heap.size w V) := fun V hV => B1.out.trans (hV.mono B1.out.size)
  by_cases hneg : x < 0
  · go_wp2
    go_ret
    exact ⟨rfl, HB.out _ K2.out⟩
  have hSm : Sm := by rcases hx with h | h
                      · exact absurd h hneg
                      · exact h
  have T1 := HT.out hSm
  have HT' : Hid _ := T1
  have S1 := HS.out hSm
  have HS' : Hid _ := S1
  have I1 := HI.out hSm
  have HI' : Hid _ := I1
  have E1 := HE.out hSm
  have HE' : Hid _ := E1
  clear T1 S1 I1 E1 HT HS HI HE HZ hx hSm
  obtain ⟨c0, c1, c2, c3, c4, c5, c6, c7, c8, c9, c10⟩ := HK.out w2 K2.out
  go_wp2_with fail
  refine (HT'.out _ (HA.out _ (HB.out _ K2.out))).mono ?_
  rintro e w3 ⟨g1, rfl, hg1, hr1, b3⟩
  have K3 : Hid (Below w1.heap.size w1 w3) := K2.out.trans (b3.mono K2.out.size)
  have A3 : Hid (IsStrs w3 (some ⟨g1, 0, none⟩) names) := IsStrs.row hr1
  clear b3 hr1 hg1 c0 c1 c2 c3 c4 c5 c6 c7 c8 c9 c10
  go_wp2_with fail
  refine (HS'.out _ g1 A3.out).mono ?_
  rintro e w4 ⟨rfl, b4⟩
  have K4 : Hid (Below w1.heap.size w1 w4) := K3.out.trans (b4.mono K3.out.size)
  clear b4 A3 K3 K2
  obtain ⟨c0, c1, c2, c3, c4, c5, c6, c7, c8, c9, c10⟩ := HK.out w4 K4.out
  go_wp2_with fail
  refine (HT'.out _ (HA.out _ (HB.out _ K4.out))).mono ?_
  rintro e w5 ⟨g2, rfl, hg2, hr2, b5⟩
  have K5 : Hid (Below w1.heap.size w1 w5) := K4.out.trans (b5.mono K4.out.size)
  clear b5 hg2 c0 c1 c2 c3 c4 c5 c6 c7 c8 c9 c10
  obtain ⟨w6, hw6⟩ : ∃ w6, w6 = w5.alloc (.cells #[.int .i64 ser, .string iss, .string sub, .int .i64 fr, .int .i64 till, .int .i64 key, .slice (some ⟨g2, 0, none⟩) nl nl, .bool ca, .int .i64 sk, .int .i64 se, .int .i64 ss] 31 (0, 0)) := ⟨_, rfl⟩
  have q0 : w6.heap[w5.heap.size]? = some (.cells [Value.int .i64 ser, .string iss, .string sub, .int .i64 fr, .int .i64 till, .int .i64 key, .slice (some ⟨g2, 0, none⟩) nl nl, .bool ca, .int .i64 sk, .int .i64 se, .int .i64 ss].toArray 31 (0, 0)) := by rw [hw6]; exact heap_alloc_new w5 _
  have b6 : Below w5.heap.size w5 w6 := by rw [hw6]; exact (Below.refl _ _).alloc (Nat.le_refl _) _
  have K6 : Hid (Below w1.heap.size w1 w6) := K5.out.trans (b6.mono K5.out.size)
  have A6 : Hid (IsStrs w6 (some ⟨g2, 0, none⟩) names) := (IsStrs.row hr2).keep b6
  have z6 : w5.heap.size < w6.heap.size := by rw [hw6]; simp
  have HX : Hid (∀ V, Below w6.heap.size w6 V → V.cell? ⟨w5.heap.size, 0, none⟩ = some (.int .i64 ser) ∧ V.cell? ⟨w5.heap.size, 1, none⟩ = some (.string iss) ∧ V.cell? ⟨w5.heap.size, 2, none⟩ = some (.string sub) ∧ V.cell? ⟨w5.heap.size, 3, none⟩ = some (.int .i64 fr) ∧ V.cell? ⟨w5.heap.size, 4, none⟩ = some (.int .i64 till) ∧ V.cell? ⟨w5.heap.size, 5, none⟩ = some (.int .i64 key) ∧ V.cell? ⟨w5.heap.size, 6, none⟩ = some (.slice (some ⟨g2, 0, none⟩) nl nl) ∧ V.cell? ⟨w5.heap.size, 7, none⟩ = some (.bool ca) ∧ V.cell? ⟨w5.heap.size, 8, none⟩ = some (.int .i64 sk) ∧ V.cell? ⟨w5.heap.size, 9, none⟩ = some (.int .i64 se) ∧ V.cell? ⟨w5.heap.size, 10, none⟩ = some (.int .i64 ss)) := fun V hV => by
    have hP := (hV.block _ z6).trans q0
    exact ⟨rowFacts hP 0 _ rfl, rowFacts hP 1 _ rfl, rowFacts hP 2 _ rfl, rowFacts hP 3 _ rfl, rowFacts hP 4 _ rfl, rowFacts hP 5 _ rfl, rowFacts hP 6 _ rfl, rowFacts hP 7 _ rfl, rowFacts hP 8 _ rfl, rowFacts hP 9 _ rfl, rowFacts hP 10 _ rfl⟩
  clear q0 b6 hr2 K5 K4 z6
  go_upto_region 7 with fail
  rw [← hw6]
  clear hw6
  obtain ⟨d0, d1, d2, d3, d4, d5, d6, d7, d8, d9, d10⟩ := HX.out w6 (Below.refl _ _)
  go_wp2_with fail
  refine (HI'.out _ g2 (HKy.out _ (HB.out _ K6.out)) A6.out).mono ?_
  rintro e w7 ⟨rfl, b7⟩
  have J7 : Hid (Below w6.heap.size w6 w7) := b7
  clear b7 d0 d1 d2 d3 d4 d5 d6 d7 d8 d9 d10
  have HQ : Hid (∀ V, Below w6.heap.size w6 V → Below w1.heap.size w1 V) := fun V hV => K6.out.trans (hV.mono K6.out.size)
  have hRR : (R != R) = false := by simp
  go_upto_region 10 with fail
  have HSS : Hid (∀ V, Below w6.heap.size w6 V → (V.cell? ⟨w5.heap.size, 0, none⟩ = some (.int .i64 ser) ∧ V.cell? ⟨w5.heap.size, 1, none⟩ = some (.string iss) ∧ V.cell? ⟨w5.heap.size, 2, none⟩ = some (.string sub) ∧ V.cell? ⟨w5.heap.size, 3, none⟩ = some (.int .i64 fr) ∧ V.cell? ⟨w5.heap.size, 4, none⟩ = some (.int .i64 till) ∧ V.cell? ⟨w5.heap.size, 5, none⟩ = some (.int .i64 key) ∧ V.cell? ⟨w5.heap.size, 6, none⟩ = some (.slice (some ⟨g2, 0, none⟩) nl nl) ∧ V.cell? ⟨w5.heap.size, 7, none⟩ = some (.bool ca) ∧ V.cell? ⟨w5.heap.size, 8, none⟩ = some (.int .i64 sk) ∧ V.cell? ⟨w5.heap.size, 9, none⟩ = some (.int .i64 se) ∧ V.cell? ⟨w5.heap.size, 10, none⟩ = some (.int .i64 ss)) ∧ (V.cell? ⟨w.heap.size, 0, none⟩ = some (.int .i64 ser) ∧ V.cell? ⟨w.heap.size, 1, none⟩ = some (.string iss) ∧ V.cell? ⟨w.heap.size, 2, none⟩ = some (.string sub) ∧ V.cell? ⟨w.heap.size, 3, none⟩ = some (.int .i64 fr) ∧ V.cell? ⟨w.heap.size, 4, none⟩ = some (.int .i64 till) ∧ V.cell? ⟨w.heap.size, 5, none⟩ = some (.int .i64 key) ∧ V.cell? ⟨w.heap.size, 6, none⟩ = some (.slice a nl cap) ∧ V.cell? ⟨w.heap.size, 7, none⟩ = some (.bool ca) ∧ V.cell? ⟨w.heap.size, 8, none⟩ = some (.int .i64 sk) ∧ V.cell? ⟨w.heap.size, 9, none⟩ = some (.int .i64 se) ∧ V.cell? ⟨w.heap.size, 10, none⟩ = some (.int .i64 ss))) := fun V hV => ⟨HX.out V hV, HK.out V (HQ.out V hV)⟩
  have D7 : Hid (Below w6.heap.size w6 w7.drew) := J7.out.drew
  refine wp_region_held_drew (S := fun V => (V.cell? ⟨w5.heap.size, 0, none⟩ = some (.int .i64 ser) ∧ V.cell? ⟨w5.heap.size, 1, none⟩ = some (.string iss) ∧ V.cell? ⟨w5.heap.size, 2, none⟩ = some (.string sub) ∧ V.cell? ⟨w5.heap.size, 3, none⟩ = some (.int .i64 fr) ∧ V.cell? ⟨w5.heap.size, 4, none⟩ = some (.int .i64 till) ∧ V.cell? ⟨w5.heap.size, 5, none⟩ = some (.int .i64 key) ∧ V.cell? ⟨w5.heap.size, 6, none⟩ = some (.slice (some ⟨g2, 0, none⟩) nl nl) ∧ V.cell? ⟨w5.heap.size, 7, none⟩ = some (.bool ca) ∧ V.cell? ⟨w5.heap.size, 8, none⟩ = some (.int .i64 sk) ∧ V.cell? ⟨w5.heap.size, 9, none⟩ = some (.int .i64 se) ∧ V.cell? ⟨w5.heap.size, 10, none⟩ = some (.int .i64 ss)) ∧ (V.cell? ⟨w.heap.size, 0, none⟩ = some (.int .i64 ser) ∧ V.cell? ⟨w.heap.size, 1, none⟩ = some (.string iss) ∧ V.cell? ⟨w.heap.size, 2, none⟩ = some (.string sub) ∧ V.cell? ⟨w.heap.size, 3, none⟩ = some (.int .i64 fr) ∧ V.cell? ⟨w.heap.size, 4, none⟩ = some (.int .i64 till) ∧ V.cell? ⟨w.heap.size, 5, none⟩ = some (.int .i64 key) ∧ V.cell? ⟨w.heap.size, 6, none⟩ = some (.slice a nl cap) ∧ V.cell? ⟨w.heap.size, 7, none⟩ = some (.bool ca) ∧ V.cell? ⟨w.heap.size, 8, none⟩ = some (.int .i64 sk) ∧ V.cell? ⟨w.heap.size, 9, none⟩ = some (.int .i64 se) ∧ V.cell? ⟨w.heap.size, 10, none⟩ = some (.int .i64 ss))) (by kernel_rfl) ?_ (fun hHeld => ?_)
  · exact HSS.out _ D7.out
  refine wpAnyH_take (i := 0) (oi := ⟨some 26, _, _, _, _, _⟩) (v := ?_) rfl (by kernel_rfl) (by kernel_rfl) (by kernel_rfl) (fun _ _ _ h => h) (Or.inl ⟨by kernel_rfl, ?_⟩) (by assumption) ?_
  rotate_left
  · (intro w hSw; (try dsimp only at hSw); go_simp; try with_reducible rfl)
  (try simp only [Act.put, List.setIfInBounds_toArray, List.set_cons_zero, List.set_cons_succ])
  refine wpAnyH_take (i := 1) (oi := ⟨some 27, _, _, _, _, _⟩) (v := ?_) rfl (by kernel_rfl) (by kernel_rfl) (by kernel_rfl) (fun _ _ _ h => h) (Or.inl ⟨by kernel_rfl, ?_⟩) (by assumption) ?_
  rotate_left
  · (intro w hSw; (try dsimp only at hSw); go_simp; try with_reducible rfl)
  (try simp only [Act.put, List.setIfInBounds_toArray, List.set_cons_zero, List.set_cons_succ])
  refine wpAnyH_ready (rs := [2]) (by kernel_rfl) (by simp) ?_
  refine AllReadyH.cons (o := ⟨some 28, _, _, _, _, _⟩) rfl (fun K hK => ?_) AllReadyH.nil
  go_simp
  refine (HT'.out _ (HA.out _ (HB.out _ (HQ.out _ D7.out)))).mono ?_
  rintro e w8 ⟨g3, rfl, hg3, hr3, b8⟩
  have J8 : Hid (Below w6.heap.size w6 w8) := D7.out.trans (b8.mono D7.out.size)
  have A8 : Hid (IsStrs w8 (some ⟨g3, 0, none⟩) names) := IsStrs.row hr3
  refine hK.out _ _ ?_ (fun hHeld => ?_)
  · exact HSS.out _ J8.out
  clear hK K b8 hr3
  (try simp only [Act.put, List.setIfInBounds_toArray, List.set_cons_zero, List.set_cons_succ])
  refine wpAnyH_ready (rs := [3]) (by kernel_rfl) (by simp) ?_
  refine AllReadyH.cons (o := ⟨some 29, _, _, _, _, _⟩) rfl (fun K hK => ?_) AllReadyH.nil
  go_simp
  refine (HE'.out _ g2 g3 (A6.out.keep J8.out) A8.out).mono ?_
  rintro e w9 ⟨rfl, b9⟩
  have J9 : Hid (Below w6.heap.size w6 w9) := J8.out.trans (b9.mono J8.out.size)
  refine hK.out _ _ ?_ (fun hHeld => ?_)
  · exact HSS.out _ J9.out
  clear hK K b9
  (try simp only [Act.put, List.setIfInBounds_toArray, List.set_cons_zero, List.set_cons_succ])
  refine wpAnyH_take (i := 4) (oi := ⟨some 30, _, _, _, _, _⟩) (v := ?_) rfl (by kernel_rfl) (by kernel_rfl) (by kernel_rfl) (fun _ _ _ h => h) (Or.inl ⟨by kernel_rfl, ?_⟩) (by assumption) ?_
  rotate_left
  · (intro w hSw; (try dsimp only at hSw); go_simp; try with_reducible rfl)
  (try simp only [Act.put, List.setIfInBounds_toArray, List.set_cons_zero, List.set_cons_succ])
  refine wpAnyH_done (by kernel_rfl) ?_ _
  go_wp2
  go_ret
  exact ⟨rfl, HB.out _ (HQ.out _ J9.out)⟩
namespace fnExactCertGoodDone
open Go.ChangeShapes Go.WideShapes Go.ChangeAt Go.RowKit
open Go.ChangeMaps (open_string shut_string)
theorem own : ownKnob Tryz.prog.godebug = none := by kernel_rfl
theorem laidOut : laidOutB Tryz.prog = true := by kernel_rfl
set_option linter.unusedVariables false
theorem laid_met (os : Os) (args : Array Value) : laidMetH Tryz.prog Rows.fnExactCertGoodRow.laid ((World.doorLaid Tryz.prog 400 os).forCall (fun _ _ => 0) ⟨#[], args, []⟩).memory :=
  laidMetH_of_parts3 (fuel := 8) (laidMet_of_run' 8 (by kernel_rfl) (by kernel_rfl)) (by kernel_rfl) (by kernel_rfl)
set_option maxRecDepth 100000 in
theorem lifted (os : Os) (started : os.Started) (H : Type) (enc : TypeId × Value → H) :
    ReturnsInHanded {} Tryz.checked os 3 .any (fun w args => (Rows.fnExactCertGoodSpec.pre enc Tryz.prog Tryz.f3 [] false w args ∧ laidMetH Tryz.prog Rows.fnExactCertGoodRow.laid w) ∧ sizedMet enc Tryz.prog Tryz.f3 (OpenSpec.ofChange Rows.fnExactCertGoodSpec) false w args)
      (Rows.fnExactCertGoodSpec.post enc Tryz.prog Tryz.f3 false true false false) := by
  refine returnsInHanded_of_change_and (C := Tryz.checked) (X := fun w _ => laidMetH Tryz.prog Rows.fnExactCertGoodRow.laid w) (fun _ _ _ hh h => h.of_heap hh) own started (by kernel_rfl) Tryz.func3
    (ChangeSpec.witness_shaped (enc := enc) (C := Tryz.checked) (os := os) (X := fun w _ => laidMetH Tryz.prog Rows.fnExactCertGoodRow.laid w) false (World.doorLaid Tryz.prog 400 os) #[.int .i64 0, .agg #[.int .i64 0, .string ByteArray.empty, .string ByteArray.empty, .int .i64 0, .int .i64 0, .int .i64 0, .slice none 0 0, .bool false, .int .i64 0, .int .i64 0, .int .i64 0]] 8 rfl (World.shaped_of_RefB (by kernel_rfl) (by kernel_rfl)) (by kernel_rfl) (by kernel_rfl) (by kernel_rfl) (laid_met os _)) ?_
  intro W base args ds gs before hval0 hW _ _ hL _
  have hval : ∀ (j : Nat) t v, Tryz.f3.params[j]? = some t → args[j]? = some v → Value.okWide Tryz.prog W .any base t v := hval0
  have hW' := hW
  obtain ⟨p, q, hA0, hV, rfl, hfz, hnd⟩ := hW
  have hV0 := hV
  obtain ⟨_, _, _, _, dv, _, rfl, _⟩ := trodVars_one hV
  have hA : DataW.TrodAll enc Tryz.prog W 0 (fun _ => true) true Tryz.f3.params.toList args.toList ds p := hA0
  rw [Tryz.params3] at hA hval
  obtain ⟨v0, vs0, d0, ds0, p0, q0, hargs, rfl, rfl, h0, r0⟩ := trodAll_cons hA
  obtain ⟨v1, vs1, d1, ds1, p1, q1, rfl, rfl, rfl, h1, r1⟩ := trodAll_cons r0
  obtain ⟨rfl, rfl, rfl⟩ := trodAll_nil r1
  obtain rfl : args = #[v0, v1] := by cases args; simp_all
  obtain ⟨a0, rfl, rfl, rfl, w0⟩ := open_int Tryz.underlying2 (hval 0 2 v0 rfl rfl) h0
  have k1 := h1
  have lt1 : ∀ x ∈ p1, x.block < W.heap.size := by obtain ⟨m, hm⟩ := k1; exact DataW.trod_lt m _ _ _ hm
  obtain ⟨c1, a1, cap1, rfl, w1⟩ := openCert (hval 1 26 v1 rfl rfl) h1
  clear hA0 hval0
  refine (certGoodWalk W a0 w0 c1 a1 cap1 w1 (keys_of_laid hL)).mono fun e W' ⟨he, bel⟩ => ?_
  subst he
  exact ⟨_, rfl, _, _, _, [], _, _, hW', trodAll_mk1 (shut_bool Tryz.underlying4 _), (trodAll_cons_mk (shut_int Tryz.underlying2 w0) (trodAll_cons_mk (Below.trod laidOut (by kernel_rfl) (of_decide_eq_true (by kernel_rfl)) k1 bel lt1) trodAll_mk0)), bel.trodVars laidOut (by kernel_rfl) hV0, bel.frame _, fun h => by cases h⟩
set_option maxHeartbeats 8000000 in
theorem said : Rows.FnExactCertGoodSaid :=
  OpenClaim.holds_of_wide 3 Tryz.f3 rfl rfl rfl rfl rfl rfl rfl ⟨rfl, rfl, rfl, rfl, rfl⟩ rfl rfl rfl rfl rfl (by as_aux_lemma => kernel_rfl) Tryz.func3 (by as_aux_lemma => kernel_rfl)
    (of_decide_eq_true (by as_aux_lemma => kernel_rfl)) (by unfold Func.isWrapper; first | (rw [if_pos (by decide +kernel)]; kernel_rfl) | (rw [if_neg (by decide +kernel)]; exact ⟨rfl, rfl⟩))
    (fun os started H enc _ => lifted os started H enc)
theorem plain (f : FuncId) (fn : Func) (hf : Tryz.pinned.checked.prog.funcNamed "loop.example/g00371/laws.FnExactCertGood" = some f) (hfn : Tryz.pinned.checked.prog.funcs[f]? = some fn) :
    true = Tryz.pinned.checked.prog.looks [] ∧ ∀ (j : Nat) t, fn.params[j]? = some t → Tryz.pinned.checked.prog.wantsStandIn t = false := by
  obtain rfl : f = 3 := Option.some.inj ((show Tryz.prog.funcNamed "loop.example/g00371/laws.FnExactCertGood" = some 3 by kernel_rfl).symm.trans hf) |>.symm
  obtain rfl : fn = Tryz.f3 := (Option.some.inj (Tryz.func3.symm.trans hfn)).symm
  refine ⟨by kernel_rfl, fun j t ht => ?_⟩
  rw [Tryz.params3] at ht
  have hm : t = 2 ∨ t = 26 := by simpa using Array.mem_of_getElem? ht
  rcases hm with rfl | rfl <;> (show _ = _; kernel_rfl)
end fnExactCertGoodDone
theorem fnExactCertGood_card : Rows.FnExactCertGoodCardSaid :=
  Claim7.holds_tied_plain_at .later [] _ _ _ _ fnExactCertGoodDone.said (fun _ h => by cases h) (by kernel_rfl) (fun _ h => by cases h) fnExactCertGood_row_tie rfl ⟨rfl, rfl⟩ (by kernel_rfl) rfl fnExactCertGoodDone.plain (by kernel_rfl)
#print axioms fnExactCertGood_card
end Go.Proofs.YtkinobpchocooaaGreatDoor
