/- FnExactCertBytes: at every paper CertBytes answers as the specification's; it writes into no argument. No condition. -/
import Derived.Test.YtfhihhkdbdidnaaPBy05
import Derived.Test.YtfhihhkdbdidnaaPBy10
import Derived.Test.YtfhihhkdbdidnaaPBy11
import Derived.ProofKit
import Derived.OpenShut
import Derived.ShutString
import Derived.ChangeOld
import Derived.Below
import Derived.Deep.RegionHeld3
namespace Go.Proofs.Ytfhihhkdbdidnaa
open Go.RowKit

set_option linter.unusedSimpArgs false in
set_option maxHeartbeats 4000000 in
set_option maxRecDepth 100000 in
theorem certBytesWalk (w : World) (c : Paper) (a : Option Addr) (cap : Nat) (h : Came w c a) :
    Calls Try.prog 5 #[c.val (.slice a c.names.length cap)] w fun e w' => e = .returned (.bool true) ∧ Below w.heap.size w w' := by
  have HZ : Hid (∀ V, IsStrs V a c.names → Calls Try.prog 6 #[c.val (.slice a c.names.length cap), .int .i64 1048576] V fun e w' => ∃ x : Int, e = .returned (.int .i64 x) ∧ (x < 0 ∨ c.Small) ∧ -1 ≤ x ∧ x ≤ 1048576 ∧ Below V.heap.size V w') := fun V hV => szCert c a cap V h.iss h.sub h.len h.each hV
  have HT : Hid (c.Small → ∀ V, IsStrs V a c.names → Calls Try.prog 8 #[c.val (.slice a c.names.length cap)] V fun e w' => ∃ g, e = .returned (c.val (.slice (some ⟨g, 0, none⟩) c.names.length c.names.length)) ∧ V.heap.size ≤ g ∧ w'.heap[g]? = some (.cells (sCells c.names).toArray 9 (0, 0)) ∧ Below V.heap.size V w') := fun hs V hV => toCert c a cap V hs.2.2.1 hV
  have HS : Hid (c.Small → ∀ V g, IsStrs V (some ⟨g, 0, none⟩) c.names → Calls Try.prog 13 #[c.val (.slice (some ⟨g, 0, none⟩) c.names.length c.names.length)] V fun e w' => e = .returned (.string (certBytesD c)) ∧ Below V.heap.size V w') := fun hs V g hV => specCertBytes c _ _ V h.iss h.sub hs.2.2.1 hs.2.2.2 hV
  have HI : Hid (c.Small → ∀ V g, IsStrs V (some ⟨g, 0, none⟩) c.names → Calls Try.prog 14 #[c.val (.slice (some ⟨g, 0, none⟩) c.names.length c.names.length)] V fun e w' => e = .returned (.string (certBytesD c)) ∧ Below V.heap.size V w') := fun hs V g hV => implCertBytes c _ _ V h.iss h.sub hs.2.2.1 hs.2.2.2 hV
  have HE : Hid (c.Small → ∀ V g k, IsStrs V (some ⟨g, 0, none⟩) c.names → IsStrs V (some ⟨k, 0, none⟩) c.names → Calls Try.prog 10 #[c.val (.slice (some ⟨g, 0, none⟩) c.names.length c.names.length), c.val (.slice (some ⟨k, 0, none⟩) c.names.length c.names.length)] V fun e w' => e = .returned (.bool true) ∧ Below V.heap.size V w') := fun hs V g k h1 h2 => eqCert c _ _ _ _ V hs.2.2.1 h1 h2
  have ha := h.strs
  clear h
  generalize certBytesD c = R at *
  generalize Paper.Small c = Sm at *
  obtain ⟨ser, iss, sub, fr, till, key, names, ca, sk, se, ss⟩ := c
  unfold Paper.val at *
  simp only at HZ HT HS HI HE ha ⊢
  generalize names.length = nl at *
  obtain ⟨w1, hw1⟩ : ∃ w1, w1 = w.alloc (.cells #[.int .i64 ser, .string iss, .string sub, .int .i64 fr, .int .i64 till, .int .i64 key, .slice a nl cap, .bool ca, .int .i64 sk, .int .i64 se, .int .i64 ss] 26 (0, 0)) := ⟨_, rfl⟩
  have r0 : w1.heap[w.heap.size]? = some (.cells [Value.int .i64 ser, .string iss, .string sub, .int .i64 fr, .int .i64 till, .int .i64 key, .slice a nl cap, .bool ca, .int .i64 sk, .int .i64 se, .int .i64 ss].toArray 26 (0, 0)) := by rw [hw1]; exact heap_alloc_new w _
  have B1 : Hid (Below w.heap.size w w1) := by rw [hw1]; exact (Below.refl _ _).alloc (Nat.le_refl _) _
  have z1 : w.heap.size < w1.heap.size := by rw [hw1]; simp
  have HK : Hid (∀ V, Below w1.heap.size w1 V → V.cell? ⟨w.heap.size, 0, none⟩ = some (.int .i64 ser) ∧ V.cell? ⟨w.heap.size, 1, none⟩ = some (.string iss) ∧ V.cell? ⟨w.heap.size, 2, none⟩ = some (.string sub) ∧ V.cell? ⟨w.heap.size, 3, none⟩ = some (.int .i64 fr) ∧ V.cell? ⟨w.heap.size, 4, none⟩ = some (.int .i64 till) ∧ V.cell? ⟨w.heap.size, 5, none⟩ = some (.int .i64 key) ∧ V.cell? ⟨w.heap.size, 6, none⟩ = some (.slice a nl cap) ∧ V.cell? ⟨w.heap.size, 7, none⟩ = some (.bool ca) ∧ V.cell? ⟨w.heap.size, 8, none⟩ = some (.int .i64 sk) ∧ V.cell? ⟨w.heap.size, 9, none⟩ = some (.int .i64 se) ∧ V.cell? ⟨w.heap.size, 10, none⟩ = some (.int .i64 ss)) := fun V hV => by
    have hP := (hV.block _ z1).trans r0
    exact ⟨rowFacts hP 0 _ rfl, rowFacts hP 1 _ rfl, rowFacts hP 2 _ rfl, rowFacts hP 3 _ rfl, rowFacts hP 4 _ rfl, rowFacts hP 5 _ rfl, rowFacts hP 6 _ rfl, rowFacts hP 7 _ rfl, rowFacts hP 8 _ rfl, rowFacts hP 9 _ rfl, rowFacts hP 10 _ rfl⟩
  have HA : Hid (∀ V, Below w.heap.size w V → IsStrs V a names) := fun V hV => ha.keep hV
  have Z1 : Hid (w.heap.size < w1.heap.size) := z1
  clear r0 ha z1
  go_enter Try.func5, Try.ntmps5
  go_upto_region 2 with fail
  rw [← hw1]
  clear hw1
  obtain ⟨c0, c1, c2, c3, c4, c5, c6, c7, c8, c9, c10⟩ := HK.out w1 (Below.refl _ _)
  go_wp2_with fail
  refine (HZ.out _ (HA.out _ B1.out)).mono ?_
  rintro e w2 ⟨x, rfl, hx, hx0, hx1, b2⟩
  have K2 : Hid (Below w1.heap.size w1 w2) := b2
  clear b2 c0 c1 c2 c3 c4 c5 c6 c7 c8 c9 c10
  have HB : Hid (∀ V, Below w1.heap.size w1 V → Below w.heap.size w V) := fun V hV => B1.out.trans (hV.mono B1.out.size)
  by_cases hneg : x < 0
  · go_wp2
    go_ret
    exact ⟨rfl, HB.out _ K2.out⟩
  have hSm : Sm := by rcases hx with h | h
                      · exact absurd h hneg
                      · exact h
  have T1 := HT.out hSm
  have HT' : Hid _ := T1
  have S1 := HS.out hSm
  have HS' : Hid _ := S1
  have I1 := HI.out hSm
  have HI' : Hid _ := I1
  have E1 := HE.out hSm
  have HE' : Hid _ := E1
  clear T1 S1 I1 E1 HT HS HI HE HZ hx hSm
  obtain ⟨c0, c1, c2, c3, c4, c5, c6, c7, c8, c9, c10⟩ := HK.out w2 K2.out
  go_wp2_with fail
  refine (HT'.out _ (HA.out _ (HB.out _ K2.out))).mono ?_
  rintro e w3 ⟨g1, rfl, hg1, hr1, b3⟩
  have K3 : Hid (Below w1.heap.size w1 w3) := K2.out.trans (b3.mono K2.out.size)
  have A3 : Hid (IsStrs w3 (some ⟨g1, 0, none⟩) names) := IsStrs.row hr1
  clear b3 hr1 hg1 c0 c1 c2 c3 c4 c5 c6 c7 c8 c9 c10
  go_wp2_with fail
  refine (HS'.out _ g1 A3.out).mono ?_
  rintro e w4 ⟨rfl, b4⟩
  have K4 : Hid (Below w1.heap.size w1 w4) := K3.out.trans (b4.mono K3.out.size)
  clear b4 A3 K3 K2
  obtain ⟨c0, c1, c2, c3, c4, c5, c6, c7, c8, c9, c10⟩ := HK.out w4 K4.out
  go_wp2_with fail
  refine (HT'.out _ (HA.out _ (HB.out _ K4.out))).mono ?_
  rintro e w5 ⟨g2, rfl, hg2, hr2, b5⟩
  have K5 : Hid (Below w1.heap.size w1 w5) := K4.out.trans (b5.mono K4.out.size)
  clear b5 hg2 c0 c1 c2 c3 c4 c5 c6 c7 c8 c9 c10
  obtain ⟨w6, hw6⟩ : ∃ w6, w6 = w5.alloc (.cells #[.int .i64 ser, .string iss, .string sub, .int .i64 fr, .int .i64 till, .int .i64 key, .slice (some ⟨g2, 0, none⟩) nl nl, .bool ca, .int .i64 sk, .int .i64 se, .int .i64 ss] 31 (0, 0)) := ⟨_, rfl⟩
  have q0 : w6.heap[w5.heap.size]? = some (.cells [Value.int .i64 ser, .string iss, .string sub, .int .i64 fr, .int .i64 till, .int .i64 key, .slice (some ⟨g2, 0, none⟩) nl nl, .bool ca, .int .i64 sk, .int .i64 se, .int .i64 ss].toArray 31 (0, 0)) := by rw [hw6]; exact heap_alloc_new w5 _
  have b6 : Below w5.heap.size w5 w6 := by rw [hw6]; exact (Below.refl _ _).alloc (Nat.le_refl _) _
  have K6 : Hid (Below w1.heap.size w1 w6) := K5.out.trans (b6.mono K5.out.size)
  have A6 : Hid (IsStrs w6 (some ⟨g2, 0, none⟩) names) := (IsStrs.row hr2).keep b6
  have z6 : w5.heap.size < w6.heap.size := by rw [hw6]; simp
  have HX : Hid (∀ V, Below w6.heap.size w6 V → V.cell? ⟨w5.heap.size, 0, none⟩ = some (.int .i64 ser) ∧ V.cell? ⟨w5.heap.size, 1, none⟩ = some (.string iss) ∧ V.cell? ⟨w5.heap.size, 2, none⟩ = some (.string sub) ∧ V.cell? ⟨w5.heap.size, 3, none⟩ = some (.int .i64 fr) ∧ V.cell? ⟨w5.heap.size, 4, none⟩ = some (.int .i64 till) ∧ V.cell? ⟨w5.heap.size, 5, none⟩ = some (.int .i64 key) ∧ V.cell? ⟨w5.heap.size, 6, none⟩ = some (.slice (some ⟨g2, 0, none⟩) nl nl) ∧ V.cell? ⟨w5.heap.size, 7, none⟩ = some (.bool ca) ∧ V.cell? ⟨w5.heap.size, 8, none⟩ = some (.int .i64 sk) ∧ V.cell? ⟨w5.heap.size, 9, none⟩ = some (.int .i64 se) ∧ V.cell? ⟨w5.heap.size, 10, none⟩ = some (.int .i64 ss)) := fun V hV => by
    have hP := (hV.block _ z6).trans q0
    exact ⟨rowFacts hP 0 _ rfl, rowFacts hP 1 _ rfl, rowFacts hP 2 _ rfl, rowFacts hP 3 _ rfl, rowFacts hP 4 _ rfl, rowFacts hP 5 _ rfl, rowFacts hP 6 _ rfl, rowFacts hP 7 _ rfl, rowFacts hP 8 _ rfl, rowFacts hP 9 _ rfl, rowFacts hP 10 _ rfl⟩
  clear q0 b6 hr2 K5 K4 z6
  go_upto_region 7 with fail
  rw [← hw6]
  clear hw6
  obtain ⟨d0, d1, d2, d3, d4, d5, d6, d7, d8, d9, d10⟩ := HX.out w6 (Below.refl _ _)
  go_wp2_with fail
  refine (HI'.out _ g2 A6.out).mono ?_
  rintro e w7 ⟨rfl, b7⟩
  have J7 : Hid (Below w6.heap.size w6 w7) := b7
  clear b7 d0 d1 d2 d3 d4 d5 d6 d7 d8 d9 d10
  have HQ : Hid (∀ V, Below w6.heap.size w6 V → Below w1.heap.size w1 V) := fun V hV => K6.out.trans (hV.mono K6.out.size)
  go_upto_region 10 with fail
  have HSS : Hid (∀ V, Below w6.heap.size w6 V → (V.cell? ⟨w5.heap.size, 0, none⟩ = some (.int .i64 ser) ∧ V.cell? ⟨w5.heap.size, 1, none⟩ = some (.string iss) ∧ V.cell? ⟨w5.heap.size, 2, none⟩ = some (.string sub) ∧ V.cell? ⟨w5.heap.size, 3, none⟩ = some (.int .i64 fr) ∧ V.cell? ⟨w5.heap.size, 4, none⟩ = some (.int .i64 till) ∧ V.cell? ⟨w5.heap.size, 5, none⟩ = some (.int .i64 key) ∧ V.cell? ⟨w5.heap.size, 6, none⟩ = some (.slice (some ⟨g2, 0, none⟩) nl nl) ∧ V.cell? ⟨w5.heap.size, 7, none⟩ = some (.bool ca) ∧ V.cell? ⟨w5.heap.size, 8, none⟩ = some (.int .i64 sk) ∧ V.cell? ⟨w5.heap.size, 9, none⟩ = some (.int .i64 se) ∧ V.cell? ⟨w5.heap.size, 10, none⟩ = some (.int .i64 ss)) ∧ (V.cell? ⟨w.heap.size, 0, none⟩ = some (.int .i64 ser) ∧ V.cell? ⟨w.heap.size, 1, none⟩ = some (.string iss) ∧ V.cell? ⟨w.heap.size, 2, none⟩ = some (.string sub) ∧ V.cell? ⟨w.heap.size, 3, none⟩ = some (.int .i64 fr) ∧ V.cell? ⟨w.heap.size, 4, none⟩ = some (.int .i64 till) ∧ V.cell? ⟨w.heap.size, 5, none⟩ = some (.int .i64 key) ∧ V.cell? ⟨w.heap.size, 6, none⟩ = some (.slice a nl cap) ∧ V.cell? ⟨w.heap.size, 7, none⟩ = some (.bool ca) ∧ V.cell? ⟨w.heap.size, 8, none⟩ = some (.int .i64 sk) ∧ V.cell? ⟨w.heap.size, 9, none⟩ = some (.int .i64 se) ∧ V.cell? ⟨w.heap.size, 10, none⟩ = some (.int .i64 ss))) := fun V hV => ⟨HX.out V hV, HK.out V (HQ.out V hV)⟩
  have D7 : Hid (Below w6.heap.size w6 w7.drew) := J7.out.drew
  refine wp_region_held_drew (S := fun V => (V.cell? ⟨w5.heap.size, 0, none⟩ = some (.int .i64 ser) ∧ V.cell? ⟨w5.heap.size, 1, none⟩ = some (.string iss) ∧ V.cell? ⟨w5.heap.size, 2, none⟩ = some (.string sub) ∧ V.cell? ⟨w5.heap.size, 3, none⟩ = some (.int .i64 fr) ∧ V.cell? ⟨w5.heap.size, 4, none⟩ = some (.int .i64 till) ∧ V.cell? ⟨w5.heap.size, 5, none⟩ = some (.int .i64 key) ∧ V.cell? ⟨w5.heap.size, 6, none⟩ = some (.slice (some ⟨g2, 0, none⟩) nl nl) ∧ V.cell? ⟨w5.heap.size, 7, none⟩ = some (.bool ca) ∧ V.cell? ⟨w5.heap.size, 8, none⟩ = some (.int .i64 sk) ∧ V.cell? ⟨w5.heap.size, 9, none⟩ = some (.int .i64 se) ∧ V.cell? ⟨w5.heap.size, 10, none⟩ = some (.int .i64 ss)) ∧ (V.cell? ⟨w.heap.size, 0, none⟩ = some (.int .i64 ser) ∧ V.cell? ⟨w.heap.size, 1, none⟩ = some (.string iss) ∧ V.cell? ⟨w.heap.size, 2, none⟩ = some (.string sub) ∧ V.cell? ⟨w.heap.size, 3, none⟩ = some (.int .i64 fr) ∧ V.cell? ⟨w.heap.size, 4, none⟩ = some (.int .i64 till) ∧ V.cell? ⟨w.heap.size, 5, none⟩ = some (.int .i64 key) ∧ V.cell? ⟨w.heap.size, 6, none⟩ = some (.slice a nl cap) ∧ V.cell? ⟨w.heap.size, 7, none⟩ = some (.bool ca) ∧ V.cell? ⟨w.heap.size, 8, none⟩ = some (.int .i64 sk) ∧ V.cell? ⟨w.heap.size, 9, none⟩ = some (.int .i64 se) ∧ V.cell? ⟨w.heap.size, 10, none⟩ = some (.int .i64 ss))) (by kernel_rfl) ?_ (fun hHeld => ?_)
  · exact HSS.out _ D7.out
  refine wpAnyH_take (i := 0) (oi := ⟨some 22, _, _, _, _, _⟩) (v := ?_) rfl (by kernel_rfl) (by kernel_rfl) (by kernel_rfl) (fun _ _ _ h => h) (Or.inl ⟨by kernel_rfl, ?_⟩) (by assumption) ?_
  rotate_left
  · (intro w hSw; (try dsimp only at hSw); go_simp; try with_reducible rfl)
  (try simp only [Act.put, List.setIfInBounds_toArray, List.set_cons_zero, List.set_cons_succ])
  refine wpAnyH_take (i := 1) (oi := ⟨some 23, _, _, _, _, _⟩) (v := ?_) rfl (by kernel_rfl) (by kernel_rfl) (by kernel_rfl) (fun _ _ _ h => h) (Or.inl ⟨by kernel_rfl, ?_⟩) (by assumption) ?_
  rotate_left
  · (intro w hSw; (try dsimp only at hSw); go_simp; try with_reducible rfl)
  (try simp only [Act.put, List.setIfInBounds_toArray, List.set_cons_zero, List.set_cons_succ])
  refine wpAnyH_ready (rs := [2]) (by kernel_rfl) (by simp) ?_
  refine AllReadyH.cons (o := ⟨some 24, _, _, _, _, _⟩) rfl (fun K hK => ?_) AllReadyH.nil
  go_simp
  refine (HT'.out _ (HA.out _ (HB.out _ (HQ.out _ D7.out)))).mono ?_
  rintro e w8 ⟨g3, rfl, hg3, hr3, b8⟩
  have J8 : Hid (Below w6.heap.size w6 w8) := D7.out.trans (b8.mono D7.out.size)
  have A8 : Hid (IsStrs w8 (some ⟨g3, 0, none⟩) names) := IsStrs.row hr3
  refine hK.out _ _ ?_ (fun hHeld => ?_)
  · exact HSS.out _ J8.out
  clear hK K b8 hr3
  (try simp only [Act.put, List.setIfInBounds_toArray, List.set_cons_zero, List.set_cons_succ])
  refine wpAnyH_ready (rs := [3]) (by kernel_rfl) (by simp) ?_
  refine AllReadyH.cons (o := ⟨some 25, _, _, _, _, _⟩) rfl (fun K hK => ?_) AllReadyH.nil
  go_simp
  refine (HE'.out _ g2 g3 (A6.out.keep J8.out) A8.out).mono ?_
  rintro e w9 ⟨rfl, b9⟩
  have J9 : Hid (Below w6.heap.size w6 w9) := J8.out.trans (b9.mono J8.out.size)
  refine hK.out _ _ ?_ (fun hHeld => ?_)
  · exact HSS.out _ J9.out
  clear hK K b9
  (try simp only [Act.put, List.setIfInBounds_toArray, List.set_cons_zero, List.set_cons_succ])
  refine wpAnyH_take (i := 4) (oi := ⟨some 26, _, _, _, _, _⟩) (v := ?_) rfl (by kernel_rfl) (by kernel_rfl) (by kernel_rfl) (fun _ _ _ h => h) (Or.inl ⟨by kernel_rfl, ?_⟩) (by assumption) ?_
  rotate_left
  · (intro w hSw; (try dsimp only at hSw); go_simp; try with_reducible rfl)
  (try simp only [Act.put, List.setIfInBounds_toArray, List.set_cons_zero, List.set_cons_succ])
  refine wpAnyH_done (by kernel_rfl) ?_ _
  go_wp2
  go_ret
  exact ⟨rfl, HB.out _ (HQ.out _ J9.out)⟩
namespace fnExactCertBytesDone
open Go.ChangeShapes Go.WideShapes Go.ChangeAt Go.RowKit
open Go.ChangeMaps (open_string shut_string)
theorem own : ownKnob Try.prog.godebug = none := by kernel_rfl
theorem laidOut : laidOutB Try.prog = true := by kernel_rfl
set_option linter.unusedVariables false
set_option maxRecDepth 100000 in
theorem lifted (os : Os) (started : os.Started) (H : Type) (enc : TypeId × Value → H) :
    ReturnsInHanded {} Try.checked os 5 .any (Rows.fnExactCertBytesSpec.pre6 enc Try.prog Try.f5 Rows.fnExactCertBytesRow.domain false) (Rows.fnExactCertBytesSpec.post enc Try.prog Try.f5 false true false false) := by
  refine returnsInHanded_of_change (C := Try.checked) own started (by kernel_rfl) Try.func5
    (ChangeSpec.witness6 (enc := enc) (C := Try.checked) false ⟨#[], #[.agg #[.int .i64 0, .string ByteArray.empty, .string ByteArray.empty, .int .i64 0, .int .i64 0, .int .i64 0, .slice none 0 0, .bool false, .int .i64 0, .int .i64 0, .int .i64 0]], []⟩ 8 (by kernel_rfl) (by kernel_rfl) (by kernel_rfl) (by kernel_rfl)) ?_
  intro W base args ds gs before hval0 hW hcnd _
  have hval : ∀ (j : Nat) t v, Try.f5.params[j]? = some t → args[j]? = some v → Value.okWide Try.prog W .any base t v := hval0
  have hW' := hW
  obtain ⟨p, q, hA0, hV, rfl, hfz, hnd⟩ := hW
  have hA : DataW.TrodAll enc Try.prog W 0 (fun _ => true) true Try.f5.params.toList args.toList ds p := hA0
  rw [Try.params5] at hA hval
  obtain ⟨v0, vs0, d0, ds0, p0, q0, hargs, rfl, rfl, h0, r0⟩ := trodAll_cons hA
  obtain ⟨rfl, rfl, rfl⟩ := trodAll_nil r0
  obtain rfl : args = #[v0] := by cases args; simp_all
  obtain ⟨rfl, rfl⟩ := trodVars_none hV
  have k0 := h0
  have lt0 : ∀ x ∈ p0, x.block < W.heap.size := by obtain ⟨m, hm⟩ := k0; exact DataW.trod_lt m _ _ _ hm
  obtain ⟨c0, a0, cap0, rfl, w0⟩ := openCert (hval 0 26 v0 rfl rfl) h0
  clear hA0 hval0
  refine (certBytesWalk W c0 a0 cap0 w0).mono fun e W' ⟨he, bel⟩ => ?_
  subst he
  exact ⟨_, rfl, _, _, _, [], _, [], hW', trodAll_mk1 (shut_bool Try.underlying4 _), (trodAll_cons_mk (Below.trod laidOut (by kernel_rfl) (of_decide_eq_true (by kernel_rfl)) k0 bel lt0) trodAll_mk0), rfl, bel.frame _, fun h => by cases h⟩
theorem over : Rows.fnExactCertBytesRow.holds Try.pinned (OpenSpec.ofChange Rows.fnExactCertBytesSpec) :=
  OpenClaim.holds_of_wide 5 Try.f5 rfl rfl rfl rfl rfl rfl rfl ⟨rfl, rfl, rfl, rfl, rfl⟩ rfl rfl rfl rfl rfl (by as_aux_lemma => kernel_rfl) Try.func5 (by as_aux_lemma => kernel_rfl)
    (of_decide_eq_true (by as_aux_lemma => kernel_rfl)) (by unfold Func.isWrapper; first | (rw [if_pos (by decide +kernel)]; kernel_rfl) | (rw [if_neg (by decide +kernel)]; exact ⟨rfl, rfl⟩))
    (fun os started H enc _ => lifted os started H enc)
end fnExactCertBytesDone
theorem fnExactCertBytes_holds : Rows.FnExactCertBytesSaid := fnExactCertBytesDone.over
#print axioms fnExactCertBytes_holds
end Go.Proofs.Ytfhihhkdbdidnaa
