/- A list of what is taken back, that came in, opened. FnExactCrlBytes, walked: at every argument CrlBytes answers as the specification's; it writes into no argument. The listed variables are tied to the program's text; no other condition. What a listed error gives the walks. As many variables are read as are named. No program is named. -/
import Derived.Test.YtfhihhkdbdidnaaDoorLBy03
import Derived.Test.YtfhihhkdbdidnaaDoorLBy10
import Derived.ProofKit
import Derived.Test.YtfhihhkdbdidnaaDoorLBy05
import Derived.Below
import Derived.Deep.RegionHeld3
import Derived.Test.YtfhihhkdbdidnaaDoorLBy09
import Derived.Stop.LaidErr
import Derived.LaidMore
import Derived.Stop.Joined
import Derived.OpenVars
import Derived.ChangeShapes
import Derived.Test.YtfhihhkdbdidnaaDoorRows
namespace Go.Proofs.YtfhihhkdbdidnaaDoor
open Go.RowKit Go.WideShapes Go.ChangeShapes Go.Deep

theorem array7 {α : Type} {cs : Array α} (h : cs.size = 7) : ∃ c0 c1 c2 c3 c4 c5 c6, cs = #[c0, c1, c2, c3, c4, c5, c6] := by
  obtain ⟨l⟩ := cs
  match l, h with
  | [c0, c1, c2, c3, c4, c5, c6], _ => exact ⟨c0, c1, c2, c3, c4, c5, c6, rfl⟩
theorem cellsCrl : Tryd.prog.cellsOf 26 = 7 := by kernel_rfl
theorem cellsLongs : Tryd.prog.cellsOf 22 = 1 := by kernel_rfl
/-- What is known of one that came in. -/
structure CameL (W : World) (c : Lst) (a : Option Addr) : Prop where
  ints : IsInts W a c.serials
  len : c.serials.length ≤ maxLen
  each : ∀ n ∈ c.serials, (Lit.int .i64 n).wf = true
  iss : c.issuer.size ≤ maxLen
  wfr : (Lit.int .i64 c.fr).wf = true
  wtill : (Lit.int .i64 c.till).wf = true
  wsk : (Lit.int .i64 c.sk).wf = true
  wse : (Lit.int .i64 c.se).wf = true
  wss : (Lit.int .i64 c.ss).wf = true
theorem open_nums {H : Type} {enc : TypeId × Value → H} {W : World} {base : Nat} {spare : Nat → Bool} {held : Bool} {n : Nat} {v : Value} {x : DataW H × List MemPlace} (h : DataW.trod enc Tryd.prog W base spare held n 22 [v] = some x) :
    ∃ (a : Option Addr) (zs : List Int) (cap : Nat), v = .slice a zs.length cap ∧ IsInts W a zs ∧ zs.length ≤ maxLen ∧ ∀ n ∈ zs, (Lit.int .i64 n).wf = true := by
  rcases open_ints Tryd.underlying22 Tryd.underlying2 (by kernel_rfl) h with ⟨hcs, _⟩ | ⟨x, len, cap, zs, hcs, _, hl, hm, hz, _, hcell, hwz⟩
  · exact ⟨none, [], 0, (List.cons.inj hcs).1, .inl rfl, Nat.zero_le _, fun s hs => by cases hs⟩
  · have hle : len ≤ zs.length := by rw [hz]; split <;> omega
    have hlen : (zs.take len).length = len := by rw [List.length_take]; omega
    refine ⟨some x, zs.take len, cap, by rw [hlen]; exact (List.cons.inj hcs).1, ?_, by rw [hlen]; omega, fun s hs => hwz s (List.mem_of_mem_take hs)⟩
    by_cases h0 : len = 0
    · exact .inl (by simp [h0])
    obtain ⟨b, off, spot⟩ := x
    have hc0 := hcell 0 (by omega)
    have hspot : spot = none := by simpa [Addr.add] using World.cell?_spot hc0
    subst hspot
    refine .inr ⟨b, off, rfl, fun i hi => ?_⟩
    rw [hlen] at hi
    have h1 := hcell i (by omega)
    rw [Addr.add_lit] at h1
    rw [h1, List.getD, List.getD, List.getElem?_take, if_pos hi]
set_option linter.unusedSimpArgs false in
set_option maxRecDepth 100000 in
theorem openCrl {H : Type} {enc : TypeId × Value → H} {W : World} {base b0 : Nat} {r : Reach} {spare : Nat → Bool} {held : Bool} {v : Value} {d : DataW H} {p : List MemPlace}
    (hv : Value.okWide Tryd.prog W r b0 26 v) (h : DataW.Trod enc Tryd.prog W base spare held 26 v d p) :
    ∃ (c : Lst) (a : Option Addr) (cap : Nat), v = c.val (.slice a c.serials.length cap) ∧ CameL W c a := by
  obtain ⟨cs, rfl, hsz⟩ := okWide_struct Tryd.underlying26 hv
  obtain ⟨c0, c1, c2, c3, c4, c5, c6, rfl⟩ := array7 (hsz.trans cellsCrl)
  obtain ⟨fuel, hf⟩ := h
  obtain ⟨xs, n, _, _, _, hlen, hff⟩ := DataW.trod_struct Tryd.underlying26 hf
  have hx : ∀ i, i < 5 → ∃ y, xs[i]? = some y := fun i hi => ⟨xs[i]'(by rw [hlen]; exact hi), List.getElem?_eq_getElem _⟩
  obtain ⟨y0, e0⟩ := hx 0 (by omega)
  obtain ⟨y1, e1⟩ := hx 1 (by omega)
  obtain ⟨y2, e2⟩ := hx 2 (by omega)
  obtain ⟨y3, e3⟩ := hx 3 (by omega)
  obtain ⟨y4, e4⟩ := hx 4 (by omega)
  have t0 := (hff 0 _ rfl).trans e0
  have t1 := (hff 1 _ rfl).trans e1
  have t2 := (hff 2 _ rfl).trans e2
  have t3 := (hff 3 _ rfl).trans e3
  have t4 := (hff 4 _ rfl).trans e4
  simp only [Value.cells, cellsInt, cellsStr, cellsLongs, cellsSig, List.drop_zero, List.drop_succ_cons, List.take_succ_cons, List.take_zero] at t0 t1 t2 t3 t4
  obtain ⟨iss, g0, _, w0⟩ := DataW.trod_string Tryd.underlying9 t0
  obtain ⟨fr, g1, _, w1⟩ := DataW.trod_int Tryd.underlying2 t1
  obtain ⟨till, g2, _, w2⟩ := DataW.trod_int Tryd.underlying2 t2
  obtain ⟨a, zs, cap, g3, hs, hl, he⟩ := open_nums t3
  obtain ⟨z0, z1, z2, m, _, _, u0, u1, u2⟩ := trod_struct3 Tryd.underlying24 t4
  simp only [cellsInt, List.drop_zero, List.drop_succ_cons, List.take_succ_cons, List.take_zero] at u0 u1 u2
  obtain ⟨sk, g8, _, w8⟩ := DataW.trod_int Tryd.underlying2 u0
  obtain ⟨se, g9, _, w9⟩ := DataW.trod_int Tryd.underlying2 u1
  obtain ⟨s3, g10, _, w10⟩ := DataW.trod_int Tryd.underlying2 u2
  obtain rfl := (List.cons.inj g0).1
  obtain rfl := (List.cons.inj g1).1
  obtain rfl := (List.cons.inj g2).1
  obtain rfl := g3
  obtain rfl := (List.cons.inj g8).1
  obtain rfl := (List.cons.inj g9).1
  obtain rfl := (List.cons.inj g10).1
  exact ⟨⟨iss, fr, till, zs, sk, se, s3⟩, a, cap, rfl, ⟨hs, hl, he, w0, w1, w2, w8, w9, w10⟩⟩
end Go.Proofs.YtfhihhkdbdidnaaDoor
namespace Go.Proofs.YtfhihhkdbdidnaaDoor
open Go.RowKit

set_option linter.unusedSimpArgs false in
set_option maxHeartbeats 4000000 in
set_option maxRecDepth 100000 in
theorem crlBytesWalk (w : World) (c : Lst) (a : Option Addr) (cap : Nat) (h : CameL w c a) (hE : Err1 w) :
    Calls Tryd.prog 3 #[c.val (.slice a c.serials.length cap)] w fun e w' => e = .returned (.bool true) ∧ Below w.heap.size w w' := by
  have HZ : Hid (∀ V, IsInts V a c.serials → Calls Tryd.prog 4 #[c.val (.slice a c.serials.length cap), .int .i64 1048576] V fun e w' => ∃ x : Int, e = .returned (.int .i64 x) ∧ (x < 0 ∨ c.Small) ∧ -1 ≤ x ∧ x ≤ 1048576 ∧ Below V.heap.size V w') := fun V _ => szCrl c a cap V h.iss h.len
  have HT : Hid (c.Small → ∀ V, IsInts V a c.serials → Calls Tryd.prog 6 #[c.val (.slice a c.serials.length cap)] V fun e w' => ∃ g, e = .returned (c.val (.slice (some ⟨g, 0, none⟩) c.serials.length c.serials.length)) ∧ V.heap.size ≤ g ∧ w'.heap[g]? = some (.cells (lCells c.serials).toArray 2 (0, 0)) ∧ Below V.heap.size V w') := fun hs V hV => toCrl c a cap V hs.2 hV
  have HS : Hid (c.Small → ∀ V g, IsInts V (some ⟨g, 0, none⟩) c.serials → Calls Tryd.prog 5 #[c.val (.slice (some ⟨g, 0, none⟩) c.serials.length c.serials.length)] V fun e w' => e = .returned (.string (crlBytesD c)) ∧ Below V.heap.size V w') := fun hs V g hV => specCrlBytes c _ _ V h.iss hs.2 hV
  have HI : Hid (c.Small → ∀ V g, Err1 V → IsInts V (some ⟨g, 0, none⟩) c.serials → Calls Tryd.prog 7 #[c.val (.slice (some ⟨g, 0, none⟩) c.serials.length c.serials.length)] V fun e w' => e = .returned (.string (crlBytesD c)) ∧ Below V.heap.size V w') := fun hs V g i0 hV => implCrlBytes c _ _ V h.iss hs.2 hV i0
  have HE : Hid (c.Small → ∀ V g k, IsInts V (some ⟨g, 0, none⟩) c.serials → IsInts V (some ⟨k, 0, none⟩) c.serials → Calls Tryd.prog 8 #[c.val (.slice (some ⟨g, 0, none⟩) c.serials.length c.serials.length), c.val (.slice (some ⟨k, 0, none⟩) c.serials.length c.serials.length)] V fun e w' => e = .returned (.bool true) ∧ Below V.heap.size V w') := fun hs V g k h1 h2 => eqCrl c _ _ _ _ V hs.2 h1 h2
  have ha := h.ints
  have HF0 : Hid (∀ V, Below w.heap.size w V → Err1 V) := fun V hV => hE.keep hV
  clear h hE
  generalize crlBytesD c = R at *
  generalize Lst.Small c = Sm at *
  obtain ⟨iss, fr, till, serials, sk, se, ss⟩ := c
  unfold Lst.val at *
  simp only at HZ HT HS HI HE ha ⊢
  generalize serials.length = nl at *
  obtain ⟨w1, hw1⟩ : ∃ w1, w1 = w.alloc (.cells #[.string iss, .int .i64 fr, .int .i64 till, .slice a nl cap, .int .i64 sk, .int .i64 se, .int .i64 ss] 26 (0, 0)) := ⟨_, rfl⟩
  have r0 : w1.heap[w.heap.size]? = some (.cells [Value.string iss, .int .i64 fr, .int .i64 till, .slice a nl cap, .int .i64 sk, .int .i64 se, .int .i64 ss].toArray 26 (0, 0)) := by rw [hw1]; exact heap_alloc_new w _
  have B1 : Hid (Below w.heap.size w w1) := by rw [hw1]; exact (Below.refl _ _).alloc (Nat.le_refl _) _
  have z1 : w.heap.size < w1.heap.size := by rw [hw1]; simp
  have HK : Hid (∀ V, Below w1.heap.size w1 V → V.cell? ⟨w.heap.size, 0, none⟩ = some (.string iss) ∧ V.cell? ⟨w.heap.size, 1, none⟩ = some (.int .i64 fr) ∧ V.cell? ⟨w.heap.size, 2, none⟩ = some (.int .i64 till) ∧ V.cell? ⟨w.heap.size, 3, none⟩ = some (.slice a nl cap) ∧ V.cell? ⟨w.heap.size, 4, none⟩ = some (.int .i64 sk) ∧ V.cell? ⟨w.heap.size, 5, none⟩ = some (.int .i64 se) ∧ V.cell? ⟨w.heap.size, 6, none⟩ = some (.int .i64 ss)) := fun V hV => by
    have hP := (hV.block _ z1).trans r0
    exact ⟨rowFacts hP 0 _ rfl, rowFacts hP 1 _ rfl, rowFacts hP 2 _ rfl, rowFacts hP 3 _ rfl, rowFacts hP 4 _ rfl, rowFacts hP 5 _ rfl, rowFacts hP 6 _ rfl⟩
  have HA : Hid (∀ V, Below w.heap.size w V → IsInts V a serials) := fun V hV => ha.keep hV
  have Z1 : Hid (w.heap.size < w1.heap.size) := z1
  clear r0 ha z1
  go_enter Tryd.func3, Tryd.ntmps3
  go_upto_region 2 with fail
  rw [← hw1]
  clear hw1
  obtain ⟨c0, c1, c2, c3, c4, c5, c6⟩ := HK.out w1 (Below.refl _ _)
  go_wp2_with fail
  refine (HZ.out _ (HA.out _ B1.out)).mono ?_
  rintro e w2 ⟨x, rfl, hx, hx0, hx1, b2⟩
  have K2 : Hid (Below w1.heap.size w1 w2) := b2
  clear b2 c0 c1 c2 c3 c4 c5 c6
  have HB : Hid (∀ V, Below w1.heap.size w1 V → Below w.heap.size w V) := fun V hV => B1.out.trans (hV.mono B1.out.size)
  by_cases hneg : x < 0
  · go_wp2
    go_ret
    exact ⟨rfl, HB.out _ K2.out⟩
  have hSm : Sm := by rcases hx with h | h
                      · exact absurd h hneg
                      · exact h
  have T1 := HT.out hSm
  have HT' : Hid _ := T1
  have S1 := HS.out hSm
  have HS' : Hid _ := S1
  have I1 := HI.out hSm
  have HI' : Hid _ := I1
  have E1 := HE.out hSm
  have HE' : Hid _ := E1
  clear T1 S1 I1 E1 HT HS HI HE HZ hx hSm
  obtain ⟨c0, c1, c2, c3, c4, c5, c6⟩ := HK.out w2 K2.out
  go_wp2_with fail
  refine (HT'.out _ (HA.out _ (HB.out _ K2.out))).mono ?_
  rintro e w3 ⟨g1, rfl, hg1, hr, b3⟩
  have K3 : Hid (Below w1.heap.size w1 w3) := K2.out.trans (b3.mono K2.out.size)
  have A3 : Hid (IsInts w3 (some ⟨g1, 0, none⟩) serials) := IsInts.row (rest := []) (by simpa using hr)
  clear b3 hr hg1 c0 c1 c2 c3 c4 c5 c6
  go_wp2_with fail
  refine (HS'.out _ g1 A3.out).mono ?_
  rintro e w4 ⟨rfl, b4⟩
  have K4 : Hid (Below w1.heap.size w1 w4) := K3.out.trans (b4.mono K3.out.size)
  clear b4 A3 K3 K2
  obtain ⟨c0, c1, c2, c3, c4, c5, c6⟩ := HK.out w4 K4.out
  go_wp2_with fail
  refine (HT'.out _ (HA.out _ (HB.out _ K4.out))).mono ?_
  rintro e w5 ⟨g2, rfl, hg2, hr, b5⟩
  have K5 : Hid (Below w1.heap.size w1 w5) := K4.out.trans (b5.mono K4.out.size)
  clear b5 hg2 c0 c1 c2 c3 c4 c5 c6
  obtain ⟨w6, hw6⟩ : ∃ w6, w6 = w5.alloc (.cells #[.string iss, .int .i64 fr, .int .i64 till, .slice (some ⟨g2, 0, none⟩) nl nl, .int .i64 sk, .int .i64 se, .int .i64 ss] 31 (0, 0)) := ⟨_, rfl⟩
  have q0 : w6.heap[w5.heap.size]? = some (.cells [Value.string iss, .int .i64 fr, .int .i64 till, .slice (some ⟨g2, 0, none⟩) nl nl, .int .i64 sk, .int .i64 se, .int .i64 ss].toArray 31 (0, 0)) := by rw [hw6]; exact heap_alloc_new w5 _
  have b6 : Below w5.heap.size w5 w6 := by rw [hw6]; exact (Below.refl _ _).alloc (Nat.le_refl _) _
  have K6 : Hid (Below w1.heap.size w1 w6) := K5.out.trans (b6.mono K5.out.size)
  have A6' : IsInts w5 (some ⟨g2, 0, none⟩) serials := IsInts.row (rest := []) (by simpa using hr)
  have A6 : Hid (IsInts w6 (some ⟨g2, 0, none⟩) serials) := A6'.keep b6
  have z6 : w5.heap.size < w6.heap.size := by rw [hw6]; simp
  have HX : Hid (∀ V, Below w6.heap.size w6 V → V.cell? ⟨w5.heap.size, 0, none⟩ = some (.string iss) ∧ V.cell? ⟨w5.heap.size, 1, none⟩ = some (.int .i64 fr) ∧ V.cell? ⟨w5.heap.size, 2, none⟩ = some (.int .i64 till) ∧ V.cell? ⟨w5.heap.size, 3, none⟩ = some (.slice (some ⟨g2, 0, none⟩) nl nl) ∧ V.cell? ⟨w5.heap.size, 4, none⟩ = some (.int .i64 sk) ∧ V.cell? ⟨w5.heap.size, 5, none⟩ = some (.int .i64 se) ∧ V.cell? ⟨w5.heap.size, 6, none⟩ = some (.int .i64 ss)) := fun V hV => by
    have hP := (hV.block _ z6).trans q0
    exact ⟨rowFacts hP 0 _ rfl, rowFacts hP 1 _ rfl, rowFacts hP 2 _ rfl, rowFacts hP 3 _ rfl, rowFacts hP 4 _ rfl, rowFacts hP 5 _ rfl, rowFacts hP 6 _ rfl⟩
  clear q0 b6 hr K5 K4 z6 A6'
  go_upto_region 7 with fail
  rw [← hw6]
  clear hw6
  obtain ⟨d0, d1, d2, d3, d4, d5, d6⟩ := HX.out w6 (Below.refl _ _)
  go_wp2_with fail
  refine (HI'.out _ g2 (HF0.out _ (HB.out _ K6.out)) A6.out).mono ?_
  rintro e w7 ⟨rfl, b7⟩
  have J7 : Hid (Below w6.heap.size w6 w7) := b7
  clear b7 d0 d1 d2 d3 d4 d5 d6
  have HQ : Hid (∀ V, Below w6.heap.size w6 V → Below w1.heap.size w1 V) := fun V hV => K6.out.trans (hV.mono K6.out.size)
  go_upto_region 10 with fail
  have HSS : Hid (∀ V, Below w6.heap.size w6 V → (V.cell? ⟨w5.heap.size, 0, none⟩ = some (.string iss) ∧ V.cell? ⟨w5.heap.size, 1, none⟩ = some (.int .i64 fr) ∧ V.cell? ⟨w5.heap.size, 2, none⟩ = some (.int .i64 till) ∧ V.cell? ⟨w5.heap.size, 3, none⟩ = some (.slice (some ⟨g2, 0, none⟩) nl nl) ∧ V.cell? ⟨w5.heap.size, 4, none⟩ = some (.int .i64 sk) ∧ V.cell? ⟨w5.heap.size, 5, none⟩ = some (.int .i64 se) ∧ V.cell? ⟨w5.heap.size, 6, none⟩ = some (.int .i64 ss)) ∧ (V.cell? ⟨w.heap.size, 0, none⟩ = some (.string iss) ∧ V.cell? ⟨w.heap.size, 1, none⟩ = some (.int .i64 fr) ∧ V.cell? ⟨w.heap.size, 2, none⟩ = some (.int .i64 till) ∧ V.cell? ⟨w.heap.size, 3, none⟩ = some (.slice a nl cap) ∧ V.cell? ⟨w.heap.size, 4, none⟩ = some (.int .i64 sk) ∧ V.cell? ⟨w.heap.size, 5, none⟩ = some (.int .i64 se) ∧ V.cell? ⟨w.heap.size, 6, none⟩ = some (.int .i64 ss))) := fun V hV => ⟨HX.out V hV, HK.out V (HQ.out V hV)⟩
  have D7 : Hid (Below w6.heap.size w6 w7.drew) := J7.out.drew
  refine wp_region_held_drew (S := fun V => (V.cell? ⟨w5.heap.size, 0, none⟩ = some (.string iss) ∧ V.cell? ⟨w5.heap.size, 1, none⟩ = some (.int .i64 fr) ∧ V.cell? ⟨w5.heap.size, 2, none⟩ = some (.int .i64 till) ∧ V.cell? ⟨w5.heap.size, 3, none⟩ = some (.slice (some ⟨g2, 0, none⟩) nl nl) ∧ V.cell? ⟨w5.heap.size, 4, none⟩ = some (.int .i64 sk) ∧ V.cell? ⟨w5.heap.size, 5, none⟩ = some (.int .i64 se) ∧ V.cell? ⟨w5.heap.size, 6, none⟩ = some (.int .i64 ss)) ∧ (V.cell? ⟨w.heap.size, 0, none⟩ = some (.string iss) ∧ V.cell? ⟨w.heap.size, 1, none⟩ = some (.int .i64 fr) ∧ V.cell? ⟨w.heap.size, 2, none⟩ = some (.int .i64 till) ∧ V.cell? ⟨w.heap.size, 3, none⟩ = some (.slice a nl cap) ∧ V.cell? ⟨w.heap.size, 4, none⟩ = some (.int .i64 sk) ∧ V.cell? ⟨w.heap.size, 5, none⟩ = some (.int .i64 se) ∧ V.cell? ⟨w.heap.size, 6, none⟩ = some (.int .i64 ss))) (by kernel_rfl) ?_ (fun hHeld => ?_)
  · exact HSS.out _ D7.out
  refine wpAnyH_take (i := 0) (oi := ⟨some 22, _, _, _, _, _⟩) (v := ?_) rfl (by kernel_rfl) (by kernel_rfl) (by kernel_rfl) (fun _ _ _ h => h) (Or.inl ⟨by kernel_rfl, ?_⟩) (by assumption) ?_
  rotate_left
  · (intro w hSw; (try dsimp only at hSw); go_simp; try with_reducible rfl)
  (try simp only [Act.put, List.setIfInBounds_toArray, List.set_cons_zero, List.set_cons_succ])
  refine wpAnyH_take (i := 1) (oi := ⟨some 23, _, _, _, _, _⟩) (v := ?_) rfl (by kernel_rfl) (by kernel_rfl) (by kernel_rfl) (fun _ _ _ h => h) (Or.inl ⟨by kernel_rfl, ?_⟩) (by assumption) ?_
  rotate_left
  · (intro w hSw; (try dsimp only at hSw); go_simp; try with_reducible rfl)
  (try simp only [Act.put, List.setIfInBounds_toArray, List.set_cons_zero, List.set_cons_succ])
  refine wpAnyH_ready (rs := [2]) (by kernel_rfl) (by simp) ?_
  refine AllReadyH.cons (o := ⟨some 24, _, _, _, _, _⟩) rfl (fun K hK => ?_) AllReadyH.nil
  go_simp
  refine (HT'.out _ (HA.out _ (HB.out _ (HQ.out _ D7.out)))).mono ?_
  rintro e w8 ⟨g3, rfl, hg3, hr, b8⟩
  have J8 : Hid (Below w6.heap.size w6 w8) := D7.out.trans (b8.mono D7.out.size)
  have A8 : Hid (IsInts w8 (some ⟨g3, 0, none⟩) serials) := IsInts.row (rest := []) (by simpa using hr)
  refine hK.out _ _ ?_ (fun hHeld => ?_)
  · exact HSS.out _ J8.out
  clear hK K b8 hr
  (try simp only [Act.put, List.setIfInBounds_toArray, List.set_cons_zero, List.set_cons_succ])
  refine wpAnyH_ready (rs := [3]) (by kernel_rfl) (by simp) ?_
  refine AllReadyH.cons (o := ⟨some 25, _, _, _, _, _⟩) rfl (fun K hK => ?_) AllReadyH.nil
  go_simp
  refine (HE'.out _ g2 g3 (A6.out.keep J8.out) A8.out).mono ?_
  rintro e w9 ⟨rfl, b9⟩
  have J9 : Hid (Below w6.heap.size w6 w9) := J8.out.trans (b9.mono J8.out.size)
  refine hK.out _ _ ?_ (fun hHeld => ?_)
  · exact HSS.out _ J9.out
  clear hK K b9
  (try simp only [Act.put, List.setIfInBounds_toArray, List.set_cons_zero, List.set_cons_succ])
  refine wpAnyH_take (i := 4) (oi := ⟨some 26, _, _, _, _, _⟩) (v := ?_) rfl (by kernel_rfl) (by kernel_rfl) (by kernel_rfl) (fun _ _ _ h => h) (Or.inl ⟨by kernel_rfl, ?_⟩) (by assumption) ?_
  rotate_left
  · (intro w hSw; (try dsimp only at hSw); go_simp; try with_reducible rfl)
  (try simp only [Act.put, List.setIfInBounds_toArray, List.set_cons_zero, List.set_cons_succ])
  refine wpAnyH_done (by kernel_rfl) ?_ _
  go_wp2
  go_ret
  exact ⟨rfl, HB.out _ (HQ.out _ J9.out)⟩
end Go.Proofs.YtfhihhkdbdidnaaDoor
namespace Go.Proofs.YtfhihhkdbdidnaaDoor
open Go.ChangeShapes Go.WideShapes Go.ChangeAt Go.RowKit

theorem gv_errNotRight : Tryd.prog.globalNamed "loop.example/g00371/impl.errNotRight" = some 0 := by kernel_rfl
theorem gt_errNotRight : (Tryd.prog.globals[0]?).map (·.type) = some 46 := by kernel_rfl
theorem errCells : Tryd.prog.cellsOf 115 = 1 := by kernel_rfl
theorem strCells : Tryd.prog.cellsOf 9 = 1 := by kernel_rfl
theorem errStar : "*" ++ "errors.errorString" = "*errors.errorString" := by decide
theorem errName (u : TypeId) (h : Tryd.prog.typeName? 3 u = some "*errors.errorString") : u = 100 :=
  typeName_ptr_named (nm := "errors.errorString") (by rw [errStar]; kernel_rfl) (by kernel_rfl) (by decide) u (by rw [errStar]; exact h)
set_option maxRecDepth 100000 in
set_option maxHeartbeats 2000000 in
theorem laid_1 {W : World} (h : laidMetH Tryd.prog [("loop.example/g00371/impl.errNotRight", Rows.laid_loop_example_g00371_impl_errNotRight)] W) : Err1 W := by
  rw [MakeChecks.laidMetH_plain _ _ _ (by kernel_rfl)] at h
  obtain ⟨ps, ⟨g1, t1, cs1, f1, p1, q1, hg1, ht1, hv1, hd1, hn, e1⟩, hnd, hrows⟩ := h
  obtain rfl := Option.some.inj (gv_errNotRight.symm.trans hg1)
  obtain rfl := Option.some.inj (gt_errNotRight.symm.trans ht1)
  subst e1
  obtain ⟨l1⟩ := cs1
  have ok1 : ∀ u v, l1 = [.iface u v] → Value.okWide Tryd.prog W .any 0 u v := fun u v e => by
    subst e
    exact (hrows 0 0 (by simp [MemPlace.row])).2 u v (by simpa using World.var?_cell hg1 hv1 0)
  obtain ⟨a1, s1, rfl, _, _, _, rfl⟩ := errorString_of_trod Tryd.underlying46 errName Tryd.underlying100 Tryd.underlying115 rfl rfl Tryd.underlying9 errCells strCells hd1 ok1
  obtain ⟨c1, y1, hb1⟩ := (hrows a1.block a1.off (by simp [MemPlace.row])).1
  have E1 : ErrV 0 W a1 := ⟨by simpa using World.var?_cell hg1 hv1 0, c1, y1, hb1⟩
  exact ⟨_, E1⟩
end Go.Proofs.YtfhihhkdbdidnaaDoor
namespace Go.Proofs.YtfhihhkdbdidnaaDoor

theorem trodVars_len {H : Type} {enc : TypeId × Value → H} {P : Program} {w : World} {spare : Nat → Bool} : ∀ {ns : List String} {gs : List (DataW H)} {ps : List MemPlace}, DataW.TrodVars enc P w spare ns gs ps → gs.length = ns.length
  | [], [], _, _ => rfl
  | [], _ :: _, _, h => by simp [DataW.TrodVars] at h
  | _ :: _, [], _, h => by simp [DataW.TrodVars] at h
  | _ :: _, _ :: _, _, h => by
    obtain ⟨g, t, cs, fuel, p, q, _, _, _, _, hs, _⟩ := h
    simp only [List.length_cons, trodVars_len hs]
end Go.Proofs.YtfhihhkdbdidnaaDoor
