/- A paper that came in, opened. -/
import Derived.Test.YtkinobpchocooaaGreatDoorCGd02
import Derived.Test.YtkinobpchocooaaGreatDoorCGd16
import Derived.ProofKit
import Derived.SliceStrings
import Derived.Deep.Strs
namespace Go.Proofs.YtkinobpchocooaaGreatDoor
open Go.RowKit Go.WideShapes Go.ChangeShapes Go.Deep

theorem array11 {α : Type} {cs : Array α} (h : cs.size = 11) : ∃ c0 c1 c2 c3 c4 c5 c6 c7 c8 c9 c10, cs = #[c0, c1, c2, c3, c4, c5, c6, c7, c8, c9, c10] := by
  obtain ⟨l⟩ := cs
  match l, h with
  | [c0, c1, c2, c3, c4, c5, c6, c7, c8, c9, c10], _ => exact ⟨c0, c1, c2, c3, c4, c5, c6, c7, c8, c9, c10, rfl⟩
theorem cellsCert : Tryz.prog.cellsOf 26 = 11 := by kernel_rfl
/-- What is known of a paper that came in. -/
structure Came (W : World) (c : Paper) (a : Option Addr) : Prop where
  strs : IsStrs W a c.names
  len : c.names.length ≤ maxLen
  each : ∀ s ∈ c.names, s.size ≤ maxLen
  iss : c.issuer.size ≤ maxLen
  sub : c.subject.size ≤ maxLen
  wser : (Lit.int .i64 c.serial).wf = true
  wfr : (Lit.int .i64 c.fr).wf = true
  wtill : (Lit.int .i64 c.till).wf = true
  wkey : (Lit.int .i64 c.key).wf = true
  wsk : (Lit.int .i64 c.sk).wf = true
  wse : (Lit.int .i64 c.se).wf = true
  wss : (Lit.int .i64 c.ss).wf = true
set_option linter.unusedSimpArgs false in
set_option maxRecDepth 100000 in
theorem openCert {H : Type} {enc : TypeId × Value → H} {W : World} {base b0 : Nat} {r : Reach} {spare : Nat → Bool} {held : Bool} {v : Value} {d : DataW H} {p : List MemPlace}
    (hv : Value.okWide Tryz.prog W r b0 26 v) (h : DataW.Trod enc Tryz.prog W base spare held 26 v d p) :
    ∃ (c : Paper) (a : Option Addr) (cap : Nat), v = c.val (.slice a c.names.length cap) ∧ Came W c a := by
  obtain ⟨cs, rfl, hsz⟩ := okWide_struct Tryz.underlying26 hv
  obtain ⟨c0, c1, c2, c3, c4, c5, c6, c7, c8, c9, c10, rfl⟩ := array11 (hsz.trans cellsCert)
  obtain ⟨fuel, hf⟩ := h
  obtain ⟨xs, n, _, _, _, hlen, hff⟩ := DataW.trod_struct Tryz.underlying26 hf
  have hx : ∀ i, i < 9 → ∃ y, xs[i]? = some y := fun i hi => ⟨xs[i]'(by rw [hlen]; exact hi), List.getElem?_eq_getElem _⟩
  obtain ⟨y0, e0⟩ := hx 0 (by omega)
  obtain ⟨y1, e1⟩ := hx 1 (by omega)
  obtain ⟨y2, e2⟩ := hx 2 (by omega)
  obtain ⟨y3, e3⟩ := hx 3 (by omega)
  obtain ⟨y4, e4⟩ := hx 4 (by omega)
  obtain ⟨y5, e5⟩ := hx 5 (by omega)
  obtain ⟨y6, e6⟩ := hx 6 (by omega)
  obtain ⟨y7, e7⟩ := hx 7 (by omega)
  obtain ⟨y8, e8⟩ := hx 8 (by omega)
  have t0 := (hff 0 _ rfl).trans e0
  have t1 := (hff 1 _ rfl).trans e1
  have t2 := (hff 2 _ rfl).trans e2
  have t3 := (hff 3 _ rfl).trans e3
  have t4 := (hff 4 _ rfl).trans e4
  have t5 := (hff 5 _ rfl).trans e5
  have t6 := (hff 6 _ rfl).trans e6
  have t7 := (hff 7 _ rfl).trans e7
  have t8 := (hff 8 _ rfl).trans e8
  simp only [Value.cells, cellsInt, cellsStr, cellsStrs, cellsBool, cellsSig, List.drop_zero, List.drop_succ_cons, List.take_succ_cons, List.take_zero] at t0 t1 t2 t3 t4 t5 t6 t7 t8
  obtain ⟨ser, g0, _, w0⟩ := DataW.trod_int Tryz.underlying2 t0
  obtain ⟨iss, g1, _, w1⟩ := DataW.trod_string Tryz.underlying9 t1
  obtain ⟨sub, g2, _, w2⟩ := DataW.trod_string Tryz.underlying9 t2
  obtain ⟨fr, g3, _, w3⟩ := DataW.trod_int Tryz.underlying2 t3
  obtain ⟨till, g4, _, w4⟩ := DataW.trod_int Tryz.underlying2 t4
  obtain ⟨key, g5, _, w5⟩ := DataW.trod_int Tryz.underlying2 t5
  obtain ⟨a, ss, cap, g6, hs, hl, he⟩ := open_names t6
  obtain ⟨ca, g7, _⟩ := DataW.trod_bool Tryz.underlying4 t7
  obtain ⟨z0, z1, z2, m, _, _, u0, u1, u2⟩ := trod_struct3 Tryz.underlying24 t8
  simp only [cellsInt, List.drop_zero, List.drop_succ_cons, List.take_succ_cons, List.take_zero] at u0 u1 u2
  obtain ⟨sk, g8, _, w8⟩ := DataW.trod_int Tryz.underlying2 u0
  obtain ⟨se, g9, _, w9⟩ := DataW.trod_int Tryz.underlying2 u1
  obtain ⟨s3, g10, _, w10⟩ := DataW.trod_int Tryz.underlying2 u2
  obtain rfl := (List.cons.inj g0).1
  obtain rfl := (List.cons.inj g1).1
  obtain rfl := (List.cons.inj g2).1
  obtain rfl := (List.cons.inj g3).1
  obtain rfl := (List.cons.inj g4).1
  obtain rfl := (List.cons.inj g5).1
  obtain rfl := g6
  obtain rfl := (List.cons.inj g7).1
  obtain rfl := (List.cons.inj g8).1
  obtain rfl := (List.cons.inj g9).1
  obtain rfl := (List.cons.inj g10).1
  exact ⟨⟨ser, iss, sub, fr, till, key, ss, ca, sk, se, s3⟩, a, cap, rfl, ⟨hs, hl, he, w1, w2, w0, w3, w4, w5, w8, w9, w10⟩⟩
end Go.Proofs.YtkinobpchocooaaGreatDoor
