/- A paper that came in, opened. -/
import Derived.Test.YtkopinnhicoggaaCertP
import Derived.ProofKit
import Derived.SliceStrings
import Derived.Deep.Strs
namespace Go.Proofs.Ytkopinnhicoggaa
open Go.RowKit Go.WideShapes Go.ChangeShapes Go.Deep

theorem array11 {α : Type} {cs : Array α} (h : cs.size = 11) : ∃ c0 c1 c2 c3 c4 c5 c6 c7 c8 c9 c10, cs = #[c0, c1, c2, c3, c4, c5, c6, c7, c8, c9, c10] := by
  obtain ⟨l⟩ := cs
  match l, h with
  | [c0, c1, c2, c3, c4, c5, c6, c7, c8, c9, c10], _ => exact ⟨c0, c1, c2, c3, c4, c5, c6, c7, c8, c9, c10, rfl⟩
theorem cellsInt : Try.prog.cellsOf 2 = 1 := by kernel_rfl
theorem cellsStr : Try.prog.cellsOf 9 = 1 := by kernel_rfl
theorem cellsStrs : Try.prog.cellsOf 22 = 1 := by kernel_rfl
theorem cellsBool : Try.prog.cellsOf 4 = 1 := by kernel_rfl
theorem cellsSig : Try.prog.cellsOf 24 = 3 := by kernel_rfl
theorem cellsCert : Try.prog.cellsOf 26 = 11 := by kernel_rfl
/-- What is known of a paper that came in. -/
structure Came (W : World) (c : Paper) (a : Option Addr) : Prop where
  strs : IsStrs W a c.names
  len : c.names.length ≤ maxLen
  each : ∀ s ∈ c.names, s.size ≤ maxLen
  iss : c.issuer.size ≤ maxLen
  sub : c.subject.size ≤ maxLen
  wser : (Lit.int .i64 c.serial).wf = true
  wfr : (Lit.int .i64 c.fr).wf = true
  wtill : (Lit.int .i64 c.till).wf = true
  wkey : (Lit.int .i64 c.key).wf = true
  wsk : (Lit.int .i64 c.sk).wf = true
  wse : (Lit.int .i64 c.se).wf = true
  wss : (Lit.int .i64 c.ss).wf = true
theorem open_names {H : Type} {enc : TypeId × Value → H} {W : World} {base : Nat} {spare : Nat → Bool} {held : Bool} {n : Nat} {v : Value} {x : DataW H × List MemPlace} (h : DataW.trod enc Try.prog W base spare held n 22 [v] = some x) :
    ∃ (a : Option Addr) (ss : List ByteArray) (cap : Nat), v = .slice a ss.length cap ∧ IsStrs W a ss ∧ ss.length ≤ maxLen ∧ ∀ s ∈ ss, s.size ≤ maxLen := by
  rcases open_strings Try.underlying22 Try.underlying9 cellsStr h with ⟨hcs, _⟩ | ⟨x, len, cap, ss, hcs, _, hl, hm, hz, _, hcell, hws⟩
  · exact ⟨none, [], 0, (List.cons.inj hcs).1, .inl rfl, Nat.zero_le _, fun s hs => by cases hs⟩
  · have hle : len ≤ ss.length := by rw [hz]; split <;> omega
    have hlen : (ss.take len).length = len := by rw [List.length_take]; omega
    refine ⟨some x, ss.take len, cap, by rw [hlen]; exact (List.cons.inj hcs).1, ?_, by rw [hlen]; omega, fun s hs => hws s (List.mem_of_mem_take hs)⟩
    by_cases h0 : len = 0
    · exact .inl (by simp [h0])
    obtain ⟨b, off, spot⟩ := x
    have hc0 := hcell 0 (by omega)
    have hspot : spot = none := by simpa [Addr.add] using World.cell?_spot hc0
    subst hspot
    refine .inr ⟨b, off, rfl, fun i hi => ?_⟩
    rw [hlen] at hi
    have h1 := hcell i (by omega)
    rw [Addr.add_lit] at h1
    rw [h1, tAt, List.getD, List.getD, List.getElem?_take, if_pos hi]
set_option linter.unusedSimpArgs false in
theorem openCert {H : Type} {enc : TypeId × Value → H} {W : World} {base b0 : Nat} {r : Reach} {spare : Nat → Bool} {held : Bool} {v : Value} {d : DataW H} {p : List MemPlace}
    (hv : Value.okWide Try.prog W r b0 26 v) (h : DataW.Trod enc Try.prog W base spare held 26 v d p) :
    ∃ (c : Paper) (a : Option Addr) (cap : Nat), v = c.val (.slice a c.names.length cap) ∧ Came W c a := by
  obtain ⟨cs, rfl, hsz⟩ := okWide_struct Try.underlying26 hv
  obtain ⟨c0, c1, c2, c3, c4, c5, c6, c7, c8, c9, c10, rfl⟩ := array11 (hsz.trans cellsCert)
  obtain ⟨fuel, hf⟩ := h
  obtain ⟨xs, n, _, _, _, hlen, hff⟩ := DataW.trod_struct Try.underlying26 hf
  have hx : ∀ i, i < 9 → ∃ y, xs[i]? = some y := fun i hi => ⟨xs[i]'(by rw [hlen]; exact hi), List.getElem?_eq_getElem _⟩
  obtain ⟨y0, e0⟩ := hx 0 (by omega)
  obtain ⟨y1, e1⟩ := hx 1 (by omega)
  obtain ⟨y2, e2⟩ := hx 2 (by omega)
  obtain ⟨y3, e3⟩ := hx 3 (by omega)
  obtain ⟨y4, e4⟩ := hx 4 (by omega)
  obtain ⟨y5, e5⟩ := hx 5 (by omega)
  obtain ⟨y6, e6⟩ := hx 6 (by omega)
  obtain ⟨y7, e7⟩ := hx 7 (by omega)
  obtain ⟨y8, e8⟩ := hx 8 (by omega)
  have t0 := (hff 0 _ rfl).trans e0
  have t1 := (hff 1 _ rfl).trans e1
  have t2 := (hff 2 _ rfl).trans e2
  have t3 := (hff 3 _ rfl).trans e3
  have t4 := (hff 4 _ rfl).trans e4
  have t5 := (hff 5 _ rfl).trans e5
  have t6 := (hff 6 _ rfl).trans e6
  have t7 := (hff 7 _ rfl).trans e7
  have t8 := (hff 8 _ rfl).trans e8
  simp only [Value.cells, cellsInt, cellsStr, cellsStrs, cellsBool, cellsSig, List.drop_zero, List.drop_succ_cons, List.take_succ_cons, List.take_zero] at t0 t1 t2 t3 t4 t5 t6 t7 t8
  obtain ⟨ser, g0, _, w0⟩ := DataW.trod_int Try.underlying2 t0
  obtain ⟨iss, g1, _, w1⟩ := DataW.trod_string Try.underlying9 t1
  obtain ⟨sub, g2, _, w2⟩ := DataW.trod_string Try.underlying9 t2
  obtain ⟨fr, g3, _, w3⟩ := DataW.trod_int Try.underlying2 t3
  obtain ⟨till, g4, _, w4⟩ := DataW.trod_int Try.underlying2 t4
  obtain ⟨key, g5, _, w5⟩ := DataW.trod_int Try.underlying2 t5
  obtain ⟨a, ss, cap, g6, hs, hl, he⟩ := open_names t6
  obtain ⟨ca, g7, _⟩ := DataW.trod_bool Try.underlying4 t7
  obtain ⟨z0, z1, z2, m, _, _, u0, u1, u2⟩ := trod_struct3 Try.underlying24 t8
  simp only [cellsInt, List.drop_zero, List.drop_succ_cons, List.take_succ_cons, List.take_zero] at u0 u1 u2
  obtain ⟨sk, g8, _, w8⟩ := DataW.trod_int Try.underlying2 u0
  obtain ⟨se, g9, _, w9⟩ := DataW.trod_int Try.underlying2 u1
  obtain ⟨s3, g10, _, w10⟩ := DataW.trod_int Try.underlying2 u2
  obtain rfl := (List.cons.inj g0).1
  obtain rfl := (List.cons.inj g1).1
  obtain rfl := (List.cons.inj g2).1
  obtain rfl := (List.cons.inj g3).1
  obtain rfl := (List.cons.inj g4).1
  obtain rfl := (List.cons.inj g5).1
  obtain rfl := g6
  obtain rfl := (List.cons.inj g7).1
  obtain rfl := (List.cons.inj g8).1
  obtain rfl := (List.cons.inj g9).1
  obtain rfl := (List.cons.inj g10).1
  exact ⟨⟨ser, iss, sub, fr, till, key, ss, ca, sk, se, s3⟩, a, cap, rfl, ⟨hs, hl, he, w1, w2, w0, w3, w4, w5, w8, w9, w10⟩⟩
end Go.Proofs.Ytkopinnhicoggaa
