/- What a function returns in a variable of its own: the variable over a call. No program is named. spec.l06Copy, walked. spec.l05Put, walked. spec.l05Seven, walked. What the program's table of types says of int64. A row of whole numbers: what is said of it. spec.l05Oid, walked. spec.l06Seq, spec.l06Name, walked. spec.l06Kind, walked. The specification's papers in bytes: spec.l06Seq, l06Kind, l06Name, l06Hosts, walked. -/
import Derived.Test.YtegmmaomaegjjaaGreatDoorPT01
import Derived.Test.YtegmmaomaegjjaaGreatDoorPT02
import Derived.Test.YtegmmaomaegjjaaGreatDoorPT05
import Derived.Test.YtegmmaomaegjjaaGreatDoorPT03
import Derived.Test.YtegmmaomaegjjaaGreatDoorPT04
import Derived.Deep.Cut
import Derived.Deep.RegionHeld3
import Derived.Handy
import Derived.Deep.QuietTactic
import Derived.BigQuiet
namespace Go.Proofs.YtegmmaomaegjjaaGreatDoor
open Go.RowKit

theorem resKeep {w w1 : World} {cs : List Value} {T : Nat} (hb : Below (w.alloc (.cells cs.toArray T (0, 0))).heap.size (w.alloc (.cells cs.toArray T (0, 0))) w1) :
    w1.heap[w.heap.size]? = some (.cells cs.toArray T (0, 0)) ∧ Below w.heap.size w w1 ∧ w.heap.size < w1.heap.size := by
  have hs : (w.alloc (.cells cs.toArray T (0, 0))).heap.size = w.heap.size + 1 := by simp
  have hl := hb.size
  refine ⟨?_, ((Below.refl _ w).alloc (Nat.le_refl _) _).trans (hb.mono (by omega)), by omega⟩
  rw [hb.block w.heap.size (by omega)]
  exact heap_alloc_new w _
theorem rowFree {w : World} {g : Nat} {cs : List Value} {t : TypeId} (hg : w.heap[g]? = some (.cells cs.toArray t (0, 0))) (j : Nat) : w.frozen? ⟨g, j, none⟩ = false := frozen_of_row w g j _ t hg
/-- Three cells of a variable. -/
theorem cells3 {w : World} {g : Nat} {a b c : Value} {t : TypeId} (h : w.heap[g]? = some (.cells [a, b, c].toArray t (0, 0))) :
    (w.cell? ⟨g, 0, none⟩ = some a ∧ w.cell? ⟨g, 1, none⟩ = some b ∧ w.cell? ⟨g, 2, none⟩ = some c) ∧ w.frozen? ⟨g, 0, none⟩ = false ∧ w.frozen? ⟨g, 1, none⟩ = false ∧ w.frozen? ⟨g, 2, none⟩ = false :=
  ⟨⟨rowFacts h 0 _ rfl, rowFacts h 1 _ rfl, rowFacts h 2 _ rfl⟩, rowFree h 0, rowFree h 1, rowFree h 2⟩
theorem cells2 {w : World} {g : Nat} {a b : Value} {t : TypeId} (h : w.heap[g]? = some (.cells [a, b].toArray t (0, 0))) :
    (w.cell? ⟨g, 0, none⟩ = some a ∧ w.cell? ⟨g, 1, none⟩ = some b) ∧ w.frozen? ⟨g, 0, none⟩ = false ∧ w.frozen? ⟨g, 1, none⟩ = false :=
  ⟨⟨rowFacts h 0 _ rfl, rowFacts h 1 _ rfl⟩, rowFree h 0, rowFree h 1⟩
theorem cells4 {w : World} {g : Nat} {a b c d : Value} {t : TypeId} (h : w.heap[g]? = some (.cells [a, b, c, d].toArray t (0, 0))) :
    (w.cell? ⟨g, 0, none⟩ = some a ∧ w.cell? ⟨g, 1, none⟩ = some b ∧ w.cell? ⟨g, 2, none⟩ = some c ∧ w.cell? ⟨g, 3, none⟩ = some d) ∧ w.frozen? ⟨g, 0, none⟩ = false ∧ w.frozen? ⟨g, 1, none⟩ = false ∧ w.frozen? ⟨g, 2, none⟩ = false ∧ w.frozen? ⟨g, 3, none⟩ = false :=
  ⟨⟨rowFacts h 0 _ rfl, rowFacts h 1 _ rfl, rowFacts h 2 _ rfl, rowFacts h 3 _ rfl⟩, rowFree h 0, rowFree h 1, rowFree h 2, rowFree h 3⟩
end Go.Proofs.YtegmmaomaegjjaaGreatDoor
namespace Go.Proofs.YtegmmaomaegjjaaGreatDoor
open Go.RowKit

theorem oneCell_strs (l : List ByteArray) : ∀ u ∈ sCells l, u.oneCell' = true := by
  intro u hu
  simp only [sCells, List.mem_map] at hu
  obtain ⟨s, _, rfl⟩ := hu
  rfl
set_option maxHeartbeats 4000000 in
set_option maxRecDepth 100000 in
theorem specCopyR (c : Paper) (a : Option Addr) (cap : Nat) (w : World) (hl : c.names.length ≤ 1048576) (hA : RowT w a cap c.names) :
    Calls Tryz.prog 52 #[c.val (.slice a c.names.length cap)] w fun e w' => ∃ v, e = .returned (c.val v) ∧ OwnS w' w.heap.size v c.names ∧ Below w.heap.size w w' ∧ v ≠ .slice none 0 0 := by
  obtain ⟨ser, iss, sub, fr, till, key, names, ca, sk, se, ss⟩ := c
  simp only at hl hA
  unfold Paper.val
  simp only
  obtain ⟨i0, hi0, hz0, hz1, hz2⟩ := info_parts infoText
  have HN : Hid (∀ V, Below w.heap.size w V → SrcRow V a names.length cap (sCells names)) := fun V hV => (hA.keep hV).src
  obtain ⟨nl, hnl⟩ : ∃ nl, nl = names.length := ⟨_, rfl⟩
  rw [← hnl] at hl HN ⊢
  have HNl : Hid (nl = names.length) := hnl
  clear hnl hA
  obtain ⟨w1, hw1⟩ : ∃ w1, w1 = (w.alloc (.cells #[.int .i64 ser, .string iss, .string sub, .int .i64 fr, .int .i64 till, .int .i64 key, .slice a nl cap, .bool ca, .int .i64 sk, .int .i64 se, .int .i64 ss] 27 (0, 0))).alloc (.cells #[.int .i64 0, .string ⟨#[]⟩, .string ⟨#[]⟩, .int .i64 0, .int .i64 0, .int .i64 0, .slice none 0 0, .bool false, .int .i64 0, .int .i64 0, .int .i64 0] 27 (0, 0)) := ⟨_, rfl⟩
  have r0 : w1.heap[w.heap.size]? = some (.cells [Value.int .i64 ser, .string iss, .string sub, .int .i64 fr, .int .i64 till, .int .i64 key, .slice a nl cap, .bool ca, .int .i64 sk, .int .i64 se, .int .i64 ss].toArray 27 (0, 0)) := by rw [hw1, Below.heap_alloc _ _ _ (by simp)]; exact heap_alloc_new w _
  have r1 : w1.heap[w.heap.size + 1]? = some (.cells [Value.int .i64 0, .string ⟨#[]⟩, .string ⟨#[]⟩, .int .i64 0, .int .i64 0, .int .i64 0, .slice none 0 0, .bool false, .int .i64 0, .int .i64 0, .int .i64 0].toArray 27 (0, 0)) := by rw [hw1]; exact heap_alloc2 w _ _
  have z1 : w1.heap.size = w.heap.size + 2 := by rw [hw1]; simp
  have K1 : Hid (Below w.heap.size w w1) := by rw [hw1]; exact ((Below.refl _ _).alloc (Nat.le_refl _) _).alloc (by simp) _
  go_enter Tryz.func52, Tryz.ntmps52
  go_upto_region 1 with fail
  rw [← hw1]
  clear hw1
  have c6 := rowFacts r0 6 _ rfl
  have c6a : ∀ ob, (w1.alloc ob).cell? ⟨w.heap.size, 6, none⟩ = some (.slice a nl cap) := fun ob => by rw [World.cell?_alloc_lt _ _ _ (by show w.heap.size < w1.heap.size; omega)]; exact c6
  have hown : (w1.alloc (.cells #[] 9 (0, 0))).ownsRow (w.heap.size + 2) 9 1 (.slice (some ⟨w1.heap.size, 0, none⟩) 0 0) 0 [] := by
    have := World.ownsRow_lit (base := w.heap.size + 2) (e := 9) (size := 1) w1 #[] 0 (by omega) (by decide) rfl
    simpa using this
  have hnews := HN.out _ (K1.out.alloc K1.out.size (.cells #[] 9 (0, 0)))
  have R0 : Hid _ := r0
  have R1 : Hid _ := r1
  have Z1 : Hid (w1.heap.size = w.heap.size + 2) := z1
  clear r0 r1 z1
  go_wp2_with (at_builtin; refine wpList_append_opt rfl _ _ 23 rfl (w.heap.size + 2) 9 i0 (.string ⟨#[]⟩) 1 16 Tryz.underlying23 hi0 hz0 hz1 hz2 rfl (by decide) _ _ _ rfl hown a nl cap (sCells names) rfl ?c0 hnews ?c2 ?c3 ?c4 ?c5 ?_)
  case c0 => rw [HNl.out]; simp [sCells]
  case c2 => exact oneCell_strs names
  case c3 => unfold maxLen; omega
  case c4 => omega
  case c5 => have := Z1.out; simp; omega
  intro v' w2 hown' hgrow hnil
  have z2 : w.heap.size + 2 ≤ w2.heap.size := by have h := hgrow.size; simp at h; have := Z1.out; omega
  have hkeep : ∀ b, b < w.heap.size + 2 → w2.heap[b]? = w1.heap[b]? := fun b hb => by
    rw [hgrow.block b (by have := Z1.out; simp; omega) (fun e => by have h := (hown.lt b e.symm).1; omega)]
    exact Below.heap_alloc _ _ _ (by have := Z1.out; omega)
  have r0 : w2.heap[w.heap.size]? = some (.cells [Value.int .i64 ser, .string iss, .string sub, .int .i64 fr, .int .i64 till, .int .i64 key, .slice a nl cap, .bool ca, .int .i64 sk, .int .i64 se, .int .i64 ss].toArray 27 (0, 0)) := by rw [hkeep _ (by omega)]; exact R0.out
  have r1 : w2.heap[w.heap.size + 1]? = some (.cells [Value.int .i64 0, .string ⟨#[]⟩, .string ⟨#[]⟩, .int .i64 0, .int .i64 0, .int .i64 0, .slice none 0 0, .bool false, .int .i64 0, .int .i64 0, .int .i64 0].toArray 27 (0, 0)) := by rw [hkeep _ (by omega)]; exact R1.out
  have K2 : Hid (Below w.heap.size w w2) := (K1.out.alloc K1.out.size _).grown hgrow (by have := Z1.out; simp; omega) (fun k hk => by have := (hown.lt k hk).1; omega)
  have O2 : Hid (OwnS w2 (w.heap.size + 2) v' names) := by
    show World.ownsRow _ _ _ _ _ _ _
    rw [← HNl.out]
    simpa using hown'
  have HNN : Hid (v' ≠ .slice none 0 0) := fun e => by simpa using hnil e
  clear hown' hgrow hnil hkeep hown hnews c6a c6 R0 R1 K1 Z1 HN
  obtain ⟨va, vc, hv, _⟩ := OwnS.form O2.out
  rw [← HNl.out] at hv
  subst hv
  obtain ⟨C, hC⟩ : ∃ C, C = [Value.int .i64 ser, .string iss, .string sub, .int .i64 fr, .int .i64 till, .int .i64 key, .slice va nl vc, .bool ca, .int .i64 sk, .int .i64 se, .int .i64 ss] := ⟨_, rfl⟩
  obtain ⟨w7, hw7⟩ : ∃ x, x = w2.setCell ⟨w.heap.size, 6, none⟩ (.slice va nl vc) := ⟨_, rfl⟩
  have t0 : w7.heap[w.heap.size]? = some (.cells C.toArray 27 (0, 0)) := by rw [hw7, hC]; exact rowSet (i := 6) _ r0
  have t1 : w7.heap[w.heap.size + 1]? = some (.cells [Value.int .i64 0, .string ⟨#[]⟩, .string ⟨#[]⟩, .int .i64 0, .int .i64 0, .int .i64 0, .slice none 0 0, .bool false, .int .i64 0, .int .i64 0, .int .i64 0].toArray 27 (0, 0)) := by rw [hw7, heap_setCell_other _ _ _ _ (by simp)]; exact r1
  have K7 : Hid (Below w.heap.size w w7) := by rw [hw7]; exact K2.out.setCell (by simp) _
  have O7 : Hid (OwnS w7 (w.heap.size + 2) (.slice va nl vc) names) := O2.out.same fun k h1 h2 => by rw [hw7, heap_setCell_other _ _ _ _ (by show k ≠ w.heap.size; omega)]
  have hone : ∀ v ∈ C, v.oneCell' = true := by rw [hC]; simp [Value.oneCell']
  have hi : (Tryz.prog.info? 27).map (·.size) = some C.length := by rw [hC]; exact sizeCert
  have hlen : [Value.int .i64 0, .string ⟨#[]⟩, .string ⟨#[]⟩, .int .i64 0, .int .i64 0, .int .i64 0, .slice none 0 0, .bool false, .int .i64 0, .int .i64 0, .int .i64 0].length = C.length := by rw [hC]; rfl
  have HCC : Hid (C = [Value.int .i64 ser, .string iss, .string sub, .int .i64 fr, .int .i64 till, .int .i64 key, .slice va nl vc, .bool ca, .int .i64 sk, .int .i64 se, .int .i64 ss]) := hC
  have c6 := rowFacts r0 6 _ rfl
  have f6 := rowFree r0 6
  have T0 : Hid _ := t0
  have T1 : Hid _ := t1
  have HOne : Hid (∀ v ∈ C, v.oneCell' = true) := hone
  have HI : Hid ((Tryz.prog.info? 27).map (·.size) = some C.length) := hi
  have HLen : Hid ([Value.int .i64 0, .string ⟨#[]⟩, .string ⟨#[]⟩, .int .i64 0, .int .i64 0, .int .i64 0, .slice none 0 0, .bool false, .int .i64 0, .int .i64 0, .int .i64 0].length = C.length) := hlen
  clear r0 r1 t0 t1 K2 z2 O2 hone hi hlen hC
  go_upto_region 2 with fail
  rw [← hw7]
  clear hw7 c6 f6
  have hr := rangeRow T0.out
  have hR := T1.out
  have h1 := HOne.out
  have hi := HI.out
  go_wp2_with (first | (refine wpList_load_mid rfl 27 _ rfl (w.heap.size) 0 rfl C _ hr Tryz.underlying27 rfl hi ?_) | (refine wpList_store_row rfl 27 _ _ rfl (w.heap.size + 1) _ C 27 rfl rfl hR HLen.out hi h1 ?_))
  intro w8 hrow ho hs8 hbb
  have HROW : Hid _ := hrow
  have HB8 : Hid (Below w.heap.size w w8) := hbb _ _ (by omega) K7.out
  have O8 : Hid (OwnS w8 (w.heap.size + 2) (.slice va nl vc) names) := O7.out.same fun k h1 h2 => ho k (by omega)
  clear ho hs8 hbb hrow hr hR h1
  go_wp2
  refine bodyPost_ret (v := .agg C.toArray) ?_ rfl ⟨_, by rw [HCC.out], O8.out.mono (by omega), HB8.out, HNN.out⟩
  have hl3 := run_loadVar_mid (P := Tryz.prog) _ (w.heap.size + 1) 0 27 _ _ (rangeRow HROW.out) Tryz.underlying27 rfl hi
  simp [results, Tryz.results52, asAddr, hl3]
theorem specCopyN (c : Paper) (g o : Nat) (cap : Nat) (w : World) (hl : c.names.length ≤ 1048576) (hgw : g < w.heap.size) (hc : ∀ i, i < c.names.length → w.cell? ⟨g, o + i, none⟩ = some (.string (tAt c.names i))) :
    Calls Tryz.prog 52 #[c.val (.slice (some ⟨g, o, none⟩) c.names.length cap)] w fun e w' => ∃ v, e = .returned (c.val v) ∧ OwnS w' w.heap.size v c.names ∧ Below w.heap.size w w' ∧ v ≠ .slice none 0 0 :=
  specCopyR c _ cap w hl (.inr ⟨g, o, rfl, hgw, hc⟩)
theorem specCopy (c : Paper) (g o : Nat) (cap : Nat) (w : World) (hl : c.names.length ≤ 1048576) (hgw : g < w.heap.size) (hc : ∀ i, i < c.names.length → w.cell? ⟨g, o + i, none⟩ = some (.string (tAt c.names i))) :
    Calls Tryz.prog 52 #[c.val (.slice (some ⟨g, o, none⟩) c.names.length cap)] w fun e w' => ∃ v, e = .returned (c.val v) ∧ OwnS w' w.heap.size v c.names ∧ Below w.heap.size w w' :=
  (specCopyN c g o cap w hl hgw hc).mono fun _ _ ⟨v, h1, h2, h3, _⟩ => ⟨v, h1, h2, h3⟩
end Go.Proofs.YtegmmaomaegjjaaGreatDoor
namespace Go.Proofs.YtegmmaomaegjjaaGreatDoor
open Go.RowKit Go.Lib

/-- 'string(b)' of a row that was just laid. -/
theorem convertLit (w : World) (cs : Array Value) (xs : List Int) (hc : cs = (xs.map (Value.int .u8)).toArray) (n : Nat) (hn : xs.length = n) (T : Nat) :
    (convert 22 9 (.slice (some ⟨w.heap.size, 0, none⟩) n n)).run Tryz.prog (w.alloc (.cells cs T (0, 0))) = .ok (.string (strOfNums xs)) (w.alloc (.cells cs T (0, 0))) := by
  subst hc
  refine run_convert_bytes_arg _ 22 5 Tryz.underlying22 Tryz.underlying5 w.heap.size 0 n n xs hn ?_ 9 Tryz.underlying9
  intro i hi
  rw [Nat.zero_add, cell_of_row _ _ i _ T (0, 0) (heap_alloc_new w _)]
  have hi' : i < xs.length := by omega
  simp [hi', List.getD]
theorem convertLit2 (w : World) (o : Obj) (cs : Array Value) (xs : List Int) (hc : cs = (xs.map (Value.int .u8)).toArray) (n : Nat) (hn : xs.length = n) (T : Nat) :
    (convert 22 9 (.slice (some ⟨w.heap.size + 1, 0, none⟩) n n)).run Tryz.prog ((w.alloc o).alloc (.cells cs T (0, 0))) = .ok (.string (strOfNums xs)) ((w.alloc o).alloc (.cells cs T (0, 0))) := by
  have h := convertLit (w.alloc o) cs xs hc n hn T
  simpa using h
theorem strJoin_eq (t : Int) (b : ByteArray) (l : List Int) (h : lenD b.size = l) : strOfNums (t :: l) ++ b = thingD t b := by rw [thingD, headD, h]
set_option maxHeartbeats 1000000 in
set_option maxRecDepth 100000 in
theorem specThing (t : Int) (b : ByteArray) (w : World) (h0 : 0 ≤ t) (h1 : t ≤ 255) (hb : b.size ≤ 20000) :
    Calls Tryz.prog 87 #[.int .i64 t, .string b] w fun e w' => e = .returned (.string (thingD t b)) ∧ Below w.heap.size w w' := by
  by_cases c1 : b.size < 128
  · have hcv := convertLit w #[.int .u8 t, .int .u8 (b.size : Int)] [t, (b.size : Int)] rfl 2 rfl 5
    have hsz : (strOfNums [t, (b.size : Int)]).size = 2 := by rw [strOfNums_size]; rfl
    have HF : Hid (strOfNums [t, (b.size : Int)] ++ b = thingD t b) := strJoin_eq _ _ _ (by rw [lenD, if_pos c1])
    generalize strOfNums [t, (b.size : Int)] = s at *
    go_enter Tryz.func87, Tryz.ntmps87
    go_wp2
    go_ret
    exact ⟨by rw [← HF.out]; rfl, (Below.refl _ _).alloc (Nat.le_refl _) _⟩
  by_cases c2 : b.size < 256
  · have hcv := fun o => convertLit2 w o #[.int .u8 t, .int .u8 129, .int .u8 (b.size : Int)] [t, 129, (b.size : Int)] rfl 3 rfl 5
    have hsz : (strOfNums [t, 129, (b.size : Int)]).size = 3 := by rw [strOfNums_size]; rfl
    have HF : Hid (strOfNums [t, 129, (b.size : Int)] ++ b = thingD t b) := strJoin_eq _ _ _ (by rw [lenD, if_neg c1, if_pos c2])
    generalize strOfNums [t, 129, (b.size : Int)] = s at *
    go_enter Tryz.func87, Tryz.ntmps87
    go_wp2
    go_ret
    exact ⟨by rw [← HF.out]; rfl, ((Below.refl _ _).alloc (Nat.le_refl _) _).alloc (by simp) _⟩
  · have hcv := fun o => convertLit2 w o #[.int .u8 t, .int .u8 130, .int .u8 ((b.size : Int) / 256), .int .u8 ((b.size : Int) % 256)] [t, 130, (b.size : Int) / 256, (b.size : Int) % 256] rfl 4 rfl 5
    have hsz : (strOfNums [t, 130, (b.size : Int) / 256, (b.size : Int) % 256]).size = 4 := by rw [strOfNums_size]; rfl
    have HF : Hid (strOfNums [t, 130, (b.size : Int) / 256, (b.size : Int) % 256] ++ b = thingD t b) := strJoin_eq _ _ _ (by rw [lenD, if_neg c1, if_neg c2]; simp)
    generalize strOfNums [t, 130, (b.size : Int) / 256, (b.size : Int) % 256] = s at *
    go_enter Tryz.func87, Tryz.ntmps87
    go_wp2
    go_ret
    exact ⟨by rw [← HF.out]; rfl, ((Below.refl _ _).alloc (Nat.le_refl _) _).alloc (by simp) _⟩
end Go.Proofs.YtegmmaomaegjjaaGreatDoor
namespace Go.Proofs.YtegmmaomaegjjaaGreatDoor
open Go.RowKit

theorem own_sliceW {w : World} {B e n : Nat} {v : Value} {xs : List Value} (h : w.ownsRow B e 1 v n xs) (hn : 0 < n) : ∃ g cap, v = .slice (some ⟨g, 0, none⟩) n cap := by
  rcases h.2 with ⟨_, h'⟩ | ⟨g, cap, _, h', _⟩
  · omega
  · exact ⟨g, cap, h'⟩
def sLenW : Value → Nat
  | .slice _ n _ => n
  | _ => 0
set_option maxHeartbeats 1000000 in
set_option maxRecDepth 100000 in
theorem specSeven (x : Nat) (w : World) (hx : x < 9223372036854775808) :
    Calls Tryz.prog 138 #[.int .i64 (x : Int)] w fun e w' => e = .returned (.string (strOfNums (sevL x))) ∧ Below w.heap.size w w' := by
  obtain ⟨i0, hi, hz0, hz1, hz2⟩ := info_parts infoByte
  go_enter Tryz.func138, Tryz.ntmps138
  go_wp2_with fail
  go_loopw [0, 3] (fun n b wr => ∃ (y f g c : Nat) (tl : List Int), y < 128 ^ f ∧ y < 9223372036854775808 ∧ f + tl.length ≤ 9 ∧ n = .int .i64 (y : Int) ∧ b = .slice (some ⟨g, 0, none⟩) (tl.length + 1) c ∧
      wr.ownsRow w.heap.size 5 1 (.slice (some ⟨g, 0, none⟩) (tl.length + 1) c) (tl.length + 1) ((tl ++ [((x % 128 : Nat) : Int)]).map (Value.int .u8)) ∧ Below w.heap.size w wr ∧ w.heap.size ≤ wr.heap.size ∧ sevH f y ++ (tl ++ [((x % 128 : Nat) : Int)]) = sevL x)
    (fun _ b _ => 20 - sLenW b)
  case atStart =>
    refine ⟨x / 128, 9, _, 1, [], by rw [p9]; omega, by omega, by simp, by simp, rfl, ?_, (Below.refl _ _).alloc (Nat.le_refl _) _, by simp, by simp [sevL]⟩
    have := World.ownsRow_lit (base := w.heap.size) (e := 5) (size := 1) w #[.int .u8 ((x : Int) % 128)] 1 (Nat.le_refl _) (by decide) rfl
    simpa using this
  case round =>
    obtain ⟨y, f, g, c, tl, hf, hy, hlen, rfl, rfl, hown, hbel, hsz, heq⟩ := hrel
    have HE : Hid (sevH f y ++ (tl ++ [((x % 128 : Nat) : Int)]) = sevL x) := heq
    have HF : Hid (y < 128 ^ f) := hf
    generalize hz : ((x % 128 : Nat) : Int) = z at *
    clear heq hf
    by_cases h0 : y = 0
    · have HS : Hid (sevL x = tl ++ [z]) := by
        show _ = _
        rw [← HE.out, h0, sevH_zero]; rfl
      have hcv := run_convert_own (P := Tryz.prog) (src := 22) (dst := 9) Tryz.underlying22 Tryz.underlying5 Tryz.underlying9 hown
      clear hown HE HF
      subst h0
      go_wp2
      go_ret
      exact ⟨by rw [HS.out]; rfl, hbel⟩
    · have HN : Hid (y ≠ 0) := h0
      have hp : 0 < y := by omega
      have HSRC : Hid (∀ j u, ((tl ++ [z]).map (Value.int .u8))[j]? = some u → wr.cell? ⟨g, j, none⟩ = some u) := fun j u hj => by
        rw [hown.cellAt j (by
          rcases Nat.lt_or_ge j (tl.length + 1) with h | h
          · omega
          · rw [List.getElem?_eq_none (by simpa using h)] at hj; cases hj)]
        exact hj
      clear h0
      have hlt := (hown.lt g rfl).2
      go_wp2_with (at_builtin; refine wpList_append_own _ rfl _ _ 22 rfl w.heap.size 5 i0 (.int .u8 0) 1 1 Tryz.underlying22 hi hz0 hz1 hz2 rfl (by decide) _ 1 _ rfl (World.ownsRow_lit _ _ 1 hsz (by decide) rfl) ⟨g, 0, none⟩ (tl.length + 1) c ((tl ++ [z]).map (Value.int .u8)) rfl (by simp) ?c1 ?c2 ?c3 ?c4 ?c5 ?_)
      case c1 =>
        intro j u hj
        rw [Addr.add_lit, Nat.zero_add, World.cell?_alloc_lt _ _ ⟨g, j, none⟩ hlt]
        exact HSRC.out j u hj
      case c2 => intro u hu; exact oneCell_ints .u8 _ u hu
      case c3 => unfold maxLen; omega
      case c4 => omega
      case c5 => simp; omega
      intro v' w1 hown' hgrow hx'
      obtain ⟨g', cap, rfl⟩ := own_sliceW hown' (by omega)
      have hb1 : Below w.heap.size w w1 := (hbel.alloc hsz _).grown hgrow (by simp; omega) (fun k hk => (World.ownsRow_lit (base := w.heap.size) (e := 5) (size := 1) wr #[.int .u8 0] 1 hsz (by decide) rfl).lt k hk |>.1)
      have hs1 : w.heap.size ≤ w1.heap.size := hb1.size
      have HO : Hid (w1.ownsRow w.heap.size 5 1 (.slice (some ⟨g', 0, none⟩) ((((y % 128 + 128 : Nat) : Int) :: tl).length + 1) cap) ((((y % 128 + 128 : Nat) : Int) :: tl).length + 1) (((((y % 128 + 128 : Nat) : Int) :: tl) ++ [z]).map (Value.int .u8))) := by
        show World.ownsRow _ _ _ _ _ _ _
        have e1 : 1 + (tl.length + 1) = (((y % 128 + 128 : Nat) : Int) :: tl).length + 1 := by simp; omega
        rw [e1] at hown'
        have e2 : (128 : Int) + (y : Int) % 128 = (y : Int) % 128 + 128 := by omega
        simpa [e2] using hown'
      have hw : 1 + (tl.length + 1) = (((y % 128 + 128 : Nat) : Int) :: tl).length + 1 := by simp; omega
      rw [hw]
      clear hown' hgrow hx' hown hbel hlt HSRC hz
      go_wp2
      go_roundw
      case rel =>
        obtain ⟨f', rfl, hf', he⟩ := sevH_more HN.out HF.out
        refine ⟨y / 128, f', g', cap, ((y % 128 + 128 : Nat) : Int) :: tl, hf', by omega, by simp; omega, by simp, rfl, HO.out, hb1, hs1, ?_⟩
        rw [← HE.out, he]; simp
      case measure => simp [sLenW]; omega
end Go.Proofs.YtegmmaomaegjjaaGreatDoor
namespace Go.Proofs.YtegmmaomaegjjaaGreatDoor
open Go.RowKit
theorem infoLong : (Tryz.prog.info? 2).map (fun i => (i.zero, i.size, i.bytes)) = some (some (.int .i64 0), 1, 8) := by kernel_rfl
end Go.Proofs.YtegmmaomaegjjaaGreatDoor
namespace Go.Proofs.YtegmmaomaegjjaaGreatDoor
open Go.RowKit

/-- The numbers zs lie behind the address (none at all: any address serves). -/
def IsInts (w : World) (a : Option Addr) (zs : List Int) : Prop := zs = [] ∨ ∃ b o, a = some ⟨b, o, none⟩ ∧ ∀ i, i < zs.length → w.cell? ⟨b, o + i, none⟩ = some (.int .i64 (zs.getD i 0))
/-- .. and its block lies below B. -/
def IntsBelow (B : Nat) (a : Option Addr) (zs : List Int) : Prop := zs = [] ∨ ∀ x, a = some x → x.block < B
theorem IsInts.below {B : Nat} {w w' : World} {a : Option Addr} {zs : List Int} (h : IsInts w a zs) (hb : Below B w w') (hB : IntsBelow B a zs) : IsInts w' a zs := by
  rcases h with rfl | ⟨b, o, rfl, hc⟩
  · exact .inl rfl
  · rcases hB with rfl | hB
    · exact .inl rfl
    · exact .inr ⟨b, o, rfl, fun i hi => by rw [hb.cell (p := ⟨b, o + i, none⟩) (hB ⟨b, o, none⟩ rfl)]; exact hc i hi⟩
theorem IntsBelow.mono {B B' : Nat} {a : Option Addr} {zs : List Int} (h : IntsBelow B a zs) (hB : B ≤ B') : IntsBelow B' a zs := by
  rcases h with h | h
  · exact .inl h
  · exact .inr fun x hx => Nat.lt_of_lt_of_le (h x hx) hB
theorem IsInts.lt {w : World} {a : Option Addr} {zs : List Int} (h : IsInts w a zs) : IntsBelow w.heap.size a zs := by
  rcases h with rfl | ⟨b, o, rfl, hc⟩
  · exact .inl rfl
  · by_cases h0 : zs.length = 0
    · exact .inl (List.eq_nil_of_length_eq_zero h0)
    · refine .inr fun x hx => ?_
      cases hx
      exact World.block_lt_of_cell? w _ (hc 0 (by omega))
theorem IsInts.keep {w w' : World} {a : Option Addr} {zs : List Int} (h : IsInts w a zs) (hb : Below w.heap.size w w') : IsInts w' a zs := h.below hb h.lt
def lCells (zs : List Int) : List Value := zs.map (Value.int .i64)
theorem IsInts.row {w : World} {g : Nat} {t : TypeId} {zs : List Int} {rest : List Value} (h : w.heap[g]? = some (.cells (lCells zs ++ rest).toArray t (0, 0))) : IsInts w (some ⟨g, 0, none⟩) zs :=
  .inr ⟨g, 0, rfl, fun i hi => by
    rw [Nat.zero_add, cell_of_row w g i _ t (0, 0) h]
    simp [lCells, List.getD, hi, List.getElem?_append_left]⟩
theorem IsInts.at {w : World} {a : Option Addr} {zs : List Int} (h : IsInts w a zs) (h0 : zs ≠ []) : ∃ b o, a = some ⟨b, o, none⟩ ∧ ∀ i, i < zs.length → w.cell? ⟨b, o + i, none⟩ = some (.int .i64 (zs.getD i 0)) := by
  rcases h with h | h
  · exact absurd h h0
  · exact h
end Go.Proofs.YtegmmaomaegjjaaGreatDoor
namespace Go.Proofs.YtegmmaomaegjjaaGreatDoor
open Go.RowKit

theorem arcs_nat {zs : List Int} (h : arcsB zs = true) (i : Nat) (h2 : 2 ≤ i) (hi : i < zs.length) : ∃ x : Nat, zs.getD i 0 = (x : Int) ∧ x ≤ 2147483647 := by
  have := (arcsB_iff.1 h).2.2.2.2.2.2 i h2 hi
  exact ⟨(zs.getD i 0).toNat, by omega, by omega⟩
set_option maxHeartbeats 1000000 in
set_option maxRecDepth 100000 in
theorem specOid (a : Option Addr) (zs : List Int) (c : Nat) (w : World) (hr : arcsB zs = true) (ha : IsInts w a zs) :
    Calls Tryz.prog 117 #[.slice a zs.length c] w fun e w' => e = .returned (.string (thingD 6 (strOfNums (oidL zs)))) ∧ Below w.heap.size w w' := by
  obtain ⟨r2, r10, r0, r0', r1, r1', _⟩ := arcsB_iff.1 hr
  have hm2 : most2 (zs.getD 0 0) ≤ 100 := by unfold most2; split <;> omega
  have hlt := ha.lt
  obtain ⟨b, o, rfl, hc⟩ := ha.at (by intro h; rw [h] at r2; simp at r2)
  have hbw : b < w.heap.size := by
    rcases hlt with h | h
    · rw [h] at r2; simp at r2
    · exact h _ rfl
  have c0 := hc 0 (by omega)
  have c1 := hc 1 (by omega)
  rw [Nat.add_zero] at c0
  have HI : Hid (∀ W, Below w.heap.size w W → ∀ i, i < zs.length → W.cell? ⟨b, o + i, none⟩ = some (.int .i64 (zs.getD i 0))) := fun W hW i hi => by
    rw [hW.cell (p := ⟨b, o + i, none⟩) hbw]; exact hc i hi
  obtain ⟨y, hy⟩ : ∃ y : Nat, y = (40 * zs.getD 0 0 + zs.getD 1 0).toNat := ⟨_, rfl⟩
  have H0 : Hid (oidTo zs 0 = sevL y) := by rw [hy]; rfl
  have hyi : 40 * zs.getD 0 0 + zs.getD 1 0 = (y : Int) := by omega
  have hy2 : y ≤ 180 := by omega
  obtain ⟨n, hn⟩ : ∃ n, n = zs.length := ⟨_, rfl⟩
  have HL : Hid (oidL zs = oidTo zs (n - 2)) := by rw [hn]; rfl
  have HLen : Hid (∀ k, k + 2 ≤ n → (strOfNums (oidTo zs k)).size ≤ 45) := fun k hk => by
    rw [strOfNums_size]
    have := oidTo_len hr k (by omega)
    omega
  have HN : Hid (∀ i, 2 ≤ i → i < n → ∃ x : Nat, zs.getD i 0 = (x : Int) ∧ x ≤ 2147483647) := fun i h1 h2 => arcs_nat hr i h1 (by omega)
  rw [← hn] at HI r2 r10 ⊢
  generalize zs.getD 0 0 = x0 at *
  generalize zs.getD 1 0 = x1 at *
  clear hc ha hr hlt hn hy
  go_enter Tryz.func117, Tryz.ntmps117
  go_wp2_with fail
  have ew1 : IntKind.i64.wrap (40 * x0) = 40 * x0 := by rw [IntKind.wrap_i64]; omega
  have ew2 : IntKind.i64.wrap (y : Int) = (y : Int) := by rw [IntKind.wrap_i64]; omega
  have i0 : (0 : Int) < (n : Int) := by omega
  have i1 : (1 : Int) < (n : Int) := by omega
  have j0 : 0 < n := by omega
  have j1 : 1 < n := by omega
  have HT : Hid (∀ V : World, Hid (Below w.heap.size w V) → Calls Tryz.prog 138 #[.int .i64 (y : Int)] V fun e W => e = .returned (.string (strOfNums (sevL y))) ∧ Hid (Below w.heap.size w W) ∧ W.cell? ⟨b, o, none⟩ = some (.int .i64 x0) ∧ W.cell? ⟨b, o + 1, none⟩ = some (.int .i64 x1)) := fun V hV => by
    refine (specSeven y V (by omega)).mono ?_
    rintro e W ⟨rfl, hW⟩
    have hB := hV.out.trans (hW.mono hV.out.size)
    exact ⟨rfl, hB, by rw [hB.cell (p := ⟨b, o, none⟩) hbw]; exact c0, by rw [hB.cell (p := ⟨b, o + 1, none⟩) hbw]; exact c1⟩
  have HD : Hid (Below w.heap.size w w.drew) := (Below.refl _ w).drew
  go_region_held3 (fun V => V.cell? ⟨b, o, none⟩ = some (.int .i64 x0) ∧ V.cell? ⟨b, o + 1, none⟩ = some (.int .i64 x1)) (first | exact ⟨k0, k1⟩ | go_keep)
    (first | (go_at_call 138; refine (HT.out _ (by assumption)).mono ?_; rintro r w1 ⟨rfl, kk, k0, k1⟩))
  have hb1 := kk.out
  clear kk HD HT k0 k1 ew1 ew2 i0 i1 j0 j1 c0 c1
  go_wp2_with fail
  go_loopw [3, 4] (fun t i wr => ∃ k : Nat, k + 2 ≤ n ∧ t = .string (strOfNums (oidTo zs k)) ∧ i = .int .i64 ((k : Int) + 2) ∧ Below w.heap.size w wr ∧ w.heap.size ≤ wr.heap.size)
    (fun _ i _ => n - (intOf i).toNat)
  case atStart => exact ⟨0, by omega, by rw [H0.out], rfl, hb1, hb1.size⟩
  case round =>
    obtain ⟨k, hk, rfl, rfl, hbr, hsr⟩ := hrel
    have hls := HLen.out k hk
    by_cases hlt : k + 2 < n
    · have ck := HI.out wr hbr (k + 2) hlt
      obtain ⟨x, hx, hxm⟩ := HN.out (k + 2) (by omega) hlt
      rw [hx] at ck
      have HS : Hid (strOfNums (oidTo zs (k + 1)) = strOfNums (oidTo zs k) ++ strOfNums (sevL x)) := by
        show _ = _
        rw [oidTo, strOfNums_append, hx]; rfl
      have hls2 := HLen.out (k + 1) (by omega)
      have hsz : (strOfNums (oidTo zs k) ++ strOfNums (sevL x)).size ≤ 45 := by rw [← HS.out]; exact hls2
      have HSv : Hid (∀ V : World, Calls Tryz.prog 138 #[.int .i64 (x : Int)] V fun e w' => e = .returned (.string (strOfNums (sevL x))) ∧ Below V.heap.size V w') := fun V => specSeven x V (by omega)
      have hsx : (strOfNums (sevL x)).size ≤ 45 := by rw [ByteArray.size_append] at hsz; omega
      generalize strOfNums (oidTo zs k) = t at *
      generalize strOfNums (sevL x) = u at *
      go_wp2_with fail
      refine (HSv.out _).mono ?_
      rintro e w2 ⟨rfl, hb2⟩
      have HB2 : Hid (Below w.heap.size w w2) := hbr.trans (hb2.mono hsr)
      clear hb2 hbr ck
      go_wp2_with fail
      go_roundw
      case rel => exact ⟨k + 1, by omega, by rw [HS.out], by go_num, HB2.out, HB2.out.size⟩
      case measure => simp [intOf]; omega
    · obtain rfl : n = k + 2 := by omega
      have HL2 : Hid (∀ V : World, Calls Tryz.prog 87 #[.int .i64 6, .string (strOfNums (oidTo zs k))] V fun e w' => e = .returned (.string (thingD 6 (strOfNums (oidL zs)))) ∧ Below V.heap.size V w') := fun V => by
        have h := specThing 6 (strOfNums (oidTo zs k)) V (by decide) (by decide) (by omega)
        rw [HL.out, show k + 2 - 2 = k from by omega]
        exact h
      generalize strOfNums (oidTo zs k) = t at *
      go_wp2_with fail
      refine (HL2.out _).mono ?_
      rintro e w2 ⟨rfl, hb2⟩
      go_wp2_with fail
      go_ret
      exact ⟨rfl, hbr.trans (hb2.mono hsr)⟩
end Go.Proofs.YtegmmaomaegjjaaGreatDoor
namespace Go.Proofs.YtegmmaomaegjjaaGreatDoor
open Go.RowKit

theorem specSeq (b : ByteArray) (w : World) (hb : b.size ≤ 20000) :
    Calls Tryz.prog 91 #[.string b] w fun e w' => e = .returned (.string (seqD b)) ∧ Below w.heap.size w w' := by
  have H : Hid (Calls Tryz.prog 87 #[.int .i64 48, .string b] w fun e w' => e = .returned (.string (seqD b)) ∧ Below w.heap.size w w') := specThing 48 b w (by omega) (by omega) hb
  generalize seqD b = q at *
  go_enter Tryz.func91, Tryz.ntmps91
  go_wp2_with fail
  refine H.out.mono ?_
  rintro e w2 ⟨rfl, b2⟩
  have B2 : Hid (Below w.heap.size w w2) := b2
  clear b2
  go_wp2
  go_ret
  exact ⟨rfl, B2.out⟩
/-- Four arcs that were just laid. -/
theorem specOid4 (x y z u : Int) (w : World) (h : arcsB [x, y, z, u] = true) :
    Calls Tryz.prog 117 #[.slice (some ⟨w.heap.size, 0, none⟩) 4 4] (w.alloc (.cells #[.int .i64 x, .int .i64 y, .int .i64 z, .int .i64 u] 2 (0, 0))) fun e w' => e = .returned (.string (oidT [x, y, z, u])) ∧ Below w.heap.size w w' := by
  refine (specOid (some ⟨w.heap.size, 0, none⟩) [x, y, z, u] 4 _ h (IsInts.row (rest := []) (heap_alloc_new w _))).mono ?_
  rintro e w' ⟨rfl, hb⟩
  exact ⟨rfl, ((Below.refl _ w).alloc (Nat.le_refl _) _).trans (hb.mono (by simp))⟩
set_option maxHeartbeats 1000000 in
theorem specNameD (t : ByteArray) (w : World) (ht : t.size ≤ 4000) :
    Calls Tryz.prog 90 #[.string t] w fun e w' => e = .returned (.string (nameD t)) ∧ Below w.heap.size w w' := by
  have h1 := arcs_lit arcsName
  have h2 := thingD_le 12 t
  have H1 : Hid (Calls Tryz.prog 117 #[.slice (some ⟨w.heap.size, 0, none⟩) 4 4] (w.alloc (.cells #[.int .i64 2, .int .i64 5, .int .i64 4, .int .i64 3] 2 (0, 0))) fun e w' => e = .returned (.string (oidT [2, 5, 4, 3])) ∧ Below w.heap.size w w') := specOid4 2 5 4 3 w arcsName
  have H2 : Hid (∀ V, Calls Tryz.prog 87 #[.int .i64 12, .string t] V fun e w' => e = .returned (.string (thingD 12 t)) ∧ Below V.heap.size V w') := fun V => specThing 12 t V (by omega) (by omega) (by omega)
  have e3 : (oidT [2, 5, 4, 3] ++ thingD 12 t).size ≤ 4053 := by rw [ByteArray.size_append]; omega
  have H3 : Hid (∀ V, Calls Tryz.prog 91 #[.string (oidT [2, 5, 4, 3] ++ thingD 12 t)] V fun e w' => e = .returned (.string (seqD (oidT [2, 5, 4, 3] ++ thingD 12 t))) ∧ Below V.heap.size V w') := fun V => specSeq _ V (by omega)
  have e4 := seqD_le (oidT [2, 5, 4, 3] ++ thingD 12 t)
  have e5 := thingD_le 49 (seqD (oidT [2, 5, 4, 3] ++ thingD 12 t))
  have H4 : Hid (∀ V, Calls Tryz.prog 87 #[.int .i64 49, .string (seqD (oidT [2, 5, 4, 3] ++ thingD 12 t))] V fun e w' => e = .returned (.string (thingD 49 (seqD (oidT [2, 5, 4, 3] ++ thingD 12 t)))) ∧ Below V.heap.size V w') := fun V => specThing 49 _ V (by omega) (by omega) (by omega)
  have H5 : Hid (∀ V, Calls Tryz.prog 91 #[.string (thingD 49 (seqD (oidT [2, 5, 4, 3] ++ thingD 12 t)))] V fun e w' => e = .returned (.string (nameD t)) ∧ Below V.heap.size V w') := fun V => specSeq _ V (by omega)
  clear e3 e4 e5
  generalize nameD t = n at *
  generalize thingD 49 (seqD (oidT [2, 5, 4, 3] ++ thingD 12 t)) = q4 at *
  generalize seqD (oidT [2, 5, 4, 3] ++ thingD 12 t) = q3 at *
  obtain ⟨q, hq⟩ : ∃ q, oidT [2, 5, 4, 3] ++ thingD 12 t = q := ⟨_, rfl⟩
  rw [hq] at H3
  generalize oidT [2, 5, 4, 3] = q1 at *
  generalize thingD 12 t = q2 at *
  go_enter Tryz.func90, Tryz.ntmps90
  go_wp2_with fail
  refine H1.out.mono ?_
  rintro e w2 ⟨rfl, b2⟩
  have B2 : Hid (Below w.heap.size w w2) := b2
  clear b2
  go_wp2_with fail
  refine (H2.out _).mono ?_
  rintro e w3 ⟨rfl, b3⟩
  have B3 : Hid (Below w.heap.size w w3) := B2.out.trans (b3.mono B2.out.size)
  clear b3
  go_wp2_with fail
  refine (H3.out _).mono ?_
  rintro e w4 ⟨rfl, b4⟩
  have B4 : Hid (Below w.heap.size w w4) := B3.out.trans (b4.mono B3.out.size)
  clear b4
  go_wp2_with fail
  refine (H4.out _).mono ?_
  rintro e w5 ⟨rfl, b5⟩
  have B5 : Hid (Below w.heap.size w w5) := B4.out.trans (b5.mono B4.out.size)
  clear b5
  go_wp2_with fail
  refine (H5.out _).mono ?_
  rintro e w6 ⟨rfl, b6⟩
  have B6 : Hid (Below w.heap.size w w6) := B5.out.trans (b6.mono B5.out.size)
  clear b6
  go_wp2
  go_ret
  exact ⟨rfl, B6.out⟩
end Go.Proofs.YtegmmaomaegjjaaGreatDoor
namespace Go.Proofs.YtegmmaomaegjjaaGreatDoor
open Go.RowKit

theorem specKind (w : World) :
    Calls Tryz.prog 89 #[] w fun e w' => e = .returned (.string kindD) ∧ Below w.heap.size w w' := by
  have H1 : Hid (Calls Tryz.prog 117 #[.slice (some ⟨w.heap.size, 0, none⟩) 4 4] (w.alloc (.cells #[.int .i64 1, .int .i64 3, .int .i64 101, .int .i64 112] 2 (0, 0))) fun e w' => e = .returned (.string (oidT [1, 3, 101, 112])) ∧ Below w.heap.size w w') := specOid4 1 3 101 112 w arcsKind
  have H2 : Hid (∀ V, Calls Tryz.prog 91 #[.string (oidT [1, 3, 101, 112])] V fun e w' => e = .returned (.string kindD) ∧ Below V.heap.size V w') := fun V => specSeq _ V (by have := arcs_lit arcsKind; omega)
  generalize oidT [1, 3, 101, 112] = q at *
  generalize kindD = k at *
  go_enter Tryz.func89, Tryz.ntmps89
  go_wp2_with fail
  refine H1.out.mono ?_
  rintro e w2 ⟨rfl, b2⟩
  have B2 : Hid (Below w.heap.size w w2) := b2
  clear b2
  go_wp2_with fail
  refine (H2.out _).mono ?_
  rintro e w3 ⟨rfl, b3⟩
  have B3 : Hid (Below w.heap.size w w3) := B2.out.trans (b3.mono B2.out.size)
  clear b3
  go_wp2
  go_ret
  exact ⟨rfl, B3.out⟩
end Go.Proofs.YtegmmaomaegjjaaGreatDoor
namespace Go.Proofs.YtegmmaomaegjjaaGreatDoor
open Go.RowKit

set_option maxHeartbeats 1000000 in
set_option maxRecDepth 100000 in
theorem specHosts (a : Option Addr) (ss : List ByteArray) (c : Nat) (w : World) (hl : ss.length ≤ 5) (hs : ∀ i, i < ss.length → (tAt ss i).size ≤ 40) (ha : IsStrs w a ss) :
    Calls Tryz.prog 118 #[.slice a ss.length c] w fun e w' => e = .returned (.string (seqD (hostsD ss ss.length))) ∧ Below w.heap.size w w' := by
  have HS : Hid (∀ i, i < ss.length → (tAt ss i).size ≤ 40) := hs
  have HL : Hid (∀ k, k ≤ ss.length → (hostsD ss k).size ≤ 44 * k) := fun k hk => hostsD_le k (fun i hi => hs i (by omega))
  clear hs
  go_enter Tryz.func118, Tryz.ntmps118
  go_wp2
  go_loopw [3, 4] (fun t i wr => ∃ k : Nat, k ≤ ss.length ∧ i = .int .i64 k ∧ t = .string (hostsD ss k) ∧ Below w.heap.size w wr) (fun _ i _ => ss.length - (intOf i).toNat)
  case atStart => exact ⟨0, Nat.zero_le _, rfl, rfl, Below.refl _ _⟩
  case round =>
    obtain ⟨k, hk, rfl, rfl, hbr⟩ := hrel
    have HB : Hid (Below w.heap.size w wr) := hbr
    by_cases hlt : k < ss.length
    · obtain ⟨x, o, rfl, hc⟩ : ∃ x o, a = some ⟨x, o, none⟩ ∧ ∀ i, i < ss.length → wr.cell? ⟨x, o + i, none⟩ = some (.string (tAt ss i)) := by
        rcases ha.below hbr ha.lt with rfl | h
        · simp at hlt
        · exact h
      have hck := hc k hlt
      have hz := HS.out k hlt
      have HP : Hid (∀ V, Calls Tryz.prog 87 #[.int .i64 130, .string (tAt ss k)] V fun e w' => e = .returned (.string (thingD 130 (tAt ss k))) ∧ Below V.heap.size V w') := fun V => specThing 130 _ V (by omega) (by omega) (by omega)
      have he : hostsD ss k ++ thingD 130 (tAt ss k) = hostsD ss (k + 1) := rfl
      have a0 : (0 : Int) ≤ (k : Int) := by omega
      have b0 : (k : Int) < (ss.length : Int) := by omega
      have z0 := HL.out k (by omega)
      have z1 := thingD_le 130 (tAt ss k)
      have HR : Hid (∃ j : Nat, j ≤ ss.length ∧ Value.int .i64 ((k : Int) + 1) = .int .i64 (j : Int) ∧ Value.string (hostsD ss (k + 1)) = .string (hostsD ss j)) := ⟨k + 1, by omega, by congr 1, rfl⟩
      generalize hostsD ss (k + 1) = h1 at *
      generalize thingD 130 (tAt ss k) = h2 at *
      generalize tAt ss k = z at *
      clear hc ha hbr HS HL
      go_wp2_with fail
      refine (HP.out _).mono ?_
      rintro e w2 ⟨rfl, b2⟩
      have B2 : Hid (Below w.heap.size w w2) := HB.out.trans (b2.mono HB.out.size)
      clear b2
      go_wp2_with fail
      go_roundw
      case rel =>
        obtain ⟨j, j1, j2, j3⟩ := HR.out
        exact ⟨j, j1, by first | exact j2 | (rw [← j2]; simp; omega), j3, B2.out⟩
      case measure => simp [intOf]; omega
    · obtain rfl : k = ss.length := by omega
      have z0 := HL.out ss.length (Nat.le_refl _)
      have HP : Hid (∀ V, Calls Tryz.prog 91 #[.string (hostsD ss ss.length)] V fun e w' => e = .returned (.string (seqD (hostsD ss ss.length))) ∧ Below V.heap.size V w') := fun V => specSeq _ V (by omega)
      clear ha hbr HS HL
      go_wp2_with fail
      refine (HP.out _).mono ?_
      rintro e w2 ⟨rfl, b2⟩
      have B2 : Hid (Below w.heap.size w w2) := HB.out.trans (b2.mono HB.out.size)
      clear b2
      go_wp2
      go_ret
      exact ⟨rfl, B2.out⟩
end Go.Proofs.YtegmmaomaegjjaaGreatDoor
