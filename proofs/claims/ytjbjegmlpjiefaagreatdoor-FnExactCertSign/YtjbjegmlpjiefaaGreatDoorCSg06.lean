/- laws.toCert, walked. spec.l06Copy, walked. spec.l05Put, walked. spec.l05Seven, walked. What the program's table of types says of int64. A row of whole numbers: what is said of it. spec.l05Oid, walked. -/
import Derived.Test.YtjbjegmlpjiefaaGreatDoorCSg02
import Derived.Test.YtjbjegmlpjiefaaGreatDoorCSg05
import Derived.Test.YtjbjegmlpjiefaaGreatDoorCSg04
import Derived.Deep.Cut
import Derived.Test.YtjbjegmlpjiefaaGreatDoorCSg01
import Derived.Deep.RegionHeld3
import Derived.Handy
import Derived.Deep.QuietTactic
import Derived.BigQuiet
namespace Go.Proofs.YtjbjegmlpjiefaaGreatDoor
open Go.RowKit

theorem sizeCert : (Tryz.prog.info? 30).map (·.size) = some 11 := by kernel_rfl
set_option maxHeartbeats 4000000 in
set_option maxRecDepth 100000 in
theorem toCert (c : Paper) (a : Option Addr) (cap : Nat) (w : World) (hl : c.names.length ≤ 1048576) (ha : IsStrs w a c.names) :
    Calls Tryz.prog 6 #[c.val (.slice a c.names.length cap)] w fun e w' => ∃ g, e = .returned (c.val (.slice (some ⟨g, 0, none⟩) c.names.length c.names.length)) ∧ w.heap.size ≤ g ∧ w'.heap[g]? = some (.cells (sCells c.names).toArray 9 (0, 0)) ∧ Below w.heap.size w w' := by
  obtain ⟨ser, iss, sub, fr, till, key, names, ca, sk, se, ss⟩ := c
  simp only at hl ha
  unfold Paper.val
  simp only
  have HT : Hid (∀ V, IsStrs V a names → Calls Tryz.prog 17 #[.slice a names.length cap] V fun e w' => e = .returned (.slice (some ⟨V.heap.size, 0, none⟩) names.length names.length) ∧ w'.heap[V.heap.size]? = some (.cells (sCells names).toArray 9 (0, 0)) ∧ Below V.heap.size V w') := fun V h1 => toStrs a names cap V hl h1
  generalize names.length = nl at *
  obtain ⟨w1, hw1⟩ : ∃ w1, w1 = ((w.alloc (.cells #[.int .i64 ser, .string iss, .string sub, .int .i64 fr, .int .i64 till, .int .i64 key, .slice a nl cap, .bool ca, .int .i64 sk, .int .i64 se, .int .i64 ss] 26 (0, 0))).alloc (.cells #[.int .i64 0, .string ⟨#[]⟩, .string ⟨#[]⟩, .int .i64 0, .int .i64 0, .int .i64 0, .slice none 0 0, .bool false, .int .i64 0, .int .i64 0, .int .i64 0] 30 (0, 0))).alloc (.cells #[.int .i64 ser, .string iss, .string sub, .int .i64 fr, .int .i64 till, .int .i64 key, .slice none 0 0, .bool false, .int .i64 0, .int .i64 0, .int .i64 0] 30 (0, 0)) := ⟨_, rfl⟩
  have r0 : w1.heap[w.heap.size]? = some (.cells [Value.int .i64 ser, .string iss, .string sub, .int .i64 fr, .int .i64 till, .int .i64 key, .slice a nl cap, .bool ca, .int .i64 sk, .int .i64 se, .int .i64 ss].toArray 26 (0, 0)) := by
    rw [hw1, Below.heap_alloc _ _ _ (by simp; omega), Below.heap_alloc _ _ _ (by simp)]; exact heap_alloc_new w _
  have r1 : w1.heap[w.heap.size + 1]? = some (.cells [Value.int .i64 0, .string ⟨#[]⟩, .string ⟨#[]⟩, .int .i64 0, .int .i64 0, .int .i64 0, .slice none 0 0, .bool false, .int .i64 0, .int .i64 0, .int .i64 0].toArray 30 (0, 0)) := by
    rw [hw1, Below.heap_alloc _ _ _ (by simp)]; exact heap_alloc2 w _ _
  have z1 : w1.heap.size = w.heap.size + 3 := by rw [hw1]; simp
  have r2 : w1.heap[w.heap.size + 1 + 1]? = some (.cells [Value.int .i64 ser, .string iss, .string sub, .int .i64 fr, .int .i64 till, .int .i64 key, .slice none 0 0, .bool false, .int .i64 0, .int .i64 0, .int .i64 0].toArray 30 (0, 0)) := by
    rw [hw1]
    have := heap_alloc2 (w.alloc (.cells #[.int .i64 ser, .string iss, .string sub, .int .i64 fr, .int .i64 till, .int .i64 key, .slice a nl cap, .bool ca, .int .i64 sk, .int .i64 se, .int .i64 ss] 26 (0, 0))) (.cells #[.int .i64 0, .string ⟨#[]⟩, .string ⟨#[]⟩, .int .i64 0, .int .i64 0, .int .i64 0, .slice none 0 0, .bool false, .int .i64 0, .int .i64 0, .int .i64 0] 30 (0, 0)) (.cells #[.int .i64 ser, .string iss, .string sub, .int .i64 fr, .int .i64 till, .int .i64 key, .slice none 0 0, .bool false, .int .i64 0, .int .i64 0, .int .i64 0] 30 (0, 0))
    simpa using this
  have B1 : Hid (Below w.heap.size w w1) := by rw [hw1]; exact (((Below.refl _ _).alloc (Nat.le_refl _) _).alloc (by simp) _).alloc (by simp; omega) _
  have A1 : Hid (IsStrs w1 a names) := ha.keep B1.out
  clear ha hl
  go_enter Tryz.func6, Tryz.ntmps6
  go_upto_region 8 with fail
  rw [← hw1]
  clear hw1
  have c6 := rowFacts r0 6 _ rfl
  have R0 : Hid _ := r0
  have R1 : Hid _ := r1
  have R2 : Hid _ := r2
  have Z1 : Hid (w1.heap.size = w.heap.size + 3) := z1
  clear r0 r1 r2 z1
  go_wp2_with fail
  refine (HT.out _ A1.out).mono ?_
  rintro e w2 ⟨rfl, hg, b2⟩
  have z1 := Z1.out
  have r0 : w2.heap[w.heap.size]? = some (.cells [Value.int .i64 ser, .string iss, .string sub, .int .i64 fr, .int .i64 till, .int .i64 key, .slice a nl cap, .bool ca, .int .i64 sk, .int .i64 se, .int .i64 ss].toArray 26 (0, 0)) := by rw [b2.block _ (by omega)]; exact R0.out
  have r1 : w2.heap[w.heap.size + 1]? = some (.cells [Value.int .i64 0, .string ⟨#[]⟩, .string ⟨#[]⟩, .int .i64 0, .int .i64 0, .int .i64 0, .slice none 0 0, .bool false, .int .i64 0, .int .i64 0, .int .i64 0].toArray 30 (0, 0)) := by rw [b2.block _ (by omega)]; exact R1.out
  have r2 : w2.heap[w.heap.size + 1 + 1]? = some (.cells [Value.int .i64 ser, .string iss, .string sub, .int .i64 fr, .int .i64 till, .int .i64 key, .slice none 0 0, .bool false, .int .i64 0, .int .i64 0, .int .i64 0].toArray 30 (0, 0)) := by rw [b2.block _ (by omega)]; exact R2.out
  have B2 : Hid (Below w.heap.size w w2) := B1.out.trans (b2.mono B1.out.size)
  clear R0 R1 R2 c6 b2 A1 B1 HT
  obtain ⟨w3, hw3⟩ : ∃ w3, w3 = (w2.setCell ⟨w.heap.size + 1 + 1, 6, none⟩ (.slice (some ⟨w1.heap.size, 0, none⟩) nl nl)).setCell ⟨w.heap.size + 1 + 1, 7, none⟩ (.bool ca) := ⟨_, rfl⟩
  have t0 : w3.heap[w.heap.size]? = some (.cells [Value.int .i64 ser, .string iss, .string sub, .int .i64 fr, .int .i64 till, .int .i64 key, .slice a nl cap, .bool ca, .int .i64 sk, .int .i64 se, .int .i64 ss].toArray 26 (0, 0)) := by rw [hw3, heap_setCell_other _ _ _ _ (by simp; omega), heap_setCell_other _ _ _ _ (by simp; omega)]; exact r0
  have t1 : w3.heap[w.heap.size + 1]? = some (.cells [Value.int .i64 0, .string ⟨#[]⟩, .string ⟨#[]⟩, .int .i64 0, .int .i64 0, .int .i64 0, .slice none 0 0, .bool false, .int .i64 0, .int .i64 0, .int .i64 0].toArray 30 (0, 0)) := by rw [hw3, heap_setCell_other _ _ _ _ (by simp), heap_setCell_other _ _ _ _ (by simp)]; exact r1
  have t2 : w3.heap[w.heap.size + 1 + 1]? = some (.cells [Value.int .i64 ser, .string iss, .string sub, .int .i64 fr, .int .i64 till, .int .i64 key, .slice (some ⟨w1.heap.size, 0, none⟩) nl nl, .bool ca, .int .i64 0, .int .i64 0, .int .i64 0].toArray 30 (0, 0)) := by rw [hw3]; exact rowSet (i := 7) _ (rowSet (i := 6) _ r2)
  have hg3 : w3.heap[w1.heap.size]? = some (.cells (sCells names).toArray 9 (0, 0)) := by rw [hw3, heap_setCell_other _ _ _ _ (by simp; omega), heap_setCell_other _ _ _ _ (by simp; omega)]; exact hg
  have B3 : Hid (Below w.heap.size w w3) := by rw [hw3]; exact (B2.out.setCell (by simp; omega) _).setCell (by simp; omega) _
  have c7 := rowFacts r0 7 _ rfl
  have d6 := rowFacts r2 6 _ rfl
  have d7 := rowFacts r2 7 _ rfl
  have f6 := rowFree r2 6
  have f7 := rowFree r2 7
  have T0 : Hid _ := t0
  have T1 : Hid _ := t1
  have T2 : Hid _ := t2
  have HG3 : Hid _ := hg3
  clear r0 r1 r2 t0 t1 t2 hg hg3 B2 z1
  go_upto_region 10 with fail
  rw [← hw3]
  clear hw3 c7 d6 d7 f6 f7
  have c8 := rowFacts T0.out 8 _ rfl
  have c9 := rowFacts T0.out 9 _ rfl
  have c10 := rowFacts T0.out 10 _ rfl
  go_wp2_with fail
  refine (toSig sk se ss _).mono ?_
  rintro e w4 ⟨rfl, b4⟩
  have u1 : w4.heap[w.heap.size + 1]? = some (.cells [Value.int .i64 0, .string ⟨#[]⟩, .string ⟨#[]⟩, .int .i64 0, .int .i64 0, .int .i64 0, .slice none 0 0, .bool false, .int .i64 0, .int .i64 0, .int .i64 0].toArray 30 (0, 0)) := by rw [b4.block _ (heap_lt T1.out)]; exact T1.out
  have u2 : w4.heap[w.heap.size + 1 + 1]? = some (.cells [Value.int .i64 ser, .string iss, .string sub, .int .i64 fr, .int .i64 till, .int .i64 key, .slice (some ⟨w1.heap.size, 0, none⟩) nl nl, .bool ca, .int .i64 0, .int .i64 0, .int .i64 0].toArray 30 (0, 0)) := by rw [b4.block _ (heap_lt T2.out)]; exact T2.out
  have HG4 : Hid (w4.heap[w1.heap.size]? = some (.cells (sCells names).toArray 9 (0, 0))) := by show _ = _; rw [b4.block _ (heap_lt HG3.out)]; exact HG3.out
  have B4 : Hid (Below w.heap.size w w4) := B3.out.trans (b4.mono B3.out.size)
  have U1 : Hid _ := u1
  have U2 : Hid _ := u2
  clear c8 c9 c10 T0 T1 T2 HG3 b4 B3
  obtain ⟨w5, hw5⟩ : ∃ w5, w5 = (((w4.setCell ⟨w.heap.size + 1 + 1, 8, none⟩ (.int .i64 sk)).setCell ⟨w.heap.size + 1 + 1, 9, none⟩ (.int .i64 se)).setCell ⟨w.heap.size + 1 + 1, 10, none⟩ (.int .i64 ss)) := ⟨_, rfl⟩
  obtain ⟨C, hC⟩ : ∃ C, C = [Value.int .i64 ser, .string iss, .string sub, .int .i64 fr, .int .i64 till, .int .i64 key, .slice (some ⟨w1.heap.size, 0, none⟩) nl nl, .bool ca, .int .i64 sk, .int .i64 se, .int .i64 ss] := ⟨_, rfl⟩
  have v2 : w5.heap[w.heap.size + 1 + 1]? = some (.cells C.toArray 30 (0, 0)) := by rw [hw5, hC]; exact (rowSet (i := 10) (.int .i64 ss) (rowSet (i := 9) (.int .i64 se) (rowSet (i := 8) (.int .i64 sk) U2.out)))
  have v1 : w5.heap[w.heap.size + 1]? = some (.cells [Value.int .i64 0, .string ⟨#[]⟩, .string ⟨#[]⟩, .int .i64 0, .int .i64 0, .int .i64 0, .slice none 0 0, .bool false, .int .i64 0, .int .i64 0, .int .i64 0].toArray 30 (0, 0)) := by rw [hw5, heap_setCell_other _ _ _ _ (by simp), heap_setCell_other _ _ _ _ (by simp), heap_setCell_other _ _ _ _ (by simp)]; exact U1.out
  have vg : w5.heap[w1.heap.size]? = some (.cells (sCells names).toArray 9 (0, 0)) := by
    have := Z1.out
    rw [hw5, heap_setCell_other _ _ _ _ (by simp; omega), heap_setCell_other _ _ _ _ (by simp; omega), heap_setCell_other _ _ _ _ (by simp; omega)]; exact HG4.out
  have B5 : Hid (Below w.heap.size w w5) := by rw [hw5]; exact ((B4.out.setCell (by simp; omega) _).setCell (by simp; omega) _).setCell (by simp; omega) _
  have hone : ∀ v ∈ C, v.oneCell' = true := by rw [hC]; simp [Value.oneCell']
  have hi : (Tryz.prog.info? 30).map (·.size) = some C.length := by rw [hC]; exact sizeCert
  have hlen : [Value.int .i64 0, .string ⟨#[]⟩, .string ⟨#[]⟩, .int .i64 0, .int .i64 0, .int .i64 0, .slice none 0 0, .bool false, .int .i64 0, .int .i64 0, .int .i64 0].length = C.length := by rw [hC]; rfl
  have HC : Hid (C = [Value.int .i64 ser, .string iss, .string sub, .int .i64 fr, .int .i64 till, .int .i64 key, .slice (some ⟨w1.heap.size, 0, none⟩) nl nl, .bool ca, .int .i64 sk, .int .i64 se, .int .i64 ss]) := hC
  have VG : Hid _ := vg
  have p8 := rowFacts u2 8 _ rfl
  have p9 := rowFacts u2 9 _ rfl
  have p10 := rowFacts u2 10 _ rfl
  have q8 := rowFree u2 8
  have q9 := rowFree u2 9
  have q10 := rowFree u2 10
  have V1 : Hid _ := v1
  have V2 : Hid _ := v2
  have HOne : Hid (∀ v ∈ C, v.oneCell' = true) := hone
  have HI : Hid ((Tryz.prog.info? 30).map (·.size) = some C.length) := hi
  have HLen : Hid ([Value.int .i64 0, .string ⟨#[]⟩, .string ⟨#[]⟩, .int .i64 0, .int .i64 0, .int .i64 0, .slice none 0 0, .bool false, .int .i64 0, .int .i64 0, .int .i64 0].length = C.length) := hlen
  clear u1 u2 v1 v2 vg hone hi hlen hC HG4 B4 U1 U2
  go_upto_region 11 with fail
  rw [← hw5]
  clear hw5 p8 p9 p10 q8 q9 q10
  have hr := rangeRow V2.out
  have hR := V1.out
  have h1 := HOne.out
  have hi := HI.out
  go_wp2_with (first | (refine wpList_load_mid rfl 30 _ rfl (w.heap.size + 1 + 1) 0 rfl C _ hr Tryz.underlying30 rfl hi ?_) | (refine wpList_store_row rfl 30 _ _ rfl (w.heap.size + 1) _ C 30 rfl rfl hR HLen.out hi h1 ?_))
  intro w6 hrow ho hs6 hbb
  have HROW : Hid _ := hrow
  have HB6 : Hid (Below w.heap.size w w6) := hbb _ _ (by omega) B5.out
  have HG6 : Hid (w6.heap[w1.heap.size]? = some (.cells (sCells names).toArray 9 (0, 0))) := by show _ = _; rw [ho _ (by have := Z1.out; omega)]; exact VG.out
  clear ho hs6 hbb hrow hr hR h1
  go_wp2
  refine bodyPost_ret (v := .agg C.toArray) ?_ rfl ⟨w1.heap.size, by rw [HC.out], by have := Z1.out; omega, HG6.out, HB6.out⟩
  have hl3 := run_loadVar_mid (P := Tryz.prog) _ (w.heap.size + 1) 0 30 _ _ (rangeRow HROW.out) Tryz.underlying30 rfl hi
  simp [results, Tryz.results6, asAddr, hl3]
end Go.Proofs.YtjbjegmlpjiefaaGreatDoor
namespace Go.Proofs.YtjbjegmlpjiefaaGreatDoor
open Go.RowKit

theorem oneCell_strs (l : List ByteArray) : ∀ u ∈ sCells l, u.oneCell' = true := by
  intro u hu
  simp only [sCells, List.mem_map] at hu
  obtain ⟨s, _, rfl⟩ := hu
  rfl
set_option maxHeartbeats 4000000 in
set_option maxRecDepth 100000 in
theorem specCopy (c : Paper) (g o : Nat) (cap : Nat) (w : World) (hl : c.names.length ≤ 1048576) (hgw : g < w.heap.size) (hc : ∀ i, i < c.names.length → w.cell? ⟨g, o + i, none⟩ = some (.string (tAt c.names i))) :
    Calls Tryz.prog 14 #[c.val (.slice (some ⟨g, o, none⟩) c.names.length cap)] w fun e w' => ∃ v, e = .returned (c.val v) ∧ OwnS w' w.heap.size v c.names ∧ Below w.heap.size w w' := by
  obtain ⟨ser, iss, sub, fr, till, key, names, ca, sk, se, ss⟩ := c
  simp only at hl hc
  unfold Paper.val
  simp only
  obtain ⟨i0, hi0, hz0, hz1, hz2⟩ := info_parts infoText
  have HN : Hid (∀ V, Below w.heap.size w V → ∀ j u, (sCells names)[j]? = some u → V.cell? ((⟨g, o, none⟩ : Addr).add j) = some u) := fun V hV j u hu => by
    rw [Addr.add_lit, hV.cell (p := ⟨g, o + j, none⟩) hgw]
    have hj : j < names.length := by
      rcases Nat.lt_or_ge j names.length with h | h
      · exact h
      · rw [List.getElem?_eq_none (by simpa [sCells] using h)] at hu; cases hu
    rw [hc j hj]
    rw [sCells_at hj] at hu
    exact hu
  obtain ⟨nl, hnl⟩ : ∃ nl, nl = names.length := ⟨_, rfl⟩
  rw [← hnl] at hl ⊢
  have HNl : Hid (nl = names.length) := hnl
  clear hnl hc
  obtain ⟨w1, hw1⟩ : ∃ w1, w1 = (w.alloc (.cells #[.int .i64 ser, .string iss, .string sub, .int .i64 fr, .int .i64 till, .int .i64 key, .slice (some ⟨g, o, none⟩) nl cap, .bool ca, .int .i64 sk, .int .i64 se, .int .i64 ss] 30 (0, 0))).alloc (.cells #[.int .i64 0, .string ⟨#[]⟩, .string ⟨#[]⟩, .int .i64 0, .int .i64 0, .int .i64 0, .slice none 0 0, .bool false, .int .i64 0, .int .i64 0, .int .i64 0] 30 (0, 0)) := ⟨_, rfl⟩
  have r0 : w1.heap[w.heap.size]? = some (.cells [Value.int .i64 ser, .string iss, .string sub, .int .i64 fr, .int .i64 till, .int .i64 key, .slice (some ⟨g, o, none⟩) nl cap, .bool ca, .int .i64 sk, .int .i64 se, .int .i64 ss].toArray 30 (0, 0)) := by rw [hw1, Below.heap_alloc _ _ _ (by simp)]; exact heap_alloc_new w _
  have r1 : w1.heap[w.heap.size + 1]? = some (.cells [Value.int .i64 0, .string ⟨#[]⟩, .string ⟨#[]⟩, .int .i64 0, .int .i64 0, .int .i64 0, .slice none 0 0, .bool false, .int .i64 0, .int .i64 0, .int .i64 0].toArray 30 (0, 0)) := by rw [hw1]; exact heap_alloc2 w _ _
  have z1 : w1.heap.size = w.heap.size + 2 := by rw [hw1]; simp
  have K1 : Hid (Below w.heap.size w w1) := by rw [hw1]; exact ((Below.refl _ _).alloc (Nat.le_refl _) _).alloc (by simp) _
  go_enter Tryz.func14, Tryz.ntmps14
  go_upto_region 1 with fail
  rw [← hw1]
  clear hw1
  have c6 := rowFacts r0 6 _ rfl
  have c6a : ∀ ob, (w1.alloc ob).cell? ⟨w.heap.size, 6, none⟩ = some (.slice (some ⟨g, o, none⟩) nl cap) := fun ob => by rw [World.cell?_alloc_lt _ _ _ (by show w.heap.size < w1.heap.size; omega)]; exact c6
  have hown : (w1.alloc (.cells #[] 9 (0, 0))).ownsRow (w.heap.size + 2) 9 1 (.slice (some ⟨w1.heap.size, 0, none⟩) 0 0) 0 [] := by
    have := World.ownsRow_lit (base := w.heap.size + 2) (e := 9) (size := 1) w1 #[] 0 (by omega) (by decide) rfl
    simpa using this
  have hnews := HN.out _ (K1.out.alloc K1.out.size (.cells #[] 9 (0, 0)))
  have R0 : Hid _ := r0
  have R1 : Hid _ := r1
  have Z1 : Hid (w1.heap.size = w.heap.size + 2) := z1
  clear r0 r1 z1
  go_wp2_with (at_builtin; refine wpList_append_own _ rfl _ _ 22 rfl (w.heap.size + 2) 9 i0 (.string ⟨#[]⟩) 1 16 Tryz.underlying22 hi0 hz0 hz1 hz2 rfl (by decide) _ _ _ rfl hown ⟨g, o, none⟩ nl cap (sCells names) rfl ?c0 hnews ?c2 ?c3 ?c4 ?c5 ?_)
  case c0 => rw [HNl.out]; simp [sCells]
  case c2 => exact oneCell_strs names
  case c3 => unfold maxLen; omega
  case c4 => omega
  case c5 => have := Z1.out; simp; omega
  intro v' w2 hown' hgrow hnil
  have z2 : w.heap.size + 2 ≤ w2.heap.size := by have h := hgrow.size; simp at h; have := Z1.out; omega
  have hkeep : ∀ b, b < w.heap.size + 2 → w2.heap[b]? = w1.heap[b]? := fun b hb => by
    rw [hgrow.block b (by have := Z1.out; simp; omega) (fun e => by have h := (hown.lt b e.symm).1; omega)]
    exact Below.heap_alloc _ _ _ (by have := Z1.out; omega)
  have r0 : w2.heap[w.heap.size]? = some (.cells [Value.int .i64 ser, .string iss, .string sub, .int .i64 fr, .int .i64 till, .int .i64 key, .slice (some ⟨g, o, none⟩) nl cap, .bool ca, .int .i64 sk, .int .i64 se, .int .i64 ss].toArray 30 (0, 0)) := by rw [hkeep _ (by omega)]; exact R0.out
  have r1 : w2.heap[w.heap.size + 1]? = some (.cells [Value.int .i64 0, .string ⟨#[]⟩, .string ⟨#[]⟩, .int .i64 0, .int .i64 0, .int .i64 0, .slice none 0 0, .bool false, .int .i64 0, .int .i64 0, .int .i64 0].toArray 30 (0, 0)) := by rw [hkeep _ (by omega)]; exact R1.out
  have K2 : Hid (Below w.heap.size w w2) := (K1.out.alloc K1.out.size _).grown hgrow (by have := Z1.out; simp; omega) (fun k hk => by have := (hown.lt k hk).1; omega)
  have O2 : Hid (OwnS w2 (w.heap.size + 2) v' names) := by
    show World.ownsRow _ _ _ _ _ _ _
    rw [← HNl.out]
    simpa using hown'
  clear hown' hgrow hnil hkeep hown hnews c6a c6 R0 R1 K1 Z1 HN
  obtain ⟨va, vc, hv, _⟩ := OwnS.form O2.out
  rw [← HNl.out] at hv
  subst hv
  obtain ⟨C, hC⟩ : ∃ C, C = [Value.int .i64 ser, .string iss, .string sub, .int .i64 fr, .int .i64 till, .int .i64 key, .slice va nl vc, .bool ca, .int .i64 sk, .int .i64 se, .int .i64 ss] := ⟨_, rfl⟩
  obtain ⟨w7, hw7⟩ : ∃ x, x = w2.setCell ⟨w.heap.size, 6, none⟩ (.slice va nl vc) := ⟨_, rfl⟩
  have t0 : w7.heap[w.heap.size]? = some (.cells C.toArray 30 (0, 0)) := by rw [hw7, hC]; exact rowSet (i := 6) _ r0
  have t1 : w7.heap[w.heap.size + 1]? = some (.cells [Value.int .i64 0, .string ⟨#[]⟩, .string ⟨#[]⟩, .int .i64 0, .int .i64 0, .int .i64 0, .slice none 0 0, .bool false, .int .i64 0, .int .i64 0, .int .i64 0].toArray 30 (0, 0)) := by rw [hw7, heap_setCell_other _ _ _ _ (by simp)]; exact r1
  have K7 : Hid (Below w.heap.size w w7) := by rw [hw7]; exact K2.out.setCell (by simp) _
  have O7 : Hid (OwnS w7 (w.heap.size + 2) (.slice va nl vc) names) := O2.out.same fun k h1 h2 => by rw [hw7, heap_setCell_other _ _ _ _ (by show k ≠ w.heap.size; omega)]
  have hone : ∀ v ∈ C, v.oneCell' = true := by rw [hC]; simp [Value.oneCell']
  have hi : (Tryz.prog.info? 30).map (·.size) = some C.length := by rw [hC]; exact sizeCert
  have hlen : [Value.int .i64 0, .string ⟨#[]⟩, .string ⟨#[]⟩, .int .i64 0, .int .i64 0, .int .i64 0, .slice none 0 0, .bool false, .int .i64 0, .int .i64 0, .int .i64 0].length = C.length := by rw [hC]; rfl
  have HCC : Hid (C = [Value.int .i64 ser, .string iss, .string sub, .int .i64 fr, .int .i64 till, .int .i64 key, .slice va nl vc, .bool ca, .int .i64 sk, .int .i64 se, .int .i64 ss]) := hC
  have c6 := rowFacts r0 6 _ rfl
  have f6 := rowFree r0 6
  have T0 : Hid _ := t0
  have T1 : Hid _ := t1
  have HOne : Hid (∀ v ∈ C, v.oneCell' = true) := hone
  have HI : Hid ((Tryz.prog.info? 30).map (·.size) = some C.length) := hi
  have HLen : Hid ([Value.int .i64 0, .string ⟨#[]⟩, .string ⟨#[]⟩, .int .i64 0, .int .i64 0, .int .i64 0, .slice none 0 0, .bool false, .int .i64 0, .int .i64 0, .int .i64 0].length = C.length) := hlen
  clear r0 r1 t0 t1 K2 z2 O2 hone hi hlen hC
  go_upto_region 2 with fail
  rw [← hw7]
  clear hw7 c6 f6
  have hr := rangeRow T0.out
  have hR := T1.out
  have h1 := HOne.out
  have hi := HI.out
  go_wp2_with (first | (refine wpList_load_mid rfl 30 _ rfl (w.heap.size) 0 rfl C _ hr Tryz.underlying30 rfl hi ?_) | (refine wpList_store_row rfl 30 _ _ rfl (w.heap.size + 1) _ C 30 rfl rfl hR HLen.out hi h1 ?_))
  intro w8 hrow ho hs8 hbb
  have HROW : Hid _ := hrow
  have HB8 : Hid (Below w.heap.size w w8) := hbb _ _ (by omega) K7.out
  have O8 : Hid (OwnS w8 (w.heap.size + 2) (.slice va nl vc) names) := O7.out.same fun k h1 h2 => ho k (by omega)
  clear ho hs8 hbb hrow hr hR h1
  go_wp2
  refine bodyPost_ret (v := .agg C.toArray) ?_ rfl ⟨_, by rw [HCC.out], O8.out.mono (by omega), HB8.out⟩
  have hl3 := run_loadVar_mid (P := Tryz.prog) _ (w.heap.size + 1) 0 30 _ _ (rangeRow HROW.out) Tryz.underlying30 rfl hi
  simp [results, Tryz.results14, asAddr, hl3]
end Go.Proofs.YtjbjegmlpjiefaaGreatDoor
namespace Go.Proofs.YtjbjegmlpjiefaaGreatDoor
open Go.RowKit Go.Lib

/-- 'string(b)' of a row that was just laid. -/
theorem convertLit (w : World) (cs : Array Value) (xs : List Int) (hc : cs = (xs.map (Value.int .u8)).toArray) (n : Nat) (hn : xs.length = n) (T : Nat) :
    (convert 76 9 (.slice (some ⟨w.heap.size, 0, none⟩) n n)).run Tryz.prog (w.alloc (.cells cs T (0, 0))) = .ok (.string (strOfNums xs)) (w.alloc (.cells cs T (0, 0))) := by
  subst hc
  refine run_convert_bytes_arg _ 76 5 Tryz.underlying76 Tryz.underlying5 w.heap.size 0 n n xs hn ?_ 9 Tryz.underlying9
  intro i hi
  rw [Nat.zero_add, cell_of_row _ _ i _ T (0, 0) (heap_alloc_new w _)]
  have hi' : i < xs.length := by omega
  simp [hi', List.getD]
theorem convertLit2 (w : World) (o : Obj) (cs : Array Value) (xs : List Int) (hc : cs = (xs.map (Value.int .u8)).toArray) (n : Nat) (hn : xs.length = n) (T : Nat) :
    (convert 76 9 (.slice (some ⟨w.heap.size + 1, 0, none⟩) n n)).run Tryz.prog ((w.alloc o).alloc (.cells cs T (0, 0))) = .ok (.string (strOfNums xs)) ((w.alloc o).alloc (.cells cs T (0, 0))) := by
  have h := convertLit (w.alloc o) cs xs hc n hn T
  simpa using h
theorem strJoin_eq (t : Int) (b : ByteArray) (l : List Int) (h : lenD b.size = l) : strOfNums (t :: l) ++ b = thingD t b := by rw [thingD, headD, h]
set_option maxHeartbeats 1000000 in
set_option maxRecDepth 100000 in
theorem specThing (t : Int) (b : ByteArray) (w : World) (h0 : 0 ≤ t) (h1 : t ≤ 255) (hb : b.size ≤ 20000) :
    Calls Tryz.prog 38 #[.int .i64 t, .string b] w fun e w' => e = .returned (.string (thingD t b)) ∧ Below w.heap.size w w' := by
  by_cases c1 : b.size < 128
  · have hcv := convertLit w #[.int .u8 t, .int .u8 (b.size : Int)] [t, (b.size : Int)] rfl 2 rfl 5
    have hsz : (strOfNums [t, (b.size : Int)]).size = 2 := by rw [strOfNums_size]; rfl
    have HF : Hid (strOfNums [t, (b.size : Int)] ++ b = thingD t b) := strJoin_eq _ _ _ (by rw [lenD, if_pos c1])
    generalize strOfNums [t, (b.size : Int)] = s at *
    go_enter Tryz.func38, Tryz.ntmps38
    go_wp2
    go_ret
    exact ⟨by rw [← HF.out]; rfl, (Below.refl _ _).alloc (Nat.le_refl _) _⟩
  by_cases c2 : b.size < 256
  · have hcv := fun o => convertLit2 w o #[.int .u8 t, .int .u8 129, .int .u8 (b.size : Int)] [t, 129, (b.size : Int)] rfl 3 rfl 5
    have hsz : (strOfNums [t, 129, (b.size : Int)]).size = 3 := by rw [strOfNums_size]; rfl
    have HF : Hid (strOfNums [t, 129, (b.size : Int)] ++ b = thingD t b) := strJoin_eq _ _ _ (by rw [lenD, if_neg c1, if_pos c2])
    generalize strOfNums [t, 129, (b.size : Int)] = s at *
    go_enter Tryz.func38, Tryz.ntmps38
    go_wp2
    go_ret
    exact ⟨by rw [← HF.out]; rfl, ((Below.refl _ _).alloc (Nat.le_refl _) _).alloc (by simp) _⟩
  · have hcv := fun o => convertLit2 w o #[.int .u8 t, .int .u8 130, .int .u8 ((b.size : Int) / 256), .int .u8 ((b.size : Int) % 256)] [t, 130, (b.size : Int) / 256, (b.size : Int) % 256] rfl 4 rfl 5
    have hsz : (strOfNums [t, 130, (b.size : Int) / 256, (b.size : Int) % 256]).size = 4 := by rw [strOfNums_size]; rfl
    have HF : Hid (strOfNums [t, 130, (b.size : Int) / 256, (b.size : Int) % 256] ++ b = thingD t b) := strJoin_eq _ _ _ (by rw [lenD, if_neg c1, if_neg c2]; simp)
    generalize strOfNums [t, 130, (b.size : Int) / 256, (b.size : Int) % 256] = s at *
    go_enter Tryz.func38, Tryz.ntmps38
    go_wp2
    go_ret
    exact ⟨by rw [← HF.out]; rfl, ((Below.refl _ _).alloc (Nat.le_refl _) _).alloc (by simp) _⟩
end Go.Proofs.YtjbjegmlpjiefaaGreatDoor
namespace Go.Proofs.YtjbjegmlpjiefaaGreatDoor
open Go.RowKit

theorem own_sliceW {w : World} {B e n : Nat} {v : Value} {xs : List Value} (h : w.ownsRow B e 1 v n xs) (hn : 0 < n) : ∃ g cap, v = .slice (some ⟨g, 0, none⟩) n cap := by
  rcases h.2 with ⟨_, h'⟩ | ⟨g, cap, _, h', _⟩
  · omega
  · exact ⟨g, cap, h'⟩
def sLenW : Value → Nat
  | .slice _ n _ => n
  | _ => 0
set_option maxHeartbeats 1000000 in
set_option maxRecDepth 100000 in
theorem specSeven (x : Nat) (w : World) (hx : x < 9223372036854775808) :
    Calls Tryz.prog 87 #[.int .i64 (x : Int)] w fun e w' => e = .returned (.string (strOfNums (sevL x))) ∧ Below w.heap.size w w' := by
  obtain ⟨i0, hi, hz0, hz1, hz2⟩ := info_parts infoByte
  go_enter Tryz.func87, Tryz.ntmps87
  go_wp2_with fail
  go_loopw [0, 3] (fun n b wr => ∃ (y f g c : Nat) (tl : List Int), y < 128 ^ f ∧ y < 9223372036854775808 ∧ f + tl.length ≤ 9 ∧ n = .int .i64 (y : Int) ∧ b = .slice (some ⟨g, 0, none⟩) (tl.length + 1) c ∧
      wr.ownsRow w.heap.size 5 1 (.slice (some ⟨g, 0, none⟩) (tl.length + 1) c) (tl.length + 1) ((tl ++ [((x % 128 : Nat) : Int)]).map (Value.int .u8)) ∧ Below w.heap.size w wr ∧ w.heap.size ≤ wr.heap.size ∧ sevH f y ++ (tl ++ [((x % 128 : Nat) : Int)]) = sevL x)
    (fun _ b _ => 20 - sLenW b)
  case atStart =>
    refine ⟨x / 128, 9, _, 1, [], by rw [p9]; omega, by omega, by simp, by simp, rfl, ?_, (Below.refl _ _).alloc (Nat.le_refl _) _, by simp, by simp [sevL]⟩
    have := World.ownsRow_lit (base := w.heap.size) (e := 5) (size := 1) w #[.int .u8 ((x : Int) % 128)] 1 (Nat.le_refl _) (by decide) rfl
    simpa using this
  case round =>
    obtain ⟨y, f, g, c, tl, hf, hy, hlen, rfl, rfl, hown, hbel, hsz, heq⟩ := hrel
    have HE : Hid (sevH f y ++ (tl ++ [((x % 128 : Nat) : Int)]) = sevL x) := heq
    have HF : Hid (y < 128 ^ f) := hf
    generalize hz : ((x % 128 : Nat) : Int) = z at *
    clear heq hf
    by_cases h0 : y = 0
    · have HS : Hid (sevL x = tl ++ [z]) := by
        show _ = _
        rw [← HE.out, h0, sevH_zero]; rfl
      have hcv := run_convert_own (P := Tryz.prog) (src := 76) (dst := 9) Tryz.underlying76 Tryz.underlying5 Tryz.underlying9 hown
      clear hown HE HF
      subst h0
      go_wp2
      go_ret
      exact ⟨by rw [HS.out]; rfl, hbel⟩
    · have HN : Hid (y ≠ 0) := h0
      have hp : 0 < y := by omega
      have HSRC : Hid (∀ j u, ((tl ++ [z]).map (Value.int .u8))[j]? = some u → wr.cell? ⟨g, j, none⟩ = some u) := fun j u hj => by
        rw [hown.cellAt j (by
          rcases Nat.lt_or_ge j (tl.length + 1) with h | h
          · omega
          · rw [List.getElem?_eq_none (by simpa using h)] at hj; cases hj)]
        exact hj
      clear h0
      have hlt := (hown.lt g rfl).2
      go_wp2_with (at_builtin; refine wpList_append_own _ rfl _ _ 76 rfl w.heap.size 5 i0 (.int .u8 0) 1 1 Tryz.underlying76 hi hz0 hz1 hz2 rfl (by decide) _ 1 _ rfl (World.ownsRow_lit _ _ 1 hsz (by decide) rfl) ⟨g, 0, none⟩ (tl.length + 1) c ((tl ++ [z]).map (Value.int .u8)) rfl (by simp) ?c1 ?c2 ?c3 ?c4 ?c5 ?_)
      case c1 =>
        intro j u hj
        rw [Addr.add_lit, Nat.zero_add, World.cell?_alloc_lt _ _ ⟨g, j, none⟩ hlt]
        exact HSRC.out j u hj
      case c2 => intro u hu; exact oneCell_ints .u8 _ u hu
      case c3 => unfold maxLen; omega
      case c4 => omega
      case c5 => simp; omega
      intro v' w1 hown' hgrow hx'
      obtain ⟨g', cap, rfl⟩ := own_sliceW hown' (by omega)
      have hb1 : Below w.heap.size w w1 := (hbel.alloc hsz _).grown hgrow (by simp; omega) (fun k hk => (World.ownsRow_lit (base := w.heap.size) (e := 5) (size := 1) wr #[.int .u8 0] 1 hsz (by decide) rfl).lt k hk |>.1)
      have hs1 : w.heap.size ≤ w1.heap.size := hb1.size
      have HO : Hid (w1.ownsRow w.heap.size 5 1 (.slice (some ⟨g', 0, none⟩) ((((y % 128 + 128 : Nat) : Int) :: tl).length + 1) cap) ((((y % 128 + 128 : Nat) : Int) :: tl).length + 1) (((((y % 128 + 128 : Nat) : Int) :: tl) ++ [z]).map (Value.int .u8))) := by
        show World.ownsRow _ _ _ _ _ _ _
        have e1 : 1 + (tl.length + 1) = (((y % 128 + 128 : Nat) : Int) :: tl).length + 1 := by simp; omega
        rw [e1] at hown'
        have e2 : (128 : Int) + (y : Int) % 128 = (y : Int) % 128 + 128 := by omega
        simpa [e2] using hown'
      have hw : 1 + (tl.length + 1) = (((y % 128 + 128 : Nat) : Int) :: tl).length + 1 := by simp; omega
      rw [hw]
      clear hown' hgrow hx' hown hbel hlt HSRC hz
      go_wp2
      go_roundw
      case rel =>
        obtain ⟨f', rfl, hf', he⟩ := sevH_more HN.out HF.out
        refine ⟨y / 128, f', g', cap, ((y % 128 + 128 : Nat) : Int) :: tl, hf', by omega, by simp; omega, by simp, rfl, HO.out, hb1, hs1, ?_⟩
        rw [← HE.out, he]; simp
      case measure => simp [sLenW]; omega
end Go.Proofs.YtjbjegmlpjiefaaGreatDoor
namespace Go.Proofs.YtjbjegmlpjiefaaGreatDoor
open Go.RowKit
theorem infoLong : (Tryz.prog.info? 2).map (fun i => (i.zero, i.size, i.bytes)) = some (some (.int .i64 0), 1, 8) := by kernel_rfl
end Go.Proofs.YtjbjegmlpjiefaaGreatDoor
namespace Go.Proofs.YtjbjegmlpjiefaaGreatDoor
open Go.RowKit

/-- The numbers zs lie behind the address (none at all: any address serves). -/
def IsInts (w : World) (a : Option Addr) (zs : List Int) : Prop := zs = [] ∨ ∃ b o, a = some ⟨b, o, none⟩ ∧ ∀ i, i < zs.length → w.cell? ⟨b, o + i, none⟩ = some (.int .i64 (zs.getD i 0))
/-- .. and its block lies below B. -/
def IntsBelow (B : Nat) (a : Option Addr) (zs : List Int) : Prop := zs = [] ∨ ∀ x, a = some x → x.block < B
theorem IsInts.below {B : Nat} {w w' : World} {a : Option Addr} {zs : List Int} (h : IsInts w a zs) (hb : Below B w w') (hB : IntsBelow B a zs) : IsInts w' a zs := by
  rcases h with rfl | ⟨b, o, rfl, hc⟩
  · exact .inl rfl
  · rcases hB with rfl | hB
    · exact .inl rfl
    · exact .inr ⟨b, o, rfl, fun i hi => by rw [hb.cell (p := ⟨b, o + i, none⟩) (hB ⟨b, o, none⟩ rfl)]; exact hc i hi⟩
theorem IntsBelow.mono {B B' : Nat} {a : Option Addr} {zs : List Int} (h : IntsBelow B a zs) (hB : B ≤ B') : IntsBelow B' a zs := by
  rcases h with h | h
  · exact .inl h
  · exact .inr fun x hx => Nat.lt_of_lt_of_le (h x hx) hB
theorem IsInts.lt {w : World} {a : Option Addr} {zs : List Int} (h : IsInts w a zs) : IntsBelow w.heap.size a zs := by
  rcases h with rfl | ⟨b, o, rfl, hc⟩
  · exact .inl rfl
  · by_cases h0 : zs.length = 0
    · exact .inl (List.eq_nil_of_length_eq_zero h0)
    · refine .inr fun x hx => ?_
      cases hx
      exact World.block_lt_of_cell? w _ (hc 0 (by omega))
theorem IsInts.keep {w w' : World} {a : Option Addr} {zs : List Int} (h : IsInts w a zs) (hb : Below w.heap.size w w') : IsInts w' a zs := h.below hb h.lt
def lCells (zs : List Int) : List Value := zs.map (Value.int .i64)
theorem IsInts.row {w : World} {g : Nat} {t : TypeId} {zs : List Int} {rest : List Value} (h : w.heap[g]? = some (.cells (lCells zs ++ rest).toArray t (0, 0))) : IsInts w (some ⟨g, 0, none⟩) zs :=
  .inr ⟨g, 0, rfl, fun i hi => by
    rw [Nat.zero_add, cell_of_row w g i _ t (0, 0) h]
    simp [lCells, List.getD, hi, List.getElem?_append_left]⟩
theorem IsInts.at {w : World} {a : Option Addr} {zs : List Int} (h : IsInts w a zs) (h0 : zs ≠ []) : ∃ b o, a = some ⟨b, o, none⟩ ∧ ∀ i, i < zs.length → w.cell? ⟨b, o + i, none⟩ = some (.int .i64 (zs.getD i 0)) := by
  rcases h with h | h
  · exact absurd h h0
  · exact h
end Go.Proofs.YtjbjegmlpjiefaaGreatDoor
namespace Go.Proofs.YtjbjegmlpjiefaaGreatDoor
open Go.RowKit

theorem arcs_nat {zs : List Int} (h : arcsB zs = true) (i : Nat) (h2 : 2 ≤ i) (hi : i < zs.length) : ∃ x : Nat, zs.getD i 0 = (x : Int) ∧ x ≤ 2147483647 := by
  have := (arcsB_iff.1 h).2.2.2.2.2.2 i h2 hi
  exact ⟨(zs.getD i 0).toNat, by omega, by omega⟩
set_option maxHeartbeats 1000000 in
set_option maxRecDepth 100000 in
theorem specOid (a : Option Addr) (zs : List Int) (c : Nat) (w : World) (hr : arcsB zs = true) (ha : IsInts w a zs) :
    Calls Tryz.prog 69 #[.slice a zs.length c] w fun e w' => e = .returned (.string (thingD 6 (strOfNums (oidL zs)))) ∧ Below w.heap.size w w' := by
  obtain ⟨r2, r10, r0, r0', r1, r1', _⟩ := arcsB_iff.1 hr
  have hm2 : most2 (zs.getD 0 0) ≤ 100 := by unfold most2; split <;> omega
  have hlt := ha.lt
  obtain ⟨b, o, rfl, hc⟩ := ha.at (by intro h; rw [h] at r2; simp at r2)
  have hbw : b < w.heap.size := by
    rcases hlt with h | h
    · rw [h] at r2; simp at r2
    · exact h _ rfl
  have c0 := hc 0 (by omega)
  have c1 := hc 1 (by omega)
  rw [Nat.add_zero] at c0
  have HI : Hid (∀ W, Below w.heap.size w W → ∀ i, i < zs.length → W.cell? ⟨b, o + i, none⟩ = some (.int .i64 (zs.getD i 0))) := fun W hW i hi => by
    rw [hW.cell (p := ⟨b, o + i, none⟩) hbw]; exact hc i hi
  obtain ⟨y, hy⟩ : ∃ y : Nat, y = (40 * zs.getD 0 0 + zs.getD 1 0).toNat := ⟨_, rfl⟩
  have H0 : Hid (oidTo zs 0 = sevL y) := by rw [hy]; rfl
  have hyi : 40 * zs.getD 0 0 + zs.getD 1 0 = (y : Int) := by omega
  have hy2 : y ≤ 180 := by omega
  obtain ⟨n, hn⟩ : ∃ n, n = zs.length := ⟨_, rfl⟩
  have HL : Hid (oidL zs = oidTo zs (n - 2)) := by rw [hn]; rfl
  have HLen : Hid (∀ k, k + 2 ≤ n → (strOfNums (oidTo zs k)).size ≤ 45) := fun k hk => by
    rw [strOfNums_size]
    have := oidTo_len hr k (by omega)
    omega
  have HN : Hid (∀ i, 2 ≤ i → i < n → ∃ x : Nat, zs.getD i 0 = (x : Int) ∧ x ≤ 2147483647) := fun i h1 h2 => arcs_nat hr i h1 (by omega)
  rw [← hn] at HI r2 r10 ⊢
  generalize zs.getD 0 0 = x0 at *
  generalize zs.getD 1 0 = x1 at *
  clear hc ha hr hlt hn hy
  go_enter Tryz.func69, Tryz.ntmps69
  go_wp2_with fail
  have ew1 : IntKind.i64.wrap (40 * x0) = 40 * x0 := by rw [IntKind.wrap_i64]; omega
  have ew2 : IntKind.i64.wrap (y : Int) = (y : Int) := by rw [IntKind.wrap_i64]; omega
  have i0 : (0 : Int) < (n : Int) := by omega
  have i1 : (1 : Int) < (n : Int) := by omega
  have j0 : 0 < n := by omega
  have j1 : 1 < n := by omega
  have HT : Hid (∀ V : World, Hid (Below w.heap.size w V) → Calls Tryz.prog 87 #[.int .i64 (y : Int)] V fun e W => e = .returned (.string (strOfNums (sevL y))) ∧ Hid (Below w.heap.size w W) ∧ W.cell? ⟨b, o, none⟩ = some (.int .i64 x0) ∧ W.cell? ⟨b, o + 1, none⟩ = some (.int .i64 x1)) := fun V hV => by
    refine (specSeven y V (by omega)).mono ?_
    rintro e W ⟨rfl, hW⟩
    have hB := hV.out.trans (hW.mono hV.out.size)
    exact ⟨rfl, hB, by rw [hB.cell (p := ⟨b, o, none⟩) hbw]; exact c0, by rw [hB.cell (p := ⟨b, o + 1, none⟩) hbw]; exact c1⟩
  have HD : Hid (Below w.heap.size w w.drew) := (Below.refl _ w).drew
  go_region_held3 (fun V => V.cell? ⟨b, o, none⟩ = some (.int .i64 x0) ∧ V.cell? ⟨b, o + 1, none⟩ = some (.int .i64 x1)) (first | exact ⟨k0, k1⟩ | go_keep)
    (first | (go_at_call 87; refine (HT.out _ (by assumption)).mono ?_; rintro r w1 ⟨rfl, kk, k0, k1⟩))
  have hb1 := kk.out
  clear kk HD HT k0 k1 ew1 ew2 i0 i1 j0 j1 c0 c1
  go_wp2_with fail
  go_loopw [3, 4] (fun t i wr => ∃ k : Nat, k + 2 ≤ n ∧ t = .string (strOfNums (oidTo zs k)) ∧ i = .int .i64 ((k : Int) + 2) ∧ Below w.heap.size w wr ∧ w.heap.size ≤ wr.heap.size)
    (fun _ i _ => n - (intOf i).toNat)
  case atStart => exact ⟨0, by omega, by rw [H0.out], rfl, hb1, hb1.size⟩
  case round =>
    obtain ⟨k, hk, rfl, rfl, hbr, hsr⟩ := hrel
    have hls := HLen.out k hk
    by_cases hlt : k + 2 < n
    · have ck := HI.out wr hbr (k + 2) hlt
      obtain ⟨x, hx, hxm⟩ := HN.out (k + 2) (by omega) hlt
      rw [hx] at ck
      have HS : Hid (strOfNums (oidTo zs (k + 1)) = strOfNums (oidTo zs k) ++ strOfNums (sevL x)) := by
        show _ = _
        rw [oidTo, strOfNums_append, hx]; rfl
      have hls2 := HLen.out (k + 1) (by omega)
      have hsz : (strOfNums (oidTo zs k) ++ strOfNums (sevL x)).size ≤ 45 := by rw [← HS.out]; exact hls2
      have HSv : Hid (∀ V : World, Calls Tryz.prog 87 #[.int .i64 (x : Int)] V fun e w' => e = .returned (.string (strOfNums (sevL x))) ∧ Below V.heap.size V w') := fun V => specSeven x V (by omega)
      have hsx : (strOfNums (sevL x)).size ≤ 45 := by rw [ByteArray.size_append] at hsz; omega
      generalize strOfNums (oidTo zs k) = t at *
      generalize strOfNums (sevL x) = u at *
      go_wp2_with fail
      refine (HSv.out _).mono ?_
      rintro e w2 ⟨rfl, hb2⟩
      have HB2 : Hid (Below w.heap.size w w2) := hbr.trans (hb2.mono hsr)
      clear hb2 hbr ck
      go_wp2_with fail
      go_roundw
      case rel => exact ⟨k + 1, by omega, by rw [HS.out], by go_num, HB2.out, HB2.out.size⟩
      case measure => simp [intOf]; omega
    · obtain rfl : n = k + 2 := by omega
      have HL2 : Hid (∀ V : World, Calls Tryz.prog 38 #[.int .i64 6, .string (strOfNums (oidTo zs k))] V fun e w' => e = .returned (.string (thingD 6 (strOfNums (oidL zs)))) ∧ Below V.heap.size V w') := fun V => by
        have h := specThing 6 (strOfNums (oidTo zs k)) V (by decide) (by decide) (by omega)
        rw [HL.out, show k + 2 - 2 = k from by omega]
        exact h
      generalize strOfNums (oidTo zs k) = t at *
      go_wp2_with fail
      refine (HL2.out _).mono ?_
      rintro e w2 ⟨rfl, hb2⟩
      go_wp2_with fail
      go_ret
      exact ⟨rfl, hbr.trans (hb2.mono hsr)⟩
end Go.Proofs.YtjbjegmlpjiefaaGreatDoor
