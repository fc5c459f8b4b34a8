/- laws.toCert, walked. -/
import Derived.Test.YtkopinnhicoggaaCertP
import Derived.Test.YtkopinnhicoggaaStrsT
import Derived.Test.YtkopinnhicoggaaToSig
import Derived.Test.YtkopinnhicoggaaResK
import Derived.Test.YtkopinnhicoggaaStoreR
import Derived.Deep.Cut
namespace Go.Proofs.Ytkopinnhicoggaa
open Go.RowKit

theorem sizeCert : (Try.prog.info? 31).map (·.size) = some 11 := by kernel_rfl
set_option maxHeartbeats 4000000 in
set_option maxRecDepth 100000 in
theorem toCert (c : Paper) (a : Option Addr) (cap : Nat) (w : World) (hl : c.names.length ≤ 1048576) (ha : IsStrs w a c.names) :
    Calls Try.prog 8 #[c.val (.slice a c.names.length cap)] w fun e w' => ∃ g, e = .returned (c.val (.slice (some ⟨g, 0, none⟩) c.names.length c.names.length)) ∧ w.heap.size ≤ g ∧ w'.heap[g]? = some (.cells (sCells c.names).toArray 9 (0, 0)) ∧ Below w.heap.size w w' := by
  obtain ⟨ser, iss, sub, fr, till, key, names, ca, sk, se, ss⟩ := c
  simp only at hl ha
  unfold Paper.val
  simp only
  have HT : Hid (∀ V, IsStrs V a names → Calls Try.prog 18 #[.slice a names.length cap] V fun e w' => e = .returned (.slice (some ⟨V.heap.size, 0, none⟩) names.length names.length) ∧ w'.heap[V.heap.size]? = some (.cells (sCells names).toArray 9 (0, 0)) ∧ Below V.heap.size V w') := fun V h1 => toStrs a names cap V hl h1
  generalize names.length = nl at *
  obtain ⟨w1, hw1⟩ : ∃ w1, w1 = ((w.alloc (.cells #[.int .i64 ser, .string iss, .string sub, .int .i64 fr, .int .i64 till, .int .i64 key, .slice a nl cap, .bool ca, .int .i64 sk, .int .i64 se, .int .i64 ss] 26 (0, 0))).alloc (.cells #[.int .i64 0, .string ⟨#[]⟩, .string ⟨#[]⟩, .int .i64 0, .int .i64 0, .int .i64 0, .slice none 0 0, .bool false, .int .i64 0, .int .i64 0, .int .i64 0] 31 (0, 0))).alloc (.cells #[.int .i64 ser, .string iss, .string sub, .int .i64 fr, .int .i64 till, .int .i64 key, .slice none 0 0, .bool false, .int .i64 0, .int .i64 0, .int .i64 0] 31 (0, 0)) := ⟨_, rfl⟩
  have r0 : w1.heap[w.heap.size]? = some (.cells [Value.int .i64 ser, .string iss, .string sub, .int .i64 fr, .int .i64 till, .int .i64 key, .slice a nl cap, .bool ca, .int .i64 sk, .int .i64 se, .int .i64 ss].toArray 26 (0, 0)) := by
    rw [hw1, Below.heap_alloc _ _ _ (by simp; omega), Below.heap_alloc _ _ _ (by simp)]; exact heap_alloc_new w _
  have r1 : w1.heap[w.heap.size + 1]? = some (.cells [Value.int .i64 0, .string ⟨#[]⟩, .string ⟨#[]⟩, .int .i64 0, .int .i64 0, .int .i64 0, .slice none 0 0, .bool false, .int .i64 0, .int .i64 0, .int .i64 0].toArray 31 (0, 0)) := by
    rw [hw1, Below.heap_alloc _ _ _ (by simp)]; exact heap_alloc2 w _ _
  have z1 : w1.heap.size = w.heap.size + 3 := by rw [hw1]; simp
  have r2 : w1.heap[w.heap.size + 1 + 1]? = some (.cells [Value.int .i64 ser, .string iss, .string sub, .int .i64 fr, .int .i64 till, .int .i64 key, .slice none 0 0, .bool false, .int .i64 0, .int .i64 0, .int .i64 0].toArray 31 (0, 0)) := by
    rw [hw1]
    have := heap_alloc2 (w.alloc (.cells #[.int .i64 ser, .string iss, .string sub, .int .i64 fr, .int .i64 till, .int .i64 key, .slice a nl cap, .bool ca, .int .i64 sk, .int .i64 se, .int .i64 ss] 26 (0, 0))) (.cells #[.int .i64 0, .string ⟨#[]⟩, .string ⟨#[]⟩, .int .i64 0, .int .i64 0, .int .i64 0, .slice none 0 0, .bool false, .int .i64 0, .int .i64 0, .int .i64 0] 31 (0, 0)) (.cells #[.int .i64 ser, .string iss, .string sub, .int .i64 fr, .int .i64 till, .int .i64 key, .slice none 0 0, .bool false, .int .i64 0, .int .i64 0, .int .i64 0] 31 (0, 0))
    simpa using this
  have B1 : Hid (Below w.heap.size w w1) := by rw [hw1]; exact (((Below.refl _ _).alloc (Nat.le_refl _) _).alloc (by simp) _).alloc (by simp; omega) _
  have A1 : Hid (IsStrs w1 a names) := ha.keep B1.out
  clear ha hl
  go_enter Try.func8, Try.ntmps8
  go_upto_region 8 with fail
  rw [← hw1]
  clear hw1
  have c6 := rowFacts r0 6 _ rfl
  have R0 : Hid _ := r0
  have R1 : Hid _ := r1
  have R2 : Hid _ := r2
  have Z1 : Hid (w1.heap.size = w.heap.size + 3) := z1
  clear r0 r1 r2 z1
  go_wp2_with fail
  refine (HT.out _ A1.out).mono ?_
  rintro e w2 ⟨rfl, hg, b2⟩
  have z1 := Z1.out
  have r0 : w2.heap[w.heap.size]? = some (.cells [Value.int .i64 ser, .string iss, .string sub, .int .i64 fr, .int .i64 till, .int .i64 key, .slice a nl cap, .bool ca, .int .i64 sk, .int .i64 se, .int .i64 ss].toArray 26 (0, 0)) := by rw [b2.block _ (by omega)]; exact R0.out
  have r1 : w2.heap[w.heap.size + 1]? = some (.cells [Value.int .i64 0, .string ⟨#[]⟩, .string ⟨#[]⟩, .int .i64 0, .int .i64 0, .int .i64 0, .slice none 0 0, .bool false, .int .i64 0, .int .i64 0, .int .i64 0].toArray 31 (0, 0)) := by rw [b2.block _ (by omega)]; exact R1.out
  have r2 : w2.heap[w.heap.size + 1 + 1]? = some (.cells [Value.int .i64 ser, .string iss, .string sub, .int .i64 fr, .int .i64 till, .int .i64 key, .slice none 0 0, .bool false, .int .i64 0, .int .i64 0, .int .i64 0].toArray 31 (0, 0)) := by rw [b2.block _ (by omega)]; exact R2.out
  have B2 : Hid (Below w.heap.size w w2) := B1.out.trans (b2.mono B1.out.size)
  clear R0 R1 R2 c6 b2 A1 B1 HT
  obtain ⟨w3, hw3⟩ : ∃ w3, w3 = (w2.setCell ⟨w.heap.size + 1 + 1, 6, none⟩ (.slice (some ⟨w1.heap.size, 0, none⟩) nl nl)).setCell ⟨w.heap.size + 1 + 1, 7, none⟩ (.bool ca) := ⟨_, rfl⟩
  have t0 : w3.heap[w.heap.size]? = some (.cells [Value.int .i64 ser, .string iss, .string sub, .int .i64 fr, .int .i64 till, .int .i64 key, .slice a nl cap, .bool ca, .int .i64 sk, .int .i64 se, .int .i64 ss].toArray 26 (0, 0)) := by rw [hw3, heap_setCell_other _ _ _ _ (by simp; omega), heap_setCell_other _ _ _ _ (by simp; omega)]; exact r0
  have t1 : w3.heap[w.heap.size + 1]? = some (.cells [Value.int .i64 0, .string ⟨#[]⟩, .string ⟨#[]⟩, .int .i64 0, .int .i64 0, .int .i64 0, .slice none 0 0, .bool false, .int .i64 0, .int .i64 0, .int .i64 0].toArray 31 (0, 0)) := by rw [hw3, heap_setCell_other _ _ _ _ (by simp), heap_setCell_other _ _ _ _ (by simp)]; exact r1
  have t2 : w3.heap[w.heap.size + 1 + 1]? = some (.cells [Value.int .i64 ser, .string iss, .string sub, .int .i64 fr, .int .i64 till, .int .i64 key, .slice (some ⟨w1.heap.size, 0, none⟩) nl nl, .bool ca, .int .i64 0, .int .i64 0, .int .i64 0].toArray 31 (0, 0)) := by rw [hw3]; exact rowSet (i := 7) _ (rowSet (i := 6) _ r2)
  have hg3 : w3.heap[w1.heap.size]? = some (.cells (sCells names).toArray 9 (0, 0)) := by rw [hw3, heap_setCell_other _ _ _ _ (by simp; omega), heap_setCell_other _ _ _ _ (by simp; omega)]; exact hg
  have B3 : Hid (Below w.heap.size w w3) := by rw [hw3]; exact (B2.out.setCell (by simp; omega) _).setCell (by simp; omega) _
  have c7 := rowFacts r0 7 _ rfl
  have d6 := rowFacts r2 6 _ rfl
  have d7 := rowFacts r2 7 _ rfl
  have f6 := rowFree r2 6
  have f7 := rowFree r2 7
  have T0 : Hid _ := t0
  have T1 : Hid _ := t1
  have T2 : Hid _ := t2
  have HG3 : Hid _ := hg3
  clear r0 r1 r2 t0 t1 t2 hg hg3 B2 z1
  go_upto_region 10 with fail
  rw [← hw3]
  clear hw3 c7 d6 d7 f6 f7
  have c8 := rowFacts T0.out 8 _ rfl
  have c9 := rowFacts T0.out 9 _ rfl
  have c10 := rowFacts T0.out 10 _ rfl
  go_wp2_with fail
  refine (toSig sk se ss _).mono ?_
  rintro e w4 ⟨rfl, b4⟩
  have u1 : w4.heap[w.heap.size + 1]? = some (.cells [Value.int .i64 0, .string ⟨#[]⟩, .string ⟨#[]⟩, .int .i64 0, .int .i64 0, .int .i64 0, .slice none 0 0, .bool false, .int .i64 0, .int .i64 0, .int .i64 0].toArray 31 (0, 0)) := by rw [b4.block _ (heap_lt T1.out)]; exact T1.out
  have u2 : w4.heap[w.heap.size + 1 + 1]? = some (.cells [Value.int .i64 ser, .string iss, .string sub, .int .i64 fr, .int .i64 till, .int .i64 key, .slice (some ⟨w1.heap.size, 0, none⟩) nl nl, .bool ca, .int .i64 0, .int .i64 0, .int .i64 0].toArray 31 (0, 0)) := by rw [b4.block _ (heap_lt T2.out)]; exact T2.out
  have HG4 : Hid (w4.heap[w1.heap.size]? = some (.cells (sCells names).toArray 9 (0, 0))) := by show _ = _; rw [b4.block _ (heap_lt HG3.out)]; exact HG3.out
  have B4 : Hid (Below w.heap.size w w4) := B3.out.trans (b4.mono B3.out.size)
  have U1 : Hid _ := u1
  have U2 : Hid _ := u2
  clear c8 c9 c10 T0 T1 T2 HG3 b4 B3
  obtain ⟨w5, hw5⟩ : ∃ w5, w5 = (((w4.setCell ⟨w.heap.size + 1 + 1, 8, none⟩ (.int .i64 sk)).setCell ⟨w.heap.size + 1 + 1, 9, none⟩ (.int .i64 se)).setCell ⟨w.heap.size + 1 + 1, 10, none⟩ (.int .i64 ss)) := ⟨_, rfl⟩
  obtain ⟨C, hC⟩ : ∃ C, C = [Value.int .i64 ser, .string iss, .string sub, .int .i64 fr, .int .i64 till, .int .i64 key, .slice (some ⟨w1.heap.size, 0, none⟩) nl nl, .bool ca, .int .i64 sk, .int .i64 se, .int .i64 ss] := ⟨_, rfl⟩
  have v2 : w5.heap[w.heap.size + 1 + 1]? = some (.cells C.toArray 31 (0, 0)) := by rw [hw5, hC]; exact (rowSet (i := 10) (.int .i64 ss) (rowSet (i := 9) (.int .i64 se) (rowSet (i := 8) (.int .i64 sk) U2.out)))
  have v1 : w5.heap[w.heap.size + 1]? = some (.cells [Value.int .i64 0, .string ⟨#[]⟩, .string ⟨#[]⟩, .int .i64 0, .int .i64 0, .int .i64 0, .slice none 0 0, .bool false, .int .i64 0, .int .i64 0, .int .i64 0].toArray 31 (0, 0)) := by rw [hw5, heap_setCell_other _ _ _ _ (by simp), heap_setCell_other _ _ _ _ (by simp), heap_setCell_other _ _ _ _ (by simp)]; exact U1.out
  have vg : w5.heap[w1.heap.size]? = some (.cells (sCells names).toArray 9 (0, 0)) := by
    have := Z1.out
    rw [hw5, heap_setCell_other _ _ _ _ (by simp; omega), heap_setCell_other _ _ _ _ (by simp; omega), heap_setCell_other _ _ _ _ (by simp; omega)]; exact HG4.out
  have B5 : Hid (Below w.heap.size w w5) := by rw [hw5]; exact ((B4.out.setCell (by simp; omega) _).setCell (by simp; omega) _).setCell (by simp; omega) _
  have hone : ∀ v ∈ C, v.oneCell' = true := by rw [hC]; simp [Value.oneCell']
  have hi : (Try.prog.info? 31).map (·.size) = some C.length := by rw [hC]; exact sizeCert
  have hlen : [Value.int .i64 0, .string ⟨#[]⟩, .string ⟨#[]⟩, .int .i64 0, .int .i64 0, .int .i64 0, .slice none 0 0, .bool false, .int .i64 0, .int .i64 0, .int .i64 0].length = C.length := by rw [hC]; rfl
  have HC : Hid (C = [Value.int .i64 ser, .string iss, .string sub, .int .i64 fr, .int .i64 till, .int .i64 key, .slice (some ⟨w1.heap.size, 0, none⟩) nl nl, .bool ca, .int .i64 sk, .int .i64 se, .int .i64 ss]) := hC
  have VG : Hid _ := vg
  have p8 := rowFacts u2 8 _ rfl
  have p9 := rowFacts u2 9 _ rfl
  have p10 := rowFacts u2 10 _ rfl
  have q8 := rowFree u2 8
  have q9 := rowFree u2 9
  have q10 := rowFree u2 10
  have V1 : Hid _ := v1
  have V2 : Hid _ := v2
  have HOne : Hid (∀ v ∈ C, v.oneCell' = true) := hone
  have HI : Hid ((Try.prog.info? 31).map (·.size) = some C.length) := hi
  have HLen : Hid ([Value.int .i64 0, .string ⟨#[]⟩, .string ⟨#[]⟩, .int .i64 0, .int .i64 0, .int .i64 0, .slice none 0 0, .bool false, .int .i64 0, .int .i64 0, .int .i64 0].length = C.length) := hlen
  clear u1 u2 v1 v2 vg hone hi hlen hC HG4 B4 U1 U2
  go_upto_region 11 with fail
  rw [← hw5]
  clear hw5 p8 p9 p10 q8 q9 q10
  have hr := rangeRow V2.out
  have hR := V1.out
  have h1 := HOne.out
  have hi := HI.out
  go_wp2_with (first | (refine wpList_load_mid rfl 31 _ rfl (w.heap.size + 1 + 1) 0 rfl C _ hr Try.underlying31 rfl hi ?_) | (refine wpList_store_row rfl 31 _ _ rfl (w.heap.size + 1) _ C 31 rfl rfl hR HLen.out hi h1 ?_))
  intro w6 hrow ho hs6 hbb
  have HROW : Hid _ := hrow
  have HB6 : Hid (Below w.heap.size w w6) := hbb _ _ (by omega) B5.out
  have HG6 : Hid (w6.heap[w1.heap.size]? = some (.cells (sCells names).toArray 9 (0, 0))) := by show _ = _; rw [ho _ (by have := Z1.out; omega)]; exact VG.out
  clear ho hs6 hbb hrow hr hR h1
  go_wp2
  refine bodyPost_ret (v := .agg C.toArray) ?_ rfl ⟨w1.heap.size, by rw [HC.out], by have := Z1.out; omega, HG6.out, HB6.out⟩
  have hl3 := run_loadVar_mid (P := Try.prog) _ (w.heap.size + 1) 0 31 _ _ (rangeRow HROW.out) Try.underlying31 rfl hi
  simp [results, Try.results8, asAddr, hl3]
end Go.Proofs.Ytkopinnhicoggaa
