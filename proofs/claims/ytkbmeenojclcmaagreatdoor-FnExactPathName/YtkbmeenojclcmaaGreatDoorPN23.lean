/- laws.toCrl, walked. laws.eqStringS, walked. laws.eqSig, walked: of a Sig and itself. laws.eqCert, walked: of a paper and itself. laws.eqInt64S, walked. laws.eqCrl, walked: of one and itself. Names that came in, opened. A paper that came in, opened. What a walk is told of a slice of integers that came in. A list of what is taken back, that came in, opened. -/
import Derived.Test.YtkbmeenojclcmaaGreatDoorPN05
import Derived.Test.YtkbmeenojclcmaaGreatDoorPN22
import Derived.Test.YtkbmeenojclcmaaGreatDoorPN12
import Derived.Test.YtkbmeenojclcmaaGreatDoorPN04
import Derived.Deep.Cut
import Derived.Test.YtkbmeenojclcmaaGreatDoorPN01
import Derived.Test.YtkbmeenojclcmaaGreatDoorPN10
import Derived.Handy
import Derived.Test.YtkbmeenojclcmaaGreatDoorPN02
import Derived.ProofKit
import Derived.SliceStrings
import Derived.Deep.Strs
import Derived.OpenShut
namespace Go.Proofs.YtkbmeenojclcmaaGreatDoor
open Go.RowKit

theorem sizeCrl : (Tryz.prog.info? 38).map (·.size) = some 7 := by kernel_rfl
set_option maxHeartbeats 4000000 in
set_option maxRecDepth 100000 in
theorem toCrl (c : Lst) (a : Option Addr) (cap : Nat) (w : World) (hl : c.serials.length ≤ 1048576) (ha : IsInts w a c.serials) :
    Calls Tryz.prog 9 #[c.val (.slice a c.serials.length cap)] w fun e w' => ∃ g, e = .returned (c.val (.slice (some ⟨g, 0, none⟩) c.serials.length c.serials.length)) ∧ w.heap.size ≤ g ∧ w'.heap[g]? = some (.cells (lCells c.serials).toArray 2 (0, 0)) ∧ Below w.heap.size w w' := by
  obtain ⟨iss, fr, till, serials, sk, se, ss⟩ := c
  simp only at hl ha
  unfold Lst.val
  simp only
  have HT : Hid (∀ V, IsInts V a serials → Calls Tryz.prog 27 #[.slice a serials.length cap] V fun e w' => e = .returned (.slice (some ⟨V.heap.size, 0, none⟩) serials.length serials.length) ∧ w'.heap[V.heap.size]? = some (.cells (lCells serials).toArray 2 (0, 0)) ∧ Below V.heap.size V w') := fun V h1 => toInts a serials cap V hl h1
  generalize serials.length = nl at *
  obtain ⟨w1, hw1⟩ : ∃ w1, w1 = ((w.alloc (.cells #[.string iss, .int .i64 fr, .int .i64 till, .slice a nl cap, .int .i64 sk, .int .i64 se, .int .i64 ss] 29 (0, 0))).alloc (.cells #[.string ⟨#[]⟩, .int .i64 0, .int .i64 0, .slice none 0 0, .int .i64 0, .int .i64 0, .int .i64 0] 38 (0, 0))).alloc (.cells #[.string iss, .int .i64 fr, .int .i64 till, .slice none 0 0, .int .i64 0, .int .i64 0, .int .i64 0] 38 (0, 0)) := ⟨_, rfl⟩
  have r0 : w1.heap[w.heap.size]? = some (.cells [Value.string iss, .int .i64 fr, .int .i64 till, .slice a nl cap, .int .i64 sk, .int .i64 se, .int .i64 ss].toArray 29 (0, 0)) := by
    rw [hw1, Below.heap_alloc _ _ _ (by simp; omega), Below.heap_alloc _ _ _ (by simp)]; exact heap_alloc_new w _
  have r1 : w1.heap[w.heap.size + 1]? = some (.cells [Value.string ⟨#[]⟩, .int .i64 0, .int .i64 0, .slice none 0 0, .int .i64 0, .int .i64 0, .int .i64 0].toArray 38 (0, 0)) := by
    rw [hw1, Below.heap_alloc _ _ _ (by simp)]; exact heap_alloc2 w _ _
  have z1 : w1.heap.size = w.heap.size + 3 := by rw [hw1]; simp
  have r2 : w1.heap[w.heap.size + 1 + 1]? = some (.cells [Value.string iss, .int .i64 fr, .int .i64 till, .slice none 0 0, .int .i64 0, .int .i64 0, .int .i64 0].toArray 38 (0, 0)) := by
    rw [hw1]
    have := heap_alloc2 (w.alloc (.cells #[.string iss, .int .i64 fr, .int .i64 till, .slice a nl cap, .int .i64 sk, .int .i64 se, .int .i64 ss] 29 (0, 0))) (.cells #[.string ⟨#[]⟩, .int .i64 0, .int .i64 0, .slice none 0 0, .int .i64 0, .int .i64 0, .int .i64 0] 38 (0, 0)) (.cells #[.string iss, .int .i64 fr, .int .i64 till, .slice none 0 0, .int .i64 0, .int .i64 0, .int .i64 0] 38 (0, 0))
    simpa using this
  have B1 : Hid (Below w.heap.size w w1) := by rw [hw1]; exact (((Below.refl _ _).alloc (Nat.le_refl _) _).alloc (by simp) _).alloc (by simp; omega) _
  have A1 : Hid (IsInts w1 a serials) := ha.keep B1.out
  clear ha hl
  go_enter Tryz.func9, Tryz.ntmps9
  go_upto_region 5 with fail
  rw [← hw1]
  clear hw1
  have c6 := rowFacts r0 3 _ rfl
  have R0 : Hid _ := r0
  have R1 : Hid _ := r1
  have R2 : Hid _ := r2
  have Z1 : Hid (w1.heap.size = w.heap.size + 3) := z1
  clear r0 r1 r2 z1
  go_wp2_with fail
  refine (HT.out _ A1.out).mono ?_
  rintro e w2 ⟨rfl, hg, b2⟩
  have z1 := Z1.out
  have r0 : w2.heap[w.heap.size]? = some (.cells [Value.string iss, .int .i64 fr, .int .i64 till, .slice a nl cap, .int .i64 sk, .int .i64 se, .int .i64 ss].toArray 29 (0, 0)) := by rw [b2.block _ (by omega)]; exact R0.out
  have r1 : w2.heap[w.heap.size + 1]? = some (.cells [Value.string ⟨#[]⟩, .int .i64 0, .int .i64 0, .slice none 0 0, .int .i64 0, .int .i64 0, .int .i64 0].toArray 38 (0, 0)) := by rw [b2.block _ (by omega)]; exact R1.out
  have r2 : w2.heap[w.heap.size + 1 + 1]? = some (.cells [Value.string iss, .int .i64 fr, .int .i64 till, .slice none 0 0, .int .i64 0, .int .i64 0, .int .i64 0].toArray 38 (0, 0)) := by rw [b2.block _ (by omega)]; exact R2.out
  have B2 : Hid (Below w.heap.size w w2) := B1.out.trans (b2.mono B1.out.size)
  clear R0 R1 R2 c6 b2 A1 B1 HT
  obtain ⟨w3, hw3⟩ : ∃ w3, w3 = w2.setCell ⟨w.heap.size + 1 + 1, 3, none⟩ (.slice (some ⟨w1.heap.size, 0, none⟩) nl nl) := ⟨_, rfl⟩
  have t0 : w3.heap[w.heap.size]? = some (.cells [Value.string iss, .int .i64 fr, .int .i64 till, .slice a nl cap, .int .i64 sk, .int .i64 se, .int .i64 ss].toArray 29 (0, 0)) := by rw [hw3, heap_setCell_other _ _ _ _ (by simp; omega)]; exact r0
  have t1 : w3.heap[w.heap.size + 1]? = some (.cells [Value.string ⟨#[]⟩, .int .i64 0, .int .i64 0, .slice none 0 0, .int .i64 0, .int .i64 0, .int .i64 0].toArray 38 (0, 0)) := by rw [hw3, heap_setCell_other _ _ _ _ (by simp)]; exact r1
  have t2 : w3.heap[w.heap.size + 1 + 1]? = some (.cells [Value.string iss, .int .i64 fr, .int .i64 till, .slice (some ⟨w1.heap.size, 0, none⟩) nl nl, .int .i64 0, .int .i64 0, .int .i64 0].toArray 38 (0, 0)) := by rw [hw3]; exact rowSet (i := 3) _ r2
  have hg3 : w3.heap[w1.heap.size]? = some (.cells (lCells serials).toArray 2 (0, 0)) := by rw [hw3, heap_setCell_other _ _ _ _ (by simp; omega)]; exact hg
  have B3 : Hid (Below w.heap.size w w3) := by rw [hw3]; exact B2.out.setCell (by simp; omega) _
  have d6 := rowFacts r2 3 _ rfl
  have f6 := rowFree r2 3
  have T0 : Hid _ := t0
  have T1 : Hid _ := t1
  have T2 : Hid _ := t2
  have HG3 : Hid _ := hg3
  clear r0 r1 r2 t0 t1 t2 hg hg3 B2 z1
  go_upto_region 6 with fail
  rw [← hw3]
  clear hw3 d6 f6
  have c8 := rowFacts T0.out 4 _ rfl
  have c9 := rowFacts T0.out 5 _ rfl
  have c10 := rowFacts T0.out 6 _ rfl
  go_wp2_with fail
  refine (toSig sk se ss _).mono ?_
  rintro e w4 ⟨rfl, b4⟩
  have u1 : w4.heap[w.heap.size + 1]? = some (.cells [Value.string ⟨#[]⟩, .int .i64 0, .int .i64 0, .slice none 0 0, .int .i64 0, .int .i64 0, .int .i64 0].toArray 38 (0, 0)) := by rw [b4.block _ (heap_lt T1.out)]; exact T1.out
  have u2 : w4.heap[w.heap.size + 1 + 1]? = some (.cells [Value.string iss, .int .i64 fr, .int .i64 till, .slice (some ⟨w1.heap.size, 0, none⟩) nl nl, .int .i64 0, .int .i64 0, .int .i64 0].toArray 38 (0, 0)) := by rw [b4.block _ (heap_lt T2.out)]; exact T2.out
  have HG4 : Hid (w4.heap[w1.heap.size]? = some (.cells (lCells serials).toArray 2 (0, 0))) := by show _ = _; rw [b4.block _ (heap_lt HG3.out)]; exact HG3.out
  have B4 : Hid (Below w.heap.size w w4) := B3.out.trans (b4.mono B3.out.size)
  have U1 : Hid _ := u1
  have U2 : Hid _ := u2
  clear c8 c9 c10 T0 T1 T2 HG3 b4 B3
  obtain ⟨w5, hw5⟩ : ∃ w5, w5 = (((w4.setCell ⟨w.heap.size + 1 + 1, 4, none⟩ (.int .i64 sk)).setCell ⟨w.heap.size + 1 + 1, 5, none⟩ (.int .i64 se)).setCell ⟨w.heap.size + 1 + 1, 6, none⟩ (.int .i64 ss)) := ⟨_, rfl⟩
  obtain ⟨C, hC⟩ : ∃ C, C = [Value.string iss, .int .i64 fr, .int .i64 till, .slice (some ⟨w1.heap.size, 0, none⟩) nl nl, .int .i64 sk, .int .i64 se, .int .i64 ss] := ⟨_, rfl⟩
  have v2 : w5.heap[w.heap.size + 1 + 1]? = some (.cells C.toArray 38 (0, 0)) := by rw [hw5, hC]; exact (rowSet (i := 6) (.int .i64 ss) (rowSet (i := 5) (.int .i64 se) (rowSet (i := 4) (.int .i64 sk) U2.out)))
  have v1 : w5.heap[w.heap.size + 1]? = some (.cells [Value.string ⟨#[]⟩, .int .i64 0, .int .i64 0, .slice none 0 0, .int .i64 0, .int .i64 0, .int .i64 0].toArray 38 (0, 0)) := by rw [hw5, heap_setCell_other _ _ _ _ (by simp), heap_setCell_other _ _ _ _ (by simp), heap_setCell_other _ _ _ _ (by simp)]; exact U1.out
  have vg : w5.heap[w1.heap.size]? = some (.cells (lCells serials).toArray 2 (0, 0)) := by
    have := Z1.out
    rw [hw5, heap_setCell_other _ _ _ _ (by simp; omega), heap_setCell_other _ _ _ _ (by simp; omega), heap_setCell_other _ _ _ _ (by simp; omega)]; exact HG4.out
  have B5 : Hid (Below w.heap.size w w5) := by rw [hw5]; exact ((B4.out.setCell (by simp; omega) _).setCell (by simp; omega) _).setCell (by simp; omega) _
  have hone : ∀ v ∈ C, v.oneCell' = true := by rw [hC]; simp [Value.oneCell']
  have hi : (Tryz.prog.info? 38).map (·.size) = some C.length := by rw [hC]; exact sizeCrl
  have hlen : [Value.string ⟨#[]⟩, .int .i64 0, .int .i64 0, .slice none 0 0, .int .i64 0, .int .i64 0, .int .i64 0].length = C.length := by rw [hC]; rfl
  have HC : Hid (C = [Value.string iss, .int .i64 fr, .int .i64 till, .slice (some ⟨w1.heap.size, 0, none⟩) nl nl, .int .i64 sk, .int .i64 se, .int .i64 ss]) := hC
  have VG : Hid _ := vg
  have p8 := rowFacts u2 4 _ rfl
  have p9 := rowFacts u2 5 _ rfl
  have p10 := rowFacts u2 6 _ rfl
  have q8 := rowFree u2 4
  have q9 := rowFree u2 5
  have q10 := rowFree u2 6
  have V1 : Hid _ := v1
  have V2 : Hid _ := v2
  have HOne : Hid (∀ v ∈ C, v.oneCell' = true) := hone
  have HI : Hid ((Tryz.prog.info? 38).map (·.size) = some C.length) := hi
  have HLen : Hid ([Value.string ⟨#[]⟩, .int .i64 0, .int .i64 0, .slice none 0 0, .int .i64 0, .int .i64 0, .int .i64 0].length = C.length) := hlen
  clear u1 u2 v1 v2 vg hone hi hlen hC HG4 B4 U1 U2
  go_upto_region 7 with fail
  rw [← hw5]
  clear hw5 p8 p9 p10 q8 q9 q10
  have hr := rangeRow V2.out
  have hR := V1.out
  have h1 := HOne.out
  have hi := HI.out
  go_wp2_with (first | (refine wpList_load_mid rfl 38 _ rfl (w.heap.size + 1 + 1) 0 rfl C _ hr Tryz.underlying38 rfl hi ?_) | (refine wpList_store_row rfl 38 _ _ rfl (w.heap.size + 1) _ C 38 rfl rfl hR HLen.out hi h1 ?_))
  intro w6 hrow ho hs6 hbb
  have HROW : Hid _ := hrow
  have HB6 : Hid (Below w.heap.size w w6) := hbb _ _ (by omega) B5.out
  have HG6 : Hid (w6.heap[w1.heap.size]? = some (.cells (lCells serials).toArray 2 (0, 0))) := by show _ = _; rw [ho _ (by have := Z1.out; omega)]; exact VG.out
  clear ho hs6 hbb hrow hr hR h1
  go_wp2
  refine bodyPost_ret (v := .agg C.toArray) ?_ rfl ⟨w1.heap.size, by rw [HC.out], by have := Z1.out; omega, HG6.out, HB6.out⟩
  have hl3 := run_loadVar_mid (P := Tryz.prog) _ (w.heap.size + 1) 0 38 _ _ (rangeRow HROW.out) Tryz.underlying38 rfl hi
  simp [results, Tryz.results9, asAddr, hl3]
end Go.Proofs.YtkbmeenojclcmaaGreatDoor
namespace Go.Proofs.YtkbmeenojclcmaaGreatDoor
open Go.RowKit

set_option maxHeartbeats 1000000 in
set_option maxRecDepth 100000 in
theorem eqStrs (a b : Option Addr) (zs : List ByteArray) (c d : Nat) (w : World) (hl : zs.length ≤ 2000000) (ha : IsStrs w a zs) (hb : IsStrs w b zs) :
    Calls Tryz.prog 36 #[.slice a zs.length c, .slice b zs.length d] w fun e w' => e = .returned (.bool true) ∧ Below w.heap.size w w' := by
  go_enter Tryz.func36, Tryz.ntmps36
  go_wp2
  go_loopw [5] (fun i wr => ∃ k : Nat, k ≤ zs.length ∧ i = .int .i64 k ∧ Below w.heap.size w wr) (fun i _ => zs.length - (intOf i).toNat)
  case atStart => exact ⟨0, Nat.zero_le _, rfl, Below.refl _ _⟩
  case round =>
    obtain ⟨k, hk, rfl, hbr⟩ := hrel
    by_cases hlt : k < zs.length
    · obtain ⟨x, o, rfl, hc⟩ : ∃ x o, a = some ⟨x, o, none⟩ ∧ ∀ i, i < zs.length → wr.cell? ⟨x, o + i, none⟩ = some (.string (tAt zs i)) := by
        rcases ha.below hbr ha.lt with rfl | h
        · simp at hlt
        · exact h
      obtain ⟨y, p, rfl, hd⟩ : ∃ x o, b = some ⟨x, o, none⟩ ∧ ∀ i, i < zs.length → wr.cell? ⟨x, o + i, none⟩ = some (.string (tAt zs i)) := by
        rcases hb.below hbr hb.lt with rfl | h
        · simp at hlt
        · exact h
      have hck := hc k hlt
      have hdk := hd k hlt
      have HB : Hid (Below w.heap.size w wr) := hbr
      generalize tAt zs k = z at hck hdk
      generalize hn : zs.length = n at *
      clear hc hd ha hb hbr hn
      go_wp2
      go_quiet (fail)
      go_wp2
      go_roundw
      case rel => exact ⟨k + 1, by omega, by go_num, below_drewN HB.out _⟩
      case measure => simp [intOf]; omega
    · go_wp2
      go_ret
      exact ⟨rfl, hbr⟩
end Go.Proofs.YtkbmeenojclcmaaGreatDoor
namespace Go.Proofs.YtkbmeenojclcmaaGreatDoor
open Go.RowKit

set_option maxHeartbeats 1000000 in
set_option maxRecDepth 100000 in
theorem eqSig (k e s : Int) (w : World) :
    Calls Tryz.prog 37 #[.agg #[.int .i64 k, .int .i64 e, .int .i64 s], .agg #[.int .i64 k, .int .i64 e, .int .i64 s]] w fun r w' => r = .returned (.bool true) ∧ Below w.heap.size w w' := by
  go_enter Tryz.func37, Tryz.ntmps37
  go_wp2
  go_ret
  exact ⟨rfl, (allocBelow w _).alloc (by simp) _⟩
end Go.Proofs.YtkbmeenojclcmaaGreatDoor
namespace Go.Proofs.YtkbmeenojclcmaaGreatDoor
open Go.RowKit

set_option maxHeartbeats 2000000 in
set_option maxRecDepth 100000 in
theorem eqCert (c : Paper) (a b : Option Addr) (ca1 cb : Nat) (w : World) (hl : c.names.length ≤ 1048576) (ha : IsStrs w a c.names) (hb : IsStrs w b c.names) :
    Calls Tryz.prog 11 #[c.val (.slice a c.names.length ca1), c.val (.slice b c.names.length cb)] w fun e w' => e = .returned (.bool true) ∧ Below w.heap.size w w' := by
  obtain ⟨ser, iss, sub, fr, till, key, names, ca, sk, se, ss⟩ := c
  simp only at hl ha hb
  unfold Paper.val
  simp only
  have HE : Hid (∀ V, IsStrs V a names → IsStrs V b names → Calls Tryz.prog 36 #[.slice a names.length ca1, .slice b names.length cb] V fun e w' => e = .returned (.bool true) ∧ Below V.heap.size V w') := fun V h1 h2 => eqStrs a b names ca1 cb V (by omega) h1 h2
  generalize names.length = nl at *
  obtain ⟨w0, hw0⟩ : ∃ w0, w0 = w.alloc (.cells #[.int .i64 ser, .string iss, .string sub, .int .i64 fr, .int .i64 till, .int .i64 key, .slice a nl ca1, .bool ca, .int .i64 sk, .int .i64 se, .int .i64 ss] 35 (0, 0)) := ⟨_, rfl⟩
  obtain ⟨w1, hw1⟩ : ∃ w1, w1 = w0.alloc (.cells #[.int .i64 ser, .string iss, .string sub, .int .i64 fr, .int .i64 till, .int .i64 key, .slice b nl cb, .bool ca, .int .i64 sk, .int .i64 se, .int .i64 ss] 35 (0, 0)) := ⟨_, rfl⟩
  have z0 : w0.heap.size = w.heap.size + 1 := by rw [hw0]; simp
  have r1 : w1.heap[w.heap.size + 1]? = some (.cells [Value.int .i64 ser, .string iss, .string sub, .int .i64 fr, .int .i64 till, .int .i64 key, .slice b nl cb, .bool ca, .int .i64 sk, .int .i64 se, .int .i64 ss].toArray 35 (0, 0)) := by rw [hw1, ← z0]; exact heap_alloc_new w0 _
  have r0 : w1.heap[w.heap.size]? = some (.cells [Value.int .i64 ser, .string iss, .string sub, .int .i64 fr, .int .i64 till, .int .i64 key, .slice a nl ca1, .bool ca, .int .i64 sk, .int .i64 se, .int .i64 ss].toArray 35 (0, 0)) := by rw [hw1, Below.heap_alloc _ _ _ (by omega), hw0]; exact heap_alloc_new w _
  have B1 : Hid (Below w.heap.size w w1) := by rw [hw1, hw0]; exact ((Below.refl _ _).alloc (Nat.le_refl _) _).alloc (by simp) _
  have A1 : Hid (IsStrs w1 a names) := ha.keep B1.out
  have A2 : Hid (IsStrs w1 b names) := hb.keep B1.out
  have c0 := rowFacts r0 0 _ rfl
  have d0 := rowFacts r1 0 _ rfl
  have c1 := rowFacts r0 1 _ rfl
  have d1 := rowFacts r1 1 _ rfl
  have c2 := rowFacts r0 2 _ rfl
  have d2 := rowFacts r1 2 _ rfl
  have c3 := rowFacts r0 3 _ rfl
  have d3 := rowFacts r1 3 _ rfl
  have c4 := rowFacts r0 4 _ rfl
  have d4 := rowFacts r1 4 _ rfl
  have c5 := rowFacts r0 5 _ rfl
  have d5 := rowFacts r1 5 _ rfl
  have c6 := rowFacts r0 6 _ rfl
  have d6 := rowFacts r1 6 _ rfl
  have c7 := rowFacts r0 7 _ rfl
  have d7 := rowFacts r1 7 _ rfl
  have c8 := rowFacts r0 8 _ rfl
  have d8 := rowFacts r1 8 _ rfl
  have c9 := rowFacts r0 9 _ rfl
  have d9 := rowFacts r1 9 _ rfl
  have c10 := rowFacts r0 10 _ rfl
  have d10 := rowFacts r1 10 _ rfl
  have R0 : Hid (w.heap.size < w1.heap.size) := heap_lt r0
  have R1 : Hid (w.heap.size + 1 < w1.heap.size) := heap_lt r1
  rw [hw0] at hw1
  clear r0 r1 ha hb hw0 z0
  go_enter Tryz.func11, Tryz.ntmps11
  go_upto_region 1 with fail
  rw [← hw1]
  clear hw1
  go_wp2_with fail
  refine (HE.out _ A1.out A2.out).mono ?_
  rintro e w2 ⟨rfl, b2⟩
  have B2 : Hid (Below w.heap.size w w2) := B1.out.trans (b2.mono B1.out.size)
  have e7 := (b2.cell (p := ⟨w.heap.size, 7, none⟩) R0.out).trans c7
  have f7 := (b2.cell (p := ⟨w.heap.size + 1, 7, none⟩) R1.out).trans d7
  have e8 := (b2.cell (p := ⟨w.heap.size, 8, none⟩) R0.out).trans c8
  have f8 := (b2.cell (p := ⟨w.heap.size + 1, 8, none⟩) R1.out).trans d8
  have e9 := (b2.cell (p := ⟨w.heap.size, 9, none⟩) R0.out).trans c9
  have f9 := (b2.cell (p := ⟨w.heap.size + 1, 9, none⟩) R1.out).trans d9
  have e10 := (b2.cell (p := ⟨w.heap.size, 10, none⟩) R0.out).trans c10
  have f10 := (b2.cell (p := ⟨w.heap.size + 1, 10, none⟩) R1.out).trans d10
  clear b2 B1 A1 A2 HE R0 R1 c0 d0 c1 d1 c2 d2 c3 d3 c4 d4 c5 d5 c6 d6 c7 d7 c8 d8 c9 d9 c10 d10
  go_wp2_with fail
  refine (eqSig sk se ss _).mono ?_
  rintro e w3 ⟨rfl, b3⟩
  have B3 : Hid (Below w.heap.size w w3) := B2.out.trans (b3.mono B2.out.size)
  clear b3 B2
  go_wp2
  go_ret
  exact ⟨rfl, B3.out⟩
end Go.Proofs.YtkbmeenojclcmaaGreatDoor
namespace Go.Proofs.YtkbmeenojclcmaaGreatDoor
open Go.RowKit

set_option maxHeartbeats 1000000 in
set_option maxRecDepth 100000 in
theorem eqInts (a b : Option Addr) (zs : List Int) (c d : Nat) (w : World) (hl : zs.length ≤ 2000000) (ha : IsInts w a zs) (hb : IsInts w b zs) :
    Calls Tryz.prog 38 #[.slice a zs.length c, .slice b zs.length d] w fun e w' => e = .returned (.bool true) ∧ Below w.heap.size w w' := by
  go_enter Tryz.func38, Tryz.ntmps38
  go_wp2
  go_loopw [5] (fun i wr => ∃ k : Nat, k ≤ zs.length ∧ i = .int .i64 k ∧ Below w.heap.size w wr) (fun i _ => zs.length - (intOf i).toNat)
  case atStart => exact ⟨0, Nat.zero_le _, rfl, Below.refl _ _⟩
  case round =>
    obtain ⟨k, hk, rfl, hbr⟩ := hrel
    by_cases hlt : k < zs.length
    · obtain ⟨x, o, rfl, hc⟩ : ∃ x o, a = some ⟨x, o, none⟩ ∧ ∀ i, i < zs.length → wr.cell? ⟨x, o + i, none⟩ = some (.int .i64 (zs.getD i 0)) := by
        rcases ha.below hbr ha.lt with rfl | h
        · simp at hlt
        · exact h
      obtain ⟨y, p, rfl, hd⟩ : ∃ x o, b = some ⟨x, o, none⟩ ∧ ∀ i, i < zs.length → wr.cell? ⟨x, o + i, none⟩ = some (.int .i64 (zs.getD i 0)) := by
        rcases hb.below hbr hb.lt with rfl | h
        · simp at hlt
        · exact h
      have hck := hc k hlt
      have hdk := hd k hlt
      have HB : Hid (Below w.heap.size w wr) := hbr
      generalize zs.getD k 0 = z at hck hdk
      generalize hn : zs.length = n at *
      clear hc hd ha hb hbr hn
      go_wp2
      go_quiet (fail)
      go_wp2
      go_roundw
      case rel => exact ⟨k + 1, by omega, by go_num, below_drewN HB.out _⟩
      case measure => simp [intOf]; omega
    · go_wp2
      go_ret
      exact ⟨rfl, hbr⟩
end Go.Proofs.YtkbmeenojclcmaaGreatDoor
namespace Go.Proofs.YtkbmeenojclcmaaGreatDoor
open Go.RowKit

set_option maxHeartbeats 4000000 in
set_option maxRecDepth 100000 in
theorem eqCrl (c : Lst) (a b : Option Addr) (ca1 cb : Nat) (w : World) (hl : c.serials.length ≤ 1048576) (ha : IsInts w a c.serials) (hb : IsInts w b c.serials) :
    Calls Tryz.prog 12 #[c.val (.slice a c.serials.length ca1), c.val (.slice b c.serials.length cb)] w fun e w' => e = .returned (.bool true) ∧ Below w.heap.size w w' := by
  obtain ⟨iss, fr, till, serials, sk, se, ss⟩ := c
  simp only at hl ha hb
  unfold Lst.val
  simp only
  have HE : Hid (∀ V, IsInts V a serials → IsInts V b serials → Calls Tryz.prog 38 #[.slice a serials.length ca1, .slice b serials.length cb] V fun e w' => e = .returned (.bool true) ∧ Below V.heap.size V w') := fun V h1 h2 => eqInts a b serials ca1 cb V (by omega) h1 h2
  generalize serials.length = nl at *
  obtain ⟨w0, hw0⟩ : ∃ w0, w0 = w.alloc (.cells #[.string iss, .int .i64 fr, .int .i64 till, .slice a nl ca1, .int .i64 sk, .int .i64 se, .int .i64 ss] 38 (0, 0)) := ⟨_, rfl⟩
  obtain ⟨w1, hw1⟩ : ∃ w1, w1 = w0.alloc (.cells #[.string iss, .int .i64 fr, .int .i64 till, .slice b nl cb, .int .i64 sk, .int .i64 se, .int .i64 ss] 38 (0, 0)) := ⟨_, rfl⟩
  have z0 : w0.heap.size = w.heap.size + 1 := by rw [hw0]; simp
  have r1 : w1.heap[w.heap.size + 1]? = some (.cells [Value.string iss, .int .i64 fr, .int .i64 till, .slice b nl cb, .int .i64 sk, .int .i64 se, .int .i64 ss].toArray 38 (0, 0)) := by rw [hw1, ← z0]; exact heap_alloc_new w0 _
  have r0 : w1.heap[w.heap.size]? = some (.cells [Value.string iss, .int .i64 fr, .int .i64 till, .slice a nl ca1, .int .i64 sk, .int .i64 se, .int .i64 ss].toArray 38 (0, 0)) := by rw [hw1, Below.heap_alloc _ _ _ (by omega), hw0]; exact heap_alloc_new w _
  have B1 : Hid (Below w.heap.size w w1) := by rw [hw1, hw0]; exact ((Below.refl _ _).alloc (Nat.le_refl _) _).alloc (by simp) _
  have A1 : Hid (IsInts w1 a serials) := ha.keep B1.out
  have A2 : Hid (IsInts w1 b serials) := hb.keep B1.out
  have c0 := rowFacts r0 0 _ rfl
  have d0 := rowFacts r1 0 _ rfl
  have c1 := rowFacts r0 1 _ rfl
  have d1 := rowFacts r1 1 _ rfl
  have c2 := rowFacts r0 2 _ rfl
  have d2 := rowFacts r1 2 _ rfl
  have c3 := rowFacts r0 3 _ rfl
  have d3 := rowFacts r1 3 _ rfl
  have c4 := rowFacts r0 4 _ rfl
  have d4 := rowFacts r1 4 _ rfl
  have c5 := rowFacts r0 5 _ rfl
  have d5 := rowFacts r1 5 _ rfl
  have c6 := rowFacts r0 6 _ rfl
  have d6 := rowFacts r1 6 _ rfl
  have R0 : Hid (w.heap.size < w1.heap.size) := heap_lt r0
  have R1 : Hid (w.heap.size + 1 < w1.heap.size) := heap_lt r1
  rw [hw0] at hw1
  clear r0 r1 ha hb hw0 z0
  go_enter Tryz.func12, Tryz.ntmps12
  go_upto_region 1 with fail
  rw [← hw1]
  clear hw1
  go_wp2_with fail
  refine (HE.out _ A1.out A2.out).mono ?_
  rintro e w2 ⟨rfl, b2⟩
  have B2 : Hid (Below w.heap.size w w2) := B1.out.trans (b2.mono B1.out.size)
  have e4 := (b2.cell (p := ⟨w.heap.size, 4, none⟩) R0.out).trans c4
  have f4 := (b2.cell (p := ⟨w.heap.size + 1, 4, none⟩) R1.out).trans d4
  have e5 := (b2.cell (p := ⟨w.heap.size, 5, none⟩) R0.out).trans c5
  have f5 := (b2.cell (p := ⟨w.heap.size + 1, 5, none⟩) R1.out).trans d5
  have e6 := (b2.cell (p := ⟨w.heap.size, 6, none⟩) R0.out).trans c6
  have f6 := (b2.cell (p := ⟨w.heap.size + 1, 6, none⟩) R1.out).trans d6
  clear b2 B1 A1 A2 HE R0 R1 c0 d0 c1 d1 c2 d2 c3 d3 c4 d4 c5 d5 c6 d6
  go_wp2_with fail
  refine (eqSig sk se ss _).mono ?_
  rintro e w3 ⟨rfl, b3⟩
  have B3 : Hid (Below w.heap.size w w3) := B2.out.trans (b3.mono B2.out.size)
  clear b3 B2
  go_wp2
  go_ret
  exact ⟨rfl, B3.out⟩
end Go.Proofs.YtkbmeenojclcmaaGreatDoor
namespace Go.Proofs.YtkbmeenojclcmaaGreatDoor
open Go.RowKit Go.WideShapes Go.ChangeShapes Go.Deep

theorem cellsInt : Tryz.prog.cellsOf 2 = 1 := by kernel_rfl
theorem cellsStr : Tryz.prog.cellsOf 9 = 1 := by kernel_rfl
theorem cellsStrs : Tryz.prog.cellsOf 22 = 1 := by kernel_rfl
theorem cellsBool : Tryz.prog.cellsOf 4 = 1 := by kernel_rfl
theorem cellsSig : Tryz.prog.cellsOf 24 = 3 := by kernel_rfl
theorem open_names {H : Type} {enc : TypeId × Value → H} {W : World} {base : Nat} {spare : Nat → Bool} {held : Bool} {n : Nat} {v : Value} {x : DataW H × List MemPlace} (h : DataW.trod enc Tryz.prog W base spare held n 22 [v] = some x) :
    ∃ (a : Option Addr) (ss : List ByteArray) (cap : Nat), v = .slice a ss.length cap ∧ IsStrs W a ss ∧ ss.length ≤ maxLen ∧ ∀ s ∈ ss, s.size ≤ maxLen := by
  rcases open_strings Tryz.underlying22 Tryz.underlying9 cellsStr h with ⟨hcs, _⟩ | ⟨x, len, cap, ss, hcs, _, hl, hm, hz, _, hcell, hws⟩
  · exact ⟨none, [], 0, (List.cons.inj hcs).1, .inl rfl, Nat.zero_le _, fun s hs => by cases hs⟩
  · have hle : len ≤ ss.length := by rw [hz]; split <;> omega
    have hlen : (ss.take len).length = len := by rw [List.length_take]; omega
    refine ⟨some x, ss.take len, cap, by rw [hlen]; exact (List.cons.inj hcs).1, ?_, by rw [hlen]; omega, fun s hs => hws s (List.mem_of_mem_take hs)⟩
    by_cases h0 : len = 0
    · exact .inl (by simp [h0])
    obtain ⟨b, off, spot⟩ := x
    have hc0 := hcell 0 (by omega)
    have hspot : spot = none := by simpa [Addr.add] using World.cell?_spot hc0
    subst hspot
    refine .inr ⟨b, off, rfl, fun i hi => ?_⟩
    rw [hlen] at hi
    have h1 := hcell i (by omega)
    rw [Addr.add_lit] at h1
    rw [h1, tAt, List.getD, List.getD, List.getElem?_take, if_pos hi]
/-- What is known of texts that came in. -/
structure CameT (W : World) (a : Option Addr) (ss : List ByteArray) : Prop where
  strs : IsStrs W a ss
  len : ss.length ≤ maxLen
  each : ∀ s ∈ ss, s.size ≤ maxLen
set_option maxRecDepth 100000 in
theorem openTexts {H : Type} {enc : TypeId × Value → H} {W : World} {base b0 : Nat} {r : Reach} {spare : Nat → Bool} {held : Bool} {v : Value} {d : DataW H} {p : List MemPlace}
    (hv : Value.okWide Tryz.prog W r b0 22 v) (h : DataW.Trod enc Tryz.prog W base spare held 22 v d p) :
    ∃ (a : Option Addr) (ss : List ByteArray) (cap : Nat), v = .slice a ss.length cap ∧ CameT W a ss := by
  obtain ⟨a, len, cap, rfl⟩ := okWide_slice Tryz.underlying22 hv
  obtain ⟨fuel, hf⟩ := h
  obtain ⟨a', ss, cap', e, h1, h2, h3⟩ := open_names (v := .slice a len cap) hf
  exact ⟨a', ss, cap', e, ⟨h1, h2, h3⟩⟩
end Go.Proofs.YtkbmeenojclcmaaGreatDoor
namespace Go.Proofs.YtkbmeenojclcmaaGreatDoor
open Go.RowKit Go.WideShapes Go.ChangeShapes Go.Deep

theorem array11 {α : Type} {cs : Array α} (h : cs.size = 11) : ∃ c0 c1 c2 c3 c4 c5 c6 c7 c8 c9 c10, cs = #[c0, c1, c2, c3, c4, c5, c6, c7, c8, c9, c10] := by
  obtain ⟨l⟩ := cs
  match l, h with
  | [c0, c1, c2, c3, c4, c5, c6, c7, c8, c9, c10], _ => exact ⟨c0, c1, c2, c3, c4, c5, c6, c7, c8, c9, c10, rfl⟩
theorem cellsCert : Tryz.prog.cellsOf 26 = 11 := by kernel_rfl
/-- What is known of a paper that came in. -/
structure Came (W : World) (c : Paper) (a : Option Addr) : Prop where
  strs : IsStrs W a c.names
  len : c.names.length ≤ maxLen
  each : ∀ s ∈ c.names, s.size ≤ maxLen
  iss : c.issuer.size ≤ maxLen
  sub : c.subject.size ≤ maxLen
  wser : (Lit.int .i64 c.serial).wf = true
  wfr : (Lit.int .i64 c.fr).wf = true
  wtill : (Lit.int .i64 c.till).wf = true
  wkey : (Lit.int .i64 c.key).wf = true
  wsk : (Lit.int .i64 c.sk).wf = true
  wse : (Lit.int .i64 c.se).wf = true
  wss : (Lit.int .i64 c.ss).wf = true
set_option linter.unusedSimpArgs false in
set_option maxRecDepth 100000 in
theorem openCert {H : Type} {enc : TypeId × Value → H} {W : World} {base b0 : Nat} {r : Reach} {spare : Nat → Bool} {held : Bool} {v : Value} {d : DataW H} {p : List MemPlace}
    (hv : Value.okWide Tryz.prog W r b0 26 v) (h : DataW.Trod enc Tryz.prog W base spare held 26 v d p) :
    ∃ (c : Paper) (a : Option Addr) (cap : Nat), v = c.val (.slice a c.names.length cap) ∧ Came W c a := by
  obtain ⟨cs, rfl, hsz⟩ := okWide_struct Tryz.underlying26 hv
  obtain ⟨c0, c1, c2, c3, c4, c5, c6, c7, c8, c9, c10, rfl⟩ := array11 (hsz.trans cellsCert)
  obtain ⟨fuel, hf⟩ := h
  obtain ⟨xs, n, _, _, _, hlen, hff⟩ := DataW.trod_struct Tryz.underlying26 hf
  have hx : ∀ i, i < 9 → ∃ y, xs[i]? = some y := fun i hi => ⟨xs[i]'(by rw [hlen]; exact hi), List.getElem?_eq_getElem _⟩
  obtain ⟨y0, e0⟩ := hx 0 (by omega)
  obtain ⟨y1, e1⟩ := hx 1 (by omega)
  obtain ⟨y2, e2⟩ := hx 2 (by omega)
  obtain ⟨y3, e3⟩ := hx 3 (by omega)
  obtain ⟨y4, e4⟩ := hx 4 (by omega)
  obtain ⟨y5, e5⟩ := hx 5 (by omega)
  obtain ⟨y6, e6⟩ := hx 6 (by omega)
  obtain ⟨y7, e7⟩ := hx 7 (by omega)
  obtain ⟨y8, e8⟩ := hx 8 (by omega)
  have t0 := (hff 0 _ rfl).trans e0
  have t1 := (hff 1 _ rfl).trans e1
  have t2 := (hff 2 _ rfl).trans e2
  have t3 := (hff 3 _ rfl).trans e3
  have t4 := (hff 4 _ rfl).trans e4
  have t5 := (hff 5 _ rfl).trans e5
  have t6 := (hff 6 _ rfl).trans e6
  have t7 := (hff 7 _ rfl).trans e7
  have t8 := (hff 8 _ rfl).trans e8
  simp only [Value.cells, cellsInt, cellsStr, cellsStrs, cellsBool, cellsSig, List.drop_zero, List.drop_succ_cons, List.take_succ_cons, List.take_zero] at t0 t1 t2 t3 t4 t5 t6 t7 t8
  obtain ⟨ser, g0, _, w0⟩ := DataW.trod_int Tryz.underlying2 t0
  obtain ⟨iss, g1, _, w1⟩ := DataW.trod_string Tryz.underlying9 t1
  obtain ⟨sub, g2, _, w2⟩ := DataW.trod_string Tryz.underlying9 t2
  obtain ⟨fr, g3, _, w3⟩ := DataW.trod_int Tryz.underlying2 t3
  obtain ⟨till, g4, _, w4⟩ := DataW.trod_int Tryz.underlying2 t4
  obtain ⟨key, g5, _, w5⟩ := DataW.trod_int Tryz.underlying2 t5
  obtain ⟨a, ss, cap, g6, hs, hl, he⟩ := open_names t6
  obtain ⟨ca, g7, _⟩ := DataW.trod_bool Tryz.underlying4 t7
  obtain ⟨z0, z1, z2, m, _, _, u0, u1, u2⟩ := trod_struct3 Tryz.underlying24 t8
  simp only [cellsInt, List.drop_zero, List.drop_succ_cons, List.take_succ_cons, List.take_zero] at u0 u1 u2
  obtain ⟨sk, g8, _, w8⟩ := DataW.trod_int Tryz.underlying2 u0
  obtain ⟨se, g9, _, w9⟩ := DataW.trod_int Tryz.underlying2 u1
  obtain ⟨s3, g10, _, w10⟩ := DataW.trod_int Tryz.underlying2 u2
  obtain rfl := (List.cons.inj g0).1
  obtain rfl := (List.cons.inj g1).1
  obtain rfl := (List.cons.inj g2).1
  obtain rfl := (List.cons.inj g3).1
  obtain rfl := (List.cons.inj g4).1
  obtain rfl := (List.cons.inj g5).1
  obtain rfl := g6
  obtain rfl := (List.cons.inj g7).1
  obtain rfl := (List.cons.inj g8).1
  obtain rfl := (List.cons.inj g9).1
  obtain rfl := (List.cons.inj g10).1
  exact ⟨⟨ser, iss, sub, fr, till, key, ss, ca, sk, se, s3⟩, a, cap, rfl, ⟨hs, hl, he, w1, w2, w0, w3, w4, w5, w8, w9, w10⟩⟩
end Go.Proofs.YtkbmeenojclcmaaGreatDoor
namespace Go.Proofs.YtkbmeenojclcmaaGreatDoor
open Go.RowKit

/-- It is nil; or it leads to a row of 'cap' cells, the numbers 'zs', the first 'len' being its elements, each fitting its kind. -/
def IsRow (k : IntKind) (w : World) (a : Option Addr) (len cap : Nat) (zs : List Int) : Prop :=
  (a = none ∧ len = 0 ∧ cap = 0 ∧ zs = []) ∨
  ∃ x, a = some x ∧ len ≤ cap ∧ cap ≤ maxLen ∧ zs.length = cap ∧ (∀ i, i < zs.length → w.cell? (x.add i) = some (.int k (zs.getD i 0))) ∧ ∀ n ∈ zs, (Lit.int k n).wf = true
theorem IsRow.len_le {k : IntKind} {w : World} {a : Option Addr} {len cap : Nat} {zs : List Int} (h : IsRow k w a len cap zs) : len ≤ maxLen := by
  rcases h with ⟨_, rfl, _, _⟩ | ⟨_, _, hl, hm, _⟩
  · exact Nat.zero_le _
  · omega
theorem IsRow.ints {w : World} {a : Option Addr} {len cap : Nat} {zs : List Int} (h : IsRow .i64 w a len cap zs) : ∃ ys : List Int, ys.length = len ∧ IsInts w a ys ∧ ∀ n ∈ ys, (Lit.int .i64 n).wf = true := by
  rcases h with ⟨rfl, rfl, _, _⟩ | ⟨x, rfl, hl, _, hz, hc, hw⟩
  · exact ⟨[], rfl, .inl rfl, fun n hn => by cases hn⟩
  refine ⟨zs.take len, by simp; omega, ?_, fun n hn => hw n (List.mem_of_mem_take hn)⟩
  by_cases h0 : len = 0
  · exact .inl (by simp [h0])
  obtain ⟨b, off, spot⟩ := x
  have hc0 := hc 0 (by omega)
  have hspot : spot = none := by simpa [Addr.add] using World.cell?_spot hc0
  subst hspot
  refine .inr ⟨b, off, rfl, fun i hi => ?_⟩
  simp at hi
  have h1 := hc i (by omega)
  rw [Addr.add_lit] at h1
  rw [h1]
  rw [List.getD, List.getD, List.getElem?_take, if_pos (by omega)]
end Go.Proofs.YtkbmeenojclcmaaGreatDoor
namespace Go.Proofs.YtkbmeenojclcmaaGreatDoor
open Go.RowKit Go.WideShapes Go.ChangeShapes Go.Deep

theorem array7 {α : Type} {cs : Array α} (h : cs.size = 7) : ∃ c0 c1 c2 c3 c4 c5 c6, cs = #[c0, c1, c2, c3, c4, c5, c6] := by
  obtain ⟨l⟩ := cs
  match l, h with
  | [c0, c1, c2, c3, c4, c5, c6], _ => exact ⟨c0, c1, c2, c3, c4, c5, c6, rfl⟩
theorem cellsCrl : Tryz.prog.cellsOf 29 = 7 := by kernel_rfl
theorem cellsLongs : Tryz.prog.cellsOf 27 = 1 := by kernel_rfl
/-- What is known of one that came in. -/
structure CameL (W : World) (c : Lst) (a : Option Addr) : Prop where
  ints : IsInts W a c.serials
  len : c.serials.length ≤ maxLen
  each : ∀ n ∈ c.serials, (Lit.int .i64 n).wf = true
  iss : c.issuer.size ≤ maxLen
  wfr : (Lit.int .i64 c.fr).wf = true
  wtill : (Lit.int .i64 c.till).wf = true
  wsk : (Lit.int .i64 c.sk).wf = true
  wse : (Lit.int .i64 c.se).wf = true
  wss : (Lit.int .i64 c.ss).wf = true
theorem open_nums {H : Type} {enc : TypeId × Value → H} {W : World} {base : Nat} {spare : Nat → Bool} {held : Bool} {n : Nat} {v : Value} {x : DataW H × List MemPlace} (h : DataW.trod enc Tryz.prog W base spare held n 27 [v] = some x) :
    ∃ (a : Option Addr) (zs : List Int) (cap : Nat), v = .slice a zs.length cap ∧ IsInts W a zs ∧ zs.length ≤ maxLen ∧ ∀ n ∈ zs, (Lit.int .i64 n).wf = true := by
  rcases open_ints Tryz.underlying27 Tryz.underlying2 (by kernel_rfl) h with ⟨hcs, _⟩ | ⟨x, len, cap, zs, hcs, _, hl, hm, hz, _, hcell, hwz⟩
  · exact ⟨none, [], 0, (List.cons.inj hcs).1, .inl rfl, Nat.zero_le _, fun s hs => by cases hs⟩
  · have hle : len ≤ zs.length := by rw [hz]; split <;> omega
    have hlen : (zs.take len).length = len := by rw [List.length_take]; omega
    refine ⟨some x, zs.take len, cap, by rw [hlen]; exact (List.cons.inj hcs).1, ?_, by rw [hlen]; omega, fun s hs => hwz s (List.mem_of_mem_take hs)⟩
    by_cases h0 : len = 0
    · exact .inl (by simp [h0])
    obtain ⟨b, off, spot⟩ := x
    have hc0 := hcell 0 (by omega)
    have hspot : spot = none := by simpa [Addr.add] using World.cell?_spot hc0
    subst hspot
    refine .inr ⟨b, off, rfl, fun i hi => ?_⟩
    rw [hlen] at hi
    have h1 := hcell i (by omega)
    rw [Addr.add_lit] at h1
    rw [h1, List.getD, List.getD, List.getElem?_take, if_pos hi]
set_option linter.unusedSimpArgs false in
set_option maxRecDepth 100000 in
theorem openCrl {H : Type} {enc : TypeId × Value → H} {W : World} {base b0 : Nat} {r : Reach} {spare : Nat → Bool} {held : Bool} {v : Value} {d : DataW H} {p : List MemPlace}
    (hv : Value.okWide Tryz.prog W r b0 29 v) (h : DataW.Trod enc Tryz.prog W base spare held 29 v d p) :
    ∃ (c : Lst) (a : Option Addr) (cap : Nat), v = c.val (.slice a c.serials.length cap) ∧ CameL W c a := by
  obtain ⟨cs, rfl, hsz⟩ := okWide_struct Tryz.underlying29 hv
  obtain ⟨c0, c1, c2, c3, c4, c5, c6, rfl⟩ := array7 (hsz.trans cellsCrl)
  obtain ⟨fuel, hf⟩ := h
  obtain ⟨xs, n, _, _, _, hlen, hff⟩ := DataW.trod_struct Tryz.underlying29 hf
  have hx : ∀ i, i < 5 → ∃ y, xs[i]? = some y := fun i hi => ⟨xs[i]'(by rw [hlen]; exact hi), List.getElem?_eq_getElem _⟩
  obtain ⟨y0, e0⟩ := hx 0 (by omega)
  obtain ⟨y1, e1⟩ := hx 1 (by omega)
  obtain ⟨y2, e2⟩ := hx 2 (by omega)
  obtain ⟨y3, e3⟩ := hx 3 (by omega)
  obtain ⟨y4, e4⟩ := hx 4 (by omega)
  have t0 := (hff 0 _ rfl).trans e0
  have t1 := (hff 1 _ rfl).trans e1
  have t2 := (hff 2 _ rfl).trans e2
  have t3 := (hff 3 _ rfl).trans e3
  have t4 := (hff 4 _ rfl).trans e4
  simp only [Value.cells, cellsInt, cellsStr, cellsLongs, cellsSig, List.drop_zero, List.drop_succ_cons, List.take_succ_cons, List.take_zero] at t0 t1 t2 t3 t4
  obtain ⟨iss, g0, _, w0⟩ := DataW.trod_string Tryz.underlying9 t0
  obtain ⟨fr, g1, _, w1⟩ := DataW.trod_int Tryz.underlying2 t1
  obtain ⟨till, g2, _, w2⟩ := DataW.trod_int Tryz.underlying2 t2
  obtain ⟨a, zs, cap, g3, hs, hl, he⟩ := open_nums t3
  obtain ⟨z0, z1, z2, m, _, _, u0, u1, u2⟩ := trod_struct3 Tryz.underlying24 t4
  simp only [cellsInt, List.drop_zero, List.drop_succ_cons, List.take_succ_cons, List.take_zero] at u0 u1 u2
  obtain ⟨sk, g8, _, w8⟩ := DataW.trod_int Tryz.underlying2 u0
  obtain ⟨se, g9, _, w9⟩ := DataW.trod_int Tryz.underlying2 u1
  obtain ⟨s3, g10, _, w10⟩ := DataW.trod_int Tryz.underlying2 u2
  obtain rfl := (List.cons.inj g0).1
  obtain rfl := (List.cons.inj g1).1
  obtain rfl := (List.cons.inj g2).1
  obtain rfl := g3
  obtain rfl := (List.cons.inj g8).1
  obtain rfl := (List.cons.inj g9).1
  obtain rfl := (List.cons.inj g10).1
  exact ⟨⟨iss, fr, till, zs, sk, se, s3⟩, a, cap, rfl, ⟨hs, hl, he, w0, w1, w2, w8, w9, w10⟩⟩
end Go.Proofs.YtkbmeenojclcmaaGreatDoor
