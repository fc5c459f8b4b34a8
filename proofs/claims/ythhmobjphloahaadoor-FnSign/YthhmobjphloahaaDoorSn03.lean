/- A block taken into a state, walked: spec.l02Block. The bytes that fill a text up: plain mathematics, no program is named here. The end of a hash, walked: impl.lastBytes, (*hashState).digest, (*hashWork).end. The digest of a state, walked: (*hashState).digest; (*hashWork).end. impl.beginWork, walked; what a digest is. -/
import Derived.Test.YthhmobjphloahaaDoorSn02
import Derived.Deep.RegionHeld3
import Derived.Deep.AppendLies
import Derived.Test.YthhmobjphloahaaDoorSn01
namespace Go.Proofs.YthhmobjphloahaaDoor
open Go.RowKit

theorem set_keep {w : World} {g k a b : Nat} {va vb v0 : Value} (h1 : w.cell? ⟨g, a, none⟩ = some va) (h2 : w.cell? ⟨g, b, none⟩ = some vb) (hc : w.cell? ⟨g, k, none⟩ = some v0) (hz : w.frozen? ⟨g, k, none⟩ = false) (na : k ≠ a) (nb : k ≠ b) (X : Value) :
    (w.setCell ⟨g, k, none⟩ X).cell? ⟨g, a, none⟩ = some va ∧ (w.setCell ⟨g, k, none⟩ X).cell? ⟨g, b, none⟩ = some vb ∧ (∃ v, (w.setCell ⟨g, k, none⟩ X).cell? ⟨g, k, none⟩ = some v) ∧ (w.setCell ⟨g, k, none⟩ X).frozen? ⟨g, k, none⟩ = false :=
  ⟨by rw [World.cell?_setCell_other _ _ _ _ (by simp)]; exact h1, by rw [World.cell?_setCell_other _ _ _ _ (by simp)]; exact h2, ⟨X, World.cell?_setCell_same _ _ _ hc⟩, by rw [World.frozen?_setCell]; exact hz⟩
theorem made1 (w : World) (o : Obj) : ((w.alloc o).alloc (.cells #[] 2 (0, 0))).ownsRow (w.heap.size + 1) 2 1 (.slice (some ⟨w.heap.size + 1, 0, none⟩) 0 0) 0 [] := by
  have h := World.ownsRow_made (base := w.heap.size + 1) (e := 2) (size := 1) (w.alloc o) #[] 0 (by simp) (Nat.zero_le _) rfl
  rw [show (w.alloc o).heap.size = w.heap.size + 1 from by simp] at h
  exact h
set_option maxHeartbeats 2000000 in
set_option maxRecDepth 100000 in
theorem specBlock (s : St) (t : ByteArray) (w : World) (gs cap : Nat) (ht : t.size = 64) (hst : w.rangeAt gs 0 (iCells s)) :
    Calls Tryd.prog 83 #[.slice (some ⟨gs, 0, none⟩) 8 cap, .string t] w
      fun e w' => ∃ v, e = .returned v ∧ w'.ownsRow w.heap.size 2 1 v 8 (iCells (blk s (wordAt t 0))) ∧ Below w.heap.size w w' := by
  obtain ⟨iw, hiw, hw0, hw1, hw2⟩ := info_parts infoWord
  have hgsl : gs < w.heap.size := World.block_lt_of_cell? w _ (hst 0 _ rfl)
  have HST : Hid (w.rangeAt gs 0 (iCells s)) := hst
  clear hst
  go_enter Tryd.func83, Tryd.ntmps83
  go_wp2_with (at_make; refine wpList_make_full _ rfl _ _ 131 rfl w.heap.size 70 iw (.int .u32 0) 1 Tryd.underlying131 hiw hw0 hw1 .i64 .i64 _ _ 64 rfl rfl ?c1 ?c2 ?c3 ?c4 ?c5 ?_)
  case c1 => omega
  case c2 => omega
  case c3 => rw [hw2]; omega
  case c4 => unfold maxLen; omega
  case c5 => exact Nat.le_refl _
  intro w1 hown hgrow
  have hB1 : Below w.heap.size w w1 := (Below.refl _ w).grown hgrow (Nat.le_refl _) (fun k hk => by cases hk)
  obtain ⟨hrow, hlen⟩ := rowOf hown rfl
  generalize (madeCells #[Value.int IntKind.u32 0] 64).toList = L0 at hrow hlen
  have HR0 : Hid (w1.heap[w.heap.size]? = some (.cells L0.toArray 70 (0, 0))) := hrow
  have HL0 : Hid (L0.length = 64) := hlen
  have HB1 : Hid (Below w.heap.size w w1) := hB1
  clear hown hgrow hrow hlen hB1
  go_wp2_with fail
  go_loopw [6] (fun i wr => ∃ (k : Nat) (L : List Value), k ≤ 16 ∧ i = .int .i64 k ∧ L.length = 64 ∧ wr.heap[w.heap.size]? = some (.cells L.toArray 70 (0, 0)) ∧ (∀ j, j < k → L[j]? = some (.int .u32 (uI (wAt (wordAt t 0) j)))) ∧ Below w.heap.size w wr)
    (fun i _ => 16 - (intOf i).toNat)
  case atStart => exact ⟨0, L0, Nat.zero_le _, rfl, HL0.out, HR0.out, fun j hj => by omega, HB1.out⟩
  case round =>
    clear HL0 HR0 HB1
    obtain ⟨k, L, hk, rfl, hL, hg, hv, hb⟩ := hrel
    by_cases hlt : k < 16
    · have hc := rowFacts hg k L[k] (List.getElem?_eq_getElem (by omega))
      have hz := frozen_of_row wr _ k _ _ hg
      have HV : Hid (∀ x, x = uI (wAt (wordAt t 0) k) → ∀ j, j < k + 1 → (L.set k (.int .u32 x))[j]? = some (.int .u32 (uI (wAt (wordAt t 0) j)))) := fun x hx => by
        subst hx
        exact words_set (by omega) hv
      have HG : Hid (∀ x, (wr.setCell ⟨w.heap.size, k, none⟩ x).heap[w.heap.size]? = some (.cells (L.set k x).toArray 70 (0, 0))) := fun x => rowSet x hg
      have HL : Hid (∀ x, (L.set k x).length = 64) := fun x => by simpa using hL
      have HW : Hid (bits BinOp.or IntKind.u32 (bits BinOp.or IntKind.u32 (bits BinOp.or IntKind.u32 (uI (bU (byteAt t (4 * k))) * 16777216 % 4294967296) (uI (bU (byteAt t (4 * k + 1))) * 65536 % 4294967296)) (uI (bU (byteAt t (4 * k + 2))) * 256 % 4294967296)) (uI (bU (byteAt t (4 * k + 3)))) = uI (wAt (wordAt t 0) k)) := by
        show _ = _
        rw [uI_shl24, uI_shl16, uI_shl8, uI_or, uI_or, uI_or, wAt_low _ hlt]
        unfold wordAt
        rw [Nat.zero_add]
      have HBB : Hid (Below w.heap.size w wr) := hb
      generalize L[k] = v0 at hc
      clear hv hg hL hb
      go_wp2_with fail
      have i0 := idxB t (4 * k) (by omega) (4 * (k : Int)) (by omega)
      have i1 := idxB t (4 * k + 1) (by omega) (4 * (k : Int) + 1) (by omega)
      have i2 := idxB t (4 * k + 2) (by omega) (4 * (k : Int) + 2) (by omega)
      have i3 := idxB t (4 * k + 3) (by omega) (4 * (k : Int) + 3) (by omega)
      have fw := uI_wrap
      go_region
      clear i0 i1 i2 i3 fw hc hz
      go_wp2
      go_roundw
      case rel => exact ⟨k + 1, _, by omega, by go_num, HL.out _, HG.out _, HV.out _ HW.out, (HBB.out.setCell (by simp) _).drew⟩
      case measure => simp [intOf]; omega
    · have h16 : k = 16 := by omega
      have HV : Hid (∀ j, j < 16 → L[j]? = some (.int .u32 (uI (wAt (wordAt t 0) j)))) := fun j hj => hv j (by omega)
      have HG : Hid (wr.heap[w.heap.size]? = some (.cells L.toArray 70 (0, 0))) := hg
      have HL : Hid (L.length = 64) := hL
      have HBB : Hid (Below w.heap.size w wr) := hb
      clear hv hg hL hb h16
      go_wp2_with fail
      go_loopw [7] (fun i wr => ∃ (k : Nat) (L : List Value), 16 ≤ k ∧ k ≤ 64 ∧ i = .int .i64 k ∧ L.length = 64 ∧ wr.heap[w.heap.size]? = some (.cells L.toArray 70 (0, 0)) ∧ (∀ j, j < k → L[j]? = some (.int .u32 (uI (wAt (wordAt t 0) j)))) ∧ Below w.heap.size w wr)
        (fun i _ => 64 - (intOf i).toNat)
      case atStart => exact ⟨16, L, by omega, by omega, rfl, HL.out, HG.out, HV.out, HBB.out⟩
      case round =>
        clear HV HG HL HBB L hlt hk
        obtain ⟨k, L, hk0, hk, rfl, hL, hg, hv, hb⟩ := hrel
        by_cases hlt : k < 64
        · have hc := rowFacts hg k L[k] (List.getElem?_eq_getElem (by omega))
          have hz := frozen_of_row wr _ k _ _ hg
          have h16 := rowFacts hg (k - 16) _ (hv (k - 16) (by omega))
          have h15 := rowFacts hg (k - 15) _ (hv (k - 15) (by omega))
          have h7 := rowFacts hg (k - 7) _ (hv (k - 7) (by omega))
          have h2 := rowFacts hg (k - 2) _ (hv (k - 2) (by omega))
          have HV : Hid (∀ x, x = uI (wAt (wordAt t 0) k) → ∀ j, j < k + 1 → (L.set k (.int .u32 x))[j]? = some (.int .u32 (uI (wAt (wordAt t 0) j)))) := fun x hx => by
            subst hx
            exact words_set (by omega) hv
          have HG : Hid (∀ x, (wr.setCell ⟨w.heap.size, k, none⟩ x).heap[w.heap.size]? = some (.cells (L.set k x).toArray 70 (0, 0))) := fun x => rowSet x hg
          have HL : Hid (∀ x, (L.set k x).length = 64) := fun x => by simpa using hL
          have HBB : Hid (∀ x, Below w.heap.size w (wr.setCell ⟨w.heap.size, k, none⟩ x)) := fun x => hb.setCell (Nat.le_refl _) x
          generalize L[k] = v0 at hc
          clear hv hg hL hb
          go_wp2_with fail




          have e16 : IntKind.i64.wrap ((k : Int) - 16) = (k : Int) - 16 := by rw [IntKind.wrap_i64]; omega
          have e7 : IntKind.i64.wrap ((k : Int) - 7) = (k : Int) - 7 := by rw [IntKind.wrap_i64]; omega
          have a16 : (0 : Int) ≤ (k : Int) - 16 := by omega
          have b16 : (k : Int) - 16 < 64 := by omega
          have a7 : (0 : Int) ≤ (k : Int) - 7 := by omega
          have b7 : (k : Int) - 7 < 64 := by omega
          have t16 : ((k : Int) - 16).toNat = k - 16 := by omega
          have t7 : ((k : Int) - 7).toNat = k - 7 := by omega
          have a0 : (0 : Int) ≤ (k : Int) := by omega
          have b0 : (k : Int) < 64 := by omega
          have b80 : k < 80 := by omega
          have B80 : (k : Int) < 80 := by omega
          have b71 : k < 71 := by omega
          have B71 : (k : Int) < 71 := by omega
          have g7 : 7 ≤ k := by omega
          have G7 : (7 : Int) ≤ (k : Int) := by omega
          have G16 : (16 : Int) ≤ (k : Int) := by omega
          have KS : Hid (∀ X, (wr.setCell ⟨w.heap.size, k, none⟩ X).drew.cell? ⟨w.heap.size, k - 16, none⟩ = some (.int .u32 (uI (wAt (wordAt t 0) (k - 16)))) ∧ (wr.setCell ⟨w.heap.size, k, none⟩ X).drew.cell? ⟨w.heap.size, k - 7, none⟩ = some (.int .u32 (uI (wAt (wordAt t 0) (k - 7)))) ∧ (∃ v, (wr.setCell ⟨w.heap.size, k, none⟩ X).drew.cell? ⟨w.heap.size, k, none⟩ = some v) ∧ (wr.setCell ⟨w.heap.size, k, none⟩ X).drew.frozen? ⟨w.heap.size, k, none⟩ = false) :=
            fun X => set_keep h16 h7 hc hz (by omega) (by omega) X
          go_region_held3 (fun w' => w'.cell? ⟨w.heap.size, k - 16, none⟩ = some (.int .u32 (uI (wAt (wordAt t 0) (k - 16)))) ∧ w'.cell? ⟨w.heap.size, k - 7, none⟩ = some (.int .u32 (uI (wAt (wordAt t 0) (k - 7)))) ∧ (∃ v, w'.cell? ⟨w.heap.size, k, none⟩ = some v) ∧ w'.frozen? ⟨w.heap.size, k, none⟩ = false) (first | exact KS.out _ | go_keep)
            (first | (go_at_call 100; refine (specTurnI _ _ _ (by decide) (by decide)).mono ?_; rintro e w' ⟨rfl, rfl⟩))
          clear hc hz KS h16 h15 h7 h2 e16 e7 a16 b16 a7 b7 t16 t7 a0 b0 b80 B80 b71 B71 g7 G7 G16
          go_wp2
          go_roundw
          case rel =>
            refine ⟨k + 1, _, by omega, by omega, by go_num, HL.out _, HG.out _, HV.out _ ?_, (HBB.out _).drew⟩
            simp only [uI_xor, uI_shr3, uI_shr10]
            rw [wAt_high _ hk0]
            rfl
          case measure => simp [intOf]; omega
        · have HV : Hid (∀ j, j < 64 → L[j]? = some (.int .u32 (uI (wAt (wordAt t 0) j)))) := fun j hj => hv j (by omega)
          have HG : Hid (wr.heap[w.heap.size]? = some (.cells L.toArray 70 (0, 0))) := hg
          have HBB : Hid (Below w.heap.size w wr) := hb
          have s0 := hb.cell (p := ⟨gs, 0, none⟩) hgsl
          have s1 := hb.cell (p := ⟨gs, 1, none⟩) hgsl
          have s2 := hb.cell (p := ⟨gs, 2, none⟩) hgsl
          have s3 := hb.cell (p := ⟨gs, 3, none⟩) hgsl
          have s4 := hb.cell (p := ⟨gs, 4, none⟩) hgsl
          have s5 := hb.cell (p := ⟨gs, 5, none⟩) hgsl
          have s6 := hb.cell (p := ⟨gs, 6, none⟩) hgsl
          have s7 := hb.cell (p := ⟨gs, 7, none⟩) hgsl
          rw [HST.out 0 (.int .i64 (uI s.a)) rfl] at s0
          rw [HST.out 1 (.int .i64 (uI s.b)) rfl] at s1
          rw [HST.out 2 (.int .i64 (uI s.c)) rfl] at s2
          rw [HST.out 3 (.int .i64 (uI s.d)) rfl] at s3
          rw [HST.out 4 (.int .i64 (uI s.e)) rfl] at s4
          rw [HST.out 5 (.int .i64 (uI s.f)) rfl] at s5
          rw [HST.out 6 (.int .i64 (uI s.g)) rfl] at s6
          rw [HST.out 7 (.int .i64 (uI s.h)) rfl] at s7
          have fa := uI_wrap s.a
          have fb := uI_wrap s.b
          have fc := uI_wrap s.c
          have fd := uI_wrap s.d
          have fe := uI_wrap s.e
          have ff := uI_wrap s.f
          have fg := uI_wrap s.g
          have fh := uI_wrap s.h
          clear hv hg hb hL
          go_wp2_with fail
          go_quiet (fail)
          go_wp2_with fail
          go_quiet (fail)
          go_wp2_with fail
          generalize hwd : wr.drewN _ = wd
          have HBd : Hid (Below w.heap.size w wd) := by rw [← hwd]; exact below_drewN HBB.out _
          have HGd : Hid (wd.heap[w.heap.size]? = some (.cells L.toArray 70 (0, 0))) := by rw [← hwd]; exact HG.out
          clear hwd s0 s1 s2 s3 s4 s5 s6 s7 fa fb fc fd fe ff fg fh HBB HG hlt hk hk0
          refine (specKeys wd).mono ?_
          rintro e w3 ⟨rfl, hgk, hbk⟩
          have HGk : Hid (w3.heap[wd.heap.size]? = some (.cells keyV.toArray 70 (0, 0))) := hgk
          have HGw : Hid (w3.heap[w.heap.size]? = some (.cells L.toArray 70 (0, 0))) := by
            show _ = _
            rw [hbk.block _ (heap_lt HGd.out), HGd.out]
          have HB3 : Hid (Below w.heap.size w w3) := HBd.out.trans (hbk.mono HBd.out.size)
          have HS3 : Hid (w.heap.size ≤ wd.heap.size) := HBd.out.size
          clear hgk hbk HBd HGd
          go_wp2_with fail
          go_loopw [10, 11, 12, 13, 14, 15, 16, 17, 19] (fun va vb vc vd ve vf vg vh i wr => ∃ (k : Nat) (T : St), k ≤ 64 ∧ T = rnds s (wordAt t 0) k ∧ va = .int .u32 (uI T.a) ∧ vb = .int .u32 (uI T.b) ∧ vc = .int .u32 (uI T.c) ∧ vd = .int .u32 (uI T.d) ∧ ve = .int .u32 (uI T.e) ∧ vf = .int .u32 (uI T.f) ∧ vg = .int .u32 (uI T.g) ∧ vh = .int .u32 (uI T.h) ∧ i = .int .i64 k ∧ Below w3.heap.size w3 wr)
            (fun _ _ _ _ _ _ _ _ i _ => 64 - (intOf i).toNat)
          case atStart => exact ⟨0, s, by omega, rfl, rfl, rfl, rfl, rfl, rfl, rfl, rfl, rfl, rfl, Below.refl _ _⟩
          case round =>
            obtain ⟨k, T, hk, hT, rfl, rfl, rfl, rfl, rfl, rfl, rfl, rfl, rfl, hbr⟩ := hrel
            have HT : Hid (T = rnds s (wordAt t 0) k) := hT
            clear hT
            by_cases hlt : k < 64
            · have ck := rowFacts HGk.out k _ (key_at k hlt)
              have cw := rowFacts HGw.out k _ (HV.out k hlt)
              rw [← hbr.cell (p := ⟨wd.heap.size, k, none⟩) (heap_lt HGk.out)] at ck
              rw [← hbr.cell (p := ⟨w.heap.size, k, none⟩) (heap_lt HGw.out)] at cw
              have HBR : Hid (Below w3.heap.size w3 wr) := hbr
              generalize hK : kAt k = K at ck
              generalize hX : wAt (wordAt t 0) k = X at cw
              have HK : Hid (kAt k = K) := hK
              have HX : Hid (wAt (wordAt t 0) k = X) := hX
              clear hbr hK hX
              go_wp2_with fail
              have fx := uI_xor
              have fa := uI_and
              have fn := uI_not'
              have fp := uI_add
              have fq := uI_add'
              go_quiet (exact (specTurnI _ _ _ (by decide) (by decide)).mono (fun _ _ h => ⟨h.1, _, h.2⟩))
              go_wp2_with fail
              iterate 3
                refine (specTurnI _ _ _ (by decide) (by decide)).mono ?_
                rintro e w' ⟨rfl, rfl⟩
                go_wp2_with fail
              refine ⟨⟨k + 1, rnd T (K + X), by omega, by rw [rnds, ← HT.out, HK.out, HX.out], ?_, rfl, rfl, rfl, ?_, rfl, rfl, rfl, by go_num, below_drewN HBR.out _⟩, by simp [intOf]; omega⟩
              · rw [BitVec.add_assoc _ K X]; rfl
              · rw [BitVec.add_assoc _ K X]; rfl
            · have h64 : T = rnds s (wordAt t 0) 64 := by rw [HT.out, show k = 64 by omega]
              have HT2 : Hid (blk s (wordAt t 0) = s.add T) := by show _ = _; rw [h64]; rfl
              have HBR : Hid (Below w3.heap.size w3 wr) := hbr
              clear hbr HT h64
              go_wp2_with fail
              rename World => wq
              obtain ⟨il, hil, hl0, hl1, hl2⟩ := info_parts infoLong
              have HBW : Hid (Below w.heap.size w wq) := HB3.out.trans (HBR.out.mono HB3.out.size)
              go_loopw [23, 24] (fun o i wx => ∃ j : Nat, j ≤ 8 ∧ i = .int .i64 j ∧ wx.ownsRow (wq.heap.size + 1) 2 1 o j ((iCells (s.add T)).take j) ∧ Below (wq.heap.size + 1) (wq.alloc (.cells (uCells T).toArray 70 (0, 0))) wx ∧ wq.heap.size + 1 ≤ wx.heap.size)
                (fun _ i _ => 8 - (intOf i).toNat)
              case atStart => exact ⟨0, Nat.zero_le _, rfl, made1 wq _, (Below.refl _ (wq.alloc (.cells (uCells T).toArray 70 (0, 0)))).alloc (by simp) _, by simp⟩
              case round =>
                obtain ⟨j, hj, rfl, hown, hbx, hsx⟩ := hrel
                by_cases hj8 : j < 8
                · have cs : wr.cell? ⟨gs, j, none⟩ = some (.int .i64 (uI (s.row.getD j 0))) := by
                    have h1 := HBW.out.size
                    rw [hbx.cell (p := ⟨gs, j, none⟩) (by show gs < _; omega), World.cell?_alloc_lt _ _ _ (by show gs < _; omega), HBW.out.cell (p := ⟨gs, j, none⟩) hgsl]
                    have := HST.out j _ (iCells_at s j hj8)
                    rwa [Nat.zero_add] at this
                  have cv : wr.cell? ⟨wq.heap.size, j, none⟩ = some (.int .u32 (uI (T.row.getD j 0))) := by
                    rw [hbx.cell (p := ⟨wq.heap.size, j, none⟩) (by show wq.heap.size < _; omega)]
                    exact rowFacts (heap_alloc_new wq _) j _ (row_at T j hj8)
                  have HTK : Hid ((iCells (s.add T)).take (j + 1) = (iCells (s.add T)).take j ++ [.int .i64 (uI (s.row.getD j 0 + T.row.getD j 0))]) := by
                    show _ = _
                    rw [iCells_take _ j hj8, add_row s T j hj8]
                  generalize s.row.getD j 0 = x at cs HTK
                  generalize T.row.getD j 0 = y at cv HTK
                  generalize (iCells (s.add T)).take j = R at hown HTK
                  have f1 := uI_wrap x
                  have f2 := uI_add x y
                  have f3 := uI_add' x y
                  have f4 := uI_i64 (x + y)
                  have a0 : (0 : Int) ≤ (j : Int) := by omega
                  have b0 : (j : Int) < 8 := by omega
                  have HBX : Hid (Below (wq.heap.size + 1) (wq.alloc (.cells (uCells T).toArray 70 (0, 0))) wr) := hbx
                  clear hbx
                  go_wp2_with fail
                  go_region_law ((refine step_append_lies _ (by rfl) _ _ _ (by rfl) (wq.heap.size + 1) 2 il _ 1 8 Tryd.underlying34 hil hl0 hl1 hl2 rfl (by omega) _ _ _ (by rfl) ((hown.alloc _).drew) ⟨wr.heap.size, 0, none⟩ 1 1 [.int .i64 (uI (x + y))] (by rfl) (by rfl) (World.news_of_block (cs := #[.int .i64 (uI (x + y))]) (t := 2) (fr := (0, 0)) (heap_alloc_new wr _)) (by simp [Value.oneCell']) (by omega) (by unfold maxLen; omega) (by omega) (by simp; omega) (wr.heap.size + 1) (by simp) ?_; intro gg cap w6 hown1 hgrow hat hlt1))
                  all_goals
                    have hb6 : Below (wq.heap.size + 1) (wq.alloc (.cells (uCells T).toArray 70 (0, 0))) w6 := ((HBX.out.alloc hsx _).drew).grown hgrow (by simp; omega) (fun j hj => (hown.lt j hj).1)
                    have hs6 : wq.heap.size + 1 ≤ w6.heap.size := by have := hb6.size; simpa using this
                    have ho6 : w6.ownsRow (wq.heap.size + 1) 2 1 (.slice (some ⟨gg, 0, none⟩) (j + 1) cap) (j + 1) ((iCells (s.add T)).take (j + 1)) := by
                      rw [HTK.out]
                      exact hown1
                    have HB6 : Hid (Below (wq.heap.size + 1) (wq.alloc (.cells (uCells T).toArray 70 (0, 0))) w6) := hb6
                    have HO6 : Hid (w6.ownsRow (wq.heap.size + 1) 2 1 (.slice (some ⟨gg, 0, none⟩) (j + 1) cap) (j + 1) ((iCells (s.add T)).take (j + 1))) := ho6
                    clear hown1 hgrow hat hlt1 hown cs cv f1 f2 f3 f4 hb6 ho6
                    go_wp2
                    go_roundw
                    case rel => exact ⟨j + 1, by omega, by go_num, HO6.out, HB6.out, hs6⟩
                    case measure => simp [intOf]; omega
                · have h8 : (iCells (s.add T)).take j = iCells (blk s (wordAt t 0)) := by rw [show j = 8 by omega, HT2.out]; rfl
                  rw [h8] at hown
                  have hj9 : j = 8 := by omega
                  have h1 := HBW.out.size
                  have HO : Hid (wr.ownsRow w.heap.size 2 1 u23 8 (iCells (blk s (wordAt t 0)))) := by
                    show _ ∧ _
                    rw [hj9] at hown
                    refine ⟨hown.1, ?_⟩
                    rcases hown.2 with h | ⟨g, c, cur, h, hb, hr⟩
                    · exact .inl h
                    · exact .inr ⟨g, c, cur, h, by omega, hr⟩
                  have HB9 : Hid (Below w.heap.size w wr) := (HBW.out.alloc h1 _).trans (hbx.mono (by omega))
                  clear hown hbx h8 hj9
                  go_wp2
                  go_ret
                  exact ⟨_, rfl, HO.out, HB9.out⟩
end Go.Proofs.YthhmobjphloahaaDoor
namespace Go.Proofs.YthhmobjphloahaaDoor
open Go.RowKit

/-- The filling bytes when the j last have been laid. -/
def fillAt (n j p : Nat) : Int := if p = 0 then 128 else if p + j < 9 + zerosOf n then 0 else ((8 * n / 256 ^ (8 + zerosOf n - p) % 256 : Nat) : Int)
def fillL (n j : Nat) : List Int := (List.range (9 + zerosOf n)).map (fillAt n j)
theorem fillL_len (n j : Nat) : (fillL n j).length = 9 + zerosOf n := by simp [fillL]
theorem fillL_at (n j p : Nat) (h : p < 9 + zerosOf n) : (fillL n j)[p]? = some (fillAt n j p) := by simp [fillL, h]
theorem fillL_set (n j : Nat) (hj : j < 8) : (fillL n j).set (8 + zerosOf n - j) ((8 * n / 256 ^ j % 256 : Nat) : Int) = fillL n (j + 1) := by
  apply List.ext_getElem?
  intro p
  by_cases e : p = 8 + zerosOf n - j
  · subst e
    rw [List.getElem?_set_self (by rw [fillL_len]; omega), fillL_at _ _ _ (by omega)]
    unfold fillAt
    rw [if_neg (by omega), if_neg (by omega), show 8 + zerosOf n - (8 + zerosOf n - j) = j by omega]
  · rw [List.getElem?_set_ne (by omega)]
    by_cases hp : p < 9 + zerosOf n
    · rw [fillL_at _ _ _ hp, fillL_at _ _ _ hp]
      unfold fillAt
      by_cases h0 : p = 0
      · rw [if_pos h0, if_pos h0]
      · rw [if_neg h0, if_neg h0]
        by_cases h1 : p + j < 9 + zerosOf n
        · rw [if_pos h1, if_pos (by omega)]
        · rw [if_neg h1, if_neg (by omega)]
    · rw [List.getElem?_eq_none (by rw [fillL_len]; omega), List.getElem?_eq_none (by rw [fillL_len]; omega)]
theorem fillL_start (n : Nat) : (List.replicate (9 + zerosOf n) (0 : Int)).set 0 128 = fillL n 0 := by
  apply List.ext_getElem?
  intro p
  by_cases hp : p < 9 + zerosOf n
  · rw [fillL_at _ _ _ hp]
    by_cases h0 : p = 0
    · subst h0; rw [List.getElem?_set_self (by simp; omega)]; simp [fillAt]
    · rw [List.getElem?_set_ne (by omega)]
      simp [hp, fillAt, h0]
  · rw [List.getElem?_eq_none (by simp; omega), List.getElem?_eq_none (by rw [fillL_len]; omega)]
theorem padL_at (n p : Nat) (h : p < 9 + zerosOf n) : (padL n)[p]? = some (fillAt n 8 p) := by
  unfold padL
  by_cases h0 : p = 0
  · subst h0; simp [fillAt]
  · obtain ⟨q, rfl⟩ : ∃ q, p = q + 1 := ⟨p - 1, by omega⟩
    rw [List.getElem?_cons_succ]
    by_cases h1 : q < zerosOf n
    · rw [List.getElem?_append_left (by simpa using h1)]
      unfold fillAt
      rw [if_neg (by omega), if_pos (by omega)]
      simp [h1]
    · rw [List.getElem?_append_right (by simp; omega)]
      unfold fillAt beF
      rw [if_neg (by omega), if_neg (by omega)]
      have hq : q - zerosOf n < 8 := by omega
      simp only [List.length_replicate, List.getElem?_map, List.getElem?_range hq, Option.map_some]
      rw [show 8 - 1 - (q - zerosOf n) = 8 + zerosOf n - (q + 1) by omega]
theorem fill_end (n j : Nat) (hj : j ≤ 8) (h : 8 * n / 256 ^ j = 0) : fillL n j = padL n := by
  apply List.ext_getElem?
  intro p
  by_cases hp : p < 9 + zerosOf n
  · rw [fillL_at _ _ _ hp, padL_at _ _ hp]
    unfold fillAt
    by_cases h0 : p = 0
    · rw [if_pos h0, if_pos h0]
    · rw [if_neg h0, if_neg h0]
      by_cases h1 : p + j < 9 + zerosOf n
      · rw [if_pos h1]
        by_cases h2 : p + 8 < 9 + zerosOf n
        · rw [if_pos h2]
        · rw [if_neg h2]
          have : 8 * n / 256 ^ (8 + zerosOf n - p) = 0 := by
            obtain ⟨d, hd⟩ : ∃ d, 8 + zerosOf n - p = j + d := ⟨8 + zerosOf n - p - j, by omega⟩
            rw [hd, Nat.pow_add, ← Nat.div_div_eq_div_mul, h, Nat.zero_div]
          rw [this]; rfl
      · rw [if_neg h1, if_neg (by omega)]
  · rw [List.getElem?_eq_none (by rw [fillL_len]; omega), List.getElem?_eq_none (by rw [padL_len]; omega)]
theorem fill_step (n j : Nat) : 8 * n / 256 ^ j / 256 = 8 * n / 256 ^ (j + 1) := by
  rw [Nat.div_div_eq_div_mul, Nat.pow_succ]
theorem fill_small (n j : Nat) (hn : n ≤ 2000000000000) (h : 0 < 8 * n / 256 ^ j) : j < 8 := by
  rcases Nat.lt_or_ge j 8 with h' | h'
  · exact h'
  · exfalso
    have h1 : 256 ^ 8 ≤ 256 ^ j := Nat.pow_le_pow_right (by omega) h'
    have h2 : 8 * n < 256 ^ j := Nat.lt_of_lt_of_le (by omega) h1
    rw [Nat.div_eq_of_lt h2] at h
    omega
end Go.Proofs.YthhmobjphloahaaDoor
namespace Go.Proofs.YthhmobjphloahaaDoor
open Go.RowKit

set_option maxHeartbeats 1000000 in
set_option maxRecDepth 100000 in
theorem lastBytes (n : Nat) (w : World) (hn : n ≤ 2000000000000) :
    Calls Tryd.prog 81 #[.int .i64 (n : Int)] w fun e w' => e = .returned (.string (strOfNums (padL n))) ∧ Below w.heap.size w w' := by
  obtain ⟨i0, hi, hz0, hz1, hz2⟩ := info_parts infoByte
  have tm : ((n : Int) + 8).tmod 64 = ((n : Int) + 8) % 64 := Int.tmod_eq_emod_of_nonneg (by omega)
  have hzo : zerosOf n ≤ 63 := by unfold zerosOf; omega
  have hzI : (63 : Int) - ((n : Int) + 8) % 64 = (zerosOf n : Int) := by unfold zerosOf; omega
  go_enter Tryd.func81, Tryd.ntmps81
  go_wp2_with (at_make; refine wpList_make_full _ rfl _ _ 22 rfl w.heap.size 5 i0 (.int .u8 0) 1 Tryd.underlying22 hi hz0 hz1 .i64 .i64 _ _ (9 + zerosOf n) rfl rfl ?c1 ?c2 ?c3 ?c4 ?c5 ?_)
  case c1 => omega
  case c2 => omega
  case c3 => rw [hz2]; omega
  case c4 => unfold maxLen; omega
  case c5 => exact Nat.le_refl _
  intro w1 hown hgrow
  have hB1 : Below w.heap.size w w1 := (Below.refl _ w).grown hgrow (Nat.le_refl _) (fun k hk => by cases hk)
  obtain ⟨hrow, hlen⟩ := rowOf hown rfl
  rw [toList_madeCells_one] at hrow hlen
  have c0 := rowFacts hrow 0 (.int .u8 0) (by rw [List.getElem?_replicate, if_pos (by omega)])
  have z0 := frozen_of_row w1 _ 0 _ _ hrow
  have HR0 : Hid ((w1.setCell ⟨w.heap.size, 0, none⟩ (.int .u8 128)).heap[w.heap.size]? = some (.cells ((fillL n 0).map (Value.int .u8)).toArray 5 (0, 0))) := by
    show _ = _
    rw [← fillL_start, List.map_set, List.map_replicate]
    exact rowSet _ hrow
  have HB1 : Hid (Below w.heap.size w (w1.setCell ⟨w.heap.size, 0, none⟩ (.int .u8 128))) := hB1.setCell (Nat.le_refl _) _
  have a1 : (1 : Int) ≤ 9 + (zerosOf n : Int) := by omega
  clear hown hgrow hrow hlen hB1
  go_wp2_with fail
  go_loopw [5, 6] (fun b i wr => ∃ j x p : Nat, j ≤ 8 ∧ b = .int .i64 (x : Int) ∧ x = 8 * n / 256 ^ j ∧ i = .int .i64 (p : Int) ∧ p = 8 + zerosOf n - j ∧ wr.heap[w.heap.size]? = some (.cells ((fillL n j).map (Value.int .u8)).toArray 5 (0, 0)) ∧ Below w.heap.size w wr)
    (fun b _ _ => (intOf b).toNat)
  case atStart => exact ⟨0, 8 * n, 8 + zerosOf n, by omega, by go_num, by simp, by go_num, by omega, HR0.out, HB1.out⟩
  case round =>
    clear HR0 HB1 c0 z0
    obtain ⟨j, x, p, hj, rfl, hx, rfl, hp, hgr, hb⟩ := hrel
    by_cases hlt : 0 < x
    · have hj8 : j < 8 := fill_small n j hn (by omega)
      have hpl : p < 9 + zerosOf n := by omega
      have hxn : x ≤ 8 * n := by rw [hx]; exact Nat.div_le_self _ _
      have hlM : ((fillL n j).map (Value.int .u8)).length = 9 + zerosOf n := by rw [List.length_map, fillL_len]
      have hd := rowFacts hgr p _ (List.getElem?_eq_getElem (by omega))
      have hz := frozen_of_row wr _ p _ _ hgr
      have HG : Hid ((wr.setCell ⟨w.heap.size, p, none⟩ (.int .u8 ((x % 256 : Nat) : Int))).heap[w.heap.size]? = some (.cells ((fillL n (j + 1)).map (Value.int .u8)).toArray 5 (0, 0))) := by
        show _ = _
        rw [← fillL_set n j hj8, List.map_set, ← hx, ← hp]
        exact rowSet _ hgr
      have HB : Hid (∀ v, Below w.heap.size w (wr.setCell ⟨w.heap.size, p, none⟩ v)) := fun v => hb.setCell (Nat.le_refl _) v
      have HX : Hid (x / 256 = 8 * n / 256 ^ (j + 1)) := by show _ = _; rw [hx, fill_step]
      have HP : Hid (p - 1 = 8 + zerosOf n - (j + 1)) := by show _ = _; omega
      have hp1 : 1 ≤ p := by omega
      have fw : IntKind.u8.wrap (x : Int) = ((x % 256 : Nat) : Int) := by rw [IntKind.wrap_u8]; omega
      generalize ((fillL n j).map (Value.int .u8))[p] = v0 at hd
      clear hgr hb hx hp hlM
      go_wp2
      go_roundw
      case rel =>
        refine ⟨j + 1, x / 256, p - 1, by omega, by go_num, HX.out, by go_num, HP.out, ?_, HB.out _⟩
        exact HG.out
      case measure => simp [intOf]; omega
    · have hx0 : x = 0 := by omega
      have hpad : fillL n j = padL n := fill_end n j hj (by omega)
      rw [hpad] at hgr
      have hl := padL_len n
      have hcv := run_convert_bytes_arg wr 22 5 Tryd.underlying22 Tryd.underlying5 w.heap.size 0 (9 + zerosOf n) (9 + zerosOf n) (padL n) hl
        (fun t ht => by
          rw [Nat.zero_add]
          refine rowFacts hgr t _ ?_
          rw [List.getElem?_map, List.getD, List.getElem?_eq_getElem (by omega)]
          rfl) 9 Tryd.underlying9
      have HB : Hid (Below w.heap.size w wr) := hb
      clear hgr hb hx hp hpad hl
      go_wp2
      go_ret
      exact ⟨rfl, HB.out⟩
end Go.Proofs.YthhmobjphloahaaDoor
namespace Go.Proofs.YthhmobjphloahaaDoor
open Go.RowKit

theorem digL_at (s : St) (k : Nat) (h : k < 8) : (digL s).getD (4 * k) 0 = uI (s.row.getD k 0) / 16777216 ∧ (digL s).getD (4 * k + 1) 0 = uI (s.row.getD k 0) / 65536 % 256 ∧ (digL s).getD (4 * k + 2) 0 = uI (s.row.getD k 0) / 256 % 256 ∧ (digL s).getD (4 * k + 3) 0 = uI (s.row.getD k 0) % 256 := by
  rcases (by omega : k = 0 ∨ k = 1 ∨ k = 2 ∨ k = 3 ∨ k = 4 ∨ k = 5 ∨ k = 6 ∨ k = 7) with rfl | rfl | rfl | rfl | rfl | rfl | rfl | rfl <;> exact ⟨rfl, rfl, rfl, rfl⟩
theorem digL_len (s : St) : (digL s).length = 32 := rfl
theorem step4 {M : List Value} {D : List Int} {k : Nat} {a b c d : Int} (hM : M.length = 32) (hk : k < 8) (h : ∀ t, t < 4 * k → M[t]? = some (.int .u8 (D.getD t 0)))
    (ha : D.getD (4 * k) 0 = a) (hb : D.getD (4 * k + 1) 0 = b) (hc : D.getD (4 * k + 2) 0 = c) (hd : D.getD (4 * k + 3) 0 = d) :
    ∀ t, t < 4 * (k + 1) → ((((M.set (4 * k) (.int .u8 a)).set (4 * k + 1) (.int .u8 b)).set (4 * k + 2) (.int .u8 c)).set (4 * k + 3) (.int .u8 d))[t]? = some (.int .u8 (D.getD t 0)) := by
  intro t ht
  by_cases e3 : t = 4 * k + 3
  · subst e3; rw [List.getElem?_set_self (by simp; omega), hd]
  · rw [List.getElem?_set_ne (by omega)]
    by_cases e2 : t = 4 * k + 2
    · subst e2; rw [List.getElem?_set_self (by simp; omega), hc]
    · rw [List.getElem?_set_ne (by omega)]
      by_cases e1 : t = 4 * k + 1
      · subst e1; rw [List.getElem?_set_self (by simp; omega), hb]
      · rw [List.getElem?_set_ne (by omega)]
        by_cases e0 : t = 4 * k
        · subst e0; rw [List.getElem?_set_self (by omega), ha]
        · rw [List.getElem?_set_ne (by omega), h t (by omega)]

set_option maxHeartbeats 1000000 in
set_option maxRecDepth 100000 in
theorem digestW (s : St) (w : World) (g : Nat) (ty : TypeId) (tail : List Value) (hg : w.heap[g]? = some (.cells (uCells s ++ tail).toArray ty (0, 0))) :
    Calls Tryd.prog 82 #[.pointer (some ⟨g, 0, none⟩)] w
      fun e w' => e = .returned (.string (strOfNums (digL s))) ∧ Below w.heap.size w w' := by
  obtain ⟨i0, hi, hz0, hz1, hz2⟩ := info_parts infoByte
  have hgl := heap_lt hg
  go_enter Tryd.func82, Tryd.ntmps82
  go_wp2_with (at_make; refine wpList_make_full _ rfl _ _ 22 rfl w.heap.size 5 i0 (.int .u8 0) 1 Tryd.underlying22 hi hz0 hz1 .i64 .i64 _ _ 32 rfl rfl ?c1 ?c2 ?c3 ?c4 ?c5 ?_)
  case c1 => omega
  case c2 => omega
  case c3 => rw [hz2]; omega
  case c4 => unfold maxLen; omega
  case c5 => exact Nat.le_refl _
  intro w1 hown hgrow
  have hB1 : Below w.heap.size w w1 := (Below.refl _ w).grown hgrow (Nat.le_refl _) (fun k hk => by cases hk)
  obtain ⟨hrow, hlen⟩ := rowOf hown rfl
  generalize (madeCells #[Value.int IntKind.u8 0] 32).toList = L0 at hrow hlen
  have HR0 : Hid (w1.heap[w.heap.size]? = some (.cells L0.toArray 5 (0, 0))) := hrow
  have HL0 : Hid (L0.length = 32) := hlen
  have HB1 : Hid (Below w.heap.size w w1) := hB1
  clear hown hgrow hrow hlen hB1
  go_wp2_with fail
  go_loopw [8] (fun i wr => ∃ (k : Nat) (M : List Value), k ≤ 8 ∧ i = .int .i64 k ∧ M.length = 32 ∧ wr.heap[w.heap.size]? = some (.cells M.toArray 5 (0, 0)) ∧ (∀ t, t < 4 * k → M[t]? = some (.int .u8 ((digL s).getD t 0))) ∧ Below w.heap.size w wr)
    (fun i _ => 8 - (intOf i).toNat)
  case atStart => exact ⟨0, L0, Nat.zero_le _, rfl, HL0.out, HR0.out, fun j hj => by omega, HB1.out⟩
  case round =>
    clear HL0 HR0 HB1
    obtain ⟨k, M, hk, rfl, hM, hgr, hv, hb⟩ := hrel
    by_cases hlt : k < 8
    · have hck : wr.cell? ⟨g, k, none⟩ = some (.int .u32 (uI (s.row.getD k 0))) := by
        rw [hb.cell (p := ⟨g, k, none⟩) hgl]
        refine rowFacts hg k _ ?_
        rw [List.getElem?_append_left (show k < (uCells s).length from hlt)]
        exact row_at s k hlt
      have d0 := rowFacts hgr (4 * k) M[4 * k] (List.getElem?_eq_getElem (by omega))
      have d1 := rowFacts hgr (4 * k + 1) M[4 * k + 1] (List.getElem?_eq_getElem (by omega))
      have d2 := rowFacts hgr (4 * k + 2) M[4 * k + 2] (List.getElem?_eq_getElem (by omega))
      have d3 := rowFacts hgr (4 * k + 3) M[4 * k + 3] (List.getElem?_eq_getElem (by omega))
      have z0 := frozen_of_row wr _ (4 * k) _ _ hgr
      have z1 := frozen_of_row wr _ (4 * k + 1) _ _ hgr
      have z2 := frozen_of_row wr _ (4 * k + 2) _ _ hgr
      have z3 := frozen_of_row wr _ (4 * k + 3) _ _ hgr
      obtain ⟨q0, q1, q2, q3⟩ := digL_at s k hlt
      have HV : Hid _ := step4 hM hlt hv q0 q1 q2 q3
      have HG : Hid (∀ a b c d, ((((wr.setCell ⟨w.heap.size, 4 * k, none⟩ a).setCell ⟨w.heap.size, 4 * k + 1, none⟩ b).setCell ⟨w.heap.size, 4 * k + 2, none⟩ c).setCell ⟨w.heap.size, 4 * k + 3, none⟩ d).heap[w.heap.size]? = some (.cells ((((M.set (4 * k) a).set (4 * k + 1) b).set (4 * k + 2) c).set (4 * k + 3) d).toArray 5 (0, 0))) := fun a b c d => rowSet d (rowSet c (rowSet b (rowSet a hgr)))
      have HL : Hid (∀ a b c d, ((((M.set (4 * k) a).set (4 * k + 1) b).set (4 * k + 2) c).set (4 * k + 3) d).length = 32) := fun a b c d => by simpa using hM
      have HB : Hid (∀ n a b c d, Below w.heap.size w (((((wr.drewN n).setCell ⟨w.heap.size, 4 * k, none⟩ a).setCell ⟨w.heap.size, 4 * k + 1, none⟩ b).setCell ⟨w.heap.size, 4 * k + 2, none⟩ c).setCell ⟨w.heap.size, 4 * k + 3, none⟩ d)) := fun n a b c d => ((((below_drewN hb n).setCell (Nat.le_refl _) a).setCell (Nat.le_refl _) b).setCell (Nat.le_refl _) c).setCell (Nat.le_refl _) d
      generalize M[4 * k] = v0 at d0
      generalize M[4 * k + 1] = v1 at d1
      generalize M[4 * k + 2] = v2 at d2
      generalize M[4 * k + 3] = v3 at d3
      have f2 := uI_le (s.row.getD k 0)
      have f3 := uI_nonneg (s.row.getD k 0)
      generalize uI (s.row.getD k 0) = z at hck HV f2 f3
      clear hv hgr hb hM hg q0 q1 q2 q3
      go_wp2_with fail
      go_quiet (fail)
      go_wp2
      go_roundw
      case rel => exact ⟨k + 1, _, by omega, by go_num, HL.out _ _ _ _, HG.out _ _ _ _, HV.out, HB.out _ _ _ _ _⟩
      case measure => simp [intOf]; omega
    · have hv' : ∀ t, t < 32 → M[t]? = some (.int .u8 ((digL s).getD t 0)) := fun t ht => hv t (by omega)
      have hcv := run_convert_bytes_arg wr 22 5 Tryd.underlying22 Tryd.underlying5 w.heap.size 0 32 32 (digL s) rfl
        (fun t ht => by rw [Nat.zero_add]; exact rowFacts hgr t _ (hv' t ht)) 9 Tryd.underlying9
      have HB : Hid (Below w.heap.size w wr) := hb
      clear hgr hv hb hM hg hv'
      go_wp2
      go_ret
      exact ⟨rfl, HB.out⟩
/-- What ends a text of n bytes, taken in: the state behind. -/
def endSt (s : St) (r : ByteArray) (n : Nat) : St := more s (r ++ strOfNums (padL n))
set_option maxHeartbeats 1000000 in
set_option maxRecDepth 100000 in
theorem endW (s : St) (r : ByteArray) (n : Nat) (w w0 : World) (g B : Nat) (ty : TypeId) (hr : r.size ≤ 1000000) (hn : n ≤ 1900000000000) (hg : w.heap[g]? = some (.cells (workCells s r n).toArray ty (0, 0))) (hb : Below B w0 w) (hB : B ≤ g) (hk : Keys w0) (hkB : 1 < B) :
    Calls Tryd.prog 48 #[.pointer (some ⟨g, 0, none⟩)] w
      fun e w' => e = .returned (.string (strOfNums (digL (endSt s r n)))) ∧ Below B w0 w' := by
  have hgl := heap_lt hg
  have c9 := rowFacts hg 9 (.int .i64 n) rfl
  go_enter Tryd.func48, Tryd.ntmps48
  go_wp2_with fail
  refine (lastBytes n _ (by omega)).mono ?_
  rintro e w1 ⟨rfl, hb1⟩
  have hg1 : w1.heap[g]? = some (.cells (workCells s r n).toArray ty (0, 0)) := by rw [hb1.block g hgl, hg]
  have hB1 : Below B w0 w1 := hb.trans (hb1.mono (by omega))
  have hps : (strOfNums (padL n)).size ≤ 900000 := by
    rw [strOfNums_size, padL_len]
    unfold zerosOf
    omega
  have HG : Hid (w1.heap[g]? = some (.cells (workCells s r n).toArray ty (0, 0))) := hg1
  have HB : Hid (Below B w0 w1) := hB1
  have HK : Hid (Keys w0) := hk
  clear hg1 hB1 hb1 hg hb c9 hk
  go_wp2_with fail
  refine (takeW s r (strOfNums (padL n)) n w1 w0 g B ty hr hps (by omega) (by omega) HG.out HB.out hB HK.out hkB).mono ?_
  rintro e w2 ⟨rfl, hg2, hb2⟩
  have HG2 : Hid (w2.heap[g]? = some (.cells (uCells (endSt s r n) ++ [Value.string (restOf (r ++ strOfNums (padL n))), Value.int .i64 (n + (strOfNums (padL n)).size)]).toArray ty (0, 0))) := hg2
  have HB2 : Hid (Below B w0 w2) := hb2
  have hgl2 := heap_lt hg2
  clear hg2 hb2
  go_wp2_with fail
  refine (digestW (endSt s r n) w2 g ty _ HG2.out).mono ?_
  rintro e w3 ⟨rfl, hb3⟩
  have HB3 : Hid (Below B w0 w3) := HB2.out.trans (hb3.mono (by omega))
  clear hb3
  go_wp2
  go_ret
  exact ⟨rfl, HB3.out⟩
end Go.Proofs.YthhmobjphloahaaDoor
namespace Go.Proofs.YthhmobjphloahaaDoor
open Go.RowKit

theorem beginW (w : World) :
    Calls Tryd.prog 46 #[] w fun e w' => e = .returned (.agg #[.int .u32 1779033703, .int .u32 3144134277, .int .u32 1013904242, .int .u32 2773480762, .int .u32 1359893119, .int .u32 2600822924, .int .u32 528734635, .int .u32 1541459225, .string ⟨#[]⟩, .int .i64 0]) ∧ Below w.heap.size w w' := by
  go_enter Tryd.func46, Tryd.ntmps46
  go_wp2
  go_returns
  exact ⟨rfl, (Below.refl _ w).alloc (Nat.le_refl _) _⟩
/-- The digest of a text. -/
def digOf (t : ByteArray) : ByteArray := strOfNums (digL (endSt (more st0 t) (restOf t) t.size))
theorem empty_append (t : ByteArray) : ByteArray.empty ++ t = t := by
  apply ByteArray.ext
  simp
end Go.Proofs.YthhmobjphloahaaDoor
