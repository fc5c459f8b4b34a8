/- A block taken into a state, walked: spec.l02Block. A text taken into a hash, walked: spec.l02More. -/
import Derived.Test.YtjkmfjegphpjkaaGreatDoorJW10
import Derived.Deep.RegionHeld3
import Derived.Deep.AppendLies
import Derived.Test.YtjkmfjegphpjkaaGreatDoorJW05
import Derived.Deep.Cut
namespace Go.Proofs.YtjkmfjegphpjkaaGreatDoor
open Go.RowKit

theorem set_keep {w : World} {g k a b : Nat} {va vb v0 : Value} (h1 : w.cell? ⟨g, a, none⟩ = some va) (h2 : w.cell? ⟨g, b, none⟩ = some vb) (hc : w.cell? ⟨g, k, none⟩ = some v0) (hz : w.frozen? ⟨g, k, none⟩ = false) (na : k ≠ a) (nb : k ≠ b) (X : Value) :
    (w.setCell ⟨g, k, none⟩ X).cell? ⟨g, a, none⟩ = some va ∧ (w.setCell ⟨g, k, none⟩ X).cell? ⟨g, b, none⟩ = some vb ∧ (∃ v, (w.setCell ⟨g, k, none⟩ X).cell? ⟨g, k, none⟩ = some v) ∧ (w.setCell ⟨g, k, none⟩ X).frozen? ⟨g, k, none⟩ = false :=
  ⟨by rw [World.cell?_setCell_other _ _ _ _ (by simp)]; exact h1, by rw [World.cell?_setCell_other _ _ _ _ (by simp)]; exact h2, ⟨X, World.cell?_setCell_same _ _ _ hc⟩, by rw [World.frozen?_setCell]; exact hz⟩
theorem made1 (w : World) (o : Obj) : ((w.alloc o).alloc (.cells #[] 2 (0, 0))).ownsRow (w.heap.size + 1) 2 1 (.slice (some ⟨w.heap.size + 1, 0, none⟩) 0 0) 0 [] := by
  have h := World.ownsRow_made (base := w.heap.size + 1) (e := 2) (size := 1) (w.alloc o) #[] 0 (by simp) (Nat.zero_le _) rfl
  rw [show (w.alloc o).heap.size = w.heap.size + 1 from by simp] at h
  exact h
set_option maxHeartbeats 2000000 in
set_option maxRecDepth 100000 in
theorem specBlock (s : St) (t : ByteArray) (w : World) (gs cap : Nat) (ht : t.size = 64) (hst : w.rangeAt gs 0 (iCells s)) :
    Calls Tryz.prog 102 #[.slice (some ⟨gs, 0, none⟩) 8 cap, .string t] w
      fun e w' => ∃ v, e = .returned v ∧ w'.ownsRow w.heap.size 2 1 v 8 (iCells (blk s (wordAt t 0))) ∧ Below w.heap.size w w' := by
  obtain ⟨iw, hiw, hw0, hw1, hw2⟩ := info_parts infoWord
  have hgsl : gs < w.heap.size := World.block_lt_of_cell? w _ (hst 0 _ rfl)
  have HST : Hid (w.rangeAt gs 0 (iCells s)) := hst
  clear hst
  go_enter Tryz.func102, Tryz.ntmps102
  go_wp2_with (at_make; refine wpList_make_full _ rfl _ _ 139 rfl w.heap.size 110 iw (.int .u32 0) 1 Tryz.underlying139 hiw hw0 hw1 .i64 .i64 _ _ 64 rfl rfl ?c1 ?c2 ?c3 ?c4 ?c5 ?_)
  case c1 => omega
  case c2 => omega
  case c3 => rw [hw2]; omega
  case c4 => unfold maxLen; omega
  case c5 => exact Nat.le_refl _
  intro w1 hown hgrow
  have hB1 : Below w.heap.size w w1 := (Below.refl _ w).grown hgrow (Nat.le_refl _) (fun k hk => by cases hk)
  obtain ⟨hrow, hlen⟩ := rowOf hown rfl
  generalize (madeCells #[Value.int IntKind.u32 0] 64).toList = L0 at hrow hlen
  have HR0 : Hid (w1.heap[w.heap.size]? = some (.cells L0.toArray 110 (0, 0))) := hrow
  have HL0 : Hid (L0.length = 64) := hlen
  have HB1 : Hid (Below w.heap.size w w1) := hB1
  clear hown hgrow hrow hlen hB1
  go_wp2_with fail
  go_loopw [6] (fun i wr => ∃ (k : Nat) (L : List Value), k ≤ 16 ∧ i = .int .i64 k ∧ L.length = 64 ∧ wr.heap[w.heap.size]? = some (.cells L.toArray 110 (0, 0)) ∧ (∀ j, j < k → L[j]? = some (.int .u32 (uI (wAt (wordAt t 0) j)))) ∧ Below w.heap.size w wr)
    (fun i _ => 16 - (intOf i).toNat)
  case atStart => exact ⟨0, L0, Nat.zero_le _, rfl, HL0.out, HR0.out, fun j hj => by omega, HB1.out⟩
  case round =>
    clear HL0 HR0 HB1
    obtain ⟨k, L, hk, rfl, hL, hg, hv, hb⟩ := hrel
    by_cases hlt : k < 16
    · have hc := rowFacts hg k L[k] (List.getElem?_eq_getElem (by omega))
      have hz := frozen_of_row wr _ k _ _ hg
      have HV : Hid (∀ x, x = uI (wAt (wordAt t 0) k) → ∀ j, j < k + 1 → (L.set k (.int .u32 x))[j]? = some (.int .u32 (uI (wAt (wordAt t 0) j)))) := fun x hx => by
        subst hx
        exact words_set (by omega) hv
      have HG : Hid (∀ x, (wr.setCell ⟨w.heap.size, k, none⟩ x).heap[w.heap.size]? = some (.cells (L.set k x).toArray 110 (0, 0))) := fun x => rowSet x hg
      have HL : Hid (∀ x, (L.set k x).length = 64) := fun x => by simpa using hL
      have HW : Hid (bits BinOp.or IntKind.u32 (bits BinOp.or IntKind.u32 (bits BinOp.or IntKind.u32 (uI (bU (byteAt t (4 * k))) * 16777216 % 4294967296) (uI (bU (byteAt t (4 * k + 1))) * 65536 % 4294967296)) (uI (bU (byteAt t (4 * k + 2))) * 256 % 4294967296)) (uI (bU (byteAt t (4 * k + 3)))) = uI (wAt (wordAt t 0) k)) := by
        show _ = _
        rw [uI_shl24, uI_shl16, uI_shl8, uI_or, uI_or, uI_or, wAt_low _ hlt]
        unfold wordAt
        rw [Nat.zero_add]
      have HBB : Hid (Below w.heap.size w wr) := hb
      generalize L[k] = v0 at hc
      clear hv hg hL hb
      go_wp2_with fail
      have i0 := idxB t (4 * k) (by omega) (4 * (k : Int)) (by omega)
      have i1 := idxB t (4 * k + 1) (by omega) (4 * (k : Int) + 1) (by omega)
      have i2 := idxB t (4 * k + 2) (by omega) (4 * (k : Int) + 2) (by omega)
      have i3 := idxB t (4 * k + 3) (by omega) (4 * (k : Int) + 3) (by omega)
      have fw := uI_wrap
      go_region
      clear i0 i1 i2 i3 fw hc hz
      go_wp2
      go_roundw
      case rel => exact ⟨k + 1, _, by omega, by go_num, HL.out _, HG.out _, HV.out _ HW.out, (HBB.out.setCell (by simp) _).drew⟩
      case measure => simp [intOf]; omega
    · have h16 : k = 16 := by omega
      have HV : Hid (∀ j, j < 16 → L[j]? = some (.int .u32 (uI (wAt (wordAt t 0) j)))) := fun j hj => hv j (by omega)
      have HG : Hid (wr.heap[w.heap.size]? = some (.cells L.toArray 110 (0, 0))) := hg
      have HL : Hid (L.length = 64) := hL
      have HBB : Hid (Below w.heap.size w wr) := hb
      clear hv hg hL hb h16
      go_wp2_with fail
      go_loopw [7] (fun i wr => ∃ (k : Nat) (L : List Value), 16 ≤ k ∧ k ≤ 64 ∧ i = .int .i64 k ∧ L.length = 64 ∧ wr.heap[w.heap.size]? = some (.cells L.toArray 110 (0, 0)) ∧ (∀ j, j < k → L[j]? = some (.int .u32 (uI (wAt (wordAt t 0) j)))) ∧ Below w.heap.size w wr)
        (fun i _ => 64 - (intOf i).toNat)
      case atStart => exact ⟨16, L, by omega, by omega, rfl, HL.out, HG.out, HV.out, HBB.out⟩
      case round =>
        clear HV HG HL HBB L hlt hk
        obtain ⟨k, L, hk0, hk, rfl, hL, hg, hv, hb⟩ := hrel
        by_cases hlt : k < 64
        · have hc := rowFacts hg k L[k] (List.getElem?_eq_getElem (by omega))
          have hz := frozen_of_row wr _ k _ _ hg
          have h16 := rowFacts hg (k - 16) _ (hv (k - 16) (by omega))
          have h15 := rowFacts hg (k - 15) _ (hv (k - 15) (by omega))
          have h7 := rowFacts hg (k - 7) _ (hv (k - 7) (by omega))
          have h2 := rowFacts hg (k - 2) _ (hv (k - 2) (by omega))
          have HV : Hid (∀ x, x = uI (wAt (wordAt t 0) k) → ∀ j, j < k + 1 → (L.set k (.int .u32 x))[j]? = some (.int .u32 (uI (wAt (wordAt t 0) j)))) := fun x hx => by
            subst hx
            exact words_set (by omega) hv
          have HG : Hid (∀ x, (wr.setCell ⟨w.heap.size, k, none⟩ x).heap[w.heap.size]? = some (.cells (L.set k x).toArray 110 (0, 0))) := fun x => rowSet x hg
          have HL : Hid (∀ x, (L.set k x).length = 64) := fun x => by simpa using hL
          have HBB : Hid (∀ x, Below w.heap.size w (wr.setCell ⟨w.heap.size, k, none⟩ x)) := fun x => hb.setCell (Nat.le_refl _) x
          generalize L[k] = v0 at hc
          clear hv hg hL hb
          go_wp2_with fail




          have e16 : IntKind.i64.wrap ((k : Int) - 16) = (k : Int) - 16 := by rw [IntKind.wrap_i64]; omega
          have e7 : IntKind.i64.wrap ((k : Int) - 7) = (k : Int) - 7 := by rw [IntKind.wrap_i64]; omega
          have a16 : (0 : Int) ≤ (k : Int) - 16 := by omega
          have b16 : (k : Int) - 16 < 64 := by omega
          have a7 : (0 : Int) ≤ (k : Int) - 7 := by omega
          have b7 : (k : Int) - 7 < 64 := by omega
          have t16 : ((k : Int) - 16).toNat = k - 16 := by omega
          have t7 : ((k : Int) - 7).toNat = k - 7 := by omega
          have a0 : (0 : Int) ≤ (k : Int) := by omega
          have b0 : (k : Int) < 64 := by omega
          have b80 : k < 80 := by omega
          have B80 : (k : Int) < 80 := by omega
          have b71 : k < 71 := by omega
          have B71 : (k : Int) < 71 := by omega
          have g7 : 7 ≤ k := by omega
          have G7 : (7 : Int) ≤ (k : Int) := by omega
          have G16 : (16 : Int) ≤ (k : Int) := by omega
          have KS : Hid (∀ X, (wr.setCell ⟨w.heap.size, k, none⟩ X).drew.cell? ⟨w.heap.size, k - 16, none⟩ = some (.int .u32 (uI (wAt (wordAt t 0) (k - 16)))) ∧ (wr.setCell ⟨w.heap.size, k, none⟩ X).drew.cell? ⟨w.heap.size, k - 7, none⟩ = some (.int .u32 (uI (wAt (wordAt t 0) (k - 7)))) ∧ (∃ v, (wr.setCell ⟨w.heap.size, k, none⟩ X).drew.cell? ⟨w.heap.size, k, none⟩ = some v) ∧ (wr.setCell ⟨w.heap.size, k, none⟩ X).drew.frozen? ⟨w.heap.size, k, none⟩ = false) :=
            fun X => set_keep h16 h7 hc hz (by omega) (by omega) X
          go_region_held3 (fun w' => w'.cell? ⟨w.heap.size, k - 16, none⟩ = some (.int .u32 (uI (wAt (wordAt t 0) (k - 16)))) ∧ w'.cell? ⟨w.heap.size, k - 7, none⟩ = some (.int .u32 (uI (wAt (wordAt t 0) (k - 7)))) ∧ (∃ v, w'.cell? ⟨w.heap.size, k, none⟩ = some v) ∧ w'.frozen? ⟨w.heap.size, k, none⟩ = false) (first | exact KS.out _ | go_keep)
            (first | (go_at_call 120; refine (specTurnI _ _ _ (by decide) (by decide)).mono ?_; rintro e w' ⟨rfl, rfl⟩))
          clear hc hz KS h16 h15 h7 h2 e16 e7 a16 b16 a7 b7 t16 t7 a0 b0 b80 B80 b71 B71 g7 G7 G16
          go_wp2
          go_roundw
          case rel =>
            refine ⟨k + 1, _, by omega, by omega, by go_num, HL.out _, HG.out _, HV.out _ ?_, (HBB.out _).drew⟩
            simp only [uI_xor, uI_shr3, uI_shr10]
            rw [wAt_high _ hk0]
            rfl
          case measure => simp [intOf]; omega
        · have HV : Hid (∀ j, j < 64 → L[j]? = some (.int .u32 (uI (wAt (wordAt t 0) j)))) := fun j hj => hv j (by omega)
          have HG : Hid (wr.heap[w.heap.size]? = some (.cells L.toArray 110 (0, 0))) := hg
          have HBB : Hid (Below w.heap.size w wr) := hb
          have s0 := hb.cell (p := ⟨gs, 0, none⟩) hgsl
          have s1 := hb.cell (p := ⟨gs, 1, none⟩) hgsl
          have s2 := hb.cell (p := ⟨gs, 2, none⟩) hgsl
          have s3 := hb.cell (p := ⟨gs, 3, none⟩) hgsl
          have s4 := hb.cell (p := ⟨gs, 4, none⟩) hgsl
          have s5 := hb.cell (p := ⟨gs, 5, none⟩) hgsl
          have s6 := hb.cell (p := ⟨gs, 6, none⟩) hgsl
          have s7 := hb.cell (p := ⟨gs, 7, none⟩) hgsl
          rw [HST.out 0 (.int .i64 (uI s.a)) rfl] at s0
          rw [HST.out 1 (.int .i64 (uI s.b)) rfl] at s1
          rw [HST.out 2 (.int .i64 (uI s.c)) rfl] at s2
          rw [HST.out 3 (.int .i64 (uI s.d)) rfl] at s3
          rw [HST.out 4 (.int .i64 (uI s.e)) rfl] at s4
          rw [HST.out 5 (.int .i64 (uI s.f)) rfl] at s5
          rw [HST.out 6 (.int .i64 (uI s.g)) rfl] at s6
          rw [HST.out 7 (.int .i64 (uI s.h)) rfl] at s7
          have fa := uI_wrap s.a
          have fb := uI_wrap s.b
          have fc := uI_wrap s.c
          have fd := uI_wrap s.d
          have fe := uI_wrap s.e
          have ff := uI_wrap s.f
          have fg := uI_wrap s.g
          have fh := uI_wrap s.h
          clear hv hg hb hL
          go_wp2_with fail
          go_quiet (fail)
          go_wp2_with fail
          go_quiet (fail)
          go_wp2_with fail
          generalize hwd : wr.drewN _ = wd
          have HBd : Hid (Below w.heap.size w wd) := by rw [← hwd]; exact below_drewN HBB.out _
          have HGd : Hid (wd.heap[w.heap.size]? = some (.cells L.toArray 110 (0, 0))) := by rw [← hwd]; exact HG.out
          clear hwd s0 s1 s2 s3 s4 s5 s6 s7 fa fb fc fd fe ff fg fh HBB HG hlt hk hk0
          refine (specKeys wd).mono ?_
          rintro e w3 ⟨rfl, hgk, hbk⟩
          have HGk : Hid (w3.heap[wd.heap.size]? = some (.cells keyV.toArray 110 (0, 0))) := hgk
          have HGw : Hid (w3.heap[w.heap.size]? = some (.cells L.toArray 110 (0, 0))) := by
            show _ = _
            rw [hbk.block _ (heap_lt HGd.out), HGd.out]
          have HB3 : Hid (Below w.heap.size w w3) := HBd.out.trans (hbk.mono HBd.out.size)
          have HS3 : Hid (w.heap.size ≤ wd.heap.size) := HBd.out.size
          clear hgk hbk HBd HGd
          go_wp2_with fail
          go_loopw [10, 11, 12, 13, 14, 15, 16, 17, 19] (fun va vb vc vd ve vf vg vh i wr => ∃ (k : Nat) (T : St), k ≤ 64 ∧ T = rnds s (wordAt t 0) k ∧ va = .int .u32 (uI T.a) ∧ vb = .int .u32 (uI T.b) ∧ vc = .int .u32 (uI T.c) ∧ vd = .int .u32 (uI T.d) ∧ ve = .int .u32 (uI T.e) ∧ vf = .int .u32 (uI T.f) ∧ vg = .int .u32 (uI T.g) ∧ vh = .int .u32 (uI T.h) ∧ i = .int .i64 k ∧ Below w3.heap.size w3 wr)
            (fun _ _ _ _ _ _ _ _ i _ => 64 - (intOf i).toNat)
          case atStart => exact ⟨0, s, by omega, rfl, rfl, rfl, rfl, rfl, rfl, rfl, rfl, rfl, rfl, Below.refl _ _⟩
          case round =>
            obtain ⟨k, T, hk, hT, rfl, rfl, rfl, rfl, rfl, rfl, rfl, rfl, rfl, hbr⟩ := hrel
            have HT : Hid (T = rnds s (wordAt t 0) k) := hT
            clear hT
            by_cases hlt : k < 64
            · have ck := rowFacts HGk.out k _ (key_at k hlt)
              have cw := rowFacts HGw.out k _ (HV.out k hlt)
              rw [← hbr.cell (p := ⟨wd.heap.size, k, none⟩) (heap_lt HGk.out)] at ck
              rw [← hbr.cell (p := ⟨w.heap.size, k, none⟩) (heap_lt HGw.out)] at cw
              have HBR : Hid (Below w3.heap.size w3 wr) := hbr
              generalize hK : kAt k = K at ck
              generalize hX : wAt (wordAt t 0) k = X at cw
              have HK : Hid (kAt k = K) := hK
              have HX : Hid (wAt (wordAt t 0) k = X) := hX
              clear hbr hK hX
              go_wp2_with fail
              have fx := uI_xor
              have fa := uI_and
              have fn := uI_not'
              have fp := uI_add
              have fq := uI_add'
              go_quiet (exact (specTurnI _ _ _ (by decide) (by decide)).mono (fun _ _ h => ⟨h.1, _, h.2⟩))
              go_wp2_with fail
              iterate 3
                refine (specTurnI _ _ _ (by decide) (by decide)).mono ?_
                rintro e w' ⟨rfl, rfl⟩
                go_wp2_with fail
              refine ⟨⟨k + 1, rnd T (K + X), by omega, by rw [rnds, ← HT.out, HK.out, HX.out], ?_, rfl, rfl, rfl, ?_, rfl, rfl, rfl, by go_num, below_drewN HBR.out _⟩, by simp [intOf]; omega⟩
              · rw [BitVec.add_assoc _ K X]; rfl
              · rw [BitVec.add_assoc _ K X]; rfl
            · have h64 : T = rnds s (wordAt t 0) 64 := by rw [HT.out, show k = 64 by omega]
              have HT2 : Hid (blk s (wordAt t 0) = s.add T) := by show _ = _; rw [h64]; rfl
              have HBR : Hid (Below w3.heap.size w3 wr) := hbr
              clear hbr HT h64
              go_wp2_with fail
              rename World => wq
              obtain ⟨il, hil, hl0, hl1, hl2⟩ := info_parts infoLong
              have HBW : Hid (Below w.heap.size w wq) := HB3.out.trans (HBR.out.mono HB3.out.size)
              go_loopw [23, 24] (fun o i wx => ∃ j : Nat, j ≤ 8 ∧ i = .int .i64 j ∧ wx.ownsRow (wq.heap.size + 1) 2 1 o j ((iCells (s.add T)).take j) ∧ Below (wq.heap.size + 1) (wq.alloc (.cells (uCells T).toArray 110 (0, 0))) wx ∧ wq.heap.size + 1 ≤ wx.heap.size)
                (fun _ i _ => 8 - (intOf i).toNat)
              case atStart => exact ⟨0, Nat.zero_le _, rfl, made1 wq _, (Below.refl _ (wq.alloc (.cells (uCells T).toArray 110 (0, 0)))).alloc (by simp) _, by simp⟩
              case round =>
                obtain ⟨j, hj, rfl, hown, hbx, hsx⟩ := hrel
                by_cases hj8 : j < 8
                · have cs : wr.cell? ⟨gs, j, none⟩ = some (.int .i64 (uI (s.row.getD j 0))) := by
                    have h1 := HBW.out.size
                    rw [hbx.cell (p := ⟨gs, j, none⟩) (by show gs < _; omega), World.cell?_alloc_lt _ _ _ (by show gs < _; omega), HBW.out.cell (p := ⟨gs, j, none⟩) hgsl]
                    have := HST.out j _ (iCells_at s j hj8)
                    rwa [Nat.zero_add] at this
                  have cv : wr.cell? ⟨wq.heap.size, j, none⟩ = some (.int .u32 (uI (T.row.getD j 0))) := by
                    rw [hbx.cell (p := ⟨wq.heap.size, j, none⟩) (by show wq.heap.size < _; omega)]
                    exact rowFacts (heap_alloc_new wq _) j _ (row_at T j hj8)
                  have HTK : Hid ((iCells (s.add T)).take (j + 1) = (iCells (s.add T)).take j ++ [.int .i64 (uI (s.row.getD j 0 + T.row.getD j 0))]) := by
                    show _ = _
                    rw [iCells_take _ j hj8, add_row s T j hj8]
                  generalize s.row.getD j 0 = x at cs HTK
                  generalize T.row.getD j 0 = y at cv HTK
                  generalize (iCells (s.add T)).take j = R at hown HTK
                  have f1 := uI_wrap x
                  have f2 := uI_add x y
                  have f3 := uI_add' x y
                  have f4 := uI_i64 (x + y)
                  have a0 : (0 : Int) ≤ (j : Int) := by omega
                  have b0 : (j : Int) < 8 := by omega
                  have HBX : Hid (Below (wq.heap.size + 1) (wq.alloc (.cells (uCells T).toArray 110 (0, 0))) wr) := hbx
                  clear hbx
                  go_wp2_with fail
                  go_region_law ((refine step_append_lies _ (by rfl) _ _ _ (by rfl) (wq.heap.size + 1) 2 il _ 1 8 Tryz.underlying55 hil hl0 hl1 hl2 rfl (by omega) _ _ _ (by rfl) ((hown.alloc _).drew) ⟨wr.heap.size, 0, none⟩ 1 1 [.int .i64 (uI (x + y))] (by rfl) (by rfl) (World.news_of_block (cs := #[.int .i64 (uI (x + y))]) (t := 2) (fr := (0, 0)) (heap_alloc_new wr _)) (by simp [Value.oneCell']) (by omega) (by unfold maxLen; omega) (by omega) (by simp; omega) (wr.heap.size + 1) (by simp) ?_; intro gg cap w6 hown1 hgrow hat hlt1))
                  all_goals
                    have hb6 : Below (wq.heap.size + 1) (wq.alloc (.cells (uCells T).toArray 110 (0, 0))) w6 := ((HBX.out.alloc hsx _).drew).grown hgrow (by simp; omega) (fun j hj => (hown.lt j hj).1)
                    have hs6 : wq.heap.size + 1 ≤ w6.heap.size := by have := hb6.size; simpa using this
                    have ho6 : w6.ownsRow (wq.heap.size + 1) 2 1 (.slice (some ⟨gg, 0, none⟩) (j + 1) cap) (j + 1) ((iCells (s.add T)).take (j + 1)) := by
                      rw [HTK.out]
                      exact hown1
                    have HB6 : Hid (Below (wq.heap.size + 1) (wq.alloc (.cells (uCells T).toArray 110 (0, 0))) w6) := hb6
                    have HO6 : Hid (w6.ownsRow (wq.heap.size + 1) 2 1 (.slice (some ⟨gg, 0, none⟩) (j + 1) cap) (j + 1) ((iCells (s.add T)).take (j + 1))) := ho6
                    clear hown1 hgrow hat hlt1 hown cs cv f1 f2 f3 f4 hb6 ho6
                    go_wp2
                    go_roundw
                    case rel => exact ⟨j + 1, by omega, by go_num, HO6.out, HB6.out, hs6⟩
                    case measure => simp [intOf]; omega
                · have h8 : (iCells (s.add T)).take j = iCells (blk s (wordAt t 0)) := by rw [show j = 8 by omega, HT2.out]; rfl
                  rw [h8] at hown
                  have hj9 : j = 8 := by omega
                  have h1 := HBW.out.size
                  have HO : Hid (wr.ownsRow w.heap.size 2 1 u23 8 (iCells (blk s (wordAt t 0)))) := by
                    show _ ∧ _
                    rw [hj9] at hown
                    refine ⟨hown.1, ?_⟩
                    rcases hown.2 with h | ⟨g, c, cur, h, hb, hr⟩
                    · exact .inl h
                    · exact .inr ⟨g, c, cur, h, by omega, hr⟩
                  have HB9 : Hid (Below w.heap.size w wr) := (HBW.out.alloc h1 _).trans (hbx.mono (by omega))
                  clear hown hbx h8 hj9
                  go_wp2
                  go_ret
                  exact ⟨_, rfl, HO.out, HB9.out⟩
end Go.Proofs.YtjkmfjegphpjkaaGreatDoor
namespace Go.Proofs.YtjkmfjegphpjkaaGreatDoor
open Go.RowKit

theorem made0 (w : World) : (w.alloc (.cells #[] 2 (0, 0))).ownsRow w.heap.size 2 1 (.slice (some ⟨w.heap.size, 0, none⟩) 0 0) 0 [] := World.ownsRow_made _ #[] 0 (Nat.le_refl _) (Nat.zero_le _) rfl
theorem madeS2 (w : World) (o : Obj) : ((w.alloc o).alloc (.cells #[] 2 (0, 0))).ownsRow w.heap.size 2 1 (.slice (some ⟨w.heap.size + 1, 0, none⟩) 0 0) 0 [] := by
  have h := World.ownsRow_made (base := w.heap.size) (e := 2) (size := 1) (w.alloc o) #[] 0 (by simp) (Nat.zero_le _) rfl
  rw [show (w.alloc o).heap.size = w.heap.size + 1 from by simp] at h
  exact h
theorem iCells_all (s : St) : ∀ v ∈ iCells s, v.oneCell' = true := fun v hv => by
  simp only [iCells, List.mem_map] at hv
  obtain ⟨x, _, rfl⟩ := hv
  rfl
theorem owns_other {w w' : World} {B g n c : Nat} {t : TypeId} {xs : List Value} (h : w.ownsRow B t 1 (.slice (some ⟨g, 0, none⟩) n c) n xs) (hh : w'.heap[g]? = w.heap[g]?) : w'.ownsRow B t 1 (.slice (some ⟨g, 0, none⟩) n c) n xs := by
  refine ⟨h.1, ?_⟩
  rcases h.2 with ⟨h', _⟩ | ⟨g', c', cur, h', hb, hg, hr⟩
  · simp at h'
  · simp only [Value.slice.injEq, Option.some.injEq, Addr.mk.injEq, and_true, true_and] at h'
    obtain ⟨rfl, rfl⟩ := h'
    exact .inr ⟨g, c, cur, rfl, hb, by rw [hh]; exact hg, hr⟩
theorem owns_range {w : World} {B g n c : Nat} {t : TypeId} {xs : List Value} (h : w.ownsRow B t 1 (.slice (some ⟨g, 0, none⟩) n c) n xs) : w.rangeAt g 0 xs := fun j v hv => by
  have hj : j < xs.length := by
    rcases Nat.lt_or_ge j xs.length with h' | h'
    · exact h'
    · rw [List.getElem?_eq_none h'] at hv; cases hv
  have hl := h.1
  rw [Nat.zero_add, h.cellAt j (by omega)]; exact hv
theorem rowThree {w : World} {g : Nat} {t : TypeId} {x y z : Value} (hg : w.heap[g]? = some (.cells [x, y, z].toArray t (0, 0))) (a b c : Value) :
    (((w.setCell ⟨g, 0, none⟩ a).setCell ⟨g, 1, none⟩ b).setCell ⟨g, 2, none⟩ c).heap[g]? = some (.cells [a, b, c].toArray t (0, 0)) := rowSet c (rowSet b (rowSet a hg))
set_option maxHeartbeats 1000000 in
set_option maxRecDepth 100000 in
theorem specMore (s : St) (r text : ByteArray) (n : Int) (w : World) (gs cap : Nat) (hr : r.size ≤ 1000000) (ht : text.size ≤ 900000) (h0 : 0 ≤ n) (hn : n ≤ 2000000000000) (hst : w.rangeAt gs 0 (iCells s)) :
    Calls Tryz.prog 87 #[.agg #[.slice (some ⟨gs, 0, none⟩) 8 cap, .string r, .int .i64 n], .string text] w
      fun e w' => ∃ v, e = .returned (.agg #[v, .string (restOf (r ++ text)), .int .i64 (n + text.size)]) ∧ w'.ownsRow w.heap.size 2 1 v 8 (iCells (more s (r ++ text))) ∧ Below w.heap.size w w' := by
  obtain ⟨il, hil, hl0, hl1, hl2⟩ := info_parts infoLong
  have hgsl : gs < w.heap.size := World.block_lt_of_cell? w _ (hst 0 _ rfl)
  go_enter Tryz.func87, Tryz.ntmps87
  go_wp2_with fail
  have hA : ∀ x y, Below w.heap.size w ((w.alloc x).alloc y) := fun x y => ((Below.refl _ w).alloc (Nat.le_refl _) x).alloc (by simp) y
  generalize hw1 : (w.alloc (.cells #[.slice (some ⟨gs, 0, none⟩) 8 cap, .string r, .int .i64 n] 94 (0, 0))).alloc (.cells #[.slice none 0 0, .string ⟨#[]⟩, .int .i64 0] 94 (0, 0)) = w1
  have hb1 : Below w.heap.size w w1 := by rw [← hw1]; exact hA _ _
  have hs1 : w1.heap.size = w.heap.size + 2 := by rw [← hw1]; simp
  have p0 : w1.cell? ⟨w.heap.size, 0, none⟩ = some (.slice (some ⟨gs, 0, none⟩) 8 cap) := by rw [← hw1]; simp
  have p1 : w1.cell? ⟨w.heap.size, 1, none⟩ = some (.string r) := by rw [← hw1]; simp
  have p2 : w1.cell? ⟨w.heap.size, 2, none⟩ = some (.int .i64 n) := by rw [← hw1]; simp
  have hR1 : w1.heap[w.heap.size + 1]? = some (.cells [Value.slice none 0 0, .string ⟨#[]⟩, .int .i64 0].toArray 94 (0, 0)) := by rw [← hw1]; exact heap_alloc2 w _ _
  have hfs : (r ++ text).size ≤ 1900000 := by rw [size_append]; omega
  generalize hF : r ++ text = F at hfs
  have HF : Hid (r ++ text = F) := hF
  have HS1 : Hid (w1.heap.size = w.heap.size + 2) := hs1
  have hle : w.heap.size ≤ w1.heap.size := by omega
  have HN : Hid (∀ W, Below w.heap.size w W → ∀ j u, (iCells s)[j]? = some u → W.cell? ((⟨gs, 0, none⟩ : Addr).add j) = some u) := fun W hW j u hu => by
    rw [Addr.add_lit, hW.cell (p := ⟨gs, 0 + j, none⟩) hgsl]; exact hst j u hu
  have HO := iCells_all s
  clear hA hw1 hs1 hst
  have hsum : ¬ 9223372036854775807 < r.size + text.size := by omega
  have hwn : IntKind.i64.wrap (n + (text.size : Int)) = n + (text.size : Int) := by rw [IntKind.wrap_i64]; omega
  go_cut [5] from 7 (fun s5 wx => ∃ q g c, s5 = .pointer (some ⟨q, 0, none⟩) ∧ w1.heap.size ≤ q ∧ g ≠ q ∧ wx.heap[q]? = some (.cells [.slice (some ⟨g, 0, none⟩) 8 c, .string F, .int .i64 (n + text.size)].toArray 94 (0, 0)) ∧ wx.ownsRow w1.heap.size 2 1 (.slice (some ⟨g, 0, none⟩) 8 c) 8 (iCells s) ∧ Below w1.heap.size w1 wx)
  case first =>
    have KS : Hid (∀ W, Below w1.heap.size w1 W → W.cell? ⟨w.heap.size, 0, none⟩ = some (.slice (some ⟨gs, 0, none⟩) 8 cap) ∧ W.cell? ⟨w.heap.size, 1, none⟩ = some (.string r) ∧ W.cell? ⟨w.heap.size, 2, none⟩ = some (.int .i64 n)) := fun W hW => by
      have hlt : w.heap.size < w1.heap.size := by have := HS1.out; omega
      exact ⟨(hW.cell (p := ⟨w.heap.size, 0, none⟩) hlt).trans p0, (hW.cell (p := ⟨w.heap.size, 1, none⟩) hlt).trans p1, (hW.cell (p := ⟨w.heap.size, 2, none⟩) hlt).trans p2⟩
    go_region_held3 (fun W => W.cell? ⟨w.heap.size, 0, none⟩ = some (.slice (some ⟨gs, 0, none⟩) 8 cap) ∧ W.cell? ⟨w.heap.size, 1, none⟩ = some (.string r) ∧ W.cell? ⟨w.heap.size, 2, none⟩ = some (.int .i64 n)) (exact KS.out _ (by go_grown))
      (first | (refine step_append_lies _ (by rfl) _ _ _ (by rfl) w1.heap.size 2 il _ 1 8 Tryz.underlying55 hil hl0 hl1 hl2 rfl (by omega) _ 0 [] (by rfl) (by first | exact (made0 w1).drew | exact ((made0 w1).alloc _).drew | exact (madeS2 w1 _).drew) ⟨gs, 0, none⟩ 8 cap (iCells s) (by rfl) (by rfl) (HN.out _ (by go_grown)) HO (by omega) (by unfold maxLen; omega) (by omega) (by go_size) _ rfl ?_; intro gg c2 w6 hown1 hgrow hat hlt1; have hb6 : Below w1.heap.size w1 w6 := Below.grown (by go_grown) hgrow (by go_size) (by intro k hk; cases hk; go_size); have hs6 : w1.heap.size ≤ w6.heap.size := hb6.size; first | (have hq6 := (hgrow.block (w1.heap.size + 1) (by go_size) (by show some (w1.heap.size + 1) ≠ some w1.heap.size; simp)).trans (heap_alloc2 w1 _ _); have o0 := rowFacts hq6 0 _ rfl; have o1 := rowFacts hq6 1 _ rfl; have o2 := rowFacts hq6 2 _ rfl; have y0 := frozen_of_row w6 _ 0 _ _ hq6; have y1 := frozen_of_row w6 _ 1 _ _ hq6; have y2 := frozen_of_row w6 _ 2 _ _ hq6) | (have hq6 := (hgrow.block w1.heap.size (by go_size) (by show some w1.heap.size ≠ some (w1.heap.size + 1); simp)).trans ((Below.heap_alloc (w1.alloc _) _ _ (by simp)).trans (heap_alloc_new w1 _)); have o0 := rowFacts hq6 0 _ rfl; have o1 := rowFacts hq6 1 _ rfl; have o2 := rowFacts hq6 2 _ rfl; have y0 := frozen_of_row w6 _ 0 _ _ hq6; have y1 := frozen_of_row w6 _ 1 _ _ hq6; have y2 := frozen_of_row w6 _ 2 _ _ hq6) | skip))
    · have HO6 : Hid (w6.ownsRow w1.heap.size 2 1 (.slice (some ⟨gg, 0, none⟩) 8 c2) 8 (iCells s)) := hown1
      have HB6 : Hid (Below w1.heap.size w1 w6) := hb6
      clear hown1 hgrow hat hb6 hil hl0 hl1 hl2
      go_wp2
      go_meet
      case rel => exact ⟨w6.heap.size, gg, c2, rfl, hs6, by omega, heap_alloc_new w6 _, HO6.out.alloc _, HB6.out.alloc hs6 _⟩
    · have HO6 : Hid (w6.ownsRow w1.heap.size 2 1 (.slice (some ⟨gg, 0, none⟩) 8 c2) 8 (iCells s)) := hown1
      have HB6 : Hid (Below w1.heap.size w1 w6) := hb6
      have hne : gg ≠ w1.heap.size + 1 := by
        rcases hat with h | h
        · have h' : some w1.heap.size = some gg := h
          simp at h'; omega
        · rw [h]; simp
      have HQ : Hid _ := hq6
      clear hown1 hgrow hat hb6 hil hl0 hl1 hl2 hq6
      go_wp2
      go_meet
      case rel => exact ⟨w1.heap.size + 1, gg, c2, rfl, by omega, hne, rowThree HQ.out _ _ _, owns_other HO6.out (by rw [heap_setCell_other _ _ _ _ hne, heap_setCell_other _ _ _ _ hne, heap_setCell_other _ _ _ _ hne]), ((HB6.out.setCell (by simp) _).setCell (by simp) _).setCell (by simp) _⟩
    · have HO6 : Hid (w6.ownsRow w1.heap.size 2 1 (.slice (some ⟨gg, 0, none⟩) 8 c2) 8 (iCells s)) := hown1
      have HB6 : Hid (Below w1.heap.size w1 w6) := hb6
      have hne : gg ≠ w1.heap.size := by
        rcases hat with h | h
        · have h' : some (w1.heap.size + 1) = some gg := h
          simp at h'; omega
        · rw [h]; simp; omega
      have HQ : Hid _ := hq6
      clear hown1 hgrow hat hb6 hil hl0 hl1 hl2 hq6
      go_wp2
      go_meet
      case rel => exact ⟨w1.heap.size, gg, c2, rfl, Nat.le_refl _, hne, rowThree HQ.out _ _ _, owns_other HO6.out (by rw [heap_setCell_other _ _ _ _ hne, heap_setCell_other _ _ _ _ hne, heap_setCell_other _ _ _ _ hne]), ((HB6.out.setCell (by simp) _).setCell (by simp) _).setCell (by simp) _⟩
  case rest =>
    obtain ⟨q, g, c, rfl, hq, hgq, hQ, hown, hbc⟩ := hcut
    have hRc : wc.heap[w.heap.size + 1]? = some (.cells [Value.slice none 0 0, .string ⟨#[]⟩, .int .i64 0].toArray 94 (0, 0)) := by
      rw [hbc.block _ (by have := HS1.out; omega)]; exact hR1
    have HBc : Hid (Below w.heap.size w wc) := hb1.trans (hbc.mono hle)
    have q0 := rowFacts hQ 0 _ rfl
    have q1 := rowFacts hQ 1 _ rfl
    have q2 := rowFacts hQ 2 _ rfl
    have HQ : Hid _ := hQ
    have HOc : Hid (wc.ownsRow w1.heap.size 2 1 (.slice (some ⟨g, 0, none⟩) 8 c) 8 (iCells s)) := hown
    have HRc : Hid _ := hRc
    clear hQ hown hRc hbc hb1 hR1 p0 p1 p2 HN HO
    go_wp2_with fail
    have hql := heap_lt HQ.out
    go_loopw [6] (fun v wr => ∃ (m a G cG : Nat), a = 64 * m ∧ a ≤ F.size ∧ v = .int .i64 (a : Int) ∧ G ≠ q ∧ q < wr.heap.size ∧ wr.heap[q]? = some (.cells [.slice (some ⟨G, 0, none⟩) 8 cG, .string F, .int .i64 (n + text.size)].toArray 94 (0, 0)) ∧ wr.ownsRow w1.heap.size 2 1 (.slice (some ⟨G, 0, none⟩) 8 cG) 8 (iCells (blks s F m)) ∧ wr.heap[w.heap.size + 1]? = some (.cells [Value.slice none 0 0, .string ⟨#[]⟩, .int .i64 0].toArray 94 (0, 0)) ∧ Below w.heap.size w wr ∧ w1.heap.size ≤ wr.heap.size)
      (fun v _ => F.size - (intOf v).toNat)
    case atStart => exact ⟨0, 0, g, c, rfl, Nat.zero_le _, rfl, hgq, hql, HQ.out, HOc.out, HRc.out, HBc.out, by omega⟩
    case round =>
      clear q0 q1 q2 HQ HOc HRc HBc hql hgq
      obtain ⟨m, a, G, cG, ha, haF, rfl, hGq, hql, hQ, hown, hRr, hbr, hs1r⟩ := hrel
      have q0 := rowFacts hQ 0 _ rfl
      have q1 := rowFacts hQ 1 _ rfl
      have q2 := rowFacts hQ 2 _ rfl
      by_cases hlt : a + 64 ≤ F.size
      · have hsz : (F.extract a (a + 64)).size = 64 := by rw [ByteArray.size_extract]; omega
        have HT : Hid (Calls Tryz.prog 102 #[.slice (some ⟨G, 0, none⟩) 8 cG, .string (F.extract a (a + 64))] wr.drew fun e w' => ∃ G2 c2, e = .returned (.slice (some ⟨G2, 0, none⟩) 8 c2) ∧ w'.cell? ⟨q, 0, none⟩ = some (.slice (some ⟨G, 0, none⟩) 8 cG) ∧ w'.frozen? ⟨q, 0, none⟩ = false ∧ w'.cell? ⟨q, 1, none⟩ = some (.string F) ∧ (∀ v, (w'.setCell ⟨q, 0, none⟩ v).cell? ⟨q, 1, none⟩ = some (.string F)) ∧
            Hid (∀ v, v = Value.slice (some ⟨G2, 0, none⟩) 8 c2 → G2 ≠ q ∧ q < (w'.setCell ⟨q, 0, none⟩ v).heap.size ∧ (w'.setCell ⟨q, 0, none⟩ v).heap[q]? = some (.cells [v, .string F, .int .i64 (n + text.size)].toArray 94 (0, 0)) ∧ (w'.setCell ⟨q, 0, none⟩ v).ownsRow w1.heap.size 2 1 v 8 (iCells (blks s F (m + 1))) ∧ (w'.setCell ⟨q, 0, none⟩ v).heap[w.heap.size + 1]? = some (.cells [Value.slice none 0 0, .string ⟨#[]⟩, .int .i64 0].toArray 94 (0, 0)) ∧ Below w.heap.size w (w'.setCell ⟨q, 0, none⟩ v) ∧ w1.heap.size ≤ (w'.setCell ⟨q, 0, none⟩ v).heap.size)) := by
          show Calls _ _ _ _ _
          refine (specBlock (blks s F m) (F.extract a (a + 64)) wr.drew G cG hsz (owns_range hown)).mono ?_
          rintro e w' ⟨v, rfl, hown', hb'⟩
          have hbs : blk (blks s F m) (wordAt (F.extract a (a + 64)) 0) = blks s F (m + 1) := by
            rw [blks]
            refine blk_congr (fun i hi => wordAt_congr (fun j hj => ?_)) _
            unfold byteAt
            rw [list_extract, List.getD, List.getD, List.getElem?_drop, List.getElem?_take, if_pos (by omega), ha]
            congr 2
            omega
          rw [hbs] at hown'
          obtain ⟨G2, c2, rfl, hG2, hgG2⟩ : ∃ G2 c2, v = .slice (some ⟨G2, 0, none⟩) 8 c2 ∧ wr.heap.size ≤ G2 ∧ ∃ cur, w'.heap[G2]? = some (.cells cur 2 (0, 0)) := by
            rcases hown'.2 with ⟨_, h⟩ | ⟨G2, c2, cur, h, hb, hg, _⟩
            · omega
            · exact ⟨G2, c2, h, hb, cur, hg⟩
          obtain ⟨cur, hgG2⟩ := hgG2
          have hs' : wr.heap.size ≤ w'.heap.size := hb'.size
          have hQ' : w'.heap[q]? = some (.cells [.slice (some ⟨G, 0, none⟩) 8 cG, .string F, .int .i64 (n + text.size)].toArray 94 (0, 0)) := by rw [hb'.block q hql]; exact hQ
          have hne : w.heap.size + 1 ≠ q := by have := HS1.out; omega
          have hR' : w'.heap[w.heap.size + 1]? = some (.cells [Value.slice none 0 0, .string ⟨#[]⟩, .int .i64 0].toArray 94 (0, 0)) := by
            rw [hb'.block _ (show w.heap.size + 1 < wr.heap.size by have := HS1.out; omega)]; exact hRr
          refine ⟨G2, c2, rfl, rowFacts hQ' 0 _ rfl, frozen_of_row w' q 0 _ _ hQ', rowFacts hQ' 1 _ rfl, fun v => rowFacts (rowSet v hQ') 1 _ rfl, ?_⟩
          intro v hv
          subst hv
          refine ⟨by omega, by simp; omega, rowSet _ hQ', ?_, by rw [heap_setCell_other _ _ _ _ hne]; exact hR', (hbr.drew.trans (hb'.mono hbr.size)).setCell (by show w.heap.size ≤ q; omega) _, by simp; omega⟩
          refine owns_other ?_ (heap_setCell_other _ _ _ _ (show G2 ≠ q by omega))
          refine ⟨hown'.1, ?_⟩
          rcases hown'.2 with h | ⟨g3, c3, cur3, h3, hb3, hr3⟩
          · exact .inl h
          · exact .inr ⟨g3, c3, cur3, h3, Nat.le_trans hs1r hb3, hr3⟩
        have ta : ((a : Int) + 64).toNat = a + 64 := by omega
        have ew : IntKind.i64.wrap ((a : Int) + 64) = (a : Int) + 64 := by rw [IntKind.wrap_i64]; omega
        have e0 : (0 : Int) ≤ (a : Int) := by omega
        have e1 : (0 : Int) ≤ (a : Int) + 64 := by omega
        have e2 : (a : Int) + 64 ≤ (F.size : Int) := by omega
        have e3 : (a : Int) ≤ (a : Int) + 64 := by omega
        have HA : Hid (a + 64 = 64 * (m + 1)) := by show _ = _; omega
        clear hQ hown hRr hbr ha
        go_wp2_with fail
        go_region_with (first | (go_at_call 102; refine HT.out.mono ?_; rintro e w' ⟨G2, c2, rfl, r0, z0, r1, r3, kk⟩))
        all_goals
          obtain ⟨k1, k2, k3, k4, k5, k6, k7⟩ := kk.out _ rfl
          have HK : Hid _ := (⟨k1, k2, k3, k4, k5, k6, k7⟩ : _ ∧ _ ∧ _ ∧ _ ∧ _ ∧ _ ∧ _)
          clear k1 k2 k3 k4 k5 k6 k7 kk q0 q1 q2 r0 z0 r1 r3 e0 e1 e2 e3 ta ew HT
          go_wp2
          first
            | exact ⟨⟨m + 1, a + 64, G2, c2, HA.out, hlt, by go_num, HK.out.1, HK.out.2.1, HK.out.2.2.1, HK.out.2.2.2.1, HK.out.2.2.2.2.1, HK.out.2.2.2.2.2.1, HK.out.2.2.2.2.2.2⟩, by simp [intOf]; omega⟩
            | (go_roundw
               case rel => exact ⟨m + 1, a + 64, G2, c2, HA.out, hlt, by go_num, HK.out.1, HK.out.2.1, HK.out.2.2.1, HK.out.2.2.2.1, HK.out.2.2.2.2.1, HK.out.2.2.2.2.2.1, HK.out.2.2.2.2.2.2⟩
               case measure => simp [intOf]; omega)
      · have hmm : m = F.size / 64 := by omega
        have hfz := frozen_of_row wr q 1 _ _ hQ
        have hQ1 : (wr.setCell ⟨q, 1, none⟩ (.string (F.extract a F.size))).heap[q]? = some (.cells [.slice (some ⟨G, 0, none⟩) 8 cG, .string (F.extract a F.size), .int .i64 (n + text.size)].toArray 94 (0, 0)) := rowSet _ hQ
        have hne : w.heap.size + 1 ≠ q := by have := HS1.out; omega
        have hR1 : (wr.setCell ⟨q, 1, none⟩ (.string (F.extract a F.size))).heap[w.heap.size + 1]? = some (.cells [Value.slice none 0 0, .string ⟨#[]⟩, .int .i64 0].toArray 94 (0, 0)) := by rw [heap_setCell_other _ _ _ _ hne]; exact hRr
        have o0 := rowFacts hR1 0 _ rfl
        have o1 := rowFacts hR1 1 _ rfl
        have o2 := rowFacts hR1 2 _ rfl
        have y0 := frozen_of_row _ _ 0 _ _ hR1
        have y1 := frozen_of_row _ _ 1 _ _ hR1
        have y2 := frozen_of_row _ _ 2 _ _ hR1
        have x0 := rowFacts hQ1 0 _ rfl
        have x1 := rowFacts hQ1 1 _ rfl
        have x2 := rowFacts hQ1 2 _ rfl
        have HO1 : Hid ((wr.setCell ⟨q, 1, none⟩ (.string (F.extract a F.size))).ownsRow w1.heap.size 2 1 (.slice (some ⟨G, 0, none⟩) 8 cG) 8 (iCells (blks s F m))) := owns_other hown (heap_setCell_other _ _ _ _ hGq)
        have HB1 : Hid (Below w.heap.size w (wr.setCell ⟨q, 1, none⟩ (.string (F.extract a F.size)))) := hbr.setCell (by show w.heap.size ≤ q; omega) _
        have e0 : (0 : Int) ≤ (a : Int) := by omega
        have e1 : (a : Int) ≤ (F.size : Int) := by omega
        have HE : Hid (F.extract a F.size = restOf F ∧ blks s F m = more s F) := by
          rw [ha, hmm]
          exact ⟨rfl, rfl⟩
        have HR1 : Hid _ := hR1
        clear hQ hQ1 hR1 hown hbr hRr hmm ha
        go_wp2
        obtain ⟨he1, he2⟩ := HE.out
        have hne2 : G ≠ w.heap.size + 1 := by
          have h1 := HS1.out
          rcases HO1.out.2 with ⟨h', _⟩ | ⟨g', c', cur, h', hb, _⟩
          · simp at h'
          · simp only [Value.slice.injEq, Option.some.injEq, Addr.mk.injEq, and_true, true_and] at h'
            obtain ⟨rfl, rfl⟩ := h'
            omega
        refine bodyPost_ret (v := .agg #[.slice (some ⟨G, 0, none⟩) 8 cG, .string (F.extract a F.size), .int .i64 (n + text.size)]) ?_ rfl ?_
        · have hrow := rowThree HR1.out (.slice (some ⟨G, 0, none⟩) 8 cG) (.string (F.extract a F.size)) (.int .i64 (n + text.size))
          have hl3 := run_loadVar_mid (P := Tryz.prog) _ (w.heap.size + 1) 0 94 _ _ (rangeRow hrow) Tryz.underlying94 rfl (by kernel_rfl)
          simp [results, Tryz.results87, asAddr, hl3]
        · rw [HF.out, ← he1, ← he2]
          refine ⟨_, rfl, ?_, ((HB1.out.setCell (by simp) _).setCell (by simp) _).setCell (by simp) _⟩
          have ho := owns_other (w' := (((wr.setCell ⟨q, 1, none⟩ (.string (F.extract a F.size))).setCell ⟨w.heap.size + 1, 0, none⟩ (.slice (some ⟨G, 0, none⟩) 8 cG)).setCell ⟨w.heap.size + 1, 1, none⟩ (.string (F.extract a F.size))).setCell ⟨w.heap.size + 1, 2, none⟩ (.int .i64 (n + text.size))) HO1.out (by rw [heap_setCell_other _ _ _ _ hne2, heap_setCell_other _ _ _ _ hne2, heap_setCell_other _ _ _ _ hne2])
          refine ⟨ho.1, ?_⟩
          rcases ho.2 with h | ⟨g3, c3, cur3, h3, hb3, hr3⟩
          · exact .inl h
          · exact .inr ⟨g3, c3, cur3, h3, Nat.le_trans hle hb3, hr3⟩
end Go.Proofs.YtjkmfjegphpjkaaGreatDoor
