/- A text taken in, walked: (*hashWork).take. -/
import Derived.Test.YthhmobjphloahagDoorShaD
import Derived.Test.YthhmobjphloahagDoorJoinA
namespace Go.Proofs.YthhmobjphloahagDoor
open Go.RowKit

/-- A hash at work, as it lies in memory. -/
def workCells (s : St) (r : ByteArray) (n : Int) : List Value := uCells s ++ [.string r, .int .i64 n]

theorem byteAt_take (a : ByteArray) {k j : Nat} (h : j < k) : byteAt (a.extract 0 k) j = byteAt a j := by
  unfold byteAt
  rw [list_extract, List.drop_zero, List.getD, List.getD, List.getElem?_take, if_pos h]
theorem blks_step (s : St) (F L : ByteArray) (m : Nat) (hL : L = F.extract (64 * m) F.size) : blk (blks s F m) (wordAt (L.extract 0 64) 0) = blks s F (m + 1) := by
  rw [blks]
  refine blk_congr (fun i hi => wordAt_congr (fun j hj => ?_)) _
  rw [byteAt_take L (by omega), hL, byteAt_rest]
  congr 1
  omega
theorem extract_step (F L : ByteArray) (m : Nat) (hL : L = F.extract (64 * m) F.size) : L.extract 64 L.size = F.extract (64 * (m + 1)) F.size := by
  have e : (L.extract 64 L.size).data.toList = (F.extract (64 * (m + 1)) F.size).data.toList := by
    rw [list_extract, List.take_of_length_le (by simp), hL, list_extract, list_extract, List.take_of_length_le (by simp), List.drop_drop]
    congr 1
  exact ByteArray.ext (Array.ext' e)
set_option maxHeartbeats 1000000 in
set_option maxRecDepth 100000 in
theorem takeW (s : St) (r text : ByteArray) (n : Int) (w w0 : World) (g B : Nat) (ty : TypeId) (hr : r.size ≤ 1000000) (ht : text.size ≤ 900000) (h0 : 0 ≤ n) (hn : n ≤ 2000000000000) (hg : w.heap[g]? = some (.cells (workCells s r n).toArray ty (0, 0))) (hb : Below B w0 w) (hB : B ≤ g) (hk : Keys w0) (hkB : 0 < B) :
    Calls Tryd.prog 36 #[.pointer (some ⟨g, 0, none⟩), .string text] w
      fun e w' => e = .returned (.tuple #[]) ∧ w'.heap[g]? = some (.cells (workCells (more s (r ++ text)) (restOf (r ++ text)) (n + text.size)).toArray ty (0, 0)) ∧ Below B w0 w' := by
  have hgl := heap_lt hg
  have c8 := rowFacts hg 8 (.string r) rfl
  have c9 := rowFacts hg 9 (.int .i64 n) rfl
  have z8 := frozen_of_row w g 8 _ ty hg
  have z9 := frozen_of_row w g 9 _ ty hg
  have HG : Hid (w.heap[g]? = some (.cells (workCells s r n).toArray ty (0, 0))) := hg
  have HB : Hid (Below B w0 w) := hb
  clear hg hb
  go_enter Tryd.func36, Tryd.ntmps36
  go_wp2_with fail
  refine (joinTexts r text _ hr (by omega)).mono ?_
  rintro e w2 ⟨rfl, hb2⟩
  have hg1 : (w.setCell ⟨g, 9, none⟩ (.int .i64 (n + text.size))).heap[g]? = some (.cells (workCells s r (n + text.size)).toArray ty (0, 0)) := rowSet _ HG.out
  have hg2 : w2.heap[g]? = some (.cells (workCells s r (n + text.size)).toArray ty (0, 0)) := by
    rw [hb2.block g (by simpa using hgl), hg1]
  have HB2 : Hid (Below B w0 w2) := (HB.out.setCell hB _).trans (hb2.mono (by simp; omega))
  have hfs : (r ++ text).size ≤ 1900000 := by rw [size_append]; omega
  clear hg1 hb2 c8 c9 z8 z9 HG HB
  generalize hN : n + (text.size : Int) = N at hg2
  generalize hF : r ++ text = F at hfs
  have HN : Hid (n + (text.size : Int) = N) := hN
  have HF : Hid (r ++ text = F) := hF
  clear hN hF
  go_wp2_with fail
  have hk2 : Keys w2 := hk.below HB2.out hkB
  go_loopw [4] (fun v wr => ∃ (m : Nat) (L : ByteArray), 64 * m ≤ F.size ∧ L = F.extract (64 * m) F.size ∧ v = .string L ∧ wr.heap[g]? = some (.cells (workCells (blks s F m) r N).toArray ty (0, 0)) ∧ Below B w0 wr)
    (fun v _ => match v with | .string b => b.size | _ => 0)
  case atStart => exact ⟨0, F, by omega, by simp, rfl, hg2, HB2.out⟩
  case round =>
    clear hg2 HB2 hk2
    obtain ⟨m, L, hm, hL, rfl, hgr, hbr⟩ := hrel
    have hLs : L.size = F.size - 64 * m := by rw [hL, ByteArray.size_extract]; omega
    have HL : Hid (L = F.extract (64 * m) F.size) := hL
    have HLs : Hid (L.size = F.size - 64 * m) := hLs
    have hLm : L.size ≤ 1900000 := by omega
    clear hL hLs
    by_cases hlt : 64 ≤ L.size
    · have HK : Hid (Keys w0) := hk
      have HR : Hid (wr.heap[g]? = some (.cells (workCells (blks s F m) r N).toArray ty (0, 0))) := hgr
      have HBR : Hid (Below B w0 wr) := hbr
      have HS : Hid ((L.extract 0 64).size = 64) := by show _ = _; rw [ByteArray.size_extract]; omega
      clear hk hgr hbr
      go_wp2_with fail
      go_region_with (go_at_call 49; refine (takeBlock (blks s F m) (L.extract 0 64) wr.drew w0 g B ty [.string r, .int .i64 N] HS.out HR.out HBR.out.drew hB HK.out hkB).mono ?_; rintro e w' ⟨rfl, hg', hb'⟩)
      rw [blks_step s F L m HL.out] at hg'
      have HG' : Hid (w'.heap[g]? = some (.cells (workCells (blks s F (m + 1)) r N).toArray ty (0, 0))) := hg'
      have HB' : Hid (Below B w0 w') := hb'
      clear hg' hb'
      go_wp2
      go_roundw
      case rel => 
        have hLs := HLs.out
        exact ⟨m + 1, _, by omega, extract_step F L m HL.out, rfl, HG'.out, HB'.out⟩
      case measure => 
        show (L.extract 64 L.size).size < L.size
        rw [ByteArray.size_extract]; omega
    · have c8 := rowFacts hgr 8 (.string r) rfl
      have z8 := frozen_of_row wr g 8 _ ty hgr
      have HG' : Hid ((wr.setCell ⟨g, 8, none⟩ (.string L)).heap[g]? = some (.cells (workCells (blks s F m) L N).toArray ty (0, 0))) := rowSet _ hgr
      have HB' : Hid (Below B w0 (wr.setCell ⟨g, 8, none⟩ (.string L))) := hbr.setCell hB _
      clear hgr hbr
      go_wp2
      go_returns
      have hLs := HLs.out
      have hm2 : m = F.size / 64 := by omega
      refine ⟨rfl, ?_, HB'.out⟩
      rw [HF.out, HN.out, HG'.out, HL.out, hm2]
      rfl
end Go.Proofs.YthhmobjphloahagDoor
