/- FnHash, its tied card: the digest of a drawn text is the same, however it is taken in parts; digests have 32 bytes. The listed table is tied to the program's text; no other condition. -/
import Derived.Test.YtbkkjgpaccfplaaDoorHashT
import Derived.Test.YtbkkjgpaccfplaaDoorShaN
import Derived.Test.YtbkkjgpaccfplaaDoorShortI
import Derived.Test.YtbkkjgpaccfplaaDoorLwAt
import Derived.Test.YtbkkjgpaccfplaaDoorSrcC
import Derived.Test.YtbkkjgpaccfplaaDoorSrcE
import Derived.Test.YtbkkjgpaccfplaaDoorIsRow
import Derived.Test.YtbkkjgpaccfplaaDoorTabLaid
import Derived.Test.YtbkkjgpaccfplaaDoorCards
import Derived.Test.YtbkkjgpaccfplaaDoorTie
import Derived.SevenTiedAt
import Derived.ProofKit
import Derived.OpenShut
import Derived.ShutString
import Derived.ChangeOld
import Derived.Below
import Derived.Deep.RegionHeld3
import Derived.Deep.RegionWith
namespace Go.Proofs.YtbkkjgpaccfplaaDoor
open Go.RowKit

theorem drawDigest (a : Option Addr) (len cap : Nat) (w : World) (hlen : len ≤ 1048576) (hc : CodeAt a len w) (hblk : ∀ x, 0 < len → a = some x → x.block < w.heap.size) :
    Calls Tryd.prog 13 #[.slice a len cap] w fun e w' => (∃ t : ByteArray, t.size ≤ 200 ∧ e = .returned (.string t)) ∧ Below w.heap.size w w' := by
  have HC : Hid (CodeAt a len w) := hc
  have HBk : Hid (∀ x, 0 < len → a = some x → x.block < w.heap.size) := hblk
  clear hc hblk
  go_enter Tryd.func13, Tryd.ntmps13
  go_wp2_with fail
  refine (source_any a len cap _ hlen HC.out HBk.out).mono ?_
  rintro e w1 ⟨rfl, hs1, hb1, hz1⟩
  have H1 : Hid (Src w.heap.size a len cap w1) := hs1
  have B1 : Hid (Below w.heap.size w w1) := hb1
  clear hs1 hb1
  go_wp2_with fail
  refine (n_any w.heap.size a len cap 200 _ (by omega) H1.out).mono ?_
  rintro e w2 ⟨r, rfl, hr, hs2, ht2⟩
  have hr' : r < 200 := by omega
  have hz2 : w2.heap.size = w.heap.size + 1 := by rw [ht2.2, hz1]
  have H2 : Hid (Src w.heap.size a len cap w2) := hs2
  have B2 : Hid (Below w.heap.size w w2) := ht2.below B1.out (Nat.le_refl _) (by omega)
  have HB2 : Hid (∀ x, 0 < len → a = some x → x.block < w2.heap.size) := fun x h0 hx => by have := HBk.out x h0 hx; omega
  clear hr hs2 ht2
  go_wp2_with fail
  refine (bytes_any w.heap.size a len cap r _ (by omega) H2.out HB2.out).mono ?_
  rintro e w3 ⟨⟨t, ht, rfl⟩, hs3, hg3⟩
  have B3 : Hid (Below w.heap.size w w3) := hg3.below B2.out (Nat.le_refl _) (by omega)
  clear hs3 hg3
  go_wp2
  go_ret
  exact ⟨⟨t, by omega, rfl⟩, B3.out⟩
/-- A Hash in a variable. -/
def hashR (q : Option Addr) (r : ByteArray) (z : Int) : Obj := .cells [Value.slice q 8 8, .string r, .int .i64 z].toArray 36 (0, 0)
theorem extract_join (s : ByteArray) (k : Nat) : s.extract 0 k ++ s.extract k s.size = s := by
  apply ByteArray.ext
  apply Array.ext'
  rw [list_append, list_extract, list_extract, List.drop_zero, List.take_of_length_le (l := s.data.toList) (i := s.size) (by simp), List.take_append_drop]
theorem part_next {t p s : ByteArray} (h : p ++ s = t) (k : Nat) : (p ++ s.extract 0 k) ++ s.extract k s.size = t := by
  rw [ByteArray.append_assoc, extract_join s k, h]
set_option maxHeartbeats 4000000 in
set_option maxRecDepth 100000 in
theorem hashTop (w : World) (a0 : Option Addr) (len0 cap0 : Nat) (z0 : List Int) (w0 : IsRow .u8 w a0 len0 cap0 z0) (a1 : Option Addr) (len1 cap1 : Nat) (z1 : List Int) (w1' : IsRow .u8 w a1 len1 cap1 z1) (hk : Keys w) :
    Calls Tryd.prog 4 #[.slice a0 len0 cap0, .slice a1 len1 cap1] w fun e w' => e = .returned (.bool true) ∧ Below w.heap.size w w' := by
  have hl0 := w0.len_le
  have hl1 := w1'.len_le
  unfold maxLen at hl0 hl1
  obtain ⟨hc0, hk0⟩ := w0.code
  obtain ⟨hc1, hk1⟩ := w1'.code
  have hkp := hk.pos
  have HK : Hid (Keys w) := hk
  clear w0 w1' hk
  by_cases h0 : 1048576 < len0
  · clear hc0 hk0 hc1 hk1
    go_enter Tryd.func4, Tryd.ntmps4
    go_wp2
    go_ret
    exact ⟨rfl, Below.refl _ _⟩
  by_cases h1 : 1048576 < len1
  · clear hc0 hk0 hc1 hk1
    go_enter Tryd.func4, Tryd.ntmps4
    go_wp2
    go_ret
    exact ⟨rfl, Below.refl _ _⟩
  have C0 : Hid (CodeAt a0 len0 w) := hc0
  have K0 : Hid (∀ x, 0 < len0 → a0 = some x → x.block < w.heap.size) := hk0
  have C1 : Hid (CodeAt a1 len1 w) := hc1
  have K1 : Hid (∀ x, 0 < len1 → a1 = some x → x.block < w.heap.size) := hk1
  clear hc0 hk0 hc1 hk1
  go_enter Tryd.func4, Tryd.ntmps4
  go_wp2_with fail
  refine (drawDigest a0 len0 cap0 _ (by omega) C0.out K0.out).mono ?_
  rintro e w1 ⟨⟨t, ht, rfl⟩, hb1⟩
  have B1 : Hid (Below w.heap.size w w1) := hb1
  have s1 := hb1.size
  clear hb1
  go_wp2_with fail
  refine (implDigest t _ (by omega) (HK.out.below B1.out hkp)).mono ?_
  rintro e w2 ⟨rfl, hb2⟩
  have B2 : Hid (Below w.heap.size w w2) := B1.out.trans (hb2.mono s1)
  have s2 := B2.out.size
  have hds := digOf_size t
  generalize hd : digOf t = d at *
  have HD : Hid (digOf t = d) := hd
  clear hb2
  go_wp2_with fail
  refine (specDigest t _ (by omega)).mono ?_
  rintro e w3 ⟨rfl, hb3⟩
  rw [hd]
  have B3 : Hid (Below w.heap.size w w3) := B2.out.trans (hb3.mono s2)
  have s3 := B3.out.size
  clear hb3 hd
  go_wp2_with fail
  refine (beginAt _).mono ?_
  rintro e w4 ⟨g, rfl, hg, hr, hb4⟩
  have B4 : Hid (Below w.heap.size w w4) := B3.out.trans (hb4.mono s3)
  have s4 := B4.out.size
  have HR4 : Hid (Took w4 g ByteArray.empty) := hr
  have hgl : g < w4.heap.size := heap_lt hr
  clear hb4 hr
  unfold hashV
  go_wp2_with fail
  have HC5 : Hid (∀ o, Took (w4.alloc o) g ByteArray.empty) := fun o => HR4.out.below ((Below.refl _ w4).alloc (Nat.le_refl _) o) (Nat.le_refl _)
  have HKW : Hid (∀ W, Below w.heap.size w W → Keys W ∧ CodeAt a1 len1 W) := fun W hW => ⟨HK.out.below hW hkp, C1.out.below hW K1.out⟩
  clear C0 K0 C1 K1 HK HR4 B1 B2 B3
  go_loopw [8, 9] (fun l i wr => ∃ (j q : Nat) (p s : ByteArray), j ≤ 5 ∧ l = .string s ∧ i = .int .i64 (j : Int) ∧ Hid (p ++ s = t) ∧ q ≠ w4.heap.size ∧ Hid (wr.heap[w4.heap.size]? = some (hashR (some ⟨q, 0, none⟩) (restOf p) (p.size : Int))) ∧ Hid (Took wr q p) ∧ Hid (Below w.heap.size w wr) ∧ w4.heap.size < wr.heap.size)
    (fun _ i _ => 5 - (intOf i).toNat)
  case atStart => exact ⟨0, g, ByteArray.empty, t, Nat.zero_le _, rfl, rfl, empty_append t, by omega, heap_alloc_new w4 _, HC5.out _, B4.out.alloc s4 _, by simp⟩
  case round =>
    clear HC5 hgl hg B4
    obtain ⟨j, q, p, s, hj, rfl, rfl, hps, hqn, hrow, htook, hbel, hH⟩ := hrel
    have hsz : p.size + s.size = t.size := by rw [← size_append, hps.out]
    obtain ⟨c0, c1, c2⟩ : wr.cell? ⟨w4.heap.size, 0, none⟩ = some (.slice (some ⟨q, 0, none⟩) 8 8) ∧ wr.cell? ⟨w4.heap.size, 1, none⟩ = some (.string (restOf p)) ∧ wr.cell? ⟨w4.heap.size, 2, none⟩ = some (.int .i64 (p.size : Int)) := ⟨rowFacts hrow.out 0 _ rfl, rowFacts hrow.out 1 _ rfl, rowFacts hrow.out 2 _ rfl⟩
    by_cases hlt : j < 5
    · obtain ⟨hkw, hcw⟩ := HKW.out wr hbel.out
      have HKw : Hid (Keys wr) := hkw
      have HCw : Hid (CodeAt a1 len1 wr) := hcw
      clear hkw hcw
      go_wp2_with fail
      have hcall := lwAt a1 len1 cap1 j (s.size + 1) wr (by omega) (by omega) HCw.out
      rw [show ((s.size + 1 : Nat) : Int) = (s.size : Int) + 1 from rfl] at hcall
      refine hcall.mono ?_
      clear hcall
      rintro e w' ⟨⟨k, hk, rfl⟩, rfl⟩
      have hk' : k ≤ s.size := by omega
      have hx : (s.extract 0 k).size ≤ 20000 := by rw [ByteArray.size_extract]; omega
      have HT : Hid (Calls Tryd.prog 18 #[hashV (some ⟨q, 0, none⟩) 8 8 (restOf p) (p.size : Int), .string (s.extract 0 k)] w'.drew fun e W => ∃ g2, e = .returned (hashV (some ⟨g2, 0, none⟩) 8 8 (restOf (p ++ s.extract 0 k)) ((p ++ s.extract 0 k).size : Int)) ∧ Hid (w'.heap.size ≤ g2 ∧ Took W g2 (p ++ s.extract 0 k) ∧ Below w'.heap.size w' W) ∧ W.cell? ⟨w4.heap.size, 0, none⟩ = some (.slice (some ⟨q, 0, none⟩) 8 8) ∧ W.cell? ⟨w4.heap.size, 1, none⟩ = some (.string (restOf p)) ∧ W.cell? ⟨w4.heap.size, 2, none⟩ = some (.int .i64 (p.size : Int)) ∧ W.frozen? ⟨w4.heap.size, 0, none⟩ = false ∧ W.frozen? ⟨w4.heap.size, 1, none⟩ = false ∧ W.frozen? ⟨w4.heap.size, 2, none⟩ = false) := by
        show Calls _ _ _ _ _
        refine (moreAt q p (s.extract 0 k) w'.drew (by omega) hx htook.out HKw.out).mono ?_
        rintro e W ⟨g2, rfl, hg2, ht2, hbW⟩
        have hbW' : Below w'.heap.size w' W := (Below.refl _ w').drew.trans hbW
        have hrW : W.heap[w4.heap.size]? = some (hashR (some ⟨q, 0, none⟩) (restOf p) (p.size : Int)) := by rw [hbW'.block _ hH]; exact hrow.out
        exact ⟨g2, rfl, ⟨hg2, ht2, hbW'⟩, rowFacts hrW 0 _ rfl, rowFacts hrW 1 _ rfl, rowFacts hrW 2 _ rfl, frozen_of_row W _ 0 _ _ hrW, frozen_of_row W _ 1 _ _ hrW, frozen_of_row W _ 2 _ _ hrW⟩
      have HP2 : Hid ((p ++ s.extract 0 k) ++ s.extract k s.size = t) := part_next hps.out k
      have hz2 : (p ++ s.extract 0 k).size ≤ 200 := by rw [size_append, ByteArray.size_extract]; omega
      have q1 : (0 : Int) ≤ (k : Int) := by omega
      have q2 : (k : Int) ≤ (s.size : Int) := by omega
      generalize hpp : p ++ s.extract 0 k = p2 at *
      clear hk hpp hx
      go_wp2_with fail
      go_region_with (first | (go_at_call 18; refine HT.out.mono ?_; rintro e W ⟨g2, rfl, kk, d0, d1, d2, f0, f1, f2⟩))
      all_goals
        obtain ⟨k1, k2, k3⟩ := kk.out
        have hrW : W.heap[w4.heap.size]? = some (hashR (some ⟨q, 0, none⟩) (restOf p) (p.size : Int)) := by rw [k3.block _ hH]; exact hrow.out
        have hne : g2 ≠ w4.heap.size := by omega
        generalize hW2 : ((W.setCell ⟨w4.heap.size, 0, none⟩ (.slice (some ⟨g2, 0, none⟩) 8 8)).setCell ⟨w4.heap.size, 1, none⟩ (.string (restOf p2))).setCell ⟨w4.heap.size, 2, none⟩ (.int .i64 (p2.size : Int)) = W2
        have hr2 : W2.heap[w4.heap.size]? = some (hashR (some ⟨g2, 0, none⟩) (restOf p2) (p2.size : Int)) := by rw [← hW2]; exact row3 hrW _ _ _
        have ht2 : Took W2 g2 p2 := by
          unfold Took
          rw [← hW2, heap_setCell_other _ _ _ _ hne, heap_setCell_other _ _ _ _ hne, heap_setCell_other _ _ _ _ hne]; exact k2
        have hb2 : Below w.heap.size w W2 := by
          rw [← hW2]
          exact (((hbel.out.trans (k3.mono hbel.out.size)).setCell (p := ⟨w4.heap.size, 0, none⟩) s4 _).setCell (p := ⟨w4.heap.size, 1, none⟩) s4 _).setCell (p := ⟨w4.heap.size, 2, none⟩) s4 _
        have hH2 : w4.heap.size < W2.heap.size := heap_lt hr2
        have HR2 : Hid _ := hr2
        have HT2 : Hid (Took W2 g2 p2) := ht2
        have HB2 : Hid (Below w.heap.size w W2) := hb2
        clear kk k1 k2 k3 d0 d1 d2 f0 f1 f2 c0 c1 c2 hrW hW2 hr2 ht2 hb2 HT hps hrow htook hbel hqn HKw HCw
        obtain ⟨c0, c1, c2⟩ : W2.cell? ⟨w4.heap.size, 0, none⟩ = some (.slice (some ⟨g2, 0, none⟩) 8 8) ∧ W2.cell? ⟨w4.heap.size, 1, none⟩ = some (.string (restOf p2)) ∧ W2.cell? ⟨w4.heap.size, 2, none⟩ = some (.int .i64 (p2.size : Int)) := ⟨rowFacts HR2.out 0 _ rfl, rowFacts HR2.out 1 _ rfl, rowFacts HR2.out 2 _ rfl⟩
        go_wp2_with fail
        refine (rightAt g2 p2 W2 (by omega) HT2.out).mono ?_
        rintro e W3 ⟨rfl, hb3⟩
        have HR3 : Hid (W3.heap[w4.heap.size]? = some (hashR (some ⟨g2, 0, none⟩) (restOf p2) (p2.size : Int))) := by show _ = _; rw [hb3.block _ hH2]; exact HR2.out
        have HT3 : Hid (Took W3 g2 p2) := HT2.out.below hb3 (Nat.le_refl _)
        have HB3 : Hid (Below w.heap.size w W3) := HB2.out.trans (hb3.mono HB2.out.size)
        have hH3 : w4.heap.size < W3.heap.size := by have := hb3.size; omega
        clear hb3 c0 c1 c2
        go_wp2
        go_roundw
        case rel => exact ⟨j + 1, g2, p2, s.extract k s.size, by omega, rfl, by go_num, HP2, hne, HR3, HT3, HB3, hH3⟩
        case measure => simp [intOf]; omega
    · obtain ⟨hkw, _⟩ := HKW.out wr hbel.out
      have HKw : Hid (Keys wr) := hkw
      clear hkw
      go_wp2_with fail
      refine (moreAt q p s wr (by omega) (by omega) htook.out HKw.out).mono ?_
      rintro e W ⟨g2, rfl, hg2, ht2, hbW⟩
      rw [hps.out] at ht2 ⊢
      have hrW : W.heap[w4.heap.size]? = some (hashR (some ⟨q, 0, none⟩) (restOf p) (p.size : Int)) := by rw [hbW.block _ hH]; exact hrow.out
      have d0 := rowFacts hrW 0 _ rfl
      have d1 := rowFacts hrW 1 _ rfl
      have d2 := rowFacts hrW 2 _ rfl
      have f0 := frozen_of_row W _ 0 _ _ hrW
      have f1 := frozen_of_row W _ 1 _ _ hrW
      have f2 := frozen_of_row W _ 2 _ _ hrW
      have hne : g2 ≠ w4.heap.size := by omega
      have HRW : Hid _ := hrW
      have HTW : Hid (Took W g2 t) := ht2
      have HBW : Hid (Below w.heap.size w W) := hbel.out.trans (hbW.mono hbel.out.size)
      clear hrW ht2 hbW c0 c1 c2 hps hrow htook hbel hqn HKw hg2
      go_wp2_with fail
      generalize hW2 : ((W.setCell ⟨w4.heap.size, 0, none⟩ (.slice (some ⟨g2, 0, none⟩) 8 8)).setCell ⟨w4.heap.size, 1, none⟩ (.string (restOf t))).setCell ⟨w4.heap.size, 2, none⟩ (.int .i64 (t.size : Int)) = W2
      have hr2 : W2.heap[w4.heap.size]? = some (hashR (some ⟨g2, 0, none⟩) (restOf t) (t.size : Int)) := by rw [← hW2]; exact row3 HRW.out _ _ _
      have ht2 : Took W2 g2 t := by
        unfold Took
        rw [← hW2, heap_setCell_other _ _ _ _ hne, heap_setCell_other _ _ _ _ hne, heap_setCell_other _ _ _ _ hne]; exact HTW.out
      have hb2 : Below w.heap.size w W2 := by
        rw [← hW2]
        exact ((HBW.out.setCell (p := ⟨w4.heap.size, 0, none⟩) s4 _).setCell (p := ⟨w4.heap.size, 1, none⟩) s4 _).setCell (p := ⟨w4.heap.size, 2, none⟩) s4 _
      have HSTEP : Hid (∀ V V' : World, Hid (V.heap[w4.heap.size]? = some (hashR (some ⟨g2, 0, none⟩) (restOf t) (t.size : Int)) ∧ Below w.heap.size w V) → Below V.heap.size V V' → Hid (V'.heap[w4.heap.size]? = some (hashR (some ⟨g2, 0, none⟩) (restOf t) (t.size : Int)) ∧ Below w.heap.size w V') ∧ V'.cell? ⟨w4.heap.size, 0, none⟩ = some (.slice (some ⟨g2, 0, none⟩) 8 8) ∧ V'.cell? ⟨w4.heap.size, 1, none⟩ = some (.string (restOf t)) ∧ V'.cell? ⟨w4.heap.size, 2, none⟩ = some (.int .i64 (t.size : Int))) := fun V V' hV hb => by
        obtain ⟨v1, v2⟩ := hV.out
        have hrV : V'.heap[w4.heap.size]? = some (hashR (some ⟨g2, 0, none⟩) (restOf t) (t.size : Int)) := by rw [hb.block _ (heap_lt v1)]; exact v1
        exact ⟨⟨hrV, v2.trans (hb.mono v2.size)⟩, rowFacts hrV 0 _ rfl, rowFacts hrV 1 _ rfl, rowFacts hrV 2 _ rfl⟩
      have HE : Hid (Calls Tryd.prog 20 #[hashV (some ⟨g2, 0, none⟩) 8 8 (restOf t) (t.size : Int)] W2.drew fun e V' => e = .returned (.string d) ∧ Hid (V'.heap[w4.heap.size]? = some (hashR (some ⟨g2, 0, none⟩) (restOf t) (t.size : Int)) ∧ Below w.heap.size w V') ∧ V'.cell? ⟨w4.heap.size, 0, none⟩ = some (.slice (some ⟨g2, 0, none⟩) 8 8) ∧ V'.cell? ⟨w4.heap.size, 1, none⟩ = some (.string (restOf t)) ∧ V'.cell? ⟨w4.heap.size, 2, none⟩ = some (.int .i64 (t.size : Int))) := by
        show Calls _ _ _ _ _
        refine (endAt g2 t W2.drew (by omega) ht2 (HKW.out W2 hb2).1).mono ?_
        rintro e V' ⟨rfl, hb⟩
        exact ⟨by rw [HD.out], HSTEP.out W2.drew V' ⟨hr2, hb2.drew⟩ hb⟩
      have HS : Hid (∀ V : World, Hid (V.heap[w4.heap.size]? = some (hashR (some ⟨g2, 0, none⟩) (restOf t) (t.size : Int)) ∧ Below w.heap.size w V) → Calls Tryd.prog 21 #[.string t] V fun e V' => e = .returned (.string (shortS d)) ∧ Hid (V'.heap[w4.heap.size]? = some (hashR (some ⟨g2, 0, none⟩) (restOf t) (t.size : Int)) ∧ Below w.heap.size w V') ∧ V'.cell? ⟨w4.heap.size, 0, none⟩ = some (.slice (some ⟨g2, 0, none⟩) 8 8) ∧ V'.cell? ⟨w4.heap.size, 1, none⟩ = some (.string (restOf t)) ∧ V'.cell? ⟨w4.heap.size, 2, none⟩ = some (.int .i64 (t.size : Int))) := fun V hV => by
        refine (implShort t V (by omega) (HKW.out V hV.out.2).1).mono ?_
        rintro e V' ⟨rfl, hb⟩
        exact ⟨by rw [HD.out], HSTEP.out V V' hV hb⟩
      have HX : Hid (∀ V : World, Hid (V.heap[w4.heap.size]? = some (hashR (some ⟨g2, 0, none⟩) (restOf t) (t.size : Int)) ∧ Below w.heap.size w V) → Calls Tryd.prog 22 #[.string (d.extract 0 4)] V fun e V' => e = .returned (.string (shortS d)) ∧ Hid (V'.heap[w4.heap.size]? = some (hashR (some ⟨g2, 0, none⟩) (restOf t) (t.size : Int)) ∧ Below w.heap.size w V') ∧ V'.cell? ⟨w4.heap.size, 0, none⟩ = some (.slice (some ⟨g2, 0, none⟩) 8 8) ∧ V'.cell? ⟨w4.heap.size, 1, none⟩ = some (.string (restOf t)) ∧ V'.cell? ⟨w4.heap.size, 2, none⟩ = some (.int .i64 (t.size : Int))) := fun V hV => by
        refine (implHex (d.extract 0 4) V (by rw [ByteArray.size_extract]; omega)).mono ?_
        rintro e V' ⟨rfl, hb⟩
        exact ⟨by rw [shortS_eq], HSTEP.out V V' hV hb⟩
      obtain ⟨c0, c1, c2⟩ : W2.cell? ⟨w4.heap.size, 0, none⟩ = some (.slice (some ⟨g2, 0, none⟩) 8 8) ∧ W2.cell? ⟨w4.heap.size, 1, none⟩ = some (.string (restOf t)) ∧ W2.cell? ⟨w4.heap.size, 2, none⟩ = some (.int .i64 (t.size : Int)) := ⟨rowFacts hr2 0 _ rfl, rowFacts hr2 1 _ rfl, rowFacts hr2 2 _ rfl⟩
      have u1 : (d.size : Int) = 32 := by omega
      generalize shortS d = sd at *
      clear hW2 hr2 ht2 hb2 HRW HTW HBW d0 d1 d2 f0 f1 f2 HD HKW HSTEP
      go_region_held3 (fun V => V.cell? ⟨w4.heap.size, 0, none⟩ = some (.slice (some ⟨g2, 0, none⟩) 8 8) ∧ V.cell? ⟨w4.heap.size, 1, none⟩ = some (.string (restOf t)) ∧ V.cell? ⟨w4.heap.size, 2, none⟩ = some (.int .i64 (t.size : Int))) (first | exact ⟨m0, m1, m2⟩ | exact ⟨n0, n1, n2⟩ | exact ⟨x0, x1, x2⟩ | go_keep)
        (first | (go_at_call 20; refine HE.out.mono ?_; rintro e V1 ⟨rfl, kk1, m0, m1, m2⟩) | (go_at_call 21; refine (HS.out _ (by assumption)).mono ?_; rintro e V2 ⟨rfl, kk2, n0, n1, n2⟩) | (go_at_call 22; refine (HX.out _ (by assumption)).mono ?_; rintro e V3 ⟨rfl, kk3, x0, x1, x2⟩))
      all_goals
        go_wp2
        go_ret
        exact ⟨rfl, kk3.out.2⟩
namespace fnHashDone
open Go.ChangeShapes Go.WideShapes Go.ChangeAt Go.RowKit
open Go.ChangeMaps (open_string shut_string)
theorem own : ownKnob Tryd.prog.godebug = none := by kernel_rfl
theorem laidOut : laidOutB Tryd.prog = true := by kernel_rfl
set_option linter.unusedVariables false
theorem laid_met (os : Os) (args : Array Value) : laidMetH Tryd.prog Rows.fnHashRow.laid ((World.doorLaid Tryd.prog 400 os).forCall (fun _ _ => 0) ⟨#[], args, []⟩).memory :=
  laidMetH_of_parts3 (fuel := 8) (laidMet_of_run' 8 (by kernel_rfl) (by kernel_rfl)) (by kernel_rfl) (by kernel_rfl)
set_option maxRecDepth 100000 in
theorem lifted (os : Os) (started : os.Started) (H : Type) (enc : TypeId × Value → H) :
    ReturnsInHanded {} Tryd.checked os 4 .any (fun w args => (Rows.fnHashSpec.pre enc Tryd.prog Tryd.f4 [] false w args ∧ laidMetH Tryd.prog Rows.fnHashRow.laid w) ∧ sizedMet enc Tryd.prog Tryd.f4 (OpenSpec.ofChange Rows.fnHashSpec) false w args)
      (Rows.fnHashSpec.post enc Tryd.prog Tryd.f4 false true false false) := by
  refine returnsInHanded_of_change_and (C := Tryd.checked) (X := fun w _ => laidMetH Tryd.prog Rows.fnHashRow.laid w) (fun _ _ _ hh h => h.of_heap hh) own started (by kernel_rfl) Tryd.func4
    (ChangeSpec.witness_shaped (enc := enc) (C := Tryd.checked) (os := os) (X := fun w _ => laidMetH Tryd.prog Rows.fnHashRow.laid w) false (World.doorLaid Tryd.prog 400 os) #[.slice none 0 0, .slice none 0 0] 8 rfl (World.shaped_of_RefB (by kernel_rfl) (by kernel_rfl)) (by kernel_rfl) (by kernel_rfl) (by kernel_rfl) (laid_met os _)) ?_
  intro W base args ds gs before hval0 hW _ _ hL _
  have hval : ∀ (j : Nat) t v, Tryd.f4.params[j]? = some t → args[j]? = some v → Value.okWide Tryd.prog W .any base t v := hval0
  have hW' := hW
  obtain ⟨p, q, hA0, hV, rfl, hfz, hnd⟩ := hW
  have hV0 := hV
  obtain ⟨_, _, _, _, dv, _, rfl, _⟩ := trodVars_one hV
  have hA : DataW.TrodAll enc Tryd.prog W 0 (fun _ => true) true Tryd.f4.params.toList args.toList ds p := hA0
  rw [Tryd.params4] at hA hval
  obtain ⟨v0, vs0, d0, ds0, p0, q0, hargs, rfl, rfl, h0, r0⟩ := trodAll_cons hA
  obtain ⟨v1, vs1, d1, ds1, p1, q1, rfl, rfl, rfl, h1, r1⟩ := trodAll_cons r0
  obtain ⟨rfl, rfl, rfl⟩ := trodAll_nil r1
  obtain rfl : args = #[v0, v1] := by cases args; simp_all
  obtain ⟨a0, len0, cap0, rfl⟩ := okWide_slice Tryd.underlying22 (hval 0 22 v0 rfl rfl)
  have k0 := h0
  have lt0 : ∀ x ∈ p0, x.block < W.heap.size := by obtain ⟨m, hm⟩ := k0; exact DataW.trod_lt m _ _ _ hm
  obtain ⟨z0, w0⟩ : ∃ zs, IsRow .u8 W a0 len0 cap0 zs := by
    obtain ⟨fuel, hf⟩ := h0
    rcases open_ints Tryd.underlying22 Tryd.underlying5 (by kernel_rfl) hf with ⟨hcs, _⟩ | ⟨x, l, c, zs, hcs, _, hl, hm, hz, _, hcell, hwz⟩
    · simp [Value.cells] at hcs
      obtain ⟨rfl, rfl, rfl⟩ := hcs
      exact ⟨[], .inl ⟨rfl, rfl, rfl, rfl⟩⟩
    · simp [Value.cells] at hcs
      obtain ⟨rfl, rfl, rfl⟩ := hcs
      exact ⟨zs, .inr ⟨_, rfl, hl, hm, by simpa using hz, hcell, hwz⟩⟩
  obtain ⟨a1, len1, cap1, rfl⟩ := okWide_slice Tryd.underlying22 (hval 1 22 v1 rfl rfl)
  have k1 := h1
  have lt1 : ∀ x ∈ p1, x.block < W.heap.size := by obtain ⟨m, hm⟩ := k1; exact DataW.trod_lt m _ _ _ hm
  obtain ⟨z1, w1⟩ : ∃ zs, IsRow .u8 W a1 len1 cap1 zs := by
    obtain ⟨fuel, hf⟩ := h1
    rcases open_ints Tryd.underlying22 Tryd.underlying5 (by kernel_rfl) hf with ⟨hcs, _⟩ | ⟨x, l, c, zs, hcs, _, hl, hm, hz, _, hcell, hwz⟩
    · simp [Value.cells] at hcs
      obtain ⟨rfl, rfl, rfl⟩ := hcs
      exact ⟨[], .inl ⟨rfl, rfl, rfl, rfl⟩⟩
    · simp [Value.cells] at hcs
      obtain ⟨rfl, rfl, rfl⟩ := hcs
      exact ⟨zs, .inr ⟨_, rfl, hl, hm, by simpa using hz, hcell, hwz⟩⟩
  clear hA0 hval0
  refine (hashTop W a0 len0 cap0 z0 w0 a1 len1 cap1 z1 w1 (keys_of_laid hL)).mono fun e W' ⟨he, bel⟩ => ?_
  subst he
  exact ⟨_, rfl, _, _, _, [], _, _, hW', trodAll_mk1 (shut_bool Tryd.underlying4 _), (trodAll_cons_mk (Below.trod laidOut (by kernel_rfl) (of_decide_eq_true (by kernel_rfl)) k0 bel lt0) (trodAll_cons_mk (Below.trod laidOut (by kernel_rfl) (of_decide_eq_true (by kernel_rfl)) k1 bel lt1) trodAll_mk0)), bel.trodVars laidOut (by kernel_rfl) hV0, bel.frame _, fun h => by cases h⟩
theorem said : Rows.FnHashSaid :=
  OpenClaim.holds_of_wide 4 Tryd.f4 rfl rfl rfl rfl rfl rfl rfl ⟨rfl, rfl, rfl, rfl, rfl⟩ rfl rfl rfl rfl rfl (by kernel_rfl) Tryd.func4 (by kernel_rfl)
    (of_decide_eq_true (by kernel_rfl)) (by unfold Func.isWrapper; first | (rw [if_pos (by decide +kernel)]; kernel_rfl) | (rw [if_neg (by decide +kernel)]; exact ⟨rfl, rfl⟩))
    (fun os started H enc _ => lifted os started H enc)
theorem plain (f : FuncId) (fn : Func) (hf : Tryd.pinned.checked.prog.funcNamed "loop.example/g00371/laws.FnHash" = some f) (hfn : Tryd.pinned.checked.prog.funcs[f]? = some fn) :
    true = Tryd.pinned.checked.prog.looks [] ∧ ∀ (j : Nat) t, fn.params[j]? = some t → Tryd.pinned.checked.prog.wantsStandIn t = false := by
  obtain rfl : f = 4 := Option.some.inj ((show Tryd.prog.funcNamed "loop.example/g00371/laws.FnHash" = some 4 by kernel_rfl).symm.trans hf) |>.symm
  obtain rfl : fn = Tryd.f4 := (Option.some.inj (Tryd.func4.symm.trans hfn)).symm
  refine ⟨by kernel_rfl, fun j t ht => ?_⟩
  rw [Tryd.params4] at ht
  have hm : t = 22 := by simpa using Array.mem_of_getElem? ht
  rcases hm with rfl <;> (show _ = _; kernel_rfl)
end fnHashDone
theorem fnHash_card : Rows.FnHashCardSaid :=
  Claim7.holds_tied_plain_at .later [] _ _ _ _ fnHashDone.said (fun _ h => by cases h) (by kernel_rfl) (fun _ h => by cases h) fnHash_row_tie rfl ⟨rfl, rfl⟩ (by kernel_rfl) rfl fnHashDone.plain (by kernel_rfl)
#print axioms fnHash_card
end Go.Proofs.YtbkkjgpaccfplaaDoor
