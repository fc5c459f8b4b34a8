/- FnExactHashMore, its tied card: at every Hash and text HashMore answers as the specification's; it does not write into the Hash, keeps nothing of it, and its answer owns its memory. The listed table is tied to the program's text; no other condition. -/
import Derived.Test.YtbkkjgpaccfplaeDoorHashK
import Derived.Test.YtbkkjgpaccfplaeDoorTabLaid
import Derived.Test.YtbkkjgpaccfplaeDoorCards
import Derived.Test.YtbkkjgpaccfplaeDoorTie
import Derived.SevenTiedAt
import Derived.Test.YtbkkjgpaccfplaeDoorIsRowI
import Derived.ProofKit
import Derived.OpenShut
import Derived.ShutString
import Derived.ChangeOld
import Derived.Below
import Derived.Lib.SmallJoins
namespace Go.Proofs.YtbkkjgpaccfplaeDoor
open Go.RowKit
set_option maxHeartbeats 4000000 in
set_option maxRecDepth 100000 in
theorem hashMoreWalk (w : World) (a0 : Option Addr) (len0 cap0 : Nat) (z0 : List Int) (w0 : IsRow .i64 w a0 len0 cap0 z0) (s0 : ByteArray) (ws0 : s0.size ≤ maxLen) (i0 : Int) (wi0 : (Lit.int .i64 i0).wf = true) (a1 : ByteArray) (w1' : a1.size ≤ maxLen) (hk : Keys w) :
    Calls Tryd.prog 3 #[.agg #[.slice a0 len0 cap0, .string s0, .int .i64 i0], .string a1] w fun e w' => e = .returned (.bool true) ∧ Below w.heap.size w w' := by
  obtain ⟨b0, b1⟩ := bounds_i64 wi0
  have HK : Hid (Keys w) := hk
  have hkp := hk.pos
  clear hk
  have hlm := w0.len_le
  obtain ⟨zs, rfl, hints, _⟩ := w0.ints
  have ws1 := ws0
  have hlm1 := hlm
  have HM1 : Hid (a1.size ≤ maxLen) := w1'
  unfold maxLen at hlm ws0 w1'
  have hA : Below w.heap.size w (w.alloc (.cells #[.slice a0 zs.length cap0, .string s0, .int .i64 i0] 24 (0, 0))) := (Below.refl _ w).alloc (Nat.le_refl _) _
  by_cases hbig : 1048576 < a1.size
  · go_enter Tryd.func3, Tryd.ntmps3
    go_wp2
    go_ret
    exact ⟨rfl, hA⟩
  go_enter Tryd.func3, Tryd.ntmps3
  go_wp2_with fail
  refine (szHash a0 zs.length cap0 s0 i0 _ _ hlm1 ws1 rfl).mono ?_
  rintro e w1 ⟨x, rfl, hx, hx0, hx1, hb1⟩
  by_cases hneg : x < 0
  · go_wp2
    go_ret
    exact ⟨rfl, hA.trans (hb1.mono (by simp))⟩
  have hlz : zs.length ≤ 1048576 := by omega
  have hsz : s0.size ≤ 1048576 := by omega
  have hs1 : w.heap.size + 1 ≤ w1.heap.size := by have := hb1.size; simpa using this
  have HB1 : Hid (Below w.heap.size w w1) := hA.trans (hb1.mono (by simp))
  have HH1 : Hid (Has w1 [(w.heap.size, hashO 24 a0 zs.length cap0 s0 i0)]) := (Has.nil _).cons (by rw [hb1.block _ (by simp)]; exact heap_alloc_new w _)
  obtain ⟨p0, p1, p2⟩ := hash_cells HH1.out.head
  have HI : Hid (IsInts w a0 zs) := hints
  clear hx hx0 hx1 hb1 hA hints w0 hlm hlm1 ws0 ws1 wi0 w1'
  -- the specification's answer
  go_wp2_with fail
  refine (toHash a0 zs cap0 s0 i0 _ hlz (HI.out.below HB1.out HI.out.lt)).mono ?_
  rintro e w2 ⟨g1, rfl, hg1, hr1, hb2⟩
  have HB2 : Hid (Below w.heap.size w w2) := HB1.out.trans (hb2.mono HB1.out.size)
  have HH2 : Hid (Has w2 [(w.heap.size, hashO 24 a0 zs.length cap0 s0 i0)]) := HH1.out.below hb2 (Nat.le_refl _)
  have hI1 : IsInts w2 (some ⟨g1, 0, none⟩) zs := .row (rest := []) (by simpa using hr1)
  have s2 := hb2.size
  clear hr1 hb2 p0 p1 p2
  unfold hashV
  go_wp2_with fail
  refine (specMoreAny g1 zs zs.length s0 a1 i0 _ HM1.out hlz hsz b0 b1 hI1).mono ?_
  rintro e w3 ⟨qa, ca, rfl, hoa, hb3⟩
  have HB3 : Hid (Below w.heap.size w w3) := HB2.out.trans (hb3.mono HB2.out.size)
  have HH3 : Hid (Has w3 [(w.heap.size, hashO 24 a0 zs.length cap0 s0 i0)]) := HH2.out.below hb3 (Nat.le_refl _)
  have HLA : Hid (∀ g, qa = some ⟨g, 0, none⟩ → g < w3.heap.size) := fun g e => hoa.lt e
  have HA3 : Hid (OwnI w3 w2.heap.size qa (moreS zs s0 a1 i0)) := hoa
  have s3 := hb3.size
  have hSl := moreS_len (zs := zs) (r := s0) (text := a1) (z := i0) hlz
  have HIM : Hid (∀ g W, IsInts W (some ⟨g, 0, none⟩) zs → Keys W → Calls Tryd.prog 9 #[hashV (some ⟨g, 0, none⟩) zs.length zs.length s0 i0, .string a1] W fun e w' => ∃ q cq, e = .returned (hashV q (moreS zs s0 a1 i0).length cq (moreR zs s0 a1 i0) (moreN zs s0 a1 i0)) ∧ OwnI w' W.heap.size q (moreS zs s0 a1 i0) ∧ Below W.heap.size W w') := fun g W h1 h2 => implMoreAny g zs zs.length s0 a1 i0 W HM1.out hlz hsz b0 b1 h1 h2
  clear hoa hb3 hI1
  generalize moreS zs s0 a1 i0 = S at *
  generalize moreR zs s0 a1 i0 = R at *
  generalize moreN zs s0 a1 i0 = N at *
  unfold hashV
  obtain ⟨p0, p1, p2⟩ := hash_alloc HH3.out.head
  go_wp2_with fail
  generalize hw4 : w3.alloc _ = w4
  have hb4 : Below w3.heap.size w3 w4 := by rw [← hw4]; exact Below.allocOne _ _
  have HB4 : Hid (Below w.heap.size w w4) := HB3.out.trans (hb4.mono HB3.out.size)
  have HH4 : Hid (Has w4 [(w3.heap.size, hashO 26 qa S.length ca R N), (w.heap.size, hashO 24 a0 zs.length cap0 s0 i0)]) := (HH3.out.below hb4 (Nat.le_refl _)).cons (by rw [← hw4]; exact heap_alloc_new w3 _)
  have HA4 : Hid (OwnI w4 w2.heap.size qa S) := HA3.out.below hb4 (Nat.le_refl _)
  have s4 : w4.heap.size = w3.heap.size + 1 := by rw [← hw4]; simp
  clear hw4 hb4 p0 p1 p2
  refine (toHash a0 zs cap0 s0 i0 _ hlz (HI.out.below HB4.out HI.out.lt)).mono ?_
  rintro e w5 ⟨g2, rfl, hg2, hr2, hb5⟩
  have HB5 : Hid (Below w.heap.size w w5) := HB4.out.trans (hb5.mono HB4.out.size)
  have HH5 : Hid (Has w5 [(w3.heap.size, hashO 26 qa S.length ca R N), (w.heap.size, hashO 24 a0 zs.length cap0 s0 i0)]) := HH4.out.below hb5 (Nat.le_refl _)
  have HA5 : Hid (OwnI w5 w2.heap.size qa S) := HA4.out.below hb5 (Nat.le_refl _)
  have HX5 : Hid (OwnI w5 w4.heap.size (some ⟨g2, 0, none⟩) zs) := .inr ⟨g2, [], rfl, hg2, by simpa using hr2⟩
  have hg2l := heap_lt hr2
  have s5 := hb5.size
  clear hr2 hb5
  unfold hashV
  go_wp2_with fail
  generalize hw6 : w5.alloc _ = w6
  have hb6 : Below w5.heap.size w5 w6 := by rw [← hw6]; exact Below.allocOne _ _
  have HB6 : Hid (Below w.heap.size w w6) := HB5.out.trans (hb6.mono HB5.out.size)
  have HH6 : Hid (Has w6 [(w5.heap.size, hashO 26 (some ⟨g2, 0, none⟩) zs.length zs.length s0 i0), (w3.heap.size, hashO 26 qa S.length ca R N), (w.heap.size, hashO 24 a0 zs.length cap0 s0 i0)]) := (HH5.out.below hb6 (Nat.le_refl _)).cons (by rw [← hw6]; exact heap_alloc_new w5 _)
  have HA6 : Hid (OwnI w6 w2.heap.size qa S) := HA5.out.below hb6 (Nat.le_refl _)
  have HX6 : Hid (OwnI w6 w4.heap.size (some ⟨g2, 0, none⟩) zs) := HX5.out.below hb6 (Nat.le_refl _)
  have s6 : w6.heap.size = w5.heap.size + 1 := by rw [← hw6]; simp
  clear hw6 hb6
  refine (HIM.out g2 w6 HX6.out.ints (HK.out.below HB6.out hkp)).mono ?_
  rintro e w7 ⟨qb, cb, rfl, hob, hb7⟩
  have HB7 : Hid (Below w.heap.size w w7) := HB6.out.trans (hb7.mono HB6.out.size)
  have HH7 : Hid (Has w7 [(w5.heap.size, hashO 26 (some ⟨g2, 0, none⟩) zs.length zs.length s0 i0), (w3.heap.size, hashO 26 qa S.length ca R N), (w.heap.size, hashO 24 a0 zs.length cap0 s0 i0)]) := HH6.out.below hb7 (Nat.le_refl _)
  have HA7 : Hid (OwnI w7 w2.heap.size qa S) := HA6.out.below hb7 (Nat.le_refl _)
  have HX7 : Hid (OwnI w7 w4.heap.size (some ⟨g2, 0, none⟩) zs) := HX6.out.below hb7 (Nat.le_refl _)
  have HO7 : Hid (OwnI w7 w6.heap.size qb S) := hob
  have HLB : Hid (∀ g, qb = some ⟨g, 0, none⟩ → w6.heap.size ≤ g ∧ g < w7.heap.size) := fun g e => ⟨hob.ge e, hob.lt e⟩
  have s7 := hb7.size
  clear hob hb7
  unfold hashV
  obtain ⟨p0, p1, p2⟩ := hash_alloc HH7.out.tail.head
  go_wp2_with fail
  generalize hw8 : w7.alloc _ = w8
  have hb8 : Below w7.heap.size w7 w8 := by rw [← hw8]; exact Below.allocOne _ _
  have HB8 : Hid (Below w.heap.size w w8) := HB7.out.trans (hb8.mono HB7.out.size)
  have HH8 : Hid (Has w8 [(w7.heap.size, hashO 26 qb S.length cb R N), (w5.heap.size, hashO 26 (some ⟨g2, 0, none⟩) zs.length zs.length s0 i0), (w3.heap.size, hashO 26 qa S.length ca R N), (w.heap.size, hashO 24 a0 zs.length cap0 s0 i0)]) := (HH7.out.below hb8 (Nat.le_refl _)).cons (by rw [← hw8]; exact heap_alloc_new w7 _)
  have HA8 : Hid (OwnI w8 w2.heap.size qa S) := HA7.out.below hb8 (Nat.le_refl _)
  have HX8 : Hid (OwnI w8 w4.heap.size (some ⟨g2, 0, none⟩) zs) := HX7.out.below hb8 (Nat.le_refl _)
  have HO8 : Hid (OwnI w8 w6.heap.size qb S) := HO7.out.below hb8 (Nat.le_refl _)
  have s8 : w8.heap.size = w7.heap.size + 1 := by rw [← hw8]; simp
  clear hw8 hb8 p0 p1 p2
  refine (eqHash qb qa S cb ca R N w8 (by omega) HO8.out.ints HA8.out.ints).mono ?_
  rintro e w9 ⟨rfl, hb9⟩
  have HB9 : Hid (Below w.heap.size w w9) := HB8.out.trans (hb9.mono HB8.out.size)
  have HH9 : Hid (Has w9 [(w7.heap.size, hashO 26 qb S.length cb R N), (w5.heap.size, hashO 26 (some ⟨g2, 0, none⟩) zs.length zs.length s0 i0), (w3.heap.size, hashO 26 qa S.length ca R N), (w.heap.size, hashO 24 a0 zs.length cap0 s0 i0)]) := HH8.out.below hb9 (Nat.le_refl _)
  have HA9 : Hid (OwnI w9 w2.heap.size qa S) := HA8.out.below hb9 (Nat.le_refl _)
  have HX9 : Hid (OwnI w9 w4.heap.size (some ⟨g2, 0, none⟩) zs) := HX8.out.below hb9 (Nat.le_refl _)
  have HO9 : Hid (OwnI w9 w6.heap.size qb S) := HO8.out.below hb9 (Nat.le_refl _)
  have s9 := hb9.size
  clear hb9
  obtain ⟨p0, p1, p2⟩ := hash_cells HH9.out.tail.tail.tail.head
  obtain ⟨x0, x1, x2⟩ := hash_cells HH9.out.tail.head
  -- the argument was not written: a region that draws its order
  have HT : Hid (Calls Tryd.prog 8 #[hashV a0 zs.length cap0 s0 i0] w9.drew fun e W => ∃ g3, e = .returned (hashV (some ⟨g3, 0, none⟩) zs.length zs.length s0 i0) ∧ Hid (Below w9.heap.size w9 W) ∧ Hid (IsInts W (some ⟨g3, 0, none⟩) zs) ∧
      W.cell? ⟨w5.heap.size, 0, none⟩ = some (.slice (some ⟨g2, 0, none⟩) zs.length zs.length) ∧ W.cell? ⟨w5.heap.size, 1, none⟩ = some (.string s0) ∧ W.cell? ⟨w5.heap.size, 2, none⟩ = some (.int .i64 i0)) := by
    show Calls _ _ _ _ _
    refine (toHash a0 zs cap0 s0 i0 w9.drew hlz (HI.out.below HB9.out.drew HI.out.lt)).mono ?_
    rintro e W ⟨g3, rfl, hg3, hr3, hbW⟩
    have hbW' : Below w9.heap.size w9 W := (Below.refl _ w9).drew.trans hbW
    exact ⟨g3, rfl, hbW', .row (rest := []) (by simpa using hr3), hash_cells (HH9.out.below hbW' (Nat.le_refl _)).tail.head⟩
  have HQ : Hid (∀ W g3, Hid (Below w9.heap.size w9 W) → Hid (IsInts W (some ⟨g3, 0, none⟩) zs) → Calls Tryd.prog 10 #[hashV (some ⟨g2, 0, none⟩) zs.length zs.length s0 i0, hashV (some ⟨g3, 0, none⟩) zs.length zs.length s0 i0] W fun e W' => e = .returned (.bool true) ∧ Hid (Below w9.heap.size w9 W')) := fun W g3 h1 h2 => by
    refine (eqHash (some ⟨g2, 0, none⟩) (some ⟨g3, 0, none⟩) zs zs.length zs.length s0 i0 W (by omega) (HX9.out.below h1.out (Nat.le_refl _)).ints h2.out).mono ?_
    rintro e W' ⟨rfl, hbW⟩
    exact ⟨rfl, h1.out.trans (hbW.mono h1.out.size)⟩
  go_wp2_with fail
  go_region_with (first | (go_at_call 8; refine HT.out.mono ?_; rintro e w10 ⟨g3, rfl, k1, k2, r0, r1, r2⟩) | (go_at_call 10; refine (HQ.out _ _ (by assumption) (by assumption)).mono ?_; rintro e w11 ⟨rfl, k4⟩))
  all_goals
    have HB11 : Hid (Below w.heap.size w w11) := HB9.out.trans (k4.out.mono HB9.out.size)
    have HH11 : Hid (Has w11 [(w7.heap.size, hashO 26 qb S.length cb R N), (w5.heap.size, hashO 26 (some ⟨g2, 0, none⟩) zs.length zs.length s0 i0), (w3.heap.size, hashO 26 qa S.length ca R N), (w.heap.size, hashO 24 a0 zs.length cap0 s0 i0)]) := HH9.out.below k4.out (Nat.le_refl _)
    have HA11 : Hid (OwnI w11 w2.heap.size qa S) := HA9.out.below k4.out (Nat.le_refl _)
    have HX11 : Hid (OwnI w11 w4.heap.size (some ⟨g2, 0, none⟩) zs) := HX9.out.below k4.out (Nat.le_refl _)
    have HO11 : Hid (OwnI w11 w6.heap.size qb S) := HO9.out.below k4.out (Nat.le_refl _)
    have s11 := k4.out.size
    clear k1 k2 k4 r0 r1 r2 p0 p1 p2 x0 x1 x2 HT HQ
    obtain ⟨x0, x1, x2⟩ := hash_cells HH11.out.tail.head
    go_wp2_with fail
    refine (markAny (some ⟨g2, 0, none⟩) zs w4.heap.size zs.length s0 i0 w11 hlz HX11.out).mono ?_
    rintro e w12 ⟨rfl, hmk, hfr, s12, hbm⟩
    have HB12 : Hid (Below w.heap.size w w12) := hbm _ _ (by omega) (by omega) HB11.out
    have HH12 : Hid (Has w12 [(w7.heap.size, hashO 26 qb S.length cb R N), (w5.heap.size, hashO 26 (some ⟨g2, 0, none⟩) zs.length zs.length s0 i0), (w3.heap.size, hashO 26 qa S.length ca R N), (w.heap.size, hashO 24 a0 zs.length cap0 s0 i0)]) := HH11.out.mark hfr (fun p hp e => by
      simp only [Option.some.injEq, Addr.mk.injEq, and_true] at e
      simp only [List.mem_cons, List.not_mem_nil, or_false] at hp
      rcases hp with rfl | rfl | rfl | rfl <;> (simp only at e; omega))
    have HA12 : Hid (OwnI w12 w2.heap.size qa S) := HA11.out.mark hfr (fun g e e' => by
      have := HLA.out g e
      simp only [Option.some.injEq, Addr.mk.injEq, and_true] at e'
      omega)
    have HO12 : Hid (OwnI w12 w6.heap.size qb S) := HO11.out.mark hfr (fun g e e' => by
      have := HLB.out g e
      simp only [Option.some.injEq, Addr.mk.injEq, and_true] at e'
      omega)
    clear hmk hfr hbm x0 x1 x2
    have hk0 : (0 : Int) ≤ 1 + (zs.length : Int) := by omega
    have hk1 : (1 : Int) + (zs.length : Int) ≤ 1048577 := by omega
    obtain ⟨x0, x1, x2⟩ := hash_cells HH12.out.head
    obtain ⟨p0, p1, p2⟩ := hash_cells HH12.out.tail.tail.head
    go_wp2_with fail
    refine (eqHash qb qa S cb ca R N w12 (by omega) HO12.out.ints HA12.out.ints).mono ?_
    rintro e w13 ⟨rfl, hb13⟩
    have HB13 : Hid (Below w.heap.size w w13) := HB12.out.trans (hb13.mono HB12.out.size)
    have HH13 : Hid (Has w13 [(w7.heap.size, hashO 26 qb S.length cb R N), (w5.heap.size, hashO 26 (some ⟨g2, 0, none⟩) zs.length zs.length s0 i0), (w3.heap.size, hashO 26 qa S.length ca R N), (w.heap.size, hashO 24 a0 zs.length cap0 s0 i0)]) := HH12.out.below hb13 (Nat.le_refl _)
    have HA13 : Hid (OwnI w13 w2.heap.size qa S) := HA12.out.below hb13 (Nat.le_refl _)
    have HO13 : Hid (OwnI w13 w6.heap.size qb S) := HO12.out.below hb13 (Nat.le_refl _)
    have s13 := hb13.size
    clear hb13
    clear x0 x1 x2 p0 p1 p2
    obtain ⟨x0, x1, x2⟩ := hash_cells HH13.out.head
    go_wp2_with fail
    refine (markAny qb S w6.heap.size cb R N w13 hSl HO13.out).mono ?_
    rintro e w14 ⟨rfl, hmk, hfr, s14, hbm⟩
    have HB14 : Hid (Below w.heap.size w w14) := hbm _ _ (by omega) (by omega) HB13.out
    have HM14 : Hid (MkI w14 qb S.length) := hmk
    have HH14 : Hid (Has w14 [(w7.heap.size, hashO 26 qb S.length cb R N), (w5.heap.size, hashO 26 (some ⟨g2, 0, none⟩) zs.length zs.length s0 i0), (w3.heap.size, hashO 26 qa S.length ca R N), (w.heap.size, hashO 24 a0 zs.length cap0 s0 i0)]) := HH13.out.mark hfr (fun p hp e => by
      have hq := HLB.out p.1 e
      simp only [List.mem_cons, List.not_mem_nil, or_false] at hp
      rcases hp with rfl | rfl | rfl | rfl <;> (simp only at hq; omega))
    have HA14 : Hid (OwnI w14 w2.heap.size qa S) := HA13.out.mark hfr (fun g e e' => by
      have := HLA.out g e
      have := HLB.out g e'
      omega)
    clear hmk hfr hbm x0 x1 x2
    have hm0 : (0 : Int) ≤ 1 + (S.length : Int) := by omega
    have hm1 : (1 : Int) + (S.length : Int) ≤ 1048577 := by omega
    obtain ⟨x0, x1, x2⟩ := hash_cells HH14.out.head
    go_wp2_with fail
    refine (heldAny qb S.length cb R N w14 hSl HM14.out).mono ?_
    rintro e w15 ⟨rfl, hb15⟩
    have HB15 : Hid (Below w.heap.size w w15) := HB14.out.trans (hb15.mono HB14.out.size)
    have HH15 : Hid (Has w15 [(w7.heap.size, hashO 26 qb S.length cb R N), (w5.heap.size, hashO 26 (some ⟨g2, 0, none⟩) zs.length zs.length s0 i0), (w3.heap.size, hashO 26 qa S.length ca R N), (w.heap.size, hashO 24 a0 zs.length cap0 s0 i0)]) := HH14.out.below hb15 (Nat.le_refl _)
    have HA15 : Hid (OwnI w15 w2.heap.size qa S) := HA14.out.below hb15 (Nat.le_refl _)
    have HM15 : Hid (MkI w15 qb S.length) := HM14.out.below hb15 (Nat.le_refl _)
    have s15 := hb15.size
    clear hb15
    clear x0 x1 x2
    obtain ⟨p0, p1, p2⟩ := hash_cells HH15.out.tail.tail.tail.head
    go_wp2_with fail
    refine (toHash a0 zs cap0 s0 i0 _ hlz (HI.out.below HB15.out HI.out.lt)).mono ?_
    rintro e w16 ⟨g5, rfl, hg5, hr5, hb16⟩
    have hI5 : IsInts w16 (some ⟨g5, 0, none⟩) zs := .row (rest := []) (by simpa using hr5)
    have HB16 : Hid (Below w.heap.size w w16) := HB15.out.trans (hb16.mono HB15.out.size)
    have HH16 : Hid (Has w16 [(w7.heap.size, hashO 26 qb S.length cb R N), (w5.heap.size, hashO 26 (some ⟨g2, 0, none⟩) zs.length zs.length s0 i0), (w3.heap.size, hashO 26 qa S.length ca R N), (w.heap.size, hashO 24 a0 zs.length cap0 s0 i0)]) := HH15.out.below hb16 (Nat.le_refl _)
    have HA16 : Hid (OwnI w16 w2.heap.size qa S) := HA15.out.below hb16 (Nat.le_refl _)
    have HM16 : Hid (MkI w16 qb S.length) := HM15.out.below hb16 (Nat.le_refl _)
    have s16 := hb16.size
    clear hb16
    clear p0 p1 p2 hr5
    unfold hashV
    go_wp2_with fail
    refine (HIM.out g5 w16 hI5 (HK.out.below HB16.out hkp)).mono ?_
    rintro e w17 ⟨qc, cc, rfl, hoc, hb17⟩
    have HB17 : Hid (Below w.heap.size w w17) := HB16.out.trans (hb17.mono HB16.out.size)
    have HH17 : Hid (Has w17 [(w7.heap.size, hashO 26 qb S.length cb R N), (w5.heap.size, hashO 26 (some ⟨g2, 0, none⟩) zs.length zs.length s0 i0), (w3.heap.size, hashO 26 qa S.length ca R N), (w.heap.size, hashO 24 a0 zs.length cap0 s0 i0)]) := HH16.out.below hb17 (Nat.le_refl _)
    have HA17 : Hid (OwnI w17 w2.heap.size qa S) := HA16.out.below hb17 (Nat.le_refl _)
    have HM17 : Hid (MkI w17 qb S.length) := HM16.out.below hb17 (Nat.le_refl _)
    have s17 := hb17.size
    clear hb17
    have HO17 : Hid (OwnI w17 w16.heap.size qc S) := hoc
    clear hoc hI5
    unfold hashV
    obtain ⟨p0, p1, p2⟩ := hash_alloc HH17.out.tail.tail.head
    go_wp2_with fail
    generalize hw18 : w17.alloc _ = w18
    have hb18 : Below w17.heap.size w17 w18 := by rw [← hw18]; exact Below.allocOne _ _
    have HO18 : Hid (OwnI w18 w16.heap.size qc S) := HO17.out.below hb18 (Nat.le_refl _)
    have HB18 : Hid (Below w.heap.size w w18) := HB17.out.trans (hb18.mono HB17.out.size)
    have HH18 : Hid (Has w18 [(w7.heap.size, hashO 26 qb S.length cb R N), (w5.heap.size, hashO 26 (some ⟨g2, 0, none⟩) zs.length zs.length s0 i0), (w3.heap.size, hashO 26 qa S.length ca R N), (w.heap.size, hashO 24 a0 zs.length cap0 s0 i0)]) := HH17.out.below hb18 (Nat.le_refl _)
    have HA18 : Hid (OwnI w18 w2.heap.size qa S) := HA17.out.below hb18 (Nat.le_refl _)
    have HM18 : Hid (MkI w18 qb S.length) := HM17.out.below hb18 (Nat.le_refl _)
    have s18 := hb18.size
    clear hb18
    clear hw18 p0 p1 p2
    refine (eqHash qc qa S cc ca R N w18 (by omega) HO18.out.ints HA18.out.ints).mono ?_
    rintro e w19 ⟨rfl, hb19⟩
    have HB19 : Hid (Below w.heap.size w w19) := HB18.out.trans (hb19.mono HB18.out.size)
    have HH19 : Hid (Has w19 [(w7.heap.size, hashO 26 qb S.length cb R N), (w5.heap.size, hashO 26 (some ⟨g2, 0, none⟩) zs.length zs.length s0 i0), (w3.heap.size, hashO 26 qa S.length ca R N), (w.heap.size, hashO 24 a0 zs.length cap0 s0 i0)]) := HH18.out.below hb19 (Nat.le_refl _)
    have HA19 : Hid (OwnI w19 w2.heap.size qa S) := HA18.out.below hb19 (Nat.le_refl _)
    have HM19 : Hid (MkI w19 qb S.length) := HM18.out.below hb19 (Nat.le_refl _)
    have s19 := hb19.size
    clear hb19
    obtain ⟨x0, x1, x2⟩ := hash_cells HH19.out.head
    go_wp2_with fail
    refine (heldAny qb S.length cb R N w19 hSl HM19.out).mono ?_
    rintro e w20 ⟨rfl, hb20⟩
    have HB20 : Hid (Below w.heap.size w w20) := HB19.out.trans (hb20.mono HB19.out.size)
    clear hb20 x0 x1 x2
    go_wp2
    go_ret
    exact ⟨rfl, HB20.out⟩
namespace fnExactHashMoreDone
open Go.ChangeShapes Go.WideShapes Go.ChangeAt Go.RowKit
open Go.ChangeMaps (open_string shut_string)
theorem own : ownKnob Tryd.prog.godebug = none := by kernel_rfl
theorem laidOut : laidOutB Tryd.prog = true := by kernel_rfl
set_option linter.unusedVariables false
theorem laid_met (os : Os) (args : Array Value) : laidMetH Tryd.prog Rows.fnExactHashMoreRow.laid ((World.doorLaid Tryd.prog 400 os).forCall (fun _ _ => 0) ⟨#[], args, []⟩).memory :=
  laidMetH_of_parts3 (fuel := 8) (laidMet_of_run' 8 (by kernel_rfl) (by kernel_rfl)) (by kernel_rfl) (by kernel_rfl)
set_option maxRecDepth 100000 in
theorem lifted (os : Os) (started : os.Started) (H : Type) (enc : TypeId × Value → H) :
    ReturnsInHanded {} Tryd.checked os 3 .any (fun w args => (Rows.fnExactHashMoreSpec.pre enc Tryd.prog Tryd.f3 [] false w args ∧ laidMetH Tryd.prog Rows.fnExactHashMoreRow.laid w) ∧ sizedMet enc Tryd.prog Tryd.f3 (OpenSpec.ofChange Rows.fnExactHashMoreSpec) false w args)
      (Rows.fnExactHashMoreSpec.post enc Tryd.prog Tryd.f3 false true false false) := by
  refine returnsInHanded_of_change_and (C := Tryd.checked) (X := fun w _ => laidMetH Tryd.prog Rows.fnExactHashMoreRow.laid w) (fun _ _ _ hh h => h.of_heap hh) own started (by kernel_rfl) Tryd.func3
    (ChangeSpec.witness_shaped (enc := enc) (C := Tryd.checked) (os := os) (X := fun w _ => laidMetH Tryd.prog Rows.fnExactHashMoreRow.laid w) false (World.doorLaid Tryd.prog 400 os) #[.agg #[.slice none 0 0, .string ByteArray.empty, .int .i64 0], .string ByteArray.empty] 8 rfl (World.shaped_of_RefB (by kernel_rfl) (by kernel_rfl)) (by kernel_rfl) (by kernel_rfl) (by kernel_rfl) (laid_met os _)) ?_
  intro W base args ds gs before hval0 hW _ _ hL _
  have hval : ∀ (j : Nat) t v, Tryd.f3.params[j]? = some t → args[j]? = some v → Value.okWide Tryd.prog W .any base t v := hval0
  have hW' := hW
  obtain ⟨p, q, hA0, hV, rfl, hfz, hnd⟩ := hW
  have hV0 := hV
  obtain ⟨_, _, _, _, dv, _, rfl, _⟩ := trodVars_one hV
  have hA : DataW.TrodAll enc Tryd.prog W 0 (fun _ => true) true Tryd.f3.params.toList args.toList ds p := hA0
  rw [Tryd.params3] at hA hval
  obtain ⟨v0, vs0, d0, ds0, p0, q0, hargs, rfl, rfl, h0, r0⟩ := trodAll_cons hA
  obtain ⟨v1, vs1, d1, ds1, p1, q1, rfl, rfl, rfl, h1, r1⟩ := trodAll_cons r0
  obtain ⟨rfl, rfl, rfl⟩ := trodAll_nil r1
  obtain rfl : args = #[v0, v1] := by cases args; simp_all
  have k0 := h0
  have lt0 : ∀ x ∈ p0, x.block < W.heap.size := by obtain ⟨m, hm⟩ := k0; exact DataW.trod_lt m _ _ _ hm
  obtain ⟨x00, x10, x20, y00, y10, y20, n0, rfl, _, _, t00, t10, t20⟩ := Joins.open_agg3 Tryd.underlying24 (by kernel_rfl) (by kernel_rfl) (hval 0 24 v0 rfl rfl) h0
  obtain ⟨a0, len0, cap0, z0, e0, w0⟩ : ∃ a len cap zs, x00 = .slice a len cap ∧ IsRow .i64 W a len cap zs := by
    rcases open_ints Tryd.underlying22 Tryd.underlying2 (by kernel_rfl) t00 with ⟨hcs, _⟩ | ⟨x, l, c, zs, hcs, _, hl, hm, hz, _, hcell, hwz⟩
    · exact ⟨_, _, _, [], (List.cons.inj hcs).1, .inl ⟨rfl, rfl, rfl, rfl⟩⟩
    · exact ⟨_, _, _, zs, (List.cons.inj hcs).1, .inr ⟨_, rfl, hl, hm, by simpa using hz, hcell, hwz⟩⟩
  subst e0
  obtain ⟨s0, f0, _, ws0⟩ := DataW.trod_string Tryd.underlying9 t10
  obtain ⟨i0, g0, _, wi0⟩ := DataW.trod_int Tryd.underlying2 t20
  obtain rfl := (List.cons.inj f0).1
  obtain rfl := (List.cons.inj g0).1
  obtain ⟨a1, rfl, rfl, rfl, w1⟩ := open_string Tryd.underlying9 (hval 1 9 v1 rfl rfl) h1
  clear hA0 hval0
  refine (hashMoreWalk W a0 len0 cap0 z0 w0 s0 ws0 i0 wi0 a1 w1 (keys_of_laid hL)).mono fun e W' ⟨he, bel⟩ => ?_
  subst he
  exact ⟨_, rfl, _, _, _, [], _, _, hW', trodAll_mk1 (shut_bool Tryd.underlying4 _), (trodAll_cons_mk (Below.trod laidOut (by kernel_rfl) (of_decide_eq_true (by kernel_rfl)) k0 bel lt0) (trodAll_cons_mk (shut_string Tryd.underlying9 w1) trodAll_mk0)), bel.trodVars laidOut (by kernel_rfl) hV0, bel.frame _, fun h => by cases h⟩
theorem said : Rows.FnExactHashMoreSaid :=
  OpenClaim.holds_of_wide 3 Tryd.f3 rfl rfl rfl rfl rfl rfl rfl ⟨rfl, rfl, rfl, rfl, rfl⟩ rfl rfl rfl rfl rfl (by kernel_rfl) Tryd.func3 (by kernel_rfl)
    (of_decide_eq_true (by kernel_rfl)) (by unfold Func.isWrapper; first | (rw [if_pos (by decide +kernel)]; kernel_rfl) | (rw [if_neg (by decide +kernel)]; exact ⟨rfl, rfl⟩))
    (fun os started H enc _ => lifted os started H enc)
theorem plain (f : FuncId) (fn : Func) (hf : Tryd.pinned.checked.prog.funcNamed "loop.example/g00371/laws.FnExactHashMore" = some f) (hfn : Tryd.pinned.checked.prog.funcs[f]? = some fn) :
    false = Tryd.pinned.checked.prog.looks [] ∧ ∀ (j : Nat) t, fn.params[j]? = some t → Tryd.pinned.checked.prog.wantsStandIn t = false := by
  obtain rfl : f = 3 := Option.some.inj ((show Tryd.prog.funcNamed "loop.example/g00371/laws.FnExactHashMore" = some 3 by kernel_rfl).symm.trans hf) |>.symm
  obtain rfl : fn = Tryd.f3 := (Option.some.inj (Tryd.func3.symm.trans hfn)).symm
  refine ⟨by kernel_rfl, fun j t ht => ?_⟩
  rw [Tryd.params3] at ht
  have hm : t = 24 ∨ t = 9 := by simpa using Array.mem_of_getElem? ht
  rcases hm with rfl | rfl <;> (show _ = _; kernel_rfl)
end fnExactHashMoreDone
theorem fnExactHashMore_card : Rows.FnExactHashMoreCardSaid :=
  Claim7.holds_tied_plain_at .later [] _ _ _ _ fnExactHashMoreDone.said (fun _ h => by cases h) (by kernel_rfl) (fun _ h => by cases h) fnExactHashMore_row_tie rfl ⟨rfl, rfl⟩ (by kernel_rfl) rfl fnExactHashMoreDone.plain (by kernel_rfl)
#print axioms fnExactHashMore_card
end Go.Proofs.YtbkkjgpaccfplaeDoor
