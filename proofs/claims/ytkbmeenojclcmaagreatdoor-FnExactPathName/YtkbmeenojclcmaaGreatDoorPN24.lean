/- FnExactPathName, walked: at every argument PathName answers as the specification's; it writes into no argument. The listed variables are tied to the program's text; no other condition. -/
import Derived.Test.YtkbmeenojclcmaaGreatDoorPN14
import Derived.Test.YtkbmeenojclcmaaGreatDoorPN21
import Derived.Test.YtkbmeenojclcmaaGreatDoorPN22
import Derived.Test.YtkbmeenojclcmaaGreatDoorPN23
import Derived.Below
import Derived.Deep.RegionHeld3
namespace Go.Proofs.YtkbmeenojclcmaaGreatDoor
open Go.RowKit

set_option linter.unusedSimpArgs false in
set_option maxHeartbeats 4000000 in
set_option maxRecDepth 100000 in
theorem pathNameWalk (w : World) (r : Paper) (ra : Option Addr) (rc : Nat) (hr : Came w r ra) (c : Paper) (ca : Option Addr) (cc : Nat) (hc : Came w c ca) (l : Lst) (la : Option Addr) (lc : Nat) (hl : CameL w l la) (t : Int) (_ : (Lit.int .i64 t).wf = true) (name : ByteArray) (hnm : name.size ≤ maxLen) (hE : Keys w ∧ Err3 w) :
    Calls Tryz.prog 4 #[r.val (.slice ra r.names.length rc), c.val (.slice ca c.names.length cc), l.val (.slice la l.serials.length lc), .int .i64 t, .string name] w fun e w' => e = .returned (.bool true) ∧ Below w.heap.size w w' := by
  have ZR : Hid (∀ V, IsStrs V ra r.names → Calls Tryz.prog 5 #[r.val (.slice ra r.names.length rc), .int .i64 1048576] V fun e w' => ∃ x : Int, e = .returned (.int .i64 x) ∧ (x < 0 ∨ r.Small) ∧ -1 ≤ x ∧ x ≤ 1048576 ∧ Below V.heap.size V w') := fun V hV => szCert r ra rc V hr.iss hr.sub hr.len hr.each hV
  have ZC : Hid (∀ V m, 0 ≤ m → m ≤ 1048576 → IsStrs V ca c.names → Calls Tryz.prog 5 #[c.val (.slice ca c.names.length cc), .int .i64 m] V fun e w' => ∃ x : Int, e = .returned (.int .i64 x) ∧ (x < 0 ∨ c.Small) ∧ -1 ≤ x ∧ x ≤ 1048576 ∧ Below V.heap.size V w') := fun V m h0 h1 hV => szCertM c ca cc m V h0 h1 hc.iss hc.sub hc.len hc.each hV
  have ZL : Hid (∀ V m, 0 ≤ m → m ≤ 1048576 → Calls Tryz.prog 6 #[l.val (.slice la l.serials.length lc), .int .i64 m] V fun e w' => ∃ x : Int, e = .returned (.int .i64 x) ∧ (x < 0 ∨ l.Small) ∧ -1 ≤ x ∧ x ≤ 1048576 ∧ Below V.heap.size V w') := fun V m h0 h1 => szCrlM l la lc m V h0 h1 hl.iss hl.len
  have TR : Hid (r.Small → ∀ V, IsStrs V ra r.names → Calls Tryz.prog 8 #[r.val (.slice ra r.names.length rc)] V fun e w' => ∃ g, e = .returned (r.val (.slice (some ⟨g, 0, none⟩) r.names.length r.names.length)) ∧ IsStrs w' (some ⟨g, 0, none⟩) r.names ∧ Below V.heap.size V w') := fun hs V hV => (toCert r ra rc V hs.2.2.1 hV).mono fun e W h => by
    obtain ⟨g, h1, _, h3, h4⟩ := h
    exact ⟨g, h1, IsStrs.row h3, h4⟩
  have TC : Hid (c.Small → ∀ V, IsStrs V ca c.names → Calls Tryz.prog 8 #[c.val (.slice ca c.names.length cc)] V fun e w' => ∃ g, e = .returned (c.val (.slice (some ⟨g, 0, none⟩) c.names.length c.names.length)) ∧ IsStrs w' (some ⟨g, 0, none⟩) c.names ∧ Below V.heap.size V w') := fun hs V hV => (toCert c ca cc V hs.2.2.1 hV).mono fun e W h => by
    obtain ⟨g, h1, _, h3, h4⟩ := h
    exact ⟨g, h1, IsStrs.row h3, h4⟩
  have TL : Hid (l.Small → ∀ V, IsInts V la l.serials → Calls Tryz.prog 9 #[l.val (.slice la l.serials.length lc)] V fun e w' => ∃ g, e = .returned (l.val (.slice (some ⟨g, 0, none⟩) l.serials.length l.serials.length)) ∧ IsInts w' (some ⟨g, 0, none⟩) l.serials ∧ Below V.heap.size V w') := fun hs V hV => (toCrl l la lc V hs.2 hV).mono fun e W h => by
    obtain ⟨g, h1, _, h3, h4⟩ := h
    exact ⟨g, h1, IsInts.row (rest := []) (by simpa using h3), h4⟩
  have HS : Hid (r.Small → c.Small → l.Small → ∀ V g0 g1 g2, IsStrs V (some ⟨g0, 0, none⟩) r.names → IsStrs V (some ⟨g1, 0, none⟩) c.names → IsInts V (some ⟨g2, 0, none⟩) l.serials → Calls Tryz.prog 13 #[r.val (.slice (some ⟨g0, 0, none⟩) r.names.length r.names.length), c.val (.slice (some ⟨g1, 0, none⟩) c.names.length c.names.length), l.val (.slice (some ⟨g2, 0, none⟩) l.serials.length l.serials.length), .int .i64 t, .string name] V fun e w' => e = .returned (.bool (pathN r c l t name)) ∧ Below V.heap.size V w') := fun h1 h2 h3 V g0 g1 g2 i0 i1 i2 => specPathN r c l t name _ _ _ _ _ _ V ⟨hr.iss, hr.sub, h1.2.2.1, h1.2.2.2⟩ ⟨hc.iss, hc.sub, h2.2.2.1, h2.2.2.2⟩ ⟨hl.iss, h3.2⟩ i0 i1 i2 hnm
  have HI : Hid (r.Small → c.Small → l.Small → ∀ V g0 g1 g2, Keys V → Err3 V → IsStrs V (some ⟨g0, 0, none⟩) r.names → IsStrs V (some ⟨g1, 0, none⟩) c.names → IsInts V (some ⟨g2, 0, none⟩) l.serials → Calls Tryz.prog 14 #[r.val (.slice (some ⟨g0, 0, none⟩) r.names.length r.names.length), c.val (.slice (some ⟨g1, 0, none⟩) c.names.length c.names.length), l.val (.slice (some ⟨g2, 0, none⟩) l.serials.length l.serials.length), .int .i64 t, .string name] V fun e w' => e = .returned (.bool (pathN r c l t name)) ∧ Below V.heap.size V w') := fun h1 h2 h3 V g0 g1 g2 j0 j1 i0 i1 i2 => implPathN r c l t name _ _ _ _ _ _ V ⟨hr.iss, hr.sub, h1.2.2.1, h1.2.2.2⟩ ⟨hc.iss, hc.sub, h2.2.2.1, h2.2.2.2⟩ ⟨hl.iss, h3.2⟩ i0 i1 i2 j0 j1 hnm
  have ER : Hid (r.Small → ∀ V g k, IsStrs V (some ⟨g, 0, none⟩) r.names → IsStrs V (some ⟨k, 0, none⟩) r.names → Calls Tryz.prog 11 #[r.val (.slice (some ⟨g, 0, none⟩) r.names.length r.names.length), r.val (.slice (some ⟨k, 0, none⟩) r.names.length r.names.length)] V fun e w' => e = .returned (.bool true) ∧ Below V.heap.size V w') := fun hs V g k h1 h2 => eqCert r _ _ _ _ V hs.2.2.1 h1 h2
  have EC : Hid (c.Small → ∀ V g k, IsStrs V (some ⟨g, 0, none⟩) c.names → IsStrs V (some ⟨k, 0, none⟩) c.names → Calls Tryz.prog 11 #[c.val (.slice (some ⟨g, 0, none⟩) c.names.length c.names.length), c.val (.slice (some ⟨k, 0, none⟩) c.names.length c.names.length)] V fun e w' => e = .returned (.bool true) ∧ Below V.heap.size V w') := fun hs V g k h1 h2 => eqCert c _ _ _ _ V hs.2.2.1 h1 h2
  have EL : Hid (l.Small → ∀ V g k, IsInts V (some ⟨g, 0, none⟩) l.serials → IsInts V (some ⟨k, 0, none⟩) l.serials → Calls Tryz.prog 12 #[l.val (.slice (some ⟨g, 0, none⟩) l.serials.length l.serials.length), l.val (.slice (some ⟨k, 0, none⟩) l.serials.length l.serials.length)] V fun e w' => e = .returned (.bool true) ∧ Below V.heap.size V w') := fun hs V g k h1 h2 => eqCrl l _ _ _ _ V hs.2 h1 h2
  have ha := hr.strs
  have hb := hc.strs
  have hd := hl.ints
  have HF0 : Hid (∀ V, Below w.heap.size w V → Keys V) := fun V hV => hE.1.below hV hE.1.pos
  have HF1 : Hid (∀ V, Below w.heap.size w V → Err3 V) := fun V hV => hE.2.keep hV
  clear hr hc hl hE
  generalize pathN r c l t name = R at *
  generalize Paper.Small r = SmR at *
  generalize Paper.Small c = SmC at *
  generalize Lst.Small l = SmL at *
  obtain ⟨rser, riss, rsub, rfr, rtill, rkey, rnames, rca, rsk, rse, rss⟩ := r
  obtain ⟨cser, ciss, csub, cfr, ctill, ckey, cnames, cca, csk, cse, css⟩ := c
  obtain ⟨liss, lfr, ltill, lserials, lsk, lse, lss⟩ := l
  unfold Paper.val at *
  unfold Lst.val at *
  simp only at ZR ZC ZL TR TC TL HS HI ER EC EL ha hb hd ⊢
  generalize rnames.length = rn at *
  generalize cnames.length = cn at *
  generalize lserials.length = ln at *
  obtain ⟨w1, hw1⟩ : ∃ w1, w1 = ((w.alloc (.cells #[.int .i64 rser, .string riss, .string rsub, .int .i64 rfr, .int .i64 rtill, .int .i64 rkey, .slice ra rn rc, .bool rca, .int .i64 rsk, .int .i64 rse, .int .i64 rss] 26 (0, 0))).alloc (.cells #[.int .i64 cser, .string ciss, .string csub, .int .i64 cfr, .int .i64 ctill, .int .i64 ckey, .slice ca cn cc, .bool cca, .int .i64 csk, .int .i64 cse, .int .i64 css] 26 (0, 0))).alloc (.cells #[.string liss, .int .i64 lfr, .int .i64 ltill, .slice la ln lc, .int .i64 lsk, .int .i64 lse, .int .i64 lss] 29 (0, 0)) := ⟨_, rfl⟩
  have q0 : w1.heap[w.heap.size]? = some (.cells [Value.int .i64 rser, .string riss, .string rsub, .int .i64 rfr, .int .i64 rtill, .int .i64 rkey, .slice ra rn rc, .bool rca, .int .i64 rsk, .int .i64 rse, .int .i64 rss].toArray 26 (0, 0)) := by rw [hw1, Below.heap_alloc _ _ _ (by simp; omega), Below.heap_alloc _ _ _ (by simp)]; exact heap_alloc_new w _
  have q1 : w1.heap[w.heap.size + 1]? = some (.cells [Value.int .i64 cser, .string ciss, .string csub, .int .i64 cfr, .int .i64 ctill, .int .i64 ckey, .slice ca cn cc, .bool cca, .int .i64 csk, .int .i64 cse, .int .i64 css].toArray 26 (0, 0)) := by rw [hw1, Below.heap_alloc _ _ _ (by simp)]; exact heap_alloc2 w _ _
  have q2 : w1.heap[w.heap.size + 1 + 1]? = some (.cells [Value.string liss, .int .i64 lfr, .int .i64 ltill, .slice la ln lc, .int .i64 lsk, .int .i64 lse, .int .i64 lss].toArray 29 (0, 0)) := by rw [hw1]; have := heap_alloc_new ((w.alloc (.cells #[.int .i64 rser, .string riss, .string rsub, .int .i64 rfr, .int .i64 rtill, .int .i64 rkey, .slice ra rn rc, .bool rca, .int .i64 rsk, .int .i64 rse, .int .i64 rss] 26 (0, 0))).alloc (.cells #[.int .i64 cser, .string ciss, .string csub, .int .i64 cfr, .int .i64 ctill, .int .i64 ckey, .slice ca cn cc, .bool cca, .int .i64 csk, .int .i64 cse, .int .i64 css] 26 (0, 0))) (.cells #[.string liss, .int .i64 lfr, .int .i64 ltill, .slice la ln lc, .int .i64 lsk, .int .i64 lse, .int .i64 lss] 29 (0, 0)); simpa using this
  have P1 : Hid (Below w.heap.size w w1) := by rw [hw1]; exact (((Below.refl _ _).alloc (Nat.le_refl _) _).alloc (by simp) _).alloc (by simp; omega) _
  have HB : Hid (∀ V, Below w1.heap.size w1 V → Below w.heap.size w V) := fun V hV => P1.out.trans (hV.mono P1.out.size)
  have I1 : Hid (Below w1.heap.size w1 w1) := Below.refl _ _
  have KR : Hid (∀ V, Hid (Below w1.heap.size w1 V) → V.cell? ⟨w.heap.size, 0, none⟩ = some (.int .i64 rser) ∧ V.cell? ⟨w.heap.size, 1, none⟩ = some (.string riss) ∧ V.cell? ⟨w.heap.size, 2, none⟩ = some (.string rsub) ∧ V.cell? ⟨w.heap.size, 3, none⟩ = some (.int .i64 rfr) ∧ V.cell? ⟨w.heap.size, 4, none⟩ = some (.int .i64 rtill) ∧ V.cell? ⟨w.heap.size, 5, none⟩ = some (.int .i64 rkey) ∧ V.cell? ⟨w.heap.size, 6, none⟩ = some (.slice ra rn rc) ∧ V.cell? ⟨w.heap.size, 7, none⟩ = some (.bool rca) ∧ V.cell? ⟨w.heap.size, 8, none⟩ = some (.int .i64 rsk) ∧ V.cell? ⟨w.heap.size, 9, none⟩ = some (.int .i64 rse) ∧ V.cell? ⟨w.heap.size, 10, none⟩ = some (.int .i64 rss)) := fun V hV => by
    have hP := (hV.out.block _ (heap_lt q0)).trans q0
    exact ⟨rowFacts hP 0 _ rfl, rowFacts hP 1 _ rfl, rowFacts hP 2 _ rfl, rowFacts hP 3 _ rfl, rowFacts hP 4 _ rfl, rowFacts hP 5 _ rfl, rowFacts hP 6 _ rfl, rowFacts hP 7 _ rfl, rowFacts hP 8 _ rfl, rowFacts hP 9 _ rfl, rowFacts hP 10 _ rfl⟩
  have KC : Hid (∀ V, Hid (Below w1.heap.size w1 V) → V.cell? ⟨w.heap.size + 1, 0, none⟩ = some (.int .i64 cser) ∧ V.cell? ⟨w.heap.size + 1, 1, none⟩ = some (.string ciss) ∧ V.cell? ⟨w.heap.size + 1, 2, none⟩ = some (.string csub) ∧ V.cell? ⟨w.heap.size + 1, 3, none⟩ = some (.int .i64 cfr) ∧ V.cell? ⟨w.heap.size + 1, 4, none⟩ = some (.int .i64 ctill) ∧ V.cell? ⟨w.heap.size + 1, 5, none⟩ = some (.int .i64 ckey) ∧ V.cell? ⟨w.heap.size + 1, 6, none⟩ = some (.slice ca cn cc) ∧ V.cell? ⟨w.heap.size + 1, 7, none⟩ = some (.bool cca) ∧ V.cell? ⟨w.heap.size + 1, 8, none⟩ = some (.int .i64 csk) ∧ V.cell? ⟨w.heap.size + 1, 9, none⟩ = some (.int .i64 cse) ∧ V.cell? ⟨w.heap.size + 1, 10, none⟩ = some (.int .i64 css)) := fun V hV => by
    have hP := (hV.out.block _ (heap_lt q1)).trans q1
    exact ⟨rowFacts hP 0 _ rfl, rowFacts hP 1 _ rfl, rowFacts hP 2 _ rfl, rowFacts hP 3 _ rfl, rowFacts hP 4 _ rfl, rowFacts hP 5 _ rfl, rowFacts hP 6 _ rfl, rowFacts hP 7 _ rfl, rowFacts hP 8 _ rfl, rowFacts hP 9 _ rfl, rowFacts hP 10 _ rfl⟩
  have KL : Hid (∀ V, Hid (Below w1.heap.size w1 V) → V.cell? ⟨w.heap.size + 1 + 1, 0, none⟩ = some (.string liss) ∧ V.cell? ⟨w.heap.size + 1 + 1, 1, none⟩ = some (.int .i64 lfr) ∧ V.cell? ⟨w.heap.size + 1 + 1, 2, none⟩ = some (.int .i64 ltill) ∧ V.cell? ⟨w.heap.size + 1 + 1, 3, none⟩ = some (.slice la ln lc) ∧ V.cell? ⟨w.heap.size + 1 + 1, 4, none⟩ = some (.int .i64 lsk) ∧ V.cell? ⟨w.heap.size + 1 + 1, 5, none⟩ = some (.int .i64 lse) ∧ V.cell? ⟨w.heap.size + 1 + 1, 6, none⟩ = some (.int .i64 lss)) := fun V hV => by
    have hP := (hV.out.block _ (heap_lt q2)).trans q2
    exact ⟨rowFacts hP 0 _ rfl, rowFacts hP 1 _ rfl, rowFacts hP 2 _ rfl, rowFacts hP 3 _ rfl, rowFacts hP 4 _ rfl, rowFacts hP 5 _ rfl, rowFacts hP 6 _ rfl⟩
  clear q0 q1 q2
  have AR : Hid (∀ V, Below w.heap.size w V → IsStrs V ra rnames) := fun V hV => ha.keep hV
  have AC : Hid (∀ V, Below w.heap.size w V → IsStrs V ca cnames) := fun V hV => hb.keep hV
  have AL : Hid (∀ V, Below w.heap.size w V → IsInts V la lserials) := fun V hV => hd.keep hV
  clear ha hb hd
  unfold maxLen at hnm
  go_enter Tryz.func4, Tryz.ntmps4
  go_upto_region 1 with fail
  rw [← hw1]
  clear hw1
  by_cases hbig : 1048576 < name.size
  · go_wp2
    go_ret
    exact ⟨rfl, HB.out _ I1.out⟩
  obtain ⟨x0, x1, x2, x3, x4, x5, x6, x7, x8, x9, x10⟩ := KR.out _ I1
  go_wp2_with fail
  refine (ZR.out _ (AR.out _ (HB.out _ I1.out))).mono ?_
  rintro e v1 ⟨m1, rfl, s1, m10, m1b, k1⟩
  have K1 : Hid (Below w1.heap.size w1 v1) := I1.out.trans (k1.mono I1.out.size)
  clear k1
  clear x0 x1 x2 x3 x4 x5 x6 x7 x8 x9 x10
  by_cases q1 : m1 < 0
  · go_wp2
    go_ret
    exact ⟨rfl, HB.out _ K1.out⟩
  have m1a : 0 ≤ m1 := by omega
  have s1' : SmR := s1.resolve_left q1
  have S1 : Hid SmR := s1'
  clear s1 s1'
  obtain ⟨y0, y1, y2, y3, y4, y5, y6, y7, y8, y9, y10⟩ := KC.out _ K1
  go_wp2_with fail
  refine (ZC.out _ _ m1a m1b (AC.out _ (HB.out _ K1.out))).mono ?_
  rintro e v2 ⟨m2, rfl, s2, m20, m2b, k2⟩
  have K2 : Hid (Below w1.heap.size w1 v2) := K1.out.trans (k2.mono K1.out.size)
  clear k2
  clear y0 y1 y2 y3 y4 y5 y6 y7 y8 y9 y10
  by_cases q2 : m2 < 0
  · go_wp2
    go_ret
    exact ⟨rfl, HB.out _ K2.out⟩
  have m2a : 0 ≤ m2 := by omega
  have s2' : SmC := s2.resolve_left q2
  have S2 : Hid SmC := s2'
  clear s2 s2'
  obtain ⟨z0, z1, z2, z3, z4, z5, z6⟩ := KL.out _ K2
  go_wp2_with fail
  refine (ZL.out _ _ m2a m2b).mono ?_
  rintro e v3 ⟨m3, rfl, s3, m30, m3b, k3⟩
  have K3 : Hid (Below w1.heap.size w1 v3) := K2.out.trans (k3.mono K2.out.size)
  clear k3
  clear z0 z1 z2 z3 z4 z5 z6
  by_cases q3 : m3 < 0
  · go_wp2
    go_ret
    exact ⟨rfl, HB.out _ K3.out⟩
  have m3a : 0 ≤ m3 := by omega
  have s3' : SmL := s3.resolve_left q3
  have S3 : Hid SmL := s3'
  clear s3 s3'
  have HS' := HS.out S1.out S2.out S3.out
  have HI' := HI.out S1.out S2.out S3.out
  have TR' := TR.out S1.out
  have TC' := TC.out S2.out
  have TL' := TL.out S3.out
  have ER' := ER.out S1.out
  have EC' := EC.out S2.out
  have EL' := EL.out S3.out
  clear HS HI TR TC TL ER EC EL ZR ZC ZL S1 S2 S3
  have HS : Hid _ := HS'
  have HI : Hid _ := HI'
  have TR : Hid _ := TR'
  have TC : Hid _ := TC'
  have TL : Hid _ := TL'
  have ER : Hid _ := ER'
  have EC : Hid _ := EC'
  have EL : Hid _ := EL'
  clear HS' HI' TR' TC' TL' ER' EC' EL'
  have SS : Hid (∀ V, Below w1.heap.size w1 V → (V.cell? ⟨w.heap.size, 0, none⟩ = some (.int .i64 rser) ∧ V.cell? ⟨w.heap.size, 1, none⟩ = some (.string riss) ∧ V.cell? ⟨w.heap.size, 2, none⟩ = some (.string rsub) ∧ V.cell? ⟨w.heap.size, 3, none⟩ = some (.int .i64 rfr) ∧ V.cell? ⟨w.heap.size, 4, none⟩ = some (.int .i64 rtill) ∧ V.cell? ⟨w.heap.size, 5, none⟩ = some (.int .i64 rkey) ∧ V.cell? ⟨w.heap.size, 6, none⟩ = some (.slice ra rn rc) ∧ V.cell? ⟨w.heap.size, 7, none⟩ = some (.bool rca) ∧ V.cell? ⟨w.heap.size, 8, none⟩ = some (.int .i64 rsk) ∧ V.cell? ⟨w.heap.size, 9, none⟩ = some (.int .i64 rse) ∧ V.cell? ⟨w.heap.size, 10, none⟩ = some (.int .i64 rss)) ∧ (V.cell? ⟨w.heap.size + 1, 0, none⟩ = some (.int .i64 cser) ∧ V.cell? ⟨w.heap.size + 1, 1, none⟩ = some (.string ciss) ∧ V.cell? ⟨w.heap.size + 1, 2, none⟩ = some (.string csub) ∧ V.cell? ⟨w.heap.size + 1, 3, none⟩ = some (.int .i64 cfr) ∧ V.cell? ⟨w.heap.size + 1, 4, none⟩ = some (.int .i64 ctill) ∧ V.cell? ⟨w.heap.size + 1, 5, none⟩ = some (.int .i64 ckey) ∧ V.cell? ⟨w.heap.size + 1, 6, none⟩ = some (.slice ca cn cc) ∧ V.cell? ⟨w.heap.size + 1, 7, none⟩ = some (.bool cca) ∧ V.cell? ⟨w.heap.size + 1, 8, none⟩ = some (.int .i64 csk) ∧ V.cell? ⟨w.heap.size + 1, 9, none⟩ = some (.int .i64 cse) ∧ V.cell? ⟨w.heap.size + 1, 10, none⟩ = some (.int .i64 css)) ∧ (V.cell? ⟨w.heap.size + 1 + 1, 0, none⟩ = some (.string liss) ∧ V.cell? ⟨w.heap.size + 1 + 1, 1, none⟩ = some (.int .i64 lfr) ∧ V.cell? ⟨w.heap.size + 1 + 1, 2, none⟩ = some (.int .i64 ltill) ∧ V.cell? ⟨w.heap.size + 1 + 1, 3, none⟩ = some (.slice la ln lc) ∧ V.cell? ⟨w.heap.size + 1 + 1, 4, none⟩ = some (.int .i64 lsk) ∧ V.cell? ⟨w.heap.size + 1 + 1, 5, none⟩ = some (.int .i64 lse) ∧ V.cell? ⟨w.heap.size + 1 + 1, 6, none⟩ = some (.int .i64 lss))) := fun V hV => ⟨KR.out V (show Hid _ from hV), KC.out V (show Hid _ from hV), KL.out V (show Hid _ from hV)⟩
  have D3 : Hid (Below w1.heap.size w1 v3.drew) := K3.out.drew
  go_wp2_with fail
  refine wp_region_held_drew (S := fun V => (V.cell? ⟨w.heap.size, 0, none⟩ = some (.int .i64 rser) ∧ V.cell? ⟨w.heap.size, 1, none⟩ = some (.string riss) ∧ V.cell? ⟨w.heap.size, 2, none⟩ = some (.string rsub) ∧ V.cell? ⟨w.heap.size, 3, none⟩ = some (.int .i64 rfr) ∧ V.cell? ⟨w.heap.size, 4, none⟩ = some (.int .i64 rtill) ∧ V.cell? ⟨w.heap.size, 5, none⟩ = some (.int .i64 rkey) ∧ V.cell? ⟨w.heap.size, 6, none⟩ = some (.slice ra rn rc) ∧ V.cell? ⟨w.heap.size, 7, none⟩ = some (.bool rca) ∧ V.cell? ⟨w.heap.size, 8, none⟩ = some (.int .i64 rsk) ∧ V.cell? ⟨w.heap.size, 9, none⟩ = some (.int .i64 rse) ∧ V.cell? ⟨w.heap.size, 10, none⟩ = some (.int .i64 rss)) ∧ (V.cell? ⟨w.heap.size + 1, 0, none⟩ = some (.int .i64 cser) ∧ V.cell? ⟨w.heap.size + 1, 1, none⟩ = some (.string ciss) ∧ V.cell? ⟨w.heap.size + 1, 2, none⟩ = some (.string csub) ∧ V.cell? ⟨w.heap.size + 1, 3, none⟩ = some (.int .i64 cfr) ∧ V.cell? ⟨w.heap.size + 1, 4, none⟩ = some (.int .i64 ctill) ∧ V.cell? ⟨w.heap.size + 1, 5, none⟩ = some (.int .i64 ckey) ∧ V.cell? ⟨w.heap.size + 1, 6, none⟩ = some (.slice ca cn cc) ∧ V.cell? ⟨w.heap.size + 1, 7, none⟩ = some (.bool cca) ∧ V.cell? ⟨w.heap.size + 1, 8, none⟩ = some (.int .i64 csk) ∧ V.cell? ⟨w.heap.size + 1, 9, none⟩ = some (.int .i64 cse) ∧ V.cell? ⟨w.heap.size + 1, 10, none⟩ = some (.int .i64 css)) ∧ (V.cell? ⟨w.heap.size + 1 + 1, 0, none⟩ = some (.string liss) ∧ V.cell? ⟨w.heap.size + 1 + 1, 1, none⟩ = some (.int .i64 lfr) ∧ V.cell? ⟨w.heap.size + 1 + 1, 2, none⟩ = some (.int .i64 ltill) ∧ V.cell? ⟨w.heap.size + 1 + 1, 3, none⟩ = some (.slice la ln lc) ∧ V.cell? ⟨w.heap.size + 1 + 1, 4, none⟩ = some (.int .i64 lsk) ∧ V.cell? ⟨w.heap.size + 1 + 1, 5, none⟩ = some (.int .i64 lse) ∧ V.cell? ⟨w.heap.size + 1 + 1, 6, none⟩ = some (.int .i64 lss))) (by kernel_rfl) ?_ (fun hHeld => ?_)
  · exact SS.out _ D3.out
  refine wpAnyH_take (i := 0) (oi := ⟨some 35, _, _, _, _, _⟩) (v := ?_) rfl (by kernel_rfl) (by kernel_rfl) (by kernel_rfl) (fun _ _ _ h => h) (Or.inl ⟨by kernel_rfl, ?_⟩) (by assumption) ?_
  rotate_left
  · (intro w hSw; (try dsimp only at hSw); go_simp; try with_reducible rfl)
  (try simp only [Act.put, List.setIfInBounds_toArray, List.set_cons_zero, List.set_cons_succ])
  refine wpAnyH_take (i := 2) (oi := ⟨some 37, _, _, _, _, _⟩) (v := ?_) rfl (by kernel_rfl) (by kernel_rfl) (by kernel_rfl) (fun _ _ _ h => h) (Or.inl ⟨by kernel_rfl, ?_⟩) (by assumption) ?_
  rotate_left
  · (intro w hSw; (try dsimp only at hSw); go_simp; try with_reducible rfl)
  (try simp only [Act.put, List.setIfInBounds_toArray, List.set_cons_zero, List.set_cons_succ])
  refine wpAnyH_take (i := 4) (oi := ⟨some 39, _, _, _, _, _⟩) (v := ?_) rfl (by kernel_rfl) (by kernel_rfl) (by kernel_rfl) (fun _ _ _ h => h) (Or.inl ⟨by kernel_rfl, ?_⟩) (by assumption) ?_
  rotate_left
  · (intro w hSw; (try dsimp only at hSw); go_simp; try with_reducible rfl)
  (try simp only [Act.put, List.setIfInBounds_toArray, List.set_cons_zero, List.set_cons_succ])
  refine wpAnyH_take (i := 6) (oi := ⟨some 41, _, _, _, _, _⟩) (v := ?_) rfl (by kernel_rfl) (by kernel_rfl) (by kernel_rfl) (fun _ _ _ h => h) (Or.inl ⟨by kernel_rfl, ?_⟩) (by assumption) ?_
  rotate_left
  · (intro w hSw; (try dsimp only at hSw); go_simp; try with_reducible rfl)
  (try simp only [Act.put, List.setIfInBounds_toArray, List.set_cons_zero, List.set_cons_succ])
  refine wpAnyH_take (i := 7) (oi := ⟨some 42, _, _, _, _, _⟩) (v := ?_) rfl (by kernel_rfl) (by kernel_rfl) (by kernel_rfl) (fun _ _ _ h => h) (Or.inl ⟨by kernel_rfl, ?_⟩) (by assumption) ?_
  rotate_left
  · (intro w hSw; (try dsimp only at hSw); go_simp; try with_reducible rfl)
  (try simp only [Act.put, List.setIfInBounds_toArray, List.set_cons_zero, List.set_cons_succ])
  refine wpAnyH_ready (rs := [1]) (by kernel_rfl) (by simp) ?_
  refine AllReadyH.cons (o := ⟨some 36, _, _, _, _, _⟩) rfl (fun K hK => ?_) AllReadyH.nil
  go_simp
  refine (TR.out _ (AR.out _ (HB.out _ D3.out))).mono ?_
  rintro e u0 ⟨g0, rfl, a0, b0⟩
  have U0 : Hid (Below w1.heap.size w1 u0) := D3.out.trans (b0.mono D3.out.size)
  have A0 : Hid (IsStrs u0 (some ⟨g0, 0, none⟩) rnames) := a0
  clear a0 b0
  refine hK.out _ _ ?_ (fun hHeld => ?_)
  · exact SS.out _ U0.out
  clear hK K
  (try simp only [Act.put, List.setIfInBounds_toArray, List.set_cons_zero, List.set_cons_succ])
  refine wpAnyH_ready (rs := [3]) (by kernel_rfl) (by simp) ?_
  refine AllReadyH.cons (o := ⟨some 38, _, _, _, _, _⟩) rfl (fun K hK => ?_) AllReadyH.nil
  go_simp
  refine (TC.out _ (AC.out _ (HB.out _ U0.out))).mono ?_
  rintro e u1 ⟨g1, rfl, a1, b1⟩
  have U1 : Hid (Below w1.heap.size w1 u1) := U0.out.trans (b1.mono U0.out.size)
  have A1 : Hid (IsStrs u1 (some ⟨g1, 0, none⟩) cnames) := a1
  have A0' : Hid (IsStrs u1 (some ⟨g0, 0, none⟩) rnames) := A0.out.keep b1
  clear A0
  have A0 : Hid (IsStrs u1 (some ⟨g0, 0, none⟩) rnames) := A0'.out
  clear A0'
  clear a1 b1
  refine hK.out _ _ ?_ (fun hHeld => ?_)
  · exact SS.out _ U1.out
  clear hK K
  (try simp only [Act.put, List.setIfInBounds_toArray, List.set_cons_zero, List.set_cons_succ])
  refine wpAnyH_ready (rs := [5]) (by kernel_rfl) (by simp) ?_
  refine AllReadyH.cons (o := ⟨some 40, _, _, _, _, _⟩) rfl (fun K hK => ?_) AllReadyH.nil
  go_simp
  refine (TL.out _ (AL.out _ (HB.out _ U1.out))).mono ?_
  rintro e u2 ⟨g2, rfl, a2, b2⟩
  have U2 : Hid (Below w1.heap.size w1 u2) := U1.out.trans (b2.mono U1.out.size)
  have A2 : Hid (IsInts u2 (some ⟨g2, 0, none⟩) lserials) := a2
  have A0' : Hid (IsStrs u2 (some ⟨g0, 0, none⟩) rnames) := A0.out.keep b2
  clear A0
  have A0 : Hid (IsStrs u2 (some ⟨g0, 0, none⟩) rnames) := A0'.out
  clear A0'
  have A1' : Hid (IsStrs u2 (some ⟨g1, 0, none⟩) cnames) := A1.out.keep b2
  clear A1
  have A1 : Hid (IsStrs u2 (some ⟨g1, 0, none⟩) cnames) := A1'.out
  clear A1'
  clear a2 b2
  refine hK.out _ _ ?_ (fun hHeld => ?_)
  · exact SS.out _ U2.out
  clear hK K
  (try simp only [Act.put, List.setIfInBounds_toArray, List.set_cons_zero, List.set_cons_succ])
  refine wpAnyH_ready (rs := [8]) (by kernel_rfl) (by simp) ?_
  refine AllReadyH.cons (o := ⟨some 43, _, _, _, _, _⟩) rfl (fun K hK => ?_) AllReadyH.nil
  go_simp
  refine (HS.out _ g0 g1 g2 A0.out A1.out A2.out).mono ?_
  rintro e u3 ⟨rfl, b3⟩
  have U3 : Hid (Below w1.heap.size w1 u3) := U2.out.trans (b3.mono U2.out.size)
  clear b3 A0 A1 A2
  refine hK.out _ _ ?_ (fun hHeld => ?_)
  · exact SS.out _ U3.out
  clear hK K
  (try simp only [Act.put, List.setIfInBounds_toArray, List.set_cons_zero, List.set_cons_succ])
  refine wpAnyH_take (i := 9) (oi := ⟨some 12, _, _, _, _, _⟩) (v := ?_) rfl (by kernel_rfl) (by kernel_rfl) (by kernel_rfl) (fun _ _ _ h => h) (Or.inl ⟨by kernel_rfl, ?_⟩) (by assumption) ?_
  rotate_left
  · (intro w hSw; (try dsimp only at hSw); go_simp; try with_reducible rfl)
  (try simp only [Act.put, List.setIfInBounds_toArray, List.set_cons_zero, List.set_cons_succ])
  refine wpAnyH_done (by kernel_rfl) ?_ _
  obtain ⟨x0, x1, x2, x3, x4, x5, x6, x7, x8, x9, x10⟩ := KR.out _ U3
  go_wp2_with fail
  refine (TR.out _ (AR.out _ (HB.out _ U3.out))).mono ?_
  rintro e t0 ⟨h0, rfl, a0, b0⟩
  clear x0 x1 x2 x3 x4 x5 x6 x7 x8 x9 x10
  have T0 : Hid (Below w1.heap.size w1 t0) := U3.out.trans (b0.mono U3.out.size)
  obtain ⟨s0, hs0⟩ : ∃ y, y = t0.alloc (.cells #[.int .i64 rser, .string riss, .string rsub, .int .i64 rfr, .int .i64 rtill, .int .i64 rkey, .slice (some ⟨h0, 0, none⟩) rn rn, .bool rca, .int .i64 rsk, .int .i64 rse, .int .i64 rss] 35 (0, 0)) := ⟨_, rfl⟩
  have q0' : s0.heap[t0.heap.size]? = some (.cells [Value.int .i64 rser, .string riss, .string rsub, .int .i64 rfr, .int .i64 rtill, .int .i64 rkey, .slice (some ⟨h0, 0, none⟩) rn rn, .bool rca, .int .i64 rsk, .int .i64 rse, .int .i64 rss].toArray 35 (0, 0)) := by rw [hs0]; exact heap_alloc_new t0 _
  have c0 : Below t0.heap.size t0 s0 := by rw [hs0]; exact (Below.refl _ _).alloc (Nat.le_refl _) _
  have S0 : Hid (Below w1.heap.size w1 s0) := T0.out.trans (c0.mono T0.out.size)
  have X0 : Hid (∀ V, Below s0.heap.size s0 V → V.cell? ⟨t0.heap.size, 0, none⟩ = some (.int .i64 rser) ∧ V.cell? ⟨t0.heap.size, 1, none⟩ = some (.string riss) ∧ V.cell? ⟨t0.heap.size, 2, none⟩ = some (.string rsub) ∧ V.cell? ⟨t0.heap.size, 3, none⟩ = some (.int .i64 rfr) ∧ V.cell? ⟨t0.heap.size, 4, none⟩ = some (.int .i64 rtill) ∧ V.cell? ⟨t0.heap.size, 5, none⟩ = some (.int .i64 rkey) ∧ V.cell? ⟨t0.heap.size, 6, none⟩ = some (.slice (some ⟨h0, 0, none⟩) rn rn) ∧ V.cell? ⟨t0.heap.size, 7, none⟩ = some (.bool rca) ∧ V.cell? ⟨t0.heap.size, 8, none⟩ = some (.int .i64 rsk) ∧ V.cell? ⟨t0.heap.size, 9, none⟩ = some (.int .i64 rse) ∧ V.cell? ⟨t0.heap.size, 10, none⟩ = some (.int .i64 rss)) := fun V hV => by
    have hP := (hV.block _ (heap_lt q0')).trans q0'
    exact ⟨rowFacts hP 0 _ rfl, rowFacts hP 1 _ rfl, rowFacts hP 2 _ rfl, rowFacts hP 3 _ rfl, rowFacts hP 4 _ rfl, rowFacts hP 5 _ rfl, rowFacts hP 6 _ rfl, rowFacts hP 7 _ rfl, rowFacts hP 8 _ rfl, rowFacts hP 9 _ rfl, rowFacts hP 10 _ rfl⟩
  have E0 : Hid (∀ V, Below s0.heap.size s0 V → IsStrs V (some ⟨h0, 0, none⟩) rnames) := fun V hV => (a0.keep c0).keep hV
  have Q0 : Hid (∀ V, Below s0.heap.size s0 V → Below w1.heap.size w1 V) := fun V hV => S0.out.trans (hV.mono S0.out.size)
  clear q0' c0 a0 b0
  go_upto_region 15 with fail
  rw [← hs0]
  clear hs0
  obtain ⟨y0, y1, y2, y3, y4, y5, y6, y7, y8, y9, y10⟩ := KC.out _ S0
  go_wp2_with fail
  refine (TC.out _ (AC.out _ (HB.out _ S0.out))).mono ?_
  rintro e t1 ⟨h1, rfl, a1, b1⟩
  clear y0 y1 y2 y3 y4 y5 y6 y7 y8 y9 y10
  have T1 : Hid (Below w1.heap.size w1 t1) := S0.out.trans (b1.mono S0.out.size)
  obtain ⟨s1, hs1⟩ : ∃ y, y = t1.alloc (.cells #[.int .i64 cser, .string ciss, .string csub, .int .i64 cfr, .int .i64 ctill, .int .i64 ckey, .slice (some ⟨h1, 0, none⟩) cn cn, .bool cca, .int .i64 csk, .int .i64 cse, .int .i64 css] 35 (0, 0)) := ⟨_, rfl⟩
  have q1' : s1.heap[t1.heap.size]? = some (.cells [Value.int .i64 cser, .string ciss, .string csub, .int .i64 cfr, .int .i64 ctill, .int .i64 ckey, .slice (some ⟨h1, 0, none⟩) cn cn, .bool cca, .int .i64 csk, .int .i64 cse, .int .i64 css].toArray 35 (0, 0)) := by rw [hs1]; exact heap_alloc_new t1 _
  have c1 : Below t1.heap.size t1 s1 := by rw [hs1]; exact (Below.refl _ _).alloc (Nat.le_refl _) _
  have S1 : Hid (Below w1.heap.size w1 s1) := T1.out.trans (c1.mono T1.out.size)
  have X1 : Hid (∀ V, Below s1.heap.size s1 V → V.cell? ⟨t1.heap.size, 0, none⟩ = some (.int .i64 cser) ∧ V.cell? ⟨t1.heap.size, 1, none⟩ = some (.string ciss) ∧ V.cell? ⟨t1.heap.size, 2, none⟩ = some (.string csub) ∧ V.cell? ⟨t1.heap.size, 3, none⟩ = some (.int .i64 cfr) ∧ V.cell? ⟨t1.heap.size, 4, none⟩ = some (.int .i64 ctill) ∧ V.cell? ⟨t1.heap.size, 5, none⟩ = some (.int .i64 ckey) ∧ V.cell? ⟨t1.heap.size, 6, none⟩ = some (.slice (some ⟨h1, 0, none⟩) cn cn) ∧ V.cell? ⟨t1.heap.size, 7, none⟩ = some (.bool cca) ∧ V.cell? ⟨t1.heap.size, 8, none⟩ = some (.int .i64 csk) ∧ V.cell? ⟨t1.heap.size, 9, none⟩ = some (.int .i64 cse) ∧ V.cell? ⟨t1.heap.size, 10, none⟩ = some (.int .i64 css)) := fun V hV => by
    have hP := (hV.block _ (heap_lt q1')).trans q1'
    exact ⟨rowFacts hP 0 _ rfl, rowFacts hP 1 _ rfl, rowFacts hP 2 _ rfl, rowFacts hP 3 _ rfl, rowFacts hP 4 _ rfl, rowFacts hP 5 _ rfl, rowFacts hP 6 _ rfl, rowFacts hP 7 _ rfl, rowFacts hP 8 _ rfl, rowFacts hP 9 _ rfl, rowFacts hP 10 _ rfl⟩
  have E1 : Hid (∀ V, Below s1.heap.size s1 V → IsStrs V (some ⟨h1, 0, none⟩) cnames) := fun V hV => (a1.keep c1).keep hV
  have Q1 : Hid (∀ V, Below s1.heap.size s1 V → Below w1.heap.size w1 V) := fun V hV => S1.out.trans (hV.mono S1.out.size)
  have G1 : Hid (Below s0.heap.size s0 s1) := b1.trans (c1.mono b1.size)
  clear q1' c1 a1 b1
  go_upto_region 16 with fail
  rw [← hs1]
  clear hs1
  obtain ⟨z0, z1, z2, z3, z4, z5, z6⟩ := KL.out _ S1
  go_wp2_with fail
  refine (TL.out _ (AL.out _ (HB.out _ S1.out))).mono ?_
  rintro e t2 ⟨h2, rfl, a2, b2⟩
  clear z0 z1 z2 z3 z4 z5 z6
  have T2 : Hid (Below w1.heap.size w1 t2) := S1.out.trans (b2.mono S1.out.size)
  obtain ⟨s2, hs2⟩ : ∃ y, y = t2.alloc (.cells #[.string liss, .int .i64 lfr, .int .i64 ltill, .slice (some ⟨h2, 0, none⟩) ln ln, .int .i64 lsk, .int .i64 lse, .int .i64 lss] 38 (0, 0)) := ⟨_, rfl⟩
  have q2' : s2.heap[t2.heap.size]? = some (.cells [Value.string liss, .int .i64 lfr, .int .i64 ltill, .slice (some ⟨h2, 0, none⟩) ln ln, .int .i64 lsk, .int .i64 lse, .int .i64 lss].toArray 38 (0, 0)) := by rw [hs2]; exact heap_alloc_new t2 _
  have c2 : Below t2.heap.size t2 s2 := by rw [hs2]; exact (Below.refl _ _).alloc (Nat.le_refl _) _
  have S2 : Hid (Below w1.heap.size w1 s2) := T2.out.trans (c2.mono T2.out.size)
  have X2 : Hid (∀ V, Below s2.heap.size s2 V → V.cell? ⟨t2.heap.size, 0, none⟩ = some (.string liss) ∧ V.cell? ⟨t2.heap.size, 1, none⟩ = some (.int .i64 lfr) ∧ V.cell? ⟨t2.heap.size, 2, none⟩ = some (.int .i64 ltill) ∧ V.cell? ⟨t2.heap.size, 3, none⟩ = some (.slice (some ⟨h2, 0, none⟩) ln ln) ∧ V.cell? ⟨t2.heap.size, 4, none⟩ = some (.int .i64 lsk) ∧ V.cell? ⟨t2.heap.size, 5, none⟩ = some (.int .i64 lse) ∧ V.cell? ⟨t2.heap.size, 6, none⟩ = some (.int .i64 lss)) := fun V hV => by
    have hP := (hV.block _ (heap_lt q2')).trans q2'
    exact ⟨rowFacts hP 0 _ rfl, rowFacts hP 1 _ rfl, rowFacts hP 2 _ rfl, rowFacts hP 3 _ rfl, rowFacts hP 4 _ rfl, rowFacts hP 5 _ rfl, rowFacts hP 6 _ rfl⟩
  have E2 : Hid (∀ V, Below s2.heap.size s2 V → IsInts V (some ⟨h2, 0, none⟩) lserials) := fun V hV => (a2.keep c2).keep hV
  have Q2 : Hid (∀ V, Below s2.heap.size s2 V → Below w1.heap.size w1 V) := fun V hV => S2.out.trans (hV.mono S2.out.size)
  have G2 : Hid (Below s1.heap.size s1 s2) := b2.trans (c2.mono b2.size)
  clear q2' c2 a2 b2
  go_upto_region 17 with fail
  rw [← hs2]
  clear hs2
  have Y0 : Hid (∀ V, Below s2.heap.size s2 V → Below s0.heap.size s0 V) := fun V hV => G1.out.trans ((G2.out.trans (hV.mono G2.out.size)).mono G1.out.size)
  have Y1 : Hid (∀ V, Below s2.heap.size s2 V → Below s1.heap.size s1 V) := fun V hV => G2.out.trans (hV.mono G2.out.size)
  have Y2 : Hid (∀ V, Below s2.heap.size s2 V → Below s2.heap.size s2 V) := fun V hV => hV
  have J0 : Hid (Below s2.heap.size s2 s2) := Below.refl _ _
  obtain ⟨x0, x1, x2, x3, x4, x5, x6, x7, x8, x9, x10⟩ := X0.out _ (Y0.out _ J0.out)
  obtain ⟨y0, y1, y2, y3, y4, y5, y6, y7, y8, y9, y10⟩ := X1.out _ (Y1.out _ J0.out)
  obtain ⟨z0, z1, z2, z3, z4, z5, z6⟩ := X2.out _ (Y2.out _ J0.out)
  go_wp2_with fail
  refine (HI.out _ h0 h1 h2 (HF0.out _ (HB.out _ (Q2.out _ J0.out))) (HF1.out _ (HB.out _ (Q2.out _ J0.out))) (E0.out _ (Y0.out _ J0.out)) (E1.out _ (Y1.out _ J0.out)) (E2.out _ J0.out)).mono ?_
  rintro e j1 ⟨rfl, b1⟩
  have J1 : Hid (Below s2.heap.size s2 j1) := b1
  clear b1 x0 x1 x2 x3 x4 x5 x6 x7 x8 x9 x10 y0 y1 y2 y3 y4 y5 y6 y7 y8 y9 y10 z0 z1 z2 z3 z4 z5 z6
  have hRR : (R != R) = false := by simp
  go_upto_region 20 with fail
  have SS0 : Hid (∀ V, Below s2.heap.size s2 V → (V.cell? ⟨t0.heap.size, 0, none⟩ = some (.int .i64 rser) ∧ V.cell? ⟨t0.heap.size, 1, none⟩ = some (.string riss) ∧ V.cell? ⟨t0.heap.size, 2, none⟩ = some (.string rsub) ∧ V.cell? ⟨t0.heap.size, 3, none⟩ = some (.int .i64 rfr) ∧ V.cell? ⟨t0.heap.size, 4, none⟩ = some (.int .i64 rtill) ∧ V.cell? ⟨t0.heap.size, 5, none⟩ = some (.int .i64 rkey) ∧ V.cell? ⟨t0.heap.size, 6, none⟩ = some (.slice (some ⟨h0, 0, none⟩) rn rn) ∧ V.cell? ⟨t0.heap.size, 7, none⟩ = some (.bool rca) ∧ V.cell? ⟨t0.heap.size, 8, none⟩ = some (.int .i64 rsk) ∧ V.cell? ⟨t0.heap.size, 9, none⟩ = some (.int .i64 rse) ∧ V.cell? ⟨t0.heap.size, 10, none⟩ = some (.int .i64 rss)) ∧ (V.cell? ⟨w.heap.size, 0, none⟩ = some (.int .i64 rser) ∧ V.cell? ⟨w.heap.size, 1, none⟩ = some (.string riss) ∧ V.cell? ⟨w.heap.size, 2, none⟩ = some (.string rsub) ∧ V.cell? ⟨w.heap.size, 3, none⟩ = some (.int .i64 rfr) ∧ V.cell? ⟨w.heap.size, 4, none⟩ = some (.int .i64 rtill) ∧ V.cell? ⟨w.heap.size, 5, none⟩ = some (.int .i64 rkey) ∧ V.cell? ⟨w.heap.size, 6, none⟩ = some (.slice ra rn rc) ∧ V.cell? ⟨w.heap.size, 7, none⟩ = some (.bool rca) ∧ V.cell? ⟨w.heap.size, 8, none⟩ = some (.int .i64 rsk) ∧ V.cell? ⟨w.heap.size, 9, none⟩ = some (.int .i64 rse) ∧ V.cell? ⟨w.heap.size, 10, none⟩ = some (.int .i64 rss))) := fun V hV => ⟨X0.out V (Y0.out V hV), KR.out V (show Hid _ from Q2.out V hV)⟩
  have D11 : Hid (Below s2.heap.size s2 j1.drew) := J1.out.drew
  refine wp_region_held_drew (S := fun V => (V.cell? ⟨t0.heap.size, 0, none⟩ = some (.int .i64 rser) ∧ V.cell? ⟨t0.heap.size, 1, none⟩ = some (.string riss) ∧ V.cell? ⟨t0.heap.size, 2, none⟩ = some (.string rsub) ∧ V.cell? ⟨t0.heap.size, 3, none⟩ = some (.int .i64 rfr) ∧ V.cell? ⟨t0.heap.size, 4, none⟩ = some (.int .i64 rtill) ∧ V.cell? ⟨t0.heap.size, 5, none⟩ = some (.int .i64 rkey) ∧ V.cell? ⟨t0.heap.size, 6, none⟩ = some (.slice (some ⟨h0, 0, none⟩) rn rn) ∧ V.cell? ⟨t0.heap.size, 7, none⟩ = some (.bool rca) ∧ V.cell? ⟨t0.heap.size, 8, none⟩ = some (.int .i64 rsk) ∧ V.cell? ⟨t0.heap.size, 9, none⟩ = some (.int .i64 rse) ∧ V.cell? ⟨t0.heap.size, 10, none⟩ = some (.int .i64 rss)) ∧ (V.cell? ⟨w.heap.size, 0, none⟩ = some (.int .i64 rser) ∧ V.cell? ⟨w.heap.size, 1, none⟩ = some (.string riss) ∧ V.cell? ⟨w.heap.size, 2, none⟩ = some (.string rsub) ∧ V.cell? ⟨w.heap.size, 3, none⟩ = some (.int .i64 rfr) ∧ V.cell? ⟨w.heap.size, 4, none⟩ = some (.int .i64 rtill) ∧ V.cell? ⟨w.heap.size, 5, none⟩ = some (.int .i64 rkey) ∧ V.cell? ⟨w.heap.size, 6, none⟩ = some (.slice ra rn rc) ∧ V.cell? ⟨w.heap.size, 7, none⟩ = some (.bool rca) ∧ V.cell? ⟨w.heap.size, 8, none⟩ = some (.int .i64 rsk) ∧ V.cell? ⟨w.heap.size, 9, none⟩ = some (.int .i64 rse) ∧ V.cell? ⟨w.heap.size, 10, none⟩ = some (.int .i64 rss))) (by kernel_rfl) ?_ (fun hHeld => ?_)
  · exact SS0.out _ D11.out
  refine wpAnyH_take (i := 0) (oi := ⟨some 59, _, _, _, _, _⟩) (v := ?_) rfl (by kernel_rfl) (by kernel_rfl) (by kernel_rfl) (fun _ _ _ h => h) (Or.inl ⟨by kernel_rfl, ?_⟩) (by assumption) ?_
  rotate_left
  · (intro w hSw; (try dsimp only at hSw); go_simp; try with_reducible rfl)
  (try simp only [Act.put, List.setIfInBounds_toArray, List.set_cons_zero, List.set_cons_succ])
  refine wpAnyH_take (i := 1) (oi := ⟨some 60, _, _, _, _, _⟩) (v := ?_) rfl (by kernel_rfl) (by kernel_rfl) (by kernel_rfl) (fun _ _ _ h => h) (Or.inl ⟨by kernel_rfl, ?_⟩) (by assumption) ?_
  rotate_left
  · (intro w hSw; (try dsimp only at hSw); go_simp; try with_reducible rfl)
  (try simp only [Act.put, List.setIfInBounds_toArray, List.set_cons_zero, List.set_cons_succ])
  refine wpAnyH_ready (rs := [2]) (by kernel_rfl) (by simp) ?_
  refine AllReadyH.cons (o := ⟨some 61, _, _, _, _, _⟩) rfl (fun K hK => ?_) AllReadyH.nil
  go_simp
  refine (TR.out _ (AR.out _ (HB.out _ (Q2.out _ D11.out)))).mono ?_
  rintro e j2 ⟨g0', rfl, a8, b8⟩
  have J2 : Hid (Below s2.heap.size s2 j2) := D11.out.trans (b8.mono D11.out.size)
  have A8 : Hid (IsStrs j2 (some ⟨g0', 0, none⟩) rnames) := a8
  clear a8 b8
  refine hK.out _ _ ?_ (fun hHeld => ?_)
  · exact SS0.out _ J2.out
  clear hK K
  (try simp only [Act.put, List.setIfInBounds_toArray, List.set_cons_zero, List.set_cons_succ])
  refine wpAnyH_ready (rs := [3]) (by kernel_rfl) (by simp) ?_
  refine AllReadyH.cons (o := ⟨some 62, _, _, _, _, _⟩) rfl (fun K hK => ?_) AllReadyH.nil
  go_simp
  refine (ER.out _ h0 g0' (E0.out _ (Y0.out _ J2.out)) A8.out).mono ?_
  rintro e j3 ⟨rfl, b9⟩
  have J3 : Hid (Below s2.heap.size s2 j3) := J2.out.trans (b9.mono J2.out.size)
  clear b9 A8
  refine hK.out _ _ ?_ (fun hHeld => ?_)
  · exact SS0.out _ J3.out
  clear hK K
  (try simp only [Act.put, List.setIfInBounds_toArray, List.set_cons_zero, List.set_cons_succ])
  refine wpAnyH_take (i := 4) (oi := ⟨some 63, _, _, _, _, _⟩) (v := ?_) rfl (by kernel_rfl) (by kernel_rfl) (by kernel_rfl) (fun _ _ _ h => h) (Or.inl ⟨by kernel_rfl, ?_⟩) (by assumption) ?_
  rotate_left
  · (intro w hSw; (try dsimp only at hSw); go_simp; try with_reducible rfl)
  (try simp only [Act.put, List.setIfInBounds_toArray, List.set_cons_zero, List.set_cons_succ])
  refine wpAnyH_done (by kernel_rfl) ?_ _
  go_upto_region 22 with fail
  have SS1 : Hid (∀ V, Below s2.heap.size s2 V → (V.cell? ⟨t1.heap.size, 0, none⟩ = some (.int .i64 cser) ∧ V.cell? ⟨t1.heap.size, 1, none⟩ = some (.string ciss) ∧ V.cell? ⟨t1.heap.size, 2, none⟩ = some (.string csub) ∧ V.cell? ⟨t1.heap.size, 3, none⟩ = some (.int .i64 cfr) ∧ V.cell? ⟨t1.heap.size, 4, none⟩ = some (.int .i64 ctill) ∧ V.cell? ⟨t1.heap.size, 5, none⟩ = some (.int .i64 ckey) ∧ V.cell? ⟨t1.heap.size, 6, none⟩ = some (.slice (some ⟨h1, 0, none⟩) cn cn) ∧ V.cell? ⟨t1.heap.size, 7, none⟩ = some (.bool cca) ∧ V.cell? ⟨t1.heap.size, 8, none⟩ = some (.int .i64 csk) ∧ V.cell? ⟨t1.heap.size, 9, none⟩ = some (.int .i64 cse) ∧ V.cell? ⟨t1.heap.size, 10, none⟩ = some (.int .i64 css)) ∧ (V.cell? ⟨w.heap.size + 1, 0, none⟩ = some (.int .i64 cser) ∧ V.cell? ⟨w.heap.size + 1, 1, none⟩ = some (.string ciss) ∧ V.cell? ⟨w.heap.size + 1, 2, none⟩ = some (.string csub) ∧ V.cell? ⟨w.heap.size + 1, 3, none⟩ = some (.int .i64 cfr) ∧ V.cell? ⟨w.heap.size + 1, 4, none⟩ = some (.int .i64 ctill) ∧ V.cell? ⟨w.heap.size + 1, 5, none⟩ = some (.int .i64 ckey) ∧ V.cell? ⟨w.heap.size + 1, 6, none⟩ = some (.slice ca cn cc) ∧ V.cell? ⟨w.heap.size + 1, 7, none⟩ = some (.bool cca) ∧ V.cell? ⟨w.heap.size + 1, 8, none⟩ = some (.int .i64 csk) ∧ V.cell? ⟨w.heap.size + 1, 9, none⟩ = some (.int .i64 cse) ∧ V.cell? ⟨w.heap.size + 1, 10, none⟩ = some (.int .i64 css))) := fun V hV => ⟨X1.out V (Y1.out V hV), KC.out V (show Hid _ from Q2.out V hV)⟩
  have D13 : Hid (Below s2.heap.size s2 j3.drew) := J3.out.drew
  refine wp_region_held_drew (S := fun V => (V.cell? ⟨t1.heap.size, 0, none⟩ = some (.int .i64 cser) ∧ V.cell? ⟨t1.heap.size, 1, none⟩ = some (.string ciss) ∧ V.cell? ⟨t1.heap.size, 2, none⟩ = some (.string csub) ∧ V.cell? ⟨t1.heap.size, 3, none⟩ = some (.int .i64 cfr) ∧ V.cell? ⟨t1.heap.size, 4, none⟩ = some (.int .i64 ctill) ∧ V.cell? ⟨t1.heap.size, 5, none⟩ = some (.int .i64 ckey) ∧ V.cell? ⟨t1.heap.size, 6, none⟩ = some (.slice (some ⟨h1, 0, none⟩) cn cn) ∧ V.cell? ⟨t1.heap.size, 7, none⟩ = some (.bool cca) ∧ V.cell? ⟨t1.heap.size, 8, none⟩ = some (.int .i64 csk) ∧ V.cell? ⟨t1.heap.size, 9, none⟩ = some (.int .i64 cse) ∧ V.cell? ⟨t1.heap.size, 10, none⟩ = some (.int .i64 css)) ∧ (V.cell? ⟨w.heap.size + 1, 0, none⟩ = some (.int .i64 cser) ∧ V.cell? ⟨w.heap.size + 1, 1, none⟩ = some (.string ciss) ∧ V.cell? ⟨w.heap.size + 1, 2, none⟩ = some (.string csub) ∧ V.cell? ⟨w.heap.size + 1, 3, none⟩ = some (.int .i64 cfr) ∧ V.cell? ⟨w.heap.size + 1, 4, none⟩ = some (.int .i64 ctill) ∧ V.cell? ⟨w.heap.size + 1, 5, none⟩ = some (.int .i64 ckey) ∧ V.cell? ⟨w.heap.size + 1, 6, none⟩ = some (.slice ca cn cc) ∧ V.cell? ⟨w.heap.size + 1, 7, none⟩ = some (.bool cca) ∧ V.cell? ⟨w.heap.size + 1, 8, none⟩ = some (.int .i64 csk) ∧ V.cell? ⟨w.heap.size + 1, 9, none⟩ = some (.int .i64 cse) ∧ V.cell? ⟨w.heap.size + 1, 10, none⟩ = some (.int .i64 css))) (by kernel_rfl) ?_ (fun hHeld => ?_)
  · exact SS1.out _ D13.out
  refine wpAnyH_take (i := 0) (oi := ⟨some 64, _, _, _, _, _⟩) (v := ?_) rfl (by kernel_rfl) (by kernel_rfl) (by kernel_rfl) (fun _ _ _ h => h) (Or.inl ⟨by kernel_rfl, ?_⟩) (by assumption) ?_
  rotate_left
  · (intro w hSw; (try dsimp only at hSw); go_simp; try with_reducible rfl)
  (try simp only [Act.put, List.setIfInBounds_toArray, List.set_cons_zero, List.set_cons_succ])
  refine wpAnyH_take (i := 1) (oi := ⟨some 65, _, _, _, _, _⟩) (v := ?_) rfl (by kernel_rfl) (by kernel_rfl) (by kernel_rfl) (fun _ _ _ h => h) (Or.inl ⟨by kernel_rfl, ?_⟩) (by assumption) ?_
  rotate_left
  · (intro w hSw; (try dsimp only at hSw); go_simp; try with_reducible rfl)
  (try simp only [Act.put, List.setIfInBounds_toArray, List.set_cons_zero, List.set_cons_succ])
  refine wpAnyH_ready (rs := [2]) (by kernel_rfl) (by simp) ?_
  refine AllReadyH.cons (o := ⟨some 66, _, _, _, _, _⟩) rfl (fun K hK => ?_) AllReadyH.nil
  go_simp
  refine (TC.out _ (AC.out _ (HB.out _ (Q2.out _ D13.out)))).mono ?_
  rintro e j4 ⟨g1', rfl, a8, b8⟩
  have J4 : Hid (Below s2.heap.size s2 j4) := D13.out.trans (b8.mono D13.out.size)
  have A8 : Hid (IsStrs j4 (some ⟨g1', 0, none⟩) cnames) := a8
  clear a8 b8
  refine hK.out _ _ ?_ (fun hHeld => ?_)
  · exact SS1.out _ J4.out
  clear hK K
  (try simp only [Act.put, List.setIfInBounds_toArray, List.set_cons_zero, List.set_cons_succ])
  refine wpAnyH_ready (rs := [3]) (by kernel_rfl) (by simp) ?_
  refine AllReadyH.cons (o := ⟨some 67, _, _, _, _, _⟩) rfl (fun K hK => ?_) AllReadyH.nil
  go_simp
  refine (EC.out _ h1 g1' (E1.out _ (Y1.out _ J4.out)) A8.out).mono ?_
  rintro e j5 ⟨rfl, b9⟩
  have J5 : Hid (Below s2.heap.size s2 j5) := J4.out.trans (b9.mono J4.out.size)
  clear b9 A8
  refine hK.out _ _ ?_ (fun hHeld => ?_)
  · exact SS1.out _ J5.out
  clear hK K
  (try simp only [Act.put, List.setIfInBounds_toArray, List.set_cons_zero, List.set_cons_succ])
  refine wpAnyH_take (i := 4) (oi := ⟨some 68, _, _, _, _, _⟩) (v := ?_) rfl (by kernel_rfl) (by kernel_rfl) (by kernel_rfl) (fun _ _ _ h => h) (Or.inl ⟨by kernel_rfl, ?_⟩) (by assumption) ?_
  rotate_left
  · (intro w hSw; (try dsimp only at hSw); go_simp; try with_reducible rfl)
  (try simp only [Act.put, List.setIfInBounds_toArray, List.set_cons_zero, List.set_cons_succ])
  refine wpAnyH_done (by kernel_rfl) ?_ _
  go_upto_region 24 with fail
  have SS2 : Hid (∀ V, Below s2.heap.size s2 V → (V.cell? ⟨t2.heap.size, 0, none⟩ = some (.string liss) ∧ V.cell? ⟨t2.heap.size, 1, none⟩ = some (.int .i64 lfr) ∧ V.cell? ⟨t2.heap.size, 2, none⟩ = some (.int .i64 ltill) ∧ V.cell? ⟨t2.heap.size, 3, none⟩ = some (.slice (some ⟨h2, 0, none⟩) ln ln) ∧ V.cell? ⟨t2.heap.size, 4, none⟩ = some (.int .i64 lsk) ∧ V.cell? ⟨t2.heap.size, 5, none⟩ = some (.int .i64 lse) ∧ V.cell? ⟨t2.heap.size, 6, none⟩ = some (.int .i64 lss)) ∧ (V.cell? ⟨w.heap.size + 1 + 1, 0, none⟩ = some (.string liss) ∧ V.cell? ⟨w.heap.size + 1 + 1, 1, none⟩ = some (.int .i64 lfr) ∧ V.cell? ⟨w.heap.size + 1 + 1, 2, none⟩ = some (.int .i64 ltill) ∧ V.cell? ⟨w.heap.size + 1 + 1, 3, none⟩ = some (.slice la ln lc) ∧ V.cell? ⟨w.heap.size + 1 + 1, 4, none⟩ = some (.int .i64 lsk) ∧ V.cell? ⟨w.heap.size + 1 + 1, 5, none⟩ = some (.int .i64 lse) ∧ V.cell? ⟨w.heap.size + 1 + 1, 6, none⟩ = some (.int .i64 lss))) := fun V hV => ⟨X2.out V (Y2.out V hV), KL.out V (show Hid _ from Q2.out V hV)⟩
  have D15 : Hid (Below s2.heap.size s2 j5.drew) := J5.out.drew
  refine wp_region_held_drew (S := fun V => (V.cell? ⟨t2.heap.size, 0, none⟩ = some (.string liss) ∧ V.cell? ⟨t2.heap.size, 1, none⟩ = some (.int .i64 lfr) ∧ V.cell? ⟨t2.heap.size, 2, none⟩ = some (.int .i64 ltill) ∧ V.cell? ⟨t2.heap.size, 3, none⟩ = some (.slice (some ⟨h2, 0, none⟩) ln ln) ∧ V.cell? ⟨t2.heap.size, 4, none⟩ = some (.int .i64 lsk) ∧ V.cell? ⟨t2.heap.size, 5, none⟩ = some (.int .i64 lse) ∧ V.cell? ⟨t2.heap.size, 6, none⟩ = some (.int .i64 lss)) ∧ (V.cell? ⟨w.heap.size + 1 + 1, 0, none⟩ = some (.string liss) ∧ V.cell? ⟨w.heap.size + 1 + 1, 1, none⟩ = some (.int .i64 lfr) ∧ V.cell? ⟨w.heap.size + 1 + 1, 2, none⟩ = some (.int .i64 ltill) ∧ V.cell? ⟨w.heap.size + 1 + 1, 3, none⟩ = some (.slice la ln lc) ∧ V.cell? ⟨w.heap.size + 1 + 1, 4, none⟩ = some (.int .i64 lsk) ∧ V.cell? ⟨w.heap.size + 1 + 1, 5, none⟩ = some (.int .i64 lse) ∧ V.cell? ⟨w.heap.size + 1 + 1, 6, none⟩ = some (.int .i64 lss))) (by kernel_rfl) ?_ (fun hHeld => ?_)
  · exact SS2.out _ D15.out
  refine wpAnyH_take (i := 0) (oi := ⟨some 69, _, _, _, _, _⟩) (v := ?_) rfl (by kernel_rfl) (by kernel_rfl) (by kernel_rfl) (fun _ _ _ h => h) (Or.inl ⟨by kernel_rfl, ?_⟩) (by assumption) ?_
  rotate_left
  · (intro w hSw; (try dsimp only at hSw); go_simp; try with_reducible rfl)
  (try simp only [Act.put, List.setIfInBounds_toArray, List.set_cons_zero, List.set_cons_succ])
  refine wpAnyH_take (i := 1) (oi := ⟨some 70, _, _, _, _, _⟩) (v := ?_) rfl (by kernel_rfl) (by kernel_rfl) (by kernel_rfl) (fun _ _ _ h => h) (Or.inl ⟨by kernel_rfl, ?_⟩) (by assumption) ?_
  rotate_left
  · (intro w hSw; (try dsimp only at hSw); go_simp; try with_reducible rfl)
  (try simp only [Act.put, List.setIfInBounds_toArray, List.set_cons_zero, List.set_cons_succ])
  refine wpAnyH_ready (rs := [2]) (by kernel_rfl) (by simp) ?_
  refine AllReadyH.cons (o := ⟨some 71, _, _, _, _, _⟩) rfl (fun K hK => ?_) AllReadyH.nil
  go_simp
  refine (TL.out _ (AL.out _ (HB.out _ (Q2.out _ D15.out)))).mono ?_
  rintro e j6 ⟨g2', rfl, a8, b8⟩
  have J6 : Hid (Below s2.heap.size s2 j6) := D15.out.trans (b8.mono D15.out.size)
  have A8 : Hid (IsInts j6 (some ⟨g2', 0, none⟩) lserials) := a8
  clear a8 b8
  refine hK.out _ _ ?_ (fun hHeld => ?_)
  · exact SS2.out _ J6.out
  clear hK K
  (try simp only [Act.put, List.setIfInBounds_toArray, List.set_cons_zero, List.set_cons_succ])
  refine wpAnyH_ready (rs := [3]) (by kernel_rfl) (by simp) ?_
  refine AllReadyH.cons (o := ⟨some 72, _, _, _, _, _⟩) rfl (fun K hK => ?_) AllReadyH.nil
  go_simp
  refine (EL.out _ h2 g2' (E2.out _ (Y2.out _ J6.out)) A8.out).mono ?_
  rintro e j7 ⟨rfl, b9⟩
  have J7 : Hid (Below s2.heap.size s2 j7) := J6.out.trans (b9.mono J6.out.size)
  clear b9 A8
  refine hK.out _ _ ?_ (fun hHeld => ?_)
  · exact SS2.out _ J7.out
  clear hK K
  (try simp only [Act.put, List.setIfInBounds_toArray, List.set_cons_zero, List.set_cons_succ])
  refine wpAnyH_take (i := 4) (oi := ⟨some 73, _, _, _, _, _⟩) (v := ?_) rfl (by kernel_rfl) (by kernel_rfl) (by kernel_rfl) (fun _ _ _ h => h) (Or.inl ⟨by kernel_rfl, ?_⟩) (by assumption) ?_
  rotate_left
  · (intro w hSw; (try dsimp only at hSw); go_simp; try with_reducible rfl)
  (try simp only [Act.put, List.setIfInBounds_toArray, List.set_cons_zero, List.set_cons_succ])
  refine wpAnyH_done (by kernel_rfl) ?_ _
  go_wp2
  go_ret
  exact ⟨rfl, HB.out _ (Q2.out _ J7.out)⟩
end Go.Proofs.YtkbmeenojclcmaaGreatDoor
