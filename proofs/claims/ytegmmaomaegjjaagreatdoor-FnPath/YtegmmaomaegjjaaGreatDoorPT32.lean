/- FnPath, walked: what PathCheck and PathName tell of drawn papers is what the specification tells; of papers that are made there, what is known. -/
import Derived.Test.YtegmmaomaegjjaaGreatDoorPT17
import Derived.Test.YtegmmaomaegjjaaGreatDoorPT24
import Derived.Test.YtegmmaomaegjjaaGreatDoorPT27
import Derived.Test.YtegmmaomaegjjaaGreatDoorPT28
import Derived.Test.YtegmmaomaegjjaaGreatDoorPT30
import Derived.Test.YtegmmaomaegjjaaGreatDoorPT09
import Derived.Test.YtegmmaomaegjjaaGreatDoorPT31
import Derived.Test.YtegmmaomaegjjaaGreatDoorPT01
import Derived.Deep.Cut
import Derived.Deep.RegionHeld3
namespace Go.Proofs.YtegmmaomaegjjaaGreatDoor
open Go.RowKit

set_option linter.unusedSimpArgs false in
set_option linter.unusedVariables false in
set_option maxHeartbeats 16000000 in
set_option maxRecDepth 100000 in
theorem pathTop (w : World) (a0 : Option Addr) (len0 cap0 : Nat) (z0 : List Int) (w0 : IsRow .u8 w a0 len0 cap0 z0) (a1 : Option Addr) (len1 cap1 : Nat) (z1 : List Int) (w1' : IsRow .u8 w a1 len1 cap1 z1) (hk : Keys w ∧ Err3 w) :
    Calls Tryz.prog 3 #[.slice a0 len0 cap0, .slice a1 len1 cap1] w fun e w' => e = .returned (.bool true) ∧ Below w.heap.size w w' := by
  have hkp := hk.1.pos
  have HKE : Hid (∀ V, Below w.heap.size w V → Keys V ∧ Err3 V) := fun V hV => ⟨hk.1.below hV hkp, hk.2.keep hV⟩
  clear hk hkp
  have hl0 := w0.len_le
  have hl1 := w1'.len_le
  unfold maxLen at hl0 hl1
  obtain ⟨hc0, hk0⟩ := w0.code
  obtain ⟨hc1, hk1⟩ := w1'.code
  clear w0 w1'
  by_cases h0 : 1048576 < len0
  · clear hc0 hk0 hc1 hk1
    go_enter Tryz.func3, Tryz.ntmps3
    go_wp2
    go_ret
    exact ⟨rfl, Below.refl _ _⟩
  by_cases h1 : 1048576 < len1
  · clear hc0 hk0 hc1 hk1
    go_enter Tryz.func3, Tryz.ntmps3
    go_wp2
    go_ret
    exact ⟨rfl, Below.refl _ _⟩
  have HC0 : Hid (∀ V, Below w.heap.size w V → CodeAt a0 len0 V) := fun V hV => hc0.below hV hk0
  have HB0 : Hid (∀ V, Below w.heap.size w V → ∀ x, 0 < len0 → a0 = some x → x.block < V.heap.size) := fun V hV x hx hx' => Nat.lt_of_lt_of_le (hk0 x hx hx') hV.size
  have HC1 : Hid (∀ V, Below w.heap.size w V → CodeAt a1 len1 V) := fun V hV => hc1.below hV hk1
  have HB1 : Hid (∀ V, Below w.heap.size w V → ∀ x, 0 < len1 → a1 = some x → x.block < V.heap.size) := fun V hV x hx hx' => Nat.lt_of_lt_of_le (hk1 x hx hx') hV.size
  clear hc0 hk0 hc1 hk1
  go_enter Tryz.func3, Tryz.ntmps3
  go_wp2_with fail
  refine (drawPathF a0 len0 cap0 _ (by omega) (HC0.out _ (Below.refl _ _)) (HB0.out _ (Below.refl _ _))).mono ?_
  rintro e w2 ⟨aser, afr, atill, akey, ask, ase, ass, aiss, asub, anames, aca, bser, bfr, btill, bkey, bsk, bse, bss, biss, bsub, bnames, bca, diss, dfr, dtill, dsk, dse, dss, dser, tv, ra, ca0, la0, RN, CN, LN, rc, cc0, lc0, rfl, hlens, htv, hm1, hm2, hm3, o1, o2, o3, hb2⟩
  have B2 : Hid (Below w.heap.size w w2) := hb2
  clear hb2
  have i1 := o1.strs
  have i2 := o2.strs
  have i3 := o3.ints
  have q1 : PIn ⟨aser, aiss, asub, afr, atill, akey, anames, aca, ask, ase, ass⟩ := ⟨by have := hm1.iss; unfold maxLen; omega, by have := hm1.sub; unfold maxLen; omega, by have := hm1.len; omega, by have := hm1.tot; omega⟩
  have q2 : PIn ⟨bser, biss, bsub, bfr, btill, bkey, bnames, bca, bsk, bse, bss⟩ := ⟨by have := hm2.iss; unfold maxLen; omega, by have := hm2.sub; unfold maxLen; omega, by have := hm2.len; omega, by have := hm2.tot; omega⟩
  have q3 : LIn ⟨diss, dfr, dtill, dser, dsk, dse, dss⟩ := ⟨by have := hm3.iss; unfold maxLen; omega, by have := hm3.len; omega⟩
  have TI : Hid (∀ V, Below w2.heap.size w2 V → Keys V → Err3 V → Calls Tryz.prog 5 #[.agg #[.int .i64 aser, .string aiss, .string asub, .int .i64 afr, .int .i64 atill, .int .i64 akey, .slice ra RN rc, .bool aca, .int .i64 ask, .int .i64 ase, .int .i64 ass], .agg #[.int .i64 bser, .string biss, .string bsub, .int .i64 bfr, .int .i64 btill, .int .i64 bkey, .slice ca0 CN cc0, .bool bca, .int .i64 bsk, .int .i64 bse, .int .i64 bss], .agg #[.string diss, .int .i64 dfr, .int .i64 dtill, .slice la0 LN lc0, .int .i64 dsk, .int .i64 dse, .int .i64 dss], .int .i64 tv] V fun e w' => e = .returned (.int .i64 (pathC ⟨aser, aiss, asub, afr, atill, akey, anames, aca, ask, ase, ass⟩ ⟨bser, biss, bsub, bfr, btill, bkey, bnames, bca, bsk, bse, bss⟩ ⟨diss, dfr, dtill, dser, dsk, dse, dss⟩ tv)) ∧ Below V.heap.size V w') := fun V hV h1 h2 => by
    have q := implPath ⟨aser, aiss, asub, afr, atill, akey, anames, aca, ask, ase, ass⟩ ⟨bser, biss, bsub, bfr, btill, bkey, bnames, bca, bsk, bse, bss⟩ ⟨diss, dfr, dtill, dser, dsk, dse, dss⟩ tv ra ca0 la0 rc cc0 lc0 V q1 q2 q3 (i1.keep hV) (i2.keep hV) (i3.keep hV) h1 h2
    rw [show (⟨aser, aiss, asub, afr, atill, akey, anames, aca, ask, ase, ass⟩ : Paper).names.length = RN from hlens.out.1.symm, show (⟨bser, biss, bsub, bfr, btill, bkey, bnames, bca, bsk, bse, bss⟩ : Paper).names.length = CN from hlens.out.2.1.symm, show (⟨diss, dfr, dtill, dser, dsk, dse, dss⟩ : Lst).serials.length = LN from hlens.out.2.2.symm] at q
    exact q
  have TS : Hid (∀ V, Below w2.heap.size w2 V → Calls Tryz.prog 6 #[.agg #[.int .i64 aser, .string aiss, .string asub, .int .i64 afr, .int .i64 atill, .int .i64 akey, .slice ra RN rc, .bool aca, .int .i64 ask, .int .i64 ase, .int .i64 ass], .agg #[.int .i64 bser, .string biss, .string bsub, .int .i64 bfr, .int .i64 btill, .int .i64 bkey, .slice ca0 CN cc0, .bool bca, .int .i64 bsk, .int .i64 bse, .int .i64 bss], .agg #[.string diss, .int .i64 dfr, .int .i64 dtill, .slice la0 LN lc0, .int .i64 dsk, .int .i64 dse, .int .i64 dss], .int .i64 tv] V fun e w' => e = .returned (.int .i64 (pathC ⟨aser, aiss, asub, afr, atill, akey, anames, aca, ask, ase, ass⟩ ⟨bser, biss, bsub, bfr, btill, bkey, bnames, bca, bsk, bse, bss⟩ ⟨diss, dfr, dtill, dser, dsk, dse, dss⟩ tv)) ∧ Below V.heap.size V w') := fun V hV => by
    have q := specPath ⟨aser, aiss, asub, afr, atill, akey, anames, aca, ask, ase, ass⟩ ⟨bser, biss, bsub, bfr, btill, bkey, bnames, bca, bsk, bse, bss⟩ ⟨diss, dfr, dtill, dser, dsk, dse, dss⟩ tv ra ca0 la0 rc cc0 lc0 V q1 q2 q3 (i1.keep hV) (i2.keep hV) (i3.keep hV)
    rw [show (⟨aser, aiss, asub, afr, atill, akey, anames, aca, ask, ase, ass⟩ : Paper).names.length = RN from hlens.out.1.symm, show (⟨bser, biss, bsub, bfr, btill, bkey, bnames, bca, bsk, bse, bss⟩ : Paper).names.length = CN from hlens.out.2.1.symm, show (⟨diss, dfr, dtill, dser, dsk, dse, dss⟩ : Lst).serials.length = LN from hlens.out.2.2.symm] at q
    exact q
  generalize pathC ⟨aser, aiss, asub, afr, atill, akey, anames, aca, ask, ase, ass⟩ ⟨bser, biss, bsub, bfr, btill, bkey, bnames, bca, bsk, bse, bss⟩ ⟨diss, dfr, dtill, dser, dsk, dse, dss⟩ tv = pc at *
  clear i1 i2 i3 q1 q2 q3 o1 o2 o3 hm1 hm2 hm3 hlens
  obtain ⟨w3, hw3⟩ : ∃ y, y = ((w2.alloc (.cells [Value.int .i64 0, .string ⟨#[]⟩, .string ⟨#[]⟩, .int .i64 0, .int .i64 0, .int .i64 0, .slice none 0 0, .bool false, .int .i64 0, .int .i64 0, .int .i64 0].toArray 27 (0, 0))).alloc (.cells [Value.int .i64 0, .string ⟨#[]⟩, .string ⟨#[]⟩, .int .i64 0, .int .i64 0, .int .i64 0, .slice none 0 0, .bool false, .int .i64 0, .int .i64 0, .int .i64 0].toArray 27 (0, 0))).alloc (.cells [Value.string ⟨#[]⟩, .int .i64 0, .int .i64 0, .slice none 0 0, .int .i64 0, .int .i64 0, .int .i64 0].toArray 30 (0, 0)) := ⟨_, rfl⟩
  have b3 : Below w2.heap.size w2 w3 := by rw [hw3]; exact (((Below.refl _ _).alloc (Nat.le_refl _) _).alloc (by simp) _).alloc (by simp; omega) _
  have zy1 : w3.heap[w2.heap.size]? = some (.cells [Value.int .i64 0, .string ⟨#[]⟩, .string ⟨#[]⟩, .int .i64 0, .int .i64 0, .int .i64 0, .slice none 0 0, .bool false, .int .i64 0, .int .i64 0, .int .i64 0].toArray 27 (0, 0)) := by rw [hw3]; rw [Below.heap_alloc _ _ _ (by simp; omega), Below.heap_alloc _ _ _ (by simp)]; exact heap_alloc_new w2 _
  have zy2 : w3.heap[w2.heap.size + 1]? = some (.cells [Value.int .i64 0, .string ⟨#[]⟩, .string ⟨#[]⟩, .int .i64 0, .int .i64 0, .int .i64 0, .slice none 0 0, .bool false, .int .i64 0, .int .i64 0, .int .i64 0].toArray 27 (0, 0)) := by rw [hw3]; rw [Below.heap_alloc _ _ _ (by simp)]; exact heap_alloc2 w2 _ _
  have zy3 : w3.heap[w2.heap.size + 2]? = some (.cells [Value.string ⟨#[]⟩, .int .i64 0, .int .i64 0, .slice none 0 0, .int .i64 0, .int .i64 0, .int .i64 0].toArray 30 (0, 0)) := by rw [hw3]; have := heap_alloc_new ((w2.alloc (.cells [Value.int .i64 0, .string ⟨#[]⟩, .string ⟨#[]⟩, .int .i64 0, .int .i64 0, .int .i64 0, .slice none 0 0, .bool false, .int .i64 0, .int .i64 0, .int .i64 0].toArray 27 (0, 0))).alloc (.cells [Value.int .i64 0, .string ⟨#[]⟩, .string ⟨#[]⟩, .int .i64 0, .int .i64 0, .int .i64 0, .slice none 0 0, .bool false, .int .i64 0, .int .i64 0, .int .i64 0].toArray 27 (0, 0))) (.cells [Value.string ⟨#[]⟩, .int .i64 0, .int .i64 0, .slice none 0 0, .int .i64 0, .int .i64 0, .int .i64 0].toArray 30 (0, 0)); simpa using this
  have ho1 : ∀ u ∈ [Value.int .i64 aser, .string aiss, .string asub, .int .i64 afr, .int .i64 atill, .int .i64 akey, .slice ra RN rc, .bool aca, .int .i64 ask, .int .i64 ase, .int .i64 ass], u.oneCell' = true := by simp [Value.oneCell']
  have ho2 : ∀ u ∈ [Value.int .i64 bser, .string biss, .string bsub, .int .i64 bfr, .int .i64 btill, .int .i64 bkey, .slice ca0 CN cc0, .bool bca, .int .i64 bsk, .int .i64 bse, .int .i64 bss], u.oneCell' = true := by simp [Value.oneCell']
  have ho3 : ∀ u ∈ [Value.string diss, .int .i64 dfr, .int .i64 dtill, .slice la0 LN lc0, .int .i64 dsk, .int .i64 dse, .int .i64 dss], u.oneCell' = true := by simp [Value.oneCell']
  go_wp2_with (rw [← hw3]; refine wpList_store_row rfl 27 _ _ rfl w2.heap.size [Value.int .i64 0, .string ⟨#[]⟩, .string ⟨#[]⟩, .int .i64 0, .int .i64 0, .int .i64 0, .slice none 0 0, .bool false, .int .i64 0, .int .i64 0, .int .i64 0] [Value.int .i64 aser, .string aiss, .string asub, .int .i64 afr, .int .i64 atill, .int .i64 akey, .slice ra RN rc, .bool aca, .int .i64 ask, .int .i64 ase, .int .i64 ass] 27 rfl rfl zy1 rfl sizeCert ho1 ?_)
  intro x3 s1 hx1 hs1 hbb1
  rw [← hw3] at hx1 hbb1
  have U3 : Hid (Below w2.heap.size w2 x3) := hbb1 _ _ (by omega) b3
  have jz2 : x3.heap[w2.heap.size + 1]? = some (.cells [Value.int .i64 0, .string ⟨#[]⟩, .string ⟨#[]⟩, .int .i64 0, .int .i64 0, .int .i64 0, .slice none 0 0, .bool false, .int .i64 0, .int .i64 0, .int .i64 0].toArray 27 (0, 0)) := by rw [hx1 _ (by omega)]; exact zy2
  have jz3 : x3.heap[w2.heap.size + 2]? = some (.cells [Value.string ⟨#[]⟩, .int .i64 0, .int .i64 0, .slice none 0 0, .int .i64 0, .int .i64 0, .int .i64 0].toArray 30 (0, 0)) := by rw [hx1 _ (by omega)]; exact zy3
  have R3 : Hid (x3.heap[w2.heap.size]? = some (.cells [Value.int .i64 aser, .string aiss, .string asub, .int .i64 afr, .int .i64 atill, .int .i64 akey, .slice ra RN rc, .bool aca, .int .i64 ask, .int .i64 ase, .int .i64 ass].toArray 27 (0, 0))) := s1
  have JZ3 : Hid _ := jz3
  have HO3 : Hid _ := ho3
  clear s1 hx1 hs1 hbb1 zy1 zy2 zy3 jz3 hw3 b3 ho1 ho3
  go_wp2_with (refine wpList_store_row rfl 27 _ _ rfl (w2.heap.size + 1) [Value.int .i64 0, .string ⟨#[]⟩, .string ⟨#[]⟩, .int .i64 0, .int .i64 0, .int .i64 0, .slice none 0 0, .bool false, .int .i64 0, .int .i64 0, .int .i64 0] [Value.int .i64 bser, .string biss, .string bsub, .int .i64 bfr, .int .i64 btill, .int .i64 bkey, .slice ca0 CN cc0, .bool bca, .int .i64 bsk, .int .i64 bse, .int .i64 bss] 27 rfl rfl jz2 rfl sizeCert ho2 ?_)
  intro x4 s1 hx1 hs1 hbb1
  have U4 : Hid (Below w2.heap.size w2 x4) := hbb1 _ _ (by omega) U3.out
  have jz3 : x4.heap[w2.heap.size + 2]? = some (.cells [Value.string ⟨#[]⟩, .int .i64 0, .int .i64 0, .slice none 0 0, .int .i64 0, .int .i64 0, .int .i64 0].toArray 30 (0, 0)) := by rw [hx1 _ (by omega)]; exact JZ3.out
  have R4 : Hid (x4.heap[w2.heap.size]? = some (.cells [Value.int .i64 aser, .string aiss, .string asub, .int .i64 afr, .int .i64 atill, .int .i64 akey, .slice ra RN rc, .bool aca, .int .i64 ask, .int .i64 ase, .int .i64 ass].toArray 27 (0, 0)) ∧ x4.heap[w2.heap.size + 1]? = some (.cells [Value.int .i64 bser, .string biss, .string bsub, .int .i64 bfr, .int .i64 btill, .int .i64 bkey, .slice ca0 CN cc0, .bool bca, .int .i64 bsk, .int .i64 bse, .int .i64 bss].toArray 27 (0, 0))) := ⟨by rw [hx1 _ (by omega)]; exact R3.out, s1⟩
  have ho3 := HO3.out
  clear s1 hx1 hs1 hbb1 U3 R3 JZ3 jz2 ho2
  go_wp2_with (refine wpList_store_row rfl 30 _ _ rfl (w2.heap.size + 2) [Value.string ⟨#[]⟩, .int .i64 0, .int .i64 0, .slice none 0 0, .int .i64 0, .int .i64 0, .int .i64 0] [Value.string diss, .int .i64 dfr, .int .i64 dtill, .slice la0 LN lc0, .int .i64 dsk, .int .i64 dse, .int .i64 dss] 30 rfl rfl jz3 rfl sizeCrl ho3 ?_)
  intro x5 s1 hx1 hs1 hbb1
  have U5 : Hid (Below w2.heap.size w2 x5) := hbb1 _ _ (by omega) U4.out
  have R5 : Hid (x5.heap[w2.heap.size]? = some (.cells [Value.int .i64 aser, .string aiss, .string asub, .int .i64 afr, .int .i64 atill, .int .i64 akey, .slice ra RN rc, .bool aca, .int .i64 ask, .int .i64 ase, .int .i64 ass].toArray 27 (0, 0)) ∧ x5.heap[w2.heap.size + 1]? = some (.cells [Value.int .i64 bser, .string biss, .string bsub, .int .i64 bfr, .int .i64 btill, .int .i64 bkey, .slice ca0 CN cc0, .bool bca, .int .i64 bsk, .int .i64 bse, .int .i64 bss].toArray 27 (0, 0)) ∧ x5.heap[w2.heap.size + 2]? = some (.cells [Value.string diss, .int .i64 dfr, .int .i64 dtill, .slice la0 LN lc0, .int .i64 dsk, .int .i64 dse, .int .i64 dss].toArray 30 (0, 0))) := ⟨by rw [hx1 _ (by omega)]; exact R4.out.1, by rw [hx1 _ (by omega)]; exact R4.out.2, s1⟩
  clear s1 hx1 hs1 hbb1 U4 R4 jz3 ho3 HO3
  have hz5 : w2.heap.size + 2 < x5.heap.size := heap_lt R5.out.2.2
  have HX : Hid (∀ V : World, Below x5.heap.size x5 V → ((V.cell? ⟨w2.heap.size, 0, none⟩ = some (.int .i64 aser) ∧ V.cell? ⟨w2.heap.size, 1, none⟩ = some (.string aiss) ∧ V.cell? ⟨w2.heap.size, 2, none⟩ = some (.string asub) ∧ V.cell? ⟨w2.heap.size, 3, none⟩ = some (.int .i64 afr) ∧ V.cell? ⟨w2.heap.size, 4, none⟩ = some (.int .i64 atill) ∧ V.cell? ⟨w2.heap.size, 5, none⟩ = some (.int .i64 akey) ∧ V.cell? ⟨w2.heap.size, 6, none⟩ = some (.slice ra RN rc) ∧ V.cell? ⟨w2.heap.size, 7, none⟩ = some (.bool aca) ∧ V.cell? ⟨w2.heap.size, 8, none⟩ = some (.int .i64 ask) ∧ V.cell? ⟨w2.heap.size, 9, none⟩ = some (.int .i64 ase) ∧ V.cell? ⟨w2.heap.size, 10, none⟩ = some (.int .i64 ass)) ∧ (V.cell? ⟨w2.heap.size + 1, 0, none⟩ = some (.int .i64 bser) ∧ V.cell? ⟨w2.heap.size + 1, 1, none⟩ = some (.string biss) ∧ V.cell? ⟨w2.heap.size + 1, 2, none⟩ = some (.string bsub) ∧ V.cell? ⟨w2.heap.size + 1, 3, none⟩ = some (.int .i64 bfr) ∧ V.cell? ⟨w2.heap.size + 1, 4, none⟩ = some (.int .i64 btill) ∧ V.cell? ⟨w2.heap.size + 1, 5, none⟩ = some (.int .i64 bkey) ∧ V.cell? ⟨w2.heap.size + 1, 6, none⟩ = some (.slice ca0 CN cc0) ∧ V.cell? ⟨w2.heap.size + 1, 7, none⟩ = some (.bool bca) ∧ V.cell? ⟨w2.heap.size + 1, 8, none⟩ = some (.int .i64 bsk) ∧ V.cell? ⟨w2.heap.size + 1, 9, none⟩ = some (.int .i64 bse) ∧ V.cell? ⟨w2.heap.size + 1, 10, none⟩ = some (.int .i64 bss)) ∧ (V.cell? ⟨w2.heap.size + 2, 0, none⟩ = some (.string diss) ∧ V.cell? ⟨w2.heap.size + 2, 1, none⟩ = some (.int .i64 dfr) ∧ V.cell? ⟨w2.heap.size + 2, 2, none⟩ = some (.int .i64 dtill) ∧ V.cell? ⟨w2.heap.size + 2, 3, none⟩ = some (.slice la0 LN lc0) ∧ V.cell? ⟨w2.heap.size + 2, 4, none⟩ = some (.int .i64 dsk) ∧ V.cell? ⟨w2.heap.size + 2, 5, none⟩ = some (.int .i64 dse) ∧ V.cell? ⟨w2.heap.size + 2, 6, none⟩ = some (.int .i64 dss)))) := fun V hV => by
    have h1 : V.heap[w2.heap.size]? = some (.cells [Value.int .i64 aser, .string aiss, .string asub, .int .i64 afr, .int .i64 atill, .int .i64 akey, .slice ra RN rc, .bool aca, .int .i64 ask, .int .i64 ase, .int .i64 ass].toArray 27 (0, 0)) := by rw [hV.block _ (by omega)]; exact R5.out.1
    have h2 : V.heap[w2.heap.size + 1]? = some (.cells [Value.int .i64 bser, .string biss, .string bsub, .int .i64 bfr, .int .i64 btill, .int .i64 bkey, .slice ca0 CN cc0, .bool bca, .int .i64 bsk, .int .i64 bse, .int .i64 bss].toArray 27 (0, 0)) := by rw [hV.block _ (by omega)]; exact R5.out.2.1
    have h3 : V.heap[w2.heap.size + 2]? = some (.cells [Value.string diss, .int .i64 dfr, .int .i64 dtill, .slice la0 LN lc0, .int .i64 dsk, .int .i64 dse, .int .i64 dss].toArray 30 (0, 0)) := by rw [hV.block _ (by omega)]; exact R5.out.2.2
    exact ⟨⟨rowFacts h1 0 _ rfl, rowFacts h1 1 _ rfl, rowFacts h1 2 _ rfl, rowFacts h1 3 _ rfl, rowFacts h1 4 _ rfl, rowFacts h1 5 _ rfl, rowFacts h1 6 _ rfl, rowFacts h1 7 _ rfl, rowFacts h1 8 _ rfl, rowFacts h1 9 _ rfl, rowFacts h1 10 _ rfl⟩, ⟨rowFacts h2 0 _ rfl, rowFacts h2 1 _ rfl, rowFacts h2 2 _ rfl, rowFacts h2 3 _ rfl, rowFacts h2 4 _ rfl, rowFacts h2 5 _ rfl, rowFacts h2 6 _ rfl, rowFacts h2 7 _ rfl, rowFacts h2 8 _ rfl, rowFacts h2 9 _ rfl, rowFacts h2 10 _ rfl⟩, ⟨rowFacts h3 0 _ rfl, rowFacts h3 1 _ rfl, rowFacts h3 2 _ rfl, rowFacts h3 3 _ rfl, rowFacts h3 4 _ rfl, rowFacts h3 5 _ rfl, rowFacts h3 6 _ rfl⟩⟩
  have HI : Hid (∀ V, Below x5.heap.size x5 V → Below w2.heap.size w2 V) := fun V hV => U5.out.trans (hV.mono U5.out.size)
  clear R5 U5
  have HB : Hid (∀ V, Below x5.heap.size x5 V → Below w.heap.size w V) := fun V hV => B2.out.trans ((HI.out V hV).mono B2.out.size)
  clear B2
  go_upto_region 4 with fail
  go_cut [48] from 38 (fun s48 wx => s48 = .bool false ∧ Below x5.heap.size x5 wx)
  case first =>
    have ep : (pc != pc) = false := by simp
    have J0 : Hid (Below x5.heap.size x5 x5.drew) := (Below.refl _ _).drew
    refine wp_region_held_drew (S := fun V => ((V.cell? ⟨w2.heap.size, 0, none⟩ = some (.int .i64 aser) ∧ V.cell? ⟨w2.heap.size, 1, none⟩ = some (.string aiss) ∧ V.cell? ⟨w2.heap.size, 2, none⟩ = some (.string asub) ∧ V.cell? ⟨w2.heap.size, 3, none⟩ = some (.int .i64 afr) ∧ V.cell? ⟨w2.heap.size, 4, none⟩ = some (.int .i64 atill) ∧ V.cell? ⟨w2.heap.size, 5, none⟩ = some (.int .i64 akey) ∧ V.cell? ⟨w2.heap.size, 6, none⟩ = some (.slice ra RN rc) ∧ V.cell? ⟨w2.heap.size, 7, none⟩ = some (.bool aca) ∧ V.cell? ⟨w2.heap.size, 8, none⟩ = some (.int .i64 ask) ∧ V.cell? ⟨w2.heap.size, 9, none⟩ = some (.int .i64 ase) ∧ V.cell? ⟨w2.heap.size, 10, none⟩ = some (.int .i64 ass)) ∧ (V.cell? ⟨w2.heap.size + 1, 0, none⟩ = some (.int .i64 bser) ∧ V.cell? ⟨w2.heap.size + 1, 1, none⟩ = some (.string biss) ∧ V.cell? ⟨w2.heap.size + 1, 2, none⟩ = some (.string bsub) ∧ V.cell? ⟨w2.heap.size + 1, 3, none⟩ = some (.int .i64 bfr) ∧ V.cell? ⟨w2.heap.size + 1, 4, none⟩ = some (.int .i64 btill) ∧ V.cell? ⟨w2.heap.size + 1, 5, none⟩ = some (.int .i64 bkey) ∧ V.cell? ⟨w2.heap.size + 1, 6, none⟩ = some (.slice ca0 CN cc0) ∧ V.cell? ⟨w2.heap.size + 1, 7, none⟩ = some (.bool bca) ∧ V.cell? ⟨w2.heap.size + 1, 8, none⟩ = some (.int .i64 bsk) ∧ V.cell? ⟨w2.heap.size + 1, 9, none⟩ = some (.int .i64 bse) ∧ V.cell? ⟨w2.heap.size + 1, 10, none⟩ = some (.int .i64 bss)) ∧ (V.cell? ⟨w2.heap.size + 2, 0, none⟩ = some (.string diss) ∧ V.cell? ⟨w2.heap.size + 2, 1, none⟩ = some (.int .i64 dfr) ∧ V.cell? ⟨w2.heap.size + 2, 2, none⟩ = some (.int .i64 dtill) ∧ V.cell? ⟨w2.heap.size + 2, 3, none⟩ = some (.slice la0 LN lc0) ∧ V.cell? ⟨w2.heap.size + 2, 4, none⟩ = some (.int .i64 dsk) ∧ V.cell? ⟨w2.heap.size + 2, 5, none⟩ = some (.int .i64 dse) ∧ V.cell? ⟨w2.heap.size + 2, 6, none⟩ = some (.int .i64 dss)))) (by kernel_rfl) ?_ (fun hHeld => ?_)
    · exact HX.out _ J0.out
    refine wpAnyH_take (i := 0) (oi := ⟨some 38, _, _, _, _, _⟩) (v := ?_) rfl (by kernel_rfl) (by kernel_rfl) (by kernel_rfl) (fun _ _ _ h => h) (Or.inl ⟨by kernel_rfl, ?_⟩) (by assumption) ?_
    rotate_left
    · (intro w hSw; (try dsimp only at hSw); go_simp; try with_reducible rfl)
    (try simp only [Act.put, List.setIfInBounds_toArray, List.set_cons_zero, List.set_cons_succ])
    refine wpAnyH_take (i := 1) (oi := ⟨some 39, _, _, _, _, _⟩) (v := ?_) rfl (by kernel_rfl) (by kernel_rfl) (by kernel_rfl) (fun _ _ _ h => h) (Or.inl ⟨by kernel_rfl, ?_⟩) (by assumption) ?_
    rotate_left
    · (intro w hSw; (try dsimp only at hSw); go_simp; try with_reducible rfl)
    (try simp only [Act.put, List.setIfInBounds_toArray, List.set_cons_zero, List.set_cons_succ])
    refine wpAnyH_take (i := 2) (oi := ⟨some 40, _, _, _, _, _⟩) (v := ?_) rfl (by kernel_rfl) (by kernel_rfl) (by kernel_rfl) (fun _ _ _ h => h) (Or.inl ⟨by kernel_rfl, ?_⟩) (by assumption) ?_
    rotate_left
    · (intro w hSw; (try dsimp only at hSw); go_simp; try with_reducible rfl)
    (try simp only [Act.put, List.setIfInBounds_toArray, List.set_cons_zero, List.set_cons_succ])
    refine wpAnyH_take (i := 3) (oi := ⟨some 41, _, _, _, _, _⟩) (v := ?_) rfl (by kernel_rfl) (by kernel_rfl) (by kernel_rfl) (fun _ _ _ h => h) (Or.inl ⟨by kernel_rfl, ?_⟩) (by assumption) ?_
    rotate_left
    · (intro w hSw; (try dsimp only at hSw); go_simp; try with_reducible rfl)
    (try simp only [Act.put, List.setIfInBounds_toArray, List.set_cons_zero, List.set_cons_succ])
    refine wpAnyH_take (i := 5) (oi := ⟨some 43, _, _, _, _, _⟩) (v := ?_) rfl (by kernel_rfl) (by kernel_rfl) (by kernel_rfl) (fun _ _ _ h => h) (Or.inl ⟨by kernel_rfl, ?_⟩) (by assumption) ?_
    rotate_left
    · (intro w hSw; (try dsimp only at hSw); go_simp; try with_reducible rfl)
    (try simp only [Act.put, List.setIfInBounds_toArray, List.set_cons_zero, List.set_cons_succ])
    refine wpAnyH_take (i := 6) (oi := ⟨some 44, _, _, _, _, _⟩) (v := ?_) rfl (by kernel_rfl) (by kernel_rfl) (by kernel_rfl) (fun _ _ _ h => h) (Or.inl ⟨by kernel_rfl, ?_⟩) (by assumption) ?_
    rotate_left
    · (intro w hSw; (try dsimp only at hSw); go_simp; try with_reducible rfl)
    (try simp only [Act.put, List.setIfInBounds_toArray, List.set_cons_zero, List.set_cons_succ])
    refine wpAnyH_take (i := 7) (oi := ⟨some 45, _, _, _, _, _⟩) (v := ?_) rfl (by kernel_rfl) (by kernel_rfl) (by kernel_rfl) (fun _ _ _ h => h) (Or.inl ⟨by kernel_rfl, ?_⟩) (by assumption) ?_
    rotate_left
    · (intro w hSw; (try dsimp only at hSw); go_simp; try with_reducible rfl)
    (try simp only [Act.put, List.setIfInBounds_toArray, List.set_cons_zero, List.set_cons_succ])
    refine wpAnyH_take (i := 8) (oi := ⟨some 46, _, _, _, _, _⟩) (v := ?_) rfl (by kernel_rfl) (by kernel_rfl) (by kernel_rfl) (fun _ _ _ h => h) (Or.inl ⟨by kernel_rfl, ?_⟩) (by assumption) ?_
    rotate_left
    · (intro w hSw; (try dsimp only at hSw); go_simp; try with_reducible rfl)
    (try simp only [Act.put, List.setIfInBounds_toArray, List.set_cons_zero, List.set_cons_succ])
    refine wpAnyH_ready (rs := [4]) (by kernel_rfl) (by simp) ?_
    refine AllReadyH.cons (o := ⟨some 42, _, _, _, _, _⟩) rfl (fun K hK => ?_) AllReadyH.nil
    go_simp
    refine (TI.out _ (HI.out _ J0.out) (HKE.out _ (HB.out _ J0.out)).1 (HKE.out _ (HB.out _ J0.out)).2).mono ?_
    rintro e' W1 ⟨rfl, bb1⟩
    have J1 : Hid (Below x5.heap.size x5 W1) := J0.out.trans (bb1.mono J0.out.size)
    refine hK.out _ _ ?_ (fun hHeld => ?_)
    · exact HX.out _ J1.out
    clear hK K bb1
    (try simp only [Act.put, List.setIfInBounds_toArray, List.set_cons_zero, List.set_cons_succ])
    refine wpAnyH_ready (rs := [9]) (by kernel_rfl) (by simp) ?_
    refine AllReadyH.cons (o := ⟨some 47, _, _, _, _, _⟩) rfl (fun K hK => ?_) AllReadyH.nil
    go_simp
    refine (TS.out _ (HI.out _ J1.out)).mono ?_
    rintro e' W2 ⟨rfl, bb2⟩
    have J2 : Hid (Below x5.heap.size x5 W2) := J1.out.trans (bb2.mono J1.out.size)
    refine hK.out _ _ ?_ (fun hHeld => ?_)
    · exact HX.out _ J2.out
    clear hK K bb2
    (try simp only [Act.put, List.setIfInBounds_toArray, List.set_cons_zero, List.set_cons_succ])
    refine wpAnyH_take (i := 10) (oi := ⟨some 48, _, _, _, _, _⟩) (v := ?_) rfl (by kernel_rfl) (by kernel_rfl) (by kernel_rfl) (fun _ _ _ h => h) (Or.inl ⟨by kernel_rfl, ?_⟩) (by assumption) ?_
    rotate_left
    · (intro w hSw; (try dsimp only at hSw); go_simp; try with_reducible rfl)
    (try simp only [Act.put, List.setIfInBounds_toArray, List.set_cons_zero, List.set_cons_succ])
    refine wpAnyH_done (by kernel_rfl) ?_ _
    go_wp2_with fail
    go_meet
    case rel => exact ⟨by first | rfl | simp, J2.out⟩
  case rest =>
  obtain ⟨rfl, hcut⟩ := hcut
  have B6 : Hid (Below w.heap.size w wc) := HB.out _ hcut
  clear hcut HX HI HB TI TS
  go_wp2_with fail
  refine (drawPathN a1 len1 cap1 _ (by omega) (HC1.out _ B6.out) (HB1.out _ B6.out)).mono ?_
  rintro e y2 ⟨aser, afr, atill, akey, ask, ase, ass, aiss, asub, anames, aca, bser, bfr, btill, bkey, bsk, bse, bss, biss, bsub, bnames, bca, diss, dfr, dtill, dsk, dse, dss, dser, tv, nm, ra, ca0, la0, RN, CN, LN, rc, cc0, lc0, rfl, hlens, hnm, hm1, hm2, hm3, o1, o2, o3, hb2⟩
  have B2 : Hid (Below w.heap.size w y2) := B6.out.trans (hb2.mono B6.out.size)
  clear hb2 B6
  have i1 := o1.strs
  have i2 := o2.strs
  have i3 := o3.ints
  have q1 : PIn ⟨aser, aiss, asub, afr, atill, akey, anames, aca, ask, ase, ass⟩ := ⟨by have := hm1.iss; unfold maxLen; omega, by have := hm1.sub; unfold maxLen; omega, by have := hm1.len; omega, by have := hm1.tot; omega⟩
  have q2 : PIn ⟨bser, biss, bsub, bfr, btill, bkey, bnames, bca, bsk, bse, bss⟩ := ⟨by have := hm2.iss; unfold maxLen; omega, by have := hm2.sub; unfold maxLen; omega, by have := hm2.len; omega, by have := hm2.tot; omega⟩
  have q3 : LIn ⟨diss, dfr, dtill, dser, dsk, dse, dss⟩ := ⟨by have := hm3.iss; unfold maxLen; omega, by have := hm3.len; omega⟩
  have TI : Hid (∀ V, Below y2.heap.size y2 V → Keys V → Err3 V → Calls Tryz.prog 5 #[.agg #[.int .i64 aser, .string aiss, .string asub, .int .i64 afr, .int .i64 atill, .int .i64 akey, .slice ra RN rc, .bool aca, .int .i64 ask, .int .i64 ase, .int .i64 ass], .agg #[.int .i64 bser, .string biss, .string bsub, .int .i64 bfr, .int .i64 btill, .int .i64 bkey, .slice ca0 CN cc0, .bool bca, .int .i64 bsk, .int .i64 bse, .int .i64 bss], .agg #[.string diss, .int .i64 dfr, .int .i64 dtill, .slice la0 LN lc0, .int .i64 dsk, .int .i64 dse, .int .i64 dss], .int .i64 tv] V fun e w' => e = .returned (.int .i64 (pathC ⟨aser, aiss, asub, afr, atill, akey, anames, aca, ask, ase, ass⟩ ⟨bser, biss, bsub, bfr, btill, bkey, bnames, bca, bsk, bse, bss⟩ ⟨diss, dfr, dtill, dser, dsk, dse, dss⟩ tv)) ∧ Below V.heap.size V w') := fun V hV h1 h2 => by
    have q := implPath ⟨aser, aiss, asub, afr, atill, akey, anames, aca, ask, ase, ass⟩ ⟨bser, biss, bsub, bfr, btill, bkey, bnames, bca, bsk, bse, bss⟩ ⟨diss, dfr, dtill, dser, dsk, dse, dss⟩ tv ra ca0 la0 rc cc0 lc0 V q1 q2 q3 (i1.keep hV) (i2.keep hV) (i3.keep hV) h1 h2
    rw [show (⟨aser, aiss, asub, afr, atill, akey, anames, aca, ask, ase, ass⟩ : Paper).names.length = RN from hlens.out.1.symm, show (⟨bser, biss, bsub, bfr, btill, bkey, bnames, bca, bsk, bse, bss⟩ : Paper).names.length = CN from hlens.out.2.1.symm, show (⟨diss, dfr, dtill, dser, dsk, dse, dss⟩ : Lst).serials.length = LN from hlens.out.2.2.symm] at q
    exact q
  have NI : Hid (∀ V, Below y2.heap.size y2 V → Keys V → Err3 V → Calls Tryz.prog 8 #[.agg #[.int .i64 aser, .string aiss, .string asub, .int .i64 afr, .int .i64 atill, .int .i64 akey, .slice ra RN rc, .bool aca, .int .i64 ask, .int .i64 ase, .int .i64 ass], .agg #[.int .i64 bser, .string biss, .string bsub, .int .i64 bfr, .int .i64 btill, .int .i64 bkey, .slice ca0 CN cc0, .bool bca, .int .i64 bsk, .int .i64 bse, .int .i64 bss], .agg #[.string diss, .int .i64 dfr, .int .i64 dtill, .slice la0 LN lc0, .int .i64 dsk, .int .i64 dse, .int .i64 dss], .int .i64 tv, .string nm] V fun e w' => e = .returned (.bool (pathN ⟨aser, aiss, asub, afr, atill, akey, anames, aca, ask, ase, ass⟩ ⟨bser, biss, bsub, bfr, btill, bkey, bnames, bca, bsk, bse, bss⟩ ⟨diss, dfr, dtill, dser, dsk, dse, dss⟩ tv nm)) ∧ Below V.heap.size V w') := fun V hV h1 h2 => by
    have q := implPathN ⟨aser, aiss, asub, afr, atill, akey, anames, aca, ask, ase, ass⟩ ⟨bser, biss, bsub, bfr, btill, bkey, bnames, bca, bsk, bse, bss⟩ ⟨diss, dfr, dtill, dser, dsk, dse, dss⟩ tv nm ra ca0 la0 rc cc0 lc0 V q1 q2 q3 (i1.keep hV) (i2.keep hV) (i3.keep hV) h1 h2 (by unfold maxLen; omega)
    rw [show (⟨aser, aiss, asub, afr, atill, akey, anames, aca, ask, ase, ass⟩ : Paper).names.length = RN from hlens.out.1.symm, show (⟨bser, biss, bsub, bfr, btill, bkey, bnames, bca, bsk, bse, bss⟩ : Paper).names.length = CN from hlens.out.2.1.symm, show (⟨diss, dfr, dtill, dser, dsk, dse, dss⟩ : Lst).serials.length = LN from hlens.out.2.2.symm] at q
    exact q
  have NS : Hid (∀ V, Below y2.heap.size y2 V → Calls Tryz.prog 9 #[.agg #[.int .i64 aser, .string aiss, .string asub, .int .i64 afr, .int .i64 atill, .int .i64 akey, .slice ra RN rc, .bool aca, .int .i64 ask, .int .i64 ase, .int .i64 ass], .agg #[.int .i64 bser, .string biss, .string bsub, .int .i64 bfr, .int .i64 btill, .int .i64 bkey, .slice ca0 CN cc0, .bool bca, .int .i64 bsk, .int .i64 bse, .int .i64 bss], .agg #[.string diss, .int .i64 dfr, .int .i64 dtill, .slice la0 LN lc0, .int .i64 dsk, .int .i64 dse, .int .i64 dss], .int .i64 tv, .string nm] V fun e w' => e = .returned (.bool (pathN ⟨aser, aiss, asub, afr, atill, akey, anames, aca, ask, ase, ass⟩ ⟨bser, biss, bsub, bfr, btill, bkey, bnames, bca, bsk, bse, bss⟩ ⟨diss, dfr, dtill, dser, dsk, dse, dss⟩ tv nm)) ∧ Below V.heap.size V w') := fun V hV => by
    have q := specPathN ⟨aser, aiss, asub, afr, atill, akey, anames, aca, ask, ase, ass⟩ ⟨bser, biss, bsub, bfr, btill, bkey, bnames, bca, bsk, bse, bss⟩ ⟨diss, dfr, dtill, dser, dsk, dse, dss⟩ tv nm ra ca0 la0 rc cc0 lc0 V q1 q2 q3 (i1.keep hV) (i2.keep hV) (i3.keep hV) (by unfold maxLen; omega)
    rw [show (⟨aser, aiss, asub, afr, atill, akey, anames, aca, ask, ase, ass⟩ : Paper).names.length = RN from hlens.out.1.symm, show (⟨bser, biss, bsub, bfr, btill, bkey, bnames, bca, bsk, bse, bss⟩ : Paper).names.length = CN from hlens.out.2.1.symm, show (⟨diss, dfr, dtill, dser, dsk, dse, dss⟩ : Lst).serials.length = LN from hlens.out.2.2.symm] at q
    exact q
  have HN0 : Hid (pathN ⟨aser, aiss, asub, afr, atill, akey, anames, aca, ask, ase, ass⟩ ⟨bser, biss, bsub, bfr, btill, bkey, bnames, bca, bsk, bse, bss⟩ ⟨diss, dfr, dtill, dser, dsk, dse, dss⟩ tv nm = true → pathC ⟨aser, aiss, asub, afr, atill, akey, anames, aca, ask, ase, ass⟩ ⟨bser, biss, bsub, bfr, btill, bkey, bnames, bca, bsk, bse, bss⟩ ⟨diss, dfr, dtill, dser, dsk, dse, dss⟩ tv = 0) := fun h => by
    unfold pathN at h
    rw [Bool.and_eq_true] at h
    exact of_decide_eq_true h.1
  generalize pathN ⟨aser, aiss, asub, afr, atill, akey, anames, aca, ask, ase, ass⟩ ⟨bser, biss, bsub, bfr, btill, bkey, bnames, bca, bsk, bse, bss⟩ ⟨diss, dfr, dtill, dser, dsk, dse, dss⟩ tv nm = pn at *
  generalize pathC ⟨aser, aiss, asub, afr, atill, akey, anames, aca, ask, ase, ass⟩ ⟨bser, biss, bsub, bfr, btill, bkey, bnames, bca, bsk, bse, bss⟩ ⟨diss, dfr, dtill, dser, dsk, dse, dss⟩ tv = pc at *
  clear i1 i2 i3 q1 q2 q3 o1 o2 o3 hm1 hm2 hm3 hlens hnm
  obtain ⟨w3, hw3⟩ : ∃ y, y = ((y2.alloc (.cells [Value.int .i64 0, .string ⟨#[]⟩, .string ⟨#[]⟩, .int .i64 0, .int .i64 0, .int .i64 0, .slice none 0 0, .bool false, .int .i64 0, .int .i64 0, .int .i64 0].toArray 27 (0, 0))).alloc (.cells [Value.int .i64 0, .string ⟨#[]⟩, .string ⟨#[]⟩, .int .i64 0, .int .i64 0, .int .i64 0, .slice none 0 0, .bool false, .int .i64 0, .int .i64 0, .int .i64 0].toArray 27 (0, 0))).alloc (.cells [Value.string ⟨#[]⟩, .int .i64 0, .int .i64 0, .slice none 0 0, .int .i64 0, .int .i64 0, .int .i64 0].toArray 30 (0, 0)) := ⟨_, rfl⟩
  have b3 : Below y2.heap.size y2 w3 := by rw [hw3]; exact (((Below.refl _ _).alloc (Nat.le_refl _) _).alloc (by simp) _).alloc (by simp; omega) _
  have zy1 : w3.heap[y2.heap.size]? = some (.cells [Value.int .i64 0, .string ⟨#[]⟩, .string ⟨#[]⟩, .int .i64 0, .int .i64 0, .int .i64 0, .slice none 0 0, .bool false, .int .i64 0, .int .i64 0, .int .i64 0].toArray 27 (0, 0)) := by rw [hw3]; rw [Below.heap_alloc _ _ _ (by simp; omega), Below.heap_alloc _ _ _ (by simp)]; exact heap_alloc_new y2 _
  have zy2 : w3.heap[y2.heap.size + 1]? = some (.cells [Value.int .i64 0, .string ⟨#[]⟩, .string ⟨#[]⟩, .int .i64 0, .int .i64 0, .int .i64 0, .slice none 0 0, .bool false, .int .i64 0, .int .i64 0, .int .i64 0].toArray 27 (0, 0)) := by rw [hw3]; rw [Below.heap_alloc _ _ _ (by simp)]; exact heap_alloc2 y2 _ _
  have zy3 : w3.heap[y2.heap.size + 2]? = some (.cells [Value.string ⟨#[]⟩, .int .i64 0, .int .i64 0, .slice none 0 0, .int .i64 0, .int .i64 0, .int .i64 0].toArray 30 (0, 0)) := by rw [hw3]; have := heap_alloc_new ((y2.alloc (.cells [Value.int .i64 0, .string ⟨#[]⟩, .string ⟨#[]⟩, .int .i64 0, .int .i64 0, .int .i64 0, .slice none 0 0, .bool false, .int .i64 0, .int .i64 0, .int .i64 0].toArray 27 (0, 0))).alloc (.cells [Value.int .i64 0, .string ⟨#[]⟩, .string ⟨#[]⟩, .int .i64 0, .int .i64 0, .int .i64 0, .slice none 0 0, .bool false, .int .i64 0, .int .i64 0, .int .i64 0].toArray 27 (0, 0))) (.cells [Value.string ⟨#[]⟩, .int .i64 0, .int .i64 0, .slice none 0 0, .int .i64 0, .int .i64 0, .int .i64 0].toArray 30 (0, 0)); simpa using this
  have ho1 : ∀ u ∈ [Value.int .i64 aser, .string aiss, .string asub, .int .i64 afr, .int .i64 atill, .int .i64 akey, .slice ra RN rc, .bool aca, .int .i64 ask, .int .i64 ase, .int .i64 ass], u.oneCell' = true := by simp [Value.oneCell']
  have ho2 : ∀ u ∈ [Value.int .i64 bser, .string biss, .string bsub, .int .i64 bfr, .int .i64 btill, .int .i64 bkey, .slice ca0 CN cc0, .bool bca, .int .i64 bsk, .int .i64 bse, .int .i64 bss], u.oneCell' = true := by simp [Value.oneCell']
  have ho3 : ∀ u ∈ [Value.string diss, .int .i64 dfr, .int .i64 dtill, .slice la0 LN lc0, .int .i64 dsk, .int .i64 dse, .int .i64 dss], u.oneCell' = true := by simp [Value.oneCell']
  go_wp2_with (rw [← hw3]; refine wpList_store_row rfl 27 _ _ rfl y2.heap.size [Value.int .i64 0, .string ⟨#[]⟩, .string ⟨#[]⟩, .int .i64 0, .int .i64 0, .int .i64 0, .slice none 0 0, .bool false, .int .i64 0, .int .i64 0, .int .i64 0] [Value.int .i64 aser, .string aiss, .string asub, .int .i64 afr, .int .i64 atill, .int .i64 akey, .slice ra RN rc, .bool aca, .int .i64 ask, .int .i64 ase, .int .i64 ass] 27 rfl rfl zy1 rfl sizeCert ho1 ?_)
  intro x3 s1 hx1 hs1 hbb1
  rw [← hw3] at hx1 hbb1
  have U3 : Hid (Below y2.heap.size y2 x3) := hbb1 _ _ (by omega) b3
  have jz2 : x3.heap[y2.heap.size + 1]? = some (.cells [Value.int .i64 0, .string ⟨#[]⟩, .string ⟨#[]⟩, .int .i64 0, .int .i64 0, .int .i64 0, .slice none 0 0, .bool false, .int .i64 0, .int .i64 0, .int .i64 0].toArray 27 (0, 0)) := by rw [hx1 _ (by omega)]; exact zy2
  have jz3 : x3.heap[y2.heap.size + 2]? = some (.cells [Value.string ⟨#[]⟩, .int .i64 0, .int .i64 0, .slice none 0 0, .int .i64 0, .int .i64 0, .int .i64 0].toArray 30 (0, 0)) := by rw [hx1 _ (by omega)]; exact zy3
  have R3 : Hid (x3.heap[y2.heap.size]? = some (.cells [Value.int .i64 aser, .string aiss, .string asub, .int .i64 afr, .int .i64 atill, .int .i64 akey, .slice ra RN rc, .bool aca, .int .i64 ask, .int .i64 ase, .int .i64 ass].toArray 27 (0, 0))) := s1
  have JZ3 : Hid _ := jz3
  have HO3 : Hid _ := ho3
  clear s1 hx1 hs1 hbb1 zy1 zy2 zy3 jz3 hw3 b3 ho1 ho3
  go_wp2_with (refine wpList_store_row rfl 27 _ _ rfl (y2.heap.size + 1) [Value.int .i64 0, .string ⟨#[]⟩, .string ⟨#[]⟩, .int .i64 0, .int .i64 0, .int .i64 0, .slice none 0 0, .bool false, .int .i64 0, .int .i64 0, .int .i64 0] [Value.int .i64 bser, .string biss, .string bsub, .int .i64 bfr, .int .i64 btill, .int .i64 bkey, .slice ca0 CN cc0, .bool bca, .int .i64 bsk, .int .i64 bse, .int .i64 bss] 27 rfl rfl jz2 rfl sizeCert ho2 ?_)
  intro x4 s1 hx1 hs1 hbb1
  have U4 : Hid (Below y2.heap.size y2 x4) := hbb1 _ _ (by omega) U3.out
  have jz3 : x4.heap[y2.heap.size + 2]? = some (.cells [Value.string ⟨#[]⟩, .int .i64 0, .int .i64 0, .slice none 0 0, .int .i64 0, .int .i64 0, .int .i64 0].toArray 30 (0, 0)) := by rw [hx1 _ (by omega)]; exact JZ3.out
  have R4 : Hid (x4.heap[y2.heap.size]? = some (.cells [Value.int .i64 aser, .string aiss, .string asub, .int .i64 afr, .int .i64 atill, .int .i64 akey, .slice ra RN rc, .bool aca, .int .i64 ask, .int .i64 ase, .int .i64 ass].toArray 27 (0, 0)) ∧ x4.heap[y2.heap.size + 1]? = some (.cells [Value.int .i64 bser, .string biss, .string bsub, .int .i64 bfr, .int .i64 btill, .int .i64 bkey, .slice ca0 CN cc0, .bool bca, .int .i64 bsk, .int .i64 bse, .int .i64 bss].toArray 27 (0, 0))) := ⟨by rw [hx1 _ (by omega)]; exact R3.out, s1⟩
  have ho3 := HO3.out
  clear s1 hx1 hs1 hbb1 U3 R3 JZ3 jz2 ho2
  go_wp2_with (refine wpList_store_row rfl 30 _ _ rfl (y2.heap.size + 2) [Value.string ⟨#[]⟩, .int .i64 0, .int .i64 0, .slice none 0 0, .int .i64 0, .int .i64 0, .int .i64 0] [Value.string diss, .int .i64 dfr, .int .i64 dtill, .slice la0 LN lc0, .int .i64 dsk, .int .i64 dse, .int .i64 dss] 30 rfl rfl jz3 rfl sizeCrl ho3 ?_)
  intro x5 s1 hx1 hs1 hbb1
  have U5 : Hid (Below y2.heap.size y2 x5) := hbb1 _ _ (by omega) U4.out
  have R5 : Hid (x5.heap[y2.heap.size]? = some (.cells [Value.int .i64 aser, .string aiss, .string asub, .int .i64 afr, .int .i64 atill, .int .i64 akey, .slice ra RN rc, .bool aca, .int .i64 ask, .int .i64 ase, .int .i64 ass].toArray 27 (0, 0)) ∧ x5.heap[y2.heap.size + 1]? = some (.cells [Value.int .i64 bser, .string biss, .string bsub, .int .i64 bfr, .int .i64 btill, .int .i64 bkey, .slice ca0 CN cc0, .bool bca, .int .i64 bsk, .int .i64 bse, .int .i64 bss].toArray 27 (0, 0)) ∧ x5.heap[y2.heap.size + 2]? = some (.cells [Value.string diss, .int .i64 dfr, .int .i64 dtill, .slice la0 LN lc0, .int .i64 dsk, .int .i64 dse, .int .i64 dss].toArray 30 (0, 0))) := ⟨by rw [hx1 _ (by omega)]; exact R4.out.1, by rw [hx1 _ (by omega)]; exact R4.out.2, s1⟩
  clear s1 hx1 hs1 hbb1 U4 R4 jz3 ho3 HO3
  have hz5 : y2.heap.size + 2 < x5.heap.size := heap_lt R5.out.2.2
  have HX : Hid (∀ V : World, Below x5.heap.size x5 V → ((V.cell? ⟨y2.heap.size, 0, none⟩ = some (.int .i64 aser) ∧ V.cell? ⟨y2.heap.size, 1, none⟩ = some (.string aiss) ∧ V.cell? ⟨y2.heap.size, 2, none⟩ = some (.string asub) ∧ V.cell? ⟨y2.heap.size, 3, none⟩ = some (.int .i64 afr) ∧ V.cell? ⟨y2.heap.size, 4, none⟩ = some (.int .i64 atill) ∧ V.cell? ⟨y2.heap.size, 5, none⟩ = some (.int .i64 akey) ∧ V.cell? ⟨y2.heap.size, 6, none⟩ = some (.slice ra RN rc) ∧ V.cell? ⟨y2.heap.size, 7, none⟩ = some (.bool aca) ∧ V.cell? ⟨y2.heap.size, 8, none⟩ = some (.int .i64 ask) ∧ V.cell? ⟨y2.heap.size, 9, none⟩ = some (.int .i64 ase) ∧ V.cell? ⟨y2.heap.size, 10, none⟩ = some (.int .i64 ass)) ∧ (V.cell? ⟨y2.heap.size + 1, 0, none⟩ = some (.int .i64 bser) ∧ V.cell? ⟨y2.heap.size + 1, 1, none⟩ = some (.string biss) ∧ V.cell? ⟨y2.heap.size + 1, 2, none⟩ = some (.string bsub) ∧ V.cell? ⟨y2.heap.size + 1, 3, none⟩ = some (.int .i64 bfr) ∧ V.cell? ⟨y2.heap.size + 1, 4, none⟩ = some (.int .i64 btill) ∧ V.cell? ⟨y2.heap.size + 1, 5, none⟩ = some (.int .i64 bkey) ∧ V.cell? ⟨y2.heap.size + 1, 6, none⟩ = some (.slice ca0 CN cc0) ∧ V.cell? ⟨y2.heap.size + 1, 7, none⟩ = some (.bool bca) ∧ V.cell? ⟨y2.heap.size + 1, 8, none⟩ = some (.int .i64 bsk) ∧ V.cell? ⟨y2.heap.size + 1, 9, none⟩ = some (.int .i64 bse) ∧ V.cell? ⟨y2.heap.size + 1, 10, none⟩ = some (.int .i64 bss)) ∧ (V.cell? ⟨y2.heap.size + 2, 0, none⟩ = some (.string diss) ∧ V.cell? ⟨y2.heap.size + 2, 1, none⟩ = some (.int .i64 dfr) ∧ V.cell? ⟨y2.heap.size + 2, 2, none⟩ = some (.int .i64 dtill) ∧ V.cell? ⟨y2.heap.size + 2, 3, none⟩ = some (.slice la0 LN lc0) ∧ V.cell? ⟨y2.heap.size + 2, 4, none⟩ = some (.int .i64 dsk) ∧ V.cell? ⟨y2.heap.size + 2, 5, none⟩ = some (.int .i64 dse) ∧ V.cell? ⟨y2.heap.size + 2, 6, none⟩ = some (.int .i64 dss)))) := fun V hV => by
    have h1 : V.heap[y2.heap.size]? = some (.cells [Value.int .i64 aser, .string aiss, .string asub, .int .i64 afr, .int .i64 atill, .int .i64 akey, .slice ra RN rc, .bool aca, .int .i64 ask, .int .i64 ase, .int .i64 ass].toArray 27 (0, 0)) := by rw [hV.block _ (by omega)]; exact R5.out.1
    have h2 : V.heap[y2.heap.size + 1]? = some (.cells [Value.int .i64 bser, .string biss, .string bsub, .int .i64 bfr, .int .i64 btill, .int .i64 bkey, .slice ca0 CN cc0, .bool bca, .int .i64 bsk, .int .i64 bse, .int .i64 bss].toArray 27 (0, 0)) := by rw [hV.block _ (by omega)]; exact R5.out.2.1
    have h3 : V.heap[y2.heap.size + 2]? = some (.cells [Value.string diss, .int .i64 dfr, .int .i64 dtill, .slice la0 LN lc0, .int .i64 dsk, .int .i64 dse, .int .i64 dss].toArray 30 (0, 0)) := by rw [hV.block _ (by omega)]; exact R5.out.2.2
    exact ⟨⟨rowFacts h1 0 _ rfl, rowFacts h1 1 _ rfl, rowFacts h1 2 _ rfl, rowFacts h1 3 _ rfl, rowFacts h1 4 _ rfl, rowFacts h1 5 _ rfl, rowFacts h1 6 _ rfl, rowFacts h1 7 _ rfl, rowFacts h1 8 _ rfl, rowFacts h1 9 _ rfl, rowFacts h1 10 _ rfl⟩, ⟨rowFacts h2 0 _ rfl, rowFacts h2 1 _ rfl, rowFacts h2 2 _ rfl, rowFacts h2 3 _ rfl, rowFacts h2 4 _ rfl, rowFacts h2 5 _ rfl, rowFacts h2 6 _ rfl, rowFacts h2 7 _ rfl, rowFacts h2 8 _ rfl, rowFacts h2 9 _ rfl, rowFacts h2 10 _ rfl⟩, ⟨rowFacts h3 0 _ rfl, rowFacts h3 1 _ rfl, rowFacts h3 2 _ rfl, rowFacts h3 3 _ rfl, rowFacts h3 4 _ rfl, rowFacts h3 5 _ rfl, rowFacts h3 6 _ rfl⟩⟩
  have HI : Hid (∀ V, Below x5.heap.size x5 V → Below y2.heap.size y2 V) := fun V hV => U5.out.trans (hV.mono U5.out.size)
  clear R5 U5
  have HB : Hid (∀ V, Below x5.heap.size x5 V → Below w.heap.size w V) := fun V hV => B2.out.trans ((HI.out V hV).mono B2.out.size)
  clear B2
  go_upto_region 7 with fail
  go_cut [85] from 57 (fun s85 wx => s85 = .bool false ∧ Below x5.heap.size x5 wx)
  case first =>
    cases hpn : pn with
    | false =>
      subst hpn
      clear HN0 TI
      have J0 : Hid (Below x5.heap.size x5 x5.drew) := (Below.refl _ _).drew
      refine wp_region_held_drew (S := fun V => ((V.cell? ⟨y2.heap.size, 0, none⟩ = some (.int .i64 aser) ∧ V.cell? ⟨y2.heap.size, 1, none⟩ = some (.string aiss) ∧ V.cell? ⟨y2.heap.size, 2, none⟩ = some (.string asub) ∧ V.cell? ⟨y2.heap.size, 3, none⟩ = some (.int .i64 afr) ∧ V.cell? ⟨y2.heap.size, 4, none⟩ = some (.int .i64 atill) ∧ V.cell? ⟨y2.heap.size, 5, none⟩ = some (.int .i64 akey) ∧ V.cell? ⟨y2.heap.size, 6, none⟩ = some (.slice ra RN rc) ∧ V.cell? ⟨y2.heap.size, 7, none⟩ = some (.bool aca) ∧ V.cell? ⟨y2.heap.size, 8, none⟩ = some (.int .i64 ask) ∧ V.cell? ⟨y2.heap.size, 9, none⟩ = some (.int .i64 ase) ∧ V.cell? ⟨y2.heap.size, 10, none⟩ = some (.int .i64 ass)) ∧ (V.cell? ⟨y2.heap.size + 1, 0, none⟩ = some (.int .i64 bser) ∧ V.cell? ⟨y2.heap.size + 1, 1, none⟩ = some (.string biss) ∧ V.cell? ⟨y2.heap.size + 1, 2, none⟩ = some (.string bsub) ∧ V.cell? ⟨y2.heap.size + 1, 3, none⟩ = some (.int .i64 bfr) ∧ V.cell? ⟨y2.heap.size + 1, 4, none⟩ = some (.int .i64 btill) ∧ V.cell? ⟨y2.heap.size + 1, 5, none⟩ = some (.int .i64 bkey) ∧ V.cell? ⟨y2.heap.size + 1, 6, none⟩ = some (.slice ca0 CN cc0) ∧ V.cell? ⟨y2.heap.size + 1, 7, none⟩ = some (.bool bca) ∧ V.cell? ⟨y2.heap.size + 1, 8, none⟩ = some (.int .i64 bsk) ∧ V.cell? ⟨y2.heap.size + 1, 9, none⟩ = some (.int .i64 bse) ∧ V.cell? ⟨y2.heap.size + 1, 10, none⟩ = some (.int .i64 bss)) ∧ (V.cell? ⟨y2.heap.size + 2, 0, none⟩ = some (.string diss) ∧ V.cell? ⟨y2.heap.size + 2, 1, none⟩ = some (.int .i64 dfr) ∧ V.cell? ⟨y2.heap.size + 2, 2, none⟩ = some (.int .i64 dtill) ∧ V.cell? ⟨y2.heap.size + 2, 3, none⟩ = some (.slice la0 LN lc0) ∧ V.cell? ⟨y2.heap.size + 2, 4, none⟩ = some (.int .i64 dsk) ∧ V.cell? ⟨y2.heap.size + 2, 5, none⟩ = some (.int .i64 dse) ∧ V.cell? ⟨y2.heap.size + 2, 6, none⟩ = some (.int .i64 dss)))) (by kernel_rfl) ?_ (fun hHeld => ?_)
      · exact HX.out _ J0.out
      refine wpAnyH_take (i := 0) (oi := ⟨some 57, _, _, _, _, _⟩) (v := ?_) rfl (by kernel_rfl) (by kernel_rfl) (by kernel_rfl) (fun _ _ _ h => h) (Or.inl ⟨by kernel_rfl, ?_⟩) (by assumption) ?_
      rotate_left
      · (intro w hSw; (try dsimp only at hSw); go_simp; try with_reducible rfl)
      (try simp only [Act.put, List.setIfInBounds_toArray, List.set_cons_zero, List.set_cons_succ])
      refine wpAnyH_take (i := 1) (oi := ⟨some 58, _, _, _, _, _⟩) (v := ?_) rfl (by kernel_rfl) (by kernel_rfl) (by kernel_rfl) (fun _ _ _ h => h) (Or.inl ⟨by kernel_rfl, ?_⟩) (by assumption) ?_
      rotate_left
      · (intro w hSw; (try dsimp only at hSw); go_simp; try with_reducible rfl)
      (try simp only [Act.put, List.setIfInBounds_toArray, List.set_cons_zero, List.set_cons_succ])
      refine wpAnyH_take (i := 2) (oi := ⟨some 59, _, _, _, _, _⟩) (v := ?_) rfl (by kernel_rfl) (by kernel_rfl) (by kernel_rfl) (fun _ _ _ h => h) (Or.inl ⟨by kernel_rfl, ?_⟩) (by assumption) ?_
      rotate_left
      · (intro w hSw; (try dsimp only at hSw); go_simp; try with_reducible rfl)
      (try simp only [Act.put, List.setIfInBounds_toArray, List.set_cons_zero, List.set_cons_succ])
      refine wpAnyH_take (i := 3) (oi := ⟨some 60, _, _, _, _, _⟩) (v := ?_) rfl (by kernel_rfl) (by kernel_rfl) (by kernel_rfl) (fun _ _ _ h => h) (Or.inl ⟨by kernel_rfl, ?_⟩) (by assumption) ?_
      rotate_left
      · (intro w hSw; (try dsimp only at hSw); go_simp; try with_reducible rfl)
      (try simp only [Act.put, List.setIfInBounds_toArray, List.set_cons_zero, List.set_cons_succ])
      refine wpAnyH_take (i := 4) (oi := ⟨some 61, _, _, _, _, _⟩) (v := ?_) rfl (by kernel_rfl) (by kernel_rfl) (by kernel_rfl) (fun _ _ _ h => h) (Or.inl ⟨by kernel_rfl, ?_⟩) (by assumption) ?_
      rotate_left
      · (intro w hSw; (try dsimp only at hSw); go_simp; try with_reducible rfl)
      (try simp only [Act.put, List.setIfInBounds_toArray, List.set_cons_zero, List.set_cons_succ])
      refine wpAnyH_take (i := 6) (oi := ⟨some 63, _, _, _, _, _⟩) (v := ?_) rfl (by kernel_rfl) (by kernel_rfl) (by kernel_rfl) (fun _ _ _ h => h) (Or.inl ⟨by kernel_rfl, ?_⟩) (by assumption) ?_
      rotate_left
      · (intro w hSw; (try dsimp only at hSw); go_simp; try with_reducible rfl)
      (try simp only [Act.put, List.setIfInBounds_toArray, List.set_cons_zero, List.set_cons_succ])
      refine wpAnyH_take (i := 7) (oi := ⟨some 64, _, _, _, _, _⟩) (v := ?_) rfl (by kernel_rfl) (by kernel_rfl) (by kernel_rfl) (fun _ _ _ h => h) (Or.inl ⟨by kernel_rfl, ?_⟩) (by assumption) ?_
      rotate_left
      · (intro w hSw; (try dsimp only at hSw); go_simp; try with_reducible rfl)
      (try simp only [Act.put, List.setIfInBounds_toArray, List.set_cons_zero, List.set_cons_succ])
      refine wpAnyH_take (i := 8) (oi := ⟨some 65, _, _, _, _, _⟩) (v := ?_) rfl (by kernel_rfl) (by kernel_rfl) (by kernel_rfl) (fun _ _ _ h => h) (Or.inl ⟨by kernel_rfl, ?_⟩) (by assumption) ?_
      rotate_left
      · (intro w hSw; (try dsimp only at hSw); go_simp; try with_reducible rfl)
      (try simp only [Act.put, List.setIfInBounds_toArray, List.set_cons_zero, List.set_cons_succ])
      refine wpAnyH_take (i := 9) (oi := ⟨some 66, _, _, _, _, _⟩) (v := ?_) rfl (by kernel_rfl) (by kernel_rfl) (by kernel_rfl) (fun _ _ _ h => h) (Or.inl ⟨by kernel_rfl, ?_⟩) (by assumption) ?_
      rotate_left
      · (intro w hSw; (try dsimp only at hSw); go_simp; try with_reducible rfl)
      (try simp only [Act.put, List.setIfInBounds_toArray, List.set_cons_zero, List.set_cons_succ])
      refine wpAnyH_take (i := 10) (oi := ⟨some 67, _, _, _, _, _⟩) (v := ?_) rfl (by kernel_rfl) (by kernel_rfl) (by kernel_rfl) (fun _ _ _ h => h) (Or.inl ⟨by kernel_rfl, ?_⟩) (by assumption) ?_
      rotate_left
      · (intro w hSw; (try dsimp only at hSw); go_simp; try with_reducible rfl)
      (try simp only [Act.put, List.setIfInBounds_toArray, List.set_cons_zero, List.set_cons_succ])
      refine wpAnyH_ready (rs := [5]) (by kernel_rfl) (by simp) ?_
      refine AllReadyH.cons (o := ⟨some 62, _, _, _, _, _⟩) rfl (fun K hK => ?_) AllReadyH.nil
      go_simp
      refine (NI.out _ (HI.out _ J0.out) (HKE.out _ (HB.out _ J0.out)).1 (HKE.out _ (HB.out _ J0.out)).2).mono ?_
      rintro e' W1 ⟨rfl, bb1⟩
      have J1 : Hid (Below x5.heap.size x5 W1) := J0.out.trans (bb1.mono J0.out.size)
      refine hK.out _ _ ?_ (fun hHeld => ?_)
      · exact HX.out _ J1.out
      clear hK K bb1
      (try simp only [Act.put, List.setIfInBounds_toArray, List.set_cons_zero, List.set_cons_succ])
      refine wpAnyH_ready (rs := [11]) (by kernel_rfl) (by simp) ?_
      refine AllReadyH.cons (o := ⟨some 68, _, _, _, _, _⟩) rfl (fun K hK => ?_) AllReadyH.nil
      go_simp
      refine (NS.out _ (HI.out _ J1.out)).mono ?_
      rintro e' W2 ⟨rfl, bb2⟩
      have J2 : Hid (Below x5.heap.size x5 W2) := J1.out.trans (bb2.mono J1.out.size)
      refine hK.out _ _ ?_ (fun hHeld => ?_)
      · exact HX.out _ J2.out
      clear hK K bb2
      (try simp only [Act.put, List.setIfInBounds_toArray, List.set_cons_zero, List.set_cons_succ])
      refine wpAnyH_take (i := 12) (oi := ⟨some 69, _, _, _, _, _⟩) (v := ?_) rfl (by kernel_rfl) (by kernel_rfl) (by kernel_rfl) (fun _ _ _ h => h) (Or.inl ⟨by kernel_rfl, ?_⟩) (by assumption) ?_
      rotate_left
      · (intro w hSw; (try dsimp only at hSw); go_simp; try with_reducible rfl)
      (try simp only [Act.put, List.setIfInBounds_toArray, List.set_cons_zero, List.set_cons_succ])
      refine wpAnyH_take (i := 13) (oi := ⟨some 70, _, _, _, _, _⟩) (v := ?_) rfl (by kernel_rfl) (by kernel_rfl) (by kernel_rfl) (fun _ _ _ h => h) (Or.inl ⟨by kernel_rfl, ?_⟩) (by assumption) ?_
      rotate_left
      · (intro w hSw; (try dsimp only at hSw); go_simp; try with_reducible rfl)
      (try simp only [Act.put, List.setIfInBounds_toArray, List.set_cons_zero, List.set_cons_succ])
      refine wpAnyH_take (i := 14) (oi := ⟨some 71, _, _, _, _, _⟩) (v := ?_) rfl (by kernel_rfl) (by kernel_rfl) (by kernel_rfl) (fun _ _ _ h => h) (Or.inl ⟨by kernel_rfl, ?_⟩) (by assumption) ?_
      rotate_left
      · (intro w hSw; (try dsimp only at hSw); go_simp; try with_reducible rfl)
      (try simp only [Act.put, List.setIfInBounds_toArray, List.set_cons_zero, List.set_cons_succ])
      refine wpAnyH_take (i := 15) (oi := ⟨some 72, _, _, _, _, _⟩) (v := ?_) rfl (by kernel_rfl) (by kernel_rfl) (by kernel_rfl) (fun _ _ _ h => h) (Or.inl ⟨by kernel_rfl, ?_⟩) (by assumption) ?_
      rotate_left
      · (intro w hSw; (try dsimp only at hSw); go_simp; try with_reducible rfl)
      (try simp only [Act.put, List.setIfInBounds_toArray, List.set_cons_zero, List.set_cons_succ])
      refine wpAnyH_take (i := 16) (oi := ⟨some 73, _, _, _, _, _⟩) (v := ?_) rfl (by kernel_rfl) (by kernel_rfl) (by kernel_rfl) (fun _ _ _ h => h) (Or.inl ⟨by kernel_rfl, ?_⟩) (by assumption) ?_
      rotate_left
      · (intro w hSw; (try dsimp only at hSw); go_simp; try with_reducible rfl)
      (try simp only [Act.put, List.setIfInBounds_toArray, List.set_cons_zero, List.set_cons_succ])
      refine wpAnyH_take (i := 17) (oi := ⟨some 74, _, _, _, _, _⟩) (v := ?_) rfl (by kernel_rfl) (by kernel_rfl) (by kernel_rfl) (fun _ _ _ h => h) (Or.inl ⟨by kernel_rfl, ?_⟩) (by assumption) ?_
      rotate_left
      · (intro w hSw; (try dsimp only at hSw); go_simp; try with_reducible rfl)
      (try simp only [Act.put, List.setIfInBounds_toArray, List.set_cons_zero, List.set_cons_succ])
      refine wpAnyH_take (i := 18) (oi := ⟨some 75, _, _, _, _, _⟩) (v := ?_) rfl (by kernel_rfl) (by kernel_rfl) (by kernel_rfl) (fun _ _ _ h => h) (Or.inl ⟨by kernel_rfl, ?_⟩) (by assumption) ?_
      rotate_left
      · (intro w hSw; (try dsimp only at hSw); go_simp; try with_reducible rfl)
      (try simp only [Act.put, List.setIfInBounds_toArray, List.set_cons_zero, List.set_cons_succ])
      refine wpAnyH_ready (rs := [19]) (by kernel_rfl) (by simp) ?_
      refine AllReadyH.cons (o := ⟨some 76, _, _, _, _, _⟩) rfl (fun K hK => ?_) AllReadyH.nil
      go_simp
      refine (NI.out _ (HI.out _ J2.out) (HKE.out _ (HB.out _ J2.out)).1 (HKE.out _ (HB.out _ J2.out)).2).mono ?_
      rintro e' W3 ⟨rfl, bb3⟩
      have J3 : Hid (Below x5.heap.size x5 W3) := J2.out.trans (bb3.mono J2.out.size)
      refine hK.out _ _ ?_ (fun hHeld => ?_)
      · exact HX.out _ J3.out
      clear hK K bb3
      (try simp only [Act.put, List.setIfInBounds_toArray, List.set_cons_zero, List.set_cons_succ])
      refine wpAnyH_take (i := 20) (oi := ⟨some 77, _, _, _, _, _⟩) (v := ?_) rfl (by kernel_rfl) (by kernel_rfl) (by kernel_rfl) (fun _ _ _ h => h) (Or.inl ⟨by kernel_rfl, ?_⟩) (by assumption) ?_
      rotate_left
      · (intro w hSw; (try dsimp only at hSw); go_simp; try with_reducible rfl)
      (try simp only [Act.put, List.setIfInBounds_toArray, List.set_cons_zero, List.set_cons_succ])
      refine wpAnyH_take (i := 21) (oi := ⟨some 78, _, _, _, _, _⟩) (v := undef) rfl (by kernel_rfl) (by kernel_rfl) (by kernel_rfl) (fun _ _ _ h => h) (Or.inr ⟨by kernel_rfl, rfl⟩) (by assumption) ?_
      (try simp only [Act.put, List.setIfInBounds_toArray, List.set_cons_zero, List.set_cons_succ])
      refine wpAnyH_take (i := 22) (oi := ⟨some 79, _, _, _, _, _⟩) (v := undef) rfl (by kernel_rfl) (by kernel_rfl) (by kernel_rfl) (fun _ _ _ h => h) (Or.inr ⟨by kernel_rfl, rfl⟩) (by assumption) ?_
      (try simp only [Act.put, List.setIfInBounds_toArray, List.set_cons_zero, List.set_cons_succ])
      refine wpAnyH_take (i := 23) (oi := ⟨some 80, _, _, _, _, _⟩) (v := undef) rfl (by kernel_rfl) (by kernel_rfl) (by kernel_rfl) (fun _ _ _ h => h) (Or.inr ⟨by kernel_rfl, rfl⟩) (by assumption) ?_
      (try simp only [Act.put, List.setIfInBounds_toArray, List.set_cons_zero, List.set_cons_succ])
      refine wpAnyH_take (i := 24) (oi := ⟨some 81, _, _, _, _, _⟩) (v := undef) rfl (by kernel_rfl) (by kernel_rfl) (by kernel_rfl) (fun _ _ _ h => h) (Or.inr ⟨by kernel_rfl, rfl⟩) (by assumption) ?_
      (try simp only [Act.put, List.setIfInBounds_toArray, List.set_cons_zero, List.set_cons_succ])
      refine wpAnyH_take (i := 25) (oi := ⟨some 82, _, _, _, _, _⟩) (v := undef) rfl (by kernel_rfl) (by kernel_rfl) (by kernel_rfl) (fun _ _ _ h => h) (Or.inr ⟨by kernel_rfl, rfl⟩) (by assumption) ?_
      (try simp only [Act.put, List.setIfInBounds_toArray, List.set_cons_zero, List.set_cons_succ])
      refine wpAnyH_take (i := 26) (oi := ⟨some 83, _, _, _, _, _⟩) (v := undef) rfl (by kernel_rfl) (by kernel_rfl) (by kernel_rfl) (fun _ _ _ h => h) (Or.inr ⟨by kernel_rfl, rfl⟩) (by assumption) ?_
      (try simp only [Act.put, List.setIfInBounds_toArray, List.set_cons_zero, List.set_cons_succ])
      refine wpAnyH_take (i := 27) (oi := ⟨some 84, _, _, _, _, _⟩) (v := ?_) rfl (by kernel_rfl) (by kernel_rfl) (by kernel_rfl) (fun _ _ _ h => h) (Or.inl ⟨by kernel_rfl, ?_⟩) (by assumption) ?_
      rotate_left
      · (intro w hSw; (try dsimp only at hSw); go_simp; try with_reducible rfl)
      (try simp only [Act.put, List.setIfInBounds_toArray, List.set_cons_zero, List.set_cons_succ])
      refine wpAnyH_take (i := 28) (oi := ⟨some 85, _, _, _, _, _⟩) (v := ?_) rfl (by kernel_rfl) (by kernel_rfl) (by kernel_rfl) (fun _ _ _ h => h) (Or.inl ⟨by kernel_rfl, ?_⟩) (by assumption) ?_
      rotate_left
      · (intro w hSw; (try dsimp only at hSw); go_simp; try with_reducible rfl)
      (try simp only [Act.put, List.setIfInBounds_toArray, List.set_cons_zero, List.set_cons_succ])
      refine wpAnyH_done (by kernel_rfl) ?_ _
      go_wp2_with fail
      go_meet
      case rel => exact ⟨by first | rfl | simp, J3.out⟩
    | true =>
      subst hpn
      obtain rfl := HN0.out rfl
      clear HN0
      have J0 : Hid (Below x5.heap.size x5 x5.drew) := (Below.refl _ _).drew
      refine wp_region_held_drew (S := fun V => ((V.cell? ⟨y2.heap.size, 0, none⟩ = some (.int .i64 aser) ∧ V.cell? ⟨y2.heap.size, 1, none⟩ = some (.string aiss) ∧ V.cell? ⟨y2.heap.size, 2, none⟩ = some (.string asub) ∧ V.cell? ⟨y2.heap.size, 3, none⟩ = some (.int .i64 afr) ∧ V.cell? ⟨y2.heap.size, 4, none⟩ = some (.int .i64 atill) ∧ V.cell? ⟨y2.heap.size, 5, none⟩ = some (.int .i64 akey) ∧ V.cell? ⟨y2.heap.size, 6, none⟩ = some (.slice ra RN rc) ∧ V.cell? ⟨y2.heap.size, 7, none⟩ = some (.bool aca) ∧ V.cell? ⟨y2.heap.size, 8, none⟩ = some (.int .i64 ask) ∧ V.cell? ⟨y2.heap.size, 9, none⟩ = some (.int .i64 ase) ∧ V.cell? ⟨y2.heap.size, 10, none⟩ = some (.int .i64 ass)) ∧ (V.cell? ⟨y2.heap.size + 1, 0, none⟩ = some (.int .i64 bser) ∧ V.cell? ⟨y2.heap.size + 1, 1, none⟩ = some (.string biss) ∧ V.cell? ⟨y2.heap.size + 1, 2, none⟩ = some (.string bsub) ∧ V.cell? ⟨y2.heap.size + 1, 3, none⟩ = some (.int .i64 bfr) ∧ V.cell? ⟨y2.heap.size + 1, 4, none⟩ = some (.int .i64 btill) ∧ V.cell? ⟨y2.heap.size + 1, 5, none⟩ = some (.int .i64 bkey) ∧ V.cell? ⟨y2.heap.size + 1, 6, none⟩ = some (.slice ca0 CN cc0) ∧ V.cell? ⟨y2.heap.size + 1, 7, none⟩ = some (.bool bca) ∧ V.cell? ⟨y2.heap.size + 1, 8, none⟩ = some (.int .i64 bsk) ∧ V.cell? ⟨y2.heap.size + 1, 9, none⟩ = some (.int .i64 bse) ∧ V.cell? ⟨y2.heap.size + 1, 10, none⟩ = some (.int .i64 bss)) ∧ (V.cell? ⟨y2.heap.size + 2, 0, none⟩ = some (.string diss) ∧ V.cell? ⟨y2.heap.size + 2, 1, none⟩ = some (.int .i64 dfr) ∧ V.cell? ⟨y2.heap.size + 2, 2, none⟩ = some (.int .i64 dtill) ∧ V.cell? ⟨y2.heap.size + 2, 3, none⟩ = some (.slice la0 LN lc0) ∧ V.cell? ⟨y2.heap.size + 2, 4, none⟩ = some (.int .i64 dsk) ∧ V.cell? ⟨y2.heap.size + 2, 5, none⟩ = some (.int .i64 dse) ∧ V.cell? ⟨y2.heap.size + 2, 6, none⟩ = some (.int .i64 dss)))) (by kernel_rfl) ?_ (fun hHeld => ?_)
      · exact HX.out _ J0.out
      refine wpAnyH_take (i := 0) (oi := ⟨some 57, _, _, _, _, _⟩) (v := ?_) rfl (by kernel_rfl) (by kernel_rfl) (by kernel_rfl) (fun _ _ _ h => h) (Or.inl ⟨by kernel_rfl, ?_⟩) (by assumption) ?_
      rotate_left
      · (intro w hSw; (try dsimp only at hSw); go_simp; try with_reducible rfl)
      (try simp only [Act.put, List.setIfInBounds_toArray, List.set_cons_zero, List.set_cons_succ])
      refine wpAnyH_take (i := 1) (oi := ⟨some 58, _, _, _, _, _⟩) (v := ?_) rfl (by kernel_rfl) (by kernel_rfl) (by kernel_rfl) (fun _ _ _ h => h) (Or.inl ⟨by kernel_rfl, ?_⟩) (by assumption) ?_
      rotate_left
      · (intro w hSw; (try dsimp only at hSw); go_simp; try with_reducible rfl)
      (try simp only [Act.put, List.setIfInBounds_toArray, List.set_cons_zero, List.set_cons_succ])
      refine wpAnyH_take (i := 2) (oi := ⟨some 59, _, _, _, _, _⟩) (v := ?_) rfl (by kernel_rfl) (by kernel_rfl) (by kernel_rfl) (fun _ _ _ h => h) (Or.inl ⟨by kernel_rfl, ?_⟩) (by assumption) ?_
      rotate_left
      · (intro w hSw; (try dsimp only at hSw); go_simp; try with_reducible rfl)
      (try simp only [Act.put, List.setIfInBounds_toArray, List.set_cons_zero, List.set_cons_succ])
      refine wpAnyH_take (i := 3) (oi := ⟨some 60, _, _, _, _, _⟩) (v := ?_) rfl (by kernel_rfl) (by kernel_rfl) (by kernel_rfl) (fun _ _ _ h => h) (Or.inl ⟨by kernel_rfl, ?_⟩) (by assumption) ?_
      rotate_left
      · (intro w hSw; (try dsimp only at hSw); go_simp; try with_reducible rfl)
      (try simp only [Act.put, List.setIfInBounds_toArray, List.set_cons_zero, List.set_cons_succ])
      refine wpAnyH_take (i := 4) (oi := ⟨some 61, _, _, _, _, _⟩) (v := ?_) rfl (by kernel_rfl) (by kernel_rfl) (by kernel_rfl) (fun _ _ _ h => h) (Or.inl ⟨by kernel_rfl, ?_⟩) (by assumption) ?_
      rotate_left
      · (intro w hSw; (try dsimp only at hSw); go_simp; try with_reducible rfl)
      (try simp only [Act.put, List.setIfInBounds_toArray, List.set_cons_zero, List.set_cons_succ])
      refine wpAnyH_take (i := 6) (oi := ⟨some 63, _, _, _, _, _⟩) (v := ?_) rfl (by kernel_rfl) (by kernel_rfl) (by kernel_rfl) (fun _ _ _ h => h) (Or.inl ⟨by kernel_rfl, ?_⟩) (by assumption) ?_
      rotate_left
      · (intro w hSw; (try dsimp only at hSw); go_simp; try with_reducible rfl)
      (try simp only [Act.put, List.setIfInBounds_toArray, List.set_cons_zero, List.set_cons_succ])
      refine wpAnyH_take (i := 7) (oi := ⟨some 64, _, _, _, _, _⟩) (v := ?_) rfl (by kernel_rfl) (by kernel_rfl) (by kernel_rfl) (fun _ _ _ h => h) (Or.inl ⟨by kernel_rfl, ?_⟩) (by assumption) ?_
      rotate_left
      · (intro w hSw; (try dsimp only at hSw); go_simp; try with_reducible rfl)
      (try simp only [Act.put, List.setIfInBounds_toArray, List.set_cons_zero, List.set_cons_succ])
      refine wpAnyH_take (i := 8) (oi := ⟨some 65, _, _, _, _, _⟩) (v := ?_) rfl (by kernel_rfl) (by kernel_rfl) (by kernel_rfl) (fun _ _ _ h => h) (Or.inl ⟨by kernel_rfl, ?_⟩) (by assumption) ?_
      rotate_left
      · (intro w hSw; (try dsimp only at hSw); go_simp; try with_reducible rfl)
      (try simp only [Act.put, List.setIfInBounds_toArray, List.set_cons_zero, List.set_cons_succ])
      refine wpAnyH_take (i := 9) (oi := ⟨some 66, _, _, _, _, _⟩) (v := ?_) rfl (by kernel_rfl) (by kernel_rfl) (by kernel_rfl) (fun _ _ _ h => h) (Or.inl ⟨by kernel_rfl, ?_⟩) (by assumption) ?_
      rotate_left
      · (intro w hSw; (try dsimp only at hSw); go_simp; try with_reducible rfl)
      (try simp only [Act.put, List.setIfInBounds_toArray, List.set_cons_zero, List.set_cons_succ])
      refine wpAnyH_take (i := 10) (oi := ⟨some 67, _, _, _, _, _⟩) (v := ?_) rfl (by kernel_rfl) (by kernel_rfl) (by kernel_rfl) (fun _ _ _ h => h) (Or.inl ⟨by kernel_rfl, ?_⟩) (by assumption) ?_
      rotate_left
      · (intro w hSw; (try dsimp only at hSw); go_simp; try with_reducible rfl)
      (try simp only [Act.put, List.setIfInBounds_toArray, List.set_cons_zero, List.set_cons_succ])
      refine wpAnyH_ready (rs := [5]) (by kernel_rfl) (by simp) ?_
      refine AllReadyH.cons (o := ⟨some 62, _, _, _, _, _⟩) rfl (fun K hK => ?_) AllReadyH.nil
      go_simp
      refine (NI.out _ (HI.out _ J0.out) (HKE.out _ (HB.out _ J0.out)).1 (HKE.out _ (HB.out _ J0.out)).2).mono ?_
      rintro e' W1 ⟨rfl, bb1⟩
      have J1 : Hid (Below x5.heap.size x5 W1) := J0.out.trans (bb1.mono J0.out.size)
      refine hK.out _ _ ?_ (fun hHeld => ?_)
      · exact HX.out _ J1.out
      clear hK K bb1
      (try simp only [Act.put, List.setIfInBounds_toArray, List.set_cons_zero, List.set_cons_succ])
      refine wpAnyH_ready (rs := [11]) (by kernel_rfl) (by simp) ?_
      refine AllReadyH.cons (o := ⟨some 68, _, _, _, _, _⟩) rfl (fun K hK => ?_) AllReadyH.nil
      go_simp
      refine (NS.out _ (HI.out _ J1.out)).mono ?_
      rintro e' W2 ⟨rfl, bb2⟩
      have J2 : Hid (Below x5.heap.size x5 W2) := J1.out.trans (bb2.mono J1.out.size)
      refine hK.out _ _ ?_ (fun hHeld => ?_)
      · exact HX.out _ J2.out
      clear hK K bb2
      (try simp only [Act.put, List.setIfInBounds_toArray, List.set_cons_zero, List.set_cons_succ])
      refine wpAnyH_take (i := 12) (oi := ⟨some 69, _, _, _, _, _⟩) (v := ?_) rfl (by kernel_rfl) (by kernel_rfl) (by kernel_rfl) (fun _ _ _ h => h) (Or.inl ⟨by kernel_rfl, ?_⟩) (by assumption) ?_
      rotate_left
      · (intro w hSw; (try dsimp only at hSw); go_simp; try with_reducible rfl)
      (try simp only [Act.put, List.setIfInBounds_toArray, List.set_cons_zero, List.set_cons_succ])
      refine wpAnyH_take (i := 13) (oi := ⟨some 70, _, _, _, _, _⟩) (v := ?_) rfl (by kernel_rfl) (by kernel_rfl) (by kernel_rfl) (fun _ _ _ h => h) (Or.inl ⟨by kernel_rfl, ?_⟩) (by assumption) ?_
      rotate_left
      · (intro w hSw; (try dsimp only at hSw); go_simp; try with_reducible rfl)
      (try simp only [Act.put, List.setIfInBounds_toArray, List.set_cons_zero, List.set_cons_succ])
      refine wpAnyH_take (i := 14) (oi := ⟨some 71, _, _, _, _, _⟩) (v := ?_) rfl (by kernel_rfl) (by kernel_rfl) (by kernel_rfl) (fun _ _ _ h => h) (Or.inl ⟨by kernel_rfl, ?_⟩) (by assumption) ?_
      rotate_left
      · (intro w hSw; (try dsimp only at hSw); go_simp; try with_reducible rfl)
      (try simp only [Act.put, List.setIfInBounds_toArray, List.set_cons_zero, List.set_cons_succ])
      refine wpAnyH_take (i := 15) (oi := ⟨some 72, _, _, _, _, _⟩) (v := ?_) rfl (by kernel_rfl) (by kernel_rfl) (by kernel_rfl) (fun _ _ _ h => h) (Or.inl ⟨by kernel_rfl, ?_⟩) (by assumption) ?_
      rotate_left
      · (intro w hSw; (try dsimp only at hSw); go_simp; try with_reducible rfl)
      (try simp only [Act.put, List.setIfInBounds_toArray, List.set_cons_zero, List.set_cons_succ])
      refine wpAnyH_take (i := 16) (oi := ⟨some 73, _, _, _, _, _⟩) (v := ?_) rfl (by kernel_rfl) (by kernel_rfl) (by kernel_rfl) (fun _ _ _ h => h) (Or.inl ⟨by kernel_rfl, ?_⟩) (by assumption) ?_
      rotate_left
      · (intro w hSw; (try dsimp only at hSw); go_simp; try with_reducible rfl)
      (try simp only [Act.put, List.setIfInBounds_toArray, List.set_cons_zero, List.set_cons_succ])
      refine wpAnyH_take (i := 17) (oi := ⟨some 74, _, _, _, _, _⟩) (v := ?_) rfl (by kernel_rfl) (by kernel_rfl) (by kernel_rfl) (fun _ _ _ h => h) (Or.inl ⟨by kernel_rfl, ?_⟩) (by assumption) ?_
      rotate_left
      · (intro w hSw; (try dsimp only at hSw); go_simp; try with_reducible rfl)
      (try simp only [Act.put, List.setIfInBounds_toArray, List.set_cons_zero, List.set_cons_succ])
      refine wpAnyH_take (i := 18) (oi := ⟨some 75, _, _, _, _, _⟩) (v := ?_) rfl (by kernel_rfl) (by kernel_rfl) (by kernel_rfl) (fun _ _ _ h => h) (Or.inl ⟨by kernel_rfl, ?_⟩) (by assumption) ?_
      rotate_left
      · (intro w hSw; (try dsimp only at hSw); go_simp; try with_reducible rfl)
      (try simp only [Act.put, List.setIfInBounds_toArray, List.set_cons_zero, List.set_cons_succ])
      refine wpAnyH_ready (rs := [19]) (by kernel_rfl) (by simp) ?_
      refine AllReadyH.cons (o := ⟨some 76, _, _, _, _, _⟩) rfl (fun K hK => ?_) AllReadyH.nil
      go_simp
      refine (NI.out _ (HI.out _ J2.out) (HKE.out _ (HB.out _ J2.out)).1 (HKE.out _ (HB.out _ J2.out)).2).mono ?_
      rintro e' W3 ⟨rfl, bb3⟩
      have J3 : Hid (Below x5.heap.size x5 W3) := J2.out.trans (bb3.mono J2.out.size)
      refine hK.out _ _ ?_ (fun hHeld => ?_)
      · exact HX.out _ J3.out
      clear hK K bb3
      (try simp only [Act.put, List.setIfInBounds_toArray, List.set_cons_zero, List.set_cons_succ])
      refine wpAnyH_take (i := 20) (oi := ⟨some 77, _, _, _, _, _⟩) (v := ?_) rfl (by kernel_rfl) (by kernel_rfl) (by kernel_rfl) (fun _ _ _ h => h) (Or.inl ⟨by kernel_rfl, ?_⟩) (by assumption) ?_
      rotate_left
      · (intro w hSw; (try dsimp only at hSw); go_simp; try with_reducible rfl)
      (try simp only [Act.put, List.setIfInBounds_toArray, List.set_cons_zero, List.set_cons_succ])
      refine wpAnyH_take (i := 21) (oi := ⟨some 78, _, _, _, _, _⟩) (v := ?_) rfl (by kernel_rfl) (by kernel_rfl) (by kernel_rfl) (fun _ _ _ h => h) (Or.inl ⟨by kernel_rfl, ?_⟩) (by assumption) ?_
      rotate_left
      · (intro w hSw; (try dsimp only at hSw); go_simp; try with_reducible rfl)
      (try simp only [Act.put, List.setIfInBounds_toArray, List.set_cons_zero, List.set_cons_succ])
      refine wpAnyH_take (i := 22) (oi := ⟨some 79, _, _, _, _, _⟩) (v := ?_) rfl (by kernel_rfl) (by kernel_rfl) (by kernel_rfl) (fun _ _ _ h => h) (Or.inl ⟨by kernel_rfl, ?_⟩) (by assumption) ?_
      rotate_left
      · (intro w hSw; (try dsimp only at hSw); go_simp; try with_reducible rfl)
      (try simp only [Act.put, List.setIfInBounds_toArray, List.set_cons_zero, List.set_cons_succ])
      refine wpAnyH_take (i := 23) (oi := ⟨some 80, _, _, _, _, _⟩) (v := ?_) rfl (by kernel_rfl) (by kernel_rfl) (by kernel_rfl) (fun _ _ _ h => h) (Or.inl ⟨by kernel_rfl, ?_⟩) (by assumption) ?_
      rotate_left
      · (intro w hSw; (try dsimp only at hSw); go_simp; try with_reducible rfl)
      (try simp only [Act.put, List.setIfInBounds_toArray, List.set_cons_zero, List.set_cons_succ])
      refine wpAnyH_take (i := 24) (oi := ⟨some 81, _, _, _, _, _⟩) (v := ?_) rfl (by kernel_rfl) (by kernel_rfl) (by kernel_rfl) (fun _ _ _ h => h) (Or.inl ⟨by kernel_rfl, ?_⟩) (by assumption) ?_
      rotate_left
      · (intro w hSw; (try dsimp only at hSw); go_simp; try with_reducible rfl)
      (try simp only [Act.put, List.setIfInBounds_toArray, List.set_cons_zero, List.set_cons_succ])
      refine wpAnyH_ready (rs := [25]) (by kernel_rfl) (by simp) ?_
      refine AllReadyH.cons (o := ⟨some 82, _, _, _, _, _⟩) rfl (fun K hK => ?_) AllReadyH.nil
      go_simp
      refine (TI.out _ (HI.out _ J3.out) (HKE.out _ (HB.out _ J3.out)).1 (HKE.out _ (HB.out _ J3.out)).2).mono ?_
      rintro e' W4 ⟨rfl, bb4⟩
      have J4 : Hid (Below x5.heap.size x5 W4) := J3.out.trans (bb4.mono J3.out.size)
      refine hK.out _ _ ?_ (fun hHeld => ?_)
      · exact HX.out _ J4.out
      clear hK K bb4
      (try simp only [Act.put, List.setIfInBounds_toArray, List.set_cons_zero, List.set_cons_succ])
      refine wpAnyH_take (i := 26) (oi := ⟨some 83, _, _, _, _, _⟩) (v := ?_) rfl (by kernel_rfl) (by kernel_rfl) (by kernel_rfl) (fun _ _ _ h => h) (Or.inl ⟨by kernel_rfl, ?_⟩) (by assumption) ?_
      rotate_left
      · (intro w hSw; (try dsimp only at hSw); go_simp; try with_reducible rfl)
      (try simp only [Act.put, List.setIfInBounds_toArray, List.set_cons_zero, List.set_cons_succ])
      refine wpAnyH_take (i := 27) (oi := ⟨some 84, _, _, _, _, _⟩) (v := ?_) rfl (by kernel_rfl) (by kernel_rfl) (by kernel_rfl) (fun _ _ _ h => h) (Or.inl ⟨by kernel_rfl, ?_⟩) (by assumption) ?_
      rotate_left
      · (intro w hSw; (try dsimp only at hSw); go_simp; try with_reducible rfl)
      (try simp only [Act.put, List.setIfInBounds_toArray, List.set_cons_zero, List.set_cons_succ])
      refine wpAnyH_take (i := 28) (oi := ⟨some 85, _, _, _, _, _⟩) (v := ?_) rfl (by kernel_rfl) (by kernel_rfl) (by kernel_rfl) (fun _ _ _ h => h) (Or.inl ⟨by kernel_rfl, ?_⟩) (by assumption) ?_
      rotate_left
      · (intro w hSw; (try dsimp only at hSw); go_simp; try with_reducible rfl)
      (try simp only [Act.put, List.setIfInBounds_toArray, List.set_cons_zero, List.set_cons_succ])
      refine wpAnyH_done (by kernel_rfl) ?_ _
      go_wp2_with fail
      go_meet
      case rel => exact ⟨by first | rfl | simp, J4.out⟩
  case rest =>
  obtain ⟨rfl, hcut⟩ := hcut
  have B9 : Hid (Below w.heap.size w wc) := HB.out _ hcut
  clear hcut HX HI HB TI NI NS HN0
  have LA : Hid (∀ V, Below w.heap.size w V → Calls Tryz.prog 10 #[.slice a0 len0 cap0, .int .i64 0, .int .i64 50] V fun e w' => (∃ k : Nat, k < 50 ∧ e = .returned (.int .i64 (k : Int))) ∧ w' = V) := fun V hV => (lwAt a0 len0 cap0 0 50 V (by omega) (by omega) (HC0.out _ hV)).mono fun e w' ⟨⟨k, hk, he⟩, hw⟩ => ⟨⟨k, by omega, he⟩, hw⟩
  have LB : Hid (∀ V, Below w.heap.size w V → Calls Tryz.prog 10 #[.slice a0 len0 cap0, .int .i64 1, .int .i64 50] V fun e w' => (∃ k : Nat, k < 50 ∧ e = .returned (.int .i64 (k : Int))) ∧ w' = V) := fun V hV => (lwAt a0 len0 cap0 1 50 V (by omega) (by omega) (HC0.out _ hV)).mono fun e w' ⟨⟨k, hk, he⟩, hw⟩ => ⟨⟨k, by omega, he⟩, hw⟩
  have LC : Hid (∀ V, Below w.heap.size w V → Calls Tryz.prog 10 #[.slice a1 len1 cap1, .int .i64 0, .int .i64 120] V fun e w' => (∃ k : Nat, k < 120 ∧ e = .returned (.int .i64 (k : Int))) ∧ w' = V) := fun V hV => (lwAt a1 len1 cap1 0 120 V (by omega) (by omega) (HC1.out _ hV)).mono fun e w' ⟨⟨k, hk, he⟩, hw⟩ => ⟨⟨k, by omega, he⟩, hw⟩
  have LD : Hid (∀ V, Below w.heap.size w V → Calls Tryz.prog 10 #[.slice a1 len1 cap1, .int .i64 1, .int .i64 2] V fun e w' => (∃ k : Nat, k < 2 ∧ e = .returned (.int .i64 (k : Int))) ∧ w' = V) := fun V hV => (lwAt a1 len1 cap1 1 2 V (by omega) (by omega) (HC1.out _ hV)).mono fun e w' ⟨⟨k, hk, he⟩, hw⟩ => ⟨⟨k, by omega, he⟩, hw⟩
  clear HB0 HB1
  go_wp2_with fail
  refine (LA.out _ B9.out).mono ?_
  rintro e y1 ⟨⟨f, hf, rfl⟩, rfl⟩
  go_wp2_with fail
  refine (LB.out _ B9.out).mono ?_
  rintro e y1 ⟨⟨q, hq, rfl⟩, rfl⟩
  go_wp2_with fail
  refine (LC.out _ B9.out).mono ?_
  rintro e y1 ⟨⟨n, hn, rfl⟩, rfl⟩
  go_wp2_with fail
  refine (LD.out _ B9.out).mono ?_
  rintro e y1 ⟨⟨l, hl, rfl⟩, rfl⟩
  clear LA LB LC LD HC0 HC1 h0 h1 hl0 hl1
  obtain ⟨t, ht⟩ : ∃ t : Nat, t = f + q := ⟨_, rfl⟩
  have hft : f ≤ t := by omega
  have ht2 : t ≤ 98 := by omega
  obtain ⟨zs, hzs⟩ : ∃ zs : List Int, zs = if (l == 1) = true then [3, 9] else [3] := ⟨_, rfl⟩
  obtain ⟨b, hbd⟩ : ∃ b : Bool, b = (l == 1) := ⟨_, rfl⟩
  rw [← hbd] at hzs
  have hz1 : serialsB zs = true := by rw [hzs]; cases b <;> decide
  have hz2 : zs.length ≤ 2 := by rw [hzs]; cases b <;> decide
  have hz3 : hasB zs 9 = b := by rw [hzs]; cases b <;> decide
  have HZ : Hid (zs = if b = true then [3, 9] else [3]) := hzs
  obtain ⟨N, hN⟩ : ∃ N : Nat, N = zs.length := ⟨_, rfl⟩
  obtain ⟨k1, e1, s1, v1⟩ := signV_is3 5 (bodyD (rootP 5))
  obtain ⟨k2, e2, s2, v2⟩ := signV_is3 5 (bodyD (leafP f t))
  obtain ⟨k3, e3, s3, v3⟩ := signV_is3 5 (listD (theL zs))
  obtain ⟨k4, e4, s4, v4⟩ := signV_is3 6 (bodyD (rootP 6))
  obtain ⟨W, hW⟩ : ∃ W : Int, W = wantC f t n b := ⟨_, rfl⟩
  have HW : Hid (W = if (n : Int) < f ∨ (t : Int) < n then 12 else if (110 : Int) < n then 8 else if b = true then 14 else 0) := hW
  have HP5 : Hid (∀ V : World, Calls Tryz.prog 12 #[.int .i64 5] V fun e w' => e = .returned (.int .i64 (pubA 5)) ∧ w' = V) := fun V => specPublic 5 V
  have HP6 : Hid (∀ V : World, Calls Tryz.prog 12 #[.int .i64 6] V fun e w' => e = .returned (.int .i64 (pubA 6)) ∧ w' = V) := fun V => specPublic 6 V
  have HP7 : Hid (∀ V : World, Calls Tryz.prog 12 #[.int .i64 7] V fun e w' => e = .returned (.int .i64 (pubA 7)) ∧ w' = V) := fun V => specPublic 7 V
  have C1 : Hid (∀ V, Below w.heap.size w V → Calls Tryz.prog 11 #[.int .i64 5, .agg #[.int .i64 1, .string ⟨#[114, 111, 111, 116]⟩, .string ⟨#[114, 111, 111, 116]⟩, .int .i64 0, .int .i64 500, .int .i64 (pubA 5), .slice none 0 0, .bool true, .int .i64 0, .int .i64 0, .int .i64 0]] V fun r w' => ∃ a c, r = .returned (.agg #[.int .i64 1, .string ⟨#[114, 111, 111, 116]⟩, .string ⟨#[114, 111, 111, 116]⟩, .int .i64 0, .int .i64 500, .int .i64 (pubA 5), .slice a 0 c, .bool true, .int .i64 k1, .int .i64 e1, .int .i64 s1]) ∧ Below V.heap.size V w') := fun V hV => signRoot rfl v1 V (HKE.out V hV).1
  have C4 : Hid (∀ V, Below w.heap.size w V → Calls Tryz.prog 11 #[.int .i64 6, .agg #[.int .i64 1, .string ⟨#[114, 111, 111, 116]⟩, .string ⟨#[114, 111, 111, 116]⟩, .int .i64 0, .int .i64 500, .int .i64 (pubA 6), .slice none 0 0, .bool true, .int .i64 0, .int .i64 0, .int .i64 0]] V fun r w' => ∃ a c, r = .returned (.agg #[.int .i64 1, .string ⟨#[114, 111, 111, 116]⟩, .string ⟨#[114, 111, 111, 116]⟩, .int .i64 0, .int .i64 500, .int .i64 (pubA 6), .slice a 0 c, .bool true, .int .i64 k4, .int .i64 e4, .int .i64 s4]) ∧ Below V.heap.size V w') := fun V hV => signRoot rfl v4 V (HKE.out V hV).1
  have C2 : Hid (∀ V g, Below w.heap.size w V → V.cell? ⟨g, 0, none⟩ = some (.string ⟨#[119, 119, 119]⟩) → Calls Tryz.prog 11 #[.int .i64 5, .agg #[.int .i64 9, .string ⟨#[114, 111, 111, 116]⟩, .string ⟨#[97, 110, 110]⟩, .int .i64 f, .int .i64 t, .int .i64 (pubA 7), .slice (some ⟨g, 0, none⟩) 1 1, .bool false, .int .i64 0, .int .i64 0, .int .i64 0]] V fun r w' => ∃ a c, r = .returned (.agg #[.int .i64 9, .string ⟨#[114, 111, 111, 116]⟩, .string ⟨#[97, 110, 110]⟩, .int .i64 f, .int .i64 t, .int .i64 (pubA 7), .slice a 1 c, .bool false, .int .i64 k2, .int .i64 e2, .int .i64 s2]) ∧ IsStrs w' a [bWww] ∧ Below V.heap.size V w') := fun V g hV hc => signLeaf (by omega) (by omega) (by omega) v2 g V hc (HKE.out V hV).1
  have C3 : Hid (∀ V g, Below w.heap.size w V → g < V.heap.size → (∀ i, i < N → V.cell? ⟨g, 0 + i, none⟩ = some (.int .i64 (zs.getD i 0))) → Calls Tryz.prog 13 #[.int .i64 5, .agg #[.string ⟨#[114, 111, 111, 116]⟩, .int .i64 0, .int .i64 110, .slice (some ⟨g, 0, none⟩) N N, .int .i64 0, .int .i64 0, .int .i64 0]] V fun r w' => ∃ a c, r = .returned (.agg #[.string ⟨#[114, 111, 111, 116]⟩, .int .i64 0, .int .i64 110, .slice a N c, .int .i64 k3, .int .i64 e3, .int .i64 s3]) ∧ OwnL w' V.heap.size (.slice a N c) zs ∧ Below V.heap.size V w') := fun V g hV hg hc => by
    have q := signTheL hz1 hz2 v3 g N V hg (by rw [← hN]; exact hc) (HKE.out V hV).1 (HKE.out V hV).2
    rw [← hN] at q
    exact q
  have D1 : Hid (∀ (V : World) a1 a2 a3 c1 c2 c3, Below w.heap.size w V → IsStrs V a2 [bWww] → IsInts V a3 zs → Calls Tryz.prog 5 #[.agg #[.int .i64 1, .string ⟨#[114, 111, 111, 116]⟩, .string ⟨#[114, 111, 111, 116]⟩, .int .i64 0, .int .i64 500, .int .i64 (pubA 5), .slice a1 0 c1, .bool true, .int .i64 k1, .int .i64 e1, .int .i64 s1], .agg #[.int .i64 9, .string ⟨#[114, 111, 111, 116]⟩, .string ⟨#[97, 110, 110]⟩, .int .i64 f, .int .i64 t, .int .i64 (pubA 7), .slice a2 1 c2, .bool false, .int .i64 k2, .int .i64 e2, .int .i64 s2], .agg #[.string ⟨#[114, 111, 111, 116]⟩, .int .i64 0, .int .i64 110, .slice a3 N c3, .int .i64 k3, .int .i64 e3, .int .i64 s3], .int .i64 n] V fun e w' => e = .returned (.int .i64 W) ∧ Below V.heap.size V w') := fun V a1 a2 a3 c1 c2 c3 hV o2 o3 => by
    have q := checkMade (f := f) (t := t) (n := n) (by omega) (by omega) (by omega) (by omega) (by omega) hz1 hz2 hz3 v1 v2 v3 a1 a2 a3 c1 c2 c3 V o2 o3 (HKE.out V hV).1 (HKE.out V hV).2
    rw [← hN, ← hW] at q
    exact q
  have D2 : Hid (∀ (V : World) a1 a2 a3 c1 c2 c3, Below w.heap.size w V → IsStrs V a2 [bWww] → IsInts V a3 zs → Calls Tryz.prog 8 #[.agg #[.int .i64 1, .string ⟨#[114, 111, 111, 116]⟩, .string ⟨#[114, 111, 111, 116]⟩, .int .i64 0, .int .i64 500, .int .i64 (pubA 5), .slice a1 0 c1, .bool true, .int .i64 k1, .int .i64 e1, .int .i64 s1], .agg #[.int .i64 9, .string ⟨#[114, 111, 111, 116]⟩, .string ⟨#[97, 110, 110]⟩, .int .i64 f, .int .i64 t, .int .i64 (pubA 7), .slice a2 1 c2, .bool false, .int .i64 k2, .int .i64 e2, .int .i64 s2], .agg #[.string ⟨#[114, 111, 111, 116]⟩, .int .i64 0, .int .i64 110, .slice a3 N c3, .int .i64 k3, .int .i64 e3, .int .i64 s3], .int .i64 n, .string ⟨#[119, 119, 119]⟩] V fun e w' => e = .returned (.bool (decide (W = 0))) ∧ Below V.heap.size V w') := fun V a1 a2 a3 c1 c2 c3 hV o2 o3 => by
    have q := nameMade (f := f) (t := t) (n := n) (by omega) (by omega) (by omega) (by omega) (by omega) hz1 hz2 hz3 v1 v2 v3 a1 a2 a3 c1 c2 c3 V o2 o3 (HKE.out V hV).1 (HKE.out V hV).2
    rw [← hN, ← hW] at q
    exact q
  have D3 : Hid (∀ (V : World) a1 a2 a3 c1 c2 c3, Below w.heap.size w V → IsStrs V a2 [bWww] → IsInts V a3 zs → Calls Tryz.prog 8 #[.agg #[.int .i64 1, .string ⟨#[114, 111, 111, 116]⟩, .string ⟨#[114, 111, 111, 116]⟩, .int .i64 0, .int .i64 500, .int .i64 (pubA 5), .slice a1 0 c1, .bool true, .int .i64 k1, .int .i64 e1, .int .i64 s1], .agg #[.int .i64 9, .string ⟨#[114, 111, 111, 116]⟩, .string ⟨#[97, 110, 110]⟩, .int .i64 f, .int .i64 t, .int .i64 (pubA 7), .slice a2 1 c2, .bool false, .int .i64 k2, .int .i64 e2, .int .i64 s2], .agg #[.string ⟨#[114, 111, 111, 116]⟩, .int .i64 0, .int .i64 110, .slice a3 N c3, .int .i64 k3, .int .i64 e3, .int .i64 s3], .int .i64 n, .string ⟨#[102, 116, 112]⟩] V fun e w' => e = .returned (.bool false) ∧ Below V.heap.size V w') := fun V a1 a2 a3 c1 c2 c3 hV o2 o3 => by
    have q := nameNot (f := f) (t := t) (n := n) (by omega) (by omega) (by omega) (by omega) (by omega) hz1 hz2 hz3 v1 v2 v3 a1 a2 a3 c1 c2 c3 V o2 o3 (HKE.out V hV).1 (HKE.out V hV).2
    rw [← hN] at q
    exact q
  have D4 : Hid (∀ (V : World) a4 a2 a3 c4 c2 c3, Below w.heap.size w V → IsStrs V a2 [bWww] → IsInts V a3 zs → Calls Tryz.prog 5 #[.agg #[.int .i64 1, .string ⟨#[114, 111, 111, 116]⟩, .string ⟨#[114, 111, 111, 116]⟩, .int .i64 0, .int .i64 500, .int .i64 (pubA 6), .slice a4 0 c4, .bool true, .int .i64 k4, .int .i64 e4, .int .i64 s4], .agg #[.int .i64 9, .string ⟨#[114, 111, 111, 116]⟩, .string ⟨#[97, 110, 110]⟩, .int .i64 f, .int .i64 t, .int .i64 (pubA 7), .slice a2 1 c2, .bool false, .int .i64 k2, .int .i64 e2, .int .i64 s2], .agg #[.string ⟨#[114, 111, 111, 116]⟩, .int .i64 0, .int .i64 110, .slice a3 N c3, .int .i64 k3, .int .i64 e3, .int .i64 s3], .int .i64 n] V fun e w' => e = .returned (.int .i64 6) ∧ Below V.heap.size V w') := fun V a4 a2 a3 c4 c2 c3 hV o2 o3 => by
    have q := checkOther (f := f) (t := t) (n := n) (by omega) (by omega) (by omega) (by omega) (by omega) hz1 hz2 v4 v2 v3 a4 a2 a3 c4 c2 c3 V o2 o3 (HKE.out V hV).1 (HKE.out V hV).2
    rw [← hN] at q
    exact q
  have HN : Hid (N = zs.length) := hN
  have HTQ : Hid (t = f + q) := ht
  have HBD : Hid (b = (l == 1)) := hbd
  clear hzs hbd hz1 hz2 hz3 hN v1 v2 v3 v4 hW ht HKE
  generalize pubA 5 = p5 at *
  generalize pubA 6 = p6 at *
  generalize pubA 7 = p7 at *
  go_upto_region 13 with fail
  rw [show ((f : Int) + (q : Int)) = (t : Int) by have := HTQ.out; omega]
  rw [show ((l : Int) == 1) = b by rw [HBD.out]; have h : l = 0 ∨ l = 1 := by omega
                                   rcases h with rfl | rfl <;> rfl]
  clear HTQ HBD hq hl
  go_wp2_with fail
  refine (HP5.out _).mono ?_
  rintro e y1 ⟨rfl, rfl⟩
  go_wp2_with fail
  refine (C1.out _ B9.out).mono ?_
  rintro e w13 ⟨a1, c1, rfl, b13⟩
  obtain ⟨x13, hx13⟩ : ∃ y, y = w13.alloc (.cells [Value.int .i64 1, .string ⟨#[114, 111, 111, 116]⟩, .string ⟨#[114, 111, 111, 116]⟩, .int .i64 0, .int .i64 500, .int .i64 p5, .slice a1 0 c1, .bool true, .int .i64 k1, .int .i64 e1, .int .i64 s1].toArray 27 (0, 0)) := ⟨_, rfl⟩
  have B13 : Hid (Below w.heap.size w x13) := by rw [hx13]; exact (B9.out.trans (b13.mono B9.out.size)).alloc (by have := B9.out.size; have := b13.size; omega) _
  have R13 : Hid (x13.heap[w13.heap.size]? = some (.cells [Value.int .i64 1, .string ⟨#[114, 111, 111, 116]⟩, .string ⟨#[114, 111, 111, 116]⟩, .int .i64 0, .int .i64 500, .int .i64 p5, .slice a1 0 c1, .bool true, .int .i64 k1, .int .i64 e1, .int .i64 s1].toArray 27 (0, 0))) := by rw [hx13]; exact heap_alloc_new w13 _
  clear b13 B9 C1 HP5
  go_upto_region 14 with fail
  rw [← hx13]
  clear hx13
  go_wp2_with fail
  refine (HP7.out _).mono ?_
  rintro e x13 ⟨rfl, rfl⟩
  obtain ⟨y14, hy14⟩ : ∃ y, y = x13.alloc (.cells #[.string ⟨#[119, 119, 119]⟩] 9 (0, 0)) := ⟨_, rfl⟩
  have hc14 : y14.cell? ⟨x13.heap.size, 0, none⟩ = some (.string ⟨#[119, 119, 119]⟩) := by rw [hy14]; exact rowFacts (show _ = some (Obj.cells [Value.string ⟨#[119, 119, 119]⟩].toArray 9 (0, 0)) from heap_alloc_new x13 _) 0 _ rfl
  have J14 : Hid (Below x13.heap.size x13 y14) := by rw [hy14]; exact (Below.refl _ _).alloc (Nat.le_refl _) _
  have HC14 : Hid _ := hc14
  clear hc14
  go_wp2_with fail
  rw [← hy14]
  clear hy14
  refine (C2.out _ _ (B13.out.trans (J14.out.mono B13.out.size)) HC14.out).mono ?_
  rintro e w14 ⟨a2, c2, rfl, o2, b14⟩
  obtain ⟨x14, hx14⟩ : ∃ y, y = w14.alloc (.cells [Value.int .i64 9, .string ⟨#[114, 111, 111, 116]⟩, .string ⟨#[97, 110, 110]⟩, .int .i64 f, .int .i64 t, .int .i64 p7, .slice a2 1 c2, .bool false, .int .i64 k2, .int .i64 e2, .int .i64 s2].toArray 27 (0, 0)) := ⟨_, rfl⟩
  have j14 : Below x13.heap.size x13 w14 := J14.out.trans (b14.mono J14.out.size)
  have J15 : Hid (Below x13.heap.size x13 x14) := by rw [hx14]; exact j14.alloc j14.size _
  have R14 : Hid (x14.heap[w14.heap.size]? = some (.cells [Value.int .i64 9, .string ⟨#[114, 111, 111, 116]⟩, .string ⟨#[97, 110, 110]⟩, .int .i64 f, .int .i64 t, .int .i64 p7, .slice a2 1 c2, .bool false, .int .i64 k2, .int .i64 e2, .int .i64 s2].toArray 27 (0, 0))) := by rw [hx14]; exact heap_alloc_new w14 _
  have O2 : Hid (IsStrs x14 a2 [bWww]) := by rw [hx14]; exact o2.keep ((Below.refl _ _).alloc (Nat.le_refl _) _)
  clear b14 o2 j14 J14 HC14 C2 HP7
  go_upto_region 15 with fail
  rw [← hx14]
  clear hx14
  go_upto_if 108 with fail
  go_cut [] from 108 (fun wx => Below x14.heap.size x14 wx ∧ ∃ g, g < wx.heap.size ∧ wx.heap[x14.heap.size + 1]? = some (.cells [Value.string ⟨#[114, 111, 111, 116]⟩, .int .i64 0, .int .i64 110, .slice (some ⟨g, 0, none⟩) N N, .int .i64 0, .int .i64 0, .int .i64 0].toArray 30 (0, 0)) ∧ ∀ i, i < N → wx.cell? ⟨g, 0 + i, none⟩ = some (.int .i64 (zs.getD i 0)))
  case first =>
    clear C3 C4 D1 D2 D3 D4 HP6 R13 R14 O2
    have hz := HZ.out
    cases b with
    | false =>
      rw [if_neg (by decide)] at hz
      obtain rfl : N = 1 := by rw [HN.out, hz]; rfl
      have HZ1 : Hid (zs = [3]) := hz
      clear hz HZ
      go_wp2_with fail
      go_meet
      case rel =>
        refine ⟨((Below.refl _ _).alloc (Nat.le_refl _) _).alloc (by simp) _, x14.heap.size, by simp; omega, heap_alloc2 x14 _ _, fun i hi => ?_⟩
        obtain rfl : i = 0 := by omega
        rw [HZ1.out]
        exact rowFacts (show _ = some (Obj.cells [Value.int .i64 3].toArray 2 (0, 0)) by rw [Below.heap_alloc _ _ _ (by simp)]; exact heap_alloc_new x14 _) 0 _ rfl
    | true =>
      rw [if_pos rfl] at hz
      obtain rfl : N = 2 := by rw [HN.out, hz]; rfl
      have HZ1 : Hid (zs = [3, 9]) := hz
      clear hz HZ
      go_wp2_with fail
      go_meet
      case rel =>
        refine ⟨(((Below.refl _ _).alloc (Nat.le_refl _) _).alloc (by simp) _).alloc (by simp; omega) _, x14.heap.size + 2, by simp, ?_, fun i hi => ?_⟩
        · rw [Below.heap_alloc _ _ _ (by simp)]
          exact heap_alloc2 x14 _ _
        have g17 : (((x14.alloc (.cells #[.int .i64 3] 2 (0, 0))).alloc (.cells [Value.string ⟨#[114, 111, 111, 116]⟩, .int .i64 0, .int .i64 110, .slice (some ⟨x14.heap.size + 1 + 1, 0, none⟩) 2 2, .int .i64 0, .int .i64 0, .int .i64 0].toArray 30 (0, 0))).alloc (.cells #[.int .i64 3, .int .i64 9] 2 (0, 0))).heap[x14.heap.size + 2]? = some (.cells [Value.int .i64 3, .int .i64 9].toArray 2 (0, 0)) := by
          have := heap_alloc_new ((x14.alloc (.cells #[.int .i64 3] 2 (0, 0))).alloc (.cells [Value.string ⟨#[114, 111, 111, 116]⟩, .int .i64 0, .int .i64 110, .slice (some ⟨x14.heap.size + 1 + 1, 0, none⟩) 2 2, .int .i64 0, .int .i64 0, .int .i64 0].toArray 30 (0, 0))) (.cells #[.int .i64 3, .int .i64 9] 2 (0, 0))
          simpa using this
        rw [HZ1.out]
        have hi2 : i = 0 ∨ i = 1 := by omega
        rcases hi2 with rfl | rfl
        · exact rowFacts g17 0 _ rfl
        · exact rowFacts g17 1 _ rfl
  case rest =>
  obtain ⟨hbx, g, hg, hrow, hcell⟩ := hcut
  obtain ⟨w17, hw17⟩ : ∃ y, y = wc := ⟨_, rfl⟩
  rw [← hw17] at hbx hg hrow hcell ⊢
  clear hw17
  have d0 := rowFacts hrow 0 _ rfl
  have d1 := rowFacts hrow 1 _ rfl
  have d2 := rowFacts hrow 2 _ rfl
  have d3 := rowFacts hrow 3 _ rfl
  have d4 := rowFacts hrow 4 _ rfl
  have d5 := rowFacts hrow 5 _ rfl
  have d6 := rowFacts hrow 6 _ rfl
  have R17 : Hid (w17.heap[x14.heap.size + 1]? = some (.cells [Value.string ⟨#[114, 111, 111, 116]⟩, .int .i64 0, .int .i64 110, .slice (some ⟨g, 0, none⟩) N N, .int .i64 0, .int .i64 0, .int .i64 0].toArray 30 (0, 0))) := hrow
  have HB17 : Hid (Below x14.heap.size x14 w17) := hbx
  have B14 : Hid (Below w.heap.size w x14) := B13.out.trans (J15.out.mono B13.out.size)
  have G17 : Hid (g < w17.heap.size ∧ ∀ i, i < N → w17.cell? ⟨g, 0 + i, none⟩ = some (.int .i64 (zs.getD i 0))) := ⟨hg, hcell⟩
  clear hbx hg hrow hcell HZ HN
  go_wp2_with fail
  refine (C3.out _ g (B14.out.trans (HB17.out.mono B14.out.size)) G17.out.1 G17.out.2).mono ?_
  rintro e w18 ⟨a3, c3, rfl, o3, b18⟩
  have r18 : w18.heap[x14.heap.size + 1]? = some (.cells [Value.string ⟨#[114, 111, 111, 116]⟩, .int .i64 0, .int .i64 110, .slice (some ⟨g, 0, none⟩) N N, .int .i64 0, .int .i64 0, .int .i64 0].toArray 30 (0, 0)) := (b18.block _ (heap_lt R17.out)).trans R17.out
  have hz18 : x14.heap.size + 1 < w17.heap.size := heap_lt R17.out
  have h18 : ∀ u ∈ [Value.string ⟨#[114, 111, 111, 116]⟩, .int .i64 0, .int .i64 110, .slice a3 N c3, .int .i64 k3, .int .i64 e3, .int .i64 s3], u.oneCell' = true := by simp [Value.oneCell']
  clear d0 d1 d2 d3 d4 d5 d6
  go_wp2_with (refine wpList_store_row rfl 30 _ _ rfl (x14.heap.size + 1) [Value.string ⟨#[114, 111, 111, 116]⟩, .int .i64 0, .int .i64 110, .slice (some ⟨g, 0, none⟩) N N, .int .i64 0, .int .i64 0, .int .i64 0] [Value.string ⟨#[114, 111, 111, 116]⟩, .int .i64 0, .int .i64 110, .slice a3 N c3, .int .i64 k3, .int .i64 e3, .int .i64 s3] 30 rfl rfl r18 rfl sizeCrl h18 ?_)
  intro x18 hrow ho hs hbb
  have O3 : Hid (IsInts x18 a3 zs) := (o3.same fun k hk hl => ho k (by omega)).ints
  have B18 : Hid (Below x14.heap.size x14 x18) := hbb _ _ (by omega) (HB17.out.trans (b18.mono HB17.out.size))
  have O2' : Hid (IsStrs x18 a2 [bWww]) := O2.out.keep B18.out
  have HX : Hid (∀ V : World, Below x18.heap.size x18 V → ((V.cell? ⟨w13.heap.size, 0, none⟩ = some (.int .i64 1) ∧ V.cell? ⟨w13.heap.size, 1, none⟩ = some (.string ⟨#[114, 111, 111, 116]⟩) ∧ V.cell? ⟨w13.heap.size, 2, none⟩ = some (.string ⟨#[114, 111, 111, 116]⟩) ∧ V.cell? ⟨w13.heap.size, 3, none⟩ = some (.int .i64 0) ∧ V.cell? ⟨w13.heap.size, 4, none⟩ = some (.int .i64 500) ∧ V.cell? ⟨w13.heap.size, 5, none⟩ = some (.int .i64 p5) ∧ V.cell? ⟨w13.heap.size, 6, none⟩ = some (.slice a1 0 c1) ∧ V.cell? ⟨w13.heap.size, 7, none⟩ = some (.bool true) ∧ V.cell? ⟨w13.heap.size, 8, none⟩ = some (.int .i64 k1) ∧ V.cell? ⟨w13.heap.size, 9, none⟩ = some (.int .i64 e1) ∧ V.cell? ⟨w13.heap.size, 10, none⟩ = some (.int .i64 s1)) ∧ (V.cell? ⟨w14.heap.size, 0, none⟩ = some (.int .i64 9) ∧ V.cell? ⟨w14.heap.size, 1, none⟩ = some (.string ⟨#[114, 111, 111, 116]⟩) ∧ V.cell? ⟨w14.heap.size, 2, none⟩ = some (.string ⟨#[97, 110, 110]⟩) ∧ V.cell? ⟨w14.heap.size, 3, none⟩ = some (.int .i64 f) ∧ V.cell? ⟨w14.heap.size, 4, none⟩ = some (.int .i64 t) ∧ V.cell? ⟨w14.heap.size, 5, none⟩ = some (.int .i64 p7) ∧ V.cell? ⟨w14.heap.size, 6, none⟩ = some (.slice a2 1 c2) ∧ V.cell? ⟨w14.heap.size, 7, none⟩ = some (.bool false) ∧ V.cell? ⟨w14.heap.size, 8, none⟩ = some (.int .i64 k2) ∧ V.cell? ⟨w14.heap.size, 9, none⟩ = some (.int .i64 e2) ∧ V.cell? ⟨w14.heap.size, 10, none⟩ = some (.int .i64 s2)) ∧ (V.cell? ⟨x14.heap.size + 1, 0, none⟩ = some (.string ⟨#[114, 111, 111, 116]⟩) ∧ V.cell? ⟨x14.heap.size + 1, 1, none⟩ = some (.int .i64 0) ∧ V.cell? ⟨x14.heap.size + 1, 2, none⟩ = some (.int .i64 110) ∧ V.cell? ⟨x14.heap.size + 1, 3, none⟩ = some (.slice a3 N c3) ∧ V.cell? ⟨x14.heap.size + 1, 4, none⟩ = some (.int .i64 k3) ∧ V.cell? ⟨x14.heap.size + 1, 5, none⟩ = some (.int .i64 e3) ∧ V.cell? ⟨x14.heap.size + 1, 6, none⟩ = some (.int .i64 s3)))) := fun V hV => by
    have hB : Below x14.heap.size x14 V := B18.out.trans (hV.mono B18.out.size)
    have h1 : V.heap[w13.heap.size]? = some (.cells [Value.int .i64 1, .string ⟨#[114, 111, 111, 116]⟩, .string ⟨#[114, 111, 111, 116]⟩, .int .i64 0, .int .i64 500, .int .i64 p5, .slice a1 0 c1, .bool true, .int .i64 k1, .int .i64 e1, .int .i64 s1].toArray 27 (0, 0)) := by rw [(J15.out.trans (hB.mono J15.out.size)).block _ (heap_lt R13.out)]; exact R13.out
    have h2 : V.heap[w14.heap.size]? = some (.cells [Value.int .i64 9, .string ⟨#[114, 111, 111, 116]⟩, .string ⟨#[97, 110, 110]⟩, .int .i64 f, .int .i64 t, .int .i64 p7, .slice a2 1 c2, .bool false, .int .i64 k2, .int .i64 e2, .int .i64 s2].toArray 27 (0, 0)) := by rw [hB.block _ (heap_lt R14.out)]; exact R14.out
    have h3 : V.heap[x14.heap.size + 1]? = some (.cells [Value.string ⟨#[114, 111, 111, 116]⟩, .int .i64 0, .int .i64 110, .slice a3 N c3, .int .i64 k3, .int .i64 e3, .int .i64 s3].toArray 30 (0, 0)) := by rw [hV.block _ (heap_lt hrow)]; exact hrow
    exact ⟨⟨rowFacts h1 0 _ rfl, rowFacts h1 1 _ rfl, rowFacts h1 2 _ rfl, rowFacts h1 3 _ rfl, rowFacts h1 4 _ rfl, rowFacts h1 5 _ rfl, rowFacts h1 6 _ rfl, rowFacts h1 7 _ rfl, rowFacts h1 8 _ rfl, rowFacts h1 9 _ rfl, rowFacts h1 10 _ rfl⟩, ⟨rowFacts h2 0 _ rfl, rowFacts h2 1 _ rfl, rowFacts h2 2 _ rfl, rowFacts h2 3 _ rfl, rowFacts h2 4 _ rfl, rowFacts h2 5 _ rfl, rowFacts h2 6 _ rfl, rowFacts h2 7 _ rfl, rowFacts h2 8 _ rfl, rowFacts h2 9 _ rfl, rowFacts h2 10 _ rfl⟩, ⟨rowFacts h3 0 _ rfl, rowFacts h3 1 _ rfl, rowFacts h3 2 _ rfl, rowFacts h3 3 _ rfl, rowFacts h3 4 _ rfl, rowFacts h3 5 _ rfl, rowFacts h3 6 _ rfl⟩⟩
  have BX : Hid (Below w.heap.size w x18) := B14.out.trans (B18.out.mono B14.out.size)
  clear hrow ho hs hbb o3 b18 r18 hz18 h18 G17 C3 R17 HB17 B18 B14 O2 R13 R14 J15 B13
  go_upto_region 19 with fail
  go_cut [21] from 113 (fun s21 wx => s21 = .int .i64 0 ∧ wx = x18)
  case first =>
    go_wp2_with fail
    go_meet
    case rel => exact ⟨rfl, rfl⟩
  case rest =>
  obtain ⟨rfl, hwc⟩ := hcut
  rw [hwc]
  clear hwc
  go_step
  go_step
  go_cut [21] from 113 (fun s21 wx => s21 = .int .i64 W ∧ wx = x18)
  case first =>
    have hw := HW.out
    clear HX BX O3 O2' D1 D2 D3 D4 C4 HP6 HW
    by_cases g1 : (n : Int) < f
    · rw [if_pos (.inl g1)] at hw
      have HW1 : Hid (W = 12) := hw
      clear hw
      go_wp2_with fail
      go_meet
      case rel => exact ⟨by rw [HW1.out], rfl⟩
    by_cases g2 : (t : Int) < n
    · rw [if_pos (.inr g2)] at hw
      have HW1 : Hid (W = 12) := hw
      clear hw
      go_wp2_with fail
      go_meet
      case rel => exact ⟨by rw [HW1.out], rfl⟩
    rw [if_neg (by omega)] at hw
    by_cases g3 : (110 : Int) < n
    · rw [if_pos g3] at hw
      have HW1 : Hid (W = 8) := hw
      clear hw
      go_wp2_with fail
      go_meet
      case rel => exact ⟨by rw [HW1.out], rfl⟩
    rw [if_neg g3] at hw
    cases b with
    | false =>
      rw [if_neg (by decide)] at hw
      have HW1 : Hid (W = 0) := hw
      clear hw
      go_wp2_with fail
      go_meet
      case rel => exact ⟨by rw [HW1.out], rfl⟩
    | true =>
      rw [if_pos rfl] at hw
      have HW1 : Hid (W = 14) := hw
      clear hw
      go_wp2_with fail
      go_meet
      case rel => exact ⟨by rw [HW1.out], rfl⟩
  case rest =>
  obtain ⟨rfl, hwc⟩ := hcut
  rw [hwc]
  clear hwc HW
  obtain ⟨bw, hbw⟩ : ∃ bw : Bool, bw = decide (W = 0) := ⟨_, rfl⟩
  have hq0 : (W == 0) = bw := by rw [hbw]; rfl
  rw [← hbw] at D2
  clear hbw
  go_wp2_with fail
  refine (HP6.out _).mono ?_
  rintro e x18 ⟨rfl, rfl⟩
  go_wp2_with fail
  refine (C4.out _ BX.out).mono ?_
  rintro e w26 ⟨a4, c4, rfl, b26⟩
  obtain ⟨x26, hx26⟩ : ∃ y, y = w26.alloc (.cells [Value.int .i64 1, .string ⟨#[114, 111, 111, 116]⟩, .string ⟨#[114, 111, 111, 116]⟩, .int .i64 0, .int .i64 500, .int .i64 p6, .slice a4 0 c4, .bool true, .int .i64 k4, .int .i64 e4, .int .i64 s4].toArray 27 (0, 0)) := ⟨_, rfl⟩
  have j26 : Below x18.heap.size x18 x26 := by rw [hx26]; exact b26.alloc b26.size _
  have r26 : x26.heap[w26.heap.size]? = some (.cells [Value.int .i64 1, .string ⟨#[114, 111, 111, 116]⟩, .string ⟨#[114, 111, 111, 116]⟩, .int .i64 0, .int .i64 500, .int .i64 p6, .slice a4 0 c4, .bool true, .int .i64 k4, .int .i64 e4, .int .i64 s4].toArray 27 (0, 0)) := by rw [hx26]; exact heap_alloc_new w26 _
  have HY : Hid (∀ V : World, Below x26.heap.size x26 V → ((V.cell? ⟨w13.heap.size, 0, none⟩ = some (.int .i64 1) ∧ V.cell? ⟨w13.heap.size, 1, none⟩ = some (.string ⟨#[114, 111, 111, 116]⟩) ∧ V.cell? ⟨w13.heap.size, 2, none⟩ = some (.string ⟨#[114, 111, 111, 116]⟩) ∧ V.cell? ⟨w13.heap.size, 3, none⟩ = some (.int .i64 0) ∧ V.cell? ⟨w13.heap.size, 4, none⟩ = some (.int .i64 500) ∧ V.cell? ⟨w13.heap.size, 5, none⟩ = some (.int .i64 p5) ∧ V.cell? ⟨w13.heap.size, 6, none⟩ = some (.slice a1 0 c1) ∧ V.cell? ⟨w13.heap.size, 7, none⟩ = some (.bool true) ∧ V.cell? ⟨w13.heap.size, 8, none⟩ = some (.int .i64 k1) ∧ V.cell? ⟨w13.heap.size, 9, none⟩ = some (.int .i64 e1) ∧ V.cell? ⟨w13.heap.size, 10, none⟩ = some (.int .i64 s1)) ∧ (V.cell? ⟨w14.heap.size, 0, none⟩ = some (.int .i64 9) ∧ V.cell? ⟨w14.heap.size, 1, none⟩ = some (.string ⟨#[114, 111, 111, 116]⟩) ∧ V.cell? ⟨w14.heap.size, 2, none⟩ = some (.string ⟨#[97, 110, 110]⟩) ∧ V.cell? ⟨w14.heap.size, 3, none⟩ = some (.int .i64 f) ∧ V.cell? ⟨w14.heap.size, 4, none⟩ = some (.int .i64 t) ∧ V.cell? ⟨w14.heap.size, 5, none⟩ = some (.int .i64 p7) ∧ V.cell? ⟨w14.heap.size, 6, none⟩ = some (.slice a2 1 c2) ∧ V.cell? ⟨w14.heap.size, 7, none⟩ = some (.bool false) ∧ V.cell? ⟨w14.heap.size, 8, none⟩ = some (.int .i64 k2) ∧ V.cell? ⟨w14.heap.size, 9, none⟩ = some (.int .i64 e2) ∧ V.cell? ⟨w14.heap.size, 10, none⟩ = some (.int .i64 s2)) ∧ (V.cell? ⟨x14.heap.size + 1, 0, none⟩ = some (.string ⟨#[114, 111, 111, 116]⟩) ∧ V.cell? ⟨x14.heap.size + 1, 1, none⟩ = some (.int .i64 0) ∧ V.cell? ⟨x14.heap.size + 1, 2, none⟩ = some (.int .i64 110) ∧ V.cell? ⟨x14.heap.size + 1, 3, none⟩ = some (.slice a3 N c3) ∧ V.cell? ⟨x14.heap.size + 1, 4, none⟩ = some (.int .i64 k3) ∧ V.cell? ⟨x14.heap.size + 1, 5, none⟩ = some (.int .i64 e3) ∧ V.cell? ⟨x14.heap.size + 1, 6, none⟩ = some (.int .i64 s3)) ∧ (V.cell? ⟨w26.heap.size, 0, none⟩ = some (.int .i64 1) ∧ V.cell? ⟨w26.heap.size, 1, none⟩ = some (.string ⟨#[114, 111, 111, 116]⟩) ∧ V.cell? ⟨w26.heap.size, 2, none⟩ = some (.string ⟨#[114, 111, 111, 116]⟩) ∧ V.cell? ⟨w26.heap.size, 3, none⟩ = some (.int .i64 0) ∧ V.cell? ⟨w26.heap.size, 4, none⟩ = some (.int .i64 500) ∧ V.cell? ⟨w26.heap.size, 5, none⟩ = some (.int .i64 p6) ∧ V.cell? ⟨w26.heap.size, 6, none⟩ = some (.slice a4 0 c4) ∧ V.cell? ⟨w26.heap.size, 7, none⟩ = some (.bool true) ∧ V.cell? ⟨w26.heap.size, 8, none⟩ = some (.int .i64 k4) ∧ V.cell? ⟨w26.heap.size, 9, none⟩ = some (.int .i64 e4) ∧ V.cell? ⟨w26.heap.size, 10, none⟩ = some (.int .i64 s4)))) := fun V hV => by
    obtain ⟨q1, q2, q3⟩ := HX.out V (j26.trans (hV.mono j26.size))
    have h4 : V.heap[w26.heap.size]? = some (.cells [Value.int .i64 1, .string ⟨#[114, 111, 111, 116]⟩, .string ⟨#[114, 111, 111, 116]⟩, .int .i64 0, .int .i64 500, .int .i64 p6, .slice a4 0 c4, .bool true, .int .i64 k4, .int .i64 e4, .int .i64 s4].toArray 27 (0, 0)) := (hV.block _ (heap_lt r26)).trans r26
    exact ⟨q1, q2, q3, ⟨rowFacts h4 0 _ rfl, rowFacts h4 1 _ rfl, rowFacts h4 2 _ rfl, rowFacts h4 3 _ rfl, rowFacts h4 4 _ rfl, rowFacts h4 5 _ rfl, rowFacts h4 6 _ rfl, rowFacts h4 7 _ rfl, rowFacts h4 8 _ rfl, rowFacts h4 9 _ rfl, rowFacts h4 10 _ rfl⟩⟩
  have BY : Hid (∀ V : World, Below x26.heap.size x26 V → Below w.heap.size w V ∧ IsStrs V a2 [bWww] ∧ IsInts V a3 zs) := fun V hV => ⟨BX.out.trans ((j26.trans (hV.mono j26.size)).mono BX.out.size), O2'.out.keep (j26.trans (hV.mono j26.size)), O3.out.keep (j26.trans (hV.mono j26.size))⟩
  have J0 : Hid (Below x26.heap.size x26 x26) := Below.refl _ _
  clear b26 j26 r26 C4 HP6 HX BX O3 O2'
  go_upto_region 27 with fail
  rw [← hx26]
  clear hx26
  obtain ⟨⟨p0', p1', p2', p3', p4', p5', p6', p7', p8', p9', p10'⟩, ⟨q0', q1', q2', q3', q4', q5', q6', q7', q8', q9', q10'⟩, ⟨l0', l1', l2', l3', l4', l5', l6'⟩, o0', o1', o2', o3', o4', o5', o6', o7', o8', o9', o10'⟩ := HY.out _ J0.out
  go_wp2_with fail
  refine (D1.out _ _ _ _ _ _ _ (BY.out _ J0.out).1 (BY.out _ J0.out).2.1 (BY.out _ J0.out).2.2).mono ?_
  rintro e y1 ⟨rfl, bb⟩
  have J1 : Hid (Below x26.heap.size x26 y1) := J0.out.trans (bb.mono J0.out.size)
  clear bb p0' p1' p2' p3' p4' p5' p6' p7' p8' p9' p10' q0' q1' q2' q3' q4' q5' q6' q7' q8' q9' q10' l0' l1' l2' l3' l4' l5' l6' o0' o1' o2' o3' o4' o5' o6' o7' o8' o9' o10'
  obtain ⟨⟨p0', p1', p2', p3', p4', p5', p6', p7', p8', p9', p10'⟩, ⟨q0', q1', q2', q3', q4', q5', q6', q7', q8', q9', q10'⟩, ⟨l0', l1', l2', l3', l4', l5', l6'⟩, o0', o1', o2', o3', o4', o5', o6', o7', o8', o9', o10'⟩ := HY.out _ J1.out
  go_wp2_with fail
  refine (D2.out _ _ _ _ _ _ _ (BY.out _ J1.out).1 (BY.out _ J1.out).2.1 (BY.out _ J1.out).2.2).mono ?_
  rintro e y2 ⟨rfl, bb⟩
  have J2 : Hid (Below x26.heap.size x26 y2) := J1.out.trans (bb.mono J1.out.size)
  clear bb p0' p1' p2' p3' p4' p5' p6' p7' p8' p9' p10' q0' q1' q2' q3' q4' q5' q6' q7' q8' q9' q10' l0' l1' l2' l3' l4' l5' l6' o0' o1' o2' o3' o4' o5' o6' o7' o8' o9' o10'
  obtain ⟨⟨p0', p1', p2', p3', p4', p5', p6', p7', p8', p9', p10'⟩, ⟨q0', q1', q2', q3', q4', q5', q6', q7', q8', q9', q10'⟩, ⟨l0', l1', l2', l3', l4', l5', l6'⟩, o0', o1', o2', o3', o4', o5', o6', o7', o8', o9', o10'⟩ := HY.out _ J2.out
  go_wp2_with fail
  refine (D3.out _ _ _ _ _ _ _ (BY.out _ J2.out).1 (BY.out _ J2.out).2.1 (BY.out _ J2.out).2.2).mono ?_
  rintro e y3 ⟨rfl, bb⟩
  have J3 : Hid (Below x26.heap.size x26 y3) := J2.out.trans (bb.mono J2.out.size)
  clear bb p0' p1' p2' p3' p4' p5' p6' p7' p8' p9' p10' q0' q1' q2' q3' q4' q5' q6' q7' q8' q9' q10' l0' l1' l2' l3' l4' l5' l6' o0' o1' o2' o3' o4' o5' o6' o7' o8' o9' o10'
  obtain ⟨⟨p0', p1', p2', p3', p4', p5', p6', p7', p8', p9', p10'⟩, ⟨q0', q1', q2', q3', q4', q5', q6', q7', q8', q9', q10'⟩, ⟨l0', l1', l2', l3', l4', l5', l6'⟩, o0', o1', o2', o3', o4', o5', o6', o7', o8', o9', o10'⟩ := HY.out _ J3.out
  go_wp2_with fail
  refine (D4.out _ _ _ _ _ _ _ (BY.out _ J3.out).1 (BY.out _ J3.out).2.1 (BY.out _ J3.out).2.2).mono ?_
  rintro e y4 ⟨rfl, bb⟩
  have B4 : Hid (Below w.heap.size w y4) := (BY.out _ (J3.out.trans (bb.mono J3.out.size))).1
  clear bb p0' p1' p2' p3' p4' p5' p6' p7' p8' p9' p10' q0' q1' q2' q3' q4' q5' q6' q7' q8' q9' q10' l0' l1' l2' l3' l4' l5' l6' o0' o1' o2' o3' o4' o5' o6' o7' o8' o9' o10'
  go_wp2_with fail
  go_ret
  exact ⟨rfl, B4.out⟩
end Go.Proofs.YtegmmaomaegjjaaGreatDoor
