/- spec.DrawPathName, walked. -/
import Derived.Test.YtegmmaomaegjjaaGreatDoorPT16
namespace Go.Proofs.YtegmmaomaegjjaaGreatDoor
open Go.RowKit

/-- What DrawPathCheck tells, its parts by name. -/
theorem drawPathF (a : Option Addr) (len cap : Nat) (w : World) (hlen : len ≤ 1048576) (hc : CodeAt a len w) (hblk : ∀ x, 0 < len → a = some x → x.block < w.heap.size) :
    Calls Tryz.prog 4 #[.slice a len cap] w fun e w' => ∃ (aser afr atill akey ask ase ass : Int) (aiss asub : ByteArray) (anames : List ByteArray) (aca : Bool) (bser bfr btill bkey bsk bse bss : Int) (biss bsub : ByteArray) (bnames : List ByteArray) (bca : Bool) (diss : ByteArray) (dfr dtill dsk dse dss : Int) (dser : List Int) (tv : Int) (ra ca0 la0 : Option Addr) (RN CN LN rc cc0 lc0 : Nat),
      e = .returned (.tuple #[.agg [Value.int .i64 aser, .string aiss, .string asub, .int .i64 afr, .int .i64 atill, .int .i64 akey, .slice ra RN rc, .bool aca, .int .i64 ask, .int .i64 ase, .int .i64 ass].toArray, .agg [Value.int .i64 bser, .string biss, .string bsub, .int .i64 bfr, .int .i64 btill, .int .i64 bkey, .slice ca0 CN cc0, .bool bca, .int .i64 bsk, .int .i64 bse, .int .i64 bss].toArray, .agg [Value.string diss, .int .i64 dfr, .int .i64 dtill, .slice la0 LN lc0, .int .i64 dsk, .int .i64 dse, .int .i64 dss].toArray, .int .i64 tv]) ∧ Hid (RN = anames.length ∧ CN = bnames.length ∧ LN = dser.length) ∧ inW tv ∧ PMay ⟨aser, aiss, asub, afr, atill, akey, anames, aca, ask, ase, ass⟩ ∧ PMay ⟨bser, biss, bsub, bfr, btill, bkey, bnames, bca, bsk, bse, bss⟩ ∧ LMay ⟨diss, dfr, dtill, dser, dsk, dse, dss⟩ ∧ OwnS w' w.heap.size (.slice ra RN rc) anames ∧ OwnS w' w.heap.size (.slice ca0 CN cc0) bnames ∧ OwnL w' w.heap.size (.slice la0 LN lc0) dser ∧ Below w.heap.size w w' := by
  refine (drawPathCheck a len cap w hlen hc hblk).mono ?_
  rintro e w' ⟨⟨r, c, l, t, vr, vc, vl, rfl, ht, hm1, hm2, hm3, h1, h2, h3⟩, hb⟩
  obtain ⟨aser, aiss, asub, afr, atill, akey, anames, aca, ask, ase, ass⟩ := r
  obtain ⟨bser, biss, bsub, bfr, btill, bkey, bnames, bca, bsk, bse, bss⟩ := c
  obtain ⟨diss, dfr, dtill, dser, dsk, dse, dss⟩ := l
  obtain ⟨ra, rc, rfl, _⟩ := h1.form
  obtain ⟨ca0, cc0, rfl, _⟩ := h2.form
  obtain ⟨la0, lc0, rfl, _⟩ := h3.form
  exact ⟨aser, afr, atill, akey, ask, ase, ass, aiss, asub, anames, aca, bser, bfr, btill, bkey, bsk, bse, bss, biss, bsub, bnames, bca, diss, dfr, dtill, dsk, dse, dss, dser, t, ra, ca0, la0, anames.length, bnames.length, dser.length, rc, cc0, lc0, rfl, ⟨rfl, rfl, rfl⟩, ht, hm1, hm2, hm3, h1, h2, h3, hb⟩
/-- Two papers, a list, a time and a name are told. -/
def AnyPathN (w : World) (e : Ending) (w' : World) : Prop := ∃ (r c : Paper) (l : Lst) (t : Int) (name : ByteArray) (vr vc vl : Value), e = .returned (.tuple #[r.val vr, c.val vc, l.val vl, .int .i64 t, .string name]) ∧ inW t ∧ name.size ≤ 10 ∧ PMay r ∧ PMay c ∧ LMay l ∧ OwnS w' w.heap.size vr r.names ∧ OwnS w' w.heap.size vc c.names ∧ OwnL w' w.heap.size vl l.serials
set_option linter.unusedVariables false in
set_option linter.unusedSimpArgs false in
set_option maxRecDepth 100000 in
set_option maxHeartbeats 8000000 in
theorem drawPathName (a : Option Addr) (len cap : Nat) (w : World) (hlen : len ≤ 1048576) (hc : CodeAt a len w) (hblk : ∀ x, 0 < len → a = some x → x.block < w.heap.size) :
    Calls Tryz.prog 7 #[.slice a len cap] w fun e w' => AnyPathN w e w' ∧ Below w.heap.size w w' := by
  obtain ⟨w1, hw1⟩ : ∃ y, y = ((w.alloc (.cells [Value.int .i64 0, .string ⟨#[]⟩, .string ⟨#[]⟩, .int .i64 0, .int .i64 0, .int .i64 0, .slice none 0 0, .bool false, .int .i64 0, .int .i64 0, .int .i64 0].toArray 27 (0, 0))).alloc (.cells [Value.int .i64 0, .string ⟨#[]⟩, .string ⟨#[]⟩, .int .i64 0, .int .i64 0, .int .i64 0, .slice none 0 0, .bool false, .int .i64 0, .int .i64 0, .int .i64 0].toArray 27 (0, 0))).alloc (.cells [Value.string ⟨#[]⟩, .int .i64 0, .int .i64 0, .slice none 0 0, .int .i64 0, .int .i64 0, .int .i64 0].toArray 30 (0, 0)) := ⟨_, rfl⟩
  have b1 : Below w.heap.size w w1 := by rw [hw1]; exact (((Below.refl _ _).alloc (Nat.le_refl _) _).alloc (by simp) _).alloc (by simp; omega) _
  have HZ : Hid (w1.heap.size = w.heap.size + 3) := by rw [hw1]; show _ = _; simp
  have Z1 : Hid (w1.heap[w.heap.size]? = some (.cells [Value.int .i64 0, .string ⟨#[]⟩, .string ⟨#[]⟩, .int .i64 0, .int .i64 0, .int .i64 0, .slice none 0 0, .bool false, .int .i64 0, .int .i64 0, .int .i64 0].toArray 27 (0, 0))) := by rw [hw1]; show _ = _; rw [Below.heap_alloc _ _ _ (by simp; omega), Below.heap_alloc _ _ _ (by simp)]; exact heap_alloc_new w _
  have Z2 : Hid (w1.heap[w.heap.size + 1]? = some (.cells [Value.int .i64 0, .string ⟨#[]⟩, .string ⟨#[]⟩, .int .i64 0, .int .i64 0, .int .i64 0, .slice none 0 0, .bool false, .int .i64 0, .int .i64 0, .int .i64 0].toArray 27 (0, 0))) := by rw [hw1]; show _ = _; rw [Below.heap_alloc _ _ _ (by simp)]; exact heap_alloc2 w _ _
  have Z3 : Hid (w1.heap[w.heap.size + 2]? = some (.cells [Value.string ⟨#[]⟩, .int .i64 0, .int .i64 0, .slice none 0 0, .int .i64 0, .int .i64 0, .int .i64 0].toArray 30 (0, 0))) := by rw [hw1]; show _ = _; have := heap_alloc_new ((w.alloc (.cells [Value.int .i64 0, .string ⟨#[]⟩, .string ⟨#[]⟩, .int .i64 0, .int .i64 0, .int .i64 0, .slice none 0 0, .bool false, .int .i64 0, .int .i64 0, .int .i64 0].toArray 27 (0, 0))).alloc (.cells [Value.int .i64 0, .string ⟨#[]⟩, .string ⟨#[]⟩, .int .i64 0, .int .i64 0, .int .i64 0, .slice none 0 0, .bool false, .int .i64 0, .int .i64 0, .int .i64 0].toArray 27 (0, 0))) (.cells [Value.string ⟨#[]⟩, .int .i64 0, .int .i64 0, .slice none 0 0, .int .i64 0, .int .i64 0, .int .i64 0].toArray 30 (0, 0)); simpa using this
  have HC : Hid (CodeAt a len w1) := hc.below b1 hblk
  have HB : Hid (∀ x, 0 < len → a = some x → x.block < w1.heap.size) := fun x h0 hx => by have := hblk x h0 hx; have := HZ.out; omega
  have B1 : Hid (Below w.heap.size w w1) := b1
  clear b1 hc hblk
  go_enter Tryz.func7, Tryz.ntmps7
  go_upto_region 1 with fail
  rw [← hw1]
  clear hw1
  go_wp2_with fail
  refine (drawPathF a len cap w1 hlen HC.out HB.out).mono ?_
  rintro e w2 ⟨aser, afr, atill, akey, ask, ase, ass, aiss, asub, anames, aca, bser, bfr, btill, bkey, bsk, bse, bss, biss, bsub, bnames, bca, diss, dfr, dtill, dsk, dse, dss, dser, tv, ra, ca0, la0, RN, CN, LN, rc, cc0, lc0, rfl, hlens, htv, hm1, hm2, hm3, o1, o2, o3, b2⟩
  obtain ⟨w3, hw3⟩ : ∃ y, y = ((w2.alloc (.cells [Value.int .i64 0, .string ⟨#[]⟩, .string ⟨#[]⟩, .int .i64 0, .int .i64 0, .int .i64 0, .slice none 0 0, .bool false, .int .i64 0, .int .i64 0, .int .i64 0].toArray 27 (0, 0))).alloc (.cells [Value.int .i64 0, .string ⟨#[]⟩, .string ⟨#[]⟩, .int .i64 0, .int .i64 0, .int .i64 0, .slice none 0 0, .bool false, .int .i64 0, .int .i64 0, .int .i64 0].toArray 27 (0, 0))).alloc (.cells [Value.string ⟨#[]⟩, .int .i64 0, .int .i64 0, .slice none 0 0, .int .i64 0, .int .i64 0, .int .i64 0].toArray 30 (0, 0)) := ⟨_, rfl⟩
  have b3 : Below w2.heap.size w2 w3 := by rw [hw3]; exact (((Below.refl _ _).alloc (Nat.le_refl _) _).alloc (by simp) _).alloc (by simp; omega) _
  have HZ3 : Hid (w3.heap.size = w2.heap.size + 3) := by rw [hw3]; show _ = _; simp
  have zy1 : w3.heap[w2.heap.size]? = some (.cells [Value.int .i64 0, .string ⟨#[]⟩, .string ⟨#[]⟩, .int .i64 0, .int .i64 0, .int .i64 0, .slice none 0 0, .bool false, .int .i64 0, .int .i64 0, .int .i64 0].toArray 27 (0, 0)) := by rw [hw3]; rw [Below.heap_alloc _ _ _ (by simp; omega), Below.heap_alloc _ _ _ (by simp)]; exact heap_alloc_new w2 _
  have zy2 : w3.heap[w2.heap.size + 1]? = some (.cells [Value.int .i64 0, .string ⟨#[]⟩, .string ⟨#[]⟩, .int .i64 0, .int .i64 0, .int .i64 0, .slice none 0 0, .bool false, .int .i64 0, .int .i64 0, .int .i64 0].toArray 27 (0, 0)) := by rw [hw3]; rw [Below.heap_alloc _ _ _ (by simp)]; exact heap_alloc2 w2 _ _
  have zy3 : w3.heap[w2.heap.size + 2]? = some (.cells [Value.string ⟨#[]⟩, .int .i64 0, .int .i64 0, .slice none 0 0, .int .i64 0, .int .i64 0, .int .i64 0].toArray 30 (0, 0)) := by rw [hw3]; have := heap_alloc_new ((w2.alloc (.cells [Value.int .i64 0, .string ⟨#[]⟩, .string ⟨#[]⟩, .int .i64 0, .int .i64 0, .int .i64 0, .slice none 0 0, .bool false, .int .i64 0, .int .i64 0, .int .i64 0].toArray 27 (0, 0))).alloc (.cells [Value.int .i64 0, .string ⟨#[]⟩, .string ⟨#[]⟩, .int .i64 0, .int .i64 0, .int .i64 0, .slice none 0 0, .bool false, .int .i64 0, .int .i64 0, .int .i64 0].toArray 27 (0, 0))) (.cells [Value.string ⟨#[]⟩, .int .i64 0, .int .i64 0, .slice none 0 0, .int .i64 0, .int .i64 0, .int .i64 0].toArray 30 (0, 0)); simpa using this
  have ho1 : ∀ u ∈ [Value.int .i64 aser, .string aiss, .string asub, .int .i64 afr, .int .i64 atill, .int .i64 akey, .slice ra RN rc, .bool aca, .int .i64 ask, .int .i64 ase, .int .i64 ass], u.oneCell' = true := by simp [Value.oneCell']
  have ho2 : ∀ u ∈ [Value.int .i64 bser, .string biss, .string bsub, .int .i64 bfr, .int .i64 btill, .int .i64 bkey, .slice ca0 CN cc0, .bool bca, .int .i64 bsk, .int .i64 bse, .int .i64 bss], u.oneCell' = true := by simp [Value.oneCell']
  have ho3 : ∀ u ∈ [Value.string diss, .int .i64 dfr, .int .i64 dtill, .slice la0 LN lc0, .int .i64 dsk, .int .i64 dse, .int .i64 dss], u.oneCell' = true := by simp [Value.oneCell']
  go_wp2_with (rw [← hw3]; refine wpList_store_row rfl 27 _ _ rfl w2.heap.size [Value.int .i64 0, .string ⟨#[]⟩, .string ⟨#[]⟩, .int .i64 0, .int .i64 0, .int .i64 0, .slice none 0 0, .bool false, .int .i64 0, .int .i64 0, .int .i64 0] [Value.int .i64 aser, .string aiss, .string asub, .int .i64 afr, .int .i64 atill, .int .i64 akey, .slice ra RN rc, .bool aca, .int .i64 ask, .int .i64 ase, .int .i64 ass] 27 rfl rfl zy1 rfl sizeCert ho1 ?_)
  intro x3 s1 hx1 hs1 hbb1
  rw [← hw3] at hx1 hbb1
  have g1 := grown_row hx1 hbb1
  have zz := HZ.out
  have zz3 := HZ3.out
  have U3 : Hid (OwnS x3 w1.heap.size (.slice ra RN rc) anames ∧ OwnS x3 w1.heap.size (.slice ca0 CN cc0) bnames ∧ OwnL x3 w1.heap.size (.slice la0 LN lc0) dser ∧ Below w1.heap.size w1 x3) :=
    ⟨(o1.keep b3).rowOff g1 (fun e => by have := (o1.ge e).2; omega), (o2.keep b3).rowOff g1 (fun e => by have := (o2.ge e).2; omega), (o3.keep b3).rowOff g1 (fun e => by have := (o3.ge e).2; omega), hbb1 _ _ b2.size (b2.trans (b3.mono b2.size))⟩
  have HGE : Hid ((∀ g, (Value.slice ra RN rc).ownBlock = some g → g < w2.heap.size) ∧ (∀ g, (Value.slice ca0 CN cc0).ownBlock = some g → g < w2.heap.size) ∧ (∀ g, (Value.slice la0 LN lc0).ownBlock = some g → g < w2.heap.size)) := ⟨fun g e => (o1.ge e).2, fun g e => (o2.ge e).2, fun g e => (o3.ge e).2⟩
  have hb2s := b2.size
  have jz2 : x3.heap[w2.heap.size + 1]? = some (.cells [Value.int .i64 0, .string ⟨#[]⟩, .string ⟨#[]⟩, .int .i64 0, .int .i64 0, .int .i64 0, .slice none 0 0, .bool false, .int .i64 0, .int .i64 0, .int .i64 0].toArray 27 (0, 0)) := by rw [hx1 _ (by omega)]; exact zy2
  have jz3 : x3.heap[w2.heap.size + 2]? = some (.cells [Value.string ⟨#[]⟩, .int .i64 0, .int .i64 0, .slice none 0 0, .int .i64 0, .int .i64 0, .int .i64 0].toArray 30 (0, 0)) := by rw [hx1 _ (by omega)]; exact zy3
  have R3 : Hid (x3.heap[w2.heap.size]? = some (.cells [Value.int .i64 aser, .string aiss, .string asub, .int .i64 afr, .int .i64 atill, .int .i64 akey, .slice ra RN rc, .bool aca, .int .i64 ask, .int .i64 ase, .int .i64 ass].toArray 27 (0, 0))) := s1
  have JZ3 : Hid _ := jz3
  have HO2 : Hid _ := ho2
  have HO3 : Hid _ := ho3
  have HMM : Hid (PMay ⟨aser, aiss, asub, afr, atill, akey, anames, aca, ask, ase, ass⟩ ∧ PMay ⟨bser, biss, bsub, bfr, btill, bkey, bnames, bca, bsk, bse, bss⟩ ∧ LMay ⟨diss, dfr, dtill, dser, dsk, dse, dss⟩) := ⟨hm1, hm2, hm3⟩
  clear s1 hx1 hs1 hbb1 g1 zy1 zy2 zy3 jz3 hw3 b3 b2 o1 o2 o3 ho1 ho3 hm1 hm2 hm3
  go_wp2_with (refine wpList_store_row rfl 27 _ _ rfl (w2.heap.size + 1) [Value.int .i64 0, .string ⟨#[]⟩, .string ⟨#[]⟩, .int .i64 0, .int .i64 0, .int .i64 0, .slice none 0 0, .bool false, .int .i64 0, .int .i64 0, .int .i64 0] [Value.int .i64 bser, .string biss, .string bsub, .int .i64 bfr, .int .i64 btill, .int .i64 bkey, .slice ca0 CN cc0, .bool bca, .int .i64 bsk, .int .i64 bse, .int .i64 bss] 27 rfl rfl jz2 rfl sizeCert ho2 ?_)
  intro x4 s1 hx1 hs1 hbb1
  have g1 := grown_row hx1 hbb1
  have U4 : Hid (OwnS x4 w1.heap.size (.slice ra RN rc) anames ∧ OwnS x4 w1.heap.size (.slice ca0 CN cc0) bnames ∧ OwnL x4 w1.heap.size (.slice la0 LN lc0) dser ∧ Below w1.heap.size w1 x4) :=
    ⟨U3.out.1.rowOff g1 (fun e => by have := HGE.out.1 _ e; omega), U3.out.2.1.rowOff g1 (fun e => by have := HGE.out.2.1 _ e; omega), U3.out.2.2.1.rowOff g1 (fun e => by have := HGE.out.2.2 _ e; omega), hbb1 _ _ (by omega) U3.out.2.2.2⟩
  have jz3 : x4.heap[w2.heap.size + 2]? = some (.cells [Value.string ⟨#[]⟩, .int .i64 0, .int .i64 0, .slice none 0 0, .int .i64 0, .int .i64 0, .int .i64 0].toArray 30 (0, 0)) := by rw [hx1 _ (by omega)]; exact JZ3.out
  have R4 : Hid (x4.heap[w2.heap.size]? = some (.cells [Value.int .i64 aser, .string aiss, .string asub, .int .i64 afr, .int .i64 atill, .int .i64 akey, .slice ra RN rc, .bool aca, .int .i64 ask, .int .i64 ase, .int .i64 ass].toArray 27 (0, 0)) ∧ x4.heap[w2.heap.size + 1]? = some (.cells [Value.int .i64 bser, .string biss, .string bsub, .int .i64 bfr, .int .i64 btill, .int .i64 bkey, .slice ca0 CN cc0, .bool bca, .int .i64 bsk, .int .i64 bse, .int .i64 bss].toArray 27 (0, 0))) := ⟨by rw [hx1 _ (by omega)]; exact R3.out, s1⟩
  have ho3 := HO3.out
  clear s1 hx1 hs1 hbb1 g1 U3 R3 JZ3 jz2 ho2
  go_wp2_with (refine wpList_store_row rfl 30 _ _ rfl (w2.heap.size + 2) [Value.string ⟨#[]⟩, .int .i64 0, .int .i64 0, .slice none 0 0, .int .i64 0, .int .i64 0, .int .i64 0] [Value.string diss, .int .i64 dfr, .int .i64 dtill, .slice la0 LN lc0, .int .i64 dsk, .int .i64 dse, .int .i64 dss] 30 rfl rfl jz3 rfl sizeCrl ho3 ?_)
  intro x5 s1 hx1 hs1 hbb1
  have g1 := grown_row hx1 hbb1
  have U5 : Hid (OwnS x5 w1.heap.size (.slice ra RN rc) anames ∧ OwnS x5 w1.heap.size (.slice ca0 CN cc0) bnames ∧ OwnL x5 w1.heap.size (.slice la0 LN lc0) dser ∧ Below w1.heap.size w1 x5) :=
    ⟨U4.out.1.rowOff g1 (fun e => by have := HGE.out.1 _ e; omega), U4.out.2.1.rowOff g1 (fun e => by have := HGE.out.2.1 _ e; omega), U4.out.2.2.1.rowOff g1 (fun e => by have := HGE.out.2.2 _ e; omega), hbb1 _ _ (by omega) U4.out.2.2.2⟩
  have R5 : Hid (x5.heap[w2.heap.size]? = some (.cells [Value.int .i64 aser, .string aiss, .string asub, .int .i64 afr, .int .i64 atill, .int .i64 akey, .slice ra RN rc, .bool aca, .int .i64 ask, .int .i64 ase, .int .i64 ass].toArray 27 (0, 0)) ∧ x5.heap[w2.heap.size + 1]? = some (.cells [Value.int .i64 bser, .string biss, .string bsub, .int .i64 bfr, .int .i64 btill, .int .i64 bkey, .slice ca0 CN cc0, .bool bca, .int .i64 bsk, .int .i64 bse, .int .i64 bss].toArray 27 (0, 0)) ∧ x5.heap[w2.heap.size + 2]? = some (.cells [Value.string diss, .int .i64 dfr, .int .i64 dtill, .slice la0 LN lc0, .int .i64 dsk, .int .i64 dse, .int .i64 dss].toArray 30 (0, 0))) := ⟨by rw [hx1 _ (by omega)]; exact R4.out.1, by rw [hx1 _ (by omega)]; exact R4.out.2, s1⟩
  have HC5 : Hid (CodeAt a len x5) := HC.out.below U5.out.2.2.2 HB.out
  have HB5 : Hid (∀ x, 0 < len → a = some x → x.block < x5.heap.size) := fun x h0 hx => Nat.lt_of_lt_of_le (HB.out x h0 hx) U5.out.2.2.2.size
  have Z5 : Hid (x5.heap[w.heap.size]? = some (.cells [Value.int .i64 0, .string ⟨#[]⟩, .string ⟨#[]⟩, .int .i64 0, .int .i64 0, .int .i64 0, .slice none 0 0, .bool false, .int .i64 0, .int .i64 0, .int .i64 0].toArray 27 (0, 0)) ∧ x5.heap[w.heap.size + 1]? = some (.cells [Value.int .i64 0, .string ⟨#[]⟩, .string ⟨#[]⟩, .int .i64 0, .int .i64 0, .int .i64 0, .slice none 0 0, .bool false, .int .i64 0, .int .i64 0, .int .i64 0].toArray 27 (0, 0)) ∧ x5.heap[w.heap.size + 2]? = some (.cells [Value.string ⟨#[]⟩, .int .i64 0, .int .i64 0, .slice none 0 0, .int .i64 0, .int .i64 0, .int .i64 0].toArray 30 (0, 0))) :=
    ⟨by rw [U5.out.2.2.2.block _ (by omega)]; exact Z1.out, by rw [U5.out.2.2.2.block _ (by omega)]; exact Z2.out, by rw [U5.out.2.2.2.block _ (by omega)]; exact Z3.out⟩
  clear s1 hx1 hs1 hbb1 g1 U4 R4 jz3 ho3 HC HB Z1 Z2 Z3
  go_wp2_with fail
  refine (ss_source a len cap x5 hlen HC5.out HB5.out).mono ?_
  rintro e x6 ⟨rfl, h6⟩
  have S6 : Hid (SS x5 a len cap x6) := h6
  have hz5 : w2.heap.size + 2 < x5.heap.size := heap_lt R5.out.2.2
  clear h6
  have HX : Hid (∀ V : World, Below x5.heap.size x5 V → ((V.cell? ⟨w2.heap.size, 0, none⟩ = some (.int .i64 aser) ∧ V.cell? ⟨w2.heap.size, 1, none⟩ = some (.string aiss) ∧ V.cell? ⟨w2.heap.size, 2, none⟩ = some (.string asub) ∧ V.cell? ⟨w2.heap.size, 3, none⟩ = some (.int .i64 afr) ∧ V.cell? ⟨w2.heap.size, 4, none⟩ = some (.int .i64 atill) ∧ V.cell? ⟨w2.heap.size, 5, none⟩ = some (.int .i64 akey) ∧ V.cell? ⟨w2.heap.size, 6, none⟩ = some (.slice ra RN rc) ∧ V.cell? ⟨w2.heap.size, 7, none⟩ = some (.bool aca) ∧ V.cell? ⟨w2.heap.size, 8, none⟩ = some (.int .i64 ask) ∧ V.cell? ⟨w2.heap.size, 9, none⟩ = some (.int .i64 ase) ∧ V.cell? ⟨w2.heap.size, 10, none⟩ = some (.int .i64 ass)) ∧ (V.cell? ⟨w2.heap.size + 1, 0, none⟩ = some (.int .i64 bser) ∧ V.cell? ⟨w2.heap.size + 1, 1, none⟩ = some (.string biss) ∧ V.cell? ⟨w2.heap.size + 1, 2, none⟩ = some (.string bsub) ∧ V.cell? ⟨w2.heap.size + 1, 3, none⟩ = some (.int .i64 bfr) ∧ V.cell? ⟨w2.heap.size + 1, 4, none⟩ = some (.int .i64 btill) ∧ V.cell? ⟨w2.heap.size + 1, 5, none⟩ = some (.int .i64 bkey) ∧ V.cell? ⟨w2.heap.size + 1, 6, none⟩ = some (.slice ca0 CN cc0) ∧ V.cell? ⟨w2.heap.size + 1, 7, none⟩ = some (.bool bca) ∧ V.cell? ⟨w2.heap.size + 1, 8, none⟩ = some (.int .i64 bsk) ∧ V.cell? ⟨w2.heap.size + 1, 9, none⟩ = some (.int .i64 bse) ∧ V.cell? ⟨w2.heap.size + 1, 10, none⟩ = some (.int .i64 bss)) ∧ (V.cell? ⟨w2.heap.size + 2, 0, none⟩ = some (.string diss) ∧ V.cell? ⟨w2.heap.size + 2, 1, none⟩ = some (.int .i64 dfr) ∧ V.cell? ⟨w2.heap.size + 2, 2, none⟩ = some (.int .i64 dtill) ∧ V.cell? ⟨w2.heap.size + 2, 3, none⟩ = some (.slice la0 LN lc0) ∧ V.cell? ⟨w2.heap.size + 2, 4, none⟩ = some (.int .i64 dsk) ∧ V.cell? ⟨w2.heap.size + 2, 5, none⟩ = some (.int .i64 dse) ∧ V.cell? ⟨w2.heap.size + 2, 6, none⟩ = some (.int .i64 dss)))) := fun V hV => by
    have h1 : V.heap[w2.heap.size]? = some (.cells [Value.int .i64 aser, .string aiss, .string asub, .int .i64 afr, .int .i64 atill, .int .i64 akey, .slice ra RN rc, .bool aca, .int .i64 ask, .int .i64 ase, .int .i64 ass].toArray 27 (0, 0)) := by rw [hV.block _ (by omega)]; exact R5.out.1
    have h2 : V.heap[w2.heap.size + 1]? = some (.cells [Value.int .i64 bser, .string biss, .string bsub, .int .i64 bfr, .int .i64 btill, .int .i64 bkey, .slice ca0 CN cc0, .bool bca, .int .i64 bsk, .int .i64 bse, .int .i64 bss].toArray 27 (0, 0)) := by rw [hV.block _ (by omega)]; exact R5.out.2.1
    have h3 : V.heap[w2.heap.size + 2]? = some (.cells [Value.string diss, .int .i64 dfr, .int .i64 dtill, .slice la0 LN lc0, .int .i64 dsk, .int .i64 dse, .int .i64 dss].toArray 30 (0, 0)) := by rw [hV.block _ (by omega)]; exact R5.out.2.2
    exact ⟨⟨rowFacts h1 0 _ rfl, rowFacts h1 1 _ rfl, rowFacts h1 2 _ rfl, rowFacts h1 3 _ rfl, rowFacts h1 4 _ rfl, rowFacts h1 5 _ rfl, rowFacts h1 6 _ rfl, rowFacts h1 7 _ rfl, rowFacts h1 8 _ rfl, rowFacts h1 9 _ rfl, rowFacts h1 10 _ rfl⟩, ⟨rowFacts h2 0 _ rfl, rowFacts h2 1 _ rfl, rowFacts h2 2 _ rfl, rowFacts h2 3 _ rfl, rowFacts h2 4 _ rfl, rowFacts h2 5 _ rfl, rowFacts h2 6 _ rfl, rowFacts h2 7 _ rfl, rowFacts h2 8 _ rfl, rowFacts h2 9 _ rfl, rowFacts h2 10 _ rfl⟩, ⟨rowFacts h3 0 _ rfl, rowFacts h3 1 _ rfl, rowFacts h3 2 _ rfl, rowFacts h3 3 _ rfl, rowFacts h3 4 _ rfl, rowFacts h3 5 _ rfl, rowFacts h3 6 _ rfl⟩⟩
  go_upto_region 3 with fail
  refine wp_region_held_drew (S := fun V => ((V.cell? ⟨w2.heap.size, 0, none⟩ = some (.int .i64 aser) ∧ V.cell? ⟨w2.heap.size, 1, none⟩ = some (.string aiss) ∧ V.cell? ⟨w2.heap.size, 2, none⟩ = some (.string asub) ∧ V.cell? ⟨w2.heap.size, 3, none⟩ = some (.int .i64 afr) ∧ V.cell? ⟨w2.heap.size, 4, none⟩ = some (.int .i64 atill) ∧ V.cell? ⟨w2.heap.size, 5, none⟩ = some (.int .i64 akey) ∧ V.cell? ⟨w2.heap.size, 6, none⟩ = some (.slice ra RN rc) ∧ V.cell? ⟨w2.heap.size, 7, none⟩ = some (.bool aca) ∧ V.cell? ⟨w2.heap.size, 8, none⟩ = some (.int .i64 ask) ∧ V.cell? ⟨w2.heap.size, 9, none⟩ = some (.int .i64 ase) ∧ V.cell? ⟨w2.heap.size, 10, none⟩ = some (.int .i64 ass)) ∧ (V.cell? ⟨w2.heap.size + 1, 0, none⟩ = some (.int .i64 bser) ∧ V.cell? ⟨w2.heap.size + 1, 1, none⟩ = some (.string biss) ∧ V.cell? ⟨w2.heap.size + 1, 2, none⟩ = some (.string bsub) ∧ V.cell? ⟨w2.heap.size + 1, 3, none⟩ = some (.int .i64 bfr) ∧ V.cell? ⟨w2.heap.size + 1, 4, none⟩ = some (.int .i64 btill) ∧ V.cell? ⟨w2.heap.size + 1, 5, none⟩ = some (.int .i64 bkey) ∧ V.cell? ⟨w2.heap.size + 1, 6, none⟩ = some (.slice ca0 CN cc0) ∧ V.cell? ⟨w2.heap.size + 1, 7, none⟩ = some (.bool bca) ∧ V.cell? ⟨w2.heap.size + 1, 8, none⟩ = some (.int .i64 bsk) ∧ V.cell? ⟨w2.heap.size + 1, 9, none⟩ = some (.int .i64 bse) ∧ V.cell? ⟨w2.heap.size + 1, 10, none⟩ = some (.int .i64 bss)) ∧ (V.cell? ⟨w2.heap.size + 2, 0, none⟩ = some (.string diss) ∧ V.cell? ⟨w2.heap.size + 2, 1, none⟩ = some (.int .i64 dfr) ∧ V.cell? ⟨w2.heap.size + 2, 2, none⟩ = some (.int .i64 dtill) ∧ V.cell? ⟨w2.heap.size + 2, 3, none⟩ = some (.slice la0 LN lc0) ∧ V.cell? ⟨w2.heap.size + 2, 4, none⟩ = some (.int .i64 dsk) ∧ V.cell? ⟨w2.heap.size + 2, 5, none⟩ = some (.int .i64 dse) ∧ V.cell? ⟨w2.heap.size + 2, 6, none⟩ = some (.int .i64 dss)))) (by kernel_rfl) ?_ (fun hHeld => ?_)
  · exact HX.out _ S6.out.2.1.drew
  refine wpAnyH_take (i := 0) (oi := ⟨some 21, _, _, _, _, _⟩) (v := ?_) rfl (by kernel_rfl) (by kernel_rfl) (by kernel_rfl) (fun _ _ _ h => h) (Or.inl ⟨by kernel_rfl, ?_⟩) (by assumption) ?_
  rotate_left
  · (intro w hSw; (try dsimp only at hSw); go_simp; try with_reducible rfl)
  (try simp only [Act.put, List.setIfInBounds_toArray, List.set_cons_zero, List.set_cons_succ])
  refine wpAnyH_take (i := 1) (oi := ⟨some 22, _, _, _, _, _⟩) (v := ?_) rfl (by kernel_rfl) (by kernel_rfl) (by kernel_rfl) (fun _ _ _ h => h) (Or.inl ⟨by kernel_rfl, ?_⟩) (by assumption) ?_
  rotate_left
  · (intro w hSw; (try dsimp only at hSw); go_simp; try with_reducible rfl)
  (try simp only [Act.put, List.setIfInBounds_toArray, List.set_cons_zero, List.set_cons_succ])
  refine wpAnyH_take (i := 2) (oi := ⟨some 23, _, _, _, _, _⟩) (v := ?_) rfl (by kernel_rfl) (by kernel_rfl) (by kernel_rfl) (fun _ _ _ h => h) (Or.inl ⟨by kernel_rfl, ?_⟩) (by assumption) ?_
  rotate_left
  · (intro w hSw; (try dsimp only at hSw); go_simp; try with_reducible rfl)
  (try simp only [Act.put, List.setIfInBounds_toArray, List.set_cons_zero, List.set_cons_succ])
  refine wpAnyH_take (i := 3) (oi := ⟨some 24, _, _, _, _, _⟩) (v := ?_) rfl (by kernel_rfl) (by kernel_rfl) (by kernel_rfl) (fun _ _ _ h => h) (Or.inl ⟨by kernel_rfl, ?_⟩) (by assumption) ?_
  rotate_left
  · (intro w hSw; (try dsimp only at hSw); go_simp; try with_reducible rfl)
  (try simp only [Act.put, List.setIfInBounds_toArray, List.set_cons_zero, List.set_cons_succ])
  refine wpAnyH_take (i := 4) (oi := ⟨some 25, _, _, _, _, _⟩) (v := ?_) rfl (by kernel_rfl) (by kernel_rfl) (by kernel_rfl) (fun _ _ _ h => h) (Or.inl ⟨by kernel_rfl, ?_⟩) (by assumption) ?_
  rotate_left
  · (intro w hSw; (try dsimp only at hSw); go_simp; try with_reducible rfl)
  (try simp only [Act.put, List.setIfInBounds_toArray, List.set_cons_zero, List.set_cons_succ])
  refine wpAnyH_ready (rs := [5]) (by kernel_rfl) (by simp) ?_
  refine AllReadyH.cons (o := ⟨some 26, _, _, _, _, _⟩) rfl (fun K hK => ?_) AllReadyH.nil
  go_simp
  have bA : Below x6.heap.size x6 (x6.alloc (.cells #[.string ⟨#[97, 108, 112, 104, 97]⟩, .string ⟨#[98, 101, 116, 97]⟩, .string ⟨#[104, 111, 115, 116, 45, 49]⟩, .string ⟨#[122, 101, 100]⟩] 9 (0, 0))).drew := ((Below.refl _ _).alloc (Nat.le_refl _) _).drew
  have SA : Hid (SS x5 a len cap (x6.alloc (.cells #[.string ⟨#[97, 108, 112, 104, 97]⟩, .string ⟨#[98, 101, 116, 97]⟩, .string ⟨#[104, 111, 115, 116, 45, 49]⟩, .string ⟨#[122, 101, 100]⟩] 9 (0, 0))).drew) := S6.out.keep bA
  have hrA : (x6.alloc (.cells #[.string ⟨#[97, 108, 112, 104, 97]⟩, .string ⟨#[98, 101, 116, 97]⟩, .string ⟨#[104, 111, 115, 116, 45, 49]⟩, .string ⟨#[122, 101, 100]⟩] 9 (0, 0))).drew.heap[x6.heap.size]? = some (.cells #[.string ⟨#[97, 108, 112, 104, 97]⟩, .string ⟨#[98, 101, 116, 97]⟩, .string ⟨#[104, 111, 115, 116, 45, 49]⟩, .string ⟨#[122, 101, 100]⟩] 9 (0, 0)) := heap_alloc_new x6 _
  have hz6 : x5.heap.size < x6.heap.size := S6.out.2.2.1
  refine hK.out _ _ ?_ (fun hHeld => ?_)
  · exact HX.out _ SA.out.2.1
  clear hK K
  (try simp only [Act.put, List.setIfInBounds_toArray, List.set_cons_zero, List.set_cons_succ])
  refine wpAnyH_ready (rs := [6]) (by kernel_rfl) (by simp) ?_
  refine AllReadyH.cons (o := ⟨some 27, _, _, _, _, _⟩) rfl (fun K hK => ?_) AllReadyH.nil
  go_simp
  refine (sk_pick2 x6.heap.size 4 _ 10 _ [⟨#[97, 108, 112, 104, 97]⟩, ⟨#[98, 101, 116, 97]⟩, ⟨#[104, 111, 115, 116, 45, 49]⟩, ⟨#[122, 101, 100]⟩] SA.out hrA (by omega) rfl (by omega) (by omega) (by decide)).mono ?_
  rintro e x2 ⟨⟨nm, hnm, rfl⟩, h2, g2⟩
  have kR : Hid (x2.heap[w2.heap.size]? = some (.cells [Value.int .i64 aser, .string aiss, .string asub, .int .i64 afr, .int .i64 atill, .int .i64 akey, .slice ra RN rc, .bool aca, .int .i64 ask, .int .i64 ase, .int .i64 ass].toArray 27 (0, 0))) := by show _ = _; rw [h2.2.1.block _ (by omega)]; exact R5.out.1
  have kC : Hid (x2.heap[w2.heap.size + 1]? = some (.cells [Value.int .i64 bser, .string biss, .string bsub, .int .i64 bfr, .int .i64 btill, .int .i64 bkey, .slice ca0 CN cc0, .bool bca, .int .i64 bsk, .int .i64 bse, .int .i64 bss].toArray 27 (0, 0))) := by show _ = _; rw [h2.2.1.block _ (by omega)]; exact R5.out.2.1
  have kL : Hid (x2.heap[w2.heap.size + 2]? = some (.cells [Value.string diss, .int .i64 dfr, .int .i64 dtill, .slice la0 LN lc0, .int .i64 dsk, .int .i64 dse, .int .i64 dss].toArray 30 (0, 0))) := by show _ = _; rw [h2.2.1.block _ (by omega)]; exact R5.out.2.2
  have kZ1 : x2.heap[w.heap.size]? = some (.cells [Value.int .i64 0, .string ⟨#[]⟩, .string ⟨#[]⟩, .int .i64 0, .int .i64 0, .int .i64 0, .slice none 0 0, .bool false, .int .i64 0, .int .i64 0, .int .i64 0].toArray 27 (0, 0)) := by rw [h2.2.1.block _ (by omega)]; exact Z5.out.1
  have kZ2 : x2.heap[w.heap.size + 1]? = some (.cells [Value.int .i64 0, .string ⟨#[]⟩, .string ⟨#[]⟩, .int .i64 0, .int .i64 0, .int .i64 0, .slice none 0 0, .bool false, .int .i64 0, .int .i64 0, .int .i64 0].toArray 27 (0, 0)) := by rw [h2.2.1.block _ (by omega)]; exact Z5.out.2.1
  have kZ3 : x2.heap[w.heap.size + 2]? = some (.cells [Value.string ⟨#[]⟩, .int .i64 0, .int .i64 0, .slice none 0 0, .int .i64 0, .int .i64 0, .int .i64 0].toArray 30 (0, 0)) := by rw [h2.2.1.block _ (by omega)]; exact Z5.out.2.2
  have KZ2 : Hid _ := kZ2
  have KZ3 : Hid _ := kZ3
  have hu5 := U5.out.2.2.2.size
  have U2 : Hid (OwnS x2 w1.heap.size (.slice ra RN rc) anames ∧ OwnS x2 w1.heap.size (.slice ca0 CN cc0) bnames ∧ OwnL x2 w1.heap.size (.slice la0 LN lc0) dser ∧ Below w.heap.size w x2) :=
    ⟨U5.out.1.keep h2.2.1, U5.out.2.1.keep h2.2.1, U5.out.2.2.1.keep h2.2.1, B1.out.trans ((U5.out.2.2.2.trans (h2.2.1.mono hu5)).mono (by omega))⟩
  have HXV : Hid (∀ V : World, V.heap[w2.heap.size]? = some (.cells [Value.int .i64 aser, .string aiss, .string asub, .int .i64 afr, .int .i64 atill, .int .i64 akey, .slice ra RN rc, .bool aca, .int .i64 ask, .int .i64 ase, .int .i64 ass].toArray 27 (0, 0)) → V.heap[w2.heap.size + 1]? = some (.cells [Value.int .i64 bser, .string biss, .string bsub, .int .i64 bfr, .int .i64 btill, .int .i64 bkey, .slice ca0 CN cc0, .bool bca, .int .i64 bsk, .int .i64 bse, .int .i64 bss].toArray 27 (0, 0)) → V.heap[w2.heap.size + 2]? = some (.cells [Value.string diss, .int .i64 dfr, .int .i64 dtill, .slice la0 LN lc0, .int .i64 dsk, .int .i64 dse, .int .i64 dss].toArray 30 (0, 0)) → ((V.cell? ⟨w2.heap.size, 0, none⟩ = some (.int .i64 aser) ∧ V.cell? ⟨w2.heap.size, 1, none⟩ = some (.string aiss) ∧ V.cell? ⟨w2.heap.size, 2, none⟩ = some (.string asub) ∧ V.cell? ⟨w2.heap.size, 3, none⟩ = some (.int .i64 afr) ∧ V.cell? ⟨w2.heap.size, 4, none⟩ = some (.int .i64 atill) ∧ V.cell? ⟨w2.heap.size, 5, none⟩ = some (.int .i64 akey) ∧ V.cell? ⟨w2.heap.size, 6, none⟩ = some (.slice ra RN rc) ∧ V.cell? ⟨w2.heap.size, 7, none⟩ = some (.bool aca) ∧ V.cell? ⟨w2.heap.size, 8, none⟩ = some (.int .i64 ask) ∧ V.cell? ⟨w2.heap.size, 9, none⟩ = some (.int .i64 ase) ∧ V.cell? ⟨w2.heap.size, 10, none⟩ = some (.int .i64 ass)) ∧ (V.cell? ⟨w2.heap.size + 1, 0, none⟩ = some (.int .i64 bser) ∧ V.cell? ⟨w2.heap.size + 1, 1, none⟩ = some (.string biss) ∧ V.cell? ⟨w2.heap.size + 1, 2, none⟩ = some (.string bsub) ∧ V.cell? ⟨w2.heap.size + 1, 3, none⟩ = some (.int .i64 bfr) ∧ V.cell? ⟨w2.heap.size + 1, 4, none⟩ = some (.int .i64 btill) ∧ V.cell? ⟨w2.heap.size + 1, 5, none⟩ = some (.int .i64 bkey) ∧ V.cell? ⟨w2.heap.size + 1, 6, none⟩ = some (.slice ca0 CN cc0) ∧ V.cell? ⟨w2.heap.size + 1, 7, none⟩ = some (.bool bca) ∧ V.cell? ⟨w2.heap.size + 1, 8, none⟩ = some (.int .i64 bsk) ∧ V.cell? ⟨w2.heap.size + 1, 9, none⟩ = some (.int .i64 bse) ∧ V.cell? ⟨w2.heap.size + 1, 10, none⟩ = some (.int .i64 bss)) ∧ (V.cell? ⟨w2.heap.size + 2, 0, none⟩ = some (.string diss) ∧ V.cell? ⟨w2.heap.size + 2, 1, none⟩ = some (.int .i64 dfr) ∧ V.cell? ⟨w2.heap.size + 2, 2, none⟩ = some (.int .i64 dtill) ∧ V.cell? ⟨w2.heap.size + 2, 3, none⟩ = some (.slice la0 LN lc0) ∧ V.cell? ⟨w2.heap.size + 2, 4, none⟩ = some (.int .i64 dsk) ∧ V.cell? ⟨w2.heap.size + 2, 5, none⟩ = some (.int .i64 dse) ∧ V.cell? ⟨w2.heap.size + 2, 6, none⟩ = some (.int .i64 dss)))) := fun V h1 h2 h3 => ⟨⟨rowFacts h1 0 _ rfl, rowFacts h1 1 _ rfl, rowFacts h1 2 _ rfl, rowFacts h1 3 _ rfl, rowFacts h1 4 _ rfl, rowFacts h1 5 _ rfl, rowFacts h1 6 _ rfl, rowFacts h1 7 _ rfl, rowFacts h1 8 _ rfl, rowFacts h1 9 _ rfl, rowFacts h1 10 _ rfl⟩, ⟨rowFacts h2 0 _ rfl, rowFacts h2 1 _ rfl, rowFacts h2 2 _ rfl, rowFacts h2 3 _ rfl, rowFacts h2 4 _ rfl, rowFacts h2 5 _ rfl, rowFacts h2 6 _ rfl, rowFacts h2 7 _ rfl, rowFacts h2 8 _ rfl, rowFacts h2 9 _ rfl, rowFacts h2 10 _ rfl⟩, ⟨rowFacts h3 0 _ rfl, rowFacts h3 1 _ rfl, rowFacts h3 2 _ rfl, rowFacts h3 3 _ rfl, rowFacts h3 4 _ rfl, rowFacts h3 5 _ rfl, rowFacts h3 6 _ rfl⟩⟩
  have HO1 : Hid (∀ u ∈ [Value.int .i64 aser, .string aiss, .string asub, .int .i64 afr, .int .i64 atill, .int .i64 akey, .slice ra RN rc, .bool aca, .int .i64 ask, .int .i64 ase, .int .i64 ass], u.oneCell' = true) := by show ∀ u ∈ _, _; simp [Value.oneCell']
  clear h2 g2 kZ2 kZ3 HX bA hrA SA U5 R5 Z5 S6
  refine hK.out _ _ ?_ (fun hHeld => ?_)
  · exact HXV.out _ kR.out kC.out kL.out
  clear hK K
  (try simp only [Act.put, List.setIfInBounds_toArray, List.set_cons_zero, List.set_cons_succ])
  refine wpAnyH_ready (rs := [7]) (by kernel_rfl) (by simp) ?_
  refine AllReadyH.cons (o := ⟨none, _, _, _, _, _⟩) rfl (fun K hK => ?_) AllReadyH.nil
  rw [if_pos (by rfl)]
  refine wp_store_row 27 _ _ rfl w.heap.size [Value.int .i64 0, .string ⟨#[]⟩, .string ⟨#[]⟩, .int .i64 0, .int .i64 0, .int .i64 0, .slice none 0 0, .bool false, .int .i64 0, .int .i64 0, .int .i64 0] [Value.int .i64 aser, .string aiss, .string asub, .int .i64 afr, .int .i64 atill, .int .i64 akey, .slice ra RN rc, .bool aca, .int .i64 ask, .int .i64 ase, .int .i64 ass] 27 rfl rfl kZ1 rfl sizeCert HO1.out ?_
  intro x3 s1 ho1 hs1 hbb1
  have q1R : x3.heap[w2.heap.size]? = some (.cells [Value.int .i64 aser, .string aiss, .string asub, .int .i64 afr, .int .i64 atill, .int .i64 akey, .slice ra RN rc, .bool aca, .int .i64 ask, .int .i64 ase, .int .i64 ass].toArray 27 (0, 0)) := by rw [ho1 _ (by omega)]; exact kR.out
  have q1C : x3.heap[w2.heap.size + 1]? = some (.cells [Value.int .i64 bser, .string biss, .string bsub, .int .i64 bfr, .int .i64 btill, .int .i64 bkey, .slice ca0 CN cc0, .bool bca, .int .i64 bsk, .int .i64 bse, .int .i64 bss].toArray 27 (0, 0)) := by rw [ho1 _ (by omega)]; exact kC.out
  have q1L : x3.heap[w2.heap.size + 2]? = some (.cells [Value.string diss, .int .i64 dfr, .int .i64 dtill, .slice la0 LN lc0, .int .i64 dsk, .int .i64 dse, .int .i64 dss].toArray 30 (0, 0)) := by rw [ho1 _ (by omega)]; exact kL.out
  have jZ2 : x3.heap[w.heap.size + 1]? = some (.cells [Value.int .i64 0, .string ⟨#[]⟩, .string ⟨#[]⟩, .int .i64 0, .int .i64 0, .int .i64 0, .slice none 0 0, .bool false, .int .i64 0, .int .i64 0, .int .i64 0].toArray 27 (0, 0)) := by rw [ho1 _ (by omega)]; exact KZ2.out
  have jZ3 : x3.heap[w.heap.size + 2]? = some (.cells [Value.string ⟨#[]⟩, .int .i64 0, .int .i64 0, .slice none 0 0, .int .i64 0, .int .i64 0, .int .i64 0].toArray 30 (0, 0)) := by rw [ho1 _ (by omega)]; exact KZ3.out
  have JZ3 : Hid _ := jZ3
  have hgr1 := grown_row ho1 hbb1
  have U3 : Hid (OwnS x3 w1.heap.size (.slice ra RN rc) anames ∧ OwnS x3 w1.heap.size (.slice ca0 CN cc0) bnames ∧ OwnL x3 w1.heap.size (.slice la0 LN lc0) dser ∧ Below w.heap.size w x3) :=
    ⟨U2.out.1.rowOff hgr1 (fun e => by have := (U2.out.1.ge e).1; omega), U2.out.2.1.rowOff hgr1 (fun e => by have := (U2.out.2.1.ge e).1; omega), U2.out.2.2.1.rowOff hgr1 (fun e => by have := (U2.out.2.2.1.ge e).1; omega), hbb1 _ _ (by omega) U2.out.2.2.2⟩
  have T1 : Hid (x3.heap[w.heap.size]? = some (.cells [Value.int .i64 aser, .string aiss, .string asub, .int .i64 afr, .int .i64 atill, .int .i64 akey, .slice ra RN rc, .bool aca, .int .i64 ask, .int .i64 ase, .int .i64 ass].toArray 27 (0, 0))) := s1
  have KR3 : Hid _ := q1R
  have KC3 : Hid _ := q1C
  have KL3 : Hid _ := q1L
  refine hK.out _ _ ?_ (fun hHeld => ?_)
  · exact HXV.out _ q1R q1C q1L
  clear hK K q1R q1C q1L ho1 hs1 hbb1 hgr1 s1 kZ1 KZ2 KZ3 U2 kR kC kL jZ3
  refine wpAnyH_ready (rs := [8]) (by kernel_rfl) (by simp) ?_
  refine AllReadyH.cons (o := ⟨none, _, _, _, _, _⟩) rfl (fun K hK => ?_) AllReadyH.nil
  rw [if_pos (by rfl)]
  refine wp_store_row 27 _ _ rfl (w.heap.size + 1) [Value.int .i64 0, .string ⟨#[]⟩, .string ⟨#[]⟩, .int .i64 0, .int .i64 0, .int .i64 0, .slice none 0 0, .bool false, .int .i64 0, .int .i64 0, .int .i64 0] [Value.int .i64 bser, .string biss, .string bsub, .int .i64 bfr, .int .i64 btill, .int .i64 bkey, .slice ca0 CN cc0, .bool bca, .int .i64 bsk, .int .i64 bse, .int .i64 bss] 27 rfl rfl jZ2 rfl sizeCert HO2.out ?_
  intro x4 s2 ho1 hs1 hbb1
  have q1R : x4.heap[w2.heap.size]? = some (.cells [Value.int .i64 aser, .string aiss, .string asub, .int .i64 afr, .int .i64 atill, .int .i64 akey, .slice ra RN rc, .bool aca, .int .i64 ask, .int .i64 ase, .int .i64 ass].toArray 27 (0, 0)) := by rw [ho1 _ (by omega)]; exact KR3.out
  have q1C : x4.heap[w2.heap.size + 1]? = some (.cells [Value.int .i64 bser, .string biss, .string bsub, .int .i64 bfr, .int .i64 btill, .int .i64 bkey, .slice ca0 CN cc0, .bool bca, .int .i64 bsk, .int .i64 bse, .int .i64 bss].toArray 27 (0, 0)) := by rw [ho1 _ (by omega)]; exact KC3.out
  have q1L : x4.heap[w2.heap.size + 2]? = some (.cells [Value.string diss, .int .i64 dfr, .int .i64 dtill, .slice la0 LN lc0, .int .i64 dsk, .int .i64 dse, .int .i64 dss].toArray 30 (0, 0)) := by rw [ho1 _ (by omega)]; exact KL3.out
  have iZ3 : x4.heap[w.heap.size + 2]? = some (.cells [Value.string ⟨#[]⟩, .int .i64 0, .int .i64 0, .slice none 0 0, .int .i64 0, .int .i64 0, .int .i64 0].toArray 30 (0, 0)) := by rw [ho1 _ (by omega)]; exact JZ3.out
  have hgr1 := grown_row ho1 hbb1
  have U4 : Hid (OwnS x4 w1.heap.size (.slice ra RN rc) anames ∧ OwnS x4 w1.heap.size (.slice ca0 CN cc0) bnames ∧ OwnL x4 w1.heap.size (.slice la0 LN lc0) dser ∧ Below w.heap.size w x4) :=
    ⟨U3.out.1.rowOff hgr1 (fun e => by have := (U3.out.1.ge e).1; omega), U3.out.2.1.rowOff hgr1 (fun e => by have := (U3.out.2.1.ge e).1; omega), U3.out.2.2.1.rowOff hgr1 (fun e => by have := (U3.out.2.2.1.ge e).1; omega), hbb1 _ _ (by omega) U3.out.2.2.2⟩
  have T14 : Hid (x4.heap[w.heap.size]? = some (.cells [Value.int .i64 aser, .string aiss, .string asub, .int .i64 afr, .int .i64 atill, .int .i64 akey, .slice ra RN rc, .bool aca, .int .i64 ask, .int .i64 ase, .int .i64 ass].toArray 27 (0, 0))) := by show _ = _; rw [ho1 _ (by omega)]; exact T1.out
  have T24 : Hid (x4.heap[w.heap.size + 1]? = some (.cells [Value.int .i64 bser, .string biss, .string bsub, .int .i64 bfr, .int .i64 btill, .int .i64 bkey, .slice ca0 CN cc0, .bool bca, .int .i64 bsk, .int .i64 bse, .int .i64 bss].toArray 27 (0, 0))) := s2
  have KR4 : Hid _ := q1R
  have KC4 : Hid _ := q1C
  have KL4 : Hid _ := q1L
  refine hK.out _ _ ?_ (fun hHeld => ?_)
  · exact HXV.out _ q1R q1C q1L
  clear hK K q1R q1C q1L ho1 hs1 hbb1 hgr1 s2 jZ2 JZ3 U3 T1 KR3 KC3 KL3
  refine wpAnyH_ready (rs := [9]) (by kernel_rfl) (by simp) ?_
  refine AllReadyH.cons (o := ⟨none, _, _, _, _, _⟩) rfl (fun K hK => ?_) AllReadyH.nil
  rw [if_pos (by rfl)]
  refine wp_store_row 30 _ _ rfl (w.heap.size + 2) [Value.string ⟨#[]⟩, .int .i64 0, .int .i64 0, .slice none 0 0, .int .i64 0, .int .i64 0, .int .i64 0] [Value.string diss, .int .i64 dfr, .int .i64 dtill, .slice la0 LN lc0, .int .i64 dsk, .int .i64 dse, .int .i64 dss] 30 rfl rfl iZ3 rfl sizeCrl HO3.out ?_
  intro x5 s3 ho1 hs1 hbb1
  have q1R : x5.heap[w2.heap.size]? = some (.cells [Value.int .i64 aser, .string aiss, .string asub, .int .i64 afr, .int .i64 atill, .int .i64 akey, .slice ra RN rc, .bool aca, .int .i64 ask, .int .i64 ase, .int .i64 ass].toArray 27 (0, 0)) := by rw [ho1 _ (by omega)]; exact KR4.out
  have q1C : x5.heap[w2.heap.size + 1]? = some (.cells [Value.int .i64 bser, .string biss, .string bsub, .int .i64 bfr, .int .i64 btill, .int .i64 bkey, .slice ca0 CN cc0, .bool bca, .int .i64 bsk, .int .i64 bse, .int .i64 bss].toArray 27 (0, 0)) := by rw [ho1 _ (by omega)]; exact KC4.out
  have q1L : x5.heap[w2.heap.size + 2]? = some (.cells [Value.string diss, .int .i64 dfr, .int .i64 dtill, .slice la0 LN lc0, .int .i64 dsk, .int .i64 dse, .int .i64 dss].toArray 30 (0, 0)) := by rw [ho1 _ (by omega)]; exact KL4.out
  have hgr1 := grown_row ho1 hbb1
  have U5 : OwnS x5 w1.heap.size (.slice ra RN rc) anames ∧ OwnS x5 w1.heap.size (.slice ca0 CN cc0) bnames ∧ OwnL x5 w1.heap.size (.slice la0 LN lc0) dser ∧ Below w.heap.size w x5 :=
    ⟨U4.out.1.rowOff hgr1 (fun e => by have := (U4.out.1.ge e).1; omega), U4.out.2.1.rowOff hgr1 (fun e => by have := (U4.out.2.1.ge e).1; omega), U4.out.2.2.1.rowOff hgr1 (fun e => by have := (U4.out.2.2.1.ge e).1; omega), hbb1 _ _ (by omega) U4.out.2.2.2⟩
  have T15 : x5.heap[w.heap.size]? = some (.cells [Value.int .i64 aser, .string aiss, .string asub, .int .i64 afr, .int .i64 atill, .int .i64 akey, .slice ra RN rc, .bool aca, .int .i64 ask, .int .i64 ase, .int .i64 ass].toArray 27 (0, 0)) := by rw [ho1 _ (by omega)]; exact T14.out
  have T25 : x5.heap[w.heap.size + 1]? = some (.cells [Value.int .i64 bser, .string biss, .string bsub, .int .i64 bfr, .int .i64 btill, .int .i64 bkey, .slice ca0 CN cc0, .bool bca, .int .i64 bsk, .int .i64 bse, .int .i64 bss].toArray 27 (0, 0)) := by rw [ho1 _ (by omega)]; exact T24.out
  have hl1 := run_loadVar_mid (P := Tryz.prog) _ w.heap.size 0 27 _ _ (rangeRow T15) Tryz.underlying27 rfl sizeCert
  have hl2 := run_loadVar_mid (P := Tryz.prog) _ (w.heap.size + 1) 0 27 _ _ (rangeRow T25) Tryz.underlying27 rfl sizeCert
  have hl3 := run_loadVar_mid (P := Tryz.prog) _ (w.heap.size + 2) 0 30 _ _ (rangeRow s3) Tryz.underlying30 rfl sizeCrl
  have HFIN : Hid (AnyPathN w (.returned (.tuple #[.agg [Value.int .i64 aser, .string aiss, .string asub, .int .i64 afr, .int .i64 atill, .int .i64 akey, .slice ra RN rc, .bool aca, .int .i64 ask, .int .i64 ase, .int .i64 ass].toArray, .agg [Value.int .i64 bser, .string biss, .string bsub, .int .i64 bfr, .int .i64 btill, .int .i64 bkey, .slice ca0 CN cc0, .bool bca, .int .i64 bsk, .int .i64 bse, .int .i64 bss].toArray, .agg [Value.string diss, .int .i64 dfr, .int .i64 dtill, .slice la0 LN lc0, .int .i64 dsk, .int .i64 dse, .int .i64 dss].toArray, .int .i64 tv, .string nm])) x5 ∧ Below w.heap.size w x5) :=
    ⟨⟨⟨aser, aiss, asub, afr, atill, akey, anames, aca, ask, ase, ass⟩, ⟨bser, biss, bsub, bfr, btill, bkey, bnames, bca, bsk, bse, bss⟩, ⟨diss, dfr, dtill, dser, dsk, dse, dss⟩, tv, nm, .slice ra RN rc, .slice ca0 CN cc0, .slice la0 LN lc0, rfl, htv, hnm, HMM.out.1, HMM.out.2.1, HMM.out.2.2, U5.1.mono (by omega), U5.2.1.mono (by omega), U5.2.2.1.mono (by omega)⟩, U5.2.2.2⟩
  refine hK.out _ _ ?_ (fun hHeld => ?_)
  · exact HXV.out _ q1R q1C q1L
  clear hK K q1R q1C q1L ho1 hs1 hbb1 hgr1 U5 U4
  refine wpAnyH_take (i := 10) (oi := ⟨some 5, _, _, _, _, _⟩) (v := ?_) rfl (by kernel_rfl) (by kernel_rfl) (by kernel_rfl) (fun _ _ _ h => h) (Or.inl ⟨by kernel_rfl, ?_⟩) (by assumption) ?_
  rotate_left
  · (intro w hSw; (try dsimp only at hSw); go_simp; try with_reducible rfl)
  (try simp only [Act.put, List.setIfInBounds_toArray, List.set_cons_zero, List.set_cons_succ])
  refine wpAnyH_take (i := 11) (oi := ⟨some 6, _, _, _, _, _⟩) (v := ?_) rfl (by kernel_rfl) (by kernel_rfl) (by kernel_rfl) (fun _ _ _ h => h) (Or.inl ⟨by kernel_rfl, ?_⟩) (by assumption) ?_
  rotate_left
  · (intro w hSw; (try dsimp only at hSw); go_simp; try with_reducible rfl)
  (try simp only [Act.put, List.setIfInBounds_toArray, List.set_cons_zero, List.set_cons_succ])
  refine wpAnyH_done (by kernel_rfl) ?_ _
  go_wp2
  refine bodyPost_ret (v := .tuple #[.agg [Value.int .i64 aser, .string aiss, .string asub, .int .i64 afr, .int .i64 atill, .int .i64 akey, .slice ra RN rc, .bool aca, .int .i64 ask, .int .i64 ase, .int .i64 ass].toArray, .agg [Value.int .i64 bser, .string biss, .string bsub, .int .i64 bfr, .int .i64 btill, .int .i64 bkey, .slice ca0 CN cc0, .bool bca, .int .i64 bsk, .int .i64 bse, .int .i64 bss].toArray, .agg [Value.string diss, .int .i64 dfr, .int .i64 dtill, .slice la0 LN lc0, .int .i64 dsk, .int .i64 dse, .int .i64 dss].toArray, .int .i64 tv, .string nm]) ?_ rfl HFIN.out
  simp [results, Tryz.results7, asAddr, hl1, hl2, hl3, Act.put]
/-- What DrawPathName tells, its parts by name. -/
theorem drawPathN (a : Option Addr) (len cap : Nat) (w : World) (hlen : len ≤ 1048576) (hc : CodeAt a len w) (hblk : ∀ x, 0 < len → a = some x → x.block < w.heap.size) :
    Calls Tryz.prog 7 #[.slice a len cap] w fun e w' => ∃ (aser afr atill akey ask ase ass : Int) (aiss asub : ByteArray) (anames : List ByteArray) (aca : Bool) (bser bfr btill bkey bsk bse bss : Int) (biss bsub : ByteArray) (bnames : List ByteArray) (bca : Bool) (diss : ByteArray) (dfr dtill dsk dse dss : Int) (dser : List Int) (tv : Int) (nm : ByteArray) (ra ca0 la0 : Option Addr) (RN CN LN rc cc0 lc0 : Nat),
      e = .returned (.tuple #[.agg [Value.int .i64 aser, .string aiss, .string asub, .int .i64 afr, .int .i64 atill, .int .i64 akey, .slice ra RN rc, .bool aca, .int .i64 ask, .int .i64 ase, .int .i64 ass].toArray, .agg [Value.int .i64 bser, .string biss, .string bsub, .int .i64 bfr, .int .i64 btill, .int .i64 bkey, .slice ca0 CN cc0, .bool bca, .int .i64 bsk, .int .i64 bse, .int .i64 bss].toArray, .agg [Value.string diss, .int .i64 dfr, .int .i64 dtill, .slice la0 LN lc0, .int .i64 dsk, .int .i64 dse, .int .i64 dss].toArray, .int .i64 tv, .string nm]) ∧ Hid (RN = anames.length ∧ CN = bnames.length ∧ LN = dser.length) ∧ nm.size ≤ 10 ∧ PMay ⟨aser, aiss, asub, afr, atill, akey, anames, aca, ask, ase, ass⟩ ∧ PMay ⟨bser, biss, bsub, bfr, btill, bkey, bnames, bca, bsk, bse, bss⟩ ∧ LMay ⟨diss, dfr, dtill, dser, dsk, dse, dss⟩ ∧ OwnS w' w.heap.size (.slice ra RN rc) anames ∧ OwnS w' w.heap.size (.slice ca0 CN cc0) bnames ∧ OwnL w' w.heap.size (.slice la0 LN lc0) dser ∧ Below w.heap.size w w' := by
  refine (drawPathName a len cap w hlen hc hblk).mono ?_
  rintro e w' ⟨⟨r, c, l, t, nm, vr, vc, vl, rfl, ht, hn, hm1, hm2, hm3, h1, h2, h3⟩, hb⟩
  obtain ⟨aser, aiss, asub, afr, atill, akey, anames, aca, ask, ase, ass⟩ := r
  obtain ⟨bser, biss, bsub, bfr, btill, bkey, bnames, bca, bsk, bse, bss⟩ := c
  obtain ⟨diss, dfr, dtill, dser, dsk, dse, dss⟩ := l
  obtain ⟨ra, rc, rfl, _⟩ := h1.form
  obtain ⟨ca0, cc0, rfl, _⟩ := h2.form
  obtain ⟨la0, lc0, rfl, _⟩ := h3.form
  exact ⟨aser, afr, atill, akey, ask, ase, ass, aiss, asub, anames, aca, bser, bfr, btill, bkey, bsk, bse, bss, biss, bsub, bnames, bca, diss, dfr, dtill, dsk, dse, dss, dser, t, nm, ra, ca0, la0, anames.length, bnames.length, dser.length, rc, cc0, lc0, rfl, ⟨rfl, rfl, rfl⟩, hn, hm1, hm2, hm3, h1, h2, h3, hb⟩
end Go.Proofs.YtegmmaomaegjjaaGreatDoor
