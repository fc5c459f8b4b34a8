/- strings.Join without a separator, in own words; impl.putParts, putSeq, putName, walked. impl.PutNum, walked. impl.putNumbers, walked. (impl.numberThing).body, walked. impl.layThing at a number, impl.DerInt, walked. -/
import Derived.Test.YtfhihhkdbdidnaaDoorLBy03
import Derived.Test.YtfhihhkdbdidnaaDoorLBy01
import Derived.Test.YtfhihhkdbdidnaaDoorLBy06
import Derived.Test.YtfhihhkdbdidnaaDoorLBy04
import Derived.Test.YtfhihhkdbdidnaaDoorLBy05
import Derived.Deep.Cut
import Derived.Deep.RegionHeld3
import Derived.Test.YtfhihhkdbdidnaaDoorLBy02
import Derived.Deep.RegionWith
namespace Go.Proofs.YtfhihhkdbdidnaaDoor
open Go.RowKit

/-- Texts, one behind the other. -/
def catS : List ByteArray → ByteArray
  | [] => ⟨#[]⟩
  | x :: r => x ++ catS r
theorem catS_list : ∀ xs : List ByteArray, (catS xs).data.toList = (xs.map (·.data.toList)).flatten
  | [] => rfl
  | x :: r => by rw [catS, ByteArray.data_append, Array.toList_append, catS_list r]; rfl
theorem join_cat (xs : List ByteArray) : Lib.join (xs.map (·.data.toList)) ([] : List UInt8) = (catS xs).data.toList := by
  rw [catS_list]
  cases xs with
  | nil => rfl
  | cons x r =>
    rw [List.map_cons, Lib.join_cons, Lib.joinTail, List.flatten_cons]
    simp
    rfl
theorem joinAll (g c : Nat) (xs : List ByteArray) (w : World) (hg : w.heap[g]? = some (.cells (sCells xs).toArray 9 (0, 0))) (hs : (catS xs).size ≤ 100000) (hl : xs.length ≤ 100000) (hc : xs.length ≤ c) :
    Calls Tryd.prog 59 #[.slice (some ⟨g, 0, none⟩) xs.length c, .string ⟨#[]⟩] w fun e w' => e = .returned (.string (catS xs)) ∧ Below w.heap.size w w' := by
  have h := Any.strings_Join joinLays joinExtra g 0 c xs ⟨#[]⟩ w (fun j x hx => by
    rw [Nat.zero_add, cell_of_row w g j _ _ (0, 0) hg]
    simp [sCells, hx]) (heap_lt hg) (by omega) hc (by
    show (Lib.join (xs.map (·.data.toList)) ([] : List UInt8)).length ≤ _
    rw [join_cat, ← Lib.size_eq]
    omega)
  refine h.mono ?_
  rintro e w' ⟨rfl, hb⟩
  refine ⟨?_, hb⟩
  have e1 : (⟨(Lib.join (xs.map (·.data.toList)) (⟨#[]⟩ : ByteArray).data.toList).toArray⟩ : ByteArray) = catS xs := by
    show (⟨(Lib.join (xs.map (·.data.toList)) ([] : List UInt8)).toArray⟩ : ByteArray) = catS xs
    rw [join_cat]
  rw [e1]
theorem implParts (t : Int) (g c : Nat) (xs : List ByteArray) (w : World) (ht : tagB t = true) (hg : w.heap[g]? = some (.cells (sCells xs).toArray 9 (0, 0))) (hs : (catS xs).size ≤ 4000) (hl : xs.length ≤ 100) (hc : xs.length ≤ c) :
    Calls Tryd.prog 47 #[.int .i64 t, .slice (some ⟨g, 0, none⟩) xs.length c] w fun e w' => e = .returned (.string (thingD t (catS xs))) ∧ Below w.heap.size w w' := by
  have HJ : Hid (Calls Tryd.prog 59 #[.slice (some ⟨g, 0, none⟩) xs.length c, .string ⟨#[]⟩] w fun e w' => e = .returned (.string (catS xs)) ∧ Below w.heap.size w w') := joinAll g c xs w hg (by omega) (by omega) hc
  have HP : Hid (∀ V : World, Calls Tryd.prog 50 #[.int .i64 t, .string (catS xs)] V fun e w' => e = .returned (.string (thingD t (catS xs))) ∧ Below V.heap.size V w') := fun V => by
    have := implDerPut t (catS xs) V (by unfold maxLen; omega)
    rw [putD_right ht hs] at this
    exact this
  clear hg hs hl hc
  generalize thingD t (catS xs) = q at *
  generalize catS xs = x at *
  generalize xs.length = n at *
  go_enter Tryd.func47, Tryd.ntmps47
  go_wp2_with fail
  refine HJ.out.mono ?_
  rintro e w2 ⟨rfl, b2⟩
  have B2 : Hid (Below w.heap.size w w2) := b2
  clear b2
  go_wp2_with fail
  refine (HP.out _).mono ?_
  rintro e w3 ⟨rfl, b3⟩
  have B3 : Hid (Below w.heap.size w w3) := B2.out.trans (b3.mono B2.out.size)
  clear b3
  go_wp2
  go_ret
  exact ⟨rfl, B3.out⟩
theorem implSeq (g c : Nat) (xs : List ByteArray) (w : World) (hg : w.heap[g]? = some (.cells (sCells xs).toArray 9 (0, 0))) (hs : (catS xs).size ≤ 4000) (hl : xs.length ≤ 100) (hc : xs.length ≤ c) :
    Calls Tryd.prog 33 #[.slice (some ⟨g, 0, none⟩) xs.length c] w fun e w' => e = .returned (.string (seqD (catS xs))) ∧ Below w.heap.size w w' := by
  have HP : Hid (Calls Tryd.prog 47 #[.int .i64 48, .slice (some ⟨g, 0, none⟩) xs.length c] w fun e w' => e = .returned (.string (seqD (catS xs))) ∧ Below w.heap.size w w') := implParts 48 g c xs w (by decide) hg hs hl hc
  clear hg hs hl hc
  generalize seqD (catS xs) = q at *
  generalize xs.length = n at *
  go_enter Tryd.func33, Tryd.ntmps33
  go_wp2_with fail
  refine HP.out.mono ?_
  rintro e w2 ⟨rfl, b2⟩
  have B2 : Hid (Below w.heap.size w w2) := b2
  clear b2
  go_wp2
  go_ret
  exact ⟨rfl, B2.out⟩
/-- Arcs that lie in a row of their own. -/
theorem implOid4 (x y z u : Int) (g : Nat) (w : World) (h : arcsB [x, y, z, u] = true) (hg : w.heap[g]? = some (.cells #[.int .i64 x, .int .i64 y, .int .i64 z, .int .i64 u] 2 (0, 0))) :
    Calls Tryd.prog 55 #[.slice (some ⟨g, 0, none⟩) 4 4] w fun e w' => e = .returned (.string (oidT [x, y, z, u])) ∧ Below w.heap.size w w' := by
  have k := implDerOid (some ⟨g, 0, none⟩) [x, y, z, u] 4 w (by simp) (Nat.le_refl _) (IsInts.row (rest := []) hg)
  unfold oidD at k
  rw [if_pos h] at k
  exact k
theorem one_cat (x : ByteArray) : catS [x] = x := by show x ++ (⟨#[]⟩ : ByteArray) = x; exact ByteArray.append_empty
theorem two_cat (x y : ByteArray) : catS [x, y] = x ++ y := by show x ++ (y ++ (⟨#[]⟩ : ByteArray)) = x ++ y; rw [show y ++ (⟨#[]⟩ : ByteArray) = y from ByteArray.append_empty]
theorem three_cat (x y z : ByteArray) : catS [x, y, z] = x ++ (y ++ z) := by show x ++ catS [y, z] = _; rw [two_cat]
/-- One text in a row of its own, as a thing of it. -/
theorem implSeq1 (x : ByteArray) (g : Nat) (w : World) (hx : x.size ≤ 4000) (hg : w.heap[g]? = some (.cells #[.string x] 9 (0, 0))) :
    Calls Tryd.prog 33 #[.slice (some ⟨g, 0, none⟩) 1 1] w fun e w' => e = .returned (.string (seqD x)) ∧ Below w.heap.size w w' := by
  have h := implSeq g 1 [x] w hg (by rw [one_cat]; exact hx) (by simp) (Nat.le_refl _)
  rw [one_cat] at h
  exact h
theorem implParts1 (t : Int) (x : ByteArray) (g : Nat) (w : World) (ht : tagB t = true) (hx : x.size ≤ 4000) (hg : w.heap[g]? = some (.cells #[.string x] 9 (0, 0))) :
    Calls Tryd.prog 47 #[.int .i64 t, .slice (some ⟨g, 0, none⟩) 1 1] w fun e w' => e = .returned (.string (thingD t x)) ∧ Below w.heap.size w w' := by
  have h := implParts t g 1 [x] w ht hg (by rw [one_cat]; exact hx) (by simp) (Nat.le_refl _)
  rw [one_cat] at h
  exact h
theorem implSeq2 (x y : ByteArray) (g : Nat) (w : World) (hx : x.size + y.size ≤ 4000) (hg : w.heap[g]? = some (.cells #[.string x, .string y] 9 (0, 0))) :
    Calls Tryd.prog 33 #[.slice (some ⟨g, 0, none⟩) 2 2] w fun e w' => e = .returned (.string (seqD (x ++ y))) ∧ Below w.heap.size w w' := by
  have h := implSeq g 2 [x, y] w hg (by rw [two_cat, ByteArray.size_append]; exact hx) (by simp) (Nat.le_refl _)
  rw [two_cat] at h
  exact h
theorem implSeq3 (x y z : ByteArray) (g : Nat) (w : World) (hx : x.size + (y.size + z.size) ≤ 4000) (hg : w.heap[g]? = some (.cells #[.string x, .string y, .string z] 9 (0, 0))) :
    Calls Tryd.prog 33 #[.slice (some ⟨g, 0, none⟩) 3 3] w fun e w' => e = .returned (.string (seqD (x ++ (y ++ z)))) ∧ Below w.heap.size w w' := by
  have h := implSeq g 3 [x, y, z] w hg (by rw [three_cat, ByteArray.size_append, ByteArray.size_append]; exact hx) (by simp) (Nat.le_refl _)
  rw [three_cat] at h
  exact h
set_option maxHeartbeats 1000000 in
theorem implNameD (t : ByteArray) (w : World) (ht : t.size ≤ 40) :
    Calls Tryd.prog 42 #[.string t] w fun e w' => e = .returned (.string (nameD t)) ∧ Below w.heap.size w w' := by
  have h1 := arcs_lit arcsName
  have h2 := thingD_le 12 t
  have h3 := seqD_le (oidT [2, 5, 4, 3] ++ thingD 12 t)
  have h4 := thingD_le 49 (seqD (oidT [2, 5, 4, 3] ++ thingD 12 t))
  rw [ByteArray.size_append] at h3
  have H1 : Hid (∀ V (g : Nat), V.heap[g]? = some (.cells #[.int .i64 2, .int .i64 5, .int .i64 4, .int .i64 3] 2 (0, 0)) → Calls Tryd.prog 55 #[.slice (some ⟨g, 0, none⟩) 4 4] V fun e w' => e = .returned (.string (oidT [2, 5, 4, 3])) ∧ Below V.heap.size V w') := fun V g hg => implOid4 2 5 4 3 g V arcsName hg
  have H2 : Hid (∀ V, Calls Tryd.prog 50 #[.int .i64 12, .string t] V fun e w' => e = .returned (.string (thingD 12 t)) ∧ Below V.heap.size V w') := fun V => by
    have := implDerPut 12 t V (by unfold maxLen; omega)
    rw [putD_right (by decide) (by omega)] at this
    exact this
  have H3 : Hid (∀ V (g : Nat), V.heap[g]? = some (.cells #[.string (oidT [2, 5, 4, 3]), .string (thingD 12 t)] 9 (0, 0)) → Calls Tryd.prog 33 #[.slice (some ⟨g, 0, none⟩) 2 2] V fun e w' => e = .returned (.string (seqD (oidT [2, 5, 4, 3] ++ thingD 12 t))) ∧ Below V.heap.size V w') := fun V g hg => implSeq2 _ _ g V (by omega) hg
  have H4 : Hid (∀ V (g : Nat), V.heap[g]? = some (.cells #[.string (seqD (oidT [2, 5, 4, 3] ++ thingD 12 t))] 9 (0, 0)) → Calls Tryd.prog 47 #[.int .i64 49, .slice (some ⟨g, 0, none⟩) 1 1] V fun e w' => e = .returned (.string (thingD 49 (seqD (oidT [2, 5, 4, 3] ++ thingD 12 t)))) ∧ Below V.heap.size V w') := fun V g hg => implParts1 49 _ g V (by decide) (by omega) hg
  have H5 : Hid (∀ V (g : Nat), V.heap[g]? = some (.cells #[.string (thingD 49 (seqD (oidT [2, 5, 4, 3] ++ thingD 12 t)))] 9 (0, 0)) → Calls Tryd.prog 33 #[.slice (some ⟨g, 0, none⟩) 1 1] V fun e w' => e = .returned (.string (nameD t)) ∧ Below V.heap.size V w') := fun V g hg => implSeq1 _ g V (by omega) hg
  clear h1 h2 h3 h4
  generalize nameD t = n at *
  generalize thingD 49 (seqD (oidT [2, 5, 4, 3] ++ thingD 12 t)) = q4 at *
  generalize seqD (oidT [2, 5, 4, 3] ++ thingD 12 t) = q3 at *
  generalize oidT [2, 5, 4, 3] = q1 at *
  generalize thingD 12 t = q2 at *
  have AL : Hid (∀ V o, Hid (Below w.heap.size w V) → Hid (Below w.heap.size w (V.alloc o))) := fun V o h => h.out.alloc h.out.size o
  have I0 : Hid (Below w.heap.size w w) := Below.refl _ _
  have TR : Hid (∀ V W, Hid (Below w.heap.size w V) → Below V.heap.size V W → Hid (Below w.heap.size w W)) := fun V W h k => h.out.trans (k.mono h.out.size)
  go_enter Tryd.func42, Tryd.ntmps42
  go_wp2_with fail
  refine (H1.out _ _ (heap_alloc_new w _)).mono ?_
  rintro e w2 ⟨rfl, b2⟩
  have B2 := TR.out _ _ (AL.out _ _ I0) b2
  clear b2
  go_wp2_with fail
  refine (H2.out _).mono ?_
  rintro e w3 ⟨rfl, b3⟩
  have B3 := TR.out _ _ B2 b3
  clear b3
  go_wp2_with fail
  refine (H3.out _ _ (heap_alloc_new w3 _)).mono ?_
  rintro e w4 ⟨rfl, b4⟩
  have B4 := TR.out _ _ (AL.out _ _ B3) b4
  clear b4
  go_wp2_with fail
  refine (H4.out _ _ (heap_alloc_new w4 _)).mono ?_
  rintro e w5 ⟨rfl, b5⟩
  have B5 := TR.out _ _ (AL.out _ _ B4) b5
  clear b5
  go_wp2_with fail
  refine (H5.out _ _ (heap_alloc_new w5 _)).mono ?_
  rintro e w6 ⟨rfl, b6⟩
  have B6 := TR.out _ _ (AL.out _ _ B5) b6
  clear b6
  go_wp2
  go_ret
  exact ⟨rfl, B6.out⟩
end Go.Proofs.YtfhihhkdbdidnaaDoor
namespace Go.Proofs.YtfhihhkdbdidnaaDoor
open Go.RowKit

theorem implFold (n : Int) (w : World) (h0 : -9223372036854775808 ≤ n) (h1 : n ≤ 9223372036854775807) :
    Calls Tryd.prog 60 #[.int .i64 n] w fun e w' => e = .returned (.int .u64 (foldI n : Int)) ∧ w' = w := by
  by_cases hn : n < 0
  · go_enter Tryd.func60, Tryd.ntmps60
    go_wp2
    go_ret
    exact ⟨ret_int (fold_bits_neg n h0 hn), rfl⟩
  · go_enter Tryd.func60, Tryd.ntmps60
    go_wp2
    go_ret
    exact ⟨ret_int (fold_bits_pos n h1 (by omega)), rfl⟩

theorem arr10 : Tryd.prog.arrayLen 73 = 10 := by kernel_rfl
theorem size_elem10 (w : World) : (sizeOf (Tryd.prog.elem 73)).run Tryd.prog w = .ok 1 w := by kernel_rfl
theorem under10 : Tryd.prog.underlying 73 = some (.array (Tryd.prog.arrayLen 73) (Tryd.prog.elem 73)) := by kernel_rfl
theorem slice10 (w : World) (b k : Nat) (hk : k < 10) :
    (Instr.sliceAt 73 (.pointer (some ⟨b, 0, none⟩)) none (some (.int .i64 ((k : Int) + 1))) none).run Tryd.prog w = .ok (.slice (some ⟨b, 0, none⟩) (k + 1) 10) w := by
  rw [run_sliceAt_array_h w _ _ under10 .i64 _ (by omega) (by rw [arr10]; omega), size_elem10]
  simp only [Result.andThen_ok, slicedAt, arr10]
  simp [Addr.add]

set_option maxHeartbeats 1000000 in
set_option maxRecDepth 100000 in
theorem implPut (n : Int) (w : World) (h0 : -9223372036854775808 ≤ n) (h1 : n ≤ 9223372036854775807) :
    Calls Tryd.prog 49 #[.int .i64 n] w fun e w' => e = .returned (.string (strOfNums (putF 9 (foldI n)))) ∧ Below w.heap.size w w' := by
  have hf : (foldI n : Int) ≤ 18446744073709551615 := by unfold foldI; split <;> omega
  obtain ⟨u, hu⟩ : ∃ u, u = foldI n := ⟨_, rfl⟩
  rw [← hu] at hf ⊢
  have HU : Hid (u = foldI n) := hu
  clear hu
  go_enter Tryd.func49, Tryd.ntmps49
  go_wp2_with fail
  refine (implFold n _ h0 h1).mono ?_
  rintro e w' ⟨rfl, rfl⟩
  rw [← HU.out]
  go_wp2_with fail
  go_loopw [4, 5] (fun s a wr => ∃ (x f : Nat) (xs : List Int) (L : List Value), (x : Int) ≤ 18446744073709551615 ∧ x < pw f ∧ xs.length + f ≤ 9 ∧ s = .int .i64 xs.length ∧ a = .int .u64 x ∧
      wr.ownsRow w.heap.size 73 1 (.slice (some ⟨w.heap.size, 0, none⟩) 10 10) 10 L ∧ (∀ j, j < xs.length → L[j]? = some (.int .u8 (xs.getD j 0))) ∧ Below w.heap.size w wr ∧ xs ++ putF f x = putF 9 u)
    (fun _ a _ => (intOf a).toNat)
  case atStart =>
    exact ⟨u, 9, [], _, hf, by rw [pw9]; omega, by simp, rfl, rfl, World.ownsRow_lit _ _ 10 (Nat.le_refl _) (by decide) rfl, by simp, (Below.refl _ _).alloc (Nat.le_refl _) _, by simp⟩
  case round =>
    obtain ⟨x, f, xs, L, hx, hpw, hlen, rfl, rfl, hown, hL, hbel, heq⟩ := hrel
    have HE : Hid (xs ++ putF f x = putF 9 u) := heq
    have HP : Hid (x < pw f) := hpw
    have HL : Hid (∀ j, j < xs.length → L[j]? = some (.int .u8 (xs.getD j 0))) := hL
    have hlL : L.length = 10 := by simpa using hown.1
    have hc := hown.cellAt xs.length (by omega)
    rw [List.getElem?_eq_getElem (by omega)] at hc
    obtain ⟨v0, hv0⟩ : ∃ v, wr.cell? ⟨w.heap.size, xs.length, none⟩ = some v := ⟨_, hc⟩
    have hfz := hown.frozenAt xs.length
    have hor := or128 x
    clear heq hpw hL hf h0 h1 hc hlL
    have hst := fun v => hown.stored xs.length v
    have HS : Hid (∀ v, (wr.setCell ⟨w.heap.size, xs.length, none⟩ v).ownsRow w.heap.size 73 1 (.slice (some ⟨w.heap.size, 0, none⟩) 10 10) 10 (L.set xs.length v)) := fun v => (hst v).1
    have hb2 : Hid (∀ v, Below w.heap.size w (wr.setCell ⟨w.heap.size, xs.length, none⟩ v)) := fun v => hbel.setCell (Nat.le_refl _) v
    have HL2 : Hid (∀ y : Int, ∀ j, j < (xs ++ [y]).length → (L.set xs.length (.int .u8 y))[j]? = some (.int .u8 ((xs ++ [y]).getD j 0))) := fun y => set_reads (by have := hown.1; omega) HL.out
    clear hst hown hbel HL
    by_cases hlt : 128 ≤ x
    · go_wp2
      go_roundw
      case rel =>
        obtain ⟨g, rfl, hg⟩ := pw_step HP.out hlt
        have he := HE.out
        rw [putF_more hlt] at he
        refine ⟨x / 128, g, xs ++ [(x : Int) % 128 + 128], _, by omega, hg, by simp; omega, by simp, by go_num, HS.out _, HL2.out _, hb2.out _, ?_⟩
        rw [List.append_assoc, ← he]
        simp
      case measure => simp [intOf]; omega
    · have hcv : ∀ W : World, (∀ j, j < xs.length + 1 → W.cell? ⟨w.heap.size, j, none⟩ = some (.int .u8 ((xs ++ [(x : Int)]).getD j 0))) →
          (convert 59 9 (.slice (some ⟨w.heap.size, 0, none⟩) (xs.length + 1) 10)).run Tryd.prog W = .ok (.string (strOfNums (xs ++ [(x : Int)]))) W := fun W hW =>
        run_convert_bytes_arg W 59 5 Tryd.underlying59 Tryd.underlying5 w.heap.size 0 (xs.length + 1) 10 (xs ++ [(x : Int)]) (by simp) (fun j hj => by rw [Nat.zero_add]; exact hW j hj) 9 Tryd.underlying9
      have hcv1 := hcv (wr.setCell ⟨w.heap.size, xs.length, none⟩ (.int .u8 (x : Int))) (fun j hj => by
        rw [(HS.out (.int .u8 (x : Int))).cellAt j (by omega), HL2.out (x : Int) j (by simpa using hj)])
      have hsl := fun W => slice10 W w.heap.size xs.length (by omega)
      clear hcv
      go_wp2
      go_ret
      refine ⟨?_, hb2.out _⟩
      have he := HE.out
      rw [putF_last (by omega)] at he
      rw [← he]
      rfl
end Go.Proofs.YtfhihhkdbdidnaaDoor
namespace Go.Proofs.YtfhihhkdbdidnaaDoor
open Go.RowKit

/-- Numbers behind a byte 0. -/
def numsD (zs : List Int) : Nat → ByteArray
  | 0 => ⟨#[0]⟩
  | k + 1 => numsD zs k ++ putS (zs.getD k 0)
theorem numsD_le (zs : List Int) : ∀ k, (numsD zs k).size ≤ 1 + 10 * k
  | 0 => Nat.le_refl _
  | k + 1 => by
    have h1 := numsD_le zs k
    have h2 := putS_size (zs.getD k 0)
    show (numsD zs k ++ putS (zs.getD k 0)).size ≤ _
    rw [ByteArray.size_append]
    omega
set_option maxHeartbeats 1000000 in
set_option maxRecDepth 100000 in
theorem implNumbers (a : Option Addr) (zs : List Int) (c : Nat) (w : World) (hl : zs.length ≤ 3) (hz : ∀ i, i < zs.length → -9223372036854775808 ≤ zs.getD i 0 ∧ zs.getD i 0 ≤ 9223372036854775807) (ha : IsInts w a zs) :
    Calls Tryd.prog 34 #[.slice a zs.length c] w fun e w' => e = .returned (.string (thingD 3 (numsD zs zs.length))) ∧ Below w.heap.size w w' := by
  have HS : Hid (∀ i, i < zs.length → -9223372036854775808 ≤ zs.getD i 0 ∧ zs.getD i 0 ≤ 9223372036854775807) := hz
  clear hz
  go_enter Tryd.func34, Tryd.ntmps34
  go_wp2
  go_loopw [3, 8] (fun t i wr => ∃ k : Nat, k ≤ zs.length ∧ i = .int .i64 k ∧ t = .string (numsD zs k) ∧ Below w.heap.size w wr) (fun _ i _ => zs.length - (intOf i).toNat)
  case atStart => exact ⟨0, Nat.zero_le _, rfl, rfl, Below.refl _ _⟩
  case round =>
    obtain ⟨k, hk, rfl, rfl, hbr⟩ := hrel
    have HB : Hid (Below w.heap.size w wr) := hbr
    by_cases hlt : k < zs.length
    · obtain ⟨x, o, rfl, hc⟩ : ∃ x o, a = some ⟨x, o, none⟩ ∧ ∀ i, i < zs.length → wr.cell? ⟨x, o + i, none⟩ = some (.int .i64 (zs.getD i 0)) := by
        rcases ha.below hbr ha.lt with rfl | h
        · simp at hlt
        · exact h
      have hck := hc k hlt
      obtain ⟨hz0, hz1⟩ := HS.out k hlt
      have HP : Hid (∀ V, Calls Tryd.prog 49 #[.int .i64 (zs.getD k 0)] V fun e w' => e = .returned (.string (putS (zs.getD k 0))) ∧ Below V.heap.size V w') := fun V => implPut _ V hz0 hz1
      have z0 := numsD_le zs k
      have z1 := putS_size (zs.getD k 0)
      have HJ : Hid (∀ V, Calls Tryd.prog 48 #[.string (numsD zs k), .string (putS (zs.getD k 0))] V fun e w' => e = .returned (.string (numsD zs (k + 1))) ∧ Below V.heap.size V w') := fun V => joinTexts _ _ V (by omega) (by omega)
      have a0 : (0 : Int) ≤ (k : Int) := by omega
      have b0 : (k : Int) < (zs.length : Int) := by omega
      have HR : Hid (∃ j : Nat, j ≤ zs.length ∧ Value.int .i64 ((k : Int) + 1) = .int .i64 (j : Int) ∧ Value.string (numsD zs (k + 1)) = .string (numsD zs j)) := ⟨k + 1, by omega, by congr 1, rfl⟩
      generalize numsD zs (k + 1) = h1 at *
      generalize putS (zs.getD k 0) = h2 at *
      generalize zs.getD k 0 = z at *
      clear hc ha hbr HS z0 z1 hz0 hz1
      go_wp2_with fail
      refine (HP.out _).mono ?_
      rintro e w2 ⟨rfl, b2⟩
      have B2 : Hid (Below w.heap.size w w2) := HB.out.trans (b2.mono HB.out.size)
      clear b2
      go_wp2_with fail
      refine (HJ.out _).mono ?_
      rintro e w3 ⟨rfl, b3⟩
      have B3 : Hid (Below w.heap.size w w3) := B2.out.trans (b3.mono B2.out.size)
      clear b3
      go_wp2_with fail
      go_roundw
      case rel =>
        obtain ⟨j, j1, j2, j3⟩ := HR.out
        exact ⟨j, j1, by first | exact j2 | (rw [← j2]; simp; omega), j3, B3.out⟩
      case measure => simp [intOf]; omega
    · obtain rfl : k = zs.length := by omega
      have z0 := numsD_le zs zs.length
      have HP : Hid (∀ V, Calls Tryd.prog 50 #[.int .i64 3, .string (numsD zs zs.length)] V fun e w' => e = .returned (.string (thingD 3 (numsD zs zs.length))) ∧ Below V.heap.size V w') := fun V => by
        have := implDerPut 3 (numsD zs zs.length) V (by unfold maxLen; omega)
        rw [putD_right (by decide) (by omega)] at this
        exact this
      clear ha hbr HS
      go_wp2_with fail
      refine (HP.out _).mono ?_
      rintro e w2 ⟨rfl, b2⟩
      have B2 : Hid (Below w.heap.size w w2) := HB.out.trans (b2.mono HB.out.size)
      clear b2
      go_wp2
      go_ret
      exact ⟨rfl, B2.out⟩
end Go.Proofs.YtfhihhkdbdidnaaDoor
namespace Go.Proofs.YtfhihhkdbdidnaaDoor
open Go.RowKit Go.Lib

theorem sign_bits (n : Int) (h0 : -9223372036854775808 ≤ n) (h1 : n ≤ 9223372036854775807) : bits BinOp.xor IntKind.i64 n (n / 9223372036854775808) = (bareN n : Int) := by
  have hn : n / 9223372036854775808 = 0 ∨ n / 9223372036854775808 = -1 := by omega
  rcases hn with e | e
  · rw [e]
    have : bits BinOp.xor IntKind.i64 n 0 = IntKind.i64.wrap ((BitVec.ofInt 64 n ^^^ BitVec.ofInt 64 0).toNat : Nat) := rfl
    rw [this, show BitVec.ofInt 64 0 = 0#64 from by decide, BitVec.xor_zero, BitVec.toNat_ofInt, IntKind.wrap_i64]
    unfold bareN
    split <;> omega
  · rw [e]
    have : bits BinOp.xor IntKind.i64 n (-1) = IntKind.i64.wrap ((BitVec.ofInt 64 n ^^^ BitVec.ofInt 64 (-1)).toNat : Nat) := rfl
    rw [this, show BitVec.ofInt 64 (-1) = BitVec.allOnes 64 from by decide, BitVec.xor_allOnes, BitVec.toNat_not, BitVec.toNat_ofInt, IntKind.wrap_i64]
    unfold bareN
    split <;> omega
set_option maxHeartbeats 1000000 in
set_option maxRecDepth 100000 in
theorem bodyNumber (n : Int) (w : World) (h0 : -9223372036854775808 ≤ n) (h1 : n ≤ 9223372036854775807) :
    Calls Tryd.prog 97 #[.agg #[.int .i64 n]] w fun e w' => e = .returned (.string (strOfNums (intL n))) ∧ Below w.heap.size w w' := by
  obtain ⟨i0, hi, hz0, hz1, hz2⟩ := info_parts infoByte
  have hx := sign_bits n h0 h1
  have hbl := intL_bits h0 h1
  have hl8 := (intL_len n).2
  have hbn : bareN n < 9223372036854775808 := by unfold bareN; split <;> omega
  go_enter Tryd.func97, Tryd.ntmps97
  go_wp2_with fail
  refine (len64 _ _ (by omega) (by omega)).mono ?_
  rintro e w' ⟨rfl, rfl⟩
  rw [show ((bareN n : Int).toNat) = bareN n from rfl]
  obtain ⟨c, hc⟩ : ∃ c, c = (intL n).length := ⟨_, rfl⟩
  have hq : (Lib.bitLen (bareN n) : Int) / 8 + 1 = (c : Int) := by omega
  have hb64 : Lib.bitLen (bareN n) ≤ 64 := Lib.bitLen_le _ 64 (by omega) (by omega)
  have hc8 : c ≤ 8 := by omega
  have hc1 : 1 ≤ c := by omega
  have HA : Hid (∀ i, i < c → (intL n).getD (c - 1 - i) 0 = n / 256 ^ i % 256) := fun i hi => by rw [hc]; exact intL_at (by omega)
  have HC : Hid (c = (intL n).length) := hc
  generalize Lib.bitLen (bareN n) = L at *
  clear hbl hx hbn hl8 hc
  go_wp2_with (at_make; refine wpList_make_full _ rfl _ _ 59 rfl (w.heap.size + 1) 5 i0 (.int .u8 0) 1 Tryd.underlying59 hi hz0 hz1 .i64 .i64 _ _ c rfl rfl ?c1 ?c2 ?c3 ?c4 ?c5 ?_)
  case c1 => omega
  case c2 => omega
  case c3 => rw [hz2]; omega
  case c4 => unfold maxLen; omega
  case c5 => simp
  intro w1 hown hgrow
  have hlw : (w.alloc (Obj.cells #[.int .i64 n] 71)).heap.size = w.heap.size + 1 := by simp
  have hb1 : Below (w.heap.size + 1) (w.alloc (Obj.cells #[.int .i64 n] 71)) w1 := (Below.refl _ _).grown hgrow (by rw [hlw]; exact Nat.le_refl _) (fun k hk => by cases hk)
  have hB1 : Below w.heap.size w w1 := ((Below.refl _ w).alloc (Nat.le_refl _) _).trans (hb1.mono (Nat.le_succ _))
  have ht : w1.cell? ⟨w.heap.size, 0, none⟩ = some (.int .i64 n) := (hb1.cell (by simp)).trans (by simp)
  obtain ⟨hrow, hlen⟩ := rowOf hown rfl
  generalize (madeCells #[Value.int IntKind.u8 0] c).toList = M0 at hrow hlen
  clear hgrow hlw hb1 hown
  go_wp2_with fail
  go_loopw [19] (fun i wr => ∃ (k : Nat) (M : List Value), k ≤ c ∧ i = .int .i64 (k : Int) ∧ M.length = c ∧ wr.heap[w.heap.size + 1]? = some (.cells M.toArray 5 (0, 0)) ∧ wr.cell? ⟨w.heap.size, 0, none⟩ = some (.int .i64 n) ∧
      (∀ j, j < c → c - k ≤ j → M[j]? = some (.int .u8 ((intL n).getD j 0))) ∧ Below w.heap.size w wr)
    (fun i _ => c - (Lib.intOf i).toNat)
  case atStart => exact ⟨0, M0, Nat.zero_le _, rfl, hlen, hrow, ht, fun j h1 h2 => by omega, hB1⟩
  case round =>
    obtain ⟨k, M, hk, rfl, hM, hr, htw, hat, hbel⟩ := hrel
    have HAt : Hid (∀ j, j < c → c - k ≤ j → M[j]? = some (.int .u8 ((intL n).getD j 0))) := hat
    have HR : Hid (wr.heap[w.heap.size + 1]? = some (.cells M.toArray 5 (0, 0))) := hr
    clear hat hrow hlen hB1 ht
    by_cases hlt : k < c
    · obtain ⟨j, hj⟩ : ∃ j, j = c - 1 - k := ⟨_, rfl⟩
      have hjc : j < c := by omega
      have e1 : (c : Int) - 1 - (k : Int) = (j : Int) := by omega
      have hv : wr.cell? ⟨w.heap.size + 1, j, none⟩ = some (M[j]'(by omega)) := rowFacts hr j _ (List.getElem?_eq_getElem (by omega))
      generalize M[j]'(by omega) = v0 at hv
      have hf : wr.frozen? ⟨w.heap.size + 1, j, none⟩ = false := frozen_of_row wr _ j _ _ hr
      have HJ : Hid (j = c - 1 - k) := hj
      clear hj hr
      have HC2 : Hid (∀ v, (wr.setCell ⟨w.heap.size + 1, j, none⟩ v).cell? ⟨w.heap.size, 0, none⟩ = some (.int .i64 n)) := fun v => by
        rw [((Below.refl (w.heap.size + 1) wr).setCell (Nat.le_refl _) v).cell (p := ⟨w.heap.size, 0, none⟩) (by simp)]; exact htw
      have HB2 : Hid (∀ v, Below w.heap.size w (wr.setCell ⟨w.heap.size + 1, j, none⟩ v)) := fun v => hbel.setCell (by simp) v
      clear hbel
      go_wp2
      go_roundw
      case rel =>
        have hj := HJ.out
        refine ⟨k + 1, M.set j (.int .u8 (n / 2 ^ (8 * k) % 256)), by omega, by go_num, by simpa using hM, rowSet _ HR.out, HC2.out _, ?_, HB2.out _⟩
        intro i hi1 hi2
        by_cases ei : i = j
        · subst ei
          rw [List.getElem?_set_self (by omega)]
          have ha := HA.out k hlt
          rw [← hj] at ha
          rw [ha, show (256 : Int) ^ k = 2 ^ (8 * k) from by rw [Int.pow_mul]; rfl]
        · rw [List.getElem?_set_ne (by omega)]
          exact HAt.out i hi1 (by omega)
      case measure => simp [Lib.intOf]; omega
    · obtain rfl : k = c := by omega
      have hcv : (convert 59 9 (.slice (some ⟨w.heap.size + 1, 0, none⟩) k k)).run Tryd.prog wr = .ok (.string (strOfNums (intL n))) wr := by
        have hc := HC.out
        refine convertRow wr _ (intL n) 5 k k hc.symm ?_
        rw [hr]
        congr 3
        apply List.ext_getElem?
        intro j
        rcases Nat.lt_or_ge j k with hj | hj
        · rw [HAt.out j hj (by omega)]
          simp [List.getD, List.getElem?_eq_getElem (show j < (intL n).length by omega)]
        · rw [List.getElem?_eq_none (by omega), List.getElem?_eq_none (by simp; omega)]
      clear hr HR HAt
      go_wp2
      go_ret
      exact ⟨rfl, hbel⟩
end Go.Proofs.YtfhihhkdbdidnaaDoor
namespace Go.Proofs.YtfhihhkdbdidnaaDoor
open Go.RowKit Go.Lib

theorem tagNumber (n : Int) (w : World) :
    Calls Tryd.prog 63 #[.iface 71 (.agg #[.int .i64 n])] w fun e w' => e = .returned (.int .i64 2) ∧ Below w.heap.size w w' := by
  have x0 := as10
  go_enter Tryd.func63, Tryd.ntmps63
  go_wp2
  go_ret
  exact ⟨rfl, (Below.refl _ _).alloc (Nat.le_refl _) _⟩
theorem methodNumber (v : Value) (w : World) : (Go.method 217 71 v "loop.example/g00371/impl.body").run Tryd.prog w = .ok (97, v) w := by kernel_rfl
set_option maxHeartbeats 1000000 in
set_option maxRecDepth 100000 in
theorem layNumber (n : Int) (b : ByteArray) (w : World) (h0 : -9223372036854775808 ≤ n) (h1 : n ≤ 9223372036854775807) (heq : b = strOfNums (intL n)) :
    Calls Tryd.prog 56 #[.iface 71 (.agg #[.int .i64 n])] w fun e w' => e = .returned (.string (thingD 2 b)) ∧ Below w.heap.size w w' := by
  have hb : b.size ≤ 4000 := by have := (intL_len n).2; rw [heq, strOfNums_size]; omega
  have hmt := methodNumber
  have ew : IntKind.u8.wrap 2 = 2 := by rw [IntKind.wrap_u8]; rfl
  go_enter Tryd.func56, Tryd.ntmps56
  go_wp2_with fail
  refine (bodyNumber n _ h0 h1).mono ?_
  rintro e w1 ⟨rfl, hb1⟩
  rw [← heq]
  clear heq h0 h1
  have s1 := hb1.size
  have HT1 : Hid (∀ V : World, Hid (Below w.heap.size w V) → Calls Tryd.prog 63 #[.iface 71 (.agg #[.int .i64 n])] V fun e W => e = .returned (.int .i64 2) ∧ Hid (Below w.heap.size w W)) := fun V hV => by
    refine (tagNumber n V).mono ?_
    rintro e W ⟨rfl, hW⟩
    exact ⟨rfl, hV.out.trans (hW.mono hV.out.size)⟩
  have HT2 : Hid (∀ V : World, Hid (Below w.heap.size w V) → Calls Tryd.prog 64 #[.int .i64 (b.size : Int)] V fun e W => e = .returned (.string (strOfNums (lenD b.size))) ∧ Hid (Below w.heap.size w W) ∧ Hid (∀ k o, V.heap[k]? = some o → W.heap[k]? = some o)) := fun V hV => by
    refine (putLength b.size V hb).mono ?_
    rintro e W ⟨rfl, hW⟩
    refine ⟨rfl, hV.out.trans (hW.mono hV.out.size), fun k o hk => ?_⟩
    rw [hW.block k (heap_lt hk)]; exact hk
  have HF : Hid (∀ s l, s = strOfNums [2] → l = strOfNums (lenD b.size) → s ++ l ++ b = thingD 2 b) := fun s l hs hl => by
    subst hs hl
    unfold thingD headD
    congr 1
  have hl1 : (strOfNums [2]).size = 1 := rfl
  have hl2 : (strOfNums (lenD b.size)).size ≤ 3 := by rw [strOfNums_size]; exact lenD_le _
  have hcv := fun V => convertLit V #[.int .u8 2] [2] rfl 1 rfl 5
  have HE := HF.out _ _ rfl rfl
  have HCR := fun W2 k h => convertRow W2 k [2] 5 1 1 rfl h
  generalize strOfNums [2] = s at *
  generalize strOfNums (lenD b.size) = l at *
  have HE : Hid (s ++ l ++ b = thingD 2 b) := HE
  have HCR : Hid (∀ (W2 : World) (k : Nat), W2.heap[k]? = some (.cells ([2].map (Value.int .u8)).toArray 5 (0, 0)) → (convert 59 9 (.slice (some ⟨k, 0, none⟩) 1 1)).run Tryd.prog W2 = .ok (.string s) W2) := HCR
  have HJ : Hid (∀ (V : World) (x y : ByteArray), Hid (Below w.heap.size w V) → x.size ≤ 4 → y.size ≤ 4000 → Calls Tryd.prog 48 #[.string x, .string y] V fun e W => e = .returned (.string (x ++ y)) ∧ Hid (Below w.heap.size w W)) := fun V x y hV hx hy => by
    refine (joinTexts x y V (by omega) (by omega)).mono ?_
    rintro e W ⟨rfl, hW⟩
    exact ⟨rfl, hV.out.trans (hW.mono hV.out.size)⟩
  have B1 : Hid (Below w.heap.size w w1) := hb1
  have HA : Hid (∀ V o, Hid (Below w.heap.size w V) → Hid (Below w.heap.size w (V.alloc o))) := fun V o h => h.out.alloc h.out.size o
  clear hb1 hmt HF
  go_wp2_with fail
  have D1 : Hid (Below w.heap.size w w1.drew) := B1.out.drew
  go_region_with (first
    | (go_at_call 63; refine (HT1.out _ (by first | assumption | exact HA.out _ _ (by assumption))).mono ?_; rintro r W1 ⟨rfl, k1⟩)
    | (go_at_call 64; refine (HT2.out _ (by first | assumption | exact HA.out _ _ (by assumption))).mono ?_; rintro r W2 ⟨rfl, k2, e2⟩; (first | have hcv2 := HCR.out W2 _ (e2.out _ _ (heap_alloc_new _ _)) | skip))
    | (go_at_call 48; refine (HJ.out _ _ _ (by first | assumption | exact HA.out _ _ (by assumption)) (by omega) (by omega)).mono ?_; rintro r W3 ⟨rfl, k3⟩))
  all_goals
    have hl3 : (s ++ l).size ≤ 4 := by rw [ByteArray.size_append]; omega
    have HQ := HJ.out W3 (s ++ l) b k3 hl3 hb
    rw [HE.out] at HQ
    generalize s ++ l = q at *
    have HQ : Hid (Calls Tryd.prog 48 #[.string q, .string b] W3 fun e W => e = .returned (.string (thingD 2 b)) ∧ Hid (Below w.heap.size w W)) := HQ
    clear HT1 HT2 HJ HCR HE hcv
    go_wp2_with fail
    refine HQ.out.mono ?_
    rintro r W4 ⟨rfl, k4⟩
    go_wp2
    go_ret
    exact ⟨rfl, k4.out⟩

theorem implDerInt (n : Int) (w : World) (h0 : -9223372036854775808 ≤ n) (h1 : n ≤ 9223372036854775807) :
    Calls Tryd.prog 43 #[.int .i64 n] w fun e w' => e = .returned (.string (thingD 2 (strOfNums (intL n)))) ∧ Below w.heap.size w w' := by
  have HB : Hid (∀ v : World, Calls Tryd.prog 56 #[.iface 71 (.agg #[.int .i64 n])] v fun e w' => e = .returned (.string (thingD 2 (strOfNums (intL n)))) ∧ Below v.heap.size v w') := fun v => layNumber n _ v h0 h1 rfl
  generalize thingD 2 (strOfNums (intL n)) = s at *
  go_enter Tryd.func43, Tryd.ntmps43
  go_wp2_with fail
  refine (HB.out _).mono ?_
  rintro e w1 ⟨rfl, hb1⟩
  go_wp2
  go_ret
  exact ⟨rfl, hb1⟩
end Go.Proofs.YtfhihhkdbdidnaaDoor
