/- strings.Join without a separator, in own words; impl.putParts, putSeq, putName, walked. impl.PutNum, walked. impl.putNumbers, walked. -/
import Derived.Test.YtkhdjmjbdpmdnaaGreatDoorCT03
import Derived.Test.YtkhdjmjbdpmdnaaGreatDoorCT01
import Derived.Test.YtkhdjmjbdpmdnaaGreatDoorCT13
import Derived.Test.YtkhdjmjbdpmdnaaGreatDoorCT07
import Derived.Test.YtkhdjmjbdpmdnaaGreatDoorCT05
import Derived.Deep.Cut
import Derived.Deep.RegionHeld3
namespace Go.Proofs.YtkhdjmjbdpmdnaaGreatDoor
open Go.RowKit

/-- Texts, one behind the other. -/
def catS : List ByteArray → ByteArray
  | [] => ⟨#[]⟩
  | x :: r => x ++ catS r
theorem catS_list : ∀ xs : List ByteArray, (catS xs).data.toList = (xs.map (·.data.toList)).flatten
  | [] => rfl
  | x :: r => by rw [catS, ByteArray.data_append, Array.toList_append, catS_list r]; rfl
theorem join_cat (xs : List ByteArray) : Lib.join (xs.map (·.data.toList)) ([] : List UInt8) = (catS xs).data.toList := by
  rw [catS_list]
  cases xs with
  | nil => rfl
  | cons x r =>
    rw [List.map_cons, Lib.join_cons, Lib.joinTail, List.flatten_cons]
    simp
    rfl
theorem joinAll (g c : Nat) (xs : List ByteArray) (w : World) (hg : w.heap[g]? = some (.cells (sCells xs).toArray 9 (0, 0))) (hs : (catS xs).size ≤ 100000) (hl : xs.length ≤ 100000) (hc : xs.length ≤ c) :
    Calls Tryz.prog 137 #[.slice (some ⟨g, 0, none⟩) xs.length c, .string ⟨#[]⟩] w fun e w' => e = .returned (.string (catS xs)) ∧ Below w.heap.size w w' := by
  have h := Any.strings_Join joinLays joinExtra g 0 c xs ⟨#[]⟩ w (fun j x hx => by
    rw [Nat.zero_add, cell_of_row w g j _ _ (0, 0) hg]
    simp [sCells, hx]) (heap_lt hg) (by omega) hc (by
    show (Lib.join (xs.map (·.data.toList)) ([] : List UInt8)).length ≤ _
    rw [join_cat, ← Lib.size_eq]
    omega)
  refine h.mono ?_
  rintro e w' ⟨rfl, hb⟩
  refine ⟨?_, hb⟩
  have e1 : (⟨(Lib.join (xs.map (·.data.toList)) (⟨#[]⟩ : ByteArray).data.toList).toArray⟩ : ByteArray) = catS xs := by
    show (⟨(Lib.join (xs.map (·.data.toList)) ([] : List UInt8)).toArray⟩ : ByteArray) = catS xs
    rw [join_cat]
  rw [e1]
theorem implParts (t : Int) (g c : Nat) (xs : List ByteArray) (w : World) (ht : tagB t = true) (hg : w.heap[g]? = some (.cells (sCells xs).toArray 9 (0, 0))) (hs : (catS xs).size ≤ 4000) (hl : xs.length ≤ 100) (hc : xs.length ≤ c) :
    Calls Tryz.prog 61 #[.int .i64 t, .slice (some ⟨g, 0, none⟩) xs.length c] w fun e w' => e = .returned (.string (thingD t (catS xs))) ∧ Below w.heap.size w w' := by
  have HJ : Hid (Calls Tryz.prog 137 #[.slice (some ⟨g, 0, none⟩) xs.length c, .string ⟨#[]⟩] w fun e w' => e = .returned (.string (catS xs)) ∧ Below w.heap.size w w') := joinAll g c xs w hg (by omega) (by omega) hc
  have HP : Hid (∀ V : World, Calls Tryz.prog 124 #[.int .i64 t, .string (catS xs)] V fun e w' => e = .returned (.string (thingD t (catS xs))) ∧ Below V.heap.size V w') := fun V => by
    have := implDerPut t (catS xs) V (by unfold maxLen; omega)
    rw [putD_right ht hs] at this
    exact this
  clear hg hs hl hc
  generalize thingD t (catS xs) = q at *
  generalize catS xs = x at *
  generalize xs.length = n at *
  go_enter Tryz.func61, Tryz.ntmps61
  go_wp2_with fail
  refine HJ.out.mono ?_
  rintro e w2 ⟨rfl, b2⟩
  have B2 : Hid (Below w.heap.size w w2) := b2
  clear b2
  go_wp2_with fail
  refine (HP.out _).mono ?_
  rintro e w3 ⟨rfl, b3⟩
  have B3 : Hid (Below w.heap.size w w3) := B2.out.trans (b3.mono B2.out.size)
  clear b3
  go_wp2
  go_ret
  exact ⟨rfl, B3.out⟩
theorem implSeq (g c : Nat) (xs : List ByteArray) (w : World) (hg : w.heap[g]? = some (.cells (sCells xs).toArray 9 (0, 0))) (hs : (catS xs).size ≤ 4000) (hl : xs.length ≤ 100) (hc : xs.length ≤ c) :
    Calls Tryz.prog 50 #[.slice (some ⟨g, 0, none⟩) xs.length c] w fun e w' => e = .returned (.string (seqD (catS xs))) ∧ Below w.heap.size w w' := by
  have HP : Hid (Calls Tryz.prog 61 #[.int .i64 48, .slice (some ⟨g, 0, none⟩) xs.length c] w fun e w' => e = .returned (.string (seqD (catS xs))) ∧ Below w.heap.size w w') := implParts 48 g c xs w (by decide) hg hs hl hc
  clear hg hs hl hc
  generalize seqD (catS xs) = q at *
  generalize xs.length = n at *
  go_enter Tryz.func50, Tryz.ntmps50
  go_wp2_with fail
  refine HP.out.mono ?_
  rintro e w2 ⟨rfl, b2⟩
  have B2 : Hid (Below w.heap.size w w2) := b2
  clear b2
  go_wp2
  go_ret
  exact ⟨rfl, B2.out⟩
/-- Arcs that lie in a row of their own. -/
theorem implOid4 (x y z u : Int) (g : Nat) (w : World) (h : arcsB [x, y, z, u] = true) (hg : w.heap[g]? = some (.cells #[.int .i64 x, .int .i64 y, .int .i64 z, .int .i64 u] 2 (0, 0))) :
    Calls Tryz.prog 121 #[.slice (some ⟨g, 0, none⟩) 4 4] w fun e w' => e = .returned (.string (oidT [x, y, z, u])) ∧ Below w.heap.size w w' := by
  have k := implDerOid (some ⟨g, 0, none⟩) [x, y, z, u] 4 w (by simp) (Nat.le_refl _) (IsInts.row (rest := []) hg)
  unfold oidD at k
  rw [if_pos h] at k
  exact k
theorem one_cat (x : ByteArray) : catS [x] = x := by show x ++ (⟨#[]⟩ : ByteArray) = x; exact ByteArray.append_empty
theorem two_cat (x y : ByteArray) : catS [x, y] = x ++ y := by show x ++ (y ++ (⟨#[]⟩ : ByteArray)) = x ++ y; rw [show y ++ (⟨#[]⟩ : ByteArray) = y from ByteArray.append_empty]
theorem three_cat (x y z : ByteArray) : catS [x, y, z] = x ++ (y ++ z) := by show x ++ catS [y, z] = _; rw [two_cat]
/-- One text in a row of its own, as a thing of it. -/
theorem implSeq1 (x : ByteArray) (g : Nat) (w : World) (hx : x.size ≤ 4000) (hg : w.heap[g]? = some (.cells #[.string x] 9 (0, 0))) :
    Calls Tryz.prog 50 #[.slice (some ⟨g, 0, none⟩) 1 1] w fun e w' => e = .returned (.string (seqD x)) ∧ Below w.heap.size w w' := by
  have h := implSeq g 1 [x] w hg (by rw [one_cat]; exact hx) (by simp) (Nat.le_refl _)
  rw [one_cat] at h
  exact h
theorem implParts1 (t : Int) (x : ByteArray) (g : Nat) (w : World) (ht : tagB t = true) (hx : x.size ≤ 4000) (hg : w.heap[g]? = some (.cells #[.string x] 9 (0, 0))) :
    Calls Tryz.prog 61 #[.int .i64 t, .slice (some ⟨g, 0, none⟩) 1 1] w fun e w' => e = .returned (.string (thingD t x)) ∧ Below w.heap.size w w' := by
  have h := implParts t g 1 [x] w ht hg (by rw [one_cat]; exact hx) (by simp) (Nat.le_refl _)
  rw [one_cat] at h
  exact h
theorem implSeq2 (x y : ByteArray) (g : Nat) (w : World) (hx : x.size + y.size ≤ 4000) (hg : w.heap[g]? = some (.cells #[.string x, .string y] 9 (0, 0))) :
    Calls Tryz.prog 50 #[.slice (some ⟨g, 0, none⟩) 2 2] w fun e w' => e = .returned (.string (seqD (x ++ y))) ∧ Below w.heap.size w w' := by
  have h := implSeq g 2 [x, y] w hg (by rw [two_cat, ByteArray.size_append]; exact hx) (by simp) (Nat.le_refl _)
  rw [two_cat] at h
  exact h
theorem implSeq3 (x y z : ByteArray) (g : Nat) (w : World) (hx : x.size + (y.size + z.size) ≤ 4000) (hg : w.heap[g]? = some (.cells #[.string x, .string y, .string z] 9 (0, 0))) :
    Calls Tryz.prog 50 #[.slice (some ⟨g, 0, none⟩) 3 3] w fun e w' => e = .returned (.string (seqD (x ++ (y ++ z)))) ∧ Below w.heap.size w w' := by
  have h := implSeq g 3 [x, y, z] w hg (by rw [three_cat, ByteArray.size_append, ByteArray.size_append]; exact hx) (by simp) (Nat.le_refl _)
  rw [three_cat] at h
  exact h
set_option maxHeartbeats 1000000 in
theorem implNameD (t : ByteArray) (w : World) (ht : t.size ≤ 40) :
    Calls Tryz.prog 63 #[.string t] w fun e w' => e = .returned (.string (nameD t)) ∧ Below w.heap.size w w' := by
  have h1 := arcs_lit arcsName
  have h2 := thingD_le 12 t
  have h3 := seqD_le (oidT [2, 5, 4, 3] ++ thingD 12 t)
  have h4 := thingD_le 49 (seqD (oidT [2, 5, 4, 3] ++ thingD 12 t))
  rw [ByteArray.size_append] at h3
  have H1 : Hid (∀ V (g : Nat), V.heap[g]? = some (.cells #[.int .i64 2, .int .i64 5, .int .i64 4, .int .i64 3] 2 (0, 0)) → Calls Tryz.prog 121 #[.slice (some ⟨g, 0, none⟩) 4 4] V fun e w' => e = .returned (.string (oidT [2, 5, 4, 3])) ∧ Below V.heap.size V w') := fun V g hg => implOid4 2 5 4 3 g V arcsName hg
  have H2 : Hid (∀ V, Calls Tryz.prog 124 #[.int .i64 12, .string t] V fun e w' => e = .returned (.string (thingD 12 t)) ∧ Below V.heap.size V w') := fun V => by
    have := implDerPut 12 t V (by unfold maxLen; omega)
    rw [putD_right (by decide) (by omega)] at this
    exact this
  have H3 : Hid (∀ V (g : Nat), V.heap[g]? = some (.cells #[.string (oidT [2, 5, 4, 3]), .string (thingD 12 t)] 9 (0, 0)) → Calls Tryz.prog 50 #[.slice (some ⟨g, 0, none⟩) 2 2] V fun e w' => e = .returned (.string (seqD (oidT [2, 5, 4, 3] ++ thingD 12 t))) ∧ Below V.heap.size V w') := fun V g hg => implSeq2 _ _ g V (by omega) hg
  have H4 : Hid (∀ V (g : Nat), V.heap[g]? = some (.cells #[.string (seqD (oidT [2, 5, 4, 3] ++ thingD 12 t))] 9 (0, 0)) → Calls Tryz.prog 61 #[.int .i64 49, .slice (some ⟨g, 0, none⟩) 1 1] V fun e w' => e = .returned (.string (thingD 49 (seqD (oidT [2, 5, 4, 3] ++ thingD 12 t)))) ∧ Below V.heap.size V w') := fun V g hg => implParts1 49 _ g V (by decide) (by omega) hg
  have H5 : Hid (∀ V (g : Nat), V.heap[g]? = some (.cells #[.string (thingD 49 (seqD (oidT [2, 5, 4, 3] ++ thingD 12 t)))] 9 (0, 0)) → Calls Tryz.prog 50 #[.slice (some ⟨g, 0, none⟩) 1 1] V fun e w' => e = .returned (.string (nameD t)) ∧ Below V.heap.size V w') := fun V g hg => implSeq1 _ g V (by omega) hg
  clear h1 h2 h3 h4
  generalize nameD t = n at *
  generalize thingD 49 (seqD (oidT [2, 5, 4, 3] ++ thingD 12 t)) = q4 at *
  generalize seqD (oidT [2, 5, 4, 3] ++ thingD 12 t) = q3 at *
  generalize oidT [2, 5, 4, 3] = q1 at *
  generalize thingD 12 t = q2 at *
  have AL : Hid (∀ V o, Hid (Below w.heap.size w V) → Hid (Below w.heap.size w (V.alloc o))) := fun V o h => h.out.alloc h.out.size o
  have I0 : Hid (Below w.heap.size w w) := Below.refl _ _
  have TR : Hid (∀ V W, Hid (Below w.heap.size w V) → Below V.heap.size V W → Hid (Below w.heap.size w W)) := fun V W h k => h.out.trans (k.mono h.out.size)
  go_enter Tryz.func63, Tryz.ntmps63
  go_wp2_with fail
  refine (H1.out _ _ (heap_alloc_new w _)).mono ?_
  rintro e w2 ⟨rfl, b2⟩
  have B2 := TR.out _ _ (AL.out _ _ I0) b2
  clear b2
  go_wp2_with fail
  refine (H2.out _).mono ?_
  rintro e w3 ⟨rfl, b3⟩
  have B3 := TR.out _ _ B2 b3
  clear b3
  go_wp2_with fail
  refine (H3.out _ _ (heap_alloc_new w3 _)).mono ?_
  rintro e w4 ⟨rfl, b4⟩
  have B4 := TR.out _ _ (AL.out _ _ B3) b4
  clear b4
  go_wp2_with fail
  refine (H4.out _ _ (heap_alloc_new w4 _)).mono ?_
  rintro e w5 ⟨rfl, b5⟩
  have B5 := TR.out _ _ (AL.out _ _ B4) b5
  clear b5
  go_wp2_with fail
  refine (H5.out _ _ (heap_alloc_new w5 _)).mono ?_
  rintro e w6 ⟨rfl, b6⟩
  have B6 := TR.out _ _ (AL.out _ _ B5) b6
  clear b6
  go_wp2
  go_ret
  exact ⟨rfl, B6.out⟩
end Go.Proofs.YtkhdjmjbdpmdnaaGreatDoor
namespace Go.Proofs.YtkhdjmjbdpmdnaaGreatDoor
open Go.RowKit

theorem implFold (n : Int) (w : World) (h0 : -9223372036854775808 ≤ n) (h1 : n ≤ 9223372036854775807) :
    Calls Tryz.prog 170 #[.int .i64 n] w fun e w' => e = .returned (.int .u64 (foldI n : Int)) ∧ w' = w := by
  by_cases hn : n < 0
  · go_enter Tryz.func170, Tryz.ntmps170
    go_wp2
    go_ret
    exact ⟨ret_int (fold_bits_neg n h0 hn), rfl⟩
  · go_enter Tryz.func170, Tryz.ntmps170
    go_wp2
    go_ret
    exact ⟨ret_int (fold_bits_pos n h1 (by omega)), rfl⟩

theorem arr10 : Tryz.prog.arrayLen 163 = 10 := by kernel_rfl
theorem size_elem10 (w : World) : (sizeOf (Tryz.prog.elem 163)).run Tryz.prog w = .ok 1 w := by kernel_rfl
theorem under10 : Tryz.prog.underlying 163 = some (.array (Tryz.prog.arrayLen 163) (Tryz.prog.elem 163)) := by kernel_rfl
theorem slice10 (w : World) (b k : Nat) (hk : k < 10) :
    (Instr.sliceAt 163 (.pointer (some ⟨b, 0, none⟩)) none (some (.int .i64 ((k : Int) + 1))) none).run Tryz.prog w = .ok (.slice (some ⟨b, 0, none⟩) (k + 1) 10) w := by
  rw [run_sliceAt_array_h w _ _ under10 .i64 _ (by omega) (by rw [arr10]; omega), size_elem10]
  simp only [Result.andThen_ok, slicedAt, arr10]
  simp [Addr.add]

set_option maxHeartbeats 1000000 in
set_option maxRecDepth 100000 in
theorem implPut (n : Int) (w : World) (h0 : -9223372036854775808 ≤ n) (h1 : n ≤ 9223372036854775807) :
    Calls Tryz.prog 123 #[.int .i64 n] w fun e w' => e = .returned (.string (strOfNums (putF 9 (foldI n)))) ∧ Below w.heap.size w w' := by
  have hf : (foldI n : Int) ≤ 18446744073709551615 := by unfold foldI; split <;> omega
  obtain ⟨u, hu⟩ : ∃ u, u = foldI n := ⟨_, rfl⟩
  rw [← hu] at hf ⊢
  have HU : Hid (u = foldI n) := hu
  clear hu
  go_enter Tryz.func123, Tryz.ntmps123
  go_wp2_with fail
  refine (implFold n _ h0 h1).mono ?_
  rintro e w' ⟨rfl, rfl⟩
  rw [← HU.out]
  go_wp2_with fail
  go_loopw [4, 5] (fun s a wr => ∃ (x f : Nat) (xs : List Int) (L : List Value), (x : Int) ≤ 18446744073709551615 ∧ x < pw f ∧ xs.length + f ≤ 9 ∧ s = .int .i64 xs.length ∧ a = .int .u64 x ∧
      wr.ownsRow w.heap.size 163 1 (.slice (some ⟨w.heap.size, 0, none⟩) 10 10) 10 L ∧ (∀ j, j < xs.length → L[j]? = some (.int .u8 (xs.getD j 0))) ∧ Below w.heap.size w wr ∧ xs ++ putF f x = putF 9 u)
    (fun _ a _ => (intOf a).toNat)
  case atStart =>
    exact ⟨u, 9, [], _, hf, by rw [pw9]; omega, by simp, rfl, rfl, World.ownsRow_lit _ _ 10 (Nat.le_refl _) (by decide) rfl, by simp, (Below.refl _ _).alloc (Nat.le_refl _) _, by simp⟩
  case round =>
    obtain ⟨x, f, xs, L, hx, hpw, hlen, rfl, rfl, hown, hL, hbel, heq⟩ := hrel
    have HE : Hid (xs ++ putF f x = putF 9 u) := heq
    have HP : Hid (x < pw f) := hpw
    have HL : Hid (∀ j, j < xs.length → L[j]? = some (.int .u8 (xs.getD j 0))) := hL
    have hlL : L.length = 10 := by simpa using hown.1
    have hc := hown.cellAt xs.length (by omega)
    rw [List.getElem?_eq_getElem (by omega)] at hc
    obtain ⟨v0, hv0⟩ : ∃ v, wr.cell? ⟨w.heap.size, xs.length, none⟩ = some v := ⟨_, hc⟩
    have hfz := hown.frozenAt xs.length
    have hor := or128 x
    clear heq hpw hL hf h0 h1 hc hlL
    have hst := fun v => hown.stored xs.length v
    have HS : Hid (∀ v, (wr.setCell ⟨w.heap.size, xs.length, none⟩ v).ownsRow w.heap.size 163 1 (.slice (some ⟨w.heap.size, 0, none⟩) 10 10) 10 (L.set xs.length v)) := fun v => (hst v).1
    have hb2 : Hid (∀ v, Below w.heap.size w (wr.setCell ⟨w.heap.size, xs.length, none⟩ v)) := fun v => hbel.setCell (Nat.le_refl _) v
    have HL2 : Hid (∀ y : Int, ∀ j, j < (xs ++ [y]).length → (L.set xs.length (.int .u8 y))[j]? = some (.int .u8 ((xs ++ [y]).getD j 0))) := fun y => set_reads (by have := hown.1; omega) HL.out
    clear hst hown hbel HL
    by_cases hlt : 128 ≤ x
    · go_wp2
      go_roundw
      case rel =>
        obtain ⟨g, rfl, hg⟩ := pw_step HP.out hlt
        have he := HE.out
        rw [putF_more hlt] at he
        refine ⟨x / 128, g, xs ++ [(x : Int) % 128 + 128], _, by omega, hg, by simp; omega, by simp, by go_num, HS.out _, HL2.out _, hb2.out _, ?_⟩
        rw [List.append_assoc, ← he]
        simp
      case measure => simp [intOf]; omega
    · have hcv : ∀ W : World, (∀ j, j < xs.length + 1 → W.cell? ⟨w.heap.size, j, none⟩ = some (.int .u8 ((xs ++ [(x : Int)]).getD j 0))) →
          (convert 22 9 (.slice (some ⟨w.heap.size, 0, none⟩) (xs.length + 1) 10)).run Tryz.prog W = .ok (.string (strOfNums (xs ++ [(x : Int)]))) W := fun W hW =>
        run_convert_bytes_arg W 22 5 Tryz.underlying22 Tryz.underlying5 w.heap.size 0 (xs.length + 1) 10 (xs ++ [(x : Int)]) (by simp) (fun j hj => by rw [Nat.zero_add]; exact hW j hj) 9 Tryz.underlying9
      have hcv1 := hcv (wr.setCell ⟨w.heap.size, xs.length, none⟩ (.int .u8 (x : Int))) (fun j hj => by
        rw [(HS.out (.int .u8 (x : Int))).cellAt j (by omega), HL2.out (x : Int) j (by simpa using hj)])
      have hsl := fun W => slice10 W w.heap.size xs.length (by omega)
      clear hcv
      go_wp2
      go_ret
      refine ⟨?_, hb2.out _⟩
      have he := HE.out
      rw [putF_last (by omega)] at he
      rw [← he]
      rfl
end Go.Proofs.YtkhdjmjbdpmdnaaGreatDoor
namespace Go.Proofs.YtkhdjmjbdpmdnaaGreatDoor
open Go.RowKit

/-- Numbers behind a byte 0. -/
def numsD (zs : List Int) : Nat → ByteArray
  | 0 => ⟨#[0]⟩
  | k + 1 => numsD zs k ++ putS (zs.getD k 0)
theorem numsD_le (zs : List Int) : ∀ k, (numsD zs k).size ≤ 1 + 10 * k
  | 0 => Nat.le_refl _
  | k + 1 => by
    have h1 := numsD_le zs k
    have h2 := putS_size (zs.getD k 0)
    show (numsD zs k ++ putS (zs.getD k 0)).size ≤ _
    rw [ByteArray.size_append]
    omega
set_option maxHeartbeats 1000000 in
set_option maxRecDepth 100000 in
theorem implNumbers (a : Option Addr) (zs : List Int) (c : Nat) (w : World) (hl : zs.length ≤ 3) (hz : ∀ i, i < zs.length → -9223372036854775808 ≤ zs.getD i 0 ∧ zs.getD i 0 ≤ 9223372036854775807) (ha : IsInts w a zs) :
    Calls Tryz.prog 52 #[.slice a zs.length c] w fun e w' => e = .returned (.string (thingD 3 (numsD zs zs.length))) ∧ Below w.heap.size w w' := by
  have HS : Hid (∀ i, i < zs.length → -9223372036854775808 ≤ zs.getD i 0 ∧ zs.getD i 0 ≤ 9223372036854775807) := hz
  clear hz
  go_enter Tryz.func52, Tryz.ntmps52
  go_wp2
  go_loopw [3, 8] (fun t i wr => ∃ k : Nat, k ≤ zs.length ∧ i = .int .i64 k ∧ t = .string (numsD zs k) ∧ Below w.heap.size w wr) (fun _ i _ => zs.length - (intOf i).toNat)
  case atStart => exact ⟨0, Nat.zero_le _, rfl, rfl, Below.refl _ _⟩
  case round =>
    obtain ⟨k, hk, rfl, rfl, hbr⟩ := hrel
    have HB : Hid (Below w.heap.size w wr) := hbr
    by_cases hlt : k < zs.length
    · obtain ⟨x, o, rfl, hc⟩ : ∃ x o, a = some ⟨x, o, none⟩ ∧ ∀ i, i < zs.length → wr.cell? ⟨x, o + i, none⟩ = some (.int .i64 (zs.getD i 0)) := by
        rcases ha.below hbr ha.lt with rfl | h
        · simp at hlt
        · exact h
      have hck := hc k hlt
      obtain ⟨hz0, hz1⟩ := HS.out k hlt
      have HP : Hid (∀ V, Calls Tryz.prog 123 #[.int .i64 (zs.getD k 0)] V fun e w' => e = .returned (.string (putS (zs.getD k 0))) ∧ Below V.heap.size V w') := fun V => implPut _ V hz0 hz1
      have z0 := numsD_le zs k
      have z1 := putS_size (zs.getD k 0)
      have HJ : Hid (∀ V, Calls Tryz.prog 122 #[.string (numsD zs k), .string (putS (zs.getD k 0))] V fun e w' => e = .returned (.string (numsD zs (k + 1))) ∧ Below V.heap.size V w') := fun V => joinTexts _ _ V (by omega) (by omega)
      have a0 : (0 : Int) ≤ (k : Int) := by omega
      have b0 : (k : Int) < (zs.length : Int) := by omega
      have HR : Hid (∃ j : Nat, j ≤ zs.length ∧ Value.int .i64 ((k : Int) + 1) = .int .i64 (j : Int) ∧ Value.string (numsD zs (k + 1)) = .string (numsD zs j)) := ⟨k + 1, by omega, by congr 1, rfl⟩
      generalize numsD zs (k + 1) = h1 at *
      generalize putS (zs.getD k 0) = h2 at *
      generalize zs.getD k 0 = z at *
      clear hc ha hbr HS z0 z1 hz0 hz1
      go_wp2_with fail
      refine (HP.out _).mono ?_
      rintro e w2 ⟨rfl, b2⟩
      have B2 : Hid (Below w.heap.size w w2) := HB.out.trans (b2.mono HB.out.size)
      clear b2
      go_wp2_with fail
      refine (HJ.out _).mono ?_
      rintro e w3 ⟨rfl, b3⟩
      have B3 : Hid (Below w.heap.size w w3) := B2.out.trans (b3.mono B2.out.size)
      clear b3
      go_wp2_with fail
      go_roundw
      case rel =>
        obtain ⟨j, j1, j2, j3⟩ := HR.out
        exact ⟨j, j1, by first | exact j2 | (rw [← j2]; simp; omega), j3, B3.out⟩
      case measure => simp [intOf]; omega
    · obtain rfl : k = zs.length := by omega
      have z0 := numsD_le zs zs.length
      have HP : Hid (∀ V, Calls Tryz.prog 124 #[.int .i64 3, .string (numsD zs zs.length)] V fun e w' => e = .returned (.string (thingD 3 (numsD zs zs.length))) ∧ Below V.heap.size V w') := fun V => by
        have := implDerPut 3 (numsD zs zs.length) V (by unfold maxLen; omega)
        rw [putD_right (by decide) (by omega)] at this
        exact this
      clear ha hbr HS
      go_wp2_with fail
      refine (HP.out _).mono ?_
      rintro e w2 ⟨rfl, b2⟩
      have B2 : Hid (Below w.heap.size w w2) := HB.out.trans (b2.mono HB.out.size)
      clear b2
      go_wp2
      go_ret
      exact ⟨rfl, B2.out⟩
end Go.Proofs.YtkhdjmjbdpmdnaaGreatDoor
