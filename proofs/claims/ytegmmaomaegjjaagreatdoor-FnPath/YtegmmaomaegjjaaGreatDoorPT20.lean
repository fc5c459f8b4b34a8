/- strings.Join without a separator, in own words; impl.putParts, putSeq, putName, walked. strings.Join without a separator, in own words; impl.putParts, putSeq, putKind, putName, walked. A row of the three numbers of a Sig. impl.PutNum, walked. impl.putNumbers, walked. impl.moreArcs, walked. impl.putNumbers, putNames, moreArcs, (moreParts).layNames, layCa, walked. impl.(moreParts).layNames, layCa, walked. impl.putMore, walked. -/
import Derived.Test.YtegmmaomaegjjaaGreatDoorPT03
import Derived.Test.YtegmmaomaegjjaaGreatDoorPT01
import Derived.Test.YtegmmaomaegjjaaGreatDoorPT19
import Derived.Test.YtegmmaomaegjjaaGreatDoorPT07
import Derived.Test.YtegmmaomaegjjaaGreatDoorPT05
import Derived.Deep.Cut
import Derived.Deep.RegionHeld3
namespace Go.Proofs.YtegmmaomaegjjaaGreatDoor
open Go.RowKit

/-- Texts, one behind the other. -/
def catS : List ByteArray → ByteArray
  | [] => ⟨#[]⟩
  | x :: r => x ++ catS r
theorem catS_list : ∀ xs : List ByteArray, (catS xs).data.toList = (xs.map (·.data.toList)).flatten
  | [] => rfl
  | x :: r => by rw [catS, ByteArray.data_append, Array.toList_append, catS_list r]; rfl
theorem join_cat (xs : List ByteArray) : Lib.join (xs.map (·.data.toList)) ([] : List UInt8) = (catS xs).data.toList := by
  rw [catS_list]
  cases xs with
  | nil => rfl
  | cons x r =>
    rw [List.map_cons, Lib.join_cons, Lib.joinTail, List.flatten_cons]
    simp
    rfl
theorem joinAll (g c : Nat) (xs : List ByteArray) (w : World) (hg : w.heap[g]? = some (.cells (sCells xs).toArray 9 (0, 0))) (hs : (catS xs).size ≤ 100000) (hl : xs.length ≤ 100000) (hc : xs.length ≤ c) :
    Calls Tryz.prog 107 #[.slice (some ⟨g, 0, none⟩) xs.length c, .string ⟨#[]⟩] w fun e w' => e = .returned (.string (catS xs)) ∧ Below w.heap.size w w' := by
  have h := Any.strings_Join joinLays joinExtra g 0 c xs ⟨#[]⟩ w (fun j x hx => by
    rw [Nat.zero_add, cell_of_row w g j _ _ (0, 0) hg]
    simp [sCells, hx]) (heap_lt hg) (by omega) hc (by
    show (Lib.join (xs.map (·.data.toList)) ([] : List UInt8)).length ≤ _
    rw [join_cat, ← Lib.size_eq]
    omega)
  refine h.mono ?_
  rintro e w' ⟨rfl, hb⟩
  refine ⟨?_, hb⟩
  have e1 : (⟨(Lib.join (xs.map (·.data.toList)) (⟨#[]⟩ : ByteArray).data.toList).toArray⟩ : ByteArray) = catS xs := by
    show (⟨(Lib.join (xs.map (·.data.toList)) ([] : List UInt8)).toArray⟩ : ByteArray) = catS xs
    rw [join_cat]
  rw [e1]
theorem implParts (t : Int) (g c : Nat) (xs : List ByteArray) (w : World) (ht : tagB t = true) (hg : w.heap[g]? = some (.cells (sCells xs).toArray 9 (0, 0))) (hs : (catS xs).size ≤ 4000) (hl : xs.length ≤ 100) (hc : xs.length ≤ c) :
    Calls Tryz.prog 77 #[.int .i64 t, .slice (some ⟨g, 0, none⟩) xs.length c] w fun e w' => e = .returned (.string (thingD t (catS xs))) ∧ Below w.heap.size w w' := by
  have HJ : Hid (Calls Tryz.prog 107 #[.slice (some ⟨g, 0, none⟩) xs.length c, .string ⟨#[]⟩] w fun e w' => e = .returned (.string (catS xs)) ∧ Below w.heap.size w w') := joinAll g c xs w hg (by omega) (by omega) hc
  have HP : Hid (∀ V : World, Calls Tryz.prog 106 #[.int .i64 t, .string (catS xs)] V fun e w' => e = .returned (.string (thingD t (catS xs))) ∧ Below V.heap.size V w') := fun V => by
    have := implDerPut t (catS xs) V (by unfold maxLen; omega)
    rw [putD_right ht hs] at this
    exact this
  clear hg hs hl hc
  generalize thingD t (catS xs) = q at *
  generalize catS xs = x at *
  generalize xs.length = n at *
  go_enter Tryz.func77, Tryz.ntmps77
  go_wp2_with fail
  refine HJ.out.mono ?_
  rintro e w2 ⟨rfl, b2⟩
  have B2 : Hid (Below w.heap.size w w2) := b2
  clear b2
  go_wp2_with fail
  refine (HP.out _).mono ?_
  rintro e w3 ⟨rfl, b3⟩
  have B3 : Hid (Below w.heap.size w w3) := B2.out.trans (b3.mono B2.out.size)
  clear b3
  go_wp2
  go_ret
  exact ⟨rfl, B3.out⟩
theorem implSeq (g c : Nat) (xs : List ByteArray) (w : World) (hg : w.heap[g]? = some (.cells (sCells xs).toArray 9 (0, 0))) (hs : (catS xs).size ≤ 4000) (hl : xs.length ≤ 100) (hc : xs.length ≤ c) :
    Calls Tryz.prog 76 #[.slice (some ⟨g, 0, none⟩) xs.length c] w fun e w' => e = .returned (.string (seqD (catS xs))) ∧ Below w.heap.size w w' := by
  have HP : Hid (Calls Tryz.prog 77 #[.int .i64 48, .slice (some ⟨g, 0, none⟩) xs.length c] w fun e w' => e = .returned (.string (seqD (catS xs))) ∧ Below w.heap.size w w') := implParts 48 g c xs w (by decide) hg hs hl hc
  clear hg hs hl hc
  generalize seqD (catS xs) = q at *
  generalize xs.length = n at *
  go_enter Tryz.func76, Tryz.ntmps76
  go_wp2_with fail
  refine HP.out.mono ?_
  rintro e w2 ⟨rfl, b2⟩
  have B2 : Hid (Below w.heap.size w w2) := b2
  clear b2
  go_wp2
  go_ret
  exact ⟨rfl, B2.out⟩
/-- Arcs that lie in a row of their own. -/
theorem implOid4 (x y z u : Int) (g : Nat) (w : World) (h : arcsB [x, y, z, u] = true) (hg : w.heap[g]? = some (.cells #[.int .i64 x, .int .i64 y, .int .i64 z, .int .i64 u] 2 (0, 0))) :
    Calls Tryz.prog 109 #[.slice (some ⟨g, 0, none⟩) 4 4] w fun e w' => e = .returned (.string (oidT [x, y, z, u])) ∧ Below w.heap.size w w' := by
  have k := implDerOid (some ⟨g, 0, none⟩) [x, y, z, u] 4 w (by simp) (Nat.le_refl _) (IsInts.row (rest := []) hg)
  unfold oidD at k
  rw [if_pos h] at k
  exact k
theorem one_cat (x : ByteArray) : catS [x] = x := by show x ++ (⟨#[]⟩ : ByteArray) = x; exact ByteArray.append_empty
theorem two_cat (x y : ByteArray) : catS [x, y] = x ++ y := by show x ++ (y ++ (⟨#[]⟩ : ByteArray)) = x ++ y; rw [show y ++ (⟨#[]⟩ : ByteArray) = y from ByteArray.append_empty]
theorem three_cat (x y z : ByteArray) : catS [x, y, z] = x ++ (y ++ z) := by show x ++ catS [y, z] = _; rw [two_cat]
/-- One text in a row of its own, as a thing of it. -/
theorem implSeq1 (x : ByteArray) (g : Nat) (w : World) (hx : x.size ≤ 4000) (hg : w.heap[g]? = some (.cells #[.string x] 9 (0, 0))) :
    Calls Tryz.prog 76 #[.slice (some ⟨g, 0, none⟩) 1 1] w fun e w' => e = .returned (.string (seqD x)) ∧ Below w.heap.size w w' := by
  have h := implSeq g 1 [x] w hg (by rw [one_cat]; exact hx) (by simp) (Nat.le_refl _)
  rw [one_cat] at h
  exact h
theorem implParts1 (t : Int) (x : ByteArray) (g : Nat) (w : World) (ht : tagB t = true) (hx : x.size ≤ 4000) (hg : w.heap[g]? = some (.cells #[.string x] 9 (0, 0))) :
    Calls Tryz.prog 77 #[.int .i64 t, .slice (some ⟨g, 0, none⟩) 1 1] w fun e w' => e = .returned (.string (thingD t x)) ∧ Below w.heap.size w w' := by
  have h := implParts t g 1 [x] w ht hg (by rw [one_cat]; exact hx) (by simp) (Nat.le_refl _)
  rw [one_cat] at h
  exact h
theorem implSeq2 (x y : ByteArray) (g : Nat) (w : World) (hx : x.size + y.size ≤ 4000) (hg : w.heap[g]? = some (.cells #[.string x, .string y] 9 (0, 0))) :
    Calls Tryz.prog 76 #[.slice (some ⟨g, 0, none⟩) 2 2] w fun e w' => e = .returned (.string (seqD (x ++ y))) ∧ Below w.heap.size w w' := by
  have h := implSeq g 2 [x, y] w hg (by rw [two_cat, ByteArray.size_append]; exact hx) (by simp) (Nat.le_refl _)
  rw [two_cat] at h
  exact h
theorem implSeq3 (x y z : ByteArray) (g : Nat) (w : World) (hx : x.size + (y.size + z.size) ≤ 4000) (hg : w.heap[g]? = some (.cells #[.string x, .string y, .string z] 9 (0, 0))) :
    Calls Tryz.prog 76 #[.slice (some ⟨g, 0, none⟩) 3 3] w fun e w' => e = .returned (.string (seqD (x ++ (y ++ z)))) ∧ Below w.heap.size w w' := by
  have h := implSeq g 3 [x, y, z] w hg (by rw [three_cat, ByteArray.size_append, ByteArray.size_append]; exact hx) (by simp) (Nat.le_refl _)
  rw [three_cat] at h
  exact h
set_option maxHeartbeats 1000000 in
theorem implNameD (t : ByteArray) (w : World) (ht : t.size ≤ 40) :
    Calls Tryz.prog 80 #[.string t] w fun e w' => e = .returned (.string (nameD t)) ∧ Below w.heap.size w w' := by
  have h1 := arcs_lit arcsName
  have h2 := thingD_le 12 t
  have h3 := seqD_le (oidT [2, 5, 4, 3] ++ thingD 12 t)
  have h4 := thingD_le 49 (seqD (oidT [2, 5, 4, 3] ++ thingD 12 t))
  rw [ByteArray.size_append] at h3
  have H1 : Hid (∀ V (g : Nat), V.heap[g]? = some (.cells #[.int .i64 2, .int .i64 5, .int .i64 4, .int .i64 3] 2 (0, 0)) → Calls Tryz.prog 109 #[.slice (some ⟨g, 0, none⟩) 4 4] V fun e w' => e = .returned (.string (oidT [2, 5, 4, 3])) ∧ Below V.heap.size V w') := fun V g hg => implOid4 2 5 4 3 g V arcsName hg
  have H2 : Hid (∀ V, Calls Tryz.prog 106 #[.int .i64 12, .string t] V fun e w' => e = .returned (.string (thingD 12 t)) ∧ Below V.heap.size V w') := fun V => by
    have := implDerPut 12 t V (by unfold maxLen; omega)
    rw [putD_right (by decide) (by omega)] at this
    exact this
  have H3 : Hid (∀ V (g : Nat), V.heap[g]? = some (.cells #[.string (oidT [2, 5, 4, 3]), .string (thingD 12 t)] 9 (0, 0)) → Calls Tryz.prog 76 #[.slice (some ⟨g, 0, none⟩) 2 2] V fun e w' => e = .returned (.string (seqD (oidT [2, 5, 4, 3] ++ thingD 12 t))) ∧ Below V.heap.size V w') := fun V g hg => implSeq2 _ _ g V (by omega) hg
  have H4 : Hid (∀ V (g : Nat), V.heap[g]? = some (.cells #[.string (seqD (oidT [2, 5, 4, 3] ++ thingD 12 t))] 9 (0, 0)) → Calls Tryz.prog 77 #[.int .i64 49, .slice (some ⟨g, 0, none⟩) 1 1] V fun e w' => e = .returned (.string (thingD 49 (seqD (oidT [2, 5, 4, 3] ++ thingD 12 t)))) ∧ Below V.heap.size V w') := fun V g hg => implParts1 49 _ g V (by decide) (by omega) hg
  have H5 : Hid (∀ V (g : Nat), V.heap[g]? = some (.cells #[.string (thingD 49 (seqD (oidT [2, 5, 4, 3] ++ thingD 12 t)))] 9 (0, 0)) → Calls Tryz.prog 76 #[.slice (some ⟨g, 0, none⟩) 1 1] V fun e w' => e = .returned (.string (nameD t)) ∧ Below V.heap.size V w') := fun V g hg => implSeq1 _ g V (by omega) hg
  clear h1 h2 h3 h4
  generalize nameD t = n at *
  generalize thingD 49 (seqD (oidT [2, 5, 4, 3] ++ thingD 12 t)) = q4 at *
  generalize seqD (oidT [2, 5, 4, 3] ++ thingD 12 t) = q3 at *
  generalize oidT [2, 5, 4, 3] = q1 at *
  generalize thingD 12 t = q2 at *
  have AL : Hid (∀ V o, Hid (Below w.heap.size w V) → Hid (Below w.heap.size w (V.alloc o))) := fun V o h => h.out.alloc h.out.size o
  have I0 : Hid (Below w.heap.size w w) := Below.refl _ _
  have TR : Hid (∀ V W, Hid (Below w.heap.size w V) → Below V.heap.size V W → Hid (Below w.heap.size w W)) := fun V W h k => h.out.trans (k.mono h.out.size)
  go_enter Tryz.func80, Tryz.ntmps80
  go_wp2_with fail
  refine (H1.out _ _ (heap_alloc_new w _)).mono ?_
  rintro e w2 ⟨rfl, b2⟩
  have B2 := TR.out _ _ (AL.out _ _ I0) b2
  clear b2
  go_wp2_with fail
  refine (H2.out _).mono ?_
  rintro e w3 ⟨rfl, b3⟩
  have B3 := TR.out _ _ B2 b3
  clear b3
  go_wp2_with fail
  refine (H3.out _ _ (heap_alloc_new w3 _)).mono ?_
  rintro e w4 ⟨rfl, b4⟩
  have B4 := TR.out _ _ (AL.out _ _ B3) b4
  clear b4
  go_wp2_with fail
  refine (H4.out _ _ (heap_alloc_new w4 _)).mono ?_
  rintro e w5 ⟨rfl, b5⟩
  have B5 := TR.out _ _ (AL.out _ _ B4) b5
  clear b5
  go_wp2_with fail
  refine (H5.out _ _ (heap_alloc_new w5 _)).mono ?_
  rintro e w6 ⟨rfl, b6⟩
  have B6 := TR.out _ _ (AL.out _ _ B5) b6
  clear b6
  go_wp2
  go_ret
  exact ⟨rfl, B6.out⟩
end Go.Proofs.YtegmmaomaegjjaaGreatDoor
namespace Go.Proofs.YtegmmaomaegjjaaGreatDoor
open Go.RowKit

theorem implKind (w : World) :
    Calls Tryz.prog 79 #[] w fun e w' => e = .returned (.string kindD) ∧ Below w.heap.size w w' := by
  have z := arcs_lit arcsKind
  have H1 : Hid (∀ V (g : Nat), V.heap[g]? = some (.cells #[.int .i64 1, .int .i64 3, .int .i64 101, .int .i64 112] 2 (0, 0)) → Calls Tryz.prog 109 #[.slice (some ⟨g, 0, none⟩) 4 4] V fun e w' => e = .returned (.string (oidT [1, 3, 101, 112])) ∧ Below V.heap.size V w') := fun V g hg => implOid4 1 3 101 112 g V arcsKind hg
  have H2 : Hid (∀ V (g : Nat), V.heap[g]? = some (.cells #[.string (oidT [1, 3, 101, 112])] 9 (0, 0)) → Calls Tryz.prog 76 #[.slice (some ⟨g, 0, none⟩) 1 1] V fun e w' => e = .returned (.string kindD) ∧ Below V.heap.size V w') := fun V g hg => implSeq1 _ g V (by omega) hg
  clear z
  generalize oidT [1, 3, 101, 112] = q at *
  generalize kindD = k at *
  go_enter Tryz.func79, Tryz.ntmps79
  go_wp2_with fail
  refine (H1.out _ _ (heap_alloc_new w _)).mono ?_
  rintro e w2 ⟨rfl, b2⟩
  have B2 : Hid (Below w.heap.size w w2) := ((Below.refl _ w).alloc (Nat.le_refl _) _).trans (b2.mono (by simp))
  clear b2
  go_wp2_with fail
  refine (H2.out _ _ (heap_alloc_new w2 _)).mono ?_
  rintro e w3 ⟨rfl, b3⟩
  have B3 : Hid (Below w.heap.size w w3) := (B2.out.alloc B2.out.size _).trans (b3.mono (by have := B2.out.size; simp; omega))
  clear b3
  go_wp2
  go_ret
  exact ⟨rfl, B3.out⟩
end Go.Proofs.YtegmmaomaegjjaaGreatDoor
namespace Go.Proofs.YtegmmaomaegjjaaGreatDoor
open Go.RowKit

/-- A row of the three numbers of a Sig stands in block b. -/
def Row3 (x y z : Int) (V : World) (b : Nat) : Prop := V.heap[b]? = some (.cells #[.int .i64 x, .int .i64 y, .int .i64 z] 2 (0, 0))
theorem Row3.keep {x y z : Int} {V W : World} {b : Nat} (h : Row3 x y z V b) (hb : Below V.heap.size V W) : Row3 x y z W b := (hb.block b (heap_lt h)).trans h
theorem Row3.al {x y z : Int} {V : World} {b : Nat} {o : Obj} (h : Row3 x y z V b) : Row3 x y z (V.alloc o) b := by
  unfold Row3
  rw [Below.heap_alloc _ _ _ (heap_lt h)]
  exact h
theorem alKeep {V : World} {g : Nat} {o r : Obj} (h : V.heap[g]? = some r) : (V.alloc o).heap[g]? = some r := by
  rw [Below.heap_alloc _ _ _ (heap_lt h)]
  exact h
end Go.Proofs.YtegmmaomaegjjaaGreatDoor
namespace Go.Proofs.YtegmmaomaegjjaaGreatDoor
open Go.RowKit

theorem implFold (n : Int) (w : World) (h0 : -9223372036854775808 ≤ n) (h1 : n ≤ 9223372036854775807) :
    Calls Tryz.prog 126 #[.int .i64 n] w fun e w' => e = .returned (.int .u64 (foldI n : Int)) ∧ w' = w := by
  by_cases hn : n < 0
  · go_enter Tryz.func126, Tryz.ntmps126
    go_wp2
    go_ret
    exact ⟨ret_int (fold_bits_neg n h0 hn), rfl⟩
  · go_enter Tryz.func126, Tryz.ntmps126
    go_wp2
    go_ret
    exact ⟨ret_int (fold_bits_pos n h1 (by omega)), rfl⟩

theorem arr10 : Tryz.prog.arrayLen 126 = 10 := by kernel_rfl
theorem size_elem10 (w : World) : (sizeOf (Tryz.prog.elem 126)).run Tryz.prog w = .ok 1 w := by kernel_rfl
theorem under10 : Tryz.prog.underlying 126 = some (.array (Tryz.prog.arrayLen 126) (Tryz.prog.elem 126)) := by kernel_rfl
theorem slice10 (w : World) (b k : Nat) (hk : k < 10) :
    (Instr.sliceAt 126 (.pointer (some ⟨b, 0, none⟩)) none (some (.int .i64 ((k : Int) + 1))) none).run Tryz.prog w = .ok (.slice (some ⟨b, 0, none⟩) (k + 1) 10) w := by
  rw [run_sliceAt_array_h w _ _ under10 .i64 _ (by omega) (by rw [arr10]; omega), size_elem10]
  simp only [Result.andThen_ok, slicedAt, arr10]
  simp [Addr.add]

set_option maxHeartbeats 1000000 in
set_option maxRecDepth 100000 in
theorem implPut (n : Int) (w : World) (h0 : -9223372036854775808 ≤ n) (h1 : n ≤ 9223372036854775807) :
    Calls Tryz.prog 104 #[.int .i64 n] w fun e w' => e = .returned (.string (strOfNums (putF 9 (foldI n)))) ∧ Below w.heap.size w w' := by
  have hf : (foldI n : Int) ≤ 18446744073709551615 := by unfold foldI; split <;> omega
  obtain ⟨u, hu⟩ : ∃ u, u = foldI n := ⟨_, rfl⟩
  rw [← hu] at hf ⊢
  have HU : Hid (u = foldI n) := hu
  clear hu
  go_enter Tryz.func104, Tryz.ntmps104
  go_wp2_with fail
  refine (implFold n _ h0 h1).mono ?_
  rintro e w' ⟨rfl, rfl⟩
  rw [← HU.out]
  go_wp2_with fail
  go_loopw [4, 5] (fun s a wr => ∃ (x f : Nat) (xs : List Int) (L : List Value), (x : Int) ≤ 18446744073709551615 ∧ x < pw f ∧ xs.length + f ≤ 9 ∧ s = .int .i64 xs.length ∧ a = .int .u64 x ∧
      wr.ownsRow w.heap.size 126 1 (.slice (some ⟨w.heap.size, 0, none⟩) 10 10) 10 L ∧ (∀ j, j < xs.length → L[j]? = some (.int .u8 (xs.getD j 0))) ∧ Below w.heap.size w wr ∧ xs ++ putF f x = putF 9 u)
    (fun _ a _ => (intOf a).toNat)
  case atStart =>
    exact ⟨u, 9, [], _, hf, by rw [pw9]; omega, by simp, rfl, rfl, World.ownsRow_lit _ _ 10 (Nat.le_refl _) (by decide) rfl, by simp, (Below.refl _ _).alloc (Nat.le_refl _) _, by simp⟩
  case round =>
    obtain ⟨x, f, xs, L, hx, hpw, hlen, rfl, rfl, hown, hL, hbel, heq⟩ := hrel
    have HE : Hid (xs ++ putF f x = putF 9 u) := heq
    have HP : Hid (x < pw f) := hpw
    have HL : Hid (∀ j, j < xs.length → L[j]? = some (.int .u8 (xs.getD j 0))) := hL
    have hlL : L.length = 10 := by simpa using hown.1
    have hc := hown.cellAt xs.length (by omega)
    rw [List.getElem?_eq_getElem (by omega)] at hc
    obtain ⟨v0, hv0⟩ : ∃ v, wr.cell? ⟨w.heap.size, xs.length, none⟩ = some v := ⟨_, hc⟩
    have hfz := hown.frozenAt xs.length
    have hor := or128 x
    clear heq hpw hL hf h0 h1 hc hlL
    have hst := fun v => hown.stored xs.length v
    have HS : Hid (∀ v, (wr.setCell ⟨w.heap.size, xs.length, none⟩ v).ownsRow w.heap.size 126 1 (.slice (some ⟨w.heap.size, 0, none⟩) 10 10) 10 (L.set xs.length v)) := fun v => (hst v).1
    have hb2 : Hid (∀ v, Below w.heap.size w (wr.setCell ⟨w.heap.size, xs.length, none⟩ v)) := fun v => hbel.setCell (Nat.le_refl _) v
    have HL2 : Hid (∀ y : Int, ∀ j, j < (xs ++ [y]).length → (L.set xs.length (.int .u8 y))[j]? = some (.int .u8 ((xs ++ [y]).getD j 0))) := fun y => set_reads (by have := hown.1; omega) HL.out
    clear hst hown hbel HL
    by_cases hlt : 128 ≤ x
    · go_wp2
      go_roundw
      case rel =>
        obtain ⟨g, rfl, hg⟩ := pw_step HP.out hlt
        have he := HE.out
        rw [putF_more hlt] at he
        refine ⟨x / 128, g, xs ++ [(x : Int) % 128 + 128], _, by omega, hg, by simp; omega, by simp, by go_num, HS.out _, HL2.out _, hb2.out _, ?_⟩
        rw [List.append_assoc, ← he]
        simp
      case measure => simp [intOf]; omega
    · have hcv : ∀ W : World, (∀ j, j < xs.length + 1 → W.cell? ⟨w.heap.size, j, none⟩ = some (.int .u8 ((xs ++ [(x : Int)]).getD j 0))) →
          (convert 22 9 (.slice (some ⟨w.heap.size, 0, none⟩) (xs.length + 1) 10)).run Tryz.prog W = .ok (.string (strOfNums (xs ++ [(x : Int)]))) W := fun W hW =>
        run_convert_bytes_arg W 22 5 Tryz.underlying22 Tryz.underlying5 w.heap.size 0 (xs.length + 1) 10 (xs ++ [(x : Int)]) (by simp) (fun j hj => by rw [Nat.zero_add]; exact hW j hj) 9 Tryz.underlying9
      have hcv1 := hcv (wr.setCell ⟨w.heap.size, xs.length, none⟩ (.int .u8 (x : Int))) (fun j hj => by
        rw [(HS.out (.int .u8 (x : Int))).cellAt j (by omega), HL2.out (x : Int) j (by simpa using hj)])
      have hsl := fun W => slice10 W w.heap.size xs.length (by omega)
      clear hcv
      go_wp2
      go_ret
      refine ⟨?_, hb2.out _⟩
      have he := HE.out
      rw [putF_last (by omega)] at he
      rw [← he]
      rfl
end Go.Proofs.YtegmmaomaegjjaaGreatDoor
namespace Go.Proofs.YtegmmaomaegjjaaGreatDoor
open Go.RowKit

/-- Numbers behind a byte 0. -/
def numsD (zs : List Int) : Nat → ByteArray
  | 0 => ⟨#[0]⟩
  | k + 1 => numsD zs k ++ putS (zs.getD k 0)
theorem numsD_le (zs : List Int) : ∀ k, (numsD zs k).size ≤ 1 + 10 * k
  | 0 => Nat.le_refl _
  | k + 1 => by
    have h1 := numsD_le zs k
    have h2 := putS_size (zs.getD k 0)
    show (numsD zs k ++ putS (zs.getD k 0)).size ≤ _
    rw [ByteArray.size_append]
    omega
set_option maxHeartbeats 1000000 in
set_option maxRecDepth 100000 in
theorem implNumbers (a : Option Addr) (zs : List Int) (c : Nat) (w : World) (hl : zs.length ≤ 3) (hz : ∀ i, i < zs.length → -9223372036854775808 ≤ zs.getD i 0 ∧ zs.getD i 0 ≤ 9223372036854775807) (ha : IsInts w a zs) :
    Calls Tryz.prog 81 #[.slice a zs.length c] w fun e w' => e = .returned (.string (thingD 3 (numsD zs zs.length))) ∧ Below w.heap.size w w' := by
  have HS : Hid (∀ i, i < zs.length → -9223372036854775808 ≤ zs.getD i 0 ∧ zs.getD i 0 ≤ 9223372036854775807) := hz
  clear hz
  go_enter Tryz.func81, Tryz.ntmps81
  go_wp2
  go_loopw [3, 8] (fun t i wr => ∃ k : Nat, k ≤ zs.length ∧ i = .int .i64 k ∧ t = .string (numsD zs k) ∧ Below w.heap.size w wr) (fun _ i _ => zs.length - (intOf i).toNat)
  case atStart => exact ⟨0, Nat.zero_le _, rfl, rfl, Below.refl _ _⟩
  case round =>
    obtain ⟨k, hk, rfl, rfl, hbr⟩ := hrel
    have HB : Hid (Below w.heap.size w wr) := hbr
    by_cases hlt : k < zs.length
    · obtain ⟨x, o, rfl, hc⟩ : ∃ x o, a = some ⟨x, o, none⟩ ∧ ∀ i, i < zs.length → wr.cell? ⟨x, o + i, none⟩ = some (.int .i64 (zs.getD i 0)) := by
        rcases ha.below hbr ha.lt with rfl | h
        · simp at hlt
        · exact h
      have hck := hc k hlt
      obtain ⟨hz0, hz1⟩ := HS.out k hlt
      have HP : Hid (∀ V, Calls Tryz.prog 104 #[.int .i64 (zs.getD k 0)] V fun e w' => e = .returned (.string (putS (zs.getD k 0))) ∧ Below V.heap.size V w') := fun V => implPut _ V hz0 hz1
      have z0 := numsD_le zs k
      have z1 := putS_size (zs.getD k 0)
      have HJ : Hid (∀ V, Calls Tryz.prog 103 #[.string (numsD zs k), .string (putS (zs.getD k 0))] V fun e w' => e = .returned (.string (numsD zs (k + 1))) ∧ Below V.heap.size V w') := fun V => joinTexts _ _ V (by omega) (by omega)
      have a0 : (0 : Int) ≤ (k : Int) := by omega
      have b0 : (k : Int) < (zs.length : Int) := by omega
      have HR : Hid (∃ j : Nat, j ≤ zs.length ∧ Value.int .i64 ((k : Int) + 1) = .int .i64 (j : Int) ∧ Value.string (numsD zs (k + 1)) = .string (numsD zs j)) := ⟨k + 1, by omega, by congr 1, rfl⟩
      generalize numsD zs (k + 1) = h1 at *
      generalize putS (zs.getD k 0) = h2 at *
      generalize zs.getD k 0 = z at *
      clear hc ha hbr HS z0 z1 hz0 hz1
      go_wp2_with fail
      refine (HP.out _).mono ?_
      rintro e w2 ⟨rfl, b2⟩
      have B2 : Hid (Below w.heap.size w w2) := HB.out.trans (b2.mono HB.out.size)
      clear b2
      go_wp2_with fail
      refine (HJ.out _).mono ?_
      rintro e w3 ⟨rfl, b3⟩
      have B3 : Hid (Below w.heap.size w w3) := B2.out.trans (b3.mono B2.out.size)
      clear b3
      go_wp2_with fail
      go_roundw
      case rel =>
        obtain ⟨j, j1, j2, j3⟩ := HR.out
        exact ⟨j, j1, by first | exact j2 | (rw [← j2]; simp; omega), j3, B3.out⟩
      case measure => simp [intOf]; omega
    · obtain rfl : k = zs.length := by omega
      have z0 := numsD_le zs zs.length
      have HP : Hid (∀ V, Calls Tryz.prog 106 #[.int .i64 3, .string (numsD zs zs.length)] V fun e w' => e = .returned (.string (thingD 3 (numsD zs zs.length))) ∧ Below V.heap.size V w') := fun V => by
        have := implDerPut 3 (numsD zs zs.length) V (by unfold maxLen; omega)
        rw [putD_right (by decide) (by omega)] at this
        exact this
      clear ha hbr HS
      go_wp2_with fail
      refine (HP.out _).mono ?_
      rintro e w2 ⟨rfl, b2⟩
      have B2 : Hid (Below w.heap.size w w2) := HB.out.trans (b2.mono HB.out.size)
      clear b2
      go_wp2
      go_ret
      exact ⟨rfl, B2.out⟩
end Go.Proofs.YtegmmaomaegjjaaGreatDoor
namespace Go.Proofs.YtegmmaomaegjjaaGreatDoor
open Go.RowKit

theorem implArcs (last : Int) (w : World) :
    Calls Tryz.prog 134 #[.int .i64 last] w fun e w' => e = .returned (.slice (some ⟨w.heap.size, 0, none⟩) 4 4) ∧ w'.heap[w.heap.size]? = some (.cells #[.int .i64 2, .int .i64 5, .int .i64 29, .int .i64 last] 2 (0, 0)) ∧ Below w.heap.size w w' := by
  go_enter Tryz.func134, Tryz.ntmps134
  go_wp2
  go_ret
  exact ⟨rfl, heap_alloc_new w _, (Below.refl _ w).alloc (Nat.le_refl _) _⟩
end Go.Proofs.YtegmmaomaegjjaaGreatDoor
namespace Go.Proofs.YtegmmaomaegjjaaGreatDoor
open Go.RowKit

set_option maxHeartbeats 1000000 in
set_option maxRecDepth 100000 in
theorem implHosts (a : Option Addr) (ss : List ByteArray) (c : Nat) (w : World) (hl : ss.length ≤ 5) (hs : ∀ i, i < ss.length → (tAt ss i).size ≤ 40) (ha : IsStrs w a ss) :
    Calls Tryz.prog 135 #[.slice a ss.length c] w fun e w' => e = .returned (.string (seqD (hostsD ss ss.length))) ∧ Below w.heap.size w w' := by
  have HS : Hid (∀ i, i < ss.length → (tAt ss i).size ≤ 40) := hs
  have HL : Hid (∀ k, k ≤ ss.length → (hostsD ss k).size ≤ 44 * k) := fun k hk => hostsD_le k (fun i hi => hs i (by omega))
  clear hs
  go_enter Tryz.func135, Tryz.ntmps135
  go_wp2
  go_loopw [3, 8] (fun t i wr => ∃ k : Nat, k ≤ ss.length ∧ i = .int .i64 k ∧ t = .string (hostsD ss k) ∧ Below w.heap.size w wr) (fun _ i _ => ss.length - (intOf i).toNat)
  case atStart => exact ⟨0, Nat.zero_le _, rfl, rfl, Below.refl _ _⟩
  case round =>
    obtain ⟨k, hk, rfl, rfl, hbr⟩ := hrel
    have HB : Hid (Below w.heap.size w wr) := hbr
    by_cases hlt : k < ss.length
    · obtain ⟨x, o, rfl, hc⟩ : ∃ x o, a = some ⟨x, o, none⟩ ∧ ∀ i, i < ss.length → wr.cell? ⟨x, o + i, none⟩ = some (.string (tAt ss i)) := by
        rcases ha.below hbr ha.lt with rfl | h
        · simp at hlt
        · exact h
      have hck := hc k hlt
      have hz := HS.out k hlt
      have z0 := HL.out k (by omega)
      have z1 := thingD_le 130 (tAt ss k)
      have HP : Hid (∀ V, Calls Tryz.prog 106 #[.int .i64 130, .string (tAt ss k)] V fun e w' => e = .returned (.string (thingD 130 (tAt ss k))) ∧ Below V.heap.size V w') := fun V => by
        have := implDerPut 130 (tAt ss k) V (by unfold maxLen; omega)
        rw [putD_right (by decide) (by omega)] at this
        exact this
      have HJ : Hid (∀ V, Calls Tryz.prog 103 #[.string (hostsD ss k), .string (thingD 130 (tAt ss k))] V fun e w' => e = .returned (.string (hostsD ss (k + 1))) ∧ Below V.heap.size V w') := fun V => joinTexts _ _ V (by omega) (by omega)
      have a0 : (0 : Int) ≤ (k : Int) := by omega
      have b0 : (k : Int) < (ss.length : Int) := by omega
      have HR : Hid (∃ j : Nat, j ≤ ss.length ∧ Value.int .i64 ((k : Int) + 1) = .int .i64 (j : Int) ∧ Value.string (hostsD ss (k + 1)) = .string (hostsD ss j)) := ⟨k + 1, by omega, by congr 1, rfl⟩
      generalize hostsD ss (k + 1) = h1 at *
      generalize thingD 130 (tAt ss k) = h2 at *
      generalize tAt ss k = z at *
      clear hc ha hbr HS HL z0 z1 hz
      go_wp2_with fail
      refine (HP.out _).mono ?_
      rintro e w2 ⟨rfl, b2⟩
      have B2 : Hid (Below w.heap.size w w2) := HB.out.trans (b2.mono HB.out.size)
      clear b2
      go_wp2_with fail
      refine (HJ.out _).mono ?_
      rintro e w3 ⟨rfl, b3⟩
      have B3 : Hid (Below w.heap.size w w3) := B2.out.trans (b3.mono B2.out.size)
      clear b3
      go_wp2_with fail
      go_roundw
      case rel =>
        obtain ⟨j, j1, j2, j3⟩ := HR.out
        exact ⟨j, j1, by first | exact j2 | (rw [← j2]; simp; omega), j3, B3.out⟩
      case measure => simp [intOf]; omega
    · obtain rfl : k = ss.length := by omega
      have z0 := HL.out ss.length (Nat.le_refl _)
      have HP : Hid (∀ V (g : Nat), V.heap[g]? = some (.cells #[.string (hostsD ss ss.length)] 9 (0, 0)) → Calls Tryz.prog 76 #[.slice (some ⟨g, 0, none⟩) 1 1] V fun e w' => e = .returned (.string (seqD (hostsD ss ss.length))) ∧ Below V.heap.size V w') := fun V g hg => implSeq1 _ g V (by omega) hg
      clear ha hbr HS HL
      go_wp2_with fail
      refine (HP.out _ _ (heap_alloc_new wr _)).mono ?_
      rintro e w2 ⟨rfl, b2⟩
      have B2 : Hid (Below w.heap.size w w2) := (HB.out.alloc HB.out.size _).trans (b2.mono (by have := HB.out.size; simp; omega))
      clear b2
      go_wp2
      go_ret
      exact ⟨rfl, B2.out⟩
end Go.Proofs.YtegmmaomaegjjaaGreatDoor
namespace Go.Proofs.YtegmmaomaegjjaaGreatDoor
open Go.RowKit

set_option maxHeartbeats 4000000 in
set_option maxRecDepth 100000 in
theorem implLayNames (a : Option Addr) (names : List ByteArray) (cap : Nat) (ca : Bool) (w : World) (hl : names.length ≤ 5) (hs : ∀ i, i < names.length → (tAt names i).size ≤ 40) (ha : IsStrs w a names) :
    Calls Tryz.prog 110 #[.agg #[.slice a names.length cap, .bool ca]] w fun e w' => e = .returned (.string (namesD names)) ∧ Below w.heap.size w w' := by
  by_cases hn : names.length = 0
  · have HF : Hid (namesD names = ⟨#[]⟩) := if_pos hn
    rw [hn]
    go_enter Tryz.func110, Tryz.ntmps110
    go_wp2
    go_ret
    exact ⟨by rw [HF.out]; rfl, (Below.refl _ w).alloc (Nat.le_refl _) _⟩
  have hF : namesD names = seqD (oidT [2, 5, 29, 17] ++ thingD 4 (seqD (hostsD names names.length))) := if_neg hn
  have HHo : Hid (∀ V, IsStrs V a names → Calls Tryz.prog 135 #[.slice a names.length cap] V fun e w' => e = .returned (.string (seqD (hostsD names names.length))) ∧ Below V.heap.size V w') := fun V hV => implHosts a names cap V hl hs hV
  have zH := hostsD_le (ss := names) names.length hs
  have y1 := arcs_lit arcs17
  have y2 := thingD_le 4 (seqD (hostsD names names.length))
  have y3 := seqD_le (hostsD names names.length)
  obtain ⟨w1, hw1⟩ : ∃ w1, w1 = w.alloc (.cells #[.slice a names.length cap, .bool ca] 96 (0, 0)) := ⟨_, rfl⟩
  have r0 : w1.heap[w.heap.size]? = some (.cells [Value.slice a names.length cap, .bool ca].toArray 96 (0, 0)) := by rw [hw1]; exact heap_alloc_new w _
  have B1 : Hid (Below w.heap.size w w1) := by rw [hw1]; exact (Below.refl _ _).alloc (Nat.le_refl _) _
  have z1 : w.heap.size < w1.heap.size := by rw [hw1]; simp
  have HK : Hid (∀ V, Below w1.heap.size w1 V → V.cell? ⟨w.heap.size, 0, none⟩ = some (.slice a names.length cap)) := fun V hV => rowFacts ((hV.block _ z1).trans r0) 0 _ rfl
  have HA : Hid (∀ V, Below w1.heap.size w1 V → IsStrs V a names) := fun V hV => (ha.keep B1.out).keep hV
  have HB : Hid (∀ V, Below w1.heap.size w1 V → Below w.heap.size w V) := fun V hV => B1.out.trans (hV.mono B1.out.size)
  have PA : Hid (∀ V, Hid (Below w1.heap.size w1 V) → Calls Tryz.prog 134 #[.int .i64 17] V fun e W => e = .returned (.slice (some ⟨V.heap.size, 0, none⟩) 4 4) ∧ Hid (W.heap[V.heap.size]? = some (.cells #[.int .i64 2, .int .i64 5, .int .i64 29, .int .i64 17] 2 (0, 0))) ∧ Hid (Below w1.heap.size w1 W)) := fun V hV => by
    refine (implArcs 17 V).mono ?_
    rintro e W ⟨rfl, hr, hW⟩
    exact ⟨rfl, hr, hV.out.trans (hW.mono hV.out.size)⟩
  have PO : Hid (∀ V (g : Nat), Hid (Below w1.heap.size w1 V) → Hid (V.heap[g]? = some (.cells #[.int .i64 2, .int .i64 5, .int .i64 29, .int .i64 17] 2 (0, 0))) → Calls Tryz.prog 109 #[.slice (some ⟨g, 0, none⟩) 4 4] V fun e W => e = .returned (.string (oidT [2, 5, 29, 17])) ∧ Hid (Below w1.heap.size w1 W)) := fun V g hV hg => (implOid4 2 5 29 17 g V arcs17 hg.out).mono fun e W h => ⟨h.1, hV.out.trans (h.2.mono hV.out.size)⟩
  have PH : Hid (∀ V, Hid (Below w1.heap.size w1 V) → Calls Tryz.prog 135 #[.slice a names.length cap] V fun e W => e = .returned (.string (seqD (hostsD names names.length))) ∧ Hid (Below w1.heap.size w1 W)) := fun V hV => (HHo.out V (HA.out V hV.out)).mono fun e W h => ⟨h.1, hV.out.trans (h.2.mono hV.out.size)⟩
  have PP : Hid (∀ V (g : Nat), Hid (Below w1.heap.size w1 V) → V.heap[g]? = some (.cells #[.string (seqD (hostsD names names.length))] 9 (0, 0)) → Calls Tryz.prog 77 #[.int .i64 4, .slice (some ⟨g, 0, none⟩) 1 1] V fun e W => e = .returned (.string (thingD 4 (seqD (hostsD names names.length)))) ∧ Hid (Below w1.heap.size w1 W)) := fun V g hV hg => (implParts1 4 _ g V (by decide) (by omega) hg).mono fun e W h => ⟨h.1, hV.out.trans (h.2.mono hV.out.size)⟩
  have PS : Hid (∀ V (g : Nat), Hid (Below w1.heap.size w1 V) → V.heap[g]? = some (.cells #[.string (oidT [2, 5, 29, 17]), .string (thingD 4 (seqD (hostsD names names.length)))] 9 (0, 0)) → Calls Tryz.prog 76 #[.slice (some ⟨g, 0, none⟩) 2 2] V fun e W => e = .returned (.string (namesD names)) ∧ Hid (Below w1.heap.size w1 W)) := fun V g hV hg => by
    rw [hF]
    refine (implSeq2 _ _ g V (by omega) hg).mono ?_
    rintro e W ⟨rfl, hW⟩
    exact ⟨rfl, hV.out.trans (hW.mono hV.out.size)⟩
  have AL : Hid (∀ V o, Hid (Below w1.heap.size w1 V) → Hid (Below w1.heap.size w1 (V.alloc o))) := fun V o h => h.out.alloc h.out.size o
  have I1 : Hid (Below w1.heap.size w1 w1) := Below.refl _ _
  have D1 : Hid (Below w1.heap.size w1 w1.drew) := I1.out.drew
  have hni : (names.length : Int) ≠ 0 := by omega
  have hnb : ((names.length : Int) == 0) = false := by rw [beq_eq_false_iff_ne]; exact hni
  clear r0 ha z1 B1 HHo zH y1 y2 y3 hs hF
  generalize namesD names = N at *
  generalize thingD 4 (seqD (hostsD names names.length)) = q3 at *
  generalize seqD (hostsD names names.length) = q2 at *
  generalize oidT [2, 5, 29, 17] = q1 at *
  generalize names.length = nl at *
  have c0 := HK.out w1 I1.out
  go_enter Tryz.func110, Tryz.ntmps110
  go_upto_region 1 with fail
  rw [← hw1]
  clear hw1
  go_wp2_with fail
  go_region_held3 (fun V => V.cell? ⟨w.heap.size, 0, none⟩ = some (.slice a nl cap)) (first | assumption | exact HK.out _ (Hid.out (by assumption)) | go_keep)
    (first
      | (go_at_call 134; refine (PA.out _ (by assumption)).mono ?_; rintro r V1 ⟨rfl, kr, k1⟩)
      | (go_at_call 109; refine (PO.out _ _ (by assumption) (by assumption)).mono ?_; rintro r V2 ⟨rfl, k2⟩)
      | (go_at_call 135; refine (PH.out _ (by assumption)).mono ?_; rintro r V3 ⟨rfl, k3⟩)
      | (go_at_call 77; refine (PP.out _ _ (AL.out _ _ (by assumption)) (heap_alloc_new _ _)).mono ?_; rintro r V4 ⟨rfl, k4⟩)
      | (go_at_call 76; refine (PS.out _ _ (AL.out _ _ (by assumption)) (heap_alloc_new _ _)).mono ?_; rintro r V5 ⟨rfl, k5⟩))
  go_wp2
  go_ret
  exact ⟨rfl, HB.out _ k5.out⟩
set_option maxHeartbeats 4000000 in
set_option maxRecDepth 100000 in
theorem implLayCa (v : Value) (ca : Bool) (w : World) :
    Calls Tryz.prog 111 #[.agg #[v, .bool ca]] w fun e w' => e = .returned (.string (caD ca)) ∧ Below w.heap.size w w' := by
  cases ca with
  | false =>
    go_enter Tryz.func111, Tryz.ntmps111
    go_wp2
    go_ret
    exact ⟨rfl, (Below.refl _ w).alloc (Nat.le_refl _) _⟩
  | true =>
    have hF : caD true = caT := rfl
    rw [hF]
    have x1 := arcs_lit arcs19
    have x2 := soD_le
    have x3 := seqD_le soD
    have x4 := thingD_le 4 (seqD soD)
    obtain ⟨w1, hw1⟩ : ∃ w1, w1 = w.alloc (.cells #[v, .bool true] 96 (0, 0)) := ⟨_, rfl⟩
    have B1 : Hid (Below w.heap.size w w1) := by rw [hw1]; exact (Below.refl _ _).alloc (Nat.le_refl _) _
    have r0 : w1.heap[w.heap.size]? = some (.cells [v, Value.bool true].toArray 96 (0, 0)) := by rw [hw1]; exact heap_alloc_new w _
    have c1 := rowFacts r0 1 _ rfl
    have HB : Hid (∀ V, Below w1.heap.size w1 V → Below w.heap.size w V) := fun V hV => B1.out.trans (hV.mono B1.out.size)
    have P0 : Hid (∀ V, Hid (Below w1.heap.size w1 V) → Calls Tryz.prog 106 #[.int .i64 1, .string ⟨#[255]⟩] V fun e W => e = .returned (.string (soD)) ∧ Hid (Below w1.heap.size w1 W)) := fun V hV => by
      have h := implDerPut 1 ⟨#[255]⟩ V (by show 1 ≤ maxLen; decide)
      rw [putD_right (by decide) (by show 1 ≤ 4000; omega)] at h
      refine h.mono ?_
      rintro e W ⟨rfl, hW⟩
      exact ⟨rfl, hV.out.trans (hW.mono hV.out.size)⟩
    have PA : Hid (∀ V, Hid (Below w1.heap.size w1 V) → Calls Tryz.prog 134 #[.int .i64 19] V fun e W => e = .returned (.slice (some ⟨V.heap.size, 0, none⟩) 4 4) ∧ Hid (W.heap[V.heap.size]? = some (.cells #[.int .i64 2, .int .i64 5, .int .i64 29, .int .i64 19] 2 (0, 0))) ∧ Hid (Below w1.heap.size w1 W)) := fun V hV => by
      refine (implArcs 19 V).mono ?_
      rintro e W ⟨rfl, hr, hW⟩
      exact ⟨rfl, hr, hV.out.trans (hW.mono hV.out.size)⟩
    have PO : Hid (∀ V (g : Nat), Hid (Below w1.heap.size w1 V) → Hid (V.heap[g]? = some (.cells #[.int .i64 2, .int .i64 5, .int .i64 29, .int .i64 19] 2 (0, 0))) → Calls Tryz.prog 109 #[.slice (some ⟨g, 0, none⟩) 4 4] V fun e W => e = .returned (.string (oidT [2, 5, 29, 19])) ∧ Hid (Below w1.heap.size w1 W)) := fun V g hV hg => (implOid4 2 5 29 19 g V arcs19 hg.out).mono fun e W h => ⟨h.1, hV.out.trans (h.2.mono hV.out.size)⟩
    have P1 : Hid (∀ V (g : Nat), Hid (Below w1.heap.size w1 V) → V.heap[g]? = some (.cells #[.string soD] 9 (0, 0)) → Calls Tryz.prog 76 #[.slice (some ⟨g, 0, none⟩) 1 1] V fun e W => e = .returned (.string (seqD soD)) ∧ Hid (Below w1.heap.size w1 W)) := fun V g hV hg => (implSeq1 _ g V (by omega) hg).mono fun e W h => ⟨h.1, hV.out.trans (h.2.mono hV.out.size)⟩
    have P2 : Hid (∀ V (g : Nat), Hid (Below w1.heap.size w1 V) → V.heap[g]? = some (.cells #[.string (seqD soD)] 9 (0, 0)) → Calls Tryz.prog 77 #[.int .i64 4, .slice (some ⟨g, 0, none⟩) 1 1] V fun e W => e = .returned (.string (thingD 4 (seqD soD))) ∧ Hid (Below w1.heap.size w1 W)) := fun V g hV hg => (implParts1 4 _ g V (by decide) (by omega) hg).mono fun e W h => ⟨h.1, hV.out.trans (h.2.mono hV.out.size)⟩
    have P3 : Hid (∀ V (g : Nat), Hid (Below w1.heap.size w1 V) → V.heap[g]? = some (.cells #[.string (oidT [2, 5, 29, 19]), .string soD, .string (thingD 4 (seqD soD))] 9 (0, 0)) → Calls Tryz.prog 76 #[.slice (some ⟨g, 0, none⟩) 3 3] V fun e W => e = .returned (.string (caT)) ∧ Hid (Below w1.heap.size w1 W)) := fun V g hV hg => (implSeq3 _ _ _ g V (by omega) hg).mono fun e W h => ⟨h.1, hV.out.trans (h.2.mono hV.out.size)⟩
    have AL : Hid (∀ V o, Hid (Below w1.heap.size w1 V) → Hid (Below w1.heap.size w1 (V.alloc o))) := fun V o h => h.out.alloc h.out.size o
    have I1 : Hid (Below w1.heap.size w1 w1) := Below.refl _ _
    clear x1 x2 x3 x4 r0 B1 hF
    generalize caT = q5 at *
    generalize thingD 4 (seqD soD) = q4 at *
    generalize seqD soD = q3 at *
    generalize soD = q2 at *
    generalize oidT [2, 5, 29, 19] = q1 at *
    go_enter Tryz.func111, Tryz.ntmps111
    go_upto_region 1 with fail
    rw [← hw1]
    clear hw1
    go_wp2_with fail
    refine (P0.out _ I1).mono ?_
    rintro e V1 ⟨rfl, k1⟩
    go_wp2_with fail
    refine (PA.out _ k1).mono ?_
    rintro e V2 ⟨rfl, kr, k2⟩
    go_wp2_with fail
    refine (PO.out _ _ k2 kr).mono ?_
    rintro e V3 ⟨rfl, k3⟩
    go_wp2_with fail
    refine (P1.out _ _ (AL.out _ _ k3) (heap_alloc_new V3 _)).mono ?_
    rintro e V4 ⟨rfl, k4⟩
    go_wp2_with fail
    refine (P2.out _ _ (AL.out _ _ k4) (heap_alloc_new V4 _)).mono ?_
    rintro e V5 ⟨rfl, k5⟩
    go_wp2_with fail
    refine (P3.out _ _ (AL.out _ _ k5) (heap_alloc_new V5 _)).mono ?_
    rintro e V6 ⟨rfl, k6⟩
    go_wp2
    go_ret
    exact ⟨rfl, HB.out _ k6.out⟩
end Go.Proofs.YtegmmaomaegjjaaGreatDoor
namespace Go.Proofs.YtegmmaomaegjjaaGreatDoor
open Go.RowKit

set_option maxHeartbeats 4000000 in
set_option maxRecDepth 100000 in
theorem implMore (a : Option Addr) (names : List ByteArray) (cap : Nat) (ca : Bool) (w : World) (hl : names.length ≤ 5) (hs : ∀ i, i < names.length → (tAt names i).size ≤ 40) (ha : IsStrs w a names) :
    Calls Tryz.prog 82 #[.agg #[.slice a names.length cap, .bool ca]] w fun e w' => e = .returned (.string (moreD names ca)) ∧ Below w.heap.size w w' := by
  have zN := namesD_le hl hs
  have zC := caD_le ca
  have HLn : Hid (∀ V, IsStrs V a names → Calls Tryz.prog 110 #[.agg #[.slice a names.length cap, .bool ca]] V fun e w' => e = .returned (.string (namesD names)) ∧ Below V.heap.size V w') := fun V hV => implLayNames a names cap ca V hl hs hV
  have HLc : Hid (∀ V, Calls Tryz.prog 111 #[.agg #[.slice a names.length cap, .bool ca]] V fun e w' => e = .returned (.string (caD ca)) ∧ Below V.heap.size V w') := fun V => implLayCa _ ca V
  have HJ1 : Hid (∀ V, Calls Tryz.prog 103 #[.string ⟨#[]⟩, .string (namesD names)] V fun e w' => e = .returned (.string (namesD names)) ∧ Below V.heap.size V w') := fun V => by
    have h := joinTexts ⟨#[]⟩ (namesD names) V (by show 0 ≤ _; omega) (by omega)
    have e : (⟨#[]⟩ : ByteArray) ++ namesD names = namesD names := ByteArray.empty_append
    rw [e] at h
    exact h
  have HJ2 : Hid (∀ V, Calls Tryz.prog 103 #[.string (namesD names), .string (caD ca)] V fun e w' => e = .returned (.string (namesD names ++ caD ca)) ∧ Below V.heap.size V w') := fun V => joinTexts _ _ V (by omega) (by omega)
  have zT : (namesD names ++ caD ca).size ≤ 370 := by rw [ByteArray.size_append]; omega
  obtain ⟨M, hM⟩ : ∃ M, M = moreD names ca := ⟨_, rfl⟩
  rw [← hM]
  have HM : Hid (M = moreT (namesD names ++ caD ca)) := hM
  clear hM zN zC hl hs
  generalize namesD names ++ caD ca = T at *
  generalize namesD names = N at *
  generalize caD ca = C at *
  generalize names.length = nl at *
  have TR : Hid (∀ V W, Hid (Below w.heap.size w V) → Below V.heap.size V W → Hid (Below w.heap.size w W)) := fun V W h k => h.out.trans (k.mono h.out.size)
  have HA : Hid (∀ V, Below w.heap.size w V → IsStrs V a names) := fun V hV => ha.keep hV
  clear ha
  go_enter Tryz.func82, Tryz.ntmps82
  go_wp2_with fail
  refine wp_loop_rounds 3 ?_
  rw [rounds_succ]
  go_wp2_with fail
  refine (HLn.out _ (HA.out _ (((Below.refl _ w).alloc (Nat.le_refl _) _).alloc (by simp) _))).mono ?_
  rintro e V1 ⟨rfl, b1⟩
  have f1 := b1.cell (p := ⟨w.heap.size + 1, 1, none⟩) (by simp)
  have g0 := b1.cell (p := ⟨w.heap.size, 0, none⟩) (by simp; omega)
  have g1 := b1.cell (p := ⟨w.heap.size, 1, none⟩) (by simp; omega)
  have z1 := b1.size
  simp at f1 g0 g1 z1
  have K1 : Hid (Below w.heap.size w V1) := (((Below.refl _ w).alloc (Nat.le_refl _) _).alloc (by simp) _).trans (b1.mono (by simp; omega))
  clear b1
  go_wp2_with fail
  refine (HJ1.out _).mono ?_
  rintro e V2 ⟨rfl, b2⟩
  have K2 := TR.out _ _ K1 b2
  have f2 := (b2.cell (p := ⟨w.heap.size + 1, 1, none⟩) (show w.heap.size + 1 < V1.heap.size by omega)).trans f1
  have h0 := (b2.cell (p := ⟨w.heap.size, 0, none⟩) (show w.heap.size < V1.heap.size by omega)).trans g0
  have h1 := (b2.cell (p := ⟨w.heap.size, 1, none⟩) (show w.heap.size < V1.heap.size by omega)).trans g1
  clear b2 f1 g0 g1 K1 z1 HJ1 HLn
  go_wp2_with fail
  rw [rounds_succ]
  go_wp2_with fail
  refine (HLc.out _).mono ?_
  rintro e V3 ⟨rfl, b3⟩
  have K3 := TR.out _ _ K2 b3
  clear b3 f2 h0 h1 K2 HLc
  go_wp2_with fail
  refine (HJ2.out _).mono ?_
  rintro e V4 ⟨rfl, b4⟩
  have K4 := TR.out _ _ K3 b4
  clear b4 K3 HJ2
  go_wp2_with fail
  rw [rounds_succ]
  by_cases ht : T.size = 0
  · have HF : Hid (M = ⟨#[]⟩) := by show _ = _; rw [HM.out, moreT, if_pos ht]
    have he := isEmpty_of ht
    go_wp2
    go_ret
    exact ⟨by rw [HF.out]; rfl, K4.out⟩
  · have hF : M = thingD 163 (seqD T) := by rw [HM.out, moreT, if_neg ht]
    have he := isEmpty_not ht
    have x1 := seqD_le T
    have P1 : Hid (∀ V (g : Nat), V.heap[g]? = some (.cells #[.string T] 9 (0, 0)) → Calls Tryz.prog 76 #[.slice (some ⟨g, 0, none⟩) 1 1] V fun e w' => e = .returned (.string (seqD T)) ∧ Below V.heap.size V w') := fun V g hg => implSeq1 _ g V (by omega) hg
    have P2 : Hid (∀ V (g : Nat), V.heap[g]? = some (.cells #[.string (seqD T)] 9 (0, 0)) → Calls Tryz.prog 77 #[.int .i64 163, .slice (some ⟨g, 0, none⟩) 1 1] V fun e w' => e = .returned (.string M) ∧ Below V.heap.size V w') := fun V g hg => by rw [hF]; exact implParts1 163 _ g V (by decide) (by omega) hg
    clear hF x1 HM
    generalize seqD T = q at *
    have AL : Hid (∀ V o, Hid (Below w.heap.size w V) → Hid (Below w.heap.size w (V.alloc o))) := fun V o h => h.out.alloc h.out.size o
    go_wp2_with fail
    refine (P1.out _ _ (heap_alloc_new V4 _)).mono ?_
    rintro e V5 ⟨rfl, b5⟩
    have K5 := TR.out _ _ (AL.out _ _ K4) b5
    clear b5
    go_wp2_with fail
    refine (P2.out _ _ (heap_alloc_new V5 _)).mono ?_
    rintro e V6 ⟨rfl, b6⟩
    have K6 := TR.out _ _ (AL.out _ _ K5) b6
    clear b6
    go_wp2
    go_ret
    exact ⟨rfl, K6.out⟩
end Go.Proofs.YtegmmaomaegjjaaGreatDoor
