/- strings.Split at a dot: by the shelf's genSplit and its callees at one byte. What Base64Read tells, as a value. The map of signs: impl.signValues, walked. -/
import Derived.Test.YtmegmcngcehneaaGreatDoorJX01
import Derived.Test.YtmegmcngcehneaaGreatDoorJX11
import Derived.Test.YtmegmcngcehneaaGreatDoorJX19
import Derived.Test.YtmegmcngcehneaaGreatDoorJX10
import Derived.Test.YtmegmcngcehneaaGreatDoorJX06
import Derived.Deep.MidRow
import Derived.Maps.OwnSet
import Derived.Lib.OthersKept
import Derived.Lib.TrimU
import Derived.WalkArith
import Derived.Deep.Cut
namespace Go.Proofs.YtmegmcngcehneaaGreatDoor
open Go.RowKit Go.Lib

theorem spl_splitK : ∀ (k : Nat) (l : List UInt8), count l [46] = k → (splitK [46] 0 k l).map (fun p => p.map UInt8.toNat) = spl (l.map UInt8.toNat) []
  | k, l, hk => by
    have hidx : index l [46] = indexByte l 46 := index_one l 46
    by_cases hn : indexByte l 46 = -1
    · have h1 := indexByte_none hn
      have hno : ∀ x ∈ l.map UInt8.toNat, x ≠ 46 := by
        intro x hx
        obtain ⟨u, hu, rfl⟩ := List.mem_map.1 hx
        obtain ⟨i, hi⟩ := List.mem_iff_getElem?.1 hu
        intro e
        have : u = 46 := by
          apply UInt8.toNat_inj.1
          rw [e]
          rfl
        exact h1 i (by rw [hi, this])
      rw [spl_end _ _ hno, List.nil_append]
      cases k with
      | zero => rfl
      | succ k => rw [splitK, hidx, hn]; rfl
    · have hge := indexByte_ge l 46
      obtain ⟨o, ho⟩ : ∃ o : Nat, indexByte l 46 = o := ⟨(indexByte l 46).toNat, by omega⟩
      obtain ⟨h1, h2⟩ := indexByte_some ho
      have hol : o < l.length := by
        rcases Nat.lt_or_ge o l.length with h | h
        · exact h
        · rw [List.getElem?_eq_none h] at h1; cases h1
      have hd : l = l.take o ++ 46 :: l.drop (o + 1) := by
        conv => lhs; rw [← List.take_append_drop o l, List.drop_eq_getElem_cons hol]
        rw [List.getElem?_eq_getElem hol] at h1
        rw [Option.some.inj h1]
      have hno8 : ∀ u ∈ l.take o, u ≠ 46 := by
        intro u hu e
        obtain ⟨i, hi⟩ := List.mem_iff_getElem?.1 hu
        rw [List.getElem?_take] at hi
        split at hi
        · rename_i hio
          exact h2 i hio (by rw [hi, e])
        · cases hi
      have hno : ∀ x ∈ (l.take o).map UInt8.toNat, x ≠ 46 := by
        intro x hx
        obtain ⟨u, hu, rfl⟩ := List.mem_map.1 hx
        intro e
        refine hno8 u hu ?_
        apply UInt8.toNat_inj.1
        rw [e]
        rfl
      have hc : count l [46] = count (l.drop (o + 1)) [46] + 1 := by
        rw [count_one, count_one]
        conv => lhs; rw [hd]
        rw [List.count_append, List.count_cons_self, List.count_eq_zero_of_not_mem (fun h => hno8 _ h rfl)]
        omega
      obtain ⟨k', rfl⟩ : ∃ k', k = k' + 1 := ⟨count (l.drop (o + 1)) [46], by omega⟩
      have ih := spl_splitK k' (l.drop (o + 1)) (by omega)
      have hb : ((o : Int) == -1) = false := by
        rw [beq_eq_false_iff_ne]
        omega
      rw [splitK, hidx, ho, hb]
      simp only [Bool.false_eq_true, if_false, Int.toNat_natCast, Nat.add_zero, List.length_cons, List.length_nil, Nat.zero_add, List.map_cons]
      rw [ih]
      conv => rhs; rw [hd]
      rw [List.map_append, List.map_cons]
      have e46 : UInt8.toNat 46 = 46 := rfl
      rw [e46, spl_dot _ _ _ hno]
      rfl
  termination_by k => k
theorem splitB_pcs (s : ByteArray) : splitB ⟨#[46]⟩ 0 (countB s ⟨#[46]⟩) s = pcs s := by
  have h1 := splitB_data ⟨#[46]⟩ 0 (countB s ⟨#[46]⟩) s
  have h2 := spl_splitK (count s.data.toList [46]) s.data.toList rfl
  have h3 : (splitB ⟨#[46]⟩ 0 (countB s ⟨#[46]⟩) s).map bts = spl (bts s) [] := by
    have e : (splitB ⟨#[46]⟩ 0 (countB s ⟨#[46]⟩) s).map bts = ((splitB ⟨#[46]⟩ 0 (countB s ⟨#[46]⟩) s).map (·.data.toList)).map (fun p => p.map UInt8.toNat) := by
      rw [List.map_map]
      rfl
    rw [e, h1]
    exact h2
  unfold pcs
  rw [← h3, List.map_map]
  conv => lhs; rw [← List.map_id (splitB ⟨#[46]⟩ 0 (countB s ⟨#[46]⟩) s)]
  apply List.map_congr_left
  intro x _
  exact (natT_bts x).symm
set_option maxHeartbeats 1000000 in
theorem genSplitDot (s : ByteArray) (w : World) (hs : s.size ≤ 20000) :
    Calls Tryz.prog 52 #[.string s, .string ⟨#[46]⟩, .int .i64 0, .int .i64 (-1)] w fun e w' =>
      e = .returned (.slice (some ⟨w.heap.size, 0, none⟩) (pcs s).length (pcs s).length) ∧ w' = w.alloc (.cells ((pcs s).map Value.string).toArray 9) := by
  have hC : Calls Tryz.prog (splitLays_ren.f 138) #[.string s, .string ⟨#[46]⟩] w fun e w' => e = .returned (.int .i64 (countB s ⟨#[46]⟩)) ∧ w' = w := by
    refine (Any.strings_Count_one { splitLays with } s 46 w).mono fun e w' ⟨he, hw⟩ => ⟨?_, hw⟩
    rw [he]
    show _ = Ending.returned (Value.int .i64 ((count s.data.toList [46] : Nat) : Int))
    rw [count_one]
    rfl
  have hI : ∀ (x : ByteArray) (c : Array Value), x.size ≤ s.size → Calls Tryz.prog (splitLays_ren.f 143) #[.string x, .string ⟨#[46]⟩] (w.alloc (.cells c (splitLays_ren.t 9))) fun e w' => e = .returned (.int .i64 (indexB x ⟨#[46]⟩)) ∧ w' = w.alloc (.cells c (splitLays_ren.t 9)) := by
    intro x c _
    refine (Any.strings_Index_one { splitLays with } x 46 _).mono fun e w' ⟨he, hw⟩ => ⟨?_, hw⟩
    rw [he]
    show _ = Ending.returned (Value.int .i64 (index x.data.toList [46]))
    rw [index_one]
  have hcl := countB_le ⟨#[46]⟩ (Nat.le_refl 1) s.size s (Nat.le_refl _)
  have hl := splitB_all ⟨#[46]⟩ (Nat.le_refl 1) 0 (countB s ⟨#[46]⟩) s rfl
  have h := Any.strings_genSplit_core splitLays (by kernel_rfl) s ⟨#[46]⟩ 0 (-1) (countB s ⟨#[46]⟩ + 1) w (by omega) (Nat.le_refl 1) (Nat.zero_le _) hI hC (by decide) (by decide) (by rw [if_pos (by decide)]; omega)
  rw [Nat.add_sub_cancel] at h
  rw [splitB_pcs] at h hl
  rw [← hl] at h
  have e2 : cellsOf (pcs s) (pcs s).length = ((pcs s).map Value.string).toArray := cellsOf_full _
  rw [e2] at h
  exact h
set_option maxHeartbeats 1000000 in
theorem implSplit (s : ByteArray) (w : World) (hs : s.size ≤ 20000) :
    Calls Tryz.prog 32 #[.string s, .string ⟨#[46]⟩] w fun e w' =>
      e = .returned (.slice (some ⟨w.heap.size, 0, none⟩) (pcs s).length (pcs s).length) ∧ w' = w.alloc (.cells ((pcs s).map Value.string).toArray 9) := by
  have HG : Hid (∀ V, Calls Tryz.prog 52 #[.string s, .string ⟨#[46]⟩, .int .i64 0, .int .i64 (-1)] V fun e w' => e = .returned (.slice (some ⟨V.heap.size, 0, none⟩) (pcs s).length (pcs s).length) ∧ w' = V.alloc (.cells ((pcs s).map Value.string).toArray 9)) := fun V => genSplitDot s V hs
  go_enter Tryz.func32, Tryz.ntmps32
  go_wp2_with fail
  refine (HG.out w).mono ?_
  rintro e w2 ⟨rfl, hw⟩
  have HW : Hid _ := hw
  clear hw
  go_wp2
  go_ret
  exact ⟨rfl, HW.out⟩
end Go.Proofs.YtmegmcngcehneaaGreatDoor
namespace Go.Proofs.YtmegmcngcehneaaGreatDoor
open Go.RowKit Go.Lib

theorem sizeTextOut : (Tryz.prog.info? 45).map (·.size) = some 3 := by kernel_rfl
def txtV (x : ByteArray × Int) : Value := .agg #[.string x.1, .int .i64 0, .int .i64 x.2]
end Go.Proofs.YtmegmcngcehneaaGreatDoor
namespace Go.Proofs.YtmegmcngcehneaaGreatDoor
open Go.RowKit Go.Lib Go.Maps

def sgnT : ByteArray := ⟨#[65, 66, 67, 68, 69, 70, 71, 72, 73, 74, 75, 76, 77, 78, 79, 80, 81, 82, 83, 84, 85, 86, 87, 88, 89, 90, 97, 98, 99, 100, 101, 102, 103, 104, 105, 106, 107, 108, 109, 110, 111, 112, 113, 114, 115, 116, 117, 118, 119, 120, 121, 122, 48, 49, 50, 51, 52, 53, 54, 55, 56, 57, 45, 95]⟩
theorem sgnT_at : ∀ k : Fin 64, ((sgnT.data.getD k 0).toNat : Int) = sg k := by decide +kernel
theorem sgnT_size : sgnT.size = 64 := rfl
theorem sgnT_get (k : Nat) (h : k < sgnT.size) : ((sgnT[k]'h).toNat : Int) = sg k := by
  have h1 := sgnT_at ⟨k, h⟩
  have h2 : sgnT.data.getD k 0 = sgnT[k]'h := by
    rw [Array.getD_eq_getD_getElem?, Array.getElem?_eq_getElem (show k < sgnT.data.size from h)]
    rfl
  rw [← h2]
  exact h1
/-- The map as it reads once the first k signs are in. -/
def sgD : Nat → DataW Unit
  | 0 => .map []
  | k + 1 => (sgD k).put (.int .i32 (sg k)) (.lit (.int .u8 (k : Int)))
theorem sgD_map : ∀ k, IsMap (sgD k)
  | 0 => ⟨_, rfl⟩
  | k + 1 => by
    obtain ⟨es, h⟩ := sgD_map k
    rw [sgD, h]
    exact ⟨_, rfl⟩
theorem key_ne {a b : Int} (h : a ≠ b) : (Lit.int .i32 a) ≠ (Lit.int .i32 b) := fun e => h (by cases e; rfl)
theorem keyLit (a : Int) : WideAt.IsKeyLit (.int .i32 a) := by first | trivial | simp [WideAt.IsKeyLit]
theorem sgD_some : ∀ k q, q < k → k ≤ 64 → has (sgD k) (.int .i32 (sg q)) = true ∧ ∀ z, (sgD k).atKey (.int .i32 (sg q)) z = .lit (.int .u8 (q : Int))
  | 0, q, h, _ => by omega
  | k + 1, q, h, hk => by
    by_cases e : q = k
    · subst e
      exact ⟨has_put_same (sgD_map q) (keyLit _) _, fun z => atKey_put_same (sgD_map q) (keyLit _) _ z⟩
    · have hne : sg q ≠ sg k := fun he => by
        have := sg_inj ⟨q, by omega⟩ ⟨k, by omega⟩ he
        simp at this
        exact e this
      have ih := sgD_some k q (by omega) (by omega)
      exact ⟨by rw [sgD, has_put_other (key_ne hne)]; exact ih.1, fun z => by rw [sgD, atKey_put_other (key_ne hne)]; exact ih.2 z⟩
theorem sgD_none : ∀ k (x : Int), (∀ q, q < k → sg q ≠ x) → has (sgD k) (.int .i32 x) = false
  | 0, _, _ => rfl
  | k + 1, x, h => by
    rw [sgD, has_put_other (key_ne (Ne.symm (h k (by omega))))]
    exact sgD_none k x fun q hq => h q (by omega)
theorem lawR : Keyed Tryz.prog 21 := int_keyed Tryz.underlying21
theorem zeroB (w : World) : (zeroValue 5).run Tryz.prog w = .ok (.int .u8 0) w := by kernel_rfl
theorem ownsMap_iterAt {w : World} {P : Program} {k : TypeId} {R : Value → Option (DataW Unit × List MemPlace)} {b n r : Nat} {D : DataW Unit} {s : ByteArray} {p : Nat} (h : w.ownsMap P k R b n D) (hne : b ≠ r) : (w.iterAt r s p).ownsMap P k R b n D := by
  obtain ⟨es, clock, hb, rest⟩ := h
  exact ⟨es, clock, (iterAt_other w r b s p hne).trans hb, rest⟩
set_option maxHeartbeats 4000000 in
set_option maxRecDepth 100000 in
theorem signVals (w : World) :
    Calls Tryz.prog 70 #[] w fun e w' => e = .returned (.map (some w.heap.size)) ∧ w'.ownsMap Tryz.prog 21 (plainElem Tryz.prog 5) w.heap.size 64 (sgD 64) ∧ Below w.heap.size w w' := by
  have hmm := @run_makeMap Tryz.prog
  go_enter Tryz.func70, Tryz.ntmps70
  go_wp2
  go_loopw [] (fun wr => ∃ k : Nat, k ≤ 64 ∧ wr.heap[w.heap.size + 1]? = some (.stringIter sgnT k) ∧ wr.ownsMap Tryz.prog 21 (plainElem Tryz.prog 5) w.heap.size k (sgD k) ∧ Below w.heap.size w wr) (fun wr => 64 - wr.iterPos (w.heap.size + 1))
  case atStart =>
    refine ⟨0, Nat.zero_le _, ?_, ?_, ?_⟩
    · have := World.iter_heap (w.alloc (.map #[] 0)) sgnT 0
      rw [show (w.alloc (.map #[] 0)).heap.size = w.heap.size + 1 from by simp] at this
      exact this
    · exact (World.ownsMap_made w _ _ _).alloc _
    · exact ((Below.refl _ w).alloc (Nat.le_refl _) _).alloc (by simp) _
  case round =>
    obtain ⟨k, hk, hit, hown, hbel⟩ := hrel
    have hpos : wr.iterPos (w.heap.size + 1) = k := by simp [World.iterPos, hit]
    have HP : Hid (wr.iterPos (w.heap.size + 1) = k) := hpos
    clear hpos
    by_cases hlt : k < 64
    rotate_left
    · obtain rfl : k = 64 := by omega
      have hnx := fun ty => run_next_end_at (P := Tryz.prog) wr (w.heap.size + 1) sgnT 64 ty hit (by rw [sgnT_size]; omega)
      have HO : Hid _ := hown
      have HB : Hid (Below w.heap.size w wr) := hbel
      clear hit hown hbel
      go_wp2
      go_ret
      exact ⟨rfl, HO.out, HB.out⟩
    have hks : k < sgnT.size := by rw [sgnT_size]; exact hlt
    have hsg := sgnT_get k hks
    have hr := sg_range ⟨k, hlt⟩
    simp only at hr
    have hnx : ∀ ty, (Instr.next (.pointer (some ⟨w.heap.size + 1, 0, none⟩)) true ty).run Tryz.prog wr = .ok (.tuple #[.bool true, .int .i64 (k : Int), .int .i32 (sg k)]) (wr.iterAt (w.heap.size + 1) sgnT (k + 1)) := fun ty => by
      have := run_next_ascii_at (P := Tryz.prog) wr (w.heap.size + 1) sgnT k ty hit hks (by omega)
      rw [this, hsg]
    obtain ⟨w2, hw2⟩ : ∃ y, y = wr.iterAt (w.heap.size + 1) sgnT (k + 1) := ⟨_, rfl⟩
    have hown2 : w2.ownsMap Tryz.prog 21 (plainElem Tryz.prog 5) w.heap.size k (sgD k) := by rw [hw2]; exact ownsMap_iterAt hown (by omega)
    have HI2 : Hid (w2.heap[w.heap.size + 1]? = some (.stringIter sgnT (k + 1))) := by rw [hw2]; exact iterAt_heap wr _ _ _ _ hit
    have HB2 : Hid (Below w.heap.size w w2) := by rw [hw2]; exact below_iterAt hbel (by omega) _ _
    rw [← hw2] at hnx
    have hwb : IntKind.u8.wrap (k : Int) = (k : Int) := by rw [IntKind.wrap_u8]; omega
    have hkey : keyOf Tryz.prog 21 (.int .i32 (sg k)) = some (.int .i32 (sg k)) := keyOf_int_mk Tryz.underlying21 (WalkArith.wf_i32 (by omega))
    have hwf : (Lit.int .u8 (k : Int)).wf = true := WalkArith.wf_u8 (by omega)
    clear hit hown hbel hsg hks hr hw2
    go_wp2_with (at_mapUpdate; refine wpList_mapUpdate_own _ rfl _ _ _ 87 rfl 21 5 lawR Tryz.underlying87 _ w.heap.size k _ rfl hown2 (by unfold maxLen; omega) _ _ _ rfl rfl hkey _ [] (plainElem_int Tryz.underlying5 hwf) ?_; intro w3 hown3 hgrow3)
    have HI3 : Hid (w3.heap[w.heap.size + 1]? = some (.stringIter sgnT (k + 1))) := (hgrow3.block _ (Array.getElem?_eq_some_iff.1 HI2.out).1 (by simp)).trans HI2.out
    have HB3 : Hid (Below w.heap.size w w3) := HB2.out.grown hgrow3 HB2.out.size (fun j hj => by cases hj; exact Nat.le_refl _)
    have HO3 : Hid _ := hown3
    clear hown3 hgrow3 hown2
    go_wp2
    go_frame
    go_roundw
    case rel => exact ⟨k + 1, by omega, HI3.out, HO3.out, HB3.out⟩
    case measure =>
      have e : w3.iterPos (w.heap.size + 1) = k + 1 := by simp [World.iterPos, HI3.out]
      rw [e, HP.out]
      omega
end Go.Proofs.YtmegmcngcehneaaGreatDoor
