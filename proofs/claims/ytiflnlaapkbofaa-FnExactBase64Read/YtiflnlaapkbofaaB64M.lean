/- The map of signs: impl.signValues, walked. -/
import Derived.Test.YtiflnlaapkbofaaB64R
import Derived.Maps.OwnSet
import Derived.Lib.OthersKept
import Derived.Lib.TrimU
import Derived.WalkArith
import Derived.Deep.Cut
namespace Go.Proofs.Ytiflnlaapkbofaa
open Go.RowKit Go.Lib Go.Maps

def sgnT : ByteArray := ⟨#[65, 66, 67, 68, 69, 70, 71, 72, 73, 74, 75, 76, 77, 78, 79, 80, 81, 82, 83, 84, 85, 86, 87, 88, 89, 90, 97, 98, 99, 100, 101, 102, 103, 104, 105, 106, 107, 108, 109, 110, 111, 112, 113, 114, 115, 116, 117, 118, 119, 120, 121, 122, 48, 49, 50, 51, 52, 53, 54, 55, 56, 57, 45, 95]⟩
theorem sgnT_at : ∀ k : Fin 64, ((sgnT.data.getD k 0).toNat : Int) = sg k := by decide +kernel
theorem sgnT_size : sgnT.size = 64 := rfl
theorem sgnT_get (k : Nat) (h : k < sgnT.size) : ((sgnT[k]'h).toNat : Int) = sg k := by
  have h1 := sgnT_at ⟨k, h⟩
  have h2 : sgnT.data.getD k 0 = sgnT[k]'h := by
    rw [Array.getD_eq_getD_getElem?, Array.getElem?_eq_getElem (show k < sgnT.data.size from h)]
    rfl
  rw [← h2]
  exact h1
/-- The map as it reads once the first k signs are in. -/
def sgD : Nat → DataW Unit
  | 0 => .map []
  | k + 1 => (sgD k).put (.int .i32 (sg k)) (.lit (.int .u8 (k : Int)))
theorem sgD_map : ∀ k, IsMap (sgD k)
  | 0 => ⟨_, rfl⟩
  | k + 1 => by
    obtain ⟨es, h⟩ := sgD_map k
    rw [sgD, h]
    exact ⟨_, rfl⟩
theorem key_ne {a b : Int} (h : a ≠ b) : (Lit.int .i32 a) ≠ (Lit.int .i32 b) := fun e => h (by cases e; rfl)
theorem keyLit (a : Int) : WideAt.IsKeyLit (.int .i32 a) := by first | trivial | simp [WideAt.IsKeyLit]
theorem sgD_some : ∀ k q, q < k → k ≤ 64 → has (sgD k) (.int .i32 (sg q)) = true ∧ ∀ z, (sgD k).atKey (.int .i32 (sg q)) z = .lit (.int .u8 (q : Int))
  | 0, q, h, _ => by omega
  | k + 1, q, h, hk => by
    by_cases e : q = k
    · subst e
      exact ⟨has_put_same (sgD_map q) (keyLit _) _, fun z => atKey_put_same (sgD_map q) (keyLit _) _ z⟩
    · have hne : sg q ≠ sg k := fun he => by
        have := sg_inj ⟨q, by omega⟩ ⟨k, by omega⟩ he
        simp at this
        exact e this
      have ih := sgD_some k q (by omega) (by omega)
      exact ⟨by rw [sgD, has_put_other (key_ne hne)]; exact ih.1, fun z => by rw [sgD, atKey_put_other (key_ne hne)]; exact ih.2 z⟩
theorem sgD_none : ∀ k (x : Int), (∀ q, q < k → sg q ≠ x) → has (sgD k) (.int .i32 x) = false
  | 0, _, _ => rfl
  | k + 1, x, h => by
    rw [sgD, has_put_other (key_ne (Ne.symm (h k (by omega))))]
    exact sgD_none k x fun q hq => h q (by omega)
theorem lawR : Keyed Try.prog 21 := int_keyed Try.underlying21
theorem zeroB (w : World) : (zeroValue 5).run Try.prog w = .ok (.int .u8 0) w := by kernel_rfl
theorem ownsMap_iterAt {w : World} {P : Program} {k : TypeId} {R : Value → Option (DataW Unit × List MemPlace)} {b n r : Nat} {D : DataW Unit} {s : ByteArray} {p : Nat} (h : w.ownsMap P k R b n D) (hne : b ≠ r) : (w.iterAt r s p).ownsMap P k R b n D := by
  obtain ⟨es, clock, hb, rest⟩ := h
  exact ⟨es, clock, (iterAt_other w r b s p hne).trans hb, rest⟩
set_option maxHeartbeats 4000000 in
set_option maxRecDepth 100000 in
theorem signVals (w : World) :
    Calls Try.prog 16 #[] w fun e w' => e = .returned (.map (some w.heap.size)) ∧ w'.ownsMap Try.prog 21 (plainElem Try.prog 5) w.heap.size 64 (sgD 64) ∧ Below w.heap.size w w' := by
  have hmm := @run_makeMap Try.prog
  go_enter Try.func16, Try.ntmps16
  go_wp2
  go_loopw [] (fun wr => ∃ k : Nat, k ≤ 64 ∧ wr.heap[w.heap.size + 1]? = some (.stringIter sgnT k) ∧ wr.ownsMap Try.prog 21 (plainElem Try.prog 5) w.heap.size k (sgD k) ∧ Below w.heap.size w wr) (fun wr => 64 - wr.iterPos (w.heap.size + 1))
  case atStart =>
    refine ⟨0, Nat.zero_le _, ?_, ?_, ?_⟩
    · have := World.iter_heap (w.alloc (.map #[] 0)) sgnT 0
      rw [show (w.alloc (.map #[] 0)).heap.size = w.heap.size + 1 from by simp] at this
      exact this
    · exact (World.ownsMap_made w _ _ _).alloc _
    · exact ((Below.refl _ w).alloc (Nat.le_refl _) _).alloc (by simp) _
  case round =>
    obtain ⟨k, hk, hit, hown, hbel⟩ := hrel
    have hpos : wr.iterPos (w.heap.size + 1) = k := by simp [World.iterPos, hit]
    have HP : Hid (wr.iterPos (w.heap.size + 1) = k) := hpos
    clear hpos
    by_cases hlt : k < 64
    rotate_left
    · obtain rfl : k = 64 := by omega
      have hnx := fun ty => run_next_end_at (P := Try.prog) wr (w.heap.size + 1) sgnT 64 ty hit (by rw [sgnT_size]; omega)
      have HO : Hid _ := hown
      have HB : Hid (Below w.heap.size w wr) := hbel
      clear hit hown hbel
      go_wp2
      go_ret
      exact ⟨rfl, HO.out, HB.out⟩
    have hks : k < sgnT.size := by rw [sgnT_size]; exact hlt
    have hsg := sgnT_get k hks
    have hr := sg_range ⟨k, hlt⟩
    simp only at hr
    have hnx : ∀ ty, (Instr.next (.pointer (some ⟨w.heap.size + 1, 0, none⟩)) true ty).run Try.prog wr = .ok (.tuple #[.bool true, .int .i64 (k : Int), .int .i32 (sg k)]) (wr.iterAt (w.heap.size + 1) sgnT (k + 1)) := fun ty => by
      have := run_next_ascii_at (P := Try.prog) wr (w.heap.size + 1) sgnT k ty hit hks (by omega)
      rw [this, hsg]
    obtain ⟨w2, hw2⟩ : ∃ y, y = wr.iterAt (w.heap.size + 1) sgnT (k + 1) := ⟨_, rfl⟩
    have hown2 : w2.ownsMap Try.prog 21 (plainElem Try.prog 5) w.heap.size k (sgD k) := by rw [hw2]; exact ownsMap_iterAt hown (by omega)
    have HI2 : Hid (w2.heap[w.heap.size + 1]? = some (.stringIter sgnT (k + 1))) := by rw [hw2]; exact iterAt_heap wr _ _ _ _ hit
    have HB2 : Hid (Below w.heap.size w w2) := by rw [hw2]; exact below_iterAt hbel (by omega) _ _
    rw [← hw2] at hnx
    have hwb : IntKind.u8.wrap (k : Int) = (k : Int) := by rw [IntKind.wrap_u8]; omega
    have hkey : keyOf Try.prog 21 (.int .i32 (sg k)) = some (.int .i32 (sg k)) := keyOf_int_mk Try.underlying21 (WalkArith.wf_i32 (by omega))
    have hwf : (Lit.int .u8 (k : Int)).wf = true := WalkArith.wf_u8 (by omega)
    clear hit hown hbel hsg hks hr hw2
    go_wp2_with (at_mapUpdate; refine wpList_mapUpdate_own _ rfl _ _ _ 37 rfl 21 5 lawR Try.underlying37 _ w.heap.size k _ rfl hown2 (by unfold maxLen; omega) _ _ _ rfl rfl hkey _ [] (plainElem_int Try.underlying5 hwf) ?_; intro w3 hown3 hgrow3)
    have HI3 : Hid (w3.heap[w.heap.size + 1]? = some (.stringIter sgnT (k + 1))) := (hgrow3.block _ (Array.getElem?_eq_some_iff.1 HI2.out).1 (by simp)).trans HI2.out
    have HB3 : Hid (Below w.heap.size w w3) := HB2.out.grown hgrow3 HB2.out.size (fun j hj => by cases hj; exact Nat.le_refl _)
    have HO3 : Hid _ := hown3
    clear hown3 hgrow3 hown2
    go_wp2
    go_frame
    go_roundw
    case rel => exact ⟨k + 1, by omega, HI3.out, HO3.out, HB3.out⟩
    case measure =>
      have e : w3.iterPos (w.heap.size + 1) = k + 1 := by simp [World.iterPos, HI3.out]
      rw [e, HP.out]
      omega
end Go.Proofs.Ytiflnlaapkbofaa
