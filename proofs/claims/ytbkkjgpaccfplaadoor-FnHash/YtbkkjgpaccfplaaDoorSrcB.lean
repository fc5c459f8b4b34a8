/- The draws' source: what it keeps; '.one', '.bytes', 'l01Source', walked. -/
import Derived.Test.YtbkkjgpaccfplaaDoorSrcA
namespace Go.Proofs.YtbkkjgpaccfplaaDoor
open Go.RowKit

structure Src (g : Nat) (a : Option Addr) (len cap : Nat) (w : World) : Prop where
  at_ : SrcAt g a len cap w
  code : CodeAt a len w
  ne : ∀ x, 0 < len → a = some x → x.block ≠ g
  le : len ≤ 1048576
theorem Src.lt {g : Nat} {a : Option Addr} {len cap : Nat} {w : World} (h : Src g a len cap w) : g < w.heap.size := by
  obtain ⟨_, _, _, _, _, _, hg⟩ := h.at_
  exact heap_lt hg
theorem CodeAt.grown {a : Option Addr} {len : Nat} {w w' : World} {row : Option Nat} (h : CodeAt a len w) (hg : w.grownBy w' row) (hne : ∀ x, 0 < len → a = some x → some x.block ≠ row) : CodeAt a len w' := by
  rcases h with h | ⟨b, off, rfl, hc⟩
  · exact .inl h
  · refine .inr ⟨b, off, rfl, fun i hi => ?_⟩
    obtain ⟨z, hz, hcell⟩ := hc i hi
    exact ⟨z, hz, hg.cell hcell (hne ⟨b, off, none⟩ (by omega) rfl)⟩
theorem Src.grown {g : Nat} {a : Option Addr} {len cap : Nat} {w w' : World} {row : Option Nat} (h : Src g a len cap w) (hg : w.grownBy w' row) (hr : some g ≠ row) (hne : ∀ x, 0 < len → a = some x → some x.block ≠ row) : Src g a len cap w' := by
  have hlt := h.lt
  obtain ⟨p, m, z, hp, hm, hz, hh⟩ := h.at_
  exact ⟨⟨p, m, z, hp, hm, hz, (hg.block g hlt hr).trans hh⟩, h.code.grown hg hne, h.ne, h.le⟩
theorem Src.alloc {g : Nat} {a : Option Addr} {len cap : Nat} {w : World} (h : Src g a len cap w) (o : Obj) : Src g a len cap (w.alloc o) :=
  h.grown (World.grownBy_alloc w o none) (by simp) (fun _ _ _ => by simp)
theorem Src.drew {g : Nat} {a : Option Addr} {len cap : Nat} {w : World} (h : Src g a len cap w) : Src g a len cap w.drew := ⟨h.at_, h.code, h.ne, h.le⟩
theorem Src.drewN {g : Nat} {a : Option Addr} {len cap : Nat} {w : World} (h : Src g a len cap w) (n : Nat) : Src g a len cap (w.drewN n) := ⟨h.at_, h.code, h.ne, h.le⟩
theorem n_any (g : Nat) (a : Option Addr) (len cap : Nat) (most : Nat) (w : World) (hm : most ≤ 4611686018427387904) (hs : Src g a len cap w) :
    Calls Tryd.prog 30 #[.pointer (some ⟨g, 0, none⟩), .int .i64 (most : Int)] w fun e w' =>
      ∃ r : Nat, e = .returned (.int .i64 (r : Int)) ∧ (r < most ∨ r = 0) ∧ Src g a len cap w' ∧ Turns g w w' := by
  refine (srcN g a len cap most w hs.le hm hs.at_ hs.code hs.ne).mono ?_
  rintro e w' ⟨r, rfl, hr, h1, h2⟩
  exact ⟨r, rfl, hr, ⟨h1, hs.code.grown h2.1 (fun x h0 hx => by have := hs.ne x h0 hx; simpa using this), hs.ne, hs.le⟩, h2⟩
/-- Some bool is answered. -/
def AnyB (e : Ending) : Prop := e = .returned (.bool true) ∨ e = .returned (.bool false)
theorem one_any (g : Nat) (a : Option Addr) (len cap : Nat) (most : Nat) (w : World) (hm : most ≤ 4611686018427387904) (hs : Src g a len cap w) :
    Calls Tryd.prog 29 #[.pointer (some ⟨g, 0, none⟩), .int .i64 (most : Int)] w fun e w' => AnyB e ∧ Src g a len cap w' ∧ Turns g w w' := by
  have HS : Hid (Src g a len cap w) := hs
  clear hs
  go_enter Tryd.func29, Tryd.ntmps29
  go_wp2_with fail
  refine (n_any g a len cap most _ hm HS.out).mono ?_
  rintro e w' ⟨r, rfl, hr, h1, h2⟩
  have H1 : Hid (Src g a len cap w') := h1
  have H2 : Hid (Turns g w w') := h2
  clear h1 h2 hr
  by_cases h0 : r = 0
  · subst h0
    go_wp2
    go_ret
    exact ⟨.inl rfl, H1.out, H2.out⟩
  · have e0 : ((r : Int) == 0) = false := by rw [beq_eq_false_iff_ne]; omega
    go_wp2
    go_ret
    exact ⟨.inr rfl, H1.out, H2.out⟩
/-- The frame of a call that turns block g and makes new blocks. -/
def Grows (g : Nat) (w w' : World) : Prop := w.grownBy w' (some g)
theorem Grows.refl (g : Nat) (w : World) : Grows g w w := World.grownBy.refl _ _
theorem Turns.grows {g : Nat} {w w' : World} (h : Turns g w w') : Grows g w w' := h.1
theorem Grows.trans {g : Nat} {a b c : World} (h : Grows g a b) (k : Grows g b c) : Grows g a c :=
  ⟨k.os.trans h.os, k.tape.trans h.tape, k.output.trans h.output, Nat.le_trans h.size k.size, fun j hj hn => (k.block j (Nat.lt_of_lt_of_le hj h.size) hn).trans (h.block j hj hn)⟩
theorem Grows.grown {g : Nat} {a b c : World} {row : Option Nat} (h : Grows g a b) (k : b.grownBy c row) (hr : ∀ j, row = some j → a.heap.size ≤ j) : Grows g a c :=
  ⟨k.os.trans h.os, k.tape.trans h.tape, k.output.trans h.output, Nat.le_trans h.size k.size, fun j hj hn => (k.block j (Nat.lt_of_lt_of_le hj h.size) (fun e => by have := hr j e.symm; omega)).trans (h.block j hj hn)⟩
theorem Grows.alloc {g : Nat} {a b : World} (h : Grows g a b) (o : Obj) : Grows g a (b.alloc o) := h.grown (World.grownBy_alloc b o none) (fun j hj => by cases hj)
theorem Grows.drew {g : Nat} {a b : World} (h : Grows g a b) : Grows g a b.drew := ⟨h.os, h.tape, h.output, h.size, h.block⟩
theorem Grows.below {g B : Nat} {a w w' : World} (h : Grows g w w') (hb : Below B a w) (hB : B ≤ g) (hs : B ≤ w.heap.size) : Below B a w' :=
  hb.grown h hs (fun k hk => by cases hk; exact hB)

/-- Some text of k bytes is answered. -/
def AnyT (k : Nat) (e : Ending) : Prop := ∃ t : ByteArray, t.size = k ∧ e = .returned (.string t)
theorem size_nums (xs : List Int) : (strOfNums xs).size = xs.length := by simp [strOfNums, ByteArray.size]
theorem bytesRel {g : Nat} {a : Option Addr} {len cap n : Nat} {w wr w2 w1 : World} {v v' : Value} {xs ys : List Value} (o : Obj) (hblk : ∀ x, 0 < len → a = some x → x.block < w.heap.size) (hg : g < w.heap.size)
    (hT : Turns g wr w2) (hs : Src g a len cap w2) (hgr : Grows g w wr) (hown : w2.ownsRow w.heap.size 5 1 v n xs) (hown' : w1.ownsRow w.heap.size 5 1 v' (n + 1) ys) (hgrow : (w2.alloc o).grownBy w1 v.ownBlock) :
    w1.ownsRow w.heap.size 5 1 v' (n + 1) ys ∧ Src g a len cap w1 ∧ Grows g w w1 := by
  have hlt := fun k hk => (hown.lt k hk).1
  refine ⟨hown', (hs.alloc o).grown hgrow (fun e => by have := hlt g e.symm; omega) (fun x h0 hx e => by have := hlt _ e.symm; have := hblk x h0 hx; omega), ?_⟩
  exact ((hgr.trans hT.grows).alloc o).grown hgrow hlt
set_option maxHeartbeats 2000000 in
set_option maxRecDepth 100000 in
theorem bytes_any (g : Nat) (a : Option Addr) (len cap k : Nat) (w : World) (hk : k ≤ 100000) (hs : Src g a len cap w) (hblk : ∀ x, 0 < len → a = some x → x.block < w.heap.size) :
    Calls Tryd.prog 31 #[.pointer (some ⟨g, 0, none⟩), .int .i64 (k : Int)] w fun e w' => AnyT k e ∧ Src g a len cap w' ∧ Grows g w w' := by
  obtain ⟨i0, hi, hz0, hz1, hz2⟩ := info_parts infoByte
  have hglt := hs.lt
  have HS : Hid (Src g a len cap w) := hs
  have HBk : Hid (∀ x, 0 < len → a = some x → x.block < w.heap.size) := hblk
  clear hs hblk
  go_enter Tryd.func31, Tryd.ntmps31
  go_wp2
  go_loopw [5, 6] (fun b i wr => ∃ (j : Nat) (xs : List Int), j ≤ k ∧ xs.length = j ∧ i = .int .i64 j ∧ wr.ownsRow w.heap.size 5 1 b j (xs.map (Value.int .u8)) ∧ Src g a len cap wr ∧ Grows g w wr)
    (fun _ i _ => k - (intOf i).toNat)
  case atStart =>
    exact ⟨0, [], Nat.zero_le _, rfl, rfl, World.ownsRow_made _ #[] 0 (Nat.le_refl _) (Nat.zero_le _) rfl, HS.out.alloc _, (Grows.refl _ _).alloc _⟩
  case round =>
    obtain ⟨j, xs, hj, hl, rfl, hown, hs, hgr⟩ := hrel
    have HL : Hid (xs.length = j) := hl
    have H1 : Hid (Src g a len cap wr) := hs
    have H2 : Hid (Grows g w wr) := hgr
    clear hl hs hgr
    by_cases hlt : j < k
    · go_wp2_with fail
      refine (n_any g a len cap 256 _ (by omega) H1.out).mono ?_
      rintro e w2 ⟨r, rfl, hr, hs2, ht2⟩
      have hr' : (r : Int) ≤ 255 := by omega
      have hne : g < w.heap.size := hglt
      have hown2 : w2.ownsRow w.heap.size 5 1 u5 j (xs.map (Value.int .u8)) := hown.kept ht2.1 (by
        cases hob : u5.ownBlock with
        | none => exact .inl rfl
        | some q => right; intro e; have := (hown.lt q hob).1; have e' := Option.some.inj e; omega)
      have H3 : Hid (Src g a len cap w2) := hs2
      have H4 : Hid (Turns g wr w2) := ht2
      have hsz : w.heap.size ≤ w2.heap.size := by rw [ht2.2]; exact H2.out.size
      clear hr hs2 ht2 hown
      go_wp2_with (at_builtin; refine wpList_append_own _ rfl _ _ 22 rfl w.heap.size 5 i0 (.int .u8 0) 1 1 Tryd.underlying22 hi hz0 hz1 hz2 rfl (by decide) _ _ _ rfl (hown2.alloc _) ⟨w2.heap.size, 0, none⟩ 1 1 [.int .u8 (r : Int)] rfl rfl ?c1 ?c2 ?c3 ?c4 ?c5 ?_)
      case c1 => exact cells_one (by simp)
      case c2 => intro u hu; simp at hu; subst hu; rfl
      case c3 => unfold maxLen; omega
      case c4 => omega
      case c5 => simp; omega
      intro v' w1 hown' hgrow _
      obtain ⟨r1, r2, r3⟩ := bytesRel _ HBk.out hne H4.out H3.out H2.out hown2 hown' hgrow
      have R2 : Hid (Src g a len cap w1) := r2
      have R3 : Hid (Grows g w w1) := r3
      clear hown' hgrow hown2 r2 r3
      go_wp2
      go_roundw
      case rel => exact ⟨j + 1, xs ++ [(r : Int)], by omega, by rw [List.length_append, HL.out]; rfl, by go_num, by simpa using r1, R2.out, R3.out⟩
      case measure => simp [intOf]; omega
    · obtain rfl : j = k := by omega
      have hcv := run_convert_own (P := Tryd.prog) (src := 22) (dst := 9) Tryd.underlying22 Tryd.underlying5 Tryd.underlying9 hown
      clear hown
      go_wp2
      go_ret
      exact ⟨⟨_, by rw [size_nums]; exact HL.out, rfl⟩, H1.out, H2.out⟩
end Go.Proofs.YtbkkjgpaccfplaaDoor
