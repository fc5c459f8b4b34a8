/- The draws' source: what it keeps; '.one', '.bytes', 'l01Source', walked. The draws' source: 'l01Source', walked: a new source over the bytes that are handed in. '.edge', walked: a number at some limit. The draws' source: '.spoil', walked: some text of at most one byte more. -/
import Derived.Test.YtdehbaafbbjcgaaGreatDoorJT01
namespace Go.Proofs.YtdehbaafbbjcgaaGreatDoor
open Go.RowKit

structure Src (g : Nat) (a : Option Addr) (len cap : Nat) (w : World) : Prop where
  at_ : SrcAt g a len cap w
  code : CodeAt a len w
  ne : ∀ x, 0 < len → a = some x → x.block ≠ g
  le : len ≤ 1048576
theorem Src.lt {g : Nat} {a : Option Addr} {len cap : Nat} {w : World} (h : Src g a len cap w) : g < w.heap.size := by
  obtain ⟨_, _, _, _, _, _, hg⟩ := h.at_
  exact heap_lt hg
theorem CodeAt.grown {a : Option Addr} {len : Nat} {w w' : World} {row : Option Nat} (h : CodeAt a len w) (hg : w.grownBy w' row) (hne : ∀ x, 0 < len → a = some x → some x.block ≠ row) : CodeAt a len w' := by
  rcases h with h | ⟨b, off, rfl, hc⟩
  · exact .inl h
  · refine .inr ⟨b, off, rfl, fun i hi => ?_⟩
    obtain ⟨z, hz, hcell⟩ := hc i hi
    exact ⟨z, hz, hg.cell hcell (hne ⟨b, off, none⟩ (by omega) rfl)⟩
theorem Src.grown {g : Nat} {a : Option Addr} {len cap : Nat} {w w' : World} {row : Option Nat} (h : Src g a len cap w) (hg : w.grownBy w' row) (hr : some g ≠ row) (hne : ∀ x, 0 < len → a = some x → some x.block ≠ row) : Src g a len cap w' := by
  have hlt := h.lt
  obtain ⟨p, m, z, hp, hm, hz, hh⟩ := h.at_
  exact ⟨⟨p, m, z, hp, hm, hz, (hg.block g hlt hr).trans hh⟩, h.code.grown hg hne, h.ne, h.le⟩
theorem Src.alloc {g : Nat} {a : Option Addr} {len cap : Nat} {w : World} (h : Src g a len cap w) (o : Obj) : Src g a len cap (w.alloc o) :=
  h.grown (World.grownBy_alloc w o none) (by simp) (fun _ _ _ => by simp)
theorem Src.drew {g : Nat} {a : Option Addr} {len cap : Nat} {w : World} (h : Src g a len cap w) : Src g a len cap w.drew := ⟨h.at_, h.code, h.ne, h.le⟩
theorem Src.drewN {g : Nat} {a : Option Addr} {len cap : Nat} {w : World} (h : Src g a len cap w) (n : Nat) : Src g a len cap (w.drewN n) := ⟨h.at_, h.code, h.ne, h.le⟩
theorem n_any (g : Nat) (a : Option Addr) (len cap : Nat) (most : Nat) (w : World) (hm : most ≤ 4611686018427387904) (hs : Src g a len cap w) :
    Calls Tryz.prog 19 #[.pointer (some ⟨g, 0, none⟩), .int .i64 (most : Int)] w fun e w' =>
      ∃ r : Nat, e = .returned (.int .i64 (r : Int)) ∧ (r < most ∨ r = 0) ∧ Src g a len cap w' ∧ Turns g w w' := by
  refine (srcN g a len cap most w hs.le hm hs.at_ hs.code hs.ne).mono ?_
  rintro e w' ⟨r, rfl, hr, h1, h2⟩
  exact ⟨r, rfl, hr, ⟨h1, hs.code.grown h2.1 (fun x h0 hx => by have := hs.ne x h0 hx; simpa using this), hs.ne, hs.le⟩, h2⟩
/-- Some bool is answered. -/
def AnyB (e : Ending) : Prop := e = .returned (.bool true) ∨ e = .returned (.bool false)
theorem one_any (g : Nat) (a : Option Addr) (len cap : Nat) (most : Nat) (w : World) (hm : most ≤ 4611686018427387904) (hs : Src g a len cap w) :
    Calls Tryz.prog 18 #[.pointer (some ⟨g, 0, none⟩), .int .i64 (most : Int)] w fun e w' => AnyB e ∧ Src g a len cap w' ∧ Turns g w w' := by
  have HS : Hid (Src g a len cap w) := hs
  clear hs
  go_enter Tryz.func18, Tryz.ntmps18
  go_wp2_with fail
  refine (n_any g a len cap most _ hm HS.out).mono ?_
  rintro e w' ⟨r, rfl, hr, h1, h2⟩
  have H1 : Hid (Src g a len cap w') := h1
  have H2 : Hid (Turns g w w') := h2
  clear h1 h2 hr
  by_cases h0 : r = 0
  · subst h0
    go_wp2
    go_ret
    exact ⟨.inl rfl, H1.out, H2.out⟩
  · have e0 : ((r : Int) == 0) = false := by rw [beq_eq_false_iff_ne]; omega
    go_wp2
    go_ret
    exact ⟨.inr rfl, H1.out, H2.out⟩
/-- The frame of a call that turns block g and makes new blocks. -/
def Grows (g : Nat) (w w' : World) : Prop := w.grownBy w' (some g)
theorem Grows.refl (g : Nat) (w : World) : Grows g w w := World.grownBy.refl _ _
theorem Turns.grows {g : Nat} {w w' : World} (h : Turns g w w') : Grows g w w' := h.1
theorem Grows.trans {g : Nat} {a b c : World} (h : Grows g a b) (k : Grows g b c) : Grows g a c :=
  ⟨k.os.trans h.os, k.tape.trans h.tape, k.output.trans h.output, Nat.le_trans h.size k.size, fun j hj hn => (k.block j (Nat.lt_of_lt_of_le hj h.size) hn).trans (h.block j hj hn)⟩
theorem Grows.grown {g : Nat} {a b c : World} {row : Option Nat} (h : Grows g a b) (k : b.grownBy c row) (hr : ∀ j, row = some j → a.heap.size ≤ j) : Grows g a c :=
  ⟨k.os.trans h.os, k.tape.trans h.tape, k.output.trans h.output, Nat.le_trans h.size k.size, fun j hj hn => (k.block j (Nat.lt_of_lt_of_le hj h.size) (fun e => by have := hr j e.symm; omega)).trans (h.block j hj hn)⟩
theorem Grows.alloc {g : Nat} {a b : World} (h : Grows g a b) (o : Obj) : Grows g a (b.alloc o) := h.grown (World.grownBy_alloc b o none) (fun j hj => by cases hj)
theorem Grows.drew {g : Nat} {a b : World} (h : Grows g a b) : Grows g a b.drew := ⟨h.os, h.tape, h.output, h.size, h.block⟩
theorem Grows.below {g B : Nat} {a w w' : World} (h : Grows g w w') (hb : Below B a w) (hB : B ≤ g) (hs : B ≤ w.heap.size) : Below B a w' :=
  hb.grown h hs (fun k hk => by cases hk; exact hB)

/-- Some text of k bytes is answered. -/
def AnyT (k : Nat) (e : Ending) : Prop := ∃ t : ByteArray, t.size = k ∧ e = .returned (.string t)
theorem size_nums (xs : List Int) : (strOfNums xs).size = xs.length := by simp [strOfNums, ByteArray.size]
theorem bytesRel {g : Nat} {a : Option Addr} {len cap n : Nat} {w wr w2 w1 : World} {v v' : Value} {xs ys : List Value} (o : Obj) (hblk : ∀ x, 0 < len → a = some x → x.block < w.heap.size) (hg : g < w.heap.size)
    (hT : Turns g wr w2) (hs : Src g a len cap w2) (hgr : Grows g w wr) (hown : w2.ownsRow w.heap.size 5 1 v n xs) (hown' : w1.ownsRow w.heap.size 5 1 v' (n + 1) ys) (hgrow : (w2.alloc o).grownBy w1 v.ownBlock) :
    w1.ownsRow w.heap.size 5 1 v' (n + 1) ys ∧ Src g a len cap w1 ∧ Grows g w w1 := by
  have hlt := fun k hk => (hown.lt k hk).1
  refine ⟨hown', (hs.alloc o).grown hgrow (fun e => by have := hlt g e.symm; omega) (fun x h0 hx e => by have := hlt _ e.symm; have := hblk x h0 hx; omega), ?_⟩
  exact ((hgr.trans hT.grows).alloc o).grown hgrow hlt
set_option maxHeartbeats 2000000 in
set_option maxRecDepth 100000 in
theorem bytes_any (g : Nat) (a : Option Addr) (len cap k : Nat) (w : World) (hk : k ≤ 100000) (hs : Src g a len cap w) (hblk : ∀ x, 0 < len → a = some x → x.block < w.heap.size) :
    Calls Tryz.prog 20 #[.pointer (some ⟨g, 0, none⟩), .int .i64 (k : Int)] w fun e w' => AnyT k e ∧ Src g a len cap w' ∧ Grows g w w' := by
  obtain ⟨i0, hi, hz0, hz1, hz2⟩ := info_parts infoByte
  have hglt := hs.lt
  have HS : Hid (Src g a len cap w) := hs
  have HBk : Hid (∀ x, 0 < len → a = some x → x.block < w.heap.size) := hblk
  clear hs hblk
  go_enter Tryz.func20, Tryz.ntmps20
  go_wp2
  go_loopw [5, 6] (fun b i wr => ∃ (j : Nat) (xs : List Int), j ≤ k ∧ xs.length = j ∧ i = .int .i64 j ∧ wr.ownsRow w.heap.size 5 1 b j (xs.map (Value.int .u8)) ∧ Src g a len cap wr ∧ Grows g w wr)
    (fun _ i _ => k - (intOf i).toNat)
  case atStart =>
    exact ⟨0, [], Nat.zero_le _, rfl, rfl, World.ownsRow_made _ #[] 0 (Nat.le_refl _) (Nat.zero_le _) rfl, HS.out.alloc _, (Grows.refl _ _).alloc _⟩
  case round =>
    obtain ⟨j, xs, hj, hl, rfl, hown, hs, hgr⟩ := hrel
    have HL : Hid (xs.length = j) := hl
    have H1 : Hid (Src g a len cap wr) := hs
    have H2 : Hid (Grows g w wr) := hgr
    clear hl hs hgr
    by_cases hlt : j < k
    · go_wp2_with fail
      refine (n_any g a len cap 256 _ (by omega) H1.out).mono ?_
      rintro e w2 ⟨r, rfl, hr, hs2, ht2⟩
      have hr' : (r : Int) ≤ 255 := by omega
      have hne : g < w.heap.size := hglt
      have hown2 : w2.ownsRow w.heap.size 5 1 u5 j (xs.map (Value.int .u8)) := hown.kept ht2.1 (by
        cases hob : u5.ownBlock with
        | none => exact .inl rfl
        | some q => right; intro e; have := (hown.lt q hob).1; have e' := Option.some.inj e; omega)
      have H3 : Hid (Src g a len cap w2) := hs2
      have H4 : Hid (Turns g wr w2) := ht2
      have hsz : w.heap.size ≤ w2.heap.size := by rw [ht2.2]; exact H2.out.size
      clear hr hs2 ht2 hown
      go_wp2_with (at_builtin; refine wpList_append_own _ rfl _ _ 22 rfl w.heap.size 5 i0 (.int .u8 0) 1 1 Tryz.underlying22 hi hz0 hz1 hz2 rfl (by decide) _ _ _ rfl (hown2.alloc _) ⟨w2.heap.size, 0, none⟩ 1 1 [.int .u8 (r : Int)] rfl rfl ?c1 ?c2 ?c3 ?c4 ?c5 ?_)
      case c1 => exact cells_one (by simp)
      case c2 => intro u hu; simp at hu; subst hu; rfl
      case c3 => unfold maxLen; omega
      case c4 => omega
      case c5 => simp; omega
      intro v' w1 hown' hgrow _
      obtain ⟨r1, r2, r3⟩ := bytesRel _ HBk.out hne H4.out H3.out H2.out hown2 hown' hgrow
      have R2 : Hid (Src g a len cap w1) := r2
      have R3 : Hid (Grows g w w1) := r3
      clear hown' hgrow hown2 r2 r3
      go_wp2
      go_roundw
      case rel => exact ⟨j + 1, xs ++ [(r : Int)], by omega, by rw [List.length_append, HL.out]; rfl, by go_num, by simpa using r1, R2.out, R3.out⟩
      case measure => simp [intOf]; omega
    · obtain rfl : j = k := by omega
      have hcv := run_convert_own (P := Tryz.prog) (src := 22) (dst := 9) Tryz.underlying22 Tryz.underlying5 Tryz.underlying9 hown
      clear hown
      go_wp2
      go_ret
      exact ⟨⟨_, by rw [size_nums]; exact HL.out, rfl⟩, H1.out, H2.out⟩
end Go.Proofs.YtdehbaafbbjcgaaGreatDoor
namespace Go.Proofs.YtdehbaafbbjcgaaGreatDoor
open Go.RowKit

set_option maxHeartbeats 2000000 in
set_option maxRecDepth 100000 in
theorem source_any (a : Option Addr) (len cap : Nat) (w : World) (hlen : len ≤ 1048576) (hc : CodeAt a len w) (hblk : ∀ x, 0 < len → a = some x → x.block < w.heap.size) :
    Calls Tryz.prog 17 #[.slice a len cap] w fun e w' => e = .returned (.pointer (some ⟨w.heap.size, 0, none⟩)) ∧ Src w.heap.size a len cap w' ∧ Below w.heap.size w w' ∧ w'.heap.size = w.heap.size + 1 := by
  have HC : Hid (CodeAt a len w) := hc
  have HBk : Hid (∀ x, 0 < len → a = some x → x.block < w.heap.size) := hblk
  clear hc hblk
  go_enter Tryz.func17, Tryz.ntmps17
  go_wp2
  go_loopw [4] (fun i wr => ∃ (j m : Nat), j ≤ len ∧ i = .int .i64 j ∧ m ≤ 18446744073709551615 ∧ wr.heap[w.heap.size]? = some (.cells #[.slice a len cap, .int .i64 0, .int .u64 m, .int .i64 0] 65 (0, 0)) ∧ Below w.heap.size w wr ∧ wr.heap.size = w.heap.size + 1)
    (fun i _ => len - (intOf i).toNat)
  case atStart =>
    exact ⟨0, 88172645463325252, Nat.zero_le _, rfl, by omega, heap_alloc_new w _, (Below.refl _ _).alloc (Nat.le_refl _) _, by simp⟩
  case round =>
    obtain ⟨j, m, hj, rfl, hm, hg, hbel, hsz⟩ := hrel
    have c2 := cell_of_row wr w.heap.size 2 _ _ (0, 0) hg
    have f2 := frozen_of_row wr w.heap.size 2 _ _ hg
    have c3 := cell_of_row wr w.heap.size 3 _ _ (0, 0) hg
    have f3 := frozen_of_row wr w.heap.size 3 _ _ hg
    simp at c2 c3
    have HG : Hid (wr.heap[w.heap.size]? = some (.cells #[.slice a len cap, .int .i64 0, .int .u64 m, .int .i64 0] 65 (0, 0))) := hg
    have HB : Hid (Below w.heap.size w wr) := hbel
    clear hg hbel
    by_cases hlt : j < len ∧ j < 64
    · obtain ⟨b, off, rfl, hcell⟩ : ∃ b off, a = some ⟨b, off, none⟩ ∧ ∀ i, i < len → ∃ z : Nat, z ≤ 255 ∧ w.cell? ⟨b, off + i, none⟩ = some (.int .u8 z) := by
        rcases HC.out with h | h
        · omega
        · exact h
      obtain ⟨y, hy, hyc0⟩ := hcell j hlt.1
      have hbb : b < w.heap.size := HBk.out _ (by omega) rfl
      have hyc : wr.cell? ⟨b, off + j, none⟩ = some (.int .u8 y) := (HB.out.cell hbb).trans hyc0
      obtain ⟨x1, hx1, ex1⟩ := xor_bd m y hm (by omega)
      obtain ⟨m1, hm1, em1⟩ := wrap_bd ((x1 : Int) * 1099511628211)
      have q1 : (j : Int) < (len : Int) := by omega
      have q2 : (j : Int) < 64 := by omega
      clear hcell hyc0
      go_wp2
      go_region
      go_wp2
      go_roundw
      case rel =>
        have h1 := heap_setCell_same wr w.heap.size 2 _ _ (.int .u64 (m1 : Int)) HG.out
        exact ⟨j + 1, m1, by omega, by go_num, hm1, h1, (HB.out.setCell (Nat.le_refl _) _).drew, by simpa using hsz⟩
      case measure => simp [intOf]; omega
    · have hout : (len : Int) ≤ (j : Int) ∨ (j : Int) < (len : Int) ∧ 64 ≤ (j : Int) := by omega
      clear hlt
      have hfin : ∀ (W : World) (v : Nat), v ≤ 12 → W.heap[w.heap.size]? = some (.cells #[.slice a len cap, .int .i64 0, .int .u64 m, .int .i64 v] 65 (0, 0)) → Below w.heap.size w W → Src w.heap.size a len cap W := fun W v hv h1 hW => by
        refine ⟨⟨0, m, v, Nat.zero_le _, hm, hv, h1⟩, ?_, fun x h0 hx => by have := HBk.out x h0 hx; omega, hlen⟩
        rcases HC.out with h | ⟨b, off, rfl, hcell⟩
        · exact .inl h
        · refine .inr ⟨b, off, rfl, fun i hi => ?_⟩
          obtain ⟨z, hz, hcl⟩ := hcell i hi
          exact ⟨z, hz, (hW.cell (p := ⟨b, off + i, none⟩) (show b < _ from HBk.out ⟨b, off, none⟩ (by omega) rfl)).trans hcl⟩
      have HF : Hid _ := hfin
      clear hfin
      by_cases h12 : 12 < len / 20
      · have q : (12 : Int) < (len : Int) / 20 := by omega
        rcases hout with ho | ⟨ho, ho'⟩
        all_goals
          go_wp2
          go_ret
          have h1 := heap_setCell_same wr w.heap.size 3 _ _ (.int .i64 ((len : Int) / 20)) HG.out
          have h2 := heap_setCell_same _ w.heap.size 3 _ _ (.int .i64 12) h1
          have hb := (HB.out.setCell (p := ⟨w.heap.size, 3, none⟩) (Nat.le_refl _) (.int .i64 ((len : Int) / 20))).setCell (p := ⟨w.heap.size, 3, none⟩) (Nat.le_refl _) (.int .i64 12)
          exact ⟨rfl, HF.out _ 12 (by omega) h2 hb, hb, by simpa using hsz⟩
      · have q : (len : Int) / 20 ≤ 12 := by omega
        have ecast : ((len / 20 : Nat) : Int) = (len : Int) / 20 := by omega
        have EC : Hid (((len / 20 : Nat) : Int) = (len : Int) / 20) := ecast
        clear ecast
        rcases hout with ho | ⟨ho, ho'⟩
        all_goals
          go_wp2
          go_ret
          have h1 := heap_setCell_same wr w.heap.size 3 _ _ (.int .i64 ((len : Int) / 20)) HG.out
          have hb := HB.out.setCell (p := ⟨w.heap.size, 3, none⟩) (Nat.le_refl _) (.int .i64 ((len : Int) / 20))
          rw [← EC.out] at h1 hb ⊢
          exact ⟨rfl, HF.out _ (len / 20) (by omega) h1 hb, hb, by simpa using hsz⟩
end Go.Proofs.YtdehbaafbbjcgaaGreatDoor
namespace Go.Proofs.YtdehbaafbbjcgaaGreatDoor
open Go.RowKit

/-- Some number of its kind is answered. -/
def AnyI (e : Ending) : Prop := ∃ v : Int, (-9223372036854775808 ≤ v ∧ v ≤ 9223372036854775807) ∧ e = .returned (.int .i64 v)
set_option maxRecDepth 100000 in
set_option maxHeartbeats 1000000 in
theorem edge_any (g : Nat) (a : Option Addr) (len cap : Nat) (w : World) (hs : Src g a len cap w) :
    Calls Tryz.prog 49 #[.pointer (some ⟨g, 0, none⟩)] w fun e w' => AnyI e ∧ Src g a len cap w' ∧ Grows g w w' := by
  have hglt := hs.lt
  have HS : Hid (Src g a len cap w) := hs
  clear hs
  go_enter Tryz.func49, Tryz.ntmps49
  go_wp2_with fail
  refine (n_any g a len cap 14 _ (by omega) (HS.out.alloc _)).mono ?_
  rintro e w1 ⟨r, rfl, hr, hs1, ht1⟩
  have H1 : Hid (Src g a len cap w1) := hs1
  have G1 : Hid (Grows g w w1) := ((Grows.refl g w).alloc _).trans ht1.grows
  have hrow : w1.heap[w.heap.size]? = some (.cells #[.int .i64 0, .int .i64 1, .int .i64 (-1), .int .i64 2, .int .i64 1000, .int .i64 1001, .int .i64 2147483648, .int .i64 2147483647, .int .i64 (-2147483648), .int .i64 4611686018427387904, .int .i64 9223372036854775807, .int .i64 (-9223372036854775808), .int .i64 1000000, .int .i64 1000001] 2 (0, 0)) := by
    rw [ht1.1.block w.heap.size (by simp) (by intro e; have := Option.some.inj e; omega), heap_alloc_new]
  have hcell := cell_of_row w1 w.heap.size r _ _ (0, 0) hrow
  have hr14 : r < 14 := by omega
  obtain ⟨v, hv, hvc⟩ : ∃ v : Int, (-9223372036854775808 ≤ v ∧ v ≤ 9223372036854775807) ∧ w1.cell? ⟨w.heap.size, r, none⟩ = some (.int .i64 v) := by
    rw [hcell]
    have hq : r = 0 ∨ r = 1 ∨ r = 2 ∨ r = 3 ∨ r = 4 ∨ r = 5 ∨ r = 6 ∨ r = 7 ∨ r = 8 ∨ r = 9 ∨ r = 10 ∨ r = 11 ∨ r = 12 ∨ r = 13 := by omega
    rcases hq with rfl | rfl | rfl | rfl | rfl | rfl | rfl | rfl | rfl | rfl | rfl | rfl | rfl | rfl <;> exact ⟨_, by decide, rfl⟩
  have q2 : (r : Int) < 14 := by omega
  clear hrow hcell hs1 ht1 hr
  go_wp2
  go_ret
  exact ⟨⟨v, hv, rfl⟩, H1.out, G1.out⟩
end Go.Proofs.YtdehbaafbbjcgaaGreatDoor
namespace Go.Proofs.YtdehbaafbbjcgaaGreatDoor
open Go.RowKit

/-- Some text of at most k bytes is answered. -/
def UpT (k : Nat) (e : Ending) : Prop := ∃ t : ByteArray, t.size ≤ k ∧ e = .returned (.string t)
theorem idx_const (c : ByteArray) (r : Nat) (h : r < c.size) : ∃ z : Nat, z ≤ 255 ∧ ∀ w, (Instr.index 9 (.string c) (.int .i64 (r : Int))).run Tryz.prog w = .ok (.int .u8 (z : Int)) w := by
  refine ⟨c[r].toNat, by have := c[r].toNat_lt; omega, fun w => ?_⟩
  rw [run_index_string w _ c .i64 _ Tryz.underlying9, dif_pos ⟨by omega, by omega⟩]
  simp
theorem conv_one (W : World) (z : Int) : (convert 22 9 (.slice (some ⟨W.heap.size, 0, none⟩) 1 1)).run Tryz.prog (W.alloc (.cells #[.int .u8 z] 5)) = .ok (.string (strOfNums [z])) (W.alloc (.cells #[.int .u8 z] 5)) :=
  run_convert_bytes_arg _ 22 5 Tryz.underlying22 Tryz.underlying5 W.heap.size 0 1 1 [z] rfl (fun i hi => by
    obtain rfl : i = 0 := by omega
    simp) 9 Tryz.underlying9
theorem ext_size (s : ByteArray) (a b : Nat) : (s.extract a b).size ≤ s.size := by rw [ByteArray.size_extract]; omega
theorem ext_two (s : ByteArray) (a b : Nat) (h : a ≤ b) : (s.extract 0 a).size + (s.extract b s.size).size ≤ s.size := by
  rw [ByteArray.size_extract, ByteArray.size_extract]; omega
theorem slice_to (s : ByteArray) (k : Nat) (h : k ≤ s.size) (w : World) : (Instr.slice 9 (.string s) none (some (.int .i64 (k : Int))) none).run Tryz.prog w = .ok (.string (s.extract 0 k)) w := by
  simp [Instr.slice, run_underlying Tryz.underlying9, Instr.sliceBounds, run_sliceBound, h]
theorem slice_from (s : ByteArray) (k : Nat) (i : Int) (e : i = (k : Int)) (h : k ≤ s.size) (w : World) : (Instr.slice 9 (.string s) (some (.int .i64 i)) none none).run Tryz.prog w = .ok (.string (s.extract k s.size)) w := by
  subst e
  simp [Instr.slice, run_underlying Tryz.underlying9, Instr.sliceBounds, run_sliceBound, h]
set_option maxHeartbeats 2000000 in
set_option maxRecDepth 100000 in
theorem spoil_any (g : Nat) (a : Option Addr) (len cap : Nat) (t : ByteArray) (w : World) (ht : t.size ≤ 1000000) (hs : Src g a len cap w) (hblk : ∀ x, 0 < len → a = some x → x.block < w.heap.size) :
    Calls Tryz.prog 25 #[.pointer (some ⟨g, 0, none⟩), .string t] w fun e w' => UpT (t.size + 1) e ∧ Src g a len cap w' ∧ Grows g w w' := by
  have hglt := hs.lt
  have HS : Hid (Src g a len cap w) := hs
  have HBk : Hid (∀ x, 0 < len → a = some x → x.block < w.heap.size) := hblk
  clear hs hblk
  go_enter Tryz.func25, Tryz.ntmps25
  go_wp2_with fail
  rw [show ((t.size : Int) + 1) = ((t.size + 1 : Nat) : Int) from by omega]
  refine (n_any g a len cap (t.size + 1) _ (by omega) HS.out).mono ?_
  rintro e w1 ⟨k, rfl, hk, hs1, ht1⟩
  have hk' : k ≤ t.size := by omega
  have H1 : Hid (Src g a len cap w1) := hs1
  have G1 : Hid (Grows g w w1) := ht1.grows
  clear hk hs1 ht1
  go_wp2_with fail
  refine (n_any g a len cap 17 _ (by omega) H1.out).mono ?_
  rintro e w2 ⟨r, rfl, hr, hs2, ht2⟩
  obtain ⟨z, hz, hidx⟩ := idx_const ⟨#[32, 10, 48, 97, 45, 110, 44, 58, 93, 255, 40, 120, 126, 49, 128, 225, 59]⟩ r (show r < 17 by omega)
  have H2 : Hid (Src g a len cap w2) := hs2
  have G2 : Hid (Grows g w w2) := G1.out.trans ht2.grows
  clear hr hs2 ht2
  have hcv := conv_one w2 (z : Int)
  obtain ⟨c, hc⟩ : ∃ c, c = strOfNums [(z : Int)] := ⟨_, rfl⟩
  have hcs : c.size = 1 := by rw [hc, size_nums]; rfl
  rw [← hc] at hcv
  clear hc
  have s1 := slice_to t k hk'
  have s2 := slice_from t k (k : Int) rfl hk'
  have hp12 := ext_two t k k (Nat.le_refl _)
  obtain ⟨p1, hp1⟩ : ∃ p, p = t.extract 0 k := ⟨_, rfl⟩
  obtain ⟨p2, hp2⟩ : ∃ p, p = t.extract k t.size := ⟨_, rfl⟩
  rw [← hp1] at s1
  rw [← hp2] at s2
  rw [← hp1, ← hp2] at hp12
  have a1 := fun W => run_string_add_sum (P := Tryz.prog) (w := W) p1 c (by omega)
  have a2 := fun W => run_string_add_sum (P := Tryz.prog) (w := W) (p1 ++ c) p2 (by rw [ByteArray.size_append]; omega)
  have HP : Hid (p1 = t.extract 0 k) := hp1
  have hfin2 : Hid ((p1 ++ c ++ p2).size ≤ t.size + 1) := (by rw [ByteArray.size_append, ByteArray.size_append]; omega : (p1 ++ c ++ p2).size ≤ t.size + 1)
  clear hp1 hp2
  by_cases hkt : k = t.size
  · have ek : ((k : Int) == (t.size : Int)) = true := by rw [beq_iff_eq]; omega
    have G3 : Hid (Grows g w (w2.alloc (.cells #[.int .u8 (z : Int)] 5))) := G2.out.alloc _
    have H3 : Hid (Src g a len cap (w2.alloc (.cells #[.int .u8 (z : Int)] 5))) := H2.out.alloc _
    clear hkt
    go_wp2_with fail
    go_quiet (fail)
    go_wp2
    go_ret
    exact ⟨⟨_, hfin2.out, rfl⟩, H3.out.drewN _, ⟨G3.out.os, G3.out.tape, G3.out.output, G3.out.size, G3.out.block⟩⟩
  have ek : ((k : Int) == (t.size : Int)) = false := by rw [beq_eq_false_iff_ne]; omega
  have hkl : k < t.size := by omega
  clear hkt
  have s3 := slice_from t (k + 1) ((k : Int) + 1) (by omega) (by omega)
  have hp13 := ext_two t k (k + 1) (by omega)
  obtain ⟨p3, hp3⟩ : ∃ p, p = t.extract (k + 1) t.size := ⟨_, rfl⟩
  rw [← hp3] at s3
  rw [← HP.out, ← hp3] at hp13
  have a3 := fun W => run_string_add_sum (P := Tryz.prog) (w := W) p1 p3 (by omega)
  have a4 := fun W => run_string_add_sum (P := Tryz.prog) (w := W) (p1 ++ c) p3 (by rw [ByteArray.size_append]; omega)
  have hfin3 : Hid ((p1 ++ p3).size ≤ t.size + 1) := (by rw [ByteArray.size_append]; omega : (p1 ++ p3).size ≤ t.size + 1)
  have hfin4 : Hid ((p1 ++ c ++ p3).size ≤ t.size + 1) := (by rw [ByteArray.size_append, ByteArray.size_append]; omega : (p1 ++ c ++ p3).size ≤ t.size + 1)
  clear hp3
  have ew : IntKind.i64.wrap ((k : Int) + 1) = (k : Int) + 1 := by rw [IntKind.wrap_i64]; omega
  go_wp2_with fail
  refine (one_any g a len cap 3 _ (by omega) (H2.out.alloc _)).mono ?_
  rintro e w3 ⟨hb, hs3, ht3⟩
  have H3 : Hid (Src g a len cap w3) := hs3
  have G3 : Hid (Grows g w w3) := (G2.out.alloc _).trans ht3.grows
  clear hs3 ht3 hcv hidx
  rcases hb with rfl | rfl
  · go_wp2_with fail
    go_quiet (fail)
    go_wp2
    go_ret
    exact ⟨⟨_, hfin2.out, rfl⟩, H3.out.drewN _, ⟨G3.out.os, G3.out.tape, G3.out.output, G3.out.size, G3.out.block⟩⟩
  go_wp2_with fail
  refine (one_any g a len cap 2 _ (by omega) H3.out).mono ?_
  rintro e w4 ⟨hb, hs4, ht4⟩
  have H4 : Hid (Src g a len cap w4) := hs4
  have G4 : Hid (Grows g w w4) := G3.out.trans ht4.grows
  clear hs4 ht4
  rcases hb with rfl | rfl
  · go_wp2_with fail
    go_quiet (fail)
    go_wp2
    go_ret
    exact ⟨⟨_, hfin3.out, rfl⟩, H4.out.drewN _, ⟨G4.out.os, G4.out.tape, G4.out.output, G4.out.size, G4.out.block⟩⟩
  · go_wp2_with fail
    go_quiet (fail)
    go_wp2
    go_ret
    exact ⟨⟨_, hfin4.out, rfl⟩, H4.out.drewN _, ⟨G4.out.os, G4.out.tape, G4.out.output, G4.out.size, G4.out.block⟩⟩
end Go.Proofs.YtdehbaafbbjcgaaGreatDoor
