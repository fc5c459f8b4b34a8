/- spec.l04Check, spec.SigCheck, walked. The draws' source: '(*l01Src).n', '.one', walked: a number below most; nothing but the source itself turns. The draws' source: what it keeps; '.one', '.bytes', 'l01Source', walked. The draws' source: 'l01Source', walked: a new source over the bytes that are handed in. The draws' source and its bytes behind calls that leave them alone. '.edge', walked: a number at some limit. '.l03Num', '.l03Key', walked: some numbers. -/
import Derived.Test.YthhmobjphloahaaDoorSn06
import Derived.Test.YthhmobjphloahaaDoorSn07
import Derived.Deep.QuietTactic
import Derived.BigQuiet
import Derived.Deep.RegionHeld3
import Derived.Test.YthhmobjphloahaaDoorSn01
import Derived.WalkKit
import Derived.WalkSpells
import Derived.WalkLawsBesides
import Derived.Below
import Derived.OpenShut
import Derived.Test.YthhmobjphloahaaDoorSn05
import Derived.OwnWalk
namespace Go.Proofs.YthhmobjphloahaaDoor
open Go.RowKit

/-- A power modulo GroupP, of numbers as a call has them. -/
def powP (a n : Int) : Int := ((pm a.toNat n.toNat 2147483579 : Nat) : Int)
theorem powP_nat (a n : Nat) : powP a n = ((pm a n 2147483579 : Nat) : Int) := by unfold powP; rw [Int.toNat_natCast, Int.toNat_natCast]
theorem specPowP (a n : Int) (w : World) (ha : 0 ≤ a) (hn : 0 ≤ n) (hn2 : n ≤ 9223372036854775807) :
    Calls Tryd.prog 63 #[.int .i64 a, .int .i64 n, .int .i64 2147483579] w fun e w' => e = .returned (.int .i64 (powP a n)) ∧ w' = w := by
  obtain ⟨A, rfl⟩ := Int.eq_ofNat_of_zero_le ha
  obtain ⟨N, rfl⟩ := Int.eq_ofNat_of_zero_le hn
  rw [powP_nat]
  exact specPow A N 2147483579 w (by omega) (by omega) (by omega)
set_option maxHeartbeats 1000000 in
set_option maxRecDepth 100000 in
theorem specCheck (k e s : Nat) (t : ByteArray) (w : World) (ht : t.size ≤ 20000) (hk : k < 2147483579) (he : e < 1073741789) (hs : s < 1073741789) :
    Calls Tryd.prog 71 #[.agg #[.int .i64 (k : Int), .int .i64 (e : Int), .int .i64 (s : Int)], .string t] w fun r w' => r = .returned (.bool (decide ((chal (backR k e s : Nat) k t : Int) = (e : Int)))) ∧ Below w.heap.size w w' := by
  obtain ⟨j, hj⟩ : ∃ j : Nat, j = 1073741789 - e := ⟨_, rfl⟩
  obtain ⟨y1, hy1⟩ : ∃ y : Nat, y = pm 4 s 2147483579 := ⟨_, rfl⟩
  obtain ⟨y2, hy2⟩ : ∃ y : Nat, y = pm k j 2147483579 := ⟨_, rfl⟩
  have hb := backR_nat k e s
  rw [← hj, ← hy1, ← hy2] at hb
  have e1 : powP 4 (s : Int) = (y1 : Int) := by rw [hy1]; exact powP_nat 4 s
  have e2 : powP (k : Int) (j : Int) = (y2 : Int) := by rw [hy2]; exact powP_nat k j
  have q1 : y1 < 2147483579 := by rw [hy1]; exact pm_lt 4 s (by omega)
  have q2 : y2 < 2147483579 := by rw [hy2]; exact pm_lt k j (by omega)
  have hj' : (1073741789 : Int) - (e : Int) = (j : Int) := by omega
  obtain ⟨p, hp, ep, lp, up⟩ := prod_bd y1 y2 (by omega) (by omega)
  obtain ⟨b, hbb⟩ : ∃ b : Nat, b = backR k e s := ⟨_, rfl⟩
  rw [← hbb] at hb
  have hz : b < 2147483579 := by rw [hb]; exact Nat.mod_lt _ (by omega)
  have t0 : (p : Int).tmod 2147483579 = (b : Int) := by rw [hb, ← hp]; exact tmodN p 2147483579
  obtain ⟨c, hc⟩ : ∃ c : Nat, c = chal (b : Int) k t := ⟨_, rfl⟩
  have HX : Hid (∀ v : World, Calls Tryd.prog 62 #[.int .i64 (b : Int), .int .i64 (k : Int), .string t] v fun r w' => r = .returned (.int .i64 (c : Int)) ∧ Below v.heap.size v w') := fun v => by rw [hc]; exact specChal _ _ t v ht (by omega) (by omega) (by omega) (by omega)
  rw [← hbb, ← hc]
  clear hb hp q1 q2 hj hy1 hy2 hbb hc hz hk
  go_enter Tryd.func71, Tryd.ntmps71
  go_wp2_with fail
  go_quiet ((go_at_call 63; exact Calls.quiet_of_same (specPowP _ _ _ (by omega) (by omega) (by omega))))
  go_wp2_with fail
  obtain ⟨w1, hw1⟩ : ∃ w1, (w.alloc (.cells #[.int .i64 (k : Int), .int .i64 (e : Int), .int .i64 (s : Int)] 45 (0, 0))).drewN nq = w1 := ⟨_, rfl⟩
  have hg1 : w1.heap[w.heap.size]? = some (.cells [Value.int .i64 (k : Int), .int .i64 (e : Int), .int .i64 (s : Int)].toArray 45 (0, 0)) := by rw [← hw1]; exact heap_alloc_new w _
  have hb1 : Below w.heap.size w w1 := by rw [← hw1]; exact below_drewN (allocBelow w _) nq
  rw [hw1]
  have p0 := rowFacts hg1 0 _ rfl
  have p1 := rowFacts hg1 1 _ rfl
  have HT : Hid (Calls Tryd.prog 62 #[.int .i64 (b : Int), .int .i64 (k : Int), .string t] w1.drew fun r W => r = .returned (.int .i64 (c : Int)) ∧ Hid (Below w.heap.size w W) ∧ W.cell? ⟨w.heap.size, 0, none⟩ = some (.int .i64 (k : Int)) ∧ W.cell? ⟨w.heap.size, 1, none⟩ = some (.int .i64 (e : Int))) := by
    show Calls _ _ _ _ _
    refine (HX.out w1.drew).mono ?_
    rintro r W ⟨rfl, hb⟩
    have hl : w.heap.size < w1.drew.heap.size := heap_lt (show w1.drew.heap[w.heap.size]? = _ from hg1)
    exact ⟨rfl, hb1.drew.trans (hb.mono (Nat.le_of_lt hl)), by rw [hb.cell hl]; exact p0, by rw [hb.cell hl]; exact p1⟩
  clear hw1 hg1 hb1 HX e1 e2 hj' ep lp up t0
  go_region_held3 (fun V => V.cell? ⟨w.heap.size, 0, none⟩ = some (.int .i64 (k : Int)) ∧ V.cell? ⟨w.heap.size, 1, none⟩ = some (.int .i64 (e : Int))) (first | exact ⟨c0, c1⟩ | go_keep)
    (first | (go_at_call 62; refine HT.out.mono ?_; rintro r W ⟨rfl, kk, c0, c1⟩))
  all_goals
    go_wp2
    go_ret
    exact ⟨rfl, kk.out⟩
set_option maxHeartbeats 1000000 in
set_option maxRecDepth 100000 in
theorem specSigCheck (k e s : Int) (t : ByteArray) (w : World) (ht : t.size ≤ maxLen) :
    Calls Tryd.prog 33 #[.agg #[.int .i64 k, .int .i64 e, .int .i64 s], .string t] w fun r w' => r = .returned (.bool (sigCB k e s t)) ∧ Below w.heap.size w w' := by
  have htm := ht
  unfold maxLen at htm
  by_cases h1 : 20000 < t.size
  · have ea : Hid (sigCB k e s t = false) := sigCB_long h1
    go_enter Tryd.func33, Tryd.ntmps33
    go_wp2
    go_ret
    exact ⟨by rw [ea.out]; rfl, allocBelow _ _⟩
  have ht2 : t.size ≤ 20000 := by omega
  by_cases h2 : sigRB k e s = true
  · obtain ⟨K, E, S, rfl, rfl, rfl, hk, he, hs, _⟩ := sigRB_nat h2
    have ea : Hid (sigCB K E S t = decide ((chal (backR K E S : Nat) K t : Int) = (E : Int))) := sigCB_right ht2 h2
    have HX : Hid (∀ v : World, Calls Tryd.prog 71 #[.agg #[.int .i64 (K : Int), .int .i64 (E : Int), .int .i64 (S : Int)], .string t] v fun r w' => r = .returned (.bool (decide ((chal (backR K E S : Nat) K t : Int) = (E : Int)))) ∧ Below v.heap.size v w') := fun v => specCheck K E S t v ht2 hk he hs
    generalize decide ((chal (backR K E S : Nat) K t : Int) = (E : Int)) = b at *
    go_enter Tryd.func33, Tryd.ntmps33
    go_wp2_with fail
    refine (specSigRight K E S _).mono ?_
    rintro r w1 ⟨rfl, hb1⟩
    rw [h2]
    have c0 : w1.cell? ⟨w.heap.size, 0, none⟩ = some (.int .i64 (K : Int)) := by rw [hb1.cell (p := ⟨w.heap.size, 0, none⟩) (by simp)]; simp
    have c1 : w1.cell? ⟨w.heap.size, 1, none⟩ = some (.int .i64 (E : Int)) := by rw [hb1.cell (p := ⟨w.heap.size, 1, none⟩) (by simp)]; simp
    have c2 : w1.cell? ⟨w.heap.size, 2, none⟩ = some (.int .i64 (S : Int)) := by rw [hb1.cell (p := ⟨w.heap.size, 2, none⟩) (by simp)]; simp
    have B1 : Hid (Below w.heap.size w w1) := (allocBelow w _).trans (hb1.mono (by simp))
    clear hb1
    go_wp2_with fail
    refine (HX.out _).mono ?_
    rintro r w2 ⟨rfl, hb2⟩
    have B2 : Hid (Below w.heap.size w w2) := B1.out.trans (hb2.mono B1.out.size)
    clear hb2
    go_wp2
    go_ret
    exact ⟨by rw [ea.out]; rfl, B2.out⟩
  · rw [Bool.not_eq_true] at h2
    have ea : Hid (sigCB k e s t = false) := sigCB_wrong h2
    go_enter Tryd.func33, Tryd.ntmps33
    go_wp2_with fail
    refine (specSigRight k e s _).mono ?_
    rintro r w1 ⟨rfl, hb1⟩
    rw [h2]
    have B1 : Hid (Below w.heap.size w w1) := (allocBelow w _).trans (hb1.mono (by simp))
    clear hb1
    go_wp2
    go_ret
    exact ⟨by rw [ea.out]; rfl, B1.out⟩
end Go.Proofs.YthhmobjphloahaaDoor
namespace Go.Proofs.YthhmobjphloahaaDoor
open Go.RowKit

/-- The source at block g: its bytes, how many are read, its mix, its size. -/
def SrcAt (g : Nat) (a : Option Addr) (len cap : Nat) (w : World) : Prop :=
  ∃ (p m z : Nat), p ≤ len ∧ m ≤ 18446744073709551615 ∧ z ≤ 12 ∧ w.heap[g]? = some (.cells #[.slice a len cap, .int .i64 p, .int .u64 m, .int .i64 z] 89 (0, 0))
/-- Its bytes can be read. -/
def CodeAt (a : Option Addr) (len : Nat) (w : World) : Prop :=
  len = 0 ∨ ∃ b off, a = some ⟨b, off, none⟩ ∧ ∀ i, i < len → ∃ z : Nat, z ≤ 255 ∧ w.cell? ⟨b, off + i, none⟩ = some (.int .u8 z)
theorem xor_bd (a b : Nat) (ha : a ≤ 18446744073709551615) (hb : b ≤ 18446744073709551615) : ∃ m : Nat, m ≤ 18446744073709551615 ∧ bits BinOp.xor IntKind.u64 (a : Int) (b : Int) = (m : Int) := by
  refine ⟨a ^^^ b, ?_, u64_xor_nat a b (by omega) (by omega)⟩
  have := Nat.xor_lt_two_pow (x := a) (y := b) (n := 64) (by omega) (by omega)
  omega
theorem wrap_bd (x : Int) : ∃ m : Nat, m ≤ 18446744073709551615 ∧ IntKind.u64.wrap x = (m : Int) := by
  rw [IntKind.wrap_u64]
  exact ⟨(x % 18446744073709551616).toNat, by omega, by omega⟩
theorem set2 (W : World) (x : Addr) (v1 v2 : Value) (h : (W.cell? x).isSome = true) : ((W.setCell x v1).setCell x v2).cell? x = some v2 := by
  have h1 := World.cell?_setCell_same' W x v1 h
  exact World.cell?_setCell_same' _ x v2 (by rw [h1]; rfl)
theorem set3 (W : World) (x : Addr) (v1 v2 v3 : Value) (h : (W.cell? x).isSome = true) : (((W.setCell x v1).setCell x v2).setCell x v3).cell? x = some v3 := by
  exact World.cell?_setCell_same' _ x v3 (by rw [set2 W x v1 v2 h]; rfl)
/-- The frame of a call that turns block g alone. -/
def Turns (g : Nat) (w w' : World) : Prop := w.grownBy w' (some g) ∧ w'.heap.size = w.heap.size
theorem Turns.refl (g : Nat) (w : World) : Turns g w w := ⟨World.grownBy.refl _ _, rfl⟩
theorem Turns.trans {g : Nat} {a b c : World} (h : Turns g a b) (k : Turns g b c) : Turns g a c :=
  ⟨⟨k.1.os.trans h.1.os, k.1.tape.trans h.1.tape, k.1.output.trans h.1.output, by rw [k.2, h.2]; exact Nat.le_refl _, fun j hj hn => (k.1.block j (by rw [h.2]; exact hj) hn).trans (h.1.block j hj hn)⟩, k.2.trans h.2⟩
theorem Turns.setCell {g : Nat} {a w : World} (h : Turns g a w) (j : Nat) (v : Value) : Turns g a (w.setCell ⟨g, j, none⟩ v) :=
  ⟨⟨h.1.os, h.1.tape, h.1.output, by simpa using h.1.size, fun k hk hn => (Below.heap_setCell _ _ _ _ (fun e => hn (by simp [e]))).trans (h.1.block k hk hn)⟩, by simpa using h.2⟩
theorem Turns.drew {g : Nat} {a w : World} (h : Turns g a w) : Turns g a w.drew := ⟨⟨h.1.os, h.1.tape, h.1.output, h.1.size, h.1.block⟩, h.2⟩
theorem Turns.drewN {g : Nat} {a w : World} (h : Turns g a w) (n : Nat) : Turns g a (w.drewN n) := ⟨⟨h.1.os, h.1.tape, h.1.output, h.1.size, h.1.block⟩, h.2⟩
theorem Turns.below {g B : Nat} {a w w' : World} (h : Turns g w w') (hb : Below B a w) (hB : B ≤ g) (hs : B ≤ w.heap.size) : Below B a w' :=
  hb.grown h.1 hs (fun k hk => by cases hk; exact hB)
theorem below_max (x : Int) (n most : Nat) (h : x = ((n % most : Nat) : Int)) (hm : most ≤ 4611686018427387904) (h1 : 1 < most) : wrap64 x = ((n % most : Nat) : Int) := by
  have := Nat.mod_lt n (show 0 < most by omega)
  rw [h]
  simp only [wrap64]
  omega
theorem modCast (y m most : Nat) : ((y : Int) + (m : Int) / 1048576) % (most : Int) = (((y + m / 1048576) % most : Nat) : Int) := by
  rw [Int.natCast_emod, Int.natCast_add, Int.natCast_ediv]
  rfl

set_option maxHeartbeats 2000000 in
set_option maxRecDepth 100000 in
theorem srcN (g : Nat) (a : Option Addr) (len cap : Nat) (most : Nat) (w : World) (hlen : len ≤ 1048576) (hm : most ≤ 4611686018427387904) (hs : SrcAt g a len cap w) (hc : CodeAt a len w) (hne : ∀ x, 0 < len → a = some x → x.block ≠ g) :
    Calls Tryd.prog 41 #[.pointer (some ⟨g, 0, none⟩), .int .i64 (most : Int)] w fun e w' =>
      ∃ r : Nat, e = .returned (.int .i64 (r : Int)) ∧ (r < most ∨ r = 0) ∧ SrcAt g a len cap w' ∧ Turns g w w' := by
  by_cases h1 : most ≤ 1
  · go_enter Tryd.func41, Tryd.ntmps41
    go_wp2
    go_ret
    exact ⟨0, rfl, .inr rfl, hs, World.grownBy.refl _ _, rfl⟩
  obtain ⟨p, m, z, hp, hm0, hz, hg⟩ := hs
  have c0 := cell_of_row w g 0 _ _ (0, 0) hg
  have c1 := cell_of_row w g 1 _ _ (0, 0) hg
  have c2 := cell_of_row w g 2 _ _ (0, 0) hg
  have f1 := frozen_of_row w g 1 _ _ hg
  have f2 := frozen_of_row w g 2 _ _ hg
  simp at c0 c1 c2
  obtain ⟨x1, hx1, ew1⟩ := wrap_bd ((m : Int) * 8192)
  obtain ⟨m1, hm1, em1⟩ := xor_bd m x1 hm0 hx1
  obtain ⟨m2, hm2, em2⟩ := xor_bd m1 (m1 / 128) hm1 (by omega)
  rw [show ((m1 / 128 : Nat) : Int) = (m1 : Int) / 128 from by omega] at em2
  obtain ⟨x3, hx3, ew3⟩ := wrap_bd ((m2 : Int) * 131072)
  obtain ⟨m3, hm3, em3⟩ := xor_bd m2 x3 hm2 hx3
  have k2 := fun W h => set2 W ⟨g, 2, none⟩ (.int .u64 (m1 : Int)) (.int .u64 (m2 : Int)) h
  have k3 := fun W h => set3 W ⟨g, 2, none⟩ (.int .u64 (m1 : Int)) (.int .u64 (m2 : Int)) (.int .u64 (m3 : Int)) h
  have HG : Hid (w.heap[g]? = some (.cells #[.slice a len cap, .int .i64 p, .int .u64 m, .int .i64 z] 89 (0, 0))) := hg
  clear hg
  by_cases hpl : p < len
  · obtain ⟨b, off, rfl, hcell⟩ : ∃ b off, a = some ⟨b, off, none⟩ ∧ ∀ i, i < len → ∃ z : Nat, z ≤ 255 ∧ w.cell? ⟨b, off + i, none⟩ = some (.int .u8 z) := by
      rcases hc with h | h
      · omega
      · exact h
    obtain ⟨y, hy, hyc⟩ := hcell p hpl
    have hb := hne _ (by omega) rfl
    have q1 : (0 : Int) ≤ (p : Int) := Int.natCast_nonneg _
    have q2 : (p : Int) < (len : Int) := by omega
    clear hcell hc hne
    go_enter Tryd.func41, Tryd.ntmps41
    go_wp2
    go_quiet (fail)
    go_wp2
    go_quiet (fail)
    go_wp2
    go_region
    go_wp2
    go_region
    go_wp2
    go_region
    go_wp2
    go_ret
    refine ⟨(y + m3 / 1048576) % most, ret_int (below_max _ _ _ (modCast _ _ _) hm (by omega)), .inl (Nat.mod_lt _ (by omega)), ⟨p + 1, m3, z, by omega, hm3, hz, ?_⟩, ?_⟩
    · have h1 := heap_setCell_same w g 1 _ _ (.int .i64 ((p : Int) + 1)) HG.out
      have h2 := heap_setCell_same _ g 2 _ _ (.int .u64 (m1 : Int)) h1
      have h3 := heap_setCell_same _ g 2 _ _ (.int .u64 (m2 : Int)) h2
      have h4 := heap_setCell_same _ g 2 _ _ (.int .u64 (m3 : Int)) h3
      exact h4
    · repeat (first | exact Turns.refl _ _ | refine Turns.drew ?_ | refine Turns.drewN ?_ _ | refine Turns.setCell ?_ _ _)
  · have q2 : (len : Int) ≤ (p : Int) := by omega
    clear hc hne
    go_enter Tryd.func41, Tryd.ntmps41
    go_wp2
    go_quiet (fail)
    go_wp2
    go_region
    go_wp2
    go_region
    go_wp2
    go_region
    go_wp2
    go_ret
    refine ⟨(0 + m3 / 1048576) % most, ret_int (below_max _ _ _ (by have := modCast 0 m3 most; rw [Int.natCast_zero, Int.zero_add] at this; exact this) hm (by omega)), .inl (Nat.mod_lt _ (by omega)), ⟨p, m3, z, hp, hm3, hz, ?_⟩, ?_⟩
    · have h2 := heap_setCell_same w g 2 _ _ (.int .u64 (m1 : Int)) HG.out
      have h3 := heap_setCell_same _ g 2 _ _ (.int .u64 (m2 : Int)) h2
      have h4 := heap_setCell_same _ g 2 _ _ (.int .u64 (m3 : Int)) h3
      exact h4
    · repeat (first | exact Turns.refl _ _ | refine Turns.drew ?_ | refine Turns.drewN ?_ _ | refine Turns.setCell ?_ _ _)
end Go.Proofs.YthhmobjphloahaaDoor
namespace Go.Proofs.YthhmobjphloahaaDoor
open Go.RowKit

structure Src (g : Nat) (a : Option Addr) (len cap : Nat) (w : World) : Prop where
  at_ : SrcAt g a len cap w
  code : CodeAt a len w
  ne : ∀ x, 0 < len → a = some x → x.block ≠ g
  le : len ≤ 1048576
theorem Src.lt {g : Nat} {a : Option Addr} {len cap : Nat} {w : World} (h : Src g a len cap w) : g < w.heap.size := by
  obtain ⟨_, _, _, _, _, _, hg⟩ := h.at_
  exact heap_lt hg
theorem CodeAt.grown {a : Option Addr} {len : Nat} {w w' : World} {row : Option Nat} (h : CodeAt a len w) (hg : w.grownBy w' row) (hne : ∀ x, 0 < len → a = some x → some x.block ≠ row) : CodeAt a len w' := by
  rcases h with h | ⟨b, off, rfl, hc⟩
  · exact .inl h
  · refine .inr ⟨b, off, rfl, fun i hi => ?_⟩
    obtain ⟨z, hz, hcell⟩ := hc i hi
    exact ⟨z, hz, hg.cell hcell (hne ⟨b, off, none⟩ (by omega) rfl)⟩
theorem Src.grown {g : Nat} {a : Option Addr} {len cap : Nat} {w w' : World} {row : Option Nat} (h : Src g a len cap w) (hg : w.grownBy w' row) (hr : some g ≠ row) (hne : ∀ x, 0 < len → a = some x → some x.block ≠ row) : Src g a len cap w' := by
  have hlt := h.lt
  obtain ⟨p, m, z, hp, hm, hz, hh⟩ := h.at_
  exact ⟨⟨p, m, z, hp, hm, hz, (hg.block g hlt hr).trans hh⟩, h.code.grown hg hne, h.ne, h.le⟩
theorem Src.alloc {g : Nat} {a : Option Addr} {len cap : Nat} {w : World} (h : Src g a len cap w) (o : Obj) : Src g a len cap (w.alloc o) :=
  h.grown (World.grownBy_alloc w o none) (by simp) (fun _ _ _ => by simp)
theorem Src.drew {g : Nat} {a : Option Addr} {len cap : Nat} {w : World} (h : Src g a len cap w) : Src g a len cap w.drew := ⟨h.at_, h.code, h.ne, h.le⟩
theorem Src.drewN {g : Nat} {a : Option Addr} {len cap : Nat} {w : World} (h : Src g a len cap w) (n : Nat) : Src g a len cap (w.drewN n) := ⟨h.at_, h.code, h.ne, h.le⟩
theorem n_any (g : Nat) (a : Option Addr) (len cap : Nat) (most : Nat) (w : World) (hm : most ≤ 4611686018427387904) (hs : Src g a len cap w) :
    Calls Tryd.prog 41 #[.pointer (some ⟨g, 0, none⟩), .int .i64 (most : Int)] w fun e w' =>
      ∃ r : Nat, e = .returned (.int .i64 (r : Int)) ∧ (r < most ∨ r = 0) ∧ Src g a len cap w' ∧ Turns g w w' := by
  refine (srcN g a len cap most w hs.le hm hs.at_ hs.code hs.ne).mono ?_
  rintro e w' ⟨r, rfl, hr, h1, h2⟩
  exact ⟨r, rfl, hr, ⟨h1, hs.code.grown h2.1 (fun x h0 hx => by have := hs.ne x h0 hx; simpa using this), hs.ne, hs.le⟩, h2⟩
/-- Some bool is answered. -/
def AnyB (e : Ending) : Prop := e = .returned (.bool true) ∨ e = .returned (.bool false)
theorem one_any (g : Nat) (a : Option Addr) (len cap : Nat) (most : Nat) (w : World) (hm : most ≤ 4611686018427387904) (hs : Src g a len cap w) :
    Calls Tryd.prog 40 #[.pointer (some ⟨g, 0, none⟩), .int .i64 (most : Int)] w fun e w' => AnyB e ∧ Src g a len cap w' ∧ Turns g w w' := by
  have HS : Hid (Src g a len cap w) := hs
  clear hs
  go_enter Tryd.func40, Tryd.ntmps40
  go_wp2_with fail
  refine (n_any g a len cap most _ hm HS.out).mono ?_
  rintro e w' ⟨r, rfl, hr, h1, h2⟩
  have H1 : Hid (Src g a len cap w') := h1
  have H2 : Hid (Turns g w w') := h2
  clear h1 h2 hr
  by_cases h0 : r = 0
  · subst h0
    go_wp2
    go_ret
    exact ⟨.inl rfl, H1.out, H2.out⟩
  · have e0 : ((r : Int) == 0) = false := by rw [beq_eq_false_iff_ne]; omega
    go_wp2
    go_ret
    exact ⟨.inr rfl, H1.out, H2.out⟩
/-- The frame of a call that turns block g and makes new blocks. -/
def Grows (g : Nat) (w w' : World) : Prop := w.grownBy w' (some g)
theorem Grows.refl (g : Nat) (w : World) : Grows g w w := World.grownBy.refl _ _
theorem Turns.grows {g : Nat} {w w' : World} (h : Turns g w w') : Grows g w w' := h.1
theorem Grows.trans {g : Nat} {a b c : World} (h : Grows g a b) (k : Grows g b c) : Grows g a c :=
  ⟨k.os.trans h.os, k.tape.trans h.tape, k.output.trans h.output, Nat.le_trans h.size k.size, fun j hj hn => (k.block j (Nat.lt_of_lt_of_le hj h.size) hn).trans (h.block j hj hn)⟩
theorem Grows.grown {g : Nat} {a b c : World} {row : Option Nat} (h : Grows g a b) (k : b.grownBy c row) (hr : ∀ j, row = some j → a.heap.size ≤ j) : Grows g a c :=
  ⟨k.os.trans h.os, k.tape.trans h.tape, k.output.trans h.output, Nat.le_trans h.size k.size, fun j hj hn => (k.block j (Nat.lt_of_lt_of_le hj h.size) (fun e => by have := hr j e.symm; omega)).trans (h.block j hj hn)⟩
theorem Grows.alloc {g : Nat} {a b : World} (h : Grows g a b) (o : Obj) : Grows g a (b.alloc o) := h.grown (World.grownBy_alloc b o none) (fun j hj => by cases hj)
theorem Grows.drew {g : Nat} {a b : World} (h : Grows g a b) : Grows g a b.drew := ⟨h.os, h.tape, h.output, h.size, h.block⟩
theorem Grows.below {g B : Nat} {a w w' : World} (h : Grows g w w') (hb : Below B a w) (hB : B ≤ g) (hs : B ≤ w.heap.size) : Below B a w' :=
  hb.grown h hs (fun k hk => by cases hk; exact hB)

/-- Some text of k bytes is answered. -/
def AnyT (k : Nat) (e : Ending) : Prop := ∃ t : ByteArray, t.size = k ∧ e = .returned (.string t)
theorem size_nums (xs : List Int) : (strOfNums xs).size = xs.length := by simp [strOfNums, ByteArray.size]
theorem bytesRel {g : Nat} {a : Option Addr} {len cap n : Nat} {w wr w2 w1 : World} {v v' : Value} {xs ys : List Value} (o : Obj) (hblk : ∀ x, 0 < len → a = some x → x.block < w.heap.size) (hg : g < w.heap.size)
    (hT : Turns g wr w2) (hs : Src g a len cap w2) (hgr : Grows g w wr) (hown : w2.ownsRow w.heap.size 5 1 v n xs) (hown' : w1.ownsRow w.heap.size 5 1 v' (n + 1) ys) (hgrow : (w2.alloc o).grownBy w1 v.ownBlock) :
    w1.ownsRow w.heap.size 5 1 v' (n + 1) ys ∧ Src g a len cap w1 ∧ Grows g w w1 := by
  have hlt := fun k hk => (hown.lt k hk).1
  refine ⟨hown', (hs.alloc o).grown hgrow (fun e => by have := hlt g e.symm; omega) (fun x h0 hx e => by have := hlt _ e.symm; have := hblk x h0 hx; omega), ?_⟩
  exact ((hgr.trans hT.grows).alloc o).grown hgrow hlt
set_option maxHeartbeats 2000000 in
set_option maxRecDepth 100000 in
theorem bytes_any (g : Nat) (a : Option Addr) (len cap k : Nat) (w : World) (hk : k ≤ 100000) (hs : Src g a len cap w) (hblk : ∀ x, 0 < len → a = some x → x.block < w.heap.size) :
    Calls Tryd.prog 42 #[.pointer (some ⟨g, 0, none⟩), .int .i64 (k : Int)] w fun e w' => AnyT k e ∧ Src g a len cap w' ∧ Grows g w w' := by
  obtain ⟨i0, hi, hz0, hz1, hz2⟩ := info_parts infoByte
  have hglt := hs.lt
  have HS : Hid (Src g a len cap w) := hs
  have HBk : Hid (∀ x, 0 < len → a = some x → x.block < w.heap.size) := hblk
  clear hs hblk
  go_enter Tryd.func42, Tryd.ntmps42
  go_wp2
  go_loopw [5, 6] (fun b i wr => ∃ (j : Nat) (xs : List Int), j ≤ k ∧ xs.length = j ∧ i = .int .i64 j ∧ wr.ownsRow w.heap.size 5 1 b j (xs.map (Value.int .u8)) ∧ Src g a len cap wr ∧ Grows g w wr)
    (fun _ i _ => k - (intOf i).toNat)
  case atStart =>
    exact ⟨0, [], Nat.zero_le _, rfl, rfl, World.ownsRow_made _ #[] 0 (Nat.le_refl _) (Nat.zero_le _) rfl, HS.out.alloc _, (Grows.refl _ _).alloc _⟩
  case round =>
    obtain ⟨j, xs, hj, hl, rfl, hown, hs, hgr⟩ := hrel
    have HL : Hid (xs.length = j) := hl
    have H1 : Hid (Src g a len cap wr) := hs
    have H2 : Hid (Grows g w wr) := hgr
    clear hl hs hgr
    by_cases hlt : j < k
    · go_wp2_with fail
      refine (n_any g a len cap 256 _ (by omega) H1.out).mono ?_
      rintro e w2 ⟨r, rfl, hr, hs2, ht2⟩
      have hr' : (r : Int) ≤ 255 := by omega
      have hne : g < w.heap.size := hglt
      have hown2 : w2.ownsRow w.heap.size 5 1 u5 j (xs.map (Value.int .u8)) := hown.kept ht2.1 (by
        cases hob : u5.ownBlock with
        | none => exact .inl rfl
        | some q => right; intro e; have := (hown.lt q hob).1; have e' := Option.some.inj e; omega)
      have H3 : Hid (Src g a len cap w2) := hs2
      have H4 : Hid (Turns g wr w2) := ht2
      have hsz : w.heap.size ≤ w2.heap.size := by rw [ht2.2]; exact H2.out.size
      clear hr hs2 ht2 hown
      go_wp2_with (at_builtin; refine wpList_append_own _ rfl _ _ 22 rfl w.heap.size 5 i0 (.int .u8 0) 1 1 Tryd.underlying22 hi hz0 hz1 hz2 rfl (by decide) _ _ _ rfl (hown2.alloc _) ⟨w2.heap.size, 0, none⟩ 1 1 [.int .u8 (r : Int)] rfl rfl ?c1 ?c2 ?c3 ?c4 ?c5 ?_)
      case c1 => exact cells_one (by simp)
      case c2 => intro u hu; simp at hu; subst hu; rfl
      case c3 => unfold maxLen; omega
      case c4 => omega
      case c5 => simp; omega
      intro v' w1 hown' hgrow _
      obtain ⟨r1, r2, r3⟩ := bytesRel _ HBk.out hne H4.out H3.out H2.out hown2 hown' hgrow
      have R2 : Hid (Src g a len cap w1) := r2
      have R3 : Hid (Grows g w w1) := r3
      clear hown' hgrow hown2 r2 r3
      go_wp2
      go_roundw
      case rel => exact ⟨j + 1, xs ++ [(r : Int)], by omega, by rw [List.length_append, HL.out]; rfl, by go_num, by simpa using r1, R2.out, R3.out⟩
      case measure => simp [intOf]; omega
    · obtain rfl : j = k := by omega
      have hcv := run_convert_own (P := Tryd.prog) (src := 22) (dst := 9) Tryd.underlying22 Tryd.underlying5 Tryd.underlying9 hown
      clear hown
      go_wp2
      go_ret
      exact ⟨⟨_, by rw [size_nums]; exact HL.out, rfl⟩, H1.out, H2.out⟩
end Go.Proofs.YthhmobjphloahaaDoor
namespace Go.Proofs.YthhmobjphloahaaDoor
open Go.RowKit

set_option maxHeartbeats 2000000 in
set_option maxRecDepth 100000 in
theorem source_any (a : Option Addr) (len cap : Nat) (w : World) (hlen : len ≤ 1048576) (hc : CodeAt a len w) (hblk : ∀ x, 0 < len → a = some x → x.block < w.heap.size) :
    Calls Tryd.prog 34 #[.slice a len cap] w fun e w' => e = .returned (.pointer (some ⟨w.heap.size, 0, none⟩)) ∧ Src w.heap.size a len cap w' ∧ Below w.heap.size w w' ∧ w'.heap.size = w.heap.size + 1 := by
  have HC : Hid (CodeAt a len w) := hc
  have HBk : Hid (∀ x, 0 < len → a = some x → x.block < w.heap.size) := hblk
  clear hc hblk
  go_enter Tryd.func34, Tryd.ntmps34
  go_wp2
  go_loopw [4] (fun i wr => ∃ (j m : Nat), j ≤ len ∧ i = .int .i64 j ∧ m ≤ 18446744073709551615 ∧ wr.heap[w.heap.size]? = some (.cells #[.slice a len cap, .int .i64 0, .int .u64 m, .int .i64 0] 89 (0, 0)) ∧ Below w.heap.size w wr ∧ wr.heap.size = w.heap.size + 1)
    (fun i _ => len - (intOf i).toNat)
  case atStart =>
    exact ⟨0, 88172645463325252, Nat.zero_le _, rfl, by omega, heap_alloc_new w _, (Below.refl _ _).alloc (Nat.le_refl _) _, by simp⟩
  case round =>
    obtain ⟨j, m, hj, rfl, hm, hg, hbel, hsz⟩ := hrel
    have c2 := cell_of_row wr w.heap.size 2 _ _ (0, 0) hg
    have f2 := frozen_of_row wr w.heap.size 2 _ _ hg
    have c3 := cell_of_row wr w.heap.size 3 _ _ (0, 0) hg
    have f3 := frozen_of_row wr w.heap.size 3 _ _ hg
    simp at c2 c3
    have HG : Hid (wr.heap[w.heap.size]? = some (.cells #[.slice a len cap, .int .i64 0, .int .u64 m, .int .i64 0] 89 (0, 0))) := hg
    have HB : Hid (Below w.heap.size w wr) := hbel
    clear hg hbel
    by_cases hlt : j < len ∧ j < 64
    · obtain ⟨b, off, rfl, hcell⟩ : ∃ b off, a = some ⟨b, off, none⟩ ∧ ∀ i, i < len → ∃ z : Nat, z ≤ 255 ∧ w.cell? ⟨b, off + i, none⟩ = some (.int .u8 z) := by
        rcases HC.out with h | h
        · omega
        · exact h
      obtain ⟨y, hy, hyc0⟩ := hcell j hlt.1
      have hbb : b < w.heap.size := HBk.out _ (by omega) rfl
      have hyc : wr.cell? ⟨b, off + j, none⟩ = some (.int .u8 y) := (HB.out.cell hbb).trans hyc0
      obtain ⟨x1, hx1, ex1⟩ := xor_bd m y hm (by omega)
      obtain ⟨m1, hm1, em1⟩ := wrap_bd ((x1 : Int) * 1099511628211)
      have q1 : (j : Int) < (len : Int) := by omega
      have q2 : (j : Int) < 64 := by omega
      clear hcell hyc0
      go_wp2
      go_region
      go_wp2
      go_roundw
      case rel =>
        have h1 := heap_setCell_same wr w.heap.size 2 _ _ (.int .u64 (m1 : Int)) HG.out
        exact ⟨j + 1, m1, by omega, by go_num, hm1, h1, (HB.out.setCell (Nat.le_refl _) _).drew, by simpa using hsz⟩
      case measure => simp [intOf]; omega
    · have hout : (len : Int) ≤ (j : Int) ∨ (j : Int) < (len : Int) ∧ 64 ≤ (j : Int) := by omega
      clear hlt
      have hfin : ∀ (W : World) (v : Nat), v ≤ 12 → W.heap[w.heap.size]? = some (.cells #[.slice a len cap, .int .i64 0, .int .u64 m, .int .i64 v] 89 (0, 0)) → Below w.heap.size w W → Src w.heap.size a len cap W := fun W v hv h1 hW => by
        refine ⟨⟨0, m, v, Nat.zero_le _, hm, hv, h1⟩, ?_, fun x h0 hx => by have := HBk.out x h0 hx; omega, hlen⟩
        rcases HC.out with h | ⟨b, off, rfl, hcell⟩
        · exact .inl h
        · refine .inr ⟨b, off, rfl, fun i hi => ?_⟩
          obtain ⟨z, hz, hcl⟩ := hcell i hi
          exact ⟨z, hz, (hW.cell (p := ⟨b, off + i, none⟩) (show b < _ from HBk.out ⟨b, off, none⟩ (by omega) rfl)).trans hcl⟩
      have HF : Hid _ := hfin
      clear hfin
      by_cases h12 : 12 < len / 20
      · have q : (12 : Int) < (len : Int) / 20 := by omega
        rcases hout with ho | ⟨ho, ho'⟩
        all_goals
          go_wp2
          go_ret
          have h1 := heap_setCell_same wr w.heap.size 3 _ _ (.int .i64 ((len : Int) / 20)) HG.out
          have h2 := heap_setCell_same _ w.heap.size 3 _ _ (.int .i64 12) h1
          have hb := (HB.out.setCell (p := ⟨w.heap.size, 3, none⟩) (Nat.le_refl _) (.int .i64 ((len : Int) / 20))).setCell (p := ⟨w.heap.size, 3, none⟩) (Nat.le_refl _) (.int .i64 12)
          exact ⟨rfl, HF.out _ 12 (by omega) h2 hb, hb, by simpa using hsz⟩
      · have q : (len : Int) / 20 ≤ 12 := by omega
        have ecast : ((len / 20 : Nat) : Int) = (len : Int) / 20 := by omega
        have EC : Hid (((len / 20 : Nat) : Int) = (len : Int) / 20) := ecast
        clear ecast
        rcases hout with ho | ⟨ho, ho'⟩
        all_goals
          go_wp2
          go_ret
          have h1 := heap_setCell_same wr w.heap.size 3 _ _ (.int .i64 ((len : Int) / 20)) HG.out
          have hb := HB.out.setCell (p := ⟨w.heap.size, 3, none⟩) (Nat.le_refl _) (.int .i64 ((len : Int) / 20))
          rw [← EC.out] at h1 hb ⊢
          exact ⟨rfl, HF.out _ (len / 20) (by omega) h1 hb, hb, by simpa using hsz⟩
end Go.Proofs.YthhmobjphloahaaDoor
namespace Go.Proofs.YthhmobjphloahaaDoor
open Go.RowKit

theorem CodeAt.below {a : Option Addr} {len B : Nat} {w w' : World} (h : CodeAt a len w) (hb : Below B w w') (hblk : ∀ x, 0 < len → a = some x → x.block < B) : CodeAt a len w' := by
  rcases h with h | ⟨b, off, rfl, hc⟩
  · exact .inl h
  · refine .inr ⟨b, off, rfl, fun i hi => ?_⟩
    obtain ⟨z, hz, hcell⟩ := hc i hi
    exact ⟨z, hz, (hb.cell (p := ⟨b, off + i, none⟩) (show b < B from hblk ⟨b, off, none⟩ (by omega) rfl)).trans hcell⟩
theorem Src.below {g : Nat} {a : Option Addr} {len cap B : Nat} {w w' : World} (h : Src g a len cap w) (hb : Below B w w') (hg : g < B) (hblk : ∀ x, 0 < len → a = some x → x.block < B) : Src g a len cap w' := by
  obtain ⟨p, m, z, hp, hm, hz, hh⟩ := h.at_
  exact ⟨⟨p, m, z, hp, hm, hz, (hb.block g hg).trans hh⟩, h.code.below hb hblk, h.ne, h.le⟩
end Go.Proofs.YthhmobjphloahaaDoor
namespace Go.Proofs.YthhmobjphloahaaDoor
open Go.RowKit

/-- Some number of its kind is answered. -/
def AnyI (e : Ending) : Prop := ∃ v : Int, (-9223372036854775808 ≤ v ∧ v ≤ 9223372036854775807) ∧ e = .returned (.int .i64 v)
set_option maxRecDepth 100000 in
set_option maxHeartbeats 1000000 in
theorem edge_any (g : Nat) (a : Option Addr) (len cap : Nat) (w : World) (hs : Src g a len cap w) :
    Calls Tryd.prog 72 #[.pointer (some ⟨g, 0, none⟩)] w fun e w' => AnyI e ∧ Src g a len cap w' ∧ Grows g w w' := by
  have hglt := hs.lt
  have HS : Hid (Src g a len cap w) := hs
  clear hs
  go_enter Tryd.func72, Tryd.ntmps72
  go_wp2_with fail
  refine (n_any g a len cap 14 _ (by omega) (HS.out.alloc _)).mono ?_
  rintro e w1 ⟨r, rfl, hr, hs1, ht1⟩
  have H1 : Hid (Src g a len cap w1) := hs1
  have G1 : Hid (Grows g w w1) := ((Grows.refl g w).alloc _).trans ht1.grows
  have hrow : w1.heap[w.heap.size]? = some (.cells #[.int .i64 0, .int .i64 1, .int .i64 (-1), .int .i64 2, .int .i64 1000, .int .i64 1001, .int .i64 2147483648, .int .i64 2147483647, .int .i64 (-2147483648), .int .i64 4611686018427387904, .int .i64 9223372036854775807, .int .i64 (-9223372036854775808), .int .i64 1000000, .int .i64 1000001] 2 (0, 0)) := by
    rw [ht1.1.block w.heap.size (by simp) (by intro e; have := Option.some.inj e; omega), heap_alloc_new]
  have hcell := cell_of_row w1 w.heap.size r _ _ (0, 0) hrow
  have hr14 : r < 14 := by omega
  obtain ⟨v, hv, hvc⟩ : ∃ v : Int, (-9223372036854775808 ≤ v ∧ v ≤ 9223372036854775807) ∧ w1.cell? ⟨w.heap.size, r, none⟩ = some (.int .i64 v) := by
    rw [hcell]
    have hq : r = 0 ∨ r = 1 ∨ r = 2 ∨ r = 3 ∨ r = 4 ∨ r = 5 ∨ r = 6 ∨ r = 7 ∨ r = 8 ∨ r = 9 ∨ r = 10 ∨ r = 11 ∨ r = 12 ∨ r = 13 := by omega
    rcases hq with rfl | rfl | rfl | rfl | rfl | rfl | rfl | rfl | rfl | rfl | rfl | rfl | rfl | rfl <;> exact ⟨_, by decide, rfl⟩
  have q2 : (r : Int) < 14 := by omega
  clear hrow hcell hs1 ht1 hr
  go_wp2
  go_ret
  exact ⟨⟨v, hv, rfl⟩, H1.out, G1.out⟩
end Go.Proofs.YthhmobjphloahaaDoor
namespace Go.Proofs.YthhmobjphloahaaDoor
open Go.RowKit

theorem num_any (g : Nat) (a : Option Addr) (len cap : Nat) (w : World) (hs : Src g a len cap w) :
    Calls Tryd.prog 65 #[.pointer (some ⟨g, 0, none⟩)] w fun e w' => AnyI e ∧ Src g a len cap w' ∧ Grows g w w' := by
  have HS : Hid (Src g a len cap w) := hs
  clear hs
  go_enter Tryd.func65, Tryd.ntmps65
  go_wp2_with fail
  refine (one_any g a len cap 6 _ (by omega) HS.out).mono ?_
  rintro e w1 ⟨hb, hs1, ht1⟩
  have H1 : Hid (Src g a len cap w1) := hs1
  have G1 : Hid (Grows g w w1) := ht1.grows
  clear hs1 ht1
  rcases hb with rfl | rfl
  · go_wp2_with fail
    refine (edge_any g a len cap _ H1.out).mono ?_
    rintro e w2 ⟨⟨v, hv, rfl⟩, hs2, hg2⟩
    have H2 : Hid (Src g a len cap w2) := hs2
    have G2 : Hid (Grows g w w2) := G1.out.trans hg2
    clear hs2 hg2
    go_wp2
    go_ret
    exact ⟨⟨v, hv, rfl⟩, H2.out, G2.out⟩
  · go_wp2_with fail
    refine (n_any g a len cap 1048576 _ (by omega) H1.out).mono ?_
    rintro e w2 ⟨r, rfl, hr, hs2, ht2⟩
    have H2 : Hid (Src g a len cap w2) := hs2
    have G2 : Hid (Grows g w w2) := G1.out.trans ht2.grows
    have hr' : (r : Int) ≤ 1099511627776 := by omega
    clear hs2 ht2 hr
    go_wp2
    go_ret
    exact ⟨⟨_, by omega, rfl⟩, H2.out, G2.out⟩
set_option maxRecDepth 100000 in
set_option maxHeartbeats 1000000 in
theorem key_any (g : Nat) (a : Option Addr) (len cap : Nat) (w : World) (hs : Src g a len cap w) :
    Calls Tryd.prog 66 #[.pointer (some ⟨g, 0, none⟩)] w fun e w' => AnyI e ∧ Src g a len cap w' ∧ Grows g w w' := by
  have hglt := hs.lt
  have HS : Hid (Src g a len cap w) := hs
  clear hs
  go_enter Tryd.func66, Tryd.ntmps66
  go_wp2_with fail
  refine (one_any g a len cap 15 _ (by omega) HS.out).mono ?_
  rintro e w1 ⟨hb, hs1, ht1⟩
  have H1 : Hid (Src g a len cap w1) := hs1
  have G1 : Hid (Grows g w w1) := ht1.grows
  have z1 : w1.heap.size = w.heap.size := ht1.2
  clear hs1 ht1
  rcases hb with rfl | rfl
  · go_wp2_with fail
    refine (edge_any g a len cap _ H1.out).mono ?_
    rintro e w2 ⟨⟨v, hv, rfl⟩, hs2, hg2⟩
    have H2 : Hid (Src g a len cap w2) := hs2
    have G2 : Hid (Grows g w w2) := G1.out.trans hg2
    have z2 : w.heap.size ≤ w2.heap.size := G2.out.size
    clear hs2 hg2
    go_wp2_with fail
    refine (n_any g a len cap 7 _ (by omega) (H2.out.alloc _)).mono ?_
    rintro e w3 ⟨r, rfl, hr, hs3, ht3⟩
    have H3 : Hid (Src g a len cap w3) := hs3
    have G3 : Hid (Grows g w w3) := (G2.out.alloc _).trans ht3.grows
    have hrow : w3.heap[w2.heap.size]? = some (.cells #[.int .i64 (-1), .int .i64 0, .int .i64 1, .int .i64 2147483578, .int .i64 2147483579, .int .i64 2, .int .i64 v] 2 (0, 0)) := by
      rw [ht3.1.block w2.heap.size (by simp) (by intro e; have := Option.some.inj e; omega), heap_alloc_new]
    have hcell := cell_of_row w3 w2.heap.size r _ _ (0, 0) hrow
    have hr7 : r < 7 := by omega
    obtain ⟨u, hu, huc⟩ : ∃ u : Int, (-9223372036854775808 ≤ u ∧ u ≤ 9223372036854775807) ∧ w3.cell? ⟨w2.heap.size, r, none⟩ = some (.int .i64 u) := by
      rw [hcell]
      have hq : r = 0 ∨ r = 1 ∨ r = 2 ∨ r = 3 ∨ r = 4 ∨ r = 5 ∨ r = 6 := by omega
      rcases hq with rfl | rfl | rfl | rfl | rfl | rfl | rfl
      · exact ⟨-1, by decide, rfl⟩
      · exact ⟨0, by decide, rfl⟩
      · exact ⟨1, by decide, rfl⟩
      · exact ⟨2147483578, by decide, rfl⟩
      · exact ⟨2147483579, by decide, rfl⟩
      · exact ⟨2, by decide, rfl⟩
      · exact ⟨v, hv, rfl⟩
    have q2 : (r : Int) < 7 := by omega
    clear hrow hcell hs3 ht3 hr
    go_wp2
    go_ret
    exact ⟨⟨u, hu, rfl⟩, H3.out, G3.out⟩
  · go_wp2_with fail
    refine (n_any g a len cap 5 _ (by omega) H1.out).mono ?_
    rintro e w2 ⟨r, rfl, hr, hs2, ht2⟩
    have H2 : Hid (Src g a len cap w2) := hs2
    have G2 : Hid (Grows g w w2) := G1.out.trans ht2.grows
    have hr' : (r : Int) ≤ 5 := by omega
    have hr2 : r ≤ 5 := by omega
    have e1 : (1 : Int) + (r : Int) = ((1 + r : Nat) : Int) := by omega
    have HC : Hid (∀ v : World, Calls Tryd.prog 63 #[.int .i64 4, .int .i64 ((1 + r : Nat) : Int), .int .i64 2147483579] v fun e w' => e = .returned (.int .i64 ((pm 4 (1 + r) 2147483579 : Nat) : Int)) ∧ w' = v) := fun v => specPow 4 (1 + r) 2147483579 v (by omega) (by omega) (by omega)
    have hz := pm_lt 4 (1 + r) (m := 2147483579) (by omega)
    generalize 1 + r = j at *
    generalize pm 4 j 2147483579 = z at *
    clear hs2 ht2 hr
    go_wp2_with fail
    refine (HC.out _).mono ?_
    rintro e w' ⟨rfl, rfl⟩
    go_wp2
    go_ret
    exact ⟨⟨_, by omega, rfl⟩, H2.out, G2.out⟩
end Go.Proofs.YthhmobjphloahaaDoor
