/- 'spec.DrawDerOid', walked. laws.lwAt, walked: a number below most, off the bytes that were handed in. laws.lwNums, walked. A row of things in memory. laws.lwTlvs, walked. -/
import Derived.Test.YtjllcflnmopnpaaDoorM11
import Derived.Test.YtjllcflnmopnpaaDoorM09
import Derived.Deep.RegionLaw
import Derived.Test.YtjllcflnmopnpaaDoorM06
import Derived.Test.YtjllcflnmopnpaaDoorM04
import Derived.Handy
import Derived.Deep.QuietTactic
import Derived.BigQuiet
namespace Go.Proofs.YtjllcflnmopnpaaDoor
open Go.RowKit

/-- A source at work, and a row of numbers behind it. -/
def SL (w : World) (a : Option Addr) (len cap : Nat) (W : World) (v : Value) (l : List Int) : Prop := SS w a len cap W ∧ OwnL W (w.heap.size + 1) v l
section
variable {w W W' : World} {a : Option Addr} {len cap : Nat} {v : Value} {l : List Int}
theorem SS.grown {row : Option Nat} (h : SS w a len cap W) (hg : W.grownBy W' row) (hr : ∀ k, row = some k → w.heap.size < k) : SS w a len cap W' :=
  ⟨h.1.grown hg (fun e => by have := hr _ e.symm; omega) (fun x h0 hx e => by have := hr _ e.symm; have := h.2.2.2 x h0 hx; omega), h.2.1.grown hg (Nat.le_of_lt h.2.2.1) (fun k hk => by have := hr k hk; omega), Nat.lt_of_lt_of_le h.2.2.1 hg.size, h.2.2.2⟩
theorem SL.turn (h : SL w a len cap W v l) (h1 : Src w.heap.size a len cap W') (hg : Grows w.heap.size W W') : SL w a len cap W' v l :=
  ⟨h.1.grows h1 hg, World.ownsRow.kept h.2 hg (.inr (fun e => by have := (h.2.ge e).1; omega))⟩
theorem SL.alloc (h : SL w a len cap W v l) (o : Obj) : SL w a len cap (W.alloc o) v l := ⟨h.1.alloc o, World.ownsRow.alloc h.2 o⟩
theorem SL.drew (h : SL w a len cap W v l) : SL w a len cap W.drew v l := ⟨h.1.keep ((Below.refl _ W).drew), h.2⟩
theorem sl_n (most : Nat) (hm : most ≤ 4611686018427387904) (h : SL w a len cap W v l) :
    Calls Tryd.prog 29 #[.pointer (some ⟨w.heap.size, 0, none⟩), .int .i64 (most : Int)] W fun e w' => ∃ r : Nat, e = .returned (.int .i64 (r : Int)) ∧ (r < most ∨ r = 0) ∧ SL w a len cap w' v l ∧ Grows w.heap.size W w' := by
  refine (n_any w.heap.size a len cap most W hm h.1.1).mono ?_
  rintro e w' ⟨r, rfl, hr, h1, h2⟩
  exact ⟨r, rfl, hr, h.turn h1 h2.grows, h2.grows⟩
theorem sl_one (most : Nat) (hm : most ≤ 4611686018427387904) (h : SL w a len cap W v l) :
    Calls Tryd.prog 41 #[.pointer (some ⟨w.heap.size, 0, none⟩), .int .i64 (most : Int)] W fun e w' => AnyB e ∧ SL w a len cap w' v l := by
  refine (one_any w.heap.size a len cap most W hm h.1.1).mono ?_
  rintro e w' ⟨hb, h1, h2⟩
  exact ⟨hb, h.turn h1 h2.grows⟩
end
/-- A call of two arguments by its contract, as one step of a region that draws its order. -/
theorem step_call2 {P : Program} {ops : Array Oper} {o : Oper} {a : Act} {w : World} {K : Act → World → Prop} {Q : Exit → Act → World → Prop} {E : Prop} (hgd : o.guard = none) (f : Nat) (x y : Operand) (tx ty : TypeId)
    (ho : o.op = .call { callee := .value (.func f), args := #[x, y], argTypes := #[tx, ty] }) (v u : Value) (hx : a.eval x = v) (hy : a.eval y = u) (X : Value → World → Prop)
    (hcf : ∀ args w, (callFunc f args).run P w = .ok (.enter f args) w) (hc : Calls P f #[v, u] w fun e w' => ∃ r, e = .returned r ∧ X r w') (h : ∀ r w', X r w' → K (a.put o.dst r) w') :
    if Region.wanted o (yielded ops a.tmps) = true then Oper.wp P o a w K Q else E := by
  have hw : Region.wanted o (yielded ops a.tmps) = true := by simp [Region.wanted, hgd]
  rw [if_pos hw]
  unfold Oper.wp
  simp only [execOp, ho, resolve, invoke, Sem.run_bind, Sem.run_pure, Result.andThen_ok, List.map_toArray, List.map_cons, List.map_nil, Act.eval, Deferred.ofValue, Array.append_empty, hcf]
  show Calls P f (#[] ++ #[a.eval x, a.eval y]) w _
  rw [hx, hy, Array.empty_append]
  refine hc.mono ?_
  rintro e w' ⟨r, rfl, hX⟩
  exact h r w' hX
def nums6 : List Int := [0, 1, 127, 128, 113549, 2147483647]
def nums5 : List Int := [39, 40, 100, 101, -1]
def nums2 : List Int := [-1, 2147483648]
/-- A row of numbers stands whole, beside the source. -/
def RowN (n : Nat) (l : List Int) (W : World) (B : Nat) : Prop := W.heap[B]? = some (.cells (lCells l).toArray 2 (0, 0)) ∧ B ≠ n
theorem RowN.at {n : Nat} {l : List Int} {W : World} {B r : Nat} (h : RowN n l W B) (hr : r < l.length) : W.cell? ⟨B, r, none⟩ = some (.int .i64 (l.getD r 0)) := by
  rw [cell_of_row W B r _ _ (0, 0) h.1]
  simp [lCells, List.getD, hr]
theorem grows_row {n : Nat} {l : List Int} {W W' : World} (hg : Grows n W W') (B : Nat) (h : RowN n l W B) : RowN n l W' B :=
  ⟨by rw [hg.block B (heap_lt h.1) (by intro e; exact h.2 (Option.some.inj e))]; exact h.1, h.2⟩
/-- What stands behind an append. -/
theorem SL.append {w W W' : World} {a : Option Addr} {len cap : Nat} {v v' : Value} {l : List Int} {x : Int} (h : SL w a len cap W v l) (ho : W'.ownsRow (w.heap.size + 1) 2 1 v' (l.length + 1) (lCells l ++ [.int .i64 x])) (hg : W.grownBy W' v.ownBlock) : SL w a len cap W' v' (l ++ [x]) := by
  refine ⟨h.1.grown hg (fun k hk => by have := (h.2.ge hk).1; omega), ?_⟩
  show World.ownsRow _ _ _ _ _ _ _
  rw [List.length_append, lCells, List.map_append]
  exact ho
theorem SL.set {w W : World} {a : Option Addr} {len cap n c g : Nat} {l : List Int} (h : SL w a len cap W (.slice (some ⟨g, 0, none⟩) n c) l) (hn : n = l.length) (j : Nat) (x : Int) : SL w a len cap (W.setCell ⟨g, j, none⟩ (.int .i64 x)) (.slice (some ⟨g, 0, none⟩) n c) (l.set j x) := by
  subst hn
  have hs := World.ownsRow.stored (show World.ownsRow _ _ _ _ _ _ _ from h.2) j (.int .i64 x)
  refine ⟨h.1.grown hs.2 (fun k hk => by cases hk; have := (h.2.ge (g := g) rfl).1; omega), ?_⟩
  show World.ownsRow _ _ _ _ _ _ _
  rw [List.length_set, lCells, List.map_set]
  exact hs.1
def sliceLen : Value → Nat
  | .slice _ n _ => n
  | _ => 0
theorem IsInts.take {w : World} {a : Option Addr} {l : List Int} (h : IsInts w a l) (k : Nat) : IsInts w a (l.take k) := by
  rcases h with rfl | ⟨b, o, rfl, hc⟩
  · exact .inl (by simp)
  · refine .inr ⟨b, o, rfl, fun i hi => ?_⟩
    rw [List.length_take] at hi
    rw [hc i (by omega)]
    simp only [List.getD, List.getElem?_take, if_pos (show i < k by omega)]
theorem SL.cut {w W : World} {a : Option Addr} {len cap n c : Nat} {x : Option Addr} {l : List Int} (h : SL w a len cap W (.slice x n c) l) (hl : 1 ≤ l.length) (hc : 1 ≤ c) : DrewL W (.returned (.slice x 1 c)) ∧ Below w.heap.size w W :=
  ⟨⟨x, c, l.take 1, by rw [List.length_take, Nat.min_eq_left hl], by rw [List.length_take]; omega, by rw [List.length_take]; omega, h.2.ints.take 1⟩, h.1.2.1⟩
theorem SL.drewL {w W : World} {a : Option Addr} {len cap : Nat} {v : Value} {l : List Int} (h : SL w a len cap W v l) (hl : l.length ≤ 20) : DrewL W (.returned v) ∧ Below w.heap.size w W := by
  obtain ⟨x, c, rfl, hc⟩ := h.2.form
  exact ⟨⟨x, c, l, rfl, hl, hc, h.2.ints⟩, h.1.2.1⟩
set_option maxRecDepth 100000 in
set_option maxHeartbeats 4000000 in
theorem drawDerOid (a : Option Addr) (len cap : Nat) (w : World) (hlen : len ≤ 1048576) (hc : CodeAt a len w) (hblk : ∀ x, 0 < len → a = some x → x.block < w.heap.size) :
    Calls Tryd.prog 16 #[.slice a len cap] w fun e W => DrewL W e ∧ Below w.heap.size w W := by
  obtain ⟨i0, hi, hz0, hz1, hz2⟩ := info_parts infoLong
  have HC : Hid (CodeAt a len w) := hc
  have HBk : Hid (∀ x, 0 < len → a = some x → x.block < w.heap.size) := hblk
  clear hc hblk
  go_enter Tryd.func16, Tryd.ntmps16
  go_wp2_with fail
  refine (ss_source a len cap _ hlen HC.out HBk.out).mono ?_
  rintro e w1 ⟨rfl, h1⟩
  have H1 : Hid (SS w a len cap w1) := h1
  clear h1
  go_wp2_with fail
  refine (ss_n 3 (by omega) H1.out).mono ?_
  rintro e w2 ⟨r, rfl, hr, h2, hx2⟩
  have H2 : Hid (SS w a len cap w2) := h2
  clear h2 hr hx2 H1
  go_wp2_with fail
  refine (ss_n 40 (by omega) H2.out).mono ?_
  rintro e w3 ⟨s, rfl, hs, h3, hx3⟩
  have hz3 := h3.2.2.1
  have H3 : Hid (SL w a len cap (w3.alloc (.cells #[.int .i64 (r : Int), .int .i64 (s : Int)] 2 (0, 0))) (.slice (some ⟨w3.heap.size, 0, none⟩) 2 2) [(r : Int), (s : Int)]) :=
    ⟨h3.alloc _, World.ownsRow_lit (base := w.heap.size + 1) (e := 2) (size := 1) w3 #[.int .i64 (r : Int), .int .i64 (s : Int)] 2 (by omega) (by decide) rfl⟩
  clear h3 hs hx3 hz3 H2
  go_wp2_with fail
  refine (sl_n 5 (by omega) H3.out).mono ?_
  rintro e w4 ⟨k, rfl, hk, h4, hx4⟩
  have H4 : Hid (SL w a len cap w4 (.slice (some ⟨w3.heap.size, 0, none⟩) 2 2) [(r : Int), (s : Int)]) := h4
  have hk' : k ≤ 4 := by omega
  clear h4 hk hx4 H3
  go_wp2_with fail
  go_loopw [4, 5] (fun v q wr => ∃ (j : Nat) (acc : List Int), q = .int .i64 (j : Int) ∧ j ≤ 4 ∧ 2 ≤ acc.length ∧ acc.length + j ≤ 6 ∧ SL w a len cap wr v acc)
    (fun _ q _ => (intOf q).toNat)
  case atStart => exact ⟨k, _, rfl, hk', Nat.le_refl _, by show 2 + k ≤ 6; omega, H4.out⟩
  case round =>
    clear H4 hk'
    obtain ⟨j, acc, rfl, hj, hal, hal', hsl⟩ := hrel
    obtain ⟨va, vc, rfl, hvc⟩ := OwnL.form hsl.2
    have HSL : Hid (SL w a len cap wr (.slice va acc.length vc) acc) := hsl
    have HD : Hid (SL w a len cap wr.drew (.slice va acc.length vc) acc) := hsl.drew
    have HA : Hid (∀ V o, Hid (SL w a len cap V (.slice va acc.length vc) acc) → Hid (SL w a len cap (V.alloc o) (.slice va acc.length vc) acc)) := fun V o h => h.out.alloc o
    have HNe : Hid (∀ V, Hid (SL w a len cap V (.slice va acc.length vc) acc) → V.heap.size ≠ w.heap.size) := fun V h => by have := h.out.1.2.2.1; omega
    have HGe : Hid (∀ V, Hid (SL w a len cap V (.slice va acc.length vc) acc) → w.heap.size + 1 ≤ V.heap.size) := fun V h => h.out.1.2.2.1
    clear hsl
    obtain ⟨n, hn⟩ : ∃ n, n = acc.length := ⟨_, rfl⟩
    rw [← hn] at HSL HD HA HNe HGe hvc hal hal' ⊢
    have HNn : Hid (n = acc.length) := hn
    clear hn
    by_cases hj0 : 0 < j
    · go_wp2_with fail
      refine (sl_n 6 (by omega) (HSL.out.alloc (.cells (lCells nums6).toArray 2 (0, 0)))).mono ?_
      rintro e w5 ⟨q, rfl, hq, h5, hg5⟩
      have hrow := (grows_row hg5 wr.heap.size ⟨heap_alloc_new wr _, HNe.out _ HSL⟩).at (r := q) (show q < 6 by omega)
      have H5 : Hid (SL w a len cap w5 (.slice va n vc) acc) := h5
      have hq6 : q < 6 := by omega
      have hqi : (q : Int) < 6 := by omega
      generalize nums6.getD q 0 = x at hrow
      have hO : w5.ownsRow (w.heap.size + 1) 2 1 (.slice va n vc) n (lCells acc) := by have := h5.2; unfold OwnL at this; rw [← HNn.out] at this; exact this
      have hz5 : w.heap.size + 1 ≤ w5.heap.size := h5.1.2.2.1
      clear hq h5 hg5 HD HA HNe HGe
      go_wp2_with (at_builtin; refine wpList_append_own _ rfl _ _ 41 rfl (w.heap.size + 1) 2 i0 (.int .i64 0) 1 8 Tryd.underlying41 hi hz0 hz1 hz2 rfl (by decide) _ _ _ rfl (hO.alloc _) ⟨w5.heap.size, 0, none⟩ 1 1 [.int .i64 x] rfl rfl ?c1 ?c2 ?c3 ?c4 ?c5 ?_)
      case c1 => exact cells_one (by simp)
      case c2 => intro u hu; simp at hu; subst hu; rfl
      case c3 => unfold maxLen; omega
      case c4 => omega
      case c5 => simp; omega
      intro v' w6 hown' hgrow _
      have H6 : Hid (SL w a len cap w6 v' (acc ++ [x])) := (H5.out.alloc _).append (by rw [← HNn.out]; exact hown') hgrow
      clear hown' hgrow hO hrow
      go_wp2_with fail
      go_roundw
      case rel => exact ⟨j - 1, acc ++ [x], by simp; omega, by omega, by rw [List.length_append, ← HNn.out]; simp; omega, by rw [List.length_append, ← HNn.out]; simp; omega, H6.out⟩
      case measure => simp [intOf]; omega
    · have hj1 : j = 0 := by omega
      subst hj1
      clear hj hj0 HD HA HNe HGe
      go_wp2_with fail
      refine (sl_one 8 (by omega) HSL.out).mono ?_
      rintro e w5 ⟨hb5, h5⟩
      have H5 : Hid (SL w a len cap w5 (.slice va n vc) acc) := h5
      clear h5 HSL
      rcases hb5 with rfl | rfl
      · go_wp2_with fail
        refine (sl_n 4 (by omega) H5.out).mono ?_
        rintro e w6 ⟨q, rfl, hq, h6, _⟩
        have H6 : Hid (SL w a len cap w6 (.slice va n vc) acc) := h6
        have hrr : q = 0 ∨ q = 1 ∨ q = 2 ∨ (((q : Int) == 0) = false ∧ ((q : Int) == 1) = false ∧ ((q : Int) == 2) = false) := by
          simp only [beq_eq_false_iff_ne]; omega
        clear h6 hq H5
        rcases hrr with rfl | rfl | rfl | ⟨g0, g1, g2⟩
        · go_wp2_with fail
          go_ret
          exact H6.out.cut (by have := HNn.out; omega) (by omega)
        · go_wp2_with fail
          refine (sl_n 5 (by omega) (H6.out.alloc (.cells (lCells nums5).toArray 2 (0, 0)))).mono ?_
          rintro e w7 ⟨q, rfl, hq, h7, hg7⟩
          have hrow := (grows_row hg7 w6.heap.size ⟨heap_alloc_new w6 _, by have := H6.out.1.2.2.1; omega⟩).at (r := q) (show q < 5 by omega)
          obtain ⟨g, g', hv, _, _⟩ := World.ownsRow.form (show World.ownsRow _ _ _ _ _ _ _ from h7.2) (by have := HNn.out; omega)
          obtain rfl := (Value.slice.inj hv).1
          have hO : w7.ownsRow (w.heap.size + 1) 2 1 (.slice (some ⟨g, 0, none⟩) n vc) n (lCells acc) := by have := h7.2; unfold OwnL at this; rw [← HNn.out] at this; exact this
          have c1 : w7.cell? ⟨g, 1, none⟩ = some (.int .i64 (acc.getD 1 0)) := by
            rw [hO.cellAt 1 (by omega)]
            have : 1 < acc.length := by have := HNn.out; omega
            simp [lCells, List.getD, this]
          have f1 := hO.frozenAt 1
          have H7 : Hid (SL w a len cap w7 (.slice (some ⟨g, 0, none⟩) n vc) acc) := h7
          have hq6 : q < 5 := by omega
          have hqi : (q : Int) < 5 := by omega
          generalize nums5.getD q 0 = x at hrow
          generalize acc.getD 1 0 = y at c1
          clear hq h7 hg7 hO hv H6
          go_wp2_with fail
          go_ret
          exact (H7.out.set HNn.out 1 x).drewL (by rw [List.length_set]; have := HNn.out; omega)
        · go_wp2_with fail
          refine (sl_n 2 (by omega) (H6.out.alloc (.cells (lCells nums2).toArray 2 (0, 0)))).mono ?_
          rintro e w7 ⟨q, rfl, hq, h7, hg7⟩
          have hrow := (grows_row hg7 w6.heap.size ⟨heap_alloc_new w6 _, by have := H6.out.1.2.2.1; omega⟩).at (r := q) (show q < 2 by omega)
          have hO : w7.ownsRow (w.heap.size + 1) 2 1 (.slice va n vc) n (lCells acc) := by have := h7.2; unfold OwnL at this; rw [← HNn.out] at this; exact this
          have H7 : Hid (SL w a len cap w7 (.slice va n vc) acc) := h7
          have hz7 : w.heap.size + 1 ≤ w7.heap.size := h7.1.2.2.1
          have hq6 : q < 2 := by omega
          have hqi : (q : Int) < 2 := by omega
          generalize nums2.getD q 0 = x at hrow
          clear hq h7 hg7 H6
          go_wp2_with (at_builtin; refine wpList_append_own _ rfl _ _ 41 rfl (w.heap.size + 1) 2 i0 (.int .i64 0) 1 8 Tryd.underlying41 hi hz0 hz1 hz2 rfl (by decide) _ _ _ rfl (hO.alloc _) ⟨w7.heap.size, 0, none⟩ 1 1 [.int .i64 x] rfl rfl ?c1 ?c2 ?c3 ?c4 ?c5 ?_)
          case c1 => exact cells_one (by simp)
          case c2 => intro u hu; simp at hu; subst hu; rfl
          case c3 => unfold maxLen; omega
          case c4 => omega
          case c5 => simp; omega
          intro v' w8 hown' hgrow _
          have H8 : Hid (SL w a len cap w8 v' (acc ++ [x])) := (H7.out.alloc _).append (by rw [← HNn.out]; exact hown') hgrow
          clear hown' hgrow hO hrow
          go_wp2_with fail
          go_ret
          exact H8.out.drewL (by rw [List.length_append, ← HNn.out]; simp; omega)
        · go_wp2_with fail
          go_loopw [4] (fun v wr => ∃ (acc : List Int), 2 ≤ acc.length ∧ acc.length ≤ 11 ∧ SL w a len cap wr v acc)
            (fun v _ => 20 - sliceLen v)
          case atStart => exact ⟨acc, by have := HNn.out; omega, by have := HNn.out; omega, H6.out⟩
          case round =>
            clear H6 HNn hvc hal hal'
            obtain ⟨acc, hal, hal', hsl⟩ := hrel
            obtain ⟨va, vc, rfl, hvc⟩ := OwnL.form hsl.2
            have HSL : Hid (SL w a len cap wr (.slice va acc.length vc) acc) := hsl
            clear hsl
            obtain ⟨n, hn⟩ : ∃ n, n = acc.length := ⟨_, rfl⟩
            rw [← hn] at HSL hvc hal hal' ⊢
            have HNn : Hid (n = acc.length) := hn
            clear hn
            go_wp2_with fail
            refine (sl_n 3 (by omega) HSL.out).mono ?_
            rintro e w7 ⟨q, rfl, hq, h7, hg7⟩
            have H7 : Hid (SL w a len cap w7 (.slice va n vc) acc) := h7
            have hz7 : w.heap.size + 1 ≤ w7.heap.size := h7.1.2.2.1
            have hq6 : q ≤ 2 := by omega
            have hO : w7.ownsRow (w.heap.size + 1) 2 1 (.slice va n vc) n (lCells acc) := by have := h7.2; unfold OwnL at this; rw [← HNn.out] at this; exact this
            clear hq h7 hg7 HSL
            by_cases hlt : n < 9 + q
            · go_wp2_with (at_builtin; refine wpList_append_own _ rfl _ _ 41 rfl (w.heap.size + 1) 2 i0 (.int .i64 0) 1 8 Tryd.underlying41 hi hz0 hz1 hz2 rfl (by decide) _ _ _ rfl (hO.alloc _) ⟨w7.heap.size, 0, none⟩ 1 1 [.int .i64 5] rfl rfl ?c1 ?c2 ?c3 ?c4 ?c5 ?_)
              case c1 => exact cells_one (by simp)
              case c2 => intro u hu; simp at hu; subst hu; rfl
              case c3 => unfold maxLen; omega
              case c4 => omega
              case c5 => simp; omega
              intro v' w8 hown' hgrow _
              have H8 : Hid (SL w a len cap w8 v' (acc ++ [5])) := (H7.out.alloc _).append (by rw [← HNn.out]; exact hown') hgrow
              clear hown' hgrow hO
              obtain ⟨vb, vd, rfl, _⟩ := OwnL.form H8.out.2
              have hl8 : (acc ++ [(5 : Int)]).length = n + 1 := by rw [List.length_append, ← HNn.out]; rfl
              rw [hl8] at H8 ⊢
              have HL8 : Hid ((acc ++ [(5 : Int)]).length = n + 1) := hl8
              clear hl8
              go_wp2_with fail
              go_roundw
              case rel => exact ⟨acc ++ [5], by rw [HL8.out]; omega, by rw [HL8.out]; omega, H8.out⟩
              case measure => simp [sliceLen]; omega
            · clear hO
              go_wp2_with fail
              go_ret
              exact H7.out.drewL (by have := HNn.out; omega)
      · go_wp2_with fail
        go_ret
        exact H5.out.drewL (by have := HNn.out; omega)
end Go.Proofs.YtjllcflnmopnpaaDoor
namespace Go.Proofs.YtjllcflnmopnpaaDoor
open Go.RowKit

theorem tmodNat (p m : Nat) : (p : Int).tmod (m : Int) = ((p % m : Nat) : Int) := by
  rw [Int.tmod_eq_emod_of_nonneg (Int.natCast_nonneg _)]; rfl
set_option maxHeartbeats 1000000 in
set_option maxRecDepth 100000 in
theorem lwAt (a : Option Addr) (len cap i most : Nat) (w : World) (hlen : len ≤ 1048576) (hm : most ≤ 2147483648) (hc : CodeAt a len w) :
    Calls Tryd.prog 8 #[.slice a len cap, .int .i64 (i : Int), .int .i64 (most : Int)] w fun e w' => (∃ k : Nat, (k < most ∨ k = 0) ∧ e = .returned (.int .i64 (k : Int))) ∧ w' = w := by
  by_cases h1 : most ≤ 1
  · have q : (most : Int) ≤ 1 := by omega
    go_enter Tryd.func8, Tryd.ntmps8
    go_wp2
    go_ret
    exact ⟨⟨0, .inr rfl, rfl⟩, rfl⟩
  by_cases h0 : len = 0
  · subst h0
    go_enter Tryd.func8, Tryd.ntmps8
    go_wp2
    go_ret
    exact ⟨⟨0, .inr rfl, rfl⟩, rfl⟩
  · obtain ⟨b, off, rfl, hcell⟩ : ∃ b off, a = some ⟨b, off, none⟩ ∧ ∀ i, i < len → ∃ z : Nat, z ≤ 255 ∧ w.cell? ⟨b, off + i, none⟩ = some (.int .u8 z) := by
      rcases hc with h | h
      · omega
      · exact h
    have hlt : i % len < len := Nat.mod_lt _ (by omega)
    obtain ⟨y, hy, hyc⟩ := hcell (i % len) hlt
    have q0 : (1 : Int) < (most : Int) := by omega
    have q1 : ((len : Int) == 0) = false := by rw [beq_eq_false_iff_ne]; omega
    have q5 : ((most : Int) == 0) = false := by rw [beq_eq_false_iff_ne]; omega
    have q2 := tmodNat i len
    have q3 := tmodNat y most
    have q6 : y % most < most := Nat.mod_lt _ (by omega)
    generalize i % len = j at *
    generalize y % most = x at *
    have q4 : (j : Int) < (len : Int) := by omega
    clear hcell hc
    go_enter Tryd.func8, Tryd.ntmps8
    go_wp2
    go_ret
    exact ⟨⟨x, .inl q6, rfl⟩, rfl⟩
end Go.Proofs.YtjllcflnmopnpaaDoor
namespace Go.Proofs.YtjllcflnmopnpaaDoor
open Go.RowKit

set_option maxHeartbeats 1000000 in
set_option maxRecDepth 100000 in
theorem lwNums (a b : Option Addr) (zs : List Int) (c d : Nat) (w : World) (hl : zs.length ≤ 2000000) (ha : IsInts w a zs) (hb : IsInts w b zs) :
    Calls Tryd.prog 22 #[.slice a zs.length c, .slice b zs.length d] w fun e w' => e = .returned (.bool true) ∧ Below w.heap.size w w' := by
  go_enter Tryd.func22, Tryd.ntmps22
  go_wp2
  go_loopw [5] (fun i wr => ∃ k : Nat, k ≤ zs.length ∧ i = .int .i64 k ∧ Below w.heap.size w wr) (fun i _ => zs.length - (intOf i).toNat)
  case atStart => exact ⟨0, Nat.zero_le _, rfl, Below.refl _ _⟩
  case round =>
    obtain ⟨k, hk, rfl, hbr⟩ := hrel
    by_cases hlt : k < zs.length
    · obtain ⟨x, o, rfl, hc⟩ : ∃ x o, a = some ⟨x, o, none⟩ ∧ ∀ i, i < zs.length → wr.cell? ⟨x, o + i, none⟩ = some (.int .i64 (zs.getD i 0)) := by
        rcases ha.below hbr ha.lt with rfl | h
        · simp at hlt
        · exact h
      obtain ⟨y, p, rfl, hd⟩ : ∃ x o, b = some ⟨x, o, none⟩ ∧ ∀ i, i < zs.length → wr.cell? ⟨x, o + i, none⟩ = some (.int .i64 (zs.getD i 0)) := by
        rcases hb.below hbr hb.lt with rfl | h
        · simp at hlt
        · exact h
      have hck := hc k hlt
      have hdk := hd k hlt
      have HB : Hid (Below w.heap.size w wr) := hbr
      generalize zs.getD k 0 = z at hck hdk
      generalize hn : zs.length = n at *
      clear hc hd ha hb hbr hn
      go_wp2
      go_quiet (fail)
      go_wp2
      go_roundw
      case rel => exact ⟨k + 1, by omega, by go_num, below_drewN HB.out _⟩
      case measure => simp [intOf]; omega
    · go_wp2
      go_ret
      exact ⟨rfl, hbr⟩
end Go.Proofs.YtjllcflnmopnpaaDoor
namespace Go.Proofs.YtjllcflnmopnpaaDoor
open Go.RowKit

/-- The things l lie behind the address (none at all: any address serves). -/
def IsT (w : World) (a : Option Addr) (l : List (Int × ByteArray)) : Prop :=
  l = [] ∨ ∃ g, a = some ⟨g, 0, none⟩ ∧ g < w.heap.size ∧ ∀ i p, l[i]? = some p → w.cell? ⟨g, i * 2, none⟩ = some (.int .i64 p.1) ∧ w.cell? ⟨g, i * 2 + 1, none⟩ = some (.string p.2)
theorem IsT.keep {w w' : World} {a : Option Addr} {l : List (Int × ByteArray)} (h : IsT w a l) (hb : Below w.heap.size w w') : IsT w' a l := by
  rcases h with h | ⟨g, rfl, hg, hc⟩
  · exact .inl h
  · refine .inr ⟨g, rfl, Nat.lt_of_lt_of_le hg hb.size, fun i p hp => ?_⟩
    rw [hb.cell (p := ⟨g, i * 2, none⟩) hg, hb.cell (p := ⟨g, i * 2 + 1, none⟩) hg]
    exact hc i p hp
theorem OwnT.isT {w : World} {B : Nat} {a : Option Addr} {n c : Nat} {l : List (Int × ByteArray)} (h : OwnT w B (.slice a n c) l) : IsT w a l := by
  rcases h.2 with ⟨_, h'⟩ | ⟨g, cap, cur, e, _, hg, _, _, _, ht⟩
  · exact .inl (List.eq_nil_of_length_eq_zero h')
  · simp only [Value.slice.injEq] at e
    obtain ⟨rfl, _, _⟩ := e
    refine .inr ⟨g, rfl, heap_lt hg, fun i p hp => ?_⟩
    have hl : i < l.length := by
      rcases Nat.lt_or_ge i l.length with h' | h'
      · exact h'
      · rw [List.getElem?_eq_none h'] at hp; cases hp
    obtain ⟨k0, k1⟩ := tCells_at l i p hp
    rw [Nat.mul_comm 2 i] at k0 k1
    rw [← ht, List.getElem?_take, if_pos (by omega)] at k0 k1
    rw [cell_of_row w g _ _ _ (0, 0) hg, cell_of_row w g _ _ _ (0, 0) hg]
    exact ⟨by simpa using k0, by simpa using k1⟩
end Go.Proofs.YtjllcflnmopnpaaDoor
namespace Go.Proofs.YtjllcflnmopnpaaDoor
open Go.RowKit

set_option maxHeartbeats 2000000 in
set_option maxRecDepth 100000 in
theorem lwTlvs (a b : Option Addr) (l : List (Int × ByteArray)) (c d : Nat) (w : World) (hl : l.length ≤ 60) (ha : IsT w a l) (hb : IsT w b l) :
    Calls Tryd.prog 10 #[.slice a l.length c, .slice b l.length d] w fun e w' => e = .returned (.bool true) ∧ Below w.heap.size w w' := by
  obtain ⟨n, hn⟩ : ∃ n, n = l.length := ⟨_, rfl⟩
  rw [← hn] at hl ⊢
  have HN : Hid (n = l.length) := hn
  clear hn
  have HA : Hid (∀ W, Below w.heap.size w W → IsT W a l) := fun W hW => ha.keep hW
  have HB : Hid (∀ W, Below w.heap.size w W → IsT W b l) := fun W hW => hb.keep hW
  clear ha hb
  go_enter Tryd.func10, Tryd.ntmps10
  go_wp2_with fail
  go_loopw [5] (fun i wr => ∃ k : Nat, k ≤ n ∧ i = .int .i64 (k : Int) ∧ Below w.heap.size w wr) (fun i _ => n - (intOf i).toNat)
  case atStart => exact ⟨0, Nat.zero_le _, rfl, Below.refl _ _⟩
  case round =>
    obtain ⟨k, hk, rfl, hbr⟩ := hrel
    by_cases hlt : k < n
    · have hl2 : k < l.length := by have := HN.out; omega
      have hne : l ≠ [] := by intro h; rw [h] at hl2; simp at hl2
      have hp : l[k]? = some (l[k]'hl2) := List.getElem?_eq_getElem hl2
      obtain ⟨x, rfl, hx, hcx⟩ : ∃ g, a = some ⟨g, 0, none⟩ ∧ g < wr.heap.size ∧ ∀ i p, l[i]? = some p → wr.cell? ⟨g, i * 2, none⟩ = some (.int .i64 p.1) ∧ wr.cell? ⟨g, i * 2 + 1, none⟩ = some (.string p.2) := by
        rcases HA.out wr hbr with h | h
        · exact absurd h hne
        · exact h
      obtain ⟨y, rfl, hy, hcy⟩ : ∃ g, b = some ⟨g, 0, none⟩ ∧ g < wr.heap.size ∧ ∀ i p, l[i]? = some p → wr.cell? ⟨g, i * 2, none⟩ = some (.int .i64 p.1) ∧ wr.cell? ⟨g, i * 2 + 1, none⟩ = some (.string p.2) := by
        rcases HB.out wr hbr with h | h
        · exact absurd h hne
        · exact h
      obtain ⟨x0, x1⟩ := hcx k _ hp
      obtain ⟨y0, y1⟩ := hcy k _ hp
      generalize (l[k]'hl2).1 = t at *
      generalize (l[k]'hl2).2 = u at *
      have HBr : Hid (Below w.heap.size w wr) := hbr
      have e1 : (t == t) = true := by simp
      clear hcx hcy hp hne hl2 hbr
      have hki : (k : Int) < (n : Int) := by omega
      have hk0 : (0 : Int) ≤ (k : Int) := by omega
      go_wp2
      go_quiet (fail)
      go_wp2
      go_roundw
      case rel => exact ⟨k + 1, by omega, by go_num, below_drewN HBr.out _⟩
      case measure => simp [intOf]; omega
    · go_wp2_with fail
      go_ret
      exact ⟨rfl, hbr⟩
end Go.Proofs.YtjllcflnmopnpaaDoor
