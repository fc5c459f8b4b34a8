/- A row of whole numbers: what is said of it. impl.mostSecond, impl.arcsRight, walked. impl.putSevens, walked. (impl.arcsThing).body, walked. impl.layThing at arcs, impl.DerOid, walked. Arcs read back: what DerOidRead answers. Plain mathematics: no program is named here. -/
import Derived.Test.YtjllcflnmopnpaaDoorM01
import Derived.Test.YtjllcflnmopnpaaDoorM05
import Derived.Handy
import Derived.Deep.QuietTactic
import Derived.BigQuiet
import Derived.Deep.RegionHeld3
import Derived.Laws.BitsAllLaws
import Derived.Deep.RegionWith
namespace Go.Proofs.YtjllcflnmopnpaaDoor
open Go.RowKit

/-- The numbers zs lie behind the address (none at all: any address serves). -/
def IsInts (w : World) (a : Option Addr) (zs : List Int) : Prop := zs = [] ∨ ∃ b o, a = some ⟨b, o, none⟩ ∧ ∀ i, i < zs.length → w.cell? ⟨b, o + i, none⟩ = some (.int .i64 (zs.getD i 0))
/-- .. and its block lies below B. -/
def IntsBelow (B : Nat) (a : Option Addr) (zs : List Int) : Prop := zs = [] ∨ ∀ x, a = some x → x.block < B
theorem IsInts.below {B : Nat} {w w' : World} {a : Option Addr} {zs : List Int} (h : IsInts w a zs) (hb : Below B w w') (hB : IntsBelow B a zs) : IsInts w' a zs := by
  rcases h with rfl | ⟨b, o, rfl, hc⟩
  · exact .inl rfl
  · rcases hB with rfl | hB
    · exact .inl rfl
    · exact .inr ⟨b, o, rfl, fun i hi => by rw [hb.cell (p := ⟨b, o + i, none⟩) (hB ⟨b, o, none⟩ rfl)]; exact hc i hi⟩
theorem IntsBelow.mono {B B' : Nat} {a : Option Addr} {zs : List Int} (h : IntsBelow B a zs) (hB : B ≤ B') : IntsBelow B' a zs := by
  rcases h with h | h
  · exact .inl h
  · exact .inr fun x hx => Nat.lt_of_lt_of_le (h x hx) hB
theorem IsInts.lt {w : World} {a : Option Addr} {zs : List Int} (h : IsInts w a zs) : IntsBelow w.heap.size a zs := by
  rcases h with rfl | ⟨b, o, rfl, hc⟩
  · exact .inl rfl
  · by_cases h0 : zs.length = 0
    · exact .inl (List.eq_nil_of_length_eq_zero h0)
    · refine .inr fun x hx => ?_
      cases hx
      exact World.block_lt_of_cell? w _ (hc 0 (by omega))
def lCells (zs : List Int) : List Value := zs.map (Value.int .i64)
theorem IsInts.row {w : World} {g : Nat} {t : TypeId} {zs : List Int} {rest : List Value} (h : w.heap[g]? = some (.cells (lCells zs ++ rest).toArray t (0, 0))) : IsInts w (some ⟨g, 0, none⟩) zs :=
  .inr ⟨g, 0, rfl, fun i hi => by
    rw [Nat.zero_add, cell_of_row w g i _ t (0, 0) h]
    simp [lCells, List.getD, hi, List.getElem?_append_left]⟩
end Go.Proofs.YtjllcflnmopnpaaDoor
namespace Go.Proofs.YtjllcflnmopnpaaDoor
open Go.RowKit

theorem mostSecond (x : Int) (w : World) :
    Calls Tryd.prog 67 #[.int .i64 x] w fun e w' => e = .returned (.int .i64 (most2 x)) ∧ w' = w := by
  by_cases h : x = 2
  · have HF : Hid (most2 x = 100) := if_pos h
    subst h
    go_enter Tryd.func67, Tryd.ntmps67
    go_wp2
    go_ret
    exact ⟨by rw [HF.out]; rfl, rfl⟩
  · have HF : Hid (most2 x = 39) := if_neg h
    have e1 : (x == 2) = false := by rw [beq_eq_false_iff_ne]; exact h
    go_enter Tryd.func67, Tryd.ntmps67
    go_wp2
    go_ret
    exact ⟨by rw [HF.out]; rfl, rfl⟩
theorem IsInts.atZ {w : World} {a : Option Addr} {zs : List Int} (h : IsInts w a zs) (h0 : zs ≠ []) : ∃ b o, a = some ⟨b, o, none⟩ ∧ ∀ i, i < zs.length → w.cell? ⟨b, o + i, none⟩ = some (.int .i64 (zs.getD i 0)) := by
  rcases h with h | h
  · exact absurd h h0
  · exact h
set_option maxHeartbeats 1000000 in
set_option maxRecDepth 100000 in
theorem arcsRight (a : Option Addr) (zs : List Int) (c : Nat) (w : World) (hl : zs.length ≤ 1048576) (hcap : zs.length ≤ c) (ha : IsInts w a zs) :
    Calls Tryd.prog 46 #[.slice a zs.length c] w fun e w' => e = .returned (.bool (arcsB zs)) ∧ Below w.heap.size w w' := by
  by_cases h1 : zs.length < 2 ∨ 10 < zs.length
  · have HF : Hid (arcsB zs = false) := by
      show _ = _
      rw [← Bool.not_eq_true, arcsB_iff]; omega
    generalize zs.length = n at *
    clear ha
    rcases h1 with h1 | h1
    all_goals
      go_enter Tryd.func46, Tryd.ntmps46
      go_wp2_with fail
      go_ret
      exact ⟨by rw [HF.out]; rfl, Below.refl _ _⟩
  obtain ⟨b, o, rfl, hc⟩ := ha.atZ (by intro h; rw [h] at h1; simp at h1)
  have c0 := hc 0 (by omega)
  have c1 := hc 1 (by omega)
  rw [Nat.add_zero] at c0
  have HI : Hid (∀ i, i < zs.length → w.cell? ⟨b, o + i, none⟩ = some (.int .i64 (zs.getD i 0))) := hc
  have HIF : Hid (arcsB zs = true ↔ 2 ≤ zs.length ∧ zs.length ≤ 10 ∧ 0 ≤ zs.getD 0 0 ∧ zs.getD 0 0 ≤ 2 ∧ 0 ≤ zs.getD 1 0 ∧ zs.getD 1 0 ≤ most2 (zs.getD 0 0) ∧ ∀ j, 2 ≤ j → j < zs.length → 0 ≤ zs.getD j 0 ∧ zs.getD j 0 ≤ 2147483647) := arcsB_iff
  clear hc ha
  obtain ⟨n, hn⟩ : ∃ n, n = zs.length := ⟨_, rfl⟩
  obtain ⟨x0, hx0⟩ : ∃ x, x = zs.getD 0 0 := ⟨_, rfl⟩
  obtain ⟨x1, hx1⟩ : ∃ x, x = zs.getD 1 0 := ⟨_, rfl⟩
  rw [← hx0] at c0 HIF
  rw [← hx1] at c1 HIF
  rw [← hn] at HI HIF hl hcap h1 ⊢
  have HIF2 := HIF.out
  have h2 : 2 ≤ n := by omega
  have h10 : n ≤ 10 := by omega
  have i0 : (0 : Int) < (n : Int) := by omega
  have i1 : (1 : Int) < (n : Int) := by omega
  have j0 : 0 < n := by omega
  have j1 : 1 < n := by omega
  clear hx0 hx1 hn HIF h1
  by_cases g0 : x0 < 0
  · have HF : Hid (arcsB zs = false) := by
      show _ = _
      rw [← Bool.not_eq_true, HIF2]; omega
    clear HIF2
    go_enter Tryd.func46, Tryd.ntmps46
    go_wp2_with fail
    go_quiet (fail)
    clear c0 c1 i0 i1 j0 j1
    go_wp2_with fail
    go_ret
    exact ⟨by rw [HF.out]; rfl, below_drewN (Below.refl _ _) _⟩
  by_cases g1 : 2 < x0
  · have HF : Hid (arcsB zs = false) := by
      show _ = _
      rw [← Bool.not_eq_true, HIF2]; omega
    clear HIF2
    go_enter Tryd.func46, Tryd.ntmps46
    go_wp2_with fail
    go_quiet (fail)
    clear c0 c1 i0 i1 j0 j1
    go_wp2_with fail
    go_ret
    exact ⟨by rw [HF.out]; rfl, below_drewN (Below.refl _ _) _⟩
  by_cases g2 : x1 < 0
  · have HF : Hid (arcsB zs = false) := by
      show _ = _
      rw [← Bool.not_eq_true, HIF2]; omega
    clear HIF2
    go_enter Tryd.func46, Tryd.ntmps46
    go_wp2_with fail
    go_quiet (fail)
    clear c0 c1 i0 i1 j0 j1
    go_wp2_with fail
    go_ret
    exact ⟨by rw [HF.out]; rfl, below_drewN (Below.refl _ _) _⟩
  by_cases g3 : most2 x0 < x1
  · have HF : Hid (arcsB zs = false) := by
      show _ = _
      rw [← Bool.not_eq_true, HIF2]; omega
    clear HIF2
    go_enter Tryd.func46, Tryd.ntmps46
    go_wp2_with fail
    go_quiet (fail)
    clear c0 c1 i0 i1 j0 j1
    go_wp2_with fail
    refine (mostSecond _ _).mono ?_
    rintro e w' ⟨rfl, rfl⟩
    generalize most2 x0 = m2 at *
    go_wp2_with fail
    go_ret
    exact ⟨by rw [HF.out]; rfl, below_drewN (Below.refl _ _) _⟩
  · have HIF : Hid (arcsB zs = true ↔ ∀ j, 2 ≤ j → j < n → 0 ≤ zs.getD j 0 ∧ zs.getD j 0 ≤ 2147483647) :=
      ⟨fun h => (HIF2.1 h).2.2.2.2.2.2, fun h => HIF2.2 ⟨h2, h10, by omega, by omega, by omega, by omega, h⟩⟩
    clear HIF2
    go_enter Tryd.func46, Tryd.ntmps46
    go_wp2_with fail
    go_quiet (fail)
    clear c0 c1 i0 i1 j0 j1
    go_wp2_with fail
    refine (mostSecond _ _).mono ?_
    rintro e w' ⟨rfl, rfl⟩
    generalize most2 x0 = m2 at *
    go_wp2_with fail
    case inl =>
      have hn2 : n = 2 := by omega
      subst hn2
      have HF : Hid (arcsB zs = true) := HIF.out.2 (fun j h3 h4 => by omega)
      refine wp_loop_rounds 1 ?_
      rw [rounds_succ]
      go_wp2_with fail
      go_ret
      exact ⟨by rw [HF.out]; rfl, below_drewN (Below.refl _ _) _⟩
    case inr =>
      go_loopw [40] (fun i wr => ∃ k : Nat, k + 2 ≤ n ∧ i = .int .i64 (k : Int) ∧ (∀ j, 2 ≤ j → j < k + 2 → 0 ≤ zs.getD j 0 ∧ zs.getD j 0 ≤ 2147483647) ∧ wr = w.drewN nq)
        (fun i _ => n - (intOf i).toNat)
      case atStart => exact ⟨0, h2, rfl, fun j h3 h4 => by omega, rfl⟩
      case round =>
        obtain ⟨k, hk, rfl, hgood, rfl⟩ := hrel
        have HGd : Hid (∀ j, 2 ≤ j → j < k + 2 → 0 ≤ zs.getD j 0 ∧ zs.getD j 0 ≤ 2147483647) := hgood
        clear hgood
        by_cases hlt : k + 2 < n
        · have ck : w.cell? ⟨b, o + 2 + k, none⟩ = some (.int .i64 (zs.getD (k + 2) 0)) := by
            have := HI.out (k + 2) hlt
            rw [show o + (k + 2) = o + 2 + k from by omega] at this
            exact this
          have hki : (k : Int) < ((n - 2 : Nat) : Int) := by omega
          have hkn : k < n - 2 := by omega
          obtain ⟨xk, hxk⟩ : ∃ x, x = zs.getD (k + 2) 0 := ⟨_, rfl⟩
          rw [← hxk] at ck
          have HX : Hid (xk = zs.getD (k + 2) 0) := hxk
          clear hxk
          by_cases ha0 : xk < 0
          · have HF : Hid (arcsB zs = false) := by
              show _ = _
              rw [← Bool.not_eq_true, HIF.out]
              intro h
              have := h (k + 2) (by omega) hlt
              rw [← HX.out] at this
              omega
            go_wp2_with fail
            go_ret
            exact ⟨by rw [HF.out]; rfl, below_drewN (Below.refl _ _) _⟩
          by_cases ha1 : 2147483647 < xk
          · have HF : Hid (arcsB zs = false) := by
              show _ = _
              rw [← Bool.not_eq_true, HIF.out]
              intro h
              have := h (k + 2) (by omega) hlt
              rw [← HX.out] at this
              omega
            go_wp2_with fail
            go_ret
            exact ⟨by rw [HF.out]; rfl, below_drewN (Below.refl _ _) _⟩
          · go_wp2_with fail
            go_roundw
            case rel =>
              refine ⟨k + 1, by omega, by go_num, fun j h3 h4 => ?_, trivial⟩
              by_cases ej : j = k + 2
              · subst ej; rw [← HX.out]; omega
              · exact HGd.out j h3 (by omega)
            case measure => simp [intOf]; omega
        · have hkn : ¬ (k : Int) < ((n - 2 : Nat) : Int) := by omega
          have HF : Hid (arcsB zs = true) := HIF.out.2 (fun j h3 h4 => HGd.out j h3 (by omega))
          go_wp2_with fail
          go_ret
          exact ⟨by rw [HF.out]; rfl, below_drewN (Below.refl _ _) _⟩
end Go.Proofs.YtjllcflnmopnpaaDoor
namespace Go.Proofs.YtjllcflnmopnpaaDoor
open Go.RowKit

theorem and127 (a : Int) (h0 : 0 ≤ a) (h1 : a < 256) : bits BinOp.and IntKind.u8 a 127 = a % 128 := by
  rw [u8_and a 127 h0 h1 (by decide) (by decide), show (127 : Int).toNat = 2 ^ 7 - 1 from rfl, Nat.and_two_pow_sub_one_eq_mod]
  omega
theorem or128I (x : Int) (h : 0 ≤ x) : bits BinOp.or IntKind.u8 (x % 256) 128 = x % 128 + 128 := by
  obtain ⟨n, rfl⟩ := Int.eq_ofNat_of_zero_le h
  exact or128 n
set_option maxHeartbeats 1000000 in
set_option maxRecDepth 100000 in
theorem putSevens (x : Nat) (w : World) (hx : x < 9223372036854775808) :
    Calls Tryd.prog 97 #[.int .i64 (x : Int)] w fun e w' => e = .returned (.string (strOfNums (sevL x))) ∧ Below w.heap.size w w' := by
  obtain ⟨i0, hi, hz0, hz1, hz2⟩ := info_parts infoByte
  have hcn := sevL_count hx
  go_enter Tryd.func97, Tryd.ntmps97
  go_wp2_with fail
  refine (len64 _ _ (by omega) (by omega)).mono ?_
  rintro e w' ⟨rfl, rfl⟩
  rw [show ((x : Int).toNat) = x from rfl]
  obtain ⟨c, hc⟩ : ∃ c, c = (sevL x).length := ⟨_, rfl⟩
  have hb64 : Lib.bitLen x ≤ 63 := Lib.bitLen_le _ 63 (by omega) (by omega)
  have hc1 : 1 ≤ c := by rw [hc]; exact sevL_pos x
  have HA : Hid (∀ i, 0 < i → i < c → (sevL x).getD (c - 1 - i) 0 = ((x / 128 ^ i % 128 + 128 : Nat) : Int)) := fun i h0 hi => by rw [hc]; exact sevL_at hx h0 (by omega)
  have HZ : Hid ((sevL x).getD (c - 1) 0 = ((x % 128 : Nat) : Int)) := by rw [hc]; exact sevL_last x
  have HC : Hid (c = (sevL x).length) := hc
  rw [← hc] at hcn
  generalize Lib.bitLen x = L at *
  clear hc
  have hmx : max (1 : Int) (((L : Int) + 6) / 7) = (c : Int) := by omega
  have hc9 : c ≤ 9 := by omega
  clear hcn
  go_wp2_with (at_make; refine wpList_make_full _ rfl _ _ 22 rfl w'.heap.size 5 i0 (.int .u8 0) 1 Tryd.underlying22 hi hz0 hz1 .i64 .i64 _ _ c rfl rfl ?c1 ?c2 ?c3 ?c4 ?c5 ?_)
  case c1 => omega
  case c2 => omega
  case c3 => rw [hz2]; omega
  case c4 => unfold maxLen; omega
  case c5 => exact Nat.le_refl _
  intro w1 hown hgrow
  have hB1 : Below w'.heap.size w' w1 := (Below.refl _ w').grown hgrow (Nat.le_refl _) (fun k hk => by cases hk)
  obtain ⟨hrow, hlen⟩ := rowOf hown rfl
  generalize (madeCells #[Value.int IntKind.u8 0] c).toList = M0 at hrow hlen
  clear hgrow hown
  go_wp2_with fail
  go_loopw [15] (fun i wr => ∃ (k : Nat) (M : List Value), k ≤ c ∧ i = .int .i64 (k : Int) ∧ M.length = c ∧ wr.heap[w'.heap.size]? = some (.cells M.toArray 5 (0, 0)) ∧
      (∀ j, j < c → c - k ≤ j → M[j]? = some (.int .u8 ((x / 128 ^ (c - 1 - j) % 128 + 128 : Nat) : Int))) ∧ Below w'.heap.size w' wr)
    (fun i _ => c - (intOf i).toNat)
  case atStart => exact ⟨0, M0, Nat.zero_le _, rfl, hlen, hrow, fun j h1 h2 => by omega, hB1⟩
  case round =>
    obtain ⟨k, M, hk, rfl, hM, hr, hat, hbel⟩ := hrel
    have HAt : Hid (∀ j, j < c → c - k ≤ j → M[j]? = some (.int .u8 ((x / 128 ^ (c - 1 - j) % 128 + 128 : Nat) : Int))) := hat
    have HR : Hid (wr.heap[w'.heap.size]? = some (.cells M.toArray 5 (0, 0))) := hr
    clear hat hrow hlen hB1
    by_cases hlt : k < c
    · obtain ⟨j, hj⟩ : ∃ j, j = c - 1 - k := ⟨_, rfl⟩
      have hjc : j < c := by omega
      have e1 : (c : Int) - 1 - (k : Int) = (j : Int) := by omega
      have hv : wr.cell? ⟨w'.heap.size, j, none⟩ = some (M[j]'(by omega)) := rowFacts hr j _ (List.getElem?_eq_getElem (by omega))
      generalize M[j]'(by omega) = v0 at hv
      have hf : wr.frozen? ⟨w'.heap.size, j, none⟩ = false := frozen_of_row wr _ j _ _ hr
      have HJ : Hid (j = c - 1 - k) := hj
      have ho := or128I ((x : Int) / 2 ^ (7 * k)) (Int.ediv_nonneg (by omega) (Int.le_of_lt (Int.pow_pos (by decide))))
      have HB2 : Hid (∀ v, Below w'.heap.size w' (wr.setCell ⟨w'.heap.size, j, none⟩ v)) := fun v => hbel.setCell (Nat.le_refl _) v
      have HV : Hid (((x / 128 ^ k % 128 + 128 : Nat) : Int) = (x : Int) / 2 ^ (7 * k) % 128 + 128) := by
        show _ = _
        have : (128 : Nat) ^ k = 2 ^ (7 * k) := by rw [Nat.pow_mul]
        rw [this]; simp
      clear hj hr hbel
      go_wp2
      go_roundw
      case rel =>
        have hj := HJ.out
        refine ⟨k + 1, M.set j (.int .u8 ((x : Int) / 2 ^ (7 * k) % 128 + 128)), by omega, by go_num, by simpa using hM, rowSet _ HR.out, ?_, HB2.out _⟩
        intro i hi1 hi2
        by_cases ei : i = j
        · subst ei
          rw [List.getElem?_set_self (by omega), show c - 1 - i = k from by omega, HV.out]
        · rw [List.getElem?_set_ne (by omega)]
          exact HAt.out i hi1 (by omega)
      case measure => simp [intOf]; omega
    · obtain rfl : k = c := by omega
      obtain ⟨j, hj⟩ : ∃ j, j = k - 1 := ⟨_, rfl⟩
      have hjk : j < k := by omega
      have e1 : (k : Int) - 1 = (j : Int) := by omega
      have hv : wr.cell? ⟨w'.heap.size, j, none⟩ = some (.int .u8 ((x : Int) % 128 + 128)) := by
        refine rowFacts hr j _ ?_
        rw [HAt.out j (by omega) (by omega), show k - 1 - j = 0 from by omega]
        simp
      have hf : wr.frozen? ⟨w'.heap.size, j, none⟩ = false := frozen_of_row wr _ j _ _ hr
      have hand : bits BinOp.and IntKind.u8 ((x : Int) % 128 + 128) 127 = (x : Int) % 128 := by
        rw [and127 _ (by omega) (by omega)]; omega
      have hcv := convertRow (wr.setCell ⟨w'.heap.size, j, none⟩ (.int .u8 ((x : Int) % 128))) w'.heap.size (sevL x) 5 k k HC.out.symm (by
        rw [rowSet _ hr]
        congr 3
        apply List.ext_getElem?
        intro i
        rcases Nat.lt_or_ge i k with h | h
        · have hl := HC.out
          by_cases ei : i = j
          · subst ei
            have hz := HZ.out
            rw [List.getElem?_set_self (by omega)]
            rw [← hj, List.getD, List.getElem?_eq_getElem (by omega)] at hz
            simp only [Option.getD_some] at hz
            rw [List.getElem?_map, List.getElem?_eq_getElem (by omega), hz]
            simp
          · rw [List.getElem?_set_ne (by omega), HAt.out i h (by omega)]
            have hz := HA.out (k - 1 - i) (by omega) (by omega)
            rw [show k - 1 - (k - 1 - i) = i from by omega, List.getD, List.getElem?_eq_getElem (by omega)] at hz
            simp only [Option.getD_some] at hz
            rw [List.getElem?_map, List.getElem?_eq_getElem (by omega), hz]
            rfl
        · rw [List.getElem?_eq_none (by simp; omega), List.getElem?_eq_none (by have := HC.out; simp; omega)])
      have HB2 : Hid (∀ v, Below w'.heap.size w' (wr.setCell ⟨w'.heap.size, j, none⟩ v)) := fun v => hbel.setCell (Nat.le_refl _) v
      clear hr HR HAt hbel hj
      go_wp2
      go_ret
      exact ⟨rfl, HB2.out _⟩
end Go.Proofs.YtjllcflnmopnpaaDoor
namespace Go.Proofs.YtjllcflnmopnpaaDoor
open Go.RowKit

theorem arcs_natZ {zs : List Int} (h : arcsB zs = true) (i : Nat) (h2 : 2 ≤ i) (hi : i < zs.length) : ∃ x : Nat, zs.getD i 0 = (x : Int) ∧ x ≤ 2147483647 := by
  have := (arcsB_iff.1 h).2.2.2.2.2.2 i h2 hi
  exact ⟨(zs.getD i 0).toNat, by omega, by omega⟩
set_option maxHeartbeats 1000000 in
set_option maxRecDepth 100000 in
theorem bodyArcs (a : Option Addr) (zs : List Int) (c : Nat) (w : World) (hr : arcsB zs = true) (hcap : zs.length ≤ c) (ha : IsInts w a zs) :
    Calls Tryd.prog 96 #[.agg #[.slice a zs.length c]] w fun e w' => e = .returned (.string (strOfNums (oidL zs))) ∧ Below w.heap.size w w' := by
  obtain ⟨r2, r10, r0, r0', r1, r1', _⟩ := arcsB_iff.1 hr
  have hm2 : most2 (zs.getD 0 0) ≤ 100 := by unfold most2; split <;> omega
  have hlt := ha.lt
  obtain ⟨b, o, rfl, hc⟩ := ha.atZ (by intro h; rw [h] at r2; simp at r2)
  have hbw : b < w.heap.size := by
    rcases hlt with h | h
    · rw [h] at r2; simp at r2
    · exact h _ rfl
  obtain ⟨w0, hw0⟩ : ∃ w0, w0 = w.alloc (.cells #[.slice (some ⟨b, o, none⟩) zs.length c] 78) := ⟨_, rfl⟩
  have hB0 : Below w.heap.size w w0 := by rw [hw0]; exact (Below.refl _ _).alloc (Nat.le_refl _) _
  have hs0 : w0.heap.size = w.heap.size + 1 := by rw [hw0]; simp
  have t0 : w0.cell? ⟨w.heap.size, 0, none⟩ = some (.slice (some ⟨b, o, none⟩) zs.length c) := by rw [hw0]; simp
  have c0 : w0.cell? ⟨b, o, none⟩ = some (.int .i64 (zs.getD 0 0)) := by have := hc 0 (by omega); rw [hB0.cell (p := ⟨b, o, none⟩) hbw]; simpa using this
  have c1 : w0.cell? ⟨b, o + 1, none⟩ = some (.int .i64 (zs.getD 1 0)) := by rw [hB0.cell (p := ⟨b, o + 1, none⟩) hbw]; exact hc 1 (by omega)
  have HI : Hid (∀ W, Below w.heap.size w W → ∀ i, i < zs.length → W.cell? ⟨b, o + i, none⟩ = some (.int .i64 (zs.getD i 0))) := fun W hW i hi => by
    rw [hW.cell (p := ⟨b, o + i, none⟩) hbw]; exact hc i hi
  obtain ⟨y, hy⟩ : ∃ y : Nat, y = (40 * zs.getD 0 0 + zs.getD 1 0).toNat := ⟨_, rfl⟩
  have H0 : Hid (oidTo zs 0 = sevL y) := by rw [hy]; rfl
  have hyi : 40 * zs.getD 0 0 + zs.getD 1 0 = (y : Int) := by omega
  have hy2 : y ≤ 180 := by omega
  obtain ⟨n, hn⟩ : ∃ n, n = zs.length := ⟨_, rfl⟩
  have HL : Hid (oidL zs = oidTo zs (n - 2)) := by rw [hn]; rfl
  have HLen : Hid (∀ k, k + 2 ≤ n → (strOfNums (oidTo zs k)).size ≤ 45) := fun k hk => by
    rw [strOfNums_size]
    have := oidTo_len hr k (by omega)
    omega
  have HN : Hid (∀ i, 2 ≤ i → i < n → ∃ x : Nat, zs.getD i 0 = (x : Int) ∧ x ≤ 2147483647) := fun i h1 h2 => arcs_natZ hr i h1 (by omega)
  rw [← hn] at HI r2 r10 hcap t0 hw0 ⊢
  generalize zs.getD 0 0 = x0 at *
  generalize zs.getD 1 0 = x1 at *
  have ew1 : IntKind.i64.wrap (40 * x0) = 40 * x0 := by rw [IntKind.wrap_i64]; omega
  have ew2 : IntKind.i64.wrap (y : Int) = (y : Int) := by rw [IntKind.wrap_i64]; omega
  have i0 : (0 : Int) < (n : Int) := by omega
  have i1 : (1 : Int) < (n : Int) := by omega
  have j0 : 0 < n := by omega
  have j1 : 1 < n := by omega
  have HT : Hid (∀ V : World, Hid (Below (w.heap.size + 1) w0 V) → Calls Tryd.prog 97 #[.int .i64 (y : Int)] V fun e W => e = .returned (.string (strOfNums (sevL y))) ∧ Hid (Below (w.heap.size + 1) w0 W) ∧ W.cell? ⟨w.heap.size, 0, none⟩ = some (.slice (some ⟨b, o, none⟩) n c) ∧ W.cell? ⟨b, o, none⟩ = some (.int .i64 x0) ∧ W.cell? ⟨b, o + 1, none⟩ = some (.int .i64 x1)) := fun V hV => by
    refine (putSevens y V (by omega)).mono ?_
    rintro e W ⟨rfl, hW⟩
    have hB := hV.out.trans (hW.mono (by have := hV.out.size; omega))
    exact ⟨rfl, hB, by rw [hB.cell (p := ⟨w.heap.size, 0, none⟩) (by simp)]; exact t0, by rw [hB.cell (p := ⟨b, o, none⟩) (by simp; omega)]; exact c0, by rw [hB.cell (p := ⟨b, o + 1, none⟩) (by simp; omega)]; exact c1⟩
  have HD : Hid (Below (w.heap.size + 1) w0 w0.drew) := (Below.refl _ w0).drew
  have HB0 : Hid (Below w.heap.size w w0) := hB0
  clear hc ha hr hlt hn hy hB0
  go_enter Tryd.func96, Tryd.ntmps96
  go_wp2_with fail
  rw [← hw0]
  clear hw0
  go_region_held3 (fun V => V.cell? ⟨w.heap.size, 0, none⟩ = some (.slice (some ⟨b, o, none⟩) n c) ∧ V.cell? ⟨b, o, none⟩ = some (.int .i64 x0) ∧ V.cell? ⟨b, o + 1, none⟩ = some (.int .i64 x1)) (first | exact ⟨kt, k0, k1⟩ | go_keep)
    (first | (go_at_call 97; refine (HT.out _ (by assumption)).mono ?_; rintro r w1 ⟨rfl, kk, kt, k0, k1⟩))
  have hb1 := kk.out
  have HB1 : Hid (Below w.heap.size w w1) := HB0.out.trans (hb1.mono (Nat.le_succ _))
  clear kk HD HT k0 k1 ew1 ew2 i0 i1 j0 j1 c0 c1 t0
  go_wp2_with fail
  case inl =>
    have hn2 : n = 2 := by omega
    subst hn2
    have HF : Hid (strOfNums (oidL zs) = strOfNums (sevL y)) := by
      show _ = _
      rw [HL.out, ← H0.out]
    refine wp_loop_rounds 1 ?_
    rw [rounds_succ]
    go_wp2_with fail
    go_ret
    exact ⟨by rw [HF.out]; rfl, HB1.out⟩
  case inr =>
    clear kt hs0 hyi
    go_loopw [3, 21] (fun t i wr => ∃ k : Nat, k + 2 ≤ n ∧ t = .string (strOfNums (oidTo zs k)) ∧ i = .int .i64 (k : Int) ∧ Below w.heap.size w wr ∧ w.heap.size ≤ wr.heap.size)
      (fun _ i _ => n - (intOf i).toNat)
    case atStart => exact ⟨0, by omega, by rw [H0.out], rfl, HB1.out, HB1.out.size⟩
    case round =>
      obtain ⟨k, hk, rfl, rfl, hbr, hsr⟩ := hrel
      have hls := HLen.out k hk
      by_cases hlt : k + 2 < n
      · have ck : wr.cell? ⟨b, o + 2 + k, none⟩ = some (.int .i64 (zs.getD (k + 2) 0)) := by
          have := HI.out wr hbr (k + 2) hlt
          rw [show o + (k + 2) = o + 2 + k from by omega] at this
          exact this
        have hki : (k : Int) < ((n - 2 : Nat) : Int) := by omega
        have hkn : k < n - 2 := by omega
        obtain ⟨x, hx, hxm⟩ := HN.out (k + 2) (by omega) hlt
        rw [hx] at ck
        have HS : Hid (strOfNums (oidTo zs (k + 1)) = strOfNums (oidTo zs k) ++ strOfNums (sevL x)) := by
          show _ = _
          rw [oidTo, strOfNums_append, hx]; rfl
        have hls2 := HLen.out (k + 1) (by omega)
        have hsz : (strOfNums (oidTo zs k) ++ strOfNums (sevL x)).size ≤ 45 := by rw [← HS.out]; exact hls2
        have HSv : Hid (∀ V : World, Calls Tryd.prog 97 #[.int .i64 (x : Int)] V fun e w' => e = .returned (.string (strOfNums (sevL x))) ∧ Below V.heap.size V w') := fun V => putSevens x V (by omega)
        have hsx : (strOfNums (sevL x)).size ≤ 45 := by rw [ByteArray.size_append] at hsz; omega
        generalize strOfNums (oidTo zs k) = t at *
        generalize strOfNums (sevL x) = u at *
        go_wp2_with fail
        refine (HSv.out _).mono ?_
        rintro e w2 ⟨rfl, hb2⟩
        have HB2 : Hid (Below w.heap.size w w2) := hbr.trans (hb2.mono hsr)
        have hs2 := HB2.out.size
        clear hb2 hbr ck
        go_wp2_with fail
        refine (joinTexts t u _ (by omega) (by omega)).mono ?_
        rintro e w3 ⟨rfl, hb3⟩
        have HB3 : Hid (Below w.heap.size w w3) := HB2.out.trans (hb3.mono hs2)
        clear hb3
        go_wp2_with fail
        go_roundw
        case rel => exact ⟨k + 1, by omega, by rw [HS.out], by go_num, HB3.out, HB3.out.size⟩
        case measure => simp [intOf]; omega
      · obtain rfl : n = k + 2 := by omega
        have HF : Hid (strOfNums (oidL zs) = strOfNums (oidTo zs k)) := by
          show _ = _
          rw [HL.out, show k + 2 - 2 = k from by omega]
        have hki : ¬ (k : Int) < ((k + 2 - 2 : Nat) : Int) := by omega
        generalize strOfNums (oidTo zs k) = t at *
        go_wp2_with fail
        go_ret
        exact ⟨by rw [HF.out]; rfl, hbr⟩
end Go.Proofs.YtjllcflnmopnpaaDoor
namespace Go.Proofs.YtjllcflnmopnpaaDoor
open Go.RowKit

theorem tagArcs (a : Option Addr) (n c : Nat) (w : World) :
    Calls Tryd.prog 56 #[.iface 78 (.agg #[.slice a n c])] w fun e w' => e = .returned (.int .i64 6) ∧ Below w.heap.size w w' := by
  have x0 := as20
  have x1 := as21
  go_enter Tryd.func56, Tryd.ntmps56
  go_wp2
  go_ret
  exact ⟨rfl, by repeat (first | exact Below.refl _ _ | refine Below.alloc ?_ (by simp) _)⟩
theorem methodArcs (v : Value) (w : World) : (Go.method 263 78 v "loop.example/g00371/impl.body").run Tryd.prog w = .ok (96, v) w := by kernel_rfl
set_option maxHeartbeats 1000000 in
set_option maxRecDepth 100000 in
theorem layArcs (a : Option Addr) (zs : List Int) (c : Nat) (b : ByteArray) (w : World) (hr : arcsB zs = true) (hcap : zs.length ≤ c) (ha : IsInts w a zs) (heq : b = strOfNums (oidL zs)) :
    Calls Tryd.prog 32 #[.iface 78 (.agg #[.slice a zs.length c])] w fun e w' => e = .returned (.string (thingD 6 b)) ∧ Below w.heap.size w w' := by
  have hb : b.size ≤ 4000 := by have := oidL_len hr; rw [heq, strOfNums_size]; omega
  have hmt := methodArcs
  have ew : IntKind.u8.wrap 6 = 6 := by rw [IntKind.wrap_u8]; rfl
  go_enter Tryd.func32, Tryd.ntmps32
  go_wp2_with fail
  refine (bodyArcs a zs c _ hr hcap ha).mono ?_
  rintro e w1 ⟨rfl, hb1⟩
  rw [← heq]
  clear heq hr ha
  generalize zs.length = n at *
  have s1 := hb1.size
  have HT1 : Hid (∀ V : World, Hid (Below w.heap.size w V) → Calls Tryd.prog 56 #[.iface 78 (.agg #[.slice a n c])] V fun e W => e = .returned (.int .i64 6) ∧ Hid (Below w.heap.size w W)) := fun V hV => by
    refine (tagArcs a n c V).mono ?_
    rintro e W ⟨rfl, hW⟩
    exact ⟨rfl, hV.out.trans (hW.mono hV.out.size)⟩
  have HT2 : Hid (∀ V : World, Hid (Below w.heap.size w V) → Calls Tryd.prog 57 #[.int .i64 (b.size : Int)] V fun e W => e = .returned (.string (strOfNums (lenD b.size))) ∧ Hid (Below w.heap.size w W) ∧ Hid (∀ k o, V.heap[k]? = some o → W.heap[k]? = some o)) := fun V hV => by
    refine (putLength b.size V hb).mono ?_
    rintro e W ⟨rfl, hW⟩
    refine ⟨rfl, hV.out.trans (hW.mono hV.out.size), fun k o hk => ?_⟩
    rw [hW.block k (heap_lt hk)]; exact hk
  have HF : Hid (∀ s l, s = strOfNums [6] → l = strOfNums (lenD b.size) → s ++ l ++ b = thingD 6 b) := fun s l hs hl => by
    subst hs hl
    unfold thingD headD
    congr 1
  have hl1 : (strOfNums [6]).size = 1 := rfl
  have hl2 : (strOfNums (lenD b.size)).size ≤ 3 := by rw [strOfNums_size]; exact lenD_le _
  have hcv := fun V => convertLit V #[.int .u8 6] [6] rfl 1 rfl 5
  have HE := HF.out _ _ rfl rfl
  have HCR := fun W2 k h => convertRow W2 k [6] 5 1 1 rfl h
  generalize strOfNums [6] = s at *
  generalize strOfNums (lenD b.size) = l at *
  have HE : Hid (s ++ l ++ b = thingD 6 b) := HE
  have HCR : Hid (∀ (W2 : World) (k : Nat), W2.heap[k]? = some (.cells ([6].map (Value.int .u8)).toArray 5 (0, 0)) → (convert 22 9 (.slice (some ⟨k, 0, none⟩) 1 1)).run Tryd.prog W2 = .ok (.string s) W2) := HCR
  have HJ : Hid (∀ (V : World) (x y : ByteArray), Hid (Below w.heap.size w V) → x.size ≤ 4 → y.size ≤ 4000 → Calls Tryd.prog 55 #[.string x, .string y] V fun e W => e = .returned (.string (x ++ y)) ∧ Hid (Below w.heap.size w W)) := fun V x y hV hx hy => by
    refine (joinTexts x y V (by omega) (by omega)).mono ?_
    rintro e W ⟨rfl, hW⟩
    exact ⟨rfl, hV.out.trans (hW.mono hV.out.size)⟩
  have B1 : Hid (Below w.heap.size w w1) := hb1
  have HA : Hid (∀ V o, Hid (Below w.heap.size w V) → Hid (Below w.heap.size w (V.alloc o))) := fun V o h => h.out.alloc h.out.size o
  clear hb1 hmt HF
  go_wp2_with fail
  have D1 : Hid (Below w.heap.size w w1.drew) := B1.out.drew
  go_region_with (first
    | (go_at_call 56; refine (HT1.out _ (by first | assumption | exact HA.out _ _ (by assumption))).mono ?_; rintro r W1 ⟨rfl, k1⟩)
    | (go_at_call 57; refine (HT2.out _ (by first | assumption | exact HA.out _ _ (by assumption))).mono ?_; rintro r W2 ⟨rfl, k2, e2⟩; (first | have hcv2 := HCR.out W2 _ (e2.out _ _ (heap_alloc_new _ _)) | skip))
    | (go_at_call 55; refine (HJ.out _ _ _ (by first | assumption | exact HA.out _ _ (by assumption)) (by omega) (by omega)).mono ?_; rintro r W3 ⟨rfl, k3⟩))
  all_goals
    have hl3 : (s ++ l).size ≤ 4 := by rw [ByteArray.size_append]; omega
    have HQ := HJ.out W3 (s ++ l) b k3 hl3 hb
    rw [HE.out] at HQ
    generalize s ++ l = q at *
    have HQ : Hid (Calls Tryd.prog 55 #[.string q, .string b] W3 fun e W => e = .returned (.string (thingD 6 b)) ∧ Hid (Below w.heap.size w W)) := HQ
    clear HT1 HT2 HJ HCR HE hcv
    go_wp2_with fail
    refine HQ.out.mono ?_
    rintro r W4 ⟨rfl, k4⟩
    go_wp2
    go_ret
    exact ⟨rfl, k4.out⟩

set_option maxHeartbeats 1000000 in
theorem implDerOid (a : Option Addr) (zs : List Int) (c : Nat) (w : World) (hl : zs.length ≤ 1048576) (hcap : zs.length ≤ c) (ha : IsInts w a zs) :
    Calls Tryd.prog 18 #[.slice a zs.length c] w fun e w' => e = .returned (.string (oidD zs)) ∧ Below w.heap.size w w' := by
  have HA : Hid (Calls Tryd.prog 46 #[.slice a zs.length c] w fun e w' => e = .returned (.bool (arcsB zs)) ∧ Below w.heap.size w w') := arcsRight a zs c w hl hcap ha
  cases hr : arcsB zs with
  | false =>
    have HF : Hid (oidD zs = ByteArray.empty) := by unfold Hid oidD; rw [if_neg (by simp [hr])]
    rw [hr] at HA
    generalize zs.length = n at *
    clear ha hr
    go_enter Tryd.func18, Tryd.ntmps18
    go_wp2_with fail
    refine HA.out.mono ?_
    rintro e w1 ⟨rfl, hb1⟩
    go_wp2_with fail
    go_ret
    exact ⟨by rw [HF.out]; rfl, hb1⟩
  | true =>
    have HF : Hid (oidD zs = thingD 6 (strOfNums (oidL zs))) := by unfold Hid oidD; rw [if_pos hr]
    have HO : Hid (∀ V : World, Below w.heap.size w V → Calls Tryd.prog 32 #[.iface 78 (.agg #[.slice a zs.length c])] V fun e w' => e = .returned (.string (thingD 6 (strOfNums (oidL zs)))) ∧ Below V.heap.size V w') := fun V hV => layArcs a zs c _ V hr hcap (ha.below hV ha.lt) rfl
    rw [hr] at HA
    generalize zs.length = n at *
    generalize thingD 6 (strOfNums (oidL zs)) = s at *
    clear ha hr
    go_enter Tryd.func18, Tryd.ntmps18
    go_wp2_with fail
    refine HA.out.mono ?_
    rintro e w1 ⟨rfl, hb1⟩
    go_wp2_with fail
    refine (HO.out _ hb1).mono ?_
    rintro e w2 ⟨rfl, hb2⟩
    go_wp2_with fail
    go_ret
    exact ⟨by rw [HF.out]; rfl, hb1.trans (hb2.mono hb1.size)⟩
end Go.Proofs.YtjllcflnmopnpaaDoor
namespace Go.Proofs.YtjllcflnmopnpaaDoor
open Go.RowKit

/-- One arc read: 'a' tells that no byte of it was read yet, n is what was read. -/
def sevQ : Bool → Nat → List Nat → Option (Nat × List Nat)
  | _, _, [] => none
  | a, n, b :: r => if a = true ∧ b = 128 then none else if 2147483647 < n * 128 + b % 128 then none else if b < 128 then some (n * 128 + b % 128, r) else sevQ false (n * 128 + b % 128) r
/-- All arcs behind the first two. -/
def restQ : Nat → List Nat → List Int → Option (List Int)
  | 0, _, acc => some acc
  | f + 1, l, acc => match l with
    | [] => some acc
    | b :: r => match sevQ true 0 (b :: r) with
      | none => none
      | some (n, t) => restQ f t (acc ++ [(n : Int)])
def two (h : Nat) : List Int := [((min (h / 40) 2 : Nat) : Int), (h : Int) - 40 * ((min (h / 40) 2 : Nat) : Int)]
def arcsQ (l : List Nat) : Option (List Int) := match sevQ true 0 l with
  | none => none
  | some (h, t) => restQ l.length t (two h)
/-- The arcs whose bytes these are. -/
def oidQ (l : List Nat) : Option (List Int) := match arcsQ l with
  | none => none
  | some z => if arcsB z = true then some z else none
/-- Numbers of seven bits, read as the specification reads them. -/
def spQ : List Nat → Nat → List Nat → Option (List Nat)
  | nums, _, [] => some nums
  | nums, n, b :: r => if 2147483647 < 128 * n + b % 128 ∨ 10 < nums.length then none else if b < 128 then spQ (nums ++ [128 * n + b % 128]) 0 r else spQ nums (128 * n + b % 128) r

def nats (l : List Int) : List Nat := l.map Int.toNat
theorem nats_append (a b : List Int) : nats (a ++ b) = nats a ++ nats b := by simp [nats]
/-- Running over the bytes ahead of the last one. -/
theorem sevQ_high : ∀ (f y : Nat) (t : List Nat), y < 128 ^ f → y ≤ 16777215 → sevQ true 0 (nats (sevH f y) ++ t) = sevQ (decide (y = 0)) y t
  | f, y, t, hf, hy => by
    by_cases h0 : y = 0
    · subst h0; rw [sevH_zero]; rfl
    · obtain ⟨g, rfl, hg, e⟩ := sevH_more h0 hf
      rw [e, nats_append, List.append_assoc, sevQ_high g (y / 128) _ hg (by omega)]
      show sevQ _ _ ((y % 128 + 128) :: t) = _
      rw [sevQ, if_neg (by simp; omega), if_neg (by omega), if_neg (by omega), decide_eq_false h0]
      congr 1; omega
theorem sevQ_full {x : Nat} (hx : x ≤ 2147483647) (r : List Nat) : sevQ true 0 (nats (sevL x) ++ r) = some (x, r) := by
  rw [sevL, nats_append, List.append_assoc, sevQ_high 9 (x / 128) _ (by rw [p9]; omega) (by omega)]
  show sevQ _ _ (x % 128 :: r) = _
  rw [sevQ, if_neg (by omega), if_neg (by omega), if_pos (by omega)]
  congr 2; omega
theorem spQ_high : ∀ (f y : Nat) (nums t : List Nat), y < 128 ^ f → y ≤ 16777215 → nums.length ≤ 10 → spQ nums 0 (nats (sevH f y) ++ t) = spQ nums y t
  | f, y, nums, t, hf, hy, hn => by
    by_cases h0 : y = 0
    · subst h0; rw [sevH_zero]; rfl
    · obtain ⟨g, rfl, hg, e⟩ := sevH_more h0 hf
      rw [e, nats_append, List.append_assoc, spQ_high g (y / 128) nums _ hg (by omega) hn]
      show spQ _ _ ((y % 128 + 128) :: t) = _
      rw [spQ, if_neg (by omega), if_neg (by omega)]
      congr 1; omega
theorem spQ_full {x : Nat} (hx : x ≤ 2147483647) (nums r : List Nat) (hn : nums.length ≤ 10) : spQ nums 0 (nats (sevL x) ++ r) = spQ (nums ++ [x]) 0 r := by
  rw [sevL, nats_append, List.append_assoc, spQ_high 9 (x / 128) nums _ (by rw [p9]; omega) (by omega) hn]
  show spQ _ _ (x % 128 :: r) = _
  rw [spQ, if_neg (by omega), if_pos (by omega)]
  congr 3; omega
/-- What a run of high bytes stands for. -/
def valQ (q : List Nat) : Nat := q.foldl (fun n b => n * 128 + b % 128) 0
theorem valQ_snoc (q : List Nat) (b : Nat) : valQ (q ++ [b]) = valQ q * 128 + b % 128 := by simp [valQ]
theorem high_back : ∀ (k : Nat) (q : List Nat), q.length = k → (∀ b ∈ q, 128 ≤ b ∧ b < 256) → q.head? ≠ some 128 → valQ q < 128 ^ k ∧ (q ≠ [] → valQ q ≠ 0) ∧ nats (sevH k (valQ q)) = q
  | 0, q, h, _, _ => by
    obtain rfl := List.eq_nil_of_length_eq_zero h
    exact ⟨by decide, fun h => absurd rfl h, rfl⟩
  | k + 1, q, h, hb, hh => by
    obtain ⟨p, b, rfl⟩ : ∃ p b, q = p ++ [b] := ⟨q.dropLast, q.getLast (by intro e; rw [e] at h; simp at h), (List.dropLast_concat_getLast _).symm⟩
    have hp : p.length = k := by simpa using h
    have hbb := hb b (by simp)
    have hh' : p.head? ≠ some 128 := by
      cases p with
      | nil => simp
      | cons x p => simpa using hh
    obtain ⟨i1, i2, i3⟩ := high_back k p hp (fun x hx => hb x (by simp [hx])) hh'
    have hv0 : valQ (p ++ [b]) ≠ 0 := by
      rw [valQ_snoc]
      cases p with
      | nil =>
        have : b ≠ 128 := by simpa using hh
        simp [valQ]; omega
      | cons x p => have := i2 (by simp); omega
    refine ⟨?_, fun _ => hv0, ?_⟩
    · rw [valQ_snoc, Nat.pow_succ]
      have : b % 128 < 128 := Nat.mod_lt _ (by omega)
      omega
    · rw [sevH, if_neg hv0, nats_append, valQ_snoc, show (valQ p * 128 + b % 128) / 128 = valQ p from by omega, i3]
      show p ++ [(valQ p * 128 + b % 128) % 128 + 128] = _
      congr 2; omega
theorem sevH_mono : ∀ (f g x : Nat), x < 128 ^ f → f ≤ g → sevH g x = sevH f x
  | f, g, x, hx, hg => by
    by_cases h0 : x = 0
    · subst h0; rw [sevH_zero, sevH_zero]
    · obtain ⟨f', rfl, hf', e⟩ := sevH_more h0 hx
      obtain ⟨g', rfl⟩ : ∃ g', g = g' + 1 := ⟨g - 1, by omega⟩
      rw [e, sevH, if_neg h0, sevH_mono f' g' (x / 128) hf' (by omega)]
/-- What is read of bytes is written by just these. -/
theorem sevQ_back : ∀ (l q : List Nat) (m : Nat) (r : List Nat), (∀ b ∈ l, b < 256) → (∀ b ∈ q, 128 ≤ b ∧ b < 256) → q.head? ≠ some 128 → sevQ (decide (q = [])) (valQ q) l = some (m, r) →
    m ≤ 2147483647 ∧ ∃ p, l = p ++ r ∧ p ≠ [] ∧ q ++ p = nats (sevL m)
  | [], q, m, r, _, _, _, h => by simp [sevQ] at h
  | b :: l, q, m, r, hl, hq, hh, h => by
    have hb := hl b (by simp)
    rw [sevQ] at h
    split at h
    · simp at h
    · rename_i h1
      split at h
      · simp at h
      · rename_i h2
        split at h
        · rename_i h3
          simp only [Option.some.injEq, Prod.mk.injEq] at h
          obtain ⟨rfl, rfl⟩ := h
          refine ⟨by omega, [b], rfl, by simp, ?_⟩
          obtain ⟨i1, _, i3⟩ := high_back q.length q rfl hq hh
          have e1 : (valQ q * 128 + b % 128) / 128 = valQ q := by omega
          have e2 : (valQ q * 128 + b % 128) % 128 = b := by omega
          rw [sevL, e1, e2, nats_append]
          have hlen : sevH 9 (valQ q) = sevH q.length (valQ q) := by
            rcases Nat.le_total q.length 9 with hle | hle
            · exact sevH_mono _ _ _ i1 hle
            · exact (sevH_mono _ _ _ (by rw [p9]; omega) hle).symm
          rw [hlen, i3]; rfl
        · rename_i h3
          have hne : (q ++ [b]).head? ≠ some 128 := by
            cases q with
            | nil => simpa using h1
            | cons x q => simpa using hh
          have h' : sevQ (decide (q ++ [b] = [])) (valQ (q ++ [b])) l = some (m, r) := by
            rw [decide_eq_false (by simp), valQ_snoc]; exact h
          obtain ⟨i1, p, hp, hpn, he⟩ := sevQ_back l (q ++ [b]) m r (fun x hx => hl x (by simp [hx])) (fun x hx => by
            rcases List.mem_append.1 hx with hx | hx
            · exact hq x hx
            · simp at hx; subst hx; omega) hne h'
          exact ⟨i1, b :: p, by rw [hp]; rfl, by simp, by rw [← he]; simp⟩
theorem sevQ_sound {l : List Nat} {m : Nat} {r : List Nat} (hl : ∀ b ∈ l, b < 256) (h : sevQ true 0 l = some (m, r)) : m ≤ 2147483647 ∧ l = nats (sevL m) ++ r ∧ r.length < l.length := by
  obtain ⟨h1, p, hp, hn, he⟩ := sevQ_back l [] m r hl (by simp) (by simp) h
  refine ⟨h1, by rw [← he, hp]; rfl, ?_⟩
  rw [hp, List.length_append]
  have : 0 < p.length := List.length_pos_iff.2 hn
  omega
end Go.Proofs.YtjllcflnmopnpaaDoor
