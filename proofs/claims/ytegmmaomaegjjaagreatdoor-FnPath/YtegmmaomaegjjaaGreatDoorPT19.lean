/- impl.layThing at a thing whose body is laid already, walked. impl.tagRight, walked. impl.DerPut, walked. impl.mostSecond, impl.arcsRight, walked. impl.putSevens, walked. (impl.arcsThing).body, walked. impl.layThing at arcs, impl.DerOid, walked. -/
import Derived.Test.YtegmmaomaegjjaaGreatDoorPT18
import Derived.Test.YtegmmaomaegjjaaGreatDoorPT06
import Derived.Test.YtegmmaomaegjjaaGreatDoorPT05
import Derived.Deep.RegionWith
import Derived.Test.YtegmmaomaegjjaaGreatDoorPT01
import Derived.Test.YtegmmaomaegjjaaGreatDoorPT03
import Derived.Laws.Bits128
import Derived.Laws.BitsAllLaws
import Derived.Deep.RegionHeld3
namespace Go.Proofs.YtegmmaomaegjjaaGreatDoor
open Go.RowKit Go.Lib

theorem tagPlain (t : Int) (b : ByteArray) (w : World) :
    Calls Tryz.prog 131 #[.iface 128 (.agg #[.int .i64 t, .string b])] w fun e w' => e = .returned (.int .i64 t) ∧ Below w.heap.size w w' := by
  have x0 := as00
  have x1 := as01
  have x2 := as02
  go_enter Tryz.func131, Tryz.ntmps131
  go_wp2
  go_ret
  exact ⟨rfl, (Below.refl _ _).alloc (Nat.le_refl _) _⟩
theorem bodyPlain (t : Int) (b : ByteArray) (w : World) :
    Calls Tryz.prog 177 #[.agg #[.int .i64 t, .string b]] w fun e w' => e = .returned (.string b) ∧ Below w.heap.size w w' := by
  go_enter Tryz.func177, Tryz.ntmps177
  go_wp2
  go_ret
  exact ⟨rfl, by repeat (first | exact Below.refl _ _ | refine Below.setCell ?_ (by simp) _ | refine Below.alloc ?_ (by simp) _)⟩
theorem methodPlain (v : Value) (w : World) : (Go.method 278 128 v "loop.example/g00371/impl.body").run Tryz.prog w = .ok (177, v) w := by kernel_rfl
set_option maxHeartbeats 1000000 in
set_option maxRecDepth 100000 in
/-- layThing at a thing whose body is laid already. -/
theorem layPlain (t : Int) (b : ByteArray) (w : World) (h0 : 0 ≤ t) (h1 : t ≤ 255) (hb : b.size ≤ 4000) :
    Calls Tryz.prog 108 #[.iface 128 (.agg #[.int .i64 t, .string b])] w fun e w' => e = .returned (.string (thingD t b)) ∧ Below w.heap.size w w' := by
  have hmt := methodPlain
  have ew : IntKind.u8.wrap t = t := by rw [IntKind.wrap_u8]; omega
  go_enter Tryz.func108, Tryz.ntmps108
  go_wp2_with fail
  refine (bodyPlain t b _).mono ?_
  rintro e w1 ⟨rfl, hb1⟩
  have s1 := hb1.size
  have HT1 : Hid (∀ V : World, Hid (Below w.heap.size w V) → Calls Tryz.prog 131 #[.iface 128 (.agg #[.int .i64 t, .string b])] V fun e W => e = .returned (.int .i64 t) ∧ Hid (Below w.heap.size w W)) := fun V hV => by
    refine (tagPlain t b V).mono ?_
    rintro e W ⟨rfl, hW⟩
    exact ⟨rfl, hV.out.trans (hW.mono hV.out.size)⟩
  have HT2 : Hid (∀ V : World, Hid (Below w.heap.size w V) → Calls Tryz.prog 132 #[.int .i64 (b.size : Int)] V fun e W => e = .returned (.string (strOfNums (lenD b.size))) ∧ Hid (Below w.heap.size w W) ∧ Hid (∀ k o, V.heap[k]? = some o → W.heap[k]? = some o)) := fun V hV => by
    refine (putLength b.size V hb).mono ?_
    rintro e W ⟨rfl, hW⟩
    refine ⟨rfl, hV.out.trans (hW.mono hV.out.size), fun k o hk => ?_⟩
    rw [hW.block k (heap_lt hk)]; exact hk
  have HF : Hid (∀ s l, s = strOfNums [t] → l = strOfNums (lenD b.size) → s ++ l ++ b = thingD t b) := fun s l hs hl => by
    subst hs hl
    unfold thingD headD
    congr 1
  have hl1 : (strOfNums [t]).size = 1 := rfl
  have hl2 : (strOfNums (lenD b.size)).size ≤ 3 := by rw [strOfNums_size]; exact lenD_le _
  have hcv := fun V => convertLit V #[.int .u8 t] [t] rfl 1 rfl 5
  have HE := HF.out _ _ rfl rfl
  have HCR := fun W2 k h => convertRow W2 k [t] 5 1 1 rfl h
  generalize strOfNums [t] = s at *
  generalize strOfNums (lenD b.size) = l at *
  have HE : Hid (s ++ l ++ b = thingD t b) := HE
  have HCR : Hid (∀ (W2 : World) (k : Nat), W2.heap[k]? = some (.cells ([t].map (Value.int .u8)).toArray 5 (0, 0)) → (convert 22 9 (.slice (some ⟨k, 0, none⟩) 1 1)).run Tryz.prog W2 = .ok (.string s) W2) := HCR
  have HJ : Hid (∀ (V : World) (x y : ByteArray), Hid (Below w.heap.size w V) → x.size ≤ 4 → y.size ≤ 4000 → Calls Tryz.prog 103 #[.string x, .string y] V fun e W => e = .returned (.string (x ++ y)) ∧ Hid (Below w.heap.size w W)) := fun V x y hV hx hy => by
    refine (joinTexts x y V (by omega) (by omega)).mono ?_
    rintro e W ⟨rfl, hW⟩
    exact ⟨rfl, hV.out.trans (hW.mono hV.out.size)⟩
  have B1 : Hid (Below w.heap.size w w1) := hb1
  have HA : Hid (∀ V o, Hid (Below w.heap.size w V) → Hid (Below w.heap.size w (V.alloc o))) := fun V o h => h.out.alloc h.out.size o
  clear hb1 hmt HF
  go_wp2_with fail
  have D1 : Hid (Below w.heap.size w w1.drew) := B1.out.drew
  go_region_with (first
    | (go_at_call 131; refine (HT1.out _ (by first | assumption | exact HA.out _ _ (by assumption))).mono ?_; rintro r W1 ⟨rfl, k1⟩)
    | (go_at_call 132; refine (HT2.out _ (by first | assumption | exact HA.out _ _ (by assumption))).mono ?_; rintro r W2 ⟨rfl, k2, e2⟩; (first | have hcv2 := HCR.out W2 _ (e2.out _ _ (heap_alloc_new _ _)) | skip))
    | (go_at_call 103; refine (HJ.out _ _ _ (by first | assumption | exact HA.out _ _ (by assumption)) (by omega) (by omega)).mono ?_; rintro r W3 ⟨rfl, k3⟩))
  all_goals
    have hl3 : (s ++ l).size ≤ 4 := by rw [ByteArray.size_append]; omega
    have HQ := HJ.out W3 (s ++ l) b k3 hl3 hb
    rw [HE.out] at HQ
    generalize s ++ l = q at *
    have HQ : Hid (Calls Tryz.prog 103 #[.string q, .string b] W3 fun e W => e = .returned (.string (thingD t b)) ∧ Hid (Below w.heap.size w W)) := HQ
    clear HT1 HT2 HJ HCR HE hcv
    go_wp2_with fail
    refine HQ.out.mono ?_
    rintro r W4 ⟨rfl, k4⟩
    go_wp2
    go_ret
    exact ⟨rfl, k4.out⟩
end Go.Proofs.YtegmmaomaegjjaaGreatDoor
namespace Go.Proofs.YtegmmaomaegjjaaGreatDoor
open Go.RowKit Go.Lib

theorem and31 (n : Int) : bits .and .i64 n 31 = n % 32 := by
  have h31 : (BitVec.ofInt 64 31).toNat = 2 ^ 5 - 1 := by decide
  have key : (BitVec.ofInt 64 n &&& BitVec.ofInt 64 31).toNat = (n % ((2 ^ 64 : Nat) : Int)).toNat % 2 ^ 5 := by
    rw [BitVec.toNat_and, BitVec.toNat_ofInt, h31, Nat.and_two_pow_sub_one_eq_mod]
  show IntKind.i64.wrap ((BitVec.ofInt 64 n &&& BitVec.ofInt 64 31).toNat : Nat) = n % 32
  rw [key, IntKind.wrap_i64]
  omega
theorem implTag (n : Int) (w : World) :
    Calls Tryz.prog 127 #[.int .i64 n] w fun e w' => e = .returned (.bool (tagB n)) ∧ w' = w := by
  have e1 := and31 n
  by_cases h1 : 0 ≤ n
  · by_cases h2 : n ≤ 255
    · have HF : Hid (tagB n = (n % 32 != 31)) := by unfold Hid tagB; simp [h1, h2, bne, BEq.beq]
      go_enter Tryz.func127, Tryz.ntmps127
      go_wp2
      go_ret
      exact ⟨by rw [HF.out]; rfl, rfl⟩
    · have HF : Hid (tagB n = false) := by unfold Hid tagB; simp [h2]
      go_enter Tryz.func127, Tryz.ntmps127
      go_wp2
      go_ret
      exact ⟨by rw [HF.out]; rfl, rfl⟩
  · have HF : Hid (tagB n = false) := by unfold Hid tagB; simp [h1]
    go_enter Tryz.func127, Tryz.ntmps127
    go_wp2
    go_ret
    exact ⟨by rw [HF.out]; rfl, rfl⟩
end Go.Proofs.YtegmmaomaegjjaaGreatDoor
namespace Go.Proofs.YtegmmaomaegjjaaGreatDoor
open Go.RowKit Go.Lib

theorem implDerPut (t : Int) (b : ByteArray) (w : World) (hb : b.size ≤ maxLen) :
    Calls Tryz.prog 106 #[.int .i64 t, .string b] w fun e w' => e = .returned (.string (putD t b)) ∧ Below w.heap.size w w' := by
  unfold maxLen at hb
  cases ht : tagB t with
  | false =>
    have HF : Hid (putD t b = ByteArray.empty) := putD_tag ht
    go_enter Tryz.func106, Tryz.ntmps106
    go_wp2_with fail
    refine (implTag t _).mono ?_
    rintro e w' ⟨rfl, rfl⟩
    rw [ht]
    go_wp2
    go_ret
    exact ⟨by rw [HF.out]; rfl, Below.refl _ _⟩
  | true =>
    obtain ⟨q0, q1, _⟩ := tagB_iff.1 ht
    by_cases hl : 4000 < b.size
    · have HF : Hid (putD t b = ByteArray.empty) := putD_long hl
      go_enter Tryz.func106, Tryz.ntmps106
      go_wp2_with fail
      refine (implTag t _).mono ?_
      rintro e w' ⟨rfl, rfl⟩
      rw [ht]
      go_wp2
      go_ret
      exact ⟨by rw [HF.out]; rfl, Below.refl _ _⟩
    · have HF : Hid (putD t b = thingD t b) := putD_right ht (by omega)
      go_enter Tryz.func106, Tryz.ntmps106
      go_wp2_with fail
      refine (implTag t _).mono ?_
      rintro e w' ⟨rfl, rfl⟩
      rw [ht]
      go_wp2_with fail
      refine (layPlain t b _ q0 q1 (by omega)).mono ?_
      rintro e w' ⟨rfl, hb⟩
      go_wp2
      go_ret
      exact ⟨by rw [HF.out]; rfl, hb⟩
end Go.Proofs.YtegmmaomaegjjaaGreatDoor
namespace Go.Proofs.YtegmmaomaegjjaaGreatDoor
open Go.RowKit

theorem mostSecond (x : Int) (w : World) :
    Calls Tryz.prog 148 #[.int .i64 x] w fun e w' => e = .returned (.int .i64 (most2 x)) ∧ w' = w := by
  by_cases h : x = 2
  · have HF : Hid (most2 x = 100) := if_pos h
    subst h
    go_enter Tryz.func148, Tryz.ntmps148
    go_wp2
    go_ret
    exact ⟨by rw [HF.out]; rfl, rfl⟩
  · have HF : Hid (most2 x = 39) := if_neg h
    have e1 : (x == 2) = false := by rw [beq_eq_false_iff_ne]; exact h
    go_enter Tryz.func148, Tryz.ntmps148
    go_wp2
    go_ret
    exact ⟨by rw [HF.out]; rfl, rfl⟩
theorem IsInts.atZ {w : World} {a : Option Addr} {zs : List Int} (h : IsInts w a zs) (h0 : zs ≠ []) : ∃ b o, a = some ⟨b, o, none⟩ ∧ ∀ i, i < zs.length → w.cell? ⟨b, o + i, none⟩ = some (.int .i64 (zs.getD i 0)) := by
  rcases h with h | h
  · exact absurd h h0
  · exact h
set_option maxHeartbeats 1000000 in
set_option maxRecDepth 100000 in
theorem arcsRight (a : Option Addr) (zs : List Int) (c : Nat) (w : World) (hl : zs.length ≤ 1048576) (hcap : zs.length ≤ c) (ha : IsInts w a zs) :
    Calls Tryz.prog 133 #[.slice a zs.length c] w fun e w' => e = .returned (.bool (arcsB zs)) ∧ Below w.heap.size w w' := by
  by_cases h1 : zs.length < 2 ∨ 10 < zs.length
  · have HF : Hid (arcsB zs = false) := by
      show _ = _
      rw [← Bool.not_eq_true, arcsB_iff]; omega
    generalize zs.length = n at *
    clear ha
    rcases h1 with h1 | h1
    all_goals
      go_enter Tryz.func133, Tryz.ntmps133
      go_wp2_with fail
      go_ret
      exact ⟨by rw [HF.out]; rfl, Below.refl _ _⟩
  obtain ⟨b, o, rfl, hc⟩ := ha.atZ (by intro h; rw [h] at h1; simp at h1)
  have c0 := hc 0 (by omega)
  have c1 := hc 1 (by omega)
  rw [Nat.add_zero] at c0
  have HI : Hid (∀ i, i < zs.length → w.cell? ⟨b, o + i, none⟩ = some (.int .i64 (zs.getD i 0))) := hc
  have HIF : Hid (arcsB zs = true ↔ 2 ≤ zs.length ∧ zs.length ≤ 10 ∧ 0 ≤ zs.getD 0 0 ∧ zs.getD 0 0 ≤ 2 ∧ 0 ≤ zs.getD 1 0 ∧ zs.getD 1 0 ≤ most2 (zs.getD 0 0) ∧ ∀ j, 2 ≤ j → j < zs.length → 0 ≤ zs.getD j 0 ∧ zs.getD j 0 ≤ 2147483647) := arcsB_iff
  clear hc ha
  obtain ⟨n, hn⟩ : ∃ n, n = zs.length := ⟨_, rfl⟩
  obtain ⟨x0, hx0⟩ : ∃ x, x = zs.getD 0 0 := ⟨_, rfl⟩
  obtain ⟨x1, hx1⟩ : ∃ x, x = zs.getD 1 0 := ⟨_, rfl⟩
  rw [← hx0] at c0 HIF
  rw [← hx1] at c1 HIF
  rw [← hn] at HI HIF hl hcap h1 ⊢
  have HIF2 := HIF.out
  have h2 : 2 ≤ n := by omega
  have h10 : n ≤ 10 := by omega
  have i0 : (0 : Int) < (n : Int) := by omega
  have i1 : (1 : Int) < (n : Int) := by omega
  have j0 : 0 < n := by omega
  have j1 : 1 < n := by omega
  clear hx0 hx1 hn HIF h1
  by_cases g0 : x0 < 0
  · have HF : Hid (arcsB zs = false) := by
      show _ = _
      rw [← Bool.not_eq_true, HIF2]; omega
    clear HIF2
    go_enter Tryz.func133, Tryz.ntmps133
    go_wp2_with fail
    go_quiet (fail)
    clear c0 c1 i0 i1 j0 j1
    go_wp2_with fail
    go_ret
    exact ⟨by rw [HF.out]; rfl, below_drewN (Below.refl _ _) _⟩
  by_cases g1 : 2 < x0
  · have HF : Hid (arcsB zs = false) := by
      show _ = _
      rw [← Bool.not_eq_true, HIF2]; omega
    clear HIF2
    go_enter Tryz.func133, Tryz.ntmps133
    go_wp2_with fail
    go_quiet (fail)
    clear c0 c1 i0 i1 j0 j1
    go_wp2_with fail
    go_ret
    exact ⟨by rw [HF.out]; rfl, below_drewN (Below.refl _ _) _⟩
  by_cases g2 : x1 < 0
  · have HF : Hid (arcsB zs = false) := by
      show _ = _
      rw [← Bool.not_eq_true, HIF2]; omega
    clear HIF2
    go_enter Tryz.func133, Tryz.ntmps133
    go_wp2_with fail
    go_quiet (fail)
    clear c0 c1 i0 i1 j0 j1
    go_wp2_with fail
    go_ret
    exact ⟨by rw [HF.out]; rfl, below_drewN (Below.refl _ _) _⟩
  by_cases g3 : most2 x0 < x1
  · have HF : Hid (arcsB zs = false) := by
      show _ = _
      rw [← Bool.not_eq_true, HIF2]; omega
    clear HIF2
    go_enter Tryz.func133, Tryz.ntmps133
    go_wp2_with fail
    go_quiet (fail)
    clear c0 c1 i0 i1 j0 j1
    go_wp2_with fail
    refine (mostSecond _ _).mono ?_
    rintro e w' ⟨rfl, rfl⟩
    generalize most2 x0 = m2 at *
    go_wp2_with fail
    go_ret
    exact ⟨by rw [HF.out]; rfl, below_drewN (Below.refl _ _) _⟩
  · have HIF : Hid (arcsB zs = true ↔ ∀ j, 2 ≤ j → j < n → 0 ≤ zs.getD j 0 ∧ zs.getD j 0 ≤ 2147483647) :=
      ⟨fun h => (HIF2.1 h).2.2.2.2.2.2, fun h => HIF2.2 ⟨h2, h10, by omega, by omega, by omega, by omega, h⟩⟩
    clear HIF2
    go_enter Tryz.func133, Tryz.ntmps133
    go_wp2_with fail
    go_quiet (fail)
    clear c0 c1 i0 i1 j0 j1
    go_wp2_with fail
    refine (mostSecond _ _).mono ?_
    rintro e w' ⟨rfl, rfl⟩
    generalize most2 x0 = m2 at *
    go_wp2_with fail
    case inl =>
      have hn2 : n = 2 := by omega
      subst hn2
      have HF : Hid (arcsB zs = true) := HIF.out.2 (fun j h3 h4 => by omega)
      refine wp_loop_rounds 1 ?_
      rw [rounds_succ]
      go_wp2_with fail
      go_ret
      exact ⟨by rw [HF.out]; rfl, below_drewN (Below.refl _ _) _⟩
    case inr =>
      go_loopw [40] (fun i wr => ∃ k : Nat, k + 2 ≤ n ∧ i = .int .i64 (k : Int) ∧ (∀ j, 2 ≤ j → j < k + 2 → 0 ≤ zs.getD j 0 ∧ zs.getD j 0 ≤ 2147483647) ∧ wr = w.drewN nq)
        (fun i _ => n - (intOf i).toNat)
      case atStart => exact ⟨0, h2, rfl, fun j h3 h4 => by omega, rfl⟩
      case round =>
        obtain ⟨k, hk, rfl, hgood, rfl⟩ := hrel
        have HGd : Hid (∀ j, 2 ≤ j → j < k + 2 → 0 ≤ zs.getD j 0 ∧ zs.getD j 0 ≤ 2147483647) := hgood
        clear hgood
        by_cases hlt : k + 2 < n
        · have ck : w.cell? ⟨b, o + 2 + k, none⟩ = some (.int .i64 (zs.getD (k + 2) 0)) := by
            have := HI.out (k + 2) hlt
            rw [show o + (k + 2) = o + 2 + k from by omega] at this
            exact this
          have hki : (k : Int) < ((n - 2 : Nat) : Int) := by omega
          have hkn : k < n - 2 := by omega
          obtain ⟨xk, hxk⟩ : ∃ x, x = zs.getD (k + 2) 0 := ⟨_, rfl⟩
          rw [← hxk] at ck
          have HX : Hid (xk = zs.getD (k + 2) 0) := hxk
          clear hxk
          by_cases ha0 : xk < 0
          · have HF : Hid (arcsB zs = false) := by
              show _ = _
              rw [← Bool.not_eq_true, HIF.out]
              intro h
              have := h (k + 2) (by omega) hlt
              rw [← HX.out] at this
              omega
            go_wp2_with fail
            go_ret
            exact ⟨by rw [HF.out]; rfl, below_drewN (Below.refl _ _) _⟩
          by_cases ha1 : 2147483647 < xk
          · have HF : Hid (arcsB zs = false) := by
              show _ = _
              rw [← Bool.not_eq_true, HIF.out]
              intro h
              have := h (k + 2) (by omega) hlt
              rw [← HX.out] at this
              omega
            go_wp2_with fail
            go_ret
            exact ⟨by rw [HF.out]; rfl, below_drewN (Below.refl _ _) _⟩
          · go_wp2_with fail
            go_roundw
            case rel =>
              refine ⟨k + 1, by omega, by go_num, fun j h3 h4 => ?_, trivial⟩
              by_cases ej : j = k + 2
              · subst ej; rw [← HX.out]; omega
              · exact HGd.out j h3 (by omega)
            case measure => simp [intOf]; omega
        · have hkn : ¬ (k : Int) < ((n - 2 : Nat) : Int) := by omega
          have HF : Hid (arcsB zs = true) := HIF.out.2 (fun j h3 h4 => HGd.out j h3 (by omega))
          go_wp2_with fail
          go_ret
          exact ⟨by rw [HF.out]; rfl, below_drewN (Below.refl _ _) _⟩
end Go.Proofs.YtegmmaomaegjjaaGreatDoor
namespace Go.Proofs.YtegmmaomaegjjaaGreatDoor
open Go.RowKit

theorem and127 (a : Int) (h0 : 0 ≤ a) (h1 : a < 256) : bits BinOp.and IntKind.u8 a 127 = a % 128 := by
  rw [u8_and a 127 h0 h1 (by decide) (by decide), show (127 : Int).toNat = 2 ^ 7 - 1 from rfl, Nat.and_two_pow_sub_one_eq_mod]
  omega
theorem or128I (x : Int) (h : 0 ≤ x) : bits BinOp.or IntKind.u8 (x % 256) 128 = x % 128 + 128 := by
  obtain ⟨n, rfl⟩ := Int.eq_ofNat_of_zero_le h
  exact or128 n
set_option maxHeartbeats 1000000 in
set_option maxRecDepth 100000 in
theorem putSevens (x : Nat) (w : World) (hx : x < 9223372036854775808) :
    Calls Tryz.prog 180 #[.int .i64 (x : Int)] w fun e w' => e = .returned (.string (strOfNums (sevL x))) ∧ Below w.heap.size w w' := by
  obtain ⟨i0, hi, hz0, hz1, hz2⟩ := info_parts infoByte
  have hcn := sevL_count hx
  go_enter Tryz.func180, Tryz.ntmps180
  go_wp2_with fail
  refine (len64 _ _ (by omega) (by omega)).mono ?_
  rintro e w' ⟨rfl, rfl⟩
  rw [show ((x : Int).toNat) = x from rfl]
  obtain ⟨c, hc⟩ : ∃ c, c = (sevL x).length := ⟨_, rfl⟩
  have hb64 : Lib.bitLen x ≤ 63 := Lib.bitLen_le _ 63 (by omega) (by omega)
  have hc1 : 1 ≤ c := by rw [hc]; exact sevL_pos x
  have HA : Hid (∀ i, 0 < i → i < c → (sevL x).getD (c - 1 - i) 0 = ((x / 128 ^ i % 128 + 128 : Nat) : Int)) := fun i h0 hi => by rw [hc]; exact sevL_at hx h0 (by omega)
  have HZ : Hid ((sevL x).getD (c - 1) 0 = ((x % 128 : Nat) : Int)) := by rw [hc]; exact sevL_last x
  have HC : Hid (c = (sevL x).length) := hc
  rw [← hc] at hcn
  generalize Lib.bitLen x = L at *
  clear hc
  have hmx : max (1 : Int) (((L : Int) + 6) / 7) = (c : Int) := by omega
  have hc9 : c ≤ 9 := by omega
  clear hcn
  go_wp2_with (at_make; refine wpList_make_full _ rfl _ _ 22 rfl w'.heap.size 5 i0 (.int .u8 0) 1 Tryz.underlying22 hi hz0 hz1 .i64 .i64 _ _ c rfl rfl ?c1 ?c2 ?c3 ?c4 ?c5 ?_)
  case c1 => omega
  case c2 => omega
  case c3 => rw [hz2]; omega
  case c4 => unfold maxLen; omega
  case c5 => exact Nat.le_refl _
  intro w1 hown hgrow
  have hB1 : Below w'.heap.size w' w1 := (Below.refl _ w').grown hgrow (Nat.le_refl _) (fun k hk => by cases hk)
  obtain ⟨hrow, hlen⟩ := rowOf hown rfl
  generalize (madeCells #[Value.int IntKind.u8 0] c).toList = M0 at hrow hlen
  clear hgrow hown
  go_wp2_with fail
  go_loopw [15] (fun i wr => ∃ (k : Nat) (M : List Value), k ≤ c ∧ i = .int .i64 (k : Int) ∧ M.length = c ∧ wr.heap[w'.heap.size]? = some (.cells M.toArray 5 (0, 0)) ∧
      (∀ j, j < c → c - k ≤ j → M[j]? = some (.int .u8 ((x / 128 ^ (c - 1 - j) % 128 + 128 : Nat) : Int))) ∧ Below w'.heap.size w' wr)
    (fun i _ => c - (intOf i).toNat)
  case atStart => exact ⟨0, M0, Nat.zero_le _, rfl, hlen, hrow, fun j h1 h2 => by omega, hB1⟩
  case round =>
    obtain ⟨k, M, hk, rfl, hM, hr, hat, hbel⟩ := hrel
    have HAt : Hid (∀ j, j < c → c - k ≤ j → M[j]? = some (.int .u8 ((x / 128 ^ (c - 1 - j) % 128 + 128 : Nat) : Int))) := hat
    have HR : Hid (wr.heap[w'.heap.size]? = some (.cells M.toArray 5 (0, 0))) := hr
    clear hat hrow hlen hB1
    by_cases hlt : k < c
    · obtain ⟨j, hj⟩ : ∃ j, j = c - 1 - k := ⟨_, rfl⟩
      have hjc : j < c := by omega
      have e1 : (c : Int) - 1 - (k : Int) = (j : Int) := by omega
      have hv : wr.cell? ⟨w'.heap.size, j, none⟩ = some (M[j]'(by omega)) := rowFacts hr j _ (List.getElem?_eq_getElem (by omega))
      generalize M[j]'(by omega) = v0 at hv
      have hf : wr.frozen? ⟨w'.heap.size, j, none⟩ = false := frozen_of_row wr _ j _ _ hr
      have HJ : Hid (j = c - 1 - k) := hj
      have ho := or128I ((x : Int) / 2 ^ (7 * k)) (Int.ediv_nonneg (by omega) (Int.le_of_lt (Int.pow_pos (by decide))))
      have HB2 : Hid (∀ v, Below w'.heap.size w' (wr.setCell ⟨w'.heap.size, j, none⟩ v)) := fun v => hbel.setCell (Nat.le_refl _) v
      have HV : Hid (((x / 128 ^ k % 128 + 128 : Nat) : Int) = (x : Int) / 2 ^ (7 * k) % 128 + 128) := by
        show _ = _
        have : (128 : Nat) ^ k = 2 ^ (7 * k) := by rw [Nat.pow_mul]
        rw [this]; simp
      clear hj hr hbel
      go_wp2
      go_roundw
      case rel =>
        have hj := HJ.out
        refine ⟨k + 1, M.set j (.int .u8 ((x : Int) / 2 ^ (7 * k) % 128 + 128)), by omega, by go_num, by simpa using hM, rowSet _ HR.out, ?_, HB2.out _⟩
        intro i hi1 hi2
        by_cases ei : i = j
        · subst ei
          rw [List.getElem?_set_self (by omega), show c - 1 - i = k from by omega, HV.out]
        · rw [List.getElem?_set_ne (by omega)]
          exact HAt.out i hi1 (by omega)
      case measure => simp [intOf]; omega
    · obtain rfl : k = c := by omega
      obtain ⟨j, hj⟩ : ∃ j, j = k - 1 := ⟨_, rfl⟩
      have hjk : j < k := by omega
      have e1 : (k : Int) - 1 = (j : Int) := by omega
      have hv : wr.cell? ⟨w'.heap.size, j, none⟩ = some (.int .u8 ((x : Int) % 128 + 128)) := by
        refine rowFacts hr j _ ?_
        rw [HAt.out j (by omega) (by omega), show k - 1 - j = 0 from by omega]
        simp
      have hf : wr.frozen? ⟨w'.heap.size, j, none⟩ = false := frozen_of_row wr _ j _ _ hr
      have hand : bits BinOp.and IntKind.u8 ((x : Int) % 128 + 128) 127 = (x : Int) % 128 := by
        rw [and127 _ (by omega) (by omega)]; omega
      have hcv := convertRow (wr.setCell ⟨w'.heap.size, j, none⟩ (.int .u8 ((x : Int) % 128))) w'.heap.size (sevL x) 5 k k HC.out.symm (by
        rw [rowSet _ hr]
        congr 3
        apply List.ext_getElem?
        intro i
        rcases Nat.lt_or_ge i k with h | h
        · have hl := HC.out
          by_cases ei : i = j
          · subst ei
            have hz := HZ.out
            rw [List.getElem?_set_self (by omega)]
            rw [← hj, List.getD, List.getElem?_eq_getElem (by omega)] at hz
            simp only [Option.getD_some] at hz
            rw [List.getElem?_map, List.getElem?_eq_getElem (by omega), hz]
            simp
          · rw [List.getElem?_set_ne (by omega), HAt.out i h (by omega)]
            have hz := HA.out (k - 1 - i) (by omega) (by omega)
            rw [show k - 1 - (k - 1 - i) = i from by omega, List.getD, List.getElem?_eq_getElem (by omega)] at hz
            simp only [Option.getD_some] at hz
            rw [List.getElem?_map, List.getElem?_eq_getElem (by omega), hz]
            rfl
        · rw [List.getElem?_eq_none (by simp; omega), List.getElem?_eq_none (by have := HC.out; simp; omega)])
      have HB2 : Hid (∀ v, Below w'.heap.size w' (wr.setCell ⟨w'.heap.size, j, none⟩ v)) := fun v => hbel.setCell (Nat.le_refl _) v
      clear hr HR HAt hbel hj
      go_wp2
      go_ret
      exact ⟨rfl, HB2.out _⟩
end Go.Proofs.YtegmmaomaegjjaaGreatDoor
namespace Go.Proofs.YtegmmaomaegjjaaGreatDoor
open Go.RowKit

theorem arcs_natZ {zs : List Int} (h : arcsB zs = true) (i : Nat) (h2 : 2 ≤ i) (hi : i < zs.length) : ∃ x : Nat, zs.getD i 0 = (x : Int) ∧ x ≤ 2147483647 := by
  have := (arcsB_iff.1 h).2.2.2.2.2.2 i h2 hi
  exact ⟨(zs.getD i 0).toNat, by omega, by omega⟩
set_option maxHeartbeats 1000000 in
set_option maxRecDepth 100000 in
theorem bodyArcs (a : Option Addr) (zs : List Int) (c : Nat) (w : World) (hr : arcsB zs = true) (hcap : zs.length ≤ c) (ha : IsInts w a zs) :
    Calls Tryz.prog 179 #[.agg #[.slice a zs.length c]] w fun e w' => e = .returned (.string (strOfNums (oidL zs))) ∧ Below w.heap.size w w' := by
  obtain ⟨r2, r10, r0, r0', r1, r1', _⟩ := arcsB_iff.1 hr
  have hm2 : most2 (zs.getD 0 0) ≤ 100 := by unfold most2; split <;> omega
  have hlt := ha.lt
  obtain ⟨b, o, rfl, hc⟩ := ha.atZ (by intro h; rw [h] at r2; simp at r2)
  have hbw : b < w.heap.size := by
    rcases hlt with h | h
    · rw [h] at r2; simp at r2
    · exact h _ rfl
  obtain ⟨w0, hw0⟩ : ∃ w0, w0 = w.alloc (.cells #[.slice (some ⟨b, o, none⟩) zs.length c] 140) := ⟨_, rfl⟩
  have hB0 : Below w.heap.size w w0 := by rw [hw0]; exact (Below.refl _ _).alloc (Nat.le_refl _) _
  have hs0 : w0.heap.size = w.heap.size + 1 := by rw [hw0]; simp
  have t0 : w0.cell? ⟨w.heap.size, 0, none⟩ = some (.slice (some ⟨b, o, none⟩) zs.length c) := by rw [hw0]; simp
  have c0 : w0.cell? ⟨b, o, none⟩ = some (.int .i64 (zs.getD 0 0)) := by have := hc 0 (by omega); rw [hB0.cell (p := ⟨b, o, none⟩) hbw]; simpa using this
  have c1 : w0.cell? ⟨b, o + 1, none⟩ = some (.int .i64 (zs.getD 1 0)) := by rw [hB0.cell (p := ⟨b, o + 1, none⟩) hbw]; exact hc 1 (by omega)
  have HI : Hid (∀ W, Below w.heap.size w W → ∀ i, i < zs.length → W.cell? ⟨b, o + i, none⟩ = some (.int .i64 (zs.getD i 0))) := fun W hW i hi => by
    rw [hW.cell (p := ⟨b, o + i, none⟩) hbw]; exact hc i hi
  obtain ⟨y, hy⟩ : ∃ y : Nat, y = (40 * zs.getD 0 0 + zs.getD 1 0).toNat := ⟨_, rfl⟩
  have H0 : Hid (oidTo zs 0 = sevL y) := by rw [hy]; rfl
  have hyi : 40 * zs.getD 0 0 + zs.getD 1 0 = (y : Int) := by omega
  have hy2 : y ≤ 180 := by omega
  obtain ⟨n, hn⟩ : ∃ n, n = zs.length := ⟨_, rfl⟩
  have HL : Hid (oidL zs = oidTo zs (n - 2)) := by rw [hn]; rfl
  have HLen : Hid (∀ k, k + 2 ≤ n → (strOfNums (oidTo zs k)).size ≤ 45) := fun k hk => by
    rw [strOfNums_size]
    have := oidTo_len hr k (by omega)
    omega
  have HN : Hid (∀ i, 2 ≤ i → i < n → ∃ x : Nat, zs.getD i 0 = (x : Int) ∧ x ≤ 2147483647) := fun i h1 h2 => arcs_natZ hr i h1 (by omega)
  rw [← hn] at HI r2 r10 hcap t0 hw0 ⊢
  generalize zs.getD 0 0 = x0 at *
  generalize zs.getD 1 0 = x1 at *
  have ew1 : IntKind.i64.wrap (40 * x0) = 40 * x0 := by rw [IntKind.wrap_i64]; omega
  have ew2 : IntKind.i64.wrap (y : Int) = (y : Int) := by rw [IntKind.wrap_i64]; omega
  have i0 : (0 : Int) < (n : Int) := by omega
  have i1 : (1 : Int) < (n : Int) := by omega
  have j0 : 0 < n := by omega
  have j1 : 1 < n := by omega
  have HT : Hid (∀ V : World, Hid (Below (w.heap.size + 1) w0 V) → Calls Tryz.prog 180 #[.int .i64 (y : Int)] V fun e W => e = .returned (.string (strOfNums (sevL y))) ∧ Hid (Below (w.heap.size + 1) w0 W) ∧ W.cell? ⟨w.heap.size, 0, none⟩ = some (.slice (some ⟨b, o, none⟩) n c) ∧ W.cell? ⟨b, o, none⟩ = some (.int .i64 x0) ∧ W.cell? ⟨b, o + 1, none⟩ = some (.int .i64 x1)) := fun V hV => by
    refine (putSevens y V (by omega)).mono ?_
    rintro e W ⟨rfl, hW⟩
    have hB := hV.out.trans (hW.mono (by have := hV.out.size; omega))
    exact ⟨rfl, hB, by rw [hB.cell (p := ⟨w.heap.size, 0, none⟩) (by simp)]; exact t0, by rw [hB.cell (p := ⟨b, o, none⟩) (by simp; omega)]; exact c0, by rw [hB.cell (p := ⟨b, o + 1, none⟩) (by simp; omega)]; exact c1⟩
  have HD : Hid (Below (w.heap.size + 1) w0 w0.drew) := (Below.refl _ w0).drew
  have HB0 : Hid (Below w.heap.size w w0) := hB0
  clear hc ha hr hlt hn hy hB0
  go_enter Tryz.func179, Tryz.ntmps179
  go_wp2_with fail
  rw [← hw0]
  clear hw0
  go_region_held3 (fun V => V.cell? ⟨w.heap.size, 0, none⟩ = some (.slice (some ⟨b, o, none⟩) n c) ∧ V.cell? ⟨b, o, none⟩ = some (.int .i64 x0) ∧ V.cell? ⟨b, o + 1, none⟩ = some (.int .i64 x1)) (first | exact ⟨kt, k0, k1⟩ | go_keep)
    (first | (go_at_call 180; refine (HT.out _ (by assumption)).mono ?_; rintro r w1 ⟨rfl, kk, kt, k0, k1⟩))
  have hb1 := kk.out
  have HB1 : Hid (Below w.heap.size w w1) := HB0.out.trans (hb1.mono (Nat.le_succ _))
  clear kk HD HT k0 k1 ew1 ew2 i0 i1 j0 j1 c0 c1 t0
  go_wp2_with fail
  case inl =>
    have hn2 : n = 2 := by omega
    subst hn2
    have HF : Hid (strOfNums (oidL zs) = strOfNums (sevL y)) := by
      show _ = _
      rw [HL.out, ← H0.out]
    refine wp_loop_rounds 1 ?_
    rw [rounds_succ]
    go_wp2_with fail
    go_ret
    exact ⟨by rw [HF.out]; rfl, HB1.out⟩
  case inr =>
    clear kt hs0 hyi
    go_loopw [3, 21] (fun t i wr => ∃ k : Nat, k + 2 ≤ n ∧ t = .string (strOfNums (oidTo zs k)) ∧ i = .int .i64 (k : Int) ∧ Below w.heap.size w wr ∧ w.heap.size ≤ wr.heap.size)
      (fun _ i _ => n - (intOf i).toNat)
    case atStart => exact ⟨0, by omega, by rw [H0.out], rfl, HB1.out, HB1.out.size⟩
    case round =>
      obtain ⟨k, hk, rfl, rfl, hbr, hsr⟩ := hrel
      have hls := HLen.out k hk
      by_cases hlt : k + 2 < n
      · have ck : wr.cell? ⟨b, o + 2 + k, none⟩ = some (.int .i64 (zs.getD (k + 2) 0)) := by
          have := HI.out wr hbr (k + 2) hlt
          rw [show o + (k + 2) = o + 2 + k from by omega] at this
          exact this
        have hki : (k : Int) < ((n - 2 : Nat) : Int) := by omega
        have hkn : k < n - 2 := by omega
        obtain ⟨x, hx, hxm⟩ := HN.out (k + 2) (by omega) hlt
        rw [hx] at ck
        have HS : Hid (strOfNums (oidTo zs (k + 1)) = strOfNums (oidTo zs k) ++ strOfNums (sevL x)) := by
          show _ = _
          rw [oidTo, strOfNums_append, hx]; rfl
        have hls2 := HLen.out (k + 1) (by omega)
        have hsz : (strOfNums (oidTo zs k) ++ strOfNums (sevL x)).size ≤ 45 := by rw [← HS.out]; exact hls2
        have HSv : Hid (∀ V : World, Calls Tryz.prog 180 #[.int .i64 (x : Int)] V fun e w' => e = .returned (.string (strOfNums (sevL x))) ∧ Below V.heap.size V w') := fun V => putSevens x V (by omega)
        have hsx : (strOfNums (sevL x)).size ≤ 45 := by rw [ByteArray.size_append] at hsz; omega
        generalize strOfNums (oidTo zs k) = t at *
        generalize strOfNums (sevL x) = u at *
        go_wp2_with fail
        refine (HSv.out _).mono ?_
        rintro e w2 ⟨rfl, hb2⟩
        have HB2 : Hid (Below w.heap.size w w2) := hbr.trans (hb2.mono hsr)
        have hs2 := HB2.out.size
        clear hb2 hbr ck
        go_wp2_with fail
        refine (joinTexts t u _ (by omega) (by omega)).mono ?_
        rintro e w3 ⟨rfl, hb3⟩
        have HB3 : Hid (Below w.heap.size w w3) := HB2.out.trans (hb3.mono hs2)
        clear hb3
        go_wp2_with fail
        go_roundw
        case rel => exact ⟨k + 1, by omega, by rw [HS.out], by go_num, HB3.out, HB3.out.size⟩
        case measure => simp [intOf]; omega
      · obtain rfl : n = k + 2 := by omega
        have HF : Hid (strOfNums (oidL zs) = strOfNums (oidTo zs k)) := by
          show _ = _
          rw [HL.out, show k + 2 - 2 = k from by omega]
        have hki : ¬ (k : Int) < ((k + 2 - 2 : Nat) : Int) := by omega
        generalize strOfNums (oidTo zs k) = t at *
        go_wp2_with fail
        go_ret
        exact ⟨by rw [HF.out]; rfl, hbr⟩
end Go.Proofs.YtegmmaomaegjjaaGreatDoor
namespace Go.Proofs.YtegmmaomaegjjaaGreatDoor
open Go.RowKit

theorem tagArcs (a : Option Addr) (n c : Nat) (w : World) :
    Calls Tryz.prog 131 #[.iface 140 (.agg #[.slice a n c])] w fun e w' => e = .returned (.int .i64 6) ∧ Below w.heap.size w w' := by
  have x0 := as20
  have x1 := as21
  go_enter Tryz.func131, Tryz.ntmps131
  go_wp2
  go_ret
  exact ⟨rfl, by repeat (first | exact Below.refl _ _ | refine Below.alloc ?_ (by simp) _)⟩
theorem methodArcs (v : Value) (w : World) : (Go.method 278 140 v "loop.example/g00371/impl.body").run Tryz.prog w = .ok (179, v) w := by kernel_rfl
set_option maxHeartbeats 1000000 in
set_option maxRecDepth 100000 in
theorem layArcs (a : Option Addr) (zs : List Int) (c : Nat) (b : ByteArray) (w : World) (hr : arcsB zs = true) (hcap : zs.length ≤ c) (ha : IsInts w a zs) (heq : b = strOfNums (oidL zs)) :
    Calls Tryz.prog 108 #[.iface 140 (.agg #[.slice a zs.length c])] w fun e w' => e = .returned (.string (thingD 6 b)) ∧ Below w.heap.size w w' := by
  have hb : b.size ≤ 4000 := by have := oidL_len hr; rw [heq, strOfNums_size]; omega
  have hmt := methodArcs
  have ew : IntKind.u8.wrap 6 = 6 := by rw [IntKind.wrap_u8]; rfl
  go_enter Tryz.func108, Tryz.ntmps108
  go_wp2_with fail
  refine (bodyArcs a zs c _ hr hcap ha).mono ?_
  rintro e w1 ⟨rfl, hb1⟩
  rw [← heq]
  clear heq hr ha
  generalize zs.length = n at *
  have s1 := hb1.size
  have HT1 : Hid (∀ V : World, Hid (Below w.heap.size w V) → Calls Tryz.prog 131 #[.iface 140 (.agg #[.slice a n c])] V fun e W => e = .returned (.int .i64 6) ∧ Hid (Below w.heap.size w W)) := fun V hV => by
    refine (tagArcs a n c V).mono ?_
    rintro e W ⟨rfl, hW⟩
    exact ⟨rfl, hV.out.trans (hW.mono hV.out.size)⟩
  have HT2 : Hid (∀ V : World, Hid (Below w.heap.size w V) → Calls Tryz.prog 132 #[.int .i64 (b.size : Int)] V fun e W => e = .returned (.string (strOfNums (lenD b.size))) ∧ Hid (Below w.heap.size w W) ∧ Hid (∀ k o, V.heap[k]? = some o → W.heap[k]? = some o)) := fun V hV => by
    refine (putLength b.size V hb).mono ?_
    rintro e W ⟨rfl, hW⟩
    refine ⟨rfl, hV.out.trans (hW.mono hV.out.size), fun k o hk => ?_⟩
    rw [hW.block k (heap_lt hk)]; exact hk
  have HF : Hid (∀ s l, s = strOfNums [6] → l = strOfNums (lenD b.size) → s ++ l ++ b = thingD 6 b) := fun s l hs hl => by
    subst hs hl
    unfold thingD headD
    congr 1
  have hl1 : (strOfNums [6]).size = 1 := rfl
  have hl2 : (strOfNums (lenD b.size)).size ≤ 3 := by rw [strOfNums_size]; exact lenD_le _
  have hcv := fun V => convertLit V #[.int .u8 6] [6] rfl 1 rfl 5
  have HE := HF.out _ _ rfl rfl
  have HCR := fun W2 k h => convertRow W2 k [6] 5 1 1 rfl h
  generalize strOfNums [6] = s at *
  generalize strOfNums (lenD b.size) = l at *
  have HE : Hid (s ++ l ++ b = thingD 6 b) := HE
  have HCR : Hid (∀ (W2 : World) (k : Nat), W2.heap[k]? = some (.cells ([6].map (Value.int .u8)).toArray 5 (0, 0)) → (convert 22 9 (.slice (some ⟨k, 0, none⟩) 1 1)).run Tryz.prog W2 = .ok (.string s) W2) := HCR
  have HJ : Hid (∀ (V : World) (x y : ByteArray), Hid (Below w.heap.size w V) → x.size ≤ 4 → y.size ≤ 4000 → Calls Tryz.prog 103 #[.string x, .string y] V fun e W => e = .returned (.string (x ++ y)) ∧ Hid (Below w.heap.size w W)) := fun V x y hV hx hy => by
    refine (joinTexts x y V (by omega) (by omega)).mono ?_
    rintro e W ⟨rfl, hW⟩
    exact ⟨rfl, hV.out.trans (hW.mono hV.out.size)⟩
  have B1 : Hid (Below w.heap.size w w1) := hb1
  have HA : Hid (∀ V o, Hid (Below w.heap.size w V) → Hid (Below w.heap.size w (V.alloc o))) := fun V o h => h.out.alloc h.out.size o
  clear hb1 hmt HF
  go_wp2_with fail
  have D1 : Hid (Below w.heap.size w w1.drew) := B1.out.drew
  go_region_with (first
    | (go_at_call 131; refine (HT1.out _ (by first | assumption | exact HA.out _ _ (by assumption))).mono ?_; rintro r W1 ⟨rfl, k1⟩)
    | (go_at_call 132; refine (HT2.out _ (by first | assumption | exact HA.out _ _ (by assumption))).mono ?_; rintro r W2 ⟨rfl, k2, e2⟩; (first | have hcv2 := HCR.out W2 _ (e2.out _ _ (heap_alloc_new _ _)) | skip))
    | (go_at_call 103; refine (HJ.out _ _ _ (by first | assumption | exact HA.out _ _ (by assumption)) (by omega) (by omega)).mono ?_; rintro r W3 ⟨rfl, k3⟩))
  all_goals
    have hl3 : (s ++ l).size ≤ 4 := by rw [ByteArray.size_append]; omega
    have HQ := HJ.out W3 (s ++ l) b k3 hl3 hb
    rw [HE.out] at HQ
    generalize s ++ l = q at *
    have HQ : Hid (Calls Tryz.prog 103 #[.string q, .string b] W3 fun e W => e = .returned (.string (thingD 6 b)) ∧ Hid (Below w.heap.size w W)) := HQ
    clear HT1 HT2 HJ HCR HE hcv
    go_wp2_with fail
    refine HQ.out.mono ?_
    rintro r W4 ⟨rfl, k4⟩
    go_wp2
    go_ret
    exact ⟨rfl, k4.out⟩

set_option maxHeartbeats 1000000 in
theorem implDerOid (a : Option Addr) (zs : List Int) (c : Nat) (w : World) (hl : zs.length ≤ 1048576) (hcap : zs.length ≤ c) (ha : IsInts w a zs) :
    Calls Tryz.prog 109 #[.slice a zs.length c] w fun e w' => e = .returned (.string (oidD zs)) ∧ Below w.heap.size w w' := by
  have HA : Hid (Calls Tryz.prog 133 #[.slice a zs.length c] w fun e w' => e = .returned (.bool (arcsB zs)) ∧ Below w.heap.size w w') := arcsRight a zs c w hl hcap ha
  cases hr : arcsB zs with
  | false =>
    have HF : Hid (oidD zs = ByteArray.empty) := by unfold Hid oidD; rw [if_neg (by simp [hr])]
    rw [hr] at HA
    generalize zs.length = n at *
    clear ha hr
    go_enter Tryz.func109, Tryz.ntmps109
    go_wp2_with fail
    refine HA.out.mono ?_
    rintro e w1 ⟨rfl, hb1⟩
    go_wp2_with fail
    go_ret
    exact ⟨by rw [HF.out]; rfl, hb1⟩
  | true =>
    have HF : Hid (oidD zs = thingD 6 (strOfNums (oidL zs))) := by unfold Hid oidD; rw [if_pos hr]
    have HO : Hid (∀ V : World, Below w.heap.size w V → Calls Tryz.prog 108 #[.iface 140 (.agg #[.slice a zs.length c])] V fun e w' => e = .returned (.string (thingD 6 (strOfNums (oidL zs)))) ∧ Below V.heap.size V w') := fun V hV => layArcs a zs c _ V hr hcap (ha.below hV ha.lt) rfl
    rw [hr] at HA
    generalize zs.length = n at *
    generalize thingD 6 (strOfNums (oidL zs)) = s at *
    clear ha hr
    go_enter Tryz.func109, Tryz.ntmps109
    go_wp2_with fail
    refine HA.out.mono ?_
    rintro e w1 ⟨rfl, hb1⟩
    go_wp2_with fail
    refine (HO.out _ hb1).mono ?_
    rintro e w2 ⟨rfl, hb2⟩
    go_wp2_with fail
    go_ret
    exact ⟨by rw [HF.out]; rfl, hb1.trans (hb2.mono hb1.size)⟩
end Go.Proofs.YtegmmaomaegjjaaGreatDoor
