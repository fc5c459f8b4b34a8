/- impl.layThing at arcs, impl.DerOid, walked. -/
import Derived.Test.YtochmolhpcidgahDerZb
import Derived.Test.YtochmolhpcidgahDerB
import Derived.Test.YtochmolhpcidgahDerA
import Derived.Test.YtochmolhpcidgahDerU
import Derived.Deep.RegionWith
namespace Go.Proofs.Ytochmolhpcidgah
open Go.RowKit

theorem tagArcs (a : Option Addr) (n c : Nat) (w : World) :
    Calls Try.prog 36 #[.iface 48 (.agg #[.slice a n c])] w fun e w' => e = .returned (.int .i64 6) ∧ Below w.heap.size w w' := by
  have x0 := as20
  have x1 := as21
  go_enter Try.func36, Try.ntmps36
  go_wp2
  go_ret
  exact ⟨rfl, by repeat (first | exact Below.refl _ _ | refine Below.alloc ?_ (by simp) _)⟩
theorem methodArcs (v : Value) (w : World) : (Go.method 188 48 v "loop.example/g00371/impl.body").run Try.prog w = .ok (61, v) w := by kernel_rfl
set_option maxHeartbeats 1000000 in
set_option maxRecDepth 100000 in
theorem layArcs (a : Option Addr) (zs : List Int) (c : Nat) (b : ByteArray) (w : World) (hr : arcsB zs = true) (hcap : zs.length ≤ c) (ha : IsInts w a zs) (heq : b = strOfNums (oidL zs)) :
    Calls Try.prog 23 #[.iface 48 (.agg #[.slice a zs.length c])] w fun e w' => e = .returned (.string (thingD 6 b)) ∧ Below w.heap.size w w' := by
  have hb : b.size ≤ 4000 := by have := oidL_len hr; rw [heq, strOfNums_size]; omega
  have hmt := methodArcs
  have ew : IntKind.u8.wrap 6 = 6 := by rw [IntKind.wrap_u8]; rfl
  go_enter Try.func23, Try.ntmps23
  go_wp2_with fail
  refine (bodyArcs a zs c _ hr hcap ha).mono ?_
  rintro e w1 ⟨rfl, hb1⟩
  rw [← heq]
  clear heq hr ha
  generalize zs.length = n at *
  have s1 := hb1.size
  have HT1 : Hid (∀ V : World, Hid (Below w.heap.size w V) → Calls Try.prog 36 #[.iface 48 (.agg #[.slice a n c])] V fun e W => e = .returned (.int .i64 6) ∧ Hid (Below w.heap.size w W)) := fun V hV => by
    refine (tagArcs a n c V).mono ?_
    rintro e W ⟨rfl, hW⟩
    exact ⟨rfl, hV.out.trans (hW.mono hV.out.size)⟩
  have HT2 : Hid (∀ V : World, Hid (Below w.heap.size w V) → Calls Try.prog 37 #[.int .i64 (b.size : Int)] V fun e W => e = .returned (.string (strOfNums (lenD b.size))) ∧ Hid (Below w.heap.size w W) ∧ Hid (∀ k o, V.heap[k]? = some o → W.heap[k]? = some o)) := fun V hV => by
    refine (putLength b.size V hb).mono ?_
    rintro e W ⟨rfl, hW⟩
    refine ⟨rfl, hV.out.trans (hW.mono hV.out.size), fun k o hk => ?_⟩
    rw [hW.block k (heap_lt hk)]; exact hk
  have HF : Hid (∀ s l, s = strOfNums [6] → l = strOfNums (lenD b.size) → s ++ l ++ b = thingD 6 b) := fun s l hs hl => by
    subst hs hl
    unfold thingD headD
    congr 1
  have hl1 : (strOfNums [6]).size = 1 := rfl
  have hl2 : (strOfNums (lenD b.size)).size ≤ 3 := by rw [strOfNums_size]; exact lenD_le _
  have hcv := fun V => convertLit V #[.int .u8 6] [6] rfl 1 rfl 5
  have HE := HF.out _ _ rfl rfl
  have HCR := fun W2 k h => convertRow W2 k [6] 5 1 1 rfl h
  generalize strOfNums [6] = s at *
  generalize strOfNums (lenD b.size) = l at *
  have HE : Hid (s ++ l ++ b = thingD 6 b) := HE
  have HCR : Hid (∀ (W2 : World) (k : Nat), W2.heap[k]? = some (.cells ([6].map (Value.int .u8)).toArray 5 (0, 0)) → (convert 53 9 (.slice (some ⟨k, 0, none⟩) 1 1)).run Try.prog W2 = .ok (.string s) W2) := HCR
  have HJ : Hid (∀ (V : World) (x y : ByteArray), Hid (Below w.heap.size w V) → x.size ≤ 4 → y.size ≤ 4000 → Calls Try.prog 35 #[.string x, .string y] V fun e W => e = .returned (.string (x ++ y)) ∧ Hid (Below w.heap.size w W)) := fun V x y hV hx hy => by
    refine (joinTexts x y V (by omega) (by omega)).mono ?_
    rintro e W ⟨rfl, hW⟩
    exact ⟨rfl, hV.out.trans (hW.mono hV.out.size)⟩
  have B1 : Hid (Below w.heap.size w w1) := hb1
  have HA : Hid (∀ V o, Hid (Below w.heap.size w V) → Hid (Below w.heap.size w (V.alloc o))) := fun V o h => h.out.alloc h.out.size o
  clear hb1 hmt HF
  go_wp2_with fail
  have D1 : Hid (Below w.heap.size w w1.drew) := B1.out.drew
  go_region_with (first
    | (go_at_call 36; refine (HT1.out _ (by first | assumption | exact HA.out _ _ (by assumption))).mono ?_; rintro r W1 ⟨rfl, k1⟩)
    | (go_at_call 37; refine (HT2.out _ (by first | assumption | exact HA.out _ _ (by assumption))).mono ?_; rintro r W2 ⟨rfl, k2, e2⟩; (first | have hcv2 := HCR.out W2 _ (e2.out _ _ (heap_alloc_new _ _)) | skip))
    | (go_at_call 35; refine (HJ.out _ _ _ (by first | assumption | exact HA.out _ _ (by assumption)) (by omega) (by omega)).mono ?_; rintro r W3 ⟨rfl, k3⟩))
  all_goals
    have hl3 : (s ++ l).size ≤ 4 := by rw [ByteArray.size_append]; omega
    have HQ := HJ.out W3 (s ++ l) b k3 hl3 hb
    rw [HE.out] at HQ
    generalize s ++ l = q at *
    have HQ : Hid (Calls Try.prog 35 #[.string q, .string b] W3 fun e W => e = .returned (.string (thingD 6 b)) ∧ Hid (Below w.heap.size w W)) := HQ
    clear HT1 HT2 HJ HCR HE hcv
    go_wp2_with fail
    refine HQ.out.mono ?_
    rintro r W4 ⟨rfl, k4⟩
    go_wp2
    go_ret
    exact ⟨rfl, k4.out⟩

set_option maxHeartbeats 1000000 in
theorem implDerOid (a : Option Addr) (zs : List Int) (c : Nat) (w : World) (hl : zs.length ≤ 1048576) (hcap : zs.length ≤ c) (ha : IsInts w a zs) :
    Calls Try.prog 14 #[.slice a zs.length c] w fun e w' => e = .returned (.string (oidD zs)) ∧ Below w.heap.size w w' := by
  have HA : Hid (Calls Try.prog 30 #[.slice a zs.length c] w fun e w' => e = .returned (.bool (arcsB zs)) ∧ Below w.heap.size w w') := arcsRight a zs c w hl hcap ha
  cases hr : arcsB zs with
  | false =>
    have HF : Hid (oidD zs = ByteArray.empty) := by unfold Hid oidD; rw [if_neg (by simp [hr])]
    rw [hr] at HA
    generalize zs.length = n at *
    clear ha hr
    go_enter Try.func14, Try.ntmps14
    go_wp2_with fail
    refine HA.out.mono ?_
    rintro e w1 ⟨rfl, hb1⟩
    go_wp2_with fail
    go_ret
    exact ⟨by rw [HF.out]; rfl, hb1⟩
  | true =>
    have HF : Hid (oidD zs = thingD 6 (strOfNums (oidL zs))) := by unfold Hid oidD; rw [if_pos hr]
    have HO : Hid (∀ V : World, Below w.heap.size w V → Calls Try.prog 23 #[.iface 48 (.agg #[.slice a zs.length c])] V fun e w' => e = .returned (.string (thingD 6 (strOfNums (oidL zs)))) ∧ Below V.heap.size V w') := fun V hV => layArcs a zs c _ V hr hcap (ha.below hV ha.lt) rfl
    rw [hr] at HA
    generalize zs.length = n at *
    generalize thingD 6 (strOfNums (oidL zs)) = s at *
    clear ha hr
    go_enter Try.func14, Try.ntmps14
    go_wp2_with fail
    refine HA.out.mono ?_
    rintro e w1 ⟨rfl, hb1⟩
    go_wp2_with fail
    refine (HO.out _ hb1).mono ?_
    rintro e w2 ⟨rfl, hb2⟩
    go_wp2_with fail
    go_ret
    exact ⟨by rw [HF.out]; rfl, hb1.trans (hb2.mono hb1.size)⟩
end Go.Proofs.Ytochmolhpcidgah
