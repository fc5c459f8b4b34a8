/- (impl.arcsThing).body, walked. impl.layThing at arcs, impl.DerOid, walked. strings.Join without a separator, in own words; impl.putParts, putSeq, putName, walked. spec.PutNum, walked. impl.PutNum, walked. impl.putNumbers, walked. -/
import Derived.Test.YtfliacfeebooeaaGreatDoorCR06
import Derived.Test.YtfliacfeebooeaaGreatDoorCR05
import Derived.Deep.RegionWith
import Derived.Test.YtfliacfeebooeaaGreatDoorCR04
import Derived.Test.YtfliacfeebooeaaGreatDoorCR01
import Derived.Test.YtfliacfeebooeaaGreatDoorCR03
import Derived.Deep.Cut
import Derived.Deep.RegionHeld3
namespace Go.Proofs.YtfliacfeebooeaaGreatDoor
open Go.RowKit

theorem arcs_natZ {zs : List Int} (h : arcsB zs = true) (i : Nat) (h2 : 2 ≤ i) (hi : i < zs.length) : ∃ x : Nat, zs.getD i 0 = (x : Int) ∧ x ≤ 2147483647 := by
  have := (arcsB_iff.1 h).2.2.2.2.2.2 i h2 hi
  exact ⟨(zs.getD i 0).toNat, by omega, by omega⟩
set_option maxHeartbeats 1000000 in
set_option maxRecDepth 100000 in
theorem bodyArcs (a : Option Addr) (zs : List Int) (c : Nat) (w : World) (hr : arcsB zs = true) (hcap : zs.length ≤ c) (ha : IsInts w a zs) :
    Calls Tryz.prog 159 #[.agg #[.slice a zs.length c]] w fun e w' => e = .returned (.string (strOfNums (oidL zs))) ∧ Below w.heap.size w w' := by
  obtain ⟨r2, r10, r0, r0', r1, r1', _⟩ := arcsB_iff.1 hr
  have hm2 : most2 (zs.getD 0 0) ≤ 100 := by unfold most2; split <;> omega
  have hlt := ha.lt
  obtain ⟨b, o, rfl, hc⟩ := ha.atZ (by intro h; rw [h] at r2; simp at r2)
  have hbw : b < w.heap.size := by
    rcases hlt with h | h
    · rw [h] at r2; simp at r2
    · exact h _ rfl
  obtain ⟨w0, hw0⟩ : ∃ w0, w0 = w.alloc (.cells #[.slice (some ⟨b, o, none⟩) zs.length c] 119) := ⟨_, rfl⟩
  have hB0 : Below w.heap.size w w0 := by rw [hw0]; exact (Below.refl _ _).alloc (Nat.le_refl _) _
  have hs0 : w0.heap.size = w.heap.size + 1 := by rw [hw0]; simp
  have t0 : w0.cell? ⟨w.heap.size, 0, none⟩ = some (.slice (some ⟨b, o, none⟩) zs.length c) := by rw [hw0]; simp
  have c0 : w0.cell? ⟨b, o, none⟩ = some (.int .i64 (zs.getD 0 0)) := by have := hc 0 (by omega); rw [hB0.cell (p := ⟨b, o, none⟩) hbw]; simpa using this
  have c1 : w0.cell? ⟨b, o + 1, none⟩ = some (.int .i64 (zs.getD 1 0)) := by rw [hB0.cell (p := ⟨b, o + 1, none⟩) hbw]; exact hc 1 (by omega)
  have HI : Hid (∀ W, Below w.heap.size w W → ∀ i, i < zs.length → W.cell? ⟨b, o + i, none⟩ = some (.int .i64 (zs.getD i 0))) := fun W hW i hi => by
    rw [hW.cell (p := ⟨b, o + i, none⟩) hbw]; exact hc i hi
  obtain ⟨y, hy⟩ : ∃ y : Nat, y = (40 * zs.getD 0 0 + zs.getD 1 0).toNat := ⟨_, rfl⟩
  have H0 : Hid (oidTo zs 0 = sevL y) := by rw [hy]; rfl
  have hyi : 40 * zs.getD 0 0 + zs.getD 1 0 = (y : Int) := by omega
  have hy2 : y ≤ 180 := by omega
  obtain ⟨n, hn⟩ : ∃ n, n = zs.length := ⟨_, rfl⟩
  have HL : Hid (oidL zs = oidTo zs (n - 2)) := by rw [hn]; rfl
  have HLen : Hid (∀ k, k + 2 ≤ n → (strOfNums (oidTo zs k)).size ≤ 45) := fun k hk => by
    rw [strOfNums_size]
    have := oidTo_len hr k (by omega)
    omega
  have HN : Hid (∀ i, 2 ≤ i → i < n → ∃ x : Nat, zs.getD i 0 = (x : Int) ∧ x ≤ 2147483647) := fun i h1 h2 => arcs_natZ hr i h1 (by omega)
  rw [← hn] at HI r2 r10 hcap t0 hw0 ⊢
  generalize zs.getD 0 0 = x0 at *
  generalize zs.getD 1 0 = x1 at *
  have ew1 : IntKind.i64.wrap (40 * x0) = 40 * x0 := by rw [IntKind.wrap_i64]; omega
  have ew2 : IntKind.i64.wrap (y : Int) = (y : Int) := by rw [IntKind.wrap_i64]; omega
  have i0 : (0 : Int) < (n : Int) := by omega
  have i1 : (1 : Int) < (n : Int) := by omega
  have j0 : 0 < n := by omega
  have j1 : 1 < n := by omega
  have HT : Hid (∀ V : World, Hid (Below (w.heap.size + 1) w0 V) → Calls Tryz.prog 160 #[.int .i64 (y : Int)] V fun e W => e = .returned (.string (strOfNums (sevL y))) ∧ Hid (Below (w.heap.size + 1) w0 W) ∧ W.cell? ⟨w.heap.size, 0, none⟩ = some (.slice (some ⟨b, o, none⟩) n c) ∧ W.cell? ⟨b, o, none⟩ = some (.int .i64 x0) ∧ W.cell? ⟨b, o + 1, none⟩ = some (.int .i64 x1)) := fun V hV => by
    refine (putSevens y V (by omega)).mono ?_
    rintro e W ⟨rfl, hW⟩
    have hB := hV.out.trans (hW.mono (by have := hV.out.size; omega))
    exact ⟨rfl, hB, by rw [hB.cell (p := ⟨w.heap.size, 0, none⟩) (by simp)]; exact t0, by rw [hB.cell (p := ⟨b, o, none⟩) (by simp; omega)]; exact c0, by rw [hB.cell (p := ⟨b, o + 1, none⟩) (by simp; omega)]; exact c1⟩
  have HD : Hid (Below (w.heap.size + 1) w0 w0.drew) := (Below.refl _ w0).drew
  have HB0 : Hid (Below w.heap.size w w0) := hB0
  clear hc ha hr hlt hn hy hB0
  go_enter Tryz.func159, Tryz.ntmps159
  go_wp2_with fail
  rw [← hw0]
  clear hw0
  go_region_held3 (fun V => V.cell? ⟨w.heap.size, 0, none⟩ = some (.slice (some ⟨b, o, none⟩) n c) ∧ V.cell? ⟨b, o, none⟩ = some (.int .i64 x0) ∧ V.cell? ⟨b, o + 1, none⟩ = some (.int .i64 x1)) (first | exact ⟨kt, k0, k1⟩ | go_keep)
    (first | (go_at_call 160; refine (HT.out _ (by assumption)).mono ?_; rintro r w1 ⟨rfl, kk, kt, k0, k1⟩))
  have hb1 := kk.out
  have HB1 : Hid (Below w.heap.size w w1) := HB0.out.trans (hb1.mono (Nat.le_succ _))
  clear kk HD HT k0 k1 ew1 ew2 i0 i1 j0 j1 c0 c1 t0
  go_wp2_with fail
  case inl =>
    have hn2 : n = 2 := by omega
    subst hn2
    have HF : Hid (strOfNums (oidL zs) = strOfNums (sevL y)) := by
      show _ = _
      rw [HL.out, ← H0.out]
    refine wp_loop_rounds 1 ?_
    rw [rounds_succ]
    go_wp2_with fail
    go_ret
    exact ⟨by rw [HF.out]; rfl, HB1.out⟩
  case inr =>
    clear kt hs0 hyi
    go_loopw [3, 21] (fun t i wr => ∃ k : Nat, k + 2 ≤ n ∧ t = .string (strOfNums (oidTo zs k)) ∧ i = .int .i64 (k : Int) ∧ Below w.heap.size w wr ∧ w.heap.size ≤ wr.heap.size)
      (fun _ i _ => n - (intOf i).toNat)
    case atStart => exact ⟨0, by omega, by rw [H0.out], rfl, HB1.out, HB1.out.size⟩
    case round =>
      obtain ⟨k, hk, rfl, rfl, hbr, hsr⟩ := hrel
      have hls := HLen.out k hk
      by_cases hlt : k + 2 < n
      · have ck : wr.cell? ⟨b, o + 2 + k, none⟩ = some (.int .i64 (zs.getD (k + 2) 0)) := by
          have := HI.out wr hbr (k + 2) hlt
          rw [show o + (k + 2) = o + 2 + k from by omega] at this
          exact this
        have hki : (k : Int) < ((n - 2 : Nat) : Int) := by omega
        have hkn : k < n - 2 := by omega
        obtain ⟨x, hx, hxm⟩ := HN.out (k + 2) (by omega) hlt
        rw [hx] at ck
        have HS : Hid (strOfNums (oidTo zs (k + 1)) = strOfNums (oidTo zs k) ++ strOfNums (sevL x)) := by
          show _ = _
          rw [oidTo, strOfNums_append, hx]; rfl
        have hls2 := HLen.out (k + 1) (by omega)
        have hsz : (strOfNums (oidTo zs k) ++ strOfNums (sevL x)).size ≤ 45 := by rw [← HS.out]; exact hls2
        have HSv : Hid (∀ V : World, Calls Tryz.prog 160 #[.int .i64 (x : Int)] V fun e w' => e = .returned (.string (strOfNums (sevL x))) ∧ Below V.heap.size V w') := fun V => putSevens x V (by omega)
        have hsx : (strOfNums (sevL x)).size ≤ 45 := by rw [ByteArray.size_append] at hsz; omega
        generalize strOfNums (oidTo zs k) = t at *
        generalize strOfNums (sevL x) = u at *
        go_wp2_with fail
        refine (HSv.out _).mono ?_
        rintro e w2 ⟨rfl, hb2⟩
        have HB2 : Hid (Below w.heap.size w w2) := hbr.trans (hb2.mono hsr)
        have hs2 := HB2.out.size
        clear hb2 hbr ck
        go_wp2_with fail
        refine (joinTexts t u _ (by omega) (by omega)).mono ?_
        rintro e w3 ⟨rfl, hb3⟩
        have HB3 : Hid (Below w.heap.size w w3) := HB2.out.trans (hb3.mono hs2)
        clear hb3
        go_wp2_with fail
        go_roundw
        case rel => exact ⟨k + 1, by omega, by rw [HS.out], by go_num, HB3.out, HB3.out.size⟩
        case measure => simp [intOf]; omega
      · obtain rfl : n = k + 2 := by omega
        have HF : Hid (strOfNums (oidL zs) = strOfNums (oidTo zs k)) := by
          show _ = _
          rw [HL.out, show k + 2 - 2 = k from by omega]
        have hki : ¬ (k : Int) < ((k + 2 - 2 : Nat) : Int) := by omega
        generalize strOfNums (oidTo zs k) = t at *
        go_wp2_with fail
        go_ret
        exact ⟨by rw [HF.out]; rfl, hbr⟩
end Go.Proofs.YtfliacfeebooeaaGreatDoor
namespace Go.Proofs.YtfliacfeebooeaaGreatDoor
open Go.RowKit

theorem tagArcs (a : Option Addr) (n c : Nat) (w : World) :
    Calls Tryz.prog 126 #[.iface 119 (.agg #[.slice a n c])] w fun e w' => e = .returned (.int .i64 6) ∧ Below w.heap.size w w' := by
  have x0 := as20
  have x1 := as21
  go_enter Tryz.func126, Tryz.ntmps126
  go_wp2
  go_ret
  exact ⟨rfl, by repeat (first | exact Below.refl _ _ | refine Below.alloc ?_ (by simp) _)⟩
theorem methodArcs (v : Value) (w : World) : (Go.method 305 119 v "loop.example/g00371/impl.body").run Tryz.prog w = .ok (159, v) w := by kernel_rfl
set_option maxHeartbeats 1000000 in
set_option maxRecDepth 100000 in
theorem layArcs (a : Option Addr) (zs : List Int) (c : Nat) (b : ByteArray) (w : World) (hr : arcsB zs = true) (hcap : zs.length ≤ c) (ha : IsInts w a zs) (heq : b = strOfNums (oidL zs)) :
    Calls Tryz.prog 101 #[.iface 119 (.agg #[.slice a zs.length c])] w fun e w' => e = .returned (.string (thingD 6 b)) ∧ Below w.heap.size w w' := by
  have hb : b.size ≤ 4000 := by have := oidL_len hr; rw [heq, strOfNums_size]; omega
  have hmt := methodArcs
  have ew : IntKind.u8.wrap 6 = 6 := by rw [IntKind.wrap_u8]; rfl
  go_enter Tryz.func101, Tryz.ntmps101
  go_wp2_with fail
  refine (bodyArcs a zs c _ hr hcap ha).mono ?_
  rintro e w1 ⟨rfl, hb1⟩
  rw [← heq]
  clear heq hr ha
  generalize zs.length = n at *
  have s1 := hb1.size
  have HT1 : Hid (∀ V : World, Hid (Below w.heap.size w V) → Calls Tryz.prog 126 #[.iface 119 (.agg #[.slice a n c])] V fun e W => e = .returned (.int .i64 6) ∧ Hid (Below w.heap.size w W)) := fun V hV => by
    refine (tagArcs a n c V).mono ?_
    rintro e W ⟨rfl, hW⟩
    exact ⟨rfl, hV.out.trans (hW.mono hV.out.size)⟩
  have HT2 : Hid (∀ V : World, Hid (Below w.heap.size w V) → Calls Tryz.prog 127 #[.int .i64 (b.size : Int)] V fun e W => e = .returned (.string (strOfNums (lenD b.size))) ∧ Hid (Below w.heap.size w W) ∧ Hid (∀ k o, V.heap[k]? = some o → W.heap[k]? = some o)) := fun V hV => by
    refine (putLength b.size V hb).mono ?_
    rintro e W ⟨rfl, hW⟩
    refine ⟨rfl, hV.out.trans (hW.mono hV.out.size), fun k o hk => ?_⟩
    rw [hW.block k (heap_lt hk)]; exact hk
  have HF : Hid (∀ s l, s = strOfNums [6] → l = strOfNums (lenD b.size) → s ++ l ++ b = thingD 6 b) := fun s l hs hl => by
    subst hs hl
    unfold thingD headD
    congr 1
  have hl1 : (strOfNums [6]).size = 1 := rfl
  have hl2 : (strOfNums (lenD b.size)).size ≤ 3 := by rw [strOfNums_size]; exact lenD_le _
  have hcv := fun V => convertLit V #[.int .u8 6] [6] rfl 1 rfl 5
  have HE := HF.out _ _ rfl rfl
  have HCR := fun W2 k h => convertRow W2 k [6] 5 1 1 rfl h
  generalize strOfNums [6] = s at *
  generalize strOfNums (lenD b.size) = l at *
  have HE : Hid (s ++ l ++ b = thingD 6 b) := HE
  have HCR : Hid (∀ (W2 : World) (k : Nat), W2.heap[k]? = some (.cells ([6].map (Value.int .u8)).toArray 5 (0, 0)) → (convert 94 9 (.slice (some ⟨k, 0, none⟩) 1 1)).run Tryz.prog W2 = .ok (.string s) W2) := HCR
  have HJ : Hid (∀ (V : World) (x y : ByteArray), Hid (Below w.heap.size w V) → x.size ≤ 4 → y.size ≤ 4000 → Calls Tryz.prog 74 #[.string x, .string y] V fun e W => e = .returned (.string (x ++ y)) ∧ Hid (Below w.heap.size w W)) := fun V x y hV hx hy => by
    refine (joinTexts x y V (by omega) (by omega)).mono ?_
    rintro e W ⟨rfl, hW⟩
    exact ⟨rfl, hV.out.trans (hW.mono hV.out.size)⟩
  have B1 : Hid (Below w.heap.size w w1) := hb1
  have HA : Hid (∀ V o, Hid (Below w.heap.size w V) → Hid (Below w.heap.size w (V.alloc o))) := fun V o h => h.out.alloc h.out.size o
  clear hb1 hmt HF
  go_wp2_with fail
  have D1 : Hid (Below w.heap.size w w1.drew) := B1.out.drew
  go_region_with (first
    | (go_at_call 126; refine (HT1.out _ (by first | assumption | exact HA.out _ _ (by assumption))).mono ?_; rintro r W1 ⟨rfl, k1⟩)
    | (go_at_call 127; refine (HT2.out _ (by first | assumption | exact HA.out _ _ (by assumption))).mono ?_; rintro r W2 ⟨rfl, k2, e2⟩; (first | have hcv2 := HCR.out W2 _ (e2.out _ _ (heap_alloc_new _ _)) | skip))
    | (go_at_call 74; refine (HJ.out _ _ _ (by first | assumption | exact HA.out _ _ (by assumption)) (by omega) (by omega)).mono ?_; rintro r W3 ⟨rfl, k3⟩))
  all_goals
    have hl3 : (s ++ l).size ≤ 4 := by rw [ByteArray.size_append]; omega
    have HQ := HJ.out W3 (s ++ l) b k3 hl3 hb
    rw [HE.out] at HQ
    generalize s ++ l = q at *
    have HQ : Hid (Calls Tryz.prog 74 #[.string q, .string b] W3 fun e W => e = .returned (.string (thingD 6 b)) ∧ Hid (Below w.heap.size w W)) := HQ
    clear HT1 HT2 HJ HCR HE hcv
    go_wp2_with fail
    refine HQ.out.mono ?_
    rintro r W4 ⟨rfl, k4⟩
    go_wp2
    go_ret
    exact ⟨rfl, k4.out⟩

set_option maxHeartbeats 1000000 in
theorem implDerOid (a : Option Addr) (zs : List Int) (c : Nat) (w : World) (hl : zs.length ≤ 1048576) (hcap : zs.length ≤ c) (ha : IsInts w a zs) :
    Calls Tryz.prog 73 #[.slice a zs.length c] w fun e w' => e = .returned (.string (oidD zs)) ∧ Below w.heap.size w w' := by
  have HA : Hid (Calls Tryz.prog 94 #[.slice a zs.length c] w fun e w' => e = .returned (.bool (arcsB zs)) ∧ Below w.heap.size w w') := arcsRight a zs c w hl hcap ha
  cases hr : arcsB zs with
  | false =>
    have HF : Hid (oidD zs = ByteArray.empty) := by unfold Hid oidD; rw [if_neg (by simp [hr])]
    rw [hr] at HA
    generalize zs.length = n at *
    clear ha hr
    go_enter Tryz.func73, Tryz.ntmps73
    go_wp2_with fail
    refine HA.out.mono ?_
    rintro e w1 ⟨rfl, hb1⟩
    go_wp2_with fail
    go_ret
    exact ⟨by rw [HF.out]; rfl, hb1⟩
  | true =>
    have HF : Hid (oidD zs = thingD 6 (strOfNums (oidL zs))) := by unfold Hid oidD; rw [if_pos hr]
    have HO : Hid (∀ V : World, Below w.heap.size w V → Calls Tryz.prog 101 #[.iface 119 (.agg #[.slice a zs.length c])] V fun e w' => e = .returned (.string (thingD 6 (strOfNums (oidL zs)))) ∧ Below V.heap.size V w') := fun V hV => layArcs a zs c _ V hr hcap (ha.below hV ha.lt) rfl
    rw [hr] at HA
    generalize zs.length = n at *
    generalize thingD 6 (strOfNums (oidL zs)) = s at *
    clear ha hr
    go_enter Tryz.func73, Tryz.ntmps73
    go_wp2_with fail
    refine HA.out.mono ?_
    rintro e w1 ⟨rfl, hb1⟩
    go_wp2_with fail
    refine (HO.out _ hb1).mono ?_
    rintro e w2 ⟨rfl, hb2⟩
    go_wp2_with fail
    go_ret
    exact ⟨by rw [HF.out]; rfl, hb1.trans (hb2.mono hb1.size)⟩
end Go.Proofs.YtfliacfeebooeaaGreatDoor
namespace Go.Proofs.YtfliacfeebooeaaGreatDoor
open Go.RowKit

/-- Texts, one behind the other. -/
def catS : List ByteArray → ByteArray
  | [] => ⟨#[]⟩
  | x :: r => x ++ catS r
theorem catS_list : ∀ xs : List ByteArray, (catS xs).data.toList = (xs.map (·.data.toList)).flatten
  | [] => rfl
  | x :: r => by rw [catS, ByteArray.data_append, Array.toList_append, catS_list r]; rfl
theorem join_cat (xs : List ByteArray) : Lib.join (xs.map (·.data.toList)) ([] : List UInt8) = (catS xs).data.toList := by
  rw [catS_list]
  cases xs with
  | nil => rfl
  | cons x r =>
    rw [List.map_cons, Lib.join_cons, Lib.joinTail, List.flatten_cons]
    simp
    rfl
theorem joinAll (g c : Nat) (xs : List ByteArray) (w : World) (hg : w.heap[g]? = some (.cells (sCells xs).toArray 9 (0, 0))) (hs : (catS xs).size ≤ 100000) (hl : xs.length ≤ 100000) (hc : xs.length ≤ c) :
    Calls Tryz.prog 100 #[.slice (some ⟨g, 0, none⟩) xs.length c, .string ⟨#[]⟩] w fun e w' => e = .returned (.string (catS xs)) ∧ Below w.heap.size w w' := by
  have h := Any.strings_Join joinLays joinExtra g 0 c xs ⟨#[]⟩ w (fun j x hx => by
    rw [Nat.zero_add, cell_of_row w g j _ _ (0, 0) hg]
    simp [sCells, hx]) (heap_lt hg) (by omega) hc (by
    show (Lib.join (xs.map (·.data.toList)) ([] : List UInt8)).length ≤ _
    rw [join_cat, ← Lib.size_eq]
    omega)
  refine h.mono ?_
  rintro e w' ⟨rfl, hb⟩
  refine ⟨?_, hb⟩
  have e1 : (⟨(Lib.join (xs.map (·.data.toList)) (⟨#[]⟩ : ByteArray).data.toList).toArray⟩ : ByteArray) = catS xs := by
    show (⟨(Lib.join (xs.map (·.data.toList)) ([] : List UInt8)).toArray⟩ : ByteArray) = catS xs
    rw [join_cat]
  rw [e1]
theorem implParts (t : Int) (g c : Nat) (xs : List ByteArray) (w : World) (ht : tagB t = true) (hg : w.heap[g]? = some (.cells (sCells xs).toArray 9 (0, 0))) (hs : (catS xs).size ≤ 4000) (hl : xs.length ≤ 100) (hc : xs.length ≤ c) :
    Calls Tryz.prog 69 #[.int .i64 t, .slice (some ⟨g, 0, none⟩) xs.length c] w fun e w' => e = .returned (.string (thingD t (catS xs))) ∧ Below w.heap.size w w' := by
  have HJ : Hid (Calls Tryz.prog 100 #[.slice (some ⟨g, 0, none⟩) xs.length c, .string ⟨#[]⟩] w fun e w' => e = .returned (.string (catS xs)) ∧ Below w.heap.size w w') := joinAll g c xs w hg (by omega) (by omega) hc
  have HP : Hid (∀ V : World, Calls Tryz.prog 76 #[.int .i64 t, .string (catS xs)] V fun e w' => e = .returned (.string (thingD t (catS xs))) ∧ Below V.heap.size V w') := fun V => by
    have := implDerPut t (catS xs) V (by unfold maxLen; omega)
    rw [putD_right ht hs] at this
    exact this
  clear hg hs hl hc
  generalize thingD t (catS xs) = q at *
  generalize catS xs = x at *
  generalize xs.length = n at *
  go_enter Tryz.func69, Tryz.ntmps69
  go_wp2_with fail
  refine HJ.out.mono ?_
  rintro e w2 ⟨rfl, b2⟩
  have B2 : Hid (Below w.heap.size w w2) := b2
  clear b2
  go_wp2_with fail
  refine (HP.out _).mono ?_
  rintro e w3 ⟨rfl, b3⟩
  have B3 : Hid (Below w.heap.size w w3) := B2.out.trans (b3.mono B2.out.size)
  clear b3
  go_wp2
  go_ret
  exact ⟨rfl, B3.out⟩
theorem implSeq (g c : Nat) (xs : List ByteArray) (w : World) (hg : w.heap[g]? = some (.cells (sCells xs).toArray 9 (0, 0))) (hs : (catS xs).size ≤ 4000) (hl : xs.length ≤ 100) (hc : xs.length ≤ c) :
    Calls Tryz.prog 36 #[.slice (some ⟨g, 0, none⟩) xs.length c] w fun e w' => e = .returned (.string (seqD (catS xs))) ∧ Below w.heap.size w w' := by
  have HP : Hid (Calls Tryz.prog 69 #[.int .i64 48, .slice (some ⟨g, 0, none⟩) xs.length c] w fun e w' => e = .returned (.string (seqD (catS xs))) ∧ Below w.heap.size w w') := implParts 48 g c xs w (by decide) hg hs hl hc
  clear hg hs hl hc
  generalize seqD (catS xs) = q at *
  generalize xs.length = n at *
  go_enter Tryz.func36, Tryz.ntmps36
  go_wp2_with fail
  refine HP.out.mono ?_
  rintro e w2 ⟨rfl, b2⟩
  have B2 : Hid (Below w.heap.size w w2) := b2
  clear b2
  go_wp2
  go_ret
  exact ⟨rfl, B2.out⟩
/-- Arcs that lie in a row of their own. -/
theorem implOid4 (x y z u : Int) (g : Nat) (w : World) (h : arcsB [x, y, z, u] = true) (hg : w.heap[g]? = some (.cells #[.int .i64 x, .int .i64 y, .int .i64 z, .int .i64 u] 2 (0, 0))) :
    Calls Tryz.prog 73 #[.slice (some ⟨g, 0, none⟩) 4 4] w fun e w' => e = .returned (.string (oidT [x, y, z, u])) ∧ Below w.heap.size w w' := by
  have k := implDerOid (some ⟨g, 0, none⟩) [x, y, z, u] 4 w (by simp) (Nat.le_refl _) (IsInts.row (rest := []) hg)
  unfold oidD at k
  rw [if_pos h] at k
  exact k
theorem one_cat (x : ByteArray) : catS [x] = x := by show x ++ (⟨#[]⟩ : ByteArray) = x; exact ByteArray.append_empty
theorem two_cat (x y : ByteArray) : catS [x, y] = x ++ y := by show x ++ (y ++ (⟨#[]⟩ : ByteArray)) = x ++ y; rw [show y ++ (⟨#[]⟩ : ByteArray) = y from ByteArray.append_empty]
theorem three_cat (x y z : ByteArray) : catS [x, y, z] = x ++ (y ++ z) := by show x ++ catS [y, z] = _; rw [two_cat]
/-- One text in a row of its own, as a thing of it. -/
theorem implSeq1 (x : ByteArray) (g : Nat) (w : World) (hx : x.size ≤ 4000) (hg : w.heap[g]? = some (.cells #[.string x] 9 (0, 0))) :
    Calls Tryz.prog 36 #[.slice (some ⟨g, 0, none⟩) 1 1] w fun e w' => e = .returned (.string (seqD x)) ∧ Below w.heap.size w w' := by
  have h := implSeq g 1 [x] w hg (by rw [one_cat]; exact hx) (by simp) (Nat.le_refl _)
  rw [one_cat] at h
  exact h
theorem implParts1 (t : Int) (x : ByteArray) (g : Nat) (w : World) (ht : tagB t = true) (hx : x.size ≤ 4000) (hg : w.heap[g]? = some (.cells #[.string x] 9 (0, 0))) :
    Calls Tryz.prog 69 #[.int .i64 t, .slice (some ⟨g, 0, none⟩) 1 1] w fun e w' => e = .returned (.string (thingD t x)) ∧ Below w.heap.size w w' := by
  have h := implParts t g 1 [x] w ht hg (by rw [one_cat]; exact hx) (by simp) (Nat.le_refl _)
  rw [one_cat] at h
  exact h
theorem implSeq2 (x y : ByteArray) (g : Nat) (w : World) (hx : x.size + y.size ≤ 4000) (hg : w.heap[g]? = some (.cells #[.string x, .string y] 9 (0, 0))) :
    Calls Tryz.prog 36 #[.slice (some ⟨g, 0, none⟩) 2 2] w fun e w' => e = .returned (.string (seqD (x ++ y))) ∧ Below w.heap.size w w' := by
  have h := implSeq g 2 [x, y] w hg (by rw [two_cat, ByteArray.size_append]; exact hx) (by simp) (Nat.le_refl _)
  rw [two_cat] at h
  exact h
theorem implSeq3 (x y z : ByteArray) (g : Nat) (w : World) (hx : x.size + (y.size + z.size) ≤ 4000) (hg : w.heap[g]? = some (.cells #[.string x, .string y, .string z] 9 (0, 0))) :
    Calls Tryz.prog 36 #[.slice (some ⟨g, 0, none⟩) 3 3] w fun e w' => e = .returned (.string (seqD (x ++ (y ++ z)))) ∧ Below w.heap.size w w' := by
  have h := implSeq g 3 [x, y, z] w hg (by rw [three_cat, ByteArray.size_append, ByteArray.size_append]; exact hx) (by simp) (Nat.le_refl _)
  rw [three_cat] at h
  exact h
set_option maxHeartbeats 1000000 in
theorem implNameD (t : ByteArray) (w : World) (ht : t.size ≤ 40) :
    Calls Tryz.prog 71 #[.string t] w fun e w' => e = .returned (.string (nameD t)) ∧ Below w.heap.size w w' := by
  have h1 := arcs_lit arcsName
  have h2 := thingD_le 12 t
  have h3 := seqD_le (oidT [2, 5, 4, 3] ++ thingD 12 t)
  have h4 := thingD_le 49 (seqD (oidT [2, 5, 4, 3] ++ thingD 12 t))
  rw [ByteArray.size_append] at h3
  have H1 : Hid (∀ V (g : Nat), V.heap[g]? = some (.cells #[.int .i64 2, .int .i64 5, .int .i64 4, .int .i64 3] 2 (0, 0)) → Calls Tryz.prog 73 #[.slice (some ⟨g, 0, none⟩) 4 4] V fun e w' => e = .returned (.string (oidT [2, 5, 4, 3])) ∧ Below V.heap.size V w') := fun V g hg => implOid4 2 5 4 3 g V arcsName hg
  have H2 : Hid (∀ V, Calls Tryz.prog 76 #[.int .i64 12, .string t] V fun e w' => e = .returned (.string (thingD 12 t)) ∧ Below V.heap.size V w') := fun V => by
    have := implDerPut 12 t V (by unfold maxLen; omega)
    rw [putD_right (by decide) (by omega)] at this
    exact this
  have H3 : Hid (∀ V (g : Nat), V.heap[g]? = some (.cells #[.string (oidT [2, 5, 4, 3]), .string (thingD 12 t)] 9 (0, 0)) → Calls Tryz.prog 36 #[.slice (some ⟨g, 0, none⟩) 2 2] V fun e w' => e = .returned (.string (seqD (oidT [2, 5, 4, 3] ++ thingD 12 t))) ∧ Below V.heap.size V w') := fun V g hg => implSeq2 _ _ g V (by omega) hg
  have H4 : Hid (∀ V (g : Nat), V.heap[g]? = some (.cells #[.string (seqD (oidT [2, 5, 4, 3] ++ thingD 12 t))] 9 (0, 0)) → Calls Tryz.prog 69 #[.int .i64 49, .slice (some ⟨g, 0, none⟩) 1 1] V fun e w' => e = .returned (.string (thingD 49 (seqD (oidT [2, 5, 4, 3] ++ thingD 12 t)))) ∧ Below V.heap.size V w') := fun V g hg => implParts1 49 _ g V (by decide) (by omega) hg
  have H5 : Hid (∀ V (g : Nat), V.heap[g]? = some (.cells #[.string (thingD 49 (seqD (oidT [2, 5, 4, 3] ++ thingD 12 t)))] 9 (0, 0)) → Calls Tryz.prog 36 #[.slice (some ⟨g, 0, none⟩) 1 1] V fun e w' => e = .returned (.string (nameD t)) ∧ Below V.heap.size V w') := fun V g hg => implSeq1 _ g V (by omega) hg
  clear h1 h2 h3 h4
  generalize nameD t = n at *
  generalize thingD 49 (seqD (oidT [2, 5, 4, 3] ++ thingD 12 t)) = q4 at *
  generalize seqD (oidT [2, 5, 4, 3] ++ thingD 12 t) = q3 at *
  generalize oidT [2, 5, 4, 3] = q1 at *
  generalize thingD 12 t = q2 at *
  have AL : Hid (∀ V o, Hid (Below w.heap.size w V) → Hid (Below w.heap.size w (V.alloc o))) := fun V o h => h.out.alloc h.out.size o
  have I0 : Hid (Below w.heap.size w w) := Below.refl _ _
  have TR : Hid (∀ V W, Hid (Below w.heap.size w V) → Below V.heap.size V W → Hid (Below w.heap.size w W)) := fun V W h k => h.out.trans (k.mono h.out.size)
  go_enter Tryz.func71, Tryz.ntmps71
  go_wp2_with fail
  refine (H1.out _ _ (heap_alloc_new w _)).mono ?_
  rintro e w2 ⟨rfl, b2⟩
  have B2 := TR.out _ _ (AL.out _ _ I0) b2
  clear b2
  go_wp2_with fail
  refine (H2.out _).mono ?_
  rintro e w3 ⟨rfl, b3⟩
  have B3 := TR.out _ _ B2 b3
  clear b3
  go_wp2_with fail
  refine (H3.out _ _ (heap_alloc_new w3 _)).mono ?_
  rintro e w4 ⟨rfl, b4⟩
  have B4 := TR.out _ _ (AL.out _ _ B3) b4
  clear b4
  go_wp2_with fail
  refine (H4.out _ _ (heap_alloc_new w4 _)).mono ?_
  rintro e w5 ⟨rfl, b5⟩
  have B5 := TR.out _ _ (AL.out _ _ B4) b5
  clear b5
  go_wp2_with fail
  refine (H5.out _ _ (heap_alloc_new w5 _)).mono ?_
  rintro e w6 ⟨rfl, b6⟩
  have B6 := TR.out _ _ (AL.out _ _ B5) b6
  clear b6
  go_wp2
  go_ret
  exact ⟨rfl, B6.out⟩
end Go.Proofs.YtfliacfeebooeaaGreatDoor
namespace Go.Proofs.YtfliacfeebooeaaGreatDoor
open Go.RowKit


theorem specFold (n : Int) (w : World) (h0 : -9223372036854775808 ≤ n) (h1 : n ≤ 9223372036854775807) :
    Calls Tryz.prog 86 #[.int .i64 n] w fun e w' => e = .returned (.int .u64 (foldI n : Int)) ∧ w' = w := by
  by_cases hn : n < 0
  · go_enter Tryz.func86, Tryz.ntmps86
    go_wp2
    go_ret
    exact ⟨ret_int (by unfold foldI; rw [if_pos hn]; omega), rfl⟩
  · go_enter Tryz.func86, Tryz.ntmps86
    go_wp2
    go_ret
    exact ⟨ret_int (by unfold foldI; rw [if_neg (by omega)]; omega), rfl⟩

theorem putRel {B : Nat} {w wr w1 : World} {v v' : Value} {xs : List Int} {x : Int} (o : Obj) (hB : B ≤ wr.heap.size) (hb : Below B w wr) (hown : wr.ownsRow B 5 1 v xs.length (xs.map (Value.int .u8)))
    (hown' : w1.ownsRow B 5 1 v' (xs.length + 1) (xs.map (Value.int .u8) ++ [Value.int .u8 x])) (hg : (wr.alloc o).grownBy w1 v.ownBlock) :
    w1.ownsRow B 5 1 v' (xs ++ [x]).length ((xs ++ [x]).map (Value.int .u8)) ∧ Below B w w1 ∧ B ≤ w1.heap.size := by
  refine ⟨by simpa using hown', (hb.alloc hB o).grown hg (by simp; omega) (fun k hk => (hown.lt k hk).1), ?_⟩
  have := hg.size
  simp at this
  omega

set_option maxHeartbeats 1000000 in
set_option maxRecDepth 100000 in
theorem specPut (n : Int) (w : World) (h0 : -9223372036854775808 ≤ n) (h1 : n ≤ 9223372036854775807) :
    Calls Tryz.prog 52 #[.int .i64 n] w fun e w' => e = .returned (.string (strOfNums (putF 9 (foldI n)))) ∧ Below w.heap.size w w' := by
  obtain ⟨i0, hi, hz0, hz1, hz2⟩ := info_parts infoByte
  have hf : (foldI n : Int) ≤ 18446744073709551615 := by unfold foldI; split <;> omega
  obtain ⟨u, hu⟩ : ∃ u, u = foldI n := ⟨_, rfl⟩
  rw [← hu] at hf ⊢
  have HU : Hid (u = foldI n) := hu
  clear hu
  go_enter Tryz.func52, Tryz.ntmps52
  go_wp2_with fail
  refine (specFold n _ h0 h1).mono ?_
  rintro e w' ⟨rfl, rfl⟩
  rw [← HU.out]
  go_wp2_with fail
  go_loopw [3, 4] (fun a b wr => ∃ (x f : Nat) (xs : List Int), (x : Int) ≤ 18446744073709551615 ∧ x < pw f ∧ xs.length + f ≤ 9 ∧ a = .int .u64 x ∧ wr.ownsRow w'.heap.size 5 1 b xs.length (xs.map (Value.int .u8)) ∧
      Below w'.heap.size w' wr ∧ w'.heap.size ≤ wr.heap.size ∧ xs ++ putF f x = putF 9 u)
    (fun a _ _ => (intOf a).toNat)
  case atStart =>
    exact ⟨u, 9, [], hf, by rw [pw9]; omega, by simp, rfl, World.ownsRow_made _ #[] 0 (Nat.le_refl _) (Nat.zero_le _) rfl, (Below.refl _ _).alloc (Nat.le_refl _) _, by simp, by simp⟩
  case round =>
    obtain ⟨x, f, xs, hx, hpw, hlen, rfl, hown, hbel, hsz, heq⟩ := hrel
    have HE : Hid (xs ++ putF f x = putF 9 u) := heq
    have HP : Hid (x < pw f) := hpw
    clear heq hpw hf h0 h1
    by_cases hlt : 128 ≤ x
    · go_wp2_with (at_builtin; refine wpList_append_own _ rfl _ _ 94 rfl w'.heap.size 5 i0 (.int .u8 0) 1 1 Tryz.underlying94 hi hz0 hz1 hz2 rfl (by decide) _ _ _ rfl (hown.alloc _) ⟨wr.heap.size, 0, none⟩ 1 1 [.int .u8 ((x : Int) % 128 + 128)] rfl rfl ?c1 ?c2 ?c3 ?c4 ?c5 ?_)
      case c1 => exact cells_one (by simp)
      case c2 => intro u hu; simp at hu; subst hu; rfl
      case c3 => unfold maxLen; omega
      case c4 => omega
      case c5 => simp; omega
      intro v' w1 hown' hgrow _
      have R := putRel _ hsz hbel hown hown' hgrow
      clear hown' hgrow hown hbel
      go_wp2
      go_roundw
      case rel =>
        obtain ⟨g, rfl, hg⟩ := pw_step HP.out hlt
        have he := HE.out
        rw [putF_more hlt] at he
        refine ⟨x / 128, g, xs ++ [(x : Int) % 128 + 128], by omega, hg, by simp; omega, by go_num, R.1, R.2.1, R.2.2, ?_⟩
        rw [List.append_assoc, ← he]
        simp
      case measure => simp [intOf]; omega
    · go_wp2_with (at_builtin; refine wpList_append_own _ rfl _ _ 94 rfl w'.heap.size 5 i0 (.int .u8 0) 1 1 Tryz.underlying94 hi hz0 hz1 hz2 rfl (by decide) _ _ _ rfl (hown.alloc _) ⟨wr.heap.size, 0, none⟩ 1 1 [.int .u8 (x : Int)] rfl rfl ?d1 ?d2 ?d3 ?d4 ?d5 ?_)
      case d1 => exact cells_one (by simp)
      case d2 => intro u hu; simp at hu; subst hu; rfl
      case d3 => unfold maxLen; omega
      case d4 => omega
      case d5 => simp; omega
      intro v' w1 hown' hgrow _
      have R := putRel _ hsz hbel hown hown' hgrow
      clear hown' hgrow hown hbel
      have hcv := run_convert_own (P := Tryz.prog) (src := 94) (dst := 9) Tryz.underlying94 Tryz.underlying5 Tryz.underlying9 R.1
      have HR := R.2.1
      clear R
      go_wp2
      go_ret
      refine ⟨?_, HR⟩
      have he := HE.out
      rw [putF_last (by omega)] at he
      rw [← he]
      rfl
end Go.Proofs.YtfliacfeebooeaaGreatDoor
namespace Go.Proofs.YtfliacfeebooeaaGreatDoor
open Go.RowKit

theorem implFold (n : Int) (w : World) (h0 : -9223372036854775808 ≤ n) (h1 : n ≤ 9223372036854775807) :
    Calls Tryz.prog 104 #[.int .i64 n] w fun e w' => e = .returned (.int .u64 (foldI n : Int)) ∧ w' = w := by
  by_cases hn : n < 0
  · go_enter Tryz.func104, Tryz.ntmps104
    go_wp2
    go_ret
    exact ⟨ret_int (fold_bits_neg n h0 hn), rfl⟩
  · go_enter Tryz.func104, Tryz.ntmps104
    go_wp2
    go_ret
    exact ⟨ret_int (fold_bits_pos n h1 (by omega)), rfl⟩

theorem arr10 : Tryz.prog.arrayLen 120 = 10 := by kernel_rfl
theorem size_elem10 (w : World) : (sizeOf (Tryz.prog.elem 120)).run Tryz.prog w = .ok 1 w := by kernel_rfl
theorem under10 : Tryz.prog.underlying 120 = some (.array (Tryz.prog.arrayLen 120) (Tryz.prog.elem 120)) := by kernel_rfl
theorem slice10 (w : World) (b k : Nat) (hk : k < 10) :
    (Instr.sliceAt 120 (.pointer (some ⟨b, 0, none⟩)) none (some (.int .i64 ((k : Int) + 1))) none).run Tryz.prog w = .ok (.slice (some ⟨b, 0, none⟩) (k + 1) 10) w := by
  rw [run_sliceAt_array_h w _ _ under10 .i64 _ (by omega) (by rw [arr10]; omega), size_elem10]
  simp only [Result.andThen_ok, slicedAt, arr10]
  simp [Addr.add]

set_option maxHeartbeats 1000000 in
set_option maxRecDepth 100000 in
theorem implPut (n : Int) (w : World) (h0 : -9223372036854775808 ≤ n) (h1 : n ≤ 9223372036854775807) :
    Calls Tryz.prog 75 #[.int .i64 n] w fun e w' => e = .returned (.string (strOfNums (putF 9 (foldI n)))) ∧ Below w.heap.size w w' := by
  have hf : (foldI n : Int) ≤ 18446744073709551615 := by unfold foldI; split <;> omega
  obtain ⟨u, hu⟩ : ∃ u, u = foldI n := ⟨_, rfl⟩
  rw [← hu] at hf ⊢
  have HU : Hid (u = foldI n) := hu
  clear hu
  go_enter Tryz.func75, Tryz.ntmps75
  go_wp2_with fail
  refine (implFold n _ h0 h1).mono ?_
  rintro e w' ⟨rfl, rfl⟩
  rw [← HU.out]
  go_wp2_with fail
  go_loopw [4, 5] (fun s a wr => ∃ (x f : Nat) (xs : List Int) (L : List Value), (x : Int) ≤ 18446744073709551615 ∧ x < pw f ∧ xs.length + f ≤ 9 ∧ s = .int .i64 xs.length ∧ a = .int .u64 x ∧
      wr.ownsRow w.heap.size 120 1 (.slice (some ⟨w.heap.size, 0, none⟩) 10 10) 10 L ∧ (∀ j, j < xs.length → L[j]? = some (.int .u8 (xs.getD j 0))) ∧ Below w.heap.size w wr ∧ xs ++ putF f x = putF 9 u)
    (fun _ a _ => (intOf a).toNat)
  case atStart =>
    exact ⟨u, 9, [], _, hf, by rw [pw9]; omega, by simp, rfl, rfl, World.ownsRow_lit _ _ 10 (Nat.le_refl _) (by decide) rfl, by simp, (Below.refl _ _).alloc (Nat.le_refl _) _, by simp⟩
  case round =>
    obtain ⟨x, f, xs, L, hx, hpw, hlen, rfl, rfl, hown, hL, hbel, heq⟩ := hrel
    have HE : Hid (xs ++ putF f x = putF 9 u) := heq
    have HP : Hid (x < pw f) := hpw
    have HL : Hid (∀ j, j < xs.length → L[j]? = some (.int .u8 (xs.getD j 0))) := hL
    have hlL : L.length = 10 := by simpa using hown.1
    have hc := hown.cellAt xs.length (by omega)
    rw [List.getElem?_eq_getElem (by omega)] at hc
    obtain ⟨v0, hv0⟩ : ∃ v, wr.cell? ⟨w.heap.size, xs.length, none⟩ = some v := ⟨_, hc⟩
    have hfz := hown.frozenAt xs.length
    have hor := or128 x
    clear heq hpw hL hf h0 h1 hc hlL
    have hst := fun v => hown.stored xs.length v
    have HS : Hid (∀ v, (wr.setCell ⟨w.heap.size, xs.length, none⟩ v).ownsRow w.heap.size 120 1 (.slice (some ⟨w.heap.size, 0, none⟩) 10 10) 10 (L.set xs.length v)) := fun v => (hst v).1
    have hb2 : Hid (∀ v, Below w.heap.size w (wr.setCell ⟨w.heap.size, xs.length, none⟩ v)) := fun v => hbel.setCell (Nat.le_refl _) v
    have HL2 : Hid (∀ y : Int, ∀ j, j < (xs ++ [y]).length → (L.set xs.length (.int .u8 y))[j]? = some (.int .u8 ((xs ++ [y]).getD j 0))) := fun y => set_reads (by have := hown.1; omega) HL.out
    clear hst hown hbel HL
    by_cases hlt : 128 ≤ x
    · go_wp2
      go_roundw
      case rel =>
        obtain ⟨g, rfl, hg⟩ := pw_step HP.out hlt
        have he := HE.out
        rw [putF_more hlt] at he
        refine ⟨x / 128, g, xs ++ [(x : Int) % 128 + 128], _, by omega, hg, by simp; omega, by simp, by go_num, HS.out _, HL2.out _, hb2.out _, ?_⟩
        rw [List.append_assoc, ← he]
        simp
      case measure => simp [intOf]; omega
    · have hcv : ∀ W : World, (∀ j, j < xs.length + 1 → W.cell? ⟨w.heap.size, j, none⟩ = some (.int .u8 ((xs ++ [(x : Int)]).getD j 0))) →
          (convert 94 9 (.slice (some ⟨w.heap.size, 0, none⟩) (xs.length + 1) 10)).run Tryz.prog W = .ok (.string (strOfNums (xs ++ [(x : Int)]))) W := fun W hW =>
        run_convert_bytes_arg W 94 5 Tryz.underlying94 Tryz.underlying5 w.heap.size 0 (xs.length + 1) 10 (xs ++ [(x : Int)]) (by simp) (fun j hj => by rw [Nat.zero_add]; exact hW j hj) 9 Tryz.underlying9
      have hcv1 := hcv (wr.setCell ⟨w.heap.size, xs.length, none⟩ (.int .u8 (x : Int))) (fun j hj => by
        rw [(HS.out (.int .u8 (x : Int))).cellAt j (by omega), HL2.out (x : Int) j (by simpa using hj)])
      have hsl := fun W => slice10 W w.heap.size xs.length (by omega)
      clear hcv
      go_wp2
      go_ret
      refine ⟨?_, hb2.out _⟩
      have he := HE.out
      rw [putF_last (by omega)] at he
      rw [← he]
      rfl
end Go.Proofs.YtfliacfeebooeaaGreatDoor
namespace Go.Proofs.YtfliacfeebooeaaGreatDoor
open Go.RowKit

/-- Numbers behind a byte 0. -/
def numsD (zs : List Int) : Nat → ByteArray
  | 0 => ⟨#[0]⟩
  | k + 1 => numsD zs k ++ putS (zs.getD k 0)
theorem numsD_le (zs : List Int) : ∀ k, (numsD zs k).size ≤ 1 + 10 * k
  | 0 => Nat.le_refl _
  | k + 1 => by
    have h1 := numsD_le zs k
    have h2 := putS_size (zs.getD k 0)
    show (numsD zs k ++ putS (zs.getD k 0)).size ≤ _
    rw [ByteArray.size_append]
    omega
set_option maxHeartbeats 1000000 in
set_option maxRecDepth 100000 in
theorem implNumbers (a : Option Addr) (zs : List Int) (c : Nat) (w : World) (hl : zs.length ≤ 3) (hz : ∀ i, i < zs.length → -9223372036854775808 ≤ zs.getD i 0 ∧ zs.getD i 0 ≤ 9223372036854775807) (ha : IsInts w a zs) :
    Calls Tryz.prog 39 #[.slice a zs.length c] w fun e w' => e = .returned (.string (thingD 3 (numsD zs zs.length))) ∧ Below w.heap.size w w' := by
  have HS : Hid (∀ i, i < zs.length → -9223372036854775808 ≤ zs.getD i 0 ∧ zs.getD i 0 ≤ 9223372036854775807) := hz
  clear hz
  go_enter Tryz.func39, Tryz.ntmps39
  go_wp2
  go_loopw [3, 8] (fun t i wr => ∃ k : Nat, k ≤ zs.length ∧ i = .int .i64 k ∧ t = .string (numsD zs k) ∧ Below w.heap.size w wr) (fun _ i _ => zs.length - (intOf i).toNat)
  case atStart => exact ⟨0, Nat.zero_le _, rfl, rfl, Below.refl _ _⟩
  case round =>
    obtain ⟨k, hk, rfl, rfl, hbr⟩ := hrel
    have HB : Hid (Below w.heap.size w wr) := hbr
    by_cases hlt : k < zs.length
    · obtain ⟨x, o, rfl, hc⟩ : ∃ x o, a = some ⟨x, o, none⟩ ∧ ∀ i, i < zs.length → wr.cell? ⟨x, o + i, none⟩ = some (.int .i64 (zs.getD i 0)) := by
        rcases ha.below hbr ha.lt with rfl | h
        · simp at hlt
        · exact h
      have hck := hc k hlt
      obtain ⟨hz0, hz1⟩ := HS.out k hlt
      have HP : Hid (∀ V, Calls Tryz.prog 75 #[.int .i64 (zs.getD k 0)] V fun e w' => e = .returned (.string (putS (zs.getD k 0))) ∧ Below V.heap.size V w') := fun V => implPut _ V hz0 hz1
      have z0 := numsD_le zs k
      have z1 := putS_size (zs.getD k 0)
      have HJ : Hid (∀ V, Calls Tryz.prog 74 #[.string (numsD zs k), .string (putS (zs.getD k 0))] V fun e w' => e = .returned (.string (numsD zs (k + 1))) ∧ Below V.heap.size V w') := fun V => joinTexts _ _ V (by omega) (by omega)
      have a0 : (0 : Int) ≤ (k : Int) := by omega
      have b0 : (k : Int) < (zs.length : Int) := by omega
      have HR : Hid (∃ j : Nat, j ≤ zs.length ∧ Value.int .i64 ((k : Int) + 1) = .int .i64 (j : Int) ∧ Value.string (numsD zs (k + 1)) = .string (numsD zs j)) := ⟨k + 1, by omega, by congr 1, rfl⟩
      generalize numsD zs (k + 1) = h1 at *
      generalize putS (zs.getD k 0) = h2 at *
      generalize zs.getD k 0 = z at *
      clear hc ha hbr HS z0 z1 hz0 hz1
      go_wp2_with fail
      refine (HP.out _).mono ?_
      rintro e w2 ⟨rfl, b2⟩
      have B2 : Hid (Below w.heap.size w w2) := HB.out.trans (b2.mono HB.out.size)
      clear b2
      go_wp2_with fail
      refine (HJ.out _).mono ?_
      rintro e w3 ⟨rfl, b3⟩
      have B3 : Hid (Below w.heap.size w w3) := B2.out.trans (b3.mono B2.out.size)
      clear b3
      go_wp2_with fail
      go_roundw
      case rel =>
        obtain ⟨j, j1, j2, j3⟩ := HR.out
        exact ⟨j, j1, by first | exact j2 | (rw [← j2]; simp; omega), j3, B3.out⟩
      case measure => simp [intOf]; omega
    · obtain rfl : k = zs.length := by omega
      have z0 := numsD_le zs zs.length
      have HP : Hid (∀ V, Calls Tryz.prog 76 #[.int .i64 3, .string (numsD zs zs.length)] V fun e w' => e = .returned (.string (thingD 3 (numsD zs zs.length))) ∧ Below V.heap.size V w') := fun V => by
        have := implDerPut 3 (numsD zs zs.length) V (by unfold maxLen; omega)
        rw [putD_right (by decide) (by omega)] at this
        exact this
      clear ha hbr HS
      go_wp2_with fail
      refine (HP.out _).mono ?_
      rintro e w2 ⟨rfl, b2⟩
      have B2 : Hid (Below w.heap.size w w2) := HB.out.trans (b2.mono HB.out.size)
      clear b2
      go_wp2
      go_ret
      exact ⟨rfl, B2.out⟩
end Go.Proofs.YtfliacfeebooeaaGreatDoor
