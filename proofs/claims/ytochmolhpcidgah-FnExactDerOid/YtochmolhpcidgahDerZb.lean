/- (impl.arcsThing).body, walked. -/
import Derived.Test.YtochmolhpcidgahDerZ
import Derived.Test.YtochmolhpcidgahDerX
import Derived.Test.YtochmolhpcidgahJoinA
namespace Go.Proofs.Ytochmolhpcidgah
open Go.RowKit

theorem arcs_natZ {zs : List Int} (h : arcsB zs = true) (i : Nat) (h2 : 2 ≤ i) (hi : i < zs.length) : ∃ x : Nat, zs.getD i 0 = (x : Int) ∧ x ≤ 2147483647 := by
  have := (arcsB_iff.1 h).2.2.2.2.2.2 i h2 hi
  exact ⟨(zs.getD i 0).toNat, by omega, by omega⟩
set_option maxHeartbeats 1000000 in
set_option maxRecDepth 100000 in
theorem bodyArcs (a : Option Addr) (zs : List Int) (c : Nat) (w : World) (hr : arcsB zs = true) (hcap : zs.length ≤ c) (ha : IsInts w a zs) :
    Calls Try.prog 61 #[.agg #[.slice a zs.length c]] w fun e w' => e = .returned (.string (strOfNums (oidL zs))) ∧ Below w.heap.size w w' := by
  obtain ⟨r2, r10, r0, r0', r1, r1', _⟩ := arcsB_iff.1 hr
  have hm2 : most2 (zs.getD 0 0) ≤ 100 := by unfold most2; split <;> omega
  have hlt := ha.lt
  obtain ⟨b, o, rfl, hc⟩ := ha.atZ (by intro h; rw [h] at r2; simp at r2)
  have hbw : b < w.heap.size := by
    rcases hlt with h | h
    · rw [h] at r2; simp at r2
    · exact h _ rfl
  obtain ⟨w0, hw0⟩ : ∃ w0, w0 = w.alloc (.cells #[.slice (some ⟨b, o, none⟩) zs.length c] 48) := ⟨_, rfl⟩
  have hB0 : Below w.heap.size w w0 := by rw [hw0]; exact (Below.refl _ _).alloc (Nat.le_refl _) _
  have hs0 : w0.heap.size = w.heap.size + 1 := by rw [hw0]; simp
  have t0 : w0.cell? ⟨w.heap.size, 0, none⟩ = some (.slice (some ⟨b, o, none⟩) zs.length c) := by rw [hw0]; simp
  have c0 : w0.cell? ⟨b, o, none⟩ = some (.int .i64 (zs.getD 0 0)) := by have := hc 0 (by omega); rw [hB0.cell (p := ⟨b, o, none⟩) hbw]; simpa using this
  have c1 : w0.cell? ⟨b, o + 1, none⟩ = some (.int .i64 (zs.getD 1 0)) := by rw [hB0.cell (p := ⟨b, o + 1, none⟩) hbw]; exact hc 1 (by omega)
  have HI : Hid (∀ W, Below w.heap.size w W → ∀ i, i < zs.length → W.cell? ⟨b, o + i, none⟩ = some (.int .i64 (zs.getD i 0))) := fun W hW i hi => by
    rw [hW.cell (p := ⟨b, o + i, none⟩) hbw]; exact hc i hi
  obtain ⟨y, hy⟩ : ∃ y : Nat, y = (40 * zs.getD 0 0 + zs.getD 1 0).toNat := ⟨_, rfl⟩
  have H0 : Hid (oidTo zs 0 = sevL y) := by rw [hy]; rfl
  have hyi : 40 * zs.getD 0 0 + zs.getD 1 0 = (y : Int) := by omega
  have hy2 : y ≤ 180 := by omega
  obtain ⟨n, hn⟩ : ∃ n, n = zs.length := ⟨_, rfl⟩
  have HL : Hid (oidL zs = oidTo zs (n - 2)) := by rw [hn]; rfl
  have HLen : Hid (∀ k, k + 2 ≤ n → (strOfNums (oidTo zs k)).size ≤ 45) := fun k hk => by
    rw [strOfNums_size]
    have := oidTo_len hr k (by omega)
    omega
  have HN : Hid (∀ i, 2 ≤ i → i < n → ∃ x : Nat, zs.getD i 0 = (x : Int) ∧ x ≤ 2147483647) := fun i h1 h2 => arcs_natZ hr i h1 (by omega)
  rw [← hn] at HI r2 r10 hcap t0 hw0 ⊢
  generalize zs.getD 0 0 = x0 at *
  generalize zs.getD 1 0 = x1 at *
  have ew1 : IntKind.i64.wrap (40 * x0) = 40 * x0 := by rw [IntKind.wrap_i64]; omega
  have ew2 : IntKind.i64.wrap (y : Int) = (y : Int) := by rw [IntKind.wrap_i64]; omega
  have i0 : (0 : Int) < (n : Int) := by omega
  have i1 : (1 : Int) < (n : Int) := by omega
  have j0 : 0 < n := by omega
  have j1 : 1 < n := by omega
  have HT : Hid (∀ V : World, Hid (Below (w.heap.size + 1) w0 V) → Calls Try.prog 62 #[.int .i64 (y : Int)] V fun e W => e = .returned (.string (strOfNums (sevL y))) ∧ Hid (Below (w.heap.size + 1) w0 W) ∧ W.cell? ⟨w.heap.size, 0, none⟩ = some (.slice (some ⟨b, o, none⟩) n c) ∧ W.cell? ⟨b, o, none⟩ = some (.int .i64 x0) ∧ W.cell? ⟨b, o + 1, none⟩ = some (.int .i64 x1)) := fun V hV => by
    refine (putSevens y V (by omega)).mono ?_
    rintro e W ⟨rfl, hW⟩
    have hB := hV.out.trans (hW.mono (by have := hV.out.size; omega))
    exact ⟨rfl, hB, by rw [hB.cell (p := ⟨w.heap.size, 0, none⟩) (by simp)]; exact t0, by rw [hB.cell (p := ⟨b, o, none⟩) (by simp; omega)]; exact c0, by rw [hB.cell (p := ⟨b, o + 1, none⟩) (by simp; omega)]; exact c1⟩
  have HD : Hid (Below (w.heap.size + 1) w0 w0.drew) := (Below.refl _ w0).drew
  have HB0 : Hid (Below w.heap.size w w0) := hB0
  clear hc ha hr hlt hn hy hB0
  go_enter Try.func61, Try.ntmps61
  go_wp2_with fail
  rw [← hw0]
  clear hw0
  go_region_held3 (fun V => V.cell? ⟨w.heap.size, 0, none⟩ = some (.slice (some ⟨b, o, none⟩) n c) ∧ V.cell? ⟨b, o, none⟩ = some (.int .i64 x0) ∧ V.cell? ⟨b, o + 1, none⟩ = some (.int .i64 x1)) (first | exact ⟨kt, k0, k1⟩ | go_keep)
    (first | (go_at_call 62; refine (HT.out _ (by assumption)).mono ?_; rintro r w1 ⟨rfl, kk, kt, k0, k1⟩))
  have hb1 := kk.out
  have HB1 : Hid (Below w.heap.size w w1) := HB0.out.trans (hb1.mono (Nat.le_succ _))
  clear kk HD HT k0 k1 ew1 ew2 i0 i1 j0 j1 c0 c1 t0
  go_wp2_with fail
  case inl =>
    have hn2 : n = 2 := by omega
    subst hn2
    have HF : Hid (strOfNums (oidL zs) = strOfNums (sevL y)) := by
      show _ = _
      rw [HL.out, ← H0.out]
    refine wp_loop_rounds 1 ?_
    rw [rounds_succ]
    go_wp2_with fail
    go_ret
    exact ⟨by rw [HF.out]; rfl, HB1.out⟩
  case inr =>
    clear kt hs0 hyi
    go_loopw [3, 21] (fun t i wr => ∃ k : Nat, k + 2 ≤ n ∧ t = .string (strOfNums (oidTo zs k)) ∧ i = .int .i64 (k : Int) ∧ Below w.heap.size w wr ∧ w.heap.size ≤ wr.heap.size)
      (fun _ i _ => n - (intOf i).toNat)
    case atStart => exact ⟨0, by omega, by rw [H0.out], rfl, HB1.out, HB1.out.size⟩
    case round =>
      obtain ⟨k, hk, rfl, rfl, hbr, hsr⟩ := hrel
      have hls := HLen.out k hk
      by_cases hlt : k + 2 < n
      · have ck : wr.cell? ⟨b, o + 2 + k, none⟩ = some (.int .i64 (zs.getD (k + 2) 0)) := by
          have := HI.out wr hbr (k + 2) hlt
          rw [show o + (k + 2) = o + 2 + k from by omega] at this
          exact this
        have hki : (k : Int) < ((n - 2 : Nat) : Int) := by omega
        have hkn : k < n - 2 := by omega
        obtain ⟨x, hx, hxm⟩ := HN.out (k + 2) (by omega) hlt
        rw [hx] at ck
        have HS : Hid (strOfNums (oidTo zs (k + 1)) = strOfNums (oidTo zs k) ++ strOfNums (sevL x)) := by
          show _ = _
          rw [oidTo, strOfNums_append, hx]; rfl
        have hls2 := HLen.out (k + 1) (by omega)
        have hsz : (strOfNums (oidTo zs k) ++ strOfNums (sevL x)).size ≤ 45 := by rw [← HS.out]; exact hls2
        have HSv : Hid (∀ V : World, Calls Try.prog 62 #[.int .i64 (x : Int)] V fun e w' => e = .returned (.string (strOfNums (sevL x))) ∧ Below V.heap.size V w') := fun V => putSevens x V (by omega)
        have hsx : (strOfNums (sevL x)).size ≤ 45 := by rw [ByteArray.size_append] at hsz; omega
        generalize strOfNums (oidTo zs k) = t at *
        generalize strOfNums (sevL x) = u at *
        go_wp2_with fail
        refine (HSv.out _).mono ?_
        rintro e w2 ⟨rfl, hb2⟩
        have HB2 : Hid (Below w.heap.size w w2) := hbr.trans (hb2.mono hsr)
        have hs2 := HB2.out.size
        clear hb2 hbr ck
        go_wp2_with fail
        refine (joinTexts t u _ (by omega) (by omega)).mono ?_
        rintro e w3 ⟨rfl, hb3⟩
        have HB3 : Hid (Below w.heap.size w w3) := HB2.out.trans (hb3.mono hs2)
        clear hb3
        go_wp2_with fail
        go_roundw
        case rel => exact ⟨k + 1, by omega, by rw [HS.out], by go_num, HB3.out, HB3.out.size⟩
        case measure => simp [intOf]; omega
      · obtain rfl : n = k + 2 := by omega
        have HF : Hid (strOfNums (oidL zs) = strOfNums (oidTo zs k)) := by
          show _ = _
          rw [HL.out, show k + 2 - 2 = k from by omega]
        have hki : ¬ (k : Int) < ((k + 2 - 2 : Nat) : Int) := by omega
        generalize strOfNums (oidTo zs k) = t at *
        go_wp2_with fail
        go_ret
        exact ⟨by rw [HF.out]; rfl, hbr⟩
end Go.Proofs.Ytochmolhpcidgah
