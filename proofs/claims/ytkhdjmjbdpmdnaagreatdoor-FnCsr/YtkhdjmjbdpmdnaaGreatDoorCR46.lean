/- FnCsr, walked: what a drawn secret asks for is right and comes back from its bytes; a list that it signs is good under its key and comes back; what is read of drawn bytes is told by just these. -/
import Derived.Test.YtkhdjmjbdpmdnaaGreatDoorCR15
import Derived.Test.YtkhdjmjbdpmdnaaGreatDoorCR41
import Derived.Test.YtkhdjmjbdpmdnaaGreatDoorCR42
import Derived.Test.YtkhdjmjbdpmdnaaGreatDoorCR43
import Derived.Test.YtkhdjmjbdpmdnaaGreatDoorCR30
import Derived.Test.YtkhdjmjbdpmdnaaGreatDoorCR29
import Derived.Test.YtkhdjmjbdpmdnaaGreatDoorCR44
import Derived.Test.YtkhdjmjbdpmdnaaGreatDoorCR45
import Derived.Test.YtkhdjmjbdpmdnaaGreatDoorCR32
import Derived.Test.YtkhdjmjbdpmdnaaGreatDoorCR36
import Derived.Test.YtkhdjmjbdpmdnaaGreatDoorCR01
import Derived.Deep.Cut
import Derived.Deep.RegionHeld3
namespace Go.Proofs.YtkhdjmjbdpmdnaaGreatDoor
open Go.RowKit

theorem not_empty {b : ByteArray} (h : b.size ≠ 0) : b.toList.isEmpty = false := by
  rw [Lib.toList_data]
  cases hl : b.data.toList with
  | nil => exact absurd (by rw [Lib.size_eq, hl]; rfl) h
  | cons x y => rfl
set_option linter.unusedSimpArgs false in
set_option linter.unusedVariables false in
set_option maxHeartbeats 16000000 in
set_option maxRecDepth 100000 in
theorem csrTop (w : World) (a0 : Option Addr) (len0 cap0 : Nat) (z0 : List Int) (w0 : IsRow .u8 w a0 len0 cap0 z0) (a1 : Option Addr) (len1 cap1 : Nat) (z1 : List Int) (w1' : IsRow .u8 w a1 len1 cap1 z1) (hk : Keys w ∧ ErrType w ∧ Err4 w ∧ Err3 w) :
    Calls Tryz.prog 4 #[.slice a0 len0 cap0, .slice a1 len1 cap1] w fun e w' => e = .returned (.bool true) ∧ Below w.heap.size w w' := by
  have hkp := hk.1.pos
  have hep := hk.2.1.pos
  have HKE : Hid (∀ V, Below w.heap.size w V → Keys V ∧ ErrType V ∧ Err4 V ∧ Err3 V) := fun V hV => ⟨hk.1.below hV hkp, hk.2.1.below hV hep, hk.2.2.1.keep hV, hk.2.2.2.keep hV⟩
  clear hk hkp hep
  have hl0 := w0.len_le
  have hl1 := w1'.len_le
  unfold maxLen at hl0 hl1
  obtain ⟨hc0, hk0⟩ := w0.code
  obtain ⟨hc1, hk1⟩ := w1'.code
  clear w0 w1'
  by_cases h0 : 1048576 < len0
  · clear hc0 hk0 hc1 hk1
    go_enter Tryz.func4, Tryz.ntmps4
    go_wp2
    go_ret
    exact ⟨rfl, Below.refl _ _⟩
  by_cases h1 : 1048576 < len1
  · clear hc0 hk0 hc1 hk1
    go_enter Tryz.func4, Tryz.ntmps4
    go_wp2
    go_ret
    exact ⟨rfl, Below.refl _ _⟩
  have HC0 : Hid (∀ V, Below w.heap.size w V → CodeAt a0 len0 V) := fun V hV => hc0.below hV hk0
  have HB0 : Hid (∀ V, Below w.heap.size w V → ∀ x, 0 < len0 → a0 = some x → x.block < V.heap.size) := fun V hV x hx hx' => Nat.lt_of_lt_of_le (hk0 x hx hx') hV.size
  have HC1 : Hid (∀ V, Below w.heap.size w V → CodeAt a1 len1 V) := fun V hV => hc1.below hV hk1
  have HB1 : Hid (∀ V, Below w.heap.size w V → ∀ x, 0 < len1 → a1 = some x → x.block < V.heap.size) := fun V hV x hx hx' => Nat.lt_of_lt_of_le (hk1 x hx hx') hV.size
  clear hc0 hk0 hc1 hk1
  go_enter Tryz.func4, Tryz.ntmps4
  go_wp2_with fail
  refine (drawCsrSign a0 len0 cap0 _ (by omega) (HC0.out _ (Below.refl _ _)) (HB0.out _ (Below.refl _ _))).mono ?_
  rintro e w1 ⟨⟨x, ag, ac, cn, rfl, hx, ho, hlen, hsz⟩, hb1⟩
  have B1 : Hid (Below w.heap.size w w1) := hb1
  have IN1 : Hid (IsStrs w1 (some ⟨ag, 0, none⟩) cn) := ho.strs
  have HAD : Hid (ag < w1.heap.size ∧ ∀ i, i < cn.length → w1.cell? ⟨ag, 0 + i, none⟩ = some (.string (tAt cn i))) := by
    obtain ⟨g', c', e', _, h2, h3⟩ := own_addr ho (by simp)
    simp only [Value.slice.injEq, Option.some.injEq, Addr.mk.injEq] at e'
    rw [← e'.1.1] at h2 h3
    exact ⟨h2, h3⟩
  have htot := totS_may cn cn.length hsz
  obtain ⟨k, e, s, hsv, hk', he', hs'⟩ := signV_may x (askD (askO x cn))
  have hmR := signA_may (x := x) hlen hsz hk' he' hs'
  have hgR := signA_good hsv
  obtain ⟨RR, hRR⟩ : ∃ y, y = signA x cn k e s := ⟨_, rfl⟩
  have qi := fun V => implSignA x cn (some ⟨ag, 0, none⟩) ac k e s V (by omega) (by omega)
  have qs := fun V => specSignA x cn ag 0 ac k e s V (by omega) (by omega)
  rw [← hRR] at hmR hgR qi qs
  obtain ⟨nl, hnl⟩ : ∃ n, n = cn.length := ⟨_, rfl⟩
  rw [← hnl] at qi qs ⊢
  have HNl : Hid (nl = cn.length) := hnl
  have TSi : Hid (∀ V, Keys V → Err1 V → IsStrs V (some ⟨ag, 0, none⟩) cn → Calls Tryz.prog 23 #[.int .i64 x, .slice (some ⟨ag, 0, none⟩) nl ac] V fun r w' => ∃ v, r = .returned (RR.val v) ∧ OwnS w' V.heap.size v RR.names ∧ Below V.heap.size V w') := fun V h1 h2 hV => qi V hV h1 h2 (fun _ => hsv)
  have TSs : Hid (∀ V, Below w1.heap.size w1 V → Calls Tryz.prog 25 #[.int .i64 x, .slice (some ⟨ag, 0, none⟩) nl ac] V fun r w' => ∃ v, r = .returned (RR.val v) ∧ OwnS w' V.heap.size v RR.names ∧ Below V.heap.size V w') := fun V hV => qs V (Nat.lt_of_lt_of_le HAD.out.1 hV.size) (fun i hi => by rw [hV.cell (p := ⟨ag, 0 + i, none⟩) HAD.out.1]; exact HAD.out.2 i (by rw [HNl.out] at hi; exact hi)) (fun _ => hsv)
  have hrl5 := hmR.len
  have rtot := hmR.tot
  have TRb : Hid (∀ V a c, Keys V → Err3 V → IsStrs V a RR.names → Calls Tryz.prog 24 #[RR.val (.slice a RR.names.length c)] V fun e w' => e = .returned (.string (csrBytesD RR)) ∧ Below V.heap.size V w') := fun V a c h1 h2 hV => implCsrBytes RR a c V (by omega) (by omega) hV h1 h2
  have TRc : Hid (∀ V a c, IsStrs V a RR.names → Calls Tryz.prog 27 #[RR.val (.slice a RR.names.length c)] V fun e w' => e = .returned (.string (csrBytesD RR)) ∧ Below V.heap.size V w') := fun V a c hV => specCsrBytes RR a c V (by omega) (by omega) hV
  have TRl : Hid (∀ V a b c d, IsStrs V a RR.names → IsStrs V b RR.names → Calls Tryz.prog 26 #[.slice a RR.names.length c, .slice b RR.names.length d] V fun e w' => e = .returned (.bool true) ∧ Below V.heap.size V w') := fun V a b c d h1 h2 => lwTextsW a b RR.names c d V (by omega) h1 h2
  have hts : (csrBytesD RR).size ≤ 20000 := by
    unfold csrBytesD
    split
    · exact askY_small hmR
    · exact Nat.zero_le _
  have TRr : Hid (RR.key ≠ 0 → ∀ V, Keys V → ErrType V → Err4 V → Calls Tryz.prog 28 #[.string (csrBytesD RR)] V fun e w' => ∃ v, e = .returned (csrV RR v 0) ∧ OwnS w' V.heap.size v RR.names ∧ Below V.heap.size V w') := fun hne V h1 h2 h3 => by
    have q := implCsrRead (csrBytesD RR) V (by unfold maxLen; omega) h1 h2 h3
    rcases hgR with h | ⟨h, _⟩
    · exact absurd h hne
    · rw [csrR_eq, csr_back h (askY_small hmR)] at q
      exact q
  have HF : Hid (RR.key ≠ 0 → RR.names = cn) := fun hne => by
    rcases hgR with h | ⟨_, h1⟩
    · exact absurd h hne
    · exact h1
  generalize csrBytesD RR = t at *
  clear hRR hsv ho hk' he' hs' hnl hb1 qi qs hgR hmR rtot htot hsz hlen
  obtain ⟨rkey, rnames, rsk, rse, rss⟩ := RR
  unfold Ask.val csrV at *
  simp only at TSi TSs TRb TRc TRl TRr HF hrl5
  obtain ⟨rl, hrl⟩ : ∃ n, n = rnames.length := ⟨_, rfl⟩
  rw [← hrl] at TRb TRc TRl hrl5
  have HRl : Hid (rl = rnames.length) := hrl
  have TSi' : Hid (∀ V, Keys V → Err1 V → IsStrs V (some ⟨ag, 0, none⟩) cn → Calls Tryz.prog 23 #[.int .i64 x, .slice (some ⟨ag, 0, none⟩) nl ac] V fun r w' => ∃ a c, r = .returned (.agg #[.int .i64 rkey, .slice a rl c, .int .i64 rsk, .int .i64 rse, .int .i64 rss]) ∧ IsStrs w' a rnames ∧ Below V.heap.size V w') := fun V h0 h1 h2 => (TSi.out V h0 h1 h2).mono fun _ _ ⟨v, e1, h3, h4⟩ => by
    obtain ⟨a, c, rfl, _⟩ := h3.form
    rw [← HRl.out] at e1
    exact ⟨a, c, e1, h3.strs, h4⟩
  have TSs' : Hid (∀ V, Below w1.heap.size w1 V → Calls Tryz.prog 25 #[.int .i64 x, .slice (some ⟨ag, 0, none⟩) nl ac] V fun r w' => ∃ a c, r = .returned (.agg #[.int .i64 rkey, .slice a rl c, .int .i64 rsk, .int .i64 rse, .int .i64 rss]) ∧ IsStrs w' a rnames ∧ Below V.heap.size V w') := fun V h1 => (TSs.out V h1).mono fun _ _ ⟨v, e1, h3, h4⟩ => by
    obtain ⟨a, c, rfl, _⟩ := h3.form
    rw [← HRl.out] at e1
    exact ⟨a, c, e1, h3.strs, h4⟩
  have TRr' : Hid (rkey ≠ 0 → ∀ V, Keys V → ErrType V → Err4 V → Calls Tryz.prog 28 #[.string t] V fun e w' => ∃ a c, e = .returned (.agg #[.int .i64 rkey, .slice a rl c, .int .i64 rsk, .int .i64 rse, .int .i64 rss, .int .i64 0]) ∧ IsStrs w' a rnames ∧ Below V.heap.size V w') := fun hne V h0 h1 h2 => (TRr.out hne V h0 h1 h2).mono fun _ _ ⟨v, e1, h3, h4⟩ => by
    obtain ⟨a, c, rfl, _⟩ := h3.form
    rw [← HRl.out] at e1
    exact ⟨a, c, e1, h3.strs, h4⟩
  have TRn : Hid (rkey ≠ 0 → ∀ V a b c d, IsStrs V a rnames → IsStrs V b cn → Calls Tryz.prog 26 #[.slice a rl c, .slice b nl d] V fun e w' => e = .returned (.bool true) ∧ Below V.heap.size V w') := fun hne V a b c d h1 h2 => by
    have he := HF.out hne
    have q := TRl.out V a b c d h1 (by rw [he]; exact h2)
    rw [show nl = rl from by rw [HNl.out, HRl.out, he]]
    exact q
  clear hrl TSi TSs TRr HF
  go_wp2_with fail
  refine (TSi'.out _ (HKE.out _ B1.out).1 (HKE.out _ B1.out).2.2.1.one IN1.out).mono ?_
  rintro e' w3 ⟨ra, rc, rfl, ir3, b3⟩
  obtain ⟨w4, hw4⟩ : ∃ y, y = w3.alloc (.cells [Value.int .i64 rkey, .slice ra rl rc, .int .i64 rsk, .int .i64 rse, .int .i64 rss].toArray 44 (0, 0)) := ⟨_, rfl⟩
  have bw4 : Below w3.heap.size w3 w4 := by rw [hw4]; exact (Below.refl _ _).alloc (Nat.le_refl _) _
  have RR4 : Hid (w4.heap[w3.heap.size]? = some (.cells [Value.int .i64 rkey, .slice ra rl rc, .int .i64 rsk, .int .i64 rse, .int .i64 rss].toArray 44 (0, 0))) := by rw [hw4]; exact heap_alloc_new w3 _
  have D4 : Hid (Below w1.heap.size w1 w4) := b3.trans (bw4.mono b3.size)
  have IR4 : Hid (IsStrs w4 ra rnames) := ir3.keep bw4
  have B4 : Hid (Below w.heap.size w w4) := B1.out.trans (D4.out.mono B1.out.size)
  clear b3 bw4 ir3 TSi'
  go_upto_region 5 with fail
  rw [← hw4]
  clear hw4
  have hr4 := rangeRow RR4.out
  go_wp2_with (refine wpList_load_mid rfl 44 _ rfl w3.heap.size 0 rfl [Value.int .i64 rkey, .slice ra rl rc, .int .i64 rsk, .int .i64 rse, .int .i64 rss] _ hr4 Tryz.underlying44 rfl sizeCsr ?_)
  refine (TRb.out w4 ra rc (HKE.out _ B4.out).1 (HKE.out _ B4.out).2.2.2 IR4.out).mono ?_
  rintro e' w5 ⟨rfl, b5⟩
  have RR5 : Hid (w5.heap[w3.heap.size]? = some (.cells [Value.int .i64 rkey, .slice ra rl rc, .int .i64 rsk, .int .i64 rse, .int .i64 rss].toArray 44 (0, 0))) := by show _ = _; rw [b5.block _ (heap_lt RR4.out)]; exact RR4.out
  have D5 : Hid (Below w1.heap.size w1 w5) := D4.out.trans (b5.mono D4.out.size)
  have IR5 : Hid (IsStrs w5 ra rnames) := IR4.out.keep b5
  clear b5 RR4 D4 IR4 hr4 TRb B4
  go_wp2_with fail
  refine (TSs'.out w5 D5.out).mono ?_
  rintro e' w7 ⟨sa, sc, rfl, ir7, b7⟩
  obtain ⟨w8, hw8⟩ : ∃ y, y = w7.alloc (.cells [Value.int .i64 rkey, .slice sa rl sc, .int .i64 rsk, .int .i64 rse, .int .i64 rss].toArray 44 (0, 0)) := ⟨_, rfl⟩
  have bw8 : Below w7.heap.size w7 w8 := by rw [hw8]; exact (Below.refl _ _).alloc (Nat.le_refl _) _
  have RS8 : Hid (w8.heap[w7.heap.size]? = some (.cells [Value.int .i64 rkey, .slice sa rl sc, .int .i64 rsk, .int .i64 rse, .int .i64 rss].toArray 44 (0, 0))) := by rw [hw8]; exact heap_alloc_new w7 _
  have E8 : Below w5.heap.size w5 w8 := b7.trans (bw8.mono b7.size)
  have RR8 : Hid (w8.heap[w3.heap.size]? = some (.cells [Value.int .i64 rkey, .slice ra rl rc, .int .i64 rsk, .int .i64 rse, .int .i64 rss].toArray 44 (0, 0))) := by show _ = _; rw [E8.block _ (heap_lt RR5.out)]; exact RR5.out
  have D8 : Hid (Below w1.heap.size w1 w8) := D5.out.trans (E8.mono D5.out.size)
  have IS8 : Hid (IsStrs w8 sa rnames) := ir7.keep bw8
  have IR8 : Hid (IsStrs w8 ra rnames) := IR5.out.keep E8
  clear b7 bw8 E8 ir7 RR5 D5 IR5 TSs'
  go_upto_region 7 with fail
  rw [← hw8]
  clear hw8
  have HX : Hid (∀ V, Below w8.heap.size w8 V → ((V.cell? ⟨w3.heap.size, 0, none⟩ = some (.int .i64 rkey) ∧ V.cell? ⟨w3.heap.size, 1, none⟩ = some (.slice ra rl rc) ∧ V.cell? ⟨w3.heap.size, 2, none⟩ = some (.int .i64 rsk) ∧ V.cell? ⟨w3.heap.size, 3, none⟩ = some (.int .i64 rse) ∧ V.cell? ⟨w3.heap.size, 4, none⟩ = some (.int .i64 rss)) ∧ (V.cell? ⟨w7.heap.size, 0, none⟩ = some (.int .i64 rkey) ∧ V.cell? ⟨w7.heap.size, 1, none⟩ = some (.slice sa rl sc) ∧ V.cell? ⟨w7.heap.size, 2, none⟩ = some (.int .i64 rsk) ∧ V.cell? ⟨w7.heap.size, 3, none⟩ = some (.int .i64 rse) ∧ V.cell? ⟨w7.heap.size, 4, none⟩ = some (.int .i64 rss)))) := fun V hV => by
    have h1 : V.heap[w3.heap.size]? = some (.cells [Value.int .i64 rkey, .slice ra rl rc, .int .i64 rsk, .int .i64 rse, .int .i64 rss].toArray 44 (0, 0)) := by rw [hV.block _ (heap_lt RR8.out)]; exact RR8.out
    have h2 : V.heap[w7.heap.size]? = some (.cells [Value.int .i64 rkey, .slice sa rl sc, .int .i64 rsk, .int .i64 rse, .int .i64 rss].toArray 44 (0, 0)) := by rw [hV.block _ (heap_lt RS8.out)]; exact RS8.out
    exact ⟨⟨rowFacts h1 0 _ rfl, rowFacts h1 1 _ rfl, rowFacts h1 2 _ rfl, rowFacts h1 3 _ rfl, rowFacts h1 4 _ rfl⟩, ⟨rowFacts h2 0 _ rfl, rowFacts h2 1 _ rfl, rowFacts h2 2 _ rfl, rowFacts h2 3 _ rfl, rowFacts h2 4 _ rfl⟩⟩
  have HW : Hid (∀ V, Below w8.heap.size w8 V → Below w.heap.size w V ∧ IsStrs V (some ⟨ag, 0, none⟩) cn ∧ IsStrs V ra rnames ∧ IsStrs V sa rnames) := fun V hV => by
    have h2 := D8.out.trans (hV.mono D8.out.size)
    exact ⟨B1.out.trans (h2.mono B1.out.size), IN1.out.keep h2, IR8.out.keep hV, IS8.out.keep hV⟩
  clear RR8 RS8 D8 IR8 IS8 IN1 B1 HAD
  go_cut [95] from 41 (fun s95 wx => s95 = .bool false ∧ Below w8.heap.size w8 wx)
  case first =>
    have eK : (rkey != rkey) = false := by simp
    by_cases hz : rkey = 0
    · as_aux_lemma =>
      have e0 : (rkey != 0) = false := by simp [hz]
      clear TRr' TRn hz
      have J0 : Hid (Below w8.heap.size w8 w8.drew) := (Below.refl _ _).drew
      refine wp_region_held_drew (S := fun V => ((V.cell? ⟨w3.heap.size, 0, none⟩ = some (.int .i64 rkey) ∧ V.cell? ⟨w3.heap.size, 1, none⟩ = some (.slice ra rl rc) ∧ V.cell? ⟨w3.heap.size, 2, none⟩ = some (.int .i64 rsk) ∧ V.cell? ⟨w3.heap.size, 3, none⟩ = some (.int .i64 rse) ∧ V.cell? ⟨w3.heap.size, 4, none⟩ = some (.int .i64 rss)) ∧ (V.cell? ⟨w7.heap.size, 0, none⟩ = some (.int .i64 rkey) ∧ V.cell? ⟨w7.heap.size, 1, none⟩ = some (.slice sa rl sc) ∧ V.cell? ⟨w7.heap.size, 2, none⟩ = some (.int .i64 rsk) ∧ V.cell? ⟨w7.heap.size, 3, none⟩ = some (.int .i64 rse) ∧ V.cell? ⟨w7.heap.size, 4, none⟩ = some (.int .i64 rss)))) (by kernel_rfl) ?_ (fun hHeld => ?_)
      · exact HX.out _ J0.out
      refine wpAnyH_take (i := 0) (oi := ⟨some 41, _, _, _, _, _⟩) (v := ?_) rfl (by kernel_rfl) (by kernel_rfl) (by kernel_rfl) (fun _ _ _ h => h) (Or.inl ⟨by kernel_rfl, ?_⟩) (by assumption) ?_
      rotate_left
      · (intro w hSw; (try dsimp only at hSw); go_simp; try with_reducible rfl)
      (try simp only [Act.put, List.setIfInBounds_toArray, List.set_cons_zero, List.set_cons_succ])
      refine wpAnyH_take (i := 1) (oi := ⟨some 42, _, _, _, _, _⟩) (v := ?_) rfl (by kernel_rfl) (by kernel_rfl) (by kernel_rfl) (fun _ _ _ h => h) (Or.inl ⟨by kernel_rfl, ?_⟩) (by assumption) ?_
      rotate_left
      · (intro w hSw; (try dsimp only at hSw); go_simp; try with_reducible rfl)
      (try simp only [Act.put, List.setIfInBounds_toArray, List.set_cons_zero, List.set_cons_succ])
      refine wpAnyH_take (i := 2) (oi := ⟨some 43, _, _, _, _, _⟩) (v := ?_) rfl (by kernel_rfl) (by kernel_rfl) (by kernel_rfl) (fun _ _ _ h => h) (Or.inl ⟨by kernel_rfl, ?_⟩) (by assumption) ?_
      rotate_left
      · (intro w hSw; (try dsimp only at hSw); go_simp; try with_reducible rfl)
      (try simp only [Act.put, List.setIfInBounds_toArray, List.set_cons_zero, List.set_cons_succ])
      refine wpAnyH_take (i := 3) (oi := ⟨some 44, _, _, _, _, _⟩) (v := ?_) rfl (by kernel_rfl) (by kernel_rfl) (by kernel_rfl) (fun _ _ _ h => h) (Or.inl ⟨by kernel_rfl, ?_⟩) (by assumption) ?_
      rotate_left
      · (intro w hSw; (try dsimp only at hSw); go_simp; try with_reducible rfl)
      (try simp only [Act.put, List.setIfInBounds_toArray, List.set_cons_zero, List.set_cons_succ])
      refine wpAnyH_take (i := 4) (oi := ⟨some 45, _, _, _, _, _⟩) (v := ?_) rfl (by kernel_rfl) (by kernel_rfl) (by kernel_rfl) (fun _ _ _ h => h) (Or.inl ⟨by kernel_rfl, ?_⟩) (by assumption) ?_
      rotate_left
      · (intro w hSw; (try dsimp only at hSw); go_simp; try with_reducible rfl)
      (try simp only [Act.put, List.setIfInBounds_toArray, List.set_cons_zero, List.set_cons_succ])
      refine wpAnyH_take (i := 5) (oi := ⟨some 46, _, _, _, _, _⟩) (v := ?_) rfl (by kernel_rfl) (by kernel_rfl) (by kernel_rfl) (fun _ _ _ h => h) (Or.inl ⟨by kernel_rfl, ?_⟩) (by assumption) ?_
      rotate_left
      · (intro w hSw; (try dsimp only at hSw); go_simp; try with_reducible rfl)
      (try simp only [Act.put, List.setIfInBounds_toArray, List.set_cons_zero, List.set_cons_succ])
      refine wpAnyH_take (i := 6) (oi := ⟨some 47, _, _, _, _, _⟩) (v := ?_) rfl (by kernel_rfl) (by kernel_rfl) (by kernel_rfl) (fun _ _ _ h => h) (Or.inl ⟨by kernel_rfl, ?_⟩) (by assumption) ?_
      rotate_left
      · (intro w hSw; (try dsimp only at hSw); go_simp; try with_reducible rfl)
      (try simp only [Act.put, List.setIfInBounds_toArray, List.set_cons_zero, List.set_cons_succ])
      refine wpAnyH_take (i := 7) (oi := ⟨some 48, _, _, _, _, _⟩) (v := ?_) rfl (by kernel_rfl) (by kernel_rfl) (by kernel_rfl) (fun _ _ _ h => h) (Or.inl ⟨by kernel_rfl, ?_⟩) (by assumption) ?_
      rotate_left
      · (intro w hSw; (try dsimp only at hSw); go_simp; try with_reducible rfl)
      (try simp only [Act.put, List.setIfInBounds_toArray, List.set_cons_zero, List.set_cons_succ])
      refine wpAnyH_take (i := 8) (oi := ⟨some 49, _, _, _, _, _⟩) (v := ?_) rfl (by kernel_rfl) (by kernel_rfl) (by kernel_rfl) (fun _ _ _ h => h) (Or.inl ⟨by kernel_rfl, ?_⟩) (by assumption) ?_
      rotate_left
      · (intro w hSw; (try dsimp only at hSw); go_simp; try with_reducible rfl)
      (try simp only [Act.put, List.setIfInBounds_toArray, List.set_cons_zero, List.set_cons_succ])
      refine wpAnyH_take (i := 9) (oi := ⟨some 50, _, _, _, _, _⟩) (v := ?_) rfl (by kernel_rfl) (by kernel_rfl) (by kernel_rfl) (fun _ _ _ h => h) (Or.inl ⟨by kernel_rfl, ?_⟩) (by assumption) ?_
      rotate_left
      · (intro w hSw; (try dsimp only at hSw); go_simp; try with_reducible rfl)
      (try simp only [Act.put, List.setIfInBounds_toArray, List.set_cons_zero, List.set_cons_succ])
      refine wpAnyH_take (i := 10) (oi := ⟨some 51, _, _, _, _, _⟩) (v := ?_) rfl (by kernel_rfl) (by kernel_rfl) (by kernel_rfl) (fun _ _ _ h => h) (Or.inl ⟨by kernel_rfl, ?_⟩) (by assumption) ?_
      rotate_left
      · (intro w hSw; (try dsimp only at hSw); go_simp; try with_reducible rfl)
      (try simp only [Act.put, List.setIfInBounds_toArray, List.set_cons_zero, List.set_cons_succ])
      refine wpAnyH_take (i := 11) (oi := ⟨some 52, _, _, _, _, _⟩) (v := ?_) rfl (by kernel_rfl) (by kernel_rfl) (by kernel_rfl) (fun _ _ _ h => h) (Or.inl ⟨by kernel_rfl, ?_⟩) (by assumption) ?_
      rotate_left
      · (intro w hSw; (try dsimp only at hSw); go_simp; try with_reducible rfl)
      (try simp only [Act.put, List.setIfInBounds_toArray, List.set_cons_zero, List.set_cons_succ])
      refine wpAnyH_take (i := 12) (oi := ⟨some 53, _, _, _, _, _⟩) (v := ?_) rfl (by kernel_rfl) (by kernel_rfl) (by kernel_rfl) (fun _ _ _ h => h) (Or.inl ⟨by kernel_rfl, ?_⟩) (by assumption) ?_
      rotate_left
      · (intro w hSw; (try dsimp only at hSw); go_simp; try with_reducible rfl)
      (try simp only [Act.put, List.setIfInBounds_toArray, List.set_cons_zero, List.set_cons_succ])
      refine wpAnyH_take (i := 13) (oi := ⟨some 54, _, _, _, _, _⟩) (v := ?_) rfl (by kernel_rfl) (by kernel_rfl) (by kernel_rfl) (fun _ _ _ h => h) (Or.inl ⟨by kernel_rfl, ?_⟩) (by assumption) ?_
      rotate_left
      · (intro w hSw; (try dsimp only at hSw); go_simp; try with_reducible rfl)
      (try simp only [Act.put, List.setIfInBounds_toArray, List.set_cons_zero, List.set_cons_succ])
      refine wpAnyH_take (i := 14) (oi := ⟨some 55, _, _, _, _, _⟩) (v := ?_) rfl (by kernel_rfl) (by kernel_rfl) (by kernel_rfl) (fun _ _ _ h => h) (Or.inl ⟨by kernel_rfl, ?_⟩) (by assumption) ?_
      rotate_left
      · (intro w hSw; (try dsimp only at hSw); go_simp; try with_reducible rfl)
      (try simp only [Act.put, List.setIfInBounds_toArray, List.set_cons_zero, List.set_cons_succ])
      refine wpAnyH_take (i := 15) (oi := ⟨some 56, _, _, _, _, _⟩) (v := ?_) rfl (by kernel_rfl) (by kernel_rfl) (by kernel_rfl) (fun _ _ _ h => h) (Or.inl ⟨by kernel_rfl, ?_⟩) (by assumption) ?_
      rotate_left
      · (intro w hSw; (try dsimp only at hSw); go_simp; try with_reducible rfl)
      (try simp only [Act.put, List.setIfInBounds_toArray, List.set_cons_zero, List.set_cons_succ])
      refine wpAnyH_take (i := 16) (oi := ⟨some 57, _, _, _, _, _⟩) (v := ?_) rfl (by kernel_rfl) (by kernel_rfl) (by kernel_rfl) (fun _ _ _ h => h) (Or.inl ⟨by kernel_rfl, ?_⟩) (by assumption) ?_
      rotate_left
      · (intro w hSw; (try dsimp only at hSw); go_simp; try with_reducible rfl)
      (try simp only [Act.put, List.setIfInBounds_toArray, List.set_cons_zero, List.set_cons_succ])
      refine wpAnyH_ready (rs := [17]) (by kernel_rfl) (by simp) ?_
      refine AllReadyH.cons (o := ⟨some 58, _, _, _, _, _⟩) rfl (fun K hK => ?_) AllReadyH.nil
      go_simp
      refine (TRl.out _ ra sa rc sc (HW.out _ J0.out).2.2.1 (HW.out _ J0.out).2.2.2).mono ?_
      rintro e' W1 ⟨rfl, bb1⟩
      have J1 : Hid (Below w8.heap.size w8 W1) := J0.out.trans (bb1.mono J0.out.size)
      refine hK.out _ _ ?_ (fun hHeld => ?_)
      · exact HX.out _ J1.out
      clear hK K bb1
      (try simp only [Act.put, List.setIfInBounds_toArray, List.set_cons_zero, List.set_cons_succ])
      refine wpAnyH_take (i := 18) (oi := ⟨some 59, _, _, _, _, _⟩) (v := ?_) rfl (by kernel_rfl) (by kernel_rfl) (by kernel_rfl) (fun _ _ _ h => h) (Or.inl ⟨by kernel_rfl, ?_⟩) (by assumption) ?_
      rotate_left
      · (intro w hSw; (try dsimp only at hSw); go_simp; try with_reducible rfl)
      (try simp only [Act.put, List.setIfInBounds_toArray, List.set_cons_zero, List.set_cons_succ])
      refine wpAnyH_take (i := 19) (oi := ⟨some 60, _, _, _, _, _⟩) (v := ?_) rfl (by kernel_rfl) (by kernel_rfl) (by kernel_rfl) (fun _ _ _ h => h) (Or.inl ⟨by kernel_rfl, ?_⟩) (by assumption) ?_
      rotate_left
      · (intro w hSw; (try dsimp only at hSw); go_simp; try with_reducible rfl)
      (try simp only [Act.put, List.setIfInBounds_toArray, List.set_cons_zero, List.set_cons_succ])
      refine wpAnyH_take (i := 20) (oi := ⟨some 61, _, _, _, _, _⟩) (v := ?_) rfl (by kernel_rfl) (by kernel_rfl) (by kernel_rfl) (fun _ _ _ h => h) (Or.inl ⟨by kernel_rfl, ?_⟩) (by assumption) ?_
      rotate_left
      · (intro w hSw; (try dsimp only at hSw); go_simp; try with_reducible rfl)
      (try simp only [Act.put, List.setIfInBounds_toArray, List.set_cons_zero, List.set_cons_succ])
      refine wpAnyH_take (i := 21) (oi := ⟨some 62, _, _, _, _, _⟩) (v := ?_) rfl (by kernel_rfl) (by kernel_rfl) (by kernel_rfl) (fun _ _ _ h => h) (Or.inl ⟨by kernel_rfl, ?_⟩) (by assumption) ?_
      rotate_left
      · (intro w hSw; (try dsimp only at hSw); go_simp; try with_reducible rfl)
      (try simp only [Act.put, List.setIfInBounds_toArray, List.set_cons_zero, List.set_cons_succ])
      refine wpAnyH_take (i := 22) (oi := ⟨some 63, _, _, _, _, _⟩) (v := ?_) rfl (by kernel_rfl) (by kernel_rfl) (by kernel_rfl) (fun _ _ _ h => h) (Or.inl ⟨by kernel_rfl, ?_⟩) (by assumption) ?_
      rotate_left
      · (intro w hSw; (try dsimp only at hSw); go_simp; try with_reducible rfl)
      (try simp only [Act.put, List.setIfInBounds_toArray, List.set_cons_zero, List.set_cons_succ])
      refine wpAnyH_ready (rs := [23]) (by kernel_rfl) (by simp) ?_
      refine AllReadyH.cons (o := ⟨some 64, _, _, _, _, _⟩) rfl (fun K hK => ?_) AllReadyH.nil
      go_simp
      refine (TRc.out _ ra rc (HW.out _ J1.out).2.2.1).mono ?_
      rintro e' W2 ⟨rfl, bb2⟩
      have J2 : Hid (Below w8.heap.size w8 W2) := J1.out.trans (bb2.mono J1.out.size)
      refine hK.out _ _ ?_ (fun hHeld => ?_)
      · exact HX.out _ J2.out
      clear hK K bb2
      (try simp only [Act.put, List.setIfInBounds_toArray, List.set_cons_zero, List.set_cons_succ])
      refine wpAnyH_take (i := 24) (oi := ⟨some 65, _, _, _, _, _⟩) (v := ?_) rfl (by kernel_rfl) (by kernel_rfl) (by kernel_rfl) (fun _ _ _ h => h) (Or.inl ⟨by kernel_rfl, ?_⟩) (by assumption) ?_
      rotate_left
      · (intro w hSw; (try dsimp only at hSw); go_simp; try with_reducible rfl)
      (try simp only [Act.put, List.setIfInBounds_toArray, List.set_cons_zero, List.set_cons_succ])
      refine wpAnyH_take (i := 25) (oi := ⟨some 66, _, _, _, _, _⟩) (v := ?_) rfl (by kernel_rfl) (by kernel_rfl) (by kernel_rfl) (fun _ _ _ h => h) (Or.inl ⟨by kernel_rfl, ?_⟩) (by assumption) ?_
      rotate_left
      · (intro w hSw; (try dsimp only at hSw); go_simp; try with_reducible rfl)
      (try simp only [Act.put, List.setIfInBounds_toArray, List.set_cons_zero, List.set_cons_succ])
      refine wpAnyH_take (i := 26) (oi := ⟨some 67, _, _, _, _, _⟩) (v := ?_) rfl (by kernel_rfl) (by kernel_rfl) (by kernel_rfl) (fun _ _ _ h => h) (Or.inl ⟨by kernel_rfl, ?_⟩) (by assumption) ?_
      rotate_left
      · (intro w hSw; (try dsimp only at hSw); go_simp; try with_reducible rfl)
      (try simp only [Act.put, List.setIfInBounds_toArray, List.set_cons_zero, List.set_cons_succ])
      refine wpAnyH_take (i := 27) (oi := ⟨some 68, _, _, _, _, _⟩) (v := ?_) rfl (by kernel_rfl) (by kernel_rfl) (by kernel_rfl) (fun _ _ _ h => h) (Or.inl ⟨by kernel_rfl, ?_⟩) (by assumption) ?_
      rotate_left
      · (intro w hSw; (try dsimp only at hSw); go_simp; try with_reducible rfl)
      (try simp only [Act.put, List.setIfInBounds_toArray, List.set_cons_zero, List.set_cons_succ])
      refine wpAnyH_take (i := 28) (oi := ⟨some 69, _, _, _, _, _⟩) (v := ?_) rfl (by kernel_rfl) (by kernel_rfl) (by kernel_rfl) (fun _ _ _ h => h) (Or.inl ⟨by kernel_rfl, ?_⟩) (by assumption) ?_
      rotate_left
      · (intro w hSw; (try dsimp only at hSw); go_simp; try with_reducible rfl)
      (try simp only [Act.put, List.setIfInBounds_toArray, List.set_cons_zero, List.set_cons_succ])
      refine wpAnyH_take (i := 29) (oi := ⟨some 70, _, _, _, _, _⟩) (v := ?_) rfl (by kernel_rfl) (by kernel_rfl) (by kernel_rfl) (fun _ _ _ h => h) (Or.inl ⟨by kernel_rfl, ?_⟩) (by assumption) ?_
      rotate_left
      · (intro w hSw; (try dsimp only at hSw); go_simp; try with_reducible rfl)
      (try simp only [Act.put, List.setIfInBounds_toArray, List.set_cons_zero, List.set_cons_succ])
      refine wpAnyH_take (i := 30) (oi := ⟨some 71, _, _, _, _, _⟩) (v := ?_) rfl (by kernel_rfl) (by kernel_rfl) (by kernel_rfl) (fun _ _ _ h => h) (Or.inl ⟨by kernel_rfl, ?_⟩) (by assumption) ?_
      rotate_left
      · (intro w hSw; (try dsimp only at hSw); go_simp; try with_reducible rfl)
      (try simp only [Act.put, List.setIfInBounds_toArray, List.set_cons_zero, List.set_cons_succ])
      refine wpAnyH_take (i := 31) (oi := ⟨some 72, _, _, _, _, _⟩) (v := undef) rfl (by kernel_rfl) (by kernel_rfl) (by kernel_rfl) (fun _ _ _ h => h) (Or.inr ⟨by kernel_rfl, rfl⟩) (by assumption) ?_
      (try simp only [Act.put, List.setIfInBounds_toArray, List.set_cons_zero, List.set_cons_succ])
      refine wpAnyH_take (i := 32) (oi := ⟨some 73, _, _, _, _, _⟩) (v := undef) rfl (by kernel_rfl) (by kernel_rfl) (by kernel_rfl) (fun _ _ _ h => h) (Or.inr ⟨by kernel_rfl, rfl⟩) (by assumption) ?_
      (try simp only [Act.put, List.setIfInBounds_toArray, List.set_cons_zero, List.set_cons_succ])
      refine wpAnyH_take (i := 33) (oi := ⟨some 74, _, _, _, _, _⟩) (v := undef) rfl (by kernel_rfl) (by kernel_rfl) (by kernel_rfl) (fun _ _ _ h => h) (Or.inr ⟨by kernel_rfl, rfl⟩) (by assumption) ?_
      (try simp only [Act.put, List.setIfInBounds_toArray, List.set_cons_zero, List.set_cons_succ])
      refine wpAnyH_take (i := 34) (oi := ⟨some 75, _, _, _, _, _⟩) (v := undef) rfl (by kernel_rfl) (by kernel_rfl) (by kernel_rfl) (fun _ _ _ h => h) (Or.inr ⟨by kernel_rfl, rfl⟩) (by assumption) ?_
      (try simp only [Act.put, List.setIfInBounds_toArray, List.set_cons_zero, List.set_cons_succ])
      refine wpAnyH_take (i := 35) (oi := ⟨some 76, _, _, _, _, _⟩) (v := undef) rfl (by kernel_rfl) (by kernel_rfl) (by kernel_rfl) (fun _ _ _ h => h) (Or.inr ⟨by kernel_rfl, rfl⟩) (by assumption) ?_
      (try simp only [Act.put, List.setIfInBounds_toArray, List.set_cons_zero, List.set_cons_succ])
      refine wpAnyH_take (i := 36) (oi := ⟨some 77, _, _, _, _, _⟩) (v := undef) rfl (by kernel_rfl) (by kernel_rfl) (by kernel_rfl) (fun _ _ _ h => h) (Or.inr ⟨by kernel_rfl, rfl⟩) (by assumption) ?_
      (try simp only [Act.put, List.setIfInBounds_toArray, List.set_cons_zero, List.set_cons_succ])
      refine wpAnyH_take (i := 37) (oi := ⟨some 78, _, _, _, _, _⟩) (v := undef) rfl (by kernel_rfl) (by kernel_rfl) (by kernel_rfl) (fun _ _ _ h => h) (Or.inr ⟨by kernel_rfl, rfl⟩) (by assumption) ?_
      (try simp only [Act.put, List.setIfInBounds_toArray, List.set_cons_zero, List.set_cons_succ])
      refine wpAnyH_take (i := 38) (oi := ⟨some 79, _, _, _, _, _⟩) (v := undef) rfl (by kernel_rfl) (by kernel_rfl) (by kernel_rfl) (fun _ _ _ h => h) (Or.inr ⟨by kernel_rfl, rfl⟩) (by assumption) ?_
      (try simp only [Act.put, List.setIfInBounds_toArray, List.set_cons_zero, List.set_cons_succ])
      refine wpAnyH_take (i := 39) (oi := ⟨some 80, _, _, _, _, _⟩) (v := undef) rfl (by kernel_rfl) (by kernel_rfl) (by kernel_rfl) (fun _ _ _ h => h) (Or.inr ⟨by kernel_rfl, rfl⟩) (by assumption) ?_
      (try simp only [Act.put, List.setIfInBounds_toArray, List.set_cons_zero, List.set_cons_succ])
      refine wpAnyH_take (i := 40) (oi := ⟨some 81, _, _, _, _, _⟩) (v := undef) rfl (by kernel_rfl) (by kernel_rfl) (by kernel_rfl) (fun _ _ _ h => h) (Or.inr ⟨by kernel_rfl, rfl⟩) (by assumption) ?_
      (try simp only [Act.put, List.setIfInBounds_toArray, List.set_cons_zero, List.set_cons_succ])
      refine wpAnyH_take (i := 41) (oi := ⟨some 82, _, _, _, _, _⟩) (v := undef) rfl (by kernel_rfl) (by kernel_rfl) (by kernel_rfl) (fun _ _ _ h => h) (Or.inr ⟨by kernel_rfl, rfl⟩) (by assumption) ?_
      (try simp only [Act.put, List.setIfInBounds_toArray, List.set_cons_zero, List.set_cons_succ])
      refine wpAnyH_take (i := 42) (oi := ⟨some 83, _, _, _, _, _⟩) (v := undef) rfl (by kernel_rfl) (by kernel_rfl) (by kernel_rfl) (fun _ _ _ h => h) (Or.inr ⟨by kernel_rfl, rfl⟩) (by assumption) ?_
      (try simp only [Act.put, List.setIfInBounds_toArray, List.set_cons_zero, List.set_cons_succ])
      refine wpAnyH_take (i := 43) (oi := ⟨some 84, _, _, _, _, _⟩) (v := undef) rfl (by kernel_rfl) (by kernel_rfl) (by kernel_rfl) (fun _ _ _ h => h) (Or.inr ⟨by kernel_rfl, rfl⟩) (by assumption) ?_
      (try simp only [Act.put, List.setIfInBounds_toArray, List.set_cons_zero, List.set_cons_succ])
      refine wpAnyH_take (i := 44) (oi := ⟨some 85, _, _, _, _, _⟩) (v := undef) rfl (by kernel_rfl) (by kernel_rfl) (by kernel_rfl) (fun _ _ _ h => h) (Or.inr ⟨by kernel_rfl, rfl⟩) (by assumption) ?_
      (try simp only [Act.put, List.setIfInBounds_toArray, List.set_cons_zero, List.set_cons_succ])
      refine wpAnyH_take (i := 45) (oi := ⟨some 86, _, _, _, _, _⟩) (v := undef) rfl (by kernel_rfl) (by kernel_rfl) (by kernel_rfl) (fun _ _ _ h => h) (Or.inr ⟨by kernel_rfl, rfl⟩) (by assumption) ?_
      (try simp only [Act.put, List.setIfInBounds_toArray, List.set_cons_zero, List.set_cons_succ])
      refine wpAnyH_take (i := 46) (oi := ⟨some 87, _, _, _, _, _⟩) (v := undef) rfl (by kernel_rfl) (by kernel_rfl) (by kernel_rfl) (fun _ _ _ h => h) (Or.inr ⟨by kernel_rfl, rfl⟩) (by assumption) ?_
      (try simp only [Act.put, List.setIfInBounds_toArray, List.set_cons_zero, List.set_cons_succ])
      refine wpAnyH_take (i := 47) (oi := ⟨some 88, _, _, _, _, _⟩) (v := undef) rfl (by kernel_rfl) (by kernel_rfl) (by kernel_rfl) (fun _ _ _ h => h) (Or.inr ⟨by kernel_rfl, rfl⟩) (by assumption) ?_
      (try simp only [Act.put, List.setIfInBounds_toArray, List.set_cons_zero, List.set_cons_succ])
      refine wpAnyH_take (i := 48) (oi := ⟨some 89, _, _, _, _, _⟩) (v := undef) rfl (by kernel_rfl) (by kernel_rfl) (by kernel_rfl) (fun _ _ _ h => h) (Or.inr ⟨by kernel_rfl, rfl⟩) (by assumption) ?_
      (try simp only [Act.put, List.setIfInBounds_toArray, List.set_cons_zero, List.set_cons_succ])
      refine wpAnyH_take (i := 49) (oi := ⟨some 90, _, _, _, _, _⟩) (v := undef) rfl (by kernel_rfl) (by kernel_rfl) (by kernel_rfl) (fun _ _ _ h => h) (Or.inr ⟨by kernel_rfl, rfl⟩) (by assumption) ?_
      (try simp only [Act.put, List.setIfInBounds_toArray, List.set_cons_zero, List.set_cons_succ])
      refine wpAnyH_take (i := 50) (oi := ⟨some 91, _, _, _, _, _⟩) (v := undef) rfl (by kernel_rfl) (by kernel_rfl) (by kernel_rfl) (fun _ _ _ h => h) (Or.inr ⟨by kernel_rfl, rfl⟩) (by assumption) ?_
      (try simp only [Act.put, List.setIfInBounds_toArray, List.set_cons_zero, List.set_cons_succ])
      refine wpAnyH_take (i := 51) (oi := ⟨some 92, _, _, _, _, _⟩) (v := undef) rfl (by kernel_rfl) (by kernel_rfl) (by kernel_rfl) (fun _ _ _ h => h) (Or.inr ⟨by kernel_rfl, rfl⟩) (by assumption) ?_
      (try simp only [Act.put, List.setIfInBounds_toArray, List.set_cons_zero, List.set_cons_succ])
      refine wpAnyH_take (i := 52) (oi := ⟨some 93, _, _, _, _, _⟩) (v := undef) rfl (by kernel_rfl) (by kernel_rfl) (by kernel_rfl) (fun _ _ _ h => h) (Or.inr ⟨by kernel_rfl, rfl⟩) (by assumption) ?_
      (try simp only [Act.put, List.setIfInBounds_toArray, List.set_cons_zero, List.set_cons_succ])
      refine wpAnyH_take (i := 53) (oi := ⟨some 94, _, _, _, _, _⟩) (v := ?_) rfl (by kernel_rfl) (by kernel_rfl) (by kernel_rfl) (fun _ _ _ h => h) (Or.inl ⟨by kernel_rfl, ?_⟩) (by assumption) ?_
      rotate_left
      · (intro w hSw; (try dsimp only at hSw); go_simp; try with_reducible rfl)
      (try simp only [Act.put, List.setIfInBounds_toArray, List.set_cons_zero, List.set_cons_succ])
      refine wpAnyH_take (i := 54) (oi := ⟨some 95, _, _, _, _, _⟩) (v := ?_) rfl (by kernel_rfl) (by kernel_rfl) (by kernel_rfl) (fun _ _ _ h => h) (Or.inl ⟨by kernel_rfl, ?_⟩) (by assumption) ?_
      rotate_left
      · (intro w hSw; (try dsimp only at hSw); go_simp; try with_reducible rfl)
      (try simp only [Act.put, List.setIfInBounds_toArray, List.set_cons_zero, List.set_cons_succ])
      refine wpAnyH_done (by kernel_rfl) ?_ _
      go_wp2_with fail
      go_meet
      case rel => exact ⟨by first | rfl | simp, J2.out⟩
    · as_aux_lemma =>
      have e0 : (rkey != 0) = true := by simp [hz]
      have TQ := TRr'.out hz
      have TRq : Hid _ := TQ
      have TQ' := TRn.out hz
      have TRm : Hid _ := TQ'
      have f1 : ∀ (v : Value) (W : World), (Instr.field 49 (.agg #[.int .i64 rkey, v, .int .i64 rsk, .int .i64 rse, .int .i64 rss, .int .i64 0]) 1).run Tryz.prog W = .ok (.int .i64 0) W := fun v W => by kernel_rfl
      have f0 : ∀ (v : Value) (W : World), (Instr.field 49 (.agg #[.int .i64 rkey, v, .int .i64 rsk, .int .i64 rse, .int .i64 rss, .int .i64 0]) 0).run Tryz.prog W = .ok (.agg #[.int .i64 rkey, v, .int .i64 rsk, .int .i64 rse, .int .i64 rss]) W := fun v W => by kernel_rfl
      have f2 : ∀ (v : Value) (W : World), (Instr.field 44 (.agg #[.int .i64 rkey, v, .int .i64 rsk, .int .i64 rse, .int .i64 rss]) 2).run Tryz.prog W = .ok (.agg #[.int .i64 rsk, .int .i64 rse, .int .i64 rss]) W := fun v W => by kernel_rfl
      have f3 : ∀ (v : Value) (W : World), (Instr.field 44 (.agg #[.int .i64 rkey, v, .int .i64 rsk, .int .i64 rse, .int .i64 rss]) 1).run Tryz.prog W = .ok v W := fun v W => by kernel_rfl
      clear TQ TQ' TRr' TRn
      have J0 : Hid (Below w8.heap.size w8 w8.drew) := (Below.refl _ _).drew
      refine wp_region_held_drew (S := fun V => ((V.cell? ⟨w3.heap.size, 0, none⟩ = some (.int .i64 rkey) ∧ V.cell? ⟨w3.heap.size, 1, none⟩ = some (.slice ra rl rc) ∧ V.cell? ⟨w3.heap.size, 2, none⟩ = some (.int .i64 rsk) ∧ V.cell? ⟨w3.heap.size, 3, none⟩ = some (.int .i64 rse) ∧ V.cell? ⟨w3.heap.size, 4, none⟩ = some (.int .i64 rss)) ∧ (V.cell? ⟨w7.heap.size, 0, none⟩ = some (.int .i64 rkey) ∧ V.cell? ⟨w7.heap.size, 1, none⟩ = some (.slice sa rl sc) ∧ V.cell? ⟨w7.heap.size, 2, none⟩ = some (.int .i64 rsk) ∧ V.cell? ⟨w7.heap.size, 3, none⟩ = some (.int .i64 rse) ∧ V.cell? ⟨w7.heap.size, 4, none⟩ = some (.int .i64 rss)))) (by kernel_rfl) ?_ (fun hHeld => ?_)
      · exact HX.out _ J0.out
      refine wpAnyH_take (i := 0) (oi := ⟨some 41, _, _, _, _, _⟩) (v := ?_) rfl (by kernel_rfl) (by kernel_rfl) (by kernel_rfl) (fun _ _ _ h => h) (Or.inl ⟨by kernel_rfl, ?_⟩) (by assumption) ?_
      rotate_left
      · (intro w hSw; (try dsimp only at hSw); go_simp; try with_reducible rfl)
      (try simp only [Act.put, List.setIfInBounds_toArray, List.set_cons_zero, List.set_cons_succ])
      refine wpAnyH_take (i := 1) (oi := ⟨some 42, _, _, _, _, _⟩) (v := ?_) rfl (by kernel_rfl) (by kernel_rfl) (by kernel_rfl) (fun _ _ _ h => h) (Or.inl ⟨by kernel_rfl, ?_⟩) (by assumption) ?_
      rotate_left
      · (intro w hSw; (try dsimp only at hSw); go_simp; try with_reducible rfl)
      (try simp only [Act.put, List.setIfInBounds_toArray, List.set_cons_zero, List.set_cons_succ])
      refine wpAnyH_take (i := 2) (oi := ⟨some 43, _, _, _, _, _⟩) (v := ?_) rfl (by kernel_rfl) (by kernel_rfl) (by kernel_rfl) (fun _ _ _ h => h) (Or.inl ⟨by kernel_rfl, ?_⟩) (by assumption) ?_
      rotate_left
      · (intro w hSw; (try dsimp only at hSw); go_simp; try with_reducible rfl)
      (try simp only [Act.put, List.setIfInBounds_toArray, List.set_cons_zero, List.set_cons_succ])
      refine wpAnyH_take (i := 3) (oi := ⟨some 44, _, _, _, _, _⟩) (v := ?_) rfl (by kernel_rfl) (by kernel_rfl) (by kernel_rfl) (fun _ _ _ h => h) (Or.inl ⟨by kernel_rfl, ?_⟩) (by assumption) ?_
      rotate_left
      · (intro w hSw; (try dsimp only at hSw); go_simp; try with_reducible rfl)
      (try simp only [Act.put, List.setIfInBounds_toArray, List.set_cons_zero, List.set_cons_succ])
      refine wpAnyH_take (i := 4) (oi := ⟨some 45, _, _, _, _, _⟩) (v := ?_) rfl (by kernel_rfl) (by kernel_rfl) (by kernel_rfl) (fun _ _ _ h => h) (Or.inl ⟨by kernel_rfl, ?_⟩) (by assumption) ?_
      rotate_left
      · (intro w hSw; (try dsimp only at hSw); go_simp; try with_reducible rfl)
      (try simp only [Act.put, List.setIfInBounds_toArray, List.set_cons_zero, List.set_cons_succ])
      refine wpAnyH_take (i := 5) (oi := ⟨some 46, _, _, _, _, _⟩) (v := ?_) rfl (by kernel_rfl) (by kernel_rfl) (by kernel_rfl) (fun _ _ _ h => h) (Or.inl ⟨by kernel_rfl, ?_⟩) (by assumption) ?_
      rotate_left
      · (intro w hSw; (try dsimp only at hSw); go_simp; try with_reducible rfl)
      (try simp only [Act.put, List.setIfInBounds_toArray, List.set_cons_zero, List.set_cons_succ])
      refine wpAnyH_take (i := 6) (oi := ⟨some 47, _, _, _, _, _⟩) (v := ?_) rfl (by kernel_rfl) (by kernel_rfl) (by kernel_rfl) (fun _ _ _ h => h) (Or.inl ⟨by kernel_rfl, ?_⟩) (by assumption) ?_
      rotate_left
      · (intro w hSw; (try dsimp only at hSw); go_simp; try with_reducible rfl)
      (try simp only [Act.put, List.setIfInBounds_toArray, List.set_cons_zero, List.set_cons_succ])
      refine wpAnyH_take (i := 7) (oi := ⟨some 48, _, _, _, _, _⟩) (v := ?_) rfl (by kernel_rfl) (by kernel_rfl) (by kernel_rfl) (fun _ _ _ h => h) (Or.inl ⟨by kernel_rfl, ?_⟩) (by assumption) ?_
      rotate_left
      · (intro w hSw; (try dsimp only at hSw); go_simp; try with_reducible rfl)
      (try simp only [Act.put, List.setIfInBounds_toArray, List.set_cons_zero, List.set_cons_succ])
      refine wpAnyH_take (i := 8) (oi := ⟨some 49, _, _, _, _, _⟩) (v := ?_) rfl (by kernel_rfl) (by kernel_rfl) (by kernel_rfl) (fun _ _ _ h => h) (Or.inl ⟨by kernel_rfl, ?_⟩) (by assumption) ?_
      rotate_left
      · (intro w hSw; (try dsimp only at hSw); go_simp; try with_reducible rfl)
      (try simp only [Act.put, List.setIfInBounds_toArray, List.set_cons_zero, List.set_cons_succ])
      refine wpAnyH_take (i := 9) (oi := ⟨some 50, _, _, _, _, _⟩) (v := ?_) rfl (by kernel_rfl) (by kernel_rfl) (by kernel_rfl) (fun _ _ _ h => h) (Or.inl ⟨by kernel_rfl, ?_⟩) (by assumption) ?_
      rotate_left
      · (intro w hSw; (try dsimp only at hSw); go_simp; try with_reducible rfl)
      (try simp only [Act.put, List.setIfInBounds_toArray, List.set_cons_zero, List.set_cons_succ])
      refine wpAnyH_take (i := 10) (oi := ⟨some 51, _, _, _, _, _⟩) (v := ?_) rfl (by kernel_rfl) (by kernel_rfl) (by kernel_rfl) (fun _ _ _ h => h) (Or.inl ⟨by kernel_rfl, ?_⟩) (by assumption) ?_
      rotate_left
      · (intro w hSw; (try dsimp only at hSw); go_simp; try with_reducible rfl)
      (try simp only [Act.put, List.setIfInBounds_toArray, List.set_cons_zero, List.set_cons_succ])
      refine wpAnyH_take (i := 11) (oi := ⟨some 52, _, _, _, _, _⟩) (v := ?_) rfl (by kernel_rfl) (by kernel_rfl) (by kernel_rfl) (fun _ _ _ h => h) (Or.inl ⟨by kernel_rfl, ?_⟩) (by assumption) ?_
      rotate_left
      · (intro w hSw; (try dsimp only at hSw); go_simp; try with_reducible rfl)
      (try simp only [Act.put, List.setIfInBounds_toArray, List.set_cons_zero, List.set_cons_succ])
      refine wpAnyH_take (i := 12) (oi := ⟨some 53, _, _, _, _, _⟩) (v := ?_) rfl (by kernel_rfl) (by kernel_rfl) (by kernel_rfl) (fun _ _ _ h => h) (Or.inl ⟨by kernel_rfl, ?_⟩) (by assumption) ?_
      rotate_left
      · (intro w hSw; (try dsimp only at hSw); go_simp; try with_reducible rfl)
      (try simp only [Act.put, List.setIfInBounds_toArray, List.set_cons_zero, List.set_cons_succ])
      refine wpAnyH_take (i := 13) (oi := ⟨some 54, _, _, _, _, _⟩) (v := ?_) rfl (by kernel_rfl) (by kernel_rfl) (by kernel_rfl) (fun _ _ _ h => h) (Or.inl ⟨by kernel_rfl, ?_⟩) (by assumption) ?_
      rotate_left
      · (intro w hSw; (try dsimp only at hSw); go_simp; try with_reducible rfl)
      (try simp only [Act.put, List.setIfInBounds_toArray, List.set_cons_zero, List.set_cons_succ])
      refine wpAnyH_take (i := 14) (oi := ⟨some 55, _, _, _, _, _⟩) (v := ?_) rfl (by kernel_rfl) (by kernel_rfl) (by kernel_rfl) (fun _ _ _ h => h) (Or.inl ⟨by kernel_rfl, ?_⟩) (by assumption) ?_
      rotate_left
      · (intro w hSw; (try dsimp only at hSw); go_simp; try with_reducible rfl)
      (try simp only [Act.put, List.setIfInBounds_toArray, List.set_cons_zero, List.set_cons_succ])
      refine wpAnyH_take (i := 15) (oi := ⟨some 56, _, _, _, _, _⟩) (v := ?_) rfl (by kernel_rfl) (by kernel_rfl) (by kernel_rfl) (fun _ _ _ h => h) (Or.inl ⟨by kernel_rfl, ?_⟩) (by assumption) ?_
      rotate_left
      · (intro w hSw; (try dsimp only at hSw); go_simp; try with_reducible rfl)
      (try simp only [Act.put, List.setIfInBounds_toArray, List.set_cons_zero, List.set_cons_succ])
      refine wpAnyH_take (i := 16) (oi := ⟨some 57, _, _, _, _, _⟩) (v := ?_) rfl (by kernel_rfl) (by kernel_rfl) (by kernel_rfl) (fun _ _ _ h => h) (Or.inl ⟨by kernel_rfl, ?_⟩) (by assumption) ?_
      rotate_left
      · (intro w hSw; (try dsimp only at hSw); go_simp; try with_reducible rfl)
      (try simp only [Act.put, List.setIfInBounds_toArray, List.set_cons_zero, List.set_cons_succ])
      refine wpAnyH_ready (rs := [17]) (by kernel_rfl) (by simp) ?_
      refine AllReadyH.cons (o := ⟨some 58, _, _, _, _, _⟩) rfl (fun K hK => ?_) AllReadyH.nil
      go_simp
      refine (TRl.out _ ra sa rc sc (HW.out _ J0.out).2.2.1 (HW.out _ J0.out).2.2.2).mono ?_
      rintro e' W1 ⟨rfl, bb1⟩
      have J1 : Hid (Below w8.heap.size w8 W1) := J0.out.trans (bb1.mono J0.out.size)
      refine hK.out _ _ ?_ (fun hHeld => ?_)
      · exact HX.out _ J1.out
      clear hK K bb1
      (try simp only [Act.put, List.setIfInBounds_toArray, List.set_cons_zero, List.set_cons_succ])
      refine wpAnyH_take (i := 18) (oi := ⟨some 59, _, _, _, _, _⟩) (v := ?_) rfl (by kernel_rfl) (by kernel_rfl) (by kernel_rfl) (fun _ _ _ h => h) (Or.inl ⟨by kernel_rfl, ?_⟩) (by assumption) ?_
      rotate_left
      · (intro w hSw; (try dsimp only at hSw); go_simp; try with_reducible rfl)
      (try simp only [Act.put, List.setIfInBounds_toArray, List.set_cons_zero, List.set_cons_succ])
      refine wpAnyH_take (i := 19) (oi := ⟨some 60, _, _, _, _, _⟩) (v := ?_) rfl (by kernel_rfl) (by kernel_rfl) (by kernel_rfl) (fun _ _ _ h => h) (Or.inl ⟨by kernel_rfl, ?_⟩) (by assumption) ?_
      rotate_left
      · (intro w hSw; (try dsimp only at hSw); go_simp; try with_reducible rfl)
      (try simp only [Act.put, List.setIfInBounds_toArray, List.set_cons_zero, List.set_cons_succ])
      refine wpAnyH_take (i := 20) (oi := ⟨some 61, _, _, _, _, _⟩) (v := ?_) rfl (by kernel_rfl) (by kernel_rfl) (by kernel_rfl) (fun _ _ _ h => h) (Or.inl ⟨by kernel_rfl, ?_⟩) (by assumption) ?_
      rotate_left
      · (intro w hSw; (try dsimp only at hSw); go_simp; try with_reducible rfl)
      (try simp only [Act.put, List.setIfInBounds_toArray, List.set_cons_zero, List.set_cons_succ])
      refine wpAnyH_take (i := 21) (oi := ⟨some 62, _, _, _, _, _⟩) (v := ?_) rfl (by kernel_rfl) (by kernel_rfl) (by kernel_rfl) (fun _ _ _ h => h) (Or.inl ⟨by kernel_rfl, ?_⟩) (by assumption) ?_
      rotate_left
      · (intro w hSw; (try dsimp only at hSw); go_simp; try with_reducible rfl)
      (try simp only [Act.put, List.setIfInBounds_toArray, List.set_cons_zero, List.set_cons_succ])
      refine wpAnyH_take (i := 22) (oi := ⟨some 63, _, _, _, _, _⟩) (v := ?_) rfl (by kernel_rfl) (by kernel_rfl) (by kernel_rfl) (fun _ _ _ h => h) (Or.inl ⟨by kernel_rfl, ?_⟩) (by assumption) ?_
      rotate_left
      · (intro w hSw; (try dsimp only at hSw); go_simp; try with_reducible rfl)
      (try simp only [Act.put, List.setIfInBounds_toArray, List.set_cons_zero, List.set_cons_succ])
      refine wpAnyH_ready (rs := [23]) (by kernel_rfl) (by simp) ?_
      refine AllReadyH.cons (o := ⟨some 64, _, _, _, _, _⟩) rfl (fun K hK => ?_) AllReadyH.nil
      go_simp
      refine (TRc.out _ ra rc (HW.out _ J1.out).2.2.1).mono ?_
      rintro e' W2 ⟨rfl, bb2⟩
      have J2 : Hid (Below w8.heap.size w8 W2) := J1.out.trans (bb2.mono J1.out.size)
      refine hK.out _ _ ?_ (fun hHeld => ?_)
      · exact HX.out _ J2.out
      clear hK K bb2
      (try simp only [Act.put, List.setIfInBounds_toArray, List.set_cons_zero, List.set_cons_succ])
      refine wpAnyH_take (i := 24) (oi := ⟨some 65, _, _, _, _, _⟩) (v := ?_) rfl (by kernel_rfl) (by kernel_rfl) (by kernel_rfl) (fun _ _ _ h => h) (Or.inl ⟨by kernel_rfl, ?_⟩) (by assumption) ?_
      rotate_left
      · (intro w hSw; (try dsimp only at hSw); go_simp; try with_reducible rfl)
      (try simp only [Act.put, List.setIfInBounds_toArray, List.set_cons_zero, List.set_cons_succ])
      refine wpAnyH_take (i := 25) (oi := ⟨some 66, _, _, _, _, _⟩) (v := ?_) rfl (by kernel_rfl) (by kernel_rfl) (by kernel_rfl) (fun _ _ _ h => h) (Or.inl ⟨by kernel_rfl, ?_⟩) (by assumption) ?_
      rotate_left
      · (intro w hSw; (try dsimp only at hSw); go_simp; try with_reducible rfl)
      (try simp only [Act.put, List.setIfInBounds_toArray, List.set_cons_zero, List.set_cons_succ])
      refine wpAnyH_take (i := 26) (oi := ⟨some 67, _, _, _, _, _⟩) (v := ?_) rfl (by kernel_rfl) (by kernel_rfl) (by kernel_rfl) (fun _ _ _ h => h) (Or.inl ⟨by kernel_rfl, ?_⟩) (by assumption) ?_
      rotate_left
      · (intro w hSw; (try dsimp only at hSw); go_simp; try with_reducible rfl)
      (try simp only [Act.put, List.setIfInBounds_toArray, List.set_cons_zero, List.set_cons_succ])
      refine wpAnyH_take (i := 27) (oi := ⟨some 68, _, _, _, _, _⟩) (v := ?_) rfl (by kernel_rfl) (by kernel_rfl) (by kernel_rfl) (fun _ _ _ h => h) (Or.inl ⟨by kernel_rfl, ?_⟩) (by assumption) ?_
      rotate_left
      · (intro w hSw; (try dsimp only at hSw); go_simp; try with_reducible rfl)
      (try simp only [Act.put, List.setIfInBounds_toArray, List.set_cons_zero, List.set_cons_succ])
      refine wpAnyH_take (i := 28) (oi := ⟨some 69, _, _, _, _, _⟩) (v := ?_) rfl (by kernel_rfl) (by kernel_rfl) (by kernel_rfl) (fun _ _ _ h => h) (Or.inl ⟨by kernel_rfl, ?_⟩) (by assumption) ?_
      rotate_left
      · (intro w hSw; (try dsimp only at hSw); go_simp; try with_reducible rfl)
      (try simp only [Act.put, List.setIfInBounds_toArray, List.set_cons_zero, List.set_cons_succ])
      refine wpAnyH_take (i := 29) (oi := ⟨some 70, _, _, _, _, _⟩) (v := ?_) rfl (by kernel_rfl) (by kernel_rfl) (by kernel_rfl) (fun _ _ _ h => h) (Or.inl ⟨by kernel_rfl, ?_⟩) (by assumption) ?_
      rotate_left
      · (intro w hSw; (try dsimp only at hSw); go_simp; try with_reducible rfl)
      (try simp only [Act.put, List.setIfInBounds_toArray, List.set_cons_zero, List.set_cons_succ])
      refine wpAnyH_take (i := 30) (oi := ⟨some 71, _, _, _, _, _⟩) (v := ?_) rfl (by kernel_rfl) (by kernel_rfl) (by kernel_rfl) (fun _ _ _ h => h) (Or.inl ⟨by kernel_rfl, ?_⟩) (by assumption) ?_
      rotate_left
      · (intro w hSw; (try dsimp only at hSw); go_simp; try with_reducible rfl)
      (try simp only [Act.put, List.setIfInBounds_toArray, List.set_cons_zero, List.set_cons_succ])
      refine wpAnyH_take (i := 31) (oi := ⟨some 72, _, _, _, _, _⟩) (v := ?_) rfl (by kernel_rfl) (by kernel_rfl) (by kernel_rfl) (fun _ _ _ h => h) (Or.inl ⟨by kernel_rfl, ?_⟩) (by assumption) ?_
      rotate_left
      · (intro w hSw; (try dsimp only at hSw); go_simp; try with_reducible rfl)
      (try simp only [Act.put, List.setIfInBounds_toArray, List.set_cons_zero, List.set_cons_succ])
      refine wpAnyH_ready (rs := [32]) (by kernel_rfl) (by simp) ?_
      refine AllReadyH.cons (o := ⟨some 73, _, _, _, _, _⟩) rfl (fun K hK => ?_) AllReadyH.nil
      go_simp
      refine (TRq.out _ (HKE.out _ (HW.out _ J2.out).1).1 (HKE.out _ (HW.out _ J2.out).1).2.1 (HKE.out _ (HW.out _ J2.out).1).2.2.1).mono ?_
      rintro e' W3 ⟨a3, c3, rfl, i3, bb3⟩
      have J3 : Hid (Below w8.heap.size w8 W3) := J2.out.trans (bb3.mono J2.out.size)
      refine hK.out _ _ ?_ (fun hHeld => ?_)
      · exact HX.out _ J3.out
      clear hK K bb3
      (try simp only [Act.put, List.setIfInBounds_toArray, List.set_cons_zero, List.set_cons_succ])
      refine wpAnyH_take (i := 33) (oi := ⟨some 74, _, _, _, _, _⟩) (v := ?_) rfl (by kernel_rfl) (by kernel_rfl) (by kernel_rfl) (fun _ _ _ h => h) (Or.inl ⟨by kernel_rfl, ?_⟩) (by assumption) ?_
      rotate_left
      · (intro w hSw; (try dsimp only at hSw); go_simp; try with_reducible rfl)
      (try simp only [Act.put, List.setIfInBounds_toArray, List.set_cons_zero, List.set_cons_succ])
      refine wpAnyH_take (i := 34) (oi := ⟨some 75, _, _, _, _, _⟩) (v := ?_) rfl (by kernel_rfl) (by kernel_rfl) (by kernel_rfl) (fun _ _ _ h => h) (Or.inl ⟨by kernel_rfl, ?_⟩) (by assumption) ?_
      rotate_left
      · (intro w hSw; (try dsimp only at hSw); go_simp; try with_reducible rfl)
      (try simp only [Act.put, List.setIfInBounds_toArray, List.set_cons_zero, List.set_cons_succ])
      refine wpAnyH_take (i := 35) (oi := ⟨some 76, _, _, _, _, _⟩) (v := ?_) rfl (by kernel_rfl) (by kernel_rfl) (by kernel_rfl) (fun _ _ _ h => h) (Or.inl ⟨by kernel_rfl, ?_⟩) (by assumption) ?_
      rotate_left
      · (intro w hSw; (try dsimp only at hSw); go_simp; try with_reducible rfl)
      (try simp only [Act.put, List.setIfInBounds_toArray, List.set_cons_zero, List.set_cons_succ])
      refine wpAnyH_take (i := 36) (oi := ⟨some 77, _, _, _, _, _⟩) (v := ?_) rfl (by kernel_rfl) (by kernel_rfl) (by kernel_rfl) (fun _ _ _ h => h) (Or.inl ⟨by kernel_rfl, ?_⟩) (by assumption) ?_
      rotate_left
      · (intro w hSw; (try dsimp only at hSw); go_simp; try with_reducible rfl)
      (try simp only [Act.put, List.setIfInBounds_toArray, List.set_cons_zero, List.set_cons_succ])
      refine wpAnyH_take (i := 40) (oi := ⟨some 81, _, _, _, _, _⟩) (v := ?_) rfl (by kernel_rfl) (by kernel_rfl) (by kernel_rfl) (fun _ _ _ h => h) (Or.inl ⟨by kernel_rfl, ?_⟩) (by assumption) ?_
      rotate_left
      · (intro w hSw; (try dsimp only at hSw); go_simp; try with_reducible rfl)
      (try simp only [Act.put, List.setIfInBounds_toArray, List.set_cons_zero, List.set_cons_succ])
      refine wpAnyH_take (i := 41) (oi := ⟨some 82, _, _, _, _, _⟩) (v := ?_) rfl (by kernel_rfl) (by kernel_rfl) (by kernel_rfl) (fun _ _ _ h => h) (Or.inl ⟨by kernel_rfl, ?_⟩) (by assumption) ?_
      rotate_left
      · (intro w hSw; (try dsimp only at hSw); go_simp; try with_reducible rfl)
      (try simp only [Act.put, List.setIfInBounds_toArray, List.set_cons_zero, List.set_cons_succ])
      refine wpAnyH_ready (rs := [37]) (by kernel_rfl) (by simp) ?_
      refine AllReadyH.cons (o := ⟨some 78, _, _, _, _, _⟩) rfl (fun K hK => ?_) AllReadyH.nil
      go_simp
      refine (TRq.out _ (HKE.out _ (HW.out _ J3.out).1).1 (HKE.out _ (HW.out _ J3.out).1).2.1 (HKE.out _ (HW.out _ J3.out).1).2.2.1).mono ?_
      rintro e' W4 ⟨a4, c4, rfl, i4, bb4⟩
      have J4 : Hid (Below w8.heap.size w8 W4) := J3.out.trans (bb4.mono J3.out.size)
      refine hK.out _ _ ?_ (fun hHeld => ?_)
      · exact HX.out _ J4.out
      clear hK K bb4
      (try simp only [Act.put, List.setIfInBounds_toArray, List.set_cons_zero, List.set_cons_succ])
      refine wpAnyH_take (i := 38) (oi := ⟨some 79, _, _, _, _, _⟩) (v := ?_) rfl (by kernel_rfl) (by kernel_rfl) (by kernel_rfl) (fun _ _ _ h => h) (Or.inl ⟨by kernel_rfl, ?_⟩) (by assumption) ?_
      rotate_left
      · (intro w hSw; (try dsimp only at hSw); go_simp; try with_reducible rfl)
      (try simp only [Act.put, List.setIfInBounds_toArray, List.set_cons_zero, List.set_cons_succ])
      refine wpAnyH_take (i := 39) (oi := ⟨some 80, _, _, _, _, _⟩) (v := ?_) rfl (by kernel_rfl) (by kernel_rfl) (by kernel_rfl) (fun _ _ _ h => h) (Or.inl ⟨by kernel_rfl, ?_⟩) (by assumption) ?_
      rotate_left
      · (intro w hSw; (try dsimp only at hSw); go_simp; try with_reducible rfl)
      (try simp only [Act.put, List.setIfInBounds_toArray, List.set_cons_zero, List.set_cons_succ])
      refine wpAnyH_take (i := 42) (oi := ⟨some 83, _, _, _, _, _⟩) (v := ?_) rfl (by kernel_rfl) (by kernel_rfl) (by kernel_rfl) (fun _ _ _ h => h) (Or.inl ⟨by kernel_rfl, ?_⟩) (by assumption) ?_
      rotate_left
      · (intro w hSw; (try dsimp only at hSw); go_simp; try with_reducible rfl)
      (try simp only [Act.put, List.setIfInBounds_toArray, List.set_cons_zero, List.set_cons_succ])
      refine wpAnyH_take (i := 43) (oi := ⟨some 84, _, _, _, _, _⟩) (v := ?_) rfl (by kernel_rfl) (by kernel_rfl) (by kernel_rfl) (fun _ _ _ h => h) (Or.inl ⟨by kernel_rfl, ?_⟩) (by assumption) ?_
      rotate_left
      · (intro w hSw; (try dsimp only at hSw); go_simp; try with_reducible rfl)
      (try simp only [Act.put, List.setIfInBounds_toArray, List.set_cons_zero, List.set_cons_succ])
      refine wpAnyH_take (i := 44) (oi := ⟨some 85, _, _, _, _, _⟩) (v := ?_) rfl (by kernel_rfl) (by kernel_rfl) (by kernel_rfl) (fun _ _ _ h => h) (Or.inl ⟨by kernel_rfl, ?_⟩) (by assumption) ?_
      rotate_left
      · (intro w hSw; (try dsimp only at hSw); go_simp; try with_reducible rfl)
      (try simp only [Act.put, List.setIfInBounds_toArray, List.set_cons_zero, List.set_cons_succ])
      refine wpAnyH_take (i := 45) (oi := ⟨some 86, _, _, _, _, _⟩) (v := ?_) rfl (by kernel_rfl) (by kernel_rfl) (by kernel_rfl) (fun _ _ _ h => h) (Or.inl ⟨by kernel_rfl, ?_⟩) (by assumption) ?_
      rotate_left
      · (intro w hSw; (try dsimp only at hSw); go_simp; try with_reducible rfl)
      (try simp only [Act.put, List.setIfInBounds_toArray, List.set_cons_zero, List.set_cons_succ])
      refine wpAnyH_take (i := 49) (oi := ⟨some 90, _, _, _, _, _⟩) (v := ?_) rfl (by kernel_rfl) (by kernel_rfl) (by kernel_rfl) (fun _ _ _ h => h) (Or.inl ⟨by kernel_rfl, ?_⟩) (by assumption) ?_
      rotate_left
      · (intro w hSw; (try dsimp only at hSw); go_simp; try with_reducible rfl)
      (try simp only [Act.put, List.setIfInBounds_toArray, List.set_cons_zero, List.set_cons_succ])
      refine wpAnyH_ready (rs := [46]) (by kernel_rfl) (by simp) ?_
      refine AllReadyH.cons (o := ⟨some 87, _, _, _, _, _⟩) rfl (fun K hK => ?_) AllReadyH.nil
      go_simp
      refine (TRq.out _ (HKE.out _ (HW.out _ J4.out).1).1 (HKE.out _ (HW.out _ J4.out).1).2.1 (HKE.out _ (HW.out _ J4.out).1).2.2.1).mono ?_
      rintro e' W5 ⟨a5, c5, rfl, i5, bb5⟩
      have J5 : Hid (Below w8.heap.size w8 W5) := J4.out.trans (bb5.mono J4.out.size)
      refine hK.out _ _ ?_ (fun hHeld => ?_)
      · exact HX.out _ J5.out
      clear hK K bb5
      (try simp only [Act.put, List.setIfInBounds_toArray, List.set_cons_zero, List.set_cons_succ])
      refine wpAnyH_take (i := 47) (oi := ⟨some 88, _, _, _, _, _⟩) (v := ?_) rfl (by kernel_rfl) (by kernel_rfl) (by kernel_rfl) (fun _ _ _ h => h) (Or.inl ⟨by kernel_rfl, ?_⟩) (by assumption) ?_
      rotate_left
      · (intro w hSw; (try dsimp only at hSw); go_simp; try with_reducible rfl)
      (try simp only [Act.put, List.setIfInBounds_toArray, List.set_cons_zero, List.set_cons_succ])
      refine wpAnyH_take (i := 48) (oi := ⟨some 89, _, _, _, _, _⟩) (v := ?_) rfl (by kernel_rfl) (by kernel_rfl) (by kernel_rfl) (fun _ _ _ h => h) (Or.inl ⟨by kernel_rfl, ?_⟩) (by assumption) ?_
      rotate_left
      · (intro w hSw; (try dsimp only at hSw); go_simp; try with_reducible rfl)
      (try simp only [Act.put, List.setIfInBounds_toArray, List.set_cons_zero, List.set_cons_succ])
      refine wpAnyH_ready (rs := [50]) (by kernel_rfl) (by simp) ?_
      refine AllReadyH.cons (o := ⟨some 91, _, _, _, _, _⟩) rfl (fun K hK => ?_) AllReadyH.nil
      go_simp
      refine (TRm.out _ a5 _ c5 ac i5 (HW.out _ J5.out).2.1).mono ?_
      rintro e' W6 ⟨rfl, bb6⟩
      have J6 : Hid (Below w8.heap.size w8 W6) := J5.out.trans (bb6.mono J5.out.size)
      refine hK.out _ _ ?_ (fun hHeld => ?_)
      · exact HX.out _ J6.out
      clear hK K bb6
      (try simp only [Act.put, List.setIfInBounds_toArray, List.set_cons_zero, List.set_cons_succ])
      refine wpAnyH_take (i := 51) (oi := ⟨some 92, _, _, _, _, _⟩) (v := ?_) rfl (by kernel_rfl) (by kernel_rfl) (by kernel_rfl) (fun _ _ _ h => h) (Or.inl ⟨by kernel_rfl, ?_⟩) (by assumption) ?_
      rotate_left
      · (intro w hSw; (try dsimp only at hSw); go_simp; try with_reducible rfl)
      (try simp only [Act.put, List.setIfInBounds_toArray, List.set_cons_zero, List.set_cons_succ])
      refine wpAnyH_take (i := 52) (oi := ⟨some 93, _, _, _, _, _⟩) (v := ?_) rfl (by kernel_rfl) (by kernel_rfl) (by kernel_rfl) (fun _ _ _ h => h) (Or.inl ⟨by kernel_rfl, ?_⟩) (by assumption) ?_
      rotate_left
      · (intro w hSw; (try dsimp only at hSw); go_simp; try with_reducible rfl)
      (try simp only [Act.put, List.setIfInBounds_toArray, List.set_cons_zero, List.set_cons_succ])
      refine wpAnyH_take (i := 53) (oi := ⟨some 94, _, _, _, _, _⟩) (v := ?_) rfl (by kernel_rfl) (by kernel_rfl) (by kernel_rfl) (fun _ _ _ h => h) (Or.inl ⟨by kernel_rfl, ?_⟩) (by assumption) ?_
      rotate_left
      · (intro w hSw; (try dsimp only at hSw); go_simp; try with_reducible rfl)
      (try simp only [Act.put, List.setIfInBounds_toArray, List.set_cons_zero, List.set_cons_succ])
      refine wpAnyH_take (i := 54) (oi := ⟨some 95, _, _, _, _, _⟩) (v := ?_) rfl (by kernel_rfl) (by kernel_rfl) (by kernel_rfl) (fun _ _ _ h => h) (Or.inl ⟨by kernel_rfl, ?_⟩) (by assumption) ?_
      rotate_left
      · (intro w hSw; (try dsimp only at hSw); go_simp; try with_reducible rfl)
      (try simp only [Act.put, List.setIfInBounds_toArray, List.set_cons_zero, List.set_cons_succ])
      refine wpAnyH_done (by kernel_rfl) ?_ _
      go_wp2_with fail
      go_meet
      case rel => exact ⟨by first | rfl | simp, J6.out⟩
  case rest =>
  obtain ⟨rfl, hcut⟩ := hcut
  have B9 : Hid (Below w.heap.size w wc) := (HW.out _ hcut).1
  clear hcut HX HW TRc TRl TRr' TRn HNl HRl
  go_wp2_with fail
  refine (drawCrlSign a0 len0 cap0 _ (by omega) (HC0.out _ B9.out) (HB0.out _ B9.out)).mono ?_
  rintro e' y1 ⟨⟨x2, ciss, cfr, ctill, cser, csk, cse, css, va, nk, vc, rfl, hx2, hnk, ho2, hm2⟩, hb10⟩
  obtain ⟨y2, hy2⟩ : ∃ y, y = y1.alloc (.cells [Value.string ciss, .int .i64 cfr, .int .i64 ctill, .slice va nk vc, .int .i64 csk, .int .i64 cse, .int .i64 css].toArray 53 (0, 0)) := ⟨_, rfl⟩
  have by2 : Below y1.heap.size y1 y2 := by rw [hy2]; exact (Below.refl _ _).alloc (Nat.le_refl _) _
  have RC2 : Hid (y2.heap[y1.heap.size]? = some (.cells [Value.string ciss, .int .i64 cfr, .int .i64 ctill, .slice va nk vc, .int .i64 csk, .int .i64 cse, .int .i64 css].toArray 53 (0, 0))) := by rw [hy2]; exact heap_alloc_new y1 _
  have RW2 : Hid (RowL y2 va vc cser) := ho2.rowL.keep by2
  have B10 : Hid (Below w.heap.size w y2) := B9.out.trans ((hb10.trans (by2.mono hb10.size)).mono B9.out.size)
  have HNk : Hid (nk = cser.length) := hnk.out
  have hiss := hm2.iss
  have hlen := hm2.len
  simp only at hiss hlen
  obtain ⟨k, e, s, hsv, hk', he', hs'⟩ := signV_may x2 (listD ⟨ciss, cfr, ctill, cser, csk, cse, css⟩)
  have hmR := signL_may (x := x2) hm2 hk' he' hs'
  have hgR := signL_good (c := ⟨ciss, cfr, ctill, cser, csk, cse, css⟩) hsv
  obtain ⟨RR, hRR⟩ : ∃ y, y = signL x2 ⟨ciss, cfr, ctill, cser, csk, cse, css⟩ k e s := ⟨_, rfl⟩
  have qi := fun V => implSignLG x2 ⟨ciss, cfr, ctill, cser, csk, cse, css⟩ va vc k e s V (by show ciss.size ≤ _; omega) (by show cser.length ≤ _; omega)
  have qs := fun V => specSignLG x2 ⟨ciss, cfr, ctill, cser, csk, cse, css⟩ va vc k e s V (by show ciss.size ≤ maxLen; unfold maxLen; omega) (by show cser.length ≤ _; omega)
  rw [← hRR] at hmR hgR qi qs
  rw [show (⟨ciss, cfr, ctill, cser, csk, cse, css⟩ : Lst).serials.length = nk from hnk.out.symm] at qi qs
  have TSi : Hid (∀ V, Keys V → Err1 V → RowL V va vc cser → Calls Tryz.prog 30 #[.int .i64 x2, .agg #[.string ciss, .int .i64 cfr, .int .i64 ctill, .slice va nk vc, .int .i64 csk, .int .i64 cse, .int .i64 css]] V fun r w' => ∃ v, r = .returned (RR.val v) ∧ OwnL w' V.heap.size v RR.serials ∧ Below V.heap.size V w') := fun V h1 h2 hV => qi V hV h1 h2 (fun _ _ => hsv)
  have TSs : Hid (∀ V, RowL V va vc cser → Calls Tryz.prog 32 #[.int .i64 x2, .agg #[.string ciss, .int .i64 cfr, .int .i64 ctill, .slice va nk vc, .int .i64 csk, .int .i64 cse, .int .i64 css]] V fun r w' => ∃ v, r = .returned (RR.val v) ∧ OwnL w' V.heap.size v RR.serials ∧ Below V.heap.size V w') := fun V hV => qs V hV (fun _ _ => hsv)
  have HPk : Hid (∀ V : World, Calls Tryz.prog 16 #[.int .i64 x2] V fun e w' => e = .returned (.int .i64 (pubA x2)) ∧ Below V.heap.size V w') := fun V => (specPublic x2 V).mono fun _ _ h => ⟨h.1, by rw [h.2]; exact Below.refl _ _⟩
  generalize pubA x2 = pk at *
  have hrl5 := hmR.len
  have rissz := hmR.iss
  have TRb : Hid (∀ V a c, Err1 V → IsInts V a RR.serials → Calls Tryz.prog 31 #[RR.val (.slice a RR.serials.length c)] V fun e w' => e = .returned (.string (crlBytesD RR)) ∧ Below V.heap.size V w') := fun V a c h1 hV => implCrlBytes RR a c V (by unfold maxLen; omega) (by omega) hV h1
  have TRc : Hid (∀ V a c, IsInts V a RR.serials → Calls Tryz.prog 33 #[RR.val (.slice a RR.serials.length c)] V fun e w' => e = .returned (.string (crlBytesD RR)) ∧ Below V.heap.size V w') := fun V a c hV => specCrlBytes RR a c V (by unfold maxLen; omega) (by omega) hV
  have TRg : Hid (∀ V a c, Keys V → Err3 V → IsInts V a RR.serials → Calls Tryz.prog 34 #[.int .i64 pk, RR.val (.slice a RR.serials.length c)] V fun e w' => e = .returned (.bool (crlGoodB pk RR)) ∧ Below V.heap.size V w') := fun V a c h1 h2 hV => implCrlGood pk RR a c V (by unfold maxLen; omega) (by omega) hV h1 h2
  have TRl : Hid (∀ V a b c d, IsInts V a RR.serials → IsInts V b RR.serials → Calls Tryz.prog 36 #[.slice a RR.serials.length c, .slice b RR.serials.length d] V fun e w' => e = .returned (.bool true) ∧ Below V.heap.size V w') := fun V a b c d h1 h2 => lwNumsW a b RR.serials c d V (by omega) h1 h2
  have hts : (crlBytesD RR).size ≤ 20000 := crlBytes_small
  have TRr : Hid (RR.issuer.size ≠ 0 → ∀ V, ErrType V → Err2 V → Calls Tryz.prog 35 #[.string (crlBytesD RR)] V fun e w' => ∃ v, e = .returned (crlV RR v 0) ∧ OwnL w' V.heap.size v RR.serials ∧ Below V.heap.size V w') := fun hne V h1 h2 => by
    have q := implCrlRead (crlBytesD RR) V (by unfold maxLen; omega) h1 h2
    rcases hgR with h | ⟨h, _, _⟩
    · exact absurd h hne
    · rw [crlR_eq, crl_back h] at q
      exact q
  have HF : Hid (RR.issuer.size ≠ 0 → crlGoodB pk RR = true ∧ RR.serials = cser) := fun hne => by
    rcases hgR with h | ⟨_, h1, h2⟩
    · exact absurd h hne
    · exact ⟨h1, h2⟩
  generalize crlBytesD RR = t at *
  generalize crlGoodB pk RR = rg at *
  clear hRR hsv ho2 hk' he' hs' hnk hb10 qi qs hgR hmR hm2 hiss hlen by2 rissz
  obtain ⟨riss, rfr, rtill, rser, rsk, rse, rss⟩ := RR
  unfold Lst.val crlV at *
  simp only at TSi TSs TRb TRc TRg TRl TRr HF hrl5
  obtain ⟨rl, hrl⟩ : ∃ n, n = rser.length := ⟨_, rfl⟩
  rw [← hrl] at TRb TRc TRg TRl hrl5
  have HRl : Hid (rl = rser.length) := hrl
  have TSi' : Hid (∀ V, Keys V → Err1 V → RowL V va vc cser → Calls Tryz.prog 30 #[.int .i64 x2, .agg #[.string ciss, .int .i64 cfr, .int .i64 ctill, .slice va nk vc, .int .i64 csk, .int .i64 cse, .int .i64 css]] V fun r w' => ∃ a c, r = .returned (.agg #[.string riss, .int .i64 rfr, .int .i64 rtill, .slice a rl c, .int .i64 rsk, .int .i64 rse, .int .i64 rss]) ∧ IsInts w' a rser ∧ Below V.heap.size V w') := fun V h0 h1 h2 => (TSi.out V h0 h1 h2).mono fun _ _ ⟨v, e1, h3, h4⟩ => by
    obtain ⟨a, c, rfl, _⟩ := h3.form
    rw [← HRl.out] at e1
    exact ⟨a, c, e1, h3.ints, h4⟩
  have TSs' : Hid (∀ V, RowL V va vc cser → Calls Tryz.prog 32 #[.int .i64 x2, .agg #[.string ciss, .int .i64 cfr, .int .i64 ctill, .slice va nk vc, .int .i64 csk, .int .i64 cse, .int .i64 css]] V fun r w' => ∃ a c, r = .returned (.agg #[.string riss, .int .i64 rfr, .int .i64 rtill, .slice a rl c, .int .i64 rsk, .int .i64 rse, .int .i64 rss]) ∧ Below V.heap.size V w') := fun V h1 => (TSs.out V h1).mono fun _ _ ⟨v, e1, h3, h4⟩ => by
    obtain ⟨a, c, rfl, _⟩ := h3.form
    rw [← HRl.out] at e1
    exact ⟨a, c, e1, h4⟩
  have TRr' : Hid (riss.size ≠ 0 → ∀ V, ErrType V → Err2 V → Calls Tryz.prog 35 #[.string t] V fun e w' => ∃ a c, e = .returned (.agg #[.string riss, .int .i64 rfr, .int .i64 rtill, .slice a rl c, .int .i64 rsk, .int .i64 rse, .int .i64 rss, .int .i64 0]) ∧ IsInts w' a rser ∧ Below V.heap.size V w') := fun hne V h0 h1 => (TRr.out hne V h0 h1).mono fun _ _ ⟨v, e1, h3, h4⟩ => by
    obtain ⟨a, c, rfl, _⟩ := h3.form
    rw [← HRl.out] at e1
    exact ⟨a, c, e1, h3.ints, h4⟩
  have TRn : Hid (riss.size ≠ 0 → ∀ V a b c d, IsInts V a rser → IsInts V b cser → Calls Tryz.prog 36 #[.slice a rl c, .slice b nk d] V fun e w' => e = .returned (.bool true) ∧ Below V.heap.size V w') := fun hne V a b c d h1 h2 => by
    have he := (HF.out hne).2
    have q := TRl.out V a b c d h1 (by rw [he]; exact h2)
    rw [show nk = rl from by rw [HNk.out, HRl.out, he]]
    exact q
  have HG : Hid (riss.size ≠ 0 → rg = true) := fun hne => (HF.out hne).1
  clear hrl TSi TSs TRr HF TRl
  go_upto_region 10 with fail
  rw [← hy2]
  clear hy2
  have hr2 := rangeRow RC2.out
  go_wp2_with (refine wpList_load_mid rfl 53 _ rfl y1.heap.size 0 rfl [Value.string ciss, .int .i64 cfr, .int .i64 ctill, .slice va nk vc, .int .i64 csk, .int .i64 cse, .int .i64 css] _ hr2 Tryz.underlying53 rfl sizeCrl ?_)
  refine (TSi'.out _ (HKE.out _ B10.out).1 (HKE.out _ B10.out).2.2.1.one RW2.out).mono ?_
  rintro e' y3 ⟨ra, rc, rfl, ir3, b3⟩
  obtain ⟨y4, hy4⟩ : ∃ y, y = y3.alloc (.cells [Value.string riss, .int .i64 rfr, .int .i64 rtill, .slice ra rl rc, .int .i64 rsk, .int .i64 rse, .int .i64 rss].toArray 53 (0, 0)) := ⟨_, rfl⟩
  have by4 : Below y3.heap.size y3 y4 := by rw [hy4]; exact (Below.refl _ _).alloc (Nat.le_refl _) _
  have RR4 : Hid (y4.heap[y3.heap.size]? = some (.cells [Value.string riss, .int .i64 rfr, .int .i64 rtill, .slice ra rl rc, .int .i64 rsk, .int .i64 rse, .int .i64 rss].toArray 53 (0, 0))) := by rw [hy4]; exact heap_alloc_new y3 _
  have E4 : Below y2.heap.size y2 y4 := b3.trans (by4.mono b3.size)
  have RC4 : Hid (y4.heap[y1.heap.size]? = some (.cells [Value.string ciss, .int .i64 cfr, .int .i64 ctill, .slice va nk vc, .int .i64 csk, .int .i64 cse, .int .i64 css].toArray 53 (0, 0))) := by show _ = _; rw [E4.block _ (heap_lt RC2.out)]; exact RC2.out
  have RW4 : Hid (RowL y4 va vc cser) := RW2.out.keep E4
  have IR4 : Hid (IsInts y4 ra rser) := ir3.keep by4
  have B11 : Hid (Below w.heap.size w y4) := B10.out.trans (E4.mono B10.out.size)
  clear b3 by4 E4 ir3 TSi' RC2 RW2 B10 hr2
  go_upto_region 11 with fail
  rw [← hy4]
  clear hy4
  have hr4 := rangeRow RR4.out
  go_wp2_with (refine wpList_load_mid rfl 53 _ rfl y3.heap.size 0 rfl [Value.string riss, .int .i64 rfr, .int .i64 rtill, .slice ra rl rc, .int .i64 rsk, .int .i64 rse, .int .i64 rss] _ hr4 Tryz.underlying53 rfl sizeCrl ?_)
  refine (TRb.out y4 ra rc (HKE.out _ B11.out).2.2.1.one IR4.out).mono ?_
  rintro e' y5 ⟨rfl, b5⟩
  have RR5 : Hid (y5.heap[y3.heap.size]? = some (.cells [Value.string riss, .int .i64 rfr, .int .i64 rtill, .slice ra rl rc, .int .i64 rsk, .int .i64 rse, .int .i64 rss].toArray 53 (0, 0))) := by show _ = _; rw [b5.block _ (heap_lt RR4.out)]; exact RR4.out
  have RC5 : Hid (y5.heap[y1.heap.size]? = some (.cells [Value.string ciss, .int .i64 cfr, .int .i64 ctill, .slice va nk vc, .int .i64 csk, .int .i64 cse, .int .i64 css].toArray 53 (0, 0))) := by show _ = _; rw [b5.block _ (heap_lt RC4.out)]; exact RC4.out
  have RW5 : Hid (RowL y5 va vc cser) := RW4.out.keep b5
  have IR5 : Hid (IsInts y5 ra rser) := IR4.out.keep b5
  have B12 : Hid (Below w.heap.size w y5) := B11.out.trans (b5.mono B11.out.size)
  clear b5 RR4 RC4 RW4 IR4 B11 hr4 TRb
  have HX : Hid (∀ V, Below y5.heap.size y5 V → ((V.cell? ⟨y1.heap.size, 0, none⟩ = some (.string ciss) ∧ V.cell? ⟨y1.heap.size, 1, none⟩ = some (.int .i64 cfr) ∧ V.cell? ⟨y1.heap.size, 2, none⟩ = some (.int .i64 ctill) ∧ V.cell? ⟨y1.heap.size, 3, none⟩ = some (.slice va nk vc) ∧ V.cell? ⟨y1.heap.size, 4, none⟩ = some (.int .i64 csk) ∧ V.cell? ⟨y1.heap.size, 5, none⟩ = some (.int .i64 cse) ∧ V.cell? ⟨y1.heap.size, 6, none⟩ = some (.int .i64 css)) ∧ (V.cell? ⟨y3.heap.size, 0, none⟩ = some (.string riss) ∧ V.cell? ⟨y3.heap.size, 1, none⟩ = some (.int .i64 rfr) ∧ V.cell? ⟨y3.heap.size, 2, none⟩ = some (.int .i64 rtill) ∧ V.cell? ⟨y3.heap.size, 3, none⟩ = some (.slice ra rl rc) ∧ V.cell? ⟨y3.heap.size, 4, none⟩ = some (.int .i64 rsk) ∧ V.cell? ⟨y3.heap.size, 5, none⟩ = some (.int .i64 rse) ∧ V.cell? ⟨y3.heap.size, 6, none⟩ = some (.int .i64 rss)))) := fun V hV => by
    have h1 : V.heap[y1.heap.size]? = some (.cells [Value.string ciss, .int .i64 cfr, .int .i64 ctill, .slice va nk vc, .int .i64 csk, .int .i64 cse, .int .i64 css].toArray 53 (0, 0)) := by rw [hV.block _ (heap_lt RC5.out)]; exact RC5.out
    have h2 : V.heap[y3.heap.size]? = some (.cells [Value.string riss, .int .i64 rfr, .int .i64 rtill, .slice ra rl rc, .int .i64 rsk, .int .i64 rse, .int .i64 rss].toArray 53 (0, 0)) := by rw [hV.block _ (heap_lt RR5.out)]; exact RR5.out
    exact ⟨⟨rowFacts h1 0 _ rfl, rowFacts h1 1 _ rfl, rowFacts h1 2 _ rfl, rowFacts h1 3 _ rfl, rowFacts h1 4 _ rfl, rowFacts h1 5 _ rfl, rowFacts h1 6 _ rfl⟩, ⟨rowFacts h2 0 _ rfl, rowFacts h2 1 _ rfl, rowFacts h2 2 _ rfl, rowFacts h2 3 _ rfl, rowFacts h2 4 _ rfl, rowFacts h2 5 _ rfl, rowFacts h2 6 _ rfl⟩⟩
  have HW : Hid (∀ V, Below y5.heap.size y5 V → Below w.heap.size w V ∧ RowL V va vc cser ∧ IsInts V ra rser) := fun V hV => ⟨B12.out.trans (hV.mono B12.out.size), RW5.out.keep hV, IR5.out.keep hV⟩
  clear RR5 RC5 RW5 IR5 B12
  go_upto_region 12 with fail
  go_cut [146] from 106 (fun s146 wx => s146 = .bool false ∧ Below y5.heap.size y5 wx)
  case first =>
    by_cases hz : riss.size = 0
    · as_aux_lemma =>
      have e0 : riss.toList.isEmpty = true := isEmpty_of hz
      clear TRr' TRn HG HPk TRg hz
      have g4 : ∀ (v : Value) (W : World), (Instr.field 53 (.agg #[.string riss, .int .i64 rfr, .int .i64 rtill, v, .int .i64 rsk, .int .i64 rse, .int .i64 rss]) 4).run Tryz.prog W = .ok (.agg #[.int .i64 rsk, .int .i64 rse, .int .i64 rss]) W := fun v W => by kernel_rfl
      have J0 : Hid (Below y5.heap.size y5 y5.drew) := (Below.refl _ _).drew
      refine wp_region_held_drew (S := fun V => ((V.cell? ⟨y1.heap.size, 0, none⟩ = some (.string ciss) ∧ V.cell? ⟨y1.heap.size, 1, none⟩ = some (.int .i64 cfr) ∧ V.cell? ⟨y1.heap.size, 2, none⟩ = some (.int .i64 ctill) ∧ V.cell? ⟨y1.heap.size, 3, none⟩ = some (.slice va nk vc) ∧ V.cell? ⟨y1.heap.size, 4, none⟩ = some (.int .i64 csk) ∧ V.cell? ⟨y1.heap.size, 5, none⟩ = some (.int .i64 cse) ∧ V.cell? ⟨y1.heap.size, 6, none⟩ = some (.int .i64 css)) ∧ (V.cell? ⟨y3.heap.size, 0, none⟩ = some (.string riss) ∧ V.cell? ⟨y3.heap.size, 1, none⟩ = some (.int .i64 rfr) ∧ V.cell? ⟨y3.heap.size, 2, none⟩ = some (.int .i64 rtill) ∧ V.cell? ⟨y3.heap.size, 3, none⟩ = some (.slice ra rl rc) ∧ V.cell? ⟨y3.heap.size, 4, none⟩ = some (.int .i64 rsk) ∧ V.cell? ⟨y3.heap.size, 5, none⟩ = some (.int .i64 rse) ∧ V.cell? ⟨y3.heap.size, 6, none⟩ = some (.int .i64 rss)))) (by kernel_rfl) ?_ (fun hHeld => ?_)
      · exact HX.out _ J0.out
      refine wpAnyH_take (i := 0) (oi := ⟨some 106, _, _, _, _, _⟩) (v := ?_) rfl (by kernel_rfl) (by kernel_rfl) (by kernel_rfl) (fun _ _ _ h => h) (Or.inl ⟨by kernel_rfl, ?_⟩) (by assumption) ?_
      rotate_left
      · (intro w hSw; (try dsimp only at hSw); go_simp; try with_reducible rfl)
      (try simp only [Act.put, List.setIfInBounds_toArray, List.set_cons_zero, List.set_cons_succ])
      refine wpAnyH_take (i := 1) (oi := ⟨some 107, _, _, _, _, _⟩) (v := ?_) rfl (by kernel_rfl) (by kernel_rfl) (by kernel_rfl) (fun _ _ _ h => h) (Or.inl ⟨by kernel_rfl, ?_⟩) (by assumption) ?_
      rotate_left
      · (intro w hSw; (try dsimp only at hSw); go_simp; try with_reducible rfl)
      (try simp only [Act.put, List.setIfInBounds_toArray, List.set_cons_zero, List.set_cons_succ])
      refine wpAnyH_take (i := 2) (oi := ⟨some 108, _, _, _, _, _⟩) (v := ?_) rfl (by kernel_rfl) (by kernel_rfl) (by kernel_rfl) (fun _ _ _ h => h) (Or.inl ⟨by kernel_rfl, ?_⟩) (by assumption) ?_
      rotate_left
      · (intro w hSw; (try dsimp only at hSw); go_simp; try with_reducible rfl)
      (try simp only [Act.put, List.setIfInBounds_toArray, List.set_cons_zero, List.set_cons_succ])
      refine wpAnyH_take (i := 3) (oi := ⟨some 109, _, _, _, _, _⟩) (v := ?_) rfl (by kernel_rfl) (by kernel_rfl) (by kernel_rfl) (fun _ _ _ h => h) (Or.inl ⟨by kernel_rfl, ?_⟩) (by assumption) ?_
      rotate_left
      · (intro w hSw; (try dsimp only at hSw); go_simp; try with_reducible rfl)
      (try simp only [Act.put, List.setIfInBounds_toArray, List.set_cons_zero, List.set_cons_succ])
      refine wpAnyH_ready (rs := [4]) (by kernel_rfl) (by simp) ?_
      refine AllReadyH.cons (o := ⟨some 110, _, _, _, _, _⟩) rfl (fun K hK => ?_) AllReadyH.nil
      go_simp
      refine (TSs'.out _ (HW.out _ J0.out).2.1).mono ?_
      rintro e' W1 ⟨a2, c2, rfl, bb1⟩
      have J1 : Hid (Below y5.heap.size y5 W1) := J0.out.trans (bb1.mono J0.out.size)
      refine hK.out _ _ ?_ (fun hHeld => ?_)
      · exact HX.out _ J1.out
      clear hK K bb1
      (try simp only [Act.put, List.setIfInBounds_toArray, List.set_cons_zero, List.set_cons_succ])
      refine wpAnyH_take (i := 5) (oi := ⟨some 111, _, _, _, _, _⟩) (v := ?_) rfl (by kernel_rfl) (by kernel_rfl) (by kernel_rfl) (fun _ _ _ h => h) (Or.inl ⟨by kernel_rfl, ?_⟩) (by assumption) ?_
      rotate_left
      · (intro w hSw; (try dsimp only at hSw); go_simp; try with_reducible rfl)
      (try simp only [Act.put, List.setIfInBounds_toArray, List.set_cons_zero, List.set_cons_succ])
      refine wpAnyH_take (i := 6) (oi := ⟨some 112, _, _, _, _, _⟩) (v := ?_) rfl (by kernel_rfl) (by kernel_rfl) (by kernel_rfl) (fun _ _ _ h => h) (Or.inl ⟨by kernel_rfl, ?_⟩) (by assumption) ?_
      rotate_left
      · (intro w hSw; (try dsimp only at hSw); go_simp; try with_reducible rfl)
      (try simp only [Act.put, List.setIfInBounds_toArray, List.set_cons_zero, List.set_cons_succ])
      refine wpAnyH_take (i := 7) (oi := ⟨some 113, _, _, _, _, _⟩) (v := ?_) rfl (by kernel_rfl) (by kernel_rfl) (by kernel_rfl) (fun _ _ _ h => h) (Or.inl ⟨by kernel_rfl, ?_⟩) (by assumption) ?_
      rotate_left
      · (intro w hSw; (try dsimp only at hSw); go_simp; try with_reducible rfl)
      (try simp only [Act.put, List.setIfInBounds_toArray, List.set_cons_zero, List.set_cons_succ])
      refine wpAnyH_take (i := 8) (oi := ⟨some 114, _, _, _, _, _⟩) (v := ?_) rfl (by kernel_rfl) (by kernel_rfl) (by kernel_rfl) (fun _ _ _ h => h) (Or.inl ⟨by kernel_rfl, ?_⟩) (by assumption) ?_
      rotate_left
      · (intro w hSw; (try dsimp only at hSw); go_simp; try with_reducible rfl)
      (try simp only [Act.put, List.setIfInBounds_toArray, List.set_cons_zero, List.set_cons_succ])
      refine wpAnyH_take (i := 9) (oi := ⟨some 115, _, _, _, _, _⟩) (v := ?_) rfl (by kernel_rfl) (by kernel_rfl) (by kernel_rfl) (fun _ _ _ h => h) (Or.inl ⟨by kernel_rfl, ?_⟩) (by assumption) ?_
      rotate_left
      · (intro w hSw; (try dsimp only at hSw); go_simp; try with_reducible rfl)
      (try simp only [Act.put, List.setIfInBounds_toArray, List.set_cons_zero, List.set_cons_succ])
      refine wpAnyH_ready (rs := [10]) (by kernel_rfl) (by simp) ?_
      refine AllReadyH.cons (o := ⟨some 116, _, _, _, _, _⟩) rfl (fun K hK => ?_) AllReadyH.nil
      go_simp
      refine (TRc.out _ ra rc (HW.out _ J1.out).2.2).mono ?_
      rintro e' W2 ⟨rfl, bb2⟩
      have J2 : Hid (Below y5.heap.size y5 W2) := J1.out.trans (bb2.mono J1.out.size)
      refine hK.out _ _ ?_ (fun hHeld => ?_)
      · exact HX.out _ J2.out
      clear hK K bb2
      (try simp only [Act.put, List.setIfInBounds_toArray, List.set_cons_zero, List.set_cons_succ])
      refine wpAnyH_take (i := 11) (oi := ⟨some 117, _, _, _, _, _⟩) (v := ?_) rfl (by kernel_rfl) (by kernel_rfl) (by kernel_rfl) (fun _ _ _ h => h) (Or.inl ⟨by kernel_rfl, ?_⟩) (by assumption) ?_
      rotate_left
      · (intro w hSw; (try dsimp only at hSw); go_simp; try with_reducible rfl)
      (try simp only [Act.put, List.setIfInBounds_toArray, List.set_cons_zero, List.set_cons_succ])
      refine wpAnyH_take (i := 12) (oi := ⟨some 118, _, _, _, _, _⟩) (v := ?_) rfl (by kernel_rfl) (by kernel_rfl) (by kernel_rfl) (fun _ _ _ h => h) (Or.inl ⟨by kernel_rfl, ?_⟩) (by assumption) ?_
      rotate_left
      · (intro w hSw; (try dsimp only at hSw); go_simp; try with_reducible rfl)
      (try simp only [Act.put, List.setIfInBounds_toArray, List.set_cons_zero, List.set_cons_succ])
      refine wpAnyH_take (i := 13) (oi := ⟨some 119, _, _, _, _, _⟩) (v := ?_) rfl (by kernel_rfl) (by kernel_rfl) (by kernel_rfl) (fun _ _ _ h => h) (Or.inl ⟨by kernel_rfl, ?_⟩) (by assumption) ?_
      rotate_left
      · (intro w hSw; (try dsimp only at hSw); go_simp; try with_reducible rfl)
      (try simp only [Act.put, List.setIfInBounds_toArray, List.set_cons_zero, List.set_cons_succ])
      refine wpAnyH_take (i := 14) (oi := ⟨some 120, _, _, _, _, _⟩) (v := ?_) rfl (by kernel_rfl) (by kernel_rfl) (by kernel_rfl) (fun _ _ _ h => h) (Or.inl ⟨by kernel_rfl, ?_⟩) (by assumption) ?_
      rotate_left
      · (intro w hSw; (try dsimp only at hSw); go_simp; try with_reducible rfl)
      (try simp only [Act.put, List.setIfInBounds_toArray, List.set_cons_zero, List.set_cons_succ])
      refine wpAnyH_take (i := 15) (oi := ⟨some 121, _, _, _, _, _⟩) (v := ?_) rfl (by kernel_rfl) (by kernel_rfl) (by kernel_rfl) (fun _ _ _ h => h) (Or.inl ⟨by kernel_rfl, ?_⟩) (by assumption) ?_
      rotate_left
      · (intro w hSw; (try dsimp only at hSw); go_simp; try with_reducible rfl)
      (try simp only [Act.put, List.setIfInBounds_toArray, List.set_cons_zero, List.set_cons_succ])
      refine wpAnyH_take (i := 16) (oi := ⟨some 122, _, _, _, _, _⟩) (v := ?_) rfl (by kernel_rfl) (by kernel_rfl) (by kernel_rfl) (fun _ _ _ h => h) (Or.inl ⟨by kernel_rfl, ?_⟩) (by assumption) ?_
      rotate_left
      · (intro w hSw; (try dsimp only at hSw); go_simp; try with_reducible rfl)
      (try simp only [Act.put, List.setIfInBounds_toArray, List.set_cons_zero, List.set_cons_succ])
      refine wpAnyH_take (i := 17) (oi := ⟨some 123, _, _, _, _, _⟩) (v := ?_) rfl (by kernel_rfl) (by kernel_rfl) (by kernel_rfl) (fun _ _ _ h => h) (Or.inl ⟨by kernel_rfl, ?_⟩) (by assumption) ?_
      rotate_left
      · (intro w hSw; (try dsimp only at hSw); go_simp; try with_reducible rfl)
      (try simp only [Act.put, List.setIfInBounds_toArray, List.set_cons_zero, List.set_cons_succ])
      refine wpAnyH_take (i := 18) (oi := ⟨some 124, _, _, _, _, _⟩) (v := undef) rfl (by kernel_rfl) (by kernel_rfl) (by kernel_rfl) (fun _ _ _ h => h) (Or.inr ⟨by kernel_rfl, rfl⟩) (by assumption) ?_
      (try simp only [Act.put, List.setIfInBounds_toArray, List.set_cons_zero, List.set_cons_succ])
      refine wpAnyH_take (i := 19) (oi := ⟨some 125, _, _, _, _, _⟩) (v := undef) rfl (by kernel_rfl) (by kernel_rfl) (by kernel_rfl) (fun _ _ _ h => h) (Or.inr ⟨by kernel_rfl, rfl⟩) (by assumption) ?_
      (try simp only [Act.put, List.setIfInBounds_toArray, List.set_cons_zero, List.set_cons_succ])
      refine wpAnyH_take (i := 20) (oi := ⟨some 126, _, _, _, _, _⟩) (v := undef) rfl (by kernel_rfl) (by kernel_rfl) (by kernel_rfl) (fun _ _ _ h => h) (Or.inr ⟨by kernel_rfl, rfl⟩) (by assumption) ?_
      (try simp only [Act.put, List.setIfInBounds_toArray, List.set_cons_zero, List.set_cons_succ])
      refine wpAnyH_take (i := 21) (oi := ⟨some 127, _, _, _, _, _⟩) (v := undef) rfl (by kernel_rfl) (by kernel_rfl) (by kernel_rfl) (fun _ _ _ h => h) (Or.inr ⟨by kernel_rfl, rfl⟩) (by assumption) ?_
      (try simp only [Act.put, List.setIfInBounds_toArray, List.set_cons_zero, List.set_cons_succ])
      refine wpAnyH_take (i := 22) (oi := ⟨some 128, _, _, _, _, _⟩) (v := undef) rfl (by kernel_rfl) (by kernel_rfl) (by kernel_rfl) (fun _ _ _ h => h) (Or.inr ⟨by kernel_rfl, rfl⟩) (by assumption) ?_
      (try simp only [Act.put, List.setIfInBounds_toArray, List.set_cons_zero, List.set_cons_succ])
      refine wpAnyH_take (i := 23) (oi := ⟨some 129, _, _, _, _, _⟩) (v := undef) rfl (by kernel_rfl) (by kernel_rfl) (by kernel_rfl) (fun _ _ _ h => h) (Or.inr ⟨by kernel_rfl, rfl⟩) (by assumption) ?_
      (try simp only [Act.put, List.setIfInBounds_toArray, List.set_cons_zero, List.set_cons_succ])
      refine wpAnyH_take (i := 24) (oi := ⟨some 130, _, _, _, _, _⟩) (v := undef) rfl (by kernel_rfl) (by kernel_rfl) (by kernel_rfl) (fun _ _ _ h => h) (Or.inr ⟨by kernel_rfl, rfl⟩) (by assumption) ?_
      (try simp only [Act.put, List.setIfInBounds_toArray, List.set_cons_zero, List.set_cons_succ])
      refine wpAnyH_take (i := 25) (oi := ⟨some 131, _, _, _, _, _⟩) (v := undef) rfl (by kernel_rfl) (by kernel_rfl) (by kernel_rfl) (fun _ _ _ h => h) (Or.inr ⟨by kernel_rfl, rfl⟩) (by assumption) ?_
      (try simp only [Act.put, List.setIfInBounds_toArray, List.set_cons_zero, List.set_cons_succ])
      refine wpAnyH_take (i := 26) (oi := ⟨some 132, _, _, _, _, _⟩) (v := undef) rfl (by kernel_rfl) (by kernel_rfl) (by kernel_rfl) (fun _ _ _ h => h) (Or.inr ⟨by kernel_rfl, rfl⟩) (by assumption) ?_
      (try simp only [Act.put, List.setIfInBounds_toArray, List.set_cons_zero, List.set_cons_succ])
      refine wpAnyH_take (i := 27) (oi := ⟨some 133, _, _, _, _, _⟩) (v := undef) rfl (by kernel_rfl) (by kernel_rfl) (by kernel_rfl) (fun _ _ _ h => h) (Or.inr ⟨by kernel_rfl, rfl⟩) (by assumption) ?_
      (try simp only [Act.put, List.setIfInBounds_toArray, List.set_cons_zero, List.set_cons_succ])
      refine wpAnyH_take (i := 28) (oi := ⟨some 134, _, _, _, _, _⟩) (v := undef) rfl (by kernel_rfl) (by kernel_rfl) (by kernel_rfl) (fun _ _ _ h => h) (Or.inr ⟨by kernel_rfl, rfl⟩) (by assumption) ?_
      (try simp only [Act.put, List.setIfInBounds_toArray, List.set_cons_zero, List.set_cons_succ])
      refine wpAnyH_take (i := 29) (oi := ⟨some 135, _, _, _, _, _⟩) (v := undef) rfl (by kernel_rfl) (by kernel_rfl) (by kernel_rfl) (fun _ _ _ h => h) (Or.inr ⟨by kernel_rfl, rfl⟩) (by assumption) ?_
      (try simp only [Act.put, List.setIfInBounds_toArray, List.set_cons_zero, List.set_cons_succ])
      refine wpAnyH_take (i := 30) (oi := ⟨some 136, _, _, _, _, _⟩) (v := undef) rfl (by kernel_rfl) (by kernel_rfl) (by kernel_rfl) (fun _ _ _ h => h) (Or.inr ⟨by kernel_rfl, rfl⟩) (by assumption) ?_
      (try simp only [Act.put, List.setIfInBounds_toArray, List.set_cons_zero, List.set_cons_succ])
      refine wpAnyH_take (i := 31) (oi := ⟨some 137, _, _, _, _, _⟩) (v := undef) rfl (by kernel_rfl) (by kernel_rfl) (by kernel_rfl) (fun _ _ _ h => h) (Or.inr ⟨by kernel_rfl, rfl⟩) (by assumption) ?_
      (try simp only [Act.put, List.setIfInBounds_toArray, List.set_cons_zero, List.set_cons_succ])
      refine wpAnyH_take (i := 32) (oi := ⟨some 138, _, _, _, _, _⟩) (v := undef) rfl (by kernel_rfl) (by kernel_rfl) (by kernel_rfl) (fun _ _ _ h => h) (Or.inr ⟨by kernel_rfl, rfl⟩) (by assumption) ?_
      (try simp only [Act.put, List.setIfInBounds_toArray, List.set_cons_zero, List.set_cons_succ])
      refine wpAnyH_take (i := 33) (oi := ⟨some 139, _, _, _, _, _⟩) (v := undef) rfl (by kernel_rfl) (by kernel_rfl) (by kernel_rfl) (fun _ _ _ h => h) (Or.inr ⟨by kernel_rfl, rfl⟩) (by assumption) ?_
      (try simp only [Act.put, List.setIfInBounds_toArray, List.set_cons_zero, List.set_cons_succ])
      refine wpAnyH_take (i := 34) (oi := ⟨some 140, _, _, _, _, _⟩) (v := undef) rfl (by kernel_rfl) (by kernel_rfl) (by kernel_rfl) (fun _ _ _ h => h) (Or.inr ⟨by kernel_rfl, rfl⟩) (by assumption) ?_
      (try simp only [Act.put, List.setIfInBounds_toArray, List.set_cons_zero, List.set_cons_succ])
      refine wpAnyH_take (i := 35) (oi := ⟨some 141, _, _, _, _, _⟩) (v := undef) rfl (by kernel_rfl) (by kernel_rfl) (by kernel_rfl) (fun _ _ _ h => h) (Or.inr ⟨by kernel_rfl, rfl⟩) (by assumption) ?_
      (try simp only [Act.put, List.setIfInBounds_toArray, List.set_cons_zero, List.set_cons_succ])
      refine wpAnyH_take (i := 36) (oi := ⟨some 142, _, _, _, _, _⟩) (v := undef) rfl (by kernel_rfl) (by kernel_rfl) (by kernel_rfl) (fun _ _ _ h => h) (Or.inr ⟨by kernel_rfl, rfl⟩) (by assumption) ?_
      (try simp only [Act.put, List.setIfInBounds_toArray, List.set_cons_zero, List.set_cons_succ])
      refine wpAnyH_take (i := 37) (oi := ⟨some 143, _, _, _, _, _⟩) (v := undef) rfl (by kernel_rfl) (by kernel_rfl) (by kernel_rfl) (fun _ _ _ h => h) (Or.inr ⟨by kernel_rfl, rfl⟩) (by assumption) ?_
      (try simp only [Act.put, List.setIfInBounds_toArray, List.set_cons_zero, List.set_cons_succ])
      refine wpAnyH_take (i := 38) (oi := ⟨some 144, _, _, _, _, _⟩) (v := undef) rfl (by kernel_rfl) (by kernel_rfl) (by kernel_rfl) (fun _ _ _ h => h) (Or.inr ⟨by kernel_rfl, rfl⟩) (by assumption) ?_
      (try simp only [Act.put, List.setIfInBounds_toArray, List.set_cons_zero, List.set_cons_succ])
      refine wpAnyH_take (i := 39) (oi := ⟨some 145, _, _, _, _, _⟩) (v := ?_) rfl (by kernel_rfl) (by kernel_rfl) (by kernel_rfl) (fun _ _ _ h => h) (Or.inl ⟨by kernel_rfl, ?_⟩) (by assumption) ?_
      rotate_left
      · (intro w hSw; (try dsimp only at hSw); go_simp; try with_reducible rfl)
      (try simp only [Act.put, List.setIfInBounds_toArray, List.set_cons_zero, List.set_cons_succ])
      refine wpAnyH_take (i := 40) (oi := ⟨some 146, _, _, _, _, _⟩) (v := ?_) rfl (by kernel_rfl) (by kernel_rfl) (by kernel_rfl) (fun _ _ _ h => h) (Or.inl ⟨by kernel_rfl, ?_⟩) (by assumption) ?_
      rotate_left
      · (intro w hSw; (try dsimp only at hSw); go_simp; try with_reducible rfl)
      (try simp only [Act.put, List.setIfInBounds_toArray, List.set_cons_zero, List.set_cons_succ])
      refine wpAnyH_done (by kernel_rfl) ?_ _
      go_wp2_with fail
      go_meet
      case rel => exact ⟨by first | rfl | simp, J2.out⟩
    · as_aux_lemma =>
      have e0 : riss.toList.isEmpty = false := not_empty hz
      obtain rfl := HG.out hz
      have TQ := TRr'.out hz
      have TRq : Hid _ := TQ
      have TQ' := TRn.out hz
      have TRm : Hid _ := TQ'
      have f1 : ∀ (v : Value) (W : World), (Instr.field 60 (.agg #[.string riss, .int .i64 rfr, .int .i64 rtill, v, .int .i64 rsk, .int .i64 rse, .int .i64 rss, .int .i64 0]) 1).run Tryz.prog W = .ok (.int .i64 0) W := fun v W => by kernel_rfl
      have f0 : ∀ (v : Value) (W : World), (Instr.field 60 (.agg #[.string riss, .int .i64 rfr, .int .i64 rtill, v, .int .i64 rsk, .int .i64 rse, .int .i64 rss, .int .i64 0]) 0).run Tryz.prog W = .ok (.agg #[.string riss, .int .i64 rfr, .int .i64 rtill, v, .int .i64 rsk, .int .i64 rse, .int .i64 rss]) W := fun v W => by kernel_rfl
      have f3 : ∀ (v : Value) (W : World), (Instr.field 53 (.agg #[.string riss, .int .i64 rfr, .int .i64 rtill, v, .int .i64 rsk, .int .i64 rse, .int .i64 rss]) 3).run Tryz.prog W = .ok v W := fun v W => by kernel_rfl
      clear TQ TQ' TRr' TRn HG hz
      have g4 : ∀ (v : Value) (W : World), (Instr.field 53 (.agg #[.string riss, .int .i64 rfr, .int .i64 rtill, v, .int .i64 rsk, .int .i64 rse, .int .i64 rss]) 4).run Tryz.prog W = .ok (.agg #[.int .i64 rsk, .int .i64 rse, .int .i64 rss]) W := fun v W => by kernel_rfl
      have J0 : Hid (Below y5.heap.size y5 y5.drew) := (Below.refl _ _).drew
      refine wp_region_held_drew (S := fun V => ((V.cell? ⟨y1.heap.size, 0, none⟩ = some (.string ciss) ∧ V.cell? ⟨y1.heap.size, 1, none⟩ = some (.int .i64 cfr) ∧ V.cell? ⟨y1.heap.size, 2, none⟩ = some (.int .i64 ctill) ∧ V.cell? ⟨y1.heap.size, 3, none⟩ = some (.slice va nk vc) ∧ V.cell? ⟨y1.heap.size, 4, none⟩ = some (.int .i64 csk) ∧ V.cell? ⟨y1.heap.size, 5, none⟩ = some (.int .i64 cse) ∧ V.cell? ⟨y1.heap.size, 6, none⟩ = some (.int .i64 css)) ∧ (V.cell? ⟨y3.heap.size, 0, none⟩ = some (.string riss) ∧ V.cell? ⟨y3.heap.size, 1, none⟩ = some (.int .i64 rfr) ∧ V.cell? ⟨y3.heap.size, 2, none⟩ = some (.int .i64 rtill) ∧ V.cell? ⟨y3.heap.size, 3, none⟩ = some (.slice ra rl rc) ∧ V.cell? ⟨y3.heap.size, 4, none⟩ = some (.int .i64 rsk) ∧ V.cell? ⟨y3.heap.size, 5, none⟩ = some (.int .i64 rse) ∧ V.cell? ⟨y3.heap.size, 6, none⟩ = some (.int .i64 rss)))) (by kernel_rfl) ?_ (fun hHeld => ?_)
      · exact HX.out _ J0.out
      refine wpAnyH_take (i := 0) (oi := ⟨some 106, _, _, _, _, _⟩) (v := ?_) rfl (by kernel_rfl) (by kernel_rfl) (by kernel_rfl) (fun _ _ _ h => h) (Or.inl ⟨by kernel_rfl, ?_⟩) (by assumption) ?_
      rotate_left
      · (intro w hSw; (try dsimp only at hSw); go_simp; try with_reducible rfl)
      (try simp only [Act.put, List.setIfInBounds_toArray, List.set_cons_zero, List.set_cons_succ])
      refine wpAnyH_take (i := 1) (oi := ⟨some 107, _, _, _, _, _⟩) (v := ?_) rfl (by kernel_rfl) (by kernel_rfl) (by kernel_rfl) (fun _ _ _ h => h) (Or.inl ⟨by kernel_rfl, ?_⟩) (by assumption) ?_
      rotate_left
      · (intro w hSw; (try dsimp only at hSw); go_simp; try with_reducible rfl)
      (try simp only [Act.put, List.setIfInBounds_toArray, List.set_cons_zero, List.set_cons_succ])
      refine wpAnyH_take (i := 2) (oi := ⟨some 108, _, _, _, _, _⟩) (v := ?_) rfl (by kernel_rfl) (by kernel_rfl) (by kernel_rfl) (fun _ _ _ h => h) (Or.inl ⟨by kernel_rfl, ?_⟩) (by assumption) ?_
      rotate_left
      · (intro w hSw; (try dsimp only at hSw); go_simp; try with_reducible rfl)
      (try simp only [Act.put, List.setIfInBounds_toArray, List.set_cons_zero, List.set_cons_succ])
      refine wpAnyH_take (i := 3) (oi := ⟨some 109, _, _, _, _, _⟩) (v := ?_) rfl (by kernel_rfl) (by kernel_rfl) (by kernel_rfl) (fun _ _ _ h => h) (Or.inl ⟨by kernel_rfl, ?_⟩) (by assumption) ?_
      rotate_left
      · (intro w hSw; (try dsimp only at hSw); go_simp; try with_reducible rfl)
      (try simp only [Act.put, List.setIfInBounds_toArray, List.set_cons_zero, List.set_cons_succ])
      refine wpAnyH_ready (rs := [4]) (by kernel_rfl) (by simp) ?_
      refine AllReadyH.cons (o := ⟨some 110, _, _, _, _, _⟩) rfl (fun K hK => ?_) AllReadyH.nil
      go_simp
      refine (TSs'.out _ (HW.out _ J0.out).2.1).mono ?_
      rintro e' W1 ⟨a2, c2, rfl, bb1⟩
      have J1 : Hid (Below y5.heap.size y5 W1) := J0.out.trans (bb1.mono J0.out.size)
      refine hK.out _ _ ?_ (fun hHeld => ?_)
      · exact HX.out _ J1.out
      clear hK K bb1
      (try simp only [Act.put, List.setIfInBounds_toArray, List.set_cons_zero, List.set_cons_succ])
      refine wpAnyH_take (i := 5) (oi := ⟨some 111, _, _, _, _, _⟩) (v := ?_) rfl (by kernel_rfl) (by kernel_rfl) (by kernel_rfl) (fun _ _ _ h => h) (Or.inl ⟨by kernel_rfl, ?_⟩) (by assumption) ?_
      rotate_left
      · (intro w hSw; (try dsimp only at hSw); go_simp; try with_reducible rfl)
      (try simp only [Act.put, List.setIfInBounds_toArray, List.set_cons_zero, List.set_cons_succ])
      refine wpAnyH_take (i := 6) (oi := ⟨some 112, _, _, _, _, _⟩) (v := ?_) rfl (by kernel_rfl) (by kernel_rfl) (by kernel_rfl) (fun _ _ _ h => h) (Or.inl ⟨by kernel_rfl, ?_⟩) (by assumption) ?_
      rotate_left
      · (intro w hSw; (try dsimp only at hSw); go_simp; try with_reducible rfl)
      (try simp only [Act.put, List.setIfInBounds_toArray, List.set_cons_zero, List.set_cons_succ])
      refine wpAnyH_take (i := 7) (oi := ⟨some 113, _, _, _, _, _⟩) (v := ?_) rfl (by kernel_rfl) (by kernel_rfl) (by kernel_rfl) (fun _ _ _ h => h) (Or.inl ⟨by kernel_rfl, ?_⟩) (by assumption) ?_
      rotate_left
      · (intro w hSw; (try dsimp only at hSw); go_simp; try with_reducible rfl)
      (try simp only [Act.put, List.setIfInBounds_toArray, List.set_cons_zero, List.set_cons_succ])
      refine wpAnyH_take (i := 8) (oi := ⟨some 114, _, _, _, _, _⟩) (v := ?_) rfl (by kernel_rfl) (by kernel_rfl) (by kernel_rfl) (fun _ _ _ h => h) (Or.inl ⟨by kernel_rfl, ?_⟩) (by assumption) ?_
      rotate_left
      · (intro w hSw; (try dsimp only at hSw); go_simp; try with_reducible rfl)
      (try simp only [Act.put, List.setIfInBounds_toArray, List.set_cons_zero, List.set_cons_succ])
      refine wpAnyH_take (i := 9) (oi := ⟨some 115, _, _, _, _, _⟩) (v := ?_) rfl (by kernel_rfl) (by kernel_rfl) (by kernel_rfl) (fun _ _ _ h => h) (Or.inl ⟨by kernel_rfl, ?_⟩) (by assumption) ?_
      rotate_left
      · (intro w hSw; (try dsimp only at hSw); go_simp; try with_reducible rfl)
      (try simp only [Act.put, List.setIfInBounds_toArray, List.set_cons_zero, List.set_cons_succ])
      refine wpAnyH_ready (rs := [10]) (by kernel_rfl) (by simp) ?_
      refine AllReadyH.cons (o := ⟨some 116, _, _, _, _, _⟩) rfl (fun K hK => ?_) AllReadyH.nil
      go_simp
      refine (TRc.out _ ra rc (HW.out _ J1.out).2.2).mono ?_
      rintro e' W2 ⟨rfl, bb2⟩
      have J2 : Hid (Below y5.heap.size y5 W2) := J1.out.trans (bb2.mono J1.out.size)
      refine hK.out _ _ ?_ (fun hHeld => ?_)
      · exact HX.out _ J2.out
      clear hK K bb2
      (try simp only [Act.put, List.setIfInBounds_toArray, List.set_cons_zero, List.set_cons_succ])
      refine wpAnyH_take (i := 11) (oi := ⟨some 117, _, _, _, _, _⟩) (v := ?_) rfl (by kernel_rfl) (by kernel_rfl) (by kernel_rfl) (fun _ _ _ h => h) (Or.inl ⟨by kernel_rfl, ?_⟩) (by assumption) ?_
      rotate_left
      · (intro w hSw; (try dsimp only at hSw); go_simp; try with_reducible rfl)
      (try simp only [Act.put, List.setIfInBounds_toArray, List.set_cons_zero, List.set_cons_succ])
      refine wpAnyH_take (i := 12) (oi := ⟨some 118, _, _, _, _, _⟩) (v := ?_) rfl (by kernel_rfl) (by kernel_rfl) (by kernel_rfl) (fun _ _ _ h => h) (Or.inl ⟨by kernel_rfl, ?_⟩) (by assumption) ?_
      rotate_left
      · (intro w hSw; (try dsimp only at hSw); go_simp; try with_reducible rfl)
      (try simp only [Act.put, List.setIfInBounds_toArray, List.set_cons_zero, List.set_cons_succ])
      refine wpAnyH_take (i := 13) (oi := ⟨some 119, _, _, _, _, _⟩) (v := ?_) rfl (by kernel_rfl) (by kernel_rfl) (by kernel_rfl) (fun _ _ _ h => h) (Or.inl ⟨by kernel_rfl, ?_⟩) (by assumption) ?_
      rotate_left
      · (intro w hSw; (try dsimp only at hSw); go_simp; try with_reducible rfl)
      (try simp only [Act.put, List.setIfInBounds_toArray, List.set_cons_zero, List.set_cons_succ])
      refine wpAnyH_take (i := 14) (oi := ⟨some 120, _, _, _, _, _⟩) (v := ?_) rfl (by kernel_rfl) (by kernel_rfl) (by kernel_rfl) (fun _ _ _ h => h) (Or.inl ⟨by kernel_rfl, ?_⟩) (by assumption) ?_
      rotate_left
      · (intro w hSw; (try dsimp only at hSw); go_simp; try with_reducible rfl)
      (try simp only [Act.put, List.setIfInBounds_toArray, List.set_cons_zero, List.set_cons_succ])
      refine wpAnyH_take (i := 15) (oi := ⟨some 121, _, _, _, _, _⟩) (v := ?_) rfl (by kernel_rfl) (by kernel_rfl) (by kernel_rfl) (fun _ _ _ h => h) (Or.inl ⟨by kernel_rfl, ?_⟩) (by assumption) ?_
      rotate_left
      · (intro w hSw; (try dsimp only at hSw); go_simp; try with_reducible rfl)
      (try simp only [Act.put, List.setIfInBounds_toArray, List.set_cons_zero, List.set_cons_succ])
      refine wpAnyH_take (i := 16) (oi := ⟨some 122, _, _, _, _, _⟩) (v := ?_) rfl (by kernel_rfl) (by kernel_rfl) (by kernel_rfl) (fun _ _ _ h => h) (Or.inl ⟨by kernel_rfl, ?_⟩) (by assumption) ?_
      rotate_left
      · (intro w hSw; (try dsimp only at hSw); go_simp; try with_reducible rfl)
      (try simp only [Act.put, List.setIfInBounds_toArray, List.set_cons_zero, List.set_cons_succ])
      refine wpAnyH_take (i := 17) (oi := ⟨some 123, _, _, _, _, _⟩) (v := ?_) rfl (by kernel_rfl) (by kernel_rfl) (by kernel_rfl) (fun _ _ _ h => h) (Or.inl ⟨by kernel_rfl, ?_⟩) (by assumption) ?_
      rotate_left
      · (intro w hSw; (try dsimp only at hSw); go_simp; try with_reducible rfl)
      (try simp only [Act.put, List.setIfInBounds_toArray, List.set_cons_zero, List.set_cons_succ])
      refine wpAnyH_take (i := 18) (oi := ⟨some 124, _, _, _, _, _⟩) (v := ?_) rfl (by kernel_rfl) (by kernel_rfl) (by kernel_rfl) (fun _ _ _ h => h) (Or.inl ⟨by kernel_rfl, ?_⟩) (by assumption) ?_
      rotate_left
      · (intro w hSw; (try dsimp only at hSw); go_simp; try with_reducible rfl)
      (try simp only [Act.put, List.setIfInBounds_toArray, List.set_cons_zero, List.set_cons_succ])
      refine wpAnyH_take (i := 20) (oi := ⟨some 126, _, _, _, _, _⟩) (v := ?_) rfl (by kernel_rfl) (by kernel_rfl) (by kernel_rfl) (fun _ _ _ h => h) (Or.inl ⟨by kernel_rfl, ?_⟩) (by assumption) ?_
      rotate_left
      · (intro w hSw; (try dsimp only at hSw); go_simp; try with_reducible rfl)
      (try simp only [Act.put, List.setIfInBounds_toArray, List.set_cons_zero, List.set_cons_succ])
      refine wpAnyH_ready (rs := [19]) (by kernel_rfl) (by simp) ?_
      refine AllReadyH.cons (o := ⟨some 125, _, _, _, _, _⟩) rfl (fun K hK => ?_) AllReadyH.nil
      go_simp
      refine (HPk.out _).mono ?_
      rintro e' W3 ⟨rfl, bb3⟩
      have J3 : Hid (Below y5.heap.size y5 W3) := J2.out.trans (bb3.mono J2.out.size)
      refine hK.out _ _ ?_ (fun hHeld => ?_)
      · exact HX.out _ J3.out
      clear hK K bb3
      (try simp only [Act.put, List.setIfInBounds_toArray, List.set_cons_zero, List.set_cons_succ])
      refine wpAnyH_ready (rs := [21]) (by kernel_rfl) (by simp) ?_
      refine AllReadyH.cons (o := ⟨some 127, _, _, _, _, _⟩) rfl (fun K hK => ?_) AllReadyH.nil
      go_simp
      refine (TRg.out _ ra rc (HKE.out _ (HW.out _ J3.out).1).1 (HKE.out _ (HW.out _ J3.out).1).2.2.2 (HW.out _ J3.out).2.2).mono ?_
      rintro e' W4 ⟨rfl, bb4⟩
      have J4 : Hid (Below y5.heap.size y5 W4) := J3.out.trans (bb4.mono J3.out.size)
      refine hK.out _ _ ?_ (fun hHeld => ?_)
      · exact HX.out _ J4.out
      clear hK K bb4
      (try simp only [Act.put, List.setIfInBounds_toArray, List.set_cons_zero, List.set_cons_succ])
      refine wpAnyH_take (i := 22) (oi := ⟨some 128, _, _, _, _, _⟩) (v := ?_) rfl (by kernel_rfl) (by kernel_rfl) (by kernel_rfl) (fun _ _ _ h => h) (Or.inl ⟨by kernel_rfl, ?_⟩) (by assumption) ?_
      rotate_left
      · (intro w hSw; (try dsimp only at hSw); go_simp; try with_reducible rfl)
      (try simp only [Act.put, List.setIfInBounds_toArray, List.set_cons_zero, List.set_cons_succ])
      refine wpAnyH_take (i := 23) (oi := ⟨some 129, _, _, _, _, _⟩) (v := ?_) rfl (by kernel_rfl) (by kernel_rfl) (by kernel_rfl) (fun _ _ _ h => h) (Or.inl ⟨by kernel_rfl, ?_⟩) (by assumption) ?_
      rotate_left
      · (intro w hSw; (try dsimp only at hSw); go_simp; try with_reducible rfl)
      (try simp only [Act.put, List.setIfInBounds_toArray, List.set_cons_zero, List.set_cons_succ])
      refine wpAnyH_take (i := 24) (oi := ⟨some 130, _, _, _, _, _⟩) (v := ?_) rfl (by kernel_rfl) (by kernel_rfl) (by kernel_rfl) (fun _ _ _ h => h) (Or.inl ⟨by kernel_rfl, ?_⟩) (by assumption) ?_
      rotate_left
      · (intro w hSw; (try dsimp only at hSw); go_simp; try with_reducible rfl)
      (try simp only [Act.put, List.setIfInBounds_toArray, List.set_cons_zero, List.set_cons_succ])
      refine wpAnyH_ready (rs := [25]) (by kernel_rfl) (by simp) ?_
      refine AllReadyH.cons (o := ⟨some 131, _, _, _, _, _⟩) rfl (fun K hK => ?_) AllReadyH.nil
      go_simp
      refine (TRq.out _ (HKE.out _ (HW.out _ J4.out).1).2.1 (HKE.out _ (HW.out _ J4.out).1).2.2.1.two).mono ?_
      rintro e' W5 ⟨a3, c3, rfl, i3, bb5⟩
      have J5 : Hid (Below y5.heap.size y5 W5) := J4.out.trans (bb5.mono J4.out.size)
      refine hK.out _ _ ?_ (fun hHeld => ?_)
      · exact HX.out _ J5.out
      clear hK K bb5
      (try simp only [Act.put, List.setIfInBounds_toArray, List.set_cons_zero, List.set_cons_succ])
      refine wpAnyH_take (i := 26) (oi := ⟨some 132, _, _, _, _, _⟩) (v := ?_) rfl (by kernel_rfl) (by kernel_rfl) (by kernel_rfl) (fun _ _ _ h => h) (Or.inl ⟨by kernel_rfl, ?_⟩) (by assumption) ?_
      rotate_left
      · (intro w hSw; (try dsimp only at hSw); go_simp; try with_reducible rfl)
      (try simp only [Act.put, List.setIfInBounds_toArray, List.set_cons_zero, List.set_cons_succ])
      refine wpAnyH_take (i := 27) (oi := ⟨some 133, _, _, _, _, _⟩) (v := ?_) rfl (by kernel_rfl) (by kernel_rfl) (by kernel_rfl) (fun _ _ _ h => h) (Or.inl ⟨by kernel_rfl, ?_⟩) (by assumption) ?_
      rotate_left
      · (intro w hSw; (try dsimp only at hSw); go_simp; try with_reducible rfl)
      (try simp only [Act.put, List.setIfInBounds_toArray, List.set_cons_zero, List.set_cons_succ])
      refine wpAnyH_take (i := 28) (oi := ⟨some 134, _, _, _, _, _⟩) (v := ?_) rfl (by kernel_rfl) (by kernel_rfl) (by kernel_rfl) (fun _ _ _ h => h) (Or.inl ⟨by kernel_rfl, ?_⟩) (by assumption) ?_
      rotate_left
      · (intro w hSw; (try dsimp only at hSw); go_simp; try with_reducible rfl)
      (try simp only [Act.put, List.setIfInBounds_toArray, List.set_cons_zero, List.set_cons_succ])
      refine wpAnyH_take (i := 29) (oi := ⟨some 135, _, _, _, _, _⟩) (v := ?_) rfl (by kernel_rfl) (by kernel_rfl) (by kernel_rfl) (fun _ _ _ h => h) (Or.inl ⟨by kernel_rfl, ?_⟩) (by assumption) ?_
      rotate_left
      · (intro w hSw; (try dsimp only at hSw); go_simp; try with_reducible rfl)
      (try simp only [Act.put, List.setIfInBounds_toArray, List.set_cons_zero, List.set_cons_succ])
      refine wpAnyH_take (i := 30) (oi := ⟨some 136, _, _, _, _, _⟩) (v := ?_) rfl (by kernel_rfl) (by kernel_rfl) (by kernel_rfl) (fun _ _ _ h => h) (Or.inl ⟨by kernel_rfl, ?_⟩) (by assumption) ?_
      rotate_left
      · (intro w hSw; (try dsimp only at hSw); go_simp; try with_reducible rfl)
      (try simp only [Act.put, List.setIfInBounds_toArray, List.set_cons_zero, List.set_cons_succ])
      refine wpAnyH_take (i := 34) (oi := ⟨some 140, _, _, _, _, _⟩) (v := ?_) rfl (by kernel_rfl) (by kernel_rfl) (by kernel_rfl) (fun _ _ _ h => h) (Or.inl ⟨by kernel_rfl, ?_⟩) (by assumption) ?_
      rotate_left
      · (intro w hSw; (try dsimp only at hSw); go_simp; try with_reducible rfl)
      (try simp only [Act.put, List.setIfInBounds_toArray, List.set_cons_zero, List.set_cons_succ])
      refine wpAnyH_take (i := 35) (oi := ⟨some 141, _, _, _, _, _⟩) (v := ?_) rfl (by kernel_rfl) (by kernel_rfl) (by kernel_rfl) (fun _ _ _ h => h) (Or.inl ⟨by kernel_rfl, ?_⟩) (by assumption) ?_
      rotate_left
      · (intro w hSw; (try dsimp only at hSw); go_simp; try with_reducible rfl)
      (try simp only [Act.put, List.setIfInBounds_toArray, List.set_cons_zero, List.set_cons_succ])
      refine wpAnyH_ready (rs := [31]) (by kernel_rfl) (by simp) ?_
      refine AllReadyH.cons (o := ⟨some 137, _, _, _, _, _⟩) rfl (fun K hK => ?_) AllReadyH.nil
      go_simp
      refine (TRq.out _ (HKE.out _ (HW.out _ J5.out).1).2.1 (HKE.out _ (HW.out _ J5.out).1).2.2.1.two).mono ?_
      rintro e' W6 ⟨a4, c4, rfl, i4, bb6⟩
      have J6 : Hid (Below y5.heap.size y5 W6) := J5.out.trans (bb6.mono J5.out.size)
      refine hK.out _ _ ?_ (fun hHeld => ?_)
      · exact HX.out _ J6.out
      clear hK K bb6
      (try simp only [Act.put, List.setIfInBounds_toArray, List.set_cons_zero, List.set_cons_succ])
      refine wpAnyH_take (i := 32) (oi := ⟨some 138, _, _, _, _, _⟩) (v := ?_) rfl (by kernel_rfl) (by kernel_rfl) (by kernel_rfl) (fun _ _ _ h => h) (Or.inl ⟨by kernel_rfl, ?_⟩) (by assumption) ?_
      rotate_left
      · (intro w hSw; (try dsimp only at hSw); go_simp; try with_reducible rfl)
      (try simp only [Act.put, List.setIfInBounds_toArray, List.set_cons_zero, List.set_cons_succ])
      refine wpAnyH_take (i := 33) (oi := ⟨some 139, _, _, _, _, _⟩) (v := ?_) rfl (by kernel_rfl) (by kernel_rfl) (by kernel_rfl) (fun _ _ _ h => h) (Or.inl ⟨by kernel_rfl, ?_⟩) (by assumption) ?_
      rotate_left
      · (intro w hSw; (try dsimp only at hSw); go_simp; try with_reducible rfl)
      (try simp only [Act.put, List.setIfInBounds_toArray, List.set_cons_zero, List.set_cons_succ])
      refine wpAnyH_ready (rs := [36]) (by kernel_rfl) (by simp) ?_
      refine AllReadyH.cons (o := ⟨some 142, _, _, _, _, _⟩) rfl (fun K hK => ?_) AllReadyH.nil
      go_simp
      refine (TRm.out _ a4 va c4 vc i4 (HW.out _ J6.out).2.1.ints).mono ?_
      rintro e' W7 ⟨rfl, bb7⟩
      have J7 : Hid (Below y5.heap.size y5 W7) := J6.out.trans (bb7.mono J6.out.size)
      refine hK.out _ _ ?_ (fun hHeld => ?_)
      · exact HX.out _ J7.out
      clear hK K bb7
      (try simp only [Act.put, List.setIfInBounds_toArray, List.set_cons_zero, List.set_cons_succ])
      refine wpAnyH_take (i := 37) (oi := ⟨some 143, _, _, _, _, _⟩) (v := ?_) rfl (by kernel_rfl) (by kernel_rfl) (by kernel_rfl) (fun _ _ _ h => h) (Or.inl ⟨by kernel_rfl, ?_⟩) (by assumption) ?_
      rotate_left
      · (intro w hSw; (try dsimp only at hSw); go_simp; try with_reducible rfl)
      (try simp only [Act.put, List.setIfInBounds_toArray, List.set_cons_zero, List.set_cons_succ])
      refine wpAnyH_take (i := 38) (oi := ⟨some 144, _, _, _, _, _⟩) (v := ?_) rfl (by kernel_rfl) (by kernel_rfl) (by kernel_rfl) (fun _ _ _ h => h) (Or.inl ⟨by kernel_rfl, ?_⟩) (by assumption) ?_
      rotate_left
      · (intro w hSw; (try dsimp only at hSw); go_simp; try with_reducible rfl)
      (try simp only [Act.put, List.setIfInBounds_toArray, List.set_cons_zero, List.set_cons_succ])
      refine wpAnyH_take (i := 39) (oi := ⟨some 145, _, _, _, _, _⟩) (v := ?_) rfl (by kernel_rfl) (by kernel_rfl) (by kernel_rfl) (fun _ _ _ h => h) (Or.inl ⟨by kernel_rfl, ?_⟩) (by assumption) ?_
      rotate_left
      · (intro w hSw; (try dsimp only at hSw); go_simp; try with_reducible rfl)
      (try simp only [Act.put, List.setIfInBounds_toArray, List.set_cons_zero, List.set_cons_succ])
      refine wpAnyH_take (i := 40) (oi := ⟨some 146, _, _, _, _, _⟩) (v := ?_) rfl (by kernel_rfl) (by kernel_rfl) (by kernel_rfl) (fun _ _ _ h => h) (Or.inl ⟨by kernel_rfl, ?_⟩) (by assumption) ?_
      rotate_left
      · (intro w hSw; (try dsimp only at hSw); go_simp; try with_reducible rfl)
      (try simp only [Act.put, List.setIfInBounds_toArray, List.set_cons_zero, List.set_cons_succ])
      refine wpAnyH_done (by kernel_rfl) ?_ _
      go_wp2_with fail
      go_meet
      case rel => exact ⟨by first | rfl | simp, J7.out⟩
  case rest =>
  obtain ⟨rfl, hcut⟩ := hcut
  have B13 : Hid (Below w.heap.size w wc) := (HW.out _ hcut).1
  clear hcut HX HW TRc TRg TRr' TRn HG HPk HNk HRl TSs' HC0 HB0
  go_wp2_with fail
  refine (drawCsrRead a1 len1 cap1 _ (by omega) (HC1.out _ B13.out) (HB1.out _ B13.out)).mono ?_
  rintro e' x1 ⟨⟨u, hu, rfl⟩, b1⟩
  have B14 : Hid (Below w.heap.size w x1) := B13.out.trans (b1.mono B13.out.size)
  clear b1 B13
  go_wp2_with fail
  refine (drawCrlRead a1 len1 cap1 _ (by omega) (HC1.out _ B14.out) (HB1.out _ B14.out)).mono ?_
  rintro e' x2 ⟨⟨v, hv, rfl⟩, b2⟩
  have B15 : Hid (Below w.heap.size w x2) := B14.out.trans (b2.mono B14.out.size)
  clear b2 B14
  go_wp2_with fail
  refine (drawCrlGood a1 len1 cap1 _ (by omega) (HC1.out _ B15.out) (HB1.out _ B15.out)).mono ?_
  rintro e' x3 ⟨⟨key, diss, dfr, dtill, dser, dsk, dse, dss, da, dl, dz, rfl, hxk, hdl, hod, hmd⟩, b3⟩
  obtain ⟨x4, hx4⟩ : ∃ y, y = x3.alloc (.cells [Value.string diss, .int .i64 dfr, .int .i64 dtill, .slice da dl dz, .int .i64 dsk, .int .i64 dse, .int .i64 dss].toArray 53 (0, 0)) := ⟨_, rfl⟩
  have bx4 : Below x3.heap.size x3 x4 := by rw [hx4]; exact (Below.refl _ _).alloc (Nat.le_refl _) _
  have RD4 : Hid (x4.heap[x3.heap.size]? = some (.cells [Value.string diss, .int .i64 dfr, .int .i64 dtill, .slice da dl dz, .int .i64 dsk, .int .i64 dse, .int .i64 dss].toArray 53 (0, 0))) := by rw [hx4]; exact heap_alloc_new x3 _
  have ID4 : Hid (IsInts x4 da dser) := hod.ints.keep bx4
  have B16 : Hid (Below w.heap.size w x4) := B15.out.trans ((b3.trans (bx4.mono b3.size)).mono B15.out.size)
  have diss' := hmd.iss
  have dlen' := hmd.len
  simp only at diss' dlen'
  have TGi : Hid (∀ V, Keys V → Err3 V → IsInts V da dser → Calls Tryz.prog 34 #[.int .i64 key, .agg #[.string diss, .int .i64 dfr, .int .i64 dtill, .slice da dl dz, .int .i64 dsk, .int .i64 dse, .int .i64 dss]] V fun e w' => e = .returned (.bool (crlGoodB key ⟨diss, dfr, dtill, dser, dsk, dse, dss⟩)) ∧ Below V.heap.size V w') := fun V h1 h2 hV => by
    have q := implCrlGood key ⟨diss, dfr, dtill, dser, dsk, dse, dss⟩ da dz V (by show diss.size ≤ maxLen; unfold maxLen; omega) (by show dser.length ≤ _; omega) hV h1 h2
    rw [show (⟨diss, dfr, dtill, dser, dsk, dse, dss⟩ : Lst).serials.length = dl from hdl.out.symm] at q
    exact q
  have TGs : Hid (∀ V, IsInts V da dser → Calls Tryz.prog 42 #[.int .i64 key, .agg #[.string diss, .int .i64 dfr, .int .i64 dtill, .slice da dl dz, .int .i64 dsk, .int .i64 dse, .int .i64 dss]] V fun e w' => e = .returned (.bool (crlGoodB key ⟨diss, dfr, dtill, dser, dsk, dse, dss⟩)) ∧ Below V.heap.size V w') := fun V hV => by
    have q := specCrlGood key ⟨diss, dfr, dtill, dser, dsk, dse, dss⟩ da dz V (by show diss.size ≤ maxLen; unfold maxLen; omega) (by show dser.length ≤ _; omega) hV
    rw [show (⟨diss, dfr, dtill, dser, dsk, dse, dss⟩ : Lst).serials.length = dl from hdl.out.symm] at q
    exact q
  generalize crlGoodB key ⟨diss, dfr, dtill, dser, dsk, dse, dss⟩ = dg at *
  have hum : u.size ≤ maxLen := by unfold maxLen; omega
  have hvm : v.size ≤ maxLen := by unfold maxLen; omega
  have htold : (csrS u).2 = 0 → csrBytesD (csrS u).1 = u := csr_told
  have TYi : Hid (∀ V, Keys V → ErrType V → Err4 V → Calls Tryz.prog 28 #[.string u] V fun e w' => ∃ v, e = .returned (csrV (csrS u).1 v (csrS u).2) ∧ OwnS w' V.heap.size v (csrS u).1.names ∧ Below V.heap.size V w') := fun V h1 h2 h3 => by have q := implCsrRead u V hum h1 h2 h3; rw [csrR_eq] at q; exact q
  have TYs : Hid (∀ V, Calls Tryz.prog 40 #[.string u] V fun e w' => ∃ v, e = .returned (csrV (csrS u).1 v (csrS u).2) ∧ OwnS w' V.heap.size v (csrS u).1.names ∧ Below V.heap.size V w') := fun V => specCsrRead u V
  have hys := csrS_sizes u
  have hqold : (crlS v).2 = 0 → crlBytesD (crlS v).1 = v := crl_told
  have TQi : Hid (∀ V, ErrType V → Err2 V → Calls Tryz.prog 35 #[.string v] V fun e w' => ∃ z, e = .returned (crlV (crlS v).1 z (crlS v).2) ∧ OwnL w' V.heap.size z (crlS v).1.serials ∧ Below V.heap.size V w') := fun V h1 h2 => by have q := implCrlRead v V hvm h1 h2; rw [crlR_eq] at q; exact q
  have TQs : Hid (∀ V, Calls Tryz.prog 41 #[.string v] V fun e w' => ∃ z, e = .returned (crlV (crlS v).1 z (crlS v).2) ∧ OwnL w' V.heap.size z (crlS v).1.serials ∧ Below V.heap.size V w') := fun V => specCrlRead v V
  have hqs := @crlS_sizes v
  have hqf := crlS_fit v
  generalize csrS u = Y at *
  generalize crlS v = Q at *
  obtain ⟨⟨ykey, ynames, ysk, yse, yss⟩, yc⟩ := Y
  obtain ⟨⟨qiss, qfr, qtill, qser, qsk, qse, qss⟩, qc⟩ := Q
  unfold csrV at TYi TYs
  unfold crlV at TQi TQs
  simp only at TYi TYs TQi TQs htold hys hqold hqs hqf
  have TYb : Hid (yc = 0 → ∀ V a c, Keys V → Err3 V → IsStrs V a ynames → Calls Tryz.prog 24 #[.agg #[.int .i64 ykey, .slice a ynames.length c, .int .i64 ysk, .int .i64 yse, .int .i64 yss]] V fun e w' => e = .returned (.string u) ∧ Below V.heap.size V w') := fun h V a c h1 h2 hV => by
    have q := implCsrBytes ⟨ykey, ynames, ysk, yse, yss⟩ a c V hys.1 hys.2 hV h1 h2
    rw [htold h] at q
    exact q
  have TQb : Hid (qc = 0 → ∀ V a c, Err1 V → IsInts V a qser → Calls Tryz.prog 31 #[.agg #[.string qiss, .int .i64 qfr, .int .i64 qtill, .slice a qser.length c, .int .i64 qsk, .int .i64 qse, .int .i64 qss]] V fun e w' => e = .returned (.string v) ∧ Below V.heap.size V w') := fun h V a c h1 hV => by
    have k1 := hqs h
    have q := implCrlBytes ⟨qiss, qfr, qtill, qser, qsk, qse, qss⟩ a c V (by show qiss.size ≤ maxLen; unfold maxLen; omega) hqf hV h1
    rw [hqold h] at q
    exact q
  clear htold hys hqold hqs hqf hum hvm hu hv b3 bx4 hod hmd hdl hxk diss' dlen' B15
  go_upto_region 17 with fail
  rw [← hx4]
  clear hx4
  go_wp2_with fail
  refine (TYi.out _ (HKE.out _ B16.out).1 (HKE.out _ B16.out).2.1 (HKE.out _ B16.out).2.2.1).mono ?_
  rintro e' x5 ⟨v5, rfl, o5, b5⟩
  obtain ⟨ya, yz, rfl, _⟩ := o5.form
  obtain ⟨yl, hyl⟩ : ∃ n, n = ynames.length := ⟨_, rfl⟩
  rw [← hyl] at o5 TYb ⊢
  clear hyl
  obtain ⟨x6, hx6⟩ : ∃ y, y = x5.alloc (.cells [Value.int .i64 ykey, .slice ya yl yz, .int .i64 ysk, .int .i64 yse, .int .i64 yss, .int .i64 yc].toArray 49 (0, 0)) := ⟨_, rfl⟩
  have bx6 : Below x5.heap.size x5 x6 := by rw [hx6]; exact (Below.refl _ _).alloc (Nat.le_refl _) _
  have RY6 : Hid (x6.heap[x5.heap.size]? = some (.cells [Value.int .i64 ykey, .slice ya yl yz, .int .i64 ysk, .int .i64 yse, .int .i64 yss, .int .i64 yc].toArray 49 (0, 0))) := by rw [hx6]; exact heap_alloc_new x5 _
  have E6 : Below x4.heap.size x4 x6 := b5.trans (bx6.mono b5.size)
  have RD6 : Hid (x6.heap[x3.heap.size]? = some (.cells [Value.string diss, .int .i64 dfr, .int .i64 dtill, .slice da dl dz, .int .i64 dsk, .int .i64 dse, .int .i64 dss].toArray 53 (0, 0))) := by show _ = _; rw [E6.block _ (heap_lt RD4.out)]; exact RD4.out
  have ID6 : Hid (IsInts x6 da dser) := ID4.out.keep E6
  have IY6 : Hid (IsStrs x6 ya ynames) := o5.strs.keep bx6
  have B17 : Hid (Below w.heap.size w x6) := B16.out.trans (E6.mono B16.out.size)
  clear b5 bx6 E6 o5 RD4 ID4 B16 TYi
  go_upto_region 18 with fail
  rw [← hx6]
  clear hx6
  go_wp2_with fail
  refine (TQi.out _ (HKE.out _ B17.out).2.1 (HKE.out _ B17.out).2.2.1.two).mono ?_
  rintro e' x7 ⟨v7, rfl, o7, b7⟩
  obtain ⟨qa, qz, rfl, _⟩ := o7.form
  obtain ⟨ql, hql⟩ : ∃ n, n = qser.length := ⟨_, rfl⟩
  rw [← hql] at o7 TQb ⊢
  clear hql
  obtain ⟨x8, hx8⟩ : ∃ y, y = x7.alloc (.cells [Value.string qiss, .int .i64 qfr, .int .i64 qtill, .slice qa ql qz, .int .i64 qsk, .int .i64 qse, .int .i64 qss, .int .i64 qc].toArray 60 (0, 0)) := ⟨_, rfl⟩
  have bx8 : Below x7.heap.size x7 x8 := by rw [hx8]; exact (Below.refl _ _).alloc (Nat.le_refl _) _
  have RQ8 : Hid (x8.heap[x7.heap.size]? = some (.cells [Value.string qiss, .int .i64 qfr, .int .i64 qtill, .slice qa ql qz, .int .i64 qsk, .int .i64 qse, .int .i64 qss, .int .i64 qc].toArray 60 (0, 0))) := by rw [hx8]; exact heap_alloc_new x7 _
  have E8 : Below x6.heap.size x6 x8 := b7.trans (bx8.mono b7.size)
  have RD8 : Hid (x8.heap[x3.heap.size]? = some (.cells [Value.string diss, .int .i64 dfr, .int .i64 dtill, .slice da dl dz, .int .i64 dsk, .int .i64 dse, .int .i64 dss].toArray 53 (0, 0))) := by show _ = _; rw [E8.block _ (heap_lt RD6.out)]; exact RD6.out
  have RY8 : Hid (x8.heap[x5.heap.size]? = some (.cells [Value.int .i64 ykey, .slice ya yl yz, .int .i64 ysk, .int .i64 yse, .int .i64 yss, .int .i64 yc].toArray 49 (0, 0))) := by show _ = _; rw [E8.block _ (heap_lt RY6.out)]; exact RY6.out
  have ID8 : Hid (IsInts x8 da dser) := ID6.out.keep E8
  have IY8 : Hid (IsStrs x8 ya ynames) := IY6.out.keep E8
  have IQ8 : Hid (IsInts x8 qa qser) := o7.ints.keep bx8
  have B18 : Hid (Below w.heap.size w x8) := B17.out.trans (E8.mono B17.out.size)
  clear b7 bx8 E8 o7 RD6 RY6 ID6 IY6 B17 TQi
  go_upto_region 19 with fail
  rw [← hx8]
  clear hx8
  have HX : Hid (∀ V, Below x8.heap.size x8 V → ((V.cell? ⟨x5.heap.size, 0, none⟩ = some (.int .i64 ykey) ∧ V.cell? ⟨x5.heap.size, 1, none⟩ = some (.slice ya yl yz) ∧ V.cell? ⟨x5.heap.size, 2, none⟩ = some (.int .i64 ysk) ∧ V.cell? ⟨x5.heap.size, 3, none⟩ = some (.int .i64 yse) ∧ V.cell? ⟨x5.heap.size, 4, none⟩ = some (.int .i64 yss) ∧ V.cell? ⟨x5.heap.size, 5, none⟩ = some (.int .i64 yc)) ∧ (V.cell? ⟨x7.heap.size, 0, none⟩ = some (.string qiss) ∧ V.cell? ⟨x7.heap.size, 1, none⟩ = some (.int .i64 qfr) ∧ V.cell? ⟨x7.heap.size, 2, none⟩ = some (.int .i64 qtill) ∧ V.cell? ⟨x7.heap.size, 3, none⟩ = some (.slice qa ql qz) ∧ V.cell? ⟨x7.heap.size, 4, none⟩ = some (.int .i64 qsk) ∧ V.cell? ⟨x7.heap.size, 5, none⟩ = some (.int .i64 qse) ∧ V.cell? ⟨x7.heap.size, 6, none⟩ = some (.int .i64 qss) ∧ V.cell? ⟨x7.heap.size, 7, none⟩ = some (.int .i64 qc)) ∧ (V.cell? ⟨x3.heap.size, 0, none⟩ = some (.string diss) ∧ V.cell? ⟨x3.heap.size, 1, none⟩ = some (.int .i64 dfr) ∧ V.cell? ⟨x3.heap.size, 2, none⟩ = some (.int .i64 dtill) ∧ V.cell? ⟨x3.heap.size, 3, none⟩ = some (.slice da dl dz) ∧ V.cell? ⟨x3.heap.size, 4, none⟩ = some (.int .i64 dsk) ∧ V.cell? ⟨x3.heap.size, 5, none⟩ = some (.int .i64 dse) ∧ V.cell? ⟨x3.heap.size, 6, none⟩ = some (.int .i64 dss)))) := fun V hV => by
    have h1 : V.heap[x5.heap.size]? = some (.cells [Value.int .i64 ykey, .slice ya yl yz, .int .i64 ysk, .int .i64 yse, .int .i64 yss, .int .i64 yc].toArray 49 (0, 0)) := by rw [hV.block _ (heap_lt RY8.out)]; exact RY8.out
    have h2 : V.heap[x7.heap.size]? = some (.cells [Value.string qiss, .int .i64 qfr, .int .i64 qtill, .slice qa ql qz, .int .i64 qsk, .int .i64 qse, .int .i64 qss, .int .i64 qc].toArray 60 (0, 0)) := by rw [hV.block _ (heap_lt RQ8.out)]; exact RQ8.out
    have h3 : V.heap[x3.heap.size]? = some (.cells [Value.string diss, .int .i64 dfr, .int .i64 dtill, .slice da dl dz, .int .i64 dsk, .int .i64 dse, .int .i64 dss].toArray 53 (0, 0)) := by rw [hV.block _ (heap_lt RD8.out)]; exact RD8.out
    exact ⟨⟨rowFacts h1 0 _ rfl, rowFacts h1 1 _ rfl, rowFacts h1 2 _ rfl, rowFacts h1 3 _ rfl, rowFacts h1 4 _ rfl, rowFacts h1 5 _ rfl⟩, ⟨rowFacts h2 0 _ rfl, rowFacts h2 1 _ rfl, rowFacts h2 2 _ rfl, rowFacts h2 3 _ rfl, rowFacts h2 4 _ rfl, rowFacts h2 5 _ rfl, rowFacts h2 6 _ rfl, rowFacts h2 7 _ rfl⟩, ⟨rowFacts h3 0 _ rfl, rowFacts h3 1 _ rfl, rowFacts h3 2 _ rfl, rowFacts h3 3 _ rfl, rowFacts h3 4 _ rfl, rowFacts h3 5 _ rfl, rowFacts h3 6 _ rfl⟩⟩
  have HW : Hid (∀ V, Below x8.heap.size x8 V → Below w.heap.size w V ∧ IsStrs V ya ynames ∧ IsInts V qa qser ∧ IsInts V da dser) := fun V hV => ⟨B18.out.trans (hV.mono B18.out.size), IY8.out.keep hV, IQ8.out.keep hV, ID8.out.keep hV⟩
  clear RY8 RQ8 RD8 IY8 IQ8 ID8 B18
  have eyc : (yc == yc) = true := by simp
  have eqc : (qc == qc) = true := by simp
  have edg : (dg == dg) = true := by simp
  have fy : ∀ (v : Value) (W : World), (Instr.field 49 (.agg #[.int .i64 ykey, v, .int .i64 ysk, .int .i64 yse, .int .i64 yss, .int .i64 yc]) 1).run Tryz.prog W = .ok (.int .i64 yc) W := fun v W => by kernel_rfl
  have fq : ∀ (v : Value) (W : World), (Instr.field 60 (.agg #[.string qiss, .int .i64 qfr, .int .i64 qtill, v, .int .i64 qsk, .int .i64 qse, .int .i64 qss, .int .i64 qc]) 1).run Tryz.prog W = .ok (.int .i64 qc) W := fun v W => by kernel_rfl
  by_cases hyc : yc = 0
  · subst hyc
    have TP := TYb.out rfl
    have TYq : Hid _ := TP
    clear TP TYb eyc
    by_cases hqc : qc = 0
    · as_aux_lemma =>
      subst hqc
      have TP := TQb.out rfl
      have TQq : Hid _ := TP
      clear TP TQb eqc
      have J0 : Hid (Below x8.heap.size x8 x8.drew) := (Below.refl _ _).drew
      refine wp_region_held_drew (S := fun V => ((V.cell? ⟨x5.heap.size, 0, none⟩ = some (.int .i64 ykey) ∧ V.cell? ⟨x5.heap.size, 1, none⟩ = some (.slice ya yl yz) ∧ V.cell? ⟨x5.heap.size, 2, none⟩ = some (.int .i64 ysk) ∧ V.cell? ⟨x5.heap.size, 3, none⟩ = some (.int .i64 yse) ∧ V.cell? ⟨x5.heap.size, 4, none⟩ = some (.int .i64 yss) ∧ V.cell? ⟨x5.heap.size, 5, none⟩ = some (.int .i64 0)) ∧ (V.cell? ⟨x7.heap.size, 0, none⟩ = some (.string qiss) ∧ V.cell? ⟨x7.heap.size, 1, none⟩ = some (.int .i64 qfr) ∧ V.cell? ⟨x7.heap.size, 2, none⟩ = some (.int .i64 qtill) ∧ V.cell? ⟨x7.heap.size, 3, none⟩ = some (.slice qa ql qz) ∧ V.cell? ⟨x7.heap.size, 4, none⟩ = some (.int .i64 qsk) ∧ V.cell? ⟨x7.heap.size, 5, none⟩ = some (.int .i64 qse) ∧ V.cell? ⟨x7.heap.size, 6, none⟩ = some (.int .i64 qss) ∧ V.cell? ⟨x7.heap.size, 7, none⟩ = some (.int .i64 0)) ∧ (V.cell? ⟨x3.heap.size, 0, none⟩ = some (.string diss) ∧ V.cell? ⟨x3.heap.size, 1, none⟩ = some (.int .i64 dfr) ∧ V.cell? ⟨x3.heap.size, 2, none⟩ = some (.int .i64 dtill) ∧ V.cell? ⟨x3.heap.size, 3, none⟩ = some (.slice da dl dz) ∧ V.cell? ⟨x3.heap.size, 4, none⟩ = some (.int .i64 dsk) ∧ V.cell? ⟨x3.heap.size, 5, none⟩ = some (.int .i64 dse) ∧ V.cell? ⟨x3.heap.size, 6, none⟩ = some (.int .i64 dss)))) (by kernel_rfl) ?_ (fun hHeld => ?_)
      · exact HX.out _ J0.out
      refine wpAnyH_take (i := 0) (oi := ⟨some 160, _, _, _, _, _⟩) (v := ?_) rfl (by kernel_rfl) (by kernel_rfl) (by kernel_rfl) (fun _ _ _ h => h) (Or.inl ⟨by kernel_rfl, ?_⟩) (by assumption) ?_
      rotate_left
      · (intro w hSw; (try dsimp only at hSw); go_simp; try with_reducible rfl)
      (try simp only [Act.put, List.setIfInBounds_toArray, List.set_cons_zero, List.set_cons_succ])
      refine wpAnyH_take (i := 1) (oi := ⟨some 161, _, _, _, _, _⟩) (v := ?_) rfl (by kernel_rfl) (by kernel_rfl) (by kernel_rfl) (fun _ _ _ h => h) (Or.inl ⟨by kernel_rfl, ?_⟩) (by assumption) ?_
      rotate_left
      · (intro w hSw; (try dsimp only at hSw); go_simp; try with_reducible rfl)
      (try simp only [Act.put, List.setIfInBounds_toArray, List.set_cons_zero, List.set_cons_succ])
      refine wpAnyH_take (i := 2) (oi := ⟨some 162, _, _, _, _, _⟩) (v := ?_) rfl (by kernel_rfl) (by kernel_rfl) (by kernel_rfl) (fun _ _ _ h => h) (Or.inl ⟨by kernel_rfl, ?_⟩) (by assumption) ?_
      rotate_left
      · (intro w hSw; (try dsimp only at hSw); go_simp; try with_reducible rfl)
      (try simp only [Act.put, List.setIfInBounds_toArray, List.set_cons_zero, List.set_cons_succ])
      refine wpAnyH_ready (rs := [3]) (by kernel_rfl) (by simp) ?_
      refine AllReadyH.cons (o := ⟨some 163, _, _, _, _, _⟩) rfl (fun K hK => ?_) AllReadyH.nil
      go_simp
      refine (TYs.out _).mono ?_
      rintro e' W1 ⟨v5, rfl, o5, bb1⟩
      have J1 : Hid (Below x8.heap.size x8 W1) := J0.out.trans (bb1.mono J0.out.size)
      refine hK.out _ _ ?_ (fun hHeld => ?_)
      · exact HX.out _ J1.out
      clear hK K bb1
      (try simp only [Act.put, List.setIfInBounds_toArray, List.set_cons_zero, List.set_cons_succ])
      refine wpAnyH_take (i := 4) (oi := ⟨some 164, _, _, _, _, _⟩) (v := ?_) rfl (by kernel_rfl) (by kernel_rfl) (by kernel_rfl) (fun _ _ _ h => h) (Or.inl ⟨by kernel_rfl, ?_⟩) (by assumption) ?_
      rotate_left
      · (intro w hSw; (try dsimp only at hSw); go_simp; try with_reducible rfl)
      (try simp only [Act.put, List.setIfInBounds_toArray, List.set_cons_zero, List.set_cons_succ])
      refine wpAnyH_take (i := 5) (oi := ⟨some 165, _, _, _, _, _⟩) (v := ?_) rfl (by kernel_rfl) (by kernel_rfl) (by kernel_rfl) (fun _ _ _ h => h) (Or.inl ⟨by kernel_rfl, ?_⟩) (by assumption) ?_
      rotate_left
      · (intro w hSw; (try dsimp only at hSw); go_simp; try with_reducible rfl)
      (try simp only [Act.put, List.setIfInBounds_toArray, List.set_cons_zero, List.set_cons_succ])
      refine wpAnyH_take (i := 6) (oi := ⟨some 166, _, _, _, _, _⟩) (v := ?_) rfl (by kernel_rfl) (by kernel_rfl) (by kernel_rfl) (fun _ _ _ h => h) (Or.inl ⟨by kernel_rfl, ?_⟩) (by assumption) ?_
      rotate_left
      · (intro w hSw; (try dsimp only at hSw); go_simp; try with_reducible rfl)
      (try simp only [Act.put, List.setIfInBounds_toArray, List.set_cons_zero, List.set_cons_succ])
      refine wpAnyH_take (i := 7) (oi := ⟨some 167, _, _, _, _, _⟩) (v := ?_) rfl (by kernel_rfl) (by kernel_rfl) (by kernel_rfl) (fun _ _ _ h => h) (Or.inl ⟨by kernel_rfl, ?_⟩) (by assumption) ?_
      rotate_left
      · (intro w hSw; (try dsimp only at hSw); go_simp; try with_reducible rfl)
      (try simp only [Act.put, List.setIfInBounds_toArray, List.set_cons_zero, List.set_cons_succ])
      refine wpAnyH_take (i := 8) (oi := ⟨some 168, _, _, _, _, _⟩) (v := ?_) rfl (by kernel_rfl) (by kernel_rfl) (by kernel_rfl) (fun _ _ _ h => h) (Or.inl ⟨by kernel_rfl, ?_⟩) (by assumption) ?_
      rotate_left
      · (intro w hSw; (try dsimp only at hSw); go_simp; try with_reducible rfl)
      (try simp only [Act.put, List.setIfInBounds_toArray, List.set_cons_zero, List.set_cons_succ])
      refine wpAnyH_take (i := 9) (oi := ⟨some 169, _, _, _, _, _⟩) (v := ?_) rfl (by kernel_rfl) (by kernel_rfl) (by kernel_rfl) (fun _ _ _ h => h) (Or.inl ⟨by kernel_rfl, ?_⟩) (by assumption) ?_
      rotate_left
      · (intro w hSw; (try dsimp only at hSw); go_simp; try with_reducible rfl)
      (try simp only [Act.put, List.setIfInBounds_toArray, List.set_cons_zero, List.set_cons_succ])
      refine wpAnyH_ready (rs := [10]) (by kernel_rfl) (by simp) ?_
      refine AllReadyH.cons (o := ⟨some 170, _, _, _, _, _⟩) rfl (fun K hK => ?_) AllReadyH.nil
      go_simp
      refine (TQs.out _).mono ?_
      rintro e' W2 ⟨v6, rfl, o6, bb2⟩
      have J2 : Hid (Below x8.heap.size x8 W2) := J1.out.trans (bb2.mono J1.out.size)
      refine hK.out _ _ ?_ (fun hHeld => ?_)
      · exact HX.out _ J2.out
      clear hK K bb2
      (try simp only [Act.put, List.setIfInBounds_toArray, List.set_cons_zero, List.set_cons_succ])
      refine wpAnyH_take (i := 11) (oi := ⟨some 171, _, _, _, _, _⟩) (v := ?_) rfl (by kernel_rfl) (by kernel_rfl) (by kernel_rfl) (fun _ _ _ h => h) (Or.inl ⟨by kernel_rfl, ?_⟩) (by assumption) ?_
      rotate_left
      · (intro w hSw; (try dsimp only at hSw); go_simp; try with_reducible rfl)
      (try simp only [Act.put, List.setIfInBounds_toArray, List.set_cons_zero, List.set_cons_succ])
      refine wpAnyH_take (i := 12) (oi := ⟨some 172, _, _, _, _, _⟩) (v := ?_) rfl (by kernel_rfl) (by kernel_rfl) (by kernel_rfl) (fun _ _ _ h => h) (Or.inl ⟨by kernel_rfl, ?_⟩) (by assumption) ?_
      rotate_left
      · (intro w hSw; (try dsimp only at hSw); go_simp; try with_reducible rfl)
      (try simp only [Act.put, List.setIfInBounds_toArray, List.set_cons_zero, List.set_cons_succ])
      refine wpAnyH_take (i := 13) (oi := ⟨some 173, _, _, _, _, _⟩) (v := ?_) rfl (by kernel_rfl) (by kernel_rfl) (by kernel_rfl) (fun _ _ _ h => h) (Or.inl ⟨by kernel_rfl, ?_⟩) (by assumption) ?_
      rotate_left
      · (intro w hSw; (try dsimp only at hSw); go_simp; try with_reducible rfl)
      (try simp only [Act.put, List.setIfInBounds_toArray, List.set_cons_zero, List.set_cons_succ])
      refine wpAnyH_take (i := 14) (oi := ⟨some 174, _, _, _, _, _⟩) (v := ?_) rfl (by kernel_rfl) (by kernel_rfl) (by kernel_rfl) (fun _ _ _ h => h) (Or.inl ⟨by kernel_rfl, ?_⟩) (by assumption) ?_
      rotate_left
      · (intro w hSw; (try dsimp only at hSw); go_simp; try with_reducible rfl)
      (try simp only [Act.put, List.setIfInBounds_toArray, List.set_cons_zero, List.set_cons_succ])
      refine wpAnyH_take (i := 15) (oi := ⟨some 175, _, _, _, _, _⟩) (v := ?_) rfl (by kernel_rfl) (by kernel_rfl) (by kernel_rfl) (fun _ _ _ h => h) (Or.inl ⟨by kernel_rfl, ?_⟩) (by assumption) ?_
      rotate_left
      · (intro w hSw; (try dsimp only at hSw); go_simp; try with_reducible rfl)
      (try simp only [Act.put, List.setIfInBounds_toArray, List.set_cons_zero, List.set_cons_succ])
      refine wpAnyH_take (i := 16) (oi := ⟨some 176, _, _, _, _, _⟩) (v := ?_) rfl (by kernel_rfl) (by kernel_rfl) (by kernel_rfl) (fun _ _ _ h => h) (Or.inl ⟨by kernel_rfl, ?_⟩) (by assumption) ?_
      rotate_left
      · (intro w hSw; (try dsimp only at hSw); go_simp; try with_reducible rfl)
      (try simp only [Act.put, List.setIfInBounds_toArray, List.set_cons_zero, List.set_cons_succ])
      refine wpAnyH_take (i := 17) (oi := ⟨some 177, _, _, _, _, _⟩) (v := ?_) rfl (by kernel_rfl) (by kernel_rfl) (by kernel_rfl) (fun _ _ _ h => h) (Or.inl ⟨by kernel_rfl, ?_⟩) (by assumption) ?_
      rotate_left
      · (intro w hSw; (try dsimp only at hSw); go_simp; try with_reducible rfl)
      (try simp only [Act.put, List.setIfInBounds_toArray, List.set_cons_zero, List.set_cons_succ])
      refine wpAnyH_take (i := 18) (oi := ⟨some 178, _, _, _, _, _⟩) (v := ?_) rfl (by kernel_rfl) (by kernel_rfl) (by kernel_rfl) (fun _ _ _ h => h) (Or.inl ⟨by kernel_rfl, ?_⟩) (by assumption) ?_
      rotate_left
      · (intro w hSw; (try dsimp only at hSw); go_simp; try with_reducible rfl)
      (try simp only [Act.put, List.setIfInBounds_toArray, List.set_cons_zero, List.set_cons_succ])
      refine wpAnyH_take (i := 19) (oi := ⟨some 179, _, _, _, _, _⟩) (v := ?_) rfl (by kernel_rfl) (by kernel_rfl) (by kernel_rfl) (fun _ _ _ h => h) (Or.inl ⟨by kernel_rfl, ?_⟩) (by assumption) ?_
      rotate_left
      · (intro w hSw; (try dsimp only at hSw); go_simp; try with_reducible rfl)
      (try simp only [Act.put, List.setIfInBounds_toArray, List.set_cons_zero, List.set_cons_succ])
      refine wpAnyH_take (i := 20) (oi := ⟨some 180, _, _, _, _, _⟩) (v := ?_) rfl (by kernel_rfl) (by kernel_rfl) (by kernel_rfl) (fun _ _ _ h => h) (Or.inl ⟨by kernel_rfl, ?_⟩) (by assumption) ?_
      rotate_left
      · (intro w hSw; (try dsimp only at hSw); go_simp; try with_reducible rfl)
      (try simp only [Act.put, List.setIfInBounds_toArray, List.set_cons_zero, List.set_cons_succ])
      refine wpAnyH_take (i := 22) (oi := ⟨some 182, _, _, _, _, _⟩) (v := ?_) rfl (by kernel_rfl) (by kernel_rfl) (by kernel_rfl) (fun _ _ _ h => h) (Or.inl ⟨by kernel_rfl, ?_⟩) (by assumption) ?_
      rotate_left
      · (intro w hSw; (try dsimp only at hSw); go_simp; try with_reducible rfl)
      (try simp only [Act.put, List.setIfInBounds_toArray, List.set_cons_zero, List.set_cons_succ])
      refine wpAnyH_ready (rs := [21]) (by kernel_rfl) (by simp) ?_
      refine AllReadyH.cons (o := ⟨some 181, _, _, _, _, _⟩) rfl (fun K hK => ?_) AllReadyH.nil
      go_simp
      refine (TYq.out _ ya yz (HKE.out _ (HW.out _ J2.out).1).1 (HKE.out _ (HW.out _ J2.out).1).2.2.2 (HW.out _ J2.out).2.1).mono ?_
      rintro e' W3 ⟨rfl, bb3⟩
      have J3 : Hid (Below x8.heap.size x8 W3) := J2.out.trans (bb3.mono J2.out.size)
      refine hK.out _ _ ?_ (fun hHeld => ?_)
      · exact HX.out _ J3.out
      clear hK K bb3
      (try simp only [Act.put, List.setIfInBounds_toArray, List.set_cons_zero, List.set_cons_succ])
      refine wpAnyH_take (i := 23) (oi := ⟨some 183, _, _, _, _, _⟩) (v := ?_) rfl (by kernel_rfl) (by kernel_rfl) (by kernel_rfl) (fun _ _ _ h => h) (Or.inl ⟨by kernel_rfl, ?_⟩) (by assumption) ?_
      rotate_left
      · (intro w hSw; (try dsimp only at hSw); go_simp; try with_reducible rfl)
      (try simp only [Act.put, List.setIfInBounds_toArray, List.set_cons_zero, List.set_cons_succ])
      refine wpAnyH_take (i := 24) (oi := ⟨some 184, _, _, _, _, _⟩) (v := ?_) rfl (by kernel_rfl) (by kernel_rfl) (by kernel_rfl) (fun _ _ _ h => h) (Or.inl ⟨by kernel_rfl, ?_⟩) (by assumption) ?_
      rotate_left
      · (intro w hSw; (try dsimp only at hSw); go_simp; try with_reducible rfl)
      (try simp only [Act.put, List.setIfInBounds_toArray, List.set_cons_zero, List.set_cons_succ])
      refine wpAnyH_take (i := 25) (oi := ⟨some 185, _, _, _, _, _⟩) (v := ?_) rfl (by kernel_rfl) (by kernel_rfl) (by kernel_rfl) (fun _ _ _ h => h) (Or.inl ⟨by kernel_rfl, ?_⟩) (by assumption) ?_
      rotate_left
      · (intro w hSw; (try dsimp only at hSw); go_simp; try with_reducible rfl)
      (try simp only [Act.put, List.setIfInBounds_toArray, List.set_cons_zero, List.set_cons_succ])
      refine wpAnyH_take (i := 26) (oi := ⟨some 186, _, _, _, _, _⟩) (v := ?_) rfl (by kernel_rfl) (by kernel_rfl) (by kernel_rfl) (fun _ _ _ h => h) (Or.inl ⟨by kernel_rfl, ?_⟩) (by assumption) ?_
      rotate_left
      · (intro w hSw; (try dsimp only at hSw); go_simp; try with_reducible rfl)
      (try simp only [Act.put, List.setIfInBounds_toArray, List.set_cons_zero, List.set_cons_succ])
      refine wpAnyH_take (i := 27) (oi := ⟨some 187, _, _, _, _, _⟩) (v := ?_) rfl (by kernel_rfl) (by kernel_rfl) (by kernel_rfl) (fun _ _ _ h => h) (Or.inl ⟨by kernel_rfl, ?_⟩) (by assumption) ?_
      rotate_left
      · (intro w hSw; (try dsimp only at hSw); go_simp; try with_reducible rfl)
      (try simp only [Act.put, List.setIfInBounds_toArray, List.set_cons_zero, List.set_cons_succ])
      refine wpAnyH_take (i := 28) (oi := ⟨some 188, _, _, _, _, _⟩) (v := ?_) rfl (by kernel_rfl) (by kernel_rfl) (by kernel_rfl) (fun _ _ _ h => h) (Or.inl ⟨by kernel_rfl, ?_⟩) (by assumption) ?_
      rotate_left
      · (intro w hSw; (try dsimp only at hSw); go_simp; try with_reducible rfl)
      (try simp only [Act.put, List.setIfInBounds_toArray, List.set_cons_zero, List.set_cons_succ])
      refine wpAnyH_take (i := 29) (oi := ⟨some 189, _, _, _, _, _⟩) (v := ?_) rfl (by kernel_rfl) (by kernel_rfl) (by kernel_rfl) (fun _ _ _ h => h) (Or.inl ⟨by kernel_rfl, ?_⟩) (by assumption) ?_
      rotate_left
      · (intro w hSw; (try dsimp only at hSw); go_simp; try with_reducible rfl)
      (try simp only [Act.put, List.setIfInBounds_toArray, List.set_cons_zero, List.set_cons_succ])
      refine wpAnyH_take (i := 30) (oi := ⟨some 190, _, _, _, _, _⟩) (v := ?_) rfl (by kernel_rfl) (by kernel_rfl) (by kernel_rfl) (fun _ _ _ h => h) (Or.inl ⟨by kernel_rfl, ?_⟩) (by assumption) ?_
      rotate_left
      · (intro w hSw; (try dsimp only at hSw); go_simp; try with_reducible rfl)
      (try simp only [Act.put, List.setIfInBounds_toArray, List.set_cons_zero, List.set_cons_succ])
      refine wpAnyH_take (i := 31) (oi := ⟨some 191, _, _, _, _, _⟩) (v := ?_) rfl (by kernel_rfl) (by kernel_rfl) (by kernel_rfl) (fun _ _ _ h => h) (Or.inl ⟨by kernel_rfl, ?_⟩) (by assumption) ?_
      rotate_left
      · (intro w hSw; (try dsimp only at hSw); go_simp; try with_reducible rfl)
      (try simp only [Act.put, List.setIfInBounds_toArray, List.set_cons_zero, List.set_cons_succ])
      refine wpAnyH_take (i := 32) (oi := ⟨some 192, _, _, _, _, _⟩) (v := ?_) rfl (by kernel_rfl) (by kernel_rfl) (by kernel_rfl) (fun _ _ _ h => h) (Or.inl ⟨by kernel_rfl, ?_⟩) (by assumption) ?_
      rotate_left
      · (intro w hSw; (try dsimp only at hSw); go_simp; try with_reducible rfl)
      (try simp only [Act.put, List.setIfInBounds_toArray, List.set_cons_zero, List.set_cons_succ])
      refine wpAnyH_take (i := 34) (oi := ⟨some 194, _, _, _, _, _⟩) (v := ?_) rfl (by kernel_rfl) (by kernel_rfl) (by kernel_rfl) (fun _ _ _ h => h) (Or.inl ⟨by kernel_rfl, ?_⟩) (by assumption) ?_
      rotate_left
      · (intro w hSw; (try dsimp only at hSw); go_simp; try with_reducible rfl)
      (try simp only [Act.put, List.setIfInBounds_toArray, List.set_cons_zero, List.set_cons_succ])
      refine wpAnyH_ready (rs := [33]) (by kernel_rfl) (by simp) ?_
      refine AllReadyH.cons (o := ⟨some 193, _, _, _, _, _⟩) rfl (fun K hK => ?_) AllReadyH.nil
      go_simp
      refine (TQq.out _ qa qz (HKE.out _ (HW.out _ J3.out).1).2.2.1.one (HW.out _ J3.out).2.2.1).mono ?_
      rintro e' W4 ⟨rfl, bb4⟩
      have J4 : Hid (Below x8.heap.size x8 W4) := J3.out.trans (bb4.mono J3.out.size)
      refine hK.out _ _ ?_ (fun hHeld => ?_)
      · exact HX.out _ J4.out
      clear hK K bb4
      (try simp only [Act.put, List.setIfInBounds_toArray, List.set_cons_zero, List.set_cons_succ])
      refine wpAnyH_take (i := 35) (oi := ⟨some 195, _, _, _, _, _⟩) (v := ?_) rfl (by kernel_rfl) (by kernel_rfl) (by kernel_rfl) (fun _ _ _ h => h) (Or.inl ⟨by kernel_rfl, ?_⟩) (by assumption) ?_
      rotate_left
      · (intro w hSw; (try dsimp only at hSw); go_simp; try with_reducible rfl)
      (try simp only [Act.put, List.setIfInBounds_toArray, List.set_cons_zero, List.set_cons_succ])
      refine wpAnyH_take (i := 36) (oi := ⟨some 196, _, _, _, _, _⟩) (v := ?_) rfl (by kernel_rfl) (by kernel_rfl) (by kernel_rfl) (fun _ _ _ h => h) (Or.inl ⟨by kernel_rfl, ?_⟩) (by assumption) ?_
      rotate_left
      · (intro w hSw; (try dsimp only at hSw); go_simp; try with_reducible rfl)
      (try simp only [Act.put, List.setIfInBounds_toArray, List.set_cons_zero, List.set_cons_succ])
      refine wpAnyH_take (i := 37) (oi := ⟨some 197, _, _, _, _, _⟩) (v := ?_) rfl (by kernel_rfl) (by kernel_rfl) (by kernel_rfl) (fun _ _ _ h => h) (Or.inl ⟨by kernel_rfl, ?_⟩) (by assumption) ?_
      rotate_left
      · (intro w hSw; (try dsimp only at hSw); go_simp; try with_reducible rfl)
      (try simp only [Act.put, List.setIfInBounds_toArray, List.set_cons_zero, List.set_cons_succ])
      refine wpAnyH_take (i := 38) (oi := ⟨some 198, _, _, _, _, _⟩) (v := ?_) rfl (by kernel_rfl) (by kernel_rfl) (by kernel_rfl) (fun _ _ _ h => h) (Or.inl ⟨by kernel_rfl, ?_⟩) (by assumption) ?_
      rotate_left
      · (intro w hSw; (try dsimp only at hSw); go_simp; try with_reducible rfl)
      (try simp only [Act.put, List.setIfInBounds_toArray, List.set_cons_zero, List.set_cons_succ])
      refine wpAnyH_take (i := 39) (oi := ⟨some 199, _, _, _, _, _⟩) (v := ?_) rfl (by kernel_rfl) (by kernel_rfl) (by kernel_rfl) (fun _ _ _ h => h) (Or.inl ⟨by kernel_rfl, ?_⟩) (by assumption) ?_
      rotate_left
      · (intro w hSw; (try dsimp only at hSw); go_simp; try with_reducible rfl)
      (try simp only [Act.put, List.setIfInBounds_toArray, List.set_cons_zero, List.set_cons_succ])
      refine wpAnyH_take (i := 40) (oi := ⟨some 200, _, _, _, _, _⟩) (v := ?_) rfl (by kernel_rfl) (by kernel_rfl) (by kernel_rfl) (fun _ _ _ h => h) (Or.inl ⟨by kernel_rfl, ?_⟩) (by assumption) ?_
      rotate_left
      · (intro w hSw; (try dsimp only at hSw); go_simp; try with_reducible rfl)
      (try simp only [Act.put, List.setIfInBounds_toArray, List.set_cons_zero, List.set_cons_succ])
      refine wpAnyH_take (i := 42) (oi := ⟨some 202, _, _, _, _, _⟩) (v := ?_) rfl (by kernel_rfl) (by kernel_rfl) (by kernel_rfl) (fun _ _ _ h => h) (Or.inl ⟨by kernel_rfl, ?_⟩) (by assumption) ?_
      rotate_left
      · (intro w hSw; (try dsimp only at hSw); go_simp; try with_reducible rfl)
      (try simp only [Act.put, List.setIfInBounds_toArray, List.set_cons_zero, List.set_cons_succ])
      refine wpAnyH_take (i := 43) (oi := ⟨some 203, _, _, _, _, _⟩) (v := ?_) rfl (by kernel_rfl) (by kernel_rfl) (by kernel_rfl) (fun _ _ _ h => h) (Or.inl ⟨by kernel_rfl, ?_⟩) (by assumption) ?_
      rotate_left
      · (intro w hSw; (try dsimp only at hSw); go_simp; try with_reducible rfl)
      (try simp only [Act.put, List.setIfInBounds_toArray, List.set_cons_zero, List.set_cons_succ])
      refine wpAnyH_ready (rs := [41]) (by kernel_rfl) (by simp) ?_
      refine AllReadyH.cons (o := ⟨some 201, _, _, _, _, _⟩) rfl (fun K hK => ?_) AllReadyH.nil
      go_simp
      refine (TGi.out _ (HKE.out _ (HW.out _ J4.out).1).1 (HKE.out _ (HW.out _ J4.out).1).2.2.2 (HW.out _ J4.out).2.2.2).mono ?_
      rintro e' W5 ⟨rfl, bb5⟩
      have J5 : Hid (Below x8.heap.size x8 W5) := J4.out.trans (bb5.mono J4.out.size)
      refine hK.out _ _ ?_ (fun hHeld => ?_)
      · exact HX.out _ J5.out
      clear hK K bb5
      (try simp only [Act.put, List.setIfInBounds_toArray, List.set_cons_zero, List.set_cons_succ])
      refine wpAnyH_ready (rs := [44]) (by kernel_rfl) (by simp) ?_
      refine AllReadyH.cons (o := ⟨some 204, _, _, _, _, _⟩) rfl (fun K hK => ?_) AllReadyH.nil
      go_simp
      refine (TGs.out _ (HW.out _ J5.out).2.2.2).mono ?_
      rintro e' W6 ⟨rfl, bb6⟩
      have J6 : Hid (Below x8.heap.size x8 W6) := J5.out.trans (bb6.mono J5.out.size)
      refine hK.out _ _ ?_ (fun hHeld => ?_)
      · exact HX.out _ J6.out
      clear hK K bb6
      (try simp only [Act.put, List.setIfInBounds_toArray, List.set_cons_zero, List.set_cons_succ])
      refine wpAnyH_take (i := 45) (oi := ⟨some 205, _, _, _, _, _⟩) (v := ?_) rfl (by kernel_rfl) (by kernel_rfl) (by kernel_rfl) (fun _ _ _ h => h) (Or.inl ⟨by kernel_rfl, ?_⟩) (by assumption) ?_
      rotate_left
      · (intro w hSw; (try dsimp only at hSw); go_simp; try with_reducible rfl)
      (try simp only [Act.put, List.setIfInBounds_toArray, List.set_cons_zero, List.set_cons_succ])
      refine wpAnyH_take (i := 46) (oi := ⟨some 206, _, _, _, _, _⟩) (v := ?_) rfl (by kernel_rfl) (by kernel_rfl) (by kernel_rfl) (fun _ _ _ h => h) (Or.inl ⟨by kernel_rfl, ?_⟩) (by assumption) ?_
      rotate_left
      · (intro w hSw; (try dsimp only at hSw); go_simp; try with_reducible rfl)
      (try simp only [Act.put, List.setIfInBounds_toArray, List.set_cons_zero, List.set_cons_succ])
      refine wpAnyH_take (i := 47) (oi := ⟨some 4, _, _, _, _, _⟩) (v := ?_) rfl (by kernel_rfl) (by kernel_rfl) (by kernel_rfl) (fun _ _ _ h => h) (Or.inl ⟨by kernel_rfl, ?_⟩) (by assumption) ?_
      rotate_left
      · (intro w hSw; (try dsimp only at hSw); go_simp; try with_reducible rfl)
      (try simp only [Act.put, List.setIfInBounds_toArray, List.set_cons_zero, List.set_cons_succ])
      refine wpAnyH_done (by kernel_rfl) ?_ _
      go_wp2
      go_ret
      exact ⟨rfl, (HW.out _ J6.out).1⟩
    · as_aux_lemma =>
      have e1 : (qc != 0) = true := by simp [hqc]
      clear TQb
      have J0 : Hid (Below x8.heap.size x8 x8.drew) := (Below.refl _ _).drew
      refine wp_region_held_drew (S := fun V => ((V.cell? ⟨x5.heap.size, 0, none⟩ = some (.int .i64 ykey) ∧ V.cell? ⟨x5.heap.size, 1, none⟩ = some (.slice ya yl yz) ∧ V.cell? ⟨x5.heap.size, 2, none⟩ = some (.int .i64 ysk) ∧ V.cell? ⟨x5.heap.size, 3, none⟩ = some (.int .i64 yse) ∧ V.cell? ⟨x5.heap.size, 4, none⟩ = some (.int .i64 yss) ∧ V.cell? ⟨x5.heap.size, 5, none⟩ = some (.int .i64 0)) ∧ (V.cell? ⟨x7.heap.size, 0, none⟩ = some (.string qiss) ∧ V.cell? ⟨x7.heap.size, 1, none⟩ = some (.int .i64 qfr) ∧ V.cell? ⟨x7.heap.size, 2, none⟩ = some (.int .i64 qtill) ∧ V.cell? ⟨x7.heap.size, 3, none⟩ = some (.slice qa ql qz) ∧ V.cell? ⟨x7.heap.size, 4, none⟩ = some (.int .i64 qsk) ∧ V.cell? ⟨x7.heap.size, 5, none⟩ = some (.int .i64 qse) ∧ V.cell? ⟨x7.heap.size, 6, none⟩ = some (.int .i64 qss) ∧ V.cell? ⟨x7.heap.size, 7, none⟩ = some (.int .i64 qc)) ∧ (V.cell? ⟨x3.heap.size, 0, none⟩ = some (.string diss) ∧ V.cell? ⟨x3.heap.size, 1, none⟩ = some (.int .i64 dfr) ∧ V.cell? ⟨x3.heap.size, 2, none⟩ = some (.int .i64 dtill) ∧ V.cell? ⟨x3.heap.size, 3, none⟩ = some (.slice da dl dz) ∧ V.cell? ⟨x3.heap.size, 4, none⟩ = some (.int .i64 dsk) ∧ V.cell? ⟨x3.heap.size, 5, none⟩ = some (.int .i64 dse) ∧ V.cell? ⟨x3.heap.size, 6, none⟩ = some (.int .i64 dss)))) (by kernel_rfl) ?_ (fun hHeld => ?_)
      · exact HX.out _ J0.out
      refine wpAnyH_take (i := 0) (oi := ⟨some 160, _, _, _, _, _⟩) (v := ?_) rfl (by kernel_rfl) (by kernel_rfl) (by kernel_rfl) (fun _ _ _ h => h) (Or.inl ⟨by kernel_rfl, ?_⟩) (by assumption) ?_
      rotate_left
      · (intro w hSw; (try dsimp only at hSw); go_simp; try with_reducible rfl)
      (try simp only [Act.put, List.setIfInBounds_toArray, List.set_cons_zero, List.set_cons_succ])
      refine wpAnyH_take (i := 1) (oi := ⟨some 161, _, _, _, _, _⟩) (v := ?_) rfl (by kernel_rfl) (by kernel_rfl) (by kernel_rfl) (fun _ _ _ h => h) (Or.inl ⟨by kernel_rfl, ?_⟩) (by assumption) ?_
      rotate_left
      · (intro w hSw; (try dsimp only at hSw); go_simp; try with_reducible rfl)
      (try simp only [Act.put, List.setIfInBounds_toArray, List.set_cons_zero, List.set_cons_succ])
      refine wpAnyH_take (i := 2) (oi := ⟨some 162, _, _, _, _, _⟩) (v := ?_) rfl (by kernel_rfl) (by kernel_rfl) (by kernel_rfl) (fun _ _ _ h => h) (Or.inl ⟨by kernel_rfl, ?_⟩) (by assumption) ?_
      rotate_left
      · (intro w hSw; (try dsimp only at hSw); go_simp; try with_reducible rfl)
      (try simp only [Act.put, List.setIfInBounds_toArray, List.set_cons_zero, List.set_cons_succ])
      refine wpAnyH_ready (rs := [3]) (by kernel_rfl) (by simp) ?_
      refine AllReadyH.cons (o := ⟨some 163, _, _, _, _, _⟩) rfl (fun K hK => ?_) AllReadyH.nil
      go_simp
      refine (TYs.out _).mono ?_
      rintro e' W1 ⟨v5, rfl, o5, bb1⟩
      have J1 : Hid (Below x8.heap.size x8 W1) := J0.out.trans (bb1.mono J0.out.size)
      refine hK.out _ _ ?_ (fun hHeld => ?_)
      · exact HX.out _ J1.out
      clear hK K bb1
      (try simp only [Act.put, List.setIfInBounds_toArray, List.set_cons_zero, List.set_cons_succ])
      refine wpAnyH_take (i := 4) (oi := ⟨some 164, _, _, _, _, _⟩) (v := ?_) rfl (by kernel_rfl) (by kernel_rfl) (by kernel_rfl) (fun _ _ _ h => h) (Or.inl ⟨by kernel_rfl, ?_⟩) (by assumption) ?_
      rotate_left
      · (intro w hSw; (try dsimp only at hSw); go_simp; try with_reducible rfl)
      (try simp only [Act.put, List.setIfInBounds_toArray, List.set_cons_zero, List.set_cons_succ])
      refine wpAnyH_take (i := 5) (oi := ⟨some 165, _, _, _, _, _⟩) (v := ?_) rfl (by kernel_rfl) (by kernel_rfl) (by kernel_rfl) (fun _ _ _ h => h) (Or.inl ⟨by kernel_rfl, ?_⟩) (by assumption) ?_
      rotate_left
      · (intro w hSw; (try dsimp only at hSw); go_simp; try with_reducible rfl)
      (try simp only [Act.put, List.setIfInBounds_toArray, List.set_cons_zero, List.set_cons_succ])
      refine wpAnyH_take (i := 6) (oi := ⟨some 166, _, _, _, _, _⟩) (v := ?_) rfl (by kernel_rfl) (by kernel_rfl) (by kernel_rfl) (fun _ _ _ h => h) (Or.inl ⟨by kernel_rfl, ?_⟩) (by assumption) ?_
      rotate_left
      · (intro w hSw; (try dsimp only at hSw); go_simp; try with_reducible rfl)
      (try simp only [Act.put, List.setIfInBounds_toArray, List.set_cons_zero, List.set_cons_succ])
      refine wpAnyH_take (i := 7) (oi := ⟨some 167, _, _, _, _, _⟩) (v := ?_) rfl (by kernel_rfl) (by kernel_rfl) (by kernel_rfl) (fun _ _ _ h => h) (Or.inl ⟨by kernel_rfl, ?_⟩) (by assumption) ?_
      rotate_left
      · (intro w hSw; (try dsimp only at hSw); go_simp; try with_reducible rfl)
      (try simp only [Act.put, List.setIfInBounds_toArray, List.set_cons_zero, List.set_cons_succ])
      refine wpAnyH_take (i := 8) (oi := ⟨some 168, _, _, _, _, _⟩) (v := ?_) rfl (by kernel_rfl) (by kernel_rfl) (by kernel_rfl) (fun _ _ _ h => h) (Or.inl ⟨by kernel_rfl, ?_⟩) (by assumption) ?_
      rotate_left
      · (intro w hSw; (try dsimp only at hSw); go_simp; try with_reducible rfl)
      (try simp only [Act.put, List.setIfInBounds_toArray, List.set_cons_zero, List.set_cons_succ])
      refine wpAnyH_take (i := 9) (oi := ⟨some 169, _, _, _, _, _⟩) (v := ?_) rfl (by kernel_rfl) (by kernel_rfl) (by kernel_rfl) (fun _ _ _ h => h) (Or.inl ⟨by kernel_rfl, ?_⟩) (by assumption) ?_
      rotate_left
      · (intro w hSw; (try dsimp only at hSw); go_simp; try with_reducible rfl)
      (try simp only [Act.put, List.setIfInBounds_toArray, List.set_cons_zero, List.set_cons_succ])
      refine wpAnyH_ready (rs := [10]) (by kernel_rfl) (by simp) ?_
      refine AllReadyH.cons (o := ⟨some 170, _, _, _, _, _⟩) rfl (fun K hK => ?_) AllReadyH.nil
      go_simp
      refine (TQs.out _).mono ?_
      rintro e' W2 ⟨v6, rfl, o6, bb2⟩
      have J2 : Hid (Below x8.heap.size x8 W2) := J1.out.trans (bb2.mono J1.out.size)
      refine hK.out _ _ ?_ (fun hHeld => ?_)
      · exact HX.out _ J2.out
      clear hK K bb2
      (try simp only [Act.put, List.setIfInBounds_toArray, List.set_cons_zero, List.set_cons_succ])
      refine wpAnyH_take (i := 11) (oi := ⟨some 171, _, _, _, _, _⟩) (v := ?_) rfl (by kernel_rfl) (by kernel_rfl) (by kernel_rfl) (fun _ _ _ h => h) (Or.inl ⟨by kernel_rfl, ?_⟩) (by assumption) ?_
      rotate_left
      · (intro w hSw; (try dsimp only at hSw); go_simp; try with_reducible rfl)
      (try simp only [Act.put, List.setIfInBounds_toArray, List.set_cons_zero, List.set_cons_succ])
      refine wpAnyH_take (i := 12) (oi := ⟨some 172, _, _, _, _, _⟩) (v := ?_) rfl (by kernel_rfl) (by kernel_rfl) (by kernel_rfl) (fun _ _ _ h => h) (Or.inl ⟨by kernel_rfl, ?_⟩) (by assumption) ?_
      rotate_left
      · (intro w hSw; (try dsimp only at hSw); go_simp; try with_reducible rfl)
      (try simp only [Act.put, List.setIfInBounds_toArray, List.set_cons_zero, List.set_cons_succ])
      refine wpAnyH_take (i := 13) (oi := ⟨some 173, _, _, _, _, _⟩) (v := ?_) rfl (by kernel_rfl) (by kernel_rfl) (by kernel_rfl) (fun _ _ _ h => h) (Or.inl ⟨by kernel_rfl, ?_⟩) (by assumption) ?_
      rotate_left
      · (intro w hSw; (try dsimp only at hSw); go_simp; try with_reducible rfl)
      (try simp only [Act.put, List.setIfInBounds_toArray, List.set_cons_zero, List.set_cons_succ])
      refine wpAnyH_take (i := 14) (oi := ⟨some 174, _, _, _, _, _⟩) (v := ?_) rfl (by kernel_rfl) (by kernel_rfl) (by kernel_rfl) (fun _ _ _ h => h) (Or.inl ⟨by kernel_rfl, ?_⟩) (by assumption) ?_
      rotate_left
      · (intro w hSw; (try dsimp only at hSw); go_simp; try with_reducible rfl)
      (try simp only [Act.put, List.setIfInBounds_toArray, List.set_cons_zero, List.set_cons_succ])
      refine wpAnyH_take (i := 15) (oi := ⟨some 175, _, _, _, _, _⟩) (v := ?_) rfl (by kernel_rfl) (by kernel_rfl) (by kernel_rfl) (fun _ _ _ h => h) (Or.inl ⟨by kernel_rfl, ?_⟩) (by assumption) ?_
      rotate_left
      · (intro w hSw; (try dsimp only at hSw); go_simp; try with_reducible rfl)
      (try simp only [Act.put, List.setIfInBounds_toArray, List.set_cons_zero, List.set_cons_succ])
      refine wpAnyH_take (i := 16) (oi := ⟨some 176, _, _, _, _, _⟩) (v := ?_) rfl (by kernel_rfl) (by kernel_rfl) (by kernel_rfl) (fun _ _ _ h => h) (Or.inl ⟨by kernel_rfl, ?_⟩) (by assumption) ?_
      rotate_left
      · (intro w hSw; (try dsimp only at hSw); go_simp; try with_reducible rfl)
      (try simp only [Act.put, List.setIfInBounds_toArray, List.set_cons_zero, List.set_cons_succ])
      refine wpAnyH_take (i := 17) (oi := ⟨some 177, _, _, _, _, _⟩) (v := ?_) rfl (by kernel_rfl) (by kernel_rfl) (by kernel_rfl) (fun _ _ _ h => h) (Or.inl ⟨by kernel_rfl, ?_⟩) (by assumption) ?_
      rotate_left
      · (intro w hSw; (try dsimp only at hSw); go_simp; try with_reducible rfl)
      (try simp only [Act.put, List.setIfInBounds_toArray, List.set_cons_zero, List.set_cons_succ])
      refine wpAnyH_take (i := 18) (oi := ⟨some 178, _, _, _, _, _⟩) (v := ?_) rfl (by kernel_rfl) (by kernel_rfl) (by kernel_rfl) (fun _ _ _ h => h) (Or.inl ⟨by kernel_rfl, ?_⟩) (by assumption) ?_
      rotate_left
      · (intro w hSw; (try dsimp only at hSw); go_simp; try with_reducible rfl)
      (try simp only [Act.put, List.setIfInBounds_toArray, List.set_cons_zero, List.set_cons_succ])
      refine wpAnyH_take (i := 19) (oi := ⟨some 179, _, _, _, _, _⟩) (v := ?_) rfl (by kernel_rfl) (by kernel_rfl) (by kernel_rfl) (fun _ _ _ h => h) (Or.inl ⟨by kernel_rfl, ?_⟩) (by assumption) ?_
      rotate_left
      · (intro w hSw; (try dsimp only at hSw); go_simp; try with_reducible rfl)
      (try simp only [Act.put, List.setIfInBounds_toArray, List.set_cons_zero, List.set_cons_succ])
      refine wpAnyH_take (i := 20) (oi := ⟨some 180, _, _, _, _, _⟩) (v := ?_) rfl (by kernel_rfl) (by kernel_rfl) (by kernel_rfl) (fun _ _ _ h => h) (Or.inl ⟨by kernel_rfl, ?_⟩) (by assumption) ?_
      rotate_left
      · (intro w hSw; (try dsimp only at hSw); go_simp; try with_reducible rfl)
      (try simp only [Act.put, List.setIfInBounds_toArray, List.set_cons_zero, List.set_cons_succ])
      refine wpAnyH_take (i := 22) (oi := ⟨some 182, _, _, _, _, _⟩) (v := ?_) rfl (by kernel_rfl) (by kernel_rfl) (by kernel_rfl) (fun _ _ _ h => h) (Or.inl ⟨by kernel_rfl, ?_⟩) (by assumption) ?_
      rotate_left
      · (intro w hSw; (try dsimp only at hSw); go_simp; try with_reducible rfl)
      (try simp only [Act.put, List.setIfInBounds_toArray, List.set_cons_zero, List.set_cons_succ])
      refine wpAnyH_ready (rs := [21]) (by kernel_rfl) (by simp) ?_
      refine AllReadyH.cons (o := ⟨some 181, _, _, _, _, _⟩) rfl (fun K hK => ?_) AllReadyH.nil
      go_simp
      refine (TYq.out _ ya yz (HKE.out _ (HW.out _ J2.out).1).1 (HKE.out _ (HW.out _ J2.out).1).2.2.2 (HW.out _ J2.out).2.1).mono ?_
      rintro e' W3 ⟨rfl, bb3⟩
      have J3 : Hid (Below x8.heap.size x8 W3) := J2.out.trans (bb3.mono J2.out.size)
      refine hK.out _ _ ?_ (fun hHeld => ?_)
      · exact HX.out _ J3.out
      clear hK K bb3
      (try simp only [Act.put, List.setIfInBounds_toArray, List.set_cons_zero, List.set_cons_succ])
      refine wpAnyH_take (i := 23) (oi := ⟨some 183, _, _, _, _, _⟩) (v := ?_) rfl (by kernel_rfl) (by kernel_rfl) (by kernel_rfl) (fun _ _ _ h => h) (Or.inl ⟨by kernel_rfl, ?_⟩) (by assumption) ?_
      rotate_left
      · (intro w hSw; (try dsimp only at hSw); go_simp; try with_reducible rfl)
      (try simp only [Act.put, List.setIfInBounds_toArray, List.set_cons_zero, List.set_cons_succ])
      refine wpAnyH_take (i := 24) (oi := ⟨some 184, _, _, _, _, _⟩) (v := ?_) rfl (by kernel_rfl) (by kernel_rfl) (by kernel_rfl) (fun _ _ _ h => h) (Or.inl ⟨by kernel_rfl, ?_⟩) (by assumption) ?_
      rotate_left
      · (intro w hSw; (try dsimp only at hSw); go_simp; try with_reducible rfl)
      (try simp only [Act.put, List.setIfInBounds_toArray, List.set_cons_zero, List.set_cons_succ])
      refine wpAnyH_take (i := 25) (oi := ⟨some 185, _, _, _, _, _⟩) (v := ?_) rfl (by kernel_rfl) (by kernel_rfl) (by kernel_rfl) (fun _ _ _ h => h) (Or.inl ⟨by kernel_rfl, ?_⟩) (by assumption) ?_
      rotate_left
      · (intro w hSw; (try dsimp only at hSw); go_simp; try with_reducible rfl)
      (try simp only [Act.put, List.setIfInBounds_toArray, List.set_cons_zero, List.set_cons_succ])
      refine wpAnyH_take (i := 26) (oi := ⟨some 186, _, _, _, _, _⟩) (v := ?_) rfl (by kernel_rfl) (by kernel_rfl) (by kernel_rfl) (fun _ _ _ h => h) (Or.inl ⟨by kernel_rfl, ?_⟩) (by assumption) ?_
      rotate_left
      · (intro w hSw; (try dsimp only at hSw); go_simp; try with_reducible rfl)
      (try simp only [Act.put, List.setIfInBounds_toArray, List.set_cons_zero, List.set_cons_succ])
      refine wpAnyH_take (i := 27) (oi := ⟨some 187, _, _, _, _, _⟩) (v := ?_) rfl (by kernel_rfl) (by kernel_rfl) (by kernel_rfl) (fun _ _ _ h => h) (Or.inl ⟨by kernel_rfl, ?_⟩) (by assumption) ?_
      rotate_left
      · (intro w hSw; (try dsimp only at hSw); go_simp; try with_reducible rfl)
      (try simp only [Act.put, List.setIfInBounds_toArray, List.set_cons_zero, List.set_cons_succ])
      refine wpAnyH_take (i := 28) (oi := ⟨some 188, _, _, _, _, _⟩) (v := ?_) rfl (by kernel_rfl) (by kernel_rfl) (by kernel_rfl) (fun _ _ _ h => h) (Or.inl ⟨by kernel_rfl, ?_⟩) (by assumption) ?_
      rotate_left
      · (intro w hSw; (try dsimp only at hSw); go_simp; try with_reducible rfl)
      (try simp only [Act.put, List.setIfInBounds_toArray, List.set_cons_zero, List.set_cons_succ])
      refine wpAnyH_take (i := 29) (oi := ⟨some 189, _, _, _, _, _⟩) (v := ?_) rfl (by kernel_rfl) (by kernel_rfl) (by kernel_rfl) (fun _ _ _ h => h) (Or.inl ⟨by kernel_rfl, ?_⟩) (by assumption) ?_
      rotate_left
      · (intro w hSw; (try dsimp only at hSw); go_simp; try with_reducible rfl)
      (try simp only [Act.put, List.setIfInBounds_toArray, List.set_cons_zero, List.set_cons_succ])
      refine wpAnyH_take (i := 30) (oi := ⟨some 190, _, _, _, _, _⟩) (v := ?_) rfl (by kernel_rfl) (by kernel_rfl) (by kernel_rfl) (fun _ _ _ h => h) (Or.inl ⟨by kernel_rfl, ?_⟩) (by assumption) ?_
      rotate_left
      · (intro w hSw; (try dsimp only at hSw); go_simp; try with_reducible rfl)
      (try simp only [Act.put, List.setIfInBounds_toArray, List.set_cons_zero, List.set_cons_succ])
      refine wpAnyH_take (i := 31) (oi := ⟨some 191, _, _, _, _, _⟩) (v := undef) rfl (by kernel_rfl) (by kernel_rfl) (by kernel_rfl) (fun _ _ _ h => h) (Or.inr ⟨by kernel_rfl, rfl⟩) (by assumption) ?_
      (try simp only [Act.put, List.setIfInBounds_toArray, List.set_cons_zero, List.set_cons_succ])
      refine wpAnyH_take (i := 32) (oi := ⟨some 192, _, _, _, _, _⟩) (v := undef) rfl (by kernel_rfl) (by kernel_rfl) (by kernel_rfl) (fun _ _ _ h => h) (Or.inr ⟨by kernel_rfl, rfl⟩) (by assumption) ?_
      (try simp only [Act.put, List.setIfInBounds_toArray, List.set_cons_zero, List.set_cons_succ])
      refine wpAnyH_take (i := 33) (oi := ⟨some 193, _, _, _, _, _⟩) (v := undef) rfl (by kernel_rfl) (by kernel_rfl) (by kernel_rfl) (fun _ _ _ h => h) (Or.inr ⟨by kernel_rfl, rfl⟩) (by assumption) ?_
      (try simp only [Act.put, List.setIfInBounds_toArray, List.set_cons_zero, List.set_cons_succ])
      refine wpAnyH_take (i := 34) (oi := ⟨some 194, _, _, _, _, _⟩) (v := undef) rfl (by kernel_rfl) (by kernel_rfl) (by kernel_rfl) (fun _ _ _ h => h) (Or.inr ⟨by kernel_rfl, rfl⟩) (by assumption) ?_
      (try simp only [Act.put, List.setIfInBounds_toArray, List.set_cons_zero, List.set_cons_succ])
      refine wpAnyH_take (i := 35) (oi := ⟨some 195, _, _, _, _, _⟩) (v := undef) rfl (by kernel_rfl) (by kernel_rfl) (by kernel_rfl) (fun _ _ _ h => h) (Or.inr ⟨by kernel_rfl, rfl⟩) (by assumption) ?_
      (try simp only [Act.put, List.setIfInBounds_toArray, List.set_cons_zero, List.set_cons_succ])
      refine wpAnyH_take (i := 36) (oi := ⟨some 196, _, _, _, _, _⟩) (v := ?_) rfl (by kernel_rfl) (by kernel_rfl) (by kernel_rfl) (fun _ _ _ h => h) (Or.inl ⟨by kernel_rfl, ?_⟩) (by assumption) ?_
      rotate_left
      · (intro w hSw; (try dsimp only at hSw); go_simp; try with_reducible rfl)
      (try simp only [Act.put, List.setIfInBounds_toArray, List.set_cons_zero, List.set_cons_succ])
      refine wpAnyH_take (i := 37) (oi := ⟨some 197, _, _, _, _, _⟩) (v := ?_) rfl (by kernel_rfl) (by kernel_rfl) (by kernel_rfl) (fun _ _ _ h => h) (Or.inl ⟨by kernel_rfl, ?_⟩) (by assumption) ?_
      rotate_left
      · (intro w hSw; (try dsimp only at hSw); go_simp; try with_reducible rfl)
      (try simp only [Act.put, List.setIfInBounds_toArray, List.set_cons_zero, List.set_cons_succ])
      refine wpAnyH_take (i := 38) (oi := ⟨some 198, _, _, _, _, _⟩) (v := ?_) rfl (by kernel_rfl) (by kernel_rfl) (by kernel_rfl) (fun _ _ _ h => h) (Or.inl ⟨by kernel_rfl, ?_⟩) (by assumption) ?_
      rotate_left
      · (intro w hSw; (try dsimp only at hSw); go_simp; try with_reducible rfl)
      (try simp only [Act.put, List.setIfInBounds_toArray, List.set_cons_zero, List.set_cons_succ])
      refine wpAnyH_take (i := 39) (oi := ⟨some 199, _, _, _, _, _⟩) (v := ?_) rfl (by kernel_rfl) (by kernel_rfl) (by kernel_rfl) (fun _ _ _ h => h) (Or.inl ⟨by kernel_rfl, ?_⟩) (by assumption) ?_
      rotate_left
      · (intro w hSw; (try dsimp only at hSw); go_simp; try with_reducible rfl)
      (try simp only [Act.put, List.setIfInBounds_toArray, List.set_cons_zero, List.set_cons_succ])
      refine wpAnyH_take (i := 40) (oi := ⟨some 200, _, _, _, _, _⟩) (v := ?_) rfl (by kernel_rfl) (by kernel_rfl) (by kernel_rfl) (fun _ _ _ h => h) (Or.inl ⟨by kernel_rfl, ?_⟩) (by assumption) ?_
      rotate_left
      · (intro w hSw; (try dsimp only at hSw); go_simp; try with_reducible rfl)
      (try simp only [Act.put, List.setIfInBounds_toArray, List.set_cons_zero, List.set_cons_succ])
      refine wpAnyH_take (i := 42) (oi := ⟨some 202, _, _, _, _, _⟩) (v := ?_) rfl (by kernel_rfl) (by kernel_rfl) (by kernel_rfl) (fun _ _ _ h => h) (Or.inl ⟨by kernel_rfl, ?_⟩) (by assumption) ?_
      rotate_left
      · (intro w hSw; (try dsimp only at hSw); go_simp; try with_reducible rfl)
      (try simp only [Act.put, List.setIfInBounds_toArray, List.set_cons_zero, List.set_cons_succ])
      refine wpAnyH_take (i := 43) (oi := ⟨some 203, _, _, _, _, _⟩) (v := ?_) rfl (by kernel_rfl) (by kernel_rfl) (by kernel_rfl) (fun _ _ _ h => h) (Or.inl ⟨by kernel_rfl, ?_⟩) (by assumption) ?_
      rotate_left
      · (intro w hSw; (try dsimp only at hSw); go_simp; try with_reducible rfl)
      (try simp only [Act.put, List.setIfInBounds_toArray, List.set_cons_zero, List.set_cons_succ])
      refine wpAnyH_ready (rs := [41]) (by kernel_rfl) (by simp) ?_
      refine AllReadyH.cons (o := ⟨some 201, _, _, _, _, _⟩) rfl (fun K hK => ?_) AllReadyH.nil
      go_simp
      refine (TGi.out _ (HKE.out _ (HW.out _ J3.out).1).1 (HKE.out _ (HW.out _ J3.out).1).2.2.2 (HW.out _ J3.out).2.2.2).mono ?_
      rintro e' W4 ⟨rfl, bb4⟩
      have J4 : Hid (Below x8.heap.size x8 W4) := J3.out.trans (bb4.mono J3.out.size)
      refine hK.out _ _ ?_ (fun hHeld => ?_)
      · exact HX.out _ J4.out
      clear hK K bb4
      (try simp only [Act.put, List.setIfInBounds_toArray, List.set_cons_zero, List.set_cons_succ])
      refine wpAnyH_ready (rs := [44]) (by kernel_rfl) (by simp) ?_
      refine AllReadyH.cons (o := ⟨some 204, _, _, _, _, _⟩) rfl (fun K hK => ?_) AllReadyH.nil
      go_simp
      refine (TGs.out _ (HW.out _ J4.out).2.2.2).mono ?_
      rintro e' W5 ⟨rfl, bb5⟩
      have J5 : Hid (Below x8.heap.size x8 W5) := J4.out.trans (bb5.mono J4.out.size)
      refine hK.out _ _ ?_ (fun hHeld => ?_)
      · exact HX.out _ J5.out
      clear hK K bb5
      (try simp only [Act.put, List.setIfInBounds_toArray, List.set_cons_zero, List.set_cons_succ])
      refine wpAnyH_take (i := 45) (oi := ⟨some 205, _, _, _, _, _⟩) (v := ?_) rfl (by kernel_rfl) (by kernel_rfl) (by kernel_rfl) (fun _ _ _ h => h) (Or.inl ⟨by kernel_rfl, ?_⟩) (by assumption) ?_
      rotate_left
      · (intro w hSw; (try dsimp only at hSw); go_simp; try with_reducible rfl)
      (try simp only [Act.put, List.setIfInBounds_toArray, List.set_cons_zero, List.set_cons_succ])
      refine wpAnyH_take (i := 46) (oi := ⟨some 206, _, _, _, _, _⟩) (v := ?_) rfl (by kernel_rfl) (by kernel_rfl) (by kernel_rfl) (fun _ _ _ h => h) (Or.inl ⟨by kernel_rfl, ?_⟩) (by assumption) ?_
      rotate_left
      · (intro w hSw; (try dsimp only at hSw); go_simp; try with_reducible rfl)
      (try simp only [Act.put, List.setIfInBounds_toArray, List.set_cons_zero, List.set_cons_succ])
      refine wpAnyH_take (i := 47) (oi := ⟨some 4, _, _, _, _, _⟩) (v := ?_) rfl (by kernel_rfl) (by kernel_rfl) (by kernel_rfl) (fun _ _ _ h => h) (Or.inl ⟨by kernel_rfl, ?_⟩) (by assumption) ?_
      rotate_left
      · (intro w hSw; (try dsimp only at hSw); go_simp; try with_reducible rfl)
      (try simp only [Act.put, List.setIfInBounds_toArray, List.set_cons_zero, List.set_cons_succ])
      refine wpAnyH_done (by kernel_rfl) ?_ _
      go_wp2
      go_ret
      exact ⟨rfl, (HW.out _ J5.out).1⟩
  · have e0 : (yc != 0) = true := by simp [hyc]
    clear TYb
    by_cases hqc : qc = 0
    · as_aux_lemma =>
      subst hqc
      have TP := TQb.out rfl
      have TQq : Hid _ := TP
      clear TP TQb eqc
      have J0 : Hid (Below x8.heap.size x8 x8.drew) := (Below.refl _ _).drew
      refine wp_region_held_drew (S := fun V => ((V.cell? ⟨x5.heap.size, 0, none⟩ = some (.int .i64 ykey) ∧ V.cell? ⟨x5.heap.size, 1, none⟩ = some (.slice ya yl yz) ∧ V.cell? ⟨x5.heap.size, 2, none⟩ = some (.int .i64 ysk) ∧ V.cell? ⟨x5.heap.size, 3, none⟩ = some (.int .i64 yse) ∧ V.cell? ⟨x5.heap.size, 4, none⟩ = some (.int .i64 yss) ∧ V.cell? ⟨x5.heap.size, 5, none⟩ = some (.int .i64 yc)) ∧ (V.cell? ⟨x7.heap.size, 0, none⟩ = some (.string qiss) ∧ V.cell? ⟨x7.heap.size, 1, none⟩ = some (.int .i64 qfr) ∧ V.cell? ⟨x7.heap.size, 2, none⟩ = some (.int .i64 qtill) ∧ V.cell? ⟨x7.heap.size, 3, none⟩ = some (.slice qa ql qz) ∧ V.cell? ⟨x7.heap.size, 4, none⟩ = some (.int .i64 qsk) ∧ V.cell? ⟨x7.heap.size, 5, none⟩ = some (.int .i64 qse) ∧ V.cell? ⟨x7.heap.size, 6, none⟩ = some (.int .i64 qss) ∧ V.cell? ⟨x7.heap.size, 7, none⟩ = some (.int .i64 0)) ∧ (V.cell? ⟨x3.heap.size, 0, none⟩ = some (.string diss) ∧ V.cell? ⟨x3.heap.size, 1, none⟩ = some (.int .i64 dfr) ∧ V.cell? ⟨x3.heap.size, 2, none⟩ = some (.int .i64 dtill) ∧ V.cell? ⟨x3.heap.size, 3, none⟩ = some (.slice da dl dz) ∧ V.cell? ⟨x3.heap.size, 4, none⟩ = some (.int .i64 dsk) ∧ V.cell? ⟨x3.heap.size, 5, none⟩ = some (.int .i64 dse) ∧ V.cell? ⟨x3.heap.size, 6, none⟩ = some (.int .i64 dss)))) (by kernel_rfl) ?_ (fun hHeld => ?_)
      · exact HX.out _ J0.out
      refine wpAnyH_take (i := 0) (oi := ⟨some 160, _, _, _, _, _⟩) (v := ?_) rfl (by kernel_rfl) (by kernel_rfl) (by kernel_rfl) (fun _ _ _ h => h) (Or.inl ⟨by kernel_rfl, ?_⟩) (by assumption) ?_
      rotate_left
      · (intro w hSw; (try dsimp only at hSw); go_simp; try with_reducible rfl)
      (try simp only [Act.put, List.setIfInBounds_toArray, List.set_cons_zero, List.set_cons_succ])
      refine wpAnyH_take (i := 1) (oi := ⟨some 161, _, _, _, _, _⟩) (v := ?_) rfl (by kernel_rfl) (by kernel_rfl) (by kernel_rfl) (fun _ _ _ h => h) (Or.inl ⟨by kernel_rfl, ?_⟩) (by assumption) ?_
      rotate_left
      · (intro w hSw; (try dsimp only at hSw); go_simp; try with_reducible rfl)
      (try simp only [Act.put, List.setIfInBounds_toArray, List.set_cons_zero, List.set_cons_succ])
      refine wpAnyH_take (i := 2) (oi := ⟨some 162, _, _, _, _, _⟩) (v := ?_) rfl (by kernel_rfl) (by kernel_rfl) (by kernel_rfl) (fun _ _ _ h => h) (Or.inl ⟨by kernel_rfl, ?_⟩) (by assumption) ?_
      rotate_left
      · (intro w hSw; (try dsimp only at hSw); go_simp; try with_reducible rfl)
      (try simp only [Act.put, List.setIfInBounds_toArray, List.set_cons_zero, List.set_cons_succ])
      refine wpAnyH_ready (rs := [3]) (by kernel_rfl) (by simp) ?_
      refine AllReadyH.cons (o := ⟨some 163, _, _, _, _, _⟩) rfl (fun K hK => ?_) AllReadyH.nil
      go_simp
      refine (TYs.out _).mono ?_
      rintro e' W1 ⟨v5, rfl, o5, bb1⟩
      have J1 : Hid (Below x8.heap.size x8 W1) := J0.out.trans (bb1.mono J0.out.size)
      refine hK.out _ _ ?_ (fun hHeld => ?_)
      · exact HX.out _ J1.out
      clear hK K bb1
      (try simp only [Act.put, List.setIfInBounds_toArray, List.set_cons_zero, List.set_cons_succ])
      refine wpAnyH_take (i := 4) (oi := ⟨some 164, _, _, _, _, _⟩) (v := ?_) rfl (by kernel_rfl) (by kernel_rfl) (by kernel_rfl) (fun _ _ _ h => h) (Or.inl ⟨by kernel_rfl, ?_⟩) (by assumption) ?_
      rotate_left
      · (intro w hSw; (try dsimp only at hSw); go_simp; try with_reducible rfl)
      (try simp only [Act.put, List.setIfInBounds_toArray, List.set_cons_zero, List.set_cons_succ])
      refine wpAnyH_take (i := 5) (oi := ⟨some 165, _, _, _, _, _⟩) (v := ?_) rfl (by kernel_rfl) (by kernel_rfl) (by kernel_rfl) (fun _ _ _ h => h) (Or.inl ⟨by kernel_rfl, ?_⟩) (by assumption) ?_
      rotate_left
      · (intro w hSw; (try dsimp only at hSw); go_simp; try with_reducible rfl)
      (try simp only [Act.put, List.setIfInBounds_toArray, List.set_cons_zero, List.set_cons_succ])
      refine wpAnyH_take (i := 6) (oi := ⟨some 166, _, _, _, _, _⟩) (v := ?_) rfl (by kernel_rfl) (by kernel_rfl) (by kernel_rfl) (fun _ _ _ h => h) (Or.inl ⟨by kernel_rfl, ?_⟩) (by assumption) ?_
      rotate_left
      · (intro w hSw; (try dsimp only at hSw); go_simp; try with_reducible rfl)
      (try simp only [Act.put, List.setIfInBounds_toArray, List.set_cons_zero, List.set_cons_succ])
      refine wpAnyH_take (i := 7) (oi := ⟨some 167, _, _, _, _, _⟩) (v := ?_) rfl (by kernel_rfl) (by kernel_rfl) (by kernel_rfl) (fun _ _ _ h => h) (Or.inl ⟨by kernel_rfl, ?_⟩) (by assumption) ?_
      rotate_left
      · (intro w hSw; (try dsimp only at hSw); go_simp; try with_reducible rfl)
      (try simp only [Act.put, List.setIfInBounds_toArray, List.set_cons_zero, List.set_cons_succ])
      refine wpAnyH_take (i := 8) (oi := ⟨some 168, _, _, _, _, _⟩) (v := ?_) rfl (by kernel_rfl) (by kernel_rfl) (by kernel_rfl) (fun _ _ _ h => h) (Or.inl ⟨by kernel_rfl, ?_⟩) (by assumption) ?_
      rotate_left
      · (intro w hSw; (try dsimp only at hSw); go_simp; try with_reducible rfl)
      (try simp only [Act.put, List.setIfInBounds_toArray, List.set_cons_zero, List.set_cons_succ])
      refine wpAnyH_take (i := 9) (oi := ⟨some 169, _, _, _, _, _⟩) (v := ?_) rfl (by kernel_rfl) (by kernel_rfl) (by kernel_rfl) (fun _ _ _ h => h) (Or.inl ⟨by kernel_rfl, ?_⟩) (by assumption) ?_
      rotate_left
      · (intro w hSw; (try dsimp only at hSw); go_simp; try with_reducible rfl)
      (try simp only [Act.put, List.setIfInBounds_toArray, List.set_cons_zero, List.set_cons_succ])
      refine wpAnyH_ready (rs := [10]) (by kernel_rfl) (by simp) ?_
      refine AllReadyH.cons (o := ⟨some 170, _, _, _, _, _⟩) rfl (fun K hK => ?_) AllReadyH.nil
      go_simp
      refine (TQs.out _).mono ?_
      rintro e' W2 ⟨v6, rfl, o6, bb2⟩
      have J2 : Hid (Below x8.heap.size x8 W2) := J1.out.trans (bb2.mono J1.out.size)
      refine hK.out _ _ ?_ (fun hHeld => ?_)
      · exact HX.out _ J2.out
      clear hK K bb2
      (try simp only [Act.put, List.setIfInBounds_toArray, List.set_cons_zero, List.set_cons_succ])
      refine wpAnyH_take (i := 11) (oi := ⟨some 171, _, _, _, _, _⟩) (v := ?_) rfl (by kernel_rfl) (by kernel_rfl) (by kernel_rfl) (fun _ _ _ h => h) (Or.inl ⟨by kernel_rfl, ?_⟩) (by assumption) ?_
      rotate_left
      · (intro w hSw; (try dsimp only at hSw); go_simp; try with_reducible rfl)
      (try simp only [Act.put, List.setIfInBounds_toArray, List.set_cons_zero, List.set_cons_succ])
      refine wpAnyH_take (i := 12) (oi := ⟨some 172, _, _, _, _, _⟩) (v := ?_) rfl (by kernel_rfl) (by kernel_rfl) (by kernel_rfl) (fun _ _ _ h => h) (Or.inl ⟨by kernel_rfl, ?_⟩) (by assumption) ?_
      rotate_left
      · (intro w hSw; (try dsimp only at hSw); go_simp; try with_reducible rfl)
      (try simp only [Act.put, List.setIfInBounds_toArray, List.set_cons_zero, List.set_cons_succ])
      refine wpAnyH_take (i := 13) (oi := ⟨some 173, _, _, _, _, _⟩) (v := ?_) rfl (by kernel_rfl) (by kernel_rfl) (by kernel_rfl) (fun _ _ _ h => h) (Or.inl ⟨by kernel_rfl, ?_⟩) (by assumption) ?_
      rotate_left
      · (intro w hSw; (try dsimp only at hSw); go_simp; try with_reducible rfl)
      (try simp only [Act.put, List.setIfInBounds_toArray, List.set_cons_zero, List.set_cons_succ])
      refine wpAnyH_take (i := 14) (oi := ⟨some 174, _, _, _, _, _⟩) (v := ?_) rfl (by kernel_rfl) (by kernel_rfl) (by kernel_rfl) (fun _ _ _ h => h) (Or.inl ⟨by kernel_rfl, ?_⟩) (by assumption) ?_
      rotate_left
      · (intro w hSw; (try dsimp only at hSw); go_simp; try with_reducible rfl)
      (try simp only [Act.put, List.setIfInBounds_toArray, List.set_cons_zero, List.set_cons_succ])
      refine wpAnyH_take (i := 15) (oi := ⟨some 175, _, _, _, _, _⟩) (v := ?_) rfl (by kernel_rfl) (by kernel_rfl) (by kernel_rfl) (fun _ _ _ h => h) (Or.inl ⟨by kernel_rfl, ?_⟩) (by assumption) ?_
      rotate_left
      · (intro w hSw; (try dsimp only at hSw); go_simp; try with_reducible rfl)
      (try simp only [Act.put, List.setIfInBounds_toArray, List.set_cons_zero, List.set_cons_succ])
      refine wpAnyH_take (i := 16) (oi := ⟨some 176, _, _, _, _, _⟩) (v := ?_) rfl (by kernel_rfl) (by kernel_rfl) (by kernel_rfl) (fun _ _ _ h => h) (Or.inl ⟨by kernel_rfl, ?_⟩) (by assumption) ?_
      rotate_left
      · (intro w hSw; (try dsimp only at hSw); go_simp; try with_reducible rfl)
      (try simp only [Act.put, List.setIfInBounds_toArray, List.set_cons_zero, List.set_cons_succ])
      refine wpAnyH_take (i := 17) (oi := ⟨some 177, _, _, _, _, _⟩) (v := ?_) rfl (by kernel_rfl) (by kernel_rfl) (by kernel_rfl) (fun _ _ _ h => h) (Or.inl ⟨by kernel_rfl, ?_⟩) (by assumption) ?_
      rotate_left
      · (intro w hSw; (try dsimp only at hSw); go_simp; try with_reducible rfl)
      (try simp only [Act.put, List.setIfInBounds_toArray, List.set_cons_zero, List.set_cons_succ])
      refine wpAnyH_take (i := 18) (oi := ⟨some 178, _, _, _, _, _⟩) (v := ?_) rfl (by kernel_rfl) (by kernel_rfl) (by kernel_rfl) (fun _ _ _ h => h) (Or.inl ⟨by kernel_rfl, ?_⟩) (by assumption) ?_
      rotate_left
      · (intro w hSw; (try dsimp only at hSw); go_simp; try with_reducible rfl)
      (try simp only [Act.put, List.setIfInBounds_toArray, List.set_cons_zero, List.set_cons_succ])
      refine wpAnyH_take (i := 19) (oi := ⟨some 179, _, _, _, _, _⟩) (v := undef) rfl (by kernel_rfl) (by kernel_rfl) (by kernel_rfl) (fun _ _ _ h => h) (Or.inr ⟨by kernel_rfl, rfl⟩) (by assumption) ?_
      (try simp only [Act.put, List.setIfInBounds_toArray, List.set_cons_zero, List.set_cons_succ])
      refine wpAnyH_take (i := 20) (oi := ⟨some 180, _, _, _, _, _⟩) (v := undef) rfl (by kernel_rfl) (by kernel_rfl) (by kernel_rfl) (fun _ _ _ h => h) (Or.inr ⟨by kernel_rfl, rfl⟩) (by assumption) ?_
      (try simp only [Act.put, List.setIfInBounds_toArray, List.set_cons_zero, List.set_cons_succ])
      refine wpAnyH_take (i := 21) (oi := ⟨some 181, _, _, _, _, _⟩) (v := undef) rfl (by kernel_rfl) (by kernel_rfl) (by kernel_rfl) (fun _ _ _ h => h) (Or.inr ⟨by kernel_rfl, rfl⟩) (by assumption) ?_
      (try simp only [Act.put, List.setIfInBounds_toArray, List.set_cons_zero, List.set_cons_succ])
      refine wpAnyH_take (i := 22) (oi := ⟨some 182, _, _, _, _, _⟩) (v := undef) rfl (by kernel_rfl) (by kernel_rfl) (by kernel_rfl) (fun _ _ _ h => h) (Or.inr ⟨by kernel_rfl, rfl⟩) (by assumption) ?_
      (try simp only [Act.put, List.setIfInBounds_toArray, List.set_cons_zero, List.set_cons_succ])
      refine wpAnyH_take (i := 23) (oi := ⟨some 183, _, _, _, _, _⟩) (v := undef) rfl (by kernel_rfl) (by kernel_rfl) (by kernel_rfl) (fun _ _ _ h => h) (Or.inr ⟨by kernel_rfl, rfl⟩) (by assumption) ?_
      (try simp only [Act.put, List.setIfInBounds_toArray, List.set_cons_zero, List.set_cons_succ])
      refine wpAnyH_take (i := 24) (oi := ⟨some 184, _, _, _, _, _⟩) (v := ?_) rfl (by kernel_rfl) (by kernel_rfl) (by kernel_rfl) (fun _ _ _ h => h) (Or.inl ⟨by kernel_rfl, ?_⟩) (by assumption) ?_
      rotate_left
      · (intro w hSw; (try dsimp only at hSw); go_simp; try with_reducible rfl)
      (try simp only [Act.put, List.setIfInBounds_toArray, List.set_cons_zero, List.set_cons_succ])
      refine wpAnyH_take (i := 25) (oi := ⟨some 185, _, _, _, _, _⟩) (v := ?_) rfl (by kernel_rfl) (by kernel_rfl) (by kernel_rfl) (fun _ _ _ h => h) (Or.inl ⟨by kernel_rfl, ?_⟩) (by assumption) ?_
      rotate_left
      · (intro w hSw; (try dsimp only at hSw); go_simp; try with_reducible rfl)
      (try simp only [Act.put, List.setIfInBounds_toArray, List.set_cons_zero, List.set_cons_succ])
      refine wpAnyH_take (i := 26) (oi := ⟨some 186, _, _, _, _, _⟩) (v := ?_) rfl (by kernel_rfl) (by kernel_rfl) (by kernel_rfl) (fun _ _ _ h => h) (Or.inl ⟨by kernel_rfl, ?_⟩) (by assumption) ?_
      rotate_left
      · (intro w hSw; (try dsimp only at hSw); go_simp; try with_reducible rfl)
      (try simp only [Act.put, List.setIfInBounds_toArray, List.set_cons_zero, List.set_cons_succ])
      refine wpAnyH_take (i := 27) (oi := ⟨some 187, _, _, _, _, _⟩) (v := ?_) rfl (by kernel_rfl) (by kernel_rfl) (by kernel_rfl) (fun _ _ _ h => h) (Or.inl ⟨by kernel_rfl, ?_⟩) (by assumption) ?_
      rotate_left
      · (intro w hSw; (try dsimp only at hSw); go_simp; try with_reducible rfl)
      (try simp only [Act.put, List.setIfInBounds_toArray, List.set_cons_zero, List.set_cons_succ])
      refine wpAnyH_take (i := 28) (oi := ⟨some 188, _, _, _, _, _⟩) (v := ?_) rfl (by kernel_rfl) (by kernel_rfl) (by kernel_rfl) (fun _ _ _ h => h) (Or.inl ⟨by kernel_rfl, ?_⟩) (by assumption) ?_
      rotate_left
      · (intro w hSw; (try dsimp only at hSw); go_simp; try with_reducible rfl)
      (try simp only [Act.put, List.setIfInBounds_toArray, List.set_cons_zero, List.set_cons_succ])
      refine wpAnyH_take (i := 29) (oi := ⟨some 189, _, _, _, _, _⟩) (v := ?_) rfl (by kernel_rfl) (by kernel_rfl) (by kernel_rfl) (fun _ _ _ h => h) (Or.inl ⟨by kernel_rfl, ?_⟩) (by assumption) ?_
      rotate_left
      · (intro w hSw; (try dsimp only at hSw); go_simp; try with_reducible rfl)
      (try simp only [Act.put, List.setIfInBounds_toArray, List.set_cons_zero, List.set_cons_succ])
      refine wpAnyH_take (i := 30) (oi := ⟨some 190, _, _, _, _, _⟩) (v := ?_) rfl (by kernel_rfl) (by kernel_rfl) (by kernel_rfl) (fun _ _ _ h => h) (Or.inl ⟨by kernel_rfl, ?_⟩) (by assumption) ?_
      rotate_left
      · (intro w hSw; (try dsimp only at hSw); go_simp; try with_reducible rfl)
      (try simp only [Act.put, List.setIfInBounds_toArray, List.set_cons_zero, List.set_cons_succ])
      refine wpAnyH_take (i := 31) (oi := ⟨some 191, _, _, _, _, _⟩) (v := ?_) rfl (by kernel_rfl) (by kernel_rfl) (by kernel_rfl) (fun _ _ _ h => h) (Or.inl ⟨by kernel_rfl, ?_⟩) (by assumption) ?_
      rotate_left
      · (intro w hSw; (try dsimp only at hSw); go_simp; try with_reducible rfl)
      (try simp only [Act.put, List.setIfInBounds_toArray, List.set_cons_zero, List.set_cons_succ])
      refine wpAnyH_take (i := 32) (oi := ⟨some 192, _, _, _, _, _⟩) (v := ?_) rfl (by kernel_rfl) (by kernel_rfl) (by kernel_rfl) (fun _ _ _ h => h) (Or.inl ⟨by kernel_rfl, ?_⟩) (by assumption) ?_
      rotate_left
      · (intro w hSw; (try dsimp only at hSw); go_simp; try with_reducible rfl)
      (try simp only [Act.put, List.setIfInBounds_toArray, List.set_cons_zero, List.set_cons_succ])
      refine wpAnyH_take (i := 34) (oi := ⟨some 194, _, _, _, _, _⟩) (v := ?_) rfl (by kernel_rfl) (by kernel_rfl) (by kernel_rfl) (fun _ _ _ h => h) (Or.inl ⟨by kernel_rfl, ?_⟩) (by assumption) ?_
      rotate_left
      · (intro w hSw; (try dsimp only at hSw); go_simp; try with_reducible rfl)
      (try simp only [Act.put, List.setIfInBounds_toArray, List.set_cons_zero, List.set_cons_succ])
      refine wpAnyH_ready (rs := [33]) (by kernel_rfl) (by simp) ?_
      refine AllReadyH.cons (o := ⟨some 193, _, _, _, _, _⟩) rfl (fun K hK => ?_) AllReadyH.nil
      go_simp
      refine (TQq.out _ qa qz (HKE.out _ (HW.out _ J2.out).1).2.2.1.one (HW.out _ J2.out).2.2.1).mono ?_
      rintro e' W3 ⟨rfl, bb3⟩
      have J3 : Hid (Below x8.heap.size x8 W3) := J2.out.trans (bb3.mono J2.out.size)
      refine hK.out _ _ ?_ (fun hHeld => ?_)
      · exact HX.out _ J3.out
      clear hK K bb3
      (try simp only [Act.put, List.setIfInBounds_toArray, List.set_cons_zero, List.set_cons_succ])
      refine wpAnyH_take (i := 35) (oi := ⟨some 195, _, _, _, _, _⟩) (v := ?_) rfl (by kernel_rfl) (by kernel_rfl) (by kernel_rfl) (fun _ _ _ h => h) (Or.inl ⟨by kernel_rfl, ?_⟩) (by assumption) ?_
      rotate_left
      · (intro w hSw; (try dsimp only at hSw); go_simp; try with_reducible rfl)
      (try simp only [Act.put, List.setIfInBounds_toArray, List.set_cons_zero, List.set_cons_succ])
      refine wpAnyH_take (i := 36) (oi := ⟨some 196, _, _, _, _, _⟩) (v := ?_) rfl (by kernel_rfl) (by kernel_rfl) (by kernel_rfl) (fun _ _ _ h => h) (Or.inl ⟨by kernel_rfl, ?_⟩) (by assumption) ?_
      rotate_left
      · (intro w hSw; (try dsimp only at hSw); go_simp; try with_reducible rfl)
      (try simp only [Act.put, List.setIfInBounds_toArray, List.set_cons_zero, List.set_cons_succ])
      refine wpAnyH_take (i := 37) (oi := ⟨some 197, _, _, _, _, _⟩) (v := ?_) rfl (by kernel_rfl) (by kernel_rfl) (by kernel_rfl) (fun _ _ _ h => h) (Or.inl ⟨by kernel_rfl, ?_⟩) (by assumption) ?_
      rotate_left
      · (intro w hSw; (try dsimp only at hSw); go_simp; try with_reducible rfl)
      (try simp only [Act.put, List.setIfInBounds_toArray, List.set_cons_zero, List.set_cons_succ])
      refine wpAnyH_take (i := 38) (oi := ⟨some 198, _, _, _, _, _⟩) (v := ?_) rfl (by kernel_rfl) (by kernel_rfl) (by kernel_rfl) (fun _ _ _ h => h) (Or.inl ⟨by kernel_rfl, ?_⟩) (by assumption) ?_
      rotate_left
      · (intro w hSw; (try dsimp only at hSw); go_simp; try with_reducible rfl)
      (try simp only [Act.put, List.setIfInBounds_toArray, List.set_cons_zero, List.set_cons_succ])
      refine wpAnyH_take (i := 39) (oi := ⟨some 199, _, _, _, _, _⟩) (v := ?_) rfl (by kernel_rfl) (by kernel_rfl) (by kernel_rfl) (fun _ _ _ h => h) (Or.inl ⟨by kernel_rfl, ?_⟩) (by assumption) ?_
      rotate_left
      · (intro w hSw; (try dsimp only at hSw); go_simp; try with_reducible rfl)
      (try simp only [Act.put, List.setIfInBounds_toArray, List.set_cons_zero, List.set_cons_succ])
      refine wpAnyH_take (i := 40) (oi := ⟨some 200, _, _, _, _, _⟩) (v := ?_) rfl (by kernel_rfl) (by kernel_rfl) (by kernel_rfl) (fun _ _ _ h => h) (Or.inl ⟨by kernel_rfl, ?_⟩) (by assumption) ?_
      rotate_left
      · (intro w hSw; (try dsimp only at hSw); go_simp; try with_reducible rfl)
      (try simp only [Act.put, List.setIfInBounds_toArray, List.set_cons_zero, List.set_cons_succ])
      refine wpAnyH_take (i := 42) (oi := ⟨some 202, _, _, _, _, _⟩) (v := ?_) rfl (by kernel_rfl) (by kernel_rfl) (by kernel_rfl) (fun _ _ _ h => h) (Or.inl ⟨by kernel_rfl, ?_⟩) (by assumption) ?_
      rotate_left
      · (intro w hSw; (try dsimp only at hSw); go_simp; try with_reducible rfl)
      (try simp only [Act.put, List.setIfInBounds_toArray, List.set_cons_zero, List.set_cons_succ])
      refine wpAnyH_take (i := 43) (oi := ⟨some 203, _, _, _, _, _⟩) (v := ?_) rfl (by kernel_rfl) (by kernel_rfl) (by kernel_rfl) (fun _ _ _ h => h) (Or.inl ⟨by kernel_rfl, ?_⟩) (by assumption) ?_
      rotate_left
      · (intro w hSw; (try dsimp only at hSw); go_simp; try with_reducible rfl)
      (try simp only [Act.put, List.setIfInBounds_toArray, List.set_cons_zero, List.set_cons_succ])
      refine wpAnyH_ready (rs := [41]) (by kernel_rfl) (by simp) ?_
      refine AllReadyH.cons (o := ⟨some 201, _, _, _, _, _⟩) rfl (fun K hK => ?_) AllReadyH.nil
      go_simp
      refine (TGi.out _ (HKE.out _ (HW.out _ J3.out).1).1 (HKE.out _ (HW.out _ J3.out).1).2.2.2 (HW.out _ J3.out).2.2.2).mono ?_
      rintro e' W4 ⟨rfl, bb4⟩
      have J4 : Hid (Below x8.heap.size x8 W4) := J3.out.trans (bb4.mono J3.out.size)
      refine hK.out _ _ ?_ (fun hHeld => ?_)
      · exact HX.out _ J4.out
      clear hK K bb4
      (try simp only [Act.put, List.setIfInBounds_toArray, List.set_cons_zero, List.set_cons_succ])
      refine wpAnyH_ready (rs := [44]) (by kernel_rfl) (by simp) ?_
      refine AllReadyH.cons (o := ⟨some 204, _, _, _, _, _⟩) rfl (fun K hK => ?_) AllReadyH.nil
      go_simp
      refine (TGs.out _ (HW.out _ J4.out).2.2.2).mono ?_
      rintro e' W5 ⟨rfl, bb5⟩
      have J5 : Hid (Below x8.heap.size x8 W5) := J4.out.trans (bb5.mono J4.out.size)
      refine hK.out _ _ ?_ (fun hHeld => ?_)
      · exact HX.out _ J5.out
      clear hK K bb5
      (try simp only [Act.put, List.setIfInBounds_toArray, List.set_cons_zero, List.set_cons_succ])
      refine wpAnyH_take (i := 45) (oi := ⟨some 205, _, _, _, _, _⟩) (v := ?_) rfl (by kernel_rfl) (by kernel_rfl) (by kernel_rfl) (fun _ _ _ h => h) (Or.inl ⟨by kernel_rfl, ?_⟩) (by assumption) ?_
      rotate_left
      · (intro w hSw; (try dsimp only at hSw); go_simp; try with_reducible rfl)
      (try simp only [Act.put, List.setIfInBounds_toArray, List.set_cons_zero, List.set_cons_succ])
      refine wpAnyH_take (i := 46) (oi := ⟨some 206, _, _, _, _, _⟩) (v := ?_) rfl (by kernel_rfl) (by kernel_rfl) (by kernel_rfl) (fun _ _ _ h => h) (Or.inl ⟨by kernel_rfl, ?_⟩) (by assumption) ?_
      rotate_left
      · (intro w hSw; (try dsimp only at hSw); go_simp; try with_reducible rfl)
      (try simp only [Act.put, List.setIfInBounds_toArray, List.set_cons_zero, List.set_cons_succ])
      refine wpAnyH_take (i := 47) (oi := ⟨some 4, _, _, _, _, _⟩) (v := ?_) rfl (by kernel_rfl) (by kernel_rfl) (by kernel_rfl) (fun _ _ _ h => h) (Or.inl ⟨by kernel_rfl, ?_⟩) (by assumption) ?_
      rotate_left
      · (intro w hSw; (try dsimp only at hSw); go_simp; try with_reducible rfl)
      (try simp only [Act.put, List.setIfInBounds_toArray, List.set_cons_zero, List.set_cons_succ])
      refine wpAnyH_done (by kernel_rfl) ?_ _
      go_wp2
      go_ret
      exact ⟨rfl, (HW.out _ J5.out).1⟩
    · as_aux_lemma =>
      have e1 : (qc != 0) = true := by simp [hqc]
      clear TQb
      have J0 : Hid (Below x8.heap.size x8 x8.drew) := (Below.refl _ _).drew
      refine wp_region_held_drew (S := fun V => ((V.cell? ⟨x5.heap.size, 0, none⟩ = some (.int .i64 ykey) ∧ V.cell? ⟨x5.heap.size, 1, none⟩ = some (.slice ya yl yz) ∧ V.cell? ⟨x5.heap.size, 2, none⟩ = some (.int .i64 ysk) ∧ V.cell? ⟨x5.heap.size, 3, none⟩ = some (.int .i64 yse) ∧ V.cell? ⟨x5.heap.size, 4, none⟩ = some (.int .i64 yss) ∧ V.cell? ⟨x5.heap.size, 5, none⟩ = some (.int .i64 yc)) ∧ (V.cell? ⟨x7.heap.size, 0, none⟩ = some (.string qiss) ∧ V.cell? ⟨x7.heap.size, 1, none⟩ = some (.int .i64 qfr) ∧ V.cell? ⟨x7.heap.size, 2, none⟩ = some (.int .i64 qtill) ∧ V.cell? ⟨x7.heap.size, 3, none⟩ = some (.slice qa ql qz) ∧ V.cell? ⟨x7.heap.size, 4, none⟩ = some (.int .i64 qsk) ∧ V.cell? ⟨x7.heap.size, 5, none⟩ = some (.int .i64 qse) ∧ V.cell? ⟨x7.heap.size, 6, none⟩ = some (.int .i64 qss) ∧ V.cell? ⟨x7.heap.size, 7, none⟩ = some (.int .i64 qc)) ∧ (V.cell? ⟨x3.heap.size, 0, none⟩ = some (.string diss) ∧ V.cell? ⟨x3.heap.size, 1, none⟩ = some (.int .i64 dfr) ∧ V.cell? ⟨x3.heap.size, 2, none⟩ = some (.int .i64 dtill) ∧ V.cell? ⟨x3.heap.size, 3, none⟩ = some (.slice da dl dz) ∧ V.cell? ⟨x3.heap.size, 4, none⟩ = some (.int .i64 dsk) ∧ V.cell? ⟨x3.heap.size, 5, none⟩ = some (.int .i64 dse) ∧ V.cell? ⟨x3.heap.size, 6, none⟩ = some (.int .i64 dss)))) (by kernel_rfl) ?_ (fun hHeld => ?_)
      · exact HX.out _ J0.out
      refine wpAnyH_take (i := 0) (oi := ⟨some 160, _, _, _, _, _⟩) (v := ?_) rfl (by kernel_rfl) (by kernel_rfl) (by kernel_rfl) (fun _ _ _ h => h) (Or.inl ⟨by kernel_rfl, ?_⟩) (by assumption) ?_
      rotate_left
      · (intro w hSw; (try dsimp only at hSw); go_simp; try with_reducible rfl)
      (try simp only [Act.put, List.setIfInBounds_toArray, List.set_cons_zero, List.set_cons_succ])
      refine wpAnyH_take (i := 1) (oi := ⟨some 161, _, _, _, _, _⟩) (v := ?_) rfl (by kernel_rfl) (by kernel_rfl) (by kernel_rfl) (fun _ _ _ h => h) (Or.inl ⟨by kernel_rfl, ?_⟩) (by assumption) ?_
      rotate_left
      · (intro w hSw; (try dsimp only at hSw); go_simp; try with_reducible rfl)
      (try simp only [Act.put, List.setIfInBounds_toArray, List.set_cons_zero, List.set_cons_succ])
      refine wpAnyH_take (i := 2) (oi := ⟨some 162, _, _, _, _, _⟩) (v := ?_) rfl (by kernel_rfl) (by kernel_rfl) (by kernel_rfl) (fun _ _ _ h => h) (Or.inl ⟨by kernel_rfl, ?_⟩) (by assumption) ?_
      rotate_left
      · (intro w hSw; (try dsimp only at hSw); go_simp; try with_reducible rfl)
      (try simp only [Act.put, List.setIfInBounds_toArray, List.set_cons_zero, List.set_cons_succ])
      refine wpAnyH_ready (rs := [3]) (by kernel_rfl) (by simp) ?_
      refine AllReadyH.cons (o := ⟨some 163, _, _, _, _, _⟩) rfl (fun K hK => ?_) AllReadyH.nil
      go_simp
      refine (TYs.out _).mono ?_
      rintro e' W1 ⟨v5, rfl, o5, bb1⟩
      have J1 : Hid (Below x8.heap.size x8 W1) := J0.out.trans (bb1.mono J0.out.size)
      refine hK.out _ _ ?_ (fun hHeld => ?_)
      · exact HX.out _ J1.out
      clear hK K bb1
      (try simp only [Act.put, List.setIfInBounds_toArray, List.set_cons_zero, List.set_cons_succ])
      refine wpAnyH_take (i := 4) (oi := ⟨some 164, _, _, _, _, _⟩) (v := ?_) rfl (by kernel_rfl) (by kernel_rfl) (by kernel_rfl) (fun _ _ _ h => h) (Or.inl ⟨by kernel_rfl, ?_⟩) (by assumption) ?_
      rotate_left
      · (intro w hSw; (try dsimp only at hSw); go_simp; try with_reducible rfl)
      (try simp only [Act.put, List.setIfInBounds_toArray, List.set_cons_zero, List.set_cons_succ])
      refine wpAnyH_take (i := 5) (oi := ⟨some 165, _, _, _, _, _⟩) (v := ?_) rfl (by kernel_rfl) (by kernel_rfl) (by kernel_rfl) (fun _ _ _ h => h) (Or.inl ⟨by kernel_rfl, ?_⟩) (by assumption) ?_
      rotate_left
      · (intro w hSw; (try dsimp only at hSw); go_simp; try with_reducible rfl)
      (try simp only [Act.put, List.setIfInBounds_toArray, List.set_cons_zero, List.set_cons_succ])
      refine wpAnyH_take (i := 6) (oi := ⟨some 166, _, _, _, _, _⟩) (v := ?_) rfl (by kernel_rfl) (by kernel_rfl) (by kernel_rfl) (fun _ _ _ h => h) (Or.inl ⟨by kernel_rfl, ?_⟩) (by assumption) ?_
      rotate_left
      · (intro w hSw; (try dsimp only at hSw); go_simp; try with_reducible rfl)
      (try simp only [Act.put, List.setIfInBounds_toArray, List.set_cons_zero, List.set_cons_succ])
      refine wpAnyH_take (i := 7) (oi := ⟨some 167, _, _, _, _, _⟩) (v := ?_) rfl (by kernel_rfl) (by kernel_rfl) (by kernel_rfl) (fun _ _ _ h => h) (Or.inl ⟨by kernel_rfl, ?_⟩) (by assumption) ?_
      rotate_left
      · (intro w hSw; (try dsimp only at hSw); go_simp; try with_reducible rfl)
      (try simp only [Act.put, List.setIfInBounds_toArray, List.set_cons_zero, List.set_cons_succ])
      refine wpAnyH_take (i := 8) (oi := ⟨some 168, _, _, _, _, _⟩) (v := ?_) rfl (by kernel_rfl) (by kernel_rfl) (by kernel_rfl) (fun _ _ _ h => h) (Or.inl ⟨by kernel_rfl, ?_⟩) (by assumption) ?_
      rotate_left
      · (intro w hSw; (try dsimp only at hSw); go_simp; try with_reducible rfl)
      (try simp only [Act.put, List.setIfInBounds_toArray, List.set_cons_zero, List.set_cons_succ])
      refine wpAnyH_take (i := 9) (oi := ⟨some 169, _, _, _, _, _⟩) (v := ?_) rfl (by kernel_rfl) (by kernel_rfl) (by kernel_rfl) (fun _ _ _ h => h) (Or.inl ⟨by kernel_rfl, ?_⟩) (by assumption) ?_
      rotate_left
      · (intro w hSw; (try dsimp only at hSw); go_simp; try with_reducible rfl)
      (try simp only [Act.put, List.setIfInBounds_toArray, List.set_cons_zero, List.set_cons_succ])
      refine wpAnyH_ready (rs := [10]) (by kernel_rfl) (by simp) ?_
      refine AllReadyH.cons (o := ⟨some 170, _, _, _, _, _⟩) rfl (fun K hK => ?_) AllReadyH.nil
      go_simp
      refine (TQs.out _).mono ?_
      rintro e' W2 ⟨v6, rfl, o6, bb2⟩
      have J2 : Hid (Below x8.heap.size x8 W2) := J1.out.trans (bb2.mono J1.out.size)
      refine hK.out _ _ ?_ (fun hHeld => ?_)
      · exact HX.out _ J2.out
      clear hK K bb2
      (try simp only [Act.put, List.setIfInBounds_toArray, List.set_cons_zero, List.set_cons_succ])
      refine wpAnyH_take (i := 11) (oi := ⟨some 171, _, _, _, _, _⟩) (v := ?_) rfl (by kernel_rfl) (by kernel_rfl) (by kernel_rfl) (fun _ _ _ h => h) (Or.inl ⟨by kernel_rfl, ?_⟩) (by assumption) ?_
      rotate_left
      · (intro w hSw; (try dsimp only at hSw); go_simp; try with_reducible rfl)
      (try simp only [Act.put, List.setIfInBounds_toArray, List.set_cons_zero, List.set_cons_succ])
      refine wpAnyH_take (i := 12) (oi := ⟨some 172, _, _, _, _, _⟩) (v := ?_) rfl (by kernel_rfl) (by kernel_rfl) (by kernel_rfl) (fun _ _ _ h => h) (Or.inl ⟨by kernel_rfl, ?_⟩) (by assumption) ?_
      rotate_left
      · (intro w hSw; (try dsimp only at hSw); go_simp; try with_reducible rfl)
      (try simp only [Act.put, List.setIfInBounds_toArray, List.set_cons_zero, List.set_cons_succ])
      refine wpAnyH_take (i := 13) (oi := ⟨some 173, _, _, _, _, _⟩) (v := ?_) rfl (by kernel_rfl) (by kernel_rfl) (by kernel_rfl) (fun _ _ _ h => h) (Or.inl ⟨by kernel_rfl, ?_⟩) (by assumption) ?_
      rotate_left
      · (intro w hSw; (try dsimp only at hSw); go_simp; try with_reducible rfl)
      (try simp only [Act.put, List.setIfInBounds_toArray, List.set_cons_zero, List.set_cons_succ])
      refine wpAnyH_take (i := 14) (oi := ⟨some 174, _, _, _, _, _⟩) (v := ?_) rfl (by kernel_rfl) (by kernel_rfl) (by kernel_rfl) (fun _ _ _ h => h) (Or.inl ⟨by kernel_rfl, ?_⟩) (by assumption) ?_
      rotate_left
      · (intro w hSw; (try dsimp only at hSw); go_simp; try with_reducible rfl)
      (try simp only [Act.put, List.setIfInBounds_toArray, List.set_cons_zero, List.set_cons_succ])
      refine wpAnyH_take (i := 15) (oi := ⟨some 175, _, _, _, _, _⟩) (v := ?_) rfl (by kernel_rfl) (by kernel_rfl) (by kernel_rfl) (fun _ _ _ h => h) (Or.inl ⟨by kernel_rfl, ?_⟩) (by assumption) ?_
      rotate_left
      · (intro w hSw; (try dsimp only at hSw); go_simp; try with_reducible rfl)
      (try simp only [Act.put, List.setIfInBounds_toArray, List.set_cons_zero, List.set_cons_succ])
      refine wpAnyH_take (i := 16) (oi := ⟨some 176, _, _, _, _, _⟩) (v := ?_) rfl (by kernel_rfl) (by kernel_rfl) (by kernel_rfl) (fun _ _ _ h => h) (Or.inl ⟨by kernel_rfl, ?_⟩) (by assumption) ?_
      rotate_left
      · (intro w hSw; (try dsimp only at hSw); go_simp; try with_reducible rfl)
      (try simp only [Act.put, List.setIfInBounds_toArray, List.set_cons_zero, List.set_cons_succ])
      refine wpAnyH_take (i := 17) (oi := ⟨some 177, _, _, _, _, _⟩) (v := ?_) rfl (by kernel_rfl) (by kernel_rfl) (by kernel_rfl) (fun _ _ _ h => h) (Or.inl ⟨by kernel_rfl, ?_⟩) (by assumption) ?_
      rotate_left
      · (intro w hSw; (try dsimp only at hSw); go_simp; try with_reducible rfl)
      (try simp only [Act.put, List.setIfInBounds_toArray, List.set_cons_zero, List.set_cons_succ])
      refine wpAnyH_take (i := 18) (oi := ⟨some 178, _, _, _, _, _⟩) (v := ?_) rfl (by kernel_rfl) (by kernel_rfl) (by kernel_rfl) (fun _ _ _ h => h) (Or.inl ⟨by kernel_rfl, ?_⟩) (by assumption) ?_
      rotate_left
      · (intro w hSw; (try dsimp only at hSw); go_simp; try with_reducible rfl)
      (try simp only [Act.put, List.setIfInBounds_toArray, List.set_cons_zero, List.set_cons_succ])
      refine wpAnyH_take (i := 19) (oi := ⟨some 179, _, _, _, _, _⟩) (v := undef) rfl (by kernel_rfl) (by kernel_rfl) (by kernel_rfl) (fun _ _ _ h => h) (Or.inr ⟨by kernel_rfl, rfl⟩) (by assumption) ?_
      (try simp only [Act.put, List.setIfInBounds_toArray, List.set_cons_zero, List.set_cons_succ])
      refine wpAnyH_take (i := 20) (oi := ⟨some 180, _, _, _, _, _⟩) (v := undef) rfl (by kernel_rfl) (by kernel_rfl) (by kernel_rfl) (fun _ _ _ h => h) (Or.inr ⟨by kernel_rfl, rfl⟩) (by assumption) ?_
      (try simp only [Act.put, List.setIfInBounds_toArray, List.set_cons_zero, List.set_cons_succ])
      refine wpAnyH_take (i := 21) (oi := ⟨some 181, _, _, _, _, _⟩) (v := undef) rfl (by kernel_rfl) (by kernel_rfl) (by kernel_rfl) (fun _ _ _ h => h) (Or.inr ⟨by kernel_rfl, rfl⟩) (by assumption) ?_
      (try simp only [Act.put, List.setIfInBounds_toArray, List.set_cons_zero, List.set_cons_succ])
      refine wpAnyH_take (i := 22) (oi := ⟨some 182, _, _, _, _, _⟩) (v := undef) rfl (by kernel_rfl) (by kernel_rfl) (by kernel_rfl) (fun _ _ _ h => h) (Or.inr ⟨by kernel_rfl, rfl⟩) (by assumption) ?_
      (try simp only [Act.put, List.setIfInBounds_toArray, List.set_cons_zero, List.set_cons_succ])
      refine wpAnyH_take (i := 23) (oi := ⟨some 183, _, _, _, _, _⟩) (v := undef) rfl (by kernel_rfl) (by kernel_rfl) (by kernel_rfl) (fun _ _ _ h => h) (Or.inr ⟨by kernel_rfl, rfl⟩) (by assumption) ?_
      (try simp only [Act.put, List.setIfInBounds_toArray, List.set_cons_zero, List.set_cons_succ])
      refine wpAnyH_take (i := 24) (oi := ⟨some 184, _, _, _, _, _⟩) (v := ?_) rfl (by kernel_rfl) (by kernel_rfl) (by kernel_rfl) (fun _ _ _ h => h) (Or.inl ⟨by kernel_rfl, ?_⟩) (by assumption) ?_
      rotate_left
      · (intro w hSw; (try dsimp only at hSw); go_simp; try with_reducible rfl)
      (try simp only [Act.put, List.setIfInBounds_toArray, List.set_cons_zero, List.set_cons_succ])
      refine wpAnyH_take (i := 25) (oi := ⟨some 185, _, _, _, _, _⟩) (v := ?_) rfl (by kernel_rfl) (by kernel_rfl) (by kernel_rfl) (fun _ _ _ h => h) (Or.inl ⟨by kernel_rfl, ?_⟩) (by assumption) ?_
      rotate_left
      · (intro w hSw; (try dsimp only at hSw); go_simp; try with_reducible rfl)
      (try simp only [Act.put, List.setIfInBounds_toArray, List.set_cons_zero, List.set_cons_succ])
      refine wpAnyH_take (i := 26) (oi := ⟨some 186, _, _, _, _, _⟩) (v := ?_) rfl (by kernel_rfl) (by kernel_rfl) (by kernel_rfl) (fun _ _ _ h => h) (Or.inl ⟨by kernel_rfl, ?_⟩) (by assumption) ?_
      rotate_left
      · (intro w hSw; (try dsimp only at hSw); go_simp; try with_reducible rfl)
      (try simp only [Act.put, List.setIfInBounds_toArray, List.set_cons_zero, List.set_cons_succ])
      refine wpAnyH_take (i := 27) (oi := ⟨some 187, _, _, _, _, _⟩) (v := ?_) rfl (by kernel_rfl) (by kernel_rfl) (by kernel_rfl) (fun _ _ _ h => h) (Or.inl ⟨by kernel_rfl, ?_⟩) (by assumption) ?_
      rotate_left
      · (intro w hSw; (try dsimp only at hSw); go_simp; try with_reducible rfl)
      (try simp only [Act.put, List.setIfInBounds_toArray, List.set_cons_zero, List.set_cons_succ])
      refine wpAnyH_take (i := 28) (oi := ⟨some 188, _, _, _, _, _⟩) (v := ?_) rfl (by kernel_rfl) (by kernel_rfl) (by kernel_rfl) (fun _ _ _ h => h) (Or.inl ⟨by kernel_rfl, ?_⟩) (by assumption) ?_
      rotate_left
      · (intro w hSw; (try dsimp only at hSw); go_simp; try with_reducible rfl)
      (try simp only [Act.put, List.setIfInBounds_toArray, List.set_cons_zero, List.set_cons_succ])
      refine wpAnyH_take (i := 29) (oi := ⟨some 189, _, _, _, _, _⟩) (v := ?_) rfl (by kernel_rfl) (by kernel_rfl) (by kernel_rfl) (fun _ _ _ h => h) (Or.inl ⟨by kernel_rfl, ?_⟩) (by assumption) ?_
      rotate_left
      · (intro w hSw; (try dsimp only at hSw); go_simp; try with_reducible rfl)
      (try simp only [Act.put, List.setIfInBounds_toArray, List.set_cons_zero, List.set_cons_succ])
      refine wpAnyH_take (i := 30) (oi := ⟨some 190, _, _, _, _, _⟩) (v := ?_) rfl (by kernel_rfl) (by kernel_rfl) (by kernel_rfl) (fun _ _ _ h => h) (Or.inl ⟨by kernel_rfl, ?_⟩) (by assumption) ?_
      rotate_left
      · (intro w hSw; (try dsimp only at hSw); go_simp; try with_reducible rfl)
      (try simp only [Act.put, List.setIfInBounds_toArray, List.set_cons_zero, List.set_cons_succ])
      refine wpAnyH_take (i := 31) (oi := ⟨some 191, _, _, _, _, _⟩) (v := undef) rfl (by kernel_rfl) (by kernel_rfl) (by kernel_rfl) (fun _ _ _ h => h) (Or.inr ⟨by kernel_rfl, rfl⟩) (by assumption) ?_
      (try simp only [Act.put, List.setIfInBounds_toArray, List.set_cons_zero, List.set_cons_succ])
      refine wpAnyH_take (i := 32) (oi := ⟨some 192, _, _, _, _, _⟩) (v := undef) rfl (by kernel_rfl) (by kernel_rfl) (by kernel_rfl) (fun _ _ _ h => h) (Or.inr ⟨by kernel_rfl, rfl⟩) (by assumption) ?_
      (try simp only [Act.put, List.setIfInBounds_toArray, List.set_cons_zero, List.set_cons_succ])
      refine wpAnyH_take (i := 33) (oi := ⟨some 193, _, _, _, _, _⟩) (v := undef) rfl (by kernel_rfl) (by kernel_rfl) (by kernel_rfl) (fun _ _ _ h => h) (Or.inr ⟨by kernel_rfl, rfl⟩) (by assumption) ?_
      (try simp only [Act.put, List.setIfInBounds_toArray, List.set_cons_zero, List.set_cons_succ])
      refine wpAnyH_take (i := 34) (oi := ⟨some 194, _, _, _, _, _⟩) (v := undef) rfl (by kernel_rfl) (by kernel_rfl) (by kernel_rfl) (fun _ _ _ h => h) (Or.inr ⟨by kernel_rfl, rfl⟩) (by assumption) ?_
      (try simp only [Act.put, List.setIfInBounds_toArray, List.set_cons_zero, List.set_cons_succ])
      refine wpAnyH_take (i := 35) (oi := ⟨some 195, _, _, _, _, _⟩) (v := undef) rfl (by kernel_rfl) (by kernel_rfl) (by kernel_rfl) (fun _ _ _ h => h) (Or.inr ⟨by kernel_rfl, rfl⟩) (by assumption) ?_
      (try simp only [Act.put, List.setIfInBounds_toArray, List.set_cons_zero, List.set_cons_succ])
      refine wpAnyH_take (i := 36) (oi := ⟨some 196, _, _, _, _, _⟩) (v := ?_) rfl (by kernel_rfl) (by kernel_rfl) (by kernel_rfl) (fun _ _ _ h => h) (Or.inl ⟨by kernel_rfl, ?_⟩) (by assumption) ?_
      rotate_left
      · (intro w hSw; (try dsimp only at hSw); go_simp; try with_reducible rfl)
      (try simp only [Act.put, List.setIfInBounds_toArray, List.set_cons_zero, List.set_cons_succ])
      refine wpAnyH_take (i := 37) (oi := ⟨some 197, _, _, _, _, _⟩) (v := ?_) rfl (by kernel_rfl) (by kernel_rfl) (by kernel_rfl) (fun _ _ _ h => h) (Or.inl ⟨by kernel_rfl, ?_⟩) (by assumption) ?_
      rotate_left
      · (intro w hSw; (try dsimp only at hSw); go_simp; try with_reducible rfl)
      (try simp only [Act.put, List.setIfInBounds_toArray, List.set_cons_zero, List.set_cons_succ])
      refine wpAnyH_take (i := 38) (oi := ⟨some 198, _, _, _, _, _⟩) (v := ?_) rfl (by kernel_rfl) (by kernel_rfl) (by kernel_rfl) (fun _ _ _ h => h) (Or.inl ⟨by kernel_rfl, ?_⟩) (by assumption) ?_
      rotate_left
      · (intro w hSw; (try dsimp only at hSw); go_simp; try with_reducible rfl)
      (try simp only [Act.put, List.setIfInBounds_toArray, List.set_cons_zero, List.set_cons_succ])
      refine wpAnyH_take (i := 39) (oi := ⟨some 199, _, _, _, _, _⟩) (v := ?_) rfl (by kernel_rfl) (by kernel_rfl) (by kernel_rfl) (fun _ _ _ h => h) (Or.inl ⟨by kernel_rfl, ?_⟩) (by assumption) ?_
      rotate_left
      · (intro w hSw; (try dsimp only at hSw); go_simp; try with_reducible rfl)
      (try simp only [Act.put, List.setIfInBounds_toArray, List.set_cons_zero, List.set_cons_succ])
      refine wpAnyH_take (i := 40) (oi := ⟨some 200, _, _, _, _, _⟩) (v := ?_) rfl (by kernel_rfl) (by kernel_rfl) (by kernel_rfl) (fun _ _ _ h => h) (Or.inl ⟨by kernel_rfl, ?_⟩) (by assumption) ?_
      rotate_left
      · (intro w hSw; (try dsimp only at hSw); go_simp; try with_reducible rfl)
      (try simp only [Act.put, List.setIfInBounds_toArray, List.set_cons_zero, List.set_cons_succ])
      refine wpAnyH_take (i := 42) (oi := ⟨some 202, _, _, _, _, _⟩) (v := ?_) rfl (by kernel_rfl) (by kernel_rfl) (by kernel_rfl) (fun _ _ _ h => h) (Or.inl ⟨by kernel_rfl, ?_⟩) (by assumption) ?_
      rotate_left
      · (intro w hSw; (try dsimp only at hSw); go_simp; try with_reducible rfl)
      (try simp only [Act.put, List.setIfInBounds_toArray, List.set_cons_zero, List.set_cons_succ])
      refine wpAnyH_take (i := 43) (oi := ⟨some 203, _, _, _, _, _⟩) (v := ?_) rfl (by kernel_rfl) (by kernel_rfl) (by kernel_rfl) (fun _ _ _ h => h) (Or.inl ⟨by kernel_rfl, ?_⟩) (by assumption) ?_
      rotate_left
      · (intro w hSw; (try dsimp only at hSw); go_simp; try with_reducible rfl)
      (try simp only [Act.put, List.setIfInBounds_toArray, List.set_cons_zero, List.set_cons_succ])
      refine wpAnyH_ready (rs := [41]) (by kernel_rfl) (by simp) ?_
      refine AllReadyH.cons (o := ⟨some 201, _, _, _, _, _⟩) rfl (fun K hK => ?_) AllReadyH.nil
      go_simp
      refine (TGi.out _ (HKE.out _ (HW.out _ J2.out).1).1 (HKE.out _ (HW.out _ J2.out).1).2.2.2 (HW.out _ J2.out).2.2.2).mono ?_
      rintro e' W3 ⟨rfl, bb3⟩
      have J3 : Hid (Below x8.heap.size x8 W3) := J2.out.trans (bb3.mono J2.out.size)
      refine hK.out _ _ ?_ (fun hHeld => ?_)
      · exact HX.out _ J3.out
      clear hK K bb3
      (try simp only [Act.put, List.setIfInBounds_toArray, List.set_cons_zero, List.set_cons_succ])
      refine wpAnyH_ready (rs := [44]) (by kernel_rfl) (by simp) ?_
      refine AllReadyH.cons (o := ⟨some 204, _, _, _, _, _⟩) rfl (fun K hK => ?_) AllReadyH.nil
      go_simp
      refine (TGs.out _ (HW.out _ J3.out).2.2.2).mono ?_
      rintro e' W4 ⟨rfl, bb4⟩
      have J4 : Hid (Below x8.heap.size x8 W4) := J3.out.trans (bb4.mono J3.out.size)
      refine hK.out _ _ ?_ (fun hHeld => ?_)
      · exact HX.out _ J4.out
      clear hK K bb4
      (try simp only [Act.put, List.setIfInBounds_toArray, List.set_cons_zero, List.set_cons_succ])
      refine wpAnyH_take (i := 45) (oi := ⟨some 205, _, _, _, _, _⟩) (v := ?_) rfl (by kernel_rfl) (by kernel_rfl) (by kernel_rfl) (fun _ _ _ h => h) (Or.inl ⟨by kernel_rfl, ?_⟩) (by assumption) ?_
      rotate_left
      · (intro w hSw; (try dsimp only at hSw); go_simp; try with_reducible rfl)
      (try simp only [Act.put, List.setIfInBounds_toArray, List.set_cons_zero, List.set_cons_succ])
      refine wpAnyH_take (i := 46) (oi := ⟨some 206, _, _, _, _, _⟩) (v := ?_) rfl (by kernel_rfl) (by kernel_rfl) (by kernel_rfl) (fun _ _ _ h => h) (Or.inl ⟨by kernel_rfl, ?_⟩) (by assumption) ?_
      rotate_left
      · (intro w hSw; (try dsimp only at hSw); go_simp; try with_reducible rfl)
      (try simp only [Act.put, List.setIfInBounds_toArray, List.set_cons_zero, List.set_cons_succ])
      refine wpAnyH_take (i := 47) (oi := ⟨some 4, _, _, _, _, _⟩) (v := ?_) rfl (by kernel_rfl) (by kernel_rfl) (by kernel_rfl) (fun _ _ _ h => h) (Or.inl ⟨by kernel_rfl, ?_⟩) (by assumption) ?_
      rotate_left
      · (intro w hSw; (try dsimp only at hSw); go_simp; try with_reducible rfl)
      (try simp only [Act.put, List.setIfInBounds_toArray, List.set_cons_zero, List.set_cons_succ])
      refine wpAnyH_done (by kernel_rfl) ?_ _
      go_wp2
      go_ret
      exact ⟨rfl, (HW.out _ J4.out).1⟩
end Go.Proofs.YtkhdjmjbdpmdnaaGreatDoor
