/- spec.l09Read, walked. spec.Base64Read, walked. -/
import Derived.Test.YtifkjelffalbhaaBR03
import Derived.Deep.Cut
import Derived.Test.YtifkjelffalbhaaBR01
namespace Go.Proofs.Ytifkjelffalbhaa
open Go.RowKit Go.Lib

theorem and16 (n : Nat) : bits .and .i64 (n : Int) 65535 = ((n % 65536 : Nat) : Int) := by
  have := and_mask 16 (by omega) n
  simpa using this
set_option linter.unusedSimpArgs false in
set_option maxHeartbeats 4000000 in
set_option maxRecDepth 100000 in
theorem specReadL (s : ByteArray) (w : World) (hs : s.size ≤ 20000) :
    Calls Try.prog 7 #[.string s] w fun e w' => e = .returned (.tuple #[.string (readLT s).1, .bool (readLT s).2]) ∧ Below w.heap.size w w' := by
  obtain ⟨i0, hi, hz0, hz1, hz2⟩ := info_parts infoByte
  obtain ⟨R, hR⟩ : ∃ R, R = (readV (bts s)).map fun vs => (rgi vs 0 0).1 := ⟨_, rfl⟩
  have HRl : Hid (∀ l, R = some l → l.length ≤ 40000) := fun l hl => by
    rw [hR] at hl
    cases hv : readV (bts s) with
    | none => rw [hv] at hl; cases hl
    | some vs =>
      rw [hv] at hl
      simp at hl
      have h1 := readV_len _ _ hv
      rw [bts_len] at h1
      have h2 := rgi_len vs 0 0
      rw [← hl]
      omega
  have HN : Hid (R = none → readLT s = (⟨#[]⟩, false)) := fun h => by
    rw [hR] at h
    unfold readLT
    cases hv : readV (bts s) with
    | none => rfl
    | some vs => rw [hv] at h; cases h
  have HS : Hid (∀ l, R = some l → readLT s = (natT l, decide (l.length ≤ 4000 ∧ b64D (natT l) = s))) := fun l hl => by
    rw [hR] at hl
    unfold readLT
    cases hv : readV (bts s) with
    | none => rw [hv] at hl; cases hl
    | some vs =>
      rw [hv] at hl
      simp at hl
      simp only [hl]
  have HR : Hid (R = (readV (bts s)).map fun vs => [] ++ (rgi vs 0 0).1) := by show _ = _; simpa using hR
  have HSg : Hid (∀ V (c : Nat), Calls Try.prog 12 #[.int .u8 (c : Int)] V fun e w' => e = .returned (.int .i64 (sgk c)) ∧ w' = V) := fun V c => specSgn c V
  have HBs : Hid (∀ V l, l.length ≤ 4000 → Calls Try.prog 13 #[.string (natT l)] V fun e w' => e = .returned (.string (b64D (natT l))) ∧ Below V.heap.size V w') := fun V l hl => specBase (natT l) V (by rw [natT_size]; omega)
  clear hR
  go_enter Try.func7, Try.ntmps7
  go_wp2
  go_loopw [4, 5, 6, 7] (fun b n c i wr => ∃ (k n' c' : Nat) (pre : List Nat), i = .int .i64 k ∧ n = .int .i64 n' ∧ c = .int .i64 c' ∧ k ≤ s.size ∧ n' < 65536 ∧ pre.length ≤ k ∧ (c' = 0 ∨ c' = 6 ∨ c' = 4 ∨ c' = 2) ∧ OwnB wr w.heap.size b pre ∧ (R = (readV ((bts s).drop k)).map fun vs => pre ++ (rgi vs (n' % 2 ^ c') c').1) ∧ Below w.heap.size w wr)
    (fun _ _ _ i _ => s.size - (RowKit.intOf i).toNat)
  case atStart =>
    exact ⟨0, 0, 0, [], rfl, rfl, rfl, Nat.zero_le _, by omega, Nat.le_refl _, .inl rfl, World.ownsRow_made _ #[] 0 (Nat.le_refl _) (Nat.zero_le _) rfl, HR.out, (Below.refl _ _).alloc (Nat.le_refl _) _⟩
  case round =>
    obtain ⟨k, n, c, pre, rfl, rfl, rfl, hk, hn, hpk, hc, hown, hat, hbel⟩ := hrel
    have HB : Hid (Below w.heap.size w wr) := hbel
    have HO : Hid (OwnB wr w.heap.size _ pre) := hown
    have HT : Hid _ := hat
    clear hown hat hbel
    by_cases hlt : k < s.size
    rotate_left
    · obtain rfl : k = s.size := by omega
      have hRs : R = some pre := by
        rw [HT.out, bts_end s s.size (Nat.le_refl _)]
        simp [readV, rgi]
      have HF : Hid _ := HS.out _ hRs
      obtain ⟨va, vc, rfl, _⟩ := OwnB.form HO.out
      obtain ⟨pl, hpl⟩ : ∃ p, p = pre.length := ⟨_, rfl⟩
      have hO : wr.ownsRow w.heap.size 5 1 (.slice va pl vc) pl ((pre.map (fun x : Nat => (x : Int))).map (Value.int .u8)) := by
        have h2 := HO.out
        unfold OwnB at h2
        rw [← hpl] at h2
        exact h2
      have HCv : Hid (∀ V : World, V.ownsRow w.heap.size 5 1 (.slice va pl vc) pl ((pre.map (fun x : Nat => (x : Int))).map (Value.int .u8)) → (convert 29 9 (.slice va pl vc)).run Try.prog V = .ok (.string (natT pre)) V) := fun V hV => run_convert_own (P := Try.prog) (src := 29) (dst := 9) Try.underlying29 Try.underlying5 Try.underlying9 hV
      have HPl : Hid (pl = pre.length) := hpl
      rw [← hpl] at HF ⊢
      have HBp : Hid (pl ≤ 4000 → ∀ V, Calls Try.prog 13 #[.string (natT pre)] V fun e w' => e = .returned (.string (b64D (natT pre))) ∧ Below V.heap.size V w') := fun h V => HBs.out V pre (by rw [← HPl.out]; exact h)
      have hD : wr.drew.ownsRow w.heap.size 5 1 (.slice va pl vc) pl ((pre.map (fun x : Nat => (x : Int))).map (Value.int .u8)) := hO
      have q2 : ¬ (s.size : Int) < (s.size : Int) := by omega
      have hcv := HCv.out
      clear hRs hpl HT HO HS HN HR HRl HSg HBs HCv hpk
      generalize natT pre = T at *
      generalize hLL : (pre.map (fun x : Nat => (x : Int))).map (Value.int .u8) = LL at *
      by_cases h4 : pl ≤ 4000
      · have H4 : Hid _ := HBp.out h4
        generalize b64D T = BT at *
        have h4i : ((pl : Nat) : Int) ≤ 4000 := by omega
        have hd4 : decide (pl ≤ 4000 ∧ BT = s) = decide (BT = s) := by simp [h4]
        have HF1 : Hid (readLT s = (T, decide (BT = s))) := by show _ = _; rw [HF.out, hd4]
        have hst := same_text' BT s
        clear HBp hd4 hLL HF
        go_upto_region 14 with fail
        refine wp_region_held_drew (S := fun V => V.ownsRow w.heap.size 5 1 (.slice va pl vc) pl LL) (by kernel_rfl) hD (fun hHeld => ?_)
        refine wpAnyH_take (i := 0) (oi := ⟨some 41, _, _, _, _, _⟩) (v := ?_) rfl (by kernel_rfl) (by kernel_rfl) (by kernel_rfl) (fun _ _ _ h => h) (Or.inl ⟨by kernel_rfl, ?_⟩) (by assumption) ?_
        rotate_left
        · (intro w hSw; (try dsimp only at hSw); go_simp; try with_reducible rfl)
        (try simp only [Act.put, List.setIfInBounds_toArray, List.set_cons_zero, List.set_cons_succ])
        refine wpAnyH_take (i := 1) (oi := ⟨some 42, _, _, _, _, _⟩) (v := ?_) rfl (by kernel_rfl) (by kernel_rfl) (by kernel_rfl) (fun _ _ _ h => h) (Or.inl ⟨by kernel_rfl, ?_⟩) (by assumption) ?_
        rotate_left
        · (intro w hSw; (try dsimp only at hSw); go_simp; try with_reducible rfl)
        (try simp only [Act.put, List.setIfInBounds_toArray, List.set_cons_zero, List.set_cons_succ])
        refine wpAnyH_take (i := 2) (oi := ⟨some 43, _, _, _, _, _⟩) (v := ?_) rfl (by kernel_rfl) (by kernel_rfl) (by kernel_rfl) (fun _ _ _ h => h) (Or.inl ⟨by kernel_rfl, ?_⟩) (by assumption) ?_
        rotate_left
        · (intro w hSw; (try dsimp only at hSw); go_simp; try with_reducible rfl)
        (try simp only [Act.put, List.setIfInBounds_toArray, List.set_cons_zero, List.set_cons_succ])
        refine wpAnyH_take (i := 3) (oi := ⟨some 44, _, _, _, _, _⟩) (v := ?_) rfl (by kernel_rfl) (by kernel_rfl) (by kernel_rfl) (fun _ _ _ h => h) (Or.inl ⟨by kernel_rfl, ?_⟩) (by assumption) ?_
        rotate_left
        · (intro w hSw; (try dsimp only at hSw); go_simp; try with_reducible rfl)
        (try simp only [Act.put, List.setIfInBounds_toArray, List.set_cons_zero, List.set_cons_succ])
        refine wpAnyH_take (i := 4) (oi := ⟨some 45, _, _, _, _, _⟩) (v := ?_) rfl (by kernel_rfl) (by kernel_rfl) (by kernel_rfl) (fun _ _ _ h => h) (Or.inl ⟨by kernel_rfl, ?_⟩) (by assumption) ?_
        rotate_left
        · (intro w hSw; (try dsimp only at hSw); go_simp; try with_reducible rfl)
        (try simp only [Act.put, List.setIfInBounds_toArray, List.set_cons_zero, List.set_cons_succ])
        refine wpAnyH_take (i := 5) (oi := ⟨some 46, _, _, _, _, _⟩) (v := ?_) rfl (by kernel_rfl) (by kernel_rfl) (by kernel_rfl) (fun _ _ _ h => h) (Or.inl ⟨by kernel_rfl, ?_⟩) (by assumption) ?_
        rotate_left
        · (intro w hSw; (try dsimp only at hSw); go_simp; try with_reducible rfl)
        (try simp only [Act.put, List.setIfInBounds_toArray, List.set_cons_zero, List.set_cons_succ])
        refine wpAnyH_take (i := 6) (oi := ⟨some 47, _, _, _, _, _⟩) (v := ?_) rfl (by kernel_rfl) (by kernel_rfl) (by kernel_rfl) (fun _ _ _ h => h) (Or.inl ⟨by kernel_rfl, ?_⟩) (by assumption) ?_
        rotate_left
        · (intro w hSw; (try dsimp only at hSw); go_simp; try with_reducible rfl)
        (try simp only [Act.put, List.setIfInBounds_toArray, List.set_cons_zero, List.set_cons_succ])
        refine wpAnyH_take (i := 7) (oi := ⟨some 48, _, _, _, _, _⟩) (v := ?_) rfl (by kernel_rfl) (by kernel_rfl) (by kernel_rfl) (fun _ _ _ h => h) (Or.inl ⟨by kernel_rfl, ?_⟩) (by assumption) ?_
        rotate_left
        · (intro w hSw; (try dsimp only at hSw); go_simp; try with_reducible rfl)
        (try simp only [Act.put, List.setIfInBounds_toArray, List.set_cons_zero, List.set_cons_succ])
        refine wpAnyH_take (i := 9) (oi := ⟨some 50, _, _, _, _, _⟩) (v := ?_) rfl (by kernel_rfl) (by kernel_rfl) (by kernel_rfl) (fun _ _ _ h => h) (Or.inl ⟨by kernel_rfl, ?_⟩) (by assumption) ?_
        rotate_left
        · (intro w hSw; (try dsimp only at hSw); go_simp; try with_reducible rfl)
        (try simp only [Act.put, List.setIfInBounds_toArray, List.set_cons_zero, List.set_cons_succ])
        refine wpAnyH_ready (rs := [8]) (by kernel_rfl) (by simp) ?_
        refine AllReadyH.cons (o := ⟨some 49, _, _, _, _, _⟩) rfl (fun K hK => ?_) AllReadyH.nil
        go_simp
        refine (H4.out wr.drew).mono ?_
        rintro e w2 ⟨rfl, b2⟩
        have hO2 : w2.ownsRow w.heap.size 5 1 (.slice va pl vc) pl LL := by
          refine ⟨hD.1, ?_⟩
          rcases hD.2 with h | ⟨g, cap, cur, e, h1, h2, h3⟩
          · exact .inl h
          · exact .inr ⟨g, cap, cur, e, h1, by rw [b2.block g (heap_lt h2)]; exact h2, h3⟩
        have HB2 : Hid (Below w.heap.size w w2) := HB.out.drew.trans (b2.mono HB.out.size)
        refine hK.out _ _ hO2 (fun hHeld => ?_)
        clear hK K b2 hD hO HB H4
        (try simp only [Act.put, List.setIfInBounds_toArray, List.set_cons_zero, List.set_cons_succ])
        refine wpAnyH_take (i := 10) (oi := ⟨some 51, _, _, _, _, _⟩) (v := ?_) rfl (by kernel_rfl) (by kernel_rfl) (by kernel_rfl) (fun _ _ _ h => h) (Or.inl ⟨by kernel_rfl, ?_⟩) (by assumption) ?_
        rotate_left
        · (intro w hSw; (try dsimp only at hSw); go_simp; try with_reducible rfl)
        (try simp only [Act.put, List.setIfInBounds_toArray, List.set_cons_zero, List.set_cons_succ])
        refine wpAnyH_take (i := 11) (oi := ⟨some 52, _, _, _, _, _⟩) (v := ?_) rfl (by kernel_rfl) (by kernel_rfl) (by kernel_rfl) (fun _ _ _ h => h) (Or.inl ⟨by kernel_rfl, ?_⟩) (by assumption) ?_
        rotate_left
        · (intro w hSw; (try dsimp only at hSw); go_simp; try with_reducible rfl)
        (try simp only [Act.put, List.setIfInBounds_toArray, List.set_cons_zero, List.set_cons_succ])
        refine wpAnyH_take (i := 12) (oi := ⟨some 2, _, _, _, _, _⟩) (v := ?_) rfl (by kernel_rfl) (by kernel_rfl) (by kernel_rfl) (fun _ _ _ h => h) (Or.inl ⟨by kernel_rfl, ?_⟩) (by assumption) ?_
        rotate_left
        · (intro w hSw; (try dsimp only at hSw); go_simp; try with_reducible rfl)
        (try simp only [Act.put, List.setIfInBounds_toArray, List.set_cons_zero, List.set_cons_succ])
        refine wpAnyH_take (i := 13) (oi := ⟨some 3, _, _, _, _, _⟩) (v := ?_) rfl (by kernel_rfl) (by kernel_rfl) (by kernel_rfl) (fun _ _ _ h => h) (Or.inl ⟨by kernel_rfl, ?_⟩) (by assumption) ?_
        rotate_left
        · (intro w hSw; (try dsimp only at hSw); go_simp; try with_reducible rfl)
        (try simp only [Act.put, List.setIfInBounds_toArray, List.set_cons_zero, List.set_cons_succ])
        refine wpAnyH_done (by kernel_rfl) ?_ _
        go_wp2
        go_ret2
        exact ⟨by rw [HF1.out]; rfl, HB2.out⟩
      · have h4i : ¬ ((pl : Nat) : Int) ≤ 4000 := by omega
        have hd4 : decide (pl ≤ 4000 ∧ b64D T = s) = false := by simp [h4]
        have HF1 : Hid (readLT s = (T, false)) := by show _ = _; rw [HF.out, hd4]
        have HB2 : Hid (Below w.heap.size w wr.drew) := HB.out.drew
        clear HBp hd4 hLL HF
        go_upto_region 14 with fail
        refine wp_region_held_drew (S := fun V => V.ownsRow w.heap.size 5 1 (.slice va pl vc) pl LL) (by kernel_rfl) hD (fun hHeld => ?_)
        refine wpAnyH_take (i := 0) (oi := ⟨some 41, _, _, _, _, _⟩) (v := ?_) rfl (by kernel_rfl) (by kernel_rfl) (by kernel_rfl) (fun _ _ _ h => h) (Or.inl ⟨by kernel_rfl, ?_⟩) (by assumption) ?_
        rotate_left
        · (intro w hSw; (try dsimp only at hSw); go_simp; try with_reducible rfl)
        (try simp only [Act.put, List.setIfInBounds_toArray, List.set_cons_zero, List.set_cons_succ])
        refine wpAnyH_take (i := 1) (oi := ⟨some 42, _, _, _, _, _⟩) (v := ?_) rfl (by kernel_rfl) (by kernel_rfl) (by kernel_rfl) (fun _ _ _ h => h) (Or.inl ⟨by kernel_rfl, ?_⟩) (by assumption) ?_
        rotate_left
        · (intro w hSw; (try dsimp only at hSw); go_simp; try with_reducible rfl)
        (try simp only [Act.put, List.setIfInBounds_toArray, List.set_cons_zero, List.set_cons_succ])
        refine wpAnyH_take (i := 2) (oi := ⟨some 43, _, _, _, _, _⟩) (v := ?_) rfl (by kernel_rfl) (by kernel_rfl) (by kernel_rfl) (fun _ _ _ h => h) (Or.inl ⟨by kernel_rfl, ?_⟩) (by assumption) ?_
        rotate_left
        · (intro w hSw; (try dsimp only at hSw); go_simp; try with_reducible rfl)
        (try simp only [Act.put, List.setIfInBounds_toArray, List.set_cons_zero, List.set_cons_succ])
        refine wpAnyH_take (i := 3) (oi := ⟨some 44, _, _, _, _, _⟩) (v := ?_) rfl (by kernel_rfl) (by kernel_rfl) (by kernel_rfl) (fun _ _ _ h => h) (Or.inl ⟨by kernel_rfl, ?_⟩) (by assumption) ?_
        rotate_left
        · (intro w hSw; (try dsimp only at hSw); go_simp; try with_reducible rfl)
        (try simp only [Act.put, List.setIfInBounds_toArray, List.set_cons_zero, List.set_cons_succ])
        refine wpAnyH_take (i := 4) (oi := ⟨some 45, _, _, _, _, _⟩) (v := ?_) rfl (by kernel_rfl) (by kernel_rfl) (by kernel_rfl) (fun _ _ _ h => h) (Or.inl ⟨by kernel_rfl, ?_⟩) (by assumption) ?_
        rotate_left
        · (intro w hSw; (try dsimp only at hSw); go_simp; try with_reducible rfl)
        (try simp only [Act.put, List.setIfInBounds_toArray, List.set_cons_zero, List.set_cons_succ])
        refine wpAnyH_take (i := 5) (oi := ⟨some 46, _, _, _, _, _⟩) (v := ?_) rfl (by kernel_rfl) (by kernel_rfl) (by kernel_rfl) (fun _ _ _ h => h) (Or.inl ⟨by kernel_rfl, ?_⟩) (by assumption) ?_
        rotate_left
        · (intro w hSw; (try dsimp only at hSw); go_simp; try with_reducible rfl)
        (try simp only [Act.put, List.setIfInBounds_toArray, List.set_cons_zero, List.set_cons_succ])
        refine wpAnyH_take (i := 6) (oi := ⟨some 47, _, _, _, _, _⟩) (v := undef) rfl (by kernel_rfl) (by kernel_rfl) (by kernel_rfl) (fun _ _ _ h => h) (Or.inr ⟨by kernel_rfl, rfl⟩) (by assumption) ?_
        (try simp only [Act.put, List.setIfInBounds_toArray, List.set_cons_zero, List.set_cons_succ])
        refine wpAnyH_take (i := 7) (oi := ⟨some 48, _, _, _, _, _⟩) (v := undef) rfl (by kernel_rfl) (by kernel_rfl) (by kernel_rfl) (fun _ _ _ h => h) (Or.inr ⟨by kernel_rfl, rfl⟩) (by assumption) ?_
        (try simp only [Act.put, List.setIfInBounds_toArray, List.set_cons_zero, List.set_cons_succ])
        refine wpAnyH_take (i := 8) (oi := ⟨some 49, _, _, _, _, _⟩) (v := undef) rfl (by kernel_rfl) (by kernel_rfl) (by kernel_rfl) (fun _ _ _ h => h) (Or.inr ⟨by kernel_rfl, rfl⟩) (by assumption) ?_
        (try simp only [Act.put, List.setIfInBounds_toArray, List.set_cons_zero, List.set_cons_succ])
        refine wpAnyH_take (i := 9) (oi := ⟨some 50, _, _, _, _, _⟩) (v := undef) rfl (by kernel_rfl) (by kernel_rfl) (by kernel_rfl) (fun _ _ _ h => h) (Or.inr ⟨by kernel_rfl, rfl⟩) (by assumption) ?_
        (try simp only [Act.put, List.setIfInBounds_toArray, List.set_cons_zero, List.set_cons_succ])
        refine wpAnyH_take (i := 10) (oi := ⟨some 51, _, _, _, _, _⟩) (v := undef) rfl (by kernel_rfl) (by kernel_rfl) (by kernel_rfl) (fun _ _ _ h => h) (Or.inr ⟨by kernel_rfl, rfl⟩) (by assumption) ?_
        (try simp only [Act.put, List.setIfInBounds_toArray, List.set_cons_zero, List.set_cons_succ])
        refine wpAnyH_take (i := 11) (oi := ⟨some 52, _, _, _, _, _⟩) (v := ?_) rfl (by kernel_rfl) (by kernel_rfl) (by kernel_rfl) (fun _ _ _ h => h) (Or.inl ⟨by kernel_rfl, ?_⟩) (by assumption) ?_
        rotate_left
        · (intro w hSw; (try dsimp only at hSw); go_simp; try with_reducible rfl)
        (try simp only [Act.put, List.setIfInBounds_toArray, List.set_cons_zero, List.set_cons_succ])
        refine wpAnyH_take (i := 12) (oi := ⟨some 2, _, _, _, _, _⟩) (v := ?_) rfl (by kernel_rfl) (by kernel_rfl) (by kernel_rfl) (fun _ _ _ h => h) (Or.inl ⟨by kernel_rfl, ?_⟩) (by assumption) ?_
        rotate_left
        · (intro w hSw; (try dsimp only at hSw); go_simp; try with_reducible rfl)
        (try simp only [Act.put, List.setIfInBounds_toArray, List.set_cons_zero, List.set_cons_succ])
        refine wpAnyH_take (i := 13) (oi := ⟨some 3, _, _, _, _, _⟩) (v := ?_) rfl (by kernel_rfl) (by kernel_rfl) (by kernel_rfl) (fun _ _ _ h => h) (Or.inl ⟨by kernel_rfl, ?_⟩) (by assumption) ?_
        rotate_left
        · (intro w hSw; (try dsimp only at hSw); go_simp; try with_reducible rfl)
        (try simp only [Act.put, List.setIfInBounds_toArray, List.set_cons_zero, List.set_cons_succ])
        refine wpAnyH_done (by kernel_rfl) ?_ _
        go_wp2
        go_ret2
        exact ⟨by rw [HF1.out]; rfl, HB2.out⟩
    have q1 : (0 : Int) ≤ (k : Int) := Int.natCast_nonneg _
    have q2 : (k : Int) < (s.size : Int) := by omega
    have hT := HT.out
    rw [bts_drop s k hlt, readV] at hT
    have hcz := u8_lt s[k]
    obtain ⟨z, hz⟩ : ∃ z, z = s[k].toNat := ⟨_, rfl⟩
    have hidx : (s[k].toNat : Int) = (z : Int) := by rw [hz]
    rw [← hz] at hT
    have HZ : Hid (s[k].toNat = z) := hz.symm
    obtain ⟨va, vc, rfl, _⟩ := OwnB.form HO.out
    cases hsg : sgi z with
    | none =>
      have hRn : R = none := by rw [hT, hsg]; rfl
      have HF : Hid _ := HN.out hRn
      have hk1 : sgk z = -1 := by rw [sgk, hsg]
      clear hT HT hRn HS HBs HR
      go_wp2_with fail
      refine (HSg.out wr z).mono ?_
      rintro e w2 ⟨rfl, rfl⟩
      rw [hk1]
      clear hsg hk1
      go_wp2
      go_ret2
      exact ⟨by rw [HF.out]; rfl, HB.out⟩
    | some q =>
    have hq := (sgi_some hsg).1
    have hk1 : sgk z = (q : Int) := by rw [sgk, hsg]
    have HT2 : Hid (R = (readV ((bts s).drop (k + 1))).map fun vs => pre ++ (rgi (q :: vs) (n % 2 ^ c) c).1) := by
      show _ = _
      rw [hT, hsg]
      cases readV ((bts s).drop (k + 1)) <;> rfl
    obtain ⟨m, hm⟩ : ∃ m, m = n * 64 + q := ⟨_, rfl⟩
    have o1 : bits .or .i64 ((n : Int) * 64) (q : Int) = (m : Int) := by
      have := or_low 6 (by omega) n q (by omega) (by omega)
      rw [hm, ← this]
      congr 1
    obtain ⟨n2, hn2⟩ : ∃ n2, n2 = m % 65536 := ⟨_, rfl⟩
    have o2 : bits .and .i64 (m : Int) 65535 = (n2 : Int) := by rw [and16, hn2]
    have hn2l : n2 < 65536 := by omega
    have HMN : Hid (m = n * 64 + q ∧ n2 = m % 65536 ∧ q < 64 ∧ n < 65536) := ⟨hm, hn2, hq, hn⟩
    obtain ⟨pl, hpl⟩ : ∃ p, p = pre.length := ⟨_, rfl⟩
    have HPl : Hid (pl = pre.length) := hpl
    rw [← hpl] at HO ⊢
    have q0 : (0 : Int) ≤ (q : Int) := Int.natCast_nonneg _
    have q64 : (q : Int) < 64 := by omega
    clear hT HT hm hn2 hpl
    rcases hc with rfl | rfl | rfl | rfl
    · have HT3 : Hid (R = (readV ((bts s).drop (k + 1))).map fun vs => pre ++ (rgi vs (n2 % 2 ^ 6) 6).1) := by
        show _ = _
        rw [HT2.out]
        have hx : n2 % 2 ^ 6 = (n % 2 ^ 0) * 64 + q := by have := HMN.out; omega
        congr 1
        funext vs
        rw [rgi, if_pos rfl, hx]
      go_wp2_with fail
      refine (HSg.out wr z).mono ?_
      rintro e w2 ⟨rfl, rfl⟩
      rw [hk1]
      clear hsg hk1 HT2
      go_wp2
      go_roundw
      case rel => exact ⟨k + 1, n2, 6, pre, by go_num, by go_num, by go_num, by omega, hn2l, by omega, by simp, by have h2 := HO.out; rw [HPl.out] at h2 ⊢; exact h2, HT3.out, HB.out⟩
      case measure => simp [RowKit.intOf]; omega
    · obtain ⟨g, hg⟩ : ∃ g, g = ((n % 2 ^ 6) * 64 + q) / 16 := ⟨_, rfl⟩
      have hx : n2 % 2 ^ 4 = (((n % 2 ^ 6) * 64 + q)) % 16 := by have := HMN.out; omega
      have sw : IntKind.u8.wrap ((n2 : Int) / 16) = (g : Int) := by
        rw [IntKind.wrap_u8]
        have := HMN.out
        omega
      have HT3 : Hid (R = (readV ((bts s).drop (k + 1))).map fun vs => (pre ++ [g]) ++ (rgi vs (n2 % 2 ^ 4) 4).1) := by
        show _ = _
        rw [HT2.out]
        congr 1
        funext vs
        rw [hx, hg, rgi]
        simp
      have hbd : pl + 1 ≤ 40000 := by rw [HPl.out]; omega
      clear hg hx HT2
      go_wp2_with fail
      refine (HSg.out wr z).mono ?_
      rintro e w2 ⟨rfl, rfl⟩
      rw [hk1]
      clear hsg hk1
      have hO : w2.ownsRow w.heap.size 5 1 (.slice va pl vc) pl ((pre.map (fun x : Nat => (x : Int))).map (Value.int .u8)) := by
        have h2 := HO.out
        unfold OwnB at h2
        rw [← HPl.out] at h2
        exact h2
      have hs2 : w.heap.size ≤ w2.heap.size := HB.out.size
      go_wp2_with (at_builtin; refine wpList_append_own _ rfl _ _ 29 rfl w.heap.size 5 i0 (.int .u8 0) 1 1 Try.underlying29 hi hz0 hz1 hz2 rfl (by decide) _ _ _ rfl (hO.alloc _) ⟨w2.heap.size, 0, none⟩ 1 1 [.int .u8 (g : Int)] rfl rfl (cells_one (by simp)) (by simp [Value.oneCell']) (by unfold maxLen; omega) (by omega) (by simp; omega) ?_)
      intro y w3 hown3 hgrow3 _
      have B3 : Hid (Below w.heap.size w w3) := (HB.out.alloc (by omega) _).grown hgrow3 (by simp; omega) (fun j hj => (hO.lt j hj).1)
      have O3 : Hid (OwnB w3 w.heap.size y (pre ++ [g])) := by
        show World.ownsRow _ _ _ _ _ _ _
        rw [List.length_append, ← HPl.out]
        simpa [List.map_append] using hown3
      clear hgrow3 hown3 hO hs2 HO HB
      go_wp2
      go_roundw
      case rel => exact ⟨k + 1, n2, 4, _, by go_num, by go_num, by go_num, by omega, hn2l, by rw [List.length_append]; show pre.length + 1 ≤ k + 1; omega, by simp, O3.out, HT3.out, B3.out⟩
      case measure => simp [RowKit.intOf]; omega
    · obtain ⟨g, hg⟩ : ∃ g, g = ((n % 2 ^ 4) * 64 + q) / 4 := ⟨_, rfl⟩
      have hx : n2 % 2 ^ 2 = (((n % 2 ^ 4) * 64 + q)) % 4 := by have := HMN.out; omega
      have sw : IntKind.u8.wrap ((n2 : Int) / 4) = (g : Int) := by
        rw [IntKind.wrap_u8]
        have := HMN.out
        omega
      have HT3 : Hid (R = (readV ((bts s).drop (k + 1))).map fun vs => (pre ++ [g]) ++ (rgi vs (n2 % 2 ^ 2) 2).1) := by
        show _ = _
        rw [HT2.out]
        congr 1
        funext vs
        rw [hx, hg, rgi]
        simp
      have hbd : pl + 1 ≤ 40000 := by rw [HPl.out]; omega
      clear hg hx HT2
      go_wp2_with fail
      refine (HSg.out wr z).mono ?_
      rintro e w2 ⟨rfl, rfl⟩
      rw [hk1]
      clear hsg hk1
      have hO : w2.ownsRow w.heap.size 5 1 (.slice va pl vc) pl ((pre.map (fun x : Nat => (x : Int))).map (Value.int .u8)) := by
        have h2 := HO.out
        unfold OwnB at h2
        rw [← HPl.out] at h2
        exact h2
      have hs2 : w.heap.size ≤ w2.heap.size := HB.out.size
      go_wp2_with (at_builtin; refine wpList_append_own _ rfl _ _ 29 rfl w.heap.size 5 i0 (.int .u8 0) 1 1 Try.underlying29 hi hz0 hz1 hz2 rfl (by decide) _ _ _ rfl (hO.alloc _) ⟨w2.heap.size, 0, none⟩ 1 1 [.int .u8 (g : Int)] rfl rfl (cells_one (by simp)) (by simp [Value.oneCell']) (by unfold maxLen; omega) (by omega) (by simp; omega) ?_)
      intro y w3 hown3 hgrow3 _
      have B3 : Hid (Below w.heap.size w w3) := (HB.out.alloc (by omega) _).grown hgrow3 (by simp; omega) (fun j hj => (hO.lt j hj).1)
      have O3 : Hid (OwnB w3 w.heap.size y (pre ++ [g])) := by
        show World.ownsRow _ _ _ _ _ _ _
        rw [List.length_append, ← HPl.out]
        simpa [List.map_append] using hown3
      clear hgrow3 hown3 hO hs2 HO HB
      go_wp2
      go_roundw
      case rel => exact ⟨k + 1, n2, 2, _, by go_num, by go_num, by go_num, by omega, hn2l, by rw [List.length_append]; show pre.length + 1 ≤ k + 1; omega, by simp, O3.out, HT3.out, B3.out⟩
      case measure => simp [RowKit.intOf]; omega
    · obtain ⟨g, hg⟩ : ∃ g, g = ((n % 2 ^ 2) * 64 + q) := ⟨_, rfl⟩
      have hx : n2 % 2 ^ 0 = 0 := by have := HMN.out; omega
      have sw : IntKind.u8.wrap ((n2 : Int)) = (g : Int) := by
        rw [IntKind.wrap_u8]
        have := HMN.out
        omega
      have HT3 : Hid (R = (readV ((bts s).drop (k + 1))).map fun vs => (pre ++ [g]) ++ (rgi vs (n2 % 2 ^ 0) 0).1) := by
        show _ = _
        rw [HT2.out]
        congr 1
        funext vs
        rw [hx, hg, rgi]
        simp
      have hbd : pl + 1 ≤ 40000 := by rw [HPl.out]; omega
      clear hg hx HT2
      go_wp2_with fail
      refine (HSg.out wr z).mono ?_
      rintro e w2 ⟨rfl, rfl⟩
      rw [hk1]
      clear hsg hk1
      have hO : w2.ownsRow w.heap.size 5 1 (.slice va pl vc) pl ((pre.map (fun x : Nat => (x : Int))).map (Value.int .u8)) := by
        have h2 := HO.out
        unfold OwnB at h2
        rw [← HPl.out] at h2
        exact h2
      have hs2 : w.heap.size ≤ w2.heap.size := HB.out.size
      go_wp2_with (at_builtin; refine wpList_append_own _ rfl _ _ 29 rfl w.heap.size 5 i0 (.int .u8 0) 1 1 Try.underlying29 hi hz0 hz1 hz2 rfl (by decide) _ _ _ rfl (hO.alloc _) ⟨w2.heap.size, 0, none⟩ 1 1 [.int .u8 (g : Int)] rfl rfl (cells_one (by simp)) (by simp [Value.oneCell']) (by unfold maxLen; omega) (by omega) (by simp; omega) ?_)
      intro y w3 hown3 hgrow3 _
      have B3 : Hid (Below w.heap.size w w3) := (HB.out.alloc (by omega) _).grown hgrow3 (by simp; omega) (fun j hj => (hO.lt j hj).1)
      have O3 : Hid (OwnB w3 w.heap.size y (pre ++ [g])) := by
        show World.ownsRow _ _ _ _ _ _ _
        rw [List.length_append, ← HPl.out]
        simpa [List.map_append] using hown3
      clear hgrow3 hown3 hO hs2 HO HB
      go_wp2
      go_roundw
      case rel => exact ⟨k + 1, n2, 0, _, by go_num, by go_num, by go_num, by omega, hn2l, by rw [List.length_append]; show pre.length + 1 ≤ k + 1; omega, by simp, O3.out, HT3.out, B3.out⟩
      case measure => simp [RowKit.intOf]; omega
end Go.Proofs.Ytifkjelffalbhaa
namespace Go.Proofs.Ytifkjelffalbhaa
open Go.RowKit Go.Lib

set_option linter.unusedSimpArgs false in
set_option maxHeartbeats 4000000 in
set_option maxRecDepth 100000 in
theorem specBase64Read (s : ByteArray) (w : World) (hm : s.size ≤ maxLen) :
    Calls Try.prog 4 #[.string s] w fun e w' => e = .returned (txtV (readTD s)) ∧ Below w.heap.size w w' := by
  unfold maxLen at hm
  obtain ⟨w1, hw1⟩ : ∃ y, y = w.alloc (.cells #[.string ⟨#[]⟩, .int .i64 0, .int .i64 0] 23 (0, 0)) := ⟨_, rfl⟩
  have hz : w1.heap.size = w.heap.size + 1 := by rw [hw1]; simp
  have hg1 : w1.heap[w.heap.size]? = some (.cells [Value.string ⟨#[]⟩, .int .i64 0, .int .i64 0].toArray 23 (0, 0)) := by rw [hw1]; exact heap_alloc_new w _
  have hB1 : Below w.heap.size w w1 := by rw [hw1]; exact (Below.refl _ w).alloc (Nat.le_refl _) _
  have HB : Hid (∀ V, Below w1.heap.size w1 V → Below w.heap.size w V) := fun V hV => hB1.trans (hV.mono (by omega))
  have HRes : Hid (∀ V, Below w1.heap.size w1 V → V.heap[w.heap.size]? = some (.cells [Value.string ⟨#[]⟩, .int .i64 0, .int .i64 0].toArray 23 (0, 0))) := fun V hV => by rw [hV.block _ (by omega)]; exact hg1
  have I1 : Hid (Below w1.heap.size w1 w1) := Below.refl _ _
  have Z1 : Hid (w1.heap.size = w.heap.size + 1) := hz
  clear hg1 hB1 hz
  by_cases hl : 20000 < s.size
  · have HF : Hid (readTD s = (⟨#[]⟩, 2)) := by show _ = _; rw [readTD, if_pos hl]
    go_enter Try.func4, Try.ntmps4
    go_upto_region 2 with fail
    rw [← hw1]
    clear hw1
    go_wp2_with (refine wpList_store_row rfl 23 _ _ rfl (w.heap.size) _ [Value.string ⟨#[]⟩, .int .i64 0, .int .i64 2] 23 rfl rfl (HRes.out _ I1.out) rfl sizeTextOut (by simp [Value.oneCell']) ?_)
    intro w8 hrow ho hs8 hbb
    have HROW : Hid _ := hrow
    have HB8 : Hid (Below w.heap.size w w8) := hbb _ _ (Nat.le_refl _) (HB.out _ I1.out)
    clear ho hs8 hbb hrow
    go_wp2
    refine bodyPost_ret (v := .agg [Value.string ⟨#[]⟩, .int .i64 0, .int .i64 2].toArray) ?_ rfl ⟨by rw [HF.out]; rfl, HB8.out⟩
    have hl3 := run_loadVar_mid (P := Try.prog) _ (w.heap.size) 0 23 _ _ (rangeRow HROW.out) Try.underlying23 rfl sizeTextOut
    simp [results, Try.results4, asAddr, hl3]
  have HL : Hid (∀ V, Calls Try.prog 7 #[.string s] V fun e w' => e = .returned (.tuple #[.string (readLT s).1, .bool (readLT s).2]) ∧ Below V.heap.size V w') := fun V => specReadL s V (by omega)
  have hE : readTD s = if (readLT s).2 = true then ((readLT s).1, 0) else (⟨#[]⟩, 3) := by
    unfold readTD readLT
    rw [if_neg hl]
    cases hv : readV (bts s) with
    | none => rfl
    | some vs =>
      have hr := read_same hv
      simp only [decide_eq_true_eq]
      by_cases h : base64D (natT (rgi vs 0 0).1) = s
      · rw [if_pos h, if_pos (hr.1 h)]
      · rw [if_neg h, if_neg (fun h' => h (hr.2 h'))]
  obtain ⟨⟨X, ok⟩, hX⟩ : ∃ x, x = readLT s := ⟨_, rfl⟩
  rw [← hX] at HL hE
  simp only at HL hE
  have HE : Hid (readTD s = if ok = true then (X, 0) else (⟨#[]⟩, 3)) := hE
  clear hX hE
  go_enter Try.func4, Try.ntmps4
  go_wp2_with fail
  rw [← hw1]
  refine (HL.out w1).mono ?_
  rintro e w2 ⟨rfl, b2⟩
  have K2 : Hid (Below w1.heap.size w1 w2) := b2
  clear b2 hw1 HL
  cases ok with
  | false =>
    have HF : Hid (readTD s = (⟨#[]⟩, 3)) := by show _ = _; rw [HE.out]; rfl
    go_wp2_with (refine wpList_store_row rfl 23 _ _ rfl (w.heap.size) _ [Value.string ⟨#[]⟩, .int .i64 0, .int .i64 3] 23 rfl rfl (HRes.out _ K2.out) rfl sizeTextOut (by simp [Value.oneCell']) ?_)
    intro w8 hrow ho hs8 hbb
    have HROW : Hid _ := hrow
    have HB8 : Hid (Below w.heap.size w w8) := hbb _ _ (Nat.le_refl _) (HB.out _ K2.out)
    clear ho hs8 hbb hrow
    go_wp2
    refine bodyPost_ret (v := .agg [Value.string ⟨#[]⟩, .int .i64 0, .int .i64 3].toArray) ?_ rfl ⟨by rw [HF.out]; rfl, HB8.out⟩
    have hl3 := run_loadVar_mid (P := Try.prog) _ (w.heap.size) 0 23 _ _ (rangeRow HROW.out) Try.underlying23 rfl sizeTextOut
    simp [results, Try.results4, asAddr, hl3]
  | true =>
    have HF : Hid (readTD s = (X, 0)) := by show _ = _; rw [HE.out]; rfl
    go_wp2_with (refine wpList_store_row rfl 23 _ _ rfl (w.heap.size) _ [Value.string X, .int .i64 0, .int .i64 0] 23 rfl rfl (HRes.out _ K2.out) rfl sizeTextOut (by simp [Value.oneCell']) ?_)
    intro w8 hrow ho hs8 hbb
    have HROW : Hid _ := hrow
    have HB8 : Hid (Below w.heap.size w w8) := hbb _ _ (Nat.le_refl _) (HB.out _ K2.out)
    clear ho hs8 hbb hrow
    go_wp2
    refine bodyPost_ret (v := .agg [Value.string X, .int .i64 0, .int .i64 0].toArray) ?_ rfl ⟨by rw [HF.out]; rfl, HB8.out⟩
    have hl3 := run_loadVar_mid (P := Try.prog) _ (w.heap.size) 0 23 _ _ (rangeRow HROW.out) Try.underlying23 rfl sizeTextOut
    simp [results, Try.results4, asAddr, hl3]
end Go.Proofs.Ytifkjelffalbhaa
