/- spec.l09Read, walked. spec.GetNum, walked. spec.GetNum at every argument. spec.GetText, walked. -/
import Derived.Test.YtjkmfjegphpjkaaGreatDoorJW13
import Derived.Test.YtjkmfjegphpjkaaGreatDoorJW02
import Derived.Test.YtjkmfjegphpjkaaGreatDoorJW06
import Derived.Deep.Cut
import Derived.Test.YtjkmfjegphpjkaaGreatDoorJW01
import Derived.Test.YtjkmfjegphpjkaaGreatDoorJW07
import Derived.Deep.RegionHeld3
namespace Go.Proofs.YtjkmfjegphpjkaaGreatDoor
open Go.RowKit Go.Lib

theorem and16 (n : Nat) : bits .and .i64 (n : Int) 65535 = ((n % 65536 : Nat) : Int) := by
  have := and_mask 16 (by omega) n
  simpa using this
set_option linter.unusedSimpArgs false in
set_option maxHeartbeats 4000000 in
set_option maxRecDepth 100000 in
theorem specReadL (s : ByteArray) (w : World) (hs : s.size ≤ 20000) :
    Calls Tryz.prog 29 #[.string s] w fun e w' => e = .returned (.tuple #[.string (readLT s).1, .bool (readLT s).2]) ∧ Below w.heap.size w w' := by
  obtain ⟨i0, hi, hz0, hz1, hz2⟩ := info_parts infoByte
  obtain ⟨R, hR⟩ : ∃ R, R = (readV (bts s)).map fun vs => (rgi vs 0 0).1 := ⟨_, rfl⟩
  have HRl : Hid (∀ l, R = some l → l.length ≤ 40000) := fun l hl => by
    rw [hR] at hl
    cases hv : readV (bts s) with
    | none => rw [hv] at hl; cases hl
    | some vs =>
      rw [hv] at hl
      simp at hl
      have h1 := readV_len _ _ hv
      rw [bts_len] at h1
      have h2 := rgi_len vs 0 0
      rw [← hl]
      omega
  have HN : Hid (R = none → readLT s = (⟨#[]⟩, false)) := fun h => by
    rw [hR] at h
    unfold readLT
    cases hv : readV (bts s) with
    | none => rfl
    | some vs => rw [hv] at h; cases h
  have HS : Hid (∀ l, R = some l → readLT s = (natT l, decide (l.length ≤ 4000 ∧ b64D (natT l) = s))) := fun l hl => by
    rw [hR] at hl
    unfold readLT
    cases hv : readV (bts s) with
    | none => rw [hv] at hl; cases hl
    | some vs =>
      rw [hv] at hl
      simp at hl
      simp only [hl]
  have HR : Hid (R = (readV (bts s)).map fun vs => [] ++ (rgi vs 0 0).1) := by show _ = _; simpa using hR
  have HSg : Hid (∀ V (c : Nat), Calls Tryz.prog 51 #[.int .u8 (c : Int)] V fun e w' => e = .returned (.int .i64 (sgk c)) ∧ w' = V) := fun V c => specSgn c V
  have HBs : Hid (∀ V l, l.length ≤ 4000 → Calls Tryz.prog 24 #[.string (natT l)] V fun e w' => e = .returned (.string (b64D (natT l))) ∧ Below V.heap.size V w') := fun V l hl => specBase (natT l) V (by rw [natT_size]; omega)
  clear hR
  go_enter Tryz.func29, Tryz.ntmps29
  go_wp2
  go_loopw [4, 5, 6, 7] (fun b n c i wr => ∃ (k n' c' : Nat) (pre : List Nat), i = .int .i64 k ∧ n = .int .i64 n' ∧ c = .int .i64 c' ∧ k ≤ s.size ∧ n' < 65536 ∧ pre.length ≤ k ∧ (c' = 0 ∨ c' = 6 ∨ c' = 4 ∨ c' = 2) ∧ OwnB wr w.heap.size b pre ∧ (R = (readV ((bts s).drop k)).map fun vs => pre ++ (rgi vs (n' % 2 ^ c') c').1) ∧ Below w.heap.size w wr)
    (fun _ _ _ i _ => s.size - (RowKit.intOf i).toNat)
  case atStart =>
    exact ⟨0, 0, 0, [], rfl, rfl, rfl, Nat.zero_le _, by omega, Nat.le_refl _, .inl rfl, World.ownsRow_made _ #[] 0 (Nat.le_refl _) (Nat.zero_le _) rfl, HR.out, (Below.refl _ _).alloc (Nat.le_refl _) _⟩
  case round =>
    obtain ⟨k, n, c, pre, rfl, rfl, rfl, hk, hn, hpk, hc, hown, hat, hbel⟩ := hrel
    have HB : Hid (Below w.heap.size w wr) := hbel
    have HO : Hid (OwnB wr w.heap.size _ pre) := hown
    have HT : Hid _ := hat
    clear hown hat hbel
    by_cases hlt : k < s.size
    rotate_left
    · obtain rfl : k = s.size := by omega
      have hRs : R = some pre := by
        rw [HT.out, bts_end s s.size (Nat.le_refl _)]
        simp [readV, rgi]
      have HF : Hid _ := HS.out _ hRs
      obtain ⟨va, vc, rfl, _⟩ := OwnB.form HO.out
      obtain ⟨pl, hpl⟩ : ∃ p, p = pre.length := ⟨_, rfl⟩
      have hO : wr.ownsRow w.heap.size 5 1 (.slice va pl vc) pl ((pre.map (fun x : Nat => (x : Int))).map (Value.int .u8)) := by
        have h2 := HO.out
        unfold OwnB at h2
        rw [← hpl] at h2
        exact h2
      have HCv : Hid (∀ V : World, V.ownsRow w.heap.size 5 1 (.slice va pl vc) pl ((pre.map (fun x : Nat => (x : Int))).map (Value.int .u8)) → (convert 22 9 (.slice va pl vc)).run Tryz.prog V = .ok (.string (natT pre)) V) := fun V hV => run_convert_own (P := Tryz.prog) (src := 22) (dst := 9) Tryz.underlying22 Tryz.underlying5 Tryz.underlying9 hV
      have HPl : Hid (pl = pre.length) := hpl
      rw [← hpl] at HF ⊢
      have HBp : Hid (pl ≤ 4000 → ∀ V, Calls Tryz.prog 24 #[.string (natT pre)] V fun e w' => e = .returned (.string (b64D (natT pre))) ∧ Below V.heap.size V w') := fun h V => HBs.out V pre (by rw [← HPl.out]; exact h)
      have hD : wr.drew.ownsRow w.heap.size 5 1 (.slice va pl vc) pl ((pre.map (fun x : Nat => (x : Int))).map (Value.int .u8)) := hO
      have q2 : ¬ (s.size : Int) < (s.size : Int) := by omega
      have hcv := HCv.out
      clear hRs hpl HT HO HS HN HR HRl HSg HBs HCv hpk
      generalize natT pre = T at *
      generalize hLL : (pre.map (fun x : Nat => (x : Int))).map (Value.int .u8) = LL at *
      by_cases h4 : pl ≤ 4000
      · have H4 : Hid _ := HBp.out h4
        generalize b64D T = BT at *
        have h4i : ((pl : Nat) : Int) ≤ 4000 := by omega
        have hd4 : decide (pl ≤ 4000 ∧ BT = s) = decide (BT = s) := by simp [h4]
        have HF1 : Hid (readLT s = (T, decide (BT = s))) := by show _ = _; rw [HF.out, hd4]
        have hst := same_text' BT s
        clear HBp hd4 hLL HF
        go_upto_region 14 with fail
        refine wp_region_held_drew (S := fun V => V.ownsRow w.heap.size 5 1 (.slice va pl vc) pl LL) (by kernel_rfl) hD (fun hHeld => ?_)
        refine wpAnyH_take (i := 0) (oi := ⟨some 41, _, _, _, _, _⟩) (v := ?_) rfl (by kernel_rfl) (by kernel_rfl) (by kernel_rfl) (fun _ _ _ h => h) (Or.inl ⟨by kernel_rfl, ?_⟩) (by assumption) ?_
        rotate_left
        · (intro w hSw; (try dsimp only at hSw); go_simp; try with_reducible rfl)
        (try simp only [Act.put, List.setIfInBounds_toArray, List.set_cons_zero, List.set_cons_succ])
        refine wpAnyH_take (i := 1) (oi := ⟨some 42, _, _, _, _, _⟩) (v := ?_) rfl (by kernel_rfl) (by kernel_rfl) (by kernel_rfl) (fun _ _ _ h => h) (Or.inl ⟨by kernel_rfl, ?_⟩) (by assumption) ?_
        rotate_left
        · (intro w hSw; (try dsimp only at hSw); go_simp; try with_reducible rfl)
        (try simp only [Act.put, List.setIfInBounds_toArray, List.set_cons_zero, List.set_cons_succ])
        refine wpAnyH_take (i := 2) (oi := ⟨some 43, _, _, _, _, _⟩) (v := ?_) rfl (by kernel_rfl) (by kernel_rfl) (by kernel_rfl) (fun _ _ _ h => h) (Or.inl ⟨by kernel_rfl, ?_⟩) (by assumption) ?_
        rotate_left
        · (intro w hSw; (try dsimp only at hSw); go_simp; try with_reducible rfl)
        (try simp only [Act.put, List.setIfInBounds_toArray, List.set_cons_zero, List.set_cons_succ])
        refine wpAnyH_take (i := 3) (oi := ⟨some 44, _, _, _, _, _⟩) (v := ?_) rfl (by kernel_rfl) (by kernel_rfl) (by kernel_rfl) (fun _ _ _ h => h) (Or.inl ⟨by kernel_rfl, ?_⟩) (by assumption) ?_
        rotate_left
        · (intro w hSw; (try dsimp only at hSw); go_simp; try with_reducible rfl)
        (try simp only [Act.put, List.setIfInBounds_toArray, List.set_cons_zero, List.set_cons_succ])
        refine wpAnyH_take (i := 4) (oi := ⟨some 45, _, _, _, _, _⟩) (v := ?_) rfl (by kernel_rfl) (by kernel_rfl) (by kernel_rfl) (fun _ _ _ h => h) (Or.inl ⟨by kernel_rfl, ?_⟩) (by assumption) ?_
        rotate_left
        · (intro w hSw; (try dsimp only at hSw); go_simp; try with_reducible rfl)
        (try simp only [Act.put, List.setIfInBounds_toArray, List.set_cons_zero, List.set_cons_succ])
        refine wpAnyH_take (i := 5) (oi := ⟨some 46, _, _, _, _, _⟩) (v := ?_) rfl (by kernel_rfl) (by kernel_rfl) (by kernel_rfl) (fun _ _ _ h => h) (Or.inl ⟨by kernel_rfl, ?_⟩) (by assumption) ?_
        rotate_left
        · (intro w hSw; (try dsimp only at hSw); go_simp; try with_reducible rfl)
        (try simp only [Act.put, List.setIfInBounds_toArray, List.set_cons_zero, List.set_cons_succ])
        refine wpAnyH_take (i := 6) (oi := ⟨some 47, _, _, _, _, _⟩) (v := ?_) rfl (by kernel_rfl) (by kernel_rfl) (by kernel_rfl) (fun _ _ _ h => h) (Or.inl ⟨by kernel_rfl, ?_⟩) (by assumption) ?_
        rotate_left
        · (intro w hSw; (try dsimp only at hSw); go_simp; try with_reducible rfl)
        (try simp only [Act.put, List.setIfInBounds_toArray, List.set_cons_zero, List.set_cons_succ])
        refine wpAnyH_take (i := 7) (oi := ⟨some 48, _, _, _, _, _⟩) (v := ?_) rfl (by kernel_rfl) (by kernel_rfl) (by kernel_rfl) (fun _ _ _ h => h) (Or.inl ⟨by kernel_rfl, ?_⟩) (by assumption) ?_
        rotate_left
        · (intro w hSw; (try dsimp only at hSw); go_simp; try with_reducible rfl)
        (try simp only [Act.put, List.setIfInBounds_toArray, List.set_cons_zero, List.set_cons_succ])
        refine wpAnyH_take (i := 9) (oi := ⟨some 50, _, _, _, _, _⟩) (v := ?_) rfl (by kernel_rfl) (by kernel_rfl) (by kernel_rfl) (fun _ _ _ h => h) (Or.inl ⟨by kernel_rfl, ?_⟩) (by assumption) ?_
        rotate_left
        · (intro w hSw; (try dsimp only at hSw); go_simp; try with_reducible rfl)
        (try simp only [Act.put, List.setIfInBounds_toArray, List.set_cons_zero, List.set_cons_succ])
        refine wpAnyH_ready (rs := [8]) (by kernel_rfl) (by simp) ?_
        refine AllReadyH.cons (o := ⟨some 49, _, _, _, _, _⟩) rfl (fun K hK => ?_) AllReadyH.nil
        go_simp
        refine (H4.out wr.drew).mono ?_
        rintro e w2 ⟨rfl, b2⟩
        have hO2 : w2.ownsRow w.heap.size 5 1 (.slice va pl vc) pl LL := by
          refine ⟨hD.1, ?_⟩
          rcases hD.2 with h | ⟨g, cap, cur, e, h1, h2, h3⟩
          · exact .inl h
          · exact .inr ⟨g, cap, cur, e, h1, by rw [b2.block g (heap_lt h2)]; exact h2, h3⟩
        have HB2 : Hid (Below w.heap.size w w2) := HB.out.drew.trans (b2.mono HB.out.size)
        refine hK.out _ _ hO2 (fun hHeld => ?_)
        clear hK K b2 hD hO HB H4
        (try simp only [Act.put, List.setIfInBounds_toArray, List.set_cons_zero, List.set_cons_succ])
        refine wpAnyH_take (i := 10) (oi := ⟨some 51, _, _, _, _, _⟩) (v := ?_) rfl (by kernel_rfl) (by kernel_rfl) (by kernel_rfl) (fun _ _ _ h => h) (Or.inl ⟨by kernel_rfl, ?_⟩) (by assumption) ?_
        rotate_left
        · (intro w hSw; (try dsimp only at hSw); go_simp; try with_reducible rfl)
        (try simp only [Act.put, List.setIfInBounds_toArray, List.set_cons_zero, List.set_cons_succ])
        refine wpAnyH_take (i := 11) (oi := ⟨some 52, _, _, _, _, _⟩) (v := ?_) rfl (by kernel_rfl) (by kernel_rfl) (by kernel_rfl) (fun _ _ _ h => h) (Or.inl ⟨by kernel_rfl, ?_⟩) (by assumption) ?_
        rotate_left
        · (intro w hSw; (try dsimp only at hSw); go_simp; try with_reducible rfl)
        (try simp only [Act.put, List.setIfInBounds_toArray, List.set_cons_zero, List.set_cons_succ])
        refine wpAnyH_take (i := 12) (oi := ⟨some 2, _, _, _, _, _⟩) (v := ?_) rfl (by kernel_rfl) (by kernel_rfl) (by kernel_rfl) (fun _ _ _ h => h) (Or.inl ⟨by kernel_rfl, ?_⟩) (by assumption) ?_
        rotate_left
        · (intro w hSw; (try dsimp only at hSw); go_simp; try with_reducible rfl)
        (try simp only [Act.put, List.setIfInBounds_toArray, List.set_cons_zero, List.set_cons_succ])
        refine wpAnyH_take (i := 13) (oi := ⟨some 3, _, _, _, _, _⟩) (v := ?_) rfl (by kernel_rfl) (by kernel_rfl) (by kernel_rfl) (fun _ _ _ h => h) (Or.inl ⟨by kernel_rfl, ?_⟩) (by assumption) ?_
        rotate_left
        · (intro w hSw; (try dsimp only at hSw); go_simp; try with_reducible rfl)
        (try simp only [Act.put, List.setIfInBounds_toArray, List.set_cons_zero, List.set_cons_succ])
        refine wpAnyH_done (by kernel_rfl) ?_ _
        go_wp2
        go_ret2
        exact ⟨by rw [HF1.out]; rfl, HB2.out⟩
      · have h4i : ¬ ((pl : Nat) : Int) ≤ 4000 := by omega
        have hd4 : decide (pl ≤ 4000 ∧ b64D T = s) = false := by simp [h4]
        have HF1 : Hid (readLT s = (T, false)) := by show _ = _; rw [HF.out, hd4]
        have HB2 : Hid (Below w.heap.size w wr.drew) := HB.out.drew
        clear HBp hd4 hLL HF
        go_upto_region 14 with fail
        refine wp_region_held_drew (S := fun V => V.ownsRow w.heap.size 5 1 (.slice va pl vc) pl LL) (by kernel_rfl) hD (fun hHeld => ?_)
        refine wpAnyH_take (i := 0) (oi := ⟨some 41, _, _, _, _, _⟩) (v := ?_) rfl (by kernel_rfl) (by kernel_rfl) (by kernel_rfl) (fun _ _ _ h => h) (Or.inl ⟨by kernel_rfl, ?_⟩) (by assumption) ?_
        rotate_left
        · (intro w hSw; (try dsimp only at hSw); go_simp; try with_reducible rfl)
        (try simp only [Act.put, List.setIfInBounds_toArray, List.set_cons_zero, List.set_cons_succ])
        refine wpAnyH_take (i := 1) (oi := ⟨some 42, _, _, _, _, _⟩) (v := ?_) rfl (by kernel_rfl) (by kernel_rfl) (by kernel_rfl) (fun _ _ _ h => h) (Or.inl ⟨by kernel_rfl, ?_⟩) (by assumption) ?_
        rotate_left
        · (intro w hSw; (try dsimp only at hSw); go_simp; try with_reducible rfl)
        (try simp only [Act.put, List.setIfInBounds_toArray, List.set_cons_zero, List.set_cons_succ])
        refine wpAnyH_take (i := 2) (oi := ⟨some 43, _, _, _, _, _⟩) (v := ?_) rfl (by kernel_rfl) (by kernel_rfl) (by kernel_rfl) (fun _ _ _ h => h) (Or.inl ⟨by kernel_rfl, ?_⟩) (by assumption) ?_
        rotate_left
        · (intro w hSw; (try dsimp only at hSw); go_simp; try with_reducible rfl)
        (try simp only [Act.put, List.setIfInBounds_toArray, List.set_cons_zero, List.set_cons_succ])
        refine wpAnyH_take (i := 3) (oi := ⟨some 44, _, _, _, _, _⟩) (v := ?_) rfl (by kernel_rfl) (by kernel_rfl) (by kernel_rfl) (fun _ _ _ h => h) (Or.inl ⟨by kernel_rfl, ?_⟩) (by assumption) ?_
        rotate_left
        · (intro w hSw; (try dsimp only at hSw); go_simp; try with_reducible rfl)
        (try simp only [Act.put, List.setIfInBounds_toArray, List.set_cons_zero, List.set_cons_succ])
        refine wpAnyH_take (i := 4) (oi := ⟨some 45, _, _, _, _, _⟩) (v := ?_) rfl (by kernel_rfl) (by kernel_rfl) (by kernel_rfl) (fun _ _ _ h => h) (Or.inl ⟨by kernel_rfl, ?_⟩) (by assumption) ?_
        rotate_left
        · (intro w hSw; (try dsimp only at hSw); go_simp; try with_reducible rfl)
        (try simp only [Act.put, List.setIfInBounds_toArray, List.set_cons_zero, List.set_cons_succ])
        refine wpAnyH_take (i := 5) (oi := ⟨some 46, _, _, _, _, _⟩) (v := ?_) rfl (by kernel_rfl) (by kernel_rfl) (by kernel_rfl) (fun _ _ _ h => h) (Or.inl ⟨by kernel_rfl, ?_⟩) (by assumption) ?_
        rotate_left
        · (intro w hSw; (try dsimp only at hSw); go_simp; try with_reducible rfl)
        (try simp only [Act.put, List.setIfInBounds_toArray, List.set_cons_zero, List.set_cons_succ])
        refine wpAnyH_take (i := 6) (oi := ⟨some 47, _, _, _, _, _⟩) (v := undef) rfl (by kernel_rfl) (by kernel_rfl) (by kernel_rfl) (fun _ _ _ h => h) (Or.inr ⟨by kernel_rfl, rfl⟩) (by assumption) ?_
        (try simp only [Act.put, List.setIfInBounds_toArray, List.set_cons_zero, List.set_cons_succ])
        refine wpAnyH_take (i := 7) (oi := ⟨some 48, _, _, _, _, _⟩) (v := undef) rfl (by kernel_rfl) (by kernel_rfl) (by kernel_rfl) (fun _ _ _ h => h) (Or.inr ⟨by kernel_rfl, rfl⟩) (by assumption) ?_
        (try simp only [Act.put, List.setIfInBounds_toArray, List.set_cons_zero, List.set_cons_succ])
        refine wpAnyH_take (i := 8) (oi := ⟨some 49, _, _, _, _, _⟩) (v := undef) rfl (by kernel_rfl) (by kernel_rfl) (by kernel_rfl) (fun _ _ _ h => h) (Or.inr ⟨by kernel_rfl, rfl⟩) (by assumption) ?_
        (try simp only [Act.put, List.setIfInBounds_toArray, List.set_cons_zero, List.set_cons_succ])
        refine wpAnyH_take (i := 9) (oi := ⟨some 50, _, _, _, _, _⟩) (v := undef) rfl (by kernel_rfl) (by kernel_rfl) (by kernel_rfl) (fun _ _ _ h => h) (Or.inr ⟨by kernel_rfl, rfl⟩) (by assumption) ?_
        (try simp only [Act.put, List.setIfInBounds_toArray, List.set_cons_zero, List.set_cons_succ])
        refine wpAnyH_take (i := 10) (oi := ⟨some 51, _, _, _, _, _⟩) (v := undef) rfl (by kernel_rfl) (by kernel_rfl) (by kernel_rfl) (fun _ _ _ h => h) (Or.inr ⟨by kernel_rfl, rfl⟩) (by assumption) ?_
        (try simp only [Act.put, List.setIfInBounds_toArray, List.set_cons_zero, List.set_cons_succ])
        refine wpAnyH_take (i := 11) (oi := ⟨some 52, _, _, _, _, _⟩) (v := ?_) rfl (by kernel_rfl) (by kernel_rfl) (by kernel_rfl) (fun _ _ _ h => h) (Or.inl ⟨by kernel_rfl, ?_⟩) (by assumption) ?_
        rotate_left
        · (intro w hSw; (try dsimp only at hSw); go_simp; try with_reducible rfl)
        (try simp only [Act.put, List.setIfInBounds_toArray, List.set_cons_zero, List.set_cons_succ])
        refine wpAnyH_take (i := 12) (oi := ⟨some 2, _, _, _, _, _⟩) (v := ?_) rfl (by kernel_rfl) (by kernel_rfl) (by kernel_rfl) (fun _ _ _ h => h) (Or.inl ⟨by kernel_rfl, ?_⟩) (by assumption) ?_
        rotate_left
        · (intro w hSw; (try dsimp only at hSw); go_simp; try with_reducible rfl)
        (try simp only [Act.put, List.setIfInBounds_toArray, List.set_cons_zero, List.set_cons_succ])
        refine wpAnyH_take (i := 13) (oi := ⟨some 3, _, _, _, _, _⟩) (v := ?_) rfl (by kernel_rfl) (by kernel_rfl) (by kernel_rfl) (fun _ _ _ h => h) (Or.inl ⟨by kernel_rfl, ?_⟩) (by assumption) ?_
        rotate_left
        · (intro w hSw; (try dsimp only at hSw); go_simp; try with_reducible rfl)
        (try simp only [Act.put, List.setIfInBounds_toArray, List.set_cons_zero, List.set_cons_succ])
        refine wpAnyH_done (by kernel_rfl) ?_ _
        go_wp2
        go_ret2
        exact ⟨by rw [HF1.out]; rfl, HB2.out⟩
    have q1 : (0 : Int) ≤ (k : Int) := Int.natCast_nonneg _
    have q2 : (k : Int) < (s.size : Int) := by omega
    have hT := HT.out
    rw [bts_drop s k hlt, readV] at hT
    have hcz := u8_lt s[k]
    obtain ⟨z, hz⟩ : ∃ z, z = s[k].toNat := ⟨_, rfl⟩
    have hidx : (s[k].toNat : Int) = (z : Int) := by rw [hz]
    rw [← hz] at hT
    have HZ : Hid (s[k].toNat = z) := hz.symm
    obtain ⟨va, vc, rfl, _⟩ := OwnB.form HO.out
    cases hsg : sgi z with
    | none =>
      have hRn : R = none := by rw [hT, hsg]; rfl
      have HF : Hid _ := HN.out hRn
      have hk1 : sgk z = -1 := by rw [sgk, hsg]
      clear hT HT hRn HS HBs HR
      go_wp2_with fail
      refine (HSg.out wr z).mono ?_
      rintro e w2 ⟨rfl, rfl⟩
      rw [hk1]
      clear hsg hk1
      go_wp2
      go_ret2
      exact ⟨by rw [HF.out]; rfl, HB.out⟩
    | some q =>
    have hq := (sgi_some hsg).1
    have hk1 : sgk z = (q : Int) := by rw [sgk, hsg]
    have HT2 : Hid (R = (readV ((bts s).drop (k + 1))).map fun vs => pre ++ (rgi (q :: vs) (n % 2 ^ c) c).1) := by
      show _ = _
      rw [hT, hsg]
      cases readV ((bts s).drop (k + 1)) <;> rfl
    obtain ⟨m, hm⟩ : ∃ m, m = n * 64 + q := ⟨_, rfl⟩
    have o1 : bits .or .i64 ((n : Int) * 64) (q : Int) = (m : Int) := by
      have := or_low 6 (by omega) n q (by omega) (by omega)
      rw [hm, ← this]
      congr 1
    obtain ⟨n2, hn2⟩ : ∃ n2, n2 = m % 65536 := ⟨_, rfl⟩
    have o2 : bits .and .i64 (m : Int) 65535 = (n2 : Int) := by rw [and16, hn2]
    have hn2l : n2 < 65536 := by omega
    have HMN : Hid (m = n * 64 + q ∧ n2 = m % 65536 ∧ q < 64 ∧ n < 65536) := ⟨hm, hn2, hq, hn⟩
    obtain ⟨pl, hpl⟩ : ∃ p, p = pre.length := ⟨_, rfl⟩
    have HPl : Hid (pl = pre.length) := hpl
    rw [← hpl] at HO ⊢
    have q0 : (0 : Int) ≤ (q : Int) := Int.natCast_nonneg _
    have q64 : (q : Int) < 64 := by omega
    clear hT HT hm hn2 hpl
    rcases hc with rfl | rfl | rfl | rfl
    · have HT3 : Hid (R = (readV ((bts s).drop (k + 1))).map fun vs => pre ++ (rgi vs (n2 % 2 ^ 6) 6).1) := by
        show _ = _
        rw [HT2.out]
        have hx : n2 % 2 ^ 6 = (n % 2 ^ 0) * 64 + q := by have := HMN.out; omega
        congr 1
        funext vs
        rw [rgi, if_pos rfl, hx]
      go_wp2_with fail
      refine (HSg.out wr z).mono ?_
      rintro e w2 ⟨rfl, rfl⟩
      rw [hk1]
      clear hsg hk1 HT2
      go_wp2
      go_roundw
      case rel => exact ⟨k + 1, n2, 6, pre, by go_num, by go_num, by go_num, by omega, hn2l, by omega, by simp, by have h2 := HO.out; rw [HPl.out] at h2 ⊢; exact h2, HT3.out, HB.out⟩
      case measure => simp [RowKit.intOf]; omega
    · obtain ⟨g, hg⟩ : ∃ g, g = ((n % 2 ^ 6) * 64 + q) / 16 := ⟨_, rfl⟩
      have hx : n2 % 2 ^ 4 = (((n % 2 ^ 6) * 64 + q)) % 16 := by have := HMN.out; omega
      have sw : IntKind.u8.wrap ((n2 : Int) / 16) = (g : Int) := by
        rw [IntKind.wrap_u8]
        have := HMN.out
        omega
      have HT3 : Hid (R = (readV ((bts s).drop (k + 1))).map fun vs => (pre ++ [g]) ++ (rgi vs (n2 % 2 ^ 4) 4).1) := by
        show _ = _
        rw [HT2.out]
        congr 1
        funext vs
        rw [hx, hg, rgi]
        simp
      have hbd : pl + 1 ≤ 40000 := by rw [HPl.out]; omega
      clear hg hx HT2
      go_wp2_with fail
      refine (HSg.out wr z).mono ?_
      rintro e w2 ⟨rfl, rfl⟩
      rw [hk1]
      clear hsg hk1
      have hO : w2.ownsRow w.heap.size 5 1 (.slice va pl vc) pl ((pre.map (fun x : Nat => (x : Int))).map (Value.int .u8)) := by
        have h2 := HO.out
        unfold OwnB at h2
        rw [← HPl.out] at h2
        exact h2
      have hs2 : w.heap.size ≤ w2.heap.size := HB.out.size
      go_wp2_with (at_builtin; refine wpList_append_own _ rfl _ _ 22 rfl w.heap.size 5 i0 (.int .u8 0) 1 1 Tryz.underlying22 hi hz0 hz1 hz2 rfl (by decide) _ _ _ rfl (hO.alloc _) ⟨w2.heap.size, 0, none⟩ 1 1 [.int .u8 (g : Int)] rfl rfl (cells_one (by simp)) (by simp [Value.oneCell']) (by unfold maxLen; omega) (by omega) (by simp; omega) ?_)
      intro y w3 hown3 hgrow3 _
      have B3 : Hid (Below w.heap.size w w3) := (HB.out.alloc (by omega) _).grown hgrow3 (by simp; omega) (fun j hj => (hO.lt j hj).1)
      have O3 : Hid (OwnB w3 w.heap.size y (pre ++ [g])) := by
        show World.ownsRow _ _ _ _ _ _ _
        rw [List.length_append, ← HPl.out]
        simpa [List.map_append] using hown3
      clear hgrow3 hown3 hO hs2 HO HB
      go_wp2
      go_roundw
      case rel => exact ⟨k + 1, n2, 4, _, by go_num, by go_num, by go_num, by omega, hn2l, by rw [List.length_append]; show pre.length + 1 ≤ k + 1; omega, by simp, O3.out, HT3.out, B3.out⟩
      case measure => simp [RowKit.intOf]; omega
    · obtain ⟨g, hg⟩ : ∃ g, g = ((n % 2 ^ 4) * 64 + q) / 4 := ⟨_, rfl⟩
      have hx : n2 % 2 ^ 2 = (((n % 2 ^ 4) * 64 + q)) % 4 := by have := HMN.out; omega
      have sw : IntKind.u8.wrap ((n2 : Int) / 4) = (g : Int) := by
        rw [IntKind.wrap_u8]
        have := HMN.out
        omega
      have HT3 : Hid (R = (readV ((bts s).drop (k + 1))).map fun vs => (pre ++ [g]) ++ (rgi vs (n2 % 2 ^ 2) 2).1) := by
        show _ = _
        rw [HT2.out]
        congr 1
        funext vs
        rw [hx, hg, rgi]
        simp
      have hbd : pl + 1 ≤ 40000 := by rw [HPl.out]; omega
      clear hg hx HT2
      go_wp2_with fail
      refine (HSg.out wr z).mono ?_
      rintro e w2 ⟨rfl, rfl⟩
      rw [hk1]
      clear hsg hk1
      have hO : w2.ownsRow w.heap.size 5 1 (.slice va pl vc) pl ((pre.map (fun x : Nat => (x : Int))).map (Value.int .u8)) := by
        have h2 := HO.out
        unfold OwnB at h2
        rw [← HPl.out] at h2
        exact h2
      have hs2 : w.heap.size ≤ w2.heap.size := HB.out.size
      go_wp2_with (at_builtin; refine wpList_append_own _ rfl _ _ 22 rfl w.heap.size 5 i0 (.int .u8 0) 1 1 Tryz.underlying22 hi hz0 hz1 hz2 rfl (by decide) _ _ _ rfl (hO.alloc _) ⟨w2.heap.size, 0, none⟩ 1 1 [.int .u8 (g : Int)] rfl rfl (cells_one (by simp)) (by simp [Value.oneCell']) (by unfold maxLen; omega) (by omega) (by simp; omega) ?_)
      intro y w3 hown3 hgrow3 _
      have B3 : Hid (Below w.heap.size w w3) := (HB.out.alloc (by omega) _).grown hgrow3 (by simp; omega) (fun j hj => (hO.lt j hj).1)
      have O3 : Hid (OwnB w3 w.heap.size y (pre ++ [g])) := by
        show World.ownsRow _ _ _ _ _ _ _
        rw [List.length_append, ← HPl.out]
        simpa [List.map_append] using hown3
      clear hgrow3 hown3 hO hs2 HO HB
      go_wp2
      go_roundw
      case rel => exact ⟨k + 1, n2, 2, _, by go_num, by go_num, by go_num, by omega, hn2l, by rw [List.length_append]; show pre.length + 1 ≤ k + 1; omega, by simp, O3.out, HT3.out, B3.out⟩
      case measure => simp [RowKit.intOf]; omega
    · obtain ⟨g, hg⟩ : ∃ g, g = ((n % 2 ^ 2) * 64 + q) := ⟨_, rfl⟩
      have hx : n2 % 2 ^ 0 = 0 := by have := HMN.out; omega
      have sw : IntKind.u8.wrap ((n2 : Int)) = (g : Int) := by
        rw [IntKind.wrap_u8]
        have := HMN.out
        omega
      have HT3 : Hid (R = (readV ((bts s).drop (k + 1))).map fun vs => (pre ++ [g]) ++ (rgi vs (n2 % 2 ^ 0) 0).1) := by
        show _ = _
        rw [HT2.out]
        congr 1
        funext vs
        rw [hx, hg, rgi]
        simp
      have hbd : pl + 1 ≤ 40000 := by rw [HPl.out]; omega
      clear hg hx HT2
      go_wp2_with fail
      refine (HSg.out wr z).mono ?_
      rintro e w2 ⟨rfl, rfl⟩
      rw [hk1]
      clear hsg hk1
      have hO : w2.ownsRow w.heap.size 5 1 (.slice va pl vc) pl ((pre.map (fun x : Nat => (x : Int))).map (Value.int .u8)) := by
        have h2 := HO.out
        unfold OwnB at h2
        rw [← HPl.out] at h2
        exact h2
      have hs2 : w.heap.size ≤ w2.heap.size := HB.out.size
      go_wp2_with (at_builtin; refine wpList_append_own _ rfl _ _ 22 rfl w.heap.size 5 i0 (.int .u8 0) 1 1 Tryz.underlying22 hi hz0 hz1 hz2 rfl (by decide) _ _ _ rfl (hO.alloc _) ⟨w2.heap.size, 0, none⟩ 1 1 [.int .u8 (g : Int)] rfl rfl (cells_one (by simp)) (by simp [Value.oneCell']) (by unfold maxLen; omega) (by omega) (by simp; omega) ?_)
      intro y w3 hown3 hgrow3 _
      have B3 : Hid (Below w.heap.size w w3) := (HB.out.alloc (by omega) _).grown hgrow3 (by simp; omega) (fun j hj => (hO.lt j hj).1)
      have O3 : Hid (OwnB w3 w.heap.size y (pre ++ [g])) := by
        show World.ownsRow _ _ _ _ _ _ _
        rw [List.length_append, ← HPl.out]
        simpa [List.map_append] using hown3
      clear hgrow3 hown3 hO hs2 HO HB
      go_wp2
      go_roundw
      case rel => exact ⟨k + 1, n2, 0, _, by go_num, by go_num, by go_num, by omega, hn2l, by rw [List.length_append]; show pre.length + 1 ≤ k + 1; omega, by simp, O3.out, HT3.out, B3.out⟩
      case measure => simp [RowKit.intOf]; omega
end Go.Proofs.YtjkmfjegphpjkaaGreatDoor
namespace Go.Proofs.YtjkmfjegphpjkaaGreatDoor
open Go.RowKit Go.Lib

set_option maxHeartbeats 4000000 in
set_option maxRecDepth 100000 in
theorem specGet (s : ByteArray) (p : Nat) (w : World) (hs : s.size ≤ 20000) (hp : (p : Int) ≤ 9223372036854775807) :
    Calls Tryz.prog 73 #[.string s, .int .i64 (p : Int)] w fun e w' => e = .returned (numV (getR s p 10 0 0)) ∧ Below w.heap.size w w' := by
  obtain ⟨R, hR⟩ : ∃ R, R = getR s p 10 0 0 := ⟨_, rfl⟩
  rw [← hR]
  have H0 : Hid (getR s p 10 0 0 = R) := hR.symm
  clear hR
  go_enter Tryz.func73, Tryz.ntmps73
  go_wp2
  go_loopw [5, 6] (fun a b wr => ∃ i u : Nat, i ≤ 10 ∧ b = .int .i64 i ∧ a = .int .u64 u ∧ u < 128 ^ i ∧ getR s p (10 - i) i u = R ∧ wr = w.alloc (.cells #[.int .i64 0, .int .i64 0, .int .i64 0] 82))
    (fun _ b _ => 10 - (RowKit.intOf b).toNat)
  case atStart => exact ⟨0, 0, by omega, rfl, rfl, by omega, H0.out, rfl⟩
  case round =>
    obtain ⟨i, u, hi, rfl, rfl, hu, hg, rfl⟩ := hrel
    by_cases h10 : i < 10
    rotate_left
    · obtain rfl : i = 10 := by omega
      have hf : Hid (R = .bad 3) := by rw [← hg]; rfl
      clear hg hu H0
      go_wp2
      refine bodyPost_ret (v := .agg #[.int .i64 0, .int .i64 0, .int .i64 3]) (by simp [results, Tryz.results73, go_sem]) rfl ⟨?_, ?_⟩
      · rw [hf.out]; rfl
      · repeat (first | exact Below.refl _ _ | refine Below.setCell ?_ (by simp) _ | refine Below.alloc ?_ (Nat.le_refl _) _)
    obtain ⟨f, hf⟩ : ∃ f, 10 - i = f + 1 := ⟨9 - i, by omega⟩
    rw [hf] at hg
    have HF : Hid (10 - i = f + 1) := hf
    have HU : Hid (u < 128 ^ i) := hu
    have HG : Hid (getR s p (f + 1) i u = R) := hg
    clear hu hg H0 hf
    by_cases hsh : s.size ≤ p + i
    · have hfin : Hid (R = .bad 4) := by rw [← HG.out]; exact getR_short hsh
      go_wp2
      refine bodyPost_ret (v := .agg #[.int .i64 0, .int .i64 0, .int .i64 4]) (by simp [results, Tryz.results73, go_sem]) rfl ⟨?_, ?_⟩
      · rw [hfin.out]; rfl
      · repeat (first | exact Below.refl _ _ | refine Below.setCell ?_ (by simp) _ | refine Below.alloc ?_ (Nat.le_refl _) _)
    have hlt : p + i < s.size := by omega
    have HB : Hid (bNu s (p + i) = s[p + i].toNat) := bU_eq s (p + i) hlt
    have hbl : (s[p + i].toNat : Int) ≤ 255 := by have := bU_lt s (p + i); rw [HB.out] at this; omega
    by_cases h9 : i = 9 ∧ 1 < s[p + i].toNat
    · obtain ⟨h9a, h9b⟩ := h9
      have hfin : Hid (R = .bad 3) := by
        rw [← HG.out]
        subst h9a
        exact getR_ninth hlt (by rw [HB.out]; exact h9b)
      have e9 : ((i : Int) == 9) = true := by rw [beq_iff_eq]; omega
      have e9b : (1 : Int) < (s[p + i].toNat : Int) := by omega
      clear h9a
      go_wp2
      refine bodyPost_ret (v := .agg #[.int .i64 0, .int .i64 0, .int .i64 3]) (by simp [results, Tryz.results73, go_sem]) rfl ⟨?_, ?_⟩
      · rw [hfin.out]; rfl
      · repeat (first | exact Below.refl _ _ | refine Below.setCell ?_ (by simp) _ | refine Below.alloc ?_ (Nat.le_refl _) _)
    have H9 : Hid (i = 9 → bNu s (p + i) ≤ 1) := fun e => by rw [HB.out]; omega
    have hw1 := wrapSh hlt (by omega) H9.out
    have hxl := sh7_le (s := s) (j := p + i) (by omega) H9.out
    obtain ⟨x, hx⟩ : ∃ x, x = sh7 i (bNu s (p + i) % 128) := ⟨_, rfl⟩
    rw [← hx] at hw1 hxl
    obtain ⟨hw2, hvl⟩ := wrapSum HU.out (by omega) hxl
    obtain ⟨v, hv⟩ : ∃ v, v = u + x := ⟨_, rfl⟩
    rw [← hv] at hw2 hvl
    have hvl' : (v : Int) ≤ 18446744073709551615 := by omega
    have HV : Hid (v = u + sh7 i (bNu s (p + i) % 128)) := (by rw [hv, hx] : v = u + sh7 i (bNu s (p + i) % 128))
    clear hx hv hxl hvl
    have h9c : ((i : Int) == 9) = true ∧ (s[p + i].toNat : Int) ≤ 1 ∨ ((i : Int) == 9) = false := by
      by_cases h : i = 9
      · left; exact ⟨by rw [beq_iff_eq]; omega, by omega⟩
      · right; rw [beq_eq_false_iff_ne]; omega
    have h9d : Hid (((i : Int) == 9) = false → i < 9) := fun h => by rw [beq_eq_false_iff_ne] at h; omega
    clear h9
    by_cases hc : 128 ≤ (s[p + i].toNat : Int)
    · rcases h9c with ⟨e9, e1⟩ | e9
      · exfalso; omega
      have hi9 := h9d.out e9
      have HN : Hid (getR s p f (i + 1) v = R) := (by rw [← HG.out, getR_more hlt H9.out (by rw [HB.out]; omega), ← HV.out] : getR s p f (i + 1) v = R)
      have HVB : Hid (v < 128 ^ (i + 1)) := by rw [HV.out]; exact sh7_bound HU.out (by omega)
      go_wp2
      go_roundw
      case rel => exact ⟨i + 1, v, by omega, by go_num, rfl, HVB.out, by rw [show 10 - (i + 1) = f from by have := HF.out; omega]; exact HN.out, trivial⟩
      case measure => simp [RowKit.intOf]; omega
    by_cases hz : s[p + i].toNat = 0 ∧ 0 < i
    · have hfin : Hid (R = .bad 3) := by
        rw [← HG.out]
        exact getR_zero hlt (by rw [HB.out]; exact hz.1) hz.2
      have ez : ((s[p + i].toNat : Int) == 0) = true := by rw [beq_iff_eq]; omega
      have ei : (0 : Int) < (i : Int) := by omega
      clear hz
      rcases h9c with ⟨e9, e1⟩ | e9
      all_goals
        go_wp2
        refine bodyPost_ret (v := .agg #[.int .i64 0, .int .i64 0, .int .i64 3]) (by simp [results, Tryz.results73, go_sem]) rfl ⟨?_, ?_⟩
        · rw [hfin.out]; rfl
        · repeat (first | exact Below.refl _ _ | refine Below.setCell ?_ (by simp) _ | refine Below.alloc ?_ (Nat.le_refl _) _)
    have hfin : Hid (R = ⟨unI v, (p + i + 1 : Nat), 0⟩) := (by
      rw [← HG.out, getR_last hlt H9.out (by rw [HB.out]; omega) (by rw [HB.out]; exact hz), ← HV.out] : R = ⟨unI v, (p + i + 1 : Nat), 0⟩)
    have hz2 : ((s[p + i].toNat : Int) == 0) = false ∨ (i : Int) ≤ 0 ∧ ((s[p + i].toNat : Int) == 0) = true := by
      by_cases h : s[p + i].toNat = 0
      · right; exact ⟨by omega, by rw [beq_iff_eq]; omega⟩
      · left; rw [beq_eq_false_iff_ne]; omega
    clear hz
    by_cases hodd : v % 2 = 1
    · have eo : ((v : Int) % 2 == 1) = true := by rw [beq_iff_eq]; omega
      have hun : Hid (unI v = -((v : Int) / 2) - 1) := by unfold Hid unI; rw [if_pos hodd]; omega
      clear hodd
      rcases h9c with ⟨e9, e1⟩ | e9 <;> rcases hz2 with ez | ⟨ei, ez⟩
      all_goals
        go_wp2
        refine bodyPost_ret (v := .agg #[.int .i64 (-((v : Int) / 2) - 1), .int .i64 ((p : Int) + (i : Int) + 1), .int .i64 0]) (by simp [results, Tryz.results73, go_sem]) rfl ⟨?_, ?_⟩
        · rw [hfin.out, numV, hun.out]; simp only [Int.natCast_add]; rfl
        · repeat (first | exact Below.refl _ _ | refine Below.setCell ?_ (by simp) _ | refine Below.alloc ?_ (Nat.le_refl _) _)
    · have eo : ((v : Int) % 2 == 1) = false := by rw [beq_eq_false_iff_ne]; omega
      have hun : Hid (unI v = (v : Int) / 2) := by unfold Hid unI; rw [if_neg hodd]; omega
      clear hodd
      rcases h9c with ⟨e9, e1⟩ | e9 <;> rcases hz2 with ez | ⟨ei, ez⟩
      all_goals
        go_wp2
        refine bodyPost_ret (v := .agg #[.int .i64 ((v : Int) / 2), .int .i64 ((p : Int) + (i : Int) + 1), .int .i64 0]) (by simp [results, Tryz.results73, go_sem]) rfl ⟨?_, ?_⟩
        · rw [hfin.out, numV, hun.out]; simp only [Int.natCast_add]; rfl
        · repeat (first | exact Below.refl _ _ | refine Below.setCell ?_ (by simp) _ | refine Below.alloc ?_ (Nat.le_refl _) _)
end Go.Proofs.YtjkmfjegphpjkaaGreatDoor
namespace Go.Proofs.YtjkmfjegphpjkaaGreatDoor
open Go.RowKit Go.Lib

theorem specGet_any (s : ByteArray) (p : Int) (w : World) (hs : s.size ≤ maxLen) (hp0 : -9223372036854775808 ≤ p) (hp1 : p ≤ 9223372036854775807) :
    Calls Tryz.prog 73 #[.string s, .int .i64 p] w fun e w' => e = .returned (numV (numAt s p)) ∧ Below w.heap.size w w' := by
  unfold maxLen at hs
  by_cases h1 : 20000 < s.size
  · rw [numAt, if_pos h1]
    go_enter Tryz.func73, Tryz.ntmps73
    go_wp2
    refine bodyPost_ret (v := .agg #[.int .i64 0, .int .i64 0, .int .i64 2]) (by simp [results, Tryz.results73, go_sem]) rfl ⟨rfl, ?_⟩
    repeat (first | exact Below.refl _ _ | refine Below.setCell ?_ (by simp) _ | refine Below.alloc ?_ (Nat.le_refl _) _)
  by_cases h2 : p < 0
  · rw [numAt, if_neg h1, if_pos h2]
    go_enter Tryz.func73, Tryz.ntmps73
    go_wp2
    refine bodyPost_ret (v := .agg #[.int .i64 0, .int .i64 0, .int .i64 1]) (by simp [results, Tryz.results73, go_sem]) rfl ⟨rfl, ?_⟩
    repeat (first | exact Below.refl _ _ | refine Below.setCell ?_ (by simp) _ | refine Below.alloc ?_ (Nat.le_refl _) _)
  obtain ⟨q, rfl⟩ := Int.eq_ofNat_of_zero_le (show 0 ≤ p by omega)
  rw [numAt, if_neg h1, if_neg h2, Int.toNat_natCast]
  exact specGet s q w (by omega) hp1
end Go.Proofs.YtjkmfjegphpjkaaGreatDoor
namespace Go.Proofs.YtjkmfjegphpjkaaGreatDoor
open Go.RowKit Go.Lib

set_option maxHeartbeats 2000000 in
set_option maxRecDepth 100000 in
theorem specGetText (s : ByteArray) (p : Int) (w : World) (hs : s.size ≤ maxLen) (hp0 : -9223372036854775808 ≤ p) (hp1 : p ≤ 9223372036854775807) :
    Calls Tryz.prog 74 #[.string s, .int .i64 p] w fun e w' => e = .returned (textR s (numAt s p)) ∧ Below w.heap.size w w' := by
  have hget := fun W => specGet_any s p W hs hp0 hp1
  have hat := @numAt_at s p
  unfold numV at hget
  generalize numAt s p = R at *
  have HS : Hid (∀ w, Calls Tryz.prog 73 #[.string s, .int .i64 p] w fun e w' => e = .returned (.agg #[.int .i64 R.n, .int .i64 R.at', .int .i64 R.code]) ∧ Below w.heap.size w w') := hget
  have HA : Hid (R.code = 0 → s.size ≤ 20000 ∧ 0 < R.at' ∧ R.at' ≤ s.size) := hat
  clear hget hat
  go_enter Tryz.func74, Tryz.ntmps74
  go_wp2_with fail
  refine (HS.out _).mono ?_
  rintro e w1 ⟨rfl, hb⟩
  have hB : Below (w.heap.size + 1) (w.alloc (.cells #[.string ⟨#[]⟩, .int .i64 0, .int .i64 0] 26)) w1 := by simpa using hb
  have c0 : w1.cell? ⟨w.heap.size, 0, none⟩ = some (.string ⟨#[]⟩) := (hB.cell (by simp)).trans (by simp)
  have c1 : w1.cell? ⟨w.heap.size, 1, none⟩ = some (.int .i64 0) := (hB.cell (by simp)).trans (by simp)
  have c2 : w1.cell? ⟨w.heap.size, 2, none⟩ = some (.int .i64 0) := (hB.cell (by simp)).trans (by simp)
  have f0 : w1.frozen? ⟨w.heap.size, 0, none⟩ = false := (hB.frozen (by simp)).trans (by simp)
  have f1 : w1.frozen? ⟨w.heap.size, 1, none⟩ = false := (hB.frozen (by simp)).trans (by simp)
  have f2 : w1.frozen? ⟨w.heap.size, 2, none⟩ = false := (hB.frozen (by simp)).trans (by simp)
  have hz : w.heap.size < w1.heap.size := by have := hB.size; simp at this; omega
  have HB : Hid (Below w.heap.size w w1) := ((Below.refl _ w).alloc (Nat.le_refl _) _).trans (hB.mono (Nat.le_succ _))
  clear hb hB
  by_cases hc : R.code = 0
  rotate_left
  · have hfin : Hid (textR s R = outV ByteArray.empty 0 R.code) := by unfold Hid textR; rw [if_pos hc]
    have ec : (R.code != 0) = true := by rw [bne_iff_ne]; exact hc
    clear hc
    go_wp2
    refine bodyPost_ret (v := .agg #[.string ⟨#[]⟩, .int .i64 0, .int .i64 R.code]) (by simp [results, Tryz.results74, go_sem, c0, c1, c2, hz]) rfl ⟨?_, ?_⟩
    · rw [hfin.out]; rfl
    · repeat (first | exact HB.out | refine Below.setCell ?_ (by simp) _ | refine Below.alloc ?_ (by simp; omega) _)
  obtain ⟨hs2, ha0, ha1⟩ := HA.out hc
  have ec : (R.code != 0) = false := by rw [bne_eq_false_iff_eq]; exact hc
  have HC : Hid (R.code = 0) := hc
  clear hc
  by_cases hn0 : R.n < 0
  · have hfin : Hid (textR s R = outV ByteArray.empty 0 3) := by unfold Hid textR; rw [if_neg (by simp [HC.out]), if_pos (.inl hn0)]
    go_wp2
    refine bodyPost_ret (v := .agg #[.string ⟨#[]⟩, .int .i64 0, .int .i64 3]) (by simp [results, Tryz.results74, go_sem, c0, c1, c2, hz]) rfl ⟨?_, ?_⟩
    · rw [hfin.out]; rfl
    · repeat (first | exact HB.out | refine Below.setCell ?_ (by simp) _ | refine Below.alloc ?_ (by simp; omega) _)
  by_cases hn1 : 20000 < R.n
  · have hfin : Hid (textR s R = outV ByteArray.empty 0 3) := by unfold Hid textR; rw [if_neg (by simp [HC.out]), if_pos (.inr hn1)]
    go_wp2
    refine bodyPost_ret (v := .agg #[.string ⟨#[]⟩, .int .i64 0, .int .i64 3]) (by simp [results, Tryz.results74, go_sem, c0, c1, c2, hz]) rfl ⟨?_, ?_⟩
    · rw [hfin.out]; rfl
    · repeat (first | exact HB.out | refine Below.setCell ?_ (by simp) _ | refine Below.alloc ?_ (by simp; omega) _)
  by_cases hsh : (s.size : Int) - R.n < R.at'
  · have hfin : Hid (textR s R = outV ByteArray.empty 0 4) := by unfold Hid textR; rw [if_neg (by simp [HC.out]), if_neg (by omega), if_pos hsh]
    go_wp2
    refine bodyPost_ret (v := .agg #[.string ⟨#[]⟩, .int .i64 0, .int .i64 4]) (by simp [results, Tryz.results74, go_sem, c0, c1, c2, hz]) rfl ⟨?_, ?_⟩
    · rw [hfin.out]; rfl
    · repeat (first | exact HB.out | refine Below.setCell ?_ (by simp) _ | refine Below.alloc ?_ (by simp; omega) _)
  have hfin : Hid (textR s R = outV (s.extract R.at'.toNat (R.at' + R.n).toNat) (R.at' + R.n) 0) := by unfold Hid textR; rw [if_neg (by simp [HC.out]), if_neg (by omega), if_neg hsh]
  have ew : IntKind.i64.wrap (R.at' + R.n) = R.at' + R.n := by rw [IntKind.wrap_i64]; omega
  have q1 : R.at' ≤ R.at' + R.n := by omega
  have q2 : R.at' + R.n ≤ (s.size : Int) := by omega
  have q3 : (0 : Int) ≤ R.at' := by omega
  go_wp2_with fail
  go_region
  go_wp2
  refine bodyPost_ret (v := .agg #[.string (s.extract R.at'.toNat (R.at' + R.n).toNat), .int .i64 (R.at' + R.n), .int .i64 0]) (by simp [results, Tryz.results74, go_sem, c0, c1, c2, hz]) rfl ⟨?_, ?_⟩
  · rw [hfin.out]; rfl
  · repeat (first | exact HB.out | refine Below.drew ?_ | refine Below.setCell ?_ (by simp) _ | refine Below.alloc ?_ (by simp; omega) _)
end Go.Proofs.YtjkmfjegphpjkaaGreatDoor
