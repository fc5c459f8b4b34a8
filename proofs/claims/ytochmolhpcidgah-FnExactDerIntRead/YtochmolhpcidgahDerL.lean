/- impl.numberOf, impl.DerIntRead, walked. -/
import Derived.Test.YtochmolhpcidgahDerJ
import Derived.Test.YtochmolhpcidgahDerR
import Derived.Test.YtochmolhpcidgahResK
import Derived.Test.YtochmolhpcidgahLong
namespace Go.Proofs.Ytochmolhpcidgah
open Go.RowKit Go.Lib

theorem wrapI8 (x : Int) : IntKind.i8.wrap x = (x + 128) % 256 - 128 := by
  simp [IntKind.wrap, IntKind.bits, IntKind.signed]
  omega
set_option maxHeartbeats 1000000 in
set_option maxRecDepth 100000 in
theorem numberOf (s : ByteArray) (w : World) (h0 : 0 < s.size) (h8 : s.size ≤ 8) :
    Calls Try.prog 26 #[.string s] w fun e w' => e = .returned (.int .i64 (sv s s.size)) ∧ w' = w := by
  have hb0 := bN_eq s 0 h0
  have hu := u8_lt s[0]
  have h0i : (0 : Int) < (s.size : Int) := by omega
  have HZ : Hid (sv s 1 = IntKind.i8.wrap (s[0].toNat : Int)) := by
    show _ = _
    rw [wrapI8, ← hb0]
    simp only [sv]
    split <;> omega
  go_enter Try.func26, Try.ntmps26
  go_wp2_with fail
  go_loopw [3, 4] (fun n i wr => ∃ k : Nat, 1 ≤ k ∧ k ≤ s.size ∧ n = .int .i64 (sv s k) ∧ i = .int .i64 (k : Int) ∧ wr = w)
    (fun _ i _ => s.size - (RowKit.intOf i).toNat)
  case atStart =>
    refine ⟨1, Nat.le_refl _, by omega, ?_, rfl, rfl⟩
    rw [← HZ.out]
    have := sv_bd s (show 1 ≤ 8 by omega)
    rw [show wrap64 (sv s 1) = sv s 1 from by unfold wrap64; omega]
  case round =>
    obtain ⟨k, hk1, hk, rfl, rfl, rfl⟩ := hrel
    by_cases hlt : k < s.size
    · have hv := sv_low s (show k < 8 by omega)
      have hbk := bN_eq s k hlt
      have hub := u8_lt s[k]
      have ho := or8 (sv s k) (bN s k) (bN_lt s k) hv.1 hv.2
      have HS : Hid (sv s (k + 1) = sv s k * 256 + (bN s k : Int)) := rfl
      rw [hbk] at ho HS
      generalize sv s k = v at *
      have hv0 := hv.1
      have hv1 := hv.2
      clear hv
      have q2 : (k : Int) < (s.size : Int) := by omega
      go_wp2
      go_roundw
      case rel => exact ⟨k + 1, by omega, by omega, by rw [HS.out], by go_num, trivial⟩
      case measure => simp [RowKit.intOf]; omega
    · obtain rfl : k = s.size := by omega
      go_wp2
      go_ret
      exact ⟨rfl, rfl⟩
set_option maxHeartbeats 1000000 in
theorem implIntRead (s : ByteArray) (w : World) (hs : s.size ≤ maxLen) :
    Calls Try.prog 10 #[.string s] w fun e w' => e = .returned (numT (intR s).1 (intR s).2) ∧ Below w.heap.size w w' := by
  have hs' := hs
  unfold maxLen at hs'
  by_cases h1 : 20000 < s.size
  · have HF : Hid (intR s = (0, 2)) := intR_long h1
    have hd : decide (20000 < s.size) = true := decide_eq_true h1
    go_enter Try.func10, Try.ntmps10
    go_wp2_with fail
    refine (tooLong s _ hs).mono ?_
    rintro e w' ⟨rfl, rfl⟩
    rw [hd]
    go_wp2
    refine bodyPost_ret (v := numT 0 2) (by simp [numT, results, Try.results10, go_sem]) rfl ⟨by rw [HF.out], ?_⟩
    repeat (first | exact Below.refl _ _ | refine Below.setCell ?_ (by simp) _ | refine Below.alloc ?_ (by simp) _)
  have hd : decide (20000 < s.size) = false := decide_eq_false h1
  by_cases h2 : s.size = 0 ∨ 8 < s.size
  · have HF : Hid (intR s = (0, 3)) := intR_size (by omega) h2
    rcases h2 with h2 | h2
    all_goals
      go_enter Try.func10, Try.ntmps10
      go_wp2_with fail
      refine (tooLong s _ hs).mono ?_
      rintro e w' ⟨rfl, rfl⟩
      rw [hd]
      go_wp2
      refine bodyPost_ret (v := numT 0 3) (by simp [numT, results, Try.results10, go_sem]) rfl ⟨by rw [HF.out], ?_⟩
      repeat (first | exact Below.refl _ _ | refine Below.setCell ?_ (by simp) _ | refine Below.alloc ?_ (by simp) _)
  · have hv := sv_bd s (show s.size ≤ 8 by omega)
    have HN : Hid (∀ v : World, Calls Try.prog 26 #[.string s] v fun e w' => e = .returned (.int .i64 (sv s s.size)) ∧ w' = v) := fun v => numberOf s v (by omega) (by omega)
    have HB : Hid (∀ v : World, Calls Try.prog 27 #[.agg #[.int .i64 (sv s s.size)]] v fun e w' => e = .returned (.string (strOfNums (intL (sv s s.size)))) ∧ Below v.heap.size v w') := fun v => bodyNumber _ v hv.1 (by omega)
    have hst := same_text (strOfNums (intL (sv s s.size))) s
    by_cases h3 : strOfNums (intL (sv s s.size)) = s
    · have HF : Hid (intR s = (sv s s.size, 0)) := intR_good (by omega) (by omega) h3
      rw [decide_eq_true h3] at hst
      generalize strOfNums (intL (sv s s.size)) = y at *
      generalize sv s s.size = x at *
      clear h3
      go_enter Try.func10, Try.ntmps10
      go_wp2_with fail
      refine (tooLong s _ hs).mono ?_
      rintro e w' ⟨rfl, rfl⟩
      rw [hd]
      go_wp2_with fail
      refine (HN.out _).mono ?_
      rintro e w' ⟨rfl, rfl⟩
      go_wp2_with fail
      refine (HB.out _).mono ?_
      rintro e w1 ⟨rfl, hb1⟩
      obtain ⟨hr, hB, _⟩ := resKeep (cs := [.int .i64 0, .int .i64 0, .int .i64 0]) (T := 25) hb1
      obtain ⟨⟨c0, c1, c2⟩, f0, f1, f2⟩ := row3 hr
      clear hb1 hr
      go_wp2
      refine bodyPost_ret (v := numT x 0) (by simp [numT, results, Try.results10, go_sem, c0, c1, c2]) rfl ⟨by rw [HF.out], ?_⟩
      repeat (first | exact hB | refine Below.setCell ?_ (by simp) _ | refine Below.alloc ?_ (by simp) _)
    · have HF : Hid (intR s = (0, 3)) := intR_bad (by omega) (by omega) h3
      rw [decide_eq_false h3] at hst
      generalize strOfNums (intL (sv s s.size)) = y at *
      generalize sv s s.size = x at *
      clear h3
      go_enter Try.func10, Try.ntmps10
      go_wp2_with fail
      refine (tooLong s _ hs).mono ?_
      rintro e w' ⟨rfl, rfl⟩
      rw [hd]
      go_wp2_with fail
      refine (HN.out _).mono ?_
      rintro e w' ⟨rfl, rfl⟩
      go_wp2_with fail
      refine (HB.out _).mono ?_
      rintro e w1 ⟨rfl, hb1⟩
      obtain ⟨hr, hB, _⟩ := resKeep (cs := [.int .i64 0, .int .i64 0, .int .i64 0]) (T := 25) hb1
      obtain ⟨⟨c0, c1, c2⟩, f0, f1, f2⟩ := row3 hr
      clear hb1 hr
      go_wp2
      refine bodyPost_ret (v := numT 0 3) (by simp [numT, results, Try.results10, go_sem, c0, c1, c2]) rfl ⟨by rw [HF.out], ?_⟩
      repeat (first | exact hB | refine Below.setCell ?_ (by simp) _ | refine Below.alloc ?_ (by simp) _)
end Go.Proofs.Ytochmolhpcidgah
