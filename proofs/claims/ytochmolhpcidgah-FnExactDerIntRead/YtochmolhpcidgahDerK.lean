/- spec.l05Int, spec.DerIntRead, walked. -/
import Derived.Test.YtochmolhpcidgahDerI
import Derived.Test.YtochmolhpcidgahDerR
import Derived.Test.YtochmolhpcidgahResK
namespace Go.Proofs.Ytochmolhpcidgah
open Go.RowKit Go.Lib

set_option maxHeartbeats 1000000 in
set_option maxRecDepth 100000 in
theorem specIntOf (s : ByteArray) (w : World) (h0 : 0 < s.size) (h8 : s.size ≤ 8) :
    Calls Try.prog 24 #[.string s] w fun e w' => e = .returned (.tuple #[.int .i64 (sv s s.size), .bool (decide (strOfNums (intL (sv s s.size)) = s))]) ∧ Below w.heap.size w w' := by
  have hb0 := bN_eq s 0 h0
  have hu := u8_lt s[0]
  have HZ : Hid (sv s 0 = if 128 ≤ bN s 0 then -1 else 0) := rfl
  have h0i : (0 : Int) < (s.size : Int) := by omega
  have HB : Hid (∀ v : World, Calls Try.prog 22 #[.int .i64 (sv s s.size)] v fun e w' => e = .returned (.string (strOfNums (intL (sv s s.size)))) ∧ Below v.heap.size v w') := fun v => specBytes _ v (sv_bd s h8).1 (by have := (sv_bd s h8).2; omega)
  go_enter Try.func24, Try.ntmps24
  go_wp2_with fail
  all_goals
    go_loopw [4, 5] (fun n i wr => ∃ k : Nat, k ≤ s.size ∧ n = .int .i64 (sv s k) ∧ i = .int .i64 (k : Int) ∧ wr = w)
      (fun _ i _ => s.size - (RowKit.intOf i).toNat)
    case atStart =>
      refine ⟨0, Nat.zero_le _, ?_, rfl, rfl⟩
      rw [HZ.out, hb0]
      first | rw [if_pos (by omega)] | rw [if_neg (by omega)]
    case round =>
      obtain ⟨k, hk, rfl, rfl, rfl⟩ := hrel
      by_cases hlt : k < s.size
      · have hv := sv_low s (show k < 8 by omega)
        have hbk := bN_eq s k hlt
        have hub := u8_lt s[k]
        have ho := or8 (sv s k) (bN s k) (bN_lt s k) hv.1 hv.2
        have HS : Hid (sv s (k + 1) = sv s k * 256 + (bN s k : Int)) := rfl
        rw [hbk] at ho HS
        generalize sv s k = v at *
        have hv0 := hv.1
        have hv1 := hv.2
        clear hv
        have q2 : (k : Int) < (s.size : Int) := by omega
        go_wp2
        go_roundw
        case rel => exact ⟨k + 1, by omega, by rw [HS.out], by go_num, trivial⟩
        case measure => simp [RowKit.intOf]; omega
      · obtain rfl : k = s.size := by omega
        have hv := sv_bd s h8
        have HX : Hid (∀ x, x = strOfNums (intL (sv s s.size)) → (x.toList == s.toList) = decide (strOfNums (intL (sv s s.size)) = s)) := fun x hx => by rw [hx, same_text]
        have HX2 := HX.out _ rfl
        have HV : Hid (sv s s.size = sv s s.size) := rfl
        generalize hvv : sv s s.size = v at hv HB
        generalize hxx : strOfNums (intL v) = x at HB
        have hv0 := hv.1
        have hv1 := hv.2
        have HVV : Hid (sv s s.size = v) := hvv
        have HXX : Hid (strOfNums (intL v) = x) := hxx
        clear hv hvv hxx HX HX2
        go_wp2_with fail
        refine (HB.out _).mono ?_
        rintro e w1 ⟨rfl, hb1⟩
        go_wp2
        go_ret2
        exact ⟨by rw [HVV.out, HXX.out, same_text]; rfl, hb1⟩
set_option maxHeartbeats 1000000 in
theorem specIntRead (s : ByteArray) (w : World) (hs : s.size ≤ maxLen) :
    Calls Try.prog 9 #[.string s] w fun e w' => e = .returned (numT (intR s).1 (intR s).2) ∧ Below w.heap.size w w' := by
  unfold maxLen at hs
  by_cases h1 : 20000 < s.size
  · have HF : Hid (intR s = (0, 2)) := intR_long h1
    go_enter Try.func9, Try.ntmps9
    go_wp2
    refine bodyPost_ret (v := numT 0 2) (by simp [numT, results, Try.results9, go_sem]) rfl ⟨by rw [HF.out], ?_⟩
    repeat (first | exact Below.refl _ _ | refine Below.setCell ?_ (by simp) _ | refine Below.alloc ?_ (by simp) _)
  by_cases h2 : s.size = 0 ∨ 8 < s.size
  · have HF : Hid (intR s = (0, 3)) := intR_size (by omega) h2
    have HB : Hid (∀ v : World, Calls Try.prog 24 #[.string s] v fun e w' => e = .returned (.tuple #[.int .i64 0, .bool false]) ∧ w' = v) := fun v => by
      clear HF
      rcases h2 with h2 | h2
      all_goals
        go_enter Try.func24, Try.ntmps24
        go_wp2
        go_ret2
        exact ⟨rfl, rfl⟩
    go_enter Try.func9, Try.ntmps9
    go_wp2_with fail
    refine (HB.out _).mono ?_
    rintro e w1 ⟨rfl, rfl⟩
    go_wp2
    refine bodyPost_ret (v := numT 0 3) (by simp [numT, results, Try.results9, go_sem]) rfl ⟨by rw [HF.out], ?_⟩
    repeat (first | exact Below.refl _ _ | refine Below.setCell ?_ (by simp) _ | refine Below.alloc ?_ (by simp) _)
  · by_cases h3 : strOfNums (intL (sv s s.size)) = s
    · have HF : Hid (intR s = (sv s s.size, 0)) := intR_good (by omega) (by omega) h3
      have HB : Hid (∀ v : World, Calls Try.prog 24 #[.string s] v fun e w' => e = .returned (.tuple #[.int .i64 (sv s s.size), .bool true]) ∧ Below v.heap.size v w') := fun v => by
        have := specIntOf s v (by omega) (by omega)
        rw [decide_eq_true h3] at this
        exact this
      generalize sv s s.size = x at *
      clear h3
      go_enter Try.func9, Try.ntmps9
      go_wp2_with fail
      refine (HB.out _).mono ?_
      rintro e w1 ⟨rfl, hb1⟩
      obtain ⟨hr, hB, _⟩ := resKeep (cs := [.int .i64 0, .int .i64 0, .int .i64 0]) (T := 25) hb1
      obtain ⟨⟨c0, c1, c2⟩, f0, f1, f2⟩ := row3 hr
      clear hb1 hr
      go_wp2
      refine bodyPost_ret (v := numT x 0) (by simp [numT, results, Try.results9, go_sem, c0, c1, c2]) rfl ⟨by rw [HF.out], ?_⟩
      repeat (first | exact hB | refine Below.setCell ?_ (by simp) _ | refine Below.alloc ?_ (by simp) _)
    · have HF : Hid (intR s = (0, 3)) := intR_bad (by omega) (by omega) h3
      have HB : Hid (∀ v : World, Calls Try.prog 24 #[.string s] v fun e w' => e = .returned (.tuple #[.int .i64 (sv s s.size), .bool false]) ∧ Below v.heap.size v w') := fun v => by
        have := specIntOf s v (by omega) (by omega)
        rw [decide_eq_false h3] at this
        exact this
      generalize sv s s.size = x at *
      clear h3
      go_enter Try.func9, Try.ntmps9
      go_wp2_with fail
      refine (HB.out _).mono ?_
      rintro e w1 ⟨rfl, hb1⟩
      obtain ⟨hr, hB, _⟩ := resKeep (cs := [.int .i64 0, .int .i64 0, .int .i64 0]) (T := 25) hb1
      obtain ⟨⟨c0, c1, c2⟩, f0, f1, f2⟩ := row3 hr
      clear hb1 hr
      go_wp2
      refine bodyPost_ret (v := numT 0 3) (by simp [numT, results, Try.results9, go_sem, c0, c1, c2]) rfl ⟨by rw [HF.out], ?_⟩
      repeat (first | exact hB | refine Below.setCell ?_ (by simp) _ | refine Below.alloc ?_ (by simp) _)
end Go.Proofs.Ytochmolhpcidgah
