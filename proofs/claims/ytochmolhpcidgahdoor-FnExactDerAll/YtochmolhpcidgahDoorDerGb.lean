/- spec.l05Get at a length in two bytes, spec.DerGet, walked. -/
import Derived.Test.YtochmolhpcidgahDoorDerG
namespace Go.Proofs.YtochmolhpcidgahDoor
open Go.RowKit Go.Lib

set_option maxHeartbeats 2000000
set_option maxRecDepth 100000
theorem specGet_130 (s : ByteArray) (k : Nat) (w : World) (hs : s.size ≤ 20000) (h1 : k + 1 < s.size) (ht : tagB (bN s k : Int) = true) (h2 : bN s (k + 1) = 130) :
    Calls Tryd.prog 13 #[.string s, .int .i64 (k : Int)] w fun e w' => e = .returned (getAt s k).val ∧ Below w.heap.size w w' := by
  have HG := getAt_130 h1 ht h2
  have b0 := bN_eq s k (by omega)
  have b1 := bN_eq s (k + 1) h1
  have u0 := u8_lt (s[k]'(by omega))
  have q0 : (k : Int) < (s.size : Int) := by omega
  rw [b0] at ht HG
  rw [b1] at h2
  have e1 : (s[k + 1].toNat : Int) = 130 := by omega
  by_cases h3 : s.size ≤ k + 3
  · have HF : Hid (getAt s k = .bad 4) := HG.trans (if_pos h3)
    clear HG
    go_enter Tryd.func13, Tryd.ntmps13
    go_wp2_with fail
    refine (specTag _ _).mono ?_
    rintro e w' ⟨rfl, rfl⟩
    rw [ht]
    go_wp2
    refine bodyPost_ret (v := GetR.val (.bad 4)) (by simp [GetR.val, GetR.bad, results, Tryd.results13, go_sem]) rfl ⟨by rw [HF.out], ?_⟩
    repeat (first | exact Below.refl _ _ | refine Below.drew ?_ | refine Below.setCell ?_ (by simp <;> omega) _ | refine Below.alloc ?_ (by simp <;> omega) _)
  rw [if_neg h3] at HG
  have b2 := bN_eq s (k + 2) (by omega)
  have b3 : bN s (k + 3) = (s[k + 2 + 1]'(by omega)).toNat := bN_eq s (k + 2 + 1) (by omega)
  have u2 := u8_lt (s[k + 2]'(by omega))
  have u3 := u8_lt (s[k + 2 + 1]'(by omega))
  rw [b2, b3] at HG
  have q2 : (k : Int) + 2 < (s.size : Int) := by omega
  have q3 : (0 : Int) ≤ (k : Int) + 2 := by omega
  have q4 : (k : Int) + 2 + 1 < (s.size : Int) := by omega
  have q5 : (0 : Int) ≤ (k : Int) + 2 + 1 := by omega
  obtain ⟨m, hm⟩ : ∃ m : Nat, m = 256 * (s[k + 2]'(by omega)).toNat + (s[k + 2 + 1]'(by omega)).toNat := ⟨_, rfl⟩
  rw [← hm] at HG
  have HG2 : Hid _ := HG
  have HM : Hid (256 * ((s[k + 2]'(by omega)).toNat : Int) + ((s[k + 2 + 1]'(by omega)).toNat : Int) = (m : Int) ∧ m ≤ 65535) := ⟨by omega, by omega⟩
  clear HG hm b0 b1 b2 b3
  go_enter Tryd.func13, Tryd.ntmps13
  go_wp2_with fail
  refine (specTag _ _).mono ?_
  rintro e w' ⟨rfl, rfl⟩
  rw [ht]
  go_wp2_with fail
  refine wp_loop_rounds 3 ?_
  rw [rounds_succ]
  go_wp2
  rw [rounds_succ]
  go_wp2
  rw [HM.out.1]
  have hm2 := HM.out.2
  have HG := HG2.out
  clear HM HG2 u2 u3
  by_cases h4 : m < 256
  · have HF : Hid (getAt s k = .bad 3) := HG.trans (if_pos h4)
    clear HG
    rw [rounds_succ]
    go_wp2
    refine bodyPost_ret (v := GetR.val (.bad 3)) (by simp [GetR.val, GetR.bad, results, Tryd.results13, go_sem]) rfl ⟨by rw [HF.out], ?_⟩
    repeat (first | exact Below.refl _ _ | refine Below.drew ?_ | refine Below.setCell ?_ (by simp <;> omega) _ | refine Below.alloc ?_ (by simp <;> omega) _)
  rw [if_neg h4] at HG
  by_cases h6 : 4000 < m
  · have HF : Hid (getAt s k = .bad 3) := HG.trans (if_pos h6)
    clear HG
    rw [rounds_succ]
    go_wp2
    refine bodyPost_ret (v := GetR.val (.bad 3)) (by simp [GetR.val, GetR.bad, results, Tryd.results13, go_sem]) rfl ⟨by rw [HF.out], ?_⟩
    repeat (first | exact Below.refl _ _ | refine Below.drew ?_ | refine Below.setCell ?_ (by simp <;> omega) _ | refine Below.alloc ?_ (by simp <;> omega) _)
  rw [if_neg h6] at HG
  by_cases h5 : s.size < k + 4 + m
  · have HF : Hid (getAt s k = .bad 4) := HG.trans (bodyAt_short h5)
    clear HG
    rw [rounds_succ]
    go_wp2
    refine bodyPost_ret (v := GetR.val (.bad 4)) (by simp [GetR.val, GetR.bad, results, Tryd.results13, go_sem]) rfl ⟨by rw [HF.out], ?_⟩
    repeat (first | exact Below.refl _ _ | refine Below.drew ?_ | refine Below.setCell ?_ (by simp <;> omega) _ | refine Below.alloc ?_ (by simp <;> omega) _)
  · have HF : Hid (getAt s k = _) := HG.trans (bodyAt_ok (by omega))
    clear HG
    rw [rounds_succ]
    go_wp2
    refine bodyPost_ret (v := .agg #[.int .i64 ((s[k]'(by omega)).toNat : Int), .string (s.extract (k + 2 + 2) (k + 2 + 2 + m)), .int .i64 ((k : Int) + 2 + 2 + (m : Int)), .int .i64 0]) (by simp [results, Tryd.results13, go_sem]) rfl ⟨by rw [HF.out]; exact congrArg Ending.returned (valEq (by omega) (by omega) (by omega)), ?_⟩
    repeat (first | exact Below.refl _ _ | refine Below.drew ?_ | refine Below.setCell ?_ (by simp <;> omega) _ | refine Below.alloc ?_ (by simp <;> omega) _)
theorem specGetAt (s : ByteArray) (k : Nat) (w : World) (hs : s.size ≤ 20000) :
    Calls Tryd.prog 13 #[.string s, .int .i64 (k : Int)] w fun e w' => e = .returned (getAt s k).val ∧ Below w.heap.size w w' := by
  by_cases h1 : s.size ≤ k
  · exact specGet_end s k w h1
  cases ht : tagB (bN s k : Int) with
  | false => exact specGet_tag s k w (by omega) ht
  | true =>
    by_cases h2 : s.size = k + 1
    · exact specGet_one s k w hs h2 ht
    by_cases h3 : bN s (k + 1) < 128
    · exact specGet_low s k w hs (by omega) ht h3
    by_cases h4 : bN s (k + 1) = 129
    · exact specGet_129 s k w hs (by omega) ht h4
    by_cases h5 : bN s (k + 1) = 130
    · exact specGet_130 s k w hs (by omega) ht h5
    · exact specGet_many s k w hs (by omega) ht (by omega) h4 h5
end Go.Proofs.YtochmolhpcidgahDoor
