/- spec.l05Get, walked. -/
import Derived.Test.YtochmolhpcidgahDoorDerSt
import Derived.Test.YtochmolhpcidgahDoorResK
import Derived.Deep.RegionHeld3
namespace Go.Proofs.YtochmolhpcidgahDoor
open Go.RowKit Go.Lib

theorem valEq {s : ByteArray} {t c f f' : Int} {F G F' G' : Nat} (h1 : F' = F) (h2 : G' = G) (h3 : f' = f) : Value.agg #[.int .i64 t, .string (s.extract F' G'), .int .i64 f', .int .i64 c] = GetR.val ⟨t, s.extract F G, f, c⟩ := by
  subst h1 h2 h3; rfl
section
variable (s : ByteArray) (k : Nat) (w : World)
set_option maxHeartbeats 1000000
set_option maxRecDepth 100000
theorem specGet_end (h1 : s.size ≤ k) :
    Calls Tryd.prog 13 #[.string s, .int .i64 (k : Int)] w fun e w' => e = .returned (getAt s k).val ∧ Below w.heap.size w w' := by
  have HF : Hid (getAt s k = .bad 4) := getAt_end h1
  go_enter Tryd.func13, Tryd.ntmps13
  go_wp2
  refine bodyPost_ret (v := GetR.val (.bad 4)) (by simp [GetR.val, GetR.bad, results, Tryd.results13, go_sem]) rfl ⟨by rw [HF.out], ?_⟩
  repeat (first | exact Below.refl _ _ | refine Below.drew ?_ | refine Below.setCell ?_ (by simp <;> omega) _ | refine Below.alloc ?_ (by simp <;> omega) _)
theorem specGet_tag (h1 : k < s.size) (ht : tagB (bN s k : Int) = false) :
    Calls Tryd.prog 13 #[.string s, .int .i64 (k : Int)] w fun e w' => e = .returned (getAt s k).val ∧ Below w.heap.size w w' := by
  have HF : Hid (getAt s k = .bad 3) := getAt_tag h1 ht
  have b0 := bN_eq s k h1
  have u0 := u8_lt s[k]
  have q0 : (k : Int) < (s.size : Int) := by omega
  rw [b0] at ht
  go_enter Tryd.func13, Tryd.ntmps13
  go_wp2_with fail
  refine (specTag _ _).mono ?_
  rintro e w' ⟨rfl, rfl⟩
  rw [ht]
  go_wp2
  refine bodyPost_ret (v := GetR.val (.bad 3)) (by simp [GetR.val, GetR.bad, results, Tryd.results13, go_sem]) rfl ⟨by rw [HF.out], ?_⟩
  repeat (first | exact Below.refl _ _ | refine Below.drew ?_ | refine Below.setCell ?_ (by simp <;> omega) _ | refine Below.alloc ?_ (by simp <;> omega) _)
theorem specGet_one (hs : s.size ≤ 20000) (h1 : s.size = k + 1) (ht : tagB (bN s k : Int) = true) :
    Calls Tryd.prog 13 #[.string s, .int .i64 (k : Int)] w fun e w' => e = .returned (getAt s k).val ∧ Below w.heap.size w w' := by
  have HF : Hid (getAt s k = .bad 4) := getAt_one h1 ht
  have b0 := bN_eq s k (by omega)
  have u0 := u8_lt (s[k]'(by omega))
  have q0 : (k : Int) < (s.size : Int) := by omega
  rw [b0] at ht
  go_enter Tryd.func13, Tryd.ntmps13
  go_wp2_with fail
  refine (specTag _ _).mono ?_
  rintro e w' ⟨rfl, rfl⟩
  rw [ht]
  go_wp2
  refine bodyPost_ret (v := GetR.val (.bad 4)) (by simp [GetR.val, GetR.bad, results, Tryd.results13, go_sem]) rfl ⟨by rw [HF.out], ?_⟩
  repeat (first | exact Below.refl _ _ | refine Below.drew ?_ | refine Below.setCell ?_ (by simp <;> omega) _ | refine Below.alloc ?_ (by simp <;> omega) _)
theorem specGet_low (hs : s.size ≤ 20000) (h1 : k + 1 < s.size) (ht : tagB (bN s k : Int) = true) (h2 : bN s (k + 1) < 128) :
    Calls Tryd.prog 13 #[.string s, .int .i64 (k : Int)] w fun e w' => e = .returned (getAt s k).val ∧ Below w.heap.size w w' := by
  have HG := getAt_low h1 ht h2
  have b0 := bN_eq s k (by omega)
  have b1 := bN_eq s (k + 1) h1
  have u0 := u8_lt (s[k]'(by omega))
  have u1 := u8_lt s[k + 1]
  have q0 : (k : Int) < (s.size : Int) := by omega
  rw [b0] at ht HG
  rw [b1] at h2 HG
  by_cases h3 : s.size < k + 2 + s[k + 1].toNat
  · have HF : Hid (getAt s k = .bad 4) := HG.trans (bodyAt_short h3)
    clear HG
    go_enter Tryd.func13, Tryd.ntmps13
    go_wp2_with fail
    refine (specTag _ _).mono ?_
    rintro e w' ⟨rfl, rfl⟩
    rw [ht]
    go_wp2
    refine bodyPost_ret (v := GetR.val (.bad 4)) (by simp [GetR.val, GetR.bad, results, Tryd.results13, go_sem]) rfl ⟨by rw [HF.out], ?_⟩
    repeat (first | exact Below.refl _ _ | refine Below.drew ?_ | refine Below.setCell ?_ (by simp <;> omega) _ | refine Below.alloc ?_ (by simp <;> omega) _)
  · have HF : Hid (getAt s k = _) := HG.trans (bodyAt_ok (by omega))
    clear HG
    go_enter Tryd.func13, Tryd.ntmps13
    go_wp2_with fail
    refine (specTag _ _).mono ?_
    rintro e w' ⟨rfl, rfl⟩
    rw [ht]
    go_wp2
    refine bodyPost_ret (v := .agg #[.int .i64 ((s[k]'(by omega)).toNat : Int), .string (s.extract (k + 2) (k + 2 + s[k + 1].toNat)), .int .i64 ((k : Int) + 2 + (s[k + 1].toNat : Int)), .int .i64 0]) (by simp [results, Tryd.results13, go_sem]) rfl ⟨by rw [HF.out]; exact congrArg Ending.returned (valEq (by omega) (by omega) (by omega)), ?_⟩
    repeat (first | exact Below.refl _ _ | refine Below.drew ?_ | refine Below.setCell ?_ (by simp <;> omega) _ | refine Below.alloc ?_ (by simp <;> omega) _)
theorem specGet_many (hs : s.size ≤ 20000) (h1 : k + 1 < s.size) (ht : tagB (bN s k : Int) = true) (h2 : 128 ≤ bN s (k + 1)) (h3 : bN s (k + 1) ≠ 129) (h4 : bN s (k + 1) ≠ 130) :
    Calls Tryd.prog 13 #[.string s, .int .i64 (k : Int)] w fun e w' => e = .returned (getAt s k).val ∧ Below w.heap.size w w' := by
  have HF : Hid (getAt s k = .bad 3) := getAt_many h1 ht h2 h3 h4
  have b0 := bN_eq s k (by omega)
  have b1 := bN_eq s (k + 1) h1
  have u0 := u8_lt (s[k]'(by omega))
  have u1 := u8_lt s[k + 1]
  have q0 : (k : Int) < (s.size : Int) := by omega
  rw [b0] at ht
  rw [b1] at h2 h3 h4
  have e1 : ((s[k + 1].toNat : Int) - 128 != 1) = true := by rw [bne_iff_ne]; omega
  have e2 : ((s[k + 1].toNat : Int) - 128 != 2) = true := by rw [bne_iff_ne]; omega
  go_enter Tryd.func13, Tryd.ntmps13
  go_wp2_with fail
  refine (specTag _ _).mono ?_
  rintro e w' ⟨rfl, rfl⟩
  rw [ht]
  go_wp2
  refine bodyPost_ret (v := GetR.val (.bad 3)) (by simp [GetR.val, GetR.bad, results, Tryd.results13, go_sem]) rfl ⟨by rw [HF.out], ?_⟩
  repeat (first | exact Below.refl _ _ | refine Below.drew ?_ | refine Below.setCell ?_ (by simp <;> omega) _ | refine Below.alloc ?_ (by simp <;> omega) _)
theorem specGet_129 (hs : s.size ≤ 20000) (h1 : k + 1 < s.size) (ht : tagB (bN s k : Int) = true) (h2 : bN s (k + 1) = 129) :
    Calls Tryd.prog 13 #[.string s, .int .i64 (k : Int)] w fun e w' => e = .returned (getAt s k).val ∧ Below w.heap.size w w' := by
  have HG := getAt_129 h1 ht h2
  have b0 := bN_eq s k (by omega)
  have b1 := bN_eq s (k + 1) h1
  have u0 := u8_lt (s[k]'(by omega))
  have q0 : (k : Int) < (s.size : Int) := by omega
  rw [b0] at ht HG
  rw [b1] at h2
  have e1 : (s[k + 1].toNat : Int) = 129 := by omega
  by_cases h3 : s.size ≤ k + 2
  · have HF : Hid (getAt s k = .bad 4) := HG.trans (if_pos h3)
    clear HG
    go_enter Tryd.func13, Tryd.ntmps13
    go_wp2_with fail
    refine (specTag _ _).mono ?_
    rintro e w' ⟨rfl, rfl⟩
    rw [ht]
    go_wp2
    refine bodyPost_ret (v := GetR.val (.bad 4)) (by simp [GetR.val, GetR.bad, results, Tryd.results13, go_sem]) rfl ⟨by rw [HF.out], ?_⟩
    repeat (first | exact Below.refl _ _ | refine Below.drew ?_ | refine Below.setCell ?_ (by simp <;> omega) _ | refine Below.alloc ?_ (by simp <;> omega) _)
  rw [if_neg h3] at HG
  have b2 := bN_eq s (k + 2) (by omega)
  have u2 := u8_lt (s[k + 2]'(by omega))
  rw [b2] at HG
  have q2 : (k : Int) + 2 < (s.size : Int) := by omega
  have q3 : (0 : Int) ≤ (k : Int) + 2 := by omega
  by_cases h4 : (s[k + 2]'(by omega)).toNat < 128
  · have HF : Hid (getAt s k = .bad 3) := HG.trans (if_pos h4)
    clear HG
    go_enter Tryd.func13, Tryd.ntmps13
    go_wp2_with fail
    refine (specTag _ _).mono ?_
    rintro e w' ⟨rfl, rfl⟩
    rw [ht]
    go_wp2_with fail
    refine wp_loop_rounds 2 ?_
    rw [rounds_succ]
    go_wp2
    rw [rounds_succ]
    go_wp2
    refine bodyPost_ret (v := GetR.val (.bad 3)) (by simp [GetR.val, GetR.bad, results, Tryd.results13, go_sem]) rfl ⟨by rw [HF.out], ?_⟩
    repeat (first | exact Below.refl _ _ | refine Below.drew ?_ | refine Below.setCell ?_ (by simp <;> omega) _ | refine Below.alloc ?_ (by simp <;> omega) _)
  rw [if_neg h4] at HG
  by_cases h5 : s.size < k + 3 + (s[k + 2]'(by omega)).toNat
  · have HF : Hid (getAt s k = .bad 4) := HG.trans (bodyAt_short h5)
    clear HG
    go_enter Tryd.func13, Tryd.ntmps13
    go_wp2_with fail
    refine (specTag _ _).mono ?_
    rintro e w' ⟨rfl, rfl⟩
    rw [ht]
    go_wp2_with fail
    refine wp_loop_rounds 2 ?_
    rw [rounds_succ]
    go_wp2
    rw [rounds_succ]
    go_wp2
    refine bodyPost_ret (v := GetR.val (.bad 4)) (by simp [GetR.val, GetR.bad, results, Tryd.results13, go_sem]) rfl ⟨by rw [HF.out], ?_⟩
    repeat (first | exact Below.refl _ _ | refine Below.drew ?_ | refine Below.setCell ?_ (by simp <;> omega) _ | refine Below.alloc ?_ (by simp <;> omega) _)
  · have HF : Hid (getAt s k = _) := HG.trans (bodyAt_ok (by omega))
    clear HG
    go_enter Tryd.func13, Tryd.ntmps13
    go_wp2_with fail
    refine (specTag _ _).mono ?_
    rintro e w' ⟨rfl, rfl⟩
    rw [ht]
    go_wp2_with fail
    refine wp_loop_rounds 2 ?_
    rw [rounds_succ]
    go_wp2
    rw [rounds_succ]
    go_wp2
    refine bodyPost_ret (v := .agg #[.int .i64 ((s[k]'(by omega)).toNat : Int), .string (s.extract (k + 2 + 1) (k + 2 + 1 + (s[k + 2]'(by omega)).toNat)), .int .i64 ((k : Int) + 2 + 1 + ((s[k + 2]'(by omega)).toNat : Int)), .int .i64 0]) (by simp [results, Tryd.results13, go_sem]) rfl ⟨by rw [HF.out]; exact congrArg Ending.returned (valEq (by omega) (by omega) (by omega)), ?_⟩
    repeat (first | exact Below.refl _ _ | refine Below.drew ?_ | refine Below.setCell ?_ (by simp <;> omega) _ | refine Below.alloc ?_ (by simp <;> omega) _)
end
end Go.Proofs.YtochmolhpcidgahDoor
