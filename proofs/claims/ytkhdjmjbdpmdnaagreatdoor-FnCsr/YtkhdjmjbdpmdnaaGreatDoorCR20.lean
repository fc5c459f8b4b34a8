/- spec.l05Get, walked. spec.l05Get at a length in two bytes, spec.DerGet, walked. A row of things of the call's own. spec.l05All, walked. A row of things in memory. spec's readers: what one is in memory; take, walked. -/
import Derived.Test.YtkhdjmjbdpmdnaaGreatDoorCR19
import Derived.Test.YtkhdjmjbdpmdnaaGreatDoorCR09
import Derived.Deep.RegionHeld3
import Derived.Test.YtkhdjmjbdpmdnaaGreatDoorCR01
import Derived.Test.YtkhdjmjbdpmdnaaGreatDoorCR16
import Derived.Test.YtkhdjmjbdpmdnaaGreatDoorCR17
import Derived.Test.YtkhdjmjbdpmdnaaGreatDoorCR04
namespace Go.Proofs.YtkhdjmjbdpmdnaaGreatDoor
open Go.RowKit Go.Lib

theorem valEq {s : ByteArray} {t c f f' : Int} {F G F' G' : Nat} (h1 : F' = F) (h2 : G' = G) (h3 : f' = f) : Value.agg #[.int .i64 t, .string (s.extract F' G'), .int .i64 f', .int .i64 c] = GetR.val ⟨t, s.extract F G, f, c⟩ := by
  subst h1 h2 h3; rfl
section
variable (s : ByteArray) (k : Nat) (w : World)
set_option maxHeartbeats 1000000
set_option maxRecDepth 100000
theorem specGet_end (h1 : s.size ≤ k) :
    Calls Tryz.prog 194 #[.string s, .int .i64 (k : Int)] w fun e w' => e = .returned (getAt s k).val ∧ Below w.heap.size w w' := by
  have HF : Hid (getAt s k = .bad 4) := getAt_end h1
  go_enter Tryz.func194, Tryz.ntmps194
  go_wp2
  refine bodyPost_ret (v := GetR.val (.bad 4)) (by simp [GetR.val, GetR.bad, results, Tryz.results194, go_sem]) rfl ⟨by rw [HF.out], ?_⟩
  repeat (first | exact Below.refl _ _ | refine Below.drew ?_ | refine Below.setCell ?_ (by simp <;> omega) _ | refine Below.alloc ?_ (by simp <;> omega) _)
theorem specGet_tag (h1 : k < s.size) (ht : tagB (bN s k : Int) = false) :
    Calls Tryz.prog 194 #[.string s, .int .i64 (k : Int)] w fun e w' => e = .returned (getAt s k).val ∧ Below w.heap.size w w' := by
  have HF : Hid (getAt s k = .bad 3) := getAt_tag h1 ht
  have b0 := bN_eq s k h1
  have u0 := u8_lt s[k]
  have q0 : (k : Int) < (s.size : Int) := by omega
  rw [b0] at ht
  go_enter Tryz.func194, Tryz.ntmps194
  go_wp2_with fail
  refine (specTag _ _).mono ?_
  rintro e w' ⟨rfl, rfl⟩
  rw [ht]
  go_wp2
  refine bodyPost_ret (v := GetR.val (.bad 3)) (by simp [GetR.val, GetR.bad, results, Tryz.results194, go_sem]) rfl ⟨by rw [HF.out], ?_⟩
  repeat (first | exact Below.refl _ _ | refine Below.drew ?_ | refine Below.setCell ?_ (by simp <;> omega) _ | refine Below.alloc ?_ (by simp <;> omega) _)
theorem specGet_one (hs : s.size ≤ 20000) (h1 : s.size = k + 1) (ht : tagB (bN s k : Int) = true) :
    Calls Tryz.prog 194 #[.string s, .int .i64 (k : Int)] w fun e w' => e = .returned (getAt s k).val ∧ Below w.heap.size w w' := by
  have HF : Hid (getAt s k = .bad 4) := getAt_one h1 ht
  have b0 := bN_eq s k (by omega)
  have u0 := u8_lt (s[k]'(by omega))
  have q0 : (k : Int) < (s.size : Int) := by omega
  rw [b0] at ht
  go_enter Tryz.func194, Tryz.ntmps194
  go_wp2_with fail
  refine (specTag _ _).mono ?_
  rintro e w' ⟨rfl, rfl⟩
  rw [ht]
  go_wp2
  refine bodyPost_ret (v := GetR.val (.bad 4)) (by simp [GetR.val, GetR.bad, results, Tryz.results194, go_sem]) rfl ⟨by rw [HF.out], ?_⟩
  repeat (first | exact Below.refl _ _ | refine Below.drew ?_ | refine Below.setCell ?_ (by simp <;> omega) _ | refine Below.alloc ?_ (by simp <;> omega) _)
theorem specGet_low (hs : s.size ≤ 20000) (h1 : k + 1 < s.size) (ht : tagB (bN s k : Int) = true) (h2 : bN s (k + 1) < 128) :
    Calls Tryz.prog 194 #[.string s, .int .i64 (k : Int)] w fun e w' => e = .returned (getAt s k).val ∧ Below w.heap.size w w' := by
  have HG := getAt_low h1 ht h2
  have b0 := bN_eq s k (by omega)
  have b1 := bN_eq s (k + 1) h1
  have u0 := u8_lt (s[k]'(by omega))
  have u1 := u8_lt s[k + 1]
  have q0 : (k : Int) < (s.size : Int) := by omega
  rw [b0] at ht HG
  rw [b1] at h2 HG
  by_cases h3 : s.size < k + 2 + s[k + 1].toNat
  · have HF : Hid (getAt s k = .bad 4) := HG.trans (bodyAt_short h3)
    clear HG
    go_enter Tryz.func194, Tryz.ntmps194
    go_wp2_with fail
    refine (specTag _ _).mono ?_
    rintro e w' ⟨rfl, rfl⟩
    rw [ht]
    go_wp2
    refine bodyPost_ret (v := GetR.val (.bad 4)) (by simp [GetR.val, GetR.bad, results, Tryz.results194, go_sem]) rfl ⟨by rw [HF.out], ?_⟩
    repeat (first | exact Below.refl _ _ | refine Below.drew ?_ | refine Below.setCell ?_ (by simp <;> omega) _ | refine Below.alloc ?_ (by simp <;> omega) _)
  · have HF : Hid (getAt s k = _) := HG.trans (bodyAt_ok (by omega))
    clear HG
    go_enter Tryz.func194, Tryz.ntmps194
    go_wp2_with fail
    refine (specTag _ _).mono ?_
    rintro e w' ⟨rfl, rfl⟩
    rw [ht]
    go_wp2
    refine bodyPost_ret (v := .agg #[.int .i64 ((s[k]'(by omega)).toNat : Int), .string (s.extract (k + 2) (k + 2 + s[k + 1].toNat)), .int .i64 ((k : Int) + 2 + (s[k + 1].toNat : Int)), .int .i64 0]) (by simp [results, Tryz.results194, go_sem]) rfl ⟨by rw [HF.out]; exact congrArg Ending.returned (valEq (by omega) (by omega) (by omega)), ?_⟩
    repeat (first | exact Below.refl _ _ | refine Below.drew ?_ | refine Below.setCell ?_ (by simp <;> omega) _ | refine Below.alloc ?_ (by simp <;> omega) _)
theorem specGet_many (hs : s.size ≤ 20000) (h1 : k + 1 < s.size) (ht : tagB (bN s k : Int) = true) (h2 : 128 ≤ bN s (k + 1)) (h3 : bN s (k + 1) ≠ 129) (h4 : bN s (k + 1) ≠ 130) :
    Calls Tryz.prog 194 #[.string s, .int .i64 (k : Int)] w fun e w' => e = .returned (getAt s k).val ∧ Below w.heap.size w w' := by
  have HF : Hid (getAt s k = .bad 3) := getAt_many h1 ht h2 h3 h4
  have b0 := bN_eq s k (by omega)
  have b1 := bN_eq s (k + 1) h1
  have u0 := u8_lt (s[k]'(by omega))
  have u1 := u8_lt s[k + 1]
  have q0 : (k : Int) < (s.size : Int) := by omega
  rw [b0] at ht
  rw [b1] at h2 h3 h4
  have e1 : ((s[k + 1].toNat : Int) - 128 != 1) = true := by rw [bne_iff_ne]; omega
  have e2 : ((s[k + 1].toNat : Int) - 128 != 2) = true := by rw [bne_iff_ne]; omega
  go_enter Tryz.func194, Tryz.ntmps194
  go_wp2_with fail
  refine (specTag _ _).mono ?_
  rintro e w' ⟨rfl, rfl⟩
  rw [ht]
  go_wp2
  refine bodyPost_ret (v := GetR.val (.bad 3)) (by simp [GetR.val, GetR.bad, results, Tryz.results194, go_sem]) rfl ⟨by rw [HF.out], ?_⟩
  repeat (first | exact Below.refl _ _ | refine Below.drew ?_ | refine Below.setCell ?_ (by simp <;> omega) _ | refine Below.alloc ?_ (by simp <;> omega) _)
theorem specGet_129 (hs : s.size ≤ 20000) (h1 : k + 1 < s.size) (ht : tagB (bN s k : Int) = true) (h2 : bN s (k + 1) = 129) :
    Calls Tryz.prog 194 #[.string s, .int .i64 (k : Int)] w fun e w' => e = .returned (getAt s k).val ∧ Below w.heap.size w w' := by
  have HG := getAt_129 h1 ht h2
  have b0 := bN_eq s k (by omega)
  have b1 := bN_eq s (k + 1) h1
  have u0 := u8_lt (s[k]'(by omega))
  have q0 : (k : Int) < (s.size : Int) := by omega
  rw [b0] at ht HG
  rw [b1] at h2
  have e1 : (s[k + 1].toNat : Int) = 129 := by omega
  by_cases h3 : s.size ≤ k + 2
  · have HF : Hid (getAt s k = .bad 4) := HG.trans (if_pos h3)
    clear HG
    go_enter Tryz.func194, Tryz.ntmps194
    go_wp2_with fail
    refine (specTag _ _).mono ?_
    rintro e w' ⟨rfl, rfl⟩
    rw [ht]
    go_wp2
    refine bodyPost_ret (v := GetR.val (.bad 4)) (by simp [GetR.val, GetR.bad, results, Tryz.results194, go_sem]) rfl ⟨by rw [HF.out], ?_⟩
    repeat (first | exact Below.refl _ _ | refine Below.drew ?_ | refine Below.setCell ?_ (by simp <;> omega) _ | refine Below.alloc ?_ (by simp <;> omega) _)
  rw [if_neg h3] at HG
  have b2 := bN_eq s (k + 2) (by omega)
  have u2 := u8_lt (s[k + 2]'(by omega))
  rw [b2] at HG
  have q2 : (k : Int) + 2 < (s.size : Int) := by omega
  have q3 : (0 : Int) ≤ (k : Int) + 2 := by omega
  by_cases h4 : (s[k + 2]'(by omega)).toNat < 128
  · have HF : Hid (getAt s k = .bad 3) := HG.trans (if_pos h4)
    clear HG
    go_enter Tryz.func194, Tryz.ntmps194
    go_wp2_with fail
    refine (specTag _ _).mono ?_
    rintro e w' ⟨rfl, rfl⟩
    rw [ht]
    go_wp2_with fail
    refine wp_loop_rounds 2 ?_
    rw [rounds_succ]
    go_wp2
    rw [rounds_succ]
    go_wp2
    refine bodyPost_ret (v := GetR.val (.bad 3)) (by simp [GetR.val, GetR.bad, results, Tryz.results194, go_sem]) rfl ⟨by rw [HF.out], ?_⟩
    repeat (first | exact Below.refl _ _ | refine Below.drew ?_ | refine Below.setCell ?_ (by simp <;> omega) _ | refine Below.alloc ?_ (by simp <;> omega) _)
  rw [if_neg h4] at HG
  by_cases h5 : s.size < k + 3 + (s[k + 2]'(by omega)).toNat
  · have HF : Hid (getAt s k = .bad 4) := HG.trans (bodyAt_short h5)
    clear HG
    go_enter Tryz.func194, Tryz.ntmps194
    go_wp2_with fail
    refine (specTag _ _).mono ?_
    rintro e w' ⟨rfl, rfl⟩
    rw [ht]
    go_wp2_with fail
    refine wp_loop_rounds 2 ?_
    rw [rounds_succ]
    go_wp2
    rw [rounds_succ]
    go_wp2
    refine bodyPost_ret (v := GetR.val (.bad 4)) (by simp [GetR.val, GetR.bad, results, Tryz.results194, go_sem]) rfl ⟨by rw [HF.out], ?_⟩
    repeat (first | exact Below.refl _ _ | refine Below.drew ?_ | refine Below.setCell ?_ (by simp <;> omega) _ | refine Below.alloc ?_ (by simp <;> omega) _)
  · have HF : Hid (getAt s k = _) := HG.trans (bodyAt_ok (by omega))
    clear HG
    go_enter Tryz.func194, Tryz.ntmps194
    go_wp2_with fail
    refine (specTag _ _).mono ?_
    rintro e w' ⟨rfl, rfl⟩
    rw [ht]
    go_wp2_with fail
    refine wp_loop_rounds 2 ?_
    rw [rounds_succ]
    go_wp2
    rw [rounds_succ]
    go_wp2
    refine bodyPost_ret (v := .agg #[.int .i64 ((s[k]'(by omega)).toNat : Int), .string (s.extract (k + 2 + 1) (k + 2 + 1 + (s[k + 2]'(by omega)).toNat)), .int .i64 ((k : Int) + 2 + 1 + ((s[k + 2]'(by omega)).toNat : Int)), .int .i64 0]) (by simp [results, Tryz.results194, go_sem]) rfl ⟨by rw [HF.out]; exact congrArg Ending.returned (valEq (by omega) (by omega) (by omega)), ?_⟩
    repeat (first | exact Below.refl _ _ | refine Below.drew ?_ | refine Below.setCell ?_ (by simp <;> omega) _ | refine Below.alloc ?_ (by simp <;> omega) _)
end
end Go.Proofs.YtkhdjmjbdpmdnaaGreatDoor
namespace Go.Proofs.YtkhdjmjbdpmdnaaGreatDoor
open Go.RowKit Go.Lib

set_option maxHeartbeats 2000000
set_option maxRecDepth 100000
theorem specGet_130 (s : ByteArray) (k : Nat) (w : World) (hs : s.size ≤ 20000) (h1 : k + 1 < s.size) (ht : tagB (bN s k : Int) = true) (h2 : bN s (k + 1) = 130) :
    Calls Tryz.prog 194 #[.string s, .int .i64 (k : Int)] w fun e w' => e = .returned (getAt s k).val ∧ Below w.heap.size w w' := by
  have HG := getAt_130 h1 ht h2
  have b0 := bN_eq s k (by omega)
  have b1 := bN_eq s (k + 1) h1
  have u0 := u8_lt (s[k]'(by omega))
  have q0 : (k : Int) < (s.size : Int) := by omega
  rw [b0] at ht HG
  rw [b1] at h2
  have e1 : (s[k + 1].toNat : Int) = 130 := by omega
  by_cases h3 : s.size ≤ k + 3
  · have HF : Hid (getAt s k = .bad 4) := HG.trans (if_pos h3)
    clear HG
    go_enter Tryz.func194, Tryz.ntmps194
    go_wp2_with fail
    refine (specTag _ _).mono ?_
    rintro e w' ⟨rfl, rfl⟩
    rw [ht]
    go_wp2
    refine bodyPost_ret (v := GetR.val (.bad 4)) (by simp [GetR.val, GetR.bad, results, Tryz.results194, go_sem]) rfl ⟨by rw [HF.out], ?_⟩
    repeat (first | exact Below.refl _ _ | refine Below.drew ?_ | refine Below.setCell ?_ (by simp <;> omega) _ | refine Below.alloc ?_ (by simp <;> omega) _)
  rw [if_neg h3] at HG
  have b2 := bN_eq s (k + 2) (by omega)
  have b3 : bN s (k + 3) = (s[k + 2 + 1]'(by omega)).toNat := bN_eq s (k + 2 + 1) (by omega)
  have u2 := u8_lt (s[k + 2]'(by omega))
  have u3 := u8_lt (s[k + 2 + 1]'(by omega))
  rw [b2, b3] at HG
  have q2 : (k : Int) + 2 < (s.size : Int) := by omega
  have q3 : (0 : Int) ≤ (k : Int) + 2 := by omega
  have q4 : (k : Int) + 2 + 1 < (s.size : Int) := by omega
  have q5 : (0 : Int) ≤ (k : Int) + 2 + 1 := by omega
  obtain ⟨m, hm⟩ : ∃ m : Nat, m = 256 * (s[k + 2]'(by omega)).toNat + (s[k + 2 + 1]'(by omega)).toNat := ⟨_, rfl⟩
  rw [← hm] at HG
  have HG2 : Hid _ := HG
  have HM : Hid (256 * ((s[k + 2]'(by omega)).toNat : Int) + ((s[k + 2 + 1]'(by omega)).toNat : Int) = (m : Int) ∧ m ≤ 65535) := ⟨by omega, by omega⟩
  clear HG hm b0 b1 b2 b3
  go_enter Tryz.func194, Tryz.ntmps194
  go_wp2_with fail
  refine (specTag _ _).mono ?_
  rintro e w' ⟨rfl, rfl⟩
  rw [ht]
  go_wp2_with fail
  refine wp_loop_rounds 3 ?_
  rw [rounds_succ]
  go_wp2
  rw [rounds_succ]
  go_wp2
  rw [HM.out.1]
  have hm2 := HM.out.2
  have HG := HG2.out
  clear HM HG2 u2 u3
  by_cases h4 : m < 256
  · have HF : Hid (getAt s k = .bad 3) := HG.trans (if_pos h4)
    clear HG
    rw [rounds_succ]
    go_wp2
    refine bodyPost_ret (v := GetR.val (.bad 3)) (by simp [GetR.val, GetR.bad, results, Tryz.results194, go_sem]) rfl ⟨by rw [HF.out], ?_⟩
    repeat (first | exact Below.refl _ _ | refine Below.drew ?_ | refine Below.setCell ?_ (by simp <;> omega) _ | refine Below.alloc ?_ (by simp <;> omega) _)
  rw [if_neg h4] at HG
  by_cases h6 : 4000 < m
  · have HF : Hid (getAt s k = .bad 3) := HG.trans (if_pos h6)
    clear HG
    rw [rounds_succ]
    go_wp2
    refine bodyPost_ret (v := GetR.val (.bad 3)) (by simp [GetR.val, GetR.bad, results, Tryz.results194, go_sem]) rfl ⟨by rw [HF.out], ?_⟩
    repeat (first | exact Below.refl _ _ | refine Below.drew ?_ | refine Below.setCell ?_ (by simp <;> omega) _ | refine Below.alloc ?_ (by simp <;> omega) _)
  rw [if_neg h6] at HG
  by_cases h5 : s.size < k + 4 + m
  · have HF : Hid (getAt s k = .bad 4) := HG.trans (bodyAt_short h5)
    clear HG
    rw [rounds_succ]
    go_wp2
    refine bodyPost_ret (v := GetR.val (.bad 4)) (by simp [GetR.val, GetR.bad, results, Tryz.results194, go_sem]) rfl ⟨by rw [HF.out], ?_⟩
    repeat (first | exact Below.refl _ _ | refine Below.drew ?_ | refine Below.setCell ?_ (by simp <;> omega) _ | refine Below.alloc ?_ (by simp <;> omega) _)
  · have HF : Hid (getAt s k = _) := HG.trans (bodyAt_ok (by omega))
    clear HG
    rw [rounds_succ]
    go_wp2
    refine bodyPost_ret (v := .agg #[.int .i64 ((s[k]'(by omega)).toNat : Int), .string (s.extract (k + 2 + 2) (k + 2 + 2 + m)), .int .i64 ((k : Int) + 2 + 2 + (m : Int)), .int .i64 0]) (by simp [results, Tryz.results194, go_sem]) rfl ⟨by rw [HF.out]; exact congrArg Ending.returned (valEq (by omega) (by omega) (by omega)), ?_⟩
    repeat (first | exact Below.refl _ _ | refine Below.drew ?_ | refine Below.setCell ?_ (by simp <;> omega) _ | refine Below.alloc ?_ (by simp <;> omega) _)
theorem specGetAt (s : ByteArray) (k : Nat) (w : World) (hs : s.size ≤ 20000) :
    Calls Tryz.prog 194 #[.string s, .int .i64 (k : Int)] w fun e w' => e = .returned (getAt s k).val ∧ Below w.heap.size w w' := by
  by_cases h1 : s.size ≤ k
  · exact specGet_end s k w h1
  cases ht : tagB (bN s k : Int) with
  | false => exact specGet_tag s k w (by omega) ht
  | true =>
    by_cases h2 : s.size = k + 1
    · exact specGet_one s k w hs h2 ht
    by_cases h3 : bN s (k + 1) < 128
    · exact specGet_low s k w hs (by omega) ht h3
    by_cases h4 : bN s (k + 1) = 129
    · exact specGet_129 s k w hs (by omega) ht h4
    by_cases h5 : bN s (k + 1) = 130
    · exact specGet_130 s k w hs (by omega) ht h5
    · exact specGet_many s k w hs (by omega) ht (by omega) h4 h5
end Go.Proofs.YtkhdjmjbdpmdnaaGreatDoor
namespace Go.Proofs.YtkhdjmjbdpmdnaaGreatDoor
open Go.RowKit

theorem infoTlv : (Tryz.prog.info? 157).map (fun i => (i.zero, i.size, i.bytes)) = some (some (.agg #[.int .i64 0, .string ⟨#[]⟩]), 2, 24) := by kernel_rfl
/-- A row of things of the call's own. -/
def OwnT (w : World) (B : Nat) (v : Value) (l : List (Int × ByteArray)) : Prop := w.ownsRow B 157 2 v l.length (tCells l)
theorem OwnT.keep {w w' : World} {B : Nat} {v : Value} {l : List (Int × ByteArray)} (h : OwnT w B v l) (hb : Below w.heap.size w w') : OwnT w' B v l := by
  refine ⟨h.1, ?_⟩
  rcases h.2 with h | ⟨g, cap, cur, e, h1, h2, h3⟩
  · exact .inl h
  · exact .inr ⟨g, cap, cur, e, h1, by rw [hb.block g (heap_lt h2)]; exact h2, h3⟩
theorem OwnT.mono {w : World} {B B' : Nat} {v : Value} {l : List (Int × ByteArray)} (h : OwnT w B v l) (hB : B' ≤ B) : OwnT w B' v l := by
  refine ⟨h.1, ?_⟩
  rcases h.2 with h | ⟨g, cap, cur, e, h1, h3⟩
  · exact .inl h
  · exact .inr ⟨g, cap, cur, e, Nat.le_trans hB h1, h3⟩
theorem OwnT.other {w : World} {B b o : Nat} {v u : Value} {l : List (Int × ByteArray)} (h : OwnT w B v l) (hb : b < B) : OwnT (w.setCell ⟨b, o, none⟩ u) B v l := by
  refine ⟨h.1, ?_⟩
  rcases h.2 with h | ⟨g, cap, cur, e, h1, h2, h3⟩
  · exact .inl h
  · exact .inr ⟨g, cap, cur, e, h1, by rw [heap_setCell_other _ _ _ _ (by show g ≠ b; omega)]; exact h2, h3⟩
theorem OwnT.form {w : World} {B : Nat} {v : Value} {l : List (Int × ByteArray)} (h : OwnT w B v l) : ∃ a c, v = .slice a l.length c := by
  rcases h.2 with ⟨h, h'⟩ | ⟨g, cap, _, e, _⟩
  · exact ⟨none, 0, by rw [h']; exact h⟩
  · exact ⟨_, _, e⟩
theorem ownT_nil (w : World) (B : Nat) : OwnT w B (.slice none 0 0) [] := ⟨rfl, .inl ⟨rfl, rfl⟩⟩
end Go.Proofs.YtkhdjmjbdpmdnaaGreatDoor
namespace Go.Proofs.YtkhdjmjbdpmdnaaGreatDoor
open Go.RowKit

set_option maxHeartbeats 2000000 in
set_option maxRecDepth 100000 in
theorem specAll (s : ByteArray) (w : World) (hs : s.size ≤ 20000) :
    Calls Tryz.prog 160 #[.string s] w fun e w' => ∃ v, e = .returned (.agg #[v, .int .i64 (allR s (s.size + 1) 0 []).2]) ∧ OwnT w' w.heap.size v (allR s (s.size + 1) 0 []).1 ∧ Below w.heap.size w w' := by
  obtain ⟨i0, hi, hz0, hz1, hz2⟩ := info_parts infoTlv
  obtain ⟨R, hR⟩ : ∃ R, R = allR s (s.size + 1) 0 [] := ⟨_, rfl⟩
  rw [← hR]
  have HR : Hid (R = allR s (s.size + 1) 0 []) := hR
  clear hR
  go_enter Tryz.func160, Tryz.ntmps160
  go_wp2_with fail
  go_loopw [4] (fun a wr => ∃ (k f : Nat) (acc : List (Int × ByteArray)) (v : Value), a = .int .i64 (k : Int) ∧ k ≤ s.size ∧ s.size < k + f ∧ acc.length ≤ 60 ∧ allR s f k acc = R ∧
      wr.heap[w.heap.size]? = some (.cells [.slice none 0 0, .int .i64 0].toArray 138 (0, 0)) ∧ wr.heap[w.heap.size + 1]? = some (.cells [v, .int .i64 0].toArray 138 (0, 0)) ∧
      OwnT wr (w.heap.size + 2) v acc ∧ Below w.heap.size w wr ∧ w.heap.size + 2 ≤ wr.heap.size)
    (fun a _ => s.size - (intOf a).toNat)
  case atStart =>
    refine ⟨0, s.size + 1, [], .slice none 0 0, rfl, Nat.zero_le _, by omega, by simp, HR.out.symm, ?_, heap_alloc2 w _ _, ⟨rfl, .inl ⟨rfl, rfl⟩⟩, ((Below.refl _ _).alloc (Nat.le_refl _) _).alloc (by simp) _, by simp⟩
    rw [Below.heap_alloc _ _ _ (by simp)]
    exact heap_alloc_new w _
  case round =>
    obtain ⟨k, f, acc, v, rfl, hk, hf, hacc, hall, hr0, hr1, hown, hbel, hsz⟩ := hrel
    have HAll : Hid (allR s f k acc = R) := hall
    have HR0 : Hid (wr.heap[w.heap.size]? = some (.cells [.slice none 0 0, .int .i64 0].toArray 138 (0, 0))) := hr0
    have HR1 : Hid (wr.heap[w.heap.size + 1]? = some (.cells [v, .int .i64 0].toArray 138 (0, 0))) := hr1
    have HO : Hid (OwnT wr (w.heap.size + 2) v acc) := hown
    have HB : Hid (Below w.heap.size w wr) := hbel
    clear hall hr0 hr1 hown hbel HR
    by_cases hlt : k < s.size
    · have HG : Hid (∀ V : World, Calls Tryz.prog 194 #[.string s, .int .i64 (k : Int)] V fun e w' => e = .returned (getAt s k).val ∧ Below V.heap.size V w') := fun V => specGetAt s k V hs
      have HAt : Hid ((getAt s k).code = 0 → k + 2 ≤ (getAt s k).at'.toNat ∧ (getAt s k).at'.toNat ≤ s.size ∧ 0 ≤ (getAt s k).at') := getAt_at
      obtain ⟨f', rfl⟩ : ∃ f', f = f' + 1 := ⟨f - 1, by omega⟩
      have HBad : Hid ((getAt s k).code ≠ 0 → R = ([], (getAt s k).code)) := fun h => by rw [← HAll.out, allR_bad hlt h]
      have HFull : Hid ((getAt s k).code = 0 → 60 ≤ acc.length → R = ([], 11)) := fun h h' => by rw [← HAll.out, allR_full hlt h h']
      have HMore : Hid ((getAt s k).code = 0 → acc.length < 60 → allR s f' (getAt s k).at'.toNat (acc ++ [((getAt s k).tag, (getAt s k).body)]) = R) := fun h h' => by rw [← HAll.out, allR_more hlt h h']
      generalize getAt s k = g at *
      obtain ⟨g0, g1, g2, g3⟩ := g
      clear HAll
      unfold GetR.val at HG
      simp only at HG HAt HBad HFull HMore
      go_wp2_with fail
      refine (HG.out _).mono ?_
      rintro e w1 ⟨rfl, hb1⟩
      have HB1 : Hid (Below w.heap.size w w1) := HB.out.trans (hb1.mono (by omega))
      have hs1 := hb1.size
      have HX0 : Hid (w1.heap[w.heap.size]? = some (.cells [.slice none 0 0, .int .i64 0].toArray 138 (0, 0))) := by show _ = _; rw [hb1.block _ (by omega)]; exact HR0.out
      have HX1 : Hid (w1.heap[w.heap.size + 1]? = some (.cells [v, .int .i64 0].toArray 138 (0, 0))) := by show _ = _; rw [hb1.block _ (by omega)]; exact HR1.out
      have HO1 : Hid (OwnT w1 (w.heap.size + 2) v acc) := OwnT.keep HO.out hb1
      clear hb1 HR0 HR1 HO HB HG
      obtain ⟨⟨c0, c1⟩, f0, f1⟩ := cells2 HX0.out
      obtain ⟨⟨d0, d1⟩, e0, e1⟩ := cells2 HX1.out
      have hl0 : w.heap.size < w1.heap.size := by omega
      have hl1 : w.heap.size + 1 < w1.heap.size := by omega
      by_cases hc : g3 = 0
      rotate_left
      · have HF : Hid (R = ([], g3)) := HBad.out hc
        have ec : (g3 != 0) = true := by rw [bne_iff_ne]; exact hc
        clear hc d0 d1 e0 e1
        go_wp2_with fail
        refine bodyPost_ret (v := .agg #[.slice none 0 0, .int .i64 g3]) (by simp [results, Tryz.results160, go_sem, c0, c1, hl0]) rfl ⟨.slice none 0 0, ?_, ?_, ?_⟩
        · rw [HF.out]
        · rw [HF.out]; exact ownT_nil _ _
        · repeat (first | exact HB1.out | refine Below.setCell ?_ (by simp) _ | refine Below.alloc ?_ (by simp <;> omega) _)
      obtain ⟨at1, at2, at3⟩ := HAt.out hc
      obtain ⟨va, vc, hv⟩ := OwnT.form HO1.out
      by_cases h60 : 60 ≤ acc.length
      · have HF : Hid (R = ([], 11)) := HFull.out hc h60
        subst hv
        subst hc
        go_wp2_with fail
        refine bodyPost_ret (v := .agg #[.slice none 0 0, .int .i64 11]) (by simp [results, Tryz.results160, go_sem, c0, c1, hl0]) rfl ⟨.slice none 0 0, ?_, ?_, ?_⟩
        · rw [HF.out]
        · rw [HF.out]; exact ownT_nil _ _
        · repeat (first | exact HB1.out | refine Below.setCell ?_ (by simp) _ | refine Below.alloc ?_ (by simp <;> omega) _)
      · have HF := HMore.out hc (by omega)
        have HF : Hid (allR s f' g2.toNat (acc ++ [(g0, g1)]) = R) := HF
        obtain ⟨m, rfl⟩ := Int.eq_ofNat_of_zero_le at3
        subst hv
        subst hc
        clear HMore HFull HBad HAt f0 f1 c0 c1
        have hO : w1.ownsRow (w.heap.size + 2) 157 2 (.slice va acc.length vc) acc.length (tCells acc) := HO1.out
        go_wp2_with (at_builtin; refine wpList_append_own _ rfl _ _ 112 rfl (w.heap.size + 2) 157 i0 (.agg #[.int .i64 0, .string ⟨#[]⟩]) 2 24 Tryz.underlying112 hi hz0 hz1 hz2 rfl (by decide) _ _ _ rfl ((hO.alloc _).alloc _) ⟨w1.heap.size + 1, 0, none⟩ 1 1 [.int .i64 g0, .string g1] rfl rfl ?c1 ?c2 ?c3 ?c4 ?c5 ?_)
        case c1 =>
          intro j u hj
          rw [Addr.add_lit, Nat.zero_add]
          exact rowFacts (cs := [.int .i64 g0, .string g1]) (heap_alloc2 w1 _ _) j u hj
        case c2 => intro u hu; simp at hu; rcases hu with rfl | rfl <;> rfl
        case c3 => unfold maxLen; omega
        case c4 => omega
        case c5 => simp; omega
        intro v' w2 hown' hgrow _
        have hlt2 := fun k hk => hO.lt k hk
        have hB2 : Below w.heap.size w w2 := ((HB1.out.alloc (by omega) _).alloc (by simp; omega) _).grown hgrow (by simp; omega) (fun k hk => by have := (hlt2 k hk).1; omega)
        have hs2 : w1.heap.size + 2 ≤ w2.heap.size := by have := hgrow.size; simp at this; omega
        have HY0 : Hid (w2.heap[w.heap.size]? = some (.cells [.slice none 0 0, .int .i64 0].toArray 138 (0, 0))) := by
          show _ = _
          rw [hgrow.block _ (by simp; omega) (fun e => by have := (hlt2 _ e.symm).1; omega), Below.heap_alloc _ _ _ (by simp; omega), Below.heap_alloc _ _ _ hl0]
          exact HX0.out
        have HY1 : Hid (w2.heap[w.heap.size + 1]? = some (.cells [.slice va acc.length vc, .int .i64 0].toArray 138 (0, 0))) := by
          show _ = _
          rw [hgrow.block _ (by simp; omega) (fun e => by have := (hlt2 _ e.symm).1; omega), Below.heap_alloc _ _ _ (by simp; omega), Below.heap_alloc _ _ _ hl1]
          exact HX1.out
        have hx2 : w2.cell? ⟨w1.heap.size, 2, none⟩ = some (.int .i64 (m : Int)) := by
          have hr : w2.heap[w1.heap.size]? = some (.cells [.int .i64 g0, .string g1, .int .i64 (m : Int), .int .i64 0].toArray 185 (0, 0)) := by
            rw [hgrow.block _ (by simp; omega) (fun e => by have := (hlt2 _ e.symm).2; omega), Below.heap_alloc _ _ _ (by simp)]
            exact heap_alloc_new w1 _
          exact rowFacts hr 2 _ rfl
        have HO2 : Hid (OwnT w2 (w.heap.size + 2) v' (acc ++ [(g0, g1)])) := by
          show World.ownsRow _ _ _ _ _ _ _
          rw [tCells_snoc, List.length_append]
          exact hown'
        obtain ⟨va', vc', hv'⟩ := OwnT.form HO2.out
        rw [List.length_append, List.length_singleton] at hv'
        subst hv'
        obtain ⟨⟨d0', d1'⟩, e0', e1'⟩ := cells2 HY1.out
        have HB2 : Hid (Below w.heap.size w w2) := hB2
        clear hown' hgrow hlt2 hB2 hO d0 d1 e0 e1
        go_wp2_with fail
        go_roundw
        case rel =>
          refine ⟨m, f', acc ++ [(g0, g1)], _, rfl, at2, by omega, by simp; omega, HF.out, ?_, rowSet _ HY1.out, OwnT.other HO2.out (by omega), HB2.out.setCell (by simp) _, by simp; omega⟩
          rw [heap_setCell_other _ _ _ _ (by simp)]
          exact HY0.out
        case measure => simp [intOf]; omega
    · have HF : Hid (R = (acc, 0)) := by
        show _ = _
        rw [← HAll.out, allR_end (by omega)]
      obtain ⟨⟨c0, c1⟩, f0, f1⟩ := cells2 HR0.out
      obtain ⟨⟨d0, d1⟩, e0, e1⟩ := cells2 HR1.out
      obtain ⟨va, vc, rfl⟩ := OwnT.form HO.out
      go_wp2_with fail
      refine bodyPost_ret (v := .agg #[.slice va acc.length vc, .int .i64 0]) (by simp [results, Tryz.results160, go_sem, c0, c1]) rfl ⟨.slice va acc.length vc, ?_, ?_, ?_⟩
      · rw [HF.out]
      · rw [HF.out]
        exact ((OwnT.other (OwnT.other HO.out (by omega)) (by omega))).mono (by omega)
      · repeat (first | exact HB.out | refine Below.setCell ?_ (by simp) _ | refine Below.alloc ?_ (by simp <;> omega) _)
end Go.Proofs.YtkhdjmjbdpmdnaaGreatDoor
namespace Go.Proofs.YtkhdjmjbdpmdnaaGreatDoor
open Go.RowKit

/-- The things l lie behind the address (none at all: any address serves). -/
def IsT (w : World) (a : Option Addr) (l : List (Int × ByteArray)) : Prop :=
  l = [] ∨ ∃ g, a = some ⟨g, 0, none⟩ ∧ g < w.heap.size ∧ ∀ i p, l[i]? = some p → w.cell? ⟨g, i * 2, none⟩ = some (.int .i64 p.1) ∧ w.cell? ⟨g, i * 2 + 1, none⟩ = some (.string p.2)
theorem IsT.keep {w w' : World} {a : Option Addr} {l : List (Int × ByteArray)} (h : IsT w a l) (hb : Below w.heap.size w w') : IsT w' a l := by
  rcases h with h | ⟨g, rfl, hg, hc⟩
  · exact .inl h
  · refine .inr ⟨g, rfl, Nat.lt_of_lt_of_le hg hb.size, fun i p hp => ?_⟩
    rw [hb.cell (p := ⟨g, i * 2, none⟩) hg, hb.cell (p := ⟨g, i * 2 + 1, none⟩) hg]
    exact hc i p hp
theorem OwnT.isT {w : World} {B : Nat} {a : Option Addr} {n c : Nat} {l : List (Int × ByteArray)} (h : OwnT w B (.slice a n c) l) : IsT w a l := by
  rcases h.2 with ⟨_, h'⟩ | ⟨g, cap, cur, e, _, hg, _, _, _, ht⟩
  · exact .inl (List.eq_nil_of_length_eq_zero h')
  · simp only [Value.slice.injEq] at e
    obtain ⟨rfl, _, _⟩ := e
    refine .inr ⟨g, rfl, heap_lt hg, fun i p hp => ?_⟩
    have hl : i < l.length := by
      rcases Nat.lt_or_ge i l.length with h' | h'
      · exact h'
      · rw [List.getElem?_eq_none h'] at hp; cases hp
    obtain ⟨k0, k1⟩ := tCells_at l i p hp
    rw [Nat.mul_comm 2 i] at k0 k1
    rw [← ht, List.getElem?_take, if_pos (by omega)] at k0 k1
    rw [cell_of_row w g _ _ _ (0, 0) hg, cell_of_row w g _ _ _ (0, 0) hg]
    exact ⟨by simpa using k0, by simpa using k1⟩
end Go.Proofs.YtkhdjmjbdpmdnaaGreatDoor
namespace Go.Proofs.YtkhdjmjbdpmdnaaGreatDoor
open Go.RowKit

/-- The things l lie from address a on. -/
def IsTo (w : World) (a : Option Addr) (l : List (Int × ByteArray)) : Prop := l = [] ∨ ∃ g o, a = some ⟨g, o, none⟩ ∧ g < w.heap.size ∧ ∀ i p, l[i]? = some p → w.cell? ⟨g, o + i * 2, none⟩ = some (.int .i64 p.1) ∧ w.cell? ⟨g, o + i * 2 + 1, none⟩ = some (.string p.2)
/-- Block g is a reader of the things l, with its word bad; it and its things lie from block B on. -/
def IsRd (w : World) (B : Nat) (g : Nat) (l : List (Int × ByteArray)) (bad : Bool) : Prop := ∃ a c, w.heap[g]? = some (.cells [Value.slice a l.length c, .bool bad].toArray 114 (0, 0)) ∧ l.length ≤ c ∧ IsTo w a l ∧ B ≤ g ∧ ∀ b, a = some b → B ≤ b.block ∧ b.block < g
theorem IsRd.ge {w : World} {B g : Nat} {l : List (Int × ByteArray)} {b : Bool} (h : IsRd w B g l b) : B ≤ g ∧ g < w.heap.size := by
  obtain ⟨a, c, hg, hc, ht, h1, hne⟩ := h
  exact ⟨h1, heap_lt hg⟩
theorem IsRd.mono {w : World} {B B' g : Nat} {l : List (Int × ByteArray)} {b : Bool} (h : IsRd w B g l b) (hB : B' ≤ B) : IsRd w B' g l b := by
  obtain ⟨a, c, hg, hc, ht, h1, hne⟩ := h
  exact ⟨a, c, hg, hc, ht, Nat.le_trans hB h1, fun b hb => ⟨Nat.le_trans hB (hne b hb).1, (hne b hb).2⟩⟩
/-- What is taken of a reader, what it is behind it. -/
def takeR (l : List (Int × ByteArray)) (bad : Bool) (t : Int) : ByteArray × List (Int × ByteArray) × Bool :=
  match l with
  | [] => (⟨#[]⟩, [], true)
  | p :: r => if bad = true then (⟨#[]⟩, p :: r, true) else if p.1 = t then (p.2, r, bad) else (⟨#[]⟩, p :: r, true)
theorem IsTo.set {w : World} {a : Option Addr} {l : List (Int × ByteArray)} (h : IsTo w a l) (g o : Nat) (v : Value) (hn : ∀ b, a = some b → b.block ≠ g) : IsTo (w.setCell ⟨g, o, none⟩ v) a l := by
  rcases h with h | ⟨g2, o2, rfl, hg, hc⟩
  · exact .inl h
  · have hne : g ≠ g2 := fun e => hn _ rfl e.symm
    refine .inr ⟨g2, o2, rfl, by simpa using hg, fun i p hp => ?_⟩
    rw [World.cell?_setCell_far w ⟨g, o, none⟩ ⟨g2, _, none⟩ v hne, World.cell?_setCell_far w ⟨g, o, none⟩ ⟨g2, _, none⟩ v hne]
    exact hc i p hp
theorem IsTo.tail {w : World} {g o : Nat} {p : Int × ByteArray} {r : List (Int × ByteArray)} (h : IsTo w (some ⟨g, o, none⟩) (p :: r)) : IsTo w (some ⟨g, o + 2, none⟩) r := by
  rcases h with h | ⟨g2, o2, e, hg, hc⟩
  · cases h
  · simp only [Option.some.injEq, Addr.mk.injEq, and_true] at e
    obtain ⟨rfl, rfl⟩ := e
    refine .inr ⟨g, o + 2, rfl, hg, fun i q hq => ?_⟩
    have := hc (i + 1) q (by simpa using hq)
    rw [show o + (i + 1) * 2 = o + 2 + i * 2 by omega] at this
    exact this
/-- A reader is kept where all blocks from B on are. -/
theorem IsRd.same {w w' : World} {B g : Nat} {l : List (Int × ByteArray)} {b : Bool} (h : IsRd w B g l b) (hs : ∀ k, B ≤ k → k < w.heap.size → w'.heap[k]? = w.heap[k]?) : IsRd w' B g l b := by
  obtain ⟨a, c, hg, hc, ht, h1, hne⟩ := h
  refine ⟨a, c, by rw [hs g h1 (heap_lt hg)]; exact hg, hc, ?_, h1, hne⟩
  rcases ht with h | ⟨g2, o, rfl, hg2, hcs⟩
  · exact .inl h
  · have hlt := hne _ rfl
    have e := hs g2 hlt.1 hg2
    have ec : ∀ o, w'.cell? ⟨g2, o, none⟩ = w.cell? ⟨g2, o, none⟩ := fun o => by unfold World.cell?; simp only [e]
    refine .inr ⟨g2, o, rfl, ?_, fun i p hp => ?_⟩
    · rw [Array.getElem?_eq_getElem hg2] at e
      exact heap_lt e
    · rw [ec, ec]
      exact hcs i p hp
/-- A reader whose word is set. -/
theorem IsRd.bad {w : World} {B g : Nat} {l : List (Int × ByteArray)} {b : Bool} (h : IsRd w B g l b) : IsRd (w.setCell ⟨g, 1, none⟩ (.bool true)) B g l true ∧ (∀ k, k < w.heap.size → k ≠ g → (w.setCell ⟨g, 1, none⟩ (.bool true)).heap[k]? = w.heap[k]?) ∧ ∀ A, A ≤ g → Below A w (w.setCell ⟨g, 1, none⟩ (.bool true)) := by
  obtain ⟨a, c, hg, hc, ht, h1, hne⟩ := h
  exact ⟨⟨a, c, rowSet (i := 1) (.bool true) hg, hc, ht.set g 1 _ (fun b hb => Nat.ne_of_lt (hne b hb).2), h1, hne⟩, fun k _ hk => heap_setCell_other w _ k _ hk, fun A hA => (Below.refl _ _).setCell hA _⟩
/-- A reader is kept where only later blocks turn. -/
theorem IsRd.far {w w' : World} {B g : Nat} {l : List (Int × ByteArray)} {b : Bool} (h : IsRd w B g l b) (hb : Below (g + 1) w w') : IsRd w' B g l b := by
  obtain ⟨a, c, hg, hc, ht, h1, hne⟩ := h
  refine ⟨a, c, by rw [hb.block g (by omega)]; exact hg, hc, ?_, h1, hne⟩
  rcases ht with h | ⟨g2, o, rfl, hg2, hcs⟩
  · exact .inl h
  · have hlt : g2 < g := (hne _ rfl).2
    refine .inr ⟨g2, o, rfl, Nat.lt_of_lt_of_le hg2 hb.size, fun i p hp => ?_⟩
    rw [hb.cell (p := ⟨g2, o + i * 2, none⟩) (by show g2 < _; omega), hb.cell (p := ⟨g2, o + i * 2 + 1, none⟩) (by show g2 < _; omega)]
    exact hcs i p hp
set_option linter.unusedSimpArgs false in
set_option maxHeartbeats 1000000 in
set_option maxRecDepth 100000 in
theorem rdTake (B g : Nat) (l : List (Int × ByteArray)) (bad : Bool) (t : Int) (w : World) (hr : IsRd w B g l bad) :
    Calls Tryz.prog 109 #[.pointer (some ⟨g, 0, none⟩), .int .i64 t] w fun e w' => e = .returned (.string (takeR l bad t).1) ∧ IsRd w' B g (takeR l bad t).2.1 (takeR l bad t).2.2 ∧ (∀ k, k < w.heap.size → k ≠ g → w'.heap[k]? = w.heap[k]?) ∧ ∀ A, A ≤ g → Below A w w' := by
  have HRd : Hid (IsRd w B g l bad) := hr
  obtain ⟨a, c, hg, hc, ht, hB, hne⟩ := hr
  have HG : Hid _ := hg
  have y0 := rowFacts hg 0 _ rfl
  have y1 := rowFacts hg 1 _ rfl
  have z0 := rowFree hg 0
  have z1 := rowFree hg 1
  clear hg
  obtain ⟨R, hR⟩ : ∃ R, R = takeR l bad t := ⟨_, rfl⟩
  rw [← hR]
  cases bad with
  | true =>
    have HF : Hid (R = (⟨#[]⟩, l, true)) := by
      show _ = _
      rw [hR]
      cases l <;> rfl
    clear hR hc ht hne hB HG
    go_enter Tryz.func109, Tryz.ntmps109
    go_wp2
    go_ret
    rw [HF.out]
    exact ⟨rfl, HRd.out.bad⟩
  | false =>
  cases l with
  | nil =>
    have HF : Hid (R = (⟨#[]⟩, [], true)) := hR
    clear hR hc ht hne hB HG
    go_enter Tryz.func109, Tryz.ntmps109
    go_wp2
    go_ret
    rw [HF.out]
    exact ⟨rfl, HRd.out.bad⟩
  | cons p r =>
    obtain ⟨p1, p2⟩ := p
    have ht0 := ht
    rcases ht0 with h | ⟨g2, o, rfl, hg2, hcs⟩
    · cases h
    obtain ⟨k0, k1⟩ := hcs 0 (p1, p2) rfl
    rw [Nat.zero_mul, Nat.add_zero] at k0 k1
    by_cases hp : p1 = t
    rotate_left
    · have HF : Hid (R = (⟨#[]⟩, (p1, p2) :: r, true)) := by show _ = _; rw [hR, takeR, if_neg (by simp), if_neg hp]
      obtain ⟨n, hn⟩ : ∃ n, n = ((p1, p2) :: r).length := ⟨_, rfl⟩
      have hn1 : 0 < n := by rw [hn]; simp
      have hpn : (p1 != t) = true := by simpa using hp
      rw [← hn] at y0
      clear hR hc ht hne hB HG hcs hn
      go_enter Tryz.func109, Tryz.ntmps109
      go_wp2
      go_ret
      rw [HF.out]
      exact ⟨rfl, HRd.out.bad⟩
    · have HF : Hid (R = (p2, r, false)) := by show _ = _; rw [hR, takeR, if_neg (by simp), if_pos hp]
      have hg2g : g2 < g := (hne _ rfl).2
      have HBB : Hid (B ≤ g ∧ B ≤ g2) := ⟨hB, (hne _ rfl).1⟩
      have HT : Hid (IsTo w (some ⟨g2, o + 2, none⟩) r) := IsTo.tail ht
      have hnl : ((p1, p2) :: r).length = r.length + 1 := rfl
      rw [hnl] at y0 hc HG
      have HG' : Hid (w.heap[g]? = some (.cells [Value.slice (some ⟨g2, o, none⟩) (r.length + 1) c, .bool false].toArray 114 (0, 0))) := HG.out
      obtain ⟨n, hn⟩ : ∃ n, n = r.length := ⟨_, rfl⟩
      have HNl : Hid (n = r.length) := hn
      rw [← hn] at y0 hc
      clear hR ht hne hB HG hcs hn hnl
      subst hp
      go_enter Tryz.func109, Tryz.ntmps109
      go_wp2
      · go_ret
        obtain rfl := HNl.out
        have hr0 : r = [] := List.eq_nil_of_length_eq_zero (by omega)
        rw [HF.out]
        exact ⟨rfl, ⟨_, _, rowSet (i := 0) _ HG'.out, by show r.length ≤ _; omega, .inl hr0, HBB.out.1, fun b hb => by cases hb; exact ⟨HBB.out.2, hg2g⟩⟩, fun k _ hk => heap_setCell_other w _ k _ hk, fun A hA => (Below.refl _ _).setCell hA _⟩
      · go_ret
        obtain rfl := HNl.out
        rw [HF.out]
        exact ⟨rfl, ⟨_, _, rowSet (i := 0) _ HG'.out, by show r.length ≤ _; omega, HT.out.set g 0 _ (fun b hb => by cases hb; exact Nat.ne_of_lt hg2g), HBB.out.1, fun b hb => by cases hb; exact ⟨HBB.out.2, hg2g⟩⟩, fun k _ hk => heap_setCell_other w _ k _ hk, fun A hA => (Below.refl _ _).setCell hA _⟩
end Go.Proofs.YtkhdjmjbdpmdnaaGreatDoor
