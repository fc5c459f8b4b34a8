/- impl.Challenge, walked. -/
import Derived.Test.YthhmobjphloahagDoorSigA
import Derived.Test.YthhmobjphloahagDoorPutB
import Derived.Test.YthhmobjphloahagDoorJoinA
import Derived.Test.YthhmobjphloahagDoorLong
import Derived.Test.YthhmobjphloahagDoorGrpHI
namespace Go.Proofs.YthhmobjphloahagDoor
open Go.RowKit

set_option maxHeartbeats 1000000 in
set_option maxRecDepth 100000 in
theorem implChallenge (r key : Int) (t : ByteArray) (w : World) (ht : t.size ≤ maxLen) (hk : Keys w) :
    Calls Tryd.prog 7 #[.int .i64 r, .int .i64 key, .string t] w fun e w' => e = .returned (.int .i64 (challA r key t)) ∧ Below w.heap.size w w' := by
  have HK : Hid (Keys w) := hk
  have hkp := hk.pos
  clear hk
  by_cases h1 : 20000 < t.size
  · have ea : Hid (challA r key t = 0) := by
      show _ = _
      rw [challA, if_neg (by omega)]
    have hd : decide (20000 < t.size) = true := decide_eq_true h1
    go_enter Tryd.func7, Tryd.ntmps7
    go_wp2_with fail
    refine (tooLong t _ ht).mono ?_
    rintro e w' ⟨rfl, rfl⟩
    rw [hd]
    clear h1 hd ht
    go_wp2
    go_ret
    exact ⟨ret_int ea.out.symm, Below.refl _ _⟩
  have hd : decide (20000 < t.size) = false := decide_eq_false h1
  by_cases h2 : unitB r = true
  · by_cases h3 : unitB key = true
    · have ea : Hid (challA r key t = (chal r key t : Int)) := by
        show _ = _
        rw [challA, if_pos ⟨by omega, h2, h3⟩]
      have b2 : 1 ≤ r ∧ r < 2147483579 := of_decide_eq_true h2
      have b3 : 1 ≤ key ∧ key < 2147483579 := of_decide_eq_true h3
      have s2 := putS_size r
      have s3 := putS_size key
      have P2 : Hid (∀ v : World, Calls Tryd.prog 20 #[.int .i64 r] v fun e w' => e = .returned (.string (putS r)) ∧ Below v.heap.size v w') := fun v => implPut r v (by omega) (by omega)
      have P3 : Hid (∀ v : World, Calls Tryd.prog 20 #[.int .i64 key] v fun e w' => e = .returned (.string (putS key)) ∧ Below v.heap.size v w') := fun v => implPut key v (by omega) (by omega)
      have EC : Hid ((dnum (putS r ++ putS key ++ t) % 1073741789 : Nat) = chal r key t) := rfl
      have ld := dnum_lt (putS r ++ putS key ++ t)
      have LD : Hid (∀ a b : ByteArray, a = putS r → b = putS key → dnum (a ++ b ++ t) < 72057594037927936 ∧ dnum (a ++ b ++ t) % 1073741789 = chal r key t) := fun a b ha hb => by subst ha hb; exact ⟨ld, EC.out⟩
      generalize hp : putS r = p at s2 P2
      generalize hq : putS key = q at s3 P3
      have LD' := LD.out p q hp.symm hq.symm
      have LE : Hid (dnum (p ++ q ++ t) < 72057594037927936 ∧ dnum (p ++ q ++ t) % 1073741789 = chal r key t) := LD'
      clear LD LD' ld EC hp hq
      go_enter Tryd.func7, Tryd.ntmps7
      go_wp2_with fail
      refine (tooLong t _ ht).mono ?_
      rintro e w' ⟨rfl, rfl⟩
      rw [hd]
      go_wp2_with fail
      refine (implUnit r _).mono ?_
      rintro e w' ⟨rfl, rfl⟩
      rw [h2]
      go_wp2_with fail
      refine (implUnit key _).mono ?_
      rintro e w' ⟨rfl, rfl⟩
      rw [h3]
      go_wp2_with fail
      refine (P2.out _).mono ?_
      rintro e w1 ⟨rfl, hb1⟩
      have B1 : Hid (Below w'.heap.size w' w1) := hb1
      have z1 := hb1.size
      clear hb1
      go_wp2_with fail
      refine (P3.out _).mono ?_
      rintro e w2 ⟨rfl, hb2⟩
      have B2 : Hid (Below w'.heap.size w' w2) := B1.out.trans (hb2.mono z1)
      have z2 := B2.out.size
      clear hb2
      go_wp2_with fail
      refine (joinTexts p q _ (by omega) (by omega)).mono ?_
      rintro e w3 ⟨rfl, hb3⟩
      have B3 : Hid (Below w'.heap.size w' w3) := B2.out.trans (hb3.mono z2)
      have z3 := B3.out.size
      have K3 : Hid (Keys w3) := HK.out.below B3.out hkp
      clear hb3
      go_wp2_with fail
      refine (digestNumber (p ++ q) t _ (by rw [size_append]; omega) (by omega) K3.out).mono ?_
      rintro e w4 ⟨rfl, hb4⟩
      have B4 : Hid (Below w'.heap.size w' w4) := B3.out.trans (hb4.mono z3)
      clear hb4
      obtain ⟨l1, l2⟩ := LE.out
      generalize dnum (p ++ q ++ t) = d at l1 l2
      have t1 : (d : Int).tmod 1073741789 = ((d % 1073741789 : Nat) : Int) := tmodN d 1073741789
      rw [l2] at t1
      clear LE l1 l2
      go_wp2
      go_ret
      exact ⟨ret_int ea.out.symm, B4.out⟩
    · rw [Bool.not_eq_true] at h3
      have ea : Hid (challA r key t = 0) := by
        show _ = _
        rw [challA, if_neg (by rw [h3]; simp)]
      go_enter Tryd.func7, Tryd.ntmps7
      go_wp2_with fail
      refine (tooLong t _ ht).mono ?_
      rintro e w' ⟨rfl, rfl⟩
      rw [hd]
      go_wp2_with fail
      refine (implUnit r _).mono ?_
      rintro e w' ⟨rfl, rfl⟩
      rw [h2]
      go_wp2_with fail
      refine (implUnit key _).mono ?_
      rintro e w' ⟨rfl, rfl⟩
      rw [h3]
      go_wp2
      go_ret
      exact ⟨ret_int ea.out.symm, Below.refl _ _⟩
  · rw [Bool.not_eq_true] at h2
    have ea : Hid (challA r key t = 0) := by
      show _ = _
      rw [challA, if_neg (by rw [h2]; simp)]
    go_enter Tryd.func7, Tryd.ntmps7
    go_wp2_with fail
    refine (tooLong t _ ht).mono ?_
    rintro e w' ⟨rfl, rfl⟩
    rw [hd]
    go_wp2_with fail
    refine (implUnit r _).mono ?_
    rintro e w' ⟨rfl, rfl⟩
    rw [h2]
    go_wp2
    go_ret
    exact ⟨ret_int ea.out.symm, Below.refl _ _⟩
end Go.Proofs.YthhmobjphloahagDoor
