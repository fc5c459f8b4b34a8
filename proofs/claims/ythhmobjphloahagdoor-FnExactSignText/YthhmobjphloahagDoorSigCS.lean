/- spec.l04Challenge, walked. -/
import Derived.Test.YthhmobjphloahagDoorSigB
import Derived.Test.YthhmobjphloahagDoorPutA
namespace Go.Proofs.YthhmobjphloahagDoor
open Go.RowKit

set_option maxHeartbeats 1000000 in
set_option maxRecDepth 100000 in
theorem specChal (r key : Int) (t : ByteArray) (w : World) (ht : t.size ≤ 20000) (r0 : -9223372036854775808 ≤ r) (r1 : r ≤ 9223372036854775807) (k0 : -9223372036854775808 ≤ key) (k1 : key ≤ 9223372036854775807) :
    Calls Tryd.prog 15 #[.int .i64 r, .int .i64 key, .string t] w fun e w' => e = .returned (.int .i64 (chal r key t : Int)) ∧ Below w.heap.size w w' := by
  have s2 := putS_size r
  have s3 := putS_size key
  have P2 : Hid (∀ v : World, Calls Tryd.prog 23 #[.int .i64 r] v fun e w' => e = .returned (.string (putS r)) ∧ Below v.heap.size v w') := fun v => specPut r v r0 r1
  have P3 : Hid (∀ v : World, Calls Tryd.prog 23 #[.int .i64 key] v fun e w' => e = .returned (.string (putS key)) ∧ Below v.heap.size v w') := fun v => specPut key v k0 k1
  have EC : Hid ((dnum (putS r ++ putS key ++ t) % 1073741789 : Nat) = chal r key t) := rfl
  have ld := dnum_lt (putS r ++ putS key ++ t)
  have LD : Hid (∀ a b : ByteArray, a = putS r → b = putS key → dnum (a ++ b ++ t) < 72057594037927936 ∧ dnum (a ++ b ++ t) % 1073741789 = chal r key t) := fun a b ha hb => by subst ha hb; exact ⟨ld, EC.out⟩
  generalize hp : putS r = p at s2 P2
  generalize hq : putS key = q at s3 P3
  have LD' := LD.out p q hp.symm hq.symm
  have LE : Hid (dnum (p ++ q ++ t) < 72057594037927936 ∧ dnum (p ++ q ++ t) % 1073741789 = chal r key t) := LD'
  clear LD LD' ld EC hp hq r0 r1 k0 k1
  have n1 : (p ++ q).size = p.size + q.size := size_append p q
  have n2 : (p ++ q ++ t).size = p.size + q.size + t.size := by rw [size_append, size_append]
  go_enter Tryd.func15, Tryd.ntmps15
  go_wp2_with fail
  refine (P2.out _).mono ?_
  rintro e w1 ⟨rfl, hb1⟩
  have B1 : Hid (Below w.heap.size w w1) := hb1
  have z1 := hb1.size
  clear hb1
  go_wp2_with fail
  refine (P3.out _).mono ?_
  rintro e w2 ⟨rfl, hb2⟩
  have B2 : Hid (Below w.heap.size w w2) := B1.out.trans (hb2.mono z1)
  have z2 := B2.out.size
  clear hb2
  go_wp2_with fail
  refine (specNum (p ++ q ++ t) _ (by omega)).mono ?_
  rintro e w4 ⟨rfl, hb4⟩
  have B4 : Hid (Below w.heap.size w w4) := B2.out.trans (hb4.mono z2)
  clear hb4
  obtain ⟨l1, l2⟩ := LE.out
  generalize dnum (p ++ q ++ t) = d at l1 l2
  have t1 : (d : Int).tmod 1073741789 = ((d % 1073741789 : Nat) : Int) := tmodN d 1073741789
  rw [l2] at t1
  clear LE l1 l2
  go_wp2
  go_ret
  exact ⟨rfl, B4.out⟩
end Go.Proofs.YthhmobjphloahagDoor
