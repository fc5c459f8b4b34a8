/- spec.DerInt, walked. -/
import Derived.Test.YtochmolhpcidgahDerI
import Derived.Test.YtochmolhpcidgahDerA
namespace Go.Proofs.Ytochmolhpcidgah
open Go.RowKit Go.Lib

theorem specDerInt (n : Int) (w : World) (h0 : -9223372036854775808 ≤ n) (h1 : n ≤ 9223372036854775807) :
    Calls Try.prog 7 #[.int .i64 n] w fun e w' => e = .returned (.string (thingD 2 (strOfNums (intL n)))) ∧ Below w.heap.size w w' := by
  have hl := (intL_len n).2
  have HB : Hid (∀ v : World, Calls Try.prog 22 #[.int .i64 n] v fun e w' => e = .returned (.string (strOfNums (intL n))) ∧ Below v.heap.size v w') := fun v => specBytes n v h0 h1
  have hs : (strOfNums (intL n)).size ≤ 8 := by rw [strOfNums_size]; exact hl
  generalize strOfNums (intL n) = s at *
  go_enter Try.func7, Try.ntmps7
  go_wp2_with fail
  refine (HB.out _).mono ?_
  rintro e w1 ⟨rfl, hb1⟩
  go_wp2_with fail
  refine (specThing 2 s _ (by omega) (by omega) (by omega)).mono ?_
  rintro e w2 ⟨rfl, hb2⟩
  go_wp2
  go_ret
  exact ⟨rfl, hb1.trans (hb2.mono hb1.size)⟩
end Go.Proofs.Ytochmolhpcidgah
