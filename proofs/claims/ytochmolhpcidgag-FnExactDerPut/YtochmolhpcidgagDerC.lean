/- impl.DerPut, walked. -/
import Derived.Test.YtochmolhpcidgagDerV
import Derived.Test.YtochmolhpcidgagDerT
namespace Go.Proofs.Ytochmolhpcidgag
open Go.RowKit Go.Lib

theorem implDerPut (t : Int) (b : ByteArray) (w : World) (hb : b.size ≤ maxLen) :
    Calls Try.prog 12 #[.int .i64 t, .string b] w fun e w' => e = .returned (.string (putD t b)) ∧ Below w.heap.size w w' := by
  unfold maxLen at hb
  cases ht : tagB t with
  | false =>
    have HF : Hid (putD t b = ByteArray.empty) := putD_tag ht
    go_enter Try.func12, Try.ntmps12
    go_wp2_with fail
    refine (implTag t _).mono ?_
    rintro e w' ⟨rfl, rfl⟩
    rw [ht]
    go_wp2
    go_ret
    exact ⟨by rw [HF.out]; rfl, Below.refl _ _⟩
  | true =>
    obtain ⟨q0, q1, _⟩ := tagB_iff.1 ht
    by_cases hl : 4000 < b.size
    · have HF : Hid (putD t b = ByteArray.empty) := putD_long hl
      go_enter Try.func12, Try.ntmps12
      go_wp2_with fail
      refine (implTag t _).mono ?_
      rintro e w' ⟨rfl, rfl⟩
      rw [ht]
      go_wp2
      go_ret
      exact ⟨by rw [HF.out]; rfl, Below.refl _ _⟩
    · have HF : Hid (putD t b = thingD t b) := putD_right ht (by omega)
      go_enter Try.func12, Try.ntmps12
      go_wp2_with fail
      refine (implTag t _).mono ?_
      rintro e w' ⟨rfl, rfl⟩
      rw [ht]
      go_wp2_with fail
      refine (layPlain t b _ q0 q1 (by omega)).mono ?_
      rintro e w' ⟨rfl, hb⟩
      go_wp2
      go_ret
      exact ⟨by rw [HF.out]; rfl, hb⟩
end Go.Proofs.Ytochmolhpcidgag
