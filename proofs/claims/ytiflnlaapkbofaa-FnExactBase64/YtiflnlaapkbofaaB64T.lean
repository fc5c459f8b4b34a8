/- spec.Base64, walked. -/
import Derived.Test.YtiflnlaapkbofaaB64S
namespace Go.Proofs.Ytiflnlaapkbofaa
open Go.RowKit Go.Lib

theorem specBase64 (s : ByteArray) (w : World) (hm : s.size ≤ maxLen) :
    Calls Try.prog 5 #[.string s] w fun e w' => e = .returned (.string (base64D s)) ∧ Below w.heap.size w w' := by
  unfold maxLen at hm
  by_cases h4 : 4000 < s.size
  · have HF : Hid (base64D s = ⟨#[]⟩) := by show _ = _; rw [base64D, if_pos h4]
    go_enter Try.func5, Try.ntmps5
    go_wp2
    go_ret
    exact ⟨by rw [HF.out]; rfl, Below.refl _ _⟩
  · have HF : Hid (base64D s = b64D s) := by show _ = _; rw [base64D, if_neg h4]
    have HS : Hid (∀ V, Calls Try.prog 10 #[.string s] V fun e w' => e = .returned (.string (b64D s)) ∧ Below V.heap.size V w') := fun V => specBase s V (by omega)
    go_enter Try.func5, Try.ntmps5
    go_wp2_with fail
    refine (HS.out w).mono ?_
    rintro e w2 ⟨rfl, b2⟩
    go_wp2
    go_ret
    exact ⟨by rw [HF.out]; rfl, b2⟩
end Go.Proofs.Ytiflnlaapkbofaa
