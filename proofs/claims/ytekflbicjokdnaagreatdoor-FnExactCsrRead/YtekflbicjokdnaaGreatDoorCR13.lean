/- Signatures as they are answered: plain mathematics. What is asked for, and lists of what is taken back: which of them check. Plain mathematics: no program is named here. How large impl.Csr is. -/
import Derived.Test.YtekflbicjokdnaaGreatDoorCR12
import Derived.Test.YtekflbicjokdnaaGreatDoorCR04
import Derived.Test.YtekflbicjokdnaaGreatDoorCR08
namespace Go.Proofs.YtekflbicjokdnaaGreatDoor
open Go.RowKit

theorem powK_eq (x : Int) (t p : ByteArray) (h : putS x = p) : dnum (⟨#[75]⟩ ++ p ++ t) % 1073741788 + 1 = powK x t := by
  subst h
  exact Nat.add_comm _ _
theorem signV_no {x : Int} {t : ByteArray} (h : ¬ (t.size ≤ 20000 ∧ secB x = true)) : signV x t = sigV 0 0 0 := by rw [signV, if_neg h]
theorem signV_nat {x : Nat} {t : ByteArray} (ht : t.size ≤ 20000) (h : secB (x : Int) = true) : signV x t = sigV ((pm 4 x 2147483579 : Nat) : Int) (signE x t) (signS x t) := by
  rw [signV, if_pos ⟨ht, h⟩, Int.toNat_natCast]
theorem backR_nat (k e s : Nat) : backR k e s = pm 4 s 2147483579 * pm k (1073741789 - e) 2147483579 % 2147483579 := by
  unfold backR
  rw [Int.toNat_natCast, Int.toNat_natCast, Int.toNat_natCast]
theorem sigCB_long {k e s : Int} {t : ByteArray} (h : 20000 < t.size) : sigCB k e s t = false := by
  unfold sigCB
  rw [decide_eq_false (by omega)]
  rfl
theorem sigCB_wrong {k e s : Int} {t : ByteArray} (h : sigRB k e s = false) : sigCB k e s t = false := by
  unfold sigCB
  rw [h, Bool.false_and, Bool.and_false]
theorem sigCB_right {k e s : Int} {t : ByteArray} (ht : t.size ≤ 20000) (h : sigRB k e s = true) : sigCB k e s t = decide ((chal (backR k e s : Int) k t : Int) = e) := by
  unfold sigCB
  rw [h, decide_eq_true ht, Bool.true_and, Bool.true_and]
theorem sigRB_nat {k e s : Int} (h : sigRB k e s = true) : ∃ K E S : Nat, k = (K : Int) ∧ e = (E : Int) ∧ s = (S : Int) ∧ K < 2147483579 ∧ E < 1073741789 ∧ S < 1073741789 ∧ pm K 1073741789 2147483579 = 1 := by
  unfold sigRB at h
  rw [Bool.and_eq_true, Bool.and_eq_true] at h
  obtain ⟨⟨h1, h2⟩, h3⟩ := h
  obtain ⟨x, rfl, _, x2, x3⟩ := rightG_nat h1
  have h2' : 0 ≤ e ∧ e < 1073741789 := of_decide_eq_true h2
  have h3' : 0 ≤ s ∧ s < 1073741789 := of_decide_eq_true h3
  exact ⟨x, e.toNat, s.toNat, rfl, by omega, by omega, x2, by omega, by omega, x3⟩
end Go.Proofs.YtekflbicjokdnaaGreatDoor
namespace Go.Proofs.YtekflbicjokdnaaGreatDoor
open Go.RowKit

noncomputable def askR (c : Ask) : Bool := formB c && sigCB c.sk c.se c.ss (askD c)
noncomputable def csrBytesD (c : Ask) : ByteArray := if askR c = true then askY c else ⟨#[]⟩
noncomputable def crlGoodB (k : Int) (c : Lst) : Bool := crlB c && decide (c.sk = k) && sigCB c.sk c.se c.ss (listD c)
end Go.Proofs.YtekflbicjokdnaaGreatDoor
namespace Go.Proofs.YtekflbicjokdnaaGreatDoor
open Go.RowKit

theorem sizeCsr : (Tryz.prog.info? 34).map (·.size) = some 5 := by kernel_rfl
end Go.Proofs.YtekflbicjokdnaaGreatDoor
