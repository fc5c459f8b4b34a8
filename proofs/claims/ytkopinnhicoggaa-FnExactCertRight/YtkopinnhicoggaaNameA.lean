/- FnExactNameRight, walks: 'spec.NameRight' and 'impl.NameRight' answer true just where the text is a right name. -/
import Derived.Test.YtkopinnhicoggaaRows
import Derived.WalkKit
import Derived.WalkSpells
import Derived.WalkLawsBesides
import Derived.Below
namespace Go.Proofs.Ytkopinnhicoggaa
open Go.RowKit

def AnsB (P : Prop) (e : Ending) : Prop := ∃ r : Bool, e = .returned (.bool r) ∧ (r = true ↔ P)
theorem AnsB.yes {P : Prop} {e : Ending} (h : P) (he : e = .returned (.bool true)) : AnsB P e := ⟨true, he, by simp [h]⟩
theorem AnsB.no {P : Prop} {e : Ending} (h : ¬ P) (he : e = .returned (.bool false)) : AnsB P e := ⟨false, he, by simp [h]⟩

def OkN (k : Nat) (n : Int) : Prop := (97 ≤ n ∧ n ≤ 122) ∨ k ≠ 0 ∧ ((48 ≤ n ∧ n ≤ 57) ∨ n = 45)
def OkAt (s : ByteArray) (k : Nat) (h : k < s.size) : Prop := OkN k (s[k].toNat : Int)
def OkTo (s : ByteArray) (k : Nat) : Prop := ∀ j (h : j < s.size), j < k → OkAt s j h
def NameOk (s : ByteArray) : Prop := 1 ≤ s.size ∧ s.size ≤ 40 ∧ OkTo s s.size
theorem okTo_zero (s : ByteArray) : OkTo s 0 := fun j _ h => by omega
theorem okTo_succ (s : ByteArray) (k : Nat) (hk : k < s.size) (h : OkTo s k) (h' : OkAt s k hk) : OkTo s (k + 1) := fun j hj hlt => by
  by_cases e : j = k
  · subst e; exact h'
  · exact h j hj (by omega)
theorem name_no (s : ByteArray) (k : Nat) (hk : k < s.size) (h' : ¬ OkAt s k hk) : ¬ NameOk s := fun h => h' (h.2.2 k hk hk)
def Cls (n : Int) (a z d0 d9 m : Bool) : Prop := decide (97 ≤ n) = a ∧ decide (n ≤ 122) = z ∧ decide (48 ≤ n) = d0 ∧ decide (n ≤ 57) = d9 ∧ (n != 45) = m
theorem cls (n : Int) : n < 45 ∧ Cls n false true false true true ∨ (45 ≤ n ∧ n ≤ 45) ∧ Cls n false true false true false ∨ (46 ≤ n ∧ n ≤ 47) ∧ Cls n false true false true true ∨
    (48 ≤ n ∧ n ≤ 57) ∧ Cls n false true true true true ∨ (58 ≤ n ∧ n ≤ 96) ∧ Cls n false true true false true ∨ (97 ≤ n ∧ n ≤ 122) ∧ Cls n true true true false true ∨ 123 ≤ n ∧ Cls n true false true false true := by
  have h : n < 45 ∨ (45 ≤ n ∧ n ≤ 45) ∨ (46 ≤ n ∧ n ≤ 47) ∨ (48 ≤ n ∧ n ≤ 57) ∨ (58 ≤ n ∧ n ≤ 96) ∨ (97 ≤ n ∧ n ≤ 122) ∨ 123 ≤ n := by omega
  unfold Cls
  simp only [decide_eq_true_eq, decide_eq_false_iff_not, bne_iff_ne, bne_eq_false_iff_eq]
  omega

set_option maxHeartbeats 1000000 in
theorem specName (s : ByteArray) (w : World) (hs : s.size ≤ maxLen) :
    Calls Try.prog 36 #[.string s] w fun e w' => AnsB (NameOk s) e ∧ w' = w := by
  unfold maxLen at hs
  by_cases h1 : s.size < 1
  · go_enter Try.func36, Try.ntmps36
    go_wp2
    go_ret
    exact ⟨AnsB.no (fun h => by have := h.1; omega) rfl, rfl⟩
  by_cases h2 : 40 < s.size
  · go_enter Try.func36, Try.ntmps36
    go_wp2
    go_ret
    exact ⟨AnsB.no (fun h => by have := h.2.1; omega) rfl, rfl⟩
  go_enter Try.func36, Try.ntmps36
  go_wp2
  go_loop [3] (fun i => ∃ k : Nat, k ≤ s.size ∧ i = .int .i64 k ∧ OkTo s k) (fun i => s.size - (intOf i).toNat)
  case atStart => exact ⟨0, Nat.zero_le _, rfl, okTo_zero s⟩
  case round =>
    obtain ⟨k, hk, rfl, hok⟩ := hrel
    have HO : Hid (OkTo s k) := hok
    clear hok
    by_cases hlt : k < s.size
    · by_cases hk0 : k < 1
      · obtain rfl : k = 0 := by omega
        rcases cls (s[0].toNat : Int) with ⟨c, e1, e2, e3, e4, e5⟩ | ⟨c, e1, e2, e3, e4, e5⟩ | ⟨c, e1, e2, e3, e4, e5⟩ | ⟨c, e1, e2, e3, e4, e5⟩ | ⟨c, e1, e2, e3, e4, e5⟩ | ⟨c, e1, e2, e3, e4, e5⟩ | ⟨c, e1, e2, e3, e4, e5⟩
        all_goals
          go_wp2
          first
            | (go_ret; exact ⟨AnsB.no (name_no s 0 hlt (by unfold OkAt OkN; omega)) rfl, rfl⟩)
            | exact ⟨⟨1, by omega, rfl, okTo_succ s 0 hlt HO.out (by unfold OkAt OkN; omega)⟩, by simp [intOf]; omega⟩
      · have ek : ((k : Int) == 0) = false := by simp; omega
        rcases cls (s[k].toNat : Int) with ⟨c, e1, e2, e3, e4, e5⟩ | ⟨c, e1, e2, e3, e4, e5⟩ | ⟨c, e1, e2, e3, e4, e5⟩ | ⟨c, e1, e2, e3, e4, e5⟩ | ⟨c, e1, e2, e3, e4, e5⟩ | ⟨c, e1, e2, e3, e4, e5⟩ | ⟨c, e1, e2, e3, e4, e5⟩
        all_goals
          go_wp2
          first
            | (go_ret; exact ⟨AnsB.no (name_no s k hlt (by unfold OkAt OkN; omega)) rfl, rfl⟩)
            | exact ⟨⟨k + 1, by omega, by go_num, okTo_succ s k hlt HO.out (by unfold OkAt OkN; omega)⟩, by simp [intOf]; omega⟩
    · go_wp2
      go_ret
      have e : k = s.size := by omega
      have hf := HO.out
      rw [e] at hf
      exact ⟨AnsB.yes ⟨by omega, by omega, hf⟩ rfl, rfl⟩
end Go.Proofs.Ytkopinnhicoggaa
