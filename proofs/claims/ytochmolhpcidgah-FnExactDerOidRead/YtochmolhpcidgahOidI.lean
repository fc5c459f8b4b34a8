/- impl.getSevens, walked. -/
import Derived.Test.YtochmolhpcidgahDerX
import Derived.Test.YtochmolhpcidgahOidQ
import Derived.OwnWalk
namespace Go.Proofs.Ytochmolhpcidgah
open Go.RowKit

theorem or7 (v b : Nat) (hb : b < 128) (h1 : v ≤ 2147483647) : bits BinOp.or IntKind.i64 ((v : Int) * 128) (b : Int) = (v : Int) * 128 + (b : Int) := by
  have e : bits BinOp.or IntKind.i64 ((v : Int) * 128) (b : Int) = IntKind.i64.wrap ((BitVec.ofInt 64 ((v : Int) * 128) ||| BitVec.ofInt 64 (b : Int)).toNat : Nat) := rfl
  rw [e, BitVec.toNat_or, BitVec.toNat_ofInt, BitVec.toNat_ofInt]
  have e1 : ((b : Int) % ((2 ^ 64 : Nat) : Int)).toNat = b := by omega
  have e2 : ((v : Int) * 128 % ((2 ^ 64 : Nat) : Int)).toNat = 2 ^ 7 * v := by omega
  rw [e1, e2, ← Nat.two_pow_add_eq_or_of_lt (by omega)]
  rw [IntKind.wrap_i64]
  omega
/-- What getSevens hands back. -/
def SevOk (s : ByteArray) (k : Nat) (R : Option (Nat × List Nat)) (e : Ending) : Prop :=
  R = none ∧ e = .returned (.tuple #[.int .i64 0, .int .i64 0, .bool false]) ∨
  ∃ n j, R = some (n, (bl s).drop j) ∧ k < j ∧ j ≤ s.size ∧ n ≤ 2147483647 ∧ e = .returned (.tuple #[.int .i64 (n : Int), .int .i64 (j : Int), .bool true])
set_option maxHeartbeats 1000000 in
set_option maxRecDepth 100000 in
theorem getSevens (s : ByteArray) (k : Nat) (w : World) (hs : s.size ≤ 20000) (hk : k ≤ s.size) :
    Calls Try.prog 42 #[.string s, .int .i64 (k : Int)] w fun e w' => SevOk s k (sevQ true 0 ((bl s).drop k)) e ∧ w' = w := by
  obtain ⟨R, hR⟩ : ∃ R, R = sevQ true 0 ((bl s).drop k) := ⟨_, rfl⟩
  rw [← hR]
  have HR : Hid (sevQ true 0 ((bl s).drop k) = R) := hR.symm
  clear hR
  go_enter Try.func42, Try.ntmps42
  go_wp2_with fail
  go_loopw [7, 8] (fun q i wr => ∃ (j n : Nat), q = .int .i64 (n : Int) ∧ i = .int .i64 (j : Int) ∧ k ≤ j ∧ j ≤ s.size ∧ n ≤ 2147483647 ∧ sevQ (decide (j = k)) n ((bl s).drop j) = R ∧ wr = w)
    (fun _ i _ => s.size - (intOf i).toNat)
  case atStart => exact ⟨k, 0, rfl, rfl, Nat.le_refl _, hk, by omega, by rw [decide_eq_true rfl]; exact HR.out, rfl⟩
  case round =>
    obtain ⟨j, n, rfl, rfl, hkj, hj, hn, hrel, rfl⟩ := hrel
    have HQ : Hid (sevQ (decide (j = k)) n ((bl s).drop j) = R) := hrel
    clear hrel HR
    by_cases hlt : j < s.size
    · have hd := bl_drop s j hlt
      have hb := bN_eq s j hlt
      have hu := u8_lt s[j]
      rw [hb] at hd
      have HQ2 := HQ.out
      rw [hd, sevQ] at HQ2
      have q0 : (j : Int) < (s.size : Int) := by omega
      have ha := and127 (s[j].toNat : Int) (by omega) (by omega)
      obtain ⟨x, hx⟩ : ∃ x, x = s[j].toNat := ⟨_, rfl⟩
      rw [← hx] at HQ2 ha hu
      have ho := or7 n (x % 128) (Nat.mod_lt _ (by omega)) hn
      rw [show (((x % 128 : Nat) : Int)) = (x : Int) % 128 from by omega] at ho
      have ex : (s[j].toNat : Int) = (x : Int) := by omega
      have hxb : x < 256 := by omega
      clear hd hb HQ hx
      by_cases h1 : j = k ∧ x = 128
      · rw [if_pos (by simp [h1.1, h1.2])] at HQ2
        have HF : Hid (R = none) := HQ2.symm
        obtain ⟨rfl, rfl⟩ := h1
        clear HQ2
        go_wp2_with fail
        go_ret3
        exact ⟨.inl ⟨HF.out, rfl⟩, rfl⟩
      rw [if_neg (by simp; omega)] at HQ2
      obtain ⟨m, hm⟩ : ∃ m, m = n * 128 + x % 128 := ⟨_, rfl⟩
      rw [← hm] at HQ2
      have em : (n : Int) * 128 + (x : Int) % 128 = (m : Int) := by omega
      have HQ : Hid _ := HQ2
      clear HQ2 hm
      have hc : (((j : Int) == (k : Int)) = false) ∨ (j = k ∧ ((x : Int) == 128) = false) := by
        simp only [beq_eq_false_iff_ne]; omega
      have HJK : Hid (decide (j + 1 = k) = false) := decide_eq_false (by omega)
      rcases hc with hc | ⟨rfl, hc⟩
      all_goals
        by_cases hov : 2147483647 < m
        · have HF : Hid (R = none) := by have := HQ.out; rw [if_pos hov] at this; exact this.symm
          clear HQ
          go_wp2_with fail
          go_ret3
          exact ⟨.inl ⟨HF.out, rfl⟩, rfl⟩
        by_cases hlow : x < 128
        · have HF : Hid (R = some (m, (bl s).drop (j + 1))) := by have := HQ.out; rw [if_neg hov, if_pos hlow] at this; exact this.symm
          clear HQ
          go_wp2_with fail
          go_ret3
          exact ⟨.inr ⟨m, j + 1, HF.out, by omega, by omega, by omega, by simp⟩, rfl⟩
        · have HF : Hid (sevQ false m ((bl s).drop (j + 1)) = R) := by have := HQ.out; rw [if_neg hov, if_neg hlow] at this; exact this
          clear HQ
          go_wp2_with fail
          go_roundw
          case rel => exact ⟨j + 1, m, rfl, by go_num, by omega, by omega, by omega, by rw [HJK.out]; exact HF.out, trivial⟩
          case measure => simp [intOf]; omega
    · obtain rfl : j = s.size := by omega
      have HF : Hid (R = none) := by
        have := HQ.out
        rw [List.drop_eq_nil_of_le (by rw [bl_len]; exact Nat.le_refl _), sevQ] at this
        exact this.symm
      clear HQ
      go_wp2_with fail
      go_ret3
      exact ⟨.inl ⟨HF.out, rfl⟩, rfl⟩
end Go.Proofs.Ytochmolhpcidgah
