/- spec.GetNum, walked. spec.GetNum at every argument. spec.GetText, walked. -/
import Derived.Test.YtjkmfjegphpjkaaGreatDoorJR01
import Derived.Test.YtjkmfjegphpjkaaGreatDoorJR05
import Derived.Deep.RegionHeld3
namespace Go.Proofs.YtjkmfjegphpjkaaGreatDoor
open Go.RowKit Go.Lib

set_option maxHeartbeats 4000000 in
set_option maxRecDepth 100000 in
theorem specGet (s : ByteArray) (p : Nat) (w : World) (hs : s.size ≤ 20000) (hp : (p : Int) ≤ 9223372036854775807) :
    Calls Tryz.prog 73 #[.string s, .int .i64 (p : Int)] w fun e w' => e = .returned (numV (getR s p 10 0 0)) ∧ Below w.heap.size w w' := by
  obtain ⟨R, hR⟩ : ∃ R, R = getR s p 10 0 0 := ⟨_, rfl⟩
  rw [← hR]
  have H0 : Hid (getR s p 10 0 0 = R) := hR.symm
  clear hR
  go_enter Tryz.func73, Tryz.ntmps73
  go_wp2
  go_loopw [5, 6] (fun a b wr => ∃ i u : Nat, i ≤ 10 ∧ b = .int .i64 i ∧ a = .int .u64 u ∧ u < 128 ^ i ∧ getR s p (10 - i) i u = R ∧ wr = w.alloc (.cells #[.int .i64 0, .int .i64 0, .int .i64 0] 82))
    (fun _ b _ => 10 - (RowKit.intOf b).toNat)
  case atStart => exact ⟨0, 0, by omega, rfl, rfl, by omega, H0.out, rfl⟩
  case round =>
    obtain ⟨i, u, hi, rfl, rfl, hu, hg, rfl⟩ := hrel
    by_cases h10 : i < 10
    rotate_left
    · obtain rfl : i = 10 := by omega
      have hf : Hid (R = .bad 3) := by rw [← hg]; rfl
      clear hg hu H0
      go_wp2
      refine bodyPost_ret (v := .agg #[.int .i64 0, .int .i64 0, .int .i64 3]) (by simp [results, Tryz.results73, go_sem]) rfl ⟨?_, ?_⟩
      · rw [hf.out]; rfl
      · repeat (first | exact Below.refl _ _ | refine Below.setCell ?_ (by simp) _ | refine Below.alloc ?_ (Nat.le_refl _) _)
    obtain ⟨f, hf⟩ : ∃ f, 10 - i = f + 1 := ⟨9 - i, by omega⟩
    rw [hf] at hg
    have HF : Hid (10 - i = f + 1) := hf
    have HU : Hid (u < 128 ^ i) := hu
    have HG : Hid (getR s p (f + 1) i u = R) := hg
    clear hu hg H0 hf
    by_cases hsh : s.size ≤ p + i
    · have hfin : Hid (R = .bad 4) := by rw [← HG.out]; exact getR_short hsh
      go_wp2
      refine bodyPost_ret (v := .agg #[.int .i64 0, .int .i64 0, .int .i64 4]) (by simp [results, Tryz.results73, go_sem]) rfl ⟨?_, ?_⟩
      · rw [hfin.out]; rfl
      · repeat (first | exact Below.refl _ _ | refine Below.setCell ?_ (by simp) _ | refine Below.alloc ?_ (Nat.le_refl _) _)
    have hlt : p + i < s.size := by omega
    have HB : Hid (bNu s (p + i) = s[p + i].toNat) := bU_eq s (p + i) hlt
    have hbl : (s[p + i].toNat : Int) ≤ 255 := by have := bU_lt s (p + i); rw [HB.out] at this; omega
    by_cases h9 : i = 9 ∧ 1 < s[p + i].toNat
    · obtain ⟨h9a, h9b⟩ := h9
      have hfin : Hid (R = .bad 3) := by
        rw [← HG.out]
        subst h9a
        exact getR_ninth hlt (by rw [HB.out]; exact h9b)
      have e9 : ((i : Int) == 9) = true := by rw [beq_iff_eq]; omega
      have e9b : (1 : Int) < (s[p + i].toNat : Int) := by omega
      clear h9a
      go_wp2
      refine bodyPost_ret (v := .agg #[.int .i64 0, .int .i64 0, .int .i64 3]) (by simp [results, Tryz.results73, go_sem]) rfl ⟨?_, ?_⟩
      · rw [hfin.out]; rfl
      · repeat (first | exact Below.refl _ _ | refine Below.setCell ?_ (by simp) _ | refine Below.alloc ?_ (Nat.le_refl _) _)
    have H9 : Hid (i = 9 → bNu s (p + i) ≤ 1) := fun e => by rw [HB.out]; omega
    have hw1 := wrapSh hlt (by omega) H9.out
    have hxl := sh7_le (s := s) (j := p + i) (by omega) H9.out
    obtain ⟨x, hx⟩ : ∃ x, x = sh7 i (bNu s (p + i) % 128) := ⟨_, rfl⟩
    rw [← hx] at hw1 hxl
    obtain ⟨hw2, hvl⟩ := wrapSum HU.out (by omega) hxl
    obtain ⟨v, hv⟩ : ∃ v, v = u + x := ⟨_, rfl⟩
    rw [← hv] at hw2 hvl
    have hvl' : (v : Int) ≤ 18446744073709551615 := by omega
    have HV : Hid (v = u + sh7 i (bNu s (p + i) % 128)) := (by rw [hv, hx] : v = u + sh7 i (bNu s (p + i) % 128))
    clear hx hv hxl hvl
    have h9c : ((i : Int) == 9) = true ∧ (s[p + i].toNat : Int) ≤ 1 ∨ ((i : Int) == 9) = false := by
      by_cases h : i = 9
      · left; exact ⟨by rw [beq_iff_eq]; omega, by omega⟩
      · right; rw [beq_eq_false_iff_ne]; omega
    have h9d : Hid (((i : Int) == 9) = false → i < 9) := fun h => by rw [beq_eq_false_iff_ne] at h; omega
    clear h9
    by_cases hc : 128 ≤ (s[p + i].toNat : Int)
    · rcases h9c with ⟨e9, e1⟩ | e9
      · exfalso; omega
      have hi9 := h9d.out e9
      have HN : Hid (getR s p f (i + 1) v = R) := (by rw [← HG.out, getR_more hlt H9.out (by rw [HB.out]; omega), ← HV.out] : getR s p f (i + 1) v = R)
      have HVB : Hid (v < 128 ^ (i + 1)) := by rw [HV.out]; exact sh7_bound HU.out (by omega)
      go_wp2
      go_roundw
      case rel => exact ⟨i + 1, v, by omega, by go_num, rfl, HVB.out, by rw [show 10 - (i + 1) = f from by have := HF.out; omega]; exact HN.out, trivial⟩
      case measure => simp [RowKit.intOf]; omega
    by_cases hz : s[p + i].toNat = 0 ∧ 0 < i
    · have hfin : Hid (R = .bad 3) := by
        rw [← HG.out]
        exact getR_zero hlt (by rw [HB.out]; exact hz.1) hz.2
      have ez : ((s[p + i].toNat : Int) == 0) = true := by rw [beq_iff_eq]; omega
      have ei : (0 : Int) < (i : Int) := by omega
      clear hz
      rcases h9c with ⟨e9, e1⟩ | e9
      all_goals
        go_wp2
        refine bodyPost_ret (v := .agg #[.int .i64 0, .int .i64 0, .int .i64 3]) (by simp [results, Tryz.results73, go_sem]) rfl ⟨?_, ?_⟩
        · rw [hfin.out]; rfl
        · repeat (first | exact Below.refl _ _ | refine Below.setCell ?_ (by simp) _ | refine Below.alloc ?_ (Nat.le_refl _) _)
    have hfin : Hid (R = ⟨unI v, (p + i + 1 : Nat), 0⟩) := (by
      rw [← HG.out, getR_last hlt H9.out (by rw [HB.out]; omega) (by rw [HB.out]; exact hz), ← HV.out] : R = ⟨unI v, (p + i + 1 : Nat), 0⟩)
    have hz2 : ((s[p + i].toNat : Int) == 0) = false ∨ (i : Int) ≤ 0 ∧ ((s[p + i].toNat : Int) == 0) = true := by
      by_cases h : s[p + i].toNat = 0
      · right; exact ⟨by omega, by rw [beq_iff_eq]; omega⟩
      · left; rw [beq_eq_false_iff_ne]; omega
    clear hz
    by_cases hodd : v % 2 = 1
    · have eo : ((v : Int) % 2 == 1) = true := by rw [beq_iff_eq]; omega
      have hun : Hid (unI v = -((v : Int) / 2) - 1) := by unfold Hid unI; rw [if_pos hodd]; omega
      clear hodd
      rcases h9c with ⟨e9, e1⟩ | e9 <;> rcases hz2 with ez | ⟨ei, ez⟩
      all_goals
        go_wp2
        refine bodyPost_ret (v := .agg #[.int .i64 (-((v : Int) / 2) - 1), .int .i64 ((p : Int) + (i : Int) + 1), .int .i64 0]) (by simp [results, Tryz.results73, go_sem]) rfl ⟨?_, ?_⟩
        · rw [hfin.out, numV, hun.out]; simp only [Int.natCast_add]; rfl
        · repeat (first | exact Below.refl _ _ | refine Below.setCell ?_ (by simp) _ | refine Below.alloc ?_ (Nat.le_refl _) _)
    · have eo : ((v : Int) % 2 == 1) = false := by rw [beq_eq_false_iff_ne]; omega
      have hun : Hid (unI v = (v : Int) / 2) := by unfold Hid unI; rw [if_neg hodd]; omega
      clear hodd
      rcases h9c with ⟨e9, e1⟩ | e9 <;> rcases hz2 with ez | ⟨ei, ez⟩
      all_goals
        go_wp2
        refine bodyPost_ret (v := .agg #[.int .i64 ((v : Int) / 2), .int .i64 ((p : Int) + (i : Int) + 1), .int .i64 0]) (by simp [results, Tryz.results73, go_sem]) rfl ⟨?_, ?_⟩
        · rw [hfin.out, numV, hun.out]; simp only [Int.natCast_add]; rfl
        · repeat (first | exact Below.refl _ _ | refine Below.setCell ?_ (by simp) _ | refine Below.alloc ?_ (Nat.le_refl _) _)
end Go.Proofs.YtjkmfjegphpjkaaGreatDoor
namespace Go.Proofs.YtjkmfjegphpjkaaGreatDoor
open Go.RowKit Go.Lib

theorem specGet_any (s : ByteArray) (p : Int) (w : World) (hs : s.size ≤ maxLen) (hp0 : -9223372036854775808 ≤ p) (hp1 : p ≤ 9223372036854775807) :
    Calls Tryz.prog 73 #[.string s, .int .i64 p] w fun e w' => e = .returned (numV (numAt s p)) ∧ Below w.heap.size w w' := by
  unfold maxLen at hs
  by_cases h1 : 20000 < s.size
  · rw [numAt, if_pos h1]
    go_enter Tryz.func73, Tryz.ntmps73
    go_wp2
    refine bodyPost_ret (v := .agg #[.int .i64 0, .int .i64 0, .int .i64 2]) (by simp [results, Tryz.results73, go_sem]) rfl ⟨rfl, ?_⟩
    repeat (first | exact Below.refl _ _ | refine Below.setCell ?_ (by simp) _ | refine Below.alloc ?_ (Nat.le_refl _) _)
  by_cases h2 : p < 0
  · rw [numAt, if_neg h1, if_pos h2]
    go_enter Tryz.func73, Tryz.ntmps73
    go_wp2
    refine bodyPost_ret (v := .agg #[.int .i64 0, .int .i64 0, .int .i64 1]) (by simp [results, Tryz.results73, go_sem]) rfl ⟨rfl, ?_⟩
    repeat (first | exact Below.refl _ _ | refine Below.setCell ?_ (by simp) _ | refine Below.alloc ?_ (Nat.le_refl _) _)
  obtain ⟨q, rfl⟩ := Int.eq_ofNat_of_zero_le (show 0 ≤ p by omega)
  rw [numAt, if_neg h1, if_neg h2, Int.toNat_natCast]
  exact specGet s q w (by omega) hp1
end Go.Proofs.YtjkmfjegphpjkaaGreatDoor
namespace Go.Proofs.YtjkmfjegphpjkaaGreatDoor
open Go.RowKit Go.Lib

set_option maxHeartbeats 2000000 in
set_option maxRecDepth 100000 in
theorem specGetText (s : ByteArray) (p : Int) (w : World) (hs : s.size ≤ maxLen) (hp0 : -9223372036854775808 ≤ p) (hp1 : p ≤ 9223372036854775807) :
    Calls Tryz.prog 74 #[.string s, .int .i64 p] w fun e w' => e = .returned (textR s (numAt s p)) ∧ Below w.heap.size w w' := by
  have hget := fun W => specGet_any s p W hs hp0 hp1
  have hat := @numAt_at s p
  unfold numV at hget
  generalize numAt s p = R at *
  have HS : Hid (∀ w, Calls Tryz.prog 73 #[.string s, .int .i64 p] w fun e w' => e = .returned (.agg #[.int .i64 R.n, .int .i64 R.at', .int .i64 R.code]) ∧ Below w.heap.size w w') := hget
  have HA : Hid (R.code = 0 → s.size ≤ 20000 ∧ 0 < R.at' ∧ R.at' ≤ s.size) := hat
  clear hget hat
  go_enter Tryz.func74, Tryz.ntmps74
  go_wp2_with fail
  refine (HS.out _).mono ?_
  rintro e w1 ⟨rfl, hb⟩
  have hB : Below (w.heap.size + 1) (w.alloc (.cells #[.string ⟨#[]⟩, .int .i64 0, .int .i64 0] 26)) w1 := by simpa using hb
  have c0 : w1.cell? ⟨w.heap.size, 0, none⟩ = some (.string ⟨#[]⟩) := (hB.cell (by simp)).trans (by simp)
  have c1 : w1.cell? ⟨w.heap.size, 1, none⟩ = some (.int .i64 0) := (hB.cell (by simp)).trans (by simp)
  have c2 : w1.cell? ⟨w.heap.size, 2, none⟩ = some (.int .i64 0) := (hB.cell (by simp)).trans (by simp)
  have f0 : w1.frozen? ⟨w.heap.size, 0, none⟩ = false := (hB.frozen (by simp)).trans (by simp)
  have f1 : w1.frozen? ⟨w.heap.size, 1, none⟩ = false := (hB.frozen (by simp)).trans (by simp)
  have f2 : w1.frozen? ⟨w.heap.size, 2, none⟩ = false := (hB.frozen (by simp)).trans (by simp)
  have hz : w.heap.size < w1.heap.size := by have := hB.size; simp at this; omega
  have HB : Hid (Below w.heap.size w w1) := ((Below.refl _ w).alloc (Nat.le_refl _) _).trans (hB.mono (Nat.le_succ _))
  clear hb hB
  by_cases hc : R.code = 0
  rotate_left
  · have hfin : Hid (textR s R = outV ByteArray.empty 0 R.code) := by unfold Hid textR; rw [if_pos hc]
    have ec : (R.code != 0) = true := by rw [bne_iff_ne]; exact hc
    clear hc
    go_wp2
    refine bodyPost_ret (v := .agg #[.string ⟨#[]⟩, .int .i64 0, .int .i64 R.code]) (by simp [results, Tryz.results74, go_sem, c0, c1, c2, hz]) rfl ⟨?_, ?_⟩
    · rw [hfin.out]; rfl
    · repeat (first | exact HB.out | refine Below.setCell ?_ (by simp) _ | refine Below.alloc ?_ (by simp; omega) _)
  obtain ⟨hs2, ha0, ha1⟩ := HA.out hc
  have ec : (R.code != 0) = false := by rw [bne_eq_false_iff_eq]; exact hc
  have HC : Hid (R.code = 0) := hc
  clear hc
  by_cases hn0 : R.n < 0
  · have hfin : Hid (textR s R = outV ByteArray.empty 0 3) := by unfold Hid textR; rw [if_neg (by simp [HC.out]), if_pos (.inl hn0)]
    go_wp2
    refine bodyPost_ret (v := .agg #[.string ⟨#[]⟩, .int .i64 0, .int .i64 3]) (by simp [results, Tryz.results74, go_sem, c0, c1, c2, hz]) rfl ⟨?_, ?_⟩
    · rw [hfin.out]; rfl
    · repeat (first | exact HB.out | refine Below.setCell ?_ (by simp) _ | refine Below.alloc ?_ (by simp; omega) _)
  by_cases hn1 : 20000 < R.n
  · have hfin : Hid (textR s R = outV ByteArray.empty 0 3) := by unfold Hid textR; rw [if_neg (by simp [HC.out]), if_pos (.inr hn1)]
    go_wp2
    refine bodyPost_ret (v := .agg #[.string ⟨#[]⟩, .int .i64 0, .int .i64 3]) (by simp [results, Tryz.results74, go_sem, c0, c1, c2, hz]) rfl ⟨?_, ?_⟩
    · rw [hfin.out]; rfl
    · repeat (first | exact HB.out | refine Below.setCell ?_ (by simp) _ | refine Below.alloc ?_ (by simp; omega) _)
  by_cases hsh : (s.size : Int) - R.n < R.at'
  · have hfin : Hid (textR s R = outV ByteArray.empty 0 4) := by unfold Hid textR; rw [if_neg (by simp [HC.out]), if_neg (by omega), if_pos hsh]
    go_wp2
    refine bodyPost_ret (v := .agg #[.string ⟨#[]⟩, .int .i64 0, .int .i64 4]) (by simp [results, Tryz.results74, go_sem, c0, c1, c2, hz]) rfl ⟨?_, ?_⟩
    · rw [hfin.out]; rfl
    · repeat (first | exact HB.out | refine Below.setCell ?_ (by simp) _ | refine Below.alloc ?_ (by simp; omega) _)
  have hfin : Hid (textR s R = outV (s.extract R.at'.toNat (R.at' + R.n).toNat) (R.at' + R.n) 0) := by unfold Hid textR; rw [if_neg (by simp [HC.out]), if_neg (by omega), if_neg hsh]
  have ew : IntKind.i64.wrap (R.at' + R.n) = R.at' + R.n := by rw [IntKind.wrap_i64]; omega
  have q1 : R.at' ≤ R.at' + R.n := by omega
  have q2 : R.at' + R.n ≤ (s.size : Int) := by omega
  have q3 : (0 : Int) ≤ R.at' := by omega
  go_wp2_with fail
  go_region
  go_wp2
  refine bodyPost_ret (v := .agg #[.string (s.extract R.at'.toNat (R.at' + R.n).toNat), .int .i64 (R.at' + R.n), .int .i64 0]) (by simp [results, Tryz.results74, go_sem, c0, c1, c2, hz]) rfl ⟨?_, ?_⟩
  · rw [hfin.out]; rfl
  · repeat (first | exact HB.out | refine Below.drew ?_ | refine Below.setCell ?_ (by simp) _ | refine Below.alloc ?_ (by simp; omega) _)
end Go.Proofs.YtjkmfjegphpjkaaGreatDoor
