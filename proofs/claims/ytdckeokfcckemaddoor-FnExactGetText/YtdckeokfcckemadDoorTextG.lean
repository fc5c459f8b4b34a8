/- spec.GetText, walked. -/
import Derived.Test.YtdckeokfcckemadDoorNumD
import Derived.Test.YtdckeokfcckemadDoorCopyStr
import Derived.Deep.RegionHeld3
namespace Go.Proofs.YtdckeokfcckemadDoor
open Go.RowKit Go.Lib

theorem getR_at (s : ByteArray) (p f i u : Nat) : (getR s p f i u).code = 0 → 0 < (getR s p f i u).at' ∧ (getR s p f i u).at' ≤ s.size := by
  induction f generalizing i u with
  | zero => intro h; simp [getR, NumR.bad] at h
  | succ f ih =>
    rw [getR]
    split
    · intro h; simp [NumR.bad] at h
    · split
      · intro h; simp [NumR.bad] at h
      · split
        · split
          · intro h; simp [NumR.bad] at h
          · intro _; simp only; omega
        · exact ih _ _
theorem numAt_at {s : ByteArray} {p : Int} (h : (numAt s p).code = 0) : s.size ≤ 20000 ∧ 0 < (numAt s p).at' ∧ (numAt s p).at' ≤ s.size := by
  unfold numAt at *
  split at h
  · simp [NumR.bad] at h
  · rename_i h1
    split at h
    · simp [NumR.bad] at h
    · rename_i h2
      rw [if_neg h1, if_neg h2]
      exact ⟨by omega, getR_at s _ _ _ _ h⟩
def outV (t : ByteArray) (at' code : Int) : Value := .agg #[.string t, .int .i64 at', .int .i64 code]
/-- What GetText answers, by what is read as the length. -/
def textR (s : ByteArray) (R : NumR) : Value :=
  if R.code ≠ 0 then outV ByteArray.empty 0 R.code else if R.n < 0 ∨ 20000 < R.n then outV ByteArray.empty 0 3
  else if (s.size : Int) - R.n < R.at' then outV ByteArray.empty 0 4 else outV (s.extract R.at'.toNat (R.at' + R.n).toNat) (R.at' + R.n) 0

set_option maxHeartbeats 2000000 in
set_option maxRecDepth 100000 in
theorem specText (s : ByteArray) (p : Int) (w : World) (hs : s.size ≤ maxLen) (hp0 : -9223372036854775808 ≤ p) (hp1 : p ≤ 9223372036854775807) :
    Calls Tryd.prog 4 #[.string s, .int .i64 p] w fun e w' => e = .returned (textR s (numAt s p)) ∧ Below w.heap.size w w' := by
  have hget := fun W => specGet_any s p W hs hp0 hp1
  have hat := @numAt_at s p
  unfold numV at hget
  generalize numAt s p = R at *
  have HS : Hid (∀ w, Calls Tryd.prog 7 #[.string s, .int .i64 p] w fun e w' => e = .returned (.agg #[.int .i64 R.n, .int .i64 R.at', .int .i64 R.code]) ∧ Below w.heap.size w w') := hget
  have HA : Hid (R.code = 0 → s.size ≤ 20000 ∧ 0 < R.at' ∧ R.at' ≤ s.size) := hat
  clear hget hat
  go_enter Tryd.func4, Tryd.ntmps4
  go_wp2_with fail
  refine (HS.out _).mono ?_
  rintro e w1 ⟨rfl, hb⟩
  have hB : Below (w.heap.size + 1) (w.alloc (.cells #[.string ⟨#[]⟩, .int .i64 0, .int .i64 0] 23)) w1 := by simpa using hb
  have c0 : w1.cell? ⟨w.heap.size, 0, none⟩ = some (.string ⟨#[]⟩) := (hB.cell (by simp)).trans (by simp)
  have c1 : w1.cell? ⟨w.heap.size, 1, none⟩ = some (.int .i64 0) := (hB.cell (by simp)).trans (by simp)
  have c2 : w1.cell? ⟨w.heap.size, 2, none⟩ = some (.int .i64 0) := (hB.cell (by simp)).trans (by simp)
  have f0 : w1.frozen? ⟨w.heap.size, 0, none⟩ = false := (hB.frozen (by simp)).trans (by simp)
  have f1 : w1.frozen? ⟨w.heap.size, 1, none⟩ = false := (hB.frozen (by simp)).trans (by simp)
  have f2 : w1.frozen? ⟨w.heap.size, 2, none⟩ = false := (hB.frozen (by simp)).trans (by simp)
  have hz : w.heap.size < w1.heap.size := by have := hB.size; simp at this; omega
  have HB : Hid (Below w.heap.size w w1) := ((Below.refl _ w).alloc (Nat.le_refl _) _).trans (hB.mono (Nat.le_succ _))
  clear hb hB
  by_cases hc : R.code = 0
  rotate_left
  · have hfin : Hid (textR s R = outV ByteArray.empty 0 R.code) := by unfold Hid textR; rw [if_pos hc]
    have ec : (R.code != 0) = true := by rw [bne_iff_ne]; exact hc
    clear hc
    go_wp2
    refine bodyPost_ret (v := .agg #[.string ⟨#[]⟩, .int .i64 0, .int .i64 R.code]) (by simp [results, Tryd.results4, go_sem, c0, c1, c2, hz]) rfl ⟨?_, ?_⟩
    · rw [hfin.out]; rfl
    · repeat (first | exact HB.out | refine Below.setCell ?_ (by simp) _ | refine Below.alloc ?_ (by simp; omega) _)
  obtain ⟨hs2, ha0, ha1⟩ := HA.out hc
  have ec : (R.code != 0) = false := by rw [bne_eq_false_iff_eq]; exact hc
  have HC : Hid (R.code = 0) := hc
  clear hc
  by_cases hn0 : R.n < 0
  · have hfin : Hid (textR s R = outV ByteArray.empty 0 3) := by unfold Hid textR; rw [if_neg (by simp [HC.out]), if_pos (.inl hn0)]
    go_wp2
    refine bodyPost_ret (v := .agg #[.string ⟨#[]⟩, .int .i64 0, .int .i64 3]) (by simp [results, Tryd.results4, go_sem, c0, c1, c2, hz]) rfl ⟨?_, ?_⟩
    · rw [hfin.out]; rfl
    · repeat (first | exact HB.out | refine Below.setCell ?_ (by simp) _ | refine Below.alloc ?_ (by simp; omega) _)
  by_cases hn1 : 20000 < R.n
  · have hfin : Hid (textR s R = outV ByteArray.empty 0 3) := by unfold Hid textR; rw [if_neg (by simp [HC.out]), if_pos (.inr hn1)]
    go_wp2
    refine bodyPost_ret (v := .agg #[.string ⟨#[]⟩, .int .i64 0, .int .i64 3]) (by simp [results, Tryd.results4, go_sem, c0, c1, c2, hz]) rfl ⟨?_, ?_⟩
    · rw [hfin.out]; rfl
    · repeat (first | exact HB.out | refine Below.setCell ?_ (by simp) _ | refine Below.alloc ?_ (by simp; omega) _)
  by_cases hsh : (s.size : Int) - R.n < R.at'
  · have hfin : Hid (textR s R = outV ByteArray.empty 0 4) := by unfold Hid textR; rw [if_neg (by simp [HC.out]), if_neg (by omega), if_pos hsh]
    go_wp2
    refine bodyPost_ret (v := .agg #[.string ⟨#[]⟩, .int .i64 0, .int .i64 4]) (by simp [results, Tryd.results4, go_sem, c0, c1, c2, hz]) rfl ⟨?_, ?_⟩
    · rw [hfin.out]; rfl
    · repeat (first | exact HB.out | refine Below.setCell ?_ (by simp) _ | refine Below.alloc ?_ (by simp; omega) _)
  have hfin : Hid (textR s R = outV (s.extract R.at'.toNat (R.at' + R.n).toNat) (R.at' + R.n) 0) := by unfold Hid textR; rw [if_neg (by simp [HC.out]), if_neg (by omega), if_neg hsh]
  have ew : IntKind.i64.wrap (R.at' + R.n) = R.at' + R.n := by rw [IntKind.wrap_i64]; omega
  have q1 : R.at' ≤ R.at' + R.n := by omega
  have q2 : R.at' + R.n ≤ (s.size : Int) := by omega
  have q3 : (0 : Int) ≤ R.at' := by omega
  go_wp2_with fail
  go_region
  go_wp2
  refine bodyPost_ret (v := .agg #[.string (s.extract R.at'.toNat (R.at' + R.n).toNat), .int .i64 (R.at' + R.n), .int .i64 0]) (by simp [results, Tryd.results4, go_sem, c0, c1, c2, hz]) rfl ⟨?_, ?_⟩
  · rw [hfin.out]; rfl
  · repeat (first | exact HB.out | refine Below.drew ?_ | refine Below.setCell ?_ (by simp) _ | refine Below.alloc ?_ (by simp; omega) _)
end Go.Proofs.YtdckeokfcckemadDoor
