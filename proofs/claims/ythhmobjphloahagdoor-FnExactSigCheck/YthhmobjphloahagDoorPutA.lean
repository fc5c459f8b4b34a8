/- spec.PutNum, walked. -/
import Derived.Test.YthhmobjphloahagDoorBase
namespace Go.Proofs.YthhmobjphloahagDoor
open Go.RowKit


theorem specFold (n : Int) (w : World) (h0 : -9223372036854775808 ≤ n) (h1 : n ≤ 9223372036854775807) :
    Calls Tryd.prog 42 #[.int .i64 n] w fun e w' => e = .returned (.int .u64 (foldI n : Int)) ∧ w' = w := by
  by_cases hn : n < 0
  · go_enter Tryd.func42, Tryd.ntmps42
    go_wp2
    go_ret
    exact ⟨ret_int (by unfold foldI; rw [if_pos hn]; omega), rfl⟩
  · go_enter Tryd.func42, Tryd.ntmps42
    go_wp2
    go_ret
    exact ⟨ret_int (by unfold foldI; rw [if_neg (by omega)]; omega), rfl⟩

theorem putRel {B : Nat} {w wr w1 : World} {v v' : Value} {xs : List Int} {x : Int} (o : Obj) (hB : B ≤ wr.heap.size) (hb : Below B w wr) (hown : wr.ownsRow B 5 1 v xs.length (xs.map (Value.int .u8)))
    (hown' : w1.ownsRow B 5 1 v' (xs.length + 1) (xs.map (Value.int .u8) ++ [Value.int .u8 x])) (hg : (wr.alloc o).grownBy w1 v.ownBlock) :
    w1.ownsRow B 5 1 v' (xs ++ [x]).length ((xs ++ [x]).map (Value.int .u8)) ∧ Below B w w1 ∧ B ≤ w1.heap.size := by
  refine ⟨by simpa using hown', (hb.alloc hB o).grown hg (by simp; omega) (fun k hk => (hown.lt k hk).1), ?_⟩
  have := hg.size
  simp at this
  omega

set_option maxHeartbeats 1000000 in
set_option maxRecDepth 100000 in
theorem specPut (n : Int) (w : World) (h0 : -9223372036854775808 ≤ n) (h1 : n ≤ 9223372036854775807) :
    Calls Tryd.prog 23 #[.int .i64 n] w fun e w' => e = .returned (.string (strOfNums (putF 9 (foldI n)))) ∧ Below w.heap.size w w' := by
  obtain ⟨i0, hi, hz0, hz1, hz2⟩ := info_parts infoByte
  have hf : (foldI n : Int) ≤ 18446744073709551615 := by unfold foldI; split <;> omega
  obtain ⟨u, hu⟩ : ∃ u, u = foldI n := ⟨_, rfl⟩
  rw [← hu] at hf ⊢
  have HU : Hid (u = foldI n) := hu
  clear hu
  go_enter Tryd.func23, Tryd.ntmps23
  go_wp2_with fail
  refine (specFold n _ h0 h1).mono ?_
  rintro e w' ⟨rfl, rfl⟩
  rw [← HU.out]
  go_wp2_with fail
  go_loopw [3, 4] (fun a b wr => ∃ (x f : Nat) (xs : List Int), (x : Int) ≤ 18446744073709551615 ∧ x < pw f ∧ xs.length + f ≤ 9 ∧ a = .int .u64 x ∧ wr.ownsRow w'.heap.size 5 1 b xs.length (xs.map (Value.int .u8)) ∧
      Below w'.heap.size w' wr ∧ w'.heap.size ≤ wr.heap.size ∧ xs ++ putF f x = putF 9 u)
    (fun a _ _ => (intOf a).toNat)
  case atStart =>
    exact ⟨u, 9, [], hf, by rw [pw9]; omega, by simp, rfl, World.ownsRow_made _ #[] 0 (Nat.le_refl _) (Nat.zero_le _) rfl, (Below.refl _ _).alloc (Nat.le_refl _) _, by simp, by simp⟩
  case round =>
    obtain ⟨x, f, xs, hx, hpw, hlen, rfl, hown, hbel, hsz, heq⟩ := hrel
    have HE : Hid (xs ++ putF f x = putF 9 u) := heq
    have HP : Hid (x < pw f) := hpw
    clear heq hpw hf h0 h1
    by_cases hlt : 128 ≤ x
    · go_wp2_with (at_builtin; refine wpList_append_own _ rfl _ _ 56 rfl w'.heap.size 5 i0 (.int .u8 0) 1 1 Tryd.underlying56 hi hz0 hz1 hz2 rfl (by decide) _ _ _ rfl (hown.alloc _) ⟨wr.heap.size, 0, none⟩ 1 1 [.int .u8 ((x : Int) % 128 + 128)] rfl rfl ?c1 ?c2 ?c3 ?c4 ?c5 ?_)
      case c1 => exact cells_one (by simp)
      case c2 => intro u hu; simp at hu; subst hu; rfl
      case c3 => unfold maxLen; omega
      case c4 => omega
      case c5 => simp; omega
      intro v' w1 hown' hgrow _
      have R := putRel _ hsz hbel hown hown' hgrow
      clear hown' hgrow hown hbel
      go_wp2
      go_roundw
      case rel =>
        obtain ⟨g, rfl, hg⟩ := pw_step HP.out hlt
        have he := HE.out
        rw [putF_more hlt] at he
        refine ⟨x / 128, g, xs ++ [(x : Int) % 128 + 128], by omega, hg, by simp; omega, by go_num, R.1, R.2.1, R.2.2, ?_⟩
        rw [List.append_assoc, ← he]
        simp
      case measure => simp [intOf]; omega
    · go_wp2_with (at_builtin; refine wpList_append_own _ rfl _ _ 56 rfl w'.heap.size 5 i0 (.int .u8 0) 1 1 Tryd.underlying56 hi hz0 hz1 hz2 rfl (by decide) _ _ _ rfl (hown.alloc _) ⟨wr.heap.size, 0, none⟩ 1 1 [.int .u8 (x : Int)] rfl rfl ?d1 ?d2 ?d3 ?d4 ?d5 ?_)
      case d1 => exact cells_one (by simp)
      case d2 => intro u hu; simp at hu; subst hu; rfl
      case d3 => unfold maxLen; omega
      case d4 => omega
      case d5 => simp; omega
      intro v' w1 hown' hgrow _
      have R := putRel _ hsz hbel hown hown' hgrow
      clear hown' hgrow hown hbel
      have hcv := run_convert_own (P := Tryd.prog) (src := 56) (dst := 9) Tryd.underlying56 Tryd.underlying5 Tryd.underlying9 R.1
      have HR := R.2.1
      clear R
      go_wp2
      go_ret
      refine ⟨?_, HR⟩
      have he := HE.out
      rw [putF_last (by omega)] at he
      rw [← he]
      rfl
end Go.Proofs.YthhmobjphloahagDoor
