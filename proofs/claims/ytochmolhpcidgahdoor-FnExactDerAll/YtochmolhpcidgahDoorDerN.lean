/- impl.readThing, impl.DerGet, walked. -/
import Derived.Test.YtochmolhpcidgahDoorDerH
import Derived.Test.YtochmolhpcidgahDoorCopyT
import Derived.Test.YtochmolhpcidgahDoorErrT
import Derived.Test.YtochmolhpcidgahDoorResK
namespace Go.Proofs.YtochmolhpcidgahDoor
open Go.RowKit Go.Lib

/-- What readThing hands back. -/
def ThingOk (R : GetR) (e : Ending) : Prop :=
  R.code = 0 ∧ e = .returned (.tuple #[.agg #[.int .i64 R.tag, .string R.body], .int .i64 R.at', .nilIface]) ∨
  (∃ c, c ≠ 0 ∧ R = .bad c ∧ e = .returned (.tuple #[.agg #[.int .i64 0, .string ⟨#[]⟩], .int .i64 0, errV c]))
set_option maxHeartbeats 1000000 in
set_option maxRecDepth 100000 in
theorem readThing (s : ByteArray) (p : Int) (w : World) (hs : s.size ≤ maxLen) (hp : p ≤ 9223372036854775807) :
    Calls Tryd.prog 14 #[.string s, .int .i64 p] w fun e w' => ThingOk (getD s p) e ∧ Below w.heap.size w w' := by
  have hs' := hs
  unfold maxLen at hs'
  have HT : Hid (∀ v : World, Calls Tryd.prog 23 #[.string s, .int .i64 p] v fun e w' => (tagC s p = 0 ∧ e = .returned (.tuple #[.int .i64 (bN s p.toNat : Int), .nilIface]) ∨ tagC s p ≠ 0 ∧ e = .returned (.tuple #[.int .i64 0, errV (tagC s p)])) ∧ w' = v) := fun v => readTag s p v hs
  by_cases h0 : tagC s p = 0
  · have hf : s.size ≤ 20000 ∧ 0 ≤ p ∧ p.toNat < s.size ∧ tagB (bN s p.toNat : Int) = true := by
      unfold tagC at h0
      split at h0
      · simp at h0
      · split at h0
        · simp at h0
        · split at h0
          · simp at h0
          · split at h0
            · simp at h0
            · rename_i a b c d
              exact ⟨by omega, by omega, by omega, by simpa using d⟩
    obtain ⟨f1, f2, f3, f4⟩ := hf
    obtain ⟨k, rfl⟩ := Int.eq_ofNat_of_zero_le f2
    rw [show ((k : Int).toNat) = k from rfl] at f3 f4 HT
    have HG : Hid (getD s (k : Int) = if (lenAt s (k + 1)).1 = 0 then bodyAt s (bN s k) (lenAt s (k + 1)).2.1 (lenAt s (k + 1)).2.2 else .bad (lenAt s (k + 1)).1) := by
      show _ = _
      rw [← getAt_len f3 f4]
      unfold getD
      rw [if_neg (by omega), if_neg (by omega)]; rfl
    have HL : Hid (∀ v : World, Calls Tryd.prog 24 #[.string s, .int .i64 ((k : Int) + 1)] v fun e w' => LenOk (lenAt s (k + 1)) e ∧ w' = v) := fun v => by
      have := readLength s (k + 1) v f1
      simpa using this
    have ht := bN_lt s k
    have hlf : (lenAt s (k + 1)).1 = 0 → (lenAt s (k + 1)).2.1 ≤ 4000 ∧ (lenAt s (k + 1)).2.2 ≤ s.size := by
      have z2 := bN_lt s (k + 1 + 1)
      unfold lenAt
      repeat' split
      all_goals (intro h; simp at h ⊢; try omega)
    generalize lenAt s (k + 1) = R at *
    obtain ⟨c, n, f⟩ := R
    simp only at hlf HG
    generalize bN s k = t at *
    by_cases hc : c = 0
    · subst hc
      obtain ⟨hn, hfs⟩ := hlf rfl
      have HG1 := HG.out
      rw [if_pos rfl] at HG1
      have HL1 : Hid (∀ v : World, Calls Tryd.prog 24 #[.string s, .int .i64 ((k : Int) + 1)] v fun e w' => e = .returned (.tuple #[.int .i64 (n : Int), .int .i64 (f : Int), .nilIface]) ∧ w' = v) := fun v => by
        refine (HL.out v).mono ?_
        rintro e w' ⟨⟨_, rfl⟩ | ⟨h, _⟩, rfl⟩
        · exact ⟨rfl, rfl⟩
        · exact absurd rfl h
      have HT1 : Hid (∀ v : World, Calls Tryd.prog 23 #[.string s, .int .i64 (k : Int)] v fun e w' => e = .returned (.tuple #[.int .i64 (t : Int), .nilIface]) ∧ w' = v) := fun v => by
        refine (HT.out v).mono ?_
        rintro e w' ⟨⟨_, rfl⟩ | ⟨h, _⟩, rfl⟩
        · exact ⟨rfl, rfl⟩
        · exact absurd h0 h
      clear HT HL HG hlf h0 f4
      by_cases hsh : s.size < f + n
      · have HF : Hid (getD s (k : Int) = .bad 4) := HG1.trans (bodyAt_short hsh)
        clear HG1
        go_enter Tryd.func14, Tryd.ntmps14
        go_wp2_with fail
        refine (HT1.out _).mono ?_
        rintro e w' ⟨rfl, rfl⟩
        go_wp2_with fail
        refine (HL1.out _).mono ?_
        rintro e w' ⟨rfl, rfl⟩
        go_wp2
        refine bodyPost_ret (v := .tuple #[.agg #[.int .i64 0, .string ⟨#[]⟩], .int .i64 0, errV 4]) (by simp [errV, results, Tryd.results14, go_sem]) rfl ⟨.inr ⟨_, by decide, HF.out, rfl⟩, ?_⟩
        repeat (first | exact Below.refl _ _ | refine Below.setCell ?_ (by simp) _ | refine Below.alloc ?_ (by simp) _)
      · have HF : Hid (getD s (k : Int) = _) := HG1.trans (bodyAt_ok (by omega))
        clear HG1
        go_enter Tryd.func14, Tryd.ntmps14
        go_wp2_with fail
        refine (HT1.out _).mono ?_
        rintro e w' ⟨rfl, rfl⟩
        go_wp2_with fail
        refine (HL1.out _).mono ?_
        rintro e w' ⟨rfl, rfl⟩
        go_wp2_with fail
        refine (copyText _ _ (by rw [ByteArray.size_extract]; omega)).mono ?_
        rintro e w1 ⟨rfl, hb1⟩
        obtain ⟨hr, hB, _⟩ := resKeep (cs := [.int .i64 0, .string ⟨#[]⟩]) (T := 23) hb1
        obtain ⟨⟨c0, c1⟩, g0, g1⟩ := cells2 hr
        clear hb1 hr
        generalize s.extract f (f + n) = b at *
        go_wp2
        refine bodyPost_ret (v := .tuple #[.agg #[.int .i64 (t : Int), .string b], .int .i64 ((f : Int) + (n : Int)), .nilIface]) (by simp [results, Tryd.results14, go_sem, c0, c1]) rfl ⟨.inl ?_, ?_⟩
        · rw [HF.out]
          exact ⟨rfl, by simp⟩
        repeat (first | exact hB | refine Below.setCell ?_ (by simp) _)
    · have HF : Hid (getD s (k : Int) = .bad (c : Int)) := HG.out.trans (if_neg hc)
      have HL1 : Hid (∀ v : World, Calls Tryd.prog 24 #[.string s, .int .i64 ((k : Int) + 1)] v fun e w' => e = .returned (.tuple #[.int .i64 0, .int .i64 0, .iface 41 (.agg #[.int .i64 (c : Int)])]) ∧ w' = v) := fun v => by
        refine (HL.out v).mono ?_
        rintro e w' ⟨⟨h, _⟩ | ⟨_, rfl⟩, rfl⟩
        · exact absurd h hc
        · exact ⟨rfl, rfl⟩
      have HT1 : Hid (∀ v : World, Calls Tryd.prog 23 #[.string s, .int .i64 (k : Int)] v fun e w' => e = .returned (.tuple #[.int .i64 (t : Int), .nilIface]) ∧ w' = v) := fun v => by
        refine (HT.out v).mono ?_
        rintro e w' ⟨⟨_, rfl⟩ | ⟨h, _⟩, rfl⟩
        · exact ⟨rfl, rfl⟩
        · exact absurd h0 h
      have HC : Hid ((c : Int) ≠ 0) := by show _ ≠ _; omega
      clear HT HL HG hlf h0 f4 hc
      go_enter Tryd.func14, Tryd.ntmps14
      go_wp2_with fail
      refine (HT1.out _).mono ?_
      rintro e w' ⟨rfl, rfl⟩
      go_wp2_with fail
      refine (HL1.out _).mono ?_
      rintro e w' ⟨rfl, rfl⟩
      go_wp2
      refine bodyPost_ret (v := .tuple #[.agg #[.int .i64 0, .string ⟨#[]⟩], .int .i64 0, errV (c : Int)]) (by simp [errV, results, Tryd.results14, go_sem]) rfl ⟨.inr ⟨_, HC.out, HF.out, rfl⟩, ?_⟩
      repeat (first | exact Below.refl _ _ | refine Below.setCell ?_ (by simp) _ | refine Below.alloc ?_ (by simp) _)
  · have HF : Hid (getD s p = .bad (tagC s p)) := by
      show _ = _
      unfold getD
      unfold tagC at h0 ⊢
      split
      · rfl
      · split
        · rfl
        · split
          · rename_i h; rw [getAt_end h]
          · rename_i h1
            split
            · rename_i h; rw [getAt_tag (by omega) h]
            · rename_i h2; simp_all
    have HT1 : Hid (∀ v : World, Calls Tryd.prog 23 #[.string s, .int .i64 p] v fun e w' => e = .returned (.tuple #[.int .i64 0, .iface 41 (.agg #[.int .i64 (tagC s p)])]) ∧ w' = v) := fun v => by
      refine (HT.out v).mono ?_
      rintro e w' ⟨⟨h, _⟩ | ⟨_, rfl⟩, rfl⟩
      · exact absurd h h0
      · exact ⟨rfl, rfl⟩
    have HC : Hid (tagC s p ≠ 0) := h0
    generalize tagC s p = c at *
    clear HT h0
    go_enter Tryd.func14, Tryd.ntmps14
    go_wp2_with fail
    refine (HT1.out _).mono ?_
    rintro e w' ⟨rfl, rfl⟩
    go_wp2
    refine bodyPost_ret (v := .tuple #[.agg #[.int .i64 0, .string ⟨#[]⟩], .int .i64 0, errV c]) (by simp [errV, results, Tryd.results14, go_sem]) rfl ⟨.inr ⟨_, HC.out, HF.out, rfl⟩, ?_⟩
    repeat (first | exact Below.refl _ _ | refine Below.setCell ?_ (by simp) _ | refine Below.alloc ?_ (by simp) _)
set_option maxHeartbeats 2000000 in
set_option maxRecDepth 100000 in
theorem implDerGet (s : ByteArray) (p : Int) (w : World) (hs : s.size ≤ maxLen) (hp : p ≤ 9223372036854775807) (hg : ErrType w) :
    Calls Tryd.prog 6 #[.string s, .int .i64 p] w fun e w' => e = .returned (getD s p).val ∧ Below w.heap.size w w' := by
  have hread := fun W => readThing s p W hs hp
  generalize getD s p = R at *
  have HR : Hid (∀ W, Calls Tryd.prog 14 #[.string s, .int .i64 p] W fun e w' => ThingOk R e ∧ Below W.heap.size W w') := hread
  have HG : Hid (ErrType w) := hg
  have hpos := hg.pos
  clear hread hg
  go_enter Tryd.func6, Tryd.ntmps6
  go_wp2_with fail
  refine (HR.out _).mono ?_
  rintro e w1 ⟨hb, hB0⟩
  obtain ⟨hr, hB, hz⟩ := resKeep (cs := [.int .i64 0, .string ⟨#[]⟩, .int .i64 0, .int .i64 0]) (T := 25) hB0
  have HG1 : Hid (ErrType w1) := HG.out.below hB hpos
  have HB : Hid (Below w.heap.size w w1) := hB
  have HRow : Hid (w1.heap[w.heap.size]? = some (.cells [.int .i64 0, .string ⟨#[]⟩, .int .i64 0, .int .i64 0].toArray 25 (0, 0))) := hr
  clear hB0 hB hr
  rcases hb with ⟨hc, rfl⟩ | ⟨c, hc, rfl, rfl⟩
  · obtain ⟨⟨c0, c1, c2, c3⟩, f0, f1, f2, f3⟩ := cells4 HRow.out
    obtain ⟨r0, r1, r2, r3⟩ := R
    have HC : Hid (r3 = 0) := hc
    clear hc
    go_wp2_with fail
    refine (as_nil _ _).mono ?_
    rintro e w' ⟨rfl, rfl⟩
    go_wp2
    refine bodyPost_ret (v := .agg #[.int .i64 r0, .string r1, .int .i64 r2, .int .i64 0]) (by simp [results, Tryd.results6, go_sem, c0, c1, c2, c3, hz, Nat.lt_succ_of_lt hz]) rfl ⟨?_, ?_⟩
    · rw [HC.out]; rfl
    · repeat (first | exact HB.out | refine Below.setCell ?_ (by simp) _ | refine Below.alloc ?_ (by simp <;> omega) _)
  · have HG2 : Hid (∀ o1 o2, ErrType ((w1.alloc o1).alloc o2)) := fun o1 o2 => HG1.out.below (((Below.refl _ _).alloc (Nat.le_refl _) o1).alloc (by simp) o2) (by omega)
    clear hc
    unfold errV
    go_wp2_with fail
    refine (as_hit2 ⟨w1.heap.size + 1, 0, none⟩ c (.int .i64 0) _ (HG2.out _ _) (by simp) (by simp)).mono ?_
    rintro e w2 ⟨rfl, hcc, hb2⟩
    have hB3 : Below w1.heap.size w1 w2 := (((Below.refl _ w1).alloc (Nat.le_refl _) _).alloc (by simp) _).trans (hb2.mono (by simp))
    have HRow2 : w2.heap[w.heap.size]? = some (.cells [.int .i64 0, .string ⟨#[]⟩, .int .i64 0, .int .i64 0].toArray 25 (0, 0)) := by rw [hB3.block _ hz]; exact HRow.out
    obtain ⟨⟨c0, c1, c2, c3⟩, f0, f1, f2, f3⟩ := cells4 HRow2
    have HB2 : Hid (Below w.heap.size w w2) := HB.out.trans (hB3.mono (Nat.le_of_lt hz))
    clear hb2 hB3 HRow2
    go_wp2
    refine bodyPost_ret (v := GetR.val (.bad c)) (by simp [GetR.val, GetR.bad, results, Tryd.results6, go_sem, c0, c1, c2, c3]) rfl ⟨rfl, ?_⟩
    repeat (first | exact HB2.out | refine Below.setCell ?_ (by simp) _)
end Go.Proofs.YtochmolhpcidgahDoor
