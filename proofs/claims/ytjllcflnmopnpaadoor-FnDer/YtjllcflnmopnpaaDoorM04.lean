/- impl.readThing, impl.DerGet, walked. Rows of things: what DerAll answers. No program is named here. A row of things of the call's own. spec.l05All, spec.DerAll, walked. impl.DerAll, walked. -/
import Derived.Test.YtjllcflnmopnpaaDoorM03
import Derived.Test.YtjllcflnmopnpaaDoorM02
import Derived.Test.YtjllcflnmopnpaaDoorM01
namespace Go.Proofs.YtjllcflnmopnpaaDoor
open Go.RowKit Go.Lib

/-- What readThing hands back. -/
def ThingOk (R : GetR) (e : Ending) : Prop :=
  R.code = 0 ∧ e = .returned (.tuple #[.agg #[.int .i64 R.tag, .string R.body], .int .i64 R.at', .nilIface]) ∨
  (∃ c, c ≠ 0 ∧ R = .bad c ∧ e = .returned (.tuple #[.agg #[.int .i64 0, .string ⟨#[]⟩], .int .i64 0, errV c]))
set_option maxHeartbeats 1000000 in
set_option maxRecDepth 100000 in
theorem readThing (s : ByteArray) (p : Int) (w : World) (hs : s.size ≤ maxLen) (hp : p ≤ 9223372036854775807) :
    Calls Tryd.prog 35 #[.string s, .int .i64 p] w fun e w' => ThingOk (getD s p) e ∧ Below w.heap.size w w' := by
  have hs' := hs
  unfold maxLen at hs'
  have HT : Hid (∀ v : World, Calls Tryd.prog 59 #[.string s, .int .i64 p] v fun e w' => (tagC s p = 0 ∧ e = .returned (.tuple #[.int .i64 (bN s p.toNat : Int), .nilIface]) ∨ tagC s p ≠ 0 ∧ e = .returned (.tuple #[.int .i64 0, errV (tagC s p)])) ∧ w' = v) := fun v => readTag s p v hs
  by_cases h0 : tagC s p = 0
  · have hf : s.size ≤ 20000 ∧ 0 ≤ p ∧ p.toNat < s.size ∧ tagB (bN s p.toNat : Int) = true := by
      unfold tagC at h0
      split at h0
      · simp at h0
      · split at h0
        · simp at h0
        · split at h0
          · simp at h0
          · split at h0
            · simp at h0
            · rename_i a b c d
              exact ⟨by omega, by omega, by omega, by simpa using d⟩
    obtain ⟨f1, f2, f3, f4⟩ := hf
    obtain ⟨k, rfl⟩ := Int.eq_ofNat_of_zero_le f2
    rw [show ((k : Int).toNat) = k from rfl] at f3 f4 HT
    have HG : Hid (getD s (k : Int) = if (lenAt s (k + 1)).1 = 0 then bodyAt s (bN s k) (lenAt s (k + 1)).2.1 (lenAt s (k + 1)).2.2 else .bad (lenAt s (k + 1)).1) := by
      show _ = _
      rw [← getAt_len f3 f4]
      unfold getD
      rw [if_neg (by omega), if_neg (by omega)]; rfl
    have HL : Hid (∀ v : World, Calls Tryd.prog 60 #[.string s, .int .i64 ((k : Int) + 1)] v fun e w' => LenOk (lenAt s (k + 1)) e ∧ w' = v) := fun v => by
      have := readLength s (k + 1) v f1
      simpa using this
    have ht := bN_lt s k
    have hlf : (lenAt s (k + 1)).1 = 0 → (lenAt s (k + 1)).2.1 ≤ 4000 ∧ (lenAt s (k + 1)).2.2 ≤ s.size := by
      have z2 := bN_lt s (k + 1 + 1)
      unfold lenAt
      repeat' split
      all_goals (intro h; simp at h ⊢; try omega)
    generalize lenAt s (k + 1) = R at *
    obtain ⟨c, n, f⟩ := R
    simp only at hlf HG
    generalize bN s k = t at *
    by_cases hc : c = 0
    · subst hc
      obtain ⟨hn, hfs⟩ := hlf rfl
      have HG1 := HG.out
      rw [if_pos rfl] at HG1
      have HL1 : Hid (∀ v : World, Calls Tryd.prog 60 #[.string s, .int .i64 ((k : Int) + 1)] v fun e w' => e = .returned (.tuple #[.int .i64 (n : Int), .int .i64 (f : Int), .nilIface]) ∧ w' = v) := fun v => by
        refine (HL.out v).mono ?_
        rintro e w' ⟨⟨_, rfl⟩ | ⟨h, _⟩, rfl⟩
        · exact ⟨rfl, rfl⟩
        · exact absurd rfl h
      have HT1 : Hid (∀ v : World, Calls Tryd.prog 59 #[.string s, .int .i64 (k : Int)] v fun e w' => e = .returned (.tuple #[.int .i64 (t : Int), .nilIface]) ∧ w' = v) := fun v => by
        refine (HT.out v).mono ?_
        rintro e w' ⟨⟨_, rfl⟩ | ⟨h, _⟩, rfl⟩
        · exact ⟨rfl, rfl⟩
        · exact absurd h0 h
      clear HT HL HG hlf h0 f4
      by_cases hsh : s.size < f + n
      · have HF : Hid (getD s (k : Int) = .bad 4) := HG1.trans (bodyAt_short hsh)
        clear HG1
        go_enter Tryd.func35, Tryd.ntmps35
        go_wp2_with fail
        refine (HT1.out _).mono ?_
        rintro e w' ⟨rfl, rfl⟩
        go_wp2_with fail
        refine (HL1.out _).mono ?_
        rintro e w' ⟨rfl, rfl⟩
        go_wp2
        refine bodyPost_ret (v := .tuple #[.agg #[.int .i64 0, .string ⟨#[]⟩], .int .i64 0, errV 4]) (by simp [errV, results, Tryd.results35, go_sem]) rfl ⟨.inr ⟨_, by decide, HF.out, rfl⟩, ?_⟩
        repeat (first | exact Below.refl _ _ | refine Below.setCell ?_ (by simp) _ | refine Below.alloc ?_ (by simp) _)
      · have HF : Hid (getD s (k : Int) = _) := HG1.trans (bodyAt_ok (by omega))
        clear HG1
        go_enter Tryd.func35, Tryd.ntmps35
        go_wp2_with fail
        refine (HT1.out _).mono ?_
        rintro e w' ⟨rfl, rfl⟩
        go_wp2_with fail
        refine (HL1.out _).mono ?_
        rintro e w' ⟨rfl, rfl⟩
        go_wp2_with fail
        refine (copyText _ _ (by rw [ByteArray.size_extract]; omega)).mono ?_
        rintro e w1 ⟨rfl, hb1⟩
        obtain ⟨hr, hB, _⟩ := resKeep (cs := [.int .i64 0, .string ⟨#[]⟩]) (T := 27) hb1
        obtain ⟨⟨c0, c1⟩, g0, g1⟩ := cells2 hr
        clear hb1 hr
        generalize s.extract f (f + n) = b at *
        go_wp2
        refine bodyPost_ret (v := .tuple #[.agg #[.int .i64 (t : Int), .string b], .int .i64 ((f : Int) + (n : Int)), .nilIface]) (by simp [results, Tryd.results35, go_sem, c0, c1]) rfl ⟨.inl ?_, ?_⟩
        · rw [HF.out]
          exact ⟨rfl, by simp⟩
        repeat (first | exact hB | refine Below.setCell ?_ (by simp) _)
    · have HF : Hid (getD s (k : Int) = .bad (c : Int)) := HG.out.trans (if_neg hc)
      have HL1 : Hid (∀ v : World, Calls Tryd.prog 60 #[.string s, .int .i64 ((k : Int) + 1)] v fun e w' => e = .returned (.tuple #[.int .i64 0, .int .i64 0, .iface 66 (.agg #[.int .i64 (c : Int)])]) ∧ w' = v) := fun v => by
        refine (HL.out v).mono ?_
        rintro e w' ⟨⟨h, _⟩ | ⟨_, rfl⟩, rfl⟩
        · exact absurd h hc
        · exact ⟨rfl, rfl⟩
      have HT1 : Hid (∀ v : World, Calls Tryd.prog 59 #[.string s, .int .i64 (k : Int)] v fun e w' => e = .returned (.tuple #[.int .i64 (t : Int), .nilIface]) ∧ w' = v) := fun v => by
        refine (HT.out v).mono ?_
        rintro e w' ⟨⟨_, rfl⟩ | ⟨h, _⟩, rfl⟩
        · exact ⟨rfl, rfl⟩
        · exact absurd h0 h
      have HC : Hid ((c : Int) ≠ 0) := by show _ ≠ _; omega
      clear HT HL HG hlf h0 f4 hc
      go_enter Tryd.func35, Tryd.ntmps35
      go_wp2_with fail
      refine (HT1.out _).mono ?_
      rintro e w' ⟨rfl, rfl⟩
      go_wp2_with fail
      refine (HL1.out _).mono ?_
      rintro e w' ⟨rfl, rfl⟩
      go_wp2
      refine bodyPost_ret (v := .tuple #[.agg #[.int .i64 0, .string ⟨#[]⟩], .int .i64 0, errV (c : Int)]) (by simp [errV, results, Tryd.results35, go_sem]) rfl ⟨.inr ⟨_, HC.out, HF.out, rfl⟩, ?_⟩
      repeat (first | exact Below.refl _ _ | refine Below.setCell ?_ (by simp) _ | refine Below.alloc ?_ (by simp) _)
  · have HF : Hid (getD s p = .bad (tagC s p)) := by
      show _ = _
      unfold getD
      unfold tagC at h0 ⊢
      split
      · rfl
      · split
        · rfl
        · split
          · rename_i h; rw [getAt_end h]
          · rename_i h1
            split
            · rename_i h; rw [getAt_tag (by omega) h]
            · rename_i h2; simp_all
    have HT1 : Hid (∀ v : World, Calls Tryd.prog 59 #[.string s, .int .i64 p] v fun e w' => e = .returned (.tuple #[.int .i64 0, .iface 66 (.agg #[.int .i64 (tagC s p)])]) ∧ w' = v) := fun v => by
      refine (HT.out v).mono ?_
      rintro e w' ⟨⟨h, _⟩ | ⟨_, rfl⟩, rfl⟩
      · exact absurd h h0
      · exact ⟨rfl, rfl⟩
    have HC : Hid (tagC s p ≠ 0) := h0
    generalize tagC s p = c at *
    clear HT h0
    go_enter Tryd.func35, Tryd.ntmps35
    go_wp2_with fail
    refine (HT1.out _).mono ?_
    rintro e w' ⟨rfl, rfl⟩
    go_wp2
    refine bodyPost_ret (v := .tuple #[.agg #[.int .i64 0, .string ⟨#[]⟩], .int .i64 0, errV c]) (by simp [errV, results, Tryd.results35, go_sem]) rfl ⟨.inr ⟨_, HC.out, HF.out, rfl⟩, ?_⟩
    repeat (first | exact Below.refl _ _ | refine Below.setCell ?_ (by simp) _ | refine Below.alloc ?_ (by simp) _)
set_option maxHeartbeats 2000000 in
set_option maxRecDepth 100000 in
theorem implDerGet (s : ByteArray) (p : Int) (w : World) (hs : s.size ≤ maxLen) (hp : p ≤ 9223372036854775807) (hg : ErrType w) :
    Calls Tryd.prog 7 #[.string s, .int .i64 p] w fun e w' => e = .returned (getD s p).val ∧ Below w.heap.size w w' := by
  have hread := fun W => readThing s p W hs hp
  generalize getD s p = R at *
  have HR : Hid (∀ W, Calls Tryd.prog 35 #[.string s, .int .i64 p] W fun e w' => ThingOk R e ∧ Below W.heap.size W w') := hread
  have HG : Hid (ErrType w) := hg
  have hpos := hg.pos
  clear hread hg
  go_enter Tryd.func7, Tryd.ntmps7
  go_wp2_with fail
  refine (HR.out _).mono ?_
  rintro e w1 ⟨hb, hB0⟩
  obtain ⟨hr, hB, hz⟩ := resKeep (cs := [.int .i64 0, .string ⟨#[]⟩, .int .i64 0, .int .i64 0]) (T := 29) hB0
  have HG1 : Hid (ErrType w1) := HG.out.below hB hpos
  have HB : Hid (Below w.heap.size w w1) := hB
  have HRow : Hid (w1.heap[w.heap.size]? = some (.cells [.int .i64 0, .string ⟨#[]⟩, .int .i64 0, .int .i64 0].toArray 29 (0, 0))) := hr
  clear hB0 hB hr
  rcases hb with ⟨hc, rfl⟩ | ⟨c, hc, rfl, rfl⟩
  · obtain ⟨⟨c0, c1, c2, c3⟩, f0, f1, f2, f3⟩ := cells4 HRow.out
    obtain ⟨r0, r1, r2, r3⟩ := R
    have HC : Hid (r3 = 0) := hc
    clear hc
    go_wp2_with fail
    refine (as_nil _ _).mono ?_
    rintro e w' ⟨rfl, rfl⟩
    go_wp2
    refine bodyPost_ret (v := .agg #[.int .i64 r0, .string r1, .int .i64 r2, .int .i64 0]) (by simp [results, Tryd.results7, go_sem, c0, c1, c2, c3, hz, Nat.lt_succ_of_lt hz]) rfl ⟨?_, ?_⟩
    · rw [HC.out]; rfl
    · repeat (first | exact HB.out | refine Below.setCell ?_ (by simp) _ | refine Below.alloc ?_ (by simp <;> omega) _)
  · have HG2 : Hid (∀ o1 o2, ErrType ((w1.alloc o1).alloc o2)) := fun o1 o2 => HG1.out.below (((Below.refl _ _).alloc (Nat.le_refl _) o1).alloc (by simp) o2) (by omega)
    clear hc
    unfold errV
    go_wp2_with fail
    refine (as_hit2 ⟨w1.heap.size + 1, 0, none⟩ c (.int .i64 0) _ (HG2.out _ _) (by simp) (by simp)).mono ?_
    rintro e w2 ⟨rfl, hcc, hb2⟩
    have hB3 : Below w1.heap.size w1 w2 := (((Below.refl _ w1).alloc (Nat.le_refl _) _).alloc (by simp) _).trans (hb2.mono (by simp))
    have HRow2 : w2.heap[w.heap.size]? = some (.cells [.int .i64 0, .string ⟨#[]⟩, .int .i64 0, .int .i64 0].toArray 29 (0, 0)) := by rw [hB3.block _ hz]; exact HRow.out
    obtain ⟨⟨c0, c1, c2, c3⟩, f0, f1, f2, f3⟩ := cells4 HRow2
    have HB2 : Hid (Below w.heap.size w w2) := HB.out.trans (hB3.mono (Nat.le_of_lt hz))
    clear hb2 hB3 HRow2
    go_wp2
    refine bodyPost_ret (v := GetR.val (.bad c)) (by simp [GetR.val, GetR.bad, results, Tryd.results7, go_sem, c0, c1, c2, c3]) rfl ⟨rfl, ?_⟩
    repeat (first | exact HB2.out | refine Below.setCell ?_ (by simp) _)
end Go.Proofs.YtjllcflnmopnpaaDoor
namespace Go.Proofs.YtjllcflnmopnpaaDoor
open Go.RowKit

/-- The things from a place on, behind those that were got; f rounds at most. -/
def allR (s : ByteArray) : Nat → Nat → List (Int × ByteArray) → List (Int × ByteArray) × Int
  | 0, _, acc => (acc, 0)
  | f + 1, k, acc => if s.size ≤ k then (acc, 0) else if (getAt s k).code ≠ 0 then ([], (getAt s k).code) else if 60 ≤ acc.length then ([], 11)
    else allR s f (getAt s k).at'.toNat (acc ++ [((getAt s k).tag, (getAt s k).body)])
def allD (s : ByteArray) : List (Int × ByteArray) × Int := if 20000 < s.size then ([], 2) else allR s (s.size + 1) 0 []
theorem allR_end {s : ByteArray} {f k : Nat} {acc : List (Int × ByteArray)} (h : s.size ≤ k) : allR s f k acc = (acc, 0) := by
  cases f with
  | zero => rfl
  | succ f => rw [allR, if_pos h]
theorem allR_bad {s : ByteArray} {f k : Nat} {acc : List (Int × ByteArray)} (h : k < s.size) (hc : (getAt s k).code ≠ 0) : allR s (f + 1) k acc = ([], (getAt s k).code) := by
  rw [allR, if_neg (by omega), if_pos hc]
theorem allR_full {s : ByteArray} {f k : Nat} {acc : List (Int × ByteArray)} (h : k < s.size) (hc : (getAt s k).code = 0) (ha : 60 ≤ acc.length) : allR s (f + 1) k acc = ([], 11) := by
  rw [allR, if_neg (by omega), if_neg (by simp [hc]), if_pos ha]
theorem allR_more {s : ByteArray} {f k : Nat} {acc : List (Int × ByteArray)} (h : k < s.size) (hc : (getAt s k).code = 0) (ha : acc.length < 60) :
    allR s (f + 1) k acc = allR s f (getAt s k).at'.toNat (acc ++ [((getAt s k).tag, (getAt s k).body)]) := by
  rw [allR, if_neg (by omega), if_neg (by simp [hc]), if_neg (by omega)]
theorem allR_len (s : ByteArray) : ∀ (f k : Nat) (acc : List (Int × ByteArray)), acc.length ≤ 60 → (allR s f k acc).1.length ≤ 60
  | 0, _, acc, h => h
  | f + 1, k, acc, h => by
    rw [allR]
    split
    · exact h
    · split
      · simp
      · split
        · simp
        · exact allR_len s f _ _ (by simp; omega)
theorem allD_len (s : ByteArray) : (allD s).1.length ≤ 60 := by
  unfold allD
  split
  · simp
  · exact allR_len s _ _ _ (by simp)
/-- The cells of a row of things. -/
def tCells (l : List (Int × ByteArray)) : List Value := l.flatMap fun p => [.int .i64 p.1, .string p.2]
theorem tCells_snoc (l : List (Int × ByteArray)) (p : Int × ByteArray) : tCells (l ++ [p]) = tCells l ++ [.int .i64 p.1, .string p.2] := by simp [tCells]
theorem tCells_len (l : List (Int × ByteArray)) : (tCells l).length = 2 * l.length := by
  induction l with
  | nil => rfl
  | cons p l ih => simp [tCells] at *; omega
theorem tCells_at : ∀ (l : List (Int × ByteArray)) (i : Nat) (p : Int × ByteArray), l[i]? = some p → (tCells l)[2 * i]? = some (.int .i64 p.1) ∧ (tCells l)[2 * i + 1]? = some (.string p.2)
  | [], i, p, h => by simp at h
  | q :: l, 0, p, h => by simp at h; subst h; exact ⟨rfl, rfl⟩
  | q :: l, i + 1, p, h => by
    have := tCells_at l i p (by simpa using h)
    have e : tCells (q :: l) = .int .i64 q.1 :: .string q.2 :: tCells l := rfl
    rw [e, show 2 * (i + 1) = 2 * i + 1 + 1 from by omega]
    exact ⟨by simpa using this.1, by simpa using this.2⟩
theorem tCells_one (l : List (Int × ByteArray)) : ∀ u ∈ tCells l, u.oneCell' = true := by
  intro u hu
  simp [tCells] at hu
  obtain ⟨a, b, _, h | h⟩ := hu <;> subst h <;> rfl
end Go.Proofs.YtjllcflnmopnpaaDoor
namespace Go.Proofs.YtjllcflnmopnpaaDoor
open Go.RowKit

theorem infoTlv : (Tryd.prog.info? 27).map (fun i => (i.zero, i.size, i.bytes)) = some (some (.agg #[.int .i64 0, .string ⟨#[]⟩]), 2, 24) := by kernel_rfl
/-- A row of things of the call's own. -/
def OwnT (w : World) (B : Nat) (v : Value) (l : List (Int × ByteArray)) : Prop := w.ownsRow B 27 2 v l.length (tCells l)
theorem OwnT.keep {w w' : World} {B : Nat} {v : Value} {l : List (Int × ByteArray)} (h : OwnT w B v l) (hb : Below w.heap.size w w') : OwnT w' B v l := by
  refine ⟨h.1, ?_⟩
  rcases h.2 with h | ⟨g, cap, cur, e, h1, h2, h3⟩
  · exact .inl h
  · exact .inr ⟨g, cap, cur, e, h1, by rw [hb.block g (heap_lt h2)]; exact h2, h3⟩
theorem OwnT.mono {w : World} {B B' : Nat} {v : Value} {l : List (Int × ByteArray)} (h : OwnT w B v l) (hB : B' ≤ B) : OwnT w B' v l := by
  refine ⟨h.1, ?_⟩
  rcases h.2 with h | ⟨g, cap, cur, e, h1, h3⟩
  · exact .inl h
  · exact .inr ⟨g, cap, cur, e, Nat.le_trans hB h1, h3⟩
theorem OwnT.other {w : World} {B b o : Nat} {v u : Value} {l : List (Int × ByteArray)} (h : OwnT w B v l) (hb : b < B) : OwnT (w.setCell ⟨b, o, none⟩ u) B v l := by
  refine ⟨h.1, ?_⟩
  rcases h.2 with h | ⟨g, cap, cur, e, h1, h2, h3⟩
  · exact .inl h
  · exact .inr ⟨g, cap, cur, e, h1, by rw [heap_setCell_other _ _ _ _ (by show g ≠ b; omega)]; exact h2, h3⟩
theorem OwnT.form {w : World} {B : Nat} {v : Value} {l : List (Int × ByteArray)} (h : OwnT w B v l) : ∃ a c, v = .slice a l.length c := by
  rcases h.2 with ⟨h, h'⟩ | ⟨g, cap, _, e, _⟩
  · exact ⟨none, 0, by rw [h']; exact h⟩
  · exact ⟨_, _, e⟩
theorem ownT_nil (w : World) (B : Nat) : OwnT w B (.slice none 0 0) [] := ⟨rfl, .inl ⟨rfl, rfl⟩⟩
end Go.Proofs.YtjllcflnmopnpaaDoor
namespace Go.Proofs.YtjllcflnmopnpaaDoor
open Go.RowKit

set_option maxHeartbeats 2000000 in
set_option maxRecDepth 100000 in
theorem specAll (s : ByteArray) (w : World) (hs : s.size ≤ 20000) :
    Calls Tryd.prog 44 #[.string s] w fun e w' => ∃ v, e = .returned (.agg #[v, .int .i64 (allR s (s.size + 1) 0 []).2]) ∧ OwnT w' w.heap.size v (allR s (s.size + 1) 0 []).1 ∧ Below w.heap.size w w' := by
  obtain ⟨i0, hi, hz0, hz1, hz2⟩ := info_parts infoTlv
  obtain ⟨R, hR⟩ : ∃ R, R = allR s (s.size + 1) 0 [] := ⟨_, rfl⟩
  rw [← hR]
  have HR : Hid (R = allR s (s.size + 1) 0 []) := hR
  clear hR
  go_enter Tryd.func44, Tryd.ntmps44
  go_wp2_with fail
  go_loopw [4] (fun a wr => ∃ (k f : Nat) (acc : List (Int × ByteArray)) (v : Value), a = .int .i64 (k : Int) ∧ k ≤ s.size ∧ s.size < k + f ∧ acc.length ≤ 60 ∧ allR s f k acc = R ∧
      wr.heap[w.heap.size]? = some (.cells [.slice none 0 0, .int .i64 0].toArray 34 (0, 0)) ∧ wr.heap[w.heap.size + 1]? = some (.cells [v, .int .i64 0].toArray 34 (0, 0)) ∧
      OwnT wr (w.heap.size + 2) v acc ∧ Below w.heap.size w wr ∧ w.heap.size + 2 ≤ wr.heap.size)
    (fun a _ => s.size - (intOf a).toNat)
  case atStart =>
    refine ⟨0, s.size + 1, [], .slice none 0 0, rfl, Nat.zero_le _, by omega, by simp, HR.out.symm, ?_, heap_alloc2 w _ _, ⟨rfl, .inl ⟨rfl, rfl⟩⟩, ((Below.refl _ _).alloc (Nat.le_refl _) _).alloc (by simp) _, by simp⟩
    rw [Below.heap_alloc _ _ _ (by simp)]
    exact heap_alloc_new w _
  case round =>
    obtain ⟨k, f, acc, v, rfl, hk, hf, hacc, hall, hr0, hr1, hown, hbel, hsz⟩ := hrel
    have HAll : Hid (allR s f k acc = R) := hall
    have HR0 : Hid (wr.heap[w.heap.size]? = some (.cells [.slice none 0 0, .int .i64 0].toArray 34 (0, 0))) := hr0
    have HR1 : Hid (wr.heap[w.heap.size + 1]? = some (.cells [v, .int .i64 0].toArray 34 (0, 0))) := hr1
    have HO : Hid (OwnT wr (w.heap.size + 2) v acc) := hown
    have HB : Hid (Below w.heap.size w wr) := hbel
    clear hall hr0 hr1 hown hbel HR
    by_cases hlt : k < s.size
    · have HG : Hid (∀ V : World, Calls Tryd.prog 43 #[.string s, .int .i64 (k : Int)] V fun e w' => e = .returned (getAt s k).val ∧ Below V.heap.size V w') := fun V => specGetAt s k V hs
      have HAt : Hid ((getAt s k).code = 0 → k + 2 ≤ (getAt s k).at'.toNat ∧ (getAt s k).at'.toNat ≤ s.size ∧ 0 ≤ (getAt s k).at') := getAt_at
      obtain ⟨f', rfl⟩ : ∃ f', f = f' + 1 := ⟨f - 1, by omega⟩
      have HBad : Hid ((getAt s k).code ≠ 0 → R = ([], (getAt s k).code)) := fun h => by rw [← HAll.out, allR_bad hlt h]
      have HFull : Hid ((getAt s k).code = 0 → 60 ≤ acc.length → R = ([], 11)) := fun h h' => by rw [← HAll.out, allR_full hlt h h']
      have HMore : Hid ((getAt s k).code = 0 → acc.length < 60 → allR s f' (getAt s k).at'.toNat (acc ++ [((getAt s k).tag, (getAt s k).body)]) = R) := fun h h' => by rw [← HAll.out, allR_more hlt h h']
      generalize getAt s k = g at *
      obtain ⟨g0, g1, g2, g3⟩ := g
      clear HAll
      unfold GetR.val at HG
      simp only at HG HAt HBad HFull HMore
      go_wp2_with fail
      refine (HG.out _).mono ?_
      rintro e w1 ⟨rfl, hb1⟩
      have HB1 : Hid (Below w.heap.size w w1) := HB.out.trans (hb1.mono (by omega))
      have hs1 := hb1.size
      have HX0 : Hid (w1.heap[w.heap.size]? = some (.cells [.slice none 0 0, .int .i64 0].toArray 34 (0, 0))) := by show _ = _; rw [hb1.block _ (by omega)]; exact HR0.out
      have HX1 : Hid (w1.heap[w.heap.size + 1]? = some (.cells [v, .int .i64 0].toArray 34 (0, 0))) := by show _ = _; rw [hb1.block _ (by omega)]; exact HR1.out
      have HO1 : Hid (OwnT w1 (w.heap.size + 2) v acc) := OwnT.keep HO.out hb1
      clear hb1 HR0 HR1 HO HB HG
      obtain ⟨⟨c0, c1⟩, f0, f1⟩ := cells2 HX0.out
      obtain ⟨⟨d0, d1⟩, e0, e1⟩ := cells2 HX1.out
      have hl0 : w.heap.size < w1.heap.size := by omega
      have hl1 : w.heap.size + 1 < w1.heap.size := by omega
      by_cases hc : g3 = 0
      rotate_left
      · have HF : Hid (R = ([], g3)) := HBad.out hc
        have ec : (g3 != 0) = true := by rw [bne_iff_ne]; exact hc
        clear hc d0 d1 e0 e1
        go_wp2_with fail
        refine bodyPost_ret (v := .agg #[.slice none 0 0, .int .i64 g3]) (by simp [results, Tryd.results44, go_sem, c0, c1, hl0]) rfl ⟨.slice none 0 0, ?_, ?_, ?_⟩
        · rw [HF.out]
        · rw [HF.out]; exact ownT_nil _ _
        · repeat (first | exact HB1.out | refine Below.setCell ?_ (by simp) _ | refine Below.alloc ?_ (by simp <;> omega) _)
      obtain ⟨at1, at2, at3⟩ := HAt.out hc
      obtain ⟨va, vc, hv⟩ := OwnT.form HO1.out
      by_cases h60 : 60 ≤ acc.length
      · have HF : Hid (R = ([], 11)) := HFull.out hc h60
        subst hv
        subst hc
        go_wp2_with fail
        refine bodyPost_ret (v := .agg #[.slice none 0 0, .int .i64 11]) (by simp [results, Tryd.results44, go_sem, c0, c1, hl0]) rfl ⟨.slice none 0 0, ?_, ?_, ?_⟩
        · rw [HF.out]
        · rw [HF.out]; exact ownT_nil _ _
        · repeat (first | exact HB1.out | refine Below.setCell ?_ (by simp) _ | refine Below.alloc ?_ (by simp <;> omega) _)
      · have HF := HMore.out hc (by omega)
        have HF : Hid (allR s f' g2.toNat (acc ++ [(g0, g1)]) = R) := HF
        obtain ⟨m, rfl⟩ := Int.eq_ofNat_of_zero_le at3
        subst hv
        subst hc
        clear HMore HFull HBad HAt f0 f1 c0 c1
        have hO : w1.ownsRow (w.heap.size + 2) 27 2 (.slice va acc.length vc) acc.length (tCells acc) := HO1.out
        go_wp2_with (at_builtin; refine wpList_append_own _ rfl _ _ 32 rfl (w.heap.size + 2) 27 i0 (.agg #[.int .i64 0, .string ⟨#[]⟩]) 2 24 Tryd.underlying32 hi hz0 hz1 hz2 rfl (by decide) _ _ _ rfl ((hO.alloc _).alloc _) ⟨w1.heap.size + 1, 0, none⟩ 1 1 [.int .i64 g0, .string g1] rfl rfl ?c1 ?c2 ?c3 ?c4 ?c5 ?_)
        case c1 =>
          intro j u hj
          rw [Addr.add_lit, Nat.zero_add]
          exact rowFacts (cs := [.int .i64 g0, .string g1]) (heap_alloc2 w1 _ _) j u hj
        case c2 => intro u hu; simp at hu; rcases hu with rfl | rfl <;> rfl
        case c3 => unfold maxLen; omega
        case c4 => omega
        case c5 => simp; omega
        intro v' w2 hown' hgrow _
        have hlt2 := fun k hk => hO.lt k hk
        have hB2 : Below w.heap.size w w2 := ((HB1.out.alloc (by omega) _).alloc (by simp; omega) _).grown hgrow (by simp; omega) (fun k hk => by have := (hlt2 k hk).1; omega)
        have hs2 : w1.heap.size + 2 ≤ w2.heap.size := by have := hgrow.size; simp at this; omega
        have HY0 : Hid (w2.heap[w.heap.size]? = some (.cells [.slice none 0 0, .int .i64 0].toArray 34 (0, 0))) := by
          show _ = _
          rw [hgrow.block _ (by simp; omega) (fun e => by have := (hlt2 _ e.symm).1; omega), Below.heap_alloc _ _ _ (by simp; omega), Below.heap_alloc _ _ _ hl0]
          exact HX0.out
        have HY1 : Hid (w2.heap[w.heap.size + 1]? = some (.cells [.slice va acc.length vc, .int .i64 0].toArray 34 (0, 0))) := by
          show _ = _
          rw [hgrow.block _ (by simp; omega) (fun e => by have := (hlt2 _ e.symm).1; omega), Below.heap_alloc _ _ _ (by simp; omega), Below.heap_alloc _ _ _ hl1]
          exact HX1.out
        have hx2 : w2.cell? ⟨w1.heap.size, 2, none⟩ = some (.int .i64 (m : Int)) := by
          have hr : w2.heap[w1.heap.size]? = some (.cells [.int .i64 g0, .string g1, .int .i64 (m : Int), .int .i64 0].toArray 29 (0, 0)) := by
            rw [hgrow.block _ (by simp; omega) (fun e => by have := (hlt2 _ e.symm).2; omega), Below.heap_alloc _ _ _ (by simp)]
            exact heap_alloc_new w1 _
          exact rowFacts hr 2 _ rfl
        have HO2 : Hid (OwnT w2 (w.heap.size + 2) v' (acc ++ [(g0, g1)])) := by
          show World.ownsRow _ _ _ _ _ _ _
          rw [tCells_snoc, List.length_append]
          exact hown'
        obtain ⟨va', vc', hv'⟩ := OwnT.form HO2.out
        rw [List.length_append, List.length_singleton] at hv'
        subst hv'
        obtain ⟨⟨d0', d1'⟩, e0', e1'⟩ := cells2 HY1.out
        have HB2 : Hid (Below w.heap.size w w2) := hB2
        clear hown' hgrow hlt2 hB2 hO d0 d1 e0 e1
        go_wp2_with fail
        go_roundw
        case rel =>
          refine ⟨m, f', acc ++ [(g0, g1)], _, rfl, at2, by omega, by simp; omega, HF.out, ?_, rowSet _ HY1.out, OwnT.other HO2.out (by omega), HB2.out.setCell (by simp) _, by simp; omega⟩
          rw [heap_setCell_other _ _ _ _ (by simp)]
          exact HY0.out
        case measure => simp [intOf]; omega
    · have HF : Hid (R = (acc, 0)) := by
        show _ = _
        rw [← HAll.out, allR_end (by omega)]
      obtain ⟨⟨c0, c1⟩, f0, f1⟩ := cells2 HR0.out
      obtain ⟨⟨d0, d1⟩, e0, e1⟩ := cells2 HR1.out
      obtain ⟨va, vc, rfl⟩ := OwnT.form HO.out
      go_wp2_with fail
      refine bodyPost_ret (v := .agg #[.slice va acc.length vc, .int .i64 0]) (by simp [results, Tryd.results44, go_sem, c0, c1]) rfl ⟨.slice va acc.length vc, ?_, ?_, ?_⟩
      · rw [HF.out]
      · rw [HF.out]
        exact ((OwnT.other (OwnT.other HO.out (by omega)) (by omega))).mono (by omega)
      · repeat (first | exact HB.out | refine Below.setCell ?_ (by simp) _ | refine Below.alloc ?_ (by simp <;> omega) _)
set_option maxHeartbeats 1000000 in
set_option maxRecDepth 100000 in
theorem specDerAll (s : ByteArray) (w : World) (hs : s.size ≤ maxLen) :
    Calls Tryd.prog 14 #[.string s] w fun e w' => ∃ v, e = .returned (.agg #[v, .int .i64 (allD s).2]) ∧ OwnT w' w.heap.size v (allD s).1 ∧ Below w.heap.size w w' := by
  unfold maxLen at hs
  by_cases h1 : 20000 < s.size
  · have HF : Hid (allD s = ([], 2)) := if_pos h1
    go_enter Tryd.func14, Tryd.ntmps14
    go_wp2_with fail
    refine bodyPost_ret (v := .agg #[.slice none 0 0, .int .i64 2]) (by simp [results, Tryd.results14, go_sem]) rfl ⟨.slice none 0 0, ?_, ?_, ?_⟩
    · rw [HF.out]
    · rw [HF.out]; exact ownT_nil _ _
    · repeat (first | exact Below.refl _ _ | refine Below.setCell ?_ (by simp) _ | refine Below.alloc ?_ (by simp) _)
  · have HF : Hid (allD s = allR s (s.size + 1) 0 []) := if_neg h1
    have HB : Hid (∀ V : World, Calls Tryd.prog 44 #[.string s] V fun e w' => ∃ v, e = .returned (.agg #[v, .int .i64 (allD s).2]) ∧ OwnT w' V.heap.size v (allD s).1 ∧ Below V.heap.size V w') := fun V => by
      rw [HF.out]; exact specAll s V (by omega)
    generalize allD s = R at *
    obtain ⟨l, c⟩ := R
    go_enter Tryd.func14, Tryd.ntmps14
    go_wp2_with fail
    refine (HB.out _).mono ?_
    rintro e w1 ⟨v, rfl, hO, hb1⟩
    obtain ⟨hr, hB, hz⟩ := resKeep (cs := [.slice none 0 0, .int .i64 0]) (T := 34) hb1
    obtain ⟨⟨c0, c1⟩, f0, f1⟩ := cells2 hr
    have HO : Hid (OwnT w1 (w.heap.size + 1) v l) := by show OwnT _ _ _ _; simpa using hO
    obtain ⟨va, vc, rfl⟩ := OwnT.form HO.out
    simp only
    clear hb1 hr hO
    go_wp2_with fail
    refine bodyPost_ret (v := .agg #[.slice va l.length vc, .int .i64 c]) (by simp [results, Tryd.results14, go_sem, c0, c1]) rfl ⟨.slice va l.length vc, rfl, ?_, ?_⟩
    · exact (OwnT.other (OwnT.other HO.out (by omega)) (by omega)).mono (by omega)
    · repeat (first | exact hB | refine Below.setCell ?_ (by simp) _)
end Go.Proofs.YtjllcflnmopnpaaDoor
namespace Go.Proofs.YtjllcflnmopnpaaDoor
open Go.RowKit

set_option maxHeartbeats 2000000 in
set_option maxRecDepth 100000 in
theorem implDerAll (s : ByteArray) (w : World) (hs : s.size ≤ maxLen) (hg : ErrType w) :
    Calls Tryd.prog 9 #[.string s] w fun e w' => ∃ v, e = .returned (.agg #[v, .int .i64 (allD s).2]) ∧ OwnT w' w.heap.size v (allD s).1 ∧ Below w.heap.size w w' := by
  have hs' := hs
  unfold maxLen at hs'
  have hpos := hg.pos
  have HGt : Hid (ErrType w) := hg
  clear hg
  obtain ⟨i0, hi, hz0, hz1, hz2⟩ := info_parts infoTlv
  by_cases h1 : 20000 < s.size
  · have HF : Hid (allD s = ([], 2)) := if_pos h1
    have hd : decide (20000 < s.size) = true := decide_eq_true h1
    go_enter Tryd.func9, Tryd.ntmps9
    go_wp2_with fail
    refine (tooLong s _ hs).mono ?_
    rintro e w' ⟨rfl, rfl⟩
    rw [hd]
    go_wp2_with fail
    refine bodyPost_ret (v := .agg #[.slice none 0 0, .int .i64 2]) (by simp [results, Tryd.results9, go_sem]) rfl ⟨.slice none 0 0, ?_, ?_, ?_⟩
    · rw [HF.out]
    · rw [HF.out]; exact ownT_nil _ _
    · repeat (first | exact Below.refl _ _ | refine Below.setCell ?_ (by simp) _ | refine Below.alloc ?_ (by simp) _)
  have hd : decide (20000 < s.size) = false := decide_eq_false h1
  obtain ⟨R, hR⟩ : ∃ R, R = allD s := ⟨_, rfl⟩
  have HR : Hid (R = allR s (s.size + 1) 0 []) := by rw [hR]; exact if_neg h1
  rw [← hR]
  clear hR
  go_enter Tryd.func9, Tryd.ntmps9
  go_wp2_with fail
  refine (tooLong s _ hs).mono ?_
  rintro e w' ⟨rfl, hw'⟩
  rw [hd, hw']
  clear hw' hd
  go_wp2_with fail
  go_loopw [3, 4] (fun b a wr => ∃ (k f : Nat) (acc : List (Int × ByteArray)), a = .int .i64 (k : Int) ∧ k ≤ s.size ∧ s.size < k + f ∧ acc.length ≤ 60 ∧ allR s f k acc = R ∧
      wr.heap[w.heap.size]? = some (.cells [.slice none 0 0, .int .i64 0].toArray 34 (0, 0)) ∧ OwnT wr (w.heap.size + 1) b acc ∧ Below w.heap.size w wr ∧ w.heap.size + 1 ≤ wr.heap.size)
    (fun _ a _ => s.size - (intOf a).toNat)
  case atStart =>
    exact ⟨0, s.size + 1, [], rfl, Nat.zero_le _, by omega, by simp, HR.out.symm, heap_alloc_new w _, ownT_nil _ _, (Below.refl _ _).alloc (Nat.le_refl _) _, by simp⟩
  case round =>
    obtain ⟨k, f, acc, rfl, hk, hf, hacc, hall, hr0, hown, hbel, hsz⟩ := hrel
    have HAll : Hid (allR s f k acc = R) := hall
    have HR0 : Hid (wr.heap[w.heap.size]? = some (.cells [.slice none 0 0, .int .i64 0].toArray 34 (0, 0))) := hr0
    obtain ⟨va, vc, rfl⟩ := OwnT.form hown
    have HO : Hid (OwnT wr (w.heap.size + 1) (.slice va acc.length vc) acc) := hown
    have HB : Hid (Below w.heap.size w wr) := hbel
    clear hall hr0 hown hbel HR
    by_cases hlt : k < s.size
    · have HG : Hid (∀ V : World, Below w.heap.size w V → Calls Tryd.prog 7 #[.string s, .int .i64 (k : Int)] V fun e w' => e = .returned (getAt s k).val ∧ Below V.heap.size V w') := fun V hV => by
        have h := implDerGet s (k : Int) V hs (by omega) (HGt.out.below hV hpos)
        rw [show getD s (k : Int) = getAt s k from by unfold getD; rw [if_neg h1, if_neg (by omega)]; rfl] at h
        exact h
      have HAt : Hid ((getAt s k).code = 0 → k + 2 ≤ (getAt s k).at'.toNat ∧ (getAt s k).at'.toNat ≤ s.size ∧ 0 ≤ (getAt s k).at') := getAt_at
      obtain ⟨f', rfl⟩ : ∃ f', f = f' + 1 := ⟨f - 1, by omega⟩
      have HBad : Hid ((getAt s k).code ≠ 0 → R = ([], (getAt s k).code)) := fun h => by rw [← HAll.out, allR_bad hlt h]
      have HFull : Hid ((getAt s k).code = 0 → 60 ≤ acc.length → R = ([], 11)) := fun h h' => by rw [← HAll.out, allR_full hlt h h']
      have HMore : Hid ((getAt s k).code = 0 → acc.length < 60 → allR s f' (getAt s k).at'.toNat (acc ++ [((getAt s k).tag, (getAt s k).body)]) = R) := fun h h' => by rw [← HAll.out, allR_more hlt h h']
      generalize getAt s k = g at *
      obtain ⟨g0, g1, g2, g3⟩ := g
      clear HAll
      unfold GetR.val at HG
      simp only at HG HAt HBad HFull HMore
      go_wp2_with fail
      refine (HG.out _ HB.out).mono ?_
      rintro e w1 ⟨rfl, hb1⟩
      have HB1 : Hid (Below w.heap.size w w1) := HB.out.trans (hb1.mono (by omega))
      have hs1 := hb1.size
      have HX0 : Hid (w1.heap[w.heap.size]? = some (.cells [.slice none 0 0, .int .i64 0].toArray 34 (0, 0))) := by show _ = _; rw [hb1.block _ (by omega)]; exact HR0.out
      have HO1 : Hid (OwnT w1 (w.heap.size + 1) (.slice va acc.length vc) acc) := OwnT.keep HO.out hb1
      clear hb1 HR0 HO HB HG
      obtain ⟨⟨c0, c1⟩, f0, f1⟩ := cells2 HX0.out
      have hl0 : w.heap.size < w1.heap.size := by omega
      by_cases hc : g3 = 0
      rotate_left
      · have HF : Hid (R = ([], g3)) := HBad.out hc
        have ec : (g3 != 0) = true := by rw [bne_iff_ne]; exact hc
        clear hc
        go_wp2_with fail
        refine bodyPost_ret (v := .agg #[.slice none 0 0, .int .i64 g3]) (by simp [results, Tryd.results9, go_sem, c0, c1, hl0]) rfl ⟨.slice none 0 0, ?_, ?_, ?_⟩
        · rw [HF.out]
        · rw [HF.out]; exact ownT_nil _ _
        · repeat (first | exact HB1.out | refine Below.setCell ?_ (by simp) _ | refine Below.alloc ?_ (by simp <;> omega) _)
      obtain ⟨at1, at2, at3⟩ := HAt.out hc
      by_cases h60 : acc.length = 60
      · have HF : Hid (R = ([], 11)) := HFull.out hc (by omega)
        have e60 : (acc.length : Int) = 60 := by omega
        subst hc
        go_wp2_with fail
        refine bodyPost_ret (v := .agg #[.slice none 0 0, .int .i64 11]) (by simp [results, Tryd.results9, go_sem, c0, c1, hl0]) rfl ⟨.slice none 0 0, ?_, ?_, ?_⟩
        · rw [HF.out]
        · rw [HF.out]; exact ownT_nil _ _
        · repeat (first | exact HB1.out | refine Below.setCell ?_ (by simp) _ | refine Below.alloc ?_ (by simp <;> omega) _)
      · have HF := HMore.out hc (by omega)
        have HF : Hid (allR s f' g2.toNat (acc ++ [(g0, g1)]) = R) := HF
        have e60 : ((acc.length : Int) == 60) = false := by rw [beq_eq_false_iff_ne]; omega
        obtain ⟨m, rfl⟩ := Int.eq_ofNat_of_zero_le at3
        subst hc
        clear HMore HFull HBad HAt f0 f1 c0 c1
        have hO : w1.ownsRow (w.heap.size + 1) 27 2 (.slice va acc.length vc) acc.length (tCells acc) := HO1.out
        go_wp2_with (at_builtin; refine wpList_append_own _ rfl _ _ 32 rfl (w.heap.size + 1) 27 i0 (.agg #[.int .i64 0, .string ⟨#[]⟩]) 2 24 Tryd.underlying32 hi hz0 hz1 hz2 rfl (by decide) _ _ _ rfl ((hO.alloc _).alloc _) ⟨w1.heap.size + 1, 0, none⟩ 1 1 [.int .i64 g0, .string g1] rfl rfl ?c1 ?c2 ?c3 ?c4 ?c5 ?_)
        case c1 =>
          intro j u hj
          rw [Addr.add_lit, Nat.zero_add]
          exact rowFacts (cs := [.int .i64 g0, .string g1]) (heap_alloc2 w1 _ _) j u hj
        case c2 => intro u hu; simp at hu; rcases hu with rfl | rfl <;> rfl
        case c3 => unfold maxLen; omega
        case c4 => omega
        case c5 => simp; omega
        intro v' w2 hown' hgrow _
        have hlt2 := fun k hk => hO.lt k hk
        have hB2 : Below w.heap.size w w2 := ((HB1.out.alloc (by omega) _).alloc (by simp; omega) _).grown hgrow (by simp; omega) (fun k hk => by have := (hlt2 k hk).1; omega)
        have hs2 : w1.heap.size + 2 ≤ w2.heap.size := by have := hgrow.size; simp at this; omega
        have HY0 : Hid (w2.heap[w.heap.size]? = some (.cells [.slice none 0 0, .int .i64 0].toArray 34 (0, 0))) := by
          show _ = _
          rw [hgrow.block _ (by simp; omega) (fun e => by have := (hlt2 _ e.symm).1; omega), Below.heap_alloc _ _ _ (by simp; omega), Below.heap_alloc _ _ _ hl0]
          exact HX0.out
        have hx2 : w2.cell? ⟨w1.heap.size, 2, none⟩ = some (.int .i64 (m : Int)) := by
          have hr : w2.heap[w1.heap.size]? = some (.cells [.int .i64 g0, .string g1, .int .i64 (m : Int), .int .i64 0].toArray 29 (0, 0)) := by
            rw [hgrow.block _ (by simp; omega) (fun e => by have := (hlt2 _ e.symm).2; omega), Below.heap_alloc _ _ _ (by simp)]
            exact heap_alloc_new w1 _
          exact rowFacts hr 2 _ rfl
        have HO2 : Hid (OwnT w2 (w.heap.size + 1) v' (acc ++ [(g0, g1)])) := by
          show World.ownsRow _ _ _ _ _ _ _
          rw [tCells_snoc, List.length_append]
          exact hown'
        have HB2 : Hid (Below w.heap.size w w2) := hB2
        clear hown' hgrow hlt2 hB2 hO
        go_wp2_with fail
        go_roundw
        case rel =>
          exact ⟨m, f', acc ++ [(g0, g1)], rfl, at2, by omega, by simp; omega, HF.out, HY0.out, HO2.out, HB2.out, by omega⟩
        case measure => simp [intOf]; omega
    · have HF : Hid (R = (acc, 0)) := by
        show _ = _
        rw [← HAll.out, allR_end (by omega)]
      obtain ⟨⟨c0, c1⟩, f0, f1⟩ := cells2 HR0.out
      go_wp2_with fail
      refine bodyPost_ret (v := .agg #[.slice va acc.length vc, .int .i64 0]) (by simp [results, Tryd.results9, go_sem, c0, c1]) rfl ⟨.slice va acc.length vc, ?_, ?_, ?_⟩
      · rw [HF.out]
      · rw [HF.out]
        exact (OwnT.other (OwnT.other HO.out (by omega)) (by omega)).mono (by omega)
      · repeat (first | exact HB.out | refine Below.setCell ?_ (by simp) _ | refine Below.alloc ?_ (by simp <;> omega) _)
end Go.Proofs.YtjllcflnmopnpaaDoor
