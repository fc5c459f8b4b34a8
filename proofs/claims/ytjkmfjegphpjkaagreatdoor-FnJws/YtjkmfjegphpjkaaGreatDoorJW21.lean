/- impl.readText, impl.GetText, walked. impl.GetText, walked. impl.readRequest, walked. impl.isRemainder, impl.SigRight, walked. impl.ModMul, walked. impl.GroupMul and impl.GroupPow, walked. -/
import Derived.Test.YtjkmfjegphpjkaaGreatDoorJW07
import Derived.Test.YtjkmfjegphpjkaaGreatDoorJW20
import Derived.Test.YtjkmfjegphpjkaaGreatDoorJW10
import Derived.Test.YtjkmfjegphpjkaaGreatDoorJW13
import Derived.Test.YtjkmfjegphpjkaaGreatDoorJW12
import Derived.Test.YtjkmfjegphpjkaaGreatDoorJW17
import Derived.Deep.MidRow
import Derived.Deep.Cut
import Derived.Deep.RegionHeld3
import Derived.Test.YtjkmfjegphpjkaaGreatDoorJW03
import Derived.Test.YtjkmfjegphpjkaaGreatDoorJW18
namespace Go.Proofs.YtjkmfjegphpjkaaGreatDoor
open Go.RowKit Go.Lib

/-- What readText hands back. -/
def TextOk (s : ByteArray) (R : NumR) (e : Ending) : Prop :=
  (∃ t a, textR s R = outV t a 0 ∧ e = .returned (.tuple #[.string t, .int .i64 a, .nilIface])) ∨
  (∃ c, textR s R = outV ByteArray.empty 0 c ∧ ∃ t, e = .returned (.tuple #[.string t, .int .i64 0, .iface 103 (.agg #[.int .i64 c])]))
theorem extract_le (s : ByteArray) (a b : Nat) : (s.extract a b).size ≤ s.size := by
  rw [ByteArray.size_extract]; omega
set_option maxHeartbeats 2000000 in
theorem readText (s : ByteArray) (p : Int) (w : World) (hs : s.size ≤ maxLen) (hp0 : -9223372036854775808 ≤ p) (hp1 : p ≤ 9223372036854775807) :
    Calls Tryz.prog 93 #[.string s, .int .i64 p] w fun e w' => TextOk s (numAt s p) e ∧ Below w.heap.size w w' := by
  have hread := fun W => readNum s p W hs hp0 hp1
  have hat := @numAt_at s p
  generalize numAt s p = R at *
  have HR : Hid (∀ W, Calls Tryz.prog 91 #[.string s, .int .i64 p] W fun e w' => ReadOk R e ∧ w' = W) := hread
  have HA : Hid (R.code = 0 → s.size ≤ 20000 ∧ 0 < R.at' ∧ R.at' ≤ s.size) := hat
  clear hread hat
  go_enter Tryz.func93, Tryz.ntmps93
  go_wp2_with fail
  refine (HR.out _).mono ?_
  rintro e w' ⟨hb, rfl⟩
  rcases hb with ⟨hc, rfl⟩ | ⟨hc, hR, n, rfl⟩
  rotate_left
  · have hfin : Hid (textR s R = outV ByteArray.empty 0 R.code) := by unfold Hid textR; rw [if_pos hc]
    clear hc hR
    go_wp2
    go_ret3
    exact ⟨.inr ⟨_, hfin.out, _, rfl⟩, Below.refl _ _⟩
  obtain ⟨hs2, ha0, ha1⟩ := HA.out hc
  have HC : Hid (R.code = 0) := hc
  clear hc
  by_cases hn0 : R.n < 0
  · have hfin : Hid (textR s R = outV ByteArray.empty 0 3) := by unfold Hid textR; rw [if_neg (by simp [HC.out]), if_pos (.inl hn0)]
    go_wp2
    go_ret3
    exact ⟨.inr ⟨_, hfin.out, _, rfl⟩, Below.refl _ _⟩
  by_cases hn1 : 20000 < R.n
  · have hfin : Hid (textR s R = outV ByteArray.empty 0 3) := by unfold Hid textR; rw [if_neg (by simp [HC.out]), if_pos (.inr hn1)]
    go_wp2
    go_ret3
    exact ⟨.inr ⟨_, hfin.out, _, rfl⟩, Below.refl _ _⟩
  by_cases hsh : (s.size : Int) - R.n < R.at'
  · have hfin : Hid (textR s R = outV ByteArray.empty 0 4) := by unfold Hid textR; rw [if_neg (by simp [HC.out]), if_neg (by omega), if_pos hsh]
    have hsh' : (s.size : Int) - R.at' < R.n := by omega
    go_wp2
    go_ret3
    exact ⟨.inr ⟨_, hfin.out, _, rfl⟩, Below.refl _ _⟩
  have hfin : Hid (textR s R = outV (s.extract R.at'.toNat (R.at' + R.n).toNat) (R.at' + R.n) 0) := by unfold Hid textR; rw [if_neg (by simp [HC.out]), if_neg (by omega), if_neg hsh]
  have hsh' : R.n ≤ (s.size : Int) - R.at' := by omega
  have q2 : R.at' + R.n ≤ (s.size : Int) := by omega
  go_wp2_with fail
  refine (copyText _ _ (by have := extract_le s R.at'.toNat (R.at' + R.n).toNat; omega)).mono ?_
  rintro e w1 ⟨rfl, hb1⟩
  go_wp2
  go_ret3
  exact ⟨.inl ⟨_, _, hfin.out, rfl⟩, hb1⟩
end Go.Proofs.YtjkmfjegphpjkaaGreatDoor
namespace Go.Proofs.YtjkmfjegphpjkaaGreatDoor
open Go.RowKit

set_option maxHeartbeats 2000000 in
set_option maxRecDepth 100000 in
theorem implGetText (s : ByteArray) (p : Int) (w : World) (hs : s.size ≤ maxLen) (hp0 : -9223372036854775808 ≤ p) (hp1 : p ≤ 9223372036854775807) (hg : ErrType w) :
    Calls Tryz.prog 69 #[.string s, .int .i64 p] w fun e w' => e = .returned (textR s (numAt s p)) ∧ Below w.heap.size w w' := by
  have hread := fun W => readText s p W hs hp0 hp1
  generalize numAt s p = R at *
  have HR : Hid (∀ W, Calls Tryz.prog 93 #[.string s, .int .i64 p] W fun e w' => TextOk s R e ∧ Below W.heap.size W w') := hread
  have HG : Hid (ErrType w) := hg
  have hpos := hg.pos
  clear hread hg
  go_enter Tryz.func69, Tryz.ntmps69
  go_wp2_with fail
  refine (HR.out _).mono ?_
  rintro e w1 ⟨hb, hB0⟩
  have hB : Below (w.heap.size + 1) (w.alloc (.cells #[.string ⟨#[]⟩, .int .i64 0, .int .i64 0] 26)) w1 := by simpa using hB0
  have c0 : w1.cell? ⟨w.heap.size, 0, none⟩ = some (.string ⟨#[]⟩) := (hB.cell (by simp)).trans (by simp)
  have c1 : w1.cell? ⟨w.heap.size, 1, none⟩ = some (.int .i64 0) := (hB.cell (by simp)).trans (by simp)
  have c2 : w1.cell? ⟨w.heap.size, 2, none⟩ = some (.int .i64 0) := (hB.cell (by simp)).trans (by simp)
  have f0 : w1.frozen? ⟨w.heap.size, 0, none⟩ = false := (hB.frozen (by simp)).trans (by simp)
  have f1 : w1.frozen? ⟨w.heap.size, 1, none⟩ = false := (hB.frozen (by simp)).trans (by simp)
  have f2 : w1.frozen? ⟨w.heap.size, 2, none⟩ = false := (hB.frozen (by simp)).trans (by simp)
  have hz : w.heap.size < w1.heap.size := by have := hB.size; simp at this; omega
  have HB : Hid (Below w.heap.size w w1) := ((Below.refl _ w).alloc (Nat.le_refl _) _).trans (hB.mono (Nat.le_succ _))
  have HG1 : Hid (ErrType w1) := HG.out.below HB.out hpos
  clear hB0 hB
  rcases hb with ⟨t, a, ht, rfl⟩ | ⟨c, ht, t, rfl⟩
  · have HT : Hid (textR s R = outV t a 0) := ht
    clear ht
    go_wp2_with fail
    refine (as_nil _ _).mono ?_
    rintro e w' ⟨rfl, rfl⟩
    go_wp2
    refine bodyPost_ret (v := .agg #[.string t, .int .i64 a, .int .i64 0]) (by simp [results, Tryz.results69, go_sem, c0, c1, c2, hz]) rfl ⟨?_, ?_⟩
    · rw [HT.out]; rfl
    · repeat (first | exact HB.out | refine Below.setCell ?_ (by simp) _ | refine Below.alloc ?_ (by simp; omega) _ | refine Below.alloc ?_ (by omega) _)
  · have HT : Hid (textR s R = outV ByteArray.empty 0 c) := ht
    clear ht
    have HG2 : Hid (∀ o2, ErrType (w1.alloc o2)) := fun o2 => HG1.out.below ((Below.refl _ _).alloc (Nat.le_refl _) o2) (by omega)
    go_wp2_with fail
    refine (as_hit2 ⟨w1.heap.size, 0, none⟩ c (.int .i64 0) _ (HG2.out _) (by simp) (by simp)).mono ?_
    rintro e w2 ⟨rfl, hc, hb2⟩
    have hB2 : Below w1.heap.size (w1.alloc (.cells #[.int .i64 0] 103)) w2 := hb2
    have hB3 : Below w1.heap.size w1 w2 := ((Below.refl _ w1).alloc (Nat.le_refl _) _).trans hB2
    have d0 : w2.cell? ⟨w.heap.size, 0, none⟩ = some (.string ⟨#[]⟩) := (hB3.cell hz).trans c0
    have d1 : w2.cell? ⟨w.heap.size, 1, none⟩ = some (.int .i64 0) := (hB3.cell hz).trans c1
    have d2 : w2.cell? ⟨w.heap.size, 2, none⟩ = some (.int .i64 0) := (hB3.cell hz).trans c2
    have g0 : w2.frozen? ⟨w.heap.size, 0, none⟩ = false := (hB3.frozen hz).trans f0
    have g1 : w2.frozen? ⟨w.heap.size, 1, none⟩ = false := (hB3.frozen hz).trans f1
    have g2 : w2.frozen? ⟨w.heap.size, 2, none⟩ = false := (hB3.frozen hz).trans f2
    have HB2 : Hid (Below w.heap.size w w2) := HB.out.trans (hB3.mono (Nat.le_of_lt hz))
    clear hb2 hB2 hB3 c0 c1 c2 f0 f1 f2
    go_wp2
    refine bodyPost_ret (v := .agg #[.string ⟨#[]⟩, .int .i64 0, .int .i64 c]) (by simp [results, Tryz.results69, go_sem, d0, d1, d2]) rfl ⟨?_, ?_⟩
    · rw [HT.out]; rfl
    · repeat (first | exact HB2.out | refine Below.setCell ?_ (by simp) _)

theorem textR_form (s : ByteArray) (R : NumR) : ∃ t a c, textR s R = .agg #[.string t, .int .i64 a, .int .i64 c] := by
  unfold textR
  split
  · exact ⟨_, _, _, rfl⟩
  · split
    · exact ⟨_, _, _, rfl⟩
    · split
      · exact ⟨_, _, _, rfl⟩
      · exact ⟨_, _, _, rfl⟩
end Go.Proofs.YtjkmfjegphpjkaaGreatDoor
namespace Go.Proofs.YtjkmfjegphpjkaaGreatDoor
open Go.RowKit Go.Lib

theorem sizeJwsI : (Tryz.prog.info? 34).map (·.size) = some 7 := by kernel_rfl
theorem numFj (n a c : Int) (w : World) : (Instr.field 82 (.agg #[.int .i64 n, .int .i64 a, .int .i64 c]) 0).run Tryz.prog w = .ok (.int .i64 n) w := by kernel_rfl
theorem textF (t : ByteArray) (a c : Int) (w : World) : (Instr.field 26 (.agg #[.string t, .int .i64 a, .int .i64 c]) 0).run Tryz.prog w = .ok (.string t) w := by kernel_rfl
theorem jwsRow {w : World} {g : Nat} {t : TypeId} {x0 x1 x2 x3 x4 x5 x6 : Value} (hg : w.heap[g]? = some (.cells [x0, x1, x2, x3, x4, x5, x6].toArray t (0, 0))) (a0 a1 a2 a3 a4 a5 a6 : Value) :
    (((((((w.setCell ⟨g, 0, none⟩ a0).setCell ⟨g, 1, none⟩ a1).setCell ⟨g, 2, none⟩ a2).setCell ⟨g, 3, none⟩ a3).setCell ⟨g, 4, none⟩ a4).setCell ⟨g, 5, none⟩ a5).setCell ⟨g, 6, none⟩ a6).heap[g]? = some (.cells [a0, a1, a2, a3, a4, a5, a6].toArray t (0, 0)) := rowSet a6 (rowSet a5 (rowSet a4 (rowSet a3 (rowSet a2 (rowSet a1 (rowSet a0 hg))))))
set_option linter.unusedSimpArgs false in
set_option maxHeartbeats 8000000 in
set_option maxRecDepth 100000 in
theorem implReadRq (s : ByteArray) (w : World) (hs : s.size ≤ 20000) (hE : ErrType w) :
    Calls Tryz.prog 42 #[.string s] w fun e w' => e = .returned (readJI s).val ∧ Below w.heap.size w w' := by
  obtain ⟨w1, hw1⟩ : ∃ y, y = w.alloc (.cells #[.int .i64 0, .int .i64 0, .string ⟨#[]⟩, .string ⟨#[]⟩, .int .i64 0, .int .i64 0, .int .i64 0] 34 (0, 0)) := ⟨_, rfl⟩
  have L1 : Hid (HasB w1 [(w.heap.size, [Value.int .i64 0, .int .i64 0, .string ⟨#[]⟩, .string ⟨#[]⟩, .int .i64 0, .int .i64 0, .int .i64 0], 34)]) := by rw [hw1]; exact (HasB.nil w).alloc _ _
  have B1 : Hid (Below w.heap.size w w1) := by rw [hw1]; exact (Below.refl _ w).alloc (Nat.le_refl _) _
  have HSp : Hid (∀ V, Calls Tryz.prog 67 #[.string s, .string ⟨#[46]⟩] V fun e w' => e = .returned (.slice (some ⟨V.heap.size, 0, none⟩) (pcs s).length (pcs s).length) ∧ w' = V.alloc (.cells ((pcs s).map Value.string).toArray 9)) := fun V => implSplit s V hs
  have hEp := hE.pos
  have HEr : Hid (∀ V, Below w.heap.size w V → ErrType V) := fun V hV => hE.below hV hEp
  have HJ : Hid (∀ a b c, pcs s = [a, b, c] → readJI s = parseJ (readTD a).1 (readTD b).1 (readTD c).1) := fun a b c h => by rw [readJI, h]
  have HJ0 : Hid ((pcs s).length ≠ 3 → readJI s = .zero) := fun h => by
    unfold readJI
    split
    · rename_i a b c e
      rw [e] at h
      exact absurd rfl h
    · rfl
  have HPz : Hid (∀ p ∈ pcs s, p.size ≤ 20000) := fun p hp => Nat.le_trans (pcs_size hp) hs
  have hi' := sizeJwsI
  clear hs hE hEp
  generalize readJI s = RJ at *
  generalize pcs s = PC at *
  go_enter Tryz.func42, Tryz.ntmps42
  go_wp2_with fail
  rw [← hw1]
  clear hw1
  refine (HSp.out w1).mono ?_
  rintro e w2 ⟨rfl, hw2⟩
  have hB2 : Below w1.heap.size w1 w2 := by rw [hw2]; exact (Below.refl _ w1).alloc (Nat.le_refl _) _
  have hP2 : w2.heap[w1.heap.size]? = some (.cells (PC.map Value.string).toArray 9 (0, 0)) := by rw [hw2]; exact heap_alloc_new w1 _
  obtain ⟨qb, hqb⟩ : ∃ b, b = w1.heap.size := ⟨_, rfl⟩
  have L2 : Hid (HasB w2 [(qb, PC.map Value.string, 9), (w.heap.size, [Value.int .i64 0, .int .i64 0, .string ⟨#[]⟩, .string ⟨#[]⟩, .int .i64 0, .int .i64 0, .int .i64 0], 34)]) := HasB.cons (HasB.keep L1.out hB2) (by rw [hqb]; exact hP2)
  have B2 : Hid (Below w.heap.size w w2) := B1.out.trans (hB2.mono B1.out.size)
  rw [← hqb]
  clear hB2 hP2 hw2 HSp L1 B1 hqb
  by_cases h3 : PC.length = 3
  rotate_left
  · have HF : Hid (RJ = .zero) := HJ0.out h3
    have hn : ((PC.length : Int) != 3) = true := by rw [bne_iff_ne]; omega
    have hR := L2.out.tail.head
    clear HJ HJ0 HPz
    go_wp2_with (refine wpList_store_row rfl 34 _ _ rfl (w.heap.size) _ [Value.int .i64 0, .int .i64 0, .string ⟨#[]⟩, .string ⟨#[]⟩, .int .i64 0, .int .i64 0, .int .i64 0] 34 rfl rfl hR rfl hi' (by simp [Value.oneCell']) ?_)
    intro w8 hrow ho hs8 hbb
    have HROW : Hid _ := hrow
    have HB8 : Hid (Below w.heap.size w w8) := hbb _ _ (Nat.le_refl _) B2.out
    clear ho hs8 hbb hrow hR
    go_wp2
    refine bodyPost_ret (v := .agg [Value.int .i64 0, .int .i64 0, .string ⟨#[]⟩, .string ⟨#[]⟩, .int .i64 0, .int .i64 0, .int .i64 0].toArray) ?_ rfl ⟨by rw [HF.out]; rfl, HB8.out⟩
    have hl3 := run_loadVar_mid (P := Tryz.prog) _ (w.heap.size) 0 34 _ _ (rangeRow HROW.out) Tryz.underlying34 rfl hi'
    simp [results, Tryz.results42, asAddr, hl3]
  obtain ⟨pa, pb, pc, rfl⟩ : ∃ a b c, PC = [a, b, c] := three_of h3
  have HF0 := HJ.out pa pb pc rfl
  have za : pa.size ≤ 20000 := HPz.out pa (by simp)
  have zb : pb.size ≤ 20000 := HPz.out pb (by simp)
  have zc : pc.size ≤ 20000 := HPz.out pc (by simp)
  have sa := readTD_size pa
  have sc := readTD_size pc
  obtain ⟨⟨hd, c7⟩, hhd⟩ : ∃ x, x = readTD pa := ⟨_, rfl⟩
  obtain ⟨⟨bd, c8⟩, hbd⟩ : ∃ x, x = readTD pb := ⟨_, rfl⟩
  obtain ⟨⟨tl, c9⟩, htl⟩ : ∃ x, x = readTD pc := ⟨_, rfl⟩
  rw [← hhd] at sa
  rw [← htl] at sc
  rw [← hhd, ← hbd, ← htl] at HF0
  simp only at HF0 sa sc
  obtain ⟨T, hT⟩ : ∃ T, T = readTD := ⟨_, rfl⟩
  have EA : Hid ((T pa).1 = hd) := by show _ = _; rw [hT, ← hhd]
  have EC : Hid ((T pc).1 = tl) := by show _ = _; rw [hT, ← htl]
  have CX : Hid (∀ V (x : ByteArray), x.size ≤ 20000 → Hid (Below w2.heap.size w2 V) → Calls Tryz.prog 8 #[.string x] V fun e W => e = .returned (.agg #[.string (T x).1, .int .i64 0, .int .i64 (T x).2]) ∧ Hid (Below w2.heap.size w2 W)) := fun V x hx hV => by
    have := implBase64Read x V (by unfold maxLen; omega)
    rw [txtV, ← hT] at this
    exact this.mono fun e W h => ⟨h.1, hV.out.trans (h.2.mono hV.out.size)⟩
  have CB : Hid (∀ V, Calls Tryz.prog 8 #[.string pb] V fun e W => e = .returned (.agg #[.string bd, .int .i64 0, .int .i64 c8]) ∧ Below V.heap.size V W) := fun V => by
    have := implBase64Read pb V (by unfold maxLen; omega)
    rw [← hbd, txtV] at this
    exact this
  have GN : Hid (∀ V (x : ByteArray) (p : Int), Below w.heap.size w V → x.size ≤ 40000 → 0 ≤ p ∧ p ≤ 40000 → Calls Tryz.prog 68 #[.string x, .int .i64 p] V fun e w' => e = .returned (numV (numAt x p)) ∧ Below V.heap.size V w') := fun V x p hV hx hp => implGet x p V (by unfold maxLen; omega) (by omega) (by omega) (HEr.out V hV)
  have GT : Hid (∀ V (x : ByteArray) (p : Int), Below w.heap.size w V → x.size ≤ 40000 → 0 ≤ p ∧ p ≤ 40000 → Calls Tryz.prog 69 #[.string x, .int .i64 p] V fun e w' => e = .returned (textR x (numAt x p)) ∧ Below V.heap.size V w') := fun V x p hV hx hp => implGetText x p V (by unfold maxLen; omega) (by omega) (by omega) (HEr.out V hV)
  have zh : hd.size ≤ 40000 := by omega
  have zt : tl.size ≤ 40000 := by omega
  obtain ⟨⟨n1, a1, c1⟩, hn1⟩ : ∃ x, x = numAt hd 0 := ⟨_, rfl⟩
  obtain ⟨⟨n2, a2, c2⟩, hn2⟩ : ∃ x, x = numAt hd a1 := ⟨_, rfl⟩
  obtain ⟨⟨n4, a4, c4⟩, hn4⟩ : ∃ x, x = numAt tl 0 := ⟨_, rfl⟩
  obtain ⟨⟨n5, a5, c5⟩, hn5⟩ : ∃ x, x = numAt tl a4 := ⟨_, rfl⟩
  have b1 := numAt_small hd 0 zh
  have b2 := numAt_small hd a1 zh
  have b4 := numAt_small tl 0 zt
  rw [← hn1] at b1
  rw [← hn2] at b2
  rw [← hn4] at b4
  simp only at b1 b2 b4
  obtain ⟨ta, tc, ht⟩ := txtA_form hd a2
  obtain ⟨ur, hur⟩ : ∃ x, x = txtA hd a2 := ⟨_, rfl⟩
  have HF : Hid (RJ = ⟨n1, n2, ur, bd, n4, n5⟩) := by
    show _ = _
    rw [HF0, parseJ]
    simp only [← hn1, ← hn2, ← hn4, ← hn5, ← hur]
  have N1 : Hid (∀ V, Below w.heap.size w V → Calls Tryz.prog 68 #[.string hd, .int .i64 0] V fun e w' => e = .returned (.agg #[.int .i64 n1, .int .i64 a1, .int .i64 c1]) ∧ Below V.heap.size V w') := fun V hV => by have := GN.out V hd 0 hV zh (by omega); rw [← hn1] at this; exact this
  have N2 : Hid (∀ V, Below w.heap.size w V → Calls Tryz.prog 68 #[.string hd, .int .i64 a1] V fun e w' => e = .returned (.agg #[.int .i64 n2, .int .i64 a2, .int .i64 c2]) ∧ Below V.heap.size V w') := fun V hV => by have := GN.out V hd a1 hV zh b1; rw [← hn2] at this; exact this
  have N3 : Hid (∀ V, Below w.heap.size w V → Calls Tryz.prog 69 #[.string hd, .int .i64 a2] V fun e w' => e = .returned (.agg #[.string ur, .int .i64 ta, .int .i64 tc]) ∧ Below V.heap.size V w') := fun V hV => by have := GT.out V hd a2 hV zh b2; rw [ht, ← hur] at this; exact this
  have N4 : Hid (∀ V, Below w.heap.size w V → Calls Tryz.prog 68 #[.string tl, .int .i64 0] V fun e w' => e = .returned (.agg #[.int .i64 n4, .int .i64 a4, .int .i64 c4]) ∧ Below V.heap.size V w') := fun V hV => by have := GN.out V tl 0 hV zt (by omega); rw [← hn4] at this; exact this
  have N5 : Hid (∀ V, Below w.heap.size w V → Calls Tryz.prog 68 #[.string tl, .int .i64 a4] V fun e w' => e = .returned (.agg #[.int .i64 n5, .int .i64 a5, .int .i64 c5]) ∧ Below V.heap.size V w') := fun V hV => by have := GN.out V tl a4 hV zt b4; rw [← hn5] at this; exact this
  have hl3 : ((([pa, pb, pc] : List ByteArray).length : Int) != 3) = false := rfl
  have L2' : Hid (HasB w2 [(qb, [Value.string pa, .string pb, .string pc], 9), (w.heap.size, [Value.int .i64 0, .int .i64 0, .string ⟨#[]⟩, .string ⟨#[]⟩, .int .i64 0, .int .i64 0, .int .i64 0], 34)]) := L2.out
  have nf := numFj
  have tf := textF
  have HK2 : Hid (∀ V, Below w2.heap.size w2 V → V.cell? ⟨qb, 0, none⟩ = some (.string pa) ∧ V.cell? ⟨qb, 2, none⟩ = some (.string pc)) := fun V hV => by
    have hP := (HasB.keep L2'.out hV).head
    exact ⟨rowFacts hP 0 _ rfl, rowFacts hP 2 _ rfl⟩
  have I2 : Hid (Below w2.heap.size w2 w2.drew) := (Below.refl _ w2).drew
  clear HJ HJ0 HPz HF0 zb sa hT sc hhd hbd htl GN GT zh zt hn1 hn2 hn4 hn5 b1 b2 b4 ht hur h3 L2 HEr
  go_upto_region 4 with fail
  obtain ⟨p0, p2⟩ := HK2.out w2 (Below.refl _ _)
  go_region_held3 (fun V => V.cell? ⟨qb, 0, none⟩ = some (.string pa) ∧ V.cell? ⟨qb, 2, none⟩ = some (.string pc)) (first | (refine ⟨?_, ?_⟩ <;> assumption) | exact HK2.out _ (Hid.out (by assumption)))
    (first
      | (go_at_call 8; refine (CX.out _ _ (by assumption) (by assumption)).mono ?_; rintro r V1 ⟨rfl, k1⟩))
  all_goals
    rw [EA.out, EC.out]
    obtain ⟨w4, hw4⟩ : ∃ y, y = V1 := ⟨_, rfl⟩
    have hk := k1.out
    rw [← hw4] at hk ⊢
    have L4 : Hid (HasB w4 [(qb, [Value.string pa, .string pb, .string pc], 9), (w.heap.size, [Value.int .i64 0, .int .i64 0, .string ⟨#[]⟩, .string ⟨#[]⟩, .int .i64 0, .int .i64 0, .int .i64 0], 34)]) := HasB.keep L2'.out hk
    have B4 : Hid (Below w.heap.size w w4) := B2.out.trans (hk.mono B2.out.size)
    clear hw4 hk HK2 I2 CX L2' B2 p0 p2 EA EC za zc
    go_wp2_with fail
    refine (N1.out _ B4.out).mono ?_
    rintro e wc ⟨rfl, b'⟩
    have LC : Hid (HasB wc [(qb, [Value.string pa, .string pb, .string pc], 9), (w.heap.size, [Value.int .i64 0, .int .i64 0, .string ⟨#[]⟩, .string ⟨#[]⟩, .int .i64 0, .int .i64 0, .int .i64 0], 34)]) := HasB.keep L4.out b'
    have BC : Hid (Below w.heap.size w wc) := B4.out.trans (b'.mono B4.out.size)
    clear b' N1 L4 B4
    obtain ⟨kb, hlb⟩ : ∃ b, b = wc.heap.size := ⟨_, rfl⟩
    obtain ⟨w5, hw5⟩ : ∃ y, y = wc.alloc (.cells #[.int .i64 n1, .int .i64 a1, .int .i64 c1] 82 (0, 0)) := ⟨_, rfl⟩
    have L5 : Hid (HasB w5 [(kb, [Value.int .i64 n1, .int .i64 a1, .int .i64 c1], 82), (qb, [Value.string pa, .string pb, .string pc], 9), (w.heap.size, [Value.int .i64 0, .int .i64 0, .string ⟨#[]⟩, .string ⟨#[]⟩, .int .i64 0, .int .i64 0, .int .i64 0], 34)]) := by rw [hw5, hlb]; exact HasB.alloc LC.out _ _
    have B5 : Hid (Below w.heap.size w w5) := by rw [hw5]; exact BC.out.alloc BC.out.size _
    clear LC BC
    go_upto_region 6 with fail
    rw [← hw5, ← hlb]
    clear hw5 hlb wc
    have f1 := rowFacts L5.out.head 1 _ rfl
    go_wp2_with fail
    refine (N2.out _ B5.out).mono ?_
    rintro e wc ⟨rfl, b'⟩
    have LC : Hid (HasB wc [(kb, [Value.int .i64 n1, .int .i64 a1, .int .i64 c1], 82), (qb, [Value.string pa, .string pb, .string pc], 9), (w.heap.size, [Value.int .i64 0, .int .i64 0, .string ⟨#[]⟩, .string ⟨#[]⟩, .int .i64 0, .int .i64 0, .int .i64 0], 34)]) := HasB.keep L5.out b'
    have BC : Hid (Below w.heap.size w wc) := B5.out.trans (b'.mono B5.out.size)
    clear b' N2 L5 B5 f1
    obtain ⟨nb, hlb⟩ : ∃ b, b = wc.heap.size := ⟨_, rfl⟩
    obtain ⟨w6, hw6⟩ : ∃ y, y = wc.alloc (.cells #[.int .i64 n2, .int .i64 a2, .int .i64 c2] 82 (0, 0)) := ⟨_, rfl⟩
    have L6 : Hid (HasB w6 [(nb, [Value.int .i64 n2, .int .i64 a2, .int .i64 c2], 82), (kb, [Value.int .i64 n1, .int .i64 a1, .int .i64 c1], 82), (qb, [Value.string pa, .string pb, .string pc], 9), (w.heap.size, [Value.int .i64 0, .int .i64 0, .string ⟨#[]⟩, .string ⟨#[]⟩, .int .i64 0, .int .i64 0, .int .i64 0], 34)]) := by rw [hw6, hlb]; exact HasB.alloc LC.out _ _
    have B6 : Hid (Below w.heap.size w w6) := by rw [hw6]; exact BC.out.alloc BC.out.size _
    clear LC BC
    go_upto_region 7 with fail
    rw [← hw6, ← hlb]
    clear hw6 hlb wc
    go_wp2_with fail
    refine (N4.out _ B6.out).mono ?_
    rintro e wc ⟨rfl, b'⟩
    have LC : Hid (HasB wc [(nb, [Value.int .i64 n2, .int .i64 a2, .int .i64 c2], 82), (kb, [Value.int .i64 n1, .int .i64 a1, .int .i64 c1], 82), (qb, [Value.string pa, .string pb, .string pc], 9), (w.heap.size, [Value.int .i64 0, .int .i64 0, .string ⟨#[]⟩, .string ⟨#[]⟩, .int .i64 0, .int .i64 0, .int .i64 0], 34)]) := HasB.keep L6.out b'
    have BC : Hid (Below w.heap.size w wc) := B6.out.trans (b'.mono B6.out.size)
    clear b' N4 L6 B6
    obtain ⟨eb, hlb⟩ : ∃ b, b = wc.heap.size := ⟨_, rfl⟩
    obtain ⟨w7, hw7⟩ : ∃ y, y = wc.alloc (.cells #[.int .i64 n4, .int .i64 a4, .int .i64 c4] 82 (0, 0)) := ⟨_, rfl⟩
    have L7 : Hid (HasB w7 [(eb, [Value.int .i64 n4, .int .i64 a4, .int .i64 c4], 82), (nb, [Value.int .i64 n2, .int .i64 a2, .int .i64 c2], 82), (kb, [Value.int .i64 n1, .int .i64 a1, .int .i64 c1], 82), (qb, [Value.string pa, .string pb, .string pc], 9), (w.heap.size, [Value.int .i64 0, .int .i64 0, .string ⟨#[]⟩, .string ⟨#[]⟩, .int .i64 0, .int .i64 0, .int .i64 0], 34)]) := by rw [hw7, hlb]; exact HasB.alloc LC.out _ _
    have B7 : Hid (Below w.heap.size w w7) := by rw [hw7]; exact BC.out.alloc BC.out.size _
    clear LC BC
    go_upto_region 8 with fail
    rw [← hw7, ← hlb]
    clear hw7 hlb wc
    have HK : Hid (∀ V, Below w7.heap.size w7 V → V.cell? ⟨kb, 0, none⟩ = some (.int .i64 n1) ∧ V.cell? ⟨nb, 0, none⟩ = some (.int .i64 n2) ∧ V.cell? ⟨nb, 1, none⟩ = some (.int .i64 a2) ∧ V.cell? ⟨eb, 0, none⟩ = some (.int .i64 n4) ∧ V.cell? ⟨eb, 1, none⟩ = some (.int .i64 a4) ∧ V.cell? ⟨qb, 1, none⟩ = some (.string pb)) := fun V hV => by
      have h := HasB.keep L7.out hV
      exact ⟨rowFacts h.tail.tail.head 0 _ rfl, rowFacts h.tail.head 0 _ rfl, rowFacts h.tail.head 1 _ rfl, rowFacts h.head 0 _ rfl, rowFacts h.head 1 _ rfl, rowFacts h.tail.tail.tail.head 1 _ rfl⟩
    have HZ : Hid (∀ V, Below w7.heap.size w7 V → V.cell? ⟨w.heap.size, 0, none⟩ = some (.int .i64 0) ∧ V.cell? ⟨w.heap.size, 1, none⟩ = some (.int .i64 0) ∧ V.cell? ⟨w.heap.size, 2, none⟩ = some (.string ⟨#[]⟩) ∧ V.cell? ⟨w.heap.size, 3, none⟩ = some (.string ⟨#[]⟩) ∧ V.cell? ⟨w.heap.size, 4, none⟩ = some (.int .i64 0) ∧ V.cell? ⟨w.heap.size, 5, none⟩ = some (.int .i64 0) ∧ V.cell? ⟨w.heap.size, 6, none⟩ = some (.int .i64 0) ∧ V.frozen? ⟨w.heap.size, 0, none⟩ = false ∧ V.frozen? ⟨w.heap.size, 1, none⟩ = false ∧ V.frozen? ⟨w.heap.size, 2, none⟩ = false ∧ V.frozen? ⟨w.heap.size, 3, none⟩ = false ∧ V.frozen? ⟨w.heap.size, 4, none⟩ = false ∧ V.frozen? ⟨w.heap.size, 5, none⟩ = false ∧ V.frozen? ⟨w.heap.size, 6, none⟩ = false) := fun V hV => by
      have h := (HasB.keep L7.out hV).tail.tail.tail.tail.head
      exact ⟨rowFacts h 0 _ rfl, rowFacts h 1 _ rfl, rowFacts h 2 _ rfl, rowFacts h 3 _ rfl, rowFacts h 4 _ rfl, rowFacts h 5 _ rfl, rowFacts h 6 _ rfl, rowFree h 0, rowFree h 1, rowFree h 2, rowFree h 3, rowFree h 4, rowFree h 5, rowFree h 6⟩
    have D1 : Hid (∀ V, Hid (Below w7.heap.size w7 V) → Calls Tryz.prog 69 #[.string hd, .int .i64 a2] V fun e W => e = .returned (.agg #[.string ur, .int .i64 ta, .int .i64 tc]) ∧ Hid (Below w7.heap.size w7 W)) := fun V hV => (N3.out V (B7.out.trans (hV.out.mono B7.out.size))).mono fun e W h => ⟨h.1, hV.out.trans (h.2.mono hV.out.size)⟩
    have D2 : Hid (∀ V, Hid (Below w7.heap.size w7 V) → Calls Tryz.prog 8 #[.string pb] V fun e W => e = .returned (.agg #[.string bd, .int .i64 0, .int .i64 c8]) ∧ Hid (Below w7.heap.size w7 W)) := fun V hV => (CB.out V).mono fun e W h => ⟨h.1, hV.out.trans (h.2.mono hV.out.size)⟩
    have D3 : Hid (∀ V, Hid (Below w7.heap.size w7 V) → Calls Tryz.prog 68 #[.string tl, .int .i64 a4] V fun e W => e = .returned (.agg #[.int .i64 n5, .int .i64 a5, .int .i64 c5]) ∧ Hid (Below w7.heap.size w7 W) ∧ W.cell? ⟨w.heap.size, 0, none⟩ = some (.int .i64 0) ∧ W.cell? ⟨w.heap.size, 1, none⟩ = some (.int .i64 0) ∧ W.cell? ⟨w.heap.size, 2, none⟩ = some (.string ⟨#[]⟩) ∧ W.cell? ⟨w.heap.size, 3, none⟩ = some (.string ⟨#[]⟩) ∧ W.cell? ⟨w.heap.size, 4, none⟩ = some (.int .i64 0) ∧ W.cell? ⟨w.heap.size, 5, none⟩ = some (.int .i64 0) ∧ W.cell? ⟨w.heap.size, 6, none⟩ = some (.int .i64 0) ∧ W.frozen? ⟨w.heap.size, 0, none⟩ = false ∧ W.frozen? ⟨w.heap.size, 1, none⟩ = false ∧ W.frozen? ⟨w.heap.size, 2, none⟩ = false ∧ W.frozen? ⟨w.heap.size, 3, none⟩ = false ∧ W.frozen? ⟨w.heap.size, 4, none⟩ = false ∧ W.frozen? ⟨w.heap.size, 5, none⟩ = false ∧ W.frozen? ⟨w.heap.size, 6, none⟩ = false) := fun V hV => (N5.out V (B7.out.trans (hV.out.mono B7.out.size))).mono fun e W h => ⟨h.1, hV.out.trans (h.2.mono hV.out.size), HZ.out W (hV.out.trans (h.2.mono hV.out.size))⟩
    have hne : ∀ p ∈ [(eb, [Value.int .i64 n4, .int .i64 a4, .int .i64 c4], 82), (nb, [Value.int .i64 n2, .int .i64 a2, .int .i64 c2], 82), (kb, [Value.int .i64 n1, .int .i64 a1, .int .i64 c1], 82), (qb, [Value.string pa, .string pb, .string pc], 9)], p.1 ≠ w.heap.size := by
      have hz := L7.out.tail.tail.tail.tail.head
      intro p hp
      simp only [List.mem_cons, List.not_mem_nil, or_false] at hp
      rcases hp with rfl | rfl | rfl | rfl <;> intro h <;> simp only at h
      · have h1 := L7.out.head; rw [h] at h1; have h2 := h1.symm.trans hz; simp at h2
      · have h1 := L7.out.tail.head; rw [h] at h1; have h2 := h1.symm.trans hz; simp at h2
      · have h1 := L7.out.tail.tail.head; rw [h] at h1; have h2 := h1.symm.trans hz; simp at h2
      · have h1 := L7.out.tail.tail.tail.head; rw [h] at h1; have h2 := h1.symm.trans hz; simp at h2
    have HST : Hid (∀ V, Below w7.heap.size w7 V → ∀ u0 u1 u2 u3 u4 u5 u6 : Value, (((((((V.setCell ⟨w.heap.size, 0, none⟩ u0).setCell ⟨w.heap.size, 1, none⟩ u1).setCell ⟨w.heap.size, 2, none⟩ u2).setCell ⟨w.heap.size, 3, none⟩ u3).setCell ⟨w.heap.size, 4, none⟩ u4).setCell ⟨w.heap.size, 5, none⟩ u5).setCell ⟨w.heap.size, 6, none⟩ u6).cell? ⟨kb, 0, none⟩ = some (.int .i64 n1) ∧ (((((((V.setCell ⟨w.heap.size, 0, none⟩ u0).setCell ⟨w.heap.size, 1, none⟩ u1).setCell ⟨w.heap.size, 2, none⟩ u2).setCell ⟨w.heap.size, 3, none⟩ u3).setCell ⟨w.heap.size, 4, none⟩ u4).setCell ⟨w.heap.size, 5, none⟩ u5).setCell ⟨w.heap.size, 6, none⟩ u6).cell? ⟨nb, 0, none⟩ = some (.int .i64 n2) ∧ (((((((V.setCell ⟨w.heap.size, 0, none⟩ u0).setCell ⟨w.heap.size, 1, none⟩ u1).setCell ⟨w.heap.size, 2, none⟩ u2).setCell ⟨w.heap.size, 3, none⟩ u3).setCell ⟨w.heap.size, 4, none⟩ u4).setCell ⟨w.heap.size, 5, none⟩ u5).setCell ⟨w.heap.size, 6, none⟩ u6).cell? ⟨nb, 1, none⟩ = some (.int .i64 a2) ∧ (((((((V.setCell ⟨w.heap.size, 0, none⟩ u0).setCell ⟨w.heap.size, 1, none⟩ u1).setCell ⟨w.heap.size, 2, none⟩ u2).setCell ⟨w.heap.size, 3, none⟩ u3).setCell ⟨w.heap.size, 4, none⟩ u4).setCell ⟨w.heap.size, 5, none⟩ u5).setCell ⟨w.heap.size, 6, none⟩ u6).cell? ⟨eb, 0, none⟩ = some (.int .i64 n4) ∧ (((((((V.setCell ⟨w.heap.size, 0, none⟩ u0).setCell ⟨w.heap.size, 1, none⟩ u1).setCell ⟨w.heap.size, 2, none⟩ u2).setCell ⟨w.heap.size, 3, none⟩ u3).setCell ⟨w.heap.size, 4, none⟩ u4).setCell ⟨w.heap.size, 5, none⟩ u5).setCell ⟨w.heap.size, 6, none⟩ u6).cell? ⟨eb, 1, none⟩ = some (.int .i64 a4) ∧ (((((((V.setCell ⟨w.heap.size, 0, none⟩ u0).setCell ⟨w.heap.size, 1, none⟩ u1).setCell ⟨w.heap.size, 2, none⟩ u2).setCell ⟨w.heap.size, 3, none⟩ u3).setCell ⟨w.heap.size, 4, none⟩ u4).setCell ⟨w.heap.size, 5, none⟩ u5).setCell ⟨w.heap.size, 6, none⟩ u6).cell? ⟨qb, 1, none⟩ = some (.string pb)) := fun V hV u0 u1 u2 u3 u4 u5 u6 => by
      have h0 := HasB.keep L7.out hV
      have h : HasB (((((((V.setCell ⟨w.heap.size, 0, none⟩ u0).setCell ⟨w.heap.size, 1, none⟩ u1).setCell ⟨w.heap.size, 2, none⟩ u2).setCell ⟨w.heap.size, 3, none⟩ u3).setCell ⟨w.heap.size, 4, none⟩ u4).setCell ⟨w.heap.size, 5, none⟩ u5).setCell ⟨w.heap.size, 6, none⟩ u6) [(eb, [Value.int .i64 n4, .int .i64 a4, .int .i64 c4], 82), (nb, [Value.int .i64 n2, .int .i64 a2, .int .i64 c2], 82), (kb, [Value.int .i64 n1, .int .i64 a1, .int .i64 c1], 82), (qb, [Value.string pa, .string pb, .string pc], 9)] := fun p hp => by
        rw [heap_setCell_other _ _ _ _ (hne p hp), heap_setCell_other _ _ _ _ (hne p hp), heap_setCell_other _ _ _ _ (hne p hp), heap_setCell_other _ _ _ _ (hne p hp), heap_setCell_other _ _ _ _ (hne p hp), heap_setCell_other _ _ _ _ (hne p hp), heap_setCell_other _ _ _ _ (hne p hp)]
        exact h0 p (by simp only [List.mem_cons, List.not_mem_nil, or_false] at hp ⊢; rcases hp with h | h | h | h <;> simp only [h, true_or, or_true])
      exact ⟨rowFacts h.tail.tail.head 0 _ rfl, rowFacts h.tail.head 0 _ rfl, rowFacts h.tail.head 1 _ rfl, rowFacts h.head 0 _ rfl, rowFacts h.head 1 _ rfl, rowFacts h.tail.tail.tail.head 1 _ rfl⟩
    clear hne
    have I7 : Hid (Below w7.heap.size w7 w7.drew) := (Below.refl _ w7).drew
    obtain ⟨p0, p1, p2, p3, p4, p5⟩ := HK.out w7 (Below.refl _ _)
    clear N3 N5 CB HZ
    go_region_held3 (fun V => V.cell? ⟨kb, 0, none⟩ = some (.int .i64 n1) ∧ V.cell? ⟨nb, 0, none⟩ = some (.int .i64 n2) ∧ V.cell? ⟨nb, 1, none⟩ = some (.int .i64 a2) ∧ V.cell? ⟨eb, 0, none⟩ = some (.int .i64 n4) ∧ V.cell? ⟨eb, 1, none⟩ = some (.int .i64 a4) ∧ V.cell? ⟨qb, 1, none⟩ = some (.string pb)) (first | (with_reducible exact HK.out _ k5.out) | (with_reducible exact HK.out _ k4.out) | (with_reducible exact HK.out _ k3.out) | (with_reducible exact HK.out _ I7.out) | (exact HST.out _ k5.out _ _ _ _ _ _ _))
      (first
        | (go_at_call 69; refine (D1.out _ (by assumption)).mono ?_; rintro r V3 ⟨rfl, k3⟩)
        | (go_at_call 8; refine (D2.out _ (by assumption)).mono ?_; rintro r V4 ⟨rfl, k4⟩)
        | (go_at_call 68; refine (D3.out _ (by assumption)).mono ?_; rintro r V5 ⟨rfl, k5, y0, y1, y2, y3, y4, y5, y6, f0, f1, f2, f3, f4, f5, f6⟩))
    all_goals
      have hR := (HasB.keep L7.out k5.out).tail.tail.tail.tail.head
      have B8 : Hid (Below w.heap.size w V5) := B7.out.trans (k5.out.mono B7.out.size)
      have HR : Hid _ := hR
      have HB8 : Hid (Below w.heap.size w V5) := B8
      clear hR B8 HK HST D1 D2 D3 I7 k3 k4 k5 L7 B7 p0 p1 p2 p3 p4 p5 y0 y1 y2 y3 y4 y5 y6 f0 f1 f2 f3 f4 f5 f6
      go_wp2
      refine bodyPost_ret (v := .agg [Value.int .i64 n1, .int .i64 n2, .string ur, .string bd, .int .i64 n1, .int .i64 n4, .int .i64 n5].toArray) ?_ rfl ⟨by rw [HF.out]; rfl, ?_⟩
      · have hrow := jwsRow HR.out (.int .i64 n1) (.int .i64 n2) (.string ur) (.string bd) (.int .i64 n1) (.int .i64 n4) (.int .i64 n5)
        have hl3 := run_loadVar_mid (P := Tryz.prog) _ (w.heap.size) 0 34 _ _ (rangeRow hrow) Tryz.underlying34 rfl sizeJwsI
        simp [results, Tryz.results42, asAddr, hl3]
      · exact ((((((HB8.out.setCell (by simp) _).setCell (by simp) _).setCell (by simp) _).setCell (by simp) _).setCell (by simp) _).setCell (by simp) _).setCell (by simp) _
end Go.Proofs.YtjkmfjegphpjkaaGreatDoor
namespace Go.Proofs.YtjkmfjegphpjkaaGreatDoor
open Go.RowKit

theorem implRem (n : Int) (w : World) :
    Calls Tryz.prog 70 #[.int .i64 n] w fun e w' => e = .returned (.bool (remB n)) ∧ w' = w := by
  by_cases h1 : 0 ≤ n
  · by_cases h2 : n < 1073741789
    · have e : remB n = true := decide_eq_true ⟨h1, h2⟩
      rw [e]
      go_enter Tryz.func70, Tryz.ntmps70
      go_wp2
      go_ret
      exact ⟨rfl, rfl⟩
    · have e : remB n = false := decide_eq_false (by omega)
      rw [e]
      go_enter Tryz.func70, Tryz.ntmps70
      go_wp2
      go_ret
      exact ⟨rfl, rfl⟩
  · have e : remB n = false := decide_eq_false (by omega)
    rw [e]
    go_enter Tryz.func70, Tryz.ntmps70
    go_wp2
    go_ret
    exact ⟨rfl, rfl⟩
set_option maxHeartbeats 1000000 in
set_option maxRecDepth 100000 in
theorem implSigRight (k e s : Int) (w : World) :
    Calls Tryz.prog 43 #[.agg #[.int .i64 k, .int .i64 e, .int .i64 s]] w fun r w' => r = .returned (.bool (sigRB k e s)) ∧ Below w.heap.size w w' := by
  go_enter Tryz.func43, Tryz.ntmps43
  go_wp2_with fail
  refine (implGroupRight k _).mono ?_
  rintro e1 w1 ⟨rfl, hb1⟩
  have HB : Hid (Below w.heap.size w w1) := ((Below.refl _ w).alloc (Nat.le_refl _) _).trans (hb1.mono (by simp))
  have c1 : w1.cell? ⟨w.heap.size, 1, none⟩ = some (.int .i64 e) := by rw [hb1.cell (p := ⟨w.heap.size, 1, none⟩) (by simp)]; simp
  have c2 : w1.cell? ⟨w.heap.size, 2, none⟩ = some (.int .i64 s) := by rw [hb1.cell (p := ⟨w.heap.size, 2, none⟩) (by simp)]; simp
  clear hb1
  by_cases h1 : rightG k = true
  · rw [h1]
    go_wp2_with fail
    refine (implRem e _).mono ?_
    rintro e2 w2 ⟨rfl, rfl⟩
    by_cases h2 : remB e = true
    · rw [h2]
      go_wp2_with fail
      refine (implRem s _).mono ?_
      rintro e3 w3 ⟨rfl, rfl⟩
      generalize hb3 : remB s = b
      go_wp2
      go_ret
      exact ⟨by simp [sigRB, *], HB.out⟩
    · rw [Bool.not_eq_true] at h2
      rw [h2]
      go_wp2
      go_ret
      exact ⟨by simp [sigRB, *], HB.out⟩
  · rw [Bool.not_eq_true] at h1
    rw [h1]
    go_wp2
    go_ret
    exact ⟨by simp [sigRB, *], HB.out⟩
end Go.Proofs.YtjkmfjegphpjkaaGreatDoor
namespace Go.Proofs.YtjkmfjegphpjkaaGreatDoor
open Go.RowKit

set_option maxHeartbeats 1000000 in
set_option maxRecDepth 100000 in
theorem implModMul (a b m : Int) (w : World) :
    Calls Tryz.prog 114 #[.int .i64 a, .int .i64 b, .int .i64 m] w fun e w' => e = .returned (.int .i64 (mulA a b m)) ∧ Below w.heap.size w w' := by
  by_cases h1 : a < 0
  · have ea : Hid (mulA a b m = 0) := by
      show _ = _
      rw [mulA, if_neg (by omega)]
    go_enter Tryz.func114, Tryz.ntmps114
    go_wp2
    go_ret
    exact ⟨ret_int ea.out.symm, Below.refl _ _⟩
  by_cases h2 : b < 0
  · have ea : Hid (mulA a b m = 0) := by
      show _ = _
      rw [mulA, if_neg (by omega)]
    go_enter Tryz.func114, Tryz.ntmps114
    go_wp2
    go_ret
    exact ⟨ret_int ea.out.symm, Below.refl _ _⟩
  by_cases h3 : modB m = true
  · obtain ⟨k, rfl, k1, k2⟩ := modB_nat h3
    obtain ⟨x, rfl⟩ := nat_of h1
    obtain ⟨y, rfl⟩ := nat_of h2
    rw [mulA_nat x y k h3]
    clear h1 h2
    generalize hz : x * y % k = z
    go_enter Tryz.func114, Tryz.ntmps114
    go_wp2_with fail
    refine (implModRight k w).mono ?_
    rintro e w' ⟨rfl, rfl⟩
    rw [h3]
    go_wp2_with fail
    refine (implModulo k _).mono ?_
    rintro e w' ⟨rfl, rfl⟩
    go_wp2_with fail
    refine (implProduct _ x y k _ k1 k2 (newCell _ _ _)).mono ?_
    rintro e w' ⟨rfl, rfl⟩
    rw [hz]
    clear hz
    go_wp2
    go_ret
    exact ⟨rfl, allocBelow _ _⟩
  · rw [Bool.not_eq_true] at h3
    have ea : Hid (mulA a b m = 0) := by
      show _ = _
      rw [mulA, if_neg (by rw [h3]; simp)]
    go_enter Tryz.func114, Tryz.ntmps114
    go_wp2_with fail
    refine (implModRight m w).mono ?_
    rintro e w' ⟨rfl, rfl⟩
    rw [h3]
    go_wp2
    go_ret
    exact ⟨ret_int ea.out.symm, Below.refl _ _⟩
end Go.Proofs.YtjkmfjegphpjkaaGreatDoor
namespace Go.Proofs.YtjkmfjegphpjkaaGreatDoor
open Go.RowKit

set_option maxHeartbeats 1000000 in
set_option maxRecDepth 100000 in
theorem implGroupMul (a b : Int) (w : World) :
    Calls Tryz.prog 94 #[.int .i64 a, .int .i64 b] w fun e w' => e = .returned (.int .i64 (gmulA a b)) ∧ Below w.heap.size w w' := by
  by_cases h1 : unitB a = true
  · by_cases h2 : unitB b = true
    · obtain ⟨x, rfl, x1, x2⟩ := unitB_nat h1
      obtain ⟨y, rfl, y1, y2⟩ := unitB_nat h2
      rw [gmulA_nat x y h1 h2]
      have HC : Hid (∀ v : World, Calls Tryz.prog 114 #[.int .i64 (x : Int), .int .i64 (y : Int), .int .i64 2147483579] v fun e w' => e = .returned (.int .i64 ((x * y % 2147483579 : Nat) : Int)) ∧ Below v.heap.size v w') := fun v => by
        have h := implModMul x y 2147483579 v
        rw [show (2147483579 : Int) = ((2147483579 : Nat) : Int) from rfl, mulA_nat x y 2147483579 modP] at h
        exact h
      generalize x * y % 2147483579 = z at *
      go_enter Tryz.func94, Tryz.ntmps94
      go_wp2_with fail
      refine (implUnit x _).mono ?_
      rintro e w' ⟨rfl, rfl⟩
      rw [h1]
      go_wp2_with fail
      refine (implUnit y _).mono ?_
      rintro e w' ⟨rfl, rfl⟩
      rw [h2]
      go_wp2_with fail
      refine (HC.out _).mono ?_
      rintro e w' ⟨rfl, hb⟩
      have HB : Hid _ := hb
      clear hb
      go_wp2
      go_ret
      exact ⟨rfl, HB.out⟩
    · rw [Bool.not_eq_true] at h2
      have ea : Hid (gmulA a b = 0) := by
        show _ = _
        rw [gmulA, if_neg (by rw [h2]; simp)]
      go_enter Tryz.func94, Tryz.ntmps94
      go_wp2_with fail
      refine (implUnit a _).mono ?_
      rintro e w' ⟨rfl, rfl⟩
      rw [h1]
      go_wp2_with fail
      refine (implUnit b _).mono ?_
      rintro e w' ⟨rfl, rfl⟩
      rw [h2]
      go_wp2
      go_ret
      exact ⟨ret_int ea.out.symm, Below.refl _ _⟩
  · rw [Bool.not_eq_true] at h1
    have ea : Hid (gmulA a b = 0) := by
      show _ = _
      rw [gmulA, if_neg (by rw [h1]; simp)]
    go_enter Tryz.func94, Tryz.ntmps94
    go_wp2_with fail
    refine (implUnit a _).mono ?_
    rintro e w' ⟨rfl, rfl⟩
    rw [h1]
    go_wp2
    go_ret
    exact ⟨ret_int ea.out.symm, Below.refl _ _⟩
end Go.Proofs.YtjkmfjegphpjkaaGreatDoor
