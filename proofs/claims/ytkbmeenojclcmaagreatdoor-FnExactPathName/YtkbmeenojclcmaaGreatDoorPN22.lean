/- laws.szCert, walked: any number of bytes that are left. laws.szInt64S, szCrl, walked. laws.szCrl, walked: any number of bytes that are left. laws.toStringS, walked. laws.toSig, walked. laws.toCert, walked. laws.toInt64S, walked. -/
import Derived.Test.YtkbmeenojclcmaaGreatDoorPN02
import Derived.Test.YtkbmeenojclcmaaGreatDoorPN21
import Derived.Deep.Cut
import Derived.Test.YtkbmeenojclcmaaGreatDoorPN05
import Derived.Test.YtkbmeenojclcmaaGreatDoorPN01
import Derived.Test.YtkbmeenojclcmaaGreatDoorPN10
import Derived.Handy
import Derived.Test.YtkbmeenojclcmaaGreatDoorPN12
import Derived.Test.YtkbmeenojclcmaaGreatDoorPN04
namespace Go.Proofs.YtkbmeenojclcmaaGreatDoor
open Go.RowKit

set_option maxHeartbeats 2000000 in
set_option maxRecDepth 100000 in
theorem szCertM (c : Paper) (a : Option Addr) (cap : Nat) (m : Int) (w : World) (hm0 : 0 ≤ m) (hm1 : m ≤ 1048576) (hi : c.issuer.size ≤ maxLen) (hs : c.subject.size ≤ maxLen) (hl : c.names.length ≤ maxLen) (ht : ∀ s ∈ c.names, s.size ≤ maxLen) (ha : IsStrs w a c.names) :
    Calls Tryz.prog 5 #[c.val (.slice a c.names.length cap), .int .i64 m] w fun e w' => ∃ x : Int, e = .returned (.int .i64 x) ∧ (x < 0 ∨ c.Small) ∧ -1 ≤ x ∧ x ≤ 1048576 ∧ Below w.heap.size w w' := by
  have HSm : Hid (c.issuer.size ≤ 1048576 → c.subject.size ≤ 1048576 → c.names.length + totS c.names c.names.length ≤ 1048576 → c.Small) := fun h1 h2 h3 => ⟨h1, h2, by omega, by omega⟩
  obtain ⟨ser, iss, sub, fr, till, key, names, ca, sk, se, ss⟩ := c
  simp only at hi hs hl ht ha HSm
  generalize Paper.Small ⟨ser, iss, sub, fr, till, key, names, ca, sk, se, ss⟩ = Sm at *
  unfold Paper.val
  simp only
  have HZ : Hid (∀ V (left : Int), IsStrs V a names → 0 ≤ left → left ≤ 1048576 → Calls Tryz.prog 15 #[.slice a names.length cap, .int .i64 left] V fun e w' => e = .returned (.int .i64 (szR names left)) ∧ Below V.heap.size V w') := fun V left hV h0 h1 => szStrs a names cap left V hl ht h0 h1 hV
  obtain ⟨nl, hnl⟩ : ∃ nl, nl = names.length := ⟨_, rfl⟩
  rw [← hnl] at HZ HSm ⊢
  have HNl : Hid (nl = names.length) := hnl
  clear hnl
  obtain ⟨w1, hw1⟩ : ∃ w1, w1 = w.alloc (.cells #[.int .i64 ser, .string iss, .string sub, .int .i64 fr, .int .i64 till, .int .i64 key, .slice a nl cap, .bool ca, .int .i64 sk, .int .i64 se, .int .i64 ss] 26 (0, 0)) := ⟨_, rfl⟩
  have hrow : w1.heap[w.heap.size]? = some (.cells [Value.int .i64 ser, .string iss, .string sub, .int .i64 fr, .int .i64 till, .int .i64 key, .slice a nl cap, .bool ca, .int .i64 sk, .int .i64 se, .int .i64 ss].toArray 26 (0, 0)) := by rw [hw1]; exact heap_alloc_new w _
  have B1 : Hid (Below w.heap.size w w1) := by rw [hw1]; exact (Below.refl _ _).alloc (Nat.le_refl _) _
  have A1 : Hid (IsStrs w1 a names) := ha.keep B1.out
  have c1 := rowFacts hrow 1 _ rfl
  have c2 := rowFacts hrow 2 _ rfl
  have c6 := rowFacts hrow 6 _ rfl
  unfold maxLen at hi hs
  clear hrow ha hl ht
  go_enter Tryz.func5, Tryz.ntmps5
  go_upto_region 1 with fail
  rw [← hw1]
  clear hw1
  by_cases h1 : m < (iss.size : Int)
  · go_wp2
    go_ret
    exact ⟨_, rfl, .inl (by omega), by omega, by omega, B1.out⟩
  by_cases h2 : m - (iss.size : Int) < (sub.size : Int)
  · go_wp2
    go_ret
    exact ⟨_, rfl, .inl (by omega), by omega, by omega, B1.out⟩
  obtain ⟨l2, hl2⟩ : ∃ l2 : Int, l2 = m - (iss.size : Int) - (sub.size : Int) := ⟨_, rfl⟩
  have hl20 : 0 ≤ l2 := by omega
  have hl21 : l2 ≤ 1048576 := by omega
  have HL2 : Hid (l2 = m - (iss.size : Int) - (sub.size : Int)) := hl2
  go_upto_region 7 with fail
  rw [← hl2]
  clear hl2
  go_wp2_with fail
  refine (HZ.out _ l2 A1.out hl20 hl21).mono ?_
  rintro e w2 ⟨rfl, b2⟩
  have B2 : Hid (Below w.heap.size w w2) := B1.out.trans (b2.mono B1.out.size)
  have g1 := szR_neg (ss := names) (left := l2)
  have g2 := szR_le (ss := names) (left := l2) (by omega)
  have HG : Hid (0 ≤ szR names l2 → Sm) := fun h => by
    have := szR_some h
    have := HL2.out
    have := HNl.out
    exact HSm.out (by omega) (by omega) (by rw [HNl.out]; omega)
  generalize szR names l2 = q at *
  clear b2 HZ HSm
  by_cases hq : q < 0
  · go_wp2
    go_ret
    exact ⟨_, rfl, .inl (by omega), by omega, by omega, B2.out⟩
  · have HSm : Hid Sm := HG.out (by omega)
    go_wp2
    go_ret
    exact ⟨_, rfl, .inr HSm.out, by omega, by omega, B2.out⟩
end Go.Proofs.YtkbmeenojclcmaaGreatDoor
namespace Go.Proofs.YtkbmeenojclcmaaGreatDoor
open Go.RowKit

def Lst.Small (c : Lst) : Prop := c.issuer.size ≤ 1048576 ∧ c.serials.length ≤ 1048576
theorem szInts (a : Option Addr) (n c : Nat) (left : Int) (w : World) (hn : n ≤ maxLen) (h0 : 0 ≤ left) (h1 : left ≤ 1048576) :
    Calls Tryz.prog 16 #[.slice a n c, .int .i64 left] w fun e w' => ∃ x : Int, e = .returned (.int .i64 x) ∧ (x < 0 ∨ n ≤ 1048576) ∧ -1 ≤ x ∧ x ≤ 1048576 ∧ w' = w := by
  unfold maxLen at hn
  by_cases hfit : left < (n : Int)
  · go_enter Tryz.func16, Tryz.ntmps16
    go_wp2
    go_ret
    exact ⟨_, rfl, .inl (by omega), by omega, by omega, rfl⟩
  · go_enter Tryz.func16, Tryz.ntmps16
    go_wp2
    go_ret
    exact ⟨_, rfl, .inr (by omega), by omega, by omega, rfl⟩
set_option maxHeartbeats 4000000 in
set_option maxRecDepth 100000 in
theorem szCrl (c : Lst) (a : Option Addr) (cap : Nat) (w : World) (hi : c.issuer.size ≤ maxLen) (hl : c.serials.length ≤ maxLen) :
    Calls Tryz.prog 6 #[c.val (.slice a c.serials.length cap), .int .i64 1048576] w fun e w' => ∃ x : Int, e = .returned (.int .i64 x) ∧ (x < 0 ∨ c.Small) ∧ -1 ≤ x ∧ x ≤ 1048576 ∧ Below w.heap.size w w' := by
  have HSm : Hid (c.issuer.size ≤ 1048576 → c.serials.length ≤ 1048576 → c.Small) := fun h1 h2 => ⟨h1, h2⟩
  obtain ⟨iss, fr, till, serials, sk, se, ss⟩ := c
  simp only at hi hl HSm
  generalize Lst.Small ⟨iss, fr, till, serials, sk, se, ss⟩ = Sm at *
  unfold Lst.val
  simp only
  generalize serials.length = nl at *
  obtain ⟨w1, hw1⟩ : ∃ w1, w1 = w.alloc (.cells #[.string iss, .int .i64 fr, .int .i64 till, .slice a nl cap, .int .i64 sk, .int .i64 se, .int .i64 ss] 29 (0, 0)) := ⟨_, rfl⟩
  have hrow : w1.heap[w.heap.size]? = some (.cells [Value.string iss, .int .i64 fr, .int .i64 till, .slice a nl cap, .int .i64 sk, .int .i64 se, .int .i64 ss].toArray 29 (0, 0)) := by rw [hw1]; exact heap_alloc_new w _
  have B1 : Hid (Below w.heap.size w w1) := by rw [hw1]; exact (Below.refl _ _).alloc (Nat.le_refl _) _
  have c0 := rowFacts hrow 0 _ rfl
  have c3 := rowFacts hrow 3 _ rfl
  have HZ : Hid (∀ V (left : Int), 0 ≤ left → left ≤ 1048576 → Calls Tryz.prog 16 #[.slice a nl cap, .int .i64 left] V fun e w' => ∃ x : Int, e = .returned (.int .i64 x) ∧ (x < 0 ∨ nl ≤ 1048576) ∧ -1 ≤ x ∧ x ≤ 1048576 ∧ w' = V) := fun V left h0 h1 => szInts a nl cap left V hl h0 h1
  unfold maxLen at hi
  clear hrow hl
  go_enter Tryz.func6, Tryz.ntmps6
  go_upto_region 1 with fail
  rw [← hw1]
  clear hw1
  by_cases h1 : 1048576 < iss.size
  · go_wp2
    go_ret
    exact ⟨_, rfl, .inl (by omega), by omega, by omega, B1.out⟩
  obtain ⟨l2, hl2⟩ : ∃ l2 : Int, l2 = 1048576 - (iss.size : Int) := ⟨_, rfl⟩
  have hl20 : 0 ≤ l2 := by omega
  have hl21 : l2 ≤ 1048576 := by omega
  go_upto_region 4 with fail
  rw [← hl2]
  clear hl2
  go_wp2_with fail
  refine (HZ.out _ l2 hl20 hl21).mono ?_
  rintro e w2 ⟨q, rfl, hq0, hq1, hq2, rfl⟩
  by_cases hq : q < 0
  · go_wp2
    go_ret
    exact ⟨_, rfl, .inl (by omega), by omega, by omega, B1.out⟩
  · have HSm' : Hid Sm := HSm.out (by omega) (by rcases hq0 with h | h <;> omega)
    go_wp2
    go_ret
    exact ⟨_, rfl, .inr HSm'.out, by omega, by omega, B1.out⟩
end Go.Proofs.YtkbmeenojclcmaaGreatDoor
namespace Go.Proofs.YtkbmeenojclcmaaGreatDoor
open Go.RowKit

set_option maxHeartbeats 4000000 in
set_option maxRecDepth 100000 in
theorem szCrlM (c : Lst) (a : Option Addr) (cap : Nat) (m : Int) (w : World) (hm0 : 0 ≤ m) (hm1 : m ≤ 1048576) (hi : c.issuer.size ≤ maxLen) (hl : c.serials.length ≤ maxLen) :
    Calls Tryz.prog 6 #[c.val (.slice a c.serials.length cap), .int .i64 m] w fun e w' => ∃ x : Int, e = .returned (.int .i64 x) ∧ (x < 0 ∨ c.Small) ∧ -1 ≤ x ∧ x ≤ 1048576 ∧ Below w.heap.size w w' := by
  have HSm : Hid (c.issuer.size ≤ 1048576 → c.serials.length ≤ 1048576 → c.Small) := fun h1 h2 => ⟨h1, h2⟩
  obtain ⟨iss, fr, till, serials, sk, se, ss⟩ := c
  simp only at hi hl HSm
  generalize Lst.Small ⟨iss, fr, till, serials, sk, se, ss⟩ = Sm at *
  unfold Lst.val
  simp only
  generalize serials.length = nl at *
  obtain ⟨w1, hw1⟩ : ∃ w1, w1 = w.alloc (.cells #[.string iss, .int .i64 fr, .int .i64 till, .slice a nl cap, .int .i64 sk, .int .i64 se, .int .i64 ss] 29 (0, 0)) := ⟨_, rfl⟩
  have hrow : w1.heap[w.heap.size]? = some (.cells [Value.string iss, .int .i64 fr, .int .i64 till, .slice a nl cap, .int .i64 sk, .int .i64 se, .int .i64 ss].toArray 29 (0, 0)) := by rw [hw1]; exact heap_alloc_new w _
  have B1 : Hid (Below w.heap.size w w1) := by rw [hw1]; exact (Below.refl _ _).alloc (Nat.le_refl _) _
  have c0 := rowFacts hrow 0 _ rfl
  have c3 := rowFacts hrow 3 _ rfl
  have HZ : Hid (∀ V (left : Int), 0 ≤ left → left ≤ 1048576 → Calls Tryz.prog 16 #[.slice a nl cap, .int .i64 left] V fun e w' => ∃ x : Int, e = .returned (.int .i64 x) ∧ (x < 0 ∨ nl ≤ 1048576) ∧ -1 ≤ x ∧ x ≤ 1048576 ∧ w' = V) := fun V left h0 h1 => szInts a nl cap left V hl h0 h1
  unfold maxLen at hi
  clear hrow hl
  go_enter Tryz.func6, Tryz.ntmps6
  go_upto_region 1 with fail
  rw [← hw1]
  clear hw1
  by_cases h1 : m < (iss.size : Int)
  · go_wp2
    go_ret
    exact ⟨_, rfl, .inl (by omega), by omega, by omega, B1.out⟩
  obtain ⟨l2, hl2⟩ : ∃ l2 : Int, l2 = m - (iss.size : Int) := ⟨_, rfl⟩
  have hl20 : 0 ≤ l2 := by omega
  have hl21 : l2 ≤ 1048576 := by omega
  go_upto_region 4 with fail
  rw [← hl2]
  clear hl2
  go_wp2_with fail
  refine (HZ.out _ l2 hl20 hl21).mono ?_
  rintro e w2 ⟨q, rfl, hq0, hq1, hq2, rfl⟩
  by_cases hq : q < 0
  · go_wp2
    go_ret
    exact ⟨_, rfl, .inl (by omega), by omega, by omega, B1.out⟩
  · have HSm' : Hid Sm := HSm.out (by omega) (by rcases hq0 with h | h <;> omega)
    go_wp2
    go_ret
    exact ⟨_, rfl, .inr HSm'.out, by omega, by omega, B1.out⟩
end Go.Proofs.YtkbmeenojclcmaaGreatDoor
namespace Go.Proofs.YtkbmeenojclcmaaGreatDoor
open Go.RowKit

set_option maxHeartbeats 1000000 in
set_option maxRecDepth 100000 in
theorem toStrs (a : Option Addr) (zs : List ByteArray) (c : Nat) (w : World) (hl : zs.length ≤ 1048576) (ha : IsStrs w a zs) :
    Calls Tryz.prog 25 #[.slice a zs.length c] w fun e w' => e = .returned (.slice (some ⟨w.heap.size, 0, none⟩) zs.length zs.length) ∧ w'.heap[w.heap.size]? = some (.cells (sCells zs).toArray 9 (0, 0)) ∧ Below w.heap.size w w' := by
  obtain ⟨i0, hi, hz0, hz1, hz2⟩ := info_parts infoText
  go_enter Tryz.func25, Tryz.ntmps25
  go_wp2_with (at_make; refine wpList_make_full _ rfl _ _ 22 rfl w.heap.size 9 i0 (.string ⟨#[]⟩) 1 Tryz.underlying22 hi hz0 hz1 .i64 .i64 _ _ zs.length rfl rfl ?c1 ?c2 ?c3 ?c4 ?c5 ?_)
  case c1 => omega
  case c2 => omega
  case c3 => rw [hz2]; omega
  case c4 => unfold maxLen; omega
  case c5 => exact Nat.le_refl _
  intro w1 hown hgrow
  have hB1 : Below w.heap.size w w1 := (Below.refl _ w).grown hgrow (Nat.le_refl _) (fun k hk => by cases hk)
  obtain ⟨hrow, hlen⟩ := rowOf hown rfl
  generalize (madeCells #[Value.string ⟨#[]⟩] zs.length).toList = L0 at hrow hlen
  have HR0 : Hid (w1.heap[w.heap.size]? = some (.cells L0.toArray 9 (0, 0))) := hrow
  have HL0 : Hid (L0.length = zs.length) := hlen
  have HB1 : Hid (Below w.heap.size w w1) := hB1
  clear hown hgrow hrow hlen hB1
  go_wp2_with fail
  go_loopw [4] (fun i wr => ∃ (k : Nat) (L : List Value), k ≤ zs.length ∧ i = .int .i64 k ∧ L.length = zs.length ∧ wr.heap[w.heap.size]? = some (.cells L.toArray 9 (0, 0)) ∧ (∀ j, j < k → L[j]? = some (.string (tAt zs j))) ∧ Below w.heap.size w wr)
    (fun i _ => zs.length - (intOf i).toNat)
  case atStart => exact ⟨0, L0, Nat.zero_le _, rfl, HL0.out, HR0.out, fun j hj => by omega, HB1.out⟩
  case round =>
    clear HL0 HR0 HB1
    obtain ⟨k, L, hk, rfl, hL, hg, hv, hb⟩ := hrel
    by_cases hlt : k < zs.length
    · obtain ⟨x, o, rfl, hc⟩ : ∃ x o, a = some ⟨x, o, none⟩ ∧ ∀ i, i < zs.length → wr.cell? ⟨x, o + i, none⟩ = some (.string (tAt zs i)) := by
        rcases ha.below hb ha.lt with rfl | h
        · simp at hlt
        · exact h
      have hck := hc k hlt
      have hd : wr.cell? ⟨w.heap.size, k, none⟩ = some L[k] := by
        rw [cell_of_row wr _ k _ _ (0, 0) hg]; simp
      have hz := frozen_of_row wr _ k _ _ hg
      have HG : Hid (∀ v, (wr.setCell ⟨w.heap.size, k, none⟩ v).heap[w.heap.size]? = some (.cells (L.set k v).toArray 9 (0, 0))) := fun v => by
        rw [heap_setCell_same wr _ k _ _ v hg]; simp
      have HV : Hid (∀ j, j < k + 1 → (L.set k (.string (tAt zs k)))[j]? = some (.string (tAt zs j))) := fun j hj => by
        by_cases e : j = k
        · subst e; rw [List.getElem?_set_self (by omega)]
        · rw [List.getElem?_set_ne (by omega), hv j (by omega)]
      have HL : Hid (∀ v, (L.set k v).length = zs.length) := fun v => by simpa using hL
      have HB : Hid (∀ v, Below w.heap.size w (wr.setCell ⟨w.heap.size, k, none⟩ v)) := fun v => hb.setCell (Nat.le_refl _) v
      generalize L[k] = v0 at hd
      generalize tAt zs k = z at hck HV
      have a0 : (0 : Int) ≤ (k : Int) := by omega
      have b0 : (k : Int) < (zs.length : Int) := by omega
      generalize zs.length = n at *
      clear hc ha hv hg hb hL
      go_wp2
      go_roundw
      case rel => exact ⟨k + 1, _, by omega, by go_num, HL.out _, HG.out _, HV.out, HB.out _⟩
      case measure => simp [intOf]; omega
    · have hLe : L = sCells zs := by
        apply List.ext_getElem?
        intro j
        by_cases hj : j < zs.length
        · rw [hv j (by omega)]; exact (sCells_at hj).symm
        · rw [List.getElem?_eq_none (by omega), List.getElem?_eq_none (by simp [sCells]; omega)]
      subst hLe
      have HG : Hid (wr.heap[w.heap.size]? = some (.cells (sCells zs).toArray 9 (0, 0))) := hg
      have HB : Hid (Below w.heap.size w wr) := hb
      clear hg hv hb hL ha
      go_wp2
      go_ret
      exact ⟨rfl, HG.out, HB.out⟩
end Go.Proofs.YtkbmeenojclcmaaGreatDoor
namespace Go.Proofs.YtkbmeenojclcmaaGreatDoor
open Go.RowKit

set_option maxHeartbeats 1000000 in
set_option maxRecDepth 100000 in
theorem toSig (k e s : Int) (w : World) :
    Calls Tryz.prog 26 #[.agg #[.int .i64 k, .int .i64 e, .int .i64 s]] w fun r w' => r = .returned (.agg #[.int .i64 k, .int .i64 e, .int .i64 s]) ∧ Below w.heap.size w w' := by
  go_enter Tryz.func26, Tryz.ntmps26
  go_wp2
  go_returns
  refine ⟨rfl, ?_⟩
  repeat' first | exact Below.refl _ _ | refine Below.setCell ?_ (by simp) _ | refine Below.alloc ?_ (by simp; try omega) _
end Go.Proofs.YtkbmeenojclcmaaGreatDoor
namespace Go.Proofs.YtkbmeenojclcmaaGreatDoor
open Go.RowKit

theorem sizeCert : (Tryz.prog.info? 35).map (·.size) = some 11 := by kernel_rfl
set_option maxHeartbeats 4000000 in
set_option maxRecDepth 100000 in
theorem toCert (c : Paper) (a : Option Addr) (cap : Nat) (w : World) (hl : c.names.length ≤ 1048576) (ha : IsStrs w a c.names) :
    Calls Tryz.prog 8 #[c.val (.slice a c.names.length cap)] w fun e w' => ∃ g, e = .returned (c.val (.slice (some ⟨g, 0, none⟩) c.names.length c.names.length)) ∧ w.heap.size ≤ g ∧ w'.heap[g]? = some (.cells (sCells c.names).toArray 9 (0, 0)) ∧ Below w.heap.size w w' := by
  obtain ⟨ser, iss, sub, fr, till, key, names, ca, sk, se, ss⟩ := c
  simp only at hl ha
  unfold Paper.val
  simp only
  have HT : Hid (∀ V, IsStrs V a names → Calls Tryz.prog 25 #[.slice a names.length cap] V fun e w' => e = .returned (.slice (some ⟨V.heap.size, 0, none⟩) names.length names.length) ∧ w'.heap[V.heap.size]? = some (.cells (sCells names).toArray 9 (0, 0)) ∧ Below V.heap.size V w') := fun V h1 => toStrs a names cap V hl h1
  generalize names.length = nl at *
  obtain ⟨w1, hw1⟩ : ∃ w1, w1 = ((w.alloc (.cells #[.int .i64 ser, .string iss, .string sub, .int .i64 fr, .int .i64 till, .int .i64 key, .slice a nl cap, .bool ca, .int .i64 sk, .int .i64 se, .int .i64 ss] 26 (0, 0))).alloc (.cells #[.int .i64 0, .string ⟨#[]⟩, .string ⟨#[]⟩, .int .i64 0, .int .i64 0, .int .i64 0, .slice none 0 0, .bool false, .int .i64 0, .int .i64 0, .int .i64 0] 35 (0, 0))).alloc (.cells #[.int .i64 ser, .string iss, .string sub, .int .i64 fr, .int .i64 till, .int .i64 key, .slice none 0 0, .bool false, .int .i64 0, .int .i64 0, .int .i64 0] 35 (0, 0)) := ⟨_, rfl⟩
  have r0 : w1.heap[w.heap.size]? = some (.cells [Value.int .i64 ser, .string iss, .string sub, .int .i64 fr, .int .i64 till, .int .i64 key, .slice a nl cap, .bool ca, .int .i64 sk, .int .i64 se, .int .i64 ss].toArray 26 (0, 0)) := by
    rw [hw1, Below.heap_alloc _ _ _ (by simp; omega), Below.heap_alloc _ _ _ (by simp)]; exact heap_alloc_new w _
  have r1 : w1.heap[w.heap.size + 1]? = some (.cells [Value.int .i64 0, .string ⟨#[]⟩, .string ⟨#[]⟩, .int .i64 0, .int .i64 0, .int .i64 0, .slice none 0 0, .bool false, .int .i64 0, .int .i64 0, .int .i64 0].toArray 35 (0, 0)) := by
    rw [hw1, Below.heap_alloc _ _ _ (by simp)]; exact heap_alloc2 w _ _
  have z1 : w1.heap.size = w.heap.size + 3 := by rw [hw1]; simp
  have r2 : w1.heap[w.heap.size + 1 + 1]? = some (.cells [Value.int .i64 ser, .string iss, .string sub, .int .i64 fr, .int .i64 till, .int .i64 key, .slice none 0 0, .bool false, .int .i64 0, .int .i64 0, .int .i64 0].toArray 35 (0, 0)) := by
    rw [hw1]
    have := heap_alloc2 (w.alloc (.cells #[.int .i64 ser, .string iss, .string sub, .int .i64 fr, .int .i64 till, .int .i64 key, .slice a nl cap, .bool ca, .int .i64 sk, .int .i64 se, .int .i64 ss] 26 (0, 0))) (.cells #[.int .i64 0, .string ⟨#[]⟩, .string ⟨#[]⟩, .int .i64 0, .int .i64 0, .int .i64 0, .slice none 0 0, .bool false, .int .i64 0, .int .i64 0, .int .i64 0] 35 (0, 0)) (.cells #[.int .i64 ser, .string iss, .string sub, .int .i64 fr, .int .i64 till, .int .i64 key, .slice none 0 0, .bool false, .int .i64 0, .int .i64 0, .int .i64 0] 35 (0, 0))
    simpa using this
  have B1 : Hid (Below w.heap.size w w1) := by rw [hw1]; exact (((Below.refl _ _).alloc (Nat.le_refl _) _).alloc (by simp) _).alloc (by simp; omega) _
  have A1 : Hid (IsStrs w1 a names) := ha.keep B1.out
  clear ha hl
  go_enter Tryz.func8, Tryz.ntmps8
  go_upto_region 8 with fail
  rw [← hw1]
  clear hw1
  have c6 := rowFacts r0 6 _ rfl
  have R0 : Hid _ := r0
  have R1 : Hid _ := r1
  have R2 : Hid _ := r2
  have Z1 : Hid (w1.heap.size = w.heap.size + 3) := z1
  clear r0 r1 r2 z1
  go_wp2_with fail
  refine (HT.out _ A1.out).mono ?_
  rintro e w2 ⟨rfl, hg, b2⟩
  have z1 := Z1.out
  have r0 : w2.heap[w.heap.size]? = some (.cells [Value.int .i64 ser, .string iss, .string sub, .int .i64 fr, .int .i64 till, .int .i64 key, .slice a nl cap, .bool ca, .int .i64 sk, .int .i64 se, .int .i64 ss].toArray 26 (0, 0)) := by rw [b2.block _ (by omega)]; exact R0.out
  have r1 : w2.heap[w.heap.size + 1]? = some (.cells [Value.int .i64 0, .string ⟨#[]⟩, .string ⟨#[]⟩, .int .i64 0, .int .i64 0, .int .i64 0, .slice none 0 0, .bool false, .int .i64 0, .int .i64 0, .int .i64 0].toArray 35 (0, 0)) := by rw [b2.block _ (by omega)]; exact R1.out
  have r2 : w2.heap[w.heap.size + 1 + 1]? = some (.cells [Value.int .i64 ser, .string iss, .string sub, .int .i64 fr, .int .i64 till, .int .i64 key, .slice none 0 0, .bool false, .int .i64 0, .int .i64 0, .int .i64 0].toArray 35 (0, 0)) := by rw [b2.block _ (by omega)]; exact R2.out
  have B2 : Hid (Below w.heap.size w w2) := B1.out.trans (b2.mono B1.out.size)
  clear R0 R1 R2 c6 b2 A1 B1 HT
  obtain ⟨w3, hw3⟩ : ∃ w3, w3 = (w2.setCell ⟨w.heap.size + 1 + 1, 6, none⟩ (.slice (some ⟨w1.heap.size, 0, none⟩) nl nl)).setCell ⟨w.heap.size + 1 + 1, 7, none⟩ (.bool ca) := ⟨_, rfl⟩
  have t0 : w3.heap[w.heap.size]? = some (.cells [Value.int .i64 ser, .string iss, .string sub, .int .i64 fr, .int .i64 till, .int .i64 key, .slice a nl cap, .bool ca, .int .i64 sk, .int .i64 se, .int .i64 ss].toArray 26 (0, 0)) := by rw [hw3, heap_setCell_other _ _ _ _ (by simp; omega), heap_setCell_other _ _ _ _ (by simp; omega)]; exact r0
  have t1 : w3.heap[w.heap.size + 1]? = some (.cells [Value.int .i64 0, .string ⟨#[]⟩, .string ⟨#[]⟩, .int .i64 0, .int .i64 0, .int .i64 0, .slice none 0 0, .bool false, .int .i64 0, .int .i64 0, .int .i64 0].toArray 35 (0, 0)) := by rw [hw3, heap_setCell_other _ _ _ _ (by simp), heap_setCell_other _ _ _ _ (by simp)]; exact r1
  have t2 : w3.heap[w.heap.size + 1 + 1]? = some (.cells [Value.int .i64 ser, .string iss, .string sub, .int .i64 fr, .int .i64 till, .int .i64 key, .slice (some ⟨w1.heap.size, 0, none⟩) nl nl, .bool ca, .int .i64 0, .int .i64 0, .int .i64 0].toArray 35 (0, 0)) := by rw [hw3]; exact rowSet (i := 7) _ (rowSet (i := 6) _ r2)
  have hg3 : w3.heap[w1.heap.size]? = some (.cells (sCells names).toArray 9 (0, 0)) := by rw [hw3, heap_setCell_other _ _ _ _ (by simp; omega), heap_setCell_other _ _ _ _ (by simp; omega)]; exact hg
  have B3 : Hid (Below w.heap.size w w3) := by rw [hw3]; exact (B2.out.setCell (by simp; omega) _).setCell (by simp; omega) _
  have c7 := rowFacts r0 7 _ rfl
  have d6 := rowFacts r2 6 _ rfl
  have d7 := rowFacts r2 7 _ rfl
  have f6 := rowFree r2 6
  have f7 := rowFree r2 7
  have T0 : Hid _ := t0
  have T1 : Hid _ := t1
  have T2 : Hid _ := t2
  have HG3 : Hid _ := hg3
  clear r0 r1 r2 t0 t1 t2 hg hg3 B2 z1
  go_upto_region 10 with fail
  rw [← hw3]
  clear hw3 c7 d6 d7 f6 f7
  have c8 := rowFacts T0.out 8 _ rfl
  have c9 := rowFacts T0.out 9 _ rfl
  have c10 := rowFacts T0.out 10 _ rfl
  go_wp2_with fail
  refine (toSig sk se ss _).mono ?_
  rintro e w4 ⟨rfl, b4⟩
  have u1 : w4.heap[w.heap.size + 1]? = some (.cells [Value.int .i64 0, .string ⟨#[]⟩, .string ⟨#[]⟩, .int .i64 0, .int .i64 0, .int .i64 0, .slice none 0 0, .bool false, .int .i64 0, .int .i64 0, .int .i64 0].toArray 35 (0, 0)) := by rw [b4.block _ (heap_lt T1.out)]; exact T1.out
  have u2 : w4.heap[w.heap.size + 1 + 1]? = some (.cells [Value.int .i64 ser, .string iss, .string sub, .int .i64 fr, .int .i64 till, .int .i64 key, .slice (some ⟨w1.heap.size, 0, none⟩) nl nl, .bool ca, .int .i64 0, .int .i64 0, .int .i64 0].toArray 35 (0, 0)) := by rw [b4.block _ (heap_lt T2.out)]; exact T2.out
  have HG4 : Hid (w4.heap[w1.heap.size]? = some (.cells (sCells names).toArray 9 (0, 0))) := by show _ = _; rw [b4.block _ (heap_lt HG3.out)]; exact HG3.out
  have B4 : Hid (Below w.heap.size w w4) := B3.out.trans (b4.mono B3.out.size)
  have U1 : Hid _ := u1
  have U2 : Hid _ := u2
  clear c8 c9 c10 T0 T1 T2 HG3 b4 B3
  obtain ⟨w5, hw5⟩ : ∃ w5, w5 = (((w4.setCell ⟨w.heap.size + 1 + 1, 8, none⟩ (.int .i64 sk)).setCell ⟨w.heap.size + 1 + 1, 9, none⟩ (.int .i64 se)).setCell ⟨w.heap.size + 1 + 1, 10, none⟩ (.int .i64 ss)) := ⟨_, rfl⟩
  obtain ⟨C, hC⟩ : ∃ C, C = [Value.int .i64 ser, .string iss, .string sub, .int .i64 fr, .int .i64 till, .int .i64 key, .slice (some ⟨w1.heap.size, 0, none⟩) nl nl, .bool ca, .int .i64 sk, .int .i64 se, .int .i64 ss] := ⟨_, rfl⟩
  have v2 : w5.heap[w.heap.size + 1 + 1]? = some (.cells C.toArray 35 (0, 0)) := by rw [hw5, hC]; exact (rowSet (i := 10) (.int .i64 ss) (rowSet (i := 9) (.int .i64 se) (rowSet (i := 8) (.int .i64 sk) U2.out)))
  have v1 : w5.heap[w.heap.size + 1]? = some (.cells [Value.int .i64 0, .string ⟨#[]⟩, .string ⟨#[]⟩, .int .i64 0, .int .i64 0, .int .i64 0, .slice none 0 0, .bool false, .int .i64 0, .int .i64 0, .int .i64 0].toArray 35 (0, 0)) := by rw [hw5, heap_setCell_other _ _ _ _ (by simp), heap_setCell_other _ _ _ _ (by simp), heap_setCell_other _ _ _ _ (by simp)]; exact U1.out
  have vg : w5.heap[w1.heap.size]? = some (.cells (sCells names).toArray 9 (0, 0)) := by
    have := Z1.out
    rw [hw5, heap_setCell_other _ _ _ _ (by simp; omega), heap_setCell_other _ _ _ _ (by simp; omega), heap_setCell_other _ _ _ _ (by simp; omega)]; exact HG4.out
  have B5 : Hid (Below w.heap.size w w5) := by rw [hw5]; exact ((B4.out.setCell (by simp; omega) _).setCell (by simp; omega) _).setCell (by simp; omega) _
  have hone : ∀ v ∈ C, v.oneCell' = true := by rw [hC]; simp [Value.oneCell']
  have hi : (Tryz.prog.info? 35).map (·.size) = some C.length := by rw [hC]; exact sizeCert
  have hlen : [Value.int .i64 0, .string ⟨#[]⟩, .string ⟨#[]⟩, .int .i64 0, .int .i64 0, .int .i64 0, .slice none 0 0, .bool false, .int .i64 0, .int .i64 0, .int .i64 0].length = C.length := by rw [hC]; rfl
  have HC : Hid (C = [Value.int .i64 ser, .string iss, .string sub, .int .i64 fr, .int .i64 till, .int .i64 key, .slice (some ⟨w1.heap.size, 0, none⟩) nl nl, .bool ca, .int .i64 sk, .int .i64 se, .int .i64 ss]) := hC
  have VG : Hid _ := vg
  have p8 := rowFacts u2 8 _ rfl
  have p9 := rowFacts u2 9 _ rfl
  have p10 := rowFacts u2 10 _ rfl
  have q8 := rowFree u2 8
  have q9 := rowFree u2 9
  have q10 := rowFree u2 10
  have V1 : Hid _ := v1
  have V2 : Hid _ := v2
  have HOne : Hid (∀ v ∈ C, v.oneCell' = true) := hone
  have HI : Hid ((Tryz.prog.info? 35).map (·.size) = some C.length) := hi
  have HLen : Hid ([Value.int .i64 0, .string ⟨#[]⟩, .string ⟨#[]⟩, .int .i64 0, .int .i64 0, .int .i64 0, .slice none 0 0, .bool false, .int .i64 0, .int .i64 0, .int .i64 0].length = C.length) := hlen
  clear u1 u2 v1 v2 vg hone hi hlen hC HG4 B4 U1 U2
  go_upto_region 11 with fail
  rw [← hw5]
  clear hw5 p8 p9 p10 q8 q9 q10
  have hr := rangeRow V2.out
  have hR := V1.out
  have h1 := HOne.out
  have hi := HI.out
  go_wp2_with (first | (refine wpList_load_mid rfl 35 _ rfl (w.heap.size + 1 + 1) 0 rfl C _ hr Tryz.underlying35 rfl hi ?_) | (refine wpList_store_row rfl 35 _ _ rfl (w.heap.size + 1) _ C 35 rfl rfl hR HLen.out hi h1 ?_))
  intro w6 hrow ho hs6 hbb
  have HROW : Hid _ := hrow
  have HB6 : Hid (Below w.heap.size w w6) := hbb _ _ (by omega) B5.out
  have HG6 : Hid (w6.heap[w1.heap.size]? = some (.cells (sCells names).toArray 9 (0, 0))) := by show _ = _; rw [ho _ (by have := Z1.out; omega)]; exact VG.out
  clear ho hs6 hbb hrow hr hR h1
  go_wp2
  refine bodyPost_ret (v := .agg C.toArray) ?_ rfl ⟨w1.heap.size, by rw [HC.out], by have := Z1.out; omega, HG6.out, HB6.out⟩
  have hl3 := run_loadVar_mid (P := Tryz.prog) _ (w.heap.size + 1) 0 35 _ _ (rangeRow HROW.out) Tryz.underlying35 rfl hi
  simp [results, Tryz.results8, asAddr, hl3]
end Go.Proofs.YtkbmeenojclcmaaGreatDoor
namespace Go.Proofs.YtkbmeenojclcmaaGreatDoor
open Go.RowKit

set_option maxHeartbeats 1000000 in
set_option maxRecDepth 100000 in
theorem toInts (a : Option Addr) (zs : List Int) (c : Nat) (w : World) (hl : zs.length ≤ 1048576) (ha : IsInts w a zs) :
    Calls Tryz.prog 27 #[.slice a zs.length c] w fun e w' => e = .returned (.slice (some ⟨w.heap.size, 0, none⟩) zs.length zs.length) ∧ w'.heap[w.heap.size]? = some (.cells (lCells zs).toArray 2 (0, 0)) ∧ Below w.heap.size w w' := by
  obtain ⟨i0, hi, hz0, hz1, hz2⟩ := info_parts infoLong
  go_enter Tryz.func27, Tryz.ntmps27
  go_wp2_with (at_make; refine wpList_make_full _ rfl _ _ 27 rfl w.heap.size 2 i0 (.int .i64 0) 1 Tryz.underlying27 hi hz0 hz1 .i64 .i64 _ _ zs.length rfl rfl ?c1 ?c2 ?c3 ?c4 ?c5 ?_)
  case c1 => omega
  case c2 => omega
  case c3 => rw [hz2]; omega
  case c4 => unfold maxLen; omega
  case c5 => exact Nat.le_refl _
  intro w1 hown hgrow
  have hB1 : Below w.heap.size w w1 := (Below.refl _ w).grown hgrow (Nat.le_refl _) (fun k hk => by cases hk)
  obtain ⟨hrow, hlen⟩ := rowOf hown rfl
  generalize (madeCells #[Value.int IntKind.i64 0] zs.length).toList = L0 at hrow hlen
  have HR0 : Hid (w1.heap[w.heap.size]? = some (.cells L0.toArray 2 (0, 0))) := hrow
  have HL0 : Hid (L0.length = zs.length) := hlen
  have HB1 : Hid (Below w.heap.size w w1) := hB1
  clear hown hgrow hrow hlen hB1
  go_wp2_with fail
  go_loopw [4] (fun i wr => ∃ (k : Nat) (L : List Value), k ≤ zs.length ∧ i = .int .i64 k ∧ L.length = zs.length ∧ wr.heap[w.heap.size]? = some (.cells L.toArray 2 (0, 0)) ∧ (∀ j, j < k → L[j]? = some (.int .i64 (zs.getD j 0))) ∧ Below w.heap.size w wr)
    (fun i _ => zs.length - (intOf i).toNat)
  case atStart => exact ⟨0, L0, Nat.zero_le _, rfl, HL0.out, HR0.out, fun j hj => by omega, HB1.out⟩
  case round =>
    clear HL0 HR0 HB1
    obtain ⟨k, L, hk, rfl, hL, hg, hv, hb⟩ := hrel
    by_cases hlt : k < zs.length
    · obtain ⟨x, o, rfl, hc⟩ : ∃ x o, a = some ⟨x, o, none⟩ ∧ ∀ i, i < zs.length → wr.cell? ⟨x, o + i, none⟩ = some (.int .i64 (zs.getD i 0)) := by
        rcases ha.below hb ha.lt with rfl | h
        · simp at hlt
        · exact h
      have hck := hc k hlt
      have hd : wr.cell? ⟨w.heap.size, k, none⟩ = some L[k] := by
        rw [cell_of_row wr _ k _ _ (0, 0) hg]; simp
      have hz := frozen_of_row wr _ k _ _ hg
      have HG : Hid (∀ v, (wr.setCell ⟨w.heap.size, k, none⟩ v).heap[w.heap.size]? = some (.cells (L.set k v).toArray 2 (0, 0))) := fun v => by
        rw [heap_setCell_same wr _ k _ _ v hg]; simp
      have HV : Hid (∀ j, j < k + 1 → (L.set k (.int .i64 (zs.getD k 0)))[j]? = some (.int .i64 (zs.getD j 0))) := fun j hj => by
        by_cases e : j = k
        · subst e; rw [List.getElem?_set_self (by omega)]
        · rw [List.getElem?_set_ne (by omega), hv j (by omega)]
      have HL : Hid (∀ v, (L.set k v).length = zs.length) := fun v => by simpa using hL
      have HB : Hid (∀ v, Below w.heap.size w (wr.setCell ⟨w.heap.size, k, none⟩ v)) := fun v => hb.setCell (Nat.le_refl _) v
      generalize L[k] = v0 at hd
      generalize zs.getD k 0 = z at hck HV
      have a0 : (0 : Int) ≤ (k : Int) := by omega
      have b0 : (k : Int) < (zs.length : Int) := by omega
      generalize zs.length = n at *
      clear hc ha hv hg hb hL
      go_wp2
      go_roundw
      case rel => exact ⟨k + 1, _, by omega, by go_num, HL.out _, HG.out _, HV.out, HB.out _⟩
      case measure => simp [intOf]; omega
    · have hLe : L = lCells zs := by
        apply List.ext_getElem?
        intro j
        by_cases hj : j < zs.length
        · rw [hv j (by omega)]; simp [lCells, List.getD, hj]
        · rw [List.getElem?_eq_none (by omega), List.getElem?_eq_none (by simp [lCells]; omega)]
      subst hLe
      have HG : Hid (wr.heap[w.heap.size]? = some (.cells (lCells zs).toArray 2 (0, 0))) := hg
      have HB : Hid (Below w.heap.size w wr) := hb
      clear hg hv hb hL ha
      go_wp2
      go_ret
      exact ⟨rfl, HG.out, HB.out⟩
end Go.Proofs.YtkbmeenojclcmaaGreatDoor
