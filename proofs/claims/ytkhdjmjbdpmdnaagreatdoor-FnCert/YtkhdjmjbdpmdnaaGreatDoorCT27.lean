/- spec.GetNum, walked. spec.GetNum at every argument. spec.l06Bits, walked. What the specification's readers read of what was laid. Plain mathematics: no program is named here. What the specification's readers read of a list that was laid. Plain mathematics: no program is named here. What the specification's readers read of a paper that was laid. Plain mathematics: no program is named here. CertRead: what the program tells and what the specification tells are the same. Plain, but for where readP is told. Is a paper good? Plain mathematics: no program is named here. What a signed paper is, and what is read of its bytes. Plain mathematics. strings.Join without a separator, in own words; impl.putParts, putSeq, putKind, putName, walked. FnExactNameRight, walks: 'impl.NameRight' answers true just where the text is a right name; the law. -/
import Derived.Test.YtkhdjmjbdpmdnaaGreatDoorCT01
import Derived.Test.YtkhdjmjbdpmdnaaGreatDoorCT17
import Derived.Test.YtkhdjmjbdpmdnaaGreatDoorCT20
import Derived.Deep.Cut
import Derived.Deep.RegionHeld3
import Derived.Test.YtkhdjmjbdpmdnaaGreatDoorCT26
import Derived.Test.YtkhdjmjbdpmdnaaGreatDoorCT18
import Derived.Test.YtkhdjmjbdpmdnaaGreatDoorCT03
import Derived.Test.YtkhdjmjbdpmdnaaGreatDoorCT05
import Derived.Test.YtkhdjmjbdpmdnaaGreatDoorCT14
import Derived.Test.YtkhdjmjbdpmdnaaGreatDoorCT13
import Derived.Test.YtkhdjmjbdpmdnaaGreatDoorCT02
namespace Go.Proofs.YtkhdjmjbdpmdnaaGreatDoor
open Go.RowKit Go.Lib

set_option maxHeartbeats 4000000 in
set_option maxRecDepth 100000 in
theorem specGet (s : ByteArray) (p : Nat) (w : World) (hs : s.size ≤ 20000) (hp : (p : Int) ≤ 9223372036854775807) :
    Calls Tryz.prog 162 #[.string s, .int .i64 (p : Int)] w fun e w' => e = .returned (numV (getR s p 10 0 0)) ∧ Below w.heap.size w w' := by
  obtain ⟨R, hR⟩ : ∃ R, R = getR s p 10 0 0 := ⟨_, rfl⟩
  rw [← hR]
  have H0 : Hid (getR s p 10 0 0 = R) := hR.symm
  clear hR
  go_enter Tryz.func162, Tryz.ntmps162
  go_wp2
  go_loopw [5, 6] (fun a b wr => ∃ i u : Nat, i ≤ 10 ∧ b = .int .i64 i ∧ a = .int .u64 u ∧ u < 128 ^ i ∧ getR s p (10 - i) i u = R ∧ wr = w.alloc (.cells #[.int .i64 0, .int .i64 0, .int .i64 0] 150))
    (fun _ b _ => 10 - (RowKit.intOf b).toNat)
  case atStart => exact ⟨0, 0, by omega, rfl, rfl, by omega, H0.out, rfl⟩
  case round =>
    obtain ⟨i, u, hi, rfl, rfl, hu, hg, rfl⟩ := hrel
    by_cases h10 : i < 10
    rotate_left
    · obtain rfl : i = 10 := by omega
      have hf : Hid (R = .bad 3) := by rw [← hg]; rfl
      clear hg hu H0
      go_wp2
      refine bodyPost_ret (v := .agg #[.int .i64 0, .int .i64 0, .int .i64 3]) (by simp [results, Tryz.results162, go_sem]) rfl ⟨?_, ?_⟩
      · rw [hf.out]; rfl
      · repeat (first | exact Below.refl _ _ | refine Below.setCell ?_ (by simp) _ | refine Below.alloc ?_ (Nat.le_refl _) _)
    obtain ⟨f, hf⟩ : ∃ f, 10 - i = f + 1 := ⟨9 - i, by omega⟩
    rw [hf] at hg
    have HF : Hid (10 - i = f + 1) := hf
    have HU : Hid (u < 128 ^ i) := hu
    have HG : Hid (getR s p (f + 1) i u = R) := hg
    clear hu hg H0 hf
    by_cases hsh : s.size ≤ p + i
    · have hfin : Hid (R = .bad 4) := by rw [← HG.out]; exact getR_short hsh
      go_wp2
      refine bodyPost_ret (v := .agg #[.int .i64 0, .int .i64 0, .int .i64 4]) (by simp [results, Tryz.results162, go_sem]) rfl ⟨?_, ?_⟩
      · rw [hfin.out]; rfl
      · repeat (first | exact Below.refl _ _ | refine Below.setCell ?_ (by simp) _ | refine Below.alloc ?_ (Nat.le_refl _) _)
    have hlt : p + i < s.size := by omega
    have HB : Hid (bNu s (p + i) = s[p + i].toNat) := bU_eq s (p + i) hlt
    have hbl : (s[p + i].toNat : Int) ≤ 255 := by have := bU_lt s (p + i); rw [HB.out] at this; omega
    by_cases h9 : i = 9 ∧ 1 < s[p + i].toNat
    · obtain ⟨h9a, h9b⟩ := h9
      have hfin : Hid (R = .bad 3) := by
        rw [← HG.out]
        subst h9a
        exact getR_ninth hlt (by rw [HB.out]; exact h9b)
      have e9 : ((i : Int) == 9) = true := by rw [beq_iff_eq]; omega
      have e9b : (1 : Int) < (s[p + i].toNat : Int) := by omega
      clear h9a
      go_wp2
      refine bodyPost_ret (v := .agg #[.int .i64 0, .int .i64 0, .int .i64 3]) (by simp [results, Tryz.results162, go_sem]) rfl ⟨?_, ?_⟩
      · rw [hfin.out]; rfl
      · repeat (first | exact Below.refl _ _ | refine Below.setCell ?_ (by simp) _ | refine Below.alloc ?_ (Nat.le_refl _) _)
    have H9 : Hid (i = 9 → bNu s (p + i) ≤ 1) := fun e => by rw [HB.out]; omega
    have hw1 := wrapSh hlt (by omega) H9.out
    have hxl := sh7_le (s := s) (j := p + i) (by omega) H9.out
    obtain ⟨x, hx⟩ : ∃ x, x = sh7 i (bNu s (p + i) % 128) := ⟨_, rfl⟩
    rw [← hx] at hw1 hxl
    obtain ⟨hw2, hvl⟩ := wrapSum HU.out (by omega) hxl
    obtain ⟨v, hv⟩ : ∃ v, v = u + x := ⟨_, rfl⟩
    rw [← hv] at hw2 hvl
    have hvl' : (v : Int) ≤ 18446744073709551615 := by omega
    have HV : Hid (v = u + sh7 i (bNu s (p + i) % 128)) := (by rw [hv, hx] : v = u + sh7 i (bNu s (p + i) % 128))
    clear hx hv hxl hvl
    have h9c : ((i : Int) == 9) = true ∧ (s[p + i].toNat : Int) ≤ 1 ∨ ((i : Int) == 9) = false := by
      by_cases h : i = 9
      · left; exact ⟨by rw [beq_iff_eq]; omega, by omega⟩
      · right; rw [beq_eq_false_iff_ne]; omega
    have h9d : Hid (((i : Int) == 9) = false → i < 9) := fun h => by rw [beq_eq_false_iff_ne] at h; omega
    clear h9
    by_cases hc : 128 ≤ (s[p + i].toNat : Int)
    · rcases h9c with ⟨e9, e1⟩ | e9
      · exfalso; omega
      have hi9 := h9d.out e9
      have HN : Hid (getR s p f (i + 1) v = R) := (by rw [← HG.out, getR_more hlt H9.out (by rw [HB.out]; omega), ← HV.out] : getR s p f (i + 1) v = R)
      have HVB : Hid (v < 128 ^ (i + 1)) := by rw [HV.out]; exact sh7_bound HU.out (by omega)
      go_wp2
      go_roundw
      case rel => exact ⟨i + 1, v, by omega, by go_num, rfl, HVB.out, by rw [show 10 - (i + 1) = f from by have := HF.out; omega]; exact HN.out, trivial⟩
      case measure => simp [RowKit.intOf]; omega
    by_cases hz : s[p + i].toNat = 0 ∧ 0 < i
    · have hfin : Hid (R = .bad 3) := by
        rw [← HG.out]
        exact getR_zero hlt (by rw [HB.out]; exact hz.1) hz.2
      have ez : ((s[p + i].toNat : Int) == 0) = true := by rw [beq_iff_eq]; omega
      have ei : (0 : Int) < (i : Int) := by omega
      clear hz
      rcases h9c with ⟨e9, e1⟩ | e9
      all_goals
        go_wp2
        refine bodyPost_ret (v := .agg #[.int .i64 0, .int .i64 0, .int .i64 3]) (by simp [results, Tryz.results162, go_sem]) rfl ⟨?_, ?_⟩
        · rw [hfin.out]; rfl
        · repeat (first | exact Below.refl _ _ | refine Below.setCell ?_ (by simp) _ | refine Below.alloc ?_ (Nat.le_refl _) _)
    have hfin : Hid (R = ⟨unI v, (p + i + 1 : Nat), 0⟩) := (by
      rw [← HG.out, getR_last hlt H9.out (by rw [HB.out]; omega) (by rw [HB.out]; exact hz), ← HV.out] : R = ⟨unI v, (p + i + 1 : Nat), 0⟩)
    have hz2 : ((s[p + i].toNat : Int) == 0) = false ∨ (i : Int) ≤ 0 ∧ ((s[p + i].toNat : Int) == 0) = true := by
      by_cases h : s[p + i].toNat = 0
      · right; exact ⟨by omega, by rw [beq_iff_eq]; omega⟩
      · left; rw [beq_eq_false_iff_ne]; omega
    clear hz
    by_cases hodd : v % 2 = 1
    · have eo : ((v : Int) % 2 == 1) = true := by rw [beq_iff_eq]; omega
      have hun : Hid (unI v = -((v : Int) / 2) - 1) := by unfold Hid unI; rw [if_pos hodd]; omega
      clear hodd
      rcases h9c with ⟨e9, e1⟩ | e9 <;> rcases hz2 with ez | ⟨ei, ez⟩
      all_goals
        go_wp2
        refine bodyPost_ret (v := .agg #[.int .i64 (-((v : Int) / 2) - 1), .int .i64 ((p : Int) + (i : Int) + 1), .int .i64 0]) (by simp [results, Tryz.results162, go_sem]) rfl ⟨?_, ?_⟩
        · rw [hfin.out, numV, hun.out]; simp only [Int.natCast_add]; rfl
        · repeat (first | exact Below.refl _ _ | refine Below.setCell ?_ (by simp) _ | refine Below.alloc ?_ (Nat.le_refl _) _)
    · have eo : ((v : Int) % 2 == 1) = false := by rw [beq_eq_false_iff_ne]; omega
      have hun : Hid (unI v = (v : Int) / 2) := by unfold Hid unI; rw [if_neg hodd]; omega
      clear hodd
      rcases h9c with ⟨e9, e1⟩ | e9 <;> rcases hz2 with ez | ⟨ei, ez⟩
      all_goals
        go_wp2
        refine bodyPost_ret (v := .agg #[.int .i64 ((v : Int) / 2), .int .i64 ((p : Int) + (i : Int) + 1), .int .i64 0]) (by simp [results, Tryz.results162, go_sem]) rfl ⟨?_, ?_⟩
        · rw [hfin.out, numV, hun.out]; simp only [Int.natCast_add]; rfl
        · repeat (first | exact Below.refl _ _ | refine Below.setCell ?_ (by simp) _ | refine Below.alloc ?_ (Nat.le_refl _) _)
end Go.Proofs.YtkhdjmjbdpmdnaaGreatDoor
namespace Go.Proofs.YtkhdjmjbdpmdnaaGreatDoor
open Go.RowKit Go.Lib

theorem specGet_any (s : ByteArray) (p : Int) (w : World) (hs : s.size ≤ maxLen) (hp0 : -9223372036854775808 ≤ p) (hp1 : p ≤ 9223372036854775807) :
    Calls Tryz.prog 162 #[.string s, .int .i64 p] w fun e w' => e = .returned (numV (numAt s p)) ∧ Below w.heap.size w w' := by
  unfold maxLen at hs
  by_cases h1 : 20000 < s.size
  · rw [numAt, if_pos h1]
    go_enter Tryz.func162, Tryz.ntmps162
    go_wp2
    refine bodyPost_ret (v := .agg #[.int .i64 0, .int .i64 0, .int .i64 2]) (by simp [results, Tryz.results162, go_sem]) rfl ⟨rfl, ?_⟩
    repeat (first | exact Below.refl _ _ | refine Below.setCell ?_ (by simp) _ | refine Below.alloc ?_ (Nat.le_refl _) _)
  by_cases h2 : p < 0
  · rw [numAt, if_neg h1, if_pos h2]
    go_enter Tryz.func162, Tryz.ntmps162
    go_wp2
    refine bodyPost_ret (v := .agg #[.int .i64 0, .int .i64 0, .int .i64 1]) (by simp [results, Tryz.results162, go_sem]) rfl ⟨rfl, ?_⟩
    repeat (first | exact Below.refl _ _ | refine Below.setCell ?_ (by simp) _ | refine Below.alloc ?_ (Nat.le_refl _) _)
  obtain ⟨q, rfl⟩ := Int.eq_ofNat_of_zero_le (show 0 ≤ p by omega)
  rw [numAt, if_neg h1, if_neg h2, Int.toNat_natCast]
  exact specGet s q w (by omega) hp1
end Go.Proofs.YtkhdjmjbdpmdnaaGreatDoor
namespace Go.Proofs.YtkhdjmjbdpmdnaaGreatDoor
open Go.RowKit

set_option linter.unusedSimpArgs false in
set_option maxHeartbeats 1000000 in
set_option maxRecDepth 100000 in
theorem specBits (s : ByteArray) (n : Nat) (w : World) (hs : s.size ≤ 20000) (hn : n ≤ 3) :
    Calls Tryz.prog 108 #[.string s, .int .i64 (n : Int)] w fun e w' => ∃ v, e = .returned v ∧ OwnL w' w.heap.size v (bitsQ s n 1) ∧ Below w.heap.size w w' := by
  obtain ⟨i0, hi, hz0, hz1, hz2⟩ := info_parts infoLong
  have HGt : Hid (∀ V (p : Int), 0 ≤ p → p ≤ 20000 → Calls Tryz.prog 162 #[.string s, .int .i64 p] V fun e w' => e = .returned (numV (numAt s p)) ∧ Below V.heap.size V w') := fun V p h0 h1 => specGet_any s p V (by unfold maxLen; omega) (by omega) (by omega)
  have HAt : Hid (∀ p, 0 ≤ (numAt s p).at' ∧ (numAt s p).at' ≤ 20000) := fun p => by have := numAt_any s p; omega
  obtain ⟨R, hR⟩ : ∃ R, R = bitsQ s n 1 := ⟨_, rfl⟩
  rw [← hR]
  have HR : Hid (R = bitsQ s n 1) := hR
  clear hR hs
  go_enter Tryz.func108, Tryz.ntmps108
  go_wp2_with fail
  go_loopw [5, 6, 7] (fun v a i wr => ∃ (k : Nat) (p : Int) (pre : List Int), k ≤ n ∧ i = .int .i64 (k : Int) ∧ a = .int .i64 p ∧ 0 ≤ p ∧ p ≤ 20000 ∧ pre.length = k ∧ R = pre ++ bitsQ s (n - k) p ∧ OwnL wr w.heap.size v pre ∧ Below w.heap.size w wr) (fun _ _ i _ => n - (intOf i).toNat)
  case atStart =>
    refine ⟨0, 1, [], Nat.zero_le _, rfl, rfl, by omega, by omega, rfl, HR.out, ?_, (Below.refl _ _).alloc (Nat.le_refl _) _⟩
    refine ⟨rfl, .inr ⟨w.heap.size, 0, #[], rfl, Nat.le_refl _, heap_alloc_new w _, ?_⟩⟩
    simp [lCells]
  case round =>
    obtain ⟨k, p, pre, hk, rfl, rfl, hp0, hp1, hpl, hat, hown, hbr⟩ := hrel
    have HB : Hid (Below w.heap.size w wr) := hbr
    obtain ⟨xa, xc, rfl, hvc⟩ := OwnL.form hown
    have HO : Hid (OwnL wr w.heap.size (.slice xa pre.length xc) pre) := hown
    have HPl : Hid (pre.length = k) := hpl
    rw [hpl] at HO hvc ⊢
    clear hown hbr
    by_cases hlt : k < n
    · have HX : Hid (R = pre ++ ((numAt s p).n :: bitsQ s (n - (k + 1)) (numAt s p).at')) := by
        show _ = _
        rw [hat, show n - k = (n - (k + 1)) + 1 by omega, bitsQ]
      have HG := HGt.out wr p hp0 hp1
      have hA := HAt.out p
      unfold numV at HG
      generalize (numAt s p).n = z at *
      generalize (numAt s p).at' = za at *
      generalize (numAt s p).code = zc at *
      have HG' : Hid _ := HG
      clear HG hat HGt HAt
      go_wp2_with fail
      refine Calls.mono HG'.out ?_
      rintro e w4 ⟨rfl, b4⟩
      obtain ⟨w5, hw5⟩ : ∃ y, y = w4.alloc (.cells #[.int .i64 z, .int .i64 za, .int .i64 zc] 150 (0, 0)) := ⟨_, rfl⟩
      have b5 : Below wr.heap.size wr w5 := by rw [hw5]; exact b4.alloc b4.size _
      have g5 : w5.heap[w4.heap.size]? = some (.cells [Value.int .i64 z, .int .i64 za, .int .i64 zc].toArray 150 (0, 0)) := by rw [hw5]; exact heap_alloc_new w4 _
      have B5 : Hid (Below w.heap.size w w5) := HB.out.trans (b5.mono HB.out.size)
      have hO : w5.ownsRow w.heap.size 2 1 (.slice xa k xc) k (lCells pre) := by
        have h2 := HO.out.keep b5
        unfold OwnL at h2
        rw [HPl.out] at h2
        exact h2
      have hz5 : w.heap.size ≤ w5.heap.size := B5.out.size
      have G5 : Hid _ := g5
      have Z4 : Hid (wr.heap.size ≤ w4.heap.size) := b4.size
      have y0 := rowFacts g5 0 _ rfl
      clear b4 b5 g5 HG'
      go_upto_region 7 with fail
      rw [← hw5]
      clear hw5
      go_wp2_with (at_builtin; refine wpList_append_own _ rfl _ _ 51 rfl w.heap.size 2 i0 (.int .i64 0) 1 8 Tryz.underlying51 hi hz0 hz1 hz2 rfl (by decide) _ _ _ rfl (hO.alloc _) ⟨w5.heap.size, 0, none⟩ 1 1 [.int .i64 z] rfl rfl ?c1 ?c2 ?c3 ?c4 ?c5 ?_)
      case c1 => exact cells_one (by simp)
      case c2 => intro u hu; simp at hu; subst hu; rfl
      case c3 => unfold maxLen; omega
      case c4 => omega
      case c5 => simp; omega
      intro v' w6 hown' hgrow _
      have hB6 : Below w.heap.size w w6 := (B5.out.alloc B5.out.size _).grown hgrow (by simp; omega) (fun k hk => (hO.lt k hk).1)
      have hl5 := heap_lt G5.out
      have g6 : w6.heap[w4.heap.size]? = some (.cells [Value.int .i64 z, .int .i64 za, .int .i64 zc].toArray 150 (0, 0)) := by
        rw [hgrow.block _ (by simp; omega) (fun e => by
          have h1 := HO.out
          rw [← HPl.out] at h1 e
          have h2 := (h1.ge e.symm).2
          have h3 := Z4.out
          omega), Below.heap_alloc _ _ _ hl5]
        exact G5.out
      have y1 := rowFacts g6 1 _ rfl
      have HO6 : Hid (OwnL w6 w.heap.size v' (pre ++ [z])) := by
        show World.ownsRow _ _ _ _ _ _ _
        rw [List.length_append, HPl.out, lCells, List.map_append]
        exact hown'
      have HB6 : Hid (Below w.heap.size w w6) := hB6
      clear hown' hgrow hB6 hO g6 y0 hl5
      go_wp2_with fail
      go_roundw
      case rel => exact ⟨k + 1, za, pre ++ [z], by omega, by go_num, rfl, hA.1, hA.2, by rw [List.length_append, HPl.out]; rfl, by rw [HX.out, List.append_assoc]; rfl, HO6.out, HB6.out⟩
      case measure => simp [intOf]; omega
    · obtain rfl : k = n := by omega
      have HF : Hid (R = pre) := by show _ = _; rw [hat, Nat.sub_self]; simp [bitsQ]
      clear hat
      go_wp2
      go_ret
      exact ⟨_, rfl, by rw [HF.out]; exact HO.out, HB.out⟩
end Go.Proofs.YtkhdjmjbdpmdnaaGreatDoor
namespace Go.Proofs.YtkhdjmjbdpmdnaaGreatDoor
open Go.RowKit

theorem asI_cons (t : Nat) (b : ByteArray) (r : List (Nat × ByteArray)) : asI ((t, b) :: r) = ((t : Int), b) :: asI r := rfl
theorem openR_cat {l : List (Nat × ByteArray)} (h : ThingsOk l) : openR (catT l) = (asI l, false) := by
  unfold openR
  rw [allD_cat h.1 h.2.1 h.2.2]
  rfl
theorem takeR_cons (t : Int) (b : ByteArray) (r : List (Int × ByteArray)) : takeR ((t, b) :: r) false t = (b, r, false) := by
  simp [takeR]
theorem inR_cons (t : Int) {l : List (Nat × ByteArray)} (h : ThingsOk l) (r : List (Int × ByteArray)) : inR ((t, catT l) :: r) false t = ((asI l, false), r, false) := by
  unfold inR
  rw [takeR_cons, openR_cat h]
  rfl
theorem intQ_back {n : Int} (h0 : -9223372036854775808 ≤ n) (h1 : n ≤ 9223372036854775807) : intQ (strOfNums (intL n)) = (n, true) := by
  have h := int_back h0 h1
  have hl := intL_len n
  have hs : (strOfNums (intL n)).size = (intL n).length := strOfNums_size _
  unfold intQ
  rw [if_neg (by omega)]
  unfold intR at h
  rw [if_neg (by omega), if_neg (by omega)] at h
  split at h
  · rename_i he
    rw [Prod.mk.injEq] at h
    rw [h.1] at he ⊢
    rw [decide_eq_true he]
  · simp at h
theorem numR_cons {n : Int} (h0 : -9223372036854775808 ≤ n) (h1 : n ≤ 9223372036854775807) (r : List (Int × ByteArray)) : numR ((2, strOfNums (intL n)) :: r) false = (n, r, false) := by
  unfold numR
  rw [takeR_cons, intQ_back h0 h1]
  rfl
/-- The names that are taken one by one. -/
def hostsR : List (Int × ByteArray) → Bool → List ByteArray
  | [], _ => []
  | p :: r, bad => if bad = true then [] else if p.1 = 130 then p.2 :: hostsR r false else [⟨#[]⟩]
theorem hostsR_bad (l : List (Int × ByteArray)) : hostsR l true = [] := by cases l <;> simp [hostsR]
theorem hostsR_nil (b : Bool) : hostsR [] b = [] := rfl
theorem hostsR_step (p : Int × ByteArray) (r : List (Int × ByteArray)) : hostsR (p :: r) false = (takeR (p :: r) false 130).1 :: hostsR (takeR (p :: r) false 130).2.1 (takeR (p :: r) false 130).2.2 := by
  by_cases h : p.1 = 130
  · simp [hostsR, takeR, h]
  · simp [hostsR, takeR, h]
theorem hostsR_cat (ss : List ByteArray) : hostsR (asI (ss.map fun n => (130, n))) false = ss := by
  induction ss with
  | nil => rfl
  | cons n r ih =>
    rw [List.map_cons, asI_cons, hostsR, if_neg (by simp), if_pos (by rfl), ih]
theorem hostsR_len : ∀ (l : List (Int × ByteArray)) (b : Bool), (hostsR l b).length ≤ l.length
  | [], _ => Nat.le_refl _
  | p :: r, b => by
    rw [hostsR]
    split
    · exact Nat.zero_le _
    · split
      · have := hostsR_len r false
        simp only [List.length_cons]
        omega
      · simp
theorem hostsR_each {m : Nat} : ∀ (l : List (Int × ByteArray)) (b : Bool), (∀ q ∈ l, q.2.size ≤ m) → ∀ q ∈ hostsR l b, q.size ≤ m
  | [], _, _ => by simp [hostsR]
  | p :: r, b, h => by
    intro q hq
    rw [hostsR] at hq
    split at hq
    · simp at hq
    · split at hq
      · rcases List.mem_cons.1 hq with rfl | hq
        · exact h p (List.mem_cons_self ..)
        · exact hostsR_each r false (fun q hq => h q (List.mem_cons_of_mem _ hq)) q hq
      · obtain rfl := List.mem_singleton.1 hq
        exact Nat.zero_le _
/-- What the specification reads of what is asked for. -/
noncomputable def askS (s : ByteArray) : Ask :=
  let r := (inR (openR s).1 (openR s).2 48).1
  let b := inR r.1 r.2 48
  let v := (numR b.1.1 b.1.2).2
  let t := takeR v.1 v.2 3
  let k := (bitsQ t.1 1 1).getD 0 0
  let h := (inR t.2.1 t.2.2 48).1
  let n := bitsQ (takeR b.2.1 b.2.2 3).1 2 1
  ⟨k, hostsR h.1 h.2, k, n.getD 0 0, n.getD 1 0⟩
theorem askS_back {c : Ask} (h : formB c = true) : askS (askY c) = c := by
  have hb := formB_ask h
  obtain ⟨h1, h2, h3, h4⟩ := ask_fits hb
  obtain ⟨_, _, _, _, _, _, _, n1, n2, _⟩ := ask_back h
  have o2 := (askL2_ok hb).1
  have o1 := (askL_ok hb).1
  have o0 := seq_ok (b := catT (askL2 c)) (by have := (askL2_ok hb).2; omega)
  obtain ⟨e, oh⟩ := hosts_ok h2 h4
  have x0 : openR (askY c) = (((48 : Int), catT (askL2 c)) :: [], false) := by rw [askY_cat, openR_cat o0]; rfl
  have x1 : asI (askL2 c) = ((48 : Int), catT (askL c)) :: ((3 : Int), askT c.se c.ss) :: [] := rfl
  have x2 : asI (askL c) = ((2 : Int), strOfNums (intL 0)) :: ((3 : Int), ⟨#[0]⟩ ++ rowN [c.key]) :: ((48 : Int), hostsD c.names c.names.length) :: [] := rfl
  unfold askS
  simp only [x0, inR_cons _ o2, x1, inR_cons _ o1, x2, numR_cons (n := 0) (by omega) (by omega), takeR_cons, n1, n2]
  rw [e]
  simp only [inR_cons _ oh, hostsR_cat, List.getD_cons_zero, List.getD_cons_succ]
  have hk := form_key h
  cases c
  simp only at hk ⊢
  rw [hk]
end Go.Proofs.YtkhdjmjbdpmdnaaGreatDoor
namespace Go.Proofs.YtkhdjmjbdpmdnaaGreatDoor
open Go.RowKit

theorem nameR_cons {t : ByteArray} (h : t.size ≤ 40) (r : List (Int × ByteArray)) : nameR ((48, catT (nameL t)) :: r) false = (t, r, false) := by
  obtain ⟨o0, o1, o2, _⟩ := name_ok h
  unfold nameR
  have x2 : asI (nameL t) = ((49 : Int), catT (nameL1 t)) :: [] := rfl
  have x1 : asI (nameL1 t) = ((48 : Int), catT (nameL0 t)) :: [] := rfl
  have x0 : asI (nameL0 t) = ((6 : Int), strOfNums (oidL [2, 5, 4, 3])) :: ((12 : Int), t) :: [] := rfl
  simp only [inR_cons _ o2, x2, inR_cons _ o1, x1, inR_cons _ o0, x0, takeR_cons, Bool.or_false]
/-- The numbers that are taken one by one. -/
noncomputable def numsL : List (Int × ByteArray) → Bool → List Int
  | [], _ => []
  | p :: r, bad => if bad = true then [] else if p.1 = 2 then (intQ p.2).1 :: numsL r (!(intQ p.2).2) else [0]
theorem numsL_bad (l : List (Int × ByteArray)) : numsL l true = [] := by cases l <;> simp [numsL]
theorem numsL_nil (b : Bool) : numsL [] b = [] := rfl
theorem intQ_none : intQ ⟨#[]⟩ = (0, false) := by
  unfold intQ
  exact if_pos (Or.inl rfl)
theorem numsL_step (p : Int × ByteArray) (r : List (Int × ByteArray)) : numsL (p :: r) false = (numR (p :: r) false).1 :: numsL (numR (p :: r) false).2.1 (numR (p :: r) false).2.2 := by
  by_cases h : p.1 = 2
  · simp [numsL, numR, takeR, h]
  · simp [numsL, numR, takeR, h, intQ_none, numsL_bad]
theorem numR_less (p : Int × ByteArray) (r : List (Int × ByteArray)) : (numR (p :: r) false).2.1.length + (if (numR (p :: r) false).2.2 then 0 else 1) < (p :: r).length + 1 := by
  by_cases h : p.1 = 2
  · simp only [numR, takeR, h, if_true, List.length_cons, Bool.false_eq_true, if_false, Bool.false_or]
    split <;> omega
  · simp [numR, takeR, h]
theorem numsL_cat (zs : List Int) (h : ∀ n ∈ zs, -9223372036854775808 ≤ n ∧ n ≤ 9223372036854775807) : numsL (asI (serL zs)) false = zs := by
  induction zs with
  | nil => rfl
  | cons n r ih =>
    obtain ⟨h0, h1⟩ := h n (List.mem_cons_self ..)
    have ih' := ih fun m hm => h m (List.mem_cons_of_mem _ hm)
    have e : asI (serL (n :: r)) = ((2 : Int), strOfNums (intL n)) :: asI (serL r) := rfl
    rw [e, numsL, if_neg (by simp), if_pos rfl, intQ_back h0 h1]
    simp only [Bool.not_true]
    rw [ih']
theorem numsL_len : ∀ (l : List (Int × ByteArray)) (b : Bool), (numsL l b).length ≤ l.length
  | [], _ => Nat.le_refl _
  | p :: r, b => by
    rw [numsL]
    split
    · exact Nat.zero_le _
    · split
      · have := numsL_len r (!(intQ p.2).2)
        simp only [List.length_cons]
        omega
      · simp
/-- What the specification reads of a list. -/
noncomputable def listS (s : ByteArray) : Lst :=
  let r := (inR (openR s).1 (openR s).2 48).1
  let b := inR r.1 r.2 48
  let nm := nameR b.1.1 b.1.2
  let x := numR nm.2.1 nm.2.2
  let y := numR x.2.1 x.2.2
  let h := (inR y.2.1 y.2.2 48).1
  let n := bitsQ (takeR b.2.1 b.2.2 3).1 3 1
  ⟨nm.1, x.1, y.1, numsL h.1 h.2, n.getD 0 0, n.getD 1 0, n.getD 2 0⟩
theorem listS_back {c : Lst} (h : crlB c = true) : listS (listY c) = c := by
  have hf := list_fits (crlB_list h)
  obtain ⟨o1, o2, o3⟩ := list_ok hf
  obtain ⟨_, _, _, _, _, _, _, _, n2⟩ := list_back h
  obtain ⟨e, oh⟩ := ser_ok hf.len
  have f0 := hf.fr0
  have f1 := hf.fr1
  have t0 := hf.till0
  have t1 := hf.till1
  have x0 : openR (listY c) = (((48 : Int), catT (listL2 c)) :: [], false) := by rw [listY_cat, openR_cat o3]; rfl
  have x1 : asI (listL2 c) = ((48 : Int), catT (listL c)) :: ((3 : Int), sigT c.sk c.se c.ss) :: [] := rfl
  have x2 : asI (listL c) = ((48 : Int), catT (nameL c.issuer)) :: ((2 : Int), strOfNums (intL c.fr)) :: ((2 : Int), strOfNums (intL c.till)) :: ((48 : Int), serD c.serials c.serials.length) :: [] := rfl
  unfold listS
  simp only [x0, inR_cons _ o2, x1, inR_cons _ o1, x2, nameR_cons hf.iss, numR_cons (n := c.fr) (by omega) (by omega), numR_cons (n := c.till) (by omega) (by omega), takeR_cons, n2]
  rw [e]
  simp only [inR_cons _ oh, numsL_cat _ (ser_nums hf.each), List.getD_cons_zero, List.getD_cons_succ]
end Go.Proofs.YtkhdjmjbdpmdnaaGreatDoor
namespace Go.Proofs.YtkhdjmjbdpmdnaaGreatDoor
open Go.RowKit

/-- One part of what is more: its names are taken, or it says that the key signs papers. -/
def partS (m : List ByteArray × Bool) (l : List (Int × ByteArray)) (bad : Bool) : List ByteArray × Bool :=
  let t := takeR l bad 6
  if t.2.2 = false ∧ t.2.1.length = 1 then
    let f := (inR t.2.1 t.2.2 4).1
    let h := (inR f.1 f.2 48).1
    (m.1 ++ hostsR h.1 h.2, m.2)
  else (m.1, true)
/-- The parts, one by one. -/
def moreS : List (Int × ByteArray) → Bool → List ByteArray × Bool → List ByteArray × Bool
  | [], _, m => m
  | p :: r, bad, m => if bad = true then m else if p.1 = 48 then moreS r false (partS m (openR p.2).1 (openR p.2).2) else (m.1, true)
theorem moreS_bad (l : List (Int × ByteArray)) (m : List ByteArray × Bool) : moreS l true m = m := by cases l <;> simp [moreS]
theorem moreS_nil (b : Bool) (m : List ByteArray × Bool) : moreS [] b m = m := rfl
theorem partS_bad (m : List ByteArray × Bool) (l : List (Int × ByteArray)) : partS m l true = (m.1, true) := by
  unfold partS takeR
  cases l <;> simp
theorem moreS_step (p : Int × ByteArray) (r : List (Int × ByteArray)) (m : List ByteArray × Bool) :
    moreS (p :: r) false m = moreS (inR (p :: r) false 48).2.1 (inR (p :: r) false 48).2.2 (partS m (inR (p :: r) false 48).1.1 (inR (p :: r) false 48).1.2) := by
  by_cases h : p.1 = 48
  · simp [moreS, inR, takeR, h]
  · simp [moreS, inR, takeR, h, moreS_bad, partS_bad]
/-- What stands behind the key, if anything does. -/
def tailS (l : List (Int × ByteArray)) (bad : Bool) : List ByteArray × Bool :=
  if bad = false ∧ l.length > 0 then
    let m := (inR l bad 163).1
    let x := (inR m.1 m.2 48).1
    moreS x.1 x.2 ([], false)
  else ([], false)
theorem partS_names (m : List ByteArray × Bool) {ss : List ByteArray} (h : ss.length ≤ 5) (h' : ∀ i, i < ss.length → (tAt ss i).size ≤ 40) : partS m (asI (namePL ss)) false = (m.1 ++ ss, m.2) := by
  obtain ⟨_, o2⟩ := names_ok h h'
  obtain ⟨e, oh⟩ := hosts_ok h h'
  have x0 : asI (namePL ss) = ((6 : Int), oidB [2, 5, 29, 17]) :: ((4 : Int), catT (hostsL ss)) :: [] := rfl
  have x1 : asI (hostsL ss) = ((48 : Int), hostsD ss ss.length) :: [] := rfl
  unfold partS
  simp only [x0, takeR_cons, inR_cons _ o2, x1]
  rw [if_pos ⟨trivial, rfl⟩, e]
  simp only [inR_cons _ oh, hostsR_cat]
theorem partS_ca (m : List ByteArray × Bool) : partS m (asI caPL) false = (m.1, true) := by
  have x0 : asI caPL = ((6 : Int), oidB [2, 5, 29, 19]) :: ((1 : Int), ⟨#[255]⟩) :: ((4 : Int), catT [(48, soD)]) :: [] := rfl
  unfold partS
  simp only [x0, takeR_cons]
  rw [if_neg (by simp)]
theorem partsS_back {ss : List ByteArray} (h : ss.length ≤ 5) (h' : ∀ i, i < ss.length → (tAt ss i).size ≤ 40) (ca : Bool) : moreS (asI (partsL ss ca)) false ([], false) = (ss, ca) := by
  obtain ⟨o1, _⟩ := names_ok h h'
  have en : ∀ (r : List (Int × ByteArray)) (m : List ByteArray × Bool), moreS (((48 : Int), catT (namePL ss)) :: r) false m = moreS r false (m.1 ++ ss, m.2) := by
    intro r m
    rw [moreS_step, inR_cons _ o1, partS_names _ h h']
  have ec : ∀ (r : List (Int × ByteArray)) (m : List ByteArray × Bool), moreS (((48 : Int), catT caPL) :: r) false m = moreS r false (m.1, true) := by
    intro r m
    rw [moreS_step, inR_cons _ ca_ok, partS_ca]
  unfold partsL
  by_cases hs : ss.length = 0
  · rw [if_pos hs]
    have he : ss = [] := List.eq_nil_of_length_eq_zero hs
    cases ca with
    | false => rw [he]; rfl
    | true =>
      show moreS (((48 : Int), catT caPL) :: []) false ([], false) = _
      rw [ec, moreS_nil, he]
  · rw [if_neg hs]
    cases ca with
    | false =>
      show moreS (((48 : Int), catT (namePL ss)) :: []) false ([], false) = _
      rw [en, moreS_nil]
      rfl
    | true =>
      show moreS (((48 : Int), catT (namePL ss)) :: ((48 : Int), catT caPL) :: []) false ([], false) = _
      rw [en, ec, moreS_nil]
      rfl
theorem tailS_back {ss : List ByteArray} (h : ss.length ≤ 5) (h' : ∀ i, i < ss.length → (tAt ss i).size ≤ 40) (ca : Bool) : tailS (asI (morePL ss ca)) false = (ss, ca) := by
  obtain ⟨o1, o2⟩ := parts_ok h h' ca
  have hb := partsS_back h h' ca
  unfold morePL
  by_cases hp : (partsL ss ca).length = 0
  · rw [if_pos hp]
    rw [List.eq_nil_of_length_eq_zero hp] at hb
    exact hb
  · rw [if_neg hp]
    have x0 : asI [(163, catT [(48, catT (partsL ss ca))])] = ((163 : Int), catT [(48, catT (partsL ss ca))]) :: [] := rfl
    have x1 : asI [(48, catT (partsL ss ca))] = ((48 : Int), catT (partsL ss ca)) :: [] := rfl
    unfold tailS
    simp only [x0, inR_cons _ o2, x1, inR_cons _ o1]
    rw [if_pos ⟨trivial, by simp⟩]
    exact hb
/-- What the specification reads of a paper. -/
noncomputable def certSP (s : ByteArray) : Paper :=
  let r := (inR (openR s).1 (openR s).2 48).1
  let b := inR r.1 r.2 48
  let z := (inR b.1.1 b.1.2 160).2
  let x := numR z.1 z.2
  let a := takeR x.2.1 x.2.2 48
  let i := nameR a.2.1 a.2.2
  let v := inR i.2.1 i.2.2 48
  let f := numR v.1.1 v.1.2
  let t := numR f.2.1 f.2.2
  let u := nameR v.2.1 v.2.2
  let k := inR u.2.1 u.2.2 48
  let d := takeR k.1.1 k.1.2 48
  let q := bitsQ (takeR d.2.1 d.2.2 3).1 1 1
  let m := tailS k.2.1 k.2.2
  let g := takeR b.2.1 b.2.2 48
  let n := bitsQ (takeR g.2.1 g.2.2 3).1 3 1
  ⟨x.1, i.1, u.1, f.1, t.1, q.getD 0 0, m.1, m.2, n.getD 0 0, n.getD 1 0, n.getD 2 0⟩
theorem int2_ok : ThingsOk [(2, strOfNums (intL 2))] := by
  have h := intD_le 2
  refine things_ok (fun q hq => ?_) (by simp) ?_
  · obtain rfl := List.mem_singleton.1 hq
    exact tag2
  · rw [catT_one]
    show (intD 2).size ≤ _
    omega
theorem int2_cat : intD 2 = catT [(2, strOfNums (intL 2))] := by rw [catT_one]; rfl
theorem certSP_back {c : Paper} (h : certB c = true) : certSP (bytesD c) = c := by
  have hf := paper_fits (certB_paper h)
  have hsig : sigRB c.sk c.se c.ss = true := by
    unfold certB at h
    rw [Bool.and_eq_true] at h
    exact h.2
  obtain ⟨s0, s1, s2⟩ := sigRB_lt hsig
  obtain ⟨o2, hz2⟩ := body2_ok hf
  have o1 := body_ok hf
  have o3 : ThingsOk [(48, catT (bodyL2 c))] := seq_ok (by omega)
  have ht := sigT_le c.sk c.se c.ss
  have n2 := (rowN_zero (zs := [c.sk, c.se, c.ss]) (fun n hn => by simp at hn; rcases hn with rfl | rfl | rfl <;> omega) (by rw [← sigT_row]; omega)).2
  rw [← sigT_row] at n2
  have hk := putS_size c.key
  have k0 := hf.key0
  have k1 := hf.key1
  have n1 := (rowN_zero (zs := [c.key]) (fun n hn => by simp at hn; subst hn; omega) (by rw [← key_row, ByteArray.size_append, one_size]; omega)).2
  have e0 := hf.ser0
  have e1 := hf.ser1
  have e2 := hf.fr0
  have e3 := hf.fr1
  have e4 := hf.till0
  have e5 := hf.till1
  have x0 : openR (bytesD c) = (((48 : Int), catT (bodyL2 c)) :: [], false) := by rw [bytesD_cat, openR_cat o3]; rfl
  have x1 : asI (bodyL2 c) = ((48 : Int), catT (bodyL c)) :: ((48 : Int), catT kindL) :: ((3 : Int), sigT c.sk c.se c.ss) :: [] := rfl
  have x2 : asI (bodyL c) = ((160 : Int), catT [(2, strOfNums (intL 2))]) :: ((2 : Int), strOfNums (intL c.serial)) :: ((48 : Int), catT kindL) :: ((48 : Int), catT (nameL c.issuer)) :: ((48 : Int), catT (timesL c.fr c.till)) :: ((48 : Int), catT (nameL c.subject)) :: ((48 : Int), catT (keyLs c.key)) :: asI (morePL c.names c.ca) := by
    rw [← int2_cat]
    rfl
  have x3 : asI (timesL c.fr c.till) = ((2 : Int), strOfNums (intL c.fr)) :: ((2 : Int), strOfNums (intL c.till)) :: [] := rfl
  have x4 : asI (keyLs c.key) = ((48 : Int), catT kindL) :: ((3 : Int), ⟨#[0]⟩ ++ rowN [c.key]) :: [] := rfl
  have n1' : bitsQ (⟨#[0]⟩ ++ rowN [c.key]) 1 1 = [c.key] := n1
  have n2' : bitsQ (sigT c.sk c.se c.ss) 3 1 = [c.sk, c.se, c.ss] := n2
  unfold certSP
  simp only [x0, inR_cons _ o2, x1, inR_cons _ o1, x2, inR_cons _ int2_ok, takeR_cons, nameR_cons hf.iss, nameR_cons hf.sub, inR_cons _ (times_ok _ _), x3, inR_cons _ (key_ok _), x4,
    numR_cons (n := c.serial) (by omega) (by omega), numR_cons (n := c.fr) (by omega) (by omega), numR_cons (n := c.till) (by omega) (by omega), n1', n2', tailS_back hf.len hf.each, List.getD_cons_zero, List.getD_cons_succ]
end Go.Proofs.YtkhdjmjbdpmdnaaGreatDoor
namespace Go.Proofs.YtkhdjmjbdpmdnaaGreatDoor
open Go.RowKit

/-- What the specification tells of a text. -/
noncomputable def certS (s : ByteArray) : Paper × Int :=
  if 20000 < s.size then (zeroPaper, 2) else if s.size = 0 ∨ certBytesD (certSP s) ≠ s then (zeroPaper, 3) else (certSP s, 0)
theorem certR_eq (s : ByteArray) : certR s = certS s := by
  unfold certR certS
  by_cases hl : 20000 < s.size
  · rw [if_pos hl, if_pos hl]
  rw [if_neg hl, if_neg hl]
  by_cases h1 : certB (readP s) = true ∧ certBytesD (readP s) = s
  · have hb : bytesD (readP s) = s := by
      have h2 := h1.2
      unfold certBytesD at h2
      rw [if_pos h1.1] at h2
      exact h2
    have he : certSP s = readP s := by
      have := certSP_back h1.1
      rw [hb] at this
      exact this
    have hz : s.size ≠ 0 := by
      have := thing_pos 48 (bodyD (readP s) ++ (kindD ++ sigD (readP s).sk (readP s).se (readP s).ss))
      have h2 : s = thingD 48 (bodyD (readP s) ++ (kindD ++ sigD (readP s).sk (readP s).se (readP s).ss)) := hb.symm
      rw [← h2] at this
      omega
    rw [if_pos h1, he, if_neg]
    rintro (h | h)
    · exact hz h
    · exact h h1.2
  · rw [if_neg h1, if_pos]
    by_cases hz : s.size = 0
    · exact .inl hz
    refine .inr (fun h2 => ?_)
    by_cases hb : certB (certSP s) = true
    · have h3 := h2
      unfold certBytesD at h3
      rw [if_pos hb] at h3
      have he : readP s = certSP s := by
        have := readP_back hb
        rw [h3] at this
        exact this
      rw [← he] at hb h2
      exact h1 ⟨hb, h2⟩
    · unfold certBytesD at h2
      rw [if_neg hb] at h2
      rw [← h2] at hz
      exact hz rfl
theorem certS_fit (s : ByteArray) : (certS s).1.names.length ≤ 1048576 ∧ totS (certS s).1.names (certS s).1.names.length ≤ 1048576 := by
  rw [← certR_eq]
  have h := readP_names s
  unfold certR
  split
  · exact ⟨Nat.zero_le _, Nat.zero_le _⟩
  · split
    · exact h
    · exact ⟨Nat.zero_le _, Nat.zero_le _⟩
theorem certS_texts (s : ByteArray) : (certS s).1.issuer.size ≤ maxLen ∧ (certS s).1.subject.size ≤ maxLen := by
  rw [← certR_eq]
  have h := readP_texts s
  unfold certR
  split
  · exact ⟨Nat.zero_le _, Nat.zero_le _⟩
  · split
    · exact h
    · exact ⟨Nat.zero_le _, Nat.zero_le _⟩
end Go.Proofs.YtkhdjmjbdpmdnaaGreatDoor
namespace Go.Proofs.YtkhdjmjbdpmdnaaGreatDoor
open Go.RowKit

noncomputable def goodB (k : Int) (c : Paper) : Bool := certB c && decide (k = c.sk) && sigCB c.sk c.se c.ss (bodyD c)
end Go.Proofs.YtkhdjmjbdpmdnaaGreatDoor
namespace Go.Proofs.YtkhdjmjbdpmdnaaGreatDoor
open Go.RowKit

theorem certS_back {c : Paper} (h : certB c = true) (hz : (bytesD c).size ≤ 20000) : certS (certBytesD c) = (c, 0) := by
  have e : certBytesD c = bytesD c := if_pos h
  rw [← certR_eq, e]
  unfold certR
  rw [if_neg (by omega), readP_back h, if_pos ⟨h, e⟩]
theorem certS_told {u : ByteArray} (h : (certS u).2 = 0) : certBytesD (certS u).1 = u := by
  unfold certS at *
  by_cases h1 : 20000 < u.size
  · rw [if_pos h1] at h; cases h
  rw [if_neg h1] at h ⊢
  by_cases h2 : u.size = 0 ∨ certBytesD (certSP u) ≠ u
  · rw [if_pos h2] at h; cases h
  · rw [if_neg h2]
    by_cases h3 : certBytesD (certSP u) = u
    · exact h3
    · exact absurd (.inr h3) h2
theorem totS_forty {ss : List ByteArray} (h : ∀ i, i < ss.length → (tAt ss i).size ≤ 40) : ∀ k, k ≤ ss.length → totS ss k ≤ 40 * k
  | 0, _ => Nat.le_refl _
  | k + 1, hk => by
    have h1 := totS_forty h k (by omega)
    have h2 := h k (by omega)
    show totS ss k + (tAt ss k).size ≤ _
    omega
/-- What is read of a text, where it is read, is not large. -/
theorem certS_sizes {u : ByteArray} (h : (certS u).2 = 0) : (certS u).1.issuer.size ≤ 40 ∧ (certS u).1.subject.size ≤ 40 ∧ (certS u).1.names.length ≤ 1048576 ∧ totS (certS u).1.names (certS u).1.names.length ≤ 1048576 := by
  have hb : certB (certS u).1 = true := by
    by_cases hc : certB (certS u).1 = true
    · exact hc
    · exfalso
      have h1 := certS_told h
      rw [certBytesD, if_neg hc] at h1
      rw [← h1] at h
      unfold certS at h
      rw [if_neg (by decide), if_pos (.inl rfl)] at h
      cases h
  have hp := paper_fits (certB_paper hb)
  have h1 := totS_forty hp.each _ (Nat.le_refl _)
  have h2 := hp.len
  exact ⟨hp.iss, hp.sub, by omega, by omega⟩
/-- What CertSign tells is nothing, or a good paper. -/
theorem signP_good {x k e s : Int} {c : Paper} (hv : signV x (bodyD c) = .agg #[.int .i64 k, .int .i64 e, .int .i64 s]) :
    (signP x c k e s).serial = 0 ∨ (certB (signP x c k e s) = true ∧ goodB (pubA x) (signP x c k e s) = true ∧ certBodyD (signP x c k e s) = certBodyD c) := by
  by_cases hh : secB x = true ∧ paperB c = true
  · right
    obtain ⟨h1, h2⟩ := hh
    rw [signP_yes h1 h2]
    obtain ⟨n, rfl, n1, n2⟩ := secB_nat h1
    have ht : (bodyD c).size ≤ 20000 := by have := bodyD_le (paper_fits h2); omega
    have hp := sign_passes (t := bodyD c) n1 n2 ht
    rw [signV_nat ht h1] at hv
    simp [sigV] at hv
    obtain ⟨rfl, rfl, rfl⟩ := hv
    have hb : bodyD ⟨c.serial, c.issuer, c.subject, c.fr, c.till, c.key, c.names, c.ca, ((pm 4 n 2147483579 : Nat) : Int), ((signE n (bodyD c) : Nat) : Int), ((signS n (bodyD c) : Nat) : Int)⟩ = bodyD c := rfl
    have hpp : paperB ⟨c.serial, c.issuer, c.subject, c.fr, c.till, c.key, c.names, c.ca, ((pm 4 n 2147483579 : Nat) : Int), ((signE n (bodyD c) : Nat) : Int), ((signS n (bodyD c) : Nat) : Int)⟩ = paperB c := rfl
    have hcb : certB ⟨c.serial, c.issuer, c.subject, c.fr, c.till, c.key, c.names, c.ca, ((pm 4 n 2147483579 : Nat) : Int), ((signE n (bodyD c) : Nat) : Int), ((signS n (bodyD c) : Nat) : Int)⟩ = true := by
      unfold certB
      rw [hpp, h2]
      simpa using hp.1
    refine ⟨hcb, ?_, ?_⟩
    · unfold goodB
      rw [hcb, hb, pubA_nat n h1]
      simp only [decide_true, Bool.true_and]
      exact hp.2
    · unfold certBodyD
      rw [hpp, hb]
  · left
    have e : signP x c k e s = zeroP := if_neg hh
    rw [e]
    rfl
end Go.Proofs.YtkhdjmjbdpmdnaaGreatDoor
namespace Go.Proofs.YtkhdjmjbdpmdnaaGreatDoor
open Go.RowKit

theorem implKind (w : World) :
    Calls Tryz.prog 51 #[] w fun e w' => e = .returned (.string kindD) ∧ Below w.heap.size w w' := by
  have z := arcs_lit arcsKind
  have H1 : Hid (∀ V (g : Nat), V.heap[g]? = some (.cells #[.int .i64 1, .int .i64 3, .int .i64 101, .int .i64 112] 2 (0, 0)) → Calls Tryz.prog 121 #[.slice (some ⟨g, 0, none⟩) 4 4] V fun e w' => e = .returned (.string (oidT [1, 3, 101, 112])) ∧ Below V.heap.size V w') := fun V g hg => implOid4 1 3 101 112 g V arcsKind hg
  have H2 : Hid (∀ V (g : Nat), V.heap[g]? = some (.cells #[.string (oidT [1, 3, 101, 112])] 9 (0, 0)) → Calls Tryz.prog 50 #[.slice (some ⟨g, 0, none⟩) 1 1] V fun e w' => e = .returned (.string kindD) ∧ Below V.heap.size V w') := fun V g hg => implSeq1 _ g V (by omega) hg
  clear z
  generalize oidT [1, 3, 101, 112] = q at *
  generalize kindD = k at *
  go_enter Tryz.func51, Tryz.ntmps51
  go_wp2_with fail
  refine (H1.out _ _ (heap_alloc_new w _)).mono ?_
  rintro e w2 ⟨rfl, b2⟩
  have B2 : Hid (Below w.heap.size w w2) := ((Below.refl _ w).alloc (Nat.le_refl _) _).trans (b2.mono (by simp))
  clear b2
  go_wp2_with fail
  refine (H2.out _ _ (heap_alloc_new w2 _)).mono ?_
  rintro e w3 ⟨rfl, b3⟩
  have B3 : Hid (Below w.heap.size w w3) := (B2.out.alloc B2.out.size _).trans (b3.mono (by have := B2.out.size; simp; omega))
  clear b3
  go_wp2
  go_ret
  exact ⟨rfl, B3.out⟩
end Go.Proofs.YtkhdjmjbdpmdnaaGreatDoor
namespace Go.Proofs.YtkhdjmjbdpmdnaaGreatDoor
open Go.RowKit

theorem isLetter (n : Int) (w : World) : Calls Tryz.prog 163 #[.int .u8 n] w fun e w' => e = .returned (.bool (decide (97 ≤ n) && decide (n ≤ 122))) ∧ w' = w := by
  by_cases h1 : 97 ≤ n
  · by_cases h2 : n ≤ 122
    all_goals
      go_enter Tryz.func163, Tryz.ntmps163
      go_wp2
      go_ret
      exact ⟨by simp [h1, h2], rfl⟩
  · go_enter Tryz.func163, Tryz.ntmps163
    go_wp2
    go_ret
    exact ⟨by simp; omega, rfl⟩
theorem isDigit (n : Int) (w : World) : Calls Tryz.prog 164 #[.int .u8 n] w fun e w' => e = .returned (.bool (decide (48 ≤ n) && decide (n ≤ 57))) ∧ w' = w := by
  by_cases h1 : 48 ≤ n
  · by_cases h2 : n ≤ 57
    all_goals
      go_enter Tryz.func164, Tryz.ntmps164
      go_wp2
      go_ret
      exact ⟨by simp [h1, h2], rfl⟩
  · go_enter Tryz.func164, Tryz.ntmps164
    go_wp2
    go_ret
    exact ⟨by simp; omega, rfl⟩

set_option maxHeartbeats 1000000 in
theorem implName (s : ByteArray) (w : World) (hs : s.size ≤ maxLen) :
    Calls Tryz.prog 113 #[.string s] w fun e w' => AnsB (NameOk s) e ∧ w' = w := by
  unfold maxLen at hs
  by_cases h1 : s.size < 1
  · go_enter Tryz.func113, Tryz.ntmps113
    go_wp2
    go_ret
    exact ⟨AnsB.no (fun h => by have := h.1; omega) rfl, rfl⟩
  by_cases h2 : 40 < s.size
  · go_enter Tryz.func113, Tryz.ntmps113
    go_wp2
    go_ret
    exact ⟨AnsB.no (fun h => by have := h.2.1; omega) rfl, rfl⟩
  have hp : 0 < s.size := by omega
  by_cases h3 : OkAt s 0 hp
  rotate_left
  · rcases cls (s[0].toNat : Int) with ⟨c, e1, e2, e3, e4, e5⟩ | ⟨c, e1, e2, e3, e4, e5⟩ | ⟨c, e1, e2, e3, e4, e5⟩ | ⟨c, e1, e2, e3, e4, e5⟩ | ⟨c, e1, e2, e3, e4, e5⟩ | ⟨c, e1, e2, e3, e4, e5⟩ | ⟨c, e1, e2, e3, e4, e5⟩
    all_goals
      first
        | (exfalso; exact h3 (by unfold OkAt OkN; omega))
        | (go_enter Tryz.func113, Tryz.ntmps113
           go_wp2
           go_ret
           exact ⟨AnsB.no (name_no s 0 hp h3) rfl, rfl⟩)
  have hc : 97 ≤ (s[0].toNat : Int) ∧ (s[0].toNat : Int) ≤ 122 := by unfold OkAt OkN at h3; omega
  obtain ⟨c1, c2⟩ := hc
  have H3 : Hid (OkAt s 0 hp) := h3
  clear h3
  go_enter Tryz.func113, Tryz.ntmps113
  go_wp2
  go_loop [3] (fun i => ∃ k : Nat, 1 ≤ k ∧ k ≤ s.size ∧ i = .int .i64 k ∧ OkTo s k) (fun i => s.size - (intOf i).toNat)
  case atStart => exact ⟨1, by omega, by omega, rfl, okTo_succ s 0 hp (okTo_zero s) H3.out⟩
  case round =>
    obtain ⟨k, hk1, hk, rfl, hok⟩ := hrel
    have HO : Hid (OkTo s k) := hok
    clear hok
    by_cases hlt : k < s.size
    · rcases cls (s[k].toNat : Int) with ⟨c, e1, e2, e3, e4, e5⟩ | ⟨c, e1, e2, e3, e4, e5⟩ | ⟨c, e1, e2, e3, e4, e5⟩ | ⟨c, e1, e2, e3, e4, e5⟩ | ⟨c, e1, e2, e3, e4, e5⟩ | ⟨c, e1, e2, e3, e4, e5⟩ | ⟨c, e1, e2, e3, e4, e5⟩
      all_goals
        go_wp2
        first
          | (go_ret; exact ⟨AnsB.no (name_no s k hlt (by unfold OkAt OkN; omega)) rfl, rfl⟩)
          | exact ⟨⟨k + 1, by omega, by omega, by go_num, okTo_succ s k hlt HO.out (by unfold OkAt OkN; omega)⟩, by simp [intOf]; omega⟩
    · go_wp2
      go_ret
      have e : k = s.size := by omega
      have hf := HO.out
      rw [e] at hf
      exact ⟨AnsB.yes ⟨by omega, by omega, hf⟩ rfl, rfl⟩
end Go.Proofs.YtkhdjmjbdpmdnaaGreatDoor
