/- spec.l06Bits, walked. What the specification's readers read of what was laid. Plain mathematics: no program is named here. What the specification's readers read of a list that was laid. Plain mathematics: no program is named here. A row of texts of the call's own. Plain mathematics of SHA-256: no program is named here. A text taken in parts is the text taken as a whole: plain mathematics, no program is named here. The turning of a word, walked: spec.l02Turn, bits.RotateLeft32, impl.turnRight. One round, walked: (*hashState).turn. -/
import Derived.Test.YtekflbicjokdnaaGreatDoorCL05
import Derived.Test.YtekflbicjokdnaaGreatDoorCL10
import Derived.Deep.Cut
import Derived.Deep.RegionHeld3
import Derived.Test.YtekflbicjokdnaaGreatDoorCL08
import Derived.Test.YtekflbicjokdnaaGreatDoorCL03
import Derived.Test.YtekflbicjokdnaaGreatDoorCL01
import Derived.Laws.BitsAllLaws
import Derived.Handy
import Derived.Deep.QuietTactic
import Derived.BigQuiet
namespace Go.Proofs.YtekflbicjokdnaaGreatDoor
open Go.RowKit

set_option linter.unusedSimpArgs false in
set_option maxHeartbeats 1000000 in
set_option maxRecDepth 100000 in
theorem specBits (s : ByteArray) (n : Nat) (w : World) (hs : s.size ≤ 20000) (hn : n ≤ 3) :
    Calls Tryz.prog 46 #[.string s, .int .i64 (n : Int)] w fun e w' => ∃ v, e = .returned v ∧ OwnL w' w.heap.size v (bitsQ s n 1) ∧ Below w.heap.size w w' := by
  obtain ⟨i0, hi, hz0, hz1, hz2⟩ := info_parts infoLong
  have HGt : Hid (∀ V (p : Int), 0 ≤ p → p ≤ 20000 → Calls Tryz.prog 91 #[.string s, .int .i64 p] V fun e w' => e = .returned (numV (numAt s p)) ∧ Below V.heap.size V w') := fun V p h0 h1 => specGet_any s p V (by unfold maxLen; omega) (by omega) (by omega)
  have HAt : Hid (∀ p, 0 ≤ (numAt s p).at' ∧ (numAt s p).at' ≤ 20000) := fun p => by have := numAt_any s p; omega
  obtain ⟨R, hR⟩ : ∃ R, R = bitsQ s n 1 := ⟨_, rfl⟩
  rw [← hR]
  have HR : Hid (R = bitsQ s n 1) := hR
  clear hR hs
  go_enter Tryz.func46, Tryz.ntmps46
  go_wp2_with fail
  go_loopw [5, 6, 7] (fun v a i wr => ∃ (k : Nat) (p : Int) (pre : List Int), k ≤ n ∧ i = .int .i64 (k : Int) ∧ a = .int .i64 p ∧ 0 ≤ p ∧ p ≤ 20000 ∧ pre.length = k ∧ R = pre ++ bitsQ s (n - k) p ∧ OwnL wr w.heap.size v pre ∧ Below w.heap.size w wr) (fun _ _ i _ => n - (intOf i).toNat)
  case atStart =>
    refine ⟨0, 1, [], Nat.zero_le _, rfl, rfl, by omega, by omega, rfl, HR.out, ?_, (Below.refl _ _).alloc (Nat.le_refl _) _⟩
    refine ⟨rfl, .inr ⟨w.heap.size, 0, #[], rfl, Nat.le_refl _, heap_alloc_new w _, ?_⟩⟩
    simp [lCells]
  case round =>
    obtain ⟨k, p, pre, hk, rfl, rfl, hp0, hp1, hpl, hat, hown, hbr⟩ := hrel
    have HB : Hid (Below w.heap.size w wr) := hbr
    obtain ⟨xa, xc, rfl, hvc⟩ := OwnL.form hown
    have HO : Hid (OwnL wr w.heap.size (.slice xa pre.length xc) pre) := hown
    have HPl : Hid (pre.length = k) := hpl
    rw [hpl] at HO hvc ⊢
    clear hown hbr
    by_cases hlt : k < n
    · have HX : Hid (R = pre ++ ((numAt s p).n :: bitsQ s (n - (k + 1)) (numAt s p).at')) := by
        show _ = _
        rw [hat, show n - k = (n - (k + 1)) + 1 by omega, bitsQ]
      have HG := HGt.out wr p hp0 hp1
      have hA := HAt.out p
      unfold numV at HG
      generalize (numAt s p).n = z at *
      generalize (numAt s p).at' = za at *
      generalize (numAt s p).code = zc at *
      have HG' : Hid _ := HG
      clear HG hat HGt HAt
      go_wp2_with fail
      refine Calls.mono HG'.out ?_
      rintro e w4 ⟨rfl, b4⟩
      obtain ⟨w5, hw5⟩ : ∃ y, y = w4.alloc (.cells #[.int .i64 z, .int .i64 za, .int .i64 zc] 113 (0, 0)) := ⟨_, rfl⟩
      have b5 : Below wr.heap.size wr w5 := by rw [hw5]; exact b4.alloc b4.size _
      have g5 : w5.heap[w4.heap.size]? = some (.cells [Value.int .i64 z, .int .i64 za, .int .i64 zc].toArray 113 (0, 0)) := by rw [hw5]; exact heap_alloc_new w4 _
      have B5 : Hid (Below w.heap.size w w5) := HB.out.trans (b5.mono HB.out.size)
      have hO : w5.ownsRow w.heap.size 2 1 (.slice xa k xc) k (lCells pre) := by
        have h2 := HO.out.keep b5
        unfold OwnL at h2
        rw [HPl.out] at h2
        exact h2
      have hz5 : w.heap.size ≤ w5.heap.size := B5.out.size
      have G5 : Hid _ := g5
      have Z4 : Hid (wr.heap.size ≤ w4.heap.size) := b4.size
      have y0 := rowFacts g5 0 _ rfl
      clear b4 b5 g5 HG'
      go_upto_region 7 with fail
      rw [← hw5]
      clear hw5
      go_wp2_with (at_builtin; refine wpList_append_own _ rfl _ _ 40 rfl w.heap.size 2 i0 (.int .i64 0) 1 8 Tryz.underlying40 hi hz0 hz1 hz2 rfl (by decide) _ _ _ rfl (hO.alloc _) ⟨w5.heap.size, 0, none⟩ 1 1 [.int .i64 z] rfl rfl ?c1 ?c2 ?c3 ?c4 ?c5 ?_)
      case c1 => exact cells_one (by simp)
      case c2 => intro u hu; simp at hu; subst hu; rfl
      case c3 => unfold maxLen; omega
      case c4 => omega
      case c5 => simp; omega
      intro v' w6 hown' hgrow _
      have hB6 : Below w.heap.size w w6 := (B5.out.alloc B5.out.size _).grown hgrow (by simp; omega) (fun k hk => (hO.lt k hk).1)
      have hl5 := heap_lt G5.out
      have g6 : w6.heap[w4.heap.size]? = some (.cells [Value.int .i64 z, .int .i64 za, .int .i64 zc].toArray 113 (0, 0)) := by
        rw [hgrow.block _ (by simp; omega) (fun e => by
          have h1 := HO.out
          rw [← HPl.out] at h1 e
          have h2 := (h1.ge e.symm).2
          have h3 := Z4.out
          omega), Below.heap_alloc _ _ _ hl5]
        exact G5.out
      have y1 := rowFacts g6 1 _ rfl
      have HO6 : Hid (OwnL w6 w.heap.size v' (pre ++ [z])) := by
        show World.ownsRow _ _ _ _ _ _ _
        rw [List.length_append, HPl.out, lCells, List.map_append]
        exact hown'
      have HB6 : Hid (Below w.heap.size w w6) := hB6
      clear hown' hgrow hB6 hO g6 y0 hl5
      go_wp2_with fail
      go_roundw
      case rel => exact ⟨k + 1, za, pre ++ [z], by omega, by go_num, rfl, hA.1, hA.2, by rw [List.length_append, HPl.out]; rfl, by rw [HX.out, List.append_assoc]; rfl, HO6.out, HB6.out⟩
      case measure => simp [intOf]; omega
    · obtain rfl : k = n := by omega
      have HF : Hid (R = pre) := by show _ = _; rw [hat, Nat.sub_self]; simp [bitsQ]
      clear hat
      go_wp2
      go_ret
      exact ⟨_, rfl, by rw [HF.out]; exact HO.out, HB.out⟩
end Go.Proofs.YtekflbicjokdnaaGreatDoor
namespace Go.Proofs.YtekflbicjokdnaaGreatDoor
open Go.RowKit

theorem asI_cons (t : Nat) (b : ByteArray) (r : List (Nat × ByteArray)) : asI ((t, b) :: r) = ((t : Int), b) :: asI r := rfl
theorem openR_cat {l : List (Nat × ByteArray)} (h : ThingsOk l) : openR (catT l) = (asI l, false) := by
  unfold openR
  rw [allD_cat h.1 h.2.1 h.2.2]
  rfl
theorem takeR_cons (t : Int) (b : ByteArray) (r : List (Int × ByteArray)) : takeR ((t, b) :: r) false t = (b, r, false) := by
  simp [takeR]
theorem inR_cons (t : Int) {l : List (Nat × ByteArray)} (h : ThingsOk l) (r : List (Int × ByteArray)) : inR ((t, catT l) :: r) false t = ((asI l, false), r, false) := by
  unfold inR
  rw [takeR_cons, openR_cat h]
  rfl
theorem intQ_back {n : Int} (h0 : -9223372036854775808 ≤ n) (h1 : n ≤ 9223372036854775807) : intQ (strOfNums (intL n)) = (n, true) := by
  have h := int_back h0 h1
  have hl := intL_len n
  have hs : (strOfNums (intL n)).size = (intL n).length := strOfNums_size _
  unfold intQ
  rw [if_neg (by omega)]
  unfold intR at h
  rw [if_neg (by omega), if_neg (by omega)] at h
  split at h
  · rename_i he
    rw [Prod.mk.injEq] at h
    rw [h.1] at he ⊢
    rw [decide_eq_true he]
  · simp at h
theorem numR_cons {n : Int} (h0 : -9223372036854775808 ≤ n) (h1 : n ≤ 9223372036854775807) (r : List (Int × ByteArray)) : numR ((2, strOfNums (intL n)) :: r) false = (n, r, false) := by
  unfold numR
  rw [takeR_cons, intQ_back h0 h1]
  rfl
/-- The names that are taken one by one. -/
def hostsR : List (Int × ByteArray) → Bool → List ByteArray
  | [], _ => []
  | p :: r, bad => if bad = true then [] else if p.1 = 130 then p.2 :: hostsR r false else [⟨#[]⟩]
theorem hostsR_bad (l : List (Int × ByteArray)) : hostsR l true = [] := by cases l <;> simp [hostsR]
theorem hostsR_nil (b : Bool) : hostsR [] b = [] := rfl
theorem hostsR_step (p : Int × ByteArray) (r : List (Int × ByteArray)) : hostsR (p :: r) false = (takeR (p :: r) false 130).1 :: hostsR (takeR (p :: r) false 130).2.1 (takeR (p :: r) false 130).2.2 := by
  by_cases h : p.1 = 130
  · simp [hostsR, takeR, h]
  · simp [hostsR, takeR, h]
theorem hostsR_cat (ss : List ByteArray) : hostsR (asI (ss.map fun n => (130, n))) false = ss := by
  induction ss with
  | nil => rfl
  | cons n r ih =>
    rw [List.map_cons, asI_cons, hostsR, if_neg (by simp), if_pos (by rfl), ih]
theorem hostsR_len : ∀ (l : List (Int × ByteArray)) (b : Bool), (hostsR l b).length ≤ l.length
  | [], _ => Nat.le_refl _
  | p :: r, b => by
    rw [hostsR]
    split
    · exact Nat.zero_le _
    · split
      · have := hostsR_len r false
        simp only [List.length_cons]
        omega
      · simp
theorem hostsR_each {m : Nat} : ∀ (l : List (Int × ByteArray)) (b : Bool), (∀ q ∈ l, q.2.size ≤ m) → ∀ q ∈ hostsR l b, q.size ≤ m
  | [], _, _ => by simp [hostsR]
  | p :: r, b, h => by
    intro q hq
    rw [hostsR] at hq
    split at hq
    · simp at hq
    · split at hq
      · rcases List.mem_cons.1 hq with rfl | hq
        · exact h p (List.mem_cons_self ..)
        · exact hostsR_each r false (fun q hq => h q (List.mem_cons_of_mem _ hq)) q hq
      · obtain rfl := List.mem_singleton.1 hq
        exact Nat.zero_le _
/-- What the specification reads of what is asked for. -/
noncomputable def askS (s : ByteArray) : Ask :=
  let r := (inR (openR s).1 (openR s).2 48).1
  let b := inR r.1 r.2 48
  let v := (numR b.1.1 b.1.2).2
  let t := takeR v.1 v.2 3
  let k := (bitsQ t.1 1 1).getD 0 0
  let h := (inR t.2.1 t.2.2 48).1
  let n := bitsQ (takeR b.2.1 b.2.2 3).1 2 1
  ⟨k, hostsR h.1 h.2, k, n.getD 0 0, n.getD 1 0⟩
theorem askS_back {c : Ask} (h : formB c = true) : askS (askY c) = c := by
  have hb := formB_ask h
  obtain ⟨h1, h2, h3, h4⟩ := ask_fits hb
  obtain ⟨_, _, _, _, _, _, _, n1, n2, _⟩ := ask_back h
  have o2 := (askL2_ok hb).1
  have o1 := (askL_ok hb).1
  have o0 := seq_ok (b := catT (askL2 c)) (by have := (askL2_ok hb).2; omega)
  obtain ⟨e, oh⟩ := hosts_ok h2 h4
  have x0 : openR (askY c) = (((48 : Int), catT (askL2 c)) :: [], false) := by rw [askY_cat, openR_cat o0]; rfl
  have x1 : asI (askL2 c) = ((48 : Int), catT (askL c)) :: ((3 : Int), askT c.se c.ss) :: [] := rfl
  have x2 : asI (askL c) = ((2 : Int), strOfNums (intL 0)) :: ((3 : Int), ⟨#[0]⟩ ++ rowN [c.key]) :: ((48 : Int), hostsD c.names c.names.length) :: [] := rfl
  unfold askS
  simp only [x0, inR_cons _ o2, x1, inR_cons _ o1, x2, numR_cons (n := 0) (by omega) (by omega), takeR_cons, n1, n2]
  rw [e]
  simp only [inR_cons _ oh, hostsR_cat, List.getD_cons_zero, List.getD_cons_succ]
  have hk := form_key h
  cases c
  simp only at hk ⊢
  rw [hk]
end Go.Proofs.YtekflbicjokdnaaGreatDoor
namespace Go.Proofs.YtekflbicjokdnaaGreatDoor
open Go.RowKit

theorem nameR_cons {t : ByteArray} (h : t.size ≤ 40) (r : List (Int × ByteArray)) : nameR ((48, catT (nameL t)) :: r) false = (t, r, false) := by
  obtain ⟨o0, o1, o2, _⟩ := name_ok h
  unfold nameR
  have x2 : asI (nameL t) = ((49 : Int), catT (nameL1 t)) :: [] := rfl
  have x1 : asI (nameL1 t) = ((48 : Int), catT (nameL0 t)) :: [] := rfl
  have x0 : asI (nameL0 t) = ((6 : Int), strOfNums (oidL [2, 5, 4, 3])) :: ((12 : Int), t) :: [] := rfl
  simp only [inR_cons _ o2, x2, inR_cons _ o1, x1, inR_cons _ o0, x0, takeR_cons, Bool.or_false]
/-- The numbers that are taken one by one. -/
noncomputable def numsL : List (Int × ByteArray) → Bool → List Int
  | [], _ => []
  | p :: r, bad => if bad = true then [] else if p.1 = 2 then (intQ p.2).1 :: numsL r (!(intQ p.2).2) else [0]
theorem numsL_bad (l : List (Int × ByteArray)) : numsL l true = [] := by cases l <;> simp [numsL]
theorem numsL_nil (b : Bool) : numsL [] b = [] := rfl
theorem intQ_none : intQ ⟨#[]⟩ = (0, false) := by
  unfold intQ
  exact if_pos (Or.inl rfl)
theorem numsL_step (p : Int × ByteArray) (r : List (Int × ByteArray)) : numsL (p :: r) false = (numR (p :: r) false).1 :: numsL (numR (p :: r) false).2.1 (numR (p :: r) false).2.2 := by
  by_cases h : p.1 = 2
  · simp [numsL, numR, takeR, h]
  · simp [numsL, numR, takeR, h, intQ_none, numsL_bad]
theorem numR_less (p : Int × ByteArray) (r : List (Int × ByteArray)) : (numR (p :: r) false).2.1.length + (if (numR (p :: r) false).2.2 then 0 else 1) < (p :: r).length + 1 := by
  by_cases h : p.1 = 2
  · simp only [numR, takeR, h, if_true, List.length_cons, Bool.false_eq_true, if_false, Bool.false_or]
    split <;> omega
  · simp [numR, takeR, h]
theorem numsL_cat (zs : List Int) (h : ∀ n ∈ zs, -9223372036854775808 ≤ n ∧ n ≤ 9223372036854775807) : numsL (asI (serL zs)) false = zs := by
  induction zs with
  | nil => rfl
  | cons n r ih =>
    obtain ⟨h0, h1⟩ := h n (List.mem_cons_self ..)
    have ih' := ih fun m hm => h m (List.mem_cons_of_mem _ hm)
    have e : asI (serL (n :: r)) = ((2 : Int), strOfNums (intL n)) :: asI (serL r) := rfl
    rw [e, numsL, if_neg (by simp), if_pos rfl, intQ_back h0 h1]
    simp only [Bool.not_true]
    rw [ih']
theorem numsL_len : ∀ (l : List (Int × ByteArray)) (b : Bool), (numsL l b).length ≤ l.length
  | [], _ => Nat.le_refl _
  | p :: r, b => by
    rw [numsL]
    split
    · exact Nat.zero_le _
    · split
      · have := numsL_len r (!(intQ p.2).2)
        simp only [List.length_cons]
        omega
      · simp
/-- What the specification reads of a list. -/
noncomputable def listS (s : ByteArray) : Lst :=
  let r := (inR (openR s).1 (openR s).2 48).1
  let b := inR r.1 r.2 48
  let nm := nameR b.1.1 b.1.2
  let x := numR nm.2.1 nm.2.2
  let y := numR x.2.1 x.2.2
  let h := (inR y.2.1 y.2.2 48).1
  let n := bitsQ (takeR b.2.1 b.2.2 3).1 3 1
  ⟨nm.1, x.1, y.1, numsL h.1 h.2, n.getD 0 0, n.getD 1 0, n.getD 2 0⟩
theorem listS_back {c : Lst} (h : crlB c = true) : listS (listY c) = c := by
  have hf := list_fits (crlB_list h)
  obtain ⟨o1, o2, o3⟩ := list_ok hf
  obtain ⟨_, _, _, _, _, _, _, _, n2⟩ := list_back h
  obtain ⟨e, oh⟩ := ser_ok hf.len
  have f0 := hf.fr0
  have f1 := hf.fr1
  have t0 := hf.till0
  have t1 := hf.till1
  have x0 : openR (listY c) = (((48 : Int), catT (listL2 c)) :: [], false) := by rw [listY_cat, openR_cat o3]; rfl
  have x1 : asI (listL2 c) = ((48 : Int), catT (listL c)) :: ((3 : Int), sigT c.sk c.se c.ss) :: [] := rfl
  have x2 : asI (listL c) = ((48 : Int), catT (nameL c.issuer)) :: ((2 : Int), strOfNums (intL c.fr)) :: ((2 : Int), strOfNums (intL c.till)) :: ((48 : Int), serD c.serials c.serials.length) :: [] := rfl
  unfold listS
  simp only [x0, inR_cons _ o2, x1, inR_cons _ o1, x2, nameR_cons hf.iss, numR_cons (n := c.fr) (by omega) (by omega), numR_cons (n := c.till) (by omega) (by omega), takeR_cons, n2]
  rw [e]
  simp only [inR_cons _ oh, numsL_cat _ (ser_nums hf.each), List.getD_cons_zero, List.getD_cons_succ]
end Go.Proofs.YtekflbicjokdnaaGreatDoor
namespace Go.Proofs.YtekflbicjokdnaaGreatDoor
open Go.RowKit

def OwnS (w : World) (B : Nat) (v : Value) (l : List ByteArray) : Prop := w.ownsRow B 9 1 v l.length (sCells l)
theorem OwnS.keep {w w' : World} {B : Nat} {v : Value} {l : List ByteArray} (h : OwnS w B v l) (hb : Below w.heap.size w w') : OwnS w' B v l := by
  refine ⟨h.1, ?_⟩
  rcases h.2 with h | ⟨g, cap, cur, e, h1, h2, h3⟩
  · exact .inl h
  · exact .inr ⟨g, cap, cur, e, h1, by rw [hb.block g (heap_lt h2)]; exact h2, h3⟩
theorem OwnS.mono {w : World} {B B' : Nat} {v : Value} {l : List ByteArray} (h : OwnS w B v l) (hB : B' ≤ B) : OwnS w B' v l := by
  refine ⟨h.1, ?_⟩
  rcases h.2 with h | ⟨g, cap, cur, e, h1, h3⟩
  · exact .inl h
  · exact .inr ⟨g, cap, cur, e, Nat.le_trans hB h1, h3⟩
theorem OwnS.form {w : World} {B : Nat} {v : Value} {l : List ByteArray} (h : OwnS w B v l) : ∃ a c, v = .slice a l.length c ∧ l.length ≤ c := by
  rcases h.2 with ⟨h, h'⟩ | ⟨g, cap, _, e, _, _, hc, _⟩
  · exact ⟨none, 0, by rw [h']; exact h, by omega⟩
  · exact ⟨_, _, e, hc⟩
theorem ownS_nil (w : World) (B : Nat) : OwnS w B (.slice none 0 0) [] := ⟨rfl, .inl ⟨rfl, rfl⟩⟩
theorem OwnS.strs {w : World} {B : Nat} {a : Option Addr} {n c : Nat} {l : List ByteArray} (h : OwnS w B (.slice a n c) l) : IsStrs w a l := by
  rcases h.2 with ⟨_, h'⟩ | ⟨g, cap, cur, e, _, hg, _, _, _, ht⟩
  · exact .inl (List.eq_nil_of_length_eq_zero h')
  · simp only [Value.slice.injEq] at e
    obtain ⟨rfl, _, _⟩ := e
    refine .inr ⟨g, 0, rfl, fun i hi => ?_⟩
    have k0 := sCells_at hi
    rw [← ht, List.getElem?_take, if_pos (by omega)] at k0
    rw [Nat.zero_add, cell_of_row w g _ _ _ (0, 0) hg]
    simpa using k0
theorem OwnS.ge {w : World} {B g : Nat} {v : Value} {l : List ByteArray} (h : OwnS w B v l) (e : v.ownBlock = some g) : B ≤ g ∧ g < w.heap.size :=
  (show World.ownsRow w B 9 1 v l.length (sCells l) from h).lt g e
/-- It stands where its blocks are as they were. -/
theorem OwnS.same {w w' : World} {B : Nat} {v : Value} {l : List ByteArray} (h : OwnS w B v l) (hs : ∀ k, B ≤ k → k < w.heap.size → w'.heap[k]? = w.heap[k]?) : OwnS w' B v l := by
  refine ⟨h.1, ?_⟩
  rcases h.2 with h | ⟨g, cap, cur, e, h1, h2, h3⟩
  · exact .inl h
  · exact .inr ⟨g, cap, cur, e, h1, by rw [hs g h1 (heap_lt h2)]; exact h2, h3⟩
theorem take_snoc (l : List ByteArray) {k : Nat} (h : k < l.length) : l.take (k + 1) = l.take k ++ [tAt l k] := by
  rw [List.take_succ_eq_append_getElem h, tAt, List.getD, List.getElem?_eq_getElem h]; rfl
/-- It stands where all blocks but one that is not its own are as they were. -/
theorem OwnS.off {w w' : World} {B q : Nat} {v : Value} {l : List ByteArray} (h : OwnS w B v l) (hq : v.ownBlock ≠ some q) (hs : ∀ k, k ≠ q → w'.heap[k]? = w.heap[k]?) : OwnS w' B v l := by
  refine ⟨h.1, ?_⟩
  rcases h.2 with h | ⟨g, cap, cur, e, h1, h2, h3⟩
  · exact .inl h
  · exact .inr ⟨g, cap, cur, e, h1, by rw [hs g (fun e' => hq (by rw [e, ← e']; rfl))]; exact h2, h3⟩
theorem oneCell_texts (l : List ByteArray) : ∀ u ∈ sCells l, u.oneCell' = true := by
  intro u hu
  simp only [sCells, List.mem_map] at hu
  obtain ⟨s, _, rfl⟩ := hu
  rfl
end Go.Proofs.YtekflbicjokdnaaGreatDoor
namespace Go.Proofs.YtekflbicjokdnaaGreatDoor
open Go.RowKit

abbrev U := BitVec 32
/-- A word as the program holds it. -/
def uI (x : U) : Int := (x.toNat : Int)
theorem uI_nonneg (x : U) : 0 ≤ uI x := Int.natCast_nonneg _
theorem uI_lt (x : U) : uI x < 4294967296 := by unfold uI; have := x.isLt; omega
theorem uI_le (x : U) : uI x ≤ 4294967295 := by have := uI_lt x; omega
theorem uI_inj {x y : U} (h : uI x = uI y) : x = y := by
  unfold uI at h
  exact BitVec.eq_of_toNat_eq (by omega)
theorem uI_xor (x y : U) : bits .xor .u32 (uI x) (uI y) = uI (x ^^^ y) := by
  unfold uI; rw [u32_xor_nat _ _ x.isLt y.isLt, BitVec.toNat_xor]
theorem uI_or (x y : U) : bits .or .u32 (uI x) (uI y) = uI (x ||| y) := by
  unfold uI; rw [u32_or_nat _ _ x.isLt y.isLt, BitVec.toNat_or]
theorem uI_and (x y : U) : bits .and .u32 (uI x) (uI y) = uI (x &&& y) := by
  unfold uI; rw [u32_and_nat _ _ x.isLt y.isLt, BitVec.toNat_and]
theorem uI_not (x : U) : bits .xor .u32 4294967295 (uI x) = uI (~~~ x) := by
  have h := uI_xor (BitVec.allOnes 32) x
  have e : uI (BitVec.allOnes 32) = 4294967295 := by decide
  rw [e] at h
  rw [h, BitVec.xor_comm, BitVec.xor_allOnes]
theorem uI_not' (x : U) : bits .xor .u32 (if IntKind.u32.signed = true then -1 else IntKind.u32.max) (uI x) = uI (~~~ x) := uI_not x
theorem uI_add (x y : U) : IntKind.u32.wrap (uI x + uI y) = uI (x + y) := by
  unfold uI
  rw [IntKind.wrap_u32, BitVec.toNat_add]
  omega
theorem uI_shr (x : U) (k : Nat) : uI x / 2 ^ k = uI (x >>> k) := by
  unfold uI
  rw [BitVec.toNat_ushiftRight, Nat.shiftRight_eq_div_pow]
  simp
theorem uI_shl (x : U) (k : Nat) : IntKind.u32.wrap (uI x * 2 ^ k) = uI (x <<< k) := by
  unfold uI
  rw [IntKind.wrap_u32, BitVec.toNat_shiftLeft, Nat.shiftLeft_eq]
  have : ((x.toNat : Int) * 2 ^ k) = ((x.toNat * 2 ^ k : Nat) : Int) := by simp
  rw [this]
  omega
theorem uI_add' (x y : U) : (uI x + uI y) % 4294967296 = uI (x + y) := by rw [← uI_add, IntKind.wrap_u32]
theorem uI_shl' (x : U) (k : Nat) : uI x * 2 ^ k % 4294967296 = uI (x <<< k) := by rw [← uI_shl, IntKind.wrap_u32]
/-- A byte as a word. -/
def bU (c : UInt8) : U := BitVec.ofNat 32 c.toNat
theorem uI_bU (c : UInt8) : uI (bU c) = (c.toNat : Int) := by
  unfold uI bU
  have := c.toNat_lt
  rw [BitVec.toNat_ofNat]
  omega
theorem bU_uI (c : UInt8) : (c.toNat : Int) = uI (bU c) := (uI_bU c).symm
theorem uI_wrap (x : U) : IntKind.u32.wrap (uI x) = uI x := by
  rw [IntKind.wrap_u32]; exact Int.emod_eq_of_lt (uI_nonneg x) (uI_lt x)
theorem uI_mod (x : U) : uI x % 4294967296 = uI x := Int.emod_eq_of_lt (uI_nonneg x) (uI_lt x)
theorem uI_shl24 (x : U) : uI x * (16777216 : Int) % (4294967296 : Int) = uI (x <<< (24 : Nat)) := uI_shl' x 24
theorem uI_shl16 (x : U) : uI x * (65536 : Int) % (4294967296 : Int) = uI (x <<< (16 : Nat)) := uI_shl' x 16
theorem uI_shl8 (x : U) : uI x * (256 : Int) % (4294967296 : Int) = uI (x <<< (8 : Nat)) := uI_shl' x 8
theorem uI_shr3 (x : U) : uI x / (8 : Int) = uI (x >>> (3 : Nat)) := uI_shr x 3
theorem uI_shr10 (x : U) : uI x / (1024 : Int) = uI (x >>> (10 : Nat)) := uI_shr x 10
def rotr (x : U) (k : Nat) : U := x >>> k ||| x <<< (32 - k)
def sg0 (x : U) : U := rotr x 7 ^^^ rotr x 18 ^^^ x >>> 3
def sg1 (x : U) : U := rotr x 17 ^^^ rotr x 19 ^^^ x >>> 10
def bS0 (x : U) : U := rotr x 2 ^^^ rotr x 13 ^^^ rotr x 22
def bS1 (x : U) : U := rotr x 6 ^^^ rotr x 11 ^^^ rotr x 25
def chF (e f g : U) : U := e &&& f ^^^ ~~~ e &&& g
def majF (a b c : U) : U := a &&& b ^^^ a &&& c ^^^ b &&& c
/-- The words of a block, the first 16 being M's. -/
def wAt (M : Nat → U) (i : Nat) : U :=
  if _h : i < 16 then M i else wAt M (i - 16) + sg0 (wAt M (i - 15)) + wAt M (i - 7) + sg1 (wAt M (i - 2))
termination_by i
theorem wAt_low (M : Nat → U) {i : Nat} (h : i < 16) : wAt M i = M i := by rw [wAt]; simp [h]
theorem wAt_high (M : Nat → U) {i : Nat} (h : 16 ≤ i) : wAt M i = wAt M (i - 16) + sg0 (wAt M (i - 15)) + wAt M (i - 7) + sg1 (wAt M (i - 2)) := by
  rw [wAt]; simp [show ¬ i < 16 by omega]
structure St where
  (a b c d e f g h : U)
def St.row (s : St) : List U := [s.a, s.b, s.c, s.d, s.e, s.f, s.g, s.h]
def rnd (s : St) (kw : U) : St :=
  ⟨s.h + bS1 s.e + chF s.e s.f s.g + kw + (bS0 s.a + majF s.a s.b s.c), s.a, s.b, s.c, s.d + (s.h + bS1 s.e + chF s.e s.f s.g + kw), s.e, s.f, s.g⟩
def keyL : List Nat := [0x428a2f98, 0x71374491, 0xb5c0fbcf, 0xe9b5dba5, 0x3956c25b, 0x59f111f1, 0x923f82a4, 0xab1c5ed5,
    0xd807aa98, 0x12835b01, 0x243185be, 0x550c7dc3, 0x72be5d74, 0x80deb1fe, 0x9bdc06a7, 0xc19bf174,
    0xe49b69c1, 0xefbe4786, 0x0fc19dc6, 0x240ca1cc, 0x2de92c6f, 0x4a7484aa, 0x5cb0a9dc, 0x76f988da,
    0x983e5152, 0xa831c66d, 0xb00327c8, 0xbf597fc7, 0xc6e00bf3, 0xd5a79147, 0x06ca6351, 0x14292967,
    0x27b70a85, 0x2e1b2138, 0x4d2c6dfc, 0x53380d13, 0x650a7354, 0x766a0abb, 0x81c2c92e, 0x92722c85,
    0xa2bfe8a1, 0xa81a664b, 0xc24b8b70, 0xc76c51a3, 0xd192e819, 0xd6990624, 0xf40e3585, 0x106aa070,
    0x19a4c116, 0x1e376c08, 0x2748774c, 0x34b0bcb5, 0x391c0cb3, 0x4ed8aa4a, 0x5b9cca4f, 0x682e6ff3,
    0x748f82ee, 0x78a5636f, 0x84c87814, 0x8cc70208, 0x90befffa, 0xa4506ceb, 0xbef9a3f7, 0xc67178f2]
def kAt (i : Nat) : U := BitVec.ofNat 32 (keyL.getD i 0)
def rnds (s : St) (M : Nat → U) : Nat → St
  | 0 => s
  | n + 1 => rnd (rnds s M n) (kAt n + wAt M n)
def St.add (s t : St) : St := ⟨s.a + t.a, s.b + t.b, s.c + t.c, s.d + t.d, s.e + t.e, s.f + t.f, s.g + t.g, s.h + t.h⟩
/-- A block, taken into a state. -/
def blk (s : St) (M : Nat → U) : St := s.add (rnds s M 64)
/-- The byte of a text at a place. -/
def byteAt (t : ByteArray) (i : Nat) : UInt8 := t.data.toList.getD i 0
theorem byteAt_get (t : ByteArray) (i : Nat) (h : i < t.size) : byteAt t i = t[i] := by
  unfold byteAt
  rw [List.getD, List.getElem?_eq_getElem (by simpa using h)]
  rfl
/-- The 16 words of a text's block that begins at o. -/
def wordAt (t : ByteArray) (o i : Nat) : U :=
  bU (byteAt t (o + 4 * i)) <<< 24 ||| bU (byteAt t (o + 4 * i + 1)) <<< 16 ||| bU (byteAt t (o + 4 * i + 2)) <<< 8 ||| bU (byteAt t (o + 4 * i + 3))
/-- The first n blocks of a text, taken into a state. -/
def blks (s : St) (t : ByteArray) : Nat → St
  | 0 => s
  | n + 1 => blk (blks s t n) (wordAt t (64 * n))
def st0 : St := ⟨0x6a09e667, 0xbb67ae85, 0x3c6ef372, 0xa54ff53a, 0x510e527f, 0x9b05688c, 0x1f83d9ab, 0x5be0cd19⟩
end Go.Proofs.YtekflbicjokdnaaGreatDoor
namespace Go.Proofs.YtekflbicjokdnaaGreatDoor
open Go.RowKit

theorem wAt_congr {M M' : Nat → U} (h : ∀ i, i < 16 → M i = M' i) (i : Nat) : wAt M i = wAt M' i := by
  induction i using Nat.strongRecOn with
  | _ i ih =>
    by_cases hi : i < 16
    · rw [wAt_low M hi, wAt_low M' hi, h i hi]
    · rw [wAt_high M (by omega), wAt_high M' (by omega), ih (i - 16) (by omega), ih (i - 15) (by omega), ih (i - 7) (by omega), ih (i - 2) (by omega)]
theorem rnds_congr {M M' : Nat → U} (h : ∀ i, i < 16 → M i = M' i) (s : St) (n : Nat) : rnds s M n = rnds s M' n := by
  induction n with
  | zero => rfl
  | succ n ih => rw [rnds, rnds, ih, wAt_congr h]
theorem blk_congr {M M' : Nat → U} (h : ∀ i, i < 16 → M i = M' i) (s : St) : blk s M = blk s M' := by
  unfold blk; rw [rnds_congr h]
theorem wordAt_congr {t t' : ByteArray} {o o' i : Nat} (h : ∀ j, j < 4 → byteAt t (o + 4 * i + j) = byteAt t' (o' + 4 * i + j)) : wordAt t o i = wordAt t' o' i := by
  have h0 := h 0 (by omega)
  have h1 := h 1 (by omega)
  have h2 := h 2 (by omega)
  have h3 := h 3 (by omega)
  unfold wordAt
  rw [Nat.add_zero, Nat.add_zero] at h0
  rw [h0, h1, h2, h3]
theorem blks_congr {t t' : ByteArray} (s : St) (n : Nat) (h : ∀ j, j < 64 * n → byteAt t j = byteAt t' j) : blks s t n = blks s t' n := by
  induction n with
  | zero => rfl
  | succ n ih =>
    rw [blks, blks, ih (fun j hj => h j (by omega))]
    exact blk_congr (fun i hi => wordAt_congr (fun j hj => h _ (by omega))) _
theorem blks_add {t t' : ByteArray} (s : St) (n k : Nat) (h : ∀ j, j < 64 * k → byteAt t' j = byteAt t (64 * n + j)) : blks s t (n + k) = blks (blks s t n) t' k := by
  induction k with
  | zero => rfl
  | succ k ih =>
    rw [← Nat.add_assoc, blks, blks, ih (fun j hj => h j (by omega))]
    refine blk_congr (fun i hi => wordAt_congr (fun j hj => ?_)) _
    rw [h _ (by omega)]
    congr 1
    omega
/-- The state behind all whole blocks of a text, and what is left of it. -/
def more (s : St) (t : ByteArray) : St := blks s t (t.size / 64)
def restOf (t : ByteArray) : ByteArray := t.extract (64 * (t.size / 64)) t.size
theorem size_restOf (t : ByteArray) : (restOf t).size = t.size % 64 := by
  unfold restOf
  rw [ByteArray.size_extract]
  omega
theorem size_append (a b : ByteArray) : (a ++ b).size = a.size + b.size := ByteArray.size_append
theorem list_append (a b : ByteArray) : (a ++ b).data.toList = a.data.toList ++ b.data.toList := by
  simp
theorem list_extract (a : ByteArray) (i j : Nat) : (a.extract i j).data.toList = (a.data.toList.take j).drop i := by
  simp [List.drop_take]
theorem byteAt_left (a b : ByteArray) {j : Nat} (h : j < a.size) : byteAt (a ++ b) j = byteAt a j := by
  unfold byteAt
  rw [list_append, List.getD, List.getD, List.getElem?_append_left (by simpa using h)]
theorem byteAt_right (a b : ByteArray) (j : Nat) : byteAt (a ++ b) (a.size + j) = byteAt b j := by
  unfold byteAt
  rw [list_append, List.getD, List.getD, List.getElem?_append_right (by simp)]
  simp
theorem byteAt_rest (a : ByteArray) (o j : Nat) : byteAt (a.extract o a.size) j = byteAt a (o + j) := by
  unfold byteAt
  rw [list_extract, List.take_of_length_le (by simp), List.getD, List.getD, List.getElem?_drop]
theorem byteAt_restB (t b : ByteArray) {o : Nat} (ho : o ≤ t.size) (j : Nat) : byteAt (t.extract o t.size ++ b) j = byteAt (t ++ b) (o + j) := by
  have hs : (t.extract o t.size).size = t.size - o := by rw [ByteArray.size_extract]; omega
  by_cases h : j < t.size - o
  · rw [byteAt_left _ _ (by omega), byteAt_rest, byteAt_left _ _ (by omega)]
  · have e1 := byteAt_right (t.extract o t.size) b (j - (t.size - o))
    have e2 := byteAt_right t b (j - (t.size - o))
    rw [hs, show t.size - o + (j - (t.size - o)) = j by omega] at e1
    rw [show t.size + (j - (t.size - o)) = o + j by omega] at e2
    rw [e1, e2]
theorem more_more (s : St) (t b : ByteArray) : more (more s t) (restOf t ++ b) = more s (t ++ b) := by
  have hs : (restOf t ++ b).size = t.size % 64 + b.size := by rw [size_append, size_restOf]
  have hf : (t ++ b).size / 64 = t.size / 64 + (t.size % 64 + b.size) / 64 := by rw [size_append]; omega
  unfold more
  rw [hs, hf, blks_add (t := t ++ b) (t' := restOf t ++ b) s _ _ (fun j _ => byteAt_restB t b (by omega) j)]
  rw [blks_congr (t := t) (t' := t ++ b) s _ (fun j hj => (byteAt_left t b (by omega)).symm)]
theorem rest_more (t b : ByteArray) : restOf (restOf t ++ b) = restOf (t ++ b) := by
  have hs : (restOf t ++ b).size = t.size % 64 + b.size := by rw [size_append, size_restOf]
  have e : ((restOf (restOf t ++ b)).data.toList) = (restOf (t ++ b)).data.toList := by
    unfold restOf at *
    rw [hs, list_extract, list_append, list_extract, list_extract, list_append, size_append]
    have l1 : t.data.toList.length = t.size := by simp
    have l2 : b.data.toList.length = b.size := by simp
    generalize t.data.toList = T at *
    generalize b.data.toList = B at *
    rw [List.take_of_length_le (l := T) (by omega), List.take_of_length_le (l := T ++ B) (by simp; omega), List.take_of_length_le (l := List.drop _ T ++ B) (by simp; omega)]
    rw [show List.drop (64 * (t.size / 64)) T ++ B = List.drop (64 * (t.size / 64)) (T ++ B) from by
      rw [List.drop_append_of_le_length (by omega)]]
    rw [List.drop_drop]
    congr 1
    omega
  exact ByteArray.ext (Array.ext' e)
theorem more_nil (s : St) {r : ByteArray} (h : r.size < 64) : more s r = s ∧ restOf r = r := by
  unfold more restOf
  rw [show r.size / 64 = 0 by omega]
  exact ⟨rfl, by simp [ByteArray.extract_zero_size]⟩
/-- What fills a text of n bytes up to the end of a block. -/
def zerosOf (n : Nat) : Nat := 63 - (n + 8) % 64
def beF (x : Nat) (k : Nat) : List Int := (List.range k).map fun j => ((x / 256 ^ (k - 1 - j) % 256 : Nat) : Int)
def padL (n : Nat) : List Int := 128 :: (List.replicate (zerosOf n) 0 ++ beF (8 * n) 8)
theorem padL_len (n : Nat) : (padL n).length = 9 + zerosOf n := by simp [padL, beF]; omega
/-- The bytes of the eight numbers, the highest first. -/
def digU (x : U) : List Int := [uI x / 16777216, uI x / 65536 % 256, uI x / 256 % 256, uI x % 256]
def digL (s : St) : List Int := s.row.flatMap digU
def uCells (s : St) : List Value := s.row.map fun x => Value.int .u32 (uI x)
def iCells (s : St) : List Value := s.row.map fun x => Value.int .i64 (uI x)
theorem iCells_at (s : St) (j : Nat) (h : j < 8) : (iCells s)[j]? = some (.int .i64 (uI (s.row.getD j 0))) := by
  unfold iCells
  rw [List.getElem?_map, List.getD, List.getElem?_eq_getElem (show j < s.row.length from h)]
  rfl
theorem row_at (T : St) (k : Nat) (h : k < 8) : (uCells T)[k]? = some (.int .u32 (uI (T.row.getD k 0))) := by
  unfold uCells
  rw [List.getElem?_map, List.getD, List.getElem?_eq_getElem (show k < T.row.length from h)]
  rfl
theorem uI_i64 (x : U) : IntKind.i64.wrap (uI x) = uI x := by
  have := uI_nonneg x
  have := uI_lt x
  rw [IntKind.wrap_i64]; omega
end Go.Proofs.YtekflbicjokdnaaGreatDoor
namespace Go.Proofs.YtekflbicjokdnaaGreatDoor
open Go.RowKit

theorem specTurn (x : U) (k : Nat) (hk : k < 32) (w : World) :
    Calls Tryz.prog 211 #[.int .u32 (uI x), .int .u64 (k : Int)] w fun e w' => e = .returned (.int .u32 (uI (rotr x k))) ∧ w' = w := by
  have h1 := uI_le x
  have h0 := uI_nonneg x
  go_enter Tryz.func211, Tryz.ntmps211
  go_wp2
  go_ret
  exact ⟨ret_int (by rw [uI_shr, uI_shl', uI_or]; rfl), rfl⟩
theorem mask31 (k : Nat) (h0 : 0 < k) (hk : k < 32) : bits .and .u64 (IntKind.u64.wrap (-(k : Int))) 31 = 32 - (k : Int) := by
  have e : IntKind.u64.wrap (-(k : Int)) = ((18446744073709551616 - k : Nat) : Int) := by rw [IntKind.wrap_u64]; omega
  have e2 := u64_and_nat (18446744073709551616 - k) 31 (by omega) (by omega)
  rw [e]
  refine e2.trans ?_
  rw [Nat.and_two_pow_sub_one_eq_mod _ 5]
  omega
theorem rotL (x : U) (k : Nat) (hk0 : 0 < k) (hk : k < 32) (w : World) :
    Calls Tryz.prog 216 #[.int .u32 (uI x), .int .i64 (-(k : Int))] w fun e w' => e = .returned (.int .u32 (uI (rotr x k))) ∧ w' = w := by
  have h1 := uI_le x
  have h0 := uI_nonneg x
  have hm := mask31 k hk0 hk
  go_enter Tryz.func216, Tryz.ntmps216
  go_wp2
  go_ret
  exact ⟨ret_int (by rw [uI_shr, uI_shl', uI_or, BitVec.or_comm, show 32 - (32 - k) = k by omega]; rfl), rfl⟩
theorem implTurn (x : U) (k : Nat) (hk0 : 0 < k) (hk : k < 32) (w : World) :
    Calls Tryz.prog 215 #[.int .u32 (uI x), .int .i64 (k : Int)] w fun e w' => e = .returned (.int .u32 (uI (rotr x k))) ∧ w' = w := by
  go_enter Tryz.func215, Tryz.ntmps215
  go_wp2_with fail
  refine (rotL x k hk0 hk _).mono ?_
  rintro e w' ⟨rfl, rfl⟩
  go_wp2
  go_ret
  exact ⟨rfl, rfl⟩
/-- The same, the number of places as the walk spells it. -/
theorem implTurnI (x : U) (k : Int) (w : World) (h0 : 0 < k) (hk : k < 32) :
    Calls Tryz.prog 215 #[.int .u32 (uI x), .int .i64 k] w fun e w' => e = .returned (.int .u32 (uI (rotr x k.toNat))) ∧ w' = w := by
  have h := implTurn x k.toNat (by omega) (by omega) w
  rwa [Int.toNat_of_nonneg (by omega)] at h
theorem specTurnI (x : U) (k : Int) (w : World) (h0 : 0 ≤ k) (hk : k < 32) :
    Calls Tryz.prog 211 #[.int .u32 (uI x), .int .u64 k] w fun e w' => e = .returned (.int .u32 (uI (rotr x k.toNat))) ∧ w' = w := by
  have h := specTurn x k.toNat (by omega) w
  rwa [Int.toNat_of_nonneg (by omega)] at h
end Go.Proofs.YtekflbicjokdnaaGreatDoor
namespace Go.Proofs.YtekflbicjokdnaaGreatDoor
open Go.RowKit Go.BigFrame

/-- A byte of a text, read. -/
theorem idxB (t : ByteArray) (j : Nat) (h : j < t.size) (n : Int) (hn : n = j) (w : World) : (Instr.index 9 (.string t) (.int .i64 n)).run Tryz.prog w = .ok (.int .u8 (uI (bU (byteAt t j)))) w := by
  subst hn
  rw [run_index_string _ _ _ _ _ Tryz.underlying9, dif_pos ⟨by omega, by omega⟩, uI_bU, byteAt_get t j h]
  rfl
theorem arr8 : Tryz.prog.arrayLen 226 = 8 := by kernel_rfl

theorem slice8a (w : World) (g : Nat) : (Instr.sliceAt 226 (.pointer (some ⟨g, 0, none⟩)) (some (.int .i64 1)) none none).run Tryz.prog w = .ok (.slice (some ⟨g, 1, none⟩) 7 7) w := by kernel_rfl
theorem slice8b (w : World) (g : Nat) : (Instr.sliceAt 226 (.pointer (some ⟨g, 0, none⟩)) none (some (.int .i64 7)) none).run Tryz.prog w = .ok (.slice (some ⟨g, 0, none⟩) 7 8) w := by kernel_rfl
theorem turn_src {w : World} {g : Nat} {t : TypeId} {s : St} (hg : w.heap[g]? = some (.cells (uCells s).toArray t (0, 0))) :
    ∀ j v, ((uCells s).take 7)[j]? = some v → w.cell? ((⟨g, 0, none⟩ : Addr).add j) = some v := by
  intro j v hj
  rw [Addr.add_lit, Nat.zero_add]
  refine rowFacts hg j v ?_
  rw [List.getElem?_take] at hj
  split at hj
  · exact hj
  · cases hj
theorem u32Size : (Tryz.prog.info? 224).map (·.size) = some 1 := by kernel_rfl
theorem uCells_one (s : St) : ∀ v ∈ (uCells s).take 7, v.oneCell' = true := fun v hv => by
  have := List.mem_of_mem_take hv
  simp only [uCells, List.mem_map] at this
  obtain ⟨x, _, rfl⟩ := this
  rfl
set_option maxHeartbeats 400000 in
set_option maxRecDepth 100000 in
theorem turnW (s : St) (kw : U) (w : World) (g : Nat) (t : TypeId) (hg : w.heap[g]? = some (.cells (uCells s).toArray t (0, 0))) :
    Calls Tryz.prog 214 #[.pointer (some ⟨g, 0, none⟩), .int .u32 (uI kw)] w
      fun e w' => e = .returned (.tuple #[]) ∧ w'.heap[g]? = some (.cells (uCells (rnd s kw)).toArray t (0, 0)) ∧ Below g w w' := by
  have c0 := rowFacts hg 0 (.int .u32 (uI s.a)) rfl
  have c1 := rowFacts hg 1 (.int .u32 (uI s.b)) rfl
  have c2 := rowFacts hg 2 (.int .u32 (uI s.c)) rfl
  have c4 := rowFacts hg 4 (.int .u32 (uI s.e)) rfl
  have c5 := rowFacts hg 5 (.int .u32 (uI s.f)) rfl
  have c6 := rowFacts hg 6 (.int .u32 (uI s.g)) rfl
  have c7 := rowFacts hg 7 (.int .u32 (uI s.h)) rfl
  have HG : Hid (w.heap[g]? = some (.cells (uCells s).toArray t (0, 0))) := hg
  clear hg
  go_enter Tryz.func214, Tryz.ntmps214
  go_wp2_with fail
  go_quiet (fail)
  go_wp2_with fail
  go_quiet (fail)
  go_wp2_with fail
  have fx := uI_xor
  have fa := uI_and
  have fn := uI_not'
  have fp := uI_add
  have fq := uI_add'
  go_big_quiet (exact (implTurnI _ _ _ (by decide) (by decide)).mono (fun _ _ h => ⟨h.1, _, h.2⟩))
  go_wp2_with fail
  refine (implTurnI _ _ _ (by decide) (by decide)).mono ?_
  rintro e w' ⟨rfl, rfl⟩
  go_wp2_with fail
  refine (implTurnI _ _ _ (by decide) (by decide)).mono ?_
  rintro e w' ⟨rfl, rfl⟩
  go_wp2_with fail
  refine (implTurnI _ _ _ (by decide) (by decide)).mono ?_
  rintro e w' ⟨rfl, rfl⟩
  go_wp2_with fail
  generalize hw4 : w.drewN _ = w4
  have hg4 : w4.heap[g]? = some (.cells (uCells s).toArray t (0, 0)) := by rw [← hw4]; exact HG.out
  have hb4 : Below g w w4 := by rw [← hw4]; exact below_drewN (Below.refl _ _) _
  have hs1 := slice8a
  have hs2 := slice8b
  clear c0 c1 c2 c4 c5 c6 c7 hw4 HG
  go_region_law ((refine step_copy_splice (by rfl) (.tmp 82) (.tmp 85) _ _ (by rfl) 224 Tryz.underlying238 u32Size (some ⟨g, 1, none⟩) (some ⟨g, 0, none⟩) 7 7 7 8 (by go_simp) (by go_simp) g 1 (uCells s) t hg4 ((uCells s).take 7) (by rfl) (fun _ => ⟨rfl, _, rfl, turn_src hg4⟩) (by simp [uCells, St.row]) (uCells_one s) g w hb4.drew (Nat.le_refl _) ?_; intro w5 hg5 hb5))
  have HG5 := hg5.out
  have e5 : splice (uCells s) 1 ((uCells s).take 7) = [.int .u32 (uI s.a), .int .u32 (uI s.a), .int .u32 (uI s.b), .int .u32 (uI s.c), .int .u32 (uI s.d), .int .u32 (uI s.e), .int .u32 (uI s.f), .int .u32 (uI s.g)] := rfl
  rw [e5] at HG5
  have d4 := rowFacts HG5 4 _ rfl
  have d0 := rowFacts HG5 0 _ rfl
  have z4 := frozen_of_row w5 g 4 _ t HG5
  have z0 := frozen_of_row w5 g 0 _ t HG5
  have HE : Hid (∀ x y, ((w5.setCell ⟨g, 4, none⟩ x).setCell ⟨g, 0, none⟩ y).heap[g]? = some (.cells [y, .int .u32 (uI s.a), .int .u32 (uI s.b), .int .u32 (uI s.c), x, .int .u32 (uI s.e), .int .u32 (uI s.f), .int .u32 (uI s.g)].toArray t (0, 0))) :=
    fun x y => rowSet y (rowSet x HG5)
  have HB : Hid (∀ x y, Below g w ((w5.setCell ⟨g, 4, none⟩ x).setCell ⟨g, 0, none⟩ y)) := fun x y => (hb5.setCell (Nat.le_refl _) x).setCell (Nat.le_refl _) y
  clear hg5 HG5 hb5 hg4 hb4 e5
  go_wp2
  go_region
  go_wp2
  go_returns
  exact ⟨rfl, HE.out _ _, (HB.out _ _).drew⟩
end Go.Proofs.YtekflbicjokdnaaGreatDoor
