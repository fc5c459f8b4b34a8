/- What the specification's readers read of what was laid. Plain mathematics: no program is named here. Readers: what is left of one, how much it has still to be asked; a row of numbers by its cells. -/
import Derived.Test.YtkhdjmjbdpmdnaaGreatDoorCR19
import Derived.Test.YtkhdjmjbdpmdnaaGreatDoorCR21
import Derived.Test.YtkhdjmjbdpmdnaaGreatDoorCR12
import Derived.Test.YtkhdjmjbdpmdnaaGreatDoorCR06
namespace Go.Proofs.YtkhdjmjbdpmdnaaGreatDoor
open Go.RowKit

theorem asI_cons (t : Nat) (b : ByteArray) (r : List (Nat × ByteArray)) : asI ((t, b) :: r) = ((t : Int), b) :: asI r := rfl
theorem openR_cat {l : List (Nat × ByteArray)} (h : ThingsOk l) : openR (catT l) = (asI l, false) := by
  unfold openR
  rw [allD_cat h.1 h.2.1 h.2.2]
  rfl
theorem takeR_cons (t : Int) (b : ByteArray) (r : List (Int × ByteArray)) : takeR ((t, b) :: r) false t = (b, r, false) := by
  simp [takeR]
theorem inR_cons (t : Int) {l : List (Nat × ByteArray)} (h : ThingsOk l) (r : List (Int × ByteArray)) : inR ((t, catT l) :: r) false t = ((asI l, false), r, false) := by
  unfold inR
  rw [takeR_cons, openR_cat h]
  rfl
theorem intQ_back {n : Int} (h0 : -9223372036854775808 ≤ n) (h1 : n ≤ 9223372036854775807) : intQ (strOfNums (intL n)) = (n, true) := by
  have h := int_back h0 h1
  have hl := intL_len n
  have hs : (strOfNums (intL n)).size = (intL n).length := strOfNums_size _
  unfold intQ
  rw [if_neg (by omega)]
  unfold intR at h
  rw [if_neg (by omega), if_neg (by omega)] at h
  split at h
  · rename_i he
    rw [Prod.mk.injEq] at h
    rw [h.1] at he ⊢
    rw [decide_eq_true he]
  · simp at h
theorem numR_cons {n : Int} (h0 : -9223372036854775808 ≤ n) (h1 : n ≤ 9223372036854775807) (r : List (Int × ByteArray)) : numR ((2, strOfNums (intL n)) :: r) false = (n, r, false) := by
  unfold numR
  rw [takeR_cons, intQ_back h0 h1]
  rfl
/-- The names that are taken one by one. -/
def hostsR : List (Int × ByteArray) → Bool → List ByteArray
  | [], _ => []
  | p :: r, bad => if bad = true then [] else if p.1 = 130 then p.2 :: hostsR r false else [⟨#[]⟩]
theorem hostsR_bad (l : List (Int × ByteArray)) : hostsR l true = [] := by cases l <;> simp [hostsR]
theorem hostsR_nil (b : Bool) : hostsR [] b = [] := rfl
theorem hostsR_step (p : Int × ByteArray) (r : List (Int × ByteArray)) : hostsR (p :: r) false = (takeR (p :: r) false 130).1 :: hostsR (takeR (p :: r) false 130).2.1 (takeR (p :: r) false 130).2.2 := by
  by_cases h : p.1 = 130
  · simp [hostsR, takeR, h]
  · simp [hostsR, takeR, h]
theorem hostsR_cat (ss : List ByteArray) : hostsR (asI (ss.map fun n => (130, n))) false = ss := by
  induction ss with
  | nil => rfl
  | cons n r ih =>
    rw [List.map_cons, asI_cons, hostsR, if_neg (by simp), if_pos (by rfl), ih]
theorem hostsR_len : ∀ (l : List (Int × ByteArray)) (b : Bool), (hostsR l b).length ≤ l.length
  | [], _ => Nat.le_refl _
  | p :: r, b => by
    rw [hostsR]
    split
    · exact Nat.zero_le _
    · split
      · have := hostsR_len r false
        simp only [List.length_cons]
        omega
      · simp
theorem hostsR_each {m : Nat} : ∀ (l : List (Int × ByteArray)) (b : Bool), (∀ q ∈ l, q.2.size ≤ m) → ∀ q ∈ hostsR l b, q.size ≤ m
  | [], _, _ => by simp [hostsR]
  | p :: r, b, h => by
    intro q hq
    rw [hostsR] at hq
    split at hq
    · simp at hq
    · split at hq
      · rcases List.mem_cons.1 hq with rfl | hq
        · exact h p (List.mem_cons_self ..)
        · exact hostsR_each r false (fun q hq => h q (List.mem_cons_of_mem _ hq)) q hq
      · obtain rfl := List.mem_singleton.1 hq
        exact Nat.zero_le _
/-- What the specification reads of what is asked for. -/
noncomputable def askS (s : ByteArray) : Ask :=
  let r := (inR (openR s).1 (openR s).2 48).1
  let b := inR r.1 r.2 48
  let v := (numR b.1.1 b.1.2).2
  let t := takeR v.1 v.2 3
  let k := (bitsQ t.1 1 1).getD 0 0
  let h := (inR t.2.1 t.2.2 48).1
  let n := bitsQ (takeR b.2.1 b.2.2 3).1 2 1
  ⟨k, hostsR h.1 h.2, k, n.getD 0 0, n.getD 1 0⟩
theorem askS_back {c : Ask} (h : formB c = true) : askS (askY c) = c := by
  have hb := formB_ask h
  obtain ⟨h1, h2, h3, h4⟩ := ask_fits hb
  obtain ⟨_, _, _, _, _, _, _, n1, n2, _⟩ := ask_back h
  have o2 := (askL2_ok hb).1
  have o1 := (askL_ok hb).1
  have o0 := seq_ok (b := catT (askL2 c)) (by have := (askL2_ok hb).2; omega)
  obtain ⟨e, oh⟩ := hosts_ok h2 h4
  have x0 : openR (askY c) = (((48 : Int), catT (askL2 c)) :: [], false) := by rw [askY_cat, openR_cat o0]; rfl
  have x1 : asI (askL2 c) = ((48 : Int), catT (askL c)) :: ((3 : Int), askT c.se c.ss) :: [] := rfl
  have x2 : asI (askL c) = ((2 : Int), strOfNums (intL 0)) :: ((3 : Int), ⟨#[0]⟩ ++ rowN [c.key]) :: ((48 : Int), hostsD c.names c.names.length) :: [] := rfl
  unfold askS
  simp only [x0, inR_cons _ o2, x1, inR_cons _ o1, x2, numR_cons (n := 0) (by omega) (by omega), takeR_cons, n1, n2]
  rw [e]
  simp only [inR_cons _ oh, hostsR_cat, List.getD_cons_zero, List.getD_cons_succ]
  have hk := form_key h
  cases c
  simp only at hk ⊢
  rw [hk]
end Go.Proofs.YtkhdjmjbdpmdnaaGreatDoor
namespace Go.Proofs.YtkhdjmjbdpmdnaaGreatDoor
open Go.RowKit

theorem takeR_rest {l : List (Int × ByteArray)} {bad : Bool} {t : Int} {m : Nat} (hl : ∀ p ∈ l, p.2.size ≤ m) : ∀ p ∈ (takeR l bad t).2.1, p.2.size ≤ m := by
  unfold takeR
  cases l with
  | nil => simp
  | cons p r =>
    simp only
    split
    · exact hl
    · split
      · exact fun q hq => hl q (List.mem_cons_of_mem _ hq)
      · exact hl
theorem OwnL.at {w : World} {B : Nat} {v : Value} {l : List Int} (h : OwnL w B v l) (h0 : 0 < l.length) : ∃ g c, v = .slice (some ⟨g, 0, none⟩) l.length c ∧ B ≤ g ∧ l.length ≤ c ∧ ∀ i z, l[i]? = some z → w.cell? ⟨g, i, none⟩ = some (.int .i64 z) := by
  obtain ⟨hl, h | ⟨g, cap, cur, e, hB, hg, hc, hm, hz, ht⟩⟩ := id h
  · omega
  · refine ⟨g, cap, e, hB, hc, fun i z hi => ?_⟩
    have hi' : i < l.length := by
      rcases Nat.lt_or_ge i l.length with h | h
      · exact h
      · rw [List.getElem?_eq_none h] at hi; cases hi
    have hii := (e ▸ h : OwnL w B (.slice (some ⟨g, 0, none⟩) l.length cap) l).ints
    rcases hii with h2 | ⟨b, o, e2, hc2⟩
    · rw [h2] at hi'; simp at hi'
    · simp only [Option.some.injEq, Addr.mk.injEq, and_true] at e2
      have := hc2 i hi'
      rw [← e2.1, ← e2.2, Nat.zero_add, List.getD_eq_getElem?_getD, hi] at this
      exact this
/-- How much a reader has still to be asked. -/
def measR (w : World) (x : Nat) : Nat := match w.cell? ⟨x, 0, none⟩, w.cell? ⟨x, 1, none⟩ with
  | some (.slice _ n _), some (.bool b) => n + (if b then 0 else 1)
  | _, _ => 0
theorem measR_is {w : World} {B x : Nat} {l : List (Int × ByteArray)} {b : Bool} (h : IsRd w B x l b) : measR w x = l.length + (if b then 0 else 1) := by
  obtain ⟨a, c, hg, _⟩ := h
  unfold measR
  rw [rowFacts hg 0 _ rfl, rowFacts hg 1 _ rfl]
theorem IsRd.put {w : World} {B g q o : Nat} {l : List (Int × ByteArray)} {b : Bool} (h : IsRd w B g l b) (hq : q < B) (v : Value) : IsRd (w.setCell ⟨q, o, none⟩ v) B g l b :=
  h.same fun k hk _ => heap_setCell_other w _ k _ (by show k ≠ q; omega)
theorem takeR_less (p : Int × ByteArray) (r : List (Int × ByteArray)) (t : Int) : (takeR (p :: r) false t).2.1.length + (if (takeR (p :: r) false t).2.2 then 0 else 1) < (p :: r).length + 1 := by
  by_cases h : p.1 = t
  · simp [takeR, h]
  · simp [takeR, h]
end Go.Proofs.YtkhdjmjbdpmdnaaGreatDoor
