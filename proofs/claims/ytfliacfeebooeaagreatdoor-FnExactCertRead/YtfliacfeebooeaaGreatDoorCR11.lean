/- What the specification's readers read of what was laid. Plain mathematics: no program is named here. A row of texts of the call's own. Readers: what is left of one, how much it has still to be asked; a row of numbers by its cells. An append to a row of the call's own: the row that comes of it lies where the old one lay, or in a new block. No program is named. The specification at work on a paper: the paper's cells, the readers that are open (the last one first), the names gathered so far. Names' things come back. Plain mathematics: no program is named here. Lists of what is taken back come back when they are read. Plain mathematics: no program is named here. -/
import Derived.Test.YtfliacfeebooeaaGreatDoorCR08
import Derived.Test.YtfliacfeebooeaaGreatDoorCR10
import Derived.Test.YtfliacfeebooeaaGreatDoorCR03
import Derived.Test.YtfliacfeebooeaaGreatDoorCR01
import Derived.Laws.AppendOwn
import Derived.Below
import Derived.Test.YtfliacfeebooeaaGreatDoorCR04
namespace Go.Proofs.YtfliacfeebooeaaGreatDoor
open Go.RowKit

theorem asI_cons (t : Nat) (b : ByteArray) (r : List (Nat × ByteArray)) : asI ((t, b) :: r) = ((t : Int), b) :: asI r := rfl
theorem openR_cat {l : List (Nat × ByteArray)} (h : ThingsOk l) : openR (catT l) = (asI l, false) := by
  unfold openR
  rw [allD_cat h.1 h.2.1 h.2.2]
  rfl
theorem takeR_cons (t : Int) (b : ByteArray) (r : List (Int × ByteArray)) : takeR ((t, b) :: r) false t = (b, r, false) := by
  simp [takeR]
theorem inR_cons (t : Int) {l : List (Nat × ByteArray)} (h : ThingsOk l) (r : List (Int × ByteArray)) : inR ((t, catT l) :: r) false t = ((asI l, false), r, false) := by
  unfold inR
  rw [takeR_cons, openR_cat h]
  rfl
theorem intQ_back {n : Int} (h0 : -9223372036854775808 ≤ n) (h1 : n ≤ 9223372036854775807) : intQ (strOfNums (intL n)) = (n, true) := by
  have h := int_back h0 h1
  have hl := intL_len n
  have hs : (strOfNums (intL n)).size = (intL n).length := strOfNums_size _
  unfold intQ
  rw [if_neg (by omega)]
  unfold intR at h
  rw [if_neg (by omega), if_neg (by omega)] at h
  split at h
  · rename_i he
    rw [Prod.mk.injEq] at h
    rw [h.1] at he ⊢
    rw [decide_eq_true he]
  · simp at h
theorem numR_cons {n : Int} (h0 : -9223372036854775808 ≤ n) (h1 : n ≤ 9223372036854775807) (r : List (Int × ByteArray)) : numR ((2, strOfNums (intL n)) :: r) false = (n, r, false) := by
  unfold numR
  rw [takeR_cons, intQ_back h0 h1]
  rfl
/-- The names that are taken one by one. -/
def hostsR : List (Int × ByteArray) → Bool → List ByteArray
  | [], _ => []
  | p :: r, bad => if bad = true then [] else if p.1 = 130 then p.2 :: hostsR r false else [⟨#[]⟩]
theorem hostsR_bad (l : List (Int × ByteArray)) : hostsR l true = [] := by cases l <;> simp [hostsR]
theorem hostsR_nil (b : Bool) : hostsR [] b = [] := rfl
theorem hostsR_step (p : Int × ByteArray) (r : List (Int × ByteArray)) : hostsR (p :: r) false = (takeR (p :: r) false 130).1 :: hostsR (takeR (p :: r) false 130).2.1 (takeR (p :: r) false 130).2.2 := by
  by_cases h : p.1 = 130
  · simp [hostsR, takeR, h]
  · simp [hostsR, takeR, h]
theorem hostsR_cat (ss : List ByteArray) : hostsR (asI (ss.map fun n => (130, n))) false = ss := by
  induction ss with
  | nil => rfl
  | cons n r ih =>
    rw [List.map_cons, asI_cons, hostsR, if_neg (by simp), if_pos (by rfl), ih]
theorem hostsR_len : ∀ (l : List (Int × ByteArray)) (b : Bool), (hostsR l b).length ≤ l.length
  | [], _ => Nat.le_refl _
  | p :: r, b => by
    rw [hostsR]
    split
    · exact Nat.zero_le _
    · split
      · have := hostsR_len r false
        simp only [List.length_cons]
        omega
      · simp
theorem hostsR_each {m : Nat} : ∀ (l : List (Int × ByteArray)) (b : Bool), (∀ q ∈ l, q.2.size ≤ m) → ∀ q ∈ hostsR l b, q.size ≤ m
  | [], _, _ => by simp [hostsR]
  | p :: r, b, h => by
    intro q hq
    rw [hostsR] at hq
    split at hq
    · simp at hq
    · split at hq
      · rcases List.mem_cons.1 hq with rfl | hq
        · exact h p (List.mem_cons_self ..)
        · exact hostsR_each r false (fun q hq => h q (List.mem_cons_of_mem _ hq)) q hq
      · obtain rfl := List.mem_singleton.1 hq
        exact Nat.zero_le _
/-- What the specification reads of what is asked for. -/
noncomputable def askS (s : ByteArray) : Ask :=
  let r := (inR (openR s).1 (openR s).2 48).1
  let b := inR r.1 r.2 48
  let v := (numR b.1.1 b.1.2).2
  let t := takeR v.1 v.2 3
  let k := (bitsQ t.1 1 1).getD 0 0
  let h := (inR t.2.1 t.2.2 48).1
  let n := bitsQ (takeR b.2.1 b.2.2 3).1 2 1
  ⟨k, hostsR h.1 h.2, k, n.getD 0 0, n.getD 1 0⟩
theorem askS_back {c : Ask} (h : formB c = true) : askS (askY c) = c := by
  have hb := formB_ask h
  obtain ⟨h1, h2, h3, h4⟩ := ask_fits hb
  obtain ⟨_, _, _, _, _, _, _, n1, n2, _⟩ := ask_back h
  have o2 := (askL2_ok hb).1
  have o1 := (askL_ok hb).1
  have o0 := seq_ok (b := catT (askL2 c)) (by have := (askL2_ok hb).2; omega)
  obtain ⟨e, oh⟩ := hosts_ok h2 h4
  have x0 : openR (askY c) = (((48 : Int), catT (askL2 c)) :: [], false) := by rw [askY_cat, openR_cat o0]; rfl
  have x1 : asI (askL2 c) = ((48 : Int), catT (askL c)) :: ((3 : Int), askT c.se c.ss) :: [] := rfl
  have x2 : asI (askL c) = ((2 : Int), strOfNums (intL 0)) :: ((3 : Int), ⟨#[0]⟩ ++ rowN [c.key]) :: ((48 : Int), hostsD c.names c.names.length) :: [] := rfl
  unfold askS
  simp only [x0, inR_cons _ o2, x1, inR_cons _ o1, x2, numR_cons (n := 0) (by omega) (by omega), takeR_cons, n1, n2]
  rw [e]
  simp only [inR_cons _ oh, hostsR_cat, List.getD_cons_zero, List.getD_cons_succ]
  have hk := form_key h
  cases c
  simp only at hk ⊢
  rw [hk]
end Go.Proofs.YtfliacfeebooeaaGreatDoor
namespace Go.Proofs.YtfliacfeebooeaaGreatDoor
open Go.RowKit

def OwnS (w : World) (B : Nat) (v : Value) (l : List ByteArray) : Prop := w.ownsRow B 9 1 v l.length (sCells l)
theorem OwnS.keep {w w' : World} {B : Nat} {v : Value} {l : List ByteArray} (h : OwnS w B v l) (hb : Below w.heap.size w w') : OwnS w' B v l := by
  refine ⟨h.1, ?_⟩
  rcases h.2 with h | ⟨g, cap, cur, e, h1, h2, h3⟩
  · exact .inl h
  · exact .inr ⟨g, cap, cur, e, h1, by rw [hb.block g (heap_lt h2)]; exact h2, h3⟩
theorem OwnS.mono {w : World} {B B' : Nat} {v : Value} {l : List ByteArray} (h : OwnS w B v l) (hB : B' ≤ B) : OwnS w B' v l := by
  refine ⟨h.1, ?_⟩
  rcases h.2 with h | ⟨g, cap, cur, e, h1, h3⟩
  · exact .inl h
  · exact .inr ⟨g, cap, cur, e, Nat.le_trans hB h1, h3⟩
theorem OwnS.form {w : World} {B : Nat} {v : Value} {l : List ByteArray} (h : OwnS w B v l) : ∃ a c, v = .slice a l.length c ∧ l.length ≤ c := by
  rcases h.2 with ⟨h, h'⟩ | ⟨g, cap, _, e, _, _, hc, _⟩
  · exact ⟨none, 0, by rw [h']; exact h, by omega⟩
  · exact ⟨_, _, e, hc⟩
theorem ownS_nil (w : World) (B : Nat) : OwnS w B (.slice none 0 0) [] := ⟨rfl, .inl ⟨rfl, rfl⟩⟩
theorem OwnS.strs {w : World} {B : Nat} {a : Option Addr} {n c : Nat} {l : List ByteArray} (h : OwnS w B (.slice a n c) l) : IsStrs w a l := by
  rcases h.2 with ⟨_, h'⟩ | ⟨g, cap, cur, e, _, hg, _, _, _, ht⟩
  · exact .inl (List.eq_nil_of_length_eq_zero h')
  · simp only [Value.slice.injEq] at e
    obtain ⟨rfl, _, _⟩ := e
    refine .inr ⟨g, 0, rfl, fun i hi => ?_⟩
    have k0 := sCells_at hi
    rw [← ht, List.getElem?_take, if_pos (by omega)] at k0
    rw [Nat.zero_add, cell_of_row w g _ _ _ (0, 0) hg]
    simpa using k0
theorem OwnS.ge {w : World} {B g : Nat} {v : Value} {l : List ByteArray} (h : OwnS w B v l) (e : v.ownBlock = some g) : B ≤ g ∧ g < w.heap.size :=
  (show World.ownsRow w B 9 1 v l.length (sCells l) from h).lt g e
/-- It stands where its blocks are as they were. -/
theorem OwnS.same {w w' : World} {B : Nat} {v : Value} {l : List ByteArray} (h : OwnS w B v l) (hs : ∀ k, B ≤ k → k < w.heap.size → w'.heap[k]? = w.heap[k]?) : OwnS w' B v l := by
  refine ⟨h.1, ?_⟩
  rcases h.2 with h | ⟨g, cap, cur, e, h1, h2, h3⟩
  · exact .inl h
  · exact .inr ⟨g, cap, cur, e, h1, by rw [hs g h1 (heap_lt h2)]; exact h2, h3⟩
theorem take_snoc (l : List ByteArray) {k : Nat} (h : k < l.length) : l.take (k + 1) = l.take k ++ [tAt l k] := by
  rw [List.take_succ_eq_append_getElem h, tAt, List.getD, List.getElem?_eq_getElem h]; rfl
/-- It stands where all blocks but one that is not its own are as they were. -/
theorem OwnS.off {w w' : World} {B q : Nat} {v : Value} {l : List ByteArray} (h : OwnS w B v l) (hq : v.ownBlock ≠ some q) (hs : ∀ k, k ≠ q → w'.heap[k]? = w.heap[k]?) : OwnS w' B v l := by
  refine ⟨h.1, ?_⟩
  rcases h.2 with h | ⟨g, cap, cur, e, h1, h2, h3⟩
  · exact .inl h
  · exact .inr ⟨g, cap, cur, e, h1, by rw [hs g (fun e' => hq (by rw [e, ← e']; rfl))]; exact h2, h3⟩
theorem oneCell_texts (l : List ByteArray) : ∀ u ∈ sCells l, u.oneCell' = true := by
  intro u hu
  simp only [sCells, List.mem_map] at hu
  obtain ⟨s, _, rfl⟩ := hu
  rfl
end Go.Proofs.YtfliacfeebooeaaGreatDoor
namespace Go.Proofs.YtfliacfeebooeaaGreatDoor
open Go.RowKit

theorem takeR_rest {l : List (Int × ByteArray)} {bad : Bool} {t : Int} {m : Nat} (hl : ∀ p ∈ l, p.2.size ≤ m) : ∀ p ∈ (takeR l bad t).2.1, p.2.size ≤ m := by
  unfold takeR
  cases l with
  | nil => simp
  | cons p r =>
    simp only
    split
    · exact hl
    · split
      · exact fun q hq => hl q (List.mem_cons_of_mem _ hq)
      · exact hl
theorem OwnL.at {w : World} {B : Nat} {v : Value} {l : List Int} (h : OwnL w B v l) (h0 : 0 < l.length) : ∃ g c, v = .slice (some ⟨g, 0, none⟩) l.length c ∧ B ≤ g ∧ l.length ≤ c ∧ ∀ i z, l[i]? = some z → w.cell? ⟨g, i, none⟩ = some (.int .i64 z) := by
  obtain ⟨hl, h | ⟨g, cap, cur, e, hB, hg, hc, hm, hz, ht⟩⟩ := id h
  · omega
  · refine ⟨g, cap, e, hB, hc, fun i z hi => ?_⟩
    have hi' : i < l.length := by
      rcases Nat.lt_or_ge i l.length with h | h
      · exact h
      · rw [List.getElem?_eq_none h] at hi; cases hi
    have hii := (e ▸ h : OwnL w B (.slice (some ⟨g, 0, none⟩) l.length cap) l).ints
    rcases hii with h2 | ⟨b, o, e2, hc2⟩
    · rw [h2] at hi'; simp at hi'
    · simp only [Option.some.injEq, Addr.mk.injEq, and_true] at e2
      have := hc2 i hi'
      rw [← e2.1, ← e2.2, Nat.zero_add, List.getD_eq_getElem?_getD, hi] at this
      exact this
/-- How much a reader has still to be asked. -/
def measR (w : World) (x : Nat) : Nat := match w.cell? ⟨x, 0, none⟩, w.cell? ⟨x, 1, none⟩ with
  | some (.slice _ n _), some (.bool b) => n + (if b then 0 else 1)
  | _, _ => 0
theorem measR_is {w : World} {B x : Nat} {l : List (Int × ByteArray)} {b : Bool} (h : IsRd w B x l b) : measR w x = l.length + (if b then 0 else 1) := by
  obtain ⟨a, c, hg, _⟩ := h
  unfold measR
  rw [rowFacts hg 0 _ rfl, rowFacts hg 1 _ rfl]
theorem IsRd.put {w : World} {B g q o : Nat} {l : List (Int × ByteArray)} {b : Bool} (h : IsRd w B g l b) (hq : q < B) (v : Value) : IsRd (w.setCell ⟨q, o, none⟩ v) B g l b :=
  h.same fun k hk _ => heap_setCell_other w _ k _ (by show k ≠ q; omega)
theorem takeR_less (p : Int × ByteArray) (r : List (Int × ByteArray)) (t : Int) : (takeR (p :: r) false t).2.1.length + (if (takeR (p :: r) false t).2.2 then 0 else 1) < (p :: r).length + 1 := by
  by_cases h : p.1 = t
  · simp [takeR, h]
  · simp [takeR, h]
end Go.Proofs.YtfliacfeebooeaaGreatDoor
namespace Go.Proofs.YtfliacfeebooeaaGreatDoor

theorem ownsRow_mono {w : World} {base base' : Nat} {e : TypeId} {size : Nat} {v : Value} {n : Nat} {xs : List Value} (h : w.ownsRow base e size v n xs) (hb : base' ≤ base) : w.ownsRow base' e size v n xs := by
  refine ⟨h.1, ?_⟩
  rcases h.2 with h | ⟨g, cap, cur, e, h1, h2⟩
  · exact .inl h
  · exact .inr ⟨g, cap, cur, e, Nat.le_trans hb h1, h2⟩
theorem run_append_new {P : Program} (w : World) (base : Nat) (t ty e : TypeId) (i : TypeInfo) (z : Value) (size bytes : Nat) (ht : P.underlying t = some (.slice e)) (hi : P.info? e = some i) (hz : i.zero = some z)
    (hsize : i.size = size) (hby : i.bytes = bytes) (hzs : z.cells.size = size) (hsz : 0 < size)
    (v : Value) (n : Nat) (xs : List Value) (hown : w.ownsRow base e size v n xs)
    (a : Addr) (m c : Nat) (news : List Value) (hl : news.length = m * size) (hnews : ∀ j u, news[j]? = some u → w.cell? (a.add j) = some u) (h1 : ∀ u ∈ news, u.oneCell' = true)
    (h63 : n + m ≤ maxLen) (hbytes : (n + m) * bytes ≤ 140737488355328) (hbase : base ≤ w.heap.size) :
    ∃ v' w', (Builtin.append_ #[t, t] ty #[v, .slice (some a) m c]).run P w = .ok v' w' ∧ w'.ownsRow base e size v' (n + m) (xs ++ news) ∧ w.grownBy w' v.ownBlock ∧
      (v'.ownBlock = v.ownBlock ∨ ∀ k, v'.ownBlock = some k → w.heap.size ≤ k) := by
  rcases hown.2 with ⟨rfl, rfl⟩ | ⟨g, cap, cur, rfl, hbg, hg, hnc, hcm, hcs, htake⟩
  · have hx : xs = [] := List.eq_nil_of_length_eq_zero (by simpa using hown.1)
    subst hx
    obtain ⟨v', w', h2, h3, h4, _⟩ := run_append_own (P := P) w w.heap.size t ty e i z size bytes ht hi hz hsize hby hzs hsz _ 0 [] (World.ownsRow_nil w _ e size) a m c news hl hnews h1 h63 hbytes (Nat.le_refl _)
    exact ⟨v', w', h2, ownsRow_mono h3 hbase, h4, .inr fun k hk => (h3.lt k hk).1⟩
  · obtain ⟨v', w', h2, h3, h4, _⟩ := run_append_own (P := P) w base t ty e i z size bytes ht hi hz hsize hby hzs hsz _ n xs hown a m c news hl hnews h1 h63 hbytes hbase
    refine ⟨v', w', h2, h3, h4, ?_⟩
    have hsmall : n + m ≤ 9223372036854775807 := by simp only [maxLen] at h63; omega
    subst hsize
    subst hby
    by_cases hroom : n + m ≤ cap
    · have hfit : n * i.size + news.length ≤ cur.size := by rw [hl, hcs, ← Nat.add_mul]; exact Nat.mul_le_mul_right _ hroom
      have hr := run_append_room (P := P) w t ty e i ht hi g n cap cur hg a m c news hl hnews h1 hroom hfit
      rw [h2] at hr
      injection hr with e1 e2
      subst e1
      exact .inl rfl
    · have holds : ∀ j u, xs[j]? = some u → w.cell? ((⟨g, 0, none⟩ : Addr).add j) = some u := hown.cells (g := g) rfl
      have hr := run_append_grow (P := P) w t ty e i z ht hi hz ⟨g, 0, none⟩ n cap xs hown.1 holds a m c news hl hnews (by omega) (by omega) (growslice_fits (by omega) hbytes)
      rw [h2] at hr
      injection hr with e1 e2
      subst e1
      refine .inr fun k hk => ?_
      simp only [Value.ownBlock, Option.some.injEq] at hk
      subst hk
      simp
section
variable {P : Program} {w : World}
theorem wp_append_new {o : Oper} {a : Act} {K : Act → World → Prop} {Q : Exit → Act → World → Prop} (s x : Operand) (t : TypeId)
    (ho : o.op = .call { callee := .builtin .append, args := #[s, x], argTypes := #[t, t] })
    (base : Nat) (e : TypeId) (i : TypeInfo) (z : Value) (size bytes : Nat) (ht : P.underlying t = some (.slice e)) (hi : P.info? e = some i) (hz : i.zero = some z)
    (hsize : i.size = size) (hby : i.bytes = bytes) (hzs : z.cells.size = size) (hsz : 0 < size)
    (v : Value) (n : Nat) (xs : List Value) (hs : a.eval s = v) (hown : w.ownsRow base e size v n xs)
    (ad : Addr) (m c : Nat) (news : List Value) (hx : a.eval x = .slice (some ad) m c) (hl : news.length = m * size) (hnews : ∀ j u, news[j]? = some u → w.cell? (ad.add j) = some u) (h1 : ∀ u ∈ news, u.oneCell' = true)
    (h63 : n + m ≤ maxLen) (hbytes : (n + m) * bytes ≤ 140737488355328) (hbase : base ≤ w.heap.size)
    (h : ∀ v' w', w'.ownsRow base e size v' (n + m) (xs ++ news) → w.grownBy w' v.ownBlock → (v'.ownBlock = v.ownBlock ∨ ∀ k, v'.ownBlock = some k → w.heap.size ≤ k) → K (a.put o.dst v') w') : o.wp P a w K Q := by
  obtain ⟨v', w', hr, h2, h3, h4⟩ := run_append_new (P := P) w base t o.type e i z size bytes ht hi hz hsize hby hzs hsz v n xs hown ad m c news hl hnews h1 h63 hbytes hbase
  unfold Oper.wp execOp
  simp only [ho, resolve, invoke, builtin, Sem.run_bind, Sem.run_pure, Result.andThen_ok, List.map_toArray, List.map_cons, List.map_nil, hs, hx, hr]
  exact h v' w' h2 h3 h4
end
end Go.Proofs.YtfliacfeebooeaaGreatDoor
namespace Go.Proofs.YtfliacfeebooeaaGreatDoor
open Go.RowKit

theorem IsRd.within {w w' : World} {B g : Nat} {l : List (Int × ByteArray)} {b : Bool} (h : IsRd w B g l b) (hz : w.heap.size ≤ w'.heap.size) (hs : ∀ k, B ≤ k → k ≤ g → w'.heap[k]? = w.heap[k]?) : IsRd w' B g l b := by
  obtain ⟨a, c, hg, hc, ht, h1, hne⟩ := h
  refine ⟨a, c, by rw [hs g h1 (Nat.le_refl _)]; exact hg, hc, ?_, h1, hne⟩
  rcases ht with h | ⟨g2, o, rfl, hg2, hcs⟩
  · exact .inl h
  · have hlt := hne _ rfl
    have e := hs g2 hlt.1 (Nat.le_of_lt hlt.2)
    have ec : ∀ o, w'.cell? ⟨g2, o, none⟩ = w.cell? ⟨g2, o, none⟩ := fun o => by unfold World.cell?; simp only [e]
    refine .inr ⟨g2, o, rfl, Nat.lt_of_lt_of_le hg2 hz, fun i p hp => ?_⟩
    rw [ec, ec]
    exact hcs i p hp
theorem OwnS.off' {w w' : World} {B q : Nat} {v : Value} {l : List ByteArray} (h : OwnS w B v l) (hq : v.ownBlock ≠ some q) (hs : ∀ k, k < w.heap.size → k ≠ q → w'.heap[k]? = w.heap[k]?) : OwnS w' B v l := by
  refine ⟨h.1, ?_⟩
  rcases h.2 with h | ⟨g, cap, cur, e, h1, h2, h3⟩
  · exact .inl h
  · exact .inr ⟨g, cap, cur, e, h1, by rw [hs g (heap_lt h2) (fun e' => hq (by rw [e, ← e']; rfl))]; exact h2, h3⟩
/-- A reader that is open: its block, its things, its word; the names do not lie among its blocks. -/
def RdOk (W : World) (A : Nat) (v : Value) (q : Nat × List (Int × ByteArray) × Bool) : Prop := ∃ B, A ≤ B ∧ IsRd W B q.1 q.2.1 q.2.2 ∧ ∀ g, v.ownBlock = some g → g < B ∨ q.1 < g
def Rds (W : World) (A : Nat) (v : Value) : List (Nat × List (Int × ByteArray) × Bool) → Prop
  | [] => True
  | q :: S => RdOk W A v q ∧ (∀ p ∈ S, p.1 < q.1) ∧ Rds W A v S
theorem RdOk.ge {W : World} {A : Nat} {v : Value} {q : Nat × List (Int × ByteArray) × Bool} (h : RdOk W A v q) : A ≤ q.1 ∧ q.1 < W.heap.size := by
  obtain ⟨B, h1, h2, _⟩ := h
  have := h2.ge
  omega
theorem RdOk.at {W : World} {A : Nat} {v : Value} {q : Nat × List (Int × ByteArray) × Bool} (h : RdOk W A v q) : ∃ a c, W.heap[q.1]? = some (.cells [Value.slice a q.2.1.length c, .bool q.2.2].toArray 48 (0, 0)) ∧ q.2.1.length ≤ c ∧ True := by
  obtain ⟨B, _, ⟨a, c, h1, h2, _⟩, _⟩ := h
  exact ⟨a, c, h1, h2, trivial⟩
theorem RdOk.far {W W' : World} {A : Nat} {v : Value} {q : Nat × List (Int × ByteArray) × Bool} (h : RdOk W A v q) (hb : Below (q.1 + 1) W W') : RdOk W' A v q := by
  obtain ⟨B, h1, h2, h3⟩ := h
  exact ⟨B, h1, h2.far hb, h3⟩
theorem RdOk.put {W : World} {A p o : Nat} {v : Value} {q : Nat × List (Int × ByteArray) × Bool} (h : RdOk W A v q) (hp : p < A) (u : Value) : RdOk (W.setCell ⟨p, o, none⟩ u) A v q := by
  obtain ⟨B, h1, h2, h3⟩ := h
  exact ⟨B, h1, h2.put (by omega) u, h3⟩
theorem RdOk.grown {W W' : World} {A : Nat} {v v' : Value} {q : Nat × List (Int × ByteArray) × Bool} (h : RdOk W A v q) (hg : W.grownBy W' v.ownBlock) (hv : v'.ownBlock = v.ownBlock ∨ ∀ k, v'.ownBlock = some k → W.heap.size ≤ k) : RdOk W' A v' q := by
  obtain ⟨B, h1, h2, h3⟩ := h
  have hq := h2.ge.2
  refine ⟨B, h1, h2.within hg.size fun k hk1 hk2 => hg.block k (by omega) fun e => ?_, fun g hgv => ?_⟩
  · have := h3 k e.symm
    omega
  · rcases hv with e | e
    · exact h3 g (e ▸ hgv)
    · exact .inr (Nat.lt_of_lt_of_le hq (e g hgv))
theorem Rds.ge {W : World} {A : Nat} {v : Value} : ∀ {S : List (Nat × List (Int × ByteArray) × Bool)}, Rds W A v S → ∀ p ∈ S, A ≤ p.1 ∧ p.1 < W.heap.size
  | [], _, p, hp => by cases hp
  | _ :: _, h, p, hp => by
    rcases List.mem_cons.1 hp with rfl | hp
    · exact h.1.ge
    · exact Rds.ge h.2.2 p hp
theorem Rds.imp {W W' : World} {A : Nat} {v v' : Value} : ∀ {S : List (Nat × List (Int × ByteArray) × Bool)}, Rds W A v S → (∀ q ∈ S, RdOk W A v q → RdOk W' A v' q) → Rds W' A v' S
  | [], _, _ => trivial
  | q :: _, h, hi => ⟨hi q (List.mem_cons_self ..) h.1, h.2.1, Rds.imp h.2.2 fun p hp => hi p (List.mem_cons_of_mem _ hp)⟩

def zCert : List Value := [.int .i64 0, .string ⟨#[]⟩, .string ⟨#[]⟩, .int .i64 0, .int .i64 0, .int .i64 0, .slice none 0 0, .bool false, .int .i64 0, .int .i64 0, .int .i64 0]
structure Stk (w W : World) (cs : List Value) (v : Value) (ns : List ByteArray) (S : List (Nat × List (Int × ByteArray) × Bool)) : Prop where
  c : W.heap[w.heap.size + 1]? = some (.cells cs.toArray 26 (0, 0))
  r : W.heap[w.heap.size]? = some (.cells zCert.toArray 26 (0, 0))
  b : Below w.heap.size w W
  rd : Rds W (w.heap.size + 2) v S
  o : OwnS W (w.heap.size + 2) v ns
section
variable {w W W' : World} {cs : List Value} {v : Value} {ns : List ByteArray} {S : List (Nat × List (Int × ByteArray) × Bool)} {x y : Nat} {l l' : List (Int × ByteArray)} {b b' : Bool}
theorem Stk.size (h : Stk w W cs v ns S) : w.heap.size + 2 ≤ W.heap.size := by
  have := heap_lt h.c
  omega
theorem Stk.top (h : Stk w W cs v ns ((x, l, b) :: S)) : ∃ B, IsRd W B x l b := by
  obtain ⟨B, _, h2, _⟩ := h.rd.1
  exact ⟨B, h2⟩
theorem Stk.pop {q : Nat × List (Int × ByteArray) × Bool} (h : Stk w W cs v ns (q :: S)) : Stk w W cs v ns S := ⟨h.c, h.r, h.b, h.rd.2.2, h.o⟩
theorem Stk.drop2 {q p : Nat × List (Int × ByteArray) × Bool} (h : Stk w W cs v ns (q :: p :: S)) : Stk w W cs v ns (q :: S) := ⟨h.c, h.r, h.b, ⟨h.rd.1, fun z hz => h.rd.2.1 z (List.mem_cons_of_mem _ hz), h.rd.2.2.2.2⟩, h.o⟩
theorem Stk.drop1 {q : Nat × List (Int × ByteArray) × Bool} (h : Stk w W cs v ns (q :: S)) : Stk w W cs v ns S := h.pop
theorem Stk.put (h : Stk w W cs v ns S) (k : Nat) (u : Value) : Stk w (W.setCell ⟨w.heap.size + 1, k, none⟩ u) (cs.set k u) v ns S := by
  refine ⟨rowSet _ h.c, ?_, h.b.setCell (by simp) _, h.rd.imp fun q _ hq => hq.put (by omega) u, h.o.same fun k hk _ => heap_setCell_other W _ _ _ (by show _ ≠ w.heap.size + 1; omega)⟩
  rw [heap_setCell_other W _ _ _ (by show w.heap.size ≠ w.heap.size + 1; omega)]
  exact h.r
theorem Stk.keep (h : Stk w W cs v ns S) (hb : Below W.heap.size W W') : Stk w W' cs v ns S := by
  have hz := h.size
  refine ⟨by rw [hb.block _ (by omega)]; exact h.c, by rw [hb.block _ (by omega)]; exact h.r, h.b.trans (hb.mono (by omega)), h.rd.imp fun q _ hq => hq.far (hb.mono hq.ge.2), h.o.keep hb⟩
theorem Stk.step (h : Stk w W cs v ns ((x, l, b) :: S)) {B : Nat} (hB : w.heap.size + 2 ≤ B) (hv : ∀ g, v.ownBlock = some g → g < B ∨ x < g) (hr : IsRd W' B x l' b') (hk : ∀ k, k < W.heap.size → k ≠ x → W'.heap[k]? = W.heap[k]?) (hb : ∀ A, A ≤ x → Below A W W') : Stk w W' cs v ns ((x, l', b') :: S) := by
  have hz := h.size
  have hx := h.rd.1.ge
  simp only at hx
  refine ⟨by rw [hk _ (by omega) (by omega)]; exact h.c, by rw [hk _ (by omega) (by omega)]; exact h.r, h.b.trans (hb _ (by omega)), ⟨⟨B, hB, hr, hv⟩, h.rd.2.1, h.rd.2.2.imp fun q hq hr => hr.far (hb _ (h.rd.2.1 q hq))⟩, ?_⟩
  have hg := hr.ge
  exact h.o.off' (q := x) (fun e => by have := hv x e; omega) hk
theorem Stk.push (h : Stk w W cs v ns S) {B : Nat} (hB : w.heap.size + 2 ≤ B) (hy : ∀ p ∈ S, p.1 < B) (hv : ∀ g, v.ownBlock = some g → g < B) (hr : IsRd W B y l b) : Stk w W cs v ns ((y, l, b) :: S) :=
  ⟨h.c, h.r, h.b, ⟨⟨B, hB, hr, fun g hg => .inl (hv g hg)⟩, fun p hp => Nat.lt_of_lt_of_le (hy p hp) hr.ge.1, h.rd⟩, h.o⟩
theorem Stk.own (h : Stk w W cs v ns S) : ∀ g, v.ownBlock = some g → g < W.heap.size := fun _ hg => (h.o.ge hg).2
/-- The names grow. -/
theorem Stk.grow (h : Stk w W cs v ns S) {v' : Value} {ns' : List ByteArray} (hg : W.grownBy W' v.ownBlock) (hv : v'.ownBlock = v.ownBlock ∨ ∀ k, v'.ownBlock = some k → W.heap.size ≤ k) (ho : OwnS W' (w.heap.size + 2) v' ns') : Stk w W' cs v' ns' S := by
  have hz := h.size
  have hn : ∀ k, k < w.heap.size + 2 → W'.heap[k]? = W.heap[k]? := fun k hk => hg.block k (by omega) fun e => by have := h.o.ge e.symm; omega
  exact ⟨by rw [hn _ (by omega)]; exact h.c, by rw [hn _ (by omega)]; exact h.r, h.b.grown hg (by omega) (fun k hk => by have := h.o.ge hk; omega), h.rd.imp fun q _ hq => hq.grown hg hv, ho⟩

theorem Stk.drew (h : Stk w W cs v ns S) : Stk w W.drew cs v ns S := h.keep (Below.refl _ _).drew
theorem stkTake (h : Stk w W cs v ns ((x, l, b) :: S)) (t : Int) :
    Calls Tryz.prog 21 #[.pointer (some ⟨x, 0, none⟩), .int .i64 t] W fun e W' => e = .returned (.string (takeR l b t).1) ∧ Stk w W' cs v ns ((x, (takeR l b t).2.1, (takeR l b t).2.2) :: S) := by
  obtain ⟨B, h1, h2, h3⟩ := h.rd.1
  exact (rdTake B x l b t W h2).mono fun e W' ⟨e1, r, k, bb⟩ => ⟨e1, h.step h1 h3 r k bb⟩
theorem stkNum (h : Stk w W cs v ns ((x, l, b) :: S)) (hl : ∀ p ∈ l, p.2.size ≤ 4000) :
    Calls Tryz.prog 20 #[.pointer (some ⟨x, 0, none⟩)] W fun e W' => e = .returned (.int .i64 (numR l b).1) ∧ Stk w W' cs v ns ((x, (numR l b).2.1, (numR l b).2.2) :: S) := by
  obtain ⟨B, h1, h2, h3⟩ := h.rd.1
  exact (rdNum B x l b W h2 hl).mono fun e W' ⟨e1, r, k, bb⟩ => ⟨e1, h.step h1 h3 r k bb⟩
theorem stkName (h : Stk w W cs v ns ((x, l, b) :: S)) (hl : ∀ p ∈ l, p.2.size ≤ 4000) :
    Calls Tryz.prog 22 #[.pointer (some ⟨x, 0, none⟩)] W fun e W' => e = .returned (.string (nameR l b).1) ∧ Stk w W' cs v ns ((x, (nameR l b).2.1, (nameR l b).2.2) :: S) := by
  obtain ⟨B, h1, h2, h3⟩ := h.rd.1
  exact (rdName B x l b W h2 hl).mono fun e W' ⟨e1, r, k, bb⟩ => ⟨e1, h.step h1 h3 r k bb⟩
theorem stkIn (h : Stk w W cs v ns ((x, l, b) :: S)) (t : Int) (hl : ∀ p ∈ l, p.2.size ≤ 4000) :
    Calls Tryz.prog 19 #[.pointer (some ⟨x, 0, none⟩), .int .i64 t] W fun e W' => ∃ y, e = .returned (.pointer (some ⟨y, 0, none⟩)) ∧ Stk w W' cs v ns ((y, (inR l b t).1.1, (inR l b t).1.2) :: (x, (inR l b t).2.1, (inR l b t).2.2) :: S) := by
  obtain ⟨B, h1, h2, h3⟩ := h.rd.1
  have hz := h.size
  exact (rdIn B x l b t W h2 hl).mono fun e W' ⟨y, e1, hy, ry, r, k, bb⟩ => ⟨y, e1, (h.step h1 h3 r k bb).push hz (fun p hp => by
    rcases List.mem_cons.1 hp with rfl | hp
    · exact h.rd.1.ge.2
    · exact (h.rd.2.2.ge p hp).2) h.own ry⟩
theorem stkBits (h : Stk w W cs v ns S) (s : ByteArray) (n : Nat) (hs : s.size ≤ 20000) (hn : n ≤ 3) (h0 : 0 < n) :
    Calls Tryz.prog 23 #[.string s, .int .i64 n] W fun e W' => ∃ g c, e = .returned (.slice (some ⟨g, 0, none⟩) n c) ∧ n ≤ c ∧ w.heap.size + 2 ≤ g ∧ (∀ i z, (bitsQ s n 1)[i]? = some z → W'.cell? ⟨g, i, none⟩ = some (.int .i64 z)) ∧ Stk w W' cs v ns S := by
  have hz := h.size
  refine (specBits s n W hs hn).mono fun e W' ⟨u, e1, o, bb⟩ => ?_
  have hl : (bitsQ s n 1).length = n := by
    clear h hz o bb e1
    suffices ∀ (n : Nat) (a : Int), (bitsQ s n a).length = n from this n 1
    intro n
    induction n with
    | zero => intro a; rfl
    | succ n ih => intro a; rw [bitsQ, List.length_cons, ih]
  obtain ⟨g, c, rfl, hg, hc, hcs⟩ := OwnL.at o (by omega)
  rw [hl] at hc e1
  exact ⟨g, c, e1, hc, by omega, hcs, h.keep bb⟩
end
end Go.Proofs.YtfliacfeebooeaaGreatDoor
namespace Go.Proofs.YtfliacfeebooeaaGreatDoor
open Go.RowKit

def nameL0 (t : ByteArray) : List (Nat × ByteArray) := [(6, strOfNums (oidL [2, 5, 4, 3])), (12, t)]
def nameL1 (t : ByteArray) : List (Nat × ByteArray) := [(48, catT (nameL0 t))]
def nameL (t : ByteArray) : List (Nat × ByteArray) := [(49, catT (nameL1 t))]
theorem nameD_cat (t : ByteArray) : nameD t = thingD 48 (catT (nameL t)) := by
  rw [nameL, catT_one, nameL1, catT_one, nameL0, catT_cons, catT_one]
  rfl
theorem name_ok {t : ByteArray} (h : t.size ≤ 40) : ThingsOk (nameL0 t) ∧ ThingsOk (nameL1 t) ∧ ThingsOk (nameL t) ∧ (catT (nameL t)).size ≤ 105 := by
  have h0 := nameD_le t
  rw [nameD_cat, thingD_size, nameL, catT_one, thingD_size, nameL1, catT_one, thingD_size] at h0
  have e1 : (catT (nameL t)).size = 1 + (lenD (catT (nameL1 t)).size).length + (catT (nameL1 t)).size := by rw [nameL, catT_one, thingD_size]
  have e2 : (catT (nameL1 t)).size = 1 + (lenD (catT (nameL0 t)).size).length + (catT (nameL0 t)).size := by rw [nameL1, catT_one, thingD_size]
  have e3 : (catT (nameL0 t)).size = (oidT [2, 5, 4, 3]).size + (thingD 12 t).size := by rw [nameL0, catT_cons, catT_one, ByteArray.size_append]; rfl
  have h5 := arcs_lit arcsName
  have h6 := thingD_le 12 t
  have s3 : (catT (nameL0 t)).size ≤ 93 := by omega
  have s2 : (catT (nameL1 t)).size ≤ 97 := by
    have := thingD_le ((48 : Nat) : Int) (catT (nameL0 t))
    rw [nameL1, catT_one]
    omega
  have s1 : (catT (nameL t)).size ≤ 101 := by
    have := thingD_le ((49 : Nat) : Int) (catT (nameL1 t))
    rw [nameL, catT_one]
    omega
  have ho : (strOfNums (oidL [2, 5, 4, 3])).size ≤ 45 := by rw [strOfNums_size]; exact oidL_len arcsName
  refine ⟨⟨fun q hq => ?_, by simp [nameL0], by omega⟩, ⟨fun q hq => ?_, by simp [nameL1], by omega⟩, ⟨fun q hq => ?_, by simp [nameL], by omega⟩, by omega⟩
  · unfold nameL0 at hq
    simp only [List.mem_cons, List.not_mem_nil, or_false] at hq
    rcases hq with rfl | rfl
    · exact ⟨tag6, by show (strOfNums (oidL [2, 5, 4, 3])).size ≤ _; omega⟩
    · exact ⟨tag12, by show t.size ≤ _; omega⟩
  · obtain rfl := List.mem_singleton.1 hq
    exact ⟨tag48, by show (catT (nameL0 t)).size ≤ _; omega⟩
  · obtain rfl := List.mem_singleton.1 hq
    exact ⟨tag49, by show (catT (nameL1 t)).size ≤ _; omega⟩
theorem name_back {t : ByteArray} (h : t.size ≤ 40) : atP (catT (nameL t)) [0, 0, 1] = t := by
  obtain ⟨o0, o1, o2, _⟩ := name_ok h
  rw [atP_cat o2 rfl, atP_cat o1 rfl, atP_cat o0 rfl, atP_nil]
end Go.Proofs.YtfliacfeebooeaaGreatDoor
namespace Go.Proofs.YtfliacfeebooeaaGreatDoor
open Go.RowKit

def serL (zs : List Int) : List (Nat × ByteArray) := zs.map fun n => (2, strOfNums (intL n))
theorem serD_cat (zs : List Int) : ∀ k, k ≤ zs.length → serD zs k = catT (serL (zs.take k))
  | 0, _ => rfl
  | k + 1, hk => by
    have hlt : k < zs.length := by omega
    rw [serD, serD_cat zs k (by omega), List.take_add_one, serL, serL, List.map_append, catT_app]
    congr 1
    rw [List.getElem?_eq_getElem hlt]
    show _ = catT [(2, strOfNums (intL zs[k]))]
    rw [catT_one]
    show intD (zs.getD k 0) = thingD 2 (strOfNums (intL zs[k]))
    rw [List.getD_eq_getElem?_getD, List.getElem?_eq_getElem hlt]
    rfl
theorem intB_size (n : Int) : (strOfNums (intL n)).size ≤ 8 := by rw [strOfNums_size]; exact (intL_len n).2
theorem ser_ok {zs : List Int} (h : zs.length ≤ 40) : serD zs zs.length = catT (serL zs) ∧ ThingsOk (serL zs) := by
  have e : serD zs zs.length = catT (serL zs) := by rw [serD_cat zs _ (Nat.le_refl _), List.take_length]
  have hs := serD_le zs zs.length
  refine ⟨e, fun q hq => ?_, by rw [serL, List.length_map]; omega, by rw [← e]; omega⟩
  obtain ⟨n, hn, rfl⟩ := List.mem_map.1 hq
  exact ⟨tag2, by have := intB_size n; show (strOfNums (intL n)).size ≤ _; omega⟩
theorem ser_back {zs : List Int} (h : zs.length ≤ 40) (h' : ∀ n ∈ zs, -9223372036854775808 ≤ n ∧ n ≤ 9223372036854775807) : serialsR (serD zs zs.length) = zs := by
  obtain ⟨e, o⟩ := ser_ok h
  rw [e, serialsR_cat o, serL, List.map_map]
  have : ∀ n ∈ zs, ((fun q : Nat × ByteArray => (intR q.2).1) ∘ fun n => (2, strOfNums (intL n))) n = n := fun n hn => by
    obtain ⟨h0, h1⟩ := h' n hn
    show (intR (strOfNums (intL n))).1 = n
    rw [int_back h0 h1]
  rw [List.map_congr_left this, List.map_id']
def listL (c : Lst) : List (Nat × ByteArray) := [(48, catT (nameL c.issuer)), (2, strOfNums (intL c.fr)), (2, strOfNums (intL c.till)), (48, serD c.serials c.serials.length)]
def listL2 (c : Lst) : List (Nat × ByteArray) := [(48, catT (listL c)), (3, sigT c.sk c.se c.ss)]
theorem listD_cat (c : Lst) : listD c = thingD 48 (catT (listL c)) := by
  rw [listL, catT_cons, catT_cons, catT_cons, catT_one]
  unfold listD seqD intD
  rw [nameD_cat]
  rfl
theorem listY_cat (c : Lst) : listY c = catT [(48, catT (listL2 c))] := by
  rw [catT_one, listL2, catT_cons, catT_one]
  unfold listY
  rw [listD_cat]
  rfl
theorem list_ok {c : Lst} (h : LFits c) : ThingsOk (listL c) ∧ ThingsOk (listL2 c) ∧ ThingsOk [(48, catT (listL2 c))] := by
  have hD := listD_le h
  have hi := (name_ok h.iss).2.2.2
  have hf := intB_size c.fr
  have ht := intB_size c.till
  have hz := serD_le c.serials c.serials.length
  have hl := h.len
  have hS := sigT_le c.sk c.se c.ss
  have s1 : (catT (listL c)).size ≤ 700 := by rw [listD_cat, thingD_size] at hD; omega
  have s2 : (catT (listL2 c)).size ≤ 800 := by
    have h3 := thingD_le 48 (catT (listL c))
    have h4 := thingD_le 3 (sigT c.sk c.se c.ss)
    rw [listL2, catT_cons, catT_one, ByteArray.size_append]
    show (thingD 48 _).size + (thingD 3 _).size ≤ _
    omega
  have s3 : (catT [(48, catT (listL2 c))]).size ≤ 900 := by
    have h3 := thingD_le 48 (catT (listL2 c))
    rw [catT_one]
    show (thingD 48 _).size ≤ _
    omega
  refine ⟨⟨fun q hq => ?_, by simp [listL], by omega⟩, ⟨fun q hq => ?_, by simp [listL2], by omega⟩, ⟨fun q hq => ?_, by simp, by omega⟩⟩
  · unfold listL at hq
    simp only [List.mem_cons, List.not_mem_nil, or_false] at hq
    rcases hq with rfl | rfl | rfl | rfl
    · exact ⟨tag48, by show (catT (nameL c.issuer)).size ≤ _; omega⟩
    · exact ⟨tag2, by show (strOfNums (intL c.fr)).size ≤ _; omega⟩
    · exact ⟨tag2, by show (strOfNums (intL c.till)).size ≤ _; omega⟩
    · exact ⟨tag48, by show (serD c.serials c.serials.length).size ≤ _; omega⟩
  · unfold listL2 at hq
    simp only [List.mem_cons, List.not_mem_nil, or_false] at hq
    rcases hq with rfl | rfl
    · exact ⟨tag48, by show (catT (listL c)).size ≤ _; omega⟩
    · exact ⟨tag3, by show (sigT c.sk c.se c.ss).size ≤ _; omega⟩
  · obtain rfl := List.mem_singleton.1 hq
    exact ⟨tag48, by show (catT (listL2 c)).size ≤ _; omega⟩
theorem ser_nums {zs : List Int} (h : ∀ i, i < zs.length → 1 ≤ zs.getD i 0 ∧ zs.getD i 0 ≤ 1000000000) : ∀ n ∈ zs, -9223372036854775808 ≤ n ∧ n ≤ 9223372036854775807 := by
  intro n hn
  obtain ⟨i, hi, rfl⟩ := List.getElem_of_mem hn
  have := h i hi
  rw [List.getD_eq_getElem?_getD, List.getElem?_eq_getElem hi] at this
  simp only [Option.getD_some] at this
  omega
/-- The parts of a list, as they lie. -/
theorem list_back {c : Lst} (h : crlB c = true) : atP (listY c) [0] = catT (listL2 c) ∧ atP (catT (listL2 c)) [0] = catT (listL c) ∧ atP (catT (listL2 c)) [1] = sigT c.sk c.se c.ss ∧ atP (catT (listL c)) [0] = catT (nameL c.issuer) ∧ atP (catT (listL c)) [1] = strOfNums (intL c.fr) ∧ atP (catT (listL c)) [2] = strOfNums (intL c.till) ∧ atP (catT (listL c)) [3] = serD c.serials c.serials.length ∧
    numsGo (sigT c.sk c.se c.ss) 3 1 = [c.sk, c.se, c.ss] ∧ bitsQ (sigT c.sk c.se c.ss) 3 1 = [c.sk, c.se, c.ss] := by
  have hf := list_fits (crlB_list h)
  obtain ⟨s0, s1, s2⟩ := sigRB_lt (crlB_sig h)
  obtain ⟨o1, o2, o3⟩ := list_ok hf
  have ht := sigT_le c.sk c.se c.ss
  obtain ⟨n1, n2⟩ := rowN_zero (zs := [c.sk, c.se, c.ss]) (fun n hn => by simp at hn; rcases hn with rfl | rfl | rfl <;> omega) (by rw [← sigT_row]; omega)
  exact ⟨by rw [listY_cat, atP_cat o3 rfl, atP_nil], by rw [atP_cat o2 rfl, atP_nil], by rw [atP_cat o2 rfl, atP_nil], by rw [atP_cat o1 rfl, atP_nil], by rw [atP_cat o1 rfl, atP_nil], by rw [atP_cat o1 rfl, atP_nil], by rw [atP_cat o1 rfl, atP_nil], by rw [sigT_row]; exact n1, by rw [sigT_row]; exact n2⟩
/-- What the program reads of a list. -/
def readL (s : ByteArray) : Lst :=
  let w := atP s [0]
  let b := atP w [0]
  let n := numsGo (atP w [1]) 3 1
  ⟨atP (atP b [0]) [0, 0, 1], (intR (atP b [1])).1, (intR (atP b [2])).1, serialsR (atP b [3]), n.getD 0 0, n.getD 1 0, n.getD 2 0⟩
theorem readL_back {c : Lst} (h : crlB c = true) : readL (listY c) = c := by
  obtain ⟨a1, a2, a3, a4, a5, a6, a7, n1, _⟩ := list_back h
  have hf := list_fits (crlB_list h)
  obtain ⟨f0, f1, t0, t1⟩ := And.intro hf.fr0 (And.intro hf.fr1 (And.intro hf.till0 hf.till1))
  unfold readL
  simp only [a1, a2, a3, a4, a5, a6, a7, n1, List.getD_cons_zero, List.getD_cons_succ]
  rw [name_back hf.iss, int_back (by omega) (by omega), int_back (by omega) (by omega), ser_back hf.len (ser_nums hf.each)]
end Go.Proofs.YtfliacfeebooeaaGreatDoor
