/- A time lies within bounds. Plain. What a right request's parts lie between. Plain. Rows that are known whole, over calls, makings and stores. No program is named. What a function returns in a variable of its own: the variable over a call. No program is named. A row of texts of the call's own. spec.l01Split at a dot, walked. -/
import Derived.Test.YtmegmcngcehneaaGreatDoorJX04
import Derived.Test.YtmegmcngcehneaaGreatDoorJX18
import Derived.Test.YtmegmcngcehneaaGreatDoorJX17
import Derived.Test.YtmegmcngcehneaaGreatDoorJX02
import Derived.Test.YtmegmcngcehneaaGreatDoorJX11
import Derived.Deep.Cut
namespace Go.Proofs.YtmegmcngcehneaaGreatDoor

theorem timeB_in {n : Int} (h : timeB n = true) : 0 ≤ n ∧ n ≤ 1000000000 := by
  unfold timeB at h
  rw [Bool.and_eq_true] at h
  exact ⟨of_decide_eq_true h.1, of_decide_eq_true h.2⟩
end Go.Proofs.YtmegmcngcehneaaGreatDoor
open Go.RowKit Go.Lib
namespace Go.Proofs.YtmegmcngcehneaaGreatDoor
theorem three_of {l : List ByteArray} (h : l.length = 3) : ∃ a b c, l = [a, b, c] := by
  match l, h with
  | [a, b, c], _ => exact ⟨a, b, c, rfl⟩
theorem numAt_small (s : ByteArray) (p : Int) (hs : s.size ≤ 40000) : 0 ≤ (numAt s p).at' ∧ (numAt s p).at' ≤ 40000 := by
  have := numAt_any s p
  omega
theorem readLT_size (s : ByteArray) : (readLT s).1.size ≤ 2 * s.size := by
  unfold readLT
  cases h : readV (bts s) with
  | none => exact Nat.zero_le _
  | some vs =>
    have h1 := readV_len _ _ h
    rw [bts_len] at h1
    have h2 := rgi_len vs 0 0
    simp only
    rw [natT_size]
    omega
theorem readTD_size (s : ByteArray) : (readTD s).1.size ≤ 2 * s.size := by
  unfold readTD
  split
  · exact Nat.zero_le _
  cases h : readV (bts s) with
  | none => exact Nat.zero_le _
  | some vs =>
    have h1 := readV_len _ _ h
    rw [bts_len] at h1
    have h2 := rgi_len vs 0 0
    simp only
    split
    · simp only
      rw [natT_size]
      omega
    · exact Nat.zero_le _
theorem txtA_size (s : ByteArray) (p : Int) : (txtA s p).size ≤ s.size := by
  unfold txtA textR
  by_cases h1 : (numAt s p).code ≠ 0
  · rw [if_pos h1]; exact Nat.zero_le _
  rw [if_neg h1]
  by_cases h2 : (numAt s p).n < 0 ∨ 20000 < (numAt s p).n
  · rw [if_pos h2]; exact Nat.zero_le _
  rw [if_neg h2]
  by_cases h3 : (s.size : Int) - (numAt s p).n < (numAt s p).at'
  · rw [if_pos h3]; exact Nat.zero_le _
  rw [if_neg h3]
  show (s.extract _ _).size ≤ _
  rw [ByteArray.size_extract]
  omega
theorem readJS_sizes {s : ByteArray} (h : ¬ 20000 < s.size) : (readJS s).url.size ≤ maxLen ∧ (readJS s).body.size ≤ maxLen := by
  unfold readJS maxLen
  split
  · rename_i a b c e
    have ha : a.size ≤ s.size := pcs_size (by rw [e]; simp)
    have hb : b.size ≤ s.size := pcs_size (by rw [e]; simp)
    have h1 := readLT_size a
    have h2 := readLT_size b
    have h3 := txtA_size (readLT a).1 (numAt (readLT a).1 (numAt (readLT a).1 0).at').at'
    simp only [parseJ]
    omega
  · exact ⟨Nat.zero_le _, Nat.zero_le _⟩
theorem readJI_sizes {s : ByteArray} (h : ¬ 20000 < s.size) : (readJI s).url.size ≤ maxLen ∧ (readJI s).body.size ≤ maxLen := by
  unfold readJI maxLen
  split
  · rename_i a b c e
    have ha : a.size ≤ s.size := pcs_size (by rw [e]; simp)
    have hb : b.size ≤ s.size := pcs_size (by rw [e]; simp)
    have h1 := readTD_size a
    have h2 := readTD_size b
    have h3 := txtA_size (readTD a).1 (numAt (readTD a).1 (numAt (readTD a).1 0).at').at'
    simp only [parseJ]
    omega
  · exact ⟨Nat.zero_le _, Nat.zero_le _⟩
theorem right_in {key nonce : Int} {url body : ByteArray} {se ss : Int} (h : (rqB key nonce url body && sigRB key se ss) = true) :
    (-9223372036854775808 ≤ key ∧ key ≤ 9223372036854775807) ∧ (-9223372036854775808 ≤ nonce ∧ nonce ≤ 9223372036854775807) ∧ url.size ≤ 40 ∧ body.size ≤ 2000 ∧ (-9223372036854775808 ≤ se ∧ se ≤ 9223372036854775807) ∧ (-9223372036854775808 ≤ ss ∧ ss ≤ 9223372036854775807) := by
  unfold rqB at h
  simp only [Bool.and_eq_true, decide_eq_true_eq] at h
  obtain ⟨⟨h1, h2, h3, h4⟩, h5⟩ := h
  have k1 := rightG_lt h1
  have k2 := timeB_in h2
  have k3 := jurl_size h3
  obtain ⟨_, k4, k5⟩ := sigRB_lt h5
  refine ⟨⟨by omega, by omega⟩, ⟨by omega, by omega⟩, k3, h4, ⟨by omega, by omega⟩, by omega, by omega⟩
theorem tell_no {j : Rq} {s : ByteArray} (h : ¬ (j.right = true ∧ j.text = s)) : jwsTell j s = (.zero, 3) := by rw [jwsTell, if_neg h]
theorem tell_sig {j : Rq} {s : ByteArray} (h : j.right = true ∧ j.text = s) (h2 : sigCB j.key j.e j.s (jTwo j.key j.nonce j.url j.body) = false) : jwsTell j s = (.zero, 6) := by
  rw [jwsTell, if_pos h, if_neg]
  rw [h2]; decide
theorem tell_all {j : Rq} {s : ByteArray} (h : j.right = true ∧ j.text = s) (h2 : sigCB j.key j.e j.s (jTwo j.key j.nonce j.url j.body) = true) : jwsTell j s = (j, 0) := by
  rw [jwsTell, if_pos h, if_pos h2]
end Go.Proofs.YtmegmcngcehneaaGreatDoor
namespace Go.Proofs.YtmegmcngcehneaaGreatDoor
open Go.RowKit

/-- These blocks hold these cells. -/
def HasB (w : World) (l : List (Nat × List Value × TypeId)) : Prop := ∀ p ∈ l, w.heap[p.1]? = some (.cells p.2.1.toArray p.2.2 (0, 0))
theorem HasB.nil (w : World) : HasB w [] := fun p hp => by cases hp
theorem HasB.head {w : World} {b : Nat} {cs : List Value} {t : TypeId} {l : List (Nat × List Value × TypeId)} (h : HasB w ((b, cs, t) :: l)) : w.heap[b]? = some (.cells cs.toArray t (0, 0)) := h (b, cs, t) (List.mem_cons_self ..)
theorem HasB.tail {w : World} {p : Nat × List Value × TypeId} {l : List (Nat × List Value × TypeId)} (h : HasB w (p :: l)) : HasB w l := fun q hq => h q (List.mem_cons_of_mem _ hq)
theorem HasB.cons {w : World} {b : Nat} {cs : List Value} {t : TypeId} {l : List (Nat × List Value × TypeId)} (h : HasB w l) (hb : w.heap[b]? = some (.cells cs.toArray t (0, 0))) : HasB w ((b, cs, t) :: l) := fun q hq => by
  rcases List.mem_cons.1 hq with rfl | hq
  · exact hb
  · exact h q hq
theorem HasB.keep {w w' : World} {l : List (Nat × List Value × TypeId)} (h : HasB w l) (hb : Below w.heap.size w w') : HasB w' l := fun p hp => by
  rw [hb.block _ (heap_lt (h p hp))]; exact h p hp
theorem HasB.alloc {w : World} {l : List (Nat × List Value × TypeId)} (h : HasB w l) (cs : List Value) (t : TypeId) : HasB (w.alloc (.cells cs.toArray t (0, 0))) ((w.heap.size, cs, t) :: l) :=
  (h.keep ((Below.refl _ w).alloc (Nat.le_refl _) _)).cons (heap_alloc_new w _)
/-- A store into the first of them; it is none of the others. -/
theorem HasB.put {w : World} {b : Nat} {cs : List Value} {t : TypeId} {l : List (Nat × List Value × TypeId)} (h : HasB w ((b, cs, t) :: l)) (hn : ∀ p ∈ l, p.1 ≠ b) (k : Nat) (v : Value) : HasB (w.setCell ⟨b, k, none⟩ v) ((b, cs.set k v, t) :: l) :=
  HasB.cons (fun p hp => by rw [heap_setCell_other w _ _ _ (hn p hp)]; exact h.tail p hp) (rowSet _ h.head)
theorem HasB.lt {w : World} {l : List (Nat × List Value × TypeId)} (h : HasB w l) : ∀ p ∈ l, p.1 < w.heap.size := fun p hp => heap_lt (h p hp)
end Go.Proofs.YtmegmcngcehneaaGreatDoor
namespace Go.Proofs.YtmegmcngcehneaaGreatDoor
open Go.RowKit

theorem resKeep {w w1 : World} {cs : List Value} {T : Nat} (hb : Below (w.alloc (.cells cs.toArray T (0, 0))).heap.size (w.alloc (.cells cs.toArray T (0, 0))) w1) :
    w1.heap[w.heap.size]? = some (.cells cs.toArray T (0, 0)) ∧ Below w.heap.size w w1 ∧ w.heap.size < w1.heap.size := by
  have hs : (w.alloc (.cells cs.toArray T (0, 0))).heap.size = w.heap.size + 1 := by simp
  have hl := hb.size
  refine ⟨?_, ((Below.refl _ w).alloc (Nat.le_refl _) _).trans (hb.mono (by omega)), by omega⟩
  rw [hb.block w.heap.size (by omega)]
  exact heap_alloc_new w _
theorem rowFree {w : World} {g : Nat} {cs : List Value} {t : TypeId} (hg : w.heap[g]? = some (.cells cs.toArray t (0, 0))) (j : Nat) : w.frozen? ⟨g, j, none⟩ = false := frozen_of_row w g j _ t hg
/-- Three cells of a variable. -/
theorem cells3 {w : World} {g : Nat} {a b c : Value} {t : TypeId} (h : w.heap[g]? = some (.cells [a, b, c].toArray t (0, 0))) :
    (w.cell? ⟨g, 0, none⟩ = some a ∧ w.cell? ⟨g, 1, none⟩ = some b ∧ w.cell? ⟨g, 2, none⟩ = some c) ∧ w.frozen? ⟨g, 0, none⟩ = false ∧ w.frozen? ⟨g, 1, none⟩ = false ∧ w.frozen? ⟨g, 2, none⟩ = false :=
  ⟨⟨rowFacts h 0 _ rfl, rowFacts h 1 _ rfl, rowFacts h 2 _ rfl⟩, rowFree h 0, rowFree h 1, rowFree h 2⟩
theorem cells2 {w : World} {g : Nat} {a b : Value} {t : TypeId} (h : w.heap[g]? = some (.cells [a, b].toArray t (0, 0))) :
    (w.cell? ⟨g, 0, none⟩ = some a ∧ w.cell? ⟨g, 1, none⟩ = some b) ∧ w.frozen? ⟨g, 0, none⟩ = false ∧ w.frozen? ⟨g, 1, none⟩ = false :=
  ⟨⟨rowFacts h 0 _ rfl, rowFacts h 1 _ rfl⟩, rowFree h 0, rowFree h 1⟩
theorem cells4 {w : World} {g : Nat} {a b c d : Value} {t : TypeId} (h : w.heap[g]? = some (.cells [a, b, c, d].toArray t (0, 0))) :
    (w.cell? ⟨g, 0, none⟩ = some a ∧ w.cell? ⟨g, 1, none⟩ = some b ∧ w.cell? ⟨g, 2, none⟩ = some c ∧ w.cell? ⟨g, 3, none⟩ = some d) ∧ w.frozen? ⟨g, 0, none⟩ = false ∧ w.frozen? ⟨g, 1, none⟩ = false ∧ w.frozen? ⟨g, 2, none⟩ = false ∧ w.frozen? ⟨g, 3, none⟩ = false :=
  ⟨⟨rowFacts h 0 _ rfl, rowFacts h 1 _ rfl, rowFacts h 2 _ rfl, rowFacts h 3 _ rfl⟩, rowFree h 0, rowFree h 1, rowFree h 2, rowFree h 3⟩
end Go.Proofs.YtmegmcngcehneaaGreatDoor
namespace Go.Proofs.YtmegmcngcehneaaGreatDoor
open Go.RowKit

def OwnS (w : World) (B : Nat) (v : Value) (l : List ByteArray) : Prop := w.ownsRow B 9 1 v l.length (sCells l)
theorem OwnS.keep {w w' : World} {B : Nat} {v : Value} {l : List ByteArray} (h : OwnS w B v l) (hb : Below w.heap.size w w') : OwnS w' B v l := by
  refine ⟨h.1, ?_⟩
  rcases h.2 with h | ⟨g, cap, cur, e, h1, h2, h3⟩
  · exact .inl h
  · exact .inr ⟨g, cap, cur, e, h1, by rw [hb.block g (heap_lt h2)]; exact h2, h3⟩
theorem OwnS.mono {w : World} {B B' : Nat} {v : Value} {l : List ByteArray} (h : OwnS w B v l) (hB : B' ≤ B) : OwnS w B' v l := by
  refine ⟨h.1, ?_⟩
  rcases h.2 with h | ⟨g, cap, cur, e, h1, h3⟩
  · exact .inl h
  · exact .inr ⟨g, cap, cur, e, Nat.le_trans hB h1, h3⟩
theorem OwnS.form {w : World} {B : Nat} {v : Value} {l : List ByteArray} (h : OwnS w B v l) : ∃ a c, v = .slice a l.length c ∧ l.length ≤ c := by
  rcases h.2 with ⟨h, h'⟩ | ⟨g, cap, _, e, _, _, hc, _⟩
  · exact ⟨none, 0, by rw [h']; exact h, by omega⟩
  · exact ⟨_, _, e, hc⟩
theorem ownS_nil (w : World) (B : Nat) : OwnS w B (.slice none 0 0) [] := ⟨rfl, .inl ⟨rfl, rfl⟩⟩
theorem OwnS.strs {w : World} {B : Nat} {a : Option Addr} {n c : Nat} {l : List ByteArray} (h : OwnS w B (.slice a n c) l) : IsStrs w a l := by
  rcases h.2 with ⟨_, h'⟩ | ⟨g, cap, cur, e, _, hg, _, _, _, ht⟩
  · exact .inl (List.eq_nil_of_length_eq_zero h')
  · simp only [Value.slice.injEq] at e
    obtain ⟨rfl, _, _⟩ := e
    refine .inr ⟨g, 0, rfl, fun i hi => ?_⟩
    have k0 := sCells_at hi
    rw [← ht, List.getElem?_take, if_pos (by omega)] at k0
    rw [Nat.zero_add, cell_of_row w g _ _ _ (0, 0) hg]
    simpa using k0
theorem OwnS.ge {w : World} {B g : Nat} {v : Value} {l : List ByteArray} (h : OwnS w B v l) (e : v.ownBlock = some g) : B ≤ g ∧ g < w.heap.size :=
  (show World.ownsRow w B 9 1 v l.length (sCells l) from h).lt g e
/-- It stands where its blocks are as they were. -/
theorem OwnS.same {w w' : World} {B : Nat} {v : Value} {l : List ByteArray} (h : OwnS w B v l) (hs : ∀ k, B ≤ k → k < w.heap.size → w'.heap[k]? = w.heap[k]?) : OwnS w' B v l := by
  refine ⟨h.1, ?_⟩
  rcases h.2 with h | ⟨g, cap, cur, e, h1, h2, h3⟩
  · exact .inl h
  · exact .inr ⟨g, cap, cur, e, h1, by rw [hs g h1 (heap_lt h2)]; exact h2, h3⟩
theorem take_snoc (l : List ByteArray) {k : Nat} (h : k < l.length) : l.take (k + 1) = l.take k ++ [tAt l k] := by
  rw [List.take_succ_eq_append_getElem h, tAt, List.getD, List.getElem?_eq_getElem h]; rfl
/-- It stands where all blocks but one that is not its own are as they were. -/
theorem OwnS.off {w w' : World} {B q : Nat} {v : Value} {l : List ByteArray} (h : OwnS w B v l) (hq : v.ownBlock ≠ some q) (hs : ∀ k, k ≠ q → w'.heap[k]? = w.heap[k]?) : OwnS w' B v l := by
  refine ⟨h.1, ?_⟩
  rcases h.2 with h | ⟨g, cap, cur, e, h1, h2, h3⟩
  · exact .inl h
  · exact .inr ⟨g, cap, cur, e, h1, by rw [hs g (fun e' => hq (by rw [e, ← e']; rfl))]; exact h2, h3⟩
theorem oneCell_texts (l : List ByteArray) : ∀ u ∈ sCells l, u.oneCell' = true := by
  intro u hu
  simp only [sCells, List.mem_map] at hu
  obtain ⟨s, _, rfl⟩ := hu
  rfl
end Go.Proofs.YtmegmcngcehneaaGreatDoor
namespace Go.Proofs.YtmegmcngcehneaaGreatDoor
open Go.RowKit Go.Lib

set_option linter.unusedSimpArgs false in
set_option maxHeartbeats 4000000 in
set_option maxRecDepth 100000 in
theorem specSplit (s : ByteArray) (w : World) (hs : s.size ≤ 20000) :
    Calls Tryz.prog 20 #[.string s, .int .u8 46] w fun e w' => ∃ v, e = .returned v ∧ OwnS w' w.heap.size v (pcs s) ∧ Below w.heap.size w w' := by
  obtain ⟨i0, hi, hz0, hz1, hz2⟩ := info_parts infoText
  obtain ⟨R, hR⟩ : ∃ R, R = pcs s := ⟨_, rfl⟩
  have hRl := pcs_len s
  rw [← hR] at hRl ⊢
  have HRl : Hid (R.length ≤ 20001) := by show _ ≤ _; omega
  have HR : Hid (R = [] ++ (spl ((bts s).drop 0) (((bts s).drop 0).take (0 - 0))).map natT) := by show _ = _; rw [hR]; simp [pcs]
  clear hR hRl
  go_enter Tryz.func20, Tryz.ntmps20
  go_wp2
  go_loopw [5, 6, 7] (fun v f i wr => ∃ (k j : Nat) (pre : List ByteArray), i = .int .i64 k ∧ f = .int .i64 j ∧ j ≤ k ∧ k ≤ s.size ∧ OwnS wr w.heap.size v pre ∧ R = pre ++ (spl ((bts s).drop k) (((bts s).drop j).take (k - j))).map natT ∧ Below w.heap.size w wr) (fun _ _ i _ => s.size - (RowKit.intOf i).toNat)
  case atStart =>
    exact ⟨0, 0, [], rfl, rfl, Nat.le_refl _, Nat.zero_le _, World.ownsRow_made _ #[] 0 (Nat.le_refl _) (Nat.zero_le _) rfl, HR.out, (Below.refl _ _).alloc (Nat.le_refl _) _⟩
  case round =>
    obtain ⟨k, j, pre, rfl, rfl, hj, hk, hown, hat, hbel⟩ := hrel
    have HB : Hid (Below w.heap.size w wr) := hbel
    have HO : Hid (OwnS wr w.heap.size _ pre) := hown
    have HT : Hid _ := hat
    have hsz : w.heap.size ≤ wr.heap.size := hbel.size
    clear hown hat hbel HR
    obtain ⟨va, vc, rfl, _⟩ := OwnS.form HO.out
    obtain ⟨pl, hpl⟩ : ∃ p, p = pre.length := ⟨_, rfl⟩
    have HPl : Hid (pl = pre.length) := hpl
    have hO : wr.ownsRow w.heap.size 9 1 (.slice va pl vc) pl (sCells pre) := by
      have h2 := HO.out
      unfold OwnS at h2
      rw [← hpl] at h2
      exact h2
    rw [← hpl]
    clear hpl
    by_cases hlt : k < s.size
    rotate_left
    · obtain rfl : k = s.size := by omega
      have hRp : R = pre ++ [s.extract j s.size] := by
        rw [HT.out, bts_end s _ (Nat.le_refl _), spl, List.map_cons, List.map_nil, natT_extract s j s.size]
      have hbd : pl + 1 ≤ 20001 := by
        have h1 := HRl.out
        rw [hRp, List.length_append] at h1
        rw [HPl.out]
        exact h1
      have q2 : ¬ (s.size : Int) < (s.size : Int) := by omega
      have q3 : (0 : Int) ≤ (j : Int) := Int.natCast_nonneg _
      have q4 : (j : Int) ≤ (s.size : Int) := by omega
      have HRp : Hid (R = pre ++ [s.extract j s.size]) := hRp
      clear hRp HT
      go_wp2_with (at_builtin; refine wpList_append_own _ rfl _ _ 37 rfl w.heap.size 9 i0 (.string ⟨#[]⟩) 1 16 Tryz.underlying37 hi hz0 hz1 hz2 rfl (by decide) _ _ _ rfl (hO.alloc _) ⟨wr.heap.size, 0, none⟩ 1 1 [.string (s.extract j s.size)] rfl rfl (cells_one (by simp)) (by simp [Value.oneCell']) (by unfold maxLen; omega) (by omega) (by simp; omega) ?_)
      intro y w2 hown2 hgrow2 _
      have B2 : Hid (Below w.heap.size w w2) := (HB.out.alloc hsz _).grown hgrow2 (by simp; omega) (fun j hj => (hO.lt j hj).1)
      have O2 : Hid (OwnS w2 w.heap.size y (pre ++ [s.extract j s.size])) := by
        show World.ownsRow _ _ _ _ _ _ _
        rw [List.length_append, ← HPl.out, sCells, List.map_append]
        exact hown2
      clear hown2 hgrow2 hO HO HB
      go_wp2
      go_ret
      exact ⟨_, rfl, by rw [HRp.out]; exact O2.out, B2.out⟩
    have q1 : (0 : Int) ≤ (k : Int) := Int.natCast_nonneg _
    have q2 : (k : Int) < (s.size : Int) := by omega
    have q3 : (0 : Int) ≤ (j : Int) := Int.natCast_nonneg _
    have q4 : (j : Int) ≤ (k : Int) := by omega
    have q5 : (k : Int) ≤ (s.size : Int) := by omega
    have hdk := bts_drop s k hlt
    have htk : ((bts s).drop j).take (k + 1 - j) = ((bts s).drop j).take (k - j) ++ [s[k].toNat] := by
      have hl : k - j < ((bts s).drop j).length := by rw [List.length_drop, bts_len]; omega
      rw [show k + 1 - j = k - j + 1 from by omega, List.take_succ_eq_append_getElem hl]
      congr 2
      have h2 := congrArg (fun l => l[0]?) hdk
      rw [List.getElem?_drop, List.getElem?_cons_zero, Nat.add_zero] at h2
      rw [List.getElem_drop]
      have h3 : j + (k - j) = k := by omega
      have h4 : (bts s)[j + (k - j)]? = some s[k].toNat := by rw [h3]; exact h2
      rw [List.getElem?_eq_getElem (by rw [bts_len]; omega)] at h4
      exact Option.some.inj h4
    have hu := u8_lt s[k]
    by_cases h46 : s[k].toNat = 46
    · have hb : ((s[k].toNat : Int) == 46) = true := by rw [h46]; rfl
      have HRp : Hid (R = (pre ++ [s.extract j k]) ++ (spl ((bts s).drop (k + 1)) (((bts s).drop (k + 1)).take (k + 1 - (k + 1)))).map natT) := by
        show _ = _
        rw [HT.out, hdk, spl, if_pos h46, List.map_cons, natT_extract s j k]
        simp
      have hbd : pl + 1 ≤ 20001 := by
        have h1 := HRl.out
        rw [HRp.out, List.length_append, List.length_append] at h1
        rw [HPl.out]
        simp only [List.length_cons, List.length_nil] at h1
        omega
      clear hdk htk HT h46 hu
      go_wp2_with (at_builtin; refine wpList_append_own _ rfl _ _ 37 rfl w.heap.size 9 i0 (.string ⟨#[]⟩) 1 16 Tryz.underlying37 hi hz0 hz1 hz2 rfl (by decide) _ _ _ rfl (hO.alloc _) ⟨wr.heap.size, 0, none⟩ 1 1 [.string (s.extract j k)] rfl rfl (cells_one (by simp)) (by simp [Value.oneCell']) (by unfold maxLen; omega) (by omega) (by simp; omega) ?_)
      intro y w2 hown2 hgrow2 _
      have B2 : Hid (Below w.heap.size w w2) := (HB.out.alloc hsz _).grown hgrow2 (by simp; omega) (fun j hj => (hO.lt j hj).1)
      have O2 : Hid (OwnS w2 w.heap.size y (pre ++ [s.extract j k])) := by
        show World.ownsRow _ _ _ _ _ _ _
        rw [List.length_append, ← HPl.out, sCells, List.map_append]
        exact hown2
      clear hown2 hgrow2 hO HO HB
      go_wp2
      go_roundw
      case rel => exact ⟨k + 1, k + 1, _, by go_num, by go_num, Nat.le_refl _, by omega, O2.out, HRp.out, B2.out⟩
      case measure => simp [RowKit.intOf]; omega
    · have hb : ((s[k].toNat : Int) == 46) = false := by
        rw [beq_eq_false_iff_ne]
        omega
      have HRp : Hid (R = pre ++ (spl ((bts s).drop (k + 1)) (((bts s).drop j).take (k + 1 - j))).map natT) := by
        show _ = _
        rw [HT.out, hdk, spl, if_neg h46, htk]
      clear hdk htk HT hO
      go_wp2
      go_roundw
      case rel => exact ⟨k + 1, j, pre, by go_num, by go_num, by omega, by omega, by have h2 := HO.out; rw [← HPl.out] at h2; exact h2, HRp.out, HB.out⟩
      case measure => simp [RowKit.intOf]; omega
end Go.Proofs.YtmegmcngcehneaaGreatDoor
