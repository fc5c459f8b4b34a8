/- spec.JwsSign, walked. Rows that are known whole, over calls, makings and stores. No program is named. A row of texts of the call's own. spec.l01Split at a dot, walked. spec.l09Sign, walked. -/
import Derived.Test.YtjkmfjegphpjkaaGreatDoorJW10
import Derived.Test.YtjkmfjegphpjkaaGreatDoorJW12
import Derived.Test.YtjkmfjegphpjkaaGreatDoorJW01
import Derived.Test.YtjkmfjegphpjkaaGreatDoorJW02
import Derived.Test.YtjkmfjegphpjkaaGreatDoorJW06
import Derived.Deep.Cut
namespace Go.Proofs.YtjkmfjegphpjkaaGreatDoor
open Go.RowKit Go.Lib

theorem specNameB (s : ByteArray) (w : World) (hs : s.size ≤ maxLen) :
    Calls Tryz.prog 38 #[.string s] w fun e w' => e = .returned (.bool (nameB s)) ∧ w' = w :=
  (specName s w hs).mono fun _ _ h => ⟨ans_name h.1, h.2⟩
set_option linter.unusedSimpArgs false in
set_option maxHeartbeats 4000000 in
set_option maxRecDepth 100000 in
theorem specJwsSign (x nonce : Int) (url body : ByteArray) (w : World) (x0 : -9223372036854775808 ≤ x) (x1 : x ≤ 9223372036854775807) (n0 : -9223372036854775808 ≤ nonce) (n1 : nonce ≤ 9223372036854775807) (hu : url.size ≤ 1048576) (hbb : body.size ≤ 1048576) :
    Calls Tryz.prog 13 #[.int .i64 x, .int .i64 nonce, .string url, .string body] w fun e w' => e = .returned (.string (jSign x nonce url body)) ∧ Below w.heap.size w w' := by
  have HSc : Hid (∀ V, Calls Tryz.prog 36 #[.int .i64 x] V fun e w' => e = .returned (.bool (secB x)) ∧ w' = V) := fun V => specSecret x V
  have HTm : Hid (∀ V, Calls Tryz.prog 37 #[.int .i64 nonce, .int .i64 0, .int .i64 1000000000] V fun e w' => e = .returned (.bool (timeB nonce)) ∧ w' = V) := fun V => specIs nonce 0 1000000000 V
  have HNm : Hid (∀ V, Calls Tryz.prog 38 #[.string url] V fun e w' => e = .returned (.bool (nameB url)) ∧ w' = V) := fun V => specNameB url V (by unfold maxLen; omega)
  have HNo : Hid (¬ (secB x = true ∧ timeB nonce = true ∧ nameB url = true ∧ body.size ≤ 2000) → jSign x nonce url body = ⟨#[]⟩) := fun h => by rw [jSign, if_neg h]
  have HU : Hid (nameB url = true → url.size ≤ 40) := jurl_size
  go_enter Tryz.func13, Tryz.ntmps13
  by_cases u1 : 20000 < url.size
  · have HF : Hid _ := HNo.out (fun h => by have := HU.out h.2.2.1; omega)
    go_wp2
    go_ret
    exact ⟨by rw [HF.out]; rfl, Below.refl _ _⟩
  by_cases u2 : 20000 < body.size
  · have HF : Hid _ := HNo.out (fun h => by omega)
    go_wp2
    go_ret
    exact ⟨by rw [HF.out]; rfl, Below.refl _ _⟩
  cases hs : secB x with
  | false =>
    have HF : Hid _ := HNo.out (fun h => by rw [hs] at h; cases h.1)
    rw [hs] at HSc
    clear HNo
    go_wp2_with fail
    refine (HSc.out w).mono ?_
    rintro e w' ⟨rfl, rfl⟩
    go_wp2
    go_ret
    exact ⟨by rw [HF.out]; rfl, Below.refl _ _⟩
  | true =>
  cases ht : timeB nonce with
  | false =>
    have HF : Hid _ := HNo.out (fun h => by rw [ht] at h; cases h.2.1)
    rw [hs] at HSc
    rw [ht] at HTm
    clear HNo
    go_wp2_with fail
    refine (HSc.out w).mono ?_
    rintro e w' ⟨rfl, rfl⟩
    go_wp2_with fail
    refine (HTm.out _).mono ?_
    rintro e w' ⟨rfl, rfl⟩
    go_wp2
    go_ret
    exact ⟨by rw [HF.out]; rfl, Below.refl _ _⟩
  | true =>
  cases hn : nameB url with
  | false =>
    have HF : Hid _ := HNo.out (fun h => by rw [hn] at h; cases h.2.2.1)
    rw [hs] at HSc
    rw [ht] at HTm
    rw [hn] at HNm
    clear HNo
    go_wp2_with fail
    refine (HSc.out w).mono ?_
    rintro e w' ⟨rfl, rfl⟩
    go_wp2_with fail
    refine (HTm.out _).mono ?_
    rintro e w' ⟨rfl, rfl⟩
    go_wp2_with fail
    refine (HNm.out _).mono ?_
    rintro e w' ⟨rfl, rfl⟩
    go_wp2
    go_ret
    exact ⟨by rw [HF.out]; rfl, Below.refl _ _⟩
  | true =>
  by_cases hb : body.size ≤ 2000
  rotate_left
  · have HF : Hid _ := HNo.out (fun h => hb h.2.2.2)
    rw [hs] at HSc
    rw [ht] at HTm
    rw [hn] at HNm
    clear HNo
    go_wp2_with fail
    refine (HSc.out w).mono ?_
    rintro e w' ⟨rfl, rfl⟩
    go_wp2_with fail
    refine (HTm.out _).mono ?_
    rintro e w' ⟨rfl, rfl⟩
    go_wp2_with fail
    refine (HNm.out _).mono ?_
    rintro e w' ⟨rfl, rfl⟩
    go_wp2
    go_ret
    exact ⟨by rw [HF.out]; rfl, Below.refl _ _⟩
  obtain ⟨pk, hpk⟩ : ∃ p, p = pubA x := ⟨_, rfl⟩
  have hp1 : 0 ≤ pk ∧ pk < 2147483579 := by
    rw [hpk]
    obtain ⟨n, rfl, h1, h2⟩ := secB_nat hs
    rw [pubA_nat n hs]
    have := pm_lt 4 n (m := 2147483579) (by omega)
    omega
  have hut := jurl_size hn
  obtain ⟨TW, hTW⟩ : ∃ t, t = jTwo pk nonce url body := ⟨_, rfl⟩
  have hTz : TW.size ≤ 5000 := by have := jTwo_size pk nonce url body; rw [hTW]; omega
  obtain ⟨E, hE⟩ : ∃ e, e = signE x.toNat TW := ⟨_, rfl⟩
  obtain ⟨SS, hSS⟩ : ∃ e, e = signS x.toNat TW := ⟨_, rfl⟩
  have hE1 : E < 1073741789 := by rw [hE]; exact chal_lt _ _ _
  have hS1 : SS < 1073741789 := by rw [hSS]; exact Nat.mod_lt _ (by omega)
  have hSV : signV x TW = .agg #[.int .i64 pk, .int .i64 E, .int .i64 SS] := by
    rw [signV, if_pos ⟨by omega, hs⟩, hE, hSS, hpk, pubA, if_pos hs]
    rfl
  have ht' := timeB_in ht
  have HF : Hid (jSign x nonce url body = jText pk nonce url body E SS) := by
    show _ = _
    rw [jSign, if_pos ⟨hs, ht, hn, hb⟩, hE, hSS, hTW, hpk]
  have HP : Hid (∀ V, Calls Tryz.prog 15 #[.int .i64 x] V fun e w' => e = .returned (.int .i64 pk) ∧ Below V.heap.size V w') := fun V => by rw [hpk]; exact (specPublic x V).mono fun e W h => ⟨h.1, by rw [h.2]; exact Below.refl _ _⟩
  have HH : Hid (∀ V, Calls Tryz.prog 40 #[.agg #[.int .i64 pk, .int .i64 nonce, .string url, .string body, .int .i64 0, .int .i64 0, .int .i64 0]] V fun e w' => e = .returned (.string TW) ∧ Below V.heap.size V w') := fun V => by rw [hTW]; exact specHead pk nonce url body 0 0 0 V (by omega) (by omega) hut hb
  have HG : Hid (∀ V, Calls Tryz.prog 39 #[.int .i64 x, .string TW] V fun e w' => e = .returned (.agg #[.int .i64 pk, .int .i64 E, .int .i64 SS]) ∧ Below V.heap.size V w') := fun V => by rw [← hSV]; exact specSign x TW V (by unfold maxLen; omega)
  have HX : Hid (∀ V, Calls Tryz.prog 41 #[.agg #[.int .i64 pk, .int .i64 nonce, .string url, .string body, .int .i64 pk, .int .i64 E, .int .i64 SS]] V fun e w' => e = .returned (.string (jText pk nonce url body E SS)) ∧ Below V.heap.size V w') := fun V => specText pk nonce url body pk E SS V (by omega) (by omega) hut hb (by omega) (by omega)
  rw [HF.out]
  rw [hs] at HSc
  rw [ht] at HTm
  rw [hn] at HNm
  have hb' : ¬ 2000 < body.size := by omega
  clear HNo HF HU hSV hpk hTW hTz hE hSS hE1 hS1 ht' hut hs ht hn hp1
  generalize jText pk nonce url body E SS = R at *
  go_wp2_with fail
  refine (HSc.out w).mono ?_
  rintro e w' ⟨rfl, rfl⟩
  go_wp2_with fail
  refine (HTm.out _).mono ?_
  rintro e w' ⟨rfl, rfl⟩
  go_wp2_with fail
  refine (HNm.out _).mono ?_
  rintro e w1 ⟨rfl, rfl⟩
  go_wp2_with fail
  refine (HP.out _).mono ?_
  rintro e w2 ⟨rfl, b2⟩
  obtain ⟨w3, hw3⟩ : ∃ y, y = w2.alloc (.cells #[.int .i64 pk, .int .i64 nonce, .string url, .string body, .int .i64 0, .int .i64 0, .int .i64 0] 34 (0, 0)) := ⟨_, rfl⟩
  have g3 : w3.heap[w2.heap.size]? = some (.cells [Value.int .i64 pk, .int .i64 nonce, .string url, .string body, .int .i64 0, .int .i64 0, .int .i64 0].toArray 34 (0, 0)) := by rw [hw3]; exact heap_alloc_new w2 _
  have bb3 : Below w2.heap.size w2 w3 := by rw [hw3]; exact (Below.refl _ _).alloc (Nat.le_refl _) _
  have B2 : Hid (Below w1.heap.size w1 w2) := b2
  have B3 : Hid (Below w2.heap.size w2 w3) := bb3
  have G3 : Hid _ := g3
  have d0 := rowFacts g3 0 _ rfl
  have d1 := rowFacts g3 1 _ rfl
  have d2 := rowFacts g3 2 _ rfl
  have d3 := rowFacts g3 3 _ rfl
  have d4 := rowFacts g3 4 _ rfl
  have d5 := rowFacts g3 5 _ rfl
  have d6 := rowFacts g3 6 _ rfl
  clear b2 bb3 g3
  go_upto_region 4 with fail
  rw [← hw3]
  clear hw3
  go_wp2_with fail
  refine (HH.out _).mono ?_
  rintro e w4 ⟨rfl, b4⟩
  have B4 : Hid (Below w2.heap.size w2 w4) := B3.out.trans (b4.mono B3.out.size)
  have G4 : Hid _ := (b4.block _ (heap_lt G3.out)).trans G3.out
  clear b4 d0 d1 d2 d3 d4 d5 d6 G3 B3 HH
  go_wp2_with fail
  refine (HG.out _).mono ?_
  rintro e w5 ⟨rfl, b5⟩
  have B5 : Hid (Below w2.heap.size w2 w5) := B4.out.trans (b5.mono B4.out.size)
  have g5 := (b5.block _ (heap_lt G4.out)).trans G4.out
  have p4 := rowFacts g5 4 _ rfl
  have p5 := rowFacts g5 5 _ rfl
  have p6 := rowFacts g5 6 _ rfl
  have q4 := rowFree g5 4
  have q5 := rowFree g5 5
  have q6 := rowFree g5 6
  obtain ⟨w6, hw6⟩ : ∃ y, y = (((w5.setCell ⟨w2.heap.size, 4, none⟩ (.int .i64 pk)).setCell ⟨w2.heap.size, 5, none⟩ (.int .i64 (E : Int))).setCell ⟨w2.heap.size, 6, none⟩ (.int .i64 (SS : Int))) := ⟨_, rfl⟩
  have g6 : w6.heap[w2.heap.size]? = some (.cells [Value.int .i64 pk, .int .i64 nonce, .string url, .string body, .int .i64 pk, .int .i64 E, .int .i64 SS].toArray 34 (0, 0)) := by rw [hw6]; exact rowSet (i := 6) _ (rowSet (i := 5) _ (rowSet (i := 4) _ g5))
  have B6 : Hid (Below w2.heap.size w2 w6) := by rw [hw6]; exact ((B5.out.setCell (Nat.le_refl _) _).setCell (Nat.le_refl _) _).setCell (Nat.le_refl _) _
  have G6 : Hid _ := g6
  clear g5 b5 G4 B4 B5 HG g6
  go_upto_region 5 with fail
  rw [← hw6]
  clear hw6 p4 p5 p6 q4 q5 q6
  have d0 := rowFacts G6.out 0 _ rfl
  have d1 := rowFacts G6.out 1 _ rfl
  have d2 := rowFacts G6.out 2 _ rfl
  have d3 := rowFacts G6.out 3 _ rfl
  have d4 := rowFacts G6.out 4 _ rfl
  have d5 := rowFacts G6.out 5 _ rfl
  have d6 := rowFacts G6.out 6 _ rfl
  go_wp2_with fail
  refine (HX.out _).mono ?_
  rintro e w7 ⟨rfl, b7⟩
  have B7 : Hid (Below w1.heap.size w1 w7) := B2.out.trans ((B6.out.trans (b7.mono B6.out.size)).mono B2.out.size)
  clear b7 d0 d1 d2 d3 d4 d5 d6
  go_wp2
  go_ret
  exact ⟨rfl, B7.out⟩
end Go.Proofs.YtjkmfjegphpjkaaGreatDoor
namespace Go.Proofs.YtjkmfjegphpjkaaGreatDoor
open Go.RowKit

/-- These blocks hold these cells. -/
def HasB (w : World) (l : List (Nat × List Value × TypeId)) : Prop := ∀ p ∈ l, w.heap[p.1]? = some (.cells p.2.1.toArray p.2.2 (0, 0))
theorem HasB.nil (w : World) : HasB w [] := fun p hp => by cases hp
theorem HasB.head {w : World} {b : Nat} {cs : List Value} {t : TypeId} {l : List (Nat × List Value × TypeId)} (h : HasB w ((b, cs, t) :: l)) : w.heap[b]? = some (.cells cs.toArray t (0, 0)) := h (b, cs, t) (List.mem_cons_self ..)
theorem HasB.tail {w : World} {p : Nat × List Value × TypeId} {l : List (Nat × List Value × TypeId)} (h : HasB w (p :: l)) : HasB w l := fun q hq => h q (List.mem_cons_of_mem _ hq)
theorem HasB.cons {w : World} {b : Nat} {cs : List Value} {t : TypeId} {l : List (Nat × List Value × TypeId)} (h : HasB w l) (hb : w.heap[b]? = some (.cells cs.toArray t (0, 0))) : HasB w ((b, cs, t) :: l) := fun q hq => by
  rcases List.mem_cons.1 hq with rfl | hq
  · exact hb
  · exact h q hq
theorem HasB.keep {w w' : World} {l : List (Nat × List Value × TypeId)} (h : HasB w l) (hb : Below w.heap.size w w') : HasB w' l := fun p hp => by
  rw [hb.block _ (heap_lt (h p hp))]; exact h p hp
theorem HasB.alloc {w : World} {l : List (Nat × List Value × TypeId)} (h : HasB w l) (cs : List Value) (t : TypeId) : HasB (w.alloc (.cells cs.toArray t (0, 0))) ((w.heap.size, cs, t) :: l) :=
  (h.keep ((Below.refl _ w).alloc (Nat.le_refl _) _)).cons (heap_alloc_new w _)
/-- A store into the first of them; it is none of the others. -/
theorem HasB.put {w : World} {b : Nat} {cs : List Value} {t : TypeId} {l : List (Nat × List Value × TypeId)} (h : HasB w ((b, cs, t) :: l)) (hn : ∀ p ∈ l, p.1 ≠ b) (k : Nat) (v : Value) : HasB (w.setCell ⟨b, k, none⟩ v) ((b, cs.set k v, t) :: l) :=
  HasB.cons (fun p hp => by rw [heap_setCell_other w _ _ _ (hn p hp)]; exact h.tail p hp) (rowSet _ h.head)
theorem HasB.lt {w : World} {l : List (Nat × List Value × TypeId)} (h : HasB w l) : ∀ p ∈ l, p.1 < w.heap.size := fun p hp => heap_lt (h p hp)
end Go.Proofs.YtjkmfjegphpjkaaGreatDoor
namespace Go.Proofs.YtjkmfjegphpjkaaGreatDoor
open Go.RowKit

def OwnS (w : World) (B : Nat) (v : Value) (l : List ByteArray) : Prop := w.ownsRow B 9 1 v l.length (sCells l)
theorem OwnS.keep {w w' : World} {B : Nat} {v : Value} {l : List ByteArray} (h : OwnS w B v l) (hb : Below w.heap.size w w') : OwnS w' B v l := by
  refine ⟨h.1, ?_⟩
  rcases h.2 with h | ⟨g, cap, cur, e, h1, h2, h3⟩
  · exact .inl h
  · exact .inr ⟨g, cap, cur, e, h1, by rw [hb.block g (heap_lt h2)]; exact h2, h3⟩
theorem OwnS.mono {w : World} {B B' : Nat} {v : Value} {l : List ByteArray} (h : OwnS w B v l) (hB : B' ≤ B) : OwnS w B' v l := by
  refine ⟨h.1, ?_⟩
  rcases h.2 with h | ⟨g, cap, cur, e, h1, h3⟩
  · exact .inl h
  · exact .inr ⟨g, cap, cur, e, Nat.le_trans hB h1, h3⟩
theorem OwnS.form {w : World} {B : Nat} {v : Value} {l : List ByteArray} (h : OwnS w B v l) : ∃ a c, v = .slice a l.length c ∧ l.length ≤ c := by
  rcases h.2 with ⟨h, h'⟩ | ⟨g, cap, _, e, _, _, hc, _⟩
  · exact ⟨none, 0, by rw [h']; exact h, by omega⟩
  · exact ⟨_, _, e, hc⟩
theorem ownS_nil (w : World) (B : Nat) : OwnS w B (.slice none 0 0) [] := ⟨rfl, .inl ⟨rfl, rfl⟩⟩
theorem OwnS.strs {w : World} {B : Nat} {a : Option Addr} {n c : Nat} {l : List ByteArray} (h : OwnS w B (.slice a n c) l) : IsStrs w a l := by
  rcases h.2 with ⟨_, h'⟩ | ⟨g, cap, cur, e, _, hg, _, _, _, ht⟩
  · exact .inl (List.eq_nil_of_length_eq_zero h')
  · simp only [Value.slice.injEq] at e
    obtain ⟨rfl, _, _⟩ := e
    refine .inr ⟨g, 0, rfl, fun i hi => ?_⟩
    have k0 := sCells_at hi
    rw [← ht, List.getElem?_take, if_pos (by omega)] at k0
    rw [Nat.zero_add, cell_of_row w g _ _ _ (0, 0) hg]
    simpa using k0
theorem OwnS.ge {w : World} {B g : Nat} {v : Value} {l : List ByteArray} (h : OwnS w B v l) (e : v.ownBlock = some g) : B ≤ g ∧ g < w.heap.size :=
  (show World.ownsRow w B 9 1 v l.length (sCells l) from h).lt g e
/-- It stands where its blocks are as they were. -/
theorem OwnS.same {w w' : World} {B : Nat} {v : Value} {l : List ByteArray} (h : OwnS w B v l) (hs : ∀ k, B ≤ k → k < w.heap.size → w'.heap[k]? = w.heap[k]?) : OwnS w' B v l := by
  refine ⟨h.1, ?_⟩
  rcases h.2 with h | ⟨g, cap, cur, e, h1, h2, h3⟩
  · exact .inl h
  · exact .inr ⟨g, cap, cur, e, h1, by rw [hs g h1 (heap_lt h2)]; exact h2, h3⟩
theorem take_snoc (l : List ByteArray) {k : Nat} (h : k < l.length) : l.take (k + 1) = l.take k ++ [tAt l k] := by
  rw [List.take_succ_eq_append_getElem h, tAt, List.getD, List.getElem?_eq_getElem h]; rfl
/-- It stands where all blocks but one that is not its own are as they were. -/
theorem OwnS.off {w w' : World} {B q : Nat} {v : Value} {l : List ByteArray} (h : OwnS w B v l) (hq : v.ownBlock ≠ some q) (hs : ∀ k, k ≠ q → w'.heap[k]? = w.heap[k]?) : OwnS w' B v l := by
  refine ⟨h.1, ?_⟩
  rcases h.2 with h | ⟨g, cap, cur, e, h1, h2, h3⟩
  · exact .inl h
  · exact .inr ⟨g, cap, cur, e, h1, by rw [hs g (fun e' => hq (by rw [e, ← e']; rfl))]; exact h2, h3⟩
theorem oneCell_texts (l : List ByteArray) : ∀ u ∈ sCells l, u.oneCell' = true := by
  intro u hu
  simp only [sCells, List.mem_map] at hu
  obtain ⟨s, _, rfl⟩ := hu
  rfl
end Go.Proofs.YtjkmfjegphpjkaaGreatDoor
namespace Go.Proofs.YtjkmfjegphpjkaaGreatDoor
open Go.RowKit Go.Lib

set_option linter.unusedSimpArgs false in
set_option maxHeartbeats 4000000 in
set_option maxRecDepth 100000 in
theorem specSplit (s : ByteArray) (w : World) (hs : s.size ≤ 20000) :
    Calls Tryz.prog 72 #[.string s, .int .u8 46] w fun e w' => ∃ v, e = .returned v ∧ OwnS w' w.heap.size v (pcs s) ∧ Below w.heap.size w w' := by
  obtain ⟨i0, hi, hz0, hz1, hz2⟩ := info_parts infoText
  obtain ⟨R, hR⟩ : ∃ R, R = pcs s := ⟨_, rfl⟩
  have hRl := pcs_len s
  rw [← hR] at hRl ⊢
  have HRl : Hid (R.length ≤ 20001) := by show _ ≤ _; omega
  have HR : Hid (R = [] ++ (spl ((bts s).drop 0) (((bts s).drop 0).take (0 - 0))).map natT) := by show _ = _; rw [hR]; simp [pcs]
  clear hR hRl
  go_enter Tryz.func72, Tryz.ntmps72
  go_wp2
  go_loopw [5, 6, 7] (fun v f i wr => ∃ (k j : Nat) (pre : List ByteArray), i = .int .i64 k ∧ f = .int .i64 j ∧ j ≤ k ∧ k ≤ s.size ∧ OwnS wr w.heap.size v pre ∧ R = pre ++ (spl ((bts s).drop k) (((bts s).drop j).take (k - j))).map natT ∧ Below w.heap.size w wr) (fun _ _ i _ => s.size - (RowKit.intOf i).toNat)
  case atStart =>
    exact ⟨0, 0, [], rfl, rfl, Nat.le_refl _, Nat.zero_le _, World.ownsRow_made _ #[] 0 (Nat.le_refl _) (Nat.zero_le _) rfl, HR.out, (Below.refl _ _).alloc (Nat.le_refl _) _⟩
  case round =>
    obtain ⟨k, j, pre, rfl, rfl, hj, hk, hown, hat, hbel⟩ := hrel
    have HB : Hid (Below w.heap.size w wr) := hbel
    have HO : Hid (OwnS wr w.heap.size _ pre) := hown
    have HT : Hid _ := hat
    have hsz : w.heap.size ≤ wr.heap.size := hbel.size
    clear hown hat hbel HR
    obtain ⟨va, vc, rfl, _⟩ := OwnS.form HO.out
    obtain ⟨pl, hpl⟩ : ∃ p, p = pre.length := ⟨_, rfl⟩
    have HPl : Hid (pl = pre.length) := hpl
    have hO : wr.ownsRow w.heap.size 9 1 (.slice va pl vc) pl (sCells pre) := by
      have h2 := HO.out
      unfold OwnS at h2
      rw [← hpl] at h2
      exact h2
    rw [← hpl]
    clear hpl
    by_cases hlt : k < s.size
    rotate_left
    · obtain rfl : k = s.size := by omega
      have hRp : R = pre ++ [s.extract j s.size] := by
        rw [HT.out, bts_end s _ (Nat.le_refl _), spl, List.map_cons, List.map_nil, natT_extract s j s.size]
      have hbd : pl + 1 ≤ 20001 := by
        have h1 := HRl.out
        rw [hRp, List.length_append] at h1
        rw [HPl.out]
        exact h1
      have q2 : ¬ (s.size : Int) < (s.size : Int) := by omega
      have q3 : (0 : Int) ≤ (j : Int) := Int.natCast_nonneg _
      have q4 : (j : Int) ≤ (s.size : Int) := by omega
      have HRp : Hid (R = pre ++ [s.extract j s.size]) := hRp
      clear hRp HT
      go_wp2_with (at_builtin; refine wpList_append_own _ rfl _ _ 51 rfl w.heap.size 9 i0 (.string ⟨#[]⟩) 1 16 Tryz.underlying51 hi hz0 hz1 hz2 rfl (by decide) _ _ _ rfl (hO.alloc _) ⟨wr.heap.size, 0, none⟩ 1 1 [.string (s.extract j s.size)] rfl rfl (cells_one (by simp)) (by simp [Value.oneCell']) (by unfold maxLen; omega) (by omega) (by simp; omega) ?_)
      intro y w2 hown2 hgrow2 _
      have B2 : Hid (Below w.heap.size w w2) := (HB.out.alloc hsz _).grown hgrow2 (by simp; omega) (fun j hj => (hO.lt j hj).1)
      have O2 : Hid (OwnS w2 w.heap.size y (pre ++ [s.extract j s.size])) := by
        show World.ownsRow _ _ _ _ _ _ _
        rw [List.length_append, ← HPl.out, sCells, List.map_append]
        exact hown2
      clear hown2 hgrow2 hO HO HB
      go_wp2
      go_ret
      exact ⟨_, rfl, by rw [HRp.out]; exact O2.out, B2.out⟩
    have q1 : (0 : Int) ≤ (k : Int) := Int.natCast_nonneg _
    have q2 : (k : Int) < (s.size : Int) := by omega
    have q3 : (0 : Int) ≤ (j : Int) := Int.natCast_nonneg _
    have q4 : (j : Int) ≤ (k : Int) := by omega
    have q5 : (k : Int) ≤ (s.size : Int) := by omega
    have hdk := bts_drop s k hlt
    have htk : ((bts s).drop j).take (k + 1 - j) = ((bts s).drop j).take (k - j) ++ [s[k].toNat] := by
      have hl : k - j < ((bts s).drop j).length := by rw [List.length_drop, bts_len]; omega
      rw [show k + 1 - j = k - j + 1 from by omega, List.take_succ_eq_append_getElem hl]
      congr 2
      have h2 := congrArg (fun l => l[0]?) hdk
      rw [List.getElem?_drop, List.getElem?_cons_zero, Nat.add_zero] at h2
      rw [List.getElem_drop]
      have h3 : j + (k - j) = k := by omega
      have h4 : (bts s)[j + (k - j)]? = some s[k].toNat := by rw [h3]; exact h2
      rw [List.getElem?_eq_getElem (by rw [bts_len]; omega)] at h4
      exact Option.some.inj h4
    have hu := u8_lt s[k]
    by_cases h46 : s[k].toNat = 46
    · have hb : ((s[k].toNat : Int) == 46) = true := by rw [h46]; rfl
      have HRp : Hid (R = (pre ++ [s.extract j k]) ++ (spl ((bts s).drop (k + 1)) (((bts s).drop (k + 1)).take (k + 1 - (k + 1)))).map natT) := by
        show _ = _
        rw [HT.out, hdk, spl, if_pos h46, List.map_cons, natT_extract s j k]
        simp
      have hbd : pl + 1 ≤ 20001 := by
        have h1 := HRl.out
        rw [HRp.out, List.length_append, List.length_append] at h1
        rw [HPl.out]
        simp only [List.length_cons, List.length_nil] at h1
        omega
      clear hdk htk HT h46 hu
      go_wp2_with (at_builtin; refine wpList_append_own _ rfl _ _ 51 rfl w.heap.size 9 i0 (.string ⟨#[]⟩) 1 16 Tryz.underlying51 hi hz0 hz1 hz2 rfl (by decide) _ _ _ rfl (hO.alloc _) ⟨wr.heap.size, 0, none⟩ 1 1 [.string (s.extract j k)] rfl rfl (cells_one (by simp)) (by simp [Value.oneCell']) (by unfold maxLen; omega) (by omega) (by simp; omega) ?_)
      intro y w2 hown2 hgrow2 _
      have B2 : Hid (Below w.heap.size w w2) := (HB.out.alloc hsz _).grown hgrow2 (by simp; omega) (fun j hj => (hO.lt j hj).1)
      have O2 : Hid (OwnS w2 w.heap.size y (pre ++ [s.extract j k])) := by
        show World.ownsRow _ _ _ _ _ _ _
        rw [List.length_append, ← HPl.out, sCells, List.map_append]
        exact hown2
      clear hown2 hgrow2 hO HO HB
      go_wp2
      go_roundw
      case rel => exact ⟨k + 1, k + 1, _, by go_num, by go_num, Nat.le_refl _, by omega, O2.out, HRp.out, B2.out⟩
      case measure => simp [RowKit.intOf]; omega
    · have hb : ((s[k].toNat : Int) == 46) = false := by
        rw [beq_eq_false_iff_ne]
        omega
      have HRp : Hid (R = pre ++ (spl ((bts s).drop (k + 1)) (((bts s).drop j).take (k + 1 - j))).map natT) := by
        show _ = _
        rw [HT.out, hdk, spl, if_neg h46, htk]
      clear hdk htk HT hO
      go_wp2
      go_roundw
      case rel => exact ⟨k + 1, j, pre, by go_num, by go_num, by omega, by omega, by have h2 := HO.out; rw [← HPl.out] at h2; exact h2, HRp.out, HB.out⟩
      case measure => simp [RowKit.intOf]; omega
end Go.Proofs.YtjkmfjegphpjkaaGreatDoor
namespace Go.Proofs.YtjkmfjegphpjkaaGreatDoor
open Go.RowKit Go.Lib

set_option maxHeartbeats 4000000 in
set_option maxRecDepth 100000 in
theorem specSgn (c : Nat) (w : World) :
    Calls Tryz.prog 51 #[.int .u8 (c : Int)] w fun e w' => e = .returned (.int .i64 (sgk c)) ∧ w' = w := by
  go_enter Tryz.func51, Tryz.ntmps51
  go_wp2
  go_loopw [3] (fun i wr => ∃ k : Nat, k ≤ 64 ∧ i = .int .i64 k ∧ wr = w ∧ ∀ q, q < k → sg q ≠ (c : Int)) (fun i _ => 64 - (RowKit.intOf i).toNat)
  case atStart => exact ⟨0, Nat.zero_le _, rfl, rfl, fun q hq => by omega⟩
  case round =>
    obtain ⟨k, hk, rfl, rfl, hq⟩ := hrel
    have HQ : Hid (∀ q, q < k → sg q ≠ (c : Int)) := hq
    clear hq
    by_cases hlt : k < 64
    · have e1 := idxSg k hlt
      have q2 : (k : Int) < 64 := by omega
      by_cases he : sg k = (c : Int)
      · have HF : Hid (sgk c = (k : Int)) := by show _ = _; rw [sgk, sgi_eq hlt he]
        have hb : (sg k == (c : Int)) = true := by rw [he]; simp
        go_wp2
        go_ret
        exact ⟨by rw [HF.out]; rfl, rfl⟩
      · have hb : (sg k == (c : Int)) = false := by simpa using he
        go_wp2
        go_roundw
        case rel => exact ⟨k + 1, by omega, by go_num, trivial, fun q hq => by
          by_cases e : q = k
          · subst e; exact he
          · exact HQ.out q (by omega)⟩
        case measure => simp [RowKit.intOf]; omega
    · obtain rfl : k = 64 := by omega
      have HF : Hid (sgk c = -1) := by
        show _ = _
        rw [sgk]
        cases hh : sgi c with
        | none => rfl
        | some q => exact absurd (sgi_some hh).2 (HQ.out q (sgi_some hh).1)
      go_wp2
      go_ret
      exact ⟨by rw [HF.out]; rfl, rfl⟩
end Go.Proofs.YtjkmfjegphpjkaaGreatDoor
