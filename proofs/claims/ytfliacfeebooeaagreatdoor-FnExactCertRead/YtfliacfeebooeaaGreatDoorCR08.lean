/- What was laid comes back when it is read: rows of things within things, numbers one behind the other. Plain mathematics: no program is named here. What is asked for comes back when it is read, both ways. Plain mathematics: no program is named here. spec.l05Is, walked. spec.l05Tag, walked. What a function returns in a variable of its own: the variable over a call. No program is named. spec.l05Get, walked. spec.l05Get at a length in two bytes, spec.DerGet, walked. A row of things of the call's own. -/
import Derived.Test.YtfliacfeebooeaaGreatDoorCR05
import Derived.Test.YtfliacfeebooeaaGreatDoorCR07
import Derived.Test.YtfliacfeebooeaaGreatDoorCR04
import Derived.Test.YtfliacfeebooeaaGreatDoorCR03
import Derived.Test.YtfliacfeebooeaaGreatDoorCR01
import Derived.Deep.RegionHeld3
import Derived.Test.YtfliacfeebooeaaGreatDoorCR02
namespace Go.Proofs.YtfliacfeebooeaaGreatDoor
open Go.RowKit

theorem app_nil (b : ByteArray) : b ++ (⟨#[]⟩ : ByteArray) = b := ByteArray.append_empty
theorem nil_app (b : ByteArray) : (⟨#[]⟩ : ByteArray) ++ b = b := ByteArray.empty_append
theorem tag1 : tagB ((1 : Nat) : Int) = true := by decide
theorem tag2 : tagB ((2 : Nat) : Int) = true := by decide
theorem tag3 : tagB ((3 : Nat) : Int) = true := by decide
theorem tag4 : tagB ((4 : Nat) : Int) = true := by decide
theorem tag6 : tagB ((6 : Nat) : Int) = true := by decide
theorem tag12 : tagB ((12 : Nat) : Int) = true := by decide
theorem tag48 : tagB ((48 : Nat) : Int) = true := by decide
theorem tag49 : tagB ((49 : Nat) : Int) = true := by decide
theorem tag130 : tagB ((130 : Nat) : Int) = true := by decide
theorem tag160 : tagB ((160 : Nat) : Int) = true := by decide
theorem tag163 : tagB ((163 : Nat) : Int) = true := by decide
/-- Things that may be laid. -/
def ThingsOk (l : List (Nat × ByteArray)) : Prop := (∀ q ∈ l, tagB (q.1 : Int) = true ∧ q.2.size ≤ 4000) ∧ l.length ≤ 60 ∧ (catT l).size ≤ 20000
theorem bodyK_cat {l : List (Nat × ByteArray)} (h : ThingsOk l) (k : Nat) : bodyK (catT l) k = ((l[k]?).map (·.2)).getD ⟨#[]⟩ := by
  unfold bodyK
  rw [allD_cat h.1 h.2.1 h.2.2]
  simp only [asI, List.getElem?_map]
  cases l[k]? <;> rfl
theorem atP_cat {l : List (Nat × ByteArray)} (h : ThingsOk l) {k t : Nat} {b : ByteArray} {ks : List Nat} (hk : l[k]? = some (t, b)) : atP (catT l) (k :: ks) = atP b ks := by
  have hlt : k < l.length := by
    rcases Nat.lt_or_ge k l.length with h | h
    · exact h
    · rw [List.getElem?_eq_none h] at hk; cases hk
  rw [atP, bodyK_cat h, hk, allD_cat h.1 h.2.1 h.2.2, if_pos (by rw [asI, List.length_map]; exact hlt)]
  rfl
theorem atP_nil (b : ByteArray) : atP b [] = b := rfl
theorem bodiesR_cat {l : List (Nat × ByteArray)} (h : ThingsOk l) : bodiesR (catT l) = l.map (·.2) := by
  unfold bodiesR
  rw [allD_cat h.1 h.2.1 h.2.2]
  simp [asI]
theorem serialsR_cat {l : List (Nat × ByteArray)} (h : ThingsOk l) : serialsR (catT l) = l.map fun q => (intR q.2).1 := by
  unfold serialsR
  rw [allD_cat h.1 h.2.1 h.2.2]
  simp [asI]
theorem catT_one (t : Nat) (b : ByteArray) : catT [(t, b)] = thingD (t : Int) b := by rw [catT, catT, app_nil]
theorem catT_cons (t : Nat) (b : ByteArray) (r : List (Nat × ByteArray)) : catT ((t, b) :: r) = thingD (t : Int) b ++ catT r := rfl
theorem catT_app : ∀ (l m : List (Nat × ByteArray)), catT (l ++ m) = catT l ++ catT m
  | [], m => (nil_app _).symm
  | q :: l, m => by rw [List.cons_append, catT, catT_app l m, catT, ByteArray.append_assoc]
theorem hostsD_cat (ss : List ByteArray) : ∀ k, k ≤ ss.length → hostsD ss k = catT ((ss.take k).map fun n => (130, n))
  | 0, _ => rfl
  | k + 1, hk => by
    have hlt : k < ss.length := by omega
    rw [hostsD, hostsD_cat ss k (by omega), List.take_add_one, List.map_append, catT_app]
    congr 1
    rw [List.getElem?_eq_getElem hlt]
    show _ = catT [(130, ss[k])]
    rw [catT_one]
    show thingD 130 (tAt ss k) = thingD 130 ss[k]
    congr 1
    unfold tAt
    rw [List.getD_eq_getElem?_getD, List.getElem?_eq_getElem hlt]
    rfl
/-- A number, whatever stands ahead of it and behind it. -/
theorem numAt_back {n : Int} (h0 : -9223372036854775808 ≤ n) (h1 : n ≤ 9223372036854775807) (a b : ByteArray) (hs : (a ++ putS n ++ b).size ≤ 20000) :
    numAt (a ++ putS n ++ b) (a.size : Int) = ⟨n, ((a ++ putS n).size : Int), 0⟩ := by
  unfold numAt
  rw [if_neg (by omega), if_neg (by omega), Int.toNat_natCast]
  have h := num_back n h0 h1 a b
  unfold putS
  rw [h, ByteArray.size_append]
/-- Numbers one behind the other, from where they begin. -/
def rowN : List Int → ByteArray
  | [] => ⟨#[]⟩
  | n :: r => putS n ++ rowN r
theorem rowN_back : ∀ (zs : List Int) (a : ByteArray), (∀ n ∈ zs, -9223372036854775808 ≤ n ∧ n ≤ 9223372036854775807) → (a ++ rowN zs).size ≤ 20000 →
    numsGo (a ++ rowN zs) zs.length (a.size : Int) = zs ∧ bitsQ (a ++ rowN zs) zs.length (a.size : Int) = zs
  | [], a, _, _ => ⟨rfl, rfl⟩
  | n :: r, a, hz, hs => by
    obtain ⟨h0, h1⟩ := hz n (List.mem_cons_self ..)
    have e : a ++ rowN (n :: r) = a ++ putS n ++ rowN r := by rw [rowN, ByteArray.append_assoc]
    rw [e] at hs ⊢
    have hn := numAt_back h0 h1 a (rowN r) hs
    have ih := rowN_back r (a ++ putS n) (fun m hm => hz m (List.mem_cons_of_mem _ hm)) hs
    rw [List.length_cons, numsGo, bitsQ, hn]
    simp only [if_true]
    rw [ih.1, ih.2]
    exact ⟨rfl, rfl⟩
theorem one_size : (⟨#[0]⟩ : ByteArray).size = 1 := rfl
theorem rowN_zero {zs : List Int} (hz : ∀ n ∈ zs, -9223372036854775808 ≤ n ∧ n ≤ 9223372036854775807) (hs : ((⟨#[0]⟩ : ByteArray) ++ rowN zs).size ≤ 20000) :
    numsGo (⟨#[0]⟩ ++ rowN zs) zs.length 1 = zs ∧ bitsQ (⟨#[0]⟩ ++ rowN zs) zs.length 1 = zs := rowN_back zs ⟨#[0]⟩ hz hs
theorem key_row (k : Int) : (⟨#[0]⟩ : ByteArray) ++ putS k = ⟨#[0]⟩ ++ rowN [k] := by rw [rowN, rowN, app_nil]
theorem sigT_row (k e s : Int) : sigT k e s = ⟨#[0]⟩ ++ rowN [k, e, s] := by
  unfold sigT
  simp only [rowN, app_nil, ByteArray.append_assoc]
end Go.Proofs.YtfliacfeebooeaaGreatDoor
namespace Go.Proofs.YtfliacfeebooeaaGreatDoor
open Go.RowKit

theorem askT_row (e s : Int) : askT e s = ⟨#[0]⟩ ++ rowN [e, s] := by
  unfold askT
  simp only [rowN, app_nil, ByteArray.append_assoc]
def askL (c : Ask) : List (Nat × ByteArray) := [(2, strOfNums (intL 0)), (3, ⟨#[0]⟩ ++ rowN [c.key]), (48, hostsD c.names c.names.length)]
def askL2 (c : Ask) : List (Nat × ByteArray) := [(48, catT (askL c)), (3, askT c.se c.ss)]
theorem askD_cat (c : Ask) : askD c = catT [(48, catT (askL c))] := by
  rw [catT_one, askL, catT_cons, catT_cons, catT_one, ← key_row]
  rfl
theorem askY_cat (c : Ask) : askY c = catT [(48, catT (askL2 c))] := by
  rw [catT_one, askL2, catT_cons, catT_one]
  unfold askY
  rw [askD_cat, catT_one]
  rfl
theorem askL_ok {c : Ask} (h : askB c = true) : ThingsOk (askL c) ∧ (catT (askL c)).size ≤ 255 := by
  obtain ⟨_, h2, _, h4⟩ := ask_fits h
  have hD := askD_le h
  have hs : (catT (askL c)).size ≤ 255 := by
    rw [askD_cat, catT_one, thingD_size] at hD
    omega
  have hh := hostsD_le (ss := c.names) c.names.length h4
  have hk := askK_le c.key
  refine ⟨⟨fun q hq => ?_, by simp [askL], by omega⟩, hs⟩
  unfold askL at hq
  simp only [List.mem_cons, List.not_mem_nil, or_false] at hq
  rcases hq with rfl | rfl | rfl
  · exact ⟨tag2, by rw [strOfNums_size]; have := (intL_len 0).2; omega⟩
  · refine ⟨tag3, ?_⟩
    have h3 := putS_size c.key
    rw [← key_row, ByteArray.size_append, one_size]
    omega
  · refine ⟨tag48, ?_⟩
    show (hostsD c.names c.names.length).size ≤ 4000
    omega
theorem askL2_ok {c : Ask} (h : askB c = true) : ThingsOk (askL2 c) ∧ (catT (askL2 c)).size ≤ 400 := by
  have h1 := (askL_ok h).2
  have h2 := askT_le c.se c.ss
  have h3 := thingD_le 48 (catT (askL c))
  have h4 := thingD_le 3 (askT c.se c.ss)
  have hs : (catT (askL2 c)).size ≤ 400 := by
    rw [askL2, catT_cons, catT_one, ByteArray.size_append]
    show (thingD 48 _).size + (thingD 3 _).size ≤ _
    omega
  refine ⟨⟨fun q hq => ?_, by simp [askL2], by omega⟩, hs⟩
  unfold askL2 at hq
  simp only [List.mem_cons, List.not_mem_nil, or_false] at hq
  rcases hq with rfl | rfl
  · exact ⟨tag48, by show (catT (askL c)).size ≤ _; omega⟩
  · exact ⟨tag3, by show (askT c.se c.ss).size ≤ _; omega⟩
theorem seq_ok {b : ByteArray} (h : b.size ≤ 4000) : ThingsOk [(48, b)] := by
  have h1 := thingD_le 48 b
  refine ⟨fun q hq => ?_, by simp, ?_⟩
  · obtain rfl := List.mem_singleton.1 hq
    exact ⟨tag48, h⟩
  · rw [catT_one]
    show (thingD 48 b).size ≤ _
    omega
theorem hosts_ok {ss : List ByteArray} (h : ss.length ≤ 5) (h' : ∀ i, i < ss.length → (tAt ss i).size ≤ 40) : hostsD ss ss.length = catT (ss.map fun n => (130, n)) ∧ ThingsOk (ss.map fun n => (130, n)) := by
  have e : hostsD ss ss.length = catT (ss.map fun n => (130, n)) := by
    rw [hostsD_cat ss _ (Nat.le_refl _), List.take_length]
  have hh := hostsD_le (ss := ss) ss.length h'
  refine ⟨e, fun q hq => ?_, by rw [List.length_map]; omega, by rw [← e]; omega⟩
  obtain ⟨n, hn, rfl⟩ := List.mem_map.1 hq
  refine ⟨tag130, ?_⟩
  obtain ⟨i, hi, rfl⟩ := List.getElem_of_mem hn
  have := h' i hi
  unfold tAt at this
  rw [List.getD_eq_getElem?_getD, List.getElem?_eq_getElem hi] at this
  show ss[i].size ≤ 4000
  simp only [Option.getD_some] at this
  omega
theorem form_key {c : Ask} (h : formB c = true) : c.sk = c.key := by
  unfold formB at h
  simp only [Bool.and_eq_true, decide_eq_true_eq] at h
  exact h.2
/-- The parts of what is asked for, as they lie. -/
theorem ask_back {c : Ask} (h : formB c = true) : atP (askY c) [0] = catT (askL2 c) ∧ atP (catT (askL2 c)) [0] = catT (askL c) ∧ atP (catT (askL2 c)) [1] = askT c.se c.ss ∧ atP (catT (askL c)) [1] = ⟨#[0]⟩ ++ rowN [c.key] ∧ atP (catT (askL c)) [2] = hostsD c.names c.names.length ∧
    numsGo (⟨#[0]⟩ ++ rowN [c.key]) 1 1 = [c.key] ∧ numsGo (askT c.se c.ss) 2 1 = [c.se, c.ss] ∧ bitsQ (⟨#[0]⟩ ++ rowN [c.key]) 1 1 = [c.key] ∧ bitsQ (askT c.se c.ss) 2 1 = [c.se, c.ss] ∧ bodiesR (hostsD c.names c.names.length) = c.names := by
  have hb := formB_ask h
  obtain ⟨h1, h2, h3, h4⟩ := ask_fits hb
  obtain ⟨_, s1, s2⟩ := sigRB_lt (formB_sig h)
  have o2 := (askL2_ok hb).1
  have o1 := (askL_ok hb).1
  have o0 := seq_ok (b := catT (askL2 c)) (by have := (askL2_ok hb).2; omega)
  have hk := putS_size c.key
  have ht := askT_le c.se c.ss
  obtain ⟨n1, n2⟩ := rowN_zero (zs := [c.key]) (fun n hn => by simp at hn; subst hn; omega) (by rw [← key_row, ByteArray.size_append, one_size]; omega)
  obtain ⟨n3, n4⟩ := rowN_zero (zs := [c.se, c.ss]) (fun n hn => by simp at hn; rcases hn with rfl | rfl <;> omega) (by rw [← askT_row]; omega)
  obtain ⟨e, oh⟩ := hosts_ok h2 h4
  refine ⟨by rw [askY_cat, atP_cat o0 rfl, atP_nil], by rw [atP_cat o2 rfl, atP_nil], by rw [atP_cat o2 rfl, atP_nil], by rw [atP_cat o1 rfl, atP_nil], by rw [atP_cat o1 rfl, atP_nil], n1, by rw [askT_row]; exact n3, n2, by rw [askT_row]; exact n4, ?_⟩
  rw [e, bodiesR_cat oh, List.map_map]
  exact List.map_id' _
end Go.Proofs.YtfliacfeebooeaaGreatDoor
namespace Go.Proofs.YtfliacfeebooeaaGreatDoor
open Go.RowKit Go.Lib

theorem specIs (n l h : Int) (w : World) :
    Calls Tryz.prog 80 #[.int .i64 n, .int .i64 l, .int .i64 h] w fun e w' => e = .returned (.bool (decide (l ≤ n) && decide (n ≤ h))) ∧ w' = w := by
  by_cases h1 : l ≤ n
  · go_enter Tryz.func80, Tryz.ntmps80
    go_wp2
    go_ret
    exact ⟨by simp [h1], rfl⟩
  · go_enter Tryz.func80, Tryz.ntmps80
    go_wp2
    go_ret
    exact ⟨by simp; omega, rfl⟩
end Go.Proofs.YtfliacfeebooeaaGreatDoor
namespace Go.Proofs.YtfliacfeebooeaaGreatDoor
open Go.RowKit Go.Lib

theorem specTag (n : Int) (w : World) :
    Calls Tryz.prog 106 #[.int .i64 n] w fun e w' => e = .returned (.bool (tagB n)) ∧ w' = w := by
  by_cases h1 : 0 ≤ n ∧ n ≤ 255
  · obtain ⟨h1, h2⟩ := h1
    have e1 : (decide (0 ≤ n) && decide (n ≤ 255)) = true := by simp [h1, h2]
    have e2 : n.tmod 32 = n % 32 := Int.tmod_eq_emod_of_nonneg h1
    have HF : Hid (tagB n = decide (n % 32 ≠ 31)) := by unfold Hid tagB; rw [e1]; rfl
    go_enter Tryz.func106, Tryz.ntmps106
    go_wp2_with fail
    refine (specIs _ _ _ _).mono ?_
    rintro e w' ⟨rfl, rfl⟩
    rw [e1]
    go_wp2
    go_ret
    exact ⟨by rw [HF.out]; simp [bne, BEq.beq], rfl⟩
  · have e1 : (decide (0 ≤ n) && decide (n ≤ 255)) = false := by simp; omega
    have HF : Hid (tagB n = false) := by unfold Hid tagB; rw [e1]; rfl
    go_enter Tryz.func106, Tryz.ntmps106
    go_wp2_with fail
    refine (specIs _ _ _ _).mono ?_
    rintro e w' ⟨rfl, rfl⟩
    rw [e1]
    go_wp2
    go_ret
    exact ⟨by rw [HF.out]; rfl, rfl⟩
end Go.Proofs.YtfliacfeebooeaaGreatDoor
namespace Go.Proofs.YtfliacfeebooeaaGreatDoor
open Go.RowKit

theorem resKeep {w w1 : World} {cs : List Value} {T : Nat} (hb : Below (w.alloc (.cells cs.toArray T (0, 0))).heap.size (w.alloc (.cells cs.toArray T (0, 0))) w1) :
    w1.heap[w.heap.size]? = some (.cells cs.toArray T (0, 0)) ∧ Below w.heap.size w w1 ∧ w.heap.size < w1.heap.size := by
  have hs : (w.alloc (.cells cs.toArray T (0, 0))).heap.size = w.heap.size + 1 := by simp
  have hl := hb.size
  refine ⟨?_, ((Below.refl _ w).alloc (Nat.le_refl _) _).trans (hb.mono (by omega)), by omega⟩
  rw [hb.block w.heap.size (by omega)]
  exact heap_alloc_new w _
theorem rowFree {w : World} {g : Nat} {cs : List Value} {t : TypeId} (hg : w.heap[g]? = some (.cells cs.toArray t (0, 0))) (j : Nat) : w.frozen? ⟨g, j, none⟩ = false := frozen_of_row w g j _ t hg
/-- Three cells of a variable. -/
theorem cells3 {w : World} {g : Nat} {a b c : Value} {t : TypeId} (h : w.heap[g]? = some (.cells [a, b, c].toArray t (0, 0))) :
    (w.cell? ⟨g, 0, none⟩ = some a ∧ w.cell? ⟨g, 1, none⟩ = some b ∧ w.cell? ⟨g, 2, none⟩ = some c) ∧ w.frozen? ⟨g, 0, none⟩ = false ∧ w.frozen? ⟨g, 1, none⟩ = false ∧ w.frozen? ⟨g, 2, none⟩ = false :=
  ⟨⟨rowFacts h 0 _ rfl, rowFacts h 1 _ rfl, rowFacts h 2 _ rfl⟩, rowFree h 0, rowFree h 1, rowFree h 2⟩
theorem cells2 {w : World} {g : Nat} {a b : Value} {t : TypeId} (h : w.heap[g]? = some (.cells [a, b].toArray t (0, 0))) :
    (w.cell? ⟨g, 0, none⟩ = some a ∧ w.cell? ⟨g, 1, none⟩ = some b) ∧ w.frozen? ⟨g, 0, none⟩ = false ∧ w.frozen? ⟨g, 1, none⟩ = false :=
  ⟨⟨rowFacts h 0 _ rfl, rowFacts h 1 _ rfl⟩, rowFree h 0, rowFree h 1⟩
theorem cells4 {w : World} {g : Nat} {a b c d : Value} {t : TypeId} (h : w.heap[g]? = some (.cells [a, b, c, d].toArray t (0, 0))) :
    (w.cell? ⟨g, 0, none⟩ = some a ∧ w.cell? ⟨g, 1, none⟩ = some b ∧ w.cell? ⟨g, 2, none⟩ = some c ∧ w.cell? ⟨g, 3, none⟩ = some d) ∧ w.frozen? ⟨g, 0, none⟩ = false ∧ w.frozen? ⟨g, 1, none⟩ = false ∧ w.frozen? ⟨g, 2, none⟩ = false ∧ w.frozen? ⟨g, 3, none⟩ = false :=
  ⟨⟨rowFacts h 0 _ rfl, rowFacts h 1 _ rfl, rowFacts h 2 _ rfl, rowFacts h 3 _ rfl⟩, rowFree h 0, rowFree h 1, rowFree h 2, rowFree h 3⟩
end Go.Proofs.YtfliacfeebooeaaGreatDoor
namespace Go.Proofs.YtfliacfeebooeaaGreatDoor
open Go.RowKit Go.Lib

theorem valEq {s : ByteArray} {t c f f' : Int} {F G F' G' : Nat} (h1 : F' = F) (h2 : G' = G) (h3 : f' = f) : Value.agg #[.int .i64 t, .string (s.extract F' G'), .int .i64 f', .int .i64 c] = GetR.val ⟨t, s.extract F G, f, c⟩ := by
  subst h1 h2 h3; rfl
section
variable (s : ByteArray) (k : Nat) (w : World)
set_option maxHeartbeats 1000000
set_option maxRecDepth 100000
theorem specGet_end (h1 : s.size ≤ k) :
    Calls Tryz.prog 78 #[.string s, .int .i64 (k : Int)] w fun e w' => e = .returned (getAt s k).val ∧ Below w.heap.size w w' := by
  have HF : Hid (getAt s k = .bad 4) := getAt_end h1
  go_enter Tryz.func78, Tryz.ntmps78
  go_wp2
  refine bodyPost_ret (v := GetR.val (.bad 4)) (by simp [GetR.val, GetR.bad, results, Tryz.results78, go_sem]) rfl ⟨by rw [HF.out], ?_⟩
  repeat (first | exact Below.refl _ _ | refine Below.drew ?_ | refine Below.setCell ?_ (by simp <;> omega) _ | refine Below.alloc ?_ (by simp <;> omega) _)
theorem specGet_tag (h1 : k < s.size) (ht : tagB (bN s k : Int) = false) :
    Calls Tryz.prog 78 #[.string s, .int .i64 (k : Int)] w fun e w' => e = .returned (getAt s k).val ∧ Below w.heap.size w w' := by
  have HF : Hid (getAt s k = .bad 3) := getAt_tag h1 ht
  have b0 := bN_eq s k h1
  have u0 := u8_lt s[k]
  have q0 : (k : Int) < (s.size : Int) := by omega
  rw [b0] at ht
  go_enter Tryz.func78, Tryz.ntmps78
  go_wp2_with fail
  refine (specTag _ _).mono ?_
  rintro e w' ⟨rfl, rfl⟩
  rw [ht]
  go_wp2
  refine bodyPost_ret (v := GetR.val (.bad 3)) (by simp [GetR.val, GetR.bad, results, Tryz.results78, go_sem]) rfl ⟨by rw [HF.out], ?_⟩
  repeat (first | exact Below.refl _ _ | refine Below.drew ?_ | refine Below.setCell ?_ (by simp <;> omega) _ | refine Below.alloc ?_ (by simp <;> omega) _)
theorem specGet_one (hs : s.size ≤ 20000) (h1 : s.size = k + 1) (ht : tagB (bN s k : Int) = true) :
    Calls Tryz.prog 78 #[.string s, .int .i64 (k : Int)] w fun e w' => e = .returned (getAt s k).val ∧ Below w.heap.size w w' := by
  have HF : Hid (getAt s k = .bad 4) := getAt_one h1 ht
  have b0 := bN_eq s k (by omega)
  have u0 := u8_lt (s[k]'(by omega))
  have q0 : (k : Int) < (s.size : Int) := by omega
  rw [b0] at ht
  go_enter Tryz.func78, Tryz.ntmps78
  go_wp2_with fail
  refine (specTag _ _).mono ?_
  rintro e w' ⟨rfl, rfl⟩
  rw [ht]
  go_wp2
  refine bodyPost_ret (v := GetR.val (.bad 4)) (by simp [GetR.val, GetR.bad, results, Tryz.results78, go_sem]) rfl ⟨by rw [HF.out], ?_⟩
  repeat (first | exact Below.refl _ _ | refine Below.drew ?_ | refine Below.setCell ?_ (by simp <;> omega) _ | refine Below.alloc ?_ (by simp <;> omega) _)
theorem specGet_low (hs : s.size ≤ 20000) (h1 : k + 1 < s.size) (ht : tagB (bN s k : Int) = true) (h2 : bN s (k + 1) < 128) :
    Calls Tryz.prog 78 #[.string s, .int .i64 (k : Int)] w fun e w' => e = .returned (getAt s k).val ∧ Below w.heap.size w w' := by
  have HG := getAt_low h1 ht h2
  have b0 := bN_eq s k (by omega)
  have b1 := bN_eq s (k + 1) h1
  have u0 := u8_lt (s[k]'(by omega))
  have u1 := u8_lt s[k + 1]
  have q0 : (k : Int) < (s.size : Int) := by omega
  rw [b0] at ht HG
  rw [b1] at h2 HG
  by_cases h3 : s.size < k + 2 + s[k + 1].toNat
  · have HF : Hid (getAt s k = .bad 4) := HG.trans (bodyAt_short h3)
    clear HG
    go_enter Tryz.func78, Tryz.ntmps78
    go_wp2_with fail
    refine (specTag _ _).mono ?_
    rintro e w' ⟨rfl, rfl⟩
    rw [ht]
    go_wp2
    refine bodyPost_ret (v := GetR.val (.bad 4)) (by simp [GetR.val, GetR.bad, results, Tryz.results78, go_sem]) rfl ⟨by rw [HF.out], ?_⟩
    repeat (first | exact Below.refl _ _ | refine Below.drew ?_ | refine Below.setCell ?_ (by simp <;> omega) _ | refine Below.alloc ?_ (by simp <;> omega) _)
  · have HF : Hid (getAt s k = _) := HG.trans (bodyAt_ok (by omega))
    clear HG
    go_enter Tryz.func78, Tryz.ntmps78
    go_wp2_with fail
    refine (specTag _ _).mono ?_
    rintro e w' ⟨rfl, rfl⟩
    rw [ht]
    go_wp2
    refine bodyPost_ret (v := .agg #[.int .i64 ((s[k]'(by omega)).toNat : Int), .string (s.extract (k + 2) (k + 2 + s[k + 1].toNat)), .int .i64 ((k : Int) + 2 + (s[k + 1].toNat : Int)), .int .i64 0]) (by simp [results, Tryz.results78, go_sem]) rfl ⟨by rw [HF.out]; exact congrArg Ending.returned (valEq (by omega) (by omega) (by omega)), ?_⟩
    repeat (first | exact Below.refl _ _ | refine Below.drew ?_ | refine Below.setCell ?_ (by simp <;> omega) _ | refine Below.alloc ?_ (by simp <;> omega) _)
theorem specGet_many (hs : s.size ≤ 20000) (h1 : k + 1 < s.size) (ht : tagB (bN s k : Int) = true) (h2 : 128 ≤ bN s (k + 1)) (h3 : bN s (k + 1) ≠ 129) (h4 : bN s (k + 1) ≠ 130) :
    Calls Tryz.prog 78 #[.string s, .int .i64 (k : Int)] w fun e w' => e = .returned (getAt s k).val ∧ Below w.heap.size w w' := by
  have HF : Hid (getAt s k = .bad 3) := getAt_many h1 ht h2 h3 h4
  have b0 := bN_eq s k (by omega)
  have b1 := bN_eq s (k + 1) h1
  have u0 := u8_lt (s[k]'(by omega))
  have u1 := u8_lt s[k + 1]
  have q0 : (k : Int) < (s.size : Int) := by omega
  rw [b0] at ht
  rw [b1] at h2 h3 h4
  have e1 : ((s[k + 1].toNat : Int) - 128 != 1) = true := by rw [bne_iff_ne]; omega
  have e2 : ((s[k + 1].toNat : Int) - 128 != 2) = true := by rw [bne_iff_ne]; omega
  go_enter Tryz.func78, Tryz.ntmps78
  go_wp2_with fail
  refine (specTag _ _).mono ?_
  rintro e w' ⟨rfl, rfl⟩
  rw [ht]
  go_wp2
  refine bodyPost_ret (v := GetR.val (.bad 3)) (by simp [GetR.val, GetR.bad, results, Tryz.results78, go_sem]) rfl ⟨by rw [HF.out], ?_⟩
  repeat (first | exact Below.refl _ _ | refine Below.drew ?_ | refine Below.setCell ?_ (by simp <;> omega) _ | refine Below.alloc ?_ (by simp <;> omega) _)
theorem specGet_129 (hs : s.size ≤ 20000) (h1 : k + 1 < s.size) (ht : tagB (bN s k : Int) = true) (h2 : bN s (k + 1) = 129) :
    Calls Tryz.prog 78 #[.string s, .int .i64 (k : Int)] w fun e w' => e = .returned (getAt s k).val ∧ Below w.heap.size w w' := by
  have HG := getAt_129 h1 ht h2
  have b0 := bN_eq s k (by omega)
  have b1 := bN_eq s (k + 1) h1
  have u0 := u8_lt (s[k]'(by omega))
  have q0 : (k : Int) < (s.size : Int) := by omega
  rw [b0] at ht HG
  rw [b1] at h2
  have e1 : (s[k + 1].toNat : Int) = 129 := by omega
  by_cases h3 : s.size ≤ k + 2
  · have HF : Hid (getAt s k = .bad 4) := HG.trans (if_pos h3)
    clear HG
    go_enter Tryz.func78, Tryz.ntmps78
    go_wp2_with fail
    refine (specTag _ _).mono ?_
    rintro e w' ⟨rfl, rfl⟩
    rw [ht]
    go_wp2
    refine bodyPost_ret (v := GetR.val (.bad 4)) (by simp [GetR.val, GetR.bad, results, Tryz.results78, go_sem]) rfl ⟨by rw [HF.out], ?_⟩
    repeat (first | exact Below.refl _ _ | refine Below.drew ?_ | refine Below.setCell ?_ (by simp <;> omega) _ | refine Below.alloc ?_ (by simp <;> omega) _)
  rw [if_neg h3] at HG
  have b2 := bN_eq s (k + 2) (by omega)
  have u2 := u8_lt (s[k + 2]'(by omega))
  rw [b2] at HG
  have q2 : (k : Int) + 2 < (s.size : Int) := by omega
  have q3 : (0 : Int) ≤ (k : Int) + 2 := by omega
  by_cases h4 : (s[k + 2]'(by omega)).toNat < 128
  · have HF : Hid (getAt s k = .bad 3) := HG.trans (if_pos h4)
    clear HG
    go_enter Tryz.func78, Tryz.ntmps78
    go_wp2_with fail
    refine (specTag _ _).mono ?_
    rintro e w' ⟨rfl, rfl⟩
    rw [ht]
    go_wp2_with fail
    refine wp_loop_rounds 2 ?_
    rw [rounds_succ]
    go_wp2
    rw [rounds_succ]
    go_wp2
    refine bodyPost_ret (v := GetR.val (.bad 3)) (by simp [GetR.val, GetR.bad, results, Tryz.results78, go_sem]) rfl ⟨by rw [HF.out], ?_⟩
    repeat (first | exact Below.refl _ _ | refine Below.drew ?_ | refine Below.setCell ?_ (by simp <;> omega) _ | refine Below.alloc ?_ (by simp <;> omega) _)
  rw [if_neg h4] at HG
  by_cases h5 : s.size < k + 3 + (s[k + 2]'(by omega)).toNat
  · have HF : Hid (getAt s k = .bad 4) := HG.trans (bodyAt_short h5)
    clear HG
    go_enter Tryz.func78, Tryz.ntmps78
    go_wp2_with fail
    refine (specTag _ _).mono ?_
    rintro e w' ⟨rfl, rfl⟩
    rw [ht]
    go_wp2_with fail
    refine wp_loop_rounds 2 ?_
    rw [rounds_succ]
    go_wp2
    rw [rounds_succ]
    go_wp2
    refine bodyPost_ret (v := GetR.val (.bad 4)) (by simp [GetR.val, GetR.bad, results, Tryz.results78, go_sem]) rfl ⟨by rw [HF.out], ?_⟩
    repeat (first | exact Below.refl _ _ | refine Below.drew ?_ | refine Below.setCell ?_ (by simp <;> omega) _ | refine Below.alloc ?_ (by simp <;> omega) _)
  · have HF : Hid (getAt s k = _) := HG.trans (bodyAt_ok (by omega))
    clear HG
    go_enter Tryz.func78, Tryz.ntmps78
    go_wp2_with fail
    refine (specTag _ _).mono ?_
    rintro e w' ⟨rfl, rfl⟩
    rw [ht]
    go_wp2_with fail
    refine wp_loop_rounds 2 ?_
    rw [rounds_succ]
    go_wp2
    rw [rounds_succ]
    go_wp2
    refine bodyPost_ret (v := .agg #[.int .i64 ((s[k]'(by omega)).toNat : Int), .string (s.extract (k + 2 + 1) (k + 2 + 1 + (s[k + 2]'(by omega)).toNat)), .int .i64 ((k : Int) + 2 + 1 + ((s[k + 2]'(by omega)).toNat : Int)), .int .i64 0]) (by simp [results, Tryz.results78, go_sem]) rfl ⟨by rw [HF.out]; exact congrArg Ending.returned (valEq (by omega) (by omega) (by omega)), ?_⟩
    repeat (first | exact Below.refl _ _ | refine Below.drew ?_ | refine Below.setCell ?_ (by simp <;> omega) _ | refine Below.alloc ?_ (by simp <;> omega) _)
end
end Go.Proofs.YtfliacfeebooeaaGreatDoor
namespace Go.Proofs.YtfliacfeebooeaaGreatDoor
open Go.RowKit Go.Lib

set_option maxHeartbeats 2000000
set_option maxRecDepth 100000
theorem specGet_130 (s : ByteArray) (k : Nat) (w : World) (hs : s.size ≤ 20000) (h1 : k + 1 < s.size) (ht : tagB (bN s k : Int) = true) (h2 : bN s (k + 1) = 130) :
    Calls Tryz.prog 78 #[.string s, .int .i64 (k : Int)] w fun e w' => e = .returned (getAt s k).val ∧ Below w.heap.size w w' := by
  have HG := getAt_130 h1 ht h2
  have b0 := bN_eq s k (by omega)
  have b1 := bN_eq s (k + 1) h1
  have u0 := u8_lt (s[k]'(by omega))
  have q0 : (k : Int) < (s.size : Int) := by omega
  rw [b0] at ht HG
  rw [b1] at h2
  have e1 : (s[k + 1].toNat : Int) = 130 := by omega
  by_cases h3 : s.size ≤ k + 3
  · have HF : Hid (getAt s k = .bad 4) := HG.trans (if_pos h3)
    clear HG
    go_enter Tryz.func78, Tryz.ntmps78
    go_wp2_with fail
    refine (specTag _ _).mono ?_
    rintro e w' ⟨rfl, rfl⟩
    rw [ht]
    go_wp2
    refine bodyPost_ret (v := GetR.val (.bad 4)) (by simp [GetR.val, GetR.bad, results, Tryz.results78, go_sem]) rfl ⟨by rw [HF.out], ?_⟩
    repeat (first | exact Below.refl _ _ | refine Below.drew ?_ | refine Below.setCell ?_ (by simp <;> omega) _ | refine Below.alloc ?_ (by simp <;> omega) _)
  rw [if_neg h3] at HG
  have b2 := bN_eq s (k + 2) (by omega)
  have b3 : bN s (k + 3) = (s[k + 2 + 1]'(by omega)).toNat := bN_eq s (k + 2 + 1) (by omega)
  have u2 := u8_lt (s[k + 2]'(by omega))
  have u3 := u8_lt (s[k + 2 + 1]'(by omega))
  rw [b2, b3] at HG
  have q2 : (k : Int) + 2 < (s.size : Int) := by omega
  have q3 : (0 : Int) ≤ (k : Int) + 2 := by omega
  have q4 : (k : Int) + 2 + 1 < (s.size : Int) := by omega
  have q5 : (0 : Int) ≤ (k : Int) + 2 + 1 := by omega
  obtain ⟨m, hm⟩ : ∃ m : Nat, m = 256 * (s[k + 2]'(by omega)).toNat + (s[k + 2 + 1]'(by omega)).toNat := ⟨_, rfl⟩
  rw [← hm] at HG
  have HG2 : Hid _ := HG
  have HM : Hid (256 * ((s[k + 2]'(by omega)).toNat : Int) + ((s[k + 2 + 1]'(by omega)).toNat : Int) = (m : Int) ∧ m ≤ 65535) := ⟨by omega, by omega⟩
  clear HG hm b0 b1 b2 b3
  go_enter Tryz.func78, Tryz.ntmps78
  go_wp2_with fail
  refine (specTag _ _).mono ?_
  rintro e w' ⟨rfl, rfl⟩
  rw [ht]
  go_wp2_with fail
  refine wp_loop_rounds 3 ?_
  rw [rounds_succ]
  go_wp2
  rw [rounds_succ]
  go_wp2
  rw [HM.out.1]
  have hm2 := HM.out.2
  have HG := HG2.out
  clear HM HG2 u2 u3
  by_cases h4 : m < 256
  · have HF : Hid (getAt s k = .bad 3) := HG.trans (if_pos h4)
    clear HG
    rw [rounds_succ]
    go_wp2
    refine bodyPost_ret (v := GetR.val (.bad 3)) (by simp [GetR.val, GetR.bad, results, Tryz.results78, go_sem]) rfl ⟨by rw [HF.out], ?_⟩
    repeat (first | exact Below.refl _ _ | refine Below.drew ?_ | refine Below.setCell ?_ (by simp <;> omega) _ | refine Below.alloc ?_ (by simp <;> omega) _)
  rw [if_neg h4] at HG
  by_cases h6 : 4000 < m
  · have HF : Hid (getAt s k = .bad 3) := HG.trans (if_pos h6)
    clear HG
    rw [rounds_succ]
    go_wp2
    refine bodyPost_ret (v := GetR.val (.bad 3)) (by simp [GetR.val, GetR.bad, results, Tryz.results78, go_sem]) rfl ⟨by rw [HF.out], ?_⟩
    repeat (first | exact Below.refl _ _ | refine Below.drew ?_ | refine Below.setCell ?_ (by simp <;> omega) _ | refine Below.alloc ?_ (by simp <;> omega) _)
  rw [if_neg h6] at HG
  by_cases h5 : s.size < k + 4 + m
  · have HF : Hid (getAt s k = .bad 4) := HG.trans (bodyAt_short h5)
    clear HG
    rw [rounds_succ]
    go_wp2
    refine bodyPost_ret (v := GetR.val (.bad 4)) (by simp [GetR.val, GetR.bad, results, Tryz.results78, go_sem]) rfl ⟨by rw [HF.out], ?_⟩
    repeat (first | exact Below.refl _ _ | refine Below.drew ?_ | refine Below.setCell ?_ (by simp <;> omega) _ | refine Below.alloc ?_ (by simp <;> omega) _)
  · have HF : Hid (getAt s k = _) := HG.trans (bodyAt_ok (by omega))
    clear HG
    rw [rounds_succ]
    go_wp2
    refine bodyPost_ret (v := .agg #[.int .i64 ((s[k]'(by omega)).toNat : Int), .string (s.extract (k + 2 + 2) (k + 2 + 2 + m)), .int .i64 ((k : Int) + 2 + 2 + (m : Int)), .int .i64 0]) (by simp [results, Tryz.results78, go_sem]) rfl ⟨by rw [HF.out]; exact congrArg Ending.returned (valEq (by omega) (by omega) (by omega)), ?_⟩
    repeat (first | exact Below.refl _ _ | refine Below.drew ?_ | refine Below.setCell ?_ (by simp <;> omega) _ | refine Below.alloc ?_ (by simp <;> omega) _)
theorem specGetAt (s : ByteArray) (k : Nat) (w : World) (hs : s.size ≤ 20000) :
    Calls Tryz.prog 78 #[.string s, .int .i64 (k : Int)] w fun e w' => e = .returned (getAt s k).val ∧ Below w.heap.size w w' := by
  by_cases h1 : s.size ≤ k
  · exact specGet_end s k w h1
  cases ht : tagB (bN s k : Int) with
  | false => exact specGet_tag s k w (by omega) ht
  | true =>
    by_cases h2 : s.size = k + 1
    · exact specGet_one s k w hs h2 ht
    by_cases h3 : bN s (k + 1) < 128
    · exact specGet_low s k w hs (by omega) ht h3
    by_cases h4 : bN s (k + 1) = 129
    · exact specGet_129 s k w hs (by omega) ht h4
    by_cases h5 : bN s (k + 1) = 130
    · exact specGet_130 s k w hs (by omega) ht h5
    · exact specGet_many s k w hs (by omega) ht (by omega) h4 h5
end Go.Proofs.YtfliacfeebooeaaGreatDoor
namespace Go.Proofs.YtfliacfeebooeaaGreatDoor
open Go.RowKit

theorem infoTlv : (Tryz.prog.info? 68).map (fun i => (i.zero, i.size, i.bytes)) = some (some (.agg #[.int .i64 0, .string ⟨#[]⟩]), 2, 24) := by kernel_rfl
/-- A row of things of the call's own. -/
def OwnT (w : World) (B : Nat) (v : Value) (l : List (Int × ByteArray)) : Prop := w.ownsRow B 68 2 v l.length (tCells l)
theorem OwnT.keep {w w' : World} {B : Nat} {v : Value} {l : List (Int × ByteArray)} (h : OwnT w B v l) (hb : Below w.heap.size w w') : OwnT w' B v l := by
  refine ⟨h.1, ?_⟩
  rcases h.2 with h | ⟨g, cap, cur, e, h1, h2, h3⟩
  · exact .inl h
  · exact .inr ⟨g, cap, cur, e, h1, by rw [hb.block g (heap_lt h2)]; exact h2, h3⟩
theorem OwnT.mono {w : World} {B B' : Nat} {v : Value} {l : List (Int × ByteArray)} (h : OwnT w B v l) (hB : B' ≤ B) : OwnT w B' v l := by
  refine ⟨h.1, ?_⟩
  rcases h.2 with h | ⟨g, cap, cur, e, h1, h3⟩
  · exact .inl h
  · exact .inr ⟨g, cap, cur, e, Nat.le_trans hB h1, h3⟩
theorem OwnT.other {w : World} {B b o : Nat} {v u : Value} {l : List (Int × ByteArray)} (h : OwnT w B v l) (hb : b < B) : OwnT (w.setCell ⟨b, o, none⟩ u) B v l := by
  refine ⟨h.1, ?_⟩
  rcases h.2 with h | ⟨g, cap, cur, e, h1, h2, h3⟩
  · exact .inl h
  · exact .inr ⟨g, cap, cur, e, h1, by rw [heap_setCell_other _ _ _ _ (by show g ≠ b; omega)]; exact h2, h3⟩
theorem OwnT.form {w : World} {B : Nat} {v : Value} {l : List (Int × ByteArray)} (h : OwnT w B v l) : ∃ a c, v = .slice a l.length c := by
  rcases h.2 with ⟨h, h'⟩ | ⟨g, cap, _, e, _⟩
  · exact ⟨none, 0, by rw [h']; exact h⟩
  · exact ⟨_, _, e⟩
theorem ownT_nil (w : World) (B : Nat) : OwnT w B (.slice none 0 0) [] := ⟨rfl, .inl ⟨rfl, rfl⟩⟩
end Go.Proofs.YtfliacfeebooeaaGreatDoor
