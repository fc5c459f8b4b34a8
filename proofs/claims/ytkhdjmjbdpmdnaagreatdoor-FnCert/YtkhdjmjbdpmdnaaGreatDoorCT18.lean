/- What was laid comes back when it is read: rows of things within things, numbers one behind the other. Plain mathematics: no program is named here. Names' things come back. Plain mathematics: no program is named here. Lists of what is taken back come back when they are read. Plain mathematics: no program is named here. (impl.numberThing).body, walked. impl.numberOf, impl.DerIntRead, walked. A number that came out of its struct. impl.readTag, impl.readLength, walked. impl.copyText, walked. -/
import Derived.Test.YtkhdjmjbdpmdnaaGreatDoorCT17
import Derived.Test.YtkhdjmjbdpmdnaaGreatDoorCT14
import Derived.Test.YtkhdjmjbdpmdnaaGreatDoorCT03
import Derived.Test.YtkhdjmjbdpmdnaaGreatDoorCT16
import Derived.Test.YtkhdjmjbdpmdnaaGreatDoorCT12
import Derived.Test.YtkhdjmjbdpmdnaaGreatDoorCT15
import Derived.Test.YtkhdjmjbdpmdnaaGreatDoorCT05
import Derived.Test.YtkhdjmjbdpmdnaaGreatDoorCT13
import Derived.OwnWalk
import Derived.Test.YtkhdjmjbdpmdnaaGreatDoorCT01
namespace Go.Proofs.YtkhdjmjbdpmdnaaGreatDoor
open Go.RowKit

theorem app_nil (b : ByteArray) : b ++ (⟨#[]⟩ : ByteArray) = b := ByteArray.append_empty
theorem nil_app (b : ByteArray) : (⟨#[]⟩ : ByteArray) ++ b = b := ByteArray.empty_append
theorem tag1 : tagB ((1 : Nat) : Int) = true := by decide
theorem tag2 : tagB ((2 : Nat) : Int) = true := by decide
theorem tag3 : tagB ((3 : Nat) : Int) = true := by decide
theorem tag4 : tagB ((4 : Nat) : Int) = true := by decide
theorem tag6 : tagB ((6 : Nat) : Int) = true := by decide
theorem tag12 : tagB ((12 : Nat) : Int) = true := by decide
theorem tag48 : tagB ((48 : Nat) : Int) = true := by decide
theorem tag49 : tagB ((49 : Nat) : Int) = true := by decide
theorem tag130 : tagB ((130 : Nat) : Int) = true := by decide
theorem tag160 : tagB ((160 : Nat) : Int) = true := by decide
theorem tag163 : tagB ((163 : Nat) : Int) = true := by decide
/-- Things that may be laid. -/
def ThingsOk (l : List (Nat × ByteArray)) : Prop := (∀ q ∈ l, tagB (q.1 : Int) = true ∧ q.2.size ≤ 4000) ∧ l.length ≤ 60 ∧ (catT l).size ≤ 20000
theorem bodyK_cat {l : List (Nat × ByteArray)} (h : ThingsOk l) (k : Nat) : bodyK (catT l) k = ((l[k]?).map (·.2)).getD ⟨#[]⟩ := by
  unfold bodyK
  rw [allD_cat h.1 h.2.1 h.2.2]
  simp only [asI, List.getElem?_map]
  cases l[k]? <;> rfl
theorem atP_cat {l : List (Nat × ByteArray)} (h : ThingsOk l) {k t : Nat} {b : ByteArray} {ks : List Nat} (hk : l[k]? = some (t, b)) : atP (catT l) (k :: ks) = atP b ks := by
  have hlt : k < l.length := by
    rcases Nat.lt_or_ge k l.length with h | h
    · exact h
    · rw [List.getElem?_eq_none h] at hk; cases hk
  rw [atP, bodyK_cat h, hk, allD_cat h.1 h.2.1 h.2.2, if_pos (by rw [asI, List.length_map]; exact hlt)]
  rfl
theorem atP_nil (b : ByteArray) : atP b [] = b := rfl
theorem bodiesR_cat {l : List (Nat × ByteArray)} (h : ThingsOk l) : bodiesR (catT l) = l.map (·.2) := by
  unfold bodiesR
  rw [allD_cat h.1 h.2.1 h.2.2]
  simp [asI]
theorem serialsR_cat {l : List (Nat × ByteArray)} (h : ThingsOk l) : serialsR (catT l) = l.map fun q => (intR q.2).1 := by
  unfold serialsR
  rw [allD_cat h.1 h.2.1 h.2.2]
  simp [asI]
theorem catT_one (t : Nat) (b : ByteArray) : catT [(t, b)] = thingD (t : Int) b := by rw [catT, catT, app_nil]
theorem catT_cons (t : Nat) (b : ByteArray) (r : List (Nat × ByteArray)) : catT ((t, b) :: r) = thingD (t : Int) b ++ catT r := rfl
theorem catT_app : ∀ (l m : List (Nat × ByteArray)), catT (l ++ m) = catT l ++ catT m
  | [], m => (nil_app _).symm
  | q :: l, m => by rw [List.cons_append, catT, catT_app l m, catT, ByteArray.append_assoc]
theorem hostsD_cat (ss : List ByteArray) : ∀ k, k ≤ ss.length → hostsD ss k = catT ((ss.take k).map fun n => (130, n))
  | 0, _ => rfl
  | k + 1, hk => by
    have hlt : k < ss.length := by omega
    rw [hostsD, hostsD_cat ss k (by omega), List.take_add_one, List.map_append, catT_app]
    congr 1
    rw [List.getElem?_eq_getElem hlt]
    show _ = catT [(130, ss[k])]
    rw [catT_one]
    show thingD 130 (tAt ss k) = thingD 130 ss[k]
    congr 1
    unfold tAt
    rw [List.getD_eq_getElem?_getD, List.getElem?_eq_getElem hlt]
    rfl
/-- A number, whatever stands ahead of it and behind it. -/
theorem numAt_back {n : Int} (h0 : -9223372036854775808 ≤ n) (h1 : n ≤ 9223372036854775807) (a b : ByteArray) (hs : (a ++ putS n ++ b).size ≤ 20000) :
    numAt (a ++ putS n ++ b) (a.size : Int) = ⟨n, ((a ++ putS n).size : Int), 0⟩ := by
  unfold numAt
  rw [if_neg (by omega), if_neg (by omega), Int.toNat_natCast]
  have h := num_back n h0 h1 a b
  unfold putS
  rw [h, ByteArray.size_append]
/-- Numbers one behind the other, from where they begin. -/
def rowN : List Int → ByteArray
  | [] => ⟨#[]⟩
  | n :: r => putS n ++ rowN r
theorem rowN_back : ∀ (zs : List Int) (a : ByteArray), (∀ n ∈ zs, -9223372036854775808 ≤ n ∧ n ≤ 9223372036854775807) → (a ++ rowN zs).size ≤ 20000 →
    numsGo (a ++ rowN zs) zs.length (a.size : Int) = zs ∧ bitsQ (a ++ rowN zs) zs.length (a.size : Int) = zs
  | [], a, _, _ => ⟨rfl, rfl⟩
  | n :: r, a, hz, hs => by
    obtain ⟨h0, h1⟩ := hz n (List.mem_cons_self ..)
    have e : a ++ rowN (n :: r) = a ++ putS n ++ rowN r := by rw [rowN, ByteArray.append_assoc]
    rw [e] at hs ⊢
    have hn := numAt_back h0 h1 a (rowN r) hs
    have ih := rowN_back r (a ++ putS n) (fun m hm => hz m (List.mem_cons_of_mem _ hm)) hs
    rw [List.length_cons, numsGo, bitsQ, hn]
    simp only [if_true]
    rw [ih.1, ih.2]
    exact ⟨rfl, rfl⟩
theorem one_size : (⟨#[0]⟩ : ByteArray).size = 1 := rfl
theorem rowN_zero {zs : List Int} (hz : ∀ n ∈ zs, -9223372036854775808 ≤ n ∧ n ≤ 9223372036854775807) (hs : ((⟨#[0]⟩ : ByteArray) ++ rowN zs).size ≤ 20000) :
    numsGo (⟨#[0]⟩ ++ rowN zs) zs.length 1 = zs ∧ bitsQ (⟨#[0]⟩ ++ rowN zs) zs.length 1 = zs := rowN_back zs ⟨#[0]⟩ hz hs
theorem key_row (k : Int) : (⟨#[0]⟩ : ByteArray) ++ putS k = ⟨#[0]⟩ ++ rowN [k] := by rw [rowN, rowN, app_nil]
theorem sigT_row (k e s : Int) : sigT k e s = ⟨#[0]⟩ ++ rowN [k, e, s] := by
  unfold sigT
  simp only [rowN, app_nil, ByteArray.append_assoc]
end Go.Proofs.YtkhdjmjbdpmdnaaGreatDoor
namespace Go.Proofs.YtkhdjmjbdpmdnaaGreatDoor
open Go.RowKit

def nameL0 (t : ByteArray) : List (Nat × ByteArray) := [(6, strOfNums (oidL [2, 5, 4, 3])), (12, t)]
def nameL1 (t : ByteArray) : List (Nat × ByteArray) := [(48, catT (nameL0 t))]
def nameL (t : ByteArray) : List (Nat × ByteArray) := [(49, catT (nameL1 t))]
theorem nameD_cat (t : ByteArray) : nameD t = thingD 48 (catT (nameL t)) := by
  rw [nameL, catT_one, nameL1, catT_one, nameL0, catT_cons, catT_one]
  rfl
theorem name_ok {t : ByteArray} (h : t.size ≤ 40) : ThingsOk (nameL0 t) ∧ ThingsOk (nameL1 t) ∧ ThingsOk (nameL t) ∧ (catT (nameL t)).size ≤ 105 := by
  have h0 := nameD_le t
  rw [nameD_cat, thingD_size, nameL, catT_one, thingD_size, nameL1, catT_one, thingD_size] at h0
  have e1 : (catT (nameL t)).size = 1 + (lenD (catT (nameL1 t)).size).length + (catT (nameL1 t)).size := by rw [nameL, catT_one, thingD_size]
  have e2 : (catT (nameL1 t)).size = 1 + (lenD (catT (nameL0 t)).size).length + (catT (nameL0 t)).size := by rw [nameL1, catT_one, thingD_size]
  have e3 : (catT (nameL0 t)).size = (oidT [2, 5, 4, 3]).size + (thingD 12 t).size := by rw [nameL0, catT_cons, catT_one, ByteArray.size_append]; rfl
  have h5 := arcs_lit arcsName
  have h6 := thingD_le 12 t
  have s3 : (catT (nameL0 t)).size ≤ 93 := by omega
  have s2 : (catT (nameL1 t)).size ≤ 97 := by
    have := thingD_le ((48 : Nat) : Int) (catT (nameL0 t))
    rw [nameL1, catT_one]
    omega
  have s1 : (catT (nameL t)).size ≤ 101 := by
    have := thingD_le ((49 : Nat) : Int) (catT (nameL1 t))
    rw [nameL, catT_one]
    omega
  have ho : (strOfNums (oidL [2, 5, 4, 3])).size ≤ 45 := by rw [strOfNums_size]; exact oidL_len arcsName
  refine ⟨⟨fun q hq => ?_, by simp [nameL0], by omega⟩, ⟨fun q hq => ?_, by simp [nameL1], by omega⟩, ⟨fun q hq => ?_, by simp [nameL], by omega⟩, by omega⟩
  · unfold nameL0 at hq
    simp only [List.mem_cons, List.not_mem_nil, or_false] at hq
    rcases hq with rfl | rfl
    · exact ⟨tag6, by show (strOfNums (oidL [2, 5, 4, 3])).size ≤ _; omega⟩
    · exact ⟨tag12, by show t.size ≤ _; omega⟩
  · obtain rfl := List.mem_singleton.1 hq
    exact ⟨tag48, by show (catT (nameL0 t)).size ≤ _; omega⟩
  · obtain rfl := List.mem_singleton.1 hq
    exact ⟨tag49, by show (catT (nameL1 t)).size ≤ _; omega⟩
theorem name_back {t : ByteArray} (h : t.size ≤ 40) : atP (catT (nameL t)) [0, 0, 1] = t := by
  obtain ⟨o0, o1, o2, _⟩ := name_ok h
  rw [atP_cat o2 rfl, atP_cat o1 rfl, atP_cat o0 rfl, atP_nil]
end Go.Proofs.YtkhdjmjbdpmdnaaGreatDoor
namespace Go.Proofs.YtkhdjmjbdpmdnaaGreatDoor
open Go.RowKit

def serL (zs : List Int) : List (Nat × ByteArray) := zs.map fun n => (2, strOfNums (intL n))
theorem serD_cat (zs : List Int) : ∀ k, k ≤ zs.length → serD zs k = catT (serL (zs.take k))
  | 0, _ => rfl
  | k + 1, hk => by
    have hlt : k < zs.length := by omega
    rw [serD, serD_cat zs k (by omega), List.take_add_one, serL, serL, List.map_append, catT_app]
    congr 1
    rw [List.getElem?_eq_getElem hlt]
    show _ = catT [(2, strOfNums (intL zs[k]))]
    rw [catT_one]
    show intD (zs.getD k 0) = thingD 2 (strOfNums (intL zs[k]))
    rw [List.getD_eq_getElem?_getD, List.getElem?_eq_getElem hlt]
    rfl
theorem intB_size (n : Int) : (strOfNums (intL n)).size ≤ 8 := by rw [strOfNums_size]; exact (intL_len n).2
theorem ser_ok {zs : List Int} (h : zs.length ≤ 40) : serD zs zs.length = catT (serL zs) ∧ ThingsOk (serL zs) := by
  have e : serD zs zs.length = catT (serL zs) := by rw [serD_cat zs _ (Nat.le_refl _), List.take_length]
  have hs := serD_le zs zs.length
  refine ⟨e, fun q hq => ?_, by rw [serL, List.length_map]; omega, by rw [← e]; omega⟩
  obtain ⟨n, hn, rfl⟩ := List.mem_map.1 hq
  exact ⟨tag2, by have := intB_size n; show (strOfNums (intL n)).size ≤ _; omega⟩
theorem ser_back {zs : List Int} (h : zs.length ≤ 40) (h' : ∀ n ∈ zs, -9223372036854775808 ≤ n ∧ n ≤ 9223372036854775807) : serialsR (serD zs zs.length) = zs := by
  obtain ⟨e, o⟩ := ser_ok h
  rw [e, serialsR_cat o, serL, List.map_map]
  have : ∀ n ∈ zs, ((fun q : Nat × ByteArray => (intR q.2).1) ∘ fun n => (2, strOfNums (intL n))) n = n := fun n hn => by
    obtain ⟨h0, h1⟩ := h' n hn
    show (intR (strOfNums (intL n))).1 = n
    rw [int_back h0 h1]
  rw [List.map_congr_left this, List.map_id']
def listL (c : Lst) : List (Nat × ByteArray) := [(48, catT (nameL c.issuer)), (2, strOfNums (intL c.fr)), (2, strOfNums (intL c.till)), (48, serD c.serials c.serials.length)]
def listL2 (c : Lst) : List (Nat × ByteArray) := [(48, catT (listL c)), (3, sigT c.sk c.se c.ss)]
theorem listD_cat (c : Lst) : listD c = thingD 48 (catT (listL c)) := by
  rw [listL, catT_cons, catT_cons, catT_cons, catT_one]
  unfold listD seqD intD
  rw [nameD_cat]
  rfl
theorem listY_cat (c : Lst) : listY c = catT [(48, catT (listL2 c))] := by
  rw [catT_one, listL2, catT_cons, catT_one]
  unfold listY
  rw [listD_cat]
  rfl
theorem list_ok {c : Lst} (h : LFits c) : ThingsOk (listL c) ∧ ThingsOk (listL2 c) ∧ ThingsOk [(48, catT (listL2 c))] := by
  have hD := listD_le h
  have hi := (name_ok h.iss).2.2.2
  have hf := intB_size c.fr
  have ht := intB_size c.till
  have hz := serD_le c.serials c.serials.length
  have hl := h.len
  have hS := sigT_le c.sk c.se c.ss
  have s1 : (catT (listL c)).size ≤ 700 := by rw [listD_cat, thingD_size] at hD; omega
  have s2 : (catT (listL2 c)).size ≤ 800 := by
    have h3 := thingD_le 48 (catT (listL c))
    have h4 := thingD_le 3 (sigT c.sk c.se c.ss)
    rw [listL2, catT_cons, catT_one, ByteArray.size_append]
    show (thingD 48 _).size + (thingD 3 _).size ≤ _
    omega
  have s3 : (catT [(48, catT (listL2 c))]).size ≤ 900 := by
    have h3 := thingD_le 48 (catT (listL2 c))
    rw [catT_one]
    show (thingD 48 _).size ≤ _
    omega
  refine ⟨⟨fun q hq => ?_, by simp [listL], by omega⟩, ⟨fun q hq => ?_, by simp [listL2], by omega⟩, ⟨fun q hq => ?_, by simp, by omega⟩⟩
  · unfold listL at hq
    simp only [List.mem_cons, List.not_mem_nil, or_false] at hq
    rcases hq with rfl | rfl | rfl | rfl
    · exact ⟨tag48, by show (catT (nameL c.issuer)).size ≤ _; omega⟩
    · exact ⟨tag2, by show (strOfNums (intL c.fr)).size ≤ _; omega⟩
    · exact ⟨tag2, by show (strOfNums (intL c.till)).size ≤ _; omega⟩
    · exact ⟨tag48, by show (serD c.serials c.serials.length).size ≤ _; omega⟩
  · unfold listL2 at hq
    simp only [List.mem_cons, List.not_mem_nil, or_false] at hq
    rcases hq with rfl | rfl
    · exact ⟨tag48, by show (catT (listL c)).size ≤ _; omega⟩
    · exact ⟨tag3, by show (sigT c.sk c.se c.ss).size ≤ _; omega⟩
  · obtain rfl := List.mem_singleton.1 hq
    exact ⟨tag48, by show (catT (listL2 c)).size ≤ _; omega⟩
theorem ser_nums {zs : List Int} (h : ∀ i, i < zs.length → 1 ≤ zs.getD i 0 ∧ zs.getD i 0 ≤ 1000000000) : ∀ n ∈ zs, -9223372036854775808 ≤ n ∧ n ≤ 9223372036854775807 := by
  intro n hn
  obtain ⟨i, hi, rfl⟩ := List.getElem_of_mem hn
  have := h i hi
  rw [List.getD_eq_getElem?_getD, List.getElem?_eq_getElem hi] at this
  simp only [Option.getD_some] at this
  omega
/-- The parts of a list, as they lie. -/
theorem list_back {c : Lst} (h : crlB c = true) : atP (listY c) [0] = catT (listL2 c) ∧ atP (catT (listL2 c)) [0] = catT (listL c) ∧ atP (catT (listL2 c)) [1] = sigT c.sk c.se c.ss ∧ atP (catT (listL c)) [0] = catT (nameL c.issuer) ∧ atP (catT (listL c)) [1] = strOfNums (intL c.fr) ∧ atP (catT (listL c)) [2] = strOfNums (intL c.till) ∧ atP (catT (listL c)) [3] = serD c.serials c.serials.length ∧
    numsGo (sigT c.sk c.se c.ss) 3 1 = [c.sk, c.se, c.ss] ∧ bitsQ (sigT c.sk c.se c.ss) 3 1 = [c.sk, c.se, c.ss] := by
  have hf := list_fits (crlB_list h)
  obtain ⟨s0, s1, s2⟩ := sigRB_lt (crlB_sig h)
  obtain ⟨o1, o2, o3⟩ := list_ok hf
  have ht := sigT_le c.sk c.se c.ss
  obtain ⟨n1, n2⟩ := rowN_zero (zs := [c.sk, c.se, c.ss]) (fun n hn => by simp at hn; rcases hn with rfl | rfl | rfl <;> omega) (by rw [← sigT_row]; omega)
  exact ⟨by rw [listY_cat, atP_cat o3 rfl, atP_nil], by rw [atP_cat o2 rfl, atP_nil], by rw [atP_cat o2 rfl, atP_nil], by rw [atP_cat o1 rfl, atP_nil], by rw [atP_cat o1 rfl, atP_nil], by rw [atP_cat o1 rfl, atP_nil], by rw [atP_cat o1 rfl, atP_nil], by rw [sigT_row]; exact n1, by rw [sigT_row]; exact n2⟩
/-- What the program reads of a list. -/
def readL (s : ByteArray) : Lst :=
  let w := atP s [0]
  let b := atP w [0]
  let n := numsGo (atP w [1]) 3 1
  ⟨atP (atP b [0]) [0, 0, 1], (intR (atP b [1])).1, (intR (atP b [2])).1, serialsR (atP b [3]), n.getD 0 0, n.getD 1 0, n.getD 2 0⟩
theorem readL_back {c : Lst} (h : crlB c = true) : readL (listY c) = c := by
  obtain ⟨a1, a2, a3, a4, a5, a6, a7, n1, _⟩ := list_back h
  have hf := list_fits (crlB_list h)
  obtain ⟨f0, f1, t0, t1⟩ := And.intro hf.fr0 (And.intro hf.fr1 (And.intro hf.till0 hf.till1))
  unfold readL
  simp only [a1, a2, a3, a4, a5, a6, a7, n1, List.getD_cons_zero, List.getD_cons_succ]
  rw [name_back hf.iss, int_back (by omega) (by omega), int_back (by omega) (by omega), ser_back hf.len (ser_nums hf.each)]
end Go.Proofs.YtkhdjmjbdpmdnaaGreatDoor
namespace Go.Proofs.YtkhdjmjbdpmdnaaGreatDoor
open Go.RowKit Go.Lib

theorem sign_bits (n : Int) (h0 : -9223372036854775808 ≤ n) (h1 : n ≤ 9223372036854775807) : bits BinOp.xor IntKind.i64 n (n / 9223372036854775808) = (bareN n : Int) := by
  have hn : n / 9223372036854775808 = 0 ∨ n / 9223372036854775808 = -1 := by omega
  rcases hn with e | e
  · rw [e]
    have : bits BinOp.xor IntKind.i64 n 0 = IntKind.i64.wrap ((BitVec.ofInt 64 n ^^^ BitVec.ofInt 64 0).toNat : Nat) := rfl
    rw [this, show BitVec.ofInt 64 0 = 0#64 from by decide, BitVec.xor_zero, BitVec.toNat_ofInt, IntKind.wrap_i64]
    unfold bareN
    split <;> omega
  · rw [e]
    have : bits BinOp.xor IntKind.i64 n (-1) = IntKind.i64.wrap ((BitVec.ofInt 64 n ^^^ BitVec.ofInt 64 (-1)).toNat : Nat) := rfl
    rw [this, show BitVec.ofInt 64 (-1) = BitVec.allOnes 64 from by decide, BitVec.xor_allOnes, BitVec.toNat_not, BitVec.toNat_ofInt, IntKind.wrap_i64]
    unfold bareN
    split <;> omega
set_option maxHeartbeats 1000000 in
set_option maxRecDepth 100000 in
theorem bodyNumber (n : Int) (w : World) (h0 : -9223372036854775808 ≤ n) (h1 : n ≤ 9223372036854775807) :
    Calls Tryz.prog 193 #[.agg #[.int .i64 n]] w fun e w' => e = .returned (.string (strOfNums (intL n))) ∧ Below w.heap.size w w' := by
  obtain ⟨i0, hi, hz0, hz1, hz2⟩ := info_parts infoByte
  have hx := sign_bits n h0 h1
  have hbl := intL_bits h0 h1
  have hl8 := (intL_len n).2
  have hbn : bareN n < 9223372036854775808 := by unfold bareN; split <;> omega
  go_enter Tryz.func193, Tryz.ntmps193
  go_wp2_with fail
  refine (len64 _ _ (by omega) (by omega)).mono ?_
  rintro e w' ⟨rfl, rfl⟩
  rw [show ((bareN n : Int).toNat) = bareN n from rfl]
  obtain ⟨c, hc⟩ : ∃ c, c = (intL n).length := ⟨_, rfl⟩
  have hq : (Lib.bitLen (bareN n) : Int) / 8 + 1 = (c : Int) := by omega
  have hb64 : Lib.bitLen (bareN n) ≤ 64 := Lib.bitLen_le _ 64 (by omega) (by omega)
  have hc8 : c ≤ 8 := by omega
  have hc1 : 1 ≤ c := by omega
  have HA : Hid (∀ i, i < c → (intL n).getD (c - 1 - i) 0 = n / 256 ^ i % 256) := fun i hi => by rw [hc]; exact intL_at (by omega)
  have HC : Hid (c = (intL n).length) := hc
  generalize Lib.bitLen (bareN n) = L at *
  clear hbl hx hbn hl8 hc
  go_wp2_with (at_make; refine wpList_make_full _ rfl _ _ 22 rfl (w.heap.size + 1) 5 i0 (.int .u8 0) 1 Tryz.underlying22 hi hz0 hz1 .i64 .i64 _ _ c rfl rfl ?c1 ?c2 ?c3 ?c4 ?c5 ?_)
  case c1 => omega
  case c2 => omega
  case c3 => rw [hz2]; omega
  case c4 => unfold maxLen; omega
  case c5 => simp
  intro w1 hown hgrow
  have hlw : (w.alloc (Obj.cells #[.int .i64 n] 133)).heap.size = w.heap.size + 1 := by simp
  have hb1 : Below (w.heap.size + 1) (w.alloc (Obj.cells #[.int .i64 n] 133)) w1 := (Below.refl _ _).grown hgrow (by rw [hlw]; exact Nat.le_refl _) (fun k hk => by cases hk)
  have hB1 : Below w.heap.size w w1 := ((Below.refl _ w).alloc (Nat.le_refl _) _).trans (hb1.mono (Nat.le_succ _))
  have ht : w1.cell? ⟨w.heap.size, 0, none⟩ = some (.int .i64 n) := (hb1.cell (by simp)).trans (by simp)
  obtain ⟨hrow, hlen⟩ := rowOf hown rfl
  generalize (madeCells #[Value.int IntKind.u8 0] c).toList = M0 at hrow hlen
  clear hgrow hlw hb1 hown
  go_wp2_with fail
  go_loopw [19] (fun i wr => ∃ (k : Nat) (M : List Value), k ≤ c ∧ i = .int .i64 (k : Int) ∧ M.length = c ∧ wr.heap[w.heap.size + 1]? = some (.cells M.toArray 5 (0, 0)) ∧ wr.cell? ⟨w.heap.size, 0, none⟩ = some (.int .i64 n) ∧
      (∀ j, j < c → c - k ≤ j → M[j]? = some (.int .u8 ((intL n).getD j 0))) ∧ Below w.heap.size w wr)
    (fun i _ => c - (Lib.intOf i).toNat)
  case atStart => exact ⟨0, M0, Nat.zero_le _, rfl, hlen, hrow, ht, fun j h1 h2 => by omega, hB1⟩
  case round =>
    obtain ⟨k, M, hk, rfl, hM, hr, htw, hat, hbel⟩ := hrel
    have HAt : Hid (∀ j, j < c → c - k ≤ j → M[j]? = some (.int .u8 ((intL n).getD j 0))) := hat
    have HR : Hid (wr.heap[w.heap.size + 1]? = some (.cells M.toArray 5 (0, 0))) := hr
    clear hat hrow hlen hB1 ht
    by_cases hlt : k < c
    · obtain ⟨j, hj⟩ : ∃ j, j = c - 1 - k := ⟨_, rfl⟩
      have hjc : j < c := by omega
      have e1 : (c : Int) - 1 - (k : Int) = (j : Int) := by omega
      have hv : wr.cell? ⟨w.heap.size + 1, j, none⟩ = some (M[j]'(by omega)) := rowFacts hr j _ (List.getElem?_eq_getElem (by omega))
      generalize M[j]'(by omega) = v0 at hv
      have hf : wr.frozen? ⟨w.heap.size + 1, j, none⟩ = false := frozen_of_row wr _ j _ _ hr
      have HJ : Hid (j = c - 1 - k) := hj
      clear hj hr
      have HC2 : Hid (∀ v, (wr.setCell ⟨w.heap.size + 1, j, none⟩ v).cell? ⟨w.heap.size, 0, none⟩ = some (.int .i64 n)) := fun v => by
        rw [((Below.refl (w.heap.size + 1) wr).setCell (Nat.le_refl _) v).cell (p := ⟨w.heap.size, 0, none⟩) (by simp)]; exact htw
      have HB2 : Hid (∀ v, Below w.heap.size w (wr.setCell ⟨w.heap.size + 1, j, none⟩ v)) := fun v => hbel.setCell (by simp) v
      clear hbel
      go_wp2
      go_roundw
      case rel =>
        have hj := HJ.out
        refine ⟨k + 1, M.set j (.int .u8 (n / 2 ^ (8 * k) % 256)), by omega, by go_num, by simpa using hM, rowSet _ HR.out, HC2.out _, ?_, HB2.out _⟩
        intro i hi1 hi2
        by_cases ei : i = j
        · subst ei
          rw [List.getElem?_set_self (by omega)]
          have ha := HA.out k hlt
          rw [← hj] at ha
          rw [ha, show (256 : Int) ^ k = 2 ^ (8 * k) from by rw [Int.pow_mul]; rfl]
        · rw [List.getElem?_set_ne (by omega)]
          exact HAt.out i hi1 (by omega)
      case measure => simp [Lib.intOf]; omega
    · obtain rfl : k = c := by omega
      have hcv : (convert 22 9 (.slice (some ⟨w.heap.size + 1, 0, none⟩) k k)).run Tryz.prog wr = .ok (.string (strOfNums (intL n))) wr := by
        have hc := HC.out
        refine convertRow wr _ (intL n) 5 k k hc.symm ?_
        rw [hr]
        congr 3
        apply List.ext_getElem?
        intro j
        rcases Nat.lt_or_ge j k with hj | hj
        · rw [HAt.out j hj (by omega)]
          simp [List.getD, List.getElem?_eq_getElem (show j < (intL n).length by omega)]
        · rw [List.getElem?_eq_none (by omega), List.getElem?_eq_none (by simp; omega)]
      clear hr HR HAt
      go_wp2
      go_ret
      exact ⟨rfl, hbel⟩
end Go.Proofs.YtkhdjmjbdpmdnaaGreatDoor
namespace Go.Proofs.YtkhdjmjbdpmdnaaGreatDoor
open Go.RowKit Go.Lib

theorem wrapI8 (x : Int) : IntKind.i8.wrap x = (x + 128) % 256 - 128 := by
  simp [IntKind.wrap, IntKind.bits, IntKind.signed]
  omega
set_option maxHeartbeats 1000000 in
set_option maxRecDepth 100000 in
theorem numberOf (s : ByteArray) (w : World) (h0 : 0 < s.size) (h8 : s.size ≤ 8) :
    Calls Tryz.prog 192 #[.string s] w fun e w' => e = .returned (.int .i64 (sv s s.size)) ∧ w' = w := by
  have hb0 := bN_eq s 0 h0
  have hu := u8_lt s[0]
  have h0i : (0 : Int) < (s.size : Int) := by omega
  have HZ : Hid (sv s 1 = IntKind.i8.wrap (s[0].toNat : Int)) := by
    show _ = _
    rw [wrapI8, ← hb0]
    simp only [sv]
    split <;> omega
  go_enter Tryz.func192, Tryz.ntmps192
  go_wp2_with fail
  go_loopw [3, 4] (fun n i wr => ∃ k : Nat, 1 ≤ k ∧ k ≤ s.size ∧ n = .int .i64 (sv s k) ∧ i = .int .i64 (k : Int) ∧ wr = w)
    (fun _ i _ => s.size - (RowKit.intOf i).toNat)
  case atStart =>
    refine ⟨1, Nat.le_refl _, by omega, ?_, rfl, rfl⟩
    rw [← HZ.out]
    have := sv_bd s (show 1 ≤ 8 by omega)
    rw [show wrap64 (sv s 1) = sv s 1 from by unfold wrap64; omega]
  case round =>
    obtain ⟨k, hk1, hk, rfl, rfl, rfl⟩ := hrel
    by_cases hlt : k < s.size
    · have hv := sv_low s (show k < 8 by omega)
      have hbk := bN_eq s k hlt
      have hub := u8_lt s[k]
      have ho := or8 (sv s k) (bN s k) (bN_lt s k) hv.1 hv.2
      have HS : Hid (sv s (k + 1) = sv s k * 256 + (bN s k : Int)) := rfl
      rw [hbk] at ho HS
      generalize sv s k = v at *
      have hv0 := hv.1
      have hv1 := hv.2
      clear hv
      have q2 : (k : Int) < (s.size : Int) := by omega
      go_wp2
      go_roundw
      case rel => exact ⟨k + 1, by omega, by omega, by rw [HS.out], by go_num, trivial⟩
      case measure => simp [RowKit.intOf]; omega
    · obtain rfl : k = s.size := by omega
      go_wp2
      go_ret
      exact ⟨rfl, rfl⟩
set_option maxHeartbeats 1000000 in
theorem implIntRead (s : ByteArray) (w : World) (hs : s.size ≤ maxLen) :
    Calls Tryz.prog 158 #[.string s] w fun e w' => e = .returned (numT (intR s).1 (intR s).2) ∧ Below w.heap.size w w' := by
  have hs' := hs
  unfold maxLen at hs'
  by_cases h1 : 20000 < s.size
  · have HF : Hid (intR s = (0, 2)) := intR_long h1
    have hd : decide (20000 < s.size) = true := decide_eq_true h1
    go_enter Tryz.func158, Tryz.ntmps158
    go_wp2_with fail
    refine (tooLong s _ hs).mono ?_
    rintro e w' ⟨rfl, rfl⟩
    rw [hd]
    go_wp2
    refine bodyPost_ret (v := numT 0 2) (by simp [numT, results, Tryz.results158, go_sem]) rfl ⟨by rw [HF.out], ?_⟩
    repeat (first | exact Below.refl _ _ | refine Below.setCell ?_ (by simp) _ | refine Below.alloc ?_ (by simp) _)
  have hd : decide (20000 < s.size) = false := decide_eq_false h1
  by_cases h2 : s.size = 0 ∨ 8 < s.size
  · have HF : Hid (intR s = (0, 3)) := intR_size (by omega) h2
    rcases h2 with h2 | h2
    all_goals
      go_enter Tryz.func158, Tryz.ntmps158
      go_wp2_with fail
      refine (tooLong s _ hs).mono ?_
      rintro e w' ⟨rfl, rfl⟩
      rw [hd]
      go_wp2
      refine bodyPost_ret (v := numT 0 3) (by simp [numT, results, Tryz.results158, go_sem]) rfl ⟨by rw [HF.out], ?_⟩
      repeat (first | exact Below.refl _ _ | refine Below.setCell ?_ (by simp) _ | refine Below.alloc ?_ (by simp) _)
  · have hv := sv_bd s (show s.size ≤ 8 by omega)
    have HN : Hid (∀ v : World, Calls Tryz.prog 192 #[.string s] v fun e w' => e = .returned (.int .i64 (sv s s.size)) ∧ w' = v) := fun v => numberOf s v (by omega) (by omega)
    have HB : Hid (∀ v : World, Calls Tryz.prog 193 #[.agg #[.int .i64 (sv s s.size)]] v fun e w' => e = .returned (.string (strOfNums (intL (sv s s.size)))) ∧ Below v.heap.size v w') := fun v => bodyNumber _ v hv.1 (by omega)
    have hst := same_text (strOfNums (intL (sv s s.size))) s
    by_cases h3 : strOfNums (intL (sv s s.size)) = s
    · have HF : Hid (intR s = (sv s s.size, 0)) := intR_good (by omega) (by omega) h3
      rw [decide_eq_true h3] at hst
      generalize strOfNums (intL (sv s s.size)) = y at *
      generalize sv s s.size = x at *
      clear h3
      go_enter Tryz.func158, Tryz.ntmps158
      go_wp2_with fail
      refine (tooLong s _ hs).mono ?_
      rintro e w' ⟨rfl, rfl⟩
      rw [hd]
      go_wp2_with fail
      refine (HN.out _).mono ?_
      rintro e w' ⟨rfl, rfl⟩
      go_wp2_with fail
      refine (HB.out _).mono ?_
      rintro e w1 ⟨rfl, hb1⟩
      obtain ⟨hr, hB, _⟩ := resKeep (cs := [.int .i64 0, .int .i64 0, .int .i64 0]) (T := 150) hb1
      obtain ⟨⟨c0, c1, c2⟩, f0, f1, f2⟩ := cells3 hr
      clear hb1 hr
      go_wp2
      refine bodyPost_ret (v := numT x 0) (by simp [numT, results, Tryz.results158, go_sem, c0, c1, c2]) rfl ⟨by rw [HF.out], ?_⟩
      repeat (first | exact hB | refine Below.setCell ?_ (by simp) _ | refine Below.alloc ?_ (by simp) _)
    · have HF : Hid (intR s = (0, 3)) := intR_bad (by omega) (by omega) h3
      rw [decide_eq_false h3] at hst
      generalize strOfNums (intL (sv s s.size)) = y at *
      generalize sv s s.size = x at *
      clear h3
      go_enter Tryz.func158, Tryz.ntmps158
      go_wp2_with fail
      refine (tooLong s _ hs).mono ?_
      rintro e w' ⟨rfl, rfl⟩
      rw [hd]
      go_wp2_with fail
      refine (HN.out _).mono ?_
      rintro e w' ⟨rfl, rfl⟩
      go_wp2_with fail
      refine (HB.out _).mono ?_
      rintro e w1 ⟨rfl, hb1⟩
      obtain ⟨hr, hB, _⟩ := resKeep (cs := [.int .i64 0, .int .i64 0, .int .i64 0]) (T := 150) hb1
      obtain ⟨⟨c0, c1, c2⟩, f0, f1, f2⟩ := cells3 hr
      clear hb1 hr
      go_wp2
      refine bodyPost_ret (v := numT 0 3) (by simp [numT, results, Tryz.results158, go_sem, c0, c1, c2]) rfl ⟨by rw [HF.out], ?_⟩
      repeat (first | exact hB | refine Below.setCell ?_ (by simp) _ | refine Below.alloc ?_ (by simp) _)
end Go.Proofs.YtkhdjmjbdpmdnaaGreatDoor
namespace Go.Proofs.YtkhdjmjbdpmdnaaGreatDoor
open Go.RowKit

theorem numF (n a c : Int) (w : World) : (Instr.field 150 (.agg #[.int .i64 n, .int .i64 a, .int .i64 c]) 0).run Tryz.prog w = .ok (.int .i64 n) w := by kernel_rfl
end Go.Proofs.YtkhdjmjbdpmdnaaGreatDoor
namespace Go.Proofs.YtkhdjmjbdpmdnaaGreatDoor
open Go.RowKit Go.Lib

/-- A fault as an error. -/
def errV (c : Int) : Value := .iface 216 (.agg #[.int .i64 c])
/-- The code of what readTag tells. -/
def tagC (s : ByteArray) (p : Int) : Int := if 20000 < s.size then 2 else if p < 0 then 1 else if s.size ≤ p.toNat then 4 else if tagB (bN s p.toNat : Int) = false then 3 else 0
set_option maxHeartbeats 1000000 in
set_option maxRecDepth 100000 in
theorem readTag (s : ByteArray) (p : Int) (w : World) (hs : s.size ≤ maxLen) :
    Calls Tryz.prog 224 #[.string s, .int .i64 p] w fun e w' => (tagC s p = 0 ∧ e = .returned (.tuple #[.int .i64 (bN s p.toNat : Int), .nilIface]) ∨ tagC s p ≠ 0 ∧ e = .returned (.tuple #[.int .i64 0, errV (tagC s p)])) ∧ w' = w := by
  have hs' := hs
  unfold maxLen at hs'
  by_cases h1 : 20000 < s.size
  · have HF : Hid (tagC s p = 2) := if_pos h1
    have hd : decide (20000 < s.size) = true := decide_eq_true h1
    go_enter Tryz.func224, Tryz.ntmps224
    go_wp2_with fail
    refine (tooLong s _ hs).mono ?_
    rintro e w' ⟨rfl, rfl⟩
    rw [hd]
    go_wp2
    go_ret2
    exact ⟨.inr (by rw [HF.out]; exact ⟨by decide, rfl⟩), rfl⟩
  have hd : decide (20000 < s.size) = false := decide_eq_false h1
  by_cases h2 : p < 0
  · have HF : Hid (tagC s p = 1) := by unfold Hid tagC; rw [if_neg h1, if_pos h2]
    go_enter Tryz.func224, Tryz.ntmps224
    go_wp2_with fail
    refine (tooLong s _ hs).mono ?_
    rintro e w' ⟨rfl, rfl⟩
    rw [hd]
    go_wp2
    go_ret2
    exact ⟨.inr (by rw [HF.out]; exact ⟨by decide, rfl⟩), rfl⟩
  obtain ⟨k, rfl⟩ := Int.eq_ofNat_of_zero_le (show 0 ≤ p by omega)
  by_cases h3 : s.size ≤ k
  · have HF : Hid (tagC s (k : Int) = 4) := by unfold Hid tagC; rw [if_neg h1, if_neg h2, show ((k : Int).toNat) = k from rfl, if_pos h3]
    go_enter Tryz.func224, Tryz.ntmps224
    go_wp2_with fail
    refine (tooLong s _ hs).mono ?_
    rintro e w' ⟨rfl, rfl⟩
    rw [hd]
    go_wp2
    go_ret2
    exact ⟨.inr (by rw [HF.out]; exact ⟨by decide, rfl⟩), rfl⟩
  have b0 := bN_eq s k (by omega)
  have u0 := u8_lt (s[k]'(by omega))
  have q0 : (k : Int) < (s.size : Int) := by omega
  cases ht : tagB (bN s k : Int) with
  | false =>
    have HF : Hid (tagC s (k : Int) = 3) := by unfold Hid tagC; rw [if_neg h1, if_neg h2, show ((k : Int).toNat) = k from rfl, if_neg h3, if_pos ht]
    rw [b0] at ht
    go_enter Tryz.func224, Tryz.ntmps224
    go_wp2_with fail
    refine (tooLong s _ hs).mono ?_
    rintro e w' ⟨rfl, rfl⟩
    rw [hd]
    go_wp2_with fail
    refine (implTag _ _).mono ?_
    rintro e w' ⟨rfl, rfl⟩
    rw [ht]
    go_wp2
    go_ret2
    exact ⟨.inr (by rw [HF.out]; exact ⟨by decide, rfl⟩), rfl⟩
  | true =>
    have HF : Hid (tagC s (k : Int) = 0 ∧ bN s (k : Int).toNat = (s[k]'(by omega)).toNat) := ⟨by unfold tagC; rw [if_neg h1, if_neg h2, show ((k : Int).toNat) = k from rfl, if_neg h3, if_neg (by rw [ht]; simp)], b0⟩
    rw [b0] at ht
    go_enter Tryz.func224, Tryz.ntmps224
    go_wp2_with fail
    refine (tooLong s _ hs).mono ?_
    rintro e w' ⟨rfl, rfl⟩
    rw [hd]
    go_wp2_with fail
    refine (implTag _ _).mono ?_
    rintro e w' ⟨rfl, rfl⟩
    rw [ht]
    go_wp2
    go_ret2
    exact ⟨.inl ⟨HF.out.1, by rw [HF.out.2]; rfl⟩, rfl⟩
/-- What readLength tells: a code, a length, and the place behind it. -/
def lenAt (s : ByteArray) (j : Nat) : Nat × Nat × Nat :=
  if s.size ≤ j then (4, 0, 0) else if bN s j < 128 then (0, bN s j, j + 1)
  else if bN s j = 129 then if s.size ≤ j + 1 then (4, 0, 0) else if bN s (j + 1) < 128 then (3, 0, 0) else (0, bN s (j + 1), j + 2)
  else if bN s j = 130 then if s.size ≤ j + 2 then (4, 0, 0) else if 256 * bN s (j + 1) + bN s (j + 2) < 256 then (3, 0, 0) else if 4000 < 256 * bN s (j + 1) + bN s (j + 2) then (3, 0, 0) else (0, 256 * bN s (j + 1) + bN s (j + 2), j + 3)
  else (3, 0, 0)
theorem getAt_len {s : ByteArray} {k : Nat} (h : k < s.size) (ht : tagB (bN s k : Int) = true) :
    getAt s k = if (lenAt s (k + 1)).1 = 0 then bodyAt s (bN s k) (lenAt s (k + 1)).2.1 (lenAt s (k + 1)).2.2 else .bad (lenAt s (k + 1)).1 := by
  unfold getAt lenAt
  rw [if_neg (by omega), if_neg (by simp [ht])]
  by_cases h1 : s.size ≤ k + 1
  · simp only [if_pos h1]; rfl
  simp only [if_neg h1]
  by_cases h2 : bN s (k + 1) < 128
  · simp only [if_pos h2]; rfl
  simp only [if_neg h2]
  by_cases h3 : bN s (k + 1) = 129
  · simp only [if_pos h3]
    by_cases h4 : s.size ≤ k + 1 + 1
    · simp only [if_pos h4]; rfl
    simp only [if_neg h4]
    by_cases h5 : bN s (k + 1 + 1) < 128
    · simp only [if_pos h5]; rfl
    · simp only [if_neg h5]; rfl
  simp only [if_neg h3]
  by_cases h4 : bN s (k + 1) = 130
  · simp only [if_pos h4]
    by_cases h5 : s.size ≤ k + 1 + 2
    · simp only [if_pos h5]; rfl
    simp only [if_neg h5]
    by_cases h6 : 256 * bN s (k + 1 + 1) + bN s (k + 1 + 2) < 256
    · simp only [if_pos h6]; rfl
    simp only [if_neg h6]
    by_cases h7 : 4000 < 256 * bN s (k + 1 + 1) + bN s (k + 1 + 2)
    · simp only [if_pos h7]; rfl
    · simp only [if_neg h7]; rfl
  · simp only [if_neg h4]; rfl
def LenOk (R : Nat × Nat × Nat) (e : Ending) : Prop :=
  R.1 = 0 ∧ e = .returned (.tuple #[.int .i64 (R.2.1 : Int), .int .i64 (R.2.2 : Int), .nilIface]) ∨ R.1 ≠ 0 ∧ e = .returned (.tuple #[.int .i64 0, .int .i64 0, errV (R.1 : Int)])
set_option maxRecDepth 100000
theorem readLen_end (s : ByteArray) (j : Nat) (w : World) (h1 : s.size ≤ j) :
    Calls Tryz.prog 225 #[.string s, .int .i64 (j : Int)] w fun e w' => LenOk (lenAt s j) e ∧ w' = w := by
  have HF : Hid (lenAt s j = (4, 0, 0)) := if_pos h1
  go_enter Tryz.func225, Tryz.ntmps225
  go_wp2
  go_ret3
  exact ⟨by rw [HF.out]; exact .inr ⟨by decide, rfl⟩, rfl⟩
theorem readLen_low (s : ByteArray) (j : Nat) (w : World) (hs : s.size ≤ 20000) (h1 : j < s.size) (h2 : bN s j < 128) :
    Calls Tryz.prog 225 #[.string s, .int .i64 (j : Int)] w fun e w' => LenOk (lenAt s j) e ∧ w' = w := by
  have b0 := bN_eq s j h1
  have HF : Hid (lenAt s j = (0, s[j].toNat, j + 1)) := by unfold Hid lenAt; rw [if_neg (by omega), if_pos h2, b0]
  have u0 := u8_lt s[j]
  have q0 : (j : Int) < (s.size : Int) := by omega
  rw [b0] at h2
  go_enter Tryz.func225, Tryz.ntmps225
  go_wp2
  go_ret3
  exact ⟨by rw [HF.out]; exact .inl ⟨rfl, by simp⟩, rfl⟩
theorem readLen_many (s : ByteArray) (j : Nat) (w : World) (h1 : j < s.size) (h2 : 128 ≤ bN s j) (h3 : bN s j ≠ 129) (h4 : bN s j ≠ 130) :
    Calls Tryz.prog 225 #[.string s, .int .i64 (j : Int)] w fun e w' => LenOk (lenAt s j) e ∧ w' = w := by
  have b0 := bN_eq s j h1
  have HF : Hid (lenAt s j = (3, 0, 0)) := by unfold Hid lenAt; rw [if_neg (by omega), if_neg (by omega), if_neg h3, if_neg h4]
  have u0 := u8_lt s[j]
  have q0 : (j : Int) < (s.size : Int) := by omega
  rw [b0] at h2 h3 h4
  have hc : s[j].toNat = 128 ∨ 131 ≤ s[j].toNat := by omega
  rcases hc with hc | hc
  all_goals
    go_enter Tryz.func225, Tryz.ntmps225
    go_wp2
    go_ret3
    exact ⟨by rw [HF.out]; exact .inr ⟨by decide, rfl⟩, rfl⟩
set_option maxHeartbeats 1000000 in
theorem readLen_129 (s : ByteArray) (j : Nat) (w : World) (hs : s.size ≤ 20000) (h1 : j < s.size) (h2 : bN s j = 129) :
    Calls Tryz.prog 225 #[.string s, .int .i64 (j : Int)] w fun e w' => LenOk (lenAt s j) e ∧ w' = w := by
  have b0 := bN_eq s j h1
  have HG : lenAt s j = if s.size ≤ j + 1 then (4, 0, 0) else if bN s (j + 1) < 128 then (3, 0, 0) else (0, bN s (j + 1), j + 2) := by unfold lenAt; rw [if_neg (by omega), if_neg (by omega), if_pos h2]
  have q0 : (j : Int) < (s.size : Int) := by omega
  rw [b0] at h2
  have e1 : (s[j].toNat : Int) = 129 := by omega
  by_cases h3 : s.size ≤ j + 1
  · have HF : Hid (lenAt s j = (4, 0, 0)) := HG.trans (if_pos h3)
    clear HG
    go_enter Tryz.func225, Tryz.ntmps225
    go_wp2
    go_ret3
    exact ⟨by rw [HF.out]; exact .inr ⟨by decide, rfl⟩, rfl⟩
  rw [if_neg h3] at HG
  have b1 := bN_eq s (j + 1) (by omega)
  have u1 := u8_lt (s[j + 1]'(by omega))
  have o1 := or8 0 (s[j + 1]'(by omega)).toNat (by omega) (by omega) (by omega)
  simp only [Int.zero_mul, Int.zero_add] at o1
  rw [b1] at HG
  have q2 : (j : Int) + 1 < (s.size : Int) := by omega
  have q3 : (0 : Int) ≤ (j : Int) + 1 := by omega
  obtain ⟨m, hm⟩ : ∃ m : Nat, m = (s[j + 1]'(by omega)).toNat := ⟨_, rfl⟩
  have em : ((s[j + 1]'(by omega)).toNat : Int) = (m : Int) := by omega
  rw [← hm] at HG
  have hm2 : m < 256 := by omega
  have HL : Hid (∀ v : World, Calls Tryz.prog 206 #[.int .i64 (m : Int)] v fun e w' => e = .returned (.int .i64 (moreL m : Int)) ∧ w' = v) := fun v => lengthBytes _ v (by omega)
  have EM : Hid (((s[j + 1]'(by omega)).toNat : Int) = (m : Int)) := em
  have HG2 : Hid _ := HG
  clear hm em HG
  go_enter Tryz.func225, Tryz.ntmps225
  go_wp2_with fail
  refine wp_loop_rounds 2 ?_
  rw [rounds_succ]
  go_wp2
  rw [EM.out]
  rw [rounds_succ]
  go_wp2_with fail
  refine (HL.out _).mono ?_
  rintro e w' ⟨rfl, rfl⟩
  have HG := HG2.out
  clear HG2 o1 u1
  by_cases h4 : m < 128
  · have HF : Hid (lenAt s j = (3, 0, 0)) := HG.trans (if_pos h4)
    rw [show moreL m = 0 from if_pos h4]
    clear HG
    go_wp2
    go_ret3
    exact ⟨by rw [HF.out]; exact .inr ⟨by decide, rfl⟩, rfl⟩
  · have HF : Hid (lenAt s j = (0, m, j + 2)) := HG.trans (if_neg h4)
    rw [show moreL m = 1 from by rw [moreL, if_neg h4, if_pos hm2]]
    clear HG
    go_wp2
    go_ret3
    exact ⟨by rw [HF.out]; exact .inl ⟨rfl, by simp [Int.add_assoc]⟩, rfl⟩
set_option maxHeartbeats 1000000 in
theorem readLen_130 (s : ByteArray) (j : Nat) (w : World) (hs : s.size ≤ 20000) (h1 : j < s.size) (h2 : bN s j = 130) :
    Calls Tryz.prog 225 #[.string s, .int .i64 (j : Int)] w fun e w' => LenOk (lenAt s j) e ∧ w' = w := by
  have b0 := bN_eq s j h1
  have HG : lenAt s j = if s.size ≤ j + 2 then (4, 0, 0) else if 256 * bN s (j + 1) + bN s (j + 2) < 256 then (3, 0, 0) else if 4000 < 256 * bN s (j + 1) + bN s (j + 2) then (3, 0, 0) else (0, 256 * bN s (j + 1) + bN s (j + 2), j + 3) := by unfold lenAt; rw [if_neg (by omega), if_neg (by omega), if_neg (by omega), if_pos h2]
  have q0 : (j : Int) < (s.size : Int) := by omega
  rw [b0] at h2
  have e1 : (s[j].toNat : Int) = 130 := by omega
  by_cases h3 : s.size ≤ j + 2
  · have HF : Hid (lenAt s j = (4, 0, 0)) := HG.trans (if_pos h3)
    clear HG
    go_enter Tryz.func225, Tryz.ntmps225
    go_wp2
    go_ret3
    exact ⟨by rw [HF.out]; exact .inr ⟨by decide, rfl⟩, rfl⟩
  rw [if_neg h3] at HG
  have b1 := bN_eq s (j + 1) (by omega)
  have b2 : bN s (j + 2) = (s[j + 1 + 1]'(by omega)).toNat := bN_eq s (j + 1 + 1) (by omega)
  have u1 := u8_lt (s[j + 1]'(by omega))
  have u2 := u8_lt (s[j + 1 + 1]'(by omega))
  have o1 := or8 0 (s[j + 1]'(by omega)).toNat (by omega) (by omega) (by omega)
  simp only [Int.zero_mul, Int.zero_add] at o1
  have o2 := or8 (s[j + 1]'(by omega)).toNat (s[j + 1 + 1]'(by omega)).toNat (by omega) (by omega) (by omega)
  rw [b1, b2] at HG
  have q2 : (j : Int) + 1 < (s.size : Int) := by omega
  have q3 : (0 : Int) ≤ (j : Int) + 1 := by omega
  have q4 : (j : Int) + 1 + 1 < (s.size : Int) := by omega
  have q5 : (0 : Int) ≤ (j : Int) + 1 + 1 := by omega
  obtain ⟨m, hm⟩ : ∃ m : Nat, m = 256 * (s[j + 1]'(by omega)).toNat + (s[j + 1 + 1]'(by omega)).toNat := ⟨_, rfl⟩
  rw [← hm] at HG
  have hm2 : m < 65536 := by omega
  have HL : Hid (∀ v : World, Calls Tryz.prog 206 #[.int .i64 (m : Int)] v fun e w' => e = .returned (.int .i64 (moreL m : Int)) ∧ w' = v) := fun v => lengthBytes _ v (by omega)
  have EM : Hid (((s[j + 1]'(by omega)).toNat : Int) * 256 + ((s[j + 1 + 1]'(by omega)).toNat : Int) = (m : Int)) := by show _ = _; omega
  have HG2 : Hid _ := HG
  clear hm HG b0 b1 b2
  go_enter Tryz.func225, Tryz.ntmps225
  go_wp2_with fail
  refine wp_loop_rounds 3 ?_
  rw [rounds_succ]
  go_wp2
  rw [rounds_succ]
  go_wp2
  rw [EM.out]
  rw [rounds_succ]
  go_wp2_with fail
  refine (HL.out _).mono ?_
  rintro e w' ⟨rfl, rfl⟩
  have HG := HG2.out
  clear HG2 o1 u1 o2 u2
  by_cases h4 : m < 256
  · have HF : Hid (lenAt s j = (3, 0, 0)) := HG.trans (if_pos h4)
    have hmm : moreL m = 0 ∨ moreL m = 1 := by
      by_cases h9 : m < 128
      · exact .inl (if_pos h9)
      · exact .inr (by rw [moreL, if_neg h9, if_pos h4])
    clear HG
    rcases hmm with hmm | hmm
    all_goals
      rw [hmm]
      go_wp2
      go_ret3
      exact ⟨by rw [HF.out]; exact .inr ⟨by decide, rfl⟩, rfl⟩
  rw [if_neg h4] at HG
  rw [show moreL m = 2 from by rw [moreL, if_neg (by omega), if_neg h4]]
  by_cases h5 : 4000 < m
  · have HF : Hid (lenAt s j = (3, 0, 0)) := HG.trans (if_pos h5)
    clear HG
    go_wp2
    go_ret3
    exact ⟨by rw [HF.out]; exact .inr ⟨by decide, rfl⟩, rfl⟩
  · have HF : Hid (lenAt s j = (0, m, j + 3)) := HG.trans (if_neg h5)
    clear HG
    go_wp2
    go_ret3
    exact ⟨by rw [HF.out]; exact .inl ⟨rfl, by simp [Int.add_assoc]⟩, rfl⟩
theorem readLength (s : ByteArray) (j : Nat) (w : World) (hs : s.size ≤ 20000) :
    Calls Tryz.prog 225 #[.string s, .int .i64 (j : Int)] w fun e w' => LenOk (lenAt s j) e ∧ w' = w := by
  by_cases h1 : s.size ≤ j
  · exact readLen_end s j w h1
  by_cases h2 : bN s j < 128
  · exact readLen_low s j w hs (by omega) h2
  by_cases h3 : bN s j = 129
  · exact readLen_129 s j w hs (by omega) h3
  by_cases h4 : bN s j = 130
  · exact readLen_130 s j w hs (by omega) h4
  · exact readLen_many s j w (by omega) (by omega) h3 h4
end Go.Proofs.YtkhdjmjbdpmdnaaGreatDoor
namespace Go.Proofs.YtkhdjmjbdpmdnaaGreatDoor
open Go.RowKit Go.Lib

set_option maxHeartbeats 1000000 in
set_option maxRecDepth 100000 in
theorem copyText (a : ByteArray) (w : World) (ha : a.size ≤ 1100000) :
    Calls Tryz.prog 117 #[.string a] w fun e w' => e = .returned (.string a) ∧ Below w.heap.size w w' := by
  obtain ⟨i0, hi, hz0, hz1, hz2⟩ := info_parts infoByte
  go_enter Tryz.func117, Tryz.ntmps117
  go_wp2_with (at_make; refine wpList_make_full _ rfl _ _ 22 rfl w.heap.size 5 i0 (.int .u8 0) 1 Tryz.underlying22 hi hz0 hz1 .i64 .i64 _ _ a.size rfl rfl ?c1 ?c2 ?c3 ?c4 ?c5 ?_)
  case c1 => omega
  case c2 => omega
  case c3 => rw [hz2]; omega
  case c4 => unfold maxLen; omega
  case c5 => exact Nat.le_refl _
  intro w1 hown hgrow
  obtain ⟨hrow, hlen⟩ := rowOf hown rfl
  have hB1 : Below w.heap.size w w1 := (Below.refl _ w).grown hgrow (Nat.le_refl _) (fun k hk => by cases hk)
  generalize (madeCells #[Value.int IntKind.u8 0] a.size).toList = L at hrow hlen
  have la : (byteCells a.data.toList).length = a.size := by rw [byteCells_length, ← size_eq]
  have HF : Hid (∀ w3 : World, w3.heap[w.heap.size]? = some (.cells (splice L 0 (byteCells a.data.toList)).toArray 5 (0, 0)) →
      (convert 22 9 (.slice (some ⟨w.heap.size, 0, none⟩) a.size a.size)).run Tryz.prog w3 = .ok (.string a) w3) := by
    intro w3 h3
    rw [splice_one L (byteCells a.data.toList) (by omega)] at h3
    have h4 : w3.heap[w.heap.size]? = some (.cells (byteCells a.data.toList ++ []).toArray 5 (0, 0)) := by simpa using h3
    have := run_convert_row (P := Tryz.prog) (src := 22) (dst := 9) (cap := a.size) Tryz.underlying22 Tryz.underlying5 Tryz.underlying9 h4
    rw [← size_eq] at this
    exact this
  clear hown hgrow la
  go_wp2_with (refine wpList_copy_str rfl _ _ 22 9 rfl 5 Tryz.underlying22 byteSize _ _ _ a rfl rfl w.heap.size 0 L 5 hrow (fun _ => rfl) ?d2 ?d3 w.heap.size w hB1 (Nat.le_refl _) ?_)
  case d2 => exact Nat.le_refl _
  case d3 => omega
  intro w2 H2 hB2 hs2
  have hcv := HF.out w2 H2.out
  clear hrow hB1 hs2
  go_wp2
  go_ret
  exact ⟨rfl, hB2⟩

end Go.Proofs.YtkhdjmjbdpmdnaaGreatDoor
