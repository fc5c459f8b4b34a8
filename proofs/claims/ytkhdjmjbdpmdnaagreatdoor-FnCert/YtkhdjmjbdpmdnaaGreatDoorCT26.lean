/- What CertRead tells, as a value. What is asked for comes back when it is read, both ways. Plain mathematics: no program is named here. Papers come back when they are read: their parts as they lie. Plain mathematics: no program is named here. What the program reads of a paper, as it was laid. Plain mathematics, but for where readP is told. spec.l05Int, walked. The readers' method num, walked. The readers' method name, walked. -/
import Derived.Test.YtkhdjmjbdpmdnaaGreatDoorCT25
import Derived.Test.YtkhdjmjbdpmdnaaGreatDoorCT23
import Derived.Test.YtkhdjmjbdpmdnaaGreatDoorCT03
import Derived.Test.YtkhdjmjbdpmdnaaGreatDoorCT18
import Derived.Test.YtkhdjmjbdpmdnaaGreatDoorCT16
import Derived.Test.YtkhdjmjbdpmdnaaGreatDoorCT07
import Derived.Test.YtkhdjmjbdpmdnaaGreatDoorCT15
import Derived.Test.YtkhdjmjbdpmdnaaGreatDoorCT05
namespace Go.Proofs.YtkhdjmjbdpmdnaaGreatDoor
open Go.RowKit

def certV (c : Paper) (v : Value) (n : Int) : Value := .agg #[.int .i64 c.serial, .string c.issuer, .string c.subject, .int .i64 c.fr, .int .i64 c.till, .int .i64 c.key, v, .bool c.ca, .int .i64 c.sk, .int .i64 c.se, .int .i64 c.ss, .int .i64 n]
theorem sizeCertOut : (Tryz.prog.info? 37).map (·.size) = some 12 := by kernel_rfl
/-- What the program tells of a text. -/
noncomputable def certR (s : ByteArray) : Paper × Int :=
  if 20000 < s.size then (zeroPaper, 2) else if certB (readP s) = true ∧ certBytesD (readP s) = s then (readP s, 0) else (zeroPaper, 3)
theorem partsR_names (l : List (Int × ByteArray)) : ∀ (m : List ByteArray × Bool), (m.1 = [] ∨ ∃ x, m.1 = bodiesR x) → ((partsR m l).1 = [] ∨ ∃ x, (partsR m l).1 = bodiesR x) := by
  induction l with
  | nil => exact fun m h => h
  | cons p r ih =>
    intro m h
    refine ih (partR m p.2) ?_
    unfold partR
    simp only
    split
    · exact .inr ⟨_, rfl⟩
    · exact h
theorem moreR_names (l : List (Int × ByteArray)) : ∀ (m : List ByteArray × Bool), (m.1 = [] ∨ ∃ x, m.1 = bodiesR x) → ((moreR m l).1 = [] ∨ ∃ x, (moreR m l).1 = bodiesR x) := by
  induction l with
  | nil => exact fun m h => h
  | cons p r ih =>
    intro m h
    exact ih _ (partsR_names _ m h)
theorem paperR_small {L : List (Int × ByteArray)} (h : L.length < 7) (k : List Int) : paperR L k = zeroPaper := if_pos h
theorem paperR_big {L : List (Int × ByteArray)} (h : ¬ L.length < 7) (k : List Int) : (paperR L k).names = (moreR ([], false) (L.drop 7)).1 ∧ (paperR L k).issuer = (fixL L).issuer ∧ (paperR L k).subject = (fixL L).subject := by
  unfold paperR
  rw [if_neg h]
  exact ⟨rfl, rfl, rfl⟩
theorem paperR_names (L : List (Int × ByteArray)) (k : List Int) : (paperR L k).names = [] ∨ ∃ x, (paperR L k).names = bodiesR x := by
  by_cases h : L.length < 7
  · rw [paperR_small h]
    exact .inl rfl
  · rw [(paperR_big h k).1]
    exact moreR_names _ _ (.inl rfl)
theorem names_or {n : List ByteArray} (h : n = [] ∨ ∃ x, n = bodiesR x) : n.length ≤ 1048576 ∧ totS n n.length ≤ 1048576 := by
  rcases h with h | ⟨x, h⟩
  · rw [h]
    exact ⟨Nat.zero_le _, Nat.zero_le _⟩
  · rw [h]
    exact bodiesR_fit x
theorem readP_names (s : ByteArray) : (readP s).names.length ≤ 1048576 ∧ totS (readP s).names (readP s).names.length ≤ 1048576 := by
  unfold readP
  exact names_or (paperR_names _ _)
theorem bodyJ_le {L : List (Int × ByteArray)} {m : Nat} (h : ∀ p ∈ L, p.2.size ≤ m) (i : Nat) : (bodyJ L i).size ≤ m := by
  unfold bodyJ
  cases e : L[i]? with
  | none => exact Nat.zero_le _
  | some p => exact h p (List.mem_of_getElem? e)
theorem paperR_texts {L : List (Int × ByteArray)} (k : List Int) (h4 : ∀ p ∈ L, p.2.size ≤ 4000) : (paperR L k).issuer.size ≤ maxLen ∧ (paperR L k).subject.size ≤ maxLen := by
  by_cases h : L.length < 7
  · rw [paperR_small h]
    exact ⟨Nat.zero_le _, Nat.zero_le _⟩
  · rw [(paperR_big h k).2.1, (paperR_big h k).2.2]
    have h3 := Nat.le_trans (atP_le [0, 0, 1] _) (bodyJ_le h4 3)
    have h5 := Nat.le_trans (atP_le [0, 0, 1] _) (bodyJ_le h4 5)
    have hm : 4000 ≤ maxLen := by unfold maxLen; omega
    exact ⟨Nat.le_trans h3 hm, Nat.le_trans h5 hm⟩
theorem readP_texts (s : ByteArray) : (readP s).issuer.size ≤ maxLen ∧ (readP s).subject.size ≤ maxLen := by
  unfold readP
  exact paperR_texts _ (allD_4000 _)
end Go.Proofs.YtkhdjmjbdpmdnaaGreatDoor
namespace Go.Proofs.YtkhdjmjbdpmdnaaGreatDoor
open Go.RowKit

theorem askT_row (e s : Int) : askT e s = ⟨#[0]⟩ ++ rowN [e, s] := by
  unfold askT
  simp only [rowN, app_nil, ByteArray.append_assoc]
def askL (c : Ask) : List (Nat × ByteArray) := [(2, strOfNums (intL 0)), (3, ⟨#[0]⟩ ++ rowN [c.key]), (48, hostsD c.names c.names.length)]
def askL2 (c : Ask) : List (Nat × ByteArray) := [(48, catT (askL c)), (3, askT c.se c.ss)]
theorem askD_cat (c : Ask) : askD c = catT [(48, catT (askL c))] := by
  rw [catT_one, askL, catT_cons, catT_cons, catT_one, ← key_row]
  rfl
theorem askY_cat (c : Ask) : askY c = catT [(48, catT (askL2 c))] := by
  rw [catT_one, askL2, catT_cons, catT_one]
  unfold askY
  rw [askD_cat, catT_one]
  rfl
theorem askL_ok {c : Ask} (h : askB c = true) : ThingsOk (askL c) ∧ (catT (askL c)).size ≤ 255 := by
  obtain ⟨_, h2, _, h4⟩ := ask_fits h
  have hD := askD_le h
  have hs : (catT (askL c)).size ≤ 255 := by
    rw [askD_cat, catT_one, thingD_size] at hD
    omega
  have hh := hostsD_le (ss := c.names) c.names.length h4
  have hk := askK_le c.key
  refine ⟨⟨fun q hq => ?_, by simp [askL], by omega⟩, hs⟩
  unfold askL at hq
  simp only [List.mem_cons, List.not_mem_nil, or_false] at hq
  rcases hq with rfl | rfl | rfl
  · exact ⟨tag2, by rw [strOfNums_size]; have := (intL_len 0).2; omega⟩
  · refine ⟨tag3, ?_⟩
    have h3 := putS_size c.key
    rw [← key_row, ByteArray.size_append, one_size]
    omega
  · refine ⟨tag48, ?_⟩
    show (hostsD c.names c.names.length).size ≤ 4000
    omega
theorem askL2_ok {c : Ask} (h : askB c = true) : ThingsOk (askL2 c) ∧ (catT (askL2 c)).size ≤ 400 := by
  have h1 := (askL_ok h).2
  have h2 := askT_le c.se c.ss
  have h3 := thingD_le 48 (catT (askL c))
  have h4 := thingD_le 3 (askT c.se c.ss)
  have hs : (catT (askL2 c)).size ≤ 400 := by
    rw [askL2, catT_cons, catT_one, ByteArray.size_append]
    show (thingD 48 _).size + (thingD 3 _).size ≤ _
    omega
  refine ⟨⟨fun q hq => ?_, by simp [askL2], by omega⟩, hs⟩
  unfold askL2 at hq
  simp only [List.mem_cons, List.not_mem_nil, or_false] at hq
  rcases hq with rfl | rfl
  · exact ⟨tag48, by show (catT (askL c)).size ≤ _; omega⟩
  · exact ⟨tag3, by show (askT c.se c.ss).size ≤ _; omega⟩
theorem seq_ok {b : ByteArray} (h : b.size ≤ 4000) : ThingsOk [(48, b)] := by
  have h1 := thingD_le 48 b
  refine ⟨fun q hq => ?_, by simp, ?_⟩
  · obtain rfl := List.mem_singleton.1 hq
    exact ⟨tag48, h⟩
  · rw [catT_one]
    show (thingD 48 b).size ≤ _
    omega
theorem hosts_ok {ss : List ByteArray} (h : ss.length ≤ 5) (h' : ∀ i, i < ss.length → (tAt ss i).size ≤ 40) : hostsD ss ss.length = catT (ss.map fun n => (130, n)) ∧ ThingsOk (ss.map fun n => (130, n)) := by
  have e : hostsD ss ss.length = catT (ss.map fun n => (130, n)) := by
    rw [hostsD_cat ss _ (Nat.le_refl _), List.take_length]
  have hh := hostsD_le (ss := ss) ss.length h'
  refine ⟨e, fun q hq => ?_, by rw [List.length_map]; omega, by rw [← e]; omega⟩
  obtain ⟨n, hn, rfl⟩ := List.mem_map.1 hq
  refine ⟨tag130, ?_⟩
  obtain ⟨i, hi, rfl⟩ := List.getElem_of_mem hn
  have := h' i hi
  unfold tAt at this
  rw [List.getD_eq_getElem?_getD, List.getElem?_eq_getElem hi] at this
  show ss[i].size ≤ 4000
  simp only [Option.getD_some] at this
  omega
theorem form_key {c : Ask} (h : formB c = true) : c.sk = c.key := by
  unfold formB at h
  simp only [Bool.and_eq_true, decide_eq_true_eq] at h
  exact h.2
/-- The parts of what is asked for, as they lie. -/
theorem ask_back {c : Ask} (h : formB c = true) : atP (askY c) [0] = catT (askL2 c) ∧ atP (catT (askL2 c)) [0] = catT (askL c) ∧ atP (catT (askL2 c)) [1] = askT c.se c.ss ∧ atP (catT (askL c)) [1] = ⟨#[0]⟩ ++ rowN [c.key] ∧ atP (catT (askL c)) [2] = hostsD c.names c.names.length ∧
    numsGo (⟨#[0]⟩ ++ rowN [c.key]) 1 1 = [c.key] ∧ numsGo (askT c.se c.ss) 2 1 = [c.se, c.ss] ∧ bitsQ (⟨#[0]⟩ ++ rowN [c.key]) 1 1 = [c.key] ∧ bitsQ (askT c.se c.ss) 2 1 = [c.se, c.ss] ∧ bodiesR (hostsD c.names c.names.length) = c.names := by
  have hb := formB_ask h
  obtain ⟨h1, h2, h3, h4⟩ := ask_fits hb
  obtain ⟨_, s1, s2⟩ := sigRB_lt (formB_sig h)
  have o2 := (askL2_ok hb).1
  have o1 := (askL_ok hb).1
  have o0 := seq_ok (b := catT (askL2 c)) (by have := (askL2_ok hb).2; omega)
  have hk := putS_size c.key
  have ht := askT_le c.se c.ss
  obtain ⟨n1, n2⟩ := rowN_zero (zs := [c.key]) (fun n hn => by simp at hn; subst hn; omega) (by rw [← key_row, ByteArray.size_append, one_size]; omega)
  obtain ⟨n3, n4⟩ := rowN_zero (zs := [c.se, c.ss]) (fun n hn => by simp at hn; rcases hn with rfl | rfl <;> omega) (by rw [← askT_row]; omega)
  obtain ⟨e, oh⟩ := hosts_ok h2 h4
  refine ⟨by rw [askY_cat, atP_cat o0 rfl, atP_nil], by rw [atP_cat o2 rfl, atP_nil], by rw [atP_cat o2 rfl, atP_nil], by rw [atP_cat o1 rfl, atP_nil], by rw [atP_cat o1 rfl, atP_nil], n1, by rw [askT_row]; exact n3, n2, by rw [askT_row]; exact n4, ?_⟩
  rw [e, bodiesR_cat oh, List.map_map]
  exact List.map_id' _
end Go.Proofs.YtkhdjmjbdpmdnaaGreatDoor
namespace Go.Proofs.YtkhdjmjbdpmdnaaGreatDoor
open Go.RowKit

def oidB (l : List Int) : ByteArray := strOfNums (oidL l)
def kindL : List (Nat × ByteArray) := [(6, oidB [1, 3, 101, 112])]
def timesL (a b : Int) : List (Nat × ByteArray) := [(2, strOfNums (intL a)), (2, strOfNums (intL b))]
def keyLs (k : Int) : List (Nat × ByteArray) := [(48, catT kindL), (3, ⟨#[0]⟩ ++ rowN [k])]
def hostsL (ss : List ByteArray) : List (Nat × ByteArray) := [(48, hostsD ss ss.length)]
def namePL (ss : List ByteArray) : List (Nat × ByteArray) := [(6, oidB [2, 5, 29, 17]), (4, catT (hostsL ss))]
def caPL : List (Nat × ByteArray) := [(6, oidB [2, 5, 29, 19]), (1, ⟨#[255]⟩), (4, catT [(48, soD)])]
def partsL (ss : List ByteArray) (ca : Bool) : List (Nat × ByteArray) := (if ss.length = 0 then [] else [(48, catT (namePL ss))]) ++ (if ca = true then [(48, catT caPL)] else [])
def morePL (ss : List ByteArray) (ca : Bool) : List (Nat × ByteArray) := if (partsL ss ca).length = 0 then [] else [(163, catT [(48, catT (partsL ss ca))])]
def bodyL (c : Paper) : List (Nat × ByteArray) :=
  [(160, intD 2), (2, strOfNums (intL c.serial)), (48, catT kindL), (48, catT (nameL c.issuer)), (48, catT (timesL c.fr c.till)), (48, catT (nameL c.subject)), (48, catT (keyLs c.key))] ++ morePL c.names c.ca
def bodyL2 (c : Paper) : List (Nat × ByteArray) := [(48, catT (bodyL c)), (48, catT kindL), (3, sigT c.sk c.se c.ss)]
theorem kindD_cat : kindD = thingD 48 (catT kindL) := by rw [kindL, catT_one]; rfl
theorem namesD_cat (ss : List ByteArray) : namesD ss = catT (if ss.length = 0 then [] else [(48, catT (namePL ss))]) := by
  unfold namesD
  by_cases h : ss.length = 0
  · rw [if_pos h, if_pos h]; rfl
  · rw [if_neg h, if_neg h, catT_one, namePL, catT_cons, catT_one, hostsL, catT_one]
    rfl
theorem caD_cat (ca : Bool) : caD ca = catT (if ca = true then [(48, catT caPL)] else []) := by
  cases ca with
  | false => rfl
  | true =>
    rw [if_pos rfl, catT_one, caPL, catT_cons, catT_cons, catT_one, catT_one]
    rfl
theorem parts_cat (ss : List ByteArray) (ca : Bool) : namesD ss ++ caD ca = catT (partsL ss ca) := by
  rw [namesD_cat, caD_cat, partsL, catT_app]
theorem partsL_size (ss : List ByteArray) (ca : Bool) : (catT (partsL ss ca)).size = 0 ↔ (partsL ss ca).length = 0 := by
  constructor
  · intro h
    have := catT_len (partsL ss ca)
    omega
  · intro h
    rw [List.eq_nil_of_length_eq_zero h]
    rfl
theorem moreD_cat (ss : List ByteArray) (ca : Bool) : moreD ss ca = catT (morePL ss ca) := by
  unfold moreD moreT morePL
  rw [parts_cat]
  by_cases h : (partsL ss ca).length = 0
  · rw [if_pos ((partsL_size ss ca).2 h), if_pos h]; rfl
  · rw [if_neg (fun h' => h ((partsL_size ss ca).1 h')), if_neg h, catT_one, catT_one]
    rfl
theorem bodyX_cat (c : Paper) : thingD 160 (intD 2) ++ (intD c.serial ++ (kindD ++ (nameD c.issuer ++ (seqD (intD c.fr ++ intD c.till) ++ (nameD c.subject ++ (keyD c.key ++ moreD c.names c.ca)))))) = catT (bodyL c) := by
  rw [bodyL, catT_app, ← moreD_cat, catT_cons, catT_cons, catT_cons, catT_cons, catT_cons, catT_cons, catT_one]
  unfold keyD
  rw [nameD_cat, nameD_cat, kindD_cat, timesL, catT_cons, catT_one, keyLs, catT_cons, catT_one, key_row]
  simp only [ByteArray.append_assoc]
  rfl
theorem bodyD_cat (c : Paper) : bodyD c = thingD 48 (catT (bodyL c)) := by
  rw [← bodyX_cat]
  rfl
theorem bytesD_cat (c : Paper) : bytesD c = catT [(48, catT (bodyL2 c))] := by
  rw [catT_one, bodyL2, catT_cons, catT_cons, catT_one]
  unfold bytesD
  rw [bodyD_cat, kindD_cat]
  rfl
theorem mem_le : ∀ {l : List (Nat × ByteArray)} {q : Nat × ByteArray}, q ∈ l → q.2.size ≤ (catT l).size
  | p :: r, q, h => by
    rw [catT, ByteArray.size_append]
    rcases List.mem_cons.1 h with rfl | h
    · have := thingD_size (q.1 : Int) q.2
      omega
    · have := mem_le h
      omega
theorem things_ok {l : List (Nat × ByteArray)} (ht : ∀ q ∈ l, tagB (q.1 : Int) = true) (hl : l.length ≤ 60) (hs : (catT l).size ≤ 4000) : ThingsOk l :=
  ⟨fun q hq => ⟨ht q hq, Nat.le_trans (mem_le hq) hs⟩, hl, by omega⟩
theorem body_size {c : Paper} (h : PFits c) : (catT (bodyL c)).size ≤ 800 := by
  have a1 := thingD_le 160 (intD 2)
  have a2 := intD_le 2
  have a3 := intD_le c.serial
  have a4 := kindD_le
  have a5 := nameD_le c.issuer
  have a6 := nameD_le c.subject
  have a7 := seqD_le (intD c.fr ++ intD c.till)
  have a8 := intD_le c.fr
  have a9 := intD_le c.till
  have b1 := keyD_le c.key
  have b2 := moreD_le h.len h.each c.ca
  have b3 := h.iss
  have b4 := h.sub
  rw [← bodyX_cat]
  simp only [ByteArray.size_append] at a7 ⊢
  omega
theorem tags_more (ss : List ByteArray) (ca : Bool) : ∀ q ∈ morePL ss ca, tagB (q.1 : Int) = true := by
  unfold morePL
  split
  · simp
  · intro q hq
    obtain rfl := List.mem_singleton.1 hq
    exact tag163
theorem body_ok {c : Paper} (h : PFits c) : ThingsOk (bodyL c) := by
  have hs := body_size h
  refine things_ok (fun q hq => ?_) ?_ (by omega)
  · unfold bodyL at hq
    rcases List.mem_append.1 hq with hq | hq
    · simp only [List.mem_cons, List.not_mem_nil, or_false] at hq
      rcases hq with rfl | rfl | rfl | rfl | rfl | rfl | rfl
      · exact tag160
      · exact tag2
      · exact tag48
      · exact tag48
      · exact tag48
      · exact tag48
      · exact tag48
    · exact tags_more _ _ q hq
  · unfold bodyL morePL
    split <;> simp
theorem body2_ok {c : Paper} (h : PFits c) : ThingsOk (bodyL2 c) ∧ (catT (bodyL2 c)).size ≤ 1000 := by
  have h1 := body_size h
  have h2 := thingD_le 48 (catT (bodyL c))
  have h3 := kindD_le
  have h4 := thingD_le 3 (sigT c.sk c.se c.ss)
  have h5 := sigT_le c.sk c.se c.ss
  have hs : (catT (bodyL2 c)).size ≤ 1000 := by
    rw [kindD_cat] at h3
    rw [bodyL2, catT_cons, catT_cons, catT_one, ByteArray.size_append, ByteArray.size_append]
    show (thingD 48 _).size + ((thingD 48 _).size + (thingD 3 _).size) ≤ _
    omega
  refine ⟨things_ok (fun q hq => ?_) (by simp [bodyL2]) (by omega), hs⟩
  unfold bodyL2 at hq
  simp only [List.mem_cons, List.not_mem_nil, or_false] at hq
  rcases hq with rfl | rfl | rfl
  · exact tag48
  · exact tag48
  · exact tag3
theorem times_ok (a b : Int) : ThingsOk (timesL a b) := by
  have h1 := intD_le a
  have h2 := intD_le b
  have hs : (catT (timesL a b)).size ≤ 24 := by
    rw [timesL, catT_cons, catT_one, ByteArray.size_append]
    show (intD a).size + (intD b).size ≤ _
    omega
  refine things_ok (fun q hq => ?_) (by simp [timesL]) (by omega)
  unfold timesL at hq
  simp only [List.mem_cons, List.not_mem_nil, or_false] at hq
  rcases hq with rfl | rfl <;> exact tag2
theorem key_ok (k : Int) : ThingsOk (keyLs k) := by
  have h1 := kindD_le
  rw [kindD_cat] at h1
  have h2 := askK_le k
  rw [key_row] at h2
  have hs : (catT (keyLs k)).size ≤ 80 := by
    rw [keyLs, catT_cons, catT_one, ByteArray.size_append]
    show (thingD 48 _).size + (thingD 3 _).size ≤ _
    omega
  refine things_ok (fun q hq => ?_) (by simp [keyLs]) (by omega)
  unfold keyLs at hq
  simp only [List.mem_cons, List.not_mem_nil, or_false] at hq
  rcases hq with rfl | rfl
  · exact tag48
  · exact tag3
theorem parts_size {ss : List ByteArray} (h : ss.length ≤ 5) (h' : ∀ i, i < ss.length → (tAt ss i).size ≤ 40) (ca : Bool) : (catT (partsL ss ca)).size ≤ 370 := by
  have h1 := namesD_le h h'
  have h2 := caD_le ca
  rw [← parts_cat, ByteArray.size_append]
  omega
theorem tags_parts (ss : List ByteArray) (ca : Bool) : ∀ q ∈ partsL ss ca, tagB (q.1 : Int) = true := by
  intro q hq
  unfold partsL at hq
  rcases List.mem_append.1 hq with hq | hq
  · split at hq
    · simp at hq
    · obtain rfl := List.mem_singleton.1 hq
      exact tag48
  · split at hq
    · obtain rfl := List.mem_singleton.1 hq
      exact tag48
    · simp at hq
theorem parts_ok {ss : List ByteArray} (h : ss.length ≤ 5) (h' : ∀ i, i < ss.length → (tAt ss i).size ≤ 40) (ca : Bool) : ThingsOk (partsL ss ca) ∧ ThingsOk [(48, catT (partsL ss ca))] := by
  have h1 := parts_size h h' ca
  refine ⟨things_ok (tags_parts ss ca) ?_ (by omega), seq_ok (by omega)⟩
  unfold partsL
  rw [List.length_append]
  split <;> split <;> simp
theorem names_ok {ss : List ByteArray} (h : ss.length ≤ 5) (h' : ∀ i, i < ss.length → (tAt ss i).size ≤ 40) : ThingsOk (namePL ss) ∧ ThingsOk (hostsL ss) := by
  have h1 := hostsD_le (ss := ss) ss.length h'
  have hh : (catT (hostsL ss)).size ≤ 260 := by
    have := thingD_le 48 (hostsD ss ss.length)
    rw [hostsL, catT_one]
    show (thingD 48 _).size ≤ _
    omega
  have ho : (thingD 6 (oidB [2, 5, 29, 17])).size ≤ 49 := arcs_lit arcs17
  have hs : (catT (namePL ss)).size ≤ 400 := by
    have := thingD_le 4 (catT (hostsL ss))
    rw [namePL, catT_cons, catT_one, ByteArray.size_append]
    show (thingD 6 _).size + (thingD 4 _).size ≤ _
    omega
  refine ⟨things_ok (fun q hq => ?_) (by simp [namePL]) (by omega), things_ok (fun q hq => ?_) (by simp [hostsL]) (by omega)⟩
  · unfold namePL at hq
    simp only [List.mem_cons, List.not_mem_nil, or_false] at hq
    rcases hq with rfl | rfl
    · exact tag6
    · exact tag4
  · obtain rfl := List.mem_singleton.1 hq
    exact tag48
theorem ca_ok : ThingsOk caPL := by
  have h1 := caT_le
  have e : caT = thingD 48 (catT caPL) := by rw [caPL, catT_cons, catT_cons, catT_one, catT_one]; rfl
  rw [e, thingD_size] at h1
  refine things_ok (fun q hq => ?_) (by simp [caPL]) (by omega)
  unfold caPL at hq
  simp only [List.mem_cons, List.not_mem_nil, or_false] at hq
  rcases hq with rfl | rfl | rfl
  · exact tag6
  · exact tag1
  · exact tag4
end Go.Proofs.YtkhdjmjbdpmdnaaGreatDoor
namespace Go.Proofs.YtkhdjmjbdpmdnaaGreatDoor
open Go.RowKit

theorem arcs_back {l : List Int} (h : arcsB l = true) : (oidR (oidB l)).1 = l := by
  unfold oidB
  rw [oid_back h]
theorem part_names (m : List ByteArray × Bool) {ss : List ByteArray} (h : ss.length ≤ 5) (h' : ∀ i, i < ss.length → (tAt ss i).size ≤ 40) : partR m (catT (namePL ss)) = (ss, m.2) := by
  obtain ⟨o1, o2⟩ := names_ok h h'
  obtain ⟨e, oh⟩ := hosts_ok h h'
  have a0 : atP (catT (namePL ss)) [0] = oidB [2, 5, 29, 17] := by rw [atP_cat o1 rfl, atP_nil]
  have a1 : atP (catT (namePL ss)) [1, 0] = hostsD ss ss.length := by rw [atP_cat o1 rfl, atP_cat o2 rfl, atP_nil]
  have hb : bodiesR (hostsD ss ss.length) = ss := by
    rw [e, bodiesR_cat oh, List.map_map]
    exact List.map_id' _
  unfold partR
  rw [a0, a1, arcs_back arcs17, hb, if_pos rfl, if_neg (by decide)]
theorem part_ca (m : List ByteArray × Bool) : partR m (catT caPL) = (m.1, true) := by
  have a0 : atP (catT caPL) [0] = oidB [2, 5, 29, 19] := by rw [atP_cat ca_ok rfl, atP_nil]
  unfold partR
  rw [a0, arcs_back arcs19, if_neg (by decide), if_pos rfl]
theorem parts_back {ss : List ByteArray} (h : ss.length ≤ 5) (h' : ∀ i, i < ss.length → (tAt ss i).size ≤ 40) (ca : Bool) : partsR ([], false) (asI (partsL ss ca)) = (ss, ca) := by
  unfold partsL
  by_cases hs : ss.length = 0
  · rw [if_pos hs]
    have he : ss = [] := List.eq_nil_of_length_eq_zero hs
    cases ca with
    | false => rw [he]; rfl
    | true =>
      show partR ([], false) (catT caPL) = _
      rw [part_ca, he]
  · rw [if_neg hs]
    cases ca with
    | false =>
      show partR ([], false) (catT (namePL ss)) = _
      rw [part_names _ h h']
    | true =>
      show partR (partR ([], false) (catT (namePL ss))) (catT caPL) = _
      rw [part_names _ h h', part_ca]
theorem moreR_one (m : List ByteArray × Bool) (t : Int) (b : ByteArray) : moreR m [(t, b)] = partsR m (allD (atP b [0])).1 := rfl
theorem asI_one (t : Nat) (b : ByteArray) : asI [(t, b)] = [((t : Int), b)] := rfl
theorem more_back {ss : List ByteArray} (h : ss.length ≤ 5) (h' : ∀ i, i < ss.length → (tAt ss i).size ≤ 40) (ca : Bool) : moreR ([], false) (asI (morePL ss ca)) = (ss, ca) := by
  obtain ⟨o1, o2⟩ := parts_ok h h' ca
  have hb := parts_back h h' ca
  unfold morePL
  by_cases hp : (partsL ss ca).length = 0
  · rw [if_pos hp]
    rw [List.eq_nil_of_length_eq_zero hp] at hb
    exact hb
  · rw [if_neg hp]
    rw [asI_one, moreR_one, atP_cat o2 rfl, atP_nil, allD_cat o1.1 o1.2.1 o1.2.2]
    exact hb
theorem readP_back {c : Paper} (h : certB c = true) : readP (bytesD c) = c := by
  have hf := paper_fits (certB_paper h)
  have hsig : sigRB c.sk c.se c.ss = true := by
    unfold certB at h
    rw [Bool.and_eq_true] at h
    exact h.2
  obtain ⟨s0, s1, s2⟩ := sigRB_lt hsig
  obtain ⟨o2, hz2⟩ := body2_ok hf
  have o1 := body_ok hf
  have o3 : ThingsOk [(48, catT (bodyL2 c))] := seq_ok (by omega)
  have a1 : atP (bytesD c) [0] = catT (bodyL2 c) := by rw [bytesD_cat, atP_cat o3 rfl, atP_nil]
  have a2 : atP (catT (bodyL2 c)) [0] = catT (bodyL c) := by rw [atP_cat o2 rfl, atP_nil]
  have a3 : atP (catT (bodyL2 c)) [2] = sigT c.sk c.se c.ss := by rw [atP_cat o2 rfl, atP_nil]
  have ht := sigT_le c.sk c.se c.ss
  have hn := (rowN_zero (zs := [c.sk, c.se, c.ss]) (fun n hn => by simp at hn; rcases hn with rfl | rfl | rfl <;> omega) (by rw [← sigT_row]; omega)).1
  have hn3 : numsGo (sigT c.sk c.se c.ss) 3 1 = [c.sk, c.se, c.ss] := by rw [sigT_row]; exact hn
  have hk := putS_size c.key
  have k0 := hf.key0
  have k1 := hf.key1
  have hkn := (rowN_zero (zs := [c.key]) (fun n hn => by simp at hn; subst hn; omega) (by rw [← key_row, ByteArray.size_append, one_size]; omega)).1
  have b4 : atP (catT (timesL c.fr c.till)) [0] = strOfNums (intL c.fr) := by rw [atP_cat (times_ok _ _) rfl, atP_nil]
  have b4' : atP (catT (timesL c.fr c.till)) [1] = strOfNums (intL c.till) := by rw [atP_cat (times_ok _ _) rfl, atP_nil]
  have b6 : atP (catT (keyLs c.key)) [1] = ⟨#[0]⟩ ++ rowN [c.key] := by rw [atP_cat (key_ok _) rfl, atP_nil]
  have e0 := hf.ser0
  have e1 := hf.ser1
  have e2 := hf.fr0
  have e3 := hf.fr1
  have e4 := hf.till0
  have e5 := hf.till1
  have hfix : fixL (asI (bodyL c)) = ⟨c.serial, c.issuer, c.subject, c.fr, c.till, c.key, [], false, 0, 0, 0⟩ := by
    show fixR (strOfNums (intL c.serial)) (catT (nameL c.issuer)) (catT (timesL c.fr c.till)) (catT (nameL c.subject)) (catT (keyLs c.key)) = _
    unfold fixR
    rw [b4, b4', b6, name_back hf.iss, name_back hf.sub, int_back (by omega) (by omega), int_back (by omega) (by omega), int_back (by omega) (by omega)]
    have : numsGo (⟨#[0]⟩ ++ rowN [c.key]) 1 1 = [c.key] := hkn
    rw [this]
    rfl
  have hlen : ¬ (asI (bodyL c)).length < 7 := by
    have : (asI (bodyL c)).length = 7 + (asI (morePL c.names c.ca)).length := by
      unfold bodyL asI
      rw [List.map_append, List.length_append]
      rfl
    omega
  have hdrop : (asI (bodyL c)).drop 7 = asI (morePL c.names c.ca) := rfl
  unfold readP
  rw [a1, a2, a3, hn3, allD_cat o1.1 o1.2.1 o1.2.2]
  unfold paperR
  rw [if_neg hlen, hfix, hdrop, more_back hf.len hf.each]
  rfl
end Go.Proofs.YtkhdjmjbdpmdnaaGreatDoor
namespace Go.Proofs.YtkhdjmjbdpmdnaaGreatDoor
open Go.RowKit Go.Lib

set_option maxHeartbeats 1000000 in
set_option maxRecDepth 100000 in
theorem specIntOf (s : ByteArray) (w : World) (h0 : 0 < s.size) (h8 : s.size ≤ 8) :
    Calls Tryz.prog 161 #[.string s] w fun e w' => e = .returned (.tuple #[.int .i64 (sv s s.size), .bool (decide (strOfNums (intL (sv s s.size)) = s))]) ∧ Below w.heap.size w w' := by
  have hb0 := bN_eq s 0 h0
  have hu := u8_lt s[0]
  have HZ : Hid (sv s 0 = if 128 ≤ bN s 0 then -1 else 0) := rfl
  have h0i : (0 : Int) < (s.size : Int) := by omega
  have HB : Hid (∀ v : World, Calls Tryz.prog 176 #[.int .i64 (sv s s.size)] v fun e w' => e = .returned (.string (strOfNums (intL (sv s s.size)))) ∧ Below v.heap.size v w') := fun v => specBytes _ v (sv_bd s h8).1 (by have := (sv_bd s h8).2; omega)
  go_enter Tryz.func161, Tryz.ntmps161
  go_wp2_with fail
  all_goals
    go_loopw [4, 5] (fun n i wr => ∃ k : Nat, k ≤ s.size ∧ n = .int .i64 (sv s k) ∧ i = .int .i64 (k : Int) ∧ wr = w)
      (fun _ i _ => s.size - (RowKit.intOf i).toNat)
    case atStart =>
      refine ⟨0, Nat.zero_le _, ?_, rfl, rfl⟩
      rw [HZ.out, hb0]
      first | rw [if_pos (by omega)] | rw [if_neg (by omega)]
    case round =>
      obtain ⟨k, hk, rfl, rfl, rfl⟩ := hrel
      by_cases hlt : k < s.size
      · have hv := sv_low s (show k < 8 by omega)
        have hbk := bN_eq s k hlt
        have hub := u8_lt s[k]
        have ho := or8 (sv s k) (bN s k) (bN_lt s k) hv.1 hv.2
        have HS : Hid (sv s (k + 1) = sv s k * 256 + (bN s k : Int)) := rfl
        rw [hbk] at ho HS
        generalize sv s k = v at *
        have hv0 := hv.1
        have hv1 := hv.2
        clear hv
        have q2 : (k : Int) < (s.size : Int) := by omega
        go_wp2
        go_roundw
        case rel => exact ⟨k + 1, by omega, by rw [HS.out], by go_num, trivial⟩
        case measure => simp [RowKit.intOf]; omega
      · obtain rfl : k = s.size := by omega
        have hv := sv_bd s h8
        have HX : Hid (∀ x, x = strOfNums (intL (sv s s.size)) → (x.toList == s.toList) = decide (strOfNums (intL (sv s s.size)) = s)) := fun x hx => by rw [hx, same_text]
        have HX2 := HX.out _ rfl
        have HV : Hid (sv s s.size = sv s s.size) := rfl
        generalize hvv : sv s s.size = v at hv HB
        generalize hxx : strOfNums (intL v) = x at HB
        have hv0 := hv.1
        have hv1 := hv.2
        have HVV : Hid (sv s s.size = v) := hvv
        have HXX : Hid (strOfNums (intL v) = x) := hxx
        clear hv hvv hxx HX HX2
        go_wp2_with fail
        refine (HB.out _).mono ?_
        rintro e w1 ⟨rfl, hb1⟩
        go_wp2
        go_ret2
        exact ⟨by rw [HVV.out, HXX.out, same_text]; rfl, hb1⟩
end Go.Proofs.YtkhdjmjbdpmdnaaGreatDoor
namespace Go.Proofs.YtkhdjmjbdpmdnaaGreatDoor
open Go.RowKit

/-- A body's number, and whether it has one, as the specification reckons both. -/
noncomputable def intQ (s : ByteArray) : Int × Bool := if s.size = 0 ∨ 8 < s.size then (0, false) else (sv s s.size, decide (strOfNums (intL (sv s s.size)) = s))
set_option maxHeartbeats 1000000 in
theorem specInt (s : ByteArray) (w : World) (hs : s.size ≤ maxLen) : Calls Tryz.prog 161 #[.string s] w fun e w' => e = .returned (.tuple #[.int .i64 (intQ s).1, .bool (intQ s).2]) ∧ Below w.heap.size w w' := by
  unfold maxLen at hs
  by_cases h2 : s.size = 0 ∨ 8 < s.size
  · have HF : Hid (intQ s = (0, false)) := by show _ = _; rw [intQ, if_pos h2]
    rw [HF.out]
    clear HF
    rcases h2 with h2 | h2
    all_goals
      go_enter Tryz.func161, Tryz.ntmps161
      go_wp2
      go_ret2
      exact ⟨rfl, Below.refl _ _⟩
  · have HF : intQ s = (sv s s.size, decide (strOfNums (intL (sv s s.size)) = s)) := by rw [intQ, if_neg h2]
    rw [HF]
    exact specIntOf s w (by omega) (by omega)
/-- A number taken of a reader. -/
noncomputable def numR (l : List (Int × ByteArray)) (bad : Bool) : Int × List (Int × ByteArray) × Bool :=
  ((intQ (takeR l bad 2).1).1, (takeR l bad 2).2.1, (takeR l bad 2).2.2 || !(intQ (takeR l bad 2).1).2)
theorem takeR_sz {l : List (Int × ByteArray)} {bad : Bool} {t : Int} (hl : ∀ p ∈ l, p.2.size ≤ 4000) : (takeR l bad t).1.size ≤ 4000 := by
  unfold takeR
  cases l with
  | nil => exact Nat.zero_le _
  | cons p r =>
    have := hl p (List.mem_cons_self ..)
    simp only
    split
    · exact Nat.zero_le _
    · split
      · exact this
      · exact Nat.zero_le _
set_option linter.unusedSimpArgs false in
set_option maxHeartbeats 1000000 in
set_option maxRecDepth 100000 in
theorem rdNum (B g : Nat) (l : List (Int × ByteArray)) (bad : Bool) (w : World) (hr : IsRd w B g l bad) (hl : ∀ p ∈ l, p.2.size ≤ 4000) :
    Calls Tryz.prog 107 #[.pointer (some ⟨g, 0, none⟩)] w fun e w' => e = .returned (.int .i64 (numR l bad).1) ∧ IsRd w' B g (numR l bad).2.1 (numR l bad).2.2 ∧ (∀ k, k < w.heap.size → k ≠ g → w'.heap[k]? = w.heap[k]?) ∧ ∀ A, A ≤ g → Below A w w' := by
  have HTk : Hid (Calls Tryz.prog 109 #[.pointer (some ⟨g, 0, none⟩), .int .i64 2] w fun e w' => e = .returned (.string (takeR l bad 2).1) ∧ IsRd w' B g (takeR l bad 2).2.1 (takeR l bad 2).2.2 ∧ (∀ k, k < w.heap.size → k ≠ g → w'.heap[k]? = w.heap[k]?) ∧ ∀ A, A ≤ g → Below A w w') := rdTake B g l bad 2 w hr
  have hz := takeR_sz (bad := bad) (t := 2) hl
  have HIn : Hid (∀ V, Calls Tryz.prog 161 #[.string (takeR l bad 2).1] V fun e w' => e = .returned (.tuple #[.int .i64 (intQ (takeR l bad 2).1).1, .bool (intQ (takeR l bad 2).1).2]) ∧ Below V.heap.size V w') := fun V => specInt _ V (by unfold maxLen; omega)
  unfold numR
  simp only
  have hgl : g < w.heap.size := by exact hr.ge.2
  have HGl : Hid (g < w.heap.size) := hgl
  generalize takeR l bad 2 = T at *
  generalize intQ T.1 = O at *
  obtain ⟨tb, tl, tbad⟩ := T
  obtain ⟨n, ok⟩ := O
  simp only at HTk HIn ⊢
  clear hr hl hz hgl
  go_enter Tryz.func107, Tryz.ntmps107
  go_wp2_with fail
  refine HTk.out.mono ?_
  rintro e w2 ⟨rfl, r2, s2, b2⟩
  have R2 : Hid (IsRd w2 B g tl tbad) := r2
  have S2 : Hid (∀ k, k < w.heap.size → k ≠ g → w2.heap[k]? = w.heap[k]?) := s2
  have B2 : Hid (∀ A, A ≤ g → Below A w w2) := b2
  clear r2 s2 b2 HTk
  go_wp2_with fail
  refine (HIn.out w2).mono ?_
  rintro e w3 ⟨rfl, b3⟩
  have r3 := R2.out.keep b3
  obtain ⟨a3, c3, g3, hc3, ht3, h13, hn3⟩ := r3
  have HFin : Hid (∀ b : Bool, IsRd (w3.setCell ⟨g, 1, none⟩ (.bool b)) B g tl b ∧ (∀ k, k < w.heap.size → k ≠ g → (w3.setCell ⟨g, 1, none⟩ (.bool b)).heap[k]? = w.heap[k]?) ∧ ∀ A, A ≤ g → Below A w (w3.setCell ⟨g, 1, none⟩ (.bool b))) := fun b => by
    have hs2 := (B2.out g (Nat.le_refl _)).size
    have hgl := HGl.out
    exact ⟨⟨a3, c3, rowSet (i := 1) (.bool b) g3, hc3, ht3.set g 1 _ (fun b hb => Nat.ne_of_lt (hn3 b hb).2), h13, hn3⟩, fun k hk hkg => by rw [heap_setCell_other w3 _ k _ hkg, b3.block k (by omega), S2.out k hk hkg], fun A hA => ((B2.out A hA).trans (b3.mono (by omega))).setCell hA _⟩
  have y1 := rowFacts g3 1 _ rfl
  have z1 := rowFree g3 1
  clear g3 HIn R2 S2 B2 HGl hc3 ht3 hn3 h13 b3
  cases tbad with
  | true =>
    go_wp2
    go_ret
    exact ⟨rfl, HFin.out true⟩
  | false =>
    go_wp2
    go_ret
    exact ⟨rfl, by rw [Bool.false_or]; exact HFin.out (!ok)⟩
end Go.Proofs.YtkhdjmjbdpmdnaaGreatDoor
namespace Go.Proofs.YtkhdjmjbdpmdnaaGreatDoor
open Go.RowKit

theorem inR_4000 (l : List (Int × ByteArray)) (bad : Bool) (t : Int) : ∀ p ∈ (inR l bad t).1.1, p.2.size ≤ 4000 := fun p hp => allD_4000 _ p hp
/-- A name taken of a reader. -/
def nameR (l : List (Int × ByteArray)) (bad : Bool) : ByteArray × List (Int × ByteArray) × Bool :=
  let i1 := inR l bad 48
  let i2 := inR i1.1.1 i1.1.2 49
  let i3 := inR i2.1.1 i2.1.2 48
  let t6 := takeR i3.1.1 i3.1.2 6
  let t12 := takeR t6.2.1 t6.2.2 12
  (t12.1, i1.2.1, i1.2.2 || t12.2.2)
set_option linter.unusedSimpArgs false in
set_option maxHeartbeats 1000000 in
set_option maxRecDepth 100000 in
theorem rdName (B g : Nat) (l : List (Int × ByteArray)) (bad : Bool) (w : World) (hr : IsRd w B g l bad) (hl : ∀ p ∈ l, p.2.size ≤ 4000) :
    Calls Tryz.prog 106 #[.pointer (some ⟨g, 0, none⟩)] w fun e w' => e = .returned (.string (nameR l bad).1) ∧ IsRd w' B g (nameR l bad).2.1 (nameR l bad).2.2 ∧ (∀ k, k < w.heap.size → k ≠ g → w'.heap[k]? = w.heap[k]?) ∧ ∀ A, A ≤ g → Below A w w' := by
  obtain ⟨R, hR⟩ : ∃ R, R = nameR l bad := ⟨_, rfl⟩
  rw [← hR]
  obtain ⟨⟨⟨l1, d1⟩, m1, f1⟩, h1⟩ : ∃ i, i = inR l bad 48 := ⟨_, rfl⟩
  obtain ⟨⟨⟨l2, d2⟩, m2, f2⟩, h2⟩ : ∃ i, i = inR l1 d1 49 := ⟨_, rfl⟩
  obtain ⟨⟨⟨l3, d3⟩, m3, f3⟩, h3⟩ : ∃ i, i = inR l2 d2 48 := ⟨_, rfl⟩
  obtain ⟨⟨b6, l6, d6⟩, h6⟩ : ∃ i, i = takeR l3 d3 6 := ⟨_, rfl⟩
  obtain ⟨⟨b12, l12, d12⟩, h12⟩ : ∃ i, i = takeR l6 d6 12 := ⟨_, rfl⟩
  have z1 : ∀ p ∈ l1, p.2.size ≤ 4000 := by have := inR_4000 l bad 48; rw [← h1] at this; exact this
  have z2 : ∀ p ∈ l2, p.2.size ≤ 4000 := by have := inR_4000 l1 d1 49; rw [← h2] at this; exact this
  have hRR : R = (b12, m1, f1 || d12) := by
    rw [hR, nameR]
    simp only [← h1, ← h2, ← h3, ← h6, ← h12]
  have C1 : Hid (Calls Tryz.prog 105 #[.pointer (some ⟨g, 0, none⟩), .int .i64 48] w fun e w' => ∃ x, e = .returned (.pointer (some ⟨x, 0, none⟩)) ∧ w.heap.size ≤ x ∧ IsRd w' w.heap.size x l1 d1 ∧ IsRd w' B g m1 f1 ∧ (∀ k, k < w.heap.size → k ≠ g → w'.heap[k]? = w.heap[k]?) ∧ ∀ A, A ≤ g → Below A w w') := by have := rdIn B g l bad 48 w hr hl; rw [← h1] at this; exact this
  have C2 : Hid (∀ V A x, IsRd V A x l1 d1 → Calls Tryz.prog 105 #[.pointer (some ⟨x, 0, none⟩), .int .i64 49] V fun e w' => ∃ y, e = .returned (.pointer (some ⟨y, 0, none⟩)) ∧ V.heap.size ≤ y ∧ IsRd w' V.heap.size y l2 d2 ∧ ∀ A, A ≤ x → Below A V w') := fun V A x hV => by
    have := rdIn A x l1 d1 49 V hV z1
    rw [← h2] at this
    exact this.mono fun e W ⟨y, a, b, c, _, _, d⟩ => ⟨y, a, b, c, d⟩
  have C3 : Hid (∀ V A x, IsRd V A x l2 d2 → Calls Tryz.prog 105 #[.pointer (some ⟨x, 0, none⟩), .int .i64 48] V fun e w' => ∃ y, e = .returned (.pointer (some ⟨y, 0, none⟩)) ∧ V.heap.size ≤ y ∧ IsRd w' V.heap.size y l3 d3 ∧ ∀ A, A ≤ x → Below A V w') := fun V A x hV => by
    have := rdIn A x l2 d2 48 V hV z2
    rw [← h3] at this
    exact this.mono fun e W ⟨y, a, b, c, _, _, d⟩ => ⟨y, a, b, c, d⟩
  have C6 : Hid (∀ V A x, IsRd V A x l3 d3 → Calls Tryz.prog 109 #[.pointer (some ⟨x, 0, none⟩), .int .i64 6] V fun e w' => e = .returned (.string b6) ∧ IsRd w' A x l6 d6 ∧ ∀ A, A ≤ x → Below A V w') := fun V A x hV => by
    have := rdTake A x l3 d3 6 V hV
    rw [← h6] at this
    exact this.mono fun e W ⟨a, b, _, d⟩ => ⟨a, b, d⟩
  have C12 : Hid (∀ V A x, IsRd V A x l6 d6 → Calls Tryz.prog 109 #[.pointer (some ⟨x, 0, none⟩), .int .i64 12] V fun e w' => e = .returned (.string b12) ∧ IsRd w' A x l12 d12 ∧ ∀ A, A ≤ x → Below A V w') := fun V A x hV => by
    have := rdTake A x l6 d6 12 V hV
    rw [← h12] at this
    exact this.mono fun e W ⟨a, b, _, d⟩ => ⟨a, b, d⟩
  have hgl : g < w.heap.size := by exact hr.ge.2
  have HGl : Hid (g < w.heap.size) := hgl
  have HRR : Hid (R = (b12, m1, f1 || d12)) := hRR
  clear hR hRR h1 h2 h3 h6 h12 z1 z2 hr hl hgl
  go_enter Tryz.func106, Tryz.ntmps106
  go_wp2_with fail
  refine C1.out.mono ?_
  rintro e w2 ⟨x1, rfl, q1, r1, rg, s2, b2⟩
  have RG : Hid (IsRd w2 B g m1 f1) := rg
  have S2 : Hid (∀ k, k < w.heap.size → k ≠ g → w2.heap[k]? = w.heap[k]?) := s2
  have B2 : Hid (∀ A, A ≤ g → Below A w w2) := b2
  have R1 : Hid (IsRd w2 w.heap.size x1 l1 d1) := r1
  have Q1 : Hid (w.heap.size ≤ x1) := q1
  have Z2 : Hid (w.heap.size ≤ w2.heap.size) := (b2 g (Nat.le_refl _)).size
  clear rg s2 b2 r1 q1 C1
  go_wp2_with fail
  refine (C2.out w2 _ x1 R1.out).mono ?_
  rintro e w3 ⟨x2, rfl, q2, r2, b3⟩
  have R2 : Hid (IsRd w3 w2.heap.size x2 l2 d2) := r2
  have Q2 : Hid (w.heap.size ≤ x2) := Nat.le_trans Z2.out q2
  have B3 : Hid (Below w.heap.size w2 w3) := b3 _ Q1.out
  clear r2 q2 b3 C2 R1
  go_wp2_with fail
  refine (C3.out w3 _ x2 R2.out).mono ?_
  rintro e w4 ⟨x3, rfl, q3, r3, b4⟩
  have R3 : Hid (IsRd w4 w3.heap.size x3 l3 d3) := r3
  have Q3 : Hid (w.heap.size ≤ x3) := Nat.le_trans Z2.out (Nat.le_trans B3.out.size q3)
  have B4 : Hid (Below w.heap.size w2 w4) := B3.out.trans (b4 _ Q2.out)
  clear r3 q3 b4 C3 R2
  go_wp2_with fail
  refine (C6.out w4 _ x3 R3.out).mono ?_
  rintro e w5 ⟨rfl, r5, b5⟩
  have R5 : Hid (IsRd w5 w3.heap.size x3 l6 d6) := r5
  have B5 : Hid (Below w.heap.size w2 w5) := B4.out.trans (b5 _ Q3.out)
  clear r5 b5 C6 R3
  go_wp2_with fail
  refine (C12.out w5 _ x3 R5.out).mono ?_
  rintro e w6 ⟨rfl, r6, b6'⟩
  have B6 : Hid (Below w.heap.size w2 w6) := B5.out.trans (b6' _ Q3.out)
  have rg := RG.out.far (B6.out.mono (by have := HGl.out; omega))
  obtain ⟨a3, c3, g3, hc3, ht3, h13, hn3⟩ := rg
  obtain ⟨a6, c6, g6, _⟩ := r6
  have HFin : Hid (∀ b : Bool, IsRd (w6.setCell ⟨g, 1, none⟩ (.bool b)) B g m1 b ∧ (∀ k, k < w.heap.size → k ≠ g → (w6.setCell ⟨g, 1, none⟩ (.bool b)).heap[k]? = w.heap[k]?) ∧ ∀ A, A ≤ g → Below A w (w6.setCell ⟨g, 1, none⟩ (.bool b))) := fun b => by
    have hgl := HGl.out
    exact ⟨⟨a3, c3, rowSet (i := 1) (.bool b) g3, hc3, ht3.set g 1 _ (fun b hb => Nat.ne_of_lt (hn3 b hb).2), h13, hn3⟩, fun k hk hkg => by rw [heap_setCell_other w6 _ k _ hkg, B6.out.block k hk, S2.out k hk hkg], fun A hA => ((B2.out A hA).trans (B6.out.mono (by omega))).setCell hA _⟩
  have y1 := rowFacts g3 1 _ rfl
  have z1 := rowFree g3 1
  have u1 := rowFacts g6 1 _ rfl
  clear g3 g6 C12 RG R5 S2 B2 HGl hc3 ht3 hn3 h13 b6' B3 B4 B5 B6 Q1 Q2 Q3 Z2
  cases f1 with
  | true =>
    go_wp2
    go_ret
    rw [HRR.out]
    exact ⟨rfl, HFin.out true⟩
  | false =>
    go_wp2
    go_ret
    rw [HRR.out]
    exact ⟨rfl, by simp only [Bool.false_or]; exact HFin.out d12⟩
end Go.Proofs.YtkhdjmjbdpmdnaaGreatDoor
