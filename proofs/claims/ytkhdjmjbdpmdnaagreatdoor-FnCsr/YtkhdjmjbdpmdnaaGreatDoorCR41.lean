/- What CertRead tells, as a value. Papers come back when they are read: their parts as they lie. Plain mathematics: no program is named here. What the program reads of a paper, as it was laid. Plain mathematics, but for where readP is told. What the specification's readers read of a paper that was laid. Plain mathematics: no program is named here. CertRead: what the program tells and what the specification tells are the same. Plain, but for where readP is told. Is a paper good? Plain mathematics: no program is named here. What a signed paper is, and what is read of its bytes. Plain mathematics. What a signed asking paper and a signed list are, and what is read of their bytes. Plain mathematics. The errors of what is signed. What the listed table gives the walks: the numbers of the rounds, each in its cell. -/
import Derived.Test.YtkhdjmjbdpmdnaaGreatDoorCR40
import Derived.Test.YtkhdjmjbdpmdnaaGreatDoorCR21
import Derived.Test.YtkhdjmjbdpmdnaaGreatDoorCR03
import Derived.Test.YtkhdjmjbdpmdnaaGreatDoorCR30
import Derived.Test.YtkhdjmjbdpmdnaaGreatDoorCR19
import Derived.Test.YtkhdjmjbdpmdnaaGreatDoorCR05
import Derived.Test.YtkhdjmjbdpmdnaaGreatDoorCR36
import Derived.Test.YtkhdjmjbdpmdnaaGreatDoorCR15
import Derived.Test.YtkhdjmjbdpmdnaaGreatDoorCR27
import Derived.Test.YtkhdjmjbdpmdnaaGreatDoorCR04
import Derived.ProofKit
import Derived.OpenShut
import Derived.LaidMore
import Derived.Stop.Joined
import Derived.OpenVars
import Derived.Lay
namespace Go.Proofs.YtkhdjmjbdpmdnaaGreatDoor
open Go.RowKit

def certV (c : Paper) (v : Value) (n : Int) : Value := .agg #[.int .i64 c.serial, .string c.issuer, .string c.subject, .int .i64 c.fr, .int .i64 c.till, .int .i64 c.key, v, .bool c.ca, .int .i64 c.sk, .int .i64 c.se, .int .i64 c.ss, .int .i64 n]
theorem sizeCertOut : (Tryz.prog.info? 37).map (·.size) = some 12 := by kernel_rfl
/-- What the program tells of a text. -/
noncomputable def certR (s : ByteArray) : Paper × Int :=
  if 20000 < s.size then (zeroPaper, 2) else if certB (readP s) = true ∧ certBytesD (readP s) = s then (readP s, 0) else (zeroPaper, 3)
theorem partsR_names (l : List (Int × ByteArray)) : ∀ (m : List ByteArray × Bool), (m.1 = [] ∨ ∃ x, m.1 = bodiesR x) → ((partsR m l).1 = [] ∨ ∃ x, (partsR m l).1 = bodiesR x) := by
  induction l with
  | nil => exact fun m h => h
  | cons p r ih =>
    intro m h
    refine ih (partR m p.2) ?_
    unfold partR
    simp only
    split
    · exact .inr ⟨_, rfl⟩
    · exact h
theorem moreR_names (l : List (Int × ByteArray)) : ∀ (m : List ByteArray × Bool), (m.1 = [] ∨ ∃ x, m.1 = bodiesR x) → ((moreR m l).1 = [] ∨ ∃ x, (moreR m l).1 = bodiesR x) := by
  induction l with
  | nil => exact fun m h => h
  | cons p r ih =>
    intro m h
    exact ih _ (partsR_names _ m h)
theorem paperR_small {L : List (Int × ByteArray)} (h : L.length < 7) (k : List Int) : paperR L k = zeroPaper := if_pos h
theorem paperR_big {L : List (Int × ByteArray)} (h : ¬ L.length < 7) (k : List Int) : (paperR L k).names = (moreR ([], false) (L.drop 7)).1 ∧ (paperR L k).issuer = (fixL L).issuer ∧ (paperR L k).subject = (fixL L).subject := by
  unfold paperR
  rw [if_neg h]
  exact ⟨rfl, rfl, rfl⟩
theorem paperR_names (L : List (Int × ByteArray)) (k : List Int) : (paperR L k).names = [] ∨ ∃ x, (paperR L k).names = bodiesR x := by
  by_cases h : L.length < 7
  · rw [paperR_small h]
    exact .inl rfl
  · rw [(paperR_big h k).1]
    exact moreR_names _ _ (.inl rfl)
theorem names_or {n : List ByteArray} (h : n = [] ∨ ∃ x, n = bodiesR x) : n.length ≤ 1048576 ∧ totS n n.length ≤ 1048576 := by
  rcases h with h | ⟨x, h⟩
  · rw [h]
    exact ⟨Nat.zero_le _, Nat.zero_le _⟩
  · rw [h]
    exact bodiesR_fit x
theorem readP_names (s : ByteArray) : (readP s).names.length ≤ 1048576 ∧ totS (readP s).names (readP s).names.length ≤ 1048576 := by
  unfold readP
  exact names_or (paperR_names _ _)
theorem bodyJ_le {L : List (Int × ByteArray)} {m : Nat} (h : ∀ p ∈ L, p.2.size ≤ m) (i : Nat) : (bodyJ L i).size ≤ m := by
  unfold bodyJ
  cases e : L[i]? with
  | none => exact Nat.zero_le _
  | some p => exact h p (List.mem_of_getElem? e)
theorem paperR_texts {L : List (Int × ByteArray)} (k : List Int) (h4 : ∀ p ∈ L, p.2.size ≤ 4000) : (paperR L k).issuer.size ≤ maxLen ∧ (paperR L k).subject.size ≤ maxLen := by
  by_cases h : L.length < 7
  · rw [paperR_small h]
    exact ⟨Nat.zero_le _, Nat.zero_le _⟩
  · rw [(paperR_big h k).2.1, (paperR_big h k).2.2]
    have h3 := Nat.le_trans (atP_le [0, 0, 1] _) (bodyJ_le h4 3)
    have h5 := Nat.le_trans (atP_le [0, 0, 1] _) (bodyJ_le h4 5)
    have hm : 4000 ≤ maxLen := by unfold maxLen; omega
    exact ⟨Nat.le_trans h3 hm, Nat.le_trans h5 hm⟩
theorem readP_texts (s : ByteArray) : (readP s).issuer.size ≤ maxLen ∧ (readP s).subject.size ≤ maxLen := by
  unfold readP
  exact paperR_texts _ (allD_4000 _)
end Go.Proofs.YtkhdjmjbdpmdnaaGreatDoor
namespace Go.Proofs.YtkhdjmjbdpmdnaaGreatDoor
open Go.RowKit

def oidB (l : List Int) : ByteArray := strOfNums (oidL l)
def kindL : List (Nat × ByteArray) := [(6, oidB [1, 3, 101, 112])]
def timesL (a b : Int) : List (Nat × ByteArray) := [(2, strOfNums (intL a)), (2, strOfNums (intL b))]
def keyLs (k : Int) : List (Nat × ByteArray) := [(48, catT kindL), (3, ⟨#[0]⟩ ++ rowN [k])]
def hostsL (ss : List ByteArray) : List (Nat × ByteArray) := [(48, hostsD ss ss.length)]
def namePL (ss : List ByteArray) : List (Nat × ByteArray) := [(6, oidB [2, 5, 29, 17]), (4, catT (hostsL ss))]
def caPL : List (Nat × ByteArray) := [(6, oidB [2, 5, 29, 19]), (1, ⟨#[255]⟩), (4, catT [(48, soD)])]
def partsL (ss : List ByteArray) (ca : Bool) : List (Nat × ByteArray) := (if ss.length = 0 then [] else [(48, catT (namePL ss))]) ++ (if ca = true then [(48, catT caPL)] else [])
def morePL (ss : List ByteArray) (ca : Bool) : List (Nat × ByteArray) := if (partsL ss ca).length = 0 then [] else [(163, catT [(48, catT (partsL ss ca))])]
def bodyL (c : Paper) : List (Nat × ByteArray) :=
  [(160, intD 2), (2, strOfNums (intL c.serial)), (48, catT kindL), (48, catT (nameL c.issuer)), (48, catT (timesL c.fr c.till)), (48, catT (nameL c.subject)), (48, catT (keyLs c.key))] ++ morePL c.names c.ca
def bodyL2 (c : Paper) : List (Nat × ByteArray) := [(48, catT (bodyL c)), (48, catT kindL), (3, sigT c.sk c.se c.ss)]
theorem kindD_cat : kindD = thingD 48 (catT kindL) := by rw [kindL, catT_one]; rfl
theorem namesD_cat (ss : List ByteArray) : namesD ss = catT (if ss.length = 0 then [] else [(48, catT (namePL ss))]) := by
  unfold namesD
  by_cases h : ss.length = 0
  · rw [if_pos h, if_pos h]; rfl
  · rw [if_neg h, if_neg h, catT_one, namePL, catT_cons, catT_one, hostsL, catT_one]
    rfl
theorem caD_cat (ca : Bool) : caD ca = catT (if ca = true then [(48, catT caPL)] else []) := by
  cases ca with
  | false => rfl
  | true =>
    rw [if_pos rfl, catT_one, caPL, catT_cons, catT_cons, catT_one, catT_one]
    rfl
theorem parts_cat (ss : List ByteArray) (ca : Bool) : namesD ss ++ caD ca = catT (partsL ss ca) := by
  rw [namesD_cat, caD_cat, partsL, catT_app]
theorem partsL_size (ss : List ByteArray) (ca : Bool) : (catT (partsL ss ca)).size = 0 ↔ (partsL ss ca).length = 0 := by
  constructor
  · intro h
    have := catT_len (partsL ss ca)
    omega
  · intro h
    rw [List.eq_nil_of_length_eq_zero h]
    rfl
theorem moreD_cat (ss : List ByteArray) (ca : Bool) : moreD ss ca = catT (morePL ss ca) := by
  unfold moreD moreT morePL
  rw [parts_cat]
  by_cases h : (partsL ss ca).length = 0
  · rw [if_pos ((partsL_size ss ca).2 h), if_pos h]; rfl
  · rw [if_neg (fun h' => h ((partsL_size ss ca).1 h')), if_neg h, catT_one, catT_one]
    rfl
theorem bodyX_cat (c : Paper) : thingD 160 (intD 2) ++ (intD c.serial ++ (kindD ++ (nameD c.issuer ++ (seqD (intD c.fr ++ intD c.till) ++ (nameD c.subject ++ (keyD c.key ++ moreD c.names c.ca)))))) = catT (bodyL c) := by
  rw [bodyL, catT_app, ← moreD_cat, catT_cons, catT_cons, catT_cons, catT_cons, catT_cons, catT_cons, catT_one]
  unfold keyD
  rw [nameD_cat, nameD_cat, kindD_cat, timesL, catT_cons, catT_one, keyLs, catT_cons, catT_one, key_row]
  simp only [ByteArray.append_assoc]
  rfl
theorem bodyD_cat (c : Paper) : bodyD c = thingD 48 (catT (bodyL c)) := by
  rw [← bodyX_cat]
  rfl
theorem bytesD_cat (c : Paper) : bytesD c = catT [(48, catT (bodyL2 c))] := by
  rw [catT_one, bodyL2, catT_cons, catT_cons, catT_one]
  unfold bytesD
  rw [bodyD_cat, kindD_cat]
  rfl
theorem mem_le : ∀ {l : List (Nat × ByteArray)} {q : Nat × ByteArray}, q ∈ l → q.2.size ≤ (catT l).size
  | p :: r, q, h => by
    rw [catT, ByteArray.size_append]
    rcases List.mem_cons.1 h with rfl | h
    · have := thingD_size (q.1 : Int) q.2
      omega
    · have := mem_le h
      omega
theorem things_ok {l : List (Nat × ByteArray)} (ht : ∀ q ∈ l, tagB (q.1 : Int) = true) (hl : l.length ≤ 60) (hs : (catT l).size ≤ 4000) : ThingsOk l :=
  ⟨fun q hq => ⟨ht q hq, Nat.le_trans (mem_le hq) hs⟩, hl, by omega⟩
theorem body_size {c : Paper} (h : PFits c) : (catT (bodyL c)).size ≤ 800 := by
  have a1 := thingD_le 160 (intD 2)
  have a2 := intD_le 2
  have a3 := intD_le c.serial
  have a4 := kindD_le
  have a5 := nameD_le c.issuer
  have a6 := nameD_le c.subject
  have a7 := seqD_le (intD c.fr ++ intD c.till)
  have a8 := intD_le c.fr
  have a9 := intD_le c.till
  have b1 := keyD_le c.key
  have b2 := moreD_le h.len h.each c.ca
  have b3 := h.iss
  have b4 := h.sub
  rw [← bodyX_cat]
  simp only [ByteArray.size_append] at a7 ⊢
  omega
theorem tags_more (ss : List ByteArray) (ca : Bool) : ∀ q ∈ morePL ss ca, tagB (q.1 : Int) = true := by
  unfold morePL
  split
  · simp
  · intro q hq
    obtain rfl := List.mem_singleton.1 hq
    exact tag163
theorem body_ok {c : Paper} (h : PFits c) : ThingsOk (bodyL c) := by
  have hs := body_size h
  refine things_ok (fun q hq => ?_) ?_ (by omega)
  · unfold bodyL at hq
    rcases List.mem_append.1 hq with hq | hq
    · simp only [List.mem_cons, List.not_mem_nil, or_false] at hq
      rcases hq with rfl | rfl | rfl | rfl | rfl | rfl | rfl
      · exact tag160
      · exact tag2
      · exact tag48
      · exact tag48
      · exact tag48
      · exact tag48
      · exact tag48
    · exact tags_more _ _ q hq
  · unfold bodyL morePL
    split <;> simp
theorem body2_ok {c : Paper} (h : PFits c) : ThingsOk (bodyL2 c) ∧ (catT (bodyL2 c)).size ≤ 1000 := by
  have h1 := body_size h
  have h2 := thingD_le 48 (catT (bodyL c))
  have h3 := kindD_le
  have h4 := thingD_le 3 (sigT c.sk c.se c.ss)
  have h5 := sigT_le c.sk c.se c.ss
  have hs : (catT (bodyL2 c)).size ≤ 1000 := by
    rw [kindD_cat] at h3
    rw [bodyL2, catT_cons, catT_cons, catT_one, ByteArray.size_append, ByteArray.size_append]
    show (thingD 48 _).size + ((thingD 48 _).size + (thingD 3 _).size) ≤ _
    omega
  refine ⟨things_ok (fun q hq => ?_) (by simp [bodyL2]) (by omega), hs⟩
  unfold bodyL2 at hq
  simp only [List.mem_cons, List.not_mem_nil, or_false] at hq
  rcases hq with rfl | rfl | rfl
  · exact tag48
  · exact tag48
  · exact tag3
theorem times_ok (a b : Int) : ThingsOk (timesL a b) := by
  have h1 := intD_le a
  have h2 := intD_le b
  have hs : (catT (timesL a b)).size ≤ 24 := by
    rw [timesL, catT_cons, catT_one, ByteArray.size_append]
    show (intD a).size + (intD b).size ≤ _
    omega
  refine things_ok (fun q hq => ?_) (by simp [timesL]) (by omega)
  unfold timesL at hq
  simp only [List.mem_cons, List.not_mem_nil, or_false] at hq
  rcases hq with rfl | rfl <;> exact tag2
theorem key_ok (k : Int) : ThingsOk (keyLs k) := by
  have h1 := kindD_le
  rw [kindD_cat] at h1
  have h2 := askK_le k
  rw [key_row] at h2
  have hs : (catT (keyLs k)).size ≤ 80 := by
    rw [keyLs, catT_cons, catT_one, ByteArray.size_append]
    show (thingD 48 _).size + (thingD 3 _).size ≤ _
    omega
  refine things_ok (fun q hq => ?_) (by simp [keyLs]) (by omega)
  unfold keyLs at hq
  simp only [List.mem_cons, List.not_mem_nil, or_false] at hq
  rcases hq with rfl | rfl
  · exact tag48
  · exact tag3
theorem parts_size {ss : List ByteArray} (h : ss.length ≤ 5) (h' : ∀ i, i < ss.length → (tAt ss i).size ≤ 40) (ca : Bool) : (catT (partsL ss ca)).size ≤ 370 := by
  have h1 := namesD_le h h'
  have h2 := caD_le ca
  rw [← parts_cat, ByteArray.size_append]
  omega
theorem tags_parts (ss : List ByteArray) (ca : Bool) : ∀ q ∈ partsL ss ca, tagB (q.1 : Int) = true := by
  intro q hq
  unfold partsL at hq
  rcases List.mem_append.1 hq with hq | hq
  · split at hq
    · simp at hq
    · obtain rfl := List.mem_singleton.1 hq
      exact tag48
  · split at hq
    · obtain rfl := List.mem_singleton.1 hq
      exact tag48
    · simp at hq
theorem parts_ok {ss : List ByteArray} (h : ss.length ≤ 5) (h' : ∀ i, i < ss.length → (tAt ss i).size ≤ 40) (ca : Bool) : ThingsOk (partsL ss ca) ∧ ThingsOk [(48, catT (partsL ss ca))] := by
  have h1 := parts_size h h' ca
  refine ⟨things_ok (tags_parts ss ca) ?_ (by omega), seq_ok (by omega)⟩
  unfold partsL
  rw [List.length_append]
  split <;> split <;> simp
theorem names_ok {ss : List ByteArray} (h : ss.length ≤ 5) (h' : ∀ i, i < ss.length → (tAt ss i).size ≤ 40) : ThingsOk (namePL ss) ∧ ThingsOk (hostsL ss) := by
  have h1 := hostsD_le (ss := ss) ss.length h'
  have hh : (catT (hostsL ss)).size ≤ 260 := by
    have := thingD_le 48 (hostsD ss ss.length)
    rw [hostsL, catT_one]
    show (thingD 48 _).size ≤ _
    omega
  have ho : (thingD 6 (oidB [2, 5, 29, 17])).size ≤ 49 := arcs_lit arcs17
  have hs : (catT (namePL ss)).size ≤ 400 := by
    have := thingD_le 4 (catT (hostsL ss))
    rw [namePL, catT_cons, catT_one, ByteArray.size_append]
    show (thingD 6 _).size + (thingD 4 _).size ≤ _
    omega
  refine ⟨things_ok (fun q hq => ?_) (by simp [namePL]) (by omega), things_ok (fun q hq => ?_) (by simp [hostsL]) (by omega)⟩
  · unfold namePL at hq
    simp only [List.mem_cons, List.not_mem_nil, or_false] at hq
    rcases hq with rfl | rfl
    · exact tag6
    · exact tag4
  · obtain rfl := List.mem_singleton.1 hq
    exact tag48
theorem ca_ok : ThingsOk caPL := by
  have h1 := caT_le
  have e : caT = thingD 48 (catT caPL) := by rw [caPL, catT_cons, catT_cons, catT_one, catT_one]; rfl
  rw [e, thingD_size] at h1
  refine things_ok (fun q hq => ?_) (by simp [caPL]) (by omega)
  unfold caPL at hq
  simp only [List.mem_cons, List.not_mem_nil, or_false] at hq
  rcases hq with rfl | rfl | rfl
  · exact tag6
  · exact tag1
  · exact tag4
end Go.Proofs.YtkhdjmjbdpmdnaaGreatDoor
namespace Go.Proofs.YtkhdjmjbdpmdnaaGreatDoor
open Go.RowKit

theorem arcs_back {l : List Int} (h : arcsB l = true) : (oidR (oidB l)).1 = l := by
  unfold oidB
  rw [oid_back h]
theorem part_names (m : List ByteArray × Bool) {ss : List ByteArray} (h : ss.length ≤ 5) (h' : ∀ i, i < ss.length → (tAt ss i).size ≤ 40) : partR m (catT (namePL ss)) = (ss, m.2) := by
  obtain ⟨o1, o2⟩ := names_ok h h'
  obtain ⟨e, oh⟩ := hosts_ok h h'
  have a0 : atP (catT (namePL ss)) [0] = oidB [2, 5, 29, 17] := by rw [atP_cat o1 rfl, atP_nil]
  have a1 : atP (catT (namePL ss)) [1, 0] = hostsD ss ss.length := by rw [atP_cat o1 rfl, atP_cat o2 rfl, atP_nil]
  have hb : bodiesR (hostsD ss ss.length) = ss := by
    rw [e, bodiesR_cat oh, List.map_map]
    exact List.map_id' _
  unfold partR
  rw [a0, a1, arcs_back arcs17, hb, if_pos rfl, if_neg (by decide)]
theorem part_ca (m : List ByteArray × Bool) : partR m (catT caPL) = (m.1, true) := by
  have a0 : atP (catT caPL) [0] = oidB [2, 5, 29, 19] := by rw [atP_cat ca_ok rfl, atP_nil]
  unfold partR
  rw [a0, arcs_back arcs19, if_neg (by decide), if_pos rfl]
theorem parts_back {ss : List ByteArray} (h : ss.length ≤ 5) (h' : ∀ i, i < ss.length → (tAt ss i).size ≤ 40) (ca : Bool) : partsR ([], false) (asI (partsL ss ca)) = (ss, ca) := by
  unfold partsL
  by_cases hs : ss.length = 0
  · rw [if_pos hs]
    have he : ss = [] := List.eq_nil_of_length_eq_zero hs
    cases ca with
    | false => rw [he]; rfl
    | true =>
      show partR ([], false) (catT caPL) = _
      rw [part_ca, he]
  · rw [if_neg hs]
    cases ca with
    | false =>
      show partR ([], false) (catT (namePL ss)) = _
      rw [part_names _ h h']
    | true =>
      show partR (partR ([], false) (catT (namePL ss))) (catT caPL) = _
      rw [part_names _ h h', part_ca]
theorem moreR_one (m : List ByteArray × Bool) (t : Int) (b : ByteArray) : moreR m [(t, b)] = partsR m (allD (atP b [0])).1 := rfl
theorem asI_one (t : Nat) (b : ByteArray) : asI [(t, b)] = [((t : Int), b)] := rfl
theorem more_back {ss : List ByteArray} (h : ss.length ≤ 5) (h' : ∀ i, i < ss.length → (tAt ss i).size ≤ 40) (ca : Bool) : moreR ([], false) (asI (morePL ss ca)) = (ss, ca) := by
  obtain ⟨o1, o2⟩ := parts_ok h h' ca
  have hb := parts_back h h' ca
  unfold morePL
  by_cases hp : (partsL ss ca).length = 0
  · rw [if_pos hp]
    rw [List.eq_nil_of_length_eq_zero hp] at hb
    exact hb
  · rw [if_neg hp]
    rw [asI_one, moreR_one, atP_cat o2 rfl, atP_nil, allD_cat o1.1 o1.2.1 o1.2.2]
    exact hb
theorem readP_back {c : Paper} (h : certB c = true) : readP (bytesD c) = c := by
  have hf := paper_fits (certB_paper h)
  have hsig : sigRB c.sk c.se c.ss = true := by
    unfold certB at h
    rw [Bool.and_eq_true] at h
    exact h.2
  obtain ⟨s0, s1, s2⟩ := sigRB_lt hsig
  obtain ⟨o2, hz2⟩ := body2_ok hf
  have o1 := body_ok hf
  have o3 : ThingsOk [(48, catT (bodyL2 c))] := seq_ok (by omega)
  have a1 : atP (bytesD c) [0] = catT (bodyL2 c) := by rw [bytesD_cat, atP_cat o3 rfl, atP_nil]
  have a2 : atP (catT (bodyL2 c)) [0] = catT (bodyL c) := by rw [atP_cat o2 rfl, atP_nil]
  have a3 : atP (catT (bodyL2 c)) [2] = sigT c.sk c.se c.ss := by rw [atP_cat o2 rfl, atP_nil]
  have ht := sigT_le c.sk c.se c.ss
  have hn := (rowN_zero (zs := [c.sk, c.se, c.ss]) (fun n hn => by simp at hn; rcases hn with rfl | rfl | rfl <;> omega) (by rw [← sigT_row]; omega)).1
  have hn3 : numsGo (sigT c.sk c.se c.ss) 3 1 = [c.sk, c.se, c.ss] := by rw [sigT_row]; exact hn
  have hk := putS_size c.key
  have k0 := hf.key0
  have k1 := hf.key1
  have hkn := (rowN_zero (zs := [c.key]) (fun n hn => by simp at hn; subst hn; omega) (by rw [← key_row, ByteArray.size_append, one_size]; omega)).1
  have b4 : atP (catT (timesL c.fr c.till)) [0] = strOfNums (intL c.fr) := by rw [atP_cat (times_ok _ _) rfl, atP_nil]
  have b4' : atP (catT (timesL c.fr c.till)) [1] = strOfNums (intL c.till) := by rw [atP_cat (times_ok _ _) rfl, atP_nil]
  have b6 : atP (catT (keyLs c.key)) [1] = ⟨#[0]⟩ ++ rowN [c.key] := by rw [atP_cat (key_ok _) rfl, atP_nil]
  have e0 := hf.ser0
  have e1 := hf.ser1
  have e2 := hf.fr0
  have e3 := hf.fr1
  have e4 := hf.till0
  have e5 := hf.till1
  have hfix : fixL (asI (bodyL c)) = ⟨c.serial, c.issuer, c.subject, c.fr, c.till, c.key, [], false, 0, 0, 0⟩ := by
    show fixR (strOfNums (intL c.serial)) (catT (nameL c.issuer)) (catT (timesL c.fr c.till)) (catT (nameL c.subject)) (catT (keyLs c.key)) = _
    unfold fixR
    rw [b4, b4', b6, name_back hf.iss, name_back hf.sub, int_back (by omega) (by omega), int_back (by omega) (by omega), int_back (by omega) (by omega)]
    have : numsGo (⟨#[0]⟩ ++ rowN [c.key]) 1 1 = [c.key] := hkn
    rw [this]
    rfl
  have hlen : ¬ (asI (bodyL c)).length < 7 := by
    have : (asI (bodyL c)).length = 7 + (asI (morePL c.names c.ca)).length := by
      unfold bodyL asI
      rw [List.map_append, List.length_append]
      rfl
    omega
  have hdrop : (asI (bodyL c)).drop 7 = asI (morePL c.names c.ca) := rfl
  unfold readP
  rw [a1, a2, a3, hn3, allD_cat o1.1 o1.2.1 o1.2.2]
  unfold paperR
  rw [if_neg hlen, hfix, hdrop, more_back hf.len hf.each]
  rfl
end Go.Proofs.YtkhdjmjbdpmdnaaGreatDoor
namespace Go.Proofs.YtkhdjmjbdpmdnaaGreatDoor
open Go.RowKit

/-- One part of what is more: its names are taken, or it says that the key signs papers. -/
def partS (m : List ByteArray × Bool) (l : List (Int × ByteArray)) (bad : Bool) : List ByteArray × Bool :=
  let t := takeR l bad 6
  if t.2.2 = false ∧ t.2.1.length = 1 then
    let f := (inR t.2.1 t.2.2 4).1
    let h := (inR f.1 f.2 48).1
    (m.1 ++ hostsR h.1 h.2, m.2)
  else (m.1, true)
/-- The parts, one by one. -/
def moreS : List (Int × ByteArray) → Bool → List ByteArray × Bool → List ByteArray × Bool
  | [], _, m => m
  | p :: r, bad, m => if bad = true then m else if p.1 = 48 then moreS r false (partS m (openR p.2).1 (openR p.2).2) else (m.1, true)
theorem moreS_bad (l : List (Int × ByteArray)) (m : List ByteArray × Bool) : moreS l true m = m := by cases l <;> simp [moreS]
theorem moreS_nil (b : Bool) (m : List ByteArray × Bool) : moreS [] b m = m := rfl
theorem partS_bad (m : List ByteArray × Bool) (l : List (Int × ByteArray)) : partS m l true = (m.1, true) := by
  unfold partS takeR
  cases l <;> simp
theorem moreS_step (p : Int × ByteArray) (r : List (Int × ByteArray)) (m : List ByteArray × Bool) :
    moreS (p :: r) false m = moreS (inR (p :: r) false 48).2.1 (inR (p :: r) false 48).2.2 (partS m (inR (p :: r) false 48).1.1 (inR (p :: r) false 48).1.2) := by
  by_cases h : p.1 = 48
  · simp [moreS, inR, takeR, h]
  · simp [moreS, inR, takeR, h, moreS_bad, partS_bad]
/-- What stands behind the key, if anything does. -/
def tailS (l : List (Int × ByteArray)) (bad : Bool) : List ByteArray × Bool :=
  if bad = false ∧ l.length > 0 then
    let m := (inR l bad 163).1
    let x := (inR m.1 m.2 48).1
    moreS x.1 x.2 ([], false)
  else ([], false)
theorem partS_names (m : List ByteArray × Bool) {ss : List ByteArray} (h : ss.length ≤ 5) (h' : ∀ i, i < ss.length → (tAt ss i).size ≤ 40) : partS m (asI (namePL ss)) false = (m.1 ++ ss, m.2) := by
  obtain ⟨_, o2⟩ := names_ok h h'
  obtain ⟨e, oh⟩ := hosts_ok h h'
  have x0 : asI (namePL ss) = ((6 : Int), oidB [2, 5, 29, 17]) :: ((4 : Int), catT (hostsL ss)) :: [] := rfl
  have x1 : asI (hostsL ss) = ((48 : Int), hostsD ss ss.length) :: [] := rfl
  unfold partS
  simp only [x0, takeR_cons, inR_cons _ o2, x1]
  rw [if_pos ⟨trivial, rfl⟩, e]
  simp only [inR_cons _ oh, hostsR_cat]
theorem partS_ca (m : List ByteArray × Bool) : partS m (asI caPL) false = (m.1, true) := by
  have x0 : asI caPL = ((6 : Int), oidB [2, 5, 29, 19]) :: ((1 : Int), ⟨#[255]⟩) :: ((4 : Int), catT [(48, soD)]) :: [] := rfl
  unfold partS
  simp only [x0, takeR_cons]
  rw [if_neg (by simp)]
theorem partsS_back {ss : List ByteArray} (h : ss.length ≤ 5) (h' : ∀ i, i < ss.length → (tAt ss i).size ≤ 40) (ca : Bool) : moreS (asI (partsL ss ca)) false ([], false) = (ss, ca) := by
  obtain ⟨o1, _⟩ := names_ok h h'
  have en : ∀ (r : List (Int × ByteArray)) (m : List ByteArray × Bool), moreS (((48 : Int), catT (namePL ss)) :: r) false m = moreS r false (m.1 ++ ss, m.2) := by
    intro r m
    rw [moreS_step, inR_cons _ o1, partS_names _ h h']
  have ec : ∀ (r : List (Int × ByteArray)) (m : List ByteArray × Bool), moreS (((48 : Int), catT caPL) :: r) false m = moreS r false (m.1, true) := by
    intro r m
    rw [moreS_step, inR_cons _ ca_ok, partS_ca]
  unfold partsL
  by_cases hs : ss.length = 0
  · rw [if_pos hs]
    have he : ss = [] := List.eq_nil_of_length_eq_zero hs
    cases ca with
    | false => rw [he]; rfl
    | true =>
      show moreS (((48 : Int), catT caPL) :: []) false ([], false) = _
      rw [ec, moreS_nil, he]
  · rw [if_neg hs]
    cases ca with
    | false =>
      show moreS (((48 : Int), catT (namePL ss)) :: []) false ([], false) = _
      rw [en, moreS_nil]
      rfl
    | true =>
      show moreS (((48 : Int), catT (namePL ss)) :: ((48 : Int), catT caPL) :: []) false ([], false) = _
      rw [en, ec, moreS_nil]
      rfl
theorem tailS_back {ss : List ByteArray} (h : ss.length ≤ 5) (h' : ∀ i, i < ss.length → (tAt ss i).size ≤ 40) (ca : Bool) : tailS (asI (morePL ss ca)) false = (ss, ca) := by
  obtain ⟨o1, o2⟩ := parts_ok h h' ca
  have hb := partsS_back h h' ca
  unfold morePL
  by_cases hp : (partsL ss ca).length = 0
  · rw [if_pos hp]
    rw [List.eq_nil_of_length_eq_zero hp] at hb
    exact hb
  · rw [if_neg hp]
    have x0 : asI [(163, catT [(48, catT (partsL ss ca))])] = ((163 : Int), catT [(48, catT (partsL ss ca))]) :: [] := rfl
    have x1 : asI [(48, catT (partsL ss ca))] = ((48 : Int), catT (partsL ss ca)) :: [] := rfl
    unfold tailS
    simp only [x0, inR_cons _ o2, x1, inR_cons _ o1]
    rw [if_pos ⟨trivial, by simp⟩]
    exact hb
/-- What the specification reads of a paper. -/
noncomputable def certSP (s : ByteArray) : Paper :=
  let r := (inR (openR s).1 (openR s).2 48).1
  let b := inR r.1 r.2 48
  let z := (inR b.1.1 b.1.2 160).2
  let x := numR z.1 z.2
  let a := takeR x.2.1 x.2.2 48
  let i := nameR a.2.1 a.2.2
  let v := inR i.2.1 i.2.2 48
  let f := numR v.1.1 v.1.2
  let t := numR f.2.1 f.2.2
  let u := nameR v.2.1 v.2.2
  let k := inR u.2.1 u.2.2 48
  let d := takeR k.1.1 k.1.2 48
  let q := bitsQ (takeR d.2.1 d.2.2 3).1 1 1
  let m := tailS k.2.1 k.2.2
  let g := takeR b.2.1 b.2.2 48
  let n := bitsQ (takeR g.2.1 g.2.2 3).1 3 1
  ⟨x.1, i.1, u.1, f.1, t.1, q.getD 0 0, m.1, m.2, n.getD 0 0, n.getD 1 0, n.getD 2 0⟩
theorem int2_ok : ThingsOk [(2, strOfNums (intL 2))] := by
  have h := intD_le 2
  refine things_ok (fun q hq => ?_) (by simp) ?_
  · obtain rfl := List.mem_singleton.1 hq
    exact tag2
  · rw [catT_one]
    show (intD 2).size ≤ _
    omega
theorem int2_cat : intD 2 = catT [(2, strOfNums (intL 2))] := by rw [catT_one]; rfl
theorem certSP_back {c : Paper} (h : certB c = true) : certSP (bytesD c) = c := by
  have hf := paper_fits (certB_paper h)
  have hsig : sigRB c.sk c.se c.ss = true := by
    unfold certB at h
    rw [Bool.and_eq_true] at h
    exact h.2
  obtain ⟨s0, s1, s2⟩ := sigRB_lt hsig
  obtain ⟨o2, hz2⟩ := body2_ok hf
  have o1 := body_ok hf
  have o3 : ThingsOk [(48, catT (bodyL2 c))] := seq_ok (by omega)
  have ht := sigT_le c.sk c.se c.ss
  have n2 := (rowN_zero (zs := [c.sk, c.se, c.ss]) (fun n hn => by simp at hn; rcases hn with rfl | rfl | rfl <;> omega) (by rw [← sigT_row]; omega)).2
  rw [← sigT_row] at n2
  have hk := putS_size c.key
  have k0 := hf.key0
  have k1 := hf.key1
  have n1 := (rowN_zero (zs := [c.key]) (fun n hn => by simp at hn; subst hn; omega) (by rw [← key_row, ByteArray.size_append, one_size]; omega)).2
  have e0 := hf.ser0
  have e1 := hf.ser1
  have e2 := hf.fr0
  have e3 := hf.fr1
  have e4 := hf.till0
  have e5 := hf.till1
  have x0 : openR (bytesD c) = (((48 : Int), catT (bodyL2 c)) :: [], false) := by rw [bytesD_cat, openR_cat o3]; rfl
  have x1 : asI (bodyL2 c) = ((48 : Int), catT (bodyL c)) :: ((48 : Int), catT kindL) :: ((3 : Int), sigT c.sk c.se c.ss) :: [] := rfl
  have x2 : asI (bodyL c) = ((160 : Int), catT [(2, strOfNums (intL 2))]) :: ((2 : Int), strOfNums (intL c.serial)) :: ((48 : Int), catT kindL) :: ((48 : Int), catT (nameL c.issuer)) :: ((48 : Int), catT (timesL c.fr c.till)) :: ((48 : Int), catT (nameL c.subject)) :: ((48 : Int), catT (keyLs c.key)) :: asI (morePL c.names c.ca) := by
    rw [← int2_cat]
    rfl
  have x3 : asI (timesL c.fr c.till) = ((2 : Int), strOfNums (intL c.fr)) :: ((2 : Int), strOfNums (intL c.till)) :: [] := rfl
  have x4 : asI (keyLs c.key) = ((48 : Int), catT kindL) :: ((3 : Int), ⟨#[0]⟩ ++ rowN [c.key]) :: [] := rfl
  have n1' : bitsQ (⟨#[0]⟩ ++ rowN [c.key]) 1 1 = [c.key] := n1
  have n2' : bitsQ (sigT c.sk c.se c.ss) 3 1 = [c.sk, c.se, c.ss] := n2
  unfold certSP
  simp only [x0, inR_cons _ o2, x1, inR_cons _ o1, x2, inR_cons _ int2_ok, takeR_cons, nameR_cons hf.iss, nameR_cons hf.sub, inR_cons _ (times_ok _ _), x3, inR_cons _ (key_ok _), x4,
    numR_cons (n := c.serial) (by omega) (by omega), numR_cons (n := c.fr) (by omega) (by omega), numR_cons (n := c.till) (by omega) (by omega), n1', n2', tailS_back hf.len hf.each, List.getD_cons_zero, List.getD_cons_succ]
end Go.Proofs.YtkhdjmjbdpmdnaaGreatDoor
namespace Go.Proofs.YtkhdjmjbdpmdnaaGreatDoor
open Go.RowKit

/-- What the specification tells of a text. -/
noncomputable def certS (s : ByteArray) : Paper × Int :=
  if 20000 < s.size then (zeroPaper, 2) else if s.size = 0 ∨ certBytesD (certSP s) ≠ s then (zeroPaper, 3) else (certSP s, 0)
theorem certR_eq (s : ByteArray) : certR s = certS s := by
  unfold certR certS
  by_cases hl : 20000 < s.size
  · rw [if_pos hl, if_pos hl]
  rw [if_neg hl, if_neg hl]
  by_cases h1 : certB (readP s) = true ∧ certBytesD (readP s) = s
  · have hb : bytesD (readP s) = s := by
      have h2 := h1.2
      unfold certBytesD at h2
      rw [if_pos h1.1] at h2
      exact h2
    have he : certSP s = readP s := by
      have := certSP_back h1.1
      rw [hb] at this
      exact this
    have hz : s.size ≠ 0 := by
      have := thing_pos 48 (bodyD (readP s) ++ (kindD ++ sigD (readP s).sk (readP s).se (readP s).ss))
      have h2 : s = thingD 48 (bodyD (readP s) ++ (kindD ++ sigD (readP s).sk (readP s).se (readP s).ss)) := hb.symm
      rw [← h2] at this
      omega
    rw [if_pos h1, he, if_neg]
    rintro (h | h)
    · exact hz h
    · exact h h1.2
  · rw [if_neg h1, if_pos]
    by_cases hz : s.size = 0
    · exact .inl hz
    refine .inr (fun h2 => ?_)
    by_cases hb : certB (certSP s) = true
    · have h3 := h2
      unfold certBytesD at h3
      rw [if_pos hb] at h3
      have he : readP s = certSP s := by
        have := readP_back hb
        rw [h3] at this
        exact this
      rw [← he] at hb h2
      exact h1 ⟨hb, h2⟩
    · unfold certBytesD at h2
      rw [if_neg hb] at h2
      rw [← h2] at hz
      exact hz rfl
theorem certS_fit (s : ByteArray) : (certS s).1.names.length ≤ 1048576 ∧ totS (certS s).1.names (certS s).1.names.length ≤ 1048576 := by
  rw [← certR_eq]
  have h := readP_names s
  unfold certR
  split
  · exact ⟨Nat.zero_le _, Nat.zero_le _⟩
  · split
    · exact h
    · exact ⟨Nat.zero_le _, Nat.zero_le _⟩
theorem certS_texts (s : ByteArray) : (certS s).1.issuer.size ≤ maxLen ∧ (certS s).1.subject.size ≤ maxLen := by
  rw [← certR_eq]
  have h := readP_texts s
  unfold certR
  split
  · exact ⟨Nat.zero_le _, Nat.zero_le _⟩
  · split
    · exact h
    · exact ⟨Nat.zero_le _, Nat.zero_le _⟩
end Go.Proofs.YtkhdjmjbdpmdnaaGreatDoor
namespace Go.Proofs.YtkhdjmjbdpmdnaaGreatDoor
open Go.RowKit

noncomputable def goodB (k : Int) (c : Paper) : Bool := certB c && decide (k = c.sk) && sigCB c.sk c.se c.ss (bodyD c)
end Go.Proofs.YtkhdjmjbdpmdnaaGreatDoor
namespace Go.Proofs.YtkhdjmjbdpmdnaaGreatDoor
open Go.RowKit

theorem certS_back {c : Paper} (h : certB c = true) (hz : (bytesD c).size ≤ 20000) : certS (certBytesD c) = (c, 0) := by
  have e : certBytesD c = bytesD c := if_pos h
  rw [← certR_eq, e]
  unfold certR
  rw [if_neg (by omega), readP_back h, if_pos ⟨h, e⟩]
theorem certS_told {u : ByteArray} (h : (certS u).2 = 0) : certBytesD (certS u).1 = u := by
  unfold certS at *
  by_cases h1 : 20000 < u.size
  · rw [if_pos h1] at h; cases h
  rw [if_neg h1] at h ⊢
  by_cases h2 : u.size = 0 ∨ certBytesD (certSP u) ≠ u
  · rw [if_pos h2] at h; cases h
  · rw [if_neg h2]
    by_cases h3 : certBytesD (certSP u) = u
    · exact h3
    · exact absurd (.inr h3) h2
theorem totS_forty {ss : List ByteArray} (h : ∀ i, i < ss.length → (tAt ss i).size ≤ 40) : ∀ k, k ≤ ss.length → totS ss k ≤ 40 * k
  | 0, _ => Nat.le_refl _
  | k + 1, hk => by
    have h1 := totS_forty h k (by omega)
    have h2 := h k (by omega)
    show totS ss k + (tAt ss k).size ≤ _
    omega
/-- What is read of a text, where it is read, is not large. -/
theorem certS_sizes {u : ByteArray} (h : (certS u).2 = 0) : (certS u).1.issuer.size ≤ 40 ∧ (certS u).1.subject.size ≤ 40 ∧ (certS u).1.names.length ≤ 1048576 ∧ totS (certS u).1.names (certS u).1.names.length ≤ 1048576 := by
  have hb : certB (certS u).1 = true := by
    by_cases hc : certB (certS u).1 = true
    · exact hc
    · exfalso
      have h1 := certS_told h
      rw [certBytesD, if_neg hc] at h1
      rw [← h1] at h
      unfold certS at h
      rw [if_neg (by decide), if_pos (.inl rfl)] at h
      cases h
  have hp := paper_fits (certB_paper hb)
  have h1 := totS_forty hp.each _ (Nat.le_refl _)
  have h2 := hp.len
  exact ⟨hp.iss, hp.sub, by omega, by omega⟩
/-- What CertSign tells is nothing, or a good paper. -/
theorem signP_good {x k e s : Int} {c : Paper} (hv : signV x (bodyD c) = .agg #[.int .i64 k, .int .i64 e, .int .i64 s]) :
    (signP x c k e s).serial = 0 ∨ (certB (signP x c k e s) = true ∧ goodB (pubA x) (signP x c k e s) = true ∧ certBodyD (signP x c k e s) = certBodyD c) := by
  by_cases hh : secB x = true ∧ paperB c = true
  · right
    obtain ⟨h1, h2⟩ := hh
    rw [signP_yes h1 h2]
    obtain ⟨n, rfl, n1, n2⟩ := secB_nat h1
    have ht : (bodyD c).size ≤ 20000 := by have := bodyD_le (paper_fits h2); omega
    have hp := sign_passes (t := bodyD c) n1 n2 ht
    rw [signV_nat ht h1] at hv
    simp [sigV] at hv
    obtain ⟨rfl, rfl, rfl⟩ := hv
    have hb : bodyD ⟨c.serial, c.issuer, c.subject, c.fr, c.till, c.key, c.names, c.ca, ((pm 4 n 2147483579 : Nat) : Int), ((signE n (bodyD c) : Nat) : Int), ((signS n (bodyD c) : Nat) : Int)⟩ = bodyD c := rfl
    have hpp : paperB ⟨c.serial, c.issuer, c.subject, c.fr, c.till, c.key, c.names, c.ca, ((pm 4 n 2147483579 : Nat) : Int), ((signE n (bodyD c) : Nat) : Int), ((signS n (bodyD c) : Nat) : Int)⟩ = paperB c := rfl
    have hcb : certB ⟨c.serial, c.issuer, c.subject, c.fr, c.till, c.key, c.names, c.ca, ((pm 4 n 2147483579 : Nat) : Int), ((signE n (bodyD c) : Nat) : Int), ((signS n (bodyD c) : Nat) : Int)⟩ = true := by
      unfold certB
      rw [hpp, h2]
      simpa using hp.1
    refine ⟨hcb, ?_, ?_⟩
    · unfold goodB
      rw [hcb, hb, pubA_nat n h1]
      simp only [decide_true, Bool.true_and]
      exact hp.2
    · unfold certBodyD
      rw [hpp, hb]
  · left
    have e : signP x c k e s = zeroP := if_neg hh
    rw [e]
    rfl
end Go.Proofs.YtkhdjmjbdpmdnaaGreatDoor
namespace Go.Proofs.YtkhdjmjbdpmdnaaGreatDoor
open Go.RowKit

theorem csr_back {c : Ask} (h : askR c = true) (hz : (askY c).size ≤ 20000) : csrS (csrBytesD c) = (c, 0) := by
  have e : csrBytesD c = askY c := if_pos h
  have hf : formB c = true := by unfold askR at h; rw [Bool.and_eq_true] at h; exact h.1
  rw [e]
  unfold csrS
  rw [if_neg (by omega), askS_back hf, if_pos ⟨hf, rfl⟩, if_pos h]
theorem csr_told {u : ByteArray} (h : (csrS u).2 = 0) : csrBytesD (csrS u).1 = u := by
  unfold csrS at *
  by_cases h1 : 20000 < u.size
  · rw [if_pos h1] at h; cases h
  rw [if_neg h1] at h ⊢
  by_cases h2 : formB (askS u) = true ∧ askY (askS u) = u
  · rw [if_pos h2] at h ⊢
    by_cases h3 : askR (askS u) = true
    · rw [if_pos h3]
      show csrBytesD (askS u) = u
      rw [csrBytesD, if_pos h3]
      exact h2.2
    · rw [if_neg h3] at h; cases h
  · rw [if_neg h2] at h; cases h
theorem csrS_sizes (u : ByteArray) : (csrS u).1.names.length ≤ 1048576 ∧ totS (csrS u).1.names (csrS u).1.names.length ≤ 1048576 := by
  have h := askS_fit u
  have h0 : (zeroA.names.length ≤ 1048576 ∧ totS zeroA.names zeroA.names.length ≤ 1048576) := ⟨Nat.zero_le _, Nat.zero_le _⟩
  unfold csrS
  split
  · exact h0
  · split
    · split
      · exact h
      · exact h0
    · exact h0
/-- What CsrSign tells is nothing, or a right paper. -/
theorem signA_good {x k e s : Int} {ns : List ByteArray} (hv : signV x (askD (askO x ns)) = .agg #[.int .i64 k, .int .i64 e, .int .i64 s]) :
    (signA x ns k e s).key = 0 ∨ (askR (signA x ns k e s) = true ∧ (signA x ns k e s).names = ns) := by
  by_cases hh : askOk x ns = true
  · right
    rw [signA_yes hh]
    have h1 : secB x = true := by unfold askOk at hh; simp only [Bool.and_eq_true] at hh; exact hh.1.1
    have hq : namesB ns = true ∧ 0 < ns.length := by unfold askOk at hh; simp only [Bool.and_eq_true, decide_eq_true_eq] at hh; exact ⟨hh.1.2, hh.2⟩
    obtain ⟨n, rfl, n1, n2⟩ := secB_nat h1
    have hb : askB (askO (n : Int) ns) = true := by rw [askOk_ask h1]; simp [hq.1, hq.2]
    have ht : (askD (askO (n : Int) ns)).size ≤ 20000 := by have := askD_le hb; omega
    have hp := sign_passes (t := askD (askO (n : Int) ns)) n1 n2 ht
    have hkk := signV_key h1 ht hv
    rw [signV_nat ht h1] at hv
    simp [sigV] at hv
    obtain ⟨rfl, rfl, rfl⟩ := hv
    refine ⟨?_, rfl⟩
    have ha : askB ⟨pubA (n : Int), ns, ((pm 4 n 2147483579 : Nat) : Int), ((signE n (askD (askO (n : Int) ns)) : Nat) : Int), ((signS n (askD (askO (n : Int) ns)) : Nat) : Int)⟩ = true := hb
    unfold askR formB
    rw [ha]
    simp only [Bool.true_and]
    rw [Bool.and_eq_true, Bool.and_eq_true]
    exact ⟨⟨hp.1, by simpa using hkk⟩, hp.2⟩
  · left
    rw [signA_no (by simpa using hh)]
    rfl
theorem listY_small {c : Lst} (h : crlB c = true) : (listY c).size ≤ 20000 := by
  have := crlBytes_small (c := c)
  rw [crlBytesD, if_pos h] at this
  exact this
theorem crl_back {c : Lst} (h : crlB c = true) : crlS (crlBytesD c) = (c, 0) := by
  have e : crlBytesD c = listY c := if_pos h
  have hz := listY_small h
  have hp : 0 < (listY c).size := thing_pos 48 _
  rw [e]
  unfold crlS
  rw [if_neg (by omega), listS_back h, if_neg]
  rintro (h' | h')
  · omega
  · exact h' e
theorem crl_told {u : ByteArray} (h : (crlS u).2 = 0) : crlBytesD (crlS u).1 = u := by
  unfold crlS at *
  by_cases h1 : 20000 < u.size
  · rw [if_pos h1] at h; cases h
  rw [if_neg h1] at h ⊢
  by_cases h2 : u.size = 0 ∨ crlBytesD (listS u) ≠ u
  · rw [if_pos h2] at h; cases h
  · rw [if_neg h2]
    by_cases h3 : crlBytesD (listS u) = u
    · exact h3
    · exact absurd (.inr h3) h2
/-- What is read of a text, where it is read, is not large. -/
theorem crlS_sizes {u : ByteArray} (h : (crlS u).2 = 0) : (crlS u).1.issuer.size ≤ 40 := by
  have hb : crlB (crlS u).1 = true := by
    by_cases hc : crlB (crlS u).1 = true
    · exact hc
    · exfalso
      have h1 := crl_told h
      rw [crlBytesD, if_neg hc] at h1
      rw [← h1] at h
      unfold crlS at h
      rw [if_neg (by decide), if_pos (.inl rfl)] at h
      cases h
  have hl : listB (crlS u).1 = true := by unfold crlB at hb; rw [Bool.and_eq_true] at hb; exact hb.1
  exact (list_fits hl).iss
/-- What CrlSign tells is nothing, or a good list. -/
theorem signL_good {x k e s : Int} {c : Lst} (hv : signV x (listD c) = .agg #[.int .i64 k, .int .i64 e, .int .i64 s]) :
    (signL x c k e s).issuer.size = 0 ∨ (crlB (signL x c k e s) = true ∧ crlGoodB (pubA x) (signL x c k e s) = true ∧ (signL x c k e s).serials = c.serials) := by
  by_cases hh : secB x = true ∧ listB c = true
  · right
    have eq1 : signL x c k e s = ⟨c.issuer, c.fr, c.till, c.serials, k, e, s⟩ := if_pos hh
    obtain ⟨h1, h2⟩ := hh
    rw [eq1]
    obtain ⟨n, rfl, n1, n2⟩ := secB_nat h1
    have ht : (listD c).size ≤ 20000 := by have := listD_le (list_fits h2); omega
    have hp := sign_passes (t := listD c) n1 n2 ht
    have hkk := signV_key h1 ht hv
    rw [signV_nat ht h1] at hv
    simp [sigV] at hv
    obtain ⟨rfl, rfl, rfl⟩ := hv
    have hlb : listB ⟨c.issuer, c.fr, c.till, c.serials, ((pm 4 n 2147483579 : Nat) : Int), ((signE n (listD c) : Nat) : Int), ((signS n (listD c) : Nat) : Int)⟩ = true := h2
    have hcb : crlB ⟨c.issuer, c.fr, c.till, c.serials, ((pm 4 n 2147483579 : Nat) : Int), ((signE n (listD c) : Nat) : Int), ((signS n (listD c) : Nat) : Int)⟩ = true := by
      unfold crlB
      rw [hlb]
      simpa using hp.1
    refine ⟨hcb, ?_, rfl⟩
    unfold crlGoodB
    rw [hcb]
    simp only [Bool.true_and]
    rw [Bool.and_eq_true]
    exact ⟨by simpa using hkk, hp.2⟩
  · left
    have e : signL x c k e s = zeroL := if_neg hh
    rw [e]
    rfl
end Go.Proofs.YtkhdjmjbdpmdnaaGreatDoor
namespace Go.Proofs.YtkhdjmjbdpmdnaaGreatDoor
open Go.RowKit

/-- The variables 'not right', 'other key', 'no check' hold errors, the last one another than the first two. -/
def Err3 (w : World) : Prop := ∃ b1 b2 b0, ErrV 1 w b1 ∧ ErrV 2 w b2 ∧ ErrV 0 w b0 ∧ b1 ≠ b0 ∧ b2 ≠ b0
theorem Err3.keep {w w' : World} (h : Err3 w) (hb : Below w.heap.size w w') : Err3 w' := by
  obtain ⟨b1, b2, b0, h1, h2, h0, n1, n2⟩ := h
  exact ⟨b1, b2, b0, h1.keep hb, h2.keep hb, h0.keep hb, n1, n2⟩
end Go.Proofs.YtkhdjmjbdpmdnaaGreatDoor
namespace Go.Proofs.YtkhdjmjbdpmdnaaGreatDoor
open Go.ChangeShapes Go.WideShapes Go.ChangeAt Go.RowKit

theorem key_gv : Tryz.prog.globalNamed "loop.example/g00371/impl.roundNumbers" = some 5 := by kernel_rfl
theorem key_gt : (Tryz.prog.globals[5]?).map (·.type) = some 250 := by kernel_rfl
theorem key_c : Tryz.prog.cellsOf 202 = 1 := by kernel_rfl
theorem keyLaid {H : Type} : (Rows.laid_loop_example_g00371_impl_roundNumbers : DataW H) = .agg (keyL.map fun n : Nat => .lit (.int .u32 (n : Int))) := rfl
theorem key_num (k : Nat) (h : k < 64) : ((keyL.getD k 0 : Nat) : Int) = uI (kAt k) := by
  have hl : k < keyL.length := h
  have hb : ∀ n ∈ keyL, n < 4294967296 := by decide
  have := hb _ (List.getElem_mem hl)
  unfold kAt uI
  rw [BitVec.toNat_ofNat, List.getD, List.getElem?_eq_getElem hl]
  simp only [Option.getD_some]
  rw [Nat.mod_eq_of_lt (by simpa using this)]
theorem keys_of_trod {W : World} {enc : TypeId × Value → Unit} {base g0 : Nat} {sp : Nat → Bool} {t0 : TypeId} {cs0 : Array Value} {f0 : Nat} {p0 : List MemPlace}
    (hg0 : Tryz.prog.globalNamed "loop.example/g00371/impl.roundNumbers" = some g0) (ht0 : (Tryz.prog.globals[g0]?).map (·.type) = some t0) (hv0 : W.var? Tryz.prog "loop.example/g00371/impl.roundNumbers" = some cs0)
    (hd0 : DataW.trod enc Tryz.prog W base sp false f0 t0 cs0.toList = some (Rows.laid_loop_example_g00371_impl_roundNumbers, p0)) : Keys W := by
  obtain rfl := Option.some.inj (key_gv.symm.trans hg0)
  obtain rfl := Option.some.inj (key_gt.symm.trans ht0)
  obtain ⟨xs, m1, rfl, hx1, hlen, hn, hel⟩ := DataW.trod_array Tryz.underlying250 hd0
  rw [keyLaid] at hx1
  simp only [Prod.mk.injEq, DataW.agg.injEq] at hx1
  intro i hi
  have h1 := hel i hi
  have hxi : i < xs.length := by omega
  rw [List.getElem?_eq_getElem hxi] at h1
  obtain ⟨k, e1, e2, _⟩ := DataW.trod_int Tryz.underlying202 h1
  have h2 : xs[i].1 = .lit (.int .u32 (uI (kAt i))) := by
    have h3 : (xs.map (·.1))[i]? = (keyL.map fun n : Nat => DataW.lit (.int .u32 (n : Int)))[i]? := by rw [← hx1.1]
    rw [List.getElem?_map, List.getElem?_map, List.getElem?_eq_getElem hxi, List.getElem?_eq_getElem (show i < keyL.length from hi)] at h3
    have h4 : xs[i].1 = _ := Option.some.inj h3
    rw [h4, ← key_num i hi, List.getD, List.getElem?_eq_getElem (show i < keyL.length from hi)]
    rfl
  rw [e2] at h2
  have hk : k = uI (kAt i) := by simpa using h2
  subst hk
  have hc := World.var?_cell hg0 hv0 i
  rw [hc]
  rw [key_c, Nat.mul_one] at e1
  have h5 := congrArg (fun l => l[0]?) e1
  simp only [List.getElem?_take, List.getElem?_drop] at h5
  simpa using h5
theorem keys_of_laid {W : World} (h : laidMetH Tryz.prog [("loop.example/g00371/impl.roundNumbers", Rows.laid_loop_example_g00371_impl_roundNumbers)] W) : Keys W := by
  rw [MakeChecks.laidMetH_plain _ _ _ (by kernel_rfl)] at h
  obtain ⟨ps, ⟨g0, t0, cs0, f0, p0, q0, hg0, ht0, hv0, hd0, _⟩, _⟩ := h
  exact keys_of_trod hg0 ht0 hv0 hd0
end Go.Proofs.YtkhdjmjbdpmdnaaGreatDoor
