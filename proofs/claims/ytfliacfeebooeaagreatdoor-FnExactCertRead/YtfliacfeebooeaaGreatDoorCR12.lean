/- Papers come back when they are read: their parts as they lie. Plain mathematics: no program is named here. What the specification's readers read of a list that was laid. Plain mathematics: no program is named here. What the specification's readers read of a paper that was laid. Plain mathematics: no program is named here. The names that the specification's readers gather stay within bounds. Plain mathematics: no program is named here. -/
import Derived.Test.YtfliacfeebooeaaGreatDoorCR11
import Derived.Test.YtfliacfeebooeaaGreatDoorCR08
import Derived.Test.YtfliacfeebooeaaGreatDoorCR04
import Derived.Test.YtfliacfeebooeaaGreatDoorCR10
namespace Go.Proofs.YtfliacfeebooeaaGreatDoor
open Go.RowKit

def oidB (l : List Int) : ByteArray := strOfNums (oidL l)
def kindL : List (Nat × ByteArray) := [(6, oidB [1, 3, 101, 112])]
def timesL (a b : Int) : List (Nat × ByteArray) := [(2, strOfNums (intL a)), (2, strOfNums (intL b))]
def keyL (k : Int) : List (Nat × ByteArray) := [(48, catT kindL), (3, ⟨#[0]⟩ ++ rowN [k])]
def hostsL (ss : List ByteArray) : List (Nat × ByteArray) := [(48, hostsD ss ss.length)]
def namePL (ss : List ByteArray) : List (Nat × ByteArray) := [(6, oidB [2, 5, 29, 17]), (4, catT (hostsL ss))]
def caPL : List (Nat × ByteArray) := [(6, oidB [2, 5, 29, 19]), (1, ⟨#[255]⟩), (4, catT [(48, soD)])]
def partsL (ss : List ByteArray) (ca : Bool) : List (Nat × ByteArray) := (if ss.length = 0 then [] else [(48, catT (namePL ss))]) ++ (if ca = true then [(48, catT caPL)] else [])
def morePL (ss : List ByteArray) (ca : Bool) : List (Nat × ByteArray) := if (partsL ss ca).length = 0 then [] else [(163, catT [(48, catT (partsL ss ca))])]
def bodyL (c : Paper) : List (Nat × ByteArray) :=
  [(160, intD 2), (2, strOfNums (intL c.serial)), (48, catT kindL), (48, catT (nameL c.issuer)), (48, catT (timesL c.fr c.till)), (48, catT (nameL c.subject)), (48, catT (keyL c.key))] ++ morePL c.names c.ca
def bodyL2 (c : Paper) : List (Nat × ByteArray) := [(48, catT (bodyL c)), (48, catT kindL), (3, sigT c.sk c.se c.ss)]
theorem kindD_cat : kindD = thingD 48 (catT kindL) := by rw [kindL, catT_one]; rfl
theorem namesD_cat (ss : List ByteArray) : namesD ss = catT (if ss.length = 0 then [] else [(48, catT (namePL ss))]) := by
  unfold namesD
  by_cases h : ss.length = 0
  · rw [if_pos h, if_pos h]; rfl
  · rw [if_neg h, if_neg h, catT_one, namePL, catT_cons, catT_one, hostsL, catT_one]
    rfl
theorem caD_cat (ca : Bool) : caD ca = catT (if ca = true then [(48, catT caPL)] else []) := by
  cases ca with
  | false => rfl
  | true =>
    rw [if_pos rfl, catT_one, caPL, catT_cons, catT_cons, catT_one, catT_one]
    rfl
theorem parts_cat (ss : List ByteArray) (ca : Bool) : namesD ss ++ caD ca = catT (partsL ss ca) := by
  rw [namesD_cat, caD_cat, partsL, catT_app]
theorem partsL_size (ss : List ByteArray) (ca : Bool) : (catT (partsL ss ca)).size = 0 ↔ (partsL ss ca).length = 0 := by
  constructor
  · intro h
    have := catT_len (partsL ss ca)
    omega
  · intro h
    rw [List.eq_nil_of_length_eq_zero h]
    rfl
theorem moreD_cat (ss : List ByteArray) (ca : Bool) : moreD ss ca = catT (morePL ss ca) := by
  unfold moreD moreT morePL
  rw [parts_cat]
  by_cases h : (partsL ss ca).length = 0
  · rw [if_pos ((partsL_size ss ca).2 h), if_pos h]; rfl
  · rw [if_neg (fun h' => h ((partsL_size ss ca).1 h')), if_neg h, catT_one, catT_one]
    rfl
theorem bodyX_cat (c : Paper) : thingD 160 (intD 2) ++ (intD c.serial ++ (kindD ++ (nameD c.issuer ++ (seqD (intD c.fr ++ intD c.till) ++ (nameD c.subject ++ (keyD c.key ++ moreD c.names c.ca)))))) = catT (bodyL c) := by
  rw [bodyL, catT_app, ← moreD_cat, catT_cons, catT_cons, catT_cons, catT_cons, catT_cons, catT_cons, catT_one]
  unfold keyD
  rw [nameD_cat, nameD_cat, kindD_cat, timesL, catT_cons, catT_one, keyL, catT_cons, catT_one, key_row]
  simp only [ByteArray.append_assoc]
  rfl
theorem bodyD_cat (c : Paper) : bodyD c = thingD 48 (catT (bodyL c)) := by
  rw [← bodyX_cat]
  rfl
theorem bytesD_cat (c : Paper) : bytesD c = catT [(48, catT (bodyL2 c))] := by
  rw [catT_one, bodyL2, catT_cons, catT_cons, catT_one]
  unfold bytesD
  rw [bodyD_cat, kindD_cat]
  rfl
theorem mem_le : ∀ {l : List (Nat × ByteArray)} {q : Nat × ByteArray}, q ∈ l → q.2.size ≤ (catT l).size
  | p :: r, q, h => by
    rw [catT, ByteArray.size_append]
    rcases List.mem_cons.1 h with rfl | h
    · have := thingD_size (q.1 : Int) q.2
      omega
    · have := mem_le h
      omega
theorem things_ok {l : List (Nat × ByteArray)} (ht : ∀ q ∈ l, tagB (q.1 : Int) = true) (hl : l.length ≤ 60) (hs : (catT l).size ≤ 4000) : ThingsOk l :=
  ⟨fun q hq => ⟨ht q hq, Nat.le_trans (mem_le hq) hs⟩, hl, by omega⟩
theorem body_size {c : Paper} (h : PFits c) : (catT (bodyL c)).size ≤ 800 := by
  have a1 := thingD_le 160 (intD 2)
  have a2 := intD_le 2
  have a3 := intD_le c.serial
  have a4 := kindD_le
  have a5 := nameD_le c.issuer
  have a6 := nameD_le c.subject
  have a7 := seqD_le (intD c.fr ++ intD c.till)
  have a8 := intD_le c.fr
  have a9 := intD_le c.till
  have b1 := keyD_le c.key
  have b2 := moreD_le h.len h.each c.ca
  have b3 := h.iss
  have b4 := h.sub
  rw [← bodyX_cat]
  simp only [ByteArray.size_append] at a7 ⊢
  omega
theorem tags_more (ss : List ByteArray) (ca : Bool) : ∀ q ∈ morePL ss ca, tagB (q.1 : Int) = true := by
  unfold morePL
  split
  · simp
  · intro q hq
    obtain rfl := List.mem_singleton.1 hq
    exact tag163
theorem body_ok {c : Paper} (h : PFits c) : ThingsOk (bodyL c) := by
  have hs := body_size h
  refine things_ok (fun q hq => ?_) ?_ (by omega)
  · unfold bodyL at hq
    rcases List.mem_append.1 hq with hq | hq
    · simp only [List.mem_cons, List.not_mem_nil, or_false] at hq
      rcases hq with rfl | rfl | rfl | rfl | rfl | rfl | rfl
      · exact tag160
      · exact tag2
      · exact tag48
      · exact tag48
      · exact tag48
      · exact tag48
      · exact tag48
    · exact tags_more _ _ q hq
  · unfold bodyL morePL
    split <;> simp
theorem body2_ok {c : Paper} (h : PFits c) : ThingsOk (bodyL2 c) ∧ (catT (bodyL2 c)).size ≤ 1000 := by
  have h1 := body_size h
  have h2 := thingD_le 48 (catT (bodyL c))
  have h3 := kindD_le
  have h4 := thingD_le 3 (sigT c.sk c.se c.ss)
  have h5 := sigT_le c.sk c.se c.ss
  have hs : (catT (bodyL2 c)).size ≤ 1000 := by
    rw [kindD_cat] at h3
    rw [bodyL2, catT_cons, catT_cons, catT_one, ByteArray.size_append, ByteArray.size_append]
    show (thingD 48 _).size + ((thingD 48 _).size + (thingD 3 _).size) ≤ _
    omega
  refine ⟨things_ok (fun q hq => ?_) (by simp [bodyL2]) (by omega), hs⟩
  unfold bodyL2 at hq
  simp only [List.mem_cons, List.not_mem_nil, or_false] at hq
  rcases hq with rfl | rfl | rfl
  · exact tag48
  · exact tag48
  · exact tag3
theorem times_ok (a b : Int) : ThingsOk (timesL a b) := by
  have h1 := intD_le a
  have h2 := intD_le b
  have hs : (catT (timesL a b)).size ≤ 24 := by
    rw [timesL, catT_cons, catT_one, ByteArray.size_append]
    show (intD a).size + (intD b).size ≤ _
    omega
  refine things_ok (fun q hq => ?_) (by simp [timesL]) (by omega)
  unfold timesL at hq
  simp only [List.mem_cons, List.not_mem_nil, or_false] at hq
  rcases hq with rfl | rfl <;> exact tag2
theorem key_ok (k : Int) : ThingsOk (keyL k) := by
  have h1 := kindD_le
  rw [kindD_cat] at h1
  have h2 := askK_le k
  rw [key_row] at h2
  have hs : (catT (keyL k)).size ≤ 80 := by
    rw [keyL, catT_cons, catT_one, ByteArray.size_append]
    show (thingD 48 _).size + (thingD 3 _).size ≤ _
    omega
  refine things_ok (fun q hq => ?_) (by simp [keyL]) (by omega)
  unfold keyL at hq
  simp only [List.mem_cons, List.not_mem_nil, or_false] at hq
  rcases hq with rfl | rfl
  · exact tag48
  · exact tag3
theorem parts_size {ss : List ByteArray} (h : ss.length ≤ 5) (h' : ∀ i, i < ss.length → (tAt ss i).size ≤ 40) (ca : Bool) : (catT (partsL ss ca)).size ≤ 370 := by
  have h1 := namesD_le h h'
  have h2 := caD_le ca
  rw [← parts_cat, ByteArray.size_append]
  omega
theorem tags_parts (ss : List ByteArray) (ca : Bool) : ∀ q ∈ partsL ss ca, tagB (q.1 : Int) = true := by
  intro q hq
  unfold partsL at hq
  rcases List.mem_append.1 hq with hq | hq
  · split at hq
    · simp at hq
    · obtain rfl := List.mem_singleton.1 hq
      exact tag48
  · split at hq
    · obtain rfl := List.mem_singleton.1 hq
      exact tag48
    · simp at hq
theorem parts_ok {ss : List ByteArray} (h : ss.length ≤ 5) (h' : ∀ i, i < ss.length → (tAt ss i).size ≤ 40) (ca : Bool) : ThingsOk (partsL ss ca) ∧ ThingsOk [(48, catT (partsL ss ca))] := by
  have h1 := parts_size h h' ca
  refine ⟨things_ok (tags_parts ss ca) ?_ (by omega), seq_ok (by omega)⟩
  unfold partsL
  rw [List.length_append]
  split <;> split <;> simp
theorem names_ok {ss : List ByteArray} (h : ss.length ≤ 5) (h' : ∀ i, i < ss.length → (tAt ss i).size ≤ 40) : ThingsOk (namePL ss) ∧ ThingsOk (hostsL ss) := by
  have h1 := hostsD_le (ss := ss) ss.length h'
  have hh : (catT (hostsL ss)).size ≤ 260 := by
    have := thingD_le 48 (hostsD ss ss.length)
    rw [hostsL, catT_one]
    show (thingD 48 _).size ≤ _
    omega
  have ho : (thingD 6 (oidB [2, 5, 29, 17])).size ≤ 49 := arcs_lit arcs17
  have hs : (catT (namePL ss)).size ≤ 400 := by
    have := thingD_le 4 (catT (hostsL ss))
    rw [namePL, catT_cons, catT_one, ByteArray.size_append]
    show (thingD 6 _).size + (thingD 4 _).size ≤ _
    omega
  refine ⟨things_ok (fun q hq => ?_) (by simp [namePL]) (by omega), things_ok (fun q hq => ?_) (by simp [hostsL]) (by omega)⟩
  · unfold namePL at hq
    simp only [List.mem_cons, List.not_mem_nil, or_false] at hq
    rcases hq with rfl | rfl
    · exact tag6
    · exact tag4
  · obtain rfl := List.mem_singleton.1 hq
    exact tag48
theorem ca_ok : ThingsOk caPL := by
  have h1 := caT_le
  have e : caT = thingD 48 (catT caPL) := by rw [caPL, catT_cons, catT_cons, catT_one, catT_one]; rfl
  rw [e, thingD_size] at h1
  refine things_ok (fun q hq => ?_) (by simp [caPL]) (by omega)
  unfold caPL at hq
  simp only [List.mem_cons, List.not_mem_nil, or_false] at hq
  rcases hq with rfl | rfl | rfl
  · exact tag6
  · exact tag1
  · exact tag4
end Go.Proofs.YtfliacfeebooeaaGreatDoor
namespace Go.Proofs.YtfliacfeebooeaaGreatDoor
open Go.RowKit

theorem nameR_cons {t : ByteArray} (h : t.size ≤ 40) (r : List (Int × ByteArray)) : nameR ((48, catT (nameL t)) :: r) false = (t, r, false) := by
  obtain ⟨o0, o1, o2, _⟩ := name_ok h
  unfold nameR
  have x2 : asI (nameL t) = ((49 : Int), catT (nameL1 t)) :: [] := rfl
  have x1 : asI (nameL1 t) = ((48 : Int), catT (nameL0 t)) :: [] := rfl
  have x0 : asI (nameL0 t) = ((6 : Int), strOfNums (oidL [2, 5, 4, 3])) :: ((12 : Int), t) :: [] := rfl
  simp only [inR_cons _ o2, x2, inR_cons _ o1, x1, inR_cons _ o0, x0, takeR_cons, Bool.or_false]
/-- The numbers that are taken one by one. -/
noncomputable def numsL : List (Int × ByteArray) → Bool → List Int
  | [], _ => []
  | p :: r, bad => if bad = true then [] else if p.1 = 2 then (intQ p.2).1 :: numsL r (!(intQ p.2).2) else [0]
theorem numsL_bad (l : List (Int × ByteArray)) : numsL l true = [] := by cases l <;> simp [numsL]
theorem numsL_nil (b : Bool) : numsL [] b = [] := rfl
theorem intQ_none : intQ ⟨#[]⟩ = (0, false) := by
  unfold intQ
  exact if_pos (Or.inl rfl)
theorem numsL_step (p : Int × ByteArray) (r : List (Int × ByteArray)) : numsL (p :: r) false = (numR (p :: r) false).1 :: numsL (numR (p :: r) false).2.1 (numR (p :: r) false).2.2 := by
  by_cases h : p.1 = 2
  · simp [numsL, numR, takeR, h]
  · simp [numsL, numR, takeR, h, intQ_none, numsL_bad]
theorem numR_less (p : Int × ByteArray) (r : List (Int × ByteArray)) : (numR (p :: r) false).2.1.length + (if (numR (p :: r) false).2.2 then 0 else 1) < (p :: r).length + 1 := by
  by_cases h : p.1 = 2
  · simp only [numR, takeR, h, if_true, List.length_cons, Bool.false_eq_true, if_false, Bool.false_or]
    split <;> omega
  · simp [numR, takeR, h]
theorem numsL_cat (zs : List Int) (h : ∀ n ∈ zs, -9223372036854775808 ≤ n ∧ n ≤ 9223372036854775807) : numsL (asI (serL zs)) false = zs := by
  induction zs with
  | nil => rfl
  | cons n r ih =>
    obtain ⟨h0, h1⟩ := h n (List.mem_cons_self ..)
    have ih' := ih fun m hm => h m (List.mem_cons_of_mem _ hm)
    have e : asI (serL (n :: r)) = ((2 : Int), strOfNums (intL n)) :: asI (serL r) := rfl
    rw [e, numsL, if_neg (by simp), if_pos rfl, intQ_back h0 h1]
    simp only [Bool.not_true]
    rw [ih']
theorem numsL_len : ∀ (l : List (Int × ByteArray)) (b : Bool), (numsL l b).length ≤ l.length
  | [], _ => Nat.le_refl _
  | p :: r, b => by
    rw [numsL]
    split
    · exact Nat.zero_le _
    · split
      · have := numsL_len r (!(intQ p.2).2)
        simp only [List.length_cons]
        omega
      · simp
/-- What the specification reads of a list. -/
noncomputable def listS (s : ByteArray) : Lst :=
  let r := (inR (openR s).1 (openR s).2 48).1
  let b := inR r.1 r.2 48
  let nm := nameR b.1.1 b.1.2
  let x := numR nm.2.1 nm.2.2
  let y := numR x.2.1 x.2.2
  let h := (inR y.2.1 y.2.2 48).1
  let n := bitsQ (takeR b.2.1 b.2.2 3).1 3 1
  ⟨nm.1, x.1, y.1, numsL h.1 h.2, n.getD 0 0, n.getD 1 0, n.getD 2 0⟩
theorem listS_back {c : Lst} (h : crlB c = true) : listS (listY c) = c := by
  have hf := list_fits (crlB_list h)
  obtain ⟨o1, o2, o3⟩ := list_ok hf
  obtain ⟨_, _, _, _, _, _, _, _, n2⟩ := list_back h
  obtain ⟨e, oh⟩ := ser_ok hf.len
  have f0 := hf.fr0
  have f1 := hf.fr1
  have t0 := hf.till0
  have t1 := hf.till1
  have x0 : openR (listY c) = (((48 : Int), catT (listL2 c)) :: [], false) := by rw [listY_cat, openR_cat o3]; rfl
  have x1 : asI (listL2 c) = ((48 : Int), catT (listL c)) :: ((3 : Int), sigT c.sk c.se c.ss) :: [] := rfl
  have x2 : asI (listL c) = ((48 : Int), catT (nameL c.issuer)) :: ((2 : Int), strOfNums (intL c.fr)) :: ((2 : Int), strOfNums (intL c.till)) :: ((48 : Int), serD c.serials c.serials.length) :: [] := rfl
  unfold listS
  simp only [x0, inR_cons _ o2, x1, inR_cons _ o1, x2, nameR_cons hf.iss, numR_cons (n := c.fr) (by omega) (by omega), numR_cons (n := c.till) (by omega) (by omega), takeR_cons, n2]
  rw [e]
  simp only [inR_cons _ oh, numsL_cat _ (ser_nums hf.each), List.getD_cons_zero, List.getD_cons_succ]
end Go.Proofs.YtfliacfeebooeaaGreatDoor
namespace Go.Proofs.YtfliacfeebooeaaGreatDoor
open Go.RowKit

/-- One part of what is more: its names are taken, or it says that the key signs papers. -/
def partS (m : List ByteArray × Bool) (l : List (Int × ByteArray)) (bad : Bool) : List ByteArray × Bool :=
  let t := takeR l bad 6
  if t.2.2 = false ∧ t.2.1.length = 1 then
    let f := (inR t.2.1 t.2.2 4).1
    let h := (inR f.1 f.2 48).1
    (m.1 ++ hostsR h.1 h.2, m.2)
  else (m.1, true)
/-- The parts, one by one. -/
def moreS : List (Int × ByteArray) → Bool → List ByteArray × Bool → List ByteArray × Bool
  | [], _, m => m
  | p :: r, bad, m => if bad = true then m else if p.1 = 48 then moreS r false (partS m (openR p.2).1 (openR p.2).2) else (m.1, true)
theorem moreS_bad (l : List (Int × ByteArray)) (m : List ByteArray × Bool) : moreS l true m = m := by cases l <;> simp [moreS]
theorem moreS_nil (b : Bool) (m : List ByteArray × Bool) : moreS [] b m = m := rfl
theorem partS_bad (m : List ByteArray × Bool) (l : List (Int × ByteArray)) : partS m l true = (m.1, true) := by
  unfold partS takeR
  cases l <;> simp
theorem moreS_step (p : Int × ByteArray) (r : List (Int × ByteArray)) (m : List ByteArray × Bool) :
    moreS (p :: r) false m = moreS (inR (p :: r) false 48).2.1 (inR (p :: r) false 48).2.2 (partS m (inR (p :: r) false 48).1.1 (inR (p :: r) false 48).1.2) := by
  by_cases h : p.1 = 48
  · simp [moreS, inR, takeR, h]
  · simp [moreS, inR, takeR, h, moreS_bad, partS_bad]
/-- What stands behind the key, if anything does. -/
def tailS (l : List (Int × ByteArray)) (bad : Bool) : List ByteArray × Bool :=
  if bad = false ∧ l.length > 0 then
    let m := (inR l bad 163).1
    let x := (inR m.1 m.2 48).1
    moreS x.1 x.2 ([], false)
  else ([], false)
theorem partS_names (m : List ByteArray × Bool) {ss : List ByteArray} (h : ss.length ≤ 5) (h' : ∀ i, i < ss.length → (tAt ss i).size ≤ 40) : partS m (asI (namePL ss)) false = (m.1 ++ ss, m.2) := by
  obtain ⟨_, o2⟩ := names_ok h h'
  obtain ⟨e, oh⟩ := hosts_ok h h'
  have x0 : asI (namePL ss) = ((6 : Int), oidB [2, 5, 29, 17]) :: ((4 : Int), catT (hostsL ss)) :: [] := rfl
  have x1 : asI (hostsL ss) = ((48 : Int), hostsD ss ss.length) :: [] := rfl
  unfold partS
  simp only [x0, takeR_cons, inR_cons _ o2, x1]
  rw [if_pos ⟨trivial, rfl⟩, e]
  simp only [inR_cons _ oh, hostsR_cat]
theorem partS_ca (m : List ByteArray × Bool) : partS m (asI caPL) false = (m.1, true) := by
  have x0 : asI caPL = ((6 : Int), oidB [2, 5, 29, 19]) :: ((1 : Int), ⟨#[255]⟩) :: ((4 : Int), catT [(48, soD)]) :: [] := rfl
  unfold partS
  simp only [x0, takeR_cons]
  rw [if_neg (by simp)]
theorem partsS_back {ss : List ByteArray} (h : ss.length ≤ 5) (h' : ∀ i, i < ss.length → (tAt ss i).size ≤ 40) (ca : Bool) : moreS (asI (partsL ss ca)) false ([], false) = (ss, ca) := by
  obtain ⟨o1, _⟩ := names_ok h h'
  have en : ∀ (r : List (Int × ByteArray)) (m : List ByteArray × Bool), moreS (((48 : Int), catT (namePL ss)) :: r) false m = moreS r false (m.1 ++ ss, m.2) := by
    intro r m
    rw [moreS_step, inR_cons _ o1, partS_names _ h h']
  have ec : ∀ (r : List (Int × ByteArray)) (m : List ByteArray × Bool), moreS (((48 : Int), catT caPL) :: r) false m = moreS r false (m.1, true) := by
    intro r m
    rw [moreS_step, inR_cons _ ca_ok, partS_ca]
  unfold partsL
  by_cases hs : ss.length = 0
  · rw [if_pos hs]
    have he : ss = [] := List.eq_nil_of_length_eq_zero hs
    cases ca with
    | false => rw [he]; rfl
    | true =>
      show moreS (((48 : Int), catT caPL) :: []) false ([], false) = _
      rw [ec, moreS_nil, he]
  · rw [if_neg hs]
    cases ca with
    | false =>
      show moreS (((48 : Int), catT (namePL ss)) :: []) false ([], false) = _
      rw [en, moreS_nil]
      rfl
    | true =>
      show moreS (((48 : Int), catT (namePL ss)) :: ((48 : Int), catT caPL) :: []) false ([], false) = _
      rw [en, ec, moreS_nil]
      rfl
theorem tailS_back {ss : List ByteArray} (h : ss.length ≤ 5) (h' : ∀ i, i < ss.length → (tAt ss i).size ≤ 40) (ca : Bool) : tailS (asI (morePL ss ca)) false = (ss, ca) := by
  obtain ⟨o1, o2⟩ := parts_ok h h' ca
  have hb := partsS_back h h' ca
  unfold morePL
  by_cases hp : (partsL ss ca).length = 0
  · rw [if_pos hp]
    rw [List.eq_nil_of_length_eq_zero hp] at hb
    exact hb
  · rw [if_neg hp]
    have x0 : asI [(163, catT [(48, catT (partsL ss ca))])] = ((163 : Int), catT [(48, catT (partsL ss ca))]) :: [] := rfl
    have x1 : asI [(48, catT (partsL ss ca))] = ((48 : Int), catT (partsL ss ca)) :: [] := rfl
    unfold tailS
    simp only [x0, inR_cons _ o2, x1, inR_cons _ o1]
    rw [if_pos ⟨trivial, by simp⟩]
    exact hb
/-- What the specification reads of a paper. -/
noncomputable def certSP (s : ByteArray) : Paper :=
  let r := (inR (openR s).1 (openR s).2 48).1
  let b := inR r.1 r.2 48
  let z := (inR b.1.1 b.1.2 160).2
  let x := numR z.1 z.2
  let a := takeR x.2.1 x.2.2 48
  let i := nameR a.2.1 a.2.2
  let v := inR i.2.1 i.2.2 48
  let f := numR v.1.1 v.1.2
  let t := numR f.2.1 f.2.2
  let u := nameR v.2.1 v.2.2
  let k := inR u.2.1 u.2.2 48
  let d := takeR k.1.1 k.1.2 48
  let q := bitsQ (takeR d.2.1 d.2.2 3).1 1 1
  let m := tailS k.2.1 k.2.2
  let g := takeR b.2.1 b.2.2 48
  let n := bitsQ (takeR g.2.1 g.2.2 3).1 3 1
  ⟨x.1, i.1, u.1, f.1, t.1, q.getD 0 0, m.1, m.2, n.getD 0 0, n.getD 1 0, n.getD 2 0⟩
theorem int2_ok : ThingsOk [(2, strOfNums (intL 2))] := by
  have h := intD_le 2
  refine things_ok (fun q hq => ?_) (by simp) ?_
  · obtain rfl := List.mem_singleton.1 hq
    exact tag2
  · rw [catT_one]
    show (intD 2).size ≤ _
    omega
theorem int2_cat : intD 2 = catT [(2, strOfNums (intL 2))] := by rw [catT_one]; rfl
theorem certSP_back {c : Paper} (h : certB c = true) : certSP (bytesD c) = c := by
  have hf := paper_fits (certB_paper h)
  have hsig : sigRB c.sk c.se c.ss = true := by
    unfold certB at h
    rw [Bool.and_eq_true] at h
    exact h.2
  obtain ⟨s0, s1, s2⟩ := sigRB_lt hsig
  obtain ⟨o2, hz2⟩ := body2_ok hf
  have o1 := body_ok hf
  have o3 : ThingsOk [(48, catT (bodyL2 c))] := seq_ok (by omega)
  have ht := sigT_le c.sk c.se c.ss
  have n2 := (rowN_zero (zs := [c.sk, c.se, c.ss]) (fun n hn => by simp at hn; rcases hn with rfl | rfl | rfl <;> omega) (by rw [← sigT_row]; omega)).2
  rw [← sigT_row] at n2
  have hk := putS_size c.key
  have k0 := hf.key0
  have k1 := hf.key1
  have n1 := (rowN_zero (zs := [c.key]) (fun n hn => by simp at hn; subst hn; omega) (by rw [← key_row, ByteArray.size_append, one_size]; omega)).2
  have e0 := hf.ser0
  have e1 := hf.ser1
  have e2 := hf.fr0
  have e3 := hf.fr1
  have e4 := hf.till0
  have e5 := hf.till1
  have x0 : openR (bytesD c) = (((48 : Int), catT (bodyL2 c)) :: [], false) := by rw [bytesD_cat, openR_cat o3]; rfl
  have x1 : asI (bodyL2 c) = ((48 : Int), catT (bodyL c)) :: ((48 : Int), catT kindL) :: ((3 : Int), sigT c.sk c.se c.ss) :: [] := rfl
  have x2 : asI (bodyL c) = ((160 : Int), catT [(2, strOfNums (intL 2))]) :: ((2 : Int), strOfNums (intL c.serial)) :: ((48 : Int), catT kindL) :: ((48 : Int), catT (nameL c.issuer)) :: ((48 : Int), catT (timesL c.fr c.till)) :: ((48 : Int), catT (nameL c.subject)) :: ((48 : Int), catT (keyL c.key)) :: asI (morePL c.names c.ca) := by
    rw [← int2_cat]
    rfl
  have x3 : asI (timesL c.fr c.till) = ((2 : Int), strOfNums (intL c.fr)) :: ((2 : Int), strOfNums (intL c.till)) :: [] := rfl
  have x4 : asI (keyL c.key) = ((48 : Int), catT kindL) :: ((3 : Int), ⟨#[0]⟩ ++ rowN [c.key]) :: [] := rfl
  have n1' : bitsQ (⟨#[0]⟩ ++ rowN [c.key]) 1 1 = [c.key] := n1
  have n2' : bitsQ (sigT c.sk c.se c.ss) 3 1 = [c.sk, c.se, c.ss] := n2
  unfold certSP
  simp only [x0, inR_cons _ o2, x1, inR_cons _ o1, x2, inR_cons _ int2_ok, takeR_cons, nameR_cons hf.iss, nameR_cons hf.sub, inR_cons _ (times_ok _ _), x3, inR_cons _ (key_ok _), x4,
    numR_cons (n := c.serial) (by omega) (by omega), numR_cons (n := c.fr) (by omega) (by omega), numR_cons (n := c.till) (by omega) (by omega), n1', n2', tailS_back hf.len hf.each, List.getD_cons_zero, List.getD_cons_succ]
end Go.Proofs.YtfliacfeebooeaaGreatDoor
namespace Go.Proofs.YtfliacfeebooeaaGreatDoor
open Go.RowKit

def sumT (l : List (Int × ByteArray)) : Nat := (l.map fun p => p.2.size).sum
def sumS (l : List ByteArray) : Nat := (l.map fun p => p.size).sum
theorem sumT_snoc (l : List (Int × ByteArray)) (p : Int × ByteArray) : sumT (l ++ [p]) = sumT l + p.2.size := by simp [sumT]
theorem sumS_app (l m : List ByteArray) : sumS (l ++ m) = sumS l + sumS m := by simp [sumS]
theorem totS_take (l : List ByteArray) : ∀ k, k ≤ l.length → totS l k = sumS (l.take k)
  | 0, _ => by simp [totS, sumS]
  | k + 1, hk => by
    rw [totS, totS_take l k (by omega), List.take_add_one, sumS_app, List.getElem?_eq_getElem (by omega)]
    congr 1
    unfold tAt
    rw [List.getD_eq_getElem?_getD, List.getElem?_eq_getElem (by omega)]
    simp [sumS]
theorem totS_all (l : List ByteArray) : totS l l.length = sumS l := by rw [totS_take l _ (Nat.le_refl _), List.take_length]
theorem getAt_room {s : ByteArray} {k : Nat} (h : (getAt s k).code = 0) : k + (getAt s k).body.size ≤ (getAt s k).at'.toNat ∧ (getAt s k).at'.toNat ≤ s.size := by
  obtain ⟨n, _, h2, _, e, _⟩ := getAt_form h
  rw [e]
  simp only [ByteArray.size_extract, Int.toNat_natCast]
  omega
theorem allR_sum (s : ByteArray) : ∀ (f k : Nat) (acc : List (Int × ByteArray)), sumT acc ≤ k → k ≤ s.size → sumT (allR s f k acc).1 ≤ s.size
  | 0, _, acc, h, h' => Nat.le_trans h h'
  | f + 1, k, acc, h, h' => by
    rw [allR]
    split
    · exact Nat.le_trans h h'
    · split
      · simp [sumT]
      · rename_i hc
        split
        · simp [sumT]
        · have hr := getAt_room (Decidable.not_not.1 hc)
          refine allR_sum s f _ _ ?_ hr.2
          rw [sumT_snoc]
          show sumT acc + (getAt s k).body.size ≤ _
          omega
theorem allD_sum (s : ByteArray) : sumT (allD s).1 ≤ s.size := by
  unfold allD
  split
  · simp [sumT]
  · exact allR_sum s _ _ _ (by simp [sumT]) (Nat.zero_le _)
theorem hostsR_sum : ∀ (l : List (Int × ByteArray)) (b : Bool), sumS (hostsR l b) ≤ sumT l
  | [], _ => Nat.le_refl _
  | p :: r, b => by
    have ih := hostsR_sum r false
    have e : sumT (p :: r) = p.2.size + sumT r := by simp [sumT]
    rw [hostsR, e]
    split
    · exact Nat.zero_le _
    · split
      · have e2 : sumS (p.2 :: hostsR r false) = p.2.size + sumS (hostsR r false) := by simp [sumS]
        omega
      · have e2 : sumS [(⟨#[]⟩ : ByteArray)] = 0 := rfl
        omega
theorem partS_fit (m : List ByteArray × Bool) (l : List (Int × ByteArray)) (bad : Bool) : (partS m l bad).1.length ≤ m.1.length + 60 ∧ sumS (partS m l bad).1 ≤ sumS m.1 + 4000 := by
  unfold partS
  simp only
  split
  · generalize (takeR (takeR l bad 6).2.1 (takeR l bad 6).2.2 4).2.2 = b1
    obtain ⟨x, hx, y, c, e⟩ : ∃ x : ByteArray, x.size ≤ 4000 ∧ ∃ b c, (inR (inR (takeR l bad 6).2.1 (takeR l bad 6).2.2 4).1.1 (inR (takeR l bad 6).2.1 (takeR l bad 6).2.2 4).1.2 48).1 = ((allD x).1, b) ∧ c = b :=
      ⟨_, takeR_sz (allD_4000 _), _, _, rfl, rfl⟩
    rw [e.1]
    have h1 := hostsR_len (allD x).1 y
    have h2 := hostsR_sum (allD x).1 y
    have h3 := allD_len x
    have h4 := allD_sum x
    simp only [List.length_append, sumS_app]
    omega
  · simp only
    omega
theorem moreS_fit : ∀ (l : List (Int × ByteArray)) (bad : Bool) (m : List ByteArray × Bool), (moreS l bad m).1.length ≤ m.1.length + 60 * l.length ∧ sumS (moreS l bad m).1 ≤ sumS m.1 + 4000 * l.length
  | [], _, m => ⟨Nat.le_refl _, Nat.le_refl _⟩
  | p :: r, bad, m => by
    have h1 := partS_fit m (openR p.2).1 (openR p.2).2
    have h2 := moreS_fit r false (partS m (openR p.2).1 (openR p.2).2)
    rw [moreS, List.length_cons]
    split
    · omega
    · split
      · omega
      · simp only
        omega
theorem tailS_fit (l : List (Int × ByteArray)) (bad : Bool) : (tailS l bad).1.length ≤ 3600 ∧ sumS (tailS l bad).1 ≤ 240000 := by
  unfold tailS
  split
  · simp only
    obtain ⟨x, y, e⟩ : ∃ x b, (inR (inR l bad 163).1.1 (inR l bad 163).1.2 48).1 = ((allD x).1, b) := ⟨_, _, rfl⟩
    rw [e]
    have h1 := moreS_fit (allD x).1 y ([], false)
    have h2 := allD_len x
    have e1 : ([] : List ByteArray).length = 0 := rfl
    have e2 : sumS [] = 0 := rfl
    rw [e1, e2] at h1
    show (moreS (allD x).1 y ([], false)).1.length ≤ _ ∧ sumS (moreS (allD x).1 y ([], false)).1 ≤ _
    omega
  · exact ⟨Nat.zero_le _, Nat.zero_le _⟩
theorem certSP_fit (s : ByteArray) : (certSP s).names.length ≤ 1048576 ∧ totS (certSP s).names (certSP s).names.length ≤ 1048576 := by
  obtain ⟨l, b, e⟩ : ∃ l b, (certSP s).names = (tailS l b).1 := ⟨_, _, rfl⟩
  rw [totS_all, e]
  have h := tailS_fit l b
  omega
end Go.Proofs.YtfliacfeebooeaaGreatDoor
