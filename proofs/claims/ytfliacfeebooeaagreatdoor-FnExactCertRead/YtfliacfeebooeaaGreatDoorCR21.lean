/- What CertRead tells, as a value. What the program reads of a paper, as it was laid. Plain mathematics, but for where readP is told. CertRead: what the program tells and what the specification tells are the same. Plain, but for where readP is told. strings.Join without a separator, in own words; impl.putParts, putSeq, putKind, putName, walked. FnExactNameRight, walks: 'impl.NameRight' answers true just where the text is a right name; the law. impl.isTime, isSerial, NameRight, walked. impl.isTime, impl.namesRight, walked. impl.rightButSig, walked. impl.isRemainder, impl.SigRight, walked. impl.rightButSig, impl.CertRight, walked. A row of the three numbers of a Sig. -/
import Derived.Test.YtfliacfeebooeaaGreatDoorCR20
import Derived.Test.YtfliacfeebooeaaGreatDoorCR10
import Derived.Test.YtfliacfeebooeaaGreatDoorCR04
import Derived.Test.YtfliacfeebooeaaGreatDoorCR12
import Derived.Test.YtfliacfeebooeaaGreatDoorCR07
import Derived.Test.YtfliacfeebooeaaGreatDoorCR01
import Derived.Test.YtfliacfeebooeaaGreatDoorCR06
import Derived.Test.YtfliacfeebooeaaGreatDoorCR03
import Derived.WalkLawsBesides
import Derived.Deep.Cut
namespace Go.Proofs.YtfliacfeebooeaaGreatDoor
open Go.RowKit

def certV (c : Paper) (v : Value) (n : Int) : Value := .agg #[.int .i64 c.serial, .string c.issuer, .string c.subject, .int .i64 c.fr, .int .i64 c.till, .int .i64 c.key, v, .bool c.ca, .int .i64 c.sk, .int .i64 c.se, .int .i64 c.ss, .int .i64 n]
theorem sizeCertOut : (Tryz.prog.info? 28).map (·.size) = some 12 := by kernel_rfl
/-- What the program tells of a text. -/
noncomputable def certR (s : ByteArray) : Paper × Int :=
  if 20000 < s.size then (zeroPaper, 2) else if certB (readP s) = true ∧ certBytesD (readP s) = s then (readP s, 0) else (zeroPaper, 3)
theorem partsR_names (l : List (Int × ByteArray)) : ∀ (m : List ByteArray × Bool), (m.1 = [] ∨ ∃ x, m.1 = bodiesR x) → ((partsR m l).1 = [] ∨ ∃ x, (partsR m l).1 = bodiesR x) := by
  induction l with
  | nil => exact fun m h => h
  | cons p r ih =>
    intro m h
    refine ih (partR m p.2) ?_
    unfold partR
    simp only
    split
    · exact .inr ⟨_, rfl⟩
    · exact h
theorem moreR_names (l : List (Int × ByteArray)) : ∀ (m : List ByteArray × Bool), (m.1 = [] ∨ ∃ x, m.1 = bodiesR x) → ((moreR m l).1 = [] ∨ ∃ x, (moreR m l).1 = bodiesR x) := by
  induction l with
  | nil => exact fun m h => h
  | cons p r ih =>
    intro m h
    exact ih _ (partsR_names _ m h)
theorem paperR_small {L : List (Int × ByteArray)} (h : L.length < 7) (k : List Int) : paperR L k = zeroPaper := if_pos h
theorem paperR_big {L : List (Int × ByteArray)} (h : ¬ L.length < 7) (k : List Int) : (paperR L k).names = (moreR ([], false) (L.drop 7)).1 ∧ (paperR L k).issuer = (fixL L).issuer ∧ (paperR L k).subject = (fixL L).subject := by
  unfold paperR
  rw [if_neg h]
  exact ⟨rfl, rfl, rfl⟩
theorem paperR_names (L : List (Int × ByteArray)) (k : List Int) : (paperR L k).names = [] ∨ ∃ x, (paperR L k).names = bodiesR x := by
  by_cases h : L.length < 7
  · rw [paperR_small h]
    exact .inl rfl
  · rw [(paperR_big h k).1]
    exact moreR_names _ _ (.inl rfl)
theorem names_or {n : List ByteArray} (h : n = [] ∨ ∃ x, n = bodiesR x) : n.length ≤ 1048576 ∧ totS n n.length ≤ 1048576 := by
  rcases h with h | ⟨x, h⟩
  · rw [h]
    exact ⟨Nat.zero_le _, Nat.zero_le _⟩
  · rw [h]
    exact bodiesR_fit x
theorem readP_names (s : ByteArray) : (readP s).names.length ≤ 1048576 ∧ totS (readP s).names (readP s).names.length ≤ 1048576 := by
  unfold readP
  exact names_or (paperR_names _ _)
theorem bodyJ_le {L : List (Int × ByteArray)} {m : Nat} (h : ∀ p ∈ L, p.2.size ≤ m) (i : Nat) : (bodyJ L i).size ≤ m := by
  unfold bodyJ
  cases e : L[i]? with
  | none => exact Nat.zero_le _
  | some p => exact h p (List.mem_of_getElem? e)
theorem paperR_texts {L : List (Int × ByteArray)} (k : List Int) (h4 : ∀ p ∈ L, p.2.size ≤ 4000) : (paperR L k).issuer.size ≤ maxLen ∧ (paperR L k).subject.size ≤ maxLen := by
  by_cases h : L.length < 7
  · rw [paperR_small h]
    exact ⟨Nat.zero_le _, Nat.zero_le _⟩
  · rw [(paperR_big h k).2.1, (paperR_big h k).2.2]
    have h3 := Nat.le_trans (atP_le [0, 0, 1] _) (bodyJ_le h4 3)
    have h5 := Nat.le_trans (atP_le [0, 0, 1] _) (bodyJ_le h4 5)
    have hm : 4000 ≤ maxLen := by unfold maxLen; omega
    exact ⟨Nat.le_trans h3 hm, Nat.le_trans h5 hm⟩
theorem readP_texts (s : ByteArray) : (readP s).issuer.size ≤ maxLen ∧ (readP s).subject.size ≤ maxLen := by
  unfold readP
  exact paperR_texts _ (allD_4000 _)
end Go.Proofs.YtfliacfeebooeaaGreatDoor
namespace Go.Proofs.YtfliacfeebooeaaGreatDoor
open Go.RowKit

theorem arcs_back {l : List Int} (h : arcsB l = true) : (oidR (oidB l)).1 = l := by
  unfold oidB
  rw [oid_back h]
theorem part_names (m : List ByteArray × Bool) {ss : List ByteArray} (h : ss.length ≤ 5) (h' : ∀ i, i < ss.length → (tAt ss i).size ≤ 40) : partR m (catT (namePL ss)) = (ss, m.2) := by
  obtain ⟨o1, o2⟩ := names_ok h h'
  obtain ⟨e, oh⟩ := hosts_ok h h'
  have a0 : atP (catT (namePL ss)) [0] = oidB [2, 5, 29, 17] := by rw [atP_cat o1 rfl, atP_nil]
  have a1 : atP (catT (namePL ss)) [1, 0] = hostsD ss ss.length := by rw [atP_cat o1 rfl, atP_cat o2 rfl, atP_nil]
  have hb : bodiesR (hostsD ss ss.length) = ss := by
    rw [e, bodiesR_cat oh, List.map_map]
    exact List.map_id' _
  unfold partR
  rw [a0, a1, arcs_back arcs17, hb, if_pos rfl, if_neg (by decide)]
theorem part_ca (m : List ByteArray × Bool) : partR m (catT caPL) = (m.1, true) := by
  have a0 : atP (catT caPL) [0] = oidB [2, 5, 29, 19] := by rw [atP_cat ca_ok rfl, atP_nil]
  unfold partR
  rw [a0, arcs_back arcs19, if_neg (by decide), if_pos rfl]
theorem parts_back {ss : List ByteArray} (h : ss.length ≤ 5) (h' : ∀ i, i < ss.length → (tAt ss i).size ≤ 40) (ca : Bool) : partsR ([], false) (asI (partsL ss ca)) = (ss, ca) := by
  unfold partsL
  by_cases hs : ss.length = 0
  · rw [if_pos hs]
    have he : ss = [] := List.eq_nil_of_length_eq_zero hs
    cases ca with
    | false => rw [he]; rfl
    | true =>
      show partR ([], false) (catT caPL) = _
      rw [part_ca, he]
  · rw [if_neg hs]
    cases ca with
    | false =>
      show partR ([], false) (catT (namePL ss)) = _
      rw [part_names _ h h']
    | true =>
      show partR (partR ([], false) (catT (namePL ss))) (catT caPL) = _
      rw [part_names _ h h', part_ca]
theorem moreR_one (m : List ByteArray × Bool) (t : Int) (b : ByteArray) : moreR m [(t, b)] = partsR m (allD (atP b [0])).1 := rfl
theorem asI_one (t : Nat) (b : ByteArray) : asI [(t, b)] = [((t : Int), b)] := rfl
theorem more_back {ss : List ByteArray} (h : ss.length ≤ 5) (h' : ∀ i, i < ss.length → (tAt ss i).size ≤ 40) (ca : Bool) : moreR ([], false) (asI (morePL ss ca)) = (ss, ca) := by
  obtain ⟨o1, o2⟩ := parts_ok h h' ca
  have hb := parts_back h h' ca
  unfold morePL
  by_cases hp : (partsL ss ca).length = 0
  · rw [if_pos hp]
    rw [List.eq_nil_of_length_eq_zero hp] at hb
    exact hb
  · rw [if_neg hp]
    rw [asI_one, moreR_one, atP_cat o2 rfl, atP_nil, allD_cat o1.1 o1.2.1 o1.2.2]
    exact hb
theorem readP_back {c : Paper} (h : certB c = true) : readP (bytesD c) = c := by
  have hf := paper_fits (certB_paper h)
  have hsig : sigRB c.sk c.se c.ss = true := by
    unfold certB at h
    rw [Bool.and_eq_true] at h
    exact h.2
  obtain ⟨s0, s1, s2⟩ := sigRB_lt hsig
  obtain ⟨o2, hz2⟩ := body2_ok hf
  have o1 := body_ok hf
  have o3 : ThingsOk [(48, catT (bodyL2 c))] := seq_ok (by omega)
  have a1 : atP (bytesD c) [0] = catT (bodyL2 c) := by rw [bytesD_cat, atP_cat o3 rfl, atP_nil]
  have a2 : atP (catT (bodyL2 c)) [0] = catT (bodyL c) := by rw [atP_cat o2 rfl, atP_nil]
  have a3 : atP (catT (bodyL2 c)) [2] = sigT c.sk c.se c.ss := by rw [atP_cat o2 rfl, atP_nil]
  have ht := sigT_le c.sk c.se c.ss
  have hn := (rowN_zero (zs := [c.sk, c.se, c.ss]) (fun n hn => by simp at hn; rcases hn with rfl | rfl | rfl <;> omega) (by rw [← sigT_row]; omega)).1
  have hn3 : numsGo (sigT c.sk c.se c.ss) 3 1 = [c.sk, c.se, c.ss] := by rw [sigT_row]; exact hn
  have hk := putS_size c.key
  have k0 := hf.key0
  have k1 := hf.key1
  have hkn := (rowN_zero (zs := [c.key]) (fun n hn => by simp at hn; subst hn; omega) (by rw [← key_row, ByteArray.size_append, one_size]; omega)).1
  have b4 : atP (catT (timesL c.fr c.till)) [0] = strOfNums (intL c.fr) := by rw [atP_cat (times_ok _ _) rfl, atP_nil]
  have b4' : atP (catT (timesL c.fr c.till)) [1] = strOfNums (intL c.till) := by rw [atP_cat (times_ok _ _) rfl, atP_nil]
  have b6 : atP (catT (keyL c.key)) [1] = ⟨#[0]⟩ ++ rowN [c.key] := by rw [atP_cat (key_ok _) rfl, atP_nil]
  have e0 := hf.ser0
  have e1 := hf.ser1
  have e2 := hf.fr0
  have e3 := hf.fr1
  have e4 := hf.till0
  have e5 := hf.till1
  have hfix : fixL (asI (bodyL c)) = ⟨c.serial, c.issuer, c.subject, c.fr, c.till, c.key, [], false, 0, 0, 0⟩ := by
    show fixR (strOfNums (intL c.serial)) (catT (nameL c.issuer)) (catT (timesL c.fr c.till)) (catT (nameL c.subject)) (catT (keyL c.key)) = _
    unfold fixR
    rw [b4, b4', b6, name_back hf.iss, name_back hf.sub, int_back (by omega) (by omega), int_back (by omega) (by omega), int_back (by omega) (by omega)]
    have : numsGo (⟨#[0]⟩ ++ rowN [c.key]) 1 1 = [c.key] := hkn
    rw [this]
    rfl
  have hlen : ¬ (asI (bodyL c)).length < 7 := by
    have : (asI (bodyL c)).length = 7 + (asI (morePL c.names c.ca)).length := by
      unfold bodyL asI
      rw [List.map_append, List.length_append]
      rfl
    omega
  have hdrop : (asI (bodyL c)).drop 7 = asI (morePL c.names c.ca) := rfl
  unfold readP
  rw [a1, a2, a3, hn3, allD_cat o1.1 o1.2.1 o1.2.2]
  unfold paperR
  rw [if_neg hlen, hfix, hdrop, more_back hf.len hf.each]
  rfl
end Go.Proofs.YtfliacfeebooeaaGreatDoor
namespace Go.Proofs.YtfliacfeebooeaaGreatDoor
open Go.RowKit

/-- What the specification tells of a text. -/
noncomputable def certS (s : ByteArray) : Paper × Int :=
  if 20000 < s.size then (zeroPaper, 2) else if s.size = 0 ∨ certBytesD (certSP s) ≠ s then (zeroPaper, 3) else (certSP s, 0)
theorem certR_eq (s : ByteArray) : certR s = certS s := by
  unfold certR certS
  by_cases hl : 20000 < s.size
  · rw [if_pos hl, if_pos hl]
  rw [if_neg hl, if_neg hl]
  by_cases h1 : certB (readP s) = true ∧ certBytesD (readP s) = s
  · have hb : bytesD (readP s) = s := by
      have h2 := h1.2
      unfold certBytesD at h2
      rw [if_pos h1.1] at h2
      exact h2
    have he : certSP s = readP s := by
      have := certSP_back h1.1
      rw [hb] at this
      exact this
    have hz : s.size ≠ 0 := by
      have := thing_pos 48 (bodyD (readP s) ++ (kindD ++ sigD (readP s).sk (readP s).se (readP s).ss))
      have h2 : s = thingD 48 (bodyD (readP s) ++ (kindD ++ sigD (readP s).sk (readP s).se (readP s).ss)) := hb.symm
      rw [← h2] at this
      omega
    rw [if_pos h1, he, if_neg]
    rintro (h | h)
    · exact hz h
    · exact h h1.2
  · rw [if_neg h1, if_pos]
    by_cases hz : s.size = 0
    · exact .inl hz
    refine .inr (fun h2 => ?_)
    by_cases hb : certB (certSP s) = true
    · have h3 := h2
      unfold certBytesD at h3
      rw [if_pos hb] at h3
      have he : readP s = certSP s := by
        have := readP_back hb
        rw [h3] at this
        exact this
      rw [← he] at hb h2
      exact h1 ⟨hb, h2⟩
    · unfold certBytesD at h2
      rw [if_neg hb] at h2
      rw [← h2] at hz
      exact hz rfl
theorem certS_fit (s : ByteArray) : (certS s).1.names.length ≤ 1048576 ∧ totS (certS s).1.names (certS s).1.names.length ≤ 1048576 := by
  rw [← certR_eq]
  have h := readP_names s
  unfold certR
  split
  · exact ⟨Nat.zero_le _, Nat.zero_le _⟩
  · split
    · exact h
    · exact ⟨Nat.zero_le _, Nat.zero_le _⟩
theorem certS_texts (s : ByteArray) : (certS s).1.issuer.size ≤ maxLen ∧ (certS s).1.subject.size ≤ maxLen := by
  rw [← certR_eq]
  have h := readP_texts s
  unfold certR
  split
  · exact ⟨Nat.zero_le _, Nat.zero_le _⟩
  · split
    · exact h
    · exact ⟨Nat.zero_le _, Nat.zero_le _⟩
end Go.Proofs.YtfliacfeebooeaaGreatDoor
namespace Go.Proofs.YtfliacfeebooeaaGreatDoor
open Go.RowKit

theorem implKind (w : World) :
    Calls Tryz.prog 38 #[] w fun e w' => e = .returned (.string kindD) ∧ Below w.heap.size w w' := by
  have z := arcs_lit arcsKind
  have H1 : Hid (∀ V (g : Nat), V.heap[g]? = some (.cells #[.int .i64 1, .int .i64 3, .int .i64 101, .int .i64 112] 2 (0, 0)) → Calls Tryz.prog 73 #[.slice (some ⟨g, 0, none⟩) 4 4] V fun e w' => e = .returned (.string (oidT [1, 3, 101, 112])) ∧ Below V.heap.size V w') := fun V g hg => implOid4 1 3 101 112 g V arcsKind hg
  have H2 : Hid (∀ V (g : Nat), V.heap[g]? = some (.cells #[.string (oidT [1, 3, 101, 112])] 9 (0, 0)) → Calls Tryz.prog 36 #[.slice (some ⟨g, 0, none⟩) 1 1] V fun e w' => e = .returned (.string kindD) ∧ Below V.heap.size V w') := fun V g hg => implSeq1 _ g V (by omega) hg
  clear z
  generalize oidT [1, 3, 101, 112] = q at *
  generalize kindD = k at *
  go_enter Tryz.func38, Tryz.ntmps38
  go_wp2_with fail
  refine (H1.out _ _ (heap_alloc_new w _)).mono ?_
  rintro e w2 ⟨rfl, b2⟩
  have B2 : Hid (Below w.heap.size w w2) := ((Below.refl _ w).alloc (Nat.le_refl _) _).trans (b2.mono (by simp))
  clear b2
  go_wp2_with fail
  refine (H2.out _ _ (heap_alloc_new w2 _)).mono ?_
  rintro e w3 ⟨rfl, b3⟩
  have B3 : Hid (Below w.heap.size w w3) := (B2.out.alloc B2.out.size _).trans (b3.mono (by have := B2.out.size; simp; omega))
  clear b3
  go_wp2
  go_ret
  exact ⟨rfl, B3.out⟩
end Go.Proofs.YtfliacfeebooeaaGreatDoor
namespace Go.Proofs.YtfliacfeebooeaaGreatDoor
open Go.RowKit

theorem isLetter (n : Int) (w : World) : Calls Tryz.prog 96 #[.int .u8 n] w fun e w' => e = .returned (.bool (decide (97 ≤ n) && decide (n ≤ 122))) ∧ w' = w := by
  by_cases h1 : 97 ≤ n
  · by_cases h2 : n ≤ 122
    all_goals
      go_enter Tryz.func96, Tryz.ntmps96
      go_wp2
      go_ret
      exact ⟨by simp [h1, h2], rfl⟩
  · go_enter Tryz.func96, Tryz.ntmps96
    go_wp2
    go_ret
    exact ⟨by simp; omega, rfl⟩
theorem isDigit (n : Int) (w : World) : Calls Tryz.prog 97 #[.int .u8 n] w fun e w' => e = .returned (.bool (decide (48 ≤ n) && decide (n ≤ 57))) ∧ w' = w := by
  by_cases h1 : 48 ≤ n
  · by_cases h2 : n ≤ 57
    all_goals
      go_enter Tryz.func97, Tryz.ntmps97
      go_wp2
      go_ret
      exact ⟨by simp [h1, h2], rfl⟩
  · go_enter Tryz.func97, Tryz.ntmps97
    go_wp2
    go_ret
    exact ⟨by simp; omega, rfl⟩

set_option maxHeartbeats 1000000 in
theorem implName (s : ByteArray) (w : World) (hs : s.size ≤ maxLen) :
    Calls Tryz.prog 64 #[.string s] w fun e w' => AnsB (NameOk s) e ∧ w' = w := by
  unfold maxLen at hs
  by_cases h1 : s.size < 1
  · go_enter Tryz.func64, Tryz.ntmps64
    go_wp2
    go_ret
    exact ⟨AnsB.no (fun h => by have := h.1; omega) rfl, rfl⟩
  by_cases h2 : 40 < s.size
  · go_enter Tryz.func64, Tryz.ntmps64
    go_wp2
    go_ret
    exact ⟨AnsB.no (fun h => by have := h.2.1; omega) rfl, rfl⟩
  have hp : 0 < s.size := by omega
  by_cases h3 : OkAt s 0 hp
  rotate_left
  · rcases cls (s[0].toNat : Int) with ⟨c, e1, e2, e3, e4, e5⟩ | ⟨c, e1, e2, e3, e4, e5⟩ | ⟨c, e1, e2, e3, e4, e5⟩ | ⟨c, e1, e2, e3, e4, e5⟩ | ⟨c, e1, e2, e3, e4, e5⟩ | ⟨c, e1, e2, e3, e4, e5⟩ | ⟨c, e1, e2, e3, e4, e5⟩
    all_goals
      first
        | (exfalso; exact h3 (by unfold OkAt OkN; omega))
        | (go_enter Tryz.func64, Tryz.ntmps64
           go_wp2
           go_ret
           exact ⟨AnsB.no (name_no s 0 hp h3) rfl, rfl⟩)
  have hc : 97 ≤ (s[0].toNat : Int) ∧ (s[0].toNat : Int) ≤ 122 := by unfold OkAt OkN at h3; omega
  obtain ⟨c1, c2⟩ := hc
  have H3 : Hid (OkAt s 0 hp) := h3
  clear h3
  go_enter Tryz.func64, Tryz.ntmps64
  go_wp2
  go_loop [3] (fun i => ∃ k : Nat, 1 ≤ k ∧ k ≤ s.size ∧ i = .int .i64 k ∧ OkTo s k) (fun i => s.size - (intOf i).toNat)
  case atStart => exact ⟨1, by omega, by omega, rfl, okTo_succ s 0 hp (okTo_zero s) H3.out⟩
  case round =>
    obtain ⟨k, hk1, hk, rfl, hok⟩ := hrel
    have HO : Hid (OkTo s k) := hok
    clear hok
    by_cases hlt : k < s.size
    · rcases cls (s[k].toNat : Int) with ⟨c, e1, e2, e3, e4, e5⟩ | ⟨c, e1, e2, e3, e4, e5⟩ | ⟨c, e1, e2, e3, e4, e5⟩ | ⟨c, e1, e2, e3, e4, e5⟩ | ⟨c, e1, e2, e3, e4, e5⟩ | ⟨c, e1, e2, e3, e4, e5⟩ | ⟨c, e1, e2, e3, e4, e5⟩
      all_goals
        go_wp2
        first
          | (go_ret; exact ⟨AnsB.no (name_no s k hlt (by unfold OkAt OkN; omega)) rfl, rfl⟩)
          | exact ⟨⟨k + 1, by omega, by omega, by go_num, okTo_succ s k hlt HO.out (by unfold OkAt OkN; omega)⟩, by simp [intOf]; omega⟩
    · go_wp2
      go_ret
      have e : k = s.size := by omega
      have hf := HO.out
      rw [e] at hf
      exact ⟨AnsB.yes ⟨by omega, by omega, hf⟩ rfl, rfl⟩
end Go.Proofs.YtfliacfeebooeaaGreatDoor
namespace Go.Proofs.YtfliacfeebooeaaGreatDoor
open Go.RowKit

theorem implTime (n : Int) (w : World) :
    Calls Tryz.prog 65 #[.int .i64 n] w fun e w' => e = .returned (.bool (timeB n)) ∧ w' = w := by
  by_cases h0 : 0 ≤ n
  · by_cases h1 : n ≤ 1000000000
    · have HF : Hid (timeB n = true) := by show _ = _; simp [timeB, h0, h1]
      go_enter Tryz.func65, Tryz.ntmps65
      go_wp2
      go_ret
      exact ⟨by rw [HF.out]; rfl, rfl⟩
    · have HF : Hid (timeB n = false) := by show _ = _; simp [timeB, h1]
      go_enter Tryz.func65, Tryz.ntmps65
      go_wp2
      go_ret
      exact ⟨by rw [HF.out]; rfl, rfl⟩
  · have HF : Hid (timeB n = false) := by show _ = _; simp [timeB, h0]
    go_enter Tryz.func65, Tryz.ntmps65
    go_wp2
    go_ret
    exact ⟨by rw [HF.out]; rfl, rfl⟩
theorem implSerial (n : Int) (w : World) :
    Calls Tryz.prog 63 #[.int .i64 n] w fun e w' => e = .returned (.bool (serB n)) ∧ w' = w := by
  by_cases h0 : 1 ≤ n
  · by_cases h1 : n ≤ 1000000000
    · have HF : Hid (serB n = true) := by show _ = _; simp [serB, h0, h1]
      go_enter Tryz.func63, Tryz.ntmps63
      go_wp2
      go_ret
      exact ⟨by rw [HF.out]; rfl, rfl⟩
    · have HF : Hid (serB n = false) := by show _ = _; simp [serB, h1]
      go_enter Tryz.func63, Tryz.ntmps63
      go_wp2
      go_ret
      exact ⟨by rw [HF.out]; rfl, rfl⟩
  · have HF : Hid (serB n = false) := by show _ = _; simp [serB, h0]
    go_enter Tryz.func63, Tryz.ntmps63
    go_wp2
    go_ret
    exact ⟨by rw [HF.out]; rfl, rfl⟩
theorem implNameB (s : ByteArray) (w : World) (hs : s.size ≤ maxLen) :
    Calls Tryz.prog 64 #[.string s] w fun e w' => e = .returned (.bool (nameB s)) ∧ w' = w :=
  (implName s w hs).mono fun _ _ h => ⟨ans_name h.1, h.2⟩
end Go.Proofs.YtfliacfeebooeaaGreatDoor
namespace Go.Proofs.YtfliacfeebooeaaGreatDoor
open Go.RowKit

set_option maxHeartbeats 1000000 in
set_option maxRecDepth 100000 in
theorem implNames (a : Option Addr) (ss : List ByteArray) (c : Nat) (w : World) (hl : ss.length ≤ 1048576) (hs : totS ss ss.length ≤ 1048576) (ha : IsStrs w a ss) :
    Calls Tryz.prog 67 #[.slice a ss.length c] w fun e w' => e = .returned (.bool (namesB ss)) ∧ Below w.heap.size w w' := by
  have HSz : Hid (∀ k, k < ss.length → (tAt ss k).size ≤ 1048576) := fun k hk => Nat.le_trans (totS_at ss hk) hs
  clear hs
  by_cases h5 : 5 < ss.length
  · have HF : Hid (namesB ss = false) := by show _ = _; rw [namesB, decide_eq_false (by omega)]; simp
    go_enter Tryz.func67, Tryz.ntmps67
    go_wp2
    go_ret
    exact ⟨by rw [HF.out]; rfl, Below.refl _ _⟩
  go_enter Tryz.func67, Tryz.ntmps67
  go_wp2
  go_loopw [10] (fun i wr => ∃ k : Nat, k ≤ ss.length ∧ i = .int .i64 k ∧ okTo ss k = true ∧ Below w.heap.size w wr) (fun i _ => ss.length - (intOf i).toNat)
  case atStart => exact ⟨0, Nat.zero_le _, rfl, rfl, Below.refl _ _⟩
  case round =>
    obtain ⟨k, hk, rfl, hok, hbr⟩ := hrel
    have HOk : Hid (okTo ss k = true) := hok
    have HB : Hid (Below w.heap.size w wr) := hbr
    clear hok
    by_cases hlt : k < ss.length
    · obtain ⟨x, o, rfl, hc⟩ : ∃ x o, a = some ⟨x, o, none⟩ ∧ ∀ i, i < ss.length → wr.cell? ⟨x, o + i, none⟩ = some (.string (tAt ss i)) := by
        rcases ha.below hbr ha.lt with rfl | h
        · simp at hlt
        · exact h
      have hck := hc k hlt
      have hz := HSz.out k hlt
      have HNm : Hid (∀ V : World, Calls Tryz.prog 64 #[.string (tAt ss k)] V fun e w' => e = .returned (.bool (nameB (tAt ss k))) ∧ w' = V) := fun V => implNameB _ V (by unfold maxLen; omega)
      clear hz
      have a0 : (0 : Int) ≤ (k : Int) := by omega
      have b0 : (k : Int) < (ss.length : Int) := by omega
      cases hn : nameB (tAt ss k) with
      | false =>
        have HF : Hid (namesB ss = false) := by show _ = _; rw [namesB, okTo_no (okN_not hn) hlt]; rfl
        rw [hn] at HNm
        generalize tAt ss k = z at *
        generalize ss.length = n at *
        clear hc ha hbr hn HSz
        go_wp2_with fail
        refine (HNm.out _).mono ?_
        rintro e w2 ⟨rfl, rfl⟩
        go_wp2
        go_ret
        exact ⟨by rw [HF.out]; rfl, HB.out⟩
      | true =>
        rw [hn] at HNm
        by_cases h0 : k = 0
        · subst h0
          have HF : Hid (okN ss 0 = true) := okN_zero hn
          rw [Nat.add_zero] at hck
          generalize tAt ss 0 = z at *
          generalize ss.length = n at *
          clear hc ha hbr hn HSz
          go_wp2_with fail
          refine (HNm.out _).mono ?_
          rintro e w2 ⟨rfl, rfl⟩
          go_wp2
          go_roundw
          case rel => exact ⟨1, by omega, by go_num, okTo_yes HOk.out HF.out, HB.out⟩
          case measure => simp [intOf]; omega
        · have hck1 := hc (k - 1) (by omega)
          have ek : ((k : Int) - 1) = ((k - 1 : Nat) : Int) := by omega
          have ew : IntKind.i64.wrap ((k : Int) - 1) = ((k - 1 : Nat) : Int) := by rw [IntKind.wrap_i64]; omega
          have a1 : (0 : Int) < (k : Int) := by omega
          have b1 : ((k - 1 : Nat) : Int) < (ss.length : Int) := by omega
          have hbl := okN_more (ss := ss) (k := k) (by omega) hn
          cases hr : Op.bytesLess (tAt ss (k - 1)).toList (tAt ss k).toList with
          | false =>
            have HF : Hid (namesB ss = false) := by show _ = _; rw [namesB, okTo_no (hbl.trans hr) hlt]; rfl
            generalize tAt ss k = z at *
            generalize tAt ss (k - 1) = y at *
            generalize k - 1 = k1 at *
            generalize ss.length = n at *
            clear hc ha hbr hn HSz hbl
            go_wp2_with fail
            refine (HNm.out _).mono ?_
            rintro e w2 ⟨rfl, rfl⟩
            go_wp2
            go_ret
            exact ⟨by rw [HF.out]; rfl, HB.out⟩
          | true =>
            have HF : Hid (okN ss k = true) := hbl.trans hr
            generalize tAt ss k = z at *
            generalize tAt ss (k - 1) = y at *
            generalize k - 1 = k1 at *
            generalize ss.length = n at *
            clear hc ha hbr hn HSz hbl
            go_wp2_with fail
            refine (HNm.out _).mono ?_
            rintro e w2 ⟨rfl, rfl⟩
            go_wp2
            go_roundw
            case rel => exact ⟨k + 1, by omega, by go_num, okTo_yes HOk.out HF.out, HB.out⟩
            case measure => simp [intOf]; omega
    · obtain rfl : k = ss.length := by omega
      have HF : Hid (namesB ss = true) := by show _ = _; rw [namesB, HOk.out, decide_eq_true (by omega)]; rfl
      clear ha hbr
      go_wp2
      go_ret
      exact ⟨by rw [HF.out]; rfl, HB.out⟩
end Go.Proofs.YtfliacfeebooeaaGreatDoor
namespace Go.Proofs.YtfliacfeebooeaaGreatDoor
open Go.RowKit

set_option maxHeartbeats 2000000 in
set_option maxRecDepth 100000 in
theorem implPaper (c : Paper) (a : Option Addr) (cap : Nat) (w : World) (hi : c.issuer.size ≤ maxLen) (hs : c.subject.size ≤ maxLen) (hl : c.names.length ≤ 1048576) (ht : totS c.names c.names.length ≤ 1048576) (ha : IsStrs w a c.names) :
    Calls Tryz.prog 34 #[c.val (.slice a c.names.length cap)] w fun e w' => e = .returned (.bool (paperB c)) ∧ Below w.heap.size w w' := by
  obtain ⟨ser, iss, sub, fr, till, key, names, ca, sk, se, ss⟩ := c
  simp only at hi hs hl ht ha
  unfold Paper.val
  simp only
  obtain ⟨R, hR⟩ : ∃ R, R = paperB ⟨ser, iss, sub, fr, till, key, names, ca, sk, se, ss⟩ := ⟨_, rfl⟩
  rw [← hR]
  have HR : Hid (R = (decide (1 ≤ ser) && decide (ser ≤ 1000000000) && nameB iss && nameB sub && timeB fr && timeB till && decide (fr ≤ till) && rightG key && namesB names)) := hR
  clear hR
  obtain ⟨w1, hw1⟩ : ∃ w1, w1 = w.alloc (.cells #[.int .i64 ser, .string iss, .string sub, .int .i64 fr, .int .i64 till, .int .i64 key, .slice a names.length cap, .bool ca, .int .i64 sk, .int .i64 se, .int .i64 ss] 26 (0, 0)) := ⟨_, rfl⟩
  have hrow : w1.heap[w.heap.size]? = some (.cells [Value.int .i64 ser, .string iss, .string sub, .int .i64 fr, .int .i64 till, .int .i64 key, .slice a names.length cap, .bool ca, .int .i64 sk, .int .i64 se, .int .i64 ss].toArray 26 (0, 0)) := by rw [hw1]; exact heap_alloc_new w _
  have B1 : Hid (Below w.heap.size w w1) := by rw [hw1]; exact (Below.refl _ _).alloc (Nat.le_refl _) _
  have A1 : Hid (IsStrs w1 a names) := ha.keep B1.out
  have c0 := rowFacts hrow 0 _ rfl
  have c1 := rowFacts hrow 1 _ rfl
  have c2 := rowFacts hrow 2 _ rfl
  have c3 := rowFacts hrow 3 _ rfl
  have c4 := rowFacts hrow 4 _ rfl
  have c5 := rowFacts hrow 5 _ rfl
  have c6 := rowFacts hrow 6 _ rfl
  have HNm : Hid (∀ V, IsStrs V a names → Calls Tryz.prog 67 #[.slice a names.length cap] V fun e w' => e = .returned (.bool (namesB names)) ∧ Below V.heap.size V w') := fun V hV => implNames a names cap V hl ht hV
  have HRow : Hid (w1.heap[w.heap.size]? = some (.cells [Value.int .i64 ser, .string iss, .string sub, .int .i64 fr, .int .i64 till, .int .i64 key, .slice a names.length cap, .bool ca, .int .i64 sk, .int .i64 se, .int .i64 ss].toArray 26 (0, 0))) := hrow
  generalize names.length = nl at *
  clear hrow ha hl ht
  go_enter Tryz.func34, Tryz.ntmps34
  go_upto_region 1 with fail
  rw [← hw1]
  clear hw1
  go_wp2_with fail
  refine (implSerial ser _).mono ?_
  rintro e w2 ⟨rfl, rfl⟩
  cases h1 : serB ser with
  | false =>
    have HF : Hid (R = false) := by show _ = _; rw [HR.out]; unfold serB at h1; rw [h1]; rfl
    go_wp2
    go_ret
    exact ⟨by rw [HF.out]; rfl, B1.out⟩
  | true =>
  unfold serB at h1
  rw [h1] at HR
  clear h1
  go_wp2_with fail
  refine (implNameB iss _ hi).mono ?_
  rintro e w2 ⟨rfl, rfl⟩
  cases h3 : nameB iss with
  | false =>
    have HF : Hid (R = false) := by show _ = _; rw [HR.out]; simp [h3]
    go_wp2
    go_ret
    exact ⟨by rw [HF.out]; rfl, B1.out⟩
  | true =>
  rw [h3] at HR
  go_wp2_with fail
  refine (implNameB sub _ hs).mono ?_
  rintro e w2 ⟨rfl, rfl⟩
  cases h4 : nameB sub with
  | false =>
    have HF : Hid (R = false) := by show _ = _; rw [HR.out]; simp [h4]
    go_wp2
    go_ret
    exact ⟨by rw [HF.out]; rfl, B1.out⟩
  | true =>
  rw [h4] at HR
  go_wp2_with fail
  refine (implTime fr _).mono ?_
  rintro e w2 ⟨rfl, rfl⟩
  cases h5 : timeB fr with
  | false =>
    have HF : Hid (R = false) := by show _ = _; rw [HR.out]; simp [h5]
    go_wp2
    go_ret
    exact ⟨by rw [HF.out]; rfl, B1.out⟩
  | true =>
  rw [h5] at HR
  go_wp2_with fail
  refine (implTime till _).mono ?_
  rintro e w2 ⟨rfl, rfl⟩
  cases h6 : timeB till with
  | false =>
    have HF : Hid (R = false) := by show _ = _; rw [HR.out]; simp [h6]
    go_wp2
    go_ret
    exact ⟨by rw [HF.out]; rfl, B1.out⟩
  | true =>
  rw [h6] at HR
  by_cases h7 : fr ≤ till
  rotate_left
  · have h7' : till < fr := by omega
    have HF : Hid (R = false) := by show _ = _; rw [HR.out]; simp [h7]
    go_wp2
    go_ret
    exact ⟨by rw [HF.out]; rfl, B1.out⟩
  rw [decide_eq_true h7] at HR
  go_wp2_with fail
  refine (implGroupRight key _).mono ?_
  rintro e w3 ⟨rfl, b3⟩
  have B3 : Hid (Below w.heap.size w w3) := B1.out.trans (b3.mono B1.out.size)
  have A3 : Hid (IsStrs w3 a names) := A1.out.keep b3
  have d6 := (b3.cell (p := ⟨w.heap.size, 6, none⟩) (heap_lt HRow.out)).trans c6
  clear b3
  cases h8 : rightG key with
  | false =>
    have HF : Hid (R = false) := by show _ = _; rw [HR.out]; simp [h8]
    go_wp2
    go_ret
    exact ⟨by rw [HF.out]; rfl, B3.out⟩
  | true =>
  rw [h8] at HR
  have HF : Hid (R = namesB names) := by show _ = _; rw [HR.out]; simp
  go_wp2_with fail
  refine (HNm.out _ A3.out).mono ?_
  rintro e w4 ⟨rfl, b4⟩
  rw [← HF.out]
  have B4 : Hid (Below w.heap.size w w4) := B3.out.trans (b4.mono B3.out.size)
  clear b4
  go_wp2
  go_ret
  exact ⟨rfl, B4.out⟩
end Go.Proofs.YtfliacfeebooeaaGreatDoor
namespace Go.Proofs.YtfliacfeebooeaaGreatDoor
open Go.RowKit

theorem implRem (n : Int) (w : World) :
    Calls Tryz.prog 68 #[.int .i64 n] w fun e w' => e = .returned (.bool (remB n)) ∧ w' = w := by
  by_cases h1 : 0 ≤ n
  · by_cases h2 : n < 1073741789
    · have e : remB n = true := decide_eq_true ⟨h1, h2⟩
      rw [e]
      go_enter Tryz.func68, Tryz.ntmps68
      go_wp2
      go_ret
      exact ⟨rfl, rfl⟩
    · have e : remB n = false := decide_eq_false (by omega)
      rw [e]
      go_enter Tryz.func68, Tryz.ntmps68
      go_wp2
      go_ret
      exact ⟨rfl, rfl⟩
  · have e : remB n = false := decide_eq_false (by omega)
    rw [e]
    go_enter Tryz.func68, Tryz.ntmps68
    go_wp2
    go_ret
    exact ⟨rfl, rfl⟩
set_option maxHeartbeats 1000000 in
set_option maxRecDepth 100000 in
theorem implSigRight (k e s : Int) (w : World) :
    Calls Tryz.prog 35 #[.agg #[.int .i64 k, .int .i64 e, .int .i64 s]] w fun r w' => r = .returned (.bool (sigRB k e s)) ∧ Below w.heap.size w w' := by
  go_enter Tryz.func35, Tryz.ntmps35
  go_wp2_with fail
  refine (implGroupRight k _).mono ?_
  rintro e1 w1 ⟨rfl, hb1⟩
  have HB : Hid (Below w.heap.size w w1) := ((Below.refl _ w).alloc (Nat.le_refl _) _).trans (hb1.mono (by simp))
  have c1 : w1.cell? ⟨w.heap.size, 1, none⟩ = some (.int .i64 e) := by rw [hb1.cell (p := ⟨w.heap.size, 1, none⟩) (by simp)]; simp
  have c2 : w1.cell? ⟨w.heap.size, 2, none⟩ = some (.int .i64 s) := by rw [hb1.cell (p := ⟨w.heap.size, 2, none⟩) (by simp)]; simp
  clear hb1
  by_cases h1 : rightG k = true
  · rw [h1]
    go_wp2_with fail
    refine (implRem e _).mono ?_
    rintro e2 w2 ⟨rfl, rfl⟩
    by_cases h2 : remB e = true
    · rw [h2]
      go_wp2_with fail
      refine (implRem s _).mono ?_
      rintro e3 w3 ⟨rfl, rfl⟩
      generalize hb3 : remB s = b
      go_wp2
      go_ret
      exact ⟨by simp [sigRB, *], HB.out⟩
    · rw [Bool.not_eq_true] at h2
      rw [h2]
      go_wp2
      go_ret
      exact ⟨by simp [sigRB, *], HB.out⟩
  · rw [Bool.not_eq_true] at h1
    rw [h1]
    go_wp2
    go_ret
    exact ⟨by simp [sigRB, *], HB.out⟩
end Go.Proofs.YtfliacfeebooeaaGreatDoor
namespace Go.Proofs.YtfliacfeebooeaaGreatDoor
open Go.RowKit

set_option maxHeartbeats 2000000 in
set_option maxRecDepth 100000 in
theorem implCert (c : Paper) (a : Option Addr) (cap : Nat) (w : World) (hi : c.issuer.size ≤ maxLen) (hs : c.subject.size ≤ maxLen) (hl : c.names.length ≤ 1048576) (ht : totS c.names c.names.length ≤ 1048576) (ha : IsStrs w a c.names) :
    Calls Tryz.prog 13 #[c.val (.slice a c.names.length cap)] w fun e w' => e = .returned (.bool (certB c)) ∧ Below w.heap.size w w' := by
  have HP : Hid (∀ V, IsStrs V a c.names → Calls Tryz.prog 34 #[c.val (.slice a c.names.length cap)] V fun e w' => e = .returned (.bool (paperB c)) ∧ Below V.heap.size V w') := fun V hV => implPaper c a cap V hi hs hl ht hV
  obtain ⟨R, hR⟩ : ∃ R, R = certB c := ⟨_, rfl⟩
  rw [← hR]
  obtain ⟨P, hP⟩ : ∃ P, P = paperB c := ⟨_, rfl⟩
  rw [← hP] at HP
  have HR : Hid (R = (P && sigRB c.sk c.se c.ss)) := by show _ = _; rw [hR, hP]; rfl
  clear hR hP
  obtain ⟨ser, iss, sub, fr, till, key, names, ca, sk, se, ss⟩ := c
  simp only at hi hs hl ht ha HP HR
  unfold Paper.val at HP ⊢
  simp only at HP ⊢
  generalize names.length = nl at *
  obtain ⟨w1, hw1⟩ : ∃ w1, w1 = w.alloc (.cells #[.int .i64 ser, .string iss, .string sub, .int .i64 fr, .int .i64 till, .int .i64 key, .slice a nl cap, .bool ca, .int .i64 sk, .int .i64 se, .int .i64 ss] 26 (0, 0)) := ⟨_, rfl⟩
  have hrow : w1.heap[w.heap.size]? = some (.cells [Value.int .i64 ser, .string iss, .string sub, .int .i64 fr, .int .i64 till, .int .i64 key, .slice a nl cap, .bool ca, .int .i64 sk, .int .i64 se, .int .i64 ss].toArray 26 (0, 0)) := by rw [hw1]; exact heap_alloc_new w _
  have B1 : Hid (Below w.heap.size w w1) := by rw [hw1]; exact (Below.refl _ _).alloc (Nat.le_refl _) _
  have A1 : Hid (IsStrs w1 a names) := ha.keep B1.out
  have c0 := rowFacts hrow 0 _ rfl
  have c1 := rowFacts hrow 1 _ rfl
  have c2 := rowFacts hrow 2 _ rfl
  have c3 := rowFacts hrow 3 _ rfl
  have c4 := rowFacts hrow 4 _ rfl
  have c5 := rowFacts hrow 5 _ rfl
  have c6 := rowFacts hrow 6 _ rfl
  have c7 := rowFacts hrow 7 _ rfl
  have c8 := rowFacts hrow 8 _ rfl
  have c9 := rowFacts hrow 9 _ rfl
  have c10 := rowFacts hrow 10 _ rfl
  have HRow : Hid (w1.heap[w.heap.size]? = some (.cells [Value.int .i64 ser, .string iss, .string sub, .int .i64 fr, .int .i64 till, .int .i64 key, .slice a nl cap, .bool ca, .int .i64 sk, .int .i64 se, .int .i64 ss].toArray 26 (0, 0))) := hrow
  clear hrow ha hl ht hi hs
  go_enter Tryz.func13, Tryz.ntmps13
  go_upto_region 1 with fail
  rw [← hw1]
  clear hw1
  go_wp2_with fail
  refine (HP.out _ A1.out).mono ?_
  rintro e w2 ⟨rfl, b2⟩
  have B2 : Hid (Below w.heap.size w w2) := B1.out.trans (b2.mono B1.out.size)
  have d8 := (b2.cell (p := ⟨w.heap.size, 8, none⟩) (heap_lt HRow.out)).trans c8
  have d9 := (b2.cell (p := ⟨w.heap.size, 9, none⟩) (heap_lt HRow.out)).trans c9
  have d10 := (b2.cell (p := ⟨w.heap.size, 10, none⟩) (heap_lt HRow.out)).trans c10
  clear b2 c0 c1 c2 c3 c4 c5 c6 c7 c8 c9 c10 HP A1 HRow
  cases P with
  | false =>
    have HF : Hid (R = false) := HR.out
    go_wp2
    go_ret
    exact ⟨by rw [HF.out]; rfl, B2.out⟩
  | true =>
  have HF : Hid (R = sigRB sk se ss) := HR.out
  go_wp2_with fail
  refine (implSigRight sk se ss _).mono ?_
  rintro e w4 ⟨rfl, b4⟩
  rw [← HF.out]
  have B4 : Hid (Below w.heap.size w w4) := B2.out.trans (b4.mono B2.out.size)
  clear b4
  go_wp2
  go_ret
  exact ⟨rfl, B4.out⟩
end Go.Proofs.YtfliacfeebooeaaGreatDoor
namespace Go.Proofs.YtfliacfeebooeaaGreatDoor
open Go.RowKit

/-- A row of the three numbers of a Sig stands in block b. -/
def Row3 (x y z : Int) (V : World) (b : Nat) : Prop := V.heap[b]? = some (.cells #[.int .i64 x, .int .i64 y, .int .i64 z] 2 (0, 0))
theorem Row3.keep {x y z : Int} {V W : World} {b : Nat} (h : Row3 x y z V b) (hb : Below V.heap.size V W) : Row3 x y z W b := (hb.block b (heap_lt h)).trans h
theorem Row3.al {x y z : Int} {V : World} {b : Nat} {o : Obj} (h : Row3 x y z V b) : Row3 x y z (V.alloc o) b := by
  unfold Row3
  rw [Below.heap_alloc _ _ _ (heap_lt h)]
  exact h
theorem alKeep {V : World} {g : Nat} {o r : Obj} (h : V.heap[g]? = some r) : (V.alloc o).heap[g]? = some r := by
  rw [Below.heap_alloc _ _ _ (heap_lt h)]
  exact h
end Go.Proofs.YtfliacfeebooeaaGreatDoor
