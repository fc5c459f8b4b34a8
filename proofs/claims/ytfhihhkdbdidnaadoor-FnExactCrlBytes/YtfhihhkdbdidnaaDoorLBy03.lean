/- A paper's body, as bytes. Plain mathematics: no program is named here. A paper's bytes. Plain mathematics: no program is named here. What is asked for, and lists of what is taken back: which are right but for what their signatures tell, their bodies and bytes. Plain mathematics: no program is named here. Serials, rising: when they are. Plain mathematics: no program is named here. What the program's table of types says of int64. A row of whole numbers: what is said of it. spec.l05Is, walked. spec.l06Time, spec.NameRight, walked. The specification's side of lists: spec.l07List, walked. spec.l05Put, walked. -/
import Derived.Test.YtfhihhkdbdidnaaDoorLBy02
import Derived.Test.YtfhihhkdbdidnaaDoorLBy01
import Derived.Handy
import Derived.Deep.QuietTactic
import Derived.BigQuiet
import Derived.WalkLawsBesides
import Derived.Deep.Cut
import Derived.Deep.RegionHeld3
namespace Go.Proofs.YtfhihhkdbdidnaaDoor
open Go.RowKit

theorem isEmpty_of {T : ByteArray} (h : T.size = 0) : T.toList.isEmpty = true := by rw [List.isEmpty_iff, Lib.toList_data, List.eq_nil_iff_length_eq_zero, ← Lib.size_eq]; exact h
theorem isEmpty_not {T : ByteArray} (h : T.size ≠ 0) : T.toList.isEmpty = false := by
  rw [← Bool.not_eq_true, List.isEmpty_iff, Lib.toList_data, List.eq_nil_iff_length_eq_zero, ← Lib.size_eq]; exact h
def seqD (b : ByteArray) : ByteArray := thingD 48 b
def oidT (l : List Int) : ByteArray := thingD 6 (strOfNums (oidL l))
def intD (n : Int) : ByteArray := thingD 2 (strOfNums (intL n))
def kindD : ByteArray := seqD (oidT [1, 3, 101, 112])
def nameD (t : ByteArray) : ByteArray := seqD (thingD 49 (seqD (oidT [2, 5, 4, 3] ++ thingD 12 t)))
def hostsD (ss : List ByteArray) : Nat → ByteArray
  | 0 => ⟨#[]⟩
  | k + 1 => hostsD ss k ++ thingD 130 (tAt ss k)
def namesD (ss : List ByteArray) : ByteArray := if ss.length = 0 then ⟨#[]⟩ else seqD (oidT [2, 5, 29, 17] ++ thingD 4 (seqD (hostsD ss ss.length)))
def soD : ByteArray := thingD 1 ⟨#[255]⟩
def caT : ByteArray := seqD (oidT [2, 5, 29, 19] ++ (soD ++ thingD 4 (seqD soD)))
def caD (b : Bool) : ByteArray := if b = true then caT else ⟨#[]⟩
def moreT (t : ByteArray) : ByteArray := if t.size = 0 then ⟨#[]⟩ else thingD 163 (seqD t)
def moreD (ss : List ByteArray) (ca : Bool) : ByteArray := moreT (namesD ss ++ caD ca)
def keyD (k : Int) : ByteArray := seqD (kindD ++ thingD 3 (⟨#[0]⟩ ++ putS k))
def bodyD (c : Paper) : ByteArray :=
  seqD (thingD 160 (intD 2) ++ (intD c.serial ++ (kindD ++ (nameD c.issuer ++ (seqD (intD c.fr ++ intD c.till) ++ (nameD c.subject ++ (keyD c.key ++ moreD c.names c.ca)))))))
noncomputable def certBodyD (c : Paper) : ByteArray := if paperB c = true then bodyD c else ⟨#[]⟩
theorem arcs_lit {a b c d : Int} (h : arcsB [a, b, c, d] = true) : (oidT [a, b, c, d]).size ≤ 49 := by
  have h1 := thingD_le 6 (strOfNums (oidL [a, b, c, d]))
  rw [strOfNums_size] at h1
  have := oidL_len h
  unfold oidT
  omega
theorem arcsKind : arcsB [1, 3, 101, 112] = true := by decide
theorem arcsName : arcsB [2, 5, 4, 3] = true := by decide
theorem arcs17 : arcsB [2, 5, 29, 17] = true := by decide
theorem arcs19 : arcsB [2, 5, 29, 19] = true := by decide
theorem seqD_le (b : ByteArray) : (seqD b).size ≤ b.size + 4 := thingD_le 48 b
theorem intD_le (n : Int) : (intD n).size ≤ 12 := by
  have h1 := thingD_le 2 (strOfNums (intL n))
  rw [strOfNums_size] at h1
  have := (intL_len n).2
  unfold intD
  omega
theorem kindD_le : kindD.size ≤ 53 := by
  have h1 := seqD_le (oidT [1, 3, 101, 112])
  have h2 := arcs_lit arcsKind
  unfold kindD
  omega
theorem nameD_le (t : ByteArray) : (nameD t).size ≤ t.size + 65 := by
  have h1 := seqD_le (thingD 49 (seqD (oidT [2, 5, 4, 3] ++ thingD 12 t)))
  have h2 := thingD_le 49 (seqD (oidT [2, 5, 4, 3] ++ thingD 12 t))
  have h3 := seqD_le (oidT [2, 5, 4, 3] ++ thingD 12 t)
  have h4 := thingD_le 12 t
  have h5 := arcs_lit arcsName
  rw [ByteArray.size_append] at h3
  unfold nameD
  omega
theorem hostsD_le {ss : List ByteArray} : ∀ k, (∀ i, i < k → (tAt ss i).size ≤ 40) → (hostsD ss k).size ≤ 44 * k
  | 0, _ => Nat.le_refl _
  | k + 1, h => by
    have h1 := hostsD_le k (fun i hi => h i (by omega))
    have h2 := thingD_le 130 (tAt ss k)
    have h3 := h k (by omega)
    show (hostsD ss k ++ thingD 130 (tAt ss k)).size ≤ _
    rw [ByteArray.size_append]
    omega
theorem soD_le : soD.size ≤ 5 := thingD_le 1 ⟨#[255]⟩
theorem caT_le : caT.size ≤ 80 := by
  have h1 := seqD_le (oidT [2, 5, 29, 19] ++ (soD ++ thingD 4 (seqD soD)))
  have h2 := arcs_lit arcs19
  have h3 := soD_le
  have h4 := thingD_le 4 (seqD soD)
  have h5 := seqD_le soD
  rw [ByteArray.size_append, ByteArray.size_append] at h1
  unfold caT
  omega
theorem keyD_le (k : Int) : (keyD k).size ≤ 72 := by
  have h1 := seqD_le (kindD ++ thingD 3 (⟨#[0]⟩ ++ putS k))
  have h2 := thingD_le 3 (⟨#[0]⟩ ++ putS k)
  have h3 := putS_size k
  have h4 := kindD_le
  have h5 : (⟨#[0]⟩ : ByteArray).size = 1 := rfl
  rw [ByteArray.size_append] at h1 h2
  unfold keyD
  omega
/-- What a name's text is no longer than. -/
theorem name_size {s : ByteArray} (h : nameB s = true) : s.size ≤ 40 := by
  have : NameOk s := by simpa [nameB] using h
  exact this.2.1
theorem okTo_name {ss : List ByteArray} : ∀ {n : Nat}, okTo ss n = true → ∀ i, i < n → (tAt ss i).size ≤ 40 := by
  intro n
  induction n with
  | zero => intro _ i hi; omega
  | succ n ih =>
    intro h i hi
    have h' : (okTo ss n && okN ss n) = true := h
    rw [Bool.and_eq_true] at h'
    by_cases e : i = n
    · subst e
      have := h'.2
      unfold okN at this
      rw [Bool.and_eq_true] at this
      exact name_size this.1
    · exact ih h'.1 i (by omega)
/-- What is known of a paper that is right but for its Sig. -/
structure PFits (c : Paper) : Prop where
  ser0 : 1 ≤ c.serial
  ser1 : c.serial ≤ 1000000000
  iss : c.issuer.size ≤ 40
  sub : c.subject.size ≤ 40
  fr0 : 0 ≤ c.fr
  fr1 : c.fr ≤ 1000000000
  till0 : 0 ≤ c.till
  till1 : c.till ≤ 1000000000
  key0 : 1 < c.key
  key1 : c.key < 2147483579
  len : c.names.length ≤ 5
  each : ∀ i, i < c.names.length → (tAt c.names i).size ≤ 40
theorem paper_fits {c : Paper} (h : paperB c = true) : PFits c := by
  unfold paperB at h
  simp only [Bool.and_eq_true, decide_eq_true_eq] at h
  obtain ⟨⟨⟨⟨⟨⟨⟨⟨h1, h2⟩, h3⟩, h4⟩, h5⟩, h6⟩, _⟩, h8⟩, h9⟩ := h
  unfold timeB at h5 h6
  simp only [Bool.and_eq_true, decide_eq_true_eq] at h5 h6
  have h8' := of_decide_eq_true h8
  unfold namesB at h9
  simp only [Bool.and_eq_true, decide_eq_true_eq] at h9
  exact ⟨h1, h2, name_size h3, name_size h4, h5.1, h5.2, h6.1, h6.2, h8'.1, h8'.2.1, h9.2, okTo_name h9.1⟩
theorem namesD_le {ss : List ByteArray} (h : ss.length ≤ 5) (h' : ∀ i, i < ss.length → (tAt ss i).size ≤ 40) : (namesD ss).size ≤ 290 := by
  unfold namesD
  split
  · exact Nat.zero_le _
  · have h1 := seqD_le (oidT [2, 5, 29, 17] ++ thingD 4 (seqD (hostsD ss ss.length)))
    have h2 := thingD_le 4 (seqD (hostsD ss ss.length))
    have h3 := seqD_le (hostsD ss ss.length)
    have h4 := hostsD_le (ss := ss) ss.length h'
    have h5 := arcs_lit arcs17
    rw [ByteArray.size_append] at h1
    omega
theorem caD_le (b : Bool) : (caD b).size ≤ 80 := by
  unfold caD
  split
  · exact caT_le
  · exact Nat.zero_le _
theorem moreD_le {ss : List ByteArray} (h : ss.length ≤ 5) (h' : ∀ i, i < ss.length → (tAt ss i).size ≤ 40) (ca : Bool) : (moreD ss ca).size ≤ 380 := by
  have h1 := namesD_le h h'
  have h2 := caD_le ca
  unfold moreD moreT
  split
  · exact Nat.zero_le _
  · have h3 := thingD_le 163 (seqD (namesD ss ++ caD ca))
    have h4 := seqD_le (namesD ss ++ caD ca)
    rw [ByteArray.size_append] at h4
    omega
end Go.Proofs.YtfhihhkdbdidnaaDoor
namespace Go.Proofs.YtfhihhkdbdidnaaDoor
open Go.RowKit

def sigT (k e s : Int) : ByteArray := ⟨#[0]⟩ ++ putS k ++ putS e ++ putS s
def sigD (k e s : Int) : ByteArray := thingD 3 (sigT k e s)
def bytesD (c : Paper) : ByteArray := seqD (bodyD c ++ (kindD ++ sigD c.sk c.se c.ss))
noncomputable def certBytesD (c : Paper) : ByteArray := if certB c = true then bytesD c else ⟨#[]⟩
theorem sigT_le (k e s : Int) : (sigT k e s).size ≤ 31 := by
  have h1 := putS_size k
  have h2 := putS_size e
  have h3 := putS_size s
  unfold sigT
  simp only [ByteArray.size_append]
  have h4 : (⟨#[0]⟩ : ByteArray).size = 1 := rfl
  omega
theorem sigD_le (k e s : Int) : (sigD k e s).size ≤ 35 := by
  have h1 := thingD_le 3 (sigT k e s)
  have h2 := sigT_le k e s
  unfold sigD
  omega
theorem bodyD_le {c : Paper} (h : PFits c) : (bodyD c).size ≤ 900 := by
  have y1 := intD_le 2
  have y2 := intD_le c.serial
  have y3 := kindD_le
  have y4 := nameD_le c.issuer
  have y5 := nameD_le c.subject
  have y6 := intD_le c.fr
  have y7 := intD_le c.till
  have y8 := thingD_le 160 (intD 2)
  have y9 := keyD_le c.key
  have y10 := seqD_le (intD c.fr ++ intD c.till)
  have y11 := moreD_le h.len h.each c.ca
  have y12 := h.iss
  have y13 := h.sub
  have z := seqD_le (thingD 160 (intD 2) ++ (intD c.serial ++ (kindD ++ (nameD c.issuer ++ (seqD (intD c.fr ++ intD c.till) ++ (nameD c.subject ++ (keyD c.key ++ moreD c.names c.ca)))))))
  simp only [ByteArray.size_append] at z y10
  unfold bodyD
  omega
theorem certB_paper {c : Paper} (h : certB c = true) : paperB c = true := by
  unfold certB at h
  rw [Bool.and_eq_true] at h
  exact h.1
theorem certB_sig {c : Paper} (h : certB c = true) : (1 < c.sk ∧ c.sk < 2147483579) ∧ (0 ≤ c.se ∧ c.se < 1073741789) ∧ 0 ≤ c.ss ∧ c.ss < 1073741789 := by
  unfold certB sigRB at h
  simp only [Bool.and_eq_true] at h
  have h1 := of_decide_eq_true h.2.1.1
  exact ⟨⟨h1.1, h1.2.1⟩, of_decide_eq_true h.2.1.2, of_decide_eq_true h.2.2⟩
end Go.Proofs.YtfhihhkdbdidnaaDoor
namespace Go.Proofs.YtfhihhkdbdidnaaDoor
open Go.RowKit

structure Ask where
  key : Int
  names : List ByteArray
  sk : Int
  se : Int
  ss : Int
def Ask.val (c : Ask) (v : Value) : Value := .agg #[.int .i64 c.key, v, .int .i64 c.sk, .int .i64 c.se, .int .i64 c.ss]
/-- Right, but for its Sig. -/
noncomputable def askB (c : Ask) : Bool := rightG c.key && namesB c.names && decide (0 < c.names.length)
def askD (c : Ask) : ByteArray := seqD (intD 0 ++ (thingD 3 (⟨#[0]⟩ ++ putS c.key) ++ seqD (hostsD c.names c.names.length)))
/-- Right, but for its Sig's check. -/
noncomputable def formB (c : Ask) : Bool := askB c && sigRB c.sk c.se c.ss && decide (c.sk = c.key)
def askT (e s : Int) : ByteArray := ⟨#[0]⟩ ++ putS e ++ putS s
def askY (c : Ask) : ByteArray := seqD (askD c ++ thingD 3 (askT c.se c.ss))
theorem askT_le (e s : Int) : (askT e s).size ≤ 21 := by
  have h2 := putS_size e
  have h3 := putS_size s
  unfold askT
  simp only [ByteArray.size_append]
  have h4 : (⟨#[0]⟩ : ByteArray).size = 1 := rfl
  omega
theorem names_fit {ss : List ByteArray} (h : namesB ss = true) : ss.length ≤ 5 ∧ ∀ i, i < ss.length → (tAt ss i).size ≤ 40 := by
  unfold namesB at h
  simp only [Bool.and_eq_true, decide_eq_true_eq] at h
  exact ⟨h.2, okTo_name h.1⟩
theorem rightG_lt {k : Int} (h : rightG k = true) : 1 < k ∧ k < 2147483579 := by
  have h8' := of_decide_eq_true h
  exact ⟨h8'.1, h8'.2.1⟩
theorem sigRB_lt {k e s : Int} (h : sigRB k e s = true) : (1 < k ∧ k < 2147483579) ∧ (0 ≤ e ∧ e < 1073741789) ∧ 0 ≤ s ∧ s < 1073741789 := by
  unfold sigRB at h
  simp only [Bool.and_eq_true] at h
  exact ⟨rightG_lt h.1.1, of_decide_eq_true h.1.2, of_decide_eq_true h.2⟩
theorem ask_fits {c : Ask} (h : askB c = true) : (1 < c.key ∧ c.key < 2147483579) ∧ c.names.length ≤ 5 ∧ 0 < c.names.length ∧ ∀ i, i < c.names.length → (tAt c.names i).size ≤ 40 := by
  unfold askB at h
  simp only [Bool.and_eq_true, decide_eq_true_eq] at h
  obtain ⟨⟨h1, h2⟩, h3⟩ := h
  exact ⟨rightG_lt h1, (names_fit h2).1, h3, (names_fit h2).2⟩
theorem askK_le (k : Int) : (thingD 3 (⟨#[0]⟩ ++ putS k)).size ≤ 15 := by
  have h2 := thingD_le 3 (⟨#[0]⟩ ++ putS k)
  have h3 := putS_size k
  have h5 : (⟨#[0]⟩ : ByteArray).size = 1 := rfl
  rw [ByteArray.size_append] at h2
  omega
theorem hosts_le {ss : List ByteArray} (h : ss.length ≤ 5) (h' : ∀ i, i < ss.length → (tAt ss i).size ≤ 40) : (seqD (hostsD ss ss.length)).size ≤ 224 := by
  have h4 := hostsD_le (ss := ss) ss.length h'
  have h3 := seqD_le (hostsD ss ss.length)
  omega
theorem askD_le {c : Ask} (h : askB c = true) : (askD c).size ≤ 255 := by
  obtain ⟨_, h2, _, h4⟩ := ask_fits h
  have y1 := intD_le 0
  have y2 := askK_le c.key
  have y3 := hosts_le h2 h4
  have z := seqD_le (intD 0 ++ (thingD 3 (⟨#[0]⟩ ++ putS c.key) ++ seqD (hostsD c.names c.names.length)))
  simp only [ByteArray.size_append] at z
  unfold askD
  omega
theorem thing_pos (t : Int) (b : ByteArray) : 0 < (thingD t b).size := by
  rw [thingD_size]
  omega
theorem formB_ask {c : Ask} (h : formB c = true) : askB c = true := by
  unfold formB at h
  simp only [Bool.and_eq_true] at h
  exact h.1.1
theorem formB_sig {c : Ask} (h : formB c = true) : sigRB c.sk c.se c.ss = true := by
  unfold formB at h
  simp only [Bool.and_eq_true] at h
  exact h.1.2

structure Lst where
  issuer : ByteArray
  fr : Int
  till : Int
  serials : List Int
  sk : Int
  se : Int
  ss : Int
def Lst.val (c : Lst) (v : Value) : Value := .agg #[.string c.issuer, .int .i64 c.fr, .int .i64 c.till, v, .int .i64 c.sk, .int .i64 c.se, .int .i64 c.ss]
def okS (zs : List Int) (i : Nat) : Bool := serB (zs.getD i 0) && (decide (i = 0) || decide (zs.getD (i - 1) 0 < zs.getD i 0))
def okSTo (zs : List Int) : Nat → Bool
  | 0 => true
  | k + 1 => okSTo zs k && okS zs k
theorem okSTo_no {zs : List Int} {k : Nat} (h : okS zs k = false) : ∀ {n : Nat}, k < n → okSTo zs n = false := by
  intro n
  induction n with
  | zero => intro h'; omega
  | succ n ih =>
    intro h'
    show (okSTo zs n && okS zs n) = false
    by_cases e : k = n
    · subst e; rw [h]; simp
    · rw [ih (by omega)]; rfl
theorem okSTo_yes {zs : List Int} {k : Nat} (h : okSTo zs k = true) (h' : okS zs k = true) : okSTo zs (k + 1) = true := by show (okSTo zs k && okS zs k) = true; rw [h, h']; rfl
def serialsB (zs : List Int) : Bool := okSTo zs zs.length && decide (zs.length ≤ 40)
noncomputable def listB (c : Lst) : Bool := nameB c.issuer && timeB c.fr && timeB c.till && decide (c.fr ≤ c.till) && serialsB c.serials
def serD (zs : List Int) : Nat → ByteArray
  | 0 => ⟨#[]⟩
  | k + 1 => serD zs k ++ intD (zs.getD k 0)
theorem serD_le (zs : List Int) : ∀ k, (serD zs k).size ≤ 12 * k
  | 0 => Nat.le_refl _
  | k + 1 => by
    have h1 := serD_le zs k
    have h2 := intD_le (zs.getD k 0)
    show (serD zs k ++ intD (zs.getD k 0)).size ≤ _
    rw [ByteArray.size_append]
    omega
def listD (c : Lst) : ByteArray := seqD (nameD c.issuer ++ (intD c.fr ++ (intD c.till ++ seqD (serD c.serials c.serials.length))))
noncomputable def crlB (c : Lst) : Bool := listB c && sigRB c.sk c.se c.ss
def listY (c : Lst) : ByteArray := seqD (listD c ++ sigD c.sk c.se c.ss)
noncomputable def crlBytesD (c : Lst) : ByteArray := if crlB c = true then listY c else ⟨#[]⟩
theorem okSTo_lt {zs : List Int} : ∀ {n : Nat}, okSTo zs n = true → ∀ i, i < n → 1 ≤ zs.getD i 0 ∧ zs.getD i 0 ≤ 1000000000 := by
  intro n
  induction n with
  | zero => intro _ i hi; omega
  | succ n ih =>
    intro h i hi
    have h' : (okSTo zs n && okS zs n) = true := h
    rw [Bool.and_eq_true] at h'
    by_cases e : i = n
    · subst e
      have := h'.2
      unfold okS serB at this
      simp only [Bool.and_eq_true, decide_eq_true_eq] at this
      exact this.1
    · exact ih h'.1 i (by omega)
structure LFits (c : Lst) : Prop where
  iss : c.issuer.size ≤ 40
  fr0 : 0 ≤ c.fr
  fr1 : c.fr ≤ 1000000000
  till0 : 0 ≤ c.till
  till1 : c.till ≤ 1000000000
  len : c.serials.length ≤ 40
  each : ∀ i, i < c.serials.length → 1 ≤ c.serials.getD i 0 ∧ c.serials.getD i 0 ≤ 1000000000
theorem list_fits {c : Lst} (h : listB c = true) : LFits c := by
  unfold listB at h
  simp only [Bool.and_eq_true, decide_eq_true_eq] at h
  obtain ⟨⟨⟨⟨h1, h2⟩, h3⟩, _⟩, h5⟩ := h
  unfold timeB at h2 h3
  simp only [Bool.and_eq_true, decide_eq_true_eq] at h2 h3
  unfold serialsB at h5
  simp only [Bool.and_eq_true, decide_eq_true_eq] at h5
  exact ⟨name_size h1, h2.1, h2.2, h3.1, h3.2, h5.2, okSTo_lt h5.1⟩
theorem listD_le {c : Lst} (h : LFits c) : (listD c).size ≤ 700 := by
  have y1 := nameD_le c.issuer
  have y2 := intD_le c.fr
  have y3 := intD_le c.till
  have y4 := serD_le c.serials c.serials.length
  have y5 := seqD_le (serD c.serials c.serials.length)
  have y6 := h.iss
  have y7 := h.len
  have z := seqD_le (nameD c.issuer ++ (intD c.fr ++ (intD c.till ++ seqD (serD c.serials c.serials.length))))
  simp only [ByteArray.size_append] at z
  unfold listD
  omega
theorem crlB_list {c : Lst} (h : crlB c = true) : listB c = true := by
  unfold crlB at h
  rw [Bool.and_eq_true] at h
  exact h.1
theorem crlB_sig {c : Lst} (h : crlB c = true) : sigRB c.sk c.se c.ss = true := by
  unfold crlB at h
  rw [Bool.and_eq_true] at h
  exact h.2
end Go.Proofs.YtfhihhkdbdidnaaDoor
namespace Go.Proofs.YtfhihhkdbdidnaaDoor
open Go.RowKit

theorem okS_not {zs : List Int} {k : Nat} (h : serB (zs.getD k 0) = false) : okS zs k = false := by unfold okS; rw [h]; rfl
theorem okS_zero {zs : List Int} (h : serB (zs.getD 0 0) = true) : okS zs 0 = true := by unfold okS; rw [h]; rfl
theorem okS_more {zs : List Int} {k : Nat} (hk : 0 < k) (h : serB (zs.getD k 0) = true) : okS zs k = decide (zs.getD (k - 1) 0 < zs.getD k 0) := by
  unfold okS
  rw [h, decide_eq_false (by omega)]
  rfl
end Go.Proofs.YtfhihhkdbdidnaaDoor
namespace Go.Proofs.YtfhihhkdbdidnaaDoor
open Go.RowKit
theorem infoLong : (Tryd.prog.info? 2).map (fun i => (i.zero, i.size, i.bytes)) = some (some (.int .i64 0), 1, 8) := by kernel_rfl
end Go.Proofs.YtfhihhkdbdidnaaDoor
namespace Go.Proofs.YtfhihhkdbdidnaaDoor
open Go.RowKit

/-- The numbers zs lie behind the address (none at all: any address serves). -/
def IsInts (w : World) (a : Option Addr) (zs : List Int) : Prop := zs = [] ∨ ∃ b o, a = some ⟨b, o, none⟩ ∧ ∀ i, i < zs.length → w.cell? ⟨b, o + i, none⟩ = some (.int .i64 (zs.getD i 0))
/-- .. and its block lies below B. -/
def IntsBelow (B : Nat) (a : Option Addr) (zs : List Int) : Prop := zs = [] ∨ ∀ x, a = some x → x.block < B
theorem IsInts.below {B : Nat} {w w' : World} {a : Option Addr} {zs : List Int} (h : IsInts w a zs) (hb : Below B w w') (hB : IntsBelow B a zs) : IsInts w' a zs := by
  rcases h with rfl | ⟨b, o, rfl, hc⟩
  · exact .inl rfl
  · rcases hB with rfl | hB
    · exact .inl rfl
    · exact .inr ⟨b, o, rfl, fun i hi => by rw [hb.cell (p := ⟨b, o + i, none⟩) (hB ⟨b, o, none⟩ rfl)]; exact hc i hi⟩
theorem IntsBelow.mono {B B' : Nat} {a : Option Addr} {zs : List Int} (h : IntsBelow B a zs) (hB : B ≤ B') : IntsBelow B' a zs := by
  rcases h with h | h
  · exact .inl h
  · exact .inr fun x hx => Nat.lt_of_lt_of_le (h x hx) hB
theorem IsInts.lt {w : World} {a : Option Addr} {zs : List Int} (h : IsInts w a zs) : IntsBelow w.heap.size a zs := by
  rcases h with rfl | ⟨b, o, rfl, hc⟩
  · exact .inl rfl
  · by_cases h0 : zs.length = 0
    · exact .inl (List.eq_nil_of_length_eq_zero h0)
    · refine .inr fun x hx => ?_
      cases hx
      exact World.block_lt_of_cell? w _ (hc 0 (by omega))
theorem IsInts.keep {w w' : World} {a : Option Addr} {zs : List Int} (h : IsInts w a zs) (hb : Below w.heap.size w w') : IsInts w' a zs := h.below hb h.lt
def lCells (zs : List Int) : List Value := zs.map (Value.int .i64)
theorem IsInts.row {w : World} {g : Nat} {t : TypeId} {zs : List Int} {rest : List Value} (h : w.heap[g]? = some (.cells (lCells zs ++ rest).toArray t (0, 0))) : IsInts w (some ⟨g, 0, none⟩) zs :=
  .inr ⟨g, 0, rfl, fun i hi => by
    rw [Nat.zero_add, cell_of_row w g i _ t (0, 0) h]
    simp [lCells, List.getD, hi, List.getElem?_append_left]⟩
theorem IsInts.at {w : World} {a : Option Addr} {zs : List Int} (h : IsInts w a zs) (h0 : zs ≠ []) : ∃ b o, a = some ⟨b, o, none⟩ ∧ ∀ i, i < zs.length → w.cell? ⟨b, o + i, none⟩ = some (.int .i64 (zs.getD i 0)) := by
  rcases h with h | h
  · exact absurd h h0
  · exact h
end Go.Proofs.YtfhihhkdbdidnaaDoor
namespace Go.Proofs.YtfhihhkdbdidnaaDoor
open Go.RowKit Go.Lib

theorem specIs (n l h : Int) (w : World) :
    Calls Tryd.prog 22 #[.int .i64 n, .int .i64 l, .int .i64 h] w fun e w' => e = .returned (.bool (decide (l ≤ n) && decide (n ≤ h))) ∧ w' = w := by
  by_cases h1 : l ≤ n
  · go_enter Tryd.func22, Tryd.ntmps22
    go_wp2
    go_ret
    exact ⟨by simp [h1], rfl⟩
  · go_enter Tryd.func22, Tryd.ntmps22
    go_wp2
    go_ret
    exact ⟨by simp; omega, rfl⟩
end Go.Proofs.YtfhihhkdbdidnaaDoor
namespace Go.Proofs.YtfhihhkdbdidnaaDoor
open Go.RowKit

theorem specTime (n : Int) (w : World) :
    Calls Tryd.prog 24 #[.int .i64 n] w fun e w' => e = .returned (.bool (timeB n)) ∧ w' = w := by
  go_enter Tryd.func24, Tryd.ntmps24
  go_wp2_with fail
  refine (specIs n 0 1000000000 _).mono ?_
  rintro e w' ⟨rfl, rfl⟩
  go_wp2
  go_ret
  exact ⟨rfl, rfl⟩
theorem specNameB (s : ByteArray) (w : World) (hs : s.size ≤ maxLen) :
    Calls Tryd.prog 23 #[.string s] w fun e w' => e = .returned (.bool (nameB s)) ∧ w' = w :=
  (specName s w hs).mono fun _ _ h => ⟨ans_name h.1, h.2⟩
end Go.Proofs.YtfhihhkdbdidnaaDoor
namespace Go.Proofs.YtfhihhkdbdidnaaDoor
open Go.RowKit

set_option linter.unusedSimpArgs false in
set_option maxHeartbeats 4000000 in
set_option maxRecDepth 100000 in
theorem specList (c : Lst) (a : Option Addr) (cap : Nat) (w : World) (hi : c.issuer.size ≤ maxLen) (hl : c.serials.length ≤ 1048576) (ha : IsInts w a c.serials) :
    Calls Tryd.prog 10 #[c.val (.slice a c.serials.length cap)] w fun e w' => e = .returned (.bool (listB c)) ∧ Below w.heap.size w w' := by
  obtain ⟨R, hR⟩ : ∃ R, R = listB c := ⟨_, rfl⟩
  rw [← hR]
  have HR : Hid (R = (nameB c.issuer && timeB c.fr && timeB c.till && decide (c.fr ≤ c.till) && serialsB c.serials)) := hR
  clear hR
  obtain ⟨iss, fr, till, serials, sk, se, ss⟩ := c
  unfold Lst.val
  simp only at HR hi hl ha ⊢
  obtain ⟨zs, hzs⟩ : ∃ zs, zs = serials := ⟨_, rfl⟩
  rw [← hzs] at HR hl ha ⊢
  clear hzs
  have HSB : Hid (serialsB zs = (okSTo zs zs.length && decide (zs.length ≤ 40))) := rfl
  obtain ⟨nl, hnl⟩ : ∃ nl, nl = zs.length := ⟨_, rfl⟩
  rw [← hnl] at hl ⊢
  have HNl : Hid (nl = zs.length) := hnl
  clear hnl
  obtain ⟨w1, hw1⟩ : ∃ w1, w1 = w.alloc (.cells #[.string iss, .int .i64 fr, .int .i64 till, .slice a nl cap, .int .i64 sk, .int .i64 se, .int .i64 ss] 31 (0, 0)) := ⟨_, rfl⟩
  have r0 : w1.heap[w.heap.size]? = some (.cells [Value.string iss, .int .i64 fr, .int .i64 till, .slice a nl cap, .int .i64 sk, .int .i64 se, .int .i64 ss].toArray 31 (0, 0)) := by rw [hw1]; exact heap_alloc_new w _
  have B1 : Hid (Below w.heap.size w w1) := by rw [hw1]; exact (Below.refl _ _).alloc (Nat.le_refl _) _
  have z1 : w.heap.size < w1.heap.size := by rw [hw1]; simp
  have HK : Hid (∀ V, Below w1.heap.size w1 V → V.cell? ⟨w.heap.size, 0, none⟩ = some (.string iss) ∧ V.cell? ⟨w.heap.size, 1, none⟩ = some (.int .i64 fr) ∧ V.cell? ⟨w.heap.size, 2, none⟩ = some (.int .i64 till) ∧ V.cell? ⟨w.heap.size, 3, none⟩ = some (.slice a nl cap) ∧ V.cell? ⟨w.heap.size, 4, none⟩ = some (.int .i64 sk) ∧ V.cell? ⟨w.heap.size, 5, none⟩ = some (.int .i64 se) ∧ V.cell? ⟨w.heap.size, 6, none⟩ = some (.int .i64 ss)) := fun V hV => by
    have hP := (hV.block _ z1).trans r0
    exact ⟨rowFacts hP 0 _ rfl, rowFacts hP 1 _ rfl, rowFacts hP 2 _ rfl, rowFacts hP 3 _ rfl, rowFacts hP 4 _ rfl, rowFacts hP 5 _ rfl, rowFacts hP 6 _ rfl⟩
  have HA : Hid (∀ V, Below w1.heap.size w1 V → IsInts V a zs) := fun V hV => (ha.keep B1.out).keep hV
  have HB : Hid (∀ V, Below w1.heap.size w1 V → Below w.heap.size w V) := fun V hV => B1.out.trans (hV.mono B1.out.size)
  have I1 : Hid (Below w1.heap.size w1 w1) := Below.refl _ _
  have D1 : Hid (Below w1.heap.size w1 w1.drew) := I1.out.drew
  clear r0 z1 B1 ha
  go_enter Tryd.func10, Tryd.ntmps10
  go_upto_region 1 with fail
  rw [← hw1]
  clear hw1
  obtain ⟨c0, c1, c2, c3, c4, c5, c6⟩ := HK.out w1 I1.out
  go_wp2
  go_loopw [3] (fun i wr => ∃ k : Nat, k ≤ nl ∧ i = .int .i64 k ∧ okSTo zs k = true ∧ Below w1.heap.size w1 wr) (fun i _ => nl - (intOf i).toNat)
  case atStart => exact ⟨0, Nat.zero_le _, rfl, rfl, Below.refl _ _⟩
  case round =>
    clear c0 c1 c2 c3 c4 c5 c6
    obtain ⟨k, hk, rfl, hok, hbr⟩ := hrel
    have HOk : Hid (okSTo zs k = true) := hok
    have K : Hid (Below w1.heap.size w1 wr) := hbr
    obtain ⟨c0, c1, c2, c3, c4, c5, c6⟩ := HK.out wr hbr
    have hav := HA.out wr hbr
    clear hok hbr
    by_cases hlt : k < nl
    · obtain ⟨x, o, rfl, hc⟩ : ∃ x o, a = some ⟨x, o, none⟩ ∧ ∀ i, i < zs.length → wr.cell? ⟨x, o + i, none⟩ = some (.int .i64 (zs.getD i 0)) := by
        have := HNl.out
        rcases hav with rfl | h
        · simp at this; omega
        · exact h
      clear hav
      have hltz : k < zs.length := by rw [← HNl.out]; exact hlt
      have HLt : Hid (k < zs.length) := hltz
      have hck := hc k hltz
      have HNm : Hid (∀ V : World, Calls Tryd.prog 22 #[.int .i64 (zs.getD k 0), .int .i64 1, .int .i64 1000000000] V fun e w' => e = .returned (.bool (serB (zs.getD k 0))) ∧ w' = V) := fun V => specIs _ _ _ V
      have a0 : (0 : Int) ≤ (k : Int) := by omega
      have b0 : (k : Int) < (nl : Int) := by omega
      cases hn : serB (zs.getD k 0) with
      | false =>
        have HF : Hid (R = false) := by show _ = _; rw [HR.out, HSB.out, okSTo_no (okS_not hn) HLt.out]; simp
        rw [hn] at HNm
        generalize zs.getD k 0 = z at *
        clear hc hn hltz
        go_wp2_with fail
        go_quiet ((go_at_call 22; exact Calls.quiet_of_same (HNm.out _)))
        go_wp2
        go_ret
        exact ⟨by rw [HF.out]; rfl, HB.out _ (below_drewN K.out _)⟩
      | true =>
        rw [hn] at HNm
        by_cases h0 : k = 0
        · subst h0
          have HF : Hid (okS zs 0 = true) := okS_zero hn
          rw [Nat.add_zero] at hck
          generalize zs.getD 0 0 = z at *
          clear hc hn hltz
          go_wp2_with fail
          go_quiet ((go_at_call 22; exact Calls.quiet_of_same (HNm.out _)))
          go_wp2
          go_roundw
          case rel => exact ⟨1, by omega, by go_num, okSTo_yes HOk.out HF.out, below_drewN K.out _⟩
          case measure => simp [intOf]; omega
        · have hck1 := hc (k - 1) (by omega)
          have ek : ((k : Int) - 1) = ((k - 1 : Nat) : Int) := by omega
          have ew : IntKind.i64.wrap ((k : Int) - 1) = ((k - 1 : Nat) : Int) := by rw [IntKind.wrap_i64]; omega
          have a1 : (0 : Int) < (k : Int) := by omega
          have a2 : 0 < k := by omega
          have g1 : decide ((0 : Int) < (k : Int)) = true := decide_eq_true a1
          have b1 : ((k - 1 : Nat) : Int) < (nl : Int) := by omega
          have hbl := okS_more (zs := zs) (k := k) (by omega) hn
          clear hltz
          by_cases hr : zs.getD (k - 1) 0 < zs.getD k 0
          rotate_left
          · have HF : Hid (R = false) := by show _ = _; rw [HR.out, HSB.out, okSTo_no (hbl.trans (decide_eq_false hr)) HLt.out]; simp
            have hr' : zs.getD k 0 ≤ zs.getD (k - 1) 0 := by omega
            generalize zs.getD k 0 = z at *
            generalize zs.getD (k - 1) 0 = y at *
            generalize k - 1 = k1 at *
            clear hc hn hbl hlt
            go_wp2_with fail
            go_quiet ((go_at_call 22; exact Calls.quiet_of_same (HNm.out _)))
            go_wp2
            go_ret
            exact ⟨by rw [HF.out]; rfl, HB.out _ (below_drewN K.out _)⟩
          · have HF : Hid (okS zs k = true) := hbl.trans (decide_eq_true hr)
            have hr' : ¬ zs.getD k 0 ≤ zs.getD (k - 1) 0 := by omega
            have HRl : Hid (∃ j : Nat, j ≤ nl ∧ Value.int .i64 ((k : Int) + 1) = .int .i64 (j : Int) ∧ okSTo zs j = true) := ⟨k + 1, by omega, by congr 1, okSTo_yes HOk.out HF.out⟩
            generalize zs.getD k 0 = z at *
            generalize zs.getD (k - 1) 0 = y at *
            generalize k - 1 = k1 at *
            clear hc hn hbl hlt
            go_wp2_with fail
            go_quiet ((go_at_call 22; exact Calls.quiet_of_same (HNm.out _)))
            go_wp2
            go_roundw
            case rel =>
              obtain ⟨j, j1, j2, j3⟩ := HRl.out
              exact ⟨j, j1, by first | exact j2 | (rw [← j2]; simp; omega), j3, below_drewN K.out _⟩
            case measure => simp [intOf]; omega
    · obtain rfl : k = nl := by omega
      have hsb : serialsB zs = decide (k ≤ 40) := by
        have h1 := HNl.out
        have h2 := HOk.out
        rw [h1] at h2 ⊢
        rw [HSB.out, h2]
        rfl
      rw [hsb] at HR
      clear hav hsb
      go_wp2_with fail
      refine (specNameB iss _ hi).mono ?_
      rintro e w2 ⟨rfl, h2w⟩
      subst w2
      cases h1 : nameB iss with
      | false =>
        have HF : Hid (R = false) := by show _ = _; rw [HR.out, h1]; simp
        go_wp2
        go_ret
        exact ⟨by rw [HF.out]; rfl, HB.out _ K.out⟩
      | true =>
      rw [h1] at HR
      go_wp2_with fail
      refine (specTime fr _).mono ?_
      rintro e w2 ⟨rfl, h2w⟩
      subst w2
      cases h2 : timeB fr with
      | false =>
        have HF : Hid (R = false) := by show _ = _; rw [HR.out, h2]; simp
        go_wp2
        go_ret
        exact ⟨by rw [HF.out]; rfl, HB.out _ K.out⟩
      | true =>
      rw [h2] at HR
      go_wp2_with fail
      refine (specTime till _).mono ?_
      rintro e w2 ⟨rfl, h2w⟩
      subst w2
      cases h3 : timeB till with
      | false =>
        have HF : Hid (R = false) := by show _ = _; rw [HR.out, h3]; simp
        go_wp2
        go_ret
        exact ⟨by rw [HF.out]; rfl, HB.out _ K.out⟩
      | true =>
      rw [h3] at HR
      by_cases h4 : fr ≤ till
      rotate_left
      · have h4' : till < fr := by omega
        have HF : Hid (R = false) := by show _ = _; rw [HR.out, decide_eq_false h4]; simp
        go_wp2
        go_ret
        exact ⟨by rw [HF.out]; first | rfl | (simp; omega), HB.out _ K.out⟩
      rw [decide_eq_true h4] at HR
      by_cases h5 : k ≤ 40
      · have HF : Hid (R = true) := by show _ = _; rw [HR.out, decide_eq_true h5]; rfl
        go_wp2
        go_ret
        exact ⟨by rw [HF.out]; first | rfl | (simp; omega), HB.out _ K.out⟩
      · have HF : Hid (R = false) := by show _ = _; rw [HR.out, decide_eq_false h5]; rfl
        go_wp2
        go_ret
        exact ⟨by rw [HF.out]; first | rfl | (simp; omega), HB.out _ K.out⟩
end Go.Proofs.YtfhihhkdbdidnaaDoor
namespace Go.Proofs.YtfhihhkdbdidnaaDoor
open Go.RowKit Go.Lib

/-- 'string(b)' of a row that was just laid. -/
theorem convertLit (w : World) (cs : Array Value) (xs : List Int) (hc : cs = (xs.map (Value.int .u8)).toArray) (n : Nat) (hn : xs.length = n) (T : Nat) :
    (convert 59 9 (.slice (some ⟨w.heap.size, 0, none⟩) n n)).run Tryd.prog (w.alloc (.cells cs T (0, 0))) = .ok (.string (strOfNums xs)) (w.alloc (.cells cs T (0, 0))) := by
  subst hc
  refine run_convert_bytes_arg _ 59 5 Tryd.underlying59 Tryd.underlying5 w.heap.size 0 n n xs hn ?_ 9 Tryd.underlying9
  intro i hi
  rw [Nat.zero_add, cell_of_row _ _ i _ T (0, 0) (heap_alloc_new w _)]
  have hi' : i < xs.length := by omega
  simp [hi', List.getD]
theorem convertLit2 (w : World) (o : Obj) (cs : Array Value) (xs : List Int) (hc : cs = (xs.map (Value.int .u8)).toArray) (n : Nat) (hn : xs.length = n) (T : Nat) :
    (convert 59 9 (.slice (some ⟨w.heap.size + 1, 0, none⟩) n n)).run Tryd.prog ((w.alloc o).alloc (.cells cs T (0, 0))) = .ok (.string (strOfNums xs)) ((w.alloc o).alloc (.cells cs T (0, 0))) := by
  have h := convertLit (w.alloc o) cs xs hc n hn T
  simpa using h
theorem strJoin_eq (t : Int) (b : ByteArray) (l : List Int) (h : lenD b.size = l) : strOfNums (t :: l) ++ b = thingD t b := by rw [thingD, headD, h]
set_option maxHeartbeats 1000000 in
set_option maxRecDepth 100000 in
theorem specThing (t : Int) (b : ByteArray) (w : World) (h0 : 0 ≤ t) (h1 : t ≤ 255) (hb : b.size ≤ 20000) :
    Calls Tryd.prog 27 #[.int .i64 t, .string b] w fun e w' => e = .returned (.string (thingD t b)) ∧ Below w.heap.size w w' := by
  by_cases c1 : b.size < 128
  · have hcv := convertLit w #[.int .u8 t, .int .u8 (b.size : Int)] [t, (b.size : Int)] rfl 2 rfl 5
    have hsz : (strOfNums [t, (b.size : Int)]).size = 2 := by rw [strOfNums_size]; rfl
    have HF : Hid (strOfNums [t, (b.size : Int)] ++ b = thingD t b) := strJoin_eq _ _ _ (by rw [lenD, if_pos c1])
    generalize strOfNums [t, (b.size : Int)] = s at *
    go_enter Tryd.func27, Tryd.ntmps27
    go_wp2
    go_ret
    exact ⟨by rw [← HF.out]; rfl, (Below.refl _ _).alloc (Nat.le_refl _) _⟩
  by_cases c2 : b.size < 256
  · have hcv := fun o => convertLit2 w o #[.int .u8 t, .int .u8 129, .int .u8 (b.size : Int)] [t, 129, (b.size : Int)] rfl 3 rfl 5
    have hsz : (strOfNums [t, 129, (b.size : Int)]).size = 3 := by rw [strOfNums_size]; rfl
    have HF : Hid (strOfNums [t, 129, (b.size : Int)] ++ b = thingD t b) := strJoin_eq _ _ _ (by rw [lenD, if_neg c1, if_pos c2])
    generalize strOfNums [t, 129, (b.size : Int)] = s at *
    go_enter Tryd.func27, Tryd.ntmps27
    go_wp2
    go_ret
    exact ⟨by rw [← HF.out]; rfl, ((Below.refl _ _).alloc (Nat.le_refl _) _).alloc (by simp) _⟩
  · have hcv := fun o => convertLit2 w o #[.int .u8 t, .int .u8 130, .int .u8 ((b.size : Int) / 256), .int .u8 ((b.size : Int) % 256)] [t, 130, (b.size : Int) / 256, (b.size : Int) % 256] rfl 4 rfl 5
    have hsz : (strOfNums [t, 130, (b.size : Int) / 256, (b.size : Int) % 256]).size = 4 := by rw [strOfNums_size]; rfl
    have HF : Hid (strOfNums [t, 130, (b.size : Int) / 256, (b.size : Int) % 256] ++ b = thingD t b) := strJoin_eq _ _ _ (by rw [lenD, if_neg c1, if_neg c2]; simp)
    generalize strOfNums [t, 130, (b.size : Int) / 256, (b.size : Int) % 256] = s at *
    go_enter Tryd.func27, Tryd.ntmps27
    go_wp2
    go_ret
    exact ⟨by rw [← HF.out]; rfl, ((Below.refl _ _).alloc (Nat.le_refl _) _).alloc (by simp) _⟩
end Go.Proofs.YtfhihhkdbdidnaaDoor
