/- Secrets and their keys: plain mathematics. Papers, and when they are right. Plain mathematics: no program is named here. A number in bytes, as a text. Plain mathematics: no program is named here. A paper's body, as bytes. Plain mathematics: no program is named here. A paper's bytes. Plain mathematics: no program is named here. What is asked for, and lists of what is taken back: which are right but for what their signatures tell, their bodies and bytes. Plain mathematics: no program is named here. Plain mathematics of reading a number; laws for three labels in one scope. No program is named. Plain mathematics: a number, and a text, come back from their bytes; of bytes that end too early nothing is got. -/
import Derived.Test.YtfliacfeebooeaaGreatDoorCR03
import Derived.Test.YtfliacfeebooeaaGreatDoorCR01
import Derived.WalkKit
import Derived.WalkSpells
import Derived.WalkLawsBesides
import Derived.WalkMore
import Derived.ScopeJumps
import Derived.Below
import Derived.Lib.Strings
namespace Go.Proofs.YtfliacfeebooeaaGreatDoor
open Go.RowKit

def secB (x : Int) : Bool := decide (1 ≤ x ∧ x < 1073741789)
theorem secB_nat {x : Int} (h : secB x = true) : ∃ n : Nat, x = (n : Int) ∧ 1 ≤ n ∧ n < 1073741789 := by
  have h' : 1 ≤ x ∧ x < 1073741789 := of_decide_eq_true h
  exact ⟨x.toNat, by omega, by omega, by omega⟩
def pubA (x : Int) : Int := if secB x = true then ((pm 4 x.toNat 2147483579 : Nat) : Int) else 0
theorem pubA_nat (x : Nat) (h : secB (x : Int) = true) : pubA x = ((pm 4 x 2147483579 : Nat) : Int) := by rw [pubA, if_pos h, Int.toNat_natCast]
/-- A Sig as a value. -/
def sigV (k e s : Int) : Value := .agg #[.int .i64 k, .int .i64 e, .int .i64 s]
def remB (n : Int) : Bool := decide (0 ≤ n ∧ n < 1073741789)
def sigRB (k e s : Int) : Bool := rightG k && remB e && remB s
theorem unit4 : unitB 4 = true := rfl
theorem unit_of {x : Nat} (hx : x < 2147483579) (h : pm x 1073741789 2147483579 = 1) : unitB (x : Int) = true := by
  have := pm_pos (by omega) h
  rw [Nat.mod_eq_of_lt hx] at this
  exact unitB_mk this hx
theorem unit_pow {y : Nat} (h : pm y 1073741789 2147483579 = 1) (n : Nat) : unitB ((pm y n 2147483579 : Nat) : Int) = true :=
  unit_of (pm_lt y n (by omega)) (pm_in (by omega) h n)
theorem gpow_in {y : Nat} (hy : y < 2147483579) (h : pm y 1073741789 2147483579 = 1) (n : Nat) : gpowA y n = ((pm y n 2147483579 : Nat) : Int) := by
  rw [gpowA_nat y n (unit_of hy h), pm_red (by omega) h]
theorem pub_right {x : Nat} (h1 : 1 ≤ x) (h2 : x < 1073741789) : rightG ((pm 4 x 2147483579 : Nat) : Int) = true := by
  have hu := unitB_nat (unit_pow pm4 x)
  obtain ⟨z, hz, z1, z2⟩ := hu
  have hne := pm4_ne h1 h2
  exact rightG_pos (by omega) (by omega) (pm_in (by omega) pm4 x)
end Go.Proofs.YtfliacfeebooeaaGreatDoor
namespace Go.Proofs.YtfliacfeebooeaaGreatDoor
open Go.RowKit

structure Paper where
  serial : Int
  issuer : ByteArray
  subject : ByteArray
  fr : Int
  till : Int
  key : Int
  names : List ByteArray
  ca : Bool
  sk : Int
  se : Int
  ss : Int
/-- Its cells, the names behind the value v. -/
def Paper.cells (c : Paper) (v : Value) : List Value := [.int .i64 c.serial, .string c.issuer, .string c.subject, .int .i64 c.fr, .int .i64 c.till, .int .i64 c.key, v, .bool c.ca, .int .i64 c.sk, .int .i64 c.se, .int .i64 c.ss]
def Paper.val (c : Paper) (v : Value) : Value := .agg #[.int .i64 c.serial, .string c.issuer, .string c.subject, .int .i64 c.fr, .int .i64 c.till, .int .i64 c.key, v, .bool c.ca, .int .i64 c.sk, .int .i64 c.se, .int .i64 c.ss]
open Classical in
/-- Is it a name? -/
noncomputable def nameB (s : ByteArray) : Bool := decide (NameOk s)
theorem ans_name {s : ByteArray} {e : Ending} (h : AnsB (NameOk s) e) : e = .returned (.bool (nameB s)) := by
  obtain ⟨r, rfl, hr⟩ := h
  have : r = nameB s := by rw [Bool.eq_iff_iff, hr]; simp [nameB]
  rw [this]
def serB (n : Int) : Bool := decide (1 ≤ n) && decide (n ≤ 1000000000)
def timeB (n : Int) : Bool := decide (0 ≤ n) && decide (n ≤ 1000000000)
/-- Name number i, behind the one ahead of it. -/
noncomputable def okN (ss : List ByteArray) (i : Nat) : Bool := nameB (tAt ss i) && (decide (i = 0) || Op.bytesLess (tAt ss (i - 1)).toList (tAt ss i).toList)
noncomputable def okTo (ss : List ByteArray) : Nat → Bool
  | 0 => true
  | k + 1 => okTo ss k && okN ss k
theorem okTo_no {ss : List ByteArray} {k : Nat} (h : okN ss k = false) : ∀ {n : Nat}, k < n → okTo ss n = false := by
  intro n
  induction n with
  | zero => intro h'; omega
  | succ n ih =>
    intro h'
    show (okTo ss n && okN ss n) = false
    by_cases e : k = n
    · subst e; rw [h]; simp
    · rw [ih (by omega)]; rfl
theorem okTo_yes {ss : List ByteArray} {k : Nat} (h : okTo ss k = true) (h' : okN ss k = true) : okTo ss (k + 1) = true := by show (okTo ss k && okN ss k) = true; rw [h, h']; rfl
noncomputable def namesB (ss : List ByteArray) : Bool := okTo ss ss.length && decide (ss.length ≤ 5)
noncomputable def paperB (c : Paper) : Bool :=
  decide (1 ≤ c.serial) && decide (c.serial ≤ 1000000000) && nameB c.issuer && nameB c.subject && timeB c.fr && timeB c.till && decide (c.fr ≤ c.till) && rightG c.key && namesB c.names
noncomputable def certB (c : Paper) : Bool := paperB c && sigRB c.sk c.se c.ss
theorem okN_zero {ss : List ByteArray} (h : nameB (tAt ss 0) = true) : okN ss 0 = true := by simp [okN, h]
theorem okN_not {ss : List ByteArray} {k : Nat} (h : nameB (tAt ss k) = false) : okN ss k = false := by simp [okN, h]
theorem okN_more {ss : List ByteArray} {k : Nat} (hk : 0 < k) (h : nameB (tAt ss k) = true) : okN ss k = Op.bytesLess (tAt ss (k - 1)).toList (tAt ss k).toList := by simp [okN, h, Nat.ne_of_gt hk]
end Go.Proofs.YtfliacfeebooeaaGreatDoor
namespace Go.Proofs.YtfliacfeebooeaaGreatDoor
open Go.RowKit

theorem putF_len : ∀ f x, (putF f x).length ≤ f + 1
  | 0, x => by simp [putF]
  | f + 1, x => by
    rw [putF]
    split
    · simp
    · have := putF_len f (x / 128)
      simp
      omega
def putS (n : Int) : ByteArray := strOfNums (putF 9 (foldI n))
theorem putS_size (n : Int) : (putS n).size ≤ 10 := by unfold putS; rw [strOfNums_size]; exact putF_len 9 _
end Go.Proofs.YtfliacfeebooeaaGreatDoor
namespace Go.Proofs.YtfliacfeebooeaaGreatDoor
open Go.RowKit

theorem isEmpty_of {T : ByteArray} (h : T.size = 0) : T.toList.isEmpty = true := by rw [List.isEmpty_iff, Lib.toList_data, List.eq_nil_iff_length_eq_zero, ← Lib.size_eq]; exact h
theorem isEmpty_not {T : ByteArray} (h : T.size ≠ 0) : T.toList.isEmpty = false := by
  rw [← Bool.not_eq_true, List.isEmpty_iff, Lib.toList_data, List.eq_nil_iff_length_eq_zero, ← Lib.size_eq]; exact h
def seqD (b : ByteArray) : ByteArray := thingD 48 b
def oidT (l : List Int) : ByteArray := thingD 6 (strOfNums (oidL l))
def intD (n : Int) : ByteArray := thingD 2 (strOfNums (intL n))
def kindD : ByteArray := seqD (oidT [1, 3, 101, 112])
def nameD (t : ByteArray) : ByteArray := seqD (thingD 49 (seqD (oidT [2, 5, 4, 3] ++ thingD 12 t)))
def hostsD (ss : List ByteArray) : Nat → ByteArray
  | 0 => ⟨#[]⟩
  | k + 1 => hostsD ss k ++ thingD 130 (tAt ss k)
def namesD (ss : List ByteArray) : ByteArray := if ss.length = 0 then ⟨#[]⟩ else seqD (oidT [2, 5, 29, 17] ++ thingD 4 (seqD (hostsD ss ss.length)))
def soD : ByteArray := thingD 1 ⟨#[255]⟩
def caT : ByteArray := seqD (oidT [2, 5, 29, 19] ++ (soD ++ thingD 4 (seqD soD)))
def caD (b : Bool) : ByteArray := if b = true then caT else ⟨#[]⟩
def moreT (t : ByteArray) : ByteArray := if t.size = 0 then ⟨#[]⟩ else thingD 163 (seqD t)
def moreD (ss : List ByteArray) (ca : Bool) : ByteArray := moreT (namesD ss ++ caD ca)
def keyD (k : Int) : ByteArray := seqD (kindD ++ thingD 3 (⟨#[0]⟩ ++ putS k))
def bodyD (c : Paper) : ByteArray :=
  seqD (thingD 160 (intD 2) ++ (intD c.serial ++ (kindD ++ (nameD c.issuer ++ (seqD (intD c.fr ++ intD c.till) ++ (nameD c.subject ++ (keyD c.key ++ moreD c.names c.ca)))))))
noncomputable def certBodyD (c : Paper) : ByteArray := if paperB c = true then bodyD c else ⟨#[]⟩
theorem arcs_lit {a b c d : Int} (h : arcsB [a, b, c, d] = true) : (oidT [a, b, c, d]).size ≤ 49 := by
  have h1 := thingD_le 6 (strOfNums (oidL [a, b, c, d]))
  rw [strOfNums_size] at h1
  have := oidL_len h
  unfold oidT
  omega
theorem arcsKind : arcsB [1, 3, 101, 112] = true := by decide
theorem arcsName : arcsB [2, 5, 4, 3] = true := by decide
theorem arcs17 : arcsB [2, 5, 29, 17] = true := by decide
theorem arcs19 : arcsB [2, 5, 29, 19] = true := by decide
theorem seqD_le (b : ByteArray) : (seqD b).size ≤ b.size + 4 := thingD_le 48 b
theorem intD_le (n : Int) : (intD n).size ≤ 12 := by
  have h1 := thingD_le 2 (strOfNums (intL n))
  rw [strOfNums_size] at h1
  have := (intL_len n).2
  unfold intD
  omega
theorem kindD_le : kindD.size ≤ 53 := by
  have h1 := seqD_le (oidT [1, 3, 101, 112])
  have h2 := arcs_lit arcsKind
  unfold kindD
  omega
theorem nameD_le (t : ByteArray) : (nameD t).size ≤ t.size + 65 := by
  have h1 := seqD_le (thingD 49 (seqD (oidT [2, 5, 4, 3] ++ thingD 12 t)))
  have h2 := thingD_le 49 (seqD (oidT [2, 5, 4, 3] ++ thingD 12 t))
  have h3 := seqD_le (oidT [2, 5, 4, 3] ++ thingD 12 t)
  have h4 := thingD_le 12 t
  have h5 := arcs_lit arcsName
  rw [ByteArray.size_append] at h3
  unfold nameD
  omega
theorem hostsD_le {ss : List ByteArray} : ∀ k, (∀ i, i < k → (tAt ss i).size ≤ 40) → (hostsD ss k).size ≤ 44 * k
  | 0, _ => Nat.le_refl _
  | k + 1, h => by
    have h1 := hostsD_le k (fun i hi => h i (by omega))
    have h2 := thingD_le 130 (tAt ss k)
    have h3 := h k (by omega)
    show (hostsD ss k ++ thingD 130 (tAt ss k)).size ≤ _
    rw [ByteArray.size_append]
    omega
theorem soD_le : soD.size ≤ 5 := thingD_le 1 ⟨#[255]⟩
theorem caT_le : caT.size ≤ 80 := by
  have h1 := seqD_le (oidT [2, 5, 29, 19] ++ (soD ++ thingD 4 (seqD soD)))
  have h2 := arcs_lit arcs19
  have h3 := soD_le
  have h4 := thingD_le 4 (seqD soD)
  have h5 := seqD_le soD
  rw [ByteArray.size_append, ByteArray.size_append] at h1
  unfold caT
  omega
theorem keyD_le (k : Int) : (keyD k).size ≤ 72 := by
  have h1 := seqD_le (kindD ++ thingD 3 (⟨#[0]⟩ ++ putS k))
  have h2 := thingD_le 3 (⟨#[0]⟩ ++ putS k)
  have h3 := putS_size k
  have h4 := kindD_le
  have h5 : (⟨#[0]⟩ : ByteArray).size = 1 := rfl
  rw [ByteArray.size_append] at h1 h2
  unfold keyD
  omega
/-- What a name's text is no longer than. -/
theorem name_size {s : ByteArray} (h : nameB s = true) : s.size ≤ 40 := by
  have : NameOk s := by simpa [nameB] using h
  exact this.2.1
theorem okTo_name {ss : List ByteArray} : ∀ {n : Nat}, okTo ss n = true → ∀ i, i < n → (tAt ss i).size ≤ 40 := by
  intro n
  induction n with
  | zero => intro _ i hi; omega
  | succ n ih =>
    intro h i hi
    have h' : (okTo ss n && okN ss n) = true := h
    rw [Bool.and_eq_true] at h'
    by_cases e : i = n
    · subst e
      have := h'.2
      unfold okN at this
      rw [Bool.and_eq_true] at this
      exact name_size this.1
    · exact ih h'.1 i (by omega)
/-- What is known of a paper that is right but for its Sig. -/
structure PFits (c : Paper) : Prop where
  ser0 : 1 ≤ c.serial
  ser1 : c.serial ≤ 1000000000
  iss : c.issuer.size ≤ 40
  sub : c.subject.size ≤ 40
  fr0 : 0 ≤ c.fr
  fr1 : c.fr ≤ 1000000000
  till0 : 0 ≤ c.till
  till1 : c.till ≤ 1000000000
  key0 : 1 < c.key
  key1 : c.key < 2147483579
  len : c.names.length ≤ 5
  each : ∀ i, i < c.names.length → (tAt c.names i).size ≤ 40
theorem paper_fits {c : Paper} (h : paperB c = true) : PFits c := by
  unfold paperB at h
  simp only [Bool.and_eq_true, decide_eq_true_eq] at h
  obtain ⟨⟨⟨⟨⟨⟨⟨⟨h1, h2⟩, h3⟩, h4⟩, h5⟩, h6⟩, _⟩, h8⟩, h9⟩ := h
  unfold timeB at h5 h6
  simp only [Bool.and_eq_true, decide_eq_true_eq] at h5 h6
  have h8' := of_decide_eq_true h8
  unfold namesB at h9
  simp only [Bool.and_eq_true, decide_eq_true_eq] at h9
  exact ⟨h1, h2, name_size h3, name_size h4, h5.1, h5.2, h6.1, h6.2, h8'.1, h8'.2.1, h9.2, okTo_name h9.1⟩
theorem namesD_le {ss : List ByteArray} (h : ss.length ≤ 5) (h' : ∀ i, i < ss.length → (tAt ss i).size ≤ 40) : (namesD ss).size ≤ 290 := by
  unfold namesD
  split
  · exact Nat.zero_le _
  · have h1 := seqD_le (oidT [2, 5, 29, 17] ++ thingD 4 (seqD (hostsD ss ss.length)))
    have h2 := thingD_le 4 (seqD (hostsD ss ss.length))
    have h3 := seqD_le (hostsD ss ss.length)
    have h4 := hostsD_le (ss := ss) ss.length h'
    have h5 := arcs_lit arcs17
    rw [ByteArray.size_append] at h1
    omega
theorem caD_le (b : Bool) : (caD b).size ≤ 80 := by
  unfold caD
  split
  · exact caT_le
  · exact Nat.zero_le _
theorem moreD_le {ss : List ByteArray} (h : ss.length ≤ 5) (h' : ∀ i, i < ss.length → (tAt ss i).size ≤ 40) (ca : Bool) : (moreD ss ca).size ≤ 380 := by
  have h1 := namesD_le h h'
  have h2 := caD_le ca
  unfold moreD moreT
  split
  · exact Nat.zero_le _
  · have h3 := thingD_le 163 (seqD (namesD ss ++ caD ca))
    have h4 := seqD_le (namesD ss ++ caD ca)
    rw [ByteArray.size_append] at h4
    omega
end Go.Proofs.YtfliacfeebooeaaGreatDoor
namespace Go.Proofs.YtfliacfeebooeaaGreatDoor
open Go.RowKit

def sigT (k e s : Int) : ByteArray := ⟨#[0]⟩ ++ putS k ++ putS e ++ putS s
def sigD (k e s : Int) : ByteArray := thingD 3 (sigT k e s)
def bytesD (c : Paper) : ByteArray := seqD (bodyD c ++ (kindD ++ sigD c.sk c.se c.ss))
noncomputable def certBytesD (c : Paper) : ByteArray := if certB c = true then bytesD c else ⟨#[]⟩
theorem sigT_le (k e s : Int) : (sigT k e s).size ≤ 31 := by
  have h1 := putS_size k
  have h2 := putS_size e
  have h3 := putS_size s
  unfold sigT
  simp only [ByteArray.size_append]
  have h4 : (⟨#[0]⟩ : ByteArray).size = 1 := rfl
  omega
theorem sigD_le (k e s : Int) : (sigD k e s).size ≤ 35 := by
  have h1 := thingD_le 3 (sigT k e s)
  have h2 := sigT_le k e s
  unfold sigD
  omega
theorem bodyD_le {c : Paper} (h : PFits c) : (bodyD c).size ≤ 900 := by
  have y1 := intD_le 2
  have y2 := intD_le c.serial
  have y3 := kindD_le
  have y4 := nameD_le c.issuer
  have y5 := nameD_le c.subject
  have y6 := intD_le c.fr
  have y7 := intD_le c.till
  have y8 := thingD_le 160 (intD 2)
  have y9 := keyD_le c.key
  have y10 := seqD_le (intD c.fr ++ intD c.till)
  have y11 := moreD_le h.len h.each c.ca
  have y12 := h.iss
  have y13 := h.sub
  have z := seqD_le (thingD 160 (intD 2) ++ (intD c.serial ++ (kindD ++ (nameD c.issuer ++ (seqD (intD c.fr ++ intD c.till) ++ (nameD c.subject ++ (keyD c.key ++ moreD c.names c.ca)))))))
  simp only [ByteArray.size_append] at z y10
  unfold bodyD
  omega
theorem certB_paper {c : Paper} (h : certB c = true) : paperB c = true := by
  unfold certB at h
  rw [Bool.and_eq_true] at h
  exact h.1
theorem certB_sig {c : Paper} (h : certB c = true) : (1 < c.sk ∧ c.sk < 2147483579) ∧ (0 ≤ c.se ∧ c.se < 1073741789) ∧ 0 ≤ c.ss ∧ c.ss < 1073741789 := by
  unfold certB sigRB at h
  simp only [Bool.and_eq_true] at h
  have h1 := of_decide_eq_true h.2.1.1
  exact ⟨⟨h1.1, h1.2.1⟩, of_decide_eq_true h.2.1.2, of_decide_eq_true h.2.2⟩
end Go.Proofs.YtfliacfeebooeaaGreatDoor
namespace Go.Proofs.YtfliacfeebooeaaGreatDoor
open Go.RowKit

structure Ask where
  key : Int
  names : List ByteArray
  sk : Int
  se : Int
  ss : Int
def Ask.val (c : Ask) (v : Value) : Value := .agg #[.int .i64 c.key, v, .int .i64 c.sk, .int .i64 c.se, .int .i64 c.ss]
/-- Right, but for its Sig. -/
noncomputable def askB (c : Ask) : Bool := rightG c.key && namesB c.names && decide (0 < c.names.length)
def askD (c : Ask) : ByteArray := seqD (intD 0 ++ (thingD 3 (⟨#[0]⟩ ++ putS c.key) ++ seqD (hostsD c.names c.names.length)))
/-- Right, but for its Sig's check. -/
noncomputable def formB (c : Ask) : Bool := askB c && sigRB c.sk c.se c.ss && decide (c.sk = c.key)
def askT (e s : Int) : ByteArray := ⟨#[0]⟩ ++ putS e ++ putS s
def askY (c : Ask) : ByteArray := seqD (askD c ++ thingD 3 (askT c.se c.ss))
theorem askT_le (e s : Int) : (askT e s).size ≤ 21 := by
  have h2 := putS_size e
  have h3 := putS_size s
  unfold askT
  simp only [ByteArray.size_append]
  have h4 : (⟨#[0]⟩ : ByteArray).size = 1 := rfl
  omega
theorem names_fit {ss : List ByteArray} (h : namesB ss = true) : ss.length ≤ 5 ∧ ∀ i, i < ss.length → (tAt ss i).size ≤ 40 := by
  unfold namesB at h
  simp only [Bool.and_eq_true, decide_eq_true_eq] at h
  exact ⟨h.2, okTo_name h.1⟩
theorem rightG_lt {k : Int} (h : rightG k = true) : 1 < k ∧ k < 2147483579 := by
  have h8' := of_decide_eq_true h
  exact ⟨h8'.1, h8'.2.1⟩
theorem sigRB_lt {k e s : Int} (h : sigRB k e s = true) : (1 < k ∧ k < 2147483579) ∧ (0 ≤ e ∧ e < 1073741789) ∧ 0 ≤ s ∧ s < 1073741789 := by
  unfold sigRB at h
  simp only [Bool.and_eq_true] at h
  exact ⟨rightG_lt h.1.1, of_decide_eq_true h.1.2, of_decide_eq_true h.2⟩
theorem ask_fits {c : Ask} (h : askB c = true) : (1 < c.key ∧ c.key < 2147483579) ∧ c.names.length ≤ 5 ∧ 0 < c.names.length ∧ ∀ i, i < c.names.length → (tAt c.names i).size ≤ 40 := by
  unfold askB at h
  simp only [Bool.and_eq_true, decide_eq_true_eq] at h
  obtain ⟨⟨h1, h2⟩, h3⟩ := h
  exact ⟨rightG_lt h1, (names_fit h2).1, h3, (names_fit h2).2⟩
theorem askK_le (k : Int) : (thingD 3 (⟨#[0]⟩ ++ putS k)).size ≤ 15 := by
  have h2 := thingD_le 3 (⟨#[0]⟩ ++ putS k)
  have h3 := putS_size k
  have h5 : (⟨#[0]⟩ : ByteArray).size = 1 := rfl
  rw [ByteArray.size_append] at h2
  omega
theorem hosts_le {ss : List ByteArray} (h : ss.length ≤ 5) (h' : ∀ i, i < ss.length → (tAt ss i).size ≤ 40) : (seqD (hostsD ss ss.length)).size ≤ 224 := by
  have h4 := hostsD_le (ss := ss) ss.length h'
  have h3 := seqD_le (hostsD ss ss.length)
  omega
theorem askD_le {c : Ask} (h : askB c = true) : (askD c).size ≤ 255 := by
  obtain ⟨_, h2, _, h4⟩ := ask_fits h
  have y1 := intD_le 0
  have y2 := askK_le c.key
  have y3 := hosts_le h2 h4
  have z := seqD_le (intD 0 ++ (thingD 3 (⟨#[0]⟩ ++ putS c.key) ++ seqD (hostsD c.names c.names.length)))
  simp only [ByteArray.size_append] at z
  unfold askD
  omega
theorem thing_pos (t : Int) (b : ByteArray) : 0 < (thingD t b).size := by
  rw [thingD_size]
  omega
theorem formB_ask {c : Ask} (h : formB c = true) : askB c = true := by
  unfold formB at h
  simp only [Bool.and_eq_true] at h
  exact h.1.1
theorem formB_sig {c : Ask} (h : formB c = true) : sigRB c.sk c.se c.ss = true := by
  unfold formB at h
  simp only [Bool.and_eq_true] at h
  exact h.1.2

structure Lst where
  issuer : ByteArray
  fr : Int
  till : Int
  serials : List Int
  sk : Int
  se : Int
  ss : Int
def Lst.val (c : Lst) (v : Value) : Value := .agg #[.string c.issuer, .int .i64 c.fr, .int .i64 c.till, v, .int .i64 c.sk, .int .i64 c.se, .int .i64 c.ss]
def okS (zs : List Int) (i : Nat) : Bool := serB (zs.getD i 0) && (decide (i = 0) || decide (zs.getD (i - 1) 0 < zs.getD i 0))
def okSTo (zs : List Int) : Nat → Bool
  | 0 => true
  | k + 1 => okSTo zs k && okS zs k
theorem okSTo_no {zs : List Int} {k : Nat} (h : okS zs k = false) : ∀ {n : Nat}, k < n → okSTo zs n = false := by
  intro n
  induction n with
  | zero => intro h'; omega
  | succ n ih =>
    intro h'
    show (okSTo zs n && okS zs n) = false
    by_cases e : k = n
    · subst e; rw [h]; simp
    · rw [ih (by omega)]; rfl
theorem okSTo_yes {zs : List Int} {k : Nat} (h : okSTo zs k = true) (h' : okS zs k = true) : okSTo zs (k + 1) = true := by show (okSTo zs k && okS zs k) = true; rw [h, h']; rfl
def serialsB (zs : List Int) : Bool := okSTo zs zs.length && decide (zs.length ≤ 40)
noncomputable def listB (c : Lst) : Bool := nameB c.issuer && timeB c.fr && timeB c.till && decide (c.fr ≤ c.till) && serialsB c.serials
def serD (zs : List Int) : Nat → ByteArray
  | 0 => ⟨#[]⟩
  | k + 1 => serD zs k ++ intD (zs.getD k 0)
theorem serD_le (zs : List Int) : ∀ k, (serD zs k).size ≤ 12 * k
  | 0 => Nat.le_refl _
  | k + 1 => by
    have h1 := serD_le zs k
    have h2 := intD_le (zs.getD k 0)
    show (serD zs k ++ intD (zs.getD k 0)).size ≤ _
    rw [ByteArray.size_append]
    omega
def listD (c : Lst) : ByteArray := seqD (nameD c.issuer ++ (intD c.fr ++ (intD c.till ++ seqD (serD c.serials c.serials.length))))
noncomputable def crlB (c : Lst) : Bool := listB c && sigRB c.sk c.se c.ss
def listY (c : Lst) : ByteArray := seqD (listD c ++ sigD c.sk c.se c.ss)
noncomputable def crlBytesD (c : Lst) : ByteArray := if crlB c = true then listY c else ⟨#[]⟩
theorem okSTo_lt {zs : List Int} : ∀ {n : Nat}, okSTo zs n = true → ∀ i, i < n → 1 ≤ zs.getD i 0 ∧ zs.getD i 0 ≤ 1000000000 := by
  intro n
  induction n with
  | zero => intro _ i hi; omega
  | succ n ih =>
    intro h i hi
    have h' : (okSTo zs n && okS zs n) = true := h
    rw [Bool.and_eq_true] at h'
    by_cases e : i = n
    · subst e
      have := h'.2
      unfold okS serB at this
      simp only [Bool.and_eq_true, decide_eq_true_eq] at this
      exact this.1
    · exact ih h'.1 i (by omega)
structure LFits (c : Lst) : Prop where
  iss : c.issuer.size ≤ 40
  fr0 : 0 ≤ c.fr
  fr1 : c.fr ≤ 1000000000
  till0 : 0 ≤ c.till
  till1 : c.till ≤ 1000000000
  len : c.serials.length ≤ 40
  each : ∀ i, i < c.serials.length → 1 ≤ c.serials.getD i 0 ∧ c.serials.getD i 0 ≤ 1000000000
theorem list_fits {c : Lst} (h : listB c = true) : LFits c := by
  unfold listB at h
  simp only [Bool.and_eq_true, decide_eq_true_eq] at h
  obtain ⟨⟨⟨⟨h1, h2⟩, h3⟩, _⟩, h5⟩ := h
  unfold timeB at h2 h3
  simp only [Bool.and_eq_true, decide_eq_true_eq] at h2 h3
  unfold serialsB at h5
  simp only [Bool.and_eq_true, decide_eq_true_eq] at h5
  exact ⟨name_size h1, h2.1, h2.2, h3.1, h3.2, h5.2, okSTo_lt h5.1⟩
theorem listD_le {c : Lst} (h : LFits c) : (listD c).size ≤ 700 := by
  have y1 := nameD_le c.issuer
  have y2 := intD_le c.fr
  have y3 := intD_le c.till
  have y4 := serD_le c.serials c.serials.length
  have y5 := seqD_le (serD c.serials c.serials.length)
  have y6 := h.iss
  have y7 := h.len
  have z := seqD_le (nameD c.issuer ++ (intD c.fr ++ (intD c.till ++ seqD (serD c.serials c.serials.length))))
  simp only [ByteArray.size_append] at z
  unfold listD
  omega
theorem crlB_list {c : Lst} (h : crlB c = true) : listB c = true := by
  unfold crlB at h
  rw [Bool.and_eq_true] at h
  exact h.1
theorem crlB_sig {c : Lst} (h : crlB c = true) : sigRB c.sk c.se c.ss = true := by
  unfold crlB at h
  rw [Bool.and_eq_true] at h
  exact h.2
end Go.Proofs.YtfliacfeebooeaaGreatDoor
namespace Go.Proofs.YtfliacfeebooeaaGreatDoor
open Go.RowKit Go.Lib

/-- As Q; by a goto to one of the labels: what J says of it. -/
def jumpM (J : Nat → Act → World → Prop) (Q : Exit → Act → World → Prop) : Exit → Act → World → Prop
  | .goto l, a, w => J l a w
  | e, a, w => Q e a w
/-- A scope with several labels: what holds at each jump, and one measure that every pass from a label lowers. -/
theorem wp_scope_many {P : Program} {a : Act} {w : World} {Q : Exit → Act → World → Prop} {c : Code} (J : Nat → Act → World → Prop) (μ : Nat → Act → World → Nat)
    (hsome : ∀ l a w, J l a w → ∃ r, findLabel c l = some r) (first : c.wp P (jumpM J Q) a w)
    (pass : ∀ l r, findLabel c l = some r → ∀ a w, J l a w → r.wp P (jumpM (fun l' a' w' => J l' a' w' ∧ μ l' a' w' < μ l a w) Q) a w) : (Code.scope c).wp P Q a w := by
  intro b k cs
  have key : ∀ n l r a w, findLabel c l = some r → μ l a w = n → J l a w → ∃ e a' w', Q e a' w' ∧ Arrives P (lone (b.at a (.code r :: .inScope c :: k)) cs w) b k cs e a' w' := by
    intro n
    induction n using Nat.strongRecOn with
    | _ n ih =>
      intro l r a w hr hn hJ
      obtain ⟨e, a₁, w₁, hq, harr⟩ := pass l r hr a w hJ b (.inScope c :: k) cs
      cases e with
      | normal => exact ⟨.normal, a₁, w₁, hq, Steps.trans harr (.one step_inScope)⟩
      | exit id => exact ⟨.exit id, a₁, w₁, hq, fun k' hk => harr k' (by simp [exitTo, hk])⟩
      | goto l' =>
        obtain ⟨hJ', hlt⟩ := hq
        obtain ⟨r', hr'⟩ := hsome l' a₁ w₁ hJ'
        obtain ⟨e₂, a₂, w₂, hq₂, harr₂⟩ := ih _ (by omega) l' r' a₁ w₁ hr' rfl hJ'
        exact ⟨e₂, a₂, w₂, hq₂, .of_steps (harr _ (by simp [gotoIn, hr'])) harr₂⟩
      | ret => exact ⟨_, a₁, w₁, hq, harr⟩
      | panic ch => exact ⟨_, a₁, w₁, hq, harr⟩
      | outgrown => exact ⟨_, a₁, w₁, hq, harr⟩
  obtain ⟨e, a₁, w₁, hq, harr⟩ := first b (.inScope c :: k) cs
  cases e with
  | normal => exact ⟨.normal, a₁, w₁, hq, .head step_scope (Steps.trans harr (.one step_inScope))⟩
  | exit id => exact ⟨.exit id, a₁, w₁, hq, fun k' hk => .head step_scope (harr k' (by simp [exitTo, hk]))⟩
  | goto l' =>
    obtain ⟨r', hr'⟩ := hsome l' a₁ w₁ hq
    obtain ⟨e₂, a₂, w₂, hq₂, harr₂⟩ := key _ l' r' a₁ w₁ hr' rfl hq
    exact ⟨e₂, a₂, w₂, hq₂, .of_steps (.head step_scope (harr _ (by simp [gotoIn, hr']))) harr₂⟩
  | ret => exact ⟨_, a₁, w₁, hq, .of_steps (.one step_scope) harr⟩
  | panic ch => exact ⟨_, a₁, w₁, hq, .of_steps (.one step_scope) harr⟩
  | outgrown => exact ⟨_, a₁, w₁, hq, .of_steps (.one step_scope) harr⟩

def bNu (s : ByteArray) (j : Nat) : Nat := (s.data.toList.getD j 0).toNat
theorem bU_eq (s : ByteArray) (j : Nat) (h : j < s.size) : bNu s j = s[j].toNat := by
  have h' : j < s.data.toList.length := by rw [← size_eq]; exact h
  simp [bNu, List.getD, List.getElem?_eq_getElem h']
  rfl
theorem bU_lt (s : ByteArray) (j : Nat) : bNu s j ≤ 255 := by
  have := (s.data.toList.getD j 0).toNat_lt
  unfold bNu; omega
/-- x with i groups of seven bits ahead of it. -/
def sh7 (i x : Nat) : Nat := x * 128 ^ i
def unI (u : Nat) : Int := if u % 2 = 1 then -((u / 2 : Nat) : Int) - 1 else ((u / 2 : Nat) : Int)
structure NumR where
  n : Int
  at' : Int
  code : Int
/-- A NumOut as a value. -/
def numV (r : NumR) : Value := .agg #[.int .i64 r.n, .int .i64 r.at', .int .i64 r.code]
def NumR.bad (c : Int) : NumR := ⟨0, 0, c⟩
/-- What is read from round i on, u being had. -/
def getR (s : ByteArray) (p : Nat) : Nat → Nat → Nat → NumR
  | 0, _, _ => .bad 3
  | f + 1, i, u => if s.size ≤ p + i then .bad 4 else if i = 9 ∧ 1 < bNu s (p + i) then .bad 3 else
      if bNu s (p + i) < 128 then (if bNu s (p + i) = 0 ∧ 0 < i then .bad 3 else ⟨unI (u + sh7 i (bNu s (p + i) % 128)), (p + i + 1 : Nat), 0⟩)
      else getR s p f (i + 1) (u + sh7 i (bNu s (p + i) % 128))
theorem getR_short {s : ByteArray} {p f i u : Nat} (h : s.size ≤ p + i) : getR s p (f + 1) i u = .bad 4 := by rw [getR, if_pos h]
theorem getR_ninth {s : ByteArray} {p f u : Nat} (h : p + 9 < s.size) (h1 : 1 < bNu s (p + 9)) : getR s p (f + 1) 9 u = .bad 3 := by
  rw [getR, if_neg (by omega), if_pos ⟨rfl, h1⟩]
theorem getR_zero {s : ByteArray} {p f i u : Nat} (h : p + i < s.size) (h1 : bNu s (p + i) = 0) (h2 : 0 < i) : getR s p (f + 1) i u = .bad 3 := by
  rw [getR, if_neg (by omega), if_neg (by omega), if_pos (by omega), if_pos ⟨h1, h2⟩]
theorem getR_last {s : ByteArray} {p f i u : Nat} (h : p + i < s.size) (h0 : i = 9 → bNu s (p + i) ≤ 1) (h1 : bNu s (p + i) < 128) (h2 : ¬ (bNu s (p + i) = 0 ∧ 0 < i)) :
    getR s p (f + 1) i u = ⟨unI (u + sh7 i (bNu s (p + i) % 128)), (p + i + 1 : Nat), 0⟩ := by
  rw [getR, if_neg (by omega), if_neg (by rintro ⟨a, b⟩; have := h0 a; omega), if_pos h1, if_neg h2]
theorem getR_more {s : ByteArray} {p f i u : Nat} (h : p + i < s.size) (h0 : i = 9 → bNu s (p + i) ≤ 1) (h1 : 128 ≤ bNu s (p + i)) :
    getR s p (f + 1) i u = getR s p f (i + 1) (u + sh7 i (bNu s (p + i) % 128)) := by
  rw [getR, if_neg (by omega), if_neg (by rintro ⟨a, b⟩; have := h0 a; omega), if_neg (by omega)]
theorem pow7 (i : Nat) : 128 ^ i = 2 ^ (7 * i) := by rw [Nat.pow_mul]
theorem sh7_bound {i u x : Nat} (hu : u < 128 ^ i) (hx : x < 128) : u + sh7 i x < 128 ^ (i + 1) := by
  unfold sh7
  rw [Nat.pow_succ]
  have : x * 128 ^ i ≤ 127 * 128 ^ i := Nat.mul_le_mul_right _ (by omega)
  omega
theorem pow_le9 {i : Nat} (h : i ≤ 9) : 128 ^ i ≤ 9223372036854775808 := by
  have : 128 ^ i ≤ 128 ^ 9 := Nat.pow_le_pow_right (by omega) h
  omega
theorem orU7 (i u x : Nat) (hu : u < 128 ^ i) : u ||| sh7 i x = u + sh7 i x := by
  unfold sh7
  rw [pow7] at *
  rw [Nat.mul_comm x, Nat.or_comm, ← Nat.two_pow_add_eq_or_of_lt hu, Nat.add_comm]
theorem wrapSh {s : ByteArray} {j i : Nat} (h : j < s.size) (hi : i ≤ 9) (h9 : i = 9 → bNu s j ≤ 1) :
    IntKind.u64.wrap ((s[j].toNat : Int) % 128 * 2 ^ (7 * i)) = ((sh7 i (bNu s j % 128) : Nat) : Int) := by
  have hb := bU_eq s j h
  have e : ((s[j].toNat : Int) % 128 * 2 ^ (7 * i)) = ((sh7 i (bNu s j % 128) : Nat) : Int) := by
    unfold sh7
    rw [pow7, hb]
    simp
  rw [e, IntKind.wrap_u64]
  have h1 : sh7 i (bNu s j % 128) ≤ 9223372036854775808 := by
    by_cases h' : i = 9
    · have hx : bNu s j % 128 ≤ 1 := by have := h9 h'; omega
      unfold sh7
      have := Nat.mul_le_mul hx (pow_le9 hi)
      omega
    · have hu : 0 < 128 ^ i := Nat.pow_pos (by omega)
      have := sh7_bound (i := i) (u := 0) (x := bNu s j % 128) hu (by omega)
      have h2 := pow_le9 (i := i + 1) (by omega)
      omega
  omega
theorem wrapSum {i u x : Nat} (hu : u < 128 ^ i) (hi : i ≤ 9) (hx : x ≤ 9223372036854775808) : IntKind.u64.wrap ((u : Int) + (x : Int)) = ((u + x : Nat) : Int) ∧ u + x ≤ 18446744073709551615 := by
  have := pow_le9 hi
  rw [IntKind.wrap_u64]
  omega
theorem sh7_le {s : ByteArray} {j i : Nat} (hi : i ≤ 9) (h9 : i = 9 → bNu s j ≤ 1) : sh7 i (bNu s j % 128) ≤ 9223372036854775808 := by
  by_cases h' : i = 9
  · have hx : bNu s j % 128 ≤ 1 := by have := h9 h'; omega
    unfold sh7
    have := Nat.mul_le_mul hx (pow_le9 hi)
    omega
  · have hu : 0 < 128 ^ i := Nat.pow_pos (by omega)
    have := sh7_bound (i := i) (u := 0) (x := bNu s j % 128) hu (by omega)
    have h2 := pow_le9 (i := i + 1) (by omega)
    omega
end Go.Proofs.YtfliacfeebooeaaGreatDoor
namespace Go.Proofs.YtfliacfeebooeaaGreatDoor
open Go.RowKit Go.Lib

theorem putF_pos (f x : Nat) : 0 < (putF f x).length := by
  cases f with
  | zero => simp [putF]
  | succ f => rw [putF]; split <;> simp
theorem putF_le (f x : Nat) : (putF f x).length ≤ f + 1 := by
  induction f generalizing x with
  | zero => simp [putF]
  | succ f ih =>
    rw [putF]
    split
    · simp
    · simpa using ih (x / 128)
/-- The bytes of a number are read as that number. -/
theorem get_put (s : ByteArray) (p : Nat) : ∀ (f i x u : Nat), x < pw f → i + f = 9 → (∀ j, j < (putF f x).length → ((bNu s (p + i + j) : Nat) : Int) = (putF f x).getD j 0) → p + i + (putF f x).length ≤ s.size →
    (0 < i → 0 < x) → u + x * 128 ^ i ≤ 18446744073709551615 → getR s p (f + 1) i u = ⟨unI (u + x * 128 ^ i), (p + i + (putF f x).length : Nat), 0⟩ := by
  intro f
  induction f with
  | zero =>
    intro i x u hx hi hb hl h0 hv
    obtain rfl : i = 9 := by omega
    have e : putF 0 x = [(x : Int)] := rfl
    rw [e] at hb hl ⊢
    have hb0 := hb 0 (by simp)
    simp at hb0
    have hbx : bNu s (p + 9) = x := by omega
    have hx1 : x ≤ 1 := by omega
    rw [getR_last (by simp at hl; omega) (by intro _; omega) (by omega) (by rw [hbx]; omega), hbx]
    simp [sh7, Nat.mod_eq_of_lt (show x < 128 by omega)]
  | succ f ih =>
    intro i x u hx hi hb hl h0 hv
    by_cases h128 : x < 128
    · have e : putF (f + 1) x = [(x : Int)] := putF_last h128
      rw [e] at hb hl ⊢
      have hb0 := hb 0 (by simp)
      simp at hb0
      have hbx : bNu s (p + i) = x := by omega
      rw [getR_last (by simp at hl; omega) (by omega) (by omega) (by rw [hbx]; omega), hbx]
      simp [sh7, Nat.mod_eq_of_lt h128]
    · have e : putF (f + 1) x = ((x % 128 + 128 : Nat) : Int) :: putF f (x / 128) := putF_more (by omega)
      rw [e] at hb hl ⊢
      have hb0 := hb 0 (by simp)
      simp only [Nat.add_zero, List.getD_cons_zero] at hb0
      have hbx : bNu s (p + i) = x % 128 + 128 := by omega
      simp only [List.length_cons] at hl ⊢
      rw [getR_more (by omega) (by omega) (by omega), hbx, show (x % 128 + 128) % 128 = x % 128 from by omega]
      have hpow : 128 ^ (i + 1) = 128 * 128 ^ i := by rw [Nat.pow_succ, Nat.mul_comm]
      have hsum : u + sh7 i (x % 128) + x / 128 * 128 ^ (i + 1) = u + x * 128 ^ i := by
        unfold sh7
        rw [hpow, ← Nat.mul_assoc, Nat.add_assoc, ← Nat.add_mul, show x % 128 + x / 128 * 128 = x from by omega]
      have := ih (i + 1) (x / 128) (u + sh7 i (x % 128)) (by simp only [pw] at hx; omega) (by omega) (fun j hj => by
        have := hb (j + 1) (by simpa using hj)
        rw [show p + (i + 1) + j = p + i + (j + 1) from by omega]
        simpa using this) (by omega) (by omega) (by rw [hsum]; exact hv)
      rw [hsum] at this
      rw [this]
      congr 1
      omega
/-- Bytes that end too early are short. -/
theorem getU_short (s : ByteArray) (p : Nat) : ∀ (f i x u : Nat), i + f = 9 → (∀ j, j + 1 < (putF f x).length → ((bNu s (p + i + j) : Nat) : Int) = (putF f x).getD j 0) → s.size + 1 = p + i + (putF f x).length →
    getR s p (f + 1) i u = .bad 4 := by
  intro f
  induction f with
  | zero =>
    intro i x u hi hb hl
    have e : putF 0 x = [(x : Int)] := rfl
    rw [e] at hl
    exact getR_short (by simp at hl; omega)
  | succ f ih =>
    intro i x u hi hb hl
    by_cases h128 : x < 128
    · have e : putF (f + 1) x = [(x : Int)] := putF_last h128
      rw [e] at hl
      exact getR_short (by simp at hl; omega)
    · have e : putF (f + 1) x = ((x % 128 + 128 : Nat) : Int) :: putF f (x / 128) := putF_more (by omega)
      rw [e] at hb hl
      have hpos := putF_pos f (x / 128)
      have hb0 := hb 0 (by simp; omega)
      simp only [Nat.add_zero, List.getD_cons_zero] at hb0
      have hbx : bNu s (p + i) = x % 128 + 128 := by omega
      simp only [List.length_cons] at hl
      rw [getR_more (by omega) (by omega) (by omega)]
      exact ih (i + 1) (x / 128) _ (by omega) (fun j hj => by
        have := hb (j + 1) (by simp; omega)
        rw [show p + (i + 1) + j = p + i + (j + 1) from by omega]
        simpa using this) (by omega)
theorem unI_foldI (n : Int) : unI (foldI n) = n := by
  unfold foldI unI
  split
  · rw [if_pos (by omega)]; omega
  · rw [if_neg (by omega)]; omega
theorem foldI_le (n : Int) (h0 : -9223372036854775808 ≤ n) (h1 : n ≤ 9223372036854775807) : foldI n ≤ 18446744073709551615 := by unfold foldI; split <;> omega
theorem putF_mem (f x : Nat) (h : x < pw f) : ∀ y ∈ putF f x, 0 ≤ y ∧ y ≤ 255 := by
  induction f generalizing x with
  | zero => simp [putF, pw] at *; omega
  | succ f ih =>
    rw [putF]
    split
    · simp; omega
    · intro y hy
      rcases List.mem_cons.1 hy with rfl | hy
      · omega
      · exact ih (x / 128) (by simp only [pw] at h; omega) y hy
theorem bU_nums (xs : List Int) (h : ∀ x ∈ xs, 0 ≤ x ∧ x ≤ 255) (j : Nat) (hj : j < xs.length) : ((bNu (strOfNums xs) j : Nat) : Int) = xs.getD j 0 := by
  have hx := h xs[j] (List.getElem_mem hj)
  have e : (strOfNums xs).data.toList = xs.map fun n => UInt8.ofNat n.toNat := by simp [strOfNums]
  unfold bNu
  rw [e]
  simp only [List.getD, List.getElem?_map, List.getElem?_eq_getElem hj, Option.map_some, Option.getD_some]
  rw [UInt8.toNat_ofNat_of_lt' (by simp [UInt8.size]; omega)]
  omega
theorem toList_append (a b : ByteArray) : (a ++ b).data.toList = a.data.toList ++ b.data.toList := by
  rw [ByteArray.data_append, Array.toList_append]
theorem bU_left (a b : ByteArray) (j : Nat) (h : j < a.size) : bNu (a ++ b) j = bNu a j := by
  unfold bNu
  rw [toList_append, List.getD, List.getElem?_append_left (by rw [← size_eq]; exact h)]
  rfl
theorem bU_right (a b : ByteArray) (j : Nat) : bNu (a ++ b) (a.size + j) = bNu b j := by
  unfold bNu
  rw [toList_append, List.getD, List.getElem?_append_right (by rw [← size_eq]; omega), ← size_eq, Nat.add_sub_cancel_left]
  rfl
theorem bU_extract (a : ByteArray) (k j : Nat) (h : j < k) (hk : k ≤ a.size) : bNu (a.extract 0 k) j = bNu a j := by
  have e := bU_eq (a.extract 0 k) j (by rw [ByteArray.size_extract]; omega)
  rw [e, bU_eq a j (by omega)]
  congr 1
  simp [ByteArray.getElem_extract]
theorem pw9_lt {x : Nat} (h : x ≤ 18446744073709551615) : x < pw 9 := by rw [pw9]; omega
/-- The number's bytes, whatever stands ahead of and behind them. -/
theorem num_back (n : Int) (h0 : -9223372036854775808 ≤ n) (h1 : n ≤ 9223372036854775807) (a b : ByteArray) :
    getR (a ++ strOfNums (putF 9 (foldI n)) ++ b) a.size 10 0 0 = ⟨n, (a.size + (strOfNums (putF 9 (foldI n))).size : Nat), 0⟩ := by
  have hf := foldI_le n h0 h1
  have hs : (strOfNums (putF 9 (foldI n))).size = (putF 9 (foldI n)).length := by simp [strOfNums, ByteArray.size]
  have := get_put (a ++ strOfNums (putF 9 (foldI n)) ++ b) a.size 9 0 (foldI n) 0 (pw9_lt hf) rfl (fun j hj => by
    rw [Nat.add_zero, bU_left _ _ _ (by rw [ByteArray.size_append]; omega), bU_right]
    exact bU_nums _ (putF_mem _ _ (pw9_lt hf)) j hj) (by rw [ByteArray.size_append, ByteArray.size_append]; omega) (by omega) (by simpa using hf)
  rw [this]
  simp [unI_foldI, hs]
/-- Without its last byte it is short. -/
theorem num_short (n : Int) (h0 : -9223372036854775808 ≤ n) (h1 : n ≤ 9223372036854775807) :
    getR ((strOfNums (putF 9 (foldI n))).extract 0 ((strOfNums (putF 9 (foldI n))).size - 1)) 0 10 0 0 = .bad 4 := by
  have hf := foldI_le n h0 h1
  have hs : (strOfNums (putF 9 (foldI n))).size = (putF 9 (foldI n)).length := by simp [strOfNums, ByteArray.size]
  have hp := putF_pos 9 (foldI n)
  refine getU_short _ 0 9 0 (foldI n) 0 rfl (fun j hj => ?_) ?_
  · rw [Nat.add_zero, Nat.zero_add, bU_extract _ _ _ (by omega) (by omega)]
    exact bU_nums _ (putF_mem _ _ (pw9_lt hf)) j (by omega)
  · rw [ByteArray.size_extract]; omega
end Go.Proofs.YtfliacfeebooeaaGreatDoor
