/- Papers, and when they are right. Plain mathematics: no program is named here. -/
import Derived.Test.YtkopinnhicoggaaStrs
import Derived.Test.YtkopinnhicoggaaNameA
import Derived.Test.YtkopinnhicoggaaSecP
namespace Go.Proofs.Ytkopinnhicoggaa
open Go.RowKit

structure Paper where
  serial : Int
  issuer : ByteArray
  subject : ByteArray
  fr : Int
  till : Int
  key : Int
  names : List ByteArray
  ca : Bool
  sk : Int
  se : Int
  ss : Int
/-- Its cells, the names behind the value v. -/
def Paper.cells (c : Paper) (v : Value) : List Value := [.int .i64 c.serial, .string c.issuer, .string c.subject, .int .i64 c.fr, .int .i64 c.till, .int .i64 c.key, v, .bool c.ca, .int .i64 c.sk, .int .i64 c.se, .int .i64 c.ss]
def Paper.val (c : Paper) (v : Value) : Value := .agg #[.int .i64 c.serial, .string c.issuer, .string c.subject, .int .i64 c.fr, .int .i64 c.till, .int .i64 c.key, v, .bool c.ca, .int .i64 c.sk, .int .i64 c.se, .int .i64 c.ss]
open Classical in
/-- Is it a name? -/
noncomputable def nameB (s : ByteArray) : Bool := decide (NameOk s)
theorem ans_name {s : ByteArray} {e : Ending} (h : AnsB (NameOk s) e) : e = .returned (.bool (nameB s)) := by
  obtain ⟨r, rfl, hr⟩ := h
  have : r = nameB s := by rw [Bool.eq_iff_iff, hr]; simp [nameB]
  rw [this]
def timeB (n : Int) : Bool := decide (0 ≤ n) && decide (n ≤ 1000000000)
/-- Name number i, behind the one ahead of it. -/
noncomputable def okN (ss : List ByteArray) (i : Nat) : Bool := nameB (tAt ss i) && (decide (i = 0) || Op.bytesLess (tAt ss (i - 1)).toList (tAt ss i).toList)
noncomputable def okTo (ss : List ByteArray) : Nat → Bool
  | 0 => true
  | k + 1 => okTo ss k && okN ss k
theorem okTo_no {ss : List ByteArray} {k : Nat} (h : okN ss k = false) : ∀ {n : Nat}, k < n → okTo ss n = false := by
  intro n
  induction n with
  | zero => intro h'; omega
  | succ n ih =>
    intro h'
    show (okTo ss n && okN ss n) = false
    by_cases e : k = n
    · subst e; rw [h]; simp
    · rw [ih (by omega)]; rfl
theorem okTo_yes {ss : List ByteArray} {k : Nat} (h : okTo ss k = true) (h' : okN ss k = true) : okTo ss (k + 1) = true := by show (okTo ss k && okN ss k) = true; rw [h, h']; rfl
noncomputable def namesB (ss : List ByteArray) : Bool := okTo ss ss.length && decide (ss.length ≤ 5)
noncomputable def paperB (c : Paper) : Bool :=
  decide (1 ≤ c.serial) && decide (c.serial ≤ 1000000000) && nameB c.issuer && nameB c.subject && timeB c.fr && timeB c.till && decide (c.fr ≤ c.till) && rightG c.key && namesB c.names
noncomputable def certB (c : Paper) : Bool := paperB c && sigRB c.sk c.se c.ss
theorem okN_zero {ss : List ByteArray} (h : nameB (tAt ss 0) = true) : okN ss 0 = true := by simp [okN, h]
theorem okN_not {ss : List ByteArray} {k : Nat} (h : nameB (tAt ss k) = false) : okN ss k = false := by simp [okN, h]
theorem okN_more {ss : List ByteArray} {k : Nat} (hk : 0 < k) (h : nameB (tAt ss k) = true) : okN ss k = Op.bytesLess (tAt ss (k - 1)).toList (tAt ss k).toList := by simp [okN, h, Nat.ne_of_gt hk]
end Go.Proofs.Ytkopinnhicoggaa
