/- A row of numbers of the call's own. A row of numbers, or none, that came along: what is said of it. What is asked for, and lists of what is taken back: which are right but for what their signatures tell, their bodies and bytes. Plain mathematics: no program is named here. What is asked for, and lists of what is taken back: which of them check. Plain mathematics: no program is named here. A list that is signed. Plain mathematics: no program is named here. How many cells it has. A list of what is taken back in a variable, as the draws make it. Serials, rising: when they are. Plain mathematics: no program is named here. The specification's side of lists: spec.l07List, walked. spec.l07Listed, walked. -/
import Derived.Test.YtegmmaomaegjjaaGreatDoorPT06
import Derived.Test.YtegmmaomaegjjaaGreatDoorPT05
import Derived.Below
import Derived.Test.YtegmmaomaegjjaaGreatDoorPT03
import Derived.Test.YtegmmaomaegjjaaGreatDoorPT01
import Derived.Test.YtegmmaomaegjjaaGreatDoorPT02
import Derived.Test.YtegmmaomaegjjaaGreatDoorPT10
import Derived.Test.YtegmmaomaegjjaaGreatDoorPT07
import Derived.Deep.Cut
import Derived.Deep.RegionHeld3
namespace Go.Proofs.YtegmmaomaegjjaaGreatDoor
open Go.RowKit

/-- A row of numbers of the call's own. -/
def OwnL (w : World) (B : Nat) (v : Value) (l : List Int) : Prop := w.ownsRow B 2 1 v l.length (lCells l)
theorem OwnL.keep {w w' : World} {B : Nat} {v : Value} {l : List Int} (h : OwnL w B v l) (hb : Below w.heap.size w w') : OwnL w' B v l := by
  refine ⟨h.1, ?_⟩
  rcases h.2 with h | ⟨g, cap, cur, e, h1, h2, h3⟩
  · exact .inl h
  · exact .inr ⟨g, cap, cur, e, h1, by rw [hb.block g (heap_lt h2)]; exact h2, h3⟩
theorem OwnL.mono {w : World} {B B' : Nat} {v : Value} {l : List Int} (h : OwnL w B v l) (hB : B' ≤ B) : OwnL w B' v l := by
  refine ⟨h.1, ?_⟩
  rcases h.2 with h | ⟨g, cap, cur, e, h1, h3⟩
  · exact .inl h
  · exact .inr ⟨g, cap, cur, e, Nat.le_trans hB h1, h3⟩
theorem OwnL.other {w : World} {B b o : Nat} {v u : Value} {l : List Int} (h : OwnL w B v l) (hb : b < B) : OwnL (w.setCell ⟨b, o, none⟩ u) B v l := by
  refine ⟨h.1, ?_⟩
  rcases h.2 with h | ⟨g, cap, cur, e, h1, h2, h3⟩
  · exact .inl h
  · exact .inr ⟨g, cap, cur, e, h1, by rw [heap_setCell_other _ _ _ _ (by show g ≠ b; omega)]; exact h2, h3⟩
theorem OwnL.form {w : World} {B : Nat} {v : Value} {l : List Int} (h : OwnL w B v l) : ∃ a c, v = .slice a l.length c ∧ l.length ≤ c := by
  rcases h.2 with ⟨h, h'⟩ | ⟨g, cap, _, e, _, _, hc, _⟩
  · exact ⟨none, 0, by rw [h']; exact h, by omega⟩
  · exact ⟨_, _, e, hc⟩
theorem ownL_nil (w : World) (B : Nat) : OwnL w B (.slice none 0 0) [] := ⟨rfl, .inl ⟨rfl, rfl⟩⟩
theorem OwnL.ints {w : World} {B : Nat} {a : Option Addr} {n c : Nat} {l : List Int} (h : OwnL w B (.slice a n c) l) : IsInts w a l := by
  rcases h.2 with ⟨_, h'⟩ | ⟨g, cap, cur, e, _, hg, _, _, _, ht⟩
  · exact .inl (List.eq_nil_of_length_eq_zero h')
  · simp only [Value.slice.injEq] at e
    obtain ⟨rfl, _, _⟩ := e
    refine .inr ⟨g, 0, rfl, fun i hi => ?_⟩
    have k0 : (lCells l)[i]? = some (.int .i64 (l.getD i 0)) := by simp [lCells, List.getD, hi]
    rw [← ht, List.getElem?_take, if_pos (by omega)] at k0
    rw [Nat.zero_add, cell_of_row w g _ _ _ (0, 0) hg]
    simpa using k0
theorem OwnL.ge {w : World} {B g : Nat} {v : Value} {l : List Int} (h : OwnL w B v l) (e : v.ownBlock = some g) : B ≤ g ∧ g < w.heap.size :=
  (show World.ownsRow w B 2 1 v l.length (lCells l) from h).lt g e
/-- It stands where its blocks are as they were. -/
theorem OwnL.same {w w' : World} {B : Nat} {v : Value} {l : List Int} (h : OwnL w B v l) (hs : ∀ k, B ≤ k → k < w.heap.size → w'.heap[k]? = w.heap[k]?) : OwnL w' B v l := by
  refine ⟨h.1, ?_⟩
  rcases h.2 with h | ⟨g, cap, cur, e, h1, h2, h3⟩
  · exact .inl h
  · exact .inr ⟨g, cap, cur, e, h1, by rw [hs g h1 (heap_lt h2)]; exact h2, h3⟩
theorem lCells_at {l : List Int} {i : Nat} (h : i < l.length) : (lCells l)[i]? = some (.int .i64 (l.getD i 0)) := by simp [lCells, List.getD, h]
end Go.Proofs.YtegmmaomaegjjaaGreatDoor
namespace Go.Proofs.YtegmmaomaegjjaaGreatDoor
open Go.RowKit

/-- The numbers lie there, or there is no row and there are none. -/
def RowL (w : World) (a : Option Addr) (cap : Nat) (zs : List Int) : Prop := (a = none ∧ zs = [] ∧ cap = 0) ∨ ∃ g o, a = some ⟨g, o, none⟩ ∧ g < w.heap.size ∧ ∀ i, i < zs.length → w.cell? ⟨g, o + i, none⟩ = some (.int .i64 (zs.getD i 0))
theorem RowL.ints {w : World} {a : Option Addr} {cap : Nat} {zs : List Int} (h : RowL w a cap zs) : IsInts w a zs := by
  rcases h with ⟨_, h, _⟩ | ⟨g, o, e, _, h⟩
  · exact .inl h
  · exact .inr ⟨g, o, e, h⟩
theorem RowL.keep {w w' : World} {a : Option Addr} {cap : Nat} {zs : List Int} (h : RowL w a cap zs) (hb : Below w.heap.size w w') : RowL w' a cap zs := by
  rcases h with h | ⟨g, o, e, hg, h⟩
  · exact .inl h
  · exact .inr ⟨g, o, e, Nat.lt_of_lt_of_le hg hb.size, fun i hi => by rw [hb.cell (p := ⟨g, o + i, none⟩) hg]; exact h i hi⟩
theorem RowL.src {w : World} {a : Option Addr} {cap : Nat} {zs : List Int} (h : RowL w a cap zs) : SrcRow w a zs.length cap (lCells zs) := by
  rcases h with ⟨e, h, hc⟩ | ⟨g, o, e, hg, h⟩
  · subst h; exact .inl ⟨e, rfl, hc, rfl⟩
  · refine .inr ⟨⟨g, o, none⟩, e, fun j u hu => ?_⟩
    rw [Addr.add_lit]
    have hj : j < zs.length := by
      rcases Nat.lt_or_ge j zs.length with h | h
      · exact h
      · rw [List.getElem?_eq_none (by simpa [lCells] using h)] at hu; cases hu
    rw [h j hj]
    rw [lCells_at hj] at hu
    exact hu
theorem OwnL.rowL {w : World} {B n c : Nat} {a : Option Addr} {l : List Int} (h : OwnL w B (.slice a n c) l) : RowL w a c l := by
  rcases h.2 with ⟨h', h0⟩ | ⟨g, cap, cur, e, _, hg, _, _, _, ht⟩
  · simp only [Value.slice.injEq] at h'
    exact .inl ⟨h'.1, List.eq_nil_of_length_eq_zero h0, h'.2.2⟩
  · simp only [Value.slice.injEq] at e
    obtain ⟨rfl, _, rfl⟩ := e
    refine .inr ⟨g, 0, rfl, heap_lt hg, fun i hi => ?_⟩
    have k0 := lCells_at hi
    rw [← ht, List.getElem?_take, if_pos (by omega)] at k0
    rw [Nat.zero_add, cell_of_row w g _ _ _ (0, 0) hg]
    simpa using k0
end Go.Proofs.YtegmmaomaegjjaaGreatDoor
namespace Go.Proofs.YtegmmaomaegjjaaGreatDoor
open Go.RowKit

structure Ask where
  key : Int
  names : List ByteArray
  sk : Int
  se : Int
  ss : Int
def Ask.val (c : Ask) (v : Value) : Value := .agg #[.int .i64 c.key, v, .int .i64 c.sk, .int .i64 c.se, .int .i64 c.ss]
/-- Right, but for its Sig. -/
noncomputable def askB (c : Ask) : Bool := rightG c.key && namesB c.names && decide (0 < c.names.length)
def askD (c : Ask) : ByteArray := seqD (intD 0 ++ (thingD 3 (⟨#[0]⟩ ++ putS c.key) ++ seqD (hostsD c.names c.names.length)))
/-- Right, but for its Sig's check. -/
noncomputable def formB (c : Ask) : Bool := askB c && sigRB c.sk c.se c.ss && decide (c.sk = c.key)
def askT (e s : Int) : ByteArray := ⟨#[0]⟩ ++ putS e ++ putS s
def askY (c : Ask) : ByteArray := seqD (askD c ++ thingD 3 (askT c.se c.ss))
theorem askT_le (e s : Int) : (askT e s).size ≤ 21 := by
  have h2 := putS_size e
  have h3 := putS_size s
  unfold askT
  simp only [ByteArray.size_append]
  have h4 : (⟨#[0]⟩ : ByteArray).size = 1 := rfl
  omega
theorem names_fit {ss : List ByteArray} (h : namesB ss = true) : ss.length ≤ 5 ∧ ∀ i, i < ss.length → (tAt ss i).size ≤ 40 := by
  unfold namesB at h
  simp only [Bool.and_eq_true, decide_eq_true_eq] at h
  exact ⟨h.2, okTo_name h.1⟩
theorem rightG_lt {k : Int} (h : rightG k = true) : 1 < k ∧ k < 2147483579 := by
  have h8' := of_decide_eq_true h
  exact ⟨h8'.1, h8'.2.1⟩
theorem sigRB_lt {k e s : Int} (h : sigRB k e s = true) : (1 < k ∧ k < 2147483579) ∧ (0 ≤ e ∧ e < 1073741789) ∧ 0 ≤ s ∧ s < 1073741789 := by
  unfold sigRB at h
  simp only [Bool.and_eq_true] at h
  exact ⟨rightG_lt h.1.1, of_decide_eq_true h.1.2, of_decide_eq_true h.2⟩
theorem ask_fits {c : Ask} (h : askB c = true) : (1 < c.key ∧ c.key < 2147483579) ∧ c.names.length ≤ 5 ∧ 0 < c.names.length ∧ ∀ i, i < c.names.length → (tAt c.names i).size ≤ 40 := by
  unfold askB at h
  simp only [Bool.and_eq_true, decide_eq_true_eq] at h
  obtain ⟨⟨h1, h2⟩, h3⟩ := h
  exact ⟨rightG_lt h1, (names_fit h2).1, h3, (names_fit h2).2⟩
theorem askK_le (k : Int) : (thingD 3 (⟨#[0]⟩ ++ putS k)).size ≤ 15 := by
  have h2 := thingD_le 3 (⟨#[0]⟩ ++ putS k)
  have h3 := putS_size k
  have h5 : (⟨#[0]⟩ : ByteArray).size = 1 := rfl
  rw [ByteArray.size_append] at h2
  omega
theorem hosts_le {ss : List ByteArray} (h : ss.length ≤ 5) (h' : ∀ i, i < ss.length → (tAt ss i).size ≤ 40) : (seqD (hostsD ss ss.length)).size ≤ 224 := by
  have h4 := hostsD_le (ss := ss) ss.length h'
  have h3 := seqD_le (hostsD ss ss.length)
  omega
theorem askD_le {c : Ask} (h : askB c = true) : (askD c).size ≤ 255 := by
  obtain ⟨_, h2, _, h4⟩ := ask_fits h
  have y1 := intD_le 0
  have y2 := askK_le c.key
  have y3 := hosts_le h2 h4
  have z := seqD_le (intD 0 ++ (thingD 3 (⟨#[0]⟩ ++ putS c.key) ++ seqD (hostsD c.names c.names.length)))
  simp only [ByteArray.size_append] at z
  unfold askD
  omega
theorem thing_pos (t : Int) (b : ByteArray) : 0 < (thingD t b).size := by
  rw [thingD_size]
  omega
theorem formB_ask {c : Ask} (h : formB c = true) : askB c = true := by
  unfold formB at h
  simp only [Bool.and_eq_true] at h
  exact h.1.1
theorem formB_sig {c : Ask} (h : formB c = true) : sigRB c.sk c.se c.ss = true := by
  unfold formB at h
  simp only [Bool.and_eq_true] at h
  exact h.1.2

structure Lst where
  issuer : ByteArray
  fr : Int
  till : Int
  serials : List Int
  sk : Int
  se : Int
  ss : Int
def Lst.val (c : Lst) (v : Value) : Value := .agg #[.string c.issuer, .int .i64 c.fr, .int .i64 c.till, v, .int .i64 c.sk, .int .i64 c.se, .int .i64 c.ss]
def okS (zs : List Int) (i : Nat) : Bool := serB (zs.getD i 0) && (decide (i = 0) || decide (zs.getD (i - 1) 0 < zs.getD i 0))
def okSTo (zs : List Int) : Nat → Bool
  | 0 => true
  | k + 1 => okSTo zs k && okS zs k
theorem okSTo_no {zs : List Int} {k : Nat} (h : okS zs k = false) : ∀ {n : Nat}, k < n → okSTo zs n = false := by
  intro n
  induction n with
  | zero => intro h'; omega
  | succ n ih =>
    intro h'
    show (okSTo zs n && okS zs n) = false
    by_cases e : k = n
    · subst e; rw [h]; simp
    · rw [ih (by omega)]; rfl
theorem okSTo_yes {zs : List Int} {k : Nat} (h : okSTo zs k = true) (h' : okS zs k = true) : okSTo zs (k + 1) = true := by show (okSTo zs k && okS zs k) = true; rw [h, h']; rfl
def serialsB (zs : List Int) : Bool := okSTo zs zs.length && decide (zs.length ≤ 40)
noncomputable def listB (c : Lst) : Bool := nameB c.issuer && timeB c.fr && timeB c.till && decide (c.fr ≤ c.till) && serialsB c.serials
def serD (zs : List Int) : Nat → ByteArray
  | 0 => ⟨#[]⟩
  | k + 1 => serD zs k ++ intD (zs.getD k 0)
theorem serD_le (zs : List Int) : ∀ k, (serD zs k).size ≤ 12 * k
  | 0 => Nat.le_refl _
  | k + 1 => by
    have h1 := serD_le zs k
    have h2 := intD_le (zs.getD k 0)
    show (serD zs k ++ intD (zs.getD k 0)).size ≤ _
    rw [ByteArray.size_append]
    omega
def listD (c : Lst) : ByteArray := seqD (nameD c.issuer ++ (intD c.fr ++ (intD c.till ++ seqD (serD c.serials c.serials.length))))
noncomputable def crlB (c : Lst) : Bool := listB c && sigRB c.sk c.se c.ss
def listY (c : Lst) : ByteArray := seqD (listD c ++ sigD c.sk c.se c.ss)
noncomputable def crlBytesD (c : Lst) : ByteArray := if crlB c = true then listY c else ⟨#[]⟩
theorem okSTo_lt {zs : List Int} : ∀ {n : Nat}, okSTo zs n = true → ∀ i, i < n → 1 ≤ zs.getD i 0 ∧ zs.getD i 0 ≤ 1000000000 := by
  intro n
  induction n with
  | zero => intro _ i hi; omega
  | succ n ih =>
    intro h i hi
    have h' : (okSTo zs n && okS zs n) = true := h
    rw [Bool.and_eq_true] at h'
    by_cases e : i = n
    · subst e
      have := h'.2
      unfold okS serB at this
      simp only [Bool.and_eq_true, decide_eq_true_eq] at this
      exact this.1
    · exact ih h'.1 i (by omega)
structure LFits (c : Lst) : Prop where
  iss : c.issuer.size ≤ 40
  fr0 : 0 ≤ c.fr
  fr1 : c.fr ≤ 1000000000
  till0 : 0 ≤ c.till
  till1 : c.till ≤ 1000000000
  len : c.serials.length ≤ 40
  each : ∀ i, i < c.serials.length → 1 ≤ c.serials.getD i 0 ∧ c.serials.getD i 0 ≤ 1000000000
theorem list_fits {c : Lst} (h : listB c = true) : LFits c := by
  unfold listB at h
  simp only [Bool.and_eq_true, decide_eq_true_eq] at h
  obtain ⟨⟨⟨⟨h1, h2⟩, h3⟩, _⟩, h5⟩ := h
  unfold timeB at h2 h3
  simp only [Bool.and_eq_true, decide_eq_true_eq] at h2 h3
  unfold serialsB at h5
  simp only [Bool.and_eq_true, decide_eq_true_eq] at h5
  exact ⟨name_size h1, h2.1, h2.2, h3.1, h3.2, h5.2, okSTo_lt h5.1⟩
theorem listD_le {c : Lst} (h : LFits c) : (listD c).size ≤ 700 := by
  have y1 := nameD_le c.issuer
  have y2 := intD_le c.fr
  have y3 := intD_le c.till
  have y4 := serD_le c.serials c.serials.length
  have y5 := seqD_le (serD c.serials c.serials.length)
  have y6 := h.iss
  have y7 := h.len
  have z := seqD_le (nameD c.issuer ++ (intD c.fr ++ (intD c.till ++ seqD (serD c.serials c.serials.length))))
  simp only [ByteArray.size_append] at z
  unfold listD
  omega
theorem crlB_list {c : Lst} (h : crlB c = true) : listB c = true := by
  unfold crlB at h
  rw [Bool.and_eq_true] at h
  exact h.1
theorem crlB_sig {c : Lst} (h : crlB c = true) : sigRB c.sk c.se c.ss = true := by
  unfold crlB at h
  rw [Bool.and_eq_true] at h
  exact h.2
end Go.Proofs.YtegmmaomaegjjaaGreatDoor
namespace Go.Proofs.YtegmmaomaegjjaaGreatDoor
open Go.RowKit

noncomputable def askR (c : Ask) : Bool := formB c && sigCB c.sk c.se c.ss (askD c)
noncomputable def csrBytesD (c : Ask) : ByteArray := if askR c = true then askY c else ⟨#[]⟩
noncomputable def crlGoodB (k : Int) (c : Lst) : Bool := crlB c && decide (c.sk = k) && sigCB c.sk c.se c.ss (listD c)
end Go.Proofs.YtegmmaomaegjjaaGreatDoor
namespace Go.Proofs.YtegmmaomaegjjaaGreatDoor
open Go.RowKit

def zeroL : Lst := ⟨⟨#[]⟩, 0, 0, [], 0, 0, 0⟩
/-- The list that CrlSign hands back, its Sig being k, e, s. -/
noncomputable def signL (x : Int) (c : Lst) (k e s : Int) : Lst := if secB x = true ∧ listB c = true then ⟨c.issuer, c.fr, c.till, c.serials, k, e, s⟩ else zeroL
theorem signL_yes {x : Int} {c : Lst} (h : secB x = true) (h' : listB c = true) (k e s : Int) : signL x c k e s = ⟨c.issuer, c.fr, c.till, c.serials, k, e, s⟩ := if_pos ⟨h, h'⟩
theorem signL_no {x : Int} {c : Lst} (h : secB x = false ∨ listB c = false) (k e s : Int) : signL x c k e s = zeroL := if_neg (by rintro ⟨h1, h2⟩; rcases h with h | h <;> simp_all)
theorem signL_len (x : Int) (c : Lst) (k e s : Int) : (signL x c k e s).serials.length ≤ c.serials.length := by
  unfold signL
  split
  · exact Nat.le_refl _
  · exact Nat.zero_le _
theorem signV_is3 (x : Int) (t : ByteArray) : ∃ k e s : Int, signV x t = .agg #[.int .i64 k, .int .i64 e, .int .i64 s] := by
  by_cases h : t.size ≤ 20000 ∧ secB x = true
  · obtain ⟨n, rfl, _, _⟩ := secB_nat h.2
    exact ⟨_, _, _, signV_nat h.1 h.2⟩
  · exact ⟨0, 0, 0, signV_no h⟩
end Go.Proofs.YtegmmaomaegjjaaGreatDoor
namespace Go.Proofs.YtegmmaomaegjjaaGreatDoor

theorem sizeCrl : (Tryz.prog.info? 30).map (·.size) = some 7 := by kernel_rfl
end Go.Proofs.YtegmmaomaegjjaaGreatDoor
namespace Go.Proofs.YtegmmaomaegjjaaGreatDoor
open Go.RowKit

structure LMay (c : Lst) : Prop where
  iss : c.issuer.size ≤ 10
  len : c.serials.length ≤ 60
  fr : inW c.fr
  till : inW c.till
  sk : inW c.sk
  se : inW c.se
  ss : inW c.ss
theorem zeroL_may : LMay zeroL := ⟨by decide, by decide, by decide, by decide, by decide, by decide, by decide⟩
theorem signL_may {x k e s : Int} {c : Lst} (h : LMay c) (hk : inW k) (he : inW e) (hs : inW s) : LMay (signL x c k e s) := by
  by_cases hh : secB x = true ∧ listB c = true
  · have e1 : signL x c k e s = ⟨c.issuer, c.fr, c.till, c.serials, k, e, s⟩ := if_pos hh
    rw [e1]; exact ⟨h.iss, h.len, h.fr, h.till, hk, he, hs⟩
  · have e1 : signL x c k e s = zeroL := if_neg hh
    rw [e1]; exact zeroL_may
def Lst.cellsL (c : Lst) (v : Value) : List Value := [.string c.issuer, .int .i64 c.fr, .int .i64 c.till, v, .int .i64 c.sk, .int .i64 c.se, .int .i64 c.ss]
theorem OwnL.grow {n B : Nat} {W W' : World} {v : Value} {l : List Int} (h : OwnL W B v l) (hg : Grows n W W') (hn : n < B) : OwnL W' B v l :=
  h.same fun k hk hl => hg.keepBlock hl (by omega)
theorem OwnL.rowOff {q B : Nat} {W W' : World} {v : Value} {l : List Int} (h : OwnL W B v l) (hg : W.grownBy W' (some q)) (hq : v.ownBlock ≠ some q) : OwnL W' B v l := by
  refine ⟨h.1, ?_⟩
  rcases h.2 with h | ⟨g, cap, cur, e, h1, h2, h3⟩
  · exact .inl h
  · exact .inr ⟨g, cap, cur, e, h1, by rw [hg.block g (heap_lt h2) (by intro e'; exact hq (by rw [e, ← e']; rfl))]; exact h2, h3⟩
/-- In block q lies the list c, its serials behind v; the source stands; else all is as it was at w1. -/
structure CL (w : World) (a : Option Addr) (len cap : Nat) (w1 : World) (q : Nat) (V : World) (c : Lst) (v : Value) : Prop where
  row : V.heap[q]? = some (.cells (c.cellsL v).toArray 30 (0, 0))
  own : OwnL V w1.heap.size v c.serials
  off : v.ownBlock ≠ some q
  may : LMay c
  ss : SS w a len cap V
  grows : Grows w.heap.size w1 V
section
variable {w w1 V V' : World} {a : Option Addr} {len cap q : Nat} {c : Lst} {v : Value}
theorem CL.keep (h : CL w a len cap w1 q V c v) (hq : w.heap.size < q) (h1 : w.heap.size < w1.heap.size) (hs : SS w a len cap V') (hg : Grows w.heap.size V V') : CL w a len cap w1 q V' c v :=
  ⟨by rw [hg.keepBlock (heap_lt h.row) (by omega)]; exact h.row, h.own.grow hg h1, h.off, h.may, hs, h.grows.trans hg⟩
theorem CL.below (h : CL w a len cap w1 q V c v) (hq : w.heap.size < q) (h1 : w.heap.size < w1.heap.size) (hb : Below V.heap.size V V') : CL w a len cap w1 q V' c v :=
  h.keep hq h1 (h.ss.keep hb) (below_grows hb)
/-- One cell of it set anew, not that of the serials. -/
theorem CL.set (h : CL w a len cap w1 q V c v) (hq : w.heap.size < q) (h1 : w1.heap.size ≤ q) (j : Nat) (u : Value) (c' : Lst) (hr : (c.cellsL v).set j u = c'.cellsL v) (hn : c'.serials = c.serials) (hm : LMay c') : CL w a len cap w1 q (V.setCell ⟨q, j, none⟩ u) c' v := by
  have hg := grown_cell V q j u
  exact ⟨by rw [← hr]; exact rowSet (i := j) u h.row, by rw [hn]; exact h.own.rowOff hg h.off, h.off, hm, h.ss.row hg hq, h.grows.row hg h1⟩
/-- Its serials thrown away. -/
theorem CL.clear (h : CL w a len cap w1 q V c v) (hq : w.heap.size < q) (h1 : w1.heap.size ≤ q) : CL w a len cap w1 q (V.setCell ⟨q, 3, none⟩ (.slice none 0 0)) ⟨c.issuer, c.fr, c.till, [], c.sk, c.se, c.ss⟩ (.slice none 0 0) := by
  have hg := grown_cell V q 3 (.slice none 0 0)
  have m := h.may
  exact ⟨rowSet (i := 3) _ h.row, ownL_nil _ _, by simp [Value.ownBlock], ⟨m.iss, by simp, m.fr, m.till, m.sk, m.se, m.ss⟩, h.ss.row hg hq, h.grows.row hg h1⟩
/-- What an append to its serials makes, before it is stored. -/
theorem CL.app (h : CL w a len cap w1 q V c v) (hq : w.heap.size < q) (h1 : w.heap.size < w1.heap.size) (h2 : w1.heap.size ≤ q) {z : Int} {v' : Value} (ho : OwnL V' w1.heap.size v' (c.serials ++ [z])) (hg : V.grownBy V' v.ownBlock) (hl : c.serials.length < 60) :
    V'.heap[q]? = some (.cells (c.cellsL v).toArray 30 (0, 0)) ∧ CL w a len cap w1 q (V'.setCell ⟨q, 3, none⟩ v') ⟨c.issuer, c.fr, c.till, c.serials ++ [z], c.sk, c.se, c.ss⟩ v' := by
  have row : V'.heap[q]? = some (.cells (c.cellsL v).toArray 30 (0, 0)) := by rw [hg.block _ (heap_lt h.row) (fun e => h.off e.symm)]; exact h.row
  have hoff : v'.ownBlock ≠ some q := fun e => by
    rcases ho.2 with ⟨h', _⟩ | ⟨gg, cp, cur, e2, _, h2, _⟩
    · rw [h'] at e; simp [Value.ownBlock] at e
    · rw [e2] at e
      simp only [Value.ownBlock, Option.some.injEq] at e
      rw [e, row] at h2
      simp at h2
  have hlo := (show World.ownsRow _ _ _ _ _ _ _ from h.own).lt
  have hs : SS w a len cap V' := h.ss.grown hg (fun j hj => by have := (hlo j hj).1; omega)
  have hgr : Grows w.heap.size w1 V' := h.grows.grown hg (fun j hj => (hlo j hj).1)
  have hg2 := grown_cell V' q 3 v'
  have m := h.may
  exact ⟨row, rowSet (i := 3) v' row, ho.rowOff hg2 hoff, hoff, ⟨m.iss, by show (c.serials ++ [z]).length ≤ 60; simp; omega, m.fr, m.till, m.sk, m.se, m.ss⟩, hs.row hg2 hq, hgr.row hg2 h2⟩
end
theorem news_one {V : World} {B : Nat} {t : TypeId} {z : Int} (h : V.heap[B]? = some (.cells #[.int .i64 z] t (0, 0))) : ∀ j y, [Value.int .i64 z][j]? = some y → V.cell? ((⟨B, 0, none⟩ : Addr).add j) = some y := fun j y hy => by
  have hj : j = 0 := by
    rcases Nat.lt_or_ge j 1 with h | h
    · omega
    · rw [List.getElem?_eq_none (by simpa using h)] at hy; cases hy
  subst hj
  rw [Addr.add_lit, cell_of_row _ B 0 _ _ (0, 0) h]
  simpa using hy
end Go.Proofs.YtegmmaomaegjjaaGreatDoor
namespace Go.Proofs.YtegmmaomaegjjaaGreatDoor
open Go.RowKit

theorem okS_not {zs : List Int} {k : Nat} (h : serB (zs.getD k 0) = false) : okS zs k = false := by unfold okS; rw [h]; rfl
theorem okS_zero {zs : List Int} (h : serB (zs.getD 0 0) = true) : okS zs 0 = true := by unfold okS; rw [h]; rfl
theorem okS_more {zs : List Int} {k : Nat} (hk : 0 < k) (h : serB (zs.getD k 0) = true) : okS zs k = decide (zs.getD (k - 1) 0 < zs.getD k 0) := by
  unfold okS
  rw [h, decide_eq_false (by omega)]
  rfl
end Go.Proofs.YtegmmaomaegjjaaGreatDoor
namespace Go.Proofs.YtegmmaomaegjjaaGreatDoor
open Go.RowKit

set_option linter.unusedSimpArgs false in
set_option maxHeartbeats 4000000 in
set_option maxRecDepth 100000 in
theorem specList (c : Lst) (a : Option Addr) (cap : Nat) (w : World) (hi : c.issuer.size ≤ maxLen) (hl : c.serials.length ≤ 1048576) (ha : IsInts w a c.serials) :
    Calls Tryz.prog 33 #[c.val (.slice a c.serials.length cap)] w fun e w' => e = .returned (.bool (listB c)) ∧ Below w.heap.size w w' := by
  obtain ⟨R, hR⟩ : ∃ R, R = listB c := ⟨_, rfl⟩
  rw [← hR]
  have HR : Hid (R = (nameB c.issuer && timeB c.fr && timeB c.till && decide (c.fr ≤ c.till) && serialsB c.serials)) := hR
  clear hR
  obtain ⟨iss, fr, till, serials, sk, se, ss⟩ := c
  unfold Lst.val
  simp only at HR hi hl ha ⊢
  obtain ⟨zs, hzs⟩ : ∃ zs, zs = serials := ⟨_, rfl⟩
  rw [← hzs] at HR hl ha ⊢
  clear hzs
  have HSB : Hid (serialsB zs = (okSTo zs zs.length && decide (zs.length ≤ 40))) := rfl
  obtain ⟨nl, hnl⟩ : ∃ nl, nl = zs.length := ⟨_, rfl⟩
  rw [← hnl] at hl ⊢
  have HNl : Hid (nl = zs.length) := hnl
  clear hnl
  obtain ⟨w1, hw1⟩ : ∃ w1, w1 = w.alloc (.cells #[.string iss, .int .i64 fr, .int .i64 till, .slice a nl cap, .int .i64 sk, .int .i64 se, .int .i64 ss] 30 (0, 0)) := ⟨_, rfl⟩
  have r0 : w1.heap[w.heap.size]? = some (.cells [Value.string iss, .int .i64 fr, .int .i64 till, .slice a nl cap, .int .i64 sk, .int .i64 se, .int .i64 ss].toArray 30 (0, 0)) := by rw [hw1]; exact heap_alloc_new w _
  have B1 : Hid (Below w.heap.size w w1) := by rw [hw1]; exact (Below.refl _ _).alloc (Nat.le_refl _) _
  have z1 : w.heap.size < w1.heap.size := by rw [hw1]; simp
  have HK : Hid (∀ V, Below w1.heap.size w1 V → V.cell? ⟨w.heap.size, 0, none⟩ = some (.string iss) ∧ V.cell? ⟨w.heap.size, 1, none⟩ = some (.int .i64 fr) ∧ V.cell? ⟨w.heap.size, 2, none⟩ = some (.int .i64 till) ∧ V.cell? ⟨w.heap.size, 3, none⟩ = some (.slice a nl cap) ∧ V.cell? ⟨w.heap.size, 4, none⟩ = some (.int .i64 sk) ∧ V.cell? ⟨w.heap.size, 5, none⟩ = some (.int .i64 se) ∧ V.cell? ⟨w.heap.size, 6, none⟩ = some (.int .i64 ss)) := fun V hV => by
    have hP := (hV.block _ z1).trans r0
    exact ⟨rowFacts hP 0 _ rfl, rowFacts hP 1 _ rfl, rowFacts hP 2 _ rfl, rowFacts hP 3 _ rfl, rowFacts hP 4 _ rfl, rowFacts hP 5 _ rfl, rowFacts hP 6 _ rfl⟩
  have HA : Hid (∀ V, Below w1.heap.size w1 V → IsInts V a zs) := fun V hV => (ha.keep B1.out).keep hV
  have HB : Hid (∀ V, Below w1.heap.size w1 V → Below w.heap.size w V) := fun V hV => B1.out.trans (hV.mono B1.out.size)
  have I1 : Hid (Below w1.heap.size w1 w1) := Below.refl _ _
  have D1 : Hid (Below w1.heap.size w1 w1.drew) := I1.out.drew
  clear r0 z1 B1 ha
  go_enter Tryz.func33, Tryz.ntmps33
  go_upto_region 1 with fail
  rw [← hw1]
  clear hw1
  obtain ⟨c0, c1, c2, c3, c4, c5, c6⟩ := HK.out w1 I1.out
  go_wp2
  go_loopw [3] (fun i wr => ∃ k : Nat, k ≤ nl ∧ i = .int .i64 k ∧ okSTo zs k = true ∧ Below w1.heap.size w1 wr) (fun i _ => nl - (intOf i).toNat)
  case atStart => exact ⟨0, Nat.zero_le _, rfl, rfl, Below.refl _ _⟩
  case round =>
    clear c0 c1 c2 c3 c4 c5 c6
    obtain ⟨k, hk, rfl, hok, hbr⟩ := hrel
    have HOk : Hid (okSTo zs k = true) := hok
    have K : Hid (Below w1.heap.size w1 wr) := hbr
    obtain ⟨c0, c1, c2, c3, c4, c5, c6⟩ := HK.out wr hbr
    have hav := HA.out wr hbr
    clear hok hbr
    by_cases hlt : k < nl
    · obtain ⟨x, o, rfl, hc⟩ : ∃ x o, a = some ⟨x, o, none⟩ ∧ ∀ i, i < zs.length → wr.cell? ⟨x, o + i, none⟩ = some (.int .i64 (zs.getD i 0)) := by
        have := HNl.out
        rcases hav with rfl | h
        · simp at this; omega
        · exact h
      clear hav
      have hltz : k < zs.length := by rw [← HNl.out]; exact hlt
      have HLt : Hid (k < zs.length) := hltz
      have hck := hc k hltz
      have HNm : Hid (∀ V : World, Calls Tryz.prog 37 #[.int .i64 (zs.getD k 0), .int .i64 1, .int .i64 1000000000] V fun e w' => e = .returned (.bool (serB (zs.getD k 0))) ∧ w' = V) := fun V => specIs _ _ _ V
      have a0 : (0 : Int) ≤ (k : Int) := by omega
      have b0 : (k : Int) < (nl : Int) := by omega
      cases hn : serB (zs.getD k 0) with
      | false =>
        have HF : Hid (R = false) := by show _ = _; rw [HR.out, HSB.out, okSTo_no (okS_not hn) HLt.out]; simp
        rw [hn] at HNm
        generalize zs.getD k 0 = z at *
        clear hc hn hltz
        go_wp2_with fail
        go_quiet ((go_at_call 37; exact Calls.quiet_of_same (HNm.out _)))
        go_wp2
        go_ret
        exact ⟨by rw [HF.out]; rfl, HB.out _ (below_drewN K.out _)⟩
      | true =>
        rw [hn] at HNm
        by_cases h0 : k = 0
        · subst h0
          have HF : Hid (okS zs 0 = true) := okS_zero hn
          rw [Nat.add_zero] at hck
          generalize zs.getD 0 0 = z at *
          clear hc hn hltz
          go_wp2_with fail
          go_quiet ((go_at_call 37; exact Calls.quiet_of_same (HNm.out _)))
          go_wp2
          go_roundw
          case rel => exact ⟨1, by omega, by go_num, okSTo_yes HOk.out HF.out, below_drewN K.out _⟩
          case measure => simp [intOf]; omega
        · have hck1 := hc (k - 1) (by omega)
          have ek : ((k : Int) - 1) = ((k - 1 : Nat) : Int) := by omega
          have ew : IntKind.i64.wrap ((k : Int) - 1) = ((k - 1 : Nat) : Int) := by rw [IntKind.wrap_i64]; omega
          have a1 : (0 : Int) < (k : Int) := by omega
          have a2 : 0 < k := by omega
          have g1 : decide ((0 : Int) < (k : Int)) = true := decide_eq_true a1
          have b1 : ((k - 1 : Nat) : Int) < (nl : Int) := by omega
          have hbl := okS_more (zs := zs) (k := k) (by omega) hn
          clear hltz
          by_cases hr : zs.getD (k - 1) 0 < zs.getD k 0
          rotate_left
          · have HF : Hid (R = false) := by show _ = _; rw [HR.out, HSB.out, okSTo_no (hbl.trans (decide_eq_false hr)) HLt.out]; simp
            have hr' : zs.getD k 0 ≤ zs.getD (k - 1) 0 := by omega
            generalize zs.getD k 0 = z at *
            generalize zs.getD (k - 1) 0 = y at *
            generalize k - 1 = k1 at *
            clear hc hn hbl hlt
            go_wp2_with fail
            go_quiet ((go_at_call 37; exact Calls.quiet_of_same (HNm.out _)))
            go_wp2
            go_ret
            exact ⟨by rw [HF.out]; rfl, HB.out _ (below_drewN K.out _)⟩
          · have HF : Hid (okS zs k = true) := hbl.trans (decide_eq_true hr)
            have hr' : ¬ zs.getD k 0 ≤ zs.getD (k - 1) 0 := by omega
            have HRl : Hid (∃ j : Nat, j ≤ nl ∧ Value.int .i64 ((k : Int) + 1) = .int .i64 (j : Int) ∧ okSTo zs j = true) := ⟨k + 1, by omega, by congr 1, okSTo_yes HOk.out HF.out⟩
            generalize zs.getD k 0 = z at *
            generalize zs.getD (k - 1) 0 = y at *
            generalize k - 1 = k1 at *
            clear hc hn hbl hlt
            go_wp2_with fail
            go_quiet ((go_at_call 37; exact Calls.quiet_of_same (HNm.out _)))
            go_wp2
            go_roundw
            case rel =>
              obtain ⟨j, j1, j2, j3⟩ := HRl.out
              exact ⟨j, j1, by first | exact j2 | (rw [← j2]; simp; omega), j3, below_drewN K.out _⟩
            case measure => simp [intOf]; omega
    · obtain rfl : k = nl := by omega
      have hsb : serialsB zs = decide (k ≤ 40) := by
        have h1 := HNl.out
        have h2 := HOk.out
        rw [h1] at h2 ⊢
        rw [HSB.out, h2]
        rfl
      rw [hsb] at HR
      clear hav hsb
      go_wp2_with fail
      refine (specNameB iss _ hi).mono ?_
      rintro e w2 ⟨rfl, h2w⟩
      subst w2
      cases h1 : nameB iss with
      | false =>
        have HF : Hid (R = false) := by show _ = _; rw [HR.out, h1]; simp
        go_wp2
        go_ret
        exact ⟨by rw [HF.out]; rfl, HB.out _ K.out⟩
      | true =>
      rw [h1] at HR
      go_wp2_with fail
      refine (specTime fr _).mono ?_
      rintro e w2 ⟨rfl, h2w⟩
      subst w2
      cases h2 : timeB fr with
      | false =>
        have HF : Hid (R = false) := by show _ = _; rw [HR.out, h2]; simp
        go_wp2
        go_ret
        exact ⟨by rw [HF.out]; rfl, HB.out _ K.out⟩
      | true =>
      rw [h2] at HR
      go_wp2_with fail
      refine (specTime till _).mono ?_
      rintro e w2 ⟨rfl, h2w⟩
      subst w2
      cases h3 : timeB till with
      | false =>
        have HF : Hid (R = false) := by show _ = _; rw [HR.out, h3]; simp
        go_wp2
        go_ret
        exact ⟨by rw [HF.out]; rfl, HB.out _ K.out⟩
      | true =>
      rw [h3] at HR
      by_cases h4 : fr ≤ till
      rotate_left
      · have h4' : till < fr := by omega
        have HF : Hid (R = false) := by show _ = _; rw [HR.out, decide_eq_false h4]; simp
        go_wp2
        go_ret
        exact ⟨by rw [HF.out]; first | rfl | (simp; omega), HB.out _ K.out⟩
      rw [decide_eq_true h4] at HR
      by_cases h5 : k ≤ 40
      · have HF : Hid (R = true) := by show _ = _; rw [HR.out, decide_eq_true h5]; rfl
        go_wp2
        go_ret
        exact ⟨by rw [HF.out]; first | rfl | (simp; omega), HB.out _ K.out⟩
      · have HF : Hid (R = false) := by show _ = _; rw [HR.out, decide_eq_false h5]; rfl
        go_wp2
        go_ret
        exact ⟨by rw [HF.out]; first | rfl | (simp; omega), HB.out _ K.out⟩
end Go.Proofs.YtegmmaomaegjjaaGreatDoor
namespace Go.Proofs.YtegmmaomaegjjaaGreatDoor
open Go.RowKit

set_option linter.unusedSimpArgs false in
set_option maxHeartbeats 4000000 in
set_option maxRecDepth 100000 in
theorem specListD (c : Lst) (a : Option Addr) (cap : Nat) (w : World) (h : LFits c) (ha : IsInts w a c.serials) :
    Calls Tryz.prog 55 #[c.val (.slice a c.serials.length cap)] w fun e w' => e = .returned (.string (listD c)) ∧ Below w.heap.size w w' := by
  have HS : Hid (∀ i, i < c.serials.length → 1 ≤ c.serials.getD i 0 ∧ c.serials.getD i 0 ≤ 1000000000) := h.each
  have hl := h.len
  have hi := h.iss
  have hfr : 0 ≤ c.fr ∧ c.fr ≤ 1000000000 := ⟨h.fr0, h.fr1⟩
  have htl : 0 ≤ c.till ∧ c.till ≤ 1000000000 := ⟨h.till0, h.till1⟩
  obtain ⟨R, hR⟩ : ∃ R, R = listD c := ⟨_, rfl⟩
  rw [← hR]
  have HR : Hid (R = seqD (nameD c.issuer ++ (intD c.fr ++ (intD c.till ++ seqD (serD c.serials c.serials.length))))) := hR
  clear hR h
  obtain ⟨iss, fr, till, serials, sk, se, ss⟩ := c
  unfold Lst.val
  simp only at HR HS hi hl hfr htl ha ⊢
  obtain ⟨zs, hzs⟩ : ∃ zs, zs = serials := ⟨_, rfl⟩
  rw [← hzs] at HR HS hl ha ⊢
  clear hzs
  obtain ⟨nl, hnl⟩ : ∃ nl, nl = zs.length := ⟨_, rfl⟩
  rw [← hnl] at hl HR HS ⊢
  have HNl : Hid (nl = zs.length) := hnl
  clear hnl
  obtain ⟨w1, hw1⟩ : ∃ w1, w1 = w.alloc (.cells #[.string iss, .int .i64 fr, .int .i64 till, .slice a nl cap, .int .i64 sk, .int .i64 se, .int .i64 ss] 30 (0, 0)) := ⟨_, rfl⟩
  have r0 : w1.heap[w.heap.size]? = some (.cells [Value.string iss, .int .i64 fr, .int .i64 till, .slice a nl cap, .int .i64 sk, .int .i64 se, .int .i64 ss].toArray 30 (0, 0)) := by rw [hw1]; exact heap_alloc_new w _
  have B1 : Hid (Below w.heap.size w w1) := by rw [hw1]; exact (Below.refl _ _).alloc (Nat.le_refl _) _
  have z1 : w.heap.size < w1.heap.size := by rw [hw1]; simp
  have HK : Hid (∀ V, Below w1.heap.size w1 V → V.cell? ⟨w.heap.size, 0, none⟩ = some (.string iss) ∧ V.cell? ⟨w.heap.size, 1, none⟩ = some (.int .i64 fr) ∧ V.cell? ⟨w.heap.size, 2, none⟩ = some (.int .i64 till) ∧ V.cell? ⟨w.heap.size, 3, none⟩ = some (.slice a nl cap) ∧ V.cell? ⟨w.heap.size, 4, none⟩ = some (.int .i64 sk) ∧ V.cell? ⟨w.heap.size, 5, none⟩ = some (.int .i64 se) ∧ V.cell? ⟨w.heap.size, 6, none⟩ = some (.int .i64 ss)) := fun V hV => by
    have hP := (hV.block _ z1).trans r0
    exact ⟨rowFacts hP 0 _ rfl, rowFacts hP 1 _ rfl, rowFacts hP 2 _ rfl, rowFacts hP 3 _ rfl, rowFacts hP 4 _ rfl, rowFacts hP 5 _ rfl, rowFacts hP 6 _ rfl⟩
  have HA : Hid (∀ V, Below w1.heap.size w1 V → IsInts V a zs) := fun V hV => (ha.keep B1.out).keep hV
  have HB : Hid (∀ V, Below w1.heap.size w1 V → Below w.heap.size w V) := fun V hV => B1.out.trans (hV.mono B1.out.size)
  have I1 : Hid (Below w1.heap.size w1 w1) := Below.refl _ _
  have D1 : Hid (Below w1.heap.size w1 w1.drew) := I1.out.drew
  clear r0 z1 B1 ha
  go_enter Tryz.func55, Tryz.ntmps55
  go_upto_region 1 with fail
  rw [← hw1]
  clear hw1
  obtain ⟨c0, c1, c2, c3, c4, c5, c6⟩ := HK.out w1 I1.out
  go_wp2
  go_loopw [3, 4] (fun t i wr => ∃ k : Nat, k ≤ nl ∧ i = .int .i64 k ∧ t = .string (serD zs k) ∧ Below w1.heap.size w1 wr) (fun _ i _ => nl - (intOf i).toNat)
  case atStart => exact ⟨0, Nat.zero_le _, rfl, rfl, Below.refl _ _⟩
  case round =>
    clear c0 c1 c2 c3 c4 c5 c6
    obtain ⟨k, hk, rfl, rfl, hbr⟩ := hrel
    have K : Hid (Below w1.heap.size w1 wr) := hbr
    obtain ⟨c0, c1, c2, c3, c4, c5, c6⟩ := HK.out wr hbr
    have hav := HA.out wr hbr
    clear hbr
    by_cases hlt : k < nl
    · obtain ⟨x, o, rfl, hc⟩ : ∃ x o, a = some ⟨x, o, none⟩ ∧ ∀ i, i < zs.length → wr.cell? ⟨x, o + i, none⟩ = some (.int .i64 (zs.getD i 0)) := by
        have := HNl.out
        rcases hav with rfl | h
        · simp at this; omega
        · exact h
      have hltz : k < zs.length := by rw [← HNl.out]; exact hlt
      have hck := hc k hltz
      have hz := HS.out k hlt
      have HP : Hid (∀ V, Calls Tryz.prog 88 #[.int .i64 (zs.getD k 0)] V fun e w' => e = .returned (.string (intD (zs.getD k 0))) ∧ Below V.heap.size V w') := fun V => specDerInt _ V (by omega) (by omega)
      have he : serD zs k ++ intD (zs.getD k 0) = serD zs (k + 1) := rfl
      have a0 : (0 : Int) ≤ (k : Int) := by omega
      have b0 : (k : Int) < (nl : Int) := by omega
      have z0 := serD_le zs k
      have z1 := intD_le (zs.getD k 0)
      have HRl : Hid (∃ j : Nat, j ≤ nl ∧ Value.int .i64 ((k : Int) + 1) = .int .i64 (j : Int) ∧ Value.string (serD zs (k + 1)) = .string (serD zs j)) := ⟨k + 1, by omega, by congr 1, rfl⟩
      generalize serD zs (k + 1) = h1 at *
      generalize intD (zs.getD k 0) = h2 at *
      generalize zs.getD k 0 = z at *
      clear hc hav hltz HS HR
      go_wp2_with fail
      refine (HP.out _).mono ?_
      rintro e w2 ⟨rfl, b2⟩
      have K2 : Hid (Below w1.heap.size w1 w2) := K.out.trans (b2.mono K.out.size)
      clear b2 c0 c1 c2 c3 c4 c5 c6
      go_wp2_with fail
      go_roundw
      case rel =>
        obtain ⟨j, j1, j2, j3⟩ := HRl.out
        exact ⟨j, j1, by first | exact j2 | (rw [← j2]; simp; omega), j3, K2.out⟩
      case measure => simp [intOf]; omega
    · obtain rfl : nl = k := by omega
      have hR : R = seqD (nameD iss ++ (intD fr ++ (intD till ++ seqD (serD zs nl)))) := HR.out
      have y1 := nameD_le iss
      have y2 := intD_le fr
      have y3 := intD_le till
      have y4 := serD_le zs nl
      have y5 := seqD_le (serD zs nl)
      obtain ⟨T, qT⟩ : ∃ q, q = serD zs nl := ⟨_, rfl⟩
      rw [← qT] at hR y4 y5 ⊢
      obtain ⟨G, qG⟩ : ∃ q, q = seqD T := ⟨_, rfl⟩
      rw [← qG] at hR y5
      obtain ⟨x1, q1⟩ : ∃ q, nameD iss ++ intD fr = q := ⟨_, rfl⟩
      have s1 : x1.size ≤ 200 := by rw [← q1, ByteArray.size_append]; omega
      obtain ⟨x2, q2⟩ : ∃ q, x1 ++ intD till = q := ⟨_, rfl⟩
      have s2 : x2.size ≤ 300 := by rw [← q2, ByteArray.size_append]; omega
      obtain ⟨x3, q3⟩ : ∃ q, x2 ++ G = q := ⟨_, rfl⟩
      have s3 : x3.size ≤ 1000 := by rw [← q3, ByteArray.size_append]; omega
      have e3 : R = seqD x3 := by rw [hR, ← q3, ← q2, ← q1]; simp only [ByteArray.append_assoc]
      have a1 : ¬ 9223372036854775807 < (nameD iss).size + (intD fr).size := by omega
      have a2 : ¬ 9223372036854775807 < x1.size + (intD till).size := by omega
      have a3 : ¬ 9223372036854775807 < x2.size + G.size := by omega
      have PNm : Hid (∀ V, Hid (Below w1.heap.size w1 V) → Calls Tryz.prog 90 #[.string iss] V fun e W => e = .returned (.string (nameD iss)) ∧ Hid (Below w1.heap.size w1 W)) := fun V hV => (specNameD iss V (by omega)).mono fun e W h => ⟨h.1, hV.out.trans (h.2.mono hV.out.size)⟩
      have PD : Hid (∀ V (n : Int), Hid (Below w1.heap.size w1 V) → 0 ≤ n ∧ n ≤ 1000000000 → Calls Tryz.prog 88 #[.int .i64 n] V fun e W => e = .returned (.string (intD n)) ∧ Hid (Below w1.heap.size w1 W)) := fun V n hV hn => (specDerInt n V (by omega) (by omega)).mono fun e W h => ⟨h.1, hV.out.trans (h.2.mono hV.out.size)⟩
      have PS : Hid (∀ V (q : ByteArray), Hid (Below w1.heap.size w1 V) → q.size ≤ 1000 → Calls Tryz.prog 91 #[.string q] V fun e W => e = .returned (.string (seqD q)) ∧ Hid (Below w1.heap.size w1 W)) := fun V q hV hq => (specSeq q V (by omega)).mono fun e W h => ⟨h.1, hV.out.trans (h.2.mono hV.out.size)⟩
      have sT : T.size ≤ 1000 := by omega
      have DK : Hid (Below w1.heap.size w1 wr.drew) := K.out.drew
      have HF : Hid (R = seqD x3) := e3
      clear hR HR hav y1 y2 y3 y4 y5 s1 s2 hi qT e3 HS
      rw [qG] at a3 q3
      go_wp2_with fail
      go_region_held3 (fun V => V.cell? ⟨w.heap.size, 0, none⟩ = some (.string iss) ∧ V.cell? ⟨w.heap.size, 1, none⟩ = some (.int .i64 fr) ∧ V.cell? ⟨w.heap.size, 2, none⟩ = some (.int .i64 till) ∧ V.cell? ⟨w.heap.size, 3, none⟩ = some (.slice a nl cap) ∧ V.cell? ⟨w.heap.size, 4, none⟩ = some (.int .i64 sk) ∧ V.cell? ⟨w.heap.size, 5, none⟩ = some (.int .i64 se) ∧ V.cell? ⟨w.heap.size, 6, none⟩ = some (.int .i64 ss)) (first | (refine ⟨?_, ?_, ?_, ?_, ?_, ?_, ?_⟩ <;> assumption) | exact HK.out _ (Hid.out (by assumption)))
        (first
          | (go_at_call 90; refine (PNm.out _ (by assumption)).mono ?_; rintro r V1 ⟨rfl, k1⟩)
          | (go_at_call 88; refine (PD.out _ _ (by assumption) (by assumption)).mono ?_; rintro r V2 ⟨rfl, k2⟩)
          | (go_at_call 91; refine (PS.out _ _ (by assumption) (by assumption)).mono ?_; rintro r V3 ⟨rfl, k3⟩))
      go_wp2
      go_ret
      refine ⟨by rw [HF.out]; rfl, HB.out _ (Hid.out (by assumption))⟩
end Go.Proofs.YtegmmaomaegjjaaGreatDoor
