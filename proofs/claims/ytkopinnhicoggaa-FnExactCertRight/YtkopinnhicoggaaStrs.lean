/- A row of texts: what is said of it. -/
import Derived.Test.YtkopinnhicoggaaBase
import Derived.Test.YtkopinnhicoggaaRowK
import Derived.Handy
import Derived.Deep.QuietTactic
import Derived.BigQuiet
namespace Go.Proofs.Ytkopinnhicoggaa
open Go.RowKit

/-- Text number i of a row. -/
def tAt (ss : List ByteArray) (i : Nat) : ByteArray := ss.getD i ByteArray.empty
/-- The texts ss lie behind the address (none at all: any address serves). -/
def IsStrs (w : World) (a : Option Addr) (ss : List ByteArray) : Prop := ss = [] ∨ ∃ b o, a = some ⟨b, o, none⟩ ∧ ∀ i, i < ss.length → w.cell? ⟨b, o + i, none⟩ = some (.string (tAt ss i))
/-- .. and its block lies below B. -/
def StrsBelow (B : Nat) (a : Option Addr) (ss : List ByteArray) : Prop := ss = [] ∨ ∀ x, a = some x → x.block < B
theorem IsStrs.below {B : Nat} {w w' : World} {a : Option Addr} {ss : List ByteArray} (h : IsStrs w a ss) (hb : Below B w w') (hB : StrsBelow B a ss) : IsStrs w' a ss := by
  rcases h with rfl | ⟨b, o, rfl, hc⟩
  · exact .inl rfl
  · rcases hB with rfl | hB
    · exact .inl rfl
    · exact .inr ⟨b, o, rfl, fun i hi => by rw [hb.cell (p := ⟨b, o + i, none⟩) (hB ⟨b, o, none⟩ rfl)]; exact hc i hi⟩
theorem IsStrs.lt {w : World} {a : Option Addr} {ss : List ByteArray} (h : IsStrs w a ss) : StrsBelow w.heap.size a ss := by
  rcases h with rfl | ⟨b, o, rfl, hc⟩
  · exact .inl rfl
  · by_cases h0 : ss.length = 0
    · exact .inl (List.eq_nil_of_length_eq_zero h0)
    · refine .inr fun x hx => ?_
      cases hx
      exact World.block_lt_of_cell? w _ (hc 0 (by omega))
theorem IsStrs.keep {w w' : World} {a : Option Addr} {ss : List ByteArray} (h : IsStrs w a ss) (hb : Below w.heap.size w w') : IsStrs w' a ss := h.below hb h.lt
def sCells (ss : List ByteArray) : List Value := ss.map Value.string
theorem sCells_at {ss : List ByteArray} {i : Nat} (h : i < ss.length) : (sCells ss)[i]? = some (.string (tAt ss i)) := by simp [sCells, tAt, List.getD, h]
theorem IsStrs.row {w : World} {g : Nat} {t : TypeId} {ss : List ByteArray} (h : w.heap[g]? = some (.cells (sCells ss).toArray t (0, 0))) : IsStrs w (some ⟨g, 0, none⟩) ss :=
  .inr ⟨g, 0, rfl, fun i hi => by
    rw [Nat.zero_add, cell_of_row w g i _ t (0, 0) h]
    simpa using sCells_at hi⟩
theorem infoText : (Try.prog.info? 9).map (fun i => (i.zero, i.size, i.bytes)) = some (some (.string ⟨#[]⟩), 1, 16) := by kernel_rfl
/-- How many bytes and texts there are. -/
def totS : List ByteArray → Nat → Nat
  | _, 0 => 0
  | ss, k + 1 => totS ss k + (tAt ss k).size
theorem totS_mono (ss : List ByteArray) : ∀ {i k : Nat}, i ≤ k → totS ss i ≤ totS ss k := by
  intro i k h
  induction k with
  | zero => obtain rfl : i = 0 := by omega
            exact Nat.le_refl _
  | succ k ih =>
    by_cases e : i = k + 1
    · subst e; exact Nat.le_refl _
    · have := ih (by omega)
      show totS ss i ≤ totS ss k + _
      omega
theorem totS_at (ss : List ByteArray) {i k : Nat} (h : i < k) : (tAt ss i).size ≤ totS ss k := by
  have := totS_mono ss (show i + 1 ≤ k by omega)
  have e : totS ss (i + 1) = totS ss i + (tAt ss i).size := rfl
  omega
/-- What laws.szStringS leaves. -/
def szR (ss : List ByteArray) (left : Int) : Int := if (ss.length : Int) + totS ss ss.length ≤ left then left - ss.length - totS ss ss.length else -1
end Go.Proofs.Ytkopinnhicoggaa
