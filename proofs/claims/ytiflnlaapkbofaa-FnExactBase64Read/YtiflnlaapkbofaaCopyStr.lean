/- 'copy(b[i:], s)' of a string into a row that the call owns; 'string(b)' of such a row by its bytes. No program is named. -/
import Derived.WalkKit
import Derived.WalkSpells
import Derived.WalkLawsBesides
import Derived.Laws.CopyOwn
import Derived.Laws.IdiomStrings
import Derived.Lib.BufferWrite
namespace Go.Proofs.Ytiflnlaapkbofaa
open Go.RowKit Go.Lib

theorem wpList_copy_str {P : Program} {w : World} {ops : Array Oper} {rest : List Oper} {o : Oper} {a : Act} {Q : Exit → Act → World → Prop} (hgd : o.guard = none) (d s : Operand) (dT sT : TypeId)
    (ho : o.op = .call { callee := .builtin .copy, args := #[d, s], argTypes := #[dT, sT] }) (elem : TypeId) (hu : P.underlying dT = some (.slice elem)) (hsz : (P.info? elem).map (·.size) = some 1)
    (dp : Option Addr) (dLen dCap : Nat) (str : ByteArray) (hd : a.eval d = .slice dp dLen dCap) (hs : a.eval s = .string str)
    (g off : Nat) (cur : List Value) (t : TypeId) (hg : w.heap[g]? = some (.cells cur.toArray t (0, 0))) (hpos : 0 < str.size → dp = some ⟨g, off, none⟩) (hle : str.size ≤ dLen) (hfit : off + str.size ≤ cur.length)
    (B : Nat) (w0 : World) (hb : Below B w0 w) (hBg : B ≤ g)
    (h : ∀ w', Hid (w'.heap[g]? = some (.cells (splice cur off (byteCells str.data.toList)).toArray t (0, 0))) → Below B w0 w' → w'.heap.size = w.heap.size → wpList P ops Q rest (a.put o.dst (goInt str.size)) w') :
    wpList P ops Q (o :: rest) a w := by
  have hl : (byteCells str.data.toList).length = str.size := by rw [byteCells_length, ← size_eq]
  refine wpList_plain hgd fun K hK => ?_
  by_cases h0 : str.size = 0
  · have hrun := run_copy_empty_string (P := P) w dT sT o.type elem dp dLen dCap str hu (by rw [hsz]; rfl) h0
    have hn : byteCells str.data.toList = [] := List.eq_nil_of_length_eq_zero (by omega)
    unfold Oper.wp
    simp [execOp, ho, resolve, invoke, builtin, hd, hs, hrun, Result.andThen]
    have := h w (show _ = _ by rw [hn]; simpa [splice] using hg) hb rfl
    rw [h0] at this
    exact hK _ _ this
  · obtain rfl := hpos (by omega)
    have hrun := run_copy_row_string (P := P) w dT sT o.type elem g off dLen dCap str cur.toArray t hu hsz hg hle (by simpa using hfit)
    unfold Oper.wp
    simp [execOp, ho, resolve, invoke, builtin, hd, hs, hrun, Result.andThen]
    refine hK _ _ (h _ (show _ = _ from ?_) (below_setRow hb hBg _) (by simp))
    have := setRow_heap w g cur.toArray ((cur.take off ++ byteCells str.data.toList ++ cur.drop (off + str.size)).toArray) t _ hg
    simpa [splice, hl] using this

/-- 'string(b)', b's row known by its bytes. -/
theorem run_convert_row {P : Program} {w : World} {src dst e g cap : Nat} {l : List UInt8} {rest : List Value} {t : TypeId} (hs : P.underlying src = some (.slice e)) (he : P.underlying e = some (.int .u8)) (hd : P.underlying dst = some .string)
    (hg : w.heap[g]? = some (.cells (byteCells l ++ rest).toArray t (0, 0))) : (convert src dst (.slice (some ⟨g, 0, none⟩) l.length cap)).run P w = .ok (.string ⟨l.toArray⟩) w := by
  refine run_convert_bytes_back w src dst e ⟨g, 0, none⟩ cap l hs he hd fun j hj => ?_
  rw [Addr.add_lit, Nat.zero_add, cell_of_row w g j _ t (0, 0) hg]
  simp [byteCells, List.getElem?_append_left, hj]
theorem ofBytes_append (a b : ByteArray) : (⟨(a.data.toList ++ b.data.toList).toArray⟩ : ByteArray) = a ++ b := by
  rw [← ByteArray.mk_append_mk]
/-- The row behind an owned slice. -/
theorem rowOf {w : World} {base e g n cap : Nat} {xs : List Value} (h : w.ownsRow base e 1 (.slice (some ⟨g, 0, none⟩) n cap) n xs) (hc : cap = n) :
    w.heap[g]? = some (.cells xs.toArray e (0, 0)) ∧ xs.length = n := by
  refine ⟨?_, by simpa using h.1⟩
  rcases h.2 with ⟨h', _⟩ | ⟨g', cap', cur, h', _, hg, _, _, hcs, htake⟩
  · simp at h'
  · simp only [Value.slice.injEq, Option.some.injEq, Addr.mk.injEq, and_true, true_and] at h'
    obtain ⟨rfl, rfl⟩ := h'
    rw [hg, ← htake, List.take_of_length_le (by rw [Array.length_toList, hcs, hc]; exact Nat.le_refl _)]
theorem splice_two {α : Type} (L A B : List α) (h : L.length = A.length + B.length) : splice (splice L 0 A) A.length B = A ++ B := by
  have e : splice L 0 A = A ++ L.drop A.length := by simp [splice]
  rw [e]
  unfold splice
  rw [List.take_left, List.drop_eq_nil_of_le (by simp; omega)]
  simp
theorem splice_one {α : Type} (L A : List α) (h : L.length = A.length) : splice L 0 A = A := by
  unfold splice
  rw [List.drop_eq_nil_of_le (by omega)]
  simp
end Go.Proofs.Ytiflnlaapkbofaa
