/- Plain mathematics of numbers in bytes: no program is named here. 'copy(b[i:], s)' of a string into a row that the call owns; 'string(b)' of such a row by its bytes. No program is named. Small facts on the program's types, shared by the walks. impl.copyText, walked. Is a time within two others? impl.isWithin, walked. Things of DER: what DerPut and DerGet answer. Plain mathematics: no program is named here. spec.l05Is, walked. Rows that are known whole. No program is named. A whole variable of many cells, stored. No program is named. spec.OfficeCrash, impl.OfficeCrash, and the helpers of the law that speak of an Office, walked. -/
import Derived.WalkKit
import Derived.WalkSpells
import Derived.WalkLawsBesides
import Derived.Laws.BytesArg
import Derived.Below
import Derived.Laws.CopyOwn
import Derived.Laws.IdiomStrings
import Derived.Lib.BufferWrite
import Derived.Test.YthpcnakkhghaeaaRows
import Derived.WalkMore
import Derived.Lib.Strings
import Derived.Deep.MidRow
import Derived.Handy
import Derived.Deep.Cut
import Derived.Deep.RegionHeld3
namespace Go.Proofs.Ythpcnakkhghaeaa
open Go.RowKit

/-- The bytes of a number, the lowest seven bits first; f rounds at most. -/
def putF : Nat → Nat → List Int
  | 0, x => [(x : Int)]
  | f + 1, x => if x < 128 then [(x : Int)] else ((x % 128 + 128 : Nat) : Int) :: putF f (x / 128)
def pw : Nat → Nat
  | 0 => 128
  | f + 1 => 128 * pw f
theorem pw9 : pw 9 = 1180591620717411303424 := by decide
theorem pw_step {f x : Nat} (h : x < pw f) (h1 : 128 ≤ x) : ∃ g, f = g + 1 ∧ x / 128 < pw g := by
  cases f with
  | zero => simp [pw] at h; omega
  | succ g => exact ⟨g, rfl, by simp only [pw] at h; omega⟩
theorem putF_more {f x : Nat} (h : 128 ≤ x) : putF (f + 1) x = ((x % 128 + 128 : Nat) : Int) :: putF f (x / 128) := by
  rw [putF, if_neg (by omega)]
theorem putF_last {f x : Nat} (h : x < 128) : putF f x = [(x : Int)] := by
  cases f with
  | zero => rfl
  | succ g => rw [putF, if_pos h]
/-- A number's sign in its lowest bit. -/
def foldI (n : Int) : Nat := if n < 0 then (-2 * n - 1).toNat else (2 * n).toNat

/-- 'string(b)' of a row that the call owns. -/
theorem run_convert_own {P : Program} {w : World} {base src dst e n : Nat} {v : Value} {xs : List Int} (hs : P.underlying src = some (.slice e)) (he : P.underlying e = some (.int .u8)) (hd : P.underlying dst = some .string)
    (hown : w.ownsRow base e 1 v n (xs.map (Value.int .u8))) : (convert src dst v).run P w = .ok (.string (strOfNums xs)) w := by
  have hl := hown.1
  simp only [List.length_map, Nat.mul_one] at hl
  have hown0 := hown
  rcases hown.2 with ⟨rfl, rfl⟩ | ⟨g, cap, cur, rfl, hbg, hg, hnc, hcm, hcs, htake⟩
  · obtain rfl : xs = [] := List.eq_nil_of_length_eq_zero hl
    exact run_convert_bytes_nil w src e hs he 0 0 dst hd
  · refine run_convert_bytes_arg w src e hs he g 0 n cap xs hl ?_ dst hd
    intro i hi
    rw [Nat.zero_add, hown0.cellAt i (by omega)]
    have hi' : i < xs.length := by omega
    simp [hi', List.getD]
/-- One block more, then a block that is grown: an owned row's step. -/
theorem cells_one {w : World} {b : Nat} {x : Value} (h : w.cell? ⟨b, 0, none⟩ = some x) : ∀ j u, [x][j]? = some u → w.cell? ((⟨b, 0, none⟩ : Addr).add j) = some u := by
  intro j u hj
  match j, hj with
  | 0, hj => simp at hj; subst hj; simpa [Addr.add] using h
theorem oneCell_ints (k : IntKind) (zs : List Int) : ∀ u ∈ zs.map (Value.int k), u.oneCell' = true := ints_oneCell k zs
theorem nat_xor_all (a : Nat) (h : a < 18446744073709551616) : a ^^^ 18446744073709551615 = 18446744073709551615 - a := by
  have e := congrArg BitVec.toNat (BitVec.xor_allOnes (x := BitVec.ofNat 64 a))
  simp only [BitVec.toNat_xor, BitVec.toNat_ofNat, BitVec.toNat_allOnes, BitVec.toNat_not] at e
  rw [Nat.mod_eq_of_lt (by omega)] at e
  simpa using e
theorem fold_bits_neg (n : Int) (h0 : -9223372036854775808 ≤ n) (hn : n < 0) :
    bits BinOp.xor IntKind.u64 (IntKind.u64.wrap (IntKind.u64.wrap n * 2)) (IntKind.u64.wrap (n / 9223372036854775808)) = (foldI n : Int) := by
  have e1 : IntKind.u64.wrap (IntKind.u64.wrap n * 2) = 2 * n + 18446744073709551616 := by simp only [IntKind.wrap_u64]; omega
  have e2 : IntKind.u64.wrap (n / 9223372036854775808) = 18446744073709551615 := by simp only [IntKind.wrap_u64]; omega
  rw [e1, e2, u64_xor _ _ (by omega) (by omega) (by omega) (by omega)]
  have e3 : (18446744073709551615 : Int).toNat = 18446744073709551615 := by omega
  rw [e3, nat_xor_all _ (by omega)]
  unfold foldI
  rw [if_pos hn]
  omega
theorem fold_bits_pos (n : Int) (h1 : n ≤ 9223372036854775807) (hn : 0 ≤ n) :
    bits BinOp.xor IntKind.u64 (n * 2) (n / 9223372036854775808) = (foldI n : Int) := by
  have e2 : n / 9223372036854775808 = 0 := by omega
  rw [e2, u64_xor _ _ (by omega) (by omega) (by omega) (by omega)]
  have e3 : (0 : Int).toNat = 0 := rfl
  rw [e3, Nat.xor_zero]
  unfold foldI
  rw [if_neg (by omega)]
  omega
theorem or128_small : ∀ b : Fin 256, (b.val ||| 128) = b.val % 128 + 128 := by decide +kernel
theorem or128 (x : Nat) : bits BinOp.or IntKind.u8 ((x : Int) % 256) 128 = (x : Int) % 128 + 128 := by
  rw [u8_or _ _ (by omega) (by omega) (by omega) (by omega)]
  have h := or128_small ⟨x % 256, Nat.mod_lt _ (by omega)⟩
  have e : ((x : Int) % 256).toNat = x % 256 := by omega
  have e2 : (128 : Int).toNat = 128 := rfl
  rw [e, e2]
  simp only at h
  rw [h]
  omega
theorem set_reads {L : List Value} {xs : List Int} {y : Int} (hL : xs.length < L.length) (h : ∀ j, j < xs.length → L[j]? = some (.int .u8 (xs.getD j 0))) :
    ∀ j, j < (xs ++ [y]).length → (L.set xs.length (.int .u8 y))[j]? = some (.int .u8 ((xs ++ [y]).getD j 0)) := by
  intro j hj
  simp only [List.length_append, List.length_singleton] at hj
  by_cases e : j = xs.length
  · subst e; simp [hL]
  · rw [List.getElem?_set_ne (by omega), h j (by omega)]
    simp [List.getD, List.getElem?_append_left (show j < xs.length by omega)]
theorem heap_lt {w : World} {k : Nat} {o : Obj} (h : w.heap[k]? = some o) : k < w.heap.size := by
  rcases Nat.lt_or_ge k w.heap.size with h' | h'
  · exact h'
  · rw [Array.getElem?_eq_none h'] at h; cases h
end Go.Proofs.Ythpcnakkhghaeaa
namespace Go.Proofs.Ythpcnakkhghaeaa
open Go.RowKit Go.Lib

theorem wpList_copy_str {P : Program} {w : World} {ops : Array Oper} {rest : List Oper} {o : Oper} {a : Act} {Q : Exit → Act → World → Prop} (hgd : o.guard = none) (d s : Operand) (dT sT : TypeId)
    (ho : o.op = .call { callee := .builtin .copy, args := #[d, s], argTypes := #[dT, sT] }) (elem : TypeId) (hu : P.underlying dT = some (.slice elem)) (hsz : (P.info? elem).map (·.size) = some 1)
    (dp : Option Addr) (dLen dCap : Nat) (str : ByteArray) (hd : a.eval d = .slice dp dLen dCap) (hs : a.eval s = .string str)
    (g off : Nat) (cur : List Value) (t : TypeId) (hg : w.heap[g]? = some (.cells cur.toArray t (0, 0))) (hpos : 0 < str.size → dp = some ⟨g, off, none⟩) (hle : str.size ≤ dLen) (hfit : off + str.size ≤ cur.length)
    (B : Nat) (w0 : World) (hb : Below B w0 w) (hBg : B ≤ g)
    (h : ∀ w', Hid (w'.heap[g]? = some (.cells (splice cur off (byteCells str.data.toList)).toArray t (0, 0))) → Below B w0 w' → w'.heap.size = w.heap.size → wpList P ops Q rest (a.put o.dst (goInt str.size)) w') :
    wpList P ops Q (o :: rest) a w := by
  have hl : (byteCells str.data.toList).length = str.size := by rw [byteCells_length, ← size_eq]
  refine wpList_plain hgd fun K hK => ?_
  by_cases h0 : str.size = 0
  · have hrun := run_copy_empty_string (P := P) w dT sT o.type elem dp dLen dCap str hu (by rw [hsz]; rfl) h0
    have hn : byteCells str.data.toList = [] := List.eq_nil_of_length_eq_zero (by omega)
    unfold Oper.wp
    simp [execOp, ho, resolve, invoke, builtin, hd, hs, hrun, Result.andThen]
    have := h w (show _ = _ by rw [hn]; simpa [splice] using hg) hb rfl
    rw [h0] at this
    exact hK _ _ this
  · obtain rfl := hpos (by omega)
    have hrun := run_copy_row_string (P := P) w dT sT o.type elem g off dLen dCap str cur.toArray t hu hsz hg hle (by simpa using hfit)
    unfold Oper.wp
    simp [execOp, ho, resolve, invoke, builtin, hd, hs, hrun, Result.andThen]
    refine hK _ _ (h _ (show _ = _ from ?_) (below_setRow hb hBg _) (by simp))
    have := setRow_heap w g cur.toArray ((cur.take off ++ byteCells str.data.toList ++ cur.drop (off + str.size)).toArray) t _ hg
    simpa [splice, hl] using this

/-- 'string(b)', b's row known by its bytes. -/
theorem run_convert_row {P : Program} {w : World} {src dst e g cap : Nat} {l : List UInt8} {rest : List Value} {t : TypeId} (hs : P.underlying src = some (.slice e)) (he : P.underlying e = some (.int .u8)) (hd : P.underlying dst = some .string)
    (hg : w.heap[g]? = some (.cells (byteCells l ++ rest).toArray t (0, 0))) : (convert src dst (.slice (some ⟨g, 0, none⟩) l.length cap)).run P w = .ok (.string ⟨l.toArray⟩) w := by
  refine run_convert_bytes_back w src dst e ⟨g, 0, none⟩ cap l hs he hd fun j hj => ?_
  rw [Addr.add_lit, Nat.zero_add, cell_of_row w g j _ t (0, 0) hg]
  simp [byteCells, List.getElem?_append_left, hj]
theorem ofBytes_append (a b : ByteArray) : (⟨(a.data.toList ++ b.data.toList).toArray⟩ : ByteArray) = a ++ b := by
  rw [← ByteArray.mk_append_mk]
/-- The row behind an owned slice. -/
theorem rowOf {w : World} {base e g n cap : Nat} {xs : List Value} (h : w.ownsRow base e 1 (.slice (some ⟨g, 0, none⟩) n cap) n xs) (hc : cap = n) :
    w.heap[g]? = some (.cells xs.toArray e (0, 0)) ∧ xs.length = n := by
  refine ⟨?_, by simpa using h.1⟩
  rcases h.2 with ⟨h', _⟩ | ⟨g', cap', cur, h', _, hg, _, _, hcs, htake⟩
  · simp at h'
  · simp only [Value.slice.injEq, Option.some.injEq, Addr.mk.injEq, and_true, true_and] at h'
    obtain ⟨rfl, rfl⟩ := h'
    rw [hg, ← htake, List.take_of_length_le (by rw [Array.length_toList, hcs, hc]; exact Nat.le_refl _)]
theorem splice_two {α : Type} (L A B : List α) (h : L.length = A.length + B.length) : splice (splice L 0 A) A.length B = A ++ B := by
  have e : splice L 0 A = A ++ L.drop A.length := by simp [splice]
  rw [e]
  unfold splice
  rw [List.take_left, List.drop_eq_nil_of_le (by simp; omega)]
  simp
theorem splice_one {α : Type} (L A : List α) (h : L.length = A.length) : splice L 0 A = A := by
  unfold splice
  rw [List.drop_eq_nil_of_le (by omega)]
  simp
end Go.Proofs.Ythpcnakkhghaeaa
namespace Go.Proofs.Ythpcnakkhghaeaa
open Go.RowKit

theorem infoByte : (Try.prog.info? 5).map (fun i => (i.zero, i.size, i.bytes)) = some (some (.int .u8 0), 1, 1) := by kernel_rfl
theorem byteSize : (Try.prog.info? 5).map (·.size) = some 1 := by kernel_rfl
theorem ret_int {k : IntKind} {a b : Int} (h : a = b) : Ending.returned (.int k a) = .returned (.int k b) := by rw [h]
theorem u8_lt (c : UInt8) : (c.toNat : Int) ≤ 255 := by have := c.toNat_lt; omega
/-- A TextOut as a value. -/
def outV (t : ByteArray) (at' code : Int) : Value := .agg #[.string t, .int .i64 at', .int .i64 code]
end Go.Proofs.Ythpcnakkhghaeaa
namespace Go.Proofs.Ythpcnakkhghaeaa
open Go.RowKit Go.Lib

set_option maxHeartbeats 1000000 in
set_option maxRecDepth 100000 in
theorem copyText (a : ByteArray) (w : World) (ha : a.size ≤ 1100000) :
    Calls Try.prog 14 #[.string a] w fun e w' => e = .returned (.string a) ∧ Below w.heap.size w w' := by
  obtain ⟨i0, hi, hz0, hz1, hz2⟩ := info_parts infoByte
  go_enter Try.func14, Try.ntmps14
  go_wp2_with (at_make; refine wpList_make_full _ rfl _ _ 35 rfl w.heap.size 5 i0 (.int .u8 0) 1 Try.underlying35 hi hz0 hz1 .i64 .i64 _ _ a.size rfl rfl ?c1 ?c2 ?c3 ?c4 ?c5 ?_)
  case c1 => omega
  case c2 => omega
  case c3 => rw [hz2]; omega
  case c4 => unfold maxLen; omega
  case c5 => exact Nat.le_refl _
  intro w1 hown hgrow
  obtain ⟨hrow, hlen⟩ := rowOf hown rfl
  have hB1 : Below w.heap.size w w1 := (Below.refl _ w).grown hgrow (Nat.le_refl _) (fun k hk => by cases hk)
  generalize (madeCells #[Value.int IntKind.u8 0] a.size).toList = L at hrow hlen
  have la : (byteCells a.data.toList).length = a.size := by rw [byteCells_length, ← size_eq]
  have HF : Hid (∀ w3 : World, w3.heap[w.heap.size]? = some (.cells (splice L 0 (byteCells a.data.toList)).toArray 5 (0, 0)) →
      (convert 35 9 (.slice (some ⟨w.heap.size, 0, none⟩) a.size a.size)).run Try.prog w3 = .ok (.string a) w3) := by
    intro w3 h3
    rw [splice_one L (byteCells a.data.toList) (by omega)] at h3
    have h4 : w3.heap[w.heap.size]? = some (.cells (byteCells a.data.toList ++ []).toArray 5 (0, 0)) := by simpa using h3
    have := run_convert_row (P := Try.prog) (src := 35) (dst := 9) (cap := a.size) Try.underlying35 Try.underlying5 Try.underlying9 h4
    rw [← size_eq] at this
    exact this
  clear hown hgrow la
  go_wp2_with (refine wpList_copy_str rfl _ _ 35 9 rfl 5 Try.underlying35 byteSize _ _ _ a rfl rfl w.heap.size 0 L 5 hrow (fun _ => rfl) ?d2 ?d3 w.heap.size w hB1 (Nat.le_refl _) ?_)
  case d2 => exact Nat.le_refl _
  case d3 => omega
  intro w2 H2 hB2 hs2
  have hcv := HF.out w2 H2.out
  clear hrow hB1 hs2
  go_wp2
  go_ret
  exact ⟨rfl, hB2⟩

end Go.Proofs.Ythpcnakkhghaeaa
namespace Go.Proofs.Ythpcnakkhghaeaa
open Go.RowKit

def withinB (t a b : Int) : Bool := decide (a ≤ t) && decide (t ≤ b)
end Go.Proofs.Ythpcnakkhghaeaa
namespace Go.Proofs.Ythpcnakkhghaeaa
open Go.RowKit

theorem implWithin (t a b : Int) (w : World) : Calls Try.prog 11 #[.int .i64 t, .int .i64 a, .int .i64 b] w fun e w' => e = .returned (.bool (withinB t a b)) ∧ w' = w := by
  by_cases h1 : a ≤ t
  · by_cases h2 : t ≤ b
    · have HF : Hid (withinB t a b = true) := by show _ = _; rw [withinB, decide_eq_true h1, decide_eq_true h2]; rfl
      go_enter Try.func11, Try.ntmps11
      go_wp2
      go_ret
      exact ⟨by rw [HF.out]; rfl, rfl⟩
    · have HF : Hid (withinB t a b = false) := by show _ = _; rw [withinB, decide_eq_true h1, decide_eq_false h2]; rfl
      go_enter Try.func11, Try.ntmps11
      go_wp2
      go_ret
      exact ⟨by rw [HF.out]; rfl, rfl⟩
  · have HF : Hid (withinB t a b = false) := by show _ = _; rw [withinB, decide_eq_false h1]; rfl
    go_enter Try.func11, Try.ntmps11
    go_wp2
    go_ret
    exact ⟨by rw [HF.out]; rfl, rfl⟩
end Go.Proofs.Ythpcnakkhghaeaa
namespace Go.Proofs.Ythpcnakkhghaeaa
open Go.RowKit Go.Lib

/-- Is it a tag? -/
def tagB (t : Int) : Bool := decide (0 ≤ t) && decide (t ≤ 255) && decide (t % 32 ≠ 31)
theorem tagB_iff {t : Int} : tagB t = true ↔ 0 ≤ t ∧ t ≤ 255 ∧ t % 32 ≠ 31 := by simp [tagB, and_assoc]
/-- A length's bytes. -/
def lenD (n : Nat) : List Int := if n < 128 then [(n : Int)] else if n < 256 then [129, (n : Int)] else [130, ((n / 256 : Nat) : Int), ((n % 256 : Nat) : Int)]
/-- A tag and a length. -/
def headD (t : Int) (n : Nat) : List Int := t :: lenD n
/-- The thing of a tag and a body. -/
def thingD (t : Int) (b : ByteArray) : ByteArray := strOfNums (headD t b.size) ++ b
def putD (t : Int) (b : ByteArray) : ByteArray := if tagB t = true ∧ b.size ≤ 4000 then thingD t b else ByteArray.empty
theorem lenD_le (n : Nat) : (lenD n).length ≤ 3 := by unfold lenD; split <;> (try split) <;> simp
theorem lenD_one (n : Nat) : 1 ≤ (lenD n).length := by unfold lenD; split <;> (try split) <;> simp
theorem thingD_size (t : Int) (b : ByteArray) : (thingD t b).size = 1 + (lenD b.size).length + b.size := by
  rw [thingD, ByteArray.size_append, strOfNums_size, headD, List.length_cons]; omega
theorem thingD_le (t : Int) (b : ByteArray) : (thingD t b).size ≤ b.size + 4 := by
  have := lenD_le b.size
  rw [thingD_size]; omega
theorem putD_right {t : Int} {b : ByteArray} (h : tagB t = true) (h1 : b.size ≤ 4000) : putD t b = thingD t b := if_pos ⟨h, h1⟩
theorem putD_long {t : Int} {b : ByteArray} (h1 : 4000 < b.size) : putD t b = ByteArray.empty := if_neg (fun h => by omega)
theorem putD_tag {t : Int} {b : ByteArray} (h : tagB t = false) : putD t b = ByteArray.empty := if_neg (fun h' => by rw [h] at h'; simp at h')
theorem putD_le (t : Int) (b : ByteArray) : (putD t b).size ≤ 4004 := by
  unfold putD
  split
  · rename_i h; have := thingD_le t b; omega
  · simp

/-- The byte at a place of a text. -/
def bN (s : ByteArray) (j : Nat) : Nat := (s.data.toList.getD j 0).toNat
theorem bN_lt (s : ByteArray) (j : Nat) : bN s j < 256 := (s.data.toList.getD j 0).toNat_lt
theorem bN_eq (s : ByteArray) (j : Nat) (h : j < s.size) : bN s j = s[j].toNat := by
  have h' : j < s.data.toList.length := by rw [← size_eq]; exact h
  simp [bN, List.getD, List.getElem?_eq_getElem h']
  rfl
/-- What DerGet tells. -/
structure GetR where
  tag : Int
  body : ByteArray
  at' : Int
  code : Int
def GetR.bad (c : Int) : GetR := ⟨0, ⟨#[]⟩, 0, c⟩
def bodyAt (s : ByteArray) (t n f : Nat) : GetR := if s.size < f + n then .bad 4 else ⟨(t : Int), s.extract f (f + n), ((f + n : Nat) : Int), 0⟩
/-- The thing at a place, of a text that is not too long. -/
def getAt (s : ByteArray) (k : Nat) : GetR :=
  if s.size ≤ k then .bad 4 else if tagB (bN s k : Int) = false then .bad 3 else if s.size ≤ k + 1 then .bad 4
  else if bN s (k + 1) < 128 then bodyAt s (bN s k) (bN s (k + 1)) (k + 2)
  else if bN s (k + 1) = 129 then
    if s.size ≤ k + 2 then .bad 4 else if bN s (k + 2) < 128 then .bad 3 else bodyAt s (bN s k) (bN s (k + 2)) (k + 3)
  else if bN s (k + 1) = 130 then
    if s.size ≤ k + 3 then .bad 4 else if 256 * bN s (k + 2) + bN s (k + 3) < 256 then .bad 3 else if 4000 < 256 * bN s (k + 2) + bN s (k + 3) then .bad 3
    else bodyAt s (bN s k) (256 * bN s (k + 2) + bN s (k + 3)) (k + 4)
  else .bad 3
def getD (s : ByteArray) (p : Int) : GetR := if 20000 < s.size then .bad 2 else if p < 0 then .bad 1 else getAt s p.toNat
def GetR.val (r : GetR) : Value := .agg #[.int .i64 r.tag, .string r.body, .int .i64 r.at', .int .i64 r.code]

theorem bodyAt_short {s : ByteArray} {t n f : Nat} (h : s.size < f + n) : bodyAt s t n f = .bad 4 := if_pos h
theorem bodyAt_ok {s : ByteArray} {t n f : Nat} (h : f + n ≤ s.size) : bodyAt s t n f = ⟨(t : Int), s.extract f (f + n), ((f + n : Nat) : Int), 0⟩ := if_neg (by omega)
section
variable {s : ByteArray} {k : Nat}
theorem getAt_end (h : s.size ≤ k) : getAt s k = .bad 4 := if_pos h
theorem getAt_tag (h : k < s.size) (ht : tagB (bN s k : Int) = false) : getAt s k = .bad 3 := by rw [getAt, if_neg (by omega), if_pos ht]
theorem getAt_one (h : s.size = k + 1) (ht : tagB (bN s k : Int) = true) : getAt s k = .bad 4 := by rw [getAt, if_neg (by omega), if_neg (by simp [ht]), if_pos (by omega)]
theorem getAt_low (h : k + 1 < s.size) (ht : tagB (bN s k : Int) = true) (h1 : bN s (k + 1) < 128) : getAt s k = bodyAt s (bN s k) (bN s (k + 1)) (k + 2) := by
  rw [getAt, if_neg (by omega), if_neg (by simp [ht]), if_neg (by omega), if_pos h1]
theorem getAt_many (h : k + 1 < s.size) (ht : tagB (bN s k : Int) = true) (h0 : 128 ≤ bN s (k + 1)) (h1 : bN s (k + 1) ≠ 129) (h2 : bN s (k + 1) ≠ 130) : getAt s k = .bad 3 := by
  rw [getAt, if_neg (by omega), if_neg (by simp [ht]), if_neg (by omega), if_neg (by omega), if_neg h1, if_neg h2]
theorem getAt_129 (h : k + 1 < s.size) (ht : tagB (bN s k : Int) = true) (h1 : bN s (k + 1) = 129) :
    getAt s k = if s.size ≤ k + 2 then .bad 4 else if bN s (k + 2) < 128 then .bad 3 else bodyAt s (bN s k) (bN s (k + 2)) (k + 3) := by
  rw [getAt, if_neg (by omega), if_neg (by simp [ht]), if_neg (by omega), if_neg (by omega), if_pos h1]
theorem getAt_130 (h : k + 1 < s.size) (ht : tagB (bN s k : Int) = true) (h1 : bN s (k + 1) = 130) :
    getAt s k = if s.size ≤ k + 3 then .bad 4 else if 256 * bN s (k + 2) + bN s (k + 3) < 256 then .bad 3 else if 4000 < 256 * bN s (k + 2) + bN s (k + 3) then .bad 3
      else bodyAt s (bN s k) (256 * bN s (k + 2) + bN s (k + 3)) (k + 4) := by
  rw [getAt, if_neg (by omega), if_neg (by simp [ht]), if_neg (by omega), if_neg (by omega), if_neg (by omega), if_pos h1]
end
theorem bodyAt_at {s : ByteArray} {t n f : Nat} (h : (bodyAt s t n f).code = 0) : f ≤ (bodyAt s t n f).at'.toNat ∧ (bodyAt s t n f).at'.toNat ≤ s.size ∧ 0 ≤ (bodyAt s t n f).at' := by
  unfold bodyAt at *
  split at h
  · simp [GetR.bad] at h
  · rename_i h1
    rw [if_neg h1]
    exact ⟨by simp; omega, by simp; omega, by simp; omega⟩
theorem getAt_cases (s : ByteArray) (k : Nat) : (∃ c, c ≠ 0 ∧ getAt s k = .bad c) ∨ ∃ n f, k + 2 ≤ f ∧ n ≤ 4000 ∧ getAt s k = bodyAt s (bN s k) n f ∧ tagB (bN s k : Int) = true := by
  have h2 := bN_lt s (k + 2)
  unfold getAt
  repeat' split
  all_goals first
    | exact .inl ⟨_, by decide, rfl⟩
    | exact .inr ⟨_, _, by omega, by omega, rfl, by simp_all⟩
/-- Where a thing is got, the place goes on, and stays in the text. -/
theorem getAt_at {s : ByteArray} {k : Nat} (h : (getAt s k).code = 0) : k + 2 ≤ (getAt s k).at'.toNat ∧ (getAt s k).at'.toNat ≤ s.size ∧ 0 ≤ (getAt s k).at' := by
  rcases getAt_cases s k with ⟨c, hc, e⟩ | ⟨n, f, hf, _, e, _⟩
  · rw [e] at h; exact absurd h hc
  · rw [e] at h ⊢
    have := bodyAt_at h
    omega
end Go.Proofs.Ythpcnakkhghaeaa
namespace Go.Proofs.Ythpcnakkhghaeaa
open Go.RowKit Go.Lib

theorem specIs (n l h : Int) (w : World) :
    Calls Try.prog 9 #[.int .i64 n, .int .i64 l, .int .i64 h] w fun e w' => e = .returned (.bool (decide (l ≤ n) && decide (n ≤ h))) ∧ w' = w := by
  by_cases h1 : l ≤ n
  · go_enter Try.func9, Try.ntmps9
    go_wp2
    go_ret
    exact ⟨by simp [h1], rfl⟩
  · go_enter Try.func9, Try.ntmps9
    go_wp2
    go_ret
    exact ⟨by simp; omega, rfl⟩
end Go.Proofs.Ythpcnakkhghaeaa
namespace Go.Proofs.Ythpcnakkhghaeaa
open Go.RowKit

theorem rowFacts {w : World} {g : Nat} {cs : List Value} {t : TypeId} (hg : w.heap[g]? = some (.cells cs.toArray t (0, 0))) (j : Nat) (v : Value) (hj : cs[j]? = some v) : w.cell? ⟨g, j, none⟩ = some v := by
  rw [cell_of_row w g j _ t (0, 0) hg]; simpa using hj
theorem rowSet {w : World} {g i : Nat} {cs : List Value} {t : TypeId} (v : Value) (hg : w.heap[g]? = some (.cells cs.toArray t (0, 0))) : (w.setCell ⟨g, i, none⟩ v).heap[g]? = some (.cells (cs.set i v).toArray t (0, 0)) := by
  rw [heap_setCell_same w g i _ t v hg]; simp
theorem heap_alloc2 (w : World) (a b : Obj) : ((w.alloc a).alloc b).heap[w.heap.size + 1]? = some b := by
  have := heap_alloc_new (w.alloc a) b
  simpa using this
theorem below_setCells {B g : Nat} {w0 : World} (hB : B ≤ g) : ∀ (vs : List Value) (o : Nat) (w : World), Below B w0 w → Below B w0 (w.setCells g o vs)
  | [], _, _, h => h
  | v :: r, o, _, h => below_setCells hB r (o + 1) _ (h.setCell hB v)
theorem rangeRow {w : World} {g : Nat} {cs : List Value} {t : TypeId} (hg : w.heap[g]? = some (.cells cs.toArray t (0, 0))) : w.rangeAt g 0 cs := fun j v hv => by
  rw [Nat.zero_add]; exact rowFacts hg j v hv
theorem thereRow {w : World} {g : Nat} {cs : List Value} {t : TypeId} (hg : w.heap[g]? = some (.cells cs.toArray t (0, 0))) : w.there g 0 cs.length := fun j hj => by
  rw [Nat.zero_add]
  exact ⟨by rw [rowFacts hg j _ (List.getElem?_eq_getElem hj)]; rfl, frozen_of_row w g j _ t hg⟩
end Go.Proofs.Ythpcnakkhghaeaa
namespace Go.Proofs.Ythpcnakkhghaeaa
open Go.RowKit

theorem splice_cons {α : Type} (cs r : List α) (v : α) (o : Nat) (h : o < cs.length) : splice (cs.set o v) (o + 1) r = splice cs o (v :: r) := by
  unfold splice
  rw [List.take_succ_eq_append_getElem (by simpa using h)]
  simp only [List.getElem_set_self, List.take_set_of_le (Nat.le_refl o), List.append_assoc, List.length_cons, List.cons_append, List.nil_append]
  rw [List.drop_set_of_lt (by omega), show o + 1 + r.length = o + (r.length + 1) by omega]
/-- A row behind many stores. -/
theorem rowSetCells {g : Nat} {t : TypeId} : ∀ (vs cs : List Value) (o : Nat) (w : World), w.heap[g]? = some (.cells cs.toArray t (0, 0)) → o + vs.length ≤ cs.length → (w.setCells g o vs).heap[g]? = some (.cells (splice cs o vs).toArray t (0, 0))
  | [], cs, o, w, hg, _ => by simpa [World.setCells, splice] using hg
  | v :: r, cs, o, w, hg, hl => by
    rw [World.setCells, ← splice_cons cs r v o (by simp at hl; omega)]
    exact rowSetCells r (cs.set o v) (o + 1) _ (rowSet v hg) (by simp at hl ⊢; omega)
theorem otherSetCells (g : Nat) : ∀ (vs : List Value) (o : Nat) (w : World) (k : Nat), k ≠ g → (w.setCells g o vs).heap[k]? = w.heap[k]?
  | [], _, _, _, _ => rfl
  | v :: r, o, w, k, hk => by rw [World.setCells, otherSetCells g r (o + 1) _ k hk, heap_setCell_other w _ k v hk]
theorem sizeSetCells (g : Nat) : ∀ (vs : List Value) (o : Nat) (w : World), (w.setCells g o vs).heap.size = w.heap.size
  | [], _, _ => rfl
  | v :: r, o, w => by rw [World.setCells, sizeSetCells g r (o + 1) _]; simp
/-- A whole variable of many cells, stored. -/
theorem wpList_store_row {P : Program} {ops : Array Oper} {rest : List Oper} {op : Oper} {a : Act} {w : World} {Q : Exit → Act → World → Prop} (hgd : op.guard = none) (ty : TypeId) (x y : Operand) (ho : op.op = .store ty x y)
    (g : Nat) (cs vs : List Value) (t : TypeId) (hx : a.eval x = .pointer (some ⟨g, 0, none⟩)) (hy : a.eval y = .agg vs.toArray) (hg : w.heap[g]? = some (.cells cs.toArray t (0, 0))) (hl : cs.length = vs.length)
    (hi : (P.info? ty).map (·.size) = some vs.length) (h1 : ∀ v ∈ vs, v.oneCell' = true)
    (h : ∀ w', w'.heap[g]? = some (.cells vs.toArray t (0, 0)) → (∀ k, k ≠ g → w'.heap[k]? = w.heap[k]?) → w'.heap.size = w.heap.size → (∀ B w0, B ≤ g → Below B w0 w → Below B w0 w') → wpList P ops Q rest (a.put op.dst undef) w') : wpList P ops Q (op :: rest) a w := by
  refine wpList_store_mid hgd ty x y ho g 0 vs.toArray hx hy (by have := thereRow hg; rw [hl] at this; simpa using this) (by simpa using hi) (all_oneCell_toArray h1) ?_
  refine h _ ?_ (fun k hk => otherSetCells g _ _ _ _ hk) (sizeSetCells g _ _ _) (fun B w0 hB hb => below_setCells hB _ _ _ hb)
  have := rowSetCells vs cs 0 w hg (by omega)
  rwa [splice_one cs vs hl] at this
/-- The same, inside a drawn region. -/
theorem wp_store_row {P : Program} {op : Oper} {a : Act} {w : World} {K : Act → World → Prop} {Q : Exit → Act → World → Prop} (ty : TypeId) (x y : Operand) (ho : op.op = .store ty x y)
    (g : Nat) (cs vs : List Value) (t : TypeId) (hx : a.eval x = .pointer (some ⟨g, 0, none⟩)) (hy : a.eval y = .agg vs.toArray) (hg : w.heap[g]? = some (.cells cs.toArray t (0, 0))) (hl : cs.length = vs.length)
    (hi : (P.info? ty).map (·.size) = some vs.length) (h1 : ∀ v ∈ vs, v.oneCell' = true)
    (h : ∀ w', w'.heap[g]? = some (.cells vs.toArray t (0, 0)) → (∀ k, k ≠ g → w'.heap[k]? = w.heap[k]?) → w'.heap.size = w.heap.size → (∀ B w0, B ≤ g → Below B w0 w → Below B w0 w') → K (a.put op.dst undef) w') : op.wp P a w K Q := by
  refine wp_store_mid ty x y ho g 0 vs.toArray hx hy (by have := thereRow hg; rw [hl] at this; simpa using this) (by simpa using hi) (all_oneCell_toArray h1) ?_
  refine h _ ?_ (fun k hk => otherSetCells g _ _ _ _ hk) (sizeSetCells g _ _ _) (fun B w0 hB hb => below_setCells hB _ _ _ hb)
  have := rowSetCells vs cs 0 w hg (by omega)
  rwa [splice_one cs vs hl] at this
end Go.Proofs.Ythpcnakkhghaeaa
namespace Go.Proofs.Ythpcnakkhghaeaa
open Go.RowKit

/-- An Office. -/
def offV (b : ByteArray) (n : Int) : Value := .agg #[.string b, .int .i64 n]
/-- How much a crash leaves. -/
def crK (b : ByteArray) (n q : Int) : Nat := (n + min (max q 0) ((b.size : Int) - n)).toNat
def crashV (b : ByteArray) (n q : Int) : Value := if 0 ≤ n ∧ n ≤ (b.size : Int) then offV (b.extract 0 (crK b n q)) (crK b n q : Nat) else offV b n
theorem allocB1 (w : World) (o : Obj) : Below w.heap.size w (w.alloc o) := (Below.refl _ w).alloc (Nat.le_refl _) o
set_option maxHeartbeats 1000000 in
set_option maxRecDepth 100000 in
theorem toOffice (b : ByteArray) (n : Int) (w : World) :
    Calls Try.prog 6 #[.agg #[.string b, .int .i64 n]] w fun r w' => r = .returned (.agg #[.string b, .int .i64 n]) ∧ Below w.heap.size w w' := by
  go_enter Try.func6, Try.ntmps6
  go_wp2
  go_returns
  refine ⟨rfl, ?_⟩
  repeat' first | exact Below.refl _ _ | refine Below.setCell ?_ (by simp) _ | refine Below.alloc ?_ (by simp; try omega) _
set_option maxHeartbeats 1000000 in
set_option maxRecDepth 100000 in
theorem eqOffice (b : ByteArray) (n : Int) (w : World) :
    Calls Try.prog 8 #[.agg #[.string b, .int .i64 n], .agg #[.string b, .int .i64 n]] w fun r w' => r = .returned (.bool true) ∧ Below w.heap.size w w' := by
  go_enter Try.func8, Try.ntmps8
  go_wp2
  go_ret
  exact ⟨rfl, (allocB1 w _).alloc (by simp) _⟩
set_option maxHeartbeats 1000000 in
set_option maxRecDepth 100000 in
theorem szOffice (b : ByteArray) (n : Int) (w : World) (hb : b.size ≤ maxLen) :
    Calls Try.prog 4 #[.agg #[.string b, .int .i64 n], .int .i64 1048576] w fun r w' => r = .returned (.int .i64 (if b.size ≤ 1048576 then (1048576 : Int) - b.size else -1)) ∧ Below w.heap.size w w' := by
  unfold maxLen at hb
  by_cases h : b.size ≤ 1048576
  · rw [if_pos h]
    go_enter Try.func4, Try.ntmps4
    go_wp2
    go_ret
    exact ⟨rfl, allocB1 w _⟩
  · rw [if_neg h]
    go_enter Try.func4, Try.ntmps4
    go_wp2
    go_ret
    exact ⟨rfl, allocB1 w _⟩
theorem sizeOffice : (Try.prog.info? 25).map (·.size) = some 2 := by kernel_rfl
set_option linter.unusedSimpArgs false in
set_option maxHeartbeats 2000000 in
set_option maxRecDepth 100000 in
theorem copyOffice (b : ByteArray) (n : Int) (w : World) (hb : b.size ≤ 1048576) :
    Calls Try.prog 12 #[.agg #[.string b, .int .i64 n]] w fun r w' => r = .returned (.agg #[.string b, .int .i64 n]) ∧ Below w.heap.size w w' := by
  have HC : Hid (∀ V, Calls Try.prog 14 #[.string b] V fun e w' => e = .returned (.string b) ∧ Below V.heap.size V w') := fun V => copyText b V (by omega)
  obtain ⟨w1, hw1⟩ : ∃ w1, w1 = (w.alloc (.cells #[.string b, .int .i64 n] 25 (0, 0))).alloc (.cells #[.string ⟨#[]⟩, .int .i64 0] 25 (0, 0)) := ⟨_, rfl⟩
  have r0 : w1.heap[w.heap.size]? = some (.cells [Value.string b, .int .i64 n].toArray 25 (0, 0)) := by rw [hw1, Below.heap_alloc _ _ _ (by simp)]; exact heap_alloc_new w _
  have r1 : w1.heap[w.heap.size + 1]? = some (.cells [Value.string ⟨#[]⟩, .int .i64 0].toArray 25 (0, 0)) := by rw [hw1]; exact heap_alloc2 w _ _
  have B1 : Hid (Below w.heap.size w w1) := by rw [hw1]; exact ((Below.refl _ _).alloc (Nat.le_refl _) _).alloc (by simp) _
  have HRw : Hid (∀ V, Below w1.heap.size w1 V → V.heap[w.heap.size]? = some (.cells [Value.string b, .int .i64 n].toArray 25 (0, 0)) ∧ V.heap[w.heap.size + 1]? = some (.cells [Value.string ⟨#[]⟩, .int .i64 0].toArray 25 (0, 0))) := fun V hV => ⟨(hV.block _ (heap_lt r0)).trans r0, (hV.block _ (heap_lt r1)).trans r1⟩
  have HK : Hid (∀ V, Below w1.heap.size w1 V → V.cell? ⟨w.heap.size, 0, none⟩ = some (.string b) ∧ V.cell? ⟨w.heap.size, 1, none⟩ = some (.int .i64 n)) := fun V hV => ⟨rowFacts (HRw.out V hV).1 0 _ rfl, rowFacts (HRw.out V hV).1 1 _ rfl⟩
  have HB : Hid (∀ V, Below w1.heap.size w1 V → Below w.heap.size w V) := fun V hV => B1.out.trans (hV.mono B1.out.size)
  have J0 : Hid (Below w1.heap.size w1 w1.drew) := (Below.refl _ _).drew
  clear r0 r1 B1
  go_enter Try.func12, Try.ntmps12
  go_upto_region 1 with fail
  rw [← hw1]
  clear hw1
  go_wp2_with fail
  refine wp_region_held_drew (S := fun V => V.cell? ⟨w.heap.size, 0, none⟩ = some (.string b) ∧ V.cell? ⟨w.heap.size, 1, none⟩ = some (.int .i64 n)) (by kernel_rfl) ?_ (fun hHeld => ?_)
  · exact HK.out _ J0.out
  refine wpAnyH_take (i := 0) (oi := ⟨some 3, _, _, _, _, _⟩) (v := ?_) rfl (by kernel_rfl) (by kernel_rfl) (by kernel_rfl) (fun _ _ _ h => h) (Or.inl ⟨by kernel_rfl, ?_⟩) (by assumption) ?_
  rotate_left
  · (intro w hSw; (try dsimp only at hSw); go_simp; try with_reducible rfl)
  (try simp only [Act.put, List.setIfInBounds_toArray, List.set_cons_zero, List.set_cons_succ])
  refine wpAnyH_take (i := 1) (oi := ⟨some 4, _, _, _, _, _⟩) (v := ?_) rfl (by kernel_rfl) (by kernel_rfl) (by kernel_rfl) (fun _ _ _ h => h) (Or.inl ⟨by kernel_rfl, ?_⟩) (by assumption) ?_
  rotate_left
  · (intro w hSw; (try dsimp only at hSw); go_simp; try with_reducible rfl)
  (try simp only [Act.put, List.setIfInBounds_toArray, List.set_cons_zero, List.set_cons_succ])
  refine wpAnyH_take (i := 3) (oi := ⟨some 6, _, _, _, _, _⟩) (v := ?_) rfl (by kernel_rfl) (by kernel_rfl) (by kernel_rfl) (fun _ _ _ h => h) (Or.inl ⟨by kernel_rfl, ?_⟩) (by assumption) ?_
  rotate_left
  · (intro w hSw; (try dsimp only at hSw); go_simp; try with_reducible rfl)
  (try simp only [Act.put, List.setIfInBounds_toArray, List.set_cons_zero, List.set_cons_succ])
  refine wpAnyH_take (i := 4) (oi := ⟨some 7, _, _, _, _, _⟩) (v := ?_) rfl (by kernel_rfl) (by kernel_rfl) (by kernel_rfl) (fun _ _ _ h => h) (Or.inl ⟨by kernel_rfl, ?_⟩) (by assumption) ?_
  rotate_left
  · (intro w hSw; (try dsimp only at hSw); go_simp; try with_reducible rfl)
  (try simp only [Act.put, List.setIfInBounds_toArray, List.set_cons_zero, List.set_cons_succ])
  refine wpAnyH_ready (rs := [2]) (by kernel_rfl) (by simp) ?_
  refine AllReadyH.cons (o := ⟨some 5, _, _, _, _, _⟩) rfl (fun K hK => ?_) AllReadyH.nil
  go_simp
  refine (HC.out _).mono ?_
  rintro e' W1 ⟨rfl, bb1⟩
  have J1 : Hid (Below w1.heap.size w1 W1) := J0.out.trans (bb1.mono J0.out.size)
  refine hK.out _ _ ?_ (fun hHeld => ?_)
  · exact HK.out _ J1.out
  clear hK K bb1
  (try simp only [Act.put, List.setIfInBounds_toArray, List.set_cons_zero, List.set_cons_succ])
  refine wpAnyH_take (i := 5) (oi := ⟨some 8, _, _, _, _, _⟩) (v := ?_) rfl (by kernel_rfl) (by kernel_rfl) (by kernel_rfl) (fun _ _ _ h => h) (Or.inl ⟨by kernel_rfl, ?_⟩) (by assumption) ?_
  rotate_left
  · (intro w hSw; (try dsimp only at hSw); go_simp; try with_reducible rfl)
  (try simp only [Act.put, List.setIfInBounds_toArray, List.set_cons_zero, List.set_cons_succ])
  refine wpAnyH_ready (rs := [6]) (by kernel_rfl) (by simp) ?_
  refine AllReadyH.cons (o := ⟨none, _, _, _, _, _⟩) rfl (fun K hK => ?_) AllReadyH.nil
  rw [if_pos (by rfl)]
  refine wp_store_row 25 _ _ rfl (w.heap.size + 1) [Value.string ⟨#[]⟩, .int .i64 0] [Value.string b, .int .i64 n] 25 rfl rfl (HRw.out _ J1.out).2 rfl sizeOffice (by simp [Value.oneCell']) ?_
  intro w8 hrow ho hs8 hbb
  have HROW : Hid _ := hrow
  have HB8 : Hid (Below w.heap.size w w8) := hbb _ _ (by omega) (HB.out _ J1.out)
  have c8 : w8.cell? ⟨w.heap.size, 0, none⟩ = some (.string b) ∧ w8.cell? ⟨w.heap.size, 1, none⟩ = some (.int .i64 n) := by
    have e : w8.heap[w.heap.size]? = some (.cells [Value.string b, .int .i64 n].toArray 25 (0, 0)) := by rw [ho _ (by omega)]; exact (HRw.out _ J1.out).1
    exact ⟨rowFacts e 0 _ rfl, rowFacts e 1 _ rfl⟩
  refine hK.out _ _ ?_ (fun hHeld => ?_)
  · exact c8
  clear hK K ho hs8 hbb hrow
  (try simp only [Act.put, List.setIfInBounds_toArray, List.set_cons_zero, List.set_cons_succ])
  refine wpAnyH_done (by kernel_rfl) ?_ _
  go_wp2
  refine bodyPost_ret (v := .agg [Value.string b, .int .i64 n].toArray) ?_ rfl ⟨rfl, HB8.out⟩
  have hl3 := run_loadVar_mid (P := Try.prog) _ (w.heap.size + 1) 0 25 _ _ (rangeRow HROW.out) Try.underlying25 rfl sizeOffice
  simp [results, Try.results12, asAddr, hl3]
set_option linter.unusedSimpArgs false in
set_option maxHeartbeats 2000000 in
set_option maxRecDepth 100000 in
theorem syncedOffice (b : ByteArray) (w : World) (hb : b.size ≤ 1048576) :
    Calls Try.prog 13 #[.string b] w fun r w' => r = .returned (.agg #[.string b, .int .i64 (b.size : Int)]) ∧ Below w.heap.size w w' := by
  have HC : Hid (∀ V, Calls Try.prog 14 #[.string b] V fun e w' => e = .returned (.string b) ∧ Below V.heap.size V w') := fun V => copyText b V (by omega)
  obtain ⟨w1, hw1⟩ : ∃ w1, w1 = w.alloc (.cells #[.string ⟨#[]⟩, .int .i64 0] 25 (0, 0)) := ⟨_, rfl⟩
  have r1 : w1.heap[w.heap.size]? = some (.cells [Value.string ⟨#[]⟩, .int .i64 0].toArray 25 (0, 0)) := by rw [hw1]; exact heap_alloc_new w _
  have B1 : Hid (Below w.heap.size w w1) := by rw [hw1]; exact (Below.refl _ _).alloc (Nat.le_refl _) _
  go_enter Try.func13, Try.ntmps13
  go_upto_region 1 with fail
  rw [← hw1]
  clear hw1
  go_wp2_with fail
  refine (HC.out _).mono ?_
  rintro e w2 ⟨rfl, b2⟩
  have r2 : w2.heap[w.heap.size]? = some (.cells [Value.string ⟨#[]⟩, .int .i64 0].toArray 25 (0, 0)) := (b2.block _ (heap_lt r1)).trans r1
  have B2 : Hid (Below w.heap.size w w2) := B1.out.trans (b2.mono B1.out.size)
  have h1 : ∀ v ∈ [Value.string b, .int .i64 (b.size : Int)], v.oneCell' = true := by simp [Value.oneCell']
  clear b2 r1 B1
  go_wp2_with (refine wpList_store_row rfl 25 _ _ rfl w.heap.size [Value.string ⟨#[]⟩, .int .i64 0] [Value.string b, .int .i64 (b.size : Int)] 25 rfl rfl r2 rfl sizeOffice h1 ?_)
  intro w3 hrow ho hs3 hbb
  have B3 : Hid (Below w.heap.size w w3) := hbb _ _ (by omega) B2.out
  have hl := run_loadVar_mid (P := Try.prog) _ w.heap.size 0 25 _ _ (rangeRow hrow) Try.underlying25 rfl sizeOffice
  clear ho hs3 hbb r2 h1 hrow
  go_wp2
  refine bodyPost_ret (v := .agg [Value.string b, .int .i64 (b.size : Int)].toArray) ?_ rfl ⟨rfl, B3.out⟩
  simp [results, Try.results13, asAddr, hl]
end Go.Proofs.Ythpcnakkhghaeaa
