/- Plain mathematics of numbers in bytes: no program is named here. Things of DER: what DerPut and DerGet answer. Plain mathematics: no program is named here. 'copy(b[i:], s)' of a string into a row that the call owns; 'string(b)' of such a row by its bytes. No program is named. Small facts on the program's types, shared by the walks. math/bits.Len64 and Len, walked. impl.lengthBytes, walked. Rows that are known whole. No program is named. Rows of bytes that are known whole, made into texts. impl.putLength, walked. spec.l05Put, walked. Kinds of thing, told apart. impl.joinTexts, walked: the one text behind the other. -/
import Derived.WalkKit
import Derived.WalkSpells
import Derived.WalkLawsBesides
import Derived.Laws.BytesArg
import Derived.Below
import Derived.Lib.Strings
import Derived.Laws.CopyOwn
import Derived.Laws.IdiomStrings
import Derived.Lib.BufferWrite
import Derived.Test.YtjllcflnmopnpaaDoorRows
import Derived.Lib.BitFns
import Derived.Lib.Walk
import Derived.Deep.MidRow
import Derived.Deep.RegionHeld3
namespace Go.Proofs.YtjllcflnmopnpaaDoor
open Go.RowKit

/-- The bytes of a number, the lowest seven bits first; f rounds at most. -/
def putF : Nat → Nat → List Int
  | 0, x => [(x : Int)]
  | f + 1, x => if x < 128 then [(x : Int)] else ((x % 128 + 128 : Nat) : Int) :: putF f (x / 128)
def pw : Nat → Nat
  | 0 => 128
  | f + 1 => 128 * pw f
theorem pw9 : pw 9 = 1180591620717411303424 := by decide
theorem pw_step {f x : Nat} (h : x < pw f) (h1 : 128 ≤ x) : ∃ g, f = g + 1 ∧ x / 128 < pw g := by
  cases f with
  | zero => simp [pw] at h; omega
  | succ g => exact ⟨g, rfl, by simp only [pw] at h; omega⟩
theorem putF_more {f x : Nat} (h : 128 ≤ x) : putF (f + 1) x = ((x % 128 + 128 : Nat) : Int) :: putF f (x / 128) := by
  rw [putF, if_neg (by omega)]
theorem putF_last {f x : Nat} (h : x < 128) : putF f x = [(x : Int)] := by
  cases f with
  | zero => rfl
  | succ g => rw [putF, if_pos h]
/-- A number's sign in its lowest bit. -/
def foldI (n : Int) : Nat := if n < 0 then (-2 * n - 1).toNat else (2 * n).toNat

/-- 'string(b)' of a row that the call owns. -/
theorem run_convert_own {P : Program} {w : World} {base src dst e n : Nat} {v : Value} {xs : List Int} (hs : P.underlying src = some (.slice e)) (he : P.underlying e = some (.int .u8)) (hd : P.underlying dst = some .string)
    (hown : w.ownsRow base e 1 v n (xs.map (Value.int .u8))) : (convert src dst v).run P w = .ok (.string (strOfNums xs)) w := by
  have hl := hown.1
  simp only [List.length_map, Nat.mul_one] at hl
  have hown0 := hown
  rcases hown.2 with ⟨rfl, rfl⟩ | ⟨g, cap, cur, rfl, hbg, hg, hnc, hcm, hcs, htake⟩
  · obtain rfl : xs = [] := List.eq_nil_of_length_eq_zero hl
    exact run_convert_bytes_nil w src e hs he 0 0 dst hd
  · refine run_convert_bytes_arg w src e hs he g 0 n cap xs hl ?_ dst hd
    intro i hi
    rw [Nat.zero_add, hown0.cellAt i (by omega)]
    have hi' : i < xs.length := by omega
    simp [hi', List.getD]
/-- One block more, then a block that is grown: an owned row's step. -/
theorem cells_one {w : World} {b : Nat} {x : Value} (h : w.cell? ⟨b, 0, none⟩ = some x) : ∀ j u, [x][j]? = some u → w.cell? ((⟨b, 0, none⟩ : Addr).add j) = some u := by
  intro j u hj
  match j, hj with
  | 0, hj => simp at hj; subst hj; simpa [Addr.add] using h
theorem oneCell_ints (k : IntKind) (zs : List Int) : ∀ u ∈ zs.map (Value.int k), u.oneCell' = true := ints_oneCell k zs
theorem nat_xor_all (a : Nat) (h : a < 18446744073709551616) : a ^^^ 18446744073709551615 = 18446744073709551615 - a := by
  have e := congrArg BitVec.toNat (BitVec.xor_allOnes (x := BitVec.ofNat 64 a))
  simp only [BitVec.toNat_xor, BitVec.toNat_ofNat, BitVec.toNat_allOnes, BitVec.toNat_not] at e
  rw [Nat.mod_eq_of_lt (by omega)] at e
  simpa using e
theorem fold_bits_neg (n : Int) (h0 : -9223372036854775808 ≤ n) (hn : n < 0) :
    bits BinOp.xor IntKind.u64 (IntKind.u64.wrap (IntKind.u64.wrap n * 2)) (IntKind.u64.wrap (n / 9223372036854775808)) = (foldI n : Int) := by
  have e1 : IntKind.u64.wrap (IntKind.u64.wrap n * 2) = 2 * n + 18446744073709551616 := by simp only [IntKind.wrap_u64]; omega
  have e2 : IntKind.u64.wrap (n / 9223372036854775808) = 18446744073709551615 := by simp only [IntKind.wrap_u64]; omega
  rw [e1, e2, u64_xor _ _ (by omega) (by omega) (by omega) (by omega)]
  have e3 : (18446744073709551615 : Int).toNat = 18446744073709551615 := by omega
  rw [e3, nat_xor_all _ (by omega)]
  unfold foldI
  rw [if_pos hn]
  omega
theorem fold_bits_pos (n : Int) (h1 : n ≤ 9223372036854775807) (hn : 0 ≤ n) :
    bits BinOp.xor IntKind.u64 (n * 2) (n / 9223372036854775808) = (foldI n : Int) := by
  have e2 : n / 9223372036854775808 = 0 := by omega
  rw [e2, u64_xor _ _ (by omega) (by omega) (by omega) (by omega)]
  have e3 : (0 : Int).toNat = 0 := rfl
  rw [e3, Nat.xor_zero]
  unfold foldI
  rw [if_neg (by omega)]
  omega
theorem or128_small : ∀ b : Fin 256, (b.val ||| 128) = b.val % 128 + 128 := by decide +kernel
theorem or128 (x : Nat) : bits BinOp.or IntKind.u8 ((x : Int) % 256) 128 = (x : Int) % 128 + 128 := by
  rw [u8_or _ _ (by omega) (by omega) (by omega) (by omega)]
  have h := or128_small ⟨x % 256, Nat.mod_lt _ (by omega)⟩
  have e : ((x : Int) % 256).toNat = x % 256 := by omega
  have e2 : (128 : Int).toNat = 128 := rfl
  rw [e, e2]
  simp only at h
  rw [h]
  omega
theorem set_reads {L : List Value} {xs : List Int} {y : Int} (hL : xs.length < L.length) (h : ∀ j, j < xs.length → L[j]? = some (.int .u8 (xs.getD j 0))) :
    ∀ j, j < (xs ++ [y]).length → (L.set xs.length (.int .u8 y))[j]? = some (.int .u8 ((xs ++ [y]).getD j 0)) := by
  intro j hj
  simp only [List.length_append, List.length_singleton] at hj
  by_cases e : j = xs.length
  · subst e; simp [hL]
  · rw [List.getElem?_set_ne (by omega), h j (by omega)]
    simp [List.getD, List.getElem?_append_left (show j < xs.length by omega)]
theorem heap_lt {w : World} {k : Nat} {o : Obj} (h : w.heap[k]? = some o) : k < w.heap.size := by
  rcases Nat.lt_or_ge k w.heap.size with h' | h'
  · exact h'
  · rw [Array.getElem?_eq_none h'] at h; cases h
end Go.Proofs.YtjllcflnmopnpaaDoor
namespace Go.Proofs.YtjllcflnmopnpaaDoor
open Go.RowKit Go.Lib

/-- Is it a tag? -/
def tagB (t : Int) : Bool := decide (0 ≤ t) && decide (t ≤ 255) && decide (t % 32 ≠ 31)
theorem tagB_iff {t : Int} : tagB t = true ↔ 0 ≤ t ∧ t ≤ 255 ∧ t % 32 ≠ 31 := by simp [tagB, and_assoc]
/-- A length's bytes. -/
def lenD (n : Nat) : List Int := if n < 128 then [(n : Int)] else if n < 256 then [129, (n : Int)] else [130, ((n / 256 : Nat) : Int), ((n % 256 : Nat) : Int)]
/-- A tag and a length. -/
def headD (t : Int) (n : Nat) : List Int := t :: lenD n
/-- The thing of a tag and a body. -/
def thingD (t : Int) (b : ByteArray) : ByteArray := strOfNums (headD t b.size) ++ b
def putD (t : Int) (b : ByteArray) : ByteArray := if tagB t = true ∧ b.size ≤ 4000 then thingD t b else ByteArray.empty
theorem lenD_le (n : Nat) : (lenD n).length ≤ 3 := by unfold lenD; split <;> (try split) <;> simp
theorem lenD_one (n : Nat) : 1 ≤ (lenD n).length := by unfold lenD; split <;> (try split) <;> simp
theorem thingD_size (t : Int) (b : ByteArray) : (thingD t b).size = 1 + (lenD b.size).length + b.size := by
  rw [thingD, ByteArray.size_append, strOfNums_size, headD, List.length_cons]; omega
theorem thingD_le (t : Int) (b : ByteArray) : (thingD t b).size ≤ b.size + 4 := by
  have := lenD_le b.size
  rw [thingD_size]; omega
theorem putD_right {t : Int} {b : ByteArray} (h : tagB t = true) (h1 : b.size ≤ 4000) : putD t b = thingD t b := if_pos ⟨h, h1⟩
theorem putD_long {t : Int} {b : ByteArray} (h1 : 4000 < b.size) : putD t b = ByteArray.empty := if_neg (fun h => by omega)
theorem putD_tag {t : Int} {b : ByteArray} (h : tagB t = false) : putD t b = ByteArray.empty := if_neg (fun h' => by rw [h] at h'; simp at h')
theorem putD_le (t : Int) (b : ByteArray) : (putD t b).size ≤ 4004 := by
  unfold putD
  split
  · rename_i h; have := thingD_le t b; omega
  · simp

/-- The byte at a place of a text. -/
def bN (s : ByteArray) (j : Nat) : Nat := (s.data.toList.getD j 0).toNat
theorem bN_lt (s : ByteArray) (j : Nat) : bN s j < 256 := (s.data.toList.getD j 0).toNat_lt
theorem bN_eq (s : ByteArray) (j : Nat) (h : j < s.size) : bN s j = s[j].toNat := by
  have h' : j < s.data.toList.length := by rw [← size_eq]; exact h
  simp [bN, List.getD, List.getElem?_eq_getElem h']
  rfl
/-- What DerGet tells. -/
structure GetR where
  tag : Int
  body : ByteArray
  at' : Int
  code : Int
def GetR.bad (c : Int) : GetR := ⟨0, ⟨#[]⟩, 0, c⟩
def bodyAt (s : ByteArray) (t n f : Nat) : GetR := if s.size < f + n then .bad 4 else ⟨(t : Int), s.extract f (f + n), ((f + n : Nat) : Int), 0⟩
/-- The thing at a place, of a text that is not too long. -/
def getAt (s : ByteArray) (k : Nat) : GetR :=
  if s.size ≤ k then .bad 4 else if tagB (bN s k : Int) = false then .bad 3 else if s.size ≤ k + 1 then .bad 4
  else if bN s (k + 1) < 128 then bodyAt s (bN s k) (bN s (k + 1)) (k + 2)
  else if bN s (k + 1) = 129 then
    if s.size ≤ k + 2 then .bad 4 else if bN s (k + 2) < 128 then .bad 3 else bodyAt s (bN s k) (bN s (k + 2)) (k + 3)
  else if bN s (k + 1) = 130 then
    if s.size ≤ k + 3 then .bad 4 else if 256 * bN s (k + 2) + bN s (k + 3) < 256 then .bad 3 else if 4000 < 256 * bN s (k + 2) + bN s (k + 3) then .bad 3
    else bodyAt s (bN s k) (256 * bN s (k + 2) + bN s (k + 3)) (k + 4)
  else .bad 3
def getD (s : ByteArray) (p : Int) : GetR := if 20000 < s.size then .bad 2 else if p < 0 then .bad 1 else getAt s p.toNat
def GetR.val (r : GetR) : Value := .agg #[.int .i64 r.tag, .string r.body, .int .i64 r.at', .int .i64 r.code]

theorem bodyAt_short {s : ByteArray} {t n f : Nat} (h : s.size < f + n) : bodyAt s t n f = .bad 4 := if_pos h
theorem bodyAt_ok {s : ByteArray} {t n f : Nat} (h : f + n ≤ s.size) : bodyAt s t n f = ⟨(t : Int), s.extract f (f + n), ((f + n : Nat) : Int), 0⟩ := if_neg (by omega)
section
variable {s : ByteArray} {k : Nat}
theorem getAt_end (h : s.size ≤ k) : getAt s k = .bad 4 := if_pos h
theorem getAt_tag (h : k < s.size) (ht : tagB (bN s k : Int) = false) : getAt s k = .bad 3 := by rw [getAt, if_neg (by omega), if_pos ht]
theorem getAt_one (h : s.size = k + 1) (ht : tagB (bN s k : Int) = true) : getAt s k = .bad 4 := by rw [getAt, if_neg (by omega), if_neg (by simp [ht]), if_pos (by omega)]
theorem getAt_low (h : k + 1 < s.size) (ht : tagB (bN s k : Int) = true) (h1 : bN s (k + 1) < 128) : getAt s k = bodyAt s (bN s k) (bN s (k + 1)) (k + 2) := by
  rw [getAt, if_neg (by omega), if_neg (by simp [ht]), if_neg (by omega), if_pos h1]
theorem getAt_many (h : k + 1 < s.size) (ht : tagB (bN s k : Int) = true) (h0 : 128 ≤ bN s (k + 1)) (h1 : bN s (k + 1) ≠ 129) (h2 : bN s (k + 1) ≠ 130) : getAt s k = .bad 3 := by
  rw [getAt, if_neg (by omega), if_neg (by simp [ht]), if_neg (by omega), if_neg (by omega), if_neg h1, if_neg h2]
theorem getAt_129 (h : k + 1 < s.size) (ht : tagB (bN s k : Int) = true) (h1 : bN s (k + 1) = 129) :
    getAt s k = if s.size ≤ k + 2 then .bad 4 else if bN s (k + 2) < 128 then .bad 3 else bodyAt s (bN s k) (bN s (k + 2)) (k + 3) := by
  rw [getAt, if_neg (by omega), if_neg (by simp [ht]), if_neg (by omega), if_neg (by omega), if_pos h1]
theorem getAt_130 (h : k + 1 < s.size) (ht : tagB (bN s k : Int) = true) (h1 : bN s (k + 1) = 130) :
    getAt s k = if s.size ≤ k + 3 then .bad 4 else if 256 * bN s (k + 2) + bN s (k + 3) < 256 then .bad 3 else if 4000 < 256 * bN s (k + 2) + bN s (k + 3) then .bad 3
      else bodyAt s (bN s k) (256 * bN s (k + 2) + bN s (k + 3)) (k + 4) := by
  rw [getAt, if_neg (by omega), if_neg (by simp [ht]), if_neg (by omega), if_neg (by omega), if_neg (by omega), if_pos h1]
end
theorem bodyAt_at {s : ByteArray} {t n f : Nat} (h : (bodyAt s t n f).code = 0) : f ≤ (bodyAt s t n f).at'.toNat ∧ (bodyAt s t n f).at'.toNat ≤ s.size ∧ 0 ≤ (bodyAt s t n f).at' := by
  unfold bodyAt at *
  split at h
  · simp [GetR.bad] at h
  · rename_i h1
    rw [if_neg h1]
    exact ⟨by simp; omega, by simp; omega, by simp; omega⟩
theorem getAt_cases (s : ByteArray) (k : Nat) : (∃ c, c ≠ 0 ∧ getAt s k = .bad c) ∨ ∃ n f, k + 2 ≤ f ∧ n ≤ 4000 ∧ getAt s k = bodyAt s (bN s k) n f ∧ tagB (bN s k : Int) = true := by
  have h2 := bN_lt s (k + 2)
  unfold getAt
  repeat' split
  all_goals first
    | exact .inl ⟨_, by decide, rfl⟩
    | exact .inr ⟨_, _, by omega, by omega, rfl, by simp_all⟩
/-- Where a thing is got, the place goes on, and stays in the text. -/
theorem getAt_at {s : ByteArray} {k : Nat} (h : (getAt s k).code = 0) : k + 2 ≤ (getAt s k).at'.toNat ∧ (getAt s k).at'.toNat ≤ s.size ∧ 0 ≤ (getAt s k).at' := by
  rcases getAt_cases s k with ⟨c, hc, e⟩ | ⟨n, f, hf, _, e, _⟩
  · rw [e] at h; exact absurd h hc
  · rw [e] at h ⊢
    have := bodyAt_at h
    omega
end Go.Proofs.YtjllcflnmopnpaaDoor
namespace Go.Proofs.YtjllcflnmopnpaaDoor
open Go.RowKit Go.Lib

theorem wpList_copy_str {P : Program} {w : World} {ops : Array Oper} {rest : List Oper} {o : Oper} {a : Act} {Q : Exit → Act → World → Prop} (hgd : o.guard = none) (d s : Operand) (dT sT : TypeId)
    (ho : o.op = .call { callee := .builtin .copy, args := #[d, s], argTypes := #[dT, sT] }) (elem : TypeId) (hu : P.underlying dT = some (.slice elem)) (hsz : (P.info? elem).map (·.size) = some 1)
    (dp : Option Addr) (dLen dCap : Nat) (str : ByteArray) (hd : a.eval d = .slice dp dLen dCap) (hs : a.eval s = .string str)
    (g off : Nat) (cur : List Value) (t : TypeId) (hg : w.heap[g]? = some (.cells cur.toArray t (0, 0))) (hpos : 0 < str.size → dp = some ⟨g, off, none⟩) (hle : str.size ≤ dLen) (hfit : off + str.size ≤ cur.length)
    (B : Nat) (w0 : World) (hb : Below B w0 w) (hBg : B ≤ g)
    (h : ∀ w', Hid (w'.heap[g]? = some (.cells (splice cur off (byteCells str.data.toList)).toArray t (0, 0))) → Below B w0 w' → w'.heap.size = w.heap.size → wpList P ops Q rest (a.put o.dst (goInt str.size)) w') :
    wpList P ops Q (o :: rest) a w := by
  have hl : (byteCells str.data.toList).length = str.size := by rw [byteCells_length, ← size_eq]
  refine wpList_plain hgd fun K hK => ?_
  by_cases h0 : str.size = 0
  · have hrun := run_copy_empty_string (P := P) w dT sT o.type elem dp dLen dCap str hu (by rw [hsz]; rfl) h0
    have hn : byteCells str.data.toList = [] := List.eq_nil_of_length_eq_zero (by omega)
    unfold Oper.wp
    simp [execOp, ho, resolve, invoke, builtin, hd, hs, hrun, Result.andThen]
    have := h w (show _ = _ by rw [hn]; simpa [splice] using hg) hb rfl
    rw [h0] at this
    exact hK _ _ this
  · obtain rfl := hpos (by omega)
    have hrun := run_copy_row_string (P := P) w dT sT o.type elem g off dLen dCap str cur.toArray t hu hsz hg hle (by simpa using hfit)
    unfold Oper.wp
    simp [execOp, ho, resolve, invoke, builtin, hd, hs, hrun, Result.andThen]
    refine hK _ _ (h _ (show _ = _ from ?_) (below_setRow hb hBg _) (by simp))
    have := setRow_heap w g cur.toArray ((cur.take off ++ byteCells str.data.toList ++ cur.drop (off + str.size)).toArray) t _ hg
    simpa [splice, hl] using this

/-- 'string(b)', b's row known by its bytes. -/
theorem run_convert_row {P : Program} {w : World} {src dst e g cap : Nat} {l : List UInt8} {rest : List Value} {t : TypeId} (hs : P.underlying src = some (.slice e)) (he : P.underlying e = some (.int .u8)) (hd : P.underlying dst = some .string)
    (hg : w.heap[g]? = some (.cells (byteCells l ++ rest).toArray t (0, 0))) : (convert src dst (.slice (some ⟨g, 0, none⟩) l.length cap)).run P w = .ok (.string ⟨l.toArray⟩) w := by
  refine run_convert_bytes_back w src dst e ⟨g, 0, none⟩ cap l hs he hd fun j hj => ?_
  rw [Addr.add_lit, Nat.zero_add, cell_of_row w g j _ t (0, 0) hg]
  simp [byteCells, List.getElem?_append_left, hj]
theorem ofBytes_append (a b : ByteArray) : (⟨(a.data.toList ++ b.data.toList).toArray⟩ : ByteArray) = a ++ b := by
  rw [← ByteArray.mk_append_mk]
/-- The row behind an owned slice. -/
theorem rowOf {w : World} {base e g n cap : Nat} {xs : List Value} (h : w.ownsRow base e 1 (.slice (some ⟨g, 0, none⟩) n cap) n xs) (hc : cap = n) :
    w.heap[g]? = some (.cells xs.toArray e (0, 0)) ∧ xs.length = n := by
  refine ⟨?_, by simpa using h.1⟩
  rcases h.2 with ⟨h', _⟩ | ⟨g', cap', cur, h', _, hg, _, _, hcs, htake⟩
  · simp at h'
  · simp only [Value.slice.injEq, Option.some.injEq, Addr.mk.injEq, and_true, true_and] at h'
    obtain ⟨rfl, rfl⟩ := h'
    rw [hg, ← htake, List.take_of_length_le (by rw [Array.length_toList, hcs, hc]; exact Nat.le_refl _)]
theorem splice_two {α : Type} (L A B : List α) (h : L.length = A.length + B.length) : splice (splice L 0 A) A.length B = A ++ B := by
  have e : splice L 0 A = A ++ L.drop A.length := by simp [splice]
  rw [e]
  unfold splice
  rw [List.take_left, List.drop_eq_nil_of_le (by simp; omega)]
  simp
theorem splice_one {α : Type} (L A : List α) (h : L.length = A.length) : splice L 0 A = A := by
  unfold splice
  rw [List.drop_eq_nil_of_le (by omega)]
  simp
end Go.Proofs.YtjllcflnmopnpaaDoor
namespace Go.Proofs.YtjllcflnmopnpaaDoor
open Go.RowKit

theorem infoByte : (Tryd.prog.info? 5).map (fun i => (i.zero, i.size, i.bytes)) = some (some (.int .u8 0), 1, 1) := by kernel_rfl
theorem byteSize : (Tryd.prog.info? 5).map (·.size) = some 1 := by kernel_rfl
theorem ret_int {k : IntKind} {a b : Int} (h : a = b) : Ending.returned (.int k a) = .returned (.int k b) := by rw [h]
theorem u8_lt (c : UInt8) : (c.toNat : Int) ≤ 255 := by have := c.toNat_lt; omega
/-- A TextOut as a value. -/
def outV (t : ByteArray) (at' code : Int) : Value := .agg #[.string t, .int .i64 at', .int .i64 code]
end Go.Proofs.YtjllcflnmopnpaaDoor
namespace Go.Proofs.YtjllcflnmopnpaaDoor
open Go.RowKit Go.Lib

/-- The table's byte at the top of a number. -/
theorem lenTop (x y : Int) (k : Nat) (hx0 : 0 ≤ x) (hx : x < 18446744073709551616) (hy : y = x / 2 ^ k) (hy1 : y ≤ 255) (hk : (2 : Int) ^ k ≤ x ∨ k = 0) : (k : Int) + Lib.len8 y = (Lib.bitLen x.toNat : Int) := by
  have hp : (0 : Int) < 2 ^ k := Int.pow_pos (by decide)
  have hy0 : 0 ≤ y := by rw [hy]; exact Int.ediv_nonneg hx0 (Int.le_of_lt hp)
  rw [Lib.len8_of y hy0 hy1]
  have e : y.toNat = x.toNat / 2 ^ k := by
    obtain ⟨n, rfl⟩ := Int.eq_ofNat_of_zero_le hx0
    rw [hy]
    have : ((n : Int) / 2 ^ k) = ((n / 2 ^ k : Nat) : Int) := by simp
    rw [this]; rfl
  rcases hk with hk | rfl
  · have h2 : 2 ^ k ≤ x.toNat := by
      obtain ⟨n, rfl⟩ := Int.eq_ofNat_of_zero_le hx0
      have : ((2 ^ k : Nat) : Int) ≤ (n : Int) := by simpa using hk
      show 2 ^ k ≤ n
      exact_mod_cast this
    have h3 : x.toNat < 2 ^ 64 := by
      have : (2 : Nat) ^ 64 = 18446744073709551616 := by decide
      omega
    rw [e, Lib.bitLen_shift k x.toNat h2 h3]
    omega
  · rw [e]; simp
theorem tabAt (y : Int) (h : y.toNat < len8tab.size) : (len8tab[y.toNat].toNat : Int) = Lib.len8 y := by
  unfold Lib.len8
  rw [getElem?_pos len8tab y.toNat h]; rfl
theorem lenGoal (x y : Int) (k : Nat) (h : y.toNat < len8tab.size) (hx0 : 0 ≤ x) (hx : x < 18446744073709551616) (hy : y = x / 2 ^ k) (hy1 : y ≤ 255) (hk : (2 : Int) ^ k ≤ x ∨ k = 0) :
    wrap64 ((k : Int) + wrap64 (len8tab[y.toNat].toNat : Int)) = (Lib.bitLen x.toNat : Int) := by
  have e := lenTop x y k hx0 hx hy hy1 hk
  have l := Lib.bitLen_le x.toNat 64 (by omega) (by have : (2 : Nat) ^ 64 = 18446744073709551616 := by decide
                                                    omega)
  rw [tabAt y h]
  have b : 0 ≤ Lib.len8 y := by unfold Lib.len8; omega
  have w1 : wrap64 (Lib.len8 y) = Lib.len8 y := by unfold wrap64; omega
  rw [w1]
  unfold wrap64
  omega
set_option maxHeartbeats 4000000 in
set_option maxRecDepth 100000 in
theorem len64 (x : Int) (w : World) (h0 : 0 ≤ x) (h1 : x ≤ 18446744073709551615) :
    Calls Tryd.prog 69 #[.int .u64 x] w fun e w' => e = .returned (.int .i64 (Lib.bitLen x.toNat : Int)) ∧ w' = w := by
  have hts : (len8tab.size : Int) = 256 := by rw [len8tab_size]; rfl
  go_enter Tryd.func69, Tryd.ntmps69
  go_wp2
  all_goals
    go_ret
    refine ⟨ret_int ?_, rfl⟩
    first
      | exact lenGoal x _ 56 (by omega) h0 (by omega) (by omega) (by omega) (by omega)
      | exact lenGoal x _ 48 (by omega) h0 (by omega) (by omega) (by omega) (by omega)
      | exact lenGoal x _ 40 (by omega) h0 (by omega) (by omega) (by omega) (by omega)
      | exact lenGoal x _ 32 (by omega) h0 (by omega) (by omega) (by omega) (by omega)
      | exact lenGoal x _ 24 (by omega) h0 (by omega) (by omega) (by omega) (by omega)
      | exact lenGoal x _ 16 (by omega) h0 (by omega) (by omega) (by omega) (by omega)
      | exact lenGoal x _ 8 (by omega) h0 (by omega) (by omega) (by omega) (by omega)
      | (have e := lenGoal x x 0 (by omega) h0 (by omega) (by simp) (by omega) (.inr rfl)
         rw [← e]
         simp)
theorem lenUint (x : Int) (w : World) (h0 : 0 ≤ x) (h1 : x ≤ 18446744073709551615) :
    Calls Tryd.prog 75 #[.int .u64 x] w fun e w' => e = .returned (.int .i64 (Lib.bitLen x.toNat : Int)) ∧ w' = w := by
  go_enter Tryd.func75, Tryd.ntmps75
  go_wp2_with fail
  refine (len64 x _ h0 h1).mono ?_
  rintro e w' ⟨rfl, rfl⟩
  go_wp2
  go_ret
  exact ⟨rfl, rfl⟩
end Go.Proofs.YtjllcflnmopnpaaDoor
namespace Go.Proofs.YtjllcflnmopnpaaDoor
open Go.RowKit Go.Lib

/-- How many bytes a length needs behind the first one. -/
def moreL (n : Nat) : Nat := if n < 128 then 0 else if n < 256 then 1 else 2
theorem bitLen_top {x k : Nat} (h0 : 2 ^ k ≤ x) (h1 : x < 2 ^ (k + 1)) (hk : k < 64) : Lib.bitLen x = k + 1 := by
  have hx : x < 2 ^ 64 := Nat.lt_of_lt_of_le h1 (Nat.pow_le_pow_right (by omega) (by omega))
  rw [Lib.bitLen_shift k x h0 hx]
  have e : x / 2 ^ k = 1 := by
    have := Nat.two_pow_pos k
    have a : 1 ≤ x / 2 ^ k := (Nat.le_div_iff_mul_le this).2 (by omega)
    have b : x / 2 ^ k < 2 := (Nat.div_lt_iff_lt_mul this).2 (by rw [Nat.pow_succ] at h1; omega)
    omega
  rw [e]
  have : Lib.bitLen 1 = 1 := by decide
  omega
theorem moreL_bits {n : Nat} (h0 : 128 ≤ n) (h1 : n < 65536) : (Lib.bitLen n + 7) / 8 = moreL n := by
  unfold moreL
  rw [if_neg (by omega)]
  split
  · rw [bitLen_top (k := 7) (by omega) (by omega) (by omega)]
  · have l := Lib.bitLen_le n 16 (by omega) (by omega)
    have g := Lib.bitLen_shift 8 n (by omega) (by omega)
    have g1 : 1 ≤ Lib.bitLen (n / 2 ^ 8) := by
      have := Lib.bitLen_half (n / 2 ^ 8) (by omega) (by omega)
      omega
    omega
set_option maxRecDepth 100000 in
theorem lengthBytes (n : Nat) (w : World) (h : n < 65536) :
    Calls Tryd.prog 71 #[.int .i64 (n : Int)] w fun e w' => e = .returned (.int .i64 (moreL n : Int)) ∧ w' = w := by
  by_cases h1 : n < 128
  · have HF : Hid (moreL n = 0) := if_pos h1
    go_enter Tryd.func71, Tryd.ntmps71
    go_wp2
    go_ret
    exact ⟨by rw [HF.out]; rfl, rfl⟩
  · have HF : Hid ((Lib.bitLen n + 7) / 8 = moreL n) := moreL_bits (by omega) h
    have l := Lib.bitLen_le n 16 (by omega) (by omega)
    go_enter Tryd.func71, Tryd.ntmps71
    go_wp2_with fail
    refine (lenUint _ _ (by omega) (by omega)).mono ?_
    rintro e w' ⟨rfl, rfl⟩
    rw [show ((n : Int).toNat) = n from rfl]
    generalize Lib.bitLen n = c at *
    go_wp2
    go_ret
    exact ⟨ret_int (by rw [← HF.out]; omega), rfl⟩
end Go.Proofs.YtjllcflnmopnpaaDoor
namespace Go.Proofs.YtjllcflnmopnpaaDoor
open Go.RowKit

theorem rowFacts {w : World} {g : Nat} {cs : List Value} {t : TypeId} (hg : w.heap[g]? = some (.cells cs.toArray t (0, 0))) (j : Nat) (v : Value) (hj : cs[j]? = some v) : w.cell? ⟨g, j, none⟩ = some v := by
  rw [cell_of_row w g j _ t (0, 0) hg]; simpa using hj
theorem rowSet {w : World} {g i : Nat} {cs : List Value} {t : TypeId} (v : Value) (hg : w.heap[g]? = some (.cells cs.toArray t (0, 0))) : (w.setCell ⟨g, i, none⟩ v).heap[g]? = some (.cells (cs.set i v).toArray t (0, 0)) := by
  rw [heap_setCell_same w g i _ t v hg]; simp
theorem heap_alloc2 (w : World) (a b : Obj) : ((w.alloc a).alloc b).heap[w.heap.size + 1]? = some b := by
  have := heap_alloc_new (w.alloc a) b
  simpa using this
theorem below_setCells {B g : Nat} {w0 : World} (hB : B ≤ g) : ∀ (vs : List Value) (o : Nat) (w : World), Below B w0 w → Below B w0 (w.setCells g o vs)
  | [], _, _, h => h
  | v :: r, o, _, h => below_setCells hB r (o + 1) _ (h.setCell hB v)
theorem rangeRow {w : World} {g : Nat} {cs : List Value} {t : TypeId} (hg : w.heap[g]? = some (.cells cs.toArray t (0, 0))) : w.rangeAt g 0 cs := fun j v hv => by
  rw [Nat.zero_add]; exact rowFacts hg j v hv
theorem thereRow {w : World} {g : Nat} {cs : List Value} {t : TypeId} (hg : w.heap[g]? = some (.cells cs.toArray t (0, 0))) : w.there g 0 cs.length := fun j hj => by
  rw [Nat.zero_add]
  exact ⟨by rw [rowFacts hg j _ (List.getElem?_eq_getElem hj)]; rfl, frozen_of_row w g j _ t hg⟩
end Go.Proofs.YtjllcflnmopnpaaDoor
namespace Go.Proofs.YtjllcflnmopnpaaDoor
open Go.RowKit Go.Lib

theorem madeN (n : Nat) : (madeCells #[Value.int .u8 0] n).toList = List.replicate n (.int .u8 0) := by
  simp [madeCells, Nat.mod_one, List.map_const']
theorem made2 : (madeCells #[Value.int .u8 0] 2).toList = [.int .u8 0, .int .u8 0] := madeN 2
theorem made3 : (madeCells #[Value.int .u8 0] 3).toList = [.int .u8 0, .int .u8 0, .int .u8 0] := madeN 3
/-- 'string(b)' of a row that is known whole. -/
theorem convertRow (w : World) (g : Nat) (xs : List Int) (T n c : Nat) (hn : xs.length = n) (h : w.heap[g]? = some (.cells (xs.map (Value.int .u8)).toArray T (0, 0))) :
    (convert 22 9 (.slice (some ⟨g, 0, none⟩) n c)).run Tryd.prog w = .ok (.string (strOfNums xs)) w := by
  refine run_convert_bytes_arg _ 22 5 Tryd.underlying22 Tryd.underlying5 g 0 n c xs hn ?_ 9 Tryd.underlying9
  intro i hi
  rw [Nat.zero_add, cell_of_row _ _ i _ T (0, 0) h]
  have hi' : i < xs.length := by omega
  simp [hi', List.getD]
end Go.Proofs.YtjllcflnmopnpaaDoor
namespace Go.Proofs.YtjllcflnmopnpaaDoor
open Go.RowKit Go.Lib

set_option maxHeartbeats 1000000 in
set_option maxRecDepth 100000 in
theorem putLength (n : Nat) (w : World) (h : n ≤ 4000) :
    Calls Tryd.prog 57 #[.int .i64 (n : Int)] w fun e w' => e = .returned (.string (strOfNums (lenD n))) ∧ Below w.heap.size w w' := by
  obtain ⟨i0, hi, hz0, hz1, hz2⟩ := info_parts infoByte
  go_enter Tryd.func57, Tryd.ntmps57
  go_wp2_with fail
  refine (lengthBytes n _ (by omega)).mono ?_
  rintro e w' ⟨rfl, rfl⟩
  by_cases c1 : n < 128
  · have hm : moreL n = 0 := if_pos c1
    have HF : Hid (lenD n = [(n : Int)]) := by unfold Hid lenD; rw [if_pos c1]
    have hcv := convertRow (w'.alloc (.cells #[.int .u8 (n : Int)] 5 (0, 0))) w'.heap.size [(n : Int)] 5 1 1 rfl (heap_alloc_new _ _)
    rw [hm]
    go_wp2
    go_ret
    exact ⟨by rw [HF.out]; rfl, (Below.refl _ _).alloc (Nat.le_refl _) _⟩
  · by_cases c2 : n < 256
    · have hm : moreL n = 1 := by rw [moreL, if_neg c1, if_pos c2]
      have HF : Hid (lenD n = [129, (n : Int)]) := by unfold Hid lenD; rw [if_neg c1, if_pos c2]
      rw [hm]
      go_wp2_with (at_make; refine wpList_make_full _ rfl _ _ 22 rfl w'.heap.size 5 i0 (.int .u8 0) 1 Tryd.underlying22 hi hz0 hz1 .i64 .i64 _ _ 2 rfl rfl ?c1 ?c2 ?c3 ?c4 ?c5 ?_)
      case c1 => omega
      case c2 => omega
      case c3 => rw [hz2]; omega
      case c4 => unfold maxLen; omega
      case c5 => exact Nat.le_refl _
      intro w1 hown hgrow
      have hrow : w1.heap[w'.heap.size]? = some (.cells [Value.int .u8 0, .int .u8 0].toArray 5 (0, 0)) := by rw [(rowOf hown rfl).1, made2]
      have hB1 : Below w'.heap.size w' w1 := (Below.refl _ w').grown hgrow (Nat.le_refl _) (fun k hk => by cases hk)
      have r0 := rowFacts hrow 0 _ rfl
      have r1 := rowFacts hrow 1 _ rfl
      have f0 := frozen_of_row w1 w'.heap.size 0 _ 5 hrow
      have f1 := frozen_of_row w1 w'.heap.size 1 _ 5 hrow
      have hcv := convertRow _ w'.heap.size [129, (n : Int)] 5 2 2 rfl (rowSet (i := 1) (.int .u8 (n : Int)) (rowSet (i := 0) (.int .u8 129) hrow))
      have HB : Hid (∀ a b, Below w'.heap.size w' ((w1.setCell ⟨w'.heap.size, 0, none⟩ a).setCell ⟨w'.heap.size, 1, none⟩ b)) := fun a b => (hB1.setCell (Nat.le_refl _) a).setCell (Nat.le_refl _) b
      clear hown hgrow hrow hB1
      go_wp2_with fail
      refine wp_loop_rounds 2 ?_
      rw [rounds_succ]
      go_wp2
      rw [rounds_succ]
      go_wp2
      go_ret
      exact ⟨by rw [HF.out]; rfl, HB.out _ _⟩
    · have hm : moreL n = 2 := by rw [moreL, if_neg c1, if_neg c2]
      have HF : Hid (lenD n = [130, (n : Int) / 256, (n : Int) % 256]) := by unfold Hid lenD; rw [if_neg c1, if_neg c2]; simp
      rw [hm]
      go_wp2_with (at_make; refine wpList_make_full _ rfl _ _ 22 rfl w'.heap.size 5 i0 (.int .u8 0) 1 Tryd.underlying22 hi hz0 hz1 .i64 .i64 _ _ 3 rfl rfl ?c1 ?c2 ?c3 ?c4 ?c5 ?_)
      case c1 => omega
      case c2 => omega
      case c3 => rw [hz2]; omega
      case c4 => unfold maxLen; omega
      case c5 => exact Nat.le_refl _
      intro w1 hown hgrow
      have hrow : w1.heap[w'.heap.size]? = some (.cells [Value.int .u8 0, .int .u8 0, .int .u8 0].toArray 5 (0, 0)) := by rw [(rowOf hown rfl).1, made3]
      have hB1 : Below w'.heap.size w' w1 := (Below.refl _ w').grown hgrow (Nat.le_refl _) (fun k hk => by cases hk)
      have r0 := rowFacts hrow 0 _ rfl
      have r1 := rowFacts hrow 1 _ rfl
      have r2 := rowFacts hrow 2 _ rfl
      have f0 := frozen_of_row w1 w'.heap.size 0 _ 5 hrow
      have f1 := frozen_of_row w1 w'.heap.size 1 _ 5 hrow
      have f2 := frozen_of_row w1 w'.heap.size 2 _ 5 hrow
      have hcv := convertRow _ w'.heap.size [130, (n : Int) / 256, (n : Int) % 256] 5 3 3 rfl (rowSet (i := 1) (.int .u8 ((n : Int) / 256)) (rowSet (i := 2) (.int .u8 ((n : Int) % 256)) (rowSet (i := 0) (.int .u8 130) hrow)))
      have HB : Hid (∀ a b c, Below w'.heap.size w' (((w1.setCell ⟨w'.heap.size, 0, none⟩ a).setCell ⟨w'.heap.size, 2, none⟩ b).setCell ⟨w'.heap.size, 1, none⟩ c)) := fun a b c => ((hB1.setCell (Nat.le_refl _) a).setCell (Nat.le_refl _) b).setCell (Nat.le_refl _) c
      clear hown hgrow hrow hB1
      go_wp2_with fail
      refine wp_loop_rounds 3 ?_
      rw [rounds_succ]
      go_wp2
      rw [rounds_succ]
      go_wp2
      rw [rounds_succ]
      go_wp2
      go_ret
      exact ⟨by rw [HF.out]; rfl, HB.out _ _ _⟩
end Go.Proofs.YtjllcflnmopnpaaDoor
namespace Go.Proofs.YtjllcflnmopnpaaDoor
open Go.RowKit Go.Lib

/-- 'string(b)' of a row that was just laid. -/
theorem convertLit (w : World) (cs : Array Value) (xs : List Int) (hc : cs = (xs.map (Value.int .u8)).toArray) (n : Nat) (hn : xs.length = n) (T : Nat) :
    (convert 22 9 (.slice (some ⟨w.heap.size, 0, none⟩) n n)).run Tryd.prog (w.alloc (.cells cs T (0, 0))) = .ok (.string (strOfNums xs)) (w.alloc (.cells cs T (0, 0))) := by
  subst hc
  refine run_convert_bytes_arg _ 22 5 Tryd.underlying22 Tryd.underlying5 w.heap.size 0 n n xs hn ?_ 9 Tryd.underlying9
  intro i hi
  rw [Nat.zero_add, cell_of_row _ _ i _ T (0, 0) (heap_alloc_new w _)]
  have hi' : i < xs.length := by omega
  simp [hi', List.getD]
theorem convertLit2 (w : World) (o : Obj) (cs : Array Value) (xs : List Int) (hc : cs = (xs.map (Value.int .u8)).toArray) (n : Nat) (hn : xs.length = n) (T : Nat) :
    (convert 22 9 (.slice (some ⟨w.heap.size + 1, 0, none⟩) n n)).run Tryd.prog ((w.alloc o).alloc (.cells cs T (0, 0))) = .ok (.string (strOfNums xs)) ((w.alloc o).alloc (.cells cs T (0, 0))) := by
  have h := convertLit (w.alloc o) cs xs hc n hn T
  simpa using h
theorem strJoin_eq (t : Int) (b : ByteArray) (l : List Int) (h : lenD b.size = l) : strOfNums (t :: l) ++ b = thingD t b := by rw [thingD, headD, h]
set_option maxHeartbeats 1000000 in
set_option maxRecDepth 100000 in
theorem specThing (t : Int) (b : ByteArray) (w : World) (h0 : 0 ≤ t) (h1 : t ≤ 255) (hb : b.size ≤ 20000) :
    Calls Tryd.prog 34 #[.int .i64 t, .string b] w fun e w' => e = .returned (.string (thingD t b)) ∧ Below w.heap.size w w' := by
  by_cases c1 : b.size < 128
  · have hcv := convertLit w #[.int .u8 t, .int .u8 (b.size : Int)] [t, (b.size : Int)] rfl 2 rfl 5
    have hsz : (strOfNums [t, (b.size : Int)]).size = 2 := by rw [strOfNums_size]; rfl
    have HF : Hid (strOfNums [t, (b.size : Int)] ++ b = thingD t b) := strJoin_eq _ _ _ (by rw [lenD, if_pos c1])
    generalize strOfNums [t, (b.size : Int)] = s at *
    go_enter Tryd.func34, Tryd.ntmps34
    go_wp2
    go_ret
    exact ⟨by rw [← HF.out]; rfl, (Below.refl _ _).alloc (Nat.le_refl _) _⟩
  by_cases c2 : b.size < 256
  · have hcv := fun o => convertLit2 w o #[.int .u8 t, .int .u8 129, .int .u8 (b.size : Int)] [t, 129, (b.size : Int)] rfl 3 rfl 5
    have hsz : (strOfNums [t, 129, (b.size : Int)]).size = 3 := by rw [strOfNums_size]; rfl
    have HF : Hid (strOfNums [t, 129, (b.size : Int)] ++ b = thingD t b) := strJoin_eq _ _ _ (by rw [lenD, if_neg c1, if_pos c2])
    generalize strOfNums [t, 129, (b.size : Int)] = s at *
    go_enter Tryd.func34, Tryd.ntmps34
    go_wp2
    go_ret
    exact ⟨by rw [← HF.out]; rfl, ((Below.refl _ _).alloc (Nat.le_refl _) _).alloc (by simp) _⟩
  · have hcv := fun o => convertLit2 w o #[.int .u8 t, .int .u8 130, .int .u8 ((b.size : Int) / 256), .int .u8 ((b.size : Int) % 256)] [t, 130, (b.size : Int) / 256, (b.size : Int) % 256] rfl 4 rfl 5
    have hsz : (strOfNums [t, 130, (b.size : Int) / 256, (b.size : Int) % 256]).size = 4 := by rw [strOfNums_size]; rfl
    have HF : Hid (strOfNums [t, 130, (b.size : Int) / 256, (b.size : Int) % 256] ++ b = thingD t b) := strJoin_eq _ _ _ (by rw [lenD, if_neg c1, if_neg c2]; simp)
    generalize strOfNums [t, 130, (b.size : Int) / 256, (b.size : Int) % 256] = s at *
    go_enter Tryd.func34, Tryd.ntmps34
    go_wp2
    go_ret
    exact ⟨by rw [← HF.out]; rfl, ((Below.refl _ _).alloc (Nat.le_refl _) _).alloc (by simp) _⟩
end Go.Proofs.YtjllcflnmopnpaaDoor
namespace Go.Proofs.YtjllcflnmopnpaaDoor
open Go.RowKit Go.Lib

theorem as00 (a : Int) (b : ByteArray) (w : World) : (Instr.typeAssert (.iface 60 (.agg #[.int .i64 a, .string b])) 91 75 true).run Tryd.prog w = .ok (.tuple #[.agg #[.int .i64 0], .bool false]) w := by kernel_rfl
theorem as01 (a : Int) (b : ByteArray) (w : World) : (Instr.typeAssert (.iface 60 (.agg #[.int .i64 a, .string b])) 91 78 true).run Tryd.prog w = .ok (.tuple #[.agg #[.slice none 0 0], .bool false]) w := by kernel_rfl
theorem as02 (a : Int) (b : ByteArray) (w : World) : (Instr.typeAssert (.iface 60 (.agg #[.int .i64 a, .string b])) 91 60 true).run Tryd.prog w = .ok (.tuple #[.agg #[.int .i64 a, .string b], .bool true]) w := by kernel_rfl
theorem as10 (a : Int) (w : World) : (Instr.typeAssert (.iface 75 (.agg #[.int .i64 a])) 91 75 true).run Tryd.prog w = .ok (.tuple #[.agg #[.int .i64 a], .bool true]) w := by kernel_rfl
theorem as20 (a : Value) (w : World) : (Instr.typeAssert (.iface 78 (.agg #[a])) 91 75 true).run Tryd.prog w = .ok (.tuple #[.agg #[.int .i64 0], .bool false]) w := by kernel_rfl
theorem as21 (a : Value) (w : World) : (Instr.typeAssert (.iface 78 (.agg #[a])) 91 78 true).run Tryd.prog w = .ok (.tuple #[.agg #[a], .bool true]) w := by kernel_rfl
end Go.Proofs.YtjllcflnmopnpaaDoor
namespace Go.Proofs.YtjllcflnmopnpaaDoor
open Go.RowKit Go.Lib


set_option maxHeartbeats 1000000 in
set_option maxRecDepth 100000 in
theorem joinTexts (a b : ByteArray) (w : World) (ha : a.size ≤ 1000000) (hb : b.size ≤ 1000000) :
    Calls Tryd.prog 55 #[.string a, .string b] w fun e w' => e = .returned (.string (a ++ b)) ∧ Below w.heap.size w w' := by
  obtain ⟨i0, hi, hz0, hz1, hz2⟩ := info_parts infoByte
  go_enter Tryd.func55, Tryd.ntmps55
  go_wp2_with (at_make; refine wpList_make_full _ rfl _ _ 22 rfl w.heap.size 5 i0 (.int .u8 0) 1 Tryd.underlying22 hi hz0 hz1 .i64 .i64 _ _ (a.size + b.size) rfl rfl ?c1 ?c2 ?c3 ?c4 ?c5 ?_)
  case c1 => omega
  case c2 => omega
  case c3 => rw [hz2]; omega
  case c4 => unfold maxLen; omega
  case c5 => exact Nat.le_refl _
  intro w1 hown hgrow
  obtain ⟨hrow, hlen⟩ := rowOf hown rfl
  have hB1 : Below w.heap.size w w1 := (Below.refl _ w).grown hgrow (Nat.le_refl _) (fun k hk => by cases hk)
  generalize (madeCells #[Value.int IntKind.u8 0] (a.size + b.size)).toList = L at hrow hlen
  have la : (byteCells a.data.toList).length = a.size := by rw [byteCells_length, ← size_eq]
  have lb : (byteCells b.data.toList).length = b.size := by rw [byteCells_length, ← size_eq]
  clear hown hgrow
  go_wp2_with (refine wpList_copy_str rfl (.tmp 12) (.tmp 13) 22 9 rfl 5 Tryd.underlying22 byteSize _ _ _ a rfl rfl w.heap.size 0 L 5 hrow (fun _ => rfl) ?d2 ?d3 w.heap.size w hB1 (Nat.le_refl _) ?_)
  case d2 => omega
  case d3 => omega
  intro w2 H2 hB2 hs2
  have hlen2 : (splice L 0 (byteCells a.data.toList)).length = a.size + b.size := by rw [length_splice _ _ _ (by omega)]; exact hlen
  have HF : Hid (∀ w3 : World, w3.heap[w.heap.size]? = some (.cells (splice (splice L 0 (byteCells a.data.toList)) a.size (byteCells b.data.toList)).toArray 5 (0, 0)) →
      (convert 22 9 (.slice (some ⟨w.heap.size, 0, none⟩) (a.size + b.size) (a.size + b.size))).run Tryd.prog w3 = .ok (.string (a ++ b)) w3) := by
    intro w3 h3
    have e := splice_two L (byteCells a.data.toList) (byteCells b.data.toList) (by omega)
    rw [la] at e
    rw [e] at h3
    have h4 : w3.heap[w.heap.size]? = some (.cells (byteCells (a.data.toList ++ b.data.toList) ++ []).toArray 5 (0, 0)) := by simpa [byteCells] using h3
    have := run_convert_row (P := Tryd.prog) (src := 22) (dst := 9) (cap := a.size + b.size) Tryd.underlying22 Tryd.underlying5 Tryd.underlying9 h4
    rw [List.length_append, ← size_eq, ← size_eq, ofBytes_append] at this
    exact this
  clear hrow hB1 hs2 la lb hlen
  by_cases hb0 : b = ByteArray.empty
  · subst hb0
    go_wp2_with (refine wpList_copy_str rfl (.tmp 18) (.tmp 19) 22 9 rfl 5 Tryd.underlying22 byteSize _ _ _ ByteArray.empty rfl rfl w.heap.size a.size (splice L 0 (byteCells a.data.toList)) 5 H2.out ?e1 ?e2 ?e3 w.heap.size w hB2 (Nat.le_refl _) ?_)
    case e1 => intro h; simp at h
    case e2 => simp
    case e3 => simp; omega
    intro w3 H3 hB3 _
    have hcv := HF.out w3 H3.out
    simp only [ByteArray.size_empty, Nat.add_zero] at hcv
    clear hlen2 H2 hB2
    go_wp2
    go_ret
    exact ⟨by simp, hB3⟩
  · go_wp2_with (refine wpList_copy_str rfl (.tmp 18) (.tmp 19) 22 9 rfl 5 Tryd.underlying22 byteSize _ _ _ b rfl rfl w.heap.size a.size (splice L 0 (byteCells a.data.toList)) 5 H2.out ?f1 ?f2 ?f3 w.heap.size w hB2 (Nat.le_refl _) ?_)
    case f2 => exact Nat.le_refl _
    case f3 => omega
    intro w3 H3 hB3 _
    have hcv := HF.out w3 H3.out
    clear hlen2 H2 hB2
    go_wp2
    go_ret
    exact ⟨rfl, hB3⟩
end Go.Proofs.YtjllcflnmopnpaaDoor
