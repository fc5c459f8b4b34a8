/- Plain mathematics of numbers in bytes: no program is named here. 'copy(b[i:], s)' of a string into a row that the call owns; 'string(b)' of such a row by its bytes. No program is named. Small facts on the program's types, shared by the walks. impl.tooLong, walked. Rows that are known whole. No program is named. What the program's table of types says of int64. Plain mathematics of SHA-256: no program is named here. A text taken in parts is the text taken as a whole: plain mathematics, no program is named here. The turning of a word, walked: spec.l02Turn, bits.RotateLeft32, impl.turnRight. One round, walked: (*hashState).turn. -/
import Derived.WalkKit
import Derived.WalkSpells
import Derived.WalkLawsBesides
import Derived.Laws.BytesArg
import Derived.Below
import Derived.Laws.CopyOwn
import Derived.Laws.IdiomStrings
import Derived.Lib.BufferWrite
import Derived.Test.YthhmobjphloahagDoorRows
import Derived.Deep.MidRow
import Derived.Laws.BitsAllLaws
import Derived.Handy
import Derived.Deep.QuietTactic
import Derived.BigQuiet
namespace Go.Proofs.YthhmobjphloahagDoor
open Go.RowKit

/-- The bytes of a number, the lowest seven bits first; f rounds at most. -/
def putF : Nat → Nat → List Int
  | 0, x => [(x : Int)]
  | f + 1, x => if x < 128 then [(x : Int)] else ((x % 128 + 128 : Nat) : Int) :: putF f (x / 128)
def pw : Nat → Nat
  | 0 => 128
  | f + 1 => 128 * pw f
theorem pw9 : pw 9 = 1180591620717411303424 := by decide
theorem pw_step {f x : Nat} (h : x < pw f) (h1 : 128 ≤ x) : ∃ g, f = g + 1 ∧ x / 128 < pw g := by
  cases f with
  | zero => simp [pw] at h; omega
  | succ g => exact ⟨g, rfl, by simp only [pw] at h; omega⟩
theorem putF_more {f x : Nat} (h : 128 ≤ x) : putF (f + 1) x = ((x % 128 + 128 : Nat) : Int) :: putF f (x / 128) := by
  rw [putF, if_neg (by omega)]
theorem putF_last {f x : Nat} (h : x < 128) : putF f x = [(x : Int)] := by
  cases f with
  | zero => rfl
  | succ g => rw [putF, if_pos h]
/-- A number's sign in its lowest bit. -/
def foldI (n : Int) : Nat := if n < 0 then (-2 * n - 1).toNat else (2 * n).toNat

/-- 'string(b)' of a row that the call owns. -/
theorem run_convert_own {P : Program} {w : World} {base src dst e n : Nat} {v : Value} {xs : List Int} (hs : P.underlying src = some (.slice e)) (he : P.underlying e = some (.int .u8)) (hd : P.underlying dst = some .string)
    (hown : w.ownsRow base e 1 v n (xs.map (Value.int .u8))) : (convert src dst v).run P w = .ok (.string (strOfNums xs)) w := by
  have hl := hown.1
  simp only [List.length_map, Nat.mul_one] at hl
  have hown0 := hown
  rcases hown.2 with ⟨rfl, rfl⟩ | ⟨g, cap, cur, rfl, hbg, hg, hnc, hcm, hcs, htake⟩
  · obtain rfl : xs = [] := List.eq_nil_of_length_eq_zero hl
    exact run_convert_bytes_nil w src e hs he 0 0 dst hd
  · refine run_convert_bytes_arg w src e hs he g 0 n cap xs hl ?_ dst hd
    intro i hi
    rw [Nat.zero_add, hown0.cellAt i (by omega)]
    have hi' : i < xs.length := by omega
    simp [hi', List.getD]
/-- One block more, then a block that is grown: an owned row's step. -/
theorem cells_one {w : World} {b : Nat} {x : Value} (h : w.cell? ⟨b, 0, none⟩ = some x) : ∀ j u, [x][j]? = some u → w.cell? ((⟨b, 0, none⟩ : Addr).add j) = some u := by
  intro j u hj
  match j, hj with
  | 0, hj => simp at hj; subst hj; simpa [Addr.add] using h
theorem oneCell_ints (k : IntKind) (zs : List Int) : ∀ u ∈ zs.map (Value.int k), u.oneCell' = true := ints_oneCell k zs
theorem nat_xor_all (a : Nat) (h : a < 18446744073709551616) : a ^^^ 18446744073709551615 = 18446744073709551615 - a := by
  have e := congrArg BitVec.toNat (BitVec.xor_allOnes (x := BitVec.ofNat 64 a))
  simp only [BitVec.toNat_xor, BitVec.toNat_ofNat, BitVec.toNat_allOnes, BitVec.toNat_not] at e
  rw [Nat.mod_eq_of_lt (by omega)] at e
  simpa using e
theorem fold_bits_neg (n : Int) (h0 : -9223372036854775808 ≤ n) (hn : n < 0) :
    bits BinOp.xor IntKind.u64 (IntKind.u64.wrap (IntKind.u64.wrap n * 2)) (IntKind.u64.wrap (n / 9223372036854775808)) = (foldI n : Int) := by
  have e1 : IntKind.u64.wrap (IntKind.u64.wrap n * 2) = 2 * n + 18446744073709551616 := by simp only [IntKind.wrap_u64]; omega
  have e2 : IntKind.u64.wrap (n / 9223372036854775808) = 18446744073709551615 := by simp only [IntKind.wrap_u64]; omega
  rw [e1, e2, u64_xor _ _ (by omega) (by omega) (by omega) (by omega)]
  have e3 : (18446744073709551615 : Int).toNat = 18446744073709551615 := by omega
  rw [e3, nat_xor_all _ (by omega)]
  unfold foldI
  rw [if_pos hn]
  omega
theorem fold_bits_pos (n : Int) (h1 : n ≤ 9223372036854775807) (hn : 0 ≤ n) :
    bits BinOp.xor IntKind.u64 (n * 2) (n / 9223372036854775808) = (foldI n : Int) := by
  have e2 : n / 9223372036854775808 = 0 := by omega
  rw [e2, u64_xor _ _ (by omega) (by omega) (by omega) (by omega)]
  have e3 : (0 : Int).toNat = 0 := rfl
  rw [e3, Nat.xor_zero]
  unfold foldI
  rw [if_neg (by omega)]
  omega
theorem or128_small : ∀ b : Fin 256, (b.val ||| 128) = b.val % 128 + 128 := by decide +kernel
theorem or128 (x : Nat) : bits BinOp.or IntKind.u8 ((x : Int) % 256) 128 = (x : Int) % 128 + 128 := by
  rw [u8_or _ _ (by omega) (by omega) (by omega) (by omega)]
  have h := or128_small ⟨x % 256, Nat.mod_lt _ (by omega)⟩
  have e : ((x : Int) % 256).toNat = x % 256 := by omega
  have e2 : (128 : Int).toNat = 128 := rfl
  rw [e, e2]
  simp only at h
  rw [h]
  omega
theorem set_reads {L : List Value} {xs : List Int} {y : Int} (hL : xs.length < L.length) (h : ∀ j, j < xs.length → L[j]? = some (.int .u8 (xs.getD j 0))) :
    ∀ j, j < (xs ++ [y]).length → (L.set xs.length (.int .u8 y))[j]? = some (.int .u8 ((xs ++ [y]).getD j 0)) := by
  intro j hj
  simp only [List.length_append, List.length_singleton] at hj
  by_cases e : j = xs.length
  · subst e; simp [hL]
  · rw [List.getElem?_set_ne (by omega), h j (by omega)]
    simp [List.getD, List.getElem?_append_left (show j < xs.length by omega)]
theorem heap_lt {w : World} {k : Nat} {o : Obj} (h : w.heap[k]? = some o) : k < w.heap.size := by
  rcases Nat.lt_or_ge k w.heap.size with h' | h'
  · exact h'
  · rw [Array.getElem?_eq_none h'] at h; cases h
end Go.Proofs.YthhmobjphloahagDoor
namespace Go.Proofs.YthhmobjphloahagDoor
open Go.RowKit Go.Lib

theorem wpList_copy_str {P : Program} {w : World} {ops : Array Oper} {rest : List Oper} {o : Oper} {a : Act} {Q : Exit → Act → World → Prop} (hgd : o.guard = none) (d s : Operand) (dT sT : TypeId)
    (ho : o.op = .call { callee := .builtin .copy, args := #[d, s], argTypes := #[dT, sT] }) (elem : TypeId) (hu : P.underlying dT = some (.slice elem)) (hsz : (P.info? elem).map (·.size) = some 1)
    (dp : Option Addr) (dLen dCap : Nat) (str : ByteArray) (hd : a.eval d = .slice dp dLen dCap) (hs : a.eval s = .string str)
    (g off : Nat) (cur : List Value) (t : TypeId) (hg : w.heap[g]? = some (.cells cur.toArray t (0, 0))) (hpos : 0 < str.size → dp = some ⟨g, off, none⟩) (hle : str.size ≤ dLen) (hfit : off + str.size ≤ cur.length)
    (B : Nat) (w0 : World) (hb : Below B w0 w) (hBg : B ≤ g)
    (h : ∀ w', Hid (w'.heap[g]? = some (.cells (splice cur off (byteCells str.data.toList)).toArray t (0, 0))) → Below B w0 w' → w'.heap.size = w.heap.size → wpList P ops Q rest (a.put o.dst (goInt str.size)) w') :
    wpList P ops Q (o :: rest) a w := by
  have hl : (byteCells str.data.toList).length = str.size := by rw [byteCells_length, ← size_eq]
  refine wpList_plain hgd fun K hK => ?_
  by_cases h0 : str.size = 0
  · have hrun := run_copy_empty_string (P := P) w dT sT o.type elem dp dLen dCap str hu (by rw [hsz]; rfl) h0
    have hn : byteCells str.data.toList = [] := List.eq_nil_of_length_eq_zero (by omega)
    unfold Oper.wp
    simp [execOp, ho, resolve, invoke, builtin, hd, hs, hrun, Result.andThen]
    have := h w (show _ = _ by rw [hn]; simpa [splice] using hg) hb rfl
    rw [h0] at this
    exact hK _ _ this
  · obtain rfl := hpos (by omega)
    have hrun := run_copy_row_string (P := P) w dT sT o.type elem g off dLen dCap str cur.toArray t hu hsz hg hle (by simpa using hfit)
    unfold Oper.wp
    simp [execOp, ho, resolve, invoke, builtin, hd, hs, hrun, Result.andThen]
    refine hK _ _ (h _ (show _ = _ from ?_) (below_setRow hb hBg _) (by simp))
    have := setRow_heap w g cur.toArray ((cur.take off ++ byteCells str.data.toList ++ cur.drop (off + str.size)).toArray) t _ hg
    simpa [splice, hl] using this

/-- 'string(b)', b's row known by its bytes. -/
theorem run_convert_row {P : Program} {w : World} {src dst e g cap : Nat} {l : List UInt8} {rest : List Value} {t : TypeId} (hs : P.underlying src = some (.slice e)) (he : P.underlying e = some (.int .u8)) (hd : P.underlying dst = some .string)
    (hg : w.heap[g]? = some (.cells (byteCells l ++ rest).toArray t (0, 0))) : (convert src dst (.slice (some ⟨g, 0, none⟩) l.length cap)).run P w = .ok (.string ⟨l.toArray⟩) w := by
  refine run_convert_bytes_back w src dst e ⟨g, 0, none⟩ cap l hs he hd fun j hj => ?_
  rw [Addr.add_lit, Nat.zero_add, cell_of_row w g j _ t (0, 0) hg]
  simp [byteCells, List.getElem?_append_left, hj]
theorem ofBytes_append (a b : ByteArray) : (⟨(a.data.toList ++ b.data.toList).toArray⟩ : ByteArray) = a ++ b := by
  rw [← ByteArray.mk_append_mk]
/-- The row behind an owned slice. -/
theorem rowOf {w : World} {base e g n cap : Nat} {xs : List Value} (h : w.ownsRow base e 1 (.slice (some ⟨g, 0, none⟩) n cap) n xs) (hc : cap = n) :
    w.heap[g]? = some (.cells xs.toArray e (0, 0)) ∧ xs.length = n := by
  refine ⟨?_, by simpa using h.1⟩
  rcases h.2 with ⟨h', _⟩ | ⟨g', cap', cur, h', _, hg, _, _, hcs, htake⟩
  · simp at h'
  · simp only [Value.slice.injEq, Option.some.injEq, Addr.mk.injEq, and_true, true_and] at h'
    obtain ⟨rfl, rfl⟩ := h'
    rw [hg, ← htake, List.take_of_length_le (by rw [Array.length_toList, hcs, hc]; exact Nat.le_refl _)]
theorem splice_two {α : Type} (L A B : List α) (h : L.length = A.length + B.length) : splice (splice L 0 A) A.length B = A ++ B := by
  have e : splice L 0 A = A ++ L.drop A.length := by simp [splice]
  rw [e]
  unfold splice
  rw [List.take_left, List.drop_eq_nil_of_le (by simp; omega)]
  simp
theorem splice_one {α : Type} (L A : List α) (h : L.length = A.length) : splice L 0 A = A := by
  unfold splice
  rw [List.drop_eq_nil_of_le (by omega)]
  simp
end Go.Proofs.YthhmobjphloahagDoor
namespace Go.Proofs.YthhmobjphloahagDoor
open Go.RowKit

theorem infoByte : (Tryd.prog.info? 5).map (fun i => (i.zero, i.size, i.bytes)) = some (some (.int .u8 0), 1, 1) := by kernel_rfl
theorem byteSize : (Tryd.prog.info? 5).map (·.size) = some 1 := by kernel_rfl
theorem ret_int {k : IntKind} {a b : Int} (h : a = b) : Ending.returned (.int k a) = .returned (.int k b) := by rw [h]
theorem u8_lt (c : UInt8) : (c.toNat : Int) ≤ 255 := by have := c.toNat_lt; omega
/-- A TextOut as a value. -/
def outV (t : ByteArray) (at' code : Int) : Value := .agg #[.string t, .int .i64 at', .int .i64 code]
end Go.Proofs.YthhmobjphloahagDoor
namespace Go.Proofs.YthhmobjphloahagDoor
open Go.RowKit

theorem tooLong (s : ByteArray) (w : World) (hs : s.size ≤ maxLen) :
    Calls Tryd.prog 16 #[.string s] w fun e w' => e = .returned (.bool (decide (20000 < s.size))) ∧ w' = w := by
  unfold maxLen at hs
  go_enter Tryd.func16, Tryd.ntmps16
  go_wp2
  go_ret
  exact ⟨by simp; omega, rfl⟩
end Go.Proofs.YthhmobjphloahagDoor
namespace Go.Proofs.YthhmobjphloahagDoor
open Go.RowKit

theorem rowFacts {w : World} {g : Nat} {cs : List Value} {t : TypeId} (hg : w.heap[g]? = some (.cells cs.toArray t (0, 0))) (j : Nat) (v : Value) (hj : cs[j]? = some v) : w.cell? ⟨g, j, none⟩ = some v := by
  rw [cell_of_row w g j _ t (0, 0) hg]; simpa using hj
theorem rowSet {w : World} {g i : Nat} {cs : List Value} {t : TypeId} (v : Value) (hg : w.heap[g]? = some (.cells cs.toArray t (0, 0))) : (w.setCell ⟨g, i, none⟩ v).heap[g]? = some (.cells (cs.set i v).toArray t (0, 0)) := by
  rw [heap_setCell_same w g i _ t v hg]; simp
theorem heap_alloc2 (w : World) (a b : Obj) : ((w.alloc a).alloc b).heap[w.heap.size + 1]? = some b := by
  have := heap_alloc_new (w.alloc a) b
  simpa using this
theorem below_setCells {B g : Nat} {w0 : World} (hB : B ≤ g) : ∀ (vs : List Value) (o : Nat) (w : World), Below B w0 w → Below B w0 (w.setCells g o vs)
  | [], _, _, h => h
  | v :: r, o, _, h => below_setCells hB r (o + 1) _ (h.setCell hB v)
theorem rangeRow {w : World} {g : Nat} {cs : List Value} {t : TypeId} (hg : w.heap[g]? = some (.cells cs.toArray t (0, 0))) : w.rangeAt g 0 cs := fun j v hv => by
  rw [Nat.zero_add]; exact rowFacts hg j v hv
theorem thereRow {w : World} {g : Nat} {cs : List Value} {t : TypeId} (hg : w.heap[g]? = some (.cells cs.toArray t (0, 0))) : w.there g 0 cs.length := fun j hj => by
  rw [Nat.zero_add]
  exact ⟨by rw [rowFacts hg j _ (List.getElem?_eq_getElem hj)]; rfl, frozen_of_row w g j _ t hg⟩
end Go.Proofs.YthhmobjphloahagDoor
namespace Go.Proofs.YthhmobjphloahagDoor
open Go.RowKit
theorem infoLong : (Tryd.prog.info? 2).map (fun i => (i.zero, i.size, i.bytes)) = some (some (.int .i64 0), 1, 8) := by kernel_rfl
end Go.Proofs.YthhmobjphloahagDoor
namespace Go.Proofs.YthhmobjphloahagDoor
open Go.RowKit

abbrev U := BitVec 32
/-- A word as the program holds it. -/
def uI (x : U) : Int := (x.toNat : Int)
theorem uI_nonneg (x : U) : 0 ≤ uI x := Int.natCast_nonneg _
theorem uI_lt (x : U) : uI x < 4294967296 := by unfold uI; have := x.isLt; omega
theorem uI_le (x : U) : uI x ≤ 4294967295 := by have := uI_lt x; omega
theorem uI_inj {x y : U} (h : uI x = uI y) : x = y := by
  unfold uI at h
  exact BitVec.eq_of_toNat_eq (by omega)
theorem uI_xor (x y : U) : bits .xor .u32 (uI x) (uI y) = uI (x ^^^ y) := by
  unfold uI; rw [u32_xor_nat _ _ x.isLt y.isLt, BitVec.toNat_xor]
theorem uI_or (x y : U) : bits .or .u32 (uI x) (uI y) = uI (x ||| y) := by
  unfold uI; rw [u32_or_nat _ _ x.isLt y.isLt, BitVec.toNat_or]
theorem uI_and (x y : U) : bits .and .u32 (uI x) (uI y) = uI (x &&& y) := by
  unfold uI; rw [u32_and_nat _ _ x.isLt y.isLt, BitVec.toNat_and]
theorem uI_not (x : U) : bits .xor .u32 4294967295 (uI x) = uI (~~~ x) := by
  have h := uI_xor (BitVec.allOnes 32) x
  have e : uI (BitVec.allOnes 32) = 4294967295 := by decide
  rw [e] at h
  rw [h, BitVec.xor_comm, BitVec.xor_allOnes]
theorem uI_not' (x : U) : bits .xor .u32 (if IntKind.u32.signed = true then -1 else IntKind.u32.max) (uI x) = uI (~~~ x) := uI_not x
theorem uI_add (x y : U) : IntKind.u32.wrap (uI x + uI y) = uI (x + y) := by
  unfold uI
  rw [IntKind.wrap_u32, BitVec.toNat_add]
  omega
theorem uI_shr (x : U) (k : Nat) : uI x / 2 ^ k = uI (x >>> k) := by
  unfold uI
  rw [BitVec.toNat_ushiftRight, Nat.shiftRight_eq_div_pow]
  simp
theorem uI_shl (x : U) (k : Nat) : IntKind.u32.wrap (uI x * 2 ^ k) = uI (x <<< k) := by
  unfold uI
  rw [IntKind.wrap_u32, BitVec.toNat_shiftLeft, Nat.shiftLeft_eq]
  have : ((x.toNat : Int) * 2 ^ k) = ((x.toNat * 2 ^ k : Nat) : Int) := by simp
  rw [this]
  omega
theorem uI_add' (x y : U) : (uI x + uI y) % 4294967296 = uI (x + y) := by rw [← uI_add, IntKind.wrap_u32]
theorem uI_shl' (x : U) (k : Nat) : uI x * 2 ^ k % 4294967296 = uI (x <<< k) := by rw [← uI_shl, IntKind.wrap_u32]
/-- A byte as a word. -/
def bU (c : UInt8) : U := BitVec.ofNat 32 c.toNat
theorem uI_bU (c : UInt8) : uI (bU c) = (c.toNat : Int) := by
  unfold uI bU
  have := c.toNat_lt
  rw [BitVec.toNat_ofNat]
  omega
theorem bU_uI (c : UInt8) : (c.toNat : Int) = uI (bU c) := (uI_bU c).symm
theorem uI_wrap (x : U) : IntKind.u32.wrap (uI x) = uI x := by
  rw [IntKind.wrap_u32]; exact Int.emod_eq_of_lt (uI_nonneg x) (uI_lt x)
theorem uI_mod (x : U) : uI x % 4294967296 = uI x := Int.emod_eq_of_lt (uI_nonneg x) (uI_lt x)
theorem uI_shl24 (x : U) : uI x * (16777216 : Int) % (4294967296 : Int) = uI (x <<< (24 : Nat)) := uI_shl' x 24
theorem uI_shl16 (x : U) : uI x * (65536 : Int) % (4294967296 : Int) = uI (x <<< (16 : Nat)) := uI_shl' x 16
theorem uI_shl8 (x : U) : uI x * (256 : Int) % (4294967296 : Int) = uI (x <<< (8 : Nat)) := uI_shl' x 8
theorem uI_shr3 (x : U) : uI x / (8 : Int) = uI (x >>> (3 : Nat)) := uI_shr x 3
theorem uI_shr10 (x : U) : uI x / (1024 : Int) = uI (x >>> (10 : Nat)) := uI_shr x 10
def rotr (x : U) (k : Nat) : U := x >>> k ||| x <<< (32 - k)
def sg0 (x : U) : U := rotr x 7 ^^^ rotr x 18 ^^^ x >>> 3
def sg1 (x : U) : U := rotr x 17 ^^^ rotr x 19 ^^^ x >>> 10
def bS0 (x : U) : U := rotr x 2 ^^^ rotr x 13 ^^^ rotr x 22
def bS1 (x : U) : U := rotr x 6 ^^^ rotr x 11 ^^^ rotr x 25
def chF (e f g : U) : U := e &&& f ^^^ ~~~ e &&& g
def majF (a b c : U) : U := a &&& b ^^^ a &&& c ^^^ b &&& c
/-- The words of a block, the first 16 being M's. -/
def wAt (M : Nat → U) (i : Nat) : U :=
  if _h : i < 16 then M i else wAt M (i - 16) + sg0 (wAt M (i - 15)) + wAt M (i - 7) + sg1 (wAt M (i - 2))
termination_by i
theorem wAt_low (M : Nat → U) {i : Nat} (h : i < 16) : wAt M i = M i := by rw [wAt]; simp [h]
theorem wAt_high (M : Nat → U) {i : Nat} (h : 16 ≤ i) : wAt M i = wAt M (i - 16) + sg0 (wAt M (i - 15)) + wAt M (i - 7) + sg1 (wAt M (i - 2)) := by
  rw [wAt]; simp [show ¬ i < 16 by omega]
structure St where
  (a b c d e f g h : U)
def St.row (s : St) : List U := [s.a, s.b, s.c, s.d, s.e, s.f, s.g, s.h]
def rnd (s : St) (kw : U) : St :=
  ⟨s.h + bS1 s.e + chF s.e s.f s.g + kw + (bS0 s.a + majF s.a s.b s.c), s.a, s.b, s.c, s.d + (s.h + bS1 s.e + chF s.e s.f s.g + kw), s.e, s.f, s.g⟩
def keyL : List Nat := [0x428a2f98, 0x71374491, 0xb5c0fbcf, 0xe9b5dba5, 0x3956c25b, 0x59f111f1, 0x923f82a4, 0xab1c5ed5,
    0xd807aa98, 0x12835b01, 0x243185be, 0x550c7dc3, 0x72be5d74, 0x80deb1fe, 0x9bdc06a7, 0xc19bf174,
    0xe49b69c1, 0xefbe4786, 0x0fc19dc6, 0x240ca1cc, 0x2de92c6f, 0x4a7484aa, 0x5cb0a9dc, 0x76f988da,
    0x983e5152, 0xa831c66d, 0xb00327c8, 0xbf597fc7, 0xc6e00bf3, 0xd5a79147, 0x06ca6351, 0x14292967,
    0x27b70a85, 0x2e1b2138, 0x4d2c6dfc, 0x53380d13, 0x650a7354, 0x766a0abb, 0x81c2c92e, 0x92722c85,
    0xa2bfe8a1, 0xa81a664b, 0xc24b8b70, 0xc76c51a3, 0xd192e819, 0xd6990624, 0xf40e3585, 0x106aa070,
    0x19a4c116, 0x1e376c08, 0x2748774c, 0x34b0bcb5, 0x391c0cb3, 0x4ed8aa4a, 0x5b9cca4f, 0x682e6ff3,
    0x748f82ee, 0x78a5636f, 0x84c87814, 0x8cc70208, 0x90befffa, 0xa4506ceb, 0xbef9a3f7, 0xc67178f2]
def kAt (i : Nat) : U := BitVec.ofNat 32 (keyL.getD i 0)
def rnds (s : St) (M : Nat → U) : Nat → St
  | 0 => s
  | n + 1 => rnd (rnds s M n) (kAt n + wAt M n)
def St.add (s t : St) : St := ⟨s.a + t.a, s.b + t.b, s.c + t.c, s.d + t.d, s.e + t.e, s.f + t.f, s.g + t.g, s.h + t.h⟩
/-- A block, taken into a state. -/
def blk (s : St) (M : Nat → U) : St := s.add (rnds s M 64)
/-- The byte of a text at a place. -/
def byteAt (t : ByteArray) (i : Nat) : UInt8 := t.data.toList.getD i 0
theorem byteAt_get (t : ByteArray) (i : Nat) (h : i < t.size) : byteAt t i = t[i] := by
  unfold byteAt
  rw [List.getD, List.getElem?_eq_getElem (by simpa using h)]
  rfl
/-- The 16 words of a text's block that begins at o. -/
def wordAt (t : ByteArray) (o i : Nat) : U :=
  bU (byteAt t (o + 4 * i)) <<< 24 ||| bU (byteAt t (o + 4 * i + 1)) <<< 16 ||| bU (byteAt t (o + 4 * i + 2)) <<< 8 ||| bU (byteAt t (o + 4 * i + 3))
/-- The first n blocks of a text, taken into a state. -/
def blks (s : St) (t : ByteArray) : Nat → St
  | 0 => s
  | n + 1 => blk (blks s t n) (wordAt t (64 * n))
def st0 : St := ⟨0x6a09e667, 0xbb67ae85, 0x3c6ef372, 0xa54ff53a, 0x510e527f, 0x9b05688c, 0x1f83d9ab, 0x5be0cd19⟩
end Go.Proofs.YthhmobjphloahagDoor
namespace Go.Proofs.YthhmobjphloahagDoor
open Go.RowKit

theorem wAt_congr {M M' : Nat → U} (h : ∀ i, i < 16 → M i = M' i) (i : Nat) : wAt M i = wAt M' i := by
  induction i using Nat.strongRecOn with
  | _ i ih =>
    by_cases hi : i < 16
    · rw [wAt_low M hi, wAt_low M' hi, h i hi]
    · rw [wAt_high M (by omega), wAt_high M' (by omega), ih (i - 16) (by omega), ih (i - 15) (by omega), ih (i - 7) (by omega), ih (i - 2) (by omega)]
theorem rnds_congr {M M' : Nat → U} (h : ∀ i, i < 16 → M i = M' i) (s : St) (n : Nat) : rnds s M n = rnds s M' n := by
  induction n with
  | zero => rfl
  | succ n ih => rw [rnds, rnds, ih, wAt_congr h]
theorem blk_congr {M M' : Nat → U} (h : ∀ i, i < 16 → M i = M' i) (s : St) : blk s M = blk s M' := by
  unfold blk; rw [rnds_congr h]
theorem wordAt_congr {t t' : ByteArray} {o o' i : Nat} (h : ∀ j, j < 4 → byteAt t (o + 4 * i + j) = byteAt t' (o' + 4 * i + j)) : wordAt t o i = wordAt t' o' i := by
  have h0 := h 0 (by omega)
  have h1 := h 1 (by omega)
  have h2 := h 2 (by omega)
  have h3 := h 3 (by omega)
  unfold wordAt
  rw [Nat.add_zero, Nat.add_zero] at h0
  rw [h0, h1, h2, h3]
theorem blks_congr {t t' : ByteArray} (s : St) (n : Nat) (h : ∀ j, j < 64 * n → byteAt t j = byteAt t' j) : blks s t n = blks s t' n := by
  induction n with
  | zero => rfl
  | succ n ih =>
    rw [blks, blks, ih (fun j hj => h j (by omega))]
    exact blk_congr (fun i hi => wordAt_congr (fun j hj => h _ (by omega))) _
theorem blks_add {t t' : ByteArray} (s : St) (n k : Nat) (h : ∀ j, j < 64 * k → byteAt t' j = byteAt t (64 * n + j)) : blks s t (n + k) = blks (blks s t n) t' k := by
  induction k with
  | zero => rfl
  | succ k ih =>
    rw [← Nat.add_assoc, blks, blks, ih (fun j hj => h j (by omega))]
    refine blk_congr (fun i hi => wordAt_congr (fun j hj => ?_)) _
    rw [h _ (by omega)]
    congr 1
    omega
/-- The state behind all whole blocks of a text, and what is left of it. -/
def more (s : St) (t : ByteArray) : St := blks s t (t.size / 64)
def restOf (t : ByteArray) : ByteArray := t.extract (64 * (t.size / 64)) t.size
theorem size_restOf (t : ByteArray) : (restOf t).size = t.size % 64 := by
  unfold restOf
  rw [ByteArray.size_extract]
  omega
theorem size_append (a b : ByteArray) : (a ++ b).size = a.size + b.size := ByteArray.size_append
theorem list_append (a b : ByteArray) : (a ++ b).data.toList = a.data.toList ++ b.data.toList := by
  simp
theorem list_extract (a : ByteArray) (i j : Nat) : (a.extract i j).data.toList = (a.data.toList.take j).drop i := by
  simp [List.drop_take]
theorem byteAt_left (a b : ByteArray) {j : Nat} (h : j < a.size) : byteAt (a ++ b) j = byteAt a j := by
  unfold byteAt
  rw [list_append, List.getD, List.getD, List.getElem?_append_left (by simpa using h)]
theorem byteAt_right (a b : ByteArray) (j : Nat) : byteAt (a ++ b) (a.size + j) = byteAt b j := by
  unfold byteAt
  rw [list_append, List.getD, List.getD, List.getElem?_append_right (by simp)]
  simp
theorem byteAt_rest (a : ByteArray) (o j : Nat) : byteAt (a.extract o a.size) j = byteAt a (o + j) := by
  unfold byteAt
  rw [list_extract, List.take_of_length_le (by simp), List.getD, List.getD, List.getElem?_drop]
theorem byteAt_restB (t b : ByteArray) {o : Nat} (ho : o ≤ t.size) (j : Nat) : byteAt (t.extract o t.size ++ b) j = byteAt (t ++ b) (o + j) := by
  have hs : (t.extract o t.size).size = t.size - o := by rw [ByteArray.size_extract]; omega
  by_cases h : j < t.size - o
  · rw [byteAt_left _ _ (by omega), byteAt_rest, byteAt_left _ _ (by omega)]
  · have e1 := byteAt_right (t.extract o t.size) b (j - (t.size - o))
    have e2 := byteAt_right t b (j - (t.size - o))
    rw [hs, show t.size - o + (j - (t.size - o)) = j by omega] at e1
    rw [show t.size + (j - (t.size - o)) = o + j by omega] at e2
    rw [e1, e2]
theorem more_more (s : St) (t b : ByteArray) : more (more s t) (restOf t ++ b) = more s (t ++ b) := by
  have hs : (restOf t ++ b).size = t.size % 64 + b.size := by rw [size_append, size_restOf]
  have hf : (t ++ b).size / 64 = t.size / 64 + (t.size % 64 + b.size) / 64 := by rw [size_append]; omega
  unfold more
  rw [hs, hf, blks_add (t := t ++ b) (t' := restOf t ++ b) s _ _ (fun j _ => byteAt_restB t b (by omega) j)]
  rw [blks_congr (t := t) (t' := t ++ b) s _ (fun j hj => (byteAt_left t b (by omega)).symm)]
theorem rest_more (t b : ByteArray) : restOf (restOf t ++ b) = restOf (t ++ b) := by
  have hs : (restOf t ++ b).size = t.size % 64 + b.size := by rw [size_append, size_restOf]
  have e : ((restOf (restOf t ++ b)).data.toList) = (restOf (t ++ b)).data.toList := by
    unfold restOf at *
    rw [hs, list_extract, list_append, list_extract, list_extract, list_append, size_append]
    have l1 : t.data.toList.length = t.size := by simp
    have l2 : b.data.toList.length = b.size := by simp
    generalize t.data.toList = T at *
    generalize b.data.toList = B at *
    rw [List.take_of_length_le (l := T) (by omega), List.take_of_length_le (l := T ++ B) (by simp; omega), List.take_of_length_le (l := List.drop _ T ++ B) (by simp; omega)]
    rw [show List.drop (64 * (t.size / 64)) T ++ B = List.drop (64 * (t.size / 64)) (T ++ B) from by
      rw [List.drop_append_of_le_length (by omega)]]
    rw [List.drop_drop]
    congr 1
    omega
  exact ByteArray.ext (Array.ext' e)
theorem more_nil (s : St) {r : ByteArray} (h : r.size < 64) : more s r = s ∧ restOf r = r := by
  unfold more restOf
  rw [show r.size / 64 = 0 by omega]
  exact ⟨rfl, by simp [ByteArray.extract_zero_size]⟩
/-- What fills a text of n bytes up to the end of a block. -/
def zerosOf (n : Nat) : Nat := 63 - (n + 8) % 64
def beF (x : Nat) (k : Nat) : List Int := (List.range k).map fun j => ((x / 256 ^ (k - 1 - j) % 256 : Nat) : Int)
def padL (n : Nat) : List Int := 128 :: (List.replicate (zerosOf n) 0 ++ beF (8 * n) 8)
theorem padL_len (n : Nat) : (padL n).length = 9 + zerosOf n := by simp [padL, beF]; omega
/-- The bytes of the eight numbers, the highest first. -/
def digU (x : U) : List Int := [uI x / 16777216, uI x / 65536 % 256, uI x / 256 % 256, uI x % 256]
def digL (s : St) : List Int := s.row.flatMap digU
def uCells (s : St) : List Value := s.row.map fun x => Value.int .u32 (uI x)
def iCells (s : St) : List Value := s.row.map fun x => Value.int .i64 (uI x)
theorem iCells_at (s : St) (j : Nat) (h : j < 8) : (iCells s)[j]? = some (.int .i64 (uI (s.row.getD j 0))) := by
  unfold iCells
  rw [List.getElem?_map, List.getD, List.getElem?_eq_getElem (show j < s.row.length from h)]
  rfl
theorem row_at (T : St) (k : Nat) (h : k < 8) : (uCells T)[k]? = some (.int .u32 (uI (T.row.getD k 0))) := by
  unfold uCells
  rw [List.getElem?_map, List.getD, List.getElem?_eq_getElem (show k < T.row.length from h)]
  rfl
theorem uI_i64 (x : U) : IntKind.i64.wrap (uI x) = uI x := by
  have := uI_nonneg x
  have := uI_lt x
  rw [IntKind.wrap_i64]; omega
end Go.Proofs.YthhmobjphloahagDoor
namespace Go.Proofs.YthhmobjphloahagDoor
open Go.RowKit

theorem specTurn (x : U) (k : Nat) (hk : k < 32) (w : World) :
    Calls Tryd.prog 60 #[.int .u32 (uI x), .int .u64 (k : Int)] w fun e w' => e = .returned (.int .u32 (uI (rotr x k))) ∧ w' = w := by
  have h1 := uI_le x
  have h0 := uI_nonneg x
  go_enter Tryd.func60, Tryd.ntmps60
  go_wp2
  go_ret
  exact ⟨ret_int (by rw [uI_shr, uI_shl', uI_or]; rfl), rfl⟩
theorem mask31 (k : Nat) (h0 : 0 < k) (hk : k < 32) : bits .and .u64 (IntKind.u64.wrap (-(k : Int))) 31 = 32 - (k : Int) := by
  have e : IntKind.u64.wrap (-(k : Int)) = ((18446744073709551616 - k : Nat) : Int) := by rw [IntKind.wrap_u64]; omega
  have e2 := u64_and_nat (18446744073709551616 - k) 31 (by omega) (by omega)
  rw [e]
  refine e2.trans ?_
  rw [Nat.and_two_pow_sub_one_eq_mod _ 5]
  omega
theorem rotL (x : U) (k : Nat) (hk0 : 0 < k) (hk : k < 32) (w : World) :
    Calls Tryd.prog 65 #[.int .u32 (uI x), .int .i64 (-(k : Int))] w fun e w' => e = .returned (.int .u32 (uI (rotr x k))) ∧ w' = w := by
  have h1 := uI_le x
  have h0 := uI_nonneg x
  have hm := mask31 k hk0 hk
  go_enter Tryd.func65, Tryd.ntmps65
  go_wp2
  go_ret
  exact ⟨ret_int (by rw [uI_shr, uI_shl', uI_or, BitVec.or_comm, show 32 - (32 - k) = k by omega]; rfl), rfl⟩
theorem implTurn (x : U) (k : Nat) (hk0 : 0 < k) (hk : k < 32) (w : World) :
    Calls Tryd.prog 64 #[.int .u32 (uI x), .int .i64 (k : Int)] w fun e w' => e = .returned (.int .u32 (uI (rotr x k))) ∧ w' = w := by
  go_enter Tryd.func64, Tryd.ntmps64
  go_wp2_with fail
  refine (rotL x k hk0 hk _).mono ?_
  rintro e w' ⟨rfl, rfl⟩
  go_wp2
  go_ret
  exact ⟨rfl, rfl⟩
/-- The same, the number of places as the walk spells it. -/
theorem implTurnI (x : U) (k : Int) (w : World) (h0 : 0 < k) (hk : k < 32) :
    Calls Tryd.prog 64 #[.int .u32 (uI x), .int .i64 k] w fun e w' => e = .returned (.int .u32 (uI (rotr x k.toNat))) ∧ w' = w := by
  have h := implTurn x k.toNat (by omega) (by omega) w
  rwa [Int.toNat_of_nonneg (by omega)] at h
theorem specTurnI (x : U) (k : Int) (w : World) (h0 : 0 ≤ k) (hk : k < 32) :
    Calls Tryd.prog 60 #[.int .u32 (uI x), .int .u64 k] w fun e w' => e = .returned (.int .u32 (uI (rotr x k.toNat))) ∧ w' = w := by
  have h := specTurn x k.toNat (by omega) w
  rwa [Int.toNat_of_nonneg (by omega)] at h
end Go.Proofs.YthhmobjphloahagDoor
namespace Go.Proofs.YthhmobjphloahagDoor
open Go.RowKit Go.BigFrame

/-- A byte of a text, read. -/
theorem idxB (t : ByteArray) (j : Nat) (h : j < t.size) (n : Int) (hn : n = j) (w : World) : (Instr.index 9 (.string t) (.int .i64 n)).run Tryd.prog w = .ok (.int .u8 (uI (bU (byteAt t j)))) w := by
  subst hn
  rw [run_index_string _ _ _ _ _ Tryd.underlying9, dif_pos ⟨by omega, by omega⟩, uI_bU, byteAt_get t j h]
  rfl
theorem arr8 : Tryd.prog.arrayLen 49 = 8 := by kernel_rfl

theorem slice8a (w : World) (g : Nat) : (Instr.sliceAt 49 (.pointer (some ⟨g, 0, none⟩)) (some (.int .i64 1)) none none).run Tryd.prog w = .ok (.slice (some ⟨g, 1, none⟩) 7 7) w := by kernel_rfl
theorem slice8b (w : World) (g : Nat) : (Instr.sliceAt 49 (.pointer (some ⟨g, 0, none⟩)) none (some (.int .i64 7)) none).run Tryd.prog w = .ok (.slice (some ⟨g, 0, none⟩) 7 8) w := by kernel_rfl
theorem turn_src {w : World} {g : Nat} {t : TypeId} {s : St} (hg : w.heap[g]? = some (.cells (uCells s).toArray t (0, 0))) :
    ∀ j v, ((uCells s).take 7)[j]? = some v → w.cell? ((⟨g, 0, none⟩ : Addr).add j) = some v := by
  intro j v hj
  rw [Addr.add_lit, Nat.zero_add]
  refine rowFacts hg j v ?_
  rw [List.getElem?_take] at hj
  split at hj
  · exact hj
  · cases hj
theorem u32Size : (Tryd.prog.info? 47).map (·.size) = some 1 := by kernel_rfl
theorem uCells_one (s : St) : ∀ v ∈ (uCells s).take 7, v.oneCell' = true := fun v hv => by
  have := List.mem_of_mem_take hv
  simp only [uCells, List.mem_map] at this
  obtain ⟨x, _, rfl⟩ := this
  rfl
set_option maxHeartbeats 400000 in
set_option maxRecDepth 100000 in
theorem turnW (s : St) (kw : U) (w : World) (g : Nat) (t : TypeId) (hg : w.heap[g]? = some (.cells (uCells s).toArray t (0, 0))) :
    Calls Tryd.prog 59 #[.pointer (some ⟨g, 0, none⟩), .int .u32 (uI kw)] w
      fun e w' => e = .returned (.tuple #[]) ∧ w'.heap[g]? = some (.cells (uCells (rnd s kw)).toArray t (0, 0)) ∧ Below g w w' := by
  have c0 := rowFacts hg 0 (.int .u32 (uI s.a)) rfl
  have c1 := rowFacts hg 1 (.int .u32 (uI s.b)) rfl
  have c2 := rowFacts hg 2 (.int .u32 (uI s.c)) rfl
  have c4 := rowFacts hg 4 (.int .u32 (uI s.e)) rfl
  have c5 := rowFacts hg 5 (.int .u32 (uI s.f)) rfl
  have c6 := rowFacts hg 6 (.int .u32 (uI s.g)) rfl
  have c7 := rowFacts hg 7 (.int .u32 (uI s.h)) rfl
  have HG : Hid (w.heap[g]? = some (.cells (uCells s).toArray t (0, 0))) := hg
  clear hg
  go_enter Tryd.func59, Tryd.ntmps59
  go_wp2_with fail
  go_quiet (fail)
  go_wp2_with fail
  go_quiet (fail)
  go_wp2_with fail
  have fx := uI_xor
  have fa := uI_and
  have fn := uI_not'
  have fp := uI_add
  have fq := uI_add'
  go_big_quiet (exact (implTurnI _ _ _ (by decide) (by decide)).mono (fun _ _ h => ⟨h.1, _, h.2⟩))
  go_wp2_with fail
  refine (implTurnI _ _ _ (by decide) (by decide)).mono ?_
  rintro e w' ⟨rfl, rfl⟩
  go_wp2_with fail
  refine (implTurnI _ _ _ (by decide) (by decide)).mono ?_
  rintro e w' ⟨rfl, rfl⟩
  go_wp2_with fail
  refine (implTurnI _ _ _ (by decide) (by decide)).mono ?_
  rintro e w' ⟨rfl, rfl⟩
  go_wp2_with fail
  generalize hw4 : w.drewN _ = w4
  have hg4 : w4.heap[g]? = some (.cells (uCells s).toArray t (0, 0)) := by rw [← hw4]; exact HG.out
  have hb4 : Below g w w4 := by rw [← hw4]; exact below_drewN (Below.refl _ _) _
  have hs1 := slice8a
  have hs2 := slice8b
  clear c0 c1 c2 c4 c5 c6 c7 hw4 HG
  go_region_law ((refine step_copy_splice (by rfl) (.tmp 82) (.tmp 85) _ _ (by rfl) 47 Tryd.underlying75 u32Size (some ⟨g, 1, none⟩) (some ⟨g, 0, none⟩) 7 7 7 8 (by go_simp) (by go_simp) g 1 (uCells s) t hg4 ((uCells s).take 7) (by rfl) (fun _ => ⟨rfl, _, rfl, turn_src hg4⟩) (by simp [uCells, St.row]) (uCells_one s) g w hb4.drew (Nat.le_refl _) ?_; intro w5 hg5 hb5))
  have HG5 := hg5.out
  have e5 : splice (uCells s) 1 ((uCells s).take 7) = [.int .u32 (uI s.a), .int .u32 (uI s.a), .int .u32 (uI s.b), .int .u32 (uI s.c), .int .u32 (uI s.d), .int .u32 (uI s.e), .int .u32 (uI s.f), .int .u32 (uI s.g)] := rfl
  rw [e5] at HG5
  have d4 := rowFacts HG5 4 _ rfl
  have d0 := rowFacts HG5 0 _ rfl
  have z4 := frozen_of_row w5 g 4 _ t HG5
  have z0 := frozen_of_row w5 g 0 _ t HG5
  have HE : Hid (∀ x y, ((w5.setCell ⟨g, 4, none⟩ x).setCell ⟨g, 0, none⟩ y).heap[g]? = some (.cells [y, .int .u32 (uI s.a), .int .u32 (uI s.b), .int .u32 (uI s.c), x, .int .u32 (uI s.e), .int .u32 (uI s.f), .int .u32 (uI s.g)].toArray t (0, 0))) :=
    fun x y => rowSet y (rowSet x HG5)
  have HB : Hid (∀ x y, Below g w ((w5.setCell ⟨g, 4, none⟩ x).setCell ⟨g, 0, none⟩ y)) := fun x y => (hb5.setCell (Nat.le_refl _) x).setCell (Nat.le_refl _) y
  clear hg5 HG5 hb5 hg4 hb4 e5
  go_wp2
  go_region
  go_wp2
  go_returns
  exact ⟨rfl, HE.out _ _, (HB.out _ _).drew⟩
end Go.Proofs.YthhmobjphloahagDoor
