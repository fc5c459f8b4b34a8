/- strings.genSplit off the shelf: its laying at this program. Plain mathematics of numbers in bytes: no program is named here. 'copy(b[i:], s)' of a string into a row that the call owns; 'string(b)' of such a row by its bytes. No program is named. Small facts on the program's types, shared by the walks. Base64: groups of six bits, their signs. No walk. Rows that are known whole. No program is named. A row of texts: what is said of it. FnExactNameRight, walks: 'spec.NameRight' and 'impl.NameRight' answer true just where the text is a right name. When a number is a secret. Powers modulo a number: plain mathematics, no program is named here. The group's order, and what a signature's numbers lead to: plain mathematics, no program is named here. Products and remainders of numbers, as a walk has them. impl.modulo, the function that it answers, impl.product, walked. impl.ModMul, ModPow, ModInv and the specification's, walked. -/
import Derived.Shelf.Strings.Split
import Derived.Test.YtjkmfjegphpjkaaGreatDoorProg
import Derived.WalkKit
import Derived.WalkSpells
import Derived.WalkLawsBesides
import Derived.Laws.BytesArg
import Derived.Below
import Derived.Laws.CopyOwn
import Derived.Laws.IdiomStrings
import Derived.Lib.BufferWrite
import Derived.Test.YtjkmfjegphpjkaaGreatDoorRows
import Derived.Deep.RegionHeld3
import Derived.Deep.RegionLaw
import Derived.Deep.AppendLies
import Derived.Laws.Bits128
import Derived.Laws.BitsAllLaws
import Derived.Deep.MidRow
import Derived.Handy
import Derived.Deep.QuietTactic
import Derived.BigQuiet
import Derived.Deep.RegionWith
namespace Go.Proofs.YtjkmfjegphpjkaaGreatDoor
open Go.Shelf
def splitLays_ren : Go.Shelf.Ren := ⟨fun | 221 => 90 | 268 => 104 | 138 => 105 | 143 => 106 | 195 => 122 | 197 => 123 | 218 => 124 | 219 => 125 | 260 => 131 | 217 => 132 | 225 => 133 | 224 => 134 | 267 => 135 | 266 => 137 | 314 => 138 | n => n, fun | 9 => 9 | 3 => 3 | 31 => 51 | 4 => 4 | 0 => 0 | 105 => 143 | 21 => 21 | 5 => 5 | 46 => 68 | 119 => 166 | 139 => 169 | 138 => 168 | 146 => 170 | 51 => 110 | n => n, fun | 1 => 2 | 3 => 3 | 4 => 4 | n => n⟩
theorem splitLays : Go.Proofs.Lays.n221 Tryz.prog splitLays_ren := {
  mixed := by kernel_rfl
  f138 := Tryz.func105.trans (congrArg some (by kernel_rfl))
  f143 := Tryz.func106.trans (congrArg some (by kernel_rfl))
  f195 := Tryz.func122.trans (congrArg some (by kernel_rfl))
  f197 := Tryz.func123.trans (congrArg some (by kernel_rfl))
  f217 := Tryz.func132.trans (congrArg some (by kernel_rfl))
  f218 := Tryz.func124.trans (congrArg some (by kernel_rfl))
  f219 := Tryz.func125.trans (congrArg some (by kernel_rfl))
  f221 := Tryz.func90.trans (congrArg some (by kernel_rfl))
  f224 := Tryz.func134.trans (congrArg some (by kernel_rfl))
  f225 := Tryz.func133.trans (congrArg some (by kernel_rfl))
  f260 := Tryz.func131.trans (congrArg some (by kernel_rfl))
  f266 := Tryz.func137.trans (congrArg some (by kernel_rfl))
  f267 := Tryz.func135.trans (congrArg some (by kernel_rfl))
  f268 := Tryz.func104.trans (congrArg some (by kernel_rfl))
  f314 := Tryz.func138.trans (congrArg some (by kernel_rfl))
  t0 := Tryz.underlying0
  a0 := Tryz.isAgg0
  z0 := Tryz.sizeOf0
  v0 := Tryz.zeroValue0
  t3 := Tryz.underlying3
  a3 := Tryz.isAgg3
  z3 := Tryz.sizeOf3
  v3 := Tryz.zeroValue3
  t4 := Tryz.underlying4
  a4 := Tryz.isAgg4
  z4 := Tryz.sizeOf4
  v4 := Tryz.zeroValue4
  t5 := Tryz.underlying5
  a5 := Tryz.isAgg5
  z5 := Tryz.sizeOf5
  v5 := Tryz.zeroValue5
  t9 := Tryz.underlying9
  a9 := Tryz.isAgg9
  z9 := Tryz.sizeOf9
  v9 := Tryz.zeroValue9
  t21 := Tryz.underlying21
  a21 := Tryz.isAgg21
  z21 := Tryz.sizeOf21
  v21 := Tryz.zeroValue21
  t31 := Tryz.underlying51
  a31 := Tryz.isAgg51
  z31 := Tryz.sizeOf51
  v31 := Tryz.zeroValue51
  t46 := Tryz.underlying68
  a46 := Tryz.isAgg68
  z46 := Tryz.sizeOf68
  v46 := Tryz.zeroValue68
  t51 := Tryz.underlying110
  a51 := Tryz.isAgg110
  z51 := Tryz.sizeOf110
  v51 := Tryz.zeroValue110
  t105 := Tryz.underlying143
  a105 := Tryz.isAgg143
  z105 := Tryz.sizeOf143
  v105 := Tryz.zeroValue143
  t119 := Tryz.underlying166
  a119 := Tryz.isAgg166
  z119 := Tryz.sizeOf166
  t138 := Tryz.underlying168
  a138 := Tryz.isAgg168
  z138 := Tryz.sizeOf168
  v138 := Tryz.zeroValue168
  t139 := Tryz.underlying169
  a139 := Tryz.isAgg169
  z139 := Tryz.sizeOf169
  v139 := Tryz.zeroValue169
  t146 := Tryz.underlying170
  a146 := Tryz.isAgg170
  z146 := Tryz.sizeOf170
  v146 := Tryz.zeroValue170
  g1 := by kernel_rfl
  g3 := by kernel_rfl
  g4 := by kernel_rfl }
end Go.Proofs.YtjkmfjegphpjkaaGreatDoor
namespace Go.Proofs.YtjkmfjegphpjkaaGreatDoor
open Go.RowKit

/-- The bytes of a number, the lowest seven bits first; f rounds at most. -/
def putF : Nat → Nat → List Int
  | 0, x => [(x : Int)]
  | f + 1, x => if x < 128 then [(x : Int)] else ((x % 128 + 128 : Nat) : Int) :: putF f (x / 128)
def pw : Nat → Nat
  | 0 => 128
  | f + 1 => 128 * pw f
theorem pw9 : pw 9 = 1180591620717411303424 := by decide
theorem pw_step {f x : Nat} (h : x < pw f) (h1 : 128 ≤ x) : ∃ g, f = g + 1 ∧ x / 128 < pw g := by
  cases f with
  | zero => simp [pw] at h; omega
  | succ g => exact ⟨g, rfl, by simp only [pw] at h; omega⟩
theorem putF_more {f x : Nat} (h : 128 ≤ x) : putF (f + 1) x = ((x % 128 + 128 : Nat) : Int) :: putF f (x / 128) := by
  rw [putF, if_neg (by omega)]
theorem putF_last {f x : Nat} (h : x < 128) : putF f x = [(x : Int)] := by
  cases f with
  | zero => rfl
  | succ g => rw [putF, if_pos h]
/-- A number's sign in its lowest bit. -/
def foldI (n : Int) : Nat := if n < 0 then (-2 * n - 1).toNat else (2 * n).toNat

/-- 'string(b)' of a row that the call owns. -/
theorem run_convert_own {P : Program} {w : World} {base src dst e n : Nat} {v : Value} {xs : List Int} (hs : P.underlying src = some (.slice e)) (he : P.underlying e = some (.int .u8)) (hd : P.underlying dst = some .string)
    (hown : w.ownsRow base e 1 v n (xs.map (Value.int .u8))) : (convert src dst v).run P w = .ok (.string (strOfNums xs)) w := by
  have hl := hown.1
  simp only [List.length_map, Nat.mul_one] at hl
  have hown0 := hown
  rcases hown.2 with ⟨rfl, rfl⟩ | ⟨g, cap, cur, rfl, hbg, hg, hnc, hcm, hcs, htake⟩
  · obtain rfl : xs = [] := List.eq_nil_of_length_eq_zero hl
    exact run_convert_bytes_nil w src e hs he 0 0 dst hd
  · refine run_convert_bytes_arg w src e hs he g 0 n cap xs hl ?_ dst hd
    intro i hi
    rw [Nat.zero_add, hown0.cellAt i (by omega)]
    have hi' : i < xs.length := by omega
    simp [hi', List.getD]
/-- One block more, then a block that is grown: an owned row's step. -/
theorem cells_one {w : World} {b : Nat} {x : Value} (h : w.cell? ⟨b, 0, none⟩ = some x) : ∀ j u, [x][j]? = some u → w.cell? ((⟨b, 0, none⟩ : Addr).add j) = some u := by
  intro j u hj
  match j, hj with
  | 0, hj => simp at hj; subst hj; simpa [Addr.add] using h
theorem oneCell_ints (k : IntKind) (zs : List Int) : ∀ u ∈ zs.map (Value.int k), u.oneCell' = true := ints_oneCell k zs
theorem nat_xor_all (a : Nat) (h : a < 18446744073709551616) : a ^^^ 18446744073709551615 = 18446744073709551615 - a := by
  have e := congrArg BitVec.toNat (BitVec.xor_allOnes (x := BitVec.ofNat 64 a))
  simp only [BitVec.toNat_xor, BitVec.toNat_ofNat, BitVec.toNat_allOnes, BitVec.toNat_not] at e
  rw [Nat.mod_eq_of_lt (by omega)] at e
  simpa using e
theorem fold_bits_neg (n : Int) (h0 : -9223372036854775808 ≤ n) (hn : n < 0) :
    bits BinOp.xor IntKind.u64 (IntKind.u64.wrap (IntKind.u64.wrap n * 2)) (IntKind.u64.wrap (n / 9223372036854775808)) = (foldI n : Int) := by
  have e1 : IntKind.u64.wrap (IntKind.u64.wrap n * 2) = 2 * n + 18446744073709551616 := by simp only [IntKind.wrap_u64]; omega
  have e2 : IntKind.u64.wrap (n / 9223372036854775808) = 18446744073709551615 := by simp only [IntKind.wrap_u64]; omega
  rw [e1, e2, u64_xor _ _ (by omega) (by omega) (by omega) (by omega)]
  have e3 : (18446744073709551615 : Int).toNat = 18446744073709551615 := by omega
  rw [e3, nat_xor_all _ (by omega)]
  unfold foldI
  rw [if_pos hn]
  omega
theorem fold_bits_pos (n : Int) (h1 : n ≤ 9223372036854775807) (hn : 0 ≤ n) :
    bits BinOp.xor IntKind.u64 (n * 2) (n / 9223372036854775808) = (foldI n : Int) := by
  have e2 : n / 9223372036854775808 = 0 := by omega
  rw [e2, u64_xor _ _ (by omega) (by omega) (by omega) (by omega)]
  have e3 : (0 : Int).toNat = 0 := rfl
  rw [e3, Nat.xor_zero]
  unfold foldI
  rw [if_neg (by omega)]
  omega
theorem or128_small : ∀ b : Fin 256, (b.val ||| 128) = b.val % 128 + 128 := by decide +kernel
theorem or128 (x : Nat) : bits BinOp.or IntKind.u8 ((x : Int) % 256) 128 = (x : Int) % 128 + 128 := by
  rw [u8_or _ _ (by omega) (by omega) (by omega) (by omega)]
  have h := or128_small ⟨x % 256, Nat.mod_lt _ (by omega)⟩
  have e : ((x : Int) % 256).toNat = x % 256 := by omega
  have e2 : (128 : Int).toNat = 128 := rfl
  rw [e, e2]
  simp only at h
  rw [h]
  omega
theorem set_reads {L : List Value} {xs : List Int} {y : Int} (hL : xs.length < L.length) (h : ∀ j, j < xs.length → L[j]? = some (.int .u8 (xs.getD j 0))) :
    ∀ j, j < (xs ++ [y]).length → (L.set xs.length (.int .u8 y))[j]? = some (.int .u8 ((xs ++ [y]).getD j 0)) := by
  intro j hj
  simp only [List.length_append, List.length_singleton] at hj
  by_cases e : j = xs.length
  · subst e; simp [hL]
  · rw [List.getElem?_set_ne (by omega), h j (by omega)]
    simp [List.getD, List.getElem?_append_left (show j < xs.length by omega)]
theorem heap_lt {w : World} {k : Nat} {o : Obj} (h : w.heap[k]? = some o) : k < w.heap.size := by
  rcases Nat.lt_or_ge k w.heap.size with h' | h'
  · exact h'
  · rw [Array.getElem?_eq_none h'] at h; cases h
end Go.Proofs.YtjkmfjegphpjkaaGreatDoor
namespace Go.Proofs.YtjkmfjegphpjkaaGreatDoor
open Go.RowKit Go.Lib

theorem wpList_copy_str {P : Program} {w : World} {ops : Array Oper} {rest : List Oper} {o : Oper} {a : Act} {Q : Exit → Act → World → Prop} (hgd : o.guard = none) (d s : Operand) (dT sT : TypeId)
    (ho : o.op = .call { callee := .builtin .copy, args := #[d, s], argTypes := #[dT, sT] }) (elem : TypeId) (hu : P.underlying dT = some (.slice elem)) (hsz : (P.info? elem).map (·.size) = some 1)
    (dp : Option Addr) (dLen dCap : Nat) (str : ByteArray) (hd : a.eval d = .slice dp dLen dCap) (hs : a.eval s = .string str)
    (g off : Nat) (cur : List Value) (t : TypeId) (hg : w.heap[g]? = some (.cells cur.toArray t (0, 0))) (hpos : 0 < str.size → dp = some ⟨g, off, none⟩) (hle : str.size ≤ dLen) (hfit : off + str.size ≤ cur.length)
    (B : Nat) (w0 : World) (hb : Below B w0 w) (hBg : B ≤ g)
    (h : ∀ w', Hid (w'.heap[g]? = some (.cells (splice cur off (byteCells str.data.toList)).toArray t (0, 0))) → Below B w0 w' → w'.heap.size = w.heap.size → wpList P ops Q rest (a.put o.dst (goInt str.size)) w') :
    wpList P ops Q (o :: rest) a w := by
  have hl : (byteCells str.data.toList).length = str.size := by rw [byteCells_length, ← size_eq]
  refine wpList_plain hgd fun K hK => ?_
  by_cases h0 : str.size = 0
  · have hrun := run_copy_empty_string (P := P) w dT sT o.type elem dp dLen dCap str hu (by rw [hsz]; rfl) h0
    have hn : byteCells str.data.toList = [] := List.eq_nil_of_length_eq_zero (by omega)
    unfold Oper.wp
    simp [execOp, ho, resolve, invoke, builtin, hd, hs, hrun, Result.andThen]
    have := h w (show _ = _ by rw [hn]; simpa [splice] using hg) hb rfl
    rw [h0] at this
    exact hK _ _ this
  · obtain rfl := hpos (by omega)
    have hrun := run_copy_row_string (P := P) w dT sT o.type elem g off dLen dCap str cur.toArray t hu hsz hg hle (by simpa using hfit)
    unfold Oper.wp
    simp [execOp, ho, resolve, invoke, builtin, hd, hs, hrun, Result.andThen]
    refine hK _ _ (h _ (show _ = _ from ?_) (below_setRow hb hBg _) (by simp))
    have := setRow_heap w g cur.toArray ((cur.take off ++ byteCells str.data.toList ++ cur.drop (off + str.size)).toArray) t _ hg
    simpa [splice, hl] using this

/-- 'string(b)', b's row known by its bytes. -/
theorem run_convert_row {P : Program} {w : World} {src dst e g cap : Nat} {l : List UInt8} {rest : List Value} {t : TypeId} (hs : P.underlying src = some (.slice e)) (he : P.underlying e = some (.int .u8)) (hd : P.underlying dst = some .string)
    (hg : w.heap[g]? = some (.cells (byteCells l ++ rest).toArray t (0, 0))) : (convert src dst (.slice (some ⟨g, 0, none⟩) l.length cap)).run P w = .ok (.string ⟨l.toArray⟩) w := by
  refine run_convert_bytes_back w src dst e ⟨g, 0, none⟩ cap l hs he hd fun j hj => ?_
  rw [Addr.add_lit, Nat.zero_add, cell_of_row w g j _ t (0, 0) hg]
  simp [byteCells, List.getElem?_append_left, hj]
theorem ofBytes_append (a b : ByteArray) : (⟨(a.data.toList ++ b.data.toList).toArray⟩ : ByteArray) = a ++ b := by
  rw [← ByteArray.mk_append_mk]
/-- The row behind an owned slice. -/
theorem rowOf {w : World} {base e g n cap : Nat} {xs : List Value} (h : w.ownsRow base e 1 (.slice (some ⟨g, 0, none⟩) n cap) n xs) (hc : cap = n) :
    w.heap[g]? = some (.cells xs.toArray e (0, 0)) ∧ xs.length = n := by
  refine ⟨?_, by simpa using h.1⟩
  rcases h.2 with ⟨h', _⟩ | ⟨g', cap', cur, h', _, hg, _, _, hcs, htake⟩
  · simp at h'
  · simp only [Value.slice.injEq, Option.some.injEq, Addr.mk.injEq, and_true, true_and] at h'
    obtain ⟨rfl, rfl⟩ := h'
    rw [hg, ← htake, List.take_of_length_le (by rw [Array.length_toList, hcs, hc]; exact Nat.le_refl _)]
theorem splice_two {α : Type} (L A B : List α) (h : L.length = A.length + B.length) : splice (splice L 0 A) A.length B = A ++ B := by
  have e : splice L 0 A = A ++ L.drop A.length := by simp [splice]
  rw [e]
  unfold splice
  rw [List.take_left, List.drop_eq_nil_of_le (by simp; omega)]
  simp
theorem splice_one {α : Type} (L A : List α) (h : L.length = A.length) : splice L 0 A = A := by
  unfold splice
  rw [List.drop_eq_nil_of_le (by omega)]
  simp
end Go.Proofs.YtjkmfjegphpjkaaGreatDoor
namespace Go.Proofs.YtjkmfjegphpjkaaGreatDoor
open Go.RowKit

theorem infoByte : (Tryz.prog.info? 5).map (fun i => (i.zero, i.size, i.bytes)) = some (some (.int .u8 0), 1, 1) := by kernel_rfl
theorem byteSize : (Tryz.prog.info? 5).map (·.size) = some 1 := by kernel_rfl
theorem ret_int {k : IntKind} {a b : Int} (h : a = b) : Ending.returned (.int k a) = .returned (.int k b) := by rw [h]
theorem u8_lt (c : UInt8) : (c.toNat : Int) ≤ 255 := by have := c.toNat_lt; omega
/-- A TextOut as a value. -/
def outV (t : ByteArray) (at' code : Int) : Value := .agg #[.string t, .int .i64 at', .int .i64 code]
end Go.Proofs.YtjkmfjegphpjkaaGreatDoor
namespace Go.Proofs.YtjkmfjegphpjkaaGreatDoor
open Go.RowKit Go.Lib

/-- The sign of six bits. -/
def sg (k : Nat) : Int := (([65, 66, 67, 68, 69, 70, 71, 72, 73, 74, 75, 76, 77, 78, 79, 80, 81, 82, 83, 84, 85, 86, 87, 88, 89, 90, 97, 98, 99, 100, 101, 102, 103, 104, 105, 106, 107, 108, 109, 110, 111, 112, 113, 114, 115, 116, 117, 118, 119, 120, 121, 122, 48, 49, 50, 51, 52, 53, 54, 55, 56, 57, 45, 95] : List Int)).getD k 0
/-- A text's bytes as numbers. -/
def bts (s : ByteArray) : List Nat := s.data.toList.map UInt8.toNat
/-- Eight bits by eight as six by six; noughts behind what is left. -/
def b64 : List Nat → List Nat
  | [] => []
  | [a] => [a / 4, a % 4 * 16]
  | [a, b] => [a / 4, a % 4 * 16 + b / 16, b % 16 * 4]
  | a :: b :: c :: r => a / 4 :: (a % 4 * 16 + b / 16) :: (b % 16 * 4 + c / 64) :: (c % 64) :: b64 r
def b64I (l : List Nat) : List Int := (b64 l).map sg
def b64D (s : ByteArray) : ByteArray := strOfNums (b64I (bts s))
/-- What Base64 tells of a text. -/
def base64D (s : ByteArray) : ByteArray := if 4000 < s.size then ⟨#[]⟩ else b64D s
theorem bts_len (s : ByteArray) : (bts s).length = s.size := by unfold bts; rw [List.length_map, ← size_eq]
theorem bts_drop (s : ByteArray) (k : Nat) (h : k < s.size) : (bts s).drop k = s[k].toNat :: (bts s).drop (k + 1) := by
  have h' : k < (bts s).length := by rw [bts_len]; exact h
  rw [List.drop_eq_getElem_cons h']
  congr 1
  simp only [bts, List.getElem_map]
  rfl
theorem bts_end (s : ByteArray) (k : Nat) (h : s.size ≤ k) : (bts s).drop k = [] := List.drop_eq_nil_of_le (by rw [bts_len]; exact h)
theorem b64_len : ∀ (l : List Nat), (b64 l).length ≤ 2 * l.length
  | [] => Nat.le_refl _
  | [_] => Nat.le_refl _
  | [_, _] => by simp [b64]
  | _ :: _ :: _ :: r => by
    have := b64_len r
    simp only [b64, List.length_cons]
    omega
theorem b64I_len (l : List Nat) : (b64I l).length ≤ 2 * l.length := by unfold b64I; rw [List.length_map]; exact b64_len l
theorem idxSg8 (q : Nat) (h : q < 64) (w : World) :
    (Instr.index 9 (.string ⟨#[65, 66, 67, 68, 69, 70, 71, 72, 73, 74, 75, 76, 77, 78, 79, 80, 81, 82, 83, 84, 85, 86, 87, 88, 89, 90, 97, 98, 99, 100, 101, 102, 103, 104, 105, 106, 107, 108, 109, 110, 111, 112, 113, 114, 115, 116, 117, 118, 119, 120, 121, 122, 48, 49, 50, 51, 52, 53, 54, 55, 56, 57, 45, 95]⟩) (.int .u8 (q : Int))).run Tryz.prog w = .ok (.int .u8 (sg q)) w := by
  have hq : q = 0 ∨ q = 1 ∨ q = 2 ∨ q = 3 ∨ q = 4 ∨ q = 5 ∨ q = 6 ∨ q = 7 ∨ q = 8 ∨ q = 9 ∨ q = 10 ∨ q = 11 ∨ q = 12 ∨ q = 13 ∨ q = 14 ∨ q = 15 ∨ q = 16 ∨ q = 17 ∨ q = 18 ∨ q = 19 ∨ q = 20 ∨ q = 21 ∨ q = 22 ∨ q = 23 ∨ q = 24 ∨ q = 25 ∨ q = 26 ∨ q = 27 ∨ q = 28 ∨ q = 29 ∨ q = 30 ∨ q = 31 ∨ q = 32 ∨ q = 33 ∨ q = 34 ∨ q = 35 ∨ q = 36 ∨ q = 37 ∨ q = 38 ∨ q = 39 ∨ q = 40 ∨ q = 41 ∨ q = 42 ∨ q = 43 ∨ q = 44 ∨ q = 45 ∨ q = 46 ∨ q = 47 ∨ q = 48 ∨ q = 49 ∨ q = 50 ∨ q = 51 ∨ q = 52 ∨ q = 53 ∨ q = 54 ∨ q = 55 ∨ q = 56 ∨ q = 57 ∨ q = 58 ∨ q = 59 ∨ q = 60 ∨ q = 61 ∨ q = 62 ∨ q = 63 := by omega
  rcases hq with rfl | rfl | rfl | rfl | rfl | rfl | rfl | rfl | rfl | rfl | rfl | rfl | rfl | rfl | rfl | rfl | rfl | rfl | rfl | rfl | rfl | rfl | rfl | rfl | rfl | rfl | rfl | rfl | rfl | rfl | rfl | rfl | rfl | rfl | rfl | rfl | rfl | rfl | rfl | rfl | rfl | rfl | rfl | rfl | rfl | rfl | rfl | rfl | rfl | rfl | rfl | rfl | rfl | rfl | rfl | rfl | rfl | rfl | rfl | rfl | rfl | rfl | rfl | rfl <;> (show _ = _; kernel_rfl)
theorem idxSg (q : Nat) (h : q < 64) (w : World) :
    (Instr.index 9 (.string ⟨#[65, 66, 67, 68, 69, 70, 71, 72, 73, 74, 75, 76, 77, 78, 79, 80, 81, 82, 83, 84, 85, 86, 87, 88, 89, 90, 97, 98, 99, 100, 101, 102, 103, 104, 105, 106, 107, 108, 109, 110, 111, 112, 113, 114, 115, 116, 117, 118, 119, 120, 121, 122, 48, 49, 50, 51, 52, 53, 54, 55, 56, 57, 45, 95]⟩) (.int .i64 (q : Int))).run Tryz.prog w = .ok (.int .u8 (sg q)) w := by
  have hq : q = 0 ∨ q = 1 ∨ q = 2 ∨ q = 3 ∨ q = 4 ∨ q = 5 ∨ q = 6 ∨ q = 7 ∨ q = 8 ∨ q = 9 ∨ q = 10 ∨ q = 11 ∨ q = 12 ∨ q = 13 ∨ q = 14 ∨ q = 15 ∨ q = 16 ∨ q = 17 ∨ q = 18 ∨ q = 19 ∨ q = 20 ∨ q = 21 ∨ q = 22 ∨ q = 23 ∨ q = 24 ∨ q = 25 ∨ q = 26 ∨ q = 27 ∨ q = 28 ∨ q = 29 ∨ q = 30 ∨ q = 31 ∨ q = 32 ∨ q = 33 ∨ q = 34 ∨ q = 35 ∨ q = 36 ∨ q = 37 ∨ q = 38 ∨ q = 39 ∨ q = 40 ∨ q = 41 ∨ q = 42 ∨ q = 43 ∨ q = 44 ∨ q = 45 ∨ q = 46 ∨ q = 47 ∨ q = 48 ∨ q = 49 ∨ q = 50 ∨ q = 51 ∨ q = 52 ∨ q = 53 ∨ q = 54 ∨ q = 55 ∨ q = 56 ∨ q = 57 ∨ q = 58 ∨ q = 59 ∨ q = 60 ∨ q = 61 ∨ q = 62 ∨ q = 63 := by omega
  rcases hq with rfl | rfl | rfl | rfl | rfl | rfl | rfl | rfl | rfl | rfl | rfl | rfl | rfl | rfl | rfl | rfl | rfl | rfl | rfl | rfl | rfl | rfl | rfl | rfl | rfl | rfl | rfl | rfl | rfl | rfl | rfl | rfl | rfl | rfl | rfl | rfl | rfl | rfl | rfl | rfl | rfl | rfl | rfl | rfl | rfl | rfl | rfl | rfl | rfl | rfl | rfl | rfl | rfl | rfl | rfl | rfl | rfl | rfl | rfl | rfl | rfl | rfl | rfl | rfl <;> (show _ = _; kernel_rfl)
theorem and63 (n : Int) : bits .and .i64 n 63 = n % 64 := by
  have h63 : (BitVec.ofInt 64 63).toNat = 2 ^ 6 - 1 := by decide
  have key : (BitVec.ofInt 64 n &&& BitVec.ofInt 64 63).toNat = (n % ((2 ^ 64 : Nat) : Int)).toNat % 2 ^ 6 := by
    rw [BitVec.toNat_and, BitVec.toNat_ofInt, h63, Nat.and_two_pow_sub_one_eq_mod]
  show IntKind.i64.wrap ((BitVec.ofInt 64 n &&& BitVec.ofInt 64 63).toNat : Nat) = n % 64
  rw [key, IntKind.wrap_i64]
  omega
theorem or_low (p : Nat) (hp : p ≤ 32) (x y : Nat) (hx : x < 2147483648) (hy : y < 2 ^ p) : bits .or .i64 ((x * 2 ^ p : Nat) : Int) (y : Int) = ((x * 2 ^ p + y : Nat) : Int) := by
  have h32 : 2 ^ p ≤ 2 ^ 32 := Nat.pow_le_pow_right (by omega) hp
  have hm : x * 2 ^ p ≤ x * 2 ^ 32 := Nat.mul_le_mul_left _ h32
  have e0 : (2 : Nat) ^ 32 = 4294967296 := by decide
  have e : bits BinOp.or IntKind.i64 ((x * 2 ^ p : Nat) : Int) (y : Int) = IntKind.i64.wrap ((BitVec.ofInt 64 ((x * 2 ^ p : Nat) : Int) ||| BitVec.ofInt 64 (y : Int)).toNat : Nat) := rfl
  rw [e, BitVec.toNat_or, BitVec.toNat_ofInt, BitVec.toNat_ofInt]
  generalize hX : x * 2 ^ p = X at *
  have e1 : ((X : Int) % ((2 ^ 64 : Nat) : Int)).toNat = X := by omega
  have e2 : ((y : Int) % ((2 ^ 64 : Nat) : Int)).toNat = y := by omega
  rw [e1, e2, ← hX, Nat.mul_comm, ← Nat.two_pow_add_eq_or_of_lt hy, IntKind.wrap_i64, Nat.mul_comm, hX]
  omega
end Go.Proofs.YtjkmfjegphpjkaaGreatDoor
namespace Go.Proofs.YtjkmfjegphpjkaaGreatDoor
open Go.RowKit

theorem rowFacts {w : World} {g : Nat} {cs : List Value} {t : TypeId} (hg : w.heap[g]? = some (.cells cs.toArray t (0, 0))) (j : Nat) (v : Value) (hj : cs[j]? = some v) : w.cell? ⟨g, j, none⟩ = some v := by
  rw [cell_of_row w g j _ t (0, 0) hg]; simpa using hj
theorem rowSet {w : World} {g i : Nat} {cs : List Value} {t : TypeId} (v : Value) (hg : w.heap[g]? = some (.cells cs.toArray t (0, 0))) : (w.setCell ⟨g, i, none⟩ v).heap[g]? = some (.cells (cs.set i v).toArray t (0, 0)) := by
  rw [heap_setCell_same w g i _ t v hg]; simp
theorem heap_alloc2 (w : World) (a b : Obj) : ((w.alloc a).alloc b).heap[w.heap.size + 1]? = some b := by
  have := heap_alloc_new (w.alloc a) b
  simpa using this
theorem below_setCells {B g : Nat} {w0 : World} (hB : B ≤ g) : ∀ (vs : List Value) (o : Nat) (w : World), Below B w0 w → Below B w0 (w.setCells g o vs)
  | [], _, _, h => h
  | v :: r, o, _, h => below_setCells hB r (o + 1) _ (h.setCell hB v)
theorem rangeRow {w : World} {g : Nat} {cs : List Value} {t : TypeId} (hg : w.heap[g]? = some (.cells cs.toArray t (0, 0))) : w.rangeAt g 0 cs := fun j v hv => by
  rw [Nat.zero_add]; exact rowFacts hg j v hv
theorem thereRow {w : World} {g : Nat} {cs : List Value} {t : TypeId} (hg : w.heap[g]? = some (.cells cs.toArray t (0, 0))) : w.there g 0 cs.length := fun j hj => by
  rw [Nat.zero_add]
  exact ⟨by rw [rowFacts hg j _ (List.getElem?_eq_getElem hj)]; rfl, frozen_of_row w g j _ t hg⟩
end Go.Proofs.YtjkmfjegphpjkaaGreatDoor
namespace Go.Proofs.YtjkmfjegphpjkaaGreatDoor
open Go.RowKit

/-- Text number i of a row. -/
def tAt (ss : List ByteArray) (i : Nat) : ByteArray := ss.getD i ByteArray.empty
/-- The texts ss lie behind the address (none at all: any address serves). -/
def IsStrs (w : World) (a : Option Addr) (ss : List ByteArray) : Prop := ss = [] ∨ ∃ b o, a = some ⟨b, o, none⟩ ∧ ∀ i, i < ss.length → w.cell? ⟨b, o + i, none⟩ = some (.string (tAt ss i))
/-- .. and its block lies below B. -/
def StrsBelow (B : Nat) (a : Option Addr) (ss : List ByteArray) : Prop := ss = [] ∨ ∀ x, a = some x → x.block < B
theorem IsStrs.below {B : Nat} {w w' : World} {a : Option Addr} {ss : List ByteArray} (h : IsStrs w a ss) (hb : Below B w w') (hB : StrsBelow B a ss) : IsStrs w' a ss := by
  rcases h with rfl | ⟨b, o, rfl, hc⟩
  · exact .inl rfl
  · rcases hB with rfl | hB
    · exact .inl rfl
    · exact .inr ⟨b, o, rfl, fun i hi => by rw [hb.cell (p := ⟨b, o + i, none⟩) (hB ⟨b, o, none⟩ rfl)]; exact hc i hi⟩
theorem IsStrs.lt {w : World} {a : Option Addr} {ss : List ByteArray} (h : IsStrs w a ss) : StrsBelow w.heap.size a ss := by
  rcases h with rfl | ⟨b, o, rfl, hc⟩
  · exact .inl rfl
  · by_cases h0 : ss.length = 0
    · exact .inl (List.eq_nil_of_length_eq_zero h0)
    · refine .inr fun x hx => ?_
      cases hx
      exact World.block_lt_of_cell? w _ (hc 0 (by omega))
theorem IsStrs.keep {w w' : World} {a : Option Addr} {ss : List ByteArray} (h : IsStrs w a ss) (hb : Below w.heap.size w w') : IsStrs w' a ss := h.below hb h.lt
def sCells (ss : List ByteArray) : List Value := ss.map Value.string
theorem sCells_at {ss : List ByteArray} {i : Nat} (h : i < ss.length) : (sCells ss)[i]? = some (.string (tAt ss i)) := by simp [sCells, tAt, List.getD, h]
theorem IsStrs.row {w : World} {g : Nat} {t : TypeId} {ss : List ByteArray} (h : w.heap[g]? = some (.cells (sCells ss).toArray t (0, 0))) : IsStrs w (some ⟨g, 0, none⟩) ss :=
  .inr ⟨g, 0, rfl, fun i hi => by
    rw [Nat.zero_add, cell_of_row w g i _ t (0, 0) h]
    simpa using sCells_at hi⟩
theorem infoText : (Tryz.prog.info? 9).map (fun i => (i.zero, i.size, i.bytes)) = some (some (.string ⟨#[]⟩), 1, 16) := by kernel_rfl
/-- How many bytes and texts there are. -/
def totS : List ByteArray → Nat → Nat
  | _, 0 => 0
  | ss, k + 1 => totS ss k + (tAt ss k).size
theorem totS_mono (ss : List ByteArray) : ∀ {i k : Nat}, i ≤ k → totS ss i ≤ totS ss k := by
  intro i k h
  induction k with
  | zero => obtain rfl : i = 0 := by omega
            exact Nat.le_refl _
  | succ k ih =>
    by_cases e : i = k + 1
    · subst e; exact Nat.le_refl _
    · have := ih (by omega)
      show totS ss i ≤ totS ss k + _
      omega
theorem totS_at (ss : List ByteArray) {i k : Nat} (h : i < k) : (tAt ss i).size ≤ totS ss k := by
  have := totS_mono ss (show i + 1 ≤ k by omega)
  have e : totS ss (i + 1) = totS ss i + (tAt ss i).size := rfl
  omega
/-- What laws.szStringS leaves. -/
def szR (ss : List ByteArray) (left : Int) : Int := if (ss.length : Int) + totS ss ss.length ≤ left then left - ss.length - totS ss ss.length else -1
end Go.Proofs.YtjkmfjegphpjkaaGreatDoor
namespace Go.Proofs.YtjkmfjegphpjkaaGreatDoor
open Go.RowKit

def AnsB (P : Prop) (e : Ending) : Prop := ∃ r : Bool, e = .returned (.bool r) ∧ (r = true ↔ P)
theorem AnsB.yes {P : Prop} {e : Ending} (h : P) (he : e = .returned (.bool true)) : AnsB P e := ⟨true, he, by simp [h]⟩
theorem AnsB.no {P : Prop} {e : Ending} (h : ¬ P) (he : e = .returned (.bool false)) : AnsB P e := ⟨false, he, by simp [h]⟩

def OkN (k : Nat) (n : Int) : Prop := (97 ≤ n ∧ n ≤ 122) ∨ k ≠ 0 ∧ ((48 ≤ n ∧ n ≤ 57) ∨ n = 45)
def OkAt (s : ByteArray) (k : Nat) (h : k < s.size) : Prop := OkN k (s[k].toNat : Int)
def OkTo (s : ByteArray) (k : Nat) : Prop := ∀ j (h : j < s.size), j < k → OkAt s j h
def NameOk (s : ByteArray) : Prop := 1 ≤ s.size ∧ s.size ≤ 40 ∧ OkTo s s.size
theorem okTo_zero (s : ByteArray) : OkTo s 0 := fun j _ h => by omega
theorem okTo_succ (s : ByteArray) (k : Nat) (hk : k < s.size) (h : OkTo s k) (h' : OkAt s k hk) : OkTo s (k + 1) := fun j hj hlt => by
  by_cases e : j = k
  · subst e; exact h'
  · exact h j hj (by omega)
theorem name_no (s : ByteArray) (k : Nat) (hk : k < s.size) (h' : ¬ OkAt s k hk) : ¬ NameOk s := fun h => h' (h.2.2 k hk hk)
def Cls (n : Int) (a z d0 d9 m : Bool) : Prop := decide (97 ≤ n) = a ∧ decide (n ≤ 122) = z ∧ decide (48 ≤ n) = d0 ∧ decide (n ≤ 57) = d9 ∧ (n != 45) = m
theorem cls (n : Int) : n < 45 ∧ Cls n false true false true true ∨ (45 ≤ n ∧ n ≤ 45) ∧ Cls n false true false true false ∨ (46 ≤ n ∧ n ≤ 47) ∧ Cls n false true false true true ∨
    (48 ≤ n ∧ n ≤ 57) ∧ Cls n false true true true true ∨ (58 ≤ n ∧ n ≤ 96) ∧ Cls n false true true false true ∨ (97 ≤ n ∧ n ≤ 122) ∧ Cls n true true true false true ∨ 123 ≤ n ∧ Cls n true false true false true := by
  have h : n < 45 ∨ (45 ≤ n ∧ n ≤ 45) ∨ (46 ≤ n ∧ n ≤ 47) ∨ (48 ≤ n ∧ n ≤ 57) ∨ (58 ≤ n ∧ n ≤ 96) ∨ (97 ≤ n ∧ n ≤ 122) ∨ 123 ≤ n := by omega
  unfold Cls
  simp only [decide_eq_true_eq, decide_eq_false_iff_not, bne_iff_ne, bne_eq_false_iff_eq]
  omega

set_option maxHeartbeats 1000000 in
theorem specName (s : ByteArray) (w : World) (hs : s.size ≤ maxLen) :
    Calls Tryz.prog 38 #[.string s] w fun e w' => AnsB (NameOk s) e ∧ w' = w := by
  unfold maxLen at hs
  by_cases h1 : s.size < 1
  · go_enter Tryz.func38, Tryz.ntmps38
    go_wp2
    go_ret
    exact ⟨AnsB.no (fun h => by have := h.1; omega) rfl, rfl⟩
  by_cases h2 : 40 < s.size
  · go_enter Tryz.func38, Tryz.ntmps38
    go_wp2
    go_ret
    exact ⟨AnsB.no (fun h => by have := h.2.1; omega) rfl, rfl⟩
  go_enter Tryz.func38, Tryz.ntmps38
  go_wp2
  go_loop [3] (fun i => ∃ k : Nat, k ≤ s.size ∧ i = .int .i64 k ∧ OkTo s k) (fun i => s.size - (intOf i).toNat)
  case atStart => exact ⟨0, Nat.zero_le _, rfl, okTo_zero s⟩
  case round =>
    obtain ⟨k, hk, rfl, hok⟩ := hrel
    have HO : Hid (OkTo s k) := hok
    clear hok
    by_cases hlt : k < s.size
    · by_cases hk0 : k < 1
      · obtain rfl : k = 0 := by omega
        rcases cls (s[0].toNat : Int) with ⟨c, e1, e2, e3, e4, e5⟩ | ⟨c, e1, e2, e3, e4, e5⟩ | ⟨c, e1, e2, e3, e4, e5⟩ | ⟨c, e1, e2, e3, e4, e5⟩ | ⟨c, e1, e2, e3, e4, e5⟩ | ⟨c, e1, e2, e3, e4, e5⟩ | ⟨c, e1, e2, e3, e4, e5⟩
        all_goals
          go_wp2
          first
            | (go_ret; exact ⟨AnsB.no (name_no s 0 hlt (by unfold OkAt OkN; omega)) rfl, rfl⟩)
            | exact ⟨⟨1, by omega, rfl, okTo_succ s 0 hlt HO.out (by unfold OkAt OkN; omega)⟩, by simp [intOf]; omega⟩
      · have ek : ((k : Int) == 0) = false := by simp; omega
        rcases cls (s[k].toNat : Int) with ⟨c, e1, e2, e3, e4, e5⟩ | ⟨c, e1, e2, e3, e4, e5⟩ | ⟨c, e1, e2, e3, e4, e5⟩ | ⟨c, e1, e2, e3, e4, e5⟩ | ⟨c, e1, e2, e3, e4, e5⟩ | ⟨c, e1, e2, e3, e4, e5⟩ | ⟨c, e1, e2, e3, e4, e5⟩
        all_goals
          go_wp2
          first
            | (go_ret; exact ⟨AnsB.no (name_no s k hlt (by unfold OkAt OkN; omega)) rfl, rfl⟩)
            | exact ⟨⟨k + 1, by omega, by go_num, okTo_succ s k hlt HO.out (by unfold OkAt OkN; omega)⟩, by simp [intOf]; omega⟩
    · go_wp2
      go_ret
      have e : k = s.size := by omega
      have hf := HO.out
      rw [e] at hf
      exact ⟨AnsB.yes ⟨by omega, by omega, hf⟩ rfl, rfl⟩
end Go.Proofs.YtjkmfjegphpjkaaGreatDoor
namespace Go.Proofs.YtjkmfjegphpjkaaGreatDoor

def secB (x : Int) : Bool := decide (1 ≤ x ∧ x < 1073741789)
end Go.Proofs.YtjkmfjegphpjkaaGreatDoor
namespace Go.Proofs.YtjkmfjegphpjkaaGreatDoor
open Go.RowKit

/-- A power modulo m. -/
def pm (a n m : Nat) : Nat := a ^ n % m
theorem pm_lt (a n : Nat) {m : Nat} (h : 2 ≤ m) : pm a n m < m := Nat.mod_lt _ (by omega)
theorem pm_zero (a : Nat) {m : Nat} (h : 2 ≤ m) : pm a 0 m = 1 := by
  unfold pm; rw [Nat.pow_zero]; exact Nat.mod_eq_of_lt (by omega)
theorem pm_one (a m : Nat) : pm a 1 m = a % m := by unfold pm; rw [Nat.pow_one]
theorem pm_two (a m : Nat) : pm a 2 m = a * a % m := by unfold pm; rw [Nat.pow_two]
theorem pm_base (a n m : Nat) : pm (a % m) n m = pm a n m := by unfold pm; exact (Nat.pow_mod a n m).symm
theorem mm (a b m : Nat) : a % m * (b % m) % m = a * b % m := (Nat.mul_mod a b m).symm
theorem pm_mul (y a b p : Nat) : pm y a p * pm y b p % p = pm y (a + b) p := by
  unfold pm; rw [mm, ← Nat.pow_add]
theorem pm_pm (y a b p : Nat) : pm (pm y a p) b p = pm y (a * b) p := by
  unfold pm; rw [← Nat.pow_mod, ← Nat.pow_mul]
theorem pm_unit {y q p : Nat} (hp : 2 ≤ p) (h : pm y q p = 1) (n : Nat) : pm y (q * n) p = 1 := by
  rw [← pm_pm, h]
  unfold pm
  rw [Nat.one_pow]
  exact Nat.mod_eq_of_lt (by omega)
theorem pm_red {y q p : Nat} (hp : 2 ≤ p) (h : pm y q p = 1) (n : Nat) : pm y (n % q) p = pm y n p := by
  conv => rhs; rw [← Nat.div_add_mod n q]
  rw [← pm_mul, pm_unit hp h, Nat.one_mul]
  exact (Nat.mod_eq_of_lt (pm_lt y _ hp)).symm
/-- A power of what comes round at q comes round at q. -/
theorem pm_in {y q p : Nat} (hp : 2 ≤ p) (h : pm y q p = 1) (n : Nat) : pm (pm y n p) q p = 1 := by
  rw [pm_pm, Nat.mul_comm, pm_unit hp h]
/-- What comes round is no multiple of the modulus. -/
theorem pm_pos {y q p : Nat} (hq : 1 ≤ q) (h : pm y q p = 1) : 1 ≤ y % p := by
  rcases Nat.eq_zero_or_pos (y % p) with e | e
  · rw [← pm_base, e] at h
    unfold pm at h
    rw [Nat.zero_pow (by omega)] at h
    simp at h
  · exact e

/-- What the rounds keep: all times square to what is left is the power that is asked for. -/
def PowInv (A N m out a n : Nat) : Prop := out < m ∧ out * a ^ n % m = pm A N m
theorem PowInv.start (A N : Nat) {m : Nat} (h : 2 ≤ m) : PowInv A N m 1 A N := ⟨by omega, by rw [Nat.one_mul]; rfl⟩
theorem PowInv.start' (A N : Nat) {m : Nat} (h : 2 ≤ m) : PowInv A N m 1 (A % m) N := ⟨by omega, by rw [Nat.one_mul, ← Nat.pow_mod]; rfl⟩
theorem PowInv.done {A N m out a : Nat} (h : PowInv A N m out a 0) : out = pm A N m := by
  have := h.2; rw [Nat.pow_zero, Nat.mul_one, Nat.mod_eq_of_lt h.1] at this; exact this
theorem half_even {n : Nat} (e : n % 2 = 0) (a : Nat) : a ^ n = (a * a) ^ (n / 2) := by
  rw [← Nat.pow_two, ← Nat.pow_mul, show 2 * (n / 2) = n from by omega]
theorem half_odd {n : Nat} (e : n % 2 = 1) (a : Nat) : a ^ n = a * (a * a) ^ (n / 2) := by
  rw [← Nat.pow_two, ← Nat.pow_mul, Nat.mul_comm a, ← Nat.pow_succ, show (2 * (n / 2)).succ = n from by omega]
theorem PowInv.even {A N m out a n : Nat} (e : n % 2 = 0) (h : PowInv A N m out a n) : PowInv A N m out (a * a % m) (n / 2) := by
  refine ⟨h.1, ?_⟩
  rw [← h.2, half_even e, Nat.mul_mod, ← Nat.pow_mod, ← Nat.mul_mod]
theorem PowInv.odd {A N m out a n : Nat} (hm : 2 ≤ m) (e : n % 2 = 1) (h : PowInv A N m out a n) : PowInv A N m (out * a % m) (a * a % m) (n / 2) := by
  refine ⟨Nat.mod_lt _ (by omega), ?_⟩
  rw [← h.2, half_odd e, Nat.mul_mod, ← Nat.pow_mod, Nat.mod_mod, ← Nat.mul_mod, Nat.mul_assoc]
end Go.Proofs.YtjkmfjegphpjkaaGreatDoor
namespace Go.Proofs.YtjkmfjegphpjkaaGreatDoor
open Go.RowKit

/-- A power modulo m, reckoned quickly: f rounds at most. -/
def qp : Nat → Nat → Nat → Nat → Nat → Nat
  | 0, _, _, _, out => out
  | f + 1, a, n, m, out => if n = 0 then out else qp f (a * a % m) (n / 2) m (if n % 2 = 1 then out * a % m else out)
theorem qp_inv {A N m : Nat} (hm : 2 ≤ m) : ∀ (f a n out : Nat), n < 2 ^ f → PowInv A N m out a n → qp f a n m out = pm A N m
  | 0, a, n, out, h, k => by
    have : n = 0 := by simp at h; omega
    subst this
    exact k.done
  | f + 1, a, n, out, h, k => by
    rw [qp]
    by_cases h0 : n = 0
    · subst h0
      rw [if_pos rfl]
      exact k.done
    · rw [if_neg h0]
      have hn : n / 2 < 2 ^ f := by rw [Nat.pow_succ] at h; omega
      by_cases e : n % 2 = 1
      · rw [if_pos e]
        exact qp_inv hm f _ _ _ hn (k.odd hm e)
      · rw [if_neg e]
        exact qp_inv hm f _ _ _ hn (k.even (by omega))
theorem qp_pm (a n : Nat) {m : Nat} (hm : 2 ≤ m) (f : Nat) (h : n < 2 ^ f) : pm a n m = qp f a n m 1 := (qp_inv hm f a n 1 h (PowInv.start a n hm)).symm
theorem pm4 : pm 4 1073741789 2147483579 = 1 := by
  rw [qp_pm 4 1073741789 (by omega) 31 (by decide)]
  decide +kernel
/-- No number from 2 to the root of q divides q. -/
def noDiv (q : Nat) : Nat → Bool
  | 0 => true
  | d + 1 => decide (q % (d + 2) ≠ 0) && noDiv q d
theorem noDiv_at {q : Nat} : ∀ {n d : Nat}, noDiv q n = true → 2 ≤ d → d < n + 2 → q % d ≠ 0
  | 0, d, _, h2, h3 => by omega
  | n + 1, d, h, h2, h3 => by
    simp only [noDiv, Bool.and_eq_true, decide_eq_true_eq] at h
    by_cases e : d = n + 2
    · subst e; exact h.1
    · exact noDiv_at h.2 h2 (by omega)
theorem noDivQ : noDiv 1073741789 32767 = true := by decide +kernel
theorem primeQ {d : Nat} (h : d ∣ 1073741789) (hl : d < 1073741789) : d = 1 := by
  obtain ⟨e, he⟩ := h
  by_cases d1 : d = 1
  · exact d1
  exfalso
  have d0 : d ≠ 0 := by intro h; subst h; simp at he
  have e0 : e ≠ 0 := by intro h; subst h; simp at he
  have e1 : e ≠ 1 := by intro h; subst h; simp at he; omega
  by_cases hd : d < 32769
  · exact noDiv_at noDivQ (d := d) (by omega) (by omega) (by rw [he]; exact Nat.mul_mod_right d e)
  by_cases hq : e < 32769
  · exact noDiv_at noDivQ (d := e) (by omega) (by omega) (by rw [he]; exact Nat.mul_mod_left d e)
  have : 32769 * 32769 ≤ d * e := Nat.mul_le_mul (by omega) (by omega)
  omega
theorem pm_gcd {y p : Nat} (hp : 2 ≤ p) : ∀ (a b : Nat), pm y a p = 1 → pm y b p = 1 → pm y (Nat.gcd a b) p = 1 := by
  intro a b
  induction a, b using Nat.gcd.induction with
  | H0 n => intro _ h; rw [Nat.gcd_zero_left]; exact h
  | H1 m n hm ih =>
    intro h1 h2
    rw [Nat.gcd_rec]
    exact ih (by rw [pm_red hp h1]; exact h2) h1
/-- A power of 4 that is 1 is none from 1 to q less 1. -/
theorem pm4_ne {x : Nat} (h1 : 1 ≤ x) (h2 : x < 1073741789) : pm 4 x 2147483579 ≠ 1 := by
  intro h
  have hg := pm_gcd (y := 4) (p := 2147483579) (by omega) x 1073741789 h pm4
  have hd : Nat.gcd x 1073741789 = 1 := primeQ (Nat.gcd_dvd_right _ _) (Nat.lt_of_le_of_lt (Nat.gcd_le_left _ (by omega)) h2)
  rw [hd, pm_one] at hg
  omega
theorem pm_prod (a b n p : Nat) : pm (a * b % p) n p = pm a n p * pm b n p % p := by
  unfold pm
  rw [← Nat.pow_mod, Nat.mul_pow, ← Nat.mul_mod]
/-- What a signature leads to: the power that it was made with. -/
theorem sig_back {g q p k e x : Nat} (hp : 2 ≤ p) (hg : pm g q p = 1) (he : e < q) :
    pm g ((k + e * x) % q) p * pm (pm g x p) (q - e) p % p = pm g k p := by
  rw [pm_red hp hg, pm_pm, pm_mul]
  have h1 : e * x + x * (q - e) = q * x := by
    rw [Nat.mul_comm e x, ← Nat.mul_add, show e + (q - e) = q from by omega, Nat.mul_comm]
  rw [Nat.add_assoc, h1, ← pm_mul, pm_unit hp hg, Nat.mul_one]
  exact Nat.mod_eq_of_lt (pm_lt g _ hp)
end Go.Proofs.YtjkmfjegphpjkaaGreatDoor
namespace Go.Proofs.YtjkmfjegphpjkaaGreatDoor
open Go.RowKit

/-- A product of two remainders, as the walk has it. -/
theorem prod_bd (a b : Nat) (ha : a ≤ 2147483647) (hb : b ≤ 2147483647) : ∃ p : Nat, p = a * b ∧ (a : Int) * (b : Int) = (p : Int) ∧ (0 : Int) ≤ (p : Int) ∧ (p : Int) ≤ 4611686018427387904 := by
  refine ⟨a * b, rfl, by rw [Int.natCast_mul], by omega, ?_⟩
  have : a * b ≤ 2147483647 * 2147483647 := Nat.mul_le_mul ha hb
  omega
theorem tmodN (p m : Nat) : (p : Int).tmod (m : Int) = ((p % m : Nat) : Int) := by
  rw [Int.tmod_eq_emod_of_nonneg (Int.natCast_nonneg _)]; rfl

end Go.Proofs.YtjkmfjegphpjkaaGreatDoor
namespace Go.Proofs.YtjkmfjegphpjkaaGreatDoor
open Go.RowKit

theorem i64_and1 (n : Int) : bits .and .i64 n 1 = n % 2 := by
  have h1 : (BitVec.ofInt 64 1).toNat = 2 ^ 1 - 1 := by decide
  have key : (BitVec.ofInt 64 n &&& BitVec.ofInt 64 1).toNat = (n % ((2 ^ 64 : Nat) : Int)).toNat % 2 ^ 1 := by
    rw [BitVec.toNat_and, BitVec.toNat_ofInt, h1, Nat.and_two_pow_sub_one_eq_mod]
  show IntKind.i64.wrap ((BitVec.ofInt 64 n &&& BitVec.ofInt 64 1).toNat : Nat) = n % 2
  rw [key, IntKind.wrap_i64]
  omega
/-- What 'modulo' answers: a function that keeps the modulus in block g. -/
def restV (g : Nat) : Value := .func (.func 116) #[] #[.pointer (some ⟨g, 0, none⟩)]
theorem implModulo (m : Int) (w : World) :
    Calls Tryz.prog 98 #[.int .i64 m] w fun e w' => e = .returned (restV w.heap.size) ∧ w' = w.alloc (.cells #[.int .i64 m] 2 (0, 0)) := by
  have hmf : ∀ (fn : Fn) (first cap : Array Value) (w : World), (Instr.makeFunc fn first cap).run Tryz.prog w = .ok (.func fn first cap) w := fun _ _ _ _ => rfl
  go_enter Tryz.func98, Tryz.ntmps98
  go_wp2
  go_ret
  exact ⟨rfl, rfl⟩
theorem implRest (g n m : Nat) (w : World) (hm : 2 ≤ m) (hm2 : m ≤ 2147483647) (hc : w.cell? ⟨g, 0, none⟩ = some (.int .i64 (m : Int))) :
    Calls Tryz.prog 116 #[.int .i64 (n : Int), .pointer (some ⟨g, 0, none⟩)] w fun e w' => e = .returned (.int .i64 ((n % m : Nat) : Int)) ∧ w' = w := by
  have e2 := tmodN n m
  have h0 : ((m : Int) == 0) = false := by rw [beq_eq_false_iff_ne]; omega
  go_enter Tryz.func116, Tryz.ntmps116
  go_wp2
  go_ret
  exact ⟨rfl, rfl⟩
set_option maxHeartbeats 1000000 in
set_option maxRecDepth 100000 in
theorem implProduct (g a b m : Nat) (w : World) (hm : 2 ≤ m) (hm2 : m ≤ 2147483647) (hc : w.cell? ⟨g, 0, none⟩ = some (.int .i64 (m : Int))) :
    Calls Tryz.prog 115 #[.int .i64 (a : Int), .int .i64 (b : Int), restV g] w fun e w' => e = .returned (.int .i64 ((a * b % m : Nat) : Int)) ∧ w' = w := by
  obtain ⟨p, hp, ep, lp, up⟩ := prod_bd (a % m) (b % m) (by have := Nat.mod_lt a (show 0 < m by omega); omega) (by have := Nat.mod_lt b (show 0 < m by omega); omega)
  have hfin : p % m = a * b % m := by rw [hp]; exact mm a b m
  have HF : Hid (p % m = a * b % m) := hfin
  rw [Int.natCast_emod, Int.natCast_emod] at ep
  have t1 := tmodN a m
  have t2 := tmodN b m
  have t3 := tmodN p m
  have h0 : ((m : Int) == 0) = false := by rw [beq_eq_false_iff_ne]; omega
  clear hfin hp
  unfold restV
  go_enter Tryz.func115, Tryz.ntmps115
  go_wp2
  go_ret
  exact ⟨ret_int (by rw [← HF.out]; rfl), rfl⟩
end Go.Proofs.YtjkmfjegphpjkaaGreatDoor
namespace Go.Proofs.YtjkmfjegphpjkaaGreatDoor
open Go.RowKit

/-- Is it a modulus? -/
def modB (m : Int) : Bool := decide (2 ≤ m ∧ m ≤ 2147483647)
theorem modB_nat {m : Int} (h : modB m = true) : ∃ k : Nat, m = (k : Int) ∧ 2 ≤ k ∧ k ≤ 2147483647 := by
  unfold modB at h
  have := of_decide_eq_true h
  exact ⟨m.toNat, by omega, by omega, by omega⟩
def mulA (a b m : Int) : Int := if 0 ≤ a ∧ 0 ≤ b ∧ modB m = true then ((a.toNat * b.toNat % m.toNat : Nat) : Int) else 0
def powA (a n m : Int) : Int := if 0 ≤ a ∧ 0 ≤ n ∧ modB m = true then ((pm a.toNat n.toNat m.toNat : Nat) : Int) else 0
def invA (a m : Int) : Int := if modB m = true ∧ 1 ≤ a ∧ a < m then ((pm a.toNat (m.toNat - 2) m.toNat : Nat) : Int) else 0
theorem mulA_nat (a b k : Nat) (h : modB (k : Int) = true) : mulA a b k = ((a * b % k : Nat) : Int) := by
  rw [mulA, if_pos ⟨by omega, by omega, h⟩]; simp
theorem powA_nat (a n k : Nat) (h : modB (k : Int) = true) : powA a n k = ((pm a n k : Nat) : Int) := by
  rw [powA, if_pos ⟨by omega, by omega, h⟩]; simp
theorem invA_nat (a k : Nat) (h : modB (k : Int) = true) (h1 : 1 ≤ a) (h2 : a < k) : invA a k = ((pm a (k - 2) k : Nat) : Int) := by
  rw [invA, if_pos ⟨h, by omega, by omega⟩]; simp
theorem nat_of {a : Int} (h : ¬ a < 0) : ∃ n : Nat, a = (n : Int) := ⟨a.toNat, by omega⟩

theorem implModRight (m : Int) (w : World) :
    Calls Tryz.prog 96 #[.int .i64 m] w fun e w' => e = .returned (.bool (modB m)) ∧ w' = w := by
  by_cases h1 : 2 ≤ m
  · by_cases h2 : m ≤ 2147483647
    · have e : modB m = true := decide_eq_true ⟨h1, h2⟩
      rw [e]
      go_enter Tryz.func96, Tryz.ntmps96
      go_wp2
      go_ret
      exact ⟨rfl, rfl⟩
    · have e : modB m = false := decide_eq_false (by omega)
      rw [e]
      go_enter Tryz.func96, Tryz.ntmps96
      go_wp2
      go_ret
      exact ⟨rfl, rfl⟩
  · have e : modB m = false := decide_eq_false (by omega)
    rw [e]
    go_enter Tryz.func96, Tryz.ntmps96
    go_wp2
    go_ret
    exact ⟨rfl, rfl⟩
theorem allocBelow (w : World) (o : Obj) : Below w.heap.size w (w.alloc o) := (Below.refl _ w).alloc (Nat.le_refl _) o
theorem newCell (w : World) (v : Value) (t : TypeId) : (w.alloc (.cells #[v] t (0, 0))).cell? ⟨w.heap.size, 0, none⟩ = some v := by simp
end Go.Proofs.YtjkmfjegphpjkaaGreatDoor
