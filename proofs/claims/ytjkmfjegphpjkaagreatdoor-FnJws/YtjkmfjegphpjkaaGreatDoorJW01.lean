/- strings.genSplit off the shelf: its laying at this program. Plain mathematics of numbers in bytes: no program is named here. 'copy(b[i:], s)' of a string into a row that the call owns; 'string(b)' of such a row by its bytes. No program is named. Small facts on the program's types, shared by the walks. The draws' source: '(*l01Src).n', '.one', walked: a number below most; nothing but the source itself turns. The draws' source: '.n', '.one', walked; what grows beside it. The draws' source: 'l01Source', walked: a new source over the bytes that are handed in. '.edge', walked: a number at some limit. Rows that are known whole. No program is named. '.pick', walked: one of some texts. The draws' source and its bytes behind calls that leave them alone. The draws, each as a step from a source at work to a source at work. -/
import Derived.Shelf.Strings.Split
import Derived.Test.YtjkmfjegphpjkaaGreatDoorProg
import Derived.WalkKit
import Derived.WalkSpells
import Derived.WalkLawsBesides
import Derived.Laws.BytesArg
import Derived.Below
import Derived.Laws.CopyOwn
import Derived.Laws.IdiomStrings
import Derived.Lib.BufferWrite
import Derived.Test.YtjkmfjegphpjkaaGreatDoorRows
import Derived.Deep.QuietTactic
import Derived.BigQuiet
import Derived.OpenShut
import Derived.Deep.MidRow
namespace Go.Proofs.YtjkmfjegphpjkaaGreatDoor
open Go.Shelf
def splitLays_ren : Go.Shelf.Ren := ⟨fun | 221 => 90 | 268 => 104 | 138 => 105 | 143 => 106 | 195 => 122 | 197 => 123 | 218 => 124 | 219 => 125 | 260 => 131 | 217 => 132 | 225 => 133 | 224 => 134 | 267 => 135 | 266 => 137 | 314 => 138 | n => n, fun | 9 => 9 | 3 => 3 | 31 => 51 | 4 => 4 | 0 => 0 | 105 => 143 | 21 => 21 | 5 => 5 | 46 => 68 | 119 => 166 | 139 => 169 | 138 => 168 | 146 => 170 | 51 => 110 | n => n, fun | 1 => 2 | 3 => 3 | 4 => 4 | n => n⟩
theorem splitLays : Go.Proofs.Lays.n221 Tryz.prog splitLays_ren := {
  mixed := by kernel_rfl
  f138 := Tryz.func105.trans (congrArg some (by kernel_rfl))
  f143 := Tryz.func106.trans (congrArg some (by kernel_rfl))
  f195 := Tryz.func122.trans (congrArg some (by kernel_rfl))
  f197 := Tryz.func123.trans (congrArg some (by kernel_rfl))
  f217 := Tryz.func132.trans (congrArg some (by kernel_rfl))
  f218 := Tryz.func124.trans (congrArg some (by kernel_rfl))
  f219 := Tryz.func125.trans (congrArg some (by kernel_rfl))
  f221 := Tryz.func90.trans (congrArg some (by kernel_rfl))
  f224 := Tryz.func134.trans (congrArg some (by kernel_rfl))
  f225 := Tryz.func133.trans (congrArg some (by kernel_rfl))
  f260 := Tryz.func131.trans (congrArg some (by kernel_rfl))
  f266 := Tryz.func137.trans (congrArg some (by kernel_rfl))
  f267 := Tryz.func135.trans (congrArg some (by kernel_rfl))
  f268 := Tryz.func104.trans (congrArg some (by kernel_rfl))
  f314 := Tryz.func138.trans (congrArg some (by kernel_rfl))
  t0 := Tryz.underlying0
  a0 := Tryz.isAgg0
  z0 := Tryz.sizeOf0
  v0 := Tryz.zeroValue0
  t3 := Tryz.underlying3
  a3 := Tryz.isAgg3
  z3 := Tryz.sizeOf3
  v3 := Tryz.zeroValue3
  t4 := Tryz.underlying4
  a4 := Tryz.isAgg4
  z4 := Tryz.sizeOf4
  v4 := Tryz.zeroValue4
  t5 := Tryz.underlying5
  a5 := Tryz.isAgg5
  z5 := Tryz.sizeOf5
  v5 := Tryz.zeroValue5
  t9 := Tryz.underlying9
  a9 := Tryz.isAgg9
  z9 := Tryz.sizeOf9
  v9 := Tryz.zeroValue9
  t21 := Tryz.underlying21
  a21 := Tryz.isAgg21
  z21 := Tryz.sizeOf21
  v21 := Tryz.zeroValue21
  t31 := Tryz.underlying51
  a31 := Tryz.isAgg51
  z31 := Tryz.sizeOf51
  v31 := Tryz.zeroValue51
  t46 := Tryz.underlying68
  a46 := Tryz.isAgg68
  z46 := Tryz.sizeOf68
  v46 := Tryz.zeroValue68
  t51 := Tryz.underlying110
  a51 := Tryz.isAgg110
  z51 := Tryz.sizeOf110
  v51 := Tryz.zeroValue110
  t105 := Tryz.underlying143
  a105 := Tryz.isAgg143
  z105 := Tryz.sizeOf143
  v105 := Tryz.zeroValue143
  t119 := Tryz.underlying166
  a119 := Tryz.isAgg166
  z119 := Tryz.sizeOf166
  t138 := Tryz.underlying168
  a138 := Tryz.isAgg168
  z138 := Tryz.sizeOf168
  v138 := Tryz.zeroValue168
  t139 := Tryz.underlying169
  a139 := Tryz.isAgg169
  z139 := Tryz.sizeOf169
  v139 := Tryz.zeroValue169
  t146 := Tryz.underlying170
  a146 := Tryz.isAgg170
  z146 := Tryz.sizeOf170
  v146 := Tryz.zeroValue170
  g1 := by kernel_rfl
  g3 := by kernel_rfl
  g4 := by kernel_rfl }
end Go.Proofs.YtjkmfjegphpjkaaGreatDoor
namespace Go.Proofs.YtjkmfjegphpjkaaGreatDoor
open Go.RowKit

/-- The bytes of a number, the lowest seven bits first; f rounds at most. -/
def putF : Nat → Nat → List Int
  | 0, x => [(x : Int)]
  | f + 1, x => if x < 128 then [(x : Int)] else ((x % 128 + 128 : Nat) : Int) :: putF f (x / 128)
def pw : Nat → Nat
  | 0 => 128
  | f + 1 => 128 * pw f
theorem pw9 : pw 9 = 1180591620717411303424 := by decide
theorem pw_step {f x : Nat} (h : x < pw f) (h1 : 128 ≤ x) : ∃ g, f = g + 1 ∧ x / 128 < pw g := by
  cases f with
  | zero => simp [pw] at h; omega
  | succ g => exact ⟨g, rfl, by simp only [pw] at h; omega⟩
theorem putF_more {f x : Nat} (h : 128 ≤ x) : putF (f + 1) x = ((x % 128 + 128 : Nat) : Int) :: putF f (x / 128) := by
  rw [putF, if_neg (by omega)]
theorem putF_last {f x : Nat} (h : x < 128) : putF f x = [(x : Int)] := by
  cases f with
  | zero => rfl
  | succ g => rw [putF, if_pos h]
/-- A number's sign in its lowest bit. -/
def foldI (n : Int) : Nat := if n < 0 then (-2 * n - 1).toNat else (2 * n).toNat

/-- 'string(b)' of a row that the call owns. -/
theorem run_convert_own {P : Program} {w : World} {base src dst e n : Nat} {v : Value} {xs : List Int} (hs : P.underlying src = some (.slice e)) (he : P.underlying e = some (.int .u8)) (hd : P.underlying dst = some .string)
    (hown : w.ownsRow base e 1 v n (xs.map (Value.int .u8))) : (convert src dst v).run P w = .ok (.string (strOfNums xs)) w := by
  have hl := hown.1
  simp only [List.length_map, Nat.mul_one] at hl
  have hown0 := hown
  rcases hown.2 with ⟨rfl, rfl⟩ | ⟨g, cap, cur, rfl, hbg, hg, hnc, hcm, hcs, htake⟩
  · obtain rfl : xs = [] := List.eq_nil_of_length_eq_zero hl
    exact run_convert_bytes_nil w src e hs he 0 0 dst hd
  · refine run_convert_bytes_arg w src e hs he g 0 n cap xs hl ?_ dst hd
    intro i hi
    rw [Nat.zero_add, hown0.cellAt i (by omega)]
    have hi' : i < xs.length := by omega
    simp [hi', List.getD]
/-- One block more, then a block that is grown: an owned row's step. -/
theorem cells_one {w : World} {b : Nat} {x : Value} (h : w.cell? ⟨b, 0, none⟩ = some x) : ∀ j u, [x][j]? = some u → w.cell? ((⟨b, 0, none⟩ : Addr).add j) = some u := by
  intro j u hj
  match j, hj with
  | 0, hj => simp at hj; subst hj; simpa [Addr.add] using h
theorem oneCell_ints (k : IntKind) (zs : List Int) : ∀ u ∈ zs.map (Value.int k), u.oneCell' = true := ints_oneCell k zs
theorem nat_xor_all (a : Nat) (h : a < 18446744073709551616) : a ^^^ 18446744073709551615 = 18446744073709551615 - a := by
  have e := congrArg BitVec.toNat (BitVec.xor_allOnes (x := BitVec.ofNat 64 a))
  simp only [BitVec.toNat_xor, BitVec.toNat_ofNat, BitVec.toNat_allOnes, BitVec.toNat_not] at e
  rw [Nat.mod_eq_of_lt (by omega)] at e
  simpa using e
theorem fold_bits_neg (n : Int) (h0 : -9223372036854775808 ≤ n) (hn : n < 0) :
    bits BinOp.xor IntKind.u64 (IntKind.u64.wrap (IntKind.u64.wrap n * 2)) (IntKind.u64.wrap (n / 9223372036854775808)) = (foldI n : Int) := by
  have e1 : IntKind.u64.wrap (IntKind.u64.wrap n * 2) = 2 * n + 18446744073709551616 := by simp only [IntKind.wrap_u64]; omega
  have e2 : IntKind.u64.wrap (n / 9223372036854775808) = 18446744073709551615 := by simp only [IntKind.wrap_u64]; omega
  rw [e1, e2, u64_xor _ _ (by omega) (by omega) (by omega) (by omega)]
  have e3 : (18446744073709551615 : Int).toNat = 18446744073709551615 := by omega
  rw [e3, nat_xor_all _ (by omega)]
  unfold foldI
  rw [if_pos hn]
  omega
theorem fold_bits_pos (n : Int) (h1 : n ≤ 9223372036854775807) (hn : 0 ≤ n) :
    bits BinOp.xor IntKind.u64 (n * 2) (n / 9223372036854775808) = (foldI n : Int) := by
  have e2 : n / 9223372036854775808 = 0 := by omega
  rw [e2, u64_xor _ _ (by omega) (by omega) (by omega) (by omega)]
  have e3 : (0 : Int).toNat = 0 := rfl
  rw [e3, Nat.xor_zero]
  unfold foldI
  rw [if_neg (by omega)]
  omega
theorem or128_small : ∀ b : Fin 256, (b.val ||| 128) = b.val % 128 + 128 := by decide +kernel
theorem or128 (x : Nat) : bits BinOp.or IntKind.u8 ((x : Int) % 256) 128 = (x : Int) % 128 + 128 := by
  rw [u8_or _ _ (by omega) (by omega) (by omega) (by omega)]
  have h := or128_small ⟨x % 256, Nat.mod_lt _ (by omega)⟩
  have e : ((x : Int) % 256).toNat = x % 256 := by omega
  have e2 : (128 : Int).toNat = 128 := rfl
  rw [e, e2]
  simp only at h
  rw [h]
  omega
theorem set_reads {L : List Value} {xs : List Int} {y : Int} (hL : xs.length < L.length) (h : ∀ j, j < xs.length → L[j]? = some (.int .u8 (xs.getD j 0))) :
    ∀ j, j < (xs ++ [y]).length → (L.set xs.length (.int .u8 y))[j]? = some (.int .u8 ((xs ++ [y]).getD j 0)) := by
  intro j hj
  simp only [List.length_append, List.length_singleton] at hj
  by_cases e : j = xs.length
  · subst e; simp [hL]
  · rw [List.getElem?_set_ne (by omega), h j (by omega)]
    simp [List.getD, List.getElem?_append_left (show j < xs.length by omega)]
theorem heap_lt {w : World} {k : Nat} {o : Obj} (h : w.heap[k]? = some o) : k < w.heap.size := by
  rcases Nat.lt_or_ge k w.heap.size with h' | h'
  · exact h'
  · rw [Array.getElem?_eq_none h'] at h; cases h
end Go.Proofs.YtjkmfjegphpjkaaGreatDoor
namespace Go.Proofs.YtjkmfjegphpjkaaGreatDoor
open Go.RowKit Go.Lib

theorem wpList_copy_str {P : Program} {w : World} {ops : Array Oper} {rest : List Oper} {o : Oper} {a : Act} {Q : Exit → Act → World → Prop} (hgd : o.guard = none) (d s : Operand) (dT sT : TypeId)
    (ho : o.op = .call { callee := .builtin .copy, args := #[d, s], argTypes := #[dT, sT] }) (elem : TypeId) (hu : P.underlying dT = some (.slice elem)) (hsz : (P.info? elem).map (·.size) = some 1)
    (dp : Option Addr) (dLen dCap : Nat) (str : ByteArray) (hd : a.eval d = .slice dp dLen dCap) (hs : a.eval s = .string str)
    (g off : Nat) (cur : List Value) (t : TypeId) (hg : w.heap[g]? = some (.cells cur.toArray t (0, 0))) (hpos : 0 < str.size → dp = some ⟨g, off, none⟩) (hle : str.size ≤ dLen) (hfit : off + str.size ≤ cur.length)
    (B : Nat) (w0 : World) (hb : Below B w0 w) (hBg : B ≤ g)
    (h : ∀ w', Hid (w'.heap[g]? = some (.cells (splice cur off (byteCells str.data.toList)).toArray t (0, 0))) → Below B w0 w' → w'.heap.size = w.heap.size → wpList P ops Q rest (a.put o.dst (goInt str.size)) w') :
    wpList P ops Q (o :: rest) a w := by
  have hl : (byteCells str.data.toList).length = str.size := by rw [byteCells_length, ← size_eq]
  refine wpList_plain hgd fun K hK => ?_
  by_cases h0 : str.size = 0
  · have hrun := run_copy_empty_string (P := P) w dT sT o.type elem dp dLen dCap str hu (by rw [hsz]; rfl) h0
    have hn : byteCells str.data.toList = [] := List.eq_nil_of_length_eq_zero (by omega)
    unfold Oper.wp
    simp [execOp, ho, resolve, invoke, builtin, hd, hs, hrun, Result.andThen]
    have := h w (show _ = _ by rw [hn]; simpa [splice] using hg) hb rfl
    rw [h0] at this
    exact hK _ _ this
  · obtain rfl := hpos (by omega)
    have hrun := run_copy_row_string (P := P) w dT sT o.type elem g off dLen dCap str cur.toArray t hu hsz hg hle (by simpa using hfit)
    unfold Oper.wp
    simp [execOp, ho, resolve, invoke, builtin, hd, hs, hrun, Result.andThen]
    refine hK _ _ (h _ (show _ = _ from ?_) (below_setRow hb hBg _) (by simp))
    have := setRow_heap w g cur.toArray ((cur.take off ++ byteCells str.data.toList ++ cur.drop (off + str.size)).toArray) t _ hg
    simpa [splice, hl] using this

/-- 'string(b)', b's row known by its bytes. -/
theorem run_convert_row {P : Program} {w : World} {src dst e g cap : Nat} {l : List UInt8} {rest : List Value} {t : TypeId} (hs : P.underlying src = some (.slice e)) (he : P.underlying e = some (.int .u8)) (hd : P.underlying dst = some .string)
    (hg : w.heap[g]? = some (.cells (byteCells l ++ rest).toArray t (0, 0))) : (convert src dst (.slice (some ⟨g, 0, none⟩) l.length cap)).run P w = .ok (.string ⟨l.toArray⟩) w := by
  refine run_convert_bytes_back w src dst e ⟨g, 0, none⟩ cap l hs he hd fun j hj => ?_
  rw [Addr.add_lit, Nat.zero_add, cell_of_row w g j _ t (0, 0) hg]
  simp [byteCells, List.getElem?_append_left, hj]
theorem ofBytes_append (a b : ByteArray) : (⟨(a.data.toList ++ b.data.toList).toArray⟩ : ByteArray) = a ++ b := by
  rw [← ByteArray.mk_append_mk]
/-- The row behind an owned slice. -/
theorem rowOf {w : World} {base e g n cap : Nat} {xs : List Value} (h : w.ownsRow base e 1 (.slice (some ⟨g, 0, none⟩) n cap) n xs) (hc : cap = n) :
    w.heap[g]? = some (.cells xs.toArray e (0, 0)) ∧ xs.length = n := by
  refine ⟨?_, by simpa using h.1⟩
  rcases h.2 with ⟨h', _⟩ | ⟨g', cap', cur, h', _, hg, _, _, hcs, htake⟩
  · simp at h'
  · simp only [Value.slice.injEq, Option.some.injEq, Addr.mk.injEq, and_true, true_and] at h'
    obtain ⟨rfl, rfl⟩ := h'
    rw [hg, ← htake, List.take_of_length_le (by rw [Array.length_toList, hcs, hc]; exact Nat.le_refl _)]
theorem splice_two {α : Type} (L A B : List α) (h : L.length = A.length + B.length) : splice (splice L 0 A) A.length B = A ++ B := by
  have e : splice L 0 A = A ++ L.drop A.length := by simp [splice]
  rw [e]
  unfold splice
  rw [List.take_left, List.drop_eq_nil_of_le (by simp; omega)]
  simp
theorem splice_one {α : Type} (L A : List α) (h : L.length = A.length) : splice L 0 A = A := by
  unfold splice
  rw [List.drop_eq_nil_of_le (by omega)]
  simp
end Go.Proofs.YtjkmfjegphpjkaaGreatDoor
namespace Go.Proofs.YtjkmfjegphpjkaaGreatDoor
open Go.RowKit

theorem infoByte : (Tryz.prog.info? 5).map (fun i => (i.zero, i.size, i.bytes)) = some (some (.int .u8 0), 1, 1) := by kernel_rfl
theorem byteSize : (Tryz.prog.info? 5).map (·.size) = some 1 := by kernel_rfl
theorem ret_int {k : IntKind} {a b : Int} (h : a = b) : Ending.returned (.int k a) = .returned (.int k b) := by rw [h]
theorem u8_lt (c : UInt8) : (c.toNat : Int) ≤ 255 := by have := c.toNat_lt; omega
/-- A TextOut as a value. -/
def outV (t : ByteArray) (at' code : Int) : Value := .agg #[.string t, .int .i64 at', .int .i64 code]
end Go.Proofs.YtjkmfjegphpjkaaGreatDoor
namespace Go.Proofs.YtjkmfjegphpjkaaGreatDoor
open Go.RowKit

/-- The source at block g: its bytes, how many are read, its mix, its size. -/
def SrcAt (g : Nat) (a : Option Addr) (len cap : Nat) (w : World) : Prop :=
  ∃ (p m z : Nat), p ≤ len ∧ m ≤ 18446744073709551615 ∧ z ≤ 12 ∧ w.heap[g]? = some (.cells #[.slice a len cap, .int .i64 p, .int .u64 m, .int .i64 z] 67 (0, 0))
/-- Its bytes can be read. -/
def CodeAt (a : Option Addr) (len : Nat) (w : World) : Prop :=
  len = 0 ∨ ∃ b off, a = some ⟨b, off, none⟩ ∧ ∀ i, i < len → ∃ z : Nat, z ≤ 255 ∧ w.cell? ⟨b, off + i, none⟩ = some (.int .u8 z)
theorem xor_bd (a b : Nat) (ha : a ≤ 18446744073709551615) (hb : b ≤ 18446744073709551615) : ∃ m : Nat, m ≤ 18446744073709551615 ∧ bits BinOp.xor IntKind.u64 (a : Int) (b : Int) = (m : Int) := by
  refine ⟨a ^^^ b, ?_, u64_xor_nat a b (by omega) (by omega)⟩
  have := Nat.xor_lt_two_pow (x := a) (y := b) (n := 64) (by omega) (by omega)
  omega
theorem wrap_bd (x : Int) : ∃ m : Nat, m ≤ 18446744073709551615 ∧ IntKind.u64.wrap x = (m : Int) := by
  rw [IntKind.wrap_u64]
  exact ⟨(x % 18446744073709551616).toNat, by omega, by omega⟩
theorem set2 (W : World) (x : Addr) (v1 v2 : Value) (h : (W.cell? x).isSome = true) : ((W.setCell x v1).setCell x v2).cell? x = some v2 := by
  have h1 := World.cell?_setCell_same' W x v1 h
  exact World.cell?_setCell_same' _ x v2 (by rw [h1]; rfl)
theorem set3 (W : World) (x : Addr) (v1 v2 v3 : Value) (h : (W.cell? x).isSome = true) : (((W.setCell x v1).setCell x v2).setCell x v3).cell? x = some v3 := by
  exact World.cell?_setCell_same' _ x v3 (by rw [set2 W x v1 v2 h]; rfl)
/-- The frame of a call that turns block g alone. -/
def Turns (g : Nat) (w w' : World) : Prop := w.grownBy w' (some g) ∧ w'.heap.size = w.heap.size
theorem Turns.refl (g : Nat) (w : World) : Turns g w w := ⟨World.grownBy.refl _ _, rfl⟩
theorem Turns.trans {g : Nat} {a b c : World} (h : Turns g a b) (k : Turns g b c) : Turns g a c :=
  ⟨⟨k.1.os.trans h.1.os, k.1.tape.trans h.1.tape, k.1.output.trans h.1.output, by rw [k.2, h.2]; exact Nat.le_refl _, fun j hj hn => (k.1.block j (by rw [h.2]; exact hj) hn).trans (h.1.block j hj hn)⟩, k.2.trans h.2⟩
theorem Turns.setCell {g : Nat} {a w : World} (h : Turns g a w) (j : Nat) (v : Value) : Turns g a (w.setCell ⟨g, j, none⟩ v) :=
  ⟨⟨h.1.os, h.1.tape, h.1.output, by simpa using h.1.size, fun k hk hn => (Below.heap_setCell _ _ _ _ (fun e => hn (by simp [e]))).trans (h.1.block k hk hn)⟩, by simpa using h.2⟩
theorem Turns.drew {g : Nat} {a w : World} (h : Turns g a w) : Turns g a w.drew := ⟨⟨h.1.os, h.1.tape, h.1.output, h.1.size, h.1.block⟩, h.2⟩
theorem Turns.drewN {g : Nat} {a w : World} (h : Turns g a w) (n : Nat) : Turns g a (w.drewN n) := ⟨⟨h.1.os, h.1.tape, h.1.output, h.1.size, h.1.block⟩, h.2⟩
theorem Turns.below {g B : Nat} {a w w' : World} (h : Turns g w w') (hb : Below B a w) (hB : B ≤ g) (hs : B ≤ w.heap.size) : Below B a w' :=
  hb.grown h.1 hs (fun k hk => by cases hk; exact hB)
theorem below_max (x : Int) (n most : Nat) (h : x = ((n % most : Nat) : Int)) (hm : most ≤ 4611686018427387904) (h1 : 1 < most) : wrap64 x = ((n % most : Nat) : Int) := by
  have := Nat.mod_lt n (show 0 < most by omega)
  rw [h]
  simp only [wrap64]
  omega
theorem modCast (y m most : Nat) : ((y : Int) + (m : Int) / 1048576) % (most : Int) = (((y + m / 1048576) % most : Nat) : Int) := by
  rw [Int.natCast_emod, Int.natCast_add, Int.natCast_ediv]
  rfl

set_option maxHeartbeats 2000000 in
set_option maxRecDepth 100000 in
theorem srcN (g : Nat) (a : Option Addr) (len cap : Nat) (most : Nat) (w : World) (hlen : len ≤ 1048576) (hm : most ≤ 4611686018427387904) (hs : SrcAt g a len cap w) (hc : CodeAt a len w) (hne : ∀ x, 0 < len → a = some x → x.block ≠ g) :
    Calls Tryz.prog 21 #[.pointer (some ⟨g, 0, none⟩), .int .i64 (most : Int)] w fun e w' =>
      ∃ r : Nat, e = .returned (.int .i64 (r : Int)) ∧ (r < most ∨ r = 0) ∧ SrcAt g a len cap w' ∧ Turns g w w' := by
  by_cases h1 : most ≤ 1
  · go_enter Tryz.func21, Tryz.ntmps21
    go_wp2
    go_ret
    exact ⟨0, rfl, .inr rfl, hs, World.grownBy.refl _ _, rfl⟩
  obtain ⟨p, m, z, hp, hm0, hz, hg⟩ := hs
  have c0 := cell_of_row w g 0 _ _ (0, 0) hg
  have c1 := cell_of_row w g 1 _ _ (0, 0) hg
  have c2 := cell_of_row w g 2 _ _ (0, 0) hg
  have f1 := frozen_of_row w g 1 _ _ hg
  have f2 := frozen_of_row w g 2 _ _ hg
  simp at c0 c1 c2
  obtain ⟨x1, hx1, ew1⟩ := wrap_bd ((m : Int) * 8192)
  obtain ⟨m1, hm1, em1⟩ := xor_bd m x1 hm0 hx1
  obtain ⟨m2, hm2, em2⟩ := xor_bd m1 (m1 / 128) hm1 (by omega)
  rw [show ((m1 / 128 : Nat) : Int) = (m1 : Int) / 128 from by omega] at em2
  obtain ⟨x3, hx3, ew3⟩ := wrap_bd ((m2 : Int) * 131072)
  obtain ⟨m3, hm3, em3⟩ := xor_bd m2 x3 hm2 hx3
  have k2 := fun W h => set2 W ⟨g, 2, none⟩ (.int .u64 (m1 : Int)) (.int .u64 (m2 : Int)) h
  have k3 := fun W h => set3 W ⟨g, 2, none⟩ (.int .u64 (m1 : Int)) (.int .u64 (m2 : Int)) (.int .u64 (m3 : Int)) h
  have HG : Hid (w.heap[g]? = some (.cells #[.slice a len cap, .int .i64 p, .int .u64 m, .int .i64 z] 67 (0, 0))) := hg
  clear hg
  by_cases hpl : p < len
  · obtain ⟨b, off, rfl, hcell⟩ : ∃ b off, a = some ⟨b, off, none⟩ ∧ ∀ i, i < len → ∃ z : Nat, z ≤ 255 ∧ w.cell? ⟨b, off + i, none⟩ = some (.int .u8 z) := by
      rcases hc with h | h
      · omega
      · exact h
    obtain ⟨y, hy, hyc⟩ := hcell p hpl
    have hb := hne _ (by omega) rfl
    have q1 : (0 : Int) ≤ (p : Int) := Int.natCast_nonneg _
    have q2 : (p : Int) < (len : Int) := by omega
    clear hcell hc hne
    go_enter Tryz.func21, Tryz.ntmps21
    go_wp2
    go_quiet (fail)
    go_wp2
    go_quiet (fail)
    go_wp2
    go_region
    go_wp2
    go_region
    go_wp2
    go_region
    go_wp2
    go_ret
    refine ⟨(y + m3 / 1048576) % most, ret_int (below_max _ _ _ (modCast _ _ _) hm (by omega)), .inl (Nat.mod_lt _ (by omega)), ⟨p + 1, m3, z, by omega, hm3, hz, ?_⟩, ?_⟩
    · have h1 := heap_setCell_same w g 1 _ _ (.int .i64 ((p : Int) + 1)) HG.out
      have h2 := heap_setCell_same _ g 2 _ _ (.int .u64 (m1 : Int)) h1
      have h3 := heap_setCell_same _ g 2 _ _ (.int .u64 (m2 : Int)) h2
      have h4 := heap_setCell_same _ g 2 _ _ (.int .u64 (m3 : Int)) h3
      exact h4
    · repeat (first | exact Turns.refl _ _ | refine Turns.drew ?_ | refine Turns.drewN ?_ _ | refine Turns.setCell ?_ _ _)
  · have q2 : (len : Int) ≤ (p : Int) := by omega
    clear hc hne
    go_enter Tryz.func21, Tryz.ntmps21
    go_wp2
    go_quiet (fail)
    go_wp2
    go_region
    go_wp2
    go_region
    go_wp2
    go_region
    go_wp2
    go_ret
    refine ⟨(0 + m3 / 1048576) % most, ret_int (below_max _ _ _ (by have := modCast 0 m3 most; rw [Int.natCast_zero, Int.zero_add] at this; exact this) hm (by omega)), .inl (Nat.mod_lt _ (by omega)), ⟨p, m3, z, hp, hm3, hz, ?_⟩, ?_⟩
    · have h2 := heap_setCell_same w g 2 _ _ (.int .u64 (m1 : Int)) HG.out
      have h3 := heap_setCell_same _ g 2 _ _ (.int .u64 (m2 : Int)) h2
      have h4 := heap_setCell_same _ g 2 _ _ (.int .u64 (m3 : Int)) h3
      exact h4
    · repeat (first | exact Turns.refl _ _ | refine Turns.drew ?_ | refine Turns.drewN ?_ _ | refine Turns.setCell ?_ _ _)
end Go.Proofs.YtjkmfjegphpjkaaGreatDoor
namespace Go.Proofs.YtjkmfjegphpjkaaGreatDoor
open Go.RowKit

structure Src (g : Nat) (a : Option Addr) (len cap : Nat) (w : World) : Prop where
  at_ : SrcAt g a len cap w
  code : CodeAt a len w
  ne : ∀ x, 0 < len → a = some x → x.block ≠ g
  le : len ≤ 1048576
theorem Src.lt {g : Nat} {a : Option Addr} {len cap : Nat} {w : World} (h : Src g a len cap w) : g < w.heap.size := by
  obtain ⟨_, _, _, _, _, _, hg⟩ := h.at_
  exact heap_lt hg
theorem CodeAt.grown {a : Option Addr} {len : Nat} {w w' : World} {row : Option Nat} (h : CodeAt a len w) (hg : w.grownBy w' row) (hne : ∀ x, 0 < len → a = some x → some x.block ≠ row) : CodeAt a len w' := by
  rcases h with h | ⟨b, off, rfl, hc⟩
  · exact .inl h
  · refine .inr ⟨b, off, rfl, fun i hi => ?_⟩
    obtain ⟨z, hz, hcell⟩ := hc i hi
    exact ⟨z, hz, hg.cell hcell (hne ⟨b, off, none⟩ (by omega) rfl)⟩
theorem Src.grown {g : Nat} {a : Option Addr} {len cap : Nat} {w w' : World} {row : Option Nat} (h : Src g a len cap w) (hg : w.grownBy w' row) (hr : some g ≠ row) (hne : ∀ x, 0 < len → a = some x → some x.block ≠ row) : Src g a len cap w' := by
  have hlt := h.lt
  obtain ⟨p, m, z, hp, hm, hz, hh⟩ := h.at_
  exact ⟨⟨p, m, z, hp, hm, hz, (hg.block g hlt hr).trans hh⟩, h.code.grown hg hne, h.ne, h.le⟩
theorem Src.alloc {g : Nat} {a : Option Addr} {len cap : Nat} {w : World} (h : Src g a len cap w) (o : Obj) : Src g a len cap (w.alloc o) :=
  h.grown (World.grownBy_alloc w o none) (by simp) (fun _ _ _ => by simp)
theorem Src.drew {g : Nat} {a : Option Addr} {len cap : Nat} {w : World} (h : Src g a len cap w) : Src g a len cap w.drew := ⟨h.at_, h.code, h.ne, h.le⟩
theorem Src.drewN {g : Nat} {a : Option Addr} {len cap : Nat} {w : World} (h : Src g a len cap w) (n : Nat) : Src g a len cap (w.drewN n) := ⟨h.at_, h.code, h.ne, h.le⟩
theorem n_any (g : Nat) (a : Option Addr) (len cap : Nat) (most : Nat) (w : World) (hm : most ≤ 4611686018427387904) (hs : Src g a len cap w) :
    Calls Tryz.prog 21 #[.pointer (some ⟨g, 0, none⟩), .int .i64 (most : Int)] w fun e w' =>
      ∃ r : Nat, e = .returned (.int .i64 (r : Int)) ∧ (r < most ∨ r = 0) ∧ Src g a len cap w' ∧ Turns g w w' := by
  refine (srcN g a len cap most w hs.le hm hs.at_ hs.code hs.ne).mono ?_
  rintro e w' ⟨r, rfl, hr, h1, h2⟩
  exact ⟨r, rfl, hr, ⟨h1, hs.code.grown h2.1 (fun x h0 hx => by have := hs.ne x h0 hx; simpa using this), hs.ne, hs.le⟩, h2⟩
/-- Some bool is answered. -/
def AnyB (e : Ending) : Prop := e = .returned (.bool true) ∨ e = .returned (.bool false)
theorem one_any (g : Nat) (a : Option Addr) (len cap : Nat) (most : Nat) (w : World) (hm : most ≤ 4611686018427387904) (hs : Src g a len cap w) :
    Calls Tryz.prog 20 #[.pointer (some ⟨g, 0, none⟩), .int .i64 (most : Int)] w fun e w' => AnyB e ∧ Src g a len cap w' ∧ Turns g w w' := by
  have HS : Hid (Src g a len cap w) := hs
  clear hs
  go_enter Tryz.func20, Tryz.ntmps20
  go_wp2_with fail
  refine (n_any g a len cap most _ hm HS.out).mono ?_
  rintro e w' ⟨r, rfl, hr, h1, h2⟩
  have H1 : Hid (Src g a len cap w') := h1
  have H2 : Hid (Turns g w w') := h2
  clear h1 h2 hr
  by_cases h0 : r = 0
  · subst h0
    go_wp2
    go_ret
    exact ⟨.inl rfl, H1.out, H2.out⟩
  · have e0 : ((r : Int) == 0) = false := by rw [beq_eq_false_iff_ne]; omega
    go_wp2
    go_ret
    exact ⟨.inr rfl, H1.out, H2.out⟩
/-- The frame of a call that turns block g and makes new blocks. -/
def Grows (g : Nat) (w w' : World) : Prop := w.grownBy w' (some g)
theorem Grows.refl (g : Nat) (w : World) : Grows g w w := World.grownBy.refl _ _
theorem Turns.grows {g : Nat} {w w' : World} (h : Turns g w w') : Grows g w w' := h.1
theorem Grows.trans {g : Nat} {a b c : World} (h : Grows g a b) (k : Grows g b c) : Grows g a c :=
  ⟨k.os.trans h.os, k.tape.trans h.tape, k.output.trans h.output, Nat.le_trans h.size k.size, fun j hj hn => (k.block j (Nat.lt_of_lt_of_le hj h.size) hn).trans (h.block j hj hn)⟩
theorem Grows.grown {g : Nat} {a b c : World} {row : Option Nat} (h : Grows g a b) (k : b.grownBy c row) (hr : ∀ j, row = some j → a.heap.size ≤ j) : Grows g a c :=
  ⟨k.os.trans h.os, k.tape.trans h.tape, k.output.trans h.output, Nat.le_trans h.size k.size, fun j hj hn => (k.block j (Nat.lt_of_lt_of_le hj h.size) (fun e => by have := hr j e.symm; omega)).trans (h.block j hj hn)⟩
theorem Grows.alloc {g : Nat} {a b : World} (h : Grows g a b) (o : Obj) : Grows g a (b.alloc o) := h.grown (World.grownBy_alloc b o none) (fun j hj => by cases hj)
theorem Grows.drew {g : Nat} {a b : World} (h : Grows g a b) : Grows g a b.drew := ⟨h.os, h.tape, h.output, h.size, h.block⟩
theorem Grows.below {g B : Nat} {a w w' : World} (h : Grows g w w') (hb : Below B a w) (hB : B ≤ g) (hs : B ≤ w.heap.size) : Below B a w' :=
  hb.grown h hs (fun k hk => by cases hk; exact hB)

/-- Some text of k bytes is answered. -/
def AnyT (k : Nat) (e : Ending) : Prop := ∃ t : ByteArray, t.size = k ∧ e = .returned (.string t)
theorem size_nums (xs : List Int) : (strOfNums xs).size = xs.length := by simp [strOfNums, ByteArray.size]
theorem bytesRel {g : Nat} {a : Option Addr} {len cap n : Nat} {w wr w2 w1 : World} {v v' : Value} {xs ys : List Value} (o : Obj) (hblk : ∀ x, 0 < len → a = some x → x.block < w.heap.size) (hg : g < w.heap.size)
    (hT : Turns g wr w2) (hs : Src g a len cap w2) (hgr : Grows g w wr) (hown : w2.ownsRow w.heap.size 5 1 v n xs) (hown' : w1.ownsRow w.heap.size 5 1 v' (n + 1) ys) (hgrow : (w2.alloc o).grownBy w1 v.ownBlock) :
    w1.ownsRow w.heap.size 5 1 v' (n + 1) ys ∧ Src g a len cap w1 ∧ Grows g w w1 := by
  have hlt := fun k hk => (hown.lt k hk).1
  refine ⟨hown', (hs.alloc o).grown hgrow (fun e => by have := hlt g e.symm; omega) (fun x h0 hx e => by have := hlt _ e.symm; have := hblk x h0 hx; omega), ?_⟩
  exact ((hgr.trans hT.grows).alloc o).grown hgrow hlt
/-- Some text of at most k bytes is answered. -/
def UpT (k : Nat) (e : Ending) : Prop := ∃ t : ByteArray, t.size ≤ k ∧ e = .returned (.string t)
end Go.Proofs.YtjkmfjegphpjkaaGreatDoor
namespace Go.Proofs.YtjkmfjegphpjkaaGreatDoor
open Go.RowKit

set_option maxHeartbeats 2000000 in
set_option maxRecDepth 100000 in
theorem source_any (a : Option Addr) (len cap : Nat) (w : World) (hlen : len ≤ 1048576) (hc : CodeAt a len w) (hblk : ∀ x, 0 < len → a = some x → x.block < w.heap.size) :
    Calls Tryz.prog 19 #[.slice a len cap] w fun e w' => e = .returned (.pointer (some ⟨w.heap.size, 0, none⟩)) ∧ Src w.heap.size a len cap w' ∧ Below w.heap.size w w' ∧ w'.heap.size = w.heap.size + 1 := by
  have HC : Hid (CodeAt a len w) := hc
  have HBk : Hid (∀ x, 0 < len → a = some x → x.block < w.heap.size) := hblk
  clear hc hblk
  go_enter Tryz.func19, Tryz.ntmps19
  go_wp2
  go_loopw [4] (fun i wr => ∃ (j m : Nat), j ≤ len ∧ i = .int .i64 j ∧ m ≤ 18446744073709551615 ∧ wr.heap[w.heap.size]? = some (.cells #[.slice a len cap, .int .i64 0, .int .u64 m, .int .i64 0] 67 (0, 0)) ∧ Below w.heap.size w wr ∧ wr.heap.size = w.heap.size + 1)
    (fun i _ => len - (intOf i).toNat)
  case atStart =>
    exact ⟨0, 88172645463325252, Nat.zero_le _, rfl, by omega, heap_alloc_new w _, (Below.refl _ _).alloc (Nat.le_refl _) _, by simp⟩
  case round =>
    obtain ⟨j, m, hj, rfl, hm, hg, hbel, hsz⟩ := hrel
    have c2 := cell_of_row wr w.heap.size 2 _ _ (0, 0) hg
    have f2 := frozen_of_row wr w.heap.size 2 _ _ hg
    have c3 := cell_of_row wr w.heap.size 3 _ _ (0, 0) hg
    have f3 := frozen_of_row wr w.heap.size 3 _ _ hg
    simp at c2 c3
    have HG : Hid (wr.heap[w.heap.size]? = some (.cells #[.slice a len cap, .int .i64 0, .int .u64 m, .int .i64 0] 67 (0, 0))) := hg
    have HB : Hid (Below w.heap.size w wr) := hbel
    clear hg hbel
    by_cases hlt : j < len ∧ j < 64
    · obtain ⟨b, off, rfl, hcell⟩ : ∃ b off, a = some ⟨b, off, none⟩ ∧ ∀ i, i < len → ∃ z : Nat, z ≤ 255 ∧ w.cell? ⟨b, off + i, none⟩ = some (.int .u8 z) := by
        rcases HC.out with h | h
        · omega
        · exact h
      obtain ⟨y, hy, hyc0⟩ := hcell j hlt.1
      have hbb : b < w.heap.size := HBk.out _ (by omega) rfl
      have hyc : wr.cell? ⟨b, off + j, none⟩ = some (.int .u8 y) := (HB.out.cell hbb).trans hyc0
      obtain ⟨x1, hx1, ex1⟩ := xor_bd m y hm (by omega)
      obtain ⟨m1, hm1, em1⟩ := wrap_bd ((x1 : Int) * 1099511628211)
      have q1 : (j : Int) < (len : Int) := by omega
      have q2 : (j : Int) < 64 := by omega
      clear hcell hyc0
      go_wp2
      go_region
      go_wp2
      go_roundw
      case rel =>
        have h1 := heap_setCell_same wr w.heap.size 2 _ _ (.int .u64 (m1 : Int)) HG.out
        exact ⟨j + 1, m1, by omega, by go_num, hm1, h1, (HB.out.setCell (Nat.le_refl _) _).drew, by simpa using hsz⟩
      case measure => simp [intOf]; omega
    · have hout : (len : Int) ≤ (j : Int) ∨ (j : Int) < (len : Int) ∧ 64 ≤ (j : Int) := by omega
      clear hlt
      have hfin : ∀ (W : World) (v : Nat), v ≤ 12 → W.heap[w.heap.size]? = some (.cells #[.slice a len cap, .int .i64 0, .int .u64 m, .int .i64 v] 67 (0, 0)) → Below w.heap.size w W → Src w.heap.size a len cap W := fun W v hv h1 hW => by
        refine ⟨⟨0, m, v, Nat.zero_le _, hm, hv, h1⟩, ?_, fun x h0 hx => by have := HBk.out x h0 hx; omega, hlen⟩
        rcases HC.out with h | ⟨b, off, rfl, hcell⟩
        · exact .inl h
        · refine .inr ⟨b, off, rfl, fun i hi => ?_⟩
          obtain ⟨z, hz, hcl⟩ := hcell i hi
          exact ⟨z, hz, (hW.cell (p := ⟨b, off + i, none⟩) (show b < _ from HBk.out ⟨b, off, none⟩ (by omega) rfl)).trans hcl⟩
      have HF : Hid _ := hfin
      clear hfin
      by_cases h12 : 12 < len / 20
      · have q : (12 : Int) < (len : Int) / 20 := by omega
        rcases hout with ho | ⟨ho, ho'⟩
        all_goals
          go_wp2
          go_ret
          have h1 := heap_setCell_same wr w.heap.size 3 _ _ (.int .i64 ((len : Int) / 20)) HG.out
          have h2 := heap_setCell_same _ w.heap.size 3 _ _ (.int .i64 12) h1
          have hb := (HB.out.setCell (p := ⟨w.heap.size, 3, none⟩) (Nat.le_refl _) (.int .i64 ((len : Int) / 20))).setCell (p := ⟨w.heap.size, 3, none⟩) (Nat.le_refl _) (.int .i64 12)
          exact ⟨rfl, HF.out _ 12 (by omega) h2 hb, hb, by simpa using hsz⟩
      · have q : (len : Int) / 20 ≤ 12 := by omega
        have ecast : ((len / 20 : Nat) : Int) = (len : Int) / 20 := by omega
        have EC : Hid (((len / 20 : Nat) : Int) = (len : Int) / 20) := ecast
        clear ecast
        rcases hout with ho | ⟨ho, ho'⟩
        all_goals
          go_wp2
          go_ret
          have h1 := heap_setCell_same wr w.heap.size 3 _ _ (.int .i64 ((len : Int) / 20)) HG.out
          have hb := HB.out.setCell (p := ⟨w.heap.size, 3, none⟩) (Nat.le_refl _) (.int .i64 ((len : Int) / 20))
          rw [← EC.out] at h1 hb ⊢
          exact ⟨rfl, HF.out _ (len / 20) (by omega) h1 hb, hb, by simpa using hsz⟩
end Go.Proofs.YtjkmfjegphpjkaaGreatDoor
namespace Go.Proofs.YtjkmfjegphpjkaaGreatDoor
open Go.RowKit

/-- Some number of its kind is answered. -/
def AnyI (e : Ending) : Prop := ∃ v : Int, (-9223372036854775808 ≤ v ∧ v ≤ 9223372036854775807) ∧ e = .returned (.int .i64 v)
set_option maxRecDepth 100000 in
set_option maxHeartbeats 1000000 in
theorem edge_any (g : Nat) (a : Option Addr) (len cap : Nat) (w : World) (hs : Src g a len cap w) :
    Calls Tryz.prog 52 #[.pointer (some ⟨g, 0, none⟩)] w fun e w' => AnyI e ∧ Src g a len cap w' ∧ Grows g w w' := by
  have hglt := hs.lt
  have HS : Hid (Src g a len cap w) := hs
  clear hs
  go_enter Tryz.func52, Tryz.ntmps52
  go_wp2_with fail
  refine (n_any g a len cap 14 _ (by omega) (HS.out.alloc _)).mono ?_
  rintro e w1 ⟨r, rfl, hr, hs1, ht1⟩
  have H1 : Hid (Src g a len cap w1) := hs1
  have G1 : Hid (Grows g w w1) := ((Grows.refl g w).alloc _).trans ht1.grows
  have hrow : w1.heap[w.heap.size]? = some (.cells #[.int .i64 0, .int .i64 1, .int .i64 (-1), .int .i64 2, .int .i64 1000, .int .i64 1001, .int .i64 2147483648, .int .i64 2147483647, .int .i64 (-2147483648), .int .i64 4611686018427387904, .int .i64 9223372036854775807, .int .i64 (-9223372036854775808), .int .i64 1000000, .int .i64 1000001] 2 (0, 0)) := by
    rw [ht1.1.block w.heap.size (by simp) (by intro e; have := Option.some.inj e; omega), heap_alloc_new]
  have hcell := cell_of_row w1 w.heap.size r _ _ (0, 0) hrow
  have hr14 : r < 14 := by omega
  obtain ⟨v, hv, hvc⟩ : ∃ v : Int, (-9223372036854775808 ≤ v ∧ v ≤ 9223372036854775807) ∧ w1.cell? ⟨w.heap.size, r, none⟩ = some (.int .i64 v) := by
    rw [hcell]
    have hq : r = 0 ∨ r = 1 ∨ r = 2 ∨ r = 3 ∨ r = 4 ∨ r = 5 ∨ r = 6 ∨ r = 7 ∨ r = 8 ∨ r = 9 ∨ r = 10 ∨ r = 11 ∨ r = 12 ∨ r = 13 := by omega
    rcases hq with rfl | rfl | rfl | rfl | rfl | rfl | rfl | rfl | rfl | rfl | rfl | rfl | rfl | rfl <;> exact ⟨_, by decide, rfl⟩
  have q2 : (r : Int) < 14 := by omega
  clear hrow hcell hs1 ht1 hr
  go_wp2
  go_ret
  exact ⟨⟨v, hv, rfl⟩, H1.out, G1.out⟩
end Go.Proofs.YtjkmfjegphpjkaaGreatDoor
namespace Go.Proofs.YtjkmfjegphpjkaaGreatDoor
open Go.RowKit

theorem rowFacts {w : World} {g : Nat} {cs : List Value} {t : TypeId} (hg : w.heap[g]? = some (.cells cs.toArray t (0, 0))) (j : Nat) (v : Value) (hj : cs[j]? = some v) : w.cell? ⟨g, j, none⟩ = some v := by
  rw [cell_of_row w g j _ t (0, 0) hg]; simpa using hj
theorem rowSet {w : World} {g i : Nat} {cs : List Value} {t : TypeId} (v : Value) (hg : w.heap[g]? = some (.cells cs.toArray t (0, 0))) : (w.setCell ⟨g, i, none⟩ v).heap[g]? = some (.cells (cs.set i v).toArray t (0, 0)) := by
  rw [heap_setCell_same w g i _ t v hg]; simp
theorem heap_alloc2 (w : World) (a b : Obj) : ((w.alloc a).alloc b).heap[w.heap.size + 1]? = some b := by
  have := heap_alloc_new (w.alloc a) b
  simpa using this
theorem below_setCells {B g : Nat} {w0 : World} (hB : B ≤ g) : ∀ (vs : List Value) (o : Nat) (w : World), Below B w0 w → Below B w0 (w.setCells g o vs)
  | [], _, _, h => h
  | v :: r, o, _, h => below_setCells hB r (o + 1) _ (h.setCell hB v)
theorem rangeRow {w : World} {g : Nat} {cs : List Value} {t : TypeId} (hg : w.heap[g]? = some (.cells cs.toArray t (0, 0))) : w.rangeAt g 0 cs := fun j v hv => by
  rw [Nat.zero_add]; exact rowFacts hg j v hv
theorem thereRow {w : World} {g : Nat} {cs : List Value} {t : TypeId} (hg : w.heap[g]? = some (.cells cs.toArray t (0, 0))) : w.there g 0 cs.length := fun j hj => by
  rw [Nat.zero_add]
  exact ⟨by rw [rowFacts hg j _ (List.getElem?_eq_getElem hj)]; rfl, frozen_of_row w g j _ t hg⟩
end Go.Proofs.YtjkmfjegphpjkaaGreatDoor
namespace Go.Proofs.YtjkmfjegphpjkaaGreatDoor
open Go.RowKit

set_option maxRecDepth 100000 in
set_option maxHeartbeats 1000000 in
theorem pick_any (g : Nat) (a : Option Addr) (len cap : Nat) (B m c K : Nat) (T : TypeId) (ss : List ByteArray) (w : World) (hs : Src g a len cap w) (hrow : w.heap[B]? = some (.cells (ss.map Value.string).toArray T (0, 0)))
    (hm : ss.length = m) (h0 : 0 < m) (h1 : m ≤ 100) (hK : ∀ t ∈ ss, t.size ≤ K) (hne : B ≠ g) :
    Calls Tryz.prog 28 #[.pointer (some ⟨g, 0, none⟩), .slice (some ⟨B, 0, none⟩) m c] w fun e w' => UpT K e ∧ Src g a len cap w' ∧ Grows g w w' := by
  have HS : Hid (Src g a len cap w) := hs
  have HR : Hid (w.heap[B]? = some (.cells (ss.map Value.string).toArray T (0, 0))) := hrow
  have HK : Hid (∀ t ∈ ss, t.size ≤ K) := hK
  have HM : Hid (ss.length = m) := hm
  have hB : B < w.heap.size := heap_lt hrow
  clear hs hrow hK hm
  go_enter Tryz.func28, Tryz.ntmps28
  go_wp2_with fail
  refine (n_any g a len cap m _ (by omega) HS.out).mono ?_
  rintro e w1 ⟨r, rfl, hr, hs1, ht1⟩
  have H1 : Hid (Src g a len cap w1) := hs1
  have G1 : Hid (Grows g w w1) := ht1.grows
  have hr1 : r < m := by omega
  have hrow1 : w1.heap[B]? = some (.cells (ss.map Value.string).toArray T (0, 0)) := by
    rw [ht1.1.block B hB (by intro e; exact hne (Option.some.inj e))]; exact HR.out
  have hrl : r < ss.length := by rw [HM.out]; exact hr1
  have hc : w1.cell? ⟨B, r, none⟩ = some (.string (ss[r]'hrl)) := rowFacts hrow1 r _ (by simp [List.getElem?_eq_getElem hrl])
  have hsz : (ss[r]'hrl).size ≤ K := HK.out _ (List.getElem_mem hrl)
  generalize ss[r]'hrl = t at *
  have q1 : (r : Int) < (m : Int) := by omega
  clear hs1 ht1 hr hrow1 hrl
  go_wp2
  go_ret
  exact ⟨⟨t, hsz, rfl⟩, H1.out, G1.out⟩
end Go.Proofs.YtjkmfjegphpjkaaGreatDoor
namespace Go.Proofs.YtjkmfjegphpjkaaGreatDoor
open Go.RowKit

theorem CodeAt.below {a : Option Addr} {len B : Nat} {w w' : World} (h : CodeAt a len w) (hb : Below B w w') (hblk : ∀ x, 0 < len → a = some x → x.block < B) : CodeAt a len w' := by
  rcases h with h | ⟨b, off, rfl, hc⟩
  · exact .inl h
  · refine .inr ⟨b, off, rfl, fun i hi => ?_⟩
    obtain ⟨z, hz, hcell⟩ := hc i hi
    exact ⟨z, hz, (hb.cell (p := ⟨b, off + i, none⟩) (show b < B from hblk ⟨b, off, none⟩ (by omega) rfl)).trans hcell⟩
theorem Src.below {g : Nat} {a : Option Addr} {len cap B : Nat} {w w' : World} (h : Src g a len cap w) (hb : Below B w w') (hg : g < B) (hblk : ∀ x, 0 < len → a = some x → x.block < B) : Src g a len cap w' := by
  obtain ⟨p, m, z, hp, hm, hz, hh⟩ := h.at_
  exact ⟨⟨p, m, z, hp, hm, hz, (hb.block g hg).trans hh⟩, h.code.below hb hblk, h.ne, h.le⟩
end Go.Proofs.YtjkmfjegphpjkaaGreatDoor
namespace Go.Proofs.YtjkmfjegphpjkaaGreatDoor
open Go.RowKit

/-- A source at work, that stands in the first block behind w. -/
def SS (w : World) (a : Option Addr) (len cap : Nat) (W : World) : Prop := Src w.heap.size a len cap W ∧ Below w.heap.size w W ∧ w.heap.size < W.heap.size ∧ ∀ x, 0 < len → a = some x → x.block < w.heap.size
section
variable {w W W' : World} {a : Option Addr} {len cap : Nat}
theorem SS.blk (h : SS w a len cap W) : ∀ x, 0 < len → a = some x → x.block < W.heap.size := fun x h0 hx => by
  have h1 := h.2.2.2 x h0 hx
  have h2 := h.2.2.1
  omega
theorem SS.keep (h : SS w a len cap W) (hb : Below W.heap.size W W') : SS w a len cap W' :=
  ⟨h.1.below hb h.2.2.1 h.blk, h.2.1.trans (hb.mono (Nat.le_of_lt h.2.2.1)), Nat.lt_of_lt_of_le h.2.2.1 hb.size, h.2.2.2⟩
theorem SS.alloc (h : SS w a len cap W) (o : Obj) : SS w a len cap (W.alloc o) := h.keep ((Below.refl _ _).alloc (Nat.le_refl _) o)
theorem SS.grows (h : SS w a len cap W) (h1 : Src w.heap.size a len cap W') (hg : Grows w.heap.size W W') : SS w a len cap W' :=
  ⟨h1, hg.below h.2.1 (Nat.le_refl _) (Nat.le_of_lt h.2.2.1), Nat.lt_of_lt_of_le h.2.2.1 hg.size, h.2.2.2⟩
theorem ss_source (a : Option Addr) (len cap : Nat) (w : World) (hlen : len ≤ 1048576) (hc : CodeAt a len w) (hblk : ∀ x, 0 < len → a = some x → x.block < w.heap.size) :
    Calls Tryz.prog 19 #[.slice a len cap] w fun e w' => e = .returned (.pointer (some ⟨w.heap.size, 0, none⟩)) ∧ SS w a len cap w' := by
  refine (source_any a len cap w hlen hc hblk).mono ?_
  rintro e w1 ⟨rfl, hs1, hb1, hz1⟩
  exact ⟨rfl, hs1, hb1, by omega, hblk⟩
theorem ss_n (most : Nat) (hm : most ≤ 4611686018427387904) (h : SS w a len cap W) :
    Calls Tryz.prog 21 #[.pointer (some ⟨w.heap.size, 0, none⟩), .int .i64 (most : Int)] W fun e w' => ∃ r : Nat, e = .returned (.int .i64 (r : Int)) ∧ (r < most ∨ r = 0) ∧ SS w a len cap w' ∧ (∀ b, b ≠ w.heap.size → b < W.heap.size → w'.heap[b]? = W.heap[b]?) := by
  refine (n_any w.heap.size a len cap most W hm h.1).mono ?_
  rintro e w' ⟨r, rfl, hr, h1, h2⟩
  exact ⟨r, rfl, hr, h.grows h1 h2.grows, fun b hb hl => h2.1.block b hl (by intro e; exact hb (Option.some.inj e))⟩
theorem ss_one (most : Nat) (hm : most ≤ 4611686018427387904) (h : SS w a len cap W) :
    Calls Tryz.prog 20 #[.pointer (some ⟨w.heap.size, 0, none⟩), .int .i64 (most : Int)] W fun e w' => AnyB e ∧ SS w a len cap w' := by
  refine (one_any w.heap.size a len cap most W hm h.1).mono ?_
  rintro e w' ⟨hb, h1, h2⟩
  exact ⟨hb, h.grows h1 h2.grows⟩
theorem ss_edge (h : SS w a len cap W) :
    Calls Tryz.prog 52 #[.pointer (some ⟨w.heap.size, 0, none⟩)] W fun e w' => AnyI e ∧ SS w a len cap w' := by
  refine (edge_any w.heap.size a len cap W h.1).mono ?_
  rintro e w' ⟨hb, h1, h2⟩
  exact ⟨hb, h.grows h1 h2⟩
theorem ss_pick (m c K : Nat) (T : TypeId) (ss : List ByteArray) (h : SS w a len cap W) (hm : ss.length = m) (h0 : 0 < m) (h1 : m ≤ 100) (hK : ∀ t ∈ ss, t.size ≤ K) :
    Calls Tryz.prog 28 #[.pointer (some ⟨w.heap.size, 0, none⟩), .slice (some ⟨W.heap.size, 0, none⟩) m c] (W.alloc (.cells (ss.map Value.string).toArray T (0, 0))) fun e w' => UpT K e ∧ SS w a len cap w' := by
  have h' := h.alloc (.cells (ss.map Value.string).toArray T (0, 0))
  refine (pick_any w.heap.size a len cap W.heap.size m c K T ss _ h'.1 (heap_alloc_new _ _) hm h0 h1 hK (by have := h.2.2.1; omega)).mono ?_
  rintro e w' ⟨hb, h1, h2⟩
  exact ⟨hb, h'.grows h1 h2⟩
end
end Go.Proofs.YtjkmfjegphpjkaaGreatDoor
