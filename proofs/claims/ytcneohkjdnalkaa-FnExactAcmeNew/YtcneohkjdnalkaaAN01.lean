/- Plain mathematics of numbers in bytes: no program is named here. 'copy(b[i:], s)' of a string into a row that the call owns; 'string(b)' of such a row by its bytes. No program is named. Small facts on the program's types, shared by the walks. What the laws ask of lists that are none. When a number is a secret. impl.SecretRight, walked. spec.SecretRight, walked. Rows that are known whole. No program is named. -/
import Derived.WalkKit
import Derived.WalkSpells
import Derived.WalkLawsBesides
import Derived.Laws.BytesArg
import Derived.Below
import Derived.Laws.CopyOwn
import Derived.Laws.IdiomStrings
import Derived.Lib.BufferWrite
import Derived.Test.YtcneohkjdnalkaaRows
import Derived.Handy
import Derived.Deep.QuietTactic
import Derived.BigQuiet
import Derived.Deep.MidRow
namespace Go.Proofs.Ytcneohkjdnalkaa
open Go.RowKit

/-- The bytes of a number, the lowest seven bits first; f rounds at most. -/
def putF : Nat → Nat → List Int
  | 0, x => [(x : Int)]
  | f + 1, x => if x < 128 then [(x : Int)] else ((x % 128 + 128 : Nat) : Int) :: putF f (x / 128)
def pw : Nat → Nat
  | 0 => 128
  | f + 1 => 128 * pw f
theorem pw9 : pw 9 = 1180591620717411303424 := by decide
theorem pw_step {f x : Nat} (h : x < pw f) (h1 : 128 ≤ x) : ∃ g, f = g + 1 ∧ x / 128 < pw g := by
  cases f with
  | zero => simp [pw] at h; omega
  | succ g => exact ⟨g, rfl, by simp only [pw] at h; omega⟩
theorem putF_more {f x : Nat} (h : 128 ≤ x) : putF (f + 1) x = ((x % 128 + 128 : Nat) : Int) :: putF f (x / 128) := by
  rw [putF, if_neg (by omega)]
theorem putF_last {f x : Nat} (h : x < 128) : putF f x = [(x : Int)] := by
  cases f with
  | zero => rfl
  | succ g => rw [putF, if_pos h]
/-- A number's sign in its lowest bit. -/
def foldI (n : Int) : Nat := if n < 0 then (-2 * n - 1).toNat else (2 * n).toNat

/-- 'string(b)' of a row that the call owns. -/
theorem run_convert_own {P : Program} {w : World} {base src dst e n : Nat} {v : Value} {xs : List Int} (hs : P.underlying src = some (.slice e)) (he : P.underlying e = some (.int .u8)) (hd : P.underlying dst = some .string)
    (hown : w.ownsRow base e 1 v n (xs.map (Value.int .u8))) : (convert src dst v).run P w = .ok (.string (strOfNums xs)) w := by
  have hl := hown.1
  simp only [List.length_map, Nat.mul_one] at hl
  have hown0 := hown
  rcases hown.2 with ⟨rfl, rfl⟩ | ⟨g, cap, cur, rfl, hbg, hg, hnc, hcm, hcs, htake⟩
  · obtain rfl : xs = [] := List.eq_nil_of_length_eq_zero hl
    exact run_convert_bytes_nil w src e hs he 0 0 dst hd
  · refine run_convert_bytes_arg w src e hs he g 0 n cap xs hl ?_ dst hd
    intro i hi
    rw [Nat.zero_add, hown0.cellAt i (by omega)]
    have hi' : i < xs.length := by omega
    simp [hi', List.getD]
/-- One block more, then a block that is grown: an owned row's step. -/
theorem cells_one {w : World} {b : Nat} {x : Value} (h : w.cell? ⟨b, 0, none⟩ = some x) : ∀ j u, [x][j]? = some u → w.cell? ((⟨b, 0, none⟩ : Addr).add j) = some u := by
  intro j u hj
  match j, hj with
  | 0, hj => simp at hj; subst hj; simpa [Addr.add] using h
theorem oneCell_ints (k : IntKind) (zs : List Int) : ∀ u ∈ zs.map (Value.int k), u.oneCell' = true := ints_oneCell k zs
theorem nat_xor_all (a : Nat) (h : a < 18446744073709551616) : a ^^^ 18446744073709551615 = 18446744073709551615 - a := by
  have e := congrArg BitVec.toNat (BitVec.xor_allOnes (x := BitVec.ofNat 64 a))
  simp only [BitVec.toNat_xor, BitVec.toNat_ofNat, BitVec.toNat_allOnes, BitVec.toNat_not] at e
  rw [Nat.mod_eq_of_lt (by omega)] at e
  simpa using e
theorem fold_bits_neg (n : Int) (h0 : -9223372036854775808 ≤ n) (hn : n < 0) :
    bits BinOp.xor IntKind.u64 (IntKind.u64.wrap (IntKind.u64.wrap n * 2)) (IntKind.u64.wrap (n / 9223372036854775808)) = (foldI n : Int) := by
  have e1 : IntKind.u64.wrap (IntKind.u64.wrap n * 2) = 2 * n + 18446744073709551616 := by simp only [IntKind.wrap_u64]; omega
  have e2 : IntKind.u64.wrap (n / 9223372036854775808) = 18446744073709551615 := by simp only [IntKind.wrap_u64]; omega
  rw [e1, e2, u64_xor _ _ (by omega) (by omega) (by omega) (by omega)]
  have e3 : (18446744073709551615 : Int).toNat = 18446744073709551615 := by omega
  rw [e3, nat_xor_all _ (by omega)]
  unfold foldI
  rw [if_pos hn]
  omega
theorem fold_bits_pos (n : Int) (h1 : n ≤ 9223372036854775807) (hn : 0 ≤ n) :
    bits BinOp.xor IntKind.u64 (n * 2) (n / 9223372036854775808) = (foldI n : Int) := by
  have e2 : n / 9223372036854775808 = 0 := by omega
  rw [e2, u64_xor _ _ (by omega) (by omega) (by omega) (by omega)]
  have e3 : (0 : Int).toNat = 0 := rfl
  rw [e3, Nat.xor_zero]
  unfold foldI
  rw [if_neg (by omega)]
  omega
theorem or128_small : ∀ b : Fin 256, (b.val ||| 128) = b.val % 128 + 128 := by decide +kernel
theorem or128 (x : Nat) : bits BinOp.or IntKind.u8 ((x : Int) % 256) 128 = (x : Int) % 128 + 128 := by
  rw [u8_or _ _ (by omega) (by omega) (by omega) (by omega)]
  have h := or128_small ⟨x % 256, Nat.mod_lt _ (by omega)⟩
  have e : ((x : Int) % 256).toNat = x % 256 := by omega
  have e2 : (128 : Int).toNat = 128 := rfl
  rw [e, e2]
  simp only at h
  rw [h]
  omega
theorem set_reads {L : List Value} {xs : List Int} {y : Int} (hL : xs.length < L.length) (h : ∀ j, j < xs.length → L[j]? = some (.int .u8 (xs.getD j 0))) :
    ∀ j, j < (xs ++ [y]).length → (L.set xs.length (.int .u8 y))[j]? = some (.int .u8 ((xs ++ [y]).getD j 0)) := by
  intro j hj
  simp only [List.length_append, List.length_singleton] at hj
  by_cases e : j = xs.length
  · subst e; simp [hL]
  · rw [List.getElem?_set_ne (by omega), h j (by omega)]
    simp [List.getD, List.getElem?_append_left (show j < xs.length by omega)]
theorem heap_lt {w : World} {k : Nat} {o : Obj} (h : w.heap[k]? = some o) : k < w.heap.size := by
  rcases Nat.lt_or_ge k w.heap.size with h' | h'
  · exact h'
  · rw [Array.getElem?_eq_none h'] at h; cases h
end Go.Proofs.Ytcneohkjdnalkaa
namespace Go.Proofs.Ytcneohkjdnalkaa
open Go.RowKit Go.Lib

theorem wpList_copy_str {P : Program} {w : World} {ops : Array Oper} {rest : List Oper} {o : Oper} {a : Act} {Q : Exit → Act → World → Prop} (hgd : o.guard = none) (d s : Operand) (dT sT : TypeId)
    (ho : o.op = .call { callee := .builtin .copy, args := #[d, s], argTypes := #[dT, sT] }) (elem : TypeId) (hu : P.underlying dT = some (.slice elem)) (hsz : (P.info? elem).map (·.size) = some 1)
    (dp : Option Addr) (dLen dCap : Nat) (str : ByteArray) (hd : a.eval d = .slice dp dLen dCap) (hs : a.eval s = .string str)
    (g off : Nat) (cur : List Value) (t : TypeId) (hg : w.heap[g]? = some (.cells cur.toArray t (0, 0))) (hpos : 0 < str.size → dp = some ⟨g, off, none⟩) (hle : str.size ≤ dLen) (hfit : off + str.size ≤ cur.length)
    (B : Nat) (w0 : World) (hb : Below B w0 w) (hBg : B ≤ g)
    (h : ∀ w', Hid (w'.heap[g]? = some (.cells (splice cur off (byteCells str.data.toList)).toArray t (0, 0))) → Below B w0 w' → w'.heap.size = w.heap.size → wpList P ops Q rest (a.put o.dst (goInt str.size)) w') :
    wpList P ops Q (o :: rest) a w := by
  have hl : (byteCells str.data.toList).length = str.size := by rw [byteCells_length, ← size_eq]
  refine wpList_plain hgd fun K hK => ?_
  by_cases h0 : str.size = 0
  · have hrun := run_copy_empty_string (P := P) w dT sT o.type elem dp dLen dCap str hu (by rw [hsz]; rfl) h0
    have hn : byteCells str.data.toList = [] := List.eq_nil_of_length_eq_zero (by omega)
    unfold Oper.wp
    simp [execOp, ho, resolve, invoke, builtin, hd, hs, hrun, Result.andThen]
    have := h w (show _ = _ by rw [hn]; simpa [splice] using hg) hb rfl
    rw [h0] at this
    exact hK _ _ this
  · obtain rfl := hpos (by omega)
    have hrun := run_copy_row_string (P := P) w dT sT o.type elem g off dLen dCap str cur.toArray t hu hsz hg hle (by simpa using hfit)
    unfold Oper.wp
    simp [execOp, ho, resolve, invoke, builtin, hd, hs, hrun, Result.andThen]
    refine hK _ _ (h _ (show _ = _ from ?_) (below_setRow hb hBg _) (by simp))
    have := setRow_heap w g cur.toArray ((cur.take off ++ byteCells str.data.toList ++ cur.drop (off + str.size)).toArray) t _ hg
    simpa [splice, hl] using this

/-- 'string(b)', b's row known by its bytes. -/
theorem run_convert_row {P : Program} {w : World} {src dst e g cap : Nat} {l : List UInt8} {rest : List Value} {t : TypeId} (hs : P.underlying src = some (.slice e)) (he : P.underlying e = some (.int .u8)) (hd : P.underlying dst = some .string)
    (hg : w.heap[g]? = some (.cells (byteCells l ++ rest).toArray t (0, 0))) : (convert src dst (.slice (some ⟨g, 0, none⟩) l.length cap)).run P w = .ok (.string ⟨l.toArray⟩) w := by
  refine run_convert_bytes_back w src dst e ⟨g, 0, none⟩ cap l hs he hd fun j hj => ?_
  rw [Addr.add_lit, Nat.zero_add, cell_of_row w g j _ t (0, 0) hg]
  simp [byteCells, List.getElem?_append_left, hj]
theorem ofBytes_append (a b : ByteArray) : (⟨(a.data.toList ++ b.data.toList).toArray⟩ : ByteArray) = a ++ b := by
  rw [← ByteArray.mk_append_mk]
/-- The row behind an owned slice. -/
theorem rowOf {w : World} {base e g n cap : Nat} {xs : List Value} (h : w.ownsRow base e 1 (.slice (some ⟨g, 0, none⟩) n cap) n xs) (hc : cap = n) :
    w.heap[g]? = some (.cells xs.toArray e (0, 0)) ∧ xs.length = n := by
  refine ⟨?_, by simpa using h.1⟩
  rcases h.2 with ⟨h', _⟩ | ⟨g', cap', cur, h', _, hg, _, _, hcs, htake⟩
  · simp at h'
  · simp only [Value.slice.injEq, Option.some.injEq, Addr.mk.injEq, and_true, true_and] at h'
    obtain ⟨rfl, rfl⟩ := h'
    rw [hg, ← htake, List.take_of_length_le (by rw [Array.length_toList, hcs, hc]; exact Nat.le_refl _)]
theorem splice_two {α : Type} (L A B : List α) (h : L.length = A.length + B.length) : splice (splice L 0 A) A.length B = A ++ B := by
  have e : splice L 0 A = A ++ L.drop A.length := by simp [splice]
  rw [e]
  unfold splice
  rw [List.take_left, List.drop_eq_nil_of_le (by simp; omega)]
  simp
theorem splice_one {α : Type} (L A : List α) (h : L.length = A.length) : splice L 0 A = A := by
  unfold splice
  rw [List.drop_eq_nil_of_le (by omega)]
  simp
end Go.Proofs.Ytcneohkjdnalkaa
namespace Go.Proofs.Ytcneohkjdnalkaa
open Go.RowKit

theorem infoByte : (Try.prog.info? 5).map (fun i => (i.zero, i.size, i.bytes)) = some (some (.int .u8 0), 1, 1) := by kernel_rfl
theorem byteSize : (Try.prog.info? 5).map (·.size) = some 1 := by kernel_rfl
theorem ret_int {k : IntKind} {a b : Int} (h : a = b) : Ending.returned (.int k a) = .returned (.int k b) := by rw [h]
theorem u8_lt (c : UInt8) : (c.toNat : Int) ≤ 255 := by have := c.toNat_lt; omega
/-- A TextOut as a value. -/
def outV (t : ByteArray) (at' code : Int) : Value := .agg #[.string t, .int .i64 at', .int .i64 code]
end Go.Proofs.Ytcneohkjdnalkaa
namespace Go.Proofs.Ytcneohkjdnalkaa
open Go.RowKit

set_option maxRecDepth 100000 in
theorem eqNilInt64S (w : World) :
    Calls Try.prog 11 #[.slice none 0 0, .slice none 0 0] w fun e w' => e = .returned (.bool true) ∧ w' = w := by
  go_enter Try.func11, Try.ntmps11
  go_wp2_with fail
  refine wp_loop_rounds 1 ?_
  rw [rounds_succ]
  go_wp2
  go_ret
  exact ⟨rfl, rfl⟩
set_option maxRecDepth 100000 in
theorem markNilInt64S (w : World) :
    Calls Try.prog 16 #[.slice none 0 0, .int .i64 1] w fun e w' => e = .returned (.int .i64 1) ∧ w' = w := by
  go_enter Try.func16, Try.ntmps16
  go_wp2_with fail
  refine wp_loop_rounds 1 ?_
  rw [rounds_succ]
  go_wp2
  go_ret
  exact ⟨rfl, rfl⟩
set_option maxRecDepth 100000 in
theorem heldNilInt64S (w : World) :
    Calls Try.prog 21 #[.slice none 0 0, .int .i64 1] w fun e w' => e = .returned (.int .i64 1) ∧ w' = w := by
  go_enter Try.func21, Try.ntmps21
  go_wp2_with fail
  refine wp_loop_rounds 1 ?_
  rw [rounds_succ]
  go_wp2
  go_ret
  exact ⟨rfl, rfl⟩
set_option maxRecDepth 100000 in
theorem eqNilAccountS (w : World) :
    Calls Try.prog 12 #[.slice none 0 0, .slice none 0 0] w fun e w' => e = .returned (.bool true) ∧ w' = w := by
  go_enter Try.func12, Try.ntmps12
  go_wp2_with fail
  refine wp_loop_rounds 1 ?_
  rw [rounds_succ]
  go_wp2
  go_ret
  exact ⟨rfl, rfl⟩
set_option maxRecDepth 100000 in
theorem markNilAccountS (w : World) :
    Calls Try.prog 17 #[.slice none 0 0, .int .i64 1] w fun e w' => e = .returned (.int .i64 1) ∧ w' = w := by
  go_enter Try.func17, Try.ntmps17
  go_wp2_with fail
  refine wp_loop_rounds 1 ?_
  rw [rounds_succ]
  go_wp2
  go_ret
  exact ⟨rfl, rfl⟩
set_option maxRecDepth 100000 in
theorem heldNilAccountS (w : World) :
    Calls Try.prog 22 #[.slice none 0 0, .int .i64 1] w fun e w' => e = .returned (.int .i64 1) ∧ w' = w := by
  go_enter Try.func22, Try.ntmps22
  go_wp2_with fail
  refine wp_loop_rounds 1 ?_
  rw [rounds_succ]
  go_wp2
  go_ret
  exact ⟨rfl, rfl⟩
set_option maxRecDepth 100000 in
theorem eqNilAuthS (w : World) :
    Calls Try.prog 13 #[.slice none 0 0, .slice none 0 0] w fun e w' => e = .returned (.bool true) ∧ w' = w := by
  go_enter Try.func13, Try.ntmps13
  go_wp2_with fail
  refine wp_loop_rounds 1 ?_
  rw [rounds_succ]
  go_wp2
  go_ret
  exact ⟨rfl, rfl⟩
set_option maxRecDepth 100000 in
theorem markNilAuthS (w : World) :
    Calls Try.prog 18 #[.slice none 0 0, .int .i64 1] w fun e w' => e = .returned (.int .i64 1) ∧ w' = w := by
  go_enter Try.func18, Try.ntmps18
  go_wp2_with fail
  refine wp_loop_rounds 1 ?_
  rw [rounds_succ]
  go_wp2
  go_ret
  exact ⟨rfl, rfl⟩
set_option maxRecDepth 100000 in
theorem heldNilAuthS (w : World) :
    Calls Try.prog 23 #[.slice none 0 0, .int .i64 1] w fun e w' => e = .returned (.int .i64 1) ∧ w' = w := by
  go_enter Try.func23, Try.ntmps23
  go_wp2_with fail
  refine wp_loop_rounds 1 ?_
  rw [rounds_succ]
  go_wp2
  go_ret
  exact ⟨rfl, rfl⟩
set_option maxRecDepth 100000 in
theorem eqNilOrderS (w : World) :
    Calls Try.prog 14 #[.slice none 0 0, .slice none 0 0] w fun e w' => e = .returned (.bool true) ∧ w' = w := by
  go_enter Try.func14, Try.ntmps14
  go_wp2_with fail
  refine wp_loop_rounds 1 ?_
  rw [rounds_succ]
  go_wp2
  go_ret
  exact ⟨rfl, rfl⟩
set_option maxRecDepth 100000 in
theorem markNilOrderS (w : World) :
    Calls Try.prog 19 #[.slice none 0 0, .int .i64 1] w fun e w' => e = .returned (.int .i64 1) ∧ w' = w := by
  go_enter Try.func19, Try.ntmps19
  go_wp2_with fail
  refine wp_loop_rounds 1 ?_
  rw [rounds_succ]
  go_wp2
  go_ret
  exact ⟨rfl, rfl⟩
set_option maxRecDepth 100000 in
theorem heldNilOrderS (w : World) :
    Calls Try.prog 24 #[.slice none 0 0, .int .i64 1] w fun e w' => e = .returned (.int .i64 1) ∧ w' = w := by
  go_enter Try.func24, Try.ntmps24
  go_wp2_with fail
  refine wp_loop_rounds 1 ?_
  rw [rounds_succ]
  go_wp2
  go_ret
  exact ⟨rfl, rfl⟩
set_option maxRecDepth 100000 in
theorem eqNilIssuedS (w : World) :
    Calls Try.prog 15 #[.slice none 0 0, .slice none 0 0] w fun e w' => e = .returned (.bool true) ∧ w' = w := by
  go_enter Try.func15, Try.ntmps15
  go_wp2_with fail
  refine wp_loop_rounds 1 ?_
  rw [rounds_succ]
  go_wp2
  go_ret
  exact ⟨rfl, rfl⟩
set_option maxRecDepth 100000 in
theorem markNilIssuedS (w : World) :
    Calls Try.prog 20 #[.slice none 0 0, .int .i64 1] w fun e w' => e = .returned (.int .i64 1) ∧ w' = w := by
  go_enter Try.func20, Try.ntmps20
  go_wp2_with fail
  refine wp_loop_rounds 1 ?_
  rw [rounds_succ]
  go_wp2
  go_ret
  exact ⟨rfl, rfl⟩
set_option maxRecDepth 100000 in
theorem heldNilIssuedS (w : World) :
    Calls Try.prog 25 #[.slice none 0 0, .int .i64 1] w fun e w' => e = .returned (.int .i64 1) ∧ w' = w := by
  go_enter Try.func25, Try.ntmps25
  go_wp2_with fail
  refine wp_loop_rounds 1 ?_
  rw [rounds_succ]
  go_wp2
  go_ret
  exact ⟨rfl, rfl⟩
/-- An office that has nothing yet. -/
def acmeV (x n : Int) : Value := .agg #[.int .i64 x, .int .i64 0, .int .i64 n, .slice none 0 0, .slice none 0 0, .slice none 0 0, .slice none 0 0, .slice none 0 0]

set_option maxHeartbeats 2000000 in
set_option maxRecDepth 100000 in
theorem eqAcmeNil (x n : Int) (w : World) :
    Calls Try.prog 6 #[acmeV x n, acmeV x n] w fun e w' => e = .returned (.bool true) ∧ Below w.heap.size w w' := by
  have e1 : (x != x) = false := by simp
  have e2 : (n != n) = false := by simp
  unfold acmeV
  go_enter Try.func6, Try.ntmps6
  go_wp2_with fail
  refine (eqNilInt64S _).mono ?_
  rintro e w1 ⟨rfl, rfl⟩
  go_wp2_with fail
  refine (eqNilAccountS _).mono ?_
  rintro e w2 ⟨rfl, rfl⟩
  go_wp2_with fail
  refine (eqNilAuthS _).mono ?_
  rintro e w3 ⟨rfl, rfl⟩
  go_wp2_with fail
  refine (eqNilOrderS _).mono ?_
  rintro e w4 ⟨rfl, rfl⟩
  go_wp2_with fail
  refine (eqNilIssuedS _).mono ?_
  rintro e w5 ⟨rfl, rfl⟩
  go_wp2_with fail
  go_ret
  exact ⟨rfl, by repeat (first | exact Below.refl _ _ | refine Below.setCell ?_ (by simp) _ | refine Below.alloc ?_ (by simp) _)⟩
set_option maxHeartbeats 2000000 in
set_option maxRecDepth 100000 in
theorem markAcmeNil (x n : Int) (w : World) :
    Calls Try.prog 7 #[acmeV x n, .int .i64 1] w fun e w' => e = .returned (.int .i64 1) ∧ Below w.heap.size w w' := by
  unfold acmeV
  go_enter Try.func7, Try.ntmps7
  go_wp2_with fail
  refine (markNilInt64S _).mono ?_
  rintro e w1 ⟨rfl, rfl⟩
  go_wp2_with fail
  refine (markNilAccountS _).mono ?_
  rintro e w2 ⟨rfl, rfl⟩
  go_wp2_with fail
  refine (markNilAuthS _).mono ?_
  rintro e w3 ⟨rfl, rfl⟩
  go_wp2_with fail
  refine (markNilOrderS _).mono ?_
  rintro e w4 ⟨rfl, rfl⟩
  go_wp2_with fail
  refine (markNilIssuedS _).mono ?_
  rintro e w5 ⟨rfl, rfl⟩
  go_wp2_with fail
  go_ret
  exact ⟨rfl, by repeat (first | exact Below.refl _ _ | refine Below.setCell ?_ (by simp) _ | refine Below.alloc ?_ (by simp) _)⟩
set_option maxHeartbeats 2000000 in
set_option maxRecDepth 100000 in
theorem heldAcmeNil (x n : Int) (w : World) :
    Calls Try.prog 8 #[acmeV x n, .int .i64 1] w fun e w' => e = .returned (.int .i64 1) ∧ Below w.heap.size w w' := by
  unfold acmeV
  go_enter Try.func8, Try.ntmps8
  go_wp2_with fail
  refine (heldNilInt64S _).mono ?_
  rintro e w1 ⟨rfl, rfl⟩
  go_wp2_with fail
  refine (heldNilAccountS _).mono ?_
  rintro e w2 ⟨rfl, rfl⟩
  go_wp2_with fail
  refine (heldNilAuthS _).mono ?_
  rintro e w3 ⟨rfl, rfl⟩
  go_wp2_with fail
  refine (heldNilOrderS _).mono ?_
  rintro e w4 ⟨rfl, rfl⟩
  go_wp2_with fail
  refine (heldNilIssuedS _).mono ?_
  rintro e w5 ⟨rfl, rfl⟩
  go_wp2_with fail
  go_ret
  exact ⟨rfl, by repeat (first | exact Below.refl _ _ | refine Below.setCell ?_ (by simp) _ | refine Below.alloc ?_ (by simp) _)⟩
end Go.Proofs.Ytcneohkjdnalkaa
namespace Go.Proofs.Ytcneohkjdnalkaa

def secB (x : Int) : Bool := decide (1 ≤ x ∧ x < 1073741789)
end Go.Proofs.Ytcneohkjdnalkaa
namespace Go.Proofs.Ytcneohkjdnalkaa
open Go.RowKit

theorem implSecret (x : Int) (w : World) :
    Calls Try.prog 10 #[.int .i64 x] w fun e w' => e = .returned (.bool (secB x)) ∧ w' = w := by
  by_cases h1 : 1 ≤ x
  · by_cases h2 : x < 1073741789
    · have e : secB x = true := decide_eq_true ⟨h1, h2⟩
      rw [e]
      go_enter Try.func10, Try.ntmps10
      go_wp2
      go_ret
      exact ⟨rfl, rfl⟩
    · have e : secB x = false := decide_eq_false (by omega)
      rw [e]
      go_enter Try.func10, Try.ntmps10
      go_wp2
      go_ret
      exact ⟨rfl, rfl⟩
  · have e : secB x = false := decide_eq_false (by omega)
    rw [e]
    go_enter Try.func10, Try.ntmps10
    go_wp2
    go_ret
    exact ⟨rfl, rfl⟩
end Go.Proofs.Ytcneohkjdnalkaa
namespace Go.Proofs.Ytcneohkjdnalkaa
open Go.RowKit

theorem specSecret (x : Int) (w : World) :
    Calls Try.prog 9 #[.int .i64 x] w fun e w' => e = .returned (.bool (secB x)) ∧ w' = w := by
  by_cases h1 : 1 ≤ x
  · by_cases h2 : x < 1073741789
    · have e : secB x = true := decide_eq_true ⟨h1, h2⟩
      rw [e]
      go_enter Try.func9, Try.ntmps9
      go_wp2
      go_ret
      exact ⟨rfl, rfl⟩
    · have e : secB x = false := decide_eq_false (by omega)
      rw [e]
      go_enter Try.func9, Try.ntmps9
      go_wp2
      go_ret
      exact ⟨rfl, rfl⟩
  · have e : secB x = false := decide_eq_false (by omega)
    rw [e]
    go_enter Try.func9, Try.ntmps9
    go_wp2
    go_ret
    exact ⟨rfl, rfl⟩
end Go.Proofs.Ytcneohkjdnalkaa
namespace Go.Proofs.Ytcneohkjdnalkaa
open Go.RowKit

theorem rowFacts {w : World} {g : Nat} {cs : List Value} {t : TypeId} (hg : w.heap[g]? = some (.cells cs.toArray t (0, 0))) (j : Nat) (v : Value) (hj : cs[j]? = some v) : w.cell? ⟨g, j, none⟩ = some v := by
  rw [cell_of_row w g j _ t (0, 0) hg]; simpa using hj
theorem rowSet {w : World} {g i : Nat} {cs : List Value} {t : TypeId} (v : Value) (hg : w.heap[g]? = some (.cells cs.toArray t (0, 0))) : (w.setCell ⟨g, i, none⟩ v).heap[g]? = some (.cells (cs.set i v).toArray t (0, 0)) := by
  rw [heap_setCell_same w g i _ t v hg]; simp
theorem heap_alloc2 (w : World) (a b : Obj) : ((w.alloc a).alloc b).heap[w.heap.size + 1]? = some b := by
  have := heap_alloc_new (w.alloc a) b
  simpa using this
theorem below_setCells {B g : Nat} {w0 : World} (hB : B ≤ g) : ∀ (vs : List Value) (o : Nat) (w : World), Below B w0 w → Below B w0 (w.setCells g o vs)
  | [], _, _, h => h
  | v :: r, o, _, h => below_setCells hB r (o + 1) _ (h.setCell hB v)
theorem rangeRow {w : World} {g : Nat} {cs : List Value} {t : TypeId} (hg : w.heap[g]? = some (.cells cs.toArray t (0, 0))) : w.rangeAt g 0 cs := fun j v hv => by
  rw [Nat.zero_add]; exact rowFacts hg j v hv
theorem thereRow {w : World} {g : Nat} {cs : List Value} {t : TypeId} (hg : w.heap[g]? = some (.cells cs.toArray t (0, 0))) : w.there g 0 cs.length := fun j hj => by
  rw [Nat.zero_add]
  exact ⟨by rw [rowFacts hg j _ (List.getElem?_eq_getElem hj)]; rfl, frozen_of_row w g j _ t hg⟩
end Go.Proofs.Ytcneohkjdnalkaa
