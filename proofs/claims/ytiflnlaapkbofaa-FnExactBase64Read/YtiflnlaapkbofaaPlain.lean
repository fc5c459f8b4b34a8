/- Plain mathematics of numbers in bytes: no program is named here. -/
import Derived.WalkKit
import Derived.WalkSpells
import Derived.WalkLawsBesides
import Derived.Laws.BytesArg
import Derived.Below
namespace Go.Proofs.Ytiflnlaapkbofaa
open Go.RowKit

/-- The bytes of a number, the lowest seven bits first; f rounds at most. -/
def putF : Nat → Nat → List Int
  | 0, x => [(x : Int)]
  | f + 1, x => if x < 128 then [(x : Int)] else ((x % 128 + 128 : Nat) : Int) :: putF f (x / 128)
def pw : Nat → Nat
  | 0 => 128
  | f + 1 => 128 * pw f
theorem pw9 : pw 9 = 1180591620717411303424 := by decide
theorem pw_step {f x : Nat} (h : x < pw f) (h1 : 128 ≤ x) : ∃ g, f = g + 1 ∧ x / 128 < pw g := by
  cases f with
  | zero => simp [pw] at h; omega
  | succ g => exact ⟨g, rfl, by simp only [pw] at h; omega⟩
theorem putF_more {f x : Nat} (h : 128 ≤ x) : putF (f + 1) x = ((x % 128 + 128 : Nat) : Int) :: putF f (x / 128) := by
  rw [putF, if_neg (by omega)]
theorem putF_last {f x : Nat} (h : x < 128) : putF f x = [(x : Int)] := by
  cases f with
  | zero => rfl
  | succ g => rw [putF, if_pos h]
/-- A number's sign in its lowest bit. -/
def foldI (n : Int) : Nat := if n < 0 then (-2 * n - 1).toNat else (2 * n).toNat

/-- 'string(b)' of a row that the call owns. -/
theorem run_convert_own {P : Program} {w : World} {base src dst e n : Nat} {v : Value} {xs : List Int} (hs : P.underlying src = some (.slice e)) (he : P.underlying e = some (.int .u8)) (hd : P.underlying dst = some .string)
    (hown : w.ownsRow base e 1 v n (xs.map (Value.int .u8))) : (convert src dst v).run P w = .ok (.string (strOfNums xs)) w := by
  have hl := hown.1
  simp only [List.length_map, Nat.mul_one] at hl
  have hown0 := hown
  rcases hown.2 with ⟨rfl, rfl⟩ | ⟨g, cap, cur, rfl, hbg, hg, hnc, hcm, hcs, htake⟩
  · obtain rfl : xs = [] := List.eq_nil_of_length_eq_zero hl
    exact run_convert_bytes_nil w src e hs he 0 0 dst hd
  · refine run_convert_bytes_arg w src e hs he g 0 n cap xs hl ?_ dst hd
    intro i hi
    rw [Nat.zero_add, hown0.cellAt i (by omega)]
    have hi' : i < xs.length := by omega
    simp [hi', List.getD]
/-- One block more, then a block that is grown: an owned row's step. -/
theorem cells_one {w : World} {b : Nat} {x : Value} (h : w.cell? ⟨b, 0, none⟩ = some x) : ∀ j u, [x][j]? = some u → w.cell? ((⟨b, 0, none⟩ : Addr).add j) = some u := by
  intro j u hj
  match j, hj with
  | 0, hj => simp at hj; subst hj; simpa [Addr.add] using h
theorem oneCell_ints (k : IntKind) (zs : List Int) : ∀ u ∈ zs.map (Value.int k), u.oneCell' = true := ints_oneCell k zs
theorem nat_xor_all (a : Nat) (h : a < 18446744073709551616) : a ^^^ 18446744073709551615 = 18446744073709551615 - a := by
  have e := congrArg BitVec.toNat (BitVec.xor_allOnes (x := BitVec.ofNat 64 a))
  simp only [BitVec.toNat_xor, BitVec.toNat_ofNat, BitVec.toNat_allOnes, BitVec.toNat_not] at e
  rw [Nat.mod_eq_of_lt (by omega)] at e
  simpa using e
theorem fold_bits_neg (n : Int) (h0 : -9223372036854775808 ≤ n) (hn : n < 0) :
    bits BinOp.xor IntKind.u64 (IntKind.u64.wrap (IntKind.u64.wrap n * 2)) (IntKind.u64.wrap (n / 9223372036854775808)) = (foldI n : Int) := by
  have e1 : IntKind.u64.wrap (IntKind.u64.wrap n * 2) = 2 * n + 18446744073709551616 := by simp only [IntKind.wrap_u64]; omega
  have e2 : IntKind.u64.wrap (n / 9223372036854775808) = 18446744073709551615 := by simp only [IntKind.wrap_u64]; omega
  rw [e1, e2, u64_xor _ _ (by omega) (by omega) (by omega) (by omega)]
  have e3 : (18446744073709551615 : Int).toNat = 18446744073709551615 := by omega
  rw [e3, nat_xor_all _ (by omega)]
  unfold foldI
  rw [if_pos hn]
  omega
theorem fold_bits_pos (n : Int) (h1 : n ≤ 9223372036854775807) (hn : 0 ≤ n) :
    bits BinOp.xor IntKind.u64 (n * 2) (n / 9223372036854775808) = (foldI n : Int) := by
  have e2 : n / 9223372036854775808 = 0 := by omega
  rw [e2, u64_xor _ _ (by omega) (by omega) (by omega) (by omega)]
  have e3 : (0 : Int).toNat = 0 := rfl
  rw [e3, Nat.xor_zero]
  unfold foldI
  rw [if_neg (by omega)]
  omega
theorem or128_small : ∀ b : Fin 256, (b.val ||| 128) = b.val % 128 + 128 := by decide +kernel
theorem or128 (x : Nat) : bits BinOp.or IntKind.u8 ((x : Int) % 256) 128 = (x : Int) % 128 + 128 := by
  rw [u8_or _ _ (by omega) (by omega) (by omega) (by omega)]
  have h := or128_small ⟨x % 256, Nat.mod_lt _ (by omega)⟩
  have e : ((x : Int) % 256).toNat = x % 256 := by omega
  have e2 : (128 : Int).toNat = 128 := rfl
  rw [e, e2]
  simp only at h
  rw [h]
  omega
theorem set_reads {L : List Value} {xs : List Int} {y : Int} (hL : xs.length < L.length) (h : ∀ j, j < xs.length → L[j]? = some (.int .u8 (xs.getD j 0))) :
    ∀ j, j < (xs ++ [y]).length → (L.set xs.length (.int .u8 y))[j]? = some (.int .u8 ((xs ++ [y]).getD j 0)) := by
  intro j hj
  simp only [List.length_append, List.length_singleton] at hj
  by_cases e : j = xs.length
  · subst e; simp [hL]
  · rw [List.getElem?_set_ne (by omega), h j (by omega)]
    simp [List.getD, List.getElem?_append_left (show j < xs.length by omega)]
theorem heap_lt {w : World} {k : Nat} {o : Obj} (h : w.heap[k]? = some o) : k < w.heap.size := by
  rcases Nat.lt_or_ge k w.heap.size with h' | h'
  · exact h'
  · rw [Array.getElem?_eq_none h'] at h; cases h
end Go.Proofs.Ytiflnlaapkbofaa
