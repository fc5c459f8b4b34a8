/- Rows that are known whole. No program is named. '.pick', walked: one of some texts. The draws' source and its bytes behind calls that leave them alone. The draws, each as a step from a source at work to a source at work. Base64: groups of six bits, their signs. No walk. -/
import Derived.Test.YtdehbaafbbjcgaaGreatDoorJT01
import Derived.Deep.MidRow
import Derived.Laws.CopyOwn
import Derived.Test.YtdehbaafbbjcgaaGreatDoorJT02
import Derived.Deep.RegionHeld3
import Derived.Deep.RegionLaw
import Derived.Deep.AppendLies
import Derived.Laws.Bits128
import Derived.Laws.BitsAllLaws
namespace Go.Proofs.YtdehbaafbbjcgaaGreatDoor
open Go.RowKit

theorem rowFacts {w : World} {g : Nat} {cs : List Value} {t : TypeId} (hg : w.heap[g]? = some (.cells cs.toArray t (0, 0))) (j : Nat) (v : Value) (hj : cs[j]? = some v) : w.cell? ⟨g, j, none⟩ = some v := by
  rw [cell_of_row w g j _ t (0, 0) hg]; simpa using hj
theorem rowSet {w : World} {g i : Nat} {cs : List Value} {t : TypeId} (v : Value) (hg : w.heap[g]? = some (.cells cs.toArray t (0, 0))) : (w.setCell ⟨g, i, none⟩ v).heap[g]? = some (.cells (cs.set i v).toArray t (0, 0)) := by
  rw [heap_setCell_same w g i _ t v hg]; simp
theorem heap_alloc2 (w : World) (a b : Obj) : ((w.alloc a).alloc b).heap[w.heap.size + 1]? = some b := by
  have := heap_alloc_new (w.alloc a) b
  simpa using this
theorem below_setCells {B g : Nat} {w0 : World} (hB : B ≤ g) : ∀ (vs : List Value) (o : Nat) (w : World), Below B w0 w → Below B w0 (w.setCells g o vs)
  | [], _, _, h => h
  | v :: r, o, _, h => below_setCells hB r (o + 1) _ (h.setCell hB v)
theorem rangeRow {w : World} {g : Nat} {cs : List Value} {t : TypeId} (hg : w.heap[g]? = some (.cells cs.toArray t (0, 0))) : w.rangeAt g 0 cs := fun j v hv => by
  rw [Nat.zero_add]; exact rowFacts hg j v hv
theorem thereRow {w : World} {g : Nat} {cs : List Value} {t : TypeId} (hg : w.heap[g]? = some (.cells cs.toArray t (0, 0))) : w.there g 0 cs.length := fun j hj => by
  rw [Nat.zero_add]
  exact ⟨by rw [rowFacts hg j _ (List.getElem?_eq_getElem hj)]; rfl, frozen_of_row w g j _ t hg⟩
end Go.Proofs.YtdehbaafbbjcgaaGreatDoor
namespace Go.Proofs.YtdehbaafbbjcgaaGreatDoor
open Go.RowKit

set_option maxRecDepth 100000 in
set_option maxHeartbeats 1000000 in
theorem pick_any (g : Nat) (a : Option Addr) (len cap : Nat) (B m c K : Nat) (T : TypeId) (ss : List ByteArray) (w : World) (hs : Src g a len cap w) (hrow : w.heap[B]? = some (.cells (ss.map Value.string).toArray T (0, 0)))
    (hm : ss.length = m) (h0 : 0 < m) (h1 : m ≤ 100) (hK : ∀ t ∈ ss, t.size ≤ K) (hne : B ≠ g) :
    Calls Tryz.prog 26 #[.pointer (some ⟨g, 0, none⟩), .slice (some ⟨B, 0, none⟩) m c] w fun e w' => UpT K e ∧ Src g a len cap w' ∧ Grows g w w' := by
  have HS : Hid (Src g a len cap w) := hs
  have HR : Hid (w.heap[B]? = some (.cells (ss.map Value.string).toArray T (0, 0))) := hrow
  have HK : Hid (∀ t ∈ ss, t.size ≤ K) := hK
  have HM : Hid (ss.length = m) := hm
  have hB : B < w.heap.size := heap_lt hrow
  clear hs hrow hK hm
  go_enter Tryz.func26, Tryz.ntmps26
  go_wp2_with fail
  refine (n_any g a len cap m _ (by omega) HS.out).mono ?_
  rintro e w1 ⟨r, rfl, hr, hs1, ht1⟩
  have H1 : Hid (Src g a len cap w1) := hs1
  have G1 : Hid (Grows g w w1) := ht1.grows
  have hr1 : r < m := by omega
  have hrow1 : w1.heap[B]? = some (.cells (ss.map Value.string).toArray T (0, 0)) := by
    rw [ht1.1.block B hB (by intro e; exact hne (Option.some.inj e))]; exact HR.out
  have hrl : r < ss.length := by rw [HM.out]; exact hr1
  have hc : w1.cell? ⟨B, r, none⟩ = some (.string (ss[r]'hrl)) := rowFacts hrow1 r _ (by simp [List.getElem?_eq_getElem hrl])
  have hsz : (ss[r]'hrl).size ≤ K := HK.out _ (List.getElem_mem hrl)
  generalize ss[r]'hrl = t at *
  have q1 : (r : Int) < (m : Int) := by omega
  clear hs1 ht1 hr hrow1 hrl
  go_wp2
  go_ret
  exact ⟨⟨t, hsz, rfl⟩, H1.out, G1.out⟩
end Go.Proofs.YtdehbaafbbjcgaaGreatDoor
namespace Go.Proofs.YtdehbaafbbjcgaaGreatDoor
open Go.RowKit

theorem CodeAt.below {a : Option Addr} {len B : Nat} {w w' : World} (h : CodeAt a len w) (hb : Below B w w') (hblk : ∀ x, 0 < len → a = some x → x.block < B) : CodeAt a len w' := by
  rcases h with h | ⟨b, off, rfl, hc⟩
  · exact .inl h
  · refine .inr ⟨b, off, rfl, fun i hi => ?_⟩
    obtain ⟨z, hz, hcell⟩ := hc i hi
    exact ⟨z, hz, (hb.cell (p := ⟨b, off + i, none⟩) (show b < B from hblk ⟨b, off, none⟩ (by omega) rfl)).trans hcell⟩
theorem Src.below {g : Nat} {a : Option Addr} {len cap B : Nat} {w w' : World} (h : Src g a len cap w) (hb : Below B w w') (hg : g < B) (hblk : ∀ x, 0 < len → a = some x → x.block < B) : Src g a len cap w' := by
  obtain ⟨p, m, z, hp, hm, hz, hh⟩ := h.at_
  exact ⟨⟨p, m, z, hp, hm, hz, (hb.block g hg).trans hh⟩, h.code.below hb hblk, h.ne, h.le⟩
end Go.Proofs.YtdehbaafbbjcgaaGreatDoor
namespace Go.Proofs.YtdehbaafbbjcgaaGreatDoor
open Go.RowKit

/-- A source at work, that stands in the first block behind w. -/
def SS (w : World) (a : Option Addr) (len cap : Nat) (W : World) : Prop := Src w.heap.size a len cap W ∧ Below w.heap.size w W ∧ w.heap.size < W.heap.size ∧ ∀ x, 0 < len → a = some x → x.block < w.heap.size
section
variable {w W W' : World} {a : Option Addr} {len cap : Nat}
theorem SS.blk (h : SS w a len cap W) : ∀ x, 0 < len → a = some x → x.block < W.heap.size := fun x h0 hx => by
  have h1 := h.2.2.2 x h0 hx
  have h2 := h.2.2.1
  omega
theorem SS.keep (h : SS w a len cap W) (hb : Below W.heap.size W W') : SS w a len cap W' :=
  ⟨h.1.below hb h.2.2.1 h.blk, h.2.1.trans (hb.mono (Nat.le_of_lt h.2.2.1)), Nat.lt_of_lt_of_le h.2.2.1 hb.size, h.2.2.2⟩
theorem SS.alloc (h : SS w a len cap W) (o : Obj) : SS w a len cap (W.alloc o) := h.keep ((Below.refl _ _).alloc (Nat.le_refl _) o)
theorem SS.grows (h : SS w a len cap W) (h1 : Src w.heap.size a len cap W') (hg : Grows w.heap.size W W') : SS w a len cap W' :=
  ⟨h1, hg.below h.2.1 (Nat.le_refl _) (Nat.le_of_lt h.2.2.1), Nat.lt_of_lt_of_le h.2.2.1 hg.size, h.2.2.2⟩
theorem ss_source (a : Option Addr) (len cap : Nat) (w : World) (hlen : len ≤ 1048576) (hc : CodeAt a len w) (hblk : ∀ x, 0 < len → a = some x → x.block < w.heap.size) :
    Calls Tryz.prog 17 #[.slice a len cap] w fun e w' => e = .returned (.pointer (some ⟨w.heap.size, 0, none⟩)) ∧ SS w a len cap w' := by
  refine (source_any a len cap w hlen hc hblk).mono ?_
  rintro e w1 ⟨rfl, hs1, hb1, hz1⟩
  exact ⟨rfl, hs1, hb1, by omega, hblk⟩
theorem ss_n (most : Nat) (hm : most ≤ 4611686018427387904) (h : SS w a len cap W) :
    Calls Tryz.prog 19 #[.pointer (some ⟨w.heap.size, 0, none⟩), .int .i64 (most : Int)] W fun e w' => ∃ r : Nat, e = .returned (.int .i64 (r : Int)) ∧ (r < most ∨ r = 0) ∧ SS w a len cap w' ∧ (∀ b, b ≠ w.heap.size → b < W.heap.size → w'.heap[b]? = W.heap[b]?) := by
  refine (n_any w.heap.size a len cap most W hm h.1).mono ?_
  rintro e w' ⟨r, rfl, hr, h1, h2⟩
  exact ⟨r, rfl, hr, h.grows h1 h2.grows, fun b hb hl => h2.1.block b hl (by intro e; exact hb (Option.some.inj e))⟩
theorem ss_one (most : Nat) (hm : most ≤ 4611686018427387904) (h : SS w a len cap W) :
    Calls Tryz.prog 18 #[.pointer (some ⟨w.heap.size, 0, none⟩), .int .i64 (most : Int)] W fun e w' => AnyB e ∧ SS w a len cap w' := by
  refine (one_any w.heap.size a len cap most W hm h.1).mono ?_
  rintro e w' ⟨hb, h1, h2⟩
  exact ⟨hb, h.grows h1 h2.grows⟩
theorem ss_bytes (k : Nat) (hk : k ≤ 100000) (h : SS w a len cap W) :
    Calls Tryz.prog 20 #[.pointer (some ⟨w.heap.size, 0, none⟩), .int .i64 (k : Int)] W fun e w' => AnyT k e ∧ SS w a len cap w' := by
  refine (bytes_any w.heap.size a len cap k W hk h.1 h.blk).mono ?_
  rintro e w' ⟨hb, h1, h2⟩
  exact ⟨hb, h.grows h1 h2⟩
theorem ss_edge (h : SS w a len cap W) :
    Calls Tryz.prog 49 #[.pointer (some ⟨w.heap.size, 0, none⟩)] W fun e w' => AnyI e ∧ SS w a len cap w' := by
  refine (edge_any w.heap.size a len cap W h.1).mono ?_
  rintro e w' ⟨hb, h1, h2⟩
  exact ⟨hb, h.grows h1 h2⟩
theorem ss_spoil (t : ByteArray) (ht : t.size ≤ 1000000) (h : SS w a len cap W) :
    Calls Tryz.prog 25 #[.pointer (some ⟨w.heap.size, 0, none⟩), .string t] W fun e w' => UpT (t.size + 1) e ∧ SS w a len cap w' := by
  refine (spoil_any w.heap.size a len cap t W ht h.1 h.blk).mono ?_
  rintro e w' ⟨hb, h1, h2⟩
  exact ⟨hb, h.grows h1 h2⟩
theorem ss_pick (m c K : Nat) (T : TypeId) (ss : List ByteArray) (h : SS w a len cap W) (hm : ss.length = m) (h0 : 0 < m) (h1 : m ≤ 100) (hK : ∀ t ∈ ss, t.size ≤ K) :
    Calls Tryz.prog 26 #[.pointer (some ⟨w.heap.size, 0, none⟩), .slice (some ⟨W.heap.size, 0, none⟩) m c] (W.alloc (.cells (ss.map Value.string).toArray T (0, 0))) fun e w' => UpT K e ∧ SS w a len cap w' := by
  have h' := h.alloc (.cells (ss.map Value.string).toArray T (0, 0))
  refine (pick_any w.heap.size a len cap W.heap.size m c K T ss _ h'.1 (heap_alloc_new _ _) hm h0 h1 hK (by have := h.2.2.1; omega)).mono ?_
  rintro e w' ⟨hb, h1, h2⟩
  exact ⟨hb, h'.grows h1 h2⟩
end
end Go.Proofs.YtdehbaafbbjcgaaGreatDoor
namespace Go.Proofs.YtdehbaafbbjcgaaGreatDoor
open Go.RowKit Go.Lib

/-- The sign of six bits. -/
def sg (k : Nat) : Int := (([65, 66, 67, 68, 69, 70, 71, 72, 73, 74, 75, 76, 77, 78, 79, 80, 81, 82, 83, 84, 85, 86, 87, 88, 89, 90, 97, 98, 99, 100, 101, 102, 103, 104, 105, 106, 107, 108, 109, 110, 111, 112, 113, 114, 115, 116, 117, 118, 119, 120, 121, 122, 48, 49, 50, 51, 52, 53, 54, 55, 56, 57, 45, 95] : List Int)).getD k 0
/-- A text's bytes as numbers. -/
def bts (s : ByteArray) : List Nat := s.data.toList.map UInt8.toNat
/-- Eight bits by eight as six by six; noughts behind what is left. -/
def b64 : List Nat → List Nat
  | [] => []
  | [a] => [a / 4, a % 4 * 16]
  | [a, b] => [a / 4, a % 4 * 16 + b / 16, b % 16 * 4]
  | a :: b :: c :: r => a / 4 :: (a % 4 * 16 + b / 16) :: (b % 16 * 4 + c / 64) :: (c % 64) :: b64 r
def b64I (l : List Nat) : List Int := (b64 l).map sg
def b64D (s : ByteArray) : ByteArray := strOfNums (b64I (bts s))
/-- What Base64 tells of a text. -/
def base64D (s : ByteArray) : ByteArray := if 4000 < s.size then ⟨#[]⟩ else b64D s
theorem bts_len (s : ByteArray) : (bts s).length = s.size := by unfold bts; rw [List.length_map, ← size_eq]
theorem bts_drop (s : ByteArray) (k : Nat) (h : k < s.size) : (bts s).drop k = s[k].toNat :: (bts s).drop (k + 1) := by
  have h' : k < (bts s).length := by rw [bts_len]; exact h
  rw [List.drop_eq_getElem_cons h']
  congr 1
  simp only [bts, List.getElem_map]
  rfl
theorem bts_end (s : ByteArray) (k : Nat) (h : s.size ≤ k) : (bts s).drop k = [] := List.drop_eq_nil_of_le (by rw [bts_len]; exact h)
theorem b64_len : ∀ (l : List Nat), (b64 l).length ≤ 2 * l.length
  | [] => Nat.le_refl _
  | [_] => Nat.le_refl _
  | [_, _] => by simp [b64]
  | _ :: _ :: _ :: r => by
    have := b64_len r
    simp only [b64, List.length_cons]
    omega
theorem b64I_len (l : List Nat) : (b64I l).length ≤ 2 * l.length := by unfold b64I; rw [List.length_map]; exact b64_len l
theorem idxSg8 (q : Nat) (h : q < 64) (w : World) :
    (Instr.index 9 (.string ⟨#[65, 66, 67, 68, 69, 70, 71, 72, 73, 74, 75, 76, 77, 78, 79, 80, 81, 82, 83, 84, 85, 86, 87, 88, 89, 90, 97, 98, 99, 100, 101, 102, 103, 104, 105, 106, 107, 108, 109, 110, 111, 112, 113, 114, 115, 116, 117, 118, 119, 120, 121, 122, 48, 49, 50, 51, 52, 53, 54, 55, 56, 57, 45, 95]⟩) (.int .u8 (q : Int))).run Tryz.prog w = .ok (.int .u8 (sg q)) w := by
  have hq : q = 0 ∨ q = 1 ∨ q = 2 ∨ q = 3 ∨ q = 4 ∨ q = 5 ∨ q = 6 ∨ q = 7 ∨ q = 8 ∨ q = 9 ∨ q = 10 ∨ q = 11 ∨ q = 12 ∨ q = 13 ∨ q = 14 ∨ q = 15 ∨ q = 16 ∨ q = 17 ∨ q = 18 ∨ q = 19 ∨ q = 20 ∨ q = 21 ∨ q = 22 ∨ q = 23 ∨ q = 24 ∨ q = 25 ∨ q = 26 ∨ q = 27 ∨ q = 28 ∨ q = 29 ∨ q = 30 ∨ q = 31 ∨ q = 32 ∨ q = 33 ∨ q = 34 ∨ q = 35 ∨ q = 36 ∨ q = 37 ∨ q = 38 ∨ q = 39 ∨ q = 40 ∨ q = 41 ∨ q = 42 ∨ q = 43 ∨ q = 44 ∨ q = 45 ∨ q = 46 ∨ q = 47 ∨ q = 48 ∨ q = 49 ∨ q = 50 ∨ q = 51 ∨ q = 52 ∨ q = 53 ∨ q = 54 ∨ q = 55 ∨ q = 56 ∨ q = 57 ∨ q = 58 ∨ q = 59 ∨ q = 60 ∨ q = 61 ∨ q = 62 ∨ q = 63 := by omega
  rcases hq with rfl | rfl | rfl | rfl | rfl | rfl | rfl | rfl | rfl | rfl | rfl | rfl | rfl | rfl | rfl | rfl | rfl | rfl | rfl | rfl | rfl | rfl | rfl | rfl | rfl | rfl | rfl | rfl | rfl | rfl | rfl | rfl | rfl | rfl | rfl | rfl | rfl | rfl | rfl | rfl | rfl | rfl | rfl | rfl | rfl | rfl | rfl | rfl | rfl | rfl | rfl | rfl | rfl | rfl | rfl | rfl | rfl | rfl | rfl | rfl | rfl | rfl | rfl | rfl <;> (show _ = _; kernel_rfl)
theorem idxSg (q : Nat) (h : q < 64) (w : World) :
    (Instr.index 9 (.string ⟨#[65, 66, 67, 68, 69, 70, 71, 72, 73, 74, 75, 76, 77, 78, 79, 80, 81, 82, 83, 84, 85, 86, 87, 88, 89, 90, 97, 98, 99, 100, 101, 102, 103, 104, 105, 106, 107, 108, 109, 110, 111, 112, 113, 114, 115, 116, 117, 118, 119, 120, 121, 122, 48, 49, 50, 51, 52, 53, 54, 55, 56, 57, 45, 95]⟩) (.int .i64 (q : Int))).run Tryz.prog w = .ok (.int .u8 (sg q)) w := by
  have hq : q = 0 ∨ q = 1 ∨ q = 2 ∨ q = 3 ∨ q = 4 ∨ q = 5 ∨ q = 6 ∨ q = 7 ∨ q = 8 ∨ q = 9 ∨ q = 10 ∨ q = 11 ∨ q = 12 ∨ q = 13 ∨ q = 14 ∨ q = 15 ∨ q = 16 ∨ q = 17 ∨ q = 18 ∨ q = 19 ∨ q = 20 ∨ q = 21 ∨ q = 22 ∨ q = 23 ∨ q = 24 ∨ q = 25 ∨ q = 26 ∨ q = 27 ∨ q = 28 ∨ q = 29 ∨ q = 30 ∨ q = 31 ∨ q = 32 ∨ q = 33 ∨ q = 34 ∨ q = 35 ∨ q = 36 ∨ q = 37 ∨ q = 38 ∨ q = 39 ∨ q = 40 ∨ q = 41 ∨ q = 42 ∨ q = 43 ∨ q = 44 ∨ q = 45 ∨ q = 46 ∨ q = 47 ∨ q = 48 ∨ q = 49 ∨ q = 50 ∨ q = 51 ∨ q = 52 ∨ q = 53 ∨ q = 54 ∨ q = 55 ∨ q = 56 ∨ q = 57 ∨ q = 58 ∨ q = 59 ∨ q = 60 ∨ q = 61 ∨ q = 62 ∨ q = 63 := by omega
  rcases hq with rfl | rfl | rfl | rfl | rfl | rfl | rfl | rfl | rfl | rfl | rfl | rfl | rfl | rfl | rfl | rfl | rfl | rfl | rfl | rfl | rfl | rfl | rfl | rfl | rfl | rfl | rfl | rfl | rfl | rfl | rfl | rfl | rfl | rfl | rfl | rfl | rfl | rfl | rfl | rfl | rfl | rfl | rfl | rfl | rfl | rfl | rfl | rfl | rfl | rfl | rfl | rfl | rfl | rfl | rfl | rfl | rfl | rfl | rfl | rfl | rfl | rfl | rfl | rfl <;> (show _ = _; kernel_rfl)
theorem and63 (n : Int) : bits .and .i64 n 63 = n % 64 := by
  have h63 : (BitVec.ofInt 64 63).toNat = 2 ^ 6 - 1 := by decide
  have key : (BitVec.ofInt 64 n &&& BitVec.ofInt 64 63).toNat = (n % ((2 ^ 64 : Nat) : Int)).toNat % 2 ^ 6 := by
    rw [BitVec.toNat_and, BitVec.toNat_ofInt, h63, Nat.and_two_pow_sub_one_eq_mod]
  show IntKind.i64.wrap ((BitVec.ofInt 64 n &&& BitVec.ofInt 64 63).toNat : Nat) = n % 64
  rw [key, IntKind.wrap_i64]
  omega
theorem or_low (p : Nat) (hp : p ≤ 32) (x y : Nat) (hx : x < 2147483648) (hy : y < 2 ^ p) : bits .or .i64 ((x * 2 ^ p : Nat) : Int) (y : Int) = ((x * 2 ^ p + y : Nat) : Int) := by
  have h32 : 2 ^ p ≤ 2 ^ 32 := Nat.pow_le_pow_right (by omega) hp
  have hm : x * 2 ^ p ≤ x * 2 ^ 32 := Nat.mul_le_mul_left _ h32
  have e0 : (2 : Nat) ^ 32 = 4294967296 := by decide
  have e : bits BinOp.or IntKind.i64 ((x * 2 ^ p : Nat) : Int) (y : Int) = IntKind.i64.wrap ((BitVec.ofInt 64 ((x * 2 ^ p : Nat) : Int) ||| BitVec.ofInt 64 (y : Int)).toNat : Nat) := rfl
  rw [e, BitVec.toNat_or, BitVec.toNat_ofInt, BitVec.toNat_ofInt]
  generalize hX : x * 2 ^ p = X at *
  have e1 : ((X : Int) % ((2 ^ 64 : Nat) : Int)).toNat = X := by omega
  have e2 : ((y : Int) % ((2 ^ 64 : Nat) : Int)).toNat = y := by omega
  rw [e1, e2, ← hX, Nat.mul_comm, ← Nat.two_pow_add_eq_or_of_lt hy, IntKind.wrap_i64, Nat.mul_comm, hX]
  omega
end Go.Proofs.YtdehbaafbbjcgaaGreatDoor
