/- The draws' source: '.bytes', walked: some text. The draws' source: '.spoil', walked: some text of at most one byte more. The draws, each as a step from a source at work to a source at work: texts. Base64: groups of six bits, their signs. No walk. spec.l09Base, spec.Base64, walked. spec.Base64, walked. A row of texts: what is said of it. FnExactNameRight, walks: 'spec.NameRight' and 'impl.NameRight' answer true just where the text is a right name. When a number is a secret. -/
import Derived.Test.YtjkmfjegphpjkaaGreatDoorJW01
import Derived.Deep.RegionHeld3
import Derived.Deep.RegionLaw
import Derived.Deep.AppendLies
import Derived.Laws.Bits128
import Derived.Laws.BitsAllLaws
import Derived.Deep.Cut
import Derived.Handy
import Derived.Deep.QuietTactic
import Derived.BigQuiet
import Derived.Test.YtjkmfjegphpjkaaGreatDoorRows
import Derived.WalkKit
import Derived.WalkSpells
import Derived.WalkLawsBesides
import Derived.Below
namespace Go.Proofs.YtjkmfjegphpjkaaGreatDoor
open Go.RowKit

set_option maxHeartbeats 2000000 in
set_option maxRecDepth 100000 in
theorem bytes_any (g : Nat) (a : Option Addr) (len cap k : Nat) (w : World) (hk : k ≤ 100000) (hs : Src g a len cap w) (hblk : ∀ x, 0 < len → a = some x → x.block < w.heap.size) :
    Calls Tryz.prog 22 #[.pointer (some ⟨g, 0, none⟩), .int .i64 (k : Int)] w fun e w' => AnyT k e ∧ Src g a len cap w' ∧ Grows g w w' := by
  obtain ⟨i0, hi, hz0, hz1, hz2⟩ := info_parts infoByte
  have hglt := hs.lt
  have HS : Hid (Src g a len cap w) := hs
  have HBk : Hid (∀ x, 0 < len → a = some x → x.block < w.heap.size) := hblk
  clear hs hblk
  go_enter Tryz.func22, Tryz.ntmps22
  go_wp2
  go_loopw [5, 6] (fun b i wr => ∃ (j : Nat) (xs : List Int), j ≤ k ∧ xs.length = j ∧ i = .int .i64 j ∧ wr.ownsRow w.heap.size 5 1 b j (xs.map (Value.int .u8)) ∧ Src g a len cap wr ∧ Grows g w wr)
    (fun _ i _ => k - (intOf i).toNat)
  case atStart =>
    exact ⟨0, [], Nat.zero_le _, rfl, rfl, World.ownsRow_made _ #[] 0 (Nat.le_refl _) (Nat.zero_le _) rfl, HS.out.alloc _, (Grows.refl _ _).alloc _⟩
  case round =>
    obtain ⟨j, xs, hj, hl, rfl, hown, hs, hgr⟩ := hrel
    have HL : Hid (xs.length = j) := hl
    have H1 : Hid (Src g a len cap wr) := hs
    have H2 : Hid (Grows g w wr) := hgr
    clear hl hs hgr
    by_cases hlt : j < k
    · go_wp2_with fail
      refine (n_any g a len cap 256 _ (by omega) H1.out).mono ?_
      rintro e w2 ⟨r, rfl, hr, hs2, ht2⟩
      have hr' : (r : Int) ≤ 255 := by omega
      have hne : g < w.heap.size := hglt
      have hown2 : w2.ownsRow w.heap.size 5 1 u5 j (xs.map (Value.int .u8)) := hown.kept ht2.1 (by
        cases hob : u5.ownBlock with
        | none => exact .inl rfl
        | some q => right; intro e; have := (hown.lt q hob).1; have e' := Option.some.inj e; omega)
      have H3 : Hid (Src g a len cap w2) := hs2
      have H4 : Hid (Turns g wr w2) := ht2
      have hsz : w.heap.size ≤ w2.heap.size := by rw [ht2.2]; exact H2.out.size
      clear hr hs2 ht2 hown
      go_wp2_with (at_builtin; refine wpList_append_own _ rfl _ _ 22 rfl w.heap.size 5 i0 (.int .u8 0) 1 1 Tryz.underlying22 hi hz0 hz1 hz2 rfl (by decide) _ _ _ rfl (hown2.alloc _) ⟨w2.heap.size, 0, none⟩ 1 1 [.int .u8 (r : Int)] rfl rfl ?c1 ?c2 ?c3 ?c4 ?c5 ?_)
      case c1 => exact cells_one (by simp)
      case c2 => intro u hu; simp at hu; subst hu; rfl
      case c3 => unfold maxLen; omega
      case c4 => omega
      case c5 => simp; omega
      intro v' w1 hown' hgrow _
      obtain ⟨r1, r2, r3⟩ := bytesRel _ HBk.out hne H4.out H3.out H2.out hown2 hown' hgrow
      have R2 : Hid (Src g a len cap w1) := r2
      have R3 : Hid (Grows g w w1) := r3
      clear hown' hgrow hown2 r2 r3
      go_wp2
      go_roundw
      case rel => exact ⟨j + 1, xs ++ [(r : Int)], by omega, by rw [List.length_append, HL.out]; rfl, by go_num, by simpa using r1, R2.out, R3.out⟩
      case measure => simp [intOf]; omega
    · obtain rfl : j = k := by omega
      have hcv := run_convert_own (P := Tryz.prog) (src := 22) (dst := 9) Tryz.underlying22 Tryz.underlying5 Tryz.underlying9 hown
      clear hown
      go_wp2
      go_ret
      exact ⟨⟨_, by rw [size_nums]; exact HL.out, rfl⟩, H1.out, H2.out⟩
end Go.Proofs.YtjkmfjegphpjkaaGreatDoor
namespace Go.Proofs.YtjkmfjegphpjkaaGreatDoor
open Go.RowKit

theorem idx_const (c : ByteArray) (r : Nat) (h : r < c.size) : ∃ z : Nat, z ≤ 255 ∧ ∀ w, (Instr.index 9 (.string c) (.int .i64 (r : Int))).run Tryz.prog w = .ok (.int .u8 (z : Int)) w := by
  refine ⟨c[r].toNat, by have := c[r].toNat_lt; omega, fun w => ?_⟩
  rw [run_index_string w _ c .i64 _ Tryz.underlying9, dif_pos ⟨by omega, by omega⟩]
  simp
theorem conv_one (W : World) (z : Int) : (convert 22 9 (.slice (some ⟨W.heap.size, 0, none⟩) 1 1)).run Tryz.prog (W.alloc (.cells #[.int .u8 z] 5)) = .ok (.string (strOfNums [z])) (W.alloc (.cells #[.int .u8 z] 5)) :=
  run_convert_bytes_arg _ 22 5 Tryz.underlying22 Tryz.underlying5 W.heap.size 0 1 1 [z] rfl (fun i hi => by
    obtain rfl : i = 0 := by omega
    simp) 9 Tryz.underlying9
theorem ext_size (s : ByteArray) (a b : Nat) : (s.extract a b).size ≤ s.size := by rw [ByteArray.size_extract]; omega
theorem ext_two (s : ByteArray) (a b : Nat) (h : a ≤ b) : (s.extract 0 a).size + (s.extract b s.size).size ≤ s.size := by
  rw [ByteArray.size_extract, ByteArray.size_extract]; omega
theorem slice_to (s : ByteArray) (k : Nat) (h : k ≤ s.size) (w : World) : (Instr.slice 9 (.string s) none (some (.int .i64 (k : Int))) none).run Tryz.prog w = .ok (.string (s.extract 0 k)) w := by
  simp [Instr.slice, run_underlying Tryz.underlying9, Instr.sliceBounds, run_sliceBound, h]
theorem slice_from (s : ByteArray) (k : Nat) (i : Int) (e : i = (k : Int)) (h : k ≤ s.size) (w : World) : (Instr.slice 9 (.string s) (some (.int .i64 i)) none none).run Tryz.prog w = .ok (.string (s.extract k s.size)) w := by
  subst e
  simp [Instr.slice, run_underlying Tryz.underlying9, Instr.sliceBounds, run_sliceBound, h]
set_option maxHeartbeats 2000000 in
set_option maxRecDepth 100000 in
theorem spoil_any (g : Nat) (a : Option Addr) (len cap : Nat) (t : ByteArray) (w : World) (ht : t.size ≤ 1000000) (hs : Src g a len cap w) (hblk : ∀ x, 0 < len → a = some x → x.block < w.heap.size) :
    Calls Tryz.prog 27 #[.pointer (some ⟨g, 0, none⟩), .string t] w fun e w' => UpT (t.size + 1) e ∧ Src g a len cap w' ∧ Grows g w w' := by
  have hglt := hs.lt
  have HS : Hid (Src g a len cap w) := hs
  have HBk : Hid (∀ x, 0 < len → a = some x → x.block < w.heap.size) := hblk
  clear hs hblk
  go_enter Tryz.func27, Tryz.ntmps27
  go_wp2_with fail
  rw [show ((t.size : Int) + 1) = ((t.size + 1 : Nat) : Int) from by omega]
  refine (n_any g a len cap (t.size + 1) _ (by omega) HS.out).mono ?_
  rintro e w1 ⟨k, rfl, hk, hs1, ht1⟩
  have hk' : k ≤ t.size := by omega
  have H1 : Hid (Src g a len cap w1) := hs1
  have G1 : Hid (Grows g w w1) := ht1.grows
  clear hk hs1 ht1
  go_wp2_with fail
  refine (n_any g a len cap 17 _ (by omega) H1.out).mono ?_
  rintro e w2 ⟨r, rfl, hr, hs2, ht2⟩
  obtain ⟨z, hz, hidx⟩ := idx_const ⟨#[32, 10, 48, 97, 45, 110, 44, 58, 93, 255, 40, 120, 126, 49, 128, 225, 59]⟩ r (show r < 17 by omega)
  have H2 : Hid (Src g a len cap w2) := hs2
  have G2 : Hid (Grows g w w2) := G1.out.trans ht2.grows
  clear hr hs2 ht2
  have hcv := conv_one w2 (z : Int)
  obtain ⟨c, hc⟩ : ∃ c, c = strOfNums [(z : Int)] := ⟨_, rfl⟩
  have hcs : c.size = 1 := by rw [hc, size_nums]; rfl
  rw [← hc] at hcv
  clear hc
  have s1 := slice_to t k hk'
  have s2 := slice_from t k (k : Int) rfl hk'
  have hp12 := ext_two t k k (Nat.le_refl _)
  obtain ⟨p1, hp1⟩ : ∃ p, p = t.extract 0 k := ⟨_, rfl⟩
  obtain ⟨p2, hp2⟩ : ∃ p, p = t.extract k t.size := ⟨_, rfl⟩
  rw [← hp1] at s1
  rw [← hp2] at s2
  rw [← hp1, ← hp2] at hp12
  have a1 := fun W => run_string_add_sum (P := Tryz.prog) (w := W) p1 c (by omega)
  have a2 := fun W => run_string_add_sum (P := Tryz.prog) (w := W) (p1 ++ c) p2 (by rw [ByteArray.size_append]; omega)
  have HP : Hid (p1 = t.extract 0 k) := hp1
  have hfin2 : Hid ((p1 ++ c ++ p2).size ≤ t.size + 1) := (by rw [ByteArray.size_append, ByteArray.size_append]; omega : (p1 ++ c ++ p2).size ≤ t.size + 1)
  clear hp1 hp2
  by_cases hkt : k = t.size
  · have ek : ((k : Int) == (t.size : Int)) = true := by rw [beq_iff_eq]; omega
    have G3 : Hid (Grows g w (w2.alloc (.cells #[.int .u8 (z : Int)] 5))) := G2.out.alloc _
    have H3 : Hid (Src g a len cap (w2.alloc (.cells #[.int .u8 (z : Int)] 5))) := H2.out.alloc _
    clear hkt
    go_wp2_with fail
    go_quiet (fail)
    go_wp2
    go_ret
    exact ⟨⟨_, hfin2.out, rfl⟩, H3.out.drewN _, ⟨G3.out.os, G3.out.tape, G3.out.output, G3.out.size, G3.out.block⟩⟩
  have ek : ((k : Int) == (t.size : Int)) = false := by rw [beq_eq_false_iff_ne]; omega
  have hkl : k < t.size := by omega
  clear hkt
  have s3 := slice_from t (k + 1) ((k : Int) + 1) (by omega) (by omega)
  have hp13 := ext_two t k (k + 1) (by omega)
  obtain ⟨p3, hp3⟩ : ∃ p, p = t.extract (k + 1) t.size := ⟨_, rfl⟩
  rw [← hp3] at s3
  rw [← HP.out, ← hp3] at hp13
  have a3 := fun W => run_string_add_sum (P := Tryz.prog) (w := W) p1 p3 (by omega)
  have a4 := fun W => run_string_add_sum (P := Tryz.prog) (w := W) (p1 ++ c) p3 (by rw [ByteArray.size_append]; omega)
  have hfin3 : Hid ((p1 ++ p3).size ≤ t.size + 1) := (by rw [ByteArray.size_append]; omega : (p1 ++ p3).size ≤ t.size + 1)
  have hfin4 : Hid ((p1 ++ c ++ p3).size ≤ t.size + 1) := (by rw [ByteArray.size_append, ByteArray.size_append]; omega : (p1 ++ c ++ p3).size ≤ t.size + 1)
  clear hp3
  have ew : IntKind.i64.wrap ((k : Int) + 1) = (k : Int) + 1 := by rw [IntKind.wrap_i64]; omega
  go_wp2_with fail
  refine (one_any g a len cap 3 _ (by omega) (H2.out.alloc _)).mono ?_
  rintro e w3 ⟨hb, hs3, ht3⟩
  have H3 : Hid (Src g a len cap w3) := hs3
  have G3 : Hid (Grows g w w3) := (G2.out.alloc _).trans ht3.grows
  clear hs3 ht3 hcv hidx
  rcases hb with rfl | rfl
  · go_wp2_with fail
    go_quiet (fail)
    go_wp2
    go_ret
    exact ⟨⟨_, hfin2.out, rfl⟩, H3.out.drewN _, ⟨G3.out.os, G3.out.tape, G3.out.output, G3.out.size, G3.out.block⟩⟩
  go_wp2_with fail
  refine (one_any g a len cap 2 _ (by omega) H3.out).mono ?_
  rintro e w4 ⟨hb, hs4, ht4⟩
  have H4 : Hid (Src g a len cap w4) := hs4
  have G4 : Hid (Grows g w w4) := G3.out.trans ht4.grows
  clear hs4 ht4
  rcases hb with rfl | rfl
  · go_wp2_with fail
    go_quiet (fail)
    go_wp2
    go_ret
    exact ⟨⟨_, hfin3.out, rfl⟩, H4.out.drewN _, ⟨G4.out.os, G4.out.tape, G4.out.output, G4.out.size, G4.out.block⟩⟩
  · go_wp2_with fail
    go_quiet (fail)
    go_wp2
    go_ret
    exact ⟨⟨_, hfin4.out, rfl⟩, H4.out.drewN _, ⟨G4.out.os, G4.out.tape, G4.out.output, G4.out.size, G4.out.block⟩⟩
end Go.Proofs.YtjkmfjegphpjkaaGreatDoor
namespace Go.Proofs.YtjkmfjegphpjkaaGreatDoor
open Go.RowKit

section
variable {w W W' : World} {a : Option Addr} {len cap : Nat}
theorem ss_bytes (k : Nat) (hk : k ≤ 100000) (h : SS w a len cap W) :
    Calls Tryz.prog 22 #[.pointer (some ⟨w.heap.size, 0, none⟩), .int .i64 (k : Int)] W fun e w' => AnyT k e ∧ SS w a len cap w' := by
  refine (bytes_any w.heap.size a len cap k W hk h.1 h.blk).mono ?_
  rintro e w' ⟨hb, h1, h2⟩
  exact ⟨hb, h.grows h1 h2⟩
theorem ss_spoil (t : ByteArray) (ht : t.size ≤ 1000000) (h : SS w a len cap W) :
    Calls Tryz.prog 27 #[.pointer (some ⟨w.heap.size, 0, none⟩), .string t] W fun e w' => UpT (t.size + 1) e ∧ SS w a len cap w' := by
  refine (spoil_any w.heap.size a len cap t W ht h.1 h.blk).mono ?_
  rintro e w' ⟨hb, h1, h2⟩
  exact ⟨hb, h.grows h1 h2⟩
end
end Go.Proofs.YtjkmfjegphpjkaaGreatDoor
namespace Go.Proofs.YtjkmfjegphpjkaaGreatDoor
open Go.RowKit Go.Lib

/-- The sign of six bits. -/
def sg (k : Nat) : Int := (([65, 66, 67, 68, 69, 70, 71, 72, 73, 74, 75, 76, 77, 78, 79, 80, 81, 82, 83, 84, 85, 86, 87, 88, 89, 90, 97, 98, 99, 100, 101, 102, 103, 104, 105, 106, 107, 108, 109, 110, 111, 112, 113, 114, 115, 116, 117, 118, 119, 120, 121, 122, 48, 49, 50, 51, 52, 53, 54, 55, 56, 57, 45, 95] : List Int)).getD k 0
/-- A text's bytes as numbers. -/
def bts (s : ByteArray) : List Nat := s.data.toList.map UInt8.toNat
/-- Eight bits by eight as six by six; noughts behind what is left. -/
def b64 : List Nat → List Nat
  | [] => []
  | [a] => [a / 4, a % 4 * 16]
  | [a, b] => [a / 4, a % 4 * 16 + b / 16, b % 16 * 4]
  | a :: b :: c :: r => a / 4 :: (a % 4 * 16 + b / 16) :: (b % 16 * 4 + c / 64) :: (c % 64) :: b64 r
def b64I (l : List Nat) : List Int := (b64 l).map sg
def b64D (s : ByteArray) : ByteArray := strOfNums (b64I (bts s))
/-- What Base64 tells of a text. -/
def base64D (s : ByteArray) : ByteArray := if 4000 < s.size then ⟨#[]⟩ else b64D s
theorem bts_len (s : ByteArray) : (bts s).length = s.size := by unfold bts; rw [List.length_map, ← size_eq]
theorem bts_drop (s : ByteArray) (k : Nat) (h : k < s.size) : (bts s).drop k = s[k].toNat :: (bts s).drop (k + 1) := by
  have h' : k < (bts s).length := by rw [bts_len]; exact h
  rw [List.drop_eq_getElem_cons h']
  congr 1
  simp only [bts, List.getElem_map]
  rfl
theorem bts_end (s : ByteArray) (k : Nat) (h : s.size ≤ k) : (bts s).drop k = [] := List.drop_eq_nil_of_le (by rw [bts_len]; exact h)
theorem b64_len : ∀ (l : List Nat), (b64 l).length ≤ 2 * l.length
  | [] => Nat.le_refl _
  | [_] => Nat.le_refl _
  | [_, _] => by simp [b64]
  | _ :: _ :: _ :: r => by
    have := b64_len r
    simp only [b64, List.length_cons]
    omega
theorem b64I_len (l : List Nat) : (b64I l).length ≤ 2 * l.length := by unfold b64I; rw [List.length_map]; exact b64_len l
theorem idxSg8 (q : Nat) (h : q < 64) (w : World) :
    (Instr.index 9 (.string ⟨#[65, 66, 67, 68, 69, 70, 71, 72, 73, 74, 75, 76, 77, 78, 79, 80, 81, 82, 83, 84, 85, 86, 87, 88, 89, 90, 97, 98, 99, 100, 101, 102, 103, 104, 105, 106, 107, 108, 109, 110, 111, 112, 113, 114, 115, 116, 117, 118, 119, 120, 121, 122, 48, 49, 50, 51, 52, 53, 54, 55, 56, 57, 45, 95]⟩) (.int .u8 (q : Int))).run Tryz.prog w = .ok (.int .u8 (sg q)) w := by
  have hq : q = 0 ∨ q = 1 ∨ q = 2 ∨ q = 3 ∨ q = 4 ∨ q = 5 ∨ q = 6 ∨ q = 7 ∨ q = 8 ∨ q = 9 ∨ q = 10 ∨ q = 11 ∨ q = 12 ∨ q = 13 ∨ q = 14 ∨ q = 15 ∨ q = 16 ∨ q = 17 ∨ q = 18 ∨ q = 19 ∨ q = 20 ∨ q = 21 ∨ q = 22 ∨ q = 23 ∨ q = 24 ∨ q = 25 ∨ q = 26 ∨ q = 27 ∨ q = 28 ∨ q = 29 ∨ q = 30 ∨ q = 31 ∨ q = 32 ∨ q = 33 ∨ q = 34 ∨ q = 35 ∨ q = 36 ∨ q = 37 ∨ q = 38 ∨ q = 39 ∨ q = 40 ∨ q = 41 ∨ q = 42 ∨ q = 43 ∨ q = 44 ∨ q = 45 ∨ q = 46 ∨ q = 47 ∨ q = 48 ∨ q = 49 ∨ q = 50 ∨ q = 51 ∨ q = 52 ∨ q = 53 ∨ q = 54 ∨ q = 55 ∨ q = 56 ∨ q = 57 ∨ q = 58 ∨ q = 59 ∨ q = 60 ∨ q = 61 ∨ q = 62 ∨ q = 63 := by omega
  rcases hq with rfl | rfl | rfl | rfl | rfl | rfl | rfl | rfl | rfl | rfl | rfl | rfl | rfl | rfl | rfl | rfl | rfl | rfl | rfl | rfl | rfl | rfl | rfl | rfl | rfl | rfl | rfl | rfl | rfl | rfl | rfl | rfl | rfl | rfl | rfl | rfl | rfl | rfl | rfl | rfl | rfl | rfl | rfl | rfl | rfl | rfl | rfl | rfl | rfl | rfl | rfl | rfl | rfl | rfl | rfl | rfl | rfl | rfl | rfl | rfl | rfl | rfl | rfl | rfl <;> (show _ = _; kernel_rfl)
theorem idxSg (q : Nat) (h : q < 64) (w : World) :
    (Instr.index 9 (.string ⟨#[65, 66, 67, 68, 69, 70, 71, 72, 73, 74, 75, 76, 77, 78, 79, 80, 81, 82, 83, 84, 85, 86, 87, 88, 89, 90, 97, 98, 99, 100, 101, 102, 103, 104, 105, 106, 107, 108, 109, 110, 111, 112, 113, 114, 115, 116, 117, 118, 119, 120, 121, 122, 48, 49, 50, 51, 52, 53, 54, 55, 56, 57, 45, 95]⟩) (.int .i64 (q : Int))).run Tryz.prog w = .ok (.int .u8 (sg q)) w := by
  have hq : q = 0 ∨ q = 1 ∨ q = 2 ∨ q = 3 ∨ q = 4 ∨ q = 5 ∨ q = 6 ∨ q = 7 ∨ q = 8 ∨ q = 9 ∨ q = 10 ∨ q = 11 ∨ q = 12 ∨ q = 13 ∨ q = 14 ∨ q = 15 ∨ q = 16 ∨ q = 17 ∨ q = 18 ∨ q = 19 ∨ q = 20 ∨ q = 21 ∨ q = 22 ∨ q = 23 ∨ q = 24 ∨ q = 25 ∨ q = 26 ∨ q = 27 ∨ q = 28 ∨ q = 29 ∨ q = 30 ∨ q = 31 ∨ q = 32 ∨ q = 33 ∨ q = 34 ∨ q = 35 ∨ q = 36 ∨ q = 37 ∨ q = 38 ∨ q = 39 ∨ q = 40 ∨ q = 41 ∨ q = 42 ∨ q = 43 ∨ q = 44 ∨ q = 45 ∨ q = 46 ∨ q = 47 ∨ q = 48 ∨ q = 49 ∨ q = 50 ∨ q = 51 ∨ q = 52 ∨ q = 53 ∨ q = 54 ∨ q = 55 ∨ q = 56 ∨ q = 57 ∨ q = 58 ∨ q = 59 ∨ q = 60 ∨ q = 61 ∨ q = 62 ∨ q = 63 := by omega
  rcases hq with rfl | rfl | rfl | rfl | rfl | rfl | rfl | rfl | rfl | rfl | rfl | rfl | rfl | rfl | rfl | rfl | rfl | rfl | rfl | rfl | rfl | rfl | rfl | rfl | rfl | rfl | rfl | rfl | rfl | rfl | rfl | rfl | rfl | rfl | rfl | rfl | rfl | rfl | rfl | rfl | rfl | rfl | rfl | rfl | rfl | rfl | rfl | rfl | rfl | rfl | rfl | rfl | rfl | rfl | rfl | rfl | rfl | rfl | rfl | rfl | rfl | rfl | rfl | rfl <;> (show _ = _; kernel_rfl)
theorem and63 (n : Int) : bits .and .i64 n 63 = n % 64 := by
  have h63 : (BitVec.ofInt 64 63).toNat = 2 ^ 6 - 1 := by decide
  have key : (BitVec.ofInt 64 n &&& BitVec.ofInt 64 63).toNat = (n % ((2 ^ 64 : Nat) : Int)).toNat % 2 ^ 6 := by
    rw [BitVec.toNat_and, BitVec.toNat_ofInt, h63, Nat.and_two_pow_sub_one_eq_mod]
  show IntKind.i64.wrap ((BitVec.ofInt 64 n &&& BitVec.ofInt 64 63).toNat : Nat) = n % 64
  rw [key, IntKind.wrap_i64]
  omega
theorem or_low (p : Nat) (hp : p ≤ 32) (x y : Nat) (hx : x < 2147483648) (hy : y < 2 ^ p) : bits .or .i64 ((x * 2 ^ p : Nat) : Int) (y : Int) = ((x * 2 ^ p + y : Nat) : Int) := by
  have h32 : 2 ^ p ≤ 2 ^ 32 := Nat.pow_le_pow_right (by omega) hp
  have hm : x * 2 ^ p ≤ x * 2 ^ 32 := Nat.mul_le_mul_left _ h32
  have e0 : (2 : Nat) ^ 32 = 4294967296 := by decide
  have e : bits BinOp.or IntKind.i64 ((x * 2 ^ p : Nat) : Int) (y : Int) = IntKind.i64.wrap ((BitVec.ofInt 64 ((x * 2 ^ p : Nat) : Int) ||| BitVec.ofInt 64 (y : Int)).toNat : Nat) := rfl
  rw [e, BitVec.toNat_or, BitVec.toNat_ofInt, BitVec.toNat_ofInt]
  generalize hX : x * 2 ^ p = X at *
  have e1 : ((X : Int) % ((2 ^ 64 : Nat) : Int)).toNat = X := by omega
  have e2 : ((y : Int) % ((2 ^ 64 : Nat) : Int)).toNat = y := by omega
  rw [e1, e2, ← hX, Nat.mul_comm, ← Nat.two_pow_add_eq_or_of_lt hy, IntKind.wrap_i64, Nat.mul_comm, hX]
  omega
end Go.Proofs.YtjkmfjegphpjkaaGreatDoor
namespace Go.Proofs.YtjkmfjegphpjkaaGreatDoor
open Go.RowKit Go.Lib

set_option linter.unusedSimpArgs false in
set_option maxHeartbeats 4000000 in
set_option maxRecDepth 100000 in
theorem specBase (s : ByteArray) (w : World) (hs : s.size ≤ 100000) :
    Calls Tryz.prog 24 #[.string s] w fun e w' => e = .returned (.string (b64D s)) ∧ Below w.heap.size w w' := by
  obtain ⟨i0, hi, hz0, hz1, hz2⟩ := info_parts infoByte
  have hR0 := b64I_len (bts s)
  rw [bts_len] at hR0
  obtain ⟨R, hR⟩ : ∃ R, R = b64I (bts s) := ⟨_, rfl⟩
  have HD : Hid (b64D s = strOfNums R) := by show _ = _; rw [hR]; rfl
  rw [HD.out]
  rw [← hR] at hR0
  have HRl : Hid (R.length ≤ 200000) := by show _ ≤ _; omega
  have HR : Hid (R = b64I (bts s)) := hR
  clear hR hR0 HD
  go_enter Tryz.func24, Tryz.ntmps24
  go_wp2
  go_loopw [3, 4] (fun b i wr => ∃ (k : Nat) (pre : List Int), i = .int .i64 k ∧ k ≤ s.size + 2 ∧ wr.ownsRow w.heap.size 5 1 b pre.length (pre.map (Value.int .u8)) ∧ R = pre ++ b64I ((bts s).drop k) ∧ Below w.heap.size w wr ∧ w.heap.size ≤ wr.heap.size)
    (fun _ i _ => s.size + 3 - (RowKit.intOf i).toNat)
  case atStart =>
    exact ⟨0, [], rfl, by omega, World.ownsRow_made _ #[] 0 (Nat.le_refl _) (Nat.zero_le _) rfl, HR.out, (Below.refl _ _).alloc (Nat.le_refl _) _, by simp⟩
  case round =>
    obtain ⟨k, pre, rfl, hk, hown, hpre, hbel, hsz⟩ := hrel
    by_cases hlt : k < s.size
    rotate_left
    · have hRp : R = pre := by rw [hpre, bts_end s k (by omega)]; simp [b64I, b64]
      subst hRp
      have hcv := run_convert_own (P := Tryz.prog) (src := 22) (dst := 9) Tryz.underlying22 Tryz.underlying5 Tryz.underlying9 hown
      have q2 : ¬ (k : Int) < (s.size : Int) := by omega
      clear hown hpre HR HRl hlt
      go_wp2
      go_ret
      exact ⟨rfl, hbel⟩
    have q1 : (0 : Int) ≤ (k : Int) := Int.natCast_nonneg _
    have q2 : (k : Int) < (s.size : Int) := by omega
    have ha := u8_lt s[k]
    by_cases h3 : k + 2 < s.size
    · have hb := u8_lt (s[k + 1]'(by omega))
      have hc := u8_lt (s[k + 2]'(by omega))
      have hd : b64I ((bts s).drop k) = [sg (s[k].toNat / 4), sg (s[k].toNat % 4 * 16 + (s[k + 1]'(by omega)).toNat / 16), sg ((s[k + 1]'(by omega)).toNat % 16 * 4 + (s[k + 2]'(by omega)).toNat / 64), sg ((s[k + 2]'(by omega)).toNat % 64)] ++ b64I ((bts s).drop (k + 3)) := by
        rw [bts_drop s k hlt, bts_drop s (k + 1) (by omega), bts_drop s (k + 1 + 1) (by omega)]
        rfl
      have q3 : (k : Int) + 1 < (s.size : Int) := by omega
      have q4 : (k : Int) + 2 < (s.size : Int) := by omega
      obtain ⟨m, hm⟩ : ∃ m : Nat, m = s[k].toNat * 65536 + (s[k + 1]'(by omega)).toNat * 256 := ⟨_, rfl⟩
      obtain ⟨N, hN⟩ : ∃ N : Nat, N = m + (s[k + 2]'(by omega)).toNat := ⟨_, rfl⟩
      have o1 : bits .or .i64 ((s[k].toNat : Int) * 65536) (((s[k + 1]'(by omega)).toNat : Int) * 256) = (m : Int) := by
        have h := or_low 16 (by omega) s[k].toNat ((s[k + 1]'(by omega)).toNat * 256) (by omega) (by omega)
        rw [hm, ← h]
        congr 1 <;> omega
      have o2 : bits .or .i64 (m : Int) ((s[k + 2]'(by omega)).toNat : Int) = (N : Int) := by
        have h := or_low 8 (by omega) (s[k].toNat * 256 + (s[k + 1]'(by omega)).toNat) (s[k + 2]'(by omega)).toNat (by omega) (by omega)
        have e : (s[k].toNat * 256 + (s[k + 1]'(by omega)).toNat) * 2 ^ 8 = m := by omega
        rw [e, ← hN] at h
        exact h
      obtain ⟨g0, hg0⟩ : ∃ g, g = s[k].toNat / 4 := ⟨_, rfl⟩
      rw [← hg0] at hd
      have v0 : bits .and .i64 (((N : Int) / 262144)) 63 = (g0 : Int) := by rw [and63]; omega
      have e0 := idxSg g0 (by omega)
      obtain ⟨g1, hg1⟩ : ∃ g, g = s[k].toNat % 4 * 16 + (s[k + 1]'(by omega)).toNat / 16 := ⟨_, rfl⟩
      rw [← hg1] at hd
      have v1 : bits .and .i64 (((N : Int) / 4096)) 63 = (g1 : Int) := by rw [and63]; omega
      have e1 := idxSg g1 (by omega)
      obtain ⟨g2, hg2⟩ : ∃ g, g = (s[k + 1]'(by omega)).toNat % 16 * 4 + (s[k + 2]'(by omega)).toNat / 64 := ⟨_, rfl⟩
      rw [← hg2] at hd
      have v2 : bits .and .i64 (((N : Int) / 64)) 63 = (g2 : Int) := by rw [and63]; omega
      have e2 := idxSg g2 (by omega)
      obtain ⟨g3, hg3⟩ : ∃ g, g = (s[k + 2]'(by omega)).toNat % 64 := ⟨_, rfl⟩
      rw [← hg3] at hd
      have v3 : bits .and .i64 ((N : Int)) 63 = (g3 : Int) := by rw [and63]; omega
      have e3 := idxSg g3 (by omega)
      obtain ⟨pl, hpl⟩ : ∃ n, n = pre.length := ⟨_, rfl⟩
      have HPl : Hid (pl = pre.length) := hpl
      have HX : Hid (R = pre ++ ([sg g0, sg g1, sg g2, sg g3] ++ b64I ((bts s).drop (k + 3)))) := by show _ = _; rw [hpre, hd]
      have hbd : pl + 4 ≤ 200000 := by
        have h1 := congrArg List.length HX.out
        have h2 := HRl.out
        simp only [List.length_append, List.length_cons, List.length_nil] at h1
        omega
      rw [← hpl] at hown
      clear hpre hd hpl hN hm hg0 hg1 hg2 hg3
      go_upto_region 10 with fail
      clear ha hb hc o1 o2
      go_region_law ((refine step_append_lies _ (by rfl) _ _ _ (by rfl) w.heap.size 5 i0 _ 1 1 Tryz.underlying22 hi hz0 hz1 hz2 rfl (by omega) _ _ _ (by rfl) ((hown.alloc _).drew) ⟨wr.heap.size, 0, none⟩ 2 2 [.int .u8 (sg g0), .int .u8 (sg g1)] (by rfl) (by rfl) (World.news_of_block (cs := #[.int .u8 (sg g0), .int .u8 (sg g1)]) (t := 5) (fr := (0, 0)) (heap_alloc_new wr _)) (by simp [Value.oneCell']) (by omega) (by unfold maxLen; omega) (by omega) (by simp; omega) (wr.heap.size + 1) (by simp) ?_; intro gg cap w1 hown1 hgrow hat hlt1))
      all_goals
        have hb1 : Below w.heap.size w w1 := ((hbel.alloc hsz _).drew).grown hgrow (by simp; omega) (fun j hj => (hown.lt j hj).1)
        have hs1 : w.heap.size ≤ w1.heap.size := hb1.size
        have HB1 : Hid (Below w.heap.size w w1) := hb1
        clear hgrow hat hlt1 hbel hb1 hown e0 e1 v0 v1
        go_wp2_with (at_builtin; refine wpList_append_own _ rfl _ _ 22 rfl w.heap.size 5 i0 (.int .u8 0) 1 1 Tryz.underlying22 hi hz0 hz1 hz2 rfl (by decide) _ _ _ rfl (hown1.alloc _) ⟨w1.heap.size, 0, none⟩ 1 1 [.int .u8 (sg g2)] rfl rfl ?c1 ?c2 ?c3 ?c4 ?c5 ?_)
        case c1 => exact cells_one (by simp)
        case c2 => intro u hu; simp at hu; subst hu; rfl
        case c3 => unfold maxLen; omega
        case c4 => omega
        case c5 => simp; omega
        intro x2 w2 hownw2 hgroww2 _
        have HBw2 : Hid (Below w.heap.size w w2) := (HB1.out.alloc (by omega) _).grown hgroww2 (by simp; omega) (fun j hj => (hown1.lt j hj).1)
        have hsw2 : w.heap.size ≤ w2.heap.size := HBw2.out.size
        clear hgroww2 hown1 e2 v2
        go_wp2_with (at_builtin; refine wpList_append_own _ rfl _ _ 22 rfl w.heap.size 5 i0 (.int .u8 0) 1 1 Tryz.underlying22 hi hz0 hz1 hz2 rfl (by decide) _ _ _ rfl (hownw2.alloc _) ⟨w2.heap.size, 0, none⟩ 1 1 [.int .u8 (sg g3)] rfl rfl ?c1 ?c2 ?c3 ?c4 ?c5 ?_)
        case c1 => exact cells_one (by simp)
        case c2 => intro u hu; simp at hu; subst hu; rfl
        case c3 => unfold maxLen; omega
        case c4 => omega
        case c5 => simp; omega
        intro x3 w3 hownw3 hgroww3 _
        have HBw3 : Hid (Below w.heap.size w w3) := (HBw2.out.alloc (by omega) _).grown hgroww3 (by simp; omega) (fun j hj => (hownw2.lt j hj).1)
        have hsw3 : w.heap.size ≤ w3.heap.size := HBw3.out.size
        clear hgroww3 hownw2 e3 v3
        have ho : w3.ownsRow w.heap.size 5 1 x3 (pre ++ [sg g0, sg g1, sg g2, sg g3]).length ((pre ++ [sg g0, sg g1, sg g2, sg g3]).map (Value.int .u8)) := by
          simpa [List.map_append, HPl.out] using hownw3
        have HO : Hid _ := ho
        clear ho hownw3
        have HRe : Hid (R = (pre ++ [sg g0, sg g1, sg g2, sg g3]) ++ b64I ((bts s).drop (k + 3))) := by
          show _ = _
          rw [HX.out]
          simp [b64I, b64]
        clear HX
        go_wp2
        go_roundw
        case rel => exact ⟨k + 3, _, by go_num, by omega, HO.out, HRe.out, HBw3.out, HBw3.out.size⟩
        case measure => simp [RowKit.intOf]; omega
    by_cases h2 : k + 1 < s.size
    · have hb := u8_lt (s[k + 1]'(by omega))
      have hd : b64I ((bts s).drop k) = [sg (s[k].toNat / 4), sg (s[k].toNat % 4 * 16 + (s[k + 1]'(by omega)).toNat / 16), sg ((s[k + 1]'(by omega)).toNat % 16 * 4)] := by
        rw [bts_drop s k hlt, bts_drop s (k + 1) (by omega), bts_end s (k + 1 + 1) (by omega)]
        rfl
      have q3 : (k : Int) + 1 < (s.size : Int) := by omega
      have q4 : ¬ (k : Int) + 2 < (s.size : Int) := by omega
      obtain ⟨N, hN⟩ : ∃ N : Nat, N = s[k].toNat * 65536 + (s[k + 1]'(by omega)).toNat * 256 := ⟨_, rfl⟩
      have o1 : bits .or .i64 ((s[k].toNat : Int) * 65536) (((s[k + 1]'(by omega)).toNat : Int) * 256) = (N : Int) := by
        have h := or_low 16 (by omega) s[k].toNat ((s[k + 1]'(by omega)).toNat * 256) (by omega) (by omega)
        rw [hN, ← h]
        congr 1 <;> omega
      obtain ⟨g0, hg0⟩ : ∃ g, g = s[k].toNat / 4 := ⟨_, rfl⟩
      rw [← hg0] at hd
      have v0 : bits .and .i64 (((N : Int) / 262144)) 63 = (g0 : Int) := by rw [and63]; omega
      have e0 := idxSg g0 (by omega)
      obtain ⟨g1, hg1⟩ : ∃ g, g = s[k].toNat % 4 * 16 + (s[k + 1]'(by omega)).toNat / 16 := ⟨_, rfl⟩
      rw [← hg1] at hd
      have v1 : bits .and .i64 (((N : Int) / 4096)) 63 = (g1 : Int) := by rw [and63]; omega
      have e1 := idxSg g1 (by omega)
      obtain ⟨g2, hg2⟩ : ∃ g, g = (s[k + 1]'(by omega)).toNat % 16 * 4 := ⟨_, rfl⟩
      rw [← hg2] at hd
      have v2 : bits .and .i64 (((N : Int) / 64)) 63 = (g2 : Int) := by rw [and63]; omega
      have e2 := idxSg g2 (by omega)
      obtain ⟨pl, hpl⟩ : ∃ n, n = pre.length := ⟨_, rfl⟩
      have HPl : Hid (pl = pre.length) := hpl
      have HX : Hid (R = pre ++ ([sg g0, sg g1, sg g2])) := by show _ = _; rw [hpre, hd]
      have hbd : pl + 3 ≤ 200000 := by
        have h1 := congrArg List.length HX.out
        have h2 := HRl.out
        simp only [List.length_append, List.length_cons, List.length_nil] at h1
        omega
      rw [← hpl] at hown
      clear hpre hd hpl hN hg0 hg1 hg2
      go_upto_region 10 with fail
      clear ha hb o1
      go_region_law ((refine step_append_lies _ (by rfl) _ _ _ (by rfl) w.heap.size 5 i0 _ 1 1 Tryz.underlying22 hi hz0 hz1 hz2 rfl (by omega) _ _ _ (by rfl) ((hown.alloc _).drew) ⟨wr.heap.size, 0, none⟩ 2 2 [.int .u8 (sg g0), .int .u8 (sg g1)] (by rfl) (by rfl) (World.news_of_block (cs := #[.int .u8 (sg g0), .int .u8 (sg g1)]) (t := 5) (fr := (0, 0)) (heap_alloc_new wr _)) (by simp [Value.oneCell']) (by omega) (by unfold maxLen; omega) (by omega) (by simp; omega) (wr.heap.size + 1) (by simp) ?_; intro gg cap w1 hown1 hgrow hat hlt1))
      all_goals
        have hb1 : Below w.heap.size w w1 := ((hbel.alloc hsz _).drew).grown hgrow (by simp; omega) (fun j hj => (hown.lt j hj).1)
        have hs1 : w.heap.size ≤ w1.heap.size := hb1.size
        have HB1 : Hid (Below w.heap.size w w1) := hb1
        clear hgrow hat hlt1 hbel hb1 hown e0 e1 v0 v1
        go_wp2_with (at_builtin; refine wpList_append_own _ rfl _ _ 22 rfl w.heap.size 5 i0 (.int .u8 0) 1 1 Tryz.underlying22 hi hz0 hz1 hz2 rfl (by decide) _ _ _ rfl (hown1.alloc _) ⟨w1.heap.size, 0, none⟩ 1 1 [.int .u8 (sg g2)] rfl rfl ?c1 ?c2 ?c3 ?c4 ?c5 ?_)
        case c1 => exact cells_one (by simp)
        case c2 => intro u hu; simp at hu; subst hu; rfl
        case c3 => unfold maxLen; omega
        case c4 => omega
        case c5 => simp; omega
        intro x2 w2 hownw2 hgroww2 _
        have HBw2 : Hid (Below w.heap.size w w2) := (HB1.out.alloc (by omega) _).grown hgroww2 (by simp; omega) (fun j hj => (hown1.lt j hj).1)
        have hsw2 : w.heap.size ≤ w2.heap.size := HBw2.out.size
        clear hgroww2 hown1 e2 v2
        have ho : w2.ownsRow w.heap.size 5 1 x2 (pre ++ [sg g0, sg g1, sg g2]).length ((pre ++ [sg g0, sg g1, sg g2]).map (Value.int .u8)) := by
          simpa [List.map_append, HPl.out] using hownw2
        have HO : Hid _ := ho
        clear ho hownw2
        have HRe : Hid (R = (pre ++ [sg g0, sg g1, sg g2]) ++ b64I ((bts s).drop (k + 3))) := by
          show _ = _
          rw [HX.out, bts_end s (k + 3) (by omega)]
          simp [b64I, b64]
        clear HX
        go_wp2
        go_roundw
        case rel => exact ⟨k + 3, _, by go_num, by omega, HO.out, HRe.out, HBw2.out, HBw2.out.size⟩
        case measure => simp [RowKit.intOf]; omega
    have hd : b64I ((bts s).drop k) = [sg (s[k].toNat / 4), sg (s[k].toNat % 4 * 16)] := by
      rw [bts_drop s k hlt, bts_end s (k + 1) (by omega)]
      rfl
    have q3 : ¬ (k : Int) + 1 < (s.size : Int) := by omega
    have q4 : ¬ (k : Int) + 2 < (s.size : Int) := by omega
    obtain ⟨N, hN⟩ : ∃ N : Nat, N = s[k].toNat * 65536 := ⟨_, rfl⟩
    have o1 : (s[k].toNat : Int) * 65536 = (N : Int) := by omega
    obtain ⟨g0, hg0⟩ : ∃ g, g = s[k].toNat / 4 := ⟨_, rfl⟩
    rw [← hg0] at hd
    have v0 : bits .and .i64 (((N : Int) / 262144)) 63 = (g0 : Int) := by rw [and63]; omega
    have e0 := idxSg g0 (by omega)
    obtain ⟨g1, hg1⟩ : ∃ g, g = s[k].toNat % 4 * 16 := ⟨_, rfl⟩
    rw [← hg1] at hd
    have v1 : bits .and .i64 (((N : Int) / 4096)) 63 = (g1 : Int) := by rw [and63]; omega
    have e1 := idxSg g1 (by omega)
    obtain ⟨pl, hpl⟩ : ∃ n, n = pre.length := ⟨_, rfl⟩
    have HPl : Hid (pl = pre.length) := hpl
    have HX : Hid (R = pre ++ ([sg g0, sg g1])) := by show _ = _; rw [hpre, hd]
    have hbd : pl + 2 ≤ 200000 := by
      have h1 := congrArg List.length HX.out
      have h2 := HRl.out
      simp only [List.length_append, List.length_cons, List.length_nil] at h1
      omega
    rw [← hpl] at hown
    clear hpre hd hpl hN hg0 hg1
    go_upto_region 10 with fail
    clear ha o1
    go_region_law ((refine step_append_lies _ (by rfl) _ _ _ (by rfl) w.heap.size 5 i0 _ 1 1 Tryz.underlying22 hi hz0 hz1 hz2 rfl (by omega) _ _ _ (by rfl) ((hown.alloc _).drew) ⟨wr.heap.size, 0, none⟩ 2 2 [.int .u8 (sg g0), .int .u8 (sg g1)] (by rfl) (by rfl) (World.news_of_block (cs := #[.int .u8 (sg g0), .int .u8 (sg g1)]) (t := 5) (fr := (0, 0)) (heap_alloc_new wr _)) (by simp [Value.oneCell']) (by omega) (by unfold maxLen; omega) (by omega) (by simp; omega) (wr.heap.size + 1) (by simp) ?_; intro gg cap w1 hown1 hgrow hat hlt1))
    all_goals
      have hb1 : Below w.heap.size w w1 := ((hbel.alloc hsz _).drew).grown hgrow (by simp; omega) (fun j hj => (hown.lt j hj).1)
      have hs1 : w.heap.size ≤ w1.heap.size := hb1.size
      have HB1 : Hid (Below w.heap.size w w1) := hb1
      clear hgrow hat hlt1 hbel hb1 hown e0 e1 v0 v1
      have ho : w1.ownsRow w.heap.size 5 1 (.slice (some ⟨gg, 0, none⟩) (pl + 2) cap) (pre ++ [sg g0, sg g1]).length ((pre ++ [sg g0, sg g1]).map (Value.int .u8)) := by
        simpa [List.map_append, HPl.out] using hown1
      have HO : Hid _ := ho
      clear ho hown1
      have HRe : Hid (R = (pre ++ [sg g0, sg g1]) ++ b64I ((bts s).drop (k + 3))) := by
        show _ = _
        rw [HX.out, bts_end s (k + 3) (by omega)]
        simp [b64I, b64]
      clear HX
      go_wp2
      go_roundw
      case rel => exact ⟨k + 3, _, by go_num, by omega, HO.out, HRe.out, HB1.out, HB1.out.size⟩
      case measure => simp [RowKit.intOf]; omega
end Go.Proofs.YtjkmfjegphpjkaaGreatDoor
namespace Go.Proofs.YtjkmfjegphpjkaaGreatDoor
open Go.RowKit Go.Lib

theorem specBase64 (s : ByteArray) (w : World) (hm : s.size ≤ maxLen) :
    Calls Tryz.prog 7 #[.string s] w fun e w' => e = .returned (.string (base64D s)) ∧ Below w.heap.size w w' := by
  unfold maxLen at hm
  by_cases h4 : 4000 < s.size
  · have HF : Hid (base64D s = ⟨#[]⟩) := by show _ = _; rw [base64D, if_pos h4]
    go_enter Tryz.func7, Tryz.ntmps7
    go_wp2
    go_ret
    exact ⟨by rw [HF.out]; rfl, Below.refl _ _⟩
  · have HF : Hid (base64D s = b64D s) := by show _ = _; rw [base64D, if_neg h4]
    have HS : Hid (∀ V, Calls Tryz.prog 24 #[.string s] V fun e w' => e = .returned (.string (b64D s)) ∧ Below V.heap.size V w') := fun V => specBase s V (by omega)
    go_enter Tryz.func7, Tryz.ntmps7
    go_wp2_with fail
    refine (HS.out w).mono ?_
    rintro e w2 ⟨rfl, b2⟩
    go_wp2
    go_ret
    exact ⟨by rw [HF.out]; rfl, b2⟩
end Go.Proofs.YtjkmfjegphpjkaaGreatDoor
namespace Go.Proofs.YtjkmfjegphpjkaaGreatDoor
open Go.RowKit

/-- Text number i of a row. -/
def tAt (ss : List ByteArray) (i : Nat) : ByteArray := ss.getD i ByteArray.empty
/-- The texts ss lie behind the address (none at all: any address serves). -/
def IsStrs (w : World) (a : Option Addr) (ss : List ByteArray) : Prop := ss = [] ∨ ∃ b o, a = some ⟨b, o, none⟩ ∧ ∀ i, i < ss.length → w.cell? ⟨b, o + i, none⟩ = some (.string (tAt ss i))
/-- .. and its block lies below B. -/
def StrsBelow (B : Nat) (a : Option Addr) (ss : List ByteArray) : Prop := ss = [] ∨ ∀ x, a = some x → x.block < B
theorem IsStrs.below {B : Nat} {w w' : World} {a : Option Addr} {ss : List ByteArray} (h : IsStrs w a ss) (hb : Below B w w') (hB : StrsBelow B a ss) : IsStrs w' a ss := by
  rcases h with rfl | ⟨b, o, rfl, hc⟩
  · exact .inl rfl
  · rcases hB with rfl | hB
    · exact .inl rfl
    · exact .inr ⟨b, o, rfl, fun i hi => by rw [hb.cell (p := ⟨b, o + i, none⟩) (hB ⟨b, o, none⟩ rfl)]; exact hc i hi⟩
theorem IsStrs.lt {w : World} {a : Option Addr} {ss : List ByteArray} (h : IsStrs w a ss) : StrsBelow w.heap.size a ss := by
  rcases h with rfl | ⟨b, o, rfl, hc⟩
  · exact .inl rfl
  · by_cases h0 : ss.length = 0
    · exact .inl (List.eq_nil_of_length_eq_zero h0)
    · refine .inr fun x hx => ?_
      cases hx
      exact World.block_lt_of_cell? w _ (hc 0 (by omega))
theorem IsStrs.keep {w w' : World} {a : Option Addr} {ss : List ByteArray} (h : IsStrs w a ss) (hb : Below w.heap.size w w') : IsStrs w' a ss := h.below hb h.lt
def sCells (ss : List ByteArray) : List Value := ss.map Value.string
theorem sCells_at {ss : List ByteArray} {i : Nat} (h : i < ss.length) : (sCells ss)[i]? = some (.string (tAt ss i)) := by simp [sCells, tAt, List.getD, h]
theorem IsStrs.row {w : World} {g : Nat} {t : TypeId} {ss : List ByteArray} (h : w.heap[g]? = some (.cells (sCells ss).toArray t (0, 0))) : IsStrs w (some ⟨g, 0, none⟩) ss :=
  .inr ⟨g, 0, rfl, fun i hi => by
    rw [Nat.zero_add, cell_of_row w g i _ t (0, 0) h]
    simpa using sCells_at hi⟩
theorem infoText : (Tryz.prog.info? 9).map (fun i => (i.zero, i.size, i.bytes)) = some (some (.string ⟨#[]⟩), 1, 16) := by kernel_rfl
/-- How many bytes and texts there are. -/
def totS : List ByteArray → Nat → Nat
  | _, 0 => 0
  | ss, k + 1 => totS ss k + (tAt ss k).size
theorem totS_mono (ss : List ByteArray) : ∀ {i k : Nat}, i ≤ k → totS ss i ≤ totS ss k := by
  intro i k h
  induction k with
  | zero => obtain rfl : i = 0 := by omega
            exact Nat.le_refl _
  | succ k ih =>
    by_cases e : i = k + 1
    · subst e; exact Nat.le_refl _
    · have := ih (by omega)
      show totS ss i ≤ totS ss k + _
      omega
theorem totS_at (ss : List ByteArray) {i k : Nat} (h : i < k) : (tAt ss i).size ≤ totS ss k := by
  have := totS_mono ss (show i + 1 ≤ k by omega)
  have e : totS ss (i + 1) = totS ss i + (tAt ss i).size := rfl
  omega
/-- What laws.szStringS leaves. -/
def szR (ss : List ByteArray) (left : Int) : Int := if (ss.length : Int) + totS ss ss.length ≤ left then left - ss.length - totS ss ss.length else -1
end Go.Proofs.YtjkmfjegphpjkaaGreatDoor
namespace Go.Proofs.YtjkmfjegphpjkaaGreatDoor
open Go.RowKit

def AnsB (P : Prop) (e : Ending) : Prop := ∃ r : Bool, e = .returned (.bool r) ∧ (r = true ↔ P)
theorem AnsB.yes {P : Prop} {e : Ending} (h : P) (he : e = .returned (.bool true)) : AnsB P e := ⟨true, he, by simp [h]⟩
theorem AnsB.no {P : Prop} {e : Ending} (h : ¬ P) (he : e = .returned (.bool false)) : AnsB P e := ⟨false, he, by simp [h]⟩

def OkN (k : Nat) (n : Int) : Prop := (97 ≤ n ∧ n ≤ 122) ∨ k ≠ 0 ∧ ((48 ≤ n ∧ n ≤ 57) ∨ n = 45)
def OkAt (s : ByteArray) (k : Nat) (h : k < s.size) : Prop := OkN k (s[k].toNat : Int)
def OkTo (s : ByteArray) (k : Nat) : Prop := ∀ j (h : j < s.size), j < k → OkAt s j h
def NameOk (s : ByteArray) : Prop := 1 ≤ s.size ∧ s.size ≤ 40 ∧ OkTo s s.size
theorem okTo_zero (s : ByteArray) : OkTo s 0 := fun j _ h => by omega
theorem okTo_succ (s : ByteArray) (k : Nat) (hk : k < s.size) (h : OkTo s k) (h' : OkAt s k hk) : OkTo s (k + 1) := fun j hj hlt => by
  by_cases e : j = k
  · subst e; exact h'
  · exact h j hj (by omega)
theorem name_no (s : ByteArray) (k : Nat) (hk : k < s.size) (h' : ¬ OkAt s k hk) : ¬ NameOk s := fun h => h' (h.2.2 k hk hk)
def Cls (n : Int) (a z d0 d9 m : Bool) : Prop := decide (97 ≤ n) = a ∧ decide (n ≤ 122) = z ∧ decide (48 ≤ n) = d0 ∧ decide (n ≤ 57) = d9 ∧ (n != 45) = m
theorem cls (n : Int) : n < 45 ∧ Cls n false true false true true ∨ (45 ≤ n ∧ n ≤ 45) ∧ Cls n false true false true false ∨ (46 ≤ n ∧ n ≤ 47) ∧ Cls n false true false true true ∨
    (48 ≤ n ∧ n ≤ 57) ∧ Cls n false true true true true ∨ (58 ≤ n ∧ n ≤ 96) ∧ Cls n false true true false true ∨ (97 ≤ n ∧ n ≤ 122) ∧ Cls n true true true false true ∨ 123 ≤ n ∧ Cls n true false true false true := by
  have h : n < 45 ∨ (45 ≤ n ∧ n ≤ 45) ∨ (46 ≤ n ∧ n ≤ 47) ∨ (48 ≤ n ∧ n ≤ 57) ∨ (58 ≤ n ∧ n ≤ 96) ∨ (97 ≤ n ∧ n ≤ 122) ∨ 123 ≤ n := by omega
  unfold Cls
  simp only [decide_eq_true_eq, decide_eq_false_iff_not, bne_iff_ne, bne_eq_false_iff_eq]
  omega

set_option maxHeartbeats 1000000 in
theorem specName (s : ByteArray) (w : World) (hs : s.size ≤ maxLen) :
    Calls Tryz.prog 38 #[.string s] w fun e w' => AnsB (NameOk s) e ∧ w' = w := by
  unfold maxLen at hs
  by_cases h1 : s.size < 1
  · go_enter Tryz.func38, Tryz.ntmps38
    go_wp2
    go_ret
    exact ⟨AnsB.no (fun h => by have := h.1; omega) rfl, rfl⟩
  by_cases h2 : 40 < s.size
  · go_enter Tryz.func38, Tryz.ntmps38
    go_wp2
    go_ret
    exact ⟨AnsB.no (fun h => by have := h.2.1; omega) rfl, rfl⟩
  go_enter Tryz.func38, Tryz.ntmps38
  go_wp2
  go_loop [3] (fun i => ∃ k : Nat, k ≤ s.size ∧ i = .int .i64 k ∧ OkTo s k) (fun i => s.size - (intOf i).toNat)
  case atStart => exact ⟨0, Nat.zero_le _, rfl, okTo_zero s⟩
  case round =>
    obtain ⟨k, hk, rfl, hok⟩ := hrel
    have HO : Hid (OkTo s k) := hok
    clear hok
    by_cases hlt : k < s.size
    · by_cases hk0 : k < 1
      · obtain rfl : k = 0 := by omega
        rcases cls (s[0].toNat : Int) with ⟨c, e1, e2, e3, e4, e5⟩ | ⟨c, e1, e2, e3, e4, e5⟩ | ⟨c, e1, e2, e3, e4, e5⟩ | ⟨c, e1, e2, e3, e4, e5⟩ | ⟨c, e1, e2, e3, e4, e5⟩ | ⟨c, e1, e2, e3, e4, e5⟩ | ⟨c, e1, e2, e3, e4, e5⟩
        all_goals
          go_wp2
          first
            | (go_ret; exact ⟨AnsB.no (name_no s 0 hlt (by unfold OkAt OkN; omega)) rfl, rfl⟩)
            | exact ⟨⟨1, by omega, rfl, okTo_succ s 0 hlt HO.out (by unfold OkAt OkN; omega)⟩, by simp [intOf]; omega⟩
      · have ek : ((k : Int) == 0) = false := by simp; omega
        rcases cls (s[k].toNat : Int) with ⟨c, e1, e2, e3, e4, e5⟩ | ⟨c, e1, e2, e3, e4, e5⟩ | ⟨c, e1, e2, e3, e4, e5⟩ | ⟨c, e1, e2, e3, e4, e5⟩ | ⟨c, e1, e2, e3, e4, e5⟩ | ⟨c, e1, e2, e3, e4, e5⟩ | ⟨c, e1, e2, e3, e4, e5⟩
        all_goals
          go_wp2
          first
            | (go_ret; exact ⟨AnsB.no (name_no s k hlt (by unfold OkAt OkN; omega)) rfl, rfl⟩)
            | exact ⟨⟨k + 1, by omega, by go_num, okTo_succ s k hlt HO.out (by unfold OkAt OkN; omega)⟩, by simp [intOf]; omega⟩
    · go_wp2
      go_ret
      have e : k = s.size := by omega
      have hf := HO.out
      rw [e] at hf
      exact ⟨AnsB.yes ⟨by omega, by omega, hf⟩ rfl, rfl⟩
end Go.Proofs.YtjkmfjegphpjkaaGreatDoor
namespace Go.Proofs.YtjkmfjegphpjkaaGreatDoor

def secB (x : Int) : Bool := decide (1 ≤ x ∧ x < 1073741789)
end Go.Proofs.YtjkmfjegphpjkaaGreatDoor
