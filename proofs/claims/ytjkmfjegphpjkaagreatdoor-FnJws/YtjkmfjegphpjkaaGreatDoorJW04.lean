/- A text taken in parts is the text taken as a whole: plain mathematics, no program is named here. The turning of a word, walked: spec.l02Turn, bits.RotateLeft32, impl.turnRight. One round, walked: (*hashState).turn. The words of a block, walked: impl.blockWords. A whole variable of many cells, stored. No program is named. A block taken into a state, walked: (*hashState).takeBlock. impl.joinTexts, walked: the one text behind the other. -/
import Derived.Test.YtjkmfjegphpjkaaGreatDoorJW03
import Derived.Test.YtjkmfjegphpjkaaGreatDoorJW01
import Derived.Handy
import Derived.Deep.QuietTactic
import Derived.BigQuiet
import Derived.Deep.MidRow
namespace Go.Proofs.YtjkmfjegphpjkaaGreatDoor
open Go.RowKit

theorem wAt_congr {M M' : Nat → U} (h : ∀ i, i < 16 → M i = M' i) (i : Nat) : wAt M i = wAt M' i := by
  induction i using Nat.strongRecOn with
  | _ i ih =>
    by_cases hi : i < 16
    · rw [wAt_low M hi, wAt_low M' hi, h i hi]
    · rw [wAt_high M (by omega), wAt_high M' (by omega), ih (i - 16) (by omega), ih (i - 15) (by omega), ih (i - 7) (by omega), ih (i - 2) (by omega)]
theorem rnds_congr {M M' : Nat → U} (h : ∀ i, i < 16 → M i = M' i) (s : St) (n : Nat) : rnds s M n = rnds s M' n := by
  induction n with
  | zero => rfl
  | succ n ih => rw [rnds, rnds, ih, wAt_congr h]
theorem blk_congr {M M' : Nat → U} (h : ∀ i, i < 16 → M i = M' i) (s : St) : blk s M = blk s M' := by
  unfold blk; rw [rnds_congr h]
theorem wordAt_congr {t t' : ByteArray} {o o' i : Nat} (h : ∀ j, j < 4 → byteAt t (o + 4 * i + j) = byteAt t' (o' + 4 * i + j)) : wordAt t o i = wordAt t' o' i := by
  have h0 := h 0 (by omega)
  have h1 := h 1 (by omega)
  have h2 := h 2 (by omega)
  have h3 := h 3 (by omega)
  unfold wordAt
  rw [Nat.add_zero, Nat.add_zero] at h0
  rw [h0, h1, h2, h3]
theorem blks_congr {t t' : ByteArray} (s : St) (n : Nat) (h : ∀ j, j < 64 * n → byteAt t j = byteAt t' j) : blks s t n = blks s t' n := by
  induction n with
  | zero => rfl
  | succ n ih =>
    rw [blks, blks, ih (fun j hj => h j (by omega))]
    exact blk_congr (fun i hi => wordAt_congr (fun j hj => h _ (by omega))) _
theorem blks_add {t t' : ByteArray} (s : St) (n k : Nat) (h : ∀ j, j < 64 * k → byteAt t' j = byteAt t (64 * n + j)) : blks s t (n + k) = blks (blks s t n) t' k := by
  induction k with
  | zero => rfl
  | succ k ih =>
    rw [← Nat.add_assoc, blks, blks, ih (fun j hj => h j (by omega))]
    refine blk_congr (fun i hi => wordAt_congr (fun j hj => ?_)) _
    rw [h _ (by omega)]
    congr 1
    omega
/-- The state behind all whole blocks of a text, and what is left of it. -/
def more (s : St) (t : ByteArray) : St := blks s t (t.size / 64)
def restOf (t : ByteArray) : ByteArray := t.extract (64 * (t.size / 64)) t.size
theorem size_restOf (t : ByteArray) : (restOf t).size = t.size % 64 := by
  unfold restOf
  rw [ByteArray.size_extract]
  omega
theorem size_append (a b : ByteArray) : (a ++ b).size = a.size + b.size := ByteArray.size_append
theorem list_append (a b : ByteArray) : (a ++ b).data.toList = a.data.toList ++ b.data.toList := by
  simp
theorem list_extract (a : ByteArray) (i j : Nat) : (a.extract i j).data.toList = (a.data.toList.take j).drop i := by
  simp [List.drop_take]
theorem byteAt_left (a b : ByteArray) {j : Nat} (h : j < a.size) : byteAt (a ++ b) j = byteAt a j := by
  unfold byteAt
  rw [list_append, List.getD, List.getD, List.getElem?_append_left (by simpa using h)]
theorem byteAt_right (a b : ByteArray) (j : Nat) : byteAt (a ++ b) (a.size + j) = byteAt b j := by
  unfold byteAt
  rw [list_append, List.getD, List.getD, List.getElem?_append_right (by simp)]
  simp
theorem byteAt_rest (a : ByteArray) (o j : Nat) : byteAt (a.extract o a.size) j = byteAt a (o + j) := by
  unfold byteAt
  rw [list_extract, List.take_of_length_le (by simp), List.getD, List.getD, List.getElem?_drop]
theorem byteAt_restB (t b : ByteArray) {o : Nat} (ho : o ≤ t.size) (j : Nat) : byteAt (t.extract o t.size ++ b) j = byteAt (t ++ b) (o + j) := by
  have hs : (t.extract o t.size).size = t.size - o := by rw [ByteArray.size_extract]; omega
  by_cases h : j < t.size - o
  · rw [byteAt_left _ _ (by omega), byteAt_rest, byteAt_left _ _ (by omega)]
  · have e1 := byteAt_right (t.extract o t.size) b (j - (t.size - o))
    have e2 := byteAt_right t b (j - (t.size - o))
    rw [hs, show t.size - o + (j - (t.size - o)) = j by omega] at e1
    rw [show t.size + (j - (t.size - o)) = o + j by omega] at e2
    rw [e1, e2]
theorem more_more (s : St) (t b : ByteArray) : more (more s t) (restOf t ++ b) = more s (t ++ b) := by
  have hs : (restOf t ++ b).size = t.size % 64 + b.size := by rw [size_append, size_restOf]
  have hf : (t ++ b).size / 64 = t.size / 64 + (t.size % 64 + b.size) / 64 := by rw [size_append]; omega
  unfold more
  rw [hs, hf, blks_add (t := t ++ b) (t' := restOf t ++ b) s _ _ (fun j _ => byteAt_restB t b (by omega) j)]
  rw [blks_congr (t := t) (t' := t ++ b) s _ (fun j hj => (byteAt_left t b (by omega)).symm)]
theorem rest_more (t b : ByteArray) : restOf (restOf t ++ b) = restOf (t ++ b) := by
  have hs : (restOf t ++ b).size = t.size % 64 + b.size := by rw [size_append, size_restOf]
  have e : ((restOf (restOf t ++ b)).data.toList) = (restOf (t ++ b)).data.toList := by
    unfold restOf at *
    rw [hs, list_extract, list_append, list_extract, list_extract, list_append, size_append]
    have l1 : t.data.toList.length = t.size := by simp
    have l2 : b.data.toList.length = b.size := by simp
    generalize t.data.toList = T at *
    generalize b.data.toList = B at *
    rw [List.take_of_length_le (l := T) (by omega), List.take_of_length_le (l := T ++ B) (by simp; omega), List.take_of_length_le (l := List.drop _ T ++ B) (by simp; omega)]
    rw [show List.drop (64 * (t.size / 64)) T ++ B = List.drop (64 * (t.size / 64)) (T ++ B) from by
      rw [List.drop_append_of_le_length (by omega)]]
    rw [List.drop_drop]
    congr 1
    omega
  exact ByteArray.ext (Array.ext' e)
theorem more_nil (s : St) {r : ByteArray} (h : r.size < 64) : more s r = s ∧ restOf r = r := by
  unfold more restOf
  rw [show r.size / 64 = 0 by omega]
  exact ⟨rfl, by simp [ByteArray.extract_zero_size]⟩
/-- What fills a text of n bytes up to the end of a block. -/
def zerosOf (n : Nat) : Nat := 63 - (n + 8) % 64
def beF (x : Nat) (k : Nat) : List Int := (List.range k).map fun j => ((x / 256 ^ (k - 1 - j) % 256 : Nat) : Int)
def padL (n : Nat) : List Int := 128 :: (List.replicate (zerosOf n) 0 ++ beF (8 * n) 8)
theorem padL_len (n : Nat) : (padL n).length = 9 + zerosOf n := by simp [padL, beF]; omega
/-- The bytes of the eight numbers, the highest first. -/
def digU (x : U) : List Int := [uI x / 16777216, uI x / 65536 % 256, uI x / 256 % 256, uI x % 256]
def digL (s : St) : List Int := s.row.flatMap digU
def uCells (s : St) : List Value := s.row.map fun x => Value.int .u32 (uI x)
def iCells (s : St) : List Value := s.row.map fun x => Value.int .i64 (uI x)
theorem iCells_at (s : St) (j : Nat) (h : j < 8) : (iCells s)[j]? = some (.int .i64 (uI (s.row.getD j 0))) := by
  unfold iCells
  rw [List.getElem?_map, List.getD, List.getElem?_eq_getElem (show j < s.row.length from h)]
  rfl
theorem row_at (T : St) (k : Nat) (h : k < 8) : (uCells T)[k]? = some (.int .u32 (uI (T.row.getD k 0))) := by
  unfold uCells
  rw [List.getElem?_map, List.getD, List.getElem?_eq_getElem (show k < T.row.length from h)]
  rfl
theorem uI_i64 (x : U) : IntKind.i64.wrap (uI x) = uI x := by
  have := uI_nonneg x
  have := uI_lt x
  rw [IntKind.wrap_i64]; omega
end Go.Proofs.YtjkmfjegphpjkaaGreatDoor
namespace Go.Proofs.YtjkmfjegphpjkaaGreatDoor
open Go.RowKit

theorem specTurn (x : U) (k : Nat) (hk : k < 32) (w : World) :
    Calls Tryz.prog 120 #[.int .u32 (uI x), .int .u64 (k : Int)] w fun e w' => e = .returned (.int .u32 (uI (rotr x k))) ∧ w' = w := by
  have h1 := uI_le x
  have h0 := uI_nonneg x
  go_enter Tryz.func120, Tryz.ntmps120
  go_wp2
  go_ret
  exact ⟨ret_int (by rw [uI_shr, uI_shl', uI_or]; rfl), rfl⟩
theorem mask31 (k : Nat) (h0 : 0 < k) (hk : k < 32) : bits .and .u64 (IntKind.u64.wrap (-(k : Int))) 31 = 32 - (k : Int) := by
  have e : IntKind.u64.wrap (-(k : Int)) = ((18446744073709551616 - k : Nat) : Int) := by rw [IntKind.wrap_u64]; omega
  have e2 := u64_and_nat (18446744073709551616 - k) 31 (by omega) (by omega)
  rw [e]
  refine e2.trans ?_
  rw [Nat.and_two_pow_sub_one_eq_mod _ 5]
  omega
theorem rotL (x : U) (k : Nat) (hk0 : 0 < k) (hk : k < 32) (w : World) :
    Calls Tryz.prog 139 #[.int .u32 (uI x), .int .i64 (-(k : Int))] w fun e w' => e = .returned (.int .u32 (uI (rotr x k))) ∧ w' = w := by
  have h1 := uI_le x
  have h0 := uI_nonneg x
  have hm := mask31 k hk0 hk
  go_enter Tryz.func139, Tryz.ntmps139
  go_wp2
  go_ret
  exact ⟨ret_int (by rw [uI_shr, uI_shl', uI_or, BitVec.or_comm, show 32 - (32 - k) = k by omega]; rfl), rfl⟩
theorem implTurn (x : U) (k : Nat) (hk0 : 0 < k) (hk : k < 32) (w : World) :
    Calls Tryz.prog 136 #[.int .u32 (uI x), .int .i64 (k : Int)] w fun e w' => e = .returned (.int .u32 (uI (rotr x k))) ∧ w' = w := by
  go_enter Tryz.func136, Tryz.ntmps136
  go_wp2_with fail
  refine (rotL x k hk0 hk _).mono ?_
  rintro e w' ⟨rfl, rfl⟩
  go_wp2
  go_ret
  exact ⟨rfl, rfl⟩
/-- The same, the number of places as the walk spells it. -/
theorem implTurnI (x : U) (k : Int) (w : World) (h0 : 0 < k) (hk : k < 32) :
    Calls Tryz.prog 136 #[.int .u32 (uI x), .int .i64 k] w fun e w' => e = .returned (.int .u32 (uI (rotr x k.toNat))) ∧ w' = w := by
  have h := implTurn x k.toNat (by omega) (by omega) w
  rwa [Int.toNat_of_nonneg (by omega)] at h
theorem specTurnI (x : U) (k : Int) (w : World) (h0 : 0 ≤ k) (hk : k < 32) :
    Calls Tryz.prog 120 #[.int .u32 (uI x), .int .u64 k] w fun e w' => e = .returned (.int .u32 (uI (rotr x k.toNat))) ∧ w' = w := by
  have h := specTurn x k.toNat (by omega) w
  rwa [Int.toNat_of_nonneg (by omega)] at h
end Go.Proofs.YtjkmfjegphpjkaaGreatDoor
namespace Go.Proofs.YtjkmfjegphpjkaaGreatDoor
open Go.RowKit Go.BigFrame

/-- A byte of a text, read. -/
theorem idxB (t : ByteArray) (j : Nat) (h : j < t.size) (n : Int) (hn : n = j) (w : World) : (Instr.index 9 (.string t) (.int .i64 n)).run Tryz.prog w = .ok (.int .u8 (uI (bU (byteAt t j)))) w := by
  subst hn
  rw [run_index_string _ _ _ _ _ Tryz.underlying9, dif_pos ⟨by omega, by omega⟩, uI_bU, byteAt_get t j h]
  rfl
theorem arr8 : Tryz.prog.arrayLen 112 = 8 := by kernel_rfl

theorem slice8a (w : World) (g : Nat) : (Instr.sliceAt 112 (.pointer (some ⟨g, 0, none⟩)) (some (.int .i64 1)) none none).run Tryz.prog w = .ok (.slice (some ⟨g, 1, none⟩) 7 7) w := by kernel_rfl
theorem slice8b (w : World) (g : Nat) : (Instr.sliceAt 112 (.pointer (some ⟨g, 0, none⟩)) none (some (.int .i64 7)) none).run Tryz.prog w = .ok (.slice (some ⟨g, 0, none⟩) 7 8) w := by kernel_rfl
theorem turn_src {w : World} {g : Nat} {t : TypeId} {s : St} (hg : w.heap[g]? = some (.cells (uCells s).toArray t (0, 0))) :
    ∀ j v, ((uCells s).take 7)[j]? = some v → w.cell? ((⟨g, 0, none⟩ : Addr).add j) = some v := by
  intro j v hj
  rw [Addr.add_lit, Nat.zero_add]
  refine rowFacts hg j v ?_
  rw [List.getElem?_take] at hj
  split at hj
  · exact hj
  · cases hj
theorem u32Size : (Tryz.prog.info? 110).map (·.size) = some 1 := by kernel_rfl
theorem uCells_one (s : St) : ∀ v ∈ (uCells s).take 7, v.oneCell' = true := fun v hv => by
  have := List.mem_of_mem_take hv
  simp only [uCells, List.mem_map] at this
  obtain ⟨x, _, rfl⟩ := this
  rfl
set_option maxHeartbeats 400000 in
set_option maxRecDepth 100000 in
theorem turnW (s : St) (kw : U) (w : World) (g : Nat) (t : TypeId) (hg : w.heap[g]? = some (.cells (uCells s).toArray t (0, 0))) :
    Calls Tryz.prog 130 #[.pointer (some ⟨g, 0, none⟩), .int .u32 (uI kw)] w
      fun e w' => e = .returned (.tuple #[]) ∧ w'.heap[g]? = some (.cells (uCells (rnd s kw)).toArray t (0, 0)) ∧ Below g w w' := by
  have c0 := rowFacts hg 0 (.int .u32 (uI s.a)) rfl
  have c1 := rowFacts hg 1 (.int .u32 (uI s.b)) rfl
  have c2 := rowFacts hg 2 (.int .u32 (uI s.c)) rfl
  have c4 := rowFacts hg 4 (.int .u32 (uI s.e)) rfl
  have c5 := rowFacts hg 5 (.int .u32 (uI s.f)) rfl
  have c6 := rowFacts hg 6 (.int .u32 (uI s.g)) rfl
  have c7 := rowFacts hg 7 (.int .u32 (uI s.h)) rfl
  have HG : Hid (w.heap[g]? = some (.cells (uCells s).toArray t (0, 0))) := hg
  clear hg
  go_enter Tryz.func130, Tryz.ntmps130
  go_wp2_with fail
  go_quiet (fail)
  go_wp2_with fail
  go_quiet (fail)
  go_wp2_with fail
  have fx := uI_xor
  have fa := uI_and
  have fn := uI_not'
  have fp := uI_add
  have fq := uI_add'
  go_big_quiet (exact (implTurnI _ _ _ (by decide) (by decide)).mono (fun _ _ h => ⟨h.1, _, h.2⟩))
  go_wp2_with fail
  refine (implTurnI _ _ _ (by decide) (by decide)).mono ?_
  rintro e w' ⟨rfl, rfl⟩
  go_wp2_with fail
  refine (implTurnI _ _ _ (by decide) (by decide)).mono ?_
  rintro e w' ⟨rfl, rfl⟩
  go_wp2_with fail
  refine (implTurnI _ _ _ (by decide) (by decide)).mono ?_
  rintro e w' ⟨rfl, rfl⟩
  go_wp2_with fail
  generalize hw4 : w.drewN _ = w4
  have hg4 : w4.heap[g]? = some (.cells (uCells s).toArray t (0, 0)) := by rw [← hw4]; exact HG.out
  have hb4 : Below g w w4 := by rw [← hw4]; exact below_drewN (Below.refl _ _) _
  have hs1 := slice8a
  have hs2 := slice8b
  clear c0 c1 c2 c4 c5 c6 c7 hw4 HG
  go_region_law ((refine step_copy_splice (by rfl) (.tmp 82) (.tmp 85) _ _ (by rfl) 110 Tryz.underlying139 u32Size (some ⟨g, 1, none⟩) (some ⟨g, 0, none⟩) 7 7 7 8 (by go_simp) (by go_simp) g 1 (uCells s) t hg4 ((uCells s).take 7) (by rfl) (fun _ => ⟨rfl, _, rfl, turn_src hg4⟩) (by simp [uCells, St.row]) (uCells_one s) g w hb4.drew (Nat.le_refl _) ?_; intro w5 hg5 hb5))
  have HG5 := hg5.out
  have e5 : splice (uCells s) 1 ((uCells s).take 7) = [.int .u32 (uI s.a), .int .u32 (uI s.a), .int .u32 (uI s.b), .int .u32 (uI s.c), .int .u32 (uI s.d), .int .u32 (uI s.e), .int .u32 (uI s.f), .int .u32 (uI s.g)] := rfl
  rw [e5] at HG5
  have d4 := rowFacts HG5 4 _ rfl
  have d0 := rowFacts HG5 0 _ rfl
  have z4 := frozen_of_row w5 g 4 _ t HG5
  have z0 := frozen_of_row w5 g 0 _ t HG5
  have HE : Hid (∀ x y, ((w5.setCell ⟨g, 4, none⟩ x).setCell ⟨g, 0, none⟩ y).heap[g]? = some (.cells [y, .int .u32 (uI s.a), .int .u32 (uI s.b), .int .u32 (uI s.c), x, .int .u32 (uI s.e), .int .u32 (uI s.f), .int .u32 (uI s.g)].toArray t (0, 0))) :=
    fun x y => rowSet y (rowSet x HG5)
  have HB : Hid (∀ x y, Below g w ((w5.setCell ⟨g, 4, none⟩ x).setCell ⟨g, 0, none⟩ y)) := fun x y => (hb5.setCell (Nat.le_refl _) x).setCell (Nat.le_refl _) y
  clear hg5 HG5 hb5 hg4 hb4 e5
  go_wp2
  go_region
  go_wp2
  go_returns
  exact ⟨rfl, HE.out _ _, (HB.out _ _).drew⟩
end Go.Proofs.YtjkmfjegphpjkaaGreatDoor
namespace Go.Proofs.YtjkmfjegphpjkaaGreatDoor
open Go.RowKit

theorem words_set {L : List Value} {W : Nat → U} {k : Nat} (hL : k < L.length) (h : ∀ j, j < k → L[j]? = some (.int .u32 (uI (W j)))) :
    ∀ j, j < k + 1 → (L.set k (.int .u32 (uI (W k))))[j]? = some (.int .u32 (uI (W j))) := by
  intro j hj
  by_cases e : j = k
  · subst e; simp [hL]
  · rw [List.getElem?_set_ne (by omega), h j (by omega)]

theorem size64 : (Tryz.prog.info? 161).map (·.size) = some 64 := by kernel_rfl
theorem words_eq {L : List Value} {W : Nat → U} (hL : L.length = 64) (h : ∀ j, j < 64 → L[j]? = some (.int .u32 (uI (W j)))) : L = (List.range 64).map fun i => Value.int .u32 (uI (W i)) := by
  apply List.ext_getElem?
  intro j
  by_cases hj : j < 64
  · rw [h j hj]; simp [hj]
  · rw [List.getElem?_eq_none (by omega), List.getElem?_eq_none (by simp; omega)]
/-- A row of 64 words that a variable begins with. -/
abbrev z64 : Obj := .cells (List.replicate 64 (Value.int .u32 0)).toArray 161 (0, 0)
set_option maxHeartbeats 1000000 in
set_option maxRecDepth 100000 in
theorem blockWords (t : ByteArray) (w : World) (ht : t.size = 64) :
    Calls Tryz.prog 129 #[.string t] w
      fun e w' => e = .returned (.agg ((List.range 64).map fun i => Value.int .u32 (uI (wAt (wordAt t 0) i))).toArray) ∧ Below w.heap.size w w' := by
  go_enter Tryz.func129, Tryz.ntmps129
  go_wp2_with fail
  go_loopw [10] (fun i wr => ∃ (k : Nat) (L : List Value), k ≤ 16 ∧ i = .int .i64 k ∧ L.length = 64 ∧ wr.heap[w.heap.size + 1]? = some (.cells L.toArray 161 (0, 0)) ∧ (∀ j, j < k → L[j]? = some (.int .u32 (uI (wAt (wordAt t 0) j)))) ∧ Below (w.heap.size + 1) (w.alloc z64) wr)
    (fun i _ => 16 - (intOf i).toNat)
  case atStart =>
    refine ⟨0, _, Nat.zero_le _, rfl, ?_, heap_alloc2 w _ _, fun j hj => by omega, (Below.refl _ (w.alloc z64)).alloc (by simp) _⟩
    rfl
  case round =>
    obtain ⟨k, L, hk, rfl, hL, hg, hv, hb⟩ := hrel
    by_cases hlt : k < 16
    · have hc := rowFacts hg k L[k] (List.getElem?_eq_getElem (by omega))
      have hz := frozen_of_row wr _ k _ _ hg
      have HV : Hid (∀ x, x = uI (wAt (wordAt t 0) k) → ∀ j, j < k + 1 → (L.set k (.int .u32 x))[j]? = some (.int .u32 (uI (wAt (wordAt t 0) j)))) := fun x hx => by
        subst hx
        exact words_set (by omega) hv
      have HG : Hid (∀ x, (wr.setCell ⟨w.heap.size + 1, k, none⟩ x).heap[w.heap.size + 1]? = some (.cells (L.set k x).toArray 161 (0, 0))) := fun x => rowSet x hg
      have HL : Hid (∀ x, (L.set k x).length = 64) := fun x => by simpa using hL
      have HW : Hid (bits BinOp.or IntKind.u32 (bits BinOp.or IntKind.u32 (bits BinOp.or IntKind.u32 (uI (bU (byteAt t (4 * k))) * 16777216 % 4294967296) (uI (bU (byteAt t (4 * k + 1))) * 65536 % 4294967296)) (uI (bU (byteAt t (4 * k + 2))) * 256 % 4294967296)) (uI (bU (byteAt t (4 * k + 3)))) = uI (wAt (wordAt t 0) k)) := by
        show _ = _
        rw [uI_shl24, uI_shl16, uI_shl8, uI_or, uI_or, uI_or, wAt_low _ hlt]
        unfold wordAt
        rw [Nat.zero_add]
      generalize L[k] = v0 at hc
      clear hv hg hL
      go_wp2_with fail
      have i0 := idxB t (4 * k) (by omega) (4 * (k : Int)) (by omega)
      have i1 := idxB t (4 * k + 1) (by omega) (4 * (k : Int) + 1) (by omega)
      have i2 := idxB t (4 * k + 2) (by omega) (4 * (k : Int) + 2) (by omega)
      have i3 := idxB t (4 * k + 3) (by omega) (4 * (k : Int) + 3) (by omega)
      have fw := uI_wrap
      go_region
      clear i0 i1 i2 i3 fw hc hz
      go_wp2
      go_roundw
      case rel => exact ⟨k + 1, _, by omega, by go_num, HL.out _, HG.out _, HV.out _ HW.out, (hb.setCell (by simp) _).drew⟩
      case measure => simp [intOf]; omega
    · have h16 : k = 16 := by omega
      go_wp2_with fail
      go_loopw [5] (fun i wr => ∃ (k : Nat) (L : List Value), 16 ≤ k ∧ k ≤ 64 ∧ i = .int .i64 k ∧ L.length = 64 ∧ wr.heap[w.heap.size + 1]? = some (.cells L.toArray 161 (0, 0)) ∧ (∀ j, j < k → L[j]? = some (.int .u32 (uI (wAt (wordAt t 0) j)))) ∧ Below (w.heap.size + 1) (w.alloc z64) wr)
        (fun i _ => 64 - (intOf i).toNat)
      case atStart => exact ⟨16, L, by omega, by omega, rfl, hL, hg, fun j hj => hv j (by omega), hb⟩
      case round =>
        clear hg hv hb hL L hlt hk h16
        obtain ⟨k, L, hk0, hk, rfl, hL, hg, hv, hb⟩ := hrel
        by_cases hlt : k < 64
        · have hc := rowFacts hg k L[k] (List.getElem?_eq_getElem (by omega))
          have hz := frozen_of_row wr _ k _ _ hg
          have h16 := rowFacts hg (k - 16) _ (hv (k - 16) (by omega))
          have h15 := rowFacts hg (k - 15) _ (hv (k - 15) (by omega))
          have h7 := rowFacts hg (k - 7) _ (hv (k - 7) (by omega))
          have h2 := rowFacts hg (k - 2) _ (hv (k - 2) (by omega))
          have HV : Hid (∀ x, x = uI (wAt (wordAt t 0) k) → ∀ j, j < k + 1 → (L.set k (.int .u32 x))[j]? = some (.int .u32 (uI (wAt (wordAt t 0) j)))) := fun x hx => by
            subst hx
            exact words_set (by omega) hv
          have HG : Hid (∀ x, (wr.setCell ⟨w.heap.size + 1, k, none⟩ x).heap[w.heap.size + 1]? = some (.cells (L.set k x).toArray 161 (0, 0))) := fun x => rowSet x hg
          have HL : Hid (∀ x, (L.set k x).length = 64) := fun x => by simpa using hL
          generalize L[k] = v0 at hc
          clear hv hg hL
          go_wp2_with fail
          go_quiet (fail)
          go_wp2_with fail
          have fx := uI_xor
          have f3 := uI_shr3
          have f10 := uI_shr10
          iterate 4
            refine (implTurnI _ _ _ (by decide) (by decide)).mono ?_
            rintro e w' ⟨rfl, rfl⟩
            go_wp2_with fail
          have fp := uI_add'
          go_region
          clear hc hz h16 h15 h7 h2 fx f3 f10 fp
          go_wp2
          go_roundw
          case rel =>
            refine ⟨k + 1, _, by omega, by omega, by go_num, HL.out _, HG.out _, HV.out _ ?_, (below_drewN hb _).setCell (Nat.le_refl _) _⟩
            rw [wAt_high _ hk0]
            rfl
          case measure => simp [intOf]; omega
        · obtain rfl : k = 64 := by omega
          have hR : wr.heap[w.heap.size]? = some z64 := by
            rw [hb.block w.heap.size (by omega)]
            exact heap_alloc_new w _
          have hrg := rangeRow hg
          have hone : L.toArray.all (·.oneCell') = true := all_oneCell_toArray (fun v hv' => by
            obtain ⟨j, hj, rfl⟩ := List.getElem_of_mem hv'
            have := hv j (by omega)
            rw [List.getElem?_eq_getElem hj] at this
            rw [Option.some.inj this]; rfl)
          have hth : wr.there w.heap.size 0 L.length := by rw [hL]; exact thereRow hR
          have hrg2 := World.rangeAt_setCells_same _ _ _ _ hth
          have HE : Hid (L = (List.range 64).map fun i => Value.int .u32 (uI (wAt (wordAt t 0) i))) := words_eq hL hv
          have HB : Hid (Below w.heap.size w (wr.setCells w.heap.size 0 L)) := below_setCells (Nat.le_refl _) _ _ _ (((Below.refl _ w).alloc (Nat.le_refl _) _).trans (hb.mono (by omega)))
          have hsz : (Tryz.prog.info? 161).map (·.size) = some L.length := by rw [hL]; exact size64
          clear hR hL hg hv hb
          go_wp2_with (first | (refine wpList_load_mid rfl 161 _ rfl (w.heap.size + 1) 0 rfl L _ hrg Tryz.underlying161 rfl hsz ?_) | (refine wpList_store_mid rfl 161 _ _ rfl w.heap.size 0 L.toArray rfl rfl (by simpa using hth) (by simpa using hsz) hone ?_))
          refine bodyPost_ret (v := .agg L.toArray) ?_ rfl ⟨by rw [← HE.out], HB.out⟩
          have hl3 := run_loadVar_mid (P := Tryz.prog) _ w.heap.size 0 161 L _ hrg2 Tryz.underlying161 rfl hsz
          simp [results, Tryz.results129, asAddr, hl3, Act.put]
end Go.Proofs.YtjkmfjegphpjkaaGreatDoor
namespace Go.Proofs.YtjkmfjegphpjkaaGreatDoor
open Go.RowKit

theorem splice_cons {α : Type} (cs r : List α) (v : α) (o : Nat) (h : o < cs.length) : splice (cs.set o v) (o + 1) r = splice cs o (v :: r) := by
  unfold splice
  rw [List.take_succ_eq_append_getElem (by simpa using h)]
  simp only [List.getElem_set_self, List.take_set_of_le (Nat.le_refl o), List.append_assoc, List.length_cons, List.cons_append, List.nil_append]
  rw [List.drop_set_of_lt (by omega), show o + 1 + r.length = o + (r.length + 1) by omega]
/-- A row behind many stores. -/
theorem rowSetCells {g : Nat} {t : TypeId} : ∀ (vs cs : List Value) (o : Nat) (w : World), w.heap[g]? = some (.cells cs.toArray t (0, 0)) → o + vs.length ≤ cs.length → (w.setCells g o vs).heap[g]? = some (.cells (splice cs o vs).toArray t (0, 0))
  | [], cs, o, w, hg, _ => by simpa [World.setCells, splice] using hg
  | v :: r, cs, o, w, hg, hl => by
    rw [World.setCells, ← splice_cons cs r v o (by simp at hl; omega)]
    exact rowSetCells r (cs.set o v) (o + 1) _ (rowSet v hg) (by simp at hl ⊢; omega)
theorem otherSetCells (g : Nat) : ∀ (vs : List Value) (o : Nat) (w : World) (k : Nat), k ≠ g → (w.setCells g o vs).heap[k]? = w.heap[k]?
  | [], _, _, _, _ => rfl
  | v :: r, o, w, k, hk => by rw [World.setCells, otherSetCells g r (o + 1) _ k hk, heap_setCell_other w _ k v hk]
theorem sizeSetCells (g : Nat) : ∀ (vs : List Value) (o : Nat) (w : World), (w.setCells g o vs).heap.size = w.heap.size
  | [], _, _ => rfl
  | v :: r, o, w => by rw [World.setCells, sizeSetCells g r (o + 1) _]; simp
/-- A whole variable of many cells, stored. -/
theorem wpList_store_row {P : Program} {ops : Array Oper} {rest : List Oper} {op : Oper} {a : Act} {w : World} {Q : Exit → Act → World → Prop} (hgd : op.guard = none) (ty : TypeId) (x y : Operand) (ho : op.op = .store ty x y)
    (g : Nat) (cs vs : List Value) (t : TypeId) (hx : a.eval x = .pointer (some ⟨g, 0, none⟩)) (hy : a.eval y = .agg vs.toArray) (hg : w.heap[g]? = some (.cells cs.toArray t (0, 0))) (hl : cs.length = vs.length)
    (hi : (P.info? ty).map (·.size) = some vs.length) (h1 : ∀ v ∈ vs, v.oneCell' = true)
    (h : ∀ w', w'.heap[g]? = some (.cells vs.toArray t (0, 0)) → (∀ k, k ≠ g → w'.heap[k]? = w.heap[k]?) → w'.heap.size = w.heap.size → (∀ B w0, B ≤ g → Below B w0 w → Below B w0 w') → wpList P ops Q rest (a.put op.dst undef) w') : wpList P ops Q (op :: rest) a w := by
  refine wpList_store_mid hgd ty x y ho g 0 vs.toArray hx hy (by have := thereRow hg; rw [hl] at this; simpa using this) (by simpa using hi) (all_oneCell_toArray h1) ?_
  refine h _ ?_ (fun k hk => otherSetCells g _ _ _ _ hk) (sizeSetCells g _ _ _) (fun B w0 hB hb => below_setCells hB _ _ _ hb)
  have := rowSetCells vs cs 0 w hg (by omega)
  rwa [splice_one cs vs hl] at this
/-- The same, inside a drawn region. -/
theorem wp_store_row {P : Program} {op : Oper} {a : Act} {w : World} {K : Act → World → Prop} {Q : Exit → Act → World → Prop} (ty : TypeId) (x y : Operand) (ho : op.op = .store ty x y)
    (g : Nat) (cs vs : List Value) (t : TypeId) (hx : a.eval x = .pointer (some ⟨g, 0, none⟩)) (hy : a.eval y = .agg vs.toArray) (hg : w.heap[g]? = some (.cells cs.toArray t (0, 0))) (hl : cs.length = vs.length)
    (hi : (P.info? ty).map (·.size) = some vs.length) (h1 : ∀ v ∈ vs, v.oneCell' = true)
    (h : ∀ w', w'.heap[g]? = some (.cells vs.toArray t (0, 0)) → (∀ k, k ≠ g → w'.heap[k]? = w.heap[k]?) → w'.heap.size = w.heap.size → (∀ B w0, B ≤ g → Below B w0 w → Below B w0 w') → K (a.put op.dst undef) w') : op.wp P a w K Q := by
  refine wp_store_mid ty x y ho g 0 vs.toArray hx hy (by have := thereRow hg; rw [hl] at this; simpa using this) (by simpa using hi) (all_oneCell_toArray h1) ?_
  refine h _ ?_ (fun k hk => otherSetCells g _ _ _ _ hk) (sizeSetCells g _ _ _) (fun B w0 hB hb => below_setCells hB _ _ _ hb)
  have := rowSetCells vs cs 0 w hg (by omega)
  rwa [splice_one cs vs hl] at this
end Go.Proofs.YtjkmfjegphpjkaaGreatDoor
namespace Go.Proofs.YtjkmfjegphpjkaaGreatDoor
open Go.RowKit

theorem rangeHead {w : World} {g : Nat} {cs tail : List Value} {t : TypeId} (hg : w.heap[g]? = some (.cells (cs ++ tail).toArray t (0, 0))) : w.rangeAt g 0 cs := fun j v hv => by
  rw [Nat.zero_add]
  refine rowFacts hg j v ?_
  have hj : j < cs.length := by
    rcases Nat.lt_or_ge j cs.length with h | h
    · exact h
    · rw [List.getElem?_eq_none h] at hv; cases hv
  rw [List.getElem?_append_left hj]; exact hv
theorem size8 : (Tryz.prog.info? 112).map (·.size) = some 8 := by kernel_rfl
abbrev z8 : Obj := .cells (List.replicate 8 (Value.int .u32 0)).toArray 112 (0, 0)
theorem uCells_all (s : St) : ∀ v ∈ uCells s, v.oneCell' = true := fun v hv => by
  simp only [uCells, List.mem_map] at hv
  obtain ⟨x, _, rfl⟩ := hv
  rfl
/-- The numbers of the rounds lie where the package's variable stands. -/
def Keys (w : World) : Prop := ∀ i, i < 64 → w.cell? ⟨1, i, none⟩ = some (.int .u32 (uI (kAt i)))
theorem Keys.below {B : Nat} {w w' : World} (h : Keys w) (hb : Below B w w') (hB : 1 < B) : Keys w' := fun i hi => by rw [hb.cell hB]; exact h i hi
theorem Keys.pos {w : World} (h : Keys w) : 1 < w.heap.size := World.block_lt_of_cell? w _ (h 0 (by omega))

/-- A state whose first k numbers have been added to. -/
def mixU (s T : St) (k i : Nat) : U := if i < k then s.row.getD i 0 + T.row.getD i 0 else s.row.getD i 0
def mixC (s T : St) (k : Nat) : List Value := (List.range 8).map fun i => Value.int .u32 (uI (mixU s T k i))
theorem mix_start (s T : St) : mixC s T 0 = uCells s := rfl
theorem mix_end (s T : St) : mixC s T 8 = uCells (s.add T) := rfl
theorem mix_at (s T : St) (k : Nat) (tail : List Value) (h : k < 8) : (mixC s T k ++ tail)[k]? = some (.int .u32 (uI (s.row.getD k 0))) := by
  rw [List.getElem?_append_left (by simp [mixC]; exact h)]
  simp [mixC, h, mixU]
theorem mix_set (s T : St) (k : Nat) (tail : List Value) (h : k < 8) : (mixC s T k ++ tail).set k (.int .u32 (uI (s.row.getD k 0 + T.row.getD k 0))) = mixC s T (k + 1) ++ tail := by
  rw [List.set_append_left _ _ (by simp [mixC]; exact h)]
  congr 1
  apply List.ext_getElem?
  intro j
  by_cases e : j = k
  · subst e
    rw [List.getElem?_set_self (by simp [mixC]; exact h)]
    simp [mixC, h, mixU]
  · rw [List.getElem?_set_ne (by omega)]
    by_cases hj : j < 8
    · have : (j < k) = (j < k + 1) := by apply propext; omega
      simp [mixC, hj, mixU, this]
    · rw [List.getElem?_eq_none (by simp [mixC]; omega), List.getElem?_eq_none (by simp [mixC]; omega)]
theorem size_u32 (w : World) : (sizeOf 110).run Tryz.prog w = .ok 1 w := by kernel_rfl
theorem agg_u32 (w : World) : (isAgg 110).run Tryz.prog w = .ok false w := by kernel_rfl
/-- A word of an array that is held as a value. -/
theorem idxAgg {W : List Value} {k : Nat} {v : Value} (hk : k < 64) (hv : W[k]? = some v) (w : World) : (Instr.index 161 (.agg W.toArray) (.int .i64 (k : Int))).run Tryz.prog w = .ok v w := by
  have h2 : 0 ≤ (k : Int) ∧ (k : Int) < 64 := by omega
  simp [Instr.index, run_underlying Tryz.underlying161, asIntOf, part, h2, hv]
  omega
theorem idxAgg8 {W : List Value} {k : Nat} {v : Value} (hk : k < 8) (hv : W[k]? = some v) (w : World) : (Instr.index 112 (.agg W.toArray) (.int .i64 (k : Int))).run Tryz.prog w = .ok v w := by
  have h2 : 0 ≤ (k : Int) ∧ (k : Int) < 8 := by omega
  simp [Instr.index, run_underlying Tryz.underlying112, asIntOf, part, h2, hv]
  omega
set_option maxHeartbeats 1000000 in
set_option maxRecDepth 100000 in
theorem takeBlock (s : St) (t : ByteArray) (w w0 : World) (g B : Nat) (ty : TypeId) (tail : List Value) (ht : t.size = 64) (hg : w.heap[g]? = some (.cells (uCells s ++ tail).toArray ty (0, 0))) (hb : Below B w0 w) (hB : B ≤ g) (hk : Keys w0) (hkB : 1 < B) :
    Calls Tryz.prog 117 #[.pointer (some ⟨g, 0, none⟩), .string t] w
      fun e w' => e = .returned (.tuple #[]) ∧ w'.heap[g]? = some (.cells (uCells (blk s (wordAt t 0)) ++ tail).toArray ty (0, 0)) ∧ Below B w0 w' := by
  have hgl := heap_lt hg
  have hBw : B ≤ w.heap.size := by omega
  go_enter Tryz.func117, Tryz.ntmps117
  go_wp2_with fail
  refine (blockWords t _ ht).mono ?_
  rintro e w1 ⟨rfl, hb1⟩
  generalize hW : (List.range 64).map (fun i => Value.int .u32 (uI (wAt (wordAt t 0) i))) = W
  have hWl : W.length = 64 := by rw [← hW]; simp
  have hWi : (Tryz.prog.info? 161).map (·.size) = some W.length := by rw [hWl]; exact size64
  have hW1 : ∀ v ∈ W, v.oneCell' = true := by
    rw [← hW]; intro v hv
    obtain ⟨i, _, rfl⟩ := List.mem_map.1 hv
    rfl
  go_wp2_with (refine wpList_store_row rfl 161 _ _ rfl w1.heap.size (List.replicate 64 (.int .u32 0)) W 161 rfl rfl (heap_alloc_new w1 z64) (by rw [hWl]; rfl) hWi hW1 ?_)
  intro w2 hg2 ho2 hs2 hb2
  have hs1 : w.heap.size ≤ w1.heap.size := hb1.size
  have hgg : w2.heap[g]? = some (.cells (uCells s ++ tail).toArray ty (0, 0)) := by
    rw [ho2 g (by omega), Below.heap_alloc w1 _ g (by omega), hb1.block g hgl, hg]
  have hB2 : Below B w0 w2 := hb2 B w0 (by omega) (((hb.trans (hb1.mono hBw)).alloc (by omega) _))
  have hr := rangeHead hgg
  have HS2 : Hid (w2.heap.size = w1.heap.size + 1) := by show _ = _; simpa using hs2
  clear ho2 hb2 hs2
  go_wp2_with (first | (refine wpList_load_mid rfl 112 _ rfl g 0 rfl (uCells s) _ hr Tryz.underlying112 rfl size8 ?_) | (refine wpList_store_row rfl 112 _ _ rfl w2.heap.size (List.replicate 8 (.int .u32 0)) (uCells s) 112 rfl rfl (heap_alloc_new w2 z8) rfl size8 (uCells_all s) ?_))
  intro w3 hg3 ho3 hs3 hb3
  have hs2 := HS2.out
  have hgg3 : w3.heap[g]? = some (.cells (uCells s ++ tail).toArray ty (0, 0)) := by
    rw [ho3 g (by omega), Below.heap_alloc w2 _ g (by omega), hgg]
  have hgw3 : w3.heap[w1.heap.size]? = some (.cells W.toArray 161 (0, 0)) := by
    rw [ho3 _ (by omega), Below.heap_alloc w2 _ _ (by omega), hg2]
  have hB3 : Below B w0 w3 := hb3 B w0 (by omega) (hB2.alloc (by omega) _)
  have HS3 : Hid (w3.heap.size = w2.heap.size + 1) := by show _ = _; simpa using hs3
  have hr3 := rangeRow hgw3
  clear ho3 hb3 hgg hg2 hr hB2 hs2 hs3
  go_wp2_with (refine wpList_load_mid rfl 161 _ rfl w1.heap.size 0 rfl W _ hr3 Tryz.underlying161 rfl hWi ?_)
  have hk3 : Keys w3 := hk.below hB3 hkB
  go_loopw [16] (fun i wr => ∃ k : Nat, k ≤ 64 ∧ i = .int .i64 k ∧ wr.heap[w2.heap.size]? = some (.cells (uCells (rnds s (wordAt t 0) k)).toArray 112 (0, 0)) ∧ Below w2.heap.size w3 wr)
    (fun i _ => 64 - (intOf i).toNat)
  case atStart => exact ⟨0, Nat.zero_le _, rfl, hg3, Below.refl _ _⟩
  case round =>
    obtain ⟨k, hkk, rfl, hgr, hbr⟩ := hrel
    have hs2 := HS2.out
    have hs3 := HS3.out
    by_cases hlt : k < 64
    · have hix := fun x => idxAgg (W := W) hlt (v := .int .u32 (uI (wAt (wordAt t 0) k))) (by rw [← hW]; simp [hlt]) x
      have hkey := (hk3.below hbr (by omega)) k hlt
      have fp := uI_add' (kAt k) (wAt (wordAt t 0) k)
      have fq := uI_add (kAt k) (wAt (wordAt t 0) k)
      have HG : Hid (wr.heap[w2.heap.size]? = some (.cells (uCells (rnds s (wordAt t 0) k)).toArray 112 (0, 0))) := hgr
      have HB : Hid (Below w2.heap.size w3 wr) := hbr
      clear hbr hgg3 hgw3 hB3 hg3 hk3 hk hb hr3 hb1 hg hW hW1 hWi hWl
      clear hs2 hs3 hgr
      go_wp2_with fail
      refine (turnW _ _ _ _ _ HG.out).mono ?_
      rintro e w' ⟨rfl, hg', hb'⟩
      have HG' : Hid (w'.heap[w2.heap.size]? = _) := hg'
      have HB' : Hid (Below w2.heap.size w3 w') := HB.out.trans hb'
      clear hg' hb' hix hkey fp fq
      go_wp2
      go_roundw
      case rel => exact ⟨k + 1, by omega, by go_num, HG'.out, HB'.out⟩
      case measure => simp [intOf]; omega
    · have hrt := rangeRow hgr
      have h64 : rnds s (wordAt t 0) k = rnds s (wordAt t 0) 64 := by rw [show k = 64 by omega]
      rw [h64] at hrt
      have hgg4 : wr.heap[g]? = some (.cells (uCells s ++ tail).toArray ty (0, 0)) := by rw [hbr.block g (by omega), hgg3]
      have HB4 : Hid (Below B w0 wr) := hB3.trans (hbr.mono (by omega))
      generalize hT : rnds s (wordAt t 0) 64 = T at hrt
      have HT : Hid (blk s (wordAt t 0) = s.add T) := by show _ = _; rw [← hT]; rfl
      clear hs2 hs3 hgr hbr hgg3 hgw3 hB3 hg3 hk3 hr3 hb1 hg hb h64 hT
      go_wp2_with (refine wpList_load_mid rfl 112 _ rfl w2.heap.size 0 rfl (uCells T) _ hrt Tryz.underlying112 rfl size8 ?_)
      go_loopw [28] (fun i wr => ∃ j : Nat, j ≤ 8 ∧ i = .int .i64 j ∧ wr.heap[g]? = some (.cells (mixC s T j ++ tail).toArray ty (0, 0)) ∧ Below B w0 wr)
        (fun i _ => 8 - (intOf i).toNat)
      case atStart => exact ⟨0, Nat.zero_le _, rfl, hgg4, HB4.out⟩
      case round =>
        clear hgg4 hrt HB4 hkk hlt
        obtain ⟨j, hj, rfl, hgr, hbr⟩ := hrel
        by_cases hl8 : j < 8
        · have hix := fun x => idxAgg8 (W := uCells T) hl8 (row_at T j hl8) x
          have hc := rowFacts hgr j _ (mix_at s T j tail hl8)
          have hz := frozen_of_row wr g j _ ty hgr
          have HS : Hid ((wr.setCell ⟨g, j, none⟩ (.int .u32 (uI (s.row.getD j 0 + T.row.getD j 0)))).heap[g]? = some (.cells (mixC s T (j + 1) ++ tail).toArray ty (0, 0))) := by
            show _ = _
            rw [← mix_set s T j tail hl8]
            exact rowSet _ hgr
          have HB : Hid (∀ v, Below B w0 (wr.setCell ⟨g, j, none⟩ v)) := fun v => hbr.setCell hB v
          have fp := uI_add' (s.row.getD j 0) (T.row.getD j 0)
          have fq := uI_add (s.row.getD j 0) (T.row.getD j 0)
          generalize s.row.getD j 0 = x at hc fp fq HS
          generalize T.row.getD j 0 = y at hix fp fq HS
          clear hgr hbr
          go_wp2_with fail
          go_region
          go_wp2
          go_roundw
          case rel => exact ⟨j + 1, by omega, by go_num, HS.out, (HB.out _).drew⟩
          case measure => simp [intOf]; omega
        · have h8 : mixC s T j = uCells (s.add T) := by rw [show j = 8 by omega]; rfl
          rw [h8] at hgr
          have HG : Hid (wr.heap[g]? = some (.cells (uCells (s.add T) ++ tail).toArray ty (0, 0))) := hgr
          have HB : Hid (Below B w0 wr) := hbr
          clear hgr hbr h8
          go_wp2
          go_returns
          exact ⟨rfl, by rw [HT.out]; exact HG.out, HB.out⟩
end Go.Proofs.YtjkmfjegphpjkaaGreatDoor
namespace Go.Proofs.YtjkmfjegphpjkaaGreatDoor
open Go.RowKit Go.Lib


set_option maxHeartbeats 1000000 in
set_option maxRecDepth 100000 in
theorem joinTexts (a b : ByteArray) (w : World) (ha : a.size ≤ 1000000) (hb : b.size ≤ 1000000) :
    Calls Tryz.prog 60 #[.string a, .string b] w fun e w' => e = .returned (.string (a ++ b)) ∧ Below w.heap.size w w' := by
  obtain ⟨i0, hi, hz0, hz1, hz2⟩ := info_parts infoByte
  go_enter Tryz.func60, Tryz.ntmps60
  go_wp2_with (at_make; refine wpList_make_full _ rfl _ _ 22 rfl w.heap.size 5 i0 (.int .u8 0) 1 Tryz.underlying22 hi hz0 hz1 .i64 .i64 _ _ (a.size + b.size) rfl rfl ?c1 ?c2 ?c3 ?c4 ?c5 ?_)
  case c1 => omega
  case c2 => omega
  case c3 => rw [hz2]; omega
  case c4 => unfold maxLen; omega
  case c5 => exact Nat.le_refl _
  intro w1 hown hgrow
  obtain ⟨hrow, hlen⟩ := rowOf hown rfl
  have hB1 : Below w.heap.size w w1 := (Below.refl _ w).grown hgrow (Nat.le_refl _) (fun k hk => by cases hk)
  generalize (madeCells #[Value.int IntKind.u8 0] (a.size + b.size)).toList = L at hrow hlen
  have la : (byteCells a.data.toList).length = a.size := by rw [byteCells_length, ← size_eq]
  have lb : (byteCells b.data.toList).length = b.size := by rw [byteCells_length, ← size_eq]
  clear hown hgrow
  go_wp2_with (refine wpList_copy_str rfl (.tmp 12) (.tmp 13) 22 9 rfl 5 Tryz.underlying22 byteSize _ _ _ a rfl rfl w.heap.size 0 L 5 hrow (fun _ => rfl) ?d2 ?d3 w.heap.size w hB1 (Nat.le_refl _) ?_)
  case d2 => omega
  case d3 => omega
  intro w2 H2 hB2 hs2
  have hlen2 : (splice L 0 (byteCells a.data.toList)).length = a.size + b.size := by rw [length_splice _ _ _ (by omega)]; exact hlen
  have HF : Hid (∀ w3 : World, w3.heap[w.heap.size]? = some (.cells (splice (splice L 0 (byteCells a.data.toList)) a.size (byteCells b.data.toList)).toArray 5 (0, 0)) →
      (convert 22 9 (.slice (some ⟨w.heap.size, 0, none⟩) (a.size + b.size) (a.size + b.size))).run Tryz.prog w3 = .ok (.string (a ++ b)) w3) := by
    intro w3 h3
    have e := splice_two L (byteCells a.data.toList) (byteCells b.data.toList) (by omega)
    rw [la] at e
    rw [e] at h3
    have h4 : w3.heap[w.heap.size]? = some (.cells (byteCells (a.data.toList ++ b.data.toList) ++ []).toArray 5 (0, 0)) := by simpa [byteCells] using h3
    have := run_convert_row (P := Tryz.prog) (src := 22) (dst := 9) (cap := a.size + b.size) Tryz.underlying22 Tryz.underlying5 Tryz.underlying9 h4
    rw [List.length_append, ← size_eq, ← size_eq, ofBytes_append] at this
    exact this
  clear hrow hB1 hs2 la lb hlen
  by_cases hb0 : b = ByteArray.empty
  · subst hb0
    go_wp2_with (refine wpList_copy_str rfl (.tmp 18) (.tmp 19) 22 9 rfl 5 Tryz.underlying22 byteSize _ _ _ ByteArray.empty rfl rfl w.heap.size a.size (splice L 0 (byteCells a.data.toList)) 5 H2.out ?e1 ?e2 ?e3 w.heap.size w hB2 (Nat.le_refl _) ?_)
    case e1 => intro h; simp at h
    case e2 => simp
    case e3 => simp; omega
    intro w3 H3 hB3 _
    have hcv := HF.out w3 H3.out
    simp only [ByteArray.size_empty, Nat.add_zero] at hcv
    clear hlen2 H2 hB2
    go_wp2
    go_ret
    exact ⟨by simp, hB3⟩
  · go_wp2_with (refine wpList_copy_str rfl (.tmp 18) (.tmp 19) 22 9 rfl 5 Tryz.underlying22 byteSize _ _ _ b rfl rfl w.heap.size a.size (splice L 0 (byteCells a.data.toList)) 5 H2.out ?f1 ?f2 ?f3 w.heap.size w hB2 (Nat.le_refl _) ?_)
    case f2 => exact Nat.le_refl _
    case f3 => omega
    intro w3 H3 hB3 _
    have hcv := HF.out w3 H3.out
    clear hlen2 H2 hB2
    go_wp2
    go_ret
    exact ⟨rfl, hB3⟩
end Go.Proofs.YtjkmfjegphpjkaaGreatDoor
