/- What marks a row of things, and what looks for the marks: laws.markText, markTlvS, heldTlvS, walked. -/
import Derived.Test.YtochmolhpcidgahDoorAllE
import Derived.Test.YtochmolhpcidgahDoorConvR
namespace Go.Proofs.YtochmolhpcidgahDoor
open Go.RowKit

/-- A number's digits of ten. -/
def digL : Nat → Nat → List Int
  | 0, _ => []
  | f + 1, k => if k = 0 then [] else digL f (k / 10) ++ [((k % 10 + 48 : Nat) : Int)]
def mkT (k : Nat) : ByteArray := ⟨#[109]⟩ ++ strOfNums (digL 4 k)
theorem digL_zero (f : Nat) : digL f 0 = [] := by cases f <;> simp [digL]
theorem digL_more {f k : Nat} (h : k ≠ 0) (hf : k < 10 ^ f) : ∃ g, f = g + 1 ∧ k / 10 < 10 ^ g ∧ digL f k = digL g (k / 10) ++ [((k % 10 + 48 : Nat) : Int)] := by
  cases f with
  | zero => simp at hf; omega
  | succ g => exact ⟨g, rfl, by rw [Nat.pow_succ] at hf; omega, by rw [digL, if_neg h]⟩
theorem strCons (x : Int) (l : List Int) : strOfNums [x] ++ strOfNums l = strOfNums (x :: l) := by
  rw [strOfNums, strOfNums, strOfNums, ByteArray.mk_append_mk]; rfl
set_option maxHeartbeats 1000000 in
set_option maxRecDepth 100000 in
theorem markText (k : Nat) (w : World) (h0 : 1 ≤ k) (hk : k < 10000) :
    Calls Tryd.prog 30 #[.int .i64 (k : Int)] w fun e w' => e = .returned (.string (mkT k)) ∧ Below w.heap.size w w' := by
  go_enter Tryd.func30, Tryd.ntmps30
  go_wp2_with fail
  go_loopw [0, 3] (fun q t wr => ∃ (j f : Nat) (tl : List Int), q = .int .i64 (j : Int) ∧ j < 10 ^ f ∧ j < 10000 ∧ f + tl.length ≤ 4 ∧ t = .string (strOfNums tl) ∧ digL f j ++ tl = digL 4 k ∧ Below w.heap.size w wr ∧ w.heap.size ≤ wr.heap.size)
    (fun q _ _ => (intOf q).toNat)
  case atStart => exact ⟨k, 4, [], rfl, by omega, hk, by simp, rfl, by simp, Below.refl _ _, Nat.le_refl _⟩
  case round =>
    obtain ⟨j, f, tl, rfl, hf, hj, hlen, rfl, heq, hbel, hsz⟩ := hrel
    have HE : Hid (digL f j ++ tl = digL 4 k) := heq
    have HF : Hid (j < 10 ^ f) := hf
    have hts : (strOfNums tl).size ≤ 4 := by rw [strOfNums_size]; omega
    clear heq hf
    by_cases h0 : j = 0
    · have HS : Hid (mkT k = ⟨#[109]⟩ ++ strOfNums tl) := by
        show _ = _
        rw [mkT, ← HE.out, h0, digL_zero]; rfl
      subst h0
      generalize strOfNums tl = u at *
      go_wp2_with fail
      go_ret
      exact ⟨by rw [HS.out]; rfl, hbel⟩
    · have HN : Hid (j ≠ 0) := h0
      have hp : 0 < j := by omega
      have hcv := fun V => convertRow (V.alloc (.cells #[.int .u8 (48 + (j : Int) % 10)] 5 (0, 0))) V.heap.size [48 + (j : Int) % 10] 5 1 1 rfl (heap_alloc_new V _)
      have HC : Hid (strOfNums [48 + (j : Int) % 10] ++ strOfNums tl = strOfNums (((j % 10 + 48 : Nat) : Int) :: tl)) := by
        show _ = _
        rw [strCons, show (48 + (j : Int) % 10) = ((j % 10 + 48 : Nat) : Int) from by omega]
      have h1s : (strOfNums [48 + (j : Int) % 10]).size = 1 := rfl
      have HBA : Hid (∀ o, Below w.heap.size w (wr.alloc o)) := fun o => hbel.alloc hsz o
      clear h0 hbel
      generalize strOfNums [48 + (j : Int) % 10] = s1 at *
      generalize strOfNums tl = u at *
      go_wp2_with fail
      go_roundw
      case rel =>
        obtain ⟨f', rfl, hf', he⟩ := digL_more HN.out HF.out
        refine ⟨j / 10, f', ((j % 10 + 48 : Nat) : Int) :: tl, by simp, hf', by omega, by simp; omega, by rw [HC.out], ?_, HBA.out _, by simp; omega⟩
        rw [← HE.out, he]; simp
      case measure => simp [intOf]; omega
/-- The marks from k on in a row of n things. -/
def MarksT (k n : Nat) (M : List Value) : Prop := ∀ i, i < n → M[i * 2]? = some (.int .i64 ((k + 2 * i : Nat) : Int)) ∧ M[i * 2 + 1]? = some (.string (mkT (k + 2 * i + 1)))
set_option maxHeartbeats 2000000 in
set_option maxRecDepth 100000 in
theorem markTlvS (g n c k : Nat) (L : List Value) (w : World) (hn : n ≤ 60) (hk0 : 1 ≤ k) (hk : k ≤ 100) (hL : 2 * n ≤ L.length) (hg : w.heap[g]? = some (.cells L.toArray 23 (0, 0))) :
    Calls Tryd.prog 20 #[.slice (some ⟨g, 0, none⟩) n c, .int .i64 (k : Int)] w fun e w' => e = .returned (.int .i64 ((k + 2 * n : Nat) : Int)) ∧ (∃ M, w'.heap[g]? = some (.cells M.toArray 23 (0, 0)) ∧ MarksT k n M) ∧
      (∀ b, b ≠ g → b < w.heap.size → w'.heap[b]? = w.heap[b]?) ∧ w.heap.size ≤ w'.heap.size ∧ ∀ B w0, B ≤ g → B ≤ w.heap.size → Below B w0 w → Below B w0 w' := by
  go_enter Tryd.func20, Tryd.ntmps20
  go_wp2_with fail
  go_loopw [1, 5] (fun q i wr => ∃ (j : Nat) (M : List Value), j ≤ n ∧ q = .int .i64 ((k + 2 * j : Nat) : Int) ∧ i = .int .i64 (j : Int) ∧ 2 * n ≤ M.length ∧ wr.heap[g]? = some (.cells M.toArray 23 (0, 0)) ∧ MarksT k j M ∧
      (∀ b, b ≠ g → b < w.heap.size → wr.heap[b]? = w.heap[b]?) ∧ w.heap.size ≤ wr.heap.size ∧ ∀ B w0, B ≤ g → B ≤ w.heap.size → Below B w0 w → Below B w0 wr)
    (fun _ i _ => n - (intOf i).toNat)
  case atStart => exact ⟨0, L, Nat.zero_le _, by simp, rfl, hL, hg, fun i hi => by omega, fun _ _ _ => rfl, Nat.le_refl _, fun _ _ _ _ h => h⟩
  case round =>
    clear hg hL
    obtain ⟨j, M, hj, rfl, rfl, hM, hgr, hc, ho, hsz, hbl⟩ := hrel
    by_cases hlt : j < n
    · obtain ⟨q, hq⟩ : ∃ q, q = k + 2 * j := ⟨_, rfl⟩
      rw [← hq]
      have hq1 : 1 ≤ q := by omega
      have hq2 : q ≤ 220 := by omega
      have d0 := rowFacts hgr (j * 2) (M[j * 2]'(by omega)) (List.getElem?_eq_getElem (by omega))
      have z0 := rowFree hgr (j * 2)
      generalize M[j * 2]'(by omega) = v0 at d0
      have HW : Hid (∀ v, (wr.setCell ⟨g, j * 2, none⟩ v).heap[g]? = some (.cells (M.set (j * 2) v).toArray 23 (0, 0))) := fun v => rowSet v hgr
      have HMk : Hid (∀ V : World, Calls Tryd.prog 30 #[.int .i64 ((q : Int) + 1)] V fun e w' => e = .returned (.string (mkT (q + 1))) ∧ Below V.heap.size V w') := fun V => by
        have := markText (q + 1) V (by omega) (by omega)
        simpa using this
      have HC : Hid (MarksT k (j + 1) ((M.set (j * 2) (.int .i64 (q : Int))).set (j * 2 + 1) (.string (mkT (q + 1))))) := fun i hi => by
        by_cases e : i = j
        · subst e
          rw [List.getElem?_set_ne (by omega), List.getElem?_set_self (by omega), List.getElem?_set_self (by simp; omega), hq]
          exact ⟨rfl, rfl⟩
        · rw [List.getElem?_set_ne (by omega), List.getElem?_set_ne (by omega), List.getElem?_set_ne (by omega), List.getElem?_set_ne (by omega)]
          exact hc i (by omega)
      have HLn : Hid (∀ u v, 2 * n ≤ ((M.set (j * 2) u).set (j * 2 + 1) v).length) := fun u v => by simpa using hM
      have HOt : Hid (∀ b, b ≠ g → b < w.heap.size → wr.heap[b]? = w.heap[b]?) := ho
      have HBl : Hid (∀ B w0, B ≤ g → B ≤ w.heap.size → Below B w0 w → Below B w0 wr) := hbl
      have hgl : g < wr.heap.size := heap_lt hgr
      have HQ : Hid (q = k + 2 * j) := hq
      have HML : Hid (j * 2 + 1 < M.length) := by show _ < _; omega
      clear hc ho hgr hM hbl hq
      generalize mkT (q + 1) = u at *
      go_wp2_with fail
      refine (HMk.out _).mono ?_
      rintro e w1 ⟨rfl, hb1⟩
      have hs1 : wr.heap.size ≤ w1.heap.size := by have := hb1.size; simpa using this
      have hr1 : w1.heap[g]? = some (.cells (M.set (j * 2) (.int .i64 (q : Int))).toArray 23 (0, 0)) := by
        rw [hb1.block g (by simpa using hgl)]; exact HW.out _
      have d1 := rowFacts hr1 (j * 2 + 1) _ (List.getElem?_eq_getElem (by simpa using HML.out))
      have z1 := rowFree hr1 (j * 2 + 1)
      generalize (M.set (j * 2) (Value.int .i64 (q : Int)))[j * 2 + 1]'(by simpa using HML.out) = v1 at d1
      have HR1 : Hid (∀ v, (w1.setCell ⟨g, j * 2 + 1, none⟩ v).heap[g]? = some (.cells ((M.set (j * 2) (.int .i64 (q : Int))).set (j * 2 + 1) v).toArray 23 (0, 0))) := fun v => rowSet v hr1
      have HO1 : Hid (∀ v b, b ≠ g → b < w.heap.size → (w1.setCell ⟨g, j * 2 + 1, none⟩ v).heap[b]? = w.heap[b]?) := fun v b hb hl => by
        rw [heap_setCell_other _ _ _ _ hb, hb1.block b (by simp; omega), heap_setCell_other _ _ _ _ hb]
        exact HOt.out b hb hl
      have HB1 : Hid (∀ v B w0, B ≤ g → B ≤ w.heap.size → Below B w0 w → Below B w0 (w1.setCell ⟨g, j * 2 + 1, none⟩ v)) := fun v B w0 h1 h2 h3 =>
        (((HBl.out B w0 h1 h2 h3).setCell h1 _).trans (hb1.mono (by simp; omega))).setCell h1 v
      clear hb1 hr1 HMk HW HOt HBl d0 z0
      go_wp2_with fail
      go_roundw
      case rel => exact ⟨j + 1, _, by omega, by have := HQ.out; go_num, by go_num, HLn.out _ _, HR1.out _, HC.out, HO1.out _, by simp; omega, HB1.out _⟩
      case measure => simp [intOf]; omega
    · obtain rfl : j = n := by omega
      have HC : Hid (∃ M : List Value, wr.heap[g]? = some (.cells M.toArray 23 (0, 0)) ∧ MarksT k j M) := ⟨M, hgr, hc⟩
      have HOt : Hid (∀ b, b ≠ g → b < w.heap.size → wr.heap[b]? = w.heap[b]?) := ho
      have HBl : Hid (∀ B w0, B ≤ g → B ≤ w.heap.size → Below B w0 w → Below B w0 wr) := hbl
      clear hc ho hgr hbl
      go_wp2_with fail
      go_ret
      exact ⟨rfl, HC.out, HOt.out, hsz, HBl.out⟩
end Go.Proofs.YtochmolhpcidgahDoor
