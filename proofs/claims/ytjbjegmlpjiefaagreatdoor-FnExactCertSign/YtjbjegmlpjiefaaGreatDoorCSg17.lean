/- laws.markText, walked. What marks a row of texts, and what looks for the marks: laws.markStringS, heldStringS, walked. laws.markCert, heldCert, walked. What the listed table gives the walks: the numbers of the rounds, each in its cell. laws.szStringS, walked. What laws.szStringS leaves, in words. laws.szCert, walked. laws.eqStringS, walked. laws.eqSig, walked: of a Sig and itself. laws.eqCert, walked: of a paper and itself. Names that came in, opened. -/
import Derived.Test.YtjbjegmlpjiefaaGreatDoorCSg12
import Derived.Handy
import Derived.Test.YtjbjegmlpjiefaaGreatDoorCSg05
import Derived.Deep.RegionHeld3
import Derived.Test.YtjbjegmlpjiefaaGreatDoorCSg03
import Derived.Test.YtjbjegmlpjiefaaGreatDoorCSg04
import Derived.ProofKit
import Derived.OpenShut
import Derived.LaidMore
import Derived.Stop.Joined
import Derived.OpenVars
import Derived.Lay
import Derived.Test.YtjbjegmlpjiefaaGreatDoorCSg01
import Derived.Test.YtjbjegmlpjiefaaGreatDoorCSg02
import Derived.Deep.Cut
import Derived.SliceStrings
import Derived.Deep.Strs
namespace Go.Proofs.YtjbjegmlpjiefaaGreatDoor
open Go.RowKit

/-- A number's digits of ten. -/
def digK : Nat → Nat → List Int
  | 0, _ => []
  | f + 1, k => if k = 0 then [] else digK f (k / 10) ++ [((k % 10 + 48 : Nat) : Int)]
def mkT (k : Nat) : ByteArray := ⟨#[109]⟩ ++ strOfNums (digK 7 k)
theorem digK_zero (f : Nat) : digK f 0 = [] := by cases f <;> simp [digK]
theorem digK_more {f k : Nat} (h : k ≠ 0) (hf : k < 10 ^ f) : ∃ g, f = g + 1 ∧ k / 10 < 10 ^ g ∧ digK f k = digK g (k / 10) ++ [((k % 10 + 48 : Nat) : Int)] := by
  cases f with
  | zero => simp at hf; omega
  | succ g => exact ⟨g, rfl, by rw [Nat.pow_succ] at hf; omega, by rw [digK, if_neg h]⟩
theorem strCons (x : Int) (l : List Int) : strOfNums [x] ++ strOfNums l = strOfNums (x :: l) := by
  rw [strOfNums, strOfNums, strOfNums, ByteArray.mk_append_mk]; rfl
set_option maxHeartbeats 1000000 in
set_option maxRecDepth 100000 in
theorem markText (k : Nat) (w : World) (h0 : 1 ≤ k) (hk : k < 10000000) :
    Calls Tryz.prog 63 #[.int .i64 (k : Int)] w fun e w' => e = .returned (.string (mkT k)) ∧ Below w.heap.size w w' := by
  go_enter Tryz.func63, Tryz.ntmps63
  go_wp2_with fail
  go_loopw [0, 3] (fun q t wr => ∃ (j f : Nat) (tl : List Int), q = .int .i64 (j : Int) ∧ j < 10 ^ f ∧ j < 10000000 ∧ f + tl.length ≤ 7 ∧ t = .string (strOfNums tl) ∧ digK f j ++ tl = digK 7 k ∧ Below w.heap.size w wr ∧ w.heap.size ≤ wr.heap.size)
    (fun q _ _ => (intOf q).toNat)
  case atStart => exact ⟨k, 7, [], rfl, by omega, hk, by simp, rfl, by simp, Below.refl _ _, Nat.le_refl _⟩
  case round =>
    obtain ⟨j, f, tl, rfl, hf, hj, hlen, rfl, heq, hbel, hsz⟩ := hrel
    have HE : Hid (digK f j ++ tl = digK 7 k) := heq
    have HF : Hid (j < 10 ^ f) := hf
    have hts : (strOfNums tl).size ≤ 7 := by rw [strOfNums_size]; omega
    clear heq hf
    by_cases h0 : j = 0
    · have HS : Hid (mkT k = ⟨#[109]⟩ ++ strOfNums tl) := by
        show _ = _
        rw [mkT, ← HE.out, h0, digK_zero]; rfl
      subst h0
      generalize strOfNums tl = u at *
      go_wp2_with fail
      go_ret
      exact ⟨by rw [HS.out]; rfl, hbel⟩
    · have HN : Hid (j ≠ 0) := h0
      have hp : 0 < j := by omega
      have hcv := fun V => convertRow (V.alloc (.cells #[.int .u8 (48 + (j : Int) % 10)] 5 (0, 0))) V.heap.size [48 + (j : Int) % 10] 5 1 1 rfl (heap_alloc_new V _)
      have HC : Hid (strOfNums [48 + (j : Int) % 10] ++ strOfNums tl = strOfNums (((j % 10 + 48 : Nat) : Int) :: tl)) := by
        show _ = _
        rw [strCons, show (48 + (j : Int) % 10) = ((j % 10 + 48 : Nat) : Int) from by omega]
      have h1s : (strOfNums [48 + (j : Int) % 10]).size = 1 := rfl
      have HBA : Hid (∀ o, Below w.heap.size w (wr.alloc o)) := fun o => hbel.alloc hsz o
      clear h0 hbel
      generalize strOfNums [48 + (j : Int) % 10] = s1 at *
      generalize strOfNums tl = u at *
      go_wp2_with fail
      go_roundw
      case rel =>
        obtain ⟨f', rfl, hf', he⟩ := digK_more HN.out HF.out
        refine ⟨j / 10, f', ((j % 10 + 48 : Nat) : Int) :: tl, by simp, hf', by omega, by simp; omega, by rw [HC.out], ?_, HBA.out _, by simp; omega⟩
        rw [← HE.out, he]; simp
      case measure => simp [intOf]; omega
/-- The marks from k on in a row of n things. -/
def MarksT (k n : Nat) (M : List Value) : Prop := ∀ i, i < n → M[i * 2]? = some (.int .i64 ((k + 2 * i : Nat) : Int)) ∧ M[i * 2 + 1]? = some (.string (mkT (k + 2 * i + 1)))
end Go.Proofs.YtjbjegmlpjiefaaGreatDoor
namespace Go.Proofs.YtjbjegmlpjiefaaGreatDoor
open Go.RowKit

def MarksS (k n : Nat) (M : List Value) : Prop := ∀ i, i < n → M[i]? = some (.string (mkT (k + i)))
set_option maxHeartbeats 2000000 in
set_option maxRecDepth 100000 in
theorem markStrs (g n c k : Nat) (L : List Value) (w : World) (hn : n ≤ 1048576) (hk0 : 1 ≤ k) (hk : k ≤ 1048577) (hL : n ≤ L.length) (hg : w.heap[g]? = some (.cells L.toArray 9 (0, 0))) :
    Calls Tryz.prog 26 #[.slice (some ⟨g, 0, none⟩) n c, .int .i64 (k : Int)] w fun e w' => e = .returned (.int .i64 ((k + n : Nat) : Int)) ∧ (∃ M, w'.heap[g]? = some (.cells M.toArray 9 (0, 0)) ∧ MarksS k n M) ∧
      (∀ b, b ≠ g → b < w.heap.size → w'.heap[b]? = w.heap[b]?) ∧ w.heap.size ≤ w'.heap.size ∧ ∀ B w0, B ≤ g → B ≤ w.heap.size → Below B w0 w → Below B w0 w' := by
  go_enter Tryz.func26, Tryz.ntmps26
  go_wp2_with fail
  go_loopw [1, 5] (fun q i wr => ∃ (j : Nat) (M : List Value), j ≤ n ∧ q = .int .i64 ((k + j : Nat) : Int) ∧ i = .int .i64 (j : Int) ∧ n ≤ M.length ∧ wr.heap[g]? = some (.cells M.toArray 9 (0, 0)) ∧ MarksS k j M ∧
      (∀ b, b ≠ g → b < w.heap.size → wr.heap[b]? = w.heap[b]?) ∧ w.heap.size ≤ wr.heap.size ∧ ∀ B w0, B ≤ g → B ≤ w.heap.size → Below B w0 w → Below B w0 wr)
    (fun _ i _ => n - (intOf i).toNat)
  case atStart => exact ⟨0, L, Nat.zero_le _, by simp, rfl, hL, hg, fun i hi => by omega, fun _ _ _ => rfl, Nat.le_refl _, fun _ _ _ _ h => h⟩
  case round =>
    clear hg hL
    obtain ⟨j, M, hj, rfl, rfl, hM, hgr, hc, ho, hsz, hbl⟩ := hrel
    by_cases hlt : j < n
    · obtain ⟨q, hq⟩ : ∃ q, q = k + j := ⟨_, rfl⟩
      rw [← hq]
      have hq1 : 1 ≤ q := by omega
      have hq2 : q ≤ 2100000 := by omega
      have HMk : Hid (∀ V : World, Calls Tryz.prog 63 #[.int .i64 (q : Int)] V fun e w' => e = .returned (.string (mkT q)) ∧ Below V.heap.size V w') := fun V => markText q V hq1 (by omega)
      have HC : Hid (MarksS k (j + 1) (M.set j (.string (mkT q)))) := fun i hi => by
        by_cases e : i = j
        · subst e
          rw [List.getElem?_set_self (by omega), hq]
        · rw [List.getElem?_set_ne (by omega)]
          exact hc i (by omega)
      have HLn : Hid (∀ v, n ≤ (M.set j v).length) := fun v => by simpa using hM
      have HOt : Hid (∀ b, b ≠ g → b < w.heap.size → wr.heap[b]? = w.heap[b]?) := ho
      have HBl : Hid (∀ B w0, B ≤ g → B ≤ w.heap.size → Below B w0 w → Below B w0 wr) := hbl
      have hgl : g < wr.heap.size := heap_lt hgr
      have HQ : Hid (q = k + j) := hq
      have HML : Hid (j < M.length) := by show _ < _; omega
      have HGr : Hid (wr.heap[g]? = some (.cells M.toArray 9 (0, 0))) := hgr
      have a0 : (0 : Int) ≤ (j : Int) := by omega
      have b0 : (j : Int) < (n : Int) := by omega
      clear hc ho hgr hM hbl hq
      generalize mkT q = u at *
      go_wp2_with fail
      refine (HMk.out _).mono ?_
      rintro e w1 ⟨rfl, hb1⟩
      have hs1 := hb1.size
      have hr1 : w1.heap[g]? = some (.cells M.toArray 9 (0, 0)) := by rw [hb1.block g hgl]; exact HGr.out
      have d1 := rowFacts hr1 j _ (List.getElem?_eq_getElem HML.out)
      have z1 := rowFree hr1 j
      generalize M[j]'HML.out = v1 at d1
      have HR1 : Hid (∀ v, (w1.setCell ⟨g, j, none⟩ v).heap[g]? = some (.cells (M.set j v).toArray 9 (0, 0))) := fun v => rowSet v hr1
      have HO1 : Hid (∀ v b, b ≠ g → b < w.heap.size → (w1.setCell ⟨g, j, none⟩ v).heap[b]? = w.heap[b]?) := fun v b hb hl => by
        rw [heap_setCell_other _ _ _ _ hb, hb1.block b (by omega)]
        exact HOt.out b hb hl
      have HB1 : Hid (∀ v B w0, B ≤ g → B ≤ w.heap.size → Below B w0 w → Below B w0 (w1.setCell ⟨g, j, none⟩ v)) := fun v B w0 h1 h2 h3 =>
        ((HBl.out B w0 h1 h2 h3).trans (hb1.mono (by omega))).setCell h1 v
      clear hb1 hr1 HMk HOt HBl
      go_wp2_with fail
      go_roundw
      case rel => exact ⟨j + 1, _, by omega, by have := HQ.out; go_num, by go_num, HLn.out _, HR1.out _, HC.out, HO1.out _, by simp; omega, HB1.out _⟩
      case measure => simp [intOf]; omega
    · obtain rfl : j = n := by omega
      have HC : Hid (∃ M : List Value, wr.heap[g]? = some (.cells M.toArray 9 (0, 0)) ∧ MarksS k j M) := ⟨M, hgr, hc⟩
      have HOt : Hid (∀ b, b ≠ g → b < w.heap.size → wr.heap[b]? = w.heap[b]?) := ho
      have HBl : Hid (∀ B w0, B ≤ g → B ≤ w.heap.size → Below B w0 w → Below B w0 wr) := hbl
      clear hc ho hgr hbl
      go_wp2_with fail
      go_ret
      exact ⟨rfl, HC.out, HOt.out, hsz, HBl.out⟩
set_option maxHeartbeats 2000000 in
set_option maxRecDepth 100000 in
theorem heldStrs (g n c k : Nat) (M : List Value) (w : World) (hn : n ≤ 1048576) (hk0 : 1 ≤ k) (hk : k ≤ 1048577) (hg : w.heap[g]? = some (.cells M.toArray 9 (0, 0))) (hm : MarksS k n M) :
    Calls Tryz.prog 27 #[.slice (some ⟨g, 0, none⟩) n c, .int .i64 (k : Int)] w fun e w' => e = .returned (.int .i64 ((k + n : Nat) : Int)) ∧ Below w.heap.size w w' := by
  have hgl : g < w.heap.size := heap_lt hg
  have HC : Hid (∀ W, Below w.heap.size w W → ∀ i, i < n → W.cell? ⟨g, i, none⟩ = some (.string (mkT (k + i)))) := fun W hW i hi => by
    rw [hW.cell (p := ⟨g, i, none⟩) hgl]
    exact rowFacts hg _ _ (hm i hi)
  clear hg hm
  go_enter Tryz.func27, Tryz.ntmps27
  go_wp2_with fail
  go_loopw [1, 5] (fun q i wr => ∃ j : Nat, j ≤ n ∧ q = .int .i64 ((k + j : Nat) : Int) ∧ i = .int .i64 (j : Int) ∧ Below w.heap.size w wr)
    (fun _ i _ => n - (intOf i).toNat)
  case atStart => exact ⟨0, Nat.zero_le _, by simp, rfl, Below.refl _ _⟩
  case round =>
    obtain ⟨j, hj, rfl, rfl, hbr⟩ := hrel
    by_cases hlt : j < n
    · obtain ⟨q, hq⟩ : ∃ q, q = k + j := ⟨_, rfl⟩
      have c1 := HC.out wr hbr j hlt
      rw [← hq] at c1 ⊢
      have hq1 : 1 ≤ q := by omega
      have hq2 : q ≤ 2100000 := by omega
      have hsr := hbr.size
      have hgr : g < wr.heap.size := by omega
      have HQ : Hid (q = k + j) := hq
      have HMk : Hid (∀ V : World, Hid (Below wr.heap.size wr V) → Calls Tryz.prog 63 #[.int .i64 (q : Int)] V fun e W => e = .returned (.string (mkT q)) ∧ Hid (Below wr.heap.size wr W) ∧ W.cell? ⟨g, j, none⟩ = some (.string (mkT q))) := fun V hV => by
        refine (markText q V hq1 (by omega)).mono ?_
        rintro e W ⟨rfl, hW⟩
        have hB := hV.out.trans (hW.mono hV.out.size)
        exact ⟨rfl, hB, by rw [hB.cell (p := ⟨g, j, none⟩) hgr]; exact c1⟩
      have HBr : Hid (Below w.heap.size w wr) := hbr
      have HD : Hid (Below wr.heap.size wr wr.drew) := (Below.refl _ wr).drew
      have hji : (j : Int) < (n : Int) := by omega
      have hj0 : (0 : Int) ≤ (j : Int) := by omega
      clear hq hbr
      generalize mkT q = u at *
      go_wp2_with fail
      go_region_held3 (fun V => V.cell? ⟨g, j, none⟩ = some (.string u)) (first | exact p0 | go_keep)
        (first | (go_at_call 63; refine (HMk.out _ (by assumption)).mono ?_; rintro r w1 ⟨rfl, kk, p0⟩))
      have HB1 : Hid (Below w.heap.size w w1) := HBr.out.trans (kk.out.mono hsr)
      clear kk HMk HD p0 c1
      go_wp2_with fail
      go_roundw
      case rel => exact ⟨j + 1, by omega, by have := HQ.out; go_num, by go_num, HB1.out⟩
      case measure => simp [intOf]; omega
    · obtain rfl : j = n := by omega
      go_wp2_with fail
      go_ret
      exact ⟨rfl, hbr⟩
end Go.Proofs.YtjbjegmlpjiefaaGreatDoor
namespace Go.Proofs.YtjbjegmlpjiefaaGreatDoor
open Go.RowKit

/-- A row of n texts bears the marks. -/
def MkS (w : World) (v : Value) (n : Nat) : Prop := (n = 0 ∧ ∃ a c, v = .slice a 0 c) ∨ ∃ g cap M, v = .slice (some ⟨g, 0, none⟩) n cap ∧ w.heap[g]? = some (.cells M.toArray 9 (0, 0)) ∧ MarksS 1 n M
theorem MkS.keep {w w' : World} {v : Value} {n : Nat} (h : MkS w v n) (hb : Below w.heap.size w w') : MkS w' v n := by
  rcases h with h | ⟨g, cap, M, e, hg, hm⟩
  · exact .inl h
  · exact .inr ⟨g, cap, M, e, by rw [hb.block g (heap_lt hg)]; exact hg, hm⟩
set_option maxHeartbeats 2000000 in
set_option maxRecDepth 100000 in
theorem markCertC (c : Paper) (v : Value) (l : List ByteArray) (B : Nat) (w : World) (hl : l.length ≤ 1048576) (ho : OwnS w B v l) :
    Calls Tryz.prog 9 #[c.val v, .int .i64 1] w fun e w' => e = .returned (.int .i64 ((1 + l.length : Nat) : Int)) ∧ MkS w' v l.length ∧
      (∀ b, v.ownBlock ≠ some b → b < w.heap.size → w'.heap[b]? = w.heap[b]?) ∧ w.heap.size ≤ w'.heap.size ∧ ∀ B' w0, B' ≤ B → B' ≤ w.heap.size → Below B' w0 w → Below B' w0 w' := by
  obtain ⟨ser, iss, sub, fr, till, key, names, ca, sk, se, ss⟩ := c
  unfold Paper.val
  simp only
  rcases ho.2 with ⟨rfl, h0⟩ | ⟨g, cap, cur, rfl, hBg, hg, hnc, hcm, hcs, ht⟩
  · rw [h0]
    have HMk : Hid (∀ V : World, Calls Tryz.prog 26 #[.slice none 0 0, .int .i64 1] V fun e w' => e = .returned (.int .i64 1) ∧ w' = V) := fun V => by
      go_enter Tryz.func26, Tryz.ntmps26
      go_wp2_with fail
      refine wp_loop_rounds 1 ?_
      rw [rounds_succ]
      go_wp2_with fail
      go_ret
      exact ⟨rfl, rfl⟩
    clear ho h0
    go_enter Tryz.func9, Tryz.ntmps9
    go_wp2_with fail
    refine (HMk.out _).mono ?_
    rintro e w1 ⟨rfl, rfl⟩
    go_wp2_with fail
    go_ret
    refine ⟨rfl, .inl ⟨rfl, _, _, rfl⟩, fun b _ hb => Below.heap_alloc _ _ _ hb, by simp, fun B' w0 _ h2 h3 => h3.alloc h2 _⟩
  · have hgl : g < w.heap.size := heap_lt hg
    have HMk : Hid (∀ o, Calls Tryz.prog 26 #[.slice (some ⟨g, 0, none⟩) l.length cap, .int .i64 1] (w.alloc o) fun e w' => e = .returned (.int .i64 ((1 + l.length : Nat) : Int)) ∧ (∃ M, w'.heap[g]? = some (.cells M.toArray 9 (0, 0)) ∧ MarksS 1 l.length M) ∧
        (∀ b, b ≠ g → b < w.heap.size + 1 → w'.heap[b]? = (w.alloc o).heap[b]?) ∧ w.heap.size ≤ w'.heap.size ∧ ∀ B w0, B ≤ g → B ≤ w.heap.size + 1 → Below B w0 (w.alloc o) → Below B w0 w') := fun o => by
      refine (markStrs g l.length cap 1 cur.toList (w.alloc o) hl (by omega) (by omega) ?_ ?_).mono ?_
      · simp only [Array.length_toList, hcs]; omega
      · rw [Below.heap_alloc _ _ _ hgl]; simpa using hg
      · rintro e w' ⟨he, h1, h2, h3, h4⟩
        have hsz : (w.alloc o).heap.size = w.heap.size + 1 := by simp
        exact ⟨he, h1, fun b hb hb2 => h2 b hb (by omega), by omega, fun B w0 hB1 hB2 hB3 => h4 B w0 hB1 (by omega) hB3⟩
    obtain ⟨n, hn⟩ : ∃ n, n = l.length := ⟨_, rfl⟩
    rw [← hn] at hl HMk ⊢
    clear ho hg ht hcs hcm hnc hn
    go_enter Tryz.func9, Tryz.ntmps9
    go_wp2_with fail
    refine (HMk.out _).mono ?_
    rintro e w1 ⟨rfl, ⟨M, hM, hMk⟩, h2, h3, h4⟩
    have HM : Hid (w1.heap[g]? = some (.cells M.toArray 9 (0, 0)) ∧ MarksS 1 n M) := ⟨hM, hMk⟩
    have H2 : Hid (∀ b, b ≠ g → b < w.heap.size → w1.heap[b]? = w.heap[b]?) := fun b hb hl => by
      rw [h2 b hb (by omega)]; exact Below.heap_alloc _ _ _ hl
    have H4 : Hid (∀ B' w0, B' ≤ B → B' ≤ w.heap.size → Below B' w0 w → Below B' w0 w1) := fun B' w0 hB1 hB2 hB3 => h4 B' w0 (by omega) (by omega) (hB3.alloc hB2 _)
    clear hM hMk h2 h4 HMk
    go_wp2_with fail
    go_ret
    refine ⟨rfl, .inr ⟨g, cap, M, rfl, HM.out.1, HM.out.2⟩, fun b hb hl => H2.out b (fun e => hb (by rw [e]; rfl)) hl, h3, H4.out⟩
set_option maxHeartbeats 1000000 in
set_option maxRecDepth 100000 in
theorem heldCertC (c : Paper) (v : Value) (n : Nat) (w : World) (hl : n ≤ 1048576) (hm : MkS w v n) :
    Calls Tryz.prog 10 #[c.val v, .int .i64 1] w fun e w' => e = .returned (.int .i64 ((1 + n : Nat) : Int)) ∧ Below w.heap.size w w' := by
  obtain ⟨ser, iss, sub, fr, till, key, names, ca, sk, se, ss⟩ := c
  unfold Paper.val
  simp only
  rcases hm with ⟨rfl, a, c, rfl⟩ | ⟨g, cap, M, rfl, hg, hm⟩
  · have HMk : Hid (∀ V : World, Calls Tryz.prog 27 #[.slice a 0 c, .int .i64 1] V fun e w' => e = .returned (.int .i64 1) ∧ w' = V) := fun V => by
      go_enter Tryz.func27, Tryz.ntmps27
      go_wp2_with fail
      refine wp_loop_rounds 1 ?_
      rw [rounds_succ]
      go_wp2_with fail
      go_ret
      exact ⟨rfl, rfl⟩
    go_enter Tryz.func10, Tryz.ntmps10
    go_wp2_with fail
    refine (HMk.out _).mono ?_
    rintro e w1 ⟨rfl, rfl⟩
    go_wp2_with fail
    go_ret
    exact ⟨rfl, (Below.refl _ _).alloc (Nat.le_refl _) _⟩
  · have hgl : g < w.heap.size := heap_lt hg
    have HMk : Hid (∀ o, Calls Tryz.prog 27 #[.slice (some ⟨g, 0, none⟩) n cap, .int .i64 1] (w.alloc o) fun e w' => e = .returned (.int .i64 ((1 + n : Nat) : Int)) ∧ Below (w.alloc o).heap.size (w.alloc o) w') := fun o =>
      heldStrs g n cap 1 M (w.alloc o) hl (by omega) (by omega) (by rw [Below.heap_alloc _ _ _ hgl]; exact hg) hm
    clear hg hm
    obtain ⟨m, hmm⟩ : ∃ m, m = 1 + n := ⟨_, rfl⟩
    rw [← hmm] at HMk ⊢
    have hm1 : 1 ≤ m := by omega
    clear hmm
    go_enter Tryz.func10, Tryz.ntmps10
    go_wp2_with fail
    refine (HMk.out _).mono ?_
    rintro e w1 ⟨rfl, hb1⟩
    have HB : Hid (Below w.heap.size w w1) := ((Below.refl _ w).alloc (Nat.le_refl _) _).trans (hb1.mono (by simp))
    clear hb1 HMk
    go_wp2_with fail
    go_ret
    exact ⟨rfl, HB.out⟩
end Go.Proofs.YtjbjegmlpjiefaaGreatDoor
namespace Go.Proofs.YtjbjegmlpjiefaaGreatDoor
open Go.ChangeShapes Go.WideShapes Go.ChangeAt Go.RowKit

theorem key_gv : Tryz.prog.globalNamed "loop.example/g00371/impl.roundNumbers" = some 0 := by kernel_rfl
theorem key_gt : (Tryz.prog.globals[0]?).map (·.type) = some 124 := by kernel_rfl
theorem key_c : Tryz.prog.cellsOf 92 = 1 := by kernel_rfl
theorem keyLaid {H : Type} : (Rows.laid_loop_example_g00371_impl_roundNumbers : DataW H) = .agg (keyL.map fun n : Nat => .lit (.int .u32 (n : Int))) := rfl
theorem key_num (k : Nat) (h : k < 64) : ((keyL.getD k 0 : Nat) : Int) = uI (kAt k) := by
  have hl : k < keyL.length := h
  have hb : ∀ n ∈ keyL, n < 4294967296 := by decide
  have := hb _ (List.getElem_mem hl)
  unfold kAt uI
  rw [BitVec.toNat_ofNat, List.getD, List.getElem?_eq_getElem hl]
  simp only [Option.getD_some]
  rw [Nat.mod_eq_of_lt (by simpa using this)]
theorem keys_of_trod {W : World} {enc : TypeId × Value → Unit} {base g0 : Nat} {sp : Nat → Bool} {t0 : TypeId} {cs0 : Array Value} {f0 : Nat} {p0 : List MemPlace}
    (hg0 : Tryz.prog.globalNamed "loop.example/g00371/impl.roundNumbers" = some g0) (ht0 : (Tryz.prog.globals[g0]?).map (·.type) = some t0) (hv0 : W.var? Tryz.prog "loop.example/g00371/impl.roundNumbers" = some cs0)
    (hd0 : DataW.trod enc Tryz.prog W base sp false f0 t0 cs0.toList = some (Rows.laid_loop_example_g00371_impl_roundNumbers, p0)) : Keys W := by
  obtain rfl := Option.some.inj (key_gv.symm.trans hg0)
  obtain rfl := Option.some.inj (key_gt.symm.trans ht0)
  obtain ⟨xs, m1, rfl, hx1, hlen, hn, hel⟩ := DataW.trod_array Tryz.underlying124 hd0
  rw [keyLaid] at hx1
  simp only [Prod.mk.injEq, DataW.agg.injEq] at hx1
  intro i hi
  have h1 := hel i hi
  have hxi : i < xs.length := by omega
  rw [List.getElem?_eq_getElem hxi] at h1
  obtain ⟨k, e1, e2, _⟩ := DataW.trod_int Tryz.underlying92 h1
  have h2 : xs[i].1 = .lit (.int .u32 (uI (kAt i))) := by
    have h3 : (xs.map (·.1))[i]? = (keyL.map fun n : Nat => DataW.lit (.int .u32 (n : Int)))[i]? := by rw [← hx1.1]
    rw [List.getElem?_map, List.getElem?_map, List.getElem?_eq_getElem hxi, List.getElem?_eq_getElem (show i < keyL.length from hi)] at h3
    have h4 : xs[i].1 = _ := Option.some.inj h3
    rw [h4, ← key_num i hi, List.getD, List.getElem?_eq_getElem (show i < keyL.length from hi)]
    rfl
  rw [e2] at h2
  have hk : k = uI (kAt i) := by simpa using h2
  subst hk
  have hc := World.var?_cell hg0 hv0 i
  rw [hc]
  rw [key_c, Nat.mul_one] at e1
  have h5 := congrArg (fun l => l[0]?) e1
  simp only [List.getElem?_take, List.getElem?_drop] at h5
  simpa using h5
theorem keys_of_laid {W : World} (h : laidMetH Tryz.prog [("loop.example/g00371/impl.roundNumbers", Rows.laid_loop_example_g00371_impl_roundNumbers)] W) : Keys W := by
  rw [MakeChecks.laidMetH_plain _ _ _ (by kernel_rfl)] at h
  obtain ⟨ps, ⟨g0, t0, cs0, f0, p0, q0, hg0, ht0, hv0, hd0, _⟩, _⟩ := h
  exact keys_of_trod hg0 ht0 hv0 hd0
end Go.Proofs.YtjbjegmlpjiefaaGreatDoor
namespace Go.Proofs.YtjbjegmlpjiefaaGreatDoor
open Go.RowKit

theorem szR_no {ss : List ByteArray} {left : Int} (h : left < (ss.length : Int) + totS ss ss.length) : szR ss left = -1 := if_neg (by omega)
set_option maxHeartbeats 1000000 in
set_option maxRecDepth 100000 in
theorem szStrs (a : Option Addr) (ss : List ByteArray) (c : Nat) (left : Int) (w : World) (hl : ss.length ≤ maxLen) (hs : ∀ s ∈ ss, s.size ≤ maxLen) (h0 : 0 ≤ left) (h1 : left ≤ 1048576) (ha : IsStrs w a ss) :
    Calls Tryz.prog 11 #[.slice a ss.length c, .int .i64 left] w fun e w' => e = .returned (.int .i64 (szR ss left)) ∧ Below w.heap.size w w' := by
  unfold maxLen at hl
  have HSz : Hid (∀ k, k < ss.length → (tAt ss k).size ≤ 9223372036854775807) := fun k hk => by
    have := hs (ss[k]) (List.getElem_mem hk)
    unfold maxLen at this
    rw [tAt, List.getD, List.getElem?_eq_getElem hk]
    simpa using this
  clear hs
  by_cases hfit : left < (ss.length : Int)
  · have HF : Hid (szR ss left = -1) := szR_no (by omega)
    go_enter Tryz.func11, Tryz.ntmps11
    go_wp2
    go_ret
    exact ⟨by rw [HF.out]; rfl, Below.refl _ _⟩
  · go_enter Tryz.func11, Tryz.ntmps11
    go_wp2
    go_loopw [1, 5] (fun l i wr => ∃ k : Nat, k ≤ ss.length ∧ i = .int .i64 k ∧ (totS ss k : Int) ≤ left - ss.length ∧ l = .int .i64 (left - ss.length - totS ss k) ∧ Below w.heap.size w wr) (fun _ i _ => ss.length - (intOf i).toNat)
    case atStart => exact ⟨0, Nat.zero_le _, rfl, by show (0 : Int) ≤ _; omega, by simp [totS], Below.refl _ _⟩
    case round =>
      obtain ⟨k, hk, rfl, ht, rfl, hbr⟩ := hrel
      by_cases hlt : k < ss.length
      · obtain ⟨x, o, rfl, hc⟩ : ∃ x o, a = some ⟨x, o, none⟩ ∧ ∀ i, i < ss.length → wr.cell? ⟨x, o + i, none⟩ = some (.string (tAt ss i)) := by
          rcases ha.below hbr ha.lt with rfl | h
          · simp at hlt
          · exact h
        have hck := hc k hlt
        have hz := HSz.out k hlt
        have e1 : totS ss (k + 1) = totS ss k + (tAt ss k).size := rfl
        have HN : Hid (left - ss.length - totS ss k < (tAt ss k).size → szR ss left = -1) := fun h => szR_no (by have := totS_mono ss (show k + 1 ≤ ss.length by omega); omega)
        have HB : Hid (Below w.heap.size w wr) := hbr
        have HE : Hid (totS ss (k + 1) = totS ss k + (tAt ss k).size) := e1
        obtain ⟨m, hm⟩ : ∃ m : Int, m = left - ss.length - totS ss k := ⟨_, rfl⟩
        rw [← hm] at HN ⊢
        have HM : Hid (m = left - ss.length - totS ss k) := hm
        have hm0 : 0 ≤ m := by omega
        have hm1 : m ≤ 1048576 := by omega
        have hk1 : k < 1048576 := by omega
        generalize tAt ss k = z at *
        generalize hn : ss.length = n at *
        have HNn : Hid (ss.length = n) := hn
        clear hc ha hbr hn e1 hm ht hl h0 h1 hfit
        by_cases hlast : m < (z.size : Int)
        · have HF : Hid (szR ss left = -1) := HN.out hlast
          go_wp2
          go_ret
          exact ⟨by rw [HF.out]; rfl, HB.out⟩
        · go_wp2
          go_roundw
          case rel => exact ⟨k + 1, by have := HNn.out; omega, by go_num, by have := HE.out; have := HM.out; have := HNn.out; omega, by congr 1; have := HE.out; have := HM.out; have := HNn.out; omega, HB.out⟩
          case measure => have := HNn.out; simp [intOf]; omega
      · obtain rfl : k = ss.length := by omega
        have HF : Hid (szR ss left = left - ss.length - totS ss ss.length) := if_pos (by omega)
        have HB : Hid (Below w.heap.size w wr) := hbr
        clear hbr ha
        go_wp2
        go_ret
        exact ⟨by rw [HF.out]; rfl, HB.out⟩
end Go.Proofs.YtjbjegmlpjiefaaGreatDoor
namespace Go.Proofs.YtjbjegmlpjiefaaGreatDoor
open Go.RowKit

theorem szR_some {ss : List ByteArray} {left : Int} (h : 0 ≤ szR ss left) : (ss.length : Int) + totS ss ss.length ≤ left := by
  unfold szR at h
  split at h
  · assumption
  · omega
theorem szR_neg {ss : List ByteArray} {left : Int} : -1 ≤ szR ss left := by
  unfold szR
  split <;> omega
theorem szR_le {ss : List ByteArray} {left : Int} (h : -1 ≤ left) : szR ss left ≤ left := by
  unfold szR
  split <;> omega
end Go.Proofs.YtjbjegmlpjiefaaGreatDoor
namespace Go.Proofs.YtjbjegmlpjiefaaGreatDoor
open Go.RowKit

/-- How large a paper is. -/
def Paper.Small (c : Paper) : Prop := c.issuer.size ≤ 1048576 ∧ c.subject.size ≤ 1048576 ∧ c.names.length ≤ 1048576 ∧ totS c.names c.names.length ≤ 1048576
set_option maxHeartbeats 2000000 in
set_option maxRecDepth 100000 in
theorem szCert (c : Paper) (a : Option Addr) (cap : Nat) (w : World) (hi : c.issuer.size ≤ maxLen) (hs : c.subject.size ≤ maxLen) (hl : c.names.length ≤ maxLen) (ht : ∀ s ∈ c.names, s.size ≤ maxLen) (ha : IsStrs w a c.names) :
    Calls Tryz.prog 4 #[c.val (.slice a c.names.length cap), .int .i64 1048576] w fun e w' => ∃ x : Int, e = .returned (.int .i64 x) ∧ (x < 0 ∨ c.Small) ∧ -1 ≤ x ∧ x ≤ 1048576 ∧ Below w.heap.size w w' := by
  have HSm : Hid (c.issuer.size ≤ 1048576 → c.subject.size ≤ 1048576 → c.names.length + totS c.names c.names.length ≤ 1048576 → c.Small) := fun h1 h2 h3 => ⟨h1, h2, by omega, by omega⟩
  obtain ⟨ser, iss, sub, fr, till, key, names, ca, sk, se, ss⟩ := c
  simp only at hi hs hl ht ha HSm
  generalize Paper.Small ⟨ser, iss, sub, fr, till, key, names, ca, sk, se, ss⟩ = Sm at *
  unfold Paper.val
  simp only
  have HZ : Hid (∀ V (left : Int), IsStrs V a names → 0 ≤ left → left ≤ 1048576 → Calls Tryz.prog 11 #[.slice a names.length cap, .int .i64 left] V fun e w' => e = .returned (.int .i64 (szR names left)) ∧ Below V.heap.size V w') := fun V left hV h0 h1 => szStrs a names cap left V hl ht h0 h1 hV
  obtain ⟨nl, hnl⟩ : ∃ nl, nl = names.length := ⟨_, rfl⟩
  rw [← hnl] at HZ HSm ⊢
  have HNl : Hid (nl = names.length) := hnl
  clear hnl
  obtain ⟨w1, hw1⟩ : ∃ w1, w1 = w.alloc (.cells #[.int .i64 ser, .string iss, .string sub, .int .i64 fr, .int .i64 till, .int .i64 key, .slice a nl cap, .bool ca, .int .i64 sk, .int .i64 se, .int .i64 ss] 26 (0, 0)) := ⟨_, rfl⟩
  have hrow : w1.heap[w.heap.size]? = some (.cells [Value.int .i64 ser, .string iss, .string sub, .int .i64 fr, .int .i64 till, .int .i64 key, .slice a nl cap, .bool ca, .int .i64 sk, .int .i64 se, .int .i64 ss].toArray 26 (0, 0)) := by rw [hw1]; exact heap_alloc_new w _
  have B1 : Hid (Below w.heap.size w w1) := by rw [hw1]; exact (Below.refl _ _).alloc (Nat.le_refl _) _
  have A1 : Hid (IsStrs w1 a names) := ha.keep B1.out
  have c1 := rowFacts hrow 1 _ rfl
  have c2 := rowFacts hrow 2 _ rfl
  have c6 := rowFacts hrow 6 _ rfl
  unfold maxLen at hi hs
  clear hrow ha hl ht
  go_enter Tryz.func4, Tryz.ntmps4
  go_upto_region 1 with fail
  rw [← hw1]
  clear hw1
  by_cases h1 : 1048576 < iss.size
  · go_wp2
    go_ret
    exact ⟨_, rfl, .inl (by omega), by omega, by omega, B1.out⟩
  by_cases h2 : 1048576 - iss.size < sub.size
  · go_wp2
    go_ret
    exact ⟨_, rfl, .inl (by omega), by omega, by omega, B1.out⟩
  obtain ⟨l2, hl2⟩ : ∃ l2 : Int, l2 = 1048576 - (iss.size : Int) - (sub.size : Int) := ⟨_, rfl⟩
  have hl20 : 0 ≤ l2 := by omega
  have hl21 : l2 ≤ 1048576 := by omega
  have HL2 : Hid (l2 = 1048576 - (iss.size : Int) - (sub.size : Int)) := hl2
  go_upto_region 7 with fail
  rw [← hl2]
  clear hl2
  go_wp2_with fail
  refine (HZ.out _ l2 A1.out hl20 hl21).mono ?_
  rintro e w2 ⟨rfl, b2⟩
  have B2 : Hid (Below w.heap.size w w2) := B1.out.trans (b2.mono B1.out.size)
  have g1 := szR_neg (ss := names) (left := l2)
  have g2 := szR_le (ss := names) (left := l2) (by omega)
  have HG : Hid (0 ≤ szR names l2 → Sm) := fun h => by
    have := szR_some h
    have := HL2.out
    have := HNl.out
    exact HSm.out (by omega) (by omega) (by rw [HNl.out]; omega)
  generalize szR names l2 = q at *
  clear b2 HZ HSm
  by_cases hq : q < 0
  · go_wp2
    go_ret
    exact ⟨_, rfl, .inl (by omega), by omega, by omega, B2.out⟩
  · have HSm : Hid Sm := HG.out (by omega)
    go_wp2
    go_ret
    exact ⟨_, rfl, .inr HSm.out, by omega, by omega, B2.out⟩
end Go.Proofs.YtjbjegmlpjiefaaGreatDoor
namespace Go.Proofs.YtjbjegmlpjiefaaGreatDoor
open Go.RowKit

set_option maxHeartbeats 1000000 in
set_option maxRecDepth 100000 in
theorem eqStrs (a b : Option Addr) (zs : List ByteArray) (c d : Nat) (w : World) (hl : zs.length ≤ 2000000) (ha : IsStrs w a zs) (hb : IsStrs w b zs) :
    Calls Tryz.prog 24 #[.slice a zs.length c, .slice b zs.length d] w fun e w' => e = .returned (.bool true) ∧ Below w.heap.size w w' := by
  go_enter Tryz.func24, Tryz.ntmps24
  go_wp2
  go_loopw [5] (fun i wr => ∃ k : Nat, k ≤ zs.length ∧ i = .int .i64 k ∧ Below w.heap.size w wr) (fun i _ => zs.length - (intOf i).toNat)
  case atStart => exact ⟨0, Nat.zero_le _, rfl, Below.refl _ _⟩
  case round =>
    obtain ⟨k, hk, rfl, hbr⟩ := hrel
    by_cases hlt : k < zs.length
    · obtain ⟨x, o, rfl, hc⟩ : ∃ x o, a = some ⟨x, o, none⟩ ∧ ∀ i, i < zs.length → wr.cell? ⟨x, o + i, none⟩ = some (.string (tAt zs i)) := by
        rcases ha.below hbr ha.lt with rfl | h
        · simp at hlt
        · exact h
      obtain ⟨y, p, rfl, hd⟩ : ∃ x o, b = some ⟨x, o, none⟩ ∧ ∀ i, i < zs.length → wr.cell? ⟨x, o + i, none⟩ = some (.string (tAt zs i)) := by
        rcases hb.below hbr hb.lt with rfl | h
        · simp at hlt
        · exact h
      have hck := hc k hlt
      have hdk := hd k hlt
      have HB : Hid (Below w.heap.size w wr) := hbr
      generalize tAt zs k = z at hck hdk
      generalize hn : zs.length = n at *
      clear hc hd ha hb hbr hn
      go_wp2
      go_quiet (fail)
      go_wp2
      go_roundw
      case rel => exact ⟨k + 1, by omega, by go_num, below_drewN HB.out _⟩
      case measure => simp [intOf]; omega
    · go_wp2
      go_ret
      exact ⟨rfl, hbr⟩
end Go.Proofs.YtjbjegmlpjiefaaGreatDoor
namespace Go.Proofs.YtjbjegmlpjiefaaGreatDoor
open Go.RowKit

set_option maxHeartbeats 1000000 in
set_option maxRecDepth 100000 in
theorem eqSig (k e s : Int) (w : World) :
    Calls Tryz.prog 25 #[.agg #[.int .i64 k, .int .i64 e, .int .i64 s], .agg #[.int .i64 k, .int .i64 e, .int .i64 s]] w fun r w' => r = .returned (.bool true) ∧ Below w.heap.size w w' := by
  go_enter Tryz.func25, Tryz.ntmps25
  go_wp2
  go_ret
  exact ⟨rfl, (allocBelow w _).alloc (by simp) _⟩
end Go.Proofs.YtjbjegmlpjiefaaGreatDoor
namespace Go.Proofs.YtjbjegmlpjiefaaGreatDoor
open Go.RowKit

set_option maxHeartbeats 2000000 in
set_option maxRecDepth 100000 in
theorem eqCert (c : Paper) (a b : Option Addr) (ca1 cb : Nat) (w : World) (hl : c.names.length ≤ 1048576) (ha : IsStrs w a c.names) (hb : IsStrs w b c.names) :
    Calls Tryz.prog 8 #[c.val (.slice a c.names.length ca1), c.val (.slice b c.names.length cb)] w fun e w' => e = .returned (.bool true) ∧ Below w.heap.size w w' := by
  obtain ⟨ser, iss, sub, fr, till, key, names, ca, sk, se, ss⟩ := c
  simp only at hl ha hb
  unfold Paper.val
  simp only
  have HE : Hid (∀ V, IsStrs V a names → IsStrs V b names → Calls Tryz.prog 24 #[.slice a names.length ca1, .slice b names.length cb] V fun e w' => e = .returned (.bool true) ∧ Below V.heap.size V w') := fun V h1 h2 => eqStrs a b names ca1 cb V (by omega) h1 h2
  generalize names.length = nl at *
  obtain ⟨w0, hw0⟩ : ∃ w0, w0 = w.alloc (.cells #[.int .i64 ser, .string iss, .string sub, .int .i64 fr, .int .i64 till, .int .i64 key, .slice a nl ca1, .bool ca, .int .i64 sk, .int .i64 se, .int .i64 ss] 30 (0, 0)) := ⟨_, rfl⟩
  obtain ⟨w1, hw1⟩ : ∃ w1, w1 = w0.alloc (.cells #[.int .i64 ser, .string iss, .string sub, .int .i64 fr, .int .i64 till, .int .i64 key, .slice b nl cb, .bool ca, .int .i64 sk, .int .i64 se, .int .i64 ss] 30 (0, 0)) := ⟨_, rfl⟩
  have z0 : w0.heap.size = w.heap.size + 1 := by rw [hw0]; simp
  have r1 : w1.heap[w.heap.size + 1]? = some (.cells [Value.int .i64 ser, .string iss, .string sub, .int .i64 fr, .int .i64 till, .int .i64 key, .slice b nl cb, .bool ca, .int .i64 sk, .int .i64 se, .int .i64 ss].toArray 30 (0, 0)) := by rw [hw1, ← z0]; exact heap_alloc_new w0 _
  have r0 : w1.heap[w.heap.size]? = some (.cells [Value.int .i64 ser, .string iss, .string sub, .int .i64 fr, .int .i64 till, .int .i64 key, .slice a nl ca1, .bool ca, .int .i64 sk, .int .i64 se, .int .i64 ss].toArray 30 (0, 0)) := by rw [hw1, Below.heap_alloc _ _ _ (by omega), hw0]; exact heap_alloc_new w _
  have B1 : Hid (Below w.heap.size w w1) := by rw [hw1, hw0]; exact ((Below.refl _ _).alloc (Nat.le_refl _) _).alloc (by simp) _
  have A1 : Hid (IsStrs w1 a names) := ha.keep B1.out
  have A2 : Hid (IsStrs w1 b names) := hb.keep B1.out
  have c0 := rowFacts r0 0 _ rfl
  have d0 := rowFacts r1 0 _ rfl
  have c1 := rowFacts r0 1 _ rfl
  have d1 := rowFacts r1 1 _ rfl
  have c2 := rowFacts r0 2 _ rfl
  have d2 := rowFacts r1 2 _ rfl
  have c3 := rowFacts r0 3 _ rfl
  have d3 := rowFacts r1 3 _ rfl
  have c4 := rowFacts r0 4 _ rfl
  have d4 := rowFacts r1 4 _ rfl
  have c5 := rowFacts r0 5 _ rfl
  have d5 := rowFacts r1 5 _ rfl
  have c6 := rowFacts r0 6 _ rfl
  have d6 := rowFacts r1 6 _ rfl
  have c7 := rowFacts r0 7 _ rfl
  have d7 := rowFacts r1 7 _ rfl
  have c8 := rowFacts r0 8 _ rfl
  have d8 := rowFacts r1 8 _ rfl
  have c9 := rowFacts r0 9 _ rfl
  have d9 := rowFacts r1 9 _ rfl
  have c10 := rowFacts r0 10 _ rfl
  have d10 := rowFacts r1 10 _ rfl
  have R0 : Hid (w.heap.size < w1.heap.size) := heap_lt r0
  have R1 : Hid (w.heap.size + 1 < w1.heap.size) := heap_lt r1
  rw [hw0] at hw1
  clear r0 r1 ha hb hw0 z0
  go_enter Tryz.func8, Tryz.ntmps8
  go_upto_region 1 with fail
  rw [← hw1]
  clear hw1
  go_wp2_with fail
  refine (HE.out _ A1.out A2.out).mono ?_
  rintro e w2 ⟨rfl, b2⟩
  have B2 : Hid (Below w.heap.size w w2) := B1.out.trans (b2.mono B1.out.size)
  have e7 := (b2.cell (p := ⟨w.heap.size, 7, none⟩) R0.out).trans c7
  have f7 := (b2.cell (p := ⟨w.heap.size + 1, 7, none⟩) R1.out).trans d7
  have e8 := (b2.cell (p := ⟨w.heap.size, 8, none⟩) R0.out).trans c8
  have f8 := (b2.cell (p := ⟨w.heap.size + 1, 8, none⟩) R1.out).trans d8
  have e9 := (b2.cell (p := ⟨w.heap.size, 9, none⟩) R0.out).trans c9
  have f9 := (b2.cell (p := ⟨w.heap.size + 1, 9, none⟩) R1.out).trans d9
  have e10 := (b2.cell (p := ⟨w.heap.size, 10, none⟩) R0.out).trans c10
  have f10 := (b2.cell (p := ⟨w.heap.size + 1, 10, none⟩) R1.out).trans d10
  clear b2 B1 A1 A2 HE R0 R1 c0 d0 c1 d1 c2 d2 c3 d3 c4 d4 c5 d5 c6 d6 c7 d7 c8 d8 c9 d9 c10 d10
  go_wp2_with fail
  refine (eqSig sk se ss _).mono ?_
  rintro e w3 ⟨rfl, b3⟩
  have B3 : Hid (Below w.heap.size w w3) := B2.out.trans (b3.mono B2.out.size)
  clear b3 B2
  go_wp2
  go_ret
  exact ⟨rfl, B3.out⟩
end Go.Proofs.YtjbjegmlpjiefaaGreatDoor
namespace Go.Proofs.YtjbjegmlpjiefaaGreatDoor
open Go.RowKit Go.WideShapes Go.ChangeShapes Go.Deep

theorem cellsInt : Tryz.prog.cellsOf 2 = 1 := by kernel_rfl
theorem cellsStr : Tryz.prog.cellsOf 9 = 1 := by kernel_rfl
theorem cellsStrs : Tryz.prog.cellsOf 22 = 1 := by kernel_rfl
theorem cellsBool : Tryz.prog.cellsOf 4 = 1 := by kernel_rfl
theorem cellsSig : Tryz.prog.cellsOf 24 = 3 := by kernel_rfl
theorem open_names {H : Type} {enc : TypeId × Value → H} {W : World} {base : Nat} {spare : Nat → Bool} {held : Bool} {n : Nat} {v : Value} {x : DataW H × List MemPlace} (h : DataW.trod enc Tryz.prog W base spare held n 22 [v] = some x) :
    ∃ (a : Option Addr) (ss : List ByteArray) (cap : Nat), v = .slice a ss.length cap ∧ IsStrs W a ss ∧ ss.length ≤ maxLen ∧ ∀ s ∈ ss, s.size ≤ maxLen := by
  rcases open_strings Tryz.underlying22 Tryz.underlying9 cellsStr h with ⟨hcs, _⟩ | ⟨x, len, cap, ss, hcs, _, hl, hm, hz, _, hcell, hws⟩
  · exact ⟨none, [], 0, (List.cons.inj hcs).1, .inl rfl, Nat.zero_le _, fun s hs => by cases hs⟩
  · have hle : len ≤ ss.length := by rw [hz]; split <;> omega
    have hlen : (ss.take len).length = len := by rw [List.length_take]; omega
    refine ⟨some x, ss.take len, cap, by rw [hlen]; exact (List.cons.inj hcs).1, ?_, by rw [hlen]; omega, fun s hs => hws s (List.mem_of_mem_take hs)⟩
    by_cases h0 : len = 0
    · exact .inl (by simp [h0])
    obtain ⟨b, off, spot⟩ := x
    have hc0 := hcell 0 (by omega)
    have hspot : spot = none := by simpa [Addr.add] using World.cell?_spot hc0
    subst hspot
    refine .inr ⟨b, off, rfl, fun i hi => ?_⟩
    rw [hlen] at hi
    have h1 := hcell i (by omega)
    rw [Addr.add_lit] at h1
    rw [h1, tAt, List.getD, List.getD, List.getElem?_take, if_pos hi]
/-- What is known of texts that came in. -/
structure CameT (W : World) (a : Option Addr) (ss : List ByteArray) : Prop where
  strs : IsStrs W a ss
  len : ss.length ≤ maxLen
  each : ∀ s ∈ ss, s.size ≤ maxLen
set_option maxRecDepth 100000 in
theorem openTexts {H : Type} {enc : TypeId × Value → H} {W : World} {base b0 : Nat} {r : Reach} {spare : Nat → Bool} {held : Bool} {v : Value} {d : DataW H} {p : List MemPlace}
    (hv : Value.okWide Tryz.prog W r b0 22 v) (h : DataW.Trod enc Tryz.prog W base spare held 22 v d p) :
    ∃ (a : Option Addr) (ss : List ByteArray) (cap : Nat), v = .slice a ss.length cap ∧ CameT W a ss := by
  obtain ⟨a, len, cap, rfl⟩ := okWide_slice Tryz.underlying22 hv
  obtain ⟨fuel, hf⟩ := h
  obtain ⟨a', ss, cap', e, h1, h2, h3⟩ := open_names (v := .slice a len cap) hf
  exact ⟨a', ss, cap', e, ⟨h1, h2, h3⟩⟩
end Go.Proofs.YtjbjegmlpjiefaaGreatDoor
