/- Arcs read back, as both read them. Plain mathematics: no program is named here. impl.getSevens, walked. impl.readArcs, walked. impl.DerOidRead, walked. spec.l05Seven, walked. -/
import Derived.Test.YtjllcflnmopnpaaDoorM06
import Derived.Lib.Strings
import Derived.OwnWalk
import Derived.Test.YtjllcflnmopnpaaDoorM02
import Derived.Test.YtjllcflnmopnpaaDoorM03
import Derived.Test.YtjllcflnmopnpaaDoorM01
import Derived.Test.YtjllcflnmopnpaaDoorM05
namespace Go.Proofs.YtjllcflnmopnpaaDoor
open Go.RowKit

/-- Arcs behind the first two in bytes. -/
def flatL (xs : List Int) : List Int := xs.flatMap fun x => sevL x.toNat
theorem flatL_cons (x : Int) (xs : List Int) : flatL (x :: xs) = sevL x.toNat ++ flatL xs := rfl
theorem flatL_len : ∀ xs : List Int, xs.length ≤ (flatL xs).length
  | [] => Nat.le_refl _
  | x :: xs => by
    have := sevL_pos x.toNat
    have := flatL_len xs
    rw [flatL_cons, List.length_append, List.length_cons]; omega
theorem flatL_snoc (x : Int) (xs : List Int) : flatL (xs ++ [x]) = flatL xs ++ sevL x.toNat := by simp [flatL]
theorem oidTo_flat (a b : Int) (xs : List Int) : ∀ k, k ≤ xs.length → oidTo (a :: b :: xs) k = sevL (40 * a + b).toNat ++ flatL (xs.take k)
  | 0, _ => by simp [oidTo, flatL]
  | k + 1, hk => by
    rw [oidTo, oidTo_flat a b xs k (by omega), List.take_succ_eq_append_getElem (by omega), flatL_snoc, List.append_assoc]
    congr 2
    simp [List.getD, List.getElem?_eq_getElem (show k < xs.length by omega)]
theorem oidL_flat (a b : Int) (xs : List Int) : oidL (a :: b :: xs) = sevL (40 * a + b).toNat ++ flatL xs := by
  have h := oidTo_flat a b xs xs.length (Nat.le_refl _)
  rw [List.take_length] at h
  rw [← h]; rfl
theorem restQ_nil (f : Nat) (acc : List Int) : restQ f [] acc = some acc := by cases f <;> rfl
theorem restQ_some {f : Nat} {l : List Nat} {acc : List Int} {n : Nat} {t : List Nat} (h : sevQ true 0 l = some (n, t)) : restQ (f + 1) l acc = restQ f t (acc ++ [(n : Int)]) := by
  cases l with
  | nil => simp [sevQ] at h
  | cons b r => rw [restQ]; simp only [h]
theorem restQ_none {f : Nat} {l : List Nat} {acc : List Int} (hl : l ≠ []) (h : sevQ true 0 l = none) : restQ (f + 1) l acc = none := by
  cases l with
  | nil => exact absurd rfl hl
  | cons b r => rw [restQ]; simp only [h]
theorem restQ_full : ∀ (xs : List Int) (acc : List Int) (f : Nat), (∀ x ∈ xs, 0 ≤ x ∧ x ≤ 2147483647) → xs.length ≤ f → restQ f (nats (flatL xs)) acc = some (acc ++ xs)
  | [], acc, f, _, _ => by rw [show nats (flatL []) = [] from rfl, restQ_nil]; simp
  | x :: xs, acc, f, hb, hf => by
    obtain ⟨g, rfl⟩ : ∃ g, f = g + 1 := ⟨f - 1, by simp at hf; omega⟩
    have hx := hb x (by simp)
    rw [flatL_cons, nats_append, restQ_some (sevQ_full (x := x.toNat) (by omega) _), restQ_full xs _ g (fun y hy => hb y (by simp [hy])) (by simp at hf; omega)]
    rw [show ((x.toNat : Nat) : Int) = x from by omega]; simp
theorem restQ_sound : ∀ (f : Nat) (l : List Nat) (acc z : List Int), l.length ≤ f → (∀ b ∈ l, b < 256) → restQ f l acc = some z → ∃ xs, z = acc ++ xs ∧ l = nats (flatL xs) ∧ ∀ x ∈ xs, 0 ≤ x ∧ x ≤ 2147483647
  | 0, l, acc, z, hl, _, h => by
    obtain rfl : l = [] := List.eq_nil_of_length_eq_zero (by omega)
    simp [restQ] at h
    exact ⟨[], by simp [h], rfl, by simp⟩
  | f + 1, l, acc, z, hl, hb, h => by
    by_cases h0 : l = []
    · subst h0
      rw [restQ_nil] at h
      simp at h
      exact ⟨[], by simp [h], rfl, by simp⟩
    · cases hq : sevQ true 0 l with
      | none => rw [restQ_none h0 hq] at h; simp at h
      | some p =>
        obtain ⟨n, t⟩ := p
        rw [restQ_some hq] at h
        obtain ⟨h1, h2, h3⟩ := sevQ_sound hb hq
        obtain ⟨xs, e1, e2, e3⟩ := restQ_sound f t _ z (by omega) (fun b hbt => hb b (by rw [h2]; simp [hbt])) h
        refine ⟨(n : Int) :: xs, by rw [e1]; simp, ?_, fun x hx => ?_⟩
        · rw [flatL_cons, nats_append, ← e2, show ((n : Int).toNat) = n from rfl]; exact h2
        · rcases List.mem_cons.1 hx with rfl | hx
          · omega
          · exact e3 x hx
theorem two_sum (h : Nat) : ∃ a b : Int, two h = [a, b] ∧ (40 * a + b).toNat = h := ⟨_, _, rfl, by omega⟩
theorem two_of {a b : Int} (h0 : 0 ≤ a) (h1 : a ≤ 2) (h2 : 0 ≤ b) (h3 : b ≤ most2 a) : two (40 * a + b).toNat = [a, b] := by
  have hm : most2 a = if a = 2 then 100 else 39 := rfl
  have e : ((min ((40 * a + b).toNat / 40) 2 : Nat) : Int) = a := by
    split at hm <;> omega
  unfold two
  rw [e]
  congr 2; omega
theorem oidQ_iff {l : List Nat} {z : List Int} (hl : ∀ b ∈ l, b < 256) : oidQ l = some z ↔ arcsB z = true ∧ nats (oidL z) = l := by
  constructor
  · intro h
    unfold oidQ at h
    split at h
    · simp at h
    · rename_i y hy
      split at h
      · rename_i ha
        simp at h
        subst h
        refine ⟨ha, ?_⟩
        unfold arcsQ at hy
        split at hy
        · simp at hy
        · rename_i n t hq
          obtain ⟨_, e1, e2⟩ := sevQ_sound hl hq
          obtain ⟨xs, e3, e4, _⟩ := restQ_sound _ t _ _ (by omega) (fun b hb => hl b (by rw [e1]; simp [hb])) hy
          obtain ⟨a, b, e5, e6⟩ := two_sum n
          rw [e5] at e3
          rw [e3]
          show nats (oidL (a :: b :: xs)) = l
          rw [oidL_flat, e6, nats_append, ← e4, ← e1]
      · simp at h
  · rintro ⟨ha, rfl⟩
    obtain ⟨r2, r10, r0, r0', r1, r1', rr⟩ := arcsB_iff.1 ha
    match z, r2, r0, r0', r1, r1', rr, ha with
    | a :: b :: xs, _, r0, r0', r1, r1', rr, ha =>
      have r0 : 0 ≤ a := r0
      have r0' : a ≤ 2 := r0'
      have r1 : 0 ≤ b := r1
      have r1' : b ≤ most2 a := r1'
      have hm : most2 a ≤ 100 := by unfold most2; split <;> omega
      have hx : ∀ x ∈ xs, 0 ≤ x ∧ x ≤ 2147483647 := fun x hx => by
        obtain ⟨i, hi⟩ := List.mem_iff_getElem?.1 hx
        have hil : i < xs.length := by
          rcases Nat.lt_or_ge i xs.length with h | h
          · exact h
          · rw [List.getElem?_eq_none h] at hi; cases hi
        have := rr (i + 2) (by omega) (by simp; omega)
        simpa [List.getD, hi] using this
      have hs := sevQ_full (x := (40 * a + b).toNat) (by omega) (nats (flatL xs))
      have hf : xs.length ≤ (nats (oidL (a :: b :: xs))).length := by
        have := flatL_len xs
        rw [oidL_flat]; simp [nats]; omega
      unfold oidQ arcsQ
      rw [show sevQ true 0 (nats (oidL (a :: b :: xs))) = some ((40 * a + b).toNat, nats (flatL xs)) from by rw [oidL_flat, nats_append]; exact hs]
      simp only [two_of r0 r0' r1 r1']
      rw [restQ_full xs [a, b] _ hx hf]
      simp only
      exact if_pos ha
theorem spQ_flat : ∀ (xs : List Int) (nums : List Nat), (∀ x ∈ xs, 0 ≤ x ∧ x ≤ 2147483647) → nums.length + xs.length ≤ 11 → spQ nums 0 (nats (flatL xs)) = some (nums ++ nats xs)
  | [], nums, _, _ => by rw [show nats (flatL []) = [] from rfl]; simp [spQ, nats]
  | x :: xs, nums, hb, hn => by
    have hx := hb x (by simp)
    rw [flatL_cons, nats_append, spQ_full (x := x.toNat) (by omega) nums _ (by simp at hn; omega), spQ_flat xs _ (fun y hy => hb y (by simp [hy])) (by simp at hn ⊢; omega)]
    simp [nats]
/-- As the specification reads them. -/
def specQ (l : List Nat) : Option (List Int) := match spQ [] 0 l with
  | none => none
  | some [] => none
  | some (h :: t) => if arcsB (two h ++ t.map Int.ofNat) = true ∧ nats (oidL (two h ++ t.map Int.ofNat)) = l then some (two h ++ t.map Int.ofNat) else none
theorem specQ_eq {l : List Nat} (hl : ∀ b ∈ l, b < 256) : specQ l = oidQ l := by
  cases ho : oidQ l with
  | some z =>
    obtain ⟨ha, he⟩ := (oidQ_iff hl).1 ho
    obtain ⟨r2, r10, r0, r0', r1, r1', rr⟩ := arcsB_iff.1 ha
    match z, r2, r10, r0, r0', r1, r1', rr, ha, he with
    | a :: b :: xs, _, r10, r0, r0', r1, r1', rr, ha, he =>
      have r0 : 0 ≤ a := r0
      have r0' : a ≤ 2 := r0'
      have r1 : 0 ≤ b := r1
      have r1' : b ≤ most2 a := r1'
      have hm : most2 a ≤ 100 := by unfold most2; split <;> omega
      have hx : ∀ x ∈ xs, 0 ≤ x ∧ x ≤ 2147483647 := fun x hx => by
        obtain ⟨i, hi⟩ := List.mem_iff_getElem?.1 hx
        have hil : i < xs.length := by
          rcases Nat.lt_or_ge i xs.length with h | h
          · exact h
          · rw [List.getElem?_eq_none h] at hi; cases hi
        have := rr (i + 2) (by omega) (by simp; omega)
        simpa [List.getD, hi] using this
      have e : spQ [] 0 l = some ((40 * a + b).toNat :: nats xs) := by
        rw [← he, oidL_flat, nats_append, spQ_full (x := (40 * a + b).toNat) (by omega) [] _ (by simp), spQ_flat xs _ hx (by simp at r10 ⊢; omega)]
        rfl
      have ex : (nats xs).map Int.ofNat = xs := by
        simp only [nats, List.map_map]
        refine (List.map_congr_left (fun x hx' => ?_)).trans (List.map_id xs)
        have := hx x hx'
        simp; omega
      unfold specQ
      rw [e]
      simp only
      rw [ex, two_of r0 r0' r1 r1']
      exact if_pos ⟨ha, he⟩
  | none =>
    unfold specQ
    split
    · rfl
    · rfl
    · split
      · rename_i h
        rw [(oidQ_iff hl).2 h] at ho; simp at ho
      · rfl
/-- A text's bytes. -/
def bl (s : ByteArray) : List Nat := s.data.toList.map UInt8.toNat
theorem bl_lt (s : ByteArray) : ∀ b ∈ bl s, b < 256 := fun b hb => by
  simp only [bl, List.mem_map] at hb
  obtain ⟨x, _, rfl⟩ := hb
  exact x.toNat_lt
theorem bl_len (s : ByteArray) : (bl s).length = s.size := by rw [bl, List.length_map, Lib.size_eq]
theorem bl_drop (s : ByteArray) (i : Nat) (h : i < s.size) : (bl s).drop i = bN s i :: (bl s).drop (i + 1) := by
  have hl : i < (bl s).length := by rw [bl_len]; exact h
  rw [List.drop_eq_getElem_cons hl]
  congr 1
  have h' : i < s.data.toList.length := by rw [← Lib.size_eq]; exact h
  simp [bl, bN, List.getD, List.getElem?_eq_getElem h']
theorem sevH_byte : ∀ (f x : Nat) (y : Int), y ∈ sevH f x → 0 ≤ y ∧ y < 256
  | 0, _, y, h => by simp [sevH] at h
  | f + 1, x, y, h => by
    rw [sevH] at h
    split at h
    · simp at h
    · rcases List.mem_append.1 h with h | h
      · exact sevH_byte f _ y h
      · simp at h; omega
theorem sevL_byte (x : Nat) (y : Int) (h : y ∈ sevL x) : 0 ≤ y ∧ y < 256 := by
  rcases List.mem_append.1 h with h | h
  · exact sevH_byte _ _ y h
  · simp at h; omega
theorem oidTo_byte (l : List Int) : ∀ k y, y ∈ oidTo l k → 0 ≤ y ∧ y < 256
  | 0, y, h => sevL_byte _ y h
  | k + 1, y, h => by
    rcases List.mem_append.1 h with h | h
    · exact oidTo_byte l k y h
    · exact sevL_byte _ y h
theorem bl_str {xs : List Int} (h : ∀ x ∈ xs, 0 ≤ x ∧ x < 256) : bl (strOfNums xs) = nats xs := by
  simp only [bl, strOfNums, nats, List.map_map]
  refine List.map_congr_left (fun x hx => ?_)
  have := h x hx
  simp; omega
theorem bl_inj {a b : ByteArray} (h : bl a = bl b) : a = b := by
  refine ByteArray.ext (Array.toList_inj.1 ?_)
  exact (List.map_inj_right (fun x y hxy => UInt8.toNat_inj.1 hxy)).1 h
theorem str_iff (z : List Int) (s : ByteArray) : strOfNums (oidL z) = s ↔ nats (oidL z) = bl s := by
  have hb := bl_str (xs := oidL z) (oidTo_byte z _)
  constructor
  · intro h; rw [← h, hb]
  · intro h; exact bl_inj (hb.trans h)
theorem thingD_inj {t : Int} {a b : ByteArray} (h : thingD t a = thingD t b) : a = b := by
  have hs := congrArg ByteArray.size h
  rw [thingD_size, thingD_size] at hs
  have he : a.size = b.size := by
    unfold lenD at hs
    split at hs <;> split at hs <;> (try split at hs) <;> (try split at hs) <;> simp at hs <;> omega
  unfold thingD at h
  rw [he] at h
  have hd := congrArg (fun x => x.data.toList) h
  simp only [ByteArray.data_append, Array.toList_append] at hd
  exact ByteArray.ext (Array.toList_inj.1 (List.append_cancel_left hd))
/-- What DerOidRead answers: the arcs and the code. -/
def oidR (s : ByteArray) : List Int × Int := if 20000 < s.size then ([], 2) else match oidQ (bl s) with
  | none => ([], 3)
  | some z => (z, 0)
theorem oidR_len (s : ByteArray) : (oidR s).1.length ≤ 10 := by
  unfold oidR
  split
  · simp
  · split
    · simp
    · rename_i z hz
      exact (arcsB_iff.1 ((oidQ_iff (bl_lt s)).1 hz).1).2.1
end Go.Proofs.YtjllcflnmopnpaaDoor
namespace Go.Proofs.YtjllcflnmopnpaaDoor
open Go.RowKit

theorem or7 (v b : Nat) (hb : b < 128) (h1 : v ≤ 2147483647) : bits BinOp.or IntKind.i64 ((v : Int) * 128) (b : Int) = (v : Int) * 128 + (b : Int) := by
  have e : bits BinOp.or IntKind.i64 ((v : Int) * 128) (b : Int) = IntKind.i64.wrap ((BitVec.ofInt 64 ((v : Int) * 128) ||| BitVec.ofInt 64 (b : Int)).toNat : Nat) := rfl
  rw [e, BitVec.toNat_or, BitVec.toNat_ofInt, BitVec.toNat_ofInt]
  have e1 : ((b : Int) % ((2 ^ 64 : Nat) : Int)).toNat = b := by omega
  have e2 : ((v : Int) * 128 % ((2 ^ 64 : Nat) : Int)).toNat = 2 ^ 7 * v := by omega
  rw [e1, e2, ← Nat.two_pow_add_eq_or_of_lt (by omega)]
  rw [IntKind.wrap_i64]
  omega
/-- What getSevens hands back. -/
def SevOk (s : ByteArray) (k : Nat) (R : Option (Nat × List Nat)) (e : Ending) : Prop :=
  R = none ∧ e = .returned (.tuple #[.int .i64 0, .int .i64 0, .bool false]) ∨
  ∃ n j, R = some (n, (bl s).drop j) ∧ k < j ∧ j ≤ s.size ∧ n ≤ 2147483647 ∧ e = .returned (.tuple #[.int .i64 (n : Int), .int .i64 (j : Int), .bool true])
set_option maxHeartbeats 1000000 in
set_option maxRecDepth 100000 in
theorem getSevens (s : ByteArray) (k : Nat) (w : World) (hs : s.size ≤ 20000) (hk : k ≤ s.size) :
    Calls Tryd.prog 70 #[.string s, .int .i64 (k : Int)] w fun e w' => SevOk s k (sevQ true 0 ((bl s).drop k)) e ∧ w' = w := by
  obtain ⟨R, hR⟩ : ∃ R, R = sevQ true 0 ((bl s).drop k) := ⟨_, rfl⟩
  rw [← hR]
  have HR : Hid (sevQ true 0 ((bl s).drop k) = R) := hR.symm
  clear hR
  go_enter Tryd.func70, Tryd.ntmps70
  go_wp2_with fail
  go_loopw [7, 8] (fun q i wr => ∃ (j n : Nat), q = .int .i64 (n : Int) ∧ i = .int .i64 (j : Int) ∧ k ≤ j ∧ j ≤ s.size ∧ n ≤ 2147483647 ∧ sevQ (decide (j = k)) n ((bl s).drop j) = R ∧ wr = w)
    (fun _ i _ => s.size - (intOf i).toNat)
  case atStart => exact ⟨k, 0, rfl, rfl, Nat.le_refl _, hk, by omega, by rw [decide_eq_true rfl]; exact HR.out, rfl⟩
  case round =>
    obtain ⟨j, n, rfl, rfl, hkj, hj, hn, hrel, rfl⟩ := hrel
    have HQ : Hid (sevQ (decide (j = k)) n ((bl s).drop j) = R) := hrel
    clear hrel HR
    by_cases hlt : j < s.size
    · have hd := bl_drop s j hlt
      have hb := bN_eq s j hlt
      have hu := u8_lt s[j]
      rw [hb] at hd
      have HQ2 := HQ.out
      rw [hd, sevQ] at HQ2
      have q0 : (j : Int) < (s.size : Int) := by omega
      have ha := and127 (s[j].toNat : Int) (by omega) (by omega)
      obtain ⟨x, hx⟩ : ∃ x, x = s[j].toNat := ⟨_, rfl⟩
      rw [← hx] at HQ2 ha hu
      have ho := or7 n (x % 128) (Nat.mod_lt _ (by omega)) hn
      rw [show (((x % 128 : Nat) : Int)) = (x : Int) % 128 from by omega] at ho
      have ex : (s[j].toNat : Int) = (x : Int) := by omega
      have hxb : x < 256 := by omega
      clear hd hb HQ hx
      by_cases h1 : j = k ∧ x = 128
      · rw [if_pos (by simp [h1.1, h1.2])] at HQ2
        have HF : Hid (R = none) := HQ2.symm
        obtain ⟨rfl, rfl⟩ := h1
        clear HQ2
        go_wp2_with fail
        go_ret3
        exact ⟨.inl ⟨HF.out, rfl⟩, rfl⟩
      rw [if_neg (by simp; omega)] at HQ2
      obtain ⟨m, hm⟩ : ∃ m, m = n * 128 + x % 128 := ⟨_, rfl⟩
      rw [← hm] at HQ2
      have em : (n : Int) * 128 + (x : Int) % 128 = (m : Int) := by omega
      have HQ : Hid _ := HQ2
      clear HQ2 hm
      have hc : (((j : Int) == (k : Int)) = false) ∨ (j = k ∧ ((x : Int) == 128) = false) := by
        simp only [beq_eq_false_iff_ne]; omega
      have HJK : Hid (decide (j + 1 = k) = false) := decide_eq_false (by omega)
      rcases hc with hc | ⟨rfl, hc⟩
      all_goals
        by_cases hov : 2147483647 < m
        · have HF : Hid (R = none) := by have := HQ.out; rw [if_pos hov] at this; exact this.symm
          clear HQ
          go_wp2_with fail
          go_ret3
          exact ⟨.inl ⟨HF.out, rfl⟩, rfl⟩
        by_cases hlow : x < 128
        · have HF : Hid (R = some (m, (bl s).drop (j + 1))) := by have := HQ.out; rw [if_neg hov, if_pos hlow] at this; exact this.symm
          clear HQ
          go_wp2_with fail
          go_ret3
          exact ⟨.inr ⟨m, j + 1, HF.out, by omega, by omega, by omega, by simp⟩, rfl⟩
        · have HF : Hid (sevQ false m ((bl s).drop (j + 1)) = R) := by have := HQ.out; rw [if_neg hov, if_neg hlow] at this; exact this
          clear HQ
          go_wp2_with fail
          go_roundw
          case rel => exact ⟨j + 1, m, rfl, by go_num, by omega, by omega, by omega, by rw [HJK.out]; exact HF.out, trivial⟩
          case measure => simp [intOf]; omega
    · obtain rfl : j = s.size := by omega
      have HF : Hid (R = none) := by
        have := HQ.out
        rw [List.drop_eq_nil_of_le (by rw [bl_len]; exact Nat.le_refl _), sevQ] at this
        exact this.symm
      clear HQ
      go_wp2_with fail
      go_ret3
      exact ⟨.inl ⟨HF.out, rfl⟩, rfl⟩
end Go.Proofs.YtjllcflnmopnpaaDoor
namespace Go.Proofs.YtjllcflnmopnpaaDoor
open Go.RowKit

/-- A row of numbers of the call's own. -/
def OwnL (w : World) (B : Nat) (v : Value) (l : List Int) : Prop := w.ownsRow B 2 1 v l.length (lCells l)
theorem OwnL.keep {w w' : World} {B : Nat} {v : Value} {l : List Int} (h : OwnL w B v l) (hb : Below w.heap.size w w') : OwnL w' B v l := by
  refine ⟨h.1, ?_⟩
  rcases h.2 with h | ⟨g, cap, cur, e, h1, h2, h3⟩
  · exact .inl h
  · exact .inr ⟨g, cap, cur, e, h1, by rw [hb.block g (heap_lt h2)]; exact h2, h3⟩
theorem OwnL.mono {w : World} {B B' : Nat} {v : Value} {l : List Int} (h : OwnL w B v l) (hB : B' ≤ B) : OwnL w B' v l := by
  refine ⟨h.1, ?_⟩
  rcases h.2 with h | ⟨g, cap, cur, e, h1, h3⟩
  · exact .inl h
  · exact .inr ⟨g, cap, cur, e, Nat.le_trans hB h1, h3⟩
theorem OwnL.other {w : World} {B b o : Nat} {v u : Value} {l : List Int} (h : OwnL w B v l) (hb : b < B) : OwnL (w.setCell ⟨b, o, none⟩ u) B v l := by
  refine ⟨h.1, ?_⟩
  rcases h.2 with h | ⟨g, cap, cur, e, h1, h2, h3⟩
  · exact .inl h
  · exact .inr ⟨g, cap, cur, e, h1, by rw [heap_setCell_other _ _ _ _ (by show g ≠ b; omega)]; exact h2, h3⟩
theorem OwnL.form {w : World} {B : Nat} {v : Value} {l : List Int} (h : OwnL w B v l) : ∃ a c, v = .slice a l.length c ∧ l.length ≤ c := by
  rcases h.2 with ⟨h, h'⟩ | ⟨g, cap, _, e, _, _, hc, _⟩
  · exact ⟨none, 0, by rw [h']; exact h, by omega⟩
  · exact ⟨_, _, e, hc⟩
theorem ownL_nil (w : World) (B : Nat) : OwnL w B (.slice none 0 0) [] := ⟨rfl, .inl ⟨rfl, rfl⟩⟩
theorem OwnL.ints {w : World} {B : Nat} {a : Option Addr} {n c : Nat} {l : List Int} (h : OwnL w B (.slice a n c) l) : IsInts w a l := by
  rcases h.2 with ⟨_, h'⟩ | ⟨g, cap, cur, e, _, hg, _, _, _, ht⟩
  · exact .inl (List.eq_nil_of_length_eq_zero h')
  · simp only [Value.slice.injEq] at e
    obtain ⟨rfl, _, _⟩ := e
    refine .inr ⟨g, 0, rfl, fun i hi => ?_⟩
    have k0 : (lCells l)[i]? = some (.int .i64 (l.getD i 0)) := by simp [lCells, List.getD, hi]
    rw [← ht, List.getElem?_take, if_pos (by omega)] at k0
    rw [Nat.zero_add, cell_of_row w g _ _ _ (0, 0) hg]
    simpa using k0
theorem OwnL.ge {w : World} {B g : Nat} {v : Value} {l : List Int} (h : OwnL w B v l) (e : v.ownBlock = some g) : B ≤ g ∧ g < w.heap.size :=
  (show World.ownsRow w B 2 1 v l.length (lCells l) from h).lt g e
/-- What readArcs hands back. -/
def ArcsOk (w' : World) (B : Nat) (R : Option (List Int)) (e : Ending) : Prop :=
  R = none ∧ e = .returned (.tuple #[.slice none 0 0, .bool false]) ∨ ∃ z v, R = some z ∧ e = .returned (.tuple #[v, .bool true]) ∧ OwnL w' B v z ∧ z.length ≤ 20002
set_option maxHeartbeats 2000000 in
set_option maxRecDepth 100000 in
theorem readArcs (s : ByteArray) (w : World) (hs : s.size ≤ 20000) :
    Calls Tryd.prog 52 #[.string s] w fun e w' => ArcsOk w' w.heap.size (arcsQ (bl s)) e ∧ Below w.heap.size w w' := by
  obtain ⟨i0, hi, hz0, hz1, hz2⟩ := info_parts infoLong
  have HG : Hid (∀ (k : Nat) (V : World), k ≤ s.size → Calls Tryd.prog 70 #[.string s, .int .i64 (k : Int)] V fun e w' => SevOk s k (sevQ true 0 ((bl s).drop k)) e ∧ w' = V) := fun k V hk => getSevens s k V hs hk
  have H0 : Hid (∀ V : World, Calls Tryd.prog 70 #[.string s, .int .i64 0] V fun e w' => SevOk s 0 (sevQ true 0 (bl s)) e ∧ w' = V) := fun V => by
    have := getSevens s 0 V hs (Nat.zero_le _)
    simpa using this
  have HL : Hid ((bl s).length = s.size) := bl_len s
  obtain ⟨R, hR⟩ : ∃ R, R = arcsQ (bl s) := ⟨_, rfl⟩
  rw [← hR]
  have HRR : Hid (R = arcsQ (bl s)) := hR
  clear hR
  go_enter Tryd.func52, Tryd.ntmps52
  go_wp2_with fail
  refine (H0.out _).mono ?_
  rintro e w' ⟨hq, rfl⟩
  rcases hq with ⟨hq, rfl⟩ | ⟨h, k, hq, hk0, hk, hh, rfl⟩
  · have HF : Hid (R = none) := by show _ = _; rw [HRR.out]; unfold arcsQ; rw [hq]
    clear hq
    go_wp2_with fail
    go_ret2
    exact ⟨.inl ⟨HF.out, rfl⟩, Below.refl _ _⟩
  · have HR : Hid (R = restQ (bl s).length ((bl s).drop k) (two h)) := by show _ = _; rw [HRR.out]; unfold arcsQ; rw [hq]
    obtain ⟨a, ha⟩ : ∃ a : Nat, a = min (h / 40) 2 := ⟨_, rfl⟩
    obtain ⟨b, hb⟩ : ∃ b : Nat, b = h - 40 * a := ⟨_, rfl⟩
    have H2 : Hid (two h = [(a : Int), (b : Int)]) := by
      show _ = _
      unfold two
      rw [← ha]
      congr 2; omega
    have e1 : min ((h : Int) / 40) 2 = (a : Int) := by omega
    have e2 : (h : Int) - 40 * (a : Int) = (b : Int) := by omega
    have ha2 : a ≤ 2 := by omega
    clear hq ha hb HRR
    go_wp2_with fail
    go_loopw [5, 8] (fun q v wr => ∃ (j f : Nat) (acc : List Int), q = .int .i64 (j : Int) ∧ j ≤ s.size ∧ s.size ≤ j + f ∧ restQ f ((bl s).drop j) acc = R ∧ acc.length ≤ j + 2 ∧ OwnL wr w'.heap.size v acc ∧ Below w'.heap.size w' wr ∧ w'.heap.size ≤ wr.heap.size)
      (fun q _ _ => s.size - (intOf q).toNat)
    case atStart =>
      refine ⟨k, (bl s).length, two h, rfl, hk, by rw [HL.out]; omega, HR.out.symm, by rw [H2.out]; simp, ?_, (Below.refl _ _).alloc (Nat.le_refl _) _, by simp⟩
      rw [H2.out]
      exact World.ownsRow_lit (base := w'.heap.size) (e := 2) (size := 1) w' #[.int .i64 (a : Int), .int .i64 (b : Int)] 2 (Nat.le_refl _) (by decide) rfl
    case round =>
      clear HR
      obtain ⟨j, f, acc, rfl, hj, hf, hrest, hal, hown, hbel, hsz⟩ := hrel
      have HQ : Hid (restQ f ((bl s).drop j) acc = R) := hrest
      obtain ⟨va, vc, rfl, _⟩ := OwnL.form hown
      have HO : Hid (OwnL wr w'.heap.size (.slice va acc.length vc) acc) := hown
      have HB : Hid (Below w'.heap.size w' wr) := hbel
      clear hrest hown hbel
      by_cases hlt : j < s.size
      · obtain ⟨f', rfl⟩ : ∃ f', f = f' + 1 := ⟨f - 1, by omega⟩
        have hne : (bl s).drop j ≠ [] := by
          intro h'
          have := congrArg List.length h'
          rw [List.length_drop, HL.out] at this
          simp at this; omega
        have HN : Hid (sevQ true 0 ((bl s).drop j) = none → R = none) := fun h' => by rw [← HQ.out, restQ_none hne h']
        have HS : Hid (∀ n t, sevQ true 0 ((bl s).drop j) = some (n, t) → restQ f' t (acc ++ [(n : Int)]) = R) := fun n t h' => by rw [← HQ.out, restQ_some h']
        clear hne HQ
        go_wp2_with fail
        refine (HG.out j _ hj).mono ?_
        rintro e w2 ⟨hq, rfl⟩
        rcases hq with ⟨hq, rfl⟩ | ⟨x, nx, hq, hx0, hx1, hxm, rfl⟩
        · have HF : Hid (R = none) := HN.out hq
          clear hq
          go_wp2_with fail
          go_ret2
          exact ⟨.inl ⟨HF.out, rfl⟩, HB.out⟩
        · have HF : Hid (restQ f' ((bl s).drop nx) (acc ++ [(x : Int)]) = R) := HS.out _ _ hq
          have hO : w2.ownsRow w'.heap.size 2 1 (.slice va acc.length vc) acc.length (lCells acc) := HO.out
          clear hq
          go_wp2_with (at_builtin; refine wpList_append_own _ rfl _ _ 41 rfl w'.heap.size 2 i0 (.int .i64 0) 1 8 Tryd.underlying41 hi hz0 hz1 hz2 rfl (by decide) _ _ _ rfl (hO.alloc _) ⟨w2.heap.size, 0, none⟩ 1 1 [.int .i64 (x : Int)] rfl rfl ?c1 ?c2 ?c3 ?c4 ?c5 ?_)
          case c1 => exact cells_one (by simp)
          case c2 => intro u hu; simp at hu; subst hu; rfl
          case c3 => unfold maxLen; omega
          case c4 => omega
          case c5 => simp; omega
          intro v' w3 hown' hgrow _
          have hB3 : Below w'.heap.size w' w3 := (HB.out.alloc hsz _).grown hgrow (by simp; omega) (fun k hk => (hO.lt k hk).1)
          have HO3 : Hid (OwnL w3 w'.heap.size v' (acc ++ [(x : Int)])) := by
            show World.ownsRow _ _ _ _ _ _ _
            rw [List.length_append, lCells, List.map_append]
            exact hown'
          have HB3 : Hid (Below w'.heap.size w' w3) := hB3
          clear hown' hgrow hB3 hO
          go_wp2_with fail
          go_roundw
          case rel => exact ⟨nx, f', acc ++ [(x : Int)], rfl, hx1, by omega, HF.out, by simp; omega, HO3.out, HB3.out, HB3.out.size⟩
          case measure => simp [intOf]; omega
      · have HF : Hid (R = some acc) := by
          show _ = _
          rw [← HQ.out, List.drop_eq_nil_of_le (by rw [HL.out]; omega), restQ_nil]
        clear HQ
        go_wp2_with fail
        go_ret2
        exact ⟨.inr ⟨acc, _, HF.out, rfl, HO.out, by omega⟩, HB.out⟩
end Go.Proofs.YtjllcflnmopnpaaDoor
namespace Go.Proofs.YtjllcflnmopnpaaDoor
open Go.RowKit

theorem oidR_long {s : ByteArray} (h : 20000 < s.size) : oidR s = ([], 2) := if_pos h
theorem oidR_none {s : ByteArray} (h : s.size ≤ 20000) (h1 : oidQ (bl s) = none) : oidR s = ([], 3) := by rw [oidR, if_neg (by omega), h1]
theorem oidR_some {s : ByteArray} {z : List Int} (h : s.size ≤ 20000) (h1 : oidQ (bl s) = some z) : oidR s = (z, 0) := by rw [oidR, if_neg (by omega), h1]
set_option maxHeartbeats 2000000 in
set_option maxRecDepth 100000 in
theorem implOidRead (s : ByteArray) (w : World) (hs : s.size ≤ maxLen) :
    Calls Tryd.prog 23 #[.string s] w fun e w' => ∃ v, e = .returned (.agg #[v, .int .i64 (oidR s).2]) ∧ OwnL w' w.heap.size v (oidR s).1 ∧ Below w.heap.size w w' := by
  have hs' := hs
  unfold maxLen at hs'
  by_cases h1 : 20000 < s.size
  · have HF : Hid (oidR s = ([], 2)) := oidR_long h1
    have hd : decide (20000 < s.size) = true := decide_eq_true h1
    go_enter Tryd.func23, Tryd.ntmps23
    go_wp2_with fail
    refine (tooLong s _ hs).mono ?_
    rintro e w' ⟨rfl, rfl⟩
    rw [hd]
    go_wp2_with fail
    refine bodyPost_ret (v := .agg #[.slice none 0 0, .int .i64 2]) (by simp [results, Tryd.results23, go_sem]) rfl ⟨.slice none 0 0, ?_, ?_, ?_⟩
    · rw [HF.out]
    · rw [HF.out]; exact ownL_nil _ _
    · repeat (first | exact Below.refl _ _ | refine Below.setCell ?_ (by simp) _ | refine Below.alloc ?_ (by simp) _)
  have hd : decide (20000 < s.size) = false := decide_eq_false h1
  have HA : Hid (∀ V : World, Calls Tryd.prog 52 #[.string s] V fun e w' => ArcsOk w' V.heap.size (arcsQ (bl s)) e ∧ Below V.heap.size V w') := fun V => readArcs s V (by omega)
  have HN : Hid (arcsQ (bl s) = none → oidR s = ([], 3)) := fun h => oidR_none (by omega) (by unfold oidQ; rw [h])
  have HS : Hid (∀ z, arcsQ (bl s) = some z → arcsB z = true → oidR s = (z, 0)) := fun z h h' => oidR_some (by omega) (by unfold oidQ; rw [h]; exact if_pos h')
  have HW : Hid (∀ z, arcsQ (bl s) = some z → arcsB z = false → oidR s = ([], 3)) := fun z h h' => oidR_none (by omega) (by unfold oidQ; rw [h]; exact if_neg (by simp [h']))
  generalize arcsQ (bl s) = R at *
  go_enter Tryd.func23, Tryd.ntmps23
  go_wp2_with fail
  refine (tooLong s _ hs).mono ?_
  rintro e w' ⟨rfl, rfl⟩
  rw [hd]
  go_wp2_with fail
  refine (HA.out _).mono ?_
  rintro e w1 ⟨hq, hb1⟩
  have hsz : (w.alloc (.cells [.slice none 0 0, .int .i64 0].toArray 50 (0, 0))).heap.size = w.heap.size + 1 := by simp
  obtain ⟨hr, hB, hz⟩ := resKeep (cs := [.slice none 0 0, .int .i64 0]) (T := 50) hb1
  have HRw : Hid (w1.heap[w.heap.size]? = some (.cells [.slice none 0 0, .int .i64 0].toArray 50 (0, 0))) := hr
  have HB : Hid (Below w.heap.size w w1) := hB
  clear hb1 hr hB HA
  rcases hq with ⟨rfl, rfl⟩ | ⟨z, v, rfl, rfl, hO, hzl⟩
  · have HF : Hid (oidR s = ([], 3)) := HN.out rfl
    obtain ⟨⟨c0, c1⟩, f0, f1⟩ := cells2 HRw.out
    go_wp2_with fail
    refine bodyPost_ret (v := .agg #[.slice none 0 0, .int .i64 3]) (by simp [results, Tryd.results23, go_sem, c0, c1]) rfl ⟨.slice none 0 0, ?_, ?_, ?_⟩
    · rw [HF.out]
    · rw [HF.out]; exact ownL_nil _ _
    · repeat (first | exact HB.out | refine Below.setCell ?_ (by simp) _)
  · have HO : Hid (OwnL w1 (w.heap.size + 1) v z) := by show OwnL _ _ _ _; simpa using hO
    obtain ⟨va, vc, rfl, hcap⟩ := OwnL.form HO.out
    have HAr : Hid (Calls Tryd.prog 46 #[.slice va z.length vc] w1 fun e w' => e = .returned (.bool (arcsB z)) ∧ Below w1.heap.size w1 w') := arcsRight va z vc w1 (by omega) hcap (OwnL.ints HO.out)
    clear hO
    cases hab : arcsB z with
    | true =>
      have HF : Hid (oidR s = (z, 0)) := HS.out z rfl hab
      rw [hab] at HAr
      obtain ⟨n, hn⟩ : ∃ n, n = z.length := ⟨_, rfl⟩
      rw [← hn] at HAr HO hzl hcap ⊢
      have HNn : Hid (n = z.length) := hn
      clear hn
      go_wp2_with fail
      refine HAr.out.mono ?_
      rintro e w2 ⟨rfl, b2⟩
      have R2 : w2.heap[w.heap.size]? = some (.cells [.slice none 0 0, .int .i64 0].toArray 50 (0, 0)) := by rw [b2.block _ hz]; exact HRw.out
      have O2 : Hid (OwnL w2 (w.heap.size + 1) (.slice va n vc) z) := OwnL.keep HO.out b2
      have B2 : Hid (Below w.heap.size w w2) := HB.out.trans (b2.mono (by omega))
      obtain ⟨⟨c0, c1⟩, f0, f1⟩ := cells2 R2
      clear b2 R2
      go_wp2_with fail
      refine bodyPost_ret (v := .agg #[.slice va n vc, .int .i64 0]) (by simp [results, Tryd.results23, go_sem, c0, c1]) rfl ⟨.slice va n vc, ?_, ?_, ?_⟩
      · rw [HF.out]
      · rw [HF.out]
        exact (OwnL.other (OwnL.other O2.out (by omega)) (by omega)).mono (by omega)
      · repeat (first | exact B2.out | refine Below.setCell ?_ (by simp) _)
    | false =>
      have HF : Hid (oidR s = ([], 3)) := HW.out z rfl hab
      rw [hab] at HAr
      generalize z.length = n at *
      go_wp2_with fail
      refine HAr.out.mono ?_
      rintro e w2 ⟨rfl, b2⟩
      have R2 : w2.heap[w.heap.size]? = some (.cells [.slice none 0 0, .int .i64 0].toArray 50 (0, 0)) := by rw [b2.block _ hz]; exact HRw.out
      have B2 : Hid (Below w.heap.size w w2) := HB.out.trans (b2.mono (by omega))
      obtain ⟨⟨c0, c1⟩, f0, f1⟩ := cells2 R2
      clear b2 R2
      go_wp2_with fail
      refine bodyPost_ret (v := .agg #[.slice none 0 0, .int .i64 3]) (by simp [results, Tryd.results23, go_sem, c0, c1]) rfl ⟨.slice none 0 0, ?_, ?_, ?_⟩
      · rw [HF.out]
      · rw [HF.out]; exact ownL_nil _ _
      · repeat (first | exact B2.out | refine Below.setCell ?_ (by simp) _)
end Go.Proofs.YtjllcflnmopnpaaDoor
namespace Go.Proofs.YtjllcflnmopnpaaDoor
open Go.RowKit

theorem own_sliceW {w : World} {B e n : Nat} {v : Value} {xs : List Value} (h : w.ownsRow B e 1 v n xs) (hn : 0 < n) : ∃ g cap, v = .slice (some ⟨g, 0, none⟩) n cap := by
  rcases h.2 with ⟨_, h'⟩ | ⟨g, cap, _, h', _⟩
  · omega
  · exact ⟨g, cap, h'⟩
def sLenW : Value → Nat
  | .slice _ n _ => n
  | _ => 0
set_option maxHeartbeats 1000000 in
set_option maxRecDepth 100000 in
theorem specSeven (x : Nat) (w : World) (hx : x < 9223372036854775808) :
    Calls Tryd.prog 68 #[.int .i64 (x : Int)] w fun e w' => e = .returned (.string (strOfNums (sevL x))) ∧ Below w.heap.size w w' := by
  obtain ⟨i0, hi, hz0, hz1, hz2⟩ := info_parts infoByte
  go_enter Tryd.func68, Tryd.ntmps68
  go_wp2_with fail
  go_loopw [0, 3] (fun n b wr => ∃ (y f g c : Nat) (tl : List Int), y < 128 ^ f ∧ y < 9223372036854775808 ∧ f + tl.length ≤ 9 ∧ n = .int .i64 (y : Int) ∧ b = .slice (some ⟨g, 0, none⟩) (tl.length + 1) c ∧
      wr.ownsRow w.heap.size 5 1 (.slice (some ⟨g, 0, none⟩) (tl.length + 1) c) (tl.length + 1) ((tl ++ [((x % 128 : Nat) : Int)]).map (Value.int .u8)) ∧ Below w.heap.size w wr ∧ w.heap.size ≤ wr.heap.size ∧ sevH f y ++ (tl ++ [((x % 128 : Nat) : Int)]) = sevL x)
    (fun _ b _ => 20 - sLenW b)
  case atStart =>
    refine ⟨x / 128, 9, _, 1, [], by rw [p9]; omega, by omega, by simp, by simp, rfl, ?_, (Below.refl _ _).alloc (Nat.le_refl _) _, by simp, by simp [sevL]⟩
    have := World.ownsRow_lit (base := w.heap.size) (e := 5) (size := 1) w #[.int .u8 ((x : Int) % 128)] 1 (Nat.le_refl _) (by decide) rfl
    simpa using this
  case round =>
    obtain ⟨y, f, g, c, tl, hf, hy, hlen, rfl, rfl, hown, hbel, hsz, heq⟩ := hrel
    have HE : Hid (sevH f y ++ (tl ++ [((x % 128 : Nat) : Int)]) = sevL x) := heq
    have HF : Hid (y < 128 ^ f) := hf
    generalize hz : ((x % 128 : Nat) : Int) = z at *
    clear heq hf
    by_cases h0 : y = 0
    · have HS : Hid (sevL x = tl ++ [z]) := by
        show _ = _
        rw [← HE.out, h0, sevH_zero]; rfl
      have hcv := run_convert_own (P := Tryd.prog) (src := 22) (dst := 9) Tryd.underlying22 Tryd.underlying5 Tryd.underlying9 hown
      clear hown HE HF
      subst h0
      go_wp2
      go_ret
      exact ⟨by rw [HS.out]; rfl, hbel⟩
    · have HN : Hid (y ≠ 0) := h0
      have hp : 0 < y := by omega
      have HSRC : Hid (∀ j u, ((tl ++ [z]).map (Value.int .u8))[j]? = some u → wr.cell? ⟨g, j, none⟩ = some u) := fun j u hj => by
        rw [hown.cellAt j (by
          rcases Nat.lt_or_ge j (tl.length + 1) with h | h
          · omega
          · rw [List.getElem?_eq_none (by simpa using h)] at hj; cases hj)]
        exact hj
      clear h0
      have hlt := (hown.lt g rfl).2
      go_wp2_with (at_builtin; refine wpList_append_own _ rfl _ _ 22 rfl w.heap.size 5 i0 (.int .u8 0) 1 1 Tryd.underlying22 hi hz0 hz1 hz2 rfl (by decide) _ 1 _ rfl (World.ownsRow_lit _ _ 1 hsz (by decide) rfl) ⟨g, 0, none⟩ (tl.length + 1) c ((tl ++ [z]).map (Value.int .u8)) rfl (by simp) ?c1 ?c2 ?c3 ?c4 ?c5 ?_)
      case c1 =>
        intro j u hj
        rw [Addr.add_lit, Nat.zero_add, World.cell?_alloc_lt _ _ ⟨g, j, none⟩ hlt]
        exact HSRC.out j u hj
      case c2 => intro u hu; exact oneCell_ints .u8 _ u hu
      case c3 => unfold maxLen; omega
      case c4 => omega
      case c5 => simp; omega
      intro v' w1 hown' hgrow hx'
      obtain ⟨g', cap, rfl⟩ := own_sliceW hown' (by omega)
      have hb1 : Below w.heap.size w w1 := (hbel.alloc hsz _).grown hgrow (by simp; omega) (fun k hk => (World.ownsRow_lit (base := w.heap.size) (e := 5) (size := 1) wr #[.int .u8 0] 1 hsz (by decide) rfl).lt k hk |>.1)
      have hs1 : w.heap.size ≤ w1.heap.size := hb1.size
      have HO : Hid (w1.ownsRow w.heap.size 5 1 (.slice (some ⟨g', 0, none⟩) ((((y % 128 + 128 : Nat) : Int) :: tl).length + 1) cap) ((((y % 128 + 128 : Nat) : Int) :: tl).length + 1) (((((y % 128 + 128 : Nat) : Int) :: tl) ++ [z]).map (Value.int .u8))) := by
        show World.ownsRow _ _ _ _ _ _ _
        have e1 : 1 + (tl.length + 1) = (((y % 128 + 128 : Nat) : Int) :: tl).length + 1 := by simp; omega
        rw [e1] at hown'
        have e2 : (128 : Int) + (y : Int) % 128 = (y : Int) % 128 + 128 := by omega
        simpa [e2] using hown'
      have hw : 1 + (tl.length + 1) = (((y % 128 + 128 : Nat) : Int) :: tl).length + 1 := by simp; omega
      rw [hw]
      clear hown' hgrow hx' hown hbel hlt HSRC hz
      go_wp2
      go_roundw
      case rel =>
        obtain ⟨f', rfl, hf', he⟩ := sevH_more HN.out HF.out
        refine ⟨y / 128, f', g', cap, ((y % 128 + 128 : Nat) : Int) :: tl, hf', by omega, by simp; omega, by simp, rfl, HO.out, hb1, hs1, ?_⟩
        rw [← HE.out, he]; simp
      case measure => simp [sLenW]; omega
end Go.Proofs.YtjllcflnmopnpaaDoor
