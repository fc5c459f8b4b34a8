/- spec.PutNum, walked. impl.PutNum, walked. impl.tooLong, walked. spec.PutText and impl.PutText, walked. Requests as texts. Plain, but for what their values are. 'spec.DrawBase64', 'spec.DrawBase64Read', walked: some texts. -/
import Derived.Test.YtdehbaafbbjcgaaGreatDoorJT01
import Derived.Test.YtdehbaafbbjcgaaGreatDoorJT08
import Derived.Test.YtdehbaafbbjcgaaGreatDoorJT03
import Derived.Test.YtdehbaafbbjcgaaGreatDoorJT06
import Derived.Test.YtdehbaafbbjcgaaGreatDoorJT09
import Derived.Test.YtdehbaafbbjcgaaGreatDoorJT04
namespace Go.Proofs.YtdehbaafbbjcgaaGreatDoor
open Go.RowKit


theorem specFold (n : Int) (w : World) (h0 : -9223372036854775808 ≤ n) (h1 : n ≤ 9223372036854775807) :
    Calls Tryz.prog 85 #[.int .i64 n] w fun e w' => e = .returned (.int .u64 (foldI n : Int)) ∧ w' = w := by
  by_cases hn : n < 0
  · go_enter Tryz.func85, Tryz.ntmps85
    go_wp2
    go_ret
    exact ⟨ret_int (by unfold foldI; rw [if_pos hn]; omega), rfl⟩
  · go_enter Tryz.func85, Tryz.ntmps85
    go_wp2
    go_ret
    exact ⟨ret_int (by unfold foldI; rw [if_neg (by omega)]; omega), rfl⟩

theorem putRel {B : Nat} {w wr w1 : World} {v v' : Value} {xs : List Int} {x : Int} (o : Obj) (hB : B ≤ wr.heap.size) (hb : Below B w wr) (hown : wr.ownsRow B 5 1 v xs.length (xs.map (Value.int .u8)))
    (hown' : w1.ownsRow B 5 1 v' (xs.length + 1) (xs.map (Value.int .u8) ++ [Value.int .u8 x])) (hg : (wr.alloc o).grownBy w1 v.ownBlock) :
    w1.ownsRow B 5 1 v' (xs ++ [x]).length ((xs ++ [x]).map (Value.int .u8)) ∧ Below B w w1 ∧ B ≤ w1.heap.size := by
  refine ⟨by simpa using hown', (hb.alloc hB o).grown hg (by simp; omega) (fun k hk => (hown.lt k hk).1), ?_⟩
  have := hg.size
  simp at this
  omega

set_option maxHeartbeats 1000000 in
set_option maxRecDepth 100000 in
theorem specPut (n : Int) (w : World) (h0 : -9223372036854775808 ≤ n) (h1 : n ≤ 9223372036854775807) :
    Calls Tryz.prog 61 #[.int .i64 n] w fun e w' => e = .returned (.string (strOfNums (putF 9 (foldI n)))) ∧ Below w.heap.size w w' := by
  obtain ⟨i0, hi, hz0, hz1, hz2⟩ := info_parts infoByte
  have hf : (foldI n : Int) ≤ 18446744073709551615 := by unfold foldI; split <;> omega
  obtain ⟨u, hu⟩ : ∃ u, u = foldI n := ⟨_, rfl⟩
  rw [← hu] at hf ⊢
  have HU : Hid (u = foldI n) := hu
  clear hu
  go_enter Tryz.func61, Tryz.ntmps61
  go_wp2_with fail
  refine (specFold n _ h0 h1).mono ?_
  rintro e w' ⟨rfl, rfl⟩
  rw [← HU.out]
  go_wp2_with fail
  go_loopw [3, 4] (fun a b wr => ∃ (x f : Nat) (xs : List Int), (x : Int) ≤ 18446744073709551615 ∧ x < pw f ∧ xs.length + f ≤ 9 ∧ a = .int .u64 x ∧ wr.ownsRow w'.heap.size 5 1 b xs.length (xs.map (Value.int .u8)) ∧
      Below w'.heap.size w' wr ∧ w'.heap.size ≤ wr.heap.size ∧ xs ++ putF f x = putF 9 u)
    (fun a _ _ => (intOf a).toNat)
  case atStart =>
    exact ⟨u, 9, [], hf, by rw [pw9]; omega, by simp, rfl, World.ownsRow_made _ #[] 0 (Nat.le_refl _) (Nat.zero_le _) rfl, (Below.refl _ _).alloc (Nat.le_refl _) _, by simp, by simp⟩
  case round =>
    obtain ⟨x, f, xs, hx, hpw, hlen, rfl, hown, hbel, hsz, heq⟩ := hrel
    have HE : Hid (xs ++ putF f x = putF 9 u) := heq
    have HP : Hid (x < pw f) := hpw
    clear heq hpw hf h0 h1
    by_cases hlt : 128 ≤ x
    · go_wp2_with (at_builtin; refine wpList_append_own _ rfl _ _ 22 rfl w'.heap.size 5 i0 (.int .u8 0) 1 1 Tryz.underlying22 hi hz0 hz1 hz2 rfl (by decide) _ _ _ rfl (hown.alloc _) ⟨wr.heap.size, 0, none⟩ 1 1 [.int .u8 ((x : Int) % 128 + 128)] rfl rfl ?c1 ?c2 ?c3 ?c4 ?c5 ?_)
      case c1 => exact cells_one (by simp)
      case c2 => intro u hu; simp at hu; subst hu; rfl
      case c3 => unfold maxLen; omega
      case c4 => omega
      case c5 => simp; omega
      intro v' w1 hown' hgrow _
      have R := putRel _ hsz hbel hown hown' hgrow
      clear hown' hgrow hown hbel
      go_wp2
      go_roundw
      case rel =>
        obtain ⟨g, rfl, hg⟩ := pw_step HP.out hlt
        have he := HE.out
        rw [putF_more hlt] at he
        refine ⟨x / 128, g, xs ++ [(x : Int) % 128 + 128], by omega, hg, by simp; omega, by go_num, R.1, R.2.1, R.2.2, ?_⟩
        rw [List.append_assoc, ← he]
        simp
      case measure => simp [intOf]; omega
    · go_wp2_with (at_builtin; refine wpList_append_own _ rfl _ _ 22 rfl w'.heap.size 5 i0 (.int .u8 0) 1 1 Tryz.underlying22 hi hz0 hz1 hz2 rfl (by decide) _ _ _ rfl (hown.alloc _) ⟨wr.heap.size, 0, none⟩ 1 1 [.int .u8 (x : Int)] rfl rfl ?d1 ?d2 ?d3 ?d4 ?d5 ?_)
      case d1 => exact cells_one (by simp)
      case d2 => intro u hu; simp at hu; subst hu; rfl
      case d3 => unfold maxLen; omega
      case d4 => omega
      case d5 => simp; omega
      intro v' w1 hown' hgrow _
      have R := putRel _ hsz hbel hown hown' hgrow
      clear hown' hgrow hown hbel
      have hcv := run_convert_own (P := Tryz.prog) (src := 22) (dst := 9) Tryz.underlying22 Tryz.underlying5 Tryz.underlying9 R.1
      have HR := R.2.1
      clear R
      go_wp2
      go_ret
      refine ⟨?_, HR⟩
      have he := HE.out
      rw [putF_last (by omega)] at he
      rw [← he]
      rfl
end Go.Proofs.YtdehbaafbbjcgaaGreatDoor
namespace Go.Proofs.YtdehbaafbbjcgaaGreatDoor
open Go.RowKit

theorem implFold (n : Int) (w : World) (h0 : -9223372036854775808 ≤ n) (h1 : n ≤ 9223372036854775807) :
    Calls Tryz.prog 81 #[.int .i64 n] w fun e w' => e = .returned (.int .u64 (foldI n : Int)) ∧ w' = w := by
  by_cases hn : n < 0
  · go_enter Tryz.func81, Tryz.ntmps81
    go_wp2
    go_ret
    exact ⟨ret_int (fold_bits_neg n h0 hn), rfl⟩
  · go_enter Tryz.func81, Tryz.ntmps81
    go_wp2
    go_ret
    exact ⟨ret_int (fold_bits_pos n h1 (by omega)), rfl⟩

theorem arr10 : Tryz.prog.arrayLen 87 = 10 := by kernel_rfl
theorem size_elem10 (w : World) : (sizeOf (Tryz.prog.elem 87)).run Tryz.prog w = .ok 1 w := by kernel_rfl
theorem under10 : Tryz.prog.underlying 87 = some (.array (Tryz.prog.arrayLen 87) (Tryz.prog.elem 87)) := by kernel_rfl
theorem slice10 (w : World) (b k : Nat) (hk : k < 10) :
    (Instr.sliceAt 87 (.pointer (some ⟨b, 0, none⟩)) none (some (.int .i64 ((k : Int) + 1))) none).run Tryz.prog w = .ok (.slice (some ⟨b, 0, none⟩) (k + 1) 10) w := by
  rw [run_sliceAt_array_h w _ _ under10 .i64 _ (by omega) (by rw [arr10]; omega), size_elem10]
  simp only [Result.andThen_ok, slicedAt, arr10]
  simp [Addr.add]

set_option maxHeartbeats 1000000 in
set_option maxRecDepth 100000 in
theorem implPut (n : Int) (w : World) (h0 : -9223372036854775808 ≤ n) (h1 : n ≤ 9223372036854775807) :
    Calls Tryz.prog 58 #[.int .i64 n] w fun e w' => e = .returned (.string (strOfNums (putF 9 (foldI n)))) ∧ Below w.heap.size w w' := by
  have hf : (foldI n : Int) ≤ 18446744073709551615 := by unfold foldI; split <;> omega
  obtain ⟨u, hu⟩ : ∃ u, u = foldI n := ⟨_, rfl⟩
  rw [← hu] at hf ⊢
  have HU : Hid (u = foldI n) := hu
  clear hu
  go_enter Tryz.func58, Tryz.ntmps58
  go_wp2_with fail
  refine (implFold n _ h0 h1).mono ?_
  rintro e w' ⟨rfl, rfl⟩
  rw [← HU.out]
  go_wp2_with fail
  go_loopw [4, 5] (fun s a wr => ∃ (x f : Nat) (xs : List Int) (L : List Value), (x : Int) ≤ 18446744073709551615 ∧ x < pw f ∧ xs.length + f ≤ 9 ∧ s = .int .i64 xs.length ∧ a = .int .u64 x ∧
      wr.ownsRow w.heap.size 87 1 (.slice (some ⟨w.heap.size, 0, none⟩) 10 10) 10 L ∧ (∀ j, j < xs.length → L[j]? = some (.int .u8 (xs.getD j 0))) ∧ Below w.heap.size w wr ∧ xs ++ putF f x = putF 9 u)
    (fun _ a _ => (intOf a).toNat)
  case atStart =>
    exact ⟨u, 9, [], _, hf, by rw [pw9]; omega, by simp, rfl, rfl, World.ownsRow_lit _ _ 10 (Nat.le_refl _) (by decide) rfl, by simp, (Below.refl _ _).alloc (Nat.le_refl _) _, by simp⟩
  case round =>
    obtain ⟨x, f, xs, L, hx, hpw, hlen, rfl, rfl, hown, hL, hbel, heq⟩ := hrel
    have HE : Hid (xs ++ putF f x = putF 9 u) := heq
    have HP : Hid (x < pw f) := hpw
    have HL : Hid (∀ j, j < xs.length → L[j]? = some (.int .u8 (xs.getD j 0))) := hL
    have hlL : L.length = 10 := by simpa using hown.1
    have hc := hown.cellAt xs.length (by omega)
    rw [List.getElem?_eq_getElem (by omega)] at hc
    obtain ⟨v0, hv0⟩ : ∃ v, wr.cell? ⟨w.heap.size, xs.length, none⟩ = some v := ⟨_, hc⟩
    have hfz := hown.frozenAt xs.length
    have hor := or128 x
    clear heq hpw hL hf h0 h1 hc hlL
    have hst := fun v => hown.stored xs.length v
    have HS : Hid (∀ v, (wr.setCell ⟨w.heap.size, xs.length, none⟩ v).ownsRow w.heap.size 87 1 (.slice (some ⟨w.heap.size, 0, none⟩) 10 10) 10 (L.set xs.length v)) := fun v => (hst v).1
    have hb2 : Hid (∀ v, Below w.heap.size w (wr.setCell ⟨w.heap.size, xs.length, none⟩ v)) := fun v => hbel.setCell (Nat.le_refl _) v
    have HL2 : Hid (∀ y : Int, ∀ j, j < (xs ++ [y]).length → (L.set xs.length (.int .u8 y))[j]? = some (.int .u8 ((xs ++ [y]).getD j 0))) := fun y => set_reads (by have := hown.1; omega) HL.out
    clear hst hown hbel HL
    by_cases hlt : 128 ≤ x
    · go_wp2
      go_roundw
      case rel =>
        obtain ⟨g, rfl, hg⟩ := pw_step HP.out hlt
        have he := HE.out
        rw [putF_more hlt] at he
        refine ⟨x / 128, g, xs ++ [(x : Int) % 128 + 128], _, by omega, hg, by simp; omega, by simp, by go_num, HS.out _, HL2.out _, hb2.out _, ?_⟩
        rw [List.append_assoc, ← he]
        simp
      case measure => simp [intOf]; omega
    · have hcv : ∀ W : World, (∀ j, j < xs.length + 1 → W.cell? ⟨w.heap.size, j, none⟩ = some (.int .u8 ((xs ++ [(x : Int)]).getD j 0))) →
          (convert 22 9 (.slice (some ⟨w.heap.size, 0, none⟩) (xs.length + 1) 10)).run Tryz.prog W = .ok (.string (strOfNums (xs ++ [(x : Int)]))) W := fun W hW =>
        run_convert_bytes_arg W 22 5 Tryz.underlying22 Tryz.underlying5 w.heap.size 0 (xs.length + 1) 10 (xs ++ [(x : Int)]) (by simp) (fun j hj => by rw [Nat.zero_add]; exact hW j hj) 9 Tryz.underlying9
      have hcv1 := hcv (wr.setCell ⟨w.heap.size, xs.length, none⟩ (.int .u8 (x : Int))) (fun j hj => by
        rw [(HS.out (.int .u8 (x : Int))).cellAt j (by omega), HL2.out (x : Int) j (by simpa using hj)])
      have hsl := fun W => slice10 W w.heap.size xs.length (by omega)
      clear hcv
      go_wp2
      go_ret
      refine ⟨?_, hb2.out _⟩
      have he := HE.out
      rw [putF_last (by omega)] at he
      rw [← he]
      rfl
end Go.Proofs.YtdehbaafbbjcgaaGreatDoor
namespace Go.Proofs.YtdehbaafbbjcgaaGreatDoor
open Go.RowKit

theorem tooLong (s : ByteArray) (w : World) (hs : s.size ≤ maxLen) :
    Calls Tryz.prog 23 #[.string s] w fun e w' => e = .returned (.bool (decide (20000 < s.size))) ∧ w' = w := by
  unfold maxLen at hs
  go_enter Tryz.func23, Tryz.ntmps23
  go_wp2
  go_ret
  exact ⟨by simp; omega, rfl⟩
end Go.Proofs.YtdehbaafbbjcgaaGreatDoor
namespace Go.Proofs.YtdehbaafbbjcgaaGreatDoor
open Go.RowKit

theorem putF_lenT (f x : Nat) : (putF f x).length ≤ f + 1 := by
  induction f generalizing x with
  | zero => simp [putF]
  | succ f ih =>
    rw [putF]
    split
    · simp
    · simpa using ih (x / 128)
theorem putStr_size (f x : Nat) : (strOfNums (putF f x)).size ≤ f + 1 := by
  have := putF_lenT f x
  simpa [strOfNums, ByteArray.size] using this


set_option maxRecDepth 100000 in
theorem specPutText (t : ByteArray) (w : World) (hs : t.size ≤ 20000) :
    Calls Tryz.prog 63 #[.string t] w fun e w' => e = .returned (.string (strOfNums (putF 9 (foldI t.size)) ++ t)) ∧ Below w.heap.size w w' := by
  have hl := putStr_size 9 (foldI t.size)
  go_enter Tryz.func63, Tryz.ntmps63
  go_wp2_with fail
  refine (specPut _ _ (by omega) (by omega)).mono ?_
  rintro e w1 ⟨rfl, hb1⟩
  generalize hse : strOfNums (putF 9 (foldI t.size)) = s at *
  have HE : Hid (strOfNums (putF 9 (foldI t.size)) = s) := hse
  clear hse
  have hadd := fun W => run_string_add_sum (P := Tryz.prog) (w := W) s t (by omega)
  go_wp2
  go_ret
  exact ⟨by rw [HE.out]; rfl, hb1⟩
theorem specPutText_long (t : ByteArray) (w : World) (hs : 20000 < t.size) (hm : t.size ≤ maxLen) :
    Calls Tryz.prog 63 #[.string t] w fun e w' => e = .returned (.string ByteArray.empty) ∧ w' = w := by
  unfold maxLen at hm
  go_enter Tryz.func63, Tryz.ntmps63
  go_wp2
  go_ret
  exact ⟨rfl, rfl⟩
set_option maxRecDepth 100000 in
theorem implPutText (t : ByteArray) (w : World) (hs : t.size ≤ 20000) :
    Calls Tryz.prog 59 #[.string t] w fun e w' => e = .returned (.string (strOfNums (putF 9 (foldI t.size)) ++ t)) ∧ Below w.heap.size w w' := by
  have hl := putStr_size 9 (foldI t.size)
  have hd : decide (20000 < t.size) = false := by simp; omega
  go_enter Tryz.func59, Tryz.ntmps59
  go_wp2_with fail
  refine (tooLong t _ (by unfold maxLen; omega)).mono ?_
  rintro e w' ⟨rfl, rfl⟩
  go_wp2_with fail
  refine (implPut _ _ (by omega) (by omega)).mono ?_
  rintro e w1 ⟨rfl, hb1⟩
  generalize hse : strOfNums (putF 9 (foldI t.size)) = s at *
  have HE : Hid (strOfNums (putF 9 (foldI t.size)) = s) := hse
  clear hse
  go_wp2_with fail
  refine (joinTexts s t _ (by omega) (by omega)).mono ?_
  rintro e w2 ⟨rfl, hb2⟩
  have HB : Hid (Below w'.heap.size w' w2) := hb1.trans (hb2.mono hb1.size)
  clear hb1 hb2
  go_wp2
  go_ret
  exact ⟨by rw [HE.out]; rfl, HB.out⟩
theorem implPutText_long (t : ByteArray) (w : World) (hs : 20000 < t.size) (hm : t.size ≤ maxLen) :
    Calls Tryz.prog 59 #[.string t] w fun e w' => e = .returned (.string ByteArray.empty) ∧ w' = w := by
  have hd : decide (20000 < t.size) = true := by simp; omega
  go_enter Tryz.func59, Tryz.ntmps59
  go_wp2_with fail
  refine (tooLong t _ hm).mono ?_
  rintro e w' ⟨rfl, rfl⟩
  go_wp2
  go_ret
  exact ⟨rfl, rfl⟩
end Go.Proofs.YtdehbaafbbjcgaaGreatDoor
namespace Go.Proofs.YtdehbaafbbjcgaaGreatDoor
open Go.RowKit Go.Lib

/-- A text behind its length. -/
def putTx (t : ByteArray) : ByteArray := strOfNums (putF 9 (foldI t.size)) ++ t
def dotD : ByteArray := ⟨#[46]⟩
def jHead (key nonce : Int) (url : ByteArray) : ByteArray := putS key ++ putS nonce ++ putTx url
/-- The first two parts. -/
def jTwo (key nonce : Int) (url body : ByteArray) : ByteArray := b64D (jHead key nonce url) ++ dotD ++ b64D body
def jText (key nonce : Int) (url body : ByteArray) (e s : Int) : ByteArray := jTwo key nonce url body ++ dotD ++ b64D (putS e ++ putS s)
def jV (key nonce : Int) (url body : ByteArray) (sk se ss : Int) : Value := .agg #[.int .i64 key, .int .i64 nonce, .string url, .string body, .int .i64 sk, .int .i64 se, .int .i64 ss]
theorem b64D_size (s : ByteArray) : (b64D s).size ≤ 2 * s.size := by
  unfold b64D
  rw [strOfNums_size]
  have := b64I_len (bts s)
  rw [bts_len] at this
  exact this
theorem putTx_size (t : ByteArray) : (putTx t).size ≤ 10 + t.size := by
  have := putStr_size 9 (foldI t.size)
  rw [putTx, ByteArray.size_append]
  omega
theorem jHead_size (key nonce : Int) (url : ByteArray) : (jHead key nonce url).size ≤ 30 + url.size := by
  have h1 := putS_size key
  have h2 := putS_size nonce
  have h3 := putTx_size url
  rw [jHead, ByteArray.size_append, ByteArray.size_append]
  omega
theorem jTwo_size (key nonce : Int) (url body : ByteArray) : (jTwo key nonce url body).size ≤ 61 + 2 * url.size + 2 * body.size := by
  have h1 := b64D_size (jHead key nonce url)
  have h2 := b64D_size body
  have h3 := jHead_size key nonce url
  have h4 : dotD.size = 1 := rfl
  rw [jTwo, ByteArray.size_append, ByteArray.size_append, h4]
  omega
/-- Is what is asked right, whatever its signature is? -/
noncomputable def rqB (key nonce : Int) (url body : ByteArray) : Bool := rightG key && (timeB nonce && (nameB url && decide (body.size ≤ 2000)))
/-- What JwsSign tells. -/
noncomputable def jSign (x nonce : Int) (url body : ByteArray) : ByteArray :=
  if secB x = true ∧ timeB nonce = true ∧ nameB url = true ∧ body.size ≤ 2000 then
    jText (pubA x) nonce url body (signE x.toNat (jTwo (pubA x) nonce url body)) (signS x.toNat (jTwo (pubA x) nonce url body))
  else ⟨#[]⟩
theorem pub_rqB (x nonce : Int) (url body : ByteArray) : rqB (pubA x) nonce url body = (secB x && (timeB nonce && (nameB url && decide (body.size ≤ 2000)))) := by
  unfold rqB
  by_cases h : secB x = true
  · obtain ⟨n, rfl, h1, h2⟩ := secB_nat h
    rw [pubA_nat n h, pub_right h1 h2, h]
  · have e : rightG 0 = false := rightG_out (by omega)
    rw [pubA, if_neg h, e]
    rw [Bool.not_eq_true] at h
    rw [h]
open Classical in
theorem jurl_size {url : ByteArray} (h : nameB url = true) : url.size ≤ 40 := by
  unfold nameB at h
  have := of_decide_eq_true h
  exact this.2.1
end Go.Proofs.YtdehbaafbbjcgaaGreatDoor
namespace Go.Proofs.YtdehbaafbbjcgaaGreatDoor
open Go.RowKit

theorem made_bytesJ (n : Nat) : (madeCells #[Value.int IntKind.u8 0] n).toList = (List.replicate n (0 : Int)).map (Value.int .u8) := by
  rw [toList_madeCells_one, List.map_replicate]
theorem base64D_le (s : ByteArray) : (base64D s).size ≤ 2 * s.size := by
  unfold base64D
  split
  · exact Nat.zero_le _
  · exact b64D_size s
set_option maxRecDepth 100000 in
set_option maxHeartbeats 2000000 in
theorem drawBase64 (a : Option Addr) (len cap : Nat) (w : World) (hlen : len ≤ 1048576) (hc : CodeAt a len w) (hblk : ∀ x, 0 < len → a = some x → x.block < w.heap.size) :
    Calls Tryz.prog 4 #[.slice a len cap] w fun e w' => UpT 4002 e ∧ Below w.heap.size w w' := by
  obtain ⟨i0, hi, hz0, hz1', hz2'⟩ := info_parts infoByte
  have HC : Hid (CodeAt a len w) := hc
  have HBk : Hid (∀ x, 0 < len → a = some x → x.block < w.heap.size) := hblk
  clear hc hblk
  go_enter Tryz.func4, Tryz.ntmps4
  go_wp2_with fail
  refine (ss_source a len cap _ hlen HC.out HBk.out).mono ?_
  rintro e w1 ⟨rfl, h1⟩
  have H1 : Hid (SS w a len cap w1) := h1
  clear h1
  go_wp2_with fail
  refine (ss_one 15 (by omega) H1.out).mono ?_
  rintro e w2 ⟨hb, h2⟩
  have H2 : Hid (SS w a len cap w2) := h2
  clear h2
  rcases hb with rfl | rfl
  · go_wp2_with fail
    refine (ss_n 3 (by omega) H2.out).mono ?_
    rintro e w3 ⟨r, rfl, hr, h3, _⟩
    have H3 : Hid (SS w a len cap w3) := h3
    obtain ⟨v, hv, hvr⟩ : ∃ v : Nat, v ≤ 4001 ∧ IntKind.i64.wrap (3999 + (r : Int)) = (v : Int) := ⟨3999 + r, by omega, by rw [IntKind.wrap_i64]; omega⟩
    clear h3 hr
    go_wp2_with (at_make; refine wpList_make_full _ rfl _ _ 22 rfl w3.heap.size 5 i0 (.int .u8 0) 1 Tryz.underlying22 hi hz0 hz1' .i64 .i64 _ _ v rfl rfl ?c1 ?c2 ?c3 ?c4 ?c5 ?_)
    case c1 => omega
    case c2 => omega
    case c3 => rw [hz2']; omega
    case c4 => unfold maxLen; omega
    case c5 => exact Nat.le_refl _
    intro w4 hown hgrow
    have B4 : Hid (Below w.heap.size w w4) := H3.out.2.1.grown hgrow (Nat.le_of_lt H3.out.2.2.1) (fun k hk => by cases hk)
    rw [made_bytesJ] at hown
    have hcv := run_convert_own (P := Tryz.prog) (src := 22) (dst := 9) Tryz.underlying22 Tryz.underlying5 Tryz.underlying9 hown
    have hsz : (strOfNums (List.replicate v (0 : Int))).size ≤ 4002 := by rw [size_nums, List.length_replicate]; omega
    generalize strOfNums (List.replicate v (0 : Int)) = u at *
    clear hown hgrow
    go_wp2
    go_ret
    exact ⟨⟨u, hsz, rfl⟩, B4.out⟩
  · go_wp2_with fail
    refine (ss_n 12 (by omega) H2.out).mono ?_
    rintro e w3 ⟨r, rfl, hr, h3, _⟩
    have H3 : Hid (SS w a len cap w3) := h3
    have hr' : r ≤ 12 := by omega
    clear h3 hr
    go_wp2_with fail
    refine (ss_bytes r (by omega) H3.out).mono ?_
    rintro e w4 ⟨⟨t, ht, rfl⟩, h4⟩
    have B4 : Hid (Below w.heap.size w w4) := h4.2.1
    clear h4
    go_wp2
    go_ret
    exact ⟨⟨t, by omega, rfl⟩, B4.out⟩
set_option maxRecDepth 100000 in
set_option maxHeartbeats 2000000 in
theorem drawBase64Read (a : Option Addr) (len cap : Nat) (w : World) (hlen : len ≤ 1048576) (hc : CodeAt a len w) (hblk : ∀ x, 0 < len → a = some x → x.block < w.heap.size) :
    Calls Tryz.prog 8 #[.slice a len cap] w fun e w' => UpT 40 e ∧ Below w.heap.size w w' := by
  have HC : Hid (CodeAt a len w) := hc
  have HBk : Hid (∀ x, 0 < len → a = some x → x.block < w.heap.size) := hblk
  clear hc hblk
  go_enter Tryz.func8, Tryz.ntmps8
  go_wp2_with fail
  refine (ss_source a len cap _ hlen HC.out HBk.out).mono ?_
  rintro e w1 ⟨rfl, h1⟩
  have H1 : Hid (SS w a len cap w1) := h1
  clear h1
  go_wp2_with fail
  refine (ss_n 12 (by omega) H1.out).mono ?_
  rintro e w2 ⟨r, rfl, hr, h2, _⟩
  have H2 : Hid (SS w a len cap w2) := h2
  have hr' : r ≤ 12 := by omega
  clear h2 hr
  go_wp2_with fail
  refine (ss_bytes r (by omega) H2.out).mono ?_
  rintro e w3 ⟨⟨t, ht, rfl⟩, h3⟩
  have H3 : Hid (SS w a len cap w3) := h3
  clear h3
  go_wp2_with fail
  refine (specBase64 t _ (by unfold maxLen; omega)).mono ?_
  rintro e w4 ⟨rfl, h4⟩
  have H4 : Hid (SS w a len cap w4) := H3.out.keep h4
  have hz := base64D_le t
  generalize base64D t = u at *
  have hu : u.size ≤ 24 := by omega
  clear h4 hz
  go_wp2_with fail
  refine (ss_n 4 (by omega) H4.out).mono ?_
  rintro e w5 ⟨q, rfl, hq, h5, _⟩
  have H5 : Hid (SS w a len cap w5) := h5
  have hq' : q = 0 ∨ q = 1 ∨ 1 < q := by omega
  have B5 : Hid (Below w.heap.size w w5) := h5.2.1
  clear h5 hq
  rcases hq' with rfl | rfl | hq'
  · go_wp2_with fail
    refine (ss_spoil u (by omega) H5.out).mono ?_
    rintro e w6 ⟨⟨v, hv, rfl⟩, h6⟩
    have B6 : Hid (Below w.heap.size w w6) := h6.2.1
    clear h6
    go_wp2
    go_ret
    exact ⟨⟨v, by omega, rfl⟩, B6.out⟩
  · go_wp2_with fail
    refine (ss_pick 7 _ 5 _ [⟨#[65]⟩, ⟨#[65, 66]⟩, ⟨#[65, 65, 61, 61]⟩, ⟨#[65, 65, 65]⟩, ⟨#[45, 95, 45, 95]⟩, ⟨#[65, 65, 66]⟩, ⟨#[65, 32, 65]⟩] H5.out rfl (by omega) (by omega) (by decide)).mono ?_
    rintro e w6 ⟨⟨v, hv, rfl⟩, h6⟩
    have B6 : Hid (Below w.heap.size w w6) := h6.2.1
    clear h6
    go_wp2
    go_ret
    exact ⟨⟨v, by omega, rfl⟩, B6.out⟩
  · have q1 : ((q : Int) == 0) = false := by rw [beq_eq_false_iff_ne]; omega
    have q2 : ((q : Int) == 1) = false := by rw [beq_eq_false_iff_ne]; omega
    go_wp2
    go_ret
    exact ⟨⟨u, by omega, rfl⟩, B5.out⟩
end Go.Proofs.YtdehbaafbbjcgaaGreatDoor
