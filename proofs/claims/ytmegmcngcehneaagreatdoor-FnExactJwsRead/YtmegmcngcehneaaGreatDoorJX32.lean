/- impl.readSigns, walked. -/
import Derived.Test.YtmegmcngcehneaaGreatDoorJX31
namespace Go.Proofs.YtmegmcngcehneaaGreatDoor
open Go.RowKit Go.Lib Go.Maps

theorem OwnB.far {w w' : World} {B : Nat} {v : Value} {l : List Nat} (h : OwnB w B v l) (hs : ∀ k, B ≤ k → k < w.heap.size → w'.heap[k]? = w.heap[k]?) : OwnB w' B v l := by
  refine ⟨h.1, ?_⟩
  rcases h.2 with h | ⟨g, cap, cur, e, h1, h2, h3⟩
  · exact .inl h
  · exact .inr ⟨g, cap, cur, e, h1, by rw [hs g h1 (heap_lt h2)]; exact h2, h3⟩
theorem OwnB.mono {w : World} {B B' : Nat} {v : Value} {l : List Nat} (h : OwnB w B v l) (hB : B' ≤ B) : OwnB w B' v l := by
  refine ⟨h.1, ?_⟩
  rcases h.2 with h | ⟨g, cap, cur, e, h1, h2⟩
  · exact .inl h
  · exact .inr ⟨g, cap, cur, e, Nat.le_trans hB h1, h2⟩
set_option linter.unusedSimpArgs false in
set_option maxHeartbeats 4000000 in
set_option maxRecDepth 100000 in
theorem implReadSigns (s : ByteArray) (w : World) (hs : s.size ≤ 20000) :
    Calls Tryz.prog 53 #[.string s] w fun e w' => ∃ v, e = .returned (.tuple #[v, .bool (readV (bts s)).isSome]) ∧ OwnB w' w.heap.size v ((readV (bts s)).getD []) ∧ Below w.heap.size w w' := by
  obtain ⟨i0, hi, hz0, hz1, hz2⟩ := info_parts infoByte
  obtain ⟨R, hR⟩ : ∃ R, R = readV (bts s) := ⟨_, rfl⟩
  rw [← hR]
  have HR : Hid (R = (readV ((bts s).drop 0)).map fun vs => [] ++ vs) := by
    show _ = _
    rw [hR]
    simp
  have HM : Hid (∀ V, Calls Tryz.prog 70 #[] V fun e w' => e = .returned (.map (some V.heap.size)) ∧ w'.ownsMap Tryz.prog 21 (plainElem Tryz.prog 5) V.heap.size 64 (sgD 64) ∧ Below V.heap.size V w') := fun V => signVals V
  clear hR
  go_enter Tryz.func53, Tryz.ntmps53
  go_wp2_with fail
  refine (HM.out w).mono ?_
  rintro e w2 ⟨rfl, hm2, b2⟩
  have HM2 : Hid (w2.ownsMap Tryz.prog 21 (plainElem Tryz.prog 5) w.heap.size 64 (sgD 64)) := hm2
  have HB2 : Hid (Below w.heap.size w w2) := b2
  have hlt2 : w.heap.size < w2.heap.size := hm2.lt
  have L2 : Hid (w.heap.size < w2.heap.size) := hlt2
  clear hm2 b2 hlt2 HM
  go_wp2
  go_loopw [4] (fun v wr => ∃ (k : Nat) (pre : List Nat), k ≤ s.size ∧ pre.length = k ∧ wr.heap[w2.heap.size]? = some (.stringIter s k) ∧ wr.ownsMap Tryz.prog 21 (plainElem Tryz.prog 5) w.heap.size 64 (sgD 64) ∧ OwnB wr (w2.heap.size + 1) v pre ∧ (R = (readV ((bts s).drop k)).map fun vs => pre ++ vs) ∧ Below w.heap.size w wr) (fun _ wr => s.size - wr.iterPos w2.heap.size)
  case atStart =>
    exact ⟨0, [], Nat.zero_le _, rfl, World.iter_heap w2 s 0, World.ownsMap.alloc (show w2.ownsMap _ _ _ _ _ _ from HM2.out) _, ownB_nil _ _, HR.out, HB2.out.alloc (Nat.le_of_lt L2.out) _⟩
  case round =>
    obtain ⟨k, pre, hk, hpk, hit, hown, hob, hat, hbel⟩ := hrel
    have HP : Hid (wr.iterPos w2.heap.size = k) := by show _ = _; simp [World.iterPos, hit]
    have HT : Hid (R = (readV ((bts s).drop k)).map fun vs => pre ++ vs) := hat
    have HO : Hid (OwnB wr (w2.heap.size + 1) _ pre) := hob
    have HB : Hid (Below w.heap.size w wr) := hbel
    clear hat hob hbel HR HM2 HB2
    obtain ⟨va, vc, rfl, _⟩ := OwnB.form HO.out
    rw [hpk] at HO ⊢
    have HPk : Hid (pre.length = k) := hpk
    clear hpk
    by_cases hlt : k < s.size
    rotate_left
    · obtain rfl : k = s.size := by omega
      have hRs : R = some pre := by rw [HT.out, bts_end s _ (Nat.le_refl _)]; simp [readV]
      have HF : Hid (R.isSome = true ∧ R.getD [] = pre) := by rw [hRs]; exact ⟨rfl, rfl⟩
      have hnx := fun ty => run_next_end_at (P := Tryz.prog) wr w2.heap.size s s.size ty hit (by omega)
      clear hit hown hRs HT
      go_wp2
      go_ret2
      exact ⟨_, by rw [HF.out.1]; rfl, by rw [HF.out.2]; exact HO.out.mono (by have := L2.out; omega), HB.out⟩
    obtain ⟨z, hz⟩ : ∃ z, z = s[k].toNat := ⟨_, rfl⟩
    have hdr := bts_drop s k hlt
    rw [← hz] at hdr
    obtain ⟨ρ, hρ⟩ : ∃ ρ, ρ = (Utf8.decode s k).1 := ⟨_, rfl⟩
    have hρm : ρ ≤ 1114111 := by rw [hρ]; exact rune_le s k
    have hkey : keyOf Tryz.prog 21 (.int .i32 (ρ : Int)) = some (.int .i32 (ρ : Int)) := keyOf_int_mk Tryz.underlying21 (WalkArith.wf_i32 (by omega))
    have hnx : ∀ ty, (Instr.next (.pointer (some ⟨w2.heap.size, 0, none⟩)) true ty).run Tryz.prog wr = .ok (.tuple #[.bool true, .int .i64 (k : Int), .int .i32 (ρ : Int)]) (wr.iterAt w2.heap.size s (k + (Utf8.decode s k).2)) := fun ty => by
      have := run_next_any_at (P := Tryz.prog) wr w2.heap.size s k ty hit hlt
      rw [this, hρ]
    obtain ⟨w3, hw3⟩ : ∃ y, y = wr.iterAt w2.heap.size s (k + (Utf8.decode s k).2) := ⟨_, rfl⟩
    have hown3 : w3.ownsMap Tryz.prog 21 (plainElem Tryz.prog 5) w.heap.size 64 (sgD 64) := by rw [hw3]; exact ownsMap_iterAt hown (by have := L2.out; omega)
    have HB3 : Hid (Below w.heap.size w w3) := by rw [hw3]; exact below_iterAt HB.out (Nat.le_of_lt L2.out) _ _
    have HI3 : Hid (w3.heap[w2.heap.size]? = some (.stringIter s (k + (Utf8.decode s k).2))) := by rw [hw3]; exact iterAt_heap wr _ _ _ _ hit
    have HO3 : Hid (OwnB w3 (w2.heap.size + 1) (.slice va k vc) pre) := by rw [hw3]; exact HO.out.far fun j hj _ => iterAt_other wr _ _ _ _ (by omega)
    have HS3 : Hid (w2.heap.size < w3.heap.size) := (Array.getElem?_eq_some_iff.1 HI3.out).1
    rw [← hw3] at hnx
    have HM3 : Hid (w3.ownsMap Tryz.prog 21 (plainElem Tryz.prog 5) w.heap.size 64 (sgD 64)) := hown3
    by_cases hgood : ∃ q, z < 128 ∧ sgi z = some q
    rotate_left
    · have hno : sgi z = none := by
        cases hh : sgi z with
        | none => rfl
        | some q =>
          have h1 := sgi_some hh
          have h2 := sg_range ⟨q, h1.1⟩
          simp only at h2
          exact absurd ⟨q, by omega, hh⟩ hgood
      have hRn : R = none := by rw [HT.out, hdr, readV, hno]; rfl
      have HF : Hid (R.isSome = false ∧ R.getD [] = []) := by rw [hRn]; exact ⟨rfl, rfl⟩
      have hhas : Maps.has (sgD 64) (.int .i32 (ρ : Int)) = false := by
        refine sgD_none 64 _ fun q hq => ?_
        by_cases hzl : z < 128
        · have e : ρ = z := by
            rw [hρ, decode_ascii s k hlt (by omega), hz]
          rw [e]
          exact sgi_none hno q hq
        · have h1 := (decode_high s k hlt (by omega)).1
          have h2 := sg_range ⟨q, hq⟩
          simp only at h2
          omega
      clear hit hown hρ hdr hRn HT HO hw3 hno hgood hz hρm HM3
      go_wp2_with (at_lookup; refine wpList_lookup_own_ok_int _ rfl _ _ 87 rfl 21 5 .u8 lawR Tryz.underlying87 Tryz.underlying5 (zeroB _) w.heap.size 64 _ rfl hown3 _ _ rfl hkey ?_; intro cc hatc hwc)
      clear hatc hwc hown3
      go_wp2
      go_ret2
      exact ⟨_, by rw [HF.out.1]; rfl, by rw [HF.out.2]; exact ownB_nil _ _, HB3.out⟩
    obtain ⟨q, hz1', hq⟩ := hgood
    have e : ρ = z := by rw [hρ, decode_ascii s k hlt (by omega), hz]
    have e2 : (Utf8.decode s k).2 = 1 := by rw [decode_ascii s k hlt (by omega)]
    rw [e2] at HI3
    have hqs := sgi_some hq
    have hsome := sgD_some 64 q hqs.1 (Nat.le_refl _)
    rw [hqs.2, ← e] at hsome
    have hhas := hsome.1
    have HAt : Hid (∀ zz, (sgD 64).atKey (.int .i32 (ρ : Int)) zz = .lit (.int .u8 (q : Int))) := hsome.2
    have HT3 : Hid (R = (readV ((bts s).drop (k + 1))).map fun vs => (pre ++ [q]) ++ vs) := by
      show _ = _
      rw [HT.out, hdr, readV, hq]
      cases readV ((bts s).drop (k + 1)) <;> simp
    have hO : w3.ownsRow (w2.heap.size + 1) 5 1 (.slice va k vc) k ((pre.map (fun x : Nat => (x : Int))).map (Value.int .u8)) := by
      have h2 := HO3.out
      unfold OwnB at h2
      rw [HPk.out] at h2
      exact h2
    clear hit hown hρ hdr HT HO hw3 hz hsome e e2 hqs hq hz1' hρm
    go_wp2_with (first
      | (at_lookup; refine wpList_lookup_own_ok_int _ rfl _ _ 87 rfl 21 5 .u8 lawR Tryz.underlying87 Tryz.underlying5 (zeroB _) w.heap.size 64 _ rfl hown3 _ _ rfl hkey ?_; intro cc hatc hwc)
      | (at_builtin; refine wpList_append_own _ rfl _ _ 59 rfl (w2.heap.size + 1) 5 i0 (.int .u8 0) 1 1 Tryz.underlying59 hi hz0 hz1 hz2 rfl (by decide) _ _ _ rfl (hO.alloc _) ⟨w3.heap.size, 0, none⟩ 1 1 [.int .u8 cc] rfl rfl (cells_one (by simp)) (by simp [Value.oneCell']) (by unfold maxLen; omega) (by omega) (by have := HS3.out; simp; omega) ?_))
    obtain rfl : cc = (q : Int) := by
      have h1 := HAt.out (.lit (.int .u8 0))
      rw [h1] at hatc
      injection hatc with h2
      injection h2 with _ h3
      exact h3.symm
    have HM4 := HM3
    clear hatc hwc hown3
    intro y w4 hown4 hgrow4 _
    have hba : Below (w2.heap.size + 1) w3 w4 := ((Below.refl _ w3).alloc (by have := HS3.out; omega) _).grown hgrow4 (by have := HS3.out; simp; omega) (fun j hj => (hO.lt j hj).1)
    have HB4 : Hid (Below w.heap.size w w4) := HB3.out.trans (hba.mono (by have := L2.out; omega))
    have HI4 : Hid (w4.heap[w2.heap.size]? = some (.stringIter s (k + 1))) := (hba.block _ (by omega)).trans HI3.out
    have HM5 : Hid (w4.ownsMap Tryz.prog 21 (plainElem Tryz.prog 5) w.heap.size 64 (sgD 64)) := by
      obtain ⟨es, clock, hb, rest⟩ := HM4.out
      exact ⟨es, clock, (hba.block _ (by have := L2.out; omega)).trans hb, rest⟩
    have HO4 : Hid (OwnB w4 (w2.heap.size + 1) y (pre ++ [q])) := by
      show World.ownsRow _ _ _ _ _ _ _
      rw [List.length_append, HPk.out]
      simpa [List.map_append] using hown4
    clear hgrow4 hown4 hO hba HB3 HI3 HM4 HO3
    go_wp2
    go_roundw
    case rel => exact ⟨k + 1, _, by omega, by rw [List.length_append, HPk.out]; rfl, HI4.out, HM5.out, HO4.out, HT3.out, HB4.out⟩
    case measure =>
      have e : w4.iterPos w2.heap.size = k + 1 := by simp [World.iterPos, HI4.out]
      rw [e, HP.out]
      omega
end Go.Proofs.YtmegmcngcehneaaGreatDoor
