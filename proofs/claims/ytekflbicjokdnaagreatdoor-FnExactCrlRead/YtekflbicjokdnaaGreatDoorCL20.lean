/- impl.bodyAt, walked. impl.numberOf, impl.DerIntRead, walked. impl.readNames, walked. impl.readSerials, walked. errors.As with the world by what it keeps, beside the reading of a number. impl.GetNum at every argument. -/
import Derived.Test.YtekflbicjokdnaaGreatDoorCL05
import Derived.Test.YtekflbicjokdnaaGreatDoorCL19
import Derived.Test.YtekflbicjokdnaaGreatDoorCL09
import Derived.Test.YtekflbicjokdnaaGreatDoorCL15
import Derived.Test.YtekflbicjokdnaaGreatDoorCL01
import Derived.Test.YtekflbicjokdnaaGreatDoorCL08
import Derived.Test.YtekflbicjokdnaaGreatDoorCL11
import Derived.Test.YtekflbicjokdnaaGreatDoorCL10
import Derived.Test.YtekflbicjokdnaaGreatDoorCL16
namespace Go.Proofs.YtekflbicjokdnaaGreatDoor
open Go.RowKit

/-- The places ks lie in block g. -/
def IsPl (w : World) (g : Nat) (ks : List Nat) : Prop := ∀ i, i < ks.length → w.cell? ⟨g, i, none⟩ = some (.int .i64 ((ks.getD i 0 : Nat) : Int))
theorem IsPl.row {w : World} {g : Nat} {t : TypeId} {ks : List Nat} (h : w.heap[g]? = some (.cells (ks.map fun k : Nat => Value.int .i64 (k : Int)).toArray t (0, 0))) : IsPl w g ks := fun i hi => by
  rw [cell_of_row w g i _ t (0, 0) h]
  simp [List.getD, hi]
theorem atP_step {s : ByteArray} {ks : List Nat} {k : Nat} (h : k < ks.length) : atP s (ks.drop k) = if ks.getD k 0 < (allD s).1.length then atP (bodyK s (ks.getD k 0)) (ks.drop (k + 1)) else ⟨#[]⟩ := by
  rw [List.drop_eq_getElem_cons h, atP, List.getD, List.getElem?_eq_getElem h]
  rfl
theorem tlvs (v : Value) (c : Int) (w : World) : (Instr.field 87 (.agg #[v, .int .i64 c]) 0).run Tryz.prog w = .ok v w := by kernel_rfl
set_option linter.unusedSimpArgs false in
set_option maxHeartbeats 4000000 in
set_option maxRecDepth 100000 in
theorem implAt (s : ByteArray) (ks : List Nat) (g c : Nat) (w : World) (hs : s.size ≤ 20000) (hl : ks.length ≤ 4) (hk : ∀ i, i < ks.length → ks.getD i 0 ≤ 100) (hgl : g < w.heap.size) (hg : IsPl w g ks) (hE : ErrType w) :
    Calls Tryz.prog 60 #[.string s, .slice (some ⟨g, 0, none⟩) ks.length c] w fun e w' => e = .returned (.string (atP s ks)) ∧ Below w.heap.size w w' := by
  have hEp := hE.pos
  have HE : Hid (∀ V, Below w.heap.size w V → ErrType V) := fun V hV => hE.below hV hEp
  have HPl : Hid (∀ V, Below w.heap.size w V → IsPl V g ks) := fun V hV i hi => by rw [hV.cell (p := ⟨g, i, none⟩) hgl]; exact hg i hi
  have HKl : Hid (∀ i, i < ks.length → ks.getD i 0 ≤ 100) := hk
  have HAl : Hid (∀ V (q : ByteArray), ErrType V → q.size ≤ 20000 → Calls Tryz.prog 61 #[.string q] V fun e w' => ∃ v, e = .returned (.agg #[v, .int .i64 (allD q).2]) ∧ OwnT w' V.heap.size v (allD q).1 ∧ Below V.heap.size V w') := fun V q hV hq => implDerAll q V (by unfold maxLen; omega) hV
  obtain ⟨R, hR⟩ : ∃ R, R = atP s ks := ⟨_, rfl⟩
  rw [← hR]
  have HR : Hid (R = atP s ks) := hR
  clear hR hE hg hk hEp hgl
  go_enter Tryz.func60, Tryz.ntmps60
  go_wp2
  go_loopw [0, 10] (fun r i wr => ∃ (k : Nat) (q : ByteArray), k ≤ ks.length ∧ i = .int .i64 k ∧ r = .string q ∧ atP s ks = atP q (ks.drop k) ∧ q.size ≤ 20000 ∧ Below w.heap.size w wr) (fun _ i _ => ks.length - (intOf i).toNat)
  case atStart => exact ⟨0, s, Nat.zero_le _, rfl, rfl, rfl, hs, Below.refl _ _⟩
  case round =>
    obtain ⟨k, q, hk, rfl, rfl, hat, hq, hbr⟩ := hrel
    have HB : Hid (Below w.heap.size w wr) := hbr
    by_cases hlt : k < ks.length
    · have hck := HPl.out wr hbr k hlt
      have hp := HKl.out k hlt
      have hst := atP_step (s := q) hlt
      have HX : Hid (R = if ks.getD k 0 < (allD q).1.length then atP (bodyK q (ks.getD k 0)) (ks.drop (k + 1)) else ⟨#[]⟩) := HR.out.trans (hat.trans hst)
      have HAt : Hid (atP s ks = atP q (ks.drop k)) := hat
      have HSt : Hid (atP q (ks.drop k) = if ks.getD k 0 < (allD q).1.length then atP (bodyK q (ks.getD k 0)) (ks.drop (k + 1)) else ⟨#[]⟩) := hst
      have a0 : (0 : Int) ≤ (k : Int) := by omega
      have b0 : (k : Int) < (ks.length : Int) := by omega
      have HC : Hid (Calls Tryz.prog 61 #[.string q] wr fun e w' => ∃ v, e = .returned (.agg #[v, .int .i64 (allD q).2]) ∧ OwnT w' wr.heap.size v (allD q).1 ∧ Below wr.heap.size wr w') := HAl.out wr q (HE.out _ hbr) hq
      have hlen := allD_len q
      have HBk : Hid (∀ n p, (allD q).1[n]? = some p → bodyK q n = p.2) := fun n p h => by unfold bodyK; rw [h]; rfl
      have HBl : Hid (∀ n, (bodyK q n).size ≤ 20000) := fun n => Nat.le_trans (bodyK_le q n) hq
      have tl := tlvs
      obtain ⟨L, hL⟩ : ∃ L, L = (allD q).1 := ⟨_, rfl⟩
      rw [← hL] at HX HSt HC hlen HBk
      obtain ⟨p, hpk⟩ : ∃ p, p = ks.getD k 0 := ⟨_, rfl⟩
      rw [← hpk] at hck hp HX HSt
      generalize (allD q).2 = cd at *
      obtain ⟨n, hn⟩ : ∃ n, n = ks.length := ⟨_, rfl⟩
      rw [← hn] at b0 ⊢
      have HN : Hid (n = ks.length) := hn
      have hkn : k < n := by omega
      clear hat hst hbr hL hpk HAl hn hlt
      have zero0 : (0 : Nat) + k = k := Nat.zero_add k
      go_wp2_with fail
      refine HC.out.mono ?_
      rintro e w2 ⟨v, rfl, ho, b2⟩
      have B2 : Hid (Below w.heap.size w w2) := HB.out.trans (b2.mono HB.out.size)
      obtain ⟨va, vc, rfl⟩ := OwnT.form ho
      have hI := ho.isT
      clear ho b2
      by_cases hpl : p < L.length
      · obtain ⟨y, hy⟩ : ∃ y, L[p]? = some y := ⟨L[p], List.getElem?_eq_getElem hpl⟩
        obtain ⟨g2, rfl, hg2, hcs⟩ : ∃ g2, va = some ⟨g2, 0, none⟩ ∧ g2 < w2.heap.size ∧ ∀ i p, L[i]? = some p → w2.cell? ⟨g2, i * 2, none⟩ = some (.int .i64 p.1) ∧ w2.cell? ⟨g2, i * 2 + 1, none⟩ = some (.string p.2) := by
          rcases hI with h | h
          · subst h; simp at hpl
          · exact h
        obtain ⟨k0, k1⟩ := hcs p y hy
        have hby := HBk.out p y hy
        have HF : Hid (∃ (j : Nat) (q' : ByteArray), j ≤ ks.length ∧ Value.int .i64 ((k : Int) + 1) = .int .i64 (j : Int) ∧ Value.string y.2 = .string q' ∧ atP s ks = atP q' (ks.drop j) ∧ q'.size ≤ 20000) := ⟨k + 1, y.2, by have := HN.out; omega, by congr 1, rfl, by rw [HAt.out, HSt.out, if_pos hpl, hby], by rw [← hby]; exact HBl.out p⟩
        generalize y.2 = yb at *
        generalize y.1 = yt at *
        have a1 : (0 : Int) ≤ (p : Int) := by omega
        have b1 : (p : Int) < (L.length : Int) := by omega
        have b2' : ¬ (L.length : Int) ≤ (p : Int) := by omega
        generalize L.length = ll at *
        clear hcs hI hby hy HBk HBl HX HAt HSt
        go_wp2_with fail
        go_roundw
        case rel =>
          obtain ⟨j, q', j1, j2, j3, j4, j5⟩ := HF.out
          exact ⟨j, q', by first | exact j1 | (rw [HN.out]; exact j1), by first | exact j2 | (rw [← j2]; simp; omega), j3, j4, j5, B2.out⟩
        case measure => simp [intOf]; omega
      · have HF : Hid (R = ⟨#[]⟩) := by show _ = _; rw [HX.out, if_neg hpl]
        have b1 : (L.length : Int) ≤ (p : Int) := by omega
        generalize L.length = ll at *
        clear hI HBk HBl HX HAt HSt
        go_wp2
        go_ret
        exact ⟨by rw [HF.out]; rfl, B2.out⟩
    · obtain rfl : k = ks.length := by omega
      have HF : Hid (R = q) := by show _ = _; rw [HR.out, hat, List.drop_length]; rfl
      clear hat hbr HAl
      go_wp2
      go_ret
      exact ⟨by rw [HF.out]; rfl, HB.out⟩
end Go.Proofs.YtekflbicjokdnaaGreatDoor
namespace Go.Proofs.YtekflbicjokdnaaGreatDoor
open Go.RowKit Go.Lib

theorem wrapI8 (x : Int) : IntKind.i8.wrap x = (x + 128) % 256 - 128 := by
  simp [IntKind.wrap, IntKind.bits, IntKind.signed]
  omega
set_option maxHeartbeats 1000000 in
set_option maxRecDepth 100000 in
theorem numberOf (s : ByteArray) (w : World) (h0 : 0 < s.size) (h8 : s.size ≤ 8) :
    Calls Tryz.prog 143 #[.string s] w fun e w' => e = .returned (.int .i64 (sv s s.size)) ∧ w' = w := by
  have hb0 := bN_eq s 0 h0
  have hu := u8_lt s[0]
  have h0i : (0 : Int) < (s.size : Int) := by omega
  have HZ : Hid (sv s 1 = IntKind.i8.wrap (s[0].toNat : Int)) := by
    show _ = _
    rw [wrapI8, ← hb0]
    simp only [sv]
    split <;> omega
  go_enter Tryz.func143, Tryz.ntmps143
  go_wp2_with fail
  go_loopw [3, 4] (fun n i wr => ∃ k : Nat, 1 ≤ k ∧ k ≤ s.size ∧ n = .int .i64 (sv s k) ∧ i = .int .i64 (k : Int) ∧ wr = w)
    (fun _ i _ => s.size - (RowKit.intOf i).toNat)
  case atStart =>
    refine ⟨1, Nat.le_refl _, by omega, ?_, rfl, rfl⟩
    rw [← HZ.out]
    have := sv_bd s (show 1 ≤ 8 by omega)
    rw [show wrap64 (sv s 1) = sv s 1 from by unfold wrap64; omega]
  case round =>
    obtain ⟨k, hk1, hk, rfl, rfl, rfl⟩ := hrel
    by_cases hlt : k < s.size
    · have hv := sv_low s (show k < 8 by omega)
      have hbk := bN_eq s k hlt
      have hub := u8_lt s[k]
      have ho := or8 (sv s k) (bN s k) (bN_lt s k) hv.1 hv.2
      have HS : Hid (sv s (k + 1) = sv s k * 256 + (bN s k : Int)) := rfl
      rw [hbk] at ho HS
      generalize sv s k = v at *
      have hv0 := hv.1
      have hv1 := hv.2
      clear hv
      have q2 : (k : Int) < (s.size : Int) := by omega
      go_wp2
      go_roundw
      case rel => exact ⟨k + 1, by omega, by omega, by rw [HS.out], by go_num, trivial⟩
      case measure => simp [RowKit.intOf]; omega
    · obtain rfl : k = s.size := by omega
      go_wp2
      go_ret
      exact ⟨rfl, rfl⟩
set_option maxHeartbeats 1000000 in
theorem implIntRead (s : ByteArray) (w : World) (hs : s.size ≤ maxLen) :
    Calls Tryz.prog 96 #[.string s] w fun e w' => e = .returned (numT (intR s).1 (intR s).2) ∧ Below w.heap.size w w' := by
  have hs' := hs
  unfold maxLen at hs'
  by_cases h1 : 20000 < s.size
  · have HF : Hid (intR s = (0, 2)) := intR_long h1
    have hd : decide (20000 < s.size) = true := decide_eq_true h1
    go_enter Tryz.func96, Tryz.ntmps96
    go_wp2_with fail
    refine (tooLong s _ hs).mono ?_
    rintro e w' ⟨rfl, rfl⟩
    rw [hd]
    go_wp2
    refine bodyPost_ret (v := numT 0 2) (by simp [numT, results, Tryz.results96, go_sem]) rfl ⟨by rw [HF.out], ?_⟩
    repeat (first | exact Below.refl _ _ | refine Below.setCell ?_ (by simp) _ | refine Below.alloc ?_ (by simp) _)
  have hd : decide (20000 < s.size) = false := decide_eq_false h1
  by_cases h2 : s.size = 0 ∨ 8 < s.size
  · have HF : Hid (intR s = (0, 3)) := intR_size (by omega) h2
    rcases h2 with h2 | h2
    all_goals
      go_enter Tryz.func96, Tryz.ntmps96
      go_wp2_with fail
      refine (tooLong s _ hs).mono ?_
      rintro e w' ⟨rfl, rfl⟩
      rw [hd]
      go_wp2
      refine bodyPost_ret (v := numT 0 3) (by simp [numT, results, Tryz.results96, go_sem]) rfl ⟨by rw [HF.out], ?_⟩
      repeat (first | exact Below.refl _ _ | refine Below.setCell ?_ (by simp) _ | refine Below.alloc ?_ (by simp) _)
  · have hv := sv_bd s (show s.size ≤ 8 by omega)
    have HN : Hid (∀ v : World, Calls Tryz.prog 143 #[.string s] v fun e w' => e = .returned (.int .i64 (sv s s.size)) ∧ w' = v) := fun v => numberOf s v (by omega) (by omega)
    have HB : Hid (∀ v : World, Calls Tryz.prog 144 #[.agg #[.int .i64 (sv s s.size)]] v fun e w' => e = .returned (.string (strOfNums (intL (sv s s.size)))) ∧ Below v.heap.size v w') := fun v => bodyNumber _ v hv.1 (by omega)
    have hst := same_text (strOfNums (intL (sv s s.size))) s
    by_cases h3 : strOfNums (intL (sv s s.size)) = s
    · have HF : Hid (intR s = (sv s s.size, 0)) := intR_good (by omega) (by omega) h3
      rw [decide_eq_true h3] at hst
      generalize strOfNums (intL (sv s s.size)) = y at *
      generalize sv s s.size = x at *
      clear h3
      go_enter Tryz.func96, Tryz.ntmps96
      go_wp2_with fail
      refine (tooLong s _ hs).mono ?_
      rintro e w' ⟨rfl, rfl⟩
      rw [hd]
      go_wp2_with fail
      refine (HN.out _).mono ?_
      rintro e w' ⟨rfl, rfl⟩
      go_wp2_with fail
      refine (HB.out _).mono ?_
      rintro e w1 ⟨rfl, hb1⟩
      obtain ⟨hr, hB, _⟩ := resKeep (cs := [.int .i64 0, .int .i64 0, .int .i64 0]) (T := 113) hb1
      obtain ⟨⟨c0, c1, c2⟩, f0, f1, f2⟩ := cells3 hr
      clear hb1 hr
      go_wp2
      refine bodyPost_ret (v := numT x 0) (by simp [numT, results, Tryz.results96, go_sem, c0, c1, c2]) rfl ⟨by rw [HF.out], ?_⟩
      repeat (first | exact hB | refine Below.setCell ?_ (by simp) _ | refine Below.alloc ?_ (by simp) _)
    · have HF : Hid (intR s = (0, 3)) := intR_bad (by omega) (by omega) h3
      rw [decide_eq_false h3] at hst
      generalize strOfNums (intL (sv s s.size)) = y at *
      generalize sv s s.size = x at *
      clear h3
      go_enter Tryz.func96, Tryz.ntmps96
      go_wp2_with fail
      refine (tooLong s _ hs).mono ?_
      rintro e w' ⟨rfl, rfl⟩
      rw [hd]
      go_wp2_with fail
      refine (HN.out _).mono ?_
      rintro e w' ⟨rfl, rfl⟩
      go_wp2_with fail
      refine (HB.out _).mono ?_
      rintro e w1 ⟨rfl, hb1⟩
      obtain ⟨hr, hB, _⟩ := resKeep (cs := [.int .i64 0, .int .i64 0, .int .i64 0]) (T := 113) hb1
      obtain ⟨⟨c0, c1, c2⟩, f0, f1, f2⟩ := cells3 hr
      clear hb1 hr
      go_wp2
      refine bodyPost_ret (v := numT 0 3) (by simp [numT, results, Tryz.results96, go_sem, c0, c1, c2]) rfl ⟨by rw [HF.out], ?_⟩
      repeat (first | exact hB | refine Below.setCell ?_ (by simp) _ | refine Below.alloc ?_ (by simp) _)
end Go.Proofs.YtekflbicjokdnaaGreatDoor
namespace Go.Proofs.YtekflbicjokdnaaGreatDoor
open Go.RowKit

theorem take_map {α β : Type} (f : α → β) (l : List α) {k : Nat} {y : α} (h : l[k]? = some y) : (l.take (k + 1)).map f = (l.take k).map f ++ [f y] := by
  have hk : k < l.length := by
    rcases Nat.lt_or_ge k l.length with h' | h'
    · exact h'
    · rw [List.getElem?_eq_none h'] at h; cases h
  rw [List.take_succ_eq_append_getElem hk, List.map_append]
  rw [List.getElem?_eq_getElem hk] at h
  rw [Option.some.inj h]
  rfl
set_option linter.unusedSimpArgs false in
set_option maxHeartbeats 4000000 in
set_option maxRecDepth 100000 in
theorem implReadNames (s : ByteArray) (w : World) (hs : s.size ≤ 20000) (hE : ErrType w) :
    Calls Tryz.prog 82 #[.string s] w fun e w' => ∃ v, e = .returned v ∧ OwnS w' w.heap.size v (bodiesR s) ∧ Below w.heap.size w w' := by
  obtain ⟨i0, hi, hz0, hz1, hz2⟩ := info_parts infoText
  have hEp := hE.pos
  have HE : Hid (∀ V, Below w.heap.size w V → ErrType V) := fun V hV => hE.below hV hEp
  have HAl : Hid (∀ V, ErrType V → Calls Tryz.prog 61 #[.string s] V fun e w' => ∃ v, e = .returned (.agg #[v, .int .i64 (allD s).2]) ∧ OwnT w' V.heap.size v (allD s).1 ∧ Below V.heap.size V w') := fun V hV => implDerAll s V (by unfold maxLen; omega) hV
  have tl := tlvs
  have hlen := allD_len s
  obtain ⟨R, hR⟩ : ∃ R, R = bodiesR s := ⟨_, rfl⟩
  rw [← hR]
  obtain ⟨L, hL⟩ : ∃ L, L = (allD s).1 := ⟨_, rfl⟩
  have HR : Hid (R = L.map (·.2)) := by show _ = _; rw [hR, hL]; rfl
  rw [← hL] at HAl hlen
  generalize (allD s).2 = cd at *
  have HE0 : Hid (ErrType w) := hE
  clear hR hL hs hE hEp
  go_enter Tryz.func82, Tryz.ntmps82
  go_wp2_with fail
  refine (HAl.out _ HE0.out).mono ?_
  rintro e w2 ⟨v, rfl, ho, b2⟩
  have B2 : Hid (Below w.heap.size w w2) := b2
  obtain ⟨va, vc, rfl⟩ := OwnT.form ho
  have HIt : Hid (IsT w2 va L) := ho.isT
  obtain ⟨ll, hll⟩ : ∃ ll, ll = L.length := ⟨_, rfl⟩
  rw [← hll] at hlen ⊢
  have HLl : Hid (ll = L.length) := hll
  have S2 : Hid (w.heap.size ≤ w2.heap.size) := b2.size
  clear ho b2 hll HAl
  go_wp2_with fail
  go_loopw [3, 10] (fun v i wr => ∃ k : Nat, k ≤ ll ∧ i = .int .i64 k ∧ OwnS wr w2.heap.size v ((L.take k).map (·.2)) ∧ Below w2.heap.size w2 wr) (fun _ i _ => ll - (intOf i).toNat)
  case atStart => exact ⟨0, Nat.zero_le _, rfl, ownS_nil _ _, Below.refl _ _⟩
  case round =>
    obtain ⟨k, hk, rfl, hown, hbr⟩ := hrel
    have HB : Hid (Below w2.heap.size w2 wr) := hbr
    have hlt' : ((L.take k).map (·.2)).length = k := by rw [List.length_map, List.length_take]; have := HLl.out; omega
    obtain ⟨xa, xc, rfl, hvc⟩ := OwnS.form hown
    have HO : Hid (OwnS wr w2.heap.size (.slice xa ((L.take k).map (·.2)).length xc) ((L.take k).map (·.2))) := hown
    rw [hlt'] at HO ⊢
    clear hown hvc
    by_cases hlt : k < ll
    · have hkL : k < L.length := by rw [← HLl.out]; exact hlt
      obtain ⟨y, hy⟩ : ∃ y, L[k]? = some y := ⟨L[k], List.getElem?_eq_getElem hkL⟩
      obtain ⟨g2, rfl, hg2, hcs⟩ : ∃ g2, va = some ⟨g2, 0, none⟩ ∧ g2 < w2.heap.size ∧ ∀ i p, L[i]? = some p → w2.cell? ⟨g2, i * 2, none⟩ = some (.int .i64 p.1) ∧ w2.cell? ⟨g2, i * 2 + 1, none⟩ = some (.string p.2) := by
        rcases HIt.out with h | h
        · subst h; simp at hkL
        · exact h
      have k0 := (hbr.cell (p := ⟨g2, k * 2, none⟩) hg2).trans (hcs k y hy).1
      have k1 := (hbr.cell (p := ⟨g2, k * 2 + 1, none⟩) hg2).trans (hcs k y hy).2
      have HT : Hid ((L.take (k + 1)).map (·.2) = (L.take k).map (·.2) ++ [y.2]) := take_map _ L hy
      have HLn : Hid (((L.take k).map (·.2)).length = k) := hlt'
      have a0 : (0 : Int) ≤ (k : Int) := by omega
      have b0 : (k : Int) < (ll : Int) := by omega
      have hsz := hbr.size
      generalize y.2 = yb at *
      generalize y.1 = yt at *
      generalize hpre : (L.take k).map (·.2) = pre at *
      have hO : wr.ownsRow w2.heap.size 9 1 (.slice xa k xc) k (sCells pre) := by
        have := HO.out
        unfold OwnS at this
        rw [HLn.out] at this
        exact this
      clear hcs hbr hlt' hy hkL hpre
      go_wp2_with (at_builtin; refine wpList_append_own _ rfl _ _ 22 rfl w2.heap.size 9 i0 (.string ⟨#[]⟩) 1 16 Tryz.underlying22 hi hz0 hz1 hz2 rfl (by decide) _ _ _ rfl ((hO.alloc _).alloc _) ⟨wr.heap.size + 1, 0, none⟩ 1 1 [.string yb] rfl rfl ?c1 ?c2 ?c3 ?c4 ?c5 ?_)
      case c1 => exact cells_one (by simp)
      case c2 => intro u hu; simp at hu; subst hu; rfl
      case c3 => unfold maxLen; omega
      case c4 => omega
      case c5 => simp; omega
      intro v' w3 hown' hgrow _
      have hB3 : Below w2.heap.size w2 w3 := ((HB.out.alloc HB.out.size _).alloc (by have := HB.out.size; simp; omega) _).grown hgrow (by have := HB.out.size; simp; omega) (fun k hk => (hO.lt k hk).1)
      have HO3 : Hid (OwnS w3 w2.heap.size v' ((L.take (k + 1)).map (·.2))) := by
        show World.ownsRow _ _ _ _ _ _ _
        rw [HT.out, List.length_append, HLn.out, sCells, List.map_append]
        exact hown'
      have HB3 : Hid (Below w2.heap.size w2 w3) := hB3
      clear hown' hgrow hB3 hO
      go_wp2_with fail
      go_roundw
      case rel => exact ⟨k + 1, by omega, by go_num, HO3.out, HB3.out⟩
      case measure => simp [intOf]; omega
    · obtain rfl : k = ll := by omega
      have HF : Hid (OwnS wr w2.heap.size (.slice xa k xc) R) := by
        have := HO.out
        rw [show L.take k = L from by rw [HLl.out]; exact List.take_length, ← HR.out] at this
        exact this
      clear hbr
      go_wp2
      go_ret
      exact ⟨_, rfl, HF.out.mono S2.out, B2.out.trans (HB.out.mono S2.out)⟩
end Go.Proofs.YtekflbicjokdnaaGreatDoor
namespace Go.Proofs.YtekflbicjokdnaaGreatDoor
open Go.RowKit

theorem numF (n a c : Int) (w : World) : (Instr.field 113 (.agg #[.int .i64 n, .int .i64 a, .int .i64 c]) 0).run Tryz.prog w = .ok (.int .i64 n) w := by kernel_rfl
set_option linter.unusedSimpArgs false in
set_option maxHeartbeats 4000000 in
set_option maxRecDepth 100000 in
theorem implReadSerials (s : ByteArray) (w : World) (hs : s.size ≤ 20000) (hE : ErrType w) :
    Calls Tryz.prog 97 #[.string s] w fun e w' => ∃ v, e = .returned v ∧ OwnL w' w.heap.size v (serialsR s) ∧ Below w.heap.size w w' := by
  obtain ⟨i0, hi, hz0, hz1, hz2⟩ := info_parts infoLong
  have hEp := hE.pos
  have HE : Hid (∀ V, Below w.heap.size w V → ErrType V) := fun V hV => hE.below hV hEp
  have HAl : Hid (∀ V, ErrType V → Calls Tryz.prog 61 #[.string s] V fun e w' => ∃ v, e = .returned (.agg #[v, .int .i64 (allD s).2]) ∧ OwnT w' V.heap.size v (allD s).1 ∧ Below V.heap.size V w') := fun V hV => implDerAll s V (by unfold maxLen; omega) hV
  have tl := tlvs
  have hlen := allD_len s
  obtain ⟨R, hR⟩ : ∃ R, R = serialsR s := ⟨_, rfl⟩
  rw [← hR]
  obtain ⟨L, hL⟩ : ∃ L, L = (allD s).1 := ⟨_, rfl⟩
  have HBd : Hid (∀ y ∈ L, y.2.size ≤ 20000) := fun y hy => by rw [hL] at hy; exact Nat.le_trans (allD_body s y hy) hs
  have HR : Hid (R = L.map (fun p : Int × ByteArray => (intR p.2).1)) := by show _ = _; rw [hR, hL]; rfl
  rw [← hL] at HAl hlen
  generalize (allD s).2 = cd at *
  have HE0 : Hid (ErrType w) := hE
  clear hR hL hs hE hEp
  go_enter Tryz.func97, Tryz.ntmps97
  go_wp2_with fail
  refine (HAl.out _ HE0.out).mono ?_
  rintro e w2 ⟨v, rfl, ho, b2⟩
  have B2 : Hid (Below w.heap.size w w2) := b2
  obtain ⟨va, vc, rfl⟩ := OwnT.form ho
  have HIt : Hid (IsT w2 va L) := ho.isT
  obtain ⟨ll, hll⟩ : ∃ ll, ll = L.length := ⟨_, rfl⟩
  rw [← hll] at hlen ⊢
  have HLl : Hid (ll = L.length) := hll
  have S2 : Hid (w.heap.size ≤ w2.heap.size) := b2.size
  clear ho b2 hll HAl
  go_wp2_with fail
  go_loopw [3, 10] (fun v i wr => ∃ k : Nat, k ≤ ll ∧ i = .int .i64 k ∧ OwnL wr w2.heap.size v ((L.take k).map (fun p : Int × ByteArray => (intR p.2).1)) ∧ Below w2.heap.size w2 wr) (fun _ i _ => ll - (intOf i).toNat)
  case atStart => exact ⟨0, Nat.zero_le _, rfl, ownL_nil _ _, Below.refl _ _⟩
  case round =>
    obtain ⟨k, hk, rfl, hown, hbr⟩ := hrel
    have HB : Hid (Below w2.heap.size w2 wr) := hbr
    have hlt' : ((L.take k).map (fun p : Int × ByteArray => (intR p.2).1)).length = k := by rw [List.length_map, List.length_take]; have := HLl.out; omega
    obtain ⟨xa, xc, rfl, hvc⟩ := OwnL.form hown
    have HO : Hid (OwnL wr w2.heap.size (.slice xa ((L.take k).map (fun p : Int × ByteArray => (intR p.2).1)).length xc) ((L.take k).map (fun p : Int × ByteArray => (intR p.2).1))) := hown
    rw [hlt'] at HO ⊢
    clear hown hvc
    by_cases hlt : k < ll
    · have hkL : k < L.length := by rw [← HLl.out]; exact hlt
      obtain ⟨y, hy⟩ : ∃ y, L[k]? = some y := ⟨L[k], List.getElem?_eq_getElem hkL⟩
      obtain ⟨g2, rfl, hg2, hcs⟩ : ∃ g2, va = some ⟨g2, 0, none⟩ ∧ g2 < w2.heap.size ∧ ∀ i p, L[i]? = some p → w2.cell? ⟨g2, i * 2, none⟩ = some (.int .i64 p.1) ∧ w2.cell? ⟨g2, i * 2 + 1, none⟩ = some (.string p.2) := by
        rcases HIt.out with h | h
        · subst h; simp at hkL
        · exact h
      have k0 := (hbr.cell (p := ⟨g2, k * 2, none⟩) hg2).trans (hcs k y hy).1
      have k1 := (hbr.cell (p := ⟨g2, k * 2 + 1, none⟩) hg2).trans (hcs k y hy).2
      have HT : Hid ((L.take (k + 1)).map (fun p : Int × ByteArray => (intR p.2).1) = (L.take k).map (fun p : Int × ByteArray => (intR p.2).1) ++ [(intR y.2).1]) := take_map _ L hy
      have HLn : Hid (((L.take k).map (fun p : Int × ByteArray => (intR p.2).1)).length = k) := hlt'
      have a0 : (0 : Int) ≤ (k : Int) := by omega
      have b0 : (k : Int) < (ll : Int) := by omega
      have hsz := hbr.size
      have HIr : Hid (∀ V, Calls Tryz.prog 96 #[.string y.2] V fun e w' => e = .returned (numT (intR y.2).1 (intR y.2).2) ∧ Below V.heap.size V w') := fun V => implIntRead y.2 V (by have := HBd.out y (List.mem_of_getElem? hy); unfold maxLen; omega)
      unfold numT at HIr
      have nf := numF
      generalize (intR y.2).1 = z at *
      generalize (intR y.2).2 = zc at *
      generalize y.2 = yb at *
      generalize y.1 = yt at *
      generalize hpre : (L.take k).map (fun p : Int × ByteArray => (intR p.2).1) = pre at *
      have hO : wr.ownsRow w2.heap.size 2 1 (.slice xa k xc) k (lCells pre) := by
        have := HO.out
        unfold OwnL at this
        rw [HLn.out] at this
        exact this
      clear hcs hbr hlt' hy hkL hpre
      clear hO
      go_wp2_with fail
      refine (HIr.out _).mono ?_
      rintro e w4 ⟨rfl, b4⟩
      have hz4 : wr.heap.size + 1 ≤ w4.heap.size := by have := b4.size; simpa using this
      have B4 : Hid (Below w2.heap.size w2 w4) := (HB.out.alloc HB.out.size _).trans (b4.mono (by have := HB.out.size; simp; omega))
      have hO : w4.ownsRow w2.heap.size 2 1 (.slice xa k xc) k (lCells pre) := by
        have h1 := HO.out.keep ((Below.refl _ wr).alloc (Nat.le_refl _) (.cells #[.int .i64 yt, .string yb] 116 (0, 0)))
        have h2 := h1.keep b4
        unfold OwnL at h2
        rw [HLn.out] at h2
        exact h2
      have hz5 : w2.heap.size ≤ w4.heap.size := by omega
      clear b4 HIr
      go_wp2_with (at_builtin; refine wpList_append_own _ rfl _ _ 40 rfl w2.heap.size 2 i0 (.int .i64 0) 1 8 Tryz.underlying40 hi hz0 hz1 hz2 rfl (by decide) _ _ _ rfl (hO.alloc _) ⟨w4.heap.size, 0, none⟩ 1 1 [.int .i64 z] rfl rfl ?c1 ?c2 ?c3 ?c4 ?c5 ?_)
      case c1 => exact cells_one (by simp)
      case c2 => intro u hu; simp at hu; subst hu; rfl
      case c3 => unfold maxLen; omega
      case c4 => omega
      case c5 => simp; omega
      intro v' w3 hown' hgrow _
      have hB3 : Below w2.heap.size w2 w3 := (B4.out.alloc B4.out.size _).grown hgrow (by have := B4.out.size; simp; omega) (fun k hk => (hO.lt k hk).1)
      have HO3 : Hid (OwnL w3 w2.heap.size v' ((L.take (k + 1)).map (fun p : Int × ByteArray => (intR p.2).1))) := by
        show World.ownsRow _ _ _ _ _ _ _
        rw [HT.out, List.length_append, HLn.out, lCells, List.map_append]
        exact hown'
      have HB3 : Hid (Below w2.heap.size w2 w3) := hB3
      clear hown' hgrow hB3 hO
      go_wp2_with fail
      go_roundw
      case rel => exact ⟨k + 1, by omega, by go_num, HO3.out, HB3.out⟩
      case measure => simp [intOf]; omega
    · obtain rfl : k = ll := by omega
      have HF : Hid (OwnL wr w2.heap.size (.slice xa k xc) R) := by
        have := HO.out
        rw [show L.take k = L from by rw [HLl.out]; exact List.take_length, ← HR.out] at this
        exact this
      clear hbr
      go_wp2
      go_ret
      exact ⟨_, rfl, HF.out.mono S2.out, B2.out.trans (HB.out.mono S2.out)⟩
end Go.Proofs.YtekflbicjokdnaaGreatDoor
namespace Go.Proofs.YtekflbicjokdnaaGreatDoor
end Go.Proofs.YtekflbicjokdnaaGreatDoor
namespace Go.Proofs.YtekflbicjokdnaaGreatDoor
open Go.RowKit Go.Lib

set_option maxHeartbeats 2000000 in
set_option maxRecDepth 100000 in
theorem implGet (s : ByteArray) (p : Int) (w : World) (hs : s.size ≤ maxLen) (hp0 : -9223372036854775808 ≤ p) (hp1 : p ≤ 9223372036854775807) (hg : ErrType w) :
    Calls Tryz.prog 112 #[.string s, .int .i64 p] w fun e w' => e = .returned (numV (numAt s p)) ∧ Below w.heap.size w w' := by
  have hread := fun W => readNum s p W hs hp0 hp1
  generalize numAt s p = R at *
  have HR : Hid (∀ W, Calls Tryz.prog 150 #[.string s, .int .i64 p] W fun e w' => ReadOk R e ∧ w' = W) := hread
  have HG : Hid (ErrType w) := hg
  have hpos := hg.pos
  clear hread hg
  go_enter Tryz.func112, Tryz.ntmps112
  go_wp2_with fail
  refine (HR.out _).mono ?_
  rintro e w' ⟨hb, rfl⟩
  rcases hb with ⟨hc, rfl⟩ | ⟨hc, hR, n, rfl⟩
  · have HC : Hid (R.code = 0) := hc
    clear hc
    go_wp2_with fail
    refine (as_nil _ _).mono ?_
    rintro e w' ⟨rfl, rfl⟩
    go_wp2
    refine bodyPost_ret (v := .agg #[.int .i64 R.n, .int .i64 R.at', .int .i64 0]) (by simp [results, Tryz.results112, go_sem]) rfl ⟨?_, ?_⟩
    · rw [numV, HC.out]
    · repeat (first | exact Below.refl _ _ | refine Below.setCell ?_ (by simp) _ | refine Below.alloc ?_ (by simp) _)
  · have HC : Hid (R = .bad R.code) := hR
    generalize hcc : R.code = c at *
    have HCC : Hid (R.code = c) := hcc
    clear hc hR hcc
    have HG2 : Hid (∀ o1 o2, ErrType ((w.alloc o1).alloc o2)) := fun o1 o2 => HG.out.below (((Below.refl _ _).alloc (Nat.le_refl _) o1).alloc (by simp) o2) hpos
    go_wp2_with fail
    refine (as_hit2 ⟨w.heap.size + 1, 0, none⟩ c (.int .i64 0) _ (HG2.out _ _) (by simp) (by simp)).mono ?_
    rintro e w1 ⟨rfl, ht, hb⟩
    have hB : Below (w.heap.size + 1) ((w.alloc (Obj.cells #[Value.int IntKind.i64 0, Value.int IntKind.i64 0, Value.int IntKind.i64 0] 113)).alloc (Obj.cells #[Value.int IntKind.i64 0] 163)) w1 := hb
    have c0 : w1.cell? ⟨w.heap.size, 0, none⟩ = some (.int .i64 0) := (hB.cell (by simp)).trans (by simp)
    have c1 : w1.cell? ⟨w.heap.size, 1, none⟩ = some (.int .i64 0) := (hB.cell (by simp)).trans (by simp)
    have c2 : w1.cell? ⟨w.heap.size, 2, none⟩ = some (.int .i64 0) := (hB.cell (by simp)).trans (by simp)
    have f0 : w1.frozen? ⟨w.heap.size, 0, none⟩ = false := (hB.frozen (by simp)).trans (by simp)
    have f1 : w1.frozen? ⟨w.heap.size, 1, none⟩ = false := (hB.frozen (by simp)).trans (by simp)
    have f2 : w1.frozen? ⟨w.heap.size, 2, none⟩ = false := (hB.frozen (by simp)).trans (by simp)
    have HB : Hid (Below w.heap.size w w1) := (((Below.refl _ w).alloc (Nat.le_refl _) _).alloc (by simp) _).trans (hB.mono (Nat.le_succ _))
    clear hb hB
    go_wp2
    refine bodyPost_ret (v := .agg #[.int .i64 0, .int .i64 0, .int .i64 c]) (by simp [results, Tryz.results112, go_sem, c0, c1, c2]) rfl ⟨?_, ?_⟩
    · rw [HC.out]; rfl
    · repeat (first | exact HB.out | refine Below.setCell ?_ (by simp) _)
end Go.Proofs.YtekflbicjokdnaaGreatDoor
