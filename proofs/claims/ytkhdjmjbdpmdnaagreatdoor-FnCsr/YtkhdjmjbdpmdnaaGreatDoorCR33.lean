/- impl.numberOf, impl.DerIntRead, walked. A number that came out of its struct. impl.readSerials, walked. impl.readName, walked. A drawn region by what holds whatever has come up so far: each operation is looked at once, not each order. No program is named. A drawn region by what each slot holds once its operation has come up: an invariant that is shown anew for each operation. No program is named. -/
import Derived.Test.YtkhdjmjbdpmdnaaGreatDoorCR26
import Derived.Test.YtkhdjmjbdpmdnaaGreatDoorCR15
import Derived.Test.YtkhdjmjbdpmdnaaGreatDoorCR09
import Derived.Test.YtkhdjmjbdpmdnaaGreatDoorCR17
import Derived.Test.YtkhdjmjbdpmdnaaGreatDoorCR25
import Derived.Test.YtkhdjmjbdpmdnaaGreatDoorCR06
import Derived.OrdersHeld
import Derived.Deep.RegionHeld3
import Derived.Test.YtkhdjmjbdpmdnaaGreatDoorCR05
import Derived.Test.YtkhdjmjbdpmdnaaGreatDoorCR12
import Derived.Below
namespace Go.Proofs.YtkhdjmjbdpmdnaaGreatDoor
open Go.RowKit Go.Lib

theorem wrapI8 (x : Int) : IntKind.i8.wrap x = (x + 128) % 256 - 128 := by
  simp [IntKind.wrap, IntKind.bits, IntKind.signed]
  omega
set_option maxHeartbeats 1000000 in
set_option maxRecDepth 100000 in
theorem numberOf (s : ByteArray) (w : World) (h0 : 0 < s.size) (h8 : s.size ≤ 8) :
    Calls Tryz.prog 192 #[.string s] w fun e w' => e = .returned (.int .i64 (sv s s.size)) ∧ w' = w := by
  have hb0 := bN_eq s 0 h0
  have hu := u8_lt s[0]
  have h0i : (0 : Int) < (s.size : Int) := by omega
  have HZ : Hid (sv s 1 = IntKind.i8.wrap (s[0].toNat : Int)) := by
    show _ = _
    rw [wrapI8, ← hb0]
    simp only [sv]
    split <;> omega
  go_enter Tryz.func192, Tryz.ntmps192
  go_wp2_with fail
  go_loopw [3, 4] (fun n i wr => ∃ k : Nat, 1 ≤ k ∧ k ≤ s.size ∧ n = .int .i64 (sv s k) ∧ i = .int .i64 (k : Int) ∧ wr = w)
    (fun _ i _ => s.size - (RowKit.intOf i).toNat)
  case atStart =>
    refine ⟨1, Nat.le_refl _, by omega, ?_, rfl, rfl⟩
    rw [← HZ.out]
    have := sv_bd s (show 1 ≤ 8 by omega)
    rw [show wrap64 (sv s 1) = sv s 1 from by unfold wrap64; omega]
  case round =>
    obtain ⟨k, hk1, hk, rfl, rfl, rfl⟩ := hrel
    by_cases hlt : k < s.size
    · have hv := sv_low s (show k < 8 by omega)
      have hbk := bN_eq s k hlt
      have hub := u8_lt s[k]
      have ho := or8 (sv s k) (bN s k) (bN_lt s k) hv.1 hv.2
      have HS : Hid (sv s (k + 1) = sv s k * 256 + (bN s k : Int)) := rfl
      rw [hbk] at ho HS
      generalize sv s k = v at *
      have hv0 := hv.1
      have hv1 := hv.2
      clear hv
      have q2 : (k : Int) < (s.size : Int) := by omega
      go_wp2
      go_roundw
      case rel => exact ⟨k + 1, by omega, by omega, by rw [HS.out], by go_num, trivial⟩
      case measure => simp [RowKit.intOf]; omega
    · obtain rfl : k = s.size := by omega
      go_wp2
      go_ret
      exact ⟨rfl, rfl⟩
set_option maxHeartbeats 1000000 in
theorem implIntRead (s : ByteArray) (w : World) (hs : s.size ≤ maxLen) :
    Calls Tryz.prog 158 #[.string s] w fun e w' => e = .returned (numT (intR s).1 (intR s).2) ∧ Below w.heap.size w w' := by
  have hs' := hs
  unfold maxLen at hs'
  by_cases h1 : 20000 < s.size
  · have HF : Hid (intR s = (0, 2)) := intR_long h1
    have hd : decide (20000 < s.size) = true := decide_eq_true h1
    go_enter Tryz.func158, Tryz.ntmps158
    go_wp2_with fail
    refine (tooLong s _ hs).mono ?_
    rintro e w' ⟨rfl, rfl⟩
    rw [hd]
    go_wp2
    refine bodyPost_ret (v := numT 0 2) (by simp [numT, results, Tryz.results158, go_sem]) rfl ⟨by rw [HF.out], ?_⟩
    repeat (first | exact Below.refl _ _ | refine Below.setCell ?_ (by simp) _ | refine Below.alloc ?_ (by simp) _)
  have hd : decide (20000 < s.size) = false := decide_eq_false h1
  by_cases h2 : s.size = 0 ∨ 8 < s.size
  · have HF : Hid (intR s = (0, 3)) := intR_size (by omega) h2
    rcases h2 with h2 | h2
    all_goals
      go_enter Tryz.func158, Tryz.ntmps158
      go_wp2_with fail
      refine (tooLong s _ hs).mono ?_
      rintro e w' ⟨rfl, rfl⟩
      rw [hd]
      go_wp2
      refine bodyPost_ret (v := numT 0 3) (by simp [numT, results, Tryz.results158, go_sem]) rfl ⟨by rw [HF.out], ?_⟩
      repeat (first | exact Below.refl _ _ | refine Below.setCell ?_ (by simp) _ | refine Below.alloc ?_ (by simp) _)
  · have hv := sv_bd s (show s.size ≤ 8 by omega)
    have HN : Hid (∀ v : World, Calls Tryz.prog 192 #[.string s] v fun e w' => e = .returned (.int .i64 (sv s s.size)) ∧ w' = v) := fun v => numberOf s v (by omega) (by omega)
    have HB : Hid (∀ v : World, Calls Tryz.prog 193 #[.agg #[.int .i64 (sv s s.size)]] v fun e w' => e = .returned (.string (strOfNums (intL (sv s s.size)))) ∧ Below v.heap.size v w') := fun v => bodyNumber _ v hv.1 (by omega)
    have hst := same_text (strOfNums (intL (sv s s.size))) s
    by_cases h3 : strOfNums (intL (sv s s.size)) = s
    · have HF : Hid (intR s = (sv s s.size, 0)) := intR_good (by omega) (by omega) h3
      rw [decide_eq_true h3] at hst
      generalize strOfNums (intL (sv s s.size)) = y at *
      generalize sv s s.size = x at *
      clear h3
      go_enter Tryz.func158, Tryz.ntmps158
      go_wp2_with fail
      refine (tooLong s _ hs).mono ?_
      rintro e w' ⟨rfl, rfl⟩
      rw [hd]
      go_wp2_with fail
      refine (HN.out _).mono ?_
      rintro e w' ⟨rfl, rfl⟩
      go_wp2_with fail
      refine (HB.out _).mono ?_
      rintro e w1 ⟨rfl, hb1⟩
      obtain ⟨hr, hB, _⟩ := resKeep (cs := [.int .i64 0, .int .i64 0, .int .i64 0]) (T := 150) hb1
      obtain ⟨⟨c0, c1, c2⟩, f0, f1, f2⟩ := cells3 hr
      clear hb1 hr
      go_wp2
      refine bodyPost_ret (v := numT x 0) (by simp [numT, results, Tryz.results158, go_sem, c0, c1, c2]) rfl ⟨by rw [HF.out], ?_⟩
      repeat (first | exact hB | refine Below.setCell ?_ (by simp) _ | refine Below.alloc ?_ (by simp) _)
    · have HF : Hid (intR s = (0, 3)) := intR_bad (by omega) (by omega) h3
      rw [decide_eq_false h3] at hst
      generalize strOfNums (intL (sv s s.size)) = y at *
      generalize sv s s.size = x at *
      clear h3
      go_enter Tryz.func158, Tryz.ntmps158
      go_wp2_with fail
      refine (tooLong s _ hs).mono ?_
      rintro e w' ⟨rfl, rfl⟩
      rw [hd]
      go_wp2_with fail
      refine (HN.out _).mono ?_
      rintro e w' ⟨rfl, rfl⟩
      go_wp2_with fail
      refine (HB.out _).mono ?_
      rintro e w1 ⟨rfl, hb1⟩
      obtain ⟨hr, hB, _⟩ := resKeep (cs := [.int .i64 0, .int .i64 0, .int .i64 0]) (T := 150) hb1
      obtain ⟨⟨c0, c1, c2⟩, f0, f1, f2⟩ := cells3 hr
      clear hb1 hr
      go_wp2
      refine bodyPost_ret (v := numT 0 3) (by simp [numT, results, Tryz.results158, go_sem, c0, c1, c2]) rfl ⟨by rw [HF.out], ?_⟩
      repeat (first | exact hB | refine Below.setCell ?_ (by simp) _ | refine Below.alloc ?_ (by simp) _)
end Go.Proofs.YtkhdjmjbdpmdnaaGreatDoor
namespace Go.Proofs.YtkhdjmjbdpmdnaaGreatDoor
open Go.RowKit

theorem numF (n a c : Int) (w : World) : (Instr.field 150 (.agg #[.int .i64 n, .int .i64 a, .int .i64 c]) 0).run Tryz.prog w = .ok (.int .i64 n) w := by kernel_rfl
end Go.Proofs.YtkhdjmjbdpmdnaaGreatDoor
namespace Go.Proofs.YtkhdjmjbdpmdnaaGreatDoor
open Go.RowKit

set_option linter.unusedSimpArgs false in
set_option maxHeartbeats 4000000 in
set_option maxRecDepth 100000 in
theorem implReadSerials (s : ByteArray) (w : World) (hs : s.size ≤ 20000) (hE : ErrType w) :
    Calls Tryz.prog 159 #[.string s] w fun e w' => ∃ v, e = .returned v ∧ OwnL w' w.heap.size v (serialsR s) ∧ Below w.heap.size w w' := by
  obtain ⟨i0, hi, hz0, hz1, hz2⟩ := info_parts infoLong
  have hEp := hE.pos
  have HE : Hid (∀ V, Below w.heap.size w V → ErrType V) := fun V hV => hE.below hV hEp
  have HAl : Hid (∀ V, ErrType V → Calls Tryz.prog 145 #[.string s] V fun e w' => ∃ v, e = .returned (.agg #[v, .int .i64 (allD s).2]) ∧ OwnT w' V.heap.size v (allD s).1 ∧ Below V.heap.size V w') := fun V hV => implDerAll s V (by unfold maxLen; omega) hV
  have tl := tlvs
  have hlen := allD_len s
  obtain ⟨R, hR⟩ : ∃ R, R = serialsR s := ⟨_, rfl⟩
  rw [← hR]
  obtain ⟨L, hL⟩ : ∃ L, L = (allD s).1 := ⟨_, rfl⟩
  have HBd : Hid (∀ y ∈ L, y.2.size ≤ 20000) := fun y hy => by rw [hL] at hy; exact Nat.le_trans (allD_body s y hy) hs
  have HR : Hid (R = L.map (fun p : Int × ByteArray => (intR p.2).1)) := by show _ = _; rw [hR, hL]; rfl
  rw [← hL] at HAl hlen
  generalize (allD s).2 = cd at *
  have HE0 : Hid (ErrType w) := hE
  clear hR hL hs hE hEp
  go_enter Tryz.func159, Tryz.ntmps159
  go_wp2_with fail
  refine (HAl.out _ HE0.out).mono ?_
  rintro e w2 ⟨v, rfl, ho, b2⟩
  have B2 : Hid (Below w.heap.size w w2) := b2
  obtain ⟨va, vc, rfl⟩ := OwnT.form ho
  have HIt : Hid (IsT w2 va L) := ho.isT
  obtain ⟨ll, hll⟩ : ∃ ll, ll = L.length := ⟨_, rfl⟩
  rw [← hll] at hlen ⊢
  have HLl : Hid (ll = L.length) := hll
  have S2 : Hid (w.heap.size ≤ w2.heap.size) := b2.size
  clear ho b2 hll HAl
  go_wp2_with fail
  go_loopw [3, 10] (fun v i wr => ∃ k : Nat, k ≤ ll ∧ i = .int .i64 k ∧ OwnL wr w2.heap.size v ((L.take k).map (fun p : Int × ByteArray => (intR p.2).1)) ∧ Below w2.heap.size w2 wr) (fun _ i _ => ll - (intOf i).toNat)
  case atStart => exact ⟨0, Nat.zero_le _, rfl, ownL_nil _ _, Below.refl _ _⟩
  case round =>
    obtain ⟨k, hk, rfl, hown, hbr⟩ := hrel
    have HB : Hid (Below w2.heap.size w2 wr) := hbr
    have hlt' : ((L.take k).map (fun p : Int × ByteArray => (intR p.2).1)).length = k := by rw [List.length_map, List.length_take]; have := HLl.out; omega
    obtain ⟨xa, xc, rfl, hvc⟩ := OwnL.form hown
    have HO : Hid (OwnL wr w2.heap.size (.slice xa ((L.take k).map (fun p : Int × ByteArray => (intR p.2).1)).length xc) ((L.take k).map (fun p : Int × ByteArray => (intR p.2).1))) := hown
    rw [hlt'] at HO ⊢
    clear hown hvc
    by_cases hlt : k < ll
    · have hkL : k < L.length := by rw [← HLl.out]; exact hlt
      obtain ⟨y, hy⟩ : ∃ y, L[k]? = some y := ⟨L[k], List.getElem?_eq_getElem hkL⟩
      obtain ⟨g2, rfl, hg2, hcs⟩ : ∃ g2, va = some ⟨g2, 0, none⟩ ∧ g2 < w2.heap.size ∧ ∀ i p, L[i]? = some p → w2.cell? ⟨g2, i * 2, none⟩ = some (.int .i64 p.1) ∧ w2.cell? ⟨g2, i * 2 + 1, none⟩ = some (.string p.2) := by
        rcases HIt.out with h | h
        · subst h; simp at hkL
        · exact h
      have k0 := (hbr.cell (p := ⟨g2, k * 2, none⟩) hg2).trans (hcs k y hy).1
      have k1 := (hbr.cell (p := ⟨g2, k * 2 + 1, none⟩) hg2).trans (hcs k y hy).2
      have HT : Hid ((L.take (k + 1)).map (fun p : Int × ByteArray => (intR p.2).1) = (L.take k).map (fun p : Int × ByteArray => (intR p.2).1) ++ [(intR y.2).1]) := take_map _ L hy
      have HLn : Hid (((L.take k).map (fun p : Int × ByteArray => (intR p.2).1)).length = k) := hlt'
      have a0 : (0 : Int) ≤ (k : Int) := by omega
      have b0 : (k : Int) < (ll : Int) := by omega
      have hsz := hbr.size
      have HIr : Hid (∀ V, Calls Tryz.prog 158 #[.string y.2] V fun e w' => e = .returned (numT (intR y.2).1 (intR y.2).2) ∧ Below V.heap.size V w') := fun V => implIntRead y.2 V (by have := HBd.out y (List.mem_of_getElem? hy); unfold maxLen; omega)
      unfold numT at HIr
      have nf := numF
      generalize (intR y.2).1 = z at *
      generalize (intR y.2).2 = zc at *
      generalize y.2 = yb at *
      generalize y.1 = yt at *
      generalize hpre : (L.take k).map (fun p : Int × ByteArray => (intR p.2).1) = pre at *
      have hO : wr.ownsRow w2.heap.size 2 1 (.slice xa k xc) k (lCells pre) := by
        have := HO.out
        unfold OwnL at this
        rw [HLn.out] at this
        exact this
      clear hcs hbr hlt' hy hkL hpre
      clear hO
      go_wp2_with fail
      refine (HIr.out _).mono ?_
      rintro e w4 ⟨rfl, b4⟩
      have hz4 : wr.heap.size + 1 ≤ w4.heap.size := by have := b4.size; simpa using this
      have B4 : Hid (Below w2.heap.size w2 w4) := (HB.out.alloc HB.out.size _).trans (b4.mono (by have := HB.out.size; simp; omega))
      have hO : w4.ownsRow w2.heap.size 2 1 (.slice xa k xc) k (lCells pre) := by
        have h1 := HO.out.keep ((Below.refl _ wr).alloc (Nat.le_refl _) (.cells #[.int .i64 yt, .string yb] 157 (0, 0)))
        have h2 := h1.keep b4
        unfold OwnL at h2
        rw [HLn.out] at h2
        exact h2
      have hz5 : w2.heap.size ≤ w4.heap.size := by omega
      clear b4 HIr
      go_wp2_with (at_builtin; refine wpList_append_own _ rfl _ _ 51 rfl w2.heap.size 2 i0 (.int .i64 0) 1 8 Tryz.underlying51 hi hz0 hz1 hz2 rfl (by decide) _ _ _ rfl (hO.alloc _) ⟨w4.heap.size, 0, none⟩ 1 1 [.int .i64 z] rfl rfl ?c1 ?c2 ?c3 ?c4 ?c5 ?_)
      case c1 => exact cells_one (by simp)
      case c2 => intro u hu; simp at hu; subst hu; rfl
      case c3 => unfold maxLen; omega
      case c4 => omega
      case c5 => simp; omega
      intro v' w3 hown' hgrow _
      have hB3 : Below w2.heap.size w2 w3 := (B4.out.alloc B4.out.size _).grown hgrow (by have := B4.out.size; simp; omega) (fun k hk => (hO.lt k hk).1)
      have HO3 : Hid (OwnL w3 w2.heap.size v' ((L.take (k + 1)).map (fun p : Int × ByteArray => (intR p.2).1))) := by
        show World.ownsRow _ _ _ _ _ _ _
        rw [HT.out, List.length_append, HLn.out, lCells, List.map_append]
        exact hown'
      have HB3 : Hid (Below w2.heap.size w2 w3) := hB3
      clear hown' hgrow hB3 hO
      go_wp2_with fail
      go_roundw
      case rel => exact ⟨k + 1, by omega, by go_num, HO3.out, HB3.out⟩
      case measure => simp [intOf]; omega
    · obtain rfl : k = ll := by omega
      have HF : Hid (OwnL wr w2.heap.size (.slice xa k xc) R) := by
        have := HO.out
        rw [show L.take k = L from by rw [HLl.out]; exact List.take_length, ← HR.out] at this
        exact this
      clear hbr
      go_wp2
      go_ret
      exact ⟨_, rfl, HF.out.mono S2.out, B2.out.trans (HB.out.mono S2.out)⟩
end Go.Proofs.YtkhdjmjbdpmdnaaGreatDoor
namespace Go.Proofs.YtkhdjmjbdpmdnaaGreatDoor
open Go.RowKit

set_option linter.unusedSimpArgs false in
set_option maxHeartbeats 4000000 in
set_option maxRecDepth 100000 in
theorem implReadName (s : ByteArray) (w : World) (hs : s.size ≤ 20000) (hE : ErrType w) :
    Calls Tryz.prog 157 #[.string s] w fun e w' => e = .returned (.string (atP s [0, 0, 1])) ∧ Below w.heap.size w w' := by
  have hEp := hE.pos
  have HAt : Hid (∀ V, Below w.heap.size w V → Calls Tryz.prog 144 #[.string s, .slice (some ⟨V.heap.size, 0, none⟩) 3 3] (V.alloc (.cells #[.int .i64 0, .int .i64 0, .int .i64 1] 3 (0, 0))) fun e w' => e = .returned (.string (atP s [0, 0, 1])) ∧ Below w.heap.size w w') := fun V hV => by
    have hA : Below w.heap.size w (V.alloc (.cells #[.int .i64 0, .int .i64 0, .int .i64 1] 3 (0, 0))) := hV.alloc hV.size _
    refine (implAt s [0, 0, 1] V.heap.size 3 _ hs (by show 3 ≤ 4; omega) (fun i hi => ?_) (by simp) (IsPl.row (t := 3) (heap_alloc_new V _)) (hE.below hA hEp)).mono ?_
    · have : i = 0 ∨ i = 1 ∨ i = 2 := by simp at hi; omega
      rcases this with rfl | rfl | rfl <;> simp [List.getD]
    · rintro e w' ⟨rfl, hb⟩
      exact ⟨rfl, hA.trans (hb.mono hA.size)⟩
  have HR0 : Hid (Below w.heap.size w w) := Below.refl _ _
  clear hE hEp hs
  generalize atP s [0, 0, 1] = R at *
  go_enter Tryz.func157, Tryz.ntmps157
  go_wp2_with fail
  refine (HAt.out _ HR0.out).mono ?_
  rintro e w2 ⟨rfl, b2⟩
  have B2 : Hid (Below w.heap.size w w2) := b2
  clear b2
  go_wp2
  go_ret
  exact ⟨rfl, B2.out⟩
end Go.Proofs.YtkhdjmjbdpmdnaaGreatDoor
namespace Go.Proofs.YtkhdjmjbdpmdnaaGreatDoor

section
variable {P : Program} {ops : Array Oper} {Q : Exit → Act → World → Prop} {md : Region.Mode}

/-- How many have not come up yet. -/
def leftN (listed : Array Bool) : Nat := listed.toList.countP (· == false)
theorem countP_set : ∀ (l : List Bool) (i : Nat), l[i]? = some false → (l.set i true).countP (· == false) + 1 = l.countP (· == false)
  | [], i, h => by simp at h
  | b :: l, 0, h => by
    simp at h
    subst h
    simp
  | b :: l, i + 1, h => by
    have := countP_set l i (by simpa using h)
    rw [List.set_cons_succ, List.countP_cons, List.countP_cons]
    omega
theorem leftN_set {listed : Array Bool} {i : Nat} (h : listed.getD i true = false) : leftN (listed.setIfInBounds i true) + 1 = leftN listed := by
  have hi : listed.toList[i]? = some false := by
    rw [Array.getElem?_toList]
    rw [Array.getD_eq_getD_getElem?] at h
    cases he : listed[i]? with
    | none => rw [he] at h; simp at h
    | some b => rw [he] at h; simp at h; rw [h]
  unfold leftN
  rw [Array.toList_setIfInBounds]
  exact countP_set _ _ hi
theorem leftN_pos {listed : Array Bool} {i : Nat} (h : listed.getD i true = false) : 0 < leftN listed := by
  have := leftN_set h
  omega
/-- Operations wait for earlier ones alone. -/
def lowB (md : Region.Mode) (ops : Array Oper) : Bool := (List.range ops.size).all fun i => ((ops[i]?).map fun o => o.after.all fun e => !Region.binds md e || decide (e.on < i)).getD true
theorem low_spec (h : lowB md ops = true) {i : Nat} {o : Oper} (ho : ops[i]? = some o) : ∀ e ∈ o.after, Region.binds md e = true → e.on < i := by
  intro e he hb
  have hi : i < ops.size := by
    rcases Nat.lt_or_ge i ops.size with h' | h'
    · exact h'
    · rw [Array.getElem?_eq_none h'] at ho; cases ho
  have h1 := List.all_eq_true.1 h i (List.mem_range.2 hi)
  rw [ho] at h1
  simp only [Option.map_some, Option.getD_some, Array.all_eq_true_iff_forall_mem] at h1
  have h2 := h1 e he
  rw [hb] at h2
  simpa using h2
/-- If not all have come up, one may. -/
theorem ready_some (hl : lowB md ops = true) (listed : Array Bool) (hs : listed.size = ops.size) : ∀ (n i : Nat), i ≤ n → listed.getD i true = false → Region.ready md ops listed ≠ [] := by
  intro n
  induction n with
  | zero =>
    intro i hi h hn
    obtain rfl : i = 0 := by omega
    have hlt : 0 < ops.size := by
      rcases Nat.lt_or_ge 0 listed.size with h' | h'
      · omega
      · rw [Array.getD_eq_getD_getElem?, Array.getElem?_eq_none h'] at h; simp at h
    have : 0 ∈ Region.ready md ops listed := mem_ready.2 ⟨h, ops[0], Array.getElem?_eq_getElem hlt, fun e he hb => by have := low_spec hl (Array.getElem?_eq_getElem hlt) e he hb; omega⟩
    rw [hn] at this
    cases this
  | succ n ih =>
    intro i hi h hn
    have hlt : i < ops.size := by
      rcases Nat.lt_or_ge i listed.size with h' | h'
      · omega
      · rw [Array.getD_eq_getD_getElem?, Array.getElem?_eq_none h'] at h; simp at h
    by_cases hall : ∀ e ∈ (ops[i]).after, Region.binds md e = true → listed.getD e.on false = true
    · have : i ∈ Region.ready md ops listed := mem_ready.2 ⟨h, ops[i], Array.getElem?_eq_getElem hlt, hall⟩
      rw [hn] at this
      cases this
    · simp only [Classical.not_forall] at hall
      obtain ⟨e, he, hb, hf⟩ := hall
      have hlow := low_spec hl (Array.getElem?_eq_getElem hlt) e he hb
      have hun : listed.getD e.on true = false := by
        have hin : e.on < listed.size := by omega
        rw [Array.getD_eq_getD_getElem?, Array.getElem?_eq_getElem hin] at hf ⊢
        simpa using hf
      exact ih e.on (by omega) hun hn
theorem wpAnyH_inv (I : Array Bool → Act → World → Prop) (hl : lowB md ops = true)
    (hend : ∀ listed a w, I listed a w → (∀ i, i < ops.size → listed.getD i true = true) → Q .normal a w)
    (hstep : ∀ listed a w i o, I listed a w → ops[i]? = some o → listed.size = ops.size → listed.getD i true = false → (∀ e ∈ o.after, Region.binds md e = true → listed.getD e.on false = true) → wpOp P ops Q i (fun a' w' => I (listed.setIfInBounds i true) a' w') a w) :
    ∀ (fuel : Nat) (listed : Array Bool) (a : Act) (w : World), listed.size = ops.size → leftN listed ≤ fuel → I listed a w → wpAnyH P md ops Q (fun _ => True) fuel listed a w := by
  intro fuel
  have hfin : ∀ (listed : Array Bool), listed.size = ops.size → Region.ready md ops listed = [] → ∀ i, i < ops.size → listed.getD i true = true := fun listed hs hr i _ => by
    cases h : listed.getD i true with
    | true => rfl
    | false => exact absurd hr (ready_some hl listed hs i i (Nat.le_refl _) h)
  induction fuel with
  | zero =>
    intro listed a w hs hn hI
    have hr : Region.ready md ops listed = [] := by
      cases hr : Region.ready md ops listed with
      | nil => rfl
      | cons i r =>
        have hm : i ∈ Region.ready md ops listed := by rw [hr]; exact List.mem_cons_self ..
        have := leftN_pos (mem_ready.1 hm).1
        omega
    exact ⟨hr, hend listed a w hI (hfin listed hs hr)⟩
  | succ fuel ih =>
    intro listed a w hs hn hI
    refine ⟨fun hr => hend listed a w hI (hfin listed hs hr), fun i hi => ?_⟩
    obtain ⟨hun, o, ho, haf⟩ := mem_ready.1 hi
    refine wpOp_mono (fun a' w' h => ⟨trivial, ih _ a' w' (by rw [Array.size_setIfInBounds]; exact hs) (by have := leftN_set hun; omega) h⟩) (hstep listed a w i o hI ho hs hun haf)
theorem leftN_start (n : Nat) : leftN (Array.replicate n false) ≤ n := by
  unfold leftN
  refine Nat.le_trans List.countP_le_length ?_
  simp
/-- The whole region. -/
theorem wp_region_inv {id : Nat} {a : Act} {w : World} (I : Array Bool → Act → World → Prop) (hm : P.follows .mixedOrders = true) (hl : lowB .any ops = true)
    (hend : ∀ listed a w, I listed a w → (∀ i, i < ops.size → listed.getD i true = true) → Q .normal a w)
    (hstep : ∀ listed a w i o, I listed a w → ops[i]? = some o → listed.size = ops.size → listed.getD i true = false → (∀ e ∈ o.after, Region.binds .any e = true → listed.getD e.on false = true) → wpOp P ops Q i (fun a' w' => I (listed.setIfInBounds i true) a' w') a w)
    (h0 : I (Array.replicate ops.size false) a w.drew) : (Code.region id ops true).wp P Q a w :=
  wp_region_held_drew (S := fun _ => True) hm trivial fun _ => wpAnyH_inv I hl hend hstep _ _ _ _ (by simp) (leftN_start _) h0
end
end Go.Proofs.YtkhdjmjbdpmdnaaGreatDoor
namespace Go.Proofs.YtkhdjmjbdpmdnaaGreatDoor
open Go.RowKit

theorem getD_tf {l : Array Bool} {j : Nat} (h : l.getD j false = true) : l.getD j true = true := by
  rw [Array.getD_eq_getD_getElem?] at h ⊢
  cases e : l[j]? with
  | none => rfl
  | some b => rw [e] at h; exact h
/-- What a slot may hold. -/
inductive Kd where
  | any
  | eq (v : Value)
  | one (t : TypeId) (n : Int)
  | ints (B : Nat) (f : Value → Value) (l : List Int)
  | strs (B : Nat) (f : Value → Value) (l : List ByteArray)
  | at' (v : Value)
  | row (t : TypeId) (l : List Int)
def Kd.holds : Kd → Value → World → Prop
  | .any, _, _ => True
  | .eq v, t, _ => t = v
  | .one ty n, t, V => ∃ g, t = .slice (some ⟨g, 0, none⟩) 1 1 ∧ V.heap[g]? = some (.cells #[.int .i64 n] ty (0, 0))
  | .ints B f l, t, V => ∃ v, t = f v ∧ OwnL V B v l
  | .strs B f l, t, V => ∃ v, t = f v ∧ OwnS V B v l
  | .at' v, t, V => ∃ ad, t = .pointer (some ad) ∧ V.cell? ad = some v
  | .row ty l, t, V => ∃ g, t = .slice (some ⟨g, 0, none⟩) l.length l.length ∧ V.heap[g]? = some (.cells (lCells l).toArray ty (0, 0))
theorem Kd.keep {k : Kd} {t : Value} {V V' : World} (h : k.holds t V) (hb : Below V.heap.size V V') : k.holds t V' := by
  cases k with
  | any => trivial
  | eq v => exact h
  | one ty n => obtain ⟨g, e, hg⟩ := h; exact ⟨g, e, by rw [hb.block _ (heap_lt hg)]; exact hg⟩
  | ints B f l => obtain ⟨v, e, ho⟩ := h; exact ⟨v, e, ho.keep hb⟩
  | strs B f l => obtain ⟨v, e, ho⟩ := h; exact ⟨v, e, ho.keep hb⟩
  | at' v => obtain ⟨ad, e, hc⟩ := h; exact ⟨ad, e, by rw [hb.cell (World.block_lt_of_cell? V ad hc)]; exact hc⟩
  | row ty l => obtain ⟨g, e, hg⟩ := h; exact ⟨g, e, by rw [hb.block _ (heap_lt hg)]; exact hg⟩

/-- The slots that have come up hold what they should; the others of the frame are as they were. -/
structure Slots (A : Array Value) (D : List Deferred) (base : Nat) (G : List Kd) (listed : Array Bool) (a : Act) (V : World) : Prop where
  size : a.tmps.size = A.size
  defers : a.defers = D
  other : ∀ k, (k < base ∨ base + G.length ≤ k) → a.tmps[k]? = A[k]?
  slot : ∀ j k, G[j]? = some k → listed.getD j true = true → ∃ t, a.tmps[base + j]? = some t ∧ k.holds t V
section
variable {A : Array Value} {D : List Deferred} {base : Nat} {G : List Kd} {listed : Array Bool} {a : Act} {V V' : World}
theorem Slots.put (h : Slots A D base G listed a V) {i : Nat} {k : Kd} {v : Value} (hk : G[i]? = some k) (hA : base + G.length ≤ A.size) (hv : k.holds v V') (hb : Below V.heap.size V V') : Slots A D base G (listed.setIfInBounds i true) (a.put (some (base + i)) v) V' := by
  have hi : i < G.length := by
    rcases Nat.lt_or_ge i G.length with h | h
    · exact h
    · rw [List.getElem?_eq_none h] at hk; cases hk
  refine ⟨?_, h.defers, fun q hq => ?_, fun j kj hj hl => ?_⟩
  · show (a.tmps.setIfInBounds (base + i) v).size = _
    rw [Array.size_setIfInBounds]
    exact h.size
  · show (a.tmps.setIfInBounds (base + i) v)[q]? = _
    rw [Array.getElem?_setIfInBounds_ne (by omega)]
    exact h.other q hq
  · by_cases e : j = i
    · subst e
      rw [hk] at hj
      obtain rfl := Option.some.inj hj
      refine ⟨v, ?_, hv⟩
      show (a.tmps.setIfInBounds (base + j) v)[base + j]? = _
      rw [Array.getElem?_setIfInBounds_self_of_lt (by rw [h.size]; omega)]
    · rw [getD_set_ne true (Ne.symm e)] at hl
      obtain ⟨t, ht, hh⟩ := h.slot j kj hj hl
      refine ⟨t, ?_, Kd.keep hh hb⟩
      show (a.tmps.setIfInBounds (base + i) v)[base + j]? = _
      rw [Array.getElem?_setIfInBounds_ne (by omega)]
      exact ht
theorem eval_of {k : Nat} {t : Value} (h : a.tmps[k]? = some t) : a.eval (.tmp k) = t := by
  show a.tmps.getD k undef = t
  rw [Array.getD_eq_getD_getElem?, h]
  rfl
theorem Slots.get (h : Slots A D base G listed a V) {j : Nat} {k : Kd} (hk : G[j]? = some k) (hl : listed.getD j true = true) : ∃ t, a.eval (.tmp (base + j)) = t ∧ a.tmps[base + j]? = some t ∧ k.holds t V := by
  obtain ⟨t, ht, hh⟩ := h.slot j k hk hl
  exact ⟨t, eval_of ht, ht, hh⟩
theorem Slots.pre' (h : Slots A D base G listed a V) {k : Nat} {v : Value} (hk : A[k]? = some v) (hlt : k < base) : a.tmps[k]? = some v := by
  rw [h.other k (.inl hlt)]
  exact hk
theorem Slots.pre (h : Slots A D base G listed a V) {k : Nat} {v : Value} (hk : A[k]? = some v) (hlt : k < base) : a.eval (.tmp k) = v :=
  eval_of (by rw [h.other k (.inl hlt)]; exact hk)
end
section
variable {P : Program} {ops : Array Oper} {Q : Exit → Act → World → Prop} {a : Act} {V V' : World} {K : Act → World → Prop}
theorem st_val {i : Nat} {o : Oper} {v : Value} (ho : ops[i]? = some o) (hg : o.guard = none) (hr : (execOp a.eval o).run P V = .ok (.value v) V') (hk : K (a.put o.dst v) V') : wpOp P ops Q i K a V :=
  wpOp_step ho fun K' hK => by
    rw [if_pos (by simp [Region.wanted, hg])]
    unfold Oper.wp
    rw [hr]
    exact hK _ _ hk
theorem st_call {i : Nat} {o : Oper} {f : FuncId} {args : Array Value} (ho : ops[i]? = some o) (hg : o.guard = none) (hr : (execOp a.eval o).run P V = .ok (.enter f args) V) (hc : Calls P f args V fun e w' => ∃ r, e = .returned r ∧ K (a.put o.dst r) w') : wpOp P ops Q i K a V :=
  wpOp_step ho fun K' hK => by
    rw [if_pos (by simp [Region.wanted, hg])]
    unfold Oper.wp
    rw [hr]
    refine Calls.mono hc ?_
    rintro e w' ⟨r, rfl, hk⟩
    exact hK _ _ hk
end
end Go.Proofs.YtkhdjmjbdpmdnaaGreatDoor
