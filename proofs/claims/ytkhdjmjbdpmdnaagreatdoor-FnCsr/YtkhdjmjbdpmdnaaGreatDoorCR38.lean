/- impl.moreArcs, walked. slices.Equal of rows of numbers, walked. impl.getSevens, walked. impl.readArcs, walked. impl.DerOidRead, walked. -/
import Derived.Test.YtkhdjmjbdpmdnaaGreatDoorCR19
import Derived.Test.YtkhdjmjbdpmdnaaGreatDoorCR04
import Derived.Deep.Cut
import Derived.Deep.RegionHeld3
import Derived.Test.YtkhdjmjbdpmdnaaGreatDoorCR05
import Derived.WalkMore
import Derived.Test.YtkhdjmjbdpmdnaaGreatDoorCR18
import Derived.Test.YtkhdjmjbdpmdnaaGreatDoorCR16
import Derived.OwnWalk
import Derived.Test.YtkhdjmjbdpmdnaaGreatDoorCR06
import Derived.Test.YtkhdjmjbdpmdnaaGreatDoorCR09
import Derived.Test.YtkhdjmjbdpmdnaaGreatDoorCR17
namespace Go.Proofs.YtkhdjmjbdpmdnaaGreatDoor
open Go.RowKit

theorem implArcs (last : Int) (w : World) :
    Calls Tryz.prog 183 #[.int .i64 last] w fun e w' => e = .returned (.slice (some ⟨w.heap.size, 0, none⟩) 4 4) ∧ w'.heap[w.heap.size]? = some (.cells #[.int .i64 2, .int .i64 5, .int .i64 29, .int .i64 last] 2 (0, 0)) ∧ Below w.heap.size w w' := by
  go_enter Tryz.func183, Tryz.ntmps183
  go_wp2
  go_ret
  exact ⟨rfl, heap_alloc_new w _, (Below.refl _ w).alloc (Nat.le_refl _) _⟩
end Go.Proofs.YtkhdjmjbdpmdnaaGreatDoor
namespace Go.Proofs.YtkhdjmjbdpmdnaaGreatDoor
open Go.RowKit

theorem getD_ext {xs ys : List Int} (hl : xs.length = ys.length) (h : ∀ i, i < xs.length → xs.getD i 0 = ys.getD i 0) : xs = ys := by
  refine List.ext_getElem hl fun i h1 h2 => ?_
  have := h i h1
  rw [List.getD_eq_getElem?_getD, List.getD_eq_getElem?_getD, List.getElem?_eq_getElem h1, List.getElem?_eq_getElem h2] at this
  exact this
set_option linter.unusedSimpArgs false in
set_option maxHeartbeats 1000000 in
set_option maxRecDepth 100000 in
theorem sliceEq (xs ys : List Int) (a b : Option Addr) (c d : Nat) (w : World) (hl : xs.length ≤ 1048576) (hm : ys.length ≤ 1048576) (hx : IsInts w a xs) (hy : IsInts w b ys) :
    Calls Tryz.prog 188 #[.slice a xs.length c, .slice b ys.length d] w fun e w' => e = .returned (.bool (decide (xs = ys))) ∧ Below w.heap.size w w' := by
  by_cases hlen : xs.length = ys.length
  rotate_left
  · have HF : Hid (decide (xs = ys) = false) := decide_eq_false (fun h => hlen (by rw [h]))
    generalize decide (xs = ys) = T at *
    have h1 : ((xs.length : Int) != (ys.length : Int)) = true := by simp; omega
    generalize xs.length = m at *
    generalize ys.length = n at *
    clear hx hy
    go_enter Tryz.func188, Tryz.ntmps188
    go_wp2
    go_ret
    exact ⟨by rw [HF.out]; rfl, Below.refl _ _⟩
  obtain ⟨T, hT⟩ : ∃ T, T = decide (xs = ys) := ⟨_, rfl⟩
  rw [← hT]
  have HT : Hid (T = decide (xs = ys)) := hT
  clear hT
  rw [← hlen] at hm ⊢
  have HLen : Hid (xs.length = ys.length) := hlen
  clear hlen
  have hnn : ((xs.length : Int) != (xs.length : Int)) = false := by simp
  go_enter Tryz.func188, Tryz.ntmps188
  go_wp2
  go_loopw [13] (fun i wr => ∃ k : Nat, k ≤ xs.length ∧ i = .int .i64 k ∧ Hid (∀ j, j < k → xs.getD j 0 = ys.getD j 0) ∧ Below w.heap.size w wr) (fun i _ => xs.length - (intOf i).toNat)
  case atStart => exact ⟨0, Nat.zero_le _, rfl, fun j hj => by omega, Below.refl _ _⟩
  case round =>
    obtain ⟨k, hk, rfl, hok, hbr⟩ := hrel
    have HB : Hid (Below w.heap.size w wr) := hbr
    by_cases hlt : k < xs.length
    · obtain ⟨x, o, rfl, hc⟩ : ∃ x o, a = some ⟨x, o, none⟩ ∧ ∀ i, i < xs.length → wr.cell? ⟨x, o + i, none⟩ = some (.int .i64 (xs.getD i 0)) := by
        rcases hx.keep hbr with rfl | h
        · simp at hlt
        · exact h
      obtain ⟨y, p, rfl, hd⟩ : ∃ x o, b = some ⟨x, o, none⟩ ∧ ∀ i, i < ys.length → wr.cell? ⟨x, o + i, none⟩ = some (.int .i64 (ys.getD i 0)) := by
        rcases hy.keep hbr with rfl | h
        · have h2 : xs.length = 0 := HLen.out
          omega
        · exact h
      have c0 := hc k hlt
      have d0 := hd k (by rw [← HLen.out]; exact hlt)
      have a0 : (0 : Int) ≤ (k : Int) := by omega
      have b0 : (k : Int) < (xs.length : Int) := by omega
      by_cases he : xs.getD k 0 = ys.getD k 0
      · have HOk : Hid (∀ j, j < k + 1 → xs.getD j 0 = ys.getD j 0) := fun j hj => by
          by_cases e : j = k
          · rw [e]; exact he
          · exact hok.out j (by omega)
        have e2 : (xs.getD k 0 != ys.getD k 0) = false := by simpa using he
        generalize xs.getD k 0 = z at *
        generalize ys.getD k 0 = z2 at *
        clear hc hd hok he HT HLen hx hy hbr
        generalize xs.length = m at *
        go_wp2
        go_quiet (fail)
        go_wp2
        go_roundw
        case rel => exact ⟨k + 1, by omega, by go_num, HOk.out, below_drewN HB.out _⟩
        case measure => simp [intOf]; omega
      · have HF : Hid (T = false) := by show _ = _; rw [HT.out]; exact decide_eq_false (fun h => he (by rw [h]))
        have e2 : (xs.getD k 0 != ys.getD k 0) = true := by simpa using he
        generalize xs.getD k 0 = z at *
        generalize ys.getD k 0 = z2 at *
        clear hc hd hok he HT HLen hx hy hbr
        generalize xs.length = m at *
        go_wp2
        go_quiet (fail)
        go_wp2
        go_ret
        exact ⟨by rw [HF.out]; rfl, below_drewN HB.out _⟩
    · obtain rfl : k = xs.length := by omega
      have HF : Hid (T = true) := by show _ = _; rw [HT.out]; exact decide_eq_true (getD_ext HLen.out hok.out)
      clear hok HT HLen hx hy hbr
      generalize xs.length = m at *
      go_wp2
      go_ret
      exact ⟨by rw [HF.out]; rfl, HB.out⟩
end Go.Proofs.YtkhdjmjbdpmdnaaGreatDoor
namespace Go.Proofs.YtkhdjmjbdpmdnaaGreatDoor
open Go.RowKit

theorem or7 (v b : Nat) (hb : b < 128) (h1 : v ≤ 2147483647) : bits BinOp.or IntKind.i64 ((v : Int) * 128) (b : Int) = (v : Int) * 128 + (b : Int) := by
  have e : bits BinOp.or IntKind.i64 ((v : Int) * 128) (b : Int) = IntKind.i64.wrap ((BitVec.ofInt 64 ((v : Int) * 128) ||| BitVec.ofInt 64 (b : Int)).toNat : Nat) := rfl
  rw [e, BitVec.toNat_or, BitVec.toNat_ofInt, BitVec.toNat_ofInt]
  have e1 : ((b : Int) % ((2 ^ 64 : Nat) : Int)).toNat = b := by omega
  have e2 : ((v : Int) * 128 % ((2 ^ 64 : Nat) : Int)).toNat = 2 ^ 7 * v := by omega
  rw [e1, e2, ← Nat.two_pow_add_eq_or_of_lt (by omega)]
  rw [IntKind.wrap_i64]
  omega
/-- What getSevens hands back. -/
def SevOk (s : ByteArray) (k : Nat) (R : Option (Nat × List Nat)) (e : Ending) : Prop :=
  R = none ∧ e = .returned (.tuple #[.int .i64 0, .int .i64 0, .bool false]) ∨
  ∃ n j, R = some (n, (bl s).drop j) ∧ k < j ∧ j ≤ s.size ∧ n ≤ 2147483647 ∧ e = .returned (.tuple #[.int .i64 (n : Int), .int .i64 (j : Int), .bool true])
set_option maxHeartbeats 1000000 in
set_option maxRecDepth 100000 in
theorem getSevens (s : ByteArray) (k : Nat) (w : World) (hs : s.size ≤ 20000) (hk : k ≤ s.size) :
    Calls Tryz.prog 230 #[.string s, .int .i64 (k : Int)] w fun e w' => SevOk s k (sevQ true 0 ((bl s).drop k)) e ∧ w' = w := by
  obtain ⟨R, hR⟩ : ∃ R, R = sevQ true 0 ((bl s).drop k) := ⟨_, rfl⟩
  rw [← hR]
  have HR : Hid (sevQ true 0 ((bl s).drop k) = R) := hR.symm
  clear hR
  go_enter Tryz.func230, Tryz.ntmps230
  go_wp2_with fail
  go_loopw [7, 8] (fun q i wr => ∃ (j n : Nat), q = .int .i64 (n : Int) ∧ i = .int .i64 (j : Int) ∧ k ≤ j ∧ j ≤ s.size ∧ n ≤ 2147483647 ∧ sevQ (decide (j = k)) n ((bl s).drop j) = R ∧ wr = w)
    (fun _ i _ => s.size - (intOf i).toNat)
  case atStart => exact ⟨k, 0, rfl, rfl, Nat.le_refl _, hk, by omega, by rw [decide_eq_true rfl]; exact HR.out, rfl⟩
  case round =>
    obtain ⟨j, n, rfl, rfl, hkj, hj, hn, hrel, rfl⟩ := hrel
    have HQ : Hid (sevQ (decide (j = k)) n ((bl s).drop j) = R) := hrel
    clear hrel HR
    by_cases hlt : j < s.size
    · have hd := bl_drop s j hlt
      have hb := bN_eq s j hlt
      have hu := u8_lt s[j]
      rw [hb] at hd
      have HQ2 := HQ.out
      rw [hd, sevQ] at HQ2
      have q0 : (j : Int) < (s.size : Int) := by omega
      have ha := and127 (s[j].toNat : Int) (by omega) (by omega)
      obtain ⟨x, hx⟩ : ∃ x, x = s[j].toNat := ⟨_, rfl⟩
      rw [← hx] at HQ2 ha hu
      have ho := or7 n (x % 128) (Nat.mod_lt _ (by omega)) hn
      rw [show (((x % 128 : Nat) : Int)) = (x : Int) % 128 from by omega] at ho
      have ex : (s[j].toNat : Int) = (x : Int) := by omega
      have hxb : x < 256 := by omega
      clear hd hb HQ hx
      by_cases h1 : j = k ∧ x = 128
      · rw [if_pos (by simp [h1.1, h1.2])] at HQ2
        have HF : Hid (R = none) := HQ2.symm
        obtain ⟨rfl, rfl⟩ := h1
        clear HQ2
        go_wp2_with fail
        go_ret3
        exact ⟨.inl ⟨HF.out, rfl⟩, rfl⟩
      rw [if_neg (by simp; omega)] at HQ2
      obtain ⟨m, hm⟩ : ∃ m, m = n * 128 + x % 128 := ⟨_, rfl⟩
      rw [← hm] at HQ2
      have em : (n : Int) * 128 + (x : Int) % 128 = (m : Int) := by omega
      have HQ : Hid _ := HQ2
      clear HQ2 hm
      have hc : (((j : Int) == (k : Int)) = false) ∨ (j = k ∧ ((x : Int) == 128) = false) := by
        simp only [beq_eq_false_iff_ne]; omega
      have HJK : Hid (decide (j + 1 = k) = false) := decide_eq_false (by omega)
      rcases hc with hc | ⟨rfl, hc⟩
      all_goals
        by_cases hov : 2147483647 < m
        · have HF : Hid (R = none) := by have := HQ.out; rw [if_pos hov] at this; exact this.symm
          clear HQ
          go_wp2_with fail
          go_ret3
          exact ⟨.inl ⟨HF.out, rfl⟩, rfl⟩
        by_cases hlow : x < 128
        · have HF : Hid (R = some (m, (bl s).drop (j + 1))) := by have := HQ.out; rw [if_neg hov, if_pos hlow] at this; exact this.symm
          clear HQ
          go_wp2_with fail
          go_ret3
          exact ⟨.inr ⟨m, j + 1, HF.out, by omega, by omega, by omega, by simp⟩, rfl⟩
        · have HF : Hid (sevQ false m ((bl s).drop (j + 1)) = R) := by have := HQ.out; rw [if_neg hov, if_neg hlow] at this; exact this
          clear HQ
          go_wp2_with fail
          go_roundw
          case rel => exact ⟨j + 1, m, rfl, by go_num, by omega, by omega, by omega, by rw [HJK.out]; exact HF.out, trivial⟩
          case measure => simp [intOf]; omega
    · obtain rfl : j = s.size := by omega
      have HF : Hid (R = none) := by
        have := HQ.out
        rw [List.drop_eq_nil_of_le (by rw [bl_len]; exact Nat.le_refl _), sevQ] at this
        exact this.symm
      clear HQ
      go_wp2_with fail
      go_ret3
      exact ⟨.inl ⟨HF.out, rfl⟩, rfl⟩
end Go.Proofs.YtkhdjmjbdpmdnaaGreatDoor
namespace Go.Proofs.YtkhdjmjbdpmdnaaGreatDoor
open Go.RowKit

/-- What readArcs hands back. -/
def ArcsOk (w' : World) (B : Nat) (R : Option (List Int)) (e : Ending) : Prop :=
  R = none ∧ e = .returned (.tuple #[.slice none 0 0, .bool false]) ∨ ∃ z v, R = some z ∧ e = .returned (.tuple #[v, .bool true]) ∧ OwnL w' B v z ∧ z.length ≤ 20002
set_option maxHeartbeats 2000000 in
set_option maxRecDepth 100000 in
theorem readArcs (s : ByteArray) (w : World) (hs : s.size ≤ 20000) :
    Calls Tryz.prog 210 #[.string s] w fun e w' => ArcsOk w' w.heap.size (arcsQ (bl s)) e ∧ Below w.heap.size w w' := by
  obtain ⟨i0, hi, hz0, hz1, hz2⟩ := info_parts infoLong
  have HG : Hid (∀ (k : Nat) (V : World), k ≤ s.size → Calls Tryz.prog 230 #[.string s, .int .i64 (k : Int)] V fun e w' => SevOk s k (sevQ true 0 ((bl s).drop k)) e ∧ w' = V) := fun k V hk => getSevens s k V hs hk
  have H0 : Hid (∀ V : World, Calls Tryz.prog 230 #[.string s, .int .i64 0] V fun e w' => SevOk s 0 (sevQ true 0 (bl s)) e ∧ w' = V) := fun V => by
    have := getSevens s 0 V hs (Nat.zero_le _)
    simpa using this
  have HL : Hid ((bl s).length = s.size) := bl_len s
  obtain ⟨R, hR⟩ : ∃ R, R = arcsQ (bl s) := ⟨_, rfl⟩
  rw [← hR]
  have HRR : Hid (R = arcsQ (bl s)) := hR
  clear hR
  go_enter Tryz.func210, Tryz.ntmps210
  go_wp2_with fail
  refine (H0.out _).mono ?_
  rintro e w' ⟨hq, rfl⟩
  rcases hq with ⟨hq, rfl⟩ | ⟨h, k, hq, hk0, hk, hh, rfl⟩
  · have HF : Hid (R = none) := by show _ = _; rw [HRR.out]; unfold arcsQ; rw [hq]
    clear hq
    go_wp2_with fail
    go_ret2
    exact ⟨.inl ⟨HF.out, rfl⟩, Below.refl _ _⟩
  · have HR : Hid (R = restQ (bl s).length ((bl s).drop k) (two h)) := by show _ = _; rw [HRR.out]; unfold arcsQ; rw [hq]
    obtain ⟨a, ha⟩ : ∃ a : Nat, a = min (h / 40) 2 := ⟨_, rfl⟩
    obtain ⟨b, hb⟩ : ∃ b : Nat, b = h - 40 * a := ⟨_, rfl⟩
    have H2 : Hid (two h = [(a : Int), (b : Int)]) := by
      show _ = _
      unfold two
      rw [← ha]
      congr 2; omega
    have e1 : min ((h : Int) / 40) 2 = (a : Int) := by omega
    have e2 : (h : Int) - 40 * (a : Int) = (b : Int) := by omega
    have ha2 : a ≤ 2 := by omega
    clear hq ha hb HRR
    go_wp2_with fail
    go_loopw [5, 8] (fun q v wr => ∃ (j f : Nat) (acc : List Int), q = .int .i64 (j : Int) ∧ j ≤ s.size ∧ s.size ≤ j + f ∧ restQ f ((bl s).drop j) acc = R ∧ acc.length ≤ j + 2 ∧ OwnL wr w'.heap.size v acc ∧ Below w'.heap.size w' wr ∧ w'.heap.size ≤ wr.heap.size)
      (fun q _ _ => s.size - (intOf q).toNat)
    case atStart =>
      refine ⟨k, (bl s).length, two h, rfl, hk, by rw [HL.out]; omega, HR.out.symm, by rw [H2.out]; simp, ?_, (Below.refl _ _).alloc (Nat.le_refl _) _, by simp⟩
      rw [H2.out]
      exact World.ownsRow_lit (base := w'.heap.size) (e := 2) (size := 1) w' #[.int .i64 (a : Int), .int .i64 (b : Int)] 2 (Nat.le_refl _) (by decide) rfl
    case round =>
      clear HR
      obtain ⟨j, f, acc, rfl, hj, hf, hrest, hal, hown, hbel, hsz⟩ := hrel
      have HQ : Hid (restQ f ((bl s).drop j) acc = R) := hrest
      obtain ⟨va, vc, rfl, _⟩ := OwnL.form hown
      have HO : Hid (OwnL wr w'.heap.size (.slice va acc.length vc) acc) := hown
      have HB : Hid (Below w'.heap.size w' wr) := hbel
      clear hrest hown hbel
      by_cases hlt : j < s.size
      · obtain ⟨f', rfl⟩ : ∃ f', f = f' + 1 := ⟨f - 1, by omega⟩
        have hne : (bl s).drop j ≠ [] := by
          intro h'
          have := congrArg List.length h'
          rw [List.length_drop, HL.out] at this
          simp at this; omega
        have HN : Hid (sevQ true 0 ((bl s).drop j) = none → R = none) := fun h' => by rw [← HQ.out, restQ_none hne h']
        have HS : Hid (∀ n t, sevQ true 0 ((bl s).drop j) = some (n, t) → restQ f' t (acc ++ [(n : Int)]) = R) := fun n t h' => by rw [← HQ.out, restQ_some h']
        clear hne HQ
        go_wp2_with fail
        refine (HG.out j _ hj).mono ?_
        rintro e w2 ⟨hq, rfl⟩
        rcases hq with ⟨hq, rfl⟩ | ⟨x, nx, hq, hx0, hx1, hxm, rfl⟩
        · have HF : Hid (R = none) := HN.out hq
          clear hq
          go_wp2_with fail
          go_ret2
          exact ⟨.inl ⟨HF.out, rfl⟩, HB.out⟩
        · have HF : Hid (restQ f' ((bl s).drop nx) (acc ++ [(x : Int)]) = R) := HS.out _ _ hq
          have hO : w2.ownsRow w'.heap.size 2 1 (.slice va acc.length vc) acc.length (lCells acc) := HO.out
          clear hq
          go_wp2_with (at_builtin; refine wpList_append_own _ rfl _ _ 51 rfl w'.heap.size 2 i0 (.int .i64 0) 1 8 Tryz.underlying51 hi hz0 hz1 hz2 rfl (by decide) _ _ _ rfl (hO.alloc _) ⟨w2.heap.size, 0, none⟩ 1 1 [.int .i64 (x : Int)] rfl rfl ?c1 ?c2 ?c3 ?c4 ?c5 ?_)
          case c1 => exact cells_one (by simp)
          case c2 => intro u hu; simp at hu; subst hu; rfl
          case c3 => unfold maxLen; omega
          case c4 => omega
          case c5 => simp; omega
          intro v' w3 hown' hgrow _
          have hB3 : Below w'.heap.size w' w3 := (HB.out.alloc hsz _).grown hgrow (by simp; omega) (fun k hk => (hO.lt k hk).1)
          have HO3 : Hid (OwnL w3 w'.heap.size v' (acc ++ [(x : Int)])) := by
            show World.ownsRow _ _ _ _ _ _ _
            rw [List.length_append, lCells, List.map_append]
            exact hown'
          have HB3 : Hid (Below w'.heap.size w' w3) := hB3
          clear hown' hgrow hB3 hO
          go_wp2_with fail
          go_roundw
          case rel => exact ⟨nx, f', acc ++ [(x : Int)], rfl, hx1, by omega, HF.out, by simp; omega, HO3.out, HB3.out, HB3.out.size⟩
          case measure => simp [intOf]; omega
      · have HF : Hid (R = some acc) := by
          show _ = _
          rw [← HQ.out, List.drop_eq_nil_of_le (by rw [HL.out]; omega), restQ_nil]
        clear HQ
        go_wp2_with fail
        go_ret2
        exact ⟨.inr ⟨acc, _, HF.out, rfl, HO.out, by omega⟩, HB.out⟩
end Go.Proofs.YtkhdjmjbdpmdnaaGreatDoor
namespace Go.Proofs.YtkhdjmjbdpmdnaaGreatDoor
open Go.RowKit

theorem oidR_long {s : ByteArray} (h : 20000 < s.size) : oidR s = ([], 2) := if_pos h
theorem oidR_none {s : ByteArray} (h : s.size ≤ 20000) (h1 : oidQ (bl s) = none) : oidR s = ([], 3) := by rw [oidR, if_neg (by omega), h1]
theorem oidR_some {s : ByteArray} {z : List Int} (h : s.size ≤ 20000) (h1 : oidQ (bl s) = some z) : oidR s = (z, 0) := by rw [oidR, if_neg (by omega), h1]
set_option maxHeartbeats 2000000 in
set_option maxRecDepth 100000 in
theorem implOidRead (s : ByteArray) (w : World) (hs : s.size ≤ maxLen) :
    Calls Tryz.prog 187 #[.string s] w fun e w' => ∃ v, e = .returned (.agg #[v, .int .i64 (oidR s).2]) ∧ OwnL w' w.heap.size v (oidR s).1 ∧ Below w.heap.size w w' := by
  have hs' := hs
  unfold maxLen at hs'
  by_cases h1 : 20000 < s.size
  · have HF : Hid (oidR s = ([], 2)) := oidR_long h1
    have hd : decide (20000 < s.size) = true := decide_eq_true h1
    go_enter Tryz.func187, Tryz.ntmps187
    go_wp2_with fail
    refine (tooLong s _ hs).mono ?_
    rintro e w' ⟨rfl, rfl⟩
    rw [hd]
    go_wp2_with fail
    refine bodyPost_ret (v := .agg #[.slice none 0 0, .int .i64 2]) (by simp [results, Tryz.results187, go_sem]) rfl ⟨.slice none 0 0, ?_, ?_, ?_⟩
    · rw [HF.out]
    · rw [HF.out]; exact ownL_nil _ _
    · repeat (first | exact Below.refl _ _ | refine Below.setCell ?_ (by simp) _ | refine Below.alloc ?_ (by simp) _)
  have hd : decide (20000 < s.size) = false := decide_eq_false h1
  have HA : Hid (∀ V : World, Calls Tryz.prog 210 #[.string s] V fun e w' => ArcsOk w' V.heap.size (arcsQ (bl s)) e ∧ Below V.heap.size V w') := fun V => readArcs s V (by omega)
  have HN : Hid (arcsQ (bl s) = none → oidR s = ([], 3)) := fun h => oidR_none (by omega) (by unfold oidQ; rw [h])
  have HS : Hid (∀ z, arcsQ (bl s) = some z → arcsB z = true → oidR s = (z, 0)) := fun z h h' => oidR_some (by omega) (by unfold oidQ; rw [h]; exact if_pos h')
  have HW : Hid (∀ z, arcsQ (bl s) = some z → arcsB z = false → oidR s = ([], 3)) := fun z h h' => oidR_none (by omega) (by unfold oidQ; rw [h]; exact if_neg (by simp [h']))
  generalize arcsQ (bl s) = R at *
  go_enter Tryz.func187, Tryz.ntmps187
  go_wp2_with fail
  refine (tooLong s _ hs).mono ?_
  rintro e w' ⟨rfl, rfl⟩
  rw [hd]
  go_wp2_with fail
  refine (HA.out _).mono ?_
  rintro e w1 ⟨hq, hb1⟩
  have hsz : (w.alloc (.cells [.slice none 0 0, .int .i64 0].toArray 188 (0, 0))).heap.size = w.heap.size + 1 := by simp
  obtain ⟨hr, hB, hz⟩ := resKeep (cs := [.slice none 0 0, .int .i64 0]) (T := 188) hb1
  have HRw : Hid (w1.heap[w.heap.size]? = some (.cells [.slice none 0 0, .int .i64 0].toArray 188 (0, 0))) := hr
  have HB : Hid (Below w.heap.size w w1) := hB
  clear hb1 hr hB HA
  rcases hq with ⟨rfl, rfl⟩ | ⟨z, v, rfl, rfl, hO, hzl⟩
  · have HF : Hid (oidR s = ([], 3)) := HN.out rfl
    obtain ⟨⟨c0, c1⟩, f0, f1⟩ := cells2 HRw.out
    go_wp2_with fail
    refine bodyPost_ret (v := .agg #[.slice none 0 0, .int .i64 3]) (by simp [results, Tryz.results187, go_sem, c0, c1]) rfl ⟨.slice none 0 0, ?_, ?_, ?_⟩
    · rw [HF.out]
    · rw [HF.out]; exact ownL_nil _ _
    · repeat (first | exact HB.out | refine Below.setCell ?_ (by simp) _)
  · have HO : Hid (OwnL w1 (w.heap.size + 1) v z) := by show OwnL _ _ _ _; simpa using hO
    obtain ⟨va, vc, rfl, hcap⟩ := OwnL.form HO.out
    have HAr : Hid (Calls Tryz.prog 169 #[.slice va z.length vc] w1 fun e w' => e = .returned (.bool (arcsB z)) ∧ Below w1.heap.size w1 w') := arcsRight va z vc w1 (by omega) hcap (OwnL.ints HO.out)
    clear hO
    cases hab : arcsB z with
    | true =>
      have HF : Hid (oidR s = (z, 0)) := HS.out z rfl hab
      rw [hab] at HAr
      obtain ⟨n, hn⟩ : ∃ n, n = z.length := ⟨_, rfl⟩
      rw [← hn] at HAr HO hzl hcap ⊢
      have HNn : Hid (n = z.length) := hn
      clear hn
      go_wp2_with fail
      refine HAr.out.mono ?_
      rintro e w2 ⟨rfl, b2⟩
      have R2 : w2.heap[w.heap.size]? = some (.cells [.slice none 0 0, .int .i64 0].toArray 188 (0, 0)) := by rw [b2.block _ hz]; exact HRw.out
      have O2 : Hid (OwnL w2 (w.heap.size + 1) (.slice va n vc) z) := OwnL.keep HO.out b2
      have B2 : Hid (Below w.heap.size w w2) := HB.out.trans (b2.mono (by omega))
      obtain ⟨⟨c0, c1⟩, f0, f1⟩ := cells2 R2
      clear b2 R2
      go_wp2_with fail
      refine bodyPost_ret (v := .agg #[.slice va n vc, .int .i64 0]) (by simp [results, Tryz.results187, go_sem, c0, c1]) rfl ⟨.slice va n vc, ?_, ?_, ?_⟩
      · rw [HF.out]
      · rw [HF.out]
        exact (OwnL.other (OwnL.other O2.out (by omega)) (by omega)).mono (by omega)
      · repeat (first | exact B2.out | refine Below.setCell ?_ (by simp) _)
    | false =>
      have HF : Hid (oidR s = ([], 3)) := HW.out z rfl hab
      rw [hab] at HAr
      generalize z.length = n at *
      go_wp2_with fail
      refine HAr.out.mono ?_
      rintro e w2 ⟨rfl, b2⟩
      have R2 : w2.heap[w.heap.size]? = some (.cells [.slice none 0 0, .int .i64 0].toArray 188 (0, 0)) := by rw [b2.block _ hz]; exact HRw.out
      have B2 : Hid (Below w.heap.size w w2) := HB.out.trans (b2.mono (by omega))
      obtain ⟨⟨c0, c1⟩, f0, f1⟩ := cells2 R2
      clear b2 R2
      go_wp2_with fail
      refine bodyPost_ret (v := .agg #[.slice none 0 0, .int .i64 3]) (by simp [results, Tryz.results187, go_sem, c0, c1]) rfl ⟨.slice none 0 0, ?_, ?_, ?_⟩
      · rw [HF.out]
      · rw [HF.out]; exact ownL_nil _ _
      · repeat (first | exact B2.out | refine Below.setCell ?_ (by simp) _)
end Go.Proofs.YtkhdjmjbdpmdnaaGreatDoor
