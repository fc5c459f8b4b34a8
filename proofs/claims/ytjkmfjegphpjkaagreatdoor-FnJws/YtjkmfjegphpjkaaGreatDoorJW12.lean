/- The end of a hash, walked: spec.l02End. spec.HashBegin, walked. spec.l04Num, walked: the number of a text's digest. spec.l04Challenge, walked. spec.SecretRight, walked. spec.PublicOf, walked. A Sig in memory. spec.SignText, walked. spec.l05Is, walked. What a function returns in a variable of its own: the variable over a call. No program is named. -/
import Derived.Test.YtjkmfjegphpjkaaGreatDoorJW11
import Derived.Test.YtjkmfjegphpjkaaGreatDoorJW05
import Derived.Test.YtjkmfjegphpjkaaGreatDoorJW02
import Derived.Test.YtjkmfjegphpjkaaGreatDoorJW03
import Derived.Test.YtjkmfjegphpjkaaGreatDoorJW01
import Derived.Test.YtjkmfjegphpjkaaGreatDoorJW07
namespace Go.Proofs.YtjkmfjegphpjkaaGreatDoor
open Go.RowKit

theorem zeros_iff (n j : Nat) (hj : j ≤ zerosOf n) : (n + (1 + j)) % 64 = 56 ↔ j = zerosOf n := by unfold zerosOf at *; omega
theorem be_take (x t : Nat) (ht : t < 8) : (beF x 8).take (t + 1) = (beF x 8).take t ++ [((x / 256 ^ (7 - t) % 256 : Nat) : Int)] := by
  have hl : t < (beF x 8).length := by simp [beF]; omega
  rw [List.take_succ_eq_append_getElem hl]
  congr 2
  simp [beF]
theorem owns_form {w : World} {B n : Nat} {t : TypeId} {v : Value} {xs : List Value} (h : w.ownsRow B t 1 v n xs) (h0 : 0 < n) : ∃ g c, v = .slice (some ⟨g, 0, none⟩) n c := by
  rcases h.2 with ⟨_, h'⟩ | ⟨g, c, cur, h', _⟩
  · omega
  · exact ⟨g, c, h'⟩
def lenOf : Value → Nat
  | .slice _ l _ => l
  | _ => 0
theorem shrByte (n t p : Nat) (h : p + 8 * t = 56) : (8 * (n : Int)) / 2 ^ p % 256 = ((8 * n / 256 ^ (7 - t) % 256 : Nat) : Int) := by
  have e : 2 ^ p = 256 ^ (7 - t) := by rw [show (256 : Nat) = 2 ^ 8 by rfl, ← Nat.pow_mul]; congr 1; omega
  rw [← e]
  simp
theorem digL_take (s : St) (k : Nat) (h : k < 8) : (digL s).take (4 * k + 4) = (digL s).take (4 * k) ++ [uI (s.row.getD k 0) / 16777216, uI (s.row.getD k 0) / 65536 % 256, uI (s.row.getD k 0) / 256 % 256, uI (s.row.getD k 0) % 256] := by
  rcases (by omega : k = 0 ∨ k = 1 ∨ k = 2 ∨ k = 3 ∨ k = 4 ∨ k = 5 ∨ k = 6 ∨ k = 7) with rfl | rfl | rfl | rfl | rfl | rfl | rfl | rfl <;> rfl
/-- One element more of a row of bytes that the call owns. -/
theorem grow1 {B : Nat} {w0 wr w1 : World} {v v' : Value} {xs ys : List Int} {m : Nat} (o : Obj) (hB : B ≤ wr.heap.size) (hb : Below B w0 wr) (hown : wr.ownsRow B 5 1 v m (xs.map (Value.int .u8))) {k : Nat}
    (hown' : w1.ownsRow B 5 1 v' (m + k) (xs.map (Value.int .u8) ++ ys.map (Value.int .u8))) (hg : (wr.alloc o).grownBy w1 v.ownBlock) :
    w1.ownsRow B 5 1 v' (m + k) ((xs ++ ys).map (Value.int .u8)) ∧ Below B w0 w1 ∧ B ≤ w1.heap.size := by
  refine ⟨by simpa using hown', (hb.alloc hB o).grown hg (by simp; omega) (fun k hk => (hown.lt k hk).1), ?_⟩
  have := hg.size
  simp at this
  omega
set_option maxHeartbeats 1000000 in
set_option maxRecDepth 100000 in
theorem specEnd (s : St) (r : ByteArray) (n : Nat) (w : World) (gs cap : Nat) (hr : r.size ≤ 1000000) (hn : n ≤ 1900000000000) (hst : w.rangeAt gs 0 (iCells s)) :
    Calls Tryz.prog 86 #[.agg #[.slice (some ⟨gs, 0, none⟩) 8 cap, .string r, .int .i64 (n : Int)]] w
      fun e w' => e = .returned (.string (strOfNums (digL (endSt s r n)))) ∧ Below w.heap.size w w' := by
  obtain ⟨ib, hib, hz0, hz1, hz2⟩ := info_parts infoByte
  have hgsl : gs < w.heap.size := World.block_lt_of_cell? w _ (hst 0 _ rfl)
  go_enter Tryz.func86, Tryz.ntmps86
  go_wp2_with fail
  have HST : Hid (w.rangeAt gs 0 (iCells s)) := hst
  clear hst
  go_loopw [3] (fun b wr => ∃ j : Nat, j ≤ zerosOf n ∧ wr.ownsRow (w.heap.size + 1) 5 1 b (1 + j) (((128 : Int) :: List.replicate j 0).map (Value.int .u8)) ∧ Below (w.heap.size + 1) (w.alloc (.cells #[.slice (some ⟨gs, 0, none⟩) 8 cap, .string r, .int .i64 (n : Int)] 94 (0, 0))) wr ∧ w.heap.size + 1 ≤ wr.heap.size)
    (fun b _ => 1 + zerosOf n - lenOf b)
  case atStart =>
    refine ⟨0, Nat.zero_le _, ?_, (Below.refl _ (w.alloc _)).alloc (by simp) _, by simp⟩
    have h := World.ownsRow_lit (base := w.heap.size + 1) (e := 5) (size := 1) (w.alloc (.cells #[.slice (some ⟨gs, 0, none⟩) 8 cap, .string r, .int .i64 (n : Int)] 94 (0, 0))) #[.int .u8 128] 1 (by simp) (by decide) rfl
    simpa using h
  case round =>
    obtain ⟨j, hj, hown, hb, hsz⟩ := hrel
    obtain ⟨gb, cb, rfl⟩ := owns_form hown (by omega)
    have p2 := hb.cell (p := ⟨w.heap.size, 2, none⟩) (by simp)
    simp at p2
    have hz := zeros_iff n j hj
    have hzo : zerosOf n ≤ 63 := by unfold zerosOf; omega
    have tm : ((n : Int) + (1 + (j : Int))).tmod 64 = ((n : Int) + (1 + (j : Int))) % 64 := Int.tmod_eq_emod_of_nonneg (by omega)
    by_cases hlt : j < zerosOf n
    · have hne : ¬ (n + (1 + j)) % 64 = 56 := fun h => by have := hz.1 h; omega
      have hneI : ¬ ((n : Int) + (1 + (j : Int))) % 64 = 56 := by omega
      have HB : Hid (Below (w.heap.size + 1) (w.alloc (.cells #[.slice (some ⟨gs, 0, none⟩) 8 cap, .string r, .int .i64 (n : Int)] 94 (0, 0))) wr) := hb
      generalize hX : ((128 : Int) :: List.replicate j 0) = X at hown
      have HX : Hid ((128 : Int) :: List.replicate j 0 = X) := hX
      clear hz hne hb hX
      go_wp2_with (at_builtin; refine wpList_append_own _ rfl _ _ 22 rfl (w.heap.size + 1) 5 ib (.int .u8 0) 1 1 Tryz.underlying22 hib hz0 hz1 hz2 rfl (by decide) _ _ _ rfl (hown.alloc _) ⟨wr.heap.size, 0, none⟩ 1 1 [.int .u8 0] rfl rfl ?c1 ?c2 ?c3 ?c4 ?c5 ?_)
      case c1 => exact cells_one (by simp)
      case c2 => intro u hu; simp at hu; subst hu; rfl
      case c3 => unfold maxLen; omega
      case c4 => omega
      case c5 => simp; omega
      intro v' w1 hown' hgrow _
      have R := grow1 (ys := [0]) _ hsz HB.out hown hown' hgrow
      have R1 : w1.ownsRow (w.heap.size + 1) 5 1 v' (1 + (j + 1)) (((128 : Int) :: List.replicate (j + 1) 0).map (Value.int .u8)) := by
        have h := R.1
        rw [← HX.out, List.cons_append, ← List.replicate_succ'] at h
        exact h
      have HR : Hid _ := R1
      have R2 := R.2
      obtain ⟨g2, c2, rfl⟩ := owns_form R1 (by omega)
      clear hown' hgrow hown R R1
      go_wp2
      go_roundw
      case rel => exact ⟨j + 1, by omega, HR.out, R2.1, R2.2⟩
      case measure => simp [lenOf]; omega
    · have hjz : j = zerosOf n := by omega
      have heqI : ((n : Int) + (1 + (j : Int))) % 64 = 56 := by have := hz.2 hjz; omega
      subst hjz
      generalize hX : ((128 : Int) :: List.replicate (zerosOf n) 0) = X at hown
      have HX : Hid ((128 : Int) :: List.replicate (zerosOf n) 0 = X) := hX
      have HO : Hid (wr.ownsRow (w.heap.size + 1) 5 1 (.slice (some ⟨gb, 0, none⟩) (1 + zerosOf n) cb) (1 + zerosOf n) (X.map (Value.int .u8))) := hown
      have HB : Hid (Below (w.heap.size + 1) (w.alloc (.cells #[.slice (some ⟨gs, 0, none⟩) 8 cap, .string r, .int .i64 (n : Int)] 94 (0, 0))) wr) := hb
      clear hz hown hb hX
      go_wp2_with fail
      go_loopw [3, 5] (fun b k wr => ∃ (t : Nat) (kI : Int), t ≤ 8 ∧ kI = 56 - 8 * t ∧ k = .int .i64 kI ∧ wr.ownsRow (w.heap.size + 1) 5 1 b (1 + zerosOf n + t) ((X ++ (beF (8 * n) 8).take t).map (Value.int .u8)) ∧ Below (w.heap.size + 1) (w.alloc (.cells #[.slice (some ⟨gs, 0, none⟩) 8 cap, .string r, .int .i64 (n : Int)] 94 (0, 0))) wr ∧ w.heap.size + 1 ≤ wr.heap.size)
        (fun _ k _ => (64 - (56 - intOf k)).toNat)
      case atStart => exact ⟨0, 56, by omega, by omega, rfl, by rw [List.take_zero, List.append_nil]; exact HO.out, HB.out, hsz⟩
      case round =>
        clear HO HB hsz p2 tm heqI
        obtain ⟨t, kI, ht, hkI, rfl, hown, hb, hsz⟩ := hrel
        by_cases hlt : t < 8
        · obtain ⟨p, rfl⟩ : ∃ p : Nat, kI = p := ⟨(56 - 8 * t), by omega⟩
          have hpt : p + 8 * t = 56 := by omega
          have hy := shrByte n t p hpt
          have HT : Hid ((beF (8 * n) 8).take (t + 1) = (beF (8 * n) 8).take t ++ [((8 * n / 256 ^ (7 - t) % 256 : Nat) : Int)]) := be_take _ _ hlt
          generalize 8 * n / 256 ^ (7 - t) % 256 = y at hy HT
          have hy2 : IntKind.u8.wrap (8 * (n : Int) / 2 ^ p) = (y : Int) := by rw [IntKind.wrap_u8]; exact hy
          generalize hZ : X ++ (beF (8 * n) 8).take t = Z at hown
          have HZ : Hid (X ++ (beF (8 * n) 8).take t = Z) := hZ
          have HB : Hid (Below (w.heap.size + 1) (w.alloc (.cells #[.slice (some ⟨gs, 0, none⟩) 8 cap, .string r, .int .i64 (n : Int)] 94 (0, 0))) wr) := hb
          have hp56 : p ≤ 56 := by omega
          have HPT : Hid (p + 8 * t = 56) := hpt
          clear hb hZ hkI hpt
          go_wp2_with (at_builtin; refine wpList_append_own _ rfl _ _ 22 rfl (w.heap.size + 1) 5 ib (.int .u8 0) 1 1 Tryz.underlying22 hib hz0 hz1 hz2 rfl (by decide) _ _ _ rfl (hown.alloc _) ⟨wr.heap.size, 0, none⟩ 1 1 [.int .u8 (y : Int)] rfl rfl ?c1 ?c2 ?c3 ?c4 ?c5 ?_)
          case c1 => exact cells_one (by simp)
          case c2 => intro u hu; simp at hu; subst hu; rfl
          case c3 => unfold maxLen; omega
          case c4 => omega
          case c5 => simp; omega
          intro v' w1 hown' hgrow _
          have R := grow1 (ys := [(y : Int)]) _ hsz HB.out hown hown' hgrow
          have R1 : w1.ownsRow (w.heap.size + 1) 5 1 v' (1 + zerosOf n + (t + 1)) ((X ++ (beF (8 * n) 8).take (t + 1)).map (Value.int .u8)) := by
            have h := R.1
            rw [← HZ.out] at h
            rw [HT.out, ← List.append_assoc]
            exact h
          have HR : Hid _ := R1
          have R2 := R.2
          clear hown' hgrow hown R R1
          go_wp2
          go_roundw
          case rel => exact ⟨t + 1, (p : Int) - 8, by omega, by have := HPT.out; omega, by go_num, HR.out, R2.1, R2.2⟩
          case measure => simp [intOf]; omega
        · have hpad : (X ++ (beF (8 * n) 8).take t) = padL n := by
            rw [← HX.out, List.take_of_length_le (by simp [beF]; omega)]
            rfl
          rw [hpad] at hown
          have hcv := run_convert_own (P := Tryz.prog) (src := 22) (dst := 9) Tryz.underlying22 Tryz.underlying5 Tryz.underlying9 hown
          have q0 := hb.cell (p := ⟨w.heap.size, 0, none⟩) (by simp)
          have q1 := hb.cell (p := ⟨w.heap.size, 1, none⟩) (by simp)
          have q2 := hb.cell (p := ⟨w.heap.size, 2, none⟩) (by simp)
          simp at q0 q1 q2
          have hk0 : kI < 0 := by omega
          have HW : Hid (Below w.heap.size w wr) := ((Below.refl _ w).alloc (Nat.le_refl _) _).trans (hb.mono (by omega))
          have hps : (strOfNums (padL n)).size ≤ 900000 := by
            rw [strOfNums_size, padL_len]
            omega
          have HE : Hid (endSt s r n = more s (r ++ strOfNums (padL n))) := rfl
          generalize hP : strOfNums (padL n) = P at hcv hps
          have HP : Hid (strOfNums (padL n) = P) := hP
          clear hown hb hpad hP hkI ht hlt HX
          go_wp2_with fail
          refine (specMore s r P n wr gs cap hr hps (by omega) (by omega) (fun j v hv => by rw [HW.out.cell (p := ⟨gs, 0 + j, none⟩) hgsl]; exact HST.out j v hv)).mono ?_
          rintro e w2 ⟨v, rfl, hown2, hb2⟩
          obtain ⟨G, cG, rfl⟩ := owns_form hown2 (by omega)
          have HO2 : Hid (w2.ownsRow wr.heap.size 2 1 (.slice (some ⟨G, 0, none⟩) 8 cG) 8 (iCells (more s (r ++ P)))) := hown2
          have HB2 : Hid (Below w.heap.size w w2) := HW.out.trans (hb2.mono HW.out.size)
          clear hown2 hb2 q0 q1 q2 hcv
          go_wp2_with fail
          generalize hE : more s (r ++ P) = E at HO2
          have HEE : Hid (more s (r ++ P) = E) := hE
          clear hE
          go_loopw [7, 8] (fun o i wr => ∃ k : Nat, k ≤ 8 ∧ i = .int .i64 k ∧ wr.ownsRow (w2.heap.size + 1) 5 1 o (4 * k) (((digL E).take (4 * k)).map (Value.int .u8)) ∧ Below (w2.heap.size + 1) (w2.alloc (.cells #[.slice (some ⟨G, 0, none⟩) 8 cG, .string (restOf (r ++ P)), .int .i64 ((n : Int) + P.size)] 94 (0, 0))) wr ∧ w2.heap.size + 1 ≤ wr.heap.size)
            (fun _ i _ => 8 - (intOf i).toNat)
          case atStart =>
            refine ⟨0, Nat.zero_le _, rfl, ?_, (Below.refl _ (w2.alloc _)).alloc (by simp) _, by simp⟩
            have h := World.ownsRow_made (base := w2.heap.size + 1) (e := 5) (size := 1) (w2.alloc (.cells #[.slice (some ⟨G, 0, none⟩) 8 cG, .string (restOf (r ++ P)), .int .i64 ((n : Int) + P.size)] 94 (0, 0))) #[] 0 (by simp) (Nat.zero_le _) rfl
            simpa using h
          case round =>
            obtain ⟨k, hk, rfl, hown, hb, hsz⟩ := hrel
            by_cases hlt : k < 8
            · have x0 := hb.cell (p := ⟨w2.heap.size, 0, none⟩) (by simp)
              simp at x0
              have hGl : G < w2.heap.size := World.block_lt_of_cell? w2 _ (owns_range HO2.out 0 _ rfl)
              have hc : wr.cell? ⟨G, k, none⟩ = some (.int .i64 (uI (E.row.getD k 0))) := by
                rw [hb.cell (p := ⟨G, k, none⟩) (show G < w2.heap.size + 1 by omega), World.cell?_alloc_lt _ _ _ (show G < w2.heap.size by omega)]
                have := owns_range HO2.out k _ (iCells_at E k hlt)
                rwa [Nat.zero_add] at this
              have f2 := uI_le (E.row.getD k 0)
              have f3 := uI_nonneg (E.row.getD k 0)
              have HD : Hid ((digL E).take (4 * k + 4) = (digL E).take (4 * k) ++ [uI (E.row.getD k 0) / 16777216, uI (E.row.getD k 0) / 65536 % 256, uI (E.row.getD k 0) / 256 % 256, uI (E.row.getD k 0) % 256]) := digL_take E k hlt
              generalize uI (E.row.getD k 0) = z at hc f2 f3 HD
              generalize hZ : (digL E).take (4 * k) = Z at hown
              have HZ : Hid ((digL E).take (4 * k) = Z) := hZ
              have HB : Hid (Below (w2.heap.size + 1) (w2.alloc (.cells #[.slice (some ⟨G, 0, none⟩) 8 cG, .string (restOf (r ++ P)), .int .i64 ((n : Int) + P.size)] 94 (0, 0))) wr) := hb
              clear hb hZ
              go_wp2_with (at_builtin; refine wpList_append_own _ rfl _ _ 22 rfl (w2.heap.size + 1) 5 ib (.int .u8 0) 1 1 Tryz.underlying22 hib hz0 hz1 hz2 rfl (by decide) _ _ _ rfl (hown.alloc _) ⟨wr.heap.size, 0, none⟩ 4 4 [.int .u8 (z / 16777216), .int .u8 (z / 65536 % 256), .int .u8 (z / 256 % 256), .int .u8 (z % 256)] rfl rfl ?c1 ?c2 ?c3 ?c4 ?c5 ?_)
              case c1 => exact World.news_of_block (cs := #[.int .u8 (z / 16777216), .int .u8 (z / 65536 % 256), .int .u8 (z / 256 % 256), .int .u8 (z % 256)]) (t := 5) (fr := (0, 0)) (heap_alloc_new wr _)
              case c2 => simp [Value.oneCell']
              case c3 => unfold maxLen; omega
              case c4 => omega
              case c5 => simp; omega
              intro v' w1 hown' hgrow _
              have R := grow1 (ys := [z / 16777216, z / 65536 % 256, z / 256 % 256, z % 256]) _ hsz HB.out hown hown' hgrow
              have R1 : w1.ownsRow (w2.heap.size + 1) 5 1 v' (4 * (k + 1)) (((digL E).take (4 * (k + 1))).map (Value.int .u8)) := by
                have h := R.1
                rw [← HZ.out, ← HD.out] at h
                exact h
              have HR : Hid _ := R1
              have R2 := R.2
              clear hown' hgrow hown R R1
              go_wp2
              go_roundw
              case rel => exact ⟨k + 1, by omega, by go_num, HR.out, R2.1, R2.2⟩
              case measure => simp [intOf]; omega
            · have hd : (digL E).take (4 * k) = digL E := List.take_of_length_le (by rw [digL_len]; omega)
              rw [hd] at hown
              have hcv := run_convert_own (P := Tryz.prog) (src := 22) (dst := 9) Tryz.underlying22 Tryz.underlying5 Tryz.underlying9 hown
              have HB : Hid (Below w.heap.size w wr) := (HB2.out.alloc HB2.out.size _).trans (hb.mono (by have := HB2.out.size; omega))
              clear hown hb hd
              go_wp2
              go_ret
              exact ⟨by rw [HE.out, HP.out, HEE.out]; rfl, HB.out⟩
end Go.Proofs.YtjkmfjegphpjkaaGreatDoor
namespace Go.Proofs.YtjkmfjegphpjkaaGreatDoor
open Go.RowKit

theorem specBegin0 (w : World) :
    Calls Tryz.prog 88 #[] w fun e w' => ∃ g, e = .returned (.agg #[.slice (some ⟨g, 0, none⟩) 8 8, .string ByteArray.empty, .int .i64 0]) ∧ w.heap.size ≤ g ∧ w'.heap[g]? = some (.cells (iCells st0).toArray 2 (0, 0)) ∧ Below w.heap.size w w' := by
  go_enter Tryz.func88, Tryz.ntmps88
  go_wp2
  go_returns
  exact ⟨w.heap.size + 1, rfl, by omega, heap_alloc2 w _ _, ((Below.refl _ w).alloc (Nat.le_refl _) _).alloc (by simp) _⟩
end Go.Proofs.YtjkmfjegphpjkaaGreatDoor
namespace Go.Proofs.YtjkmfjegphpjkaaGreatDoor
open Go.RowKit

set_option maxHeartbeats 1000000 in
set_option maxRecDepth 100000 in
theorem specNum (t : ByteArray) (w : World) (ht : t.size ≤ 30000) :
    Calls Tryz.prog 63 #[.string t] w fun e w' => e = .returned (.int .i64 (dnum t : Nat)) ∧ Below w.heap.size w w' := by
  go_enter Tryz.func63, Tryz.ntmps63
  go_wp2_with fail
  refine (specBegin0 w).mono ?_
  rintro e w1 ⟨g, rfl, hg, hr, hb1⟩
  have HR : Hid _ := rangeRow hr
  have HB1 : Hid (Below w.heap.size w w1) := hb1
  clear hr hb1
  go_wp2_with fail
  refine (specMore st0 ByteArray.empty t 0 w1 g 8 (by simp) (by omega) (by omega) (by omega) HR.out).mono ?_
  rintro e w2 ⟨v, rfl, hown, hb2⟩
  rw [empty_append] at hown ⊢
  obtain ⟨G, cG, rfl⟩ := owns_form hown (by omega)
  have HO : Hid _ := owns_range hown
  have HB2 : Hid (Below w.heap.size w w2) := HB1.out.trans (hb2.mono HB1.out.size)
  have e0 : (0 : Int) + (t.size : Int) = ((t.size : Nat) : Int) := by omega
  rw [e0]
  clear hown hb2 e0
  go_wp2_with fail
  refine (specEnd (more st0 t) (restOf t) t.size w2 G cG (by rw [size_restOf]; omega) (by omega) HO.out).mono ?_
  rintro e w3 ⟨rfl, hb3⟩
  have HB3 : Hid (Below w.heap.size w w3) := HB2.out.trans (hb3.mono HB2.out.size)
  clear hb3 HB2 HO HB1 HR
  have hd := digOf_size t
  obtain ⟨D, hD⟩ : ∃ D, strOfNums (digL (endSt (more st0 t) (restOf t) t.size)) = D := ⟨_, rfl⟩
  have HD : Hid (digOf t = D) := hD
  rw [show digOf t = D from hD] at hd
  rw [hD]
  clear hD
  go_wp2_with fail
  go_loopw [4, 5] (fun n i wr => ∃ k : Nat, k ≤ 7 ∧ i = .int .i64 k ∧ n = .int .i64 (bnum D k : Nat) ∧ wr = w3) (fun _ i _ => 7 - (intOf i).toNat)
  case atStart => exact ⟨0, by omega, rfl, rfl, rfl⟩
  case round =>
    obtain ⟨k, hk7, rfl, rfl, rfl⟩ := hrel
    by_cases hlt : k < 7
    · have hb := bnum_le D (k := k) (by omega)
      have hc := (byteAt D k).toNat_lt
      have hg : byteAt D k = D[k] := byteAt_get D k (by omega)
      have HN : Hid (bnum D (k + 1) = 256 * bnum D k + (byteAt D k).toNat) := rfl
      have HG : Hid (byteAt D k = D[k]) := hg
      clear hg
      have hb' : (bnum D k : Int) ≤ 281474976710655 := by omega
      have hb0 : (0 : Int) ≤ (bnum D k : Int) := by omega
      obtain ⟨y, hy⟩ : ∃ y : Int, y = (bnum D k : Int) := ⟨_, rfl⟩
      have HY : Hid (y = (bnum D k : Int)) := hy
      have hc' := u8_lt D[k]
      rw [← hy] at hb' hb0 ⊢
      clear hb hy hc
      go_wp2
      go_roundw
      case rel => exact ⟨k + 1, by omega, by go_num, by rw [HN.out, HG.out, HY.out]; go_num, trivial⟩
      case measure => simp [intOf]; omega
    · go_wp2
      go_ret
      exact ⟨ret_int (by unfold dnum; rw [HD.out, show k = 7 from by omega]), HB3.out⟩
end Go.Proofs.YtjkmfjegphpjkaaGreatDoor
namespace Go.Proofs.YtjkmfjegphpjkaaGreatDoor
open Go.RowKit

set_option maxHeartbeats 1000000 in
set_option maxRecDepth 100000 in
theorem specChal (r key : Int) (t : ByteArray) (w : World) (ht : t.size ≤ 20000) (r0 : -9223372036854775808 ≤ r) (r1 : r ≤ 9223372036854775807) (k0 : -9223372036854775808 ≤ key) (k1 : key ≤ 9223372036854775807) :
    Calls Tryz.prog 65 #[.int .i64 r, .int .i64 key, .string t] w fun e w' => e = .returned (.int .i64 (chal r key t : Int)) ∧ Below w.heap.size w w' := by
  have s2 := putS_size r
  have s3 := putS_size key
  have P2 : Hid (∀ v : World, Calls Tryz.prog 64 #[.int .i64 r] v fun e w' => e = .returned (.string (putS r)) ∧ Below v.heap.size v w') := fun v => specPut r v r0 r1
  have P3 : Hid (∀ v : World, Calls Tryz.prog 64 #[.int .i64 key] v fun e w' => e = .returned (.string (putS key)) ∧ Below v.heap.size v w') := fun v => specPut key v k0 k1
  have EC : Hid ((dnum (putS r ++ putS key ++ t) % 1073741789 : Nat) = chal r key t) := rfl
  have ld := dnum_lt (putS r ++ putS key ++ t)
  have LD : Hid (∀ a b : ByteArray, a = putS r → b = putS key → dnum (a ++ b ++ t) < 72057594037927936 ∧ dnum (a ++ b ++ t) % 1073741789 = chal r key t) := fun a b ha hb => by subst ha hb; exact ⟨ld, EC.out⟩
  generalize hp : putS r = p at s2 P2
  generalize hq : putS key = q at s3 P3
  have LD' := LD.out p q hp.symm hq.symm
  have LE : Hid (dnum (p ++ q ++ t) < 72057594037927936 ∧ dnum (p ++ q ++ t) % 1073741789 = chal r key t) := LD'
  clear LD LD' ld EC hp hq r0 r1 k0 k1
  have n1 : (p ++ q).size = p.size + q.size := size_append p q
  have n2 : (p ++ q ++ t).size = p.size + q.size + t.size := by rw [size_append, size_append]
  go_enter Tryz.func65, Tryz.ntmps65
  go_wp2_with fail
  refine (P2.out _).mono ?_
  rintro e w1 ⟨rfl, hb1⟩
  have B1 : Hid (Below w.heap.size w w1) := hb1
  have z1 := hb1.size
  clear hb1
  go_wp2_with fail
  refine (P3.out _).mono ?_
  rintro e w2 ⟨rfl, hb2⟩
  have B2 : Hid (Below w.heap.size w w2) := B1.out.trans (hb2.mono z1)
  have z2 := B2.out.size
  clear hb2
  go_wp2_with fail
  refine (specNum (p ++ q ++ t) _ (by omega)).mono ?_
  rintro e w4 ⟨rfl, hb4⟩
  have B4 : Hid (Below w.heap.size w w4) := B2.out.trans (hb4.mono z2)
  clear hb4
  obtain ⟨l1, l2⟩ := LE.out
  generalize dnum (p ++ q ++ t) = d at l1 l2
  have t1 : (d : Int).tmod 1073741789 = ((d % 1073741789 : Nat) : Int) := tmodN d 1073741789
  rw [l2] at t1
  clear LE l1 l2
  go_wp2
  go_ret
  exact ⟨rfl, B4.out⟩
end Go.Proofs.YtjkmfjegphpjkaaGreatDoor
namespace Go.Proofs.YtjkmfjegphpjkaaGreatDoor
open Go.RowKit

theorem specSecret (x : Int) (w : World) :
    Calls Tryz.prog 36 #[.int .i64 x] w fun e w' => e = .returned (.bool (secB x)) ∧ w' = w := by
  by_cases h1 : 1 ≤ x
  · by_cases h2 : x < 1073741789
    · have e : secB x = true := decide_eq_true ⟨h1, h2⟩
      rw [e]
      go_enter Tryz.func36, Tryz.ntmps36
      go_wp2
      go_ret
      exact ⟨rfl, rfl⟩
    · have e : secB x = false := decide_eq_false (by omega)
      rw [e]
      go_enter Tryz.func36, Tryz.ntmps36
      go_wp2
      go_ret
      exact ⟨rfl, rfl⟩
  · have e : secB x = false := decide_eq_false (by omega)
    rw [e]
    go_enter Tryz.func36, Tryz.ntmps36
    go_wp2
    go_ret
    exact ⟨rfl, rfl⟩
end Go.Proofs.YtjkmfjegphpjkaaGreatDoor
namespace Go.Proofs.YtjkmfjegphpjkaaGreatDoor
open Go.RowKit

set_option maxHeartbeats 1000000 in
set_option maxRecDepth 100000 in
theorem specPublic (x : Int) (w : World) :
    Calls Tryz.prog 15 #[.int .i64 x] w fun e w' => e = .returned (.int .i64 (pubA x)) ∧ w' = w := by
  by_cases h : secB x = true
  · obtain ⟨n, rfl, n1, n2⟩ := secB_nat h
    rw [pubA_nat n h]
    have HP : Hid (∀ v : World, Calls Tryz.prog 45 #[.int .i64 4, .int .i64 (n : Int), .int .i64 2147483579] v fun e w' => e = .returned (.int .i64 ((pm 4 n 2147483579 : Nat) : Int)) ∧ w' = v) := fun v => specPow 4 n 2147483579 v (by omega) (by omega) (by omega)
    generalize pm 4 n 2147483579 = z at *
    go_enter Tryz.func15, Tryz.ntmps15
    go_wp2_with fail
    refine (specSecret n w).mono ?_
    rintro e w' ⟨rfl, rfl⟩
    rw [h]
    go_wp2_with fail
    refine (HP.out _).mono ?_
    rintro e w2 ⟨rfl, rfl⟩
    go_wp2
    go_ret
    exact ⟨rfl, rfl⟩
  · rw [Bool.not_eq_true] at h
    have ea : Hid (pubA x = 0) := by
      show _ = _
      rw [pubA, if_neg (by rw [h]; simp)]
    go_enter Tryz.func15, Tryz.ntmps15
    go_wp2_with fail
    refine (specSecret x w).mono ?_
    rintro e w' ⟨rfl, rfl⟩
    rw [h]
    go_wp2
    go_ret
    exact ⟨ret_int ea.out.symm, rfl⟩
end Go.Proofs.YtjkmfjegphpjkaaGreatDoor
namespace Go.Proofs.YtjkmfjegphpjkaaGreatDoor
open Go.RowKit

theorem sigRow {w : World} {g : Nat} {t : TypeId} {x y z : Value} (hg : w.heap[g]? = some (.cells [x, y, z].toArray t (0, 0))) (a b c : Value) :
    (((w.setCell ⟨g, 0, none⟩ a).setCell ⟨g, 1, none⟩ b).setCell ⟨g, 2, none⟩ c).heap[g]? = some (.cells [a, b, c].toArray t (0, 0)) := rowSet c (rowSet b (rowSet a hg))
theorem sizeSig : (Tryz.prog.info? 32).map (·.size) = some 3 := by kernel_rfl
end Go.Proofs.YtjkmfjegphpjkaaGreatDoor
namespace Go.Proofs.YtjkmfjegphpjkaaGreatDoor
open Go.RowKit

set_option maxHeartbeats 1000000 in
set_option maxRecDepth 100000 in
theorem specSign (x : Int) (t : ByteArray) (w : World) (ht : t.size ≤ maxLen) :
    Calls Tryz.prog 39 #[.int .i64 x, .string t] w fun e w' => e = .returned (signV x t) ∧ Below w.heap.size w w' := by
  have htm := ht
  unfold maxLen at htm
  by_cases h1 : 20000 < t.size
  · have ea : Hid (signV x t = sigV 0 0 0) := signV_no (by omega)
    go_enter Tryz.func39, Tryz.ntmps39
    go_wp2
    go_returns
    exact ⟨by rw [ea.out]; rfl, allocBelow _ _⟩
  by_cases h2 : secB x = true
  · obtain ⟨n, rfl, n1, n2⟩ := secB_nat h2
    have ea : Hid (signV n t = sigV ((pm 4 n 2147483579 : Nat) : Int) (signE n t) (signS n t)) := signV_nat (by omega) h2
    have ht2 : t.size ≤ 20000 := by omega
    have hpk := powK_lt n t
    have he := chal_lt ((pm 4 (powK n t) 2147483579 : Nat) : Int) ((pm 4 n 2147483579 : Nat) : Int) t
    have q1 := pm_lt 4 n (m := 2147483579) (by omega)
    have q2 := pm_lt 4 (powK n t) (m := 2147483579) (by omega)
    have s2 := putS_size n
    have P2 : Hid (∀ v : World, Calls Tryz.prog 64 #[.int .i64 (n : Int)] v fun e w' => e = .returned (.string (putS n)) ∧ Below v.heap.size v w') := fun v => specPut n v (by omega) (by omega)
    obtain ⟨pS, hp⟩ : ∃ p : ByteArray, putS n = p := ⟨_, rfl⟩
    have l2 := powK_eq n t pS hp
    rw [hp] at s2 P2
    obtain ⟨q, hq⟩ : ∃ q : ByteArray, ⟨#[75]⟩ ++ pS = q := ⟨_, rfl⟩
    rw [hq] at l2
    have sq : q.size ≤ 100 := by rw [← hq, size_append, show (ByteArray.mk #[75]).size = 1 from rfl]; omega
    have sqt : (q ++ t).size = q.size + t.size := size_append q t
    have N2 : Hid (∀ v : World, Calls Tryz.prog 63 #[.string (q ++ t)] v fun e w' => e = .returned (.int .i64 (dnum (q ++ t) : Nat)) ∧ Below v.heap.size v w') := fun v => specNum (q ++ t) v (by omega)
    have ld := dnum_lt (q ++ t)
    have S2 : Hid (∀ v : World, Calls Tryz.prog 15 #[.int .i64 (n : Int)] v fun e w' => e = .returned (.int .i64 ((pm 4 n 2147483579 : Nat) : Int)) ∧ w' = v) := fun v => by rw [← pubA_nat n h2]; exact specPublic n v
    have S3 : Hid (∀ v : World, Calls Tryz.prog 45 #[.int .i64 4, .int .i64 (powK n t : Nat), .int .i64 2147483579] v fun e w' => e = .returned (.int .i64 ((pm 4 (powK n t) 2147483579 : Nat) : Int)) ∧ w' = v) := fun v => specPow 4 (powK n t) 2147483579 v (by omega) (by omega) (by omega)
    have S4 : Hid (∀ v : World, Calls Tryz.prog 65 #[.int .i64 ((pm 4 (powK n t) 2147483579 : Nat) : Int), .int .i64 ((pm 4 n 2147483579 : Nat) : Int), .string t] v fun e w' => e = .returned (.int .i64 (signE n t : Nat)) ∧ Below v.heap.size v w') := fun v => specChal _ _ t v ht2 (by omega) (by omega) (by omega) (by omega)
    have S5 : Hid ((powK n t + signE n t * n) % 1073741789 = signS n t) := rfl
    change signE n t < 1073741789 at he
    generalize signS n t = s at *
    generalize signE n t = e at *
    generalize pm 4 (powK n t) 2147483579 = y at *
    generalize powK n t = k at *
    generalize pm 4 n 2147483579 = key at *
    generalize dnum (q ++ t) = d at *
    obtain ⟨p, hp', ep, lp, up⟩ := prod_bd e n (by omega) (by omega)
    have t0 : (p : Int).tmod 1073741789 = ((p % 1073741789 : Nat) : Int) := tmodN p 1073741789
    have hm := Nat.mod_lt p (show 0 < 1073741789 by omega)
    have t1 : ((k : Int) + ((p % 1073741789 : Nat) : Int)).tmod 1073741789 = (s : Int) := by
      have h := S5.out
      rw [← hp'] at h
      rw [← h, show (k : Int) + ((p % 1073741789 : Nat) : Int) = ((k + p % 1073741789 : Nat) : Int) from by omega]
      have h3 := tmodN (k + p % 1073741789) 1073741789
      rw [Nat.add_mod_mod] at h3
      exact h3
    generalize p % 1073741789 = pq at *
    have t3 : (d : Int).tmod 1073741788 = ((d % 1073741788 : Nat) : Int) := tmodN d 1073741788
    have hdm := Nat.mod_lt d (show 0 < 1073741788 by omega)
    generalize d % 1073741788 = m at *
    have hk1 : (1 : Int) + (m : Int) = (k : Int) := by omega
    have hm' : (m : Int) < 1073741788 := by omega
    have hpq' : (pq : Int) < 1073741789 := by omega
    have hk' : (k : Int) < 1073741789 := by omega
    have F1 : Hid ((d : Int).tmod 1073741788 = (m : Int) ∧ (1 : Int) + (m : Int) = (k : Int) ∧ (m : Int) < 1073741788) := ⟨t3, hk1, hm'⟩
    have F2 : Hid ((e : Int) * (n : Int) = (p : Int) ∧ ((0 : Int) ≤ (p : Int) ∧ (p : Int) ≤ 4611686018427387904) ∧ (p : Int).tmod 1073741789 = (pq : Int) ∧ ((k : Int) + (pq : Int)).tmod 1073741789 = (s : Int) ∧ (pq : Int) < 1073741789 ∧ (k : Int) < 1073741789) := ⟨ep, ⟨lp, up⟩, t0, t1, hpq', hk'⟩
    clear S5 hp hp' l2 hdm hm ld q1 q2 t3 hk1 hm' ep lp up t0 t1 hpq' hk' hpk he
    go_enter Tryz.func39, Tryz.ntmps39
    go_wp2_with fail
    refine (specSecret n _).mono ?_
    rintro e1 w' ⟨rfl, rfl⟩
    rw [h2]
    go_wp2_with fail
    obtain ⟨w0, hw0⟩ : ∃ w0, w.alloc (.cells #[.int .i64 0, .int .i64 0, .int .i64 0] 32 (0, 0)) = w0 := ⟨_, rfl⟩
    have hg0 : w0.heap[w.heap.size]? = some (.cells #[.int .i64 0, .int .i64 0, .int .i64 0] 32 (0, 0)) := by rw [← hw0]; exact heap_alloc_new w _
    have hb0 : Below w.heap.size w w0 := by rw [← hw0]; exact allocBelow w _
    have hs0 : w0.heap.size = w.heap.size + 1 := by rw [← hw0]; simp
    rw [hw0]
    have G0 : Hid (w0.heap[w.heap.size]? = some (.cells #[.int .i64 0, .int .i64 0, .int .i64 0] 32 (0, 0))) := hg0
    have B0 : Hid (Below w.heap.size w w0) := hb0
    have HS0 : Hid (w0.heap.size = w.heap.size + 1) := hs0
    clear hg0 hb0 hw0 hs0
    refine (P2.out w0).mono ?_
    rintro e1 w1 ⟨rfl, hb1⟩
    have b1 : Hid (Below w0.heap.size w0 w1) := hb1
    have z1 := b1.out.size
    clear hb1
    go_wp2_with fail
    refine (N2.out _).mono ?_
    rintro e1 w2 ⟨rfl, hb2⟩
    have b2 : Hid (Below w0.heap.size w0 w2) := b1.out.trans (hb2.mono z1)
    have z2 := b2.out.size
    clear hb2
    obtain ⟨t3, hk1, hm'⟩ := F1.out
    go_wp2_with fail
    refine (S2.out _).mono ?_
    rintro e1 w3 ⟨rfl, rfl⟩
    clear t3 hk1 hm' F1
    go_wp2_with fail
    refine (S3.out _).mono ?_
    rintro e1 w3 ⟨rfl, rfl⟩
    go_wp2_with fail
    refine (S4.out _).mono ?_
    rintro e1 w4 ⟨rfl, hb4⟩
    have b4 : Hid (Below w0.heap.size w0 w4) := b2.out.trans (hb4.mono z2)
    clear hb4
    have hg4 : w4.heap[w.heap.size]? = some (.cells [.int .i64 0, .int .i64 0, .int .i64 0].toArray 32 (0, 0)) := by
      rw [b4.out.block w.heap.size (by rw [HS0.out]; omega)]; exact G0.out
    have c0 := rowFacts hg4 0 (.int .i64 0) rfl
    have c1 := rowFacts hg4 1 (.int .i64 0) rfl
    have c2 := rowFacts hg4 2 (.int .i64 0) rfl
    have f0 := frozen_of_row w4 _ 0 _ _ hg4
    have f1 := frozen_of_row w4 _ 1 _ _ hg4
    have f2 := frozen_of_row w4 _ 2 _ _ hg4
    have BB : Hid (∀ a b c, Below w.heap.size w (((w4.setCell ⟨w.heap.size, 0, none⟩ a).setCell ⟨w.heap.size, 1, none⟩ b).setCell ⟨w.heap.size, 2, none⟩ c)) := fun a b c =>
      (((B0.out.trans (b4.out.mono B0.out.size)).setCell (Nat.le_refl _) a).setCell (Nat.le_refl _) b).setCell (Nat.le_refl _) c
    have G4 : Hid (w4.heap[w.heap.size]? = some (.cells [.int .i64 0, .int .i64 0, .int .i64 0].toArray 32 (0, 0))) := hg4
    clear hg4 b1 b2 b4 S2 S3 S4 P2 N2 HS0 B0 G0 z1 z2
    obtain ⟨ep, ⟨lp, up⟩, t0, t1, hpq', hk'⟩ := F2.out
    clear F2
    go_wp2
    refine bodyPost_ret (v := sigV key e s) ?_ rfl ⟨by rw [ea.out], BB.out _ _ _⟩
    have hrow := sigRow G4.out (.int .i64 (key : Int)) (.int .i64 (e : Int)) (.int .i64 (s : Int))
    have hl3 := run_loadVar_mid (P := Tryz.prog) _ w.heap.size 0 32 _ _ (rangeRow hrow) Tryz.underlying32 rfl sizeSig
    simp [results, Tryz.results39, asAddr, hl3, sigV]
  · rw [Bool.not_eq_true] at h2
    have ea : Hid (signV x t = sigV 0 0 0) := signV_no (by rw [h2]; simp)
    go_enter Tryz.func39, Tryz.ntmps39
    go_wp2_with fail
    refine (specSecret x _).mono ?_
    rintro e w' ⟨rfl, rfl⟩
    rw [h2]
    go_wp2
    go_returns
    exact ⟨by rw [ea.out]; rfl, allocBelow _ _⟩
end Go.Proofs.YtjkmfjegphpjkaaGreatDoor
namespace Go.Proofs.YtjkmfjegphpjkaaGreatDoor
open Go.RowKit Go.Lib

theorem specIs (n l h : Int) (w : World) :
    Calls Tryz.prog 37 #[.int .i64 n, .int .i64 l, .int .i64 h] w fun e w' => e = .returned (.bool (decide (l ≤ n) && decide (n ≤ h))) ∧ w' = w := by
  by_cases h1 : l ≤ n
  · go_enter Tryz.func37, Tryz.ntmps37
    go_wp2
    go_ret
    exact ⟨by simp [h1], rfl⟩
  · go_enter Tryz.func37, Tryz.ntmps37
    go_wp2
    go_ret
    exact ⟨by simp; omega, rfl⟩
end Go.Proofs.YtjkmfjegphpjkaaGreatDoor
namespace Go.Proofs.YtjkmfjegphpjkaaGreatDoor
open Go.RowKit

theorem resKeep {w w1 : World} {cs : List Value} {T : Nat} (hb : Below (w.alloc (.cells cs.toArray T (0, 0))).heap.size (w.alloc (.cells cs.toArray T (0, 0))) w1) :
    w1.heap[w.heap.size]? = some (.cells cs.toArray T (0, 0)) ∧ Below w.heap.size w w1 ∧ w.heap.size < w1.heap.size := by
  have hs : (w.alloc (.cells cs.toArray T (0, 0))).heap.size = w.heap.size + 1 := by simp
  have hl := hb.size
  refine ⟨?_, ((Below.refl _ w).alloc (Nat.le_refl _) _).trans (hb.mono (by omega)), by omega⟩
  rw [hb.block w.heap.size (by omega)]
  exact heap_alloc_new w _
theorem rowFree {w : World} {g : Nat} {cs : List Value} {t : TypeId} (hg : w.heap[g]? = some (.cells cs.toArray t (0, 0))) (j : Nat) : w.frozen? ⟨g, j, none⟩ = false := frozen_of_row w g j _ t hg
/-- Three cells of a variable. -/
theorem cells3 {w : World} {g : Nat} {a b c : Value} {t : TypeId} (h : w.heap[g]? = some (.cells [a, b, c].toArray t (0, 0))) :
    (w.cell? ⟨g, 0, none⟩ = some a ∧ w.cell? ⟨g, 1, none⟩ = some b ∧ w.cell? ⟨g, 2, none⟩ = some c) ∧ w.frozen? ⟨g, 0, none⟩ = false ∧ w.frozen? ⟨g, 1, none⟩ = false ∧ w.frozen? ⟨g, 2, none⟩ = false :=
  ⟨⟨rowFacts h 0 _ rfl, rowFacts h 1 _ rfl, rowFacts h 2 _ rfl⟩, rowFree h 0, rowFree h 1, rowFree h 2⟩
theorem cells2 {w : World} {g : Nat} {a b : Value} {t : TypeId} (h : w.heap[g]? = some (.cells [a, b].toArray t (0, 0))) :
    (w.cell? ⟨g, 0, none⟩ = some a ∧ w.cell? ⟨g, 1, none⟩ = some b) ∧ w.frozen? ⟨g, 0, none⟩ = false ∧ w.frozen? ⟨g, 1, none⟩ = false :=
  ⟨⟨rowFacts h 0 _ rfl, rowFacts h 1 _ rfl⟩, rowFree h 0, rowFree h 1⟩
theorem cells4 {w : World} {g : Nat} {a b c d : Value} {t : TypeId} (h : w.heap[g]? = some (.cells [a, b, c, d].toArray t (0, 0))) :
    (w.cell? ⟨g, 0, none⟩ = some a ∧ w.cell? ⟨g, 1, none⟩ = some b ∧ w.cell? ⟨g, 2, none⟩ = some c ∧ w.cell? ⟨g, 3, none⟩ = some d) ∧ w.frozen? ⟨g, 0, none⟩ = false ∧ w.frozen? ⟨g, 1, none⟩ = false ∧ w.frozen? ⟨g, 2, none⟩ = false ∧ w.frozen? ⟨g, 3, none⟩ = false :=
  ⟨⟨rowFacts h 0 _ rfl, rowFacts h 1 _ rfl, rowFacts h 2 _ rfl, rowFacts h 3 _ rfl⟩, rowFree h 0, rowFree h 1, rowFree h 2, rowFree h 3⟩
end Go.Proofs.YtjkmfjegphpjkaaGreatDoor
