/- spec.DrawCrlSign, spec.DrawCertRead, spec.DrawCrlGood, walked. Numbers read back: what DerIntRead answers. Plain mathematics: no program is named here. -/
import Derived.Test.YtkhdjmjbdpmdnaaGreatDoorCR11
import Derived.Test.YtkhdjmjbdpmdnaaGreatDoorCR14
import Derived.Deep.Cut
import Derived.Test.YtkhdjmjbdpmdnaaGreatDoorCR03
import Derived.Laws.BitsAllLaws
import Derived.Lib.Strings
namespace Go.Proofs.YtkhdjmjbdpmdnaaGreatDoor
open Go.RowKit

/-- The draw of a paper, its parts by name. -/
theorem sk_crlF {w W : World} {a : Option Addr} {len cap : Nat} (h : SS w a len cap W) :
    Calls Tryz.prog 90 #[.pointer (some ⟨w.heap.size, 0, none⟩)] W fun e w' => ∃ (iss : ByteArray) (fr till : Int) (ser : List Int) (sk se ss : Int) (va : Option Addr) (nl vc : Nat), e = .returned (.agg [Value.string iss, .int .i64 fr, .int .i64 till, .slice va nl vc, .int .i64 sk, .int .i64 se, .int .i64 ss].toArray) ∧ Hid (nl = ser.length) ∧ OwnL w' W.heap.size (.slice va nl vc) ser ∧ LMay ⟨iss, fr, till, ser, sk, se, ss⟩ ∧ SS w a len cap w' ∧ Grows w.heap.size W w' := by
  refine (sk_crl h).mono ?_
  rintro e w' ⟨⟨iss, fr, till, ser, sk, se, ss⟩, v, rfl, ho, hm, h1, h2⟩
  obtain ⟨va, vc, rfl, _⟩ := ho.form
  exact ⟨iss, fr, till, ser, sk, se, ss, va, ser.length, vc, rfl, rfl, ho, hm, h1, h2⟩
/-- A number and a paper are told. -/
def AnyXL (w : World) (e : Ending) (w' : World) : Prop := ∃ (x : Int) (iss : ByteArray) (fr till : Int) (ser : List Int) (sk se ss : Int) (va : Option Addr) (nl vc : Nat), e = .returned (.tuple #[.int .i64 x, .agg [Value.string iss, .int .i64 fr, .int .i64 till, .slice va nl vc, .int .i64 sk, .int .i64 se, .int .i64 ss].toArray]) ∧ inW x ∧ Hid (nl = ser.length) ∧ OwnL w' w.heap.size (.slice va nl vc) ser ∧ LMay ⟨iss, fr, till, ser, sk, se, ss⟩

set_option maxRecDepth 100000 in
set_option maxHeartbeats 4000000 in
theorem drawCrlSign (a : Option Addr) (len cap : Nat) (w : World) (hlen : len ≤ 1048576) (hc : CodeAt a len w) (hblk : ∀ x, 0 < len → a = some x → x.block < w.heap.size) :
    Calls Tryz.prog 29 #[.slice a len cap] w fun e w' => AnyXL w e w' ∧ Below w.heap.size w w' := by
  obtain ⟨w1, hw1⟩ : ∃ y, y = w.alloc (.cells [Value.string ⟨#[]⟩, .int .i64 0, .int .i64 0, .slice none 0 0, .int .i64 0, .int .i64 0, .int .i64 0].toArray 53 (0, 0)) := ⟨_, rfl⟩
  have b1 : Below w.heap.size w w1 := by rw [hw1]; exact (Below.refl _ _).alloc (Nat.le_refl _) _
  have Z1 : Hid (w1.heap[w.heap.size]? = some (.cells [Value.string ⟨#[]⟩, .int .i64 0, .int .i64 0, .slice none 0 0, .int .i64 0, .int .i64 0, .int .i64 0].toArray 53 (0, 0))) := by rw [hw1]; exact heap_alloc_new w _
  have HZ1 : Hid (w1.heap.size = w.heap.size + 1) := by rw [hw1]; show _ = _; simp
  have HC : Hid (CodeAt a len w1) := hc.below b1 hblk
  have HB : Hid (∀ x, 0 < len → a = some x → x.block < w1.heap.size) := fun x h0 hx => by have := hblk x h0 hx; have := HZ1.out; omega
  have B1 : Hid (Below w.heap.size w w1) := b1
  clear b1 hc hblk
  go_enter Tryz.func29, Tryz.ntmps29
  go_upto_region 1 with fail
  rw [← hw1]
  clear hw1
  go_wp2_with fail
  refine (ss_source a len cap w1 hlen HC.out HB.out).mono ?_
  rintro e w2 ⟨rfl, h2⟩
  have S2 : Hid (SS w1 a len cap w2) := h2
  clear h2
  go_wp2_with fail
  refine (sk_secret S2.out).mono ?_
  rintro e w3 ⟨⟨x, hx, rfl⟩, h3, hg3⟩
  have S3 : Hid (SS w1 a len cap w3) := h3
  clear h3 hg3
  go_wp2_with fail
  refine (sk_crlF S3.out).mono ?_
  rintro e w4 ⟨iss, fr, till, ser, sk, se, ss, va, nl, vc, rfl, hnl, ho4, hm4, h4, hg4⟩
  have S4 : Hid (SS w1 a len cap w4) := h4
  have O4 : Hid (OwnL w4 (w1.heap.size + 1) (.slice va nl vc) ser) := ho4.mono S3.out.2.2.1
  have M4 : Hid (LMay ⟨iss, fr, till, ser, sk, se, ss⟩) := hm4
  have Z4 : Hid (w4.heap[w.heap.size]? = some (.cells [Value.string ⟨#[]⟩, .int .i64 0, .int .i64 0, .slice none 0 0, .int .i64 0, .int .i64 0, .int .i64 0].toArray 53 (0, 0))) := by show _ = _; rw [S4.out.2.1.block _ (by have := HZ1.out; omega)]; exact Z1.out
  have h1c : ∀ u ∈ [Value.string iss, .int .i64 fr, .int .i64 till, .slice va nl vc, .int .i64 sk, .int .i64 se, .int .i64 ss], u.oneCell' = true := by simp [Value.oneCell']
  clear h4 hg4 ho4 hm4
  have hz4 := Z4.out
  go_wp2_with (refine wpList_store_row rfl 53 _ _ rfl w.heap.size [Value.string ⟨#[]⟩, .int .i64 0, .int .i64 0, .slice none 0 0, .int .i64 0, .int .i64 0, .int .i64 0] [Value.string iss, .int .i64 fr, .int .i64 till, .slice va nl vc, .int .i64 sk, .int .i64 se, .int .i64 ss] 53 rfl rfl hz4 rfl sizeCrl h1c ?_)
  intro w5 hrow ho hs hbb
  have hg := grown_row ho hbb
  have hl3 := run_loadVar_mid (P := Tryz.prog) _ w.heap.size 0 53 _ _ (rangeRow hrow) Tryz.underlying53 rfl sizeCrl
  have HFIN : Hid (AnyXL w (.returned (.tuple #[.int .i64 (x), .agg [Value.string iss, .int .i64 fr, .int .i64 till, .slice va nl vc, .int .i64 sk, .int .i64 se, .int .i64 ss].toArray])) w5 ∧ Below w.heap.size w w5) :=
    ⟨⟨x, iss, fr, till, ser, sk, se, ss, va, nl, vc, rfl, hx, hnl, ((O4.out).rowOff hg (fun e => by have := ((O4.out).ge e).1; have := HZ1.out; omega)).mono (by have := HZ1.out; omega), M4.out⟩, hbb _ _ (Nat.le_refl _) (B1.out.trans (S4.out.2.1.mono (by have := HZ1.out; omega)))⟩
  clear ho hs hbb hg
  go_wp2
  refine bodyPost_ret (v := .tuple #[.int .i64 (x), .agg [Value.string iss, .int .i64 fr, .int .i64 till, .slice va nl vc, .int .i64 sk, .int .i64 se, .int .i64 ss].toArray]) ?_ rfl HFIN.out
  simp [results, Tryz.results29, asAddr, hl3]
set_option maxRecDepth 100000 in
set_option maxHeartbeats 4000000 in
theorem drawCrlGood (a : Option Addr) (len cap : Nat) (w : World) (hlen : len ≤ 1048576) (hc : CodeAt a len w) (hblk : ∀ x, 0 < len → a = some x → x.block < w.heap.size) :
    Calls Tryz.prog 39 #[.slice a len cap] w fun e w' => AnyXL w e w' ∧ Below w.heap.size w w' := by
  obtain ⟨w1, hw1⟩ : ∃ y, y = w.alloc (.cells [Value.string ⟨#[]⟩, .int .i64 0, .int .i64 0, .slice none 0 0, .int .i64 0, .int .i64 0, .int .i64 0].toArray 53 (0, 0)) := ⟨_, rfl⟩
  have b1 : Below w.heap.size w w1 := by rw [hw1]; exact (Below.refl _ _).alloc (Nat.le_refl _) _
  have Z1 : Hid (w1.heap[w.heap.size]? = some (.cells [Value.string ⟨#[]⟩, .int .i64 0, .int .i64 0, .slice none 0 0, .int .i64 0, .int .i64 0, .int .i64 0].toArray 53 (0, 0))) := by rw [hw1]; exact heap_alloc_new w _
  have HZ1 : Hid (w1.heap.size = w.heap.size + 1) := by rw [hw1]; show _ = _; simp
  have HC : Hid (CodeAt a len w1) := hc.below b1 hblk
  have HB : Hid (∀ x, 0 < len → a = some x → x.block < w1.heap.size) := fun x h0 hx => by have := hblk x h0 hx; have := HZ1.out; omega
  have B1 : Hid (Below w.heap.size w w1) := b1
  clear b1 hc hblk
  go_enter Tryz.func39, Tryz.ntmps39
  go_upto_region 1 with fail
  rw [← hw1]
  clear hw1
  go_wp2_with fail
  refine (ss_source a len cap w1 hlen HC.out HB.out).mono ?_
  rintro e w2 ⟨rfl, h2⟩
  have S2 : Hid (SS w1 a len cap w2) := h2
  clear h2
  go_wp2_with fail
  refine (sk_crlF S2.out).mono ?_
  rintro e w4 ⟨iss, fr, till, ser, sk, se, ss, va, nl, vc, rfl, hnl, ho4, hm4, h4, hg4⟩
  have S4 : Hid (SS w1 a len cap w4) := h4
  have O4 : Hid (OwnL w4 (w1.heap.size + 1) (.slice va nl vc) ser) := ho4.mono S2.out.2.2.1
  have M4 : Hid (LMay ⟨iss, fr, till, ser, sk, se, ss⟩) := hm4
  have Z4 : Hid (w4.heap[w.heap.size]? = some (.cells [Value.string ⟨#[]⟩, .int .i64 0, .int .i64 0, .slice none 0 0, .int .i64 0, .int .i64 0, .int .i64 0].toArray 53 (0, 0))) := by show _ = _; rw [S4.out.2.1.block _ (by have := HZ1.out; omega)]; exact Z1.out
  have h1c : ∀ u ∈ [Value.string iss, .int .i64 fr, .int .i64 till, .slice va nl vc, .int .i64 sk, .int .i64 se, .int .i64 ss], u.oneCell' = true := by simp [Value.oneCell']
  clear h4 hg4 ho4 hm4
  obtain ⟨w5, hw5⟩ : ∃ y, y = w4.alloc (.cells [Value.string iss, .int .i64 fr, .int .i64 till, .slice va nl vc, .int .i64 sk, .int .i64 se, .int .i64 ss].toArray 53 (0, 0)) := ⟨_, rfl⟩
  have b5 : Below w4.heap.size w4 w5 := by rw [hw5]; exact (Below.refl _ _).alloc (Nat.le_refl _) _
  have R5 : Hid (w5.heap[w4.heap.size]? = some (.cells [Value.string iss, .int .i64 fr, .int .i64 till, .slice va nl vc, .int .i64 sk, .int .i64 se, .int .i64 ss].toArray 53 (0, 0))) := by rw [hw5]; exact heap_alloc_new w4 _
  have S5 : Hid (SS w1 a len cap w5) := S4.out.keep b5
  have O5 : Hid (OwnL w5 (w1.heap.size + 1) (.slice va nl vc) ser) := O4.out.keep b5
  have hq4 : w1.heap.size < w4.heap.size := S4.out.2.2.1
  have hz1 : w.heap.size < w1.heap.size := by have := HZ1.out; omega
  clear b5 S4 O4 Z4
  go_upto_region 3 with fail
  rw [← hw5]
  clear hw5
  go_wp2_with fail
  refine (sk_one 3 (by omega) S5.out).mono ?_
  rintro e w6 ⟨⟨bb, rfl⟩, h6, hg6⟩
  have S6 : Hid (SS w1 a len cap w6) := h6
  have O6 : Hid (OwnL w6 (w1.heap.size + 1) (.slice va nl vc) ser) := O5.out.grow hg6 (by omega)
  have R6 : Hid (w6.heap[w4.heap.size]? = some (.cells [Value.string iss, .int .i64 fr, .int .i64 till, .slice va nl vc, .int .i64 sk, .int .i64 se, .int .i64 ss].toArray 53 (0, 0))) := by show _ = _; rw [hg6.keepBlock (heap_lt R5.out) (by omega)]; exact R5.out
  clear h6 hg6 S5 O5 R5

  have hg6 : Below w.heap.size w w6 := B1.out.trans (S6.out.2.1.mono (by omega))
  have Z6 : Hid (w6.heap[w.heap.size]? = some (.cells [Value.string ⟨#[]⟩, .int .i64 0, .int .i64 0, .slice none 0 0, .int .i64 0, .int .i64 0, .int .i64 0].toArray 53 (0, 0))) := by show _ = _; rw [S6.out.2.1.block _ hz1]; exact Z1.out
  have BB6 : Hid (Below w.heap.size w w6) := hg6
  clear hg6
  have HCE : Hid (∀ V : World, V.heap[w4.heap.size]? = some (.cells [Value.string iss, .int .i64 fr, .int .i64 till, .slice va nl vc, .int .i64 sk, .int .i64 se, .int .i64 ss].toArray 53 (0, 0)) → V.cell? ⟨w4.heap.size, 0, none⟩ = some (.string iss) ∧ V.cell? ⟨w4.heap.size, 1, none⟩ = some (.int .i64 fr) ∧ V.cell? ⟨w4.heap.size, 2, none⟩ = some (.int .i64 till) ∧ V.cell? ⟨w4.heap.size, 3, none⟩ = some (.slice va nl vc) ∧ V.cell? ⟨w4.heap.size, 4, none⟩ = some (.int .i64 sk) ∧ V.cell? ⟨w4.heap.size, 5, none⟩ = some (.int .i64 se) ∧ V.cell? ⟨w4.heap.size, 6, none⟩ = some (.int .i64 ss)) := fun V hP => ⟨rowFacts hP 0 _ rfl, rowFacts hP 1 _ rfl, rowFacts hP 2 _ rfl, rowFacts hP 3 _ rfl, rowFacts hP 4 _ rfl, rowFacts hP 5 _ rfl, rowFacts hP 6 _ rfl⟩
  cases bb with
  | true =>
    have hSD : SS w1 a len cap w6.drew := S6.out.keep ((Below.refl _ _).drew)
    go_upto_region 4 with fail
    refine wp_region_held_drew (S := fun V => V.cell? ⟨w4.heap.size, 0, none⟩ = some (.string iss) ∧ V.cell? ⟨w4.heap.size, 1, none⟩ = some (.int .i64 fr) ∧ V.cell? ⟨w4.heap.size, 2, none⟩ = some (.int .i64 till) ∧ V.cell? ⟨w4.heap.size, 3, none⟩ = some (.slice va nl vc) ∧ V.cell? ⟨w4.heap.size, 4, none⟩ = some (.int .i64 sk) ∧ V.cell? ⟨w4.heap.size, 5, none⟩ = some (.int .i64 se) ∧ V.cell? ⟨w4.heap.size, 6, none⟩ = some (.int .i64 ss)) (by kernel_rfl) ?_ (fun hHeld => ?_)
    · exact HCE.out w6.drew R6.out
    refine wpAnyH_take (i := 0) (oi := ⟨some 12, _, _, _, _, _⟩) (v := ?_) rfl (by kernel_rfl) (by kernel_rfl) (by kernel_rfl) (fun _ _ _ h => h) (Or.inl ⟨by kernel_rfl, ?_⟩) (by assumption) ?_
    rotate_left
    · (intro w hSw; (try dsimp only at hSw); go_simp; try with_reducible rfl)
    (try simp only [Act.put, List.setIfInBounds_toArray, List.set_cons_zero, List.set_cons_succ])
    refine wpAnyH_take (i := 4) (oi := ⟨some 16, _, _, _, _, _⟩) (v := ?_) rfl (by kernel_rfl) (by kernel_rfl) (by kernel_rfl) (fun _ _ _ h => h) (Or.inl ⟨by kernel_rfl, ?_⟩) (by assumption) ?_
    rotate_left
    · (intro w hSw; (try dsimp only at hSw); go_simp; try with_reducible rfl)
    (try simp only [Act.put, List.setIfInBounds_toArray, List.set_cons_zero, List.set_cons_succ])
    refine wpAnyH_ready (rs := [1]) (by kernel_rfl) (by simp) ?_
    refine AllReadyH.cons (o := ⟨some 13, _, _, _, _, _⟩) rfl (fun K hK => ?_) AllReadyH.nil
    go_simp
    refine (sk_n 3 (by omega) hSD).mono ?_
    rintro e w7 ⟨r, rfl, hr, h7, hg7⟩
    have R7 : Hid (w7.heap[w4.heap.size]? = some (.cells [Value.string iss, .int .i64 fr, .int .i64 till, .slice va nl vc, .int .i64 sk, .int .i64 se, .int .i64 ss].toArray 53 (0, 0))) := by show _ = _; rw [hg7.keepBlock (heap_lt (w := w6) R6.out) (by omega)]; exact R6.out
    have O7 : Hid (OwnL w7 (w1.heap.size + 1) (.slice va nl vc) ser) := (O6.out.keep ((Below.refl _ _).drew)).grow hg7 (by omega)
    have Z7 : Hid (w7.heap[w.heap.size]? = some (.cells [Value.string ⟨#[]⟩, .int .i64 0, .int .i64 0, .slice none 0 0, .int .i64 0, .int .i64 0, .int .i64 0].toArray 53 (0, 0))) := by show _ = _; rw [h7.2.1.block _ hz1]; exact Z1.out
    have BB7 : Hid (Below w.heap.size w w7) := B1.out.trans (h7.2.1.mono (by omega))
    obtain ⟨ks, hks, hksw⟩ : ∃ n : Int, inW n ∧ IntKind.i64.wrap (5 + (r : Int)) = n := ⟨_, by unfold inW; rw [IntKind.wrap_i64]; omega, rfl⟩
    refine hK.out _ _ ?_ (fun hHeld => ?_)
    · exact HCE.out _ R7.out
    clear hK K hr h7 hg7 R6 O6 Z6 BB6 hSD
    refine wpAnyH_take (i := 2) (oi := ⟨some 14, _, _, _, _, _⟩) (v := ?_) rfl (by kernel_rfl) (by kernel_rfl) (by kernel_rfl) (fun _ _ _ h => h) (Or.inl ⟨by kernel_rfl, ?_⟩) (by assumption) ?_
    rotate_left
    · (intro w hSw; (try dsimp only at hSw); go_simp; try with_reducible rfl)
    (try simp only [Act.put, List.setIfInBounds_toArray, List.set_cons_zero, List.set_cons_succ])
    refine wpAnyH_ready (rs := [3]) (by kernel_rfl) (by simp) ?_
    refine AllReadyH.cons (o := ⟨some 15, _, _, _, _, _⟩) rfl (fun K hK => ?_) AllReadyH.nil
    go_simp
    refine (specPublic ks w7).mono ?_
    rintro e w7' ⟨rfl, rfl⟩
    have hpk := pubA_in ks
    generalize pubA ks = pk at *
    refine hK.out _ _ ?_ (fun hHeld => ?_)
    · exact HCE.out _ R7.out
    clear hK K
    refine wpAnyH_take (i := 5) (oi := ⟨some 2, _, _, _, _, _⟩) (v := ?_) rfl (by kernel_rfl) (by kernel_rfl) (by kernel_rfl) (fun _ _ _ h => h) (Or.inl ⟨by kernel_rfl, ?_⟩) (by assumption) ?_
    rotate_left
    · (intro w hSw; (try dsimp only at hSw); go_simp; try with_reducible rfl)
    (try simp only [Act.put, List.setIfInBounds_toArray, List.set_cons_zero, List.set_cons_succ])
    have hz7 := Z7.out
    have h1d : ∀ u ∈ [Value.string iss, .int .i64 fr, .int .i64 till, .slice va nl vc, .int .i64 sk, .int .i64 se, .int .i64 ss], u.oneCell' = true := by simp [Value.oneCell']
    refine wpAnyH_ready (rs := [6]) (by kernel_rfl) (by simp) ?_
    refine AllReadyH.cons (o := ⟨none, _, _, _, _, _⟩) rfl (fun K hK => ?_) AllReadyH.nil
    rw [if_pos (by rfl)]
    refine wp_store_row 53 _ _ rfl w.heap.size [Value.string ⟨#[]⟩, .int .i64 0, .int .i64 0, .slice none 0 0, .int .i64 0, .int .i64 0, .int .i64 0] [Value.string iss, .int .i64 fr, .int .i64 till, .slice va nl vc, .int .i64 sk, .int .i64 se, .int .i64 ss] 53 rfl rfl hz7 rfl sizeCrl h1d ?_
    intro w8 hrow ho hs hbb
    have hr8 : w8.heap[w4.heap.size]? = some (.cells [Value.string iss, .int .i64 fr, .int .i64 till, .slice va nl vc, .int .i64 sk, .int .i64 se, .int .i64 ss].toArray 53 (0, 0)) := by rw [ho _ (by omega)]; exact R7.out
    refine hK.out _ _ ?_ (fun hHeld => ?_)
    · exact HCE.out _ hr8
    clear hK K hr8
    refine wpAnyH_done (by kernel_rfl) ?_ _
    have hg := grown_row ho hbb
    have hl3 := run_loadVar_mid (P := Tryz.prog) _ w.heap.size 0 53 _ _ (rangeRow hrow) Tryz.underlying53 rfl sizeCrl
    have HFIN : Hid (AnyXL w (.returned (.tuple #[.int .i64 pk, .agg [Value.string iss, .int .i64 fr, .int .i64 till, .slice va nl vc, .int .i64 sk, .int .i64 se, .int .i64 ss].toArray])) w8 ∧ Below w.heap.size w w8) :=
      ⟨⟨pk, iss, fr, till, ser, sk, se, ss, va, nl, vc, rfl, hpk, hnl, ((O7.out).rowOff hg (fun e => by have := ((O7.out).ge e).1; omega)).mono (by omega), M4.out⟩, hbb _ _ (Nat.le_refl _) BB7.out⟩
    clear ho hs hbb hg
    go_wp2
    refine bodyPost_ret (v := .tuple #[.int .i64 pk, .agg [Value.string iss, .int .i64 fr, .int .i64 till, .slice va nl vc, .int .i64 sk, .int .i64 se, .int .i64 ss].toArray]) ?_ rfl HFIN.out
    simp [results, Tryz.results39, asAddr, hl3, Act.put]
  | false =>
    go_upto_region 5 with fail
    refine wp_region_held_drew (S := fun V => V.cell? ⟨w4.heap.size, 0, none⟩ = some (.string iss) ∧ V.cell? ⟨w4.heap.size, 1, none⟩ = some (.int .i64 fr) ∧ V.cell? ⟨w4.heap.size, 2, none⟩ = some (.int .i64 till) ∧ V.cell? ⟨w4.heap.size, 3, none⟩ = some (.slice va nl vc) ∧ V.cell? ⟨w4.heap.size, 4, none⟩ = some (.int .i64 sk) ∧ V.cell? ⟨w4.heap.size, 5, none⟩ = some (.int .i64 se) ∧ V.cell? ⟨w4.heap.size, 6, none⟩ = some (.int .i64 ss)) (by kernel_rfl) ?_ (fun hHeld => ?_)
    · exact HCE.out w6.drew R6.out
    refine wpAnyH_take (i := 0) (oi := ⟨some 17, _, _, _, _, _⟩) (v := ?_) rfl (by kernel_rfl) (by kernel_rfl) (by kernel_rfl) (fun _ _ _ h => h) (Or.inl ⟨by kernel_rfl, ?_⟩) (by assumption) ?_
    rotate_left
    · (intro w hSw; (try dsimp only at hSw); go_simp; try with_reducible rfl)
    (try simp only [Act.put, List.setIfInBounds_toArray, List.set_cons_zero, List.set_cons_succ])
    refine wpAnyH_take (i := 1) (oi := ⟨some 18, _, _, _, _, _⟩) (v := ?_) rfl (by kernel_rfl) (by kernel_rfl) (by kernel_rfl) (fun _ _ _ h => h) (Or.inl ⟨by kernel_rfl, ?_⟩) (by assumption) ?_
    rotate_left
    · (intro w hSw; (try dsimp only at hSw); go_simp; try with_reducible rfl)
    (try simp only [Act.put, List.setIfInBounds_toArray, List.set_cons_zero, List.set_cons_succ])
    refine wpAnyH_take (i := 2) (oi := ⟨some 19, _, _, _, _, _⟩) (v := ?_) rfl (by kernel_rfl) (by kernel_rfl) (by kernel_rfl) (fun _ _ _ h => h) (Or.inl ⟨by kernel_rfl, ?_⟩) (by assumption) ?_
    rotate_left
    · (intro w hSw; (try dsimp only at hSw); go_simp; try with_reducible rfl)
    (try simp only [Act.put, List.setIfInBounds_toArray, List.set_cons_zero, List.set_cons_succ])
    refine wpAnyH_take (i := 3) (oi := ⟨some 20, _, _, _, _, _⟩) (v := ?_) rfl (by kernel_rfl) (by kernel_rfl) (by kernel_rfl) (fun _ _ _ h => h) (Or.inl ⟨by kernel_rfl, ?_⟩) (by assumption) ?_
    rotate_left
    · (intro w hSw; (try dsimp only at hSw); go_simp; try with_reducible rfl)
    (try simp only [Act.put, List.setIfInBounds_toArray, List.set_cons_zero, List.set_cons_succ])
    refine wpAnyH_take (i := 4) (oi := ⟨some 2, _, _, _, _, _⟩) (v := ?_) rfl (by kernel_rfl) (by kernel_rfl) (by kernel_rfl) (fun _ _ _ h => h) (Or.inl ⟨by kernel_rfl, ?_⟩) (by assumption) ?_
    rotate_left
    · (intro w hSw; (try dsimp only at hSw); go_simp; try with_reducible rfl)
    (try simp only [Act.put, List.setIfInBounds_toArray, List.set_cons_zero, List.set_cons_succ])
    have hz7 : w6.drew.heap[w.heap.size]? = some (.cells [Value.string ⟨#[]⟩, .int .i64 0, .int .i64 0, .slice none 0 0, .int .i64 0, .int .i64 0, .int .i64 0].toArray 53 (0, 0)) := Z6.out
    have h1d : ∀ u ∈ [Value.string iss, .int .i64 fr, .int .i64 till, .slice va nl vc, .int .i64 sk, .int .i64 se, .int .i64 ss], u.oneCell' = true := by simp [Value.oneCell']
    refine wpAnyH_ready (rs := [5]) (by kernel_rfl) (by simp) ?_
    refine AllReadyH.cons (o := ⟨none, _, _, _, _, _⟩) rfl (fun K hK => ?_) AllReadyH.nil
    rw [if_pos (by rfl)]
    refine wp_store_row 53 _ _ rfl w.heap.size [Value.string ⟨#[]⟩, .int .i64 0, .int .i64 0, .slice none 0 0, .int .i64 0, .int .i64 0, .int .i64 0] [Value.string iss, .int .i64 fr, .int .i64 till, .slice va nl vc, .int .i64 sk, .int .i64 se, .int .i64 ss] 53 rfl rfl hz7 rfl sizeCrl h1d ?_
    intro w8 hrow ho hs hbb
    have hr8 : w8.heap[w4.heap.size]? = some (.cells [Value.string iss, .int .i64 fr, .int .i64 till, .slice va nl vc, .int .i64 sk, .int .i64 se, .int .i64 ss].toArray 53 (0, 0)) := by rw [ho _ (by omega)]; exact R6.out
    refine hK.out _ _ ?_ (fun hHeld => ?_)
    · exact HCE.out _ hr8
    clear hK K hr8
    have O7 : Hid (OwnL w6.drew (w1.heap.size + 1) (.slice va nl vc) ser) := O6.out.keep ((Below.refl _ _).drew)
    have BB7 : Hid (Below w.heap.size w w6.drew) := BB6.out.drew
    have hskw : inW sk := M4.out.sk
    refine wpAnyH_done (by kernel_rfl) ?_ _
    have hg := grown_row ho hbb
    have hl3 := run_loadVar_mid (P := Tryz.prog) _ w.heap.size 0 53 _ _ (rangeRow hrow) Tryz.underlying53 rfl sizeCrl
    have HFIN : Hid (AnyXL w (.returned (.tuple #[.int .i64 sk, .agg [Value.string iss, .int .i64 fr, .int .i64 till, .slice va nl vc, .int .i64 sk, .int .i64 se, .int .i64 ss].toArray])) w8 ∧ Below w.heap.size w w8) :=
      ⟨⟨sk, iss, fr, till, ser, sk, se, ss, va, nl, vc, rfl, hskw, hnl, ((O7.out).rowOff hg (fun e => by have := ((O7.out).ge e).1; omega)).mono (by omega), M4.out⟩, hbb _ _ (Nat.le_refl _) BB7.out⟩
    clear ho hs hbb hg
    go_wp2
    refine bodyPost_ret (v := .tuple #[.int .i64 sk, .agg [Value.string iss, .int .i64 fr, .int .i64 till, .slice va nl vc, .int .i64 sk, .int .i64 se, .int .i64 ss].toArray]) ?_ rfl HFIN.out
    simp [results, Tryz.results39, asAddr, hl3, Act.put]

/-- A number and a row of names are told. -/
def AnyXN (w : World) (e : Ending) (w' : World) : Prop := ∃ (x : Int) (g c : Nat) (ns : List ByteArray), e = .returned (.tuple #[.int .i64 x, .slice (some ⟨g, 0, none⟩) ns.length c]) ∧ inW x ∧ OwnS w' w.heap.size (.slice (some ⟨g, 0, none⟩) ns.length c) ns ∧ ns.length ≤ 5 ∧ (∀ t ∈ ns, t.size ≤ 6)
set_option maxRecDepth 100000 in
set_option maxHeartbeats 4000000 in
theorem drawCsrSign (a : Option Addr) (len cap : Nat) (w : World) (hlen : len ≤ 1048576) (hc : CodeAt a len w) (hblk : ∀ x, 0 < len → a = some x → x.block < w.heap.size) :
    Calls Tryz.prog 22 #[.slice a len cap] w fun e w' => AnyXN w e w' ∧ Below w.heap.size w w' := by
  obtain ⟨i0, hi0, hz0, hz1, hz2⟩ := info_parts infoText
  have HC : Hid (CodeAt a len w) := hc
  have HB : Hid (∀ x, 0 < len → a = some x → x.block < w.heap.size) := hblk
  clear hc hblk
  go_enter Tryz.func22, Tryz.ntmps22
  go_wp2_with fail
  refine (ss_source a len cap w hlen HC.out HB.out).mono ?_
  rintro e w2 ⟨rfl, h2⟩
  have S2 : Hid (SS w a len cap w2) := h2
  have hlt1 : w.heap.size < w2.heap.size := h2.2.2.1
  clear h2
  go_wp2_with fail
  refine (sk_secret S2.out).mono ?_
  rintro e w3 ⟨⟨x, hx, rfl⟩, h3, hg3⟩
  have S3 : Hid (SS w a len cap w3) := h3
  have G3 : Hid (Grows w.heap.size w2 w3) := hg3
  clear h3 hg3 S2
  go_wp2_with fail
  refine (sk_names S3.out).mono ?_
  rintro e w8 ⟨g, gc, names, rfl, ho8, hl8, hs8, h8, hg8⟩
  have S8 : Hid (SS w a len cap w8) := h8
  have G8 : Hid (Grows w.heap.size w2 w8) := G3.out.trans hg8
  have O8 : Hid (OwnS w8 w2.heap.size (.slice (some ⟨g, 0, none⟩) names.length gc) names) := ho8.mono G3.out.size
  have T8 : Hid (∀ t ∈ names, t.size ≤ 6) := hs8
  clear h8 hg8 ho8 hs8 S3 G3
  go_wp2_with fail
  refine (sk_one 10 (by omega) S8.out).mono ?_
  rintro e w9 ⟨⟨bb, rfl⟩, h9, hg9⟩
  have S9 : Hid (SS w a len cap w9) := h9
  have G9 : Hid (Grows w.heap.size w2 w9) := G8.out.trans hg9
  have O9 : Hid (OwnS w9 w2.heap.size (.slice (some ⟨g, 0, none⟩) names.length gc) names) := O8.out.grow hg9 hlt1
  clear h9 hg9 S8 G8 O8
  cases bb with
  | false =>
    go_wp2
    refine bodyPost_ret (v := .tuple #[.int .i64 x, .slice (some ⟨g, 0, none⟩) names.length gc]) ?_ rfl ⟨⟨x, g, gc, names, rfl, hx, O9.out.mono (by omega), by omega, T8.out⟩, S9.out.2.1⟩
    simp [results, Tryz.results22]
  | true =>
    have bA : Below w9.heap.size w9 (w9.alloc (.cells #[.string ⟨#[65]⟩] 9 (0, 0))) := (Below.refl _ _).alloc (Nat.le_refl _) _
    have SA : Hid (SS w a len cap (w9.alloc (.cells #[.string ⟨#[65]⟩] 9 (0, 0)))) := S9.out.keep bA
    have GA : Hid (Grows w.heap.size w2 (w9.alloc (.cells #[.string ⟨#[65]⟩] 9 (0, 0)))) := G9.out.trans (below_grows bA)
    have OA : Hid (OwnS (w9.alloc (.cells #[.string ⟨#[65]⟩] 9 (0, 0))) w2.heap.size (.slice (some ⟨g, 0, none⟩) names.length gc) names) := O9.out.keep bA
    have hown : (w9.alloc (.cells #[.string ⟨#[65]⟩] 9 (0, 0))).ownsRow w2.heap.size 9 1 (.slice (some ⟨g, 0, none⟩) names.length gc) names.length (sCells names) := OA.out
    have hnews := news_text (heap_alloc_new w9 (.cells #[.string ⟨#[65]⟩] 9 (0, 0)))
    have hz8 : w2.heap.size ≤ w9.heap.size := G9.out.size
    clear bA
    go_wp2_with (at_builtin; refine wpList_append_own _ rfl _ _ 23 rfl w2.heap.size 9 i0 (.string ⟨#[]⟩) 1 16 Tryz.underlying23 hi0 hz0 hz1 hz2 rfl (by decide) _ _ _ rfl hown ⟨w9.heap.size, 0, none⟩ 1 1 [.string ⟨#[65]⟩] rfl ?c0 hnews ?c2 ?c3 ?c4 ?c5 ?_)
    case c0 => simp
    case c2 => simp [Value.oneCell']
    case c3 => unfold maxLen; omega
    case c4 => omega
    case c5 => first | omega | (simp; omega)
    intro v' w10 hown' hgrow hnil
    obtain ⟨gv, vc0, rfl, ho9, hs9, hg9⟩ := appended hlt1 SA.out GA.out OA.out hown' hgrow
    have HF : Hid (OwnS w10 w.heap.size (.slice (some ⟨gv, 0, none⟩) (names ++ ([⟨#[65]⟩] : List ByteArray)).length vc0) (names ++ ([⟨#[65]⟩] : List ByteArray)) ∧ Below w.heap.size w w10) := ⟨ho9.mono (by omega), hs9.2.1⟩
    have L9 : (names ++ ([⟨#[65]⟩] : List ByteArray)).length ≤ 5 := by simp; omega
    have T9 : ∀ u ∈ names ++ ([⟨#[65]⟩] : List ByteArray), u.size ≤ 6 := fun u hu => by
      rcases List.mem_append.1 hu with hu | hu
      · exact T8.out u hu
      · rw [List.mem_singleton] at hu; subst hu; decide
    generalize names ++ ([⟨#[65]⟩] : List ByteArray) = ns at *
    clear hown' hgrow hnil hs9 hg9 ho9 hown hnews SA GA OA O9 S9 G9 T8 hl8 hz8
    go_wp2
    refine bodyPost_ret (v := .tuple #[.int .i64 x, .slice (some ⟨gv, 0, none⟩) ns.length vc0]) ?_ rfl ⟨⟨x, gv, vc0, ns, rfl, hx, HF.out.1, L9, T9⟩, HF.out.2⟩
    simp [results, Tryz.results22]
/-- The draw of an asking paper, its parts by name. -/
theorem sk_csrF {w W : World} {a : Option Addr} {len cap : Nat} (h : SS w a len cap W) :
    Calls Tryz.prog 101 #[.pointer (some ⟨w.heap.size, 0, none⟩)] W fun e w' => ∃ (key : Int) (names : List ByteArray) (sk se ss : Int) (va : Option Addr) (nl vc : Nat), e = .returned (.agg [Value.int .i64 key, .slice va nl vc, .int .i64 sk, .int .i64 se, .int .i64 ss].toArray) ∧ Hid (nl = names.length) ∧ OwnS w' W.heap.size (.slice va nl vc) names ∧ AMay ⟨key, names, sk, se, ss⟩ ∧ SS w a len cap w' ∧ Grows w.heap.size W w' := by
  refine (sk_csr h).mono ?_
  rintro e w' ⟨⟨key, names, sk, se, ss⟩, v, rfl, ho, hm, h1, h2⟩
  obtain ⟨va, vc, rfl, _⟩ := ho.form
  exact ⟨key, names, sk, se, ss, va, names.length, vc, rfl, rfl, ho, hm, h1, h2⟩
theorem askY_small {c : Ask} (h : AMay c) : (askY c).size ≤ 20000 := by
  have y1 := intD_le 0
  have y2 := askK_le c.key
  have y3 := hosts_le h.len (fun i _ => Nat.le_trans (may_at h.each i) (by omega))
  have z := seqD_le (intD 0 ++ (thingD 3 (⟨#[0]⟩ ++ putS c.key) ++ seqD (hostsD c.names c.names.length)))
  have z1 := askT_le c.se c.ss
  have z2 := thingD_le 3 (askT c.se c.ss)
  have z3 := seqD_le (askD c ++ thingD 3 (askT c.se c.ss))
  simp only [ByteArray.size_append] at z z3
  unfold askY
  unfold askD at *
  omega
theorem crlBytes_small {c : Lst} : (crlBytesD c).size ≤ 20000 := by
  unfold crlBytesD
  split
  · rename_i h
    unfold crlB at h
    rw [Bool.and_eq_true] at h
    have h1 := listD_le (list_fits h.1)
    have h2 := sigD_le c.sk c.se c.ss
    have h4 := seqD_le (listD c ++ sigD c.sk c.se c.ss)
    rw [ByteArray.size_append] at h4
    unfold listY
    omega
  · exact Nat.zero_le _
set_option maxRecDepth 100000 in
set_option maxHeartbeats 4000000 in
theorem drawCrlRead (a : Option Addr) (len cap : Nat) (w : World) (hlen : len ≤ 1048576) (hc : CodeAt a len w) (hblk : ∀ x, 0 < len → a = some x → x.block < w.heap.size) :
    Calls Tryz.prog 38 #[.slice a len cap] w fun e w' => UpT 20001 e ∧ Below w.heap.size w w' := by
  have HC : Hid (CodeAt a len w) := hc
  have HB : Hid (∀ x, 0 < len → a = some x → x.block < w.heap.size) := hblk
  clear hc hblk
  go_enter Tryz.func38, Tryz.ntmps38
  go_wp2_with fail
  refine (ss_source a len cap w hlen HC.out HB.out).mono ?_
  rintro e w2 ⟨rfl, h2⟩
  have S2 : Hid (SS w a len cap w2) := h2
  clear h2
  go_wp2_with fail
  refine (sk_crlF S2.out).mono ?_
  rintro e w4 ⟨iss, fr, till, ser, sk, se, ss, va, nl, vc, rfl, hnl, ho4, hm4, h4, hg4⟩
  have S4 : Hid (SS w a len cap w4) := h4
  have HBy : Hid (Calls Tryz.prog 33 #[.agg [Value.string iss, .int .i64 fr, .int .i64 till, .slice va nl vc, .int .i64 sk, .int .i64 se, .int .i64 ss].toArray] w4 fun e w' => e = .returned (.string (crlBytesD ⟨iss, fr, till, ser, sk, se, ss⟩)) ∧ Below w4.heap.size w4 w') := by
    have q := specCrlBytes ⟨iss, fr, till, ser, sk, se, ss⟩ va vc w4 (by have := hm4.iss; unfold maxLen; omega) (by have := hm4.len; omega) ho4.ints
    rw [show (⟨iss, fr, till, ser, sk, se, ss⟩ : Lst).serials.length = nl from hnl.out.symm] at q
    exact q
  have hts : (crlBytesD ⟨iss, fr, till, ser, sk, se, ss⟩).size ≤ 20000 := crlBytes_small
  generalize crlBytesD ⟨iss, fr, till, ser, sk, se, ss⟩ = t at *
  clear h4 hg4 ho4 hm4 hnl S2
  go_wp2_with fail
  refine HBy.out.mono ?_
  rintro e w5 ⟨rfl, b5⟩
  have S5 : Hid (SS w a len cap w5) := S4.out.keep b5
  clear b5 S4 HBy
  go_wp2_with fail
  refine (sk_n 4 (by omega) S5.out).mono ?_
  rintro e w6 ⟨q, rfl, hq, h6, _⟩
  have S6 : Hid (SS w a len cap w6) := h6
  have B6 : Hid (Below w.heap.size w w6) := h6.2.1
  have hq' : q = 0 ∨ q = 1 ∨ 1 < q := by omega
  clear h6 hq S5
  rcases hq' with rfl | rfl | hq'
  · go_wp2_with fail
    refine (sk_spoil t (by omega) S6.out).mono ?_
    rintro e w7 ⟨⟨v, hv, rfl⟩, h7⟩
    have B7 : Hid (Below w.heap.size w w7) := h7.2.1
    clear h7
    go_wp2
    go_ret
    exact ⟨⟨v, by omega, rfl⟩, B7.out⟩
  · have hww : IntKind.i64.wrap ((t.size : Int) + 1) = ((t.size + 1 : Nat) : Int) := by rw [IntKind.wrap_i64]; omega
    have HN : Hid (Calls Tryz.prog 71 #[.pointer (some ⟨w.heap.size, 0, none⟩), .int .i64 ((t.size : Int) + 1)] w6 fun e w' => ∃ r : Nat, e = .returned (.int .i64 (r : Int)) ∧ (r < t.size + 1 ∨ r = 0) ∧ SS w a len cap w' ∧ Grows w.heap.size w6 w') := sk_n (t.size + 1) (by omega) S6.out
    clear hww
    go_wp2_with fail
    refine HN.out.mono ?_
    rintro e w7 ⟨r, rfl, hr, h7, _⟩
    have B7 : Hid (Below w.heap.size w w7) := h7.2.1
    have hr' : r ≤ t.size := by omega
    have s1 := slice_to t r hr'
    have hp := ext_size t 0 r
    generalize t.extract 0 r = p at *
    clear h7 hr HN
    go_wp2
    go_ret
    exact ⟨⟨p, by omega, rfl⟩, B7.out⟩
  · have q1 : ((q : Int) == 0) = false := by rw [beq_eq_false_iff_ne]; omega
    have q2 : ((q : Int) == 1) = false := by rw [beq_eq_false_iff_ne]; omega
    go_wp2
    go_ret
    exact ⟨⟨t, by omega, rfl⟩, B6.out⟩
set_option maxRecDepth 100000 in
set_option maxHeartbeats 4000000 in
theorem drawCsrRead (a : Option Addr) (len cap : Nat) (w : World) (hlen : len ≤ 1048576) (hc : CodeAt a len w) (hblk : ∀ x, 0 < len → a = some x → x.block < w.heap.size) :
    Calls Tryz.prog 37 #[.slice a len cap] w fun e w' => UpT 20001 e ∧ Below w.heap.size w w' := by
  have HC : Hid (CodeAt a len w) := hc
  have HB : Hid (∀ x, 0 < len → a = some x → x.block < w.heap.size) := hblk
  clear hc hblk
  go_enter Tryz.func37, Tryz.ntmps37
  go_wp2_with fail
  refine (ss_source a len cap w hlen HC.out HB.out).mono ?_
  rintro e w2 ⟨rfl, h2⟩
  have S2 : Hid (SS w a len cap w2) := h2
  clear h2
  go_wp2_with fail
  refine (sk_csrF S2.out).mono ?_
  rintro e w4 ⟨key, names, sk, se, ss, va, nl, vc, rfl, hnl, ho4, hm4, h4, hg4⟩
  obtain ⟨w4', hw4⟩ : ∃ y, y = w4.alloc (.cells [Value.int .i64 key, .slice va nl vc, .int .i64 sk, .int .i64 se, .int .i64 ss].toArray 44 (0, 0)) := ⟨_, rfl⟩
  have b4 : Below w4.heap.size w4 w4' := by rw [hw4]; exact (Below.refl _ _).alloc (Nat.le_refl _) _
  have R4 : Hid (w4'.heap[w4.heap.size]? = some (.cells [Value.int .i64 key, .slice va nl vc, .int .i64 sk, .int .i64 se, .int .i64 ss].toArray 44 (0, 0))) := by rw [hw4]; exact heap_alloc_new w4 _
  have S4 : Hid (SS w a len cap w4') := h4.keep b4
  have HBy : Hid (Calls Tryz.prog 86 #[.agg [Value.int .i64 key, .slice va nl vc, .int .i64 sk, .int .i64 se, .int .i64 ss].toArray] w4' fun e w' => e = .returned (.string (askY ⟨key, names, sk, se, ss⟩)) ∧ Below w4'.heap.size w4' w') := by
    have q := specAskY ⟨key, names, sk, se, ss⟩ va vc w4' hm4.key hm4.se hm4.ss hm4.len (fun i _ => Nat.le_trans (may_at hm4.each i) (by omega)) (ho4.keep b4).strs
    rw [show (⟨key, names, sk, se, ss⟩ : Ask).names.length = nl from hnl.out.symm] at q
    exact q
  have hts : (askY ⟨key, names, sk, se, ss⟩).size ≤ 20000 := askY_small hm4
  generalize askY ⟨key, names, sk, se, ss⟩ = t at *
  clear h4 hg4 ho4 hm4 hnl S2 b4
  go_upto_region 3 with fail
  rw [← hw4]
  clear hw4
  have hr4 := rangeRow R4.out
  go_wp2_with (refine wpList_load_mid rfl 44 _ rfl w4.heap.size 0 rfl [Value.int .i64 key, .slice va nl vc, .int .i64 sk, .int .i64 se, .int .i64 ss] _ hr4 Tryz.underlying44 rfl sizeCsr ?_)
  refine HBy.out.mono ?_
  rintro e w5 ⟨rfl, b5⟩
  have S5 : Hid (SS w a len cap w5) := S4.out.keep b5
  clear b5 S4 HBy hr4 R4
  go_wp2_with fail
  refine (sk_n 4 (by omega) S5.out).mono ?_
  rintro e w6 ⟨q, rfl, hq, h6, _⟩
  have S6 : Hid (SS w a len cap w6) := h6
  have B6 : Hid (Below w.heap.size w w6) := h6.2.1
  have hq' : q = 0 ∨ q = 1 ∨ 1 < q := by omega
  clear h6 hq S5
  rcases hq' with rfl | rfl | hq'
  · go_wp2_with fail
    refine (sk_spoil t (by omega) S6.out).mono ?_
    rintro e w7 ⟨⟨v, hv, rfl⟩, h7⟩
    have B7 : Hid (Below w.heap.size w w7) := h7.2.1
    clear h7
    go_wp2
    go_ret
    exact ⟨⟨v, by omega, rfl⟩, B7.out⟩
  · have hww : IntKind.i64.wrap ((t.size : Int) + 1) = ((t.size + 1 : Nat) : Int) := by rw [IntKind.wrap_i64]; omega
    have HN : Hid (Calls Tryz.prog 71 #[.pointer (some ⟨w.heap.size, 0, none⟩), .int .i64 ((t.size : Int) + 1)] w6 fun e w' => ∃ r : Nat, e = .returned (.int .i64 (r : Int)) ∧ (r < t.size + 1 ∨ r = 0) ∧ SS w a len cap w' ∧ Grows w.heap.size w6 w') := sk_n (t.size + 1) (by omega) S6.out
    clear hww
    go_wp2_with fail
    refine HN.out.mono ?_
    rintro e w7 ⟨r, rfl, hr, h7, _⟩
    have B7 : Hid (Below w.heap.size w w7) := h7.2.1
    have hr' : r ≤ t.size := by omega
    have s1 := slice_to t r hr'
    have hp := ext_size t 0 r
    generalize t.extract 0 r = p at *
    clear h7 hr HN
    go_wp2
    go_ret
    exact ⟨⟨p, by omega, rfl⟩, B7.out⟩
  · have q1 : ((q : Int) == 0) = false := by rw [beq_eq_false_iff_ne]; omega
    have q2 : ((q : Int) == 1) = false := by rw [beq_eq_false_iff_ne]; omega
    go_wp2
    go_ret
    exact ⟨⟨t, by omega, rfl⟩, B6.out⟩
end Go.Proofs.YtkhdjmjbdpmdnaaGreatDoor
namespace Go.Proofs.YtkhdjmjbdpmdnaaGreatDoor
open Go.RowKit

/-- The number of a text's first k bytes in two's complement. -/
def sv (s : ByteArray) : Nat → Int
  | 0 => if 128 ≤ bN s 0 then -1 else 0
  | k + 1 => sv s k * 256 + (bN s k : Int)
theorem sv_zero (s : ByteArray) : -1 ≤ sv s 0 ∧ sv s 0 ≤ 0 := by unfold sv; split <;> omega
theorem sv_fits (s : ByteArray) : ∀ k, Fits k (sv s (k + 1))
  | 0 => by
    have h := bN_lt s 0
    unfold Fits
    simp only [sv, lim]
    split <;> omega
  | k + 1 => by
    have h := bN_lt s (k + 1)
    have ih := sv_fits s k
    unfold Fits at *
    rw [sv]
    simp only [lim]
    omega
theorem lim_pos : ∀ m, 0 ≤ lim m
  | 0 => by decide
  | m + 1 => by have := lim_pos m; simp only [lim]; omega
theorem lim_le {a b : Nat} (h : a ≤ b) : lim a ≤ lim b := by
  obtain ⟨d, rfl⟩ := Nat.exists_eq_add_of_le h
  clear h
  induction d with
  | zero => exact Int.le_refl _
  | succ d ih => have := lim_pos (a + d); rw [← Nat.add_assoc]; simp only [lim]; omega
theorem sv_bd (s : ByteArray) {k : Nat} (hk : k ≤ 8) : -9223372036854775808 ≤ sv s k ∧ sv s k < 9223372036854775808 := by
  cases k with
  | zero => have := sv_zero s; omega
  | succ k =>
    have h := sv_fits s k
    have l := lim_le (show k ≤ 7 by omega)
    rw [lim7] at l
    unfold Fits at h
    omega
theorem sv_low (s : ByteArray) {k : Nat} (hk : k < 8) : -36028797018963968 ≤ sv s k ∧ sv s k < 36028797018963968 := by
  cases k with
  | zero => have := sv_zero s; omega
  | succ k =>
    have h := sv_fits s k
    have l := lim_le (show k ≤ 6 by omega)
    have e : lim 6 = 36028797018963968 := by decide
    unfold Fits at h
    omega
theorem or8 (v : Int) (b : Nat) (hb : b < 256) (h0 : -36028797018963968 ≤ v) (h1 : v < 36028797018963968) : bits BinOp.or IntKind.i64 (v * 256) (b : Int) = v * 256 + (b : Int) := by
  have e : bits BinOp.or IntKind.i64 (v * 256) (b : Int) = IntKind.i64.wrap ((BitVec.ofInt 64 (v * 256) ||| BitVec.ofInt 64 (b : Int)).toNat : Nat) := rfl
  rw [e, BitVec.toNat_or, BitVec.toNat_ofInt, BitVec.toNat_ofInt]
  have e1 : ((b : Int) % ((2 ^ 64 : Nat) : Int)).toNat = b := by omega
  rw [e1]
  obtain ⟨q, hq⟩ : ∃ q : Nat, (v * 256 % ((2 ^ 64 : Nat) : Int)).toNat = 2 ^ 8 * q := ⟨(v * 256 % ((2 ^ 64 : Nat) : Int)).toNat / 256, by omega⟩
  rw [hq, ← Nat.two_pow_add_eq_or_of_lt (by omega)]
  rw [IntKind.wrap_i64]
  omega
theorem same_text (a b : ByteArray) : (a.toList == b.toList) = decide (a = b) := by
  by_cases h : a = b
  · subst h; simp
  · rw [decide_eq_false h, beq_eq_false_iff_ne]
    intro h'
    rw [Lib.toList_data, Lib.toList_data] at h'
    exact h (ByteArray.ext (Array.toList_inj.1 h'))
/-- What DerIntRead answers: the number and the code. -/
def intR (s : ByteArray) : Int × Int :=
  if 20000 < s.size then (0, 2) else if s.size = 0 ∨ 8 < s.size then (0, 3) else if strOfNums (intL (sv s s.size)) = s then (sv s s.size, 0) else (0, 3)
theorem intR_long {s : ByteArray} (h : 20000 < s.size) : intR s = (0, 2) := if_pos h
theorem intR_size {s : ByteArray} (h : s.size ≤ 20000) (h1 : s.size = 0 ∨ 8 < s.size) : intR s = (0, 3) := by rw [intR, if_neg (by omega), if_pos h1]
theorem intR_good {s : ByteArray} (h0 : 0 < s.size) (h1 : s.size ≤ 8) (h : strOfNums (intL (sv s s.size)) = s) : intR s = (sv s s.size, 0) := by rw [intR, if_neg (by omega), if_neg (by omega), if_pos h]
theorem intR_bad {s : ByteArray} (h0 : 0 < s.size) (h1 : s.size ≤ 8) (h : strOfNums (intL (sv s s.size)) ≠ s) : intR s = (0, 3) := by rw [intR, if_neg (by omega), if_neg (by omega), if_neg h]
/-- A NumOut as a value. -/
def numT (n c : Int) : Value := .agg #[.int .i64 n, .int .i64 0, .int .i64 c]
end Go.Proofs.YtkhdjmjbdpmdnaaGreatDoor
