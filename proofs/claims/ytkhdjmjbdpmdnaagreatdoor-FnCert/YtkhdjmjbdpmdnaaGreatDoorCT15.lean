/- spec.DrawCertSign, spec.DrawCertRead, spec.DrawCertGood, walked. Numbers read back: what DerIntRead answers. Plain mathematics: no program is named here. Arcs read back: what DerOidRead answers. Plain mathematics: no program is named here. -/
import Derived.Test.YtkhdjmjbdpmdnaaGreatDoorCT11
import Derived.Test.YtkhdjmjbdpmdnaaGreatDoorCT12
import Derived.Test.YtkhdjmjbdpmdnaaGreatDoorCT14
import Derived.Deep.Cut
import Derived.Test.YtkhdjmjbdpmdnaaGreatDoorCT03
import Derived.Laws.BitsAllLaws
import Derived.Lib.Strings
namespace Go.Proofs.YtkhdjmjbdpmdnaaGreatDoor
open Go.RowKit

/-- The draw of a paper, its parts by name. -/
theorem sk_certF {w W : World} {a : Option Addr} {len cap : Nat} (h : SS w a len cap W) :
    Calls Tryz.prog 45 #[.pointer (some ⟨w.heap.size, 0, none⟩)] W fun e w' => ∃ (ser : Int) (iss sub : ByteArray) (fr till key : Int) (names : List ByteArray) (ca : Bool) (sk se ss : Int) (va : Option Addr) (nl vc : Nat), e = .returned (.agg [Value.int .i64 ser, .string iss, .string sub, .int .i64 fr, .int .i64 till, .int .i64 key, .slice va nl vc, .bool ca, .int .i64 sk, .int .i64 se, .int .i64 ss].toArray) ∧ Hid (nl = names.length) ∧ OwnS w' W.heap.size (.slice va nl vc) names ∧ PMay ⟨ser, iss, sub, fr, till, key, names, ca, sk, se, ss⟩ ∧ (Value.slice va nl vc = .slice none 0 0 → iss.size = 0) ∧ SS w a len cap w' ∧ Grows w.heap.size W w' := by
  refine (sk_cert h).mono ?_
  rintro e w' ⟨⟨ser, iss, sub, fr, till, key, names, ca, sk, se, ss⟩, v, rfl, ho, hm, hn, h1, h2⟩
  obtain ⟨va, vc, rfl, _⟩ := ho.form
  exact ⟨ser, iss, sub, fr, till, key, names, ca, sk, se, ss, va, names.length, vc, rfl, rfl, ho, hm, hn, h1, h2⟩
/-- A number and a paper are told. -/
def AnyXC (w : World) (e : Ending) (w' : World) : Prop := ∃ (x : Int) (ser : Int) (iss sub : ByteArray) (fr till key : Int) (names : List ByteArray) (ca : Bool) (sk se ss : Int) (va : Option Addr) (nl vc : Nat), e = .returned (.tuple #[.int .i64 x, .agg [Value.int .i64 ser, .string iss, .string sub, .int .i64 fr, .int .i64 till, .int .i64 key, .slice va nl vc, .bool ca, .int .i64 sk, .int .i64 se, .int .i64 ss].toArray]) ∧ inW x ∧ Hid (nl = names.length) ∧ OwnS w' w.heap.size (.slice va nl vc) names ∧ PMay ⟨ser, iss, sub, fr, till, key, names, ca, sk, se, ss⟩ ∧ (Value.slice va nl vc = .slice none 0 0 → iss.size = 0)

set_option maxRecDepth 100000 in
set_option maxHeartbeats 4000000 in
theorem drawCertSign (a : Option Addr) (len cap : Nat) (w : World) (hlen : len ≤ 1048576) (hc : CodeAt a len w) (hblk : ∀ x, 0 < len → a = some x → x.block < w.heap.size) :
    Calls Tryz.prog 5 #[.slice a len cap] w fun e w' => AnyXC w e w' ∧ Below w.heap.size w w' := by
  obtain ⟨w1, hw1⟩ : ∃ y, y = w.alloc (.cells [Value.int .i64 0, .string ⟨#[]⟩, .string ⟨#[]⟩, .int .i64 0, .int .i64 0, .int .i64 0, .slice none 0 0, .bool false, .int .i64 0, .int .i64 0, .int .i64 0].toArray 27 (0, 0)) := ⟨_, rfl⟩
  have b1 : Below w.heap.size w w1 := by rw [hw1]; exact (Below.refl _ _).alloc (Nat.le_refl _) _
  have Z1 : Hid (w1.heap[w.heap.size]? = some (.cells [Value.int .i64 0, .string ⟨#[]⟩, .string ⟨#[]⟩, .int .i64 0, .int .i64 0, .int .i64 0, .slice none 0 0, .bool false, .int .i64 0, .int .i64 0, .int .i64 0].toArray 27 (0, 0))) := by rw [hw1]; exact heap_alloc_new w _
  have HZ1 : Hid (w1.heap.size = w.heap.size + 1) := by rw [hw1]; show _ = _; simp
  have HC : Hid (CodeAt a len w1) := hc.below b1 hblk
  have HB : Hid (∀ x, 0 < len → a = some x → x.block < w1.heap.size) := fun x h0 hx => by have := hblk x h0 hx; have := HZ1.out; omega
  have B1 : Hid (Below w.heap.size w w1) := b1
  clear b1 hc hblk
  go_enter Tryz.func5, Tryz.ntmps5
  go_upto_region 1 with fail
  rw [← hw1]
  clear hw1
  go_wp2_with fail
  refine (ss_source a len cap w1 hlen HC.out HB.out).mono ?_
  rintro e w2 ⟨rfl, h2⟩
  have S2 : Hid (SS w1 a len cap w2) := h2
  clear h2
  go_wp2_with fail
  refine (sk_secret S2.out).mono ?_
  rintro e w3 ⟨⟨x, hx, rfl⟩, h3, hg3⟩
  have S3 : Hid (SS w1 a len cap w3) := h3
  clear h3 hg3
  go_wp2_with fail
  refine (sk_certF S3.out).mono ?_
  rintro e w4 ⟨ser, iss, sub, fr, till, key, names, ca, sk, se, ss, va, nl, vc, rfl, hnl, ho4, hm4, hn4, h4, hg4⟩
  have S4 : Hid (SS w1 a len cap w4) := h4
  have O4 : Hid (OwnS w4 (w1.heap.size + 1) (.slice va nl vc) names) := ho4.mono S3.out.2.2.1
  have M4 : Hid (PMay ⟨ser, iss, sub, fr, till, key, names, ca, sk, se, ss⟩) := hm4
  have N4 : Hid (Value.slice va nl vc = .slice none 0 0 → iss.size = 0) := hn4
  have Z4 : Hid (w4.heap[w.heap.size]? = some (.cells [Value.int .i64 0, .string ⟨#[]⟩, .string ⟨#[]⟩, .int .i64 0, .int .i64 0, .int .i64 0, .slice none 0 0, .bool false, .int .i64 0, .int .i64 0, .int .i64 0].toArray 27 (0, 0))) := by show _ = _; rw [S4.out.2.1.block _ (by have := HZ1.out; omega)]; exact Z1.out
  have h1c : ∀ u ∈ [Value.int .i64 ser, .string iss, .string sub, .int .i64 fr, .int .i64 till, .int .i64 key, .slice va nl vc, .bool ca, .int .i64 sk, .int .i64 se, .int .i64 ss], u.oneCell' = true := by simp [Value.oneCell']
  clear h4 hg4 ho4 hm4 hn4
  have hz4 := Z4.out
  go_wp2_with (refine wpList_store_row rfl 27 _ _ rfl w.heap.size [Value.int .i64 0, .string ⟨#[]⟩, .string ⟨#[]⟩, .int .i64 0, .int .i64 0, .int .i64 0, .slice none 0 0, .bool false, .int .i64 0, .int .i64 0, .int .i64 0] [Value.int .i64 ser, .string iss, .string sub, .int .i64 fr, .int .i64 till, .int .i64 key, .slice va nl vc, .bool ca, .int .i64 sk, .int .i64 se, .int .i64 ss] 27 rfl rfl hz4 rfl sizeCert h1c ?_)
  intro w5 hrow ho hs hbb
  have hg := grown_row ho hbb
  have hl3 := run_loadVar_mid (P := Tryz.prog) _ w.heap.size 0 27 _ _ (rangeRow hrow) Tryz.underlying27 rfl sizeCert
  have HFIN : Hid (AnyXC w (.returned (.tuple #[.int .i64 (x), .agg [Value.int .i64 ser, .string iss, .string sub, .int .i64 fr, .int .i64 till, .int .i64 key, .slice va nl vc, .bool ca, .int .i64 sk, .int .i64 se, .int .i64 ss].toArray])) w5 ∧ Below w.heap.size w w5) :=
    ⟨⟨x, ser, iss, sub, fr, till, key, names, ca, sk, se, ss, va, nl, vc, rfl, hx, hnl, ((O4.out).rowOff hg (fun e => by have := ((O4.out).ge e).1; have := HZ1.out; omega)).mono (by have := HZ1.out; omega), M4.out, N4.out⟩, hbb _ _ (Nat.le_refl _) (B1.out.trans (S4.out.2.1.mono (by have := HZ1.out; omega)))⟩
  clear ho hs hbb hg
  go_wp2
  refine bodyPost_ret (v := .tuple #[.int .i64 (x), .agg [Value.int .i64 ser, .string iss, .string sub, .int .i64 fr, .int .i64 till, .int .i64 key, .slice va nl vc, .bool ca, .int .i64 sk, .int .i64 se, .int .i64 ss].toArray]) ?_ rfl HFIN.out
  simp [results, Tryz.results5, asAddr, hl3]
set_option maxRecDepth 100000 in
set_option maxHeartbeats 4000000 in
theorem drawCertGood (a : Option Addr) (len cap : Nat) (w : World) (hlen : len ≤ 1048576) (hc : CodeAt a len w) (hblk : ∀ x, 0 < len → a = some x → x.block < w.heap.size) :
    Calls Tryz.prog 19 #[.slice a len cap] w fun e w' => AnyXC w e w' ∧ Below w.heap.size w w' := by
  obtain ⟨w1, hw1⟩ : ∃ y, y = w.alloc (.cells [Value.int .i64 0, .string ⟨#[]⟩, .string ⟨#[]⟩, .int .i64 0, .int .i64 0, .int .i64 0, .slice none 0 0, .bool false, .int .i64 0, .int .i64 0, .int .i64 0].toArray 27 (0, 0)) := ⟨_, rfl⟩
  have b1 : Below w.heap.size w w1 := by rw [hw1]; exact (Below.refl _ _).alloc (Nat.le_refl _) _
  have Z1 : Hid (w1.heap[w.heap.size]? = some (.cells [Value.int .i64 0, .string ⟨#[]⟩, .string ⟨#[]⟩, .int .i64 0, .int .i64 0, .int .i64 0, .slice none 0 0, .bool false, .int .i64 0, .int .i64 0, .int .i64 0].toArray 27 (0, 0))) := by rw [hw1]; exact heap_alloc_new w _
  have HZ1 : Hid (w1.heap.size = w.heap.size + 1) := by rw [hw1]; show _ = _; simp
  have HC : Hid (CodeAt a len w1) := hc.below b1 hblk
  have HB : Hid (∀ x, 0 < len → a = some x → x.block < w1.heap.size) := fun x h0 hx => by have := hblk x h0 hx; have := HZ1.out; omega
  have B1 : Hid (Below w.heap.size w w1) := b1
  clear b1 hc hblk
  go_enter Tryz.func19, Tryz.ntmps19
  go_upto_region 1 with fail
  rw [← hw1]
  clear hw1
  go_wp2_with fail
  refine (ss_source a len cap w1 hlen HC.out HB.out).mono ?_
  rintro e w2 ⟨rfl, h2⟩
  have S2 : Hid (SS w1 a len cap w2) := h2
  clear h2
  go_wp2_with fail
  refine (sk_certF S2.out).mono ?_
  rintro e w4 ⟨ser, iss, sub, fr, till, key, names, ca, sk, se, ss, va, nl, vc, rfl, hnl, ho4, hm4, hn4, h4, hg4⟩
  have S4 : Hid (SS w1 a len cap w4) := h4
  have O4 : Hid (OwnS w4 (w1.heap.size + 1) (.slice va nl vc) names) := ho4.mono S2.out.2.2.1
  have M4 : Hid (PMay ⟨ser, iss, sub, fr, till, key, names, ca, sk, se, ss⟩) := hm4
  have N4 : Hid (Value.slice va nl vc = .slice none 0 0 → iss.size = 0) := hn4
  have Z4 : Hid (w4.heap[w.heap.size]? = some (.cells [Value.int .i64 0, .string ⟨#[]⟩, .string ⟨#[]⟩, .int .i64 0, .int .i64 0, .int .i64 0, .slice none 0 0, .bool false, .int .i64 0, .int .i64 0, .int .i64 0].toArray 27 (0, 0))) := by show _ = _; rw [S4.out.2.1.block _ (by have := HZ1.out; omega)]; exact Z1.out
  have h1c : ∀ u ∈ [Value.int .i64 ser, .string iss, .string sub, .int .i64 fr, .int .i64 till, .int .i64 key, .slice va nl vc, .bool ca, .int .i64 sk, .int .i64 se, .int .i64 ss], u.oneCell' = true := by simp [Value.oneCell']
  clear h4 hg4 ho4 hm4 hn4
  obtain ⟨w5, hw5⟩ : ∃ y, y = w4.alloc (.cells [Value.int .i64 ser, .string iss, .string sub, .int .i64 fr, .int .i64 till, .int .i64 key, .slice va nl vc, .bool ca, .int .i64 sk, .int .i64 se, .int .i64 ss].toArray 27 (0, 0)) := ⟨_, rfl⟩
  have b5 : Below w4.heap.size w4 w5 := by rw [hw5]; exact (Below.refl _ _).alloc (Nat.le_refl _) _
  have R5 : Hid (w5.heap[w4.heap.size]? = some (.cells [Value.int .i64 ser, .string iss, .string sub, .int .i64 fr, .int .i64 till, .int .i64 key, .slice va nl vc, .bool ca, .int .i64 sk, .int .i64 se, .int .i64 ss].toArray 27 (0, 0))) := by rw [hw5]; exact heap_alloc_new w4 _
  have S5 : Hid (SS w1 a len cap w5) := S4.out.keep b5
  have O5 : Hid (OwnS w5 (w1.heap.size + 1) (.slice va nl vc) names) := O4.out.keep b5
  have hq4 : w1.heap.size < w4.heap.size := S4.out.2.2.1
  have hz1 : w.heap.size < w1.heap.size := by have := HZ1.out; omega
  clear b5 S4 O4 Z4
  go_upto_region 3 with fail
  rw [← hw5]
  clear hw5
  go_wp2_with fail
  refine (sk_one 3 (by omega) S5.out).mono ?_
  rintro e w6 ⟨⟨bb, rfl⟩, h6, hg6⟩
  have S6 : Hid (SS w1 a len cap w6) := h6
  have O6 : Hid (OwnS w6 (w1.heap.size + 1) (.slice va nl vc) names) := O5.out.grow hg6 (by omega)
  have R6 : Hid (w6.heap[w4.heap.size]? = some (.cells [Value.int .i64 ser, .string iss, .string sub, .int .i64 fr, .int .i64 till, .int .i64 key, .slice va nl vc, .bool ca, .int .i64 sk, .int .i64 se, .int .i64 ss].toArray 27 (0, 0))) := by show _ = _; rw [hg6.keepBlock (heap_lt R5.out) (by omega)]; exact R5.out
  clear h6 hg6 S5 O5 R5

  have hg6 : Below w.heap.size w w6 := B1.out.trans (S6.out.2.1.mono (by omega))
  have Z6 : Hid (w6.heap[w.heap.size]? = some (.cells [Value.int .i64 0, .string ⟨#[]⟩, .string ⟨#[]⟩, .int .i64 0, .int .i64 0, .int .i64 0, .slice none 0 0, .bool false, .int .i64 0, .int .i64 0, .int .i64 0].toArray 27 (0, 0))) := by show _ = _; rw [S6.out.2.1.block _ hz1]; exact Z1.out
  have BB6 : Hid (Below w.heap.size w w6) := hg6
  clear hg6
  have HCE : Hid (∀ V : World, V.heap[w4.heap.size]? = some (.cells [Value.int .i64 ser, .string iss, .string sub, .int .i64 fr, .int .i64 till, .int .i64 key, .slice va nl vc, .bool ca, .int .i64 sk, .int .i64 se, .int .i64 ss].toArray 27 (0, 0)) → V.cell? ⟨w4.heap.size, 0, none⟩ = some (.int .i64 ser) ∧ V.cell? ⟨w4.heap.size, 1, none⟩ = some (.string iss) ∧ V.cell? ⟨w4.heap.size, 2, none⟩ = some (.string sub) ∧ V.cell? ⟨w4.heap.size, 3, none⟩ = some (.int .i64 fr) ∧ V.cell? ⟨w4.heap.size, 4, none⟩ = some (.int .i64 till) ∧ V.cell? ⟨w4.heap.size, 5, none⟩ = some (.int .i64 key) ∧ V.cell? ⟨w4.heap.size, 6, none⟩ = some (.slice va nl vc) ∧ V.cell? ⟨w4.heap.size, 7, none⟩ = some (.bool ca) ∧ V.cell? ⟨w4.heap.size, 8, none⟩ = some (.int .i64 sk) ∧ V.cell? ⟨w4.heap.size, 9, none⟩ = some (.int .i64 se) ∧ V.cell? ⟨w4.heap.size, 10, none⟩ = some (.int .i64 ss)) := fun V hP => ⟨rowFacts hP 0 _ rfl, rowFacts hP 1 _ rfl, rowFacts hP 2 _ rfl, rowFacts hP 3 _ rfl, rowFacts hP 4 _ rfl, rowFacts hP 5 _ rfl, rowFacts hP 6 _ rfl, rowFacts hP 7 _ rfl, rowFacts hP 8 _ rfl, rowFacts hP 9 _ rfl, rowFacts hP 10 _ rfl⟩
  cases bb with
  | true =>
    have hSD : SS w1 a len cap w6.drew := S6.out.keep ((Below.refl _ _).drew)
    go_upto_region 4 with fail
    refine wp_region_held_drew (S := fun V => V.cell? ⟨w4.heap.size, 0, none⟩ = some (.int .i64 ser) ∧ V.cell? ⟨w4.heap.size, 1, none⟩ = some (.string iss) ∧ V.cell? ⟨w4.heap.size, 2, none⟩ = some (.string sub) ∧ V.cell? ⟨w4.heap.size, 3, none⟩ = some (.int .i64 fr) ∧ V.cell? ⟨w4.heap.size, 4, none⟩ = some (.int .i64 till) ∧ V.cell? ⟨w4.heap.size, 5, none⟩ = some (.int .i64 key) ∧ V.cell? ⟨w4.heap.size, 6, none⟩ = some (.slice va nl vc) ∧ V.cell? ⟨w4.heap.size, 7, none⟩ = some (.bool ca) ∧ V.cell? ⟨w4.heap.size, 8, none⟩ = some (.int .i64 sk) ∧ V.cell? ⟨w4.heap.size, 9, none⟩ = some (.int .i64 se) ∧ V.cell? ⟨w4.heap.size, 10, none⟩ = some (.int .i64 ss)) (by kernel_rfl) ?_ (fun hHeld => ?_)
    · exact HCE.out w6.drew R6.out
    refine wpAnyH_take (i := 0) (oi := ⟨some 12, _, _, _, _, _⟩) (v := ?_) rfl (by kernel_rfl) (by kernel_rfl) (by kernel_rfl) (fun _ _ _ h => h) (Or.inl ⟨by kernel_rfl, ?_⟩) (by assumption) ?_
    rotate_left
    · (intro w hSw; (try dsimp only at hSw); go_simp; try with_reducible rfl)
    (try simp only [Act.put, List.setIfInBounds_toArray, List.set_cons_zero, List.set_cons_succ])
    refine wpAnyH_take (i := 4) (oi := ⟨some 16, _, _, _, _, _⟩) (v := ?_) rfl (by kernel_rfl) (by kernel_rfl) (by kernel_rfl) (fun _ _ _ h => h) (Or.inl ⟨by kernel_rfl, ?_⟩) (by assumption) ?_
    rotate_left
    · (intro w hSw; (try dsimp only at hSw); go_simp; try with_reducible rfl)
    (try simp only [Act.put, List.setIfInBounds_toArray, List.set_cons_zero, List.set_cons_succ])
    refine wpAnyH_ready (rs := [1]) (by kernel_rfl) (by simp) ?_
    refine AllReadyH.cons (o := ⟨some 13, _, _, _, _, _⟩) rfl (fun K hK => ?_) AllReadyH.nil
    go_simp
    refine (sk_n 3 (by omega) hSD).mono ?_
    rintro e w7 ⟨r, rfl, hr, h7, hg7⟩
    have R7 : Hid (w7.heap[w4.heap.size]? = some (.cells [Value.int .i64 ser, .string iss, .string sub, .int .i64 fr, .int .i64 till, .int .i64 key, .slice va nl vc, .bool ca, .int .i64 sk, .int .i64 se, .int .i64 ss].toArray 27 (0, 0))) := by show _ = _; rw [hg7.keepBlock (heap_lt (w := w6) R6.out) (by omega)]; exact R6.out
    have O7 : Hid (OwnS w7 (w1.heap.size + 1) (.slice va nl vc) names) := (O6.out.keep ((Below.refl _ _).drew)).grow hg7 (by omega)
    have Z7 : Hid (w7.heap[w.heap.size]? = some (.cells [Value.int .i64 0, .string ⟨#[]⟩, .string ⟨#[]⟩, .int .i64 0, .int .i64 0, .int .i64 0, .slice none 0 0, .bool false, .int .i64 0, .int .i64 0, .int .i64 0].toArray 27 (0, 0))) := by show _ = _; rw [h7.2.1.block _ hz1]; exact Z1.out
    have BB7 : Hid (Below w.heap.size w w7) := B1.out.trans (h7.2.1.mono (by omega))
    obtain ⟨ks, hks, hksw⟩ : ∃ n : Int, inW n ∧ IntKind.i64.wrap (5 + (r : Int)) = n := ⟨_, by unfold inW; rw [IntKind.wrap_i64]; omega, rfl⟩
    refine hK.out _ _ ?_ (fun hHeld => ?_)
    · exact HCE.out _ R7.out
    clear hK K hr h7 hg7 R6 O6 Z6 BB6 hSD
    refine wpAnyH_take (i := 2) (oi := ⟨some 14, _, _, _, _, _⟩) (v := ?_) rfl (by kernel_rfl) (by kernel_rfl) (by kernel_rfl) (fun _ _ _ h => h) (Or.inl ⟨by kernel_rfl, ?_⟩) (by assumption) ?_
    rotate_left
    · (intro w hSw; (try dsimp only at hSw); go_simp; try with_reducible rfl)
    (try simp only [Act.put, List.setIfInBounds_toArray, List.set_cons_zero, List.set_cons_succ])
    refine wpAnyH_ready (rs := [3]) (by kernel_rfl) (by simp) ?_
    refine AllReadyH.cons (o := ⟨some 15, _, _, _, _, _⟩) rfl (fun K hK => ?_) AllReadyH.nil
    go_simp
    refine (specPublic ks w7).mono ?_
    rintro e w7' ⟨rfl, rfl⟩
    have hpk := pubA_in ks
    generalize pubA ks = pk at *
    refine hK.out _ _ ?_ (fun hHeld => ?_)
    · exact HCE.out _ R7.out
    clear hK K
    refine wpAnyH_take (i := 5) (oi := ⟨some 2, _, _, _, _, _⟩) (v := ?_) rfl (by kernel_rfl) (by kernel_rfl) (by kernel_rfl) (fun _ _ _ h => h) (Or.inl ⟨by kernel_rfl, ?_⟩) (by assumption) ?_
    rotate_left
    · (intro w hSw; (try dsimp only at hSw); go_simp; try with_reducible rfl)
    (try simp only [Act.put, List.setIfInBounds_toArray, List.set_cons_zero, List.set_cons_succ])
    have hz7 := Z7.out
    have h1d : ∀ u ∈ [Value.int .i64 ser, .string iss, .string sub, .int .i64 fr, .int .i64 till, .int .i64 key, .slice va nl vc, .bool ca, .int .i64 sk, .int .i64 se, .int .i64 ss], u.oneCell' = true := by simp [Value.oneCell']
    refine wpAnyH_ready (rs := [6]) (by kernel_rfl) (by simp) ?_
    refine AllReadyH.cons (o := ⟨none, _, _, _, _, _⟩) rfl (fun K hK => ?_) AllReadyH.nil
    rw [if_pos (by rfl)]
    refine wp_store_row 27 _ _ rfl w.heap.size [Value.int .i64 0, .string ⟨#[]⟩, .string ⟨#[]⟩, .int .i64 0, .int .i64 0, .int .i64 0, .slice none 0 0, .bool false, .int .i64 0, .int .i64 0, .int .i64 0] [Value.int .i64 ser, .string iss, .string sub, .int .i64 fr, .int .i64 till, .int .i64 key, .slice va nl vc, .bool ca, .int .i64 sk, .int .i64 se, .int .i64 ss] 27 rfl rfl hz7 rfl sizeCert h1d ?_
    intro w8 hrow ho hs hbb
    have hr8 : w8.heap[w4.heap.size]? = some (.cells [Value.int .i64 ser, .string iss, .string sub, .int .i64 fr, .int .i64 till, .int .i64 key, .slice va nl vc, .bool ca, .int .i64 sk, .int .i64 se, .int .i64 ss].toArray 27 (0, 0)) := by rw [ho _ (by omega)]; exact R7.out
    refine hK.out _ _ ?_ (fun hHeld => ?_)
    · exact HCE.out _ hr8
    clear hK K hr8
    refine wpAnyH_done (by kernel_rfl) ?_ _
    have hg := grown_row ho hbb
    have hl3 := run_loadVar_mid (P := Tryz.prog) _ w.heap.size 0 27 _ _ (rangeRow hrow) Tryz.underlying27 rfl sizeCert
    have HFIN : Hid (AnyXC w (.returned (.tuple #[.int .i64 pk, .agg [Value.int .i64 ser, .string iss, .string sub, .int .i64 fr, .int .i64 till, .int .i64 key, .slice va nl vc, .bool ca, .int .i64 sk, .int .i64 se, .int .i64 ss].toArray])) w8 ∧ Below w.heap.size w w8) :=
      ⟨⟨pk, ser, iss, sub, fr, till, key, names, ca, sk, se, ss, va, nl, vc, rfl, hpk, hnl, ((O7.out).rowOff hg (fun e => by have := ((O7.out).ge e).1; omega)).mono (by omega), M4.out, N4.out⟩, hbb _ _ (Nat.le_refl _) BB7.out⟩
    clear ho hs hbb hg
    go_wp2
    refine bodyPost_ret (v := .tuple #[.int .i64 pk, .agg [Value.int .i64 ser, .string iss, .string sub, .int .i64 fr, .int .i64 till, .int .i64 key, .slice va nl vc, .bool ca, .int .i64 sk, .int .i64 se, .int .i64 ss].toArray]) ?_ rfl HFIN.out
    simp [results, Tryz.results19, asAddr, hl3, Act.put]
  | false =>
    go_upto_region 5 with fail
    refine wp_region_held_drew (S := fun V => V.cell? ⟨w4.heap.size, 0, none⟩ = some (.int .i64 ser) ∧ V.cell? ⟨w4.heap.size, 1, none⟩ = some (.string iss) ∧ V.cell? ⟨w4.heap.size, 2, none⟩ = some (.string sub) ∧ V.cell? ⟨w4.heap.size, 3, none⟩ = some (.int .i64 fr) ∧ V.cell? ⟨w4.heap.size, 4, none⟩ = some (.int .i64 till) ∧ V.cell? ⟨w4.heap.size, 5, none⟩ = some (.int .i64 key) ∧ V.cell? ⟨w4.heap.size, 6, none⟩ = some (.slice va nl vc) ∧ V.cell? ⟨w4.heap.size, 7, none⟩ = some (.bool ca) ∧ V.cell? ⟨w4.heap.size, 8, none⟩ = some (.int .i64 sk) ∧ V.cell? ⟨w4.heap.size, 9, none⟩ = some (.int .i64 se) ∧ V.cell? ⟨w4.heap.size, 10, none⟩ = some (.int .i64 ss)) (by kernel_rfl) ?_ (fun hHeld => ?_)
    · exact HCE.out w6.drew R6.out
    refine wpAnyH_take (i := 0) (oi := ⟨some 17, _, _, _, _, _⟩) (v := ?_) rfl (by kernel_rfl) (by kernel_rfl) (by kernel_rfl) (fun _ _ _ h => h) (Or.inl ⟨by kernel_rfl, ?_⟩) (by assumption) ?_
    rotate_left
    · (intro w hSw; (try dsimp only at hSw); go_simp; try with_reducible rfl)
    (try simp only [Act.put, List.setIfInBounds_toArray, List.set_cons_zero, List.set_cons_succ])
    refine wpAnyH_take (i := 1) (oi := ⟨some 18, _, _, _, _, _⟩) (v := ?_) rfl (by kernel_rfl) (by kernel_rfl) (by kernel_rfl) (fun _ _ _ h => h) (Or.inl ⟨by kernel_rfl, ?_⟩) (by assumption) ?_
    rotate_left
    · (intro w hSw; (try dsimp only at hSw); go_simp; try with_reducible rfl)
    (try simp only [Act.put, List.setIfInBounds_toArray, List.set_cons_zero, List.set_cons_succ])
    refine wpAnyH_take (i := 2) (oi := ⟨some 19, _, _, _, _, _⟩) (v := ?_) rfl (by kernel_rfl) (by kernel_rfl) (by kernel_rfl) (fun _ _ _ h => h) (Or.inl ⟨by kernel_rfl, ?_⟩) (by assumption) ?_
    rotate_left
    · (intro w hSw; (try dsimp only at hSw); go_simp; try with_reducible rfl)
    (try simp only [Act.put, List.setIfInBounds_toArray, List.set_cons_zero, List.set_cons_succ])
    refine wpAnyH_take (i := 3) (oi := ⟨some 20, _, _, _, _, _⟩) (v := ?_) rfl (by kernel_rfl) (by kernel_rfl) (by kernel_rfl) (fun _ _ _ h => h) (Or.inl ⟨by kernel_rfl, ?_⟩) (by assumption) ?_
    rotate_left
    · (intro w hSw; (try dsimp only at hSw); go_simp; try with_reducible rfl)
    (try simp only [Act.put, List.setIfInBounds_toArray, List.set_cons_zero, List.set_cons_succ])
    refine wpAnyH_take (i := 4) (oi := ⟨some 2, _, _, _, _, _⟩) (v := ?_) rfl (by kernel_rfl) (by kernel_rfl) (by kernel_rfl) (fun _ _ _ h => h) (Or.inl ⟨by kernel_rfl, ?_⟩) (by assumption) ?_
    rotate_left
    · (intro w hSw; (try dsimp only at hSw); go_simp; try with_reducible rfl)
    (try simp only [Act.put, List.setIfInBounds_toArray, List.set_cons_zero, List.set_cons_succ])
    have hz7 : w6.drew.heap[w.heap.size]? = some (.cells [Value.int .i64 0, .string ⟨#[]⟩, .string ⟨#[]⟩, .int .i64 0, .int .i64 0, .int .i64 0, .slice none 0 0, .bool false, .int .i64 0, .int .i64 0, .int .i64 0].toArray 27 (0, 0)) := Z6.out
    have h1d : ∀ u ∈ [Value.int .i64 ser, .string iss, .string sub, .int .i64 fr, .int .i64 till, .int .i64 key, .slice va nl vc, .bool ca, .int .i64 sk, .int .i64 se, .int .i64 ss], u.oneCell' = true := by simp [Value.oneCell']
    refine wpAnyH_ready (rs := [5]) (by kernel_rfl) (by simp) ?_
    refine AllReadyH.cons (o := ⟨none, _, _, _, _, _⟩) rfl (fun K hK => ?_) AllReadyH.nil
    rw [if_pos (by rfl)]
    refine wp_store_row 27 _ _ rfl w.heap.size [Value.int .i64 0, .string ⟨#[]⟩, .string ⟨#[]⟩, .int .i64 0, .int .i64 0, .int .i64 0, .slice none 0 0, .bool false, .int .i64 0, .int .i64 0, .int .i64 0] [Value.int .i64 ser, .string iss, .string sub, .int .i64 fr, .int .i64 till, .int .i64 key, .slice va nl vc, .bool ca, .int .i64 sk, .int .i64 se, .int .i64 ss] 27 rfl rfl hz7 rfl sizeCert h1d ?_
    intro w8 hrow ho hs hbb
    have hr8 : w8.heap[w4.heap.size]? = some (.cells [Value.int .i64 ser, .string iss, .string sub, .int .i64 fr, .int .i64 till, .int .i64 key, .slice va nl vc, .bool ca, .int .i64 sk, .int .i64 se, .int .i64 ss].toArray 27 (0, 0)) := by rw [ho _ (by omega)]; exact R6.out
    refine hK.out _ _ ?_ (fun hHeld => ?_)
    · exact HCE.out _ hr8
    clear hK K hr8
    have O7 : Hid (OwnS w6.drew (w1.heap.size + 1) (.slice va nl vc) names) := O6.out.keep ((Below.refl _ _).drew)
    have BB7 : Hid (Below w.heap.size w w6.drew) := BB6.out.drew
    have hskw : inW sk := M4.out.sk
    refine wpAnyH_done (by kernel_rfl) ?_ _
    have hg := grown_row ho hbb
    have hl3 := run_loadVar_mid (P := Tryz.prog) _ w.heap.size 0 27 _ _ (rangeRow hrow) Tryz.underlying27 rfl sizeCert
    have HFIN : Hid (AnyXC w (.returned (.tuple #[.int .i64 sk, .agg [Value.int .i64 ser, .string iss, .string sub, .int .i64 fr, .int .i64 till, .int .i64 key, .slice va nl vc, .bool ca, .int .i64 sk, .int .i64 se, .int .i64 ss].toArray])) w8 ∧ Below w.heap.size w w8) :=
      ⟨⟨sk, ser, iss, sub, fr, till, key, names, ca, sk, se, ss, va, nl, vc, rfl, hskw, hnl, ((O7.out).rowOff hg (fun e => by have := ((O7.out).ge e).1; omega)).mono (by omega), M4.out, N4.out⟩, hbb _ _ (Nat.le_refl _) BB7.out⟩
    clear ho hs hbb hg
    go_wp2
    refine bodyPost_ret (v := .tuple #[.int .i64 sk, .agg [Value.int .i64 ser, .string iss, .string sub, .int .i64 fr, .int .i64 till, .int .i64 key, .slice va nl vc, .bool ca, .int .i64 sk, .int .i64 se, .int .i64 ss].toArray]) ?_ rfl HFIN.out
    simp [results, Tryz.results19, asAddr, hl3, Act.put]

theorem bytesD_small {c : Paper} (h : certB c = true) : (bytesD c).size ≤ 20000 := by
  have h1 := bodyD_le (paper_fits (certB_paper h))
  have h2 := kindD_le
  have h3 := sigD_le c.sk c.se c.ss
  have h4 := seqD_le (bodyD c ++ (kindD ++ sigD c.sk c.se c.ss))
  rw [ByteArray.size_append, ByteArray.size_append] at h4
  unfold bytesD
  omega
/-- A text that is not too long. -/
theorem certBytes_small {c : Paper} : (certBytesD c).size ≤ 20000 := by
  unfold certBytesD
  split
  · rename_i h; exact bytesD_small h
  · exact Nat.zero_le _
set_option maxRecDepth 100000 in
set_option maxHeartbeats 4000000 in
theorem drawCertRead (a : Option Addr) (len cap : Nat) (w : World) (hlen : len ≤ 1048576) (hc : CodeAt a len w) (hblk : ∀ x, 0 < len → a = some x → x.block < w.heap.size) :
    Calls Tryz.prog 18 #[.slice a len cap] w fun e w' => UpT 20001 e ∧ Below w.heap.size w w' := by
  have HC : Hid (CodeAt a len w) := hc
  have HB : Hid (∀ x, 0 < len → a = some x → x.block < w.heap.size) := hblk
  clear hc hblk
  go_enter Tryz.func18, Tryz.ntmps18
  go_wp2_with fail
  refine (ss_source a len cap w hlen HC.out HB.out).mono ?_
  rintro e w2 ⟨rfl, h2⟩
  have S2 : Hid (SS w a len cap w2) := h2
  clear h2
  go_wp2_with fail
  refine (sk_certF S2.out).mono ?_
  rintro e w4 ⟨ser, iss, sub, fr, till, key, names, ca, sk, se, ss, va, nl, vc, rfl, hnl, ho4, hm4, hn4, h4, hg4⟩
  have S4 : Hid (SS w a len cap w4) := h4
  have HBy : Hid (Calls Tryz.prog 10 #[.agg [Value.int .i64 ser, .string iss, .string sub, .int .i64 fr, .int .i64 till, .int .i64 key, .slice va nl vc, .bool ca, .int .i64 sk, .int .i64 se, .int .i64 ss].toArray] w4 fun e w' => e = .returned (.string (certBytesD ⟨ser, iss, sub, fr, till, key, names, ca, sk, se, ss⟩)) ∧ Below w4.heap.size w4 w') := by
    have q := specCertBytes ⟨ser, iss, sub, fr, till, key, names, ca, sk, se, ss⟩ va vc w4 (by have := hm4.iss; unfold maxLen; omega) (by have := hm4.sub; unfold maxLen; omega) (by have := hm4.len; omega) (by have := hm4.tot; omega) ho4.strs
    rw [show (⟨ser, iss, sub, fr, till, key, names, ca, sk, se, ss⟩ : Paper).names.length = nl from hnl.out.symm] at q
    exact q
  have hts : (certBytesD ⟨ser, iss, sub, fr, till, key, names, ca, sk, se, ss⟩).size ≤ 20000 := certBytes_small
  generalize certBytesD ⟨ser, iss, sub, fr, till, key, names, ca, sk, se, ss⟩ = t at *
  clear h4 hg4 ho4 hm4 hn4 hnl S2
  go_wp2_with fail
  refine HBy.out.mono ?_
  rintro e w5 ⟨rfl, b5⟩
  have S5 : Hid (SS w a len cap w5) := S4.out.keep b5
  clear b5 S4 HBy
  go_wp2_with fail
  refine (sk_n 4 (by omega) S5.out).mono ?_
  rintro e w6 ⟨q, rfl, hq, h6, _⟩
  have S6 : Hid (SS w a len cap w6) := h6
  have B6 : Hid (Below w.heap.size w w6) := h6.2.1
  have hq' : q = 0 ∨ q = 1 ∨ 1 < q := by omega
  clear h6 hq S5
  rcases hq' with rfl | rfl | hq'
  · go_wp2_with fail
    refine (sk_spoil t (by omega) S6.out).mono ?_
    rintro e w7 ⟨⟨v, hv, rfl⟩, h7⟩
    have B7 : Hid (Below w.heap.size w w7) := h7.2.1
    clear h7
    go_wp2
    go_ret
    exact ⟨⟨v, by omega, rfl⟩, B7.out⟩
  · have hww : IntKind.i64.wrap ((t.size : Int) + 1) = ((t.size + 1 : Nat) : Int) := by rw [IntKind.wrap_i64]; omega
    have HN : Hid (Calls Tryz.prog 71 #[.pointer (some ⟨w.heap.size, 0, none⟩), .int .i64 ((t.size : Int) + 1)] w6 fun e w' => ∃ r : Nat, e = .returned (.int .i64 (r : Int)) ∧ (r < t.size + 1 ∨ r = 0) ∧ SS w a len cap w' ∧ Grows w.heap.size w6 w') := sk_n (t.size + 1) (by omega) S6.out
    clear hww
    go_wp2_with fail
    refine HN.out.mono ?_
    rintro e w7 ⟨r, rfl, hr, h7, _⟩
    have B7 : Hid (Below w.heap.size w w7) := h7.2.1
    have hr' : r ≤ t.size := by omega
    have s1 := slice_to t r hr'
    have hp := ext_size t 0 r
    generalize t.extract 0 r = p at *
    clear h7 hr HN
    go_wp2
    go_ret
    exact ⟨⟨p, by omega, rfl⟩, B7.out⟩
  · have q1 : ((q : Int) == 0) = false := by rw [beq_eq_false_iff_ne]; omega
    have q2 : ((q : Int) == 1) = false := by rw [beq_eq_false_iff_ne]; omega
    go_wp2
    go_ret
    exact ⟨⟨t, by omega, rfl⟩, B6.out⟩
end Go.Proofs.YtkhdjmjbdpmdnaaGreatDoor
namespace Go.Proofs.YtkhdjmjbdpmdnaaGreatDoor
open Go.RowKit

/-- The number of a text's first k bytes in two's complement. -/
def sv (s : ByteArray) : Nat → Int
  | 0 => if 128 ≤ bN s 0 then -1 else 0
  | k + 1 => sv s k * 256 + (bN s k : Int)
theorem sv_zero (s : ByteArray) : -1 ≤ sv s 0 ∧ sv s 0 ≤ 0 := by unfold sv; split <;> omega
theorem sv_fits (s : ByteArray) : ∀ k, Fits k (sv s (k + 1))
  | 0 => by
    have h := bN_lt s 0
    unfold Fits
    simp only [sv, lim]
    split <;> omega
  | k + 1 => by
    have h := bN_lt s (k + 1)
    have ih := sv_fits s k
    unfold Fits at *
    rw [sv]
    simp only [lim]
    omega
theorem lim_pos : ∀ m, 0 ≤ lim m
  | 0 => by decide
  | m + 1 => by have := lim_pos m; simp only [lim]; omega
theorem lim_le {a b : Nat} (h : a ≤ b) : lim a ≤ lim b := by
  obtain ⟨d, rfl⟩ := Nat.exists_eq_add_of_le h
  clear h
  induction d with
  | zero => exact Int.le_refl _
  | succ d ih => have := lim_pos (a + d); rw [← Nat.add_assoc]; simp only [lim]; omega
theorem sv_bd (s : ByteArray) {k : Nat} (hk : k ≤ 8) : -9223372036854775808 ≤ sv s k ∧ sv s k < 9223372036854775808 := by
  cases k with
  | zero => have := sv_zero s; omega
  | succ k =>
    have h := sv_fits s k
    have l := lim_le (show k ≤ 7 by omega)
    rw [lim7] at l
    unfold Fits at h
    omega
theorem sv_low (s : ByteArray) {k : Nat} (hk : k < 8) : -36028797018963968 ≤ sv s k ∧ sv s k < 36028797018963968 := by
  cases k with
  | zero => have := sv_zero s; omega
  | succ k =>
    have h := sv_fits s k
    have l := lim_le (show k ≤ 6 by omega)
    have e : lim 6 = 36028797018963968 := by decide
    unfold Fits at h
    omega
theorem or8 (v : Int) (b : Nat) (hb : b < 256) (h0 : -36028797018963968 ≤ v) (h1 : v < 36028797018963968) : bits BinOp.or IntKind.i64 (v * 256) (b : Int) = v * 256 + (b : Int) := by
  have e : bits BinOp.or IntKind.i64 (v * 256) (b : Int) = IntKind.i64.wrap ((BitVec.ofInt 64 (v * 256) ||| BitVec.ofInt 64 (b : Int)).toNat : Nat) := rfl
  rw [e, BitVec.toNat_or, BitVec.toNat_ofInt, BitVec.toNat_ofInt]
  have e1 : ((b : Int) % ((2 ^ 64 : Nat) : Int)).toNat = b := by omega
  rw [e1]
  obtain ⟨q, hq⟩ : ∃ q : Nat, (v * 256 % ((2 ^ 64 : Nat) : Int)).toNat = 2 ^ 8 * q := ⟨(v * 256 % ((2 ^ 64 : Nat) : Int)).toNat / 256, by omega⟩
  rw [hq, ← Nat.two_pow_add_eq_or_of_lt (by omega)]
  rw [IntKind.wrap_i64]
  omega
theorem same_text (a b : ByteArray) : (a.toList == b.toList) = decide (a = b) := by
  by_cases h : a = b
  · subst h; simp
  · rw [decide_eq_false h, beq_eq_false_iff_ne]
    intro h'
    rw [Lib.toList_data, Lib.toList_data] at h'
    exact h (ByteArray.ext (Array.toList_inj.1 h'))
/-- What DerIntRead answers: the number and the code. -/
def intR (s : ByteArray) : Int × Int :=
  if 20000 < s.size then (0, 2) else if s.size = 0 ∨ 8 < s.size then (0, 3) else if strOfNums (intL (sv s s.size)) = s then (sv s s.size, 0) else (0, 3)
theorem intR_long {s : ByteArray} (h : 20000 < s.size) : intR s = (0, 2) := if_pos h
theorem intR_size {s : ByteArray} (h : s.size ≤ 20000) (h1 : s.size = 0 ∨ 8 < s.size) : intR s = (0, 3) := by rw [intR, if_neg (by omega), if_pos h1]
theorem intR_good {s : ByteArray} (h0 : 0 < s.size) (h1 : s.size ≤ 8) (h : strOfNums (intL (sv s s.size)) = s) : intR s = (sv s s.size, 0) := by rw [intR, if_neg (by omega), if_neg (by omega), if_pos h]
theorem intR_bad {s : ByteArray} (h0 : 0 < s.size) (h1 : s.size ≤ 8) (h : strOfNums (intL (sv s s.size)) ≠ s) : intR s = (0, 3) := by rw [intR, if_neg (by omega), if_neg (by omega), if_neg h]
/-- A NumOut as a value. -/
def numT (n c : Int) : Value := .agg #[.int .i64 n, .int .i64 0, .int .i64 c]
end Go.Proofs.YtkhdjmjbdpmdnaaGreatDoor
namespace Go.Proofs.YtkhdjmjbdpmdnaaGreatDoor
open Go.RowKit

/-- One arc read: 'a' tells that no byte of it was read yet, n is what was read. -/
def sevQ : Bool → Nat → List Nat → Option (Nat × List Nat)
  | _, _, [] => none
  | a, n, b :: r => if a = true ∧ b = 128 then none else if 2147483647 < n * 128 + b % 128 then none else if b < 128 then some (n * 128 + b % 128, r) else sevQ false (n * 128 + b % 128) r
/-- All arcs behind the first two. -/
def restQ : Nat → List Nat → List Int → Option (List Int)
  | 0, _, acc => some acc
  | f + 1, l, acc => match l with
    | [] => some acc
    | b :: r => match sevQ true 0 (b :: r) with
      | none => none
      | some (n, t) => restQ f t (acc ++ [(n : Int)])
def two (h : Nat) : List Int := [((min (h / 40) 2 : Nat) : Int), (h : Int) - 40 * ((min (h / 40) 2 : Nat) : Int)]
def arcsQ (l : List Nat) : Option (List Int) := match sevQ true 0 l with
  | none => none
  | some (h, t) => restQ l.length t (two h)
/-- The arcs whose bytes these are. -/
def oidQ (l : List Nat) : Option (List Int) := match arcsQ l with
  | none => none
  | some z => if arcsB z = true then some z else none
/-- Numbers of seven bits, read as the specification reads them. -/
def spQ : List Nat → Nat → List Nat → Option (List Nat)
  | nums, _, [] => some nums
  | nums, n, b :: r => if 2147483647 < 128 * n + b % 128 ∨ 10 < nums.length then none else if b < 128 then spQ (nums ++ [128 * n + b % 128]) 0 r else spQ nums (128 * n + b % 128) r

def nats (l : List Int) : List Nat := l.map Int.toNat
theorem nats_append (a b : List Int) : nats (a ++ b) = nats a ++ nats b := by simp [nats]
/-- Running over the bytes ahead of the last one. -/
theorem sevQ_high : ∀ (f y : Nat) (t : List Nat), y < 128 ^ f → y ≤ 16777215 → sevQ true 0 (nats (sevH f y) ++ t) = sevQ (decide (y = 0)) y t
  | f, y, t, hf, hy => by
    by_cases h0 : y = 0
    · subst h0; rw [sevH_zero]; rfl
    · obtain ⟨g, rfl, hg, e⟩ := sevH_more h0 hf
      rw [e, nats_append, List.append_assoc, sevQ_high g (y / 128) _ hg (by omega)]
      show sevQ _ _ ((y % 128 + 128) :: t) = _
      rw [sevQ, if_neg (by simp; omega), if_neg (by omega), if_neg (by omega), decide_eq_false h0]
      congr 1; omega
theorem sevQ_full {x : Nat} (hx : x ≤ 2147483647) (r : List Nat) : sevQ true 0 (nats (sevL x) ++ r) = some (x, r) := by
  rw [sevL, nats_append, List.append_assoc, sevQ_high 9 (x / 128) _ (by rw [p9]; omega) (by omega)]
  show sevQ _ _ (x % 128 :: r) = _
  rw [sevQ, if_neg (by omega), if_neg (by omega), if_pos (by omega)]
  congr 2; omega
theorem spQ_high : ∀ (f y : Nat) (nums t : List Nat), y < 128 ^ f → y ≤ 16777215 → nums.length ≤ 10 → spQ nums 0 (nats (sevH f y) ++ t) = spQ nums y t
  | f, y, nums, t, hf, hy, hn => by
    by_cases h0 : y = 0
    · subst h0; rw [sevH_zero]; rfl
    · obtain ⟨g, rfl, hg, e⟩ := sevH_more h0 hf
      rw [e, nats_append, List.append_assoc, spQ_high g (y / 128) nums _ hg (by omega) hn]
      show spQ _ _ ((y % 128 + 128) :: t) = _
      rw [spQ, if_neg (by omega), if_neg (by omega)]
      congr 1; omega
theorem spQ_full {x : Nat} (hx : x ≤ 2147483647) (nums r : List Nat) (hn : nums.length ≤ 10) : spQ nums 0 (nats (sevL x) ++ r) = spQ (nums ++ [x]) 0 r := by
  rw [sevL, nats_append, List.append_assoc, spQ_high 9 (x / 128) nums _ (by rw [p9]; omega) (by omega) hn]
  show spQ _ _ (x % 128 :: r) = _
  rw [spQ, if_neg (by omega), if_pos (by omega)]
  congr 3; omega
/-- What a run of high bytes stands for. -/
def valQ (q : List Nat) : Nat := q.foldl (fun n b => n * 128 + b % 128) 0
theorem valQ_snoc (q : List Nat) (b : Nat) : valQ (q ++ [b]) = valQ q * 128 + b % 128 := by simp [valQ]
theorem high_back : ∀ (k : Nat) (q : List Nat), q.length = k → (∀ b ∈ q, 128 ≤ b ∧ b < 256) → q.head? ≠ some 128 → valQ q < 128 ^ k ∧ (q ≠ [] → valQ q ≠ 0) ∧ nats (sevH k (valQ q)) = q
  | 0, q, h, _, _ => by
    obtain rfl := List.eq_nil_of_length_eq_zero h
    exact ⟨by decide, fun h => absurd rfl h, rfl⟩
  | k + 1, q, h, hb, hh => by
    obtain ⟨p, b, rfl⟩ : ∃ p b, q = p ++ [b] := ⟨q.dropLast, q.getLast (by intro e; rw [e] at h; simp at h), (List.dropLast_concat_getLast _).symm⟩
    have hp : p.length = k := by simpa using h
    have hbb := hb b (by simp)
    have hh' : p.head? ≠ some 128 := by
      cases p with
      | nil => simp
      | cons x p => simpa using hh
    obtain ⟨i1, i2, i3⟩ := high_back k p hp (fun x hx => hb x (by simp [hx])) hh'
    have hv0 : valQ (p ++ [b]) ≠ 0 := by
      rw [valQ_snoc]
      cases p with
      | nil =>
        have : b ≠ 128 := by simpa using hh
        simp [valQ]; omega
      | cons x p => have := i2 (by simp); omega
    refine ⟨?_, fun _ => hv0, ?_⟩
    · rw [valQ_snoc, Nat.pow_succ]
      have : b % 128 < 128 := Nat.mod_lt _ (by omega)
      omega
    · rw [sevH, if_neg hv0, nats_append, valQ_snoc, show (valQ p * 128 + b % 128) / 128 = valQ p from by omega, i3]
      show p ++ [(valQ p * 128 + b % 128) % 128 + 128] = _
      congr 2; omega
theorem sevH_mono : ∀ (f g x : Nat), x < 128 ^ f → f ≤ g → sevH g x = sevH f x
  | f, g, x, hx, hg => by
    by_cases h0 : x = 0
    · subst h0; rw [sevH_zero, sevH_zero]
    · obtain ⟨f', rfl, hf', e⟩ := sevH_more h0 hx
      obtain ⟨g', rfl⟩ : ∃ g', g = g' + 1 := ⟨g - 1, by omega⟩
      rw [e, sevH, if_neg h0, sevH_mono f' g' (x / 128) hf' (by omega)]
/-- What is read of bytes is written by just these. -/
theorem sevQ_back : ∀ (l q : List Nat) (m : Nat) (r : List Nat), (∀ b ∈ l, b < 256) → (∀ b ∈ q, 128 ≤ b ∧ b < 256) → q.head? ≠ some 128 → sevQ (decide (q = [])) (valQ q) l = some (m, r) →
    m ≤ 2147483647 ∧ ∃ p, l = p ++ r ∧ p ≠ [] ∧ q ++ p = nats (sevL m)
  | [], q, m, r, _, _, _, h => by simp [sevQ] at h
  | b :: l, q, m, r, hl, hq, hh, h => by
    have hb := hl b (by simp)
    rw [sevQ] at h
    split at h
    · simp at h
    · rename_i h1
      split at h
      · simp at h
      · rename_i h2
        split at h
        · rename_i h3
          simp only [Option.some.injEq, Prod.mk.injEq] at h
          obtain ⟨rfl, rfl⟩ := h
          refine ⟨by omega, [b], rfl, by simp, ?_⟩
          obtain ⟨i1, _, i3⟩ := high_back q.length q rfl hq hh
          have e1 : (valQ q * 128 + b % 128) / 128 = valQ q := by omega
          have e2 : (valQ q * 128 + b % 128) % 128 = b := by omega
          rw [sevL, e1, e2, nats_append]
          have hlen : sevH 9 (valQ q) = sevH q.length (valQ q) := by
            rcases Nat.le_total q.length 9 with hle | hle
            · exact sevH_mono _ _ _ i1 hle
            · exact (sevH_mono _ _ _ (by rw [p9]; omega) hle).symm
          rw [hlen, i3]; rfl
        · rename_i h3
          have hne : (q ++ [b]).head? ≠ some 128 := by
            cases q with
            | nil => simpa using h1
            | cons x q => simpa using hh
          have h' : sevQ (decide (q ++ [b] = [])) (valQ (q ++ [b])) l = some (m, r) := by
            rw [decide_eq_false (by simp), valQ_snoc]; exact h
          obtain ⟨i1, p, hp, hpn, he⟩ := sevQ_back l (q ++ [b]) m r (fun x hx => hl x (by simp [hx])) (fun x hx => by
            rcases List.mem_append.1 hx with hx | hx
            · exact hq x hx
            · simp at hx; subst hx; omega) hne h'
          exact ⟨i1, b :: p, by rw [hp]; rfl, by simp, by rw [← he]; simp⟩
theorem sevQ_sound {l : List Nat} {m : Nat} {r : List Nat} (hl : ∀ b ∈ l, b < 256) (h : sevQ true 0 l = some (m, r)) : m ≤ 2147483647 ∧ l = nats (sevL m) ++ r ∧ r.length < l.length := by
  obtain ⟨h1, p, hp, hn, he⟩ := sevQ_back l [] m r hl (by simp) (by simp) h
  refine ⟨h1, by rw [← he, hp]; rfl, ?_⟩
  rw [hp, List.length_append]
  have : 0 < p.length := List.length_pos_iff.2 hn
  omega
end Go.Proofs.YtkhdjmjbdpmdnaaGreatDoor
