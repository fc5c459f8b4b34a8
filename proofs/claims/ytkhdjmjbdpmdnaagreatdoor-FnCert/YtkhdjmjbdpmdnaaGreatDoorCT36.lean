/- FnCert, walked: a drawn right paper comes back from its bytes; one that a secret signs is good under its key; what is read of drawn bytes is told by just these. -/
import Derived.Test.YtkhdjmjbdpmdnaaGreatDoorCT15
import Derived.Test.YtkhdjmjbdpmdnaaGreatDoorCT27
import Derived.Test.YtkhdjmjbdpmdnaaGreatDoorCT30
import Derived.Test.YtkhdjmjbdpmdnaaGreatDoorCT32
import Derived.Test.YtkhdjmjbdpmdnaaGreatDoorCT33
import Derived.Test.YtkhdjmjbdpmdnaaGreatDoorCT34
import Derived.Test.YtkhdjmjbdpmdnaaGreatDoorCT35
import Derived.Test.YtkhdjmjbdpmdnaaGreatDoorCT29
import Derived.Test.YtkhdjmjbdpmdnaaGreatDoorCT01
import Derived.Deep.Cut
import Derived.Deep.RegionHeld3
namespace Go.Proofs.YtkhdjmjbdpmdnaaGreatDoor
open Go.RowKit

set_option linter.unusedSimpArgs false in
set_option maxHeartbeats 16000000 in
set_option maxRecDepth 100000 in
theorem certTop (w : World) (a0 : Option Addr) (len0 cap0 : Nat) (z0 : List Int) (w0 : IsRow .u8 w a0 len0 cap0 z0) (a1 : Option Addr) (len1 cap1 : Nat) (z1 : List Int) (w1' : IsRow .u8 w a1 len1 cap1 z1) (hk : Keys w ∧ ErrType w) :
    Calls Tryz.prog 3 #[.slice a0 len0 cap0, .slice a1 len1 cap1] w fun e w' => e = .returned (.bool true) ∧ Below w.heap.size w w' := by
  have hkp := hk.1.pos
  have hep := hk.2.pos
  have HKE : Hid (∀ V, Below w.heap.size w V → Keys V ∧ ErrType V) := fun V hV => ⟨hk.1.below hV hkp, hk.2.below hV hep⟩
  clear hk hkp hep
  have hl0 := w0.len_le
  have hl1 := w1'.len_le
  unfold maxLen at hl0 hl1
  obtain ⟨hc0, hk0⟩ := w0.code
  obtain ⟨hc1, hk1⟩ := w1'.code
  clear w0 w1'
  by_cases h0 : 1048576 < len0
  · clear hc0 hk0 hc1 hk1
    go_enter Tryz.func3, Tryz.ntmps3
    go_wp2
    go_ret
    exact ⟨rfl, Below.refl _ _⟩
  by_cases h1 : 1048576 < len1
  · clear hc0 hk0 hc1 hk1
    go_enter Tryz.func3, Tryz.ntmps3
    go_wp2
    go_ret
    exact ⟨rfl, Below.refl _ _⟩
  have HC0 : Hid (∀ V, Below w.heap.size w V → CodeAt a0 len0 V) := fun V hV => hc0.below hV hk0
  have HB0 : Hid (∀ V, Below w.heap.size w V → ∀ x, 0 < len0 → a0 = some x → x.block < V.heap.size) := fun V hV x hx hx' => Nat.lt_of_lt_of_le (hk0 x hx hx') hV.size
  have HC1 : Hid (∀ V, Below w.heap.size w V → CodeAt a1 len1 V) := fun V hV => hc1.below hV hk1
  have HB1 : Hid (∀ V, Below w.heap.size w V → ∀ x, 0 < len1 → a1 = some x → x.block < V.heap.size) := fun V hV x hx hx' => Nat.lt_of_lt_of_le (hk1 x hx hx') hV.size
  clear hc0 hk0 hc1 hk1
  go_enter Tryz.func3, Tryz.ntmps3
  go_wp2_with fail
  refine (drawCertSign a0 len0 cap0 _ (by omega) (HC0.out _ (Below.refl _ _)) (HB0.out _ (Below.refl _ _))).mono ?_
  rintro e w1 ⟨⟨x, cser, ciss, csub, cfr, ctill, ckey, cnames, cca, csk, cse, css, va, nl, vc, rfl, hx, hnl, ho, hm, hn⟩, hb1⟩
  have HNl : Hid (nl = cnames.length) := hnl
  obtain ⟨w2, hw2⟩ : ∃ y, y = w1.alloc (.cells [Value.int .i64 cser, .string ciss, .string csub, .int .i64 cfr, .int .i64 ctill, .int .i64 ckey, .slice va nl vc, .bool cca, .int .i64 csk, .int .i64 cse, .int .i64 css].toArray 27 (0, 0)) := ⟨_, rfl⟩
  have b2 : Below w1.heap.size w1 w2 := by rw [hw2]; exact (Below.refl _ _).alloc (Nat.le_refl _) _
  have RC2 : Hid (w2.heap[w1.heap.size]? = some (.cells [Value.int .i64 cser, .string ciss, .string csub, .int .i64 cfr, .int .i64 ctill, .int .i64 ckey, .slice va nl vc, .bool cca, .int .i64 csk, .int .i64 cse, .int .i64 css].toArray 27 (0, 0))) := by rw [hw2]; exact heap_alloc_new w1 _
  have B2 : Hid (Below w.heap.size w w2) := hb1.trans (b2.mono hb1.size)
  have O2 : OwnS w2 w.heap.size (.slice va nl vc) cnames := ho.keep b2
  have IC2 : Hid (IsStrs w2 va cnames) := O2.strs
  have HAD : Hid (paperB ⟨cser, ciss, csub, cfr, ctill, ckey, cnames, cca, csk, cse, css⟩ = true → ∃ g o, va = some ⟨g, o, none⟩ ∧ g < w2.heap.size ∧ ∀ i, i < cnames.length → w2.cell? ⟨g, o + i, none⟩ = some (.string (tAt cnames i))) := fun hp => by
    have hi := paper_named hp
    obtain ⟨g, c', e', _, h2, h3⟩ := own_addr O2 (fun h => hi (hn h))
    simp only [Value.slice.injEq] at e'
    exact ⟨g, 0, e'.1, h2, h3⟩
  have hiss := hm.iss
  have hsub := hm.sub
  have hlen := hm.len
  have htot := hm.tot
  simp only at hiss hsub hlen htot
  obtain ⟨k, e, s, hsv, hk', he', hs'⟩ := signV_may x (bodyD ⟨cser, ciss, csub, cfr, ctill, ckey, cnames, cca, csk, cse, css⟩)
  have hmR := sign_may (x := x) hm hk' he' hs'
  have hgR := signP_good (c := ⟨cser, ciss, csub, cfr, ctill, ckey, cnames, cca, csk, cse, css⟩) hsv
  have hrl := signP_len x ⟨cser, ciss, csub, cfr, ctill, ckey, cnames, cca, csk, cse, css⟩ k e s
  obtain ⟨RR, hRR⟩ : ∃ y, y = signP x ⟨cser, ciss, csub, cfr, ctill, ckey, cnames, cca, csk, cse, css⟩ k e s := ⟨_, rfl⟩
  rw [← hRR] at hmR hgR hrl
  have TSi : Hid (∀ V, Keys V → IsStrs V va cnames → Calls Tryz.prog 6 #[.int .i64 x, .agg #[.int .i64 cser, .string ciss, .string csub, .int .i64 cfr, .int .i64 ctill, .int .i64 ckey, .slice va nl vc, .bool cca, .int .i64 csk, .int .i64 cse, .int .i64 css]] V fun r w' => ∃ v, r = .returned (RR.val v) ∧ OwnS w' V.heap.size v RR.names ∧ Below V.heap.size V w') := fun V hKV hV => by
    have q := implSignC x ⟨cser, ciss, csub, cfr, ctill, ckey, cnames, cca, csk, cse, css⟩ va vc k e s V (by show ciss.size ≤ _; omega) (by show csub.size ≤ _; omega) (by show cnames.length ≤ _; omega) (by show totS cnames cnames.length ≤ _; omega) hV hKV (fun _ _ => hsv)
    rw [← hRR, show (⟨cser, ciss, csub, cfr, ctill, ckey, cnames, cca, csk, cse, css⟩ : Paper).names.length = nl from hnl.out.symm] at q
    exact q
  have TSs : Hid (∀ V, Below w2.heap.size w2 V → Calls Tryz.prog 9 #[.int .i64 x, .agg #[.int .i64 cser, .string ciss, .string csub, .int .i64 cfr, .int .i64 ctill, .int .i64 ckey, .slice va nl vc, .bool cca, .int .i64 csk, .int .i64 cse, .int .i64 css]] V fun r w' => ∃ v, r = .returned (RR.val v) ∧ OwnS w' V.heap.size v RR.names ∧ Below V.heap.size V w') := fun V hV => by
    have q := specSignG x ⟨cser, ciss, csub, cfr, ctill, ckey, cnames, cca, csk, cse, css⟩ va vc k e s V (by show ciss.size ≤ maxLen; unfold maxLen; omega) (by show csub.size ≤ maxLen; unfold maxLen; omega) (by show cnames.length ≤ _; omega) (by show totS cnames cnames.length ≤ _; omega) (IC2.out.keep hV) (fun hp => by
      obtain ⟨g, o, h1, h2, h3⟩ := HAD.out hp
      exact ⟨g, o, h1, Nat.lt_of_lt_of_le h2 hV.size, fun i hi => by rw [hV.cell (p := ⟨g, o + i, none⟩) h2]; exact h3 i hi⟩) (fun _ _ => hsv)
    rw [← hRR, show (⟨cser, ciss, csub, cfr, ctill, ckey, cnames, cca, csk, cse, css⟩ : Paper).names.length = nl from hnl.out.symm] at q
    exact q.mono fun _ _ ⟨v, h1, h2, h3, _⟩ => ⟨v, h1, h2, h3⟩
  have TCb : Hid (∀ V, IsStrs V va cnames → Calls Tryz.prog 11 #[.agg #[.int .i64 cser, .string ciss, .string csub, .int .i64 cfr, .int .i64 ctill, .int .i64 ckey, .slice va nl vc, .bool cca, .int .i64 csk, .int .i64 cse, .int .i64 css]] V fun e w' => e = .returned (.string (certBodyD ⟨cser, ciss, csub, cfr, ctill, ckey, cnames, cca, csk, cse, css⟩)) ∧ Below V.heap.size V w') := fun V hV => by
    have q := implBody ⟨cser, ciss, csub, cfr, ctill, ckey, cnames, cca, csk, cse, css⟩ va vc V (by show ciss.size ≤ maxLen; unfold maxLen; omega) (by show csub.size ≤ maxLen; unfold maxLen; omega) (by show cnames.length ≤ _; omega) (by show totS cnames cnames.length ≤ _; omega) hV
    rw [show (⟨cser, ciss, csub, cfr, ctill, ckey, cnames, cca, csk, cse, css⟩ : Paper).names.length = nl from hnl.out.symm] at q
    exact q
  have TCs : Hid (∀ V, IsStrs V va cnames → Calls Tryz.prog 12 #[.agg #[.int .i64 cser, .string ciss, .string csub, .int .i64 cfr, .int .i64 ctill, .int .i64 ckey, .slice va nl vc, .bool cca, .int .i64 csk, .int .i64 cse, .int .i64 css]] V fun e w' => e = .returned (.string (certBodyD ⟨cser, ciss, csub, cfr, ctill, ckey, cnames, cca, csk, cse, css⟩)) ∧ Below V.heap.size V w') := fun V hV => by
    have q := specCertBody ⟨cser, ciss, csub, cfr, ctill, ckey, cnames, cca, csk, cse, css⟩ va vc V (by show ciss.size ≤ maxLen; unfold maxLen; omega) (by show csub.size ≤ maxLen; unfold maxLen; omega) (by show cnames.length ≤ _; omega) (by show totS cnames cnames.length ≤ _; omega) hV
    rw [show (⟨cser, ciss, csub, cfr, ctill, ckey, cnames, cca, csk, cse, css⟩ : Paper).names.length = nl from hnl.out.symm] at q
    exact q
  have TRi : Hid (∀ V, IsStrs V va cnames → Calls Tryz.prog 13 #[.agg #[.int .i64 cser, .string ciss, .string csub, .int .i64 cfr, .int .i64 ctill, .int .i64 ckey, .slice va nl vc, .bool cca, .int .i64 csk, .int .i64 cse, .int .i64 css]] V fun e w' => e = .returned (.bool (certB ⟨cser, ciss, csub, cfr, ctill, ckey, cnames, cca, csk, cse, css⟩)) ∧ Below V.heap.size V w') := fun V hV => by
    have q := implCert ⟨cser, ciss, csub, cfr, ctill, ckey, cnames, cca, csk, cse, css⟩ va vc V (by show ciss.size ≤ maxLen; unfold maxLen; omega) (by show csub.size ≤ maxLen; unfold maxLen; omega) (by show cnames.length ≤ _; omega) (by show totS cnames cnames.length ≤ _; omega) hV
    rw [show (⟨cser, ciss, csub, cfr, ctill, ckey, cnames, cca, csk, cse, css⟩ : Paper).names.length = nl from hnl.out.symm] at q
    exact q
  have TRs : Hid (∀ V, IsStrs V va cnames → Calls Tryz.prog 14 #[.agg #[.int .i64 cser, .string ciss, .string csub, .int .i64 cfr, .int .i64 ctill, .int .i64 ckey, .slice va nl vc, .bool cca, .int .i64 csk, .int .i64 cse, .int .i64 css]] V fun e w' => e = .returned (.bool (certB ⟨cser, ciss, csub, cfr, ctill, ckey, cnames, cca, csk, cse, css⟩)) ∧ Below V.heap.size V w') := fun V hV => by
    have q := specCert ⟨cser, ciss, csub, cfr, ctill, ckey, cnames, cca, csk, cse, css⟩ va vc V (by show ciss.size ≤ maxLen; unfold maxLen; omega) (by show csub.size ≤ maxLen; unfold maxLen; omega) (by show cnames.length ≤ _; omega) (by show totS cnames cnames.length ≤ _; omega) hV
    rw [show (⟨cser, ciss, csub, cfr, ctill, ckey, cnames, cca, csk, cse, css⟩ : Paper).names.length = nl from hnl.out.symm] at q
    exact q
  have HPk : Hid (∀ V : World, Calls Tryz.prog 16 #[.int .i64 x] V fun e w' => e = .returned (.int .i64 (pubA x)) ∧ Below V.heap.size V w') := fun V => (specPublic x V).mono fun _ _ h => ⟨h.1, by rw [h.2]; exact Below.refl _ _⟩
  generalize certBodyD ⟨cser, ciss, csub, cfr, ctill, ckey, cnames, cca, csk, cse, css⟩ = cd at *
  generalize certB ⟨cser, ciss, csub, cfr, ctill, ckey, cnames, cca, csk, cse, css⟩ = cb at *
  generalize pubA x = pk at *
  have hrl5 : RR.names.length ≤ 5 := Nat.le_trans hrl hlen
  clear hRR hsv hm hn ho O2 hk' he' hs' hrl HAD hnl b2 hb1
  have riss' := hmR.iss
  have rsub' := hmR.sub
  have rtot' := hmR.tot
  have TRb : Hid (∀ V a c, IsStrs V a RR.names → Calls Tryz.prog 7 #[RR.val (.slice a RR.names.length c)] V fun e w' => e = .returned (.string (certBytesD RR)) ∧ Below V.heap.size V w') := fun V a c hV => implCertBytes RR a c V (by unfold maxLen; omega) (by unfold maxLen; omega) (by omega) (by omega) hV
  have TRc : Hid (∀ V a c, IsStrs V a RR.names → Calls Tryz.prog 10 #[RR.val (.slice a RR.names.length c)] V fun e w' => e = .returned (.string (certBytesD RR)) ∧ Below V.heap.size V w') := fun V a c hV => specCertBytes RR a c V (by unfold maxLen; omega) (by unfold maxLen; omega) (by omega) (by omega) hV
  have TRd : Hid (∀ V a c, IsStrs V a RR.names → Calls Tryz.prog 11 #[RR.val (.slice a RR.names.length c)] V fun e w' => e = .returned (.string (certBodyD RR)) ∧ Below V.heap.size V w') := fun V a c hV => implBody RR a c V (by unfold maxLen; omega) (by unfold maxLen; omega) (by omega) (by omega) hV
  have TRg : Hid (∀ V a c, Keys V → IsStrs V a RR.names → Calls Tryz.prog 15 #[.int .i64 pk, RR.val (.slice a RR.names.length c)] V fun e w' => e = .returned (.bool (goodB pk RR)) ∧ Below V.heap.size V w') := fun V a c hKV hV => implGood pk RR a c V (by unfold maxLen; omega) (by unfold maxLen; omega) (by omega) (by omega) hV hKV
  have TRl : Hid (∀ V a b c d, IsStrs V a RR.names → IsStrs V b RR.names → Calls Tryz.prog 8 #[RR.val (.slice a RR.names.length c), RR.val (.slice b RR.names.length d)] V fun e w' => e = .returned (.bool true) ∧ Below V.heap.size V w') := fun V a b c d h1 h2 => lwCertW RR a b c d V (by omega) h1 h2
  have hts : (certBytesD RR).size ≤ 20000 := certBytes_small
  have TRr : Hid (RR.serial ≠ 0 → ∀ V, ErrType V → Calls Tryz.prog 17 #[.string (certBytesD RR)] V fun e w' => ∃ v, e = .returned (certV RR v 0) ∧ OwnS w' V.heap.size v RR.names ∧ Below V.heap.size V w') := fun hne V hE => by
    have q := implCertRead (certBytesD RR) V (by unfold maxLen; omega) hE
    rcases hgR with h | ⟨h, _, _⟩
    · exact absurd h hne
    · rw [certR_eq, certS_back h (bytesD_small h)] at q
      exact q
  have HF : Hid (RR.serial ≠ 0 → goodB pk RR = true ∧ certBodyD RR = cd) := fun hne => by
    rcases hgR with h | ⟨_, h1, h2⟩
    · exact absurd h hne
    · exact ⟨h1, h2⟩
  generalize certBytesD RR = t at *
  generalize certBodyD RR = rd at *
  generalize goodB pk RR = rg at *
  clear hmR hgR riss' rsub' rtot' hiss hsub htot hlen
  obtain ⟨rser, riss, rsub, rfr, rtill, rkey, rnames, rca, rsk, rse, rss⟩ := RR
  unfold Paper.val certV at *
  simp only at TSi TSs TRb TRc TRd TRg TRl TRr HF hrl5
  obtain ⟨rl, hrl⟩ : ∃ n, n = rnames.length := ⟨_, rfl⟩
  rw [← hrl] at TRb TRc TRd TRg TRl hrl5
  have HRl : Hid (rl = rnames.length) := hrl
  have TSi' : Hid (∀ V, Keys V → IsStrs V va cnames → Calls Tryz.prog 6 #[.int .i64 x, .agg #[.int .i64 cser, .string ciss, .string csub, .int .i64 cfr, .int .i64 ctill, .int .i64 ckey, .slice va nl vc, .bool cca, .int .i64 csk, .int .i64 cse, .int .i64 css]] V fun r w' => ∃ a c, r = .returned (.agg #[.int .i64 rser, .string riss, .string rsub, .int .i64 rfr, .int .i64 rtill, .int .i64 rkey, .slice a rl c, .bool rca, .int .i64 rsk, .int .i64 rse, .int .i64 rss]) ∧ IsStrs w' a rnames ∧ Below V.heap.size V w') := fun V h1 h2 => (TSi.out V h1 h2).mono fun _ _ ⟨v, e1, h3, h4⟩ => by
    obtain ⟨a, c, rfl, _⟩ := h3.form
    rw [← HRl.out] at e1
    exact ⟨a, c, e1, h3.strs, h4⟩
  have TSs' : Hid (∀ V, Below w2.heap.size w2 V → Calls Tryz.prog 9 #[.int .i64 x, .agg #[.int .i64 cser, .string ciss, .string csub, .int .i64 cfr, .int .i64 ctill, .int .i64 ckey, .slice va nl vc, .bool cca, .int .i64 csk, .int .i64 cse, .int .i64 css]] V fun r w' => ∃ a c, r = .returned (.agg #[.int .i64 rser, .string riss, .string rsub, .int .i64 rfr, .int .i64 rtill, .int .i64 rkey, .slice a rl c, .bool rca, .int .i64 rsk, .int .i64 rse, .int .i64 rss]) ∧ IsStrs w' a rnames ∧ Below V.heap.size V w') := fun V h1 => (TSs.out V h1).mono fun _ _ ⟨v, e1, h3, h4⟩ => by
    obtain ⟨a, c, rfl, _⟩ := h3.form
    rw [← HRl.out] at e1
    exact ⟨a, c, e1, h3.strs, h4⟩
  have TRr' : Hid (rser ≠ 0 → ∀ V, ErrType V → Calls Tryz.prog 17 #[.string t] V fun e w' => ∃ a c, e = .returned (.agg #[.int .i64 rser, .string riss, .string rsub, .int .i64 rfr, .int .i64 rtill, .int .i64 rkey, .slice a rl c, .bool rca, .int .i64 rsk, .int .i64 rse, .int .i64 rss, .int .i64 0]) ∧ IsStrs w' a rnames ∧ Below V.heap.size V w') := fun hne V h1 => (TRr.out hne V h1).mono fun _ _ ⟨v, e1, h3, h4⟩ => by
    obtain ⟨a, c, rfl, _⟩ := h3.form
    rw [← HRl.out] at e1
    exact ⟨a, c, e1, h3.strs, h4⟩
  clear hrl TSi TSs TRr
  go_upto_region 4 with fail
  rw [← hw2]
  clear hw2
  have hr2 := rangeRow RC2.out
  go_wp2_with (refine wpList_load_mid rfl 27 _ rfl w1.heap.size 0 rfl [Value.int .i64 cser, .string ciss, .string csub, .int .i64 cfr, .int .i64 ctill, .int .i64 ckey, .slice va nl vc, .bool cca, .int .i64 csk, .int .i64 cse, .int .i64 css] _ hr2 Tryz.underlying27 rfl sizeCert ?_)
  refine (TSi'.out _ (HKE.out _ B2.out).1 IC2.out).mono ?_
  rintro e' w3 ⟨ra, rc, rfl, ir3, b3⟩
  have RC3 : Hid (w3.heap[w1.heap.size]? = some (.cells [Value.int .i64 cser, .string ciss, .string csub, .int .i64 cfr, .int .i64 ctill, .int .i64 ckey, .slice va nl vc, .bool cca, .int .i64 csk, .int .i64 cse, .int .i64 css].toArray 27 (0, 0))) := by show _ = _; rw [b3.block _ (heap_lt RC2.out)]; exact RC2.out
  have D3 : Hid (Below w2.heap.size w2 w3) := b3
  obtain ⟨w4, hw4⟩ : ∃ y, y = w3.alloc (.cells [Value.int .i64 rser, .string riss, .string rsub, .int .i64 rfr, .int .i64 rtill, .int .i64 rkey, .slice ra rl rc, .bool rca, .int .i64 rsk, .int .i64 rse, .int .i64 rss].toArray 27 (0, 0)) := ⟨_, rfl⟩
  have b4 : Below w3.heap.size w3 w4 := by rw [hw4]; exact (Below.refl _ _).alloc (Nat.le_refl _) _
  have RR4 : Hid (w4.heap[w3.heap.size]? = some (.cells [Value.int .i64 rser, .string riss, .string rsub, .int .i64 rfr, .int .i64 rtill, .int .i64 rkey, .slice ra rl rc, .bool rca, .int .i64 rsk, .int .i64 rse, .int .i64 rss].toArray 27 (0, 0))) := by rw [hw4]; exact heap_alloc_new w3 _
  have RC4 : Hid (w4.heap[w1.heap.size]? = some (.cells [Value.int .i64 cser, .string ciss, .string csub, .int .i64 cfr, .int .i64 ctill, .int .i64 ckey, .slice va nl vc, .bool cca, .int .i64 csk, .int .i64 cse, .int .i64 css].toArray 27 (0, 0))) := by show _ = _; rw [b4.block _ (heap_lt RC3.out)]; exact RC3.out
  have D4 : Hid (Below w2.heap.size w2 w4) := D3.out.trans (b4.mono D3.out.size)
  have IR4 : Hid (IsStrs w4 ra rnames) := ir3.keep b4
  clear b3 b4 ir3 RC3 D3 RC2 TSi'
  go_upto_region 5 with fail
  rw [← hw4]
  clear hw4 hr2
  have hr4 := rangeRow RR4.out
  go_wp2_with (refine wpList_load_mid rfl 27 _ rfl w3.heap.size 0 rfl [Value.int .i64 rser, .string riss, .string rsub, .int .i64 rfr, .int .i64 rtill, .int .i64 rkey, .slice ra rl rc, .bool rca, .int .i64 rsk, .int .i64 rse, .int .i64 rss] _ hr4 Tryz.underlying27 rfl sizeCert ?_)
  refine (TRb.out w4 ra rc IR4.out).mono ?_
  rintro e' w5 ⟨rfl, b5⟩
  have RR5 : Hid (w5.heap[w3.heap.size]? = some (.cells [Value.int .i64 rser, .string riss, .string rsub, .int .i64 rfr, .int .i64 rtill, .int .i64 rkey, .slice ra rl rc, .bool rca, .int .i64 rsk, .int .i64 rse, .int .i64 rss].toArray 27 (0, 0))) := by show _ = _; rw [b5.block _ (heap_lt RR4.out)]; exact RR4.out
  have RC5 : Hid (w5.heap[w1.heap.size]? = some (.cells [Value.int .i64 cser, .string ciss, .string csub, .int .i64 cfr, .int .i64 ctill, .int .i64 ckey, .slice va nl vc, .bool cca, .int .i64 csk, .int .i64 cse, .int .i64 css].toArray 27 (0, 0))) := by show _ = _; rw [b5.block _ (heap_lt RC4.out)]; exact RC4.out
  have D5 : Hid (Below w2.heap.size w2 w5) := D4.out.trans (b5.mono D4.out.size)
  have IR5 : Hid (IsStrs w5 ra rnames) := IR4.out.keep b5
  clear b5 RR4 RC4 D4 IR4 hr4 TRb
  have HX : Hid (∀ V, Below w5.heap.size w5 V → ((V.cell? ⟨w1.heap.size, 0, none⟩ = some (.int .i64 cser) ∧ V.cell? ⟨w1.heap.size, 1, none⟩ = some (.string ciss) ∧ V.cell? ⟨w1.heap.size, 2, none⟩ = some (.string csub) ∧ V.cell? ⟨w1.heap.size, 3, none⟩ = some (.int .i64 cfr) ∧ V.cell? ⟨w1.heap.size, 4, none⟩ = some (.int .i64 ctill) ∧ V.cell? ⟨w1.heap.size, 5, none⟩ = some (.int .i64 ckey) ∧ V.cell? ⟨w1.heap.size, 6, none⟩ = some (.slice va nl vc) ∧ V.cell? ⟨w1.heap.size, 7, none⟩ = some (.bool cca) ∧ V.cell? ⟨w1.heap.size, 8, none⟩ = some (.int .i64 csk) ∧ V.cell? ⟨w1.heap.size, 9, none⟩ = some (.int .i64 cse) ∧ V.cell? ⟨w1.heap.size, 10, none⟩ = some (.int .i64 css)) ∧ (V.cell? ⟨w3.heap.size, 0, none⟩ = some (.int .i64 rser) ∧ V.cell? ⟨w3.heap.size, 1, none⟩ = some (.string riss) ∧ V.cell? ⟨w3.heap.size, 2, none⟩ = some (.string rsub) ∧ V.cell? ⟨w3.heap.size, 3, none⟩ = some (.int .i64 rfr) ∧ V.cell? ⟨w3.heap.size, 4, none⟩ = some (.int .i64 rtill) ∧ V.cell? ⟨w3.heap.size, 5, none⟩ = some (.int .i64 rkey) ∧ V.cell? ⟨w3.heap.size, 6, none⟩ = some (.slice ra rl rc) ∧ V.cell? ⟨w3.heap.size, 7, none⟩ = some (.bool rca) ∧ V.cell? ⟨w3.heap.size, 8, none⟩ = some (.int .i64 rsk) ∧ V.cell? ⟨w3.heap.size, 9, none⟩ = some (.int .i64 rse) ∧ V.cell? ⟨w3.heap.size, 10, none⟩ = some (.int .i64 rss)))) := fun V hV => by
    have h1 : V.heap[w1.heap.size]? = some (.cells [Value.int .i64 cser, .string ciss, .string csub, .int .i64 cfr, .int .i64 ctill, .int .i64 ckey, .slice va nl vc, .bool cca, .int .i64 csk, .int .i64 cse, .int .i64 css].toArray 27 (0, 0)) := by rw [hV.block _ (heap_lt RC5.out)]; exact RC5.out
    have h2 : V.heap[w3.heap.size]? = some (.cells [Value.int .i64 rser, .string riss, .string rsub, .int .i64 rfr, .int .i64 rtill, .int .i64 rkey, .slice ra rl rc, .bool rca, .int .i64 rsk, .int .i64 rse, .int .i64 rss].toArray 27 (0, 0)) := by rw [hV.block _ (heap_lt RR5.out)]; exact RR5.out
    exact ⟨⟨rowFacts h1 0 _ rfl, rowFacts h1 1 _ rfl, rowFacts h1 2 _ rfl, rowFacts h1 3 _ rfl, rowFacts h1 4 _ rfl, rowFacts h1 5 _ rfl, rowFacts h1 6 _ rfl, rowFacts h1 7 _ rfl, rowFacts h1 8 _ rfl, rowFacts h1 9 _ rfl, rowFacts h1 10 _ rfl⟩, ⟨rowFacts h2 0 _ rfl, rowFacts h2 1 _ rfl, rowFacts h2 2 _ rfl, rowFacts h2 3 _ rfl, rowFacts h2 4 _ rfl, rowFacts h2 5 _ rfl, rowFacts h2 6 _ rfl, rowFacts h2 7 _ rfl, rowFacts h2 8 _ rfl, rowFacts h2 9 _ rfl, rowFacts h2 10 _ rfl⟩⟩
  have HW : Hid (∀ V, Below w5.heap.size w5 V → Below w.heap.size w V ∧ Below w2.heap.size w2 V ∧ IsStrs V va cnames ∧ IsStrs V ra rnames) := fun V hV => by
    have h2 := D5.out.trans (hV.mono D5.out.size)
    exact ⟨B2.out.trans (h2.mono B2.out.size), h2, IC2.out.keep h2, IR5.out.keep hV⟩
  clear RC5 RR5 D5 IR5 IC2 B2
  go_upto_region 6 with fail
  go_cut [56] from 31 (fun s56 wx => s56 = .bool false ∧ Below w5.heap.size w5 wx)
  case first =>
    have ecb : (cb != cb) = false := by simp
    have J0 : Hid (Below w5.heap.size w5 w5.drew) := (Below.refl _ _).drew
    refine wp_region_held_drew (S := fun V => ((V.cell? ⟨w1.heap.size, 0, none⟩ = some (.int .i64 cser) ∧ V.cell? ⟨w1.heap.size, 1, none⟩ = some (.string ciss) ∧ V.cell? ⟨w1.heap.size, 2, none⟩ = some (.string csub) ∧ V.cell? ⟨w1.heap.size, 3, none⟩ = some (.int .i64 cfr) ∧ V.cell? ⟨w1.heap.size, 4, none⟩ = some (.int .i64 ctill) ∧ V.cell? ⟨w1.heap.size, 5, none⟩ = some (.int .i64 ckey) ∧ V.cell? ⟨w1.heap.size, 6, none⟩ = some (.slice va nl vc) ∧ V.cell? ⟨w1.heap.size, 7, none⟩ = some (.bool cca) ∧ V.cell? ⟨w1.heap.size, 8, none⟩ = some (.int .i64 csk) ∧ V.cell? ⟨w1.heap.size, 9, none⟩ = some (.int .i64 cse) ∧ V.cell? ⟨w1.heap.size, 10, none⟩ = some (.int .i64 css)) ∧ (V.cell? ⟨w3.heap.size, 0, none⟩ = some (.int .i64 rser) ∧ V.cell? ⟨w3.heap.size, 1, none⟩ = some (.string riss) ∧ V.cell? ⟨w3.heap.size, 2, none⟩ = some (.string rsub) ∧ V.cell? ⟨w3.heap.size, 3, none⟩ = some (.int .i64 rfr) ∧ V.cell? ⟨w3.heap.size, 4, none⟩ = some (.int .i64 rtill) ∧ V.cell? ⟨w3.heap.size, 5, none⟩ = some (.int .i64 rkey) ∧ V.cell? ⟨w3.heap.size, 6, none⟩ = some (.slice ra rl rc) ∧ V.cell? ⟨w3.heap.size, 7, none⟩ = some (.bool rca) ∧ V.cell? ⟨w3.heap.size, 8, none⟩ = some (.int .i64 rsk) ∧ V.cell? ⟨w3.heap.size, 9, none⟩ = some (.int .i64 rse) ∧ V.cell? ⟨w3.heap.size, 10, none⟩ = some (.int .i64 rss)))) (by kernel_rfl) ?_ (fun hHeld => ?_)
    · exact HX.out _ J0.out
    refine wpAnyH_take (i := 0) (oi := ⟨some 31, _, _, _, _, _⟩) (v := ?_) rfl (by kernel_rfl) (by kernel_rfl) (by kernel_rfl) (fun _ _ _ h => h) (Or.inl ⟨by kernel_rfl, ?_⟩) (by assumption) ?_
    rotate_left
    · (intro w hSw; (try dsimp only at hSw); go_simp; try with_reducible rfl)
    (try simp only [Act.put, List.setIfInBounds_toArray, List.set_cons_zero, List.set_cons_succ])
    refine wpAnyH_take (i := 1) (oi := ⟨some 32, _, _, _, _, _⟩) (v := ?_) rfl (by kernel_rfl) (by kernel_rfl) (by kernel_rfl) (fun _ _ _ h => h) (Or.inl ⟨by kernel_rfl, ?_⟩) (by assumption) ?_
    rotate_left
    · (intro w hSw; (try dsimp only at hSw); go_simp; try with_reducible rfl)
    (try simp only [Act.put, List.setIfInBounds_toArray, List.set_cons_zero, List.set_cons_succ])
    refine wpAnyH_take (i := 2) (oi := ⟨some 33, _, _, _, _, _⟩) (v := ?_) rfl (by kernel_rfl) (by kernel_rfl) (by kernel_rfl) (fun _ _ _ h => h) (Or.inl ⟨by kernel_rfl, ?_⟩) (by assumption) ?_
    rotate_left
    · (intro w hSw; (try dsimp only at hSw); go_simp; try with_reducible rfl)
    (try simp only [Act.put, List.setIfInBounds_toArray, List.set_cons_zero, List.set_cons_succ])
    refine wpAnyH_ready (rs := [3]) (by kernel_rfl) (by simp) ?_
    refine AllReadyH.cons (o := ⟨some 34, _, _, _, _, _⟩) rfl (fun K hK => ?_) AllReadyH.nil
    go_simp
    refine (TSs'.out _ (HW.out _ J0.out).2.1).mono ?_
    rintro e' W1 ⟨a2, c2, rfl, i2, bb1⟩
    have J1 : Hid (Below w5.heap.size w5 W1) := J0.out.trans (bb1.mono J0.out.size)
    refine hK.out _ _ ?_ (fun hHeld => ?_)
    · exact HX.out _ J1.out
    clear hK K bb1
    (try simp only [Act.put, List.setIfInBounds_toArray, List.set_cons_zero, List.set_cons_succ])
    refine wpAnyH_ready (rs := [4]) (by kernel_rfl) (by simp) ?_
    refine AllReadyH.cons (o := ⟨some 35, _, _, _, _, _⟩) rfl (fun K hK => ?_) AllReadyH.nil
    go_simp
    refine (TRl.out _ ra a2 rc c2 (HW.out _ J1.out).2.2.2 i2).mono ?_
    rintro e' W2 ⟨rfl, bb2⟩
    have J2 : Hid (Below w5.heap.size w5 W2) := J1.out.trans (bb2.mono J1.out.size)
    refine hK.out _ _ ?_ (fun hHeld => ?_)
    · exact HX.out _ J2.out
    clear hK K bb2
    (try simp only [Act.put, List.setIfInBounds_toArray, List.set_cons_zero, List.set_cons_succ])
    refine wpAnyH_take (i := 5) (oi := ⟨some 36, _, _, _, _, _⟩) (v := ?_) rfl (by kernel_rfl) (by kernel_rfl) (by kernel_rfl) (fun _ _ _ h => h) (Or.inl ⟨by kernel_rfl, ?_⟩) (by assumption) ?_
    rotate_left
    · (intro w hSw; (try dsimp only at hSw); go_simp; try with_reducible rfl)
    (try simp only [Act.put, List.setIfInBounds_toArray, List.set_cons_zero, List.set_cons_succ])
    refine wpAnyH_take (i := 6) (oi := ⟨some 37, _, _, _, _, _⟩) (v := ?_) rfl (by kernel_rfl) (by kernel_rfl) (by kernel_rfl) (fun _ _ _ h => h) (Or.inl ⟨by kernel_rfl, ?_⟩) (by assumption) ?_
    rotate_left
    · (intro w hSw; (try dsimp only at hSw); go_simp; try with_reducible rfl)
    (try simp only [Act.put, List.setIfInBounds_toArray, List.set_cons_zero, List.set_cons_succ])
    refine wpAnyH_take (i := 7) (oi := ⟨some 38, _, _, _, _, _⟩) (v := ?_) rfl (by kernel_rfl) (by kernel_rfl) (by kernel_rfl) (fun _ _ _ h => h) (Or.inl ⟨by kernel_rfl, ?_⟩) (by assumption) ?_
    rotate_left
    · (intro w hSw; (try dsimp only at hSw); go_simp; try with_reducible rfl)
    (try simp only [Act.put, List.setIfInBounds_toArray, List.set_cons_zero, List.set_cons_succ])
    refine wpAnyH_take (i := 8) (oi := ⟨some 39, _, _, _, _, _⟩) (v := ?_) rfl (by kernel_rfl) (by kernel_rfl) (by kernel_rfl) (fun _ _ _ h => h) (Or.inl ⟨by kernel_rfl, ?_⟩) (by assumption) ?_
    rotate_left
    · (intro w hSw; (try dsimp only at hSw); go_simp; try with_reducible rfl)
    (try simp only [Act.put, List.setIfInBounds_toArray, List.set_cons_zero, List.set_cons_succ])
    refine wpAnyH_ready (rs := [9]) (by kernel_rfl) (by simp) ?_
    refine AllReadyH.cons (o := ⟨some 40, _, _, _, _, _⟩) rfl (fun K hK => ?_) AllReadyH.nil
    go_simp
    refine (TRc.out _ ra rc (HW.out _ J2.out).2.2.2).mono ?_
    rintro e' W3 ⟨rfl, bb3⟩
    have J3 : Hid (Below w5.heap.size w5 W3) := J2.out.trans (bb3.mono J2.out.size)
    refine hK.out _ _ ?_ (fun hHeld => ?_)
    · exact HX.out _ J3.out
    clear hK K bb3
    (try simp only [Act.put, List.setIfInBounds_toArray, List.set_cons_zero, List.set_cons_succ])
    refine wpAnyH_take (i := 10) (oi := ⟨some 41, _, _, _, _, _⟩) (v := ?_) rfl (by kernel_rfl) (by kernel_rfl) (by kernel_rfl) (fun _ _ _ h => h) (Or.inl ⟨by kernel_rfl, ?_⟩) (by assumption) ?_
    rotate_left
    · (intro w hSw; (try dsimp only at hSw); go_simp; try with_reducible rfl)
    (try simp only [Act.put, List.setIfInBounds_toArray, List.set_cons_zero, List.set_cons_succ])
    refine wpAnyH_take (i := 11) (oi := ⟨some 42, _, _, _, _, _⟩) (v := ?_) rfl (by kernel_rfl) (by kernel_rfl) (by kernel_rfl) (fun _ _ _ h => h) (Or.inl ⟨by kernel_rfl, ?_⟩) (by assumption) ?_
    rotate_left
    · (intro w hSw; (try dsimp only at hSw); go_simp; try with_reducible rfl)
    (try simp only [Act.put, List.setIfInBounds_toArray, List.set_cons_zero, List.set_cons_succ])
    refine wpAnyH_take (i := 12) (oi := ⟨some 43, _, _, _, _, _⟩) (v := ?_) rfl (by kernel_rfl) (by kernel_rfl) (by kernel_rfl) (fun _ _ _ h => h) (Or.inl ⟨by kernel_rfl, ?_⟩) (by assumption) ?_
    rotate_left
    · (intro w hSw; (try dsimp only at hSw); go_simp; try with_reducible rfl)
    (try simp only [Act.put, List.setIfInBounds_toArray, List.set_cons_zero, List.set_cons_succ])
    refine wpAnyH_take (i := 13) (oi := ⟨some 44, _, _, _, _, _⟩) (v := ?_) rfl (by kernel_rfl) (by kernel_rfl) (by kernel_rfl) (fun _ _ _ h => h) (Or.inl ⟨by kernel_rfl, ?_⟩) (by assumption) ?_
    rotate_left
    · (intro w hSw; (try dsimp only at hSw); go_simp; try with_reducible rfl)
    (try simp only [Act.put, List.setIfInBounds_toArray, List.set_cons_zero, List.set_cons_succ])
    refine wpAnyH_take (i := 15) (oi := ⟨some 46, _, _, _, _, _⟩) (v := ?_) rfl (by kernel_rfl) (by kernel_rfl) (by kernel_rfl) (fun _ _ _ h => h) (Or.inl ⟨by kernel_rfl, ?_⟩) (by assumption) ?_
    rotate_left
    · (intro w hSw; (try dsimp only at hSw); go_simp; try with_reducible rfl)
    (try simp only [Act.put, List.setIfInBounds_toArray, List.set_cons_zero, List.set_cons_succ])
    refine wpAnyH_ready (rs := [14]) (by kernel_rfl) (by simp) ?_
    refine AllReadyH.cons (o := ⟨some 45, _, _, _, _, _⟩) rfl (fun K hK => ?_) AllReadyH.nil
    go_simp
    refine (TCb.out _ (HW.out _ J3.out).2.2.1).mono ?_
    rintro e' W4 ⟨rfl, bb4⟩
    have J4 : Hid (Below w5.heap.size w5 W4) := J3.out.trans (bb4.mono J3.out.size)
    refine hK.out _ _ ?_ (fun hHeld => ?_)
    · exact HX.out _ J4.out
    clear hK K bb4
    (try simp only [Act.put, List.setIfInBounds_toArray, List.set_cons_zero, List.set_cons_succ])
    refine wpAnyH_ready (rs := [16]) (by kernel_rfl) (by simp) ?_
    refine AllReadyH.cons (o := ⟨some 47, _, _, _, _, _⟩) rfl (fun K hK => ?_) AllReadyH.nil
    go_simp
    refine (TCs.out _ (HW.out _ J4.out).2.2.1).mono ?_
    rintro e' W5 ⟨rfl, bb5⟩
    have J5 : Hid (Below w5.heap.size w5 W5) := J4.out.trans (bb5.mono J4.out.size)
    refine hK.out _ _ ?_ (fun hHeld => ?_)
    · exact HX.out _ J5.out
    clear hK K bb5
    (try simp only [Act.put, List.setIfInBounds_toArray, List.set_cons_zero, List.set_cons_succ])
    refine wpAnyH_take (i := 17) (oi := ⟨some 48, _, _, _, _, _⟩) (v := ?_) rfl (by kernel_rfl) (by kernel_rfl) (by kernel_rfl) (fun _ _ _ h => h) (Or.inl ⟨by kernel_rfl, ?_⟩) (by assumption) ?_
    rotate_left
    · (intro w hSw; (try dsimp only at hSw); go_simp; try with_reducible rfl)
    (try simp only [Act.put, List.setIfInBounds_toArray, List.set_cons_zero, List.set_cons_succ])
    refine wpAnyH_take (i := 18) (oi := ⟨some 49, _, _, _, _, _⟩) (v := ?_) rfl (by kernel_rfl) (by kernel_rfl) (by kernel_rfl) (fun _ _ _ h => h) (Or.inl ⟨by kernel_rfl, ?_⟩) (by assumption) ?_
    rotate_left
    · (intro w hSw; (try dsimp only at hSw); go_simp; try with_reducible rfl)
    (try simp only [Act.put, List.setIfInBounds_toArray, List.set_cons_zero, List.set_cons_succ])
    refine wpAnyH_take (i := 19) (oi := ⟨some 50, _, _, _, _, _⟩) (v := ?_) rfl (by kernel_rfl) (by kernel_rfl) (by kernel_rfl) (fun _ _ _ h => h) (Or.inl ⟨by kernel_rfl, ?_⟩) (by assumption) ?_
    rotate_left
    · (intro w hSw; (try dsimp only at hSw); go_simp; try with_reducible rfl)
    (try simp only [Act.put, List.setIfInBounds_toArray, List.set_cons_zero, List.set_cons_succ])
    refine wpAnyH_take (i := 20) (oi := ⟨some 51, _, _, _, _, _⟩) (v := ?_) rfl (by kernel_rfl) (by kernel_rfl) (by kernel_rfl) (fun _ _ _ h => h) (Or.inl ⟨by kernel_rfl, ?_⟩) (by assumption) ?_
    rotate_left
    · (intro w hSw; (try dsimp only at hSw); go_simp; try with_reducible rfl)
    (try simp only [Act.put, List.setIfInBounds_toArray, List.set_cons_zero, List.set_cons_succ])
    refine wpAnyH_take (i := 22) (oi := ⟨some 53, _, _, _, _, _⟩) (v := ?_) rfl (by kernel_rfl) (by kernel_rfl) (by kernel_rfl) (fun _ _ _ h => h) (Or.inl ⟨by kernel_rfl, ?_⟩) (by assumption) ?_
    rotate_left
    · (intro w hSw; (try dsimp only at hSw); go_simp; try with_reducible rfl)
    (try simp only [Act.put, List.setIfInBounds_toArray, List.set_cons_zero, List.set_cons_succ])
    refine wpAnyH_ready (rs := [21]) (by kernel_rfl) (by simp) ?_
    refine AllReadyH.cons (o := ⟨some 52, _, _, _, _, _⟩) rfl (fun K hK => ?_) AllReadyH.nil
    go_simp
    refine (TRi.out _ (HW.out _ J5.out).2.2.1).mono ?_
    rintro e' W6 ⟨rfl, bb6⟩
    have J6 : Hid (Below w5.heap.size w5 W6) := J5.out.trans (bb6.mono J5.out.size)
    refine hK.out _ _ ?_ (fun hHeld => ?_)
    · exact HX.out _ J6.out
    clear hK K bb6
    (try simp only [Act.put, List.setIfInBounds_toArray, List.set_cons_zero, List.set_cons_succ])
    refine wpAnyH_ready (rs := [23]) (by kernel_rfl) (by simp) ?_
    refine AllReadyH.cons (o := ⟨some 54, _, _, _, _, _⟩) rfl (fun K hK => ?_) AllReadyH.nil
    go_simp
    refine (TRs.out _ (HW.out _ J6.out).2.2.1).mono ?_
    rintro e' W7 ⟨rfl, bb7⟩
    have J7 : Hid (Below w5.heap.size w5 W7) := J6.out.trans (bb7.mono J6.out.size)
    refine hK.out _ _ ?_ (fun hHeld => ?_)
    · exact HX.out _ J7.out
    clear hK K bb7
    (try simp only [Act.put, List.setIfInBounds_toArray, List.set_cons_zero, List.set_cons_succ])
    refine wpAnyH_take (i := 24) (oi := ⟨some 55, _, _, _, _, _⟩) (v := ?_) rfl (by kernel_rfl) (by kernel_rfl) (by kernel_rfl) (fun _ _ _ h => h) (Or.inl ⟨by kernel_rfl, ?_⟩) (by assumption) ?_
    rotate_left
    · (intro w hSw; (try dsimp only at hSw); go_simp; try with_reducible rfl)
    (try simp only [Act.put, List.setIfInBounds_toArray, List.set_cons_zero, List.set_cons_succ])
    refine wpAnyH_take (i := 25) (oi := ⟨some 56, _, _, _, _, _⟩) (v := ?_) rfl (by kernel_rfl) (by kernel_rfl) (by kernel_rfl) (fun _ _ _ h => h) (Or.inl ⟨by kernel_rfl, ?_⟩) (by assumption) ?_
    rotate_left
    · (intro w hSw; (try dsimp only at hSw); go_simp; try with_reducible rfl)
    (try simp only [Act.put, List.setIfInBounds_toArray, List.set_cons_zero, List.set_cons_succ])
    refine wpAnyH_done (by kernel_rfl) ?_ _
    go_wp2_with fail
    go_meet
    case rel => exact ⟨by first | rfl | simp, J7.out⟩
  case rest =>
  obtain ⟨rfl, hcut⟩ := hcut
  have D6 : Hid (Below w5.heap.size w5 wc) := hcut
  clear hcut TSs' TCs TRi TRs TRc
  have HX6 : Hid (∀ V, Below wc.heap.size wc V → ((V.cell? ⟨w1.heap.size, 0, none⟩ = some (.int .i64 cser) ∧ V.cell? ⟨w1.heap.size, 1, none⟩ = some (.string ciss) ∧ V.cell? ⟨w1.heap.size, 2, none⟩ = some (.string csub) ∧ V.cell? ⟨w1.heap.size, 3, none⟩ = some (.int .i64 cfr) ∧ V.cell? ⟨w1.heap.size, 4, none⟩ = some (.int .i64 ctill) ∧ V.cell? ⟨w1.heap.size, 5, none⟩ = some (.int .i64 ckey) ∧ V.cell? ⟨w1.heap.size, 6, none⟩ = some (.slice va nl vc) ∧ V.cell? ⟨w1.heap.size, 7, none⟩ = some (.bool cca) ∧ V.cell? ⟨w1.heap.size, 8, none⟩ = some (.int .i64 csk) ∧ V.cell? ⟨w1.heap.size, 9, none⟩ = some (.int .i64 cse) ∧ V.cell? ⟨w1.heap.size, 10, none⟩ = some (.int .i64 css)) ∧ (V.cell? ⟨w3.heap.size, 0, none⟩ = some (.int .i64 rser) ∧ V.cell? ⟨w3.heap.size, 1, none⟩ = some (.string riss) ∧ V.cell? ⟨w3.heap.size, 2, none⟩ = some (.string rsub) ∧ V.cell? ⟨w3.heap.size, 3, none⟩ = some (.int .i64 rfr) ∧ V.cell? ⟨w3.heap.size, 4, none⟩ = some (.int .i64 rtill) ∧ V.cell? ⟨w3.heap.size, 5, none⟩ = some (.int .i64 rkey) ∧ V.cell? ⟨w3.heap.size, 6, none⟩ = some (.slice ra rl rc) ∧ V.cell? ⟨w3.heap.size, 7, none⟩ = some (.bool rca) ∧ V.cell? ⟨w3.heap.size, 8, none⟩ = some (.int .i64 rsk) ∧ V.cell? ⟨w3.heap.size, 9, none⟩ = some (.int .i64 rse) ∧ V.cell? ⟨w3.heap.size, 10, none⟩ = some (.int .i64 rss)))) := fun V hV => HX.out V (D6.out.trans (hV.mono D6.out.size))
  have HW6 : Hid (∀ V, Below wc.heap.size wc V → Below w.heap.size w V ∧ IsStrs V va cnames ∧ IsStrs V ra rnames) := fun V hV => ⟨(HW.out V (D6.out.trans (hV.mono D6.out.size))).1, (HW.out V (D6.out.trans (hV.mono D6.out.size))).2.2⟩
  clear HX HW D6
  obtain ⟨w6, hw6⟩ : ∃ y, y = wc := ⟨_, rfl⟩
  subst hw6
  go_upto_region 8 with fail
  go_cut [87] from 57 (fun s87 wx => s87 = .bool false ∧ Below w6.heap.size w6 wx)
  case first =>
    by_cases hz : rser = 0
    · have e0 : (rser != 0) = false := by simp [hz]
      clear TRr' HF
      have J0 : Hid (Below w6.heap.size w6 w6.drew) := (Below.refl _ _).drew
      refine wp_region_held_drew (S := fun V => ((V.cell? ⟨w1.heap.size, 0, none⟩ = some (.int .i64 cser) ∧ V.cell? ⟨w1.heap.size, 1, none⟩ = some (.string ciss) ∧ V.cell? ⟨w1.heap.size, 2, none⟩ = some (.string csub) ∧ V.cell? ⟨w1.heap.size, 3, none⟩ = some (.int .i64 cfr) ∧ V.cell? ⟨w1.heap.size, 4, none⟩ = some (.int .i64 ctill) ∧ V.cell? ⟨w1.heap.size, 5, none⟩ = some (.int .i64 ckey) ∧ V.cell? ⟨w1.heap.size, 6, none⟩ = some (.slice va nl vc) ∧ V.cell? ⟨w1.heap.size, 7, none⟩ = some (.bool cca) ∧ V.cell? ⟨w1.heap.size, 8, none⟩ = some (.int .i64 csk) ∧ V.cell? ⟨w1.heap.size, 9, none⟩ = some (.int .i64 cse) ∧ V.cell? ⟨w1.heap.size, 10, none⟩ = some (.int .i64 css)) ∧ (V.cell? ⟨w3.heap.size, 0, none⟩ = some (.int .i64 rser) ∧ V.cell? ⟨w3.heap.size, 1, none⟩ = some (.string riss) ∧ V.cell? ⟨w3.heap.size, 2, none⟩ = some (.string rsub) ∧ V.cell? ⟨w3.heap.size, 3, none⟩ = some (.int .i64 rfr) ∧ V.cell? ⟨w3.heap.size, 4, none⟩ = some (.int .i64 rtill) ∧ V.cell? ⟨w3.heap.size, 5, none⟩ = some (.int .i64 rkey) ∧ V.cell? ⟨w3.heap.size, 6, none⟩ = some (.slice ra rl rc) ∧ V.cell? ⟨w3.heap.size, 7, none⟩ = some (.bool rca) ∧ V.cell? ⟨w3.heap.size, 8, none⟩ = some (.int .i64 rsk) ∧ V.cell? ⟨w3.heap.size, 9, none⟩ = some (.int .i64 rse) ∧ V.cell? ⟨w3.heap.size, 10, none⟩ = some (.int .i64 rss)))) (by kernel_rfl) ?_ (fun hHeld => ?_)
      · exact HX6.out _ J0.out
      refine wpAnyH_take (i := 0) (oi := ⟨some 57, _, _, _, _, _⟩) (v := ?_) rfl (by kernel_rfl) (by kernel_rfl) (by kernel_rfl) (fun _ _ _ h => h) (Or.inl ⟨by kernel_rfl, ?_⟩) (by assumption) ?_
      rotate_left
      · (intro w hSw; (try dsimp only at hSw); go_simp; try with_reducible rfl)
      (try simp only [Act.put, List.setIfInBounds_toArray, List.set_cons_zero, List.set_cons_succ])
      refine wpAnyH_take (i := 1) (oi := ⟨some 58, _, _, _, _, _⟩) (v := ?_) rfl (by kernel_rfl) (by kernel_rfl) (by kernel_rfl) (fun _ _ _ h => h) (Or.inl ⟨by kernel_rfl, ?_⟩) (by assumption) ?_
      rotate_left
      · (intro w hSw; (try dsimp only at hSw); go_simp; try with_reducible rfl)
      (try simp only [Act.put, List.setIfInBounds_toArray, List.set_cons_zero, List.set_cons_succ])
      refine wpAnyH_take (i := 2) (oi := ⟨some 59, _, _, _, _, _⟩) (v := ?_) rfl (by kernel_rfl) (by kernel_rfl) (by kernel_rfl) (fun _ _ _ h => h) (Or.inl ⟨by kernel_rfl, ?_⟩) (by assumption) ?_
      rotate_left
      · (intro w hSw; (try dsimp only at hSw); go_simp; try with_reducible rfl)
      (try simp only [Act.put, List.setIfInBounds_toArray, List.set_cons_zero, List.set_cons_succ])
      refine wpAnyH_take (i := 3) (oi := ⟨some 60, _, _, _, _, _⟩) (v := ?_) rfl (by kernel_rfl) (by kernel_rfl) (by kernel_rfl) (fun _ _ _ h => h) (Or.inl ⟨by kernel_rfl, ?_⟩) (by assumption) ?_
      rotate_left
      · (intro w hSw; (try dsimp only at hSw); go_simp; try with_reducible rfl)
      (try simp only [Act.put, List.setIfInBounds_toArray, List.set_cons_zero, List.set_cons_succ])
      refine wpAnyH_take (i := 4) (oi := ⟨some 61, _, _, _, _, _⟩) (v := undef) rfl (by kernel_rfl) (by kernel_rfl) (by kernel_rfl) (fun _ _ _ h => h) (Or.inr ⟨by kernel_rfl, rfl⟩) (by assumption) ?_
      (try simp only [Act.put, List.setIfInBounds_toArray, List.set_cons_zero, List.set_cons_succ])
      refine wpAnyH_take (i := 5) (oi := ⟨some 62, _, _, _, _, _⟩) (v := undef) rfl (by kernel_rfl) (by kernel_rfl) (by kernel_rfl) (fun _ _ _ h => h) (Or.inr ⟨by kernel_rfl, rfl⟩) (by assumption) ?_
      (try simp only [Act.put, List.setIfInBounds_toArray, List.set_cons_zero, List.set_cons_succ])
      refine wpAnyH_take (i := 6) (oi := ⟨some 63, _, _, _, _, _⟩) (v := undef) rfl (by kernel_rfl) (by kernel_rfl) (by kernel_rfl) (fun _ _ _ h => h) (Or.inr ⟨by kernel_rfl, rfl⟩) (by assumption) ?_
      (try simp only [Act.put, List.setIfInBounds_toArray, List.set_cons_zero, List.set_cons_succ])
      refine wpAnyH_take (i := 7) (oi := ⟨some 64, _, _, _, _, _⟩) (v := undef) rfl (by kernel_rfl) (by kernel_rfl) (by kernel_rfl) (fun _ _ _ h => h) (Or.inr ⟨by kernel_rfl, rfl⟩) (by assumption) ?_
      (try simp only [Act.put, List.setIfInBounds_toArray, List.set_cons_zero, List.set_cons_succ])
      refine wpAnyH_take (i := 8) (oi := ⟨some 65, _, _, _, _, _⟩) (v := undef) rfl (by kernel_rfl) (by kernel_rfl) (by kernel_rfl) (fun _ _ _ h => h) (Or.inr ⟨by kernel_rfl, rfl⟩) (by assumption) ?_
      (try simp only [Act.put, List.setIfInBounds_toArray, List.set_cons_zero, List.set_cons_succ])
      refine wpAnyH_take (i := 9) (oi := ⟨some 66, _, _, _, _, _⟩) (v := undef) rfl (by kernel_rfl) (by kernel_rfl) (by kernel_rfl) (fun _ _ _ h => h) (Or.inr ⟨by kernel_rfl, rfl⟩) (by assumption) ?_
      (try simp only [Act.put, List.setIfInBounds_toArray, List.set_cons_zero, List.set_cons_succ])
      refine wpAnyH_take (i := 10) (oi := ⟨some 67, _, _, _, _, _⟩) (v := undef) rfl (by kernel_rfl) (by kernel_rfl) (by kernel_rfl) (fun _ _ _ h => h) (Or.inr ⟨by kernel_rfl, rfl⟩) (by assumption) ?_
      (try simp only [Act.put, List.setIfInBounds_toArray, List.set_cons_zero, List.set_cons_succ])
      refine wpAnyH_take (i := 11) (oi := ⟨some 68, _, _, _, _, _⟩) (v := undef) rfl (by kernel_rfl) (by kernel_rfl) (by kernel_rfl) (fun _ _ _ h => h) (Or.inr ⟨by kernel_rfl, rfl⟩) (by assumption) ?_
      (try simp only [Act.put, List.setIfInBounds_toArray, List.set_cons_zero, List.set_cons_succ])
      refine wpAnyH_take (i := 12) (oi := ⟨some 69, _, _, _, _, _⟩) (v := undef) rfl (by kernel_rfl) (by kernel_rfl) (by kernel_rfl) (fun _ _ _ h => h) (Or.inr ⟨by kernel_rfl, rfl⟩) (by assumption) ?_
      (try simp only [Act.put, List.setIfInBounds_toArray, List.set_cons_zero, List.set_cons_succ])
      refine wpAnyH_take (i := 13) (oi := ⟨some 70, _, _, _, _, _⟩) (v := undef) rfl (by kernel_rfl) (by kernel_rfl) (by kernel_rfl) (fun _ _ _ h => h) (Or.inr ⟨by kernel_rfl, rfl⟩) (by assumption) ?_
      (try simp only [Act.put, List.setIfInBounds_toArray, List.set_cons_zero, List.set_cons_succ])
      refine wpAnyH_take (i := 14) (oi := ⟨some 71, _, _, _, _, _⟩) (v := undef) rfl (by kernel_rfl) (by kernel_rfl) (by kernel_rfl) (fun _ _ _ h => h) (Or.inr ⟨by kernel_rfl, rfl⟩) (by assumption) ?_
      (try simp only [Act.put, List.setIfInBounds_toArray, List.set_cons_zero, List.set_cons_succ])
      refine wpAnyH_take (i := 15) (oi := ⟨some 72, _, _, _, _, _⟩) (v := undef) rfl (by kernel_rfl) (by kernel_rfl) (by kernel_rfl) (fun _ _ _ h => h) (Or.inr ⟨by kernel_rfl, rfl⟩) (by assumption) ?_
      (try simp only [Act.put, List.setIfInBounds_toArray, List.set_cons_zero, List.set_cons_succ])
      refine wpAnyH_take (i := 16) (oi := ⟨some 73, _, _, _, _, _⟩) (v := undef) rfl (by kernel_rfl) (by kernel_rfl) (by kernel_rfl) (fun _ _ _ h => h) (Or.inr ⟨by kernel_rfl, rfl⟩) (by assumption) ?_
      (try simp only [Act.put, List.setIfInBounds_toArray, List.set_cons_zero, List.set_cons_succ])
      refine wpAnyH_take (i := 17) (oi := ⟨some 74, _, _, _, _, _⟩) (v := undef) rfl (by kernel_rfl) (by kernel_rfl) (by kernel_rfl) (fun _ _ _ h => h) (Or.inr ⟨by kernel_rfl, rfl⟩) (by assumption) ?_
      (try simp only [Act.put, List.setIfInBounds_toArray, List.set_cons_zero, List.set_cons_succ])
      refine wpAnyH_take (i := 18) (oi := ⟨some 75, _, _, _, _, _⟩) (v := undef) rfl (by kernel_rfl) (by kernel_rfl) (by kernel_rfl) (fun _ _ _ h => h) (Or.inr ⟨by kernel_rfl, rfl⟩) (by assumption) ?_
      (try simp only [Act.put, List.setIfInBounds_toArray, List.set_cons_zero, List.set_cons_succ])
      refine wpAnyH_take (i := 19) (oi := ⟨some 76, _, _, _, _, _⟩) (v := undef) rfl (by kernel_rfl) (by kernel_rfl) (by kernel_rfl) (fun _ _ _ h => h) (Or.inr ⟨by kernel_rfl, rfl⟩) (by assumption) ?_
      (try simp only [Act.put, List.setIfInBounds_toArray, List.set_cons_zero, List.set_cons_succ])
      refine wpAnyH_take (i := 20) (oi := ⟨some 77, _, _, _, _, _⟩) (v := undef) rfl (by kernel_rfl) (by kernel_rfl) (by kernel_rfl) (fun _ _ _ h => h) (Or.inr ⟨by kernel_rfl, rfl⟩) (by assumption) ?_
      (try simp only [Act.put, List.setIfInBounds_toArray, List.set_cons_zero, List.set_cons_succ])
      refine wpAnyH_take (i := 21) (oi := ⟨some 78, _, _, _, _, _⟩) (v := undef) rfl (by kernel_rfl) (by kernel_rfl) (by kernel_rfl) (fun _ _ _ h => h) (Or.inr ⟨by kernel_rfl, rfl⟩) (by assumption) ?_
      (try simp only [Act.put, List.setIfInBounds_toArray, List.set_cons_zero, List.set_cons_succ])
      refine wpAnyH_take (i := 22) (oi := ⟨some 79, _, _, _, _, _⟩) (v := undef) rfl (by kernel_rfl) (by kernel_rfl) (by kernel_rfl) (fun _ _ _ h => h) (Or.inr ⟨by kernel_rfl, rfl⟩) (by assumption) ?_
      (try simp only [Act.put, List.setIfInBounds_toArray, List.set_cons_zero, List.set_cons_succ])
      refine wpAnyH_take (i := 23) (oi := ⟨some 80, _, _, _, _, _⟩) (v := undef) rfl (by kernel_rfl) (by kernel_rfl) (by kernel_rfl) (fun _ _ _ h => h) (Or.inr ⟨by kernel_rfl, rfl⟩) (by assumption) ?_
      (try simp only [Act.put, List.setIfInBounds_toArray, List.set_cons_zero, List.set_cons_succ])
      refine wpAnyH_take (i := 24) (oi := ⟨some 81, _, _, _, _, _⟩) (v := undef) rfl (by kernel_rfl) (by kernel_rfl) (by kernel_rfl) (fun _ _ _ h => h) (Or.inr ⟨by kernel_rfl, rfl⟩) (by assumption) ?_
      (try simp only [Act.put, List.setIfInBounds_toArray, List.set_cons_zero, List.set_cons_succ])
      refine wpAnyH_take (i := 25) (oi := ⟨some 82, _, _, _, _, _⟩) (v := undef) rfl (by kernel_rfl) (by kernel_rfl) (by kernel_rfl) (fun _ _ _ h => h) (Or.inr ⟨by kernel_rfl, rfl⟩) (by assumption) ?_
      (try simp only [Act.put, List.setIfInBounds_toArray, List.set_cons_zero, List.set_cons_succ])
      refine wpAnyH_take (i := 26) (oi := ⟨some 83, _, _, _, _, _⟩) (v := undef) rfl (by kernel_rfl) (by kernel_rfl) (by kernel_rfl) (fun _ _ _ h => h) (Or.inr ⟨by kernel_rfl, rfl⟩) (by assumption) ?_
      (try simp only [Act.put, List.setIfInBounds_toArray, List.set_cons_zero, List.set_cons_succ])
      refine wpAnyH_take (i := 27) (oi := ⟨some 84, _, _, _, _, _⟩) (v := undef) rfl (by kernel_rfl) (by kernel_rfl) (by kernel_rfl) (fun _ _ _ h => h) (Or.inr ⟨by kernel_rfl, rfl⟩) (by assumption) ?_
      (try simp only [Act.put, List.setIfInBounds_toArray, List.set_cons_zero, List.set_cons_succ])
      refine wpAnyH_take (i := 28) (oi := ⟨some 85, _, _, _, _, _⟩) (v := undef) rfl (by kernel_rfl) (by kernel_rfl) (by kernel_rfl) (fun _ _ _ h => h) (Or.inr ⟨by kernel_rfl, rfl⟩) (by assumption) ?_
      (try simp only [Act.put, List.setIfInBounds_toArray, List.set_cons_zero, List.set_cons_succ])
      refine wpAnyH_take (i := 29) (oi := ⟨some 86, _, _, _, _, _⟩) (v := undef) rfl (by kernel_rfl) (by kernel_rfl) (by kernel_rfl) (fun _ _ _ h => h) (Or.inr ⟨by kernel_rfl, rfl⟩) (by assumption) ?_
      (try simp only [Act.put, List.setIfInBounds_toArray, List.set_cons_zero, List.set_cons_succ])
      refine wpAnyH_take (i := 30) (oi := ⟨some 87, _, _, _, _, _⟩) (v := ?_) rfl (by kernel_rfl) (by kernel_rfl) (by kernel_rfl) (fun _ _ _ h => h) (Or.inl ⟨by kernel_rfl, ?_⟩) (by assumption) ?_
      rotate_left
      · (intro w hSw; (try dsimp only at hSw); go_simp; try with_reducible rfl)
      (try simp only [Act.put, List.setIfInBounds_toArray, List.set_cons_zero, List.set_cons_succ])
      refine wpAnyH_done (by kernel_rfl) ?_ _
      go_wp2_with fail
      go_meet
      case rel => exact ⟨by first | rfl | simp, J0.out⟩
    · have e0 : (rser != 0) = true := by simp [hz]
      obtain ⟨rfl, rfl⟩ := HF.out hz
      have TQ := TRr'.out hz
      have TRq : Hid _ := TQ
      have f1 : ∀ (v : Value) (W : World), (Instr.field 37 (.agg #[.int .i64 rser, .string riss, .string rsub, .int .i64 rfr, .int .i64 rtill, .int .i64 rkey, v, .bool rca, .int .i64 rsk, .int .i64 rse, .int .i64 rss, .int .i64 0]) 1).run Tryz.prog W = .ok (.int .i64 0) W := fun v W => by kernel_rfl
      have f0 : ∀ (v : Value) (W : World), (Instr.field 37 (.agg #[.int .i64 rser, .string riss, .string rsub, .int .i64 rfr, .int .i64 rtill, .int .i64 rkey, v, .bool rca, .int .i64 rsk, .int .i64 rse, .int .i64 rss, .int .i64 0]) 0).run Tryz.prog W = .ok (.agg #[.int .i64 rser, .string riss, .string rsub, .int .i64 rfr, .int .i64 rtill, .int .i64 rkey, v, .bool rca, .int .i64 rsk, .int .i64 rse, .int .i64 rss]) W := fun v W => by kernel_rfl
      clear TQ TRr' HF
      have J0 : Hid (Below w6.heap.size w6 w6.drew) := (Below.refl _ _).drew
      refine wp_region_held_drew (S := fun V => ((V.cell? ⟨w1.heap.size, 0, none⟩ = some (.int .i64 cser) ∧ V.cell? ⟨w1.heap.size, 1, none⟩ = some (.string ciss) ∧ V.cell? ⟨w1.heap.size, 2, none⟩ = some (.string csub) ∧ V.cell? ⟨w1.heap.size, 3, none⟩ = some (.int .i64 cfr) ∧ V.cell? ⟨w1.heap.size, 4, none⟩ = some (.int .i64 ctill) ∧ V.cell? ⟨w1.heap.size, 5, none⟩ = some (.int .i64 ckey) ∧ V.cell? ⟨w1.heap.size, 6, none⟩ = some (.slice va nl vc) ∧ V.cell? ⟨w1.heap.size, 7, none⟩ = some (.bool cca) ∧ V.cell? ⟨w1.heap.size, 8, none⟩ = some (.int .i64 csk) ∧ V.cell? ⟨w1.heap.size, 9, none⟩ = some (.int .i64 cse) ∧ V.cell? ⟨w1.heap.size, 10, none⟩ = some (.int .i64 css)) ∧ (V.cell? ⟨w3.heap.size, 0, none⟩ = some (.int .i64 rser) ∧ V.cell? ⟨w3.heap.size, 1, none⟩ = some (.string riss) ∧ V.cell? ⟨w3.heap.size, 2, none⟩ = some (.string rsub) ∧ V.cell? ⟨w3.heap.size, 3, none⟩ = some (.int .i64 rfr) ∧ V.cell? ⟨w3.heap.size, 4, none⟩ = some (.int .i64 rtill) ∧ V.cell? ⟨w3.heap.size, 5, none⟩ = some (.int .i64 rkey) ∧ V.cell? ⟨w3.heap.size, 6, none⟩ = some (.slice ra rl rc) ∧ V.cell? ⟨w3.heap.size, 7, none⟩ = some (.bool rca) ∧ V.cell? ⟨w3.heap.size, 8, none⟩ = some (.int .i64 rsk) ∧ V.cell? ⟨w3.heap.size, 9, none⟩ = some (.int .i64 rse) ∧ V.cell? ⟨w3.heap.size, 10, none⟩ = some (.int .i64 rss)))) (by kernel_rfl) ?_ (fun hHeld => ?_)
      · exact HX6.out _ J0.out
      refine wpAnyH_take (i := 0) (oi := ⟨some 57, _, _, _, _, _⟩) (v := ?_) rfl (by kernel_rfl) (by kernel_rfl) (by kernel_rfl) (fun _ _ _ h => h) (Or.inl ⟨by kernel_rfl, ?_⟩) (by assumption) ?_
      rotate_left
      · (intro w hSw; (try dsimp only at hSw); go_simp; try with_reducible rfl)
      (try simp only [Act.put, List.setIfInBounds_toArray, List.set_cons_zero, List.set_cons_succ])
      refine wpAnyH_take (i := 1) (oi := ⟨some 58, _, _, _, _, _⟩) (v := ?_) rfl (by kernel_rfl) (by kernel_rfl) (by kernel_rfl) (fun _ _ _ h => h) (Or.inl ⟨by kernel_rfl, ?_⟩) (by assumption) ?_
      rotate_left
      · (intro w hSw; (try dsimp only at hSw); go_simp; try with_reducible rfl)
      (try simp only [Act.put, List.setIfInBounds_toArray, List.set_cons_zero, List.set_cons_succ])
      refine wpAnyH_take (i := 2) (oi := ⟨some 59, _, _, _, _, _⟩) (v := ?_) rfl (by kernel_rfl) (by kernel_rfl) (by kernel_rfl) (fun _ _ _ h => h) (Or.inl ⟨by kernel_rfl, ?_⟩) (by assumption) ?_
      rotate_left
      · (intro w hSw; (try dsimp only at hSw); go_simp; try with_reducible rfl)
      (try simp only [Act.put, List.setIfInBounds_toArray, List.set_cons_zero, List.set_cons_succ])
      refine wpAnyH_take (i := 3) (oi := ⟨some 60, _, _, _, _, _⟩) (v := ?_) rfl (by kernel_rfl) (by kernel_rfl) (by kernel_rfl) (fun _ _ _ h => h) (Or.inl ⟨by kernel_rfl, ?_⟩) (by assumption) ?_
      rotate_left
      · (intro w hSw; (try dsimp only at hSw); go_simp; try with_reducible rfl)
      (try simp only [Act.put, List.setIfInBounds_toArray, List.set_cons_zero, List.set_cons_succ])
      refine wpAnyH_take (i := 4) (oi := ⟨some 61, _, _, _, _, _⟩) (v := ?_) rfl (by kernel_rfl) (by kernel_rfl) (by kernel_rfl) (fun _ _ _ h => h) (Or.inl ⟨by kernel_rfl, ?_⟩) (by assumption) ?_
      rotate_left
      · (intro w hSw; (try dsimp only at hSw); go_simp; try with_reducible rfl)
      (try simp only [Act.put, List.setIfInBounds_toArray, List.set_cons_zero, List.set_cons_succ])
      refine wpAnyH_take (i := 6) (oi := ⟨some 63, _, _, _, _, _⟩) (v := ?_) rfl (by kernel_rfl) (by kernel_rfl) (by kernel_rfl) (fun _ _ _ h => h) (Or.inl ⟨by kernel_rfl, ?_⟩) (by assumption) ?_
      rotate_left
      · (intro w hSw; (try dsimp only at hSw); go_simp; try with_reducible rfl)
      (try simp only [Act.put, List.setIfInBounds_toArray, List.set_cons_zero, List.set_cons_succ])
      refine wpAnyH_ready (rs := [5]) (by kernel_rfl) (by simp) ?_
      refine AllReadyH.cons (o := ⟨some 62, _, _, _, _, _⟩) rfl (fun K hK => ?_) AllReadyH.nil
      go_simp
      refine (HPk.out _).mono ?_
      rintro e' W1 ⟨rfl, bb1⟩
      have J1 : Hid (Below w6.heap.size w6 W1) := J0.out.trans (bb1.mono J0.out.size)
      refine hK.out _ _ ?_ (fun hHeld => ?_)
      · exact HX6.out _ J1.out
      clear hK K bb1
      (try simp only [Act.put, List.setIfInBounds_toArray, List.set_cons_zero, List.set_cons_succ])
      refine wpAnyH_ready (rs := [7]) (by kernel_rfl) (by simp) ?_
      refine AllReadyH.cons (o := ⟨some 64, _, _, _, _, _⟩) rfl (fun K hK => ?_) AllReadyH.nil
      go_simp
      refine (TRg.out _ ra rc (HKE.out _ (HW6.out _ J1.out).1).1 (HW6.out _ J1.out).2.2).mono ?_
      rintro e' W2 ⟨rfl, bb2⟩
      have J2 : Hid (Below w6.heap.size w6 W2) := J1.out.trans (bb2.mono J1.out.size)
      refine hK.out _ _ ?_ (fun hHeld => ?_)
      · exact HX6.out _ J2.out
      clear hK K bb2
      (try simp only [Act.put, List.setIfInBounds_toArray, List.set_cons_zero, List.set_cons_succ])
      refine wpAnyH_take (i := 8) (oi := ⟨some 65, _, _, _, _, _⟩) (v := ?_) rfl (by kernel_rfl) (by kernel_rfl) (by kernel_rfl) (fun _ _ _ h => h) (Or.inl ⟨by kernel_rfl, ?_⟩) (by assumption) ?_
      rotate_left
      · (intro w hSw; (try dsimp only at hSw); go_simp; try with_reducible rfl)
      (try simp only [Act.put, List.setIfInBounds_toArray, List.set_cons_zero, List.set_cons_succ])
      refine wpAnyH_take (i := 9) (oi := ⟨some 66, _, _, _, _, _⟩) (v := ?_) rfl (by kernel_rfl) (by kernel_rfl) (by kernel_rfl) (fun _ _ _ h => h) (Or.inl ⟨by kernel_rfl, ?_⟩) (by assumption) ?_
      rotate_left
      · (intro w hSw; (try dsimp only at hSw); go_simp; try with_reducible rfl)
      (try simp only [Act.put, List.setIfInBounds_toArray, List.set_cons_zero, List.set_cons_succ])
      refine wpAnyH_take (i := 10) (oi := ⟨some 67, _, _, _, _, _⟩) (v := ?_) rfl (by kernel_rfl) (by kernel_rfl) (by kernel_rfl) (fun _ _ _ h => h) (Or.inl ⟨by kernel_rfl, ?_⟩) (by assumption) ?_
      rotate_left
      · (intro w hSw; (try dsimp only at hSw); go_simp; try with_reducible rfl)
      (try simp only [Act.put, List.setIfInBounds_toArray, List.set_cons_zero, List.set_cons_succ])
      refine wpAnyH_ready (rs := [11]) (by kernel_rfl) (by simp) ?_
      refine AllReadyH.cons (o := ⟨some 68, _, _, _, _, _⟩) rfl (fun K hK => ?_) AllReadyH.nil
      go_simp
      refine (TRq.out _ (HKE.out _ (HW6.out _ J2.out).1).2).mono ?_
      rintro e' W3 ⟨a3, c3, rfl, i3, bb3⟩
      have J3 : Hid (Below w6.heap.size w6 W3) := J2.out.trans (bb3.mono J2.out.size)
      refine hK.out _ _ ?_ (fun hHeld => ?_)
      · exact HX6.out _ J3.out
      clear hK K bb3
      (try simp only [Act.put, List.setIfInBounds_toArray, List.set_cons_zero, List.set_cons_succ])
      refine wpAnyH_take (i := 12) (oi := ⟨some 69, _, _, _, _, _⟩) (v := ?_) rfl (by kernel_rfl) (by kernel_rfl) (by kernel_rfl) (fun _ _ _ h => h) (Or.inl ⟨by kernel_rfl, ?_⟩) (by assumption) ?_
      rotate_left
      · (intro w hSw; (try dsimp only at hSw); go_simp; try with_reducible rfl)
      (try simp only [Act.put, List.setIfInBounds_toArray, List.set_cons_zero, List.set_cons_succ])
      refine wpAnyH_take (i := 13) (oi := ⟨some 70, _, _, _, _, _⟩) (v := ?_) rfl (by kernel_rfl) (by kernel_rfl) (by kernel_rfl) (fun _ _ _ h => h) (Or.inl ⟨by kernel_rfl, ?_⟩) (by assumption) ?_
      rotate_left
      · (intro w hSw; (try dsimp only at hSw); go_simp; try with_reducible rfl)
      (try simp only [Act.put, List.setIfInBounds_toArray, List.set_cons_zero, List.set_cons_succ])
      refine wpAnyH_take (i := 14) (oi := ⟨some 71, _, _, _, _, _⟩) (v := ?_) rfl (by kernel_rfl) (by kernel_rfl) (by kernel_rfl) (fun _ _ _ h => h) (Or.inl ⟨by kernel_rfl, ?_⟩) (by assumption) ?_
      rotate_left
      · (intro w hSw; (try dsimp only at hSw); go_simp; try with_reducible rfl)
      (try simp only [Act.put, List.setIfInBounds_toArray, List.set_cons_zero, List.set_cons_succ])
      refine wpAnyH_take (i := 15) (oi := ⟨some 72, _, _, _, _, _⟩) (v := ?_) rfl (by kernel_rfl) (by kernel_rfl) (by kernel_rfl) (fun _ _ _ h => h) (Or.inl ⟨by kernel_rfl, ?_⟩) (by assumption) ?_
      rotate_left
      · (intro w hSw; (try dsimp only at hSw); go_simp; try with_reducible rfl)
      (try simp only [Act.put, List.setIfInBounds_toArray, List.set_cons_zero, List.set_cons_succ])
      refine wpAnyH_take (i := 16) (oi := ⟨some 73, _, _, _, _, _⟩) (v := ?_) rfl (by kernel_rfl) (by kernel_rfl) (by kernel_rfl) (fun _ _ _ h => h) (Or.inl ⟨by kernel_rfl, ?_⟩) (by assumption) ?_
      rotate_left
      · (intro w hSw; (try dsimp only at hSw); go_simp; try with_reducible rfl)
      (try simp only [Act.put, List.setIfInBounds_toArray, List.set_cons_zero, List.set_cons_succ])
      refine wpAnyH_take (i := 19) (oi := ⟨some 76, _, _, _, _, _⟩) (v := ?_) rfl (by kernel_rfl) (by kernel_rfl) (by kernel_rfl) (fun _ _ _ h => h) (Or.inl ⟨by kernel_rfl, ?_⟩) (by assumption) ?_
      rotate_left
      · (intro w hSw; (try dsimp only at hSw); go_simp; try with_reducible rfl)
      (try simp only [Act.put, List.setIfInBounds_toArray, List.set_cons_zero, List.set_cons_succ])
      refine wpAnyH_ready (rs := [17]) (by kernel_rfl) (by simp) ?_
      refine AllReadyH.cons (o := ⟨some 74, _, _, _, _, _⟩) rfl (fun K hK => ?_) AllReadyH.nil
      go_simp
      refine (TRq.out _ (HKE.out _ (HW6.out _ J3.out).1).2).mono ?_
      rintro e' W4 ⟨a4, c4, rfl, i4, bb4⟩
      have J4 : Hid (Below w6.heap.size w6 W4) := J3.out.trans (bb4.mono J3.out.size)
      refine hK.out _ _ ?_ (fun hHeld => ?_)
      · exact HX6.out _ J4.out
      clear hK K bb4
      (try simp only [Act.put, List.setIfInBounds_toArray, List.set_cons_zero, List.set_cons_succ])
      refine wpAnyH_take (i := 18) (oi := ⟨some 75, _, _, _, _, _⟩) (v := ?_) rfl (by kernel_rfl) (by kernel_rfl) (by kernel_rfl) (fun _ _ _ h => h) (Or.inl ⟨by kernel_rfl, ?_⟩) (by assumption) ?_
      rotate_left
      · (intro w hSw; (try dsimp only at hSw); go_simp; try with_reducible rfl)
      (try simp only [Act.put, List.setIfInBounds_toArray, List.set_cons_zero, List.set_cons_succ])
      refine wpAnyH_ready (rs := [20]) (by kernel_rfl) (by simp) ?_
      refine AllReadyH.cons (o := ⟨some 77, _, _, _, _, _⟩) rfl (fun K hK => ?_) AllReadyH.nil
      go_simp
      refine (TRl.out _ a4 ra c4 rc i4 (HW6.out _ J4.out).2.2).mono ?_
      rintro e' W5 ⟨rfl, bb5⟩
      have J5 : Hid (Below w6.heap.size w6 W5) := J4.out.trans (bb5.mono J4.out.size)
      refine hK.out _ _ ?_ (fun hHeld => ?_)
      · exact HX6.out _ J5.out
      clear hK K bb5
      (try simp only [Act.put, List.setIfInBounds_toArray, List.set_cons_zero, List.set_cons_succ])
      refine wpAnyH_take (i := 21) (oi := ⟨some 78, _, _, _, _, _⟩) (v := ?_) rfl (by kernel_rfl) (by kernel_rfl) (by kernel_rfl) (fun _ _ _ h => h) (Or.inl ⟨by kernel_rfl, ?_⟩) (by assumption) ?_
      rotate_left
      · (intro w hSw; (try dsimp only at hSw); go_simp; try with_reducible rfl)
      (try simp only [Act.put, List.setIfInBounds_toArray, List.set_cons_zero, List.set_cons_succ])
      refine wpAnyH_take (i := 22) (oi := ⟨some 79, _, _, _, _, _⟩) (v := ?_) rfl (by kernel_rfl) (by kernel_rfl) (by kernel_rfl) (fun _ _ _ h => h) (Or.inl ⟨by kernel_rfl, ?_⟩) (by assumption) ?_
      rotate_left
      · (intro w hSw; (try dsimp only at hSw); go_simp; try with_reducible rfl)
      (try simp only [Act.put, List.setIfInBounds_toArray, List.set_cons_zero, List.set_cons_succ])
      refine wpAnyH_take (i := 23) (oi := ⟨some 80, _, _, _, _, _⟩) (v := ?_) rfl (by kernel_rfl) (by kernel_rfl) (by kernel_rfl) (fun _ _ _ h => h) (Or.inl ⟨by kernel_rfl, ?_⟩) (by assumption) ?_
      rotate_left
      · (intro w hSw; (try dsimp only at hSw); go_simp; try with_reducible rfl)
      (try simp only [Act.put, List.setIfInBounds_toArray, List.set_cons_zero, List.set_cons_succ])
      refine wpAnyH_take (i := 24) (oi := ⟨some 81, _, _, _, _, _⟩) (v := ?_) rfl (by kernel_rfl) (by kernel_rfl) (by kernel_rfl) (fun _ _ _ h => h) (Or.inl ⟨by kernel_rfl, ?_⟩) (by assumption) ?_
      rotate_left
      · (intro w hSw; (try dsimp only at hSw); go_simp; try with_reducible rfl)
      (try simp only [Act.put, List.setIfInBounds_toArray, List.set_cons_zero, List.set_cons_succ])
      refine wpAnyH_take (i := 26) (oi := ⟨some 83, _, _, _, _, _⟩) (v := ?_) rfl (by kernel_rfl) (by kernel_rfl) (by kernel_rfl) (fun _ _ _ h => h) (Or.inl ⟨by kernel_rfl, ?_⟩) (by assumption) ?_
      rotate_left
      · (intro w hSw; (try dsimp only at hSw); go_simp; try with_reducible rfl)
      (try simp only [Act.put, List.setIfInBounds_toArray, List.set_cons_zero, List.set_cons_succ])
      refine wpAnyH_ready (rs := [25]) (by kernel_rfl) (by simp) ?_
      refine AllReadyH.cons (o := ⟨some 82, _, _, _, _, _⟩) rfl (fun K hK => ?_) AllReadyH.nil
      go_simp
      refine (TRd.out _ ra rc (HW6.out _ J5.out).2.2).mono ?_
      rintro e' W6 ⟨rfl, bb6⟩
      have J6 : Hid (Below w6.heap.size w6 W6) := J5.out.trans (bb6.mono J5.out.size)
      refine hK.out _ _ ?_ (fun hHeld => ?_)
      · exact HX6.out _ J6.out
      clear hK K bb6
      (try simp only [Act.put, List.setIfInBounds_toArray, List.set_cons_zero, List.set_cons_succ])
      refine wpAnyH_ready (rs := [27]) (by kernel_rfl) (by simp) ?_
      refine AllReadyH.cons (o := ⟨some 84, _, _, _, _, _⟩) rfl (fun K hK => ?_) AllReadyH.nil
      go_simp
      refine (TCb.out _ (HW6.out _ J6.out).2.1).mono ?_
      rintro e' W7 ⟨rfl, bb7⟩
      have J7 : Hid (Below w6.heap.size w6 W7) := J6.out.trans (bb7.mono J6.out.size)
      refine hK.out _ _ ?_ (fun hHeld => ?_)
      · exact HX6.out _ J7.out
      clear hK K bb7
      (try simp only [Act.put, List.setIfInBounds_toArray, List.set_cons_zero, List.set_cons_succ])
      refine wpAnyH_take (i := 28) (oi := ⟨some 85, _, _, _, _, _⟩) (v := ?_) rfl (by kernel_rfl) (by kernel_rfl) (by kernel_rfl) (fun _ _ _ h => h) (Or.inl ⟨by kernel_rfl, ?_⟩) (by assumption) ?_
      rotate_left
      · (intro w hSw; (try dsimp only at hSw); go_simp; try with_reducible rfl)
      (try simp only [Act.put, List.setIfInBounds_toArray, List.set_cons_zero, List.set_cons_succ])
      refine wpAnyH_take (i := 29) (oi := ⟨some 86, _, _, _, _, _⟩) (v := ?_) rfl (by kernel_rfl) (by kernel_rfl) (by kernel_rfl) (fun _ _ _ h => h) (Or.inl ⟨by kernel_rfl, ?_⟩) (by assumption) ?_
      rotate_left
      · (intro w hSw; (try dsimp only at hSw); go_simp; try with_reducible rfl)
      (try simp only [Act.put, List.setIfInBounds_toArray, List.set_cons_zero, List.set_cons_succ])
      refine wpAnyH_take (i := 30) (oi := ⟨some 87, _, _, _, _, _⟩) (v := ?_) rfl (by kernel_rfl) (by kernel_rfl) (by kernel_rfl) (fun _ _ _ h => h) (Or.inl ⟨by kernel_rfl, ?_⟩) (by assumption) ?_
      rotate_left
      · (intro w hSw; (try dsimp only at hSw); go_simp; try with_reducible rfl)
      (try simp only [Act.put, List.setIfInBounds_toArray, List.set_cons_zero, List.set_cons_succ])
      refine wpAnyH_done (by kernel_rfl) ?_ _
      go_wp2_with fail
      go_meet
      case rel => exact ⟨by first | rfl | simp, J7.out⟩
  case rest =>
  obtain ⟨rfl, hcut⟩ := hcut
  have B7 : Hid (Below w.heap.size w wc) := (HW6.out _ hcut).1
  clear hcut HX6 HW6 TRr' HF TCb TRd TRg TRl HPk HNl HRl
  go_wp2_with fail
  refine (drawCertRead a1 len1 cap1 _ (by omega) (HC1.out _ B7.out) (HB1.out _ B7.out)).mono ?_
  rintro e' w8 ⟨⟨u, hu, rfl⟩, b8⟩
  have B8 : Hid (Below w.heap.size w w8) := B7.out.trans (b8.mono B7.out.size)
  clear b8 B7
  have hum : u.size ≤ maxLen := by unfold maxLen; omega
  have htold : (certS u).2 = 0 → certBytesD (certS u).1 = u := certS_told
  have TYi : Hid (∀ V, ErrType V → Calls Tryz.prog 17 #[.string u] V fun e w' => ∃ v, e = .returned (certV (certS u).1 v (certS u).2) ∧ OwnS w' V.heap.size v (certS u).1.names ∧ Below V.heap.size V w') := fun V hE => by have q := implCertRead u V hum hE; rw [certR_eq] at q; exact q
  have TYs : Hid (∀ V, Calls Tryz.prog 20 #[.string u] V fun e w' => ∃ v, e = .returned (certV (certS u).1 v (certS u).2) ∧ OwnS w' V.heap.size v (certS u).1.names ∧ Below V.heap.size V w') := fun V => specCertRead u V
  have hys := @certS_sizes u
  generalize certS u = Y at *
  obtain ⟨⟨yser, yiss, ysub, yfr, ytill, ykey, ynames, yca, ysk, yse, yss⟩, yc⟩ := Y
  unfold certV at TYi TYs
  simp only at TYi TYs htold hys
  have TYb : Hid (yc = 0 → ∀ V a c, IsStrs V a ynames → Calls Tryz.prog 7 #[.agg #[.int .i64 yser, .string yiss, .string ysub, .int .i64 yfr, .int .i64 ytill, .int .i64 ykey, .slice a ynames.length c, .bool yca, .int .i64 ysk, .int .i64 yse, .int .i64 yss]] V fun e w' => e = .returned (.string u) ∧ Below V.heap.size V w') := fun h V a c hV => by
    obtain ⟨k1, k2, k3, k4⟩ := hys h
    have q := implCertBytes ⟨yser, yiss, ysub, yfr, ytill, ykey, ynames, yca, ysk, yse, yss⟩ a c V (by show yiss.size ≤ maxLen; unfold maxLen; omega) (by show ysub.size ≤ maxLen; unfold maxLen; omega) k3 k4 hV
    rw [htold h] at q
    exact q
  clear htold hys hum hu
  go_wp2_with fail
  refine (TYi.out _ (HKE.out _ B8.out).2).mono ?_
  rintro e' w9 ⟨v9, rfl, o9, b9⟩
  obtain ⟨ya, yz, rfl, _⟩ := o9.form
  obtain ⟨yl, hyl⟩ : ∃ n, n = ynames.length := ⟨_, rfl⟩
  rw [← hyl] at o9 TYb ⊢
  clear hyl
  have iy9 := o9.strs
  obtain ⟨w10, hw10⟩ : ∃ y, y = w9.alloc (.cells [Value.int .i64 yser, .string yiss, .string ysub, .int .i64 yfr, .int .i64 ytill, .int .i64 ykey, .slice ya yl yz, .bool yca, .int .i64 ysk, .int .i64 yse, .int .i64 yss, .int .i64 yc].toArray 37 (0, 0)) := ⟨_, rfl⟩
  have b10 : Below w9.heap.size w9 w10 := by rw [hw10]; exact (Below.refl _ _).alloc (Nat.le_refl _) _
  have RY10 : Hid (w10.heap[w9.heap.size]? = some (.cells [Value.int .i64 yser, .string yiss, .string ysub, .int .i64 yfr, .int .i64 ytill, .int .i64 ykey, .slice ya yl yz, .bool yca, .int .i64 ysk, .int .i64 yse, .int .i64 yss, .int .i64 yc].toArray 37 (0, 0))) := by rw [hw10]; exact heap_alloc_new w9 _
  have IY10 : Hid (IsStrs w10 ya ynames) := iy9.keep b10
  have B10 : Hid (Below w.heap.size w w10) := (B8.out.trans (b9.mono B8.out.size)).trans (b10.mono (Nat.le_trans B8.out.size b9.size))
  clear b9 b10 iy9 o9 B8 TYi
  go_upto_region 12 with fail
  rw [← hw10]
  clear hw10
  go_wp2_with fail
  refine (drawCertGood a1 len1 cap1 _ (by omega) (HC1.out _ B10.out) (HB1.out _ B10.out)).mono ?_
  rintro e' w11 ⟨⟨key, dser, diss, dsub, dfr, dtill, dkey, dnames, dca, dsk, dse, dss, da, dl, dz, rfl, hxk, hdl, hod, hmd, hnd⟩, b11⟩
  obtain ⟨w12, hw12⟩ : ∃ y, y = w11.alloc (.cells [Value.int .i64 dser, .string diss, .string dsub, .int .i64 dfr, .int .i64 dtill, .int .i64 dkey, .slice da dl dz, .bool dca, .int .i64 dsk, .int .i64 dse, .int .i64 dss].toArray 27 (0, 0)) := ⟨_, rfl⟩
  have b12 : Below w11.heap.size w11 w12 := by rw [hw12]; exact (Below.refl _ _).alloc (Nat.le_refl _) _
  have RD12 : Hid (w12.heap[w11.heap.size]? = some (.cells [Value.int .i64 dser, .string diss, .string dsub, .int .i64 dfr, .int .i64 dtill, .int .i64 dkey, .slice da dl dz, .bool dca, .int .i64 dsk, .int .i64 dse, .int .i64 dss].toArray 27 (0, 0))) := by rw [hw12]; exact heap_alloc_new w11 _
  have E12 : Below w10.heap.size w10 w12 := b11.trans (b12.mono b11.size)
  have RY12 : Hid (w12.heap[w9.heap.size]? = some (.cells [Value.int .i64 yser, .string yiss, .string ysub, .int .i64 yfr, .int .i64 ytill, .int .i64 ykey, .slice ya yl yz, .bool yca, .int .i64 ysk, .int .i64 yse, .int .i64 yss, .int .i64 yc].toArray 37 (0, 0))) := by show _ = _; rw [E12.block _ (heap_lt RY10.out)]; exact RY10.out
  have IY12 : Hid (IsStrs w12 ya ynames) := IY10.out.keep E12
  have ID12 : Hid (IsStrs w12 da dnames) := hod.strs.keep b12
  have B12 : Hid (Below w.heap.size w w12) := B10.out.trans (E12.mono B10.out.size)
  have diss' := hmd.iss
  have dsub' := hmd.sub
  have dlen' := hmd.len
  have dtot' := hmd.tot
  simp only at diss' dsub' dlen' dtot'
  have TGi : Hid (∀ V, Keys V → IsStrs V da dnames → Calls Tryz.prog 15 #[.int .i64 key, .agg #[.int .i64 dser, .string diss, .string dsub, .int .i64 dfr, .int .i64 dtill, .int .i64 dkey, .slice da dl dz, .bool dca, .int .i64 dsk, .int .i64 dse, .int .i64 dss]] V fun e w' => e = .returned (.bool (goodB key ⟨dser, diss, dsub, dfr, dtill, dkey, dnames, dca, dsk, dse, dss⟩)) ∧ Below V.heap.size V w') := fun V hKV hV => by
    have q := implGood key ⟨dser, diss, dsub, dfr, dtill, dkey, dnames, dca, dsk, dse, dss⟩ da dz V (by show diss.size ≤ maxLen; unfold maxLen; omega) (by show dsub.size ≤ maxLen; unfold maxLen; omega) (by show dnames.length ≤ _; omega) (by show totS dnames dnames.length ≤ _; omega) hV hKV
    rw [show (⟨dser, diss, dsub, dfr, dtill, dkey, dnames, dca, dsk, dse, dss⟩ : Paper).names.length = dl from hdl.out.symm] at q
    exact q
  have TGs : Hid (∀ V, IsStrs V da dnames → Calls Tryz.prog 21 #[.int .i64 key, .agg #[.int .i64 dser, .string diss, .string dsub, .int .i64 dfr, .int .i64 dtill, .int .i64 dkey, .slice da dl dz, .bool dca, .int .i64 dsk, .int .i64 dse, .int .i64 dss]] V fun e w' => e = .returned (.bool (goodB key ⟨dser, diss, dsub, dfr, dtill, dkey, dnames, dca, dsk, dse, dss⟩)) ∧ Below V.heap.size V w') := fun V hV => by
    have q := specGood key ⟨dser, diss, dsub, dfr, dtill, dkey, dnames, dca, dsk, dse, dss⟩ da dz V (by show diss.size ≤ maxLen; unfold maxLen; omega) (by show dsub.size ≤ maxLen; unfold maxLen; omega) (by show dnames.length ≤ _; omega) (by show totS dnames dnames.length ≤ _; omega) hV
    rw [show (⟨dser, diss, dsub, dfr, dtill, dkey, dnames, dca, dsk, dse, dss⟩ : Paper).names.length = dl from hdl.out.symm] at q
    exact q
  generalize goodB key ⟨dser, diss, dsub, dfr, dtill, dkey, dnames, dca, dsk, dse, dss⟩ = dg at *
  clear b11 b12 E12 hod hmd hnd hdl hxk diss' dsub' dlen' dtot' RY10 IY10 B10
  go_upto_region 13 with fail
  rw [← hw12]
  clear hw12
  have HX13 : Hid (∀ V, Below w12.heap.size w12 V → ((V.cell? ⟨w9.heap.size, 0, none⟩ = some (.int .i64 yser) ∧ V.cell? ⟨w9.heap.size, 1, none⟩ = some (.string yiss) ∧ V.cell? ⟨w9.heap.size, 2, none⟩ = some (.string ysub) ∧ V.cell? ⟨w9.heap.size, 3, none⟩ = some (.int .i64 yfr) ∧ V.cell? ⟨w9.heap.size, 4, none⟩ = some (.int .i64 ytill) ∧ V.cell? ⟨w9.heap.size, 5, none⟩ = some (.int .i64 ykey) ∧ V.cell? ⟨w9.heap.size, 6, none⟩ = some (.slice ya yl yz) ∧ V.cell? ⟨w9.heap.size, 7, none⟩ = some (.bool yca) ∧ V.cell? ⟨w9.heap.size, 8, none⟩ = some (.int .i64 ysk) ∧ V.cell? ⟨w9.heap.size, 9, none⟩ = some (.int .i64 yse) ∧ V.cell? ⟨w9.heap.size, 10, none⟩ = some (.int .i64 yss) ∧ V.cell? ⟨w9.heap.size, 11, none⟩ = some (.int .i64 yc)) ∧ (V.cell? ⟨w11.heap.size, 0, none⟩ = some (.int .i64 dser) ∧ V.cell? ⟨w11.heap.size, 1, none⟩ = some (.string diss) ∧ V.cell? ⟨w11.heap.size, 2, none⟩ = some (.string dsub) ∧ V.cell? ⟨w11.heap.size, 3, none⟩ = some (.int .i64 dfr) ∧ V.cell? ⟨w11.heap.size, 4, none⟩ = some (.int .i64 dtill) ∧ V.cell? ⟨w11.heap.size, 5, none⟩ = some (.int .i64 dkey) ∧ V.cell? ⟨w11.heap.size, 6, none⟩ = some (.slice da dl dz) ∧ V.cell? ⟨w11.heap.size, 7, none⟩ = some (.bool dca) ∧ V.cell? ⟨w11.heap.size, 8, none⟩ = some (.int .i64 dsk) ∧ V.cell? ⟨w11.heap.size, 9, none⟩ = some (.int .i64 dse) ∧ V.cell? ⟨w11.heap.size, 10, none⟩ = some (.int .i64 dss)))) := fun V hV => by
    have h1 : V.heap[w9.heap.size]? = some (.cells [Value.int .i64 yser, .string yiss, .string ysub, .int .i64 yfr, .int .i64 ytill, .int .i64 ykey, .slice ya yl yz, .bool yca, .int .i64 ysk, .int .i64 yse, .int .i64 yss, .int .i64 yc].toArray 37 (0, 0)) := by rw [hV.block _ (heap_lt RY12.out)]; exact RY12.out
    have h2 : V.heap[w11.heap.size]? = some (.cells [Value.int .i64 dser, .string diss, .string dsub, .int .i64 dfr, .int .i64 dtill, .int .i64 dkey, .slice da dl dz, .bool dca, .int .i64 dsk, .int .i64 dse, .int .i64 dss].toArray 27 (0, 0)) := by rw [hV.block _ (heap_lt RD12.out)]; exact RD12.out
    exact ⟨⟨rowFacts h1 0 _ rfl, rowFacts h1 1 _ rfl, rowFacts h1 2 _ rfl, rowFacts h1 3 _ rfl, rowFacts h1 4 _ rfl, rowFacts h1 5 _ rfl, rowFacts h1 6 _ rfl, rowFacts h1 7 _ rfl, rowFacts h1 8 _ rfl, rowFacts h1 9 _ rfl, rowFacts h1 10 _ rfl, rowFacts h1 11 _ rfl⟩, ⟨rowFacts h2 0 _ rfl, rowFacts h2 1 _ rfl, rowFacts h2 2 _ rfl, rowFacts h2 3 _ rfl, rowFacts h2 4 _ rfl, rowFacts h2 5 _ rfl, rowFacts h2 6 _ rfl, rowFacts h2 7 _ rfl, rowFacts h2 8 _ rfl, rowFacts h2 9 _ rfl, rowFacts h2 10 _ rfl⟩⟩
  have HW13 : Hid (∀ V, Below w12.heap.size w12 V → Below w.heap.size w V ∧ IsStrs V ya ynames ∧ IsStrs V da dnames) := fun V hV => ⟨B12.out.trans (hV.mono B12.out.size), IY12.out.keep hV, ID12.out.keep hV⟩
  clear RY12 RD12 IY12 ID12 B12
  have eyc : (yc == yc) = true := by simp
  have edg : (dg == dg) = true := by simp
  have fy : ∀ (v : Value) (W : World), (Instr.field 37 (.agg #[.int .i64 yser, .string yiss, .string ysub, .int .i64 yfr, .int .i64 ytill, .int .i64 ykey, v, .bool yca, .int .i64 ysk, .int .i64 yse, .int .i64 yss, .int .i64 yc]) 1).run Tryz.prog W = .ok (.int .i64 yc) W := fun v W => by kernel_rfl
  by_cases hyc : yc = 0
  · subst hyc
    have TQ := TYb.out rfl
    have TYq : Hid _ := TQ
    clear TQ TYb eyc
    have J0 : Hid (Below w12.heap.size w12 w12.drew) := (Below.refl _ _).drew
    refine wp_region_held_drew (S := fun V => ((V.cell? ⟨w9.heap.size, 0, none⟩ = some (.int .i64 yser) ∧ V.cell? ⟨w9.heap.size, 1, none⟩ = some (.string yiss) ∧ V.cell? ⟨w9.heap.size, 2, none⟩ = some (.string ysub) ∧ V.cell? ⟨w9.heap.size, 3, none⟩ = some (.int .i64 yfr) ∧ V.cell? ⟨w9.heap.size, 4, none⟩ = some (.int .i64 ytill) ∧ V.cell? ⟨w9.heap.size, 5, none⟩ = some (.int .i64 ykey) ∧ V.cell? ⟨w9.heap.size, 6, none⟩ = some (.slice ya yl yz) ∧ V.cell? ⟨w9.heap.size, 7, none⟩ = some (.bool yca) ∧ V.cell? ⟨w9.heap.size, 8, none⟩ = some (.int .i64 ysk) ∧ V.cell? ⟨w9.heap.size, 9, none⟩ = some (.int .i64 yse) ∧ V.cell? ⟨w9.heap.size, 10, none⟩ = some (.int .i64 yss) ∧ V.cell? ⟨w9.heap.size, 11, none⟩ = some (.int .i64 0)) ∧ (V.cell? ⟨w11.heap.size, 0, none⟩ = some (.int .i64 dser) ∧ V.cell? ⟨w11.heap.size, 1, none⟩ = some (.string diss) ∧ V.cell? ⟨w11.heap.size, 2, none⟩ = some (.string dsub) ∧ V.cell? ⟨w11.heap.size, 3, none⟩ = some (.int .i64 dfr) ∧ V.cell? ⟨w11.heap.size, 4, none⟩ = some (.int .i64 dtill) ∧ V.cell? ⟨w11.heap.size, 5, none⟩ = some (.int .i64 dkey) ∧ V.cell? ⟨w11.heap.size, 6, none⟩ = some (.slice da dl dz) ∧ V.cell? ⟨w11.heap.size, 7, none⟩ = some (.bool dca) ∧ V.cell? ⟨w11.heap.size, 8, none⟩ = some (.int .i64 dsk) ∧ V.cell? ⟨w11.heap.size, 9, none⟩ = some (.int .i64 dse) ∧ V.cell? ⟨w11.heap.size, 10, none⟩ = some (.int .i64 dss)))) (by kernel_rfl) ?_ (fun hHeld => ?_)
    · exact HX13.out _ J0.out
    refine wpAnyH_take (i := 0) (oi := ⟨some 97, _, _, _, _, _⟩) (v := ?_) rfl (by kernel_rfl) (by kernel_rfl) (by kernel_rfl) (fun _ _ _ h => h) (Or.inl ⟨by kernel_rfl, ?_⟩) (by assumption) ?_
    rotate_left
    · (intro w hSw; (try dsimp only at hSw); go_simp; try with_reducible rfl)
    (try simp only [Act.put, List.setIfInBounds_toArray, List.set_cons_zero, List.set_cons_succ])
    refine wpAnyH_take (i := 1) (oi := ⟨some 98, _, _, _, _, _⟩) (v := ?_) rfl (by kernel_rfl) (by kernel_rfl) (by kernel_rfl) (fun _ _ _ h => h) (Or.inl ⟨by kernel_rfl, ?_⟩) (by assumption) ?_
    rotate_left
    · (intro w hSw; (try dsimp only at hSw); go_simp; try with_reducible rfl)
    (try simp only [Act.put, List.setIfInBounds_toArray, List.set_cons_zero, List.set_cons_succ])
    refine wpAnyH_take (i := 2) (oi := ⟨some 99, _, _, _, _, _⟩) (v := ?_) rfl (by kernel_rfl) (by kernel_rfl) (by kernel_rfl) (fun _ _ _ h => h) (Or.inl ⟨by kernel_rfl, ?_⟩) (by assumption) ?_
    rotate_left
    · (intro w hSw; (try dsimp only at hSw); go_simp; try with_reducible rfl)
    (try simp only [Act.put, List.setIfInBounds_toArray, List.set_cons_zero, List.set_cons_succ])
    refine wpAnyH_ready (rs := [3]) (by kernel_rfl) (by simp) ?_
    refine AllReadyH.cons (o := ⟨some 100, _, _, _, _, _⟩) rfl (fun K hK => ?_) AllReadyH.nil
    go_simp
    refine (TYs.out _).mono ?_
    rintro e' W1 ⟨v5, rfl, o5, bb1⟩
    have J1 : Hid (Below w12.heap.size w12 W1) := J0.out.trans (bb1.mono J0.out.size)
    refine hK.out _ _ ?_ (fun hHeld => ?_)
    · exact HX13.out _ J1.out
    clear hK K bb1
    (try simp only [Act.put, List.setIfInBounds_toArray, List.set_cons_zero, List.set_cons_succ])
    refine wpAnyH_take (i := 4) (oi := ⟨some 101, _, _, _, _, _⟩) (v := ?_) rfl (by kernel_rfl) (by kernel_rfl) (by kernel_rfl) (fun _ _ _ h => h) (Or.inl ⟨by kernel_rfl, ?_⟩) (by assumption) ?_
    rotate_left
    · (intro w hSw; (try dsimp only at hSw); go_simp; try with_reducible rfl)
    (try simp only [Act.put, List.setIfInBounds_toArray, List.set_cons_zero, List.set_cons_succ])
    refine wpAnyH_take (i := 5) (oi := ⟨some 102, _, _, _, _, _⟩) (v := ?_) rfl (by kernel_rfl) (by kernel_rfl) (by kernel_rfl) (fun _ _ _ h => h) (Or.inl ⟨by kernel_rfl, ?_⟩) (by assumption) ?_
    rotate_left
    · (intro w hSw; (try dsimp only at hSw); go_simp; try with_reducible rfl)
    (try simp only [Act.put, List.setIfInBounds_toArray, List.set_cons_zero, List.set_cons_succ])
    refine wpAnyH_take (i := 6) (oi := ⟨some 103, _, _, _, _, _⟩) (v := ?_) rfl (by kernel_rfl) (by kernel_rfl) (by kernel_rfl) (fun _ _ _ h => h) (Or.inl ⟨by kernel_rfl, ?_⟩) (by assumption) ?_
    rotate_left
    · (intro w hSw; (try dsimp only at hSw); go_simp; try with_reducible rfl)
    (try simp only [Act.put, List.setIfInBounds_toArray, List.set_cons_zero, List.set_cons_succ])
    refine wpAnyH_take (i := 7) (oi := ⟨some 104, _, _, _, _, _⟩) (v := ?_) rfl (by kernel_rfl) (by kernel_rfl) (by kernel_rfl) (fun _ _ _ h => h) (Or.inl ⟨by kernel_rfl, ?_⟩) (by assumption) ?_
    rotate_left
    · (intro w hSw; (try dsimp only at hSw); go_simp; try with_reducible rfl)
    (try simp only [Act.put, List.setIfInBounds_toArray, List.set_cons_zero, List.set_cons_succ])
    refine wpAnyH_take (i := 8) (oi := ⟨some 105, _, _, _, _, _⟩) (v := ?_) rfl (by kernel_rfl) (by kernel_rfl) (by kernel_rfl) (fun _ _ _ h => h) (Or.inl ⟨by kernel_rfl, ?_⟩) (by assumption) ?_
    rotate_left
    · (intro w hSw; (try dsimp only at hSw); go_simp; try with_reducible rfl)
    (try simp only [Act.put, List.setIfInBounds_toArray, List.set_cons_zero, List.set_cons_succ])
    refine wpAnyH_take (i := 9) (oi := ⟨some 106, _, _, _, _, _⟩) (v := ?_) rfl (by kernel_rfl) (by kernel_rfl) (by kernel_rfl) (fun _ _ _ h => h) (Or.inl ⟨by kernel_rfl, ?_⟩) (by assumption) ?_
    rotate_left
    · (intro w hSw; (try dsimp only at hSw); go_simp; try with_reducible rfl)
    (try simp only [Act.put, List.setIfInBounds_toArray, List.set_cons_zero, List.set_cons_succ])
    refine wpAnyH_take (i := 10) (oi := ⟨some 107, _, _, _, _, _⟩) (v := ?_) rfl (by kernel_rfl) (by kernel_rfl) (by kernel_rfl) (fun _ _ _ h => h) (Or.inl ⟨by kernel_rfl, ?_⟩) (by assumption) ?_
    rotate_left
    · (intro w hSw; (try dsimp only at hSw); go_simp; try with_reducible rfl)
    (try simp only [Act.put, List.setIfInBounds_toArray, List.set_cons_zero, List.set_cons_succ])
    refine wpAnyH_take (i := 11) (oi := ⟨some 108, _, _, _, _, _⟩) (v := ?_) rfl (by kernel_rfl) (by kernel_rfl) (by kernel_rfl) (fun _ _ _ h => h) (Or.inl ⟨by kernel_rfl, ?_⟩) (by assumption) ?_
    rotate_left
    · (intro w hSw; (try dsimp only at hSw); go_simp; try with_reducible rfl)
    (try simp only [Act.put, List.setIfInBounds_toArray, List.set_cons_zero, List.set_cons_succ])
    refine wpAnyH_take (i := 12) (oi := ⟨some 109, _, _, _, _, _⟩) (v := ?_) rfl (by kernel_rfl) (by kernel_rfl) (by kernel_rfl) (fun _ _ _ h => h) (Or.inl ⟨by kernel_rfl, ?_⟩) (by assumption) ?_
    rotate_left
    · (intro w hSw; (try dsimp only at hSw); go_simp; try with_reducible rfl)
    (try simp only [Act.put, List.setIfInBounds_toArray, List.set_cons_zero, List.set_cons_succ])
    refine wpAnyH_take (i := 14) (oi := ⟨some 111, _, _, _, _, _⟩) (v := ?_) rfl (by kernel_rfl) (by kernel_rfl) (by kernel_rfl) (fun _ _ _ h => h) (Or.inl ⟨by kernel_rfl, ?_⟩) (by assumption) ?_
    rotate_left
    · (intro w hSw; (try dsimp only at hSw); go_simp; try with_reducible rfl)
    (try simp only [Act.put, List.setIfInBounds_toArray, List.set_cons_zero, List.set_cons_succ])
    refine wpAnyH_ready (rs := [13]) (by kernel_rfl) (by simp) ?_
    refine AllReadyH.cons (o := ⟨some 110, _, _, _, _, _⟩) rfl (fun K hK => ?_) AllReadyH.nil
    go_simp
    refine (TYq.out _ ya yz (HW13.out _ J1.out).2.1).mono ?_
    rintro e' W2 ⟨rfl, bb2⟩
    have J2 : Hid (Below w12.heap.size w12 W2) := J1.out.trans (bb2.mono J1.out.size)
    refine hK.out _ _ ?_ (fun hHeld => ?_)
    · exact HX13.out _ J2.out
    clear hK K bb2
    (try simp only [Act.put, List.setIfInBounds_toArray, List.set_cons_zero, List.set_cons_succ])
    refine wpAnyH_take (i := 15) (oi := ⟨some 112, _, _, _, _, _⟩) (v := ?_) rfl (by kernel_rfl) (by kernel_rfl) (by kernel_rfl) (fun _ _ _ h => h) (Or.inl ⟨by kernel_rfl, ?_⟩) (by assumption) ?_
    rotate_left
    · (intro w hSw; (try dsimp only at hSw); go_simp; try with_reducible rfl)
    (try simp only [Act.put, List.setIfInBounds_toArray, List.set_cons_zero, List.set_cons_succ])
    refine wpAnyH_take (i := 16) (oi := ⟨some 113, _, _, _, _, _⟩) (v := ?_) rfl (by kernel_rfl) (by kernel_rfl) (by kernel_rfl) (fun _ _ _ h => h) (Or.inl ⟨by kernel_rfl, ?_⟩) (by assumption) ?_
    rotate_left
    · (intro w hSw; (try dsimp only at hSw); go_simp; try with_reducible rfl)
    (try simp only [Act.put, List.setIfInBounds_toArray, List.set_cons_zero, List.set_cons_succ])
    refine wpAnyH_take (i := 17) (oi := ⟨some 114, _, _, _, _, _⟩) (v := ?_) rfl (by kernel_rfl) (by kernel_rfl) (by kernel_rfl) (fun _ _ _ h => h) (Or.inl ⟨by kernel_rfl, ?_⟩) (by assumption) ?_
    rotate_left
    · (intro w hSw; (try dsimp only at hSw); go_simp; try with_reducible rfl)
    (try simp only [Act.put, List.setIfInBounds_toArray, List.set_cons_zero, List.set_cons_succ])
    refine wpAnyH_take (i := 18) (oi := ⟨some 115, _, _, _, _, _⟩) (v := ?_) rfl (by kernel_rfl) (by kernel_rfl) (by kernel_rfl) (fun _ _ _ h => h) (Or.inl ⟨by kernel_rfl, ?_⟩) (by assumption) ?_
    rotate_left
    · (intro w hSw; (try dsimp only at hSw); go_simp; try with_reducible rfl)
    (try simp only [Act.put, List.setIfInBounds_toArray, List.set_cons_zero, List.set_cons_succ])
    refine wpAnyH_take (i := 19) (oi := ⟨some 116, _, _, _, _, _⟩) (v := ?_) rfl (by kernel_rfl) (by kernel_rfl) (by kernel_rfl) (fun _ _ _ h => h) (Or.inl ⟨by kernel_rfl, ?_⟩) (by assumption) ?_
    rotate_left
    · (intro w hSw; (try dsimp only at hSw); go_simp; try with_reducible rfl)
    (try simp only [Act.put, List.setIfInBounds_toArray, List.set_cons_zero, List.set_cons_succ])
    refine wpAnyH_take (i := 20) (oi := ⟨some 117, _, _, _, _, _⟩) (v := ?_) rfl (by kernel_rfl) (by kernel_rfl) (by kernel_rfl) (fun _ _ _ h => h) (Or.inl ⟨by kernel_rfl, ?_⟩) (by assumption) ?_
    rotate_left
    · (intro w hSw; (try dsimp only at hSw); go_simp; try with_reducible rfl)
    (try simp only [Act.put, List.setIfInBounds_toArray, List.set_cons_zero, List.set_cons_succ])
    refine wpAnyH_take (i := 22) (oi := ⟨some 119, _, _, _, _, _⟩) (v := ?_) rfl (by kernel_rfl) (by kernel_rfl) (by kernel_rfl) (fun _ _ _ h => h) (Or.inl ⟨by kernel_rfl, ?_⟩) (by assumption) ?_
    rotate_left
    · (intro w hSw; (try dsimp only at hSw); go_simp; try with_reducible rfl)
    (try simp only [Act.put, List.setIfInBounds_toArray, List.set_cons_zero, List.set_cons_succ])
    refine wpAnyH_take (i := 23) (oi := ⟨some 120, _, _, _, _, _⟩) (v := ?_) rfl (by kernel_rfl) (by kernel_rfl) (by kernel_rfl) (fun _ _ _ h => h) (Or.inl ⟨by kernel_rfl, ?_⟩) (by assumption) ?_
    rotate_left
    · (intro w hSw; (try dsimp only at hSw); go_simp; try with_reducible rfl)
    (try simp only [Act.put, List.setIfInBounds_toArray, List.set_cons_zero, List.set_cons_succ])
    refine wpAnyH_ready (rs := [21]) (by kernel_rfl) (by simp) ?_
    refine AllReadyH.cons (o := ⟨some 118, _, _, _, _, _⟩) rfl (fun K hK => ?_) AllReadyH.nil
    go_simp
    refine (TGi.out _ (HKE.out _ (HW13.out _ J2.out).1).1 (HW13.out _ J2.out).2.2).mono ?_
    rintro e' W3 ⟨rfl, bb3⟩
    have J3 : Hid (Below w12.heap.size w12 W3) := J2.out.trans (bb3.mono J2.out.size)
    refine hK.out _ _ ?_ (fun hHeld => ?_)
    · exact HX13.out _ J3.out
    clear hK K bb3
    (try simp only [Act.put, List.setIfInBounds_toArray, List.set_cons_zero, List.set_cons_succ])
    refine wpAnyH_ready (rs := [24]) (by kernel_rfl) (by simp) ?_
    refine AllReadyH.cons (o := ⟨some 121, _, _, _, _, _⟩) rfl (fun K hK => ?_) AllReadyH.nil
    go_simp
    refine (TGs.out _ (HW13.out _ J3.out).2.2).mono ?_
    rintro e' W4 ⟨rfl, bb4⟩
    have J4 : Hid (Below w12.heap.size w12 W4) := J3.out.trans (bb4.mono J3.out.size)
    refine hK.out _ _ ?_ (fun hHeld => ?_)
    · exact HX13.out _ J4.out
    clear hK K bb4
    (try simp only [Act.put, List.setIfInBounds_toArray, List.set_cons_zero, List.set_cons_succ])
    refine wpAnyH_take (i := 25) (oi := ⟨some 122, _, _, _, _, _⟩) (v := ?_) rfl (by kernel_rfl) (by kernel_rfl) (by kernel_rfl) (fun _ _ _ h => h) (Or.inl ⟨by kernel_rfl, ?_⟩) (by assumption) ?_
    rotate_left
    · (intro w hSw; (try dsimp only at hSw); go_simp; try with_reducible rfl)
    (try simp only [Act.put, List.setIfInBounds_toArray, List.set_cons_zero, List.set_cons_succ])
    refine wpAnyH_take (i := 26) (oi := ⟨some 123, _, _, _, _, _⟩) (v := ?_) rfl (by kernel_rfl) (by kernel_rfl) (by kernel_rfl) (fun _ _ _ h => h) (Or.inl ⟨by kernel_rfl, ?_⟩) (by assumption) ?_
    rotate_left
    · (intro w hSw; (try dsimp only at hSw); go_simp; try with_reducible rfl)
    (try simp only [Act.put, List.setIfInBounds_toArray, List.set_cons_zero, List.set_cons_succ])
    refine wpAnyH_take (i := 27) (oi := ⟨some 4, _, _, _, _, _⟩) (v := ?_) rfl (by kernel_rfl) (by kernel_rfl) (by kernel_rfl) (fun _ _ _ h => h) (Or.inl ⟨by kernel_rfl, ?_⟩) (by assumption) ?_
    rotate_left
    · (intro w hSw; (try dsimp only at hSw); go_simp; try with_reducible rfl)
    (try simp only [Act.put, List.setIfInBounds_toArray, List.set_cons_zero, List.set_cons_succ])
    refine wpAnyH_done (by kernel_rfl) ?_ _
    go_wp2
    go_ret
    exact ⟨rfl, (HW13.out _ J4.out).1⟩
  · have e0 : (yc != 0) = true := by simp [hyc]
    clear TYb
    have J0 : Hid (Below w12.heap.size w12 w12.drew) := (Below.refl _ _).drew
    refine wp_region_held_drew (S := fun V => ((V.cell? ⟨w9.heap.size, 0, none⟩ = some (.int .i64 yser) ∧ V.cell? ⟨w9.heap.size, 1, none⟩ = some (.string yiss) ∧ V.cell? ⟨w9.heap.size, 2, none⟩ = some (.string ysub) ∧ V.cell? ⟨w9.heap.size, 3, none⟩ = some (.int .i64 yfr) ∧ V.cell? ⟨w9.heap.size, 4, none⟩ = some (.int .i64 ytill) ∧ V.cell? ⟨w9.heap.size, 5, none⟩ = some (.int .i64 ykey) ∧ V.cell? ⟨w9.heap.size, 6, none⟩ = some (.slice ya yl yz) ∧ V.cell? ⟨w9.heap.size, 7, none⟩ = some (.bool yca) ∧ V.cell? ⟨w9.heap.size, 8, none⟩ = some (.int .i64 ysk) ∧ V.cell? ⟨w9.heap.size, 9, none⟩ = some (.int .i64 yse) ∧ V.cell? ⟨w9.heap.size, 10, none⟩ = some (.int .i64 yss) ∧ V.cell? ⟨w9.heap.size, 11, none⟩ = some (.int .i64 yc)) ∧ (V.cell? ⟨w11.heap.size, 0, none⟩ = some (.int .i64 dser) ∧ V.cell? ⟨w11.heap.size, 1, none⟩ = some (.string diss) ∧ V.cell? ⟨w11.heap.size, 2, none⟩ = some (.string dsub) ∧ V.cell? ⟨w11.heap.size, 3, none⟩ = some (.int .i64 dfr) ∧ V.cell? ⟨w11.heap.size, 4, none⟩ = some (.int .i64 dtill) ∧ V.cell? ⟨w11.heap.size, 5, none⟩ = some (.int .i64 dkey) ∧ V.cell? ⟨w11.heap.size, 6, none⟩ = some (.slice da dl dz) ∧ V.cell? ⟨w11.heap.size, 7, none⟩ = some (.bool dca) ∧ V.cell? ⟨w11.heap.size, 8, none⟩ = some (.int .i64 dsk) ∧ V.cell? ⟨w11.heap.size, 9, none⟩ = some (.int .i64 dse) ∧ V.cell? ⟨w11.heap.size, 10, none⟩ = some (.int .i64 dss)))) (by kernel_rfl) ?_ (fun hHeld => ?_)
    · exact HX13.out _ J0.out
    refine wpAnyH_take (i := 0) (oi := ⟨some 97, _, _, _, _, _⟩) (v := ?_) rfl (by kernel_rfl) (by kernel_rfl) (by kernel_rfl) (fun _ _ _ h => h) (Or.inl ⟨by kernel_rfl, ?_⟩) (by assumption) ?_
    rotate_left
    · (intro w hSw; (try dsimp only at hSw); go_simp; try with_reducible rfl)
    (try simp only [Act.put, List.setIfInBounds_toArray, List.set_cons_zero, List.set_cons_succ])
    refine wpAnyH_take (i := 1) (oi := ⟨some 98, _, _, _, _, _⟩) (v := ?_) rfl (by kernel_rfl) (by kernel_rfl) (by kernel_rfl) (fun _ _ _ h => h) (Or.inl ⟨by kernel_rfl, ?_⟩) (by assumption) ?_
    rotate_left
    · (intro w hSw; (try dsimp only at hSw); go_simp; try with_reducible rfl)
    (try simp only [Act.put, List.setIfInBounds_toArray, List.set_cons_zero, List.set_cons_succ])
    refine wpAnyH_take (i := 2) (oi := ⟨some 99, _, _, _, _, _⟩) (v := ?_) rfl (by kernel_rfl) (by kernel_rfl) (by kernel_rfl) (fun _ _ _ h => h) (Or.inl ⟨by kernel_rfl, ?_⟩) (by assumption) ?_
    rotate_left
    · (intro w hSw; (try dsimp only at hSw); go_simp; try with_reducible rfl)
    (try simp only [Act.put, List.setIfInBounds_toArray, List.set_cons_zero, List.set_cons_succ])
    refine wpAnyH_ready (rs := [3]) (by kernel_rfl) (by simp) ?_
    refine AllReadyH.cons (o := ⟨some 100, _, _, _, _, _⟩) rfl (fun K hK => ?_) AllReadyH.nil
    go_simp
    refine (TYs.out _).mono ?_
    rintro e' W1 ⟨v5, rfl, o5, bb1⟩
    have J1 : Hid (Below w12.heap.size w12 W1) := J0.out.trans (bb1.mono J0.out.size)
    refine hK.out _ _ ?_ (fun hHeld => ?_)
    · exact HX13.out _ J1.out
    clear hK K bb1
    (try simp only [Act.put, List.setIfInBounds_toArray, List.set_cons_zero, List.set_cons_succ])
    refine wpAnyH_take (i := 4) (oi := ⟨some 101, _, _, _, _, _⟩) (v := ?_) rfl (by kernel_rfl) (by kernel_rfl) (by kernel_rfl) (fun _ _ _ h => h) (Or.inl ⟨by kernel_rfl, ?_⟩) (by assumption) ?_
    rotate_left
    · (intro w hSw; (try dsimp only at hSw); go_simp; try with_reducible rfl)
    (try simp only [Act.put, List.setIfInBounds_toArray, List.set_cons_zero, List.set_cons_succ])
    refine wpAnyH_take (i := 5) (oi := ⟨some 102, _, _, _, _, _⟩) (v := ?_) rfl (by kernel_rfl) (by kernel_rfl) (by kernel_rfl) (fun _ _ _ h => h) (Or.inl ⟨by kernel_rfl, ?_⟩) (by assumption) ?_
    rotate_left
    · (intro w hSw; (try dsimp only at hSw); go_simp; try with_reducible rfl)
    (try simp only [Act.put, List.setIfInBounds_toArray, List.set_cons_zero, List.set_cons_succ])
    refine wpAnyH_take (i := 6) (oi := ⟨some 103, _, _, _, _, _⟩) (v := ?_) rfl (by kernel_rfl) (by kernel_rfl) (by kernel_rfl) (fun _ _ _ h => h) (Or.inl ⟨by kernel_rfl, ?_⟩) (by assumption) ?_
    rotate_left
    · (intro w hSw; (try dsimp only at hSw); go_simp; try with_reducible rfl)
    (try simp only [Act.put, List.setIfInBounds_toArray, List.set_cons_zero, List.set_cons_succ])
    refine wpAnyH_take (i := 7) (oi := ⟨some 104, _, _, _, _, _⟩) (v := ?_) rfl (by kernel_rfl) (by kernel_rfl) (by kernel_rfl) (fun _ _ _ h => h) (Or.inl ⟨by kernel_rfl, ?_⟩) (by assumption) ?_
    rotate_left
    · (intro w hSw; (try dsimp only at hSw); go_simp; try with_reducible rfl)
    (try simp only [Act.put, List.setIfInBounds_toArray, List.set_cons_zero, List.set_cons_succ])
    refine wpAnyH_take (i := 8) (oi := ⟨some 105, _, _, _, _, _⟩) (v := ?_) rfl (by kernel_rfl) (by kernel_rfl) (by kernel_rfl) (fun _ _ _ h => h) (Or.inl ⟨by kernel_rfl, ?_⟩) (by assumption) ?_
    rotate_left
    · (intro w hSw; (try dsimp only at hSw); go_simp; try with_reducible rfl)
    (try simp only [Act.put, List.setIfInBounds_toArray, List.set_cons_zero, List.set_cons_succ])
    refine wpAnyH_take (i := 9) (oi := ⟨some 106, _, _, _, _, _⟩) (v := ?_) rfl (by kernel_rfl) (by kernel_rfl) (by kernel_rfl) (fun _ _ _ h => h) (Or.inl ⟨by kernel_rfl, ?_⟩) (by assumption) ?_
    rotate_left
    · (intro w hSw; (try dsimp only at hSw); go_simp; try with_reducible rfl)
    (try simp only [Act.put, List.setIfInBounds_toArray, List.set_cons_zero, List.set_cons_succ])
    refine wpAnyH_take (i := 10) (oi := ⟨some 107, _, _, _, _, _⟩) (v := ?_) rfl (by kernel_rfl) (by kernel_rfl) (by kernel_rfl) (fun _ _ _ h => h) (Or.inl ⟨by kernel_rfl, ?_⟩) (by assumption) ?_
    rotate_left
    · (intro w hSw; (try dsimp only at hSw); go_simp; try with_reducible rfl)
    (try simp only [Act.put, List.setIfInBounds_toArray, List.set_cons_zero, List.set_cons_succ])
    refine wpAnyH_take (i := 11) (oi := ⟨some 108, _, _, _, _, _⟩) (v := undef) rfl (by kernel_rfl) (by kernel_rfl) (by kernel_rfl) (fun _ _ _ h => h) (Or.inr ⟨by kernel_rfl, rfl⟩) (by assumption) ?_
    (try simp only [Act.put, List.setIfInBounds_toArray, List.set_cons_zero, List.set_cons_succ])
    refine wpAnyH_take (i := 12) (oi := ⟨some 109, _, _, _, _, _⟩) (v := undef) rfl (by kernel_rfl) (by kernel_rfl) (by kernel_rfl) (fun _ _ _ h => h) (Or.inr ⟨by kernel_rfl, rfl⟩) (by assumption) ?_
    (try simp only [Act.put, List.setIfInBounds_toArray, List.set_cons_zero, List.set_cons_succ])
    refine wpAnyH_take (i := 13) (oi := ⟨some 110, _, _, _, _, _⟩) (v := undef) rfl (by kernel_rfl) (by kernel_rfl) (by kernel_rfl) (fun _ _ _ h => h) (Or.inr ⟨by kernel_rfl, rfl⟩) (by assumption) ?_
    (try simp only [Act.put, List.setIfInBounds_toArray, List.set_cons_zero, List.set_cons_succ])
    refine wpAnyH_take (i := 14) (oi := ⟨some 111, _, _, _, _, _⟩) (v := undef) rfl (by kernel_rfl) (by kernel_rfl) (by kernel_rfl) (fun _ _ _ h => h) (Or.inr ⟨by kernel_rfl, rfl⟩) (by assumption) ?_
    (try simp only [Act.put, List.setIfInBounds_toArray, List.set_cons_zero, List.set_cons_succ])
    refine wpAnyH_take (i := 15) (oi := ⟨some 112, _, _, _, _, _⟩) (v := undef) rfl (by kernel_rfl) (by kernel_rfl) (by kernel_rfl) (fun _ _ _ h => h) (Or.inr ⟨by kernel_rfl, rfl⟩) (by assumption) ?_
    (try simp only [Act.put, List.setIfInBounds_toArray, List.set_cons_zero, List.set_cons_succ])
    refine wpAnyH_take (i := 16) (oi := ⟨some 113, _, _, _, _, _⟩) (v := ?_) rfl (by kernel_rfl) (by kernel_rfl) (by kernel_rfl) (fun _ _ _ h => h) (Or.inl ⟨by kernel_rfl, ?_⟩) (by assumption) ?_
    rotate_left
    · (intro w hSw; (try dsimp only at hSw); go_simp; try with_reducible rfl)
    (try simp only [Act.put, List.setIfInBounds_toArray, List.set_cons_zero, List.set_cons_succ])
    refine wpAnyH_take (i := 17) (oi := ⟨some 114, _, _, _, _, _⟩) (v := ?_) rfl (by kernel_rfl) (by kernel_rfl) (by kernel_rfl) (fun _ _ _ h => h) (Or.inl ⟨by kernel_rfl, ?_⟩) (by assumption) ?_
    rotate_left
    · (intro w hSw; (try dsimp only at hSw); go_simp; try with_reducible rfl)
    (try simp only [Act.put, List.setIfInBounds_toArray, List.set_cons_zero, List.set_cons_succ])
    refine wpAnyH_take (i := 18) (oi := ⟨some 115, _, _, _, _, _⟩) (v := ?_) rfl (by kernel_rfl) (by kernel_rfl) (by kernel_rfl) (fun _ _ _ h => h) (Or.inl ⟨by kernel_rfl, ?_⟩) (by assumption) ?_
    rotate_left
    · (intro w hSw; (try dsimp only at hSw); go_simp; try with_reducible rfl)
    (try simp only [Act.put, List.setIfInBounds_toArray, List.set_cons_zero, List.set_cons_succ])
    refine wpAnyH_take (i := 19) (oi := ⟨some 116, _, _, _, _, _⟩) (v := ?_) rfl (by kernel_rfl) (by kernel_rfl) (by kernel_rfl) (fun _ _ _ h => h) (Or.inl ⟨by kernel_rfl, ?_⟩) (by assumption) ?_
    rotate_left
    · (intro w hSw; (try dsimp only at hSw); go_simp; try with_reducible rfl)
    (try simp only [Act.put, List.setIfInBounds_toArray, List.set_cons_zero, List.set_cons_succ])
    refine wpAnyH_take (i := 20) (oi := ⟨some 117, _, _, _, _, _⟩) (v := ?_) rfl (by kernel_rfl) (by kernel_rfl) (by kernel_rfl) (fun _ _ _ h => h) (Or.inl ⟨by kernel_rfl, ?_⟩) (by assumption) ?_
    rotate_left
    · (intro w hSw; (try dsimp only at hSw); go_simp; try with_reducible rfl)
    (try simp only [Act.put, List.setIfInBounds_toArray, List.set_cons_zero, List.set_cons_succ])
    refine wpAnyH_take (i := 22) (oi := ⟨some 119, _, _, _, _, _⟩) (v := ?_) rfl (by kernel_rfl) (by kernel_rfl) (by kernel_rfl) (fun _ _ _ h => h) (Or.inl ⟨by kernel_rfl, ?_⟩) (by assumption) ?_
    rotate_left
    · (intro w hSw; (try dsimp only at hSw); go_simp; try with_reducible rfl)
    (try simp only [Act.put, List.setIfInBounds_toArray, List.set_cons_zero, List.set_cons_succ])
    refine wpAnyH_take (i := 23) (oi := ⟨some 120, _, _, _, _, _⟩) (v := ?_) rfl (by kernel_rfl) (by kernel_rfl) (by kernel_rfl) (fun _ _ _ h => h) (Or.inl ⟨by kernel_rfl, ?_⟩) (by assumption) ?_
    rotate_left
    · (intro w hSw; (try dsimp only at hSw); go_simp; try with_reducible rfl)
    (try simp only [Act.put, List.setIfInBounds_toArray, List.set_cons_zero, List.set_cons_succ])
    refine wpAnyH_ready (rs := [21]) (by kernel_rfl) (by simp) ?_
    refine AllReadyH.cons (o := ⟨some 118, _, _, _, _, _⟩) rfl (fun K hK => ?_) AllReadyH.nil
    go_simp
    refine (TGi.out _ (HKE.out _ (HW13.out _ J1.out).1).1 (HW13.out _ J1.out).2.2).mono ?_
    rintro e' W2 ⟨rfl, bb2⟩
    have J2 : Hid (Below w12.heap.size w12 W2) := J1.out.trans (bb2.mono J1.out.size)
    refine hK.out _ _ ?_ (fun hHeld => ?_)
    · exact HX13.out _ J2.out
    clear hK K bb2
    (try simp only [Act.put, List.setIfInBounds_toArray, List.set_cons_zero, List.set_cons_succ])
    refine wpAnyH_ready (rs := [24]) (by kernel_rfl) (by simp) ?_
    refine AllReadyH.cons (o := ⟨some 121, _, _, _, _, _⟩) rfl (fun K hK => ?_) AllReadyH.nil
    go_simp
    refine (TGs.out _ (HW13.out _ J2.out).2.2).mono ?_
    rintro e' W3 ⟨rfl, bb3⟩
    have J3 : Hid (Below w12.heap.size w12 W3) := J2.out.trans (bb3.mono J2.out.size)
    refine hK.out _ _ ?_ (fun hHeld => ?_)
    · exact HX13.out _ J3.out
    clear hK K bb3
    (try simp only [Act.put, List.setIfInBounds_toArray, List.set_cons_zero, List.set_cons_succ])
    refine wpAnyH_take (i := 25) (oi := ⟨some 122, _, _, _, _, _⟩) (v := ?_) rfl (by kernel_rfl) (by kernel_rfl) (by kernel_rfl) (fun _ _ _ h => h) (Or.inl ⟨by kernel_rfl, ?_⟩) (by assumption) ?_
    rotate_left
    · (intro w hSw; (try dsimp only at hSw); go_simp; try with_reducible rfl)
    (try simp only [Act.put, List.setIfInBounds_toArray, List.set_cons_zero, List.set_cons_succ])
    refine wpAnyH_take (i := 26) (oi := ⟨some 123, _, _, _, _, _⟩) (v := ?_) rfl (by kernel_rfl) (by kernel_rfl) (by kernel_rfl) (fun _ _ _ h => h) (Or.inl ⟨by kernel_rfl, ?_⟩) (by assumption) ?_
    rotate_left
    · (intro w hSw; (try dsimp only at hSw); go_simp; try with_reducible rfl)
    (try simp only [Act.put, List.setIfInBounds_toArray, List.set_cons_zero, List.set_cons_succ])
    refine wpAnyH_take (i := 27) (oi := ⟨some 4, _, _, _, _, _⟩) (v := ?_) rfl (by kernel_rfl) (by kernel_rfl) (by kernel_rfl) (fun _ _ _ h => h) (Or.inl ⟨by kernel_rfl, ?_⟩) (by assumption) ?_
    rotate_left
    · (intro w hSw; (try dsimp only at hSw); go_simp; try with_reducible rfl)
    (try simp only [Act.put, List.setIfInBounds_toArray, List.set_cons_zero, List.set_cons_succ])
    refine wpAnyH_done (by kernel_rfl) ?_ _
    go_wp2
    go_ret
    exact ⟨rfl, (HW13.out _ J3.out).1⟩
end Go.Proofs.YtkhdjmjbdpmdnaaGreatDoor
