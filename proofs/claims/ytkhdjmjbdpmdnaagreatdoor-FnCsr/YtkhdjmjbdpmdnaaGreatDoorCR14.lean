/- '.l07Csr', walked: an asking paper as the draws make it. '.l04Secret', walked: some number. The draws' source: '.spoil', walked: some text of at most one byte more. '.spoil', '.l04Secret' as steps from a source at work to a source at work. spec.l06Sig, walked. spec.l07Listed, spec.CrlBytes, walked. -/
import Derived.Test.YtkhdjmjbdpmdnaaGreatDoorCR12
import Derived.Test.YtkhdjmjbdpmdnaaGreatDoorCR13
import Derived.Deep.Cut
import Derived.Deep.MidRow
import Derived.RegionTactic
import Derived.Test.YtkhdjmjbdpmdnaaGreatDoorCR01
import Derived.OwnWalk
import Derived.Test.YtkhdjmjbdpmdnaaGreatDoorCR02
import Derived.Test.YtkhdjmjbdpmdnaaGreatDoorCR03
import Derived.Test.YtkhdjmjbdpmdnaaGreatDoorCR07
import Derived.Test.YtkhdjmjbdpmdnaaGreatDoorCR09
import Derived.Deep.RegionHeld3
import Derived.Test.YtkhdjmjbdpmdnaaGreatDoorCR06
namespace Go.Proofs.YtkhdjmjbdpmdnaaGreatDoor
open Go.RowKit

set_option linter.unusedVariables false in
set_option maxRecDepth 100000 in
set_option maxHeartbeats 8000000 in
theorem sk_csr {w W : World} {a : Option Addr} {len cap : Nat} (h : SS w a len cap W) :
    Calls Tryz.prog 101 #[.pointer (some ⟨w.heap.size, 0, none⟩)] W fun e w' => ∃ (c : Ask) (v : Value), e = .returned (c.val v) ∧ OwnS w' W.heap.size v c.names ∧ AMay c ∧ SS w a len cap w' ∧ Grows w.heap.size W w' := by
  obtain ⟨i0, hi0, hz0, hz1, hz2⟩ := info_parts infoText
  have hlt := h.2.2.1
  obtain ⟨w1, hw1⟩ : ∃ y, y = W.alloc (.cells [Value.int .i64 0, .slice none 0 0, .int .i64 0, .int .i64 0, .int .i64 0].toArray 44 (0, 0)) := ⟨_, rfl⟩
  have b1 : Below W.heap.size W w1 := by rw [hw1]; exact (Below.refl _ _).alloc (Nat.le_refl _) _
  have S1 : Hid (SS w a len cap w1) := h.keep b1
  have G1 : Hid (Grows w.heap.size W w1) := below_grows b1
  have Z1 : Hid (w1.heap[W.heap.size]? = some (.cells [Value.int .i64 0, .slice none 0 0, .int .i64 0, .int .i64 0, .int .i64 0].toArray 44 (0, 0))) := by rw [hw1]; exact heap_alloc_new W _
  have HZ1 : Hid (w1.heap.size = W.heap.size + 1) := by rw [hw1]; show _ = _; simp
  have hlt1 : w.heap.size < w1.heap.size := S1.out.2.2.1
  clear h b1
  go_enter Tryz.func101, Tryz.ntmps101
  go_upto_region 1 with fail
  rw [← hw1]
  clear hw1
  go_wp2_with fail
  refine (sk_n 3 (by omega) S1.out).mono ?_
  rintro e w2 ⟨r3, rfl, hr3, h2, hg2⟩
  have S2 : Hid (SS w a len cap w2) := h2
  have G2 : Hid (Grows w.heap.size w1 w2) := hg2
  obtain ⟨ks, hks, hksw⟩ : ∃ n : Int, inW n ∧ IntKind.i64.wrap (5 + (r3 : Int)) = n := ⟨_, by unfold inW; rw [IntKind.wrap_i64]; omega, rfl⟩
  clear h2 hg2 hr3 S1
  go_wp2_with fail
  refine (sk_names S2.out).mono ?_
  rintro e w8 ⟨g, gc, names, rfl, ho8, hl8, hs8, h8, hg8⟩
  have S8 : Hid (SS w a len cap w8) := h8
  have G8 : Hid (Grows w.heap.size w1 w8) := G2.out.trans hg8
  have O8 : Hid (OwnS w8 w1.heap.size (.slice (some ⟨g, 0, none⟩) names.length gc) names) := ho8.mono G2.out.size
  have T8 : Hid (∀ t ∈ names, t.size ≤ 6) := hs8
  clear h8 hg8 ho8 hs8 S2 G2
  have bA : Below w8.heap.size w8 (w8.alloc (.cells #[.string ⟨#[122, 101, 100]⟩] 9 (0, 0))) := (Below.refl _ _).alloc (Nat.le_refl _) _
  have SA : Hid (SS w a len cap (w8.alloc (.cells #[.string ⟨#[122, 101, 100]⟩] 9 (0, 0)))) := S8.out.keep bA
  have GA : Hid (Grows w.heap.size w1 (w8.alloc (.cells #[.string ⟨#[122, 101, 100]⟩] 9 (0, 0)))) := G8.out.trans (below_grows bA)
  have OA : Hid (OwnS (w8.alloc (.cells #[.string ⟨#[122, 101, 100]⟩] 9 (0, 0))) w1.heap.size (.slice (some ⟨g, 0, none⟩) names.length gc) names) := O8.out.keep bA
  have hown : (w8.alloc (.cells #[.string ⟨#[122, 101, 100]⟩] 9 (0, 0))).ownsRow w1.heap.size 9 1 (.slice (some ⟨g, 0, none⟩) names.length gc) names.length (sCells names) := OA.out
  have hnews := news_text (heap_alloc_new w8 (.cells #[.string ⟨#[122, 101, 100]⟩] 9 (0, 0)))
  have hz8 : w1.heap.size ≤ w8.heap.size := G8.out.size
  clear bA
  go_wp2_with (at_builtin; refine wpList_append_own _ rfl _ _ 23 rfl w1.heap.size 9 i0 (.string ⟨#[]⟩) 1 16 Tryz.underlying23 hi0 hz0 hz1 hz2 rfl (by decide) _ _ _ rfl hown ⟨w8.heap.size, 0, none⟩ 1 1 [.string ⟨#[122, 101, 100]⟩] rfl ?c0 hnews ?c2 ?c3 ?c4 ?c5 ?_)
  case c0 => simp
  case c2 => simp [Value.oneCell']
  case c3 => unfold maxLen; omega
  case c4 => omega
  case c5 => first | omega | (simp; omega)
  intro v' w9 hown' hgrow hnil
  obtain ⟨gv, vc0, rfl, ho9, hs9, hg9⟩ := appended hlt1 SA.out GA.out OA.out hown' hgrow
  have S9 : Hid (SS w a len cap w9) := hs9
  have G9 : Hid (Grows w.heap.size w1 w9) := hg9
  have L9 : (names ++ ([⟨#[122, 101, 100]⟩] : List ByteArray)).length ≤ 5 := by simp; omega
  have T9 : ∀ u ∈ names ++ ([⟨#[122, 101, 100]⟩] : List ByteArray), u.size ≤ 6 := fun u hu => by
    rcases List.mem_append.1 hu with hu | hu
    · exact T8.out u hu
    · rw [List.mem_singleton] at hu; subst hu; decide
  generalize names ++ ([⟨#[122, 101, 100]⟩] : List ByteArray) = ns at *
  have hgv : gv < w9.heap.size ∧ ∀ i, i < ns.length → w9.cell? ⟨gv, 0 + i, none⟩ = some (.string (tAt ns i)) := by
    obtain ⟨g', c', e', _, h2, h3⟩ := own_addr ho9 (by simp)
    simp only [Value.slice.injEq, Option.some.injEq, Addr.mk.injEq] at e'
    rw [← e'.1.1] at h2 h3
    exact ⟨h2, h3⟩
  have htn := totS_may ns ns.length T9
  obtain ⟨k, e, s, hsv, hk', he', hs'⟩ := signV_may ks (askD (askO ks ns))
  have hmR := signA_may (x := ks) L9 T9 hk' he' hs'
  have hsg := specSignA ks ns gv 0 vc0 k e s w9 (by omega) (by omega) hgv.1 hgv.2 (fun _ => hsv)
  generalize signA ks ns k e s = R at *
  obtain ⟨nl, hnl⟩ : ∃ n, n = ns.length := ⟨_, rfl⟩
  rw [← hnl] at hsg ⊢
  have HSg : Hid (Calls Tryz.prog 25 #[.int .i64 ks, .slice (some ⟨gv, 0, none⟩) nl vc0] w9 fun r w' => ∃ v, r = .returned (R.val v) ∧ OwnS w' w9.heap.size v R.names ∧ Below w9.heap.size w9 w') := hsg
  have HMR : Hid (AMay R) := hmR
  obtain ⟨rkey, rnames, rsk, rse, rss⟩ := R
  unfold Ask.val at HSg
  simp only at HSg
  clear hsg hgv hmR hsv hk' he' hs' hs9 hg9 ho9 hown' hgrow hnil hown hnews SA GA OA O8 S8 G8 T8 T9 L9 htn hnl hl8 hz8
  go_wp2_with fail
  refine HSg.out.mono ?_
  rintro e' w10 ⟨v, rfl, o10, b10⟩
  obtain ⟨va, vc, rfl, _⟩ := o10.form
  obtain ⟨rl, hrl⟩ : ∃ n, n = rnames.length := ⟨_, rfl⟩
  rw [← hrl] at o10 ⊢
  have HRl : Hid (rl = rnames.length) := hrl
  clear hrl
  obtain ⟨w11, hw11⟩ : ∃ y, y = w10.alloc (.cells [Value.int .i64 rkey, .slice va rl vc, .int .i64 rsk, .int .i64 rse, .int .i64 rss].toArray 44 (0, 0)) := ⟨_, rfl⟩
  have b11 : Below w10.heap.size w10 w11 := by rw [hw11]; exact (Below.refl _ _).alloc (Nat.le_refl _) _
  have R11 : w11.heap[w10.heap.size]? = some (.cells [Value.int .i64 rkey, .slice va rl vc, .int .i64 rsk, .int .i64 rse, .int .i64 rss].toArray 44 (0, 0)) := by rw [hw11]; exact heap_alloc_new w10 _
  have E11 : Below w9.heap.size w9 w11 := b10.trans (b11.mono b10.size)
  have hq10 : w1.heap.size ≤ w10.heap.size := Nat.le_trans G9.out.size b10.size
  have V11 : Hid (AV w a len cap w1 w10.heap.size w11 ⟨rkey, rnames, rsk, rse, rss⟩ (.slice va rl vc)) :=
    ⟨R11, (o10.mono G9.out.size).keep b11, fun e => by
      rcases o10.2 with ⟨h', _⟩ | ⟨gg, cp, cur, e2, _, h2, _⟩
      · rw [h'] at e; simp [Value.ownBlock] at e
      · rw [e2] at e
        simp only [Value.ownBlock, Option.some.injEq] at e
        have := heap_lt h2
        omega, HMR.out, S9.out.keep E11, G9.out.trans (below_grows E11)⟩
  clear b10 b11 E11 o10 R11 S9 G9 HSg HMR
  go_upto_region 2 with fail
  rw [← hw11]
  clear hw11 hksw
  go_wp2_with fail
  refine (sk_one 8 (by omega) V11.out.ss).mono ?_
  rintro e' w15 ⟨⟨bb, rfl⟩, h15, hg15⟩
  have V15 : Hid (AV w a len cap w1 w10.heap.size w15 ⟨rkey, rnames, rsk, rse, rss⟩ (.slice va rl vc)) := V11.out.keep (by omega) hlt1 h15 hg15
  clear h15 hg15 V11
  go_upto_if 13 with fail
  go_cut [] from 4 (fun wx => ∃ c v, AV w a len cap w1 w10.heap.size wx c v)
  case first =>
    cases bb with
    | false =>
      go_wp2_with fail
      go_meet
      case rel => exact ⟨_, _, V15.out⟩
    | true =>
      go_wp2_with fail
      refine (sk_n 3 (by omega) V15.out.ss).mono ?_
      rintro e' w16 ⟨r6, rfl, hr6, h16, hg16⟩
      have V16 : Hid (AV w a len cap w1 w10.heap.size w16 ⟨rkey, rnames, rsk, rse, rss⟩ (.slice va rl vc)) := V15.out.keep (by omega) hlt1 h16 hg16
      have r16 : w16.heap[w10.heap.size]? = some (.cells [Value.int .i64 rkey, .slice va rl vc, .int .i64 rsk, .int .i64 rse, .int .i64 rss].toArray 44 (0, 0)) := V16.out.row
      have m := V16.out.may
      clear h16 hg16 V15
      have hc6 : r6 = 0 ∨ r6 = 1 ∨ r6 = 2 := by omega
      clear hr6
      rcases hc6 with rfl | rfl | rfl
      · have c3 := rowFacts r16 3 _ rfl
        have f3 := rowFree r16 3
        obtain ⟨u, hu, huw⟩ : ∃ n : Int, inW n ∧ IntKind.i64.wrap (rse + 1) = n := ⟨_, by unfold inW; rw [IntKind.wrap_i64]; omega, rfl⟩
        clear r16
        go_wp2_with fail
        go_meet
        case rel => exact ⟨_, _, V16.out.set (by omega) hq10 3 (.int .i64 u) ⟨rkey, rnames, rsk, u, rss⟩ rfl rfl ⟨m.len, m.each, m.key, m.sk, hu, m.ss⟩⟩
      · have c1 := rowFacts r16 1 _ rfl
        have f1 := rowFree r16 1
        clear r16
        go_wp2_with fail
        go_meet
        case rel => exact ⟨_, _, V16.out.clear (by omega) hq10⟩
      · have c0 := rowFacts r16 0 _ rfl
        have f0 := rowFree r16 0
        clear r16
        have hp9 := pubA_in 9
        go_wp2_with fail
        refine (specPublic 9 w16).mono ?_
        rintro e' w16' ⟨rfl, rfl⟩
        generalize pubA 9 = u at *
        go_wp2_with fail
        go_meet
        case rel => exact ⟨_, _, V16.out.set (by omega) hq10 0 (.int .i64 u) ⟨u, rnames, rsk, rse, rss⟩ rfl rfl ⟨m.len, m.each, hp9, m.sk, m.se, m.ss⟩⟩
  case rest =>
    obtain ⟨c, v, hcv⟩ := hcut
    obtain ⟨va2, vc2, rfl, _⟩ := hcv.own.form
    obtain ⟨key2, names2, sk2, se2, ss2⟩ := c
    have VC : Hid (AV w a len cap w1 w10.heap.size wc ⟨key2, names2, sk2, se2, ss2⟩ (.slice va2 names2.length vc2)) := hcv
    clear hcv V15
    obtain ⟨n2, hn2⟩ : ∃ n, n = names2.length := ⟨_, rfl⟩
    rw [← hn2] at VC
    clear hn2
    have rz : wc.heap[W.heap.size]? = some (.cells [Value.int .i64 0, .slice none 0 0, .int .i64 0, .int .i64 0, .int .i64 0].toArray 44 (0, 0)) := by rw [VC.out.grows.keepBlock (heap_lt Z1.out) (by omega)]; exact Z1.out
    have hr := rangeRow (show wc.heap[w10.heap.size]? = some (.cells [Value.int .i64 key2, .slice va2 n2 vc2, .int .i64 sk2, .int .i64 se2, .int .i64 ss2].toArray 44 (0, 0)) from VC.out.row)
    have h1c : ∀ u ∈ [Value.int .i64 key2, .slice va2 n2 vc2, .int .i64 sk2, .int .i64 se2, .int .i64 ss2], u.oneCell' = true := by simp [Value.oneCell']
    go_wp2_with (first | (refine wpList_load_mid rfl 44 _ rfl w10.heap.size 0 rfl [Value.int .i64 key2, .slice va2 n2 vc2, .int .i64 sk2, .int .i64 se2, .int .i64 ss2] _ hr Tryz.underlying44 rfl sizeCsr ?_) | (refine wpList_store_row rfl 44 _ _ rfl W.heap.size [Value.int .i64 0, .slice none 0 0, .int .i64 0, .int .i64 0, .int .i64 0] [Value.int .i64 key2, .slice va2 n2 vc2, .int .i64 sk2, .int .i64 se2, .int .i64 ss2] 44 rfl rfl rz rfl sizeCsr h1c ?_))
    intro w18 hrow18 ho18 hs18 hbb18
    have hg18 := grown_row ho18 hbb18
    have hl3 := run_loadVar_mid (P := Tryz.prog) _ W.heap.size 0 44 _ _ (rangeRow hrow18) Tryz.underlying44 rfl sizeCsr
    have HFIN : Hid (OwnS w18 W.heap.size (.slice va2 n2 vc2) names2 ∧ AMay ⟨key2, names2, sk2, se2, ss2⟩ ∧ SS w a len cap w18 ∧ Grows w.heap.size W w18) :=
      ⟨(VC.out.own.rowOff hg18 (fun e => by have := (VC.out.own.ge e).1; have := HZ1.out; omega)).mono (by have := HZ1.out; omega), VC.out.may, VC.out.ss.row hg18 hlt, (G1.out.trans VC.out.grows).row hg18 (Nat.le_refl _)⟩
    clear ho18 hs18 hbb18 hg18 hr rz h1c VC
    go_wp2
    refine bodyPost_ret (v := .agg [Value.int .i64 key2, .slice va2 n2 vc2, .int .i64 sk2, .int .i64 se2, .int .i64 ss2].toArray) ?_ rfl ⟨⟨key2, names2, sk2, se2, ss2⟩, .slice va2 n2 vc2, rfl, HFIN.out⟩
    simp [results, Tryz.results101, asAddr, hl3]
end Go.Proofs.YtkhdjmjbdpmdnaaGreatDoor
namespace Go.Proofs.YtkhdjmjbdpmdnaaGreatDoor
open Go.RowKit

set_option maxRecDepth 100000 in
set_option maxHeartbeats 1000000 in
theorem secret_any (g : Nat) (a : Option Addr) (len cap : Nat) (w : World) (hs : Src g a len cap w) :
    Calls Tryz.prog 44 #[.pointer (some ⟨g, 0, none⟩)] w fun e w' => AnyI e ∧ Src g a len cap w' ∧ Grows g w w' := by
  have hglt := hs.lt
  have HS : Hid (Src g a len cap w) := hs
  clear hs
  go_enter Tryz.func44, Tryz.ntmps44
  go_wp2_with fail
  refine (one_any g a len cap 20 _ (by omega) HS.out).mono ?_
  rintro e w1 ⟨hb, hs1, ht1⟩
  have H1 : Hid (Src g a len cap w1) := hs1
  have G1 : Hid (Grows g w w1) := ht1.grows
  have z1 : w1.heap.size = w.heap.size := ht1.2
  clear hs1 ht1
  rcases hb with rfl | rfl
  · go_wp2_with fail
    refine (edge_any g a len cap _ H1.out).mono ?_
    rintro e w2 ⟨⟨v, hv, rfl⟩, hs2, hg2⟩
    have H2 : Hid (Src g a len cap w2) := hs2
    have G2 : Hid (Grows g w w2) := G1.out.trans hg2
    have z2 : w.heap.size ≤ w2.heap.size := G2.out.size
    clear hs2 hg2
    go_wp2_with fail
    refine (n_any g a len cap 5 _ (by omega) (H2.out.alloc _)).mono ?_
    rintro e w3 ⟨r, rfl, hr, hs3, ht3⟩
    have H3 : Hid (Src g a len cap w3) := hs3
    have G3 : Hid (Grows g w w3) := (G2.out.alloc _).trans ht3.grows
    have hrow : w3.heap[w2.heap.size]? = some (.cells #[.int .i64 0, .int .i64 (-1), .int .i64 1073741788, .int .i64 1073741789, .int .i64 v] 2 (0, 0)) := by
      rw [ht3.1.block w2.heap.size (by simp) (by intro e; have := Option.some.inj e; omega), heap_alloc_new]
    have hcell := cell_of_row w3 w2.heap.size r _ _ (0, 0) hrow
    have hr7 : r < 5 := by omega
    obtain ⟨u, hu, huc⟩ : ∃ u : Int, (-9223372036854775808 ≤ u ∧ u ≤ 9223372036854775807) ∧ w3.cell? ⟨w2.heap.size, r, none⟩ = some (.int .i64 u) := by
      rw [hcell]
      have hq : r = 0 ∨ r = 1 ∨ r = 2 ∨ r = 3 ∨ r = 4 := by omega
      rcases hq with rfl | rfl | rfl | rfl | rfl
      · exact ⟨0, by decide, rfl⟩
      · exact ⟨-1, by decide, rfl⟩
      · exact ⟨1073741788, by decide, rfl⟩
      · exact ⟨1073741789, by decide, rfl⟩
      · exact ⟨v, hv, rfl⟩
    have q2 : (r : Int) < 5 := by omega
    clear hrow hcell hs3 ht3 hr
    go_wp2
    go_ret
    exact ⟨⟨u, hu, rfl⟩, H3.out, G3.out⟩
  · go_wp2_with fail
    refine (n_any g a len cap 6 _ (by omega) H1.out).mono ?_
    rintro e w2 ⟨r, rfl, hr, hs2, ht2⟩
    have H2 : Hid (Src g a len cap w2) := hs2
    have G2 : Hid (Grows g w w2) := G1.out.trans ht2.grows
    have hr' : (r : Int) ≤ 6 := by omega
    clear hs2 ht2 hr
    go_wp2
    go_ret
    exact ⟨⟨_, by omega, rfl⟩, H2.out, G2.out⟩
end Go.Proofs.YtkhdjmjbdpmdnaaGreatDoor
namespace Go.Proofs.YtkhdjmjbdpmdnaaGreatDoor
open Go.RowKit

theorem idx_const (c : ByteArray) (r : Nat) (h : r < c.size) : ∃ z : Nat, z ≤ 255 ∧ ∀ w, (Instr.index 9 (.string c) (.int .i64 (r : Int))).run Tryz.prog w = .ok (.int .u8 (z : Int)) w := by
  refine ⟨c[r].toNat, by have := c[r].toNat_lt; omega, fun w => ?_⟩
  rw [run_index_string w _ c .i64 _ Tryz.underlying9, dif_pos ⟨by omega, by omega⟩]
  simp
theorem conv_one (W : World) (z : Int) : (convert 22 9 (.slice (some ⟨W.heap.size, 0, none⟩) 1 1)).run Tryz.prog (W.alloc (.cells #[.int .u8 z] 5)) = .ok (.string (strOfNums [z])) (W.alloc (.cells #[.int .u8 z] 5)) :=
  run_convert_bytes_arg _ 22 5 Tryz.underlying22 Tryz.underlying5 W.heap.size 0 1 1 [z] rfl (fun i hi => by
    obtain rfl : i = 0 := by omega
    simp) 9 Tryz.underlying9
theorem ext_size (s : ByteArray) (a b : Nat) : (s.extract a b).size ≤ s.size := by rw [ByteArray.size_extract]; omega
theorem ext_two (s : ByteArray) (a b : Nat) (h : a ≤ b) : (s.extract 0 a).size + (s.extract b s.size).size ≤ s.size := by
  rw [ByteArray.size_extract, ByteArray.size_extract]; omega
theorem slice_to (s : ByteArray) (k : Nat) (h : k ≤ s.size) (w : World) : (Instr.slice 9 (.string s) none (some (.int .i64 (k : Int))) none).run Tryz.prog w = .ok (.string (s.extract 0 k)) w := by
  simp [Instr.slice, run_underlying Tryz.underlying9, Instr.sliceBounds, run_sliceBound, h]
theorem slice_from (s : ByteArray) (k : Nat) (i : Int) (e : i = (k : Int)) (h : k ≤ s.size) (w : World) : (Instr.slice 9 (.string s) (some (.int .i64 i)) none none).run Tryz.prog w = .ok (.string (s.extract k s.size)) w := by
  subst e
  simp [Instr.slice, run_underlying Tryz.underlying9, Instr.sliceBounds, run_sliceBound, h]
set_option maxHeartbeats 2000000 in
set_option maxRecDepth 100000 in
theorem spoil_any (g : Nat) (a : Option Addr) (len cap : Nat) (t : ByteArray) (w : World) (ht : t.size ≤ 1000000) (hs : Src g a len cap w) (hblk : ∀ x, 0 < len → a = some x → x.block < w.heap.size) :
    Calls Tryz.prog 72 #[.pointer (some ⟨g, 0, none⟩), .string t] w fun e w' => UpT (t.size + 1) e ∧ Src g a len cap w' ∧ Grows g w w' := by
  have hglt := hs.lt
  have HS : Hid (Src g a len cap w) := hs
  have HBk : Hid (∀ x, 0 < len → a = some x → x.block < w.heap.size) := hblk
  clear hs hblk
  go_enter Tryz.func72, Tryz.ntmps72
  go_wp2_with fail
  rw [show ((t.size : Int) + 1) = ((t.size + 1 : Nat) : Int) from by omega]
  refine (n_any g a len cap (t.size + 1) _ (by omega) HS.out).mono ?_
  rintro e w1 ⟨k, rfl, hk, hs1, ht1⟩
  have hk' : k ≤ t.size := by omega
  have H1 : Hid (Src g a len cap w1) := hs1
  have G1 : Hid (Grows g w w1) := ht1.grows
  clear hk hs1 ht1
  go_wp2_with fail
  refine (n_any g a len cap 17 _ (by omega) H1.out).mono ?_
  rintro e w2 ⟨r, rfl, hr, hs2, ht2⟩
  obtain ⟨z, hz, hidx⟩ := idx_const ⟨#[32, 10, 48, 97, 45, 110, 44, 58, 93, 255, 40, 120, 126, 49, 128, 225, 59]⟩ r (show r < 17 by omega)
  have H2 : Hid (Src g a len cap w2) := hs2
  have G2 : Hid (Grows g w w2) := G1.out.trans ht2.grows
  clear hr hs2 ht2
  have hcv := conv_one w2 (z : Int)
  obtain ⟨c, hc⟩ : ∃ c, c = strOfNums [(z : Int)] := ⟨_, rfl⟩
  have hcs : c.size = 1 := by rw [hc, size_nums]; rfl
  rw [← hc] at hcv
  clear hc
  have s1 := slice_to t k hk'
  have s2 := slice_from t k (k : Int) rfl hk'
  have hp12 := ext_two t k k (Nat.le_refl _)
  obtain ⟨p1, hp1⟩ : ∃ p, p = t.extract 0 k := ⟨_, rfl⟩
  obtain ⟨p2, hp2⟩ : ∃ p, p = t.extract k t.size := ⟨_, rfl⟩
  rw [← hp1] at s1
  rw [← hp2] at s2
  rw [← hp1, ← hp2] at hp12
  have a1 := fun W => run_string_add_sum (P := Tryz.prog) (w := W) p1 c (by omega)
  have a2 := fun W => run_string_add_sum (P := Tryz.prog) (w := W) (p1 ++ c) p2 (by rw [ByteArray.size_append]; omega)
  have HP : Hid (p1 = t.extract 0 k) := hp1
  have hfin2 : Hid ((p1 ++ c ++ p2).size ≤ t.size + 1) := (by rw [ByteArray.size_append, ByteArray.size_append]; omega : (p1 ++ c ++ p2).size ≤ t.size + 1)
  clear hp1 hp2
  by_cases hkt : k = t.size
  · have ek : ((k : Int) == (t.size : Int)) = true := by rw [beq_iff_eq]; omega
    have G3 : Hid (Grows g w (w2.alloc (.cells #[.int .u8 (z : Int)] 5))) := G2.out.alloc _
    have H3 : Hid (Src g a len cap (w2.alloc (.cells #[.int .u8 (z : Int)] 5))) := H2.out.alloc _
    clear hkt
    go_wp2_with fail
    go_quiet (fail)
    go_wp2
    go_ret
    exact ⟨⟨_, hfin2.out, rfl⟩, H3.out.drewN _, ⟨G3.out.os, G3.out.tape, G3.out.output, G3.out.size, G3.out.block⟩⟩
  have ek : ((k : Int) == (t.size : Int)) = false := by rw [beq_eq_false_iff_ne]; omega
  have hkl : k < t.size := by omega
  clear hkt
  have s3 := slice_from t (k + 1) ((k : Int) + 1) (by omega) (by omega)
  have hp13 := ext_two t k (k + 1) (by omega)
  obtain ⟨p3, hp3⟩ : ∃ p, p = t.extract (k + 1) t.size := ⟨_, rfl⟩
  rw [← hp3] at s3
  rw [← HP.out, ← hp3] at hp13
  have a3 := fun W => run_string_add_sum (P := Tryz.prog) (w := W) p1 p3 (by omega)
  have a4 := fun W => run_string_add_sum (P := Tryz.prog) (w := W) (p1 ++ c) p3 (by rw [ByteArray.size_append]; omega)
  have hfin3 : Hid ((p1 ++ p3).size ≤ t.size + 1) := (by rw [ByteArray.size_append]; omega : (p1 ++ p3).size ≤ t.size + 1)
  have hfin4 : Hid ((p1 ++ c ++ p3).size ≤ t.size + 1) := (by rw [ByteArray.size_append, ByteArray.size_append]; omega : (p1 ++ c ++ p3).size ≤ t.size + 1)
  clear hp3
  have ew : IntKind.i64.wrap ((k : Int) + 1) = (k : Int) + 1 := by rw [IntKind.wrap_i64]; omega
  go_wp2_with fail
  refine (one_any g a len cap 3 _ (by omega) (H2.out.alloc _)).mono ?_
  rintro e w3 ⟨hb, hs3, ht3⟩
  have H3 : Hid (Src g a len cap w3) := hs3
  have G3 : Hid (Grows g w w3) := (G2.out.alloc _).trans ht3.grows
  clear hs3 ht3 hcv hidx
  rcases hb with rfl | rfl
  · go_wp2_with fail
    go_quiet (fail)
    go_wp2
    go_ret
    exact ⟨⟨_, hfin2.out, rfl⟩, H3.out.drewN _, ⟨G3.out.os, G3.out.tape, G3.out.output, G3.out.size, G3.out.block⟩⟩
  go_wp2_with fail
  refine (one_any g a len cap 2 _ (by omega) H3.out).mono ?_
  rintro e w4 ⟨hb, hs4, ht4⟩
  have H4 : Hid (Src g a len cap w4) := hs4
  have G4 : Hid (Grows g w w4) := G3.out.trans ht4.grows
  clear hs4 ht4
  rcases hb with rfl | rfl
  · go_wp2_with fail
    go_quiet (fail)
    go_wp2
    go_ret
    exact ⟨⟨_, hfin3.out, rfl⟩, H4.out.drewN _, ⟨G4.out.os, G4.out.tape, G4.out.output, G4.out.size, G4.out.block⟩⟩
  · go_wp2_with fail
    go_quiet (fail)
    go_wp2
    go_ret
    exact ⟨⟨_, hfin4.out, rfl⟩, H4.out.drewN _, ⟨G4.out.os, G4.out.tape, G4.out.output, G4.out.size, G4.out.block⟩⟩
end Go.Proofs.YtkhdjmjbdpmdnaaGreatDoor
namespace Go.Proofs.YtkhdjmjbdpmdnaaGreatDoor
open Go.RowKit

section
variable {w W W' : World} {a : Option Addr} {len cap : Nat}
theorem sk_spoil (t : ByteArray) (ht : t.size ≤ 1000000) (h : SS w a len cap W) :
    Calls Tryz.prog 72 #[.pointer (some ⟨w.heap.size, 0, none⟩), .string t] W fun e w' => UpT (t.size + 1) e ∧ SS w a len cap w' := by
  refine (spoil_any w.heap.size a len cap t W ht h.1 h.blk).mono ?_
  rintro e w' ⟨hb, h1, h2⟩
  exact ⟨hb, h.grows h1 h2⟩
theorem sk_secret (h : SS w a len cap W) :
    Calls Tryz.prog 44 #[.pointer (some ⟨w.heap.size, 0, none⟩)] W fun e w' => AnyI e ∧ SS w a len cap w' ∧ Grows w.heap.size W w' := by
  refine (secret_any w.heap.size a len cap W h.1).mono ?_
  rintro e w' ⟨hb, h1, h2⟩
  exact ⟨hb, h.grows h1 h2, h2⟩
end
end Go.Proofs.YtkhdjmjbdpmdnaaGreatDoor
namespace Go.Proofs.YtkhdjmjbdpmdnaaGreatDoor
open Go.RowKit

set_option maxHeartbeats 4000000 in
set_option maxRecDepth 100000 in
theorem specSigD (k e s : Int) (w : World) (hk : -9223372036854775808 ≤ k ∧ k ≤ 9223372036854775807) (he : -9223372036854775808 ≤ e ∧ e ≤ 9223372036854775807) (hs : -9223372036854775808 ≤ s ∧ s ≤ 9223372036854775807) :
    Calls Tryz.prog 60 #[.agg #[.int .i64 k, .int .i64 e, .int .i64 s]] w fun r w' => r = .returned (.string (sigD k e s)) ∧ Below w.heap.size w w' := by
  have y1 := putS_size k
  have y2 := putS_size e
  have y3 := putS_size s
  have y4 := sigT_le k e s
  obtain ⟨R, hR⟩ : ∃ R, R = sigD k e s := ⟨_, rfl⟩
  rw [← hR]
  obtain ⟨x1, q1⟩ : ∃ q, (⟨#[0]⟩ : ByteArray) ++ putS k = q := ⟨_, rfl⟩
  have s1 : x1.size ≤ 11 := by rw [← q1, ByteArray.size_append]; show 1 + _ ≤ _; omega
  obtain ⟨x2, q2⟩ : ∃ q, x1 ++ putS e = q := ⟨_, rfl⟩
  have s2 : x2.size ≤ 21 := by rw [← q2, ByteArray.size_append]; omega
  obtain ⟨x3, q3⟩ : ∃ q, x2 ++ putS s = q := ⟨_, rfl⟩
  have e3 : x3 = sigT k e s := by rw [← q3, ← q2, ← q1]; rfl
  have a1 : ¬ 9223372036854775807 < (⟨#[0]⟩ : ByteArray).size + (putS k).size := by show ¬ _ < 1 + _; omega
  have a1' : ¬ 9223372036854775807 < 1 + (putS k).size := by omega
  have a2 : ¬ 9223372036854775807 < x1.size + (putS e).size := by omega
  have a3 : ¬ 9223372036854775807 < x2.size + (putS s).size := by omega
  obtain ⟨w1, hw1⟩ : ∃ w1, w1 = w.alloc (.cells #[.int .i64 k, .int .i64 e, .int .i64 s] 25 (0, 0)) := ⟨_, rfl⟩
  have r0 : w1.heap[w.heap.size]? = some (.cells [Value.int .i64 k, .int .i64 e, .int .i64 s].toArray 25 (0, 0)) := by rw [hw1]; exact heap_alloc_new w _
  have B1 : Hid (Below w.heap.size w w1) := by rw [hw1]; exact (Below.refl _ _).alloc (Nat.le_refl _) _
  have z1 : w.heap.size < w1.heap.size := by rw [hw1]; simp
  have HK : Hid (∀ V, Below w1.heap.size w1 V → V.cell? ⟨w.heap.size, 0, none⟩ = some (.int .i64 k) ∧ V.cell? ⟨w.heap.size, 1, none⟩ = some (.int .i64 e) ∧ V.cell? ⟨w.heap.size, 2, none⟩ = some (.int .i64 s)) := fun V hV => by
    have hP := (hV.block _ z1).trans r0
    exact ⟨rowFacts hP 0 _ rfl, rowFacts hP 1 _ rfl, rowFacts hP 2 _ rfl⟩
  have HB : Hid (∀ V, Below w1.heap.size w1 V → Below w.heap.size w V) := fun V hV => B1.out.trans (hV.mono B1.out.size)
  have PP : Hid (∀ V (n : Int), Hid (Below w1.heap.size w1 V) → -9223372036854775808 ≤ n ∧ n ≤ 9223372036854775807 → Calls Tryz.prog 130 #[.int .i64 n] V fun e W => e = .returned (.string (putS n)) ∧ Hid (Below w1.heap.size w1 W)) := fun V n hV hn => (specPut n V hn.1 hn.2).mono fun e W h => ⟨h.1, hV.out.trans (h.2.mono hV.out.size)⟩
  have P3 : Hid (∀ V, Hid (Below w1.heap.size w1 V) → Calls Tryz.prog 132 #[.int .i64 3, .string x3] V fun e W => e = .returned (.string (R)) ∧ Hid (Below w1.heap.size w1 W)) := fun V hV => by
    rw [hR, e3]
    exact (specThing 3 (sigT k e s) V (by omega) (by omega) (by omega)).mono fun e W h => ⟨h.1, hV.out.trans (h.2.mono hV.out.size)⟩
  have I1 : Hid (Below w1.heap.size w1 w1) := Below.refl _ _
  have D1 : Hid (Below w1.heap.size w1 w1.drew) := I1.out.drew
  clear r0 z1 B1 y1 y2 y3 y4 s1 s2 hR e3
  obtain ⟨c0, c1, c2⟩ := HK.out w1 I1.out
  go_enter Tryz.func60, Tryz.ntmps60
  go_upto_region 1 with fail
  rw [← hw1]
  clear hw1
  go_region_held3 (fun V => V.cell? ⟨w.heap.size, 0, none⟩ = some (.int .i64 k) ∧ V.cell? ⟨w.heap.size, 1, none⟩ = some (.int .i64 e) ∧ V.cell? ⟨w.heap.size, 2, none⟩ = some (.int .i64 s)) (first | (refine ⟨?_, ?_, ?_⟩ <;> assumption) | exact HK.out _ (Hid.out (by assumption)))
    (first
      | (go_at_call 130; refine (PP.out _ _ (by assumption) (by assumption)).mono ?_; rintro r V1 ⟨rfl, k1⟩)
      | (go_at_call 132; refine (P3.out _ (by assumption)).mono ?_; rintro r V2 ⟨rfl, k2⟩))
  go_wp2
  go_ret
  exact ⟨rfl, HB.out _ k2.out⟩
end Go.Proofs.YtkhdjmjbdpmdnaaGreatDoor
namespace Go.Proofs.YtkhdjmjbdpmdnaaGreatDoor
open Go.RowKit

set_option linter.unusedSimpArgs false in
set_option maxHeartbeats 4000000 in
set_option maxRecDepth 100000 in
theorem specCrlBytes (c : Lst) (a : Option Addr) (cap : Nat) (w : World) (hi : c.issuer.size ≤ maxLen) (hl : c.serials.length ≤ 1048576) (ha : IsInts w a c.serials) :
    Calls Tryz.prog 33 #[c.val (.slice a c.serials.length cap)] w fun e w' => e = .returned (.string (crlBytesD c)) ∧ Below w.heap.size w w' := by
  have HP : Hid (∀ V, IsInts V a c.serials → Calls Tryz.prog 96 #[c.val (.slice a c.serials.length cap)] V fun e w' => e = .returned (.bool (listB c)) ∧ Below V.heap.size V w') := fun V hV => specList c a cap V hi hl hV
  have HN : Hid (listB c = false ∨ sigRB c.sk c.se c.ss = false → crlBytesD c = ⟨#[]⟩) := fun h => by
    show (if _ then _ else _) = _
    rw [if_neg]
    unfold crlB
    rcases h with h | h <;> rw [h] <;> simp
  have HY : Hid (listB c = true → sigRB c.sk c.se c.ss = true → crlBytesD c = seqD (listD c ++ sigD c.sk c.se c.ss)) := fun h h' => if_pos (by unfold crlB; rw [h, h']; rfl)
  have HQ : Hid (listB c = true → ∀ V, IsInts V a c.serials → Calls Tryz.prog 97 #[c.val (.slice a c.serials.length cap)] V fun e w' => e = .returned (.string (listD c)) ∧ Below V.heap.size V w') := fun h V hV => specListD c a cap V (list_fits h) hV
  have HZ : Hid (listB c = true → (listD c).size ≤ 700) := fun h => listD_le (list_fits h)
  have HSg : Hid (sigRB c.sk c.se c.ss = true → ∀ V, Calls Tryz.prog 60 #[.agg #[.int .i64 c.sk, .int .i64 c.se, .int .i64 c.ss]] V fun r w' => r = .returned (.string (sigD c.sk c.se c.ss)) ∧ Below V.heap.size V w') := fun h V => by
    obtain ⟨h1, h2, h3, h4⟩ := sigRB_lt h
    exact specSigD _ _ _ V (by omega) (by omega) (by omega)
  have zS := sigD_le c.sk c.se c.ss
  generalize crlBytesD c = R at *
  generalize listB c = P at *
  generalize listD c = D at *
  clear hi hl
  obtain ⟨iss, fr, till, serials, sk, se, ss⟩ := c
  unfold Lst.val at *
  simp only at HP HQ HSg HY HN zS ha ⊢
  generalize sigD sk se ss = G at *
  generalize serials.length = nl at *
  obtain ⟨w1, hw1⟩ : ∃ w1, w1 = w.alloc (.cells #[.string iss, .int .i64 fr, .int .i64 till, .slice a nl cap, .int .i64 sk, .int .i64 se, .int .i64 ss] 53 (0, 0)) := ⟨_, rfl⟩
  have r0 : w1.heap[w.heap.size]? = some (.cells [Value.string iss, .int .i64 fr, .int .i64 till, .slice a nl cap, .int .i64 sk, .int .i64 se, .int .i64 ss].toArray 53 (0, 0)) := by rw [hw1]; exact heap_alloc_new w _
  have B1 : Hid (Below w.heap.size w w1) := by rw [hw1]; exact (Below.refl _ _).alloc (Nat.le_refl _) _
  have z1 : w.heap.size < w1.heap.size := by rw [hw1]; simp
  have HK : Hid (∀ V, Below w1.heap.size w1 V → V.cell? ⟨w.heap.size, 0, none⟩ = some (.string iss) ∧ V.cell? ⟨w.heap.size, 1, none⟩ = some (.int .i64 fr) ∧ V.cell? ⟨w.heap.size, 2, none⟩ = some (.int .i64 till) ∧ V.cell? ⟨w.heap.size, 3, none⟩ = some (.slice a nl cap) ∧ V.cell? ⟨w.heap.size, 4, none⟩ = some (.int .i64 sk) ∧ V.cell? ⟨w.heap.size, 5, none⟩ = some (.int .i64 se) ∧ V.cell? ⟨w.heap.size, 6, none⟩ = some (.int .i64 ss)) := fun V hV => by
    have hP := (hV.block _ z1).trans r0
    exact ⟨rowFacts hP 0 _ rfl, rowFacts hP 1 _ rfl, rowFacts hP 2 _ rfl, rowFacts hP 3 _ rfl, rowFacts hP 4 _ rfl, rowFacts hP 5 _ rfl, rowFacts hP 6 _ rfl⟩
  have HA : Hid (∀ V, Below w1.heap.size w1 V → IsInts V a serials) := fun V hV => (ha.keep B1.out).keep hV
  have HB : Hid (∀ V, Below w1.heap.size w1 V → Below w.heap.size w V) := fun V hV => B1.out.trans (hV.mono B1.out.size)
  have I1 : Hid (Below w1.heap.size w1 w1) := Below.refl _ _
  have D1 : Hid (Below w1.heap.size w1 w1.drew) := I1.out.drew
  clear r0 z1 B1 ha
  go_enter Tryz.func33, Tryz.ntmps33
  go_upto_region 1 with fail
  rw [← hw1]
  clear hw1
  obtain ⟨c0, c1, c2, c3, c4, c5, c6⟩ := HK.out w1 I1.out
  go_wp2_with fail
  refine (HP.out _ (HA.out _ I1.out)).mono ?_
  rintro e w2 ⟨rfl, b2⟩
  have K2 : Hid (Below w1.heap.size w1 w2) := b2
  clear b2 c0 c1 c2 c3 c4 c5 c6 HP
  obtain ⟨c0, c1, c2, c3, c4, c5, c6⟩ := HK.out w2 K2.out
  cases P with
  | false =>
    have HF : Hid (R = ⟨#[]⟩) := HN.out (.inl rfl)
    go_wp2
    go_ret
    exact ⟨by rw [HF.out]; rfl, HB.out _ K2.out⟩
  | true =>
  go_wp2_with fail
  refine (specSigRight sk se ss _).mono ?_
  rintro e w3 ⟨rfl, b3⟩
  have K3 : Hid (Below w1.heap.size w1 w3) := K2.out.trans (b3.mono K2.out.size)
  clear b3 c0 c1 c2 c3 c4 c5 c6
  cases hs : sigRB sk se ss with
  | false =>
    have HF : Hid (R = ⟨#[]⟩) := HN.out (.inr hs)
    go_wp2
    go_ret
    exact ⟨by rw [HF.out]; rfl, HB.out _ K3.out⟩
  | true =>
  have hR := HY.out (by simp) hs
  have zD := HZ.out (by simp)
  have Q1 := HQ.out (by simp)
  have G1 := HSg.out hs
  have PB : Hid (∀ V, Hid (Below w1.heap.size w1 V) → Calls Tryz.prog 97 #[.agg #[.string iss, .int .i64 fr, .int .i64 till, .slice a nl cap, .int .i64 sk, .int .i64 se, .int .i64 ss]] V fun e W => e = .returned (.string D) ∧ Hid (Below w1.heap.size w1 W)) := fun V hV => (Q1 V (HA.out V hV.out)).mono fun e W h => ⟨h.1, hV.out.trans (h.2.mono hV.out.size)⟩
  have PG : Hid (∀ V, Hid (Below w1.heap.size w1 V) → Calls Tryz.prog 60 #[.agg #[.int .i64 sk, .int .i64 se, .int .i64 ss]] V fun e W => e = .returned (.string G) ∧ Hid (Below w1.heap.size w1 W)) := fun V hV => (G1 V).mono fun e W h => ⟨h.1, hV.out.trans (h.2.mono hV.out.size)⟩
  obtain ⟨x1, q1⟩ : ∃ q, D ++ G = q := ⟨_, rfl⟩
  have s1 : x1.size ≤ 1000 := by rw [← q1, ByteArray.size_append]; omega
  have a1 : ¬ 9223372036854775807 < D.size + G.size := by omega
  have PS : Hid (∀ V, Hid (Below w1.heap.size w1 V) → Calls Tryz.prog 58 #[.string x1] V fun e W => e = .returned (.string R) ∧ Hid (Below w1.heap.size w1 W)) := fun V hV => by
    rw [hR, q1]
    exact (specSeq x1 V (by omega)).mono fun e W h => ⟨h.1, hV.out.trans (h.2.mono hV.out.size)⟩
  have D3 : Hid (Below w1.heap.size w1 w3.drew) := K3.out.drew
  clear HN HY HZ HQ HSg Q1 G1 hR zD zS s1 hs
  obtain ⟨c0, c1, c2, c3, c4, c5, c6⟩ := HK.out w3 K3.out
  go_wp2_with fail
  go_region_held3 (fun V => V.cell? ⟨w.heap.size, 0, none⟩ = some (.string iss) ∧ V.cell? ⟨w.heap.size, 1, none⟩ = some (.int .i64 fr) ∧ V.cell? ⟨w.heap.size, 2, none⟩ = some (.int .i64 till) ∧ V.cell? ⟨w.heap.size, 3, none⟩ = some (.slice a nl cap) ∧ V.cell? ⟨w.heap.size, 4, none⟩ = some (.int .i64 sk) ∧ V.cell? ⟨w.heap.size, 5, none⟩ = some (.int .i64 se) ∧ V.cell? ⟨w.heap.size, 6, none⟩ = some (.int .i64 ss)) (first | (refine ⟨?_, ?_, ?_, ?_, ?_, ?_, ?_⟩ <;> assumption) | exact HK.out _ (Hid.out (by assumption)))
    (first
      | (go_at_call 97; refine (PB.out _ (by assumption)).mono ?_; rintro r V1 ⟨rfl, k1⟩)
      | (go_at_call 60; refine (PG.out _ (by assumption)).mono ?_; rintro r V2 ⟨rfl, k2⟩)
      | (go_at_call 58; refine (PS.out _ (by assumption)).mono ?_; rintro r V3 ⟨rfl, k3⟩))
  go_wp2
  go_ret
  exact ⟨rfl, HB.out _ k3.out⟩
end Go.Proofs.YtkhdjmjbdpmdnaaGreatDoor
