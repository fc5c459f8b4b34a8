/- spec.PathName, walked. laws.lwAt, walked: a number below most, off the bytes that were handed in. A signed paper is good. Plain mathematics. What is asked for, signed. Plain mathematics: no program is named here. A signed list is good. Plain mathematics. The papers that FnPath makes itself, and what is known of them. Plain mathematics: no program is named here. impl.copyText, walked. impl.copyTexts, walked. impl.copyCert, walked. -/
import Derived.Test.YtegmmaomaegjjaaGreatDoorPT27
import Derived.Test.YtegmmaomaegjjaaGreatDoorPT01
import Derived.Test.YtegmmaomaegjjaaGreatDoorPT18
import Derived.Test.YtegmmaomaegjjaaGreatDoorPT05
import Derived.Test.YtegmmaomaegjjaaGreatDoorPT12
import Derived.Test.YtegmmaomaegjjaaGreatDoorPT02
import Derived.Test.YtegmmaomaegjjaaGreatDoorPT03
import Derived.Test.YtegmmaomaegjjaaGreatDoorPT04
import Derived.Test.YtegmmaomaegjjaaGreatDoorPT06
import Derived.Deep.Cut
namespace Go.Proofs.YtegmmaomaegjjaaGreatDoor
open Go.RowKit

set_option linter.unusedSimpArgs false in
set_option maxHeartbeats 4000000 in
set_option maxRecDepth 100000 in
theorem specPathN (r c : Paper) (l : Lst) (t : Int) (name : ByteArray) (ra ca la : Option Addr) (rc cc lc : Nat) (w : World) (hr : PIn r) (hc : PIn c) (hl : LIn l) (hra : IsStrs w ra r.names) (hca : IsStrs w ca c.names) (hla : IsInts w la l.serials) (_ : name.size ≤ maxLen) :
    Calls Tryz.prog 9 #[r.val (.slice ra r.names.length rc), c.val (.slice ca c.names.length cc), l.val (.slice la l.serials.length lc), .int .i64 t, .string name] w fun e w' => e = .returned (.bool (pathN r c l t name)) ∧ Below w.heap.size w w' := by
  have HP : Hid (∀ V, Below w.heap.size w V → Calls Tryz.prog 6 #[r.val (.slice ra r.names.length rc), c.val (.slice ca c.names.length cc), l.val (.slice la l.serials.length lc), .int .i64 t] V fun e W => e = .returned (.int .i64 (pathC r c l t)) ∧ Below V.heap.size V W) := fun V hV => specPath r c l t ra ca la rc cc lc V hr hc hl (hra.keep hV) (hca.keep hV) (hla.keep hV)
  have HA : Hid (∀ V, Below w.heap.size w V → IsStrs V ca c.names) := fun V hV => hca.keep hV
  have HL : Hid (c.names.length ≤ 1048576) := hc.2.2.1
  have HLo : Hid (20000 < name.size → pathN r c l t name = false) := fun h => pathN_long h
  have HV : Hid (pathN r c l t name = (decide (pathC r c l t = 0) && textTo c.names name c.names.length)) := rfl
  clear hr hc hl hra hca hla
  have HY : Hid (textTo c.names name c.names.length = textTo c.names name c.names.length) := rfl
  generalize pathN r c l t name = R at *
  generalize pathC r c l t = X at *
  obtain ⟨Y, hY⟩ : ∃ Y, Y = textTo c.names name c.names.length := ⟨_, rfl⟩
  rw [← hY] at HV
  have HYt : Hid (Y = textTo c.names name c.names.length) := hY
  clear hY HY
  obtain ⟨rser, riss, rsub, rfr, rtill, rkey, rnames, rca, rsk, rse, rss⟩ := r
  obtain ⟨cser, ciss, csub, cfr, ctill, ckey, cnames, cca, csk, cse, css⟩ := c
  obtain ⟨liss, lfr, ltill, lserials, lsk, lse, lss⟩ := l
  unfold Paper.val at *
  unfold Lst.val at *
  simp only at HP HA HL HYt ⊢
  generalize rnames.length = rn at *
  obtain ⟨cn, hcn⟩ : ∃ cn, cn = cnames.length := ⟨_, rfl⟩
  rw [← hcn] at HP HL HYt ⊢
  have HCn : Hid (cn = cnames.length) := hcn
  clear hcn
  generalize lserials.length = ln at *
  obtain ⟨w1, hw1⟩ : ∃ w1, w1 = ((w.alloc (.cells #[.int .i64 rser, .string riss, .string rsub, .int .i64 rfr, .int .i64 rtill, .int .i64 rkey, .slice ra rn rc, .bool rca, .int .i64 rsk, .int .i64 rse, .int .i64 rss] 27 (0, 0))).alloc (.cells #[.int .i64 cser, .string ciss, .string csub, .int .i64 cfr, .int .i64 ctill, .int .i64 ckey, .slice ca cn cc, .bool cca, .int .i64 csk, .int .i64 cse, .int .i64 css] 27 (0, 0))).alloc (.cells #[.string liss, .int .i64 lfr, .int .i64 ltill, .slice la ln lc, .int .i64 lsk, .int .i64 lse, .int .i64 lss] 30 (0, 0)) := ⟨_, rfl⟩
  have q0 : w1.heap[w.heap.size]? = some (.cells [Value.int .i64 rser, .string riss, .string rsub, .int .i64 rfr, .int .i64 rtill, .int .i64 rkey, .slice ra rn rc, .bool rca, .int .i64 rsk, .int .i64 rse, .int .i64 rss].toArray 27 (0, 0)) := by rw [hw1, Below.heap_alloc _ _ _ (by simp; omega), Below.heap_alloc _ _ _ (by simp)]; exact heap_alloc_new w _
  have q1 : w1.heap[w.heap.size + 1]? = some (.cells [Value.int .i64 cser, .string ciss, .string csub, .int .i64 cfr, .int .i64 ctill, .int .i64 ckey, .slice ca cn cc, .bool cca, .int .i64 csk, .int .i64 cse, .int .i64 css].toArray 27 (0, 0)) := by rw [hw1, Below.heap_alloc _ _ _ (by simp)]; exact heap_alloc2 w _ _
  have q2 : w1.heap[w.heap.size + 1 + 1]? = some (.cells [Value.string liss, .int .i64 lfr, .int .i64 ltill, .slice la ln lc, .int .i64 lsk, .int .i64 lse, .int .i64 lss].toArray 30 (0, 0)) := by rw [hw1]; have := heap_alloc_new ((w.alloc (.cells #[.int .i64 rser, .string riss, .string rsub, .int .i64 rfr, .int .i64 rtill, .int .i64 rkey, .slice ra rn rc, .bool rca, .int .i64 rsk, .int .i64 rse, .int .i64 rss] 27 (0, 0))).alloc (.cells #[.int .i64 cser, .string ciss, .string csub, .int .i64 cfr, .int .i64 ctill, .int .i64 ckey, .slice ca cn cc, .bool cca, .int .i64 csk, .int .i64 cse, .int .i64 css] 27 (0, 0))) (.cells #[.string liss, .int .i64 lfr, .int .i64 ltill, .slice la ln lc, .int .i64 lsk, .int .i64 lse, .int .i64 lss] 30 (0, 0)); simpa using this
  have P1 : Hid (Below w.heap.size w w1) := by rw [hw1]; exact (((Below.refl _ _).alloc (Nat.le_refl _) _).alloc (by simp) _).alloc (by simp; omega) _
  have HB : Hid (∀ V, Below w1.heap.size w1 V → Below w.heap.size w V) := fun V hV => P1.out.trans (hV.mono P1.out.size)
  have I1 : Hid (Below w1.heap.size w1 w1) := Below.refl _ _
  have KR : Hid (∀ V, Hid (Below w1.heap.size w1 V) → V.cell? ⟨w.heap.size, 0, none⟩ = some (.int .i64 rser) ∧ V.cell? ⟨w.heap.size, 1, none⟩ = some (.string riss) ∧ V.cell? ⟨w.heap.size, 2, none⟩ = some (.string rsub) ∧ V.cell? ⟨w.heap.size, 3, none⟩ = some (.int .i64 rfr) ∧ V.cell? ⟨w.heap.size, 4, none⟩ = some (.int .i64 rtill) ∧ V.cell? ⟨w.heap.size, 5, none⟩ = some (.int .i64 rkey) ∧ V.cell? ⟨w.heap.size, 6, none⟩ = some (.slice ra rn rc) ∧ V.cell? ⟨w.heap.size, 7, none⟩ = some (.bool rca) ∧ V.cell? ⟨w.heap.size, 8, none⟩ = some (.int .i64 rsk) ∧ V.cell? ⟨w.heap.size, 9, none⟩ = some (.int .i64 rse) ∧ V.cell? ⟨w.heap.size, 10, none⟩ = some (.int .i64 rss)) := fun V hV => by
    have hP := (hV.out.block _ (heap_lt q0)).trans q0
    exact ⟨rowFacts hP 0 _ rfl, rowFacts hP 1 _ rfl, rowFacts hP 2 _ rfl, rowFacts hP 3 _ rfl, rowFacts hP 4 _ rfl, rowFacts hP 5 _ rfl, rowFacts hP 6 _ rfl, rowFacts hP 7 _ rfl, rowFacts hP 8 _ rfl, rowFacts hP 9 _ rfl, rowFacts hP 10 _ rfl⟩
  have KC : Hid (∀ V, Hid (Below w1.heap.size w1 V) → V.cell? ⟨w.heap.size + 1, 0, none⟩ = some (.int .i64 cser) ∧ V.cell? ⟨w.heap.size + 1, 1, none⟩ = some (.string ciss) ∧ V.cell? ⟨w.heap.size + 1, 2, none⟩ = some (.string csub) ∧ V.cell? ⟨w.heap.size + 1, 3, none⟩ = some (.int .i64 cfr) ∧ V.cell? ⟨w.heap.size + 1, 4, none⟩ = some (.int .i64 ctill) ∧ V.cell? ⟨w.heap.size + 1, 5, none⟩ = some (.int .i64 ckey) ∧ V.cell? ⟨w.heap.size + 1, 6, none⟩ = some (.slice ca cn cc) ∧ V.cell? ⟨w.heap.size + 1, 7, none⟩ = some (.bool cca) ∧ V.cell? ⟨w.heap.size + 1, 8, none⟩ = some (.int .i64 csk) ∧ V.cell? ⟨w.heap.size + 1, 9, none⟩ = some (.int .i64 cse) ∧ V.cell? ⟨w.heap.size + 1, 10, none⟩ = some (.int .i64 css)) := fun V hV => by
    have hP := (hV.out.block _ (heap_lt q1)).trans q1
    exact ⟨rowFacts hP 0 _ rfl, rowFacts hP 1 _ rfl, rowFacts hP 2 _ rfl, rowFacts hP 3 _ rfl, rowFacts hP 4 _ rfl, rowFacts hP 5 _ rfl, rowFacts hP 6 _ rfl, rowFacts hP 7 _ rfl, rowFacts hP 8 _ rfl, rowFacts hP 9 _ rfl, rowFacts hP 10 _ rfl⟩
  have KL : Hid (∀ V, Hid (Below w1.heap.size w1 V) → V.cell? ⟨w.heap.size + 1 + 1, 0, none⟩ = some (.string liss) ∧ V.cell? ⟨w.heap.size + 1 + 1, 1, none⟩ = some (.int .i64 lfr) ∧ V.cell? ⟨w.heap.size + 1 + 1, 2, none⟩ = some (.int .i64 ltill) ∧ V.cell? ⟨w.heap.size + 1 + 1, 3, none⟩ = some (.slice la ln lc) ∧ V.cell? ⟨w.heap.size + 1 + 1, 4, none⟩ = some (.int .i64 lsk) ∧ V.cell? ⟨w.heap.size + 1 + 1, 5, none⟩ = some (.int .i64 lse) ∧ V.cell? ⟨w.heap.size + 1 + 1, 6, none⟩ = some (.int .i64 lss)) := fun V hV => by
    have hP := (hV.out.block _ (heap_lt q2)).trans q2
    exact ⟨rowFacts hP 0 _ rfl, rowFacts hP 1 _ rfl, rowFacts hP 2 _ rfl, rowFacts hP 3 _ rfl, rowFacts hP 4 _ rfl, rowFacts hP 5 _ rfl, rowFacts hP 6 _ rfl⟩
  clear q0 q1 q2
  go_enter Tryz.func9, Tryz.ntmps9
  by_cases hlo : 20000 < name.size
  · have HF : Hid (R = false) := HLo.out hlo
    go_upto_region 1 with fail
    rw [← hw1]
    clear hw1
    go_wp2
    go_ret
    exact ⟨by rw [HF.out]; rfl, HB.out _ I1.out⟩
  go_upto_region 1 with fail
  rw [← hw1]
  clear hw1
  obtain ⟨x0, x1, x2, x3, x4, x5, x6, x7, x8, x9, x10⟩ := KR.out _ I1
  obtain ⟨y0, y1, y2, y3, y4, y5, y6, y7, y8, y9, y10⟩ := KC.out _ I1
  obtain ⟨z0, z1, z2, z3, z4, z5, z6⟩ := KL.out _ I1
  go_wp2_with fail
  refine (HP.out _ (HB.out _ I1.out)).mono ?_
  rintro e v1 ⟨rfl, k1⟩
  have K1 : Hid (Below w1.heap.size w1 v1) := I1.out.trans (k1.mono I1.out.size)
  clear k1 x0 x1 x2 x3 x4 x5 x6 x7 x8 x9 x10 y0 y1 y2 y3 y4 y5 y6 y7 y8 y9 y10 z0 z1 z2 z3 z4 z5 z6
  by_cases h0 : X = 0
  rotate_left
  · have HF : Hid (R = false) := by show _ = _; rw [HV.out, decide_eq_false h0]; rfl
    have hx : (X != 0) = true := by simpa using h0
    go_wp2
    go_ret
    exact ⟨by rw [HF.out]; rfl, HB.out _ K1.out⟩
  subst h0
  have HF : Hid (R = Y) := by show _ = _; rw [HV.out]; simp
  obtain ⟨y0, y1, y2, y3, y4, y5, y6, y7, y8, y9, y10⟩ := KC.out _ K1
  have HA1 : Hid (IsStrs v1 ca cnames) := HA.out _ (HB.out _ K1.out)
  have HKC : Hid (∀ V, Below v1.heap.size v1 V → V.cell? ⟨w.heap.size + 1, 6, none⟩ = some (.slice ca cn cc)) := fun V hV => (KC.out V (show Hid _ from K1.out.trans (hV.mono K1.out.size))).2.2.2.2.2.2.1
  have HB1 : Hid (Below w.heap.size w v1) := HB.out _ K1.out
  have HF0 : Hid (R = Y) := HF
  clear HP HA HLo HV KR KL K1 HB P1 HF y0 y1 y2 y3 y4 y5 y6 y7 y8 y9 y10 KC
  have y6 := HKC.out v1 (Below.refl _ _)
  go_wp2_with fail
  go_loopw [11] (fun i wr => ∃ k : Nat, k ≤ cn ∧ i = .int .i64 k ∧ textTo cnames name k = false ∧ Below v1.heap.size v1 wr) (fun i _ => cn - (intOf i).toNat)
  case atStart => exact ⟨0, Nat.zero_le _, rfl, rfl, Below.refl _ _⟩
  case round =>
    obtain ⟨k, hk, rfl, hok, hbr⟩ := hrel
    have HOk : Hid (textTo cnames name k = false) := hok
    have HBr : Hid (Below v1.heap.size v1 wr) := hbr
    have HBw : Hid (Below w.heap.size w wr) := HB1.out.trans (hbr.mono HB1.out.size)
    clear hok y6
    have y6 := HKC.out wr hbr
    have hcn := HL.out
    by_cases hlt : k < cn
    · have hlc : k < cnames.length := by rw [← HCn.out]; exact hlt
      obtain ⟨x, o, rfl, hc⟩ : ∃ x o, ca = some ⟨x, o, none⟩ ∧ ∀ i, i < cnames.length → wr.cell? ⟨x, o + i, none⟩ = some (.string (tAt cnames i)) := by
        rcases HA1.out.keep hbr with rfl | h
        · simp at hlc
        · exact h
      have hck := hc k hlc
      have a0 : (0 : Int) ≤ (k : Int) := by omega
      have b0 : (k : Int) < (cn : Int) := by omega
      by_cases he : ((tAt cnames k).toList == name.toList) = true
      · have HF : Hid (R = true) := by show _ = _; rw [HF0.out, HYt.out]; exact textTo_yes he hlt
        generalize tAt cnames k = t' at *
        clear hc hlc HYt hbr
        go_wp2
        go_ret
        exact ⟨by rw [HF.out]; rfl, HBw.out⟩
      · have he1 : ((tAt cnames k).toList == name.toList) = false := by simpa using he
        have HF : Hid (textTo cnames name (k + 1) = false) := textTo_more HOk.out he1
        generalize tAt cnames k = t' at *
        clear hc hlc he HYt hbr
        go_wp2
        go_roundw
        case rel => exact ⟨k + 1, by omega, by go_num, HF.out, HBr.out⟩
        case measure => simp [intOf]; omega
    · obtain rfl : k = cn := by omega
      have HF : Hid (R = false) := by show _ = _; rw [HF0.out, HYt.out]; exact HOk.out
      clear HYt hbr
      go_wp2
      go_ret
      exact ⟨by rw [HF.out]; rfl, HBw.out⟩
end Go.Proofs.YtegmmaomaegjjaaGreatDoor
namespace Go.Proofs.YtegmmaomaegjjaaGreatDoor
open Go.RowKit

theorem tmodNat (p m : Nat) : (p : Int).tmod (m : Int) = ((p % m : Nat) : Int) := by
  rw [Int.tmod_eq_emod_of_nonneg (Int.natCast_nonneg _)]; rfl
set_option maxHeartbeats 1000000 in
set_option maxRecDepth 100000 in
theorem lwAt (a : Option Addr) (len cap i most : Nat) (w : World) (hlen : len ≤ 1048576) (hm : most ≤ 2147483648) (hc : CodeAt a len w) :
    Calls Tryz.prog 10 #[.slice a len cap, .int .i64 (i : Int), .int .i64 (most : Int)] w fun e w' => (∃ k : Nat, (k < most ∨ k = 0) ∧ e = .returned (.int .i64 (k : Int))) ∧ w' = w := by
  by_cases h1 : most ≤ 1
  · have q : (most : Int) ≤ 1 := by omega
    go_enter Tryz.func10, Tryz.ntmps10
    go_wp2
    go_ret
    exact ⟨⟨0, .inr rfl, rfl⟩, rfl⟩
  by_cases h0 : len = 0
  · subst h0
    go_enter Tryz.func10, Tryz.ntmps10
    go_wp2
    go_ret
    exact ⟨⟨0, .inr rfl, rfl⟩, rfl⟩
  · obtain ⟨b, off, rfl, hcell⟩ : ∃ b off, a = some ⟨b, off, none⟩ ∧ ∀ i, i < len → ∃ z : Nat, z ≤ 255 ∧ w.cell? ⟨b, off + i, none⟩ = some (.int .u8 z) := by
      rcases hc with h | h
      · omega
      · exact h
    have hlt : i % len < len := Nat.mod_lt _ (by omega)
    obtain ⟨y, hy, hyc⟩ := hcell (i % len) hlt
    have q0 : (1 : Int) < (most : Int) := by omega
    have q1 : ((len : Int) == 0) = false := by rw [beq_eq_false_iff_ne]; omega
    have q5 : ((most : Int) == 0) = false := by rw [beq_eq_false_iff_ne]; omega
    have q2 := tmodNat i len
    have q3 := tmodNat y most
    have q6 : y % most < most := Nat.mod_lt _ (by omega)
    generalize i % len = j at *
    generalize y % most = x at *
    have q4 : (j : Int) < (len : Int) := by omega
    clear hcell hc
    go_enter Tryz.func10, Tryz.ntmps10
    go_wp2
    go_ret
    exact ⟨⟨x, .inl q6, rfl⟩, rfl⟩
end Go.Proofs.YtegmmaomaegjjaaGreatDoor
namespace Go.Proofs.YtegmmaomaegjjaaGreatDoor
open Go.RowKit

/-- What CertSign tells is nothing, or a good paper. -/
theorem signP_good {x k e s : Int} {c : Paper} (hv : signV x (bodyD c) = .agg #[.int .i64 k, .int .i64 e, .int .i64 s]) :
    (signP x c k e s).serial = 0 ∨ (certB (signP x c k e s) = true ∧ goodB (pubA x) (signP x c k e s) = true ∧ certBodyD (signP x c k e s) = certBodyD c) := by
  by_cases hh : secB x = true ∧ paperB c = true
  · right
    obtain ⟨h1, h2⟩ := hh
    rw [signP_yes h1 h2]
    obtain ⟨n, rfl, n1, n2⟩ := secB_nat h1
    have ht : (bodyD c).size ≤ 20000 := by have := bodyD_le (paper_fits h2); omega
    have hp := sign_passes (t := bodyD c) n1 n2 ht
    rw [signV_nat ht h1] at hv
    simp [sigV] at hv
    obtain ⟨rfl, rfl, rfl⟩ := hv
    have hb : bodyD ⟨c.serial, c.issuer, c.subject, c.fr, c.till, c.key, c.names, c.ca, ((pm 4 n 2147483579 : Nat) : Int), ((signE n (bodyD c) : Nat) : Int), ((signS n (bodyD c) : Nat) : Int)⟩ = bodyD c := rfl
    have hpp : paperB ⟨c.serial, c.issuer, c.subject, c.fr, c.till, c.key, c.names, c.ca, ((pm 4 n 2147483579 : Nat) : Int), ((signE n (bodyD c) : Nat) : Int), ((signS n (bodyD c) : Nat) : Int)⟩ = paperB c := rfl
    have hcb : certB ⟨c.serial, c.issuer, c.subject, c.fr, c.till, c.key, c.names, c.ca, ((pm 4 n 2147483579 : Nat) : Int), ((signE n (bodyD c) : Nat) : Int), ((signS n (bodyD c) : Nat) : Int)⟩ = true := by
      unfold certB
      rw [hpp, h2]
      simpa using hp.1
    refine ⟨hcb, ?_, ?_⟩
    · unfold goodB
      rw [hcb, hb, pubA_nat n h1]
      simp only [decide_true, Bool.true_and]
      exact hp.2
    · unfold certBodyD
      rw [hpp, hb]
  · left
    have e : signP x c k e s = zeroP := if_neg hh
    rw [e]
    rfl
end Go.Proofs.YtegmmaomaegjjaaGreatDoor
namespace Go.Proofs.YtegmmaomaegjjaaGreatDoor
open Go.RowKit

def zeroA : Ask := ⟨0, [], 0, 0, 0⟩
/-- When a secret may ask for names. -/
noncomputable def askOk (x : Int) (ns : List ByteArray) : Bool := secB x && namesB ns && decide (0 < ns.length)
/-- What CsrSign hands back, its Sig being k, e, s. -/
noncomputable def signA (x : Int) (ns : List ByteArray) (k e s : Int) : Ask := if askOk x ns = true then ⟨pubA x, ns, k, e, s⟩ else zeroA
theorem signA_yes {x : Int} {ns : List ByteArray} (h : askOk x ns = true) (k e s : Int) : signA x ns k e s = ⟨pubA x, ns, k, e, s⟩ := if_pos h
theorem signA_no {x : Int} {ns : List ByteArray} (h : askOk x ns = false) (k e s : Int) : signA x ns k e s = zeroA := if_neg (by rw [h]; simp)
theorem signA_len (x : Int) (ns : List ByteArray) (k e s : Int) : (signA x ns k e s).names.length ≤ ns.length := by
  unfold signA
  split
  · exact Nat.le_refl _
  · exact Nat.zero_le _
/-- What it signs. -/
def askO (x : Int) (ns : List ByteArray) : Ask := ⟨pubA x, ns, 0, 0, 0⟩
theorem pub_rightG {x : Int} (h : secB x = true) : rightG (pubA x) = true := by
  obtain ⟨n, rfl, n1, n2⟩ := secB_nat h
  rw [pubA_nat n h]
  exact pub_right n1 n2
theorem askOk_ask {x : Int} {ns : List ByteArray} (h : secB x = true) : askB (askO x ns) = (namesB ns && decide (0 < ns.length)) := by
  unfold askB askO
  simp only [pub_rightG h, Bool.true_and]
theorem signV_key {x : Int} {t : ByteArray} {k e s : Int} (hx : secB x = true) (ht : t.size ≤ 20000) (h : signV x t = .agg #[.int .i64 k, .int .i64 e, .int .i64 s]) : k = pubA x := by
  obtain ⟨n, rfl, _, _⟩ := secB_nat hx
  rw [signV_nat ht hx] at h
  rw [pubA_nat n hx]
  unfold sigV at h
  simp only [Value.agg.injEq, Array.mk.injEq, List.cons.injEq, Value.int.injEq, true_and, and_true] at h
  exact h.1.symm
theorem signV_is4 (x : Int) (t : ByteArray) : ∃ k e s : Int, signV x t = .agg #[.int .i64 k, .int .i64 e, .int .i64 s] := by
  by_cases h : t.size ≤ 20000 ∧ secB x = true
  · obtain ⟨n, rfl, _, _⟩ := secB_nat h.2
    exact ⟨_, _, _, signV_nat h.1 h.2⟩
  · exact ⟨0, 0, 0, signV_no h⟩
end Go.Proofs.YtegmmaomaegjjaaGreatDoor
namespace Go.Proofs.YtegmmaomaegjjaaGreatDoor
open Go.RowKit

/-- What CrlSign tells is nothing, or a good list. -/
theorem signL_good {x k e s : Int} {c : Lst} (hv : signV x (listD c) = .agg #[.int .i64 k, .int .i64 e, .int .i64 s]) :
    (signL x c k e s).issuer.size = 0 ∨ (crlB (signL x c k e s) = true ∧ crlGoodB (pubA x) (signL x c k e s) = true ∧ (signL x c k e s).serials = c.serials) := by
  by_cases hh : secB x = true ∧ listB c = true
  · right
    have eq1 : signL x c k e s = ⟨c.issuer, c.fr, c.till, c.serials, k, e, s⟩ := if_pos hh
    obtain ⟨h1, h2⟩ := hh
    rw [eq1]
    obtain ⟨n, rfl, n1, n2⟩ := secB_nat h1
    have ht : (listD c).size ≤ 20000 := by have := listD_le (list_fits h2); omega
    have hp := sign_passes (t := listD c) n1 n2 ht
    have hkk := signV_key h1 ht hv
    rw [signV_nat ht h1] at hv
    simp [sigV] at hv
    obtain ⟨rfl, rfl, rfl⟩ := hv
    have hlb : listB ⟨c.issuer, c.fr, c.till, c.serials, ((pm 4 n 2147483579 : Nat) : Int), ((signE n (listD c) : Nat) : Int), ((signS n (listD c) : Nat) : Int)⟩ = true := h2
    have hcb : crlB ⟨c.issuer, c.fr, c.till, c.serials, ((pm 4 n 2147483579 : Nat) : Int), ((signE n (listD c) : Nat) : Int), ((signS n (listD c) : Nat) : Int)⟩ = true := by
      unfold crlB
      rw [hlb]
      simpa using hp.1
    refine ⟨hcb, ?_, rfl⟩
    unfold crlGoodB
    rw [hcb]
    simp only [Bool.true_and]
    rw [Bool.and_eq_true]
    exact ⟨by simpa using hkk, hp.2⟩
  · left
    have e : signL x c k e s = zeroL := if_neg hh
    rw [e]
    rfl
end Go.Proofs.YtegmmaomaegjjaaGreatDoor
namespace Go.Proofs.YtegmmaomaegjjaaGreatDoor
open Go.RowKit

theorem name_lit {b : ByteArray} (h1 : 1 ≤ b.size) (h2 : b.size ≤ 40) (h : ∀ j, (h : j < b.size) → 97 ≤ (b[j].toNat : Int) ∧ (b[j].toNat : Int) ≤ 122) : nameB b = true := by
  unfold nameB
  simp only [decide_eq_true_eq]
  exact ⟨h1, h2, fun j hj _ => .inl (h j hj)⟩
def bRoot : ByteArray := ⟨#[114, 111, 111, 116]⟩
def bAnn : ByteArray := ⟨#[97, 110, 110]⟩
def bWww : ByteArray := ⟨#[119, 119, 119]⟩
def bFtp : ByteArray := ⟨#[102, 116, 112]⟩
theorem nameRoot : nameB bRoot = true := name_lit (by decide) (by decide) (by decide)
theorem nameAnn : nameB bAnn = true := name_lit (by decide) (by decide) (by decide)
theorem nameWww : nameB bWww = true := name_lit (by decide) (by decide) (by decide)
def rootP (x : Int) : Paper := ⟨1, bRoot, bRoot, 0, 500, pubA x, [], true, 0, 0, 0⟩
def leafP (f t : Int) : Paper := ⟨9, bRoot, bAnn, f, t, pubA 7, [bWww], false, 0, 0, 0⟩
def theL (zs : List Int) : Lst := ⟨bRoot, 0, 110, zs, 0, 0, 0⟩
theorem rootP_right {x : Int} (h : secB x = true) : paperB (rootP x) = true := by
  unfold paperB rootP
  simp only [nameRoot, pub_rightG h, Bool.and_true]
  rfl
theorem leafP_right {f t : Int} (h1 : 0 ≤ f) (h2 : f ≤ t) (h3 : t ≤ 200) : paperB (leafP f t) = true := by
  have e1 : timeB f = true := by unfold timeB; rw [decide_eq_true h1, decide_eq_true (show f ≤ 1000000000 by omega)]; rfl
  have e2 : timeB t = true := by unfold timeB; rw [decide_eq_true (show 0 ≤ t by omega), decide_eq_true (show t ≤ 1000000000 by omega)]; rfl
  have e3 : namesB [bWww] = true := by
    unfold namesB
    rw [show okTo [bWww] [bWww].length = (okTo [bWww] 0 && okN [bWww] 0) from rfl, okN_zero (show nameB (tAt [bWww] 0) = true from nameWww)]
    rfl
  unfold paperB leafP
  simp only [nameRoot, nameAnn, pub_rightG (show secB 7 = true from rfl), e1, e2, e3, decide_eq_true h2, Bool.and_true]
  rfl
theorem theL_right {zs : List Int} (h : serialsB zs = true) : listB (theL zs) = true := by
  unfold listB theL
  simp only [nameRoot, h, Bool.and_true]
  rfl
theorem pub5 : pubA 5 = 1024 := by rw [show (5 : Int) = ((5 : Nat) : Int) from rfl, pubA_nat 5 rfl]; rfl
theorem pub6 : pubA 6 = 4096 := by rw [show (6 : Int) = ((6 : Nat) : Int) from rfl, pubA_nat 6 rfl]; rfl
theorem good_of {x k e s : Int} {c : Paper} (h1 : secB x = true) (h2 : paperB c = true) (hv : signV x (bodyD c) = .agg #[.int .i64 k, .int .i64 e, .int .i64 s]) (h0 : c.serial ≠ 0) :
    certB ⟨c.serial, c.issuer, c.subject, c.fr, c.till, c.key, c.names, c.ca, k, e, s⟩ = true ∧ goodB (pubA x) ⟨c.serial, c.issuer, c.subject, c.fr, c.till, c.key, c.names, c.ca, k, e, s⟩ = true ∧ k = pubA x := by
  have h := signP_good hv
  rw [signP_yes h1 h2] at h
  rcases h with h | ⟨h3, h4, _⟩
  · exact absurd h h0
  · refine ⟨h3, h4, ?_⟩
    unfold goodB at h4
    simp only [Bool.and_eq_true, decide_eq_true_eq] at h4
    exact h4.1.2.symm
theorem lgood_of {x k e s : Int} {c : Lst} (h1 : secB x = true) (h2 : listB c = true) (hv : signV x (listD c) = .agg #[.int .i64 k, .int .i64 e, .int .i64 s]) (h0 : c.issuer.size ≠ 0) :
    crlB ⟨c.issuer, c.fr, c.till, c.serials, k, e, s⟩ = true ∧ crlGoodB (pubA x) ⟨c.issuer, c.fr, c.till, c.serials, k, e, s⟩ = true := by
  have h := signL_good hv
  rw [signL_yes h1 h2] at h
  rcases h with h | ⟨h3, h4, _⟩
  · exact absurd h h0
  · exact ⟨h3, h4⟩
/-- What PathCheck must tell of them. -/
def wantC (f t n : Int) (b : Bool) : Int := if n < f ∨ t < n then 12 else if 110 < n then 8 else if b = true then 14 else 0
theorem path_made {f t n : Int} {zs : List Int} {b : Bool} {k1 e1 s1 k2 e2 s2 k3 e3 s3 : Int} (h1 : 0 ≤ f) (h2 : f ≤ t) (h3 : t ≤ 200) (hn : 0 ≤ n) (hn' : n ≤ 200) (hz : serialsB zs = true) (hb : hasB zs 9 = b)
    (v1 : signV 5 (bodyD (rootP 5)) = .agg #[.int .i64 k1, .int .i64 e1, .int .i64 s1]) (v2 : signV 5 (bodyD (leafP f t)) = .agg #[.int .i64 k2, .int .i64 e2, .int .i64 s2]) (v3 : signV 5 (listD (theL zs)) = .agg #[.int .i64 k3, .int .i64 e3, .int .i64 s3]) :
    pathC ⟨1, bRoot, bRoot, 0, 500, pubA 5, [], true, k1, e1, s1⟩ ⟨9, bRoot, bAnn, f, t, pubA 7, [bWww], false, k2, e2, s2⟩ ⟨bRoot, 0, 110, zs, k3, e3, s3⟩ n = wantC f t n b := by
  obtain ⟨a1, a2, _⟩ := good_of rfl (rootP_right rfl) v1 (by decide)
  obtain ⟨b1, b2, _⟩ := good_of rfl (leafP_right h1 h2 h3) v2 (by show (9 : Int) ≠ 0; decide)
  obtain ⟨c1, c2⟩ := lgood_of rfl (theL_right hz) v3 (by show bRoot.size ≠ 0; decide)
  simp only [rootP, leafP, theL] at a1 a2 b1 b2 c1 c2
  have et : timeB n = true := by unfold timeB; rw [decide_eq_true hn, decide_eq_true (show n ≤ 1000000000 by omega)]; rfl
  have es : (bRoot.toList == bRoot.toList) = true := beq_self_eq_true _
  unfold pathC formP issP noneP wantC
  simp only [a1, a2, b1, b2, c1, c2, et, es, hb, Bool.and_true, Bool.true_and, if_true]
  unfold withinB
  simp only [Bool.and_eq_true, decide_eq_true_eq]
  by_cases g1 : n < f ∨ t < n
  · rw [if_pos g1, if_neg (by omega)]
  · rw [if_neg g1, if_pos (by omega)]
    by_cases g2 : 110 < n
    · rw [if_pos g2, if_neg (by omega)]
    · rw [if_neg g2, if_pos (by omega)]
theorem path_other {f t n : Int} {zs : List Int} {k1 e1 s1 k2 e2 s2 k3 e3 s3 : Int} (h1 : 0 ≤ f) (h2 : f ≤ t) (h3 : t ≤ 200) (hn : 0 ≤ n) (hn' : n ≤ 200) (hz : serialsB zs = true)
    (v1 : signV 6 (bodyD (rootP 6)) = .agg #[.int .i64 k1, .int .i64 e1, .int .i64 s1]) (v2 : signV 5 (bodyD (leafP f t)) = .agg #[.int .i64 k2, .int .i64 e2, .int .i64 s2]) (v3 : signV 5 (listD (theL zs)) = .agg #[.int .i64 k3, .int .i64 e3, .int .i64 s3]) :
    pathC ⟨1, bRoot, bRoot, 0, 500, pubA 6, [], true, k1, e1, s1⟩ ⟨9, bRoot, bAnn, f, t, pubA 7, [bWww], false, k2, e2, s2⟩ ⟨bRoot, 0, 110, zs, k3, e3, s3⟩ n = 6 := by
  obtain ⟨a1, a2, _⟩ := good_of rfl (rootP_right rfl) v1 (by decide)
  obtain ⟨b1, _, b3⟩ := good_of rfl (leafP_right h1 h2 h3) v2 (by show (9 : Int) ≠ 0; decide)
  obtain ⟨c1, _⟩ := lgood_of rfl (theL_right hz) v3 (by show bRoot.size ≠ 0; decide)
  simp only [rootP, leafP, theL] at a1 a2 b1 c1
  have et : timeB n = true := by unfold timeB; rw [decide_eq_true hn, decide_eq_true (show n ≤ 1000000000 by omega)]; rfl
  have es : (bRoot.toList == bRoot.toList) = true := beq_self_eq_true _
  have eg : goodB (pubA 6) ⟨9, bRoot, bAnn, f, t, pubA 7, [bWww], false, k2, e2, s2⟩ = false := by
    unfold goodB
    rw [show decide (pubA 6 = k2) = false from decide_eq_false (by rw [b3, pub5, pub6]; decide)]
    simp
  unfold pathC formP issP
  simp only [a1, a2, b1, c1, et, es, eg, Bool.and_true, if_true]
  rfl
theorem hasWww : textTo [bWww] bWww [bWww].length = true := by
  show (false || (bWww.toList == bWww.toList)) = true
  rw [beq_self_eq_true]; rfl
theorem hasFtp : textTo [bWww] bFtp [bWww].length = false := by
  show (false || (bWww.toList == bFtp.toList)) = false
  rw [Lib.toList_data, Lib.toList_data]; rfl
theorem ser3 : serialsB [3] = true := by decide
theorem ser39 : serialsB [3, 9] = true := by decide
theorem has3 : hasB [3] 9 = false := by decide
theorem has39 : hasB [3, 9] 9 = true := by decide
end Go.Proofs.YtegmmaomaegjjaaGreatDoor
namespace Go.Proofs.YtegmmaomaegjjaaGreatDoor
open Go.RowKit Go.Lib

set_option maxHeartbeats 1000000 in
set_option maxRecDepth 100000 in
theorem copyText (a : ByteArray) (w : World) (ha : a.size ≤ 1100000) :
    Calls Tryz.prog 69 #[.string a] w fun e w' => e = .returned (.string a) ∧ Below w.heap.size w w' := by
  obtain ⟨i0, hi, hz0, hz1, hz2⟩ := info_parts infoByte
  go_enter Tryz.func69, Tryz.ntmps69
  go_wp2_with (at_make; refine wpList_make_full _ rfl _ _ 22 rfl w.heap.size 5 i0 (.int .u8 0) 1 Tryz.underlying22 hi hz0 hz1 .i64 .i64 _ _ a.size rfl rfl ?c1 ?c2 ?c3 ?c4 ?c5 ?_)
  case c1 => omega
  case c2 => omega
  case c3 => rw [hz2]; omega
  case c4 => unfold maxLen; omega
  case c5 => exact Nat.le_refl _
  intro w1 hown hgrow
  obtain ⟨hrow, hlen⟩ := rowOf hown rfl
  have hB1 : Below w.heap.size w w1 := (Below.refl _ w).grown hgrow (Nat.le_refl _) (fun k hk => by cases hk)
  generalize (madeCells #[Value.int IntKind.u8 0] a.size).toList = L at hrow hlen
  have la : (byteCells a.data.toList).length = a.size := by rw [byteCells_length, ← size_eq]
  have HF : Hid (∀ w3 : World, w3.heap[w.heap.size]? = some (.cells (splice L 0 (byteCells a.data.toList)).toArray 5 (0, 0)) →
      (convert 22 9 (.slice (some ⟨w.heap.size, 0, none⟩) a.size a.size)).run Tryz.prog w3 = .ok (.string a) w3) := by
    intro w3 h3
    rw [splice_one L (byteCells a.data.toList) (by omega)] at h3
    have h4 : w3.heap[w.heap.size]? = some (.cells (byteCells a.data.toList ++ []).toArray 5 (0, 0)) := by simpa using h3
    have := run_convert_row (P := Tryz.prog) (src := 22) (dst := 9) (cap := a.size) Tryz.underlying22 Tryz.underlying5 Tryz.underlying9 h4
    rw [← size_eq] at this
    exact this
  clear hown hgrow la
  go_wp2_with (refine wpList_copy_str rfl _ _ 22 9 rfl 5 Tryz.underlying22 byteSize _ _ _ a rfl rfl w.heap.size 0 L 5 hrow (fun _ => rfl) ?d2 ?d3 w.heap.size w hB1 (Nat.le_refl _) ?_)
  case d2 => exact Nat.le_refl _
  case d3 => omega
  intro w2 H2 hB2 hs2
  have hcv := HF.out w2 H2.out
  clear hrow hB1 hs2
  go_wp2
  go_ret
  exact ⟨rfl, hB2⟩

end Go.Proofs.YtegmmaomaegjjaaGreatDoor
namespace Go.Proofs.YtegmmaomaegjjaaGreatDoor
open Go.RowKit

set_option maxHeartbeats 1000000 in
set_option maxRecDepth 100000 in
theorem copyTexts (a : Option Addr) (ss : List ByteArray) (c : Nat) (w : World) (hl : ss.length ≤ 1048576) (hs : totS ss ss.length ≤ 1048576) (ha : IsStrs w a ss) :
    Calls Tryz.prog 70 #[.slice a ss.length c] w fun e w' => ∃ v, e = .returned v ∧ OwnS w' w.heap.size v ss ∧ Below w.heap.size w w' := by
  obtain ⟨i0, hi, hz0, hz1, hz2⟩ := info_parts infoText
  have HSz : Hid (∀ k, k < ss.length → (tAt ss k).size ≤ 1048576) := fun k hk => Nat.le_trans (totS_at ss hk) hs
  clear hs
  go_enter Tryz.func70, Tryz.ntmps70
  go_wp2
  go_loopw [3, 8] (fun v i wr => ∃ k : Nat, k ≤ ss.length ∧ i = .int .i64 k ∧ OwnS wr w.heap.size v (ss.take k) ∧ Below w.heap.size w wr) (fun _ i _ => ss.length - (intOf i).toNat)
  case atStart => exact ⟨0, Nat.zero_le _, rfl, ownS_nil _ _, Below.refl _ _⟩
  case round =>
    obtain ⟨k, hk, rfl, hown, hbr⟩ := hrel
    have HB : Hid (Below w.heap.size w wr) := hbr
    have hlt' : (ss.take k).length = k := by rw [List.length_take]; omega
    obtain ⟨va, vc, rfl, hvc⟩ := OwnS.form hown
    have HO : Hid (OwnS wr w.heap.size (.slice va (ss.take k).length vc) (ss.take k)) := hown
    rw [hlt'] at HO ⊢
    clear hown hvc
    by_cases hlt : k < ss.length
    · obtain ⟨x, o, rfl, hc⟩ : ∃ x o, a = some ⟨x, o, none⟩ ∧ ∀ i, i < ss.length → wr.cell? ⟨x, o + i, none⟩ = some (.string (tAt ss i)) := by
        rcases ha.below hbr ha.lt with rfl | h
        · simp at hlt
        · exact h
      have hck := hc k hlt
      have hz := HSz.out k hlt
      have HC : Hid (∀ V, Calls Tryz.prog 69 #[.string (tAt ss k)] V fun e w' => e = .returned (.string (tAt ss k)) ∧ Below V.heap.size V w') := fun V => copyText _ V (by omega)
      have HT : Hid (ss.take (k + 1) = ss.take k ++ [tAt ss k]) := take_snoc ss hlt
      have HLn : Hid ((ss.take k).length = k) := hlt'
      have a0 : (0 : Int) ≤ (k : Int) := by omega
      have b0 : (k : Int) < (ss.length : Int) := by omega
      generalize tAt ss k = z at *
      clear hc ha hbr HSz hlt'
      go_wp2_with fail
      refine (HC.out _).mono ?_
      rintro e w2 ⟨rfl, b2⟩
      have B2 : Hid (Below w.heap.size w w2) := HB.out.trans (b2.mono HB.out.size)
      have hO : w2.ownsRow w.heap.size 9 1 (.slice va k vc) k (sCells (ss.take k)) := by
        have := HO.out.keep b2
        unfold OwnS at this
        rw [HLn.out] at this
        exact this
      have hsz := B2.out.size
      clear b2
      go_wp2_with (at_builtin; refine wpList_append_own _ rfl _ _ 23 rfl w.heap.size 9 i0 (.string ⟨#[]⟩) 1 16 Tryz.underlying23 hi hz0 hz1 hz2 rfl (by decide) _ _ _ rfl (hO.alloc _) ⟨w2.heap.size, 0, none⟩ 1 1 [.string z] rfl rfl ?c1 ?c2 ?c3 ?c4 ?c5 ?_)
      case c1 => exact cells_one (by simp)
      case c2 => intro u hu; simp at hu; subst hu; rfl
      case c3 => unfold maxLen; omega
      case c4 => omega
      case c5 => simp; omega
      intro v' w3 hown' hgrow _
      have hB3 : Below w.heap.size w w3 := (B2.out.alloc hsz _).grown hgrow (by simp; omega) (fun k hk => (hO.lt k hk).1)
      have HO3 : Hid (OwnS w3 w.heap.size v' (ss.take (k + 1))) := by
        show World.ownsRow _ _ _ _ _ _ _
        rw [HT.out, List.length_append, HLn.out, sCells, List.map_append]
        exact hown'
      have HB3 : Hid (Below w.heap.size w w3) := hB3
      clear hown' hgrow hB3 hO
      go_wp2_with fail
      go_roundw
      case rel => exact ⟨k + 1, by omega, by go_num, HO3.out, HB3.out⟩
      case measure => simp [intOf]; omega
    · obtain rfl : k = ss.length := by omega
      have HF : Hid (OwnS wr w.heap.size (.slice va ss.length vc) ss) := by have := HO.out; rw [List.take_length] at this; exact this
      clear ha hbr HSz
      go_wp2
      go_ret
      exact ⟨_, rfl, HF.out, HB.out⟩
end Go.Proofs.YtegmmaomaegjjaaGreatDoor
namespace Go.Proofs.YtegmmaomaegjjaaGreatDoor
open Go.RowKit

set_option maxHeartbeats 4000000 in
set_option maxRecDepth 100000 in
theorem copyCert (c : Paper) (a : Option Addr) (cap : Nat) (w : World) (hi : c.issuer.size ≤ 1048576) (hs : c.subject.size ≤ 1048576) (hl : c.names.length ≤ 1048576) (ht : totS c.names c.names.length ≤ 1048576) (ha : IsStrs w a c.names) :
    Calls Tryz.prog 44 #[c.val (.slice a c.names.length cap)] w fun e w' => ∃ v, e = .returned (c.val v) ∧ OwnS w' w.heap.size v c.names ∧ Below w.heap.size w w' := by
  obtain ⟨ser, iss, sub, fr, till, key, names, ca, sk, se, ss⟩ := c
  simp only at hi hs hl ht ha
  unfold Paper.val
  simp only
  have HT : Hid (∀ V, IsStrs V a names → Calls Tryz.prog 70 #[.slice a names.length cap] V fun e w' => ∃ v, e = .returned v ∧ OwnS w' V.heap.size v names ∧ Below V.heap.size V w') := fun V h1 => copyTexts a names cap V hl ht h1
  have HC : Hid (∀ V (t : ByteArray), t.size ≤ 1048576 → Calls Tryz.prog 69 #[.string t] V fun e w' => e = .returned (.string t) ∧ Below V.heap.size V w') := fun V t h => copyText t V (by omega)
  generalize names.length = nl at *
  obtain ⟨w1, hw1⟩ : ∃ w1, w1 = (w.alloc (.cells #[.int .i64 ser, .string iss, .string sub, .int .i64 fr, .int .i64 till, .int .i64 key, .slice a nl cap, .bool ca, .int .i64 sk, .int .i64 se, .int .i64 ss] 27 (0, 0))).alloc (.cells #[.int .i64 0, .string ⟨#[]⟩, .string ⟨#[]⟩, .int .i64 0, .int .i64 0, .int .i64 0, .slice none 0 0, .bool false, .int .i64 0, .int .i64 0, .int .i64 0] 27 (0, 0)) := ⟨_, rfl⟩
  have r0 : w1.heap[w.heap.size]? = some (.cells [Value.int .i64 ser, .string iss, .string sub, .int .i64 fr, .int .i64 till, .int .i64 key, .slice a nl cap, .bool ca, .int .i64 sk, .int .i64 se, .int .i64 ss].toArray 27 (0, 0)) := by rw [hw1, Below.heap_alloc _ _ _ (by simp)]; exact heap_alloc_new w _
  have r1 : w1.heap[w.heap.size + 1]? = some (.cells [Value.int .i64 0, .string ⟨#[]⟩, .string ⟨#[]⟩, .int .i64 0, .int .i64 0, .int .i64 0, .slice none 0 0, .bool false, .int .i64 0, .int .i64 0, .int .i64 0].toArray 27 (0, 0)) := by rw [hw1]; exact heap_alloc2 w _ _
  have z1 : w1.heap.size = w.heap.size + 2 := by rw [hw1]; simp
  have K1 : Hid (Below w.heap.size w w1) := by rw [hw1]; exact ((Below.refl _ _).alloc (Nat.le_refl _) _).alloc (by simp) _
  have HA : Hid (∀ V, Below w.heap.size w V → IsStrs V a names) := fun V hV => ha.keep hV
  clear ha hl ht
  go_enter Tryz.func44, Tryz.ntmps44
  go_upto_region 1 with fail
  rw [← hw1]
  clear hw1
  have c1 := rowFacts r0 1 _ rfl
  have R0 : Hid _ := r0
  have R1 : Hid _ := r1
  have Z1 : Hid (w1.heap.size = w.heap.size + 2) := z1
  clear r0 r1 z1
  go_wp2_with fail
  refine (HC.out _ iss hi).mono ?_
  rintro e w2 ⟨rfl, b2⟩
  have z2 : w.heap.size + 2 ≤ w2.heap.size := by have := b2.size; have := Z1.out; omega
  have r0 : w2.heap[w.heap.size]? = some (.cells [Value.int .i64 ser, .string iss, .string sub, .int .i64 fr, .int .i64 till, .int .i64 key, .slice a nl cap, .bool ca, .int .i64 sk, .int .i64 se, .int .i64 ss].toArray 27 (0, 0)) := by rw [b2.block _ (by have := Z1.out; omega)]; exact R0.out
  have r1 : w2.heap[w.heap.size + 1]? = some (.cells [Value.int .i64 0, .string ⟨#[]⟩, .string ⟨#[]⟩, .int .i64 0, .int .i64 0, .int .i64 0, .slice none 0 0, .bool false, .int .i64 0, .int .i64 0, .int .i64 0].toArray 27 (0, 0)) := by rw [b2.block _ (by have := Z1.out; omega)]; exact R1.out
  have K2 : Hid (Below w.heap.size w w2) := K1.out.trans (b2.mono K1.out.size)
  clear b2 R0 R1 c1 K1 Z1
  obtain ⟨w3, hw3⟩ : ∃ x, x = w2.setCell ⟨w.heap.size, 1, none⟩ (.string iss) := ⟨_, rfl⟩
  have t0 : w3.heap[w.heap.size]? = some (.cells [Value.int .i64 ser, .string iss, .string sub, .int .i64 fr, .int .i64 till, .int .i64 key, .slice a nl cap, .bool ca, .int .i64 sk, .int .i64 se, .int .i64 ss].toArray 27 (0, 0)) := by rw [hw3]; exact rowSet (i := 1) _ r0
  have t1 : w3.heap[w.heap.size + 1]? = some (.cells [Value.int .i64 0, .string ⟨#[]⟩, .string ⟨#[]⟩, .int .i64 0, .int .i64 0, .int .i64 0, .slice none 0 0, .bool false, .int .i64 0, .int .i64 0, .int .i64 0].toArray 27 (0, 0)) := by rw [hw3, heap_setCell_other _ _ _ _ (by simp)]; exact r1
  have K3 : Hid (Below w.heap.size w w3) := by rw [hw3]; exact K2.out.setCell (by simp) _
  have z3 : w.heap.size + 2 ≤ w3.heap.size := by rw [hw3]; simpa using z2
  have c1 := rowFacts r0 1 _ rfl
  have f1 := rowFree r0 1
  have T0 : Hid _ := t0
  have T1 : Hid _ := t1
  clear r0 r1 t0 t1 K2 z2
  go_upto_region 2 with fail
  rw [← hw3]
  clear hw3 c1 f1
  have c2 := rowFacts T0.out 2 _ rfl
  go_wp2_with fail
  refine (HC.out _ sub hs).mono ?_
  rintro e w4 ⟨rfl, b4⟩
  have z4 : w.heap.size + 2 ≤ w4.heap.size := by have := b4.size; omega
  have r0 : w4.heap[w.heap.size]? = some (.cells [Value.int .i64 ser, .string iss, .string sub, .int .i64 fr, .int .i64 till, .int .i64 key, .slice a nl cap, .bool ca, .int .i64 sk, .int .i64 se, .int .i64 ss].toArray 27 (0, 0)) := by rw [b4.block _ (by omega)]; exact T0.out
  have r1 : w4.heap[w.heap.size + 1]? = some (.cells [Value.int .i64 0, .string ⟨#[]⟩, .string ⟨#[]⟩, .int .i64 0, .int .i64 0, .int .i64 0, .slice none 0 0, .bool false, .int .i64 0, .int .i64 0, .int .i64 0].toArray 27 (0, 0)) := by rw [b4.block _ (by omega)]; exact T1.out
  have K4 : Hid (Below w.heap.size w w4) := K3.out.trans (b4.mono K3.out.size)
  clear b4 T0 T1 c2 K3 z3
  obtain ⟨w5, hw5⟩ : ∃ x, x = w4.setCell ⟨w.heap.size, 2, none⟩ (.string sub) := ⟨_, rfl⟩
  have t0 : w5.heap[w.heap.size]? = some (.cells [Value.int .i64 ser, .string iss, .string sub, .int .i64 fr, .int .i64 till, .int .i64 key, .slice a nl cap, .bool ca, .int .i64 sk, .int .i64 se, .int .i64 ss].toArray 27 (0, 0)) := by rw [hw5]; exact rowSet (i := 2) _ r0
  have t1 : w5.heap[w.heap.size + 1]? = some (.cells [Value.int .i64 0, .string ⟨#[]⟩, .string ⟨#[]⟩, .int .i64 0, .int .i64 0, .int .i64 0, .slice none 0 0, .bool false, .int .i64 0, .int .i64 0, .int .i64 0].toArray 27 (0, 0)) := by rw [hw5, heap_setCell_other _ _ _ _ (by simp)]; exact r1
  have K5 : Hid (Below w.heap.size w w5) := by rw [hw5]; exact K4.out.setCell (by simp) _
  have z5 : w.heap.size + 2 ≤ w5.heap.size := by rw [hw5]; simpa using z4
  have c2 := rowFacts r0 2 _ rfl
  have f2 := rowFree r0 2
  have T0 : Hid _ := t0
  have T1 : Hid _ := t1
  clear r0 r1 t0 t1 K4 z4
  go_upto_region 3 with fail
  rw [← hw5]
  clear hw5 c2 f2
  have c6 := rowFacts T0.out 6 _ rfl
  go_wp2_with fail
  refine (HT.out _ (HA.out _ K5.out)).mono ?_
  rintro e w6 ⟨v6, rfl, o6, b6⟩
  have z6 : w.heap.size + 2 ≤ w6.heap.size := by have := b6.size; omega
  have r0 : w6.heap[w.heap.size]? = some (.cells [Value.int .i64 ser, .string iss, .string sub, .int .i64 fr, .int .i64 till, .int .i64 key, .slice a nl cap, .bool ca, .int .i64 sk, .int .i64 se, .int .i64 ss].toArray 27 (0, 0)) := by rw [b6.block _ (by omega)]; exact T0.out
  have r1 : w6.heap[w.heap.size + 1]? = some (.cells [Value.int .i64 0, .string ⟨#[]⟩, .string ⟨#[]⟩, .int .i64 0, .int .i64 0, .int .i64 0, .slice none 0 0, .bool false, .int .i64 0, .int .i64 0, .int .i64 0].toArray 27 (0, 0)) := by rw [b6.block _ (by omega)]; exact T1.out
  have K6 : Hid (Below w.heap.size w w6) := K5.out.trans (b6.mono K5.out.size)
  have O6 : Hid (OwnS w6 (w.heap.size + 2) v6 names) := o6.mono z5
  clear b6 T0 T1 c6 K5 z5 HT HC HA
  obtain ⟨va, vc, rfl, _⟩ := OwnS.form o6
  clear o6
  obtain ⟨C, hC⟩ : ∃ C, C = [Value.int .i64 ser, .string iss, .string sub, .int .i64 fr, .int .i64 till, .int .i64 key, .slice va names.length vc, .bool ca, .int .i64 sk, .int .i64 se, .int .i64 ss] := ⟨_, rfl⟩
  obtain ⟨w7, hw7⟩ : ∃ x, x = w6.setCell ⟨w.heap.size, 6, none⟩ (.slice va names.length vc) := ⟨_, rfl⟩
  have t0 : w7.heap[w.heap.size]? = some (.cells C.toArray 27 (0, 0)) := by rw [hw7, hC]; exact rowSet (i := 6) _ r0
  have t1 : w7.heap[w.heap.size + 1]? = some (.cells [Value.int .i64 0, .string ⟨#[]⟩, .string ⟨#[]⟩, .int .i64 0, .int .i64 0, .int .i64 0, .slice none 0 0, .bool false, .int .i64 0, .int .i64 0, .int .i64 0].toArray 27 (0, 0)) := by rw [hw7, heap_setCell_other _ _ _ _ (by simp)]; exact r1
  have K7 : Hid (Below w.heap.size w w7) := by rw [hw7]; exact K6.out.setCell (by simp) _
  have O7 : Hid (OwnS w7 (w.heap.size + 2) (.slice va names.length vc) names) := O6.out.same fun k h1 h2 => by rw [hw7, heap_setCell_other _ _ _ _ (by show k ≠ w.heap.size; omega)]
  have hone : ∀ v ∈ C, v.oneCell' = true := by rw [hC]; simp [Value.oneCell']
  have hi : (Tryz.prog.info? 27).map (·.size) = some C.length := by rw [hC]; exact sizeCert
  have hlen : [Value.int .i64 0, .string ⟨#[]⟩, .string ⟨#[]⟩, .int .i64 0, .int .i64 0, .int .i64 0, .slice none 0 0, .bool false, .int .i64 0, .int .i64 0, .int .i64 0].length = C.length := by rw [hC]; rfl
  have HCC : Hid (C = [Value.int .i64 ser, .string iss, .string sub, .int .i64 fr, .int .i64 till, .int .i64 key, .slice va names.length vc, .bool ca, .int .i64 sk, .int .i64 se, .int .i64 ss]) := hC
  have c6 := rowFacts r0 6 _ rfl
  have f6 := rowFree r0 6
  have T0 : Hid _ := t0
  have T1 : Hid _ := t1
  have HOne : Hid (∀ v ∈ C, v.oneCell' = true) := hone
  have HI : Hid ((Tryz.prog.info? 27).map (·.size) = some C.length) := hi
  have HLen : Hid ([Value.int .i64 0, .string ⟨#[]⟩, .string ⟨#[]⟩, .int .i64 0, .int .i64 0, .int .i64 0, .slice none 0 0, .bool false, .int .i64 0, .int .i64 0, .int .i64 0].length = C.length) := hlen
  clear r0 r1 t0 t1 K6 z6 O6 hone hi hlen hC
  go_upto_region 4 with fail
  rw [← hw7]
  clear hw7 c6 f6
  have hr := rangeRow T0.out
  have hR := T1.out
  have h1 := HOne.out
  have hi := HI.out
  go_wp2_with (first | (refine wpList_load_mid rfl 27 _ rfl (w.heap.size) 0 rfl C _ hr Tryz.underlying27 rfl hi ?_) | (refine wpList_store_row rfl 27 _ _ rfl (w.heap.size + 1) _ C 27 rfl rfl hR HLen.out hi h1 ?_))
  intro w8 hrow ho hs8 hbb
  have HROW : Hid _ := hrow
  have HB8 : Hid (Below w.heap.size w w8) := hbb _ _ (by omega) K7.out
  have O8 : Hid (OwnS w8 (w.heap.size + 2) (.slice va names.length vc) names) := O7.out.same fun k h1 h2 => ho k (by omega)
  clear ho hs8 hbb hrow hr hR h1
  go_wp2
  refine bodyPost_ret (v := .agg C.toArray) ?_ rfl ⟨_, by rw [HCC.out], O8.out.mono (by omega), HB8.out⟩
  have hl3 := run_loadVar_mid (P := Tryz.prog) _ (w.heap.size + 1) 0 27 _ _ (rangeRow HROW.out) Tryz.underlying27 rfl hi
  simp [results, Tryz.results44, asAddr, hl3]
end Go.Proofs.YtegmmaomaegjjaaGreatDoor
