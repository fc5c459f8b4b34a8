/- impl.readCert, walked. -/
import Derived.Test.YtkhdjmjbdpmdnaaGreatDoorCR37
import Derived.Test.YtkhdjmjbdpmdnaaGreatDoorCR39
import Derived.Test.YtkhdjmjbdpmdnaaGreatDoorCR25
import Derived.Test.YtkhdjmjbdpmdnaaGreatDoorCR03
namespace Go.Proofs.YtkhdjmjbdpmdnaaGreatDoor
open Go.RowKit

def zeroPaper : Paper := ⟨0, ⟨#[]⟩, ⟨#[]⟩, 0, 0, 0, [], false, 0, 0, 0⟩
def bodyJ (L : List (Int × ByteArray)) (i : Nat) : ByteArray := ((L[i]?).map (·.2)).getD ⟨#[]⟩
def fixL (L : List (Int × ByteArray)) : Paper := fixR (bodyJ L 1) (bodyJ L 3) (bodyJ L 4) (bodyJ L 5) (bodyJ L 6)
/-- A paper of its parts. -/
def paperR (L : List (Int × ByteArray)) (k : List Int) : Paper :=
  if L.length < 7 then zeroPaper else ⟨(fixL L).serial, (fixL L).issuer, (fixL L).subject, (fixL L).fr, (fixL L).till, (fixL L).key, (moreR ([], false) (L.drop 7)).1, (moreR ([], false) (L.drop 7)).2, k.getD 0 0, k.getD 1 0, k.getD 2 0⟩
/-- What the program reads of a paper. -/
def readP (s : ByteArray) : Paper := paperR (allD (atP (atP s [0]) [0])).1 (numsGo (atP (atP s [0]) [2]) 3 1)
theorem bodyJ_of {L : List (Int × ByteArray)} {i : Nat} {p : Int × ByteArray} (h : L[i]? = some p) : bodyJ L i = p.2 := by unfold bodyJ; rw [h]; rfl
set_option linter.unusedSimpArgs false in
set_option maxHeartbeats 4000000 in
set_option maxRecDepth 100000 in
theorem implReadCert (s : ByteArray) (w : World) (hs : s.size ≤ 20000) (hE : ErrType w) :
    Calls Tryz.prog 70 #[.string s] w fun e w' => ∃ v, e = .returned ((readP s).val v) ∧ OwnS w' w.heap.size v (readP s).names ∧ Below w.heap.size w w' := by
  have hEp := hE.pos
  have tl := tlvs
  obtain ⟨w1, hw1⟩ : ∃ y, y = w.alloc (.cells #[.int .i64 0, .string ⟨#[]⟩, .string ⟨#[]⟩, .int .i64 0, .int .i64 0, .int .i64 0, .slice none 0 0, .bool false, .int .i64 0, .int .i64 0, .int .i64 0] 27 (0, 0)) := ⟨_, rfl⟩
  have hz : w1.heap.size = w.heap.size + 1 := by rw [hw1]; simp
  have hg1 : w1.heap[w.heap.size]? = some (.cells [Value.int .i64 0, .string ⟨#[]⟩, .string ⟨#[]⟩, .int .i64 0, .int .i64 0, .int .i64 0, .slice none 0 0, .bool false, .int .i64 0, .int .i64 0, .int .i64 0].toArray 27 (0, 0)) := by rw [hw1]; exact heap_alloc_new w _
  have hB1 : Below w.heap.size w w1 := by rw [hw1]; exact (Below.refl _ w).alloc (Nat.le_refl _) _
  have HB : Hid (∀ V, Below w1.heap.size w1 V → Below w.heap.size w V) := fun V hV => hB1.trans (hV.mono (by omega))
  have HE : Hid (∀ V, Below w1.heap.size w1 V → ErrType V) := fun V hV => hE.below (HB.out V hV) hEp
  have HRes : Hid (∀ V, Below w1.heap.size w1 V → V.heap[w.heap.size]? = some (.cells [Value.int .i64 0, .string ⟨#[]⟩, .string ⟨#[]⟩, .int .i64 0, .int .i64 0, .int .i64 0, .slice none 0 0, .bool false, .int .i64 0, .int .i64 0, .int .i64 0].toArray 27 (0, 0))) := fun V hV => by rw [hV.block _ (by omega)]; exact hg1
  have HAt : Hid (∀ V q k, k ≤ 3 → q.size ≤ 20000 → Below w1.heap.size w1 V → Calls Tryz.prog 144 #[.string q, .slice (some ⟨V.heap.size, 0, none⟩) 1 1] (V.alloc (.cells #[.int .i64 ((k : Nat) : Int)] 3 (0, 0))) fun e w' => e = .returned (.string (atP q [k])) ∧ Below V.heap.size V w') := fun V q k hk hq hV => by
    have hA : Below V.heap.size V (V.alloc (.cells #[.int .i64 ((k : Nat) : Int)] 3 (0, 0))) := (Below.refl _ V).alloc (Nat.le_refl _) _
    refine (implAt q [k] V.heap.size 1 _ hq (by show 1 ≤ 4; omega) (fun i hi => ?_) (by simp) (IsPl.row (t := 3) (heap_alloc_new V _)) (HE.out _ (hV.trans (hA.mono hV.size)))).mono ?_
    · obtain rfl : i = 0 := by simp at hi; omega
      show k ≤ 100
      omega
    · rintro e w' ⟨rfl, hb⟩
      exact ⟨rfl, hA.trans (hb.mono (by simp))⟩
  have HAl : Hid (∀ V q, q.size ≤ 20000 → Below w1.heap.size w1 V → Calls Tryz.prog 145 #[.string q] V fun e w' => ∃ v, e = .returned (.agg #[v, .int .i64 (allD q).2]) ∧ OwnT w' V.heap.size v (allD q).1 ∧ Below V.heap.size V w') := fun V q hq hV => implDerAll q V (by unfold maxLen; omega) (HE.out V hV)
  have HNu : Hid (∀ V q (n : Nat), n ≤ 3 → q.size ≤ 20000 → Below w1.heap.size w1 V → Calls Tryz.prog 148 #[.string q, .int .i64 (n : Int)] V fun e w' => e = .returned (.slice (some ⟨V.heap.size, 0, none⟩) n n) ∧ w'.heap[V.heap.size]? = some (.cells (lCells (numsGo q n 1)).toArray 2 (0, 0)) ∧ Below V.heap.size V w') := fun V q n hn hq hV => implReadNums q n V hq hn (HE.out V hV)
  have HFx : Hid (∀ V g c (L : List (Int × ByteArray)), Below w1.heap.size w1 V → 7 ≤ L.length → (∀ p ∈ L, p.2.size ≤ 4000) → (∀ i p, L[i]? = some p → V.cell? ⟨g, i * 2 + 1, none⟩ = some (.string p.2)) → Calls Tryz.prog 146 #[.slice (some ⟨g, 0, none⟩) 7 c] V fun e w' => e = .returned ((fixL L).val (.slice none 0 0)) ∧ Below V.heap.size V w') := fun V g c L hV hl hz hc => by
    have hat : ∀ i, i < 7 → ∃ p, L[i]? = some p ∧ p.2.size ≤ 20000 ∧ V.cell? ⟨g, i * 2 + 1, none⟩ = some (.string p.2) := fun i hi => ⟨L[i], List.getElem?_eq_getElem (by omega), by have := hz L[i] (List.getElem_mem _); omega, hc i _ (List.getElem?_eq_getElem (by omega))⟩
    obtain ⟨p1, e1, z1, c1⟩ := hat 1 (by omega)
    obtain ⟨p3, e3, z3, c3⟩ := hat 3 (by omega)
    obtain ⟨p4, e4, z4, c4⟩ := hat 4 (by omega)
    obtain ⟨p5, e5, z5, c5⟩ := hat 5 (by omega)
    obtain ⟨p6, e6, z6, c6⟩ := hat 6 (by omega)
    unfold fixL
    rw [bodyJ_of e1, bodyJ_of e3, bodyJ_of e4, bodyJ_of e5, bodyJ_of e6]
    exact implReadFixed g c p1.2 p3.2 p4.2 p5.2 p6.2 V (HE.out V hV) ⟨c1, c3, c4, c5, c6⟩ z1 z3 z4 z5 z6
  have HMo : Hid (∀ V a (L : List (Int × ByteArray)) c, Below w1.heap.size w1 V → L.length ≤ 60 → IsTo V a L → (∀ p ∈ L, p.2.size ≤ 4000) → Calls Tryz.prog 147 #[.slice a L.length c] V fun e w' => ∃ v, e = .returned (.agg #[v, .bool (moreR ([], false) L).2]) ∧ OwnS w' V.heap.size v (moreR ([], false) L).1 ∧ Below V.heap.size V w') := fun V a L c hV hl ha hz => implReadMore a L c V (HE.out V hV) hl ha hz
  have HN3 : Hid (∀ q, ∃ x y z, numsGo q 3 1 = [x, y, z]) := fun q => by
    have := numsGo_len q 3 1
    match h : numsGo q 3 1, this with
    | [x, y, z], _ => exact ⟨x, y, z, rfl⟩
  have HLe : ∀ q k, q.size ≤ 20000 → (atP q [k]).size ≤ 20000 := fun q k h => Nat.le_trans (atP_le [k] q) h
  obtain ⟨wh, hwh⟩ : ∃ x, x = atP s [0] := ⟨_, rfl⟩
  obtain ⟨bd, hbd⟩ : ∃ x, x = atP wh [0] := ⟨_, rfl⟩
  obtain ⟨nq, hnq⟩ : ∃ x, x = atP wh [2] := ⟨_, rfl⟩
  obtain ⟨L, hL⟩ : ∃ L, L = (allD bd).1 := ⟨_, rfl⟩
  obtain ⟨n0, n1, n2, hn⟩ := HN3.out nq
  have C1 : Hid (wh = atP s [0] ∧ wh.size ≤ 20000) := ⟨hwh, by rw [hwh]; exact HLe _ _ hs⟩
  have C2 : Hid (bd = atP wh [0] ∧ bd.size ≤ 20000) := ⟨hbd, by rw [hbd]; exact HLe _ _ C1.out.2⟩
  have C3 : Hid (nq = atP wh [2] ∧ nq.size ≤ 20000) := ⟨hnq, by rw [hnq]; exact HLe _ _ C1.out.2⟩
  have HL : Hid (L = (allD bd).1) := hL
  have HLz : Hid (∀ p ∈ L, p.2.size ≤ 4000) := by show ∀ p ∈ L, _; rw [hL]; exact allD_4000 _
  have hLl : L.length ≤ 60 := by rw [hL]; exact allD_len _
  have hR : readP s = paperR L [n0, n1, n2] := by unfold readP; rw [← hwh, ← hbd, ← hnq, ← hL, hn]
  obtain ⟨R, hRR⟩ : ∃ R, R = readP s := ⟨_, rfl⟩
  rw [← hRR]
  rw [hR] at hRR
  have HR : Hid (R = paperR L [n0, n1, n2]) := hRR
  have HN : Hid (lCells (numsGo nq 3 1) = [.int .i64 n0, .int .i64 n1, .int .i64 n2]) := by show _ = _; rw [hn]; rfl
  have H0 : Hid (s.size ≤ 20000) := hs
  have HR1 : Hid (Below w1.heap.size w1 w1) := Below.refl _ _
  have Z1 : Hid (w1.heap.size = w.heap.size + 1) := hz
  obtain ⟨ll, hll⟩ : ∃ ll, ll = L.length := ⟨_, rfl⟩
  have HLl : Hid (ll = L.length) := hll
  rw [← hll] at hLl
  clear hE hEp hg1 hB1 HLe hs hwh hbd hnq hL hn hR hRR HN3 hll HE
  go_enter Tryz.func70, Tryz.ntmps70
  go_wp2_with fail
  rw [← hw1, ← hz]
  refine (HAt.out w1 s 0 (by omega) H0.out HR1.out).mono ?_
  rintro e w2 ⟨rfl, b2⟩
  rw [← C1.out.1]
  have B2 : Hid (Below w1.heap.size w1 w2) := b2
  clear b2 hw1 hz
  go_wp2_with fail
  refine (HAt.out w2 wh 0 (by omega) C1.out.2 B2.out).mono ?_
  rintro e w3 ⟨rfl, b3⟩
  rw [← C2.out.1]
  have B3 : Hid (Below w1.heap.size w1 w3) := B2.out.trans (b3.mono B2.out.size)
  clear b3
  go_wp2_with fail
  refine (HAl.out w3 bd C2.out.2 B3.out).mono ?_
  rintro e w4 ⟨tv, rfl, ot, b4⟩
  rw [← HL.out] at ot
  obtain ⟨ta, tc, rfl⟩ := OwnT.form ot
  have B4 : Hid (Below w1.heap.size w1 w4) := B3.out.trans (b4.mono B3.out.size)
  have HTo : Hid (IsT w4 ta L) := ot.isT
  have htc : L.length ≤ tc := ot.cap
  rw [← HLl.out] at htc ⊢
  clear ot b4 B2
  by_cases h7 : ll < 7
  · have HF : Hid (R = zeroPaper) := by show _ = _; rw [HR.out, paperR, if_pos (by rw [← HLl.out]; exact h7)]
    go_wp2_with (refine wpList_store_row rfl 27 _ _ rfl (w.heap.size) _ [Value.int .i64 0, .string ⟨#[]⟩, .string ⟨#[]⟩, .int .i64 0, .int .i64 0, .int .i64 0, .slice none 0 0, .bool false, .int .i64 0, .int .i64 0, .int .i64 0] 27 rfl rfl (HRes.out _ B4.out) rfl sizeCertV (by simp [Value.oneCell']) ?_)
    intro w8 hrow ho hs8 hbb
    have HROW : Hid _ := hrow
    have HB8 : Hid (Below w.heap.size w w8) := hbb _ _ (Nat.le_refl _) (HB.out _ B4.out)
    clear ho hs8 hbb hrow
    go_wp2
    refine bodyPost_ret (v := .agg [Value.int .i64 0, .string ⟨#[]⟩, .string ⟨#[]⟩, .int .i64 0, .int .i64 0, .int .i64 0, .slice none 0 0, .bool false, .int .i64 0, .int .i64 0, .int .i64 0].toArray) ?_ rfl ⟨.slice none 0 0, by rw [HF.out]; rfl, by rw [HF.out]; exact ownS_nil _ _, HB8.out⟩
    have hl3 := run_loadVar_mid (P := Tryz.prog) _ (w.heap.size) 0 27 _ _ (rangeRow HROW.out) Tryz.underlying27 rfl sizeCertV
    simp [results, Tryz.results70, asAddr, hl3]
  have h7' : 7 ≤ ll := by omega
  obtain ⟨g, rfl, hgl, hcs⟩ : ∃ g, ta = some ⟨g, 0, none⟩ ∧ g < w4.heap.size ∧ ∀ i p, L[i]? = some p → w4.cell? ⟨g, i * 2, none⟩ = some (.int .i64 p.1) ∧ w4.cell? ⟨g, i * 2 + 1, none⟩ = some (.string p.2) := by
    rcases HTo.out with h | h
    · rw [HLl.out, h] at h7'
      simp at h7'
    · exact h
  obtain ⟨ser, iss, sub, fr, ti, key, hF⟩ : ∃ a b c d e f, fixL L = ⟨a, b, c, d, e, f, [], false, 0, 0, 0⟩ := ⟨_, _, _, _, _, _, rfl⟩
  have HFx1 := HFx.out w4 g 7 L B4.out (by rw [← HLl.out]; exact h7') HLz.out (fun i p h => (hcs i p h).2)
  rw [hF] at HFx1
  unfold Paper.val at HFx1
  simp only at HFx1
  have HFX : Hid _ := HFx1
  have HRR : Hid (R = ⟨ser, iss, sub, fr, ti, key, (moreR ([], false) (L.drop 7)).1, (moreR ([], false) (L.drop 7)).2, n0, n1, n2⟩) := by show _ = _; rw [HR.out, paperR, if_neg (by rw [← HLl.out]; omega), hF]; rfl
  have HCs : Hid (∀ i p, L[i]? = some p → w4.cell? ⟨g, i * 2, none⟩ = some (.int .i64 p.1) ∧ w4.cell? ⟨g, i * 2 + 1, none⟩ = some (.string p.2)) := hcs
  have HGl : Hid (g < w4.heap.size) := hgl
  clear HFx1 hF HTo hcs HFx HR hgl
  go_wp2_with fail
  refine Calls.mono HFX.out ?_
  rintro e w5 ⟨rfl, b5⟩
  have B5 : Hid (Below w1.heap.size w1 w5) := B4.out.trans (b5.mono B4.out.size)
  obtain ⟨w6, hw6⟩ : ∃ y, y = w5.alloc (.cells #[.int .i64 ser, .string iss, .string sub, .int .i64 fr, .int .i64 ti, .int .i64 key, .slice none 0 0, .bool false, .int .i64 0, .int .i64 0, .int .i64 0] 27 (0, 0)) := ⟨_, rfl⟩
  have b6 : Below w5.heap.size w5 w6 := by rw [hw6]; exact (Below.refl _ w5).alloc (Nat.le_refl _) _
  have G6 : Hid (w6.heap[w5.heap.size]? = some (.cells [Value.int .i64 ser, .string iss, .string sub, .int .i64 fr, .int .i64 ti, .int .i64 key, .slice none 0 0, .bool false, .int .i64 0, .int .i64 0, .int .i64 0].toArray 27 (0, 0))) := by show _ = _; rw [hw6]; exact heap_alloc_new w5 _
  have B6 : Hid (Below w1.heap.size w1 w6) := B5.out.trans (b6.mono B5.out.size)
  have Z6 : Hid (w6.heap.size = w5.heap.size + 1) := by show _ = _; rw [hw6]; simp
  have C6 : Hid (Below w4.heap.size w4 w6) := b5.trans (b6.mono b5.size)
  clear b5 b6 HFX B4
  have HLd : (L.drop 7).length = ll - 7 := by rw [List.length_drop, ← HLl.out]
  obtain ⟨M, hM⟩ : ∃ M, M = moreR ([], false) (L.drop 7) := ⟨_, rfl⟩
  have HZd : ∀ p ∈ L.drop 7, p.2.size ≤ 4000 := fun p hp => HLz.out p (List.mem_of_mem_drop hp)
  have HM1 : Hid (ll = 7 → Calls Tryz.prog 147 #[.slice (some ⟨g, 0, none⟩) 0 0] w6 fun e w' => ∃ v, e = .returned (.agg #[v, .bool M.2]) ∧ OwnS w' w6.heap.size v M.1 ∧ Below w6.heap.size w6 w') := fun h => by
    have hd : L.drop 7 = [] := List.eq_nil_of_length_eq_zero (by omega)
    have := HMo.out w6 (some ⟨g, 0, none⟩) [] 0 B6.out (by simp) (.inl rfl) (by simp)
    rw [hM, hd]
    exact this
  have HM2 : Hid (Calls Tryz.prog 147 #[.slice (some ⟨g, 14, none⟩) (ll - 7) (ll - 7)] w6 fun e w' => ∃ v, e = .returned (.agg #[v, .bool M.2]) ∧ OwnS w' w6.heap.size v M.1 ∧ Below w6.heap.size w6 w') := by
    have hgl := HGl.out
    have := HMo.out w6 (some ⟨g, 14, none⟩) (L.drop 7) (ll - 7) B6.out (by omega) (.inr ⟨g, 14, rfl, Nat.lt_of_lt_of_le hgl C6.out.size, fun i p hp => ?_⟩) HZd
    · rw [hM]
      rw [HLd] at this
      exact this
    · rw [List.getElem?_drop] at hp
      obtain ⟨h1, h2⟩ := HCs.out _ p hp
      rw [C6.out.cell (p := ⟨g, 14 + i * 2, none⟩) hgl, C6.out.cell (p := ⟨g, 14 + i * 2 + 1, none⟩) hgl]
      rw [show (7 + i) * 2 = 14 + i * 2 by omega] at h1 h2
      exact ⟨h1, h2⟩
  rw [← hM] at HRR
  clear HLd hM HZd HMo C6 HCs HGl HLz HL
  have z6 := Z6.out
  go_upto_region 5 with fail
  case inl h =>
    (try rw [← hw6])
    go_wp2_with fail
    (try rw [← hw6])
    refine Calls.mono (HM1.out h) ?_
    rintro e w7 ⟨mv, rfl, om, b7⟩
    clear hw6
    obtain ⟨M1, M2⟩ := M
    simp only at om ⊢
    obtain ⟨ma, mc, rfl, _⟩ := OwnS.form om
    obtain ⟨ml, hml⟩ : ∃ n, n = M1.length := ⟨_, rfl⟩
    rw [← hml] at om ⊢
    obtain ⟨w8, hw8⟩ : ∃ y, y = w7.alloc (.cells #[.slice ma ml mc, .bool M2] 79 (0, 0)) := ⟨_, rfl⟩
    have b8 : Below w7.heap.size w7 w8 := by rw [hw8]; exact (Below.refl _ w7).alloc (Nat.le_refl _) _
    have G8 : Hid (w8.heap[w7.heap.size]? = some (.cells [Value.slice ma ml mc, .bool M2].toArray 79 (0, 0))) := by show _ = _; rw [hw8]; exact heap_alloc_new w7 _
    have g8 : w8.heap[w5.heap.size]? = some (.cells [Value.int .i64 ser, .string iss, .string sub, .int .i64 fr, .int .i64 ti, .int .i64 key, .slice none 0 0, .bool false, .int .i64 0, .int .i64 0, .int .i64 0].toArray 27 (0, 0)) := by rw [b8.block _ (by have := b7.size; omega), b7.block _ (by omega)]; exact G6.out
    have O8 : Hid (OwnS w8 w6.heap.size (.slice ma ml mc) M1) := by
      have h2 : OwnS w7 w6.heap.size (.slice ma ml mc) M1 := om
      exact h2.keep b8
    have B8 : Hid (Below w1.heap.size w1 w8) := (B6.out.trans (b7.mono B6.out.size)).trans (b8.mono (by have := B6.out.size; have := b7.size; omega))
    have S8 : Hid (w6.heap.size ≤ w8.heap.size) := Nat.le_trans b7.size b8.size
    obtain ⟨w9, hw9⟩ : ∃ y, y = ((w8.setCell ⟨w5.heap.size, 6, none⟩ (.slice ma ml mc)).setCell ⟨w5.heap.size, 7, none⟩ (.bool M2)).drew := ⟨_, rfl⟩
    have G9 : Hid (w9.heap[w5.heap.size]? = some (.cells [Value.int .i64 ser, .string iss, .string sub, .int .i64 fr, .int .i64 ti, .int .i64 key, .slice ma ml mc, .bool M2, .int .i64 0, .int .i64 0, .int .i64 0].toArray 27 (0, 0))) := by show _ = _; rw [hw9]; exact rowSet (i := 7) _ (rowSet (i := 6) _ g8)
    have ho9 : ∀ k, k ≠ w5.heap.size → w9.heap[k]? = w8.heap[k]? := fun k hk => by rw [hw9]; exact (heap_setCell_other _ _ _ _ hk).trans (heap_setCell_other _ _ _ _ hk)
    have O9 : Hid (OwnS w9 w6.heap.size (.slice ma ml mc) M1) := O8.out.same fun k h1 h2 => ho9 k (by omega)
    have B9 : Hid (Below w1.heap.size w1 w9) := by rw [hw9]; exact ((B8.out.setCell (by have := B5.out.size; show w1.heap.size ≤ w5.heap.size; omega) _).setCell (by have := B5.out.size; show w1.heap.size ≤ w5.heap.size; omega) _).drew
    have S9 : Hid (w6.heap.size ≤ w9.heap.size) := by rw [hw9]; show _ ≤ _; have := S8.out; simpa using this
    have m0 := rowFacts G8.out 0 _ rfl
    have m1 := rowFacts G8.out 1 _ rfl
    have hne75 : w7.heap.size ≠ w5.heap.size := by have := b7.size; omega
    have hm67 : ∀ (j : Nat) (u : Value) (i : Nat), (w8.setCell ⟨w5.heap.size, j, none⟩ u).drew.cell? ⟨w7.heap.size, i, none⟩ = w8.cell? ⟨w7.heap.size, i, none⟩ := fun j u i => World.cell?_setCell_far w8 ⟨w5.heap.size, j, none⟩ ⟨w7.heap.size, i, none⟩ u (fun h => hne75 h.symm)
    have HM9 : Hid (w9.cell? ⟨w7.heap.size, 0, none⟩ = some (.slice ma ml mc) ∧ w9.cell? ⟨w7.heap.size, 1, none⟩ = some (.bool M2)) := by
      have e : ∀ i, w9.cell? ⟨w7.heap.size, i, none⟩ = w8.cell? ⟨w7.heap.size, i, none⟩ := fun i => by unfold World.cell?; simp only [ho9 _ hne75]
      exact ⟨by rw [e]; exact m0, by rw [e]; exact m1⟩
    have c6 := rowFacts g8 6 _ rfl
    have c7 := rowFacts g8 7 _ rfl
    have f6 := rowFree g8 6
    have f7 := rowFree g8 7
    clear b7 b8 om hml g8 ho9 O8 B8 S8 G8 G6 B6
    go_upto_region 7 with fail
    rw [← hw8]
    clear hw8
    refine wp_region_held_drew (S := fun V => V.cell? ⟨w7.heap.size, 0, none⟩ = some (.slice ma ml mc) ∧ V.cell? ⟨w7.heap.size, 1, none⟩ = some (.bool M2)) (by kernel_rfl) ⟨m0, m1⟩ (fun hHeld => ?_)
    refine wpAnyH_take (i := 0) (oi := ⟨some 30, _, _, _, _, _⟩) (v := ?_) rfl (by kernel_rfl) (by kernel_rfl) (by kernel_rfl) (fun _ _ _ h => h) (Or.inl ⟨by kernel_rfl, ?_⟩) (by assumption) ?_
    rotate_left
    · (intro w hSw; (try dsimp only at hSw); go_simp; try with_reducible rfl)
    (try simp only [Act.put, List.setIfInBounds_toArray, List.set_cons_zero, List.set_cons_succ])
    refine wpAnyH_take (i := 1) (oi := ⟨some 31, _, _, _, _, _⟩) (v := ?_) rfl (by kernel_rfl) (by kernel_rfl) (by kernel_rfl) (fun _ _ _ h => h) (Or.inl ⟨by kernel_rfl, ?_⟩) (by assumption) ?_
    rotate_left
    · (intro w hSw; (try dsimp only at hSw); go_simp; try with_reducible rfl)
    (try simp only [Act.put, List.setIfInBounds_toArray, List.set_cons_zero, List.set_cons_succ])
    refine wpAnyH_take (i := 2) (oi := ⟨some 32, _, _, _, _, _⟩) (v := ?_) rfl (by kernel_rfl) (by kernel_rfl) (by kernel_rfl) (fun _ _ _ h => h) (Or.inl ⟨by kernel_rfl, ?_⟩) (by assumption) ?_
    rotate_left
    · (intro w hSw; (try dsimp only at hSw); go_simp; try with_reducible rfl)
    (try simp only [Act.put, List.setIfInBounds_toArray, List.set_cons_zero, List.set_cons_succ])
    refine wpAnyH_take (i := 3) (oi := ⟨some 33, _, _, _, _, _⟩) (v := ?_) rfl (by kernel_rfl) (by kernel_rfl) (by kernel_rfl) (fun _ _ _ h => h) (Or.inl ⟨by kernel_rfl, ?_⟩) (by assumption) ?_
    rotate_left
    · (intro w hSw; (try dsimp only at hSw); go_simp; try with_reducible rfl)
    (try simp only [Act.put, List.setIfInBounds_toArray, List.set_cons_zero, List.set_cons_succ])
    refine wpAnyH_take (i := 4) (oi := ⟨some 34, _, _, _, _, _⟩) (v := ?_) rfl (by kernel_rfl) (by kernel_rfl) (by kernel_rfl) (fun _ _ _ h => h) (Or.inl ⟨by kernel_rfl, ?_⟩) (by assumption) ?_
    rotate_left
    · (intro w hSw; (try dsimp only at hSw); go_simp; try with_reducible rfl)
    (try simp only [Act.put, List.setIfInBounds_toArray, List.set_cons_zero, List.set_cons_succ])
    refine wpAnyH_ready (rs := [5]) (by kernel_rfl) (by simp) ?_
    refine AllReadyH.cons (o := ⟨none, _, _, _, _, _⟩) rfl (fun K hK => ?_) AllReadyH.nil
    go_simp
    refine hK.out _ _ ?_ (fun hHeld => ?_)
    · exact ⟨by rw [hm67 6]; exact m0, by rw [hm67 6]; exact m1⟩
    clear hK K
    (try simp only [Act.put, List.setIfInBounds_toArray, List.set_cons_zero, List.set_cons_succ])
    refine wpAnyH_take (i := 6) (oi := ⟨some 35, _, _, _, _, _⟩) (v := ?_) rfl (by kernel_rfl) (by kernel_rfl) (by kernel_rfl) (fun _ _ _ h => h) (Or.inl ⟨by kernel_rfl, ?_⟩) (by assumption) ?_
    rotate_left
    · (intro w hSw; (try dsimp only at hSw); go_simp; try with_reducible rfl)
    (try simp only [Act.put, List.setIfInBounds_toArray, List.set_cons_zero, List.set_cons_succ])
    refine wpAnyH_ready (rs := [7]) (by kernel_rfl) (by simp) ?_
    refine AllReadyH.cons (o := ⟨none, _, _, _, _, _⟩) rfl (fun K hK => ?_) AllReadyH.nil
    go_simp
    rw [← hw9]
    refine hK.out _ _ ?_ (fun hHeld => ?_)
    · exact HM9.out
    clear hK K hw9 m0 m1 c6 c7 f6 f7 hm67
    (try simp only [Act.put, List.setIfInBounds_toArray, List.set_cons_zero, List.set_cons_succ])
    refine wpAnyH_done (by kernel_rfl) ?_ _
    go_wp2_with fail
    refine (HAt.out w9 wh 2 (by omega) C1.out.2 B9.out).mono ?_
    rintro e w10 ⟨rfl, b10⟩
    rw [← C3.out.1]
    have B10 : Hid (Below w1.heap.size w1 w10) := B9.out.trans (b10.mono B9.out.size)
    have D10 : Hid (Below w9.heap.size w9 w10) := b10
    clear b10
    go_wp2_with fail
    refine (HNu.out w10 nq 3 (by omega) C3.out.2 B10.out).mono ?_
    rintro e w11 ⟨rfl, g11, b11⟩
    have B11 : Hid (Below w1.heap.size w1 w11) := B10.out.trans (b11.mono B10.out.size)
    have D11 : Hid (Below w9.heap.size w9 w11) := D10.out.trans (b11.mono D10.out.size)
    rw [HN.out] at g11
    have hl9 := heap_lt G9.out
    have hs10 := D10.out.size
    have g9 : w11.heap[w5.heap.size]? = some (.cells [Value.int .i64 ser, .string iss, .string sub, .int .i64 fr, .int .i64 ti, .int .i64 key, .slice ma ml mc, .bool M2, .int .i64 0, .int .i64 0, .int .i64 0].toArray 27 (0, 0)) := by rw [D11.out.block _ hl9]; exact G9.out
    have j0 := rowFacts g11 0 _ rfl
    have j1 := rowFacts g11 1 _ rfl
    have j2 := rowFacts g11 2 _ rfl
    have hjn : w10.heap.size ≠ w5.heap.size := by omega
    obtain ⟨v3, hv3⟩ : ∃ y, y = (((w11.setCell ⟨w5.heap.size, 8, none⟩ (.int .i64 n0)).setCell ⟨w5.heap.size, 9, none⟩ (.int .i64 n1)).setCell ⟨w5.heap.size, 10, none⟩ (.int .i64 n2)) := ⟨_, rfl⟩
    have T0 : Hid (v3.heap[w5.heap.size]? = some (.cells [Value.int .i64 ser, .string iss, .string sub, .int .i64 fr, .int .i64 ti, .int .i64 key, .slice ma ml mc, .bool M2, .int .i64 n0, .int .i64 n1, .int .i64 n2].toArray 27 (0, 0))) := by show _ = _; rw [hv3]; exact rowSet (i := 10) _ (rowSet (i := 9) _ (rowSet (i := 8) _ g9))
    have ho3 : ∀ k, k ≠ w5.heap.size → v3.heap[k]? = w11.heap[k]? := fun k hk => by rw [hv3, heap_setCell_other _ _ _ _ hk, heap_setCell_other _ _ _ _ hk, heap_setCell_other _ _ _ _ hk]
    have hz1' : w1.heap.size ≤ w5.heap.size := B5.out.size
    have BV : Hid (Below w1.heap.size w1 v3) := by rw [hv3]; exact ((B11.out.setCell (by show w1.heap.size ≤ w5.heap.size; omega) _).setCell (by show w1.heap.size ≤ w5.heap.size; omega) _).setCell (by show w1.heap.size ≤ w5.heap.size; omega) _
    have OV : Hid (OwnS v3 w6.heap.size (.slice ma ml mc) M1) := (O9.out.keep D11.out).same fun k h1 h2 => ho3 k (by omega)
    have HS3 : Hid (v3.cell? ⟨w10.heap.size, 0, none⟩ = some (.int .i64 n0) ∧ v3.cell? ⟨w10.heap.size, 1, none⟩ = some (.int .i64 n1) ∧ v3.cell? ⟨w10.heap.size, 2, none⟩ = some (.int .i64 n2)) := by
      have e : ∀ i, v3.cell? ⟨w10.heap.size, i, none⟩ = w11.cell? ⟨w10.heap.size, i, none⟩ := fun i => by unfold World.cell?; simp only [ho3 _ hjn]
      exact ⟨by rw [e]; exact j0, by rw [e]; exact j1, by rw [e]; exact j2⟩
    have p8 := rowFacts g9 8 _ rfl
    have p9 := rowFacts g9 9 _ rfl
    have p10 := rowFacts g9 10 _ rfl
    have q8 := rowFree g9 8
    have q9 := rowFree g9 9
    have q10 := rowFree g9 10
    clear b11 g11 hl9 hs10 g9 hjn ho3 B9 B10 B11 D10 D11 O9 G9 HM9
    go_upto_region 9 with fail
    refine wp_region_held_drew (S := fun V => V.cell? ⟨w10.heap.size, 0, none⟩ = some (.int .i64 n0) ∧ V.cell? ⟨w10.heap.size, 1, none⟩ = some (.int .i64 n1) ∧ V.cell? ⟨w10.heap.size, 2, none⟩ = some (.int .i64 n2)) (by kernel_rfl) ⟨j0, j1, j2⟩ (fun hHeld => ?_)
    refine wpAnyH_take (i := 0) (oi := ⟨some 40, _, _, _, _, _⟩) (v := ?_) rfl (by kernel_rfl) (by kernel_rfl) (by kernel_rfl) (fun _ _ _ h => h) (Or.inl ⟨by kernel_rfl, ?_⟩) (by assumption) ?_
    rotate_left
    · (intro w hSw; (try dsimp only at hSw); go_simp; try with_reducible rfl)
    (try simp only [Act.put, List.setIfInBounds_toArray, List.set_cons_zero, List.set_cons_succ])
    refine wpAnyH_take (i := 1) (oi := ⟨some 41, _, _, _, _, _⟩) (v := ?_) rfl (by kernel_rfl) (by kernel_rfl) (by kernel_rfl) (fun _ _ _ h => h) (Or.inl ⟨by kernel_rfl, ?_⟩) (by assumption) ?_
    rotate_left
    · (intro w hSw; (try dsimp only at hSw); go_simp; try with_reducible rfl)
    (try simp only [Act.put, List.setIfInBounds_toArray, List.set_cons_zero, List.set_cons_succ])
    refine wpAnyH_take (i := 2) (oi := ⟨some 42, _, _, _, _, _⟩) (v := ?_) rfl (by kernel_rfl) (by kernel_rfl) (by kernel_rfl) (fun _ _ _ h => h) (Or.inl ⟨by kernel_rfl, ?_⟩) (by assumption) ?_
    rotate_left
    · (intro w hSw; (try dsimp only at hSw); go_simp; try with_reducible rfl)
    (try simp only [Act.put, List.setIfInBounds_toArray, List.set_cons_zero, List.set_cons_succ])
    refine wpAnyH_take (i := 3) (oi := ⟨some 43, _, _, _, _, _⟩) (v := ?_) rfl (by kernel_rfl) (by kernel_rfl) (by kernel_rfl) (fun _ _ _ h => h) (Or.inl ⟨by kernel_rfl, ?_⟩) (by assumption) ?_
    rotate_left
    · (intro w hSw; (try dsimp only at hSw); go_simp; try with_reducible rfl)
    (try simp only [Act.put, List.setIfInBounds_toArray, List.set_cons_zero, List.set_cons_succ])
    refine wpAnyH_take (i := 4) (oi := ⟨some 44, _, _, _, _, _⟩) (v := ?_) rfl (by kernel_rfl) (by kernel_rfl) (by kernel_rfl) (fun _ _ _ h => h) (Or.inl ⟨by kernel_rfl, ?_⟩) (by assumption) ?_
    rotate_left
    · (intro w hSw; (try dsimp only at hSw); go_simp; try with_reducible rfl)
    (try simp only [Act.put, List.setIfInBounds_toArray, List.set_cons_zero, List.set_cons_succ])
    refine wpAnyH_take (i := 5) (oi := ⟨some 45, _, _, _, _, _⟩) (v := ?_) rfl (by kernel_rfl) (by kernel_rfl) (by kernel_rfl) (fun _ _ _ h => h) (Or.inl ⟨by kernel_rfl, ?_⟩) (by assumption) ?_
    rotate_left
    · (intro w hSw; (try dsimp only at hSw); go_simp; try with_reducible rfl)
    (try simp only [Act.put, List.setIfInBounds_toArray, List.set_cons_zero, List.set_cons_succ])
    refine wpAnyH_take (i := 6) (oi := ⟨some 46, _, _, _, _, _⟩) (v := ?_) rfl (by kernel_rfl) (by kernel_rfl) (by kernel_rfl) (fun _ _ _ h => h) (Or.inl ⟨by kernel_rfl, ?_⟩) (by assumption) ?_
    rotate_left
    · (intro w hSw; (try dsimp only at hSw); go_simp; try with_reducible rfl)
    (try simp only [Act.put, List.setIfInBounds_toArray, List.set_cons_zero, List.set_cons_succ])
    refine wpAnyH_take (i := 7) (oi := ⟨some 47, _, _, _, _, _⟩) (v := ?_) rfl (by kernel_rfl) (by kernel_rfl) (by kernel_rfl) (fun _ _ _ h => h) (Or.inl ⟨by kernel_rfl, ?_⟩) (by assumption) ?_
    rotate_left
    · (intro w hSw; (try dsimp only at hSw); go_simp; try with_reducible rfl)
    (try simp only [Act.put, List.setIfInBounds_toArray, List.set_cons_zero, List.set_cons_succ])
    refine wpAnyH_take (i := 8) (oi := ⟨some 48, _, _, _, _, _⟩) (v := ?_) rfl (by kernel_rfl) (by kernel_rfl) (by kernel_rfl) (fun _ _ _ h => h) (Or.inl ⟨by kernel_rfl, ?_⟩) (by assumption) ?_
    rotate_left
    · (intro w hSw; (try dsimp only at hSw); go_simp; try with_reducible rfl)
    (try simp only [Act.put, List.setIfInBounds_toArray, List.set_cons_zero, List.set_cons_succ])
    refine wpAnyH_take (i := 9) (oi := ⟨some 49, _, _, _, _, _⟩) (v := ?_) rfl (by kernel_rfl) (by kernel_rfl) (by kernel_rfl) (fun _ _ _ h => h) (Or.inl ⟨by kernel_rfl, ?_⟩) (by assumption) ?_
    rotate_left
    · (intro w hSw; (try dsimp only at hSw); go_simp; try with_reducible rfl)
    (try simp only [Act.put, List.setIfInBounds_toArray, List.set_cons_zero, List.set_cons_succ])
    refine wpAnyH_take (i := 10) (oi := ⟨some 50, _, _, _, _, _⟩) (v := ?_) rfl (by kernel_rfl) (by kernel_rfl) (by kernel_rfl) (fun _ _ _ h => h) (Or.inl ⟨by kernel_rfl, ?_⟩) (by assumption) ?_
    rotate_left
    · (intro w hSw; (try dsimp only at hSw); go_simp; try with_reducible rfl)
    (try simp only [Act.put, List.setIfInBounds_toArray, List.set_cons_zero, List.set_cons_succ])
    refine wpAnyH_ready (rs := [11]) (by kernel_rfl) (by simp) ?_
    refine AllReadyH.cons (o := ⟨none, _, _, _, _, _⟩) rfl (fun K hK => ?_) AllReadyH.nil
    go_simp
    rw [← hv3]
    refine hK.out _ _ ?_ (fun hHeld => ?_)
    · exact HS3.out
    clear hK K hv3 p8 p9 p10 q8 q9 q10 j0 j1 j2 HS3
    (try simp only [Act.put, List.setIfInBounds_toArray, List.set_cons_zero, List.set_cons_succ])
    refine wpAnyH_done (by kernel_rfl) ?_ _
    obtain ⟨C, hC⟩ : ∃ C, C = [Value.int .i64 ser, .string iss, .string sub, .int .i64 fr, .int .i64 ti, .int .i64 key, .slice ma ml mc, .bool M2, .int .i64 n0, .int .i64 n1, .int .i64 n2] := ⟨_, rfl⟩
    have hr := rangeRow T0.out
    rw [← hC] at hr
    have hR := HRes.out _ BV.out
    have h1 : ∀ v ∈ C, v.oneCell' = true := by rw [hC]; simp [Value.oneCell']
    have hi' : (Tryz.prog.info? 27).map (·.size) = some C.length := by rw [hC]; exact sizeCertV
    have HLn : Hid ([Value.int .i64 0, .string ⟨#[]⟩, .string ⟨#[]⟩, .int .i64 0, .int .i64 0, .int .i64 0, .slice none 0 0, .bool false, .int .i64 0, .int .i64 0, .int .i64 0].length = C.length) := by rw [hC]; rfl
    have HCC : Hid (C = [Value.int .i64 ser, .string iss, .string sub, .int .i64 fr, .int .i64 ti, .int .i64 key, .slice ma ml mc, .bool M2, .int .i64 n0, .int .i64 n1, .int .i64 n2]) := hC
    clear hC
    go_wp2_with (first | (refine wpList_load_mid rfl 27 _ rfl (w5.heap.size) 0 rfl C _ hr Tryz.underlying27 rfl hi' ?_) | (refine wpList_store_row rfl 27 _ _ rfl (w.heap.size) _ C 27 rfl rfl hR HLn.out hi' h1 ?_))
    intro w12 hrow ho hs8 hbb
    have HROW : Hid _ := hrow
    have HB8 : Hid (Below w.heap.size w w12) := hbb _ _ (Nat.le_refl _) (HB.out _ BV.out.drew)
    have hz6 : w.heap.size + 1 ≤ w6.heap.size := by have := Z1.out; omega
    have O12 : Hid (OwnS w12 w6.heap.size (.slice ma ml mc) M1) := OV.out.same fun b h1 h2 => ho b (by omega)
    clear ho hs8 hbb hrow hr hR h1
    go_wp2
    refine bodyPost_ret (v := .agg C.toArray) ?_ rfl ⟨.slice ma ml mc, by rw [HCC.out, HRR.out]; rfl, by rw [HRR.out]; exact O12.out.mono (by omega), HB8.out⟩
    have hl3 := run_loadVar_mid (P := Tryz.prog) _ (w.heap.size) 0 27 _ _ (rangeRow HROW.out) Tryz.underlying27 rfl hi'
    simp [results, Tryz.results70, asAddr, hl3]
  case inr h =>
    (try rw [← hw6])
    go_wp2_with fail
    (try rw [← hw6])
    refine Calls.mono HM2.out ?_
    rintro e w7 ⟨mv, rfl, om, b7⟩
    clear hw6
    obtain ⟨M1, M2⟩ := M
    simp only at om ⊢
    obtain ⟨ma, mc, rfl, _⟩ := OwnS.form om
    obtain ⟨ml, hml⟩ : ∃ n, n = M1.length := ⟨_, rfl⟩
    rw [← hml] at om ⊢
    obtain ⟨w8, hw8⟩ : ∃ y, y = w7.alloc (.cells #[.slice ma ml mc, .bool M2] 79 (0, 0)) := ⟨_, rfl⟩
    have b8 : Below w7.heap.size w7 w8 := by rw [hw8]; exact (Below.refl _ w7).alloc (Nat.le_refl _) _
    have G8 : Hid (w8.heap[w7.heap.size]? = some (.cells [Value.slice ma ml mc, .bool M2].toArray 79 (0, 0))) := by show _ = _; rw [hw8]; exact heap_alloc_new w7 _
    have g8 : w8.heap[w5.heap.size]? = some (.cells [Value.int .i64 ser, .string iss, .string sub, .int .i64 fr, .int .i64 ti, .int .i64 key, .slice none 0 0, .bool false, .int .i64 0, .int .i64 0, .int .i64 0].toArray 27 (0, 0)) := by rw [b8.block _ (by have := b7.size; omega), b7.block _ (by omega)]; exact G6.out
    have O8 : Hid (OwnS w8 w6.heap.size (.slice ma ml mc) M1) := by
      have h2 : OwnS w7 w6.heap.size (.slice ma ml mc) M1 := om
      exact h2.keep b8
    have B8 : Hid (Below w1.heap.size w1 w8) := (B6.out.trans (b7.mono B6.out.size)).trans (b8.mono (by have := B6.out.size; have := b7.size; omega))
    have S8 : Hid (w6.heap.size ≤ w8.heap.size) := Nat.le_trans b7.size b8.size
    obtain ⟨w9, hw9⟩ : ∃ y, y = ((w8.setCell ⟨w5.heap.size, 6, none⟩ (.slice ma ml mc)).setCell ⟨w5.heap.size, 7, none⟩ (.bool M2)).drew := ⟨_, rfl⟩
    have G9 : Hid (w9.heap[w5.heap.size]? = some (.cells [Value.int .i64 ser, .string iss, .string sub, .int .i64 fr, .int .i64 ti, .int .i64 key, .slice ma ml mc, .bool M2, .int .i64 0, .int .i64 0, .int .i64 0].toArray 27 (0, 0))) := by show _ = _; rw [hw9]; exact rowSet (i := 7) _ (rowSet (i := 6) _ g8)
    have ho9 : ∀ k, k ≠ w5.heap.size → w9.heap[k]? = w8.heap[k]? := fun k hk => by rw [hw9]; exact (heap_setCell_other _ _ _ _ hk).trans (heap_setCell_other _ _ _ _ hk)
    have O9 : Hid (OwnS w9 w6.heap.size (.slice ma ml mc) M1) := O8.out.same fun k h1 h2 => ho9 k (by omega)
    have B9 : Hid (Below w1.heap.size w1 w9) := by rw [hw9]; exact ((B8.out.setCell (by have := B5.out.size; show w1.heap.size ≤ w5.heap.size; omega) _).setCell (by have := B5.out.size; show w1.heap.size ≤ w5.heap.size; omega) _).drew
    have S9 : Hid (w6.heap.size ≤ w9.heap.size) := by rw [hw9]; show _ ≤ _; have := S8.out; simpa using this
    have m0 := rowFacts G8.out 0 _ rfl
    have m1 := rowFacts G8.out 1 _ rfl
    have hne75 : w7.heap.size ≠ w5.heap.size := by have := b7.size; omega
    have hm67 : ∀ (j : Nat) (u : Value) (i : Nat), (w8.setCell ⟨w5.heap.size, j, none⟩ u).drew.cell? ⟨w7.heap.size, i, none⟩ = w8.cell? ⟨w7.heap.size, i, none⟩ := fun j u i => World.cell?_setCell_far w8 ⟨w5.heap.size, j, none⟩ ⟨w7.heap.size, i, none⟩ u (fun h => hne75 h.symm)
    have HM9 : Hid (w9.cell? ⟨w7.heap.size, 0, none⟩ = some (.slice ma ml mc) ∧ w9.cell? ⟨w7.heap.size, 1, none⟩ = some (.bool M2)) := by
      have e : ∀ i, w9.cell? ⟨w7.heap.size, i, none⟩ = w8.cell? ⟨w7.heap.size, i, none⟩ := fun i => by unfold World.cell?; simp only [ho9 _ hne75]
      exact ⟨by rw [e]; exact m0, by rw [e]; exact m1⟩
    have c6 := rowFacts g8 6 _ rfl
    have c7 := rowFacts g8 7 _ rfl
    have f6 := rowFree g8 6
    have f7 := rowFree g8 7
    clear b7 b8 om hml g8 ho9 O8 B8 S8 G8 G6 B6
    go_upto_region 7 with fail
    rw [← hw8]
    clear hw8
    refine wp_region_held_drew (S := fun V => V.cell? ⟨w7.heap.size, 0, none⟩ = some (.slice ma ml mc) ∧ V.cell? ⟨w7.heap.size, 1, none⟩ = some (.bool M2)) (by kernel_rfl) ⟨m0, m1⟩ (fun hHeld => ?_)
    refine wpAnyH_take (i := 0) (oi := ⟨some 30, _, _, _, _, _⟩) (v := ?_) rfl (by kernel_rfl) (by kernel_rfl) (by kernel_rfl) (fun _ _ _ h => h) (Or.inl ⟨by kernel_rfl, ?_⟩) (by assumption) ?_
    rotate_left
    · (intro w hSw; (try dsimp only at hSw); go_simp; try with_reducible rfl)
    (try simp only [Act.put, List.setIfInBounds_toArray, List.set_cons_zero, List.set_cons_succ])
    refine wpAnyH_take (i := 1) (oi := ⟨some 31, _, _, _, _, _⟩) (v := ?_) rfl (by kernel_rfl) (by kernel_rfl) (by kernel_rfl) (fun _ _ _ h => h) (Or.inl ⟨by kernel_rfl, ?_⟩) (by assumption) ?_
    rotate_left
    · (intro w hSw; (try dsimp only at hSw); go_simp; try with_reducible rfl)
    (try simp only [Act.put, List.setIfInBounds_toArray, List.set_cons_zero, List.set_cons_succ])
    refine wpAnyH_take (i := 2) (oi := ⟨some 32, _, _, _, _, _⟩) (v := ?_) rfl (by kernel_rfl) (by kernel_rfl) (by kernel_rfl) (fun _ _ _ h => h) (Or.inl ⟨by kernel_rfl, ?_⟩) (by assumption) ?_
    rotate_left
    · (intro w hSw; (try dsimp only at hSw); go_simp; try with_reducible rfl)
    (try simp only [Act.put, List.setIfInBounds_toArray, List.set_cons_zero, List.set_cons_succ])
    refine wpAnyH_take (i := 3) (oi := ⟨some 33, _, _, _, _, _⟩) (v := ?_) rfl (by kernel_rfl) (by kernel_rfl) (by kernel_rfl) (fun _ _ _ h => h) (Or.inl ⟨by kernel_rfl, ?_⟩) (by assumption) ?_
    rotate_left
    · (intro w hSw; (try dsimp only at hSw); go_simp; try with_reducible rfl)
    (try simp only [Act.put, List.setIfInBounds_toArray, List.set_cons_zero, List.set_cons_succ])
    refine wpAnyH_take (i := 4) (oi := ⟨some 34, _, _, _, _, _⟩) (v := ?_) rfl (by kernel_rfl) (by kernel_rfl) (by kernel_rfl) (fun _ _ _ h => h) (Or.inl ⟨by kernel_rfl, ?_⟩) (by assumption) ?_
    rotate_left
    · (intro w hSw; (try dsimp only at hSw); go_simp; try with_reducible rfl)
    (try simp only [Act.put, List.setIfInBounds_toArray, List.set_cons_zero, List.set_cons_succ])
    refine wpAnyH_ready (rs := [5]) (by kernel_rfl) (by simp) ?_
    refine AllReadyH.cons (o := ⟨none, _, _, _, _, _⟩) rfl (fun K hK => ?_) AllReadyH.nil
    go_simp
    refine hK.out _ _ ?_ (fun hHeld => ?_)
    · exact ⟨by rw [hm67 6]; exact m0, by rw [hm67 6]; exact m1⟩
    clear hK K
    (try simp only [Act.put, List.setIfInBounds_toArray, List.set_cons_zero, List.set_cons_succ])
    refine wpAnyH_take (i := 6) (oi := ⟨some 35, _, _, _, _, _⟩) (v := ?_) rfl (by kernel_rfl) (by kernel_rfl) (by kernel_rfl) (fun _ _ _ h => h) (Or.inl ⟨by kernel_rfl, ?_⟩) (by assumption) ?_
    rotate_left
    · (intro w hSw; (try dsimp only at hSw); go_simp; try with_reducible rfl)
    (try simp only [Act.put, List.setIfInBounds_toArray, List.set_cons_zero, List.set_cons_succ])
    refine wpAnyH_ready (rs := [7]) (by kernel_rfl) (by simp) ?_
    refine AllReadyH.cons (o := ⟨none, _, _, _, _, _⟩) rfl (fun K hK => ?_) AllReadyH.nil
    go_simp
    rw [← hw9]
    refine hK.out _ _ ?_ (fun hHeld => ?_)
    · exact HM9.out
    clear hK K hw9 m0 m1 c6 c7 f6 f7 hm67
    (try simp only [Act.put, List.setIfInBounds_toArray, List.set_cons_zero, List.set_cons_succ])
    refine wpAnyH_done (by kernel_rfl) ?_ _
    go_wp2_with fail
    refine (HAt.out w9 wh 2 (by omega) C1.out.2 B9.out).mono ?_
    rintro e w10 ⟨rfl, b10⟩
    rw [← C3.out.1]
    have B10 : Hid (Below w1.heap.size w1 w10) := B9.out.trans (b10.mono B9.out.size)
    have D10 : Hid (Below w9.heap.size w9 w10) := b10
    clear b10
    go_wp2_with fail
    refine (HNu.out w10 nq 3 (by omega) C3.out.2 B10.out).mono ?_
    rintro e w11 ⟨rfl, g11, b11⟩
    have B11 : Hid (Below w1.heap.size w1 w11) := B10.out.trans (b11.mono B10.out.size)
    have D11 : Hid (Below w9.heap.size w9 w11) := D10.out.trans (b11.mono D10.out.size)
    rw [HN.out] at g11
    have hl9 := heap_lt G9.out
    have hs10 := D10.out.size
    have g9 : w11.heap[w5.heap.size]? = some (.cells [Value.int .i64 ser, .string iss, .string sub, .int .i64 fr, .int .i64 ti, .int .i64 key, .slice ma ml mc, .bool M2, .int .i64 0, .int .i64 0, .int .i64 0].toArray 27 (0, 0)) := by rw [D11.out.block _ hl9]; exact G9.out
    have j0 := rowFacts g11 0 _ rfl
    have j1 := rowFacts g11 1 _ rfl
    have j2 := rowFacts g11 2 _ rfl
    have hjn : w10.heap.size ≠ w5.heap.size := by omega
    obtain ⟨v3, hv3⟩ : ∃ y, y = (((w11.setCell ⟨w5.heap.size, 8, none⟩ (.int .i64 n0)).setCell ⟨w5.heap.size, 9, none⟩ (.int .i64 n1)).setCell ⟨w5.heap.size, 10, none⟩ (.int .i64 n2)) := ⟨_, rfl⟩
    have T0 : Hid (v3.heap[w5.heap.size]? = some (.cells [Value.int .i64 ser, .string iss, .string sub, .int .i64 fr, .int .i64 ti, .int .i64 key, .slice ma ml mc, .bool M2, .int .i64 n0, .int .i64 n1, .int .i64 n2].toArray 27 (0, 0))) := by show _ = _; rw [hv3]; exact rowSet (i := 10) _ (rowSet (i := 9) _ (rowSet (i := 8) _ g9))
    have ho3 : ∀ k, k ≠ w5.heap.size → v3.heap[k]? = w11.heap[k]? := fun k hk => by rw [hv3, heap_setCell_other _ _ _ _ hk, heap_setCell_other _ _ _ _ hk, heap_setCell_other _ _ _ _ hk]
    have hz1' : w1.heap.size ≤ w5.heap.size := B5.out.size
    have BV : Hid (Below w1.heap.size w1 v3) := by rw [hv3]; exact ((B11.out.setCell (by show w1.heap.size ≤ w5.heap.size; omega) _).setCell (by show w1.heap.size ≤ w5.heap.size; omega) _).setCell (by show w1.heap.size ≤ w5.heap.size; omega) _
    have OV : Hid (OwnS v3 w6.heap.size (.slice ma ml mc) M1) := (O9.out.keep D11.out).same fun k h1 h2 => ho3 k (by omega)
    have HS3 : Hid (v3.cell? ⟨w10.heap.size, 0, none⟩ = some (.int .i64 n0) ∧ v3.cell? ⟨w10.heap.size, 1, none⟩ = some (.int .i64 n1) ∧ v3.cell? ⟨w10.heap.size, 2, none⟩ = some (.int .i64 n2)) := by
      have e : ∀ i, v3.cell? ⟨w10.heap.size, i, none⟩ = w11.cell? ⟨w10.heap.size, i, none⟩ := fun i => by unfold World.cell?; simp only [ho3 _ hjn]
      exact ⟨by rw [e]; exact j0, by rw [e]; exact j1, by rw [e]; exact j2⟩
    have p8 := rowFacts g9 8 _ rfl
    have p9 := rowFacts g9 9 _ rfl
    have p10 := rowFacts g9 10 _ rfl
    have q8 := rowFree g9 8
    have q9 := rowFree g9 9
    have q10 := rowFree g9 10
    clear b11 g11 hl9 hs10 g9 hjn ho3 B9 B10 B11 D10 D11 O9 G9 HM9
    go_upto_region 9 with fail
    refine wp_region_held_drew (S := fun V => V.cell? ⟨w10.heap.size, 0, none⟩ = some (.int .i64 n0) ∧ V.cell? ⟨w10.heap.size, 1, none⟩ = some (.int .i64 n1) ∧ V.cell? ⟨w10.heap.size, 2, none⟩ = some (.int .i64 n2)) (by kernel_rfl) ⟨j0, j1, j2⟩ (fun hHeld => ?_)
    refine wpAnyH_take (i := 0) (oi := ⟨some 40, _, _, _, _, _⟩) (v := ?_) rfl (by kernel_rfl) (by kernel_rfl) (by kernel_rfl) (fun _ _ _ h => h) (Or.inl ⟨by kernel_rfl, ?_⟩) (by assumption) ?_
    rotate_left
    · (intro w hSw; (try dsimp only at hSw); go_simp; try with_reducible rfl)
    (try simp only [Act.put, List.setIfInBounds_toArray, List.set_cons_zero, List.set_cons_succ])
    refine wpAnyH_take (i := 1) (oi := ⟨some 41, _, _, _, _, _⟩) (v := ?_) rfl (by kernel_rfl) (by kernel_rfl) (by kernel_rfl) (fun _ _ _ h => h) (Or.inl ⟨by kernel_rfl, ?_⟩) (by assumption) ?_
    rotate_left
    · (intro w hSw; (try dsimp only at hSw); go_simp; try with_reducible rfl)
    (try simp only [Act.put, List.setIfInBounds_toArray, List.set_cons_zero, List.set_cons_succ])
    refine wpAnyH_take (i := 2) (oi := ⟨some 42, _, _, _, _, _⟩) (v := ?_) rfl (by kernel_rfl) (by kernel_rfl) (by kernel_rfl) (fun _ _ _ h => h) (Or.inl ⟨by kernel_rfl, ?_⟩) (by assumption) ?_
    rotate_left
    · (intro w hSw; (try dsimp only at hSw); go_simp; try with_reducible rfl)
    (try simp only [Act.put, List.setIfInBounds_toArray, List.set_cons_zero, List.set_cons_succ])
    refine wpAnyH_take (i := 3) (oi := ⟨some 43, _, _, _, _, _⟩) (v := ?_) rfl (by kernel_rfl) (by kernel_rfl) (by kernel_rfl) (fun _ _ _ h => h) (Or.inl ⟨by kernel_rfl, ?_⟩) (by assumption) ?_
    rotate_left
    · (intro w hSw; (try dsimp only at hSw); go_simp; try with_reducible rfl)
    (try simp only [Act.put, List.setIfInBounds_toArray, List.set_cons_zero, List.set_cons_succ])
    refine wpAnyH_take (i := 4) (oi := ⟨some 44, _, _, _, _, _⟩) (v := ?_) rfl (by kernel_rfl) (by kernel_rfl) (by kernel_rfl) (fun _ _ _ h => h) (Or.inl ⟨by kernel_rfl, ?_⟩) (by assumption) ?_
    rotate_left
    · (intro w hSw; (try dsimp only at hSw); go_simp; try with_reducible rfl)
    (try simp only [Act.put, List.setIfInBounds_toArray, List.set_cons_zero, List.set_cons_succ])
    refine wpAnyH_take (i := 5) (oi := ⟨some 45, _, _, _, _, _⟩) (v := ?_) rfl (by kernel_rfl) (by kernel_rfl) (by kernel_rfl) (fun _ _ _ h => h) (Or.inl ⟨by kernel_rfl, ?_⟩) (by assumption) ?_
    rotate_left
    · (intro w hSw; (try dsimp only at hSw); go_simp; try with_reducible rfl)
    (try simp only [Act.put, List.setIfInBounds_toArray, List.set_cons_zero, List.set_cons_succ])
    refine wpAnyH_take (i := 6) (oi := ⟨some 46, _, _, _, _, _⟩) (v := ?_) rfl (by kernel_rfl) (by kernel_rfl) (by kernel_rfl) (fun _ _ _ h => h) (Or.inl ⟨by kernel_rfl, ?_⟩) (by assumption) ?_
    rotate_left
    · (intro w hSw; (try dsimp only at hSw); go_simp; try with_reducible rfl)
    (try simp only [Act.put, List.setIfInBounds_toArray, List.set_cons_zero, List.set_cons_succ])
    refine wpAnyH_take (i := 7) (oi := ⟨some 47, _, _, _, _, _⟩) (v := ?_) rfl (by kernel_rfl) (by kernel_rfl) (by kernel_rfl) (fun _ _ _ h => h) (Or.inl ⟨by kernel_rfl, ?_⟩) (by assumption) ?_
    rotate_left
    · (intro w hSw; (try dsimp only at hSw); go_simp; try with_reducible rfl)
    (try simp only [Act.put, List.setIfInBounds_toArray, List.set_cons_zero, List.set_cons_succ])
    refine wpAnyH_take (i := 8) (oi := ⟨some 48, _, _, _, _, _⟩) (v := ?_) rfl (by kernel_rfl) (by kernel_rfl) (by kernel_rfl) (fun _ _ _ h => h) (Or.inl ⟨by kernel_rfl, ?_⟩) (by assumption) ?_
    rotate_left
    · (intro w hSw; (try dsimp only at hSw); go_simp; try with_reducible rfl)
    (try simp only [Act.put, List.setIfInBounds_toArray, List.set_cons_zero, List.set_cons_succ])
    refine wpAnyH_take (i := 9) (oi := ⟨some 49, _, _, _, _, _⟩) (v := ?_) rfl (by kernel_rfl) (by kernel_rfl) (by kernel_rfl) (fun _ _ _ h => h) (Or.inl ⟨by kernel_rfl, ?_⟩) (by assumption) ?_
    rotate_left
    · (intro w hSw; (try dsimp only at hSw); go_simp; try with_reducible rfl)
    (try simp only [Act.put, List.setIfInBounds_toArray, List.set_cons_zero, List.set_cons_succ])
    refine wpAnyH_take (i := 10) (oi := ⟨some 50, _, _, _, _, _⟩) (v := ?_) rfl (by kernel_rfl) (by kernel_rfl) (by kernel_rfl) (fun _ _ _ h => h) (Or.inl ⟨by kernel_rfl, ?_⟩) (by assumption) ?_
    rotate_left
    · (intro w hSw; (try dsimp only at hSw); go_simp; try with_reducible rfl)
    (try simp only [Act.put, List.setIfInBounds_toArray, List.set_cons_zero, List.set_cons_succ])
    refine wpAnyH_ready (rs := [11]) (by kernel_rfl) (by simp) ?_
    refine AllReadyH.cons (o := ⟨none, _, _, _, _, _⟩) rfl (fun K hK => ?_) AllReadyH.nil
    go_simp
    rw [← hv3]
    refine hK.out _ _ ?_ (fun hHeld => ?_)
    · exact HS3.out
    clear hK K hv3 p8 p9 p10 q8 q9 q10 j0 j1 j2 HS3
    (try simp only [Act.put, List.setIfInBounds_toArray, List.set_cons_zero, List.set_cons_succ])
    refine wpAnyH_done (by kernel_rfl) ?_ _
    obtain ⟨C, hC⟩ : ∃ C, C = [Value.int .i64 ser, .string iss, .string sub, .int .i64 fr, .int .i64 ti, .int .i64 key, .slice ma ml mc, .bool M2, .int .i64 n0, .int .i64 n1, .int .i64 n2] := ⟨_, rfl⟩
    have hr := rangeRow T0.out
    rw [← hC] at hr
    have hR := HRes.out _ BV.out
    have h1 : ∀ v ∈ C, v.oneCell' = true := by rw [hC]; simp [Value.oneCell']
    have hi' : (Tryz.prog.info? 27).map (·.size) = some C.length := by rw [hC]; exact sizeCertV
    have HLn : Hid ([Value.int .i64 0, .string ⟨#[]⟩, .string ⟨#[]⟩, .int .i64 0, .int .i64 0, .int .i64 0, .slice none 0 0, .bool false, .int .i64 0, .int .i64 0, .int .i64 0].length = C.length) := by rw [hC]; rfl
    have HCC : Hid (C = [Value.int .i64 ser, .string iss, .string sub, .int .i64 fr, .int .i64 ti, .int .i64 key, .slice ma ml mc, .bool M2, .int .i64 n0, .int .i64 n1, .int .i64 n2]) := hC
    clear hC
    go_wp2_with (first | (refine wpList_load_mid rfl 27 _ rfl (w5.heap.size) 0 rfl C _ hr Tryz.underlying27 rfl hi' ?_) | (refine wpList_store_row rfl 27 _ _ rfl (w.heap.size) _ C 27 rfl rfl hR HLn.out hi' h1 ?_))
    intro w12 hrow ho hs8 hbb
    have HROW : Hid _ := hrow
    have HB8 : Hid (Below w.heap.size w w12) := hbb _ _ (Nat.le_refl _) (HB.out _ BV.out.drew)
    have hz6 : w.heap.size + 1 ≤ w6.heap.size := by have := Z1.out; omega
    have O12 : Hid (OwnS w12 w6.heap.size (.slice ma ml mc) M1) := OV.out.same fun b h1 h2 => ho b (by omega)
    clear ho hs8 hbb hrow hr hR h1
    go_wp2
    refine bodyPost_ret (v := .agg C.toArray) ?_ rfl ⟨.slice ma ml mc, by rw [HCC.out, HRR.out]; rfl, by rw [HRR.out]; exact O12.out.mono (by omega), HB8.out⟩
    have hl3 := run_loadVar_mid (P := Tryz.prog) _ (w.heap.size) 0 27 _ _ (rangeRow HROW.out) Tryz.underlying27 rfl hi'
    simp [results, Tryz.results70, asAddr, hl3]
end Go.Proofs.YtkhdjmjbdpmdnaaGreatDoor
