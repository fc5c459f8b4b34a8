/- impl.csrBody, walked. impl.boxCsr, walked. impl.isRemainder, impl.SigRight, walked. An error of errors.New's make in one of the program's variables. The methods of impl.signedBox over impl.Csr: right, walked. The method lay of impl.signedBox over impl.Csr, walked. -/
import Derived.Test.YtkhdjmjbdpmdnaaGreatDoorCR06
import Derived.Test.YtkhdjmjbdpmdnaaGreatDoorCR26
import Derived.Test.YtkhdjmjbdpmdnaaGreatDoorCR02
import Derived.Deep.Cut
import Derived.Deep.RegionHeld3
import Derived.Test.YtkhdjmjbdpmdnaaGreatDoorCR04
import Derived.Test.YtkhdjmjbdpmdnaaGreatDoorCR09
import Derived.Test.YtkhdjmjbdpmdnaaGreatDoorCR01
import Derived.Below
namespace Go.Proofs.YtkhdjmjbdpmdnaaGreatDoor
open Go.RowKit

/-- A row of such numbers stands in block b. -/
def Row1 (x : Int) (V : World) (b : Nat) : Prop := V.heap[b]? = some (.cells #[.int .i64 x] 2 (0, 0))
theorem Row1.keep {x : Int} {V W : World} {b : Nat} (h : Row1 x V b) (hb : Below V.heap.size V W) : Row1 x W b := (hb.block b (heap_lt h)).trans h
theorem Row1.al {x : Int} {V : World} {b : Nat} {o : Obj} (h : Row1 x V b) : Row1 x (V.alloc o) b := by
  unfold Row1
  rw [Below.heap_alloc _ _ _ (heap_lt h)]
  exact h
/-- What impl.csrBody hands back. -/
noncomputable def askE (c : Ask) : ByteArray := if askB c = true then askD c else ⟨#[]⟩
set_option linter.unusedSimpArgs false in
set_option maxHeartbeats 4000000 in
set_option maxRecDepth 100000 in
theorem implAskD (c : Ask) (a : Option Addr) (cap : Nat) (w : World) (hl : c.names.length ≤ 1048576) (ht : totS c.names c.names.length ≤ 1048576) (ha : IsStrs w a c.names) :
    Calls Tryz.prog 150 #[c.val (.slice a c.names.length cap)] w fun e w' => e = .returned (.string (askE c)) ∧ Below w.heap.size w w' := by
  have HNm : Hid (∀ V, IsStrs V a c.names → Calls Tryz.prog 116 #[.slice a c.names.length cap] V fun e w' => e = .returned (.bool (namesB c.names)) ∧ Below V.heap.size V w') := fun V hV => implNames a c.names cap V hl ht hV
  have HH : Hid (namesB c.names = true → ∀ V, IsStrs V a c.names → Calls Tryz.prog 184 #[.slice a c.names.length cap] V fun e w' => e = .returned (.string (seqD (hostsD c.names c.names.length))) ∧ Below V.heap.size V w') := fun h V hV => implHosts a c.names cap V (names_fit h).1 (names_fit h).2 hV
  have HZ : Hid (namesB c.names = true → (seqD (hostsD c.names c.names.length)).size ≤ 224) := fun h => hosts_le (names_fit h).1 (names_fit h).2
  obtain ⟨R, hR⟩ : ∃ R, R = askE c := ⟨_, rfl⟩
  rw [← hR]
  have HR : Hid (R = if (rightG c.key && namesB c.names && decide (0 < c.names.length)) = true then seqD (intD 0 ++ (thingD 3 (⟨#[0]⟩ ++ putS c.key) ++ seqD (hostsD c.names c.names.length))) else ⟨#[]⟩) := hR
  have y2 := intD_le 0
  have y4 := askK_le c.key
  clear hR ht
  obtain ⟨key, names, sk, se, ss⟩ := c
  unfold Ask.val
  simp only at HNm HH HZ HR y4 hl ha ⊢
  obtain ⟨N, hN⟩ : ∃ N, N = namesB names := ⟨_, rfl⟩
  rw [← hN] at HNm HH HZ HR
  clear hN
  generalize seqD (hostsD names names.length) = G at *
  generalize names.length = nl at *
  obtain ⟨w1, hw1⟩ : ∃ w1, w1 = w.alloc (.cells #[.int .i64 key, .slice a nl cap, .int .i64 sk, .int .i64 se, .int .i64 ss] 44 (0, 0)) := ⟨_, rfl⟩
  have r0 : w1.heap[w.heap.size]? = some (.cells [Value.int .i64 key, .slice a nl cap, .int .i64 sk, .int .i64 se, .int .i64 ss].toArray 44 (0, 0)) := by rw [hw1]; exact heap_alloc_new w _
  have B1 : Hid (Below w.heap.size w w1) := by rw [hw1]; exact (Below.refl _ _).alloc (Nat.le_refl _) _
  have z1 : w.heap.size < w1.heap.size := by rw [hw1]; simp
  have HK : Hid (∀ V, Below w1.heap.size w1 V → V.cell? ⟨w.heap.size, 0, none⟩ = some (.int .i64 key) ∧ V.cell? ⟨w.heap.size, 1, none⟩ = some (.slice a nl cap) ∧ V.cell? ⟨w.heap.size, 2, none⟩ = some (.int .i64 sk) ∧ V.cell? ⟨w.heap.size, 3, none⟩ = some (.int .i64 se) ∧ V.cell? ⟨w.heap.size, 4, none⟩ = some (.int .i64 ss)) := fun V hV => by
    have hP := (hV.block _ z1).trans r0
    exact ⟨rowFacts hP 0 _ rfl, rowFacts hP 1 _ rfl, rowFacts hP 2 _ rfl, rowFacts hP 3 _ rfl, rowFacts hP 4 _ rfl⟩
  have HA : Hid (∀ V, Below w1.heap.size w1 V → IsStrs V a names) := fun V hV => (ha.keep B1.out).keep hV
  have HB : Hid (∀ V, Below w1.heap.size w1 V → Below w.heap.size w V) := fun V hV => B1.out.trans (hV.mono B1.out.size)
  have I1 : Hid (Below w1.heap.size w1 w1) := Below.refl _ _
  have D1 : Hid (Below w1.heap.size w1 w1.drew) := I1.out.drew
  clear r0 z1 B1 ha
  obtain ⟨c0, c1, c2, c3, c4⟩ := HK.out w1 I1.out
  go_enter Tryz.func150, Tryz.ntmps150
  go_upto_region 1 with fail
  rw [← hw1]
  clear hw1
  go_wp2_with fail
  refine (implGroupRight key _).mono ?_
  rintro e w2 ⟨rfl, b2⟩
  have K2 : Hid (Below w1.heap.size w1 w2) := b2
  clear b2 c0 c1 c2 c3 c4
  obtain ⟨c0, c1, c2, c3, c4⟩ := HK.out w2 K2.out
  cases h1 : rightG key with
  | false =>
    have HF : Hid (R = ⟨#[]⟩) := by show _ = _; rw [HR.out, h1]; rfl
    go_wp2
    go_ret
    exact ⟨by rw [HF.out]; rfl, HB.out _ K2.out⟩
  | true =>
  have hkey := rightG_lt h1
  rw [h1] at HR
  by_cases h3 : 0 < nl
  rotate_left
  · have HF : Hid (R = ⟨#[]⟩) := by show _ = _; rw [HR.out, decide_eq_false h3, Bool.and_false]; rfl
    have h3' : nl = 0 := by omega
    subst h3'
    go_wp2
    go_ret
    exact ⟨by rw [HF.out]; rfl, HB.out _ K2.out⟩
  rw [decide_eq_true h3] at HR
  have h3'' : ¬ nl = 0 := by omega
  go_wp2_with fail
  refine (HNm.out _ (HA.out _ K2.out)).mono ?_
  rintro e w3 ⟨rfl, b3⟩
  have K3 : Hid (Below w1.heap.size w1 w3) := K2.out.trans (b3.mono K2.out.size)
  clear b3 c0 c1 c2 c3 c4 K2
  cases N with
  | false =>
    have HF : Hid (R = ⟨#[]⟩) := HR.out
    go_wp2
    go_ret
    exact ⟨by rw [HF.out]; rfl, HB.out _ K3.out⟩
  | true =>
  have hR : R = seqD (intD 0 ++ (thingD 3 (⟨#[0]⟩ ++ putS key) ++ G)) := HR.out
  have H1 := HH.out rfl
  have zG := HZ.out rfl
  obtain ⟨I, qI⟩ : ∃ q, q = intD 0 := ⟨_, rfl⟩
  obtain ⟨T, qT⟩ : ∃ q, q = thingD 3 (⟨#[0]⟩ ++ putS key) := ⟨_, rfl⟩
  rw [← qI, ← qT] at hR
  rw [← qI] at y2
  rw [← qT] at y4
  have hnum : thingD 3 (numsD [key] 1) = T := qT.symm
  have PD : Hid (∀ V, Hid (Below w1.heap.size w1 V) → Calls Tryz.prog 62 #[.int .i64 0] V fun e W => e = .returned (.string I) ∧ Hid (Below w1.heap.size w1 W) ∧ Hid (∀ b, Row1 key V b → Row1 key W b)) := fun V hV => by
    rw [qI]
    exact (implDerInt 0 V (by omega) (by omega)).mono fun e W h => ⟨h.1, hV.out.trans (h.2.mono hV.out.size), fun b hb => hb.keep h.2⟩
  have PN : Hid (∀ V, Hid (Below w1.heap.size w1 V) → Calls Tryz.prog 184 #[.slice a nl cap] V fun e W => e = .returned (.string G) ∧ Hid (Below w1.heap.size w1 W) ∧ Hid (∀ b, Row1 key V b → Row1 key W b)) := fun V hV => (H1 V (HA.out V hV.out)).mono fun e W h => ⟨h.1, hV.out.trans (h.2.mono hV.out.size), fun b hb => hb.keep h.2⟩
  have PNu : Hid (∀ V (g : Nat), Hid (Below w1.heap.size w1 V) → Row1 key V g → Calls Tryz.prog 52 #[.slice (some ⟨g, 0, none⟩) 1 1] V fun e W => e = .returned (.string T) ∧ Hid (Below w1.heap.size w1 W) ∧ Hid (∀ b, Row1 key V b → Row1 key W b)) := fun V g hV hg => by
    rw [← hnum]
    exact (implNumbers (some ⟨g, 0, none⟩) [key] 1 V (by simp) (fun i hi => by
      obtain rfl : i = 0 := by have : i < 1 := hi; omega
      show _ ≤ key ∧ key ≤ _; omega) (IsInts.row (rest := []) hg)).mono fun e W h => ⟨h.1, hV.out.trans (h.2.mono hV.out.size), fun b hb => hb.keep h.2⟩
  have PS : Hid (∀ V (g : Nat), Hid (Below w1.heap.size w1 V) → V.heap[g]? = some (.cells #[.string I, .string T, .string G] 9 (0, 0)) → Calls Tryz.prog 50 #[.slice (some ⟨g, 0, none⟩) 3 3] V fun e W => e = .returned (.string R) ∧ Hid (Below w1.heap.size w1 W) ∧ Hid (∀ b, Row1 key V b → Row1 key W b)) := fun V g hV hg => by
    rw [hR]
    exact (implSeq3 I T G g V (by omega) hg).mono fun e W h => ⟨h.1, hV.out.trans (h.2.mono hV.out.size), fun b hb => hb.keep h.2⟩
  have AL : Hid (∀ V o, Hid (Below w1.heap.size w1 V) → Hid (Below w1.heap.size w1 (V.alloc o))) := fun V o h => h.out.alloc h.out.size o
  have DR : Hid (∀ V, Hid (Below w1.heap.size w1 V) → Hid (Below w1.heap.size w1 V.drew)) := fun V h => h.out.drew
  have D3 : Hid (Below w1.heap.size w1 w3.drew) := DR.out _ K3
  clear HR HH HZ HNm hR H1 zG qI qT hnum y2 y4 HA hkey
  obtain ⟨c0, c1, c2, c3, c4⟩ := HK.out w3 K3.out
  go_wp2_with fail
  go_region_held3 (fun V => V.cell? ⟨w.heap.size, 0, none⟩ = some (.int .i64 key) ∧ V.cell? ⟨w.heap.size, 1, none⟩ = some (.slice a nl cap) ∧ V.cell? ⟨w.heap.size, 2, none⟩ = some (.int .i64 sk) ∧ V.cell? ⟨w.heap.size, 3, none⟩ = some (.int .i64 se) ∧ V.cell? ⟨w.heap.size, 4, none⟩ = some (.int .i64 ss)) (first | (refine ⟨?_, ?_, ?_, ?_, ?_⟩ <;> assumption) | exact HK.out _ (Hid.out (by assumption)) | go_keep)
    (first
      | (go_at_call 62; refine (PD.out _ (by first | assumption | exact AL.out _ _ (by assumption) | exact AL.out _ _ (AL.out _ _ (by assumption)) | exact DR.out _ (AL.out _ _ (by assumption)))).mono ?_; rintro r V1 ⟨rfl, k1, kp1⟩; (first | have rk := kp1.out _ (by assumption) | have rk := kp1.out _ (Row1.al (by assumption)) | have rk := kp1.out _ (heap_alloc_new _ _) | have rk := kp1.out _ (Row1.al (heap_alloc_new _ _)) | skip); (try simp at rk))
      | (go_at_call 184; refine (PN.out _ (by first | assumption | exact AL.out _ _ (by assumption) | exact AL.out _ _ (AL.out _ _ (by assumption)) | exact DR.out _ (AL.out _ _ (by assumption)))).mono ?_; rintro r V2 ⟨rfl, k2, kp2⟩; (first | have rk := kp2.out _ (by assumption) | have rk := kp2.out _ (Row1.al (by assumption)) | have rk := kp2.out _ (heap_alloc_new _ _) | have rk := kp2.out _ (Row1.al (heap_alloc_new _ _)) | skip); (try simp at rk))
      | (go_at_call 52; refine (PNu.out _ _ (by first | assumption | exact AL.out _ _ (by assumption) | exact AL.out _ _ (AL.out _ _ (by assumption)) | exact DR.out _ (AL.out _ _ (by assumption))) (by first | assumption | exact Row1.al (by assumption) | exact heap_alloc_new _ _ | exact heap_alloc2 _ _ _ | exact Row1.al (heap_alloc_new _ _))).mono ?_; rintro r V3 ⟨rfl, k3, kp3⟩)
      | (go_at_call 50; refine (PS.out _ _ (by first | assumption | exact AL.out _ _ (by assumption) | exact AL.out _ _ (AL.out _ _ (by assumption)) | exact DR.out _ (AL.out _ _ (by assumption))) (by first | exact heap_alloc_new _ _ | exact heap_alloc2 _ _ _ | exact alKeep (heap_alloc_new _ _))).mono ?_; rintro r V4 ⟨rfl, k4, kp4⟩))
  all_goals
    go_wp2
    go_ret
    exact ⟨rfl, HB.out _ k4.out⟩
end Go.Proofs.YtkhdjmjbdpmdnaaGreatDoor
namespace Go.Proofs.YtkhdjmjbdpmdnaaGreatDoor
open Go.RowKit

/-- A row of such numbers stands in block b. -/
def Row2 (x y : Int) (V : World) (b : Nat) : Prop := V.heap[b]? = some (.cells #[.int .i64 x, .int .i64 y] 2 (0, 0))
theorem Row2.keep {x y : Int} {V W : World} {b : Nat} (h : Row2 x y V b) (hb : Below V.heap.size V W) : Row2 x y W b := (hb.block b (heap_lt h)).trans h
/-- The box, its text D, its numbers behind n, its list behind v. -/
def Ask.box (c : Ask) (v : Value) (D : ByteArray) (n : Value) : Value := .agg #[.int .i64 c.key, v, .int .i64 c.sk, .int .i64 c.se, .int .i64 c.ss, .string D, .int .i64 c.sk, .int .i64 c.se, .int .i64 c.ss, n]
theorem sizeBoxCsr : (Tryz.prog.info? 87).map (·.size) = some 10 := by kernel_rfl
set_option linter.unusedSimpArgs false in
set_option maxHeartbeats 4000000 in
set_option maxRecDepth 100000 in
theorem boxCsr (c : Ask) (a : Option Addr) (cap : Nat) (w : World) (hl : c.names.length ≤ 1048576) (ht : totS c.names c.names.length ≤ 1048576) (ha : IsStrs w a c.names) :
    Calls Tryz.prog 77 #[c.val (.slice a c.names.length cap)] w fun e w' => ∃ g, e = .returned (c.box (.slice a c.names.length cap) (askE c) (.slice (some ⟨g, 0, none⟩) 2 2)) ∧ Row2 c.se c.ss w' g ∧ Below w.heap.size w w' := by
  have HP : Hid (∀ V, IsStrs V a c.names → Calls Tryz.prog 150 #[c.val (.slice a c.names.length cap)] V fun e w' => e = .returned (.string (askE c)) ∧ Below V.heap.size V w') := fun V hV => implAskD c a cap V hl ht hV
  generalize askE c = D at *
  clear hl ht
  obtain ⟨key, names, sk, se, ss⟩ := c
  unfold Ask.val at *
  unfold Ask.box
  simp only at HP ha ⊢
  generalize names.length = nl at *
  obtain ⟨w1, hw1⟩ : ∃ w1, w1 = (w.alloc (.cells #[.int .i64 key, .slice a nl cap, .int .i64 sk, .int .i64 se, .int .i64 ss] 44 (0, 0))).alloc (.cells #[.int .i64 0, .slice none 0 0, .int .i64 0, .int .i64 0, .int .i64 0, .string ⟨#[]⟩, .int .i64 0, .int .i64 0, .int .i64 0, .slice none 0 0] 87 (0, 0)) := ⟨_, rfl⟩
  have r0 : w1.heap[w.heap.size]? = some (.cells [Value.int .i64 key, .slice a nl cap, .int .i64 sk, .int .i64 se, .int .i64 ss].toArray 44 (0, 0)) := by rw [hw1, Below.heap_alloc _ _ _ (by simp)]; exact heap_alloc_new w _
  have r1 : w1.heap[w.heap.size + 1]? = some (.cells [Value.int .i64 0, .slice none 0 0, .int .i64 0, .int .i64 0, .int .i64 0, .string ⟨#[]⟩, .int .i64 0, .int .i64 0, .int .i64 0, .slice none 0 0].toArray 87 (0, 0)) := by rw [hw1]; exact heap_alloc2 w _ _
  have B1 : Hid (Below w.heap.size w w1) := by rw [hw1]; exact ((Below.refl _ _).alloc (Nat.le_refl _) _).alloc (by simp) _
  have HRw : Hid (∀ V, Below w1.heap.size w1 V → V.heap[w.heap.size]? = some (.cells [Value.int .i64 key, .slice a nl cap, .int .i64 sk, .int .i64 se, .int .i64 ss].toArray 44 (0, 0)) ∧ V.heap[w.heap.size + 1]? = some (.cells [Value.int .i64 0, .slice none 0 0, .int .i64 0, .int .i64 0, .int .i64 0, .string ⟨#[]⟩, .int .i64 0, .int .i64 0, .int .i64 0, .slice none 0 0].toArray 87 (0, 0))) := fun V hV => ⟨(hV.block _ (heap_lt r0)).trans r0, (hV.block _ (heap_lt r1)).trans r1⟩
  have HC : Hid (∀ V : World, V.heap[w.heap.size]? = some (.cells [Value.int .i64 key, .slice a nl cap, .int .i64 sk, .int .i64 se, .int .i64 ss].toArray 44 (0, 0)) → V.cell? ⟨w.heap.size, 0, none⟩ = some (.int .i64 key) ∧ V.cell? ⟨w.heap.size, 1, none⟩ = some (.slice a nl cap) ∧ V.cell? ⟨w.heap.size, 2, none⟩ = some (.int .i64 sk) ∧ V.cell? ⟨w.heap.size, 3, none⟩ = some (.int .i64 se) ∧ V.cell? ⟨w.heap.size, 4, none⟩ = some (.int .i64 ss)) := fun V hP => ⟨rowFacts hP 0 _ rfl, rowFacts hP 1 _ rfl, rowFacts hP 2 _ rfl, rowFacts hP 3 _ rfl, rowFacts hP 4 _ rfl⟩
  have HK : Hid (∀ V, Below w1.heap.size w1 V → V.cell? ⟨w.heap.size, 0, none⟩ = some (.int .i64 key) ∧ V.cell? ⟨w.heap.size, 1, none⟩ = some (.slice a nl cap) ∧ V.cell? ⟨w.heap.size, 2, none⟩ = some (.int .i64 sk) ∧ V.cell? ⟨w.heap.size, 3, none⟩ = some (.int .i64 se) ∧ V.cell? ⟨w.heap.size, 4, none⟩ = some (.int .i64 ss)) := fun V hV => HC.out V (HRw.out V hV).1
  have HA : Hid (∀ V, Below w1.heap.size w1 V → IsStrs V a names) := fun V hV => (ha.keep B1.out).keep hV
  have HB : Hid (∀ V, Below w1.heap.size w1 V → Below w.heap.size w V) := fun V hV => B1.out.trans (hV.mono B1.out.size)
  have Z1 : Hid (w1.heap.size = w.heap.size + 2) := by show _ = _; rw [hw1]; simp
  have I1 : Hid (Below w1.heap.size w1 w1) := Below.refl _ _
  have D1 : Hid (Below w1.heap.size w1 w1.drew) := I1.out.drew
  clear r0 r1 B1 ha
  obtain ⟨c0, c1, c2, c3, c4⟩ := HK.out w1 I1.out
  go_enter Tryz.func77, Tryz.ntmps77
  go_upto_region 1 with fail
  rw [← hw1]
  clear hw1
  refine wp_region_held_drew (S := fun V => V.cell? ⟨w.heap.size, 0, none⟩ = some (.int .i64 key) ∧ V.cell? ⟨w.heap.size, 1, none⟩ = some (.slice a nl cap) ∧ V.cell? ⟨w.heap.size, 2, none⟩ = some (.int .i64 sk) ∧ V.cell? ⟨w.heap.size, 3, none⟩ = some (.int .i64 se) ∧ V.cell? ⟨w.heap.size, 4, none⟩ = some (.int .i64 ss)) (by kernel_rfl) ?_ (fun hHeld => ?_)
  · exact HK.out _ D1.out
  refine wpAnyH_take (i := 0) (oi := ⟨some 3, _, _, _, _, _⟩) (v := ?_) rfl (by kernel_rfl) (by kernel_rfl) (by kernel_rfl) (fun _ _ _ h => h) (Or.inl ⟨by kernel_rfl, ?_⟩) (by assumption) ?_
  rotate_left
  · (intro w hSw; (try dsimp only at hSw); go_simp; try with_reducible rfl)
  (try simp only [Act.put, List.setIfInBounds_toArray, List.set_cons_zero, List.set_cons_succ])
  refine wpAnyH_take (i := 1) (oi := ⟨some 4, _, _, _, _, _⟩) (v := ?_) rfl (by kernel_rfl) (by kernel_rfl) (by kernel_rfl) (fun _ _ _ h => h) (Or.inl ⟨by kernel_rfl, ?_⟩) (by assumption) ?_
  rotate_left
  · (intro w hSw; (try dsimp only at hSw); go_simp; try with_reducible rfl)
  (try simp only [Act.put, List.setIfInBounds_toArray, List.set_cons_zero, List.set_cons_succ])
  refine wpAnyH_take (i := 3) (oi := ⟨some 6, _, _, _, _, _⟩) (v := ?_) rfl (by kernel_rfl) (by kernel_rfl) (by kernel_rfl) (fun _ _ _ h => h) (Or.inl ⟨by kernel_rfl, ?_⟩) (by assumption) ?_
  rotate_left
  · (intro w hSw; (try dsimp only at hSw); go_simp; try with_reducible rfl)
  (try simp only [Act.put, List.setIfInBounds_toArray, List.set_cons_zero, List.set_cons_succ])
  refine wpAnyH_take (i := 4) (oi := ⟨some 7, _, _, _, _, _⟩) (v := ?_) rfl (by kernel_rfl) (by kernel_rfl) (by kernel_rfl) (fun _ _ _ h => h) (Or.inl ⟨by kernel_rfl, ?_⟩) (by assumption) ?_
  rotate_left
  · (intro w hSw; (try dsimp only at hSw); go_simp; try with_reducible rfl)
  (try simp only [Act.put, List.setIfInBounds_toArray, List.set_cons_zero, List.set_cons_succ])
  refine wpAnyH_take (i := 5) (oi := ⟨some 8, _, _, _, _, _⟩) (v := ?_) rfl (by kernel_rfl) (by kernel_rfl) (by kernel_rfl) (fun _ _ _ h => h) (Or.inl ⟨by kernel_rfl, ?_⟩) (by assumption) ?_
  rotate_left
  · (intro w hSw; (try dsimp only at hSw); go_simp; try with_reducible rfl)
  (try simp only [Act.put, List.setIfInBounds_toArray, List.set_cons_zero, List.set_cons_succ])
  refine wpAnyH_take (i := 6) (oi := ⟨some 9, _, _, _, _, _⟩) (v := ?_) rfl (by kernel_rfl) (by kernel_rfl) (by kernel_rfl) (fun _ _ _ h => h) (Or.inl ⟨by kernel_rfl, ?_⟩) (by assumption) ?_
  rotate_left
  · (intro w hSw; (try dsimp only at hSw); go_simp; try with_reducible rfl)
  (try simp only [Act.put, List.setIfInBounds_toArray, List.set_cons_zero, List.set_cons_succ])
  refine wpAnyH_take (i := 7) (oi := ⟨some 10, _, _, _, _, _⟩) (v := ?_) rfl (by kernel_rfl) (by kernel_rfl) (by kernel_rfl) (fun _ _ _ h => h) (Or.inl ⟨by kernel_rfl, ?_⟩) (by assumption) ?_
  rotate_left
  · (intro w hSw; (try dsimp only at hSw); go_simp; try with_reducible rfl)
  (try simp only [Act.put, List.setIfInBounds_toArray, List.set_cons_zero, List.set_cons_succ])
  refine wpAnyH_take (i := 8) (oi := ⟨some 11, _, _, _, _, _⟩) (v := ?_) rfl (by kernel_rfl) (by kernel_rfl) (by kernel_rfl) (fun _ _ _ h => h) (Or.inl ⟨by kernel_rfl, ?_⟩) (by assumption) ?_
  rotate_left
  · (intro w hSw; (try dsimp only at hSw); go_simp; try with_reducible rfl)
  (try simp only [Act.put, List.setIfInBounds_toArray, List.set_cons_zero, List.set_cons_succ])
  refine wpAnyH_take (i := 9) (oi := ⟨some 12, _, _, _, _, _⟩) (v := ?_) rfl (by kernel_rfl) (by kernel_rfl) (by kernel_rfl) (fun _ _ _ h => h) (Or.inl ⟨by kernel_rfl, ?_⟩) (by assumption) ?_
  rotate_left
  · (intro w hSw; (try dsimp only at hSw); go_simp; try with_reducible rfl)
  (try simp only [Act.put, List.setIfInBounds_toArray, List.set_cons_zero, List.set_cons_succ])
  refine wpAnyH_take (i := 10) (oi := ⟨some 13, _, _, _, _, _⟩) (v := ?_) rfl (by kernel_rfl) (by kernel_rfl) (by kernel_rfl) (fun _ _ _ h => h) (Or.inl ⟨by kernel_rfl, ?_⟩) (by assumption) ?_
  rotate_left
  · (intro w hSw; (try dsimp only at hSw); go_simp; try with_reducible rfl)
  (try simp only [Act.put, List.setIfInBounds_toArray, List.set_cons_zero, List.set_cons_succ])
  refine wpAnyH_ready (rs := [2, 11]) (by kernel_rfl) (by simp) ?_
  refine AllReadyH.cons (o := ⟨some 5, _, _, _, _, _⟩) rfl (fun K hK => ?_) (AllReadyH.cons (o := ⟨some 14, _, _, _, _, _⟩) rfl (fun K hK => ?_) AllReadyH.nil)
  · -- the body first
    go_simp
    refine (HP.out _ (HA.out _ D1.out)).mono ?_
    rintro r V1 ⟨rfl, bV⟩
    have J1 : Hid (Below w1.heap.size w1 V1) := D1.out.trans (bV.mono D1.out.size)
    refine hK.out _ _ ?_ (fun hHeld => ?_)
    · exact HK.out _ J1.out
    clear hK K bV
    (try simp only [Act.put, List.setIfInBounds_toArray, List.set_cons_zero, List.set_cons_succ])
    refine wpAnyH_ready (rs := [11]) (by kernel_rfl) (by simp) ?_
    refine AllReadyH.cons (o := ⟨some 14, _, _, _, _, _⟩) rfl (fun K hK => ?_) AllReadyH.nil
    go_simp
    have J2 : Hid (Below w1.heap.size w1 (World.alloc V1 (.cells #[.int .i64 se, .int .i64 ss] 2 (0, 0)))) := J1.out.alloc J1.out.size _
    refine hK.out _ _ ?_ (fun hHeld => ?_)
    · exact HK.out _ J2.out
    clear hK K
    (try simp only [Act.put, List.setIfInBounds_toArray, List.set_cons_zero, List.set_cons_succ])
    refine wpAnyH_take (i := 12) (oi := ⟨some 15, _, _, _, _, _⟩) (v := ?_) rfl (by kernel_rfl) (by kernel_rfl) (by kernel_rfl) (fun _ _ _ h => h) (Or.inl ⟨by kernel_rfl, ?_⟩) (by assumption) ?_
    rotate_left
    · (intro w hSw; (try dsimp only at hSw); go_simp; try with_reducible rfl)
    (try simp only [Act.put, List.setIfInBounds_toArray, List.set_cons_zero, List.set_cons_succ])
    refine wpAnyH_ready (rs := [13]) (by kernel_rfl) (by simp) ?_
    refine AllReadyH.cons (o := ⟨none, _, _, _, _, _⟩) rfl (fun K hK => ?_) AllReadyH.nil
    rw [if_pos (by rfl)]
    refine wp_store_row 87 _ _ rfl (w.heap.size + 1) [Value.int .i64 0, .slice none 0 0, .int .i64 0, .int .i64 0, .int .i64 0, .string ⟨#[]⟩, .int .i64 0, .int .i64 0, .int .i64 0, .slice none 0 0] [Value.int .i64 key, .slice a nl cap, .int .i64 sk, .int .i64 se, .int .i64 ss, .string D, .int .i64 sk, .int .i64 se, .int .i64 ss, .slice (some ⟨V1.heap.size, 0, none⟩) 2 2] 87 rfl rfl (HRw.out _ J2.out).2 rfl sizeBoxCsr (by simp [Value.oneCell']) ?_
    intro w9 hrow ho hs9 hbb
    have HROW : Hid _ := hrow
    have HB9 : Hid (Below w.heap.size w w9) := hbb _ _ (by omega) (HB.out _ J2.out)
    have HO9 : Hid (∀ k, k ≠ w.heap.size + 1 → w9.heap[k]? = (World.alloc V1 (.cells #[.int .i64 se, .int .i64 ss] 2 (0, 0))).heap[k]?) := ho
    refine hK.out _ _ ?_ (fun hHeld => ?_)
    · exact HC.out _ ((ho _ (by omega)).trans (HRw.out _ J2.out).1)
    clear hK K ho hs9 hbb hrow
    (try simp only [Act.put, List.setIfInBounds_toArray, List.set_cons_zero, List.set_cons_succ])
    refine wpAnyH_done (by kernel_rfl) ?_ _
    go_wp2
    refine bodyPost_ret (v := .agg [Value.int .i64 key, .slice a nl cap, .int .i64 sk, .int .i64 se, .int .i64 ss, .string D, .int .i64 sk, .int .i64 se, .int .i64 ss, .slice (some ⟨V1.heap.size, 0, none⟩) 2 2].toArray) ?_ rfl ⟨V1.heap.size, rfl, (HO9.out _ (by have h1 := J1.out.size; have h2 := Z1.out; omega)).trans (heap_alloc_new V1 _), HB9.out⟩
    have hl3 := run_loadVar_mid (P := Tryz.prog) _ (w.heap.size + 1) 0 87 _ _ (rangeRow HROW.out) Tryz.underlying87 rfl sizeBoxCsr
    simp [results, Tryz.results77, asAddr, hl3]
  · -- the numbers first
    go_simp
    have J1 : Hid (Below w1.heap.size w1 (World.alloc w1.drew (.cells #[.int .i64 se, .int .i64 ss] 2 (0, 0)))) := D1.out.alloc D1.out.size _
    refine hK.out _ _ ?_ (fun hHeld => ?_)
    · exact HK.out _ J1.out
    clear hK K
    (try simp only [Act.put, List.setIfInBounds_toArray, List.set_cons_zero, List.set_cons_succ])
    refine wpAnyH_ready (rs := [2]) (by kernel_rfl) (by simp) ?_
    refine AllReadyH.cons (o := ⟨some 5, _, _, _, _, _⟩) rfl (fun K hK => ?_) AllReadyH.nil
    go_simp
    refine (HP.out _ (HA.out _ J1.out)).mono ?_
    rintro r V2 ⟨rfl, bV⟩
    have J2 : Hid (Below w1.heap.size w1 V2) := J1.out.trans (bV.mono J1.out.size)
    have G2 : Hid (Row2 se ss V2 w1.drew.heap.size) := (bV.block _ (by simp)).trans (heap_alloc_new w1.drew _)
    refine hK.out _ _ ?_ (fun hHeld => ?_)
    · exact HK.out _ J2.out
    clear hK K bV
    (try simp only [Act.put, List.setIfInBounds_toArray, List.set_cons_zero, List.set_cons_succ])
    refine wpAnyH_take (i := 12) (oi := ⟨some 15, _, _, _, _, _⟩) (v := ?_) rfl (by kernel_rfl) (by kernel_rfl) (by kernel_rfl) (fun _ _ _ h => h) (Or.inl ⟨by kernel_rfl, ?_⟩) (by assumption) ?_
    rotate_left
    · (intro w hSw; (try dsimp only at hSw); go_simp; try with_reducible rfl)
    (try simp only [Act.put, List.setIfInBounds_toArray, List.set_cons_zero, List.set_cons_succ])
    refine wpAnyH_ready (rs := [13]) (by kernel_rfl) (by simp) ?_
    refine AllReadyH.cons (o := ⟨none, _, _, _, _, _⟩) rfl (fun K hK => ?_) AllReadyH.nil
    rw [if_pos (by rfl)]
    refine wp_store_row 87 _ _ rfl (w.heap.size + 1) [Value.int .i64 0, .slice none 0 0, .int .i64 0, .int .i64 0, .int .i64 0, .string ⟨#[]⟩, .int .i64 0, .int .i64 0, .int .i64 0, .slice none 0 0] [Value.int .i64 key, .slice a nl cap, .int .i64 sk, .int .i64 se, .int .i64 ss, .string D, .int .i64 sk, .int .i64 se, .int .i64 ss, .slice (some ⟨w1.drew.heap.size, 0, none⟩) 2 2] 87 rfl rfl (HRw.out _ J2.out).2 rfl sizeBoxCsr (by simp [Value.oneCell']) ?_
    intro w9 hrow ho hs9 hbb
    have HROW : Hid _ := hrow
    have HB9 : Hid (Below w.heap.size w w9) := hbb _ _ (by omega) (HB.out _ J2.out)
    have HO9 : Hid (∀ k, k ≠ w.heap.size + 1 → w9.heap[k]? = (V2).heap[k]?) := ho
    refine hK.out _ _ ?_ (fun hHeld => ?_)
    · exact HC.out _ ((ho _ (by omega)).trans (HRw.out _ J2.out).1)
    clear hK K ho hs9 hbb hrow
    (try simp only [Act.put, List.setIfInBounds_toArray, List.set_cons_zero, List.set_cons_succ])
    refine wpAnyH_done (by kernel_rfl) ?_ _
    go_wp2
    refine bodyPost_ret (v := .agg [Value.int .i64 key, .slice a nl cap, .int .i64 sk, .int .i64 se, .int .i64 ss, .string D, .int .i64 sk, .int .i64 se, .int .i64 ss, .slice (some ⟨w1.drew.heap.size, 0, none⟩) 2 2].toArray) ?_ rfl ⟨w1.drew.heap.size, rfl, (HO9.out _ (by have h2 := Z1.out; have h3 : w1.drew.heap.size = w1.heap.size := rfl; omega)).trans G2.out, HB9.out⟩
    have hl3 := run_loadVar_mid (P := Tryz.prog) _ (w.heap.size + 1) 0 87 _ _ (rangeRow HROW.out) Tryz.underlying87 rfl sizeBoxCsr
    simp [results, Tryz.results77, asAddr, hl3]
end Go.Proofs.YtkhdjmjbdpmdnaaGreatDoor
namespace Go.Proofs.YtkhdjmjbdpmdnaaGreatDoor
open Go.RowKit

theorem implRem (n : Int) (w : World) :
    Calls Tryz.prog 141 #[.int .i64 n] w fun e w' => e = .returned (.bool (remB n)) ∧ w' = w := by
  by_cases h1 : 0 ≤ n
  · by_cases h2 : n < 1073741789
    · have e : remB n = true := decide_eq_true ⟨h1, h2⟩
      rw [e]
      go_enter Tryz.func141, Tryz.ntmps141
      go_wp2
      go_ret
      exact ⟨rfl, rfl⟩
    · have e : remB n = false := decide_eq_false (by omega)
      rw [e]
      go_enter Tryz.func141, Tryz.ntmps141
      go_wp2
      go_ret
      exact ⟨rfl, rfl⟩
  · have e : remB n = false := decide_eq_false (by omega)
    rw [e]
    go_enter Tryz.func141, Tryz.ntmps141
    go_wp2
    go_ret
    exact ⟨rfl, rfl⟩
set_option maxHeartbeats 1000000 in
set_option maxRecDepth 100000 in
theorem implSigRight (k e s : Int) (w : World) :
    Calls Tryz.prog 65 #[.agg #[.int .i64 k, .int .i64 e, .int .i64 s]] w fun r w' => r = .returned (.bool (sigRB k e s)) ∧ Below w.heap.size w w' := by
  go_enter Tryz.func65, Tryz.ntmps65
  go_wp2_with fail
  refine (implGroupRight k _).mono ?_
  rintro e1 w1 ⟨rfl, hb1⟩
  have HB : Hid (Below w.heap.size w w1) := ((Below.refl _ w).alloc (Nat.le_refl _) _).trans (hb1.mono (by simp))
  have c1 : w1.cell? ⟨w.heap.size, 1, none⟩ = some (.int .i64 e) := by rw [hb1.cell (p := ⟨w.heap.size, 1, none⟩) (by simp)]; simp
  have c2 : w1.cell? ⟨w.heap.size, 2, none⟩ = some (.int .i64 s) := by rw [hb1.cell (p := ⟨w.heap.size, 2, none⟩) (by simp)]; simp
  clear hb1
  by_cases h1 : rightG k = true
  · rw [h1]
    go_wp2_with fail
    refine (implRem e _).mono ?_
    rintro e2 w2 ⟨rfl, rfl⟩
    by_cases h2 : remB e = true
    · rw [h2]
      go_wp2_with fail
      refine (implRem s _).mono ?_
      rintro e3 w3 ⟨rfl, rfl⟩
      generalize hb3 : remB s = b
      go_wp2
      go_ret
      exact ⟨by simp [sigRB, *], HB.out⟩
    · rw [Bool.not_eq_true] at h2
      rw [h2]
      go_wp2
      go_ret
      exact ⟨by simp [sigRB, *], HB.out⟩
  · rw [Bool.not_eq_true] at h1
    rw [h1]
    go_wp2
    go_ret
    exact ⟨by simp [sigRB, *], HB.out⟩
end Go.Proofs.YtkhdjmjbdpmdnaaGreatDoor
namespace Go.Proofs.YtkhdjmjbdpmdnaaGreatDoor
open Go.RowKit

/-- Variable g holds the error at b. -/
def ErrV (g : Nat) (w : World) (b : Addr) : Prop := w.cell? ⟨g, 0, none⟩ = some (.iface 260 (.pointer (some b))) ∧ ∃ c t, w.heap[b.block]? = some (.cells c t (0, 0))
theorem ErrV.lt {g : Nat} {w : World} {b : Addr} (h : ErrV g w b) : g < w.heap.size := World.block_lt_of_cell? w _ h.1
theorem ErrV.keep {g : Nat} {w w' : World} {b : Addr} (h : ErrV g w b) (hb : Below w.heap.size w w') : ErrV g w' b := by
  refine ⟨by rw [hb.cell h.lt]; exact h.1, ?_⟩
  obtain ⟨c, t, e⟩ := h.2
  exact ⟨c, t, by rw [hb.block _ (heap_lt e)]; exact e⟩
/-- The variable 'not right' holds an error. -/
def Err1 (w : World) : Prop := ∃ b, ErrV 1 w b
theorem Err1.keep {w w' : World} (h : Err1 w) (hb : Below w.heap.size w w') : Err1 w' := by obtain ⟨b, h⟩ := h; exact ⟨b, h.keep hb⟩
end Go.Proofs.YtkhdjmjbdpmdnaaGreatDoor
namespace Go.Proofs.YtkhdjmjbdpmdnaaGreatDoor
open Go.RowKit

set_option linter.unusedSimpArgs false in
set_option maxHeartbeats 4000000 in
set_option maxRecDepth 100000 in
theorem rightCsr (c : Ask) (v nv : Value) (D : ByteArray) (E : Value) (w : World) (hE : w.cell? ⟨1, 0, none⟩ = some E) :
    Calls Tryz.prog 151 #[c.box v D nv] w fun e w' => e = .returned (if (decide (D.size ≠ 0) && sigRB c.sk c.se c.ss) = true then .nilIface else E) ∧ Below w.heap.size w w' := by
  obtain ⟨R, hR⟩ : ∃ R : Value, R = if (decide (D.size ≠ 0) && sigRB c.sk c.se c.ss) = true then .nilIface else E := ⟨_, rfl⟩
  rw [← hR]
  have HR : Hid (R = if (decide (D.size ≠ 0) && sigRB c.sk c.se c.ss) = true then .nilIface else E) := hR
  clear hR
  obtain ⟨key, names, sk, se, ss⟩ := c
  unfold Ask.box
  simp only at HR ⊢
  have hEl := World.block_lt_of_cell? w _ hE
  obtain ⟨w1, hw1⟩ : ∃ w1, w1 = w.alloc (.cells #[.int .i64 key, v, .int .i64 sk, .int .i64 se, .int .i64 ss, .string D, .int .i64 sk, .int .i64 se, .int .i64 ss, nv] 87 (0, 0)) := ⟨_, rfl⟩
  have r0 : w1.heap[w.heap.size]? = some (.cells [Value.int .i64 key, v, .int .i64 sk, .int .i64 se, .int .i64 ss, .string D, .int .i64 sk, .int .i64 se, .int .i64 ss, nv].toArray 87 (0, 0)) := by rw [hw1]; exact heap_alloc_new w _
  have B1 : Hid (Below w.heap.size w w1) := by rw [hw1]; exact (Below.refl _ _).alloc (Nat.le_refl _) _
  have z1 : w.heap.size < w1.heap.size := by rw [hw1]; simp
  have HK : Hid (∀ V, Below w1.heap.size w1 V → V.cell? ⟨w.heap.size, 0, none⟩ = some (.int .i64 key) ∧ V.cell? ⟨w.heap.size, 1, none⟩ = some (v) ∧ V.cell? ⟨w.heap.size, 2, none⟩ = some (.int .i64 sk) ∧ V.cell? ⟨w.heap.size, 3, none⟩ = some (.int .i64 se) ∧ V.cell? ⟨w.heap.size, 4, none⟩ = some (.int .i64 ss) ∧ V.cell? ⟨w.heap.size, 5, none⟩ = some (.string D) ∧ V.cell? ⟨w.heap.size, 6, none⟩ = some (.int .i64 sk) ∧ V.cell? ⟨w.heap.size, 7, none⟩ = some (.int .i64 se) ∧ V.cell? ⟨w.heap.size, 8, none⟩ = some (.int .i64 ss) ∧ V.cell? ⟨w.heap.size, 9, none⟩ = some (nv)) := fun V hV => by
    have hP := (hV.block _ z1).trans r0
    exact ⟨rowFacts hP 0 _ rfl, rowFacts hP 1 _ rfl, rowFacts hP 2 _ rfl, rowFacts hP 3 _ rfl, rowFacts hP 4 _ rfl, rowFacts hP 5 _ rfl, rowFacts hP 6 _ rfl, rowFacts hP 7 _ rfl, rowFacts hP 8 _ rfl, rowFacts hP 9 _ rfl⟩
  have HB : Hid (∀ V, Below w1.heap.size w1 V → Below w.heap.size w V) := fun V hV => B1.out.trans (hV.mono B1.out.size)
  have I1 : Hid (Below w1.heap.size w1 w1) := Below.refl _ _
  have D1 : Hid (Below w1.heap.size w1 w1.drew) := I1.out.drew
  clear r0 z1 B1
  have HE : Hid (∀ V, Below w.heap.size w V → V.cell? ⟨1, 0, none⟩ = some E) := fun V hV => by rw [hV.cell hEl]; exact hE
  clear hE hEl
  obtain ⟨c0, c1, c2, c3, c4, c5, c6, c7, c8, c9⟩ := HK.out w1 I1.out
  go_enter Tryz.func151, Tryz.ntmps151
  go_upto_region 1 with fail
  rw [← hw1]
  clear hw1
  by_cases h0 : D.size = 0
  · have e0 := HE.out _ (HB.out _ I1.out)
    have x0 := isEmpty_of h0
    have HF : Hid (R = E) := by show _ = _; rw [HR.out, if_neg (by simp [h0])]
    go_wp2
    go_ret
    exact ⟨by rw [HF.out]; rfl, HB.out _ I1.out⟩
  · have x0 := isEmpty_not h0
    go_wp2_with fail
    refine (implSigRight sk se ss _).mono ?_
    rintro e w2 ⟨rfl, b2⟩
    have K2 : Hid (Below w1.heap.size w1 w2) := b2
    clear b2 c0 c1 c2 c3 c4 c5 c6 c7 c8 c9
    cases hs : sigRB sk se ss with
    | false =>
      have e0 := HE.out _ (HB.out _ K2.out)
      have HF : Hid (R = E) := by show _ = _; rw [HR.out, hs, if_neg (by simp)]
      go_wp2
      go_ret
      exact ⟨by rw [HF.out]; rfl, HB.out _ K2.out⟩
    | true =>
      have HF : Hid (R = .nilIface) := by show _ = _; rw [HR.out, hs, decide_eq_true h0]; rfl
      go_wp2
      go_ret
      exact ⟨by rw [HF.out]; rfl, HB.out _ K2.out⟩
end Go.Proofs.YtkhdjmjbdpmdnaaGreatDoor
namespace Go.Proofs.YtkhdjmjbdpmdnaaGreatDoor
open Go.RowKit

set_option linter.unusedSimpArgs false in
set_option maxHeartbeats 4000000 in
set_option maxRecDepth 100000 in
theorem layCsr (c : Ask) (v : Value) (D : ByteArray) (g : Nat) (w : World) (hD : D.size ≤ 3000) (hr : sigRB c.sk c.se c.ss = true) (hg : Row2 c.se c.ss w g) :
    Calls Tryz.prog 82 #[c.box v D (.slice (some ⟨g, 0, none⟩) 2 2)] w fun r w' => r = .returned (.string (seqD (D ++ thingD 3 (numsD [c.se, c.ss] 2)))) ∧ Below w.heap.size w w' := by
  obtain ⟨g1, g2, g3⟩ := sigRB_lt hr
  have hz := numsD_le [c.se, c.ss] 2
  have hy := thingD_le 3 (numsD [c.se, c.ss] 2)
  have HN : Hid (∀ V, Row2 c.se c.ss V g → Calls Tryz.prog 52 #[.slice (some ⟨g, 0, none⟩) 2 2] V fun e w' => e = .returned (.string (thingD 3 (numsD [c.se, c.ss] 2))) ∧ Below V.heap.size V w') := fun V hV =>
    implNumbers (some ⟨g, 0, none⟩) [c.se, c.ss] 2 V (by simp) (fun i hi => by
      have h' : i = 0 ∨ i = 1 := by have : i < 2 := hi; omega
      rcases h' with rfl | rfl
      · show _ ≤ c.se ∧ c.se ≤ _; omega
      · show _ ≤ c.ss ∧ c.ss ≤ _; omega) (IsInts.row (rest := []) hV)
  have HQ : Hid (∀ V (g : Nat), V.heap[g]? = some (.cells #[.string D, .string (thingD 3 (numsD [c.se, c.ss] 2))] 9 (0, 0)) → Calls Tryz.prog 50 #[.slice (some ⟨g, 0, none⟩) 2 2] V fun e w' => e = .returned (.string (seqD (D ++ thingD 3 (numsD [c.se, c.ss] 2)))) ∧ Below V.heap.size V w') := fun V g hg => implSeq2 D _ g V (by omega) hg
  generalize seqD (D ++ thingD 3 (numsD [c.se, c.ss] 2)) = R at *
  generalize thingD 3 (numsD [c.se, c.ss] 2) = T at *
  clear hz hy hr g1 g2 g3
  obtain ⟨key, names, sk, se, ss⟩ := c
  unfold Ask.box
  simp only at HN hg ⊢
  generalize hnv : Value.slice (some ⟨g, 0, none⟩) 2 2 = nv at *
  obtain ⟨w1, hw1⟩ : ∃ w1, w1 = w.alloc (.cells #[.int .i64 key, v, .int .i64 sk, .int .i64 se, .int .i64 ss, .string D, .int .i64 sk, .int .i64 se, .int .i64 ss, nv] 87 (0, 0)) := ⟨_, rfl⟩
  have r0 : w1.heap[w.heap.size]? = some (.cells [Value.int .i64 key, v, .int .i64 sk, .int .i64 se, .int .i64 ss, .string D, .int .i64 sk, .int .i64 se, .int .i64 ss, nv].toArray 87 (0, 0)) := by rw [hw1]; exact heap_alloc_new w _
  have B1 : Hid (Below w.heap.size w w1) := by rw [hw1]; exact (Below.refl _ _).alloc (Nat.le_refl _) _
  have z1 : w.heap.size < w1.heap.size := by rw [hw1]; simp
  have HK : Hid (∀ V, Below w1.heap.size w1 V → V.cell? ⟨w.heap.size, 0, none⟩ = some (.int .i64 key) ∧ V.cell? ⟨w.heap.size, 1, none⟩ = some (v) ∧ V.cell? ⟨w.heap.size, 2, none⟩ = some (.int .i64 sk) ∧ V.cell? ⟨w.heap.size, 3, none⟩ = some (.int .i64 se) ∧ V.cell? ⟨w.heap.size, 4, none⟩ = some (.int .i64 ss) ∧ V.cell? ⟨w.heap.size, 5, none⟩ = some (.string D) ∧ V.cell? ⟨w.heap.size, 6, none⟩ = some (.int .i64 sk) ∧ V.cell? ⟨w.heap.size, 7, none⟩ = some (.int .i64 se) ∧ V.cell? ⟨w.heap.size, 8, none⟩ = some (.int .i64 ss) ∧ V.cell? ⟨w.heap.size, 9, none⟩ = some (nv)) := fun V hV => by
    have hP := (hV.block _ z1).trans r0
    exact ⟨rowFacts hP 0 _ rfl, rowFacts hP 1 _ rfl, rowFacts hP 2 _ rfl, rowFacts hP 3 _ rfl, rowFacts hP 4 _ rfl, rowFacts hP 5 _ rfl, rowFacts hP 6 _ rfl, rowFacts hP 7 _ rfl, rowFacts hP 8 _ rfl, rowFacts hP 9 _ rfl⟩
  have HB : Hid (∀ V, Below w1.heap.size w1 V → Below w.heap.size w V) := fun V hV => B1.out.trans (hV.mono B1.out.size)
  have I1 : Hid (Below w1.heap.size w1 w1) := Below.refl _ _
  have D1 : Hid (Below w1.heap.size w1 w1.drew) := I1.out.drew
  have G1 : Hid (Row2 se ss w1 g) := hg.keep B1.out
  clear r0 hg z1 B1
  obtain ⟨c0, c1, c2, c3, c4, c5, c6, c7, c8, c9⟩ := HK.out w1 I1.out
  go_enter Tryz.func82, Tryz.ntmps82
  go_upto_region 1 with fail
  rw [← hw1]
  clear hw1
  have PN : Hid (∀ V, Hid (Below w1.heap.size w1 V) → Calls Tryz.prog 52 #[nv] V fun e W => e = .returned (.string T) ∧ Hid (Below w1.heap.size w1 W)) := fun V hV => (HN.out V (G1.out.keep hV.out)).mono fun e W h => ⟨h.1, hV.out.trans (h.2.mono hV.out.size)⟩
  have PS : Hid (∀ V (g : Nat), Hid (Below w1.heap.size w1 V) → V.heap[g]? = some (.cells #[.string D, .string T] 9 (0, 0)) → Calls Tryz.prog 50 #[.slice (some ⟨g, 0, none⟩) 2 2] V fun e W => e = .returned (.string R) ∧ Hid (Below w1.heap.size w1 W)) := fun V g hV hg => (HQ.out V g hg).mono fun e W h => ⟨h.1, hV.out.trans (h.2.mono hV.out.size)⟩
  have AL : Hid (∀ V o, Hid (Below w1.heap.size w1 V) → Hid (Below w1.heap.size w1 (V.alloc o))) := fun V o h => h.out.alloc h.out.size o
  clear HN HQ G1
  go_region_held3 (fun V => V.cell? ⟨w.heap.size, 0, none⟩ = some (.int .i64 key) ∧ V.cell? ⟨w.heap.size, 1, none⟩ = some (v) ∧ V.cell? ⟨w.heap.size, 2, none⟩ = some (.int .i64 sk) ∧ V.cell? ⟨w.heap.size, 3, none⟩ = some (.int .i64 se) ∧ V.cell? ⟨w.heap.size, 4, none⟩ = some (.int .i64 ss) ∧ V.cell? ⟨w.heap.size, 5, none⟩ = some (.string D) ∧ V.cell? ⟨w.heap.size, 6, none⟩ = some (.int .i64 sk) ∧ V.cell? ⟨w.heap.size, 7, none⟩ = some (.int .i64 se) ∧ V.cell? ⟨w.heap.size, 8, none⟩ = some (.int .i64 ss) ∧ V.cell? ⟨w.heap.size, 9, none⟩ = some (nv)) (first | (refine ⟨?_, ?_, ?_, ?_, ?_, ?_, ?_, ?_, ?_, ?_⟩ <;> assumption) | exact HK.out _ (Hid.out (by assumption)) | exact HK.out _ (Hid.out (AL.out _ _ (by assumption))) | go_keep)
    (first
      | (go_at_call 52; refine (PN.out _ (by assumption)).mono ?_; rintro r V1 ⟨rfl, k1⟩)
      | (go_at_call 50; refine (PS.out _ _ (by first | assumption | exact AL.out _ _ (by assumption)) (heap_alloc_new _ _)).mono ?_; rintro r V2 ⟨rfl, k2⟩))
  go_wp2
  go_ret
  exact ⟨rfl, HB.out _ k2.out⟩
end Go.Proofs.YtkhdjmjbdpmdnaaGreatDoor
