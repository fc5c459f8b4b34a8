/- impl.DerOidRead, walked. -/
import Derived.Test.YtochmolhpcidgahOidJ
import Derived.Test.YtochmolhpcidgahDerZ
import Derived.Test.YtochmolhpcidgahResK
import Derived.Test.YtochmolhpcidgahLong
namespace Go.Proofs.Ytochmolhpcidgah
open Go.RowKit

theorem oidR_long {s : ByteArray} (h : 20000 < s.size) : oidR s = ([], 2) := if_pos h
theorem oidR_none {s : ByteArray} (h : s.size ≤ 20000) (h1 : oidQ (bl s) = none) : oidR s = ([], 3) := by rw [oidR, if_neg (by omega), h1]
theorem oidR_some {s : ByteArray} {z : List Int} (h : s.size ≤ 20000) (h1 : oidQ (bl s) = some z) : oidR s = (z, 0) := by rw [oidR, if_neg (by omega), h1]
set_option maxHeartbeats 2000000 in
set_option maxRecDepth 100000 in
theorem implOidRead (s : ByteArray) (w : World) (hs : s.size ≤ maxLen) :
    Calls Try.prog 17 #[.string s] w fun e w' => ∃ v, e = .returned (.agg #[v, .int .i64 (oidR s).2]) ∧ OwnL w' w.heap.size v (oidR s).1 ∧ Below w.heap.size w w' := by
  have hs' := hs
  unfold maxLen at hs'
  by_cases h1 : 20000 < s.size
  · have HF : Hid (oidR s = ([], 2)) := oidR_long h1
    have hd : decide (20000 < s.size) = true := decide_eq_true h1
    go_enter Try.func17, Try.ntmps17
    go_wp2_with fail
    refine (tooLong s _ hs).mono ?_
    rintro e w' ⟨rfl, rfl⟩
    rw [hd]
    go_wp2_with fail
    refine bodyPost_ret (v := .agg #[.slice none 0 0, .int .i64 2]) (by simp [results, Try.results17, go_sem]) rfl ⟨.slice none 0 0, ?_, ?_, ?_⟩
    · rw [HF.out]
    · rw [HF.out]; exact ownL_nil _ _
    · repeat (first | exact Below.refl _ _ | refine Below.setCell ?_ (by simp) _ | refine Below.alloc ?_ (by simp) _)
  have hd : decide (20000 < s.size) = false := decide_eq_false h1
  have HA : Hid (∀ V : World, Calls Try.prog 32 #[.string s] V fun e w' => ArcsOk w' V.heap.size (arcsQ (bl s)) e ∧ Below V.heap.size V w') := fun V => readArcs s V (by omega)
  have HN : Hid (arcsQ (bl s) = none → oidR s = ([], 3)) := fun h => oidR_none (by omega) (by unfold oidQ; rw [h])
  have HS : Hid (∀ z, arcsQ (bl s) = some z → arcsB z = true → oidR s = (z, 0)) := fun z h h' => oidR_some (by omega) (by unfold oidQ; rw [h]; exact if_pos h')
  have HW : Hid (∀ z, arcsQ (bl s) = some z → arcsB z = false → oidR s = ([], 3)) := fun z h h' => oidR_none (by omega) (by unfold oidQ; rw [h]; exact if_neg (by simp [h']))
  generalize arcsQ (bl s) = R at *
  go_enter Try.func17, Try.ntmps17
  go_wp2_with fail
  refine (tooLong s _ hs).mono ?_
  rintro e w' ⟨rfl, rfl⟩
  rw [hd]
  go_wp2_with fail
  refine (HA.out _).mono ?_
  rintro e w1 ⟨hq, hb1⟩
  have hsz : (w.alloc (.cells [.slice none 0 0, .int .i64 0].toArray 35 (0, 0))).heap.size = w.heap.size + 1 := by simp
  obtain ⟨hr, hB, hz⟩ := resKeep (cs := [.slice none 0 0, .int .i64 0]) (T := 35) hb1
  have HRw : Hid (w1.heap[w.heap.size]? = some (.cells [.slice none 0 0, .int .i64 0].toArray 35 (0, 0))) := hr
  have HB : Hid (Below w.heap.size w w1) := hB
  clear hb1 hr hB HA
  rcases hq with ⟨rfl, rfl⟩ | ⟨z, v, rfl, rfl, hO, hzl⟩
  · have HF : Hid (oidR s = ([], 3)) := HN.out rfl
    obtain ⟨⟨c0, c1⟩, f0, f1⟩ := cells2 HRw.out
    go_wp2_with fail
    refine bodyPost_ret (v := .agg #[.slice none 0 0, .int .i64 3]) (by simp [results, Try.results17, go_sem, c0, c1]) rfl ⟨.slice none 0 0, ?_, ?_, ?_⟩
    · rw [HF.out]
    · rw [HF.out]; exact ownL_nil _ _
    · repeat (first | exact HB.out | refine Below.setCell ?_ (by simp) _)
  · have HO : Hid (OwnL w1 (w.heap.size + 1) v z) := by show OwnL _ _ _ _; simpa using hO
    obtain ⟨va, vc, rfl, hcap⟩ := OwnL.form HO.out
    have HAr : Hid (Calls Try.prog 30 #[.slice va z.length vc] w1 fun e w' => e = .returned (.bool (arcsB z)) ∧ Below w1.heap.size w1 w') := arcsRight va z vc w1 (by omega) hcap (OwnL.ints HO.out)
    clear hO
    cases hab : arcsB z with
    | true =>
      have HF : Hid (oidR s = (z, 0)) := HS.out z rfl hab
      rw [hab] at HAr
      obtain ⟨n, hn⟩ : ∃ n, n = z.length := ⟨_, rfl⟩
      rw [← hn] at HAr HO hzl hcap ⊢
      have HNn : Hid (n = z.length) := hn
      clear hn
      go_wp2_with fail
      refine HAr.out.mono ?_
      rintro e w2 ⟨rfl, b2⟩
      have R2 : w2.heap[w.heap.size]? = some (.cells [.slice none 0 0, .int .i64 0].toArray 35 (0, 0)) := by rw [b2.block _ hz]; exact HRw.out
      have O2 : Hid (OwnL w2 (w.heap.size + 1) (.slice va n vc) z) := OwnL.keep HO.out b2
      have B2 : Hid (Below w.heap.size w w2) := HB.out.trans (b2.mono (by omega))
      obtain ⟨⟨c0, c1⟩, f0, f1⟩ := cells2 R2
      clear b2 R2
      go_wp2_with fail
      refine bodyPost_ret (v := .agg #[.slice va n vc, .int .i64 0]) (by simp [results, Try.results17, go_sem, c0, c1]) rfl ⟨.slice va n vc, ?_, ?_, ?_⟩
      · rw [HF.out]
      · rw [HF.out]
        exact (OwnL.other (OwnL.other O2.out (by omega)) (by omega)).mono (by omega)
      · repeat (first | exact B2.out | refine Below.setCell ?_ (by simp) _)
    | false =>
      have HF : Hid (oidR s = ([], 3)) := HW.out z rfl hab
      rw [hab] at HAr
      generalize z.length = n at *
      go_wp2_with fail
      refine HAr.out.mono ?_
      rintro e w2 ⟨rfl, b2⟩
      have R2 : w2.heap[w.heap.size]? = some (.cells [.slice none 0 0, .int .i64 0].toArray 35 (0, 0)) := by rw [b2.block _ hz]; exact HRw.out
      have B2 : Hid (Below w.heap.size w w2) := HB.out.trans (b2.mono (by omega))
      obtain ⟨⟨c0, c1⟩, f0, f1⟩ := cells2 R2
      clear b2 R2
      go_wp2_with fail
      refine bodyPost_ret (v := .agg #[.slice none 0 0, .int .i64 3]) (by simp [results, Try.results17, go_sem, c0, c1]) rfl ⟨.slice none 0 0, ?_, ?_, ?_⟩
      · rw [HF.out]
      · rw [HF.out]; exact ownL_nil _ _
      · repeat (first | exact B2.out | refine Below.setCell ?_ (by simp) _)
end Go.Proofs.Ytochmolhpcidgah
