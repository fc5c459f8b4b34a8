/- impl.readArcs, walked. -/
import Derived.Test.YtochmolhpcidgahOidI
import Derived.Test.YtochmolhpcidgahInts
namespace Go.Proofs.Ytochmolhpcidgah
open Go.RowKit

/-- A row of numbers of the call's own. -/
def OwnL (w : World) (B : Nat) (v : Value) (l : List Int) : Prop := w.ownsRow B 2 1 v l.length (lCells l)
theorem OwnL.keep {w w' : World} {B : Nat} {v : Value} {l : List Int} (h : OwnL w B v l) (hb : Below w.heap.size w w') : OwnL w' B v l := by
  refine ⟨h.1, ?_⟩
  rcases h.2 with h | ⟨g, cap, cur, e, h1, h2, h3⟩
  · exact .inl h
  · exact .inr ⟨g, cap, cur, e, h1, by rw [hb.block g (heap_lt h2)]; exact h2, h3⟩
theorem OwnL.mono {w : World} {B B' : Nat} {v : Value} {l : List Int} (h : OwnL w B v l) (hB : B' ≤ B) : OwnL w B' v l := by
  refine ⟨h.1, ?_⟩
  rcases h.2 with h | ⟨g, cap, cur, e, h1, h3⟩
  · exact .inl h
  · exact .inr ⟨g, cap, cur, e, Nat.le_trans hB h1, h3⟩
theorem OwnL.other {w : World} {B b o : Nat} {v u : Value} {l : List Int} (h : OwnL w B v l) (hb : b < B) : OwnL (w.setCell ⟨b, o, none⟩ u) B v l := by
  refine ⟨h.1, ?_⟩
  rcases h.2 with h | ⟨g, cap, cur, e, h1, h2, h3⟩
  · exact .inl h
  · exact .inr ⟨g, cap, cur, e, h1, by rw [heap_setCell_other _ _ _ _ (by show g ≠ b; omega)]; exact h2, h3⟩
theorem OwnL.form {w : World} {B : Nat} {v : Value} {l : List Int} (h : OwnL w B v l) : ∃ a c, v = .slice a l.length c ∧ l.length ≤ c := by
  rcases h.2 with ⟨h, h'⟩ | ⟨g, cap, _, e, _, _, hc, _⟩
  · exact ⟨none, 0, by rw [h']; exact h, by omega⟩
  · exact ⟨_, _, e, hc⟩
theorem ownL_nil (w : World) (B : Nat) : OwnL w B (.slice none 0 0) [] := ⟨rfl, .inl ⟨rfl, rfl⟩⟩
theorem OwnL.ints {w : World} {B : Nat} {a : Option Addr} {n c : Nat} {l : List Int} (h : OwnL w B (.slice a n c) l) : IsInts w a l := by
  rcases h.2 with ⟨_, h'⟩ | ⟨g, cap, cur, e, _, hg, _, _, _, ht⟩
  · exact .inl (List.eq_nil_of_length_eq_zero h')
  · simp only [Value.slice.injEq] at e
    obtain ⟨rfl, _, _⟩ := e
    refine .inr ⟨g, 0, rfl, fun i hi => ?_⟩
    have k0 : (lCells l)[i]? = some (.int .i64 (l.getD i 0)) := by simp [lCells, List.getD, hi]
    rw [← ht, List.getElem?_take, if_pos (by omega)] at k0
    rw [Nat.zero_add, cell_of_row w g _ _ _ (0, 0) hg]
    simpa using k0
theorem OwnL.ge {w : World} {B g : Nat} {v : Value} {l : List Int} (h : OwnL w B v l) (e : v.ownBlock = some g) : B ≤ g ∧ g < w.heap.size :=
  (show World.ownsRow w B 2 1 v l.length (lCells l) from h).lt g e
/-- What readArcs hands back. -/
def ArcsOk (w' : World) (B : Nat) (R : Option (List Int)) (e : Ending) : Prop :=
  R = none ∧ e = .returned (.tuple #[.slice none 0 0, .bool false]) ∨ ∃ z v, R = some z ∧ e = .returned (.tuple #[v, .bool true]) ∧ OwnL w' B v z ∧ z.length ≤ 20002
set_option maxHeartbeats 2000000 in
set_option maxRecDepth 100000 in
theorem readArcs (s : ByteArray) (w : World) (hs : s.size ≤ 20000) :
    Calls Try.prog 32 #[.string s] w fun e w' => ArcsOk w' w.heap.size (arcsQ (bl s)) e ∧ Below w.heap.size w w' := by
  obtain ⟨i0, hi, hz0, hz1, hz2⟩ := info_parts infoLong
  have HG : Hid (∀ (k : Nat) (V : World), k ≤ s.size → Calls Try.prog 42 #[.string s, .int .i64 (k : Int)] V fun e w' => SevOk s k (sevQ true 0 ((bl s).drop k)) e ∧ w' = V) := fun k V hk => getSevens s k V hs hk
  have H0 : Hid (∀ V : World, Calls Try.prog 42 #[.string s, .int .i64 0] V fun e w' => SevOk s 0 (sevQ true 0 (bl s)) e ∧ w' = V) := fun V => by
    have := getSevens s 0 V hs (Nat.zero_le _)
    simpa using this
  have HL : Hid ((bl s).length = s.size) := bl_len s
  obtain ⟨R, hR⟩ : ∃ R, R = arcsQ (bl s) := ⟨_, rfl⟩
  rw [← hR]
  have HRR : Hid (R = arcsQ (bl s)) := hR
  clear hR
  go_enter Try.func32, Try.ntmps32
  go_wp2_with fail
  refine (H0.out _).mono ?_
  rintro e w' ⟨hq, rfl⟩
  rcases hq with ⟨hq, rfl⟩ | ⟨h, k, hq, hk0, hk, hh, rfl⟩
  · have HF : Hid (R = none) := by show _ = _; rw [HRR.out]; unfold arcsQ; rw [hq]
    clear hq
    go_wp2_with fail
    go_ret2
    exact ⟨.inl ⟨HF.out, rfl⟩, Below.refl _ _⟩
  · have HR : Hid (R = restQ (bl s).length ((bl s).drop k) (two h)) := by show _ = _; rw [HRR.out]; unfold arcsQ; rw [hq]
    obtain ⟨a, ha⟩ : ∃ a : Nat, a = min (h / 40) 2 := ⟨_, rfl⟩
    obtain ⟨b, hb⟩ : ∃ b : Nat, b = h - 40 * a := ⟨_, rfl⟩
    have H2 : Hid (two h = [(a : Int), (b : Int)]) := by
      show _ = _
      unfold two
      rw [← ha]
      congr 2; omega
    have e1 : min ((h : Int) / 40) 2 = (a : Int) := by omega
    have e2 : (h : Int) - 40 * (a : Int) = (b : Int) := by omega
    have ha2 : a ≤ 2 := by omega
    clear hq ha hb HRR
    go_wp2_with fail
    go_loopw [5, 8] (fun q v wr => ∃ (j f : Nat) (acc : List Int), q = .int .i64 (j : Int) ∧ j ≤ s.size ∧ s.size ≤ j + f ∧ restQ f ((bl s).drop j) acc = R ∧ acc.length ≤ j + 2 ∧ OwnL wr w'.heap.size v acc ∧ Below w'.heap.size w' wr ∧ w'.heap.size ≤ wr.heap.size)
      (fun q _ _ => s.size - (intOf q).toNat)
    case atStart =>
      refine ⟨k, (bl s).length, two h, rfl, hk, by rw [HL.out]; omega, HR.out.symm, by rw [H2.out]; simp, ?_, (Below.refl _ _).alloc (Nat.le_refl _) _, by simp⟩
      rw [H2.out]
      exact World.ownsRow_lit (base := w'.heap.size) (e := 2) (size := 1) w' #[.int .i64 (a : Int), .int .i64 (b : Int)] 2 (Nat.le_refl _) (by decide) rfl
    case round =>
      clear HR
      obtain ⟨j, f, acc, rfl, hj, hf, hrest, hal, hown, hbel, hsz⟩ := hrel
      have HQ : Hid (restQ f ((bl s).drop j) acc = R) := hrest
      obtain ⟨va, vc, rfl, _⟩ := OwnL.form hown
      have HO : Hid (OwnL wr w'.heap.size (.slice va acc.length vc) acc) := hown
      have HB : Hid (Below w'.heap.size w' wr) := hbel
      clear hrest hown hbel
      by_cases hlt : j < s.size
      · obtain ⟨f', rfl⟩ : ∃ f', f = f' + 1 := ⟨f - 1, by omega⟩
        have hne : (bl s).drop j ≠ [] := by
          intro h'
          have := congrArg List.length h'
          rw [List.length_drop, HL.out] at this
          simp at this; omega
        have HN : Hid (sevQ true 0 ((bl s).drop j) = none → R = none) := fun h' => by rw [← HQ.out, restQ_none hne h']
        have HS : Hid (∀ n t, sevQ true 0 ((bl s).drop j) = some (n, t) → restQ f' t (acc ++ [(n : Int)]) = R) := fun n t h' => by rw [← HQ.out, restQ_some h']
        clear hne HQ
        go_wp2_with fail
        refine (HG.out j _ hj).mono ?_
        rintro e w2 ⟨hq, rfl⟩
        rcases hq with ⟨hq, rfl⟩ | ⟨x, nx, hq, hx0, hx1, hxm, rfl⟩
        · have HF : Hid (R = none) := HN.out hq
          clear hq
          go_wp2_with fail
          go_ret2
          exact ⟨.inl ⟨HF.out, rfl⟩, HB.out⟩
        · have HF : Hid (restQ f' ((bl s).drop nx) (acc ++ [(x : Int)]) = R) := HS.out _ _ hq
          have hO : w2.ownsRow w'.heap.size 2 1 (.slice va acc.length vc) acc.length (lCells acc) := HO.out
          clear hq
          go_wp2_with (at_builtin; refine wpList_append_own _ rfl _ _ 29 rfl w'.heap.size 2 i0 (.int .i64 0) 1 8 Try.underlying29 hi hz0 hz1 hz2 rfl (by decide) _ _ _ rfl (hO.alloc _) ⟨w2.heap.size, 0, none⟩ 1 1 [.int .i64 (x : Int)] rfl rfl ?c1 ?c2 ?c3 ?c4 ?c5 ?_)
          case c1 => exact cells_one (by simp)
          case c2 => intro u hu; simp at hu; subst hu; rfl
          case c3 => unfold maxLen; omega
          case c4 => omega
          case c5 => simp; omega
          intro v' w3 hown' hgrow _
          have hB3 : Below w'.heap.size w' w3 := (HB.out.alloc hsz _).grown hgrow (by simp; omega) (fun k hk => (hO.lt k hk).1)
          have HO3 : Hid (OwnL w3 w'.heap.size v' (acc ++ [(x : Int)])) := by
            show World.ownsRow _ _ _ _ _ _ _
            rw [List.length_append, lCells, List.map_append]
            exact hown'
          have HB3 : Hid (Below w'.heap.size w' w3) := hB3
          clear hown' hgrow hB3 hO
          go_wp2_with fail
          go_roundw
          case rel => exact ⟨nx, f', acc ++ [(x : Int)], rfl, hx1, by omega, HF.out, by simp; omega, HO3.out, HB3.out, HB3.out.size⟩
          case measure => simp [intOf]; omega
      · have HF : Hid (R = some acc) := by
          show _ = _
          rw [← HQ.out, List.drop_eq_nil_of_le (by rw [HL.out]; omega), restQ_nil]
        clear HQ
        go_wp2_with fail
        go_ret2
        exact ⟨.inr ⟨acc, _, HF.out, rfl, HO.out, by omega⟩, HB.out⟩
end Go.Proofs.Ytochmolhpcidgah
