/- spec.l01Min, spec.DerOidRead, walked. The draws' source: '(*l01Src).n', '.one', walked: a number below most; nothing but the source itself turns. -/
import Derived.Test.YtjllcflnmopnpaaDoorM07
import Derived.Test.YtjllcflnmopnpaaDoorM08
import Derived.Test.YtjllcflnmopnpaaDoorM02
import Derived.Deep.RegionLaw
import Derived.Deep.AppendLies
import Derived.Deep.RegionWith
import Derived.Test.YtjllcflnmopnpaaDoorM01
import Derived.WalkKit
import Derived.WalkSpells
import Derived.WalkLawsBesides
import Derived.Below
import Derived.Deep.QuietTactic
import Derived.BigQuiet
import Derived.OpenShut
namespace Go.Proofs.YtjllcflnmopnpaaDoor
open Go.RowKit

theorem oidR_longS {s : ByteArray} (h : 20000 < s.size) : oidR s = ([], 2) := if_pos h
theorem oidR_spec {s : ByteArray} (h : s.size ≤ 20000) : oidR s = match specQ (bl s) with
    | none => ([], 3)
    | some z => (z, 0) := by
  rw [oidR, if_neg (by omega), specQ_eq (bl_lt s)]
  cases oidQ (bl s) <;> rfl
theorem same_textS (a b : ByteArray) : (a.toList == b.toList) = decide (a = b) := by
  by_cases h : a = b
  · subst h; simp
  · rw [decide_eq_false h, beq_eq_false_iff_ne]
    intro h'
    rw [Lib.toList_data, Lib.toList_data] at h'
    exact h (ByteArray.ext (Array.toList_inj.1 h'))
theorem specMin (a b : Int) (w : World) :
    Calls Tryd.prog 54 #[.int .i64 a, .int .i64 b] w fun e w' => e = .returned (.int .i64 (min a b)) ∧ w' = w := by
  by_cases h : a < b
  · go_enter Tryd.func54, Tryd.ntmps54
    go_wp2
    go_ret
    exact ⟨ret_int (by omega), rfl⟩
  · go_enter Tryd.func54, Tryd.ntmps54
    go_wp2
    go_ret
    exact ⟨ret_int (by omega), rfl⟩
/-- An append in a drawn region. -/
theorem step_append_any {P : Program} {w : World} {ops : Array Oper} {o : Oper} {a : Act} {K : Act → World → Prop} {Q : Exit → Act → World → Prop} {E : Prop} (hgd : o.guard = none) (s x : Operand) (t : TypeId)
    (ho : o.op = .call { callee := .builtin .append, args := #[s, x], argTypes := #[t, t] })
    (base : Nat) (e : TypeId) (i : TypeInfo) (z : Value) (size bytes : Nat) (ht : P.underlying t = some (.slice e)) (hi : P.info? e = some i) (hz : i.zero = some z)
    (hsize : i.size = size) (hby : i.bytes = bytes) (hzs : z.cells.size = size) (hsz : 0 < size)
    (v : Value) (n : Nat) (xs : List Value) (hs : a.eval s = v) (hown : w.ownsRow base e size v n xs)
    (ad : Addr) (m c : Nat) (news : List Value) (hx : a.eval x = .slice (some ad) m c) (hl : news.length = m * size) (hnews : ∀ j u, news[j]? = some u → w.cell? (ad.add j) = some u) (h1 : ∀ u ∈ news, u.oneCell' = true)
    (h63 : n + m ≤ maxLen) (hbytes : (n + m) * bytes ≤ 140737488355328) (hbase : base ≤ w.heap.size)
    (h : ∀ v' w', w'.ownsRow base e size v' (n + m) (xs ++ news) → w.grownBy w' v.ownBlock → (v' = .slice none 0 0 ↔ v = .slice none 0 0 ∧ m = 0) → K (a.put o.dst v') w') :
    if Region.wanted o (yielded ops a.tmps) = true then Oper.wp P o a w K Q else E := by
  have hw : Region.wanted o (yielded ops a.tmps) = true := by simp [Region.wanted, hgd]
  rw [if_pos hw]
  exact wp_append_own w s x t ho base e i z size bytes ht hi hz hsize hby hzs hsz v n xs hs hown ad m c news hx hl hnews h1 h63 hbytes hbase h
def natI (l : List Nat) : List Int := l.map Int.ofNat
set_option maxHeartbeats 2000000 in
set_option maxRecDepth 100000 in
theorem specOidRead (s : ByteArray) (w : World) (hs : s.size ≤ maxLen) :
    Calls Tryd.prog 27 #[.string s] w fun e w' => ∃ v, e = .returned (.agg #[v, .int .i64 (oidR s).2]) ∧ OwnL w' w.heap.size v (oidR s).1 ∧ Below w.heap.size w w' := by
  have hs' := hs
  unfold maxLen at hs'
  obtain ⟨i0, hi, hz0, hz1, hz2⟩ := info_parts infoLong
  by_cases h1 : 20000 < s.size
  · have HF : Hid (oidR s = ([], 2)) := oidR_longS h1
    go_enter Tryd.func27, Tryd.ntmps27
    go_wp2_with fail
    refine bodyPost_ret (v := .agg #[.slice none 0 0, .int .i64 2]) (by simp [results, Tryd.results27, go_sem]) rfl ⟨.slice none 0 0, ?_, ?_, ?_⟩
    · rw [HF.out]
    · rw [HF.out]; exact ownL_nil _ _
    · repeat (first | exact Below.refl _ _ | refine Below.setCell ?_ (by simp) _ | refine Below.alloc ?_ (by simp) _)
  have HS : Hid (oidR s = match specQ (bl s) with
    | none => ([], 3)
    | some z => (z, 0)) := oidR_spec (by omega)
  obtain ⟨R, hR⟩ : ∃ R, R = spQ [] 0 (bl s) := ⟨_, rfl⟩
  have HN : Hid (R = none → oidR s = ([], 3)) := fun h => by rw [HS.out]; unfold specQ; rw [← hR, h]
  have HE : Hid (R = some [] → oidR s = ([], 3)) := fun h => by rw [HS.out]; unfold specQ; rw [← hR, h]
  have HG : Hid (∀ h t, R = some (h :: t) → arcsB (two h ++ natI t) = true → nats (oidL (two h ++ natI t)) = bl s → oidR s = (two h ++ natI t, 0)) := fun h t e ha hn => by
    rw [HS.out]; unfold specQ; rw [← hR, e]; simp only; rw [if_pos ⟨ha, hn⟩]; rfl
  have HB : Hid (∀ h t, R = some (h :: t) → (arcsB (two h ++ natI t) = false ∨ nats (oidL (two h ++ natI t)) ≠ bl s) → oidR s = ([], 3)) := fun h t e hc => by
    rw [HS.out]; unfold specQ; rw [← hR, e]; simp only; rw [if_neg]
    rintro ⟨a, b⟩
    rcases hc with hc | hc
    · rw [show two h ++ natI t = two h ++ t.map Int.ofNat from rfl] at hc; rw [hc] at a; simp at a
    · exact hc b
  have HR : Hid (spQ [] 0 (bl s) = R) := hR.symm
  clear hR HS
  go_enter Tryd.func27, Tryd.ntmps27
  go_wp2_with fail
  go_loopw [4, 5, 6] (fun v q i wr => ∃ (j m : Nat) (acc : List Nat), q = .int .i64 (m : Int) ∧ i = .int .i64 (j : Int) ∧ j ≤ s.size ∧ m ≤ 2147483647 ∧ acc.length ≤ 11 ∧ (∀ y ∈ acc, y ≤ 2147483647) ∧ spQ acc m ((bl s).drop j) = R ∧
      wr.heap[w.heap.size]? = some (.cells [.slice none 0 0, .int .i64 0].toArray 50 (0, 0)) ∧ wr.heap[w.heap.size + 1]? = some (.cells [.slice none 0 0, .int .i64 3].toArray 50 (0, 0)) ∧
      OwnL wr (w.heap.size + 2) v (natI acc) ∧ Below w.heap.size w wr ∧ w.heap.size + 2 ≤ wr.heap.size ∧ ∃ a c, v = .slice a acc.length c ∧ acc.length ≤ c)
    (fun _ _ i _ => s.size - (intOf i).toNat)
  case atStart =>
    refine ⟨0, 0, [], rfl, rfl, Nat.zero_le _, by omega, by simp, by simp, HR.out, ?_, ?_, ?_, (((Below.refl _ _).alloc (Nat.le_refl _) _).alloc (by simp) _).alloc (by simp; omega) _, by simp, ⟨_, _, rfl, Nat.le_refl _⟩⟩
    · rw [Below.heap_alloc _ _ _ (by simp; omega), Below.heap_alloc _ _ _ (by simp)]
      exact heap_alloc_new w _
    · rw [Below.heap_alloc _ _ _ (by simp)]
      exact heap_alloc2 w _ _
    · have hm := World.ownsRow_made (base := w.heap.size + 2) (e := 2) (size := 1) ((w.alloc (.cells #[.slice none 0 0, .int .i64 0] 50)).alloc (.cells #[.slice none 0 0, .int .i64 3] 50)) #[] 0 (by simp) (Nat.zero_le _) rfl
      show World.ownsRow _ _ _ _ _ _ _
      simpa [natI, lCells] using hm
  case round =>
    clear HR
    obtain ⟨j, m, acc, rfl, rfl, hj, hm, hal, hall, hq, hr0, hr1, hown, hbel, hsz, va, vc, rfl, hcap⟩ := hrel
    have HQ : Hid (spQ acc m ((bl s).drop j) = R) := hq
    have HAl : Hid (∀ y ∈ acc, y ≤ 2147483647) := hall
    have R0 : Hid (wr.heap[w.heap.size]? = some (.cells [.slice none 0 0, .int .i64 0].toArray 50 (0, 0))) := hr0
    have R1 : Hid (wr.heap[w.heap.size + 1]? = some (.cells [.slice none 0 0, .int .i64 3].toArray 50 (0, 0))) := hr1
    have HO : Hid (OwnL wr (w.heap.size + 2) (.slice va acc.length vc) (natI acc)) := hown
    have HBl : Hid (Below w.heap.size w wr) := hbel
    obtain ⟨⟨c0, c1⟩, f0, f1⟩ := cells2 R0.out
    obtain ⟨⟨d0, d1⟩, g0, g1⟩ := cells2 R1.out
    clear hq hr0 hr1 hown hbel hall
    by_cases hlt : j < s.size
    · have hd := bl_drop s j hlt
      have hb := bN_eq s j hlt
      have hu := u8_lt s[j]
      rw [hb] at hd
      have HQ2 := HQ.out
      rw [hd, spQ] at HQ2
      have q0 : (j : Int) < (s.size : Int) := by omega
      obtain ⟨x, hx⟩ : ∃ x, x = s[j].toNat := ⟨_, rfl⟩
      rw [← hx] at HQ2 hu
      have ex : (s[j].toNat : Int) = (x : Int) := by omega
      obtain ⟨m', hm'⟩ : ∃ m', m' = 128 * m + x % 128 := ⟨_, rfl⟩
      rw [← hm'] at HQ2
      have em : 128 * (m : Int) + (x : Int) % 128 = (m' : Int) := by omega
      have HQ3 : Hid _ := HQ2
      clear hd hb HQ HQ2 hx hm'
      by_cases hbad : 2147483647 < m' ∨ 10 < acc.length
      · have HF : Hid (oidR s = ([], 3)) := HN.out (by have := HQ3.out; rw [if_pos hbad] at this; exact this.symm)
        have hbd : 2147483647 < m' ∨ (m' ≤ 2147483647 ∧ 10 < acc.length) := by omega
        generalize acc.length = n at *
        clear hbad HQ3
        rcases hbd with hbd | ⟨hbd, hbd'⟩
        all_goals
          go_wp2_with fail
          refine bodyPost_ret (v := .agg #[.slice none 0 0, .int .i64 3]) (by simp [results, Tryd.results27, go_sem, c0, c1]) rfl ⟨.slice none 0 0, ?_, ?_, ?_⟩
          · rw [HF.out]
          · rw [HF.out]; exact ownL_nil _ _
          · repeat (first | exact HBl.out | refine Below.setCell ?_ (by simp) _)
      · have hm3 : m' ≤ 2147483647 := by omega
        have ha3 : acc.length ≤ 10 := by omega
        by_cases hlow : x < 128
        · have HF : Hid (spQ (acc ++ [m']) 0 ((bl s).drop (j + 1)) = R) := by have := HQ3.out; rw [if_neg hbad, if_pos hlow] at this; exact this
          have HAm : Hid (∀ y ∈ acc ++ [m'], y ≤ 2147483647) := fun y hy => by
            rcases List.mem_append.1 hy with hy | hy
            · exact HAl.out y hy
            · simp at hy; omega
          have hO : wr.ownsRow (w.heap.size + 2) 2 1 (.slice va acc.length vc) acc.length (lCells (natI acc)) := by
            have := HO.out
            unfold OwnL at this
            rwa [show (natI acc).length = acc.length from by simp [natI]] at this
          clear HQ3 hbad
          go_wp2_with (at_builtin; refine wpList_append_own _ rfl _ _ 41 rfl (w.heap.size + 2) 2 i0 (.int .i64 0) 1 8 Tryd.underlying41 hi hz0 hz1 hz2 rfl (by decide) _ _ _ rfl (hO.alloc _) ⟨wr.heap.size, 0, none⟩ 1 1 [.int .i64 (m' : Int)] rfl rfl ?c1 ?c2 ?c3 ?c4 ?c5 ?_)
          case c1 => exact cells_one (by simp)
          case c2 => intro u hu; simp at hu; subst hu; rfl
          case c3 => unfold maxLen; omega
          case c4 => omega
          case c5 => simp; omega
          intro v' w3 hown' hgrow _
          have hlt2 := fun k hk => hO.lt k hk
          have hB3 : Below w.heap.size w w3 := (HBl.out.alloc (by omega) _).grown hgrow (by simp; omega) (fun k hk => by have := (hlt2 k hk).1; omega)
          have hs3 : wr.heap.size + 1 ≤ w3.heap.size := by have := hgrow.size; simp at this; omega
          have HO3 : Hid (OwnL w3 (w.heap.size + 2) v' (natI (acc ++ [m']))) := by
            show World.ownsRow _ _ _ _ _ _ _
            rw [natI, List.map_append, List.length_append, lCells, List.map_append]
            simpa [natI, lCells] using hown'
          have R03 : Hid (w3.heap[w.heap.size]? = some (.cells [.slice none 0 0, .int .i64 0].toArray 50 (0, 0))) := by
            show _ = _
            rw [hgrow.block _ (by simp; omega) (fun e => by have := (hlt2 _ e.symm).1; omega), Below.heap_alloc _ _ _ (by omega)]
            exact R0.out
          have R13 : Hid (w3.heap[w.heap.size + 1]? = some (.cells [.slice none 0 0, .int .i64 3].toArray 50 (0, 0))) := by
            show _ = _
            rw [hgrow.block _ (by simp; omega) (fun e => by have := (hlt2 _ e.symm).1; omega), Below.heap_alloc _ _ _ (by omega)]
            exact R1.out
          obtain ⟨va', vc', hv', hcap'⟩ := OwnL.form HO3.out
          have hln : (natI (acc ++ [m'])).length = (acc ++ [m']).length := by simp [natI]
          rw [hln] at hv' hcap'
          have HB3 : Hid (Below w.heap.size w w3) := hB3
          have HV : Hid (v' = .slice va' (acc ++ [m']).length vc' ∧ (acc ++ [m']).length ≤ vc') := ⟨hv', hcap'⟩
          clear hown' hgrow hB3 hO hlt2 hv' hcap' hln
          go_wp2_with fail
          go_roundw
          case rel => exact ⟨j + 1, 0, acc ++ [m'], rfl, by go_num, by omega, by omega, by simp; omega, HAm.out, HF.out, R03.out, R13.out, HO3.out, HB3.out, by omega, va', vc', HV.out.1, HV.out.2⟩
          case measure => simp [intOf]; omega
        · have HF : Hid (spQ acc m' ((bl s).drop (j + 1)) = R) := by have := HQ3.out; rw [if_neg hbad, if_neg hlow] at this; exact this
          have HV : Hid (acc.length ≤ vc) := hcap
          clear HQ3 hbad c0 c1 d0 d1 f0 f1 g0 g1
          generalize hnn : acc.length = n at *
          go_wp2_with fail
          go_roundw
          case rel => exact ⟨j + 1, m', acc, rfl, by go_num, by omega, by omega, by omega, HAl.out, HF.out, R0.out, R1.out, HO.out, HBl.out, by omega, va, vc, by rw [hnn], by rw [hnn]; exact HV.out⟩
          case measure => simp [intOf]; omega
    · have HQ2 : R = some acc := by
        have := HQ.out
        rw [List.drop_eq_nil_of_le (by rw [bl_len]; omega), spQ] at this
        exact this.symm
      cases acc with
      | nil =>
        have HF : Hid (oidR s = ([], 3)) := HE.out HQ2
        clear HQ HQ2
        go_wp2_with fail
        refine bodyPost_ret (v := .agg #[.slice none 0 0, .int .i64 3]) (by simp [results, Tryd.results27, go_sem, c0, c1]) rfl ⟨.slice none 0 0, ?_, ?_, ?_⟩
        · rw [HF.out]
        · rw [HF.out]; exact ownL_nil _ _
        · repeat (first | exact HBl.out | refine Below.setCell ?_ (by simp) _)
      | cons h t =>
        have HGd : Hid (arcsB (two h ++ natI t) = true → nats (oidL (two h ++ natI t)) = bl s → oidR s = (two h ++ natI t, 0)) := HG.out h t HQ2
        have HBd : Hid ((arcsB (two h ++ natI t) = false ∨ nats (oidL (two h ++ natI t)) ≠ bl s) → oidR s = ([], 3)) := HB.out h t HQ2
        clear HQ HQ2 HN HE HG HB
        have hI := OwnL.ints HO.out
        obtain ⟨gb, go', rfl, hcell⟩ := hI.at (by simp [natI])
        have hgl : gb < wr.heap.size := World.block_lt_of_cell? wr _ (hcell 0 (by simp [natI]))
        have k0 : wr.cell? ⟨gb, go', none⟩ = some (.int .i64 (h : Int)) := by
          have := hcell 0 (by simp [natI])
          simpa [natI, List.getD] using this
        have hlow : h ≤ 2147483647 := HAl.out h (by simp)
        obtain ⟨a, ha⟩ : ∃ a : Nat, a = min (h / 40) 2 := ⟨_, rfl⟩
        obtain ⟨b, hb⟩ : ∃ b : Nat, b = h - 40 * a := ⟨_, rfl⟩
        have H2 : Hid (two h = [(a : Int), (b : Int)]) := by
          show _ = _
          unfold two
          rw [← ha]
          congr 2; omega
        have e1 : min 2 ((h : Int) / 40) = (a : Int) := by omega
        have e2 : (h : Int) - 40 * (a : Int) = (b : Int) := by omega
        have ha2 : a ≤ 2 := by omega
        have HT : Hid (∀ W, Below w.heap.size w W → Below wr.heap.size wr W → ∀ i u, (lCells (natI t))[i]? = some u → W.cell? ⟨gb, go' + 1 + i, none⟩ = some u) := fun W _ hW i u hu => by
          rw [hW.cell (p := ⟨gb, go' + 1 + i, none⟩) hgl]
          have hil : i < t.length := by
            rcases Nat.lt_or_ge i t.length with h' | h'
            · exact h'
            · rw [List.getElem?_eq_none (by simpa [lCells, natI] using h')] at hu; cases hu
          have := hcell (i + 1) (by simp [natI]; omega)
          rw [show go' + (i + 1) = go' + 1 + i from by omega] at this
          rw [this, ← hu]
          simp [lCells, natI, List.getD, List.getElem?_eq_getElem hil]
        obtain ⟨n, hn⟩ : ∃ n, n = t.length := ⟨_, rfl⟩
        rw [List.length_cons, ← hn] at hal hcap HO ⊢
        have HNn : Hid (n = t.length) := hn
        clear hcell hI hn ha hb HAl
        go_wp2_with fail
        refine (specMin _ _ _).mono ?_
        rintro e w2 ⟨rfl, hw2⟩
        rw [e1, hw2]
        clear hw2
        go_wp2_with fail
        have i1 : (0 : Int) < ((n + 1 : Nat) : Int) := by omega
        have i2 : (0 : Int) < (n : Int) + 1 := by omega
        have i3 : (1 : Int) ≤ (n : Int) + 1 := by omega
        have ew : IntKind.i64.wrap (40 * (a : Int)) = 40 * (a : Int) := by rw [IntKind.wrap_i64]; omega
        have ew2 : IntKind.i64.wrap (b : Int) = (b : Int) := by rw [IntKind.wrap_i64]; omega
        have hlit := World.ownsRow_lit (base := w.heap.size + 2) (e := 2) (size := 1) wr #[.int .i64 (a : Int), .int .i64 (b : Int)] 2 hsz (by decide) rfl
        by_cases hv1 : vc = 1
        · obtain rfl : n = 0 := by omega
          subst hv1
          go_region_law ((refine step_append_any (by rfl) _ _ _ (by rfl) (w.heap.size + 2) 2 i0 (.int .i64 0) 1 8 Tryd.underlying41 hi hz0 hz1 hz2 rfl (by decide) _ _ _ (by rfl) (hlit.drew) ⟨gb, go', none⟩ 0 0 [] (by rfl) (by rfl) (fun j u hu => by simp at hu) (by simp) (by unfold maxLen; omega) (by omega) (by simp; omega) ?_; intro v' w3 hown' hgrow hnil))
          have HO3 : Hid (OwnL w3 (w.heap.size + 2) v' (two h ++ natI t)) := by
            obtain rfl : t = [] := List.eq_nil_of_length_eq_zero HNn.out.symm
            show World.ownsRow _ _ _ _ _ _ _
            rw [H2.out]
            exact hown'
          have hlt2 := fun k hk => hlit.lt k hk
          have hB3 : Below w.heap.size w w3 := ((HBl.out.alloc (by omega) _).drew).grown hgrow (by simp; omega) (fun k hk => by have := (hlt2 k hk).1; omega)
          have hs3 : wr.heap.size + 1 ≤ w3.heap.size := by have := hgrow.size; simp at this; omega
          have R03 : Hid (w3.heap[w.heap.size]? = some (.cells [.slice none 0 0, .int .i64 0].toArray 50 (0, 0))) := by
            show _ = _
            rw [hgrow.block _ (by simp; omega) (fun e => by have := (hlt2 _ e.symm).1; omega)]
            show (wr.alloc _).heap[w.heap.size]? = _
            rw [Below.heap_alloc _ _ _ (by omega)]
            exact R0.out
          have R13 : Hid (w3.heap[w.heap.size + 1]? = some (.cells [.slice none 0 0, .int .i64 3].toArray 50 (0, 0))) := by
            show _ = _
            rw [hgrow.block _ (by simp; omega) (fun e => by have := (hlt2 _ e.symm).1; omega)]
            show (wr.alloc _).heap[w.heap.size + 1]? = _
            rw [Below.heap_alloc _ _ _ (by omega)]
            exact R1.out
          have HB3 : Hid (Below w.heap.size w w3) := hB3
          obtain ⟨z, hzz⟩ : ∃ z, z = two h ++ natI t := ⟨_, rfl⟩
          rw [← hzz] at HGd HBd HO3
          obtain ⟨xa, xc, rfl, hxc⟩ := OwnL.form HO3.out
          have hz11 : z.length ≤ 13 := by have := HNn.out; rw [hzz, H2.out]; simp [natI]; omega
          have HI3 : Hid (IsInts w3 xa z) := OwnL.ints HO3.out
          have HAr : Hid (Calls Tryd.prog 48 #[.slice xa z.length xc] w3 fun e w' => e = .returned (.bool (arcsB z)) ∧ w' = w3) := specArcs xa z xc w3 (by omega) HI3.out
          clear hown' hgrow hnil hB3 hlit hlt2 c0 c1 d0 d1 f0 f1 g0 g1 k0 H2 HT i1 i2 i3 ew ew2 e1 e2 hzz HNn
          cases hab : arcsB z with
          | false =>
            have HF : Hid (oidR s = ([], 3)) := HBd.out (.inl hab)
            rw [hab] at HAr
            obtain ⟨⟨c0, c1⟩, f0, f1⟩ := cells2 R03.out
            obtain ⟨⟨d0, d1⟩, g0, g1⟩ := cells2 R13.out
            generalize z.length = zn at *
            go_wp2_with fail
            refine HAr.out.mono ?_
            rintro e w4 ⟨rfl, rfl⟩
            go_wp2_with fail
            refine bodyPost_ret (v := .agg #[.slice none 0 0, .int .i64 3]) (by simp [results, Tryd.results27, go_sem, c0, c1]) rfl ⟨.slice none 0 0, ?_, ?_, ?_⟩
            · rw [HF.out]
            · rw [HF.out]; exact ownL_nil _ _
            · repeat (first | exact HB3.out | refine Below.setCell ?_ (by simp) _)
          | true =>
            rw [hab] at HAr
            have HOi : Hid (∀ V, Below w3.heap.size w3 V → Calls Tryd.prog 49 #[.slice xa z.length xc] V fun e w' => e = .returned (.string (thingD 6 (strOfNums (oidL z)))) ∧ Below V.heap.size V w') := fun V hV => specOid xa z xc V hab (HI3.out.below hV HI3.out.lt)
            have HPu : Hid (∀ V : World, Calls Tryd.prog 34 #[.int .i64 6, .string s] V fun e w' => e = .returned (.string (thingD 6 s)) ∧ Below V.heap.size V w') := fun V => specThing 6 s V (by decide) (by decide) (by omega)
            have HT1 : Hid (∀ V, Hid (Below w3.heap.size w3 V) → Calls Tryd.prog 49 #[.slice xa z.length xc] V fun e W => e = .returned (.string (thingD 6 (strOfNums (oidL z)))) ∧ Hid (Below w3.heap.size w3 W)) := fun V hV => by
              refine (HOi.out V hV.out).mono ?_
              rintro e W ⟨rfl, hW⟩
              exact ⟨rfl, hV.out.trans (hW.mono hV.out.size)⟩
            have HT2 : Hid (∀ V, Hid (Below w3.heap.size w3 V) → Calls Tryd.prog 34 #[.int .i64 6, .string s] V fun e W => e = .returned (.string (thingD 6 s)) ∧ Hid (Below w3.heap.size w3 W)) := fun V hV => by
              refine (HPu.out V).mono ?_
              rintro e W ⟨rfl, hW⟩
              exact ⟨rfl, hV.out.trans (hW.mono hV.out.size)⟩
            have HD : Hid (Below w3.heap.size w3 w3.drew) := (Below.refl _ w3).drew
            have HGo : Hid (thingD 6 (strOfNums (oidL z)) = thingD 6 s → oidR s = (z, 0)) := fun e => HGd.out hab ((str_iff z s).1 (thingD_inj e))
            have HBo : Hid (thingD 6 (strOfNums (oidL z)) ≠ thingD 6 s → oidR s = ([], 3)) := fun e => HBd.out (.inr (fun e' => e (by rw [(str_iff z s).2 e'])))
            generalize thingD 6 (strOfNums (oidL z)) = q1 at *
            generalize thingD 6 s = q2 at *
            obtain ⟨zn, hzn⟩ : ∃ zn, zn = z.length := ⟨_, rfl⟩
            rw [← hzn] at HAr HT1 HO3 hz11 hxc ⊢
            have hst := same_textS q1 q2
            clear HOi HPu HGd HBd HI3 hzn
            go_wp2_with fail
            refine HAr.out.mono ?_
            rintro e w4 ⟨rfl, hw4⟩
            rw [hw4]
            clear hw4
            go_wp2_with fail
            refine (HT1.out _ (Below.refl _ _)).mono ?_
            rintro e w5 ⟨rfl, b5⟩
            go_wp2_with fail
            refine (HT2.out _ b5).mono ?_
            rintro e w6 ⟨rfl, b6⟩
            have hb6 := b6.out
            have R06 : w6.heap[w.heap.size]? = some (.cells [.slice none 0 0, .int .i64 0].toArray 50 (0, 0)) := by rw [hb6.block _ (by omega)]; exact R03.out
            have R16 : w6.heap[w.heap.size + 1]? = some (.cells [.slice none 0 0, .int .i64 3].toArray 50 (0, 0)) := by rw [hb6.block _ (by omega)]; exact R13.out
            have O6 : Hid (OwnL w6 (w.heap.size + 2) (.slice xa zn xc) z) := OwnL.keep HO3.out hb6
            have B6 : Hid (Below w.heap.size w w6) := HB3.out.trans (hb6.mono (by omega))
            obtain ⟨⟨c0, c1⟩, f0, f1⟩ := cells2 R06
            obtain ⟨⟨d0, d1⟩, g0, g1⟩ := cells2 R16
            clear hb6 b6 b5 R06 R16 HT1 HT2 HD HAr
            by_cases hqq : q1 = q2
            · have HF : Hid (oidR s = (z, 0)) := HGo.out hqq
              rw [decide_eq_true hqq] at hst
              clear hqq d0 d1 g0 g1
              go_wp2_with fail
              refine bodyPost_ret (v := .agg #[.slice xa zn xc, .int .i64 0]) (by simp [results, Tryd.results27, go_sem, c0, c1]) rfl ⟨.slice xa zn xc, ?_, ?_, ?_⟩
              · rw [HF.out]
              · rw [HF.out]
                exact (OwnL.other (OwnL.other O6.out (by omega)) (by omega)).mono (by omega)
              · repeat (first | exact B6.out | refine Below.setCell ?_ (by simp) _)
            · have HF : Hid (oidR s = ([], 3)) := HBo.out hqq
              rw [decide_eq_false hqq] at hst
              clear hqq
              go_wp2_with fail
              refine bodyPost_ret (v := .agg #[.slice none 0 0, .int .i64 3]) (by simp [results, Tryd.results27, go_sem, c0, c1]) rfl ⟨.slice none 0 0, ?_, ?_, ?_⟩
              · rw [HF.out]
              · rw [HF.out]; exact ownL_nil _ _
              · repeat (first | exact B6.out | refine Below.setCell ?_ (by simp) _)
        · have HTd : Hid (∀ j u, (lCells (natI t))[j]? = some u → ((wr.alloc (.cells #[.int .i64 (a : Int), .int .i64 (b : Int)] 2)).drew).cell? ((⟨gb, go' + 1, none⟩ : Addr).add j) = some u) := fun j u hu => by
            rw [Addr.add_lit]
            exact HT.out _ ((HBl.out.alloc (by omega) _).drew) (((Below.refl _ wr).alloc (Nat.le_refl _) _).drew) j u hu
          go_region_law ((refine step_append_any (by rfl) _ _ _ (by rfl) (w.heap.size + 2) 2 i0 (.int .i64 0) 1 8 Tryd.underlying41 hi hz0 hz1 hz2 rfl (by decide) _ _ _ (by rfl) (hlit.drew) ⟨gb, go' + 1, none⟩ n (vc - 1) (lCells (natI t)) (by rfl) (by rw [HNn.out]; simp [lCells, natI]) (HTd.out) (by intro u hu; exact oneCell_ints .i64 _ u hu) (by unfold maxLen; omega) (by omega) (by simp; omega) ?_; intro v' w3 hown' hgrow hnil))
          have HO3 : Hid (OwnL w3 (w.heap.size + 2) v' (two h ++ natI t)) := by
            show World.ownsRow _ _ _ _ _ _ _
            rw [H2.out]
            have e9 : 2 + n = ([(a : Int), (b : Int)] ++ natI t).length := by rw [HNn.out]; simp [natI]; omega
            rw [← e9]
            exact hown'
          have hlt2 := fun k hk => hlit.lt k hk
          have hB3 : Below w.heap.size w w3 := ((HBl.out.alloc (by omega) _).drew).grown hgrow (by simp; omega) (fun k hk => by have := (hlt2 k hk).1; omega)
          have hs3 : wr.heap.size + 1 ≤ w3.heap.size := by have := hgrow.size; simp at this; omega
          have R03 : Hid (w3.heap[w.heap.size]? = some (.cells [.slice none 0 0, .int .i64 0].toArray 50 (0, 0))) := by
            show _ = _
            rw [hgrow.block _ (by simp; omega) (fun e => by have := (hlt2 _ e.symm).1; omega)]
            show (wr.alloc _).heap[w.heap.size]? = _
            rw [Below.heap_alloc _ _ _ (by omega)]
            exact R0.out
          have R13 : Hid (w3.heap[w.heap.size + 1]? = some (.cells [.slice none 0 0, .int .i64 3].toArray 50 (0, 0))) := by
            show _ = _
            rw [hgrow.block _ (by simp; omega) (fun e => by have := (hlt2 _ e.symm).1; omega)]
            show (wr.alloc _).heap[w.heap.size + 1]? = _
            rw [Below.heap_alloc _ _ _ (by omega)]
            exact R1.out
          have HB3 : Hid (Below w.heap.size w w3) := hB3
          obtain ⟨z, hzz⟩ : ∃ z, z = two h ++ natI t := ⟨_, rfl⟩
          rw [← hzz] at HGd HBd HO3
          obtain ⟨xa, xc, rfl, hxc⟩ := OwnL.form HO3.out
          have hz11 : z.length ≤ 13 := by have := HNn.out; rw [hzz, H2.out]; simp [natI]; omega
          have HI3 : Hid (IsInts w3 xa z) := OwnL.ints HO3.out
          have HAr : Hid (Calls Tryd.prog 48 #[.slice xa z.length xc] w3 fun e w' => e = .returned (.bool (arcsB z)) ∧ w' = w3) := specArcs xa z xc w3 (by omega) HI3.out
          clear hown' hgrow hnil hB3 hlit hlt2 c0 c1 d0 d1 f0 f1 g0 g1 k0 H2 HT i1 i2 i3 ew ew2 e1 e2 hzz HNn
          cases hab : arcsB z with
          | false =>
            have HF : Hid (oidR s = ([], 3)) := HBd.out (.inl hab)
            rw [hab] at HAr
            obtain ⟨⟨c0, c1⟩, f0, f1⟩ := cells2 R03.out
            obtain ⟨⟨d0, d1⟩, g0, g1⟩ := cells2 R13.out
            generalize z.length = zn at *
            go_wp2_with fail
            refine HAr.out.mono ?_
            rintro e w4 ⟨rfl, rfl⟩
            go_wp2_with fail
            refine bodyPost_ret (v := .agg #[.slice none 0 0, .int .i64 3]) (by simp [results, Tryd.results27, go_sem, c0, c1]) rfl ⟨.slice none 0 0, ?_, ?_, ?_⟩
            · rw [HF.out]
            · rw [HF.out]; exact ownL_nil _ _
            · repeat (first | exact HB3.out | refine Below.setCell ?_ (by simp) _)
          | true =>
            rw [hab] at HAr
            have HOi : Hid (∀ V, Below w3.heap.size w3 V → Calls Tryd.prog 49 #[.slice xa z.length xc] V fun e w' => e = .returned (.string (thingD 6 (strOfNums (oidL z)))) ∧ Below V.heap.size V w') := fun V hV => specOid xa z xc V hab (HI3.out.below hV HI3.out.lt)
            have HPu : Hid (∀ V : World, Calls Tryd.prog 34 #[.int .i64 6, .string s] V fun e w' => e = .returned (.string (thingD 6 s)) ∧ Below V.heap.size V w') := fun V => specThing 6 s V (by decide) (by decide) (by omega)
            have HT1 : Hid (∀ V, Hid (Below w3.heap.size w3 V) → Calls Tryd.prog 49 #[.slice xa z.length xc] V fun e W => e = .returned (.string (thingD 6 (strOfNums (oidL z)))) ∧ Hid (Below w3.heap.size w3 W)) := fun V hV => by
              refine (HOi.out V hV.out).mono ?_
              rintro e W ⟨rfl, hW⟩
              exact ⟨rfl, hV.out.trans (hW.mono hV.out.size)⟩
            have HT2 : Hid (∀ V, Hid (Below w3.heap.size w3 V) → Calls Tryd.prog 34 #[.int .i64 6, .string s] V fun e W => e = .returned (.string (thingD 6 s)) ∧ Hid (Below w3.heap.size w3 W)) := fun V hV => by
              refine (HPu.out V).mono ?_
              rintro e W ⟨rfl, hW⟩
              exact ⟨rfl, hV.out.trans (hW.mono hV.out.size)⟩
            have HD : Hid (Below w3.heap.size w3 w3.drew) := (Below.refl _ w3).drew
            have HGo : Hid (thingD 6 (strOfNums (oidL z)) = thingD 6 s → oidR s = (z, 0)) := fun e => HGd.out hab ((str_iff z s).1 (thingD_inj e))
            have HBo : Hid (thingD 6 (strOfNums (oidL z)) ≠ thingD 6 s → oidR s = ([], 3)) := fun e => HBd.out (.inr (fun e' => e (by rw [(str_iff z s).2 e'])))
            generalize thingD 6 (strOfNums (oidL z)) = q1 at *
            generalize thingD 6 s = q2 at *
            obtain ⟨zn, hzn⟩ : ∃ zn, zn = z.length := ⟨_, rfl⟩
            rw [← hzn] at HAr HT1 HO3 hz11 hxc ⊢
            have hst := same_textS q1 q2
            clear HOi HPu HGd HBd HI3 hzn
            go_wp2_with fail
            refine HAr.out.mono ?_
            rintro e w4 ⟨rfl, hw4⟩
            rw [hw4]
            clear hw4
            go_wp2_with fail
            refine (HT1.out _ (Below.refl _ _)).mono ?_
            rintro e w5 ⟨rfl, b5⟩
            go_wp2_with fail
            refine (HT2.out _ b5).mono ?_
            rintro e w6 ⟨rfl, b6⟩
            have hb6 := b6.out
            have R06 : w6.heap[w.heap.size]? = some (.cells [.slice none 0 0, .int .i64 0].toArray 50 (0, 0)) := by rw [hb6.block _ (by omega)]; exact R03.out
            have R16 : w6.heap[w.heap.size + 1]? = some (.cells [.slice none 0 0, .int .i64 3].toArray 50 (0, 0)) := by rw [hb6.block _ (by omega)]; exact R13.out
            have O6 : Hid (OwnL w6 (w.heap.size + 2) (.slice xa zn xc) z) := OwnL.keep HO3.out hb6
            have B6 : Hid (Below w.heap.size w w6) := HB3.out.trans (hb6.mono (by omega))
            obtain ⟨⟨c0, c1⟩, f0, f1⟩ := cells2 R06
            obtain ⟨⟨d0, d1⟩, g0, g1⟩ := cells2 R16
            clear hb6 b6 b5 R06 R16 HT1 HT2 HD HAr
            by_cases hqq : q1 = q2
            · have HF : Hid (oidR s = (z, 0)) := HGo.out hqq
              rw [decide_eq_true hqq] at hst
              clear hqq d0 d1 g0 g1
              go_wp2_with fail
              refine bodyPost_ret (v := .agg #[.slice xa zn xc, .int .i64 0]) (by simp [results, Tryd.results27, go_sem, c0, c1]) rfl ⟨.slice xa zn xc, ?_, ?_, ?_⟩
              · rw [HF.out]
              · rw [HF.out]
                exact (OwnL.other (OwnL.other O6.out (by omega)) (by omega)).mono (by omega)
              · repeat (first | exact B6.out | refine Below.setCell ?_ (by simp) _)
            · have HF : Hid (oidR s = ([], 3)) := HBo.out hqq
              rw [decide_eq_false hqq] at hst
              clear hqq
              go_wp2_with fail
              refine bodyPost_ret (v := .agg #[.slice none 0 0, .int .i64 3]) (by simp [results, Tryd.results27, go_sem, c0, c1]) rfl ⟨.slice none 0 0, ?_, ?_, ?_⟩
              · rw [HF.out]
              · rw [HF.out]; exact ownL_nil _ _
              · repeat (first | exact B6.out | refine Below.setCell ?_ (by simp) _)
end Go.Proofs.YtjllcflnmopnpaaDoor
namespace Go.Proofs.YtjllcflnmopnpaaDoor
open Go.RowKit

/-- The source at block g: its bytes, how many are read, its mix, its size. -/
def SrcAt (g : Nat) (a : Option Addr) (len cap : Nat) (w : World) : Prop :=
  ∃ (p m z : Nat), p ≤ len ∧ m ≤ 18446744073709551615 ∧ z ≤ 12 ∧ w.heap[g]? = some (.cells #[.slice a len cap, .int .i64 p, .int .u64 m, .int .i64 z] 87 (0, 0))
/-- Its bytes can be read. -/
def CodeAt (a : Option Addr) (len : Nat) (w : World) : Prop :=
  len = 0 ∨ ∃ b off, a = some ⟨b, off, none⟩ ∧ ∀ i, i < len → ∃ z : Nat, z ≤ 255 ∧ w.cell? ⟨b, off + i, none⟩ = some (.int .u8 z)
theorem xor_bd (a b : Nat) (ha : a ≤ 18446744073709551615) (hb : b ≤ 18446744073709551615) : ∃ m : Nat, m ≤ 18446744073709551615 ∧ bits BinOp.xor IntKind.u64 (a : Int) (b : Int) = (m : Int) := by
  refine ⟨a ^^^ b, ?_, u64_xor_nat a b (by omega) (by omega)⟩
  have := Nat.xor_lt_two_pow (x := a) (y := b) (n := 64) (by omega) (by omega)
  omega
theorem wrap_bd (x : Int) : ∃ m : Nat, m ≤ 18446744073709551615 ∧ IntKind.u64.wrap x = (m : Int) := by
  rw [IntKind.wrap_u64]
  exact ⟨(x % 18446744073709551616).toNat, by omega, by omega⟩
theorem set2 (W : World) (x : Addr) (v1 v2 : Value) (h : (W.cell? x).isSome = true) : ((W.setCell x v1).setCell x v2).cell? x = some v2 := by
  have h1 := World.cell?_setCell_same' W x v1 h
  exact World.cell?_setCell_same' _ x v2 (by rw [h1]; rfl)
theorem set3 (W : World) (x : Addr) (v1 v2 v3 : Value) (h : (W.cell? x).isSome = true) : (((W.setCell x v1).setCell x v2).setCell x v3).cell? x = some v3 := by
  exact World.cell?_setCell_same' _ x v3 (by rw [set2 W x v1 v2 h]; rfl)
/-- The frame of a call that turns block g alone. -/
def Turns (g : Nat) (w w' : World) : Prop := w.grownBy w' (some g) ∧ w'.heap.size = w.heap.size
theorem Turns.refl (g : Nat) (w : World) : Turns g w w := ⟨World.grownBy.refl _ _, rfl⟩
theorem Turns.trans {g : Nat} {a b c : World} (h : Turns g a b) (k : Turns g b c) : Turns g a c :=
  ⟨⟨k.1.os.trans h.1.os, k.1.tape.trans h.1.tape, k.1.output.trans h.1.output, by rw [k.2, h.2]; exact Nat.le_refl _, fun j hj hn => (k.1.block j (by rw [h.2]; exact hj) hn).trans (h.1.block j hj hn)⟩, k.2.trans h.2⟩
theorem Turns.setCell {g : Nat} {a w : World} (h : Turns g a w) (j : Nat) (v : Value) : Turns g a (w.setCell ⟨g, j, none⟩ v) :=
  ⟨⟨h.1.os, h.1.tape, h.1.output, by simpa using h.1.size, fun k hk hn => (Below.heap_setCell _ _ _ _ (fun e => hn (by simp [e]))).trans (h.1.block k hk hn)⟩, by simpa using h.2⟩
theorem Turns.drew {g : Nat} {a w : World} (h : Turns g a w) : Turns g a w.drew := ⟨⟨h.1.os, h.1.tape, h.1.output, h.1.size, h.1.block⟩, h.2⟩
theorem Turns.drewN {g : Nat} {a w : World} (h : Turns g a w) (n : Nat) : Turns g a (w.drewN n) := ⟨⟨h.1.os, h.1.tape, h.1.output, h.1.size, h.1.block⟩, h.2⟩
theorem Turns.below {g B : Nat} {a w w' : World} (h : Turns g w w') (hb : Below B a w) (hB : B ≤ g) (hs : B ≤ w.heap.size) : Below B a w' :=
  hb.grown h.1 hs (fun k hk => by cases hk; exact hB)
theorem below_max (x : Int) (n most : Nat) (h : x = ((n % most : Nat) : Int)) (hm : most ≤ 4611686018427387904) (h1 : 1 < most) : wrap64 x = ((n % most : Nat) : Int) := by
  have := Nat.mod_lt n (show 0 < most by omega)
  rw [h]
  simp only [wrap64]
  omega
theorem modCast (y m most : Nat) : ((y : Int) + (m : Int) / 1048576) % (most : Int) = (((y + m / 1048576) % most : Nat) : Int) := by
  rw [Int.natCast_emod, Int.natCast_add, Int.natCast_ediv]
  rfl

set_option maxHeartbeats 2000000 in
set_option maxRecDepth 100000 in
theorem srcN (g : Nat) (a : Option Addr) (len cap : Nat) (most : Nat) (w : World) (hlen : len ≤ 1048576) (hm : most ≤ 4611686018427387904) (hs : SrcAt g a len cap w) (hc : CodeAt a len w) (hne : ∀ x, 0 < len → a = some x → x.block ≠ g) :
    Calls Tryd.prog 29 #[.pointer (some ⟨g, 0, none⟩), .int .i64 (most : Int)] w fun e w' =>
      ∃ r : Nat, e = .returned (.int .i64 (r : Int)) ∧ (r < most ∨ r = 0) ∧ SrcAt g a len cap w' ∧ Turns g w w' := by
  by_cases h1 : most ≤ 1
  · go_enter Tryd.func29, Tryd.ntmps29
    go_wp2
    go_ret
    exact ⟨0, rfl, .inr rfl, hs, World.grownBy.refl _ _, rfl⟩
  obtain ⟨p, m, z, hp, hm0, hz, hg⟩ := hs
  have c0 := cell_of_row w g 0 _ _ (0, 0) hg
  have c1 := cell_of_row w g 1 _ _ (0, 0) hg
  have c2 := cell_of_row w g 2 _ _ (0, 0) hg
  have f1 := frozen_of_row w g 1 _ _ hg
  have f2 := frozen_of_row w g 2 _ _ hg
  simp at c0 c1 c2
  obtain ⟨x1, hx1, ew1⟩ := wrap_bd ((m : Int) * 8192)
  obtain ⟨m1, hm1, em1⟩ := xor_bd m x1 hm0 hx1
  obtain ⟨m2, hm2, em2⟩ := xor_bd m1 (m1 / 128) hm1 (by omega)
  rw [show ((m1 / 128 : Nat) : Int) = (m1 : Int) / 128 from by omega] at em2
  obtain ⟨x3, hx3, ew3⟩ := wrap_bd ((m2 : Int) * 131072)
  obtain ⟨m3, hm3, em3⟩ := xor_bd m2 x3 hm2 hx3
  have k2 := fun W h => set2 W ⟨g, 2, none⟩ (.int .u64 (m1 : Int)) (.int .u64 (m2 : Int)) h
  have k3 := fun W h => set3 W ⟨g, 2, none⟩ (.int .u64 (m1 : Int)) (.int .u64 (m2 : Int)) (.int .u64 (m3 : Int)) h
  have HG : Hid (w.heap[g]? = some (.cells #[.slice a len cap, .int .i64 p, .int .u64 m, .int .i64 z] 87 (0, 0))) := hg
  clear hg
  by_cases hpl : p < len
  · obtain ⟨b, off, rfl, hcell⟩ : ∃ b off, a = some ⟨b, off, none⟩ ∧ ∀ i, i < len → ∃ z : Nat, z ≤ 255 ∧ w.cell? ⟨b, off + i, none⟩ = some (.int .u8 z) := by
      rcases hc with h | h
      · omega
      · exact h
    obtain ⟨y, hy, hyc⟩ := hcell p hpl
    have hb := hne _ (by omega) rfl
    have q1 : (0 : Int) ≤ (p : Int) := Int.natCast_nonneg _
    have q2 : (p : Int) < (len : Int) := by omega
    clear hcell hc hne
    go_enter Tryd.func29, Tryd.ntmps29
    go_wp2
    go_quiet (fail)
    go_wp2
    go_quiet (fail)
    go_wp2
    go_region
    go_wp2
    go_region
    go_wp2
    go_region
    go_wp2
    go_ret
    refine ⟨(y + m3 / 1048576) % most, ret_int (below_max _ _ _ (modCast _ _ _) hm (by omega)), .inl (Nat.mod_lt _ (by omega)), ⟨p + 1, m3, z, by omega, hm3, hz, ?_⟩, ?_⟩
    · have h1 := heap_setCell_same w g 1 _ _ (.int .i64 ((p : Int) + 1)) HG.out
      have h2 := heap_setCell_same _ g 2 _ _ (.int .u64 (m1 : Int)) h1
      have h3 := heap_setCell_same _ g 2 _ _ (.int .u64 (m2 : Int)) h2
      have h4 := heap_setCell_same _ g 2 _ _ (.int .u64 (m3 : Int)) h3
      exact h4
    · repeat (first | exact Turns.refl _ _ | refine Turns.drew ?_ | refine Turns.drewN ?_ _ | refine Turns.setCell ?_ _ _)
  · have q2 : (len : Int) ≤ (p : Int) := by omega
    clear hc hne
    go_enter Tryd.func29, Tryd.ntmps29
    go_wp2
    go_quiet (fail)
    go_wp2
    go_region
    go_wp2
    go_region
    go_wp2
    go_region
    go_wp2
    go_ret
    refine ⟨(0 + m3 / 1048576) % most, ret_int (below_max _ _ _ (by have := modCast 0 m3 most; rw [Int.natCast_zero, Int.zero_add] at this; exact this) hm (by omega)), .inl (Nat.mod_lt _ (by omega)), ⟨p, m3, z, hp, hm3, hz, ?_⟩, ?_⟩
    · have h2 := heap_setCell_same w g 2 _ _ (.int .u64 (m1 : Int)) HG.out
      have h3 := heap_setCell_same _ g 2 _ _ (.int .u64 (m2 : Int)) h2
      have h4 := heap_setCell_same _ g 2 _ _ (.int .u64 (m3 : Int)) h3
      exact h4
    · repeat (first | exact Turns.refl _ _ | refine Turns.drew ?_ | refine Turns.drewN ?_ _ | refine Turns.setCell ?_ _ _)
end Go.Proofs.YtjllcflnmopnpaaDoor
