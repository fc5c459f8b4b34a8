/- The draws, each as a step from a source at work to a source at work. 'spec.DrawDerGet', walked. 'spec.DrawDerAll', walked. 'spec.DrawDerIntRead', walked. 'spec.DrawDerOidRead', walked, off what 'spec.DrawDerOid' holds. -/
import Derived.Test.YtjllcflnmopnpaaDoorM10
import Derived.Test.YtjllcflnmopnpaaDoorM02
import Derived.Deep.RegionWith
import Derived.Test.YtjllcflnmopnpaaDoorM05
import Derived.Test.YtjllcflnmopnpaaDoorM08
import Derived.Laws.IdiomStrings
namespace Go.Proofs.YtjllcflnmopnpaaDoor
open Go.RowKit

/-- A source at work, that stands in the first block behind w. -/
def SS (w : World) (a : Option Addr) (len cap : Nat) (W : World) : Prop := Src w.heap.size a len cap W ∧ Below w.heap.size w W ∧ w.heap.size < W.heap.size ∧ ∀ x, 0 < len → a = some x → x.block < w.heap.size
section
variable {w W W' : World} {a : Option Addr} {len cap : Nat}
theorem SS.blk (h : SS w a len cap W) : ∀ x, 0 < len → a = some x → x.block < W.heap.size := fun x h0 hx => by
  have h1 := h.2.2.2 x h0 hx
  have h2 := h.2.2.1
  omega
theorem SS.keep (h : SS w a len cap W) (hb : Below W.heap.size W W') : SS w a len cap W' :=
  ⟨h.1.below hb h.2.2.1 h.blk, h.2.1.trans (hb.mono (Nat.le_of_lt h.2.2.1)), Nat.lt_of_lt_of_le h.2.2.1 hb.size, h.2.2.2⟩
theorem SS.alloc (h : SS w a len cap W) (o : Obj) : SS w a len cap (W.alloc o) := h.keep ((Below.refl _ _).alloc (Nat.le_refl _) o)
theorem SS.grows (h : SS w a len cap W) (h1 : Src w.heap.size a len cap W') (hg : Grows w.heap.size W W') : SS w a len cap W' :=
  ⟨h1, hg.below h.2.1 (Nat.le_refl _) (Nat.le_of_lt h.2.2.1), Nat.lt_of_lt_of_le h.2.2.1 hg.size, h.2.2.2⟩
theorem ss_source (a : Option Addr) (len cap : Nat) (w : World) (hlen : len ≤ 1048576) (hc : CodeAt a len w) (hblk : ∀ x, 0 < len → a = some x → x.block < w.heap.size) :
    Calls Tryd.prog 28 #[.slice a len cap] w fun e w' => e = .returned (.pointer (some ⟨w.heap.size, 0, none⟩)) ∧ SS w a len cap w' := by
  refine (source_any a len cap w hlen hc hblk).mono ?_
  rintro e w1 ⟨rfl, hs1, hb1, hz1⟩
  exact ⟨rfl, hs1, hb1, by omega, hblk⟩
theorem ss_n (most : Nat) (hm : most ≤ 4611686018427387904) (h : SS w a len cap W) :
    Calls Tryd.prog 29 #[.pointer (some ⟨w.heap.size, 0, none⟩), .int .i64 (most : Int)] W fun e w' => ∃ r : Nat, e = .returned (.int .i64 (r : Int)) ∧ (r < most ∨ r = 0) ∧ SS w a len cap w' ∧ (∀ b, b ≠ w.heap.size → b < W.heap.size → w'.heap[b]? = W.heap[b]?) := by
  refine (n_any w.heap.size a len cap most W hm h.1).mono ?_
  rintro e w' ⟨r, rfl, hr, h1, h2⟩
  exact ⟨r, rfl, hr, h.grows h1 h2.grows, fun b hb hl => h2.1.block b hl (by intro e; exact hb (Option.some.inj e))⟩
theorem ss_one (most : Nat) (hm : most ≤ 4611686018427387904) (h : SS w a len cap W) :
    Calls Tryd.prog 41 #[.pointer (some ⟨w.heap.size, 0, none⟩), .int .i64 (most : Int)] W fun e w' => AnyB e ∧ SS w a len cap w' := by
  refine (one_any w.heap.size a len cap most W hm h.1).mono ?_
  rintro e w' ⟨hb, h1, h2⟩
  exact ⟨hb, h.grows h1 h2.grows⟩
theorem ss_bytes (k : Nat) (hk : k ≤ 100000) (h : SS w a len cap W) :
    Calls Tryd.prog 38 #[.pointer (some ⟨w.heap.size, 0, none⟩), .int .i64 (k : Int)] W fun e w' => AnyT k e ∧ SS w a len cap w' := by
  refine (bytes_any w.heap.size a len cap k W hk h.1 h.blk).mono ?_
  rintro e w' ⟨hb, h1, h2⟩
  exact ⟨hb, h.grows h1 h2⟩
theorem ss_some (h : SS w a len cap W) :
    Calls Tryd.prog 30 #[.pointer (some ⟨w.heap.size, 0, none⟩)] W fun e w' => UpT 4001 e ∧ SS w a len cap w' := by
  refine (some_any w.heap.size a len cap W h.1 h.blk).mono ?_
  rintro e w' ⟨hb, h1, h2⟩
  exact ⟨hb, h.grows h1 h2⟩
theorem ss_edge (h : SS w a len cap W) :
    Calls Tryd.prog 42 #[.pointer (some ⟨w.heap.size, 0, none⟩)] W fun e w' => AnyI e ∧ SS w a len cap w' := by
  refine (edge_any w.heap.size a len cap W h.1).mono ?_
  rintro e w' ⟨hb, h1, h2⟩
  exact ⟨hb, h.grows h1 h2⟩
theorem ss_spoil (t : ByteArray) (ht : t.size ≤ 1000000) (h : SS w a len cap W) :
    Calls Tryd.prog 39 #[.pointer (some ⟨w.heap.size, 0, none⟩), .string t] W fun e w' => UpT (t.size + 1) e ∧ SS w a len cap w' := by
  refine (spoil_any w.heap.size a len cap t W ht h.1 h.blk).mono ?_
  rintro e w' ⟨hb, h1, h2⟩
  exact ⟨hb, h.grows h1 h2⟩
theorem ss_pick (m c K : Nat) (T : TypeId) (ss : List ByteArray) (h : SS w a len cap W) (hm : ss.length = m) (h0 : 0 < m) (h1 : m ≤ 100) (hK : ∀ t ∈ ss, t.size ≤ K) :
    Calls Tryd.prog 40 #[.pointer (some ⟨w.heap.size, 0, none⟩), .slice (some ⟨W.heap.size, 0, none⟩) m c] (W.alloc (.cells (ss.map Value.string).toArray T (0, 0))) fun e w' => UpT K e ∧ SS w a len cap w' := by
  have h' := h.alloc (.cells (ss.map Value.string).toArray T (0, 0))
  refine (pick_any w.heap.size a len cap W.heap.size m c K T ss _ h'.1 (heap_alloc_new _ _) hm h0 h1 hK (by have := h.2.2.1; omega)).mono ?_
  rintro e w' ⟨hb, h1, h2⟩
  exact ⟨hb, h'.grows h1 h2⟩
end
end Go.Proofs.YtjllcflnmopnpaaDoor
namespace Go.Proofs.YtjllcflnmopnpaaDoor
open Go.RowKit

/-- A text and a place are drawn. -/
def AnyTa (e : Ending) : Prop := ∃ (t : ByteArray) (p : Int), t.size ≤ 4010 ∧ (-9223372036854775808 ≤ p ∧ p ≤ 9223372036854775807) ∧ e = .returned (.tuple #[.string t, .int .i64 p])
set_option maxRecDepth 100000 in
set_option maxHeartbeats 4000000 in
theorem drawDerGet (a : Option Addr) (len cap : Nat) (w : World) (hlen : len ≤ 1048576) (hc : CodeAt a len w) (hblk : ∀ x, 0 < len → a = some x → x.block < w.heap.size) :
    Calls Tryd.prog 11 #[.slice a len cap] w fun e w' => AnyTa e ∧ Below w.heap.size w w' := by
  have HC : Hid (CodeAt a len w) := hc
  have HBk : Hid (∀ x, 0 < len → a = some x → x.block < w.heap.size) := hblk
  clear hc hblk
  go_enter Tryd.func11, Tryd.ntmps11
  go_wp2_with fail
  refine (ss_source a len cap _ hlen HC.out HBk.out).mono ?_
  rintro e w1 ⟨rfl, h1⟩
  have H1 : Hid (SS w a len cap w1) := h1
  clear h1
  go_wp2_with fail
  refine (ss_n 2 (by omega) H1.out).mono ?_
  rintro e w2 ⟨r, rfl, hr, h2, hx2⟩
  clear hx2
  have H2 : Hid (SS w a len cap w2) := h2
  have hr' : r ≤ 1 := by omega
  clear h2 hr
  go_wp2_with fail
  refine (ss_bytes r (by omega) H2.out).mono ?_
  rintro e w3 ⟨⟨hd, hhd, rfl⟩, h3⟩
  have H3 : Hid (SS w a len cap w3) := h3
  have hhd1 : hd.size ≤ 1 := by omega
  clear h3 hhd
  go_wp2_with fail
  refine (ss_some H3.out).mono ?_
  rintro e w4 ⟨⟨b, hb, rfl⟩, h4⟩
  have H4 : Hid (SS w a len cap w4) := h4
  clear h4
  have hp := putD_le 48 b
  have HP : Hid (∀ V : World, Calls Tryd.prog 6 #[.int .i64 48, .string b] V fun e w' => e = .returned (.string (putD 48 b)) ∧ Below V.heap.size V w') := fun V => specDerPut 48 b V (by unfold maxLen; omega)
  generalize putD 48 b = q at *
  go_wp2_with fail
  refine (HP.out _).mono ?_
  rintro e w5 ⟨rfl, hb5⟩
  have H5 : Hid (SS w a len cap w5) := H4.out.keep hb5
  clear hb5 HP
  go_wp2_with fail
  refine (ss_n 2 (by omega) H5.out).mono ?_
  rintro e w6 ⟨r2, rfl, hr2, h6, hx6⟩
  clear hx6
  have H6 : Hid (SS w a len cap w6) := h6
  have hr2' : r2 ≤ 1 := by omega
  clear h6 hr2
  go_wp2_with fail
  refine (ss_bytes r2 (by omega) H6.out).mono ?_
  rintro e w7 ⟨⟨tl, htl, rfl⟩, h7⟩
  have H7 : Hid (SS w a len cap w7) := h7
  have htl1 : tl.size ≤ 1 := by omega
  clear h7 htl
  have hts : (hd ++ q ++ tl).size ≤ 4006 := by rw [ByteArray.size_append, ByteArray.size_append]; omega
  have hts2 : (hd ++ q).size ≤ 4005 := by rw [ByteArray.size_append]; omega
  obtain ⟨hq, hhq⟩ : ∃ hq, hq = hd ++ q := ⟨_, rfl⟩
  rw [← hhq] at hts hts2
  have hhq' : hd ++ q = hq := hhq.symm
  obtain ⟨t, ht'⟩ : ∃ t, t = hq ++ tl := ⟨_, rfl⟩
  rw [← ht'] at hts
  have ht : hq ++ tl = t := ht'.symm
  clear hhq ht'
  go_wp2_with fail
  refine (ss_n 5 (by omega) H7.out).mono ?_
  rintro e w8 ⟨r3, rfl, hr3, h8, hx8⟩
  clear hx8
  have H8 : Hid (SS w a len cap w8) := h8
  have hrr : r3 = 0 ∨ r3 = 1 ∨ r3 = 2 ∨ (((r3 : Int) == 0) = false ∧ ((r3 : Int) == 1) = false ∧ ((r3 : Int) == 2) = false) := by
    simp only [beq_eq_false_iff_ne]; omega
  clear h8 hr3 hhq' ht H1 H2 H3 H4 H5 H6 H7 hp hb htl1 hts2 hr' hr2'
  rcases hrr with rfl | rfl | rfl | ⟨g0, g1, g2⟩
  · go_wp2_with fail
    refine (ss_spoil t (by omega) H8.out).mono ?_
    rintro e w9 ⟨⟨u, hu, rfl⟩, h9⟩
    have H9 : Hid (SS w a len cap w9) := h9
    have hu' : u.size ≤ 4007 := by omega
    clear h9 hu
    go_wp2_with fail
    refine (ss_one 12 (by omega) H9.out).mono ?_
    rintro e w20 ⟨hb20, h20⟩
    have H20 : Hid (SS w a len cap w20) := h20
    clear h20
    rcases hb20 with rfl | rfl
    · go_wp2_with fail
      refine (ss_edge H20.out).mono ?_
      rintro e w21 ⟨⟨v, hv, rfl⟩, h21⟩
      have H21 : Hid (SS w a len cap w21) := h21
      clear h21
      go_wp2_with fail
      go_ret2
      exact ⟨⟨u, v, by omega, hv, rfl⟩, H21.out.2.1⟩
    · go_wp2_with fail
      go_ret2
      exact ⟨⟨u, _, by omega, by omega, rfl⟩, H20.out.2.1⟩
  · go_wp2_with fail
    refine (ss_n (t.size + 1) (by omega) H8.out).mono ?_
    rintro e w9 ⟨k, rfl, hk, h9, hx9⟩
    clear hx9
    have H9 : Hid (SS w a len cap w9) := h9
    have hk' : k ≤ t.size := by omega
    have hki : (k : Int) ≤ (t.size : Int) := by omega
    have hxe : (t.extract 0 k).size ≤ 4006 := by rw [ByteArray.size_extract]; omega
    clear h9 hk
    generalize hu : t.extract 0 k = u at hxe
    go_wp2_with fail
    refine (ss_one 12 (by omega) H9.out).mono ?_
    rintro e w20 ⟨hb20, h20⟩
    have H20 : Hid (SS w a len cap w20) := h20
    clear h20
    rcases hb20 with rfl | rfl
    · go_wp2_with fail
      refine (ss_edge H20.out).mono ?_
      rintro e w21 ⟨⟨v, hv, rfl⟩, h21⟩
      have H21 : Hid (SS w a len cap w21) := h21
      clear h21
      go_wp2_with fail
      go_ret2
      exact ⟨⟨u, v, by omega, hv, rfl⟩, H21.out.2.1⟩
    · go_wp2_with fail
      go_ret2
      exact ⟨⟨u, _, by omega, by omega, rfl⟩, H20.out.2.1⟩
  · go_wp2_with fail
    refine (ss_pick 7 7 20 9 [⟨#[48, 129, 5, 97, 98, 99, 100, 101]⟩, ⟨#[48, 130, 0, 144]⟩, ⟨#[48, 128]⟩, ⟨#[48, 131, 0, 0, 1]⟩, ⟨#[31, 1, 97]⟩, ⟨#[48]⟩, ⟨#[48, 130, 15, 161]⟩] H8.out rfl (by omega) (by omega) (by decide)).mono ?_
    rintro e w9 ⟨⟨u0, hu0, rfl⟩, h9⟩
    have H9 : Hid (SS w a len cap w9) := h9
    have hu1 : (hd ++ u0).size ≤ 21 := by rw [ByteArray.size_append]; omega
    obtain ⟨u, hu⟩ : ∃ u, u = hd ++ u0 := ⟨_, rfl⟩
    rw [← hu] at hu1
    have hu2 : hd ++ u0 = u := hu.symm
    clear h9 hu
    go_wp2_with fail
    refine (ss_one 12 (by omega) H9.out).mono ?_
    rintro e w20 ⟨hb20, h20⟩
    have H20 : Hid (SS w a len cap w20) := h20
    clear h20
    rcases hb20 with rfl | rfl
    · go_wp2_with fail
      refine (ss_edge H20.out).mono ?_
      rintro e w21 ⟨⟨v, hv, rfl⟩, h21⟩
      have H21 : Hid (SS w a len cap w21) := h21
      clear h21
      go_wp2_with fail
      go_ret2
      exact ⟨⟨u, v, by omega, hv, rfl⟩, H21.out.2.1⟩
    · go_wp2_with fail
      go_ret2
      exact ⟨⟨u, _, by omega, by omega, rfl⟩, H20.out.2.1⟩
  · go_wp2_with fail
    refine (ss_one 12 (by omega) H8.out).mono ?_
    rintro e w20 ⟨hb20, h20⟩
    have H20 : Hid (SS w a len cap w20) := h20
    clear h20
    rcases hb20 with rfl | rfl
    · go_wp2_with fail
      refine (ss_edge H20.out).mono ?_
      rintro e w21 ⟨⟨v, hv, rfl⟩, h21⟩
      have H21 : Hid (SS w a len cap w21) := h21
      clear h21
      go_wp2_with fail
      go_ret2
      exact ⟨⟨t, v, by omega, hv, rfl⟩, H21.out.2.1⟩
    · go_wp2_with fail
      go_ret2
      exact ⟨⟨t, _, by omega, by omega, rfl⟩, H20.out.2.1⟩
end Go.Proofs.YtjllcflnmopnpaaDoor
namespace Go.Proofs.YtjllcflnmopnpaaDoor
open Go.RowKit

/-- One of three tags. -/
def tag3 (r : Nat) : Int := if r = 0 then 2 else if r = 1 then 4 else 48
def tags3 : Obj := .cells #[.int .i64 2, .int .i64 4, .int .i64 48] 2 (0, 0)
theorem tag3_row {W : World} {B r : Nat} (h : W.heap[B]? = some tags3) (hr : r < 3) : W.cell? ⟨B, r, none⟩ = some (.int .i64 (tag3 r)) := by
  rw [cell_of_row W B r _ _ (0, 0) h]
  have : r = 0 ∨ r = 1 ∨ r = 2 := by omega
  rcases this with rfl | rfl | rfl <;> rfl
/-- The row stands, beside the source. -/
def RowH (n : Nat) (W : World) (B : Nat) : Prop := W.heap[B]? = some tags3 ∧ B ≠ n
set_option maxRecDepth 100000 in
set_option maxHeartbeats 4000000 in
theorem drawDerAll (a : Option Addr) (len cap : Nat) (w : World) (hlen : len ≤ 1048576) (hc : CodeAt a len w) (hblk : ∀ x, 0 < len → a = some x → x.block < w.heap.size) :
    Calls Tryd.prog 13 #[.slice a len cap] w fun e w' => UpT 300 e ∧ Below w.heap.size w w' := by
  have HC : Hid (CodeAt a len w) := hc
  have HBk : Hid (∀ x, 0 < len → a = some x → x.block < w.heap.size) := hblk
  clear hc hblk
  go_enter Tryd.func13, Tryd.ntmps13
  go_wp2_with fail
  refine (ss_source a len cap _ hlen HC.out HBk.out).mono ?_
  rintro e w1 ⟨rfl, h1⟩
  have H1 : Hid (SS w a len cap w1) := h1
  clear h1
  go_wp2_with fail
  refine (ss_n 4 (by omega) H1.out).mono ?_
  rintro e w2 ⟨r, rfl, hr, h2, hx2⟩
  have H2 : Hid (SS w a len cap w2) := h2
  have hr' : r ≤ 3 := by omega
  clear h2 hr hx2
  go_wp2_with fail
  have HTn : Hid (∀ (V : World) (m : Int), Hid (SS w a len cap V) → (m = 3 ∨ m = 4) → Calls Tryd.prog 29 #[.pointer (some ⟨w.heap.size, 0, none⟩), .int .i64 m] V fun e W => ∃ r : Nat, e = .returned (.int .i64 (r : Int)) ∧ (r < 4 ∧ (m = 3 → r < 3)) ∧ Hid (SS w a len cap W) ∧ Hid (∀ b, RowH w.heap.size V b → RowH w.heap.size W b)) := fun V m hV hm => by
    rcases hm with rfl | rfl
    · refine (ss_n 3 (by omega) hV.out).mono ?_
      rintro e W ⟨r, rfl, hr, h1, h2⟩
      exact ⟨r, rfl, ⟨by omega, by omega⟩, h1, fun b ⟨ho, hb⟩ => ⟨by rw [h2 b hb (heap_lt ho)]; exact ho, hb⟩⟩
    · refine (ss_n 4 (by omega) hV.out).mono ?_
      rintro e W ⟨r, rfl, hr, h1, h2⟩
      exact ⟨r, rfl, ⟨by omega, by omega⟩, h1, fun b ⟨ho, hb⟩ => ⟨by rw [h2 b hb (heap_lt ho)]; exact ho, hb⟩⟩
  have HTb : Hid (∀ (V : World) (k : Nat), Hid (SS w a len cap V) → k < 4 → Calls Tryd.prog 38 #[.pointer (some ⟨w.heap.size, 0, none⟩), .int .i64 (k : Int)] V fun e W => ∃ u : ByteArray, e = .returned (.string u) ∧ u.size ≤ 3 ∧ Hid (SS w a len cap W) ∧ Hid (∀ b, RowH w.heap.size V b → RowH w.heap.size W b)) := fun V k hV hk => by
    refine (bytes_any w.heap.size a len cap k V (by omega) hV.out.1 hV.out.blk).mono ?_
    rintro e W ⟨⟨u, hu, rfl⟩, h1, h2⟩
    exact ⟨u, rfl, by omega, hV.out.grows h1 h2, fun b ⟨ho, hb⟩ => ⟨by rw [h2.block b (heap_lt ho) (by intro e; exact hb (Option.some.inj e))]; exact ho, hb⟩⟩
  have HTp : Hid (∀ (V : World) (tg : Int) (u : ByteArray), Hid (SS w a len cap V) → u.size ≤ 3 → Calls Tryd.prog 6 #[.int .i64 tg, .string u] V fun e W => ∃ x : ByteArray, e = .returned (.string x) ∧ x.size ≤ 7 ∧ Hid (SS w a len cap W)) := fun V tg u hV hu => by
    refine (specDerPut tg u V (by unfold maxLen; omega)).mono ?_
    rintro e W ⟨rfl, hW⟩
    refine ⟨_, rfl, ?_, hV.out.keep hW⟩
    unfold putD
    split
    · have := thingD_le tg u; omega
    · simp
  go_loopw [4, 5] (fun t q wr => ∃ (j : Nat) (x : ByteArray), q = .int .i64 (j : Int) ∧ j ≤ 3 ∧ t = .string x ∧ x.size + 7 * j ≤ 21 ∧ SS w a len cap wr)
    (fun _ q _ => (intOf q).toNat)
  case atStart => exact ⟨r, ⟨#[]⟩, rfl, hr', rfl, by show 0 + 7 * r ≤ 21; omega, H2.out⟩
  case round =>
    obtain ⟨j, x, rfl, hj, rfl, hx, hss⟩ := hrel
    have HSS : Hid (SS w a len cap wr) := hss
    clear hss H1 H2
    by_cases hj0 : 0 < j
    · have D0 : Hid (SS w a len cap wr.drew) := HSS.out.keep ((Below.refl _ wr).drew)
      have HA : Hid (∀ V o, Hid (SS w a len cap V) → Hid (SS w a len cap (V.alloc o))) := fun V o h => h.out.alloc o
      have HNe : Hid (∀ V, Hid (SS w a len cap V) → V.heap.size ≠ w.heap.size) := fun V h => by have := h.out.2.2.1; omega
      have HCA : Hid (∀ (r : Nat), r < 3 → ∀ V : World, (V.alloc (.cells #[.int .i64 2, .int .i64 4, .int .i64 48] 2 (0, 0))).cell? ⟨V.heap.size, r, none⟩ = some (.int .i64 (tag3 r))) := fun r hr V => tag3_row (heap_alloc_new V _) hr
      go_wp2_with fail
      go_region_with (first
        | (go_at_call 29; refine (HTn.out _ _ (by first | assumption | exact HA.out _ _ (by assumption)) (by omega)).mono ?_; rintro e W1 ⟨r1, rfl, hr1, k1, kp1⟩; (try have hr3 : r1 < 3 := hr1.2 rfl); (try have hr3i : (r1 : Int) < 3 := by omega); (try have hcvA := HCA.out _ hr3); (first | have row1 := kp1.out _ ⟨heap_alloc_new _ _, HNe.out _ (by assumption)⟩ | have row1 := kp1.out _ (by assumption) | skip); (try have hcvB := tag3_row row1.1 (by assumption)))
        | (go_at_call 38; refine (HTb.out _ _ (by first | assumption | exact HA.out _ _ (by assumption)) (by omega)).mono ?_; rintro e W2 ⟨u, rfl, hu, k2, kp2⟩; (first | have row2 := kp2.out _ ⟨heap_alloc_new _ _, HNe.out _ (by assumption)⟩ | have row2 := kp2.out _ (by assumption) | skip); (try have hcvC := tag3_row row2.1 (by assumption)))
        | (go_at_call 6; refine (HTp.out _ _ _ (by first | assumption | exact HA.out _ _ (by assumption)) (by omega)).mono ?_; rintro e W3 ⟨y, rfl, hy, k3⟩))
      all_goals
        have hxy : (x ++ y).size ≤ x.size + 7 := by rw [ByteArray.size_append]; omega
        have hxy' : (x ++ y).size ≤ 21 := by omega
        generalize x ++ y = z at *
        clear HTn HTb HTp HA HNe HCA
        go_wp2_with fail
        go_roundw
        case rel => exact ⟨j - 1, z, by simp; omega, by omega, rfl, by omega, k3.out⟩
        case measure => simp [intOf]; omega
    · have hj1 : j = 0 := by omega
      subst hj1
      have hx21 : x.size ≤ 21 := by omega
      have HQ : Hid (∀ (V : World) (z : ByteArray), Hid (SS w a len cap V) → z.size ≤ 200 → Calls Tryd.prog 39 #[.pointer (some ⟨w.heap.size, 0, none⟩), .string z] V fun e W => UpT 201 e ∧ Hid (SS w a len cap W)) := fun V z hV hz => by
        refine (ss_spoil z (by omega) hV.out).mono ?_
        rintro e W ⟨⟨u, hu, rfl⟩, h⟩
        exact ⟨⟨u, by omega, rfl⟩, h⟩
      clear HTn HTb HTp hj hj0 hx
      go_wp2_with fail
      refine (ss_one 15 (by omega) HSS.out).mono ?_
      rintro e w3 ⟨hb3, h3⟩
      have H3 : Hid (SS w a len cap w3) := h3
      clear h3 HSS
      rcases hb3 with rfl | rfl
      · go_wp2_with fail
        refine (ss_n 4 (by omega) H3.out).mono ?_
        rintro e w4 ⟨r4, rfl, hr4, h4, hx4⟩
        have H4 : Hid (SS w a len cap w4) := h4
        have hr4' : r4 ≤ 3 := by omega
        clear h4 hr4 hx4
        go_wp2_with fail
        go_loopw [4, 6] (fun t q wr => ∃ (j : Nat) (x : ByteArray), q = .int .i64 (j : Int) ∧ j ≤ 61 ∧ t = .string x ∧ x.size + 2 * j ≤ 150 ∧ SS w a len cap wr)
          (fun _ q _ => (intOf q).toNat)
        case atStart => exact ⟨58 + r4, x, by simp, by omega, rfl, by omega, H4.out⟩
        case round =>
          clear H3 H4
          obtain ⟨j, x, rfl, hj, rfl, hx, hss⟩ := hrel
          have HSS : Hid (SS w a len cap wr) := hss
          clear hss
          by_cases hj0 : 0 < j
          · have hxy : (x ++ ⟨#[5, 0]⟩).size ≤ x.size + 2 := by rw [ByteArray.size_append]; exact Nat.le_refl _
            have hxl : x.size ≤ 150 := by omega
            go_wp2_with fail
            go_roundw
            case rel => exact ⟨j - 1, x ++ ⟨#[5, 0]⟩, by simp; omega, by omega, rfl, by omega, HSS.out⟩
            case measure => simp [intOf]; omega
          · have hj1 : j = 0 := by omega
            subst hj1
            have hx2 : x.size ≤ 200 := by omega
            clear hj hj0 hx
            go_wp2_with fail
            refine (ss_one 4 (by omega) HSS.out).mono ?_
            rintro e w5 ⟨hb5, h5⟩
            have H5 : Hid (SS w a len cap w5) := h5
            clear h5 HSS
            rcases hb5 with rfl | rfl
            · go_wp2_with fail
              refine (HQ.out _ x H5 hx2).mono ?_
              rintro e w6 ⟨⟨u, hu, rfl⟩, H6⟩
              go_wp2_with fail
              go_ret
              exact ⟨⟨u, by omega, rfl⟩, H6.out.2.1⟩
            · go_wp2_with fail
              go_ret
              exact ⟨⟨x, by omega, rfl⟩, H5.out.2.1⟩
      · go_wp2_with fail
        refine (ss_one 4 (by omega) H3.out).mono ?_
        rintro e w5 ⟨hb5, h5⟩
        have H5 : Hid (SS w a len cap w5) := h5
        clear h5
        rcases hb5 with rfl | rfl
        · go_wp2_with fail
          refine (HQ.out _ x H5 (by omega)).mono ?_
          rintro e w6 ⟨⟨u, hu, rfl⟩, H6⟩
          go_wp2_with fail
          go_ret
          exact ⟨⟨u, by omega, rfl⟩, H6.out.2.1⟩
        · go_wp2_with fail
          go_ret
          exact ⟨⟨x, by omega, rfl⟩, H5.out.2.1⟩
end Go.Proofs.YtjllcflnmopnpaaDoor
namespace Go.Proofs.YtjllcflnmopnpaaDoor
open Go.RowKit

set_option maxRecDepth 100000 in
set_option maxHeartbeats 2000000 in
theorem drawDerIntRead (a : Option Addr) (len cap : Nat) (w : World) (hlen : len ≤ 1048576) (hc : CodeAt a len w) (hblk : ∀ x, 0 < len → a = some x → x.block < w.heap.size) :
    Calls Tryd.prog 24 #[.slice a len cap] w fun e w' => UpT 20 e ∧ Below w.heap.size w w' := by
  have HC : Hid (CodeAt a len w) := hc
  have HBk : Hid (∀ x, 0 < len → a = some x → x.block < w.heap.size) := hblk
  clear hc hblk
  go_enter Tryd.func24, Tryd.ntmps24
  go_wp2_with fail
  refine (source_any a len cap _ hlen HC.out HBk.out).mono ?_
  rintro e w1 ⟨rfl, hs1, hb1, hz1⟩
  have H1 : Hid (Src w.heap.size a len cap w1) := hs1
  have B1 : Hid (Below w.heap.size w w1) := hb1
  have L1 : Hid (w.heap.size < w1.heap.size) := by show _ < _; omega
  clear hs1 hb1 hz1
  go_wp2_with fail
  refine (num_any w.heap.size a len cap _ H1.out).mono ?_
  rintro e w2 ⟨⟨v, ⟨hv0, hv1⟩, rfl⟩, hs2, hg2⟩
  have H2 : Hid (Src w.heap.size a len cap w2) := hs2
  have hl1 := L1.out
  have B2 : Hid (Below w.heap.size w w2) := hg2.below B1.out (Nat.le_refl _) (by omega)
  have L2 : Hid (w.heap.size < w2.heap.size) := by have := hg2.size; show _ < _; omega
  clear hs2 hg2 hl1
  have HD : Hid (∀ V : World, Calls Tryd.prog 19 #[.int .i64 v] V fun e w' => e = .returned (.string (thingD 2 (strOfNums (intL v)))) ∧ Below V.heap.size V w') := fun V => specDerInt v V hv0 hv1
  have hq : 2 ≤ (thingD 2 (strOfNums (intL v))).size ∧ (thingD 2 (strOfNums (intL v))).size ≤ 12 := by
    have h1 := thingD_le 2 (strOfNums (intL v))
    have h2 := thingD_size 2 (strOfNums (intL v))
    have h3 := lenD_one (strOfNums (intL v)).size
    have h4 := (intL_len v).2
    rw [strOfNums_size] at h1 h2 h3
    omega
  generalize thingD 2 (strOfNums (intL v)) = q at *
  obtain ⟨hq2, hq12⟩ := hq
  have hx : (q.extract 2 q.size).size ≤ 10 := by rw [ByteArray.size_extract]; omega
  go_wp2_with fail
  refine (HD.out _).mono ?_
  rintro e w3 ⟨rfl, hb3⟩
  have hl2 := L2.out
  have H3 : Hid (Src w.heap.size a len cap w3) := H2.out.below hb3 hl2 (fun x h0 hx => by have := HBk.out x h0 hx; omega)
  have B3 : Hid (Below w.heap.size w w3) := B2.out.trans (hb3.mono (by omega))
  have L3 : Hid (w.heap.size < w3.heap.size) := by have := hb3.size; show _ < _; omega
  clear hb3 hl2 HD
  generalize hqq : q.extract 2 q.size = t at hx
  have hqi : (2 : Int) ≤ (q.size : Int) := by omega
  go_wp2_with fail
  refine (n_any w.heap.size a len cap 4 _ (by omega) H3.out).mono ?_
  rintro e w4 ⟨r, rfl, hr, hs4, ht4⟩
  have H4 : Hid (Src w.heap.size a len cap w4) := hs4
  have hl3 := L3.out
  have hz4 : w4.heap.size = w3.heap.size := ht4.2
  have B4 : Hid (Below w.heap.size w w4) := ht4.below B3.out (Nat.le_refl _) (by omega)
  have HB4 : Hid (∀ x, 0 < len → a = some x → x.block < w4.heap.size) := fun x h0 hx => by have := HBk.out x h0 hx; omega
  have L4 : Hid (w.heap.size < w4.heap.size) := by show _ < _; omega
  clear hs4 ht4 hl3 hz4
  have hrr : r = 0 ∨ r = 1 ∨ (((r : Int) == 0) = false ∧ ((r : Int) == 1) = false) := by
    simp only [beq_eq_false_iff_ne]; omega
  clear hr
  rcases hrr with rfl | rfl | ⟨hr0, hr1⟩
  · go_wp2_with fail
    refine (spoil_any w.heap.size a len cap t _ (by omega) H4.out HB4.out).mono ?_
    rintro e w5 ⟨⟨u, hu, rfl⟩, hs5, hg5⟩
    have hl4 := L4.out
    have B5 : Hid (Below w.heap.size w w5) := hg5.below B4.out (Nat.le_refl _) (by omega)
    clear hs5 hg5 hl4
    go_wp2_with fail
    go_ret
    exact ⟨⟨u, by omega, rfl⟩, B5.out⟩
  · go_wp2_with fail
    refine (pick_any w.heap.size a len cap w4.heap.size 6 6 20 9 [⟨#[]⟩, ⟨#[0, 1]⟩, ⟨#[255, 255]⟩, ⟨#[0, 128]⟩, ⟨#[255, 127]⟩, ⟨#[0, 0, 0, 0, 0, 0, 0, 0, 1]⟩] _ (H4.out.alloc _) (heap_alloc_new _ _) rfl (by omega) (by omega) (by decide) (by have := L4.out; omega)).mono ?_
    rintro e w5 ⟨⟨u, hu, rfl⟩, hs5, hg5⟩
    have hl4 := L4.out
    have B5 : Hid (Below w.heap.size w w5) := hg5.below (B4.out.alloc (by omega) _) (Nat.le_refl _) (by simp; omega)
    clear hs5 hg5 hl4
    go_wp2_with fail
    go_ret
    exact ⟨⟨u, by omega, rfl⟩, B5.out⟩
  · go_wp2_with fail
    go_ret
    exact ⟨⟨t, by omega, rfl⟩, B4.out⟩
end Go.Proofs.YtjllcflnmopnpaaDoor
namespace Go.Proofs.YtjllcflnmopnpaaDoor
open Go.RowKit

/-- A row of numbers is drawn. -/
def DrewL (W : World) (e : Ending) : Prop := ∃ (a : Option Addr) (c : Nat) (zs : List Int), e = .returned (.slice a zs.length c) ∧ zs.length ≤ 20 ∧ zs.length ≤ c ∧ IsInts W a zs
theorem oidD_le (zs : List Int) : (oidD zs).size ≤ 50 := by
  unfold oidD
  split
  · rename_i h
    have h1 := thingD_le 6 (strOfNums (oidL zs))
    rw [strOfNums_size] at h1
    have := oidL_len h
    omega
  · simp
/-- A text that is made into bytes serves as a code. -/
theorem conv_code (W : World) (b : ByteArray) : ∃ (c : Nat) (W' : World), (convert 9 22 (.string b)).run Tryd.prog W = .ok (.slice (some ⟨W.heap.size, 0, none⟩) b.size c) W' ∧ CodeAt (some ⟨W.heap.size, 0, none⟩) b.size W' ∧ W.heap.size < W'.heap.size ∧ Below W.heap.size W W' := by
  refine ⟨_, _, run_bytes_of_string W 9 22 5 b Tryd.underlying9 Tryd.underlying22 Tryd.underlying5, .inr ⟨W.heap.size, 0, rfl, fun i hi => ?_⟩, by show _ < (W.heap.push _).size; simp, (Below.refl _ W).drew.alloc (Nat.le_refl _) _⟩
  have hi' : i < b.data.size := hi
  refine ⟨b.data[i].toNat, by have := b.data[i].toNat_lt; omega, ?_⟩
  rw [Nat.zero_add, cell_of_row _ W.heap.size i _ _ _ (heap_alloc_new W.drew _)]
  exact bytesRow_at b _ i hi'
set_option maxRecDepth 100000 in
set_option maxHeartbeats 4000000 in
theorem drawDerOidRead (a : Option Addr) (len cap : Nat) (w : World) (hlen : len ≤ 1048576) (hc : CodeAt a len w) (hblk : ∀ x, 0 < len → a = some x → x.block < w.heap.size)
    (hO : ∀ (a : Option Addr) (len cap : Nat) (V : World), len ≤ 1048576 → CodeAt a len V → (∀ x, 0 < len → a = some x → x.block < V.heap.size) → Calls Tryd.prog 16 #[.slice a len cap] V fun e W => DrewL W e ∧ Below V.heap.size V W) :
    Calls Tryd.prog 25 #[.slice a len cap] w fun e w' => UpT 60 e ∧ Below w.heap.size w w' := by
  have HC : Hid (CodeAt a len w) := hc
  have HBk : Hid (∀ x, 0 < len → a = some x → x.block < w.heap.size) := hblk
  have HO : Hid (∀ (a : Option Addr) (len cap : Nat) (V : World), len ≤ 1048576 → CodeAt a len V → (∀ x, 0 < len → a = some x → x.block < V.heap.size) → Calls Tryd.prog 16 #[.slice a len cap] V fun e W => DrewL W e ∧ Below V.heap.size V W) := hO
  clear hc hblk hO
  go_enter Tryd.func25, Tryd.ntmps25
  go_wp2_with fail
  refine (ss_source a len cap _ hlen HC.out HBk.out).mono ?_
  rintro e w1 ⟨rfl, h1⟩
  have H1 : Hid (SS w a len cap w1) := h1
  clear h1
  go_wp2_with fail
  refine (ss_bytes 9 (by omega) H1.out).mono ?_
  rintro e w2 ⟨⟨b, hb, rfl⟩, h2⟩
  have H2 : Hid (SS w a len cap w2) := h2
  clear h2
  obtain ⟨c3, w3, hcv, hc3, hz3, hb3⟩ := conv_code w2 b
  have H3 : Hid (SS w a len cap w3) := H2.out.keep hb3
  have HC3 : Hid (CodeAt (some ⟨w2.heap.size, 0, none⟩) 9 w3) := by rw [hb] at hc3; exact hc3
  clear hc3 hb3
  go_wp2_with fail
  refine (HO.out (some ⟨w2.heap.size, 0, none⟩) 9 c3 w3 (by omega) HC3.out (fun x _ hx => by cases hx; exact hz3)).mono ?_
  rintro e w4 ⟨⟨g, c, zs, rfl, hz, hzc, hi⟩, hb4⟩
  have H4 : Hid (SS w a len cap w4) := H3.out.keep hb4
  have HD : Hid (Calls Tryd.prog 20 #[.slice g zs.length c] w4 fun e w' => e = .returned (.string (oidD zs)) ∧ Below w4.heap.size w4 w') := specDerOid g zs c w4 (by omega) hi
  have hq := oidD_le zs
  generalize oidD zs = q at *
  clear hb4 hi hcv hz3 HO HC3 H1 H2 H3
  generalize zs.length = zl at *
  go_wp2_with fail
  refine HD.out.mono ?_
  rintro e w5 ⟨rfl, hb5⟩
  have H5 : Hid (SS w a len cap w5) := H4.out.keep hb5
  clear hb5 HD H4
  have HT : Hid (∀ (V : World) (t : ByteArray), Hid (SS w a len cap V) → t.size ≤ 50 → Calls Tryd.prog 39 #[.pointer (some ⟨w.heap.size, 0, none⟩), .string t] V fun e W => UpT 51 e ∧ Hid (SS w a len cap W)) := fun V t hV ht => by
    refine (ss_spoil t (by omega) hV.out).mono ?_
    rintro e W ⟨⟨u, hu, rfl⟩, h⟩
    exact ⟨⟨u, by omega, rfl⟩, h⟩
  by_cases hq2 : 2 < q.size
  · have hqi : (2 : Int) < (q.size : Int) := by omega
    have hqi2 : (2 : Int) ≤ (q.size : Int) := by omega
    have hx : (q.extract 2 q.size).size ≤ 50 := by rw [ByteArray.size_extract]; omega
    generalize hqq : q.extract 2 q.size = t at hx
    go_wp2_with fail
    refine (ss_n 4 (by omega) H5.out).mono ?_
    rintro e w6 ⟨r, rfl, hr, h6, hx6⟩
    have H6 : Hid (SS w a len cap w6) := h6
    have hrr : r = 0 ∨ r = 1 ∨ (((r : Int) == 0) = false ∧ ((r : Int) == 1) = false) := by
      simp only [beq_eq_false_iff_ne]; omega
    clear h6 hx6 hr H5
    rcases hrr with rfl | rfl | ⟨g0, g1⟩
    · go_wp2_with fail
      refine (HT.out _ t H6 hx).mono ?_
      rintro e w7 ⟨⟨u, hu, rfl⟩, H7⟩
      go_wp2_with fail
      go_ret
      exact ⟨⟨u, by omega, rfl⟩, H7.out.2.1⟩
    · go_wp2_with fail
      refine (ss_pick 8 8 20 9 [⟨#[]⟩, ⟨#[128, 1]⟩, ⟨#[129]⟩, ⟨#[42, 128, 1]⟩, ⟨#[42, 136, 128, 128, 128, 0]⟩, ⟨#[120]⟩, ⟨#[129, 52]⟩, ⟨#[129, 53]⟩] H6.out rfl (by omega) (by omega) (by decide)).mono ?_
      rintro e w7 ⟨⟨u, hu, rfl⟩, h7⟩
      have H7 : Hid (SS w a len cap w7) := h7
      clear h7
      go_wp2_with fail
      go_ret
      exact ⟨⟨u, by omega, rfl⟩, H7.out.2.1⟩
    · go_wp2_with fail
      go_ret
      exact ⟨⟨t, by omega, rfl⟩, H6.out.2.1⟩
  · have hqi : (q.size : Int) ≤ 2 := by omega
    go_wp2_with fail
    refine (ss_n 4 (by omega) H5.out).mono ?_
    rintro e w6 ⟨r, rfl, hr, h6, hx6⟩
    have H6 : Hid (SS w a len cap w6) := h6
    have hrr : r = 0 ∨ r = 1 ∨ (((r : Int) == 0) = false ∧ ((r : Int) == 1) = false) := by
      simp only [beq_eq_false_iff_ne]; omega
    clear h6 hx6 hr H5
    rcases hrr with rfl | rfl | ⟨g0, g1⟩
    · go_wp2_with fail
      refine (HT.out _ q H6 hq).mono ?_
      rintro e w7 ⟨⟨u, hu, rfl⟩, H7⟩
      go_wp2_with fail
      go_ret
      exact ⟨⟨u, by omega, rfl⟩, H7.out.2.1⟩
    · go_wp2_with fail
      refine (ss_pick 8 8 20 9 [⟨#[]⟩, ⟨#[128, 1]⟩, ⟨#[129]⟩, ⟨#[42, 128, 1]⟩, ⟨#[42, 136, 128, 128, 128, 0]⟩, ⟨#[120]⟩, ⟨#[129, 52]⟩, ⟨#[129, 53]⟩] H6.out rfl (by omega) (by omega) (by decide)).mono ?_
      rintro e w7 ⟨⟨u, hu, rfl⟩, h7⟩
      have H7 : Hid (SS w a len cap w7) := h7
      clear h7
      go_wp2_with fail
      go_ret
      exact ⟨⟨u, by omega, rfl⟩, H7.out.2.1⟩
    · go_wp2_with fail
      go_ret
      exact ⟨⟨q, by omega, rfl⟩, H6.out.2.1⟩
end Go.Proofs.YtjllcflnmopnpaaDoor
