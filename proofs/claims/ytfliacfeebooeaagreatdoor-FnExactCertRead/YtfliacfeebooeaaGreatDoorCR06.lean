/- spec.l05Put, walked. Kinds of thing, told apart. impl.joinTexts, walked: the one text behind the other. impl.layThing at a thing whose body is laid already, walked. impl.tagRight, walked. impl.DerPut, walked. What the program's table of types says of int64. A row of whole numbers: what is said of it. impl.mostSecond, impl.arcsRight, walked. impl.putSevens, walked. -/
import Derived.Test.YtfliacfeebooeaaGreatDoorCR03
import Derived.Test.YtfliacfeebooeaaGreatDoorCR01
import Derived.Deep.RegionHeld3
import Derived.Test.YtfliacfeebooeaaGreatDoorCR05
import Derived.Deep.RegionWith
import Derived.Laws.Bits128
import Derived.Laws.BitsAllLaws
import Derived.Handy
import Derived.Deep.QuietTactic
import Derived.BigQuiet
namespace Go.Proofs.YtfliacfeebooeaaGreatDoor
open Go.RowKit Go.Lib

/-- 'string(b)' of a row that was just laid. -/
theorem convertLit (w : World) (cs : Array Value) (xs : List Int) (hc : cs = (xs.map (Value.int .u8)).toArray) (n : Nat) (hn : xs.length = n) (T : Nat) :
    (convert 94 9 (.slice (some ⟨w.heap.size, 0, none⟩) n n)).run Tryz.prog (w.alloc (.cells cs T (0, 0))) = .ok (.string (strOfNums xs)) (w.alloc (.cells cs T (0, 0))) := by
  subst hc
  refine run_convert_bytes_arg _ 94 5 Tryz.underlying94 Tryz.underlying5 w.heap.size 0 n n xs hn ?_ 9 Tryz.underlying9
  intro i hi
  rw [Nat.zero_add, cell_of_row _ _ i _ T (0, 0) (heap_alloc_new w _)]
  have hi' : i < xs.length := by omega
  simp [hi', List.getD]
theorem convertLit2 (w : World) (o : Obj) (cs : Array Value) (xs : List Int) (hc : cs = (xs.map (Value.int .u8)).toArray) (n : Nat) (hn : xs.length = n) (T : Nat) :
    (convert 94 9 (.slice (some ⟨w.heap.size + 1, 0, none⟩) n n)).run Tryz.prog ((w.alloc o).alloc (.cells cs T (0, 0))) = .ok (.string (strOfNums xs)) ((w.alloc o).alloc (.cells cs T (0, 0))) := by
  have h := convertLit (w.alloc o) cs xs hc n hn T
  simpa using h
theorem strJoin_eq (t : Int) (b : ByteArray) (l : List Int) (h : lenD b.size = l) : strOfNums (t :: l) ++ b = thingD t b := by rw [thingD, headD, h]
set_option maxHeartbeats 1000000 in
set_option maxRecDepth 100000 in
theorem specThing (t : Int) (b : ByteArray) (w : World) (h0 : 0 ≤ t) (h1 : t ≤ 255) (hb : b.size ≤ 20000) :
    Calls Tryz.prog 49 #[.int .i64 t, .string b] w fun e w' => e = .returned (.string (thingD t b)) ∧ Below w.heap.size w w' := by
  by_cases c1 : b.size < 128
  · have hcv := convertLit w #[.int .u8 t, .int .u8 (b.size : Int)] [t, (b.size : Int)] rfl 2 rfl 5
    have hsz : (strOfNums [t, (b.size : Int)]).size = 2 := by rw [strOfNums_size]; rfl
    have HF : Hid (strOfNums [t, (b.size : Int)] ++ b = thingD t b) := strJoin_eq _ _ _ (by rw [lenD, if_pos c1])
    generalize strOfNums [t, (b.size : Int)] = s at *
    go_enter Tryz.func49, Tryz.ntmps49
    go_wp2
    go_ret
    exact ⟨by rw [← HF.out]; rfl, (Below.refl _ _).alloc (Nat.le_refl _) _⟩
  by_cases c2 : b.size < 256
  · have hcv := fun o => convertLit2 w o #[.int .u8 t, .int .u8 129, .int .u8 (b.size : Int)] [t, 129, (b.size : Int)] rfl 3 rfl 5
    have hsz : (strOfNums [t, 129, (b.size : Int)]).size = 3 := by rw [strOfNums_size]; rfl
    have HF : Hid (strOfNums [t, 129, (b.size : Int)] ++ b = thingD t b) := strJoin_eq _ _ _ (by rw [lenD, if_neg c1, if_pos c2])
    generalize strOfNums [t, 129, (b.size : Int)] = s at *
    go_enter Tryz.func49, Tryz.ntmps49
    go_wp2
    go_ret
    exact ⟨by rw [← HF.out]; rfl, ((Below.refl _ _).alloc (Nat.le_refl _) _).alloc (by simp) _⟩
  · have hcv := fun o => convertLit2 w o #[.int .u8 t, .int .u8 130, .int .u8 ((b.size : Int) / 256), .int .u8 ((b.size : Int) % 256)] [t, 130, (b.size : Int) / 256, (b.size : Int) % 256] rfl 4 rfl 5
    have hsz : (strOfNums [t, 130, (b.size : Int) / 256, (b.size : Int) % 256]).size = 4 := by rw [strOfNums_size]; rfl
    have HF : Hid (strOfNums [t, 130, (b.size : Int) / 256, (b.size : Int) % 256] ++ b = thingD t b) := strJoin_eq _ _ _ (by rw [lenD, if_neg c1, if_neg c2]; simp)
    generalize strOfNums [t, 130, (b.size : Int) / 256, (b.size : Int) % 256] = s at *
    go_enter Tryz.func49, Tryz.ntmps49
    go_wp2
    go_ret
    exact ⟨by rw [← HF.out]; rfl, ((Below.refl _ _).alloc (Nat.le_refl _) _).alloc (by simp) _⟩
end Go.Proofs.YtfliacfeebooeaaGreatDoor
namespace Go.Proofs.YtfliacfeebooeaaGreatDoor
open Go.RowKit Go.Lib

theorem as00 (a : Int) (b : ByteArray) (w : World) : (Instr.typeAssert (.iface 122 (.agg #[.int .i64 a, .string b])) 155 107 true).run Tryz.prog w = .ok (.tuple #[.agg #[.int .i64 0], .bool false]) w := by kernel_rfl
theorem as01 (a : Int) (b : ByteArray) (w : World) : (Instr.typeAssert (.iface 122 (.agg #[.int .i64 a, .string b])) 155 119 true).run Tryz.prog w = .ok (.tuple #[.agg #[.slice none 0 0], .bool false]) w := by kernel_rfl
theorem as02 (a : Int) (b : ByteArray) (w : World) : (Instr.typeAssert (.iface 122 (.agg #[.int .i64 a, .string b])) 155 122 true).run Tryz.prog w = .ok (.tuple #[.agg #[.int .i64 a, .string b], .bool true]) w := by kernel_rfl
theorem as10 (a : Int) (w : World) : (Instr.typeAssert (.iface 107 (.agg #[.int .i64 a])) 155 107 true).run Tryz.prog w = .ok (.tuple #[.agg #[.int .i64 a], .bool true]) w := by kernel_rfl
theorem as20 (a : Value) (w : World) : (Instr.typeAssert (.iface 119 (.agg #[a])) 155 107 true).run Tryz.prog w = .ok (.tuple #[.agg #[.int .i64 0], .bool false]) w := by kernel_rfl
theorem as21 (a : Value) (w : World) : (Instr.typeAssert (.iface 119 (.agg #[a])) 155 119 true).run Tryz.prog w = .ok (.tuple #[.agg #[a], .bool true]) w := by kernel_rfl
end Go.Proofs.YtfliacfeebooeaaGreatDoor
namespace Go.Proofs.YtfliacfeebooeaaGreatDoor
open Go.RowKit Go.Lib


set_option maxHeartbeats 1000000 in
set_option maxRecDepth 100000 in
theorem joinTexts (a b : ByteArray) (w : World) (ha : a.size ≤ 1000000) (hb : b.size ≤ 1000000) :
    Calls Tryz.prog 74 #[.string a, .string b] w fun e w' => e = .returned (.string (a ++ b)) ∧ Below w.heap.size w w' := by
  obtain ⟨i0, hi, hz0, hz1, hz2⟩ := info_parts infoByte
  go_enter Tryz.func74, Tryz.ntmps74
  go_wp2_with (at_make; refine wpList_make_full _ rfl _ _ 94 rfl w.heap.size 5 i0 (.int .u8 0) 1 Tryz.underlying94 hi hz0 hz1 .i64 .i64 _ _ (a.size + b.size) rfl rfl ?c1 ?c2 ?c3 ?c4 ?c5 ?_)
  case c1 => omega
  case c2 => omega
  case c3 => rw [hz2]; omega
  case c4 => unfold maxLen; omega
  case c5 => exact Nat.le_refl _
  intro w1 hown hgrow
  obtain ⟨hrow, hlen⟩ := rowOf hown rfl
  have hB1 : Below w.heap.size w w1 := (Below.refl _ w).grown hgrow (Nat.le_refl _) (fun k hk => by cases hk)
  generalize (madeCells #[Value.int IntKind.u8 0] (a.size + b.size)).toList = L at hrow hlen
  have la : (byteCells a.data.toList).length = a.size := by rw [byteCells_length, ← size_eq]
  have lb : (byteCells b.data.toList).length = b.size := by rw [byteCells_length, ← size_eq]
  clear hown hgrow
  go_wp2_with (refine wpList_copy_str rfl (.tmp 12) (.tmp 13) 94 9 rfl 5 Tryz.underlying94 byteSize _ _ _ a rfl rfl w.heap.size 0 L 5 hrow (fun _ => rfl) ?d2 ?d3 w.heap.size w hB1 (Nat.le_refl _) ?_)
  case d2 => omega
  case d3 => omega
  intro w2 H2 hB2 hs2
  have hlen2 : (splice L 0 (byteCells a.data.toList)).length = a.size + b.size := by rw [length_splice _ _ _ (by omega)]; exact hlen
  have HF : Hid (∀ w3 : World, w3.heap[w.heap.size]? = some (.cells (splice (splice L 0 (byteCells a.data.toList)) a.size (byteCells b.data.toList)).toArray 5 (0, 0)) →
      (convert 94 9 (.slice (some ⟨w.heap.size, 0, none⟩) (a.size + b.size) (a.size + b.size))).run Tryz.prog w3 = .ok (.string (a ++ b)) w3) := by
    intro w3 h3
    have e := splice_two L (byteCells a.data.toList) (byteCells b.data.toList) (by omega)
    rw [la] at e
    rw [e] at h3
    have h4 : w3.heap[w.heap.size]? = some (.cells (byteCells (a.data.toList ++ b.data.toList) ++ []).toArray 5 (0, 0)) := by simpa [byteCells] using h3
    have := run_convert_row (P := Tryz.prog) (src := 94) (dst := 9) (cap := a.size + b.size) Tryz.underlying94 Tryz.underlying5 Tryz.underlying9 h4
    rw [List.length_append, ← size_eq, ← size_eq, ofBytes_append] at this
    exact this
  clear hrow hB1 hs2 la lb hlen
  by_cases hb0 : b = ByteArray.empty
  · subst hb0
    go_wp2_with (refine wpList_copy_str rfl (.tmp 18) (.tmp 19) 94 9 rfl 5 Tryz.underlying94 byteSize _ _ _ ByteArray.empty rfl rfl w.heap.size a.size (splice L 0 (byteCells a.data.toList)) 5 H2.out ?e1 ?e2 ?e3 w.heap.size w hB2 (Nat.le_refl _) ?_)
    case e1 => intro h; simp at h
    case e2 => simp
    case e3 => simp; omega
    intro w3 H3 hB3 _
    have hcv := HF.out w3 H3.out
    simp only [ByteArray.size_empty, Nat.add_zero] at hcv
    clear hlen2 H2 hB2
    go_wp2
    go_ret
    exact ⟨by simp, hB3⟩
  · go_wp2_with (refine wpList_copy_str rfl (.tmp 18) (.tmp 19) 94 9 rfl 5 Tryz.underlying94 byteSize _ _ _ b rfl rfl w.heap.size a.size (splice L 0 (byteCells a.data.toList)) 5 H2.out ?f1 ?f2 ?f3 w.heap.size w hB2 (Nat.le_refl _) ?_)
    case f2 => exact Nat.le_refl _
    case f3 => omega
    intro w3 H3 hB3 _
    have hcv := HF.out w3 H3.out
    clear hlen2 H2 hB2
    go_wp2
    go_ret
    exact ⟨rfl, hB3⟩
end Go.Proofs.YtfliacfeebooeaaGreatDoor
namespace Go.Proofs.YtfliacfeebooeaaGreatDoor
open Go.RowKit Go.Lib

theorem tagPlain (t : Int) (b : ByteArray) (w : World) :
    Calls Tryz.prog 126 #[.iface 122 (.agg #[.int .i64 t, .string b])] w fun e w' => e = .returned (.int .i64 t) ∧ Below w.heap.size w w' := by
  have x0 := as00
  have x1 := as01
  have x2 := as02
  go_enter Tryz.func126, Tryz.ntmps126
  go_wp2
  go_ret
  exact ⟨rfl, (Below.refl _ _).alloc (Nat.le_refl _) _⟩
theorem bodyPlain (t : Int) (b : ByteArray) (w : World) :
    Calls Tryz.prog 161 #[.agg #[.int .i64 t, .string b]] w fun e w' => e = .returned (.string b) ∧ Below w.heap.size w w' := by
  go_enter Tryz.func161, Tryz.ntmps161
  go_wp2
  go_ret
  exact ⟨rfl, by repeat (first | exact Below.refl _ _ | refine Below.setCell ?_ (by simp) _ | refine Below.alloc ?_ (by simp) _)⟩
theorem methodPlain (v : Value) (w : World) : (Go.method 305 122 v "loop.example/g00371/impl.body").run Tryz.prog w = .ok (161, v) w := by kernel_rfl
set_option maxHeartbeats 1000000 in
set_option maxRecDepth 100000 in
/-- layThing at a thing whose body is laid already. -/
theorem layPlain (t : Int) (b : ByteArray) (w : World) (h0 : 0 ≤ t) (h1 : t ≤ 255) (hb : b.size ≤ 4000) :
    Calls Tryz.prog 101 #[.iface 122 (.agg #[.int .i64 t, .string b])] w fun e w' => e = .returned (.string (thingD t b)) ∧ Below w.heap.size w w' := by
  have hmt := methodPlain
  have ew : IntKind.u8.wrap t = t := by rw [IntKind.wrap_u8]; omega
  go_enter Tryz.func101, Tryz.ntmps101
  go_wp2_with fail
  refine (bodyPlain t b _).mono ?_
  rintro e w1 ⟨rfl, hb1⟩
  have s1 := hb1.size
  have HT1 : Hid (∀ V : World, Hid (Below w.heap.size w V) → Calls Tryz.prog 126 #[.iface 122 (.agg #[.int .i64 t, .string b])] V fun e W => e = .returned (.int .i64 t) ∧ Hid (Below w.heap.size w W)) := fun V hV => by
    refine (tagPlain t b V).mono ?_
    rintro e W ⟨rfl, hW⟩
    exact ⟨rfl, hV.out.trans (hW.mono hV.out.size)⟩
  have HT2 : Hid (∀ V : World, Hid (Below w.heap.size w V) → Calls Tryz.prog 127 #[.int .i64 (b.size : Int)] V fun e W => e = .returned (.string (strOfNums (lenD b.size))) ∧ Hid (Below w.heap.size w W) ∧ Hid (∀ k o, V.heap[k]? = some o → W.heap[k]? = some o)) := fun V hV => by
    refine (putLength b.size V hb).mono ?_
    rintro e W ⟨rfl, hW⟩
    refine ⟨rfl, hV.out.trans (hW.mono hV.out.size), fun k o hk => ?_⟩
    rw [hW.block k (heap_lt hk)]; exact hk
  have HF : Hid (∀ s l, s = strOfNums [t] → l = strOfNums (lenD b.size) → s ++ l ++ b = thingD t b) := fun s l hs hl => by
    subst hs hl
    unfold thingD headD
    congr 1
  have hl1 : (strOfNums [t]).size = 1 := rfl
  have hl2 : (strOfNums (lenD b.size)).size ≤ 3 := by rw [strOfNums_size]; exact lenD_le _
  have hcv := fun V => convertLit V #[.int .u8 t] [t] rfl 1 rfl 5
  have HE := HF.out _ _ rfl rfl
  have HCR := fun W2 k h => convertRow W2 k [t] 5 1 1 rfl h
  generalize strOfNums [t] = s at *
  generalize strOfNums (lenD b.size) = l at *
  have HE : Hid (s ++ l ++ b = thingD t b) := HE
  have HCR : Hid (∀ (W2 : World) (k : Nat), W2.heap[k]? = some (.cells ([t].map (Value.int .u8)).toArray 5 (0, 0)) → (convert 94 9 (.slice (some ⟨k, 0, none⟩) 1 1)).run Tryz.prog W2 = .ok (.string s) W2) := HCR
  have HJ : Hid (∀ (V : World) (x y : ByteArray), Hid (Below w.heap.size w V) → x.size ≤ 4 → y.size ≤ 4000 → Calls Tryz.prog 74 #[.string x, .string y] V fun e W => e = .returned (.string (x ++ y)) ∧ Hid (Below w.heap.size w W)) := fun V x y hV hx hy => by
    refine (joinTexts x y V (by omega) (by omega)).mono ?_
    rintro e W ⟨rfl, hW⟩
    exact ⟨rfl, hV.out.trans (hW.mono hV.out.size)⟩
  have B1 : Hid (Below w.heap.size w w1) := hb1
  have HA : Hid (∀ V o, Hid (Below w.heap.size w V) → Hid (Below w.heap.size w (V.alloc o))) := fun V o h => h.out.alloc h.out.size o
  clear hb1 hmt HF
  go_wp2_with fail
  have D1 : Hid (Below w.heap.size w w1.drew) := B1.out.drew
  go_region_with (first
    | (go_at_call 126; refine (HT1.out _ (by first | assumption | exact HA.out _ _ (by assumption))).mono ?_; rintro r W1 ⟨rfl, k1⟩)
    | (go_at_call 127; refine (HT2.out _ (by first | assumption | exact HA.out _ _ (by assumption))).mono ?_; rintro r W2 ⟨rfl, k2, e2⟩; (first | have hcv2 := HCR.out W2 _ (e2.out _ _ (heap_alloc_new _ _)) | skip))
    | (go_at_call 74; refine (HJ.out _ _ _ (by first | assumption | exact HA.out _ _ (by assumption)) (by omega) (by omega)).mono ?_; rintro r W3 ⟨rfl, k3⟩))
  all_goals
    have hl3 : (s ++ l).size ≤ 4 := by rw [ByteArray.size_append]; omega
    have HQ := HJ.out W3 (s ++ l) b k3 hl3 hb
    rw [HE.out] at HQ
    generalize s ++ l = q at *
    have HQ : Hid (Calls Tryz.prog 74 #[.string q, .string b] W3 fun e W => e = .returned (.string (thingD t b)) ∧ Hid (Below w.heap.size w W)) := HQ
    clear HT1 HT2 HJ HCR HE hcv
    go_wp2_with fail
    refine HQ.out.mono ?_
    rintro r W4 ⟨rfl, k4⟩
    go_wp2
    go_ret
    exact ⟨rfl, k4.out⟩
end Go.Proofs.YtfliacfeebooeaaGreatDoor
namespace Go.Proofs.YtfliacfeebooeaaGreatDoor
open Go.RowKit Go.Lib

theorem and31 (n : Int) : bits .and .i64 n 31 = n % 32 := by
  have h31 : (BitVec.ofInt 64 31).toNat = 2 ^ 5 - 1 := by decide
  have key : (BitVec.ofInt 64 n &&& BitVec.ofInt 64 31).toNat = (n % ((2 ^ 64 : Nat) : Int)).toNat % 2 ^ 5 := by
    rw [BitVec.toNat_and, BitVec.toNat_ofInt, h31, Nat.and_two_pow_sub_one_eq_mod]
  show IntKind.i64.wrap ((BitVec.ofInt 64 n &&& BitVec.ofInt 64 31).toNat : Nat) = n % 32
  rw [key, IntKind.wrap_i64]
  omega
theorem implTag (n : Int) (w : World) :
    Calls Tryz.prog 105 #[.int .i64 n] w fun e w' => e = .returned (.bool (tagB n)) ∧ w' = w := by
  have e1 := and31 n
  by_cases h1 : 0 ≤ n
  · by_cases h2 : n ≤ 255
    · have HF : Hid (tagB n = (n % 32 != 31)) := by unfold Hid tagB; simp [h1, h2, bne, BEq.beq]
      go_enter Tryz.func105, Tryz.ntmps105
      go_wp2
      go_ret
      exact ⟨by rw [HF.out]; rfl, rfl⟩
    · have HF : Hid (tagB n = false) := by unfold Hid tagB; simp [h2]
      go_enter Tryz.func105, Tryz.ntmps105
      go_wp2
      go_ret
      exact ⟨by rw [HF.out]; rfl, rfl⟩
  · have HF : Hid (tagB n = false) := by unfold Hid tagB; simp [h1]
    go_enter Tryz.func105, Tryz.ntmps105
    go_wp2
    go_ret
    exact ⟨by rw [HF.out]; rfl, rfl⟩
end Go.Proofs.YtfliacfeebooeaaGreatDoor
namespace Go.Proofs.YtfliacfeebooeaaGreatDoor
open Go.RowKit Go.Lib

theorem implDerPut (t : Int) (b : ByteArray) (w : World) (hb : b.size ≤ maxLen) :
    Calls Tryz.prog 76 #[.int .i64 t, .string b] w fun e w' => e = .returned (.string (putD t b)) ∧ Below w.heap.size w w' := by
  unfold maxLen at hb
  cases ht : tagB t with
  | false =>
    have HF : Hid (putD t b = ByteArray.empty) := putD_tag ht
    go_enter Tryz.func76, Tryz.ntmps76
    go_wp2_with fail
    refine (implTag t _).mono ?_
    rintro e w' ⟨rfl, rfl⟩
    rw [ht]
    go_wp2
    go_ret
    exact ⟨by rw [HF.out]; rfl, Below.refl _ _⟩
  | true =>
    obtain ⟨q0, q1, _⟩ := tagB_iff.1 ht
    by_cases hl : 4000 < b.size
    · have HF : Hid (putD t b = ByteArray.empty) := putD_long hl
      go_enter Tryz.func76, Tryz.ntmps76
      go_wp2_with fail
      refine (implTag t _).mono ?_
      rintro e w' ⟨rfl, rfl⟩
      rw [ht]
      go_wp2
      go_ret
      exact ⟨by rw [HF.out]; rfl, Below.refl _ _⟩
    · have HF : Hid (putD t b = thingD t b) := putD_right ht (by omega)
      go_enter Tryz.func76, Tryz.ntmps76
      go_wp2_with fail
      refine (implTag t _).mono ?_
      rintro e w' ⟨rfl, rfl⟩
      rw [ht]
      go_wp2_with fail
      refine (layPlain t b _ q0 q1 (by omega)).mono ?_
      rintro e w' ⟨rfl, hb⟩
      go_wp2
      go_ret
      exact ⟨by rw [HF.out]; rfl, hb⟩
end Go.Proofs.YtfliacfeebooeaaGreatDoor
namespace Go.Proofs.YtfliacfeebooeaaGreatDoor
open Go.RowKit
theorem infoLong : (Tryz.prog.info? 2).map (fun i => (i.zero, i.size, i.bytes)) = some (some (.int .i64 0), 1, 8) := by kernel_rfl
end Go.Proofs.YtfliacfeebooeaaGreatDoor
namespace Go.Proofs.YtfliacfeebooeaaGreatDoor
open Go.RowKit

/-- The numbers zs lie behind the address (none at all: any address serves). -/
def IsInts (w : World) (a : Option Addr) (zs : List Int) : Prop := zs = [] ∨ ∃ b o, a = some ⟨b, o, none⟩ ∧ ∀ i, i < zs.length → w.cell? ⟨b, o + i, none⟩ = some (.int .i64 (zs.getD i 0))
/-- .. and its block lies below B. -/
def IntsBelow (B : Nat) (a : Option Addr) (zs : List Int) : Prop := zs = [] ∨ ∀ x, a = some x → x.block < B
theorem IsInts.below {B : Nat} {w w' : World} {a : Option Addr} {zs : List Int} (h : IsInts w a zs) (hb : Below B w w') (hB : IntsBelow B a zs) : IsInts w' a zs := by
  rcases h with rfl | ⟨b, o, rfl, hc⟩
  · exact .inl rfl
  · rcases hB with rfl | hB
    · exact .inl rfl
    · exact .inr ⟨b, o, rfl, fun i hi => by rw [hb.cell (p := ⟨b, o + i, none⟩) (hB ⟨b, o, none⟩ rfl)]; exact hc i hi⟩
theorem IntsBelow.mono {B B' : Nat} {a : Option Addr} {zs : List Int} (h : IntsBelow B a zs) (hB : B ≤ B') : IntsBelow B' a zs := by
  rcases h with h | h
  · exact .inl h
  · exact .inr fun x hx => Nat.lt_of_lt_of_le (h x hx) hB
theorem IsInts.lt {w : World} {a : Option Addr} {zs : List Int} (h : IsInts w a zs) : IntsBelow w.heap.size a zs := by
  rcases h with rfl | ⟨b, o, rfl, hc⟩
  · exact .inl rfl
  · by_cases h0 : zs.length = 0
    · exact .inl (List.eq_nil_of_length_eq_zero h0)
    · refine .inr fun x hx => ?_
      cases hx
      exact World.block_lt_of_cell? w _ (hc 0 (by omega))
theorem IsInts.keep {w w' : World} {a : Option Addr} {zs : List Int} (h : IsInts w a zs) (hb : Below w.heap.size w w') : IsInts w' a zs := h.below hb h.lt
def lCells (zs : List Int) : List Value := zs.map (Value.int .i64)
theorem IsInts.row {w : World} {g : Nat} {t : TypeId} {zs : List Int} {rest : List Value} (h : w.heap[g]? = some (.cells (lCells zs ++ rest).toArray t (0, 0))) : IsInts w (some ⟨g, 0, none⟩) zs :=
  .inr ⟨g, 0, rfl, fun i hi => by
    rw [Nat.zero_add, cell_of_row w g i _ t (0, 0) h]
    simp [lCells, List.getD, hi, List.getElem?_append_left]⟩
theorem IsInts.at {w : World} {a : Option Addr} {zs : List Int} (h : IsInts w a zs) (h0 : zs ≠ []) : ∃ b o, a = some ⟨b, o, none⟩ ∧ ∀ i, i < zs.length → w.cell? ⟨b, o + i, none⟩ = some (.int .i64 (zs.getD i 0)) := by
  rcases h with h | h
  · exact absurd h h0
  · exact h
end Go.Proofs.YtfliacfeebooeaaGreatDoor
namespace Go.Proofs.YtfliacfeebooeaaGreatDoor
open Go.RowKit

theorem mostSecond (x : Int) (w : World) :
    Calls Tryz.prog 117 #[.int .i64 x] w fun e w' => e = .returned (.int .i64 (most2 x)) ∧ w' = w := by
  by_cases h : x = 2
  · have HF : Hid (most2 x = 100) := if_pos h
    subst h
    go_enter Tryz.func117, Tryz.ntmps117
    go_wp2
    go_ret
    exact ⟨by rw [HF.out]; rfl, rfl⟩
  · have HF : Hid (most2 x = 39) := if_neg h
    have e1 : (x == 2) = false := by rw [beq_eq_false_iff_ne]; exact h
    go_enter Tryz.func117, Tryz.ntmps117
    go_wp2
    go_ret
    exact ⟨by rw [HF.out]; rfl, rfl⟩
theorem IsInts.atZ {w : World} {a : Option Addr} {zs : List Int} (h : IsInts w a zs) (h0 : zs ≠ []) : ∃ b o, a = some ⟨b, o, none⟩ ∧ ∀ i, i < zs.length → w.cell? ⟨b, o + i, none⟩ = some (.int .i64 (zs.getD i 0)) := by
  rcases h with h | h
  · exact absurd h h0
  · exact h
set_option maxHeartbeats 1000000 in
set_option maxRecDepth 100000 in
theorem arcsRight (a : Option Addr) (zs : List Int) (c : Nat) (w : World) (hl : zs.length ≤ 1048576) (hcap : zs.length ≤ c) (ha : IsInts w a zs) :
    Calls Tryz.prog 94 #[.slice a zs.length c] w fun e w' => e = .returned (.bool (arcsB zs)) ∧ Below w.heap.size w w' := by
  by_cases h1 : zs.length < 2 ∨ 10 < zs.length
  · have HF : Hid (arcsB zs = false) := by
      show _ = _
      rw [← Bool.not_eq_true, arcsB_iff]; omega
    generalize zs.length = n at *
    clear ha
    rcases h1 with h1 | h1
    all_goals
      go_enter Tryz.func94, Tryz.ntmps94
      go_wp2_with fail
      go_ret
      exact ⟨by rw [HF.out]; rfl, Below.refl _ _⟩
  obtain ⟨b, o, rfl, hc⟩ := ha.atZ (by intro h; rw [h] at h1; simp at h1)
  have c0 := hc 0 (by omega)
  have c1 := hc 1 (by omega)
  rw [Nat.add_zero] at c0
  have HI : Hid (∀ i, i < zs.length → w.cell? ⟨b, o + i, none⟩ = some (.int .i64 (zs.getD i 0))) := hc
  have HIF : Hid (arcsB zs = true ↔ 2 ≤ zs.length ∧ zs.length ≤ 10 ∧ 0 ≤ zs.getD 0 0 ∧ zs.getD 0 0 ≤ 2 ∧ 0 ≤ zs.getD 1 0 ∧ zs.getD 1 0 ≤ most2 (zs.getD 0 0) ∧ ∀ j, 2 ≤ j → j < zs.length → 0 ≤ zs.getD j 0 ∧ zs.getD j 0 ≤ 2147483647) := arcsB_iff
  clear hc ha
  obtain ⟨n, hn⟩ : ∃ n, n = zs.length := ⟨_, rfl⟩
  obtain ⟨x0, hx0⟩ : ∃ x, x = zs.getD 0 0 := ⟨_, rfl⟩
  obtain ⟨x1, hx1⟩ : ∃ x, x = zs.getD 1 0 := ⟨_, rfl⟩
  rw [← hx0] at c0 HIF
  rw [← hx1] at c1 HIF
  rw [← hn] at HI HIF hl hcap h1 ⊢
  have HIF2 := HIF.out
  have h2 : 2 ≤ n := by omega
  have h10 : n ≤ 10 := by omega
  have i0 : (0 : Int) < (n : Int) := by omega
  have i1 : (1 : Int) < (n : Int) := by omega
  have j0 : 0 < n := by omega
  have j1 : 1 < n := by omega
  clear hx0 hx1 hn HIF h1
  by_cases g0 : x0 < 0
  · have HF : Hid (arcsB zs = false) := by
      show _ = _
      rw [← Bool.not_eq_true, HIF2]; omega
    clear HIF2
    go_enter Tryz.func94, Tryz.ntmps94
    go_wp2_with fail
    go_quiet (fail)
    clear c0 c1 i0 i1 j0 j1
    go_wp2_with fail
    go_ret
    exact ⟨by rw [HF.out]; rfl, below_drewN (Below.refl _ _) _⟩
  by_cases g1 : 2 < x0
  · have HF : Hid (arcsB zs = false) := by
      show _ = _
      rw [← Bool.not_eq_true, HIF2]; omega
    clear HIF2
    go_enter Tryz.func94, Tryz.ntmps94
    go_wp2_with fail
    go_quiet (fail)
    clear c0 c1 i0 i1 j0 j1
    go_wp2_with fail
    go_ret
    exact ⟨by rw [HF.out]; rfl, below_drewN (Below.refl _ _) _⟩
  by_cases g2 : x1 < 0
  · have HF : Hid (arcsB zs = false) := by
      show _ = _
      rw [← Bool.not_eq_true, HIF2]; omega
    clear HIF2
    go_enter Tryz.func94, Tryz.ntmps94
    go_wp2_with fail
    go_quiet (fail)
    clear c0 c1 i0 i1 j0 j1
    go_wp2_with fail
    go_ret
    exact ⟨by rw [HF.out]; rfl, below_drewN (Below.refl _ _) _⟩
  by_cases g3 : most2 x0 < x1
  · have HF : Hid (arcsB zs = false) := by
      show _ = _
      rw [← Bool.not_eq_true, HIF2]; omega
    clear HIF2
    go_enter Tryz.func94, Tryz.ntmps94
    go_wp2_with fail
    go_quiet (fail)
    clear c0 c1 i0 i1 j0 j1
    go_wp2_with fail
    refine (mostSecond _ _).mono ?_
    rintro e w' ⟨rfl, rfl⟩
    generalize most2 x0 = m2 at *
    go_wp2_with fail
    go_ret
    exact ⟨by rw [HF.out]; rfl, below_drewN (Below.refl _ _) _⟩
  · have HIF : Hid (arcsB zs = true ↔ ∀ j, 2 ≤ j → j < n → 0 ≤ zs.getD j 0 ∧ zs.getD j 0 ≤ 2147483647) :=
      ⟨fun h => (HIF2.1 h).2.2.2.2.2.2, fun h => HIF2.2 ⟨h2, h10, by omega, by omega, by omega, by omega, h⟩⟩
    clear HIF2
    go_enter Tryz.func94, Tryz.ntmps94
    go_wp2_with fail
    go_quiet (fail)
    clear c0 c1 i0 i1 j0 j1
    go_wp2_with fail
    refine (mostSecond _ _).mono ?_
    rintro e w' ⟨rfl, rfl⟩
    generalize most2 x0 = m2 at *
    go_wp2_with fail
    case inl =>
      have hn2 : n = 2 := by omega
      subst hn2
      have HF : Hid (arcsB zs = true) := HIF.out.2 (fun j h3 h4 => by omega)
      refine wp_loop_rounds 1 ?_
      rw [rounds_succ]
      go_wp2_with fail
      go_ret
      exact ⟨by rw [HF.out]; rfl, below_drewN (Below.refl _ _) _⟩
    case inr =>
      go_loopw [40] (fun i wr => ∃ k : Nat, k + 2 ≤ n ∧ i = .int .i64 (k : Int) ∧ (∀ j, 2 ≤ j → j < k + 2 → 0 ≤ zs.getD j 0 ∧ zs.getD j 0 ≤ 2147483647) ∧ wr = w.drewN nq)
        (fun i _ => n - (intOf i).toNat)
      case atStart => exact ⟨0, h2, rfl, fun j h3 h4 => by omega, rfl⟩
      case round =>
        obtain ⟨k, hk, rfl, hgood, rfl⟩ := hrel
        have HGd : Hid (∀ j, 2 ≤ j → j < k + 2 → 0 ≤ zs.getD j 0 ∧ zs.getD j 0 ≤ 2147483647) := hgood
        clear hgood
        by_cases hlt : k + 2 < n
        · have ck : w.cell? ⟨b, o + 2 + k, none⟩ = some (.int .i64 (zs.getD (k + 2) 0)) := by
            have := HI.out (k + 2) hlt
            rw [show o + (k + 2) = o + 2 + k from by omega] at this
            exact this
          have hki : (k : Int) < ((n - 2 : Nat) : Int) := by omega
          have hkn : k < n - 2 := by omega
          obtain ⟨xk, hxk⟩ : ∃ x, x = zs.getD (k + 2) 0 := ⟨_, rfl⟩
          rw [← hxk] at ck
          have HX : Hid (xk = zs.getD (k + 2) 0) := hxk
          clear hxk
          by_cases ha0 : xk < 0
          · have HF : Hid (arcsB zs = false) := by
              show _ = _
              rw [← Bool.not_eq_true, HIF.out]
              intro h
              have := h (k + 2) (by omega) hlt
              rw [← HX.out] at this
              omega
            go_wp2_with fail
            go_ret
            exact ⟨by rw [HF.out]; rfl, below_drewN (Below.refl _ _) _⟩
          by_cases ha1 : 2147483647 < xk
          · have HF : Hid (arcsB zs = false) := by
              show _ = _
              rw [← Bool.not_eq_true, HIF.out]
              intro h
              have := h (k + 2) (by omega) hlt
              rw [← HX.out] at this
              omega
            go_wp2_with fail
            go_ret
            exact ⟨by rw [HF.out]; rfl, below_drewN (Below.refl _ _) _⟩
          · go_wp2_with fail
            go_roundw
            case rel =>
              refine ⟨k + 1, by omega, by go_num, fun j h3 h4 => ?_, trivial⟩
              by_cases ej : j = k + 2
              · subst ej; rw [← HX.out]; omega
              · exact HGd.out j h3 (by omega)
            case measure => simp [intOf]; omega
        · have hkn : ¬ (k : Int) < ((n - 2 : Nat) : Int) := by omega
          have HF : Hid (arcsB zs = true) := HIF.out.2 (fun j h3 h4 => HGd.out j h3 (by omega))
          go_wp2_with fail
          go_ret
          exact ⟨by rw [HF.out]; rfl, below_drewN (Below.refl _ _) _⟩
end Go.Proofs.YtfliacfeebooeaaGreatDoor
namespace Go.Proofs.YtfliacfeebooeaaGreatDoor
open Go.RowKit

theorem and127 (a : Int) (h0 : 0 ≤ a) (h1 : a < 256) : bits BinOp.and IntKind.u8 a 127 = a % 128 := by
  rw [u8_and a 127 h0 h1 (by decide) (by decide), show (127 : Int).toNat = 2 ^ 7 - 1 from rfl, Nat.and_two_pow_sub_one_eq_mod]
  omega
theorem or128I (x : Int) (h : 0 ≤ x) : bits BinOp.or IntKind.u8 (x % 256) 128 = x % 128 + 128 := by
  obtain ⟨n, rfl⟩ := Int.eq_ofNat_of_zero_le h
  exact or128 n
set_option maxHeartbeats 1000000 in
set_option maxRecDepth 100000 in
theorem putSevens (x : Nat) (w : World) (hx : x < 9223372036854775808) :
    Calls Tryz.prog 160 #[.int .i64 (x : Int)] w fun e w' => e = .returned (.string (strOfNums (sevL x))) ∧ Below w.heap.size w w' := by
  obtain ⟨i0, hi, hz0, hz1, hz2⟩ := info_parts infoByte
  have hcn := sevL_count hx
  go_enter Tryz.func160, Tryz.ntmps160
  go_wp2_with fail
  refine (len64 _ _ (by omega) (by omega)).mono ?_
  rintro e w' ⟨rfl, rfl⟩
  rw [show ((x : Int).toNat) = x from rfl]
  obtain ⟨c, hc⟩ : ∃ c, c = (sevL x).length := ⟨_, rfl⟩
  have hb64 : Lib.bitLen x ≤ 63 := Lib.bitLen_le _ 63 (by omega) (by omega)
  have hc1 : 1 ≤ c := by rw [hc]; exact sevL_pos x
  have HA : Hid (∀ i, 0 < i → i < c → (sevL x).getD (c - 1 - i) 0 = ((x / 128 ^ i % 128 + 128 : Nat) : Int)) := fun i h0 hi => by rw [hc]; exact sevL_at hx h0 (by omega)
  have HZ : Hid ((sevL x).getD (c - 1) 0 = ((x % 128 : Nat) : Int)) := by rw [hc]; exact sevL_last x
  have HC : Hid (c = (sevL x).length) := hc
  rw [← hc] at hcn
  generalize Lib.bitLen x = L at *
  clear hc
  have hmx : max (1 : Int) (((L : Int) + 6) / 7) = (c : Int) := by omega
  have hc9 : c ≤ 9 := by omega
  clear hcn
  go_wp2_with (at_make; refine wpList_make_full _ rfl _ _ 94 rfl w'.heap.size 5 i0 (.int .u8 0) 1 Tryz.underlying94 hi hz0 hz1 .i64 .i64 _ _ c rfl rfl ?c1 ?c2 ?c3 ?c4 ?c5 ?_)
  case c1 => omega
  case c2 => omega
  case c3 => rw [hz2]; omega
  case c4 => unfold maxLen; omega
  case c5 => exact Nat.le_refl _
  intro w1 hown hgrow
  have hB1 : Below w'.heap.size w' w1 := (Below.refl _ w').grown hgrow (Nat.le_refl _) (fun k hk => by cases hk)
  obtain ⟨hrow, hlen⟩ := rowOf hown rfl
  generalize (madeCells #[Value.int IntKind.u8 0] c).toList = M0 at hrow hlen
  clear hgrow hown
  go_wp2_with fail
  go_loopw [15] (fun i wr => ∃ (k : Nat) (M : List Value), k ≤ c ∧ i = .int .i64 (k : Int) ∧ M.length = c ∧ wr.heap[w'.heap.size]? = some (.cells M.toArray 5 (0, 0)) ∧
      (∀ j, j < c → c - k ≤ j → M[j]? = some (.int .u8 ((x / 128 ^ (c - 1 - j) % 128 + 128 : Nat) : Int))) ∧ Below w'.heap.size w' wr)
    (fun i _ => c - (intOf i).toNat)
  case atStart => exact ⟨0, M0, Nat.zero_le _, rfl, hlen, hrow, fun j h1 h2 => by omega, hB1⟩
  case round =>
    obtain ⟨k, M, hk, rfl, hM, hr, hat, hbel⟩ := hrel
    have HAt : Hid (∀ j, j < c → c - k ≤ j → M[j]? = some (.int .u8 ((x / 128 ^ (c - 1 - j) % 128 + 128 : Nat) : Int))) := hat
    have HR : Hid (wr.heap[w'.heap.size]? = some (.cells M.toArray 5 (0, 0))) := hr
    clear hat hrow hlen hB1
    by_cases hlt : k < c
    · obtain ⟨j, hj⟩ : ∃ j, j = c - 1 - k := ⟨_, rfl⟩
      have hjc : j < c := by omega
      have e1 : (c : Int) - 1 - (k : Int) = (j : Int) := by omega
      have hv : wr.cell? ⟨w'.heap.size, j, none⟩ = some (M[j]'(by omega)) := rowFacts hr j _ (List.getElem?_eq_getElem (by omega))
      generalize M[j]'(by omega) = v0 at hv
      have hf : wr.frozen? ⟨w'.heap.size, j, none⟩ = false := frozen_of_row wr _ j _ _ hr
      have HJ : Hid (j = c - 1 - k) := hj
      have ho := or128I ((x : Int) / 2 ^ (7 * k)) (Int.ediv_nonneg (by omega) (Int.le_of_lt (Int.pow_pos (by decide))))
      have HB2 : Hid (∀ v, Below w'.heap.size w' (wr.setCell ⟨w'.heap.size, j, none⟩ v)) := fun v => hbel.setCell (Nat.le_refl _) v
      have HV : Hid (((x / 128 ^ k % 128 + 128 : Nat) : Int) = (x : Int) / 2 ^ (7 * k) % 128 + 128) := by
        show _ = _
        have : (128 : Nat) ^ k = 2 ^ (7 * k) := by rw [Nat.pow_mul]
        rw [this]; simp
      clear hj hr hbel
      go_wp2
      go_roundw
      case rel =>
        have hj := HJ.out
        refine ⟨k + 1, M.set j (.int .u8 ((x : Int) / 2 ^ (7 * k) % 128 + 128)), by omega, by go_num, by simpa using hM, rowSet _ HR.out, ?_, HB2.out _⟩
        intro i hi1 hi2
        by_cases ei : i = j
        · subst ei
          rw [List.getElem?_set_self (by omega), show c - 1 - i = k from by omega, HV.out]
        · rw [List.getElem?_set_ne (by omega)]
          exact HAt.out i hi1 (by omega)
      case measure => simp [intOf]; omega
    · obtain rfl : k = c := by omega
      obtain ⟨j, hj⟩ : ∃ j, j = k - 1 := ⟨_, rfl⟩
      have hjk : j < k := by omega
      have e1 : (k : Int) - 1 = (j : Int) := by omega
      have hv : wr.cell? ⟨w'.heap.size, j, none⟩ = some (.int .u8 ((x : Int) % 128 + 128)) := by
        refine rowFacts hr j _ ?_
        rw [HAt.out j (by omega) (by omega), show k - 1 - j = 0 from by omega]
        simp
      have hf : wr.frozen? ⟨w'.heap.size, j, none⟩ = false := frozen_of_row wr _ j _ _ hr
      have hand : bits BinOp.and IntKind.u8 ((x : Int) % 128 + 128) 127 = (x : Int) % 128 := by
        rw [and127 _ (by omega) (by omega)]; omega
      have hcv := convertRow (wr.setCell ⟨w'.heap.size, j, none⟩ (.int .u8 ((x : Int) % 128))) w'.heap.size (sevL x) 5 k k HC.out.symm (by
        rw [rowSet _ hr]
        congr 3
        apply List.ext_getElem?
        intro i
        rcases Nat.lt_or_ge i k with h | h
        · have hl := HC.out
          by_cases ei : i = j
          · subst ei
            have hz := HZ.out
            rw [List.getElem?_set_self (by omega)]
            rw [← hj, List.getD, List.getElem?_eq_getElem (by omega)] at hz
            simp only [Option.getD_some] at hz
            rw [List.getElem?_map, List.getElem?_eq_getElem (by omega), hz]
            simp
          · rw [List.getElem?_set_ne (by omega), HAt.out i h (by omega)]
            have hz := HA.out (k - 1 - i) (by omega) (by omega)
            rw [show k - 1 - (k - 1 - i) = i from by omega, List.getD, List.getElem?_eq_getElem (by omega)] at hz
            simp only [Option.getD_some] at hz
            rw [List.getElem?_map, List.getElem?_eq_getElem (by omega), hz]
            rfl
        · rw [List.getElem?_eq_none (by simp; omega), List.getElem?_eq_none (by have := HC.out; simp; omega)])
      have HB2 : Hid (∀ v, Below w'.heap.size w' (wr.setCell ⟨w'.heap.size, j, none⟩ v)) := fun v => hbel.setCell (Nat.le_refl _) v
      clear hr HR HAt hbel hj
      go_wp2
      go_ret
      exact ⟨rfl, HB2.out _⟩
end Go.Proofs.YtfliacfeebooeaaGreatDoor
