/- spec.PutText and impl.PutText, walked. Requests as texts. Plain, but for what their values are. 'spec.DrawBase64', 'spec.DrawBase64Read', walked: some texts. '.l04Secret', walked: some number. 'spec.DrawJwsSign', walked: a number, a nonce, a url, a body. Bits cut anew, six by six and eight by eight. Plain mathematics. Reading Base64: what each sign stands for, and eight by eight again. Plain mathematics. Base64 comes back. Plain mathematics. A text cut at each dot. Plain mathematics. Texts compared; what l09Read tells. Plain. -/
import Derived.Test.YtjkmfjegphpjkaaGreatDoorJW05
import Derived.Test.YtjkmfjegphpjkaaGreatDoorJW04
import Derived.Test.YtjkmfjegphpjkaaGreatDoorJW02
import Derived.Test.YtjkmfjegphpjkaaGreatDoorJW03
import Derived.Test.YtjkmfjegphpjkaaGreatDoorJW01
import Derived.OwnWalk
import Derived.Deep.Cut
import Derived.Deep.RegionWith
import Derived.Deep.OwnRows
import Derived.Lib.SplitLaws
import Derived.Lib.IndexBytes
import Derived.Lib.IndexLaws
namespace Go.Proofs.YtjkmfjegphpjkaaGreatDoor
open Go.RowKit

theorem putF_lenT (f x : Nat) : (putF f x).length ≤ f + 1 := by
  induction f generalizing x with
  | zero => simp [putF]
  | succ f ih =>
    rw [putF]
    split
    · simp
    · simpa using ih (x / 128)
theorem putStr_size (f x : Nat) : (strOfNums (putF f x)).size ≤ f + 1 := by
  have := putF_lenT f x
  simpa [strOfNums, ByteArray.size] using this


set_option maxRecDepth 100000 in
theorem specPutText (t : ByteArray) (w : World) (hs : t.size ≤ 20000) :
    Calls Tryz.prog 66 #[.string t] w fun e w' => e = .returned (.string (strOfNums (putF 9 (foldI t.size)) ++ t)) ∧ Below w.heap.size w w' := by
  have hl := putStr_size 9 (foldI t.size)
  go_enter Tryz.func66, Tryz.ntmps66
  go_wp2_with fail
  refine (specPut _ _ (by omega) (by omega)).mono ?_
  rintro e w1 ⟨rfl, hb1⟩
  generalize hse : strOfNums (putF 9 (foldI t.size)) = s at *
  have HE : Hid (strOfNums (putF 9 (foldI t.size)) = s) := hse
  clear hse
  have hadd := fun W => run_string_add_sum (P := Tryz.prog) (w := W) s t (by omega)
  go_wp2
  go_ret
  exact ⟨by rw [HE.out]; rfl, hb1⟩
theorem specPutText_long (t : ByteArray) (w : World) (hs : 20000 < t.size) (hm : t.size ≤ maxLen) :
    Calls Tryz.prog 66 #[.string t] w fun e w' => e = .returned (.string ByteArray.empty) ∧ w' = w := by
  unfold maxLen at hm
  go_enter Tryz.func66, Tryz.ntmps66
  go_wp2
  go_ret
  exact ⟨rfl, rfl⟩
set_option maxRecDepth 100000 in
theorem implPutText (t : ByteArray) (w : World) (hs : t.size ≤ 20000) :
    Calls Tryz.prog 62 #[.string t] w fun e w' => e = .returned (.string (strOfNums (putF 9 (foldI t.size)) ++ t)) ∧ Below w.heap.size w w' := by
  have hl := putStr_size 9 (foldI t.size)
  have hd : decide (20000 < t.size) = false := by simp; omega
  go_enter Tryz.func62, Tryz.ntmps62
  go_wp2_with fail
  refine (tooLong t _ (by unfold maxLen; omega)).mono ?_
  rintro e w' ⟨rfl, rfl⟩
  go_wp2_with fail
  refine (implPut _ _ (by omega) (by omega)).mono ?_
  rintro e w1 ⟨rfl, hb1⟩
  generalize hse : strOfNums (putF 9 (foldI t.size)) = s at *
  have HE : Hid (strOfNums (putF 9 (foldI t.size)) = s) := hse
  clear hse
  go_wp2_with fail
  refine (joinTexts s t _ (by omega) (by omega)).mono ?_
  rintro e w2 ⟨rfl, hb2⟩
  have HB : Hid (Below w'.heap.size w' w2) := hb1.trans (hb2.mono hb1.size)
  clear hb1 hb2
  go_wp2
  go_ret
  exact ⟨by rw [HE.out]; rfl, HB.out⟩
theorem implPutText_long (t : ByteArray) (w : World) (hs : 20000 < t.size) (hm : t.size ≤ maxLen) :
    Calls Tryz.prog 62 #[.string t] w fun e w' => e = .returned (.string ByteArray.empty) ∧ w' = w := by
  have hd : decide (20000 < t.size) = true := by simp; omega
  go_enter Tryz.func62, Tryz.ntmps62
  go_wp2_with fail
  refine (tooLong t _ hm).mono ?_
  rintro e w' ⟨rfl, rfl⟩
  go_wp2
  go_ret
  exact ⟨rfl, rfl⟩
end Go.Proofs.YtjkmfjegphpjkaaGreatDoor
namespace Go.Proofs.YtjkmfjegphpjkaaGreatDoor
open Go.RowKit Go.Lib

/-- A text behind its length. -/
def putTx (t : ByteArray) : ByteArray := strOfNums (putF 9 (foldI t.size)) ++ t
def dotD : ByteArray := ⟨#[46]⟩
def jHead (key nonce : Int) (url : ByteArray) : ByteArray := putS key ++ putS nonce ++ putTx url
/-- The first two parts. -/
def jTwo (key nonce : Int) (url body : ByteArray) : ByteArray := b64D (jHead key nonce url) ++ dotD ++ b64D body
def jText (key nonce : Int) (url body : ByteArray) (e s : Int) : ByteArray := jTwo key nonce url body ++ dotD ++ b64D (putS e ++ putS s)
def jV (key nonce : Int) (url body : ByteArray) (sk se ss : Int) : Value := .agg #[.int .i64 key, .int .i64 nonce, .string url, .string body, .int .i64 sk, .int .i64 se, .int .i64 ss]
theorem b64D_size (s : ByteArray) : (b64D s).size ≤ 2 * s.size := by
  unfold b64D
  rw [strOfNums_size]
  have := b64I_len (bts s)
  rw [bts_len] at this
  exact this
theorem putTx_size (t : ByteArray) : (putTx t).size ≤ 10 + t.size := by
  have := putStr_size 9 (foldI t.size)
  rw [putTx, ByteArray.size_append]
  omega
theorem jHead_size (key nonce : Int) (url : ByteArray) : (jHead key nonce url).size ≤ 30 + url.size := by
  have h1 := putS_size key
  have h2 := putS_size nonce
  have h3 := putTx_size url
  rw [jHead, ByteArray.size_append, ByteArray.size_append]
  omega
theorem jTwo_size (key nonce : Int) (url body : ByteArray) : (jTwo key nonce url body).size ≤ 61 + 2 * url.size + 2 * body.size := by
  have h1 := b64D_size (jHead key nonce url)
  have h2 := b64D_size body
  have h3 := jHead_size key nonce url
  have h4 : dotD.size = 1 := rfl
  rw [jTwo, ByteArray.size_append, ByteArray.size_append, h4]
  omega
/-- Is what is asked right, whatever its signature is? -/
noncomputable def rqB (key nonce : Int) (url body : ByteArray) : Bool := rightG key && (timeB nonce && (nameB url && decide (body.size ≤ 2000)))
/-- What JwsSign tells. -/
noncomputable def jSign (x nonce : Int) (url body : ByteArray) : ByteArray :=
  if secB x = true ∧ timeB nonce = true ∧ nameB url = true ∧ body.size ≤ 2000 then
    jText (pubA x) nonce url body (signE x.toNat (jTwo (pubA x) nonce url body)) (signS x.toNat (jTwo (pubA x) nonce url body))
  else ⟨#[]⟩
theorem pub_rqB (x nonce : Int) (url body : ByteArray) : rqB (pubA x) nonce url body = (secB x && (timeB nonce && (nameB url && decide (body.size ≤ 2000)))) := by
  unfold rqB
  by_cases h : secB x = true
  · obtain ⟨n, rfl, h1, h2⟩ := secB_nat h
    rw [pubA_nat n h, pub_right h1 h2, h]
  · have e : rightG 0 = false := rightG_out (by omega)
    rw [pubA, if_neg h, e]
    rw [Bool.not_eq_true] at h
    rw [h]
open Classical in
theorem jurl_size {url : ByteArray} (h : nameB url = true) : url.size ≤ 40 := by
  unfold nameB at h
  have := of_decide_eq_true h
  exact this.2.1
end Go.Proofs.YtjkmfjegphpjkaaGreatDoor
namespace Go.Proofs.YtjkmfjegphpjkaaGreatDoor
open Go.RowKit

theorem made_bytesJ (n : Nat) : (madeCells #[Value.int IntKind.u8 0] n).toList = (List.replicate n (0 : Int)).map (Value.int .u8) := by
  rw [toList_madeCells_one, List.map_replicate]
theorem base64D_le (s : ByteArray) : (base64D s).size ≤ 2 * s.size := by
  unfold base64D
  split
  · exact Nat.zero_le _
  · exact b64D_size s
set_option maxRecDepth 100000 in
set_option maxHeartbeats 2000000 in
theorem drawBase64 (a : Option Addr) (len cap : Nat) (w : World) (hlen : len ≤ 1048576) (hc : CodeAt a len w) (hblk : ∀ x, 0 < len → a = some x → x.block < w.heap.size) :
    Calls Tryz.prog 5 #[.slice a len cap] w fun e w' => UpT 4002 e ∧ Below w.heap.size w w' := by
  obtain ⟨i0, hi, hz0, hz1', hz2'⟩ := info_parts infoByte
  have HC : Hid (CodeAt a len w) := hc
  have HBk : Hid (∀ x, 0 < len → a = some x → x.block < w.heap.size) := hblk
  clear hc hblk
  go_enter Tryz.func5, Tryz.ntmps5
  go_wp2_with fail
  refine (ss_source a len cap _ hlen HC.out HBk.out).mono ?_
  rintro e w1 ⟨rfl, h1⟩
  have H1 : Hid (SS w a len cap w1) := h1
  clear h1
  go_wp2_with fail
  refine (ss_one 15 (by omega) H1.out).mono ?_
  rintro e w2 ⟨hb, h2⟩
  have H2 : Hid (SS w a len cap w2) := h2
  clear h2
  rcases hb with rfl | rfl
  · go_wp2_with fail
    refine (ss_n 3 (by omega) H2.out).mono ?_
    rintro e w3 ⟨r, rfl, hr, h3, _⟩
    have H3 : Hid (SS w a len cap w3) := h3
    obtain ⟨v, hv, hvr⟩ : ∃ v : Nat, v ≤ 4001 ∧ IntKind.i64.wrap (3999 + (r : Int)) = (v : Int) := ⟨3999 + r, by omega, by rw [IntKind.wrap_i64]; omega⟩
    clear h3 hr
    go_wp2_with (at_make; refine wpList_make_full _ rfl _ _ 22 rfl w3.heap.size 5 i0 (.int .u8 0) 1 Tryz.underlying22 hi hz0 hz1' .i64 .i64 _ _ v rfl rfl ?c1 ?c2 ?c3 ?c4 ?c5 ?_)
    case c1 => omega
    case c2 => omega
    case c3 => rw [hz2']; omega
    case c4 => unfold maxLen; omega
    case c5 => exact Nat.le_refl _
    intro w4 hown hgrow
    have B4 : Hid (Below w.heap.size w w4) := H3.out.2.1.grown hgrow (Nat.le_of_lt H3.out.2.2.1) (fun k hk => by cases hk)
    rw [made_bytesJ] at hown
    have hcv := run_convert_own (P := Tryz.prog) (src := 22) (dst := 9) Tryz.underlying22 Tryz.underlying5 Tryz.underlying9 hown
    have hsz : (strOfNums (List.replicate v (0 : Int))).size ≤ 4002 := by rw [size_nums, List.length_replicate]; omega
    generalize strOfNums (List.replicate v (0 : Int)) = u at *
    clear hown hgrow
    go_wp2
    go_ret
    exact ⟨⟨u, hsz, rfl⟩, B4.out⟩
  · go_wp2_with fail
    refine (ss_n 12 (by omega) H2.out).mono ?_
    rintro e w3 ⟨r, rfl, hr, h3, _⟩
    have H3 : Hid (SS w a len cap w3) := h3
    have hr' : r ≤ 12 := by omega
    clear h3 hr
    go_wp2_with fail
    refine (ss_bytes r (by omega) H3.out).mono ?_
    rintro e w4 ⟨⟨t, ht, rfl⟩, h4⟩
    have B4 : Hid (Below w.heap.size w w4) := h4.2.1
    clear h4
    go_wp2
    go_ret
    exact ⟨⟨t, by omega, rfl⟩, B4.out⟩
set_option maxRecDepth 100000 in
set_option maxHeartbeats 2000000 in
theorem drawBase64Read (a : Option Addr) (len cap : Nat) (w : World) (hlen : len ≤ 1048576) (hc : CodeAt a len w) (hblk : ∀ x, 0 < len → a = some x → x.block < w.heap.size) :
    Calls Tryz.prog 9 #[.slice a len cap] w fun e w' => UpT 40 e ∧ Below w.heap.size w w' := by
  have HC : Hid (CodeAt a len w) := hc
  have HBk : Hid (∀ x, 0 < len → a = some x → x.block < w.heap.size) := hblk
  clear hc hblk
  go_enter Tryz.func9, Tryz.ntmps9
  go_wp2_with fail
  refine (ss_source a len cap _ hlen HC.out HBk.out).mono ?_
  rintro e w1 ⟨rfl, h1⟩
  have H1 : Hid (SS w a len cap w1) := h1
  clear h1
  go_wp2_with fail
  refine (ss_n 12 (by omega) H1.out).mono ?_
  rintro e w2 ⟨r, rfl, hr, h2, _⟩
  have H2 : Hid (SS w a len cap w2) := h2
  have hr' : r ≤ 12 := by omega
  clear h2 hr
  go_wp2_with fail
  refine (ss_bytes r (by omega) H2.out).mono ?_
  rintro e w3 ⟨⟨t, ht, rfl⟩, h3⟩
  have H3 : Hid (SS w a len cap w3) := h3
  clear h3
  go_wp2_with fail
  refine (specBase64 t _ (by unfold maxLen; omega)).mono ?_
  rintro e w4 ⟨rfl, h4⟩
  have H4 : Hid (SS w a len cap w4) := H3.out.keep h4
  have hz := base64D_le t
  generalize base64D t = u at *
  have hu : u.size ≤ 24 := by omega
  clear h4 hz
  go_wp2_with fail
  refine (ss_n 4 (by omega) H4.out).mono ?_
  rintro e w5 ⟨q, rfl, hq, h5, _⟩
  have H5 : Hid (SS w a len cap w5) := h5
  have hq' : q = 0 ∨ q = 1 ∨ 1 < q := by omega
  have B5 : Hid (Below w.heap.size w w5) := h5.2.1
  clear h5 hq
  rcases hq' with rfl | rfl | hq'
  · go_wp2_with fail
    refine (ss_spoil u (by omega) H5.out).mono ?_
    rintro e w6 ⟨⟨v, hv, rfl⟩, h6⟩
    have B6 : Hid (Below w.heap.size w w6) := h6.2.1
    clear h6
    go_wp2
    go_ret
    exact ⟨⟨v, by omega, rfl⟩, B6.out⟩
  · go_wp2_with fail
    refine (ss_pick 7 _ 5 _ [⟨#[65]⟩, ⟨#[65, 66]⟩, ⟨#[65, 65, 61, 61]⟩, ⟨#[65, 65, 65]⟩, ⟨#[45, 95, 45, 95]⟩, ⟨#[65, 65, 66]⟩, ⟨#[65, 32, 65]⟩] H5.out rfl (by omega) (by omega) (by decide)).mono ?_
    rintro e w6 ⟨⟨v, hv, rfl⟩, h6⟩
    have B6 : Hid (Below w.heap.size w w6) := h6.2.1
    clear h6
    go_wp2
    go_ret
    exact ⟨⟨v, by omega, rfl⟩, B6.out⟩
  · have q1 : ((q : Int) == 0) = false := by rw [beq_eq_false_iff_ne]; omega
    have q2 : ((q : Int) == 1) = false := by rw [beq_eq_false_iff_ne]; omega
    go_wp2
    go_ret
    exact ⟨⟨u, by omega, rfl⟩, B5.out⟩
end Go.Proofs.YtjkmfjegphpjkaaGreatDoor
namespace Go.Proofs.YtjkmfjegphpjkaaGreatDoor
open Go.RowKit

set_option maxRecDepth 100000 in
set_option maxHeartbeats 1000000 in
theorem secret_any (g : Nat) (a : Option Addr) (len cap : Nat) (w : World) (hs : Src g a len cap w) :
    Calls Tryz.prog 30 #[.pointer (some ⟨g, 0, none⟩)] w fun e w' => AnyI e ∧ Src g a len cap w' ∧ Grows g w w' := by
  have hglt := hs.lt
  have HS : Hid (Src g a len cap w) := hs
  clear hs
  go_enter Tryz.func30, Tryz.ntmps30
  go_wp2_with fail
  refine (one_any g a len cap 20 _ (by omega) HS.out).mono ?_
  rintro e w1 ⟨hb, hs1, ht1⟩
  have H1 : Hid (Src g a len cap w1) := hs1
  have G1 : Hid (Grows g w w1) := ht1.grows
  have z1 : w1.heap.size = w.heap.size := ht1.2
  clear hs1 ht1
  rcases hb with rfl | rfl
  · go_wp2_with fail
    refine (edge_any g a len cap _ H1.out).mono ?_
    rintro e w2 ⟨⟨v, hv, rfl⟩, hs2, hg2⟩
    have H2 : Hid (Src g a len cap w2) := hs2
    have G2 : Hid (Grows g w w2) := G1.out.trans hg2
    have z2 : w.heap.size ≤ w2.heap.size := G2.out.size
    clear hs2 hg2
    go_wp2_with fail
    refine (n_any g a len cap 5 _ (by omega) (H2.out.alloc _)).mono ?_
    rintro e w3 ⟨r, rfl, hr, hs3, ht3⟩
    have H3 : Hid (Src g a len cap w3) := hs3
    have G3 : Hid (Grows g w w3) := (G2.out.alloc _).trans ht3.grows
    have hrow : w3.heap[w2.heap.size]? = some (.cells #[.int .i64 0, .int .i64 (-1), .int .i64 1073741788, .int .i64 1073741789, .int .i64 v] 2 (0, 0)) := by
      rw [ht3.1.block w2.heap.size (by simp) (by intro e; have := Option.some.inj e; omega), heap_alloc_new]
    have hcell := cell_of_row w3 w2.heap.size r _ _ (0, 0) hrow
    have hr7 : r < 5 := by omega
    obtain ⟨u, hu, huc⟩ : ∃ u : Int, (-9223372036854775808 ≤ u ∧ u ≤ 9223372036854775807) ∧ w3.cell? ⟨w2.heap.size, r, none⟩ = some (.int .i64 u) := by
      rw [hcell]
      have hq : r = 0 ∨ r = 1 ∨ r = 2 ∨ r = 3 ∨ r = 4 := by omega
      rcases hq with rfl | rfl | rfl | rfl | rfl
      · exact ⟨0, by decide, rfl⟩
      · exact ⟨-1, by decide, rfl⟩
      · exact ⟨1073741788, by decide, rfl⟩
      · exact ⟨1073741789, by decide, rfl⟩
      · exact ⟨v, hv, rfl⟩
    have q2 : (r : Int) < 5 := by omega
    clear hrow hcell hs3 ht3 hr
    go_wp2
    go_ret
    exact ⟨⟨u, hu, rfl⟩, H3.out, G3.out⟩
  · go_wp2_with fail
    refine (n_any g a len cap 6 _ (by omega) H1.out).mono ?_
    rintro e w2 ⟨r, rfl, hr, hs2, ht2⟩
    have H2 : Hid (Src g a len cap w2) := hs2
    have G2 : Hid (Grows g w w2) := G1.out.trans ht2.grows
    have hr' : (r : Int) ≤ 6 := by omega
    clear hs2 ht2 hr
    go_wp2
    go_ret
    exact ⟨⟨_, by omega, rfl⟩, H2.out, G2.out⟩
end Go.Proofs.YtjkmfjegphpjkaaGreatDoor
namespace Go.Proofs.YtjkmfjegphpjkaaGreatDoor
open Go.RowKit

theorem results_tmp4 {fn : Func} {t u v x : Tmp} (h : fn.results = #[.tmp t, .tmp u, .tmp v, .tmp x]) (tmps : Array Value) (P : Program) (w : World) :
    (results fn tmps).run P w = .ok (.tuple #[tmps.getD t undef, tmps.getD u undef, tmps.getD v undef, tmps.getD x undef]) w := by
  simp [results, h]
theorem ss_secret {w W : World} {a : Option Addr} {len cap : Nat} (h : SS w a len cap W) :
    Calls Tryz.prog 30 #[.pointer (some ⟨w.heap.size, 0, none⟩)] W fun e w' => AnyI e ∧ SS w a len cap w' := by
  refine (secret_any w.heap.size a len cap W h.1).mono ?_
  rintro e w' ⟨hb, h1, h2⟩
  exact ⟨hb, h.grows h1 h2⟩
/-- So many noughts as a text. -/
theorem made_text (v : Nat) (hv : v ≤ 2002) : ∃ u : ByteArray, u.size ≤ 2002 ∧
    (∀ W : World, (Instr.makeSlice 22 (.int .i64 (v : Int)) (.int .i64 (v : Int))).run Tryz.prog W = .ok (.slice (some ⟨W.heap.size, 0, none⟩) v v) (W.alloc (.cells (madeCells #[.int .u8 0] v) 5))) ∧
    (∀ W : World, (convert 22 9 (.slice (some ⟨W.heap.size, 0, none⟩) v v)).run Tryz.prog (W.alloc (.cells (madeCells #[.int .u8 0] v) 5)) = .ok (.string u) (W.alloc (.cells (madeCells #[.int .u8 0] v) 5))) := by
  refine ⟨strOfNums (List.replicate v (0 : Int)), by rw [size_nums, List.length_replicate]; exact hv, fun W => ?_, fun W => ?_⟩
  · exact run_make_row' _ _ _ _ Tryz.underlying22 infoByte rfl .i64 .i64 v (by omega) (by omega) W
  · refine run_convert_bytes_arg _ 22 5 Tryz.underlying22 Tryz.underlying5 W.heap.size 0 v v (List.replicate v (0 : Int)) (List.length_replicate ..) (fun i hi => ?_) 9 Tryz.underlying9
    have hrow : (W.alloc (.cells (madeCells #[.int .u8 0] v) 5)).heap[W.heap.size]? = some (.cells (madeCells #[.int .u8 0] v) 5 (0, 0)) := heap_alloc_new W _
    rw [Nat.zero_add, cell_of_row _ W.heap.size i _ _ (0, 0) hrow]
    have h := congrArg (fun l => l[i]?) (made_bytesJ v)
    simp only [List.getElem?_map, List.getElem?_replicate, if_pos hi] at h
    simpa [hi] using h
/-- A number, a nonce, a url and a body are drawn. -/
def AnyJ (e : Ending) : Prop := ∃ (x n : Int) (u b : ByteArray), (-9223372036854775808 ≤ x ∧ x ≤ 9223372036854775807) ∧ (-9223372036854775808 ≤ n ∧ n ≤ 9223372036854775807) ∧ u.size ≤ 40 ∧ b.size ≤ 2002 ∧ e = .returned (.tuple #[.int .i64 x, .int .i64 n, .string u, .string b])
set_option maxRecDepth 100000 in
set_option maxHeartbeats 4000000 in
theorem drawJwsSign (a : Option Addr) (len cap : Nat) (w : World) (hlen : len ≤ 1048576) (hc : CodeAt a len w) (hblk : ∀ x, 0 < len → a = some x → x.block < w.heap.size) :
    Calls Tryz.prog 11 #[.slice a len cap] w fun e w' => AnyJ e ∧ Below w.heap.size w w' := by
  obtain ⟨i0, hi, hz0, hz1', hz2'⟩ := info_parts infoByte
  have HC : Hid (CodeAt a len w) := hc
  have HBk : Hid (∀ x, 0 < len → a = some x → x.block < w.heap.size) := hblk
  clear hc hblk
  go_enter Tryz.func11, Tryz.ntmps11
  go_wp2_with fail
  refine (ss_source a len cap _ hlen HC.out HBk.out).mono ?_
  rintro e w1 ⟨rfl, h1⟩
  have H1 : Hid (SS w a len cap w1) := h1
  clear h1
  go_wp2_with fail
  refine (ss_secret H1.out).mono ?_
  rintro e w2 ⟨⟨x, hx, rfl⟩, h2⟩
  have H2 : Hid (SS w a len cap w2) := h2
  clear h2
  go_wp2_with fail
  refine (ss_n 30 (by omega) H2.out).mono ?_
  rintro e w3 ⟨r, rfl, hr, h3, _⟩
  have H3 : Hid (SS w a len cap w3) := h3
  have hr' : r ≤ 30 := by omega
  clear h3 hr H1 H2
  go_wp2_with fail
  refine (ss_one 10 (by omega) H3.out).mono ?_
  rintro e w4 ⟨hb, h4⟩
  have H4 : Hid (SS w a len cap w4) := h4
  clear h4 H3
  obtain ⟨bb, rfl⟩ : ∃ bb, e = .returned (.bool bb) := by
    rcases hb with h | h
    · exact ⟨_, h⟩
    · exact ⟨_, h⟩
  clear hb
  go_upto_if 17 with fail
  go_cut [8] from 10 (fun s8 wx => ∃ n : Int, s8 = .int .i64 n ∧ (-9223372036854775808 ≤ n ∧ n ≤ 9223372036854775807) ∧ SS w a len cap wx)
  case first =>
    cases bb with
    | true =>
      go_wp2_with fail
      refine (ss_n 3 (by omega) (H4.out.alloc _)).mono ?_
      rintro e w5 ⟨q, rfl, hq, h5, hk5⟩
      have H5 : Hid (SS w a len cap w5) := h5
      have hrow : w5.heap[w4.heap.size]? = some (.cells #[.int .i64 (-1), .int .i64 1000000000, .int .i64 1000000001] 2 (0, 0)) := by
        rw [hk5 w4.heap.size (by have := H4.out.2.2.1; omega) (by simp), heap_alloc_new]
      have hcell := cell_of_row w5 w4.heap.size q _ _ (0, 0) hrow
      have hq3 : q < 3 := by omega
      obtain ⟨u, hu, huc⟩ : ∃ u : Int, (-9223372036854775808 ≤ u ∧ u ≤ 9223372036854775807) ∧ w5.cell? ⟨w4.heap.size, q, none⟩ = some (.int .i64 u) := by
        rw [hcell]
        have hq : q = 0 ∨ q = 1 ∨ q = 2 := by omega
        rcases hq with rfl | rfl | rfl
        · exact ⟨-1, by decide, rfl⟩
        · exact ⟨1000000000, by decide, rfl⟩
        · exact ⟨1000000001, by decide, rfl⟩
      have q2 : (q : Int) < 3 := by omega
      clear hrow hcell h5 hk5 hq
      go_wp2_with fail
      go_meet
      case rel => exact ⟨u, rfl, hu, H5.out⟩
    | false =>
      go_wp2_with fail
      go_meet
      case rel => exact ⟨(r : Int), rfl, by omega, H4.out⟩
  case rest =>
    obtain ⟨n, rfl, hn, hss⟩ := hcut
    have H5 : Hid (SS w a len cap wc) := hss
    clear hss H4
    go_wp2_with fail
    refine (ss_pick 4 _ 7 _ [⟨#[97, 99, 99, 111, 117, 110, 116]⟩, ⟨#[111, 114, 100, 101, 114]⟩, ⟨#[65]⟩, ⟨#[97, 45, 98]⟩] H5.out rfl (by omega) (by omega) (by decide)).mono ?_
    rintro e w6 ⟨⟨url, hurl, rfl⟩, h6⟩
    have H6 : Hid (SS w a len cap w6) := h6
    clear h6 H5
    go_wp2_with fail
    refine (ss_one 15 (by omega) H6.out).mono ?_
    rintro e w7 ⟨hb, h7⟩
    have H7 : Hid (SS w a len cap w7) := h7
    clear h7 H6
    rcases hb with rfl | rfl
    · have hD7 : SS w a len cap w7.drew := H7.out.keep ((Below.refl _ _).drew)
      go_wp2_with fail
      go_region_with (first | (go_at_call 21; refine (ss_n 2 (by omega) hD7).mono ?_; rintro e w8 ⟨q, rfl, hq, h8, _⟩; have H8 : Hid (SS w a len cap w8) := h8; obtain ⟨v, hv, hvr⟩ : ∃ v : Nat, v ≤ 2002 ∧ IntKind.i64.wrap (2000 + (q : Int)) = (v : Int) := ⟨2000 + q, by omega, by rw [IntKind.wrap_i64]; omega⟩; obtain ⟨u, hu, hmk, hcv⟩ := made_text v hv; clear h8 hq))
      all_goals
        have B9 : Hid (Below w.heap.size w (w8.alloc (.cells (madeCells #[.int .u8 0] v) 5))) := H8.out.2.1.alloc (Nat.le_of_lt H8.out.2.2.1) _
        clear hD7 hmk hcv
        go_wp2
        (try simp only [Exit.inBlock, Exit.then])
        refine bodyPost_ret (results_tmp4 rfl _ _ _) rfl ?_
        exact ⟨⟨x, n, url, u, hx, hn, by omega, hu, rfl⟩, B9.out⟩
    · go_wp2_with fail
      refine (ss_n 9 (by omega) H7.out).mono ?_
      rintro e w8 ⟨q, rfl, hq, h8, _⟩
      have H8 : Hid (SS w a len cap w8) := h8
      have hq' : q ≤ 9 := by omega
      clear h8 hq
      go_wp2_with fail
      refine (ss_bytes q (by omega) H8.out).mono ?_
      rintro e w9 ⟨⟨t, ht, rfl⟩, h9⟩
      have B9 : Hid (Below w.heap.size w w9) := h9.2.1
      clear h9
      go_wp2
      (try simp only [Exit.inBlock, Exit.then])
      refine bodyPost_ret (results_tmp4 rfl _ _ _) rfl ?_
      exact ⟨⟨x, n, url, t, hx, hn, by omega, by omega, rfl⟩, B9.out⟩
end Go.Proofs.YtjkmfjegphpjkaaGreatDoor
namespace Go.Proofs.YtjkmfjegphpjkaaGreatDoor
open Go.RowKit Go.Lib

theorem and_mask (p : Nat) (hp : p ≤ 32) (n : Nat) : bits .and .i64 (n : Int) ((2 ^ p : Nat) - 1 : Int) = ((n % 2 ^ p : Nat) : Int) := by
  have h32 : 2 ^ p ≤ 2 ^ 32 := Nat.pow_le_pow_right (by omega) hp
  have hp0 : 0 < 2 ^ p := Nat.two_pow_pos p
  have e0 : (2 : Nat) ^ 32 = 4294967296 := by decide
  have e : bits BinOp.and IntKind.i64 (n : Int) ((2 ^ p : Nat) - 1 : Int) = IntKind.i64.wrap ((BitVec.ofInt 64 (n : Int) &&& BitVec.ofInt 64 ((2 ^ p : Nat) - 1 : Int)).toNat : Nat) := rfl
  rw [e, BitVec.toNat_and, BitVec.toNat_ofInt, BitVec.toNat_ofInt]
  have e1 : ((((2 ^ p : Nat) : Int) - 1) % ((2 ^ 64 : Nat) : Int)).toNat = 2 ^ p - 1 := by omega
  rw [e1, Nat.and_two_pow_sub_one_eq_mod, IntKind.wrap_i64]
  have hm : (((n : Int) % ((2 ^ 64 : Nat) : Int)).toNat) % 2 ^ p = n % 2 ^ p := by
    have h64 : ((n : Int) % ((2 ^ 64 : Nat) : Int)).toNat = n % 2 ^ 64 := by omega
    rw [h64, Nat.mod_mod_of_dvd]
    exact Nat.pow_dvd_pow 2 (by omega)
  rw [hm]
  have := Nat.mod_lt n hp0
  omega
/-- Eight by eight to six by six: h is held, c bits. -/
def rgo : List Nat → Nat → Nat → List Nat × Nat × Nat
  | [], h, c => ([], h, c)
  | g :: r, h, c =>
    if c = 0 then ((h * 256 + g) / 4 :: (rgo r ((h * 256 + g) % 4) 2).1, (rgo r ((h * 256 + g) % 4) 2).2)
    else if c = 2 then ((h * 256 + g) / 16 :: (rgo r ((h * 256 + g) % 16) 4).1, (rgo r ((h * 256 + g) % 16) 4).2)
    else ((h * 256 + g) / 64 :: (h * 256 + g) % 64 :: (rgo r 0 0).1, (rgo r 0 0).2)
/-- What is put behind. -/
def tailG (x : Nat × Nat) : List Nat := if x.2 = 0 then [] else if x.2 = 2 then [x.1 * 16] else [x.1 * 4]
theorem b64_rgo : ∀ (l : List Nat), b64 l = (rgo l 0 0).1 ++ tailG (rgo l 0 0).2 ∧ ((rgo l 0 0).2.2 = 0 ∨ ((rgo l 0 0).2.2 = 2 ∧ (rgo l 0 0).2.1 < 4) ∨ ((rgo l 0 0).2.2 = 4 ∧ (rgo l 0 0).2.1 < 16))
  | [] => ⟨rfl, .inl rfl⟩
  | [a] => by
    refine ⟨?_, .inr (.inl ⟨rfl, ?_⟩)⟩
    · simp [b64, rgo, tailG]
    · simp only [rgo, if_true]; omega
  | [a, b] => by
    refine ⟨?_, .inr (.inr ⟨rfl, ?_⟩)⟩
    · simp [b64, rgo, tailG]
      omega
    · simp [rgo]; omega
  | a :: b :: c :: r => by
    have ih := b64_rgo r
    have e : rgo (a :: b :: c :: r) 0 0 = (a / 4 :: (a % 4 * 16 + b / 16) :: (b % 16 * 4 + c / 64) :: (c % 64) :: (rgo r 0 0).1, (rgo r 0 0).2) := by
      simp [rgo]
      omega
    rw [e]
    refine ⟨?_, ih.2⟩
    rw [b64, ih.1]
    rfl
theorem b64_lt : ∀ (l : List Nat), (∀ x ∈ l, x < 256) → ∀ y ∈ b64 l, y < 64
  | [], _, y, hy => by cases hy
  | [a], h, y, hy => by
    have ha := h a (by simp)
    simp [b64] at hy
    omega
  | [a, b], h, y, hy => by
    have ha := h a (by simp)
    have hb := h b (by simp)
    simp [b64] at hy
    omega
  | a :: b :: c :: r, h, y, hy => by
    have ha := h a (by simp)
    have hb := h b (by simp)
    have hc := h c (by simp)
    simp only [b64, List.mem_cons] at hy
    rcases hy with rfl | rfl | rfl | rfl | hy
    · omega
    · omega
    · omega
    · omega
    · exact b64_lt r (fun x hx => h x (by simp [hx])) y hy
theorem rgo_len : ∀ (l : List Nat) (h c : Nat), (rgo l h c).1.length ≤ 2 * l.length
  | [], _, _ => Nat.le_refl _
  | g :: r, h, c => by
    have h1 := rgo_len r ((h * 256 + g) % 4) 2
    have h2 := rgo_len r ((h * 256 + g) % 16) 4
    have h3 := rgo_len r 0 0
    rw [rgo]
    split
    · simp only [List.length_cons]; omega
    · split
      · simp only [List.length_cons]; omega
      · simp only [List.length_cons]; omega
theorem bts_lt (s : ByteArray) : ∀ x ∈ bts s, x < 256 := by
  intro x hx
  simp only [bts, List.mem_map] at hx
  obtain ⟨u, _, rfl⟩ := hx
  have := u.toNat_lt
  omega
/-- Bytes in memory. -/
def IsBts (w : World) (a : Option Addr) (zs : List Nat) : Prop := zs = [] ∨ ∃ b, a = some ⟨b, 0, none⟩ ∧ b < w.heap.size ∧ ∀ (i z : Nat), zs[i]? = some z → w.cell? ⟨b, i, none⟩ = some (.int .u8 (z : Int))
theorem IsBts.keep {w w' : World} {a : Option Addr} {zs : List Nat} (h : IsBts w a zs) (hb : Below w.heap.size w w') : IsBts w' a zs := by
  rcases h with h | ⟨b, e, hl, hc⟩
  · exact .inl h
  · exact .inr ⟨b, e, Nat.lt_of_lt_of_le hl hb.size, fun i z hz => by rw [hb.cell (p := ⟨b, i, none⟩) hl]; exact hc i z hz⟩
/-- A row of bytes of the call's own. -/
def OwnB (w : World) (B : Nat) (v : Value) (l : List Nat) : Prop := w.ownsRow B 5 1 v l.length ((l.map (fun x : Nat => (x : Int))).map (Value.int .u8))
theorem OwnB.keep {w w' : World} {B : Nat} {v : Value} {l : List Nat} (h : OwnB w B v l) (hb : Below w.heap.size w w') : OwnB w' B v l := by
  refine ⟨h.1, ?_⟩
  rcases h.2 with h | ⟨g, cap, cur, e, h1, h2, h3⟩
  · exact .inl h
  · exact .inr ⟨g, cap, cur, e, h1, by rw [hb.block g (heap_lt h2)]; exact h2, h3⟩
theorem OwnB.form {w : World} {B : Nat} {v : Value} {l : List Nat} (h : OwnB w B v l) : ∃ a c, v = .slice a l.length c ∧ l.length ≤ c := by
  rcases h.2 with ⟨h, h'⟩ | ⟨g, cap, _, e, _, _, hc, _⟩
  · exact ⟨none, 0, by rw [h']; exact h, by omega⟩
  · exact ⟨_, _, e, hc⟩
theorem ownB_nil (w : World) (B : Nat) : OwnB w B (.slice none 0 0) [] := ⟨rfl, .inl ⟨rfl, rfl⟩⟩
theorem OwnB.bts {w : World} {B n c : Nat} {a : Option Addr} {l : List Nat} (h : OwnB w B (.slice a n c) l) : IsBts w a l := by
  rcases h.2 with ⟨_, h'⟩ | ⟨g, cap, cur, e, h1, h2, h3, _, _, ht⟩
  · exact .inl (List.eq_nil_of_length_eq_zero h')
  · simp only [Value.slice.injEq] at e
    obtain ⟨rfl, rfl, rfl⟩ := e
    refine .inr ⟨g, rfl, heap_lt h2, fun i z hz => ?_⟩
    have hi : i < l.length := by
      rcases Nat.lt_or_ge i l.length with h | h
      · exact h
      · rw [List.getElem?_eq_none h] at hz; cases hz
    have := World.ownsRow.cellAt h i (by omega)
    rw [this]
    simp [hz]
end Go.Proofs.YtjkmfjegphpjkaaGreatDoor
namespace Go.Proofs.YtjkmfjegphpjkaaGreatDoor
open Go.RowKit Go.Lib

/-- What a sign stands for. -/
def sgi (c : Nat) : Option Nat := (List.range 64).find? fun q => decide (sg q = (c : Int))
def sgk (c : Nat) : Int := match sgi c with
  | some q => (q : Int)
  | none => -1
theorem sg_inj : ∀ q q' : Fin 64, sg q = sg q' → q = q' := by decide +kernel
theorem sg_range : ∀ q : Fin 64, 0 ≤ sg q ∧ sg q < 128 := by decide +kernel
theorem sgi_some {c q : Nat} (h : sgi c = some q) : q < 64 ∧ sg q = (c : Int) := by
  have h1 := List.mem_of_find?_eq_some h
  have h2 := List.find?_some h
  exact ⟨List.mem_range.1 h1, of_decide_eq_true h2⟩
theorem sgi_none {c : Nat} (h : sgi c = none) : ∀ q, q < 64 → sg q ≠ (c : Int) := by
  intro q hq e
  have := List.find?_eq_none.1 h q (List.mem_range.2 hq)
  exact this (decide_eq_true e)
theorem sgi_eq {c q : Nat} (hq : q < 64) (h : sg q = (c : Int)) : sgi c = some q := by
  cases hh : sgi c with
  | none => exact absurd h (sgi_none hh q hq)
  | some q' =>
    have h1 := sgi_some hh
    have := sg_inj ⟨q', h1.1⟩ ⟨q, hq⟩ (h1.2.trans h.symm)
    simp at this
    rw [this]
theorem sgi_high {c : Nat} (h : 128 ≤ c) : sgi c = none := by
  cases hh : sgi c with
  | none => rfl
  | some q =>
    have h1 := sgi_some hh
    have h2 := sg_range ⟨q, h1.1⟩
    simp only at h2
    omega
def readV : List Nat → Option (List Nat)
  | [] => some []
  | c :: r => match sgi c with
    | none => none
    | some q => (readV r).map (q :: ·)
theorem readV_len : ∀ (l vs : List Nat), readV l = some vs → vs.length = l.length
  | [], vs, h => by simp [readV] at h; subst h; rfl
  | c :: r, vs, h => by
    rw [readV] at h
    split at h
    · cases h
    · cases hr : readV r with
      | none => rw [hr] at h; cases h
      | some v2 =>
        rw [hr] at h
        simp at h
        subst h
        simp [readV_len r v2 hr]
theorem readV_lt : ∀ (l vs : List Nat), readV l = some vs → ∀ x ∈ vs, x < 64
  | [], vs, h => by simp [readV] at h; subst h; simp
  | c :: r, vs, h => by
    rw [readV] at h
    split at h
    · cases h
    · rename_i q hq
      cases hr : readV r with
      | none => rw [hr] at h; cases h
      | some v2 =>
        rw [hr] at h
        simp at h
        subst h
        intro x hx
        rcases List.mem_cons.1 hx with rfl | hx
        · exact (sgi_some hq).1
        · exact readV_lt r v2 hr x hx
/-- Six by six to eight by eight: h is held, c bits. -/
def rgi : List Nat → Nat → Nat → List Nat × Nat × Nat
  | [], h, c => ([], h, c)
  | g :: r, h, c =>
    if c = 0 then rgi r (h * 64 + g) 6
    else if c = 6 then ((h * 64 + g) / 16 :: (rgi r ((h * 64 + g) % 16) 4).1, (rgi r ((h * 64 + g) % 16) 4).2)
    else if c = 4 then ((h * 64 + g) / 4 :: (rgi r ((h * 64 + g) % 4) 2).1, (rgi r ((h * 64 + g) % 4) 2).2)
    else ((h * 64 + g) :: (rgi r 0 0).1, (rgi r 0 0).2)
theorem rgi_len : ∀ (l : List Nat) (h c : Nat), (rgi l h c).1.length ≤ 2 * l.length
  | [], _, _ => Nat.le_refl _
  | g :: r, h, c => by
    have h1 := rgi_len r (h * 64 + g) 6
    have h2 := rgi_len r ((h * 64 + g) % 16) 4
    have h3 := rgi_len r ((h * 64 + g) % 4) 2
    have h4 := rgi_len r 0 0
    rw [rgi]
    split
    · simp only [List.length_cons]; omega
    · split
      · simp only [List.length_cons]; omega
      · split
        · simp only [List.length_cons]; omega
        · simp only [List.length_cons]; omega
def natT (l : List Nat) : ByteArray := strOfNums (l.map fun x : Nat => (x : Int))
theorem natT_size (l : List Nat) : (natT l).size = l.length := by unfold natT; rw [strOfNums_size, List.length_map]
/-- What Base64Read tells. -/
def readTD (s : ByteArray) : ByteArray × Int :=
  if 20000 < s.size then (⟨#[]⟩, 2) else
  match readV (bts s) with
  | none => (⟨#[]⟩, 3)
  | some vs => if base64D (natT (rgi vs 0 0).1) = s then (natT (rgi vs 0 0).1, 0) else (⟨#[]⟩, 3)
theorem read_same {s : ByteArray} {vs : List Nat} (h : readV (bts s) = some vs) : base64D (natT (rgi vs 0 0).1) = s ↔ ((rgi vs 0 0).1.length ≤ 4000 ∧ b64D (natT (rgi vs 0 0).1) = s) := by
  have hl := readV_len _ _ h
  rw [bts_len] at hl
  unfold base64D
  rw [natT_size]
  by_cases h4 : 4000 < (rgi vs 0 0).1.length
  · rw [if_pos h4]
    constructor
    · intro e
      exfalso
      rw [← e] at hl
      have : vs = [] := List.eq_nil_of_length_eq_zero (by rw [hl]; rfl)
      subst this
      simp [rgi] at h4
    · intro e
      omega
  · rw [if_neg h4]
    constructor
    · intro e
      exact ⟨by omega, e⟩
    · intro e
      exact e.2
end Go.Proofs.YtjkmfjegphpjkaaGreatDoor
namespace Go.Proofs.YtjkmfjegphpjkaaGreatDoor
open Go.RowKit Go.Lib

theorem natT_bts (s : ByteArray) : natT (bts s) = s := by
  apply ByteArray.ext
  apply Array.toList_inj.1
  unfold natT
  rw [strOfNums_data, bts, List.map_map, List.map_map]
  conv => rhs; rw [← List.map_id s.data.toList]
  apply List.map_congr_left
  intro x _
  simp
theorem bts_natT {l : List Nat} (h : ∀ x ∈ l, x < 256) : bts (natT l) = l := by
  unfold natT bts
  rw [strOfNums_data, List.map_map, List.map_map]
  conv => rhs; rw [← List.map_id l]
  apply List.map_congr_left
  intro x hx
  have := h x hx
  simp
  omega
def sgN (q : Nat) : Nat := (sg q).toNat
theorem sgN_ok : ∀ q : Fin 64, (sgN q : Int) = sg q ∧ sgN q < 128 ∧ sgN q ≠ 46 := by decide +kernel
theorem b64D_signs (s : ByteArray) : bts (b64D s) = (b64 (bts s)).map sgN := by
  have hl := b64_lt _ (bts_lt s)
  have e : b64D s = natT ((b64 (bts s)).map sgN) := by
    unfold b64D natT b64I
    congr 1
    rw [List.map_map]
    apply List.map_congr_left
    intro q hq
    exact (sgN_ok ⟨q, hl q hq⟩).1.symm
  rw [e]
  refine bts_natT fun x hx => ?_
  obtain ⟨q, hq, rfl⟩ := List.mem_map.1 hx
  have := (sgN_ok ⟨q, hl q hq⟩).2.1
  simp only at this
  omega
theorem b64D_dot (s : ByteArray) : ∀ x ∈ bts (b64D s), x ≠ 46 := by
  rw [b64D_signs]
  intro x hx
  obtain ⟨q, hq, rfl⟩ := List.mem_map.1 hx
  exact (sgN_ok ⟨q, b64_lt _ (bts_lt s) q hq⟩).2.2
theorem readV_signs : ∀ (l : List Nat), (∀ q ∈ l, q < 64) → readV (l.map sgN) = some l
  | [], _ => rfl
  | q :: r, h => by
    have hq := h q (by simp)
    have e : sgi (sgN q) = some q := sgi_eq hq (sgN_ok ⟨q, hq⟩).1.symm
    rw [List.map_cons, readV, e, readV_signs r fun x hx => h x (by simp [hx])]
    rfl
theorem rgi_b64 : ∀ (l : List Nat), (∀ x ∈ l, x < 256) → (rgi (b64 l) 0 0).1 = l
  | [], _ => rfl
  | [a], h => by
    have ha := h a (by simp)
    simp [b64, rgi]
    omega
  | [a, b], h => by
    have ha := h a (by simp)
    have hb := h b (by simp)
    simp [b64, rgi]
    omega
  | a :: b :: c :: r, h => by
    have ha := h a (by simp)
    have hb := h b (by simp)
    have hc := h c (by simp)
    have ih := rgi_b64 r fun x hx => h x (by simp [hx])
    simp [b64, rgi, ih]
    omega
theorem read_back (s : ByteArray) : readV (bts (b64D s)) = some (b64 (bts s)) ∧ natT (rgi (b64 (bts s)) 0 0).1 = s := by
  refine ⟨?_, ?_⟩
  · rw [b64D_signs, readV_signs _ (b64_lt _ (bts_lt s))]
  · rw [rgi_b64 _ (bts_lt s), natT_bts]
theorem readTD_back {s : ByteArray} (h : s.size ≤ 4000) : readTD (b64D s) = (s, 0) := by
  obtain ⟨h1, h2⟩ := read_back s
  have hz : (b64D s).size ≤ 20000 := by
    unfold b64D
    rw [strOfNums_size]
    have := b64I_len (bts s)
    rw [bts_len] at this
    omega
  unfold readTD
  have hb : base64D s = b64D s := by rw [base64D, if_neg (by omega)]
  rw [if_neg (by omega), h1]
  simp only
  rw [h2, hb, if_pos rfl]
end Go.Proofs.YtjkmfjegphpjkaaGreatDoor
namespace Go.Proofs.YtjkmfjegphpjkaaGreatDoor
open Go.RowKit Go.Lib

def spl : List Nat → List Nat → List (List Nat)
  | [], acc => [acc]
  | x :: r, acc => if x = 46 then acc :: spl r [] else spl r (acc ++ [x])
theorem spl_no : ∀ (l r acc : List Nat), (∀ x ∈ l, x ≠ 46) → spl (l ++ r) acc = spl r (acc ++ l)
  | [], r, acc, _ => by simp
  | x :: l, r, acc, h => by
    rw [List.cons_append, spl, if_neg (h x (by simp)), spl_no l r _ fun y hy => h y (by simp [hy])]
    simp
theorem spl_end (l acc : List Nat) (h : ∀ x ∈ l, x ≠ 46) : spl l acc = [acc ++ l] := by
  have := spl_no l [] acc h
  rw [List.append_nil] at this
  rw [this]
  rfl
theorem spl_dot (l r acc : List Nat) (h : ∀ x ∈ l, x ≠ 46) : spl (l ++ 46 :: r) acc = (acc ++ l) :: spl r [] := by
  rw [spl_no l _ acc h, spl, if_pos rfl]
/-- The pieces of a text. -/
def pcs (s : ByteArray) : List ByteArray := (spl (bts s) []).map natT
theorem bts_app (a b : ByteArray) : bts (a ++ b) = bts a ++ bts b := by
  unfold bts
  rw [ByteArray.data_append, Array.toList_append, List.map_append]
theorem pcs_three {a b c : ByteArray} (ha : ∀ x ∈ bts a, x ≠ 46) (hb : ∀ x ∈ bts b, x ≠ 46) (hc : ∀ x ∈ bts c, x ≠ 46) : pcs (a ++ ⟨#[46]⟩ ++ b ++ ⟨#[46]⟩ ++ c) = [a, b, c] := by
  have e46 : bts (⟨#[46]⟩ : ByteArray) = [46] := rfl
  unfold pcs
  rw [bts_app, bts_app, bts_app, bts_app, e46, List.append_assoc, List.append_assoc, List.append_assoc, List.singleton_append, spl_dot _ _ _ ha, List.singleton_append, spl_dot _ _ _ hb, spl_end _ _ hc]
  simp [natT_bts]
theorem spl_len : ∀ (l acc : List Nat), (spl l acc).length ≤ l.length + 1
  | [], _ => Nat.le_refl _
  | x :: r, acc => by
    have h1 := spl_len r []
    have h2 := spl_len r (acc ++ [x])
    rw [spl]
    split
    · simp only [List.length_cons]; omega
    · simp only [List.length_cons]; omega
theorem pcs_len (s : ByteArray) : (pcs s).length ≤ s.size + 1 := by
  unfold pcs
  rw [List.length_map]
  have := spl_len (bts s) []
  rw [bts_len] at this
  exact this
theorem spl_sz : ∀ (l acc : List Nat) (n : Nat), acc.length + l.length ≤ n → ∀ p ∈ spl l acc, p.length ≤ n
  | [], acc, n, h, p, hp => by
    simp [spl] at hp
    subst hp
    simpa using h
  | x :: r, acc, n, h, p, hp => by
    rw [spl] at hp
    simp only [List.length_cons] at h
    split at hp
    · rcases List.mem_cons.1 hp with rfl | hp
      · omega
      · exact spl_sz r [] n (by simp; omega) p hp
    · exact spl_sz r (acc ++ [x]) n (by simp; omega) p hp
theorem pcs_size {s p : ByteArray} (h : p ∈ pcs s) : p.size ≤ s.size := by
  obtain ⟨l, hl, rfl⟩ := List.mem_map.1 h
  rw [natT_size]
  exact spl_sz (bts s) [] s.size (by simp [bts_len]) l hl
theorem natT_extract (s : ByteArray) (i j : Nat) : natT (((bts s).drop i).take (j - i)) = s.extract i j := by
  have e : bts (s.extract i j) = ((bts s).drop i).take (j - i) := by
    unfold bts
    rw [ByteArray.data_extract, Array.toList_extract, List.map_take, List.map_drop]
  rw [← e, natT_bts]
end Go.Proofs.YtjkmfjegphpjkaaGreatDoor
namespace Go.Proofs.YtjkmfjegphpjkaaGreatDoor
open Go.RowKit Go.Lib

theorem same_text' (a b : ByteArray) : (a.toList == b.toList) = decide (a = b) := by
  by_cases h : a = b
  · subst h; simp
  · rw [decide_eq_false h, beq_eq_false_iff_ne]
    intro h'
    rw [Lib.toList_data, Lib.toList_data] at h'
    exact h (ByteArray.ext (Array.toList_inj.1 h'))
/-- What l09Read tells. -/
def readLT (s : ByteArray) : ByteArray × Bool := match readV (bts s) with
  | none => (⟨#[]⟩, false)
  | some vs => (natT (rgi vs 0 0).1, decide ((rgi vs 0 0).1.length ≤ 4000 ∧ b64D (natT (rgi vs 0 0).1) = s))
end Go.Proofs.YtjkmfjegphpjkaaGreatDoor
