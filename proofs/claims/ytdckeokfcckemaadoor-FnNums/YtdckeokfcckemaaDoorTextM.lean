/- Plain mathematics: a text that fits in comes back from its bytes; one that ends too early is short. -/
import Derived.Test.YtdckeokfcckemaaDoorTextD
import Derived.Test.YtdckeokfcckemaaDoorNumM
namespace Go.Proofs.YtdckeokfcckemaaDoor
open Go.RowKit Go.Lib

theorem ext_right (a b : ByteArray) : (a ++ b).extract a.size (a.size + b.size) = b := by
  have e : a.extract a.size (a.size + b.size) = ByteArray.empty := by simp
  rw [ByteArray.extract_append, e]
  simp
theorem ext_all (a : ByteArray) (n : Nat) (h : a.size ≤ n) : a.extract 0 n = a := by
  apply ByteArray.ext
  rw [ByteArray.data_extract]
  exact Array.extract_eq_self_of_le (show a.data.size ≤ n from h)
theorem ext_left (a b : ByteArray) (k : Nat) : (a ++ b).extract 0 (a.size + k) = a ++ b.extract 0 k := by
  rw [ByteArray.extract_append, ext_all a _ (by omega)]
  simp
theorem str_pos (f x : Nat) : 0 < (strOfNums (putF f x)).size := by
  have := putF_pos f x
  have e : (strOfNums (putF f x)).size = (putF f x).length := by simp [strOfNums, ByteArray.size]
  omega
theorem text_back (u x1 : ByteArray) (hu : u.size ≤ 20000) (hs : (x1 ++ (strOfNums (putF 9 (foldI u.size)) ++ u)).size ≤ 20000) :
    textR (x1 ++ (strOfNums (putF 9 (foldI u.size)) ++ u)) (numAt (x1 ++ (strOfNums (putF 9 (foldI u.size)) ++ u)) (x1.size : Int)) =
      outV u ((x1.size + (strOfNums (putF 9 (foldI u.size)) ++ u).size : Nat) : Int) 0 := by
  have hb := num_back (u.size : Int) (by omega) (by omega) x1 u
  generalize strOfNums (putF 9 (foldI u.size)) = T at *
  have ha : x1 ++ (T ++ u) = x1 ++ T ++ u := by rw [ByteArray.append_assoc]
  have hn : numAt (x1 ++ (T ++ u)) (x1.size : Int) = ⟨(u.size : Int), ((x1.size + T.size : Nat) : Int), 0⟩ := by
    unfold numAt
    rw [if_neg (by omega), if_neg (by omega), Int.toNat_natCast, ha]
    exact hb
  have hsz : (x1 ++ (T ++ u)).size = x1.size + T.size + u.size := by rw [ByteArray.size_append, ByteArray.size_append]; omega
  rw [hn]
  unfold textR
  rw [if_neg (by simp), if_neg (by simp only; omega), if_neg (by simp only; omega)]
  simp only
  have e1 : ((x1.size + T.size : Nat) : Int).toNat = (x1 ++ T).size := by rw [Int.toNat_natCast, ByteArray.size_append]
  have e2 : (((x1.size + T.size : Nat) : Int) + (u.size : Int)).toNat = (x1 ++ T).size + u.size := by rw [ByteArray.size_append]; omega
  rw [e1, e2, ha, ext_right]
  congr 1
  rw [ByteArray.size_append]
  omega
theorem text_short (u : ByteArray) (hu : u.size ≤ 20000) (hs : (strOfNums (putF 9 (foldI u.size)) ++ u).size ≤ 20000) :
    textR ((strOfNums (putF 9 (foldI u.size)) ++ u).extract 0 ((strOfNums (putF 9 (foldI u.size)) ++ u).size - 1))
      (numAt ((strOfNums (putF 9 (foldI u.size)) ++ u).extract 0 ((strOfNums (putF 9 (foldI u.size)) ++ u).size - 1)) 0) = outV ByteArray.empty 0 4 := by
  have hb := num_back (u.size : Int) (by omega) (by omega) ByteArray.empty (u.extract 0 (u.size - 1))
  have hsh := num_short (u.size : Int) (by omega) (by omega)
  have hpos := str_pos 9 (foldI u.size)
  generalize strOfNums (putF 9 (foldI u.size)) = T at *
  by_cases h0 : u.size = 0
  · have hu0 : u = ByteArray.empty := by simpa using h0
    subst hu0
    have e : T ++ ByteArray.empty = T := by simp
    rw [e] at hs ⊢
    have hn : numAt (T.extract 0 (T.size - 1)) 0 = .bad 4 := by
      unfold numAt
      rw [if_neg (by rw [ByteArray.size_extract]; omega), if_neg (by omega)]
      exact hsh
    rw [hn]
    rfl
  · have hsz : (T ++ u).size = T.size + u.size := ByteArray.size_append
    have e : (T ++ u).extract 0 ((T ++ u).size - 1) = T ++ u.extract 0 (u.size - 1) := by
      rw [hsz, show T.size + u.size - 1 = T.size + (u.size - 1) from by omega, ext_left]
    rw [e]
    have hq : (T ++ u.extract 0 (u.size - 1)).size = T.size + (u.size - 1) := by rw [ByteArray.size_append, ByteArray.size_extract]; omega
    have hn : numAt (T ++ u.extract 0 (u.size - 1)) 0 = ⟨(u.size : Int), (T.size : Int), 0⟩ := by
      unfold numAt
      rw [if_neg (by omega), if_neg (by omega)]
      simpa using hb
    rw [hn]
    unfold textR
    rw [if_neg (by simp), if_neg (by simp only; omega), if_pos (by simp only; omega)]
end Go.Proofs.YtdckeokfcckemaaDoor
