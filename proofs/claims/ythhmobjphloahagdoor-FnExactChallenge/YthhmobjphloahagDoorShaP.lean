/- Plain mathematics of SHA-256: no program is named here. -/
import Derived.Test.YthhmobjphloahagDoorPlain
import Derived.Laws.BitsAllLaws
namespace Go.Proofs.YthhmobjphloahagDoor
open Go.RowKit

abbrev U := BitVec 32
/-- A word as the program holds it. -/
def uI (x : U) : Int := (x.toNat : Int)
theorem uI_nonneg (x : U) : 0 ≤ uI x := Int.natCast_nonneg _
theorem uI_lt (x : U) : uI x < 4294967296 := by unfold uI; have := x.isLt; omega
theorem uI_le (x : U) : uI x ≤ 4294967295 := by have := uI_lt x; omega
theorem uI_inj {x y : U} (h : uI x = uI y) : x = y := by
  unfold uI at h
  exact BitVec.eq_of_toNat_eq (by omega)
theorem uI_xor (x y : U) : bits .xor .u32 (uI x) (uI y) = uI (x ^^^ y) := by
  unfold uI; rw [u32_xor_nat _ _ x.isLt y.isLt, BitVec.toNat_xor]
theorem uI_or (x y : U) : bits .or .u32 (uI x) (uI y) = uI (x ||| y) := by
  unfold uI; rw [u32_or_nat _ _ x.isLt y.isLt, BitVec.toNat_or]
theorem uI_and (x y : U) : bits .and .u32 (uI x) (uI y) = uI (x &&& y) := by
  unfold uI; rw [u32_and_nat _ _ x.isLt y.isLt, BitVec.toNat_and]
theorem uI_not (x : U) : bits .xor .u32 4294967295 (uI x) = uI (~~~ x) := by
  have h := uI_xor (BitVec.allOnes 32) x
  have e : uI (BitVec.allOnes 32) = 4294967295 := by decide
  rw [e] at h
  rw [h, BitVec.xor_comm, BitVec.xor_allOnes]
theorem uI_not' (x : U) : bits .xor .u32 (if IntKind.u32.signed = true then -1 else IntKind.u32.max) (uI x) = uI (~~~ x) := uI_not x
theorem uI_add (x y : U) : IntKind.u32.wrap (uI x + uI y) = uI (x + y) := by
  unfold uI
  rw [IntKind.wrap_u32, BitVec.toNat_add]
  omega
theorem uI_shr (x : U) (k : Nat) : uI x / 2 ^ k = uI (x >>> k) := by
  unfold uI
  rw [BitVec.toNat_ushiftRight, Nat.shiftRight_eq_div_pow]
  simp
theorem uI_shl (x : U) (k : Nat) : IntKind.u32.wrap (uI x * 2 ^ k) = uI (x <<< k) := by
  unfold uI
  rw [IntKind.wrap_u32, BitVec.toNat_shiftLeft, Nat.shiftLeft_eq]
  have : ((x.toNat : Int) * 2 ^ k) = ((x.toNat * 2 ^ k : Nat) : Int) := by simp
  rw [this]
  omega
theorem uI_add' (x y : U) : (uI x + uI y) % 4294967296 = uI (x + y) := by rw [← uI_add, IntKind.wrap_u32]
theorem uI_shl' (x : U) (k : Nat) : uI x * 2 ^ k % 4294967296 = uI (x <<< k) := by rw [← uI_shl, IntKind.wrap_u32]
/-- A byte as a word. -/
def bU (c : UInt8) : U := BitVec.ofNat 32 c.toNat
theorem uI_bU (c : UInt8) : uI (bU c) = (c.toNat : Int) := by
  unfold uI bU
  have := c.toNat_lt
  rw [BitVec.toNat_ofNat]
  omega
theorem bU_uI (c : UInt8) : (c.toNat : Int) = uI (bU c) := (uI_bU c).symm
theorem uI_wrap (x : U) : IntKind.u32.wrap (uI x) = uI x := by
  rw [IntKind.wrap_u32]; exact Int.emod_eq_of_lt (uI_nonneg x) (uI_lt x)
theorem uI_mod (x : U) : uI x % 4294967296 = uI x := Int.emod_eq_of_lt (uI_nonneg x) (uI_lt x)
theorem uI_shl24 (x : U) : uI x * (16777216 : Int) % (4294967296 : Int) = uI (x <<< (24 : Nat)) := uI_shl' x 24
theorem uI_shl16 (x : U) : uI x * (65536 : Int) % (4294967296 : Int) = uI (x <<< (16 : Nat)) := uI_shl' x 16
theorem uI_shl8 (x : U) : uI x * (256 : Int) % (4294967296 : Int) = uI (x <<< (8 : Nat)) := uI_shl' x 8
theorem uI_shr3 (x : U) : uI x / (8 : Int) = uI (x >>> (3 : Nat)) := uI_shr x 3
theorem uI_shr10 (x : U) : uI x / (1024 : Int) = uI (x >>> (10 : Nat)) := uI_shr x 10
def rotr (x : U) (k : Nat) : U := x >>> k ||| x <<< (32 - k)
def sg0 (x : U) : U := rotr x 7 ^^^ rotr x 18 ^^^ x >>> 3
def sg1 (x : U) : U := rotr x 17 ^^^ rotr x 19 ^^^ x >>> 10
def bS0 (x : U) : U := rotr x 2 ^^^ rotr x 13 ^^^ rotr x 22
def bS1 (x : U) : U := rotr x 6 ^^^ rotr x 11 ^^^ rotr x 25
def chF (e f g : U) : U := e &&& f ^^^ ~~~ e &&& g
def majF (a b c : U) : U := a &&& b ^^^ a &&& c ^^^ b &&& c
/-- The words of a block, the first 16 being M's. -/
def wAt (M : Nat → U) (i : Nat) : U :=
  if _h : i < 16 then M i else wAt M (i - 16) + sg0 (wAt M (i - 15)) + wAt M (i - 7) + sg1 (wAt M (i - 2))
termination_by i
theorem wAt_low (M : Nat → U) {i : Nat} (h : i < 16) : wAt M i = M i := by rw [wAt]; simp [h]
theorem wAt_high (M : Nat → U) {i : Nat} (h : 16 ≤ i) : wAt M i = wAt M (i - 16) + sg0 (wAt M (i - 15)) + wAt M (i - 7) + sg1 (wAt M (i - 2)) := by
  rw [wAt]; simp [show ¬ i < 16 by omega]
structure St where
  (a b c d e f g h : U)
def St.row (s : St) : List U := [s.a, s.b, s.c, s.d, s.e, s.f, s.g, s.h]
def rnd (s : St) (kw : U) : St :=
  ⟨s.h + bS1 s.e + chF s.e s.f s.g + kw + (bS0 s.a + majF s.a s.b s.c), s.a, s.b, s.c, s.d + (s.h + bS1 s.e + chF s.e s.f s.g + kw), s.e, s.f, s.g⟩
def keyL : List Nat := [0x428a2f98, 0x71374491, 0xb5c0fbcf, 0xe9b5dba5, 0x3956c25b, 0x59f111f1, 0x923f82a4, 0xab1c5ed5,
    0xd807aa98, 0x12835b01, 0x243185be, 0x550c7dc3, 0x72be5d74, 0x80deb1fe, 0x9bdc06a7, 0xc19bf174,
    0xe49b69c1, 0xefbe4786, 0x0fc19dc6, 0x240ca1cc, 0x2de92c6f, 0x4a7484aa, 0x5cb0a9dc, 0x76f988da,
    0x983e5152, 0xa831c66d, 0xb00327c8, 0xbf597fc7, 0xc6e00bf3, 0xd5a79147, 0x06ca6351, 0x14292967,
    0x27b70a85, 0x2e1b2138, 0x4d2c6dfc, 0x53380d13, 0x650a7354, 0x766a0abb, 0x81c2c92e, 0x92722c85,
    0xa2bfe8a1, 0xa81a664b, 0xc24b8b70, 0xc76c51a3, 0xd192e819, 0xd6990624, 0xf40e3585, 0x106aa070,
    0x19a4c116, 0x1e376c08, 0x2748774c, 0x34b0bcb5, 0x391c0cb3, 0x4ed8aa4a, 0x5b9cca4f, 0x682e6ff3,
    0x748f82ee, 0x78a5636f, 0x84c87814, 0x8cc70208, 0x90befffa, 0xa4506ceb, 0xbef9a3f7, 0xc67178f2]
def kAt (i : Nat) : U := BitVec.ofNat 32 (keyL.getD i 0)
def rnds (s : St) (M : Nat → U) : Nat → St
  | 0 => s
  | n + 1 => rnd (rnds s M n) (kAt n + wAt M n)
def St.add (s t : St) : St := ⟨s.a + t.a, s.b + t.b, s.c + t.c, s.d + t.d, s.e + t.e, s.f + t.f, s.g + t.g, s.h + t.h⟩
/-- A block, taken into a state. -/
def blk (s : St) (M : Nat → U) : St := s.add (rnds s M 64)
/-- The byte of a text at a place. -/
def byteAt (t : ByteArray) (i : Nat) : UInt8 := t.data.toList.getD i 0
theorem byteAt_get (t : ByteArray) (i : Nat) (h : i < t.size) : byteAt t i = t[i] := by
  unfold byteAt
  rw [List.getD, List.getElem?_eq_getElem (by simpa using h)]
  rfl
/-- The 16 words of a text's block that begins at o. -/
def wordAt (t : ByteArray) (o i : Nat) : U :=
  bU (byteAt t (o + 4 * i)) <<< 24 ||| bU (byteAt t (o + 4 * i + 1)) <<< 16 ||| bU (byteAt t (o + 4 * i + 2)) <<< 8 ||| bU (byteAt t (o + 4 * i + 3))
/-- The first n blocks of a text, taken into a state. -/
def blks (s : St) (t : ByteArray) : Nat → St
  | 0 => s
  | n + 1 => blk (blks s t n) (wordAt t (64 * n))
def st0 : St := ⟨0x6a09e667, 0xbb67ae85, 0x3c6ef372, 0xa54ff53a, 0x510e527f, 0x9b05688c, 0x1f83d9ab, 0x5be0cd19⟩
end Go.Proofs.YthhmobjphloahagDoor
