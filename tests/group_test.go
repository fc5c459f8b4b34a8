package tests

import (
	"math"
	"math/big"
	"testing"

	"loop.example/g00371/impl"
)

const mostModulus = 1<<31 - 1

func checkNumber(t *testing.T, got int64, want int64, what string, args ...int64) {
	t.Helper()
	if got != want {
		t.Errorf("%s of %d: got %d, want %d", what, args, got, want)
	}
}

func bigProduct(a int64, b int64, m int64) int64 {
	all := new(big.Int).Mul(big.NewInt(a), big.NewInt(b))
	return all.Mod(all, big.NewInt(m)).Int64()
}

func bigPower(a int64, n int64, m int64) int64 {
	return new(big.Int).Exp(big.NewInt(a), big.NewInt(n), big.NewInt(m)).Int64()
}

// inGroup tells by another way than the document's: the group is the squares modulo GroupP.
func inGroup(y int64) bool {
	return y >= 1 && y < impl.GroupP && big.Jacobi(big.NewInt(y), big.NewInt(impl.GroupP)) == 1
}

func rightModuli() []int64 {
	return []int64{2, 3, 4, 5, 6, 7, 9, 10, 15, 16, 561, 65536, 65537, impl.GroupQ - 1, impl.GroupQ, impl.GroupQ + 1,
		1 << 30, impl.GroupP - 1, impl.GroupP, impl.GroupP + 1, mostModulus - 1, mostModulus}
}

func wrongModuli() []int64 {
	return []int64{1, 0, -1, -2, -7, -impl.GroupP, 1 << 31, 1<<31 + 1, 1 << 32, 1<<32 + 7, math.MaxInt64, math.MinInt64}
}

// upNumbers are the numbers not below 0 at which sums, products and bits of powers have their edges.
func upNumbers() []int64 {
	all := []int64{impl.GroupG, impl.GroupQ - 1, impl.GroupQ, impl.GroupQ + 1, 2 * impl.GroupQ,
		impl.GroupP - 1, impl.GroupP, impl.GroupP + 1, math.MaxInt64 - 1}
	for _, n := range edgeNumbers() {
		if n >= 0 {
			all = append(all, n)
		}
	}
	return all
}

func downNumbers() []int64 {
	return []int64{-1, -2, -3, -impl.GroupQ, -impl.GroupP, -1 << 31, -1 << 32, math.MinInt64 + 1, math.MinInt64}
}

// groupNumbers are numbers of the group from all of its width, and 1, which GroupRight leaves out.
func groupNumbers() []int64 {
	all := []int64{1, 4, 9, 16}
	for y := int64(3); len(all) < 200; y = (y*48271 + 12345) % impl.GroupP {
		if inGroup(y) {
			all = append(all, y)
		}
	}
	for y := int64(impl.GroupP - 1); len(all) < 230; y-- {
		if inGroup(y) {
			all = append(all, y)
		}
	}
	return all
}

func TestGroupConstants(t *testing.T) {
	if impl.GroupP != 2147483579 || impl.GroupQ != 1073741789 || impl.GroupG != 4 {
		t.Errorf("constants: %d %d %d", impl.GroupP, impl.GroupQ, impl.GroupG)
	}
	if !big.NewInt(impl.GroupP).ProbablyPrime(0) || !big.NewInt(impl.GroupQ).ProbablyPrime(0) {
		t.Error("GroupP or GroupQ is no prime")
	}
	if impl.GroupP != 2*impl.GroupQ+1 || !inGroup(impl.GroupG) {
		t.Error("GroupP, GroupQ and GroupG do not go together")
	}
}

func TestModMulAndModPowOfKnownOnes(t *testing.T) {
	for _, c := range []struct{ a, n, m, product, power int64 }{
		{7, 8, 10, 6, 1},
		{3, 4, 10, 2, 1},
		{0, 0, 2, 0, 1},
		{0, 0, mostModulus, 0, 1},
		{0, 5, 7, 0, 0},
		{5, 0, 7, 0, 1},
		{7, 0, 7, 0, 1},
		{7, 3, 7, 0, 0},
		{1, math.MaxInt64, 2, 1, 1},
		{2, math.MaxInt64, 2, 0, 0},
		{math.MaxInt64, math.MaxInt64, 2, 1, 1},
		{math.MaxInt64, math.MaxInt64, mostModulus, 1, 1},
		{math.MaxInt64, 0, mostModulus, 0, 1},
		{mostModulus - 1, mostModulus - 1, mostModulus, 1, 1},
		{mostModulus - 1, 3, mostModulus, mostModulus - 3, mostModulus - 1},
	} {
		checkNumber(t, impl.ModMul(c.a, c.n, c.m), c.product, "ModMul", c.a, c.n, c.m)
		checkNumber(t, impl.ModPow(c.a, c.n, c.m), c.power, "ModPow", c.a, c.n, c.m)
	}
}

func TestModMulAndModPowOfSmallOnes(t *testing.T) {
	for m := int64(2); m <= 20; m++ {
		for a := range int64(45) {
			counted := int64(1)
			for n := range int64(45) {
				checkNumber(t, impl.ModMul(a, n, m), a*n%m, "ModMul", a, n, m)
				checkNumber(t, impl.ModPow(a, n, m), counted, "ModPow", a, n, m)
				counted = counted * a % m
			}
		}
	}
}

func TestModMulAndModPowAtTheEdges(t *testing.T) {
	for _, m := range rightModuli() {
		for _, a := range upNumbers() {
			for _, b := range upNumbers() {
				checkNumber(t, impl.ModMul(a, b, m), bigProduct(a, b, m), "ModMul", a, b, m)
			}
			for _, n := range []int64{0, 1, 2, 3, m - 2, m - 1, m, impl.GroupQ, 1 << 31, 1<<62 + 5, math.MaxInt64 - 1, math.MaxInt64} {
				checkNumber(t, impl.ModPow(a, n, m), bigPower(a, n, m), "ModPow", a, n, m)
			}
		}
		for _, n := range upNumbers() {
			checkNumber(t, impl.ModPow(m-1, n, m), bigPower(m-1, n, m), "ModPow", m-1, n, m)
		}
	}
}

func TestModMulAndModPowOfWrongOnes(t *testing.T) {
	for _, m := range rightModuli() {
		for _, down := range downNumbers() {
			for _, a := range []int64{0, 1, 2, m, math.MaxInt64, -1, math.MinInt64} {
				checkNumber(t, impl.ModMul(a, down, m), 0, "ModMul", a, down, m)
				checkNumber(t, impl.ModMul(down, a, m), 0, "ModMul", down, a, m)
				checkNumber(t, impl.ModPow(a, down, m), 0, "ModPow", a, down, m)
				checkNumber(t, impl.ModPow(down, a, m), 0, "ModPow", down, a, m)
			}
		}
	}
	for _, m := range wrongModuli() {
		for _, a := range []int64{0, 1, 2, 3, math.MaxInt64, -1, math.MinInt64} {
			for _, b := range []int64{0, 1, 2, 3, math.MaxInt64, -1, math.MinInt64} {
				checkNumber(t, impl.ModMul(a, b, m), 0, "ModMul", a, b, m)
				checkNumber(t, impl.ModPow(a, b, m), 0, "ModPow", a, b, m)
			}
		}
	}
}

// Promise 4: of a prime modulus, a number times its inverse is 1.
func TestModInvOfPrimes(t *testing.T) {
	for _, m := range []int64{2, 3, 5, 7, 11, 13, 65537, impl.GroupQ, impl.GroupP, mostModulus} {
		for _, a := range append(upNumbers(), 1, 2, m/2, m-2, m-1, m, m+1) {
			got := impl.ModInv(a, m)
			if a < 1 || a >= m {
				checkNumber(t, got, 0, "ModInv", a, m)
				continue
			}
			checkNumber(t, impl.ModMul(a, got, m), 1, "product with ModInv", a, m)
			checkNumber(t, got, new(big.Int).ModInverse(big.NewInt(a), big.NewInt(m)).Int64(), "ModInv", a, m)
		}
	}
}

// Of a modulus that is no prime it is the power, be that an inverse or not.
func TestModInvOfOthers(t *testing.T) {
	for _, c := range []struct{ a, m, want int64 }{
		{1, 2, 1}, {1, 4, 1}, {2, 4, 0}, {3, 4, 1}, {3, 6, 3}, {5, 6, 1}, {3, 8, 1}, {2, 9, 2}, {3, 10, 1}, {7, 10, 1},
		{2, 10, 6}, {5, 10, 5}, {9, 10, 1},
	} {
		checkNumber(t, impl.ModInv(c.a, c.m), c.want, "ModInv", c.a, c.m)
	}
	for _, m := range rightModuli() {
		for _, a := range []int64{1, 2, 3, 4, 6, m / 2, m/2 + 1, m - 2, m - 1} {
			if a >= 1 && a < m {
				checkNumber(t, impl.ModInv(a, m), bigPower(a, m-2, m), "ModInv", a, m)
			}
		}
	}
}

func TestModInvOfWrongOnes(t *testing.T) {
	for _, m := range rightModuli() {
		for _, a := range append(downNumbers(), 0, m, m+1, 2*m+1, 1<<32+1, math.MaxInt64) {
			checkNumber(t, impl.ModInv(a, m), 0, "ModInv", a, m)
		}
	}
	for _, m := range wrongModuli() {
		for _, a := range append(downNumbers(), 0, 1, 2, 3, m-1, m, math.MaxInt64) {
			checkNumber(t, impl.ModInv(a, m), 0, "ModInv", a, m)
		}
	}
}

func TestGroupRight(t *testing.T) {
	for y, want := range map[int64]bool{0: false, 1: false, 2: false, 3: true, impl.GroupG: true, 9: true,
		impl.GroupP - 1: false, impl.GroupP: false, impl.GroupP + 1: false, impl.GroupP + impl.GroupG: false,
		-1: false, -impl.GroupG: false, impl.GroupG - impl.GroupP: false, 1<<32 + impl.GroupG: false,
		math.MaxInt64: false, math.MinInt64: false} {
		if got := impl.GroupRight(y); got != want {
			t.Errorf("GroupRight of %d: got %v, want %v", y, got, want)
		}
	}
	for y := int64(2); y < 3000; y++ {
		for _, n := range []int64{y, y * 700001, impl.GroupP - y} {
			if got := impl.GroupRight(n); got != inGroup(n) {
				t.Errorf("GroupRight of %d: got %v, want %v", n, got, inGroup(n))
			}
		}
	}
}

func TestGroupMul(t *testing.T) {
	right := []int64{1, 2, 3, impl.GroupG, 46341, impl.GroupQ - 1, impl.GroupQ, impl.GroupQ + 1, impl.GroupP - 2, impl.GroupP - 1}
	wrong := append(downNumbers(), 0, impl.GroupP, impl.GroupP+1, 1<<31, 1<<32+1, math.MaxInt64)
	for _, a := range right {
		for _, b := range right {
			checkNumber(t, impl.GroupMul(a, b), bigProduct(a, b, impl.GroupP), "GroupMul", a, b)
		}
		for _, b := range wrong {
			checkNumber(t, impl.GroupMul(a, b), 0, "GroupMul", a, b)
			checkNumber(t, impl.GroupMul(b, a), 0, "GroupMul", b, a)
		}
	}
	for _, b := range wrong {
		checkNumber(t, impl.GroupMul(b, b), 0, "GroupMul", b, b)
	}
}

// The power is n modulo GroupQ: of a number outside the group that is not the power n.
func TestGroupPow(t *testing.T) {
	for _, y := range []int64{1, 2, 3, impl.GroupG, 46341, impl.GroupQ, impl.GroupP - 4, impl.GroupP - 2, impl.GroupP - 1} {
		for _, n := range upNumbers() {
			checkNumber(t, impl.GroupPow(y, n), bigPower(y, n%impl.GroupQ, impl.GroupP), "GroupPow", y, n)
		}
		for _, n := range downNumbers() {
			checkNumber(t, impl.GroupPow(y, n), 0, "GroupPow", y, n)
		}
		checkNumber(t, impl.GroupPow(y, 0), 1, "GroupPow", y, 0)
		checkNumber(t, impl.GroupPow(y, impl.GroupQ), 1, "GroupPow", y, impl.GroupQ)
		checkNumber(t, impl.GroupPow(y, impl.GroupQ+1), y, "GroupPow", y, impl.GroupQ+1)
	}
	checkNumber(t, impl.GroupPow(impl.GroupP-1, impl.GroupQ-1), 1, "GroupPow", impl.GroupP-1, impl.GroupQ-1)
	checkNumber(t, impl.GroupPow(impl.GroupP-1, impl.GroupQ-2), impl.GroupP-1, "GroupPow", impl.GroupP-1, impl.GroupQ-2)
	for _, y := range append(downNumbers(), 0, impl.GroupP, impl.GroupP+1, impl.GroupP+4, 1<<31, 1<<32+4, math.MaxInt64) {
		for _, n := range []int64{-1, 0, 1, 2, impl.GroupQ - 1, impl.GroupQ, math.MaxInt64, math.MinInt64} {
			checkNumber(t, impl.GroupPow(y, n), 0, "GroupPow", y, n)
		}
	}
}

// Promise 4: a number of the group times its inverse is 1.
func TestGroupInverses(t *testing.T) {
	for _, y := range groupNumbers() {
		inverse := impl.GroupPow(y, impl.GroupQ-1)
		checkNumber(t, impl.GroupMul(y, inverse), 1, "product with the power GroupQ less 1", y)
		checkNumber(t, impl.GroupMul(inverse, y), 1, "product with the power GroupQ less 1", y)
		checkNumber(t, impl.ModInv(y, impl.GroupP), inverse, "ModInv", y)
		if impl.GroupRight(inverse) != (y != 1) {
			t.Errorf("the inverse of %d is %d, not of the group", y, inverse)
		}
	}
}

// Promise 4: powers of the group add up, and what they make stays in it.
func TestGroupPowersAddUp(t *testing.T) {
	powers := []int64{0, 1, 2, 3, 1 << 29, impl.GroupQ - 2, impl.GroupQ - 1, impl.GroupQ, impl.GroupQ + 1, impl.GroupP, 1<<62 - 1}
	for _, y := range groupNumbers() {
		for _, a := range powers {
			for _, b := range powers {
				both := impl.GroupMul(impl.GroupPow(y, a), impl.GroupPow(y, b))
				checkNumber(t, both, impl.GroupPow(y, a+b), "GroupPow of the sum", y, a, b)
				if both != 1 && !impl.GroupRight(both) {
					t.Errorf("%d to the powers %d and %d: %d is not of the group", y, a, b, both)
				}
				twice := impl.GroupPow(impl.GroupPow(y, a), b)
				checkNumber(t, twice, impl.GroupPow(y, impl.ModMul(a, b, impl.GroupQ)), "GroupPow of the product", y, a, b)
			}
		}
	}
}
