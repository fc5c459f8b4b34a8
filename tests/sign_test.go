package tests

import (
	"math"
	"strings"
	"testing"

	"loop.example/g00371/impl"
)

// standardNumber is the number of a digest, by the standard library's digest.
func standardNumber(text string) int64 {
	var n int64
	for _, b := range []byte(standardDigest(text)[:7]) {
		n = n*256 + int64(b)
	}
	return n
}

func standardChallenge(r int64, key int64, text string) int64 {
	return standardNumber(standardNum(r)+standardNum(key)+text) % impl.GroupQ
}

// standardSign is what a secret signs with the power k, be it SignText's or another one.
func standardSign(x int64, k int64, text string) impl.Sig {
	key := bigPower(impl.GroupG, x, impl.GroupP)
	e := standardChallenge(bigPower(impl.GroupG, k, impl.GroupP), key, text)
	return impl.Sig{Key: key, E: e, S: (k + bigProduct(e, x, impl.GroupQ)) % impl.GroupQ}
}

func standardPower(x int64, text string) int64 {
	return standardNumber("\x4b"+standardNum(x)+text)%(impl.GroupQ-1) + 1
}

// standardCheck takes the inverse of a power of the key where the document takes another power.
func standardCheck(s impl.Sig, text string) bool {
	if !inGroup(s.Key) || s.Key == 1 || s.E < 0 || s.E >= impl.GroupQ || s.S < 0 || s.S >= impl.GroupQ {
		return false
	}
	taken := bigPower(bigPower(s.Key, s.E, impl.GroupP), impl.GroupP-2, impl.GroupP)
	r := bigProduct(bigPower(impl.GroupG, s.S, impl.GroupP), taken, impl.GroupP)
	return s.E == standardChallenge(r, s.Key, text)
}

func someSecrets() []int64 {
	return []int64{1, 2, 3, 63, 64, 77, 1001, 46341, 123456789, impl.GroupQ / 2, impl.GroupQ/2 + 1, impl.GroupQ - 2, impl.GroupQ - 1}
}

func noSecrets() []int64 {
	return append(downNumbers(), 0, impl.GroupQ, impl.GroupQ+1, 2*impl.GroupQ+1, impl.GroupP, 1<<32+1, 1<<62, math.MaxInt64)
}

// notUnits are numbers that have no inverse modulo GroupP, or are not its remainders.
func notUnits() []int64 {
	return append(downNumbers(), 0, impl.GroupP, impl.GroupP+1, impl.GroupP+impl.GroupG, 1<<31, 1<<32+4, math.MaxInt64)
}

// notRemainders are numbers that are left of no division by GroupQ.
func notRemainders() []int64 {
	return append(downNumbers(), impl.GroupQ, impl.GroupQ+1, 2*impl.GroupQ-1, 2*impl.GroupQ, 1<<32, math.MaxInt64)
}

// signTexts are texts at the edges of blocks, at MaxBytes, and those with any byte.
func signTexts() []string {
	all := []string{"", "a", "hello", "hellO", "\x00", "\x00\x00", "\xff", "é", allBytes(), strings.Repeat("m", impl.MaxBytes)}
	for _, size := range []int{45, 46, 47, 53, 54, 55, 56, 63, 64, 65, 119, 4000, impl.MaxBytes - 12, impl.MaxBytes - 11,
		impl.MaxBytes - 10, impl.MaxBytes - 6, impl.MaxBytes - 5, impl.MaxBytes - 2, impl.MaxBytes - 1, impl.MaxBytes} {
		all = append(all, mixedText(size))
	}
	return all
}

func tooLongTexts() []string {
	return []string{mixedText(impl.MaxBytes + 1), strings.Repeat("m", impl.MaxBytes+1), mixedText(2 * impl.MaxBytes)}
}

func checkSigCheck(t *testing.T, what string, s impl.Sig, text string, want bool) {
	t.Helper()
	if got := impl.SigCheck(s, text); got != want {
		t.Errorf("SigCheck of %+v, %d bytes, starting %q, %s: got %v, want %v", s, len(text), firstBytes(text), what, got, want)
	}
}

func checkSig(t *testing.T, what string, got impl.Sig, want impl.Sig) {
	t.Helper()
	if got != want {
		t.Errorf("%s: got %+v, want %+v", what, got, want)
	}
}

func TestSecretRight(t *testing.T) {
	for _, x := range someSecrets() {
		if !impl.SecretRight(x) {
			t.Errorf("SecretRight of %d: got false", x)
		}
	}
	for _, x := range noSecrets() {
		if impl.SecretRight(x) {
			t.Errorf("SecretRight of %d: got true", x)
		}
	}
}

func TestPublicOf(t *testing.T) {
	for _, c := range []struct{ x, want int64 }{
		{1, 4}, {2, 16}, {3, 64}, {15, 1 << 30}, {77, 1855757464}, {1001, 554688020}, {impl.GroupQ - 1, 536870895},
	} {
		checkNumber(t, impl.PublicOf(c.x), c.want, "PublicOf", c.x)
	}
	for _, x := range someSecrets() {
		key := impl.PublicOf(x)
		checkNumber(t, key, bigPower(impl.GroupG, x, impl.GroupP), "PublicOf", x)
		if !impl.GroupRight(key) {
			t.Errorf("PublicOf of %d: %d is not GroupRight", x, key)
		}
	}
	for _, x := range noSecrets() {
		checkNumber(t, impl.PublicOf(x), 0, "PublicOf", x)
	}
}

func TestChallengesThatAreKnown(t *testing.T) {
	for _, c := range []struct {
		r, key int64
		text   string
		want   int64
	}{
		{1, 1, "", 415240252},
		{impl.GroupP - 1, impl.GroupP - 1, "", 528471154},
		{4, 16, "abc", 201427532},
		{impl.GroupP - 1, 1, "\x00\xff", 818686706},
		{1, impl.GroupP - 1, strings.Repeat("m", impl.MaxBytes), 344033707},
	} {
		checkNumber(t, impl.Challenge(c.r, c.key, c.text), c.want, "Challenge", c.r, c.key, int64(len(c.text)))
	}
}

// Numbers outside the group may be asked too: the challenge asks for their bounds alone.
func TestChallengeAtTheEdges(t *testing.T) {
	right := []int64{1, 2, 3, 63, 64, 8191, 8192, impl.GroupQ - 1, impl.GroupQ, impl.GroupQ + 1, impl.GroupP - 2, impl.GroupP - 1}
	for _, text := range signTexts() {
		for _, r := range right {
			for _, key := range []int64{1, 4, 64, impl.GroupQ, impl.GroupP - 1} {
				checkNumber(t, impl.Challenge(r, key, text), standardChallenge(r, key, text), "Challenge", r, key, int64(len(text)))
			}
		}
	}
	for _, r := range right {
		for _, key := range right {
			got := impl.Challenge(r, key, "edge")
			checkNumber(t, got, standardChallenge(r, key, "edge"), "Challenge", r, key)
			if got < 0 || got >= impl.GroupQ {
				t.Errorf("Challenge of %d and %d: %d is not from 0 to GroupQ less 1", r, key, got)
			}
		}
	}
}

func TestChallengeOfWrongOnes(t *testing.T) {
	for _, wrong := range notUnits() {
		for _, other := range []int64{1, 4, impl.GroupP - 1, 0, impl.GroupP, -1, math.MaxInt64} {
			for _, text := range []string{"", "a", mixedText(impl.MaxBytes), mixedText(impl.MaxBytes + 1)} {
				checkNumber(t, impl.Challenge(wrong, other, text), 0, "Challenge", wrong, other, int64(len(text)))
				checkNumber(t, impl.Challenge(other, wrong, text), 0, "Challenge", other, wrong, int64(len(text)))
			}
		}
	}
	for _, text := range tooLongTexts() {
		for _, r := range []int64{1, 4, impl.GroupP - 1} {
			checkNumber(t, impl.Challenge(r, r, text), 0, "Challenge", r, r, int64(len(text)))
		}
	}
}

func TestSignaturesThatAreKnown(t *testing.T) {
	most := strings.Repeat("m", impl.MaxBytes)
	for _, c := range []struct {
		x    int64
		text string
		want impl.Sig
	}{
		{1, "", impl.Sig{Key: 4, E: 654472554, S: 586188757}},
		{2, "abc", impl.Sig{Key: 16, E: 339357960, S: 758604023}},
		{77, "hello", impl.Sig{Key: 1855757464, E: 706873770, S: 376749186}},
		{1001, "hello", impl.Sig{Key: 554688020, E: 1058906874, S: 572036885}},
		{123456789, "\x00\xff", impl.Sig{Key: 436533508, E: 191061085, S: 229549634}},
		{impl.GroupQ - 1, "", impl.Sig{Key: 536870895, E: 364486083, S: 927296702}},
		{1, most, impl.Sig{Key: 4, E: 736419728, S: 266148454}},
		{impl.GroupQ - 1, most, impl.Sig{Key: 536870895, E: 500892612, S: 391760100}},
	} {
		checkSig(t, "SignText of a known one", impl.SignText(c.x, c.text), c.want)
		checkSigCheck(t, "of a known one", c.want, c.text, true)
	}
}

// Promise 5: what a secret has signed passes with its key.
func TestWhatIsSignedPasses(t *testing.T) {
	for _, x := range someSecrets() {
		for _, text := range signTexts() {
			s := impl.SignText(x, text)
			checkSig(t, "SignText", s, standardSign(x, standardPower(x, text), text))
			checkNumber(t, s.Key, impl.PublicOf(x), "the Key of SignText", x)
			if !impl.SigRight(s) {
				t.Errorf("SignText of %d and %d bytes: %+v is not right", x, len(text), s)
			}
			checkSigCheck(t, "signed", s, text, true)
		}
	}
}

// Promise 5: for secrets from all of their width.
func TestWhatManySecretsSignPasses(t *testing.T) {
	x := int64(5)
	for size := range 1000 {
		x = (x*48271+12345)%(impl.GroupQ-1) + 1
		text := mixedText(size % 200)
		s := impl.SignText(x, text)
		checkSig(t, "SignText", s, standardSign(x, standardPower(x, text), text))
		checkSigCheck(t, "signed", s, text, true)
		checkSigCheck(t, "of one byte more", s, text+"x", false)
	}
}

func TestSignTextOfWrongOnes(t *testing.T) {
	for _, x := range noSecrets() {
		for _, text := range []string{"", "hello", mixedText(impl.MaxBytes), mixedText(impl.MaxBytes + 1)} {
			checkSig(t, "SignText of no secret", impl.SignText(x, text), impl.Sig{})
		}
	}
	for _, x := range someSecrets() {
		for _, text := range tooLongTexts() {
			checkSig(t, "SignText of a text of too many bytes", impl.SignText(x, text), impl.Sig{})
		}
	}
}

func TestSigRight(t *testing.T) {
	edges := []int64{0, 1, 2, impl.GroupQ / 2, impl.GroupQ - 2, impl.GroupQ - 1}
	check := func(s impl.Sig, want bool) {
		t.Helper()
		if got := impl.SigRight(s); got != want {
			t.Errorf("SigRight of %+v: got %v", s, got)
		}
	}
	for _, e := range edges {
		for _, s := range edges {
			for _, key := range []int64{3, impl.GroupG, 9, impl.PublicOf(77), impl.PublicOf(impl.GroupQ - 1)} {
				check(impl.Sig{Key: key, E: e, S: s}, true)
			}
			for _, key := range append(notUnits(), 1, 2, impl.GroupP-4, impl.GroupP-1) {
				check(impl.Sig{Key: key, E: e, S: s}, false)
			}
		}
		for _, wrong := range notRemainders() {
			check(impl.Sig{Key: impl.GroupG, E: e, S: wrong}, false)
			check(impl.Sig{Key: impl.GroupG, E: wrong, S: e}, false)
			check(impl.Sig{Key: impl.GroupG, E: wrong, S: wrong}, false)
		}
	}
	check(impl.Sig{}, false)
}

// Promise 5: what passes passes for its own Key, E, S and text alone.
func TestSigCheckOfAnotherOne(t *testing.T) {
	for _, x := range someSecrets() {
		for _, text := range []string{"", "hello", mixedText(64), mixedText(impl.MaxBytes - 1), mixedText(impl.MaxBytes)} {
			s := impl.SignText(x, text)
			checkOtherParts(t, s, text)
			checkSigCheck(t, "of another text", s, "x"+text[:len(text)/2], false)
			checkSigCheck(t, "of too long a text", s, text+mixedText(impl.MaxBytes+1), false)
			if text != "" {
				checkSigCheck(t, "of a text that is cut", s, text[:len(text)-1], false)
				checkSigCheck(t, "of no text", s, "", false)
			}
		}
	}
}

func checkOtherParts(t *testing.T, s impl.Sig, text string) {
	t.Helper()
	others := append(notRemainders(), 0, 1, 2, impl.GroupQ-1)
	for _, by := range []int64{1, 2, 1 << 20, impl.GroupQ / 2, impl.GroupQ - 1} {
		others = append(others, (s.E+by)%impl.GroupQ, (s.S+by)%impl.GroupQ)
	}
	// A number that is GroupQ beside its own would pass if it were not asked for its bounds.
	for _, n := range append(others, s.S+impl.GroupQ, s.S-impl.GroupQ, s.E+impl.GroupQ, s.E-impl.GroupQ, -s.E, -s.S) {
		if n != s.E {
			checkSigCheck(t, "of another E", impl.Sig{Key: s.Key, E: n, S: s.S}, text, false)
		}
		if n != s.S {
			checkSigCheck(t, "of another S", impl.Sig{Key: s.Key, E: s.E, S: n}, text, false)
		}
	}
	for _, key := range append(notUnits(), 1, 2, 3, 4, 9, impl.PublicOf(76), impl.PublicOf(78), impl.GroupP-s.Key,
		impl.GroupP+s.Key, -s.Key, impl.ModInv(s.Key, impl.GroupP), impl.GroupP-1) {
		if key != s.Key {
			checkSigCheck(t, "of another Key", impl.Sig{Key: key, E: s.E, S: s.S}, text, false)
		}
	}
	if s.E != s.S {
		checkSigCheck(t, "of E and S changed round", impl.Sig{Key: s.Key, E: s.S, S: s.E}, text, false)
	}
	checkSigCheck(t, "of the zero one", impl.Sig{}, text, false)
}

// Any power will do: a signature need not be the one that SignText makes.
func TestSigCheckOfOtherPowers(t *testing.T) {
	for _, x := range someSecrets() {
		for _, k := range []int64{0, 1, 2, 77, impl.GroupQ / 2, impl.GroupQ - 1} {
			for _, text := range []string{"", "hello", mixedText(impl.MaxBytes)} {
				checkSigCheck(t, "of another power", standardSign(x, k, text), text, true)
			}
		}
	}
}

// E and S at both ends: texts that were looked for till their challenges were these.
func TestSigCheckWhereEAndSAreAtTheirEnds(t *testing.T) {
	key := impl.PublicOf(77)
	for _, c := range []struct {
		e, s int64
		text string
	}{
		{0, 0, "364049527"},
		{0, impl.GroupQ - 1, "1962815732"},
		{impl.GroupQ - 1, 0, "74042330"},
		{impl.GroupQ - 1, impl.GroupQ - 1, "2143037947"},
	} {
		s := impl.Sig{Key: key, E: c.e, S: c.s}
		checkSigCheck(t, "at the ends", s, c.text, true)
		checkSigCheck(t, "of another text", s, c.text+"0", false)
		for _, way := range []int64{-impl.GroupQ, impl.GroupQ} {
			checkSigCheck(t, "of E beyond", impl.Sig{Key: key, E: c.e + way, S: c.s}, c.text, false)
			checkSigCheck(t, "of S beyond", impl.Sig{Key: key, E: c.e, S: c.s + way}, c.text, false)
		}
	}
}

// Without a secret, anybody can find numbers that would fit a Key that is not GroupRight.
func TestSigCheckOfKeysWithoutASecret(t *testing.T) {
	for s := range int64(20) {
		r := bigPower(impl.GroupG, s, impl.GroupP)
		ofOne := impl.Sig{Key: 1, E: standardChallenge(r, 1, "mine"), S: s}
		checkSigCheck(t, "of the Key 1", ofOne, "mine", false)
		// GroupP less 1 to an even power is 1, to an odd one itself: one of these would fit about half the time.
		for _, asked := range []int64{r, impl.GroupP - r} {
			e := standardChallenge(asked, impl.GroupP-1, "mine")
			checkSigCheck(t, "of the Key GroupP less 1", impl.Sig{Key: impl.GroupP - 1, E: e, S: s}, "mine", false)
		}
	}
}

func TestSigCheckOfAnyNumbers(t *testing.T) {
	numbers := []int64{math.MinInt64, -impl.GroupQ, -1, 0, 1, 2, 3, 4, 9, impl.GroupQ - 1, impl.GroupQ, impl.GroupP - 1, impl.GroupP, math.MaxInt64}
	for _, key := range numbers {
		for _, e := range numbers {
			for _, s := range numbers {
				for _, text := range []string{"", "hello", mixedText(impl.MaxBytes)} {
					sig := impl.Sig{Key: key, E: e, S: s}
					checkSigCheck(t, "of any numbers", sig, text, standardCheck(sig, text))
				}
				checkSigCheck(t, "of too long a text", impl.Sig{Key: key, E: e, S: s}, mixedText(impl.MaxBytes+1), false)
			}
		}
	}
}
