package tests

import (
	"crypto/sha256"
	"encoding"
	"encoding/binary"
	"encoding/hex"
	"hash"
	"math"
	"reflect"
	"slices"
	"strings"
	"testing"

	"loop.example/g00371/impl"
)

const (
	mostSize = 1 << 40
	mostWord = 1<<32 - 1
)

// mixedText has that many bytes, of which no two blocks are alike.
func mixedText(size int) string {
	b := make([]byte, size)
	for i := range b {
		b[i] = byte(i*7 + i/64*31 + i/256)
	}
	return string(b)
}

func standardDigest(text string) string {
	sum := sha256.Sum256([]byte(text))
	return string(sum[:])
}

// standardHash is the standard library's hash that stands where h does.
func standardHash(t *testing.T, h impl.Hash) hash.Hash {
	t.Helper()
	b := []byte("sha\x03")
	for _, n := range h.State {
		b = binary.BigEndian.AppendUint32(b, uint32(n))
	}
	b = append(b, h.Rest...)
	b = append(b, make([]byte, 64-len(h.Rest))...)
	b = binary.BigEndian.AppendUint64(b, uint64(h.Size))
	s := sha256.New()
	if err := s.(encoding.BinaryUnmarshaler).UnmarshalBinary(b); err != nil {
		t.Fatal(err)
	}
	return s
}

// hashOf is the Hash that stands where the standard library's does.
func hashOf(t *testing.T, s hash.Hash) impl.Hash {
	t.Helper()
	b, err := s.(encoding.BinaryMarshaler).MarshalBinary()
	if err != nil {
		t.Fatal(err)
	}
	h := impl.Hash{State: []int64{}, Size: int64(binary.BigEndian.Uint64(b[100:]))}
	for i := range 8 {
		h.State = append(h.State, int64(binary.BigEndian.Uint32(b[4+4*i:])))
	}
	h.Rest = string(b[36 : 36+h.Size%64])
	return h
}

func standardMore(t *testing.T, h impl.Hash, text string) impl.Hash {
	t.Helper()
	s := standardHash(t, h)
	s.Write([]byte(text))
	return hashOf(t, s)
}

func sameHash(a impl.Hash, b impl.Hash) bool {
	return slices.Equal(a.State, b.State) && a.Rest == b.Rest && a.Size == b.Size
}

func checkHash(t *testing.T, what string, got impl.Hash, want impl.Hash) {
	t.Helper()
	if !sameHash(got, want) {
		t.Errorf("%s: got State of %d %x, Rest of %d %q, Size %d, want State of %d %x, Rest of %d %q, Size %d", what,
			len(got.State), got.State[:min(len(got.State), 8)], len(got.Rest), firstBytes(got.Rest), got.Size,
			len(want.State), want.State[:min(len(want.State), 8)], len(want.Rest), firstBytes(want.Rest), want.Size)
	}
}

func checkDigest(t *testing.T, what string, got string, want string) {
	t.Helper()
	if got != want {
		t.Errorf("%s: got %x, want %x", what, got, want)
	}
}

// rightHashes are right ones of all kinds: also of texts that nobody has, and of the greatest numbers.
func rightHashes() map[string]impl.Hash {
	return map[string]impl.Hash{
		"begun":         {State: beginNumbers(), Size: 0},
		"one byte":      {State: beginNumbers(), Rest: "a", Size: 1},
		"55 bytes":      {State: beginNumbers(), Rest: mixedText(55), Size: 55},
		"56 bytes":      {State: beginNumbers(), Rest: mixedText(56), Size: 56},
		"63 bytes":      {State: beginNumbers(), Rest: mixedText(63), Size: 63},
		"noughts":       {State: make([]int64, 8), Size: 64},
		"greatest":      {State: slices.Repeat([]int64{mostWord}, 8), Rest: "\x00\xff", Size: 130},
		"unlike":        {State: []int64{1, 2, 3, 4, 5, 6, 7, 8}, Rest: "x", Size: 1},
		"over 32 bits":  {State: []int64{mostWord, 0, 1, 1 << 31, 5, 6, 7, 8}, Rest: mixedText(7), Size: 1<<33 + 7},
		"greatest size": {State: []int64{8, 7, 6, 5, 4, 3, 2, 1}, Size: mostSize},
		"one less":      {State: []int64{8, 7, 6, 5, 4, 3, 2, 1}, Rest: mixedText(63), Size: mostSize - 1},
	}
}

func beginNumbers() []int64 {
	return []int64{0x6a09e667, 0xbb67ae85, 0x3c6ef372, 0xa54ff53a, 0x510e527f, 0x9b05688c, 0x1f83d9ab, 0x5be0cd19}
}

// wrongHashes are each not right in just one of their parts.
func wrongHashes() map[string]impl.Hash {
	all := map[string]impl.Hash{
		"zero":                     {},
		"empty state":              {State: []int64{}},
		"seven numbers":            {State: beginNumbers()[:7]},
		"nine numbers":             {State: append(beginNumbers(), 0)},
		"more than a list":         {State: make([]int64, impl.MaxList+1)},
		"rest of 64":               {State: beginNumbers(), Rest: mixedText(64), Size: 64},
		"rest of 64, size 0":       {State: beginNumbers(), Rest: mixedText(64)},
		"rest of 65":               {State: beginNumbers(), Rest: mixedText(65), Size: 65},
		"rest one short":           {State: beginNumbers(), Rest: "ab", Size: 3},
		"rest one long":            {State: beginNumbers(), Rest: "ab", Size: 1},
		"no rest":                  {State: beginNumbers(), Size: 127},
		"rest too many":            {State: beginNumbers(), Rest: "a", Size: 128},
		"rest over MaxBytes":       {State: beginNumbers(), Rest: mixedText(impl.MaxBytes + 1), Size: impl.MaxBytes + 1},
		"size -1":                  {State: beginNumbers(), Size: -1},
		"size -64":                 {State: beginNumbers(), Size: -64},
		"size -63, rest of one":    {State: beginNumbers(), Rest: "a", Size: -63},
		"least size":               {State: beginNumbers(), Size: math.MinInt64},
		"size one above":           {State: beginNumbers(), Rest: "a", Size: mostSize + 1},
		"size a block above":       {State: beginNumbers(), Size: mostSize + 64},
		"greatest size of numbers": {State: beginNumbers(), Rest: mixedText(63), Size: math.MaxInt64},
	}
	for i := range 8 {
		at := string(rune('0' + i))
		for what, n := range map[string]int64{"-1": -1, "2^32": mostWord + 1, "least": math.MinInt64, "greatest": math.MaxInt64} {
			state := beginNumbers()
			state[i] = n
			all["number "+at+" "+what] = impl.Hash{State: state, Rest: "abc", Size: 67}
		}
	}
	return all
}

// Promise 3: the digest is the one that is known.
func TestDigestsThatAreKnown(t *testing.T) {
	for _, c := range []struct{ text, want string }{
		{"", "e3b0c44298fc1c149afbf4c8996fb92427ae41e4649b934ca495991b7852b855"},
		{"abc", "ba7816bf8f01cfea414140de5dae2223b00361a396177a9cb410ff61f20015ad"},
		{strings.Repeat("a", 55), "9f4390f8d30c2dd92ec9f095b65e2b9ae9b0a925a5258e241c9f1e910f734318"},
		{strings.Repeat("a", 56), "b35439a4ac6f0948b6d6f9e3c6af0f5f590ce20f1bde7090ef7970686ec6738a"},
		{strings.Repeat("a", 63), "7d3e74a05d7db15bce4ad9ec0658ea98e3f06eeecf16b4c6fff2da457ddc2f34"},
		{strings.Repeat("a", 64), "ffe054fe7ae0cb6dc65c3af9b61d5209f439851db43d0ba5997337df154668eb"},
		{strings.Repeat("a", 65), "635361c48bb9eab14198e76ea8ab7f1a41685d6ad62aa9146d301d4f17eb0ae0"},
		{strings.Repeat("a", 119), "31eba51c313a5c08226adf18d4a359cfdfd8d2e816b13f4af952f7ea6584dcfb"},
		{strings.Repeat("a", 120), "2f3d335432c70b580af0e8e1b3674a7c020d683aa5f73aaaedfdc55af904c21c"},
		{strings.Repeat("a", impl.MaxBytes), "cc17faaad36649c4603dda4d8ff97cb149722af0bcac0746305a2134ad2d0b97"},
	} {
		got := impl.Digest(c.text)
		if hex.EncodeToString([]byte(got)) != c.want {
			t.Errorf("Digest of %d bytes: got %x, want %s", len(c.text), got, c.want)
		}
		if short := impl.Short(c.text); short != c.want[:8] {
			t.Errorf("Short of %d bytes: got %q, want %s", len(c.text), short, c.want[:8])
		}
	}
}

func TestDigestOfEachLength(t *testing.T) {
	for size := range 400 {
		text := mixedText(size)
		checkDigest(t, "Digest", impl.Digest(text), standardDigest(text))
	}
	most := mixedText(impl.MaxBytes)
	checkDigest(t, "Digest of MaxBytes bytes", impl.Digest(most), standardDigest(most))
}

func TestDigestOfOneByteTooMany(t *testing.T) {
	over := mixedText(impl.MaxBytes + 1)
	checkDigest(t, "Digest", impl.Digest(over), "")
	checkDigest(t, "Short", impl.Short(over), "")
	checkHash(t, "HashMore of a right one", impl.HashMore(impl.HashBegin(), over), impl.Hash{})
	for what, h := range wrongHashes() {
		checkHash(t, "HashMore of one that is not right: "+what, impl.HashMore(h, over), impl.Hash{})
	}
	full := impl.Hash{State: beginNumbers(), Size: mostSize}
	checkHash(t, "HashMore of a full one", impl.HashMore(full, over), impl.Hash{})
}

func TestHashBegin(t *testing.T) {
	begun := impl.HashBegin()
	checkHash(t, "HashBegin", begun, impl.Hash{State: beginNumbers()})
	checkDigest(t, "HashEnd of HashBegin", impl.HashEnd(begun), standardDigest(""))
	begun.State[0] = 0
	checkHash(t, "HashBegin, when another was changed", impl.HashBegin(), impl.Hash{State: beginNumbers()})
}

// Promise 3: the digest is the same, wherever the text is cut in two.
func TestDigestInTwoParts(t *testing.T) {
	for _, size := range []int{0, 1, 3, 55, 56, 63, 64, 65, 119, 120, 128, 200, 300} {
		text := mixedText(size)
		want := standardDigest(text)
		for cut := range size + 1 {
			h := impl.HashMore(impl.HashMore(impl.HashBegin(), text[:cut]), text[cut:])
			checkDigest(t, "in two parts", impl.HashEnd(h), want)
			checkHash(t, "in two parts", h, standardMore(t, impl.HashBegin(), text))
		}
	}
}

// Promise 3: the digest is the same, in parts of each length.
func TestDigestInManyParts(t *testing.T) {
	text := mixedText(1000)
	for size := 1; size <= 200; size++ {
		h := impl.HashBegin()
		for at := 0; at < len(text); at += size {
			h = impl.HashMore(impl.HashMore(h, ""), text[at:min(at+size, len(text))])
			if !impl.HashRight(h) {
				t.Fatalf("in parts of %d: not right at %d", size, at)
			}
		}
		checkDigest(t, "in many parts", impl.HashEnd(h), impl.Digest(text))
	}
}

// Promise 3: also of a text that no call takes as one.
func TestDigestOfMoreThanOneCallTakes(t *testing.T) {
	most := mixedText(impl.MaxBytes)
	h := impl.HashMore(impl.HashMore(impl.HashMore(impl.HashBegin(), most), "x"), most)
	checkDigest(t, "over MaxBytes", impl.HashEnd(h), standardDigest(most+"x"+most))
}

func TestHashRight(t *testing.T) {
	for what, h := range rightHashes() {
		if !impl.HashRight(h) {
			t.Errorf("HashRight: %s: got false", what)
		}
	}
	for what, h := range wrongHashes() {
		if impl.HashRight(h) {
			t.Errorf("HashRight: %s: got true", what)
		}
	}
}

func TestHashMoreAndEndOfRightOnes(t *testing.T) {
	for what, h := range rightHashes() {
		checkDigest(t, "HashEnd: "+what, impl.HashEnd(h), string(standardHash(t, h).Sum(nil)))
		checkHash(t, "HashMore of nothing: "+what, impl.HashMore(h, ""), h)
		for _, size := range []int{1, 8, 9, 63, 64, 65, 1000, impl.MaxBytes} {
			if h.Size+int64(size) > mostSize {
				continue
			}
			text := mixedText(size)
			checkHash(t, "HashMore: "+what, impl.HashMore(h, text), standardMore(t, h, text))
		}
	}
}

func TestHashMoreAndEndOfWrongOnes(t *testing.T) {
	for what, h := range wrongHashes() {
		checkDigest(t, "HashEnd: "+what, impl.HashEnd(h), "")
		for _, text := range []string{"", "a", mixedText(64), mixedText(impl.MaxBytes)} {
			checkHash(t, "HashMore: "+what, impl.HashMore(h, text), h)
		}
	}
}

func TestHashMoreToTheGreatestSize(t *testing.T) {
	for _, left := range []int{0, 1, 5, 63, 64, 65, impl.MaxBytes - 1, impl.MaxBytes} {
		size := int64(mostSize - left)
		h := impl.Hash{State: []int64{1, 2, 3, 4, 5, 6, 7, mostWord}, Rest: mixedText(int(size % 64)), Size: size}
		full := impl.HashMore(h, mixedText(left))
		checkHash(t, "just full", full, standardMore(t, h, mixedText(left)))
		if full.Size != mostSize {
			t.Errorf("just full: got Size %d", full.Size)
		}
		checkDigest(t, "HashEnd of a full one", impl.HashEnd(full), string(standardHash(t, full).Sum(nil)))
		checkHash(t, "one more", impl.HashMore(full, "x"), full)
		checkHash(t, "MaxBytes more", impl.HashMore(full, mixedText(impl.MaxBytes)), full)
		if left < impl.MaxBytes {
			checkHash(t, "one too many at once", impl.HashMore(h, mixedText(left+1)), h)
		}
	}
}

func TestHashesAreNotChangedAndNotShared(t *testing.T) {
	full := impl.Hash{State: beginNumbers(), Size: mostSize}
	all := rightHashes()
	for what, h := range wrongHashes() {
		all["wrong: "+what] = h
	}
	all["full"] = full
	for what, h := range all {
		kept := impl.Hash{State: slices.Clone(h.State), Rest: strings.Clone(h.Rest), Size: h.Size}
		for _, text := range []string{"", "x", mixedText(200)} {
			impl.HashRight(h)
			impl.HashEnd(h)
			got := impl.HashMore(h, text)
			if shares(got.Rest, h.Rest) || shares(got.Rest, text) {
				t.Errorf("%s: HashMore hands out what was handed in", what)
			}
			for i := range got.State {
				got.State[i] = -7
			}
			if !reflect.DeepEqual(h, kept) {
				t.Errorf("%s: what was handed in is changed", what)
			}
		}
	}
}
