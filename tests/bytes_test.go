package tests

import (
	"encoding/binary"
	"encoding/hex"
	"math"
	"strings"
	"testing"
	"unsafe"

	"loop.example/g00371/impl"
)

// edgeNumbers are the numbers beside each power of two, on both sides of 0, and the ends of int64.
func edgeNumbers() []int64 {
	all := []int64{0, math.MaxInt64, math.MinInt64}
	for bit := 0; bit < 63; bit++ {
		p := int64(1) << bit
		all = append(all, p-1, p, p+1, -p-1, -p, -p+1)
	}
	return all
}

// standardNum is the same way of writing a number, as the standard library has it.
func standardNum(n int64) string {
	return string(binary.AppendVarint(nil, n))
}

func checkNum(t *testing.T, text string, at int64, want impl.NumOut) {
	t.Helper()
	if got := impl.GetNum(text, at); got != want {
		t.Errorf("GetNum(%d bytes, starting %q, at %d): got %+v, want %+v", len(text), firstBytes(text), at, got, want)
	}
}

func checkText(t *testing.T, text string, at int64, want impl.TextOut) {
	t.Helper()
	got := impl.GetText(text, at)
	if got != want {
		t.Errorf("GetText(%d bytes, starting %q, at %d): got %d bytes, At %d, Code %d, want %d bytes, At %d, Code %d",
			len(text), firstBytes(text), at, len(got.Text), got.At, got.Code, len(want.Text), want.At, want.Code)
	}
}

func checkHexRead(t *testing.T, text string, want impl.TextOut) {
	t.Helper()
	got := impl.HexRead(text)
	if got != want {
		t.Errorf("HexRead(%d bytes, starting %q): got %d bytes, At %d, Code %d, want %d bytes, At %d, Code %d",
			len(text), firstBytes(text), len(got.Text), got.At, got.Code, len(want.Text), want.At, want.Code)
	}
}

func firstBytes(text string) string {
	return text[:min(len(text), 12)]
}

// allBytes has each byte once.
func allBytes() string {
	b := make([]byte, 256)
	for i := range b {
		b[i] = byte(i)
	}
	return string(b)
}

func TestConstantsAreTheDocuments(t *testing.T) {
	got := []int64{impl.OK, impl.ErrForm, impl.ErrSize, impl.ErrSyntax, impl.ErrShort, impl.ErrSum, impl.ErrSign,
		impl.ErrNonce, impl.ErrNone, impl.ErrThere, impl.ErrState, impl.ErrFull, impl.ErrExpired, impl.ErrIssuer,
		impl.ErrRevoked, impl.ErrNames}
	for i, code := range got {
		if code != int64(i) {
			t.Errorf("code %d is %d", i, code)
		}
	}
	if impl.MaxBytes != 20000 || impl.MaxList != 400 || impl.MaxTime != 1000000000 {
		t.Errorf("limits: %d %d %d", impl.MaxBytes, impl.MaxList, impl.MaxTime)
	}
}

func TestPutNumWritesTheDocumentsBytes(t *testing.T) {
	for _, c := range []struct {
		n    int64
		want string
	}{
		{0, "\x00"},
		{-1, "\x01"},
		{1, "\x02"},
		{-2, "\x03"},
		{63, "\x7e"},
		{-64, "\x7f"},
		{64, "\x80\x01"},
		{-65, "\x81\x01"},
		{8191, "\xfe\x7f"},
		{-8192, "\xff\x7f"},
		{8192, "\x80\x80\x01"},
		{20000, "\xc0\xb8\x02"},
		{math.MaxInt64, "\xfe\xff\xff\xff\xff\xff\xff\xff\xff\x01"},
		{math.MinInt64, "\xff\xff\xff\xff\xff\xff\xff\xff\xff\x01"},
	} {
		if got := impl.PutNum(c.n); got != c.want {
			t.Errorf("PutNum(%d): got %q, want %q", c.n, got, c.want)
		}
	}
	for _, n := range edgeNumbers() {
		if got, want := impl.PutNum(n), standardNum(n); got != want {
			t.Errorf("PutNum(%d): got %q, want %q", n, got, want)
		}
	}
}

// Promise 1: numbers come back from their bytes, whatever stands ahead of them and behind them.
func TestNumbersComeBack(t *testing.T) {
	numbers := edgeNumbers()
	for n := int64(-20000); n <= 20000; n++ {
		numbers = append(numbers, n)
	}
	for _, n := range numbers {
		bytes := impl.PutNum(n)
		size := int64(len(bytes))
		checkNum(t, bytes, 0, impl.NumOut{N: n, At: size})
		for _, ahead := range []string{"x", "\x80", "\x00\xff"} {
			for _, behind := range []string{"", "\x00", "\x80", "\xff\x01"} {
				at := int64(len(ahead))
				checkNum(t, ahead+bytes+behind, at, impl.NumOut{N: n, At: at + size})
			}
		}
	}
}

// Promise 1: a number that is cut off is short, wherever that is.
func TestNumbersThatAreCutAreShort(t *testing.T) {
	for _, n := range edgeNumbers() {
		bytes := impl.PutNum(n)
		for cut := range len(bytes) {
			checkNum(t, bytes[:cut], 0, impl.NumOut{Code: impl.ErrShort})
			checkText(t, bytes[:cut], 0, impl.TextOut{Code: impl.ErrShort})
		}
	}
}

func TestGetNumNamesTheFirstFault(t *testing.T) {
	nine := strings.Repeat("\x80", 9)
	long := strings.Repeat("\x00", impl.MaxBytes+1)
	for _, c := range []struct {
		text string
		at   int64
		code int64
	}{
		{long, 0, impl.ErrSize},
		{long, -1, impl.ErrSize},
		{long, math.MaxInt64, impl.ErrSize},
		{strings.Repeat("\xff", impl.MaxBytes+1), 0, impl.ErrSize},
		{"", -1, impl.ErrForm},
		{"\x00", -1, impl.ErrForm},
		{"\x80\x00", math.MinInt64, impl.ErrForm},
		{"", 0, impl.ErrShort},
		{"", 1, impl.ErrShort},
		{"\x00", 1, impl.ErrShort},
		{"\x00", 2, impl.ErrShort},
		{"\x00", math.MaxInt64, impl.ErrShort},
		{"\x80", 0, impl.ErrShort},
		{nine, 0, impl.ErrShort},
		{strings.Repeat("\xff", 9), 0, impl.ErrShort},
		{nine + "\x00", 0, impl.ErrSyntax},
		{nine + "\x02", 0, impl.ErrSyntax},
		{nine + "\x7f", 0, impl.ErrSyntax},
		{nine + "\x80", 0, impl.ErrSyntax},
		{nine + "\x81", 0, impl.ErrSyntax},
		{nine + "\xff", 0, impl.ErrSyntax},
		{nine + "\x80\x01", 0, impl.ErrSyntax},
		{"\x80\x00", 0, impl.ErrSyntax},
		{"\xff\x00", 0, impl.ErrSyntax},
		{"\x80\x80\x00", 0, impl.ErrSyntax},
		{strings.Repeat("\x80", 8) + "\x00", 0, impl.ErrSyntax},
		{"a\x81\x00b", 1, impl.ErrSyntax},
	} {
		checkNum(t, c.text, c.at, impl.NumOut{Code: c.code})
		checkText(t, c.text, c.at, impl.TextOut{Code: c.code})
	}
}

func TestGetNumAtTheTenthByte(t *testing.T) {
	nine := strings.Repeat("\x80", 9)
	checkNum(t, nine+"\x01", 0, impl.NumOut{N: 1 << 62, At: 10})
	checkNum(t, nine+"\x01\x80", 0, impl.NumOut{N: 1 << 62, At: 10})
	checkNum(t, nine, 8, impl.NumOut{Code: impl.ErrShort})
	checkNum(t, "\x80"+nine+"\x01", 1, impl.NumOut{N: 1 << 62, At: 11})
	checkNum(t, "\x80"+nine+"\x01", 0, impl.NumOut{Code: impl.ErrSyntax})
}

func TestGetNumInATextOfMostBytes(t *testing.T) {
	text := strings.Repeat("\x00", impl.MaxBytes-1) + "\x02"
	checkNum(t, text, impl.MaxBytes-1, impl.NumOut{N: 1, At: impl.MaxBytes})
	checkNum(t, text, impl.MaxBytes, impl.NumOut{Code: impl.ErrShort})
	checkNum(t, text, impl.MaxBytes+1, impl.NumOut{Code: impl.ErrShort})
}

// plainNum reads a number at the beginning as the document's sentences say it, one by one.
func plainNum(text string) impl.NumOut {
	last := 0
	for last < len(text) && last < 9 && text[last] >= 128 {
		last++
	}
	if last == len(text) {
		return impl.NumOut{Code: impl.ErrShort}
	}
	if last == 9 && text[9] > 1 || last > 0 && text[last] == 0 {
		return impl.NumOut{Code: impl.ErrSyntax}
	}
	n, size := binary.Varint([]byte(text))
	return impl.NumOut{N: n, At: int64(size)}
}

// textsOf are all texts of at most that many of some bytes.
func textsOf(some string, most int) []string {
	texts := []string{""}
	for from, size := 0, 1; size <= most; size++ {
		to := len(texts)
		for _, text := range texts[from:to] {
			for i := range len(some) {
				texts = append(texts, text+some[i:i+1])
			}
		}
		from = to
	}
	return texts
}

// Promise 1: nothing but what PutNum writes is read as a number.
func TestGetNumOfAllTextsOfSomeBytes(t *testing.T) {
	texts := textsOf("\x00\x01\x02\x7f\x80\x81\xff", 4)
	for _, ahead := range []string{"", "\x80\x80\x80\x80\x80\x80\x80", "\xff\xff\xff\xff\xff\xff\xff\xff"} {
		for _, text := range texts {
			want := plainNum(ahead + text)
			checkNum(t, ahead+text, 0, want)
			if want.Code == impl.OK && impl.PutNum(want.N) != (ahead + text)[:want.At] {
				t.Errorf("PutNum(%d) is not %q, from which it was read", want.N, (ahead + text)[:want.At])
			}
		}
	}
}

func TestPutTextWritesLengthAndText(t *testing.T) {
	most := strings.Repeat("m", impl.MaxBytes)
	for _, c := range []struct{ text, want string }{
		{"", "\x00"},
		{"ab", "\x04ab"},
		{"\x00\xff", "\x04\x00\xff"},
		{"é", "\x04\xc3\xa9"},
		{strings.Repeat("a", 63), "\x7e" + strings.Repeat("a", 63)},
		{strings.Repeat("a", 64), "\x80\x01" + strings.Repeat("a", 64)},
		{most, "\xc0\xb8\x02" + most},
		{most + "m", ""},
	} {
		if got := impl.PutText(c.text); got != c.want {
			t.Errorf("PutText(%d bytes): got %d bytes, starting %q, want %d, starting %q",
				len(c.text), len(got), firstBytes(got), len(c.want), firstBytes(c.want))
		}
	}
}

// Promise 1: texts that fit in come back from their bytes, whatever stands ahead of them and behind them.
func TestTextsComeBack(t *testing.T) {
	for _, size := range []int{0, 1, 2, 62, 63, 64, 65, 255, 256, 8191, 8192, impl.MaxBytes - 10} {
		text := strings.Repeat(allBytes(), size/256+1)[:size]
		bytes := impl.PutText(text)
		checkText(t, bytes, 0, impl.TextOut{Text: text, At: int64(len(bytes))})
		checkText(t, "\x80\x00"+bytes+"\xff", 2, impl.TextOut{Text: text, At: int64(len(bytes)) + 2})
	}
	row := impl.PutText("a") + impl.PutText("") + impl.PutText("bc")
	checkText(t, row, 0, impl.TextOut{Text: "a", At: 2})
	checkText(t, row, 2, impl.TextOut{At: 3})
	checkText(t, row, 3, impl.TextOut{Text: "bc", At: 6})
	checkText(t, row, 6, impl.TextOut{Code: impl.ErrShort})
}

// Promise 1: the longest text that fits in, with the three bytes of its length, has MaxBytes less 3.
func TestTextsThatJustFitIn(t *testing.T) {
	fits := strings.Repeat("f", impl.MaxBytes-3)
	checkText(t, impl.PutText(fits), 0, impl.TextOut{Text: fits, At: impl.MaxBytes})
	for more := 1; more <= 3; more++ {
		checkText(t, impl.PutText(fits+"fff"[:more]), 0, impl.TextOut{Code: impl.ErrSize})
	}
}

func TestGetTextNamesTheFirstFault(t *testing.T) {
	for _, c := range []struct {
		text string
		at   int64
		code int64
	}{
		{impl.PutNum(-1), 0, impl.ErrSyntax},
		{impl.PutNum(-1) + "abc", 0, impl.ErrSyntax},
		{impl.PutNum(math.MinInt64), 0, impl.ErrSyntax},
		{impl.PutNum(math.MaxInt64), 0, impl.ErrSyntax},
		{impl.PutNum(impl.MaxBytes + 1), 0, impl.ErrSyntax},
		{"a" + impl.PutNum(impl.MaxBytes+1) + "bc", 1, impl.ErrSyntax},
		{impl.PutNum(impl.MaxBytes), 0, impl.ErrShort},
		{impl.PutNum(impl.MaxBytes) + strings.Repeat("b", impl.MaxBytes-3), 0, impl.ErrShort},
		{impl.PutNum(1), 0, impl.ErrShort},
		{impl.PutNum(3) + "ab", 0, impl.ErrShort},
		{"\x84\x00ab", 0, impl.ErrSyntax},
		{"\x84\x00", 0, impl.ErrSyntax},
		{"\x04ab", 3, impl.ErrShort},
		{"\x04ab", 4, impl.ErrShort},
		{"\x04ab", math.MaxInt64, impl.ErrShort},
		{"\x04ab", -1, impl.ErrForm},
		{"\x04ab", math.MinInt64, impl.ErrForm},
	} {
		checkText(t, c.text, c.at, impl.TextOut{Code: c.code})
	}
}

func TestNameRight(t *testing.T) {
	for _, c := range []struct {
		text string
		want bool
	}{
		{"", false},
		{"a", true},
		{"z", true},
		{"a-9", true},
		{"a-", true},
		{"a--0", true},
		{"example-0-com", true},
		{"9a", false},
		{"-a", false},
		{"A", false},
		{"aB", false},
		{"a.b", false},
		{"a b", false},
		{"a\n", false},
		{"\x00", false},
		{"aé", false},
		{strings.Repeat("a", 40), true},
		{strings.Repeat("a", 41), false},
		{"a" + strings.Repeat("-", 39), true},
		{strings.Repeat("a", 39) + "_", false},
		{strings.Repeat("a", impl.MaxBytes), false},
		{strings.Repeat("a", impl.MaxBytes+1), false},
	} {
		if got := impl.NameRight(c.text); got != c.want {
			t.Errorf("NameRight(%q, of %d bytes): got %v", firstBytes(c.text), len(c.text), got)
		}
	}
}

func TestNameRightOfEachByte(t *testing.T) {
	const first = "abcdefghijklmnopqrstuvwxyz"
	const later = first + "0123456789-"
	for i, all := 0, allBytes(); i < len(all); i++ {
		b := all[i : i+1]
		if got, want := impl.NameRight(b), strings.Contains(first, b); got != want {
			t.Errorf("NameRight(%q): got %v", b, got)
		}
		for _, text := range []string{"a" + b, "a" + b + "z", "zz" + b} {
			if got, want := impl.NameRight(text), strings.Contains(later, b); got != want {
				t.Errorf("NameRight(%q): got %v", text, got)
			}
		}
	}
}

// Promise 2: a text comes back from its digits of sixteen.
func TestTextsComeBackFromHex(t *testing.T) {
	most := strings.Repeat(allBytes(), impl.MaxBytes/256+1)[:impl.MaxBytes]
	for _, text := range []string{"", "a", "\x00", "\xff", "\x0a\xf0", allBytes(), most[:impl.MaxBytes/2]} {
		digits := impl.Hex(text)
		if digits != hex.EncodeToString([]byte(text)) {
			t.Errorf("Hex(%q, of %d bytes): got %q, of %d", firstBytes(text), len(text), firstBytes(digits), len(digits))
		}
		checkHexRead(t, digits, impl.TextOut{Text: text})
	}
	if got := impl.Hex(most); got != hex.EncodeToString([]byte(most)) {
		t.Errorf("Hex of MaxBytes bytes: got %d bytes", len(got))
	}
	if got := impl.Hex(most + "x"); got != "" {
		t.Errorf("Hex of one byte more: got %d bytes", len(got))
	}
}

// Promise 2: of each pair of bytes just the digits that Hex writes are read.
func TestHexReadOfEachPair(t *testing.T) {
	const digits = "0123456789abcdef"
	all := allBytes()
	for i := range len(all) {
		for k := range len(all) {
			want := impl.TextOut{Code: impl.ErrSyntax}
			high, low := strings.IndexByte(digits, all[i]), strings.IndexByte(digits, all[k])
			if high >= 0 && low >= 0 {
				want = impl.TextOut{Text: all[16*high+low : 16*high+low+1]}
			}
			checkHexRead(t, all[i:i+1]+all[k:k+1], want)
		}
	}
}

func TestHexReadNamesTheFirstFault(t *testing.T) {
	for _, c := range []struct {
		text string
		code int64
	}{
		{"0", impl.ErrSyntax},
		{"0aff0", impl.ErrSyntax},
		{"0A", impl.ErrSyntax},
		{"FF", impl.ErrSyntax},
		{"0affg0", impl.ErrSyntax},
		{"0aff0g", impl.ErrSyntax},
		{"0a ff0", impl.ErrSyntax},
		{"0x0a", impl.ErrSyntax},
		{"é", impl.ErrSyntax},
		{strings.Repeat("0", impl.MaxBytes-1), impl.ErrSyntax},
		{strings.Repeat("0", impl.MaxBytes-1) + "g", impl.ErrSyntax},
		{strings.Repeat("0", impl.MaxBytes+1), impl.ErrSize},
		{strings.Repeat("0", impl.MaxBytes+2), impl.ErrSize},
		{strings.Repeat("g", impl.MaxBytes+1), impl.ErrSize},
	} {
		checkHexRead(t, c.text, impl.TextOut{Code: c.code})
	}
}

// shares asks whether two texts lie, in part, in the same memory.
func shares(a string, b string) bool {
	if a == "" || b == "" {
		return false
	}
	fromA, fromB := uintptr(unsafe.Pointer(unsafe.StringData(a))), uintptr(unsafe.Pointer(unsafe.StringData(b)))
	return fromA < fromB+uintptr(len(b)) && fromB < fromA+uintptr(len(a))
}

func TestAnswersAreNewMemory(t *testing.T) {
	text := strings.Repeat("new memory ", 20)
	put := impl.PutText(text)
	got := impl.GetText(put, 0)
	if got.Text != text || shares(got.Text, put) {
		t.Errorf("GetText hands out what was handed in")
	}
	if shares(put, text) {
		t.Errorf("PutText hands out what was handed in")
	}
}
