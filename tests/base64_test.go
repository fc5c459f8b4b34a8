package tests

import (
	"encoding/base64"
	"fmt"
	"slices"
	"strings"
	"testing"

	"loop.example/g00371/impl"
)

const (
	mostPlain = 4000
	allSigns  = "ABCDEFGHIJKLMNOPQRSTUVWXYZabcdefghijklmnopqrstuvwxyz0123456789-_"
)

// standardSigns is of a text of any length.
func standardSigns(text string) string {
	return base64.RawURLEncoding.EncodeToString([]byte(text))
}

func standardBase64Read(text string) impl.TextOut {
	if len(text) > 20000 {
		return impl.TextOut{Code: impl.ErrSize}
	}
	found, err := base64.RawURLEncoding.Strict().DecodeString(text)
	// The standard library reads over ends of lines.
	if err != nil || len(found) > 4000 || strings.ContainsAny(text, "\r\n") {
		return impl.TextOut{Code: impl.ErrSyntax}
	}
	return impl.TextOut{Text: string(found)}
}

func checkBase64(t *testing.T, text string, want string) {
	t.Helper()
	if got := impl.Base64(text); got != want {
		t.Errorf("Base64(%d bytes, starting %q): got %d signs, starting %q, want %d, starting %q",
			len(text), firstBytes(text), len(got), firstBytes(got), len(want), firstBytes(want))
	}
}

func checkBase64Read(t *testing.T, text string, want impl.TextOut) {
	t.Helper()
	got := impl.Base64Read(text)
	if got != want {
		t.Errorf("Base64Read(%d bytes, starting %q): got %d bytes, starting %q, At %d, Code %d, want %d bytes, starting %q, Code %d",
			len(text), firstBytes(text), len(got.Text), firstBytes(got.Text), got.At, got.Code, len(want.Text), firstBytes(want.Text), want.Code)
	}
}

// someTexts are texts of at most 4000 bytes.
func someTexts() []string {
	all := []string{"", "a", "ab", "abc", "abcd", "abcde", "é", "\n", ".", "=", "\x00", "\x00\x00", "\x00\x00\x00", "\xff", "\xff\xff", "\xff\xff\xff",
		"\xfb", "\xfb\xff", "\xfb\xff\xfe", "\xfb\xef\xbe", "\xf8", "\xfc", "\x03\xe0", "\x03\xf0", "\x0f\x80", "\x0f\xc0", "\x00\x00\x3e", "\x00\x00\x3f"}
	for size := range 70 {
		all = append(all, mixedText(size), strings.Repeat("\x00", size), strings.Repeat("\xff", size), strings.Repeat("\xfb", size))
	}
	for _, size := range []int{255, 256, 257, 1000, 1001, 1002, 2000, mostPlain - 3, mostPlain - 2, mostPlain - 1, mostPlain} {
		all = append(all, mixedText(size), strings.Repeat("\x00", size), strings.Repeat("\xff", size))
	}
	for at, bytes := 0, allBytes(); at < len(bytes); at++ {
		b := bytes[at : at+1]
		all = append(all, b, b+b, b+b+b, "x"+b, b+"x", "xx"+b, "x"+b+"x", b+"xx", "xxx"+b)
	}
	return all
}

// longTexts have more than 4000 bytes.
func longTexts() []string {
	all := tooLongTexts()
	for _, size := range []int{mostPlain + 1, mostPlain + 2, mostPlain + 3, mostPlain + 4, 5334, 8000, 15000, impl.MaxBytes - 1, impl.MaxBytes} {
		all = append(all, mixedText(size), strings.Repeat("\x00", size), strings.Repeat("\xff", size))
	}
	return all
}

func TestBase64OfKnownOnes(t *testing.T) {
	for _, c := range []struct{ text, want string }{
		{"", ""},
		{"f", "Zg"},
		{"fo", "Zm8"},
		{"foo", "Zm9v"},
		{"foob", "Zm9vYg"},
		{"fooba", "Zm9vYmE"},
		{"foobar", "Zm9vYmFy"},
		{"\x00", "AA"},
		{"\x00\x00", "AAA"},
		{"\x00\x00\x00", "AAAA"},
		{"\xff", "_w"},
		{"\xff\xff", "__8"},
		{"\xff\xff\xff", "____"},
		{"\xfb", "-w"},
		{"\xfb\xff\xfe", "-__-"},
		{"\xfb\xef\xbe", "----"},
		{"\x00\x10\x83\x10\x51\x87\x20\x92\x8b\x30\xd3\x8f\x41\x14\x93\x51\x55\x97\x61\x96\x9b\x71\xd7\x9f" +
			"\x82\x18\xa3\x92\x59\xa7\xa2\x9a\xab\xb2\xdb\xaf\xc3\x1c\xb3\xd3\x5d\xb7\xe3\x9e\xbb\xf3\xdf\xbf", allSigns},
	} {
		checkBase64(t, c.text, c.want)
		checkBase64Read(t, c.want, impl.TextOut{Text: c.text})
	}
}

// Promise 10: a text comes back from its base64.
func TestTextsComeBackFromBase64(t *testing.T) {
	for _, text := range someTexts() {
		signs := impl.Base64(text)
		checkBase64(t, text, standardSigns(text))
		checkBase64Read(t, signs, impl.TextOut{Text: text})
		if len(signs) != (8*len(text)+5)/6 || strings.Trim(signs, allSigns) != "" {
			t.Errorf("Base64 of %d bytes, starting %q: got %d bytes, starting %q", len(text), firstBytes(text), len(signs), firstBytes(signs))
		}
	}
}

func TestBase64OfTextsThatAreTooLong(t *testing.T) {
	for _, text := range longTexts() {
		checkBase64(t, text, "")
	}
}

// Their Base64 is a text like any other to what reads it, till it has more than MaxBytes signs.
func TestBase64ReadOfTextsThatAreTooLong(t *testing.T) {
	codes := map[int64]int{}
	for _, text := range longTexts() {
		signs := standardSigns(text)
		want := int64(impl.ErrSyntax)
		if len(signs) > impl.MaxBytes {
			want = impl.ErrSize
		}
		codes[want]++
		checkBase64Read(t, signs, impl.TextOut{Code: want})
	}
	if codes[impl.ErrSyntax] == 0 || codes[impl.ErrSize] == 0 {
		t.Errorf("the codes told are %v", codes)
	}
	for size := 5330; size < 5345; size++ {
		signs := strings.Repeat("A", size)
		checkBase64Read(t, signs, standardBase64Read(signs))
	}
	checkBase64Read(t, strings.Repeat("A", 5334), impl.TextOut{Text: strings.Repeat("\x00", mostPlain)})
	checkBase64Read(t, strings.Repeat("A", 5335), impl.TextOut{Code: impl.ErrSyntax})
}

func TestBase64ReadAtMaxBytes(t *testing.T) {
	for _, sign := range []string{"A", "_", "=", "\x00", "\xff", ".", " "} {
		for _, size := range []int{impl.MaxBytes - 3, impl.MaxBytes - 1, impl.MaxBytes} {
			checkBase64Read(t, strings.Repeat(sign, size), impl.TextOut{Code: impl.ErrSyntax})
		}
		for _, size := range []int{impl.MaxBytes + 1, impl.MaxBytes + 2, impl.MaxBytes + 4, 2 * impl.MaxBytes} {
			checkBase64Read(t, strings.Repeat(sign, size), impl.TextOut{Code: impl.ErrSize})
		}
	}
	// In runes these are no more than MaxBytes, but in bytes.
	checkBase64Read(t, strings.Repeat("é", impl.MaxBytes/2), impl.TextOut{Code: impl.ErrSyntax})
	checkBase64Read(t, strings.Repeat("é", impl.MaxBytes/2)+"A", impl.TextOut{Code: impl.ErrSize})
	checkBase64Read(t, strings.Repeat("é", impl.MaxBytes), impl.TextOut{Code: impl.ErrSize})
}

// Of each byte at each place, just the 64 signs are read.
func TestBase64ReadOfEachByte(t *testing.T) {
	for _, signs := range []string{"AA", "AAA", "AAAA", "-__-YQ", "YWJj-_8", "YWJjZGVm"} {
		for at := range len(signs) {
			for n := range 256 {
				b := []byte(signs)
				b[at] = byte(n)
				checkBase64Read(t, string(b), standardBase64Read(string(b)))
				if !strings.Contains(allSigns, string(b[at:at+1])) {
					checkBase64Read(t, string(b), impl.TextOut{Code: impl.ErrSyntax})
				}
				more := string(slices.Insert([]byte(signs), at, byte(n)))
				checkBase64Read(t, more, standardBase64Read(more))
			}
		}
	}
}

func TestBase64ReadOfWhatIsNoSign(t *testing.T) {
	none := []string{"=", "==", "+", "/", " ", "\t", "\n", "\r", "\r\n", ".", ",", ":", "~", "\x00", "\x7f", "\x80", "\xc1", "\xff",
		"é", "€", "\U0001f600", "\ufffd", "\ufeff", "\u200b", "\u0661", "\uff21", "\u2010", "\u0391"}
	// Each of these runes is a sign in its lowest eight bits, or seven.
	for _, sign := range allSigns {
		none = append(none, string(sign+0x80), string(sign+0x100), string(sign+0x4e00), string(sign+0x10000), string(sign+0x1f400), string([]byte{byte(sign) | 128}))
	}
	for _, wrong := range none {
		for _, signs := range []string{"", "YQ", "YWI", "YWJj", "-__-"} {
			for at := range len(signs) + 1 {
				checkBase64Read(t, signs[:at]+wrong+signs[at:], impl.TextOut{Code: impl.ErrSyntax})
			}
		}
	}
}

func TestBase64ReadOfASignLeftOver(t *testing.T) {
	for _, sign := range strings.Split(allSigns, "") {
		for _, signs := range []string{"", "YWJj", "-__-", "YWJjYWJj", strings.Repeat("A", 5332)} {
			checkBase64Read(t, signs+sign, impl.TextOut{Code: impl.ErrSyntax})
		}
	}
	for size := range 5400 {
		if size%4 == 1 {
			checkBase64Read(t, strings.Repeat("A", size), impl.TextOut{Code: impl.ErrSyntax})
		}
	}
}

// The last sign of two has four bits that are no byte's, that of three has two.
func TestBase64ReadOfBitsBehindTheLastByte(t *testing.T) {
	for value, sign := range strings.Split(allSigns, "") {
		for _, ahead := range []string{"", "AAAA", "-__-", strings.Repeat("A", 5332)} {
			two, three := impl.TextOut{Code: impl.ErrSyntax}, impl.TextOut{Code: impl.ErrSyntax}
			text := standardBase64Read(ahead).Text
			if value%16 == 0 {
				two = impl.TextOut{Text: text + string([]byte{byte(value / 16)})}
			}
			if value%4 == 0 && len(text) < mostPlain-1 {
				three = impl.TextOut{Text: text + string([]byte{0, byte(value / 4)})}
			}
			checkBase64Read(t, ahead+"A"+sign, two)
			checkBase64Read(t, ahead+"AA"+sign, three)
		}
	}
}

// Promise 10: nothing but what Base64 writes is read, and each text comes from one alone.
func TestBase64ReadOfAllTextsOfSomeBytes(t *testing.T) {
	codes := map[int64]int{}
	for _, signs := range textsOf("ABPQgw-_=+/\n.\xc3\xa9", 4) {
		want := standardBase64Read(signs)
		codes[want.Code]++
		checkBase64Read(t, signs, want)
		if want.Code == impl.OK {
			checkBase64(t, want.Text, signs)
		}
	}
	if codes[impl.OK] == 0 || codes[impl.ErrSyntax] == 0 {
		t.Errorf("the codes told are %v", codes)
	}
}

func TestBase64IsNewMemory(t *testing.T) {
	for _, size := range []int{1, 2, 3, 4, 48, mostPlain} {
		text := mixedText(size)
		signs := impl.Base64(text)
		if shares(signs, text) || shares(impl.Base64Read(signs).Text, signs) {
			t.Errorf("of %d bytes what was handed in is handed out", size)
		}
		if again := fmt.Sprint(impl.Base64(text) == signs, impl.Base64Read(signs).Text == text); again != "true true" {
			t.Errorf("of %d bytes the second answer is not the first: %s", size, again)
		}
	}
}
