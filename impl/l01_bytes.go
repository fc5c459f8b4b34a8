package impl

import (
	"errors"
	"strconv"
)

// Constants, see chapter 1.
const (
	OK         = 0
	ErrForm    = 1
	ErrSize    = 2
	ErrSyntax  = 3
	ErrShort   = 4
	ErrSum     = 5
	ErrSign    = 6
	ErrNonce   = 7
	ErrNone    = 8
	ErrThere   = 9
	ErrState   = 10
	ErrFull    = 11
	ErrExpired = 12
	ErrIssuer  = 13
	ErrRevoked = 14
	ErrNames   = 15
	MaxBytes   = 20000
	MaxList    = 400
	MaxTime    = 1000000000
)

const (
	// tenthShift is where a number's tenth byte goes: of 64 bits just one is left for it.
	tenthShift = 63
	mostName   = 40
	hexDigits  = "0123456789abcdef"
)

// NumOut is a thing of chapter 2.
type NumOut struct {
	N    int64
	At   int64
	Code int64
}

// TextOut is a thing of chapter 2.
type TextOut struct {
	Text string
	At   int64
	Code int64
}

// byteFault is why nothing can be read at a place. It carries the code to tell, so that
// readers hand faults on as errors and only the faces turn them into a Code.
type byteFault struct {
	code int64
}

func (f byteFault) Error() string {
	return "bytes can not be read: code " + strconv.FormatInt(f.code, 10)
}

// PutNum: see chapter 2.
func PutNum(n int64) string {
	var b [10]byte
	size := 0
	u := foldSign(n)
	for u >= 128 {
		b[size] = byte(u) | 128
		u >>= 7
		size++
	}
	b[size] = byte(u)
	return string(b[:size+1])
}

// GetNum: see chapter 2.
func GetNum(text string, at int64) NumOut {
	n, next, err := readNum(text, at)
	var fault byteFault
	if errors.As(err, &fault) {
		return NumOut{Code: fault.code}
	}
	return NumOut{N: n, At: next}
}

// PutText: see chapter 2.
func PutText(t string) string {
	if tooLong(t) {
		return ""
	}
	return joinTexts(PutNum(int64(len(t))), t)
}

// GetText: see chapter 2.
func GetText(text string, at int64) TextOut {
	found, next, err := readText(text, at)
	var fault byteFault
	if errors.As(err, &fault) {
		return TextOut{Code: fault.code}
	}
	return TextOut{Text: found, At: next}
}

// NameRight: see chapter 2.
func NameRight(t string) bool {
	if len(t) < 1 || len(t) > mostName || !isLetter(t[0]) {
		return false
	}
	for i := 1; i < len(t); i++ {
		if !isLetter(t[i]) && !isDigit(t[i]) && t[i] != '-' {
			return false
		}
	}
	return true
}

// Hex: see chapter 2.
func Hex(t string) string {
	if tooLong(t) {
		return ""
	}
	b := make([]byte, 2*len(t))
	for i := 0; i < len(t); i++ {
		b[2*i] = hexDigits[t[i]>>4]
		b[2*i+1] = hexDigits[t[i]&15]
	}
	return string(b)
}

// HexRead: see chapter 2.
func HexRead(t string) TextOut {
	if tooLong(t) {
		return TextOut{Code: ErrSize}
	}
	if len(t)%2 != 0 {
		return TextOut{Code: ErrSyntax}
	}
	b := make([]byte, len(t)/2)
	for i := range b {
		high, low := hexValue(t[2*i]), hexValue(t[2*i+1])
		if high < 0 || low < 0 {
			return TextOut{Code: ErrSyntax}
		}
		b[i] = byte(high<<4 | low)
	}
	return TextOut{Text: string(b)}
}

// readNum reads the number at a place of a text, and tells the place behind it.
func readNum(text string, at int64) (int64, int64, error) {
	if tooLong(text) {
		return 0, 0, byteFault{code: ErrSize}
	}
	if at < 0 {
		return 0, 0, byteFault{code: ErrForm}
	}
	u, next, err := readBits(text, at)
	return unfoldSign(u), next, err
}

// readBits goes from state to state over the bytes of a number, from a place not below 0.
func readBits(text string, at int64) (uint64, int64, error) {
	var u uint64
	var b byte
	var shift uint
	next := at
more:
	if next >= int64(len(text)) {
		return 0, 0, byteFault{code: ErrShort}
	}
	b = text[next]
	next++
	// What is wrong with a tenth byte is known from it alone: a text that ends
	// behind one that asks for an eleventh is not short.
	if shift == tenthShift && b > 1 {
		goto wrong
	}
	u |= uint64(b&127) << shift
	if b < 128 {
		goto last
	}
	shift += 7
	goto more
last:
	// A highest byte of 0 adds nothing, so fewer bytes would have done.
	if b == 0 && shift > 0 {
		goto wrong
	}
	return u, next, nil
wrong:
	return 0, 0, byteFault{code: ErrSyntax}
}

// readText reads the text at a place of a text, and tells the place behind it.
func readText(text string, at int64) (string, int64, error) {
	size, from, err := readNum(text, at)
	if err != nil {
		return "", 0, err
	}
	if size < 0 || size > MaxBytes {
		return "", 0, byteFault{code: ErrSyntax}
	}
	if size > int64(len(text))-from {
		return "", 0, byteFault{code: ErrShort}
	}
	return copyText(text[from : from+size]), from + size, nil
}

func tooLong(t string) bool {
	return len(t) > MaxBytes
}

// foldSign makes room for the sign in the lowest bit, so that numbers near 0 on either side stay short.
func foldSign(n int64) uint64 {
	return uint64(n)<<1 ^ uint64(n>>63)
}

func unfoldSign(u uint64) int64 {
	return int64(u>>1) ^ -int64(u&1)
}

func joinTexts(head string, tail string) string {
	b := make([]byte, len(head)+len(tail))
	copy(b, head)
	copy(b[len(head):], tail)
	return string(b)
}

// copyText keeps a piece of what was handed in from being handed out: an answer is new memory.
func copyText(piece string) string {
	b := make([]byte, len(piece))
	copy(b, piece)
	return string(b)
}

func isLetter(b byte) bool {
	return 'a' <= b && b <= 'z'
}

func isDigit(b byte) bool {
	return '0' <= b && b <= '9'
}

// hexValue is what a digit of sixteen stands for; -1 for any other byte, capitals too, as Hex writes none.
func hexValue(b byte) int {
	if isDigit(b) {
		return int(b - '0')
	}
	if 'a' <= b && b <= 'f' {
		return int(b-'a') + 10
	}
	return -1
}
