package tests

import (
	"encoding/asn1"
	"math"
	"slices"
	"strings"
	"testing"

	"loop.example/g00371/impl"
)

const (
	mostBody   = 4000
	mostThings = 60
	mostArc    = math.MaxInt32
)

// rightTags are tags of each class, whole or made of others, up to the last ahead of one that is none.
func rightTags() []int64 {
	return []int64{0, 1, 2, 3, 4, 5, 6, 12, 15, 16, 30, 32, 48, 49, 62, 64, 94, 96, 126, 128, 130, 158, 160, 163, 190, 192, 222, 224, 254}
}

// wrongTags are those outside a byte, and the eight of which the lower five bits are all 1.
func wrongTags() []int64 {
	return []int64{math.MinInt64, -256, -255, -32, -2, -1, 31, 63, 95, 127, 159, 191, 223, 255, 256, 257, 260, 287, 1 << 32, 1<<32 + 4, math.MaxInt64}
}

func bodySizes() []int {
	return []int{0, 1, 2, 126, 127, 128, 129, 254, 255, 256, 257, 511, 512, 3839, 3840, 3999, 4000}
}

// standardThing is the thing of a right tag as the standard library lays it.
func standardThing(t *testing.T, tag int64, body string) string {
	t.Helper()
	raw := asn1.RawValue{Class: int(tag >> 6), Tag: int(tag & 31), IsCompound: tag&32 != 0, Bytes: []byte(body)}
	return standardBytes(t, raw)
}

func standardBytes(t *testing.T, what any) string {
	t.Helper()
	b, err := asn1.Marshal(what)
	if err != nil {
		t.Fatalf("the standard library does not lay %v: %v", what, err)
	}
	return string(b)
}

func standardArcs(arcs []int64) asn1.ObjectIdentifier {
	id := make(asn1.ObjectIdentifier, len(arcs))
	for i, arc := range arcs {
		id[i] = int(arc)
	}
	return id
}

// twoBytes is a number from 0 to 65535, the upper byte first.
func twoBytes(n int) string {
	return string([]byte{byte(n / 256), byte(n % 256)})
}

func checkPut(t *testing.T, tag int64, body string, want string) {
	t.Helper()
	if got := impl.DerPut(tag, body); got != want {
		t.Errorf("DerPut(%d, %d bytes): got %d bytes, starting %q, want %d, starting %q",
			tag, len(body), len(got), firstBytes(got), len(want), firstBytes(want))
	}
}

func checkGet(t *testing.T, text string, at int64, want impl.TlvOut) {
	t.Helper()
	got := impl.DerGet(text, at)
	if got != want {
		t.Errorf("DerGet(%d bytes, starting %q, at %d): got tag %d, %d bytes, At %d, Code %d, want tag %d, %d bytes, At %d, Code %d",
			len(text), firstBytes(text), at, got.Tlv.Tag, len(got.Tlv.Body), got.At, got.Code,
			want.Tlv.Tag, len(want.Tlv.Body), want.At, want.Code)
	}
}

func checkAll(t *testing.T, what string, text string, want impl.TlvsOut) {
	t.Helper()
	got := impl.DerAll(text)
	if got.Code != want.Code || !slices.Equal(got.Tlvs, want.Tlvs) {
		t.Errorf("DerAll of %s (%d bytes, starting %q): got %d things, Code %d, want %d, Code %d",
			what, len(text), firstBytes(text), len(got.Tlvs), got.Code, len(want.Tlvs), want.Code)
	}
}

func checkIntRead(t *testing.T, body string, want impl.NumOut) {
	t.Helper()
	if got := impl.DerIntRead(body); got != want {
		t.Errorf("DerIntRead(%d bytes, starting %q): got %+v, want %+v", len(body), firstBytes(body), got, want)
	}
}

func checkOid(t *testing.T, arcs []int64, want string) {
	t.Helper()
	if got := impl.DerOid(arcs); got != want {
		t.Errorf("DerOid(%d arcs, %v): got %q, want %q", len(arcs), arcs[:min(len(arcs), 12)], got, want)
	}
}

func checkOidRead(t *testing.T, body string, want impl.OidOut) {
	t.Helper()
	got := impl.DerOidRead(body)
	if got.Code != want.Code || !slices.Equal(got.Arcs, want.Arcs) {
		t.Errorf("DerOidRead(%d bytes, starting %q): got %+v, want %+v", len(body), firstBytes(body), got, want)
	}
}

func TestDerPutWritesTheDocumentsBytes(t *testing.T) {
	for _, c := range []struct {
		tag  int64
		size int
		head string
	}{
		{0, 0, "\x00\x00"},
		{30, 0, "\x1e\x00"},
		{48, 2, "\x30\x02"},
		{254, 127, "\xfe\x7f"},
		{4, 128, "\x04\x81\x80"},
		{4, 200, "\x04\x81\xc8"},
		{4, 255, "\x04\x81\xff"},
		{4, 256, "\x04\x82\x01\x00"},
		{160, 4000, "\xa0\x82\x0f\xa0"},
	} {
		body := mixedText(c.size)
		checkPut(t, c.tag, body, c.head+body)
	}
	for _, tag := range rightTags() {
		for _, size := range bodySizes() {
			body := mixedText(size)
			checkPut(t, tag, body, standardThing(t, tag, body))
		}
	}
}

func TestDerPutOfEachLength(t *testing.T) {
	all := mixedText(mostBody)
	for size := range mostBody + 1 {
		thing := standardThing(t, 4, all[:size])
		checkPut(t, 4, all[:size], thing)
		checkGet(t, thing, 0, impl.TlvOut{Tlv: impl.Tlv{Tag: 4, Body: all[:size]}, At: int64(len(thing))})
	}
}

func TestDerPutOfEachTag(t *testing.T) {
	for tag := range int64(256) {
		text := string([]byte{byte(tag), 1, 'a'})
		if tag%32 == 31 {
			checkPut(t, tag, "a", "")
			checkGet(t, text, 0, impl.TlvOut{Code: impl.ErrSyntax})
			continue
		}
		checkPut(t, tag, "a", text)
		checkGet(t, text, 0, impl.TlvOut{Tlv: impl.Tlv{Tag: tag, Body: "a"}, At: 3})
	}
}

func TestDerPutOfWrongOnes(t *testing.T) {
	for _, tag := range wrongTags() {
		for _, size := range append(bodySizes(), mostBody+1, impl.MaxBytes, impl.MaxBytes+1) {
			checkPut(t, tag, mixedText(size), "")
		}
	}
	for _, tag := range rightTags() {
		for _, size := range []int{mostBody + 1, 4095, 4096, 65535, 65536, impl.MaxBytes - 1, impl.MaxBytes, impl.MaxBytes + 1} {
			checkPut(t, tag, mixedText(size), "")
		}
	}
}

// Promise 6: a thing is got back, whatever stands behind it.
func TestThingsComeBack(t *testing.T) {
	for _, tag := range rightTags() {
		for _, size := range bodySizes() {
			body := mixedText(size)
			thing := impl.DerPut(tag, body)
			for _, behind := range []string{"", "\x00", "\x1f", "\xff\xff", "\x04\x01a", mixedText(300)} {
				for _, ahead := range []string{"", "x", "\x30\x82", mixedText(129)} {
					from := int64(len(ahead))
					want := impl.TlvOut{Tlv: impl.Tlv{Tag: tag, Body: body}, At: from + int64(len(thing))}
					checkGet(t, ahead+thing+behind, from, want)
				}
			}
		}
	}
}

// Promise 6: of a thing that is cut off nothing is got, wherever that is.
func TestThingsThatAreCutAreShort(t *testing.T) {
	for _, tag := range []int64{0, 30, 48, 254} {
		for _, size := range bodySizes() {
			thing := impl.DerPut(tag, mixedText(size))
			for cut := range len(thing) {
				checkGet(t, thing[:cut], 0, impl.TlvOut{Code: impl.ErrShort})
				checkGet(t, "\x1f\xff"+thing[:cut], 2, impl.TlvOut{Code: impl.ErrShort})
			}
		}
	}
}

func TestDerGetAtPlacesOutsideTheText(t *testing.T) {
	texts := []string{"", "\x04", "\x1f", "\x04\x80"}
	for _, size := range bodySizes() {
		texts = append(texts, impl.DerPut(48, mixedText(size)))
	}
	for _, text := range append(texts, mixedText(impl.MaxBytes)) {
		for _, at := range []int64{-1, -2, -1 << 32, math.MinInt64} {
			checkGet(t, text, at, impl.TlvOut{Code: impl.ErrForm})
		}
		end := int64(len(text))
		for _, at := range []int64{end, end + 1, end + 1<<32, math.MaxInt64 - 1, math.MaxInt64} {
			checkGet(t, text, at, impl.TlvOut{Code: impl.ErrShort})
		}
	}
	for _, at := range []int64{math.MinInt64, -1, 0, 1, impl.MaxBytes, impl.MaxBytes + 1, math.MaxInt64} {
		for _, text := range append(tooLongTexts(), strings.Repeat("\x04\x00", impl.MaxBytes/2)+"\x04", strings.Repeat("\x1f", impl.MaxBytes+1)) {
			checkGet(t, text, at, impl.TlvOut{Code: impl.ErrSize})
		}
	}
}

func TestDerGetNamesTheFirstFault(t *testing.T) {
	for _, c := range []struct {
		text string
		code int64
	}{
		{"\x1f", impl.ErrSyntax},
		{"\xff", impl.ErrSyntax},
		{"\x3f\x00", impl.ErrSyntax},
		{"\x1f\x80", impl.ErrSyntax},
		{"\x04", impl.ErrShort},
		{"\x04\x01", impl.ErrShort},
		{"\x04\x02a", impl.ErrShort},
		{"\x04\x7f", impl.ErrShort},
		{"\x04\x80", impl.ErrSyntax},
		{"\x04\x80\x00\x00", impl.ErrSyntax},
		{"\x04\x83", impl.ErrSyntax},
		{"\x04\x83\x00\x01\x00", impl.ErrSyntax},
		{"\x04\x84\x00\x00\x01\x00", impl.ErrSyntax},
		{"\x04\x88", impl.ErrSyntax},
		{"\x04\xff", impl.ErrSyntax},
		{"\x04\x81", impl.ErrShort},
		{"\x04\x81\x00", impl.ErrSyntax},
		{"\x04\x81\x01", impl.ErrSyntax},
		{"\x04\x81\x01a", impl.ErrSyntax},
		{"\x04\x81\x7f", impl.ErrSyntax},
		{"\x04\x81\x80", impl.ErrShort},
		{"\x04\x81\xff", impl.ErrShort},
		{"\x04\x82", impl.ErrShort},
		{"\x04\x82\x00", impl.ErrShort},
		{"\x04\x82\x10", impl.ErrShort},
		{"\x04\x82\xff", impl.ErrShort},
		{"\x04\x82\x00\x00", impl.ErrSyntax},
		{"\x04\x82\x00\xff", impl.ErrSyntax},
		{"\x04\x82\x01\x00", impl.ErrShort},
		{"\x04\x82\x0f\xa0", impl.ErrShort},
		{"\x04\x82\x0f\xa1", impl.ErrSyntax},
		{"\x04\x82\xff\xff", impl.ErrSyntax},
	} {
		checkGet(t, c.text, 0, impl.TlvOut{Code: c.code})
		checkGet(t, "\x04"+c.text, 1, impl.TlvOut{Code: c.code})
	}
}

// Of all lengths in one or two bytes more, with and without a body, just those as short as may be are read.
func TestDerGetOfEachLongLength(t *testing.T) {
	long := mixedText(impl.MaxBytes - 4)
	for size := range 65536 {
		head := "\x30\x82" + twoBytes(size)
		if size < 256 || size > mostBody {
			checkGet(t, head, 0, impl.TlvOut{Code: impl.ErrSyntax})
			checkGet(t, head+long[:300], 0, impl.TlvOut{Code: impl.ErrSyntax})
			if size <= len(long) {
				checkGet(t, head+long[:size], 0, impl.TlvOut{Code: impl.ErrSyntax})
			}
			continue
		}
		checkGet(t, head+long[:size-1], 0, impl.TlvOut{Code: impl.ErrShort})
		checkGet(t, head+long, 0, impl.TlvOut{Tlv: impl.Tlv{Tag: 48, Body: long[:size]}, At: int64(4 + size)})
	}
	for size := range 256 {
		head := "\x30\x81" + string([]byte{byte(size)})
		if size < 128 {
			checkGet(t, head+long[:size], 0, impl.TlvOut{Code: impl.ErrSyntax})
			continue
		}
		checkGet(t, head+long[:size-1], 0, impl.TlvOut{Code: impl.ErrShort})
		checkGet(t, head+long, 0, impl.TlvOut{Tlv: impl.Tlv{Tag: 48, Body: long[:size]}, At: int64(3 + size)})
	}
}

// plainGet reads a thing at the beginning as the document's sentences say it, byte by byte.
func plainGet(text string) impl.TlvOut {
	short, syntax := impl.TlvOut{Code: impl.ErrShort}, impl.TlvOut{Code: impl.ErrSyntax}
	if len(text) == 0 {
		return short
	}
	if text[0]%32 == 31 {
		return syntax
	}
	if len(text) == 1 {
		return short
	}
	head, size := 2, int(text[1])
	switch {
	case text[1] < 128:
	case text[1] == 129 && len(text) < 3, text[1] == 130 && len(text) < 4:
		return short
	case text[1] == 129 && text[2] >= 128:
		head, size = 3, int(text[2])
	case text[1] == 130 && text[2] > 0 && 256*int(text[2])+int(text[3]) <= mostBody:
		head, size = 4, 256*int(text[2])+int(text[3])
	default:
		return syntax
	}
	if len(text) < head+size {
		return short
	}
	return impl.TlvOut{Tlv: impl.Tlv{Tag: int64(text[0]), Body: text[head : head+size]}, At: int64(head + size)}
}

// Promise 6: nothing but what DerPut writes is got as a thing.
func TestDerGetOfAllTextsOfSomeBytes(t *testing.T) {
	for _, text := range textsOf("\x00\x01\x02\x0f\x10\x1e\x1f\x30\x7f\x80\x81\x82\x83\xa0\xa1\xff", 4) {
		for _, behind := range []string{"", "zz", strings.Repeat("z", 130)} {
			want := plainGet(text + behind)
			checkGet(t, text+behind, 0, want)
			if want.Code == impl.OK {
				checkPut(t, want.Tlv.Tag, want.Tlv.Body, (text + behind)[:want.At])
			}
		}
	}
}

func TestDerGetInATextOfMostBytes(t *testing.T) {
	thing := impl.DerPut(48, mixedText(mostBody))
	from := impl.MaxBytes - len(thing)
	text := mixedText(from) + thing
	want := impl.TlvOut{Tlv: impl.Tlv{Tag: 48, Body: mixedText(mostBody)}, At: impl.MaxBytes}
	checkGet(t, text, int64(from), want)
	checkGet(t, text+"x", int64(from), impl.TlvOut{Code: impl.ErrSize})
	checkGet(t, text, impl.MaxBytes, impl.TlvOut{Code: impl.ErrShort})
	checkGet(t, text[:impl.MaxBytes-1]+"\x04", impl.MaxBytes-1, impl.TlvOut{Code: impl.ErrShort})
	checkGet(t, text[:impl.MaxBytes-2]+"\x04\x00", impl.MaxBytes-2, impl.TlvOut{Tlv: impl.Tlv{Tag: 4}, At: impl.MaxBytes})
}

// rowOf is a row of that many things, no two neighbours alike, and the things.
func rowOf(count int) (string, []impl.Tlv) {
	row, things := "", []impl.Tlv(nil)
	for i := range count {
		thing := impl.Tlv{Tag: rightTags()[i%len(rightTags())], Body: mixedText(i * i % 300)}
		things = append(things, thing)
		row += impl.DerPut(thing.Tag, thing.Body)
	}
	return row, things
}

// Promise 6: a row of things is got back, thing by thing.
func TestRowsComeBack(t *testing.T) {
	checkAll(t, "the empty text", "", impl.TlvsOut{})
	checkAll(t, "two", "\x05\x00\x02\x01\x07", impl.TlvsOut{Tlvs: []impl.Tlv{{Tag: 5}, {Tag: 2, Body: "\x07"}}})
	checkAll(t, "a thing of things", "\x30\x04\x05\x00\x05\x00", impl.TlvsOut{Tlvs: []impl.Tlv{{Tag: 48, Body: "\x05\x00\x05\x00"}}})
	for count := range mostThings + 1 {
		row, things := rowOf(count)
		checkAll(t, "a row", row, impl.TlvsOut{Tlvs: things})
	}
	for _, size := range bodySizes() {
		body := mixedText(size)
		checkAll(t, "one", impl.DerPut(48, body), impl.TlvsOut{Tlvs: []impl.Tlv{{Tag: 48, Body: body}}})
	}
}

func TestDerAllNamesTheFirstFault(t *testing.T) {
	faults := map[string]int64{"\x04": impl.ErrShort, "\x04\x01": impl.ErrShort, "\x04\x82\x00": impl.ErrShort, "\x04\x82\x0f\xa0": impl.ErrShort,
		"\x1f": impl.ErrSyntax, "\xff\x00": impl.ErrSyntax, "\x04\x80": impl.ErrSyntax, "\x04\x83": impl.ErrSyntax,
		"\x04\x81\x7f": impl.ErrSyntax, "\x04\x82\x00\xff": impl.ErrSyntax, "\x04\x82\x0f\xa1": impl.ErrSyntax, "\x1f\x04": impl.ErrSyntax}
	for _, count := range []int{0, 1, 2, 3, 30, mostThings - 1, mostThings} {
		row, _ := rowOf(count)
		for fault, code := range faults {
			checkAll(t, "a fault behind some things", row+fault, impl.TlvsOut{Code: code})
		}
		for _, cut := range []int{1, 2} {
			if count > 1 {
				checkAll(t, "a row that is cut", row[:len(row)-cut], impl.TlvsOut{Code: impl.ErrShort})
			}
		}
		checkAll(t, "one fault behind another", row+"\x04\x80\x1f\x04", impl.TlvsOut{Code: impl.ErrSyntax})
	}
}

// A 61st thing is told of as soon as it is there, whatever stands behind it; a fault in its place goes first.
func TestDerAllOfTooManyThings(t *testing.T) {
	for _, count := range []int{mostThings + 1, mostThings + 2, 2 * mostThings} {
		row, _ := rowOf(count)
		checkAll(t, "too many", row, impl.TlvsOut{Code: impl.ErrFull})
		for _, behind := range []string{"\x1f", "\x04", "\x04\x80", "\x04\x82\x0f\xa1"} {
			checkAll(t, "too many, and a fault behind", row+behind, impl.TlvsOut{Code: impl.ErrFull})
		}
	}
	empty := strings.Repeat("\x05\x00", mostThings)
	checkAll(t, "60 empty ones", empty, impl.TlvsOut{Tlvs: slices.Repeat([]impl.Tlv{{Tag: 5}}, mostThings)})
	checkAll(t, "61 empty ones", empty+"\x05\x00", impl.TlvsOut{Code: impl.ErrFull})
	checkAll(t, "60 and half a one", empty+"\x05", impl.TlvsOut{Code: impl.ErrShort})
}

func TestDerAllOfTextsOfMostBytes(t *testing.T) {
	row, things := "", []impl.Tlv(nil)
	for _, size := range []int{mostBody, mostBody, mostBody, mostBody, mostBody - 20} {
		things = append(things, impl.Tlv{Tag: 4, Body: mixedText(size)})
		row += impl.DerPut(4, mixedText(size))
	}
	if len(row) != impl.MaxBytes {
		t.Fatalf("the row has %d bytes", len(row))
	}
	checkAll(t, "MaxBytes bytes", row, impl.TlvsOut{Tlvs: things})
	checkAll(t, "MaxBytes bytes of too many", strings.Repeat("\x05\x00", impl.MaxBytes/2), impl.TlvsOut{Code: impl.ErrFull})
	checkAll(t, "MaxBytes bytes of a wrong tag", strings.Repeat("\x1f", impl.MaxBytes), impl.TlvsOut{Code: impl.ErrSyntax})
	checkAll(t, "one byte more", row+"\x05", impl.TlvsOut{Code: impl.ErrSize})
	checkAll(t, "one byte more of too many", strings.Repeat("\x05\x00", impl.MaxBytes/2)+"\x05", impl.TlvsOut{Code: impl.ErrSize})
	checkAll(t, "one byte more of a wrong tag", strings.Repeat("\x1f", impl.MaxBytes+1), impl.TlvsOut{Code: impl.ErrSize})
}

func TestDerIntWritesTheDocumentsBytes(t *testing.T) {
	for _, c := range []struct {
		n    int64
		want string
	}{
		{0, "\x02\x01\x00"},
		{1, "\x02\x01\x01"},
		{127, "\x02\x01\x7f"},
		{128, "\x02\x02\x00\x80"},
		{255, "\x02\x02\x00\xff"},
		{256, "\x02\x02\x01\x00"},
		{32767, "\x02\x02\x7f\xff"},
		{32768, "\x02\x03\x00\x80\x00"},
		{-1, "\x02\x01\xff"},
		{-128, "\x02\x01\x80"},
		{-129, "\x02\x02\xff\x7f"},
		{-256, "\x02\x02\xff\x00"},
		{-32768, "\x02\x02\x80\x00"},
		{-32769, "\x02\x03\xff\x7f\xff"},
		{math.MaxInt64, "\x02\x08\x7f\xff\xff\xff\xff\xff\xff\xff"},
		{math.MinInt64, "\x02\x08\x80\x00\x00\x00\x00\x00\x00\x00"},
	} {
		if got := impl.DerInt(c.n); got != c.want {
			t.Errorf("DerInt(%d): got %q, want %q", c.n, got, c.want)
		}
		checkIntRead(t, c.want[2:], impl.NumOut{N: c.n})
	}
}

// Promise 6: numbers come back from their bodies.
func TestNumbersComeBackFromTheirBodies(t *testing.T) {
	numbers := edgeNumbers()
	for n := int64(-70000); n <= 70000; n++ {
		numbers = append(numbers, n)
	}
	for _, n := range numbers {
		thing := impl.DerInt(n)
		if want := standardBytes(t, n); thing != want {
			t.Errorf("DerInt(%d): got %q, want %q", n, thing, want)
		}
		got := impl.DerGet(thing+"\x00", 0)
		if got.Tlv.Tag != 2 || got.At != int64(len(thing)) {
			t.Errorf("DerGet of DerInt(%d): got %+v", n, got)
		}
		checkIntRead(t, got.Tlv.Body, impl.NumOut{N: n})
	}
}

func TestDerIntReadOfWrongOnes(t *testing.T) {
	for _, n := range edgeNumbers() {
		body := impl.DerInt(n)[2:]
		sign := "\x00"
		if n < 0 {
			sign = "\xff"
		}
		for range 9 {
			body = sign + body
			checkIntRead(t, body, impl.NumOut{Code: impl.ErrSyntax})
		}
	}
	for _, body := range []string{"", "\x00\x00", "\x00\x01", "\x00\x7f", "\xff\xff", "\xff\x80", "\x00\x00\x80", "\xff\xff\x7f",
		"\x01" + strings.Repeat("\x00", 8), "\x00\x80" + strings.Repeat("\x00", 7), "\x00" + strings.Repeat("\xff", 8), "\xff\x7f" + strings.Repeat("\xff", 7),
		"\x80" + strings.Repeat("\x00", 8), "\x7f" + strings.Repeat("\xff", 8), mixedText(4000), mixedText(4001),
		strings.Repeat("\x00", impl.MaxBytes), strings.Repeat("\x01", impl.MaxBytes)} {
		checkIntRead(t, body, impl.NumOut{Code: impl.ErrSyntax})
	}
	for _, body := range append(tooLongTexts(), strings.Repeat("\x00", impl.MaxBytes+1)) {
		checkIntRead(t, body, impl.NumOut{Code: impl.ErrSize})
	}
}

// standardIntRead is what the standard library reads of such a body.
func standardIntRead(t *testing.T, body string) impl.NumOut {
	t.Helper()
	var n int64
	rest, err := asn1.Unmarshal([]byte(standardThing(t, 2, body)), &n)
	if err != nil || len(rest) > 0 {
		return impl.NumOut{Code: impl.ErrSyntax}
	}
	return impl.NumOut{N: n}
}

// Promise 6: nothing but the body that DerInt writes is read as a number.
func TestDerIntReadOfAllTextsOfSomeBytes(t *testing.T) {
	for _, text := range textsOf("\x00\x01\x7f\x80\xfe\xff", 4) {
		for _, behind := range []string{"", "\x00\xff\x80\x7f", "\xff\x00\x12\x34\x56", "\x00\x00\x00\x00\x00\x00"} {
			want := standardIntRead(t, text+behind)
			checkIntRead(t, text+behind, want)
			if want.Code == impl.OK && impl.DerInt(want.N)[2:] != text+behind {
				t.Errorf("DerInt(%d) has not the body %q, from which it was read", want.N, text+behind)
			}
		}
	}
}

func TestDerOidWritesTheDocumentsBytes(t *testing.T) {
	for _, c := range []struct {
		arcs []int64
		want string
	}{
		{[]int64{0, 0}, "\x06\x01\x00"},
		{[]int64{0, 39}, "\x06\x01\x27"},
		{[]int64{1, 0}, "\x06\x01\x28"},
		{[]int64{1, 39}, "\x06\x01\x4f"},
		{[]int64{2, 0}, "\x06\x01\x50"},
		{[]int64{2, 39}, "\x06\x01\x77"},
		{[]int64{2, 40}, "\x06\x01\x78"},
		{[]int64{2, 47}, "\x06\x01\x7f"},
		{[]int64{2, 48}, "\x06\x02\x81\x00"},
		{[]int64{2, 100}, "\x06\x02\x81\x34"},
		{[]int64{1, 2, 840}, "\x06\x03\x2a\x86\x48"},
		{[]int64{1, 3, 101, 112}, "\x06\x03\x2b\x65\x70"},
		{[]int64{2, 5, 29, 17}, "\x06\x03\x55\x1d\x11"},
		{[]int64{0, 0, 0}, "\x06\x02\x00\x00"},
		{[]int64{0, 0, 127}, "\x06\x02\x00\x7f"},
		{[]int64{0, 0, 128}, "\x06\x03\x00\x81\x00"},
		{[]int64{0, 0, 16383}, "\x06\x03\x00\xff\x7f"},
		{[]int64{0, 0, 16384}, "\x06\x04\x00\x81\x80\x00"},
		{[]int64{0, 0, mostArc}, "\x06\x06\x00\x87\xff\xff\xff\x7f"},
	} {
		checkOid(t, c.arcs, c.want)
		checkOidRead(t, c.want[2:], impl.OidOut{Arcs: c.arcs})
	}
}

// otherArcs are numbers at which the bytes of an arc have their edges, up to the greatest one.
func otherArcs() []int64 {
	all := []int64{0, mostArc}
	for bit := range 31 {
		p := int64(1) << bit
		all = append(all, p-1, p, min(p+1, mostArc))
	}
	return all
}

func checkArcsComeBack(t *testing.T, arcs []int64) {
	t.Helper()
	thing := standardBytes(t, standardArcs(arcs))
	checkOid(t, arcs, thing)
	got := impl.DerGet(impl.DerOid(arcs)+"\x80", 0)
	if got.Tlv.Tag != 6 || got.At != int64(len(thing)) {
		t.Errorf("DerGet of DerOid(%v): got %+v", arcs, got)
	}
	checkOidRead(t, got.Tlv.Body, impl.OidOut{Arcs: arcs})
}

// Promise 6: arcs come back from their bodies.
func TestArcsComeBackFromTheirBodies(t *testing.T) {
	for first, most := range []int64{39, 39, 100} {
		for second := range most + 1 {
			arcs := []int64{int64(first), second}
			checkArcsComeBack(t, arcs)
			for i, arc := range otherArcs() {
				checkArcsComeBack(t, []int64{int64(first), second, arc})
				if len(arcs) < 10 {
					arcs = append(arcs, otherArcs()[(i*7+int(second))%len(otherArcs())])
					checkArcsComeBack(t, arcs)
				}
			}
		}
	}
	for place := 2; place < 10; place++ {
		for _, arc := range otherArcs() {
			arcs := []int64{2, 100, 1, 2, 3, 4, 5, 6, 7, 8}
			arcs[place] = arc
			checkArcsComeBack(t, arcs)
		}
	}
	checkArcsComeBack(t, append([]int64{2, 100}, slices.Repeat([]int64{mostArc}, 8)...))
}

func TestDerOidOfWrongOnes(t *testing.T) {
	for _, arcs := range [][]int64{nil, {}, {0}, {1}, {2}, {0, 40}, {0, 100}, {1, 40}, {1, 47}, {2, 101}, {2, 128}, {3, 0}, {3, 5}, {4, 4},
		{-1, 0}, {-1, 45}, {-1, 79}, {0, -1}, {1, -1}, {1, -40}, {2, -1}, {2, -80}, {math.MinInt64, 0}, {math.MaxInt64, 0}, {1 << 32, 0},
		{0, math.MinInt64}, {0, math.MaxInt64}, {2, math.MaxInt64}, {2, 1 << 32}} {
		checkOid(t, arcs, "")
		if len(arcs) == 2 {
			checkOid(t, append(slices.Clone(arcs), 1, 2), "")
		}
	}
	for place := 2; place < 10; place++ {
		for _, wrong := range []int64{-1, -128, mostArc + 1, 1 << 32, 1<<32 + 5, math.MaxInt64, math.MinInt64} {
			arcs := []int64{1, 2, 3, 4, 5, 6, 7, 8, 9, 10}
			arcs[place] = wrong
			checkOid(t, arcs, "")
			checkOid(t, arcs[:place+1], "")
		}
	}
	for _, count := range []int{11, 12, 60, impl.MaxList - 1, impl.MaxList, impl.MaxList + 1, 2 * impl.MaxList} {
		checkOid(t, slices.Repeat([]int64{1}, count), "")
		checkOid(t, slices.Repeat([]int64{-1}, count), "")
	}
}

func TestDerOidReadOfWrongOnes(t *testing.T) {
	for _, body := range []string{
		"",
		"\x80", "\x80\x01", "\x80\x80\x01", "\x80\x00", "\x2a\x80\x01", "\x2a\x03\x80\x80\x00", "\x2a\x80",
		"\x81", "\xff", "\x2a\x81", "\x2a\x86\x48\x81", "\x2a\x86\x48\x81\xff\xff", "\x2a\x87\xff\xff\xff\xff",
		"\x81\x35", "\x81\x7f", "\x82\x00", "\x87\xff\xff\xff\x7f", "\x88\x80\x80\x80\x00",
		"\x2a\x88\x80\x80\x80\x00", "\x2a\x8f\xff\xff\xff\x7f", "\x2a\x81\x80\x80\x80\x80\x00", "\x2a\xff\xff\xff\xff\x7f",
		"\x2a" + strings.Repeat("\xff", 9) + "\x7f", "\x2a\x82" + strings.Repeat("\x80", 8) + "\x00", "\x2a\x82" + strings.Repeat("\x80", 9) + "\x01",
		"\x2a" + strings.Repeat("\x01", 9), "\x81\x34" + strings.Repeat("\x01", 9), strings.Repeat("\x00", 10), strings.Repeat("\x00", 400), strings.Repeat("\x00", 401),
		strings.Repeat("\x01", impl.MaxBytes), strings.Repeat("\xff", impl.MaxBytes), mixedText(impl.MaxBytes),
	} {
		checkOidRead(t, body, impl.OidOut{Code: impl.ErrSyntax})
	}
	for _, body := range append(tooLongTexts(), strings.Repeat("\x01", impl.MaxBytes+1), strings.Repeat("\x80", impl.MaxBytes+1)) {
		checkOidRead(t, body, impl.OidOut{Code: impl.ErrSize})
	}
	body := impl.DerOid([]int64{2, 100, 128, 16384, mostArc, 5, 300, 1 << 21, 1 << 28, 200})[2:]
	for cut := range len(body) {
		if cut == 0 || body[cut-1] >= 128 {
			checkOidRead(t, body[:cut], impl.OidOut{Code: impl.ErrSyntax})
		}
	}
	checkOidRead(t, body+"\x00", impl.OidOut{Code: impl.ErrSyntax})
}

// standardOidRead is what the standard library reads of such a body, less what is beyond the document's limits.
func standardOidRead(t *testing.T, body string) impl.OidOut {
	t.Helper()
	var id asn1.ObjectIdentifier
	rest, err := asn1.Unmarshal([]byte(standardThing(t, 6, body)), &id)
	if err != nil || len(rest) > 0 || len(id) > 10 || id[0] == 2 && id[1] > 100 {
		return impl.OidOut{Code: impl.ErrSyntax}
	}
	var out impl.OidOut
	for _, arc := range id {
		out.Arcs = append(out.Arcs, int64(arc))
	}
	return out
}

// Promise 6: nothing but the body that DerOid writes is read as arcs.
func TestDerOidReadOfAllTextsOfSomeBytes(t *testing.T) {
	for _, text := range textsOf("\x00\x01\x27\x28\x4f\x50\x7f\x80\x81\x87\x88\xff", 4) {
		for _, behind := range []string{"", "\x34", "\x35", "\xff\xff\xff\x7f", "\x00\x01\x02\x03\x04\x05"} {
			want := standardOidRead(t, text+behind)
			checkOidRead(t, text+behind, want)
			if want.Code == impl.OK {
				checkOid(t, want.Arcs, impl.DerPut(6, text+behind))
			}
		}
	}
}

func TestThingsAreNewMemory(t *testing.T) {
	body := mixedText(300)
	thing := impl.DerPut(4, body)
	row := thing + thing + impl.DerPut(48, thing)
	if shares(thing, body) {
		t.Errorf("DerPut hands out what was handed in")
	}
	if got := impl.DerGet(row, 0); got.Tlv.Body != body || shares(got.Tlv.Body, row) {
		t.Errorf("DerGet hands out what was handed in")
	}
	all := impl.DerAll(row).Tlvs
	for i, got := range all {
		if shares(got.Body, row) || i > 0 && shares(got.Body, all[i-1].Body) {
			t.Errorf("DerAll: thing %d is not new memory", i)
		}
	}
	all[0] = impl.Tlv{}
	if again := impl.DerAll(row).Tlvs; again[0].Body != body {
		t.Errorf("DerAll hands out the same list twice")
	}
}

func TestArcsAreNotChangedAndNotShared(t *testing.T) {
	arcs := []int64{2, 100, 3, 128, mostArc}
	thing := impl.DerOid(arcs)
	if !slices.Equal(arcs, []int64{2, 100, 3, 128, mostArc}) {
		t.Errorf("DerOid changes what was handed in: %v", arcs)
	}
	got := impl.DerOidRead(thing[2:]).Arcs
	got[0], got[4] = -7, -7
	checkOidRead(t, thing[2:], impl.OidOut{Arcs: arcs})
	checkOid(t, arcs, thing)
}
