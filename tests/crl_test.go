package tests

import (
	"encoding/asn1"
	"encoding/hex"
	"fmt"
	"math"
	"slices"
	"strings"
	"testing"
	"unicode/utf8"

	"loop.example/g00371/impl"
)

// The standard library lays these as the document's sentences say it.
type (
	standardListBody struct {
		Issuer  []standardPartSET
		At      int64
		Next    int64
		Serials []int64
	}
	standardList struct {
		Body standardListBody
		Bits asn1.BitString
	}
)

// listOf is what a Crl is laid as, be it right or not.
func listOf(c impl.Crl) standardList {
	body := standardListBody{Issuer: partsOf(c.Issuer), At: c.At, Next: c.Next, Serials: c.Serials}
	return standardList{Body: body, Bits: bitsOf(c.Sig.Key, c.Sig.E, c.Sig.S)}
}

func standardCrlBody(t *testing.T, c impl.Crl) string {
	t.Helper()
	return standardBytes(t, listOf(c).Body)
}

func standardCrlBytes(t *testing.T, c impl.Crl) string {
	t.Helper()
	return standardBytes(t, listOf(c))
}

// plainCrlRight tells of a Crl, but for its Sig, as the document's sentences do.
func plainCrlRight(c impl.Crl) bool {
	serials := slices.Compact(slices.Sorted(slices.Values(c.Serials)))
	if len(serials) > 0 && (serials[0] < 1 || serials[len(serials)-1] > 1000000000) {
		return false
	}
	return plainName(c.Issuer) && c.At >= 0 && c.Next <= 1000000000 && c.At <= c.Next && len(serials) <= 40 && slices.Equal(serials, c.Serials)
}

// standardCrlRead reads a list by the standard library, lays again what was read, and compares.
func standardCrlRead(t *testing.T, text string) impl.CrlOut {
	t.Helper()
	var l standardList
	if rest, err := asn1.Unmarshal([]byte(text), &l); err != nil || len(rest) > 0 {
		return impl.CrlOut{Code: impl.ErrSyntax}
	}
	sig := numbersIn(l.Bits.Bytes, 3)
	c := impl.Crl{Issuer: nameIn(l.Body.Issuer), At: l.Body.At, Next: l.Body.Next, Serials: l.Body.Serials, Sig: impl.Sig{Key: sig[0], E: sig[1], S: sig[2]}}
	if !plainCrlRight(c) || !plainSigRight(c.Sig) || standardCrlBytes(t, c) != text {
		return impl.CrlOut{Code: impl.ErrSyntax}
	}
	return impl.CrlOut{Crl: c}
}

func sameCrl(a impl.Crl, b impl.Crl) bool {
	return a.Issuer == b.Issuer && a.At == b.At && a.Next == b.Next && slices.Equal(a.Serials, b.Serials) && a.Sig == b.Sig
}

// plainCrl is right, and signed by the secret 5.
func plainCrl() impl.Crl {
	return impl.CrlSign(5, impl.Crl{Issuer: "root", At: 1, Next: 300, Serials: []int64{3, 9, 128}})
}

// changeCrl is plainCrl, with what is done to it.
func changeCrl(how func(c *impl.Crl)) impl.Crl {
	c := plainCrl()
	c.Serials = slices.Clone(c.Serials)
	how(&c)
	return c
}

// manySerials rise up to the last one.
func manySerials(count int, last int64) []int64 {
	var serials []int64
	for i := range count {
		serials = append(serials, last-int64(count-1-i))
	}
	return serials
}

// rightCrls have each field at each of its limits, each right, with a right Sig.
func rightCrls() map[string]impl.Crl {
	long := "z" + strings.Repeat("9", 38) + "-"
	return map[string]impl.Crl{
		"the plain one":         plainCrl(),
		"Issuer of 1 byte":      changeCrl(func(c *impl.Crl) { c.Issuer = "a" }),
		"Issuer of 40":          changeCrl(func(c *impl.Crl) { c.Issuer = long }),
		"At and Next 0":         changeCrl(func(c *impl.Crl) { c.At, c.Next = 0, 0 }),
		"At and Next alike":     changeCrl(func(c *impl.Crl) { c.At, c.Next = 128, 128 }),
		"At 0, Next MaxTime":    changeCrl(func(c *impl.Crl) { c.At, c.Next = 0, impl.MaxTime }),
		"both MaxTime":          changeCrl(func(c *impl.Crl) { c.At, c.Next = impl.MaxTime, impl.MaxTime }),
		"no Serials":            changeCrl(func(c *impl.Crl) { c.Serials = nil }),
		"empty Serials":         changeCrl(func(c *impl.Crl) { c.Serials = []int64{} }),
		"1 alone":               changeCrl(func(c *impl.Crl) { c.Serials = []int64{1} }),
		"MaxTime alone":         changeCrl(func(c *impl.Crl) { c.Serials = []int64{impl.MaxTime} }),
		"1 and 2":               changeCrl(func(c *impl.Crl) { c.Serials = []int64{1, 2} }),
		"1 and MaxTime":         changeCrl(func(c *impl.Crl) { c.Serials = []int64{1, impl.MaxTime} }),
		"sizes of numbers":      changeCrl(func(c *impl.Crl) { c.Serials = []int64{127, 128, 255, 256, 32767, 32768, 8388607, 8388608} }),
		"MaxRevoked less one":   changeCrl(func(c *impl.Crl) { c.Serials = manySerials(impl.MaxRevoked-1, 100) }),
		"MaxRevoked":            changeCrl(func(c *impl.Crl) { c.Serials = manySerials(impl.MaxRevoked, impl.MaxRevoked) }),
		"MaxRevoked to MaxTime": changeCrl(func(c *impl.Crl) { c.Serials = manySerials(impl.MaxRevoked, impl.MaxTime) }),
		"E and S 0":             changeCrl(func(c *impl.Crl) { c.Sig.E, c.Sig.S = 0, 0 }),
		"E and S highest":       changeCrl(func(c *impl.Crl) { c.Sig.E, c.Sig.S = impl.GroupQ-1, impl.GroupQ-1 }),
		"another Sig":           changeCrl(func(c *impl.Crl) { c.Sig = impl.SignText(8, "another text") }),
		"the longest": {Issuer: long, At: impl.MaxTime, Next: impl.MaxTime, Serials: manySerials(impl.MaxRevoked, impl.MaxTime),
			Sig: impl.Sig{Key: highestKey(), E: impl.GroupQ - 1, S: impl.GroupQ - 1}},
		"the shortest": {Issuer: "a", Sig: impl.Sig{Key: 4}},
	}
}

// wrongLists are not right, even but for their Sig, which is right.
func wrongLists() map[string]impl.Crl {
	all := map[string]impl.Crl{
		"Next one less":       changeCrl(func(c *impl.Crl) { c.At, c.Next = 9, 8 }),
		"At behind Next":      changeCrl(func(c *impl.Crl) { c.At, c.Next = impl.MaxTime, 0 }),
		"MaxRevoked and one":  changeCrl(func(c *impl.Crl) { c.Serials = manySerials(impl.MaxRevoked+1, impl.MaxRevoked+1) }),
		"60 Serials":          changeCrl(func(c *impl.Crl) { c.Serials = manySerials(60, 60) }),
		"61 Serials":          changeCrl(func(c *impl.Crl) { c.Serials = manySerials(61, 61) }),
		"MaxList and one":     changeCrl(func(c *impl.Crl) { c.Serials = manySerials(impl.MaxList+1, impl.MaxList+1) }),
		"two alike":           changeCrl(func(c *impl.Crl) { c.Serials = []int64{7, 7} }),
		"two not rising":      changeCrl(func(c *impl.Crl) { c.Serials = []int64{7, 6} }),
		"the last two alike":  changeCrl(func(c *impl.Crl) { c.Serials = []int64{1, 2, 3, 3} }),
		"rising but for one":  changeCrl(func(c *impl.Crl) { c.Serials = []int64{1, 3, 2, 4} }),
		"rising but not next": changeCrl(func(c *impl.Crl) { c.Serials = []int64{2, 3, 1} }),
	}
	for _, n := range []int64{0, -1, impl.MaxTime + 1, math.MinInt64, math.MaxInt64, 1 << 32} {
		all[fmt.Sprint("alone the Serial ", n)] = changeCrl(func(c *impl.Crl) { c.Serials = []int64{n} })
		all[fmt.Sprint("first the Serial ", n)] = changeCrl(func(c *impl.Crl) { c.Serials = []int64{n, 5} })
		all[fmt.Sprint("last the Serial ", n)] = changeCrl(func(c *impl.Crl) { c.Serials = []int64{5, n} })
	}
	for _, n := range []int64{-1, impl.MaxTime + 1, math.MinInt64, math.MaxInt64} {
		all[fmt.Sprint("At ", n)] = changeCrl(func(c *impl.Crl) { c.At = n })
		all[fmt.Sprint("Next ", n)] = changeCrl(func(c *impl.Crl) { c.Next = n })
		all[fmt.Sprint("At and Next ", n)] = changeCrl(func(c *impl.Crl) { c.At, c.Next = n, n })
	}
	for _, name := range []string{"", strings.Repeat("a", 41), "a_b", "aB", "a.b", "a b", "a\x00", "a\xff", "aé", "A", "1a", "-a", "_", " a"} {
		all[fmt.Sprintf("Issuer %q", name)] = changeCrl(func(c *impl.Crl) { c.Issuer = name })
	}
	return all
}

// wrongListSigs are right but for their Sig.
func wrongListSigs() map[string]impl.Crl {
	all := map[string]impl.Crl{"no Sig": changeCrl(func(c *impl.Crl) { c.Sig = impl.Sig{} })}
	for _, n := range notRemainders() {
		all[fmt.Sprint("E ", n)] = changeCrl(func(c *impl.Crl) { c.Sig.E = n })
		all[fmt.Sprint("S ", n)] = changeCrl(func(c *impl.Crl) { c.Sig.S = n })
	}
	for _, y := range append(notUnits(), 1, 2, impl.GroupP-1) {
		all[fmt.Sprint("the Sig's Key ", y)] = changeCrl(func(c *impl.Crl) { c.Sig.Key = y })
	}
	return all
}

func checkCrlRead(t *testing.T, what string, text string, want impl.CrlOut) {
	t.Helper()
	got := impl.CrlRead(text)
	if got.Code != want.Code || !sameCrl(got.Crl, want.Crl) || (got.Code != impl.OK && got.Crl.Serials != nil) {
		t.Errorf("CrlRead of %s (%d bytes, starting %q): got %#v, want %#v", what, len(text), firstBytes(text), got, want)
	}
}

func checkCrlGood(t *testing.T, what string, key int64, c impl.Crl, want bool) {
	t.Helper()
	if got := impl.CrlGood(key, c); got != want {
		t.Errorf("CrlGood(%d) of %s, %#v: got %v", key, what, c, got)
	}
}

func TestCrlConstants(t *testing.T) {
	if impl.MaxRevoked != 40 {
		t.Errorf("MaxRevoked is %d", impl.MaxRevoked)
	}
}

func TestCrlBytesOfAKnownOne(t *testing.T) {
	c := impl.Crl{Issuer: "root", At: 1, Next: 300, Serials: []int64{3, 128}, Sig: impl.Sig{Key: 4, E: 64, S: 0}}
	body := "3021" + "300f310d300b06035504030c04726f6f74" + "020101" + "0202012c" + "3007" + "020103" + "02020080"
	want := "302a" + body + "0305" + "00" + "08" + "8001" + "00"
	if got := hex.EncodeToString([]byte(impl.CrlBytes(c))); got != want {
		t.Errorf("CrlBytes: got %s, want %s", got, want)
	}
	text, err := hex.DecodeString(body)
	if err != nil {
		t.Fatal(err)
	}
	checkSig(t, "the Sig of a known body", impl.CrlSign(5, c).Sig, impl.SignText(5, string(text)))
}

func TestCrlSign(t *testing.T) {
	lists := rightCrls()
	for what, c := range wrongListSigs() {
		lists[what] = c
	}
	for what, c := range lists {
		for _, x := range []int64{1, 77, impl.GroupQ - 1} {
			got, want := impl.CrlSign(x, c), c
			body := standardCrlBody(t, c)
			want.Sig = standardSign(x, standardPower(x, body), body)
			if !sameCrl(got, want) {
				t.Errorf("CrlSign(%d) of %s: got %+v, want %+v", x, what, got, want)
			}
			checkCrlGood(t, what, bigPower(impl.GroupG, x, impl.GroupP), got, true)
		}
	}
	for _, x := range someSecrets() {
		checkCrlGood(t, "the plain one", impl.PublicOf(x), impl.CrlSign(x, plainCrl()), true)
	}
}

func TestCrlSignOfWrongOnes(t *testing.T) {
	for what, c := range wrongLists() {
		for _, x := range []int64{1, 77, 0} {
			if got := impl.CrlSign(x, c); !sameCrl(got, impl.Crl{}) || got.Serials != nil {
				t.Errorf("CrlSign(%d) of %s: got %+v", x, what, got)
			}
		}
	}
	for _, x := range noSecrets() {
		for what, c := range map[string]impl.Crl{"the plain one": plainCrl(), "the shortest": rightCrls()["the shortest"], "the zero Crl": {}} {
			if got := impl.CrlSign(x, c); !sameCrl(got, impl.Crl{}) || got.Serials != nil {
				t.Errorf("CrlSign(%d) of %s: got %+v", x, what, got)
			}
		}
	}
}

func TestCrlBytes(t *testing.T) {
	for what, c := range rightCrls() {
		if got, want := impl.CrlBytes(c), standardCrlBytes(t, c); got != want {
			t.Errorf("CrlBytes of %s: got %x, want %x", what, got, want)
		}
	}
	for _, all := range []map[string]impl.Crl{wrongLists(), wrongListSigs(), {"the zero Crl": {}}} {
		for what, c := range all {
			if got := impl.CrlBytes(c); got != "" {
				t.Errorf("CrlBytes of %s: got %x", what, got)
			}
		}
	}
}

// Promise 8: a list of what is taken back comes back from its bytes.
func TestListsComeBack(t *testing.T) {
	for what, c := range rightCrls() {
		checkCrlRead(t, what, impl.CrlBytes(c), impl.CrlOut{Crl: c})
		signed := impl.CrlSign(1001, c)
		back := impl.CrlRead(impl.CrlBytes(signed))
		if back.Code != impl.OK || !sameCrl(back.Crl, signed) {
			t.Errorf("%s, signed, comes back as %+v", what, back)
		}
		checkCrlGood(t, what+", read again", impl.PublicOf(1001), back.Crl, true)
	}
	for count := range impl.MaxRevoked + 1 {
		c := changeCrl(func(c *impl.Crl) { c.Serials = manySerials(count, 150) })
		checkCrlRead(t, fmt.Sprint(count, " Serials"), impl.CrlBytes(c), impl.CrlOut{Crl: c})
	}
	for n := int64(1); n <= impl.MaxTime; n = n*2 + n%3 {
		c := changeCrl(func(c *impl.Crl) { c.At, c.Next, c.Serials = n/2, n, []int64{n} })
		checkCrlRead(t, "one of many", impl.CrlBytes(c), impl.CrlOut{Crl: c})
	}
}

func TestAnEmptyListAndNoneAreTheSame(t *testing.T) {
	none := changeCrl(func(c *impl.Crl) { c.Serials = nil })
	empty := changeCrl(func(c *impl.Crl) { c.Serials = []int64{} })
	if impl.CrlBytes(none) != impl.CrlBytes(empty) || !sameCrl(impl.CrlSign(9, none), impl.CrlSign(9, empty)) {
		t.Errorf("an empty list and none are not the same")
	}
}

func TestCrlReadOfListsThatAreNotRight(t *testing.T) {
	for _, all := range []map[string]impl.Crl{wrongLists(), wrongListSigs(), {"the zero Crl": {}}} {
		for what, c := range all {
			// The standard library lays no text that is not of runes.
			if !utf8.ValidString(c.Issuer) {
				continue
			}
			checkCrlRead(t, what, standardCrlBytes(t, c), impl.CrlOut{Code: impl.ErrSyntax})
			body := standardCrlBody(t, c)
			if len(body) <= 2000 {
				c.Sig = impl.SignText(5, body)
				if !plainCrlRight(c) {
					checkCrlRead(t, what+", signed", standardCrlBytes(t, c), impl.CrlOut{Code: impl.ErrSyntax})
				}
			}
		}
	}
}

func TestCrlReadOfListsThatAreCutOrGoOn(t *testing.T) {
	for what, c := range rightCrls() {
		text := impl.CrlBytes(c)
		for cut := range len(text) {
			checkCrlRead(t, what+", cut", text[:cut], impl.CrlOut{Code: impl.ErrSyntax})
		}
		for _, more := range []string{"\x00", "x", "\x30", "\x30\x00", "\x05\x00", text} {
			checkCrlRead(t, what+", with more behind", text+more, impl.CrlOut{Code: impl.ErrSyntax})
			checkCrlRead(t, what+", with more ahead", more+text, impl.CrlOut{Code: impl.ErrSyntax})
		}
	}
}

// Of a changed list, just the right one whose bytes these are may be told.
func TestCrlReadOfListsWithAByteChanged(t *testing.T) {
	for what, c := range rightCrls() {
		text := impl.CrlBytes(c)
		for at := range len(text) {
			for _, by := range []byte{1, 2, 4, 8, 16, 32, 64, 128, 3, 127, 255} {
				b := []byte(text)
				b[at] ^= by
				checkCrlRead(t, what+", changed", string(b), standardCrlRead(t, string(b)))
			}
			checkCrlRead(t, what+", a byte less", text[:at]+text[at+1:], standardCrlRead(t, text[:at]+text[at+1:]))
			for _, more := range []string{"\x00", "\x01", "0", "a", "\x80", "\xff"} {
				checkCrlRead(t, what+", a byte more", text[:at]+more+text[at:], standardCrlRead(t, text[:at]+more+text[at:]))
			}
		}
	}
}

func TestCrlReadOfEachByteOfAList(t *testing.T) {
	text := impl.CrlBytes(plainCrl())
	told := 0
	for at := range len(text) {
		for n := range 256 {
			b := []byte(text)
			b[at] = byte(n)
			want := standardCrlRead(t, string(b))
			checkCrlRead(t, "the plain one, changed", string(b), want)
			if want.Code == impl.OK {
				told++
			}
			good := impl.CrlGood(impl.PublicOf(5), want.Crl)
			if good != (string(b) == text) {
				t.Errorf("CrlGood of the plain one with the byte %d at %d: got %v", n, at, good)
			}
		}
	}
	// The list itself at each place, and others, as no signature is checked by reading.
	if told <= len(text) {
		t.Errorf("just %d of the changed lists are lists", told)
	}
}

func TestCrlReadOfOtherTexts(t *testing.T) {
	checkCrlRead(t, "the empty text", "", impl.CrlOut{Code: impl.ErrSyntax})
	for _, text := range textsOf("\x00\x01\x02\x03\x30\x31\x80\xff", 4) {
		checkCrlRead(t, "some bytes", text, impl.CrlOut{Code: impl.ErrSyntax})
	}
	list := impl.CrlBytes(plainCrl())
	filled := list + strings.Repeat("\x00", impl.MaxBytes-len(list))
	for _, text := range []string{mixedText(impl.MaxBytes), filled, strings.Repeat("\x30\x00", impl.MaxBytes/2), strings.Repeat("\x30\x82\x0f\xa0", impl.MaxBytes/4)} {
		checkCrlRead(t, "MaxBytes bytes", text, impl.CrlOut{Code: impl.ErrSyntax})
		checkCrlRead(t, "one more", text+"\x00", impl.CrlOut{Code: impl.ErrSize})
		checkCrlRead(t, "MaxBytes more", text+text, impl.CrlOut{Code: impl.ErrSize})
	}
	for _, body := range []string{"", list, mixedText(mostBody), strings.Repeat("\x30\x00", 60), strings.Repeat("\x30\x00", 61), impl.CertBytes(plainCert()), impl.CsrBytes(plainCsr())} {
		for _, text := range []string{body, impl.DerPut(48, body), impl.DerPut(48, impl.DerPut(48, body)), impl.DerPut(49, body)} {
			if text != list {
				checkCrlRead(t, "things that are no list", text, impl.CrlOut{Code: impl.ErrSyntax})
			}
		}
	}
}

// listOfParts lays a body of these parts, and behind it the Sig of plainCrl.
func listOfParts(parts ...string) string {
	s := plainCrl().Sig
	bits := impl.DerPut(3, "\x00"+impl.PutNum(s.Key)+impl.PutNum(s.E)+impl.PutNum(s.S))
	return impl.DerPut(48, impl.DerPut(48, strings.Join(parts, ""))+bits)
}

func TestCrlReadOfOtherParts(t *testing.T) {
	none := impl.CrlOut{Code: impl.ErrSyntax}
	serials := impl.DerInt(3) + impl.DerInt(9) + impl.DerInt(128)
	issuer := func(name string) string { return standardBytes(t, partsOf(name)) }
	parts := []string{issuer("root"), impl.DerInt(1), impl.DerInt(300), impl.DerPut(48, serials)}
	checkCrlRead(t, "the parts themselves", listOfParts(parts...), impl.CrlOut{Crl: plainCrl()})
	others := []string{"\x05\x00", "\x31\x00", "\x02\x00", "\x02\x01\x80", "\x02\x02\x00\x01", "\x02\x09\x00\x00\x00\x00\x00\x00\x00\x00\x01", "\x0a\x01\x01", "\x03\x01\x00", "\x0c\x04root",
		issuer("Root"), issuer("root") + "\x05\x00", impl.DerPut(49, serials), impl.DerPut(48, serials+"\x05\x00"), impl.DerPut(48, "\x05\x00"+serials), impl.DerPut(48, "\x0a\x01\x05"), impl.DerPut(48, impl.DerPut(49, impl.DerPut(48, "\x0c\x04root"))),
		impl.DerPut(48, impl.DerPut(49, impl.DerPut(48, impl.DerOid([]int64{2, 5, 4, 4})+"\x0c\x04root"))), impl.DerPut(48, impl.DerPut(49, impl.DerPut(48, impl.DerOid([]int64{2, 5, 4, 3})+"\x13\x04root")))}
	for at := range parts {
		checkCrlRead(t, "a part less", listOfParts(slices.Delete(slices.Clone(parts), at, at+1)...), none)
		checkCrlRead(t, "a part twice", listOfParts(slices.Insert(slices.Clone(parts), at, parts[at])...), none)
		for _, other := range others {
			checkCrlRead(t, "another part", listOfParts(slices.Replace(slices.Clone(parts), at, at+1, other)...), none)
			checkCrlRead(t, "a part more", listOfParts(slices.Insert(slices.Clone(parts), at, other)...), none)
		}
	}
	body := impl.DerGet(listOfParts(parts...), 0).Tlv.Body
	for _, other := range others {
		checkCrlRead(t, "a part behind", listOfParts(append(slices.Clone(parts), other)...), none)
		checkCrlRead(t, "a thing behind the Sig", impl.DerPut(48, body+other), none)
	}
	checkCrlRead(t, "another tag", impl.DerPut(49, body), none)
}

func TestCrlReadOfOtherSigs(t *testing.T) {
	c := plainCrl()
	body := standardCrlBody(t, c)
	laid := impl.PutNum(c.Sig.Key) + impl.PutNum(c.Sig.E) + impl.PutNum(c.Sig.S)
	checkCrlRead(t, "the Sig itself", impl.DerPut(48, body+impl.DerPut(3, "\x00"+laid)), impl.CrlOut{Crl: c})
	for _, bits := range []string{"", "\x00", "\x01" + laid, laid, "\x00" + laid + "\x00", "\x00" + laid[:len(laid)-1], "\x00\x08", "\x00\x08\x00", "\x00\x08\x00\x00\x00",
		"\x00\x08\x00\x80\x00", "\x00\x88\x00\x00\x00", "\x00\x08\x01\x00", "\x00\x08\x00\x01", "\x00\x00\x00\x00", "\x00\x02\x00\x00", "\x00\x07\x00\x00"} {
		checkCrlRead(t, "another Sig", impl.DerPut(48, body+impl.DerPut(3, bits)), impl.CrlOut{Code: impl.ErrSyntax})
	}
	for _, tag := range []int64{2, 4, 35, 131} {
		checkCrlRead(t, "a Sig of another tag", impl.DerPut(48, body+impl.DerPut(tag, "\x00"+laid)), impl.CrlOut{Code: impl.ErrSyntax})
	}
	checkCrlRead(t, "no Sig", impl.DerPut(48, body), impl.CrlOut{Code: impl.ErrSyntax})
	c.Sig = impl.Sig{Key: 4}
	checkCrlRead(t, "a Sig of other numbers", impl.DerPut(48, body+impl.DerPut(3, "\x00\x08\x00\x00")), impl.CrlOut{Crl: c})
}

func TestCrlGoodUnderOtherKeys(t *testing.T) {
	for _, x := range someSecrets() {
		c := impl.CrlSign(x, plainCrl())
		for _, y := range someSecrets() {
			checkCrlGood(t, "another's", impl.PublicOf(y), c, x == y)
			// One that says that another has signed it is good under neither key.
			said := c
			said.Sig.Key = impl.PublicOf(y)
			checkCrlGood(t, "said to be another's", impl.PublicOf(y), said, x == y)
			checkCrlGood(t, "said to be another's", impl.PublicOf(x), said, x == y)
		}
		for _, key := range append(notUnits(), 1, 2, impl.GroupP-1, x) {
			checkCrlGood(t, "no key", key, c, key == c.Sig.Key)
		}
	}
}

func TestCrlGoodOfChangedLists(t *testing.T) {
	key := impl.PublicOf(5)
	checkCrlGood(t, "the plain one", key, plainCrl(), true)
	for what, how := range map[string]func(c *impl.Crl){
		"Issuer":        func(c *impl.Crl) { c.Issuer = "roou" },
		"At":            func(c *impl.Crl) { c.At-- },
		"Next":          func(c *impl.Crl) { c.Next++ },
		"a Serial":      func(c *impl.Crl) { c.Serials[1] = 8 },
		"a Serial more": func(c *impl.Crl) { c.Serials = append(c.Serials, 129) },
		"a Serial less": func(c *impl.Crl) { c.Serials = c.Serials[:2] },
		"no Serials":    func(c *impl.Crl) { c.Serials = nil },
		"E":             func(c *impl.Crl) { c.Sig.E = (c.Sig.E + 1) % impl.GroupQ },
		"S":             func(c *impl.Crl) { c.Sig.S = (c.Sig.S + 1) % impl.GroupQ },
		"E and S":       func(c *impl.Crl) { c.Sig.E, c.Sig.S = c.Sig.S, c.Sig.E },
	} {
		c := changeCrl(how)
		if impl.CrlBytes(c) == "" {
			t.Errorf("the one of another %s is not right", what)
		}
		checkCrlGood(t, "one of another "+what, key, c, false)
	}
}

// A Sig that checks, but is not the one that CrlSign makes, is as good.
func TestCrlGoodOfOtherPowers(t *testing.T) {
	c := plainCrl()
	body := standardCrlBody(t, c)
	for _, k := range []int64{1, 2, 12345, impl.GroupQ - 1} {
		c.Sig = standardSign(5, k, body)
		checkCrlGood(t, "one signed by another power", impl.PublicOf(5), c, true)
	}
	for _, text := range []string{"", body + "\x00", body[:len(body)-1], impl.CrlBytes(plainCrl())} {
		c.Sig = impl.SignText(5, text)
		checkCrlGood(t, "one signed of another text", impl.PublicOf(5), c, false)
	}
}

// What is not right has no body; a Sig of the empty text, or of what would be it, makes it no good all the same.
func TestCrlGoodOfWrongOnes(t *testing.T) {
	for what, c := range wrongLists() {
		texts := []string{"", standardCrlBody(t, plainCrl())}
		if utf8.ValidString(c.Issuer) {
			texts = append(texts, standardCrlBody(t, c))
		}
		for _, text := range texts {
			c.Sig = impl.SignText(5, text)
			checkCrlGood(t, what, impl.PublicOf(5), c, false)
		}
	}
	for what, c := range wrongListSigs() {
		checkCrlGood(t, what, c.Sig.Key, c, false)
		checkCrlGood(t, what, impl.PublicOf(5), c, false)
	}
	checkCrlGood(t, "the zero Crl", 0, impl.Crl{}, false)
}

func TestListsAreNotChangedAndNotShared(t *testing.T) {
	serials := append(make([]int64, 0, 9), 3, 5, 9)
	given := impl.Crl{Issuer: strings.Repeat("i", 30), At: 3, Next: 4, Serials: serials, Sig: impl.Sig{Key: -1, E: -2, S: -3}}
	before := given
	before.Serials = slices.Clone(serials)
	signed := impl.CrlSign(7, given)
	text := impl.CrlBytes(signed)
	read := impl.CrlRead(text).Crl
	impl.CrlGood(impl.PublicOf(7), signed)
	if !sameCrl(given, before) {
		t.Errorf("CrlSign changes what was handed in: %+v", given)
	}
	if shares(signed.Issuer, given.Issuer) || shares(read.Issuer, text) {
		t.Errorf("CrlSign or CrlRead hands out what was handed in")
	}
	signed.Serials[0], read.Serials[0] = 1, 1
	signed.Serials = append(signed.Serials, 99)
	if !sameCrl(given, before) || serials[:4][3] != 0 {
		t.Errorf("CrlSign's list is that which was handed in: %+v", given)
	}
	if again := impl.CrlRead(text).Crl; again.Serials[0] != 3 {
		t.Errorf("CrlRead hands out the same list twice")
	}
}
