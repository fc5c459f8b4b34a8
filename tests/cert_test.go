package tests

import (
	"encoding/asn1"
	"encoding/hex"
	"fmt"
	"math"
	"slices"
	"strings"
	"testing"
	"unicode/utf8"

	"loop.example/g00371/impl"
)

// The standard library lays these as the document's sentences say it.
type (
	standardKind struct {
		Arcs asn1.ObjectIdentifier
	}
	standardPart struct {
		Arcs asn1.ObjectIdentifier
		Text string `asn1:"utf8"`
	}
	standardPartSET []standardPart
	standardTimes   struct {
		From int64
		To   int64
	}
	standardKey struct {
		Kind standardKind
		Bits asn1.BitString
	}
	standardExtra struct {
		Arcs  asn1.ObjectIdentifier
		So    bool `asn1:"optional"`
		Bytes []byte
	}
	standardCa struct {
		So bool
	}
	standardBody struct {
		Version int64 `asn1:"explicit,tag:0"`
		Serial  int64
		Kind    standardKind
		Issuer  []standardPartSET
		Times   standardTimes
		Subject []standardPartSET
		Key     standardKey
		More    []standardExtra `asn1:"optional,omitempty,explicit,tag:3"`
	}
	standardPaper struct {
		Body standardBody
		Kind standardKind
		Bits asn1.BitString
	}
)

var (
	kindArcs  = asn1.ObjectIdentifier{1, 3, 101, 112}
	nameArcs  = asn1.ObjectIdentifier{2, 5, 4, 3}
	namesArcs = asn1.ObjectIdentifier{2, 5, 29, 17}
	caArcs    = asn1.ObjectIdentifier{2, 5, 29, 19}
)

func bitsOf(numbers ...int64) asn1.BitString {
	row := ""
	for _, n := range numbers {
		row += standardNum(n)
	}
	return asn1.BitString{Bytes: []byte(row), BitLength: 8 * len(row)}
}

func partsOf(name string) []standardPartSET {
	return []standardPartSET{{{Arcs: nameArcs, Text: name}}}
}

func moreOfNames(t *testing.T, names []string) standardExtra {
	t.Helper()
	var all []asn1.RawValue
	for _, name := range names {
		all = append(all, asn1.RawValue{Class: asn1.ClassContextSpecific, Tag: 2, Bytes: []byte(name)})
	}
	return standardExtra{Arcs: namesArcs, Bytes: []byte(standardBytes(t, all))}
}

func moreOfCa(t *testing.T) standardExtra {
	t.Helper()
	return standardExtra{Arcs: caArcs, So: true, Bytes: []byte(standardBytes(t, standardCa{So: true}))}
}

// paperOf is what a Cert is laid as, be it right or not.
func paperOf(t *testing.T, c impl.Cert) standardPaper {
	t.Helper()
	body := standardBody{
		Version: 2,
		Serial:  c.Serial,
		Kind:    standardKind{kindArcs},
		Issuer:  partsOf(c.Issuer),
		Times:   standardTimes{c.From, c.To},
		Subject: partsOf(c.Subject),
		Key:     standardKey{standardKind{kindArcs}, bitsOf(c.Key)},
	}
	if len(c.Names) > 0 {
		body.More = append(body.More, moreOfNames(t, c.Names))
	}
	if c.Ca {
		body.More = append(body.More, moreOfCa(t))
	}
	return standardPaper{Body: body, Kind: standardKind{kindArcs}, Bits: bitsOf(c.Sig.Key, c.Sig.E, c.Sig.S)}
}

func standardCertBody(t *testing.T, c impl.Cert) string {
	t.Helper()
	return standardBytes(t, paperOf(t, c).Body)
}

func standardCertBytes(t *testing.T, c impl.Cert) string {
	t.Helper()
	return standardBytes(t, paperOf(t, c))
}

func plainName(name string) bool {
	letters := "abcdefghijklmnopqrstuvwxyz"
	return len(name) >= 1 && len(name) <= 40 && strings.Contains(letters, name[:1]) && strings.Trim(name, letters+"0123456789-") == ""
}

// plainRight tells of a Cert, but for its Sig, as the document's sentences do.
func plainRight(c impl.Cert) bool {
	names := slices.Compact(slices.Sorted(slices.Values(c.Names)))
	for _, name := range append([]string{c.Issuer, c.Subject}, names...) {
		if !plainName(name) {
			return false
		}
	}
	return c.Serial >= 1 && c.Serial <= 1000000000 && c.From >= 0 && c.To <= 1000000000 && c.From <= c.To &&
		c.Key != 1 && inGroup(c.Key) && len(names) <= 5 && slices.Equal(names, c.Names)
}

func plainSigRight(s impl.Sig) bool {
	return s.Key != 1 && inGroup(s.Key) && s.E >= 0 && s.E < impl.GroupQ && s.S >= 0 && s.S < impl.GroupQ
}

// numbersIn are so many numbers, one behind the other; what is laid of them again tells if they fill the bytes up.
func numbersIn(b []byte, count int) []int64 {
	numbers, at := make([]int64, count), int64(0)
	for i := range numbers {
		got := impl.GetNum(string(b), at)
		numbers[i], at = got.N, got.At
	}
	return numbers
}

func nameIn(parts []standardPartSET) string {
	if len(parts) == 1 && len(parts[0]) == 1 {
		return parts[0][0].Text
	}
	return ""
}

// standardRead reads a paper by the standard library, lays again what was read, and compares.
func standardRead(t *testing.T, text string) impl.CertOut {
	t.Helper()
	none := impl.CertOut{Code: impl.ErrSyntax}
	var p standardPaper
	if rest, err := asn1.Unmarshal([]byte(text), &p); err != nil || len(rest) > 0 {
		return none
	}
	sig := numbersIn(p.Bits.Bytes, 3)
	c := impl.Cert{
		Serial:  p.Body.Serial,
		Issuer:  nameIn(p.Body.Issuer),
		Subject: nameIn(p.Body.Subject),
		From:    p.Body.Times.From,
		To:      p.Body.Times.To,
		Key:     numbersIn(p.Body.Key.Bits.Bytes, 1)[0],
		Sig:     impl.Sig{Key: sig[0], E: sig[1], S: sig[2]},
	}
	for _, more := range p.Body.More {
		if more.Arcs.Equal(caArcs) {
			c.Ca = true
			continue
		}
		var all []asn1.RawValue
		if _, err := asn1.Unmarshal(more.Bytes, &all); err != nil {
			return none
		}
		for _, name := range all {
			c.Names = append(c.Names, string(name.Bytes))
		}
	}
	if !plainRight(c) || !plainSigRight(c.Sig) || standardCertBytes(t, c) != text {
		return none
	}
	return impl.CertOut{Cert: c}
}

func sameCert(a impl.Cert, b impl.Cert) bool {
	return a.Serial == b.Serial && a.Issuer == b.Issuer && a.Subject == b.Subject && a.From == b.From && a.To == b.To &&
		a.Key == b.Key && slices.Equal(a.Names, b.Names) && a.Ca == b.Ca && a.Sig == b.Sig
}

// plainCert is right, and signed by the secret 5.
func plainCert() impl.Cert {
	return impl.CertSign(5, impl.Cert{Serial: 7, Issuer: "root", Subject: "ann", From: 1, To: 9, Key: impl.PublicOf(6),
		Names: []string{"a", "b"}, Ca: true})
}

// change is plainCert, with what is done to it.
func change(how func(c *impl.Cert)) impl.Cert {
	c := plainCert()
	c.Names = slices.Clone(c.Names)
	how(&c)
	return c
}

func manyNames(count int) []string {
	var names []string
	for i := range count {
		names = append(names, strings.Repeat("n", 38)+"-"+string(rune('0'+i)))
	}
	return names
}

// rightCerts have each field at each of its limits, each right, with a right Sig.
func rightCerts() map[string]impl.Cert {
	long := "z" + strings.Repeat("9", 38) + "-"
	all := map[string]impl.Cert{
		"the plain one":      plainCert(),
		"Serial 1":           change(func(c *impl.Cert) { c.Serial = 1 }),
		"Serial MaxTime":     change(func(c *impl.Cert) { c.Serial = impl.MaxTime }),
		"Issuer of 1 byte":   change(func(c *impl.Cert) { c.Issuer = "a" }),
		"Issuer of 40":       change(func(c *impl.Cert) { c.Issuer = long }),
		"Subject of 1 byte":  change(func(c *impl.Cert) { c.Subject = "z" }),
		"Subject of 40":      change(func(c *impl.Cert) { c.Subject = long }),
		"both alike":         change(func(c *impl.Cert) { c.Issuer, c.Subject = "a-9", "a-9" }),
		"From and To 0":      change(func(c *impl.Cert) { c.From, c.To = 0, 0 }),
		"From and To alike":  change(func(c *impl.Cert) { c.From, c.To = 128, 128 }),
		"From 0, To MaxTime": change(func(c *impl.Cert) { c.From, c.To = 0, impl.MaxTime }),
		"both MaxTime":       change(func(c *impl.Cert) { c.From, c.To = impl.MaxTime, impl.MaxTime }),
		"a Key of 4":         change(func(c *impl.Cert) { c.Key = impl.GroupG }),
		"no Names, no Ca":    change(func(c *impl.Cert) { c.Names, c.Ca = nil, false }),
		"empty Names":        change(func(c *impl.Cert) { c.Names = []string{} }),
		"Names alone":        change(func(c *impl.Cert) { c.Ca = false }),
		"Ca alone":           change(func(c *impl.Cert) { c.Names = nil }),
		"1 Name":             change(func(c *impl.Cert) { c.Names = manyNames(1) }),
		"MaxNames Names":     change(func(c *impl.Cert) { c.Names = manyNames(impl.MaxNames) }),
		"Names that begin others": change(func(c *impl.Cert) {
			c.Names = []string{"a", "a-", "a-0", "a0", "aa"}
		}),
		"E and S 0":       change(func(c *impl.Cert) { c.Sig.E, c.Sig.S = 0, 0 }),
		"E and S highest": change(func(c *impl.Cert) { c.Sig.E, c.Sig.S = impl.GroupQ-1, impl.GroupQ-1 }),
		"another Sig":     change(func(c *impl.Cert) { c.Sig = impl.SignText(8, "another text") }),
		"the longest": change(func(c *impl.Cert) {
			*c = impl.Cert{Serial: impl.MaxTime, Issuer: long, Subject: long, From: impl.MaxTime, To: impl.MaxTime, Key: highestKey(),
				Names: manyNames(impl.MaxNames), Ca: true, Sig: impl.Sig{Key: highestKey(), E: impl.GroupQ - 1, S: impl.GroupQ - 1}}
		}),
		"the shortest": {Serial: 1, Issuer: "a", Subject: "a", Key: 4, Sig: impl.Sig{Key: 4}},
	}
	for _, y := range groupNumbers()[1:20] {
		all[fmt.Sprint("Key ", y)] = change(func(c *impl.Cert) { c.Key = y })
	}
	return all
}

func highestKey() int64 {
	y := int64(impl.GroupP - 1)
	for !inGroup(y) {
		y--
	}
	return y
}

// wrongBodies are not right, even but for their Sig, which is right.
func wrongBodies() map[string]impl.Cert {
	all := map[string]impl.Cert{
		"To one less":        change(func(c *impl.Cert) { c.From, c.To = 9, 8 }),
		"From behind To":     change(func(c *impl.Cert) { c.From, c.To = impl.MaxTime, 0 }),
		"one Name too many":  change(func(c *impl.Cert) { c.Names = manyNames(impl.MaxNames + 1) }),
		"MaxList and one":    change(func(c *impl.Cert) { c.Names = slices.Repeat([]string{"a"}, impl.MaxList+1) }),
		"two alike":          change(func(c *impl.Cert) { c.Names = []string{"a", "a"} }),
		"two not rising":     change(func(c *impl.Cert) { c.Names = []string{"b", "a"} }),
		"the last two alike": change(func(c *impl.Cert) { c.Names = []string{"a", "b", "c", "d", "d"} }),
		"the shorter behind": change(func(c *impl.Cert) { c.Names = []string{"aa", "a"} }),
		"rising but for one": change(func(c *impl.Cert) { c.Names = []string{"a", "c", "b", "d"} }),
	}
	for _, n := range []int64{0, -1, impl.MaxTime + 1, math.MinInt64, math.MaxInt64, 1 << 32} {
		all[fmt.Sprint("Serial ", n)] = change(func(c *impl.Cert) { c.Serial = n })
	}
	for _, n := range []int64{-1, impl.MaxTime + 1, math.MinInt64, math.MaxInt64} {
		all[fmt.Sprint("From ", n)] = change(func(c *impl.Cert) { c.From = n })
		all[fmt.Sprint("To ", n)] = change(func(c *impl.Cert) { c.To = n })
		all[fmt.Sprint("From and To ", n)] = change(func(c *impl.Cert) { c.From, c.To = n, n })
	}
	for _, y := range append(notUnits(), 1, 2, impl.GroupP-1, impl.GroupP-4) {
		all[fmt.Sprint("Key ", y)] = change(func(c *impl.Cert) { c.Key = y })
	}
	for _, name := range []string{"", strings.Repeat("a", 41), "a_b", "aB", "a.b", "a b", "a\x00", "a\xff", "aé", "A", "1a", "-a", "_", " a"} {
		all[fmt.Sprintf("Issuer %q", name)] = change(func(c *impl.Cert) { c.Issuer = name })
		all[fmt.Sprintf("Subject %q", name)] = change(func(c *impl.Cert) { c.Subject = name })
		all[fmt.Sprintf("alone the Name %q", name)] = change(func(c *impl.Cert) { c.Names = []string{name} })
		all[fmt.Sprintf("first the Name %q", name)] = change(func(c *impl.Cert) { c.Names = []string{name, "zz"} })
		all[fmt.Sprintf("last the Name %q", name)] = change(func(c *impl.Cert) { c.Names = []string{"a", name} })
	}
	return all
}

// wrongSigs are right but for their Sig.
func wrongSigs() map[string]impl.Cert {
	all := map[string]impl.Cert{"no Sig": change(func(c *impl.Cert) { c.Sig = impl.Sig{} })}
	for _, n := range notRemainders() {
		all[fmt.Sprint("E ", n)] = change(func(c *impl.Cert) { c.Sig.E = n })
		all[fmt.Sprint("S ", n)] = change(func(c *impl.Cert) { c.Sig.S = n })
	}
	for _, y := range append(notUnits(), 1, 2, impl.GroupP-1) {
		all[fmt.Sprint("the Sig's Key ", y)] = change(func(c *impl.Cert) { c.Sig.Key = y })
	}
	return all
}

func checkRead(t *testing.T, what string, text string, want impl.CertOut) {
	t.Helper()
	got := impl.CertRead(text)
	if got.Code != want.Code || !sameCert(got.Cert, want.Cert) {
		t.Errorf("CertRead of %s (%d bytes, starting %q): got %#v, want %#v", what, len(text), firstBytes(text), got, want)
	}
}

func checkGood(t *testing.T, what string, key int64, c impl.Cert, want bool) {
	t.Helper()
	if got := impl.CertGood(key, c); got != want {
		t.Errorf("CertGood(%d) of %s, %#v: got %v", key, what, c, got)
	}
}

func TestCertConstants(t *testing.T) {
	if impl.MaxNames != 5 {
		t.Errorf("MaxNames is %d", impl.MaxNames)
	}
}

func TestCertRight(t *testing.T) {
	for what, c := range rightCerts() {
		if !impl.CertRight(c) || !plainRight(c) || !plainSigRight(c.Sig) {
			t.Errorf("CertRight of %s: got false", what)
		}
	}
	for what, c := range wrongBodies() {
		if impl.CertRight(c) || plainRight(c) {
			t.Errorf("CertRight of %s: got true", what)
		}
	}
	for what, c := range wrongSigs() {
		if impl.CertRight(c) {
			t.Errorf("CertRight of %s: got true", what)
		}
	}
	if impl.CertRight(impl.Cert{}) {
		t.Errorf("CertRight of the zero Cert: got true")
	}
}

func TestCertBodyOfAKnownOne(t *testing.T) {
	c := impl.Cert{Serial: 7, Issuer: "root", Subject: "ann", From: 1, To: 300, Key: 4, Names: []string{"a", "b"}, Ca: true}
	want := "306c" +
		"a003020102" +
		"020107" +
		"300506032b6570" +
		"300f310d300b06035504030c04726f6f74" +
		"30070201010202012c" +
		"300e310c300a06035504030c03616e6e" +
		"300b" + "300506032b6570" + "03020008" +
		"a324" + "3022" +
		"300f" + "0603551d11" + "0408" + "3006" + "820161" + "820162" +
		"300f" + "0603551d13" + "0101ff" + "0405" + "3003" + "0101ff"
	if got := hex.EncodeToString([]byte(impl.CertBody(c))); got != want {
		t.Errorf("CertBody: got %s, want %s", got, want)
	}
	c.Sig = impl.Sig{Key: 4, E: 64, S: 0}
	want = "307c" + want + "300506032b6570" + "0305" + "00" + "08" + "8001" + "00"
	if got := hex.EncodeToString([]byte(impl.CertBytes(c))); got != want {
		t.Errorf("CertBytes: got %s, want %s", got, want)
	}
}

func TestCertBodyAndCertBytes(t *testing.T) {
	for what, c := range rightCerts() {
		if got, want := impl.CertBody(c), standardCertBody(t, c); got != want {
			t.Errorf("CertBody of %s: got %x, want %x", what, got, want)
		}
		if got, want := impl.CertBytes(c), standardCertBytes(t, c); got != want {
			t.Errorf("CertBytes of %s: got %x, want %x", what, got, want)
		}
	}
	for what, c := range wrongBodies() {
		if impl.CertBody(c) != "" || impl.CertBytes(c) != "" {
			t.Errorf("CertBody or CertBytes of %s: got some", what)
		}
	}
	for what, c := range wrongSigs() {
		if got, want := impl.CertBody(c), standardCertBody(t, c); got != want {
			t.Errorf("CertBody of %s: got %x, want %x", what, got, want)
		}
		if impl.CertBytes(c) != "" {
			t.Errorf("CertBytes of %s: got some", what)
		}
	}
	if impl.CertBody(impl.Cert{}) != "" || impl.CertBytes(impl.Cert{}) != "" {
		t.Errorf("CertBody or CertBytes of the zero Cert: got some")
	}
}

// A right Sig is none of the body's; nor does it hang on how an empty list is handed in.
func TestCertBodyLeavesOutWhatIsNotIts(t *testing.T) {
	c := plainCert()
	if other := change(func(c *impl.Cert) { c.Sig = impl.Sig{} }); impl.CertBody(other) != impl.CertBody(c) {
		t.Errorf("CertBody hangs on the Sig")
	}
	none := change(func(c *impl.Cert) { c.Names = nil })
	empty := change(func(c *impl.Cert) { c.Names = []string{} })
	if impl.CertBytes(none) != impl.CertBytes(empty) || !sameCert(impl.CertSign(9, none), impl.CertSign(9, empty)) {
		t.Errorf("an empty list and none are not the same")
	}
}

// Promise 7: one that a secret signs is good under its key.
func TestCertSign(t *testing.T) {
	certs := rightCerts()
	for what, c := range wrongSigs() {
		certs[what] = c
	}
	for what, c := range certs {
		for _, x := range []int64{1, 77, impl.GroupQ - 1} {
			got := impl.CertSign(x, c)
			want := c
			body := standardCertBody(t, c)
			want.Sig = standardSign(x, standardPower(x, body), body)
			if !sameCert(got, want) {
				t.Errorf("CertSign(%d) of %s: got %+v, want %+v", x, what, got, want)
			}
			checkGood(t, what, bigPower(impl.GroupG, x, impl.GroupP), got, true)
		}
	}
	for _, x := range someSecrets() {
		checkGood(t, "the plain one", impl.PublicOf(x), impl.CertSign(x, plainCert()), true)
	}
}

func TestCertSignOfWrongOnes(t *testing.T) {
	for what, c := range wrongBodies() {
		for _, x := range []int64{1, 77, 0} {
			if got := impl.CertSign(x, c); !sameCert(got, impl.Cert{}) {
				t.Errorf("CertSign(%d) of %s: got %+v", x, what, got)
			}
		}
	}
	for _, x := range noSecrets() {
		for what, c := range map[string]impl.Cert{"the plain one": plainCert(), "the zero Cert": {}} {
			if got := impl.CertSign(x, c); !sameCert(got, impl.Cert{}) {
				t.Errorf("CertSign(%d) of %s: got %+v", x, what, got)
			}
		}
	}
}

// Promise 7: a right paper comes back from its bytes.
func TestPapersComeBack(t *testing.T) {
	for what, c := range rightCerts() {
		checkRead(t, what, impl.CertBytes(c), impl.CertOut{Cert: c})
		signed := impl.CertSign(1001, c)
		back := impl.CertRead(impl.CertBytes(signed)).Cert
		checkGood(t, what+", read again", impl.PublicOf(1001), back, true)
	}
	for serial := int64(1); serial <= impl.MaxTime; serial = serial*2 + serial%3 {
		c := change(func(c *impl.Cert) { c.Serial, c.From, c.To = serial, serial/2, serial })
		checkRead(t, "one of many", impl.CertBytes(c), impl.CertOut{Cert: c})
	}
}

func TestCertReadOfPapersThatAreNotRight(t *testing.T) {
	for _, all := range []map[string]impl.Cert{wrongBodies(), wrongSigs()} {
		for what, c := range all {
			// The standard library lays no text that is not of runes.
			if !utf8.ValidString(c.Issuer + c.Subject) {
				continue
			}
			checkRead(t, what, standardCertBytes(t, c), impl.CertOut{Code: impl.ErrSyntax})
		}
	}
	checkRead(t, "the zero Cert", standardCertBytes(t, impl.Cert{}), impl.CertOut{Code: impl.ErrSyntax})
}

// eachKind has Names and Ca, one of them, and neither, and the longest.
func eachKind() map[string]impl.Cert {
	all := map[string]impl.Cert{}
	for _, what := range []string{"the plain one", "no Names, no Ca", "Names alone", "Ca alone", "the longest"} {
		all[what] = rightCerts()[what]
	}
	return all
}

func TestCertReadOfPapersThatAreCutOrGoOn(t *testing.T) {
	for what, c := range eachKind() {
		text := impl.CertBytes(c)
		for cut := range len(text) {
			checkRead(t, what+", cut", text[:cut], impl.CertOut{Code: impl.ErrSyntax})
		}
		for _, more := range []string{"\x00", "x", "\x30", "\x30\x00", "\x05\x00", text} {
			checkRead(t, what+", with more behind", text+more, impl.CertOut{Code: impl.ErrSyntax})
			checkRead(t, what+", with more ahead", more+text, impl.CertOut{Code: impl.ErrSyntax})
		}
	}
}

// Of a changed paper, just the right one whose bytes these are may be told.
func TestCertReadOfPapersWithAByteChanged(t *testing.T) {
	for what, c := range eachKind() {
		text := impl.CertBytes(c)
		for at := range len(text) {
			for _, by := range []byte{1, 2, 4, 8, 16, 32, 64, 128, 3, 127, 255} {
				b := []byte(text)
				b[at] ^= by
				checkRead(t, what+", changed", string(b), standardRead(t, string(b)))
			}
			checkRead(t, what+", a byte less", text[:at]+text[at+1:], standardRead(t, text[:at]+text[at+1:]))
			for _, more := range []string{"\x00", "\x01", "0", "a", "\x80", "\xff"} {
				checkRead(t, what+", a byte more", text[:at]+more+text[at:], standardRead(t, text[:at]+more+text[at:]))
			}
		}
	}
}

func TestCertReadOfEachByteOfAPaper(t *testing.T) {
	text := impl.CertBytes(plainCert())
	told := 0
	for at := range len(text) {
		for n := range 256 {
			b := []byte(text)
			b[at] = byte(n)
			want := standardRead(t, string(b))
			checkRead(t, "the plain one, changed", string(b), want)
			if want.Code == impl.OK {
				told++
			}
		}
	}
	// The paper itself at each place, and others, as no signature is checked here.
	if told <= len(text) {
		t.Errorf("just %d of the changed papers are papers", told)
	}
}

func TestCertReadOfOtherTexts(t *testing.T) {
	checkRead(t, "the empty text", "", impl.CertOut{Code: impl.ErrSyntax})
	for _, text := range textsOf("\x00\x01\x02\x03\x30\x31\x80\xa0\xa3\xff", 4) {
		checkRead(t, "some bytes", text, impl.CertOut{Code: impl.ErrSyntax})
	}
	paper := impl.CertBytes(plainCert())
	filled := paper + strings.Repeat("\x00", impl.MaxBytes-len(paper))
	for _, text := range []string{mixedText(impl.MaxBytes), filled, strings.Repeat("\x30\x00", impl.MaxBytes/2), strings.Repeat("\x30\x82\x0f\xa0", impl.MaxBytes/4)} {
		checkRead(t, "MaxBytes bytes", text, impl.CertOut{Code: impl.ErrSyntax})
		checkRead(t, "one more", text+"\x00", impl.CertOut{Code: impl.ErrSize})
		checkRead(t, "MaxBytes more", text+text, impl.CertOut{Code: impl.ErrSize})
	}
	for _, body := range []string{"", paper, mixedText(mostBody), strings.Repeat("\x30\x00", 60), strings.Repeat("\x30\x00", 61)} {
		for _, text := range []string{body, impl.DerPut(48, body), impl.DerPut(48, impl.DerPut(48, body)), impl.DerPut(49, body)} {
			if text != paper {
				checkRead(t, "things that are no paper", text, impl.CertOut{Code: impl.ErrSyntax})
			}
		}
	}
}

// otherPapers are laid otherwise than CertBytes lays them.
func otherPapers(t *testing.T) map[string]func(p *standardPaper) {
	t.Helper()
	names, ca := moreOfNames(t, []string{"a", "b"}), moreOfCa(t)
	empty := moreOfNames(t, nil)
	notCa := standardExtra{Arcs: caArcs, So: true, Bytes: []byte(standardBytes(t, standardCa{}))}
	otherBits := func(row string) asn1.BitString { return asn1.BitString{Bytes: []byte(row), BitLength: 8 * len(row)} }
	key := func(p *standardPaper) string { return string(p.Body.Key.Bits.Bytes) }
	return map[string]func(p *standardPaper){
		"the other order":           func(p *standardPaper) { p.Body.More = []standardExtra{ca, names} },
		"Names twice":               func(p *standardPaper) { p.Body.More = []standardExtra{names, names} },
		"Names twice, and Ca":       func(p *standardPaper) { p.Body.More = []standardExtra{names, names, ca} },
		"Ca twice":                  func(p *standardPaper) { p.Body.More = []standardExtra{ca, ca} },
		"no names in Names":         func(p *standardPaper) { p.Body.More = []standardExtra{empty} },
		"no names in Names, and Ca": func(p *standardPaper) { p.Body.More = []standardExtra{empty, ca} },
		"a Ca that is not so":       func(p *standardPaper) { p.Body.More = []standardExtra{names, notCa} },
		"Ca without the first so":   func(p *standardPaper) { p.Body.More[1].So = false },
		"Names with a so":           func(p *standardPaper) { p.Body.More[0].So = true },
		"something else more":       func(p *standardPaper) { p.Body.More[1].Arcs = asn1.ObjectIdentifier{2, 5, 29, 18} },
		"something else behind": func(p *standardPaper) {
			p.Body.More = append(p.Body.More, standardExtra{Arcs: asn1.ObjectIdentifier{2, 5, 29, 15}, Bytes: []byte{}})
		},
		"Names of longer arcs":     func(p *standardPaper) { p.Body.More[0].Arcs = append(slices.Clone(namesArcs), 0) },
		"Names and a thing behind": func(p *standardPaper) { p.Body.More[0].Bytes = append(p.Body.More[0].Bytes, 5, 0) },
		"Ca and a thing behind":    func(p *standardPaper) { p.Body.More[1].Bytes = append(p.Body.More[1].Bytes, 5, 0) },
		"an earlier version":       func(p *standardPaper) { p.Body.Version = 1 },
		"a later version":          func(p *standardPaper) { p.Body.Version = 3 },
		"another kind within":      func(p *standardPaper) { p.Body.Kind = standardKind{nameArcs} },
		"another kind of key":      func(p *standardPaper) { p.Body.Key.Kind = standardKind{nameArcs} },
		"another kind outside":     func(p *standardPaper) { p.Kind = standardKind{nameArcs} },
		"no kind of issuer":        func(p *standardPaper) { p.Body.Issuer[0][0].Arcs = kindArcs },
		"an empty issuer":          func(p *standardPaper) { p.Body.Issuer = []standardPartSET{} },
		"an issuer of two": func(p *standardPaper) {
			p.Body.Issuer = append(p.Body.Issuer, p.Body.Issuer[0])
		},
		"a subject of two in one": func(p *standardPaper) {
			p.Body.Subject[0] = append(p.Body.Subject[0], p.Body.Subject[0][0])
		},
		"a key and a byte":       func(p *standardPaper) { p.Body.Key.Bits = otherBits(key(p) + "\x00") },
		"a key of more bytes":    func(p *standardPaper) { p.Body.Key.Bits = otherBits("\x88\x00") },
		"no key":                 func(p *standardPaper) { p.Body.Key.Bits = otherBits("") },
		"a key that is cut":      func(p *standardPaper) { p.Body.Key.Bits = otherBits(key(p)[:1]) },
		"no sig":                 func(p *standardPaper) { p.Bits = otherBits("") },
		"a sig of two numbers":   func(p *standardPaper) { p.Bits = bitsOf(4, 0) },
		"a sig of four numbers":  func(p *standardPaper) { p.Bits = bitsOf(4, 0, 0, 0) },
		"a sig and half a byte":  func(p *standardPaper) { p.Bits.BitLength -= 4; p.Bits.Bytes[len(p.Bits.Bytes)-1] &= 240 },
		"a sig of more bytes":    func(p *standardPaper) { p.Bits = otherBits("\x08\x00\x80\x00") },
		"a sig of numbers below": func(p *standardPaper) { p.Bits = bitsOf(4, -1, 0) },
	}
}

func TestCertReadOfPapersLaidOtherwise(t *testing.T) {
	for what, how := range otherPapers(t) {
		p := paperOf(t, plainCert())
		how(&p)
		checkRead(t, what, standardBytes(t, p), impl.CertOut{Code: impl.ErrSyntax})
	}
	p := paperOf(t, plainCert())
	p.Bits = bitsOf(4, 0, 0)
	want := plainCert()
	want.Sig = impl.Sig{Key: 4}
	checkRead(t, "a sig of other numbers", standardBytes(t, p), impl.CertOut{Cert: want})
}

// partsOfPaper are the eight parts of plainCert's body, each a thing.
func partsOfPaper(t *testing.T) []string {
	t.Helper()
	body := impl.DerGet(impl.CertBody(plainCert()), 0).Tlv.Body
	var parts []string
	for _, thing := range impl.DerAll(body).Tlvs {
		parts = append(parts, impl.DerPut(thing.Tag, thing.Body))
	}
	if len(parts) != 8 {
		t.Fatalf("the body has %d parts", len(parts))
	}
	return parts
}

// paperOfParts lays a paper of a body of these parts, with plainCert's Sig.
func paperOfParts(parts ...string) string {
	s := plainCert().Sig
	kind := impl.DerPut(48, impl.DerOid([]int64{1, 3, 101, 112}))
	bits := impl.DerPut(3, "\x00"+impl.PutNum(s.Key)+impl.PutNum(s.E)+impl.PutNum(s.S))
	return impl.DerPut(48, impl.DerPut(48, strings.Join(parts, ""))+kind+bits)
}

func TestCertReadOfOtherParts(t *testing.T) {
	parts := partsOfPaper(t)
	checkRead(t, "the parts themselves", paperOfParts(parts...), impl.CertOut{Cert: plainCert()})
	want := plainCert()
	want.Names, want.Ca = nil, false
	checkRead(t, "the seven parts", paperOfParts(parts[:7]...), impl.CertOut{Cert: want})
	others := []string{"", "\x05\x00", "\xa3\x00", "\xa3\x02\x30\x00", "\xa3\x02\x31\x00", "\x30\x00", "\x02\x00", "\x02\x01\x00", "\x02\x02\x00\x07", "\xa0\x00", "\x03\x00", "\x0c\x04root"}
	for at := range parts {
		for _, other := range others {
			if at == 7 && other == "" {
				continue
			}
			changed := slices.Clone(parts)
			changed[at] = other
			checkRead(t, "another part", paperOfParts(changed...), impl.CertOut{Code: impl.ErrSyntax})
			checkRead(t, "a part more", paperOfParts(slices.Insert(slices.Clone(parts), at, other+"\x05\x00")...), impl.CertOut{Code: impl.ErrSyntax})
		}
		checkRead(t, "a part twice", paperOfParts(slices.Insert(slices.Clone(parts), at, parts[at])...), impl.CertOut{Code: impl.ErrSyntax})
	}
	for _, behind := range others[1:] {
		checkRead(t, "a part behind", paperOfParts(append(slices.Clone(parts), behind)...), impl.CertOut{Code: impl.ErrSyntax})
		checkRead(t, "a part in the place of what is more", paperOfParts(append(slices.Clone(parts[:7]), behind)...), impl.CertOut{Code: impl.ErrSyntax})
	}
	more := impl.DerGet(parts[7], 0).Tlv.Body
	for _, tag := range []int64{160, 162, 164, 48} {
		checkRead(t, "another tag of what is more", paperOfParts(append(slices.Clone(parts[:7]), impl.DerPut(tag, more))...), impl.CertOut{Code: impl.ErrSyntax})
	}
	checkRead(t, "what is more twice in one", paperOfParts(append(slices.Clone(parts[:7]), impl.DerPut(163, more+more))...), impl.CertOut{Code: impl.ErrSyntax})
}

func TestCertGoodUnderOtherKeys(t *testing.T) {
	for _, x := range someSecrets() {
		c := impl.CertSign(x, plainCert())
		for _, y := range someSecrets() {
			checkGood(t, "another's", impl.PublicOf(y), c, x == y)
		}
		for _, key := range append(notUnits(), 1, 2, impl.GroupP-1, x) {
			checkGood(t, "no key", key, c, key == c.Sig.Key)
		}
		for _, y := range someSecrets() {
			// One that says that another has signed it is good under neither key.
			said := c
			said.Sig.Key = impl.PublicOf(y)
			checkGood(t, "said to be another's", impl.PublicOf(y), said, x == y)
			checkGood(t, "said to be another's", impl.PublicOf(x), said, x == y)
		}
	}
	own := impl.CertSign(6, plainCert())
	checkGood(t, "one of its own key", own.Key, own, true)
	checkGood(t, "one of another's key", plainCert().Key, plainCert(), false)
}

// Promise 7: behind the signing no field may be changed.
func TestCertGoodOfChangedPapers(t *testing.T) {
	key := impl.PublicOf(5)
	checkGood(t, "the plain one", key, plainCert(), true)
	for what, how := range map[string]func(c *impl.Cert){
		"Serial":       func(c *impl.Cert) { c.Serial++ },
		"Issuer":       func(c *impl.Cert) { c.Issuer = "roou" },
		"Subject":      func(c *impl.Cert) { c.Subject = "anna" },
		"both names":   func(c *impl.Cert) { c.Issuer, c.Subject = c.Subject, c.Issuer },
		"From":         func(c *impl.Cert) { c.From-- },
		"To":           func(c *impl.Cert) { c.To++ },
		"Key":          func(c *impl.Cert) { c.Key = impl.PublicOf(7) },
		"its own Key":  func(c *impl.Cert) { c.Key = impl.PublicOf(5) },
		"a Name":       func(c *impl.Cert) { c.Names[1] = "c" },
		"a Name more":  func(c *impl.Cert) { c.Names = append(c.Names, "c") },
		"a Name less":  func(c *impl.Cert) { c.Names = c.Names[:1] },
		"no Names":     func(c *impl.Cert) { c.Names = nil },
		"one for both": func(c *impl.Cert) { c.Names = []string{"ab"} },
		"Ca":           func(c *impl.Cert) { c.Ca = false },
		"E":            func(c *impl.Cert) { c.Sig.E = (c.Sig.E + 1) % impl.GroupQ },
		"S":            func(c *impl.Cert) { c.Sig.S = (c.Sig.S + 1) % impl.GroupQ },
		"E and S":      func(c *impl.Cert) { c.Sig.E, c.Sig.S = c.Sig.S, c.Sig.E },
	} {
		c := change(how)
		if !impl.CertRight(c) {
			t.Errorf("the one of another %s is not right", what)
		}
		checkGood(t, "one of another "+what, key, c, false)
	}
}

// A Sig that checks, but is not the one that CertSign makes, is as good.
func TestCertGoodOfOtherPowers(t *testing.T) {
	c := plainCert()
	body := standardCertBody(t, c)
	for _, k := range []int64{1, 2, 12345, impl.GroupQ - 1} {
		c.Sig = standardSign(5, k, body)
		checkGood(t, "one signed by another power", impl.PublicOf(5), c, true)
	}
	c.Sig = impl.SignText(5, body+"\x00")
	checkGood(t, "one signed with a byte more", impl.PublicOf(5), c, false)
	c.Sig = impl.SignText(5, "")
	checkGood(t, "one signed without a body", impl.PublicOf(5), c, false)
}

// What is not right has no body; a Sig of the empty text makes it no good all the same.
func TestCertGoodOfWrongOnes(t *testing.T) {
	for what, c := range wrongBodies() {
		for _, text := range []string{"", impl.CertBody(plainCert())} {
			c.Sig = impl.SignText(5, text)
			checkGood(t, what, impl.PublicOf(5), c, false)
		}
	}
	for what, c := range wrongSigs() {
		checkGood(t, what, c.Sig.Key, c, false)
		checkGood(t, what, impl.PublicOf(5), c, false)
	}
	checkGood(t, "the zero Cert", 0, impl.Cert{}, false)
}

func TestPapersAreNotChangedAndNotShared(t *testing.T) {
	names := append(make([]string, 0, 9), manyNames(3)...)
	given := impl.Cert{Serial: 3, Issuer: strings.Repeat("i", 30), Subject: strings.Repeat("s", 30), To: 4, Key: impl.PublicOf(8),
		Names: names, Ca: true, Sig: impl.Sig{Key: -1, E: -2, S: -3}}
	before := given
	before.Names = manyNames(3)
	signed := impl.CertSign(7, given)
	text := impl.CertBytes(signed)
	read := impl.CertRead(text).Cert
	impl.CertGood(impl.PublicOf(7), signed)
	if !sameCert(given, before) {
		t.Errorf("CertSign changes what was handed in: %+v", given)
	}
	for i := range signed.Names {
		if shares(signed.Names[i], given.Names[i]) || shares(read.Names[i], text) {
			t.Errorf("the name %d is not new memory", i)
		}
	}
	if shares(signed.Issuer, given.Issuer) || shares(signed.Subject, given.Subject) || shares(read.Issuer, text) || shares(read.Subject, text) {
		t.Errorf("CertSign or CertRead hands out what was handed in")
	}
	signed.Names[0], read.Names[0] = "changed", "changed"
	signed.Names = append(signed.Names, "more")
	if !sameCert(given, before) || names[:4][3] != "" {
		t.Errorf("CertSign's list is that which was handed in: %+v", given)
	}
	if again := impl.CertRead(text).Cert; again.Names[0] != before.Names[0] {
		t.Errorf("CertRead hands out the same list twice")
	}
}
