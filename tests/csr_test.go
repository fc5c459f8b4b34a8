package tests

import (
	"encoding/asn1"
	"encoding/hex"
	"fmt"
	"math"
	"slices"
	"strings"
	"testing"

	"loop.example/g00371/impl"
)

// The standard library lays these as the document's sentences say it.
type (
	standardAskBody struct {
		Version int64
		Key     asn1.BitString
		Names   []asn1.RawValue
	}
	standardAsk struct {
		Body standardAskBody
		Bits asn1.BitString
	}
)

func rawNames(names []string) []asn1.RawValue {
	var all []asn1.RawValue
	for _, name := range names {
		all = append(all, asn1.RawValue{Class: asn1.ClassContextSpecific, Tag: 2, Bytes: []byte(name)})
	}
	return all
}

// askOf is what a Csr is laid as, be it right or not.
func askOf(c impl.Csr) standardAsk {
	body := standardAskBody{Version: 0, Key: bitsOf(c.Key), Names: rawNames(c.Names)}
	return standardAsk{Body: body, Bits: bitsOf(c.Sig.E, c.Sig.S)}
}

func standardCsrBody(t *testing.T, c impl.Csr) string {
	t.Helper()
	return standardBytes(t, askOf(c).Body)
}

func standardCsrBytes(t *testing.T, c impl.Csr) string {
	t.Helper()
	return standardBytes(t, askOf(c))
}

// standardCsrSign signs whatever is asked for, be it right or not.
func standardCsrSign(t *testing.T, x int64, names []string) impl.Csr {
	t.Helper()
	c := impl.Csr{Key: bigPower(impl.GroupG, x, impl.GroupP), Names: names}
	body := standardCsrBody(t, c)
	c.Sig = standardSign(x, standardPower(x, body), body)
	return c
}

// plainCsrRight tells of a Csr, but for its Sig's check, as the document's sentences do.
func plainCsrRight(c impl.Csr) bool {
	names := slices.Compact(slices.Sorted(slices.Values(c.Names)))
	return c.Key != 1 && inGroup(c.Key) && plainSigRight(c.Sig) && c.Sig.Key == c.Key &&
		len(names) >= 1 && len(names) <= 5 && slices.Equal(names, c.Names) && !slices.ContainsFunc(names, func(n string) bool { return !plainName(n) })
}

// standardCsrRead reads what is asked for by the standard library, lays again what was read, and compares.
func standardCsrRead(t *testing.T, text string) impl.CsrOut {
	t.Helper()
	var a standardAsk
	if rest, err := asn1.Unmarshal([]byte(text), &a); err != nil || len(rest) > 0 {
		return impl.CsrOut{Code: impl.ErrSyntax}
	}
	key, sig := numbersIn(a.Body.Key.Bytes, 1)[0], numbersIn(a.Bits.Bytes, 2)
	c := impl.Csr{Key: key, Sig: impl.Sig{Key: key, E: sig[0], S: sig[1]}}
	for _, name := range a.Body.Names {
		c.Names = append(c.Names, string(name.Bytes))
	}
	if !plainCsrRight(c) || standardCsrBytes(t, c) != text {
		return impl.CsrOut{Code: impl.ErrSyntax}
	}
	if !standardCheck(c.Sig, standardCsrBody(t, c)) {
		return impl.CsrOut{Code: impl.ErrSign}
	}
	return impl.CsrOut{Csr: c}
}

func sameCsr(a impl.Csr, b impl.Csr) bool {
	return a.Key == b.Key && slices.Equal(a.Names, b.Names) && a.Sig == b.Sig
}

// rightNames are lists of names that may be asked for.
func rightNames() map[string][]string {
	return map[string][]string{
		"1 name":                  {"a"},
		"1 name of 40 bytes":      manyNames(1),
		"2 names":                 {"a", "b"},
		"4 names":                 manyNames(4),
		"MaxNames names":          manyNames(impl.MaxNames),
		"names that begin others": {"a", "a-", "a-0", "a0", "aa"},
	}
}

// wrongNames are lists of names of which none may be asked for.
func wrongNames() map[string][]string {
	all := map[string][]string{
		"no names":            nil,
		"an empty list":       {},
		"one name too many":   manyNames(impl.MaxNames + 1),
		"60 names":            slices.Repeat([]string{"a"}, 60),
		"61 names":            slices.Repeat([]string{"a"}, 61),
		"MaxList names":       slices.Repeat([]string{"a"}, impl.MaxList),
		"MaxList and one":     slices.Repeat([]string{"a"}, impl.MaxList+1),
		"two alike":           {"a", "a"},
		"two not rising":      {"b", "a"},
		"the last two alike":  {"a", "b", "c", "d", "d"},
		"the shorter behind":  {"aa", "a"},
		"rising but for one":  {"a", "c", "b", "d"},
		"rising but not next": {"b", "c", "a"},
	}
	for _, name := range []string{"", strings.Repeat("a", 41), "a_b", "aB", "a.b", "a b", "a\x00", "a\xff", "aé", "A", "1a", "-a", "_", " a"} {
		all[fmt.Sprintf("alone %q", name)] = []string{name}
		all[fmt.Sprintf("first %q", name)] = []string{name, "zz"}
		all[fmt.Sprintf("last %q", name)] = []string{"a", name}
	}
	return all
}

// plainCsr is right, and signed by the secret 6.
func plainCsr() impl.Csr {
	return impl.CsrSign(6, []string{"a", "b"})
}

// changeCsr is plainCsr, with what is done to it.
func changeCsr(how func(c *impl.Csr)) impl.Csr {
	c := plainCsr()
	c.Names = slices.Clone(c.Names)
	how(&c)
	return c
}

// uncheckedCsrs would be right, but for their Sig's check.
func uncheckedCsrs() map[string]impl.Csr {
	return map[string]impl.Csr{
		"another E":        changeCsr(func(c *impl.Csr) { c.Sig.E = (c.Sig.E + 1) % impl.GroupQ }),
		"another S":        changeCsr(func(c *impl.Csr) { c.Sig.S = (c.Sig.S + 1) % impl.GroupQ }),
		"E and S swapped":  changeCsr(func(c *impl.Csr) { c.Sig.E, c.Sig.S = c.Sig.S, c.Sig.E }),
		"E and S 0":        changeCsr(func(c *impl.Csr) { c.Sig.E, c.Sig.S = 0, 0 }),
		"E and S highest":  changeCsr(func(c *impl.Csr) { c.Sig.E, c.Sig.S = impl.GroupQ-1, impl.GroupQ-1 }),
		"another name":     changeCsr(func(c *impl.Csr) { c.Names[1] = "c" }),
		"a name more":      changeCsr(func(c *impl.Csr) { c.Names = append(c.Names, "c") }),
		"a name less":      changeCsr(func(c *impl.Csr) { c.Names = c.Names[:1] }),
		"one for both":     changeCsr(func(c *impl.Csr) { c.Names = []string{"ab"} }),
		"another Key":      changeCsr(func(c *impl.Csr) { c.Key, c.Sig.Key = impl.PublicOf(7), impl.PublicOf(7) }),
		"a Sig of a text":  changeCsr(func(c *impl.Csr) { c.Sig = impl.SignText(6, "") }),
		"a Sig of another": changeCsr(func(c *impl.Csr) { c.Sig = impl.CsrSign(6, []string{"a"}).Sig }),
	}
}

// wrongCsrs have another fault than that their Sig does not check, be it this one too or not.
func wrongCsrs(t *testing.T) map[string]impl.Csr {
	t.Helper()
	all := map[string]impl.Csr{"the zero Csr": {}, "no Sig": changeCsr(func(c *impl.Csr) { c.Sig = impl.Sig{} })}
	for what, names := range wrongNames() {
		all[what] = changeCsr(func(c *impl.Csr) { c.Names = names })
		// The standard library lays these too, so that a Sig of them checks.
		all[what+", signed"] = standardCsrSign(t, 6, names)
		all[what+", signed as nothing"] = changeCsr(func(c *impl.Csr) { c.Names, c.Sig = names, impl.SignText(6, "") })
	}
	for _, n := range notRemainders() {
		all[fmt.Sprint("E ", n)] = changeCsr(func(c *impl.Csr) { c.Sig.E = n })
		all[fmt.Sprint("S ", n)] = changeCsr(func(c *impl.Csr) { c.Sig.S = n })
	}
	for _, y := range append(notUnits(), 1, 2, impl.GroupP-1, impl.GroupP-4) {
		all[fmt.Sprint("both Keys ", y)] = changeCsr(func(c *impl.Csr) { c.Key, c.Sig.Key = y, y })
	}
	return all
}

// otherKeys have a Key that is not their Sig's, which their bytes do not tell.
func otherKeys() map[string]impl.Csr {
	all := map[string]impl.Csr{
		"another's Sig of its body": changeCsr(func(c *impl.Csr) {
			// It checks with its own Key of the body, that has the other one.
			c.Sig = impl.SignText(7, csrBodyOf(*c))
		}),
		"its own Sig under another Key": changeCsr(func(c *impl.Csr) {
			c.Key = impl.PublicOf(7)
			c.Sig = impl.SignText(6, csrBodyOf(*c))
		}),
	}
	for _, y := range append(notUnits(), 1, 2, impl.GroupP-1, impl.PublicOf(7)) {
		all[fmt.Sprint("Key ", y)] = changeCsr(func(c *impl.Csr) { c.Key = y })
		all[fmt.Sprint("the Sig's Key ", y)] = changeCsr(func(c *impl.Csr) { c.Sig.Key = y })
	}
	return all
}

func csrBodyOf(c impl.Csr) string {
	row := ""
	for _, name := range c.Names {
		row += impl.DerPut(130, name)
	}
	return impl.DerPut(48, impl.DerInt(0)+impl.DerPut(3, "\x00"+impl.PutNum(c.Key))+impl.DerPut(48, row))
}

func checkCsrRead(t *testing.T, what string, text string, want impl.CsrOut) {
	t.Helper()
	got := impl.CsrRead(text)
	if got.Code != want.Code || !sameCsr(got.Csr, want.Csr) || (got.Code != impl.OK && got.Csr.Names != nil) {
		t.Errorf("CsrRead of %s (%d bytes, starting %q): got %#v, want %#v", what, len(text), firstBytes(text), got, want)
	}
}

func TestCsrBytesOfAKnownOne(t *testing.T) {
	c := impl.CsrSign(1, []string{"a", "b"})
	want := "300f" + "020100" + "03020008" + "3006" + "820161" + "820162"
	body, err := hex.DecodeString(want)
	if err != nil {
		t.Fatal(err)
	}
	checkSig(t, "the Sig of a known body", c.Sig, impl.SignText(1, string(body)))
	bits := "\x00" + impl.PutNum(c.Sig.E) + impl.PutNum(c.Sig.S)
	want = fmt.Sprintf("30%02x", 17+2+len(bits)) + want + fmt.Sprintf("03%02x%x", len(bits), bits)
	if got := hex.EncodeToString([]byte(impl.CsrBytes(c))); got != want {
		t.Errorf("CsrBytes: got %s, want %s", got, want)
	}
}

func TestCsrSign(t *testing.T) {
	for what, names := range rightNames() {
		for _, x := range someSecrets() {
			got, want := impl.CsrSign(x, names), standardCsrSign(t, x, names)
			if !sameCsr(got, want) {
				t.Errorf("CsrSign(%d) of %s: got %+v, want %+v", x, what, got, want)
			}
			if got, want := impl.CsrBytes(got), standardCsrBytes(t, want); got != want {
				t.Errorf("CsrBytes of %s, signed by %d: got %x, want %x", what, x, got, want)
			}
		}
	}
}

func TestCsrSignOfWrongOnes(t *testing.T) {
	for what, names := range wrongNames() {
		for _, x := range []int64{1, 77, impl.GroupQ - 1, 0} {
			if got := impl.CsrSign(x, names); !sameCsr(got, impl.Csr{}) || got.Names != nil {
				t.Errorf("CsrSign(%d) of %s: got %+v", x, what, got)
			}
		}
	}
	for _, x := range noSecrets() {
		for what, names := range rightNames() {
			if got := impl.CsrSign(x, names); !sameCsr(got, impl.Csr{}) || got.Names != nil {
				t.Errorf("CsrSign(%d) of %s: got %+v", x, what, got)
			}
		}
	}
}

// Promise 8: what is asked for comes back from its bytes.
func TestWhatIsAskedForComesBack(t *testing.T) {
	for what, names := range rightNames() {
		for _, x := range someSecrets() {
			c := impl.CsrSign(x, names)
			if impl.CsrBytes(c) == "" || c.Key != impl.PublicOf(x) {
				t.Errorf("%s, signed by %d, is not right: %+v", what, x, c)
			}
			checkCsrRead(t, what, impl.CsrBytes(c), impl.CsrOut{Csr: c})
		}
	}
	// Lengths of numbers differ from one secret to the next.
	for x := int64(1); x < 400; x++ {
		c := impl.CsrSign(x, []string{"a"})
		checkCsrRead(t, "one of many", impl.CsrBytes(c), impl.CsrOut{Csr: c})
	}
}

// A Sig that checks, but is not the one that CsrSign makes, is as good.
func TestCsrsSignedByOtherPowers(t *testing.T) {
	for _, k := range []int64{1, 2, 12345, impl.GroupQ - 1} {
		c := plainCsr()
		c.Sig = standardSign(6, k, standardCsrBody(t, c))
		text := impl.CsrBytes(c)
		if text != standardCsrBytes(t, c) {
			t.Errorf("CsrBytes of one signed by the power %d: got %x", k, text)
		}
		checkCsrRead(t, "one signed by another power", text, impl.CsrOut{Csr: c})
	}
}

func TestCsrBytesOfWrongOnes(t *testing.T) {
	for _, all := range []map[string]impl.Csr{uncheckedCsrs(), wrongCsrs(t), otherKeys()} {
		for what, c := range all {
			if got := impl.CsrBytes(c); got != "" {
				t.Errorf("CsrBytes of one of %s: got %x", what, got)
			}
		}
	}
	if impl.CsrBytes(plainCsr()) == "" {
		t.Errorf("CsrBytes of the plain one: got none")
	}
}

func TestCsrReadOfOnesThatDoNotCheck(t *testing.T) {
	for what, c := range uncheckedCsrs() {
		if !plainCsrRight(c) {
			t.Errorf("one of %s is not right but for its check", what)
		}
		text := standardCsrBytes(t, c)
		checkCsrRead(t, what, text, impl.CsrOut{Code: impl.ErrSign})
		for _, more := range []string{"\x00", "x", "\x05\x00"} {
			checkCsrRead(t, what+", with more behind", text+more, impl.CsrOut{Code: impl.ErrSyntax})
		}
		for cut := range len(text) {
			checkCsrRead(t, what+", cut", text[:cut], impl.CsrOut{Code: impl.ErrSyntax})
		}
	}
}

func TestCsrReadOfOnesThatAreNotRight(t *testing.T) {
	for what, c := range wrongCsrs(t) {
		if plainCsrRight(c) {
			t.Errorf("one of %s is right", what)
		}
		text := standardCsrBytes(t, c)
		want := standardCsrRead(t, text)
		// A Sig's Key is not laid: one that lacks it alone is, once read, one that has it.
		if want.Code != impl.ErrSyntax && what != "no Sig" {
			t.Errorf("the bytes of one of %s are right: %x", what, text)
		}
		checkCsrRead(t, what, text, want)
	}
	for what, c := range otherKeys() {
		text := standardCsrBytes(t, c)
		checkCsrRead(t, what, text, standardCsrRead(t, text))
	}
}

// rightCsrs are signed by the lowest secret, the highest, and one between.
func rightCsrs() map[string]impl.Csr {
	all := map[string]impl.Csr{}
	for what, names := range rightNames() {
		for _, x := range []int64{1, 1001, impl.GroupQ - 1} {
			all[fmt.Sprint(what, ", signed by ", x)] = impl.CsrSign(x, names)
		}
	}
	return all
}

func TestCsrReadOfOnesThatAreCutOrGoOn(t *testing.T) {
	for what, c := range rightCsrs() {
		text := impl.CsrBytes(c)
		checkCsrRead(t, what, text, impl.CsrOut{Csr: c})
		for cut := range len(text) {
			checkCsrRead(t, what+", cut", text[:cut], impl.CsrOut{Code: impl.ErrSyntax})
		}
		for n := range 256 {
			checkCsrRead(t, what+", with a byte behind", text+string([]byte{byte(n)}), impl.CsrOut{Code: impl.ErrSyntax})
		}
		for _, more := range []string{"\x00", "x", "\x30", "\x30\x00", "\x05\x00", text} {
			checkCsrRead(t, what+", with more behind", text+more, impl.CsrOut{Code: impl.ErrSyntax})
			checkCsrRead(t, what+", with more ahead", more+text, impl.CsrOut{Code: impl.ErrSyntax})
		}
	}
}

func TestCsrReadOfOnesWithAByteChanged(t *testing.T) {
	for what, c := range rightCsrs() {
		text := impl.CsrBytes(c)
		for at := range len(text) {
			for _, by := range []byte{1, 2, 4, 8, 16, 32, 64, 128, 3, 127, 255} {
				b := []byte(text)
				b[at] ^= by
				checkCsrRead(t, what+", changed", string(b), standardCsrRead(t, string(b)))
			}
			checkCsrRead(t, what+", a byte less", text[:at]+text[at+1:], standardCsrRead(t, text[:at]+text[at+1:]))
			for _, more := range []string{"\x00", "\x01", "0", "a", "\x80", "\xff"} {
				checkCsrRead(t, what+", a byte more", text[:at]+more+text[at:], standardCsrRead(t, text[:at]+more+text[at:]))
			}
		}
	}
}

func TestCsrReadOfEachByte(t *testing.T) {
	text := impl.CsrBytes(plainCsr())
	told := map[int64]int{}
	for at := range len(text) {
		for n := range 256 {
			b := []byte(text)
			b[at] = byte(n)
			want := standardCsrRead(t, string(b))
			checkCsrRead(t, "the plain one, changed", string(b), want)
			told[want.Code]++
		}
	}
	// Itself once at each place, and nothing else, as whatever is changed was signed.
	if told[impl.OK] != len(text) || told[impl.ErrSign] == 0 || told[impl.ErrSyntax] == 0 {
		t.Errorf("the changed ones tell %v", told)
	}
}

func TestCsrReadOfOtherTexts(t *testing.T) {
	checkCsrRead(t, "the empty text", "", impl.CsrOut{Code: impl.ErrSyntax})
	for _, text := range textsOf("\x00\x01\x02\x03\x30\x31\x80\x82\xff", 4) {
		checkCsrRead(t, "some bytes", text, impl.CsrOut{Code: impl.ErrSyntax})
	}
	ask := impl.CsrBytes(plainCsr())
	filled := ask + strings.Repeat("\x00", impl.MaxBytes-len(ask))
	for _, text := range []string{mixedText(impl.MaxBytes), filled, strings.Repeat("\x30\x00", impl.MaxBytes/2), strings.Repeat("\x30\x82\x0f\xa0", impl.MaxBytes/4)} {
		checkCsrRead(t, "MaxBytes bytes", text, impl.CsrOut{Code: impl.ErrSyntax})
		checkCsrRead(t, "one more", text+"\x00", impl.CsrOut{Code: impl.ErrSize})
		checkCsrRead(t, "MaxBytes more", text+text, impl.CsrOut{Code: impl.ErrSize})
	}
	for _, body := range []string{"", ask, mixedText(mostBody), strings.Repeat("\x30\x00", 60), strings.Repeat("\x30\x00", 61), impl.CertBytes(plainCert()), impl.CrlBytes(plainCrl())} {
		for _, text := range []string{body, impl.DerPut(48, body), impl.DerPut(48, impl.DerPut(48, body)), impl.DerPut(49, body)} {
			if text != ask {
				checkCsrRead(t, "things that are none", text, impl.CsrOut{Code: impl.ErrSyntax})
			}
		}
	}
}

// otherAsks are laid otherwise than CsrBytes lays them.
func otherAsks() map[string]func(a *standardAsk) {
	otherBits := func(row string) asn1.BitString { return asn1.BitString{Bytes: []byte(row), BitLength: 8 * len(row)} }
	thing := asn1.RawValue{Tag: 5, Bytes: []byte{}}
	return map[string]func(a *standardAsk){
		"a version below":        func(a *standardAsk) { a.Body.Version = -1 },
		"a later version":        func(a *standardAsk) { a.Body.Version = 1 },
		"the highest version":    func(a *standardAsk) { a.Body.Version = math.MaxInt64 },
		"a key and a byte":       func(a *standardAsk) { a.Body.Key = otherBits(string(a.Body.Key.Bytes) + "\x00") },
		"a key of more bytes":    func(a *standardAsk) { a.Body.Key = otherBits("\x88\x00") },
		"no key":                 func(a *standardAsk) { a.Body.Key = otherBits("") },
		"a key that is cut":      func(a *standardAsk) { a.Body.Key = otherBits(string(a.Body.Key.Bytes[:1])) },
		"a key and half a byte":  func(a *standardAsk) { a.Body.Key.BitLength -= 4; a.Body.Key.Bytes[len(a.Body.Key.Bytes)-1] &= 240 },
		"no names":               func(a *standardAsk) { a.Body.Names = nil },
		"a thing ahead of names": func(a *standardAsk) { a.Body.Names = slices.Insert(a.Body.Names, 0, thing) },
		"a thing behind names":   func(a *standardAsk) { a.Body.Names = append(a.Body.Names, thing) },
		"a name of another tag":  func(a *standardAsk) { a.Body.Names[1].Tag = 1 },
		"a name of another kind": func(a *standardAsk) { a.Body.Names[1].IsCompound = true },
		"no sig":                 func(a *standardAsk) { a.Bits = otherBits("") },
		"a sig of one number":    func(a *standardAsk) { a.Bits = bitsOf(0) },
		"a sig of three numbers": func(a *standardAsk) { a.Bits = otherBits(string(a.Bits.Bytes) + "\x00") },
		"a sig and its key":      func(a *standardAsk) { a.Bits = bitsOf(plainCsr().Sig.Key, plainCsr().Sig.E, plainCsr().Sig.S) },
		"a sig of more bytes":    func(a *standardAsk) { a.Bits = otherBits("\x00\x80\x00") },
		"a sig and half a byte":  func(a *standardAsk) { a.Bits.BitLength -= 4; a.Bits.Bytes[len(a.Bits.Bytes)-1] &= 240 },
	}
}

func TestCsrReadOfOnesLaidOtherwise(t *testing.T) {
	for what, how := range otherAsks() {
		a := askOf(plainCsr())
		how(&a)
		checkCsrRead(t, what, standardBytes(t, a), impl.CsrOut{Code: impl.ErrSyntax})
	}
}

// askOfParts lays a body of these parts, and behind it the Sig of plainCsr, or one that checks of this body.
func askOfParts(again bool, parts ...string) string {
	body := impl.DerPut(48, strings.Join(parts, ""))
	s := plainCsr().Sig
	if again {
		s = impl.SignText(6, body)
	}
	return impl.DerPut(48, body+impl.DerPut(3, "\x00"+impl.PutNum(s.E)+impl.PutNum(s.S)))
}

func TestCsrReadOfOtherParts(t *testing.T) {
	none := impl.CsrOut{Code: impl.ErrSyntax}
	names := impl.DerPut(130, "a") + impl.DerPut(130, "b")
	key := "\x00" + impl.PutNum(impl.PublicOf(6))
	parts := []string{impl.DerInt(0), impl.DerPut(3, key), impl.DerPut(48, names)}
	others := []string{"\x05\x00", "\x30\x00", "\x02\x00", "\x02\x01\x01", "\x02\x02\x00\x00", "\x03\x00", "\x03\x01\x00", impl.DerPut(4, key), impl.DerPut(3, "\x01"+key[1:]),
		impl.DerPut(3, key[1:]), impl.DerPut(49, names), impl.DerPut(48, names+"\x05\x00"), impl.DerPut(48, impl.DerPut(12, "a"))}
	for _, again := range []bool{false, true} {
		checkCsrRead(t, "the parts themselves", askOfParts(again, parts...), impl.CsrOut{Csr: plainCsr()})
		for at := range parts {
			checkCsrRead(t, "a part less", askOfParts(again, slices.Delete(slices.Clone(parts), at, at+1)...), none)
			checkCsrRead(t, "a part twice", askOfParts(again, slices.Insert(slices.Clone(parts), at, parts[at])...), none)
			for _, other := range others {
				checkCsrRead(t, "another part", askOfParts(again, slices.Replace(slices.Clone(parts), at, at+1, other)...), none)
				checkCsrRead(t, "a part more", askOfParts(again, slices.Insert(slices.Clone(parts), at, other)...), none)
			}
		}
		for _, other := range others {
			checkCsrRead(t, "a part behind", askOfParts(again, append(slices.Clone(parts), other)...), none)
			text := askOfParts(again, parts...)
			checkCsrRead(t, "a thing behind the Sig", impl.DerPut(48, impl.DerGet(text, 0).Tlv.Body+other), none)
		}
	}
}

func TestCsrsAreNotChangedAndNotShared(t *testing.T) {
	names := append(make([]string, 0, 9), manyNames(3)...)
	signed := impl.CsrSign(7, names)
	text := impl.CsrBytes(signed)
	read := impl.CsrRead(text).Csr
	if !slices.Equal(names, manyNames(3)) {
		t.Errorf("CsrSign changes what was handed in: %q", names)
	}
	for i := range names {
		if shares(signed.Names[i], names[i]) || shares(read.Names[i], text) {
			t.Errorf("the name %d is not new memory", i)
		}
	}
	signed.Names[0], read.Names[0] = "changed", "changed"
	signed.Names = append(signed.Names, "more")
	if !slices.Equal(names, manyNames(3)) || names[:4][3] != "" {
		t.Errorf("CsrSign's list is that which was handed in: %q", names)
	}
	if again := impl.CsrRead(text).Csr; again.Names[0] != names[0] {
		t.Errorf("CsrRead hands out the same list twice")
	}
	wrong := []string{"b", "a"}
	impl.CsrSign(7, wrong)
	if !slices.Equal(wrong, []string{"b", "a"}) {
		t.Errorf("CsrSign changes names that are not right: %q", wrong)
	}
}
