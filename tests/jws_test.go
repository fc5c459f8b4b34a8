package tests

import (
	"fmt"
	"math"
	"slices"
	"strings"
	"testing"

	"loop.example/g00371/impl"
)

const mostAsked = 2000

// rawRequest is what stands in a request's three parts.
type rawRequest struct {
	head, body, tail string
}

func headOf(key int64, nonce int64, url string) string {
	return standardNum(key) + standardNum(nonce) + standardNum(int64(len(url))) + url
}

// rawOf is what a request is laid as, be it right or not.
func rawOf(j impl.Jws) rawRequest {
	return rawRequest{head: headOf(j.Key, j.Nonce, j.Url), body: j.Body, tail: standardNum(j.Sig.E) + standardNum(j.Sig.S)}
}

// asked is what is signed.
func (r rawRequest) asked() string {
	return standardSigns(r.head) + "." + standardSigns(r.body)
}

func (r rawRequest) text() string {
	return r.asked() + "." + standardSigns(r.tail)
}

// signed is what stands in the parts, with a Sig of it that checks under that secret's key.
func (r rawRequest) signed(x int64) rawRequest {
	r.tail = tailOf(x, r.asked())
	return r
}

func tailOf(x int64, asked string) string {
	s := standardSign(x, standardPower(x, asked), asked)
	return standardNum(s.E) + standardNum(s.S)
}

func standardJwsSign(x int64, nonce int64, url string, body string) string {
	return rawOf(impl.Jws{Key: bigPower(impl.GroupG, x, impl.GroupP), Nonce: nonce, Url: url, Body: body}).signed(x).text()
}

// plainJwsRight tells of a request, but for its Sig's check, as the document's sentences do.
func plainJwsRight(j impl.Jws) bool {
	return plainSigRight(j.Sig) && j.Sig.Key == j.Key && j.Nonce >= 0 && j.Nonce <= 1000000000 && plainName(j.Url) && len(j.Body) <= 2000
}

// standardJwsRead reads a request by the standard library, lays again what was read, and compares.
func standardJwsRead(text string) impl.JwsOut {
	if len(text) > 20000 {
		return impl.JwsOut{Code: impl.ErrSize}
	}
	parts := strings.Split(text, ".")
	if len(parts) != 3 {
		return impl.JwsOut{Code: impl.ErrSyntax}
	}
	head, body, tail := standardBase64Read(parts[0]), standardBase64Read(parts[1]), standardBase64Read(parts[2])
	if head.Code+body.Code+tail.Code != impl.OK {
		return impl.JwsOut{Code: impl.ErrSyntax}
	}
	front, sig := numbersIn([]byte(head.Text), 3), numbersIn([]byte(tail.Text), 2)
	j := impl.Jws{Key: front[0], Nonce: front[1], Body: body.Text, Sig: impl.Sig{Key: front[0], E: sig[0], S: sig[1]}}
	if size := front[2]; size >= 0 && size <= int64(len(head.Text)) {
		j.Url = head.Text[int64(len(head.Text))-size:]
	}
	if !plainJwsRight(j) || rawOf(j).text() != text {
		return impl.JwsOut{Code: impl.ErrSyntax}
	}
	if !standardCheck(j.Sig, rawOf(j).asked()) {
		return impl.JwsOut{Code: impl.ErrSign}
	}
	return impl.JwsOut{Jws: j}
}

func checkJwsRead(t *testing.T, what string, text string, want impl.JwsOut) {
	t.Helper()
	if got := impl.JwsRead(text); got != want {
		t.Errorf("JwsRead of %s (%d bytes, starting %q): got %+v, want %+v", what, len(text), firstBytes(text), got, want)
	}
}

func checkJwsSign(t *testing.T, what string, got string, want string) {
	t.Helper()
	if got != want {
		t.Errorf("JwsSign of %s: got %q, want %q", what, got, want)
	}
}

func rightNonces() []int64 {
	return []int64{0, 1, 2, 63, 64, 8191, 8192, 1<<20 - 1, 1 << 20, impl.MaxTime - 1, impl.MaxTime}
}

func wrongNonces() []int64 {
	return append(downNumbers(), impl.MaxTime+1, impl.MaxTime+2, 1<<30, 1<<31, 1<<32, 1<<32+9, math.MaxInt64-1, math.MaxInt64)
}

func rightUrls() []string {
	return []string{"a", "z", "order", "account", "a-9", "a-", "finish", "z" + strings.Repeat("9", 38), "z" + strings.Repeat("-", 39), strings.Repeat("u", 40)}
}

func wrongUrls() []string {
	return []string{"", strings.Repeat("u", 41), strings.Repeat("u", 80), "A", "Order", "orDer", "9a", "-a", "a_b", "a.b", "a b", "a/b", "a\n", " a", "a ", "\x00", "a\x00", "a\xff", "é", "aé",
		strings.Repeat("u", mostAsked), strings.Repeat("u", mostPlain+1), strings.Repeat("u", impl.MaxBytes), strings.Repeat("u", impl.MaxBytes+1)}
}

func rightBodies() []string {
	all := []string{"", "b", "bo", "body", ".", "..", "=", "\x00", "\x00\x00", "\xff", "\xfb\xff\xfe", "é", allBytes(), strings.Repeat("\x00", mostAsked), strings.Repeat("\xff", mostAsked)}
	for _, size := range []int{63, 64, 65, mostAsked - 2, mostAsked - 1, mostAsked} {
		all = append(all, mixedText(size))
	}
	return all
}

func wrongAskBodies() []string {
	all := tooLongTexts()
	for _, size := range []int{mostAsked + 1, mostAsked + 2, 2667, mostPlain - 1, mostPlain, mostPlain + 1, impl.MaxBytes} {
		all = append(all, mixedText(size), strings.Repeat("\x00", size))
	}
	return all
}

// rightAsks are requests without their Key and Sig: each field at each of its limits, and all of them there.
func rightAsks() []impl.Jws {
	all := []impl.Jws{{Nonce: 0, Url: "a"}, {Nonce: impl.MaxTime, Url: strings.Repeat("u", 40), Body: mixedText(mostAsked)}}
	for _, nonce := range rightNonces() {
		all = append(all, impl.Jws{Nonce: nonce, Url: "order", Body: "body"})
	}
	for _, url := range rightUrls() {
		all = append(all, impl.Jws{Nonce: 9, Url: url, Body: "body"})
	}
	for _, body := range rightBodies() {
		all = append(all, impl.Jws{Nonce: 9, Url: "order", Body: body})
	}
	return all
}

func sign(x int64, j impl.Jws) string {
	return impl.JwsSign(x, j.Nonce, j.Url, j.Body)
}

func TestRequestsThatAreKnown(t *testing.T) {
	for _, c := range []struct {
		x    int64
		want impl.Jws
		text string
	}{
		{1, impl.Jws{Key: 4, Nonce: 9, Url: "order", Body: "body", Sig: impl.Sig{Key: 4, E: 955779242, S: 12899853}}, "CBIKb3JkZXI.Ym9keQ.1KLAjwea2KYM"},
		{5, impl.Jws{Key: 1024, Nonce: 9, Url: "order", Body: "body", Sig: impl.Sig{Key: 1024, E: 1059135910, S: 465579748}},
			"gBASCm9yZGVy.Ym9keQ.zIaJ8gfIu4G8Aw"},
		{1001, impl.Jws{Key: 554688020, Nonce: 0, Url: "a", Body: "\xfb\xff\xfe", Sig: impl.Sig{Key: 554688020, E: 895701866, S: 833922818}},
			"qPj-kAQAAmE.-__-.1M2a1gaEnKWbBg"},
		{impl.GroupQ - 1, impl.Jws{Key: 536870895, Nonce: impl.MaxTime, Url: strings.Repeat("u", 40), Sig: impl.Sig{Key: 536870895, E: 943460633, S: 487121226}},
			"3v___wOAqNa5B1B1dXV1dXV1dXV1dXV1dXV1dXV1dXV1dXV1dXV1dXV1dXV1dXV1dXV1..ssTggweUhcfQAw"},
	} {
		checkJwsSign(t, "a known one", sign(c.x, c.want), c.text)
		checkJwsRead(t, "a known one", c.text, impl.JwsOut{Jws: c.want})
	}
}

func TestJwsSign(t *testing.T) {
	for _, x := range someSecrets() {
		for _, j := range rightAsks() {
			checkJwsSign(t, fmt.Sprintf("%d, %+v", x, j), sign(x, j), standardJwsSign(x, j.Nonce, j.Url, j.Body))
		}
	}
}

// Promise 10: what is asked for comes back from its request.
func TestRequestsComeBack(t *testing.T) {
	for _, x := range someSecrets() {
		for _, j := range rightAsks() {
			text := sign(x, j)
			j.Key = impl.PublicOf(x)
			j.Sig = impl.SignText(x, rawOf(j).asked())
			checkJwsRead(t, "what JwsSign gives", text, impl.JwsOut{Jws: j})
		}
	}
	// Lengths of numbers differ from one secret to the next.
	for x := int64(1); x < 400; x++ {
		got := impl.JwsRead(impl.JwsSign(x, x, "state", impl.PutNum(x)))
		want := impl.Jws{Key: impl.PublicOf(x), Nonce: x, Url: "state", Body: impl.PutNum(x), Sig: got.Jws.Sig}
		if got.Code != impl.OK || got.Jws != want || got.Jws.Sig.Key != want.Key {
			t.Errorf("JwsRead of the request of %d: got %+v, want %+v", x, got, want)
		}
	}
}

func TestJwsSignOfWrongOnes(t *testing.T) {
	for _, x := range noSecrets() {
		for _, j := range rightAsks() {
			checkJwsSign(t, fmt.Sprint("no secret ", x), sign(x, j), "")
		}
	}
	for _, x := range []int64{1, 77, impl.GroupQ - 1, 0, impl.GroupQ} {
		for _, nonce := range wrongNonces() {
			for _, url := range []string{"a", "order", strings.Repeat("u", 40), "", "A"} {
				checkJwsSign(t, fmt.Sprint("the Nonce ", nonce), impl.JwsSign(x, nonce, url, "body"), "")
			}
		}
		for _, url := range wrongUrls() {
			for _, nonce := range []int64{0, 9, impl.MaxTime, -1} {
				checkJwsSign(t, fmt.Sprintf("the Url %q", firstBytes(url)), impl.JwsSign(x, nonce, url, "body"), "")
			}
		}
		for _, body := range wrongAskBodies() {
			for _, url := range []string{"a", strings.Repeat("u", 40), ""} {
				checkJwsSign(t, fmt.Sprint("a Body of ", len(body)), impl.JwsSign(x, 9, url, body), "")
			}
		}
	}
}

// plainRaw is what stands in a request of the secret 6, signed.
func plainRaw() rawRequest {
	return rawRequest{head: headOf(impl.PublicOf(6), 9, "order"), body: "body"}.signed(6)
}

// changedRaws are others beside plainRaw, signed as they stand or behind the signing.
func changedRaws(how func(r *rawRequest)) map[string]string {
	as, behind := plainRaw(), plainRaw()
	how(&as)
	how(&behind)
	return map[string]string{"signed": as.signed(6).text(), "changed behind the signing": behind.text()}
}

func TestPlainRequest(t *testing.T) {
	want := impl.Jws{Key: impl.PublicOf(6), Nonce: 9, Url: "order", Body: "body", Sig: impl.SignText(6, plainRaw().asked())}
	checkJwsRead(t, "the plain one", plainRaw().text(), impl.JwsOut{Jws: want})
	checkJwsSign(t, "the plain one", impl.JwsSign(6, 9, "order", "body"), plainRaw().text())
}

// wrongHeads are first parts that are not what is asked.
func wrongHeads() map[string]string {
	key := impl.PublicOf(6)
	front := standardNum(key) + standardNum(9)
	all := map[string]string{
		"nothing":                    "",
		"a number that goes on":      "\x80",
		"Key alone":                  standardNum(key),
		"Key and Nonce alone":        front,
		"no Key":                     standardNum(9) + "\x0aorder",
		"no Nonce":                   standardNum(key) + "\x0aorder",
		"a Url without its length":   front + "order",
		"a Url that is cut":          front + "\x0aorde",
		"a Url's length alone":       front + "\x0a",
		"a length that goes on":      front + "\x8a",
		"a length below 0":           front + "\x01",
		"a length of below 0, bytes": front + "\x09order",
		"a length of MaxBytes":       front + standardNum(impl.MaxBytes) + "order",
		"a length beyond":            front + standardNum(impl.MaxBytes+1) + "order",
		"the greatest length":        front + standardNum(math.MaxInt64) + "order",
		"a length one too short":     front + "\x08order",
		"a byte behind the Url":      front + "\x0aorder\x00",
		"a letter behind the Url":    front + "\x0aorders",
		"a number behind the Url":    front + "\x0aorder" + standardNum(9),
		"a text behind the Url":      front + "\x0aorder\x08body",
		"all twice":                  front + "\x0aorder" + front + "\x0aorder",
		"a byte ahead":               "\x00" + front + "\x0aorder",
		"Nonce and Key":              standardNum(2) + standardNum(key) + "\x0aorder",
		"Url first":                  "\x0aorder" + front,
		"a Nonce of more bytes":      standardNum(key) + "\x92\x00\x0aorder",
		"a length of more bytes":     front + "\x8a\x00order",
		"a Key of more bytes":        "\x88\x00\x12\x0aorder",
		"a Nonce in ten bytes":       standardNum(key) + strings.Repeat("\x80", 9) + "\x02\x0aorder",
		"digits":                     fmt.Sprint(key, 9) + "order",
	}
	for _, y := range append(notUnits(), 1, 2, impl.GroupP-1, impl.GroupP-4, impl.GroupP+key) {
		all[fmt.Sprint("the Key ", y)] = headOf(y, 9, "order")
	}
	for _, nonce := range wrongNonces() {
		all[fmt.Sprint("the Nonce ", nonce)] = headOf(key, nonce, "order")
	}
	for _, url := range wrongUrls() {
		all[fmt.Sprintf("the Url %q, of %d bytes", firstBytes(url), len(url))] = headOf(key, 9, url)
	}
	return all
}

func TestJwsReadOfWrongHeads(t *testing.T) {
	for what, head := range wrongHeads() {
		for how, text := range changedRaws(func(r *rawRequest) { r.head = head }) {
			want := impl.JwsOut{Code: impl.ErrSyntax}
			if len(text) > impl.MaxBytes {
				want.Code = impl.ErrSize
			}
			checkJwsRead(t, "a first part of "+what+", "+how, text, want)
		}
	}
}

func TestJwsReadOfBodies(t *testing.T) {
	for _, body := range rightBodies() {
		for how, text := range changedRaws(func(r *rawRequest) { r.body = body }) {
			want := standardJwsRead(text)
			if how == "signed" && (want.Code != impl.OK || want.Jws.Body != body) || want.Code == impl.ErrSyntax {
				t.Errorf("a Body of %d bytes, %s, tells %d", len(body), how, want.Code)
			}
			checkJwsRead(t, fmt.Sprint("a Body of ", len(body), " bytes, ", how), text, want)
		}
	}
	for _, body := range wrongAskBodies() {
		for how, text := range changedRaws(func(r *rawRequest) { r.body = body }) {
			want := impl.JwsOut{Code: impl.ErrSyntax}
			if len(text) > impl.MaxBytes {
				want.Code = impl.ErrSize
			}
			checkJwsRead(t, fmt.Sprint("a Body of ", len(body), " bytes, ", how), text, want)
		}
	}
}

func TestJwsReadOfWrongSigs(t *testing.T) {
	s := impl.SignText(6, plainRaw().asked())
	tails := map[string]string{
		"nothing":               "",
		"E alone":               standardNum(s.E),
		"a number that goes on": standardNum(s.E) + "\x80",
		"three numbers":         standardNum(s.E) + standardNum(s.S) + standardNum(0),
		"a byte behind":         plainRaw().tail + "\x01",
		"its Key too":           standardNum(s.Key) + plainRaw().tail,
		"all twice":             plainRaw().tail + plainRaw().tail,
		"a byte less":           plainRaw().tail[:len(plainRaw().tail)-1],
		"E of more bytes":       "\x80\x00" + standardNum(s.S),
		"S of more bytes":       standardNum(s.E) + "\x80\x00",
		"S in ten bytes":        standardNum(s.E) + strings.Repeat("\x80", 9) + "\x02",
		"eight bytes each":      fmt.Sprintf("%08d%08d", s.E%100000000, s.S%100000000),
	}
	for _, n := range append(notRemainders(), s.E+impl.GroupQ, s.S+impl.GroupQ, s.E-impl.GroupQ, s.S-impl.GroupQ) {
		tails[fmt.Sprint("the E ", n)] = standardNum(n) + standardNum(s.S)
		tails[fmt.Sprint("the S ", n)] = standardNum(s.E) + standardNum(n)
		tails[fmt.Sprint("E and S ", n)] = standardNum(n) + standardNum(n)
	}
	for what, tail := range tails {
		r := plainRaw()
		r.tail = tail
		checkJwsRead(t, "a third part of "+what, r.text(), impl.JwsOut{Code: impl.ErrSyntax})
	}
}

// rightSigs are right, but are not of these parts, or not of this Key.
func rightSigs() map[string]string {
	plain := plainRaw()
	s := impl.SignText(6, plain.asked())
	all := map[string]string{
		"no text":                      tailOf(6, ""),
		"another text":                 tailOf(6, "another text"),
		"the first part":               tailOf(6, standardSigns(plain.head)),
		"the second part":              tailOf(6, standardSigns(plain.body)),
		"the first, and the point":     tailOf(6, standardSigns(plain.head)+"."),
		"the parts without the point":  tailOf(6, standardSigns(plain.head)+standardSigns(plain.body)),
		"the parts and another point":  tailOf(6, plain.asked()+"."),
		"the parts changed round":      tailOf(6, standardSigns(plain.body)+"."+standardSigns(plain.head)),
		"what stands in the parts":     tailOf(6, plain.head+plain.body),
		"that, with the point":         tailOf(6, plain.head+"."+plain.body),
		"all as one Base64":            tailOf(6, standardSigns(plain.head+plain.body)),
		"the whole request":            tailOf(6, plain.text()),
		"the parts, by another secret": tailOf(7, plain.asked()),
		"another's parts, by it":       tailOf(7, rawRequest{head: headOf(impl.PublicOf(7), 9, "order"), body: "body"}.asked()),
		"those, by this one":           tailOf(6, rawRequest{head: headOf(impl.PublicOf(7), 9, "order"), body: "body"}.asked()),
		"E and S changed round":        standardNum(s.S) + standardNum(s.E),
	}
	for _, n := range []int64{0, 1, (s.E + 1) % impl.GroupQ, (s.S + 1) % impl.GroupQ, (s.S + s.E) % impl.GroupQ, impl.GroupQ - 2, impl.GroupQ - 1} {
		all[fmt.Sprint("the E ", n)] = standardNum(n) + standardNum(s.S)
		all[fmt.Sprint("the S ", n)] = standardNum(s.E) + standardNum(n)
		all[fmt.Sprint("E and S ", n)] = standardNum(n) + standardNum(n)
	}
	return all
}

func TestJwsReadOfOtherSigs(t *testing.T) {
	for what, tail := range rightSigs() {
		r := plainRaw()
		r.tail = tail
		checkJwsRead(t, "one with the Sig of "+what, r.text(), impl.JwsOut{Code: impl.ErrSign})
		// The parts are looked at ahead of the Sig.
		for _, head := range []string{"", headOf(2, 9, "order"), headOf(impl.PublicOf(6), -1, "order"), headOf(impl.PublicOf(6), 9, "Order")} {
			checkJwsRead(t, "a wrong head with the Sig of "+what, rawRequest{head: head, body: "body", tail: tail}.text(), impl.JwsOut{Code: impl.ErrSyntax})
		}
		long := rawRequest{head: r.head, body: mixedText(mostAsked + 1), tail: tail}
		checkJwsRead(t, "too long a Body with the Sig of "+what, long.text(), impl.JwsOut{Code: impl.ErrSyntax})
	}
}

func TestJwsReadOfPartsChangedBehindTheSigning(t *testing.T) {
	key := impl.PublicOf(6)
	all := map[string]rawRequest{
		"another's Key": {headOf(impl.PublicOf(7), 9, "order"), "body", ""},
		"the Key 4":     {headOf(4, 9, "order"), "body", ""},
		"Nonce 8":       {headOf(key, 8, "order"), "body", ""},
		"Nonce 0":       {headOf(key, 0, "order"), "body", ""},
		"Nonce MaxTime": {headOf(key, impl.MaxTime, "order"), "body", ""},
		"another Url":   {headOf(key, 9, "ordes"), "body", ""},
		"a Url less":    {headOf(key, 9, "orde"), "body", ""},
		"a Url more":    {headOf(key, 9, "orders"), "body", ""},
		"another Body":  {headOf(key, 9, "order"), "bodY", ""},
		"a Body less":   {headOf(key, 9, "order"), "bod", ""},
		"a Body more":   {headOf(key, 9, "order"), "body\x00", ""},
		"no Body":       {headOf(key, 9, "order"), "", ""},
		"a long Body":   {headOf(key, 9, "order"), mixedText(mostAsked), ""},
	}
	for what, r := range all {
		r.tail = plainRaw().tail
		checkJwsRead(t, "one changed to "+what, r.text(), impl.JwsOut{Code: impl.ErrSign})
	}
}

// A Sig that checks, but is not the one that JwsSign makes, is as good.
func TestJwsReadOfOtherPowers(t *testing.T) {
	for _, k := range []int64{0, 1, 2, 12345, impl.GroupQ - 1} {
		r := plainRaw()
		s := standardSign(6, k, r.asked())
		r.tail = standardNum(s.E) + standardNum(s.S)
		want := impl.Jws{Key: impl.PublicOf(6), Nonce: 9, Url: "order", Body: "body", Sig: s}
		checkJwsRead(t, fmt.Sprint("one signed by the power ", k), r.text(), impl.JwsOut{Jws: want})
	}
}

func TestJwsReadOfOtherNumbersOfParts(t *testing.T) {
	plain := plainRaw()
	parts := strings.Split(plain.text(), ".")
	none := impl.JwsOut{Code: impl.ErrSyntax}
	for count := range 8 {
		checkJwsRead(t, fmt.Sprint(count, " points"), strings.Repeat(".", count), none)
		checkJwsRead(t, fmt.Sprint("parts of A, ", count), strings.Repeat("AA.", count)+"AA", none)
	}
	for at := range parts {
		checkJwsRead(t, "one part", parts[at], none)
		checkJwsRead(t, "two parts", strings.Join(slices.Delete(slices.Clone(parts), at, at+1), "."), none)
		for _, more := range append(parts, "", "AA", standardSigns("body")) {
			checkJwsRead(t, "four parts", strings.Join(slices.Insert(slices.Clone(parts), at, more), "."), none)
			checkJwsRead(t, "four parts", plain.text()+"."+more, none)
			checkJwsRead(t, "five parts", plain.text()+"."+more+"."+more, none)
		}
		empty := slices.Clone(parts)
		empty[at] = ""
		text := strings.Join(empty, ".")
		checkJwsRead(t, "an empty part", text, standardJwsRead(text))
	}
	for _, mark := range []string{"", ",", "..", " ", "\n", ". ", " .", ":", "-", "\xff", "\u3002", "\u2024"} {
		checkJwsRead(t, fmt.Sprintf("parts with %q between", mark), strings.Join(parts, mark), none)
	}
	for _, row := range [][]int{{0, 2, 1}, {1, 0, 2}, {1, 2, 0}, {2, 0, 1}, {2, 1, 0}, {0, 0, 2}, {0, 1, 0}, {1, 1, 1}} {
		text := parts[row[0]] + "." + parts[row[1]] + "." + parts[row[2]]
		checkJwsRead(t, "parts in another row", text, standardJwsRead(text))
	}
}

// Parts that are no Base64 are no parts, even where they are signed as they stand.
func TestJwsReadOfPartsThatAreNoBase64(t *testing.T) {
	// Each part has, in its last sign, bits behind its last byte.
	r := rawRequest{head: headOf(4, 9, "order"), body: "body"}.signed(1)
	signed := strings.Split(r.text(), ".")
	for at := range signed {
		part := signed[at]
		others := []string{part + "=", part + "==", part + "A", part + "AA", part + "AAAA", part + " ", part + "\n", part + "\r\n", " " + part, "\n" + part, "A" + part,
			part[:len(part)-1], part[1:], part + "é", strings.ToUpper(part), part[:2] + "\n" + part[2:], part[:2] + "\xff" + part[2:], part[:2] + "+" + part[3:], part[:2] + "/" + part[3:]}
		last := strings.IndexByte(allSigns, part[len(part)-1])
		for by := 1; by < 16; by++ {
			others = append(others, part[:len(part)-1]+allSigns[last^by:last^by+1])
		}
		for _, other := range others {
			parts := slices.Clone(signed)
			parts[at] = other
			text := strings.Join(parts, ".")
			checkJwsRead(t, fmt.Sprintf("the part %d as %q", at, other), text, standardJwsRead(text))
			if at == 2 {
				continue
			}
			parts[2] = standardSigns(tailOf(1, parts[0]+"."+parts[1]))
			text = strings.Join(parts, ".")
			want := standardJwsRead(text)
			if want.Code == impl.ErrSign {
				t.Errorf("what is signed does not check: %q", text)
			}
			checkJwsRead(t, fmt.Sprintf("the part %d as %q, signed", at, other), text, want)
		}
	}
}

// someRequests differ in how long their parts are, and how many bits are left behind these.
func someRequests() map[string]string {
	all := map[string]string{"the shortest": impl.JwsSign(1, 0, "a", ""), "a long one": impl.JwsSign(impl.GroupQ-1, impl.MaxTime, strings.Repeat("u", 40), mixedText(40))}
	for size := range 3 {
		all[fmt.Sprint("a Body of ", size)] = impl.JwsSign(1001, 9, "order"[:3+size], mixedText(size))
	}
	return all
}

func TestJwsReadOfOnesThatAreCutOrGoOn(t *testing.T) {
	for what, text := range someRequests() {
		checkJwsRead(t, what, text, standardJwsRead(text))
		if impl.JwsRead(text).Code != impl.OK {
			t.Errorf("%s is refused", what)
		}
		for cut := range len(text) {
			checkJwsRead(t, what+", cut", text[:cut], standardJwsRead(text[:cut]))
			checkJwsRead(t, what+", begun later", text[cut+1:], standardJwsRead(text[cut+1:]))
			if impl.JwsRead(text[:cut]).Code == impl.OK || impl.JwsRead(text[cut+1:]).Code == impl.OK {
				t.Errorf("%s is taken, cut at %d", what, cut)
			}
		}
		for n := range 256 {
			b := string([]byte{byte(n)})
			checkJwsRead(t, what+", with a byte behind", text+b, standardJwsRead(text+b))
			checkJwsRead(t, what+", with a byte ahead", b+text, standardJwsRead(b+text))
		}
		for _, more := range []string{".", "AA", "AAAA", ".AAAA", text, "." + text} {
			checkJwsRead(t, what+", with more behind", text+more, impl.JwsOut{Code: impl.ErrSyntax})
			checkJwsRead(t, what+", with more ahead", more+text, impl.JwsOut{Code: impl.ErrSyntax})
		}
	}
}

// Each byte is left out, doubled, and changed.
func TestJwsReadOfOnesWithAByteChanged(t *testing.T) {
	for what, text := range someRequests() {
		check := func(how string, text string) {
			t.Helper()
			want := standardJwsRead(text)
			if want.Code == impl.OK {
				t.Errorf("%s, %s, is still one: %q", what, how, text)
			}
			checkJwsRead(t, what+", "+how, text, want)
		}
		for at := range len(text) {
			check("a byte left out", text[:at]+text[at+1:])
			check("a byte doubled", text[:at+1]+text[at:])
			for _, other := range []string{"A", "B", "Q", "g", "w", "_", "-", ".", "=", "+", "/", " ", "\n", "\x00", "\xff", "é"} {
				if other != text[at:at+1] {
					check("a byte changed", text[:at]+other+text[at+1:])
				}
				check("a byte more", text[:at]+other+text[at:])
			}
			if at > 0 && text[at] != text[at-1] {
				check("two bytes changed round", text[:at-1]+text[at:at+1]+text[at-1:at]+text[at+1:])
			}
		}
	}
}

func TestJwsReadOfEachByte(t *testing.T) {
	text := impl.JwsSign(6, 9, "ask", "\x02")
	told := map[int64]int{}
	for at := range len(text) {
		for n := range 256 {
			b := []byte(text)
			b[at] = byte(n)
			want := standardJwsRead(string(b))
			checkJwsRead(t, "the plain one, changed", string(b), want)
			told[want.Code]++
		}
	}
	// Itself once at each place, and nothing else, as whatever is changed was signed.
	if told[impl.OK] != len(text) || told[impl.ErrSign] == 0 || told[impl.ErrSyntax] == 0 {
		t.Errorf("the changed ones tell %v", told)
	}
}

func TestJwsReadOfOtherTexts(t *testing.T) {
	none, long := impl.JwsOut{Code: impl.ErrSyntax}, impl.JwsOut{Code: impl.ErrSize}
	for _, text := range textsOf("A.CQ=\x00\xff", 5) {
		checkJwsRead(t, "some bytes", text, none)
	}
	plain := plainRaw().text()
	for _, fill := range []string{"A", ".", "\x00", "\xff", "="} {
		ahead := strings.Repeat(fill, impl.MaxBytes-len(plain))
		for _, text := range []string{plain + ahead, ahead + plain, strings.Repeat(fill, impl.MaxBytes)} {
			checkJwsRead(t, "MaxBytes bytes", text, none)
			checkJwsRead(t, "one more", text+fill, long)
			checkJwsRead(t, "one more ahead", fill+text, long)
			checkJwsRead(t, "MaxBytes more", text+text, long)
		}
	}
	r := rawRequest{head: plainRaw().head, body: mixedText(14900)}.signed(6)
	checkJwsRead(t, "a Body that just fits into MaxBytes bytes", r.text(), none)
	r.body = mixedText(15000)
	checkJwsRead(t, "a Body that does not", r.signed(6).text(), long)
	for _, text := range []string{impl.CertBytes(plainCert()), impl.CsrBytes(plainCsr()), mixedText(impl.MaxBytes), strings.Repeat("AAAA.", impl.MaxBytes/5), strings.Repeat("\U0001f600", impl.MaxBytes/4)} {
		checkJwsRead(t, "another text", text, none)
	}
}

func TestRequestsAreNewMemory(t *testing.T) {
	url, body := strings.Repeat("u", 40), mixedText(mostAsked)
	text := impl.JwsSign(6, 9, url, body)
	got := impl.JwsRead(text)
	if got.Jws.Url != url || got.Jws.Body != body {
		t.Fatalf("JwsRead: got %+v", got)
	}
	if shares(text, url) || shares(text, body) || shares(got.Jws.Url, text) || shares(got.Jws.Body, text) {
		t.Errorf("what was handed in is handed out")
	}
	for range 2 {
		checkJwsSign(t, "the same again", impl.JwsSign(6, 9, url, body), text)
		checkJwsRead(t, "the same again", text, got)
	}
}
