package tests

import (
	"encoding/hex"
	"fmt"
	"math"
	"math/rand"
	"slices"
	"strings"
	"testing"

	"loop.example/g00371/impl"
)

// deed is something that is done with an office.
type deed struct {
	name string
	// kept is what its record tells.
	kept string
	// acme is the call of chapter 11, office that of chapter 12; plain does what the document's sentences say.
	acme   func(a impl.Acme) impl.AcmeOut
	office func(o impl.Office, secret int64) impl.OfficeOut
	plain  func(a impl.Acme) impl.AcmeOut
}

func nonceDeed() deed {
	return deed{name: "NewNonce", kept: "\x4e", acme: impl.NewNonce, office: impl.OfficeNonce, plain: plainNonce}
}

func tickDeed(n int64) deed {
	return deed{
		name:   fmt.Sprint("Tick ", n),
		kept:   "\x54" + standardNum(n),
		acme:   func(a impl.Acme) impl.AcmeOut { return impl.Tick(a, n) },
		office: func(o impl.Office, secret int64) impl.OfficeOut { return impl.OfficeTick(o, secret, n) },
		plain:  func(a impl.Acme) impl.AcmeOut { return plainTick(a, n) },
	}
}

func probeDeed(auth int64, good bool) deed {
	last := standardNum(0)
	if good {
		last = standardNum(1)
	}
	return deed{
		name:   fmt.Sprint("Probe ", auth, good),
		kept:   "\x50" + standardNum(auth) + last,
		acme:   func(a impl.Acme) impl.AcmeOut { return impl.Probe(a, auth, good) },
		office: func(o impl.Office, secret int64) impl.OfficeOut { return impl.OfficeProbe(o, secret, auth, good) },
		plain:  func(a impl.Acme) impl.AcmeOut { return plainProbe(a, auth, good) },
	}
}

func handleDeed(what string, text string) deed {
	return deed{
		name:   "Handle of " + what,
		kept:   "\x48" + textBody(text),
		acme:   handleOf(text),
		office: func(o impl.Office, secret int64) impl.OfficeOut { return impl.OfficeHandle(o, secret, text) },
		plain:  func(a impl.Acme) impl.AcmeOut { return plainHandle(a, text) },
	}
}

// askDeed is a request that a secret signs.
func askDeed(secret int64, nonce int64, url string, body string) deed {
	return handleDeed(fmt.Sprint(secret, ", ", nonce, ", ", url), impl.JwsSign(secret, nonce, url, body))
}

// longer is a number written with a byte of 0 more.
func longer(number string) string {
	last := len(number) - 1
	return number[:last] + string([]byte{number[last] | 128, 0})
}

func plainShort(text string) string {
	return hex.EncodeToString([]byte(standardDigest(text)))[:8]
}

// recordOf is the bytes of a record of what was done, be that something or not.
func recordOf(kept string) string {
	return textBody(kept) + textBody(plainShort(kept))
}

// isNone tells if there is no Acme.
func isNone(a impl.Acme) bool {
	return sameAcme(a, impl.Acme{})
}

// history is what was done with an office: the Acme and the Log's length from AcmeNew on, and behind each record.
type history struct {
	log   string
	acmes []impl.Acme
	ends  []int64
}

func newHistory(secret int64) *history {
	return &history{acmes: []impl.Acme{{Secret: secret, Next: 2}}, ends: []int64{0}}
}

func (h *history) acme() impl.Acme {
	return h.acmes[len(h.acmes)-1]
}

// add does a deed as the document's sentences say, and keeps it, if there is an Acme then.
func (h *history) add(one deed) impl.AcmeOut {
	out := one.plain(h.acme())
	if !isNone(out.Acme) {
		h.log += recordOf(one.kept)
		h.acmes = append(h.acmes, out.Acme)
		h.ends = append(h.ends, int64(len(h.log)))
	}
	return out
}

func (h *history) office() impl.Office {
	return impl.Office{Log: h.log, Synced: int64(len(h.log))}
}

// upTo is how many records end at that place at most.
func (h *history) upTo(at int64) int {
	count := 0
	for count+1 < len(h.ends) && h.ends[count+1] <= at {
		count++
	}
	return count
}

// someHistory has each kind of record, and requests that are refused once their nonce is taken.
func someHistory(t *testing.T) *history {
	t.Helper()
	h := newHistory(office)
	add := func(one deed, code int64) {
		t.Helper()
		if out := h.add(one); out.Code != code {
			t.Fatalf("%s: the test's own history tells the code %d, not %d", one.name, out.Code, code)
		}
	}
	asked := func(secret int64, url string, body string, code int64) {
		t.Helper()
		add(nonceDeed(), impl.OK)
		add(askDeed(secret, h.acme().Next-1, url, body), code)
	}
	asked(ann, "account", "", impl.OK)
	asked(bob, "account", "", impl.OK)
	asked(ann, "order", namesBody("aa"), impl.OK)
	asked(ann, "ask", standardNum(0), impl.OK)
	add(tickDeed(7), impl.OK)
	add(probeDeed(0, true), impl.OK)
	asked(ann, "order", namesBody("aa", "bb"), impl.OK)
	asked(ann, "ask", standardNum(1), impl.OK)
	add(probeDeed(1, false), impl.OK)
	asked(bob, "finish", finishBody(0, csrOf(9, "aa")), impl.ErrNone)
	asked(ann, "finish", finishBody(0, csrOf(9, "aa")), impl.OK)
	asked(ann, "state", standardNum(1), impl.OK)
	asked(ann, "finish", finishBody(1, csrOf(9, "aa", "bb")), impl.ErrState)
	add(tickDeed(0), impl.OK)
	asked(ann, "revoke", standardNum(h.acme().Issued[0].Cert.Serial), impl.OK)
	asked(ann, "revoke", standardNum(h.acme().Issued[0].Cert.Serial), impl.ErrRevoked)
	asked(ann, "none", "", impl.ErrSyntax)
	asked(bob, "close", "", impl.OK)
	add(nonceDeed(), impl.OK)
	return h
}

// askedHistory is one with an Auth that is asked, and the nonces 5 and 6, which are not taken.
func askedHistory(t *testing.T) *history {
	t.Helper()
	h := newHistory(office)
	for _, one := range []deed{
		nonceDeed(), askDeed(ann, 2, "account", ""), nonceDeed(), askDeed(ann, 3, "order", namesBody("aa")),
		nonceDeed(), askDeed(ann, 4, "ask", standardNum(0)), nonceDeed(), nonceDeed(),
	} {
		if out := h.add(one); out.Code != impl.OK {
			t.Fatalf("%s: the test's own history tells the code %d", one.name, out.Code)
		}
	}
	return h
}

// logOfSize is a log of so many bytes, of nonces (11 bytes each) and of ticks of 0 (12 bytes each).
func logOfSize(size int) string {
	nonces := (12-size%12)%12 + 12
	return strings.Repeat(recordOf("\x4e"), nonces) + strings.Repeat(recordOf("\x54\x00"), (size-11*nonces)/12)
}

// plainReplay goes through a log as the document's sentences say.
func plainReplay(secret int64, log string) impl.ReplayOut {
	if len(log) > 20000 {
		return impl.ReplayOut{Code: impl.ErrSize}
	}
	if secret < 1 || secret >= impl.GroupQ {
		return impl.ReplayOut{Code: impl.ErrForm}
	}
	a, left := impl.Acme{Secret: secret, Next: 2}, log
	for left != "" {
		kept, behind, ok := cutText(left)
		sum, behind, there := cutText(behind)
		if !ok || !there || sum != plainShort(kept) {
			break
		}
		out := plainRedo(a, kept)
		if isNone(out.Acme) {
			break
		}
		a, left = out.Acme, behind
	}
	return impl.ReplayOut{Acme: a, At: int64(len(log) - len(left))}
}

func plainRedo(a impl.Acme, kept string) impl.AcmeOut {
	if kept == "\x4e" {
		return plainNonce(a)
	}
	if kept == "" {
		return impl.AcmeOut{}
	}
	if text, behind, ok := cutText(kept[1:]); kept[0] == 72 && ok && behind == "" {
		return plainHandle(a, text)
	}
	n, behind, ok := cutNumber(kept[1:])
	if kept[0] == 84 && ok && behind == "" {
		return plainTick(a, n)
	}
	if kept[0] == 80 && ok && (behind == "\x00" || behind == "\x02") {
		return plainProbe(a, n, behind == "\x02")
	}
	return impl.AcmeOut{}
}

func checkReplay(t *testing.T, what string, secret int64, log string, want impl.ReplayOut) {
	t.Helper()
	got := impl.Replay(secret, log)
	if got.At != want.At || got.Code != want.Code || !sameAcme(got.Acme, want.Acme) {
		t.Errorf("Replay of %s: got %+v, want %+v", what, got, want)
	}
	checkNew(t, "Replay of "+what, got, log)
}

// checkStops checks that a log that is gone through up to the end of a history is gone through no more there.
func checkStops(t *testing.T, what string, h *history, behind string) {
	t.Helper()
	want := impl.ReplayOut{Acme: h.acme(), At: int64(len(h.log))}
	checkReplay(t, what, office, h.log+behind, want)
	checkReplay(t, what+", and a record", office, h.log+behind+recordOf("\x4e"), want)
	if impl.OfficeRight(impl.Office{Log: h.log + behind}, office) {
		t.Errorf("OfficeRight of %s: got true", what)
	}
	if got := impl.OfficeRecover(impl.Office{Log: h.log + behind}, office); got != h.office() {
		t.Errorf("OfficeRecover of %s: got %+v", what, got)
	}
}

func TestReplayOfSecrets(t *testing.T) {
	h := askedHistory(t)
	for _, secret := range someSecrets() {
		want := h.acme()
		want.Secret = secret
		checkReplay(t, fmt.Sprint("the secret ", secret), secret, h.log, impl.ReplayOut{Acme: want, At: int64(len(h.log))})
		checkReplay(t, fmt.Sprint("the secret ", secret, ", the empty log"), secret, "", impl.ReplayOut{Acme: impl.Acme{Secret: secret, Next: 2}})
	}
	for _, secret := range noSecrets() {
		for what, log := range map[string]string{"the empty log": "", "a log": h.log, "no log": "x", "MaxBytes": logOfSize(20000)} {
			checkReplay(t, fmt.Sprint(what, ", the secret ", secret), secret, log, impl.ReplayOut{Code: impl.ErrForm})
		}
		for _, log := range []string{logOfSize(20001), strings.Repeat("x", 20001)} {
			checkReplay(t, fmt.Sprint("a log too long, the secret ", secret), secret, log, impl.ReplayOut{Code: impl.ErrSize})
		}
	}
}

func TestReplayOfLongLogs(t *testing.T) {
	for _, size := range []int{19988, 19989, 19999, 20000} {
		log := logOfSize(size)
		want := plainReplay(office, log)
		if want.At != int64(size) {
			t.Fatalf("the test's own log of %d bytes is gone through up to %d", size, want.At)
		}
		checkReplay(t, fmt.Sprint(size, " bytes"), office, log, want)
	}
	for _, size := range []int{20001, 20002, 20011, 40000} {
		checkReplay(t, fmt.Sprint(size, " bytes"), office, logOfSize(size), impl.ReplayOut{Code: impl.ErrSize})
	}
	checkReplay(t, "MaxBytes bytes of none", office, strings.Repeat("x", 20000), impl.ReplayOut{Acme: impl.AcmeNew(office)})
	checkReplay(t, "more bytes of none", office, strings.Repeat("x", 20001), impl.ReplayOut{Code: impl.ErrSize})
}

// The bytes of each kind, written out.
func TestReplayOfEachRecord(t *testing.T) {
	checkReplay(t, "a nonce", office, "\x02N\x108ce86a6a", impl.ReplayOut{Acme: impl.Acme{Secret: office, Next: 3, Nonces: []int64{2}}, At: 11})
	checkReplay(t, "a tick", office, "\x04T\x0e\x10"+plainShort("T\x0e"), impl.ReplayOut{Acme: impl.Acme{Secret: office, Next: 2, Clock: 7}, At: 12})
	checkReplay(t, "the longest tick", office, recordOf("T"+standardNum(100000)), impl.ReplayOut{Acme: impl.Acme{Secret: office, Next: 2, Clock: 100000}, At: 14})
	h := askedHistory(t)
	for last, status := range map[string]int64{"\x00": 4, "\x02": 3} {
		want := cloneAcme(h.acme())
		want.Auths[0].Status = status
		if status == 3 {
			want.Auths[0].Until = 100
		}
		checkReplay(t, "a probe", office, h.log+"\x06P\x00"+last+"\x10"+plainShort("P\x00"+last), impl.ReplayOut{Acme: want, At: int64(len(h.log)) + 13})
	}
	request := impl.JwsSign(bob, 5, "account", "")
	log := h.log + recordOf("H"+standardNum(int64(len(request)))+request)
	want := cloneAcme(h.acme())
	want.Nonces, want.Accounts = []int64{6}, append(want.Accounts, account(bob, true))
	checkReplay(t, "a request", office, log, impl.ReplayOut{Acme: want, At: int64(len(log))})
}

// Promise 14: what was done is found again, at each record, and wherever the log is cut.
func TestReplayOfALogThatIsCut(t *testing.T) {
	h := someHistory(t)
	for cut := range len(h.log) + 1 {
		count := h.upTo(int64(cut))
		checkReplay(t, fmt.Sprint("a log cut at ", cut), office, h.log[:cut], impl.ReplayOut{Acme: h.acmes[count], At: h.ends[count]})
	}
	if want := plainReplay(office, h.log); want.At != int64(len(h.log)) || !sameAcme(want.Acme, h.acme()) {
		t.Errorf("the test's own log is gone through up to %d of %d", want.At, len(h.log))
	}
}

func TestReplayOfALogThatIsChanged(t *testing.T) {
	h := someHistory(t)
	for at := range len(h.log) {
		count := h.upTo(int64(at))
		for _, other := range []byte{h.log[at] ^ 1, h.log[at] ^ 0x20, h.log[at] ^ 0x80} {
			log := h.log[:at] + string([]byte{other}) + h.log[at+1:]
			checkReplay(t, fmt.Sprint("a log with ", other, " at ", at), office, log, impl.ReplayOut{Acme: h.acmes[count], At: h.ends[count]})
		}
	}
	short := newHistory(office)
	for _, one := range []deed{nonceDeed(), tickDeed(100), nonceDeed()} {
		short.add(one)
	}
	for at := range len(short.log) {
		count := short.upTo(int64(at))
		for _, other := range []byte(allBytes()) {
			if other != short.log[at] {
				log := short.log[:at] + string([]byte{other}) + short.log[at+1:]
				checkReplay(t, fmt.Sprint("a short log with ", other, " at ", at), office, log, impl.ReplayOut{Acme: short.acmes[count], At: short.ends[count]})
			}
		}
	}
}

func TestReplayOfWhatIsNoRecord(t *testing.T) {
	h := askedHistory(t)
	for _, b := range []byte(allBytes()) {
		one := string([]byte{b})
		checkStops(t, fmt.Sprint("the byte ", b, " behind"), h, one)
		if !strings.Contains("N", one) {
			checkStops(t, fmt.Sprint("a record of the byte ", b), h, recordOf(one))
		}
		if !strings.Contains("T", one) {
			checkStops(t, fmt.Sprint("a record of the byte ", b, " and a number"), h, recordOf(one+"\x00"))
		}
		if !strings.Contains("P", one) {
			checkStops(t, fmt.Sprint("a record of the byte ", b, " and two numbers"), h, recordOf(one+"\x00\x02"))
		}
		if !strings.Contains("H", one) {
			checkStops(t, fmt.Sprint("a record of the byte ", b, " and a request"), h, recordOf(one+textBody(impl.JwsSign(ann, 5, "account", ""))))
		}
	}
	nonce, sum := textBody("N"), plainShort("N")
	for what, behind := range map[string]string{
		"the empty text": recordOf(""), "bytes behind": strings.Repeat("x", 300), "no digest": nonce, "an empty digest": nonce + "\x00",
		"a digest of another": nonce + textBody(plainShort("T\x00")), "a digest of nothing": nonce + textBody(plainShort("")),
		"a digest of its bytes": nonce + textBody(plainShort(nonce)), "a shorter digest": nonce + textBody(sum[:7]), "a longer digest": nonce + textBody(sum+"0"),
		"a digest with bytes behind": nonce + textBody(hex.EncodeToString([]byte(standardDigest("N")))), "the digest's bytes": nonce + textBody(standardDigest("N")[:4]),
		"a digest in capitals": nonce + textBody(strings.ToUpper(sum)), "a digest without its length": nonce + sum, "a digest ahead": textBody(sum) + nonce,
		"a text with its digest": textBody("N" + sum), "both in one text": textBody(nonce + textBody(sum)), "a longer length": "\x82\x00N" + textBody(sum),
		"a longer length of the digest": nonce + "\x90\x00" + sum, "a length below 0": "\x01" + recordOf("N"), "a length beyond its end": "\x7e" + recordOf("N"),
		"a length of ten bytes": standardNum(math.MaxInt64) + "N", "a length of eleven bytes": strings.Repeat("\xff", 10) + "\x01",
	} {
		checkStops(t, what, h, behind)
	}
}

func TestReplayOfWhatWasNeverDone(t *testing.T) {
	h := askedHistory(t)
	request := impl.JwsSign(ann, 5, "account", "")
	for what, kept := range map[string]string{
		"a nonce and a byte": "N\x00", "a nonce and a nonce": "NN", "a nonce and a number": "N\x04",
		"a tick of nothing": "T", "a tick and a byte": "T\x00\x00", "a longer tick": "T" + longer(standardNum(0)), "a longer tick of 7": "T" + longer(standardNum(7)), "a tick that ends early": "T\x80",
		"a tick of eleven bytes": "T" + strings.Repeat("\x80", 10) + "\x01",
		"a probe of nothing":     "P", "a probe of an Auth": "P\x00", "a probe and a byte": "P\x00\x02\x00", "a probe of 2": "P\x00\x04", "a probe of -1": "P\x00\x01",
		"a probe of 128": "P\x00\x80\x02", "a probe of 2^32 and 1": "P\x00" + standardNum(1<<32+1), "the greatest probe": "P\x00" + standardNum(math.MaxInt64),
		"a longer probe of 0": "P\x00\x80\x00", "a longer probe of 1": "P\x00\x82\x00", "a probe of a longer Auth": "P\x80\x00\x02", "a probe that ends early": "P\x00\x82",
		"a request of nothing": "H", "a request that ends early": "H" + textBody(request)[:len(request)], "a request and a byte": "H" + textBody(request) + "\x00",
		"a request and a request": "H" + textBody(request) + textBody(request), "a request's longer length": "H" + longer(standardNum(int64(len(request)))) + request,
		"a request without its length": "H" + request, "a request's length of one byte more": "H" + standardNum(int64(len(request))+1) + request,
		"a request's length of one byte less": "H" + standardNum(int64(len(request))-1) + request,
	} {
		checkStops(t, what, h, recordOf(kept))
	}
}

// Each of these tells a code without an Acme.
func TestReplayOfWhatToldNoAcme(t *testing.T) {
	h := askedHistory(t)
	for code, all := range map[int64][]deed{
		impl.ErrForm:   {tickDeed(-1), tickDeed(100001), tickDeed(math.MinInt64), tickDeed(math.MaxInt64)},
		impl.ErrNone:   {probeDeed(-1, true), probeDeed(1, true), probeDeed(1, false), probeDeed(math.MaxInt64, false), probeDeed(math.MinInt64, true)},
		impl.ErrSyntax: {handleDeed("nothing", ""), handleDeed("no request", "x"), handleDeed("a byte more", impl.JwsSign(ann, 5, "account", "")+"A")},
		impl.ErrSign:   {handleDeed("another's Sig", rawOf(impl.Jws{Key: impl.PublicOf(ann), Nonce: 5, Url: "account"}).signed(bob).text())},
		impl.ErrNonce:  {askDeed(ann, 2, "account", ""), askDeed(ann, 4, "ask", standardNum(0)), askDeed(ann, 7, "account", ""), askDeed(ann, 0, "close", "")},
	} {
		for _, one := range all {
			if out := one.plain(h.acme()); out.Code != code || !isNone(out.Acme) {
				t.Fatalf("%s: the test's own code is %d, not %d", one.name, out.Code, code)
			}
			checkStops(t, one.name, h, recordOf(one.kept))
		}
	}
	for range 9 {
		h.add(tickDeed(100000))
	}
	if out := h.add(tickDeed(1)); out.Code != impl.ErrFull {
		t.Fatalf("the test's own Clock is %d", h.acme().Clock)
	}
	checkStops(t, "a tick behind the last Clock", h, recordOf(tickDeed(1).kept))
	checkStops(t, "a probe of what is too late", h, recordOf(probeDeed(0, true).kept))
}

// Each of these tells a code with an Acme, and the log is gone on with.
func TestReplayOfWhatWasRefused(t *testing.T) {
	for code, all := range map[int64][]deed{
		impl.ErrSyntax: {askDeed(ann, 5, "none", ""), askDeed(ann, 5, "account", "x"), askDeed(ann, 5, "order", namesBody("bb", "aa")), askDeed(ann, 5, "ask", "")},
		impl.ErrNone:   {askDeed(bob, 5, "close", ""), askDeed(bob, 5, "ask", standardNum(0)), askDeed(ann, 5, "ask", standardNum(1)), askDeed(ann, 5, "revoke", standardNum(1))},
		impl.ErrState:  {askDeed(ann, 5, "ask", standardNum(0)), askDeed(ann, 5, "finish", finishBody(0, csrOf(9, "aa")))},
	} {
		for _, one := range all {
			h := askedHistory(t)
			if out := h.add(one); out.Code != code || !slices.Equal(out.Acme.Nonces, []int64{6}) {
				t.Fatalf("%s: the test's own code is %d, not %d", one.name, out.Code, code)
			}
			checkReplay(t, one.name, office, h.log, impl.ReplayOut{Acme: h.acme(), At: int64(len(h.log))})
			h.add(tickDeed(3))
			checkReplay(t, one.name+", then a tick", office, h.log, impl.ReplayOut{Acme: h.acme(), At: int64(len(h.log))})
			checkStops(t, one.name+", then it once more", h, recordOf(one.kept))
		}
	}
}

// piecesOfLogs are records, right and wrong ones, and what is none.
func piecesOfLogs() []string {
	all := []string{
		"", "N", "\x02N\x10", recordOf("N"), recordOf("NN"), recordOf(""), recordOf("T"), recordOf("P\x00"), recordOf("H"), recordOf("H\x00"), recordOf("P\x00\x04"),
		strings.Repeat("\xff", 12), recordOf("N")[:10], recordOf("N")[1:],
	}
	for _, n := range []int64{0, 1, 64, 99999, 100000, 100001, -1, math.MaxInt64} {
		all = append(all, recordOf(tickDeed(n).kept), recordOf(probeDeed(n, true).kept), recordOf(probeDeed(n, false).kept))
	}
	for nonce := range int64(8) {
		for _, secret := range []int64{ann, bob} {
			all = append(all, recordOf(askDeed(secret, nonce, "account", "").kept), recordOf(askDeed(secret, nonce, "order", namesBody("aa")).kept),
				recordOf(askDeed(secret, nonce, "ask", standardNum(0)).kept), recordOf(askDeed(secret, nonce, "none", "").kept))
		}
	}
	return all
}

// Any text is answered as the document's sentences say, and nothing panics.
func TestReplayOfAnyText(t *testing.T) {
	r := rand.New(rand.NewSource(14))
	pieces, good := piecesOfLogs(), someHistory(t)
	far := 0
	for range 3000 {
		log := good.log[:good.ends[r.Intn(len(good.ends))]*int64(r.Intn(2))]
		for range r.Intn(12) {
			log += pieces[r.Intn(len(pieces))]
			if r.Intn(2) == 0 {
				log += recordOf("N")
			}
		}
		if r.Intn(4) == 0 && log != "" {
			at := r.Intn(len(log))
			log = log[:at] + string([]byte{byte(r.Intn(256))}) + log[at+1:]
		}
		want := plainReplay(office, log)
		if want.At > 0 && want.At < int64(len(log)) {
			far++
		}
		checkReplay(t, fmt.Sprintf("%q", log), office, log, want)
	}
	if far < 1000 {
		t.Errorf("just %d of the logs are gone through up to a place within", far)
	}
	for _, text := range slices.Concat(longTexts(), someTexts(), []string{allBytes(), mixedText(20000)}) {
		want := plainReplay(office, text)
		checkReplay(t, firstBytes(text), office, text, want)
	}
}
