package tests

import (
	"fmt"
	"math/rand"
	"slices"
	"testing"

	"loop.example/g00371/impl"
)

func plainNonce(a impl.Acme) impl.AcmeOut {
	if a.Next == 900000 {
		return impl.AcmeOut{Code: impl.ErrFull}
	}
	a = cloneAcme(a)
	a.Nonces = append(a.Nonces, a.Next)
	a.Nonces = a.Nonces[max(0, len(a.Nonces)-8):]
	a.Next++
	return impl.AcmeOut{Acme: a, N: a.Next - 1}
}

func plainTick(a impl.Acme, n int64) impl.AcmeOut {
	if n < 0 || n > 100000 {
		return impl.AcmeOut{Code: impl.ErrForm}
	}
	if a.Clock+n > 900000 {
		return impl.AcmeOut{Code: impl.ErrFull}
	}
	a = cloneAcme(a)
	a.Clock += n
	return impl.AcmeOut{Acme: a}
}

func plainProbe(a impl.Acme, n int64, good bool) impl.AcmeOut {
	if n < 0 || n >= int64(len(a.Auths)) {
		return impl.AcmeOut{Code: impl.ErrNone}
	}
	if plainAuth(a, n) != 2 {
		return impl.AcmeOut{Code: impl.ErrState}
	}
	a = cloneAcme(a)
	a.Auths[n].Status = 4
	if good {
		a.Auths[n].Status, a.Auths[n].Until = 3, a.Clock+100
	}
	return impl.AcmeOut{Acme: a}
}

// walk goes from call to call with one office, as its source of numbers, the same each time, draws it.
type walk struct {
	t     *testing.T
	r     *rand.Rand
	a     impl.Acme
	asked []string
	// found are the Auths that were found by Probe, told how often each thing was told.
	found map[int64]bool
	told  map[string]int
	// then, if there is one, is called with each deed, and what it answers.
	then func(one deed, want impl.AcmeOut)
}

func (w *walk) draw(most int) int64 {
	return int64(w.r.Intn(most + 1))
}

func (w *walk) oneIn(count int) bool {
	return w.r.Intn(count) == 0
}

// pick draws a number, mostly one of those that are so, if there are any.
func (w *walk) pick(size int, so func(n int64) bool) int64 {
	var all []int64
	for n := range int64(size) {
		if so(n) {
			all = append(all, n)
		}
	}
	if len(all) == 0 || w.oneIn(4) {
		return w.draw(size)
	}
	return all[w.draw(len(all)-1)]
}

func (w *walk) isAt(account int64, secret int64) bool {
	return w.a.Accounts[account].Key == impl.PublicOf(secret)
}

func (w *walk) step() {
	switch k := w.draw(19); {
	case k < 3 || len(w.a.Nonces) == 0:
		w.call(nonceDeed())
	case k < 5:
		n := w.draw(6)
		if w.oneIn(16) {
			n = []int64{-1, 45, 110, 210, 100001}[w.draw(4)]
		}
		w.call(tickDeed(n))
	case k < 9:
		n, good := w.pick(len(w.a.Auths), func(n int64) bool { return plainAuth(w.a, n) == 2 }), !w.oneIn(8)
		if want := w.call(probeDeed(n, good)); good && want.Code == impl.OK {
			w.found[n] = true
		}
	default:
		w.handle()
	}
}

func (w *walk) handle() {
	secret := []int64{ann, ann, ann, bob, bob, cid, stranger}[w.draw(6)]
	url := []string{"account", "order", "order", "ask", "ask", "ask", "state", "finish", "finish", "finish", "revoke", "close", "none"}[w.draw(12)]
	if url == "close" && !w.oneIn(10) {
		url = "account"
	}
	nonce := w.draw(12)
	if len(w.a.Nonces) > 0 && !w.oneIn(10) {
		nonce = w.a.Nonces[w.draw(len(w.a.Nonces)-1)]
	}
	text := impl.JwsSign(secret, nonce, url, w.body(secret, url))
	if w.oneIn(40) {
		text = text[1:]
	}
	before := w.a
	want := w.call(handleDeed(fmt.Sprintf("%d, %s", secret, url), text))
	w.told[fmt.Sprint(url, " ", want.Code)]++
	if want.Code == impl.OK || !sameAcme(want.Acme, impl.Acme{}) {
		w.asked = append(w.asked, text)
	}
	if len(w.a.Issued) > len(before.Issued) {
		w.checkIssued(before, secret)
	}
}

func (w *walk) body(secret int64, url string) string {
	switch url {
	case "account", "close", "none":
		return ""
	case "order":
		var names []string
		for _, name := range []string{"aa", "bb", "cc", "dd", "ee", "ff"} {
			if w.oneIn(5) {
				names = append(names, name)
			}
		}
		return namesBody(names...)
	case "ask":
		return standardNum(w.pick(len(w.a.Auths), func(n int64) bool { return plainAuth(w.a, n) == 1 && w.isAt(w.a.Auths[n].Account, secret) }))
	case "revoke":
		own := func(n int64) bool { return w.isAt(w.a.Issued[n].Account, secret) }
		if n := w.pick(len(w.a.Issued), own); n < int64(len(w.a.Issued)) && !w.oneIn(3) {
			return standardNum(w.a.Issued[n].Cert.Serial)
		}
		return standardNum(w.draw(40))
	}
	n := w.pick(len(w.a.Orders), func(n int64) bool { return plainOrder(w.a, n) == 2 && w.isAt(w.a.Orders[n].Account, secret) })
	if url == "state" || n == int64(len(w.a.Orders)) {
		return standardNum(n)
	}
	var names []string
	for _, k := range w.a.Orders[n].Auths {
		names = append(names, w.a.Auths[k].Name)
	}
	slices.Sort(names)
	if w.oneIn(12) {
		names[0] += "-"
	}
	asks := []int64{100 + n, 200 + n, 300 + n, 400 + n, secret}
	csr := csrOf(asks[w.draw(len(asks)-1)], names...)
	if w.oneIn(12) {
		csr = csr[:len(csr)-1]
	}
	return finishBody(n, csr)
}

// call checks a deed, goes on with what it answered, if that is an office, and tells what was to be answered.
func (w *walk) call(one deed) impl.AcmeOut {
	w.t.Helper()
	before := w.a
	want := one.plain(before)
	got := checkCall(w.t, one.name, before, one.acme, want)
	w.told[fmt.Sprint("code ", got.Code)]++
	if w.then != nil {
		w.then(one, want)
	}
	if !impl.AcmeRight(got.Acme) {
		return want
	}
	w.a = got.Acme
	w.checkKept(before)
	w.checkGood()
	return want
}

// checkKept: what was issued stays, and stays revoked; a request that was taken once is taken no more.
func (w *walk) checkKept(before impl.Acme) {
	w.t.Helper()
	for i, one := range before.Issued {
		if i >= len(w.a.Issued) || !sameCert(w.a.Issued[i].Cert, one.Cert) || w.a.Issued[i].Account != one.Account || one.Revoked && !w.a.Issued[i].Revoked {
			w.t.Fatalf("the paper %d did not stay: %+v, then %+v", one.Cert.Serial, before.Issued, w.a.Issued)
		}
	}
	for range min(3, len(w.asked)) {
		if got := impl.Handle(w.a, w.asked[w.draw(len(w.asked)-1)]); got.Code != impl.ErrNonce {
			w.t.Fatalf("a request was taken twice: the code %d", got.Code)
		}
	}
}

// checkIssued: just the names of an order of the account that asked, each found to be its own.
func (w *walk) checkIssued(before impl.Acme, secret int64) {
	w.t.Helper()
	last := w.a.Issued[len(w.a.Issued)-1]
	at := slices.IndexFunc(w.a.Orders, func(o impl.Order) bool { return o.Serial == last.Cert.Serial })
	if len(w.a.Issued) != len(before.Issued)+1 || at < 0 || w.a.Accounts[last.Account] != account(secret, true) || before.Orders[at].Status == 3 {
		w.t.Fatalf("the paper %+v has no order of its own", last)
	}
	o := w.a.Orders[at]
	left := slices.Clone(last.Cert.Names)
	for _, n := range o.Auths {
		one := before.Auths[n]
		if !w.found[n] || one.Account != last.Account || o.Account != last.Account || one.Until < before.Clock || one.Status != 3 {
			w.t.Fatalf("the paper %+v has a name that was not found: %+v", last, one)
		}
		left = slices.DeleteFunc(left, func(name string) bool { return name == one.Name })
	}
	if len(left) > 0 || len(last.Cert.Names) != len(o.Auths) {
		w.t.Fatalf("the paper %+v has other names than its order", last)
	}
	w.told["papers"]++
}

// checkGood: by the root and the list each paper is good at the clock, just if that is within its times, and
// it was not taken back.
func (w *walk) checkGood() {
	w.t.Helper()
	root, list := impl.AcmeRoot(w.a), impl.AcmeCrl(w.a)
	for _, one := range w.a.Issued {
		want := int64(impl.OK)
		if one.Revoked {
			want = impl.ErrRevoked
		}
		if w.a.Clock < one.Cert.From || w.a.Clock > one.Cert.To {
			want = impl.ErrExpired
		}
		if got := impl.PathCheck(root, one.Cert, list, w.a.Clock); got != want {
			w.t.Fatalf("PathCheck of %+v at %d: got %d, want %d", one, w.a.Clock, got, want)
		}
		w.told[fmt.Sprint("checked ", want)]++
	}
}

// Promises 11, 12 and 13, of what many offices come to.
func TestOfficesThatAreWalked(t *testing.T) {
	told := map[string]int{}
	for seed := range int64(40) {
		secret := someSecrets()[seed%int64(len(someSecrets()))]
		w := walk{t: t, r: rand.New(rand.NewSource(seed)), a: impl.AcmeNew(secret), found: map[int64]bool{}, told: told}
		for range 400 {
			w.step()
		}
	}
	for _, what := range []string{"papers", "checked 0", "checked 12", "checked 14", "code 0", "code 1", "code 8", "code 10", "code 11", "none 3", "account 0", "order 0", "order 3", "order 8", "order 11",
		"ask 0", "ask 8", "ask 10", "state 0", "state 8", "finish 0", "finish 3", "finish 7", "finish 8", "finish 10", "finish 15", "revoke 0", "revoke 8", "revoke 14", "close 0", "close 8"} {
		if told[what] < 3 {
			t.Errorf("the walks come to %q just %d times", what, told[what])
		}
	}
}

// taken is what Handle answers of a request that is taken.
func taken(t *testing.T, a impl.Acme, secret int64, url string, body string) impl.AcmeOut {
	t.Helper()
	fresh := impl.NewNonce(a)
	got := impl.Handle(fresh.Acme, impl.JwsSign(secret, fresh.N, url, body))
	if got.Code != impl.OK {
		t.Fatalf("%s of %d: the code %d", url, secret, got.Code)
	}
	return got
}

// issuedAt is an office that has issued a paper of those names to Ann at that Clock.
func issuedAt(t *testing.T, clock int64, names ...string) impl.AcmeOut {
	t.Helper()
	a := impl.Acme{Secret: office, Clock: clock, Next: 2}
	a = taken(t, a, ann, "account", "").Acme
	placed := taken(t, a, ann, "order", namesBody(names...))
	a = placed.Acme
	for n := range int64(len(names)) {
		a = impl.Probe(taken(t, a, ann, "ask", standardNum(n)).Acme, n, true).Acme
	}
	if got := taken(t, a, ann, "state", standardNum(placed.N)); got.N != 2 {
		t.Fatalf("the order counts as %d", got.N)
	}
	return taken(t, a, ann, "finish", finishBody(placed.N, csrOf(9, names...)))
}

// Promise 13, at each end of a paper's times.
func TestIssuedPapersAtEachClock(t *testing.T) {
	for _, clock := range []int64{0, 1, 5, 100, mostClock - 201, mostClock - 200, mostClock} {
		got := issuedAt(t, clock, "aa", "bb")
		c := impl.CertRead(got.Told)
		if c.Code != impl.OK || c.Cert.From != clock || c.Cert.To != clock+200 || c.Cert.Serial != got.N || !slices.Equal(c.Cert.Names, []string{"aa", "bb"}) ||
			c.Cert.Subject != "client" || c.Cert.Key != impl.PublicOf(9) || c.Cert.Ca {
			t.Errorf("at %d: got the paper %+v", clock, c)
		}
		back := taken(t, got.Acme, ann, "revoke", standardNum(got.N)).Acme
		for _, n := range []int64{0, 1, 50, 199, 200, 201, 202, 1000, 100000} {
			later, without := impl.Tick(got.Acme, n), impl.Tick(back, n)
			if later.Code != impl.OK {
				continue
			}
			want, revoked := int64(impl.OK), int64(impl.ErrRevoked)
			if n > 200 {
				want, revoked = impl.ErrExpired, impl.ErrExpired
			}
			checkPath(t, later.Acme, c.Cert, want)
			checkPath(t, without.Acme, c.Cert, revoked)
		}
	}
}

func checkPath(t *testing.T, a impl.Acme, c impl.Cert, want int64) {
	t.Helper()
	root, list := impl.AcmeRoot(a), impl.AcmeCrl(a)
	if got := impl.PathCheck(root, c, list, a.Clock); got != want {
		t.Errorf("PathCheck of %+v at %d: got %d, want %d", c, a.Clock, got, want)
	}
	if got := impl.PathName(root, c, list, a.Clock, "bb"); got != (want == impl.OK) {
		t.Errorf("PathName of %+v at %d: got %v", c, a.Clock, got)
	}
}

// Promise 11: each answer has all that was issued, and what was revoked, whatever is asked behind it.
func TestWhatWasIssuedStays(t *testing.T) {
	got := issuedAt(t, 10, "aa")
	a := taken(t, got.Acme, ann, "revoke", standardNum(got.N)).Acme
	kept := a.Issued
	a = taken(t, a, bob, "account", "").Acme
	a = taken(t, a, ann, "close", "").Acme
	a = impl.Tick(a, 100000).Acme
	if len(a.Issued) != 1 || !sameCert(a.Issued[0].Cert, kept[0].Cert) || !a.Issued[0].Revoked || a.Issued[0].Account != 0 || a.Orders[0].Serial != got.N {
		t.Errorf("what was issued did not stay: %+v, then %+v", kept, a.Issued)
	}
	if got := impl.AcmeCrl(a).Serials; !slices.Equal(got, []int64{kept[0].Cert.Serial}) {
		t.Errorf("what was revoked is not listed: %v", got)
	}
}
