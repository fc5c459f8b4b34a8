package tests

import (
	"fmt"
	"math"
	"slices"
	"strings"
	"testing"

	"loop.example/g00371/impl"
)

func textBody(text string) string {
	return standardNum(int64(len(text))) + text
}

func namesBody(names ...string) string {
	body := standardNum(int64(len(names)))
	for _, name := range names {
		body += textBody(name)
	}
	return body
}

func finishBody(number int64, csr string) string {
	return standardNum(number) + textBody(csr)
}

// csrOf is the bytes of what that secret asks for.
func csrOf(secret int64, names ...string) string {
	return impl.CsrBytes(impl.CsrSign(secret, names))
}

func handleOf(text string) func(a impl.Acme) impl.AcmeOut {
	return func(a impl.Acme) impl.AcmeOut { return impl.Handle(a, text) }
}

// withoutNonce is the office behind a request with that nonce that told a code.
func withoutNonce(a impl.Acme, nonce int64) impl.Acme {
	a = cloneAcme(a)
	a.Nonces = slices.DeleteFunc(a.Nonces, func(n int64) bool { return n == nonce })
	return a
}

// checkHandle asks with each of the nonces, which goes whatever comes then; checks that no call changes what
// was handed in; and that the same request is taken no more (promise 11).
func checkHandle(t *testing.T, what string, a impl.Acme, text func(nonce int64) string, code int64, n int64, how func(a *impl.Acme)) {
	t.Helper()
	for _, nonce := range a.Nonces {
		want := impl.AcmeOut{Acme: withoutNonce(a, nonce), N: n, Code: code}
		if how != nil {
			how(&want.Acme)
		}
		if len(want.Acme.Issued) > len(a.Issued) {
			want.Told = impl.CertBytes(want.Acme.Issued[len(a.Issued)].Cert)
		}
		asked := text(nonce)
		got := checkCall(t, fmt.Sprint("Handle of ", what, ", nonce ", nonce), a, handleOf(asked), want)
		checkNew(t, what, got, asked)
		checkCall(t, fmt.Sprint("Handle of ", what, " once more"), got.Acme, handleOf(asked), impl.AcmeOut{Code: impl.ErrNonce})
	}
}

// checkAsk is checkHandle of a request that a secret signs.
func checkAsk(t *testing.T, what string, a impl.Acme, secret int64, url string, body string, code int64, n int64, how func(a *impl.Acme)) {
	t.Helper()
	what = fmt.Sprintf("%s: %d asks %s %q", what, secret, url, firstBytes(body))
	checkHandle(t, what, a, func(nonce int64) string { return impl.JwsSign(secret, nonce, url, body) }, code, n, how)
}

// checkPlain checks an answer against that of the document's sentences, as a test of this project says them.
func checkPlain(t *testing.T, what string, a impl.Acme, secret int64, url string, body string) impl.AcmeOut {
	t.Helper()
	text := impl.JwsSign(secret, a.Nonces[len(a.Nonces)-1], url, body)
	return checkCall(t, fmt.Sprintf("Handle of %s: %d asks %s %q", what, secret, url, firstBytes(body)), a, handleOf(text), plainHandle(a, text))
}

func TestHandleTellsTheCodeOfTheRequest(t *testing.T) {
	a := plainAcme()
	raw := rawOf(impl.Jws{Key: impl.PublicOf(ann), Nonce: 9, Url: "account"})
	good := raw.signed(ann).text()
	texts := map[string]string{
		"the empty text": "", "a letter": "x", "two marks": "..", "three marks": "...", "a part more": good + ".", "a byte more": good + "A", "a byte less": good[:len(good)-1],
		"MaxBytes": strings.Repeat("x", impl.MaxBytes), "another's Sig": raw.signed(bob).text(), "no Sig": raw.asked() + "." + standardSigns(standardNum(0)+standardNum(0)),
	}
	for nonce := range int64(30) {
		another := rawOf(impl.Jws{Key: impl.PublicOf(ann), Nonce: nonce, Url: "account"})
		another.tail = raw.signed(ann).tail
		texts[fmt.Sprint("the Sig of another, nonce ", nonce)] = another.text()
	}
	for what, text := range texts {
		want := impl.AcmeOut{Code: standardJwsRead(text).Code}
		if text == good {
			want = impl.AcmeOut{Acme: withoutNonce(a, 9)}
		} else if want.Code != impl.ErrSyntax && want.Code != impl.ErrSign {
			t.Errorf("the test's own text of %s is right", what)
		}
		checkCall(t, "Handle of "+what, a, handleOf(text), want)
	}
	for _, text := range tooLongTexts() {
		checkCall(t, "Handle, too long", a, handleOf(text), impl.AcmeOut{Code: impl.ErrSize})
	}
}

func TestHandleOfANonceThatIsNone(t *testing.T) {
	for _, nonce := range []int64{0, 1, 2, 4, 6, 8, 10, 24, 26, 29, 30, 31, 261, 265, mostNext, impl.MaxTime - 1, impl.MaxTime} {
		for _, url := range []string{"account", "close", "none", "a"} {
			for _, secret := range []int64{ann, cid, stranger} {
				checkCall(t, fmt.Sprint("Handle, nonce ", nonce), plainAcme(), handleOf(impl.JwsSign(secret, nonce, url, "")), impl.AcmeOut{Code: impl.ErrNonce})
			}
		}
	}
	for _, nonces := range [][]int64{nil, {}, {2}, {28, 29}} {
		a := changeAcme(func(a *impl.Acme) { a.Nonces = nonces })
		checkCall(t, fmt.Sprint("Handle, nonces ", nonces), a, handleOf(impl.JwsSign(ann, 9, "account", "")), impl.AcmeOut{Code: impl.ErrNonce})
	}
}

func TestHandleTakesEachOfMaxNonces(t *testing.T) {
	a := bareAcme(func(a *impl.Acme) { a.Nonces = []int64{2, 3, 9, 10, 17, 27, 28, 29} })
	checkAsk(t, "MaxNonces", a, ann, "account", "", impl.OK, 0, nil)
	checkAsk(t, "MaxNonces", a, ann, "none", "", impl.ErrSyntax, 0, nil)
	checkAsk(t, "MaxNonces", a, stranger, "close", "", impl.ErrNone, 0, nil)
}

func TestHandleOfUrlsThatAreNone(t *testing.T) {
	for _, url := range []string{"a", "accounts", "accoun", "account-", "acme", "new", "orders", "orde", "asks", "as", "stat", "states", "fin", "finished", "revok", "revoked",
		"closed", "clos", "nonce", "probe", "tick", "check", "good", strings.Repeat("u", 40)} {
		for _, secret := range []int64{ann, cid, stranger} {
			for _, body := range []string{"", standardNum(0), namesBody("aa"), finishBody(0, "x"), "x"} {
				checkAsk(t, "no Url", plainAcme(), secret, url, body, impl.ErrSyntax, 0, nil)
			}
		}
	}
}

// wrongUrlBodies are, for each Url, Bodies that are none of it.
func wrongUrlBodies() map[string][]string {
	numbers := []string{"", standardNum(0) + "\x00", standardNum(0) + standardNum(0), "\x80\x00", "\x80", "\x82\x00", "xx", "y", "\xff", standardNum(0) + "x",
		strings.Repeat("\xff", 9) + "\x02", strings.Repeat("\xff", 10), strings.Repeat("\x80", 11), strings.Repeat("\x00", mostAsked), finishBody(0, "")}
	for _, n := range downNumbers() {
		numbers = append(numbers, standardNum(n))
	}
	all := map[string][]string{"ask": numbers, "state": numbers, "revoke": numbers}
	for _, url := range []string{"account", "close"} {
		all[url] = []string{"\x00", " ", "x", standardNum(0), standardNum(-1), "account", namesBody("aa"), strings.Repeat("x", mostAsked)}
	}
	all["order"] = []string{"", namesBody(), namesBody("aa", "bb", "cc", "dd", "ee", "ff"), namesBody("aa") + "\x00", namesBody("aa") + textBody("bb"), namesBody("aa", "bb")[:6],
		standardNum(1), standardNum(2) + textBody("aa"), standardNum(-1) + textBody("aa"), standardNum(math.MaxInt64) + textBody("aa"), standardNum(math.MinInt64), "\x82\x00" + textBody("aa"),
		textBody("aa"), "aa", "\x80", "\x02\x80", "\x02\x84\x00aa", "\x02\x03aa", "\x02\x06aa", "\x02\x03", namesBody(strings.Repeat("a", 41)), strings.Repeat("\x02", mostAsked)}
	for _, names := range wrongNames() {
		if body := namesBody(names...); len(body) <= mostAsked {
			all["order"] = append(all["order"], body)
		}
	}
	csr := csrOf(9, "aa", "cc")
	all["finish"] = []string{"", standardNum(0), finishBody(0, csr) + "\x00", finishBody(0, csr) + "x", finishBody(0, csr)[:30], textBody(csr), csr, standardNum(0) + csr, standardNum(0) + "\x80",
		standardNum(0) + "\x01", standardNum(0) + "\x03x", standardNum(0) + standardNum(impl.MaxBytes+1), standardNum(0) + standardNum(math.MinInt64), "\x80\x00" + textBody(csr), "\x80", standardNum(0) + "\x80\x00"}
	for _, n := range downNumbers() {
		all["finish"] = append(all["finish"], finishBody(n, csr), finishBody(n, ""))
	}
	return all
}

// A Body that is none of its Url is told ahead of an Account that is none, or not Live.
func TestHandleOfBodiesThatAreNone(t *testing.T) {
	for url, bodies := range wrongUrlBodies() {
		for _, body := range bodies {
			for _, secret := range []int64{ann, cid, stranger} {
				checkAsk(t, "a wrong Body", plainAcme(), secret, url, body, impl.ErrSyntax, 0, nil)
			}
		}
	}
}

// rightUrlBodies are, for each Url but account, a Body of it that Ann may ask for.
func rightUrlBodies() map[string]string {
	return map[string]string{"close": "", "order": namesBody("aa"), "ask": standardNum(1), "state": standardNum(0),
		"finish": finishBody(0, csrOf(9, "aa", "cc")), "revoke": standardNum(29)}
}

func TestHandleWithoutAnAccountThatIsLive(t *testing.T) {
	closed := changeAcme(func(a *impl.Acme) { a.Accounts[0].Live = false })
	for url, body := range rightUrlBodies() {
		for _, secret := range []int64{cid, stranger, office, 1, impl.GroupQ - 1} {
			checkAsk(t, "no Account that is Live", plainAcme(), secret, url, body, impl.ErrNone, 0, nil)
		}
		checkAsk(t, "an Account that was closed", closed, ann, url, body, impl.ErrNone, 0, nil)
		checkAsk(t, "no Accounts", impl.Acme{Secret: office, Next: 3, Nonces: []int64{2}}, ann, url, body, impl.ErrNone, 0, nil)
		if got := checkPlain(t, "a Live one", plainAcme(), ann, url, body); got.Code != impl.OK {
			t.Errorf("%s of Ann: got the code %d", url, got.Code)
		}
	}
	cids := changeAcme(func(a *impl.Acme) { a.Accounts[2].Live = true })
	for url, body := range map[string]string{"state": standardNum(4), "revoke": standardNum(28), "finish": finishBody(4, csrOf(9, "zz"))} {
		checkAsk(t, "its own, but not Live", plainAcme(), cid, url, body, impl.ErrNone, 0, nil)
		if got := checkPlain(t, "its own, Live", cids, cid, url, body); got.Code != impl.OK {
			t.Errorf("%s of Cid: got the code %d", url, got.Code)
		}
	}
}

// Promise 12: nobody has what is another's. That is told ahead of what state it is in.
func TestHandleOfWhatIsAnothers(t *testing.T) {
	csr := csrOf(9, "aa")
	for n := int64(0); n < 10; n++ {
		for _, secret := range []int64{ann, bob} {
			who := map[int64]int64{ann: 0, bob: 1}[secret]
			a := plainAcme()
			if n >= int64(len(a.Auths)) || a.Auths[n].Account != who {
				checkAsk(t, "another's Auth", a, secret, "ask", standardNum(n), impl.ErrNone, 0, nil)
			}
			if n >= int64(len(a.Orders)) || a.Orders[n].Account != who {
				checkAsk(t, "another's Order", a, secret, "state", standardNum(n), impl.ErrNone, 0, nil)
				checkAsk(t, "another's Order", a, secret, "finish", finishBody(n, csr), impl.ErrNone, 0, nil)
				checkAsk(t, "another's Order", a, secret, "finish", finishBody(n, "x"), impl.ErrNone, 0, nil)
			}
		}
	}
	for secret, serials := range map[int64][]int64{ann: {0, 1, 2, 4, 11, 28, 30}, bob: {0, 1, 3, 12, 28, 29, 30}} {
		for _, n := range serials {
			checkAsk(t, "another's Cert", plainAcme(), secret, "revoke", standardNum(n), impl.ErrNone, 0, nil)
		}
	}
	for _, n := range []int64{8, 1 << 31, 1 << 32, 1<<32 + 1, math.MaxInt64 - 1, math.MaxInt64} {
		for _, url := range []string{"ask", "state", "revoke"} {
			checkAsk(t, "a great number", plainAcme(), ann, url, standardNum(n), impl.ErrNone, 0, nil)
		}
		checkAsk(t, "a great number", plainAcme(), ann, "finish", finishBody(n, csr), impl.ErrNone, 0, nil)
	}
}

func TestHandleAccount(t *testing.T) {
	checkAsk(t, "one that is Live", plainAcme(), ann, "account", "", impl.OK, 0, nil)
	checkAsk(t, "one that is Live", plainAcme(), bob, "account", "", impl.OK, 1, nil)
	checkAsk(t, "one that is not", plainAcme(), cid, "account", "", impl.OK, 2, nil)
	for _, secret := range []int64{stranger, office, 1, impl.GroupQ - 1} {
		checkAsk(t, "a new one", plainAcme(), secret, "account", "", impl.OK, 3, func(a *impl.Acme) { a.Accounts = append(a.Accounts, account(secret, true)) })
	}
	for count := range 7 {
		a := bareAcme(func(a *impl.Acme) { a.Accounts = manyAccounts(count) })
		for i := range int64(count) {
			checkAsk(t, fmt.Sprint("of ", count), a, ann+i, "account", "", impl.OK, i, nil)
		}
		code, n := int64(impl.OK), int64(count)
		how := func(a *impl.Acme) { a.Accounts = append(a.Accounts, account(50, true)) }
		if count == 6 {
			code, n, how = impl.ErrFull, 0, nil
		}
		checkAsk(t, fmt.Sprint("behind ", count), a, 50, "account", "", code, n, how)
	}
}

func TestHandleClose(t *testing.T) {
	for n, secret := range []int64{ann, bob} {
		checkAsk(t, "Live", plainAcme(), secret, "close", "", impl.OK, 0, func(a *impl.Acme) { a.Accounts[n].Live = false })
	}
	a := changeAcme(func(a *impl.Acme) { a.Accounts[0].Live = false })
	checkAsk(t, "closed", a, ann, "close", "", impl.ErrNone, 0, nil)
	checkAsk(t, "closed", a, ann, "account", "", impl.OK, 0, nil)
}

func TestHandleOrder(t *testing.T) {
	add := func(auths []impl.Auth, taken ...int64) func(a *impl.Acme) {
		return func(a *impl.Acme) {
			a.Auths = append(a.Auths, auths...)
			a.Orders = append(a.Orders, order(a.Auths[taken[0]].Account, 1, 150, taken...))
		}
	}
	ask := func(what string, secret int64, how func(a *impl.Acme), names ...string) {
		t.Helper()
		checkAsk(t, what, plainAcme(), secret, "order", namesBody(names...), impl.OK, 7, how)
	}
	ask("a valid one", ann, add(nil, 0), "aa")
	ask("a pending one", ann, add(nil, 1), "bb")
	ask("one valid till now", ann, add(nil, 4), "cc")
	ask("one that is not valid", ann, add([]impl.Auth{auth(0, "dd", 1, 150)}, 8), "dd")
	ask("one asked till now", ann, add(nil, 7), "ee")
	ask("a new name", ann, add([]impl.Auth{auth(0, "yy", 1, 150)}, 8), "yy")
	ask("another's name", ann, add([]impl.Auth{auth(0, "zz", 1, 150)}, 8), "zz")
	ask("an asked one", bob, add(nil, 2), "aa")
	ask("all kinds", ann, add([]impl.Auth{auth(0, "dd", 1, 150)}, 0, 1, 4, 7, 8), "aa", "bb", "cc", "dd", "ee")
	ask("new ones about an old one", ann, add([]impl.Auth{auth(0, "a", 1, 150), auth(0, "b", 1, 150)}, 4, 8, 9), "a", "b", "cc")
	ask("new ones, rising", bob, add([]impl.Auth{auth(1, "m", 1, 150), auth(1, "n", 1, 150), auth(1, "o", 1, 150)}, 8, 9, 10), "m", "n", "o")
	ask("the longest names", bob, add([]impl.Auth{auth(1, manyNames(2)[0], 1, 150), auth(1, manyNames(2)[1], 1, 150)}, 8, 9), manyNames(2)...)
	fall := changeAcme(func(a *impl.Acme) { a.Auths[1].Name = "zz" })
	checkAsk(t, "by numbers, not by names", fall, ann, "order", namesBody("cc", "zz"), impl.OK, 7, add(nil, 1, 4))
	checkAsk(t, "a name twice in two orders", plainAcme(), ann, "order", namesBody("aa", "cc"), impl.OK, 7, add(nil, 0, 4))
}

func TestHandleOrderAtTheLimits(t *testing.T) {
	for auths := 14; auths <= 20; auths++ {
		for count := 1; count <= 5; count++ {
			a := bareAcme(func(a *impl.Acme) { a.Auths = manyAuths(auths, 1) })
			got := checkPlain(t, fmt.Sprint(auths, " Auths"), a, ann, "order", namesBody(manyNames(count)...))
			if full := auths+count > 20; full != (got.Code == impl.ErrFull) || full && len(got.Acme.Auths) != auths {
				t.Errorf("%d names behind %d Auths: got the code %d and %d Auths", count, auths, got.Code, len(got.Acme.Auths))
			}
			checkPlain(t, fmt.Sprint(auths, " Auths, old and new names"), a, ann, "order", namesBody(slices.Concat([]string{"name-0", "name-13"}, manyNames(count)[:min(count, 3)])...))
		}
	}
	full := bareAcme(func(a *impl.Acme) { a.Auths = manyAuths(20, 3) })
	checkAsk(t, "MaxAuths, none new", full, ann, "order", namesBody("name-1", "name-19"), impl.OK, 0, func(a *impl.Acme) { a.Orders = append(a.Orders, order(0, 1, 150, 1, 19)) })
	checkAsk(t, "MaxAuths, one new", full, ann, "order", namesBody("name-1", "name-20"), impl.ErrFull, 0, nil)
	for count := 10; count <= 12; count++ {
		a := bareAcme(func(a *impl.Acme) { a.Auths, a.Orders = manyAuths(3, 3), manyOrders(count, 1, 0) })
		for _, names := range [][]string{{"name-2"}, {"new"}, {"name-0", "name-1", "new"}} {
			got := checkPlain(t, fmt.Sprint(count, " Orders"), a, ann, "order", namesBody(names...))
			if full := count == 12; full != (got.Code == impl.ErrFull) || full && len(got.Acme.Auths) != 3 || !full && got.N != int64(count) {
				t.Errorf("an order behind %d Orders: got %+v", count, got)
			}
		}
	}
	late := bareAcme(func(a *impl.Acme) { a.Clock = mostClock })
	checkAsk(t, "the last Clock", late, ann, "order", namesBody("aa"), impl.OK, 0, func(a *impl.Acme) {
		a.Auths, a.Orders = []impl.Auth{auth(0, "aa", 1, 900050)}, []impl.Order{order(0, 1, 900050, 0)}
	})
}

// kindsOfAuth are those that an order of Ann for "aa" may find: it takes the first that is valid, else the
// first that is pending or asked.
func kindsOfAuth() []impl.Auth {
	all := []impl.Auth{auth(1, "aa", 3, 150), auth(0, "ab", 3, 150)}
	for status := int64(1); status <= 4; status++ {
		all = append(all, auth(0, "aa", status, 100), auth(0, "aa", status, 99))
	}
	return all
}

func firstTaken(auths []impl.Auth) int {
	for _, wanted := range [][]int64{{3}, {1, 2}} {
		for i, one := range auths {
			if one.Account == 0 && one.Name == "aa" && one.Until >= 100 && slices.Contains(wanted, one.Status) {
				return i
			}
		}
	}
	return len(auths)
}

func TestHandleOrderTakesTheFirstAuth(t *testing.T) {
	kinds := kindsOfAuth()
	for _, first := range kinds {
		for _, second := range kinds {
			for _, third := range kinds {
				a := bareAcme(func(a *impl.Acme) {
					a.Accounts = append(a.Accounts, account(bob, true))
					a.Auths = []impl.Auth{first, second, third}
				})
				taken := int64(firstTaken(a.Auths))
				checkAsk(t, fmt.Sprint(a.Auths), a, ann, "order", namesBody("aa"), impl.OK, 0, func(a *impl.Acme) {
					if taken == 3 {
						a.Auths = append(a.Auths, auth(0, "aa", 1, 150))
					}
					a.Orders = []impl.Order{order(0, 1, 150, taken)}
				})
			}
		}
	}
}

func TestHandleAsk(t *testing.T) {
	for status := int64(1); status <= 4; status++ {
		for _, until := range []int64{0, 98, 99, 100, 101, mostUntil} {
			a := changeAcme(func(a *impl.Acme) { a.Auths[1] = auth(0, "bb", status, until) })
			code, how := int64(impl.ErrState), func(a *impl.Acme) {}
			if status == 1 && until >= 100 {
				code, how = impl.OK, func(a *impl.Acme) { a.Auths[1].Status = 2 }
			}
			checkAsk(t, fmt.Sprint("the Status ", status, ", Until ", until), a, ann, "ask", standardNum(1), code, 0, how)
		}
	}
	first := changeAcme(func(a *impl.Acme) { a.Auths[0].Status, a.Auths[7].Status = 1, 1 })
	for _, n := range []int64{0, 7} {
		checkAsk(t, "the first and the last", first, ann, "ask", standardNum(n), impl.OK, 0, func(a *impl.Acme) { a.Auths[n].Status = 2 })
	}
}

// eachOrder goes through the Statuses of an Order of Ann's, and of its two Auths, each in time and too late.
func eachOrder(how func(a impl.Acme, what string)) {
	for status := int64(1); status <= 4; status++ {
		for _, until := range []int64{99, 100} {
			for kinds := range 64 {
				first, second := int64(kinds%8), int64(kinds/8)
				a := bareAcme(func(a *impl.Acme) {
					a.Auths = []impl.Auth{auth(0, "bb", 3, 150), auth(0, "cc", first%4+1, 99+first/4), auth(0, "aa", second%4+1, 99+second/4)}
					a.Orders = []impl.Order{order(0, 1, 150, 0), order(0, status, until, 1, 2)}
				})
				how(a, fmt.Sprint("the Status ", status, ", Until ", until, ", of ", a.Auths[1:]))
			}
		}
	}
}

// wantedState is what such an Order counts as.
func wantedState(a impl.Acme) int64 {
	o, in := a.Orders[1], func(one impl.Auth, status int64) bool { return one.Status == status && one.Until >= 100 }
	alive := func(one impl.Auth) bool { return in(one, 1) || in(one, 2) || in(one, 3) }
	switch {
	case o.Status >= 3:
		return o.Status
	case o.Until < 100 || !alive(a.Auths[1]) || !alive(a.Auths[2]):
		return 4
	case in(a.Auths[1], 3) && in(a.Auths[2], 3):
		return 2
	}
	return o.Status
}

func TestHandleState(t *testing.T) {
	eachOrder(func(a impl.Acme, what string) {
		checkAsk(t, what, a, ann, "state", standardNum(1), impl.OK, wantedState(a), nil)
	})
	for n, want := range map[int64]int64{0: 2, 1: 1, 5: 4, 6: 3} {
		checkAsk(t, "the plain one", plainAcme(), ann, "state", standardNum(n), impl.OK, want, nil)
	}
	for n, want := range map[int64]int64{2: 3, 3: 1} {
		checkAsk(t, "the plain one", plainAcme(), bob, "state", standardNum(n), impl.OK, want, nil)
	}
}

// finished is what finish does to an office with an Order that is ready.
func finished(secret int64, number int64, names ...string) func(a *impl.Acme) {
	return func(a *impl.Acme) {
		c := impl.CertSign(office, impl.Cert{Serial: a.Next, Issuer: "root", Subject: "client", From: a.Clock, To: a.Clock + 200, Key: impl.PublicOf(secret), Names: names})
		o := &a.Orders[number]
		a.Issued = append(a.Issued, issued(o.Account, false, c))
		o.Status, o.Serial = 3, a.Next
		a.Next++
	}
}

func TestHandleFinishOfEachState(t *testing.T) {
	csr := csrOf(9, "aa", "cc")
	eachOrder(func(a impl.Acme, what string) {
		if wantedState(a) != 2 {
			checkAsk(t, what, a, ann, "finish", finishBody(1, csr), impl.ErrState, 0, nil)
			checkAsk(t, what+", no Csr", a, ann, "finish", finishBody(1, "x"), impl.ErrState, 0, nil)
			checkAsk(t, what+", other names", a, ann, "finish", finishBody(1, csrOf(9, "aa")), impl.ErrState, 0, nil)
			return
		}
		checkAsk(t, what, a, ann, "finish", finishBody(1, csr), impl.OK, 30, finished(9, 1, "aa", "cc"))
	})
}

func TestHandleFinish(t *testing.T) {
	a := plainAcme()
	for _, secret := range []int64{9, bob, cid, office, stranger, 1, impl.GroupQ - 1, 1003} {
		checkAsk(t, fmt.Sprint("the secret ", secret), a, ann, "finish", finishBody(0, csrOf(secret, "aa", "cc")), impl.OK, 30, finished(secret, 0, "aa", "cc"))
	}
	cids := changeAcme(func(a *impl.Acme) { a.Accounts[2].Live = true })
	checkAsk(t, "a ready one", cids, cid, "finish", finishBody(4, csrOf(9, "zz")), impl.OK, 30, finished(9, 4, "zz"))
	many := bareAcme(func(a *impl.Acme) {
		for _, name := range manyNames(5) {
			a.Auths = append(a.Auths, auth(0, name, 3, 100))
		}
		slices.Reverse(a.Auths)
		a.Orders = []impl.Order{order(0, 1, 100, 0, 1, 2, 3, 4)}
	})
	checkAsk(t, "MaxNames, the numbers falling", many, ann, "finish", finishBody(0, csrOf(9, manyNames(5)...)), impl.OK, 30, finished(9, 0, manyNames(5)...))
	late := bareAcme(func(a *impl.Acme) {
		a.Clock, a.Auths, a.Orders = mostClock, []impl.Auth{auth(0, "aa", 3, mostUntil)}, manyOrders(1, 1, 0)
		a.Orders[0].Until = mostUntil
	})
	checkAsk(t, "the last Clock", late, ann, "finish", finishBody(0, csrOf(9, "aa")), impl.OK, 30, finished(9, 0, "aa"))
}

func TestHandleFinishOfWrongCsrs(t *testing.T) {
	a := plainAcme()
	good := csrOf(9, "aa", "cc")
	own := csrOf(ann, "aa", "cc")
	unchecked := impl.CsrSign(9, []string{"aa", "cc"})
	unchecked.Sig.S ^= 1
	for what, csr := range map[string]string{"the empty text": "", "a letter": "x", "a byte more": good + "\x00", "a byte less": good[:len(good)-1], "a paper": impl.CertBytes(a.Issued[0].Cert),
		"all of a Body": strings.Repeat("x", mostAsked-3), "a request": impl.JwsSign(9, 5, "ask", "")} {
		checkAsk(t, what, a, ann, "finish", finishBody(0, csr), impl.ErrSyntax, 0, nil)
	}
	for _, c := range []impl.Csr{unchecked, {Key: unchecked.Key, Names: []string{"bb"}, Sig: impl.CsrSign(9, []string{"aa", "cc"}).Sig}, {Key: impl.PublicOf(ann), Names: []string{"aa", "cc"}, Sig: impl.Sig{Key: impl.PublicOf(ann)}}} {
		csr := standardCsrBytes(t, c)
		if got := impl.CsrRead(csr).Code; got != impl.ErrSign {
			t.Errorf("the test's own Csr tells the code %d", got)
		}
		checkAsk(t, "a signature that does not check", a, ann, "finish", finishBody(0, csr), impl.ErrSign, 0, nil)
	}
	for _, names := range [][]string{{"aa"}, {"cc"}, {"aa", "bb"}, {"aa", "cc", "zz"}, {"a", "aa", "cc"}, {"aa", "bb", "cc"}, {"aa", "ccc"}, {"bb", "cc"}, {"zz"}, manyNames(2), manyNames(5)} {
		checkAsk(t, fmt.Sprint("the names ", names), a, ann, "finish", finishBody(0, csrOf(9, names...)), impl.ErrNames, 0, nil)
		checkAsk(t, fmt.Sprint("the own key and the names ", names), a, ann, "finish", finishBody(0, csrOf(ann, names...)), impl.ErrNames, 0, nil)
	}
	checkAsk(t, "the Account's own Key", a, ann, "finish", finishBody(0, own), impl.ErrNames, 0, nil)
}

func TestHandleFinishAtTheLimits(t *testing.T) {
	full := func(count int, next int64) impl.Acme {
		return bareAcme(func(a *impl.Acme) {
			a.Next, a.Issued, a.Auths, a.Orders = next, manyIssued(count, 2), manyAuths(2, 3), manyOrders(1, 1, 0, 1)
		})
	}
	names := []string{"name-0", "name-1"}
	good, other, own := finishBody(0, csrOf(9, names...)), finishBody(0, csrOf(9, "aa")), finishBody(0, csrOf(ann, names...))
	for count := 18; count <= 20; count++ {
		for _, next := range []int64{30, mostNext - 1, mostNext} {
			a, what := full(count, next), fmt.Sprint(count, " Issued, Next ", next)
			if count == 20 || next == mostNext {
				checkAsk(t, what, a, ann, "finish", good, impl.ErrFull, 0, nil)
			} else {
				checkAsk(t, what, a, ann, "finish", good, impl.OK, next, finished(9, 0, names...))
			}
			checkAsk(t, what+", other names", a, ann, "finish", other, impl.ErrNames, 0, nil)
			checkAsk(t, what+", the own key", a, ann, "finish", own, impl.ErrNames, 0, nil)
			checkAsk(t, what+", no Csr", a, ann, "finish", finishBody(0, "x"), impl.ErrSyntax, 0, nil)
			a.Auths[1].Status = 2
			checkAsk(t, what+", not ready", a, ann, "finish", good, impl.ErrState, 0, nil)
		}
	}
}

// Promise 11: what was revoked stays revoked.
func TestHandleRevoke(t *testing.T) {
	checkAsk(t, "revoked already", plainAcme(), ann, "revoke", standardNum(3), impl.ErrRevoked, 0, nil)
	checkAsk(t, "the last one", plainAcme(), ann, "revoke", standardNum(29), impl.OK, 0, func(a *impl.Acme) { a.Issued[3].Revoked = true })
	checkAsk(t, "Bob's", plainAcme(), bob, "revoke", standardNum(11), impl.OK, 0, func(a *impl.Acme) { a.Issued[1].Revoked = true })
	late := changeAcme(func(a *impl.Acme) { a.Clock = mostClock })
	checkAsk(t, "at the last Clock", late, ann, "revoke", standardNum(29), impl.OK, 0, func(a *impl.Acme) { a.Issued[3].Revoked = true })
	a := bareAcme(func(a *impl.Acme) { a.Issued = manyIssued(20, 3) })
	for i, one := range a.Issued {
		code, how := int64(impl.ErrRevoked), func(a *impl.Acme) {}
		if !one.Revoked {
			code, how = impl.OK, func(a *impl.Acme) { a.Issued[i].Revoked = true }
		}
		checkAsk(t, "of MaxIssued", a, ann, "revoke", standardNum(one.Cert.Serial), code, 0, how)
	}
	twice := changeAcme(func(a *impl.Acme) { a.Issued[3].Revoked = true })
	checkAsk(t, "once more", twice, ann, "revoke", standardNum(29), impl.ErrRevoked, 0, nil)
}

// What was handed in is each time another Acme, and each answer its own.
func TestHandleKeepsNothing(t *testing.T) {
	a := plainAcme()
	for range 2 {
		checkAsk(t, "a new account", a, stranger, "account", "", impl.OK, 3, func(a *impl.Acme) { a.Accounts = append(a.Accounts, account(stranger, true)) })
		checkAsk(t, "a paper", a, ann, "finish", finishBody(0, csrOf(9, "aa", "cc")), impl.OK, 30, finished(9, 0, "aa", "cc"))
	}
}
