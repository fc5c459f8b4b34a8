package tests

import (
	"fmt"
	"math"
	"slices"
	"strings"
	"testing"

	"loop.example/g00371/impl"
)

func TestAcmeConstants(t *testing.T) {
	got := []int64{impl.MaxAccounts, impl.MaxOrders, impl.MaxAuths, impl.MaxNonces, impl.MaxIssued, impl.LivesOrder, impl.LivesAuth, impl.LivesCert}
	if want := []int64{6, 12, 20, 8, 20, 50, 100, 200}; !slices.Equal(got, want) {
		t.Errorf("the constants of chapter 11: got %v, want %v", got, want)
	}
}

// ofSecret is plainAcme of that secret.
func ofSecret(secret int64) impl.Acme {
	return changeAcme(func(a *impl.Acme) {
		a.Secret = secret
		for i := range a.Issued {
			a.Issued[i].Cert = impl.CertSign(secret, a.Issued[i].Cert)
		}
	})
}

func manyAccounts(count int) []impl.Account {
	var all []impl.Account
	for i := range int64(count) {
		all = append(all, account(ann+i, true))
	}
	return all
}

func manyAuths(count int, status int64) []impl.Auth {
	var all []impl.Auth
	for i := range count {
		all = append(all, auth(0, fmt.Sprint("name-", i), status, 120))
	}
	return all
}

func manyOrders(count int, status int64, auths ...int64) []impl.Order {
	var all []impl.Order
	for range count {
		all = append(all, order(0, status, 120, auths...))
	}
	return all
}

// manyIssued are so many papers of Ann, of the Serials from first on.
func manyIssued(count int, first int64) []impl.Issued {
	var all []impl.Issued
	for i := range int64(count) {
		all = append(all, issued(0, i%2 == 0, paper(first+i, 100, "name-0")))
	}
	return all
}

func rightAcmes() map[string]impl.Acme {
	all := map[string]impl.Acme{
		"the plain one":       plainAcme(),
		"the bare one":        bareAcme(func(a *impl.Acme) {}),
		"a new one":           {Secret: office, Next: 2},
		"empty lists":         {Secret: office, Next: 2, Nonces: []int64{}, Accounts: []impl.Account{}, Auths: []impl.Auth{}, Orders: []impl.Order{}, Issued: []impl.Issued{}},
		"Next behind all":     changeAcme(func(a *impl.Acme) { a.Next = mostNext }),
		"a nonce 2":           changeAcme(func(a *impl.Acme) { a.Nonces = []int64{2} }),
		"a nonce below Next":  changeAcme(func(a *impl.Acme) { a.Nonces = []int64{2, 3, 28, 29} }),
		"the last nonce":      bareAcme(func(a *impl.Acme) { a.Next, a.Nonces = mostNext, []int64{2, mostNext - 1} }),
		"MaxNonces":           changeAcme(func(a *impl.Acme) { a.Nonces = []int64{2, 3, 4, 5, 6, 7, 8, 9} }),
		"no nonces":           changeAcme(func(a *impl.Acme) { a.Nonces = nil }),
		"MaxAccounts":         changeAcme(func(a *impl.Acme) { a.Accounts = manyAccounts(6) }),
		"the highest key":     changeAcme(func(a *impl.Acme) { a.Accounts[2].Key = highestKey() }),
		"the office's key":    changeAcme(func(a *impl.Acme) { a.Accounts[2].Key = impl.PublicOf(office) }),
		"MaxAuths":            bareAcme(func(a *impl.Acme) { a.Auths = manyAuths(20, 1) }),
		"Auths of one Name":   bareAcme(func(a *impl.Acme) { a.Auths = slices.Repeat([]impl.Auth{auth(0, "aa", 3, 120)}, 20) }),
		"the longest Name":    changeAcme(func(a *impl.Acme) { a.Auths[7].Name = "n" + strings.Repeat("-", 39) }),
		"MaxOrders":           bareAcme(func(a *impl.Acme) { a.Auths, a.Orders = manyAuths(1, 1), manyOrders(12, 2, 0) }),
		"MaxNames Auths":      bareAcme(func(a *impl.Acme) { a.Auths, a.Orders = manyAuths(20, 1), manyOrders(1, 1, 0, 7, 8, 18, 19) }),
		"names that fall":     changeAcme(func(a *impl.Acme) { a.Auths[4].Name = "a" }),
		"MaxIssued":           bareAcme(func(a *impl.Acme) { a.Issued = manyIssued(20, 2) }),
		"the last Serial":     bareAcme(func(a *impl.Acme) { a.Issued = manyIssued(20, 10) }),
		"two of one Serial":   changeAcme(func(a *impl.Acme) { a.Orders[6].Serial = 11 }),
		"another's Serial":    changeAcme(func(a *impl.Acme) { a.Orders[6].Serial = 28 }),
		"another Subject":     changeAcme(func(a *impl.Acme) { a.Issued[3].Cert.Subject = "ann"; resign(a, 3) }),
		"a paper that is Ca":  changeAcme(func(a *impl.Acme) { a.Issued[3].Cert.Ca = true; resign(a, 3) }),
		"a paper of no Names": changeAcme(func(a *impl.Acme) { a.Issued[3].Cert.Names = nil; resign(a, 3) }),
		"a paper to come":     changeAcme(func(a *impl.Acme) { a.Issued[3].Cert.From, a.Issued[3].Cert.To = 1000, 2000; resign(a, 3) }),
	}
	for _, secret := range []int64{1, 2, impl.GroupQ - 2, impl.GroupQ - 1} {
		all[fmt.Sprint("Secret ", secret)] = ofSecret(secret)
	}
	for _, n := range []int64{0, 1, mostClock - 1, mostClock} {
		all[fmt.Sprint("Clock ", n)] = changeAcme(func(a *impl.Acme) { a.Clock = n })
	}
	for _, n := range []int64{0, 1, mostUntil - 1, mostUntil} {
		all[fmt.Sprint("an Auth's Until ", n)] = changeAcme(func(a *impl.Acme) { a.Auths[1].Until = n })
		all[fmt.Sprint("an Order's Until ", n)] = changeAcme(func(a *impl.Acme) { a.Orders[3].Until = n })
	}
	for status := int64(1); status <= 4; status++ {
		all[fmt.Sprint("an Auth's Status ", status)] = changeAcme(func(a *impl.Acme) { a.Auths[1].Status = status })
		all[fmt.Sprint("an Order's Status ", status)] = changeAcme(func(a *impl.Acme) { a.Orders[3].Status = status })
	}
	return all
}

// resign signs what was changed of a paper.
func resign(a *impl.Acme, n int) {
	a.Issued[n].Cert = impl.CertSign(a.Secret, a.Issued[n].Cert)
}

// beyondNumbers are far out of all bounds.
func beyondNumbers() []int64 {
	return append(downNumbers(), 1<<32, 1<<32+1, 1<<62, math.MaxInt64-1, math.MaxInt64)
}

func wrongAcmes() map[string]impl.Acme {
	all := map[string]impl.Acme{"the zero Acme": {}}
	for what, how := range wrongLists11() {
		all[what] = changeAcme(how)
	}
	for _, n := range noSecrets() {
		all[fmt.Sprint("Secret ", n)] = changeAcme(func(a *impl.Acme) { a.Secret = n })
		all[fmt.Sprint("a new one of ", n)] = impl.Acme{Secret: n, Next: 2}
	}
	for _, n := range append(beyondNumbers(), mostClock+1) {
		all[fmt.Sprint("Clock ", n)] = changeAcme(func(a *impl.Acme) { a.Clock = n })
	}
	for _, n := range append(beyondNumbers(), 0, 1, mostNext+1) {
		all[fmt.Sprint("Next ", n)] = changeAcme(func(a *impl.Acme) { a.Next = n })
		all[fmt.Sprint("Next ", n, " alone")] = impl.Acme{Secret: office, Next: n}
	}
	for _, n := range append(beyondNumbers(), 0, 1, 30, 31) {
		all[fmt.Sprint("a nonce ", n)] = changeAcme(func(a *impl.Acme) { a.Nonces = []int64{n} })
		all[fmt.Sprint("a last nonce ", n)] = changeAcme(func(a *impl.Acme) { a.Nonces[2] = n })
	}
	for _, n := range append(beyondNumbers(), 0, 1, 30, 31) {
		all[fmt.Sprint("an Issued's Serial ", n)] = changeAcme(func(a *impl.Acme) { a.Issued[3].Cert.Serial = n; resign(a, 3) })
		all[fmt.Sprint("an Order's Serial ", n)] = changeAcme(func(a *impl.Acme) { a.Orders[6].Serial = n })
	}
	delete(all, "an Order's Serial 0")
	for _, n := range append(notUnits(), 1, 2, impl.GroupP-1, impl.GroupP-4) {
		all[fmt.Sprint("an Account's Key ", n)] = changeAcme(func(a *impl.Acme) { a.Accounts[2].Key = n })
	}
	for _, n := range append(beyondNumbers(), 0, 5) {
		all[fmt.Sprint("an Auth's Status ", n)] = changeAcme(func(a *impl.Acme) { a.Auths[1].Status = n })
		all[fmt.Sprint("an Order's Status ", n)] = changeAcme(func(a *impl.Acme) { a.Orders[3].Status = n })
	}
	for _, n := range append(beyondNumbers(), mostUntil+1) {
		all[fmt.Sprint("an Auth's Until ", n)] = changeAcme(func(a *impl.Acme) { a.Auths[1].Until = n })
		all[fmt.Sprint("an Order's Until ", n)] = changeAcme(func(a *impl.Acme) { a.Orders[3].Until = n })
	}
	for _, n := range append(beyondNumbers(), 3, 4) {
		all[fmt.Sprint("an Auth of the Account ", n)] = changeAcme(func(a *impl.Acme) { a.Auths[7].Account = n })
		all[fmt.Sprint("an Order of the Account ", n)] = changeAcme(func(a *impl.Acme) { a.Orders[6].Account = n })
		all[fmt.Sprint("an Issued of the Account ", n)] = changeAcme(func(a *impl.Acme) { a.Issued[3].Account = n })
	}
	for _, n := range append(beyondNumbers(), 8, 9) {
		all[fmt.Sprint("an Order of the Auth ", n)] = changeAcme(func(a *impl.Acme) { a.Orders[0].Auths = []int64{n} })
		all[fmt.Sprint("an Order of 0 and the Auth ", n)] = changeAcme(func(a *impl.Acme) { a.Orders[0].Auths = []int64{0, n} })
	}
	for _, name := range []string{"", strings.Repeat("a", 41), "a_b", "aB", "a.b", "a b", "a\x00", "a\xff", "aé", "A", "1a", "-a"} {
		all[fmt.Sprintf("the Name %q", name)] = changeAcme(func(a *impl.Acme) { a.Auths[7].Name = name })
	}
	return all
}

// wrongLists11 are what is done to an office's lists so that it is not right any more.
func wrongLists11() map[string]func(a *impl.Acme) {
	return map[string]func(a *impl.Acme){
		"Next the last nonce":      func(a *impl.Acme) { a.Nonces, a.Issued, a.Orders = []int64{5, 9, 25}, nil, nil; a.Next = 25 },
		"Next the last Serial":     func(a *impl.Acme) { a.Next = 29 },
		"nonces alike":             func(a *impl.Acme) { a.Nonces = []int64{5, 9, 9} },
		"nonces that fall":         func(a *impl.Acme) { a.Nonces = []int64{5, 25, 9} },
		"the first nonce highest":  func(a *impl.Acme) { a.Nonces = []int64{9, 5, 25} },
		"one nonce too many":       func(a *impl.Acme) { a.Nonces = []int64{2, 3, 4, 5, 6, 7, 8, 9, 10} },
		"MaxList and one nonces":   func(a *impl.Acme) { a.Nonces = manySerials(401, 402); a.Next = 403 },
		"two Accounts of one Key":  func(a *impl.Acme) { a.Accounts[2].Key = a.Accounts[0].Key },
		"neighbours of one Key":    func(a *impl.Acme) { a.Accounts[1].Key = a.Accounts[2].Key },
		"one Account too many":     func(a *impl.Acme) { a.Accounts = manyAccounts(7) },
		"no Accounts":              func(a *impl.Acme) { a.Accounts = nil },
		"an Account less":          func(a *impl.Acme) { a.Accounts = a.Accounts[:2] },
		"one Auth too many":        func(a *impl.Acme) { a.Auths = append(a.Auths, manyAuths(13, 1)...) },
		"no Auths":                 func(a *impl.Acme) { a.Auths = nil },
		"an Auth less":             func(a *impl.Acme) { a.Auths = a.Auths[:6] },
		"one Order too many":       func(a *impl.Acme) { a.Orders = append(a.Orders, manyOrders(6, 1, 0)...) },
		"an Order of no Auths":     func(a *impl.Acme) { a.Orders[0].Auths = nil },
		"an Order of none of them": func(a *impl.Acme) { a.Orders[0].Auths = []int64{} },
		"an Order of too many": func(a *impl.Acme) {
			a.Auths = append(a.Auths, manyAuths(12, 1)...)
			a.Orders[0].Auths = []int64{0, 1, 4, 6, 7, 8}
		},
		"Auths of another Account":  func(a *impl.Acme) { a.Orders[0].Account = 1 },
		"one Auth of another":       func(a *impl.Acme) { a.Orders[0].Auths = []int64{0, 3} },
		"the first of another":      func(a *impl.Acme) { a.Orders[0].Auths = []int64{3, 4} },
		"Auths that fall":           func(a *impl.Acme) { a.Orders[0].Auths = []int64{4, 0} },
		"Auths alike":               func(a *impl.Acme) { a.Orders[0].Auths = []int64{0, 0} },
		"two Auths of one Name":     func(a *impl.Acme) { a.Auths[4].Name = "aa" },
		"two of one Name, one off":  func(a *impl.Acme) { a.Auths[4].Name = "aa"; a.Orders[0].Auths = []int64{0, 1, 4} },
		"a Serial of none":          func(a *impl.Acme) { a.Orders[2].Serial = 12 },
		"a Serial behind all":       func(a *impl.Acme) { a.Orders[2].Serial = 30 },
		"the root's Serial":         func(a *impl.Acme) { a.Orders[2].Serial = 1 },
		"a Serial of an Issued off": func(a *impl.Acme) { a.Issued = slices.Delete(a.Issued, 1, 2) },
		"a Serial, pending":         func(a *impl.Acme) { a.Orders[2].Status = 1 },
		"a Serial, ready":           func(a *impl.Acme) { a.Orders[2].Status = 2 },
		"a Serial, not valid":       func(a *impl.Acme) { a.Orders[2].Status = 4 },
		"another Serial, not valid": func(a *impl.Acme) { a.Orders[5].Serial = 29 },
		"one Issued too many":       func(a *impl.Acme) { a.Issued = manyIssued(21, 2); a.Orders[2].Serial = 0 },
		"the root's own Serial":     func(a *impl.Acme) { a.Issued[0].Cert.Serial = 1; resign(a, 0) },
		"the zero Cert":             func(a *impl.Acme) { a.Issued[3].Cert = impl.Cert{} },
		"a Cert that was changed":   func(a *impl.Acme) { a.Issued[3].Cert.To++ },
		"a Sig that was changed":    func(a *impl.Acme) { a.Issued[3].Cert.Sig.S ^= 1 },
		"a Cert of another key":     func(a *impl.Acme) { a.Issued[3].Cert = impl.CertSign(78, a.Issued[3].Cert) },
		"the first of another key":  func(a *impl.Acme) { a.Issued[0].Cert = impl.CertSign(78, a.Issued[0].Cert) },
		"another Issuer":            func(a *impl.Acme) { a.Issued[3].Cert.Issuer = "roots"; resign(a, 3) },
		"a shorter Issuer":          func(a *impl.Acme) { a.Issued[0].Cert.Issuer = "roo"; resign(a, 0) },
		"Serials alike":             func(a *impl.Acme) { a.Issued[2].Cert.Serial = 29; resign(a, 2) },
		"Serials that fall":         func(a *impl.Acme) { slices.Reverse(a.Issued) },
		"the last two Serials fall": func(a *impl.Acme) { a.Issued[2], a.Issued[3] = a.Issued[3], a.Issued[2] },
	}
}

func TestAcmeRight(t *testing.T) {
	for what, a := range rightAcmes() {
		if !impl.AcmeRight(a) || !plainAcmeRight(a) {
			t.Errorf("AcmeRight of %s: got false: %+v", what, a)
		}
	}
	for what, a := range wrongAcmes() {
		if impl.AcmeRight(a) || plainAcmeRight(a) {
			t.Errorf("AcmeRight of %s: got true: %+v", what, a)
		}
	}
}

func TestAcmeNew(t *testing.T) {
	for _, x := range someSecrets() {
		if got := impl.AcmeNew(x); !sameAcme(got, impl.Acme{Secret: x, Next: 2}) || !impl.AcmeRight(got) {
			t.Errorf("AcmeNew of %d: got %+v", x, got)
		}
	}
	for _, x := range noSecrets() {
		if got := impl.AcmeNew(x); !sameAcme(got, impl.Acme{}) || impl.AcmeRight(got) {
			t.Errorf("AcmeNew of %d: got %+v", x, got)
		}
	}
}

func TestAcmeRoot(t *testing.T) {
	for what, a := range rightAcmes() {
		given := roomy(a)
		got := impl.AcmeRoot(given)
		key := bigPower(impl.GroupG, a.Secret, impl.GroupP)
		want := impl.CertSign(a.Secret, impl.Cert{Serial: 1, Issuer: "root", Subject: "root", From: 0, To: 1000000000, Key: key, Ca: true})
		if !sameCert(got, want) || !impl.CertGood(key, got) || !sameAcme(given, a) {
			t.Errorf("AcmeRoot of %s: got %+v, want %+v", what, got, want)
		}
		checkNew(t, "AcmeRoot of "+what, got, given)
	}
	for what, a := range wrongAcmes() {
		if got := impl.AcmeRoot(a); !sameCert(got, impl.Cert{}) {
			t.Errorf("AcmeRoot of %s: got %+v", what, got)
		}
	}
}

func TestAcmeCrl(t *testing.T) {
	all := rightAcmes()
	for bits := range 16 {
		all[fmt.Sprint("revoked ", bits)] = changeAcme(func(a *impl.Acme) {
			for i := range a.Issued {
				a.Issued[i].Revoked = bits>>i&1 == 1
			}
		})
	}
	all["all revoked"] = bareAcme(func(a *impl.Acme) {
		a.Issued = manyIssued(20, 2)
		for i := range a.Issued {
			a.Issued[i].Revoked = true
		}
	})
	for what, a := range all {
		var serials []int64
		for _, one := range a.Issued {
			if one.Revoked {
				serials = append(serials, one.Cert.Serial)
			}
		}
		given := roomy(a)
		got := impl.AcmeCrl(given)
		want := impl.CrlSign(a.Secret, impl.Crl{Issuer: "root", At: a.Clock, Next: a.Clock + 50, Serials: serials})
		if !sameCrl(got, want) || !impl.CrlGood(impl.AcmeRoot(a).Key, got) || !sameAcme(given, a) {
			t.Errorf("AcmeCrl of %s: got %+v, want %+v", what, got, want)
		}
		checkNew(t, "AcmeCrl of "+what, got, given)
	}
	for what, a := range wrongAcmes() {
		if got := impl.AcmeCrl(a); !sameCrl(got, impl.Crl{}) {
			t.Errorf("AcmeCrl of %s: got %+v", what, got)
		}
	}
}

func TestCallsOfWrongAcmes(t *testing.T) {
	wrong := impl.AcmeOut{Code: impl.ErrForm}
	for what, a := range wrongAcmes() {
		checkCall(t, "NewNonce of "+what, a, impl.NewNonce, wrong)
		for _, n := range []int64{-1, 0, 1, mostTick + 1} {
			checkCall(t, fmt.Sprint("Tick ", n, " of ", what), a, func(a impl.Acme) impl.AcmeOut { return impl.Tick(a, n) }, wrong)
			checkCall(t, fmt.Sprint("Probe ", n, " of ", what), a, func(a impl.Acme) impl.AcmeOut { return impl.Probe(a, n, true) }, wrong)
		}
		for _, text := range []string{"", "x", impl.JwsSign(ann, 5, "account", ""), impl.JwsSign(ann, 1, "account", ""), strings.Repeat("x", impl.MaxBytes)} {
			checkCall(t, "Handle of "+what, a, func(a impl.Acme) impl.AcmeOut { return impl.Handle(a, text) }, wrong)
		}
		for _, text := range tooLongTexts() {
			checkCall(t, "Handle, too long, of "+what, a, func(a impl.Acme) impl.AcmeOut { return impl.Handle(a, text) }, impl.AcmeOut{Code: impl.ErrSize})
		}
	}
}

func checkNonce(t *testing.T, what string, a impl.Acme, want impl.AcmeOut) {
	t.Helper()
	checkCall(t, "NewNonce of "+what, a, impl.NewNonce, want)
}

func TestNewNonce(t *testing.T) {
	for what, a := range rightAcmes() {
		want := impl.AcmeOut{Code: impl.ErrFull}
		if a.Next < mostNext {
			want = impl.AcmeOut{Acme: cloneAcme(a), N: a.Next}
			want.Acme.Nonces = slices.Concat(a.Nonces, []int64{a.Next})
			want.Acme.Nonces = want.Acme.Nonces[max(0, len(want.Acme.Nonces)-8):]
			want.Acme.Next++
		}
		checkNonce(t, what, a, want)
	}
	of := func(next int64, nonces ...int64) impl.Acme {
		return impl.Acme{Secret: office, Next: next, Nonces: nonces}
	}
	checkNonce(t, "none", of(2), impl.AcmeOut{Acme: of(3, 2), N: 2})
	checkNonce(t, "one", of(9, 4), impl.AcmeOut{Acme: of(10, 4, 9), N: 9})
	checkNonce(t, "MaxNonces less 1", of(20, 2, 3, 4, 5, 6, 7, 19), impl.AcmeOut{Acme: of(21, 2, 3, 4, 5, 6, 7, 19, 20), N: 20})
	checkNonce(t, "MaxNonces", of(20, 2, 3, 4, 5, 6, 7, 8, 19), impl.AcmeOut{Acme: of(21, 3, 4, 5, 6, 7, 8, 19, 20), N: 20})
	checkNonce(t, "the last Next but one", of(899998), impl.AcmeOut{Acme: of(899999, 899998), N: 899998})
	checkNonce(t, "Next 899999", of(899999, 7), impl.AcmeOut{Acme: of(900000, 7, 899999), N: 899999})
	checkNonce(t, "Next 899999 and MaxNonces", of(899999, 2, 3, 4, 5, 6, 7, 8, 19), impl.AcmeOut{Acme: of(900000, 3, 4, 5, 6, 7, 8, 19, 899999), N: 899999})
	checkNonce(t, "Next 900000", of(900000), impl.AcmeOut{Code: impl.ErrFull})
	checkNonce(t, "Next 900000 and MaxNonces", of(900000, 2, 3, 4, 5, 6, 7, 8, 899999), impl.AcmeOut{Code: impl.ErrFull})
}

func TestTick(t *testing.T) {
	for what, a := range rightAcmes() {
		for _, n := range append(beyondNumbers(), 0, 1, 50, 99999, mostTick, mostTick+1, mostClock, mostClock+1) {
			want := impl.AcmeOut{Code: impl.ErrForm}
			if n >= 0 && n <= 100000 {
				want.Code = impl.ErrFull
			}
			if want.Code == impl.ErrFull && a.Clock+n <= 900000 {
				want = impl.AcmeOut{Acme: cloneAcme(a)}
				want.Acme.Clock += n
			}
			checkCall(t, fmt.Sprint("Tick ", n, " of ", what), a, func(a impl.Acme) impl.AcmeOut { return impl.Tick(a, n) }, want)
		}
	}
	of := func(clock int64) impl.Acme { return impl.Acme{Secret: office, Clock: clock, Next: 2} }
	for _, c := range []struct{ clock, n, to, code int64 }{
		{0, 0, 0, impl.OK}, {0, 100000, 100000, impl.OK}, {7, -1, 0, impl.ErrForm}, {0, 100001, 0, impl.ErrForm},
		{800000, 100000, 900000, impl.OK}, {800001, 100000, 0, impl.ErrFull}, {800001, 99999, 900000, impl.OK},
		{899999, 1, 900000, impl.OK}, {899999, 2, 0, impl.ErrFull}, {900000, 0, 900000, impl.OK}, {900000, 1, 0, impl.ErrFull},
		{900000, 100001, 0, impl.ErrForm}, {900000, -1, 0, impl.ErrForm},
	} {
		want := impl.AcmeOut{Code: c.code}
		if c.code == impl.OK {
			want.Acme = of(c.to)
		}
		checkCall(t, fmt.Sprint("Tick ", c), of(c.clock), func(a impl.Acme) impl.AcmeOut { return impl.Tick(a, c.n) }, want)
	}
}

func checkProbe(t *testing.T, what string, a impl.Acme, n int64, good bool, want impl.AcmeOut) {
	t.Helper()
	checkCall(t, fmt.Sprint("Probe ", n, good, " of ", what), a, func(a impl.Acme) impl.AcmeOut { return impl.Probe(a, n, good) }, want)
}

func TestProbe(t *testing.T) {
	for _, until := range []int64{0, 1, 98, 99, 100, 101, 120, 200, 201, mostUntil} {
		for status := int64(1); status <= 4; status++ {
			a := changeAcme(func(a *impl.Acme) { a.Auths[2] = auth(1, "aa", status, until) })
			good, bad := impl.AcmeOut{Code: impl.ErrState}, impl.AcmeOut{Code: impl.ErrState}
			if status == 2 && until >= 100 {
				good = impl.AcmeOut{Acme: changeAcme(func(a *impl.Acme) { a.Auths[2] = auth(1, "aa", 3, 200) })}
				bad = impl.AcmeOut{Acme: changeAcme(func(a *impl.Acme) { a.Auths[2] = auth(1, "aa", 4, until) })}
			}
			checkProbe(t, fmt.Sprint("the Status ", status, ", Until ", until), a, 2, true, good)
			checkProbe(t, fmt.Sprint("the Status ", status, ", Until ", until), a, 2, false, bad)
		}
	}
	for _, n := range append(beyondNumbers(), 8, 9, 1<<32+2) {
		checkProbe(t, "the plain one", plainAcme(), n, true, impl.AcmeOut{Code: impl.ErrNone})
		checkProbe(t, "the plain one", plainAcme(), n, false, impl.AcmeOut{Code: impl.ErrNone})
	}
	checkProbe(t, "a new one", impl.AcmeNew(office), 0, true, impl.AcmeOut{Code: impl.ErrNone})
}

func TestProbeOfTheLastAndAtTheLastClock(t *testing.T) {
	last := func(status int64, until int64) impl.Acme {
		return changeAcme(func(a *impl.Acme) { a.Clock = mostClock; a.Auths[7] = auth(0, "ee", status, until) })
	}
	checkProbe(t, "the last Auth", last(2, mostClock), 7, true, impl.AcmeOut{Acme: last(3, mostClock+100)})
	checkProbe(t, "the last Auth", last(2, mostUntil), 7, true, impl.AcmeOut{Acme: last(3, mostClock+100)})
	checkProbe(t, "the last Auth", last(2, mostUntil), 7, false, impl.AcmeOut{Acme: last(4, mostUntil)})
	checkProbe(t, "the last Auth, too late", last(2, mostClock-1), 7, true, impl.AcmeOut{Code: impl.ErrState})
	checkProbe(t, "an Account that is not Live", changeAcme(func(a *impl.Acme) { a.Auths[5].Status = 2 }), 5, true,
		impl.AcmeOut{Acme: changeAcme(func(a *impl.Acme) { a.Auths[5] = auth(2, "zz", 3, 200) })})
}
