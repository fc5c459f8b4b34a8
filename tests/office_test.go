package tests

import (
	"encoding/binary"
	"fmt"
	"reflect"
	"slices"
	"strings"
	"testing"
	"unsafe"

	"loop.example/g00371/impl"
)

const (
	mostClock = 900000
	mostNext  = 900000
	mostUntil = 950000
	mostTick  = 100000
	office    = 77
	ann       = 5
	bob       = 6
	cid       = 7
	stranger  = 8
)

func account(secret int64, live bool) impl.Account {
	return impl.Account{Key: impl.PublicOf(secret), Live: live}
}

func auth(account int64, name string, status int64, until int64) impl.Auth {
	return impl.Auth{Account: account, Name: name, Status: status, Until: until}
}

func order(account int64, status int64, until int64, auths ...int64) impl.Order {
	return impl.Order{Account: account, Auths: auths, Status: status, Until: until}
}

func done(account int64, serial int64, auths ...int64) impl.Order {
	return impl.Order{Account: account, Auths: auths, Status: 3, Serial: serial}
}

func issued(account int64, revoked bool, c impl.Cert) impl.Issued {
	return impl.Issued{Cert: c, Account: account, Revoked: revoked}
}

// paper is one that the office has made out at that time.
func paper(serial int64, from int64, names ...string) impl.Cert {
	return impl.CertSign(office, impl.Cert{Serial: serial, Issuer: "root", Subject: "client", From: from, To: from + 200,
		Key: impl.PublicOf(1000 + serial), Names: names})
}

// plainAcme is right. Ann and Bob have Accounts that are Live, Cid one that is not, and others none.
func plainAcme() impl.Acme {
	return impl.Acme{
		Secret: office, Clock: 100, Next: 30,
		Nonces:   []int64{5, 9, 25},
		Accounts: []impl.Account{account(ann, true), account(bob, true), account(cid, false)},
		Auths: []impl.Auth{
			auth(0, "aa", 3, 150), auth(0, "bb", 1, 120), auth(1, "aa", 2, 130), auth(1, "bb", 3, 140),
			auth(0, "cc", 3, 100), auth(2, "zz", 3, 110), auth(0, "dd", 4, 0), auth(0, "ee", 2, 100),
		},
		Orders: []impl.Order{
			order(0, 1, 140, 0, 4), order(0, 1, 100, 0, 1), done(1, 11, 3), order(1, 1, 150, 2, 3),
			order(2, 2, 120, 5), order(0, 4, 0, 6), done(0, 0, 1),
		},
		Issued: []impl.Issued{
			issued(0, true, paper(3, 50, "aa")), issued(1, false, paper(11, 60, "bb")),
			issued(2, false, paper(28, 70, "yy", "zz")), issued(0, false, paper(29, 80, "aa")),
		},
	}
}

// changeAcme is plainAcme, with what is done to it.
func changeAcme(how func(a *impl.Acme)) impl.Acme {
	a := plainAcme()
	how(&a)
	return a
}

// bareAcme is right, and has but an Account of Ann that is Live, and a nonce.
func bareAcme(how func(a *impl.Acme)) impl.Acme {
	a := impl.Acme{Secret: office, Clock: 100, Next: 30, Nonces: []int64{29}, Accounts: []impl.Account{account(ann, true)}}
	how(&a)
	return a
}

func cloneCert(c impl.Cert) impl.Cert {
	c.Issuer, c.Subject, c.Names = strings.Clone(c.Issuer), strings.Clone(c.Subject), cloneTexts(c.Names)
	return c
}

func cloneTexts(texts []string) []string {
	all := slices.Clone(texts)
	for i := range all {
		all[i] = strings.Clone(all[i])
	}
	return all
}

func cloneAcme(a impl.Acme) impl.Acme {
	a.Nonces, a.Accounts = slices.Clone(a.Nonces), slices.Clone(a.Accounts)
	a.Auths, a.Orders, a.Issued = slices.Clone(a.Auths), slices.Clone(a.Orders), slices.Clone(a.Issued)
	for i := range a.Auths {
		a.Auths[i].Name = strings.Clone(a.Auths[i].Name)
	}
	for i := range a.Orders {
		a.Orders[i].Auths = slices.Clone(a.Orders[i].Auths)
	}
	for i := range a.Issued {
		a.Issued[i].Cert = cloneCert(a.Issued[i].Cert)
	}
	return a
}

// toTheirCaps is a copy with all that stands in the lists' memory, behind their ends too.
func toTheirCaps(a impl.Acme) impl.Acme {
	a.Nonces, a.Accounts, a.Auths = a.Nonces[:cap(a.Nonces)], a.Accounts[:cap(a.Accounts)], a.Auths[:cap(a.Auths)]
	a.Orders, a.Issued = slices.Clone(a.Orders[:cap(a.Orders)]), slices.Clone(a.Issued[:cap(a.Issued)])
	for i, o := range a.Orders {
		a.Orders[i].Auths = o.Auths[:cap(o.Auths)]
	}
	for i, one := range a.Issued {
		a.Issued[i].Cert.Names = one.Cert.Names[:cap(one.Cert.Names)]
	}
	return cloneAcme(a)
}

// roomy is the same, but each list has room behind its end, in which something stands.
func roomy(a impl.Acme) impl.Acme {
	a = cloneAcme(a)
	a.Nonces, a.Accounts = withRoom(a.Nonces, 700), withRoom(a.Accounts, account(700, true))
	a.Auths, a.Orders = withRoom(a.Auths, auth(7, "room", 7, 7)), withRoom(a.Orders, order(7, 7, 7, 7))
	a.Issued = withRoom(a.Issued, issued(7, true, impl.Cert{Serial: 7}))
	for i, o := range a.Orders {
		a.Orders[i].Auths = withRoom(o.Auths, 700)
	}
	for i, one := range a.Issued {
		a.Issued[i].Cert.Names = withRoom(one.Cert.Names, "room")
	}
	return a
}

func withRoom[T any](list []T, behind T) []T {
	size := len(list)
	return append(slices.Clone(list), behind, behind, behind)[:size]
}

func sameAcme(a impl.Acme, b impl.Acme) bool {
	sameOrder := func(c impl.Order, d impl.Order) bool {
		return c.Account == d.Account && slices.Equal(c.Auths, d.Auths) && c.Status == d.Status && c.Until == d.Until && c.Serial == d.Serial
	}
	sameIssued := func(c impl.Issued, d impl.Issued) bool {
		return c.Account == d.Account && c.Revoked == d.Revoked && sameCert(c.Cert, d.Cert)
	}
	return a.Secret == b.Secret && a.Clock == b.Clock && a.Next == b.Next && slices.Equal(a.Nonces, b.Nonces) &&
		slices.Equal(a.Accounts, b.Accounts) && slices.Equal(a.Auths, b.Auths) &&
		slices.EqualFunc(a.Orders, b.Orders, sameOrder) && slices.EqualFunc(a.Issued, b.Issued, sameIssued)
}

func sameOut(a impl.AcmeOut, b impl.AcmeOut) bool {
	return a.Told == b.Told && a.N == b.N && a.Code == b.Code && sameAcme(a.Acme, b.Acme)
}

// memory is where a list or a text stands.
type memory struct {
	from, to uintptr
	what     string
	list     bool
}

func memoriesOf(v reflect.Value, what string) []memory {
	var all []memory
	switch v.Kind() {
	case reflect.String:
		if text := v.String(); text != "" {
			from := uintptr(unsafe.Pointer(unsafe.StringData(text)))
			all = append(all, memory{from, from + uintptr(len(text)), what, false})
		}
	case reflect.Slice:
		if v.Cap() > 0 {
			all = append(all, memory{v.Pointer(), v.Pointer() + uintptr(v.Cap())*v.Type().Elem().Size(), what, true})
		}
		for i := range v.Len() {
			all = append(all, memoriesOf(v.Index(i), fmt.Sprint(what, "[", i, "]"))...)
		}
	case reflect.Struct:
		for i := range v.NumField() {
			all = append(all, memoriesOf(v.Field(i), what+"."+v.Type().Field(i).Name)...)
		}
	}
	return all
}

// checkNew checks that an answer shares no memory with what was handed in, and its lists none with each other.
func checkNew(t *testing.T, what string, answer any, given ...any) {
	t.Helper()
	answered := memoriesOf(reflect.ValueOf(answer), "the answer")
	for _, one := range given {
		for _, b := range memoriesOf(reflect.ValueOf(one), "what was handed in") {
			for _, a := range answered {
				if a.from < b.to && b.from < a.to {
					t.Errorf("%s: %s shares memory with %s", what, a.what, b.what)
				}
			}
		}
	}
	for i, a := range answered {
		for _, b := range answered[:i] {
			if a.list && b.list && a.from < b.to && b.from < a.to {
				t.Errorf("%s: %s shares memory with %s", what, a.what, b.what)
			}
		}
	}
}

// checkCall checks a call's answer; that it leaves what was handed in as it was, and shares no memory with
// it; and that with a right office it answers a right one, or none (promise 11).
func checkCall(t *testing.T, what string, a impl.Acme, call func(a impl.Acme) impl.AcmeOut, want impl.AcmeOut) impl.AcmeOut {
	t.Helper()
	given := roomy(a)
	before := toTheirCaps(given)
	got := call(given)
	if !sameOut(got, want) {
		t.Errorf("%s: got %+v, want %+v", what, got, want)
	}
	if !reflect.DeepEqual(toTheirCaps(given), before) {
		t.Errorf("%s changes what was handed in", what)
	}
	checkNew(t, what, got, given)
	if !sameAcme(got.Acme, impl.Acme{}) && !impl.AcmeRight(got.Acme) {
		t.Errorf("%s: what is answered is not right: %+v", what, got.Acme)
	}
	return got
}

// plainAcmeRight tells of an office as the document's sentences do.
func plainAcmeRight(a impl.Acme) bool {
	if !(1 <= a.Secret && a.Secret < impl.GroupQ && 0 <= a.Clock && a.Clock <= 900000 && 2 <= a.Next && a.Next <= 900000) {
		return false
	}
	if len(a.Nonces) > 8 || len(a.Accounts) > 6 || len(a.Auths) > 20 || len(a.Orders) > 12 || len(a.Issued) > 20 {
		return false
	}
	last := int64(1)
	for _, n := range a.Nonces {
		if n <= last || n >= a.Next {
			return false
		}
		last = n
	}
	keys := map[int64]int{}
	for _, one := range a.Accounts {
		keys[one.Key]++
		if one.Key == 1 || !inGroup(one.Key) || keys[one.Key] > 1 {
			return false
		}
	}
	for _, one := range a.Auths {
		if one.Account < 0 || one.Account >= int64(len(a.Accounts)) || !plainName(one.Name) || one.Status < 1 || one.Status > 4 || one.Until < 0 || one.Until > 950000 {
			return false
		}
	}
	return plainIssuedRight(a) && plainOrdersRight(a)
}

func plainIssuedRight(a impl.Acme) bool {
	last := int64(1)
	for _, one := range a.Issued {
		c := one.Cert
		if one.Account < 0 || one.Account >= int64(len(a.Accounts)) || c.Issuer != "root" || c.Serial <= last || c.Serial >= a.Next ||
			!impl.CertGood(bigPower(impl.GroupG, a.Secret, impl.GroupP), c) {
			return false
		}
		last = c.Serial
	}
	return true
}

func plainOrdersRight(a impl.Acme) bool {
	serials := map[int64]bool{}
	for _, one := range a.Issued {
		serials[one.Cert.Serial] = true
	}
	for _, o := range a.Orders {
		if o.Account < 0 || o.Account >= int64(len(a.Accounts)) || len(o.Auths) < 1 || len(o.Auths) > 5 || o.Status < 1 || o.Status > 4 ||
			o.Until < 0 || o.Until > 950000 || o.Serial != 0 && (o.Status != 3 || !serials[o.Serial]) {
			return false
		}
		last, names := int64(-1), map[string]bool{}
		for _, n := range o.Auths {
			if n <= last || n >= int64(len(a.Auths)) || a.Auths[n].Account != o.Account || names[a.Auths[n].Name] {
				return false
			}
			last, names[a.Auths[n].Name] = n, true
		}
	}
	return true
}

// plainAuth is what an Auth's Status counts as, plainOrder what an Order's does.
func plainAuth(a impl.Acme, n int64) int64 {
	if a.Auths[n].Status != 4 && a.Auths[n].Until < a.Clock {
		return 4
	}
	return a.Auths[n].Status
}

func plainOrder(a impl.Acme, n int64) int64 {
	o := a.Orders[n]
	waits, bad, all := o.Status == 1 || o.Status == 2, o.Until < a.Clock, true
	for _, k := range o.Auths {
		bad = bad || plainAuth(a, k) == 4
		all = all && plainAuth(a, k) == 3
	}
	if waits && bad {
		return 4
	}
	if o.Status == 1 && all {
		return 2
	}
	return o.Status
}

// cutNumber is the number at the head of a text, and what stands behind it.
func cutNumber(text string) (int64, string, bool) {
	n, size := binary.Varint([]byte(text))
	if size <= 0 || standardNum(n) != text[:size] {
		return 0, "", false
	}
	return n, text[size:], true
}

func cutText(text string) (string, string, bool) {
	size, rest, ok := cutNumber(text)
	if !ok || size < 0 || size > int64(len(rest)) {
		return "", "", false
	}
	return rest[:size], rest[size:], true
}

// plainHandle does what the document's sentences say.
func plainHandle(a impl.Acme, text string) impl.AcmeOut {
	if len(text) > 20000 {
		return impl.AcmeOut{Code: impl.ErrSize}
	}
	if !plainAcmeRight(a) {
		return impl.AcmeOut{Code: impl.ErrForm}
	}
	j := impl.JwsRead(text)
	if j.Code != impl.OK {
		return impl.AcmeOut{Code: j.Code}
	}
	at := slices.Index(a.Nonces, j.Jws.Nonce)
	if at < 0 {
		return impl.AcmeOut{Code: impl.ErrNonce}
	}
	a = cloneAcme(a)
	a.Nonces = slices.Delete(a.Nonces, at, at+1)
	got := plainServe(cloneAcme(a), j.Jws)
	if got.Code != impl.OK {
		return impl.AcmeOut{Acme: a, Code: got.Code}
	}
	return got
}

func plainServe(a impl.Acme, j impl.Jws) impl.AcmeOut {
	who := int64(slices.IndexFunc(a.Accounts, func(one impl.Account) bool { return one.Key == j.Key }))
	live := who >= 0 && a.Accounts[who].Live
	switch j.Url {
	case "account", "close":
		if j.Body != "" {
			return impl.AcmeOut{Code: impl.ErrSyntax}
		}
		if j.Url == "close" {
			return plainClose(a, who, live)
		}
		return plainEnter(a, who, j.Key)
	case "order":
		names, ok := plainNames(j.Body)
		if !ok {
			return impl.AcmeOut{Code: impl.ErrSyntax}
		}
		if !live {
			return impl.AcmeOut{Code: impl.ErrNone}
		}
		return plainOrderOf(a, who, names)
	}
	n, rest, ok := cutNumber(j.Body)
	csr, behind := "", rest
	if j.Url == "finish" && ok {
		csr, behind, ok = cutText(rest)
	}
	if !ok || n < 0 || behind != "" || !slices.Contains([]string{"ask", "state", "finish", "revoke"}, j.Url) {
		return impl.AcmeOut{Code: impl.ErrSyntax}
	}
	if !live || !plainHas(a, who, j.Url, n) {
		return impl.AcmeOut{Code: impl.ErrNone}
	}
	return plainDo(a, who, j, n, csr)
}

func plainEnter(a impl.Acme, who int64, key int64) impl.AcmeOut {
	if who < 0 && len(a.Accounts) == 6 {
		return impl.AcmeOut{Code: impl.ErrFull}
	}
	if who < 0 {
		who = int64(len(a.Accounts))
		a.Accounts = append(a.Accounts, impl.Account{Key: key, Live: true})
	}
	return impl.AcmeOut{Acme: a, N: who}
}

func plainClose(a impl.Acme, who int64, live bool) impl.AcmeOut {
	if !live {
		return impl.AcmeOut{Code: impl.ErrNone}
	}
	a.Accounts[who].Live = false
	return impl.AcmeOut{Acme: a}
}

func plainNames(body string) ([]string, bool) {
	count, rest, ok := cutNumber(body)
	if !ok || count < 1 || count > 5 {
		return nil, false
	}
	var names []string
	for range count {
		var name string
		if name, rest, ok = cutText(rest); !ok || !plainName(name) || len(names) > 0 && names[len(names)-1] >= name {
			return nil, false
		}
		names = append(names, name)
	}
	return names, rest == ""
}

func plainOrderOf(a impl.Acme, who int64, names []string) impl.AcmeOut {
	var auths []int64
	for _, name := range names {
		found := map[int64][]int64{}
		for i, one := range a.Auths {
			if one.Account == who && one.Name == name {
				status := plainAuth(a, int64(i))
				if status == 2 {
					status = 1
				}
				found[status] = append(found[status], int64(i))
			}
		}
		if len(found[3])+len(found[1]) == 0 {
			if len(a.Auths) == 20 {
				return impl.AcmeOut{Code: impl.ErrFull}
			}
			found[1] = []int64{int64(len(a.Auths))}
			a.Auths = append(a.Auths, auth(who, name, 1, a.Clock+50))
		}
		auths = append(auths, slices.Concat(found[3], found[1])[0])
	}
	if len(a.Orders) == 12 {
		return impl.AcmeOut{Code: impl.ErrFull}
	}
	slices.Sort(auths)
	a.Orders = append(a.Orders, order(who, 1, a.Clock+50, auths...))
	return impl.AcmeOut{Acme: a, N: int64(len(a.Orders) - 1)}
}

func plainHas(a impl.Acme, who int64, url string, n int64) bool {
	switch url {
	case "ask":
		return n < int64(len(a.Auths)) && a.Auths[n].Account == who
	case "revoke":
		at := slices.IndexFunc(a.Issued, func(one impl.Issued) bool { return one.Cert.Serial == n })
		return at >= 0 && a.Issued[at].Account == who
	}
	return n < int64(len(a.Orders)) && a.Orders[n].Account == who
}

func plainDo(a impl.Acme, who int64, j impl.Jws, n int64, csr string) impl.AcmeOut {
	switch j.Url {
	case "ask":
		if plainAuth(a, n) != 1 {
			return impl.AcmeOut{Code: impl.ErrState}
		}
		a.Auths[n].Status = 2
	case "state":
		return impl.AcmeOut{Acme: a, N: plainOrder(a, n)}
	case "revoke":
		at := slices.IndexFunc(a.Issued, func(one impl.Issued) bool { return one.Cert.Serial == n })
		if a.Issued[at].Revoked {
			return impl.AcmeOut{Code: impl.ErrRevoked}
		}
		a.Issued[at].Revoked = true
	case "finish":
		return plainFinish(a, who, j.Key, n, csr)
	}
	return impl.AcmeOut{Acme: a}
}

func plainFinish(a impl.Acme, who int64, key int64, n int64, csr string) impl.AcmeOut {
	if plainOrder(a, n) != 2 {
		return impl.AcmeOut{Code: impl.ErrState}
	}
	c := impl.CsrRead(csr)
	if c.Code != impl.OK {
		return impl.AcmeOut{Code: c.Code}
	}
	names := map[string]int{}
	for _, k := range a.Orders[n].Auths {
		names[a.Auths[k].Name]++
	}
	for _, name := range c.Csr.Names {
		names[name]--
	}
	for _, count := range names {
		if count != 0 {
			return impl.AcmeOut{Code: impl.ErrNames}
		}
	}
	if c.Csr.Key == key {
		return impl.AcmeOut{Code: impl.ErrNames}
	}
	if len(a.Issued) == 20 || a.Next == 900000 {
		return impl.AcmeOut{Code: impl.ErrFull}
	}
	made := impl.CertSign(a.Secret, impl.Cert{Serial: a.Next, Issuer: "root", Subject: "client", From: a.Clock, To: a.Clock + 200, Key: c.Csr.Key, Names: c.Csr.Names})
	a.Issued = append(a.Issued, issued(who, false, made))
	a.Orders[n].Status, a.Orders[n].Serial = 3, a.Next
	a.Next++
	return impl.AcmeOut{Acme: a, Told: impl.CertBytes(made), N: made.Serial}
}
