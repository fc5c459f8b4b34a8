package tests

import (
	"fmt"
	"math"
	"slices"
	"strings"
	"testing"

	"loop.example/g00371/impl"
)

// path is what is asked of, and by which secrets its papers and its list are signed.
type path struct {
	root, c                         impl.Cert
	l                               impl.Crl
	time                            int64
	rootSecret, cSecret, listSecret int64
}

// plainPath is good at its time, once it is signed.
func plainPath() path {
	return path{
		root:       impl.Cert{Serial: 1, Issuer: "root", Subject: "root", From: 10, To: 90, Key: impl.PublicOf(5), Ca: true},
		c:          impl.Cert{Serial: 7, Issuer: "root", Subject: "ann", From: 20, To: 80, Key: impl.PublicOf(6), Names: []string{"a", "b", "c-9"}},
		l:          impl.Crl{Issuer: "root", At: 30, Next: 70, Serials: []int64{1, 6, 8}},
		time:       50,
		rootSecret: 5, cSecret: 5, listSecret: 5,
	}
}

func (p path) signed() path {
	p.root = impl.CertSign(p.rootSecret, p.root)
	p.c = impl.CertSign(p.cSecret, p.c)
	p.l = impl.CrlSign(p.listSecret, p.l)
	return p
}

// ahead is plainPath, with what is done to it ahead of the signing.
func ahead(how func(p *path)) path {
	p := plainPath()
	how(&p)
	return p.signed()
}

// behind is plainPath, with what is done to it behind the signing.
func behind(how func(p *path)) path {
	p := plainPath().signed()
	how(&p)
	return p
}

func (p path) check(t *testing.T, what string, want int64) {
	t.Helper()
	if got := impl.PathCheck(p.root, p.c, p.l, p.time); got != want {
		t.Errorf("PathCheck of %s: got %d, want %d: %+v", what, got, want, p)
	}
}

func (p path) checkName(t *testing.T, what string, name string, want bool) {
	t.Helper()
	if got := impl.PathName(p.root, p.c, p.l, p.time, name); got != want {
		t.Errorf("PathName of %s, %q: got %v, want %v: %+v", what, firstBytes(name), got, want, p)
	}
}

func TestPlainPath(t *testing.T) {
	plainPath().signed().check(t, "the plain one", impl.OK)
}

type window struct{ first, last int64 }

func windowsTo(most int64) []window {
	var all []window
	for first := range most + 1 {
		for last := first; last <= most; last++ {
			all = append(all, window{first, last})
		}
	}
	return all
}

func (w window) has(time int64) bool {
	return time >= w.first && time <= w.last
}

func timesCode(time int64, root window, c window, list window) int64 {
	if !root.has(time) || !c.has(time) {
		return impl.ErrExpired
	}
	if !list.has(time) {
		return impl.ErrNone
	}
	return impl.OK
}

// checkWindows asks of each root's, each paper's and each list's window at each of these times.
func checkWindows(t *testing.T, windows []window, times []int64) {
	t.Helper()
	var all []path
	for _, w := range windows {
		all = append(all, ahead(func(p *path) {
			p.root.From, p.root.To = w.first, w.last
			p.c.From, p.c.To = w.first, w.last
			p.l.At, p.l.Next = w.first, w.last
		}))
	}
	for i, root := range all {
		for j, c := range all {
			for k, list := range all {
				for _, time := range times {
					p := path{root: root.root, c: c.c, l: list.l, time: time}
					p.check(t, "some windows", timesCode(time, windows[i], windows[j], windows[k]))
				}
			}
		}
	}
}

// Promise 9: good at each time at which root, paper and list are, and at no other.
func TestPathAtEachTime(t *testing.T) {
	checkWindows(t, windowsTo(3), []int64{0, 1, 2, 3, 4})
	const most = impl.MaxTime
	checkWindows(t, []window{{0, most}, {0, 0}, {0, most - 1}, {1, most}, {most - 1, most - 1}, {most - 1, most}, {most, most}},
		[]int64{0, 1, most - 2, most - 1, most})
	p := plainPath().signed()
	for time := int64(0); time <= 100; time++ {
		p.time = time
		p.check(t, fmt.Sprint("the plain one at ", time), timesCode(time, window{10, 90}, window{20, 80}, window{30, 70}))
	}
}

// The six ends stand at six times, in each order in which the three windows may stand to each other.
func TestPathOneBeforeAndOneBehindEachEnd(t *testing.T) {
	ends := []int64{100, 200, 300, 400, 500, 600}
	var windows []window
	for i, first := range ends {
		for _, last := range ends[i+1:] {
			windows = append(windows, window{first, last})
		}
	}
	var times []int64
	for _, end := range ends {
		times = append(times, end-1, end, end+1)
	}
	checkWindows(t, windows, times)
}

// Promise 9: till its serial is listed.
func TestPathTillTheSerialIsListed(t *testing.T) {
	many := func(first int64) []int64 { return manySerials(impl.MaxRevoked, first+impl.MaxRevoked-1) }
	lists := map[string][]int64{
		"none": nil, "an empty list": {}, "its only one": {7}, "its first": {7, 8, 9}, "its last": {1, 6, 7}, "one between": {6, 7, 8},
		"first of two": {7, impl.MaxTime}, "last of two": {1, 7}, "those next to it": {6, 8}, "lower ones": {1, 2, 6}, "higher ones": {8, 9, impl.MaxTime},
		"one lower": {6}, "one higher": {8}, "like digits": {17, 70, 77}, "the root's": {1}, "as great in its low bits": {7 + 1<<8, 7 + 1<<16},
		"MaxRevoked, from 7": many(7), "MaxRevoked, from 8": many(8), "MaxRevoked, from 1": many(1),
	}
	for what, serials := range lists {
		want := int64(impl.OK)
		if slices.Contains(serials, 7) {
			want = impl.ErrRevoked
		}
		p := ahead(func(p *path) { p.l.Serials = serials })
		p.check(t, "a list of "+what, want)
		p.checkName(t, "a list of "+what, "a", want == impl.OK)
	}
	for n := int64(1); n <= impl.MaxRevoked+2; n++ {
		want := int64(impl.ErrRevoked)
		if n == 1 || n == impl.MaxRevoked+2 {
			want = impl.OK
		}
		p := ahead(func(p *path) { p.c.Serial, p.l.Serials = n, many(2) })
		p.check(t, fmt.Sprint("the Serial ", n, " and MaxRevoked of them from 2"), want)
	}
	for _, n := range []int64{1, 2, impl.MaxTime - 1, impl.MaxTime} {
		ahead(func(p *path) { p.c.Serial, p.l.Serials = n, []int64{n} }).check(t, fmt.Sprint("the Serial ", n, " alone"), impl.ErrRevoked)
		ahead(func(p *path) { p.c.Serial, p.l.Serials = n, []int64{1, impl.MaxTime} }).check(t, fmt.Sprint("the Serial ", n, " and both ends"),
			map[bool]int64{true: impl.ErrRevoked, false: impl.OK}[n == 1 || n == impl.MaxTime])
	}
}

func TestPathOfOnesThatAreNotRight(t *testing.T) {
	for _, all := range []map[string]impl.Cert{wrongBodies(), wrongSigs(), {"the zero Cert": {}}} {
		for what, wrong := range all {
			behind(func(p *path) { p.root = wrong }).check(t, "the root with "+what, impl.ErrForm)
			behind(func(p *path) { p.c = wrong }).check(t, "the paper with "+what, impl.ErrForm)
		}
	}
	for _, all := range []map[string]impl.Crl{wrongLists(), wrongListSigs(), {"the zero Crl": {}}} {
		for what, wrong := range all {
			behind(func(p *path) { p.l = wrong }).check(t, "the list with "+what, impl.ErrForm)
		}
	}
	for _, n := range notRemainders() {
		behind(func(p *path) { p.root.Sig.E = n }).check(t, fmt.Sprint("the root's E ", n), impl.ErrForm)
		behind(func(p *path) { p.c.Sig.S = n }).check(t, fmt.Sprint("the paper's S ", n), impl.ErrForm)
		behind(func(p *path) { p.l.Sig.E = n }).check(t, fmt.Sprint("the list's E ", n), impl.ErrForm)
	}
}

func TestPathOfTimes(t *testing.T) {
	wide := func(time int64) path {
		return ahead(func(p *path) {
			p.root.From, p.root.To = 0, impl.MaxTime
			p.c.From, p.c.To = 0, impl.MaxTime
			p.l.At, p.l.Next = 0, impl.MaxTime
			p.time = time
		})
	}
	for _, time := range []int64{0, 1, impl.MaxTime - 1, impl.MaxTime} {
		wide(time).check(t, fmt.Sprint("the time ", time), impl.OK)
		wide(time).checkName(t, fmt.Sprint("the time ", time), "a", true)
	}
	for _, time := range []int64{-1, -2, impl.MaxTime + 1, impl.MaxTime + 2, 1 << 32, 1<<32 + 50, math.MinInt64, math.MinInt64 + 1, math.MaxInt64 - 1, math.MaxInt64} {
		wide(time).check(t, fmt.Sprint("the time ", time), impl.ErrForm)
		wide(time).checkName(t, fmt.Sprint("the time ", time), "a", false)
	}
	behind(func(p *path) { p.time = impl.MaxTime }).check(t, "MaxTime, where it is too late", impl.ErrExpired)
	behind(func(p *path) { p.time = impl.MaxTime + 1 }).check(t, "one more, where it is too late", impl.ErrForm)
}

func TestPathOfOtherIssuers(t *testing.T) {
	all := map[string]path{
		"not Ca":                       ahead(func(p *path) { p.root.Ca = false }),
		"not Ca, with Names":           ahead(func(p *path) { p.root.Ca, p.root.Names = false, []string{"a"} }),
		"not Ca behind the signing":    behind(func(p *path) { p.root.Ca = false }),
		"Ca behind the signing":        behind(func(p *path) { p.root.Ca = false; p.root = impl.CertSign(5, p.root); p.root.Ca = true }),
		"signed by another":            ahead(func(p *path) { p.rootSecret = 8 }),
		"with another's Key":           ahead(func(p *path) { p.root.Key = impl.PublicOf(8) }),
		"with another's Key behind it": behind(func(p *path) { p.root.Key = impl.PublicOf(8) }),
		"with another's Key, all else another's": ahead(func(p *path) {
			p.root.Key, p.cSecret, p.listSecret = impl.PublicOf(8), 8, 8
		}),
		"with Key and Sig's Key another's": behind(func(p *path) { p.root.Key, p.root.Sig.Key = impl.PublicOf(8), impl.PublicOf(8) }),
		"with the Sig of another text":     behind(func(p *path) { p.root.Sig = impl.SignText(5, "another text") }),
		"with the paper's Sig":             behind(func(p *path) { p.root.Sig = p.c.Sig }),
		"with E one more":                  behind(func(p *path) { p.root.Sig.E = (p.root.Sig.E + 1) % impl.GroupQ }),
		"with S one more":                  behind(func(p *path) { p.root.Sig.S = (p.root.Sig.S + 1) % impl.GroupQ }),
		"of another Serial":                behind(func(p *path) { p.root.Serial++ }),
		"of another Issuer":                behind(func(p *path) { p.root.Issuer = "roof" }),
		"of another Subject":               behind(func(p *path) { p.root.Subject = "roof"; p.c.Issuer = "roof"; p.c = impl.CertSign(5, p.c) }),
		"that began before":                behind(func(p *path) { p.root.From-- }),
		"that ends behind":                 behind(func(p *path) { p.root.To++ }),
		"with more Names":                  behind(func(p *path) { p.root.Names = []string{"a"} }),
		"that is the paper":                behind(func(p *path) { p.root = p.c }),
		"that is the paper, Ca": ahead(func(p *path) {
			p.c.Ca = true
			p.root = impl.CertSign(5, p.c)
		}),
	}
	for what, p := range all {
		p.check(t, "a root "+what, impl.ErrIssuer)
		p.checkName(t, "a root "+what, "a", false)
	}
	for _, name := range []string{"roo", "rootx", "root-", "r", "a", "ann", "roof", "sroot", "oot", strings.Repeat("r", 40)} {
		ahead(func(p *path) { p.c.Issuer = name }).check(t, "a paper of the Issuer "+name, impl.ErrIssuer)
		behind(func(p *path) { p.c.Issuer = name }).check(t, "a paper of the Issuer "+name+" behind the signing", impl.ErrIssuer)
		ahead(func(p *path) { p.root.Subject = name }).check(t, "a root of the Subject "+name, impl.ErrIssuer)
	}
}

// What is asked of a root's names is just if the others are issued by its Subject.
func TestPathOfRootsWithOtherNames(t *testing.T) {
	ahead(func(p *path) { p.root.Issuer = "other" }).check(t, "a root of another Issuer", impl.OK)
	ahead(func(p *path) {
		p.root.Subject = "other"
	}).check(t, "papers of the root's Issuer", impl.ErrIssuer)
	ahead(func(p *path) {
		p.root.Subject, p.c.Issuer, p.l.Issuer = "other", "other", "other"
	}).check(t, "papers of a root that is issued by another", impl.OK)
	for _, name := range []string{"z", strings.Repeat("z", 40)} {
		ahead(func(p *path) {
			p.root.Subject, p.root.Issuer, p.c.Issuer, p.l.Issuer = name, name, name, name
		}).check(t, "a root named "+name, impl.OK)
	}
	ahead(func(p *path) { p.root.Names = []string{"a", "b"} }).check(t, "a root with Names", impl.OK)
	ahead(func(p *path) { p.c.Ca = true }).check(t, "a paper that is Ca", impl.OK)
	ahead(func(p *path) { p.c.Names = nil }).check(t, "a paper without Names", impl.OK)
	ahead(func(p *path) { p.c.Key = p.root.Key }).check(t, "a paper with the root's Key", impl.OK)
	ahead(func(p *path) { p.l.Serials, p.c = nil, p.root }).check(t, "the root itself", impl.OK)
	ahead(func(p *path) { p.c = p.root }).check(t, "the root itself, listed", impl.ErrRevoked)
}

func TestPathOfPapersThatAreNotSigned(t *testing.T) {
	all := map[string]path{
		"by another":                    ahead(func(p *path) { p.cSecret = 8 }),
		"by its own secret":             ahead(func(p *path) { p.cSecret = 6 }),
		"with another's Key as Sig's":   behind(func(p *path) { p.c.Sig.Key = impl.PublicOf(8) }),
		"by another, with the Key put":  behind(func(p *path) { p.c = impl.CertSign(8, p.c); p.c.Sig.Key = impl.PublicOf(5) }),
		"but for another text":          behind(func(p *path) { p.c.Sig = impl.SignText(5, "another text") }),
		"but for the root":              behind(func(p *path) { p.c.Sig = p.root.Sig }),
		"but for the list":              behind(func(p *path) { p.c.Sig = p.l.Sig }),
		"changed: Serial":               behind(func(p *path) { p.c.Serial = 9 }),
		"changed: Serial, listed":       behind(func(p *path) { p.c.Serial = 8 }),
		"changed: Subject":              behind(func(p *path) { p.c.Subject = "bob" }),
		"changed: From":                 behind(func(p *path) { p.c.From = 19 }),
		"changed: From, too late":       behind(func(p *path) { p.c.From = 51 }),
		"changed: To":                   behind(func(p *path) { p.c.To = 81 }),
		"changed: To, too early":        behind(func(p *path) { p.c.To = 49 }),
		"changed: Key":                  behind(func(p *path) { p.c.Key = impl.PublicOf(8) }),
		"changed: a Name less":          behind(func(p *path) { p.c.Names = []string{"a", "b"} }),
		"changed: a Name more":          behind(func(p *path) { p.c.Names = []string{"a", "b", "c-9", "d"} }),
		"changed: another Name":         behind(func(p *path) { p.c.Names = []string{"a", "b", "c-8"} }),
		"changed: no Names":             behind(func(p *path) { p.c.Names = nil }),
		"changed: Ca":                   behind(func(p *path) { p.c.Ca = true }),
		"changed: E":                    behind(func(p *path) { p.c.Sig.E = (p.c.Sig.E + 1) % impl.GroupQ }),
		"changed: S":                    behind(func(p *path) { p.c.Sig.S = (p.c.Sig.S + 1) % impl.GroupQ }),
		"changed: E and S 0":            behind(func(p *path) { p.c.Sig.E, p.c.Sig.S = 0, 0 }),
		"at all, where it is out of it": behind(func(p *path) { p.c = impl.CertSign(8, p.c); p.time = 81 }),
	}
	for what, p := range all {
		p.check(t, "a paper that is not signed "+what, impl.ErrSign)
		for _, name := range p.c.Names {
			p.checkName(t, "a paper that is not signed "+what, name, false)
		}
	}
}

func TestPathOfListsThatAreNone(t *testing.T) {
	all := map[string]path{
		"of a longer Issuer":            ahead(func(p *path) { p.l.Issuer = "rootx" }),
		"of a shorter Issuer":           ahead(func(p *path) { p.l.Issuer = "roo" }),
		"of the paper's Subject":        ahead(func(p *path) { p.l.Issuer = "ann" }),
		"of the root's own Issuer":      ahead(func(p *path) { p.root.Issuer, p.l.Issuer = "other", "other" }),
		"of another Issuer, changed":    behind(func(p *path) { p.l.Issuer = "other" }),
		"signed by another":             ahead(func(p *path) { p.listSecret = 8 }),
		"signed by the paper's secret":  ahead(func(p *path) { p.listSecret = 6 }),
		"with another's Key as Sig's":   behind(func(p *path) { p.l.Sig.Key = impl.PublicOf(8) }),
		"of another, with the Key put":  behind(func(p *path) { p.l = impl.CrlSign(8, p.l); p.l.Sig.Key = impl.PublicOf(5) }),
		"with the Sig of another text":  behind(func(p *path) { p.l.Sig = impl.SignText(5, "another text") }),
		"with the paper's Sig":          behind(func(p *path) { p.l.Sig = p.c.Sig }),
		"changed: At":                   behind(func(p *path) { p.l.At = 29 }),
		"changed: Next":                 behind(func(p *path) { p.l.Next = 71 }),
		"changed: a Serial less":        behind(func(p *path) { p.l.Serials = []int64{1, 6} }),
		"changed: a Serial more":        behind(func(p *path) { p.l.Serials = []int64{1, 6, 8, 9} }),
		"changed: no Serials":           behind(func(p *path) { p.l.Serials = nil }),
		"changed: the Serial is in":     behind(func(p *path) { p.l.Serials = []int64{1, 6, 7, 8} }),
		"changed: the Serial taken out": behind(func(p *path) { p.l.Serials = []int64{7}; p.l = impl.CrlSign(5, p.l); p.l.Serials = nil }),
		"changed: E":                    behind(func(p *path) { p.l.Sig.E = (p.l.Sig.E + 1) % impl.GroupQ }),
		"changed: S":                    behind(func(p *path) { p.l.Sig.S = (p.l.Sig.S + 1) % impl.GroupQ }),
		"not yet":                       behind(func(p *path) { p.time = 29 }),
		"no more":                       behind(func(p *path) { p.time = 71 }),
	}
	for what, p := range all {
		p.check(t, "a list "+what, impl.ErrNone)
		p.checkName(t, "a list "+what, "a", false)
	}
}

// pathFault is one way in which a path is not good: something is done ahead of the signing, or behind it.
type pathFault struct {
	what   string
	code   int64
	ahead  func(p *path)
	behind func(p *path)
}

// pathFaults stand in the document's row.
func pathFaults() []pathFault {
	none := func(p *path) {}
	return []pathFault{
		{"root not right", impl.ErrForm, none, func(p *path) { p.root.Serial = 0 }},
		{"paper not right", impl.ErrForm, none, func(p *path) { p.c.Key = 1 }},
		{"list not right", impl.ErrForm, none, func(p *path) { p.l.Sig.E = -1 }},
		{"no time", impl.ErrForm, none, func(p *path) { p.time = -1 }},
		{"root not Ca", impl.ErrIssuer, func(p *path) { p.root.Ca = false }, none},
		{"root not good", impl.ErrIssuer, func(p *path) { p.rootSecret = 8 }, none},
		{"another Issuer", impl.ErrIssuer, func(p *path) { p.c.Issuer = "other" }, none},
		{"paper not good", impl.ErrSign, func(p *path) { p.cSecret = 8 }, none},
		{"root out of its time", impl.ErrExpired, func(p *path) { p.root.To = 49 }, none},
		{"paper out of its time", impl.ErrExpired, func(p *path) { p.c.From = 51 }, none},
		{"list of another", impl.ErrNone, func(p *path) { p.l.Issuer = "other" }, none},
		{"list not good", impl.ErrNone, func(p *path) { p.listSecret = 8 }, none},
		{"list out of its time", impl.ErrNone, func(p *path) { p.l.Next = 49 }, none},
		{"listed", impl.ErrRevoked, func(p *path) { p.l.Serials = []int64{1, 6, 7, 8} }, none},
	}
}

// Of any faults at once, so of each two that stand next to each other too, the first in the row is told.
func TestPathTellsTheFirstFault(t *testing.T) {
	row := pathFaults()
	for which := range 1 << len(row) {
		p, want := plainPath(), int64(impl.OK)
		var what []string
		for i, f := range row {
			if which>>i&1 == 0 {
				continue
			}
			f.ahead(&p)
			if want == impl.OK {
				want = f.code
			}
			what = append(what, f.what)
		}
		p = p.signed()
		for i, f := range row {
			if which>>i&1 == 1 {
				f.behind(&p)
			}
		}
		all := strings.Join(what, ", ")
		p.check(t, all, want)
		p.checkName(t, all, "a", want == impl.OK)
	}
}

// standardPath tells of a path as the document's sentences do.
func standardPath(t *testing.T, p path) int64 {
	t.Helper()
	right := func(c impl.Cert) bool { return plainRight(c) && plainSigRight(c.Sig) }
	good := func(c impl.Cert) bool {
		return c.Sig.Key == p.root.Key && standardCheck(c.Sig, standardCertBody(t, c))
	}
	switch {
	case !right(p.root) || !right(p.c) || !plainCrlRight(p.l) || !plainSigRight(p.l.Sig) || p.time < 0 || p.time > 1000000000:
		return impl.ErrForm
	case !p.root.Ca || !good(p.root) || p.c.Issuer != p.root.Subject:
		return impl.ErrIssuer
	case !good(p.c):
		return impl.ErrSign
	case p.time < max(p.root.From, p.c.From) || p.time > min(p.root.To, p.c.To):
		return impl.ErrExpired
	case p.l.Issuer != p.root.Subject || p.l.Sig.Key != p.root.Key || !standardCheck(p.l.Sig, standardCrlBody(t, p.l)) || p.time < p.l.At || p.time > p.l.Next:
		return impl.ErrNone
	case slices.Contains(p.l.Serials, p.c.Serial):
		return impl.ErrRevoked
	}
	return impl.OK
}

// Papers and lists at the limits of their fields, all of one root.
func TestPathOfPapersAtTheirLimits(t *testing.T) {
	codes := map[int64]int{}
	ask := func(what string, p path) {
		for _, time := range []int64{0, 1, 9, 50, 128, impl.MaxTime} {
			p.time = time
			want := standardPath(t, p)
			codes[want]++
			p.check(t, fmt.Sprint(what, " at ", time), want)
		}
	}
	for what, c := range rightCerts() {
		ask("as it stands: "+what, behind(func(p *path) { p.c = c }))
		ask("as the root: "+what, behind(func(p *path) { p.root = c }))
		ask("signed: "+what, ahead(func(p *path) {
			p.c, p.c.Issuer = c, "root"
			p.root.From, p.root.To, p.l.At, p.l.Next = 0, impl.MaxTime, 0, impl.MaxTime
		}))
		ask("signed, as the root: "+what, ahead(func(p *path) {
			p.root, p.root.Key, p.root.Ca = c, impl.PublicOf(5), true
			p.c.Issuer, p.l.Issuer = c.Subject, c.Subject
		}))
	}
	for what, l := range rightCrls() {
		ask("as it stands: "+what, behind(func(p *path) { p.l = l }))
		for _, serial := range []int64{1, 7, 128, impl.MaxTime} {
			ask("signed: "+what, ahead(func(p *path) { p.c.Serial, p.l, p.l.Issuer = serial, l, "root" }))
		}
	}
	for _, code := range []int64{impl.OK, impl.ErrIssuer, impl.ErrSign, impl.ErrExpired, impl.ErrNone, impl.ErrRevoked} {
		if codes[code] == 0 {
			t.Errorf("the code %d is not told of any", code)
		}
	}
}

func TestPathOfOtherSecrets(t *testing.T) {
	for _, x := range someSecrets() {
		p := ahead(func(p *path) {
			p.root.Key = impl.PublicOf(x)
			p.rootSecret, p.cSecret, p.listSecret = x, x, x
		})
		p.check(t, fmt.Sprint("the secret ", x), impl.OK)
		if x != 5 {
			plain := plainPath().signed()
			path{root: plain.root, c: p.c, l: p.l, time: 50}.check(t, fmt.Sprint("a paper of the secret ", x), impl.ErrSign)
			path{root: plain.root, c: plain.c, l: p.l, time: 50}.check(t, fmt.Sprint("a list of the secret ", x), impl.ErrNone)
			path{root: p.root, c: plain.c, l: plain.l, time: 50}.check(t, fmt.Sprint("a root of the secret ", x), impl.ErrSign)
		}
	}
}

func TestPathName(t *testing.T) {
	p := plainPath().signed()
	for _, name := range []string{"a", "b", "c-9"} {
		p.checkName(t, "the plain one", name, true)
		for _, time := range []int64{29, 71, -1} {
			late := p
			late.time = time
			late.checkName(t, "the plain one out of its time", name, false)
		}
	}
	others := []string{"ann", "root", "", "c", "c-", "c-8", "c-99", "d", "A", "aa", "ab", "a,b", " a", "a ", "a\x00", "*", "\xff", strings.Repeat("a", 40), strings.Repeat("a", 41),
		strings.Repeat("a", impl.MaxBytes), strings.Repeat("a", impl.MaxBytes+1)}
	for _, name := range append(others, tooLongTexts()...) {
		p.checkName(t, "the plain one", name, false)
	}
	all := manyNames(impl.MaxNames)
	many := ahead(func(p *path) { p.c.Names = all })
	for _, name := range all {
		many.checkName(t, "MaxNames Names", name, true)
		many.checkName(t, "MaxNames Names, one cut", name[:39], false)
	}
	none := ahead(func(p *path) { p.c.Names = nil })
	for _, name := range append(others, "a", "b") {
		none.checkName(t, "no Names", name, false)
	}
	ahead(func(p *path) { p.c.Names = []string{"ann"} }).checkName(t, "the Subject as a Name", "ann", true)
	ahead(func(p *path) { p.root.Names = []string{"z"} }).checkName(t, "the root's Name", "z", false)
	empty := behind(func(p *path) { p.c.Names = []string{""} })
	empty.checkName(t, "an empty Name", "", false)
	long := behind(func(p *path) { p.c.Names = []string{strings.Repeat("a", impl.MaxBytes+1)} })
	long.checkName(t, "a Name that is too long", strings.Repeat("a", impl.MaxBytes+1), false)
}

func TestPathNameOfEachFault(t *testing.T) {
	for _, f := range pathFaults() {
		p := plainPath()
		f.ahead(&p)
		p = p.signed()
		f.behind(&p)
		p.check(t, f.what, f.code)
		for _, name := range []string{"a", "b", "c-9", "", "ann"} {
			p.checkName(t, f.what, name, false)
		}
	}
}

func TestPathsAreNotChanged(t *testing.T) {
	for _, f := range append(pathFaults(), pathFault{"no fault", impl.OK, func(p *path) {}, func(p *path) {}}) {
		p := plainPath()
		f.ahead(&p)
		p = p.signed()
		f.behind(&p)
		// Room behind the lists would show what is put there.
		names, serials := append(p.c.Names, "y", "z")[:3:5], append(p.l.Serials, 100, 200)[:len(p.l.Serials):len(p.l.Serials)+2]
		p.c.Names, p.l.Serials = names, serials
		was := p
		was.c.Names, was.l.Serials = slices.Clone(names[:5]), slices.Clone(serials[:cap(serials)])
		for range 2 {
			p.check(t, f.what, f.code)
			p.checkName(t, f.what, "b", f.code == impl.OK)
		}
		if !slices.Equal(names[:5], was.c.Names) || !slices.Equal(serials[:cap(serials)], was.l.Serials) {
			t.Errorf("%s: the lists are changed to %v and %v", f.what, names[:5], serials[:cap(serials)])
		}
		was.c.Names, was.l.Serials = was.c.Names[:3], was.l.Serials[:len(serials)]
		if !sameCert(p.root, was.root) || !sameCert(p.c, was.c) || !sameCrl(p.l, was.l) {
			t.Errorf("%s: changed to %+v", f.what, p)
		}
	}
}
