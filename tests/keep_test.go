package tests

import (
	"fmt"
	"math"
	"math/rand"
	"slices"
	"strings"
	"testing"

	"loop.example/g00371/impl"
)

// plainOfficeRight and plainKeep do what the document's sentences say.
func plainOfficeRight(o impl.Office, secret int64) bool {
	size := int64(len(o.Log))
	found := plainReplay(secret, o.Log)
	return size <= 20000 && found.Code == impl.OK && found.At == size && 0 <= o.Synced && o.Synced <= size
}

func plainKeep(o impl.Office, secret int64, one deed) impl.OfficeOut {
	if !plainOfficeRight(o, secret) {
		return impl.OfficeOut{Code: impl.ErrForm}
	}
	out := one.plain(plainReplay(secret, o.Log).Acme)
	if isNone(out.Acme) {
		return impl.OfficeOut{Code: out.Code}
	}
	log := o.Log + recordOf(one.kept)
	if len(log) > 20000 {
		return impl.OfficeOut{Code: impl.ErrFull}
	}
	return impl.OfficeOut{Office: impl.Office{Log: log, Synced: int64(len(log))}, Told: out.Told, N: out.N, Code: out.Code}
}

// checkKeep checks a deed of an office against the document's sentences, and that of the code that is handed in.
func checkKeep(t *testing.T, what string, o impl.Office, secret int64, one deed, code int64) impl.OfficeOut {
	t.Helper()
	what = fmt.Sprint(what, ": ", one.name)
	got, want := one.office(o, secret), plainKeep(o, secret, one)
	if got != want || got.Code != code {
		t.Errorf("%s: got %+v, want %+v, and the code %d", what, got, want, code)
	}
	checkNew(t, what, got, o)
	return got
}

// checkRefused is checkKeep of what is answered without an Office.
func checkRefused(t *testing.T, what string, o impl.Office, secret int64, one deed, code int64) {
	t.Helper()
	if got := checkKeep(t, what, o, secret, one, code); got != (impl.OfficeOut{Code: code}) {
		t.Errorf("%s: %s: got %+v beside the code", what, one.name, got)
	}
}

// eachDeed is one of each kind, which askedHistory takes.
func eachDeed() []deed {
	return []deed{nonceDeed(), tickDeed(7), probeDeed(0, true), probeDeed(0, false), askDeed(bob, 5, "account", "")}
}

func wrongSynced(size int64) []int64 {
	return []int64{-1, size + 1, size + 2, 2*size + 20000, math.MinInt64, math.MaxInt64}
}

func TestOfficeRight(t *testing.T) {
	h := someHistory(t)
	size := int64(len(h.log))
	for _, synced := range []int64{0, 1, h.ends[1], h.ends[1] + 1, size - 1, size} {
		checkOfficeRight(t, impl.Office{Log: h.log, Synced: synced}, office, true)
		checkOfficeRight(t, impl.Office{Log: h.log, Synced: synced}, ann, true)
		checkOfficeRight(t, impl.Office{Log: h.log[:size-1], Synced: synced}, office, false)
		checkOfficeRight(t, impl.Office{Log: h.log + "\x00", Synced: synced}, office, false)
	}
	for _, synced := range wrongSynced(size) {
		checkOfficeRight(t, impl.Office{Log: h.log, Synced: synced}, office, false)
	}
	for _, synced := range wrongSynced(0) {
		checkOfficeRight(t, impl.Office{Synced: synced}, office, false)
	}
	for _, secret := range noSecrets() {
		checkOfficeRight(t, h.office(), secret, false)
		checkOfficeRight(t, impl.Office{}, secret, false)
	}
	for _, secret := range someSecrets() {
		checkOfficeRight(t, h.office(), secret, true)
		checkOfficeRight(t, impl.Office{}, secret, true)
	}
	for size, want := range map[int]bool{19999: true, 20000: true, 20001: false, 20002: false, 30000: false} {
		checkOfficeRight(t, impl.Office{Log: logOfSize(size), Synced: int64(size)}, office, want)
		checkOfficeRight(t, impl.Office{Log: logOfSize(size)}, office, want)
	}
	for at := range h.log {
		whole := slices.Contains(h.ends, int64(at))
		checkOfficeRight(t, impl.Office{Log: h.log[:at]}, office, whole)
	}
}

func checkOfficeRight(t *testing.T, o impl.Office, secret int64, want bool) {
	t.Helper()
	if got := impl.OfficeRight(o, secret); got != want {
		t.Errorf("OfficeRight of %d bytes, Synced %d, the secret %d: got %v", len(o.Log), o.Synced, secret, got)
	}
}

// What is answered beside OK, written out, and all of the Log is Synced then, whatever was ahead.
func TestOfficeCalls(t *testing.T) {
	h := askedHistory(t)
	for _, synced := range []int64{0, 1, 11, int64(len(h.log)) - 1, int64(len(h.log))} {
		o := impl.Office{Log: h.log, Synced: synced}
		for _, one := range eachDeed() {
			got := checkKeep(t, fmt.Sprint("Synced ", synced), o, office, one, impl.OK)
			log := h.log + recordOf(one.kept)
			if got.Office != (impl.Office{Log: log, Synced: int64(len(log))}) || got.Told != "" {
				t.Errorf("%s: got %+v", one.name, got)
			}
		}
	}
	numbers := []int64{7, 0, 0, 0, 1}
	for i, one := range eachDeed() {
		if got := one.office(h.office(), office).N; got != numbers[i] {
			t.Errorf("%s: got N %d, want %d", one.name, got, numbers[i])
		}
	}
	for _, secret := range someSecrets() {
		got := checkKeep(t, "the zero Office", impl.Office{}, secret, nonceDeed(), impl.OK)
		if got.N != 2 || got.Office.Log != "\x02N\x108ce86a6a" || got.Office.Synced != 11 {
			t.Errorf("OfficeNonce of the zero Office: got %+v", got)
		}
		checkKeep(t, "the zero Office", impl.Office{}, secret, tickDeed(100000), impl.OK)
	}
}

// Told and N of a paper that is made out.
func TestOfficeTellsAPaper(t *testing.T) {
	h := askedHistory(t)
	h.add(probeDeed(0, true))
	one := askDeed(ann, 5, "finish", finishBody(0, csrOf(9, "aa")))
	got := checkKeep(t, "an order that is ready", h.office(), office, one, impl.OK)
	made := impl.CertRead(got.Told)
	if got.N != 7 || made.Code != impl.OK || made.Cert.Serial != 7 || !slices.Equal(made.Cert.Names, []string{"aa"}) {
		t.Errorf("the paper: got %+v and %+v", got, made)
	}
	h.add(one)
	state := checkKeep(t, "an order that is done", h.office(), office, askDeed(ann, 6, "state", standardNum(0)), impl.OK)
	if state.N != 3 || state.Told != "" {
		t.Errorf("the state: got %+v", state)
	}
}

func TestOfficeCallsOfWrongOffices(t *testing.T) {
	h := askedHistory(t)
	all := append(eachDeed(), tickDeed(-1), probeDeed(-1, true), handleDeed("no request", "x"), askDeed(ann, 2, "account", ""), askDeed(ann, 5, "none", ""))
	for _, one := range all {
		for _, synced := range wrongSynced(int64(len(h.log))) {
			checkRefused(t, fmt.Sprint("Synced ", synced), impl.Office{Log: h.log, Synced: synced}, office, one, impl.ErrForm)
		}
		for _, log := range []string{h.log[:len(h.log)-1], h.log + "\x00", h.log[1:], "xy", recordOf(""), h.log + recordOf("T\x01"), logOfSize(20001), strings.Repeat("xy", 20000)} {
			checkRefused(t, "a wrong Log", impl.Office{Log: log}, office, one, impl.ErrForm)
		}
		for _, secret := range noSecrets() {
			checkRefused(t, fmt.Sprint("the secret ", secret), h.office(), secret, one, impl.ErrForm)
			checkRefused(t, fmt.Sprint("the zero Office, the secret ", secret), impl.Office{}, secret, one, impl.ErrForm)
		}
	}
}

func TestOfficeHandleOfLongTexts(t *testing.T) {
	h := askedHistory(t)
	for _, text := range tooLongTexts() {
		for _, o := range []impl.Office{h.office(), {}, {Synced: 1}, {Log: logOfSize(20001)}} {
			for _, secret := range []int64{office, 0} {
				if got := impl.OfficeHandle(o, secret, text); got != (impl.OfficeOut{Code: impl.ErrSize}) {
					t.Errorf("OfficeHandle of %d bytes: got %+v", len(text), got)
				}
			}
		}
	}
	for _, size := range []int{19990, 19996, 19997, 19998, 20000} {
		checkRefused(t, fmt.Sprint(size, " bytes"), h.office(), office, handleDeed("a long text", strings.Repeat("A", size)), impl.ErrSyntax)
	}
}

// The codes of the calls of chapter 11, without an Acme beside them.
func TestOfficeCallsThatTellNoAcme(t *testing.T) {
	h := askedHistory(t)
	for code, all := range map[int64][]deed{
		impl.ErrForm:   {tickDeed(-1), tickDeed(100001), tickDeed(math.MinInt64), tickDeed(math.MaxInt64)},
		impl.ErrNone:   {probeDeed(-1, true), probeDeed(1, true), probeDeed(math.MaxInt64, false), probeDeed(math.MinInt64, false)},
		impl.ErrSyntax: {handleDeed("nothing", ""), handleDeed("no request", "x"), handleDeed("MaxBytes", strings.Repeat("x", 20000))},
		impl.ErrSign:   {handleDeed("another's Sig", rawOf(impl.Jws{Key: impl.PublicOf(ann), Nonce: 5, Url: "account"}).signed(bob).text())},
		impl.ErrNonce:  {askDeed(ann, 2, "account", ""), askDeed(ann, 7, "account", ""), askDeed(ann, 0, "none", "")},
	} {
		for _, one := range all {
			checkRefused(t, "no Acme", h.office(), office, one, code)
		}
	}
	h.add(probeDeed(0, true))
	checkRefused(t, "what was probed", h.office(), office, probeDeed(0, true), impl.ErrState)
	checkRefused(t, "what was probed", h.office(), office, probeDeed(0, false), impl.ErrState)
	for range 9 {
		h.add(tickDeed(100000))
	}
	checkRefused(t, "the last Clock", h.office(), office, tickDeed(1), impl.ErrFull)
	checkKeep(t, "the last Clock", h.office(), office, tickDeed(0), impl.OK)
}

// The codes with an Acme beside them: what was refused is kept, as its nonce is taken.
func TestOfficeHandleThatTellsAnAcme(t *testing.T) {
	h := askedHistory(t)
	for code, all := range map[int64][]deed{
		impl.ErrSyntax: {askDeed(ann, 5, "none", ""), askDeed(ann, 5, "close", "x"), askDeed(bob, 6, "order", "")},
		impl.ErrNone:   {askDeed(bob, 5, "close", ""), askDeed(bob, 6, "state", standardNum(0)), askDeed(ann, 6, "state", standardNum(1))},
		impl.ErrState:  {askDeed(ann, 5, "ask", standardNum(0)), askDeed(ann, 6, "finish", finishBody(0, csrOf(9, "aa")))},
	} {
		for _, one := range all {
			got := checkKeep(t, "refused", h.office(), office, one, code)
			log := h.log + recordOf(one.kept)
			if got != (impl.OfficeOut{Office: impl.Office{Log: log, Synced: int64(len(log))}, Code: code}) {
				t.Errorf("%s: got %+v", one.name, got)
			}
			checkRefused(t, "refused once", got.Office, office, one, impl.ErrNonce)
		}
	}
}

// roomFor is an office, with nonces, in whose Log there is room for just so many bytes.
func roomFor(bytes int) impl.Office {
	log := logOfSize(20000 - bytes)
	return impl.Office{Log: log, Synced: int64(len(log))}
}

func TestOfficeCallsAtTheLastByte(t *testing.T) {
	nonce := plainReplay(office, roomFor(0).Log).Acme.Nonces[0]
	for _, one := range []deed{nonceDeed(), tickDeed(0), tickDeed(64), tickDeed(100000), askDeed(ann, nonce, "account", ""), askDeed(ann, nonce, "none", ""), askDeed(ann, nonce, "close", "")} {
		size := len(recordOf(one.kept))
		var code int64
		for room := max(0, size-14); room <= size+13; room++ {
			o := roomFor(room)
			// The nonces hang on the room: what is asked with one is asked anew.
			if a := plainReplay(office, o.Log).Acme; one.kept[0] == 72 && !slices.Contains(a.Nonces, nonce) {
				continue
			}
			code = one.plain(plainReplay(office, o.Log).Acme).Code
			if room < size {
				checkRefused(t, fmt.Sprint("room for ", room), o, office, one, impl.ErrFull)
				continue
			}
			got := checkKeep(t, fmt.Sprint("room for ", room), o, office, one, code)
			if len(got.Office.Log) != 20000-room+size || got.Office.Synced != int64(len(got.Office.Log)) || !impl.OfficeRight(got.Office, office) {
				t.Errorf("%s in a room for %d: got %+v", one.name, room, got.Office.Synced)
			}
		}
	}
}

// In a Log that is full, the call's own code is told, if it tells no Acme; else ErrFull is.
func TestOfficeCallsOfAFullLog(t *testing.T) {
	for _, room := range []int{0, 1, 10} {
		o := roomFor(room)
		nonce := plainReplay(office, o.Log).Acme.Nonces[0]
		for code, all := range map[int64][]deed{
			impl.ErrForm:   {tickDeed(-1), tickDeed(100001)},
			impl.ErrNone:   {probeDeed(0, true), probeDeed(-1, false)},
			impl.ErrSyntax: {handleDeed("no request", "x")},
			impl.ErrSign:   {handleDeed("another's Sig", rawOf(impl.Jws{Key: impl.PublicOf(ann), Nonce: nonce, Url: "account"}).signed(bob).text())},
			impl.ErrNonce:  {askDeed(ann, 1, "account", "")},
			impl.ErrFull:   {nonceDeed(), tickDeed(0), tickDeed(100000), askDeed(ann, nonce, "account", ""), askDeed(ann, nonce, "none", ""), askDeed(ann, nonce, "close", "")},
		} {
			for _, one := range all {
				checkRefused(t, fmt.Sprint("room for ", room), o, office, one, code)
			}
		}
	}
	asked := askedHistory(t)
	left := 20000 - len(asked.log)
	asked.log += logOfSize(left - 5)
	for _, good := range []bool{true, false} {
		checkRefused(t, "room for 5", asked.office(), office, probeDeed(0, good), impl.ErrFull)
	}
}

// checkCrash checks what is left of an office.
func checkCrash(t *testing.T, o impl.Office, keep int64, want impl.Office) {
	t.Helper()
	got := impl.OfficeCrash(o, keep)
	if got != want {
		t.Errorf("OfficeCrash of %d bytes, Synced %d, keep %d: got %d bytes, Synced %d, want %d, %d", len(o.Log), o.Synced, keep, len(got.Log), got.Synced, len(want.Log), want.Synced)
	}
	if len(got.Log) > 1 {
		checkNew(t, "OfficeCrash", got, o)
	}
}

func TestOfficeCrash(t *testing.T) {
	h := someHistory(t)
	for _, log := range []string{"", "xy", h.log, h.log[:len(h.log)-1], mixedText(500), logOfSize(20000), logOfSize(20001), strings.Repeat("xy", 20000)} {
		size := int64(len(log))
		for _, synced := range []int64{0, 1, 2, 11, size / 2, size - 2, size - 1, size} {
			if synced < 0 || synced > size {
				continue
			}
			for _, keep := range []int64{math.MinInt64, -size - 1, -1, 0, 1, 2, 3, size - synced - 1, size - synced, size - synced + 1, size, size + 1, 20000, 1 << 62, math.MaxInt64 - 1, math.MaxInt64} {
				last := synced
				for last < size && last-synced < keep {
					last++
				}
				checkCrash(t, impl.Office{Log: log, Synced: synced}, keep, impl.Office{Log: log[:last], Synced: last})
			}
		}
		for _, synced := range wrongSynced(size) {
			for _, keep := range []int64{math.MinInt64, -1, 0, 1, size, math.MaxInt64} {
				checkCrash(t, impl.Office{Log: log, Synced: synced}, keep, impl.Office{Log: log, Synced: synced})
			}
		}
	}
}

// checkRecover checks what is found again, and that this, found again once more, is the same.
func checkRecover(t *testing.T, what string, o impl.Office, secret int64, want impl.Office) {
	t.Helper()
	got := impl.OfficeRecover(o, secret)
	if got != want {
		t.Errorf("OfficeRecover of %s: got %d bytes, Synced %d, want %d, %d", what, len(got.Log), got.Synced, len(want.Log), want.Synced)
	}
	if len(got.Log) > 1 {
		checkNew(t, "OfficeRecover of "+what, got, o)
	}
	if again := impl.OfficeRecover(got, secret); again != got {
		t.Errorf("OfficeRecover of %s, once more: got %d bytes, Synced %d, then %d, %d", what, len(got.Log), got.Synced, len(again.Log), again.Synced)
	}
}

func TestOfficeRecover(t *testing.T) {
	h := someHistory(t)
	for _, synced := range append(wrongSynced(int64(len(h.log))), 0, 5, int64(len(h.log))) {
		checkRecover(t, "a whole Log", impl.Office{Log: h.log, Synced: synced}, office, h.office())
		checkRecover(t, "a Log and a byte", impl.Office{Log: h.log + "\x00", Synced: synced}, office, h.office())
		checkRecover(t, "no Log", impl.Office{Log: "xy", Synced: synced}, office, impl.Office{})
		checkRecover(t, "the empty Log", impl.Office{Synced: synced}, office, impl.Office{})
		for _, secret := range noSecrets() {
			for _, log := range []string{"", "xy", h.log, h.log[:len(h.log)-1]} {
				checkRecover(t, fmt.Sprint("the secret ", secret), impl.Office{Log: log, Synced: synced}, secret, impl.Office{Log: log, Synced: synced})
			}
		}
		for _, log := range []string{logOfSize(20001), strings.Repeat("xy", 10001), logOfSize(40000)} {
			checkRecover(t, "a Log too long", impl.Office{Log: log, Synced: synced}, office, impl.Office{Log: log, Synced: synced})
		}
		full := logOfSize(20000)
		checkRecover(t, "MaxBytes", impl.Office{Log: full, Synced: synced}, office, impl.Office{Log: full, Synced: 20000})
		checkRecover(t, "MaxBytes of none", impl.Office{Log: strings.Repeat("xy", 10000), Synced: synced}, office, impl.Office{})
	}
	for cut := range len(h.log) {
		last := h.ends[h.upTo(int64(cut))]
		checkRecover(t, fmt.Sprint("a Log cut at ", cut), impl.Office{Log: h.log[:cut], Synced: 1}, office, impl.Office{Log: h.log[:last], Synced: last})
	}
}

// Promise 14: whatever number of bytes is kept, what is found again is the office of some record behind what
// was synced.
func TestCrashAtEachByte(t *testing.T) {
	h := someHistory(t)
	size := int64(len(h.log))
	for i, synced := range h.ends {
		step := int64(17)
		if i%10 == 0 {
			step = 1
		}
		for keep := int64(0); keep <= size-synced+1; keep += step {
			checkFoundAgain(t, h, synced, keep)
		}
	}
	// Synced may stand within a record, too.
	for synced := range size + 1 {
		checkFoundAgain(t, h, synced, 40)
	}
}

func checkFoundAgain(t *testing.T, h *history, synced int64, keep int64) {
	t.Helper()
	left := impl.OfficeCrash(impl.Office{Log: h.log, Synced: synced}, keep)
	found := impl.OfficeRecover(left, office)
	count := h.upTo(min(synced+keep, int64(len(h.log))))
	if end := h.ends[count]; found != (impl.Office{Log: h.log[:end], Synced: end}) || !impl.OfficeRight(found, office) {
		t.Errorf("Synced %d, keep %d: found again %d bytes, Synced %d, want %d", synced, keep, len(found.Log), found.Synced, end)
	}
	if count < h.upTo(synced) {
		t.Errorf("Synced %d, keep %d: just %d records are left", synced, keep, count)
	}
	if again := impl.OfficeRecover(found, office); again != found {
		t.Errorf("Synced %d, keep %d: found again once more, it is another one", synced, keep)
	}
	if got := impl.Replay(office, found.Log); !sameAcme(got.Acme, h.acmes[count]) {
		t.Errorf("Synced %d, keep %d: the Acme of %d records is not found again", synced, keep, count)
	}
}

// Promise 14: what an Office answers is what the calls of chapter 11 answer, and is found again.
func TestOfficesThatAreKept(t *testing.T) {
	told := map[string]int{}
	for seed := range int64(12) {
		secret := someSecrets()[seed%int64(len(someSecrets()))]
		w := walk{t: t, r: rand.New(rand.NewSource(100 + seed)), a: impl.AcmeNew(secret), found: map[int64]bool{}, told: told}
		k := keeper{t: t, r: w.r, h: newHistory(secret), secret: secret, told: told}
		w.then = k.then
		// One of them goes on till its Log is full, the others not so far.
		for !k.full && (seed == 0 || len(k.h.log) < 4000) {
			w.step()
		}
	}
	for _, what := range []string{"kept 0", "kept 3", "kept 8", "kept 10", "not kept 1", "not kept 3", "not kept 7", "not kept 8", "not kept 10", "papers", "crashes"} {
		if told[what] < 3 {
			t.Errorf("the walks come to %q just %d times", what, told[what])
		}
	}
}

// keeper does with an Office what a walk does with its Acme, till the Log is full. What is far on in a Log takes
// its time, and is looked at now and then.
type keeper struct {
	t      *testing.T
	r      *rand.Rand
	h      *history
	secret int64
	told   map[string]int
	full   bool
}

func (k *keeper) then(one deed, want impl.AcmeOut) {
	k.t.Helper()
	if k.full {
		return
	}
	before := k.h.office()
	got := one.office(before, k.secret)
	checkNew(k.t, one.name, got, before)
	if isNone(want.Acme) {
		k.check(one, got, impl.OfficeOut{Code: want.Code})
		k.told[fmt.Sprint("not kept ", want.Code)]++
		return
	}
	if len(before.Log)+len(recordOf(one.kept)) > 20000 {
		k.check(one, got, impl.OfficeOut{Code: impl.ErrFull})
		k.full = true
		return
	}
	k.h.add(one)
	k.check(one, got, impl.OfficeOut{Office: k.h.office(), Told: want.Told, N: want.N, Code: want.Code})
	k.told[fmt.Sprint("kept ", want.Code)]++
	if len(k.h.log) > 4000 && k.r.Intn(16) > 0 {
		return
	}
	found := impl.Replay(k.secret, got.Office.Log)
	if found.Code != impl.OK || found.At != got.Office.Synced || !sameAcme(found.Acme, want.Acme) || !impl.OfficeRight(got.Office, k.secret) {
		k.t.Fatalf("%s is not found again: got %+v, want %+v", one.name, found, want.Acme)
	}
	k.crash()
}

func (k *keeper) check(one deed, got impl.OfficeOut, want impl.OfficeOut) {
	k.t.Helper()
	if got != want {
		k.t.Fatalf("%s behind %d bytes: got %+v, want %+v", one.name, len(k.h.log), got, want)
	}
}

// crash loses some of what is not synced, when the last few records are not.
func (k *keeper) crash() {
	k.t.Helper()
	synced := k.h.ends[max(0, len(k.h.ends)-1-k.r.Intn(5))]
	keep := int64(k.r.Intn(400)) - 20
	left := impl.OfficeCrash(impl.Office{Log: k.h.log, Synced: synced}, keep)
	found := impl.OfficeRecover(left, k.secret)
	end := k.h.ends[k.h.upTo(min(synced+max(keep, 0), int64(len(k.h.log))))]
	if end < synced || found != (impl.Office{Log: k.h.log[:end], Synced: end}) {
		k.t.Fatalf("Synced %d, keep %d: found again %d bytes, want %d", synced, keep, len(found.Log), end)
	}
	if len(left.Log) > len(found.Log) {
		k.told["crashes"]++
	}
}

// Any office is answered as the document's sentences say, and nothing panics.
func TestOfficeCallsOfAnyLog(t *testing.T) {
	r := rand.New(rand.NewSource(15))
	pieces, good := piecesOfLogs(), askedHistory(t)
	deeds := append(eachDeed(), tickDeed(-1), probeDeed(3, true), handleDeed("no request", "x"), askDeed(ann, 6, "none", ""))
	right := 0
	for range 1500 {
		log := good.log[:good.ends[r.Intn(len(good.ends))]]
		for range r.Intn(3) {
			log += pieces[r.Intn(len(pieces))]
		}
		o := impl.Office{Log: log, Synced: int64(r.Intn(len(log)+20)) - 5}
		secret := []int64{office, ann, 0, impl.GroupQ}[r.Intn(4)]
		if plainOfficeRight(o, secret) {
			right++
		}
		checkOfficeRight(t, o, secret, plainOfficeRight(o, secret))
		for _, one := range deeds {
			checkKeep(t, fmt.Sprintf("%q, Synced %d", log, o.Synced), o, secret, one, plainKeep(o, secret, one).Code)
		}
		want, found := o, plainReplay(secret, log)
		if found.Code == impl.OK {
			want = impl.Office{Log: log[:found.At], Synced: found.At}
		}
		checkRecover(t, fmt.Sprintf("%q", log), o, secret, want)
	}
	if right < 200 {
		t.Errorf("just %d of the offices are right", right)
	}
}
