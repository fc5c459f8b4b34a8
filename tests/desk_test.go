package tests

import (
	"fmt"
	"reflect"
	"regexp"
	"slices"
	"strconv"
	"strings"
	"testing"

	"loop.example/g00371/impl"
)

// plainForms are what a line may be, as the document's sentences say: X a secret, N a number, W any word.
func plainForms() []*regexp.Regexp {
	var all []*regexp.Regexp
	for _, form := range []string{"account X", "close X", "order X W", "ask X N", "state X N", "revoke X N", "finish X N X W", "probe N good", "probe N bad", "tick N", "check N"} {
		form = strings.NewReplacer("X", "[1-9][0-9]{0,8}", "N", "(0|[1-9][0-9]{0,8})", "W", "[^ \n]+").Replace(form)
		all = append(all, regexp.MustCompile(`\A`+form+"\n"+`\z`))
	}
	return all
}

var deskForms = plainForms()

func plainLine(line string) bool {
	return slices.ContainsFunc(deskForms, func(form *regexp.Regexp) bool { return form.MatchString(line) })
}

// plainLines are the lines of a text, with their line feeds, if they have one.
func plainLines(text string) []string {
	lines := strings.SplitAfter(text, "\n")
	return slices.DeleteFunc(lines, func(line string) bool { return line == "" })
}

func plainFault(text string) impl.DeskOut {
	if len(text) > 20000 {
		return impl.DeskOut{Code: impl.ErrSize}
	}
	for i, line := range plainLines(text) {
		if i >= 40 || !plainLine(line) {
			return impl.DeskOut{Line: int64(i), Code: impl.ErrSyntax}
		}
	}
	return impl.DeskOut{}
}

// plainDesk does what the document's sentences say.
func plainDesk(text string) impl.DeskOut {
	if fault := plainFault(text); fault.Code != impl.OK {
		return fault
	}
	c := newClerk()
	told := ""
	for _, line := range plainLines(text) {
		told += c.do(strings.Split(strings.TrimSuffix(line, "\n"), " ")) + "\n"
	}
	return impl.DeskOut{Text: told}
}

// clerk does by hand what a desk's lines say.
type clerk struct {
	a impl.Acme
}

func newClerk() *clerk {
	return &clerk{a: impl.Acme{Secret: 77, Next: 2}}
}

func (c *clerk) do(words []string) string {
	last := words[len(words)-1]
	switch words[0] {
	case "account", "order", "state", "finish":
		return c.say(c.request(words), true)
	case "close", "ask", "revoke":
		return c.say(c.request(words), false)
	case "probe":
		return c.say(plainProbe(c.a, plainDigits(words[1]), last == "good"), false)
	case "tick":
		return c.say(plainTick(c.a, plainDigits(last)), false)
	}
	at := slices.IndexFunc(c.a.Issued, func(one impl.Issued) bool { return one.Cert.Serial == plainDigits(last) })
	if at < 0 {
		return "none"
	}
	switch one := c.a.Issued[at]; {
	case c.a.Clock < one.Cert.From || c.a.Clock > one.Cert.To:
		return "code 12"
	case one.Revoked:
		return "code 14"
	}
	return "code 0"
}

func plainDigits(word string) int64 {
	n, err := strconv.ParseInt(word, 10, 64)
	if err != nil {
		panic(err)
	}
	return n
}

func (c *clerk) request(words []string) impl.AcmeOut {
	fresh := plainNonce(c.a)
	c.a = fresh.Acme
	body := c.body(words)
	if len(body) > 2000 {
		return impl.AcmeOut{Code: impl.ErrSyntax}
	}
	return plainHandle(c.a, impl.JwsSign(plainDigits(words[1]), fresh.N, words[0], body))
}

func (c *clerk) body(words []string) string {
	switch words[0] {
	case "account", "close":
		return ""
	case "order":
		return namesBody(strings.Split(words[2], ",")...)
	case "finish":
		csr := impl.CsrSign(plainDigits(words[3]), strings.Split(words[4], ","))
		return finishBody(plainDigits(words[2]), impl.CsrBytes(csr))
	}
	return standardNum(plainDigits(words[2]))
}

func (c *clerk) say(out impl.AcmeOut, number bool) string {
	if !isNone(out.Acme) {
		c.a = out.Acme
	}
	switch {
	case out.Code != impl.OK:
		return fmt.Sprint("error ", out.Code)
	case number:
		return fmt.Sprint(out.N)
	}
	return "ok"
}

// checkDesk checks what a text tells, and that DeskFault tells the same without Text.
func checkDesk(t *testing.T, what string, text string, want impl.DeskOut) {
	t.Helper()
	got, fault := impl.DeskRun(text), impl.DeskFault(text)
	if got != want {
		t.Errorf("DeskRun of %s, %q: got %+v, want %+v", what, text[:min(len(text), 800)], got, want)
	}
	want.Text = ""
	if fault != want {
		t.Errorf("DeskFault of %s, %q: got %+v, want %+v", what, text[:min(len(text), 800)], fault, want)
	}
	checkNew(t, what, got, text)
}

func checkFault(t *testing.T, what string, text string, line int64) {
	t.Helper()
	checkDesk(t, what, text, impl.DeskOut{Line: line, Code: impl.ErrSyntax})
}

// checkNone checks that a line is none: by itself, and first, in between and last among right ones.
func checkNone(t *testing.T, what string, line string) {
	t.Helper()
	if plainLine(line + "\n") {
		t.Errorf("the test's own line %q of %s is right", line, what)
	}
	checkFault(t, what, line+"\n", 0)
	checkFault(t, what+", first", line+"\ntick 1\ncheck 2\n", 0)
	checkFault(t, what+", in between", "tick 1\naccount 5\n"+line+"\nstate 5 0\n", 2)
	checkFault(t, what+", last", "tick 1\naccount 5\norder 5 www\n"+line+"\n", 3)
}

// checkRight checks that a line is one, and tells what the document's sentences say, by itself and behind others.
func checkRight(t *testing.T, what string, line string) {
	t.Helper()
	for _, ahead := range []string{"", "account 5\n", "account 5\norder 5 www\nask 5 0\nprobe 0 good\n", askedDesk} {
		text := ahead + line + "\n"
		if want := plainDesk(text); want.Code != impl.OK {
			t.Errorf("the test's own line %q of %s is none", line, what)
		} else {
			checkDesk(t, what, text, want)
		}
	}
}

// askedDesk makes out a paper, of the Serial 6.
const askedDesk = "account 5\norder 5 www\nask 5 0\nprobe 0 good\nfinish 5 0 9 www\n"

// eachLine is one of each kind.
func eachLine() []string {
	return []string{"account 5", "close 5", "order 5 www", "ask 5 0", "state 5 0", "revoke 5 6", "finish 5 0 9 www", "probe 0 good", "probe 0 bad", "tick 9", "check 6"}
}

func TestDeskOfNoLines(t *testing.T) {
	checkDesk(t, "the empty text", "", impl.DeskOut{})
}

func TestDeskOfEachKindOfLineByItself(t *testing.T) {
	for line, want := range map[string]string{
		"account 5": "0", "close 5": "error 8", "order 5 www": "error 8", "ask 5 0": "error 8", "state 5 0": "error 8", "revoke 5 6": "error 8", "finish 5 0 9 www": "error 8",
		"probe 0 good": "error 8", "probe 0 bad": "error 8", "tick 9": "ok", "check 6": "none",
	} {
		checkDesk(t, line, line+"\n", impl.DeskOut{Text: want + "\n"})
		checkRight(t, line, line)
	}
}

// Promise 15, of lines that are none: nothing is told.
func TestDeskOfLinesWithOtherWords(t *testing.T) {
	for _, line := range eachLine() {
		words := strings.Split(line, " ")
		for i := range words {
			checkNone(t, "a word less", strings.Join(slices.Delete(slices.Clone(words), i, i+1), " "))
			checkNone(t, "an empty word", strings.Join(slices.Insert(slices.Clone(words), i, ""), " "))
			checkNone(t, "a word that is empty", strings.Join(slices.Replace(slices.Clone(words), i, i+1, ""), " "))
		}
		for i := range len(words) + 1 {
			for _, more := range []string{"5", "0", "www", "good", "bad", words[0], ","} {
				checkNone(t, "a word more", strings.Join(slices.Insert(slices.Clone(words), i, more), " "))
			}
		}
		checkNone(t, "a blank at its end", line+" ")
		checkNone(t, "a blank at its beginning", " "+line)
		checkNone(t, "blanks of another kind", strings.ReplaceAll(line, " ", "\t"))
		checkNone(t, "no blanks", strings.ReplaceAll(line, " ", ""))
		checkNone(t, "lines for words", strings.ReplaceAll(line, " ", "\n"))
	}
}

func TestDeskOfFirstWordsThatAreNone(t *testing.T) {
	others := []string{"", "x", "none", "nonce", "get", "help", "ok", "error", "good", "bad", "AcmeNew", "accounts", "handle", "\x00", "é", ",", "5", "0"}
	for _, line := range eachLine() {
		word, behind, _ := strings.Cut(line, " ")
		for i := range len(word) {
			checkNone(t, "a capital letter", word[:i]+strings.ToUpper(word[i:i+1])+word[i+1:]+" "+behind)
			checkNone(t, "a letter less", word[:i]+word[i+1:]+" "+behind)
			checkNone(t, "a byte more", word[:i]+"\x00"+word[i:]+" "+behind)
		}
		checkNone(t, "capital letters", strings.ToUpper(word)+" "+behind)
		checkNone(t, "a letter more", word+"s "+behind)
		checkNone(t, "no word behind it", word)
		for _, other := range others {
			checkNone(t, "another word", other+" "+behind)
			checkNone(t, "another word alone", other)
		}
	}
}

// Each first word goes with the words behind it, and with no other's.
func TestDeskOfWordsBehindAnothersFirst(t *testing.T) {
	for _, first := range impl.DeskWords() {
		for _, line := range eachLine() {
			_, behind, _ := strings.Cut(line, " ")
			if text := first + " " + behind; plainLine(text + "\n") {
				checkRight(t, "words behind another's first", text)
			} else {
				checkNone(t, "words behind another's first", text)
			}
		}
	}
}

func TestDeskOfLinesThatAreEmpty(t *testing.T) {
	checkNone(t, "an empty line", "")
	checkNone(t, "a blank", " ")
	checkNone(t, "blanks", "  ")
	checkNone(t, "a carriage return", "\r")
	checkNone(t, "a line that ends with a carriage return", "tick 1\r")
	checkFault(t, "line feeds", strings.Repeat("\n", 41), 0)
	checkFault(t, "two line feeds at the end", "tick 1\n\n", 1)
	checkFault(t, "a line feed ahead", "\ntick 1\n", 0)
}

func TestDeskOfALineWithoutItsLineFeed(t *testing.T) {
	for _, line := range eachLine() {
		checkFault(t, "no line feed", line, 0)
		checkFault(t, "no line feed behind another", "tick 1\n"+line, 1)
		checkFault(t, "no line feed behind others", askedDesk+line, 5)
		checkFault(t, "a carriage return for it", line+"\r", 0)
		checkFault(t, "a nought for it", line+"\x00", 0)
		checkFault(t, "a blank for it", line+" ", 0)
		checkFault(t, "its first byte only", "tick 1\n"+line[:1], 1)
		checkFault(t, "no line feed, the last of MaxDesk", strings.Repeat("tick 1\n", 39)+line, 39)
		checkFault(t, "no line feed, one too many", strings.Repeat("tick 1\n", 40)+line, 40)
	}
}

func TestDeskOfMaxDeskLines(t *testing.T) {
	full := strings.Repeat("tick 1\n", 40)
	checkDesk(t, "MaxDesk lines", full, impl.DeskOut{Text: strings.Repeat("ok\n", 40)})
	none := []string{"", " ", "tick", "x", "tick 01", "TICK 1"}
	for _, line := range append(eachLine(), none...) {
		checkFault(t, "one more", full+line+"\n", 40)
		checkFault(t, "many more", full+strings.Repeat(line+"\n", 40), 40)
	}
	for _, line := range eachLine() {
		checkFault(t, "one more ahead", line+"\n"+full, 40)
	}
	for _, line := range none {
		checkFault(t, "one more ahead, which is none", line+"\n"+full, 0)
	}
	for _, count := range []int{41, 42, 80, 400, 401, 2000} {
		checkFault(t, "more lines", strings.Repeat("tick 1\n", count), 40)
	}
	for _, at := range []int64{0, 1, 20, 38, 39} {
		checkFault(t, "a line that is none ahead of one too many", strings.Repeat("tick 1\n", int(at))+"tick\n"+full, at)
	}
}

// The first line that is none is told, whatever stands behind it.
func TestDeskTellsTheFirstFault(t *testing.T) {
	for _, c := range []struct {
		text string
		line int64
	}{
		{"tick 1\ntick\n", 1}, {"tick\ntick\n", 0}, {"tick 1\ntick\n\n", 1}, {"tick 1\n\ntick\n", 1}, {"tick 1\ntick 1\ntick 01\ntick", 2}, {"account 0\norder 0 x\n", 0},
		{"account 5\norder 5\naccount 0\n", 1}, {askedDesk + "check 6\ncheck -6\ncheck\n", 6}, {"x", 0}, {"tick 1\nx", 1}, {"tick 1\ntick 2\nprobe 0 well\nprobe 0", 2},
	} {
		checkFault(t, "several faults", c.text, c.line)
	}
}

func TestDeskOfMaxBytes(t *testing.T) {
	for _, head := range []string{"order 5 ", "account 5\norder 5 ", "finish 5 0 9 ", "account 5\norder 5 www\nfinish 5 0 9 ", strings.Repeat("tick 1\n", 39) + "order 5 "} {
		for _, name := range []string{"n", ",", "n,", "\xff", "\x00"} {
			names := strings.Repeat(name, impl.MaxBytes)
			text := head + names[:impl.MaxBytes-len(head)-1] + "\n"
			want := plainDesk(text)
			if want.Code != impl.OK || len(text) != impl.MaxBytes {
				t.Errorf("the test's own text %q is none", text[:40])
			}
			checkDesk(t, "MaxBytes", text, want)
			checkFault(t, "MaxBytes without a line feed", text[:impl.MaxBytes-1]+"n", int64(strings.Count(head, "\n")))
			checkDesk(t, "one more", head+names[:impl.MaxBytes-len(head)]+"\n", impl.DeskOut{Code: impl.ErrSize})
		}
	}
	for _, text := range append(tooLongTexts(), strings.Repeat("tick 1\n", 3000), strings.Repeat("\n", impl.MaxBytes+1), strings.Repeat(" ", impl.MaxBytes+1), "tick 1\n"+strings.Repeat("x", impl.MaxBytes)) {
		checkDesk(t, "too long", text, impl.DeskOut{Code: impl.ErrSize})
	}
	for _, text := range []string{strings.Repeat("\n", impl.MaxBytes), strings.Repeat(" ", impl.MaxBytes), strings.Repeat("x", impl.MaxBytes), mixedText(impl.MaxBytes)} {
		checkFault(t, "MaxBytes of no line", text, 0)
	}
}

// numberLines have % where a number stands, secretLines where a secret does.
func numberLines() []string {
	return []string{"ask 5 %", "state 5 %", "revoke 5 %", "finish 5 % 9 www", "probe % good", "probe % bad", "tick %", "check %"}
}

func secretLines() []string {
	return []string{"account %", "close %", "order % www", "ask % 0", "state % 0", "revoke % 6", "finish % 0 9 www", "finish 5 0 % www"}
}

// noNumbers are neither numbers nor secrets.
func noNumbers() []string {
	return []string{"", "00", "000000000", "01", "05", "007", "0123456789", "0000000001", "1000000000", "1073741788", "1073741789", "9999999999", "4294967297", "9223372036854775807",
		"9223372036854775808", "18446744073709551616", "18446744073709551617", "-9223372036854775808", "-1", "-0", "-5", "+1", "+0", "+5", "--1", "1-", "1+", "x", "x1", "1x", "1x1", "0x1", "0b1", "0o1",
		"1_0", "1e1", "1.0", ".1", "1.", "1,0", ",", "one", "\t1", "1\t", "\v1", "1\r", "\u00a01", "\x001", "1\x00", "\u0661", "\uff11", "\xff", "1\xff", strings.Repeat("1", 400), strings.Repeat("0", 400)}
}

func TestDeskOfNumbers(t *testing.T) {
	for _, line := range numberLines() {
		for _, n := range []string{"0", "1", "2", "5", "6", "9", "10", "11", "50", "99", "100000", "100001", "123456789", "900000000", "999999998", "999999999"} {
			checkRight(t, "a number", strings.Replace(line, "%", n, 1))
		}
		for _, n := range noNumbers() {
			checkNone(t, "no number", strings.Replace(line, "%", n, 1))
		}
	}
}

func TestDeskOfSecrets(t *testing.T) {
	for _, line := range secretLines() {
		for _, x := range []string{"1", "2", "5", "6", "9", "10", "77", "123456789", "536870912", "999999998", "999999999"} {
			checkRight(t, "a secret", strings.Replace(line, "%", x, 1))
		}
		for _, x := range append(noNumbers(), "0") {
			checkNone(t, "no secret", strings.Replace(line, "%", x, 1))
		}
	}
}

func TestDeskOfEachByteInANumber(t *testing.T) {
	for _, form := range append(numberLines(), secretLines()...) {
		for b := range 256 {
			if b == '\n' {
				continue
			}
			one := string([]byte{byte(b)})
			for _, n := range []string{one, one + "12", "1" + one + "2", "12" + one} {
				line := strings.Replace(form, "%", n, 1)
				want := impl.DeskOut{}
				if !plainLine(line + "\n") {
					want = impl.DeskOut{Line: 1, Code: impl.ErrSyntax}
				}
				if want.Code == impl.OK && (b < '0' || b > '9') {
					t.Errorf("the test's own line %q is right", line)
				}
				if got := impl.DeskFault("tick 1\n" + line + "\n"); got != want {
					t.Errorf("DeskFault of %q: got %+v, want %+v", line, got, want)
				}
			}
		}
	}
}

func TestDeskOfWhatWasFound(t *testing.T) {
	for _, found := range []string{"good", "bad"} {
		checkRight(t, "probe", "probe 0 "+found)
	}
	for _, found := range []string{"", "Good", "GOOD", "goo", "goods", "g", "Bad", "BAD", "ba", "bads", "b", "goodbad", "good,bad", "true", "false", "ok", "yes", "no", "0", "1", "x", ",", "good\t", "\tgood", "bad\x00", "bad\r"} {
		checkNone(t, "probe", "probe 0 "+found)
	}
}

// NAMES are any word.
func TestDeskOfEachByteInNames(t *testing.T) {
	for b := range 256 {
		if b == '\n' || b == ' ' {
			continue
		}
		one := string([]byte{byte(b)})
		want, behind := "error 3", "error 3"
		if 'a' <= b && b <= 'z' {
			want = "0"
		}
		if want == "0" || '0' <= b && b <= '9' || b == '-' {
			behind = "0"
		}
		checkDesk(t, "a byte as NAMES", "account 5\norder 5 "+one+"\n", impl.DeskOut{Text: "0\n" + want + "\n"})
		checkDesk(t, "a byte behind a letter", "account 5\norder 5 w"+one+"\n", impl.DeskOut{Text: "0\n" + behind + "\n"})
		checkDesk(t, "a byte as NAMES of finish", "account 5\nfinish 5 0 9 "+one+"\n", impl.DeskOut{Text: "0\nerror 8\n"})
	}
}

func TestDeskWords(t *testing.T) {
	want := []string{"account", "ask", "check", "close", "finish", "order", "probe", "revoke", "state", "tick"}
	first, second := impl.DeskWords(), impl.DeskWords()
	if !slices.Equal(first, want) || !slices.Equal(second, want) {
		t.Errorf("DeskWords: got %q, then %q, want %q", first, second, want)
	}
	for _, a := range memoriesOf(reflect.ValueOf(first), "first") {
		for _, b := range memoriesOf(reflect.ValueOf(second), "second") {
			if a.list && b.list && a.from < b.to && b.from < a.to {
				t.Error("DeskWords answers the same memory twice")
			}
		}
	}
	for i := range first {
		first[i] = "x"
	}
	if got := impl.DeskWords(); !slices.Equal(got, want) || !slices.Equal(second, want) {
		t.Errorf("DeskWords, when its answer was changed: got %q", got)
	}
	var begun []string
	for _, line := range eachLine() {
		word, _, _ := strings.Cut(line, " ")
		begun = append(begun, word)
	}
	slices.Sort(begun)
	if !slices.Equal(slices.Compact(begun), want) {
		t.Errorf("the test's own lines begin with %q", begun)
	}
}

// A byte of a right text that is another, one more or one less, at each place.
func TestDeskOfTextsWithOneByteChanged(t *testing.T) {
	text := "account 5\norder 5 a,b\nask 5 0\nprobe 0 good\nprobe 0 bad\nstate 5 0\nfinish 5 0 10 a,b\ncheck 7\nrevoke 5 7\ntick 90\nclose 5\n"
	for at := range len(text) + 1 {
		for b := range 256 {
			one := string([]byte{byte(b)})
			checkPlainFault(t, text[:at]+one+text[at:])
			if at < len(text) {
				checkPlainFault(t, text[:at]+one+text[at+1:])
			}
		}
		checkPlainFault(t, text[:at])
		checkPlainFault(t, text[at:])
		if at < len(text) {
			checkPlainFault(t, text[:at]+text[at+1:])
		}
	}
}

func checkPlainFault(t *testing.T, text string) {
	t.Helper()
	want := plainFault(text)
	if got := impl.DeskFault(text); got != want {
		t.Errorf("DeskFault of %q: got %+v, want %+v", text, got, want)
	}
	if want.Code == impl.OK {
		return
	}
	if got := impl.DeskRun(text); got != want {
		t.Errorf("DeskRun of %q: got %+v, want %+v", text, got, want)
	}
}
