package tests

import (
	"fmt"
	"math/rand"
	"slices"
	"strings"
	"testing"

	"loop.example/g00371/impl"
)

// story is lines, and what each of them tells.
type story struct {
	lines []string
	told  []string
}

// readStory reads lines with what they tell behind " = ".
func readStory(text string) *story {
	s := &story{}
	for _, line := range strings.Split(text, "\n") {
		if said, told, ok := strings.Cut(strings.TrimSpace(line), " = "); ok {
			s.add(said, told)
		}
	}
	return s
}

func (s *story) add(line string, told string) {
	s.lines, s.told = append(s.lines, line), append(s.told, told)
}

// takesNonce tells if a line with that first word asks by a request.
func takesNonce(first string) bool {
	return slices.Contains([]string{"account", "close", "order", "ask", "state", "finish", "revoke"}, first)
}

// finish adds a finish that is answered by a paper: its Serial comes behind the nonces so far, and the papers.
func (s *story) finish(line string) int64 {
	serial := int64(3)
	for i, said := range s.lines {
		words := strings.Split(said, " ")
		if takesNonce(words[0]) {
			serial++
		}
		if words[0] == "finish" && !strings.HasPrefix(s.told[i], "error") {
			serial++
		}
	}
	s.add(line, fmt.Sprint(serial))
	return serial
}

func withLineFeeds(lines []string) string {
	text := ""
	for _, line := range lines {
		text += line + "\n"
	}
	return text
}

// Promise 15: each line tells a line, one by one, and what it tells does not hang on those behind it.
func (s *story) check(t *testing.T, what string) {
	t.Helper()
	for count := range len(s.lines) + 1 {
		got := impl.DeskRun(withLineFeeds(s.lines[:count]))
		if want := (impl.DeskOut{Text: withLineFeeds(s.told[:count])}); got != want {
			t.Errorf("%s, %q: got %+v, want %+v", what, s.lines[:count], got, want)
			return
		}
	}
	text := withLineFeeds(s.lines)
	checkDesk(t, what, text, impl.DeskOut{Text: withLineFeeds(s.told)})
	if got, want := plainDesk(text).Text, withLineFeeds(s.told); got != want {
		t.Errorf("%s: the test's own sentences tell %q, the story %q", what, got, want)
	}
	for count := range len(s.lines) {
		checkFault(t, what+", and a line that is none", withLineFeeds(s.lines[:count])+"tick\n"+withLineFeeds(s.lines[count:]), int64(count))
	}
}

func checkStory(t *testing.T, what string, text string) {
	t.Helper()
	readStory(text).check(t, what)
}

// Promise 16: who has all found gets a paper, which is good till it is taken back, or its times end.
func TestStoriesOfAPaper(t *testing.T) {
	checkStory(t, "one name", `
		account 5 = 0
		order 5 www = 0
		state 5 0 = 1
		ask 5 0 = ok
		state 5 0 = 1
		probe 0 good = ok
		state 5 0 = 2
		check 9 = none
		finish 5 0 9 www = 9
		state 5 0 = 3
		check 8 = none
		check 9 = code 0
		check 10 = none
		tick 200 = ok
		check 9 = code 0
		revoke 5 9 = ok
		check 9 = code 14
		revoke 5 9 = error 14
		tick 1 = ok
		check 9 = code 12
		revoke 5 9 = error 14
		check 9 = code 12`)
	checkStory(t, "two names", `
		tick 10 = ok
		account 6 = 0
		account 5 = 1
		order 5 a,b = 0
		ask 5 1 = ok
		probe 1 good = ok
		state 5 0 = 1
		finish 5 0 10 a,b = error 10
		ask 5 0 = ok
		probe 0 good = ok
		state 5 0 = 2
		finish 5 0 10 a,b = 11
		check 11 = code 0
		tick 200 = ok
		check 11 = code 0
		tick 1 = ok
		check 11 = code 12
		state 5 0 = 3
		finish 5 0 10 a,b = error 10
		revoke 5 11 = ok
		check 11 = code 12`)
	checkStory(t, "a paper that stays when its account is closed", `
		account 5 = 0
		order 5 www = 0
		ask 5 0 = ok
		probe 0 good = ok
		finish 5 0 9 www = 6
		close 5 = ok
		check 6 = code 0
		revoke 5 6 = error 8
		account 5 = 0
		revoke 5 6 = error 8
		order 5 www = error 8
		check 6 = code 0`)
	checkStory(t, "two papers of one name, and of one key", `
		account 5 = 0
		order 5 www = 0
		order 5 www = 1
		ask 5 0 = ok
		probe 0 good = ok
		finish 5 1 9 www = 7
		state 5 0 = 2
		tick 50 = ok
		finish 5 0 9 www = 10
		revoke 5 7 = ok
		check 7 = code 14
		check 10 = code 0
		tick 151 = ok
		check 7 = code 12
		check 10 = code 0
		revoke 5 10 = ok
		check 10 = code 14`)
	checkStory(t, "names whose Auths do not rise with them", `
		account 5 = 0
		order 5 b = 0
		order 5 a,b = 1
		ask 5 1 = ok
		ask 5 0 = ok
		probe 0 good = ok
		state 5 0 = 2
		state 5 1 = 1
		probe 1 good = ok
		state 5 1 = 2
		finish 5 1 9 b,a = error 3
		finish 5 1 9 a,b = 12
		finish 5 0 9 b = 14
		check 12 = code 0
		check 14 = code 0`)
}

// Promise 16, of what was not found.
func TestStoriesOfWhatWasNotFound(t *testing.T) {
	checkStory(t, "a probe that finds nothing", `
		account 5 = 0
		order 5 a,b = 0
		ask 5 0 = ok
		ask 5 1 = ok
		probe 0 good = ok
		probe 1 bad = ok
		state 5 0 = 4
		finish 5 0 9 a,b = error 10
		finish 5 0 9 a = error 10
		ask 5 1 = error 10
		probe 1 good = error 10
		order 5 a,b = 1
		state 5 1 = 1
		ask 5 2 = ok
		probe 2 good = ok
		finish 5 0 9 a,b = error 10
		state 5 1 = 2
		finish 5 1 9 a,b = 16
		check 16 = code 0
		state 5 0 = 4`)
	checkStory(t, "an ask too late", `
		account 5 = 0
		order 5 a,b = 0
		ask 5 0 = ok
		probe 0 good = ok
		tick 51 = ok
		ask 5 1 = error 10
		state 5 0 = 4
		probe 1 good = error 10
		finish 5 0 9 a,b = error 10
		order 5 a,b = 1
		ask 5 0 = error 10
		ask 5 2 = ok
		probe 2 good = ok
		state 5 1 = 2
		finish 5 1 9 a,b = 13
		check 13 = code 0`)
	checkStory(t, "probes out of turn", `
		probe 0 good = error 8
		account 5 = 0
		order 5 a = 0
		probe 0 good = error 10
		probe 0 bad = error 10
		probe 1 good = error 8
		ask 5 0 = ok
		ask 5 0 = error 10
		probe 0 good = ok
		probe 0 good = error 10
		probe 0 bad = error 10
		ask 5 0 = error 10
		state 5 0 = 2`)
}

// Promise 16, of each set of what is done for the names of an order.
func TestStoriesOfEachNameFoundOrNot(t *testing.T) {
	for count := 1; count <= 5; count++ {
		kinds := []string{"good", "bad", "asked", "pending"}
		if count > 3 {
			kinds = kinds[:2]
		}
		sets := 1
		for range count {
			sets *= len(kinds)
		}
		for set := range sets {
			var chosen []string
			for left := set; len(chosen) < count; left /= len(kinds) {
				chosen = append(chosen, kinds[left%len(kinds)])
			}
			checkChosen(t, chosen)
		}
	}
}

// checkChosen checks the story of an order of as many names: each is found, or not, or just asked, or not even.
func checkChosen(t *testing.T, chosen []string) {
	t.Helper()
	names := strings.Join([]string{"a", "b", "c", "d", "e"}[:len(chosen)], ",")
	s := &story{}
	s.add("account 5", "0")
	s.add("order 5 "+names, "0")
	state := int64(2)
	for i, kind := range chosen {
		if kind != "pending" {
			s.add(fmt.Sprint("ask 5 ", i), "ok")
		}
		if kind == "good" || kind == "bad" {
			s.add(fmt.Sprint("probe ", i, " ", kind), "ok")
		}
		if kind == "bad" {
			state = 4
		} else if kind != "good" && state == 2 {
			state = 1
		}
	}
	s.add("state 5 0", fmt.Sprint(state))
	if state == 2 {
		s.add(fmt.Sprint("check ", s.finish("finish 5 0 9 "+names)), "code 0")
		s.add("state 5 0", "3")
	} else {
		s.add("finish 5 0 9 "+names, "error 10")
		for serial := range 20 {
			s.add(fmt.Sprint("check ", serial), "none")
		}
	}
	s.check(t, fmt.Sprint("names that are ", chosen))
}

// Promise 16, of who is late at each step: the order is good till 50, what is pending or asked likewise.
func TestStoriesOfWhoIsLate(t *testing.T) {
	times := []int64{0, 1, 49, 50, 51}
	for _, ask := range times {
		for _, probe := range times {
			for _, finish := range times {
				checkLate(t, ask, ask+probe, ask+probe+finish)
			}
		}
	}
}

func checkLate(t *testing.T, ask int64, probe int64, finish int64) {
	t.Helper()
	s := &story{}
	unless := func(fault bool, told string) string {
		if fault {
			return "error 10"
		}
		return told
	}
	s.add("account 5", "0")
	s.add("order 5 www", "0")
	s.add(fmt.Sprint("tick ", ask), "ok")
	s.add("ask 5 0", unless(ask > 50, "ok"))
	s.add(fmt.Sprint("tick ", probe-ask), "ok")
	s.add("probe 0 good", unless(probe > 50, "ok"))
	s.add(fmt.Sprint("tick ", finish-probe), "ok")
	if finish > 50 {
		s.add("state 5 0", "4")
		s.add("finish 5 0 9 www", "error 10")
		s.add("check 7", "none")
	} else {
		s.add("state 5 0", "2")
		s.add(fmt.Sprint("check ", s.finish("finish 5 0 9 www")), "code 0")
	}
	s.check(t, fmt.Sprint("asked at ", ask, ", found at ", probe, ", finished at ", finish))
}

// What was found is so for 100, so that another order of it is ready at once.
func TestStoriesOfANameThatWasFoundAhead(t *testing.T) {
	for _, later := range []int64{0, 1, 50, 51, 80, 99, 100} {
		for _, last := range []int64{0, 1, 20, 49, 50, 51, 100} {
			s := readStory(`
				account 5 = 0
				order 5 www = 0
				tick 30 = ok
				ask 5 0 = ok
				probe 0 good = ok`)
			s.add(fmt.Sprint("tick ", later), "ok")
			s.add("order 5 www", "1")
			s.add("state 5 1", "2")
			s.add(fmt.Sprint("tick ", last), "ok")
			if last > 50 || later+last > 100 {
				s.add("state 5 1", "4")
				s.add("finish 5 1 9 www", "error 10")
			} else {
				s.add(fmt.Sprint("check ", s.finish("finish 5 1 9 www")), "code 0")
			}
			s.check(t, fmt.Sprint("found at 30, ordered ", later, " later, finished ", last, " behind"))
		}
	}
	checkStory(t, "found so long ago that it is looked for anew", `
		account 5 = 0
		order 5 www = 0
		ask 5 0 = ok
		probe 0 good = ok
		tick 101 = ok
		order 5 www = 1
		state 5 1 = 1
		ask 5 0 = error 10
		probe 0 good = error 10
		ask 5 1 = ok
		probe 1 good = ok
		state 5 1 = 2
		state 5 0 = 4`)
}

// Promise 16, of who is another one.
func TestStoriesOfAnother(t *testing.T) {
	checkStory(t, "another account", `
		account 5 = 0
		account 6 = 1
		order 5 www = 0
		ask 6 0 = error 8
		ask 5 0 = ok
		state 6 0 = error 8
		probe 0 good = ok
		finish 6 0 9 www = error 8
		order 6 www = 1
		state 6 1 = 1
		ask 6 1 = ok
		finish 6 1 9 www = error 10
		finish 5 1 9 www = error 8
		finish 5 0 9 www = 15
		finish 6 0 9 www = error 8
		revoke 6 15 = error 8
		check 15 = code 0
		revoke 5 15 = ok
		check 15 = code 14
		revoke 6 15 = error 8
		state 6 1 = 1`)
	checkStory(t, "the key that signs the account's requests", `
		account 5 = 0
		account 6 = 1
		order 5 www = 0
		ask 5 0 = ok
		probe 0 good = ok
		finish 5 0 5 www = error 15
		state 5 0 = 2
		finish 5 0 6 www = 9
		check 9 = code 0`)
	checkStory(t, "no account, or one that was closed", `
		account 5 = 0
		order 5 www = 0
		ask 5 0 = ok
		probe 0 good = ok
		finish 8 0 9 www = error 8
		state 8 0 = error 8
		close 8 = error 8
		order 8 www = error 8
		close 5 = ok
		finish 5 0 9 www = error 8
		state 5 0 = error 8
		ask 5 0 = error 8
		close 5 = error 8
		account 5 = 0
		finish 5 0 9 www = error 8
		account 8 = 1
		finish 8 0 9 www = error 8
		check 19 = none`)
}

// Promise 16, of names that are not those of the order.
func TestStoriesOfOtherNames(t *testing.T) {
	checkStory(t, "other names", `
		account 5 = 0
		order 5 a,b,c = 0
		ask 5 0 = ok
		ask 5 1 = ok
		ask 5 2 = ok
		probe 0 good = ok
		probe 1 good = ok
		probe 2 good = ok
		finish 5 0 9 a = error 15
		finish 5 0 9 a,b = error 15
		finish 5 0 9 b,c = error 15
		finish 5 0 9 a,b,d = error 15
		finish 5 0 9 a,b,c,d = error 15
		finish 5 0 9 a,b,cc = error 15
		finish 5 0 9 c,b,a = error 3
		finish 5 0 9 a,b,c, = error 3
		finish 5 0 9 ,a,b,c = error 3
		finish 5 0 9 a,,b,c = error 3
		finish 5 0 9 a,b,b,c = error 3
		finish 5 0 9 a,b,C = error 3
		finish 5 0 9 a;b;c = error 3
		finish 5 0 9 a,b,c,d,e,f = error 3
		state 5 0 = 2
		finish 5 0 9 a,b,c = 23
		check 23 = code 0`)
}

// wrongWords are NAMES that the office takes for none.
func wrongWords() []string {
	return []string{",", ",,", ",a", "a,", "a,,b", ",a,b", "a,b,", ",a,", "b,a", "a,c,b", "a,a", "a,b,b", "a,a,b", "a,b,a", "A", "a,B", "1", "a,1", "-", "-a", "a,-b", "a_b", "a.b", "a;b", "a/b", "*", "*.a",
		"é", "aé", "\xff", "a\x00", "\x00", "a\t", "a\r", "a,\tb", "a,b,c,d,e,f", "a,b,c,d,e,f,g", strings.Repeat("n", 41), "a," + strings.Repeat("n", 41), strings.Repeat("n", 1996), strings.Repeat(",", 300),
		"aa,a", "b,ab", "a-,a", "a0,a-", "aa,ab,aaa"}
}

func TestStoriesOfNames(t *testing.T) {
	for _, names := range []string{"a", "z", "a,b", "a,aa", "a-,a0", "a,b,c", "a,b,c,d,e", "a-9", "a--", "good", "ok", "n," + strings.Repeat("n", 40), strings.Join(manyNames(5), ",")} {
		s := readStory(`account 5 = 0`)
		s.add("order 5 "+names, "0")
		for i := range strings.Count(names, ",") + 1 {
			s.add(fmt.Sprint("ask 5 ", i), "ok")
			s.add(fmt.Sprint("probe ", i, " good"), "ok")
		}
		s.add(fmt.Sprint("check ", s.finish("finish 5 0 9 "+names)), "code 0")
		s.check(t, "NAMES")
	}
	for _, names := range wrongWords() {
		s := readStory(`order 5 a = error 8`)
		s.add("order 5 "+names, "error 3")
		s.add("account 5", "0")
		s.add("order 5 "+names, "error 3")
		s.add("finish 5 0 9 "+names, "error 8")
		s.add("order 5 a", "0")
		s.add("finish 5 0 9 "+names, "error 10")
		s.add("finish 8 0 9 "+names, "error 8")
		s.add("ask 5 0", "ok")
		s.add("probe 0 good", "ok")
		s.add("finish 5 0 9 "+names, "error 3")
		s.add(fmt.Sprint("check ", s.finish("finish 5 0 9 a")), "code 0")
		s.check(t, fmt.Sprintf("NAMES that are none, %q", firstBytes(names)))
	}
}

// longWords are NAMES of a Body of as many bytes, or of as many empty names.
func longWords(size int) []string {
	return []string{strings.Repeat("n", size-3), "a," + strings.Repeat("n", size-5), strings.Repeat(",", size-3), strings.Repeat("\xff", size-3)}
}

// A request that can not be signed is told as error 3. It has a nonce, as that of the paper behind it tells; in
// finish it is the Csr alone that can not be signed, and the request is.
func TestStoriesOfARequestThatCanNotBeSigned(t *testing.T) {
	for _, size := range []int{1999, 2000, 2001, 2002, 3000, 8000} {
		for _, names := range longWords(size) {
			if body := namesBody(strings.Split(names, ",")...); len(body) != size || (impl.JwsSign(5, 2, "order", body) == "") != (size > 2000) {
				t.Errorf("the test's own NAMES make a Body of %d bytes, not of %d", len(body), size)
			}
			s := readStory(`account 5 = 0`)
			s.add("order 5 "+names, "error 3")
			s.add("order 5 www", "0")
			s.add("ask 5 0", "ok")
			s.add("finish 5 0 9 "+names[:len(names)/2], "error 10")
			s.add("probe 0 good", "ok")
			s.add("finish 5 0 9 "+names[:len(names)/2], "error 3")
			s.add("finish 6 0 9 w", "error 8")
			s.add(fmt.Sprint("check ", s.finish("finish 5 0 9 www")), "code 0")
			s.check(t, fmt.Sprint("a Body of ", size))
		}
	}
	// The first of MaxNonces nonces go, when those of requests that can not be signed stay.
	for count := 1; count < 12; count++ {
		s := readStory(`account 5 = 0`)
		for range count {
			s.add("order 8 "+strings.Repeat(",", 1700)+strings.Repeat("n", 300/count), "error 3")
		}
		s.add("order 5 www", "0")
		s.add("ask 5 0", "ok")
		s.add("probe 0 good", "ok")
		s.add(fmt.Sprint("check ", s.finish("finish 5 0 9 www")), "code 0")
		s.check(t, fmt.Sprint(count, " requests that can not be signed"))
	}
}

func TestStoriesOfWhatIsFull(t *testing.T) {
	checkStory(t, "accounts", `
		account 5 = 0
		account 6 = 1
		account 7 = 2
		account 8 = 3
		account 77 = 4
		account 999999999 = 5
		account 1 = error 11
		account 999999999 = 5
		account 5 = 0
		close 5 = ok
		account 5 = 0
		account 1 = error 11
		close 5 = error 8
		close 1 = error 8
		order 77 www = 0`)
	checkStory(t, "Auths", `
		account 5 = 0
		account 6 = 1
		order 5 a,b,c,d,e = 0
		order 5 f,g,h,i,j = 1
		order 5 k,l,m,n,o = 2
		order 5 p,q,r,s,t = 3
		order 5 u = error 11
		order 5 a,u = error 11
		order 6 a = error 11
		order 5 a,t = 4
		order 5 u,a = error 3
		order 8 u = error 8
		ask 5 19 = ok
		ask 5 20 = error 8
		probe 19 good = ok
		probe 20 good = error 8
		state 5 4 = 1
		state 5 5 = error 8`)
	s := readStory(`account 5 = 0`)
	for n := range 12 {
		s.add("order 5 www", fmt.Sprint(n))
	}
	s.add("order 5 www", "error 11")
	s.add("state 5 11", "1")
	s.add("state 5 12", "error 8")
	s.add("ask 5 0", "ok")
	s.add("ask 5 1", "error 8")
	s.add("probe 0 good", "ok")
	s.add(fmt.Sprint("check ", s.finish("finish 5 11 9 www")), "code 0")
	s.add("order 5 www", "error 11")
	s.check(t, "orders")
}

// A paper for each of MaxOrders orders, of one name that was found once.
func TestStoryOfManyPapers(t *testing.T) {
	s := readStory(`
		account 5 = 0
		order 5 www = 0
		ask 5 0 = ok
		probe 0 good = ok`)
	for n := range 11 {
		s.add("order 5 www", fmt.Sprint(n+1))
	}
	var last int64
	for n := range 12 {
		last = s.finish(fmt.Sprint("finish 5 ", n, " ", 100+n, " www"))
	}
	s.add(fmt.Sprint("check ", last), "code 0")
	s.add(fmt.Sprint("revoke 5 ", last-2), "ok")
	s.add(fmt.Sprint("check ", last), "code 0")
	s.add(fmt.Sprint("check ", last-1), "none")
	s.add(fmt.Sprint("check ", last-2), "code 14")
	s.check(t, "many papers")
}

func TestStoriesOfTheClock(t *testing.T) {
	s := &story{}
	s.add("tick 100001", "error 1")
	s.add("tick 999999999", "error 1")
	s.add("tick 0", "ok")
	for range 9 {
		s.add("tick 100000", "ok")
	}
	s.add("tick 100001", "error 1")
	s.add("tick 100000", "error 11")
	s.add("tick 1", "error 11")
	s.add("tick 0", "ok")
	s.add("account 5", "0")
	s.add("order 5 www", "0")
	s.add("ask 5 0", "ok")
	s.add("probe 0 good", "ok")
	s.add(fmt.Sprint("check ", s.finish("finish 5 0 9 www")), "code 0")
	s.add("tick 1", "error 11")
	s.check(t, "the last Clock")
	checkStory(t, "close to the last Clock", `
		tick 99999 = ok
		tick 100000 = ok
		tick 100000 = ok
		tick 100000 = ok
		tick 100000 = ok
		tick 100000 = ok
		tick 100000 = ok
		tick 100000 = ok
		tick 99900 = ok
		account 5 = 0
		order 5 www = 0
		tick 50 = ok
		ask 5 0 = ok
		probe 0 good = ok
		finish 5 0 9 www = 6
		tick 52 = error 11
		tick 51 = ok
		tick 1 = error 11
		check 6 = code 0`)
}

// What each Url tells of another's secrets, numbers that are none, and the same once more.
func TestStoriesOfEachCode(t *testing.T) {
	checkStory(t, "numbers that are none", `
		account 5 = 0
		ask 5 0 = error 8
		state 5 0 = error 8
		finish 5 0 9 www = error 8
		revoke 5 0 = error 8
		revoke 5 1 = error 8
		revoke 5 6 = error 8
		order 5 www = 0
		ask 5 1 = error 8
		ask 5 999999999 = error 8
		state 5 1 = error 8
		state 5 999999999 = error 8
		finish 5 1 9 www = error 8
		finish 5 999999999 9 www = error 8
		revoke 5 999999999 = error 8
		probe 1 good = error 8
		probe 999999999 bad = error 8
		check 0 = none
		check 1 = none
		check 999999999 = none
		ask 5 0 = ok
		probe 0 good = ok
		state 5 0 = 2
		finish 5 0 999999999 www = 20
		check 1 = none
		check 19 = none
		check 20 = code 0
		check 21 = none
		revoke 5 1 = error 8
		revoke 5 19 = error 8
		revoke 5 20 = ok`)
	checkStory(t, "the office's own secret, and that of one, are as others'", `
		account 77 = 0
		account 1 = 1
		order 77 www = 0
		order 1 www = 1
		ask 77 0 = ok
		ask 1 1 = ok
		probe 0 good = ok
		probe 1 good = ok
		finish 77 0 1 www = 9
		finish 1 1 77 www = 11
		check 9 = code 0
		check 11 = code 0
		revoke 77 9 = ok
		check 9 = code 14
		check 11 = code 0`)
}

// deskWalk draws lines of one desk, as its source of numbers, the same each time, draws it, mostly such as tell
// no fault.
type deskWalk struct {
	clerk
	r *rand.Rand
	s story
}

func (w *deskWalk) oneIn(count int) bool {
	return w.r.Intn(count) == 0
}

func (w *deskWalk) pick(words ...string) string {
	return words[w.r.Intn(len(words))]
}

// pickNumber draws a number, mostly one of those that are so, if there are any.
func (w *deskWalk) pickNumber(size int, so func(n int64) bool) int64 {
	var all []int64
	for n := range int64(size) {
		if so(n) {
			all = append(all, n)
		}
	}
	if len(all) == 0 || w.oneIn(8) {
		return int64(w.r.Intn(size + 1))
	}
	return all[w.r.Intn(len(all))]
}

// owner is mostly the secret of that account.
func (w *deskWalk) owner(account func() int64, there bool) string {
	if there && !w.oneIn(10) {
		for _, x := range []string{"5", "6", "7"} {
			if w.a.Accounts[account()].Key == impl.PublicOf(plainDigits(x)) {
				return x
			}
		}
	}
	return w.pick("5", "6", "7", "8")
}

func (w *deskWalk) line() string {
	switch k := w.r.Intn(24); {
	case k < 2 || len(w.a.Accounts) == 0:
		return "account " + w.pick("5", "5", "6", "7")
	case k < 6 || len(w.a.Orders) == 0:
		return "order " + w.pick("5", "5", "6", "7") + " " + w.pick("a", "b", "a", "a,b", "b,c", "a,b,c", "b,a", ",a")
	case k < 10:
		n := w.pickNumber(len(w.a.Auths), func(n int64) bool { return plainAuth(w.a, n) == 1 })
		return fmt.Sprint("ask ", w.owner(func() int64 { return w.a.Auths[n].Account }, n < int64(len(w.a.Auths))), " ", n)
	case k < 14:
		n := w.pickNumber(len(w.a.Auths), func(n int64) bool { return plainAuth(w.a, n) == 2 })
		return fmt.Sprint("probe ", n, " ", w.pick("good", "good", "good", "good", "good", "bad"))
	case k < 19:
		return w.ofOrder(w.pick("finish", "finish", "finish", "state"))
	case k < 22:
		return w.ofPaper()
	case k < 23:
		return "tick " + w.pick("0", "1", "5", "5", "10", "20", "51", "100", "150", "201", "100000", "100001")
	}
	return w.pick("close 5", "close 6", "close 7", "close 8", "check 0", "account 8")
}

func (w *deskWalk) ofPaper() string {
	if len(w.a.Issued) == 0 || w.oneIn(10) {
		return fmt.Sprint(w.pick("check ", "revoke 5 "), w.r.Intn(20))
	}
	one := w.a.Issued[w.r.Intn(len(w.a.Issued))]
	if w.oneIn(2) {
		return fmt.Sprint("check ", one.Cert.Serial)
	}
	return fmt.Sprint("revoke ", w.owner(func() int64 { return one.Account }, true), " ", one.Cert.Serial)
}

func (w *deskWalk) ofOrder(first string) string {
	n := w.pickNumber(len(w.a.Orders), func(n int64) bool { return plainOrder(w.a, n) == 2 })
	there := n < int64(len(w.a.Orders))
	line := fmt.Sprint(first, " ", w.owner(func() int64 { return w.a.Orders[n].Account }, there), " ", n)
	if first == "state" {
		return line
	}
	names := []string{"a", "b"}
	if there && !w.oneIn(8) {
		names = nil
		for _, k := range w.a.Orders[n].Auths {
			names = append(names, w.a.Auths[k].Name)
		}
		slices.Sort(names)
	}
	return line + " " + w.pick("9", "9", "10", "11", "5") + " " + strings.Join(names, ",")
}

// Promises 15 and 16, of what many desks come to.
func TestDesksThatAreWalked(t *testing.T) {
	told := map[string]int{}
	for seed := range int64(400) {
		w := &deskWalk{clerk: *newClerk(), r: rand.New(rand.NewSource(seed))}
		for range 40 - w.r.Intn(40)*w.r.Intn(2) {
			line := w.line()
			w.s.add(line, w.do(strings.Split(line, " ")))
			first, _, _ := strings.Cut(line, " ")
			last := w.s.told[len(w.s.told)-1]
			if !strings.ContainsAny(last, "eno") {
				last = "N"
			}
			told[first+" "+last]++
		}
		checkDesk(t, fmt.Sprint("walk ", seed), withLineFeeds(w.s.lines), impl.DeskOut{Text: withLineFeeds(w.s.told)})
		cut := w.r.Intn(len(w.s.lines))
		checkDesk(t, fmt.Sprint("the head of walk ", seed), withLineFeeds(w.s.lines[:cut]), impl.DeskOut{Text: withLineFeeds(w.s.told[:cut])})
		if t.Failed() {
			return
		}
	}
	for _, what := range []string{"account N", "order N", "order error 3", "order error 8", "ask ok", "ask error 8", "ask error 10", "probe ok", "probe error 8", "probe error 10",
		"state N", "state error 8", "finish N", "finish error 8", "finish error 10", "finish error 15", "check code 0", "check code 12", "check code 14", "check none", "revoke ok", "revoke error 8",
		"revoke error 14", "tick ok", "tick error 1", "close ok", "close error 8"} {
		if told[what] < 3 {
			t.Errorf("the walks come to %q just %d times", what, told[what])
		}
	}
}

// Words put together at random: no panic leaves the calls, and each text is told as the document's sentences do.
func TestDesksOfAnyWords(t *testing.T) {
	words := append(impl.DeskWords(), "5", "0", "1", "9", "www", "a,b", ",", "good", "bad", "", "x", "\x00", "\xff", "01", "999999999", "1000000000", "-1", " ", "\n", "5\n", "0\n", "www\n", "good\n", "\nask")
	r := rand.New(rand.NewSource(1))
	for range 60000 {
		var some []string
		for range r.Intn(12) {
			some = append(some, words[r.Intn(len(words))])
		}
		checkPlainFault(t, strings.Join(some, " "))
		checkPlainFault(t, strings.Join(some, " ")+"\n")
	}
	lines := append(eachLine(), "account 6", "order 6 a,b", "ask 6 0", "tick 100000", "finish 6 0 9 a,b", "probe 1 good", "")
	for range 300 {
		var some []string
		for range r.Intn(43) {
			some = append(some, lines[r.Intn(len(lines)-r.Intn(2))])
		}
		text := withLineFeeds(some)
		checkDesk(t, "lines at random", text, plainDesk(text))
	}
	for _, text := range append(someTexts(), longTexts()...) {
		checkDesk(t, "any text", text, plainFault(text))
	}
}
