package codes_test

import (
	"slices"
	"strconv"
	"strings"
	"sync"
	"testing"

	"comptoir/codes"
)

// chapter is the table as the chapter has it.
const chapter = "000 APPR NORM; 001 APPR IDEN; 002 PART NORM; 100 DECL NORM; 101 DECL EXPD; 102 DECL FRAU; 104 DECL REST; 109 DECL MRCH; 110 DECL AMNT; 116 DECL INSF; 117 DECL PINV; 118 DECL NOCD; 121 DECL LIMT; 200 PICK NORM; 400 RVSL NORM; 500 RECN NORM; 800 NETW NORM; 904 TECH FORM; 907 TECH ISSR; 909 TECH BUSY; 911 TECH TIMO; 912 TECH DOWN"

// pair is a status and a reason.
type pair struct{ status, reason string }

// want is what the calls have to tell.
type want struct {
	rows    []string        // the actions, in their order
	words   map[string]pair // by action
	actions map[pair]string // by words
}

// wants reads the chapter's table.
func wants(t *testing.T) want {
	t.Helper()
	w := want{words: map[string]pair{}, actions: map[pair]string{}}
	for _, line := range strings.Split(chapter, "; ") {
		cells := strings.Split(line, " ")
		if len(cells) != 3 || len(cells[0]) != 3 || len(cells[1]) != 4 || len(cells[2]) != 4 {
			t.Fatalf("no row: %q", line)
		}
		p := pair{cells[1], cells[2]}
		w.rows = append(w.rows, cells[0])
		w.words[cells[0]] = p
		w.actions[p] = cells[0]
	}
	if len(w.rows) != 22 || len(w.words) != 22 || len(w.actions) != 22 {
		t.Fatalf("%d rows, %d actions, %d words", len(w.rows), len(w.words), len(w.actions))
	}
	return w
}

// statuses are those of all rows, each once.
func (w want) statuses() []string { return w.each(func(p pair) string { return p.status }) }

// reasons are those of all rows, each once.
func (w want) reasons() []string { return w.each(func(p pair) string { return p.reason }) }

// each is one word of all rows, each once, rising.
func (w want) each(word func(pair) string) []string {
	var out []string
	for _, p := range w.words {
		out = append(out, word(p))
	}
	slices.Sort(out)
	return slices.Compact(out)
}

// asks fails unless Words, Known and Yes tell of the action what the chapter does.
func (w want) asks(t *testing.T, action string) {
	t.Helper()
	p, is := w.words[action]
	if status, reason, ok := codes.Words(action); status != p.status || reason != p.reason || ok != is {
		t.Errorf("Words(%+q): %q, %q, %v; want %q, %q, %v", action, status, reason, ok, p.status, p.reason, is)
	}
	if ok := codes.Known(action); ok != is {
		t.Errorf("Known(%+q): %v", action, ok)
	}
	if yes := codes.Yes(action); yes != (p.status == "APPR" || p.status == "PART") {
		t.Errorf("Yes(%+q): %v", action, yes)
	}
}

// finds fails unless Action tells of the words what the chapter does.
func (w want) finds(t *testing.T, status, reason string) {
	t.Helper()
	action, is := w.actions[pair{status, reason}]
	if a, ok := codes.Action(status, reason); a != action || ok != is {
		t.Errorf("Action(%+q, %+q): %q, %v; want %q, %v", status, reason, a, ok, action, is)
	}
}

// capitals tells all rows of four capitals.
func capitals(tell func(s string)) {
	s := []byte("AAAA")
	for n := range 26 * 26 * 26 * 26 {
		for i := range s {
			s[i] = 'A' + byte(n%26)
			n /= 26
		}
		tell(string(s))
	}
}

// cases are all ways to write the letters of s, capital and small.
func cases(s string) []string {
	out := []string{""}
	for i := range len(s) {
		var longer []string
		for _, ahead := range out {
			longer = append(longer, ahead+strings.ToUpper(s[i:i+1]), ahead+strings.ToLower(s[i:i+1]))
		}
		out = longer
	}
	return out
}

// signs are all bytes, and some characters of more than one.
func signs() []string {
	out := []string{"Ａ", "А", "０", "٠", "é", "\u00a0", "\ufeff", "😀"}
	for x := range 256 {
		out = append(out, string([]byte{byte(x)}))
	}
	return out
}

// near are texts with a sign turned, one more, one less, or another case.
func near(s string) []string {
	out := append(cases(s), s+s, s+" "+s, " "+s+" ", `"`+s+`"`, "0x"+s, "+"+s, s+".0", strings.Repeat(s, 1_000))
	for i := range len(s) + 1 {
		out = append(out, s[:i], s[i:])
		for _, x := range signs() {
			out = append(out, s[:i]+x+s[i:])
			if i < len(s) {
				out = append(out, s[:i]+x+s[i+1:])
			}
		}
		for k := i; k < len(s); k++ {
			swapped := []byte(s)
			swapped[i], swapped[k] = swapped[k], swapped[i]
			out = append(out, string(swapped), s[:i]+s[k+1:])
		}
	}
	return out
}

func TestTheChaptersExample(t *testing.T) {
	if status, reason, ok := codes.Words("116"); status != "DECL" || reason != "INSF" || !ok {
		t.Errorf("Words(116): %q, %q, %v", status, reason, ok)
	}
}

func TestEachRow(t *testing.T) {
	w := wants(t)
	for _, action := range w.rows {
		p := w.words[action]
		status, reason, ok := codes.Words(action)
		if status != p.status || reason != p.reason || !ok {
			t.Errorf("Words(%s): %q, %q, %v; want %v", action, status, reason, ok, p)
		}
		if a, ok := codes.Action(p.status, p.reason); a != action || !ok {
			t.Errorf("Action%v: %q, %v; want %s", p, a, ok, action)
		}
		if !codes.Known(action) {
			t.Errorf("Known(%s): false", action)
		}
	}
}

func TestEachActionHasWordsOfItsOwn(t *testing.T) {
	seen := map[pair]string{}
	for _, action := range codes.All() {
		status, reason, ok := codes.Words(action)
		if !ok || len(status) != 4 || len(reason) != 4 || strings.Trim(status+reason, "ABCDEFGHIJKLMNOPQRSTUVWXYZ") != "" {
			t.Errorf("Words(%s): %q, %q, %v", action, status, reason, ok)
		}
		if other := seen[pair{status, reason}]; other != "" {
			t.Errorf("%s %s are of %s, and of %s", status, reason, other, action)
		}
		seen[pair{status, reason}] = action
		if a, ok := codes.Action(status, reason); a != action || !ok {
			t.Errorf("Action(%s, %s): %q, %v; they are the words of %s", status, reason, a, ok, action)
		}
	}
	if len(seen) != 22 {
		t.Errorf("%d actions", len(seen))
	}
}

func TestYesOfApprAndPartAlone(t *testing.T) {
	want := []string{"000", "001", "002"}
	var got []string
	for n := range 1_000 {
		if s := strconv.Itoa(1_000 + n)[1:]; codes.Yes(s) {
			got = append(got, s)
		}
	}
	if !slices.Equal(got, want) {
		t.Errorf("Yes of %v; want %v", got, want)
	}
	for _, s := range []string{"", "APPR", "PART", "NORM", "IDEN", "1", "yes", "0", "00", "0000", "003", "999"} {
		if codes.Yes(s) {
			t.Errorf("Yes(%q): true", s)
		}
	}
}

func TestAllAsTheyStand(t *testing.T) {
	want := wants(t).rows
	if got := codes.All(); !slices.Equal(got, want) {
		t.Errorf("All: %v; want %v", got, want)
	}
}

func TestAllIsNewMemory(t *testing.T) {
	w := wants(t)
	first, second := codes.All(), codes.All()
	for i := range first {
		first[i] = "x"
	}
	behind := append(first, "x", "x")
	for i := range behind[:cap(behind)] {
		behind[:cap(behind)][i] = "y"
	}
	if !slices.Equal(second, w.rows) || !slices.Equal(codes.All(), w.rows) {
		t.Errorf("who writes into one answer changes another: %v, %v", second, codes.All())
	}
	for action, p := range w.words {
		w.asks(t, action)
		w.finds(t, p.status, p.reason)
	}
	w.asks(t, "x")
	w.asks(t, "y")
}

func TestAllNumbersOfDigits(t *testing.T) {
	w := wants(t)
	found := 0
	for n := range 1_000 {
		s := strconv.Itoa(1_000 + n)[1:]
		w.asks(t, s)
		if codes.Known(s) {
			found++
		}
		// Less, and more, than the digits that there are.
		for _, other := range []string{strconv.Itoa(n), "0" + s, s + "0", "00" + s, s[:2], s[:1], s[1:], strconv.Itoa(-n), s + s} {
			w.asks(t, other)
		}
	}
	if found != 22 {
		t.Errorf("%d actions are known", found)
	}
	for n := range 10_000 {
		w.asks(t, strconv.Itoa(10_000 + n)[1:])
	}
}

func TestTextsThatAreNearToAnAction(t *testing.T) {
	w := wants(t)
	for _, action := range w.rows {
		p := w.words[action]
		for _, s := range near(action) {
			w.asks(t, s)
		}
		for _, s := range []string{p.status, p.reason, p.status + p.reason, action + p.status, action + " " + p.status + " " + p.reason, p.status + action} {
			w.asks(t, s)
		}
	}
	for _, s := range []string{"", " ", "\x00", "\xff", "abc", "-00", "+00", "0x0", "1e2", "É00", "999", strings.Repeat("0", 100_000)} {
		w.asks(t, s)
	}
}

func TestAllPairsOfWordsThatThereAre(t *testing.T) {
	w := wants(t)
	statuses, reasons := w.statuses(), w.reasons()
	if len(statuses) != 8 || len(reasons) != 16 {
		t.Fatalf("%d statuses, %d reasons", len(statuses), len(reasons))
	}
	found := 0
	for _, status := range statuses {
		for _, reason := range reasons {
			w.finds(t, status, reason)
			if _, ok := codes.Action(status, reason); ok {
				found++
			}
		}
	}
	if found != 22 {
		t.Errorf("%d pairs are known", found)
	}
	// One in the place of the other, or one alone, or an action in the place of one.
	all := slices.Concat(statuses, reasons, w.rows, []string{"", " ", "\x00"})
	for _, a := range all {
		for _, b := range all {
			w.finds(t, a, b)
		}
	}
}

func TestAllRowsOfFourCapitalsAsAStatus(t *testing.T) {
	w := wants(t)
	found := 0
	reasons := []string{"NORM", "IDEN", "EXPD", "DOWN"}
	capitals(func(s string) {
		for _, reason := range reasons {
			if action, ok := codes.Action(s, reason); action != "" || ok {
				w.finds(t, s, reason)
				found++
			}
		}
	})
	// NORM is a reason of seven statuses, each other one of these of but one.
	if found != 10 {
		t.Errorf("%d pairs are known", found)
	}
}

func TestAllRowsOfFourCapitalsAsAReason(t *testing.T) {
	w := wants(t)
	found := 0
	statuses := w.statuses()
	capitals(func(s string) {
		for _, status := range statuses {
			if action, ok := codes.Action(status, s); action != "" || ok {
				w.finds(t, status, s)
				found++
			}
		}
	})
	if found != 22 {
		t.Errorf("%d pairs are known", found)
	}
}

func TestTextsThatAreNearToWords(t *testing.T) {
	w := wants(t)
	for _, p := range w.words {
		for _, s := range near(p.status) {
			w.finds(t, s, p.reason)
		}
		for _, s := range near(p.reason) {
			w.finds(t, p.status, s)
		}
	}
}

func TestWordsAreNotJoined(t *testing.T) {
	w := wants(t)
	for _, p := range w.words {
		for _, between := range []string{"", " ", "\x00", "/", "|", ",", ";"} {
			s := p.status + between + p.reason
			for i := range len(s) + 1 {
				w.finds(t, s[:i], s[i:])
				w.finds(t, s[i:], s[:i])
			}
			w.finds(t, s, s)
		}
		w.finds(t, p.reason, p.status)
		w.finds(t, p.status, p.status)
		w.finds(t, p.reason, p.reason)
	}
}

// told is what all calls tell of what is given here.
func (w want) told() []string {
	out := codes.All()
	for _, s := range slices.Concat(w.rows, w.statuses(), []string{"", "003", "999"}) {
		status, reason, ok := codes.Words(s)
		out = append(out, status, reason, strconv.FormatBool(ok), strconv.FormatBool(codes.Known(s)), strconv.FormatBool(codes.Yes(s)))
		for _, word := range w.reasons() {
			action, is := codes.Action(s, word)
			out = append(out, action, strconv.FormatBool(is))
		}
	}
	return out
}

func TestCallsHangOnTheirArgumentsAlone(t *testing.T) {
	w := wants(t)
	want := w.told()
	codes.Words("912")
	codes.Action("TECH", "DOWN")
	codes.Yes("none")
	if got := w.told(); !slices.Equal(got, want) {
		t.Error("the second time, the calls answered something else")
	}
	var all sync.WaitGroup
	for range 8 {
		all.Go(func() {
			if got := w.told(); !slices.Equal(got, want) {
				t.Error("beside others, the calls answered something else")
			}
		})
	}
	all.Wait()
}
