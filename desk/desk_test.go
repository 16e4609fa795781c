package desk

import (
	"crypto/sha256"
	"encoding/hex"
	"fmt"
	"slices"
	"strings"
	"testing"

	"coffer/api"
	"coffer/base"
	"coffer/sum"
)

// rows are lines that are well said, one of each row of the table, and how many words each row asks at least and at most (-1: any many).
func rows() []struct {
	line        string
	least, most int
} {
	return []struct {
		line        string
		least, most int
	}{
		{"new x", 1, 1}, {"make 2", 1, 1}, {"put a - 1", 3, -1}, {"del a", 1, 1}, {"undo", 0, 0},
		{"commit", 0, 0}, {"turn", 0, 0}, {"count", 0, 0}, {"epoch", 0, 0}, {"items", 0, 0},
		{"find 1 - 1", 3, -1}, {"open", 0, 0}, {"fuse 1", 1, 1}, {"crash 1", 1, 1}, {"image", 0, 0},
		{"lay", 0, 0}, {"spoil 1 1", 2, 2}, {"block a 1", 2, 2}, {"sum", 0, -1}, {"help", 0, 0},
	}
}

// askBase are the rows that ask the base.
func askBase() []string {
	return []string{"make 2", "put a - 1 2", "del a", "undo", "commit", "turn", "count", "epoch", "items", "find 1 - 1 2"}
}

// wantSession holds what a text is answered against what the document asks: a line each.
func wantSession(t *testing.T, what, text string, want ...string) {
	t.Helper()
	if got := Session(text); got != strings.Join(want, "\n")+"\n" {
		t.Errorf("%s: %.2000q is answered %.2000q, want %.2000q", what, text, got, want)
	}
}

// talk is a session: lines, each with what it is to be answered behind a >.
func talk(t *testing.T, what, script string) {
	t.Helper()
	var said, want []string
	for l := range strings.Lines(strings.TrimSpace(script)) {
		line, answer, ok := strings.Cut(strings.TrimSpace(l), " > ")
		if !ok {
			t.Fatalf("%s: no answer behind %q", what, l)
		}
		said, want = append(said, line), append(want, answer)
	}
	got := strings.Split(strings.TrimSuffix(Session(strings.Join(said, "\n")), "\n"), "\n")
	if len(got) != len(want) {
		t.Fatalf("%s: %d answers, want %d", what, len(got), len(want))
	}
	for i := range want {
		if got[i] != want[i] {
			t.Errorf("%s: line %d, %q, is answered %q, want %q", what, i, said[i], got[i], want[i])
		}
	}
}

// begun is a session as it is at first, and lines that it was told.
func begun(t *testing.T, lines ...string) *session {
	t.Helper()
	s := first()
	wantAnswers(t, s, lines...)
	return s
}

// wantAnswers tells a session lines, of which none may be answered an error.
func wantAnswers(t *testing.T, s *session, lines ...string) {
	t.Helper()
	for _, l := range lines {
		if got := answer(s.deeds(), l); strings.HasPrefix(got, "error") {
			t.Errorf("%q is answered %q", l, got)
		}
	}
}

// shaOf is what the document asks of sum, told without the program.
func shaOf(text string) string {
	s := sha256.Sum256([]byte(text))
	return "sum " + hex.EncodeToString(s[:])
}

// Promise 12.1: the text is cut at line feeds; one at its end is left out; the empty text is one line.
func TestLines(t *testing.T) {
	wantSession(t, "empty", "", "ok")
	wantSession(t, "a line feed", "\n", "ok")
	wantSession(t, "two line feeds", "\n\n", "ok", "ok")
	wantSession(t, "three line feeds", "\n\n\n", "ok", "ok", "ok")
	wantSession(t, "none at the end", "count", "count 0")
	wantSession(t, "one at the end", "count\n", "count 0")
	wantSession(t, "two at the end", "count\n\n", "count 0", "ok")
	wantSession(t, "one at the beginning", "\ncount", "ok", "count 0")
	wantSession(t, "between", "count\n\n\nepoch", "count 0", "ok", "ok", "epoch 1")
	wantSession(t, "a carriage return is none", "count\r\nepoch\r", "error 3", "error 3")
}

// Promise 12.1: words have blanks between them, several, too, and at both ends.
func TestBlanks(t *testing.T) {
	wantSession(t, "blanks alone", " \n   \n ", "ok", "ok", "ok")
	wantSession(t, "at both ends", "  count  \n epoch\nepoch ", "count 0", "epoch 1", "epoch 1")
	wantSession(t, "several between", "make   1\n  put    a   -    7   \ncommit\nitems", "make", "put", "commit 1", "items a:,7")
	wantSession(t, "in sum", "  sum   a    b  ", shaOf("a b"))
	for _, r := range []string{"\t", "\r", "\v", "\f", "\x00", "\u00a0", "\u2003", "\u3000", "\xff", "\xa0"} {
		wantSession(t, "no blank", "count"+r, "error 3")
		wantSession(t, "no blank, between", "sum a"+r+"b", shaOf("a"+r+"b"))
		wantSession(t, "no blank, alone", r, "error 3")
	}
}

// Promise 12.1: a text of MaxText bytes is answered; of one with more there is ErrLimit alone.
func TestMaxText(t *testing.T) {
	most := strings.Repeat("sum\n", api.MaxText/4)
	if len(most) != api.MaxText {
		t.Fatalf("%d bytes", len(most))
	}
	wantSession(t, "most", most, slices.Repeat([]string{shaOf("")}, api.MaxText/4)...)
	wantSession(t, "most blanks", strings.Repeat(" ", api.MaxText), "ok")
	wantSession(t, "most line feeds", strings.Repeat("\n", api.MaxText), slices.Repeat([]string{"ok"}, api.MaxText)...)
	wantSession(t, "most in one word", "sum "+strings.Repeat("x", api.MaxText-4), shaOf(strings.Repeat("x", api.MaxText-4)))
	for _, more := range []string{most + "\n", most + "c", strings.Repeat(" ", api.MaxText+1), strings.Repeat("\n", api.MaxText+1), strings.Repeat("é", api.MaxText/2) + "x", strings.Repeat("x", 3*api.MaxText)} {
		if got := Session(more); got != "error 4\n" {
			t.Errorf("a text of %d bytes is answered %.100q", len(more), got)
		}
	}
}

// Promise 12.1: each row with as many words as it asks is done, or told another error; with fewer, or more, it is ErrForm.
func TestWordCounts(t *testing.T) {
	for _, r := range rows() {
		words := strings.Fields(r.line)
		for n := range len(words) + 3 {
			line := strings.Join(append(slices.Clone(words), "1", "1", "1")[:n], " ")
			behind := n - 1
			want := n > 0 && (behind < r.least || r.most >= 0 && behind > r.most)
			if got := Session(line); (got == "error 3\n") != want {
				t.Errorf("%q is answered %q", line, got)
			}
		}
	}
}

// Promise 12.1: a line that no row knows is ErrForm.
func TestNoRow(t *testing.T) {
	for _, l := range []string{"x", "-", "0", "ok", "error", "Count", "COUNT", "coun", "counts", "count.", "new1", "\"\"", "block,", "begin", "anew", "keepImage", "count\x00", "\xff", "é", "image\u00a0"} {
		wantSession(t, "no row", l, "error 3")
		wantSession(t, "no row, with a word", l+" 1", "error 3")
		wantSession(t, "no row, with three", l+" 1 1 1", "error 3")
	}
	wantSession(t, "goes on behind it", "x\ncount\nnew\ncount", "error 3", "count 0", "error 3", "count 0")
}

// Promise 12.1: numbers are decimal, perhaps with a -, no nought ahead, of 64 bits; else ErrForm.
func TestNumbers(t *testing.T) {
	lines := []string{"make N", "put a - N", "put a - N 1", "put a - 1 N", "find N - 1", "find 1 - N", "find 1 - 1 N", "fuse N", "spoil N 0", "spoil 0 N", "block a N"}
	for _, l := range lines {
		for _, n := range []string{"0", "1", "-1", "10", "-10", "9223372036854775807", "-9223372036854775808"} {
			said := strings.ReplaceAll(l, "N", n)
			if got := Session("make 1\n" + said); strings.HasSuffix(got, "error 3\n") {
				t.Errorf("%q is answered %q", said, got)
			}
		}
		for _, n := range []string{"-", "--1", "-0", "+0", "+1", "00", "01", "-01", "007", "1.0", "1e3", "0x1", "0b1", "1_0", "x", "1x", "x1", "1-", "9223372036854775808", "-9223372036854775809", "18446744073709551616", "99999999999999999999", "\uff11", "\u0661", "1\x00"} {
			wantSession(t, "number", "make 1\n"+strings.ReplaceAll(l, "N", n), "make", "error 3")
		}
	}
}

// Promise 12.1: a line of another form does nothing.
func TestFormDoesNothing(t *testing.T) {
	talk(t, "of another form", `
		make 2 > make
		put a - 1 2 > put
		commit > commit 1
		put b - 3 x > error 3
		put - > error 3
		del > error 3
		del a a > error 3
		undo 1 > error 3
		new > error 3
		new x y > error 3
		fuse 0 0 > error 3
		fuse x > error 3
		turn 1 > error 3
		commit 1 > error 3
		crash > error 3
		crash 1 1 > error 3
		lay x > error 3
		spoil 1 > error 3
		spoil 1 x > error 3
		spoil 1 1 1 > error 3
		open x > error 3
		image 1 > error 3
		count > count 1
		commit > commit 2
		items > items a:,1,2
		open > open 2
		lay > lay
		open > error 15`)
}

// Promise 12.1: at first there is a new device, a counter at 0, no image, and a base: as behind new of the empty word.
func TestAtFirst(t *testing.T) {
	talk(t, "ahead of new", `
		count > count 0
		epoch > epoch 1
		items > items
		find 1 - 1 > error 6
		put a - 1 > error 6
		del a > error 7
		commit > error 6
		undo > undo
		turn > turn 2
		count > count 1
		make 1 > make
		put a - 1 > put
		commit > commit 2
		open > open 2
		items > items a:,1
		lay > lay
		open > error 15`)
	s := begun(t, "make 1", "put a - 1", "commit")
	wantSecret(t, s, "", []string{"0", "x", " "})
	wantSession(t, "each session is of its own", "count\nitems", "count 0", "items")
}

// wantSecret asks that a session's base opens by the secret of that word, and by no other one's.
func wantSecret(t *testing.T, s *session, word string, others []string) {
	t.Helper()
	if b, err := base.Open(s.device, s.counter, sum.Mark('d', word)); err != nil || len(b.Items()) != 1 {
		t.Errorf("by %q's secret: %v", word, err)
	}
	for _, o := range others {
		if _, err := base.Open(s.device, s.counter, sum.Mark('d', o)); api.Tell(err) != api.ErrSpoilt {
			t.Errorf("by %q's secret, in the stead of %q's: %v", o, word, err)
		}
	}
}

// Promise 12.1: new: all anew, of its word's secret, without an image, a fuse, or what waited.
func TestNew(t *testing.T) {
	talk(t, "new in the middle", `
		make 2 > make
		put a - 1 2 > put
		commit > commit 1
		turn > turn 2
		put b - 1 2 > put
		image > image
		fuse 0 > fuse
		new x > new
		count > count 0
		epoch > epoch 1
		items > items
		find 1 - 1 2 > error 6
		commit > error 6
		make 1 > make
		put c t 3 > put
		commit > commit 1
		items > items c:t,3
		lay > lay
		open > error 15
		new x > new
		count > count 0
		open > open 0`)
	// An image of the same secret would be opened: it tells of one Count above a new counter.
	talk(t, "no image", `
		new x > new
		make 1 > make
		commit > commit 1
		image > image
		new x > new
		lay > lay
		open > open 0`)
	s := begun(t, "new x", "make 1", "put a - 1", "commit")
	wantSecret(t, s, "x", []string{"", "X", "x "})
	s = begun(t, "new 7", "make 1", "put a - 1", "commit")
	wantSecret(t, s, "7", []string{"", "8", sum.Num(7)})
	s = begun(t, "new \xffé", "make 1", "put a - 1", "commit")
	wantSecret(t, s, "\xffé", []string{"", "é", "\xff"})
}

// Promise 12.1: make, and Make's errors.
func TestMake(t *testing.T) {
	talk(t, "make", `
		make 0 > error 1
		make 9 > error 1
		make -1 > error 1
		make -9223372036854775808 > error 1
		make 9223372036854775807 > error 1
		make 8 > make
		make 8 > error 6
		make 9 > error 6
		put a - 1 2 3 4 5 6 7 -8 > put
		commit > commit 1
		make 1 > error 6
		items > items a:,1,2,3,4,5,6,7,-8
		new x > new
		make 1 > make
		put a - 0 > put`)
}

// Promise 12.1: put, and Put's errors; one - at a TAG's beginning is left out.
func TestPut(t *testing.T) {
	talk(t, "put", `
		put a - 1 > error 6
		put A - 1 > error 6
		make 2 > make
		put a - 1 > error 1
		put a - 1 2 3 > error 1
		put A - 1 2 > error 1
		put a1 T 1 2 > error 1
		put abcdefghijk - 1 2 > error 1
		put a abcdefghijk 1 2 > error 1
		put a -- 1 2 > error 1
		put a --t 1 2 > error 1
		put -a - 1 2 > error 1
		put - - 1 2 > error 1
		put a t- 1 2 > error 1
		put a - 1001 2 > error 1
		put a - 1 -1001 > error 1
		put a - 9223372036854775807 -9223372036854775808 > error 1
		put c - 1000 -1000 > put
		put abcdefghij abcdefghij 1 2 > put
		put b t 0 0 > put
		put a -t -1 0 > put
		put b -t 5 5 > put
		items > items
		commit > commit 1
		items > items a:t,-1,0 abcdefghij:abcdefghij,1,2 b:t,5,5 c:,1000,-1000`)
	text, want := "make 1\n", []string{"make"}
	for i := range api.MaxItems {
		text, want = text+fmt.Sprintf("put n%d - %d\n", i, i), append(want, "put")
	}
	text += "put o - 1\nput n0 - 1\nput O - 1\ncommit\nput o - 1\ndel n7\nput o - 1\nput n7 - 7"
	want = append(want, "error 12", "put", "error 1", "commit 1", "error 12", "del", "put", "error 12")
	wantSession(t, "full", text, want...)
}

// Promise 12.1: del, and Del's error; undo; what waits is not there ahead of commit.
func TestDelUndo(t *testing.T) {
	talk(t, "del and undo", `
		del a > error 7
		undo > undo
		make 1 > make
		del a > error 7
		put a - 1 > put
		del a > del
		del a > error 7
		put a - 2 > put
		put b - 3 > put
		commit > commit 1
		del a > del
		items > items a:,2 b:,3
		undo > undo
		del a > del
		del a > error 7
		put c - 4 > put
		undo > undo
		del c > error 7
		del - > error 7
		del 1 > error 7
		commit > commit 2
		items > items a:,2 b:,3
		del b > del
		commit > commit 3
		items > items a:,2
		undo > undo
		commit > commit 4
		items > items a:,2`)
}

// Promise 12.1: commit and Count, turn and Epoch, their errors, count and epoch.
func TestCommitTurn(t *testing.T) {
	talk(t, "commit and turn", `
		commit > error 6
		count > count 0
		make 1 > make
		commit > commit 1
		commit > commit 2
		turn > turn 2
		count > count 3
		epoch > epoch 2
		put a - 1 > put
		turn > turn 3
		items > items
		commit > commit 5
		items > items a:,1
		epoch > epoch 3
		count > count 5
		fuse 0 > fuse
		commit > error 14
		commit > error 6
		turn > error 6
		fuse -1 > fuse
		commit > error 6
		turn > error 6
		count > count 5
		items > items a:,1
		open > open 5
		fuse 0 > fuse
		turn > error 14
		commit > error 6
		turn > error 6
		fuse -1 > fuse
		open > open 5
		turn > turn 4
		count > count 6`)
}

// Promise 12.1: find, nearest first, of a tag or of any; Find's errors; not of what waits.
func TestFind(t *testing.T) {
	talk(t, "find", `
		find 1 - 1 2 > error 6
		find 0 - 1 2 > error 6
		make 2 > make
		put a - 1 2 > put
		find 1 - 1 2 > find
		put b t 3 4 > put
		put c t -3 -4 > put
		put d u 1000 -1000 > put
		commit > commit 1
		find 60 - 0 0 > find a:5 b:25 c:25 d:2000000
		find 1 - 0 0 > find a:5
		find 2 - 3 4 > find b:0 a:8
		find 60 t 0 0 > find b:25 c:25
		find 60 -t -3 -4 > find c:0 b:100
		find 1 u 0 0 > find d:2000000
		find 1 no 0 0 > find
		find 1 T 0 0 > find
		find 1 -- 0 0 > find
		find 1 --t 0 0 > find
		find 1 - 1000 1000 > find b:1986025
		find 0 - 0 0 > error 1
		find 61 - 0 0 > error 1
		find -1 - 0 0 > error 1
		find 1 - 0 > error 1
		find 1 - 0 0 0 > error 1
		find 1 - 1001 0 > error 1
		find 1 - 0 -1001 > error 1
		del a > del
		put e - 0 0 > put
		find 1 - 0 0 > find a:5
		commit > commit 2
		find 2 - 0 0 > find e:0 b:25`)
}

// Promise 12.1: open tells Count: behind commits, and ahead of them; what waits is lost.
func TestOpen(t *testing.T) {
	talk(t, "open", `
		open > open 0
		make 1 > make
		put a - 1 > put
		open > open 0
		commit > error 6
		put a - 1 > error 6
		make 2 > make
		put a - 1 2 > put
		commit > commit 1
		put b - 3 4 > put
		del a > del
		open > open 1
		items > items a:,1,2
		del b > error 7
		commit > commit 2
		items > items a:,1,2
		turn > turn 2
		open > open 3
		epoch > epoch 2
		open > open 3
		items > items a:,1,2`)
}

// Promise 12.1: where Open told an error, there is no base: ErrNone, ahead of all but ErrForm, at all that asks it.
func TestNone(t *testing.T) {
	text := "make 2\nput a - 1 2\ncommit\nlay\nopen\n"
	want := []string{"make", "put", "commit 1", "lay", "error 15"}
	for _, l := range slices.Concat(askBase(), []string{"make 9", "put A - 1", "del zz", "find 0 - 1", "find 1 - 1001 0"}) {
		wantSession(t, "none", text+l, append(slices.Clone(want), "error 8")...)
	}
	for _, l := range []string{"make x", "make", "put a -", "put a - x", "del", "del a a", "undo 1", "commit 1", "turn 1", "count 1", "epoch 1", "items 1", "find 1 -", "find x - 1 2", "x"} {
		wantSession(t, "none, of another form", text+l, append(slices.Clone(want), "error 3")...)
	}
	talk(t, "what asks no base", `
		make 2 > make
		put a - 1 2 > put
		commit > commit 1
		image > image
		spoil 1 0 > spoil
		crash 1 > error 15
		count > error 8
		fuse 7 > fuse
		sum a > `+shaOf("a")+`
		spoil 66 0 > error 2
		block a -1 > error 1
		open > error 15
		items > error 8
		lay > lay
		items > error 8
		open > open 1
		items > items a:,1,2
		spoil 1 0 > spoil
		open > error 15
		new x > new
		items > items
		count > count 0`)
}

// Promise 12.1: fuse, of any number; it burns at writes and syncs, and open, lay and spoil leave it.
func TestFuse(t *testing.T) {
	for n, want := range []string{"error 14", "error 14", "error 14", "error 14", "commit 1", "commit 1"} {
		wantSession(t, "fuse", fmt.Sprintf("make 1\nput a - 1\nfuse %d\ncommit", n), "make", "put", "fuse", want)
	}
	for _, n := range []string{"-1", "-9223372036854775808", "9223372036854775807"} {
		wantSession(t, "no fuse", "make 1\nput a - 1\nfuse 0\nfuse "+n+"\ncommit", "make", "put", "fuse", "fuse", "commit 1")
	}
	talk(t, "what leaves the fuse", `
		make 1 > make
		put a - 1 > put
		fuse 4 > fuse
		commit > commit 1
		image > image
		lay > lay
		spoil 65 255 > spoil
		open > open 1
		put a - 2 > put
		commit > error 14
		crash 1 > crash 1
		put a - 2 > put
		commit > commit 2`)
}

// Promise 12.1: crash loses what was not sure, but what its letters keep; then as open.
func TestCrash(t *testing.T) {
	// A commit of one page: a write, Sync, a write, Sync. Behind three of them the block that tells of all is not sure.
	for letters, want := range map[string]string{"1": "crash 2", "0": "crash 1", "x": "crash 1", "01": "crash 1", "10": "crash 2", "1111111": "crash 2", "é1": "crash 1"} {
		wantSession(t, "crash", "make 1\nput a - 1\ncommit\nput a - 2\nfuse 3\ncommit\ncrash "+letters, "make", "put", "commit 1", "put", "fuse", "error 14", want)
	}
	talk(t, "crash", `
		crash 1 > crash 0
		make 1 > make
		put a - 1 > put
		crash 1 > crash 0
		put a - 1 > error 6
		make 1 > make
		put a - 1 > put
		commit > commit 1
		put b - 2 > put
		fuse 3 > fuse
		commit > error 14
		commit > error 6
		items > items a:,1
		crash 1 > crash 2
		items > items a:,1 b:,2
		commit > commit 3
		put c - 2 > put
		fuse 1 > fuse
		commit > error 14
		crash 1 > crash 3
		items > items a:,1 b:,2
		spoil 1 0 > spoil
		crash 0 > error 15
		items > error 8
		crash 0 > error 15
		spoil 1 0 > spoil
		crash 0 > crash 3`)
}

// Promise 12.1: crash: a letter is a rune; of each write, in their order, it is kept if its letter is 1.
func TestCrashLetters(t *testing.T) {
	for letters, want := range map[string]string{"1": "1000", "0": "0000", "1111": "1111", "0110": "0110", "1é1": "1010", "\U0001f5111": "0100", "\xff\xff1": "0010", "2311": "0011", "1111111": "1111", "-1-1": "0101", "１1": "0100"} {
		s := begun(t)
		for i := range 4 {
			if err := s.device.Write(10+i, "w"); err != nil {
				t.Fatal(err)
			}
		}
		wantAnswers(t, s, "crash "+letters)
		got := ""
		for _, b := range s.device.Image()[10:14] {
			got += map[bool]string{true: "1", false: "0"}[b[0] == 'w']
		}
		if got != want {
			t.Errorf("crash %q keeps %s, want %s", letters, got, want)
		}
	}
}

// Promise 12.1: image keeps the device's Image, lay lays it down: an elder one is noticed, and nothing kept is all 0.
func TestImageLay(t *testing.T) {
	talk(t, "an elder image", `
		make 1 > make
		put a - 1 > put
		commit > commit 1
		image > image
		lay > lay
		open > open 1
		put a - 2 > put
		commit > commit 2
		lay > lay
		count > count 2
		items > items a:,2
		open > error 15
		image > image
		new x > new
		make 1 > make
		commit > commit 1
		image > image
		open > open 1
		crash 1 > crash 1
		spoil 1 0 > spoil
		open > error 15
		lay > lay
		open > open 1
		spoil 1 0 > spoil
		lay > lay
		open > open 1`)
	talk(t, "nothing kept", `
		lay > lay
		open > open 0
		make 1 > make
		commit > commit 1
		lay > lay
		count > count 1
		open > error 15`)
	talk(t, "what is sure is kept alone, and what is not is lost", `
		make 1 > make
		put a - 1 > put
		commit > commit 1
		put a - 2 > put
		fuse 3 > fuse
		commit > error 14
		image > image
		lay > lay
		crash 1 > crash 1
		items > items a:,1`)
	s := begun(t, "make 1", "put a - 1", "commit", "image")
	image := s.device.Image()
	wantAnswers(t, s, "put b - 2", "commit", "lay")
	if !slices.Equal(s.device.Image(), image) {
		t.Error("lay: the device's Image is not what was kept")
	}
	s = begun(t, "make 1", "put a - 1", "commit", "lay")
	if strings.Trim(strings.Join(s.device.Image(), ""), "\x00") != "" {
		t.Error("lay of nothing: not all 0")
	}
}

// Promise 12.1: spoil turns the least bit of one byte of what is sure; ErrRange: there is no such block, or byte.
func TestSpoil(t *testing.T) {
	for _, l := range []string{"66 0", "0 256", "-1 0", "0 -1", "66 256", "9223372036854775807 0", "0 -9223372036854775808"} {
		s := begun(t, "make 1", "put a - 1", "commit")
		image := s.device.Image()
		if got := answer(s.deeds(), "spoil "+l); got != "error 2" {
			t.Errorf("spoil %s is answered %q", l, got)
		}
		if !slices.Equal(s.device.Image(), image) {
			t.Errorf("spoil %s changes something", l)
		}
	}
	for _, p := range [][2]int{{0, 0}, {0, 255}, {1, 0}, {1, 7}, {2, 255}, {65, 0}, {65, 255}} {
		s := begun(t, "make 1", "put a - 1", "commit", "image")
		image := s.device.Image()
		want := slices.Clone(image)
		block := []byte(want[p[0]])
		block[p[1]] ^= 1
		want[p[0]] = string(block)
		line := fmt.Sprintf("spoil %d %d", p[0], p[1])
		wantAnswers(t, s, line)
		if !slices.Equal(s.device.Image(), want) {
			t.Errorf("%s: another Image", line)
		}
		wantAnswers(t, s, line)
		if !slices.Equal(s.device.Image(), image) {
			t.Errorf("%s twice: another Image", line)
		}
		wantAnswers(t, s, line, "lay")
		if !slices.Equal(s.device.Image(), image) {
			t.Errorf("%s: the image that was kept is another one", line)
		}
	}
	talk(t, "spoil", `
		spoil 0 0 > spoil
		open > open 0
		new x > new
		make 1 > make
		put a - 1 > put
		commit > commit 1
		put a - 2 > put
		fuse 3 > fuse
		commit > error 14
		spoil 65 255 > spoil
		crash 1 > crash 1
		spoil 1 0 > spoil
		items > items a:,1
		open > error 15
		spoil 1 0 > spoil
		open > open 1`)
}

// Promise 12.1: block: of the word's Sum, the number, and twelve letters 0 (told by another program); Block's errors.
func TestBlock(t *testing.T) {
	talk(t, "block", `
		block a 0 > block 7f29f6c3df511cb855da0e6618602182e636aadd6b9406f431391e844048c36b33f978eb1d0c855f65d8d5150b2b8c8bb218a97040438a7aa5805f626651eee0
		block a 1 > block 477f94baffd4a488390f25c8128348918790cb79e76775bdff081f3f65c3045ccae4ad7171f0acb2c3573c4517f5a5834cd0fba2594ec976057adf35bb1d5049
		block a 4294967295 > block 12901b4f35f866fb9bbdcab0e0e5b5df2eb9df3dd1ea0c1ff00955a523efb66f6b89146a2285b161c7822c08cf25b054388b31c31625868caa2d901c94a9a292
		block é 2 > block 1720e309f127afb9ebbe40d37cce66942718174ddb413021f3e1cbdc3712d13ce7919e82eb548293c2f1c6483b7662b81645016ec4f513f61cd26038a16edf6b
		block a -1 > error 1
		block a 4294967296 > error 1
		block a 9223372036854775807 > error 1
		block a -9223372036854775808 > error 1`)
}

// Promise 12.1: sum: of the words, one blank between.
func TestSum(t *testing.T) {
	wantSession(t, "sum", "sum abc", "sum ba7816bf8f01cfea414140de5dae2223b00361a396177a9cb410ff61f20015ad")
	for _, l := range []string{"", "a", "a b", "a b c", "1 -1 01 +1", "sum", "sum sum", "é \xff", strings.Repeat("x ", 300) + "x"} {
		wantSession(t, "sum", "sum "+l, shaOf(l))
	}
}

// Promise 12.1: help.
func TestHelp(t *testing.T) {
	wantSession(t, "help", "help", "block commit count crash del epoch find fuse help image items lay make new open put spoil sum turn undo")
	s := begun(t)
	for _, w := range strings.Fields(help) {
		if s.deeds()[w] == nil {
			t.Errorf("help tells of %q, but nothing does it", w)
		}
	}
	if len(strings.Fields(help)) != len(s.deeds()) {
		t.Error("help doesn't tell of all")
	}
}
