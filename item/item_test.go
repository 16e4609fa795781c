package item

import (
	"errors"
	"fmt"
	"math"
	"slices"
	"strings"
	"testing"

	"coffer/api"
)

// called is an item without a tag.
func called(name string, at ...int) api.Item {
	return api.Item{Name: name, At: at}
}

// tagged is an item with a tag.
func tagged(name, tag string, at ...int) api.Item {
	return api.Item{Name: name, Tag: tag, At: at}
}

// row is so many items of one number, rising by name.
func row(n int) []api.Item {
	var l []api.Item
	for i := range n {
		l = append(l, called(fmt.Sprintf("n%03d", i), i))
	}
	return l
}

// same is one number, so many times.
func same(n, times int) []int {
	return slices.Repeat([]int{n}, times)
}

// alike says whether two lists have the same items.
func alike(a, b []api.Item) bool {
	return slices.EqualFunc(a, b, func(x, y api.Item) bool {
		return x.Name == y.Name && x.Tag == y.Tag && slices.Equal(x.At, y.At)
	})
}

// copied is a list of which nothing is shared with the other one.
func copied(l []api.Item) []api.Item {
	var out []api.Item
	for _, x := range l {
		out = append(out, tagged(x.Name, x.Tag, slices.Clone(x.At)...))
	}
	return out
}

// wantError holds an error against the one that the document asks (api.OK: none).
func wantError(t *testing.T, what string, err error, want api.Errno) {
	t.Helper()
	if got := api.Tell(err); got != want {
		t.Errorf("%s: error %d, want %d", what, got, want)
	}
	var place *api.At
	if errors.As(err, &place) {
		t.Errorf("%s: the error has a place", what)
	}
}

// wantName asks whether that may be a name.
func wantName(t *testing.T, s string, want bool) {
	t.Helper()
	if got := Name(s); got != want {
		t.Errorf("Name(%q) is %v, want %v", s, got, want)
	}
}

// wantRight asks whether that may be an item; and whether Print, and Parse, of it alone say the same.
func wantRight(t *testing.T, x api.Item, dim int, want bool) {
	t.Helper()
	if got := Right(x, dim); got != want {
		t.Errorf("Right(%+v, %d) is %v, want %v", x, dim, got, want)
	}
	text := asked(dim, []api.Item{x})
	if want {
		printed(t, dim, []api.Item{x}, text)
		return
	}
	unprinted(t, fmt.Sprintf("%+v of %d", x, dim), dim, []api.Item{x})
	unparsed(t, text)
}

// asked is what the document asks of Print, written otherwise than the program does.
func asked(dim int, l []api.Item) string {
	out := fmt.Sprintf("dim %d\n", dim)
	for _, x := range l {
		out += fmt.Sprintf("%s %s", x.Name, x.Tag)
		for _, n := range x.At {
			out += fmt.Sprintf(" %d", n)
		}
		out += "\n"
	}
	return out
}

// printed asks that Print tells just that, and that Parse tells of it what was printed.
func printed(t *testing.T, dim int, l []api.Item, want string) {
	t.Helper()
	got, err := Print(dim, l)
	wantError(t, fmt.Sprintf("Print of %d, %+v", dim, l), err, api.OK)
	if got != want {
		t.Errorf("Print of %d, %+v is %q, want %q", dim, l, got, want)
	}
	parsed(t, want, dim, l)
}

// unprinted asks that Print tells ErrArg, and nothing beside it.
func unprinted(t *testing.T, what string, dim int, l []api.Item) {
	t.Helper()
	got, err := Print(dim, l)
	wantError(t, "Print, "+what, err, api.ErrArg)
	if got != "" {
		t.Errorf("Print, %s: %q beside an error", what, got)
	}
}

// parsed asks that Parse tells those items.
func parsed(t *testing.T, s string, dim int, l []api.Item) {
	t.Helper()
	n, got, err := Parse(s)
	wantError(t, fmt.Sprintf("Parse of %q", s), err, api.OK)
	if n != dim || !alike(got, l) {
		t.Errorf("Parse of %q is %d, %+v, want %d, %+v", s, n, got, dim, l)
	}
}

// unparsed asks that Parse tells ErrForm, and nothing beside it.
func unparsed(t *testing.T, s string) {
	t.Helper()
	n, l, err := Parse(s)
	what := fmt.Sprintf("Parse of %.200q", s)
	wantError(t, what, err, api.ErrForm)
	if n != 0 || l != nil {
		t.Errorf("%s: %d, %+v beside an error", what, n, l)
	}
}

// Promise 8.1, Name: how long a name may be.
func TestNameLengths(t *testing.T) {
	for size := range 3 * api.MaxName {
		may := size >= 1 && size <= api.MaxName
		wantName(t, strings.Repeat("a", size), may)
		if size > 0 {
			wantName(t, "z"+strings.Repeat("9", size-1), may)
		}
	}
	wantName(t, "", false)
	wantName(t, "abcdefghij", true)
	wantName(t, "abcdefghijk", false)
	wantName(t, strings.Repeat("a", 100_000), false)
}

// Promise 8.1, Name: every byte, alone, first, in the middle and last.
func TestNameBytes(t *testing.T) {
	for c := range 256 {
		sign := string([]byte{byte(c)})
		letter := strings.Contains("abcdefghijklmnopqrstuvwxyz", sign)
		digit := strings.Contains("0123456789", sign)
		wantName(t, sign, letter)
		wantName(t, sign+"a", letter)
		wantName(t, "a"+sign+"b", letter || digit)
		wantName(t, "a1"+sign, letter || digit)
		wantName(t, "abcdefghi"+sign, letter || digit)
	}
	for _, s := range []string{"1a", "0", "9z", "A", "aB", "Ab", "a b", " a", "a ", "a\n", "a\x00", "a-", "-a", "a_b", "é", "aé", "ａ", "a\xff", "\x80"} {
		wantName(t, s, false)
	}
	for _, s := range []string{"a", "z", "a1", "a0", "z9", "dim", "b2b", "a123456789"} {
		wantName(t, s, true)
	}
}

// Promise 8.1, Right: an item's name must be one, and its tag one or nothing.
func TestRightNamesAndTags(t *testing.T) {
	for _, s := range []string{"a", "z9", "abcdefghij"} {
		wantRight(t, called(s, 1, 2), 2, true)
		wantRight(t, tagged("a", s, 1, 2), 2, true)
		wantRight(t, tagged(s, s, 1, 2), 2, true)
	}
	wantRight(t, tagged("a", "", 1, 2), 2, true)
	wantRight(t, tagged("", "a", 1, 2), 2, false)
	wantRight(t, tagged("", "", 1, 2), 2, false)
	for _, s := range []string{"1a", "A", "aB", "a b", " ", "a ", "-", "abcdefghijk", "aé", "a\x80", "a\n", "\n", "\x00"} {
		wantRight(t, called(s, 1, 2), 2, false)
		wantRight(t, tagged("a", s, 1, 2), 2, false)
	}
}

// Promise 8.1, Right: dim is from 1 to MaxDim, and there are just so many numbers.
func TestRightDims(t *testing.T) {
	for dim := -2; dim <= api.MaxDim+2; dim++ {
		for size := range api.MaxDim + 4 {
			wantRight(t, called("a", same(7, size)...), dim, dim >= 1 && dim <= api.MaxDim && size == dim)
		}
	}
	for _, dim := range []int{math.MinInt, -1 << 32, 1 << 32, 1<<32 + 1, math.MaxInt} {
		wantRight(t, called("a"), dim, false)
		wantRight(t, called("a", 1), dim, false)
	}
}

// Promise 8.1, Right: each number is from -MaxNum to MaxNum, wherever it stands.
func TestRightNumbers(t *testing.T) {
	for _, n := range []int{0, 1, -1, 9, 10, -10, 100, 999, -999, api.MaxNum, -api.MaxNum} {
		for at := range api.MaxDim {
			l := same(5, api.MaxDim)
			l[at] = n
			wantRight(t, called("a", l...), api.MaxDim, true)
		}
	}
	for _, n := range []int{api.MaxNum + 1, -api.MaxNum - 1, 10 * api.MaxNum, 1 << 32, -1 << 32, math.MaxInt, math.MinInt} {
		for at := range api.MaxDim {
			l := same(5, api.MaxDim)
			l[at] = n
			wantRight(t, called("a", l...), api.MaxDim, false)
		}
		wantRight(t, called("a", n), 1, false)
	}
}

// Promise 8.1, Print: byte by byte; and Parse tells the same items again.
func TestPrint(t *testing.T) {
	// The document's example.
	printed(t, 2, []api.Item{called("a", 1, -2), tagged("b", "t", 0, 3)}, "dim 2\na  1 -2\nb t 0 3\n")
	printed(t, 1, nil, "dim 1\n")
	printed(t, 1, []api.Item{}, "dim 1\n")
	printed(t, 8, nil, "dim 8\n")
	printed(t, 1, []api.Item{called("a", 0)}, "dim 1\na  0\n")
	printed(t, 1, []api.Item{tagged("a", "a", -1)}, "dim 1\na a -1\n")
	printed(t, 1, []api.Item{tagged("dim", "dim", 1)}, "dim 1\ndim dim 1\n")
	printed(t, 3, []api.Item{tagged("abcdefghij", "z123456789", -1000, 1000, 10)}, "dim 3\nabcdefghij z123456789 -1000 1000 10\n")
	printed(t, 8, []api.Item{called("x", 1, 2, 3, 4, 5, 6, 7, 8)}, "dim 8\nx  1 2 3 4 5 6 7 8\n")
	for dim := 1; dim <= api.MaxDim; dim++ {
		l := []api.Item{called("a", same(-api.MaxNum, dim)...), tagged("b", "tag", same(0, dim)...), tagged("c", "c", same(api.MaxNum, dim)...)}
		printed(t, dim, l, asked(dim, l))
	}
}

// Promise 8.1: each number is written, and read, as P5 tells.
func TestEachNumber(t *testing.T) {
	for n := -api.MaxNum; n <= api.MaxNum; n++ {
		printed(t, 2, []api.Item{called("a", n, -n)}, fmt.Sprintf("dim 2\na  %d %d\n", n, -n))
	}
}

// Promise 8.1: dim is from 1 to MaxDim, also of no items.
func TestDims(t *testing.T) {
	for dim := -20; dim <= 20; dim++ {
		text := fmt.Sprintf("dim %d\n", dim)
		if dim >= 1 && dim <= api.MaxDim {
			printed(t, dim, nil, text)
			continue
		}
		unprinted(t, text, dim, nil)
		unparsed(t, text)
	}
	for _, dim := range []int{math.MinInt, 1<<32 + 1, 1 << 62, math.MaxInt} {
		unprinted(t, fmt.Sprint("dim ", dim), dim, nil)
		unparsed(t, fmt.Sprintf("dim %d\n", dim))
	}
}

// Promise 8.1: there are at most MaxItems.
func TestHowMany(t *testing.T) {
	for _, n := range []int{0, 1, 2, api.MaxItems - 1, api.MaxItems} {
		printed(t, 1, row(n), asked(1, row(n)))
	}
	for _, n := range []int{api.MaxItems + 1, api.MaxItems + 2, 2 * api.MaxItems, 900} {
		unprinted(t, fmt.Sprint(n, " items"), 1, row(n))
		unparsed(t, asked(1, row(n)))
	}
	// The greatest text: all that can be long is so.
	var l []api.Item
	for i := range api.MaxItems {
		l = append(l, tagged(fmt.Sprintf("abcdefgh%02d", i), "abcdefghij", same(-api.MaxNum, api.MaxDim)...))
	}
	printed(t, api.MaxDim, l, asked(api.MaxDim, l))
}

// Promise 8.1: items rise by name, byte by byte, whatever else they have.
func TestOrder(t *testing.T) {
	for _, names := range [][]string{
		{"a", "b"}, {"a", "a0"}, {"a", "aa"}, {"a9", "aa"}, {"a0", "a9"}, {"a1", "a10"}, {"a10", "a2"}, {"az", "b"},
		{"abcdefghi", "abcdefghij"}, {"a", "ab", "abc", "b", "b0", "ba"}, {"b", "dim", "z9"},
	} {
		var l []api.Item
		for i, n := range names {
			l = append(l, tagged(n, "t", 5-i))
		}
		printed(t, 1, l, asked(1, l))
		for i := range len(l) - 1 {
			turned := copied(l)
			turned[i], turned[i+1] = turned[i+1], turned[i]
			unprinted(t, fmt.Sprint(names, " turned at ", i), 1, turned)
			unparsed(t, asked(1, turned))
		}
		for i := range l {
			twice := slices.Insert(copied(l), i, l[i])
			unprinted(t, fmt.Sprint(names, " twice at ", i), 1, twice)
			unparsed(t, asked(1, twice))
			twice[i].At = []int{77}
			twice[i].Tag = ""
			unprinted(t, fmt.Sprint(names, " of one name at ", i), 1, twice)
			unparsed(t, asked(1, twice))
		}
	}
}

// Promise 8.1: one item that is not Right, wherever it stands, is one too many.
func TestOneIsNotRight(t *testing.T) {
	for _, at := range []int{0, 1, 29, api.MaxItems - 1} {
		for _, change := range []func(*api.Item){
			func(x *api.Item) { x.Name = x.Name[:3] + "A" },
			func(x *api.Item) { x.Name += "aaaaaaa" },
			func(x *api.Item) { x.Tag = "T" },
			func(x *api.Item) { x.Tag = "1" },
			func(x *api.Item) { x.At = nil },
			func(x *api.Item) { x.At = []int{1, 2} },
			func(x *api.Item) { x.At = []int{api.MaxNum + 1} },
			func(x *api.Item) { x.At = []int{-api.MaxNum - 1} },
		} {
			l := row(api.MaxItems)
			change(&l[at])
			unprinted(t, fmt.Sprintf("%+v at %d", l[at], at), 1, l)
			unparsed(t, asked(1, l))
		}
	}
}

// ordinary is a text of Print's, and its items.
func ordinary() (string, int, []api.Item) {
	return "dim 2\na  1 -2\na1 t -1000 0\nb9 tag9 1000 10\n", 2, []api.Item{called("a", 1, -2), tagged("a1", "t", -1000, 0), tagged("b9", "tag9", 1000, 10)}
}

// Promise 8.1, Parse: of a text that is cut off nothing is read, but where a line ends.
func TestCutOff(t *testing.T) {
	s, dim, l := ordinary()
	for size := range len(s) + 1 {
		cut := s[:size]
		if !strings.HasSuffix(cut, "\n") {
			unparsed(t, cut)
			continue
		}
		parsed(t, cut, dim, l[:strings.Count(cut, "\n")-1])
	}
	for size := range len(s) {
		if size > 0 {
			unparsed(t, s[size:])
		}
	}
}

// Promise 8.1, Parse: whatever one byte is changed to, taken out or laid in, what is read is what Print tells of it.
func TestOtherBytes(t *testing.T) {
	s, _, _ := ordinary()
	for at := range len(s) + 1 {
		if at < len(s) {
			justSo(t, s[:at]+s[at+1:])
		}
		for c := range 256 {
			sign := string([]byte{byte(c)})
			justSo(t, s[:at]+sign+s[at:])
			if at < len(s) {
				justSo(t, s[:at]+sign+s[at+1:])
			}
		}
	}
}

// justSo asks that a text is read if, and only if, it has the document's form, worked out line by line.
func justSo(t *testing.T, s string) {
	t.Helper()
	dim, l, ok := byHand(s)
	if ok {
		parsed(t, s, dim, l)
	} else {
		unparsed(t, s)
	}
}

// byHand reads a text by the document's words, otherwise than the program does: by what may stand at each place.
func byHand(s string) (int, []api.Item, bool) {
	if len(s) < 6 || s[:4] != "dim " || s[4] < '1' || s[4] > '8' || s[5] != '\n' || s[len(s)-1] != '\n' {
		return 0, nil, false
	}
	dim := int(s[4] - '0')
	var l []api.Item
	for _, text := range strings.SplitAfter(s[6:], "\n") {
		if text == "" { // behind the last line feed
			break
		}
		words := strings.Split(strings.TrimSuffix(text, "\n"), " ")
		if len(words) != 2+dim || !isCalled(words[0]) || words[1] != "" && !isCalled(words[1]) {
			return 0, nil, false
		}
		x := tagged(words[0], words[1])
		for _, w := range words[2:] {
			n, ok := ofTable(w)
			if !ok {
				return 0, nil, false
			}
			x.At = append(x.At, n)
		}
		if len(l) > 0 && strings.Compare(l[len(l)-1].Name, x.Name) >= 0 {
			return 0, nil, false
		}
		l = append(l, x)
	}
	return dim, l, len(l) <= 60
}

// isCalled says whether that is a name, by the letters that may stand in one.
func isCalled(s string) bool {
	const letters = "abcdefghijklmnopqrstuvwxyz"
	return s != "" && len(s) <= 10 && strings.Contains(letters, s[:1]) && strings.Trim(s, letters+"0123456789") == ""
}

// ofTable finds a number among all that may be, by how each is written.
func ofTable(word string) (int, bool) {
	n, ok := written[word]
	return n, ok
}

// written is each number that may be, by how it is written.
var written = func() map[string]int {
	m := map[string]int{}
	for n := -1000; n <= 1000; n++ {
		m[fmt.Sprint(n)] = n
	}
	return m
}()

// Promise 8.1, Parse: line feeds that are missing, or too many, or something like them.
func TestLineFeeds(t *testing.T) {
	for _, s := range []string{
		"", "\n", "\n\n", "dim 1", "dim 1\na  1", "dim 1\n\n", "dim 1\n\na  1\n", "dim 1\na  1\n\n", "dim 1\na  1\n\nb  1\n", "\ndim 1\n", "\ndim 1\na  1\n",
		"dim 1\r\n", "dim 1\r\na  1\r\n", "dim 1\na  1\r\n", "dim 1\ra  1\r", "dim 1\na  1\n\x00", "dim 1\x00\n", "dim 1 a  1\n", "dim 1\na  1 b  2\n", "dim 1a  1\n", "dim 1\na  1b  2\n",
		"dim\n1\n", "dim 1\na\n 1\n", "dim 1\na \n1\n", "dim 1\na  \n1\n", "dim 1\ndim 1\n", "dim 1\na  1\ndim 1\n",
	} {
		unparsed(t, s)
	}
}

// Promise 8.1, Parse: the first line is `dim`, a blank, and dim.
func TestFirstLines(t *testing.T) {
	for _, s := range []string{
		"dim", "dim ", "dim\n", "dim \n", "1\n", " 1\n", "dim1\n", "dim  1\n", " dim 1\n", "dim 1 \n", "dim 1 1\n", "Dim 1\n", "DIM 1\n", "dim\t1\n", "dim 1\t\n", "dimdim 1\n", "dim dim 1\n", "dims 1\n", "di 1\n",
		"dim 01\n", "dim 001\n", "dim 08\n", "dim +1\n", "dim -1\n", "dim 0\n", "dim -0\n", "dim 9\n", "dim 10\n", "dim 1.0\n", "dim 1e0\n", "dim 0x1\n", "dim 1_0\n", "dim a\n", "dim --1\n", "dim -\n", "dim +\n",
		"dim 18446744073709551617\n", "dim 4294967297\n", "dim 99999999999999999999999999\n", "dim -18446744073709551615\n", "dim \u0661\n", "dim \uff11\n",
		"a  1\n", "a  1\ndim 1\n", "1\na  1\n",
	} {
		unparsed(t, s)
		unparsed(t, s+"a  1\n")
	}
	// What stands in the lines is held against dim.
	for dim := 1; dim <= api.MaxDim; dim++ {
		text := fmt.Sprintf("dim %d\na  1 2 3\n", dim)
		if dim == 3 {
			parsed(t, text, 3, []api.Item{called("a", 1, 2, 3)})
			continue
		}
		unparsed(t, text)
	}
}

// Promise 8.1, Parse: blanks stand where they belong, one each.
func TestBlanks(t *testing.T) {
	for _, line := range []string{
		"", " ", "  ", "   ", "a", "a ", "a  ", "a 1", "a 1 2", "a t", "a t ", "a t 1", "a  1", "a  1 ", "a  1 2 ", "a  1  2", "a   1 2", "a t  1 2", "a  t 1 2", " a  1 2", " a t 1 2", "  1 2", " t 1 2", "a t 1 2 ", "a t 1 2  ",
		"a\t\t1\t2", "a \t1 2", "a t 1\t2", "a t 1 2\t", "a\u00a0t 1 2", "a t 1 2 3", "a  1 2 3", "a t u 1 2", "a t 1 2 u", "a,t,1,2", "a t 1,2", "a t 12", "at 1 2",
	} {
		unparsed(t, "dim 2\n"+line+"\n")
		unparsed(t, "dim 2\n"+line+"\nb  1 2\n")
	}
	parsed(t, "dim 2\na  1 2\n", 2, []api.Item{called("a", 1, 2)})
	parsed(t, "dim 2\na t 1 2\n", 2, []api.Item{tagged("a", "t", 1, 2)})
	unparsed(t, "dim 2\n"+strings.Repeat(" ", 100_000)+"\n")
}

// Promise 8.1, Parse: numbers are written as P5 tells, and as Right asks.
func TestNumbersAsWritten(t *testing.T) {
	for _, w := range []string{
		"-0", "+0", "00", "-00", "01", "-01", "007", "+1", "+-1", "-+1", "--1", "-", "+", "1-", "1+", "1.0", "1.", ".1", "1e1", "0x1", "0b1", "0o7", "1_0", "1_000", "_1", "a", "1a", "a1", "one", "t", "nan", "inf",
		"1001", "-1001", "10000", "01000", "-01000", "9999", "4294967297", "18446744073709551617", "9223372036854775807", "-9223372036854775808", "9223372036854775808", "-18446744073709551615",
		strings.Repeat("9", 100), "-" + strings.Repeat("9", 100), strings.Repeat("0", 100), strings.Repeat("0", 100) + "1", strings.Repeat("1", 100_000),
		"\u0661", "\uff11", "1\x00", "\x001", "1\x80", "\u22121",
	} {
		unparsed(t, "dim 1\na  "+w+"\n")
		unparsed(t, "dim 1\na t "+w+"\n")
		unparsed(t, "dim 2\na t "+w+" 1\n")
		unparsed(t, "dim 2\na t 1 "+w+"\n")
	}
	parsed(t, "dim 4\na  0 -1 1000 -1000\n", 4, []api.Item{called("a", 0, -1, 1000, -1000)})
}

// P1: great texts of another form end, too.
func TestGreatTexts(t *testing.T) {
	for _, s := range []string{strings.Repeat("\n", 1<<20), strings.Repeat(" ", 1<<20), strings.Repeat("a", 1<<20), "dim 1\n" + strings.Repeat("a  1\n", 1<<18), "dim 1\na " + strings.Repeat(" 1", 1<<18) + "\n", "dim " + strings.Repeat("1", 1<<20) + "\n"} {
		unparsed(t, s)
	}
	unprinted(t, "a great list", 1, make([]api.Item, 1<<18))
	unprinted(t, "many numbers", 1, []api.Item{called("a", make([]int, 1<<18)...)})
}

// P4: lists that are handed in stay as they are, and what stands behind their length too.
func TestListsStayAsTheyAre(t *testing.T) {
	l := []api.Item{called("a", 1, 2, 3), tagged("b", "t", 4, 5, 6), called("0", 7, 8, 9)}
	l[0].At, l[1].At = l[0].At[:2], l[1].At[:2]
	held := copied(l)
	printed(t, 2, l[:2], "dim 2\na  1 2\nb t 4 5\n")
	unprinted(t, "one that is not Right", 2, l)
	wantRight(t, l[0], 2, true)
	wantRight(t, l[0], 3, false)
	if !alike(l, held) || l[0].At[:3][2] != 3 || l[1].At[:3][2] != 6 {
		t.Errorf("the list was %+v, and is %+v", held, l)
	}
}

// P4: what Parse answers is the caller's: no two of its lists share memory, and no answer another one's.
func TestAnswersAreFresh(t *testing.T) {
	s, dim, want := ordinary()
	_, first, _ := Parse(s)
	_, second, _ := Parse(s)
	for i := range first {
		whole := first[i].At[:cap(first[i].At)]
		for k := range whole {
			whole[k] = 77
		}
		if !alike(first[i+1:], want[i+1:]) {
			t.Errorf("numbers of %d are others' too: %+v", i, first)
		}
	}
	clear(first[:cap(first)])
	if !alike(second, want) {
		t.Errorf("the second answer is %+v, want %+v", second, want)
	}
	parsed(t, s, dim, want)
}
