package sum

import (
	"crypto/sha256"
	"encoding/binary"
	"encoding/hex"
	"math"
	"slices"
	"strings"
	"testing"

	"coffer/api"
)

// mixed is a text of that many bytes, in which every byte comes, those above 127 and 0 too.
func mixed(size int) string {
	b := make([]byte, size)
	for i := range b {
		b[i] = byte(i*167 + size + i/256)
	}
	return string(b)
}

// Promise 1.1: the examples of FIPS 180-4 and of the document, written out.
func TestSumOfKnownTexts(t *testing.T) {
	for _, c := range []struct{ text, want string }{
		{"", "e3b0c44298fc1c149afbf4c8996fb92427ae41e4649b934ca495991b7852b855"},
		{"abc", "ba7816bf8f01cfea414140de5dae2223b00361a396177a9cb410ff61f20015ad"},
		{"abcdbcdecdefdefgefghfghighijhijkijkljklmklmnlmnomnopnopq", "248d6a61d20638b8e5c026930c3e6039a33ce45964ff2167f6ecedd419db06c1"},
		{"abcdefghbcdefghicdefghijdefghijkefghijklfghijklmghijklmnhijklmnoijklmnopjklmnopqklmnopqrlmnopqrsmnopqrstnopqrstu", "cf5b16a778af8380036ce59e7b0492370b249b11e8f07a51afac45037afee9d1"},
		{strings.Repeat("a", 55), "9f4390f8d30c2dd92ec9f095b65e2b9ae9b0a925a5258e241c9f1e910f734318"},
		{strings.Repeat("a", 56), "b35439a4ac6f0948b6d6f9e3c6af0f5f590ce20f1bde7090ef7970686ec6738a"},
		{strings.Repeat("a", 64), "ffe054fe7ae0cb6dc65c3af9b61d5209f439851db43d0ba5997337df154668eb"},
		{strings.Repeat("a", 1_000_000), "cdc76e5c9914fb9281a1c7e284d73e67f1809a48a497200e046d39ccc7112cd0"},
	} {
		if got := hex.EncodeToString([]byte(Sum(c.text))); got != c.want {
			t.Errorf("Sum of %d bytes %.20q: %s, want %s", len(c.text), c.text, got, c.want)
		}
	}
}

// Promise 1.1: every length about the edges of one, two and several chunks.
func TestSumOfEveryLength(t *testing.T) {
	for size := range 400 {
		s := mixed(size)
		want := sha256.Sum256([]byte(s))
		if got := Sum(s); got != string(want[:]) {
			t.Errorf("Sum of %d bytes: %x, want %x", size, got, want)
		}
	}
}

// Promise 1.1: the number of bits is written whole, in the fourth byte from behind too.
func TestSumOfLongText(t *testing.T) {
	s := strings.Repeat("\xff", 1<<21+3)
	want := sha256.Sum256([]byte(s))
	if got := Sum(s); got != string(want[:]) {
		t.Errorf("Sum of %d bytes: %x, want %x", len(s), got, want)
	}
}

// Promise 1.1, P4: a piece of a text has the sum of that piece, whatever stands about it.
func TestSumOfPiece(t *testing.T) {
	s := mixed(300)
	for _, size := range []int{0, 1, 55, 56, 63, 64, 65, 128} {
		if Sum(s[7:7+size]) != Sum(strings.Clone(s[7:7+size])) {
			t.Errorf("a piece of %d bytes has another sum than its copy", size)
		}
	}
}

// Promise 1.1: two small digits a byte, for every byte.
func TestHex(t *testing.T) {
	for _, c := range []struct{ text, want string }{
		{"", ""},
		{"\x00", "00"},
		{"\x0a\xa0", "0aa0"},
		{"\xff\x00\x7f\x80", "ff007f80"},
		{"az", "617a"},
		{"\u00e9", "c3a9"},
	} {
		if got := Hex(c.text); got != c.want {
			t.Errorf("Hex of %q: %q, want %q", c.text, got, c.want)
		}
	}
	s := mixed(256)
	if got, want := Hex(s), hex.EncodeToString([]byte(s)); got != want {
		t.Errorf("Hex of all bytes: %q, want %q", got, want)
	}
}

// Promise 1.1: eight bytes, the greatest first, two's complement below 0.
func TestNum(t *testing.T) {
	for _, c := range []struct {
		n    int
		want string
	}{
		{0, "\x00\x00\x00\x00\x00\x00\x00\x00"},
		{1, "\x00\x00\x00\x00\x00\x00\x00\x01"},
		{255, "\x00\x00\x00\x00\x00\x00\x00\xff"},
		{256, "\x00\x00\x00\x00\x00\x00\x01\x00"},
		{258, "\x00\x00\x00\x00\x00\x00\x01\x02"},
		{0x0102030405060708, "\x01\x02\x03\x04\x05\x06\x07\x08"},
		{1 << 32, "\x00\x00\x00\x01\x00\x00\x00\x00"},
		{1<<31 - 1, "\x00\x00\x00\x00\x7f\xff\xff\xff"},
		{-1, "\xff\xff\xff\xff\xff\xff\xff\xff"},
		{-2, "\xff\xff\xff\xff\xff\xff\xff\xfe"},
		{-256, "\xff\xff\xff\xff\xff\xff\xff\x00"},
		{math.MaxInt64, "\x7f\xff\xff\xff\xff\xff\xff\xff"},
		{math.MinInt64, "\x80\x00\x00\x00\x00\x00\x00\x00"},
	} {
		if got := Num(c.n); got != c.want {
			t.Errorf("Num of %d: %x, want %x", c.n, got, c.want)
		}
	}
}

// markOf works a mark out by the library, not by the package.
func markOf(kind byte, parts ...string) string {
	all := []byte{kind}
	for _, p := range parts {
		all = binary.BigEndian.AppendUint64(all, uint64(len(p)))
		all = append(all, p...)
	}
	h := sha256.Sum256(all)
	return string(h[:16])
}

// Promise 1.1: marks of no part, an empty one, several, and long ones.
func TestMark(t *testing.T) {
	for _, c := range []struct {
		kind  byte
		parts []string
	}{
		{'x', nil},
		{'x', []string{}},
		{'x', []string{""}},
		{'x', []string{"", ""}},
		{'x', []string{"a"}},
		{'x', []string{"a", "b"}},
		{'x', []string{"ab", ""}},
		{'x', []string{"", "ab"}},
		{0, []string{"\x00"}},
		{255, []string{"\xff", mixed(256), mixed(55), mixed(56), mixed(64)}},
		{'u', []string{mixed(16), mixed(16)}},
		{'k', []string{mixed(70_000)}},
	} {
		got := Mark(c.kind, c.parts...)
		if want := markOf(c.kind, c.parts...); got != want {
			t.Errorf("Mark of %q and %.60q: %x, want %x", c.kind, c.parts, got, want)
		}
		if len(got) != api.MarkSize {
			t.Errorf("Mark of %q and %.60q has %d bytes", c.kind, c.parts, len(got))
		}
	}
}

// Promise 1.1: where one part ends and the next one begins is told, and so is the kind.
func TestMarksAreToldApart(t *testing.T) {
	seen := map[string]int{}
	for i, m := range []string{
		Mark('x'), Mark('y'), Mark('x', ""), Mark('x', "", ""), Mark('x', "ab"), Mark('x', "a", "b"),
		Mark('x', "", "ab"), Mark('x', "ab", ""), Mark('x', "b", "a"), Mark('y', "a", "b"), Mark('a', "x", "b"),
		Mark('x', Num(0)), Mark('x', Num(1), "a"),
	} {
		if j, ok := seen[m]; ok {
			t.Errorf("marks %d and %d are one", j, i)
		}
		seen[m] = i
	}
}

// P4: the parts, and what stands behind the list's length, stay as they are.
func TestMarkLeavesItsParts(t *testing.T) {
	whole := []string{"a", "", "bc", "behind", "it"}
	before := slices.Clone(whole)
	Mark('x', whole[:3]...)
	if !slices.Equal(whole, before) {
		t.Errorf("the parts were %q, and are %q", before, whole)
	}
}

// P4: what is answered hangs on the arguments alone.
func TestAnswersDoNotHangOnCallsAhead(t *testing.T) {
	first := Sum("abc") + Hex("abc") + Num(258) + Mark('x', "a", "b")
	Sum(mixed(200))
	Hex(mixed(200))
	Num(-1)
	Mark('y', mixed(200))
	if again := Sum("abc") + Hex("abc") + Num(258) + Mark('x', "a", "b"); again != first {
		t.Errorf("first %x, then %x", first, again)
	}
}
