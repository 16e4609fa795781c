package stream

import (
	"encoding/binary"
	"encoding/hex"
	"math"
	"math/bits"
	"strings"
	"testing"

	"coffer/api"
)

// counted is a text of that many bytes: 0, 1, 2 and so on.
func counted(size int) string {
	b := make([]byte, size)
	for i := range b {
		b[i] = byte(i)
	}
	return string(b)
}

// mixed is a text of that many bytes, in which every byte comes, those above 127 and 0 too.
func mixed(size, seed int) string {
	b := make([]byte, size)
	for i := range b {
		b[i] = byte(i*167 + seed*31 + i/256)
	}
	return string(b)
}

// fromHex is a text that is written as hexadecimal digits.
func fromHex(t *testing.T, digits string) string {
	t.Helper()
	b, err := hex.DecodeString(digits)
	if err != nil {
		t.Fatal(err)
	}
	return string(b)
}

// slowBlock works a block out step by step, not by the package.
func slowBlock(key string, n uint32, nonce string) string {
	start := []byte("expand 32-byte k" + key)
	start = binary.LittleEndian.AppendUint32(start, n)
	start = append(start, nonce...)
	at := make([]uint32, 16)
	for i := range at {
		at[i] = binary.LittleEndian.Uint32(start[4*i:])
	}
	one := func(x, y, z, turn int) {
		at[x] += at[y]
		at[z] = bits.RotateLeft32(at[z]^at[x], turn)
	}
	for range 10 {
		for _, q := range [][4]int{
			{0, 4, 8, 12}, {1, 5, 9, 13}, {2, 6, 10, 14}, {3, 7, 11, 15},
			{0, 5, 10, 15}, {1, 6, 11, 12}, {2, 7, 8, 13}, {3, 4, 9, 14},
		} {
			one(q[0], q[1], q[3], 16)
			one(q[2], q[3], q[1], 12)
			one(q[0], q[1], q[3], 8)
			one(q[2], q[3], q[1], 7)
		}
	}
	var out []byte
	for i, w := range at {
		out = binary.LittleEndian.AppendUint32(out, w+binary.LittleEndian.Uint32(start[4*i:]))
	}
	return string(out)
}

// Promise 2.1: the example of RFC 8439, 2.3.2, those of its A.1, and the last number.
func TestBlockOfKnownKeys(t *testing.T) {
	zero := strings.Repeat("\x00", 32)
	for _, c := range []struct {
		key   string
		n     int
		nonce string
		want  string
	}{
		{counted(32), 1, "000000090000004a00000000", "10f1e7e4d13b5915500fdd1fa32071c4c7d1f4c733c068030422aa9ac3d46c4ed2826446079faa0914c2d705d98b02a2b5129cd1de164eb9cbd083e8a2503c4e"},
		{zero, 0, "000000000000000000000000", "76b8e0ada0f13d90405d6ae55386bd28bdd219b8a08ded1aa836efcc8b770dc7da41597c5157488d7724e03fb8d84a376a43b8f41518a11cc387b669b2ee6586"},
		{zero, 1, "000000000000000000000000", "9f07e7be5551387a98ba977c732d080dcb0f29a048e3656912c6533e32ee7aed29b721769ce64e43d57133b074d839d531ed1f28510afb45ace10a1f4b794d6f"},
		{zero[1:] + "\x01", 1, "000000000000000000000000", "3aeb5224ecf849929b9d828db1ced4dd832025e8018b8160b82284f3c949aa5a8eca00bbb4a73bdad192b5c42f73f2fd4e273644c8b36125a64addeb006c13a0"},
		{"\x00\xff" + zero[2:], 2, "000000000000000000000000", "72d54dfbf12ec44b362692df94137f328fea8da73990265ec1bbbea1ae9af0ca13b25aa26cb4a648cb9b9d1be65b2c0924a66c54d545ec1b7374f4872e99f096"},
		{zero, 0, "000000000000000000000002", "c2c64d378cd536374ae204b9ef933fcd1a8b2288b3dfa49672ab765b54ee27c78a970e0e955c14f3a88e741b97c286f75f8fc299e8148362fa198a39531bed6d"},
		{zero, math.MaxUint32, "000000000000000000000000", "ace4cd09e294d1912d4ad205d06f95d9c2f2bfcf453e8753f128765b62215f4d92c74f2f626c6a640c0b1284d839ec81f1696281dafc3e684593937023b58b1d"},
	} {
		got, err := Block(c.key, c.n, fromHex(t, c.nonce))
		if err != nil || hex.EncodeToString([]byte(got)) != c.want {
			t.Errorf("Block of %x, %d, %s: %x, %v, want %s", c.key, c.n, c.nonce, got, err, c.want)
		}
	}
}

// Promise 2.1: every byte of the key and of the nonce, and every bit of the number, stands where it must.
func TestBlockOfManyKeys(t *testing.T) {
	for i := range 100 {
		key, nonce := mixed(32, i), mixed(12, 7*i+3)
		for _, n := range []int{0, 1, 2, 255, 256, 1<<16 + i, 1<<31 - 1, 1 << 31, math.MaxUint32 - i} {
			got, err := Block(key, n, nonce)
			if want := slowBlock(key, uint32(n), nonce); err != nil || got != want {
				t.Fatalf("Block of %x, %d, %x: %x, %v, want %x", key, n, nonce, got, err, want)
			}
		}
	}
}

// Promise 2.1: keys and nonces of one byte too few and too many, and of none, are refused by both.
func TestSizesThatAreRefused(t *testing.T) {
	for _, c := range []struct{ key, nonce int }{
		{0, 12}, {1, 12}, {31, 12}, {33, 12}, {64, 12},
		{32, 0}, {32, 1}, {32, 11}, {32, 13}, {32, 24},
		{0, 0}, {12, 32}, {31, 13}, {33, 11},
	} {
		key, nonce := mixed(c.key, 1), mixed(c.nonce, 2)
		if got, err := Block(key, 1, nonce); got != "" || err != api.ErrArg {
			t.Errorf("Block of a key of %d bytes and a nonce of %d: %x, %v", c.key, c.nonce, got, err)
		}
		for _, s := range []string{"", "a", mixed(65, 3)} {
			if got, err := Xor(key, nonce, s); got != "" || err != api.ErrArg {
				t.Errorf("Xor of a key of %d bytes and a nonce of %d: %x, %v", c.key, c.nonce, got, err)
			}
		}
	}
}

// Promise 2.1: numbers about both edges.
func TestNumbersOfBlocks(t *testing.T) {
	key, nonce := mixed(32, 1), mixed(12, 2)
	for _, n := range []int{-1, -2, math.MinInt64, math.MinInt64 + 1, -1 << 32, 1 << 32, 1<<32 + 1, math.MaxInt64} {
		if got, err := Block(key, n, nonce); got != "" || err != api.ErrArg {
			t.Errorf("Block of number %d: %x, %v", n, got, err)
		}
	}
	for _, n := range []int{0, 1, math.MaxUint32 - 1, math.MaxUint32} {
		if got, err := Block(key, n, nonce); len(got) != 64 || err != nil {
			t.Errorf("Block of number %d: %x, %v", n, got, err)
		}
	}
}

// Promise 2.1: the example of RFC 8439, 2.4.2.
func TestXorOfKnownText(t *testing.T) {
	text := "Ladies and Gentlemen of the class of '99: If I could offer you only one tip for the future, sunscreen would be it."
	want := "6e2e359a2568f98041ba0728dd0d6981e97e7aec1d4360c20a27afccfd9fae0bf91b65c5524733ab8f593dabcd62b3571639d624e65152ab8f530c359f0861d8" +
		"07ca0dbf500d6a6156a38e088a22b65e52bc514d16ccf806818ce91ab77937365af90bbf74a35be6b40b8eedf2785e42874d"
	got, err := Xor(counted(32), fromHex(t, "000000000000004a00000000"), text)
	if err != nil || hex.EncodeToString([]byte(got)) != want {
		t.Errorf("%x, %v, want %s", got, err, want)
	}
}

// Promise 2.1: texts about the edges of blocks; what is done once and once again is nothing.
func TestXorOfManySizes(t *testing.T) {
	key, nonce := mixed(32, 5), mixed(12, 6)
	for _, size := range []int{0, 1, 2, 62, 63, 64, 65, 127, 128, 129, 192, 256, 640, 1000, 64 * 300} {
		text := mixed(size, 7)
		var want []byte
		for i := range size {
			block := slowBlock(key, uint32(1+i/64), nonce)
			want = append(want, text[i]^block[i%64])
		}
		got, err := Xor(key, nonce, text)
		if err != nil || got != string(want) {
			t.Errorf("Xor of %d bytes: %x, %v, want %x", size, got, err, want)
		}
		if again, err := Xor(key, nonce, got); err != nil || again != text {
			t.Errorf("Xor once and once again of %d bytes: %x, %v", size, again, err)
		}
	}
}

// Promise 2.1: of noughts comes what Block tells, from number 1 on.
func TestXorIsOfBlocks(t *testing.T) {
	key, nonce := mixed(32, 8), mixed(12, 9)
	got, err := Xor(key, nonce, strings.Repeat("\x00", 5*64+10))
	if err != nil {
		t.Fatal(err)
	}
	for i := range 6 {
		block, err := Block(key, 1+i, nonce)
		if err != nil || got[64*i:min(64*(i+1), len(got))] != block[:min(64, len(got)-64*i)] {
			t.Errorf("piece %d is not the block of number %d", i, 1+i)
		}
	}
}

// What is to be true of the whole, 1: no block is like another one.
func TestBlocksAreToldApart(t *testing.T) {
	seen := map[string]bool{}
	for k := range 8 {
		for m := range 8 {
			for n := range 8 {
				block, err := Block(mixed(32, k), n, mixed(12, m))
				if err != nil || seen[block] {
					t.Fatalf("the block of %d, %d, %d is there already, or is refused: %v", k, n, m, err)
				}
				seen[block] = true
			}
		}
	}
}

// P4: what is answered hangs on the arguments alone.
func TestAnswersDoNotHangOnCallsAhead(t *testing.T) {
	key, nonce := mixed(32, 1), mixed(12, 2)
	ask := func() string {
		block, _ := Block(key, 3, nonce)
		text, _ := Xor(key, nonce, "abc")
		return block + text
	}
	first := ask()
	Block(mixed(32, 4), 5, mixed(12, 6))
	Xor(key, nonce, mixed(1000, 7))
	Xor("", "", "a")
	if again := ask(); again != first {
		t.Errorf("first %x, then %x", first, again)
	}
}
