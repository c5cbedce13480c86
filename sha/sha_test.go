package sha_test

import (
	"bytes"
	"crypto/sha256"
	"encoding/binary"
	"encoding/hex"
	"math"
	"math/big"
	"strings"
	"testing"

	"oubliette/num"
	"oubliette/sha"
)

// row: n bytes, each unlike those beside it.
func row(n int) []byte {
	out := make([]byte, n)
	for at := range out {
		out[at] = byte(at*37 + at/64*11 + n)
	}
	return out
}

// primes: the first n prime numbers.
func primes(n int) []int64 {
	var out []int64
next:
	for p := int64(2); len(out) < n; p++ {
		for _, q := range out {
			if p%q == 0 {
				continue next
			}
		}
		out = append(out, p)
	}
	return out
}

// behindPoint: the first 32 bits behind the point of p's root of so many powers, found bit by bit.
func behindPoint(p int64, powers int64) uint32 {
	whole := new(big.Int).Lsh(big.NewInt(p), uint(32*powers))
	root := new(big.Int)
	for bit := 63; bit >= 0; bit-- {
		root.SetBit(root, bit, 1)
		if new(big.Int).Exp(root, big.NewInt(powers), nil).Cmp(whole) > 0 {
			root.SetBit(root, bit, 0)
		}
	}
	return uint32(root.Uint64())
}

// right, as the chapter says it: bit by bit, the lowest one comes back as the highest.
func right(w uint32, by int) uint32 {
	for range by {
		w = w>>1 | w&1<<31
	}
	return w
}

// plainWords: the words of a block, each beside what the chapter says of it.
func plainWords(b []byte) [64]uint32 {
	var w [64]uint32
	for t := range w {
		if t < 16 {
			w[t] = binary.BigEndian.Uint32(b[4*t:])
			continue
		}
		two, fifteen := w[t-2], w[t-15]
		w[t] = right(two, 17) ^ right(two, 19) ^ two/1024
		w[t] += w[t-7]
		w[t] += right(fifteen, 7) ^ right(fifteen, 18) ^ fifteen/8
		w[t] += w[t-16]
	}
	return w
}

// choose and most tell bit by bit, by cases.
func choose(e, f, g uint32) uint32 {
	var out uint32
	for bit := range 32 {
		from := g
		if e>>bit&1 == 1 {
			from = f
		}
		out |= from >> bit & 1 << bit
	}
	return out
}

func most(a, b, c uint32) uint32 {
	var out uint32
	for bit := range 32 {
		if a>>bit&1+b>>bit&1+c>>bit&1 >= 2 {
			out |= 1 << bit
		}
	}
	return out
}

// plainBlock: h turned by a block, with words that have names, and roots that are reckoned.
func plainBlock(h [8]uint32, block []byte, roots [64]uint32) [8]uint32 {
	words := plainWords(block)
	a, b, c, d, e, f, g, last := h[0], h[1], h[2], h[3], h[4], h[5], h[6], h[7]
	for t := range 64 {
		x := last + (right(e, 6) ^ right(e, 11) ^ right(e, 25)) + choose(e, f, g) + roots[t] + words[t]
		y := (right(a, 2) ^ right(a, 13) ^ right(a, 22)) + most(a, b, c)
		last, g, f, e, d, c, b, a = g, f, e, d+x, c, b, a, x+y
	}
	return [8]uint32{h[0] + a, h[1] + b, h[2] + c, h[3] + d, h[4] + e, h[5] + f, h[6] + g, h[7] + last}
}

func allRoots() [64]uint32 {
	var out [64]uint32
	for at, p := range primes(64) {
		out[at] = behindPoint(p, 3)
	}
	return out
}

// blocksOf: blocks of one bit, of all but one, of one byte all over, and some without a rule.
func blocksOf() [][]byte {
	out := [][]byte{make([]byte, 64), bytes.Repeat([]byte{255}, 64), bytes.Repeat([]byte{0x80}, 64), bytes.Repeat([]byte{1}, 64)}
	for bit := range 512 {
		one := make([]byte, 64)
		one[bit/8] = 0x80 >> (bit % 8)
		but := bytes.Repeat([]byte{255}, 64)
		but[bit/8] ^= 0x80 >> (bit % 8)
		out = append(out, one, but)
	}
	n := uint32(3)
	for range 200 {
		b := make([]byte, 64)
		for at := range b {
			n = n*1664525 + 1013904223
			b[at] = byte(n >> 24)
		}
		out = append(out, b)
	}
	return out
}

// P701

func TestK(t *testing.T) {
	for _, c := range []struct {
		t    int
		want uint32
	}{
		{0, 0x428a2f98},
		{1, 0x71374491},
		{2, 0xb5c0fbcf},
		{17, 0xefbe4786},
		{62, 0xbef9a3f7},
		{63, 0xc67178f2},
		{64, 0},
		{65, 0},
		{128, 0},
		{1 << 32, 0},
		{-1, 0},
		{-63, 0},
		{-64, 0},
		{math.MaxInt, 0},
		{math.MinInt, 0},
	} {
		if got := sha.K(c.t); got != c.want {
			t.Errorf("K(%d) = %08x, not %08x", c.t, got, c.want)
		}
	}
	for at, want := range allRoots() {
		if got := sha.K(at); got != want {
			t.Errorf("K(%d) = %08x, not %08x, of the prime number's cube root", at, got, want)
		}
	}
}

func TestFirst(t *testing.T) {
	first := sha.First()
	for at, p := range primes(8) {
		if want := behindPoint(p, 2); first[at] != want {
			t.Errorf("First()[%d] = %08x, not %08x, of the square root of %d", at, first[at], want, p)
		}
	}
	if first[0] != 0x6a09e667 || first[7] != 0x5be0cd19 {
		t.Errorf("First() = %08x", first)
	}
}

func TestPad(t *testing.T) {
	for _, c := range []struct {
		size, zeros int
		last        []byte
	}{
		{0, 55, []byte{0, 0, 0, 0, 0, 0, 0, 0}},
		{1, 54, []byte{0, 0, 0, 0, 0, 0, 0, 8}},
		{3, 52, []byte{0, 0, 0, 0, 0, 0, 0, 24}},
		{54, 1, []byte{0, 0, 0, 0, 0, 0, 1, 0xb0}},
		{55, 0, []byte{0, 0, 0, 0, 0, 0, 1, 0xb8}},
		{56, 63, []byte{0, 0, 0, 0, 0, 0, 1, 0xc0}},
		{57, 62, []byte{0, 0, 0, 0, 0, 0, 1, 0xc8}},
		{63, 56, []byte{0, 0, 0, 0, 0, 0, 1, 0xf8}},
		{64, 55, []byte{0, 0, 0, 0, 0, 0, 2, 0}},
		{119, 0, []byte{0, 0, 0, 0, 0, 0, 3, 0xb8}},
		{120, 63, []byte{0, 0, 0, 0, 0, 0, 3, 0xc0}},
		{1<<29 - 1, 56, []byte{0, 0, 0, 0, 0xff, 0xff, 0xff, 0xf8}},
		{1 << 29, 55, []byte{0, 0, 0, 1, 0, 0, 0, 0}},
		{1<<40 - 1, 56, []byte{0, 0, 7, 0xff, 0xff, 0xff, 0xff, 0xf8}},
		{1 << 40, 55, []byte{0, 0, 8, 0, 0, 0, 0, 0}},
	} {
		want := append(append([]byte{128}, make([]byte, c.zeros)...), c.last...)
		if got := sha.Pad(c.size); !bytes.Equal(got, want) {
			t.Errorf("Pad(%d) = %v, not %v", c.size, got, want)
		}
	}
	for _, size := range []int{-1, -55, -64, math.MinInt, math.MinInt + 1, 1<<40 + 1, 1<<40 + 64, 1 << 61, math.MaxInt, math.MaxInt - 8} {
		if got := sha.Pad(size); len(got) != 0 {
			t.Errorf("Pad(%d) = %v, not nothing", size, got)
		}
	}
}

func TestPadOfEverySize(t *testing.T) {
	for size := range 1000 {
		want := []byte{128}
		for (size+len(want)+8)%64 != 0 {
			want = append(want, 0)
		}
		want = append(want, num.Put(uint64(8*size), 8)...)
		if got := sha.Pad(size); !bytes.Equal(got, want) {
			t.Errorf("Pad(%d) = %v, not %v", size, got, want)
		}
	}
}

func TestWords(t *testing.T) {
	abc := append([]byte("abc"), sha.Pad(3)...)
	words := sha.Words(abc)
	for at, want := range map[int]uint32{0: 0x61626380, 1: 0, 14: 0, 15: 24, 16: 0x61626380, 17: 0x000f0000, 18: 0x7da86405, 63: 0x12b1edeb} {
		if words[at] != want {
			t.Errorf("Words of abc: %08x at %d, not %08x", words[at], at, want)
		}
	}
	for _, b := range blocksOf() {
		if got, want := sha.Words(b), plainWords(b); got != want {
			t.Errorf("Words(%v) = %08x, not %08x", b, got, want)
		}
	}
}

func TestBlock(t *testing.T) {
	roots := allRoots()
	h := sha.First()
	for _, b := range blocksOf() {
		for _, from := range [][8]uint32{h, {}, sha.First(), {math.MaxUint32, 0, math.MaxUint32, 0, math.MaxUint32, 0, math.MaxUint32, 0}} {
			if got, want := sha.Block(from, b), plainBlock(from, b, roots); got != want {
				t.Fatalf("Block(%08x, %v) = %08x, not %08x", from, b, got, want)
			}
		}
		h = sha.Block(h, b)
	}
	want := [8]uint32{0xba7816bf, 0x8f01cfea, 0x414140de, 0x5dae2223, 0xb00361a3, 0x96177a9c, 0xb410ff61, 0xf20015ad}
	if got := sha.Block(sha.First(), append([]byte("abc"), sha.Pad(3)...)); got != want {
		t.Errorf("Block of abc = %08x, not %08x", got, want)
	}
}

// Each single bit of the eight words comes in where the chapter says.
func TestBlockOfEachBit(t *testing.T) {
	roots := allRoots()
	for bit := range 256 {
		var one, but [8]uint32
		one[bit/32] = 1 << (bit % 32)
		for at := range but {
			but[at] = ^one[at]
		}
		for _, h := range [][8]uint32{one, but} {
			if got, want := sha.Block(h, row(64)), plainBlock(h, row(64), roots); got != want {
				t.Errorf("Block(%08x) = %08x, not %08x", h, got, want)
			}
		}
	}
}

func TestWhatIsNoBlock(t *testing.T) {
	h := [8]uint32{1, 2, 3, 4, 5, 6, 7, math.MaxUint32}
	for n := range 300 {
		if n == 64 {
			continue
		}
		if got := sha.Words(row(n)); got != [64]uint32{} {
			t.Errorf("Words of %d bytes = %v", n, got)
		}
		if got := sha.Block(h, row(n)); got != h {
			t.Errorf("Block of %d bytes = %v", n, got)
		}
	}
	if sha.Words(nil) != [64]uint32{} || sha.Block(h, nil) != h || sha.Block(h, make([]byte, 63, 64)) != h {
		t.Error("a block of nothing")
	}
}

// P702

func TestSum(t *testing.T) {
	for _, c := range []struct{ text, want string }{
		{"", "e3b0c44298fc1c149afbf4c8996fb92427ae41e4649b934ca495991b7852b855"},
		{"abc", "ba7816bf8f01cfea414140de5dae2223b00361a396177a9cb410ff61f20015ad"},
		{"abcdbcdecdefdefgefghfghighijhijkijkljklmklmnlmnomnopnopq", "248d6a61d20638b8e5c026930c3e6039a33ce45964ff2167f6ecedd419db06c1"},
		{"abcdefghbcdefghicdefghijdefghijkefghijklfghijklmghijklmnhijklmnoijklmnopjklmnopqklmnopqrlmnopqrsmnopqrstnopqrstu", "cf5b16a778af8380036ce59e7b0492370b249b11e8f07a51afac45037afee9d1"},
		{"The quick brown fox jumps over the lazy dog", "d7a8fbb307d7809469ca9abcb0082e4f8d5651e46d3cdb762d02d0bf37c9e592"},
		{strings.Repeat("a", 1000000), "cdc76e5c9914fb9281a1c7e284d73e67f1809a48a497200e046d39ccc7112cd0"},
	} {
		if got := hex.EncodeToString(sha.Sum([]byte(c.text))); got != c.want {
			t.Errorf("Sum of %d bytes = %s, not %s", len(c.text), got, c.want)
		}
	}
	if !bytes.Equal(sha.Sum(nil), sha.Sum([]byte{})) || !bytes.HasPrefix(sha.Sum(nil), []byte{0xe3, 0xb0, 0xc4, 0x42}) {
		t.Errorf("Sum of nothing = %x", sha.Sum(nil))
	}
}

// Against the library's sums: every length about the edges of blocks, every byte alone, and a long row.
func TestSumOfMany(t *testing.T) {
	for n := range 700 {
		for _, b := range [][]byte{row(n), make([]byte, n), bytes.Repeat([]byte{255}, n)} {
			want := sha256.Sum256(b)
			if got := sha.Sum(b); !bytes.Equal(got, want[:]) {
				t.Errorf("Sum of %d bytes = %x, not %x", n, got, want)
			}
		}
	}
	for c := range 256 {
		want := sha256.Sum256([]byte{byte(c)})
		if got := sha.Sum([]byte{byte(c)}); !bytes.Equal(got, want[:]) {
			t.Errorf("Sum of %d = %x, not %x", c, got, want)
		}
	}
	long := row(1<<20 + 5)
	want := sha256.Sum256(long)
	if got := sha.Sum(long); !bytes.Equal(got, want[:]) {
		t.Errorf("Sum of %d bytes = %x, not %x", len(long), got, want)
	}
}

// The sum as the chapter says it, of the package's own first words, padding and blocks.
func TestSumByBlocks(t *testing.T) {
	for n := range 300 {
		all := append(row(n), sha.Pad(n)...)
		h := sha.First()
		for at := 0; at < len(all); at += 64 {
			h = sha.Block(h, all[at:at+64])
		}
		var want []byte
		for _, word := range h {
			want = binary.BigEndian.AppendUint32(want, word)
		}
		if got := sha.Sum(row(n)); !bytes.Equal(got, want) {
			t.Errorf("Sum of %d bytes = %x, by blocks %x", n, got, want)
		}
	}
}

// What comes in is neither changed nor kept, its spare room neither; what is told is new each time.
func TestMemory(t *testing.T) {
	for _, n := range []int{0, 1, 55, 56, 63, 64, 65, 128, 200} {
		room := bytes.Repeat([]byte{9}, n+300)
		b := room[4 : 4+n]
		first, pad := sha.Sum(b), sha.Pad(n)
		sha.Words(b)
		sha.Block(sha.First(), b)
		if !bytes.Equal(room, bytes.Repeat([]byte{9}, n+300)) {
			t.Errorf("%d bytes: what came in was changed: %v", n, room)
		}
		want := sha256.Sum256(b)
		clear(first)
		clear(pad)
		second := sha.Sum(b)
		for at := range b {
			b[at] = 1
		}
		if !bytes.Equal(second, want[:]) || sha.Pad(n)[0] != 128 {
			t.Errorf("%d bytes: an answer shares memory", n)
		}
	}
	words, first := sha.Words(row(64)), sha.First()
	clear(words[:])
	clear(first[:])
	if sha.Words(row(64)) != plainWords(row(64)) || sha.First()[0] != 0x6a09e667 {
		t.Error("an answer shares memory with what is kept")
	}
}

// P703

func TestLaws(t *testing.T) {
	for n := range 600 {
		if got := len(sha.Sum(row(n))); got != 32 {
			t.Errorf("Sum of %d bytes has %d bytes", n, got)
		}
	}
	for _, size := range []int{0, 1, 55, 56, 63, 64, 511, 512, 513, 1<<16 - 1, 1 << 31, 1<<40 - 9, 1<<40 - 8, 1<<40 - 1, 1 << 40} {
		pad := sha.Pad(size)
		if (size+len(pad))%64 != 0 || len(pad) < 9 || len(pad) > 72 {
			t.Errorf("%d bytes with their padding of %d are no whole blocks", size, len(pad))
		}
	}
	for size := range 5000 {
		if pad := sha.Pad(size); (size+len(pad))%64 != 0 || len(pad) < 9 || len(pad) > 72 {
			t.Errorf("%d bytes with their padding of %d are no whole blocks", size, len(pad))
		}
	}
}

// One bit another, at each place, and the sum is another.
func TestOneBitIsAnother(t *testing.T) {
	for _, n := range []int{1, 8, 55, 56, 64, 100} {
		b := row(n)
		seen := map[string]int{string(sha.Sum(b)): -1}
		for bit := range 8 * n {
			b[bit/8] ^= 1 << (bit % 8)
			sum := string(sha.Sum(b))
			if other, ok := seen[sum]; ok {
				t.Errorf("%d bytes: bits %d and %d lead to one sum", n, bit, other)
			}
			seen[sum] = bit
			b[bit/8] ^= 1 << (bit % 8)
		}
	}
}
