package crc_test

import (
	"bytes"
	"hash/crc32"
	"math"
	"testing"

	"oubliette/crc"
)

// row: n bytes, each unlike those beside it.
func row(n int) []byte {
	out := make([]byte, n)
	for at := range out {
		out[at] = byte(at*37 + n)
	}
	return out
}

// numbers: each bit alone, all but one, all below one, and some without a rule.
func numbers() []uint32 {
	out := []uint32{0, math.MaxUint32, 0xedb88320, 0xcbf43926, 0x12345678, 0xaaaaaaaa, 0x55555555}
	for at := range 32 {
		out = append(out, 1<<at, ^uint32(1<<at), 1<<at-1)
	}
	n := uint32(7)
	for range 1000 {
		n = n*1664525 + 1013904223
		out = append(out, n)
	}
	return out
}

// byDivision: the sum as the rest of a long division of all bits, the lowest bit of each byte first, without a step.
func byDivision(b []byte) uint32 {
	bits := make([]byte, 8*len(b)+32)
	for at := range 8 * len(b) {
		bits[at] = b[at/8] >> (at % 8) & 1
	}
	for at := range 32 { // the sum begins with ffffffff
		bits[at] ^= 1
	}
	for at := range 8 * len(b) {
		if bits[at] == 0 {
			continue
		}
		bits[at] = 0
		for bit := range 32 {
			bits[at+1+bit] ^= byte(uint32(0xedb88320) >> bit & 1)
		}
	}
	var sum uint32
	for at := range 32 {
		sum |= uint32(bits[8*len(b)+at]^1) << at
	}
	return sum
}

// P601

func TestStep(t *testing.T) {
	for _, c := range []struct{ c, want uint32 }{
		{0, 0},
		{1, 0xedb88320},
		{2, 1},
		{3, 0xedb88321},
		{4, 2},
		{0x80000000, 0x40000000},
		{0x80000001, 0xadb88320},
		{0xfffffffe, 0x7fffffff},
		{0xffffffff, 0x92477cdf},
		{0xedb88320, 0x76dc4190},
	} {
		if got := crc.Step(c.c); got != c.want {
			t.Errorf("Step(%08x) = %08x, not %08x", c.c, got, c.want)
		}
	}
}

// An even number is halved; of an odd one the half is turned, and each number comes from one alone.
func TestStepOfMany(t *testing.T) {
	from := map[uint32]uint32{}
	for _, c := range numbers() {
		want := c / 2
		if c%2 == 1 {
			want = (want | 0xedb88320) &^ (want & 0xedb88320)
		}
		got := crc.Step(c)
		if got != want {
			t.Errorf("Step(%08x) = %08x, not %08x", c, got, want)
		}
		if other, ok := from[got]; ok && other != c {
			t.Errorf("Step(%08x) = Step(%08x)", c, other)
		}
		from[got] = c
	}
}

func TestOf(t *testing.T) {
	for _, c := range []struct {
		b    []byte
		want uint32
	}{
		{[]byte("123456789"), 0xcbf43926},
		{nil, 0},
		{[]byte{}, 0},
		{[]byte{0}, 0xd202ef8d},
		{[]byte{1}, 0xa505df1b},
		{[]byte{255}, 0xff000000},
		{[]byte{255, 255, 255, 255}, 0xffffffff},
		{[]byte{0, 0, 0, 0}, 0x2144df1c},
		{[]byte("a"), 0xe8b7be43},
		{[]byte("abc"), 0x352441c2},
		{[]byte("The quick brown fox jumps over the lazy dog"), 0x414fa339},
		{make([]byte, 32), 0x190a55ad},
		{bytes.Repeat([]byte{255}, 32), 0xff6cab0b},
	} {
		if got := crc.Of(c.b); got != c.want {
			t.Errorf("Of(%v) = %08x, not %08x", c.b, got, c.want)
		}
	}
}

// Every byte alone, every two bytes, and rows of many lengths, against the library's sum and a long division.
func TestOfMany(t *testing.T) {
	for a := range 256 {
		one := []byte{byte(a)}
		if got := crc.Of(one); got != crc32.ChecksumIEEE(one) || got != byDivision(one) {
			t.Errorf("Of(%v) = %08x", one, got)
		}
		for b := range 256 {
			two := []byte{byte(a), byte(b)}
			if got := crc.Of(two); got != crc32.ChecksumIEEE(two) {
				t.Errorf("Of(%v) = %08x", two, got)
			}
		}
	}
	for n := range 600 {
		b := row(n)
		if got := crc.Of(b); got != crc32.ChecksumIEEE(b) || got != byDivision(b) {
			t.Errorf("Of of %d bytes = %08x", n, got)
		}
	}
	long := row(1<<20 + 3)
	if got := crc.Of(long); got != crc32.ChecksumIEEE(long) {
		t.Errorf("Of of %d bytes = %08x", len(long), got)
	}
}

// The sum as the chapter says it, of the package's own steps.
func TestOfBySteps(t *testing.T) {
	for _, n := range []int{0, 1, 2, 3, 4, 5, 8, 9, 64, 511, 512, 513} {
		c := uint32(math.MaxUint32)
		for _, next := range row(n) {
			c = c&^255 | (c&255 ^ uint32(next))
			for at := 0; at < 8; at++ {
				c = crc.Step(c)
			}
		}
		if got := crc.Of(row(n)); got != ^c {
			t.Errorf("Of of %d bytes = %08x, by steps %08x", n, got, ^c)
		}
	}
}

// P602

func TestMore(t *testing.T) {
	for _, c := range []struct {
		sum  uint32
		b    []byte
		want uint32
	}{
		{0, nil, 0},
		{0, []byte{}, 0},
		{0, []byte("123456789"), 0xcbf43926},
		{0xcbf43926, nil, 0xcbf43926},
		{math.MaxUint32, nil, math.MaxUint32},
		{math.MaxUint32, []byte{0}, math.MaxUint32},
		{0xff000000, []byte{255, 255, 255}, 0xffffffff},
	} {
		if got := crc.More(c.sum, c.b); got != c.want {
			t.Errorf("More(%08x, %v) = %08x, not %08x", c.sum, c.b, got, c.want)
		}
	}
}

// Whatever number comes in is the sum of some bytes: the library goes on from it likewise.
func TestMoreOfAnySum(t *testing.T) {
	for _, sum := range numbers() {
		for _, n := range []int{0, 1, 4, 9} {
			if got, want := crc.More(sum, row(n)), crc32.Update(sum, crc32.IEEETable, row(n)); got != want {
				t.Errorf("More(%08x, %v) = %08x, not %08x", sum, row(n), got, want)
			}
		}
	}
}

func TestBytes(t *testing.T) {
	for _, c := range []struct {
		b    []byte
		want []byte
	}{
		{[]byte("123456789"), []byte{0, 0, 0, 0, 0xcb, 0xf4, 0x39, 0x26}},
		{nil, make([]byte, 8)},
		{[]byte{}, make([]byte, 8)},
		{[]byte{255}, []byte{0, 0, 0, 0, 255, 0, 0, 0}},
		{[]byte{255, 255, 255, 255}, []byte{0, 0, 0, 0, 255, 255, 255, 255}},
	} {
		if got := crc.Bytes(c.b); !bytes.Equal(got, c.want) {
			t.Errorf("Bytes(%v) = %v, not %v", c.b, got, c.want)
		}
	}
	for n := range 100 {
		sum := crc32.ChecksumIEEE(row(n))
		want := []byte{0, 0, 0, 0, byte(sum >> 24), byte(sum >> 16), byte(sum >> 8), byte(sum)}
		if got := crc.Bytes(row(n)); !bytes.Equal(got, want) {
			t.Errorf("Bytes of %d bytes = %v, not %v", n, got, want)
		}
	}
}

// What comes in is neither changed nor kept, its spare room neither; what is told is new each time.
func TestMemory(t *testing.T) {
	room := bytes.Repeat([]byte{9}, 40)
	b := room[4:20]
	first := crc.Bytes(b)
	crc.Of(b)
	crc.More(5, b)
	if !bytes.Equal(room, bytes.Repeat([]byte{9}, 40)) {
		t.Errorf("what came in was changed: %v", room)
	}
	want := bytes.Clone(first)
	second := crc.Bytes(b)
	clear(first)
	if !bytes.Equal(second, want) || !bytes.Equal(crc.Bytes(b), want) {
		t.Error("two answers share memory")
	}
	b[0] = 1
	if !bytes.Equal(second, want) {
		t.Error("an answer shares memory with what came in")
	}
	b[0] = 9
	if !bytes.Equal(crc.Bytes(b), want) {
		t.Error("a sum hangs on what came ahead")
	}
}

// P603

// Wherever a row is cut, in two or in three, the sum is that of the whole.
func TestSumOfTwoRows(t *testing.T) {
	for n := range 40 {
		b := row(n)
		whole := crc.Of(b)
		for cut := range n + 1 {
			first := crc.More(crc.Of(b[:cut]), b[cut:])
			if first != whole {
				t.Errorf("%d bytes cut at %d: %08x, not %08x", n, cut, first, whole)
			}
			for behind := cut; behind <= n; behind++ {
				got := crc.More(crc.More(crc.Of(b[:cut]), b[cut:behind]), b[behind:])
				if got != whole {
					t.Errorf("%d bytes cut at %d and %d: %08x, not %08x", n, cut, behind, got, whole)
				}
			}
		}
	}
}

// With one byte another, at each place and of each value, the sum is another; so is that which begins with another sum.
func TestOneByteIsAnother(t *testing.T) {
	for _, n := range []int{1, 2, 3, 4, 5, 7, 8, 9, 32, 100, 512} {
		b := row(n)
		whole := crc.Of(b)
		for at := range b {
			was := b[at]
			for turn := 1; turn < 256; turn++ {
				b[at] = was ^ byte(turn)
				if crc.Of(b) == whole {
					t.Fatalf("%d bytes, at %d %d and not %d: the same sum", n, at, b[at], was)
				}
			}
			b[at] = was
		}
	}
	for _, sum := range numbers() {
		if sum != 7 && crc.More(sum, row(20)) == crc.More(7, row(20)) {
			t.Errorf("More of %08x is that of 7", sum)
		}
	}
}
