package gf_test

import (
	"math"
	"slices"
	"testing"

	"oubliette/gf"
)

// plain: the product as FIPS 197 says it, without doubling: all bits by all bits, and then the rest by x^8 + x^4 + x^3 + x + 1.
func plain(a, b byte) byte {
	long := 0
	for i := range 8 {
		for j := range 8 {
			if a>>i&1 == 1 && b>>j&1 == 1 {
				long ^= 1 << (i + j)
			}
		}
	}
	for at := 14; at >= 8; at-- {
		if long>>at&1 == 1 {
			long ^= 0x11b << (at - 8)
		}
	}
	return byte(long)
}

// products: Mul of each two numbers.
func products() *[256][256]byte {
	var out [256][256]byte
	for a := range 256 {
		for b := range 256 {
			out[a][b] = gf.Mul(byte(a), byte(b))
		}
	}
	return &out
}

// fips: the boxes of all numbers, as FIPS 197 has them in its figure 7.
func fips() [256]byte {
	return [256]byte{
		0x63, 0x7c, 0x77, 0x7b, 0xf2, 0x6b, 0x6f, 0xc5, 0x30, 0x01, 0x67, 0x2b, 0xfe, 0xd7, 0xab, 0x76,
		0xca, 0x82, 0xc9, 0x7d, 0xfa, 0x59, 0x47, 0xf0, 0xad, 0xd4, 0xa2, 0xaf, 0x9c, 0xa4, 0x72, 0xc0,
		0xb7, 0xfd, 0x93, 0x26, 0x36, 0x3f, 0xf7, 0xcc, 0x34, 0xa5, 0xe5, 0xf1, 0x71, 0xd8, 0x31, 0x15,
		0x04, 0xc7, 0x23, 0xc3, 0x18, 0x96, 0x05, 0x9a, 0x07, 0x12, 0x80, 0xe2, 0xeb, 0x27, 0xb2, 0x75,
		0x09, 0x83, 0x2c, 0x1a, 0x1b, 0x6e, 0x5a, 0xa0, 0x52, 0x3b, 0xd6, 0xb3, 0x29, 0xe3, 0x2f, 0x84,
		0x53, 0xd1, 0x00, 0xed, 0x20, 0xfc, 0xb1, 0x5b, 0x6a, 0xcb, 0xbe, 0x39, 0x4a, 0x4c, 0x58, 0xcf,
		0xd0, 0xef, 0xaa, 0xfb, 0x43, 0x4d, 0x33, 0x85, 0x45, 0xf9, 0x02, 0x7f, 0x50, 0x3c, 0x9f, 0xa8,
		0x51, 0xa3, 0x40, 0x8f, 0x92, 0x9d, 0x38, 0xf5, 0xbc, 0xb6, 0xda, 0x21, 0x10, 0xff, 0xf3, 0xd2,
		0xcd, 0x0c, 0x13, 0xec, 0x5f, 0x97, 0x44, 0x17, 0xc4, 0xa7, 0x7e, 0x3d, 0x64, 0x5d, 0x19, 0x73,
		0x60, 0x81, 0x4f, 0xdc, 0x22, 0x2a, 0x90, 0x88, 0x46, 0xee, 0xb8, 0x14, 0xde, 0x5e, 0x0b, 0xdb,
		0xe0, 0x32, 0x3a, 0x0a, 0x49, 0x06, 0x24, 0x5c, 0xc2, 0xd3, 0xac, 0x62, 0x91, 0x95, 0xe4, 0x79,
		0xe7, 0xc8, 0x37, 0x6d, 0x8d, 0xd5, 0x4e, 0xa9, 0x6c, 0x56, 0xf4, 0xea, 0x65, 0x7a, 0xae, 0x08,
		0xba, 0x78, 0x25, 0x2e, 0x1c, 0xa6, 0xb4, 0xc6, 0xe8, 0xdd, 0x74, 0x1f, 0x4b, 0xbd, 0x8b, 0x8a,
		0x70, 0x3e, 0xb5, 0x66, 0x48, 0x03, 0xf6, 0x0e, 0x61, 0x35, 0x57, 0xb9, 0x86, 0xc1, 0x1d, 0x9e,
		0xe1, 0xf8, 0x98, 0x11, 0x69, 0xd9, 0x8e, 0x94, 0x9b, 0x1e, 0x87, 0xe9, 0xce, 0x55, 0x28, 0xdf,
		0x8c, 0xa1, 0x89, 0x0d, 0xbf, 0xe6, 0x42, 0x68, 0x41, 0x99, 0x2d, 0x0f, 0xb0, 0x54, 0xbb, 0x16,
	}
}

// P1001

func TestTwice(t *testing.T) {
	for _, c := range []struct{ a, want byte }{
		{0, 0}, {1, 2}, {0x40, 0x80}, {0x7f, 0xfe}, {0x80, 0x1b}, {0x81, 0x19}, {0xff, 0xe5},
		{0x57, 0xae}, {0xae, 0x47}, {0x47, 0x8e}, {0x8e, 0x07}, // FIPS 197, 4.2.1
	} {
		if got := gf.Twice(c.a); got != c.want {
			t.Errorf("Twice(%02x) = %02x, not %02x", c.a, got, c.want)
		}
	}
}

func TestTwiceOfAll(t *testing.T) {
	for n := range 256 {
		want := 2 * n
		if want > 255 {
			want = (want - 256) ^ 0x1b
		}
		if got := gf.Twice(byte(n)); int(got) != want {
			t.Errorf("Twice(%02x) = %02x, not %02x", n, got, want)
		}
	}
}

func TestMul(t *testing.T) {
	for _, c := range []struct{ a, b, want byte }{
		{0x57, 0x83, 0xc1}, // FIPS 197, 4.2, and as the chapter has it
		{0x57, 0x13, 0xfe},
		{0x57, 0x10, 0x07},
		{0x53, 0xca, 0x01},
		{0, 0, 0}, {0, 0xff, 0}, {0xff, 0, 0},
		{1, 1, 1}, {1, 0xff, 0xff}, {0xff, 1, 0xff},
		{2, 0x80, 0x1b}, {0x80, 2, 0x1b}, {0x80, 0x80, 0x9a}, {0xff, 0xff, 0x13},
	} {
		if got := gf.Mul(c.a, c.b); got != c.want {
			t.Errorf("Mul(%02x, %02x) = %02x, not %02x", c.a, c.b, got, c.want)
		}
	}
}

// All products, against the field's own division and against the chapter's words.
func TestMulOfAll(t *testing.T) {
	for n := range 256 * 256 {
		a, b := byte(n>>8), byte(n)
		var sum byte
		for place := range 8 {
			if a>>place&1 == 0 {
				continue
			}
			doubled := b
			for range place {
				doubled = gf.Twice(doubled)
			}
			sum ^= doubled
		}
		if got := gf.Mul(a, b); got != plain(a, b) || got != sum {
			t.Errorf("Mul(%02x, %02x) = %02x, by division %02x, by doubling %02x", a, b, got, plain(a, b), sum)
		}
	}
}

func TestPower(t *testing.T) {
	for _, c := range []struct {
		a    byte
		n    int
		want byte
	}{
		{2, 0, 1}, {2, 1, 2}, {2, 7, 0x80}, {2, 8, 0x1b}, {2, 9, 0x36},
		{2, 255, 1}, {2, 256, 2}, {3, 1, 3}, {3, 2, 5}, {3, 255, 1}, {3, 256, 3},
		{0x53, 254, 0xca},
		{1, 254, 1}, {1, math.MaxInt, 1},
	} {
		if got := gf.Power(c.a, c.n); got != c.want {
			t.Errorf("Power(%02x, %d) = %02x, not %02x", c.a, c.n, got, c.want)
		}
	}
}

// So many a, one by one, of every number, from below 1 to behind the second 255.
func TestPowerOfAll(t *testing.T) {
	for n := range 256 {
		a := byte(n)
		want := byte(1)
		for so := 0; so <= 770; so++ {
			if got := gf.Power(a, so); got != want {
				t.Errorf("Power(%02x, %d) = %02x, not %02x", a, so, got, want)
			}
			want = plain(want, a)
		}
	}
}

func TestPowerBelowOne(t *testing.T) {
	for n := range 256 {
		for _, so := range []int{0, -1, -2, -254, -255, -256, -510, math.MinInt32, math.MinInt + 1, math.MinInt} {
			if got := gf.Power(byte(n), so); got != 1 {
				t.Errorf("Power(%02x, %d) = %02x, not 1", n, so, got)
			}
		}
	}
}

// Of a multiple of 255 above it 255 are left, not none: it makes a difference of 0.
func TestPowerOfZero(t *testing.T) {
	for _, so := range []int{1, 2, 254, 255, 256, 509, 510, 511, 765, 255 << 20, 255<<20 + 1, math.MaxInt - 1, math.MaxInt} {
		if got := gf.Power(0, so); got != 0 {
			t.Errorf("Power(0, %d) = %02x, not 0", so, got)
		}
	}
}

// As n less the greatest multiple of 255 below n.
func TestPowerAbove255(t *testing.T) {
	many := []int{256, 300, 509, 510, 511, 765, 766, 1 << 20, 255 << 20, 255<<20 + 1, math.MaxInt32, math.MaxInt - 255, math.MaxInt - 1, math.MaxInt}
	for n := range 256 {
		a := byte(n)
		for _, so := range many {
			left := so % 255
			if left == 0 {
				left = 255
			}
			want := byte(1)
			for range left {
				want = plain(want, a)
			}
			if got := gf.Power(a, so); got != want {
				t.Errorf("Power(%02x, %d) = %02x, not %02x", a, so, got, want)
			}
		}
	}
}

// P1002

func TestInverse(t *testing.T) {
	for _, c := range []struct{ a, want byte }{
		{0, 0}, {1, 1}, {2, 0x8d}, {3, 0xf6}, {0x53, 0xca}, {0xca, 0x53}, {0x95, 0x8a}, {0xff, 0x1c},
	} {
		if got := gf.Inverse(c.a); got != c.want {
			t.Errorf("Inverse(%02x) = %02x, not %02x", c.a, got, c.want)
		}
	}
}

// The only one of all numbers whose product is 1.
func TestInverseOfAll(t *testing.T) {
	for n := 1; n < 256; n++ {
		a := byte(n)
		for m := range 256 {
			one := plain(a, byte(m)) == 1
			if got := gf.Inverse(a); one != (got == byte(m)) {
				t.Errorf("Inverse(%02x) = %02x, and the product with %02x is %02x", a, got, m, plain(a, byte(m)))
			}
		}
		if back := gf.Inverse(gf.Inverse(a)); back != a {
			t.Errorf("Inverse of the Inverse of %02x = %02x", a, back)
		}
	}
}

func TestBox(t *testing.T) {
	table := fips()
	for n, want := range table {
		if got := gf.Box(byte(n)); got != want {
			t.Errorf("Box(%02x) = %02x, not %02x", n, got, want)
		}
	}
}

// The chapter's words, bit by bit: a bit that is turned left by so many comes from the one so many below.
func TestBoxByBits(t *testing.T) {
	for n := range 256 {
		from := gf.Inverse(byte(n))
		want := byte(0x63)
		for place := range 8 {
			for by := range 5 {
				bit := from >> ((place + 8 - by) % 8) & 1
				want ^= bit << place
			}
		}
		if got := gf.Box(byte(n)); got != want {
			t.Errorf("Box(%02x) = %02x, not %02x", n, got, want)
		}
	}
}

// mixed: the column by FIPS 197's matrix, whose rows are 2, 3, 1, 1 turned right.
func mixed(c [4]byte) [4]byte {
	matrix := [4][4]byte{{2, 3, 1, 1}, {1, 2, 3, 1}, {1, 1, 2, 3}, {3, 1, 1, 2}}
	var out [4]byte
	for at, row := range matrix {
		for from, factor := range row {
			out[at] ^= plain(factor, c[from])
		}
	}
	return out
}

func TestColumn(t *testing.T) {
	for _, c := range []struct{ c, want [4]byte }{
		{[4]byte{}, [4]byte{}},
		{[4]byte{0xdb, 0x13, 0x53, 0x45}, [4]byte{0x8e, 0x4d, 0xa1, 0xbc}},
		{[4]byte{0xf2, 0x0a, 0x22, 0x5c}, [4]byte{0x9f, 0xdc, 0x58, 0x9d}},
		{[4]byte{0xd4, 0xd4, 0xd4, 0xd5}, [4]byte{0xd5, 0xd5, 0xd7, 0xd6}},
		{[4]byte{0x2d, 0x26, 0x31, 0x4c}, [4]byte{0x4d, 0x7e, 0xbd, 0xf8}},
		{[4]byte{0xd4, 0xbf, 0x5d, 0x30}, [4]byte{0x04, 0x66, 0x81, 0xe5}}, // FIPS 197, appendix B
		{[4]byte{1, 0, 0, 0}, [4]byte{2, 1, 1, 3}},
		{[4]byte{0, 1, 0, 0}, [4]byte{3, 2, 1, 1}},
		{[4]byte{0, 0, 1, 0}, [4]byte{1, 3, 2, 1}},
		{[4]byte{0, 0, 0, 1}, [4]byte{1, 1, 3, 2}},
		{[4]byte{0xff, 0xff, 0xff, 0xff}, [4]byte{0xff, 0xff, 0xff, 0xff}},
	} {
		if got := gf.Column(c.c); got != c.want {
			t.Errorf("Column(%x) = %x, not %x", c.c, got, c.want)
		}
	}
}

// Each byte alone at each place, all four alike, and many without a rule, against FIPS 197's matrix.
func TestColumnOfMany(t *testing.T) {
	var many [][4]byte
	for n := range 256 {
		a := byte(n)
		many = append(many, [4]byte{a}, [4]byte{0, a}, [4]byte{0, 0, a}, [4]byte{0, 0, 0, a}, [4]byte{a, a, a, a})
	}
	n := uint32(7)
	for range 20000 {
		n = n*1664525 + 1013904223
		many = append(many, [4]byte{byte(n >> 24), byte(n >> 16), byte(n >> 8), byte(n)})
	}
	for _, c := range many {
		given := c
		if got, want := gf.Column(c), mixed(c); got != want {
			t.Errorf("Column(%x) = %x, not %x", c, got, want)
		}
		if c != given {
			t.Errorf("Column changed %x to %x", given, c)
		}
	}
}

// Four times mixed it is what it was: so says the matrix, of which the fourth power is 1.
func TestColumnFourTimes(t *testing.T) {
	n := uint32(11)
	for range 1000 {
		n = n*1664525 + 1013904223
		c := [4]byte{byte(n >> 24), byte(n >> 16), byte(n >> 8), byte(n)}
		back := c
		for range 4 {
			back = gf.Column(back)
		}
		if back != c {
			t.Errorf("Column of %x four times = %x", c, back)
		}
	}
}

// P1003

func TestProductsDontHangOnTheOrder(t *testing.T) {
	p := products()
	for a := range 256 {
		for b := range 256 {
			if p[a][b] != p[b][a] {
				t.Fatalf("%02x by %02x = %02x, not %02x", a, b, p[a][b], p[b][a])
			}
			ab := p[a][b]
			for c := range 256 {
				if p[ab][c] != p[a][p[b][c]] {
					t.Fatalf("(%02x by %02x) by %02x = %02x, not %02x", a, b, c, p[ab][c], p[a][p[b][c]])
				}
			}
		}
	}
}

func TestProductsGoOverSums(t *testing.T) {
	p := products()
	for a := range 256 {
		for b := range 256 {
			for c := range 256 {
				if p[a][b^c] != p[a][b]^p[a][c] {
					t.Fatalf("%02x by the sum of %02x and %02x = %02x, not %02x", a, b, c, p[a][b^c], p[a][b]^p[a][c])
				}
			}
		}
	}
}

// 1 changes nothing, 0 makes all 0, and by any other number each product comes once.
func TestEachQuotientIsOne(t *testing.T) {
	p := products()
	for a := range 256 {
		if int(p[1][a]) != a || p[0][a] != 0 {
			t.Errorf("1 by %02x = %02x, 0 by it = %02x", a, p[1][a], p[0][a])
		}
		row := slices.Clone(p[a][:])
		slices.Sort(row)
		if a > 0 && len(slices.Compact(row)) != 256 {
			t.Errorf("by %02x two products are one", a)
		}
	}
}

func TestPowersAddUp(t *testing.T) {
	for a := range 256 {
		for n := range 40 {
			for _, m := range []int{0, 1, 2, 39, 217, 254, 255, 256, 600} {
				got := gf.Power(byte(a), n+m)
				if want := gf.Mul(gf.Power(byte(a), n), gf.Power(byte(a), m)); got != want {
					t.Fatalf("Power(%02x, %d+%d) = %02x, not %02x", a, n, m, got, want)
				}
			}
		}
	}
}

// The powers of 3 are all numbers but 0.
func TestPowersOfThree(t *testing.T) {
	seen := map[byte]int{}
	for n := 1; n <= 255; n++ {
		seen[gf.Power(3, n)]++
	}
	if len(seen) != 255 || seen[0] != 0 {
		t.Errorf("the powers of 3 are %d numbers, 0 among them %d times", len(seen), seen[0])
	}
}
