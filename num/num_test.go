package num_test

import (
	"bytes"
	"math"
	"strings"
	"testing"

	"oubliette/api"
	"oubliette/num"
)

// numbers: the ends of each count of bytes, and what lies beside them.
func numbers() []uint64 {
	out := []uint64{0, 1, 9, 10, 127, 128, 258, 0x0123456789abcdef, 0xfedcba9876543210, math.MaxUint64 - 1, math.MaxUint64}
	for bits := 8; bits < 64; bits += 8 {
		end := uint64(1) << bits
		out = append(out, end-1, end, end+1)
	}
	return out
}

// P101

func TestPut(t *testing.T) {
	for _, c := range []struct {
		n    uint64
		size int
		want []byte
	}{
		{258, 2, []byte{1, 2}},
		{258, 3, []byte{0, 1, 2}},
		{258, 1, []byte{2}},
		{0, 1, []byte{0}},
		{0, 8, []byte{0, 0, 0, 0, 0, 0, 0, 0}},
		{255, 1, []byte{255}},
		{256, 1, []byte{0}},
		{256, 2, []byte{1, 0}},
		{0x10000ff00, 4, []byte{0, 0, 255, 0}},
		{0x0123456789abcdef, 8, []byte{0x01, 0x23, 0x45, 0x67, 0x89, 0xab, 0xcd, 0xef}},
		{0x0123456789abcdef, 7, []byte{0x23, 0x45, 0x67, 0x89, 0xab, 0xcd, 0xef}},
		{0x0123456789abcdef, 5, []byte{0x67, 0x89, 0xab, 0xcd, 0xef}},
		{math.MaxUint64, 8, []byte{255, 255, 255, 255, 255, 255, 255, 255}},
		{math.MaxUint64, 3, []byte{255, 255, 255}},
	} {
		if got := num.Put(c.n, c.size); !bytes.Equal(got, c.want) {
			t.Errorf("Put(%d, %d) = %v, not %v", c.n, c.size, got, c.want)
		}
	}
}

func TestPutOfSizesThatCanNotBe(t *testing.T) {
	for _, size := range []int{0, 9, 10, 16, 64, -1, -8, math.MaxInt, math.MinInt} {
		for _, n := range []uint64{0, 1, math.MaxUint64} {
			if got := num.Put(n, size); len(got) != 0 {
				t.Errorf("Put(%d, %d) = %v, not nothing", n, size, got)
			}
		}
	}
}

func TestGet(t *testing.T) {
	for _, c := range []struct {
		b    []byte
		want uint64
	}{
		{[]byte{0}, 0},
		{[]byte{255}, 255},
		{[]byte{1, 2}, 258},
		{[]byte{0, 1, 2}, 258},
		{[]byte{1, 0, 0}, 65536},
		{[]byte{0, 0, 0, 0, 0, 0, 0, 0}, 0},
		{[]byte{0x01, 0x23, 0x45, 0x67, 0x89, 0xab, 0xcd, 0xef}, 0x0123456789abcdef},
		{[]byte{128, 0, 0, 0, 0, 0, 0, 0}, 1 << 63},
		{[]byte{255, 255, 255, 255, 255, 255, 255, 255}, math.MaxUint64},
	} {
		if got, f := num.Get(c.b); got != c.want || f != api.OK {
			t.Errorf("Get(%v) = %d, %d, not %d, OK", c.b, got, f, c.want)
		}
	}
}

func TestGetOfTooFewOrTooMany(t *testing.T) {
	for _, b := range [][]byte{nil, {}, make([]byte, 9), {0, 0, 0, 0, 0, 0, 0, 0, 1}, {1, 2, 3, 4, 5, 6, 7, 8, 9}, make([]byte, 1000)} {
		if got, f := num.Get(b); got != 0 || f != api.Form {
			t.Errorf("Get of %d bytes = %d, %d, not 0, Form", len(b), got, f)
		}
	}
}

// P102

func TestPrint(t *testing.T) {
	for _, c := range []struct {
		n    int
		want string
	}{
		{0, "0"},
		{1, "1"},
		{9, "9"},
		{10, "10"},
		{70, "70"},
		{100, "100"},
		{1 << 30, "1073741824"},
		{math.MaxInt32, "2147483647"},
		{-1, ""},
		{-10, ""},
		{math.MinInt32, ""},
		{math.MinInt, ""},
	} {
		if got := num.Print(c.n); got != c.want {
			t.Errorf("Print(%d) = %q, not %q", c.n, got, c.want)
		}
	}
	if math.MaxInt > math.MaxInt32 {
		if got := num.Print(math.MaxInt); got != "9223372036854775807" {
			t.Errorf("Print of the greatest int = %q", got)
		}
	}
}

func TestParse(t *testing.T) {
	for _, c := range []struct {
		s    string
		most int
		want int
		f    api.Fault
	}{
		{"0", 9, 0, api.OK},
		{"0", 0, 0, api.OK},
		{"7", 9, 7, api.OK},
		{"9", 9, 9, api.OK},
		{"10", 9, 0, api.Range},
		{"10", 10, 10, api.OK},
		{"11", 10, 0, api.Range},
		{"1", 0, 0, api.Range},
		{"0", -1, 0, api.Range},
		{"1", -1, 0, api.Range},
		{"0", math.MinInt, 0, api.Range},
		{"1073741824", api.MaxCount, api.MaxCount, api.OK},
		{"1073741825", api.MaxCount, 0, api.Range},
		{"2147483647", math.MaxInt, math.MaxInt32, api.OK},
		{"999999999999999999", 5, 0, api.Range},
		{"100000000000000000", 5, 0, api.Range},
		{"", 9, 0, api.Syntax},
		{"07", 9, 0, api.Syntax},
		{"00", 9, 0, api.Syntax},
		{"007", 9, 0, api.Syntax},
		{"000000000000000000", 9, 0, api.Syntax},
		{"0000000000000000000", 9, 0, api.Syntax},
		{"1000000000000000000", math.MaxInt, 0, api.Syntax},
		{"9223372036854775807", math.MaxInt, 0, api.Syntax},
		{"18446744073709551616", math.MaxInt, 0, api.Syntax},
		{"18446744073709551617", 9, 0, api.Syntax},
		{strings.Repeat("1", 100), math.MaxInt, 0, api.Syntax},
		{"07", 3, 0, api.Syntax},
		{"99x", 9, 0, api.Syntax},
		{"x", 9, 0, api.Syntax},
		{"x", -1, 0, api.Syntax},
		{"", -1, 0, api.Syntax},
	} {
		if got, f := num.Parse(c.s, c.most); got != c.want || f != c.f {
			t.Errorf("Parse(%q, %d) = %d, %d, not %d, %d", c.s, c.most, got, f, c.want, c.f)
		}
	}
}

func TestParseOfEighteenDigits(t *testing.T) {
	if math.MaxInt == math.MaxInt32 {
		t.Skip("an int has no 18 digits here")
	}
	for _, c := range []struct {
		s    string
		less int
		want string
		f    api.Fault
	}{
		{"999999999999999999", 0, "999999999999999999", api.OK},
		{"100000000000000000", 0, "100000000000000000", api.OK},
		{"123456789012345678", 0, "123456789012345678", api.OK},
		{"999999999999999999", math.MaxInt - math.MaxInt32, "0", api.Range},
	} {
		if got, f := num.Parse(c.s, math.MaxInt-c.less); num.Print(got) != c.want || f != c.f {
			t.Errorf("Parse(%q) = %d, %d, not %s, %d", c.s, got, f, c.want, c.f)
		}
	}
}

// Every byte that is no digit is another sign, wherever it stands; so is a digit of other scripts.
func TestParseOfOtherSigns(t *testing.T) {
	for c := range 256 {
		if '0' <= c && c <= '9' {
			continue
		}
		sign := string([]byte{byte(c)})
		for _, s := range []string{sign, sign + "7", "7" + sign, "1" + sign + "7"} {
			if got, f := num.Parse(s, math.MaxInt); got != 0 || f != api.Syntax {
				t.Errorf("Parse(%q) = %d, %d, not 0, Syntax", s, got, f)
			}
		}
	}
	for _, s := range []string{"\u0667", "\uff17", "1_000", "0x10", "1e3", "-0", "+1"} {
		if got, f := num.Parse(s, math.MaxInt); got != 0 || f != api.Syntax {
			t.Errorf("Parse(%q) = %d, %d, not 0, Syntax", s, got, f)
		}
	}
}

// P103

func TestPad(t *testing.T) {
	for _, c := range []struct {
		b    []byte
		size int
		want []byte
	}{
		{[]byte{1, 2}, 3, []byte{1, 2, 0}},
		{[]byte{1, 2}, 2, []byte{1, 2}},
		{[]byte{1, 2}, 1, []byte{1}},
		{[]byte{1, 2, 3, 4}, 2, []byte{1, 2}},
		{nil, 1, []byte{0}},
		{nil, 4, []byte{0, 0, 0, 0}},
		{[]byte{}, 2, []byte{0, 0}},
		{[]byte{0, 7}, 4, []byte{0, 7, 0, 0}},
	} {
		if got := num.Pad(c.b, c.size); !bytes.Equal(got, c.want) {
			t.Errorf("Pad(%v, %d) = %v, not %v", c.b, c.size, got, c.want)
		}
	}
}

func TestPadAtTheLimit(t *testing.T) {
	got := num.Pad([]byte{5, 6}, 65536)
	if len(got) != 65536 || !bytes.Equal(got[:2], []byte{5, 6}) || !bytes.Equal(got[2:], make([]byte, 65534)) {
		t.Errorf("Pad to 65536: %d bytes, from %v on", len(got), got[:min(4, len(got))])
	}
	if got := num.Pad(bytes.Repeat([]byte{3}, 70000), 65536); !bytes.Equal(got, bytes.Repeat([]byte{3}, 65536)) {
		t.Errorf("Pad of 70000 bytes to 65536: %d bytes", len(got))
	}
	for _, size := range []int{0, -1, 65537, 70000, math.MaxInt32, math.MinInt32, math.MaxInt, math.MinInt} {
		if got := num.Pad([]byte{1, 2}, size); len(got) != 0 {
			t.Errorf("Pad to %d: %d bytes, not nothing", size, len(got))
		}
	}
}

// What stands in the spare room of a row is none of its bytes.
func TestPadLeavesSpareRoomAlone(t *testing.T) {
	whole := []byte{1, 2, 3, 4}
	if got := num.Pad(whole[:2], 4); !bytes.Equal(got, []byte{1, 2, 0, 0}) {
		t.Errorf("Pad took what lies in the spare room: %v", got)
	}
	if !bytes.Equal(whole, []byte{1, 2, 3, 4}) {
		t.Errorf("Pad changed what was handed in: %v", whole)
	}
}

func TestSame(t *testing.T) {
	for _, c := range []struct {
		a, b []byte
		want bool
	}{
		{nil, nil, true},
		{nil, []byte{}, true},
		{[]byte{}, nil, true},
		{[]byte{1, 2}, []byte{1, 2}, true},
		{[]byte{1, 2}, []byte{1, 3}, false},
		{[]byte{1, 2}, []byte{2, 2}, false},
		{[]byte{1, 2}, []byte{2, 1}, false},
		{[]byte{1, 2}, []byte{1}, false},
		{[]byte{1}, []byte{1, 2}, false},
		{[]byte{1}, []byte{1, 0}, false},
		{[]byte{0, 1}, []byte{1}, false},
		{[]byte{0}, nil, false},
		{nil, []byte{0}, false},
	} {
		if got := num.Same(c.a, c.b); got != c.want {
			t.Errorf("Same(%v, %v) = %v", c.a, c.b, got)
		}
	}
	long := bytes.Repeat([]byte{9}, 300)
	for at := range long {
		other := bytes.Clone(long)
		other[at] ^= 0x80
		if num.Same(long, other) {
			t.Errorf("Same overlooks byte %d", at)
		}
	}
}

func TestXor(t *testing.T) {
	for _, c := range []struct {
		a, b, want []byte
	}{
		{[]byte{1, 2}, []byte{3}, []byte{2}},
		{[]byte{3}, []byte{1, 2}, []byte{2}},
		{[]byte{0x0f, 0xf0, 0xff}, []byte{0xff, 0xff, 0xff}, []byte{0xf0, 0x0f, 0}},
		{[]byte{1, 2, 3}, []byte{1, 2, 3}, []byte{0, 0, 0}},
		{[]byte{0x81, 0x42}, []byte{0, 0}, []byte{0x81, 0x42}},
		{[]byte{6}, []byte{3}, []byte{5}},
		{nil, nil, nil},
		{nil, []byte{1}, nil},
		{[]byte{1}, []byte{}, nil},
	} {
		if got := num.Xor(c.a, c.b); !bytes.Equal(got, c.want) {
			t.Errorf("Xor(%v, %v) = %v, not %v", c.a, c.b, got, c.want)
		}
	}
}

// What is handed out shares nothing with what was handed in, nor with a later answer.
func TestAnswersAreNewMemory(t *testing.T) {
	a, b := []byte{1, 2, 3}, []byte{4, 5, 6}
	for name, call := range map[string]func() []byte{
		"Put":         func() []byte { return num.Put(258, 3) },
		"Put of 0":    func() []byte { return num.Put(0, 3) },
		"Pad alike":   func() []byte { return num.Pad(a, 3) },
		"Pad shorter": func() []byte { return num.Pad(a, 2) },
		"Pad longer":  func() []byte { return num.Pad(a, 5) },
		"Xor":         func() []byte { return num.Xor(a, b) },
	} {
		first := call()
		kept := bytes.Clone(first)
		for at := range first {
			first[at] ^= 0xff
		}
		if !bytes.Equal(a, []byte{1, 2, 3}) || !bytes.Equal(b, []byte{4, 5, 6}) {
			t.Fatalf("%s: the answer shares memory with an argument: %v, %v", name, a, b)
		}
		if !bytes.Equal(call(), kept) {
			t.Errorf("%s: answers share memory", name)
		}
	}
}

// P104

func TestBytesThereAndBack(t *testing.T) {
	for _, n := range numbers() {
		for size := 1; size <= 8; size++ {
			low := n
			if size < 8 {
				low = n % (1 << (8 * size))
			}
			if got, f := num.Get(num.Put(n, size)); got != low || f != api.OK {
				t.Errorf("Get(Put(%d, %d)) = %d, %d, not %d, OK", n, size, got, f, low)
			}
		}
	}
}

func TestRowsThereAndBack(t *testing.T) {
	for size := 1; size <= 8; size++ {
		for first := range 256 {
			b := make([]byte, size)
			for at := range b {
				b[at] = byte(first * (2*at + 1))
			}
			n, f := num.Get(b)
			if got := num.Put(n, size); f != api.OK || !bytes.Equal(got, b) {
				t.Errorf("Put(Get(%v)) = %v, %d", b, got, f)
			}
		}
	}
}

func TestDigitsThereAndBack(t *testing.T) {
	back := func(n int) {
		if got, f := num.Parse(num.Print(n), n); got != n || f != api.OK {
			t.Errorf("Parse(Print(%d)) = %d, %d", n, got, f)
		}
		if n == 0 {
			return
		}
		if got, f := num.Parse(num.Print(n), n-1); got != 0 || f != api.Range {
			t.Errorf("Parse(Print(%d), one less) = %d, %d, not 0, Range", n, got, f)
		}
	}
	for n := range 2000 {
		back(n)
	}
	for _, n := range numbers() {
		if n < 1e18 && n <= math.MaxInt {
			back(int(n))
		}
	}
	for n := int64(1); n < 1e18 && n <= math.MaxInt; n *= 10 {
		back(int(n))
		back(int(n - 1))
	}
}
