package hex_test

import (
	"bytes"
	other "encoding/hex"
	"math"
	"regexp"
	"slices"
	"strings"
	"testing"

	"oubliette/api"
	"oubliette/hex"
)

// row: n bytes, each unlike those beside it.
func row(n int) []byte {
	out := make([]byte, n)
	for at := range out {
		out[at] = byte(at*37 + n)
	}
	return out
}

// P401

func TestPrint(t *testing.T) {
	for _, c := range []struct {
		b    []byte
		want string
	}{
		{[]byte{0, 255}, "00ff"},
		{nil, ""},
		{[]byte{}, ""},
		{[]byte{0}, "00"},
		{[]byte{9}, "09"},
		{[]byte{10}, "0a"},
		{[]byte{15}, "0f"},
		{[]byte{16}, "10"},
		{[]byte{0x99, 0x9a, 0xa9, 0xaa}, "999aa9aa"},
		{[]byte{0x01, 0x23, 0x45, 0x67, 0x89, 0xab, 0xcd, 0xef}, "0123456789abcdef"},
		{[]byte{0, 0, 0}, "000000"},
	} {
		if got := hex.Print(c.b); got != c.want {
			t.Errorf("Print(%v) = %q, not %q", c.b, got, c.want)
		}
	}
}

// Every byte alone, and rows of many lengths, against the library's digits.
func TestPrintOfEveryByte(t *testing.T) {
	for c := range 256 {
		b := []byte{byte(c)}
		if got := hex.Print(b); got != other.EncodeToString(b) {
			t.Errorf("Print(%v) = %q", b, got)
		}
	}
	for _, n := range []int{1, 2, 31, 32, 33, 64, 65, 511, 512, 513, 70000} {
		if got := hex.Print(row(n)); got != other.EncodeToString(row(n)) {
			t.Errorf("Print of %d bytes is not their digits", n)
		}
	}
}

func TestParse(t *testing.T) {
	for _, c := range []struct {
		s    string
		want []byte
		at   int
		f    api.Fault
	}{
		{"00ff", []byte{0, 255}, 0, api.OK},
		{"", nil, 0, api.OK},
		{"00", []byte{0}, 0, api.OK},
		{"0a", []byte{10}, 0, api.OK},
		{"a0", []byte{160}, 0, api.OK},
		{"0123456789abcdef", []byte{0x01, 0x23, 0x45, 0x67, 0x89, 0xab, 0xcd, 0xef}, 0, api.OK},
		{"000000", []byte{0, 0, 0}, 0, api.OK},
		// odd
		{"0", nil, 1, api.Syntax},
		{"f", nil, 1, api.Syntax},
		{"000", nil, 3, api.Syntax},
		{"12345", nil, 5, api.Syntax},
		// another sign
		{"0g", nil, 1, api.Syntax},
		{"g0", nil, 0, api.Syntax},
		{"gg", nil, 0, api.Syntax},
		{"00g0", nil, 2, api.Syntax},
		{"000g", nil, 3, api.Syntax},
		{"0A", nil, 1, api.Syntax},
		{"FF", nil, 0, api.Syntax},
		{"0x00", nil, 1, api.Syntax},
		{"00 ff", nil, 2, api.Syntax},
		{" 00", nil, 0, api.Syntax},
		{"00 ", nil, 2, api.Syntax},
		{"00\n", nil, 2, api.Syntax},
		{"-1", nil, 0, api.Syntax},
		{"000..", nil, 3, api.Syntax},
		// another sign, of several the first one
		{"0gzz", nil, 1, api.Syntax},
		{"00zg00", nil, 2, api.Syntax},
		// another sign and odd: the sign's place
		{"g", nil, 0, api.Syntax},
		{"0g0", nil, 1, api.Syntax},
		{"00g", nil, 2, api.Syntax},
		{"g00", nil, 0, api.Syntax},
		{"0000g0000", nil, 4, api.Syntax},
		// signs of several bytes, and bytes that are none
		{"\u00e9", nil, 0, api.Syntax},
		{"0\u00e9", nil, 1, api.Syntax},
		{"00\uff11", nil, 2, api.Syntax},
		{"00\u0661", nil, 2, api.Syntax},
		{"00\U0001f600", nil, 2, api.Syntax},
		{"00\xff", nil, 2, api.Syntax},
		{"000\xc3", nil, 3, api.Syntax},
		{"\x00\x00", nil, 0, api.Syntax},
	} {
		got, at, f := hex.Parse(c.s)
		if !bytes.Equal(got, c.want) || at != c.at || f != c.f {
			t.Errorf("Parse(%q) = %v, %d, %d, not %v, %d, %d", c.s, got, at, f, c.want, c.at, c.f)
		}
	}
}

// Every pair of bytes: two digits are a byte, all else is told by the first sign that is none.
func TestParseOfEveryPair(t *testing.T) {
	digits := regexp.MustCompile(`^[0-9a-f]$`)
	var right [256]bool
	for c := range right {
		right[c] = digits.MatchString(string(rune(c)))
	}
	for c := range 256 {
		for d := range 256 {
			s := string([]byte{byte(c), byte(d)})
			got, at, f := hex.Parse(s)
			switch {
			case !right[c]:
				if len(got) != 0 || at != 0 || f != api.Syntax {
					t.Fatalf("Parse(%q) = %v, %d, %d", s, got, at, f)
				}
			case !right[d]:
				if len(got) != 0 || at != 1 || f != api.Syntax {
					t.Fatalf("Parse(%q) = %v, %d, %d", s, got, at, f)
				}
			default:
				want, _ := other.DecodeString(s)
				if !bytes.Equal(got, want) || at != 0 || f != api.OK {
					t.Fatalf("Parse(%q) = %v, %d, %d", s, got, at, f)
				}
			}
		}
	}
}

// One sign that is none, at every place of texts of even and odd lengths.
func TestParseTellsTheFirstPlace(t *testing.T) {
	for n := 1; n <= 70; n++ {
		good := strings.Repeat("c", n)
		got, at, f := hex.Parse(good)
		if n%2 == 0 && (len(got) != n/2 || at != 0 || f != api.OK) {
			t.Errorf("Parse of %d signs = %v, %d, %d", n, got, at, f)
		}
		if n%2 == 1 && (len(got) != 0 || at != n || f != api.Syntax) {
			t.Errorf("Parse of %d signs = %v, %d, %d", n, got, at, f)
		}
		for bad := range n {
			for _, tail := range []string{good[bad+1:], strings.Repeat("z", n-bad-1)} {
				s := good[:bad] + "G" + tail
				if got, at, f := hex.Parse(s); len(got) != 0 || at != bad || f != api.Syntax {
					t.Errorf("Parse(%q) = %v, %d, %d, not nothing, %d, Syntax", s, got, at, f, bad)
				}
			}
		}
	}
}

func TestParseOfLongTexts(t *testing.T) {
	s := strings.Repeat("0f", 70000)
	if got, at, f := hex.Parse(s); !bytes.Equal(got, bytes.Repeat([]byte{15}, 70000)) || at != 0 || f != api.OK {
		t.Errorf("Parse of %d signs: %d bytes, %d, %d", len(s), len(got), at, f)
	}
	if got, at, f := hex.Parse(s + "0"); len(got) != 0 || at != 140001 || f != api.Syntax {
		t.Errorf("Parse of %d signs: %d bytes, %d, %d", len(s)+1, len(got), at, f)
	}
	if got, at, f := hex.Parse(s + "/"); len(got) != 0 || at != 140000 || f != api.Syntax {
		t.Errorf("Parse of %d signs, and another: %d bytes, %d, %d", len(s), len(got), at, f)
	}
}

// P402

func TestRows(t *testing.T) {
	for _, c := range []struct {
		b    []byte
		wide int
		want []string
	}{
		{[]byte{1, 2, 3}, 2, []string{"0102", "03"}},
		{[]byte{1, 2, 3}, 1, []string{"01", "02", "03"}},
		{[]byte{1, 2, 3}, 3, []string{"010203"}},
		{[]byte{1, 2, 3}, 4, []string{"010203"}},
		{[]byte{1, 2, 3}, 64, []string{"010203"}},
		{[]byte{1, 2, 3, 4}, 2, []string{"0102", "0304"}},
		{[]byte{0xab}, 1, []string{"ab"}},
		{nil, 1, nil},
		{[]byte{}, 64, nil},
		{nil, 0, nil},
	} {
		if got := hex.Rows(c.b, c.wide); !slices.Equal(got, c.want) {
			t.Errorf("Rows(%v, %d) = %q, not %q", c.b, c.wide, got, c.want)
		}
	}
}

// All widths that may be, and rows that end at a whole one, ahead of it and behind it.
func TestRowsOfEveryWidth(t *testing.T) {
	for wide := 1; wide <= 64; wide++ {
		for n := range 200 {
			b := row(n)
			got := hex.Rows(b, wide)
			if len(got) != (n+wide-1)/wide {
				t.Fatalf("Rows of %d bytes, %d wide: %d rows", n, wide, len(got))
			}
			for at, s := range got {
				if want := other.EncodeToString(b[at*wide : min(n, (at+1)*wide)]); s != want {
					t.Fatalf("Rows of %d bytes, %d wide: row %d is %q, not %q", n, wide, at, s, want)
				}
			}
		}
	}
}

func TestRowsOfWidthsThatMayNotBe(t *testing.T) {
	for _, wide := range []int{0, -1, -2, -64, 65, 66, 128, 1000, math.MaxInt32, math.MinInt32, math.MaxInt, math.MinInt} {
		for _, n := range []int{0, 1, 3, 64, 65, 200} {
			if got := hex.Rows(row(n), wide); len(got) != 0 {
				t.Errorf("Rows of %d bytes, %d wide: %q, not nothing", n, wide, got)
			}
		}
	}
}

func TestShort(t *testing.T) {
	for _, c := range []struct {
		b    []byte
		want string
	}{
		{nil, ""},
		{[]byte{}, ""},
		{[]byte{1}, "01"},
		{[]byte{1, 2}, "0102"},
		{[]byte{1, 2, 3}, "010203"},
		{[]byte{1, 2, 3, 4}, "01020304"},
		{[]byte{1, 2, 3, 4, 5}, "010203.."},
		{[]byte{0xff, 0, 0xab, 0xcd, 0xef, 1}, "ff00ab.."},
		{make([]byte, 1000), "000000.."},
	} {
		if got := hex.Short(c.b); got != c.want {
			t.Errorf("Short(%v) = %q, not %q", c.b, got, c.want)
		}
	}
	for n := 5; n < 70; n++ {
		if got, want := hex.Short(row(n)), hex.Print(row(n))[:6]+".."; got != want {
			t.Errorf("Short of %d bytes = %q, not %q", n, got, want)
		}
	}
}

// P403

func TestBytesThereAndBack(t *testing.T) {
	back := func(b []byte) {
		t.Helper()
		if got, at, f := hex.Parse(hex.Print(b)); !bytes.Equal(got, b) || at != 0 || f != api.OK {
			t.Errorf("Parse(Print(%v)) = %v, %d, %d", b, got, at, f)
		}
	}
	for n := range 300 {
		back(row(n))
	}
	for c := range 256 {
		for d := range 256 {
			back([]byte{byte(c), byte(d)})
		}
	}
}

func TestTextsThereAndBack(t *testing.T) {
	texts := []string{""}
	for range 4 {
		var longer []string
		for _, s := range texts {
			if b, _, f := hex.Parse(s); len(s)%2 == 0 && (f != api.OK || hex.Print(b) != s) {
				t.Errorf("Print(Parse(%q)) = %q, %d", s, hex.Print(b), f)
			}
			for _, sign := range "0123456789abcdef" {
				longer = append(longer, s+string(sign))
			}
		}
		texts = longer
	}
	for _, s := range texts {
		if b, _, f := hex.Parse(s); f != api.OK || hex.Print(b) != s {
			t.Errorf("Print(Parse(%q)) = %q, %d", s, hex.Print(b), f)
		}
	}
}

func TestRowsThereAndBack(t *testing.T) {
	for wide := 1; wide <= 64; wide++ {
		for _, n := range []int{0, 1, 2, 63, 64, 65, 128, 199} {
			b := row(n)
			s := strings.Join(hex.Rows(b, wide), "")
			if got, at, f := hex.Parse(s); s != hex.Print(b) || !bytes.Equal(got, b) || at != 0 || f != api.OK {
				t.Errorf("Parse of the rows of %d bytes, %d wide = %v, %d, %d", n, wide, got, at, f)
			}
		}
	}
}

// What is handed in stays as it was, its spare room too, and none of that room is told.
func TestRowsOfBytesAreLeftAlone(t *testing.T) {
	whole := row(12)
	part := whole[:5]
	if got := hex.Print(part); got != other.EncodeToString(row(12)[:5]) {
		t.Errorf("Print of the first five = %q", got)
	}
	if got := hex.Rows(part, 3); !slices.Equal(got, []string{hex.Print(row(12)[:3]), hex.Print(row(12)[3:5])}) {
		t.Errorf("Rows of the first five = %q", got)
	}
	if got := hex.Short(part[:4]); got != other.EncodeToString(row(12)[:4]) {
		t.Errorf("Short of the first four = %q", got)
	}
	hex.Short(part)
	if !bytes.Equal(whole, row(12)) {
		t.Errorf("the bytes are now %v", whole)
	}
}

func TestAnswersAreNewMemory(t *testing.T) {
	first, _, _ := hex.Parse("0102")
	second, _, _ := hex.Parse("0102")
	clear(first)
	if third, _, _ := hex.Parse("0102"); !bytes.Equal(second, []byte{1, 2}) || !bytes.Equal(third, []byte{1, 2}) {
		t.Errorf("Parse's answers share memory: %v, %v", second, third)
	}
	rows := hex.Rows([]byte{1, 2, 3}, 2)
	again := hex.Rows([]byte{1, 2, 3}, 2)
	clear(rows)
	if want := []string{"0102", "03"}; !slices.Equal(again, want) || !slices.Equal(hex.Rows([]byte{1, 2, 3}, 2), want) {
		t.Errorf("Rows' answers share memory: %q", again)
	}
	b := []byte{1, 2, 3}
	s, short, list := hex.Print(b), hex.Short(b), hex.Rows(b, 2)
	clear(b)
	if s != "010203" || short != "010203" || !slices.Equal(list, []string{"0102", "03"}) {
		t.Errorf("texts share memory with the bytes: %q, %q, %q", s, short, list)
	}
}
