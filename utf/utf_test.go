package utf_test

import (
	"math"
	"slices"
	"strings"
	"testing"

	"oubliette/api"
	"oubliette/utf"
)

const lastRune = 0x10ffff

// legal: whether a rune may be r.
func legal(r int) bool {
	return 0 <= r && r <= lastRune && (r < 0xd800 || r > 0xdfff)
}

// bytesOf: the bytes of r, as few as can be, put together by hand.
func bytesOf(r int) string {
	low := func(shift int) byte { return byte(0x80 | r>>shift&0x3f) }
	switch {
	case r < 0x80:
		return string([]byte{byte(r)})
	case r < 0x800:
		return string([]byte{byte(0xc0 | r>>6), low(0)})
	case r < 0x10000:
		return string([]byte{byte(0xe0 | r>>12), low(6), low(0)})
	}
	return string([]byte{byte(0xf0 | r>>18), low(12), low(6), low(0)})
}

// edges: the ends of each count of bytes and of the gap, of the letters, and the rune by which broken bytes are told elsewhere.
func edges() []rune {
	return []rune{0, 1, '0', '@', 'A', 'Z', '[', '`', 'a', 'z', '{', 0x7f, 0x80, 0xbf, 0xc0, 0xd6, 0xd7, 0xd8, 0xde, 0xdf, 0xe0, 0xf6, 0xf7, 0xf8, 0xff, 0x100, 0x7ff, 0x800, 0xd7ff, 0xe000, 0xfffc, 0xfffd, 0xfffe, 0xffff, 0x10000, 0x3ffff, 0x40000, 0x10fffe, lastRune}
}

// brokenBytes: bytes that are no rune's, at their beginning.
func brokenBytes() []string {
	return []string{
		"\x80", "\xbf", "\xff", "\xfe", // none begins so
		"\xc0\x80", "\xc1\xbf", "\xe0\x80\x80", "\xe0\x9f\xbf", "\xf0\x80\x80\x80", "\xf0\x8f\xbf\xbf", // not as few as can be
		"\xed\xa0\x80", "\xed\xbf\xbf", "\xed\xa0\xbd\xed\xb8\x80", // from d800 to dfff
		"\xf4\x90\x80\x80", "\xf5\x80\x80\x80", "\xf8\x88\x80\x80\x80", // beyond 10ffff
		"\xc3", "\xe2", "\xe2\x82", "\xf0", "\xf0\x9f", "\xf0\x9f\x98", // cut off
		"\xc3A", "\xe2\x82A", "\xe2A", "\xf0\x9f\x98A", "\xf0\x9fA", "\xf0A", // other bytes go on
		"\xc3\xc3\xa9", "\xe2\x82\xe2\x82\xac", "\xef\xbf", "\xef\xbfA",
	}
}

// P201

func TestRunes(t *testing.T) {
	for _, c := range []struct {
		s    string
		want []rune
	}{
		{"", nil},
		{"a", []rune{'a'}},
		{"a\u00e9", []rune{97, 0xe9}},
		{"\x00\x7f", []rune{0, 0x7f}},
		{"\xc2\x80\xdf\xbf", []rune{0x80, 0x7ff}},
		{"\xe0\xa0\x80\xef\xbf\xbf", []rune{0x800, 0xffff}},
		{"\xed\x9f\xbf\xee\x80\x80", []rune{0xd7ff, 0xe000}},
		{"\xf0\x90\x80\x80\xf4\x8f\xbf\xbf", []rune{0x10000, lastRune}},
		{"\xef\xbf\xbd", []rune{0xfffd}},
		{"a\xef\xbf\xbdb", []rune{'a', 0xfffd, 'b'}},
		{"e\xcc\x81", []rune{'e', 0x301}},
	} {
		got, at, f := utf.Runes(c.s)
		if !slices.Equal(got, c.want) || at != 0 || f != api.OK {
			t.Errorf("Runes(%q) = %x, %d, %d, not %x, 0, OK", c.s, got, at, f, c.want)
		}
	}
}

func TestRunesOfBytesThatAreNone(t *testing.T) {
	for _, bad := range brokenBytes() {
		for _, ahead := range []string{"", "a", "ab", "\u00e9", "\u20ac\U0001f600", "\ufffd"} {
			for _, behind := range []string{"", "z", "\u00e9", "\xff"} {
				s := ahead + bad + behind
				if got, at, f := utf.Runes(s); len(got) != 0 || at != len(ahead) || f != api.Form {
					t.Errorf("Runes(%q) = %x, %d, %d, not nothing, %d, Form", s, got, at, f, len(ahead))
				}
			}
		}
	}
}

// Each two bytes are two runes, or one, or none, as the words say.
func TestRunesOfEveryTwoBytes(t *testing.T) {
	for first := range 256 {
		for second := range 256 {
			s := string([]byte{byte(first), byte(second)})
			var want []rune
			at, fault := 0, api.OK
			switch pair := first&0x1f<<6 | second&0x3f; {
			case first < 0x80 && second < 0x80:
				want = []rune{rune(first), rune(second)}
			case first < 0x80:
				at, fault = 1, api.Form
			case first >= 0xc2 && first < 0xe0 && second&0xc0 == 0x80:
				want = []rune{rune(pair)}
			default:
				fault = api.Form
			}
			if got, where, f := utf.Runes(s); !slices.Equal(got, want) || where != at || f != fault {
				t.Fatalf("Runes(%q) = %x, %d, %d, not %x, %d, %d", s, got, where, f, want, at, fault)
			}
		}
	}
}

func TestText(t *testing.T) {
	for _, c := range []struct {
		l    []rune
		want string
	}{
		{nil, ""},
		{[]rune{}, ""},
		{[]rune{65, 0xe9}, "A\xc3\xa9"},
		{[]rune{0}, "\x00"},
		{[]rune{0xfffd, 0x20ac}, "\xef\xbf\xbd\xe2\x82\xac"},
		{[]rune{0xd7ff, 0xe000}, "\xed\x9f\xbf\xee\x80\x80"},
		{[]rune{lastRune}, "\xf4\x8f\xbf\xbf"},
	} {
		if got, at, f := utf.Text(c.l); got != c.want || at != 0 || f != api.OK {
			t.Errorf("Text(%x) = %q, %d, %d, not %q, 0, OK", c.l, got, at, f, c.want)
		}
	}
}

func TestTextOfWhatMayNotBe(t *testing.T) {
	for _, bad := range []rune{-1, -2, 0xd800, 0xd801, 0xdbff, 0xdc00, 0xdfff, 0x110000, 0x110001, math.MaxInt32, math.MinInt32} {
		for _, c := range []struct {
			l  []rune
			at int
		}{
			{[]rune{bad}, 0},
			{[]rune{'a', bad}, 1},
			{[]rune{0x20ac, 0xe9, bad, 'a'}, 2},
			{[]rune{'a', bad, 'b', bad}, 1},
			{[]rune{bad, 'b', -7}, 0},
		} {
			if got, at, f := utf.Text(c.l); got != "" || at != c.at || f != api.Form {
				t.Errorf("Text(%x) = %q, %d, %d, not nothing, %d, Form", c.l, got, at, f, c.at)
			}
		}
	}
}

// P202

func TestCount(t *testing.T) {
	for _, c := range []struct {
		s    string
		want int
	}{
		{"", 0},
		{"a", 1},
		{"a\u00e9", 2},
		{"\u00e9\u20ac\U0001f600", 3},
		{"\ufffd", 1},
		{"e\u0301", 2},
		{"\x00\x00", 2},
		{strings.Repeat("\U0001f600", 5000), 5000},
	} {
		if got := utf.Count(c.s); got != c.want {
			t.Errorf("Count(%q) = %d, not %d", c.s, got, c.want)
		}
	}
	for _, bad := range brokenBytes() {
		for _, s := range []string{bad, "ab" + bad, bad + "z"} {
			if got := utf.Count(s); got != -1 {
				t.Errorf("Count(%q) = %d, not -1", s, got)
			}
		}
	}
}

func TestCut(t *testing.T) {
	const s = "\u00e9a\u20ac\ufffd\U0001f600"
	for _, c := range []struct {
		s    string
		n    int
		want string
	}{
		{"\u00e9ab", 1, "\u00e9"},
		{s, 1, "\u00e9"},
		{s, 2, "\u00e9a"},
		{s, 3, "\u00e9a\u20ac"},
		{s, 4, "\u00e9a\u20ac\ufffd"},
		{s, 5, s},
		{s, 6, s},
		{s, len(s), s},
		{s, math.MaxInt, s},
		{s, 0, ""},
		{s, -1, ""},
		{s, math.MinInt, ""},
		{"", 1, ""},
		{"", 0, ""},
		{"", -1, ""},
	} {
		if got := utf.Cut(c.s, c.n); got != c.want {
			t.Errorf("Cut(%q, %d) = %q, not %q", c.s, c.n, got, c.want)
		}
	}
}

// Bytes that are none spoil a text also behind its first runes.
func TestCutOfBytesThatAreNone(t *testing.T) {
	for _, bad := range brokenBytes() {
		for _, s := range []string{bad, "ab" + bad, "abc" + bad + "z"} {
			for _, n := range []int{-1, 0, 1, 2, 3, 4, 10, math.MaxInt} {
				if got := utf.Cut(s, n); got != "" {
					t.Errorf("Cut(%q, %d) = %q, not nothing", s, n, got)
				}
			}
		}
	}
}

// P203

func TestLetters(t *testing.T) {
	is := func(r rune, large, letter bool) {
		t.Helper()
		if utf.Upper(r) != large || utf.Letter(r) != letter {
			t.Errorf("Upper(%x), Letter(%x) = %v, %v, not %v, %v", r, r, utf.Upper(r), utf.Letter(r), large, letter)
		}
	}
	for r := rune(-300); r < 0x3000; r++ {
		large := strings.ContainsRune("ABCDEFGHIJKLMNOPQRSTUVWXYZ", r) || r >= 0xc0 && r <= 0xd6 || r >= 0xd8 && r <= 0xde
		small := strings.ContainsRune("abcdefghijklmnopqrstuvwxyz", r) || r >= 0xdf && r <= 0xf6 || r >= 0xf8 && r <= 0xff
		if r == 0xfffd || r < 0 { // ContainsRune takes what is none for a mark of its own
			large, small = false, false
		}
		is(r, large, large || small)
	}
	for _, r := range []rune{0xd7, 0xf7, 0xaa, 0xb5, 0xba, 0x100, 0x178, 0x391, 0x3b1, 0x410, 0xd800, 0xfffd, 0x10400, lastRune, 0x110041, math.MaxInt32, math.MinInt32, math.MinInt32 + 'A', 1<<16 + 'A', 1<<8 + 'A', 1<<8 + 0xc0} {
		is(r, false, false)
	}
}

func TestFold(t *testing.T) {
	for _, c := range []struct{ s, want string }{
		{"A\u00c4\u00f7", "a\u00e4\u00f7"},
		{"A\u00c47", "a\u00e47"},
		{"", ""},
		{"abcxyz 0189", "abcxyz 0189"},
		{"ABCDEFGHIJKLMNOPQRSTUVWXYZ", "abcdefghijklmnopqrstuvwxyz"},
		{"@[`{", "@[`{"},
		{"\u00bf\u00c0\u00d6\u00d7\u00d8\u00de\u00df\u00e0", "\u00bf\u00e0\u00f6\u00d7\u00f8\u00fe\u00df\u00e0"},
		{"\u0100\u0391\u0410\u0130\u212a\u1e9e", "\u0100\u0391\u0410\u0130\u212a\u1e9e"},
		{"\ufffdA\U0001f600", "\ufffda\U0001f600"},
		{"\x00A\x00", "\x00a\x00"},
	} {
		if got := utf.Fold(c.s); got != c.want {
			t.Errorf("Fold(%q) = %q, not %q", c.s, got, c.want)
		}
	}
	for r := rune(0); r < 0x300; r++ {
		want := r
		if utf.Upper(r) {
			want += 32
		}
		if got := utf.Fold("x" + string(r) + "Y"); got != "x"+string(want)+"y" {
			t.Errorf("Fold of %x = %q", r, got)
		}
	}
}

func TestFoldOfBytesThatAreNone(t *testing.T) {
	for _, bad := range brokenBytes() {
		for _, s := range []string{bad, "AB" + bad, bad + "Z"} {
			if got := utf.Fold(s); got != "" {
				t.Errorf("Fold(%q) = %q, not nothing", s, got)
			}
		}
	}
}

// P204

// Of every rune: its bytes are as few as can be, and there and back it is as it was; of what is none there is nothing.
func TestEveryRuneThereAndBack(t *testing.T) {
	for r := range lastRune + 2 {
		s, at, f := utf.Text([]rune{rune(r)})
		if !legal(r) {
			if s != "" || at != 0 || f != api.Form {
				t.Fatalf("Text of %x = %q, %d, %d, not nothing, 0, Form", r, s, at, f)
			}
			if r <= lastRune {
				if l, at, f := utf.Runes(bytesOf(r)); len(l) != 0 || at != 0 || f != api.Form {
					t.Fatalf("Runes of the bytes of %x = %x, %d, %d, not nothing, 0, Form", r, l, at, f)
				}
			}
			continue
		}
		if s != bytesOf(r) || at != 0 || f != api.OK {
			t.Fatalf("Text of %x = %q, %d, %d, not %q, 0, OK", r, s, at, f, bytesOf(r))
		}
		if l, at, f := utf.Runes(s); len(l) != 1 || l[0] != rune(r) || at != 0 || f != api.OK {
			t.Fatalf("Runes of the bytes of %x = %x, %d, %d", r, l, at, f)
		}
	}
}

func TestTextsThereAndBack(t *testing.T) {
	all := edges()
	for from := range all {
		for to := from; to <= len(all); to++ {
			l := all[from:to]
			s, _, f := utf.Text(l)
			if f != api.OK || utf.Count(s) != len(l) || utf.Cut(s, len(l)) != s {
				t.Fatalf("Text(%x) = %q, %d, of %d runes", l, s, f, utf.Count(s))
			}
			back, _, f := utf.Runes(s)
			if f != api.OK || !slices.Equal(back, l) {
				t.Fatalf("Runes(Text(%x)) = %x, %d", l, back, f)
			}
			if once := utf.Fold(s); utf.Fold(once) != once || utf.Count(once) != len(l) {
				t.Fatalf("Fold(%q) = %q, folded again %q", s, once, utf.Fold(once))
			}
			for n := range l {
				want, _, _ := utf.Text(l[:n])
				if got := utf.Cut(s, n); got != want {
					t.Fatalf("Cut(%q, %d) = %q, not %q", s, n, got, want)
				}
			}
		}
	}
}

// What is handed in stays as it was, its spare room too, and answers are new memory.
func TestListsAreNotShared(t *testing.T) {
	whole := []rune{'A', 'B', 'C', 'D'}
	if got, _, f := utf.Text(whole[:2]); got != "AB" || f != api.OK || !slices.Equal(whole, []rune{'A', 'B', 'C', 'D'}) {
		t.Errorf("Text of the first two = %q, %d, and the list is %c", got, f, whole)
	}
	first, _, _ := utf.Runes("ABC")
	second, _, _ := utf.Runes("ABC")
	for at := range first {
		first[at] = 'x'
	}
	if third, _, _ := utf.Runes("ABC"); !slices.Equal(second, []rune{'A', 'B', 'C'}) || !slices.Equal(third, []rune{'A', 'B', 'C'}) {
		t.Errorf("Runes share memory: %c, %c", second, third)
	}
}
