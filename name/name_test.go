package name_test

import (
	"math"
	"regexp"
	"slices"
	"strings"
	"testing"
	"unicode/utf8"

	"oubliette/api"
	"oubliette/name"
)

// signs: a part, once more by other means.
const signs = `[a-z0-9\x{df}-\x{f6}\x{f8}-\x{ff}]{1,8}`

// rules: what a part and a name look like.
func rules() (part, whole *regexp.Regexp) {
	return regexp.MustCompile(`\A` + signs + `\z`), regexp.MustCompile(`\A` + signs + `(\.` + signs + `){0,3}\z`)
}

// someParts: parts, in the order in which texts of bytes stand.
func someParts() []string {
	return []string{
		"0", "00", "07", "1", "10", "2", "9", "99999999",
		"a", "a0", "aa", "ab", "abcdefgh", "b", "z", "zz",
		"\u00df", "\u00e9", "\u00e9a", "\u00f6", "\u00f8", "\u00ff", strings.Repeat("\u00ff", 8),
	}
}

// someNames: names, in the order in which names stand.
func someNames() []string {
	return []string{
		"0", "0.a", "00", "00.0", "00.0.0", "00.a", "1", "10", "2", "99999999.99999999.999999",
		"a", "a.0", "a.00", "a.9", "a.a", "a.a.a", "a.a.a.0", "a.a.a.a", "a.a.b", "a.ab", "a.b", "a.b.c.d", "a.c", "a.\u00e9", "a0", "a0.a", "aa", "aa.0", "ab", "ab.3",
		"abcdefgh.abcdefgh.abcdef", "b", "g.a.2.s0", "g.a.stage", "k.a", "z",
		"\u00df", "\u00df.\u00df", "\u00e9", "\u00f6", "\u00f8", "\u00ff", "\u00ff.\u00ff.\u00ff.\u00ff",
	}
}

// noParts: what is no part, though some of it is a name.
func noParts() []string {
	return []string{
		"", ".", "a.b", "a.", ".a", "a..b",
		"abcdefghi", "123456789", strings.Repeat("\u00e9", 9), strings.Repeat("a", 5000),
		"A", "aA", "Z", "\u00c0", "\u00de", "a\u00c4", "\u00d7", "\u00f7", "a\u00f7a",
		" ", "a ", " a", "a b", "-", "_", "a-b", "a_b", "/", ":", "@", "`", "{", "\x00", "a\x00", "\n", "a\n", "\t",
		"\u00b5", "\u00aa", "\u0101", "\u03b1", "\u0430", "\u0661", "\uff11", "\uff41", "\u00b2", "\u0131", "\u017f",
		"e\u0301", "\ufffd", "\U0001f600", "\u3002", "a\uff0eb",
		"\xff", "\xdf", "\xe9", "a\xe9", "\xc3", "a\xc3", "\xc3a", "\xc1\xa1", "\xe0\x81\xa1", "\xed\xa0\x80", "a\x80",
	}
}

// noNames: what is no name.
func noNames() []string {
	out := []string{
		"..", "...", "a...b", "a.b.", ".a.b", "a.b.c.", "a.b.c.d.",
		"a.b.c.d.e", "a.b.c.d.e.f", strings.Repeat("a.", 5000) + "a", strings.Repeat(".", 5000),
		"abcdefghi.a", "a.abcdefghi", "a.b.c.abcdefghi", "a.B", "A.b", "a.b.C", "a. b", "a .b", "a,b", "a:b", "a/b",
		"abcdefgh.abcdefgh.abcdefg", "abcdefgh.abcdefgh.abcdefgh", "abcdef.abcdef.abcdef.abcd", "abcdefgh.abcdefgh.abcdefgh.abcdefgh",
		"a.\xff", "\xff.a", "a.b\xc3", "a\xc3.b", "a\xe2\x80.b", "a.\ufffd",
	}
	for _, s := range noParts() {
		if s != "a.b" {
			out = append(out, s)
		}
	}
	return out
}

// P301

func TestPart(t *testing.T) {
	for _, s := range someParts() {
		if !name.Part(s) {
			t.Errorf("%q is no part", s)
		}
	}
	for _, s := range noParts() {
		if name.Part(s) {
			t.Errorf("%q is a part", s)
		}
	}
}

func TestPartOfHowManyRunes(t *testing.T) {
	for _, sign := range []string{"a", "z", "0", "9", "\u00df", "\u00ff"} {
		for n := range 20 {
			s := strings.Repeat(sign, n)
			if got := name.Part(s); got != (1 <= n && n <= 8) {
				t.Errorf("Part(%q) = %v", s, got)
			}
		}
	}
}

// Every rune alone, and behind, ahead of and between others.
func TestPartOfEveryRune(t *testing.T) {
	part, _ := rules()
	for r := rune(0); r <= utf8.MaxRune; r++ {
		if !utf8.ValidRune(r) {
			continue
		}
		s := string(r)
		want := r < 0x100 && part.MatchString(s)
		if got := name.Part(s); got != want {
			t.Fatalf("Part(%q) = %v", s, got)
		}
		if got := name.Right(s); got != want {
			t.Fatalf("Right(%q) = %v", s, got)
		}
		if r >= 0x200 {
			continue
		}
		for _, s := range []string{"a" + s, s + "a", "a" + s + "7", "abcdefg" + s, s + "bcdefgh"} {
			if got := name.Part(s); got != want {
				t.Errorf("Part(%q) = %v", s, got)
			}
		}
	}
}

// A byte that is no rune's is no part's, though as a number it were a letter.
func TestPartOfEveryByte(t *testing.T) {
	for c := range 256 {
		sign := string([]byte{byte(c)})
		want := c >= 'a' && c <= 'z' || c >= '0' && c <= '9'
		for _, s := range []string{sign, sign + "a", "a" + sign, "a" + sign + "a"} {
			if got := name.Part(s); got != want {
				t.Errorf("Part(%q) = %v", s, got)
			}
		}
	}
}

func TestRight(t *testing.T) {
	for _, s := range someNames() {
		if !name.Right(s) {
			t.Errorf("%q is no name", s)
		}
	}
	for _, s := range someParts() {
		if !name.Right(s) {
			t.Errorf("%q, a part, is no name", s)
		}
	}
	for _, s := range noNames() {
		if name.Right(s) {
			t.Errorf("%q is a name", s)
		}
	}
}

// Points count too, and runes are counted, not bytes.
func TestRightOfHowManyRunes(t *testing.T) {
	for _, c := range []struct {
		s    string
		want bool
	}{
		{"abcdefgh.abcdefgh.abcde", true},
		{"abcdefgh.abcdefgh.abcdef", true},
		{"abcdefgh.abcdefgh.abcdefg", false},
		{"abcdef.abcdef.abcdef.abc", true},
		{"abcdef.abcdef.abcdef.abcd", false},
		{"a.bcdefghi", true},
		{"a.bcdefghij", false},
		{"1234567.1234567.12345678", true},
		{"12345678.1234567.12345678", false},
		{"\u00e9\u00e9\u00e9\u00e9\u00e9\u00e9\u00e9\u00e9.\u00e9\u00e9\u00e9\u00e9\u00e9\u00e9\u00e9\u00e9.\u00e9\u00e9\u00e9\u00e9\u00e9\u00e9", true},
		{"\u00e9\u00e9\u00e9\u00e9\u00e9\u00e9\u00e9\u00e9.\u00e9\u00e9\u00e9\u00e9\u00e9\u00e9\u00e9\u00e9.\u00e9\u00e9\u00e9\u00e9\u00e9\u00e9\u00e9", false},
	} {
		if got := name.Right(c.s); got != c.want {
			t.Errorf("Right(%q) = %v, of %d runes", c.s, got, utf8.RuneCountInString(c.s))
		}
	}
}

// Every short row of some signs, and every shape of a name by the lengths of its parts.
func TestRightAndPartAsTheWordsSay(t *testing.T) {
	part, whole := rules()
	check := func(s string) {
		t.Helper()
		want := whole.MatchString(s) && utf8.RuneCountInString(s) <= 24
		if got := name.Right(s); got != want {
			t.Errorf("Right(%q) = %v", s, got)
		}
		if got := name.Part(s); got != part.MatchString(s) {
			t.Errorf("Part(%q) = %v", s, got)
		}
		if got := name.Split(s); (len(got) > 0) != want {
			t.Errorf("Split(%q) = %q", s, got)
		}
	}
	rows := []string{""}
	for range 5 {
		var longer []string
		for _, s := range rows {
			check(s)
			for _, sign := range []string{"a", ".", "9", "\u00df", "A", "\xc3", "\x9f"} {
				longer = append(longer, s+sign)
			}
		}
		rows = longer
	}
	lengths := []string{""}
	for range 5 {
		var more []string
		for _, s := range lengths {
			check(s)
			for n := range 10 {
				more = append(more, strings.TrimPrefix(s+"."+strings.Repeat("b", n), "."))
			}
		}
		lengths = more
	}
}

// P302

func TestJoin(t *testing.T) {
	for _, c := range []struct {
		parts []string
		want  string
		f     api.Fault
	}{
		{[]string{"ab", "3"}, "ab.3", api.OK},
		{[]string{"a"}, "a", api.OK},
		{[]string{"0"}, "0", api.OK},
		{[]string{"g", "a", "2", "s0"}, "g.a.2.s0", api.OK},
		{[]string{"\u00ff", "\u00df"}, "\u00ff.\u00df", api.OK},
		{[]string{"abcdefgh", "abcdefgh", "abcdef"}, "abcdefgh.abcdefgh.abcdef", api.OK},
		{[]string{"abcdefgh", "abcdefgh", "abcdefg"}, "", api.Big},
		{[]string{"abcdefgh", "abcdefgh", "abcdefgh"}, "", api.Big},
		{[]string{"abcdef", "abcdef", "abcdef", "abc"}, "abcdef.abcdef.abcdef.abc", api.OK},
		{[]string{"abcdef", "abcdef", "abcdef", "abcd"}, "", api.Big},
		{[]string{"12345678", "12345678", "12345678", "12345678"}, "", api.Big},
		{[]string{strings.Repeat("\u00e9", 8), strings.Repeat("\u00e9", 8), strings.Repeat("\u00e9", 6)}, strings.Repeat("\u00e9", 8) + "." + strings.Repeat("\u00e9", 8) + "." + strings.Repeat("\u00e9", 6), api.OK},
		{[]string{strings.Repeat("\u00e9", 8), strings.Repeat("\u00e9", 8), strings.Repeat("\u00e9", 7)}, "", api.Big},
		{nil, "", api.Syntax},
		{[]string{}, "", api.Syntax},
		{[]string{""}, "", api.Syntax},
		{[]string{"", ""}, "", api.Syntax},
		{[]string{"a", ""}, "", api.Syntax},
		{[]string{"", "a"}, "", api.Syntax},
		{[]string{"a.b"}, "", api.Syntax},
		{[]string{"a.b", "c"}, "", api.Syntax},
		{[]string{"a", "B"}, "", api.Syntax},
		{[]string{"A"}, "", api.Syntax},
		{[]string{"abcdefghi"}, "", api.Syntax},
		{[]string{"a", "b", "c", "d"}, "a.b.c.d", api.OK},
		{[]string{"a", "b", "c", "d", "e"}, "", api.Syntax},
		{[]string{"a", "b", "c", "D"}, "", api.Syntax},
		{slices.Repeat([]string{"a"}, 1000), "", api.Syntax},
		// too many, or one that is none, and too long as well: Syntax is named first
		{slices.Repeat([]string{"abcdefgh"}, 5), "", api.Syntax},
		{[]string{"abcdefgh", "abcdefgh", "abcdefgh", "X"}, "", api.Syntax},
		{[]string{"abcdefgh", "abcdefgh", "abcdefghi"}, "", api.Syntax},
		{[]string{"abcdefghi", "abcdefgh", "abcdefgh"}, "", api.Syntax},
	} {
		if got, f := name.Join(c.parts...); got != c.want || f != c.f {
			t.Errorf("Join(%q) = %q, %d, not %q, %d", c.parts, got, f, c.want, c.f)
		}
	}
}

// One that is no part spoils the whole, wherever it stands.
func TestJoinOfWhatIsNoPart(t *testing.T) {
	for _, bad := range noParts() {
		for at := range 4 {
			parts := []string{"a", "b", "c", "d"}
			parts[at] = bad
			if got, f := name.Join(parts...); got != "" || f != api.Syntax {
				t.Errorf("Join(%q) = %q, %d, not nothing, Syntax", parts, got, f)
			}
		}
		if got, f := name.Join(bad); got != "" || f != api.Syntax {
			t.Errorf("Join(%q) = %q, %d, not nothing, Syntax", bad, got, f)
		}
	}
}

func TestSplit(t *testing.T) {
	for _, c := range []struct {
		s    string
		want []string
	}{
		{"a.b", []string{"a", "b"}},
		{"ab.3", []string{"ab", "3"}},
		{"a", []string{"a"}},
		{"7", []string{"7"}},
		{"g.a.2.s0", []string{"g", "a", "2", "s0"}},
		{"a.a.a.a", []string{"a", "a", "a", "a"}},
		{"\u00e9\u00ff.\u00df", []string{"\u00e9\u00ff", "\u00df"}},
		{"abcdefgh.abcdefgh.abcdef", []string{"abcdefgh", "abcdefgh", "abcdef"}},
		{"abcdefgh", []string{"abcdefgh"}},
	} {
		if got := name.Split(c.s); !slices.Equal(got, c.want) {
			t.Errorf("Split(%q) = %q, not %q", c.s, got, c.want)
		}
	}
	for _, s := range noNames() {
		if got := name.Split(s); len(got) != 0 {
			t.Errorf("Split(%q) = %q, not nothing", s, got)
		}
	}
}

// P303

func TestBelow(t *testing.T) {
	for _, c := range []struct {
		s, top string
		want   bool
	}{
		{"ab.3", "ab", true},
		{"a.b.c", "a.b", true},
		{"a.b.c", "a", true},
		{"a.b.c.d", "a", true},
		{"a.b.c.d", "a.b.c", true},
		{"\u00e9.a", "\u00e9", true},
		{"abcdefgh.abcdefgh.abcdef", "abcdefgh.abcdefgh", true},
		{"a", "a", false},
		{"a.b", "a.b", false},
		{"a", "a.b", false},
		{"a.b", "a.b.c", false},
		{"ab.c", "a", false},
		{"ab", "a", false},
		{"a.bc", "a.b", false},
		{"a.b.c", "b", false},
		{"a.b.c", "b.c", false},
		{"a.b.c", "a.c", false},
		{"b.b", "a", false},
		{"a.b", "", false},
		{"a", "", false},
		{"", "", false},
		{"", "a", false},
		{"a.b", "a.", false},
		{"a.b", ".", false},
		{".a", "", false},
		{"a.", "a", false},
		{"a..b", "a", false},
		{"a.B", "a", false},
		{"A.b", "A", false},
		{"a.b.c.d.e", "a", false},
		{"a.b.c.d.e", "a.b.c.d", false},
		{"abcdefgh.abcdefgh.abcdefg", "abcdefgh", false},
		{"a.\xff", "a", false},
		{"\xff.a", "\xff", false},
	} {
		if got := name.Below(c.s, c.top); got != c.want {
			t.Errorf("Below(%q, %q) = %v", c.s, c.top, got)
		}
	}
}

// Of what is no name nothing is below, and it is below nothing; of names it hangs on their beginnings.
func TestBelowOfAllPairs(t *testing.T) {
	for _, s := range someNames() {
		for _, top := range someNames() {
			if got := name.Below(s, top); got != strings.HasPrefix(s, top+".") {
				t.Errorf("Below(%q, %q) = %v", s, top, got)
			}
		}
		for _, bad := range noNames() {
			if name.Below(s, bad) || name.Below(bad, s) || name.Below(bad, bad) || name.Below(bad+".a", bad) {
				t.Errorf("Below of %q and %q", s, bad)
			}
		}
	}
}

func TestCmp(t *testing.T) {
	for _, c := range []struct {
		a, b string
		want int
	}{
		{"a", "a.b", -1},
		{"b", "a.b", 1},
		{"a.b", "a.b", 0},
		{"a", "b", -1},
		{"a", "ab", -1},
		{"a.z", "ab", -1},
		{"ab", "a.z", 1},
		{"9", "a", -1},
		{"10", "9", -1},
		{"0", "00", -1},
		{"z", "\u00df", -1},
		{"\u00df", "\u00ff", -1},
		{"a.b.c", "a.b.d", -1},
		{"a.c", "a.b.d", 1},
		{"g.a.10.e", "g.a.2.e", -1},
		{"A", "a", 0},
		{"a", "A", 0},
		{"", "a", 0},
		{"a", "", 0},
		{"", "", 0},
		{"a.", "b", 0},
		{"b", "a.", 0},
		{"\xff", "a", 0},
	} {
		if got := name.Cmp(c.a, c.b); got != c.want {
			t.Errorf("Cmp(%q, %q) = %d, not %d", c.a, c.b, got, c.want)
		}
	}
}

// The names stand in their order: each is ahead of those behind it.
func TestCmpOfAllPairs(t *testing.T) {
	sign := func(n int) int { return max(-1, min(n, 1)) }
	for at, a := range someNames() {
		for other, b := range someNames() {
			if got := name.Cmp(a, b); got != sign(at-other) {
				t.Errorf("Cmp(%q, %q) = %d, not %d", a, b, got, sign(at-other))
			}
		}
		for _, bad := range noNames() {
			if name.Cmp(a, bad) != 0 || name.Cmp(bad, a) != 0 || name.Cmp(bad, bad) != 0 {
				t.Errorf("Cmp of %q and %q is not 0", a, bad)
			}
		}
	}
	for at, a := range someParts() {
		for other, b := range someParts() {
			if got := name.Cmp(a, b); got != sign(at-other) {
				t.Errorf("Cmp(%q, %q) = %d, not %d", a, b, got, sign(at-other))
			}
			if at != other && name.Cmp(a+".z", b+".a") != sign(at-other) {
				t.Errorf("Cmp of %q and %q does not hang on the first part", a+".z", b+".a")
			}
		}
	}
}

// P304

func TestNumber(t *testing.T) {
	for _, c := range []struct {
		s    string
		n    int
		want string
	}{
		{"s", 3, "s3"},
		{"s", 0, "s0"},
		{"s", 10, "s10"},
		{"", 0, "0"},
		{"", 7, "7"},
		{"", 99999999, "99999999"},
		{"", 100000000, ""},
		{"a", 9999999, "a9999999"},
		{"a", 10000000, ""},
		{"abcdefg", 9, "abcdefg9"},
		{"abcdefg", 10, ""},
		{"abcdefgh", 0, ""},
		{"abcdefghi", 0, ""},
		{"0", 1, "01"},
		{"\u00e9\u00e9\u00e9\u00e9\u00e9\u00e9\u00e9", 1, "\u00e9\u00e9\u00e9\u00e9\u00e9\u00e9\u00e91"},
		{"\u00e9\u00e9\u00e9\u00e9\u00e9\u00e9\u00e9", 11, ""},
		{"s", -1, ""},
		{"s", -3, ""},
		{"", -1, ""},
		{"abcdefgh", -1, ""},
		{"s", math.MinInt, ""},
		{"s", math.MaxInt, ""},
		{"", math.MaxInt, ""},
		{"", math.MinInt, ""},
		{"S", 3, ""},
		{"a.b", 3, ""},
		{"a.", 3, ""},
		{".", 3, ""},
		{"\xff", 3, ""},
		{"a-", 3, ""},
		{strings.Repeat("a", 5000), 3, ""},
	} {
		if got := name.Number(c.s, c.n); got != c.want {
			t.Errorf("Number(%q, %d) = %q, not %q", c.s, c.n, got, c.want)
		}
	}
}

func TestNumberOfWhatIsNoPart(t *testing.T) {
	for _, bad := range noParts() {
		if bad == "" {
			continue // nothing and a digit is one
		}
		for _, n := range []int{0, 3, 12, -1} {
			if got := name.Number(bad, n); got != "" {
				t.Errorf("Number(%q, %d) = %q, not nothing", bad, n, got)
			}
		}
	}
	for _, s := range someParts() {
		for _, n := range []int{-1, -7, math.MinInt} {
			if got := name.Number(s, n); got != "" {
				t.Errorf("Number(%q, %d) = %q, not nothing", s, n, got)
			}
		}
	}
}

// P305

func TestNamesThereAndBack(t *testing.T) {
	for _, s := range someNames() {
		if got, f := name.Join(name.Split(s)...); got != s || f != api.OK {
			t.Errorf("Join(Split(%q)) = %q, %d", s, got, f)
		}
	}
}

func TestPartsThereAndBack(t *testing.T) {
	back := func(parts ...string) {
		t.Helper()
		s, f := name.Join(parts...)
		if f == api.Big {
			return
		}
		if got := name.Split(s); f != api.OK || !slices.Equal(got, parts) || !name.Right(s) {
			t.Errorf("Split(Join(%q)) = %q, %d", parts, got, f)
		}
	}
	for _, a := range someParts() {
		back(a)
		for _, b := range someParts() {
			back(a, b)
			back(a, b, a)
			back(b, a, a, b)
		}
	}
}

// What is handed in stays as it was, its spare room too, and answers are new memory.
func TestListsAreNotShared(t *testing.T) {
	whole := []string{"a", "b", "c", "d"}
	if got, f := name.Join(whole[:2]...); got != "a.b" || f != api.OK || !slices.Equal(whole, []string{"a", "b", "c", "d"}) {
		t.Errorf("Join of the first two = %q, %d, and the list is %q", got, f, whole)
	}
	first := name.Split("a.b.c")
	second := name.Split("a.b.c")
	clear(first)
	if third := name.Split("a.b.c"); !slices.Equal(second, whole[:3]) || !slices.Equal(third, whole[:3]) {
		t.Errorf("Split's answers share memory: %q, %q", second, third)
	}
}
