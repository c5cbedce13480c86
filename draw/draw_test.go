package draw_test

import (
	"bytes"
	"crypto/hkdf"
	"crypto/sha256"
	"encoding/hex"
	"math"
	"strconv"
	"testing"

	"oubliette/draw"
	"oubliette/kdf"
	"oubliette/num"
)

const most = 4096

// row: n bytes, each unlike those beside it, none of them 0.
func row(n int) []byte {
	out := make([]byte, n)
	for at := range out {
		out[at] = byte(1 + (at*41+at/64*13+n)%255)
	}
	return out
}

// library: the key of that label, by Go's own library.
func library(t *testing.T, seed []byte, label string) []byte {
	t.Helper()
	info := []byte{0, 32, byte(10 + len(label))}
	info = append(info, "oubliette "+label...)
	out, err := hkdf.Expand(sha256.New, seed, string(info), 32)
	if err != nil {
		t.Fatal(err)
	}
	return out
}

// drawn: the key of that number, by Go's own library.
func drawn(t *testing.T, seed []byte, n int) []byte {
	t.Helper()
	return library(t, seed, "draw "+strconv.Itoa(n))
}

// keys: count of them from that number on, one behind the other.
func keys(t *testing.T, seed []byte, from, count int) []byte {
	t.Helper()
	var out []byte
	for n := from; n < from+count; n++ {
		out = append(out, drawn(t, seed, n)...)
	}
	return out
}

func same(t *testing.T, what string, got, want []byte) {
	t.Helper()
	if !bytes.Equal(got, want) {
		t.Errorf("%s: %x, not %x", what, got, want)
	}
}

func count(t *testing.T, what string, s *draw.Source, want int) {
	t.Helper()
	if got := s.Drawn(); got != want {
		t.Errorf("%s: %d are drawn, not %d", what, got, want)
	}
}

func seeds() [][]byte {
	out := [][]byte{nil, {}, {1}, {255}, []byte("draw 0"), make([]byte, 32), bytes.Repeat([]byte{255}, 32)}
	for _, size := range []int{2, 16, 31, 32, 33, 63, 64, 65, 128, 1000} {
		out = append(out, row(size))
	}
	return out
}

// numbers: with each count of digits that there is, and both sides of where it grows.
func numbers() []int {
	out := []int{math.MaxInt, math.MaxInt - 1, math.MaxInt32, math.MaxInt32 + 1, 1 << 30, 255, 256, 65535, 65536}
	for ten := 10; ten < math.MaxInt/10; ten *= 10 {
		out = append(out, ten-1, ten, ten+1)
	}
	for n := range 300 {
		out = append(out, n)
	}
	return out
}

// P1401

func TestAt(t *testing.T) {
	for _, seed := range seeds() {
		for _, n := range numbers() {
			same(t, "At", draw.At(seed, n), drawn(t, seed, n))
		}
	}
}

// By the chapter's own words.
func TestAtIsDerived(t *testing.T) {
	for _, seed := range seeds() {
		for _, n := range []int{math.MinInt, -1, 0, 1, 9, 10, 999, 1000, math.MaxInt} {
			same(t, "At", draw.At(seed, n), kdf.Derive(seed, "draw "+num.Print(n)))
		}
		same(t, "At 12", draw.At(seed, 12), kdf.Derive(seed, "draw 12"))
	}
}

// Numbers below 0 have no digits.
func TestAtBelowZero(t *testing.T) {
	for _, seed := range seeds() {
		want := library(t, seed, "draw ")
		for _, n := range []int{-1, -2, -10, -1000, math.MinInt32, math.MinInt + 1, math.MinInt} {
			same(t, "At "+strconv.Itoa(n), draw.At(seed, n), want)
		}
	}
}

// Keys of the seed that is the one byte 1, which a program in another language made.
func TestKnownKeys(t *testing.T) {
	for n, want := range map[int]string{
		0:  "b9940dfa4cad9f40535f5261635c78dbe31c537350e5fde0027479f46d423912",
		1:  "be2024b8489dd57505cc339110998bf5f0698f31c28a58dd56e37c1cba90825e",
		10: "4d009fc79b54f7a34f3dd67ba4fdf9e26ef99acefe6dda8b7a9850dafd4d25c7",
		-1: "444e3c0baca8b29825c017a901d414546bcbbbcdd0134242bbfd80d522d6a038",
	} {
		if got := hex.EncodeToString(draw.At([]byte{1}, n)); got != want {
			t.Errorf("At %d: %s, not %s", n, got, want)
		}
	}
}

func TestDrawEachInTurn(t *testing.T) {
	for _, seed := range seeds() {
		s := draw.New(seed)
		for n := range 120 {
			count(t, "ahead of Draw", s, n)
			same(t, "Draw", s.Draw(), drawn(t, seed, n))
			count(t, "behind Draw", s, n+1)
		}
	}
}

func TestDrawIsAt(t *testing.T) {
	s := draw.New(row(32))
	for n := range 1100 {
		key := s.Draw()
		same(t, "Draw", key, draw.At(row(32), n))
		if len(key) != 32 {
			t.Errorf("Draw: %d bytes", len(key))
		}
	}
	count(t, "behind all", s, 1100)
}

// To ask how many draws none.
func TestDrawnOnlyAsks(t *testing.T) {
	s := draw.New(row(32))
	for range 5 {
		count(t, "at first", s, 0)
	}
	same(t, "the first Draw", s.Draw(), drawn(t, row(32), 0))
	for range 5 {
		count(t, "behind one", s, 1)
	}
	same(t, "the second Draw", s.Draw(), drawn(t, row(32), 1))
}

// At draws none of any source.
func TestAtDrawsNone(t *testing.T) {
	s := draw.New(row(8))
	s.Draw()
	for n := range 5 {
		draw.At(row(8), n)
	}
	count(t, "behind At", s, 1)
	same(t, "Draw", s.Draw(), drawn(t, row(8), 1))
}

func TestNoKeyTwice(t *testing.T) {
	seen := map[string]int{}
	s := draw.New(row(32))
	for n := range 2000 {
		key := string(s.Draw())
		if other, ok := seen[key]; ok {
			t.Errorf("the keys %d and %d are the same", other, n)
		}
		seen[key] = n
	}
}

func TestOfNil(t *testing.T) {
	var s *draw.Source
	if got := s.Draw(); len(got) != 0 {
		t.Errorf("Draw of nil: %x", got)
	}
	for _, n := range []int{math.MinInt, -1, 0, 1, 32, 33, most, most + 1, math.MaxInt} {
		if got := s.Bytes(n); len(got) != 0 {
			t.Errorf("Bytes of nil: %x", got)
		}
	}
	if s.Clone() != nil {
		t.Error("Clone of nil is a source")
	}
	count(t, "of nil", s, 0)
}

// A source of no seed is a source like any other.
func TestNewOfNoSeed(t *testing.T) {
	for _, seed := range [][]byte{nil, {}} {
		s := draw.New(seed)
		if s == nil {
			t.Fatal("New of no seed: nil")
		}
		same(t, "Draw", s.Draw(), drawn(t, nil, 0))
		same(t, "Bytes", s.Bytes(33), keys(t, nil, 1, 2)[:33])
		count(t, "of no seed", s, 3)
		same(t, "Draw of its Clone", s.Clone().Draw(), drawn(t, nil, 3))
	}
}

// P1402

func TestBytesOfEachSize(t *testing.T) {
	seed := row(32)
	whole := keys(t, seed, 0, most/32)
	for size := 1; size <= most; size++ {
		if size > 300 && size < most-300 && size%32 > 1 && size%61 != 0 {
			continue // the sizes between differ only by how many draws there are
		}
		s := draw.New(seed)
		got := s.Bytes(size)
		if !bytes.Equal(got, whole[:size]) {
			t.Fatalf("Bytes(%d): %x, not %x", size, got, whole[:size])
		}
		count(t, "behind Bytes of "+strconv.Itoa(size), s, (size+31)/32)
		same(t, "Draw behind it", s.Draw(), drawn(t, seed, (size+31)/32))
	}
}

// What is left of the last draw is not told by the next call.
func TestBytesAndDrawsByTurns(t *testing.T) {
	for _, seed := range seeds() {
		s := draw.New(seed)
		n := 0
		for _, size := range []int{1, 31, 32, 0, 33, 64, -1, 65, most, most + 1, 16, 16, 2, 96, 97} {
			more := (size + 31) / 32
			if size < 1 || size > most {
				size, more = 0, 0
			}
			same(t, "Bytes", s.Bytes(size), keys(t, seed, n, more)[:size])
			n += more
			count(t, "behind Bytes", s, n)
			same(t, "Draw", s.Draw(), drawn(t, seed, n))
			n++
		}
	}
}

func TestBytesAreDraws(t *testing.T) {
	a, b := draw.New(row(20)), draw.New(row(20))
	var want []byte
	for range 5 {
		want = append(want, b.Draw()...)
	}
	same(t, "Bytes", a.Bytes(150), want[:150])
	same(t, "Draw behind both", a.Draw(), b.Draw())
}

func TestBytesOutOfRange(t *testing.T) {
	fresh, later := draw.New(row(32)), draw.New(row(32))
	later.Draw()
	later.Bytes(33)
	for _, n := range []int{0, -1, -32, -most, math.MinInt32, math.MinInt, most + 1, most + 2, most + 32, 8160, 1 << 16, math.MaxInt32, math.MaxInt - 1, math.MaxInt} {
		if got := fresh.Bytes(n); len(got) != 0 {
			t.Errorf("Bytes(%d): %d bytes", n, len(got))
		}
		if got := later.Bytes(n); len(got) != 0 {
			t.Errorf("Bytes(%d), later: %d bytes", n, len(got))
		}
		count(t, "behind Bytes that is refused", fresh, 0)
		count(t, "behind Bytes that is refused, later", later, 3)
	}
	same(t, "the first Draw", fresh.Draw(), drawn(t, row(32), 0))
	same(t, "a later Draw", later.Draw(), drawn(t, row(32), 3))
	if got := later.Bytes(most); len(got) != most {
		t.Errorf("Bytes(%d): %d bytes", most, len(got))
	}
	count(t, "behind the most", later, 4+most/32)
}

func TestCloneGoesOnAlike(t *testing.T) {
	for _, seed := range seeds() {
		s := draw.New(seed)
		for n := range 12 {
			c := s.Clone()
			count(t, "of the clone", c, n)
			for more := range 3 {
				same(t, "Draw of the clone", c.Draw(), drawn(t, seed, n+more))
			}
			count(t, "of the clone, later", c, n+3)
			count(t, "of the cloned one", s, n)
			same(t, "Draw of the cloned one", s.Draw(), drawn(t, seed, n))
		}
	}
}

// What the one draws, the other doesn't.
func TestCloneIsAnother(t *testing.T) {
	s := draw.New(row(32))
	s.Draw()
	c := s.Clone()
	if c == s {
		t.Fatal("Clone is the source itself")
	}
	for range 4 {
		s.Draw()
	}
	count(t, "of the clone", c, 1)
	same(t, "Draw of the clone", c.Draw(), drawn(t, row(32), 1))
	same(t, "Bytes of the clone", c.Bytes(70), keys(t, row(32), 2, 3)[:70])
	same(t, "Draw of the cloned one", s.Draw(), drawn(t, row(32), 5))
	cc := c.Clone()
	same(t, "Draw of a clone's clone", cc.Draw(), drawn(t, row(32), 5))
	count(t, "of the clone, at last", c, 5)
	count(t, "of the cloned one, at last", s, 6)
	count(t, "of the clone's clone, at last", cc, 6)
}

// P1403

// The chapter's example.
func TestTwoOfTheSameSeed(t *testing.T) {
	for _, seed := range seeds() {
		a, b := draw.New(seed), draw.New(bytes.Clone(seed))
		for n := range 50 {
			same(t, "the other one's Draw", b.Draw(), a.Draw())
			if n%10 == 9 {
				same(t, "the other one's Bytes", b.Bytes(n), a.Bytes(n))
			}
		}
	}
}

// However a source came to its number, the key is the same.
func TestOnlyTheNumberCounts(t *testing.T) {
	seed := row(32)
	for name, go7 := range map[string]func(s *draw.Source) *draw.Source{
		"by draws": func(s *draw.Source) *draw.Source {
			for range 7 {
				s.Draw()
			}
			return s
		},
		"by bytes":     func(s *draw.Source) *draw.Source { s.Bytes(7 * 32); return s },
		"by few bytes": func(s *draw.Source) *draw.Source { s.Bytes(6*32 + 1); return s },
		"by single bytes": func(s *draw.Source) *draw.Source {
			for range 7 {
				s.Bytes(1)
			}
			return s
		},
		"by clones": func(s *draw.Source) *draw.Source {
			for range 7 {
				s = s.Clone()
				s.Draw()
			}
			return s
		},
		"by both, with what is refused": func(s *draw.Source) *draw.Source {
			s.Draw()
			s.Bytes(0)
			s.Bytes(65)
			s.Bytes(most + 1)
			s.Clone().Bytes(99)
			s.Bytes(64)
			s.Draw()
			return s
		},
	} {
		s := go7(draw.New(seed))
		count(t, name, s, 7)
		same(t, name, s.Draw(), drawn(t, seed, 7))
		same(t, name, s.Bytes(40), keys(t, seed, 8, 2)[:40])
	}
}

// Sources that are drawn by turns do not touch one another.
func TestOtherSourcesCountForNothing(t *testing.T) {
	a, b, c := draw.New(row(5)), draw.New(row(6)), draw.New(row(5))
	for n := range 20 {
		same(t, "Draw", a.Draw(), drawn(t, row(5), n))
		same(t, "Draw of another seed", b.Draw(), drawn(t, row(6), n))
		same(t, "Bytes of another seed", b.Clone().Bytes(90), keys(t, row(6), n+1, 3)[:90])
		if n%2 == 0 {
			same(t, "Draw of the same seed", c.Draw(), drawn(t, row(5), n/2))
		}
	}
}

// Each bit of the seed counts, and each number.
func TestEachBitOfTheSeedCounts(t *testing.T) {
	seen := map[string]string{}
	ask := func(what string, seed []byte) {
		for n := range 3 {
			key := string(draw.At(seed, n))
			if other, ok := seen[key]; ok {
				t.Errorf("%s, number %d, and %s: the same key", what, n, other)
			}
			seen[key] = what
		}
	}
	seed := row(65)
	ask("the seed", seed)
	for bit := range 8 * len(seed) {
		seed[bit/8] ^= 1 << (bit % 8)
		ask("bit "+strconv.Itoa(bit), seed)
		seed[bit/8] ^= 1 << (bit % 8)
	}
	for _, size := range []int{0, 1, 32, 64} {
		ask(strconv.Itoa(size)+" bytes", row(size))
	}
}

// what is handed in, and handed out

// The seed is the maker's again, once a source was made of it.
func TestTheSeedIsKeptApart(t *testing.T) {
	seed := row(32)
	s := draw.New(seed)
	c := s.Clone()
	clear(seed)
	same(t, "Draw", s.Draw(), drawn(t, row(32), 0))
	same(t, "Draw of the clone", c.Draw(), drawn(t, row(32), 0))
	same(t, "Bytes", s.Bytes(50), keys(t, row(32), 1, 2)[:50])
	same(t, "Draw of a later clone", s.Clone().Draw(), drawn(t, row(32), 3))
}

func TestArgumentsStay(t *testing.T) {
	for _, size := range []int{0, 1, 32, 64, 65} {
		whole := row(size + 40)
		was := bytes.Clone(whole)
		seed := whole[:size]
		s := draw.New(seed)
		s.Draw()
		s.Clone().Bytes(100)
		draw.At(seed, 3)
		draw.At(seed, -1)
		same(t, "what was handed in, and its spare room", whole, was)
	}
}

func TestAnswersAreNewMemory(t *testing.T) {
	seed := row(32)
	s := draw.New(seed)
	for name, call := range map[string]func() []byte{
		"At":       func() []byte { return draw.At(seed, 0) },
		"Draw":     func() []byte { return s.Clone().Draw() },
		"Bytes":    func() []byte { return s.Clone().Bytes(40) },
		"Bytes 32": func() []byte { return s.Clone().Bytes(32) },
	} {
		first := call()
		was := bytes.Clone(first)
		clear(first[:cap(first)])
		same(t, "the seed, behind "+name, seed, row(32))
		same(t, name+" again", call(), was)
	}
	a := s.Draw()
	was := bytes.Clone(a)
	b := s.Bytes(64)
	clear(b[:cap(b)])
	same(t, "an earlier key", a, was)
	same(t, "Draw", s.Draw(), drawn(t, seed, 3))
}

// No key that was told in part stands whole in the spare room behind the answer.
func TestBytesHideWhatIsLeft(t *testing.T) {
	for _, size := range []int{1, 16, 31, 33, 40, 63, 100, most - 1} {
		s := draw.New(row(32))
		got := s.Bytes(size)
		left := keys(t, row(32), 0, (size+31)/32)[size:]
		if room := got[size:cap(got)]; bytes.HasPrefix(room, left) {
			t.Errorf("Bytes(%d): what is left of the last key stands behind it", size)
		}
	}
}
