package wire_test

import (
	"bytes"
	"math"
	"slices"
	"strings"
	"testing"

	"oubliette/api"
	"oubliette/num"
	"oubliette/wire"
)

// row: n bytes, each unlike those beside it.
func row(n int) []byte {
	out := make([]byte, n)
	for at := range out {
		out[at] = byte(at*37 + n)
	}
	return out
}

// counted: b behind its length, as the chapter says, but for its limit.
func counted(b []byte) []byte {
	return append([]byte{byte(len(b) >> 8), byte(len(b))}, b...)
}

func someLengths() []int {
	return []int{0, 1, 2, 3, 31, 32, 255, 256, 257, 350, 479, 512, 32767, 32768, 65534, 65535}
}

func noSizes() []int {
	return []int{0, -1, -2, -8, 9, 10, 16, 255, 256, 257, 65536, 1<<31 - 1, -1 << 31, math.MaxInt, math.MinInt}
}

func someNumbers() []uint64 {
	return []uint64{0, 1, 2, 127, 128, 255, 256, 257, 258, 65535, 65536, 1<<24 - 1, 1 << 24, 1 << 31, 1<<32 - 1, 1 << 32, 1 << 40, 1 << 48, 1 << 56, 0x0123456789abcdef, 1 << 63, math.MaxUint64}
}

// written: what w puts out, of one that is plain.
func written(write func(w *wire.Writer)) []byte {
	var w wire.Writer
	write(&w)
	return w.Out()
}

// P501

func TestWriterIsEmpty(t *testing.T) {
	var plain wire.Writer
	for _, w := range []*wire.Writer{&plain, {}, new(wire.Writer)} {
		if got := w.Out(); len(got) != 0 {
			t.Errorf("Out of a plain one = %v", got)
		}
	}
}

func TestWriterOfNil(t *testing.T) {
	var w *wire.Writer
	w.Byte(1)
	w.Number(258, 2)
	w.Number(258, 9)
	w.Bytes([]byte{1, 2})
	w.Bytes(nil)
	w.Bytes(row(70000))
	w.Text("ab")
	w.Text("")
	w.Text(strings.Repeat("a", 70000))
	if got := w.Out(); len(got) != 0 {
		t.Errorf("Out of nil = %v", got)
	}
}

func TestWriterByte(t *testing.T) {
	var w wire.Writer
	var want []byte
	for c := range 256 {
		w.Byte(byte(c))
		want = append(want, byte(c))
		if got := w.Out(); !bytes.Equal(got, want) {
			t.Fatalf("Out behind Byte(%d) = %v, not %v", c, got, want)
		}
	}
}

func TestWriterNumber(t *testing.T) {
	for _, c := range []struct {
		n    uint64
		size int
		want []byte
	}{
		{258, 2, []byte{1, 2}},
		{258, 1, []byte{2}},
		{258, 4, []byte{0, 0, 1, 2}},
		{0, 1, []byte{0}},
		{0, 8, []byte{0, 0, 0, 0, 0, 0, 0, 0}},
		{1 << 30, 4, []byte{64, 0, 0, 0}},
		{0x0123456789abcdef, 8, []byte{0x01, 0x23, 0x45, 0x67, 0x89, 0xab, 0xcd, 0xef}},
		{0x0123456789abcdef, 3, []byte{0xab, 0xcd, 0xef}},
		{math.MaxUint64, 8, bytes.Repeat([]byte{255}, 8)},
		{math.MaxUint64, 1, []byte{255}},
	} {
		if got := written(func(w *wire.Writer) { w.Number(c.n, c.size) }); !bytes.Equal(got, c.want) {
			t.Errorf("Out behind Number(%d, %d) = %v, not %v", c.n, c.size, got, c.want)
		}
	}
	for _, n := range someNumbers() {
		for size := -2; size <= 12; size++ {
			want := append(append([]byte{7}, num.Put(n, size)...), 8)
			got := written(func(w *wire.Writer) { w.Byte(7); w.Number(n, size); w.Byte(8) })
			if !bytes.Equal(got, want) {
				t.Errorf("Out behind Number(%d, %d) = %v, not %v", n, size, got, want)
			}
		}
	}
}

// Of sizes that no number has nothing stands behind, and what was there stays.
func TestWriterNumberOfNoSize(t *testing.T) {
	for _, size := range noSizes() {
		if got := written(func(w *wire.Writer) { w.Number(258, size) }); len(got) != 0 {
			t.Errorf("Out behind Number(258, %d) = %v", size, got)
		}
		if got := written(func(w *wire.Writer) { w.Text("a"); w.Number(258, size); w.Byte(9) }); !bytes.Equal(got, []byte{0, 1, 97, 9}) {
			t.Errorf("Out behind Text, Number(258, %d), Byte = %v", size, got)
		}
	}
}

func TestWriterBytesAndText(t *testing.T) {
	for _, c := range []struct {
		s    string
		want []byte
	}{
		{"ab", []byte{0, 2, 97, 98}},
		{"", []byte{0, 0}},
		{"a", []byte{0, 1, 97}},
		{"\x00", []byte{0, 1, 0}},
		{"\x00\x02ab", []byte{0, 4, 0, 2, 97, 98}},
		{"\u00e9", []byte{0, 2, 0xc3, 0xa9}}, // bytes are counted, not runes
		{"\U0001f600", []byte{0, 4, 0xf0, 0x9f, 0x98, 0x80}},
		{"\xff\xfe", []byte{0, 2, 0xff, 0xfe}}, // bytes that are no runes stay
		{"a\xc3", []byte{0, 2, 97, 0xc3}},
	} {
		if got := written(func(w *wire.Writer) { w.Text(c.s) }); !bytes.Equal(got, c.want) {
			t.Errorf("Out behind Text(%q) = %v, not %v", c.s, got, c.want)
		}
		if got := written(func(w *wire.Writer) { w.Bytes([]byte(c.s)) }); !bytes.Equal(got, c.want) {
			t.Errorf("Out behind Bytes(%v) = %v, not %v", []byte(c.s), got, c.want)
		}
	}
	if got := written(func(w *wire.Writer) { w.Bytes(nil) }); !bytes.Equal(got, []byte{0, 0}) {
		t.Errorf("Out behind Bytes(nil) = %v", got)
	}
	for _, n := range someLengths() {
		b := row(n)
		if got := written(func(w *wire.Writer) { w.Bytes(b) }); !bytes.Equal(got, counted(b)) {
			t.Errorf("Out behind Bytes of %d is not as many and they", n)
		}
		if got := written(func(w *wire.Writer) { w.Text(string(b)) }); !bytes.Equal(got, counted(b)) {
			t.Errorf("Out behind Text of %d is not as many and they", n)
		}
	}
}

// Of more than 65535 bytes the first 65535 are written, and what follows stands behind them.
func TestWriterOfTooManyBytes(t *testing.T) {
	for _, n := range []int{65535, 65536, 65537, 65538, 70000, 131071, 131072, 131073, 1 << 20} {
		b := row(n)
		want := append(append([]byte{255, 255}, b[:65535]...), 5)
		if got := written(func(w *wire.Writer) { w.Bytes(b); w.Byte(5) }); !bytes.Equal(got, want) {
			t.Errorf("Out behind Bytes of %d is not the first 65535", n)
		}
		if got := written(func(w *wire.Writer) { w.Text(string(b)); w.Byte(5) }); !bytes.Equal(got, want) {
			t.Errorf("Out behind Text of %d is not the first 65535", n)
		}
	}
	// a rune that stands across the limit is cut as bytes are
	s := strings.Repeat("a", 65534) + "\u00e9"
	got := written(func(w *wire.Writer) { w.Text(s) })
	if len(got) != 65537 || got[65536] != 0xc3 {
		t.Errorf("Out behind Text of 65536 has %d bytes", len(got))
	}
}

func TestWriterPutsOneBehindTheOther(t *testing.T) {
	got := written(func(w *wire.Writer) {
		w.Byte(7)
		w.Number(258, 2)
		w.Text("ab")
		w.Bytes([]byte{9})
		w.Bytes(nil)
		w.Number(1, 4)
		w.Text("")
		w.Byte(0)
	})
	if want := []byte{7, 1, 2, 0, 2, 97, 98, 0, 1, 9, 0, 0, 0, 0, 0, 1, 0, 0, 0}; !bytes.Equal(got, want) {
		t.Errorf("Out = %v, not %v", got, want)
	}
}

// Out may be asked at any time, and what it answers is nobody else's.
func TestOutIsNewMemory(t *testing.T) {
	var w wire.Writer
	w.Text("ab")
	first, second := w.Out(), w.Out()
	clear(first)
	_ = append(first[:0], 9, 9, 9, 9, 9, 9)
	if want := []byte{0, 2, 97, 98}; !bytes.Equal(second, want) || !bytes.Equal(w.Out(), want) {
		t.Errorf("Out's answers share memory: %v, %v", second, w.Out())
	}
	spoil := w.Out()
	w.Byte(7)
	_ = append(spoil, 9)
	w.Byte(8)
	if want := []byte{0, 2, 97, 98, 7, 8}; !bytes.Equal(w.Out(), want) || !bytes.Equal(second, want[:4]) {
		t.Errorf("Out = %v, and what it answered ahead is %v", w.Out(), second)
	}
}

// What is handed in stays as it was, its spare room too, and is not kept.
func TestWriterLeavesWhatIsHandedIn(t *testing.T) {
	whole := []byte{1, 2, 3, 4}
	var w wire.Writer
	w.Bytes(whole[:2])
	w.Byte(9)
	w.Bytes(whole[1:3])
	if !bytes.Equal(whole, []byte{1, 2, 3, 4}) {
		t.Errorf("what was handed in is %v", whole)
	}
	clear(whole)
	if got := w.Out(); !bytes.Equal(got, []byte{0, 2, 1, 2, 9, 0, 2, 2, 3}) {
		t.Errorf("Out = %v", got)
	}
	long := row(70000)
	w.Bytes(long)
	if !bytes.Equal(long, row(70000)) {
		t.Error("what was handed in is not as it was")
	}
}

// P502

// step: a call of a reader: 'b', 'n', 'y' or 't' for Byte, Number, Bytes or Text, and what it is given.
type step struct {
	kind byte
	arg  int
}

// told: what a call of a reader answers, and what the reader says of itself behind it.
type told struct {
	n          uint64
	b          string
	left       int
	fault, end api.Fault
}

func do(r *wire.Reader, s step) told {
	var a told
	switch s.kind {
	case 'b':
		a.n = uint64(r.Byte())
	case 'n':
		a.n = r.Number(s.arg)
	case 'y':
		a.b = string(r.Bytes(s.arg))
	case 't':
		a.b = r.Text(s.arg)
	}
	a.left, a.fault, a.end = r.Left(), r.Fault(), r.End()
	return a
}

// expected: what the chapter's words say of steps over b.
func expected(b []byte, steps []step) []told {
	var out []told
	fault := api.OK
	for _, s := range steps {
		var a told
		bytesOf := 0
		switch s.kind {
		case 'b':
			bytesOf = 1
		case 'n':
			bytesOf = s.arg
		}
		switch {
		case fault != api.OK:
		case s.kind == 'b' || s.kind == 'n':
			if bytesOf < 1 || bytesOf > 8 || bytesOf > len(b) {
				fault = api.Form
				break
			}
			for _, c := range b[:bytesOf] {
				a.n = a.n*256 + uint64(c)
			}
			b = b[bytesOf:]
		case len(b) < 2 || len(b)-2 < int(b[0])*256+int(b[1]) || int(b[0])*256+int(b[1]) > s.arg:
			fault = api.Form
		default:
			n := int(b[0])*256 + int(b[1])
			a.b = string(b[2 : 2+n])
			b = b[2+n:]
		}
		a.fault, a.end, a.left = fault, fault, len(b)
		if fault != api.OK {
			a.left = 0
		} else if len(b) > 0 {
			a.end = api.Form
		}
		out = append(out, a)
	}
	return out
}

func hold(t *testing.T, b []byte, steps []step) {
	t.Helper()
	r := wire.Read(b)
	for at, want := range expected(b, steps) {
		if got := do(r, steps[at]); got != want {
			t.Fatalf("of %v steps %v: at %d %+v, not %+v", b, steps, at, got, want)
		}
	}
}

func TestReaderByte(t *testing.T) {
	var all []byte
	for c := range 256 {
		all = append(all, byte(c))
	}
	r := wire.Read(all)
	for c := range 256 {
		if r.Left() != 256-c || r.Fault() != api.OK || r.End() != api.Form {
			t.Fatalf("ahead of byte %d: %d left, %d, %d", c, r.Left(), r.Fault(), r.End())
		}
		if got := r.Byte(); got != byte(c) {
			t.Fatalf("Byte = %d, not %d", got, c)
		}
	}
	if r.Left() != 0 || r.Fault() != api.OK || r.End() != api.OK {
		t.Errorf("behind all: %d left, %d, %d", r.Left(), r.Fault(), r.End())
	}
	if got := r.Byte(); got != 0 || r.Fault() != api.Form || r.End() != api.Form || r.Left() != 0 {
		t.Errorf("one more: %d, %d, %d, %d left", got, r.Fault(), r.End(), r.Left())
	}
}

func TestReaderNumber(t *testing.T) {
	b := []byte{0x81, 0x23, 0x45, 0x67, 0x89, 0xab, 0xcd, 0xef}
	for _, c := range []struct {
		size int
		want uint64
	}{
		{1, 0x81}, {2, 0x8123}, {3, 0x812345}, {4, 0x81234567}, {5, 0x8123456789},
		{6, 0x8123456789ab}, {7, 0x8123456789abcd}, {8, 0x8123456789abcdef},
	} {
		r := wire.Read(b)
		if got := r.Number(c.size); got != c.want || r.Left() != 8-c.size || r.Fault() != api.OK {
			t.Errorf("Number(%d) = %x, %d left, %d", c.size, got, r.Left(), r.Fault())
		}
		if r.End() != map[bool]api.Fault{true: api.OK, false: api.Form}[c.size == 8] {
			t.Errorf("End behind Number(%d) = %d", c.size, r.End())
		}
	}
	for n := range 12 {
		for size := range 12 {
			hold(t, row(n), []step{{'n', size}, {'n', size}, {'b', 0}})
		}
	}
}

// A size that no number has is a fault, though there are bytes enough.
func TestReaderNumberOfNoSize(t *testing.T) {
	for _, size := range noSizes() {
		for _, b := range [][]byte{nil, {1}, row(8), row(9), row(70000)} {
			hold(t, b, []step{{'n', size}, {'b', 0}, {'n', 1}, {'y', 9}, {'t', 9}})
		}
		r := wire.Read(row(300))
		if got := r.Number(size); got != 0 || r.Fault() != api.Form || r.Left() != 0 || r.End() != api.Form {
			t.Errorf("Number(%d) = %d, %d, %d left, %d", size, got, r.Fault(), r.Left(), r.End())
		}
	}
}

func TestReaderBytesAndText(t *testing.T) {
	for _, c := range []struct {
		b    []byte
		most int
		want string
		left int
		f    api.Fault
	}{
		{[]byte{0, 2, 97, 98}, 9, "ab", 0, api.OK},
		{[]byte{0, 2, 97, 98}, 2, "ab", 0, api.OK},
		{[]byte{0, 2, 97, 98, 7}, 2, "ab", 1, api.OK},
		{[]byte{0, 2, 0xc3, 0xa9}, 2, "\u00e9", 0, api.OK},
		{[]byte{0, 2, 0xff, 0xc3}, 2, "\xff\xc3", 0, api.OK},
		{[]byte{0, 0}, 0, "", 0, api.OK},
		{[]byte{0, 0}, 9, "", 0, api.OK},
		{[]byte{0, 0, 0, 0}, 9, "", 2, api.OK},
		{[]byte{0, 1, 0}, 1, "\x00", 0, api.OK},
		{[]byte{0, 2, 97, 98}, math.MaxInt, "ab", 0, api.OK},
		// more than most
		{[]byte{0, 2, 97, 98}, 1, "", 0, api.Form},
		{[]byte{0, 2, 97, 98}, 0, "", 0, api.Form},
		{[]byte{0, 2, 97, 98}, -1, "", 0, api.Form},
		{[]byte{0, 2, 97, 98}, math.MinInt, "", 0, api.Form},
		{[]byte{0, 1, 97, 98}, 0, "", 0, api.Form},
		{[]byte{0, 0}, -1, "", 0, api.Form},
		{[]byte{0, 0, 5, 5}, math.MinInt, "", 0, api.Form},
		// too few
		{nil, 9, "", 0, api.Form},
		{nil, 0, "", 0, api.Form},
		{[]byte{}, -1, "", 0, api.Form},
		{[]byte{0}, 9, "", 0, api.Form},
		{[]byte{2}, 9, "", 0, api.Form},
		{[]byte{0, 1}, 9, "", 0, api.Form},
		{[]byte{0, 3, 97, 98}, 9, "", 0, api.Form},
		{[]byte{1, 0, 97, 98}, 999, "", 0, api.Form},
		{[]byte{255, 255, 97, 98}, math.MaxInt, "", 0, api.Form},
	} {
		r := wire.Read(c.b)
		if got := r.Bytes(c.most); string(got) != c.want || r.Left() != c.left || r.Fault() != c.f {
			t.Errorf("Bytes(%d) of %v = %v, %d left, %d", c.most, c.b, got, r.Left(), r.Fault())
		}
		r = wire.Read(c.b)
		if got := r.Text(c.most); got != c.want || r.Left() != c.left || r.Fault() != c.f {
			t.Errorf("Text(%d) of %v = %q, %d left, %d", c.most, c.b, got, r.Left(), r.Fault())
		}
	}
	for _, n := range someLengths() {
		b := append(counted(row(n)), 5, 6)
		for _, kind := range []byte{'y', 't'} {
			for _, most := range []int{n - 1, n, n + 1, 65535, 65536, -n} {
				hold(t, b, []step{{kind, most}, {'b', 0}, {kind, most}})
				hold(t, b[:n+2], []step{{kind, most}, {kind, most}})
				hold(t, b[:n+1], []step{{kind, most}, {'b', 0}})
			}
		}
	}
}

// Every row of up to three bytes that are small, and every row of up to four calls: what is answered is what the words say.
func TestReaderAsTheWordsSay(t *testing.T) {
	rows := [][]byte{nil}
	for from := 0; len(rows[from]) < 3; from++ {
		for _, c := range []byte{0, 1, 255} {
			rows = append(rows, append(slices.Clip(rows[from]), c))
		}
	}
	rows = append(rows, []byte{0, 1, 0, 1, 0}, []byte{0, 0, 0, 1, 9, 8}, []byte{0, 2, 0, 1, 7, 6, 0, 0}, row(9), row(20))
	calls := []step{{'b', 0}, {'n', 2}, {'n', 3}, {'n', 0}, {'n', 9}, {'y', 0}, {'y', 1}, {'t', -1}, {'t', 300}}
	for _, b := range rows {
		for n := range 9 * 9 * 9 * 9 {
			hold(t, b, []step{calls[n/729], calls[n/81%9], calls[n/9%9], calls[n%9]})
		}
	}
}

// Behind a fault all is 0, nothing, and the fault stays, whatever it came of.
func TestReaderBehindAFault(t *testing.T) {
	for _, bad := range []step{{'n', 0}, {'n', 9}, {'n', -1}, {'n', math.MaxInt}, {'y', 0}, {'t', 0}, {'y', -1}, {'t', 1}} {
		r := wire.Read([]byte{0, 2, 97, 98, 1, 1, 1, 1, 1, 1, 1, 1, 1, 1})
		if got := do(r, bad); got != (told{fault: api.Form, end: api.Form}) {
			t.Errorf("%v = %+v", bad, got)
		}
		for _, s := range []step{{'b', 0}, {'n', 1}, {'n', 8}, {'n', 0}, {'n', 9}, {'y', 0}, {'y', 999}, {'t', 999}, {'t', -1}} {
			if got := do(r, s); got != (told{fault: api.Form, end: api.Form}) {
				t.Errorf("%v behind %v = %+v", s, bad, got)
			}
		}
	}
}

// End only asks: where bytes are left it is no fault of the reader, which reads on.
func TestEndChangesNothing(t *testing.T) {
	r := wire.Read([]byte{7, 1, 2})
	for range 3 {
		if r.End() != api.Form || r.Fault() != api.OK || r.Left() != 3 {
			t.Fatalf("End = %d, Fault = %d, %d left", r.End(), r.Fault(), r.Left())
		}
	}
	if c := r.Byte(); c != 7 || r.End() != api.Form || r.Fault() != api.OK {
		t.Errorf("Byte = %d, End = %d, Fault = %d", c, r.End(), r.Fault())
	}
	if n := r.Number(2); n != 258 || r.End() != api.OK || r.Fault() != api.OK || r.End() != api.OK {
		t.Errorf("Number = %d, End = %d, Fault = %d", n, r.End(), r.Fault())
	}
}

func TestReaderOfNoByte(t *testing.T) {
	for _, b := range [][]byte{nil, {}} {
		r := wire.Read(b)
		if r == nil || r.Left() != 0 || r.Fault() != api.OK || r.End() != api.OK {
			t.Errorf("Read(%v): %d left, %d, %d", b, r.Left(), r.Fault(), r.End())
		}
		for _, s := range []step{{'b', 0}, {'n', 1}, {'y', 9}, {'t', 9}} {
			hold(t, b, []step{s, s})
		}
	}
}

func TestReaderOfNil(t *testing.T) {
	var r *wire.Reader
	if r.Left() != 0 || r.Fault() != api.BadArg || r.End() != api.BadArg {
		t.Errorf("of nil: %d left, %d, %d", r.Left(), r.Fault(), r.End())
	}
	for _, s := range []step{{'b', 0}, {'n', 1}, {'n', 8}, {'n', 0}, {'n', -1}, {'n', 9}, {'y', 0}, {'y', -1}, {'y', 9}, {'t', 0}, {'t', -1}, {'t', 9}} {
		if got := do(r, s); got != (told{fault: api.BadArg, end: api.BadArg}) {
			t.Errorf("%v of nil = %+v", s, got)
		}
	}
}

// What is handed to Read is neither changed nor kept.
func TestReadLeavesWhatIsHandedIn(t *testing.T) {
	whole := []byte{0, 2, 97, 98, 0, 1, 99, 5}
	b := slices.Clone(whole)
	r := wire.Read(b[:7])
	got := r.Bytes(2)
	clear(got)
	_ = append(got, 9, 9, 9)
	if !bytes.Equal(b, whole) {
		t.Errorf("what was handed in is %v", b)
	}
	clear(b)
	if got := r.Text(2); got != "c" || r.End() != api.OK {
		t.Errorf("Text = %q, %d, behind a change of what was handed in", got, r.End())
	}
}

// What Bytes answers is nobody else's: neither what is left nor another answer changes with it.
func TestBytesAreNewMemory(t *testing.T) {
	r := wire.Read([]byte{0, 2, 97, 98, 0, 0, 0, 3, 99, 100, 101, 7})
	first := r.Bytes(9)
	_ = append(first, 255, 255, 255, 255)
	none := r.Bytes(9)
	_ = append(none, 254, 254, 254, 254)
	second := r.Bytes(9)
	_ = append(second, 253)
	clear(first)
	if len(none) != 0 || string(second) != "cde" || r.Byte() != 7 || r.End() != api.OK {
		t.Errorf("Bytes' answers share memory: %v, %v, %v, %d", first, none, second, r.End())
	}
	clear(second)
	if !bytes.Equal(first, []byte{0, 0}) {
		t.Errorf("the first one is %v", first)
	}
}

// Readers and writers are each for themselves.
func TestEachForItself(t *testing.T) {
	b := []byte{1, 2, 3}
	one, two := wire.Read(b), wire.Read(b)
	one.Number(0)
	if one.Fault() != api.Form || two.Fault() != api.OK || two.Left() != 3 || two.Byte() != 1 {
		t.Errorf("two readers: %d, %d, %d left", one.Fault(), two.Fault(), two.Left())
	}
	var v, w wire.Writer
	v.Byte(1)
	w.Byte(2)
	v.Byte(3)
	if !bytes.Equal(v.Out(), []byte{1, 3}) || !bytes.Equal(w.Out(), []byte{2}) {
		t.Errorf("two writers: %v, %v", v.Out(), w.Out())
	}
}

// P503

// field: what is written, and read.
type field struct {
	step
	n uint64
	b []byte
}

func write(w *wire.Writer, f field) {
	switch f.kind {
	case 'b':
		w.Byte(byte(f.n))
	case 'n':
		w.Number(f.n, f.arg)
	case 'y':
		w.Bytes(f.b)
	case 't':
		w.Text(string(f.b))
	}
}

// fields: a row of fields that hangs on seed alone.
func fields(seed uint64) []field {
	next := func(most uint64) uint64 {
		seed = seed*6364136223846793005 + 1442695040888963407
		return seed >> 33 % most
	}
	var out []field
	for range next(12) {
		var f field
		switch f.kind = "bnyt"[next(4)]; f.kind {
		case 'b':
			f.n = next(256)
		case 'n':
			f.arg = int(next(8)) + 1
			f.n = (next(1<<31)<<33 ^ next(1<<31)<<16 ^ next(1<<31)) >> (64 - 8*f.arg)
		default:
			f.b = row(int(next(40)))
			f.arg = len(f.b) + int(next(3))
		}
		out = append(out, f)
	}
	return out
}

func TestThereAndBack(t *testing.T) {
	for seed := range uint64(2000) {
		var w wire.Writer
		row := fields(seed)
		for _, f := range row {
			write(&w, f)
		}
		r := wire.Read(w.Out())
		for at, f := range row {
			if got := do(r, f.step); got.n != f.n || got.b != string(f.b) || got.fault != api.OK {
				t.Fatalf("of %+v field %d is read as %+v", row, at, got)
			}
		}
		if r.End() != api.OK || r.Left() != 0 {
			t.Fatalf("of %+v: End = %d, %d left", row, r.End(), r.Left())
		}
	}
}

// Without its last bytes it is read as a fault, with bytes behind as not at its end.
func TestThereAndBackOfOtherBytes(t *testing.T) {
	for seed := range uint64(300) {
		var w wire.Writer
		row := fields(seed)
		for _, f := range row {
			write(&w, f)
		}
		w.Byte(0)
		whole := w.Out()
		for n := range len(whole) + 1 {
			r := wire.Read(whole[:n])
			for _, f := range row {
				do(r, f.step)
			}
			if full := n >= len(whole)-1; (r.Fault() == api.OK) != full || (r.End() == api.OK) != (n == len(whole)-1) {
				t.Fatalf("of %+v, %d bytes of %d: Fault = %d, End = %d", row, n, len(whole), r.Fault(), r.End())
			}
		}
	}
}

func TestNumbersThereAndBack(t *testing.T) {
	for _, n := range someNumbers() {
		for size := 1; size <= 8; size++ {
			want := n
			if size < 8 {
				want = n % (1 << (8 * size))
			}
			r := wire.Read(written(func(w *wire.Writer) { w.Number(n, size) }))
			if got := r.Number(size); got != want || r.End() != api.OK {
				t.Errorf("Number(%d, %d) is read as %d, %d", n, size, got, r.End())
			}
		}
	}
}

func TestBytesThereAndBack(t *testing.T) {
	for _, n := range someLengths() {
		b := row(n)
		r := wire.Read(written(func(w *wire.Writer) { w.Bytes(b); w.Text(string(b)) }))
		if got := r.Bytes(n); !bytes.Equal(got, b) {
			t.Errorf("Bytes of %d are not read as they were", n)
		}
		if got := r.Text(n); got != string(b) || r.End() != api.OK {
			t.Errorf("Text of %d is not read as it was", n)
		}
	}
	long := row(70000)
	r := wire.Read(written(func(w *wire.Writer) { w.Bytes(long); w.Text(string(long)) }))
	if b, s := r.Bytes(65535), r.Text(math.MaxInt); !bytes.Equal(b, long[:65535]) || s != string(long[:65535]) || r.End() != api.OK {
		t.Errorf("of too many bytes %d and %d are read", len(b), len(s))
	}
}
