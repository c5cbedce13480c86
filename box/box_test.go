package box_test

import (
	"bytes"
	"crypto/aes"
	"crypto/cipher"
	"crypto/hkdf"
	"crypto/hmac"
	"crypto/sha256"
	"math"
	"testing"

	"oubliette/api"
	"oubliette/box"
	"oubliette/ctr"
	"oubliette/kdf"
	"oubliette/mac"
)

const most = 60000

// rows: rows of bytes without a rule, alike in every run.
func rows(seed uint32) func(size int) []byte {
	return func(size int) []byte {
		out := make([]byte, size)
		for at := range out {
			seed = seed*1664525 + 1013904223
			out[at] = byte(seed >> 24)
		}
		return out
	}
}

// below: the key under the label, by Go's own library.
func below(t *testing.T, key []byte, label string) []byte {
	t.Helper()
	text := "oubliette " + label
	out, err := hkdf.Expand(sha256.New, key, string([]byte{0, 32, byte(len(text))})+text, 32)
	if err != nil {
		t.Fatal(err)
	}
	return out
}

// tag: of the text under the key, by Go's own library.
func tag(key, text []byte) []byte {
	h := hmac.New(sha256.New, key)
	h.Write(text)
	return h.Sum(nil)
}

// library: the text's box, by Go's own library.
func library(t *testing.T, key, nonce, text []byte) []byte {
	t.Helper()
	c, err := aes.NewCipher(below(t, key, "seal"))
	if err != nil {
		t.Fatal(err)
	}
	hidden := make([]byte, len(text))
	cipher.NewCTR(c, nonce).XORKeyStream(hidden, text)
	ahead := append(bytes.Clone(nonce), hidden...)
	return append(ahead, tag(below(t, key, "tag"), ahead)...)
}

// seal: a box that has to be one.
func seal(t *testing.T, key, nonce, text []byte) []byte {
	t.Helper()
	b, f := box.Seal(key, nonce, text)
	if f != api.OK {
		t.Fatalf("Seal(%x, %x, %d bytes): fault %d", key, nonce, len(text), f)
	}
	return b
}

// opens: b has to be the text's box.
func opens(t *testing.T, key, b, text []byte) {
	t.Helper()
	got, f := box.Open(key, b)
	if f != api.OK || !bytes.Equal(got, text) {
		t.Errorf("Open(%x, %d bytes): %d bytes, fault %d, not the text of %d bytes", key, len(b), len(got), f, len(text))
	}
}

// refuses: Open has to answer the fault, and nothing beside it.
func refuses(t *testing.T, what string, key, b []byte, want api.Fault) {
	t.Helper()
	got, f := box.Open(key, b)
	if f != want || len(got) != 0 {
		t.Errorf("Open of %s: %d bytes, fault %d, not %d", what, len(got), f, want)
	}
}

// P1301

// Keys that are right to seal by, and others, since Derive takes any.
func TestKeys(t *testing.T) {
	next := rows(1)
	for _, size := range []int{32, 32, 32, 0, 1, 16, 31, 33, 63, 64, 65, 200} {
		key := next(size)
		hide, sign := box.Keys(key)
		if !bytes.Equal(hide, kdf.Derive(key, "seal")) || !bytes.Equal(sign, kdf.Derive(key, "tag")) {
			t.Errorf("Keys of %x: %x and %x, not Derive's by seal and by tag", key, hide, sign)
		}
		if !bytes.Equal(hide, below(t, key, "seal")) || !bytes.Equal(sign, below(t, key, "tag")) {
			t.Errorf("Keys of %x: %x and %x, not the library's", key, hide, sign)
		}
		if bytes.Equal(hide, sign) || bytes.Equal(hide, key) || bytes.Equal(sign, key) {
			t.Errorf("Keys of %x are not two others", key)
		}
	}
	hide, sign := box.Keys(nil)
	wantHide, wantSign := box.Keys([]byte{})
	if len(hide) != 32 || !bytes.Equal(hide, wantHide) || !bytes.Equal(sign, wantSign) {
		t.Errorf("Keys of none: %x and %x, not those of an empty key", hide, sign)
	}
}

func TestKeysAreNew(t *testing.T) {
	key := rows(2)(40)[:32]
	room := bytes.Clone(key[:40])
	hide, sign := box.Keys(key)
	wantHide, wantSign := bytes.Clone(hide), bytes.Clone(sign)
	clear(hide[:cap(hide)])
	if !bytes.Equal(sign, wantSign) {
		t.Error("both keys share memory")
	}
	clear(sign[:cap(sign)])
	if !bytes.Equal(key[:40], room) {
		t.Error("Keys changes its key, or shares it")
	}
	if hide, sign = box.Keys(key); !bytes.Equal(hide, wantHide) || !bytes.Equal(sign, wantSign) {
		t.Error("Keys answers others the second time")
	}
}

func TestSize(t *testing.T) {
	for _, c := range []struct{ n, want int }{
		{0, 48}, {1, 49}, {5, 53}, {15, 63}, {16, 64}, {350, 398}, {most, 60048}, {most + 1, 60049},
		{1 << 30, 1<<30 + 48}, {math.MaxInt32, math.MaxInt32 + 48}, {math.MaxInt - 48, math.MaxInt},
		{-1, 48}, {-47, 48}, {-48, 48}, {-49, 48}, {math.MinInt32, 48}, {math.MinInt + 1, 48}, {math.MinInt, 48},
	} {
		if got := box.Size(c.n); got != c.want {
			t.Errorf("Size(%d): %d, not %d", c.n, got, c.want)
		}
	}
	for n := range 3000 {
		if got := box.Size(n); got != n+api.BoxMore {
			t.Errorf("Size(%d): %d, not %d", n, got, n+api.BoxMore)
		}
	}
}

// A sum that no int has is not made.
func TestSizeNeverGoesRound(t *testing.T) {
	for n := math.MaxInt - 60; ; n++ {
		if got := box.Size(n); got < n {
			t.Errorf("Size(%d): %d", n, got)
		}
		if n == math.MaxInt {
			return
		}
	}
}

func TestSizeIsTheBox(t *testing.T) {
	key, nonce := make([]byte, 32), make([]byte, 16)
	for _, size := range []int{0, 1, 16, 100, 350, most - 1, most} {
		if b := seal(t, key, nonce, make([]byte, size)); len(b) != box.Size(size) {
			t.Errorf("the box of %d bytes has %d, not %d", size, len(b), box.Size(size))
		}
	}
}

// P1302

// The chapter's example.
func TestNoText(t *testing.T) {
	next := rows(3)
	key, nonce := next(32), next(16)
	for _, text := range [][]byte{nil, {}} {
		b := seal(t, key, nonce, text)
		if len(b) != 48 || !bytes.Equal(b, library(t, key, nonce, text)) {
			t.Errorf("the box of no text: %x", b)
		}
		opens(t, key, b, text)
	}
}

// Texts of every size about the blocks, and about the limit, as the library has them.
func TestSealSizes(t *testing.T) {
	next := rows(4)
	sizes := []int{255, 256, 257, 349, 350, 351, 4096, most - 1, most}
	for n := range 130 {
		sizes = append(sizes, n)
	}
	for _, size := range sizes {
		key, nonce, text := next(32), next(16), next(size)
		if b, want := seal(t, key, nonce, text), library(t, key, nonce, text); !bytes.Equal(b, want) {
			t.Errorf("Seal(%x, %x, %d bytes) is not the library's", key, nonce, size)
		}
	}
}

// Part by part, by the chapter's own words.
func TestSealByItsWords(t *testing.T) {
	next := rows(5)
	for _, size := range []int{0, 1, 16, 33, 350, 1000} {
		key, nonce, text := next(32), next(16), next(size)
		b := seal(t, key, nonce, text)
		hide, sign := box.Keys(key)
		hidden, _ := ctr.Over(hide, nonce, text)
		if len(b) != size+48 {
			t.Fatalf("the box of %d bytes has %d", size, len(b))
		}
		if !bytes.Equal(b[:16], nonce) {
			t.Errorf("a box begins with %x, not with its nonce %x", b[:16], nonce)
		}
		if !bytes.Equal(b[16:16+size], hidden) {
			t.Errorf("a box hides its text as %x, not %x", b[16:16+size], hidden)
		}
		if want := mac.Of(sign, b[:16+size]); !bytes.Equal(b[16+size:], want) {
			t.Errorf("a box ends with %x, not %x", b[16+size:], want)
		}
	}
}

// Each bit of the key, the nonce and the text counts.
func TestSealEachBitCounts(t *testing.T) {
	next := rows(6)
	key, nonce, text := next(32), next(16), next(20)
	seen := map[string]bool{string(seal(t, key, nonce, text)): true}
	for _, part := range [][]byte{key, nonce, text} {
		for bit := range 8 * len(part) {
			part[bit/8] ^= 1 << (bit % 8)
			b := string(seal(t, key, nonce, text))
			part[bit/8] ^= 1 << (bit % 8)
			if seen[b] {
				t.Errorf("bit %d of %d bytes makes no other box", bit, len(part))
			}
			seen[b] = true
		}
	}
}

// Keys and nonces of other sizes, whatever the text: Form is named first.
func TestSealForm(t *testing.T) {
	next := rows(7)
	texts := [][]byte{nil, next(5), make([]byte, most), make([]byte, most+1), make([]byte, 65537), make([]byte, 1<<17)}
	refused := func(key, nonce, text []byte) {
		t.Helper()
		b, f := box.Seal(key, nonce, text)
		if f != api.Form || len(b) != 0 {
			t.Errorf("Seal by %d and %d bytes of %d: %d bytes, fault %d, not Form", len(key), len(nonce), len(text), len(b), f)
		}
	}
	for _, keySize := range []int{0, 1, 16, 24, 31, 32, 33, 48, 64} {
		for _, nonceSize := range []int{0, 1, 8, 12, 15, 16, 17, 32, 48} {
			if keySize == 32 && nonceSize == 16 {
				continue
			}
			for _, text := range texts {
				refused(next(keySize), next(nonceSize), text)
			}
		}
	}
	refused(nil, nil, nil)
	refused(nil, next(16), nil)
	refused(next(32), nil, nil)
}

func TestSealBig(t *testing.T) {
	next := rows(8)
	key, nonce := next(32), next(16)
	for _, size := range []int{most + 1, most + 2, 60047, 60048, 60049, 65535, 65536, 65537, 1 << 20} {
		if b, f := box.Seal(key, nonce, make([]byte, size)); f != api.Big || len(b) != 0 {
			t.Errorf("Seal of %d bytes: %d bytes, fault %d, not Big", size, len(b), f)
		}
	}
	if b, f := box.Seal(key, nonce, make([]byte, most)); f != api.OK || len(b) != most+48 {
		t.Errorf("Seal of %d bytes: %d bytes, fault %d", most, len(b), f)
	}
}

// P1303

// Boxes that the library made.
func TestOpenSizes(t *testing.T) {
	next := rows(9)
	sizes := []int{255, 256, 350, 4096, most - 1, most}
	for n := range 130 {
		sizes = append(sizes, n)
	}
	for _, size := range sizes {
		key, nonce, text := next(32), next(16), next(size)
		opens(t, key, library(t, key, nonce, text), text)
	}
}

// Keys of other sizes, whatever the box: no other fault is asked first.
func TestOpenFormOfKeys(t *testing.T) {
	next := rows(10)
	key := next(32)
	b := seal(t, key, next(16), next(20))
	bent := bytes.Clone(b)
	bent[30] ^= 1
	for _, size := range []int{0, 1, 16, 24, 31, 33, 48, 64} {
		for _, row := range [][]byte{nil, next(47), b, bent, make([]byte, most+48), make([]byte, most+49)} {
			refuses(t, "a key of another size", next(size), row, api.Form)
		}
	}
	refuses(t, "no key", nil, b, api.Form)
	refuses(t, "a longer key", append(bytes.Clone(key), 0), b, api.Form)
	refuses(t, "a shorter key", key[:31], b, api.Form)
	refuses(t, "neither", nil, nil, api.Form)
}

// Rows that are shorter or longer than any box, and those that are just none.
func TestOpenFormOfBoxes(t *testing.T) {
	next := rows(11)
	key := next(32)
	for size := range 60 {
		want := api.Form
		if size >= 48 {
			want = api.Corrupt
		}
		refuses(t, "bytes without a rule", key, next(size), want)
	}
	refuses(t, "nothing", key, nil, api.Form)
	refuses(t, "the first bytes of a box", key, seal(t, key, next(16), nil)[:47], api.Form)
	refuses(t, "as many bytes as the greatest box has", key, next(most+48), api.Corrupt)
	for _, size := range []int{most + 49, most + 50, 65536, 65584, 1 << 20} {
		refuses(t, "more bytes than a box has", key, next(size), api.Form)
	}
}

// What is too long is none even where its tag is right.
func TestOpenFormAheadOfTags(t *testing.T) {
	next := rows(12)
	key, nonce := next(32), next(16)
	refuses(t, "a tagged text of 60001 bytes", key, library(t, key, nonce, next(most+1)), api.Form)
	_, sign := box.Keys(key)
	for _, size := range []int{0, 1, 15} {
		ahead := next(size)
		refuses(t, "a nonce that is cut short", key, append(bytes.Clone(ahead), tag(sign, ahead)...), api.Form)
	}
}

// Each bit of a box, of its key, and of boxes of other sizes that count on them.
func TestOpenBent(t *testing.T) {
	next := rows(13)
	for _, size := range []int{0, 1, 16, 50} {
		key, text := next(32), next(size)
		b := seal(t, key, next(16), text)
		for _, part := range [][]byte{b, key} {
			for bit := range 8 * len(part) {
				part[bit/8] ^= 1 << (bit % 8)
				refuses(t, "what is bent at a bit", key, b, api.Corrupt)
				part[bit/8] ^= 1 << (bit % 8)
			}
		}
		opens(t, key, b, text)
	}
}

func TestOpenCutAndLong(t *testing.T) {
	next := rows(14)
	key := next(32)
	b := seal(t, key, next(16), next(40))
	for size := range len(b) {
		want := api.Form
		if size >= 48 {
			want = api.Corrupt
		}
		refuses(t, "the first bytes of a box", key, b[:size], want)
		refuses(t, "the last bytes of a box", key, b[len(b)-size:], want)
	}
	for _, more := range []int{1, 16, 32, 48} {
		refuses(t, "a box and more", key, append(bytes.Clone(b), next(more)...), api.Corrupt)
		refuses(t, "more and a box", key, append(next(more), b...), api.Corrupt)
		refuses(t, "a box and nothings", key, append(bytes.Clone(b), make([]byte, more)...), api.Corrupt)
	}
	refuses(t, "a box twice", key, append(bytes.Clone(b), b...), api.Corrupt)
}

// Tags by the wrong key, of the wrong bytes, or parts of two boxes.
func TestOpenOtherTags(t *testing.T) {
	next := rows(15)
	key, nonce, text := next(32), next(16), next(30)
	b := seal(t, key, nonce, text)
	ahead := b[:46:46]
	hide, sign := box.Keys(key)
	other := seal(t, key, next(16), text)
	for what, end := range map[string][]byte{
		"a tag by the key itself":       tag(key, ahead),
		"a tag by the first key":        tag(hide, ahead),
		"a tag of the hidden text":      tag(sign, ahead[16:]),
		"a tag of the nonce":            tag(sign, ahead[:16]),
		"a tag of the text":             tag(sign, append(bytes.Clone(nonce), text...)),
		"another box's tag":             other[46:],
		"a tag of both with their size": mac.Two(sign, ahead[:16], ahead[16:]),
		"no tag":                        make([]byte, 32),
	} {
		refuses(t, what, key, append(bytes.Clone(ahead), end...), api.Corrupt)
	}
	refuses(t, "another nonce", key, append(bytes.Clone(other[:16]), b[16:]...), api.Corrupt)
	opens(t, key, append(bytes.Clone(ahead), tag(sign, ahead)...), text)
}

// What is handed in stays, its spare room too; what is handed out is new each time.
func TestNothingShared(t *testing.T) {
	next := rows(16)
	room := next(400)
	key, nonce, text := room[:32], room[64:80], room[100:150]
	want := library(t, key, nonce, text)
	copy(room[200:], want)
	inside := room[200 : 200+len(want)]
	before := bytes.Clone(room)
	b := seal(t, key, nonce, text)
	got, f := box.Open(key, inside)
	if f != api.OK || !bytes.Equal(got, text) {
		t.Fatalf("Open: %x, fault %d", got, f)
	}
	refuses(t, "a part of it", key, inside[:60], api.Corrupt)
	if !bytes.Equal(room, before) {
		t.Error("what was handed in, or its spare room, is changed")
	}
	clear(b[:cap(b)])
	clear(got[:cap(got)])
	if !bytes.Equal(room, before) {
		t.Error("what is handed out shares memory with what was handed in")
	}
	if again := seal(t, key, nonce, text); !bytes.Equal(again, want) {
		t.Error("a second Seal is another one")
	}
	opens(t, key, inside, text)
}

// P1304

func TestOpenedAsItWas(t *testing.T) {
	next := rows(17)
	sizes := []int{1000, 4095, 30000, most - 1, most}
	for n := range 200 {
		sizes = append(sizes, n)
	}
	for _, size := range sizes {
		key, nonce, text := next(32), next(16), next(size)
		opens(t, key, seal(t, key, nonce, text), text)
	}
	for _, size := range []int{0, 1, 16, 17, 350} {
		for _, c := range []byte{0, 255} {
			text := bytes.Repeat([]byte{c}, size)
			key, nonce := bytes.Repeat([]byte{c}, 32), bytes.Repeat([]byte{255}, 16)
			opens(t, key, seal(t, key, nonce, text), text)
		}
	}
}

// A box is a text like any other.
func TestBoxInBox(t *testing.T) {
	next := rows(18)
	inner, outer, text := next(32), next(32), next(70)
	b := seal(t, inner, next(16), text)
	for range 5 {
		b = seal(t, outer, next(16), b)
	}
	for range 5 {
		got, f := box.Open(outer, b)
		if f != api.OK {
			t.Fatalf("Open: fault %d", f)
		}
		b = got
	}
	opens(t, inner, b, text)
	refuses(t, "an inner box by the outer key", outer, b, api.Corrupt)
}
