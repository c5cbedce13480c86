package mac_test

import (
	"bytes"
	"crypto/hmac"
	"crypto/sha256"
	"encoding/binary"
	"encoding/hex"
	"testing"

	"oubliette/mac"
)

// row: n bytes, each unlike those beside it, none of them 0.
func row(n int) []byte {
	out := make([]byte, n)
	for at := range out {
		out[at] = byte(1 + (at*37+at/64*11+n)%255)
	}
	return out
}

// filled: b with 0 behind, size bytes.
func filled(b []byte, size int) []byte {
	out := make([]byte, size)
	copy(out, b)
	return out
}

// library: the tag that Go's own library makes.
func library(key, text []byte) []byte {
	h := hmac.New(sha256.New, key)
	h.Write(text)
	return h.Sum(nil)
}

// plain: the tag as the chapter says it.
func plain(key, text []byte) []byte {
	if len(key) > 64 {
		sum := sha256.Sum256(key)
		key = sum[:]
	}
	var outer, inner []byte
	for _, c := range filled(key, 64) {
		outer = append(outer, c^0x5c)
		inner = append(inner, c^0x36)
	}
	first := sha256.Sum256(append(inner, text...))
	second := sha256.Sum256(append(outer, first[:]...))
	return second[:]
}

func same(t *testing.T, what string, got, want []byte) {
	t.Helper()
	if !bytes.Equal(got, want) {
		t.Errorf("%s: %x, not %x", what, got, want)
	}
}

// P801

func TestKeyIsFilledUp(t *testing.T) {
	same(t, "no key", mac.Key(nil), make([]byte, 64))
	same(t, "an empty key", mac.Key([]byte{}), make([]byte, 64))
	for size := range 65 {
		same(t, "a short key", mac.Key(row(size)), filled(row(size), 64))
	}
}

func TestLongKeyIsSummed(t *testing.T) {
	for _, size := range []int{65, 66, 96, 127, 128, 129, 1000, 65535, 65536, 65537, 200000} {
		sum := sha256.Sum256(row(size))
		same(t, "a long key", mac.Key(row(size)), filled(sum[:], 64))
	}
}

func TestOfKnownTexts(t *testing.T) {
	many := func(c byte, n int) string { return string(bytes.Repeat([]byte{c}, n)) }
	for _, x := range []struct{ key, text, tag string }{
		{"", "", "b613679a0814d9ec772f95d778c35fc5ff1697c493715653c6c712144292c5ad"},
		{"key", "The quick brown fox jumps over the lazy dog", "f7bc83f430538424b13298e6aa6fb143ef4d59a14946175997479dbc2d1a3cd8"},
		// RFC 4231
		{many(0x0b, 20), "Hi There", "b0344c61d8db38535ca8afceaf0bf12b881dc200c9833da726e9376c2e32cff7"},
		{"Jefe", "what do ya want for nothing?", "5bdcc146bf60754e6a042426089575c75a003f089d2739839dec58b964ec3843"},
		{many(0xaa, 20), many(0xdd, 50), "773ea91e36800e46854db8ebd09181a72959098b3ef8c122d9635514ced565fe"},
		{many(0xaa, 131), "Test Using Larger Than Block-Size Key - Hash Key First", "60e431591ee0b67f0d8a26aacbf5b77f8e0bc6213728c5140546040f0ee37f54"},
	} {
		if got := hex.EncodeToString(mac.Of([]byte(x.key), []byte(x.text))); got != x.tag {
			t.Errorf("%q, %q: %s, not %s", x.key, x.text, got, x.tag)
		}
	}
}

func TestOfAllSizes(t *testing.T) {
	for size := range 140 {
		for _, other := range []int{0, 1, 31, 32, 55, 56, 63, 64, 65, 127, 128, 200} {
			same(t, "a key of some size", mac.Of(row(size), row(other)), library(row(size), row(other)))
			same(t, "a text of some size", mac.Of(row(other), row(size)), plain(row(other), row(size)))
		}
	}
}

func TestOfLongText(t *testing.T) {
	key, text := row(32), row(1<<20)
	same(t, "a long text", mac.Of(key, text), library(key, text))
	same(t, "a long key", mac.Of(text, key), library(text, key))
}

// P802

func TestCheckIsOf(t *testing.T) {
	for _, size := range []int{0, 1, 32, 64, 65, 100} {
		key, text := row(size), row(2*size)
		tag := library(key, text)
		if !mac.Check(key, text, tag) {
			t.Errorf("the tag under a key of %d is none", size)
		}
		for at := range 8 * len(tag) {
			bent := bytes.Clone(tag)
			bent[at/8] ^= 1 << (at % 8)
			if mac.Check(key, text, bent) {
				t.Errorf("a tag that is bent at %d is told right", at)
			}
		}
		for n := range tag {
			if mac.Check(key, text, tag[:n]) || mac.Check(key, text, tag[n+1:]) {
				t.Errorf("a tag of which only %d are there is told right", n)
			}
		}
		if mac.Check(key, text, nil) || mac.Check(key, text, append(bytes.Clone(tag), 0)) || mac.Check(key, text, append(bytes.Clone(tag), tag...)) {
			t.Error("what is no tag is told right")
		}
	}
}

func TestCheckOfOthers(t *testing.T) {
	key, text := row(32), row(40)
	tag := mac.Of(key, text)
	bent := func(b []byte, at int) []byte {
		out := bytes.Clone(b)
		out[at] ^= 128
		return out
	}
	for at := range key {
		if mac.Check(bent(key, at), text, tag) {
			t.Errorf("right under another key, at %d", at)
		}
	}
	for at := range text {
		if mac.Check(key, bent(text, at), tag) {
			t.Errorf("right of another text, at %d", at)
		}
	}
	if mac.Check(text, key, tag) || mac.Check(key, text[1:], tag) || mac.Check(key, append(bytes.Clone(text), 0), tag) {
		t.Error("right of another key and text")
	}
}

// two: the tag of both as the chapter says it.
func two(key, a, b []byte) []byte {
	text := binary.BigEndian.AppendUint32(nil, uint32(len(a)))
	return library(key, append(append(text, a...), b...))
}

func TestTwo(t *testing.T) {
	sizes := []int{0, 1, 2, 31, 64, 65, 255, 256, 257, 65535, 65536, 65537, 1 << 20}
	for _, first := range sizes {
		for _, second := range []int{0, 1, 59, 60, 61, 300} {
			for _, key := range [][]byte{nil, row(32), row(80)} {
				a, b := row(first), row(second)
				same(t, "Two", mac.Two(key, a, b), two(key, a, b))
			}
		}
	}
	same(t, "Two of nothing", mac.Two(nil, nil, nil), library(nil, make([]byte, 4)))
}

func TestTwoTellsPartsApart(t *testing.T) {
	key, text := row(32), row(20)
	seen := map[string]int{}
	for n := range len(text) + 1 {
		tag := string(mac.Two(key, text[:n], text[n:]))
		if other, ok := seen[tag]; ok {
			t.Errorf("parted at %d and at %d: the same tag", other, n)
		}
		seen[tag] = n
		if tag == string(mac.Of(key, text)) {
			t.Errorf("parted at %d: the tag of the whole", n)
		}
	}
}

// P803

func TestFilledUpKeysMakeTheSameTags(t *testing.T) {
	text, other := row(50), row(7)
	for _, size := range []int{0, 1, 31, 32, 33, 63, 64} {
		key := row(size)
		for more := size; more <= 64; more++ {
			same(t, "Of a key filled up", mac.Of(filled(key, more), text), mac.Of(key, text))
			same(t, "Two of a key filled up", mac.Two(filled(key, more), text, other), mac.Two(key, text, other))
			if !mac.Check(filled(key, more), text, mac.Of(key, text)) {
				t.Errorf("the tag of a key of %d is none under it, filled up to %d", size, more)
			}
		}
		same(t, "Of what Key answers", mac.Of(mac.Key(key), text), mac.Of(key, text))
	}
	same(t, "Of what Key answers of a long one", mac.Of(mac.Key(row(70)), text), mac.Of(row(70), text))
}

func TestOtherKeysMakeOtherTags(t *testing.T) {
	text := row(50)
	if bytes.Equal(mac.Of(filled(row(20), 65), text), mac.Of(row(20), text)) {
		t.Error("a key that is too long is not summed")
	}
	if bytes.Equal(mac.Of(append(make([]byte, 1), row(20)...), text), mac.Of(row(20), text)) {
		t.Error("a key is filled up ahead")
	}
}

// what is handed in, and handed out

func TestArgumentsStay(t *testing.T) {
	for _, size := range []int{0, 5, 60, 64, 65, 100} {
		whole := row(4*size + 40)
		was := bytes.Clone(whole)
		key, text, b := whole[:size], whole[size:2*size], whole[2*size:3*size]
		mac.Key(key)
		tag := mac.Of(key, text)
		mac.Check(key, text, tag[:16])
		mac.Two(key, text, b)
		mac.Two(key, b, text)
		same(t, "what was handed in, and its spare room", whole, was)
	}
}

func TestAnswersAreNewMemory(t *testing.T) {
	key := row(64)
	for name, call := range map[string]func() []byte{
		"Key": func() []byte { return mac.Key(key) },
		"Of":  func() []byte { return mac.Of(key, key) },
		"Two": func() []byte { return mac.Two(key, key, key) },
	} {
		first := call()
		was := bytes.Clone(first)
		clear(first[:cap(first)])
		same(t, name+" again", call(), was)
		same(t, "the key", key, row(64))
	}
}
