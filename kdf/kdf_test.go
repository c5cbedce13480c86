package kdf_test

import (
	"bytes"
	"crypto/hkdf"
	"crypto/hmac"
	"crypto/sha256"
	"encoding/hex"
	"math"
	"strings"
	"testing"

	"oubliette/api"
	"oubliette/kdf"
)

const most = 8160

// row: n bytes, each unlike those beside it, none of them 0.
func row(n int) []byte {
	out := make([]byte, n)
	for at := range out {
		out[at] = byte(1 + (at*37+at/64*11+n)%255)
	}
	return out
}

// tag: of all parts, one behind the other, by Go's own library.
func tag(key []byte, parts ...[]byte) []byte {
	h := hmac.New(sha256.New, key)
	for _, part := range parts {
		h.Write(part)
	}
	return h.Sum(nil)
}

// plain: as many bytes as there can be, as the chapter says them.
func plain(key, info []byte) []byte {
	var out, last []byte
	for n := 1; n <= 255; n++ {
		last = tag(key, last, info, []byte{byte(n)})
		out = append(out, last...)
	}
	return out
}

// derived: as the chapter says it.
func derived(key []byte, label string) []byte {
	info := []byte{0, 32, byte(10 + len(label))}
	info = append(info, "oubliette "...)
	info = append(info, label...)
	return tag(key, info, []byte{1})
}

func same(t *testing.T, what string, got, want []byte) {
	t.Helper()
	if !bytes.Equal(got, want) {
		t.Errorf("%s: %x, not %x", what, got, want)
	}
}

// expanded: what Expand answers, which must be OK.
func expanded(t *testing.T, key, info []byte, size int) []byte {
	t.Helper()
	out, f := kdf.Expand(key, info, size)
	if f != api.OK {
		t.Fatalf("Expand to %d: fault %d", size, f)
	}
	if len(out) != size {
		t.Fatalf("Expand to %d: %d bytes", size, len(out))
	}
	return out
}

func unhex(t *testing.T, s string) []byte {
	t.Helper()
	out, err := hex.DecodeString(s)
	if err != nil {
		t.Fatal(err)
	}
	return out
}

// span: the bytes from first to last.
func span(first, last int) []byte {
	var out []byte
	for c := first; c <= last; c++ {
		out = append(out, byte(c))
	}
	return out
}

// P901

func TestKnownKeys(t *testing.T) {
	for _, x := range []struct {
		secret, salt, info []byte
		key, out           string
	}{
		// RFC 5869, cases 1 to 3
		{bytes.Repeat([]byte{11}, 22), span(0, 12), span(0xf0, 0xf9),
			"077709362c2e32df0ddc3f0dc47bba6390b6c73bb50f9c3122ec844ad7c2b3e5",
			"3cb25f25faacd57a90434f64d0362f2a2d2d0a90cf1a5a4c5db02d56ecc4c5bf34007208d5b887185865"},
		{span(0, 0x4f), span(0x60, 0xaf), span(0xb0, 0xff),
			"06a6b88c5853361a06104c9ceb35b45cef760014904671014a193f40c15fc244",
			"b11e398dc80327a1c8e7f78c596a49344f012eda2d4efad8a050cc4c19afa97c59045a99cac7827271cb41c65e590e09da3275600c2f09b8367793a9aca3db71cc30c58179ec3e87c14c01d5c1f3434f1d87"},
		{bytes.Repeat([]byte{11}, 22), nil, nil,
			"19ef24a32c717b167f33a91d6f648bdf96596776afdb6377ac434c1c293ccb04",
			"8da4e775a563c18f715f802a063c5a31b8a11f5c5ee1879ec3454e5f3c738d2d9d201395faa4b61a96c8"},
	} {
		key := kdf.Extract(x.salt, x.secret)
		same(t, "Extract", key, unhex(t, x.key))
		want := unhex(t, x.out)
		same(t, "Expand", expanded(t, key, x.info, len(want)), want)
	}
}

func TestExtractIsTheTagUnderTheSalt(t *testing.T) {
	sizes := []int{0, 1, 31, 32, 33, 63, 64, 65, 100, 1000}
	for _, salt := range sizes {
		for _, secret := range sizes {
			got := kdf.Extract(row(salt), row(secret))
			same(t, "Extract", got, tag(row(salt), row(secret)))
			want, err := hkdf.Extract(sha256.New, row(secret), row(salt))
			if err != nil {
				t.Fatal(err)
			}
			same(t, "Extract, by the library", got, want)
		}
	}
	same(t, "Extract of nothing", kdf.Extract(nil, nil), tag(nil))
	same(t, "Extract of empty rows", kdf.Extract([]byte{}, []byte{}), tag(nil))
}

func TestExpandToEachSize(t *testing.T) {
	key, info := row(32), row(17)
	whole := plain(key, info)
	for size := 1; size <= most; size++ {
		if size > 300 && size < most-300 && size%61 != 0 {
			continue // the sizes between differ only by how many tags there are
		}
		same(t, "Expand", expanded(t, key, info, size), whole[:size])
	}
}

func TestExpandOfKeysAndInfos(t *testing.T) {
	sizes := []int{0, 1, 20, 30, 31, 32, 33, 63, 64, 65, 130, 1000}
	for _, first := range sizes {
		for _, second := range sizes {
			key, info := row(first), row(second)
			want, err := hkdf.Expand(sha256.New, key, string(info), 100)
			if err != nil {
				t.Fatal(err)
			}
			same(t, "Expand", expanded(t, key, info, 100), want)
		}
	}
	same(t, "Expand of nothing", expanded(t, nil, nil, most), plain(nil, nil))
	same(t, "Expand of empty rows", expanded(t, []byte{}, []byte{}, 33), plain(nil, nil)[:33])
}

func TestExpandOutOfRange(t *testing.T) {
	for _, size := range []int{0, -1, -32, -most, math.MinInt, most + 1, most + 31, most + 32, 1 << 16, math.MaxInt - 1, math.MaxInt} {
		out, f := kdf.Expand(row(32), row(5), size)
		if f != api.Range || len(out) != 0 {
			t.Errorf("Expand to %d: fault %d, %d bytes", size, f, len(out))
		}
	}
	expanded(t, row(32), nil, 1)
	expanded(t, row(32), nil, most)
}

// P902

func TestDeriveLabels(t *testing.T) {
	labels := []string{"", " ", "a", "b", "A", "oubliette", "oubliette a", "node", "\x00", "a\x00", "\xff\xfe", "\u00e9", "\u20ac uro"}
	for size := range 300 {
		labels = append(labels, string(row(size)))
	}
	for _, size := range []int{501, 502, 503, 757, 758, 759, 65525, 65526, 65527} {
		labels = append(labels, string(row(size)))
	}
	for _, label := range labels {
		got := kdf.Derive(row(32), label)
		same(t, "Derive", got, derived(row(32), label))
		if len(got) != 32 {
			t.Errorf("Derive: %d bytes", len(got))
		}
	}
}

func TestDeriveKeys(t *testing.T) {
	for _, size := range []int{0, 1, 16, 31, 32, 33, 63, 64, 65, 200} {
		same(t, "Derive", kdf.Derive(row(size), "leaf"), derived(row(size), "leaf"))
	}
	same(t, "Derive of no key", kdf.Derive(nil, ""), derived(nil, ""))
}

func TestDeriveIsExpand(t *testing.T) {
	// the lowest 8 bits of the number of bytes: of 255, of 256 and of 257
	for size, count := range map[int]byte{0: 10, 1: 11, 245: 255, 246: 0, 247: 1, 502: 0} {
		label := strings.Repeat("x", size)
		info := append([]byte{0, 32, count}, "oubliette "+label...)
		same(t, "Derive", kdf.Derive(row(32), label), expanded(t, row(32), info, 32))
	}
	want := expanded(t, row(32), []byte("\x00\x20\x0boubliette a"), 32)
	same(t, "Derive of a", kdf.Derive(row(32), "a"), want)
}

func TestDeriveTellsLabelsAndKeysApart(t *testing.T) {
	seen := map[string]string{}
	for _, key := range [][]byte{row(32), row(31), row(33)} {
		for _, label := range []string{"", "a", "b", "aa", "a ", " a", "A", "a\x00", "a\x01"} {
			got := string(kdf.Derive(key, label))
			if other, ok := seen[got]; ok {
				t.Errorf("%q and %s: the same key", label, other)
			}
			seen[got] = label
		}
	}
}

func TestMix(t *testing.T) {
	sizes := []int{0, 1, 31, 32, 33, 64, 65, 100}
	for _, first := range sizes {
		for _, second := range sizes {
			a, b := row(first), row(second)
			same(t, "Mix", kdf.Mix(a, b), tag(a, b))
			same(t, "Mix, by Extract", kdf.Mix(a, b), kdf.Extract(a, b))
			if first != second && bytes.Equal(kdf.Mix(a, b), kdf.Mix(b, a)) {
				t.Errorf("Mix of %d and %d bytes: either way round the same", first, second)
			}
		}
	}
	same(t, "Mix of nothing", kdf.Mix(nil, nil), tag(nil))
}

func TestChainStepByStep(t *testing.T) {
	for _, label := range []string{"", "next", string(row(246))} {
		want := row(32)
		for n := range 1001 {
			if n < 20 || n%100 == 0 || n > 995 {
				same(t, "Chain", kdf.Chain(row(32), label, n), want)
			}
			want = derived(want, label)
		}
	}
	for _, size := range []int{0, 1, 31, 33, 64, 65, 100} {
		want := derived(derived(derived(row(size), "a"), "a"), "a")
		same(t, "Chain of three", kdf.Chain(row(size), "a", 3), want)
	}
}

func TestChainBelowOne(t *testing.T) {
	for _, n := range []int{0, -1, -1000, -1001, math.MinInt} {
		for _, size := range []int{0, 1, 31, 32, 33, 64, 65, 100} {
			same(t, "Chain of no step", kdf.Chain(row(size), "a", n), row(size))
		}
		same(t, "Chain of no key", kdf.Chain(nil, "a", n), nil)
	}
}

func TestChainAboveTheLimit(t *testing.T) {
	at := kdf.Chain(row(32), "a", 1000)
	for _, n := range []int{1001, 1002, 2000, 1 << 31, math.MaxInt} {
		same(t, "Chain", kdf.Chain(row(32), "a", n), at)
	}
	if bytes.Equal(kdf.Chain(row(32), "a", 999), at) {
		t.Error("Chain of 999 is that of 1000")
	}
}

// P903

func TestFewerBytesAreTheFirstOfMore(t *testing.T) {
	for _, key := range [][]byte{nil, row(32), row(65)} {
		for _, info := range [][]byte{nil, row(1), row(40)} {
			whole := expanded(t, key, info, most)
			for _, size := range []int{1, 2, 31, 32, 33, 63, 64, 65, 96, 97, 1000, 4080, 8127, 8128, 8129, 8159, 8160} {
				same(t, "fewer bytes", expanded(t, key, info, size), whole[:size])
			}
			less := expanded(t, key, info, 70)
			for size := 1; size < 70; size++ {
				same(t, "fewer bytes of 70", expanded(t, key, info, size), less[:size])
			}
		}
	}
}

// what is handed in, and handed out

func TestArgumentsStay(t *testing.T) {
	for _, size := range []int{0, 5, 32, 64, 65, 100} {
		whole := row(3*size + 40)
		was := bytes.Clone(whole)
		a, b := whole[:size], whole[size:2*size]
		kdf.Extract(a, b)
		kdf.Extract(b, a)
		kdf.Expand(a, b, 100)
		kdf.Expand(b, a, 1)
		kdf.Expand(a, b, 0)
		kdf.Derive(a, "a")
		kdf.Mix(a, b)
		for _, n := range []int{-1, 0, 1, 5} {
			kdf.Chain(a, "a", n)
		}
		same(t, "what was handed in, and its spare room", whole, was)
	}
}

func TestAnswersAreNewMemory(t *testing.T) {
	key := row(32)
	for name, call := range map[string]func() []byte{
		"Extract":       func() []byte { return kdf.Extract(key, key) },
		"Expand":        func() []byte { return expanded(t, key, key, 32) },
		"Expand to 33":  func() []byte { return expanded(t, key, key, 33) },
		"Derive":        func() []byte { return kdf.Derive(key, "a") },
		"Mix":           func() []byte { return kdf.Mix(key, key) },
		"Chain":         func() []byte { return kdf.Chain(key, "a", 2) },
		"Chain of none": func() []byte { return kdf.Chain(key, "a", 0) },
		"Chain below":   func() []byte { return kdf.Chain(key, "a", -1) },
	} {
		first := call()
		was := bytes.Clone(first)
		clear(first[:cap(first)])
		same(t, "the key, behind "+name, key, row(32))
		same(t, name+" again", call(), was)
	}
}

func TestExpandHasNoMoreThanItAnswers(t *testing.T) {
	for _, size := range []int{1, 31, 32, 33, 100, most} {
		if out := expanded(t, row(32), nil, size); cap(out) != size {
			t.Errorf("Expand to %d: room for %d", size, cap(out))
		}
	}
}
