package ctr_test

import (
	"bytes"
	stdaes "crypto/aes"
	"crypto/cipher"
	"encoding/hex"
	"math"
	"math/big"
	"testing"

	"oubliette/aes"
	"oubliette/api"
	"oubliette/ctr"
)

// unhex: the bytes of a text of digits.
func unhex(t *testing.T, s string) []byte {
	t.Helper()
	b, err := hex.DecodeString(s)
	if err != nil {
		t.Fatal(err)
	}
	return b
}

// rows: rows of bytes without a rule, alike in every run.
func rows(seed uint32) func(size int) []byte {
	return func(size int) []byte {
		out := make([]byte, size)
		for at := range out {
			seed = seed*1664525 + 1013904223
			out[at] = byte(seed >> 24)
		}
		return out
	}
}

// library: what the library's counter mode makes of the text.
func library(t *testing.T, key, nonce, text []byte) []byte {
	t.Helper()
	block, err := stdaes.NewCipher(key)
	if err != nil {
		t.Fatal(err)
	}
	out := make([]byte, len(text))
	cipher.NewCTR(block, nonce).XORKeyStream(out, text)
	return out
}

// stream: a Stream that has to be one.
func stream(t *testing.T, key, nonce []byte, size int) []byte {
	t.Helper()
	out, f := ctr.Stream(key, nonce, size)
	if f != api.OK || len(out) != size {
		t.Fatalf("Stream(%x, %x, %d): %d bytes, fault %d", key, nonce, size, len(out), f)
	}
	return out
}

// over: an Over that has to be one.
func over(t *testing.T, key, nonce, text []byte) []byte {
	t.Helper()
	out, f := ctr.Over(key, nonce, text)
	if f != api.OK || len(out) != len(text) {
		t.Fatalf("Over(%x, %x, %d bytes): %d bytes, fault %d", key, nonce, len(text), len(out), f)
	}
	return out
}

// at: an At that has to be one.
func at(t *testing.T, key, nonce []byte, block int) [16]byte {
	t.Helper()
	out, f := ctr.At(key, nonce, block)
	if f != api.OK {
		t.Fatalf("At(%x, %x, %d): fault %d", key, nonce, block, f)
	}
	return out
}

// nonces: at places where carries go far, go round, and go nowhere.
func nonces(t *testing.T) [][]byte {
	t.Helper()
	next := rows(12)
	out := [][]byte{next(16), next(16), next(16)}
	for _, s := range []string{
		"00000000000000000000000000000000",
		"f0f1f2f3f4f5f6f7f8f9fafbfcfdfeff",
		"ffffffffffffffffffffffffffffffff",
		"fffffffffffffffffffffffffffffffe",
		"ffffffffffffffffffffffffffff0000",
		"0000000000000000ffffffffffffffff",
		"0000000000000000fffffffffffffffe",
		"000000000000000000000000ffffffff",
		"00000000000000000000000000ffff00",
		"7fffffffffffffffffffffffffffff80",
	} {
		out = append(out, unhex(t, s))
	}
	return out
}

// P1201

func TestNextKnown(t *testing.T) {
	for _, c := range []struct{ from, want string }{
		{"00000000000000000000000000000000", "00000000000000000000000000000001"},
		{"000000000000000000000000000000ff", "00000000000000000000000000000100"},
		{"0000000000000000000000000000ffff", "00000000000000000000000000010000"},
		{"0102030405060708090a0b0c0d0e0f10", "0102030405060708090a0b0c0d0e0f11"},
		{"00ffffffffffffffffffffffffffffff", "01000000000000000000000000000000"},
		{"0000000000000000ffffffffffffffff", "00000000000000010000000000000000"},
		{"ff00000000000000000000000000007f", "ff000000000000000000000000000080"},
		{"fffffffffffffffffffffffffffffffe", "ffffffffffffffffffffffffffffffff"},
		{"ffffffffffffffffffffffffffffffff", "00000000000000000000000000000000"},
		{"ffffffffffffffffffffffffffff00ff", "ffffffffffffffffffffffffffff0100"},
	} {
		if got := ctr.Next([16]byte(unhex(t, c.from))); got != [16]byte(unhex(t, c.want)) {
			t.Errorf("Next of %s: %x, not %s", c.from, got, c.want)
		}
	}
}

// As numbers of any size are added, at each place where a carry may end.
func TestNextAsNumbers(t *testing.T) {
	round := new(big.Int).Lsh(big.NewInt(1), 128)
	check := func(c [16]byte) {
		t.Helper()
		n := new(big.Int).SetBytes(c[:])
		n.Mod(n.Add(n, big.NewInt(1)), round)
		want := [16]byte(n.FillBytes(make([]byte, 16)))
		if got := ctr.Next(c); got != want {
			t.Errorf("Next of %x: %x, not %x", c, got, want)
		}
	}
	next := rows(1)
	for place := range 16 {
		for b := range 256 {
			c := [16]byte(next(16))
			c[place] = byte(b)
			check(c)
			for i := place + 1; i < 16; i++ {
				c[i] = 255
			}
			check(c)
		}
	}
}

// A number is handed in as a value: the caller's own stays.
func TestNextLeavesItsNumber(t *testing.T) {
	c := [16]byte{14: 1, 15: 255}
	ctr.Next(c)
	if c != [16]byte{14: 1, 15: 255} {
		t.Errorf("Next changed its number to %x", c)
	}
}

// P1202

// SP 800-38A, F.5.5: counter mode with keys of 256 bits.
func TestKnownText(t *testing.T) {
	key := unhex(t, "603deb1015ca71be2b73aef0857d77811f352c073b6108d72d9810a30914dff4")
	nonce := unhex(t, "f0f1f2f3f4f5f6f7f8f9fafbfcfdfeff")
	blocks := []string{"0bdf7df1591716335e9a8b15c860c502", "5a6e699d536119065433863c8f657b94", "1bc12c9c01610d5d0d8bd6a3378eca62", "2956e1c8693536b1bee99c73a31576b6"}
	text := unhex(t, "6bc1bee22e409f96e93d7e117393172aae2d8a571e03ac9c9eb76fac45af8e5130c81c46a35ce411e5fbc1191a0a52eff69f2445df4f9b17ad2b417be66c3710")
	want := unhex(t, "601ec313775789a5b7a7f504bbf3d228f443e3ca4d62b59aca84e990cacaf5c52b0930daa23de94ce87017ba2d84988ddfc9c58db67aada613c2dd08457941a6")
	for n, s := range blocks {
		if got := at(t, key, nonce, n); got != [16]byte(unhex(t, s)) {
			t.Errorf("At %d: %x, not %s", n, got, s)
		}
		if got := stream(t, key, nonce, 64)[16*n : 16*n+16]; !bytes.Equal(got, unhex(t, s)) {
			t.Errorf("Stream at block %d: %x, not %s", n, got, s)
		}
	}
	if got := over(t, key, nonce, text); !bytes.Equal(got, want) {
		t.Errorf("Over: %x, not %x", got, want)
	}
	if got := over(t, key, nonce, want); !bytes.Equal(got, text) {
		t.Errorf("Over of what was made: %x, not %x", got, text)
	}
}

// The nonce, Next so often, encrypted: block by block, by the chapter's own words.
func TestAtByItsWords(t *testing.T) {
	next := rows(3)
	for _, nonce := range nonces(t) {
		key := next(32)
		keys, _ := aes.Schedule(key)
		counter := [16]byte(nonce)
		for n := range 600 {
			if got, want := at(t, key, nonce, n), aes.Encrypt(keys, counter); got != want {
				t.Fatalf("At(%x, %x, %d): %x, not %x", key, nonce, n, got, want)
			}
			counter = ctr.Next(counter)
		}
	}
}

// The blocks that no Stream comes to, as far as the last one.
func TestAtFarBlocks(t *testing.T) {
	next := rows(4)
	for _, nonce := range nonces(t) {
		key := next(32)
		keys, _ := aes.Schedule(key)
		counter := [16]byte(nonce)
		for n := range 65536 {
			if n%251 == 0 || n%256 == 0 || n >= 65530 || n >= 4094 && n < 4099 || n == 32767 || n == 32768 {
				if got, want := at(t, key, nonce, n), aes.Encrypt(keys, counter); got != want {
					t.Fatalf("At(%x, %x, %d): %x, not %x", key, nonce, n, got, want)
				}
			}
			counter = ctr.Next(counter)
		}
	}
}

// Sizes about the blocks, and the greatest ones, as the library has them and as At has them.
func TestStreamSizes(t *testing.T) {
	next := rows(5)
	sizes := []int{255, 256, 257, 4095, 4096, 4097, 65519, 65520, 65521, 65535, 65536}
	for n := range 83 {
		sizes = append(sizes, n)
	}
	for i, size := range sizes {
		nonce := nonces(t)[i%len(nonces(t))]
		key := next(32)
		got := stream(t, key, nonce, size)
		if want := library(t, key, nonce, make([]byte, size)); !bytes.Equal(got, want) {
			t.Errorf("Stream(%x, %x, %d) is not the library's", key, nonce, size)
		}
		for n := 0; n < size; n += 16 {
			block := at(t, key, nonce, n/16)
			part := got[n:min(n+16, size)]
			if !bytes.Equal(part, block[:len(part)]) {
				t.Fatalf("Stream(%x, %x, %d) has %x at %d, At has %x", key, nonce, size, part, n, block)
			}
		}
	}
}

// Texts of every size about the blocks, and of the greatest ones.
func TestOverSizes(t *testing.T) {
	next := rows(6)
	sizes := []int{511, 512, 513, 65520, 65535, 65536}
	for n := range 70 {
		sizes = append(sizes, n)
	}
	for i, size := range sizes {
		nonce := nonces(t)[i%len(nonces(t))]
		key, text := next(32), next(size)
		if got, want := over(t, key, nonce, text), library(t, key, nonce, text); !bytes.Equal(got, want) {
			t.Errorf("Over(%x, %x, %d bytes) is not the library's", key, nonce, size)
		}
	}
}

// Each bit of the key and of the nonce counts.
func TestEachBitCounts(t *testing.T) {
	next := rows(7)
	key, nonce := next(32), next(16)
	seen := map[[16]byte]bool{at(t, key, nonce, 0): true}
	for bit := range 8 * (32 + 16) {
		k, n := bytes.Clone(key), bytes.Clone(nonce)
		if bit < 256 {
			k[bit/8] ^= 1 << (bit % 8)
		} else {
			n[bit/8-32] ^= 1 << (bit % 8)
		}
		block := at(t, k, n, 0)
		if seen[block] {
			t.Errorf("bit %d makes no other block", bit)
		}
		seen[block] = true
	}
}

// all: the faults of the three calls, each of which has to hand out nothing beside one.
func all(t *testing.T, key, nonce []byte, block, size int, text []byte) [3]api.Fault {
	t.Helper()
	a, fa := ctr.At(key, nonce, block)
	s, fs := ctr.Stream(key, nonce, size)
	o, fo := ctr.Over(key, nonce, text)
	if fa != api.OK && a != [16]byte{} {
		t.Errorf("At hands out %x beside the fault %d", a, fa)
	}
	if fs != api.OK && len(s) != 0 {
		t.Errorf("Stream hands out %d bytes beside the fault %d", len(s), fs)
	}
	if fo != api.OK && len(o) != 0 {
		t.Errorf("Over hands out %d bytes beside the fault %d", len(o), fo)
	}
	return [3]api.Fault{fa, fs, fo}
}

// Keys and nonces of other sizes, whatever else is right or wrong: Form is named first.
func TestForm(t *testing.T) {
	form := [3]api.Fault{api.Form, api.Form, api.Form}
	next := rows(8)
	for _, keySize := range []int{0, 1, 15, 16, 24, 31, 32, 33, 48, 64} {
		for _, nonceSize := range []int{0, 1, 8, 12, 15, 16, 17, 32} {
			if keySize == 32 && nonceSize == 16 {
				continue
			}
			key, nonce := next(keySize), next(nonceSize)
			for _, n := range []int{0, 7, -1, 65536, 65537, math.MinInt, math.MaxInt} {
				text := make([]byte, 5)
				if n != 0 && n != 7 {
					text = make([]byte, 65537)
				}
				if got := all(t, key, nonce, n, n, text); got != form {
					t.Errorf("key of %d, nonce of %d bytes, %d: faults %d", keySize, nonceSize, n, got)
				}
			}
		}
	}
	if got := all(t, nil, nil, 0, 0, nil); got != form {
		t.Errorf("neither key nor nonce: faults %d", got)
	}
}

// Blocks, sizes and texts at their limits and one beyond.
func TestRange(t *testing.T) {
	key, nonce := make([]byte, 32), make([]byte, 16)
	for _, c := range []struct {
		block, size, text int
		want              [3]api.Fault
	}{
		{0, 0, 0, [3]api.Fault{}},
		{65535, 65536, 65536, [3]api.Fault{}},
		{65536, 65537, 65537, [3]api.Fault{api.Range, api.Range, api.Range}},
		{-1, -1, 65552, [3]api.Fault{api.Range, api.Range, api.Range}},
		{65537, 65552, 1 << 17, [3]api.Fault{api.Range, api.Range, api.Range}},
		{1 << 30, 1 << 30, 1 << 20, [3]api.Fault{api.Range, api.Range, api.Range}},
		{math.MaxInt, math.MaxInt, 65538, [3]api.Fault{api.Range, api.Range, api.Range}},
		{math.MinInt, math.MinInt, 65538, [3]api.Fault{api.Range, api.Range, api.Range}},
	} {
		if got := all(t, key, nonce, c.block, c.size, make([]byte, c.text)); got != c.want {
			t.Errorf("block %d, size %d, text of %d: faults %d, not %d", c.block, c.size, c.text, got, c.want)
		}
	}
}

// What is handed in stays, its spare room too; what is handed out is new each time.
func TestNothingShared(t *testing.T) {
	next := rows(9)
	room := next(300)
	before := bytes.Clone(room)
	key, nonce, text := room[:32], room[64:80], room[100:150]
	want := library(t, key, nonce, text)
	first := over(t, key, nonce, text)
	s := stream(t, key, nonce, 50)
	at(t, key, nonce, 3)
	if !bytes.Equal(room, before) {
		t.Error("what was handed in, or its spare room, is changed")
	}
	for i := range first {
		first[i], s[i] = 0, 0
	}
	if !bytes.Equal(room, before) {
		t.Error("what is handed out shares memory with what was handed in")
	}
	if !bytes.Equal(over(t, key, nonce, text), want) {
		t.Error("a second Over is another one")
	}
	if again := stream(t, key, nonce, 50); !bytes.Equal(again, library(t, key, nonce, make([]byte, 50))) {
		t.Error("a second Stream is another one")
	}
}

// P1203

func TestOverTwice(t *testing.T) {
	next := rows(10)
	for i, nonce := range nonces(t) {
		for _, size := range []int{0, 1, 15, 16, 17, 100 + i, 1000 + i} {
			key, text := next(32), next(size)
			if got := over(t, key, nonce, over(t, key, nonce, text)); !bytes.Equal(got, text) {
				t.Errorf("Over twice (%x, %x, %d bytes) is another text", key, nonce, size)
			}
		}
	}
	key, nonce, text := next(32), next(16), next(65536)
	if got := over(t, key, nonce, over(t, key, nonce, text)); !bytes.Equal(got, text) {
		t.Error("Over twice of the longest text is another text")
	}
}

func TestLessIsTheFirstOfMore(t *testing.T) {
	next := rows(11)
	for _, nonce := range nonces(t) {
		key, text := next(32), next(130)
		more, bytesMore := over(t, key, nonce, text), stream(t, key, nonce, len(text))
		for size := range text {
			if got := over(t, key, nonce, text[:size]); !bytes.Equal(got, more[:size]) {
				t.Errorf("Over of %d bytes is not the first of more", size)
			}
			if got := stream(t, key, nonce, size); !bytes.Equal(got, bytesMore[:size]) {
				t.Errorf("Stream of %d bytes is not the first of more", size)
			}
		}
	}
}
