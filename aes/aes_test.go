package aes_test

import (
	"bytes"
	stdaes "crypto/aes"
	"encoding/hex"
	"slices"
	"testing"

	"oubliette/aes"
	"oubliette/api"
	"oubliette/gf"
)

// unhex: the bytes of a text of digits.
func unhex(t *testing.T, s string) []byte {
	t.Helper()
	b, err := hex.DecodeString(s)
	if err != nil {
		t.Fatal(err)
	}
	return b
}

// state: the 16 bytes of a text of digits.
func state(t *testing.T, s string) [16]byte {
	t.Helper()
	return [16]byte(unhex(t, s))
}

// schedule: the keys of a key that is one.
func schedule(t *testing.T, key []byte) aes.Keys {
	t.Helper()
	k, f := aes.Schedule(key)
	if f != api.OK {
		t.Fatalf("Schedule(%x) tells the fault %d", key, f)
	}
	return k
}

// rows: rows of bytes without a rule, alike in every run.
func rows(seed uint32, size int) func() []byte {
	return func() []byte {
		out := make([]byte, size)
		for at := range out {
			seed = seed*1664525 + 1013904223
			out[at] = byte(seed >> 24)
		}
		return out
	}
}

// states: as rows, of 16 bytes; and among them each byte all over.
func states(seed uint32, count int) [][16]byte {
	next := rows(seed, 16)
	var out [][16]byte
	for range count {
		out = append(out, [16]byte(next()))
	}
	for n := range 256 {
		out = append(out, [16]byte(bytes.Repeat([]byte{byte(n)}, 16)))
	}
	return out
}

// counting: key 00 to 1f.
func counting() []byte {
	out := make([]byte, 32)
	for at := range out {
		out[at] = byte(at)
	}
	return out
}

// P1101

// One round of FIPS 197's appendix C.3, and one of its appendix B.
func TestRoundsOfFIPS(t *testing.T) {
	for _, c := range []struct{ start, sub, shift, mix, key, next string }{
		{
			"00102030405060708090a0b0c0d0e0f0", "63cab7040953d051cd60e0e7ba70e18c", "6353e08c0960e104cd70b751bacad0e7",
			"5f72641557f5bc92f7be3b291db9f91a", "101112131415161718191a1b1c1d1e1f", "4f63760643e0aa85efa7213201a4e705",
		},
		{
			"193de3bea0f4e22b9ac68d2ae9f84808", "d42711aee0bf98f1b8b45de51e415230", "d4bf5d30e0b452aeb84111f11e2798e5",
			"046681e5e0cb199a48f8d37a2806264c", "a0fafe1788542cb123a339392a6c7605", "a49c7ff2689f352b6b5bea43026a5049",
		},
	} {
		for _, step := range []struct {
			what      string
			got, want [16]byte
		}{
			{"Sub", aes.Sub(state(t, c.start)), state(t, c.sub)},
			{"Shift", aes.Shift(state(t, c.sub)), state(t, c.shift)},
			{"Mix", aes.Mix(state(t, c.shift)), state(t, c.mix)},
			{"Add", aes.Add(state(t, c.mix), state(t, c.key)), state(t, c.next)},
		} {
			if step.got != step.want {
				t.Errorf("%s of the round from %s: %x, not %x", step.what, c.start, step.got, step.want)
			}
		}
	}
}

// Each byte at each place has its Box there, and changes no other one.
func TestSub(t *testing.T) {
	for n := range 256 {
		for at := range 16 {
			s := [16]byte{}
			s[at] = byte(n)
			got := aes.Sub(s)
			for i, c := range got {
				want := gf.Box(0)
				if i == at {
					want = gf.Box(byte(n))
				}
				if c != want {
					t.Errorf("Sub of %02x at %d has %02x at %d, not %02x", n, at, c, i, want)
				}
			}
		}
	}
}

// The byte at row r, column c is at 4 times c and r: it comes from the column that is r behind.
func TestShift(t *testing.T) {
	var s [16]byte
	for at := range s {
		s[at] = byte(at)
	}
	want := [16]byte{0, 5, 10, 15, 4, 9, 14, 3, 8, 13, 2, 7, 12, 1, 6, 11}
	if got := aes.Shift(s); got != want {
		t.Errorf("Shift(%x) = %x, not %x", s, got, want)
	}
	for _, s := range states(1, 500) {
		got := aes.Shift(s)
		for r := range 4 {
			row := []byte{s[r], s[4+r], s[8+r], s[12+r]}
			turned := slices.Concat(row[r:], row[:r])
			if now := []byte{got[r], got[4+r], got[8+r], got[12+r]}; !bytes.Equal(now, turned) {
				t.Errorf("Shift(%x) has the row %d as %x, not %x", s, r, now, turned)
			}
		}
	}
}

func TestMix(t *testing.T) {
	for _, s := range states(2, 2000) {
		got := aes.Mix(s)
		for c := range 4 {
			column := [4]byte{s[4*c], s[4*c+1], s[4*c+2], s[4*c+3]}
			now := [4]byte{got[4*c], got[4*c+1], got[4*c+2], got[4*c+3]}
			if want := gf.Column(column); now != want {
				t.Errorf("Mix(%x) has the column %d as %x, not %x", s, c, now, want)
			}
		}
	}
}

// Four different columns, whose mixed ones FIPS 197's readers know: none is taken for another.
func TestMixOfKnownColumns(t *testing.T) {
	got := aes.Mix(state(t, "db135345f20a225cd4d4d4d52d26314c"))
	if want := state(t, "8e4da1bc9fdc589dd5d5d7d64d7ebdf8"); got != want {
		t.Errorf("Mix = %x, not %x", got, want)
	}
}

func TestAdd(t *testing.T) {
	all := states(3, 200)
	for i, s := range all {
		k := all[(7*i+1)%len(all)]
		got := aes.Add(s, k)
		for at, c := range got {
			if c != s[at]^k[at] {
				t.Errorf("Add(%x, %x) has %02x at %d, not %02x", s, k, c, at, s[at]^k[at])
			}
		}
	}
}

// P1102

// FIPS 197, appendix A.3: the words of its key.
func TestScheduleOfFIPS(t *testing.T) {
	k := schedule(t, unhex(t, "603deb1015ca71be2b73aef0857d77811f352c073b6108d72d9810a30914dff4"))
	for at, want := range []string{
		"603deb1015ca71be2b73aef0857d7781", "1f352c073b6108d72d9810a30914dff4",
		"9ba354118e6925afa51a8b5f2067fcde", "a8b09c1a93d194cdbe49846eb75d5b9a",
		"d59aecb85bf3c917fee94248de8ebe96", "b5a9328a2678a647983122292f6c79b3",
		"812c81addadf48ba24360af2fab8b464", "98c5bfc9bebd198e268c3ba709e04214",
		"68007bacb2df331696e939e46c518d80", "c814e20476a9fb8a5025c02d59c58239",
		"de1369676ccc5a71fa2563959674ee15", "5886ca5d2e2f31d77e0af1fa27cf73c3",
		"749c47ab18501ddae2757e4f7401905a", "cafaaae3e4d59b349adf6acebd10190d",
		"fe4890d1e6188d0b046df344706c631e",
	} {
		if k[at] != state(t, want) {
			t.Errorf("the key %d is %x, not %s", at, k[at], want)
		}
	}
}

// expanded: the 240 bytes of all keys, as the chapter says them, byte by byte: what is added at the multiples of 8 is written out.
func expanded(key []byte) []byte {
	out := bytes.Clone(key)
	added := []byte{0x01, 0x02, 0x04, 0x08, 0x10, 0x20, 0x40}
	for i := 8; i < 60; i++ {
		ahead := bytes.Clone(out[len(out)-4:])
		if i%8 == 0 {
			ahead = append(ahead[1:], ahead[0])
		}
		if i%4 == 0 {
			for at, c := range ahead {
				ahead[at] = gf.Box(c)
			}
		}
		if i%8 == 0 {
			ahead[0] ^= added[i/8-1]
		}
		for at, c := range ahead {
			out = append(out, c^out[4*(i-8)+at])
		}
	}
	return out
}

func TestScheduleOfMany(t *testing.T) {
	next := rows(4, 32)
	keys := [][]byte{make([]byte, 32), bytes.Repeat([]byte{0xff}, 32), counting()}
	for n := range 256 { // one bit alone at each place
		key := make([]byte, 32)
		key[n/8] = 1 << (n % 8)
		keys = append(keys, key)
	}
	for range 1000 {
		keys = append(keys, next())
	}
	for _, key := range keys {
		var got []byte
		for _, k := range schedule(t, key) {
			got = append(got, k[:]...)
		}
		if want := expanded(key); !bytes.Equal(got, want) {
			t.Errorf("Schedule(%x) = %x, not %x", key, got, want)
		}
	}
}

// The sizes of AES's other keys, too, are those of none here.
func TestScheduleOfNoKey(t *testing.T) {
	rest := rows(5, 1000)()
	for size := range 1000 {
		k, f := aes.Schedule(rest[:size])
		if size == 32 {
			if f != api.OK || k == (aes.Keys{}) {
				t.Errorf("Schedule of 32 bytes tells %d, and %x", f, k)
			}
			continue
		}
		if f != api.Form || k != (aes.Keys{}) {
			t.Errorf("Schedule of %d bytes tells %d, and %x", size, f, k)
		}
	}
	for _, key := range [][]byte{nil, {}, make([]byte, 1<<16), make([]byte, 1<<8+32)} {
		if k, f := aes.Schedule(key); f != api.Form || k != (aes.Keys{}) {
			t.Errorf("Schedule of %d bytes tells %d, and %x", len(key), f, k)
		}
	}
}

// The key stays as it was, and so does what stands behind it in the same memory; what is changed in it later changes no keys.
func TestScheduleLeavesTheKey(t *testing.T) {
	room := rows(6, 100)()
	given := bytes.Clone(room)
	key := room[10:42]
	k := schedule(t, key)
	if !bytes.Equal(room, given) {
		t.Errorf("Schedule changed %x to %x", given, room)
	}
	was := k
	clear(room)
	if k != was {
		t.Error("the keys changed with the key")
	}
	if again := schedule(t, given[10:42]); again != was {
		t.Error("the same key has other keys the second time")
	}
}

// P1103

func TestEncrypt(t *testing.T) {
	const second = "603deb1015ca71be2b73aef0857d77811f352c073b6108d72d9810a30914dff4"
	for _, c := range []struct{ key, block, want string }{
		{hex.EncodeToString(counting()), "00112233445566778899aabbccddeeff", "8ea2b7ca516745bfeafc49904b496089"}, // FIPS 197, C.3, and the chapter's
		{second, "6bc1bee22e409f96e93d7e117393172a", "f3eed1bdb5d2a03c064b5a7e3db181f8"},                         // NIST SP 800-38A, F.1.5
		{second, "ae2d8a571e03ac9c9eb76fac45af8e51", "591ccb10d410ed26dc5ba74a31362870"},
		{second, "30c81c46a35ce411e5fbc1191a0a52ef", "b6ed21b99ca6f4f9f153e7b1beafed1d"},
		{second, "f69f2445df4f9b17ad2b417be66c3710", "23304b7a39f9f3ff067d8d8f9e24ecc7"},
	} {
		got := aes.Encrypt(schedule(t, unhex(t, c.key)), state(t, c.block))
		if got != state(t, c.want) {
			t.Errorf("Encrypt(%s, %s) = %x, not %s", c.key, c.block, got, c.want)
		}
	}
}

// library: the block under the key, by the library's cipher.
func library(t *testing.T, key []byte, block [16]byte) [16]byte {
	t.Helper()
	c, err := stdaes.NewCipher(key)
	if err != nil {
		t.Fatal(err)
	}
	var out [16]byte
	c.Encrypt(out[:], block[:])
	return out
}

func TestEncryptOfMany(t *testing.T) {
	next := rows(7, 32)
	keys := [][]byte{make([]byte, 32), bytes.Repeat([]byte{0xff}, 32), counting()}
	for range 10 {
		keys = append(keys, next())
	}
	for _, key := range keys {
		k := schedule(t, key)
		for _, block := range states(8, 300) {
			if got, want := aes.Encrypt(k, block), library(t, key, block); got != want {
				t.Errorf("Encrypt of %x under %x = %x, not %x", block, key, got, want)
			}
		}
	}
}

// Each bit of the key and of the block alone.
func TestEncryptOfSingleBits(t *testing.T) {
	for n := range 256 {
		key := make([]byte, 32)
		key[n/8] = 1 << (n % 8)
		var block [16]byte
		if got, want := aes.Encrypt(schedule(t, key), block), library(t, key, block); got != want {
			t.Errorf("Encrypt under the bit %d alone = %x, not %x", n, got, want)
		}
	}
	k := schedule(t, make([]byte, 32))
	for n := range 128 {
		var block [16]byte
		block[n/8] = 1 << (n % 8)
		if got, want := aes.Encrypt(k, block), library(t, make([]byte, 32), block); got != want {
			t.Errorf("Encrypt of the bit %d alone = %x, not %x", n, got, want)
		}
	}
}

// Keys that no schedule makes, by the chapter's words: each one counts, in its round.
func TestEncryptUnderAnyKeys(t *testing.T) {
	next := rows(9, 16)
	for range 200 {
		var k aes.Keys
		for at := range k {
			k[at] = [16]byte(next())
		}
		block := [16]byte(next())
		given, was := k, block
		want := aes.Add(block, k[0])
		for round := 1; round <= 14; round++ {
			want = aes.Shift(aes.Sub(want))
			if round < 14 {
				want = aes.Mix(want)
			}
			want = aes.Add(want, k[round])
		}
		if got := aes.Encrypt(k, block); got != want {
			t.Errorf("Encrypt(%x, %x) = %x, not %x", k, block, got, want)
		}
		if k != given || block != was {
			t.Error("Encrypt changed what was handed in")
		}
		for at := range k {
			other := k
			other[at][at] ^= 1
			if aes.Encrypt(other, block) == want {
				t.Errorf("Encrypt under another key %d is the same", at)
			}
		}
	}
}

// Under the plain keys Add is nothing: what is left are the rounds themselves.
func TestEncryptUnderNoKeys(t *testing.T) {
	var want [16]byte
	for round := range 14 {
		for at, c := range want { // all bytes are alike: neither Shift nor Mix changes them
			want[at] = gf.Box(c)
		}
		if round < 13 && aes.Mix(want) != want {
			t.Errorf("Mix changes %x", want)
		}
	}
	if got := aes.Encrypt(aes.Keys{}, [16]byte{}); got != want {
		t.Errorf("Encrypt under no keys = %x, not %x", got, want)
	}
}

// No two blocks are made one: each byte at each place counts.
func TestEncryptKeepsBlocksApart(t *testing.T) {
	k := schedule(t, counting())
	seen := map[[16]byte][16]byte{}
	for n := range 256 {
		for at := range 16 {
			block := [16]byte{}
			block[at] = byte(n)
			out := aes.Encrypt(k, block)
			if other, there := seen[out]; there && other != block {
				t.Errorf("%x and %x are both made %x", other, block, out)
			}
			seen[out] = block
		}
	}
}

// P1104

func TestShiftFourTimes(t *testing.T) {
	for _, s := range states(10, 1000) {
		once := aes.Shift(s)
		if back := aes.Shift(aes.Shift(aes.Shift(once))); back != s {
			t.Errorf("Shift of %x four times = %x", s, back)
		}
	}
	var s [16]byte
	for at := range s {
		s[at] = byte(at)
	}
	for times := 1; times < 4; times++ { // and not sooner
		back := s
		for range times {
			back = aes.Shift(back)
		}
		if back == s {
			t.Errorf("Shift %d times is nothing", times)
		}
	}
}

func TestAddTwice(t *testing.T) {
	all := states(11, 1000)
	for i, s := range all {
		k := all[(3*i+5)%len(all)]
		if back := aes.Add(aes.Add(s, k), k); back != s {
			t.Errorf("Add of %x twice to %x = %x", k, s, back)
		}
		if aes.Add(s, s) != [16]byte{} {
			t.Errorf("Add of %x to itself = %x", s, aes.Add(s, s))
		}
	}
}
