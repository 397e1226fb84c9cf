package field_test

import (
	"crypto/sha256"
	"encoding/hex"
	"math/big"
	"strings"
	"testing"

	"cloak/field"
)

// P2.4
func TestShaExamples(t *testing.T) {
	for s, want := range map[string]string{
		"":    "e3b0c44298fc1c149afbf4c8996fb92427ae41e4649b934ca495991b7852b855",
		"abc": "ba7816bf8f01cfea414140de5dae2223b00361a396177a9cb410ff61f20015ad",
		"abcdbcdecdefdefgefghfghighijhijkijkljklmklmnlmnomnopnopq": "248d6a61d20638b8e5c026930c3e6039a33ce45964ff2167f6ecedd419db06c1",
	} {
		if got := hex.EncodeToString([]byte(field.Sha(s))); got != want {
			t.Error(s, got)
		}
	}
}

// P2.4: all lengths around the ends of blocks, and all bytes.
func TestShaLengths(t *testing.T) {
	r := random()
	bytes := make([]byte, 400)
	for i := range bytes {
		bytes[i] = byte(r.Uint32())
	}
	lengths := []int{1 << 16, 1<<16 + 55, 1<<16 + 56, 1 << 20}
	for n := range bytes {
		lengths = append(lengths, n)
	}
	for _, n := range lengths {
		for _, s := range []string{strings.Repeat(string(bytes), n/len(bytes)+1)[:n], strings.Repeat("\x00", n), strings.Repeat("\xff", n)} {
			want := sha256.Sum256([]byte(s))
			if field.Sha(s) != string(want[:]) {
				t.Error(n)
			}
		}
	}
}

// P2.4
func TestNumber(t *testing.T) {
	if n := field.Number("abc", 256); n != 173 {
		t.Error(n)
	}
	if n := field.Number("abc", 65536); n != 5549 {
		t.Error(n)
	}
	for _, s := range []string{"", "a", "abc", strings.Repeat("x", 1000), "\x00", "\xff\xfe"} {
		digest := sha256.Sum256([]byte(s))
		whole := new(big.Int).SetBytes(digest[:])
		for _, n := range moduli {
			want := new(big.Int).Mod(whole, big.NewInt(int64(n))).Int64()
			if got := field.Number(s, n); got != int(want) {
				t.Error(s, n, got)
			}
		}
		for _, n := range notModuli {
			if got := field.Number(s, n); got != 0 {
				t.Error(s, n, got)
			}
		}
	}
}
