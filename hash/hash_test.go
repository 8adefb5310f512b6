package hash_test

import (
	"bytes"
	"encoding/binary"
	"hash/fnv"
	"math"
	"math/big"
	"slices"
	"testing"

	"lariat/api"
	"lariat/hash"
)

// sum: what the chapter says of b, told by the library.
func sum(b []byte) uint64 {
	h := fnv.New64a()
	h.Write(b)
	return h.Sum64()
}

func numbers() []uint64 {
	return []uint64{0, 1, 2, 255, 256, 257, 0x0102030405060708, 0x8000000000000000, 0x00ff00ff00ff00ff, 1 << 56, 1<<56 - 1, math.MaxInt64, math.MaxUint64, math.MaxUint64 - 1, 14695981039346656037, 1099511628211}
}

// P4.1
func TestBytes(t *testing.T) {
	for s, want := range map[string]uint64{"": 14695981039346656037, "a": 12638187200555641996, "foobar": 0x85944171f73967e8} {
		if got := hash.Bytes([]byte(s)); got != want {
			t.Errorf("Bytes(%q) = %d, not %d", s, got, want)
		}
	}
	if hash.Bytes(nil) != 14695981039346656037 {
		t.Error("Bytes(nil)")
	}
	l := [][]byte{{0}, {0, 0}, {255}, {255, 0}, {0, 255}, {1, 2, 3}, {3, 2, 1}, bytes.Repeat([]byte{0}, 100), bytes.Repeat([]byte{255}, api.MaxText)}
	for i := range 256 {
		l = append(l, []byte{byte(i)}, []byte{7, byte(i)}, []byte{byte(i), 7})
	}
	for _, b := range l {
		if got := hash.Bytes(b); got != sum(b) {
			t.Errorf("Bytes of %d bytes, %v ..: %d, not %d", len(b), b[:1], got, sum(b))
		}
	}
}

// P4.1: step by step, without anything that goes round by itself.
func TestBytesByHand(t *testing.T) {
	b := []byte("The lasso's loop \x00\x80\xff")
	n := new(big.Int).SetUint64(14695981039346656037)
	for i, x := range b {
		n.Xor(n, big.NewInt(int64(x)))
		n.Mul(n, big.NewInt(1099511628211))
		n.Mod(n, new(big.Int).Lsh(big.NewInt(1), 64))
		if got := hash.Bytes(b[:i+1]); got != n.Uint64() {
			t.Errorf("%q: %d, not %v", b[:i+1], got, n)
		}
	}
}

// P4.2, and the eight bytes of P4.1
func TestInts(t *testing.T) {
	l := [][]int{nil, {}, {0}, {-1}, {1, 0}, {0, 1}, {math.MinInt}, {math.MaxInt}, {-256, 255, 256}, {math.MinInt, math.MaxInt, -1, 0, 1}, make([]int, api.MaxCells)}
	for _, u := range numbers() {
		l = append(l, []int{int(u)}, []int{int(u), 3}, []int{3, int(u), -int(u)})
	}
	for _, x := range l {
		var b []byte
		for _, n := range x {
			b = binary.LittleEndian.AppendUint64(b, uint64(n))
		}
		if got := hash.Ints(x); got != sum(b) || got != hash.Bytes(b) {
			t.Errorf("Ints(%v) = %d, not %d", x, got, sum(b))
		}
	}
	if hash.Ints(nil) != 14695981039346656037 || hash.Ints([]int{-2}) != hash.Bytes([]byte{254, 255, 255, 255, 255, 255, 255, 255}) || hash.Ints([]int{1 << 40}) != hash.Bytes([]byte{0, 0, 0, 0, 0, 1, 0, 0}) {
		t.Error("the eight bytes")
	}
}

// P4.2
func TestMix(t *testing.T) {
	for _, a := range numbers() {
		for _, b := range numbers() {
			want := sum(binary.LittleEndian.AppendUint64(binary.LittleEndian.AppendUint64(nil, a), b))
			if got := hash.Mix(a, b); got != want {
				t.Errorf("Mix(%d, %d) = %d, not %d", a, b, got, want)
			}
			if got := hash.Ints([]int{int(a), int(b)}); got != want {
				t.Errorf("Ints of %d, %d: %d, not %d", a, b, got, want)
			}
		}
	}
	if hash.Mix(1, 2) == hash.Mix(2, 1) || hash.Mix(1, 2) != hash.Bytes([]byte{1, 0, 0, 0, 0, 0, 0, 0, 2, 0, 0, 0, 0, 0, 0, 0}) {
		t.Error("the first one's bytes stand ahead")
	}
}

// P4.2
func TestBucket(t *testing.T) {
	for _, h := range numbers() {
		for _, n := range []int{1, 2, 3, 7, 10, 1023, 1024, 1 << 20, 1 << 32, math.MaxInt - 1, math.MaxInt} {
			want := new(big.Int).Mod(new(big.Int).SetUint64(h), big.NewInt(int64(n))).Int64()
			if got := hash.Bucket(h, n); got != int(want) {
				t.Errorf("Bucket(%d, %d) = %d, not %d", h, n, got, want)
			}
		}
		for _, n := range []int{0, -1, -2, -1024, math.MinInt, math.MinInt + 1} {
			if got := hash.Bucket(h, n); got != 0 {
				t.Errorf("Bucket(%d, %d) = %d", h, n, got)
			}
		}
	}
	if hash.Bucket(10, 4) != 2 || hash.Bucket(math.MaxUint64, 10) != 5 || hash.Bucket(1<<63, 1<<62) != 0 || hash.Bucket(math.MaxUint64, math.MaxInt) != 1 {
		t.Error("Bucket")
	}
}

// P4.3
func TestOneByte(t *testing.T) {
	for _, list := range [][]byte{{0}, {0, 0}, []byte("lariat"), bytes.Repeat([]byte{255}, 9), bytes.Repeat([]byte{1, 128}, 20)} {
		for place := range list {
			of := map[uint64]int{}
			for x := range 256 {
				b := slices.Clone(list)
				b[place] = byte(x)
				h := hash.Bytes(b)
				if other, is := of[h]; is {
					t.Errorf("%v: at %d both %d and %d make %d", list, place, other, x, h)
				}
				of[h] = x
			}
		}
	}
}

// The rules that hold everywhere: nothing that is handed in is changed, and nothing behind its length plays a part.
func TestArgumentsStay(t *testing.T) {
	b, l := []byte{1, 2, 3, 4}, []int{1, -2, 3, 4}
	if hash.Bytes(b[:2]) != hash.Bytes([]byte{1, 2}) || hash.Ints(l[:2]) != hash.Ints([]int{1, -2}) {
		t.Error("what lies behind the length plays a part")
	}
	if !slices.Equal(b, []byte{1, 2, 3, 4}) || !slices.Equal(l, []int{1, -2, 3, 4}) {
		t.Error(b, l)
	}
}
