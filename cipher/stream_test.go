package cipher_test

import (
	"bytes"
	"math"
	"math/big"
	"slices"
	"testing"

	"mantle/api"
	"mantle/cipher"
)

func hex(s string) *big.Int {
	x, ok := new(big.Int).SetString(s, 16)
	if !ok {
		panic(s)
	}
	return x
}

// exact is m(k) by the numbers of arithmetic, which are brought below 2^64 wherever they may have grown.
func exact(key, k uint64) uint64 {
	round := new(big.Int).Lsh(big.NewInt(1), 64)
	z := new(big.Int).SetUint64(k)
	z.Add(z, big.NewInt(1))
	z.Mul(z, hex("9E3779B97F4A7C15"))
	z.Add(z, new(big.Int).SetUint64(key))
	z.Mod(z, round)
	for _, x := range []struct {
		down  uint
		times string
	}{{30, "BF58476D1CE4E5B9"}, {27, "94D049BB133111EB"}, {31, "1"}} {
		z.Xor(z, new(big.Int).Rsh(z, x.down))
		z.Mul(z, hex(x.times))
		z.Mod(z, round)
	}
	return z.Uint64()
}

func wantStream(t *testing.T, key uint64, at int64, n int, want []byte) {
	t.Helper()
	if got := cipher.Stream(key, at, n); !bytes.Equal(got, want) {
		t.Errorf("Stream(%x, %d, %d) answers %.64x, %d bytes, want %.64x, %d", key, at, n, got, len(got), want, len(want))
	}
}

func TestExamplesOfStream(t *testing.T) {
	wantStream(t, 0, 0, 8, []byte{0xAF, 0xCD, 0x1D, 0x7B, 0x39, 0xA8, 0x20, 0xE2})
	if m := exact(0, 0); m != 0xE220A8397B1DCDAF {
		t.Errorf("m(0) is %X", m)
	}
	wantStream(t, 0, 7, 2, []byte{0xE2, byte(exact(0, 1))})
	wantStream(t, 0, -1, 2, nil)
	wantStream(t, 0, 0, 65537, nil)
}

// ks are numbers of which m is asked: the first ones, and those at which something wraps round, up to the highest that a place has.
func ks() []uint64 {
	l := []uint64{255, 256, 8191, 8192, 1 << 27, 1<<27 - 1, 1<<32 - 1, 1 << 32, 1 << 59, 1<<60 - 8193, 1<<60 - 2, 1<<60 - 1}
	for k := range uint64(20) {
		l = append(l, k)
	}
	return l
}

// Each number m by the numbers of arithmetic, byte by byte, at each key.
func TestP121Numbers(t *testing.T) {
	for _, key := range keys() {
		for _, k := range ks() {
			m := exact(key, k)
			for i := range uint64(8) {
				want := byte(m >> (8 * i))
				if got := byteOf(key, 8*k+i); got != want {
					t.Fatalf("on paper the byte %d of m(%d) of %x is %x, want %x", i, k, key, got, want)
				}
				wantStream(t, key, int64(8*k+i), 1, []byte{want})
			}
		}
	}
}

// The numbers of two keys, as others have told them.
func TestP121Known(t *testing.T) {
	for key, l := range map[uint64][]uint64{
		0:       {0xE220A8397B1DCDAF, 0x6E789E6AA1B965F4, 0x06C45D188009454F, 0xF88BB8A8724C81EC, 0x1B39896A51A8749B},
		1234567: {6457827717110365317, 3203168211198807973, 9817491932198370423, 4593380528125082431, 16408922859458223821},
	} {
		var want []byte
		for _, m := range l {
			for i := range 8 {
				want = append(want, byte(m>>(8*i)))
			}
		}
		wantStream(t, key, 0, len(want), want)
	}
}

// Places of every remainder by 8, and lengths that end ahead of, at and behind the borders of the numbers.
func TestP121Places(t *testing.T) {
	for _, key := range keys() {
		for at := range int64(20) {
			for n := range 30 {
				wantStream(t, key, at, n, streamOf(key, at, n))
			}
		}
		for _, at := range []int64{1<<16 - 3, 1<<32 - 5, api.MaxSize - 1, api.MaxSize, api.MaxSize + 1, 1 << 62} {
			for r := range int64(8) {
				for _, n := range []int{0, 1, 7, 8, 9, 64} {
					wantStream(t, key, at+r, n, streamOf(key, at+r, n))
				}
			}
		}
	}
}

// At most MaxText bytes, and none of one more, at all places.
func TestP121MaxText(t *testing.T) {
	for _, key := range []uint64{0, 1, 1 << 63, math.MaxUint64} {
		for _, at := range []int64{0, 1, 7, 8, 9, api.MaxSize, math.MaxInt64 - api.MaxText, math.MaxInt64} {
			for _, n := range []int{api.MaxText - 1, api.MaxText} {
				wantStream(t, key, at, n, streamOf(key, at, n))
			}
			for _, n := range []int{api.MaxText + 1, api.MaxText + 8, 1 << 40, math.MaxInt - 1, math.MaxInt} {
				wantStream(t, key, at, n, nil)
			}
		}
	}
}

// The highest places that there are: what stands behind them goes on, and does not begin anew.
func TestP121Highest(t *testing.T) {
	for _, key := range keys() {
		for back := range int64(20) {
			for n := range 40 {
				wantStream(t, key, math.MaxInt64-back, n, streamOf(key, math.MaxInt64-back, n))
			}
		}
		var want []byte
		for k := uint64(1<<60 - 1); k < 1<<60+2; k++ {
			for i := range 8 {
				want = append(want, byte(exact(key, k)>>(8*i)))
			}
		}
		wantStream(t, key, math.MaxInt64-7, 24, want)
		wantStream(t, key, math.MaxInt64, 17, want[7:])
	}
}

// None of a place or a number below 0.
func TestP121None(t *testing.T) {
	for _, key := range keys() {
		for _, bad := range []int{-1, -2, -8, -api.MaxText, math.MinInt, math.MinInt + 1} {
			for _, at := range []int64{math.MinInt64, -1, 0, 1, 8, math.MaxInt64} {
				wantStream(t, key, at, bad, nil)
			}
			for _, n := range []int{math.MinInt, -1, 0, 1, 8, api.MaxText, api.MaxText + 1, math.MaxInt} {
				wantStream(t, key, int64(bad), n, nil)
			}
		}
		for _, at := range []int64{0, 1, 7, 8, math.MaxInt64} {
			wantStream(t, key, at, 0, nil)
		}
	}
}

// An answer is new memory each time, with the room behind it.
func TestP121NewMemory(t *testing.T) {
	for n := range 40 {
		one, two := cipher.Stream(5, 3, n), cipher.Stream(5, 3, n)
		for i := range one[:cap(one)] {
			one[:cap(one)][i] = 'x'
		}
		if !bytes.Equal(two, streamOf(5, 3, n)) {
			t.Error("two answers share memory")
		}
		wantStream(t, 5, 3, n, two)
	}
}

// Streams of stretches side by side are the stream of the whole.
func TestP126SideBySide(t *testing.T) {
	for _, key := range keys() {
		for _, at := range []int64{0, 3, 8, 1<<32 - 9, math.MaxInt64 - 20} {
			whole := cipher.Stream(key, at, 21)
			for a := range 21 {
				for b := a; b < 21; b++ {
					parts := slices.Concat(cipher.Stream(key, at, a), cipher.Stream(key, at+int64(a), b-a), cipher.Stream(key, at+int64(b), 21-b))
					if len(whole) != 21 || !bytes.Equal(parts, whole) {
						t.Fatalf("key %x, from %d on: %x of %d, %d and %d bytes, %x of all", key, at, parts, a, b-a, 21-b, whole)
					}
				}
			}
		}
	}
	c := chance(126)
	for range 40 {
		key, at, n := c.key(), int64(c.below(1<<30)), c.below(api.MaxText+1)
		whole := cipher.Stream(key, at, n)
		var parts []byte
		for len(parts) < n {
			more := min(1+c.below(9000), n-len(parts))
			parts = append(parts, cipher.Stream(key, at+int64(len(parts)), more)...)
		}
		if len(whole) != n || !bytes.Equal(parts, whole) {
			t.Fatalf("key %x, from %d on, %d bytes: the stretches' streams are another one", key, at, n)
		}
	}
}

// A place's byte hangs on key and place alone: it is the same whatever was asked ahead, and in whatever stretch it lies.
func TestP126KeyAndPlace(t *testing.T) {
	c := chance(1261)
	for range 3000 {
		key, at, n := c.key(), int64(c.below(300)), 1+c.below(100)
		i := c.below(n)
		b := cipher.Stream(key, at, n)
		if one := cipher.Stream(key, at+int64(i), 1); len(b) != n || len(one) != 1 || b[i] != one[0] || one[0] != byteOf(key, uint64(at)+uint64(i)) {
			t.Fatalf("key %x, at %d: %x of %x", key, at+int64(i), one, b)
		}
	}
	seen := map[string]uint64{}
	for _, key := range keys() {
		b := string(cipher.Stream(key, 0, 16))
		if other, ok := seen[b]; ok {
			t.Errorf("the keys %x and %x have one stream", key, other)
		}
		seen[b] = key
	}
}
