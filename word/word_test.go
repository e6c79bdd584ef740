package word_test

import (
	"math"
	"math/big"
	"testing"

	"skerry/api"
	"skerry/word"
)

const most uint64 = math.MaxUint64

// numbers are such as stand at an edge of the range, or of a half of it.
var numbers = []uint64{
	0, 1, 2, 3, 5, 1<<31 - 1, 1 << 31, 1<<32 - 1, 1 << 32, 1<<32 + 1,
	1<<62 + 7, 1<<63 - 1, 1 << 63, 1<<63 + 1, most - 2, most - 1, most,
}

// words are such as show a bit that is lost, moved, or made up.
var words = []uint64{
	0, 1, 1 << 63, 1<<63 | 1, most, 0xaaaaaaaaaaaaaaaa, 0x5555555555555555,
	0x0123456789abcdef, 0xfedcba9876543210, 0x00000000ffffffff, 0xffffffff00000000,
}

// notFields are places and lengths that no field of a word has.
var notFields = [][2]int{
	{0, 0}, {0, -1}, {0, 65}, {0, math.MinInt}, {0, math.MaxInt},
	{-1, 1}, {-1, 2}, {-1, 64}, {-1, 65}, {-64, 64}, {math.MinInt, 1}, {math.MinInt, 64},
	{1, 64}, {2, 63}, {32, 33}, {63, 2}, {63, 64}, {64, 0}, {64, 1}, {65, 1}, {64, -1}, {63, 0}, {63, -1},
	{math.MaxInt, 1}, {math.MaxInt, 64}, {1, math.MaxInt}, {math.MaxInt, math.MaxInt},
	{math.MaxInt/2 + 1, math.MaxInt/2 + 1}, {math.MinInt, math.MinInt}, {math.MaxInt, 0},
	{math.MinInt, math.MaxInt}, {math.MaxInt, math.MinInt},
}

// fields calls f with the place and the length of each field of a word.
func fields(f func(at, n int)) {
	for n := 1; n <= 64; n++ {
		for at := 0; at+n <= 64; at++ {
			f(at, n)
		}
	}
}

// bit returns the bit i of v.
func bit(v uint64, i int) uint64 { return v >> i % 2 }

// fits returns the values of words that have no more than n bits, and the edges of these.
func fits(n int) []uint64 {
	top := uint64(1) << (n - 1)
	l := []uint64{0, 1, top, top + (top - 1)}
	for _, x := range words {
		if n == 64 || x < 2*top {
			l = append(l, x)
		}
	}
	return l
}

type calculation func(a, b uint64) (uint64, api.Errno)

// P1.1: the outcomes at the edges, written out.
func TestP1_1Edges(t *testing.T) {
	for _, x := range []struct {
		name string
		f    calculation
		a, b uint64
		want uint64
		err  api.Errno
	}{
		{"Add", word.Add, 0, 0, 0, api.OK},
		{"Add", word.Add, 2, 3, 5, api.OK},
		{"Add", word.Add, most, 0, most, api.OK},
		{"Add", word.Add, 0, most, most, api.OK},
		{"Add", word.Add, most - 1, 1, most, api.OK},
		{"Add", word.Add, 1 << 63, 1<<63 - 1, most, api.OK},
		{"Add", word.Add, most, 1, 0, api.ErrOver},
		{"Add", word.Add, 1, most, 0, api.ErrOver},
		{"Add", word.Add, 1 << 63, 1 << 63, 0, api.ErrOver},
		{"Add", word.Add, most, most, 0, api.ErrOver},
		{"Sub", word.Sub, 0, 0, 0, api.OK},
		{"Sub", word.Sub, 5, 3, 2, api.OK},
		{"Sub", word.Sub, most, 0, most, api.OK},
		{"Sub", word.Sub, most, most, 0, api.OK},
		{"Sub", word.Sub, 1 << 63, 1<<63 - 1, 1, api.OK},
		{"Sub", word.Sub, 0, 1, 0, api.ErrOver},
		{"Sub", word.Sub, 3, 5, 0, api.ErrOver},
		{"Sub", word.Sub, most - 1, most, 0, api.ErrOver},
		{"Sub", word.Sub, 0, most, 0, api.ErrOver},
		{"Mul", word.Mul, 0, 0, 0, api.OK},
		{"Mul", word.Mul, 6, 7, 42, api.OK},
		{"Mul", word.Mul, 0, most, 0, api.OK},
		{"Mul", word.Mul, most, 0, 0, api.OK},
		{"Mul", word.Mul, most, 1, most, api.OK},
		{"Mul", word.Mul, 1, most, most, api.OK},
		{"Mul", word.Mul, 1 << 31, 1 << 32, 1 << 63, api.OK},
		{"Mul", word.Mul, 1<<32 - 1, 1<<32 + 1, most, api.OK},
		{"Mul", word.Mul, 1 << 32, 1 << 32, 0, api.ErrOver},
		{"Mul", word.Mul, 1 << 63, 2, 0, api.ErrOver},
		{"Mul", word.Mul, most, 2, 0, api.ErrOver},
		{"Mul", word.Mul, most, most, 0, api.ErrOver},
	} {
		if got, err := x.f(x.a, x.b); got != x.want || err != x.err {
			t.Errorf("%s(%d, %d) = %d, %d; want %d, %d", x.name, x.a, x.b, got, err, x.want, x.err)
		}
	}
}

// P1.1: the outcomes of all pairs of numbers, by numbers without a range.
func TestP1_1Range(t *testing.T) {
	for _, x := range []struct {
		name  string
		f     calculation
		exact func(z, a, b *big.Int) *big.Int
	}{
		{"Add", word.Add, (*big.Int).Add}, {"Sub", word.Sub, (*big.Int).Sub}, {"Mul", word.Mul, (*big.Int).Mul},
	} {
		for _, a := range numbers {
			for _, b := range numbers {
				exact := x.exact(new(big.Int), new(big.Int).SetUint64(a), new(big.Int).SetUint64(b))
				want, wantErr := uint64(0), api.ErrOver
				if exact.IsUint64() {
					want, wantErr = exact.Uint64(), api.OK
				}
				if got, err := x.f(a, b); got != want || err != wantErr {
					t.Errorf("%s(%d, %d) = %d, %d; want %d, %d", x.name, a, b, got, err, want, wantErr)
				}
			}
		}
	}
}

// P1.1: granules at, below and above multiples of Granule, and of no words.
func TestP1_1Granules(t *testing.T) {
	const half = math.MaxInt / 2 // the greatest int is odd
	for _, x := range []struct{ n, up, down int }{
		{math.MinInt, 0, 0}, {math.MinInt + 1, 0, 0}, {-3, 0, 0}, {-2, 0, 0}, {-1, 0, 0}, {0, 0, 0},
		{1, 1, 0}, {2, 1, 1}, {3, 2, 1}, {4, 2, 2}, {5, 3, 2}, {6, 3, 3}, {7, 4, 3},
		{4095, 2048, 2047}, {4096, 2048, 2048}, {4097, 2049, 2048},
		{math.MaxInt - 2, half, half - 1}, {math.MaxInt - 1, half, half}, {math.MaxInt, half + 1, half},
	} {
		if up, down := word.Up(x.n), word.Down(x.n); up != x.up || down != x.down {
			t.Errorf("Up, Down of %d = %d, %d; want %d, %d", x.n, up, down, x.up, x.down)
		}
	}
}

// P1.2: what is cut and laid, written out.
func TestP1_2Examples(t *testing.T) {
	for _, x := range []struct {
		v     uint64
		at, n int
		want  uint64
	}{
		{0xf0, 4, 4, 15}, {0xf0, 3, 4, 14}, {0xf0, 5, 4, 7}, {0xabcd << 40, 44, 8, 0xbc},
		{most, 0, 1, 1}, {most, 63, 1, 1}, {most, 0, 64, most}, {0, 0, 64, 0}, {0, 63, 1, 0},
		{1 << 63, 0, 63, 0}, {1 << 63, 1, 63, 1 << 62}, {1 << 63, 63, 1, 1}, {1, 0, 1, 1}, {1, 1, 63, 0},
		{0x0123456789abcdef, 0, 64, 0x0123456789abcdef}, {0x0123456789abcdef, 60, 4, 0}, {0x0123456789abcdef, 56, 8, 1},
	} {
		if got, err := word.Bits(x.v, x.at, x.n); got != x.want || err != api.OK {
			t.Errorf("Bits(%#x, %d, %d) = %#x, %d; want %#x", x.v, x.at, x.n, got, err, x.want)
		}
	}
	for _, x := range []struct {
		v     uint64
		at, n int
		x     uint64
		want  uint64
	}{
		{0xf0, 4, 4, 1, 16}, {0xf0, 4, 4, 0, 0}, {0xf0, 0, 4, 15, 0xff}, {most, 8, 16, 0, 0xffffffffff0000ff},
		{5, 0, 64, 9, 9}, {5, 0, 64, most, most}, {most, 0, 64, 0, 0}, {0, 63, 1, 1, 1 << 63}, {most, 63, 1, 0, 1<<63 - 1},
		{0, 0, 1, 1, 1}, {most, 0, 1, 0, most - 1}, {1, 1, 63, 1<<63 - 1, most},
	} {
		if got, err := word.Lay(x.v, x.at, x.n, x.x); got != x.want || err != api.OK {
			t.Errorf("Lay(%#x, %d, %d, %#x) = %#x, %d; want %#x", x.v, x.at, x.n, x.x, got, err, x.want)
		}
	}
}

// P1.2: Bits of every field, bit by bit.
func TestP1_2EveryField(t *testing.T) {
	fields(func(at, n int) {
		for _, v := range words {
			got, err := word.Bits(v, at, n)
			if err != api.OK {
				t.Fatalf("Bits(%#x, %d, %d): %d", v, at, n, err)
			}
			for i := range 64 {
				want := uint64(0)
				if i < n {
					want = bit(v, at+i)
				}
				if bit(got, i) != want {
					t.Fatalf("Bits(%#x, %d, %d) = %#x: bit %d", v, at, n, got, i)
				}
			}
		}
	})
}

// P1.2: places and lengths of no field are refused, and so is a number that has too many bits.
func TestP1_2Refused(t *testing.T) {
	for _, x := range notFields {
		for _, v := range words {
			if got, err := word.Bits(v, x[0], x[1]); got != 0 || err != api.ErrArg {
				t.Errorf("Bits(%#x, %d, %d) = %#x, %d", v, x[0], x[1], got, err)
			}
			for _, laid := range []uint64{0, 1, most} {
				if got, err := word.Lay(v, x[0], x[1], laid); got != 0 || err != api.ErrArg {
					t.Errorf("Lay(%#x, %d, %d, %#x) = %#x, %d", v, x[0], x[1], laid, got, err)
				}
			}
		}
	}
	fields(func(at, n int) {
		if n == 64 {
			return
		}
		for _, x := range []uint64{1 << n, 1<<n + 1, 1 << 63, most} {
			if got, err := word.Lay(0x0123456789abcdef, at, n, x); got != 0 || err != api.ErrArg {
				t.Errorf("Lay(.., %d, %d, %#x) = %#x, %d", at, n, x, got, err)
			}
		}
	})
}

// P1.2: bits are counted, and the lowest one is found.
func TestP1_2OnesLow(t *testing.T) {
	for _, x := range []struct {
		v         uint64
		ones, low int
	}{
		{0, 0, 64}, {1, 1, 0}, {4, 1, 2}, {5, 2, 0}, {6, 2, 1}, {most, 64, 0}, {1<<63 | 7, 4, 0},
		{0xaaaaaaaaaaaaaaaa, 32, 1}, {0x5555555555555555, 32, 0}, {0xffffffff00000000, 32, 32},
	} {
		if ones, low := word.Ones(x.v), word.Low(x.v); ones != x.ones || low != x.low {
			t.Errorf("Ones, Low of %#x = %d, %d; want %d, %d", x.v, ones, low, x.ones, x.low)
		}
	}
	for i := range 64 {
		// The bit i alone; it and all above; all but it; all below.
		alone := uint64(1) << i
		if word.Ones(alone) != 1 || word.Low(alone) != i {
			t.Errorf("the bit %d: %d, %d", i, word.Ones(alone), word.Low(alone))
		}
		if above := most << i; word.Ones(above) != 64-i || word.Low(above) != i {
			t.Errorf("from the bit %d on: %d, %d", i, word.Ones(above), word.Low(above))
		}
		if word.Ones(^alone) != 63 {
			t.Errorf("all but the bit %d: %d", i, word.Ones(^alone))
		}
		if word.Ones(alone-1) != i {
			t.Errorf("below the bit %d: %d", i, word.Ones(alone-1))
		}
	}
}

// P1.3: Bits returns what Lay stored, and no other bit is changed.
func TestP1_3Laid(t *testing.T) {
	fields(func(at, n int) {
		for _, v := range words {
			for _, x := range fits(n) {
				laid, err := word.Lay(v, at, n, x)
				if err != api.OK {
					t.Fatalf("Lay(%#x, %d, %d, %#x): %d", v, at, n, x, err)
				}
				if got, err := word.Bits(laid, at, n); got != x || err != api.OK {
					t.Fatalf("Bits after Lay(%#x, %d, %d, %#x) = %#x, %d", v, at, n, x, got, err)
				}
				for i := range 64 {
					if (i < at || i >= at+n) && bit(laid, i) != bit(v, i) {
						t.Fatalf("Lay(%#x, %d, %d, %#x) changed the bit %d", v, at, n, x, i)
					}
				}
			}
			cut, _ := word.Bits(v, at, n)
			if same, err := word.Lay(v, at, n, cut); same != v || err != api.OK {
				t.Fatalf("Lay of what %#x has at %d, %d = %#x, %d", v, at, n, same, err)
			}
		}
	})
}

// P1.3: sums, differences and products can be inverted.
func TestP1_3Inverted(t *testing.T) {
	for _, a := range numbers {
		for _, b := range numbers {
			if sum, err := word.Add(a, b); err == api.OK {
				first, err1 := word.Sub(sum, b)
				second, err2 := word.Sub(sum, a)
				if first != a || second != b || err1 != api.OK || err2 != api.OK {
					t.Errorf("%d + %d = %d, less each: %d, %d", a, b, sum, first, second)
				}
			}
			if difference, err := word.Sub(a, b); err == api.OK {
				if sum, err := word.Add(difference, b); sum != a || err != api.OK {
					t.Errorf("%d - %d = %d, plus that: %d", a, b, difference, sum)
				}
			} else if _, err := word.Sub(b, a); err != api.OK {
				t.Errorf("neither %d - %d nor %d - %d", a, b, b, a)
			}
			if product, err := word.Mul(a, b); err == api.OK && b != 0 {
				if product/b != a || product%b != 0 {
					t.Errorf("%d * %d = %d, divided: %d", a, b, product, product/b)
				}
			}
		}
	}
}

// P1.3: Down is at most Up, and is equal to it exactly at multiples of Granule, from 0 on.
func TestP1_3UpDown(t *testing.T) {
	check := func(n int) {
		up, down := word.Up(n), word.Down(n)
		if down > up {
			t.Errorf("Down(%d) = %d is above Up: %d", n, down, up)
		}
		if n >= 0 && (down == up) != (n%api.Granule == 0) {
			t.Errorf("Up, Down of %d = %d, %d", n, up, down)
		}
	}
	for n := -100; n <= 10000; n++ {
		check(n)
	}
	for i := range 100 {
		check(math.MinInt + i)
		check(math.MaxInt - i)
	}
}
