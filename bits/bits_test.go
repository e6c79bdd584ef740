package bits_test

import (
	"math"
	"slices"
	"testing"

	"skerry/api"
	"skerry/bits"
)

// lengths are such as a vector may have: none, one, those about the ends of words, and the greatest ones.
var lengths = []int{0, 1, 2, 62, 63, 64, 65, 100, 127, 128, 129, 192, 200, 1000, 1024, api.MaxBits - 65, api.MaxBits - 64, api.MaxBits - 1, api.MaxBits}

// short are those of them that are gone over bit by bit, or range by range.
var short = []int{0, 1, 2, 63, 64, 65, 127, 128, 129, 200}

// notBits are numbers that no bit of a vector has.
var notBits = []int{-1, -2, -63, -64, -65, -api.MaxBits, math.MinInt + 1, math.MinInt, api.MaxBits, api.MaxBits + 1, 1 << 32, 1 << 62, math.MaxInt - 1, math.MaxInt}

// notRanges are places and lengths that a vector of 70 bits has no range of.
var notRanges = [][2]int{
	{-1, 0}, {-1, 1}, {-1, 2}, {-1, 70}, {-1, 71}, {-1, 72}, {-64, 64}, {-64, 65}, {-70, 70}, {-2, -2},
	{0, -1}, {1, -1}, {64, -1}, {69, -1}, {70, -1}, {71, -1}, {70, -70},
	{0, 71}, {1, 70}, {6, 65}, {63, 8}, {64, 7}, {65, 6}, {69, 2}, {70, 1}, {70, 2}, {71, 0}, {71, 1}, {72, -2}, {127, 1}, {128, 0}, {100, -100},
	{math.MaxInt, 0}, {math.MaxInt, 1}, {0, math.MaxInt}, {1, math.MaxInt}, {70, math.MaxInt}, {math.MaxInt, math.MaxInt},
	{math.MaxInt/2 + 1, math.MaxInt/2 + 1}, {1 << 62, 1 << 62}, {math.MaxInt - 69, 70}, {70, math.MaxInt - 69},
	{math.MinInt, 0}, {math.MinInt, 1}, {math.MinInt, math.MinInt}, {math.MinInt, math.MaxInt}, {math.MaxInt, math.MinInt},
	{0, math.MinInt}, {1, math.MinInt}, {70, math.MinInt}, {-1, math.MinInt}, {-1, math.MaxInt},
}

// model is what a vector should be: a state for each bit.
type model []bool

func (m model) fill(i, n int, state bool) {
	for k := i; k < i+n; k++ {
		m[k] = state
	}
}

// next returns the lowest bit from i on that has the state.
func (m model) next(i int, state bool) (int, bool) {
	for k := max(i, 0); k < len(m); k++ {
		if m[k] == state {
			return k, true
		}
	}
	return 0, false
}

func (m model) prev(i int) (int, bool) {
	for k := min(i, len(m)-1); k >= 0; k-- {
		if m[k] {
			return k, true
		}
	}
	return 0, false
}

func (m model) count(i, n int) int {
	count := 0
	for _, set := range m[i : i+n] {
		if set {
			count++
		}
	}
	return count
}

func (m model) runs() []api.Run {
	var list []api.Run
	for i, set := range m {
		switch {
		case !set:
		case i > 0 && m[i-1]:
			list[len(list)-1].Len++
		default:
			list = append(list, api.Run{At: i, Len: 1})
		}
	}
	return list
}

// made returns a vector that New made.
func made(t *testing.T, n int) *bits.Bits {
	t.Helper()
	b, err := bits.New(n)
	if b == nil || err != api.OK {
		t.Fatalf("New(%d) = %v, %d", n, b, err)
	}
	return b
}

// laid returns a vector of n bits of which these runs are set, and what it should be.
func laid(t *testing.T, n int, runs ...api.Run) (*bits.Bits, model) {
	t.Helper()
	b, m := made(t, n), make(model, n)
	for _, x := range runs {
		if err := b.SetRun(x.At, x.Len); err != api.OK {
			t.Fatalf("%d bits: SetRun(%d, %d): %d", n, x.At, x.Len, err)
		}
		m.fill(x.At, x.Len, true)
	}
	return b, m
}

// holds reports an error unless b has exactly the bits of m, asked one by one, counted, and as runs.
func holds(t *testing.T, name string, b *bits.Bits, m model) {
	t.Helper()
	if b.Len() != len(m) {
		t.Fatalf("%s: Len: %d, want %d", name, b.Len(), len(m))
	}
	for i, want := range m {
		if b.Has(i) != want {
			t.Fatalf("%s: of %d, Has(%d) = %t, want %t", name, len(m), i, b.Has(i), want)
		}
	}
	if got, err := b.Count(0, len(m)); got != m.count(0, len(m)) || err != api.OK {
		t.Fatalf("%s: Count(0, %d) = %d, %d; want %d", name, len(m), got, err, m.count(0, len(m)))
	}
	if got := b.Runs(); !slices.Equal(got, m.runs()) {
		t.Fatalf("%s: Runs of %d: %v; want %v", name, len(m), got, m.runs())
	}
}

// finds reports an error unless Next, NextClear and Prev from i answer as m has it.
func finds(t *testing.T, name string, b *bits.Bits, m model, i int) {
	t.Helper()
	want, found := m.next(i, true)
	if got, is := b.Next(i); got != want || is != found {
		t.Fatalf("%s: of %d, Next(%d) = %d, %t; want %d, %t", name, len(m), i, got, is, want, found)
	}
	want, found = m.next(i, false)
	if got, is := b.NextClear(i); got != want || is != found {
		t.Fatalf("%s: of %d, NextClear(%d) = %d, %t; want %d, %t", name, len(m), i, got, is, want, found)
	}
	want, found = m.prev(i)
	if got, is := b.Prev(i); got != want || is != found {
		t.Fatalf("%s: of %d, Prev(%d) = %d, %t; want %d, %t", name, len(m), i, got, is, want, found)
	}
}

// ranges calls f with the place and the length of each range of n bits whose ends are near an end of a word or of the vector.
func ranges(n int, f func(at, length int)) {
	var edges []int
	for i := 0; i <= n; i++ {
		if i%64 <= 2 || i%64 >= 62 || i >= n-2 || i%64 == 31 {
			edges = append(edges, i)
		}
	}
	for _, at := range edges {
		for _, end := range edges {
			if at <= end {
				f(at, end-at)
			}
		}
	}
}

// patterns calls f with vectors of n bits of several kinds, and what these should be.
func patterns(t *testing.T, n int, f func(name string, b *bits.Bits, m model)) {
	t.Helper()
	for _, x := range []struct {
		name string
		set  func(i int) bool
	}{
		{"none", func(i int) bool { return false }},
		{"all", func(i int) bool { return true }},
		{"even", func(i int) bool { return i%2 == 0 }},
		{"odd", func(i int) bool { return i%2 == 1 }},
		{"the first", func(i int) bool { return i == 0 }},
		{"the last", func(i int) bool { return i == n-1 }},
		{"all but the first", func(i int) bool { return i != 0 }},
		{"all but the last", func(i int) bool { return i != n-1 }},
		{"the first of words", func(i int) bool { return i%64 == 0 }},
		{"the last of words", func(i int) bool { return i%64 == 63 }},
		{"both ends of words", func(i int) bool { return i%64 == 0 || i%64 == 63 }},
		{"within words", func(i int) bool { return i%64 != 0 && i%64 != 63 }},
		{"every second word", func(i int) bool { return i/64%2 == 0 }},
		{"every other word", func(i int) bool { return i/64%2 == 1 }},
		{"every third", func(i int) bool { return i%3 == 0 }},
	} {
		b, m := made(t, n), make(model, n)
		for i := range n {
			m[i] = x.set(i)
			if m[i] {
				b.Set(i)
			}
		}
		f(x.name, b, m)
	}
}

// P3.1: a vector has so many bits, all clear.
func TestP3_1New(t *testing.T) {
	for _, n := range lengths {
		holds(t, "new", made(t, n), make(model, n))
	}
}

// P3.1: exactly the numbers from 0 to MaxBits are numbers of bits.
func TestP3_1Valid(t *testing.T) {
	check := func(n int) {
		b, err := bits.New(n)
		if n >= 0 && n <= 65536 {
			if b == nil || err != api.OK || b.Len() != n {
				t.Errorf("New(%d): %d", n, err)
			}
		} else if b != nil || err != api.ErrArg {
			t.Errorf("New(%d) = %v, %d", n, b, err)
		}
	}
	for n := -200; n <= 300; n++ {
		check(n)
	}
	for n := api.MaxBits - 70; n <= api.MaxBits+70; n++ {
		check(n)
	}
	for _, n := range []int{math.MinInt, math.MinInt + 1, -api.MaxBits, 2 * api.MaxBits, 1 << 32, 1<<32 + 64, 1 << 62, math.MaxInt - 63, math.MaxInt - 1, math.MaxInt} {
		check(n)
	}
}

// P3.1: a copy is equal.
func TestP3_1CopyEqual(t *testing.T) {
	for _, n := range lengths {
		patterns(t, n, func(name string, b *bits.Bits, m model) {
			c := b.Copy()
			if c == nil || c == b {
				t.Fatalf("%s: the copy of %p is %p", name, b, c)
			}
			holds(t, "copy of "+name, c, m)
			holds(t, name+", copied", b, m)
		})
	}
}

// P3.1: neither of an original and its copy is changed by what is done to the other one.
func TestP3_1CopyIndependent(t *testing.T) {
	for _, x := range []struct {
		name  string
		do    func(b *bits.Bits) api.Errno
		at, n int
		state bool
	}{
		{"Set of the first", func(b *bits.Bits) api.Errno { return b.Set(0) }, 0, 1, true},
		{"Set of the last", func(b *bits.Bits) api.Errno { return b.Set(129) }, 129, 1, true},
		{"Clear", func(b *bits.Bits) api.Errno { return b.Clear(64) }, 64, 1, false},
		{"SetRun", func(b *bits.Bits) api.Errno { return b.SetRun(0, 130) }, 0, 130, true},
		{"ClearRun", func(b *bits.Bits) api.Errno { return b.ClearRun(0, 130) }, 0, 130, false},
	} {
		for _, which := range []string{"original", "copy"} {
			b, m := laid(t, 130, api.Run{At: 60, Len: 10})
			changed, other := b, b.Copy()
			if which == "copy" {
				changed, other = other, changed
			}
			if err := x.do(changed); err != api.OK {
				t.Fatalf("%s, %s: %d", x.name, which, err)
			}
			holds(t, x.name+": what stays beside a changed "+which, other, m)
			m.fill(x.at, x.n, x.state)
			holds(t, x.name+": changed "+which, changed, m)
		}
	}
}

// P3.1: two vectors of New share nothing, and a copy's copy none with either.
func TestP3_1Apart(t *testing.T) {
	a, b := made(t, 65), made(t, 65)
	c := a.Copy()
	d := c.Copy()
	a.Set(0)
	b.Set(1)
	c.Set(64)
	d.Set(63)
	for k, x := range []struct {
		b  *bits.Bits
		at int
	}{{a, 0}, {b, 1}, {c, 64}, {d, 63}} {
		m := make(model, 65)
		m[x.at] = true
		holds(t, "vector "+string(rune('a'+k)), x.b, m)
	}
}

// P3.1: a nil vector has no bits and no copy.
func TestP3_1Nil(t *testing.T) {
	var b *bits.Bits
	if b.Len() != 0 || b.Copy() != nil {
		t.Errorf("nil: Len %d, Copy %v", b.Len(), b.Copy())
	}
}

// P3.2: each bit is set and cleared by itself, again without effect.
func TestP3_2SetClear(t *testing.T) {
	for _, n := range short {
		for i := range n {
			b, m := made(t, n), make(model, n)
			m[i] = true
			for range 2 {
				if err := b.Set(i); err != api.OK {
					t.Fatalf("of %d, Set(%d): %d", n, i, err)
				}
				holds(t, "set", b, m)
			}
			b.SetRun(0, n)
			m.fill(0, n, true)
			m[i] = false
			for range 2 {
				if err := b.Clear(i); err != api.OK {
					t.Fatalf("of %d, Clear(%d): %d", n, i, err)
				}
				holds(t, "cleared", b, m)
			}
		}
	}
}

// P3.2: the first and the last bits of the greatest vector, and of one just below.
func TestP3_2Greatest(t *testing.T) {
	for _, n := range []int{api.MaxBits - 1, api.MaxBits} {
		b, m := made(t, n), make(model, n)
		for _, i := range []int{0, 63, 64, n/2 - 1, n / 2, n - 65, n - 64, n - 2, n - 1} {
			if err := b.Set(i); err != api.OK {
				t.Fatalf("of %d, Set(%d): %d", n, i, err)
			}
			m[i] = true
		}
		holds(t, "set", b, m)
		for _, i := range []int{0, 64, n - 1} {
			if err := b.Clear(i); err != api.OK {
				t.Fatalf("of %d, Clear(%d): %d", n, i, err)
			}
			m[i] = false
		}
		holds(t, "cleared", b, m)
		if err := b.SetRun(0, n); err != api.OK {
			t.Fatalf("SetRun(0, %d): %d", n, err)
		}
		m.fill(0, n, true)
		holds(t, "all set", b, m)
		if err := b.ClearRun(1, n-2); err != api.OK {
			t.Fatalf("ClearRun(1, %d): %d", n-2, err)
		}
		m.fill(1, n-2, false)
		holds(t, "all but the ends cleared", b, m)
	}
}

// P3.2: SetRun and ClearRun of ranges at all edges, on vectors of several kinds.
func TestP3_2Runs(t *testing.T) {
	for _, n := range short {
		ranges(n, func(at, length int) {
			patterns(t, n, func(name string, b *bits.Bits, m model) {
				c := b.Copy()
				cleared := slices.Clone(m)
				if err := b.SetRun(at, length); err != api.OK {
					t.Fatalf("%s: of %d, SetRun(%d, %d): %d", name, n, at, length, err)
				}
				m.fill(at, length, true)
				holds(t, name+": set", b, m)
				if err := c.ClearRun(at, length); err != api.OK {
					t.Fatalf("%s: of %d, ClearRun(%d, %d): %d", name, n, at, length, err)
				}
				cleared.fill(at, length, false)
				holds(t, name+": cleared", c, cleared)
			})
		})
	}
}

// P3.2: every range of a vector of 70 bits.
func TestP3_2EveryRange(t *testing.T) {
	for at := 0; at <= 70; at++ {
		for length := 0; length <= 70-at; length++ {
			b, m := laid(t, 70, api.Run{At: at, Len: length})
			holds(t, "set", b, m)
			b.SetRun(0, 70)
			m.fill(0, 70, true)
			if err := b.ClearRun(at, length); err != api.OK {
				t.Fatalf("ClearRun(%d, %d): %d", at, length, err)
			}
			m.fill(at, length, false)
			holds(t, "cleared", b, m)
		}
	}
}

// P3.2: a bit or a range that there is not is refused, and nothing is changed.
func TestP3_2Refused(t *testing.T) {
	patterns(t, 70, func(name string, b *bits.Bits, m model) {
		for _, i := range append([]int{70, 71, 127, 128}, notBits...) {
			if err := b.Set(i); err != api.ErrArg {
				t.Errorf("%s: Set(%d): %d", name, i, err)
			}
			if err := b.Clear(i); err != api.ErrArg {
				t.Errorf("%s: Clear(%d): %d", name, i, err)
			}
			holds(t, name+": refused", b, m)
		}
		for _, x := range notRanges {
			if err := b.SetRun(x[0], x[1]); err != api.ErrArg {
				t.Errorf("%s: SetRun(%d, %d): %d", name, x[0], x[1], err)
			}
			if err := b.ClearRun(x[0], x[1]); err != api.ErrArg {
				t.Errorf("%s: ClearRun(%d, %d): %d", name, x[0], x[1], err)
			}
			holds(t, name+": refused", b, m)
		}
	})
}

// P3.2, P3.3: just behind the last bit of each length there is no bit, but an empty range.
func TestP3_2Ends(t *testing.T) {
	for _, n := range lengths {
		for _, set := range []int{0, n} {
			b, m := laid(t, n, api.Run{At: 0, Len: set})
			for _, err := range []api.Errno{b.Set(n), b.Clear(n), b.Set(n + 1), b.SetRun(n, 1), b.ClearRun(n, 1), b.SetRun(0, n+1), b.ClearRun(0, n+1), b.SetRun(n+1, 0), b.ClearRun(n+1, 0)} {
				if err != api.ErrArg {
					t.Errorf("%d: beyond the last: %d", n, err)
				}
			}
			for _, err := range []api.Errno{b.SetRun(n, 0), b.ClearRun(n, 0), b.SetRun(0, 0), b.ClearRun(0, 0)} {
				if err != api.OK {
					t.Errorf("%d: empty: %d", n, err)
				}
			}
			for _, x := range []struct {
				at, n int
				err   api.Errno
			}{{n, 0, api.OK}, {n, 1, api.ErrArg}, {n + 1, 0, api.ErrArg}, {0, n + 1, api.ErrArg}} {
				if got, err := b.Count(x.at, x.n); got != 0 || err != x.err {
					t.Errorf("%d: Count(%d, %d) = %d, %d; want 0, %d", n, x.at, x.n, got, err, x.err)
				}
			}
			holds(t, "ends", b, m)
		}
	}
}

// P3.2: each method of a nil vector returns ErrNil, also where what is asked would be refused.
func TestP3_2Nil(t *testing.T) {
	var b *bits.Bits
	for _, i := range append([]int{0, 1, 64}, notBits...) {
		if err := b.Set(i); err != api.ErrNil {
			t.Errorf("Set(%d): %d", i, err)
		}
		if err := b.Clear(i); err != api.ErrNil {
			t.Errorf("Clear(%d): %d", i, err)
		}
	}
	for _, x := range append([][2]int{{0, 0}, {0, 1}, {3, 64}}, notRanges...) {
		if err := b.SetRun(x[0], x[1]); err != api.ErrNil {
			t.Errorf("SetRun(%d, %d): %d", x[0], x[1], err)
		}
		if err := b.ClearRun(x[0], x[1]); err != api.ErrNil {
			t.Errorf("ClearRun(%d, %d): %d", x[0], x[1], err)
		}
	}
}

// P3.3: Has of what there is, and false of what there is not, also where all is set.
func TestP3_3Has(t *testing.T) {
	for _, n := range lengths {
		b, m := laid(t, n, api.Run{At: 0, Len: n})
		for _, i := range append([]int{n, n + 1, n + 63, n + 64}, notBits...) {
			if b.Has(i) {
				t.Errorf("of %d, all set: Has(%d)", n, i)
			}
		}
		holds(t, "all set", b, m)
	}
}

// P3.3: Next, NextClear and Prev from each place, on vectors of several kinds.
func TestP3_3Found(t *testing.T) {
	for _, n := range short {
		patterns(t, n, func(name string, b *bits.Bits, m model) {
			for i := -3; i <= n+130; i++ {
				finds(t, name, b, m, i)
			}
			for _, i := range notBits {
				finds(t, name, b, m, i)
			}
			holds(t, name+", asked", b, m)
		})
	}
}

// P3.3: a single bit that is set, or clear, is found from every place, over several words.
func TestP3_3FoundAlone(t *testing.T) {
	const n = 200
	for at := range n {
		set, m := laid(t, n, api.Run{At: at, Len: 1})
		for i := -1; i <= n; i++ {
			finds(t, "set alone", set, m, i)
		}
		cleared, m := laid(t, n, api.Run{At: 0, Len: at}, api.Run{At: at + 1, Len: n - at - 1})
		for i := -1; i <= n; i++ {
			finds(t, "clear alone", cleared, m, i)
		}
	}
}

// P3.3: the greatest vectors, from the edges.
func TestP3_3FoundGreatest(t *testing.T) {
	for _, n := range []int{api.MaxBits - 65, api.MaxBits - 1, api.MaxBits} {
		patterns(t, n, func(name string, b *bits.Bits, m model) {
			for _, i := range append([]int{0, 1, 63, 64, n / 2, n - 65, n - 64, n - 2, n - 1, n, n + 1}, notBits...) {
				finds(t, name, b, m, i)
			}
		})
	}
}

// P3.3: what is found, written out.
func TestP3_3FoundExamples(t *testing.T) {
	b, _ := laid(t, 130, api.Run{At: 2, Len: 2}, api.Run{At: 63, Len: 2}, api.Run{At: 128, Len: 2})
	all, _ := laid(t, 65, api.Run{At: 0, Len: 65})
	none, empty := made(t, 65), made(t, 0)
	for _, x := range []struct {
		name string
		f    func(i int) (int, bool)
		i    int
		want int
		is   bool
	}{
		{"Next", b.Next, math.MinInt, 2, true}, {"Next", b.Next, -1, 2, true}, {"Next", b.Next, 0, 2, true}, {"Next", b.Next, 2, 2, true},
		{"Next", b.Next, 3, 3, true}, {"Next", b.Next, 4, 63, true}, {"Next", b.Next, 64, 64, true}, {"Next", b.Next, 65, 128, true},
		{"Next", b.Next, 129, 129, true}, {"Next", b.Next, 130, 0, false}, {"Next", b.Next, math.MaxInt, 0, false},
		{"NextClear", b.NextClear, math.MinInt, 0, true}, {"NextClear", b.NextClear, 0, 0, true}, {"NextClear", b.NextClear, 2, 4, true},
		{"NextClear", b.NextClear, 63, 65, true}, {"NextClear", b.NextClear, 127, 127, true}, {"NextClear", b.NextClear, 128, 0, false},
		{"NextClear", b.NextClear, 130, 0, false}, {"NextClear", b.NextClear, math.MaxInt, 0, false},
		{"Prev", b.Prev, math.MaxInt, 129, true}, {"Prev", b.Prev, 130, 129, true}, {"Prev", b.Prev, 128, 128, true}, {"Prev", b.Prev, 127, 64, true},
		{"Prev", b.Prev, 63, 63, true}, {"Prev", b.Prev, 62, 3, true}, {"Prev", b.Prev, 2, 2, true}, {"Prev", b.Prev, 1, 0, false},
		{"Prev", b.Prev, -1, 0, false}, {"Prev", b.Prev, math.MinInt, 0, false},
		{"Next of all", all.Next, 64, 64, true}, {"Next of all", all.Next, 65, 0, false}, {"NextClear of all", all.NextClear, 0, 0, false},
		{"NextClear of all", all.NextClear, -1, 0, false}, {"Prev of all", all.Prev, 0, 0, true}, {"Prev of all", all.Prev, 65, 64, true},
		{"Next of none", none.Next, 0, 0, false}, {"NextClear of none", none.NextClear, 64, 64, true}, {"NextClear of none", none.NextClear, 65, 0, false},
		{"Prev of none", none.Prev, 64, 0, false},
		{"Next of no bit", empty.Next, 0, 0, false}, {"Next of no bit", empty.Next, -1, 0, false}, {"NextClear of no bit", empty.NextClear, 0, 0, false},
		{"NextClear of no bit", empty.NextClear, -1, 0, false}, {"Prev of no bit", empty.Prev, 0, 0, false}, {"Prev of no bit", empty.Prev, -1, 0, false},
	} {
		if got, is := x.f(x.i); got != x.want || is != x.is {
			t.Errorf("%s(%d) = %d, %t; want %d, %t", x.name, x.i, got, is, x.want, x.is)
		}
	}
}

// P3.3: Count of ranges at all edges, on vectors of several kinds.
func TestP3_3Count(t *testing.T) {
	for _, n := range short {
		patterns(t, n, func(name string, b *bits.Bits, m model) {
			ranges(n, func(at, length int) {
				if got, err := b.Count(at, length); got != m.count(at, length) || err != api.OK {
					t.Fatalf("%s: of %d, Count(%d, %d) = %d, %d; want %d", name, n, at, length, got, err, m.count(at, length))
				}
			})
			holds(t, name+", counted", b, m)
		})
	}
	all, _ := laid(t, api.MaxBits, api.Run{At: 0, Len: api.MaxBits})
	if got, err := all.Count(0, api.MaxBits); got != api.MaxBits || err != api.OK {
		t.Errorf("Count of the greatest, all set = %d, %d", got, err)
	}
}

// P3.3: Count of a range that there is not is refused, also where all is set.
func TestP3_3CountRefused(t *testing.T) {
	b, m := laid(t, 70, api.Run{At: 0, Len: 70})
	for _, x := range notRanges {
		if got, err := b.Count(x[0], x[1]); got != 0 || err != api.ErrArg {
			t.Errorf("Count(%d, %d) = %d, %d", x[0], x[1], got, err)
		}
	}
	holds(t, "refused", b, m)
}

// P3.3: Runs of none, of all, of single bits, and about words' ends, written out.
func TestP3_3Runs(t *testing.T) {
	for _, x := range []struct {
		name string
		n    int
		set  []api.Run
		want []api.Run
	}{
		{"no bit", 0, nil, nil},
		{"none", 130, nil, nil},
		{"one bit", 1, []api.Run{{At: 0, Len: 1}}, []api.Run{{At: 0, Len: 1}}},
		{"all of one word", 64, []api.Run{{At: 0, Len: 64}}, []api.Run{{At: 0, Len: 64}}},
		{"all", 130, []api.Run{{At: 0, Len: 130}}, []api.Run{{At: 0, Len: 130}}},
		{"all of the greatest", api.MaxBits, []api.Run{{At: 0, Len: api.MaxBits}}, []api.Run{{At: 0, Len: api.MaxBits}}},
		{"the ends", 130, []api.Run{{At: 129, Len: 1}, {At: 0, Len: 1}}, []api.Run{{At: 0, Len: 1}, {At: 129, Len: 1}}},
		{"that meet at a word's end", 130, []api.Run{{At: 60, Len: 4}, {At: 64, Len: 2}}, []api.Run{{At: 60, Len: 6}}},
		{"up to a word's end, and from behind it on", 130, []api.Run{{At: 60, Len: 4}, {At: 65, Len: 2}}, []api.Run{{At: 60, Len: 4}, {At: 65, Len: 2}}},
		{"a whole word alone", 200, []api.Run{{At: 64, Len: 64}}, []api.Run{{At: 64, Len: 64}}},
		{"words that meet", 200, []api.Run{{At: 128, Len: 64}, {At: 64, Len: 64}}, []api.Run{{At: 64, Len: 128}}},
		{"over several words, up to the last", 200, []api.Run{{At: 63, Len: 137}}, []api.Run{{At: 63, Len: 137}}},
		{"that touch within a word", 70, []api.Run{{At: 5, Len: 2}, {At: 9, Len: 1}, {At: 7, Len: 2}}, []api.Run{{At: 5, Len: 5}}},
		{"that overlap", 70, []api.Run{{At: 5, Len: 10}, {At: 8, Len: 3}, {At: 12, Len: 9}}, []api.Run{{At: 5, Len: 16}}},
	} {
		b, m := laid(t, x.n, x.set...)
		if got := b.Runs(); !slices.Equal(got, x.want) {
			t.Errorf("%s: %v; want %v", x.name, got, x.want)
		}
		holds(t, x.name, b, m)
	}
}

// P3.3: Runs is new memory: a list that is changed changes nothing else.
func TestP3_3RunsCopied(t *testing.T) {
	b, m := laid(t, 70, api.Run{At: 3, Len: 2}, api.Run{At: 62, Len: 4})
	first, second := b.Runs(), b.Runs()
	first[0], first[1] = api.Run{At: 1, Len: 1}, api.Run{}
	if !slices.Equal(second, m.runs()) {
		t.Errorf("Runs became %v", second)
	}
	b.SetRun(0, 70)
	if !slices.Equal(second, m.runs()) {
		t.Errorf("Runs changed with the vector: %v", second)
	}
	b.ClearRun(0, 70)
	b.SetRun(3, 2)
	b.SetRun(62, 4)
	holds(t, "changed behind it", b, m)
}

// P3.3: a nil vector has nothing.
func TestP3_3Nil(t *testing.T) {
	var b *bits.Bits
	for _, i := range append([]int{0, 1, 64}, notBits...) {
		if b.Has(i) {
			t.Errorf("Has(%d)", i)
		}
		finds(t, "nil", b, nil, i)
	}
	for _, x := range append([][2]int{{0, 0}, {0, 1}, {3, 64}}, notRanges...) {
		if got, err := b.Count(x[0], x[1]); got != 0 || err != api.ErrNil {
			t.Errorf("Count(%d, %d) = %d, %d", x[0], x[1], got, err)
		}
	}
	if got := b.Runs(); len(got) != 0 {
		t.Errorf("Runs: %v", got)
	}
}

// P3.3: the chapter's examples.
func TestP3_3Examples(t *testing.T) {
	b := made(t, 70)
	b.SetRun(62, 4)
	if got := b.Runs(); !slices.Equal(got, []api.Run{{At: 62, Len: 4}}) {
		t.Errorf("Runs: %v", got)
	}
	if got, is := b.Next(0); got != 62 || !is {
		t.Errorf("Next(0) = %d, %t", got, is)
	}
	if got, is := b.NextClear(62); got != 66 || !is {
		t.Errorf("NextClear(62) = %d, %t", got, is)
	}
	if got, is := b.Prev(69); got != 65 || !is {
		t.Errorf("Prev(69) = %d, %t", got, is)
	}
	if got, err := b.Count(60, 4); got != 2 || err != api.OK {
		t.Errorf("Count(60, 4) = %d, %d", got, err)
	}
	b.Clear(64)
	if got := b.Runs(); !slices.Equal(got, []api.Run{{At: 62, Len: 2}, {At: 65, Len: 1}}) {
		t.Errorf("Runs: %v", got)
	}
}

// draws returns a function that draws numbers below what it is given, the same ones each time.
func draws() func(below int) int {
	seed := uint64(1)
	return func(below int) int {
		seed = seed*6364136223846793005 + 1442695040888963407
		return int((seed >> 33) % uint64(below))
	}
}

// P3.4: after each of many steps, each bit has the state that was assigned last, and what is found agrees.
func TestP3_4LastAssigned(t *testing.T) {
	for _, n := range []int{1, 64, 65, 150, 192} {
		b, m, next := made(t, n), make(model, n), draws()
		for range 4000 {
			i, length, state := next(n+6)-3, next(n/2+4)-2, next(2) == 1
			if next(3) == 0 {
				length = 1
			}
			assign := b.ClearRun
			if state {
				assign = b.SetRun
			}
			if length == 1 {
				assign = func(i, _ int) api.Errno {
					if state {
						return b.Set(i)
					}
					return b.Clear(i)
				}
			}
			want := api.ErrArg
			if i >= 0 && length >= 0 && i+length <= n {
				want = api.OK
				m.fill(i, length, state)
			}
			if err := assign(i, length); err != want {
				t.Fatalf("of %d, a step with %d, %d, %t: %d, want %d", n, i, length, state, err, want)
			}
			holds(t, "step", b, m)
			finds(t, "step", b, m, next(n+6)-3)
		}
	}
}

// P3.4: the runs are the bits that are set, rise, are not empty, and do not touch.
func TestP3_4RunsApart(t *testing.T) {
	for _, n := range lengths {
		patterns(t, n, func(name string, b *bits.Bits, m model) {
			end, set := -1, make(model, n)
			for _, x := range b.Runs() {
				if x.At <= end || x.Len < 1 || x.At+x.Len > n {
					t.Fatalf("%s: of %d, the run %v behind %d", name, n, x, end)
				}
				end = x.At + x.Len
				set.fill(x.At, x.Len, true)
			}
			if !slices.Equal(set, m) {
				t.Fatalf("%s: the runs of %d are not the bits that are set", name, n)
			}
		})
	}
}

// P3.4: going on by Next, NextClear or Prev comes to each such bit, and to no other.
func TestP3_4SkipsNothing(t *testing.T) {
	for _, n := range lengths {
		patterns(t, n, func(name string, b *bits.Bits, m model) {
			up, down, free := make(model, n), make(model, n), make(model, n)
			for i, is := b.Next(0); is; i, is = b.Next(i + 1) {
				up[i] = true
			}
			for i, is := b.Prev(n); is; i, is = b.Prev(i - 1) {
				down[i] = true
			}
			free.fill(0, n, true)
			for i, is := b.NextClear(0); is; i, is = b.NextClear(i + 1) {
				free[i] = false
			}
			for _, x := range []struct {
				name string
				m    model
			}{{"Next", up}, {"Prev", down}, {"NextClear", free}} {
				if !slices.Equal(x.m, m) {
					t.Fatalf("%s: of %d: %s skips bits, or makes some up", name, n, x.name)
				}
			}
		})
	}
}

// P3.4: Count of two ranges that meet is that of both together.
func TestP3_4CountAdditive(t *testing.T) {
	for _, n := range short {
		patterns(t, n, func(name string, b *bits.Bits, m model) {
			whole, _ := b.Count(0, n)
			if whole != m.count(0, n) {
				t.Fatalf("%s: Count(0, %d) = %d, want %d", name, n, whole, m.count(0, n))
			}
			for i := 0; i <= n; i++ {
				below, err1 := b.Count(0, i)
				above, err2 := b.Count(i, n-i)
				if below+above != whole || err1 != api.OK || err2 != api.OK {
					t.Fatalf("%s: of %d, %d below %d, %d above, %d in all", name, n, below, i, above, whole)
				}
			}
			sum := 0
			for i := range n {
				one, err := b.Count(i, 1)
				if err != api.OK || (one == 1) != b.Has(i) || one > 1 {
					t.Fatalf("%s: of %d, Count(%d, 1) = %d, %d", name, n, i, one, err)
				}
				sum += one
			}
			if sum != whole {
				t.Fatalf("%s: of %d, %d one by one, %d in all", name, n, sum, whole)
			}
		})
	}
}
