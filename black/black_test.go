package black_test

import (
	"math"
	"slices"
	"testing"

	"skerry/api"
	"skerry/black"
)

// most is how many granules a list may have, as the chapter tells it in numbers.
const most = 65536

// sizes are such as a list may have: none, one, some, and the most.
var sizes = []int{0, 1, 2, 3, 8, 63, 64, 65, 127, 128, 129, 1000, 32768, most - 1, most}

// beyond are numbers of granules that no list may have.
var beyond = []int{-1, -2, -64, -most, most + 1, most + 2, 2 * most, 1 << 31, 1 << 32, 1 << 62, -1 << 32, math.MinInt, math.MinInt + 1, math.MaxInt - 1, math.MaxInt}

// never is more Turns behind a hit than any test does: that of a granule that was never hit.
const never = 1 << 30

// world is a list, and how many Turns there were behind the last hit of each of its granules.
type world struct {
	*testing.T
	b      *black.Black
	behind []int
}

// of returns a world of n granules that were never hit.
func of(t *testing.T, n int) *world {
	t.Helper()
	b, err := black.New(n)
	if b == nil || err != api.OK {
		t.Fatalf("New(%d): %v, %d", n, b, err)
	}
	return &world{t, b, slices.Repeat([]int{never}, n)}
}

// is reports whether a granule must be blacklisted: it was hit after the last Turn, or after the second last one.
func (w *world) is(g int) bool {
	return w.behind[g] <= 1
}

// list returns the granules that must be blacklisted.
func (w *world) list() []int {
	var list []int
	for g := range w.behind {
		if w.is(g) {
			list = append(list, g)
		}
	}
	return list
}

// first returns what First must tell.
func (w *world) first(from, to, n int) (int, bool) {
	clear := 0 // how many granules up to at, in a row, may be of the range
	for at := max(from, 0); at < min(to, len(w.behind)) && n >= 1; at++ {
		clear++
		if w.is(at) {
			clear = 0
		}
		if clear == n {
			return at - n + 1, true
		}
	}
	return 0, false
}

// hit hits granules that there are.
func (w *world) hit(g ...int) {
	w.Helper()
	given := slices.Clone(g)
	if err := w.b.Hit(g...); err != api.OK {
		w.Fatalf("Hit(%v): %d", g, err)
	}
	if !slices.Equal(g, given) {
		w.Fatalf("Hit(%v) made these %v", given, g)
	}
	for _, at := range g {
		w.behind[at] = 0
	}
}

// refuses reports an error unless Hit of these is ErrArg, and hits none.
func (w *world) refuses(g ...int) {
	w.Helper()
	if err := w.b.Hit(g...); err != api.ErrArg {
		w.Fatalf("of %d, Hit(%v): %d", len(w.behind), g, err)
	}
	w.sound()
}

// turn turns the list, and reports an error unless it tells how many are no longer blacklisted.
func (w *world) turn() {
	w.Helper()
	want := 0
	for g, n := range w.behind {
		if n == 1 {
			want++
		}
		w.behind[g]++
	}
	if n := w.b.Turn(); n != want {
		w.Fatalf("Turn: %d; want %d", n, want)
	}
}

// finds reports an error unless First tells what it must.
func (w *world) finds(from, to, n int) {
	w.Helper()
	at, is := w.b.First(from, to, n)
	if wantAt, want := w.first(from, to, n); at != wantAt || is != want {
		w.Fatalf("%v of %d: First(%d, %d, %d): %d, %v; want %d, %v", w.list(), len(w.behind), from, to, n, at, is, wantAt, want)
	}
}

// sound reports an error unless Len, Has, Count and List tell what they must.
func (w *world) sound() {
	w.Helper()
	n := len(w.behind)
	if got := w.b.Len(); got != n {
		w.Fatalf("Len: %d; want %d", got, n)
	}
	for g := range n {
		if w.b.Has(g) != w.is(g) {
			w.Fatalf("of %d, Has(%d): %v", n, g, w.b.Has(g))
		}
	}
	for _, g := range append([]int{n, n + 1, n + 63, n + 64, most}, beyond...) {
		if w.b.Has(g) {
			w.Fatalf("of %d, Has(%d)", n, g)
		}
	}
	want := w.list()
	if got := w.b.List(); !slices.Equal(got, want) {
		w.Fatalf("List: %v; want %v", got, want)
	}
	if got := w.b.Count(); got != len(want) {
		w.Fatalf("Count: %d; want %d", got, len(want))
	}
}

// all returns the granules that a list of n has.
func all(n int) []int {
	var list []int
	for g := range n {
		list = append(list, g)
	}
	return list
}

// every returns each granule of n that is so far from the last one.
func every(n, step int) []int {
	var list []int
	for g := 0; g < n; g += step {
		list = append(list, g)
	}
	return list
}

// picker returns a function that returns numbers below n, each of which follows from those before it.
func picker(x uint64) func(n int) int {
	return func(n int) int {
		x = x*6364136223846793005 + 1442695040888963407
		return int(x >> 33 % uint64(n))
	}
}

// example returns the chapter's list: of 8, with 2 and 5 hit.
func example(t *testing.T) *black.Black {
	t.Helper()
	b, err := black.New(8)
	if err != api.OK {
		t.Fatalf("New(8): %d", err)
	}
	if err := b.Hit(2, 5); err != api.OK {
		t.Fatalf("Hit(2, 5): %d", err)
	}
	return b
}

// P12.1, P12.2: the chapter's example.
func TestP12_1Example(t *testing.T) {
	b := example(t)
	if at, is := b.First(0, 8, 2); at != 0 || !is {
		t.Errorf("First(0, 8, 2): %d, %v", at, is)
	}
	if at, is := b.First(1, 8, 2); at != 3 || !is {
		t.Errorf("First(1, 8, 2): %d, %v", at, is)
	}
	if at, is := b.First(0, 8, 3); at != 0 || is {
		t.Errorf("First(0, 8, 3): %d, %v", at, is)
	}
	if n := b.Turn(); n != 0 {
		t.Errorf("Turn: %d", n)
	}
	if err := b.Hit(5); err != api.OK {
		t.Errorf("Hit(5): %d", err)
	}
	if n := b.Turn(); n != 1 {
		t.Errorf("Turn: %d", n)
	}
	if l := b.List(); !slices.Equal(l, []int{5}) {
		t.Errorf("List: %v", l)
	}
}

// P12.1: the most that a list may have is what package api says.
func TestP12_1Limit(t *testing.T) {
	if api.MaxBits != most {
		t.Errorf("MaxBits: %d", api.MaxBits)
	}
}

// P12.1: a list of no granule, of one, of as many as there may be, and between: none is blacklisted.
func TestP12_1New(t *testing.T) {
	for _, n := range sizes {
		of(t, n).sound()
	}
}

// P12.1: a number of granules below 0, or above the most: there is no list.
func TestP12_1NewRefused(t *testing.T) {
	for _, n := range beyond {
		if b, err := black.New(n); b != nil || err != api.ErrArg {
			t.Errorf("New(%d): %v, %d", n, b, err)
		}
	}
}

// P12.1: two lists that New made share nothing.
func TestP12_1Apart(t *testing.T) {
	w, other := of(t, 70), of(t, 70)
	w.hit(all(70)...)
	other.sound()
	other.turn()
	other.hit(3, 69)
	w.sound()
	other.sound()
	w.turn()
	w.turn()
	w.sound()
	other.sound()
}

// P12.1: Hit of none changes nothing, and no list is too short for it.
func TestP12_1HitNone(t *testing.T) {
	for _, n := range sizes {
		w := of(t, n)
		w.hit()
		w.hit([]int{}...)
		w.hit(nil...)
		w.sound()
		w.turn()
		w.sound()
	}
	w := of(t, 8)
	w.hit(2, 5)
	w.hit()
	w.turn()
	w.hit()
	w.sound()
	w.turn()
	w.sound()
}

// P12.1: Hit of one: each granule of a list, and the first and the last one of others.
func TestP12_1HitOne(t *testing.T) {
	for _, n := range []int{1, 2, 63, 64, 65, 130} {
		for g := range n {
			w := of(t, n)
			w.hit(g)
			w.sound()
		}
	}
	for _, n := range sizes[1:] {
		for _, g := range []int{0, n / 2, n - 1} {
			w := of(t, n)
			w.hit(g)
			w.sound()
			w.turn()
			w.sound()
			w.turn()
			w.sound()
		}
	}
}

// P12.1: Hit of the same one twice and more, in one call and in two, of all, in any order, of the first and the last one.
func TestP12_1HitSome(t *testing.T) {
	for _, n := range sizes[1:] {
		falling := all(n)
		slices.Reverse(falling)
		for _, row := range [][]int{
			{0, 0}, {n - 1, n - 1, n - 1}, {0, n - 1}, {n - 1, 0}, {n - 1, n / 2, 0, n / 2}, all(n), falling, append(all(n), falling...), every(n, 2), every(n, 3), every(n, 64),
		} {
			w := of(t, n)
			w.hit(row...)
			w.sound()
			w.hit(row...)
			w.turn()
			w.sound()
			w.turn()
			w.sound()
		}
	}
}

// P12.1: Hits in one call and one by one blacklist the same.
func TestP12_1HitEach(t *testing.T) {
	row := []int{5, 69, 0, 64, 63, 5}
	one, each := of(t, 70), of(t, 70)
	one.hit(row...)
	for _, g := range row {
		each.hit(g)
	}
	one.sound()
	each.sound()
}

// P12.1: Hit of what is no granule, alone and ahead of, between and behind such as are: none is hit, and those that were remain.
func TestP12_1HitRefused(t *testing.T) {
	for _, n := range []int{0, 1, 2, 8, 64, 65, 70} {
		for _, bad := range append([]int{n, n + 1, n + 2, n + 64, 64, 128, most}, beyond...) {
			if bad >= 0 && bad < n {
				continue
			}
			w := of(t, n)
			w.refuses(bad)
			w.refuses(bad, bad)
			if n == 0 {
				continue
			}
			w.hit(n / 2)
			w.turn()
			w.hit(n - 1)
			w.refuses(bad, 0)
			w.refuses(0, bad)
			w.refuses(0, bad, n-1)
			w.refuses(append(all(n), bad)...)
			w.refuses(append([]int{bad}, all(n)...)...)
			w.turn()
			w.sound()
			w.turn()
			w.sound()
		}
	}
}

// P12.1: -1 and the number of granules, in lists of each size: none is hit, so no Turn has any of them to let go.
func TestP12_1HitEdges(t *testing.T) {
	for _, n := range sizes {
		w := of(t, n)
		w.refuses(-1)
		w.refuses(n)
		w.refuses(append(all(n), n)...)
		w.refuses(append(all(n), -1)...)
		w.turn()
		w.turn()
		w.sound()
	}
}

// P12.1: what Hit was given is neither changed nor kept, nor is what stands behind it in its array.
func TestP12_1HitGiven(t *testing.T) {
	w := of(t, 70)
	array := []int{1, 66, 3, 4, 5}
	w.hit(array[:2]...)
	if !slices.Equal(array, []int{1, 66, 3, 4, 5}) {
		t.Fatalf("Hit made %v", array)
	}
	for k := range array {
		array[k] = 60 + k
	}
	w.sound()
	bad := []int{7, 70, 8}
	w.refuses(bad[:2]...)
	if !slices.Equal(bad, []int{7, 70, 8}) {
		t.Fatalf("Hit made %v", bad)
	}
}

// P12.1: Turn of a list that was never hit lets none go, however often.
func TestP12_1TurnNever(t *testing.T) {
	for _, n := range sizes {
		w := of(t, n)
		for range 5 {
			w.turn()
			w.sound()
		}
	}
}

// P12.1: what each Turn returns, written out: none for hits that are younger, each granule once, none that was hit again.
func TestP12_1TurnTells(t *testing.T) {
	b, _ := black.New(130)
	for k, x := range []struct {
		hits []int
		gone int
		left []int
	}{
		{nil, 0, nil},
		{[]int{0, 64, 129}, 0, []int{0, 64, 129}},
		{nil, 3, nil},
		{nil, 0, nil},
		{[]int{0, 1, 2, 3}, 0, []int{0, 1, 2, 3}},
		{[]int{1, 3, 5, 1}, 2, []int{1, 3, 5}},
		{[]int{5}, 2, []int{5}},
		{[]int{5, 6}, 0, []int{5, 6}},
		{[]int{7}, 2, []int{7}},
		{nil, 1, nil},
		{[]int{7}, 0, []int{7}},
		{nil, 1, nil},
		{nil, 0, nil},
	} {
		if err := b.Hit(x.hits...); err != api.OK {
			t.Fatalf("%d: Hit(%v): %d", k, x.hits, err)
		}
		if n := b.Turn(); n != x.gone {
			t.Errorf("%d: Turn: %d; want %d", k, n, x.gone)
		}
		if l := b.List(); !slices.Equal(l, x.left) || b.Count() != len(x.left) {
			t.Errorf("%d: List: %v, Count: %d; want %v", k, l, b.Count(), x.left)
		}
		for g := range 130 {
			if b.Has(g) != slices.Contains(x.left, g) {
				t.Errorf("%d: Has(%d): %v", k, g, b.Has(g))
			}
		}
	}
}

// P12.1: Turns of all, of lists of each size.
func TestP12_1TurnAll(t *testing.T) {
	for _, n := range sizes {
		w := of(t, n)
		w.hit(all(n)...)
		w.turn()
		w.sound()
		w.hit(every(n, 2)...)
		w.turn()
		w.sound()
		w.turn()
		w.sound()
		w.turn()
		w.sound()
	}
}

// P12.1, P12.2: nil for each of the calls, with arguments that would do and with such as wouldn't.
func TestP12_1Nil(t *testing.T) {
	var b *black.Black
	for _, row := range [][]int{nil, {}, {0}, {-1}, {0, 1}, {math.MaxInt, math.MinInt}} {
		if err := b.Hit(row...); err != api.ErrNil {
			t.Errorf("Hit(%v): %d", row, err)
		}
	}
	for range 3 {
		if n := b.Turn(); n != 0 {
			t.Errorf("Turn: %d", n)
		}
	}
	if n := b.Len(); n != 0 {
		t.Errorf("Len: %d", n)
	}
	if n := b.Count(); n != 0 {
		t.Errorf("Count: %d", n)
	}
	if l := b.List(); len(l) != 0 {
		t.Errorf("List: %v", l)
	}
	if c := b.Copy(); c != nil {
		t.Errorf("Copy: %v", c)
	}
	for _, g := range append([]int{0, 1, most}, beyond...) {
		if b.Has(g) {
			t.Errorf("Has(%d)", g)
		}
		for _, n := range append([]int{0, 1, most}, beyond...) {
			for _, x := range [][3]int{{g, n, 1}, {g, 8, n}, {0, g, n}} {
				if at, is := b.First(x[0], x[1], x[2]); at != 0 || is {
					t.Errorf("First(%v): %d, %v", x, at, is)
				}
			}
		}
	}
}

// P12.2: Has, Count and List of none, of one, of all, of those at the ends, of each second one, in lists of each size.
func TestP12_2Asked(t *testing.T) {
	for _, n := range sizes {
		for _, row := range [][]int{nil, all(n), every(n, 2), every(n, 5), every(n, 63), every(n, n), all(n)[n/2:], all(n)[:n/2], all(n)[n-n/9:]} {
			w := of(t, n)
			w.hit(row...)
			w.sound()
			if got := w.b.List(); !slices.Equal(got, row) {
				t.Fatalf("of %d, List: %v; want %v", n, got, row)
			}
			if got := w.b.Count(); got != len(row) {
				t.Fatalf("of %d, Count: %d; want %d", n, got, len(row))
			}
		}
	}
}

// P12.2: granules of which some were hit ahead of a Turn, some behind it, and some both times count once.
func TestP12_2BothRows(t *testing.T) {
	for _, n := range []int{1, 2, 8, 64, 65, 130} {
		for _, old := range [][]int{nil, {0}, all(n), every(n, 2)} {
			for _, young := range [][]int{nil, {0}, {n - 1}, all(n), every(n, 3)} {
				w := of(t, n)
				w.hit(old...)
				w.turn()
				w.hit(young...)
				w.sound()
			}
		}
	}
}

// P12.2: Has of what is no granule, where all are blacklisted.
func TestP12_2HasNone(t *testing.T) {
	for _, n := range sizes {
		w := of(t, n)
		w.hit(all(n)...)
		w.sound()
		w.turn()
		w.hit(all(n)...)
		w.sound()
	}
}

// P12.2: to ask changes nothing.
func TestP12_2Kept(t *testing.T) {
	w := of(t, 70)
	w.hit(1, 66)
	w.turn()
	w.hit(66, 3)
	for range 3 {
		w.sound()
		w.finds(0, 70, 2)
		w.finds(0, 70, 71)
		w.b.Copy()
	}
	w.turn()
	w.sound()
	w.turn()
	w.sound()
}

// P12.2: what is written into a list that List returned, or behind it, changes nothing, nor is it changed later.
func TestP12_2ListOwn(t *testing.T) {
	w := of(t, 70)
	w.hit(1, 2, 3, 66)
	list, other := w.b.List(), w.b.List()
	for k := range list {
		list[k] = 9
	}
	list = append(list[:cap(list)], 11)
	for k := range list {
		list[k] = 12
	}
	w.sound()
	w.hit(0)
	w.turn()
	w.turn()
	w.sound()
	if !slices.Equal(other, []int{1, 2, 3, 66}) {
		t.Errorf("a list that was returned became %v", other)
	}
}

// P12.2: First where ranges end just ahead of a blacklisted granule, begin just behind one, and where both ends are blacklisted, written out.
func TestP12_2FirstWritten(t *testing.T) {
	b, _ := black.New(10)
	b.Hit(0, 9)
	b.Turn()
	b.Hit(0, 4, 5)
	for _, x := range []struct {
		from, to, n, at int
		is              bool
	}{
		{0, 10, 1, 1, true}, {0, 10, 2, 1, true}, {0, 10, 3, 1, true}, {0, 10, 4, 0, false}, {0, 10, 9, 0, false}, {0, 10, 10, 0, false}, {0, 10, 11, 0, false},
		{1, 4, 3, 1, true}, {1, 3, 3, 0, false}, {1, 4, 4, 0, false}, {2, 4, 2, 2, true}, {2, 5, 3, 0, false}, {2, 10, 3, 6, true}, {3, 10, 1, 3, true}, {3, 10, 2, 6, true},
		{4, 10, 1, 6, true}, {5, 9, 3, 6, true}, {6, 9, 3, 6, true}, {6, 8, 3, 0, false}, {6, 8, 2, 6, true}, {7, 10, 2, 7, true}, {7, 10, 3, 0, false}, {8, 10, 1, 8, true}, {8, 8, 1, 0, false},
		{9, 10, 1, 0, false}, {10, 10, 1, 0, false}, {11, 99, 1, 0, false}, {0, 1, 1, 0, false}, {0, 2, 1, 1, true}, {0, 0, 1, 0, false}, {0, -1, 1, 0, false}, {-1, 10, 1, 1, true}, {-9, 99, 3, 1, true},
		{4, 6, 1, 0, false}, {5, 6, 1, 0, false}, {5, 7, 1, 6, true}, {5, 1, 1, 0, false}, {0, 10, 0, 0, false}, {6, 9, 0, 0, false}, {0, 10, -1, 0, false}, {3, 2, -1, 0, false},
	} {
		if at, is := b.First(x.from, x.to, x.n); at != x.at || is != x.is {
			t.Errorf("First(%d, %d, %d): %d, %v; want %d, %v", x.from, x.to, x.n, at, is, x.at, x.is)
		}
	}
}

// P12.2: First in lists of each size of which none is blacklisted: from and to at all edges; one granule, some, as many as there are, one more.
func TestP12_2FirstNone(t *testing.T) {
	for _, n := range sizes {
		b, _ := black.New(n)
		ends := []int{-n, -1, 0, 1, n / 2, n - 2, n - 1, n, n + 1, 2 * n, math.MinInt, math.MinInt + 1, math.MaxInt - 1, math.MaxInt}
		for _, from := range ends {
			for _, to := range ends {
				for _, k := range append([]int{2, n - from, n - from - 1, n - from + 1, to - from}, ends...) {
					// The only range that may be it begins where none may begin below.
					at := max(from, 0)
					is := k >= 1 && k <= n && at <= n-k && to >= 0 && at <= min(to, n)-k
					if !is {
						at = 0
					}
					if got, has := b.First(from, to, k); got != at || has != is {
						t.Fatalf("of %d, First(%d, %d, %d): %d, %v; want %d, %v", n, from, to, k, got, has, at, is)
					}
				}
			}
		}
	}
}

// P12.2: First in lists of each size of which all are blacklisted, or all but one, or but some.
func TestP12_2FirstFew(t *testing.T) {
	for _, n := range sizes[1:] {
		for _, gap := range [][2]int{{0, 0}, {0, 1}, {n - 1, 1}, {n / 2, 1}, {n / 3, min(n/3, 70)}, {0, n - 1}, {1, n - 1}, {1, max(n-2, 0)}} {
			w := of(t, n)
			w.hit(append(all(gap[0]), all(n)[gap[0]+gap[1]:]...)...)
			at, size := gap[0], gap[1]
			for _, x := range []struct {
				from, to, n, at int
				is              bool
			}{
				{0, n, 1, at, size >= 1}, {0, n, size, at, size >= 1}, {0, n, size + 1, 0, false}, {at, at + size, size, at, size >= 1}, {at + 1, n, size, 0, false}, {0, at + size - 1, size, 0, false},
				{at + 1, n, size - 1, at + 1, size >= 2}, {at + 1, math.MaxInt, size - 1, at + 1, size >= 2}, {at + size - 1, n, 1, at + size - 1, size >= 1}, {at + size, n, 1, 0, false}, {math.MinInt, at, 1, 0, false},
			} {
				if !x.is {
					x.at = 0
				}
				if got, has := w.b.First(x.from, x.to, x.n); got != x.at || has != x.is {
					t.Fatalf("of %d but %v, First(%d, %d, %d): %d, %v; want %d, %v", n, gap, x.from, x.to, x.n, got, has, x.at, x.is)
				}
			}
		}
	}
}

// P12.2: First with the least and the greatest int, and others that no list reaches, for each of the arguments.
func TestP12_2FirstGreat(t *testing.T) {
	great := append([]int{0, 1, 2, 8, 69, 70, 71, most}, beyond...)
	for _, n := range []int{0, 1, 8, 70} {
		w := of(t, n)
		w.hit(every(n, 5)...)
		for _, from := range great {
			for _, to := range great {
				for _, k := range great {
					w.finds(from, to, k)
				}
			}
		}
	}
}

// P12.2: a Copy is equal, in both of its rows, and what is done to either of the two leaves the other as it is.
func TestP12_2Copy(t *testing.T) {
	for _, n := range []int{0, 1, 2, 8, 63, 64, 65, 130, 1000, most} {
		w := of(t, n)
		w.hit(every(n, 2)...)
		w.turn()
		w.hit(every(n, 3)...)
		for _, do := range []func(w *world){
			func(w *world) { w.turn() },
			func(w *world) { w.turn(); w.turn() },
			func(w *world) { w.hit(all(n)...) },
			func(w *world) { w.hit(all(n)...); w.turn() },
			func(w *world) { w.turn(); w.hit(every(n, 7)...); w.turn() },
		} {
			for _, first := range []bool{true, false} {
				a := &world{t, w.b.Copy(), slices.Clone(w.behind)}
				c := &world{t, a.b.Copy(), slices.Clone(a.behind)}
				if a.b == w.b || c.b == a.b {
					t.Fatal("a Copy is what it was made of")
				}
				a.sound()
				c.sound()
				changed, other := a, c
				if !first {
					changed, other = c, a
				}
				do(changed)
				other.sound()
				changed.sound()
				// What stands in the older row is only seen when the list is turned.
				other.turn()
				other.sound()
				other.turn()
				other.sound()
				changed.sound()
			}
		}
		w.sound()
	}
}

// P12.3: a granule that was hit once, with one Turn behind it, with two, with three; hit again between two Turns; hit again only behind both.
func TestP12_3Ages(t *testing.T) {
	for _, g := range []int{0, 1, 63, 64, 69} {
		b, _ := black.New(70)
		has := func(name string, want bool) {
			t.Helper()
			if b.Has(g) != want || slices.Contains(b.List(), g) != want || (b.Count() == 1) != want {
				t.Errorf("%d, %s: Has %v, List %v, Count %d", g, name, b.Has(g), b.List(), b.Count())
			}
		}
		turn := func(want int) {
			t.Helper()
			if n := b.Turn(); n != want {
				t.Errorf("%d: Turn: %d; want %d", g, n, want)
			}
		}
		has("never hit", false)
		b.Hit(g)
		has("hit", true)
		turn(0)
		has("with one Turn behind it", true)
		turn(1)
		has("with two", false)
		turn(0)
		has("with three", false)
		b.Hit(g)
		turn(0)
		b.Hit(g)
		has("hit again", true)
		turn(0)
		has("hit again between two Turns", true)
		turn(1)
		has("a Turn later", false)
		b.Hit(g)
		turn(0)
		turn(1)
		has("hit again only behind both", false)
		b.Hit(g)
		has("and then", true)
		turn(0)
		has("and then, with one Turn behind it", true)
	}
}

// P12.3: all rows of up to eleven hits and Turns of one granule, beside one that was hit ahead of all, and one that never was.
func TestP12_3AllRows(t *testing.T) {
	for steps := range 12 {
		for row := range 1 << steps {
			w := of(t, 3)
			w.hit(0)
			for k := range steps {
				if row>>k&1 == 1 {
					w.hit(1)
				} else {
					w.turn()
				}
				w.sound()
			}
		}
	}
}

// P12.3: a granule that was hit is blacklisted behind the next Turn, and behind the following one exactly if it was hit again, whatever there was ahead and whatever else is hit.
func TestP12_3HitAgain(t *testing.T) {
	next := picker(5)
	for range 2000 {
		n := 1 + next(140)
		b, _ := black.New(n)
		for range next(6) {
			b.Hit(next(n), next(n))
			if next(2) == 0 {
				b.Turn()
			}
		}
		g, again := next(n), next(2) == 1
		b.Hit(g)
		b.Turn()
		if !b.Has(g) {
			t.Fatalf("of %d, %d is gone behind one Turn", n, g)
		}
		for k := range n {
			if k != g && next(3) == 0 {
				b.Hit(k)
			}
		}
		if again {
			b.Hit(g)
		}
		b.Turn()
		if b.Has(g) != again {
			t.Fatalf("of %d, %d hit again: %v; behind two Turns: %v", n, g, again, b.Has(g))
		}
	}
}

// P12.3: all lists of up to five granules, each in either row, in both or in none: First of all ranges.
func TestP12_3FirstAll(t *testing.T) {
	for n := range 6 {
		for set := range 1 << (2 * n) {
			w := of(t, n)
			for g := range n {
				if set>>(2*g)&1 == 1 {
					w.hit(g)
				}
			}
			w.turn()
			for g := range n {
				if set>>(2*g)&2 == 2 {
					w.hit(g)
				}
			}
			for from := -1; from <= n+1; from++ {
				for to := -1; to <= n+2; to++ {
					for k := -1; k <= n+1; k++ {
						w.finds(from, to, k)
					}
				}
			}
		}
	}
}

// P12.3: First in lists of more than one word of bits, with one granule blacklisted, or two: ranges that end and begin about them.
func TestP12_3FirstAbout(t *testing.T) {
	const n = 131
	marks := []int{0, 1, 31, 62, 63, 64, 65, 66, 126, 127, 128, 129, n - 1}
	for _, a := range marks {
		for _, c := range marks {
			w := of(t, n)
			w.hit(a)
			w.turn()
			w.hit(c)
			for _, from := range []int{-1, 0, a - 1, a, a + 1, c - 1, c, c + 1} {
				for _, to := range []int{a - 1, a, a + 1, c - 1, c, c + 1, n, n + 1} {
					for _, k := range []int{1, 2, c - a - 1, c - a, a, a + 1, n - c - 1, n - c, 64} {
						w.finds(from, to, k)
					}
				}
			}
		}
	}
}

// P12.3: the range that First returns is clear, and no lower one is: long rows of hits and Turns, all asked for after each.
func TestP12_3Rows(t *testing.T) {
	for _, n := range []int{1, 2, 7, 64, 65, 200, 700} {
		w, next := of(t, n), picker(uint64(n))
		for range 400 {
			switch next(5) {
			case 0:
				w.turn()
			case 1:
				row := make([]int, next(n+1))
				for k := range row {
					row[k] = next(n)
				}
				w.hit(row...)
			default:
				w.hit(next(n))
			}
			w.sound()
			for range 20 {
				w.finds(next(n+4)-2, next(n+4)-2, next(n/8+3))
			}
		}
	}
}

// P12.3: the greatest list, with hits far from each other and close to each other.
func TestP12_3Greatest(t *testing.T) {
	w := of(t, most)
	w.hit(every(most, 1000)...)
	w.turn()
	w.hit(every(most, 1024)...)
	w.sound()
	for _, x := range [][3]int{{0, most, 1}, {0, most, 999}, {0, most, 1000}, {1, most, 23}, {most - 1, most, 1}, {most - 1, most, 2}, {60000, most, 900}, {0, most, most}} {
		w.finds(x[0], x[1], x[2])
	}
	w.turn()
	w.sound()
	w.finds(0, most, 1023)
	w.finds(0, most, 1024)
	w.turn()
	w.sound()
	w.finds(0, most, most)
	w.finds(1, most, most)
	w.finds(0, most, most+1)
}
