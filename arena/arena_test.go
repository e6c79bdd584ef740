package arena_test

import (
	"math"
	"slices"
	"testing"

	"skerry/api"
	"skerry/arena"
)

const most uint64 = math.MaxUint64

// sizes are such as an arena may have: the least, some above it, and the greatest ones.
var sizes = []int{api.MinWords, api.MinWords + 2, 30, 100, 1 << 10, api.MaxWords - 2, api.MaxWords}

// notRanges are places and lengths that an arena of 16 words has no range of.
var notRanges = [][2]int{
	{-1, 0}, {-1, 1}, {-1, 2}, {-1, 16}, {-1, 17}, {-16, 16}, {-2, -2}, {0, -1}, {1, -1}, {15, -1}, {16, -1}, {17, -1},
	{0, 17}, {1, 16}, {2, 15}, {15, 2}, {16, 1}, {16, 2}, {17, 0}, {17, 1}, {18, -2}, {8, 9}, {100, 0}, {100, -100},
	{math.MaxInt, 0}, {math.MaxInt, 1}, {0, math.MaxInt}, {1, math.MaxInt}, {16, math.MaxInt}, {math.MaxInt, math.MaxInt},
	{math.MaxInt/2 + 1, math.MaxInt/2 + 1}, {math.MaxInt - 15, 16}, {16, math.MaxInt - 15},
	{math.MinInt, 0}, {math.MinInt, 1}, {math.MinInt, math.MinInt}, {math.MinInt, math.MaxInt}, {math.MaxInt, math.MinInt},
	{0, math.MinInt}, {1, math.MinInt}, {16, math.MinInt}, {-1, math.MinInt}, {-1, math.MaxInt},
}

// made returns an arena that New made.
func made(t *testing.T, words int) *arena.Arena {
	t.Helper()
	a, err := arena.New(words)
	if a == nil || err != api.OK {
		t.Fatalf("New(%d) = %v, %d", words, a, err)
	}
	return a
}

// numbered returns an arena of which the word i is i + 1, and what that wrote.
func numbered(t *testing.T, words int) (*arena.Arena, []uint64) {
	t.Helper()
	a, l := made(t, words), make([]uint64, words)
	for i := range l {
		l[i] = uint64(i) + 1
		if err := a.Store(i, l[i]); err != api.OK {
			t.Fatalf("Store(%d, ..): %d", i, err)
		}
	}
	return a, l
}

// holds reports an error unless a has exactly these words, asked one by one and as ranges, and so many that were written.
func holds(t *testing.T, name string, a *arena.Arena, words []uint64, writes uint64) {
	t.Helper()
	if a.Len() != len(words) {
		t.Fatalf("%s: Len: %d, want %d", name, a.Len(), len(words))
	}
	for i, want := range words {
		if got, err := a.Load(i); got != want || err != api.OK {
			t.Fatalf("%s: Load(%d) = %d, %d; want %d", name, i, got, err, want)
		}
	}
	if got, err := a.Words(0, len(words)); !slices.Equal(got, words) || err != api.OK {
		t.Fatalf("%s: Words of all, %d: %v; want %v", name, err, got, words)
	}
	if got := a.Writes(); got != writes {
		t.Fatalf("%s: Writes: %d, want %d", name, got, writes)
	}
}

// ranges calls f with the place and the length of each range of so many words.
func ranges(words int, f func(i, n int)) {
	for i := 0; i <= words; i++ {
		for n := 0; n <= words-i; n++ {
			f(i, n)
		}
	}
}

// P2.1: an arena has so many words, all 0, and nothing is written.
func TestP2_1New(t *testing.T) {
	for _, words := range sizes {
		holds(t, "new", made(t, words), make([]uint64, words), 0)
	}
}

// P2.1: exactly the multiples of Granule from MinWords to MaxWords are numbers of words.
func TestP2_1Valid(t *testing.T) {
	check := func(words int) {
		a, err := arena.New(words)
		if words >= 16 && words <= 65536 && words%2 == 0 {
			if a == nil || err != api.OK || a.Len() != words || a.Writes() != 0 {
				t.Errorf("New(%d): %d", words, err)
			}
		} else if a != nil || err != api.ErrArg {
			t.Errorf("New(%d) = %v, %d", words, a, err)
		}
	}
	for words := -40; words <= 200; words++ {
		check(words)
	}
	for words := api.MaxWords - 20; words <= api.MaxWords+20; words++ {
		check(words)
	}
	for _, words := range []int{
		math.MinInt, math.MinInt + 1, math.MinInt + 16, -api.MaxWords, -16, 2 * api.MaxWords, 1 << 32, 1<<32 + 16,
		1 << 62, math.MaxInt - 1, math.MaxInt,
	} {
		check(words)
	}
}

// P2.1: what each call adds to the words written.
func TestP2_1Writes(t *testing.T) {
	a := made(t, 16)
	for _, x := range []struct {
		name string
		do   func() api.Errno
		adds uint64
	}{
		{"Store at the beginning", func() api.Errno { return a.Store(0, 7) }, 1},
		{"Store at the end", func() api.Errno { return a.Store(15, 7) }, 1},
		{"Store of the same", func() api.Errno { return a.Store(15, 7) }, 1},
		{"Store of 0", func() api.Errno { return a.Store(3, 0) }, 1},
		{"Fill of all", func() api.Errno { return a.Fill(0, 16, 9) }, 16},
		{"Fill of the same", func() api.Errno { return a.Fill(0, 16, 9) }, 16},
		{"Fill of the last", func() api.Errno { return a.Fill(15, 1, 9) }, 1},
		{"Fill of none", func() api.Errno { return a.Fill(4, 0, 9) }, 0},
		{"Fill of none behind the last", func() api.Errno { return a.Fill(16, 0, 9) }, 0},
		{"Move up, overlapping", func() api.Errno { return a.Move(3, 1, 7) }, 7},
		{"Move down, overlapping", func() api.Errno { return a.Move(1, 3, 7) }, 7},
		{"Move, not overlapping", func() api.Errno { return a.Move(8, 0, 8) }, 8},
		{"Move onto itself", func() api.Errno { return a.Move(2, 2, 5) }, 5},
		{"Move of all onto itself", func() api.Errno { return a.Move(0, 0, 16) }, 16},
		{"Move of none", func() api.Errno { return a.Move(1, 9, 0) }, 0},
		{"Move of none behind the last", func() api.Errno { return a.Move(16, 16, 0) }, 0},
		{"Load", func() api.Errno { _, err := a.Load(5); return err }, 0},
		{"Words", func() api.Errno { _, err := a.Words(0, 16); return err }, 0},
		{"Copy", func() api.Errno { a.Copy().Store(0, 1); return api.OK }, 0},
	} {
		before := a.Writes()
		if err := x.do(); err != api.OK || a.Writes()-before != x.adds {
			t.Errorf("%s: %d; Writes from %d to %d, want %d more", x.name, err, before, a.Writes(), x.adds)
		}
	}
}

// P2.1: a copy is equal, including Writes.
func TestP2_1CopyEqual(t *testing.T) {
	for _, words := range sizes {
		a, l := numbered(t, words)
		a.Fill(0, 5, most)
		copy(l, []uint64{most, most, most, most, most})
		c := a.Copy()
		if c == nil || c == a {
			t.Fatalf("the copy of %p is %p", a, c)
		}
		holds(t, "copy", c, l, uint64(words)+5)
		holds(t, "original", a, l, uint64(words)+5)
	}
	holds(t, "copy of a new one", made(t, 16).Copy(), make([]uint64, 16), 0)
}

// P2.1: neither of an original and its copy is changed by what is done to the other one.
func TestP2_1CopyIndependent(t *testing.T) {
	changes := []struct {
		name string
		do   func(a *arena.Arena) api.Errno
		l    []uint64
		adds uint64
	}{
		{"Store", func(a *arena.Arena) api.Errno { return a.Store(0, 77) }, []uint64{77, 2, 3, 4, 5, 6, 7, 8, 9, 10, 11, 12, 13, 14, 15, 16}, 1},
		{"Fill", func(a *arena.Arena) api.Errno { return a.Fill(13, 3, 77) }, []uint64{1, 2, 3, 4, 5, 6, 7, 8, 9, 10, 11, 12, 13, 77, 77, 77}, 3},
		{"Move", func(a *arena.Arena) api.Errno { return a.Move(8, 0, 8) }, []uint64{1, 2, 3, 4, 5, 6, 7, 8, 1, 2, 3, 4, 5, 6, 7, 8}, 8},
	}
	for _, x := range changes {
		for _, which := range []string{"original", "copy"} {
			a, l := numbered(t, 16)
			changed, other := a, a.Copy()
			if which == "copy" {
				changed, other = other, changed
			}
			if err := x.do(changed); err != api.OK {
				t.Fatalf("%s, %s: %d", x.name, which, err)
			}
			holds(t, x.name+": changed "+which, changed, x.l, 16+x.adds)
			holds(t, x.name+": what stays beside a changed "+which, other, l, 16)
		}
	}
}

// P2.1: a nil arena has nothing.
func TestP2_1Nil(t *testing.T) {
	var a *arena.Arena
	if a.Len() != 0 || a.Writes() != 0 || a.Copy() != nil {
		t.Errorf("nil: Len %d, Writes %d, Copy %v", a.Len(), a.Writes(), a.Copy())
	}
}

// P2.2: a Store is of one word, anywhere within, and of each number.
func TestP2_2LoadStore(t *testing.T) {
	for _, words := range sizes {
		a, l := made(t, words), make([]uint64, words)
		writes := uint64(0)
		for _, i := range []int{0, 1, 2, words/2 - 1, words / 2, words - 2, words - 1} {
			for _, v := range []uint64{most, 1, 1 << 63, 0, 0x0123456789abcdef + uint64(i)} {
				if err := a.Store(i, v); err != api.OK {
					t.Fatalf("Store(%d, %d): %d", i, v, err)
				}
				if got, err := a.Load(i); got != v || err != api.OK {
					t.Fatalf("Load(%d) = %d, %d; want %d", i, got, err, v)
				}
				l[i] = v
				writes++
			}
		}
		holds(t, "stored", a, l, writes)
	}
}

// P2.2: Words of every range.
func TestP2_2Words(t *testing.T) {
	a, l := numbered(t, 16)
	ranges(16, func(i, n int) {
		if got, err := a.Words(i, n); !slices.Equal(got, l[i:i+n]) || err != api.OK {
			t.Errorf("Words(%d, %d) = %v, %d; want %v", i, n, got, err, l[i:i+n])
		}
	})
	holds(t, "asked", a, l, 16)
}

// P2.2: what Words returns is a copy, also where its list is made longer.
func TestP2_2WordsCopied(t *testing.T) {
	a, l := numbered(t, 16)
	ranges(16, func(i, n int) {
		first, _ := a.Words(i, n)
		second, _ := a.Words(i, n)
		for k := range first {
			first[k] = most
		}
		_ = append(first, most, most)
		if !slices.Equal(second, l[i:i+n]) {
			t.Errorf("Words(%d, %d) became %v", i, n, second)
		}
	})
	holds(t, "changed behind it", a, l, 16)

	got, _ := a.Words(0, 16)
	a.Fill(0, 16, most)
	if !slices.Equal(got, l) {
		t.Errorf("Words changed with the arena: %v", got)
	}
}

// P2.2: Fill of every range.
func TestP2_2Fill(t *testing.T) {
	ranges(16, func(i, n int) {
		for _, v := range []uint64{0, 99, most} {
			a, l := numbered(t, 16)
			if err := a.Fill(i, n, v); err != api.OK {
				t.Fatalf("Fill(%d, %d, %d): %d", i, n, v, err)
			}
			for k := range l {
				if k >= i && k < i+n {
					l[k] = v
				}
			}
			holds(t, "filled", a, l, 16+uint64(n))
		}
	})
}

// P2.2: Move from every range to every one.
func TestP2_2Move(t *testing.T) {
	ranges(16, func(from, n int) {
		for to := 0; to+n <= 16; to++ {
			a, before := numbered(t, 16)
			want := slices.Clone(before)
			for k := range n {
				want[to+k] = before[from+k]
			}
			if err := a.Move(to, from, n); err != api.OK {
				t.Fatalf("Move(%d, %d, %d): %d", to, from, n, err)
			}
			holds(t, "moved", a, want, 16+uint64(n))
		}
	})
}

// P2.2: moves that overlap, written out.
func TestP2_2MoveExamples(t *testing.T) {
	for _, x := range []struct {
		name        string
		to, from, n int
		want        []uint64
	}{
		{"up by 1", 1, 0, 15, []uint64{1, 1, 2, 3, 4, 5, 6, 7, 8, 9, 10, 11, 12, 13, 14, 15}},
		{"down by 1", 0, 1, 15, []uint64{2, 3, 4, 5, 6, 7, 8, 9, 10, 11, 12, 13, 14, 15, 16, 16}},
		{"up by 3", 3, 0, 5, []uint64{1, 2, 3, 1, 2, 3, 4, 5, 9, 10, 11, 12, 13, 14, 15, 16}},
		{"down by 3", 0, 3, 5, []uint64{4, 5, 6, 7, 8, 6, 7, 8, 9, 10, 11, 12, 13, 14, 15, 16}},
		{"up, apart by 0", 8, 0, 8, []uint64{1, 2, 3, 4, 5, 6, 7, 8, 1, 2, 3, 4, 5, 6, 7, 8}},
		{"down, apart by 0", 0, 8, 8, []uint64{9, 10, 11, 12, 13, 14, 15, 16, 9, 10, 11, 12, 13, 14, 15, 16}},
		{"the first one to the end", 15, 0, 1, []uint64{1, 2, 3, 4, 5, 6, 7, 8, 9, 10, 11, 12, 13, 14, 15, 1}},
		{"the last one to the beginning", 0, 15, 1, []uint64{16, 2, 3, 4, 5, 6, 7, 8, 9, 10, 11, 12, 13, 14, 15, 16}},
	} {
		a, _ := numbered(t, 16)
		if err := a.Move(x.to, x.from, x.n); err != api.OK {
			t.Fatalf("%s: %d", x.name, err)
		}
		holds(t, x.name, a, x.want, 16+uint64(x.n))
	}
}

// P2.2: the greatest arena is written and moved whole.
func TestP2_2Greatest(t *testing.T) {
	a, l := numbered(t, api.MaxWords)
	if err := a.Move(1, 0, api.MaxWords-1); err != api.OK {
		t.Fatal(err)
	}
	up := append([]uint64{1}, l[:api.MaxWords-1]...)
	holds(t, "up", a, up, 2*api.MaxWords-1)
	if err := a.Move(0, 1, api.MaxWords-1); err != api.OK {
		t.Fatal(err)
	}
	l[api.MaxWords-1] = l[api.MaxWords-2]
	holds(t, "down", a, l, 3*api.MaxWords-2)
	if err := a.Fill(0, api.MaxWords, most); err != api.OK {
		t.Fatal(err)
	}
	for i := range l {
		l[i] = most
	}
	holds(t, "full", a, l, 4*api.MaxWords-2)
}

// P2.2: a range that is not within is refused, and nothing is written or counted.
func TestP2_2Refused(t *testing.T) {
	a, l := numbered(t, 16)
	for _, x := range notRanges {
		i, n := x[0], x[1]
		if got, err := a.Words(i, n); got != nil || err != api.ErrArg {
			t.Errorf("Words(%d, %d) = %v, %d", i, n, got, err)
		}
		if err := a.Fill(i, n, 77); err != api.ErrArg {
			t.Errorf("Fill(%d, %d, 77): %d", i, n, err)
		}
		// With either of the ranges wrong, the other one at the beginning; and with both.
		for _, m := range [][2]int{{i, 0}, {0, i}, {i, i}} {
			if err := a.Move(m[0], m[1], n); err != api.ErrArg {
				t.Errorf("Move(%d, %d, %d): %d", m[0], m[1], n, err)
			}
		}
		holds(t, "refused", a, l, 16)
	}
	for _, i := range []int{-1, -2, -16, math.MinInt, math.MinInt + 1, 16, 17, 32, api.MaxWords, math.MaxInt - 1, math.MaxInt} {
		if got, err := a.Load(i); got != 0 || err != api.ErrArg {
			t.Errorf("Load(%d) = %d, %d", i, got, err)
		}
		if err := a.Store(i, 77); err != api.ErrArg {
			t.Errorf("Store(%d, 77): %d", i, err)
		}
		holds(t, "refused", a, l, 16)
	}
}

// P2.2: at the end of each size, the word behind the last one is not within, and an empty range there is.
func TestP2_2Ends(t *testing.T) {
	for _, words := range sizes {
		a, l := numbered(t, words)
		if got, err := a.Load(words); got != 0 || err != api.ErrArg {
			t.Errorf("%d: Load behind the last = %d, %d", words, got, err)
		}
		if got, err := a.Words(words, 1); got != nil || err != api.ErrArg {
			t.Errorf("%d: Words behind the last = %v, %d", words, got, err)
		}
		if got, err := a.Words(words, 0); len(got) != 0 || err != api.OK {
			t.Errorf("%d: no Words behind the last = %v, %d", words, got, err)
		}
		if got, err := a.Words(words+1, 0); got != nil || err != api.ErrArg {
			t.Errorf("%d: no Words further behind = %v, %d", words, got, err)
		}
		for _, err := range []api.Errno{a.Store(words, 1), a.Fill(words, 1, 1), a.Fill(0, words+1, 1), a.Fill(words-1, 2, 1),
			a.Move(words, 0, 1), a.Move(0, words, 1), a.Move(1, 0, words), a.Move(0, 1, words), a.Move(words+1, 0, 0), a.Move(0, words+1, 0)} {
			if err != api.ErrArg {
				t.Errorf("%d: beyond the last: %d", words, err)
			}
		}
		for _, err := range []api.Errno{a.Fill(words, 0, 1), a.Move(words, 0, 0), a.Move(0, words, 0), a.Move(words, words, 0)} {
			if err != api.OK {
				t.Errorf("%d: empty, behind the last: %d", words, err)
			}
		}
		holds(t, "ends", a, l, uint64(words))
	}
}

// P2.2: each method of a nil arena returns ErrNil, also where the range would be refused.
func TestP2_2Nil(t *testing.T) {
	var a *arena.Arena
	for _, x := range append([][2]int{{0, 0}, {0, 1}, {3, 5}, {0, 16}}, notRanges...) {
		i, n := x[0], x[1]
		if got, err := a.Load(i); got != 0 || err != api.ErrNil {
			t.Errorf("Load(%d) = %d, %d", i, got, err)
		}
		if got, err := a.Words(i, n); got != nil || err != api.ErrNil {
			t.Errorf("Words(%d, %d) = %v, %d", i, n, got, err)
		}
		for _, err := range []api.Errno{a.Store(i, 1), a.Fill(i, n, 1), a.Move(i, 0, n), a.Move(0, i, n)} {
			if err != api.ErrNil {
				t.Errorf("Store, Fill or Move with %d, %d: %d", i, n, err)
			}
		}
	}
}

// P2.2: the chapter's examples.
func TestP2_2Examples(t *testing.T) {
	a := made(t, 16)
	words := func(want ...uint64) {
		t.Helper()
		if got, err := a.Words(0, 3); !slices.Equal(got, want) || err != api.OK {
			t.Errorf("Words(0, 3) = %v, %d; want %v", got, err, want)
		}
	}
	a.Store(0, 1)
	a.Store(1, 2)
	a.Move(1, 0, 2)
	words(1, 1, 2)
	if a.Writes() != 4 {
		t.Errorf("Writes: %d", a.Writes())
	}
	a.Move(0, 1, 2)
	words(1, 2, 2)
}

// P2.3: after each of many steps, all words are what was written last, as a plain array tells.
func TestP2_3LastWritten(t *testing.T) {
	const words = 32
	a, l, writes := made(t, words), make([]uint64, words), uint64(0)
	seed := uint64(1)
	next := func(below int) int {
		seed = seed*6364136223846793005 + 1442695040888963407
		return int((seed >> 33) % uint64(below))
	}
	for range 20000 {
		i, j, n, v := next(words+4)-2, next(words+4)-2, next(words/2)-1, seed
		within := func(i, n int) bool { return i >= 0 && n >= 0 && i+n <= words }
		var err api.Errno
		ok, wrote := false, 0
		switch next(3) {
		case 0:
			err, ok, wrote = a.Store(i, v), within(i, 1), 1
			if ok {
				l[i] = v
			}
		case 1:
			err, ok, wrote = a.Fill(i, n, v), within(i, n), n
			for k := 0; ok && k < n; k++ {
				l[i+k] = v
			}
		case 2:
			err, ok, wrote = a.Move(i, j, n), within(i, n) && within(j, n), n
			if ok {
				before := slices.Clone(l)
				for k := range n {
					l[i+k] = before[j+k]
				}
			}
		}
		if ok != (err == api.OK) || !ok && err != api.ErrArg {
			t.Fatalf("a step with %d, %d, %d: %d", i, j, n, err)
		}
		if ok {
			writes += uint64(wrote)
		}
		holds(t, "step", a, l, writes)
	}
}

// P2.3: a Move, and one back, of ranges that do not overlap, restores the source, and leaves the words there.
func TestP2_3MoveBack(t *testing.T) {
	ranges(16, func(from, n int) {
		for to := 0; to+n <= 16; to++ {
			if to < from+n && from < to+n {
				continue
			}
			a, l := numbered(t, 16)
			source := slices.Clone(l[from : from+n])
			first, second := a.Move(to, from, n), a.Move(from, to, n)
			if first != api.OK || second != api.OK {
				t.Fatalf("Move(%d, %d, %d) and back: %d, %d", to, from, n, first, second)
			}
			copy(l[to:to+n], source)
			holds(t, "moved back", a, l, 16+2*uint64(n))

			// Also if what was the source is written in between.
			a.Move(to, from, n)
			a.Fill(from, n, most)
			a.Move(from, to, n)
			holds(t, "written in between, moved back", a, l, 16+5*uint64(n))
		}
	})
}
