package fit_test

import (
	"math"
	"reflect"
	"slices"
	"testing"

	"skerry/api"
	"skerry/arena"
	"skerry/black"
	"skerry/fit"
	"skerry/space"
	"skerry/table"
)

// How many words and granules the greatest space has.
const (
	mostWord = 65536
	mostGran = 32768
)

// The tags of cells, as layer 7 numbers them.
const (
	object, filler, free = 1, 2, 3
)

// never is more Turns behind a hit than any test does: that of a granule that was never hit.
const never = 1 << 30

// types are of each kind: those of the least and of the greatest objects, and some between.
var types = []api.Type{
	{Kind: 1}, {Kind: 1, Words: 2, Mask: 2}, {Kind: 1, Words: 5, Mask: 31}, {Kind: 1, Words: 64, Mask: 1<<63 | 6},
	{Kind: 2},
	{Kind: 3, Words: 1, Mask: 1}, {Kind: 3, Words: 2}, {Kind: 3, Words: 3, Mask: 5}, {Kind: 3, Words: 16, Mask: 0x8001},
	{Kind: 4},
}

// Numbers of types, as they stand in the list.
const (
	bare, pair, plain, great, refs, ones, flat, trios, wide, raw = 1, 2, 3, 4, 5, 6, 7, 8, 9, 10
)

// least are numbers of granules that are too few to ask for.
var least = []int{0, -1, -2, -8, -64, -mostGran, -mostWord, -1 << 32, math.MinInt + 1, math.MinInt}

// beyond are more granules than any space has.
var beyond = []int{mostGran + 1, mostWord, mostWord + 1, 1 << 31, 1 << 32, 1<<32 + 1, 1 << 62, math.MaxInt - 1, math.MaxInt}

// wrongIDs are numbers of types that the list lacks.
var wrongIDs = []int{0, -1, -10, 11, 12, 64, 65, 257, 4095, 1 << 32, 1<<32 + 1, math.MaxInt, math.MinInt}

// sizeOf returns how many granules an object has, as layer 5 defines it: the header and the slots, two words each, rounded up.
func sizeOf(id, n int) int {
	slots := n
	switch x := types[id-1]; x.Kind {
	case 1:
		slots = x.Words
	case 3:
		slots = n * x.Words
	}
	return (1 + slots + 1) / 2
}

// lenErr returns the error of a number of a type with a length, as layers 5 and 6 tell it.
func lenErr(id, n int) api.Errno {
	switch {
	case id < 1 || id > len(types):
		return api.ErrNone
	case n < 0, n > 0 && types[id-1].Kind == 1:
		return api.ErrArg
	case n > 4096:
		return api.ErrLong
	}
	return api.OK
}

// wordOf returns a header's word, put together by sums, as layer 7 defines it.
func wordOf(h api.Head) uint64 {
	return uint64(h.Tag) + 4*uint64(h.Type) + 65536*uint64(h.Len) + 1099511627776*uint64(h.Size)
}

// gap returns the cell that a gap of so many granules is.
func gap(at, size int) api.Cell {
	if size == 1 {
		return cell(at, filler, 1)
	}
	return cell(at, free, size)
}

// cell returns a gap with this tag, whether or not one of so many granules is told by it.
func cell(at int, tag uint8, size int) api.Cell {
	return api.Cell{At: at, Head: api.Head{Tag: tag, Size: size}}
}

// obj returns the cell that an object is.
func obj(at, id, n int) api.Cell {
	return api.Cell{At: at, Head: api.Head{Tag: object, Type: id, Len: n, Size: sizeOf(id, n)}}
}

// end returns the granule just behind a cell.
func end(c api.Cell) int {
	return c.At + c.Size
}

// tableOf returns a table with the types of the list.
func tableOf(t *testing.T) *table.Table {
	t.Helper()
	x, err := table.New(types...)
	if err != api.OK {
		t.Fatalf("table.New: %d", err)
	}
	return x
}

// listOf returns a list of n granules, with these hit.
func listOf(t *testing.T, n int, hits ...int) *black.Black {
	t.Helper()
	b, err := black.New(n)
	if err != api.OK {
		t.Fatalf("black.New(%d): %d", n, err)
	}
	if err := b.Hit(hits...); err != api.OK {
		t.Fatalf("Hit(%v): %d", hits, err)
	}
	return b
}

// spaceOf returns a space of so many words that is one gap.
func spaceOf(t *testing.T, words int) *space.Space {
	t.Helper()
	s, err := space.New(words, tableOf(t))
	if s == nil || err != api.OK {
		t.Fatalf("space.New(%d): %v, %d", words, s, err)
	}
	return s
}

// world is a space and a list, or none, and what they must be.
type world struct {
	*testing.T
	s      *space.Space
	b      *black.Black
	cells  []api.Cell
	words  []uint64
	behind []int // how many Turns there were behind the last hit of each granule
}

// over returns a world of these cells, which must fill so many words, without a list. All words but the headers look like headers.
func over(t *testing.T, words int, cells ...api.Cell) *world {
	t.Helper()
	a, err := arena.New(words)
	if err != api.OK {
		t.Fatalf("arena.New(%d): %d", words, err)
	}
	w := &world{T: t, cells: slices.Clone(cells), words: make([]uint64, words), behind: slices.Repeat([]int{never}, words/2)}
	for i := range words {
		like := []api.Cell{obj(0, bare, 0), gap(0, 2), obj(0, refs, 3), gap(0, 1), gap(0, 3)}
		w.words[i] = wordOf(like[i%len(like)].Head)
	}
	at := 0
	for _, c := range cells {
		if c.At != at {
			t.Fatalf("%v is not behind the one ahead of it", c)
		}
		w.words[2*c.At] = wordOf(c.Head)
		at = end(c)
	}
	if at != words/2 {
		t.Fatalf("%v do not fill %d words", cells, words)
	}
	for i, v := range w.words {
		a.Store(i, v)
	}
	if w.s, err = space.Over(a, tableOf(t)); w.s == nil || err != api.OK {
		t.Fatalf("Over %v: %v, %d", cells, w.s, err)
	}
	return w
}

// fresh returns a world of so many words that is one gap, without a list.
func fresh(t *testing.T, words int) *world {
	t.Helper()
	return over(t, words, gap(0, words/2))
}

// listed gives a world a list, with these granules hit.
func (w *world) listed(hits ...int) *world {
	w.Helper()
	w.b = listOf(w.T, len(w.behind))
	for g := range w.behind {
		w.behind[g] = never
	}
	return w.hit(hits...)
}

// hit hits granules that there are.
func (w *world) hit(hits ...int) *world {
	w.Helper()
	if err := w.b.Hit(hits...); err != api.OK {
		w.Fatalf("Hit(%v): %d", hits, err)
	}
	for _, g := range hits {
		w.behind[g] = 0
	}
	return w
}

// turn turns the list.
func (w *world) turn() *world {
	w.b.Turn()
	for g := range w.behind {
		w.behind[g]++
	}
	return w
}

// reach returns for how many granules there must be space at each granule, put down granule by granule.
func (w *world) reach() []int {
	list := make([]int, len(w.behind)+1)
	for _, c := range slices.Backward(w.cells) {
		after := 0
		for g := end(c) - 1; g >= c.At; g-- {
			after++
			if c.Tag == object || w.behind[g] <= 1 {
				after = 0
			}
			list[g] = after
		}
	}
	return list[:len(w.behind)]
}

// first returns what First must tell.
func (w *world) first(n int) (int, api.Errno) {
	return firstOf(w.reach(), n)
}

// firstOf returns what First must tell where there is space for so many granules at each granule.
func firstOf(reach []int, n int) (int, api.Errno) {
	if n < 1 {
		return 0, api.ErrArg
	}
	for g, k := range reach {
		if k >= n {
			return g, api.OK
		}
	}
	return 0, api.ErrFull
}

// most returns what Most must tell.
func (w *world) most() int {
	return slices.Max(w.reach())
}

// freeOf returns what Free must tell where there is space for so many granules at each granule.
func freeOf(reach []int) int {
	n := 0
	for _, k := range reach {
		n += min(k, 1)
	}
	return n
}

// state is all that can be seen of a space and a list.
type state struct {
	arena  *arena.Arena
	table  *table.Table
	words  []uint64
	writes uint64
	types  string
	starts []api.Run
	cells  []api.Cell
	lists  [3][]int // what is blacklisted now, a Turn later, and two Turns later
	len    int
}

// stateOf returns the state of a space and a list, each of which may be none.
func stateOf(s *space.Space, b *black.Black) state {
	a := s.Arena()
	words, _ := a.Words(0, a.Len())
	x := state{a, s.Table(), words, a.Writes(), s.Table().Put(), s.Starts().Runs(), s.Cells(), [3][]int{}, b.Len()}
	c := b.Copy()
	for k := range x.lists {
		x.lists[k] = c.List()
		c.Turn()
	}
	return x
}

// kept calls do, and reports an error if that changed anything of a space or a list.
func kept(t *testing.T, s *space.Space, b *black.Black, do func()) {
	t.Helper()
	was := stateOf(s, b)
	do()
	if now := stateOf(s, b); !reflect.DeepEqual(was, now) {
		t.Fatalf("%v became %v", was, now)
	}
}

// sound reports an error unless First of these, Most and Free tell what they must, and change nothing.
func (w *world) sound(n ...int) {
	w.Helper()
	kept(w.T, w.s, w.b, func() {
		w.Helper()
		w.asks(n...)
	})
}

// asks reports an error unless First of these, Most and Free tell what they must.
func (w *world) asks(n ...int) {
	w.Helper()
	reach := w.reach()
	for _, k := range n {
		at, err := fit.First(w.s, w.b, k)
		if wantAt, want := firstOf(reach, k); at != wantAt || err != want {
			w.Fatalf("%v, %v: First(%d): %d, %d; want %d, %d", w.cells, w.b.List(), k, at, err, wantAt, want)
		}
	}
	if got, err := fit.Most(w.s, w.b); got != slices.Max(reach) || err != api.OK {
		w.Fatalf("%v, %v: Most: %d, %d; want %d", w.cells, w.b.List(), got, err, slices.Max(reach))
	}
	if got, err := fit.Free(w.s, w.b); got != freeOf(reach) || err != api.OK {
		w.Fatalf("%v, %v: Free: %d, %d; want %d", w.cells, w.b.List(), got, err, freeOf(reach))
	}
}

// placeOf returns what Place must tell.
func (w *world) placeOf(id, n int) (int, api.Errno) {
	if err := lenErr(id, n); err != api.OK {
		return 0, err
	}
	return w.first(sizeOf(id, n))
}

// place places an object, if there is space for it, and reports an error unless all is then as it must be.
func (w *world) place(id, n int) (int, api.Errno) {
	w.Helper()
	wantAt, want := w.placeOf(id, n)
	was := stateOf(w.s, w.b)
	at, err := fit.Place(w.s, w.b, id, n)
	if at != wantAt || err != want {
		w.Fatalf("%v, %v: Place(%d, %d): %d, %d; want %d, %d", w.cells, w.b.List(), id, n, at, err, wantAt, want)
	}
	now := stateOf(w.s, w.b)
	if want == api.OK {
		w.lay(obj(at, id, n))
		// What must have changed is held against the world's; all else must be as it was.
		was.words, was.cells, was.writes, was.starts = w.words, w.cells, now.writes, w.starts()
	}
	if !reflect.DeepEqual(was, now) {
		w.Fatalf("behind Place(%d, %d): %v; want %v", id, n, now, was)
	}
	return at, err
}

// lay lets a new object be in the gap that has its granules.
func (w *world) lay(o api.Cell) {
	k := slices.IndexFunc(w.cells, func(c api.Cell) bool { return o.At < end(c) })
	c := w.cells[k]
	parts := []api.Cell{o}
	clear(w.words[2*o.At : 2*end(o)])
	if c.At < o.At {
		parts = slices.Insert(parts, 0, gap(c.At, o.At-c.At))
	}
	if end(o) < end(c) {
		parts = append(parts, gap(end(o), end(c)-end(o)))
	}
	for _, p := range parts {
		w.words[2*p.At] = wordOf(p.Head)
	}
	w.cells = slices.Replace(w.cells, k, k+1, parts...)
}

// starts returns the runs of granules at which objects must begin.
func (w *world) starts() []api.Run {
	var list []api.Run
	for _, c := range w.cells {
		if c.Tag != object {
			continue
		}
		if k := len(list) - 1; k >= 0 && list[k].At+list[k].Len == c.At {
			list[k].Len++
			continue
		}
		list = append(list, api.Run{At: c.At, Len: 1})
	}
	return list
}

// upTo returns the numbers from 0 to n.
func upTo(n int) []int {
	var list []int
	for k := range n + 1 {
		list = append(list, k)
	}
	return list
}

// picker returns a function that returns numbers below n, each of which follows from those before it.
func picker(x uint64) func(n int) int {
	return func(n int) int {
		x = x*6364136223846793005 + 1442695040888963407
		return int(x >> 33 % uint64(n))
	}
}

// arrangements are rows of cells that fill 16 words.
func arrangements() [][]api.Cell {
	return [][]api.Cell{
		{gap(0, 8)},
		{gap(0, 1), obj(1, raw, 13)},
		{obj(0, raw, 13), gap(7, 1)},
		{obj(0, raw, 15)},
		{obj(0, bare, 0), obj(1, refs, 0), obj(2, raw, 0), obj(3, ones, 0), obj(4, flat, 0), obj(5, trios, 0), obj(6, wide, 0), obj(7, raw, 1)},
		{gap(0, 1), obj(1, bare, 0), gap(2, 1), obj(3, bare, 0), gap(4, 1), obj(5, bare, 0), gap(6, 1), obj(7, bare, 0)},
		{obj(0, bare, 0), gap(1, 1), obj(2, bare, 0), gap(3, 1), obj(4, bare, 0), gap(5, 1), obj(6, bare, 0), gap(7, 1)},
		{gap(0, 3), obj(3, pair, 0), gap(5, 3)},
		{gap(0, 2), obj(2, bare, 0), gap(3, 5)},
		{gap(0, 5), obj(5, bare, 0), gap(6, 2)},
		{gap(0, 1), obj(1, bare, 0), gap(2, 2), obj(4, bare, 0), gap(5, 3)},
		{gap(0, 3), obj(3, bare, 0), gap(4, 2), obj(6, bare, 0), gap(7, 1)},
		{obj(0, refs, 3), gap(2, 4), obj(6, refs, 2)},
		{gap(0, 7), obj(7, bare, 0)},
		{obj(0, bare, 0), gap(1, 7)},
		{gap(0, 4), gap(4, 4)},
		{gap(0, 1), gap(1, 7)},
		{gap(0, 3), gap(3, 2), gap(5, 3)},
		{gap(0, 1), gap(1, 1), gap(2, 1), gap(3, 1), gap(4, 1), gap(5, 1), gap(6, 1), gap(7, 1)},
		{cell(0, filler, 3), obj(3, bare, 0), cell(4, free, 1), cell(5, filler, 2), cell(7, free, 1)},
		{cell(0, filler, 8)},
	}
}

// example returns the chapter's space and list: 16 words, and 2 hit.
func example(t *testing.T) (*space.Space, *black.Black) {
	t.Helper()
	return spaceOf(t, 16), listOf(t, 8, 2)
}

// firstIs reports an error unless First tells just that.
func firstIs(t *testing.T, s *space.Space, b *black.Black, n, wantAt int, want api.Errno) {
	t.Helper()
	kept(t, s, b, func() {
		t.Helper()
		if at, err := fit.First(s, b, n); at != wantAt || err != want {
			t.Errorf("First(%d): %d, %d; want %d, %d", n, at, err, wantAt, want)
		}
	})
}

// placeIs reports an error unless Place tells just that. If that is an error, nothing may change.
func placeIs(t *testing.T, s *space.Space, b *black.Black, id, n, wantAt int, want api.Errno) {
	t.Helper()
	place := func() {
		t.Helper()
		if at, err := fit.Place(s, b, id, n); at != wantAt || err != want {
			t.Errorf("Place(%d, %d): %d, %d; want %d, %d", id, n, at, err, wantAt, want)
		}
	}
	if want == api.OK {
		place()
	} else {
		kept(t, s, b, place)
	}
}

// mostIs reports an error unless Most tells just that.
func mostIs(t *testing.T, s *space.Space, b *black.Black, wantN int, want api.Errno) {
	t.Helper()
	kept(t, s, b, func() {
		t.Helper()
		if n, err := fit.Most(s, b); n != wantN || err != want {
			t.Errorf("Most: %d, %d; want %d, %d", n, err, wantN, want)
		}
	})
}

// freeIs reports an error unless Free tells just that.
func freeIs(t *testing.T, s *space.Space, b *black.Black, wantN int, want api.Errno) {
	t.Helper()
	kept(t, s, b, func() {
		t.Helper()
		if n, err := fit.Free(s, b); n != wantN || err != want {
			t.Errorf("Free: %d, %d; want %d, %d", n, err, wantN, want)
		}
	})
}

// P13.1: the chapter's example.
func TestP13_1Example(t *testing.T) {
	s, b := example(t)
	firstIs(t, s, b, 2, 0, api.OK)
	firstIs(t, s, b, 3, 3, api.OK)
	placeIs(t, s, b, refs, 3, 0, api.OK)
	firstIs(t, s, b, 2, 3, api.OK)
	if c := s.Cells(); !slices.Equal(c, []api.Cell{obj(0, refs, 3), gap(2, 6)}) {
		t.Errorf("Cells: %v", c)
	}
}

// P13.2: the chapter's example.
func TestP13_2Example(t *testing.T) {
	s, b := example(t)
	mostIs(t, s, b, 5, api.OK)
	freeIs(t, s, b, 7, api.OK)
	placeIs(t, s, b, refs, 3, 0, api.OK)
	mostIs(t, s, b, 5, api.OK)
	freeIs(t, s, b, 5, api.OK)
}

// row is a space, a list, and what must be told of them: First of 1, 2, and so on up to one more than there is space for (-1: ErrFull), Most, and Free.
type row struct {
	cells      []api.Cell
	hits       []int
	first      []int
	most, free int
}

// rows are written out: the edges that the chapter names. Where hits is nil there is no list.
func rows() []row {
	one := []api.Cell{gap(0, 8)}
	none := []api.Cell{obj(0, raw, 15)}
	ones := []api.Cell{gap(0, 1), obj(1, bare, 0), gap(2, 1), obj(3, plain, 0), gap(6, 1), obj(7, bare, 0)}
	ends := []api.Cell{gap(0, 2), obj(2, bare, 0), gap(3, 1), obj(4, bare, 0), gap(5, 3)}
	mid := []api.Cell{obj(0, bare, 0), gap(1, 3), obj(4, bare, 0), gap(5, 2), obj(7, bare, 0)}
	apart := []api.Cell{gap(0, 3), gap(3, 4), gap(7, 1)}
	all := []int{0, 1, 2, 3, 4, 5, 6, 7}
	return []row{
		{one, nil, []int{0, 0, 0, 0, 0, 0, 0, 0, -1}, 8, 8},
		{one, []int{}, []int{0, 0, 0, 0, 0, 0, 0, 0, -1}, 8, 8},
		{one, all, []int{-1}, 0, 0},
		{one, []int{0}, []int{1, 1, 1, 1, 1, 1, 1, -1}, 7, 7},
		{one, []int{7}, []int{0, 0, 0, 0, 0, 0, 0, -1}, 7, 7},
		{one, []int{0, 7}, []int{1, 1, 1, 1, 1, 1, -1}, 6, 6},
		{one, []int{3}, []int{0, 0, 0, 4, -1}, 4, 7},
		{one, []int{4}, []int{0, 0, 0, 0, -1}, 4, 7},
		{one, []int{1, 2}, []int{0, 3, 3, 3, 3, -1}, 5, 6},
		{one, []int{1, 3, 5, 7}, []int{0, -1}, 1, 4},
		{one, []int{0, 2, 4, 6}, []int{1, -1}, 1, 4},
		{one, []int{1, 4}, []int{0, 2, 5, -1}, 3, 6},
		{one, []int{0, 1, 2, 3, 4, 5, 6}, []int{7, -1}, 1, 1},
		{one, []int{1, 2, 3, 4, 5, 6, 7}, []int{0, -1}, 1, 1},
		{none, nil, []int{-1}, 0, 0},
		{none, []int{}, []int{-1}, 0, 0},
		{none, []int{0, 3, 7}, []int{-1}, 0, 0},
		{none, all, []int{-1}, 0, 0},
		{ones, nil, []int{0, -1}, 1, 3},
		{ones, []int{}, []int{0, -1}, 1, 3},
		{ones, []int{0}, []int{2, -1}, 1, 2},
		{ones, []int{0, 2}, []int{6, -1}, 1, 1},
		{ones, []int{0, 2, 6}, []int{-1}, 0, 0},
		{ones, []int{1, 3, 4, 5, 7}, []int{0, -1}, 1, 3},
		{ends, nil, []int{0, 0, 5, -1}, 3, 6},
		{ends, []int{1}, []int{0, 5, 5, -1}, 3, 5},
		{ends, []int{0}, []int{1, 5, 5, -1}, 3, 5},
		{ends, []int{0, 1}, []int{3, 5, 5, -1}, 3, 4},
		{ends, []int{0, 1, 3}, []int{5, 5, 5, -1}, 3, 3},
		{ends, []int{5}, []int{0, 0, -1}, 2, 5},
		{ends, []int{6}, []int{0, 0, -1}, 2, 5},
		{ends, []int{7}, []int{0, 0, -1}, 2, 5},
		{ends, []int{0, 6}, []int{1, -1}, 1, 4},
		{ends, []int{2, 4}, []int{0, 0, 5, -1}, 3, 6},
		{ends, all, []int{-1}, 0, 0},
		{mid, nil, []int{1, 1, 1, -1}, 3, 5},
		{mid, []int{0, 4, 7}, []int{1, 1, 1, -1}, 3, 5},
		{mid, []int{1}, []int{2, 2, -1}, 2, 4},
		{mid, []int{2}, []int{1, 5, -1}, 2, 4},
		{mid, []int{3}, []int{1, 1, -1}, 2, 4},
		{mid, []int{2, 5}, []int{1, -1}, 1, 3},
		{mid, []int{1, 2, 3}, []int{5, 5, -1}, 2, 2},
		{apart, nil, []int{0, 0, 0, 3, -1}, 4, 8},
		{apart, []int{1}, []int{0, 3, 3, 3, -1}, 4, 7},
		{apart, []int{4}, []int{0, 0, 0, -1}, 3, 7},
		{apart, []int{0, 6}, []int{1, 1, 3, -1}, 3, 6},
	}
}

// world returns the world of a row.
func (r row) world(t *testing.T) *world {
	t.Helper()
	w := over(t, 16, r.cells...)
	if r.hits != nil {
		w.listed(r.hits...)
	}
	return w
}

// P13.1: gaps, lists and numbers of granules of all kinds, with what is told of them written out.
func TestP13_1FirstRows(t *testing.T) {
	for _, r := range rows() {
		w := r.world(t)
		for k, at := range r.first {
			if at < 0 {
				firstIs(t, w.s, w.b, k+1, 0, api.ErrFull)
			} else {
				firstIs(t, w.s, w.b, k+1, at, api.OK)
			}
		}
		for n := len(r.first); n < 20; n++ {
			firstIs(t, w.s, w.b, n, 0, api.ErrFull)
		}
		for _, n := range beyond {
			firstIs(t, w.s, w.b, n, 0, api.ErrFull)
		}
	}
}

// P13.2: the same, of Most and Free.
func TestP13_2Rows(t *testing.T) {
	for _, r := range rows() {
		w := r.world(t)
		mostIs(t, w.s, w.b, r.most, api.OK)
		freeIs(t, w.s, w.b, r.free, api.OK)
	}
}

// P13.1, P13.2: all sets of granules that may be hit, in all rows of cells, by hits of either age and of both.
func TestP13_1AllHits(t *testing.T) {
	for _, cells := range arrangements() {
		w := over(t, 16, cells...)
		w.sound(upTo(10)...)
		for set := range 1 << 8 {
			for age := range 4 {
				w.listed()
				for g := range 8 {
					if set>>g&1 == 1 && (age == 0 || age == 2 && g%2 == 0 || age == 3) {
						w.hit(g)
					}
				}
				w.turn()
				for g := range 8 {
					if set>>g&1 == 1 && (age == 1 || age == 2 && g%2 == 1 || age == 3) {
						w.hit(g)
					}
				}
				w.asks(upTo(10)...)
			}
		}
		w.sound(upTo(10)...)
	}
}

// P13.1: n of 0 and less is ErrArg, with and without a list, whether or not there is space.
func TestP13_1FirstLeast(t *testing.T) {
	for _, cells := range arrangements() {
		w := over(t, 16, cells...)
		for _, n := range least {
			firstIs(t, w.s, nil, n, 0, api.ErrArg)
			firstIs(t, w.s, listOf(t, 8), n, 0, api.ErrArg)
			firstIs(t, w.s, listOf(t, 8, 0, 1, 2, 3, 4, 5, 6, 7), n, 0, api.ErrArg)
		}
	}
}

// otherLens are numbers of granules that a list of a space of 8 must not have.
var otherLens = []int{7, 9, 0, 1, 2, 4, 6, 10, 15, 16, 17, 64, mostGran, mostWord}

// P13.1: a list of another number of granules is ErrArg, ahead of ErrFull, and nothing changes.
func TestP13_1OtherLists(t *testing.T) {
	for _, cells := range arrangements() {
		w := over(t, 16, cells...)
		for _, k := range otherLens {
			b := listOf(t, k)
			for _, n := range []int{1, 2, 7, 8, 9, math.MaxInt, 0, -1, math.MinInt} {
				firstIs(t, w.s, b, n, 0, api.ErrArg)
			}
			placeIs(t, w.s, b, bare, 0, 0, api.ErrArg)
			placeIs(t, w.s, b, raw, 15, 0, api.ErrArg)
			placeIs(t, w.s, b, raw, 16, 0, api.ErrArg)
			placeIs(t, w.s, b, wide, 4096, 0, api.ErrArg)
		}
	}
	s := spaceOf(t, mostWord)
	for _, k := range []int{0, 8, mostGran - 1, mostGran + 1, mostWord} {
		firstIs(t, s, listOf(t, k), 1, 0, api.ErrArg)
	}
	firstIs(t, s, listOf(t, mostGran), mostGran, 0, api.OK)
}

// P13.2: the same, of Most and Free.
func TestP13_2OtherLists(t *testing.T) {
	for _, cells := range arrangements() {
		w := over(t, 16, cells...)
		for _, k := range otherLens {
			mostIs(t, w.s, listOf(t, k), 0, api.ErrArg)
			freeIs(t, w.s, listOf(t, k), 0, api.ErrArg)
		}
	}
	s := spaceOf(t, mostWord)
	for _, k := range []int{0, 8, mostGran - 1, mostGran + 1, mostWord} {
		mostIs(t, s, listOf(t, k), 0, api.ErrArg)
		freeIs(t, s, listOf(t, k), 0, api.ErrArg)
	}
}

// P13.1: no space is ErrNil, whatever else is wrong, with a list and without one.
func TestP13_1NoSpace(t *testing.T) {
	numbers := []int{1, 2, 8, 9, 0, -1, mostGran, math.MaxInt, math.MinInt}
	for _, b := range []*black.Black{nil, listOf(t, 0), listOf(t, 8), listOf(t, 8, 1, 2)} {
		for _, n := range numbers {
			firstIs(t, nil, b, n, 0, api.ErrNil)
			for _, id := range numbers {
				placeIs(t, nil, b, id, n, 0, api.ErrNil)
			}
		}
	}
}

// P13.2: no space is ErrNil for Most and Free.
func TestP13_2NoSpace(t *testing.T) {
	for _, b := range []*black.Black{nil, listOf(t, 0), listOf(t, 8), listOf(t, 8, 1, 2)} {
		mostIs(t, nil, b, 0, api.ErrNil)
		freeIs(t, nil, b, 0, api.ErrNil)
	}
}

// P13.1: a type that the table lacks, or a length that the type does not have, is refused ahead of a wrong list, and of no space.
func TestP13_1PlaceErrors(t *testing.T) {
	for _, cells := range [][]api.Cell{{gap(0, 8)}, {obj(0, raw, 15)}, {gap(0, 3), obj(3, pair, 0), gap(5, 3)}} {
		w := over(t, 16, cells...)
		for _, b := range []*black.Black{nil, listOf(t, 8), listOf(t, 8, 0, 5), listOf(t, 7), listOf(t, 9), listOf(t, 0)} {
			for _, id := range wrongIDs {
				for _, n := range []int{0, 1, 4096, 4097, -1, math.MinInt, math.MaxInt} {
					placeIs(t, w.s, b, id, n, 0, api.ErrNone)
				}
			}
			for _, id := range []int{bare, pair, plain, great} {
				for _, n := range []int{1, 2, 4096, 4097, -1, math.MinInt, math.MaxInt} {
					placeIs(t, w.s, b, id, n, 0, api.ErrArg)
				}
			}
			for _, id := range []int{refs, ones, flat, trios, wide, raw} {
				for _, n := range []int{-1, -2, -4096, math.MinInt + 1, math.MinInt} {
					placeIs(t, w.s, b, id, n, 0, api.ErrArg)
				}
				for _, n := range []int{4097, 4098, 65536, 1 << 32, math.MaxInt - 1, math.MaxInt} {
					placeIs(t, w.s, b, id, n, 0, api.ErrLong)
				}
			}
		}
	}
}

// P13.1: a space of a table without types has space, but no object can be placed there.
func TestP13_1NoTypes(t *testing.T) {
	x, _ := table.New()
	s, err := space.New(16, x)
	if err != api.OK {
		t.Fatalf("space.New: %d", err)
	}
	firstIs(t, s, nil, 8, 0, api.OK)
	placeIs(t, s, nil, 1, 0, 0, api.ErrNone)
	placeIs(t, s, listOf(t, 3), 1, 0, 0, api.ErrNone)
}

// P13.1: Place of each type with each length up to just beyond what there is space for, in all rows of cells, with several lists and without one.
func TestP13_1PlaceEach(t *testing.T) {
	for _, cells := range arrangements() {
		for id := 1; id <= len(types); id++ {
			for n := 0; n <= 18; n++ {
				over(t, 16, cells...).place(id, n)
				for _, hits := range [][]int{{0}, {3}, {1, 5}} {
					over(t, 16, cells...).listed(hits...).place(id, n)
				}
			}
		}
	}
}

// P13.1: Place of each kind, of the greatest length for which there is space, and of one more, written out.
func TestP13_1PlaceGreatest(t *testing.T) {
	for _, x := range []struct{ id, n int }{{refs, 14}, {refs, 15}, {ones, 15}, {flat, 7}, {trios, 4}, {trios, 5}, {raw, 15}, {pair, 0}, {plain, 0}, {bare, 0}} {
		w := fresh(t, 16)
		if at, err := w.place(x.id, x.n); at != 0 || err != api.OK {
			t.Errorf("Place(%d, %d): %d, %d", x.id, x.n, at, err)
		}
	}
	for _, x := range []struct{ id, n int }{{refs, 16}, {ones, 16}, {flat, 8}, {trios, 6}, {wide, 1}, {raw, 16}, {great, 0}, {raw, 4096}, {wide, 4096}} {
		for _, w := range []*world{fresh(t, 16), fresh(t, 16).listed()} {
			if at, err := w.place(x.id, x.n); at != 0 || err != api.ErrFull {
				t.Errorf("Place(%d, %d): %d, %d", x.id, x.n, at, err)
			}
		}
	}
	w := fresh(t, 80).listed(1, 35)
	if at, err := w.place(great, 0); at != 2 || err != api.OK {
		t.Errorf("Place(great): %d, %d", at, err)
	}
	w = fresh(t, 80).listed(2, 35)
	if at, err := w.place(great, 0); at != 0 || err != api.ErrFull {
		t.Errorf("Place(great): %d, %d", at, err)
	}
}

// P13.1: in the greatest space there is space for all that may be but the greatest object of all, which has one granule more.
func TestP13_1PlaceMost(t *testing.T) {
	for _, x := range []struct {
		id, n int
		err   api.Errno
	}{{raw, 4096, api.OK}, {refs, 4096, api.OK}, {ones, 4096, api.OK}, {flat, 4096, api.OK}, {trios, 4096, api.OK}, {wide, 4095, api.OK}, {wide, 4096, api.ErrFull}, {wide, 4097, api.ErrLong}} {
		s := spaceOf(t, mostWord)
		placeIs(t, s, nil, x.id, x.n, 0, x.err)
		if c := s.Cells()[0]; x.err == api.OK && c != obj(0, x.id, x.n) {
			t.Errorf("Place(%d, %d): %v", x.id, x.n, c)
		}
	}
}

// P13.1: one Place behind the other, till there is space for none: each type alone.
func TestP13_1PlaceOn(t *testing.T) {
	for id := 1; id <= len(types); id++ {
		for _, n := range []int{0, 1, 2, 3} {
			if lenErr(id, n) != api.OK {
				continue
			}
			for _, w := range []*world{fresh(t, 200), fresh(t, 200).listed(), fresh(t, 200).listed(0, 1, 7, 30, 31, 32, 33, 60, 98, 99)} {
				w.full(id, n)
			}
		}
	}
}

// full places an object behind the other, till there is space for none.
func (w *world) full(id, n int) {
	w.Helper()
	last := -1
	for {
		at, err := w.place(id, n)
		w.sound(sizeOf(id, n), 1, 2)
		if err != api.OK {
			break
		}
		if at <= last {
			w.Fatalf("Place(%d, %d) at %d, behind one at %d", id, n, at, last)
		}
		last = at
	}
	if m := w.most(); m >= sizeOf(id, n) {
		w.Fatalf("Place(%d, %d): ErrFull, with space for %d", id, n, m)
	}
}

// P13.1: one Place behind the other, with the places written out: lower gaps are gone back to.
func TestP13_1PlaceRow(t *testing.T) {
	w := over(t, 32, gap(0, 2), obj(2, bare, 0), gap(3, 4), obj(7, bare, 0), gap(8, 8)).listed(5, 10)
	for k, x := range []struct {
		id, n, at int
		err       api.Errno
	}{
		{plain, 0, 11, api.OK}, {pair, 0, 0, api.OK}, {pair, 0, 3, api.OK}, {pair, 0, 8, api.OK}, {pair, 0, 14, api.OK},
		{pair, 0, 0, api.ErrFull}, {bare, 0, 6, api.OK}, {bare, 0, 0, api.ErrFull},
	} {
		if at, err := w.place(x.id, x.n); at != x.at || err != x.err {
			t.Errorf("%d: %d, %d", k, at, err)
		}
	}
	w.turn().turn()
	for k, x := range []struct {
		at  int
		err api.Errno
	}{{5, api.OK}, {10, api.OK}, {0, api.ErrFull}} {
		if at, err := w.place(bare, 0); at != x.at || err != x.err {
			t.Errorf("%d: %d, %d", k, at, err)
		}
	}
}

// P13.1: an object that is placed has only words 0 behind its header, whatever was there; and two places at the same time have a space each.
func TestP13_1PlaceApart(t *testing.T) {
	w, other := fresh(t, 16), fresh(t, 16)
	w.place(raw, 6)
	other.sound(upTo(9)...)
	other.place(refs, 2)
	w.sound(upTo(9)...)
	words, err := w.s.Arena().Words(0, 10)
	want := slices.Concat([]uint64{wordOf(obj(0, raw, 6).Head)}, make([]uint64, 7), []uint64{wordOf(gap(4, 4).Head)}, w.words[9:10])
	if err != api.OK || !slices.Equal(words, want) {
		t.Errorf("%x; want %x", words, want)
	}
}

// P13.1: one list may be that of several spaces, and what it has counts at each call.
func TestP13_1SharedList(t *testing.T) {
	b := listOf(t, 8, 0)
	s, other := spaceOf(t, 16), spaceOf(t, 16)
	placeIs(t, s, b, bare, 0, 1, api.OK)
	placeIs(t, other, b, bare, 0, 1, api.OK)
	b.Hit(2, 3)
	placeIs(t, s, b, bare, 0, 4, api.OK)
	placeIs(t, other, nil, bare, 0, 0, api.OK)
	b.Turn()
	b.Turn()
	placeIs(t, s, b, bare, 0, 0, api.OK)
	placeIs(t, other, b, bare, 0, 2, api.OK)
	placeIs(t, s.Copy(), b.Copy(), bare, 0, 2, api.OK)
	firstIs(t, s, b, 1, 2, api.OK)
}

// P13.1: where words were written over headers, the cells are those that the words tell of, and Place returns Put's error if the space still has an object there; nothing changes then.
func TestP13_1Overwritten(t *testing.T) {
	w := over(t, 16, gap(0, 5), obj(5, plain, 0)).listed(0, 1, 2, 3, 4)
	firstIs(t, w.s, w.b, 1, 0, api.ErrFull)
	w.s.Arena().Store(0, wordOf(gap(0, 8).Head))
	firstIs(t, w.s, w.b, 3, 5, api.OK)
	firstIs(t, w.s, w.b, 4, 0, api.ErrFull)
	mostIs(t, w.s, w.b, 3, api.OK)
	freeIs(t, w.s, w.b, 3, api.OK)
	placeIs(t, w.s, w.b, bare, 0, 0, api.ErrNone)
	placeIs(t, w.s, w.b, raw, 5, 0, api.ErrNone)
	placeIs(t, w.s, w.b, raw, 6, 0, api.ErrFull)
}

// P13.1, P13.2: where no cell begins, and behind that, there is no space.
func TestP13_1NoCells(t *testing.T) {
	w := over(t, 16, gap(0, 2), obj(2, bare, 0), gap(3, 5)).listed()
	w.s.Arena().Store(6, 0)
	for _, b := range []*black.Black{nil, w.b} {
		firstIs(t, w.s, b, 2, 0, api.OK)
		firstIs(t, w.s, b, 3, 0, api.ErrFull)
		mostIs(t, w.s, b, 2, api.OK)
		freeIs(t, w.s, b, 2, api.OK)
		placeIs(t, w.s, b, plain, 0, 0, api.ErrFull)
	}
	w.s.Arena().Store(0, math.MaxUint64)
	for _, b := range []*black.Black{nil, w.b} {
		firstIs(t, w.s, b, 1, 0, api.ErrFull)
		mostIs(t, w.s, b, 0, api.OK)
		freeIs(t, w.s, b, 0, api.OK)
		placeIs(t, w.s, b, bare, 0, 0, api.ErrFull)
	}
}

// P13.2: Most and Free ahead of and behind a Place, a Drop, a Hit and a Turn, written out.
func TestP13_2Steps(t *testing.T) {
	s, b := spaceOf(t, 40), listOf(t, 20)
	tells := func(most, free, plainMost, plainFree int) {
		t.Helper()
		mostIs(t, s, b, most, api.OK)
		freeIs(t, s, b, free, api.OK)
		mostIs(t, s, nil, plainMost, api.OK)
		freeIs(t, s, nil, plainFree, api.OK)
	}
	tells(20, 20, 20, 20)
	placeIs(t, s, b, raw, 5, 0, api.OK)
	tells(17, 17, 17, 17)
	b.Hit(10)
	tells(9, 16, 17, 17)
	placeIs(t, s, b, raw, 15, 11, api.OK)
	tells(7, 8, 8, 9)
	b.Hit(0, 2, 11, 18)
	tells(7, 8, 8, 9)
	b.Hit(3, 19)
	tells(6, 6, 8, 9)
	b.Turn()
	tells(6, 6, 8, 9)
	b.Hit(3)
	b.Turn()
	tells(7, 8, 8, 9)
	if err := s.Drop(0); err != api.OK {
		t.Fatalf("Drop: %d", err)
	}
	tells(7, 11, 11, 12)
	b.Turn()
	tells(11, 12, 11, 12)
	placeIs(t, s, b, raw, 21, 0, api.OK)
	tells(1, 1, 1, 1)
	b.Hit(19)
	tells(0, 0, 1, 1)
	placeIs(t, s, nil, bare, 0, 19, api.OK)
	tells(0, 0, 0, 0)
}

// P13.3: for each n up to Most there is space, for none above; what is placed is where First returns; no other object is affected, none of its granules was blacklisted, and exactly that many fewer are free.
func TestP13_3Steps(t *testing.T) {
	for _, size := range []int{16, 18, 40, 126, 128, 130, 600} {
		pick := picker(uint64(size))
		w := fresh(t, size)
		for step := range 300 {
			switch k := pick(10); {
			case step%100 == 50:
				w.listed()
			case k < 4:
				w.follows(1+pick(len(types)), pick(2)*pick(12))
			case k < 6 && w.b != nil:
				w.hit(pick(size/2), pick(size/2))
			case k == 6 && w.b != nil:
				w.turn()
			case k == 7:
				w.drop(pick(size / 2))
			default:
				w.follows(bare+pick(2), 0)
			}
			// Of a great space: the least numbers, and those about the greatest one for which there is space.
			numbers := upTo(min(size/2+2, 24))
			for k := range 4 {
				numbers = append(numbers, w.most()+k-1)
			}
			w.sound(numbers...)
		}
	}
}

// drop drops the object that has a granule, if there is one.
func (w *world) drop(g int) {
	w.Helper()
	for _, c := range w.cells {
		if c.Tag != object || g < c.At || g >= end(c) {
			continue
		}
		if err := w.s.Drop(c.At); err != api.OK {
			w.Fatalf("Drop(%d): %d", c.At, err)
		}
	}
	w.cells = w.s.Cells()
	w.words, _ = w.s.Arena().Words(0, w.s.Arena().Len())
}

// follows places an object and reports an error unless all that the chapter says of that holds.
func (w *world) follows(id, n int) {
	w.Helper()
	if lenErr(id, n) != api.OK {
		w.place(id, n)
		return
	}
	size := sizeOf(id, n)
	hits := w.b.List()
	first, firstErr := fit.First(w.s, w.b, size)
	most, _ := fit.Most(w.s, w.b)
	was, _ := fit.Free(w.s, w.b)
	others := objectsOf(w.s)
	at, err := w.place(id, n)
	now, _ := fit.Free(w.s, w.b)
	if at != first || err != firstErr || (err == api.OK) != (size <= most) {
		w.Fatalf("Place(%d, %d): %d, %d; First: %d, %d; Most: %d", id, n, at, err, first, firstErr, most)
	}
	if err != api.OK {
		size = 0
	}
	if now != was-size {
		w.Fatalf("Free: %d behind %d, less %d", now, was, size)
	}
	for _, g := range hits {
		if at <= g && g < at+size {
			w.Fatalf("Place(%d, %d) at %d has %d, which is blacklisted", id, n, at, g)
		}
	}
	if size > 0 {
		others = append(others, obj(at, id, n))
		slices.SortFunc(others, func(a, b api.Cell) int { return a.At - b.At })
	}
	if got := objectsOf(w.s); !slices.Equal(got, others) {
		w.Fatalf("behind Place(%d, %d): %v; want %v", id, n, got, others)
	}
}

// objectsOf returns the objects of a space.
func objectsOf(s *space.Space) []api.Cell {
	return slices.DeleteFunc(s.Cells(), func(c api.Cell) bool { return c.Tag != object })
}

// P13.3: the words of other objects stay what they were, whatever stands in them.
func TestP13_3Others(t *testing.T) {
	w := over(t, 32, gap(0, 2), obj(2, raw, 4), gap(5, 1), obj(6, refs, 3), gap(8, 8)).listed(0, 9)
	for i := range w.words {
		if (i > 4 && i < 10) || (i > 12 && i < 16) {
			w.words[i] = math.MaxUint64 - uint64(i)
			w.s.Arena().Store(i, w.words[i])
		}
	}
	for _, x := range []struct{ id, n int }{{raw, 3}, {raw, 0}, {refs, 1}, {flat, 3}, {bare, 0}, {bare, 0}} {
		w.follows(x.id, x.n)
	}
	if got := objectsOf(w.s); !slices.Equal(got, []api.Cell{obj(1, raw, 0), obj(2, raw, 4), obj(5, refs, 1), obj(6, refs, 3), obj(8, bare, 0), obj(10, raw, 3), obj(12, flat, 3)}) {
		t.Errorf("%v", got)
	}
}

// P13.3: all that holds in small spaces holds in the greatest one, be it empty, full of the least objects or of gaps, with all, none or each second granule blacklisted.
func TestP13_3Most(t *testing.T) {
	numbers := []int{math.MinInt, 0, 1, 2, 999, 1000, mostGran - 1, mostGran, mostGran + 1, math.MaxInt}
	var even, every, objects, mixed []int
	for g := range mostGran {
		every = append(every, g)
		if g%2 == 0 {
			even = append(even, g)
		}
		if g%2 == 1 {
			objects = append(objects, g)
		}
		if g%1000 == 999 {
			mixed = append(mixed, g)
		}
	}
	for _, at := range [][]int{nil, every, objects, mixed} {
		s := settled(t, at)
		w := &world{T: t, s: s, cells: s.Cells(), behind: slices.Repeat([]int{never}, mostGran)}
		w.sound(numbers...)
		for _, hits := range [][]int{nil, every, even, mixed, {0}, {mostGran - 1}, {mostGran / 2}, {998, 1000, 30000}} {
			w.listed(hits...).sound(numbers...)
		}
		w.listed(mixed...).turn().hit(even...).sound(numbers...)
		w.turn().sound(numbers...)
		w.turn().sound(numbers...)
	}
}

// settled returns the greatest space, with the least objects at these granules.
func settled(t *testing.T, at []int) *space.Space {
	t.Helper()
	s := spaceOf(t, mostWord)
	for _, g := range at {
		s.Arena().Store(2*g, wordOf(obj(0, bare, 0).Head))
	}
	if err := s.Settle(at...); err != api.OK {
		t.Fatalf("Settle: %d", err)
	}
	return s
}
