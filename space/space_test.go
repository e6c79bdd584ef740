package space_test

import (
	"math"
	"slices"
	"testing"

	"skerry/api"
	"skerry/arena"
	"skerry/bits"
	"skerry/space"
	"skerry/table"
)

// How many words and granules the greatest space has.
const (
	mostWord = 65536
	mostGran = 32768
)

// The tags of cells, as layer 7 numbers them.
const (
	object, filler, free = 1, 2, 3
)

// types are of each kind: those of the least and of the greatest objects, and some between.
var types = []api.Type{
	{Kind: 1}, {Kind: 1, Words: 2, Mask: 2}, {Kind: 1, Words: 64, Mask: 1<<63 | 6},
	{Kind: 2},
	{Kind: 3, Words: 1, Mask: 1}, {Kind: 3, Words: 3, Mask: 5}, {Kind: 3, Words: 16, Mask: 0x8001},
	{Kind: 4},
}

// Numbers of types, as they stand in the list.
const (
	bare, pair, great, refs, ones, trios, wide, raw = 1, 2, 3, 4, 5, 6, 7, 8
)

// Granules, numbers of types and lengths that no space of 16 words with these types has.
var (
	wrongGrans = []int{-1, -2, -8, -16, -mostGran, 8, 9, 15, 16, mostGran - 1, mostGran, mostWord, 1 << 32, 1 << 61, 1 << 62, math.MaxInt - 1, math.MaxInt, math.MinInt, math.MinInt + 1}
	wrongIDs   = []int{0, -1, -8, 9, 10, 64, 65, 257, 4095, 4096, 1 << 32, 1<<32 + 1, math.MaxInt, math.MinInt}
)

// sizeOf returns how many granules an object has, as layer 5 defines it: the header and the slots, two words each, rounded up.
func sizeOf(id, n int) int {
	slots := n
	switch x := types[id-1]; x.Kind {
	case 1:
		slots = x.Words
	case 3:
		slots = n * x.Words
	}
	return (1 + slots + 1) / 2
}

// lenErr returns the error of a number of a type with a length, as layers 5 and 6 tell it.
func lenErr(id, n int) api.Errno {
	switch {
	case id < 1 || id > len(types):
		return api.ErrNone
	case n < 0, n > 0 && types[id-1].Kind == 1:
		return api.ErrArg
	case n > 4096:
		return api.ErrLong
	}
	return api.OK
}

// wordOf returns a header's word, put together by sums, as layer 7 defines it.
func wordOf(h api.Head) uint64 {
	return uint64(h.Tag) + 4*uint64(h.Type) + 65536*uint64(h.Len) + 1099511627776*uint64(h.Size)
}

// headOf returns the header of an object of the list's types whose word this is, and whether there is one.
func headOf(w uint64) (api.Head, bool) {
	h := api.Head{Tag: uint8(w % 4), Type: int(w / 4 % 4096), Len: int(w / 65536 % 16777216), Size: int(w / 1099511627776)}
	if w/16384%4 != 0 || h.Tag != object || lenErr(h.Type, h.Len) != api.OK || h.Size != sizeOf(h.Type, h.Len) {
		return api.Head{}, false
	}
	return h, true
}

// gap returns the cell that a gap of so many granules is.
func gap(at, size int) api.Cell {
	if size == 1 {
		return api.Cell{At: at, Head: api.Head{Tag: filler, Size: 1}}
	}
	return api.Cell{At: at, Head: api.Head{Tag: free, Size: size}}
}

// obj returns the cell that an object is.
func obj(at, id, n int) api.Cell {
	return api.Cell{At: at, Head: api.Head{Tag: object, Type: id, Len: n, Size: sizeOf(id, n)}}
}

// end returns the granule just behind a cell.
func end(c api.Cell) int {
	return c.At + c.Size
}

// rubbish returns a word that is the header of nothing, another one for each index.
func rubbish(i int) uint64 {
	return uint64(i+1)<<16 | 0xc000 | uint64(i%4)
}

// tableOf returns a table with the types of the list.
func tableOf(t *testing.T) *table.Table {
	t.Helper()
	x, err := table.New(types...)
	if err != api.OK {
		t.Fatalf("table.New: %d", err)
	}
	return x
}

// arenaOf returns an arena that has these cells, one behind the other, and rubbish in all words that are not their first ones.
func arenaOf(t *testing.T, words int, cells ...api.Cell) *arena.Arena {
	t.Helper()
	a, err := arena.New(words)
	if err != api.OK {
		t.Fatalf("arena.New(%d): %d", words, err)
	}
	for i := range words {
		a.Store(i, rubbish(i))
	}
	for _, c := range cells {
		if err := a.Store(2*c.At, wordOf(c.Head)); err != api.OK {
			t.Fatalf("Store(%d): %d", 2*c.At, err)
		}
	}
	return a
}

// wordsOf returns all words of an arena.
func wordsOf(t *testing.T, a *arena.Arena) []uint64 {
	t.Helper()
	list, err := a.Words(0, a.Len())
	if err != api.OK {
		t.Fatalf("Words: %d", err)
	}
	return list
}

// world is a space, and what it must be: its words and its cells.
type world struct {
	*testing.T
	s     *space.Space
	a     *arena.Arena
	x     *table.Table
	words []uint64
	cells []api.Cell
}

// fresh returns a world of so many words that is one gap. Its words but the first are rubbish.
func fresh(t *testing.T, words int) *world {
	t.Helper()
	x := tableOf(t)
	s, err := space.New(words, x)
	if s == nil || err != api.OK {
		t.Fatalf("New(%d): %v, %d", words, s, err)
	}
	w := &world{T: t, s: s, a: s.Arena(), x: x, words: make([]uint64, words), cells: []api.Cell{gap(0, words/2)}}
	w.words[0] = wordOf(w.cells[0].Head)
	w.holds()
	for i := 1; i < words; i++ {
		w.words[i] = rubbish(i)
		w.a.Store(i, rubbish(i))
	}
	return w
}

// over returns a world of a space that Over made of an arena with these cells.
func over(t *testing.T, words int, cells ...api.Cell) *world {
	t.Helper()
	w := &world{T: t, a: arenaOf(t, words, cells...), x: tableOf(t), cells: cells}
	w.words = wordsOf(t, w.a)
	writes := w.a.Writes()
	s, err := space.Over(w.a, w.x)
	if s == nil || err != api.OK {
		t.Fatalf("Over %v: %v, %d", cells, s, err)
	}
	if got := w.a.Writes(); got != writes {
		t.Fatalf("Over %v wrote %d words", cells, got-writes)
	}
	w.s = s
	w.holds()
	return w
}

// holds reports an error unless the space is what it must be, and telling of it writes nothing.
func (w *world) holds() {
	w.Helper()
	writes := w.a.Writes()
	if w.s.Arena() != w.a || w.s.Table() != w.x || w.s.Granules() != len(w.words)/2 {
		w.Fatalf("another arena or table, or %d granules", w.s.Granules())
	}
	got := wordsOf(w.T, w.a)
	for i := range w.words {
		if got[i] != w.words[i] {
			w.Fatalf("word %d: %x; want %x", i, got[i], w.words[i])
		}
	}
	if got := w.s.Cells(); !slices.Equal(got, w.cells) {
		w.Fatalf("Cells: %v; want %v", got, w.cells)
	}
	w.starts(w.s.Starts())
	if got := w.a.Writes(); got != writes {
		w.Fatalf("%d words were written", got-writes)
	}
}

// starts reports an error unless just the bits are set at which objects must begin.
func (w *world) starts(b *bits.Bits) {
	w.Helper()
	if b.Len() != len(w.words)/2 {
		w.Fatalf("Starts has %d bits", b.Len())
	}
	last := 0
	for _, c := range w.cells {
		if c.At != last || b.Has(c.At) != (c.Tag == object) {
			w.Fatalf("cells %v: the start of %d is %v", w.cells, c.At, b.Has(c.At))
		}
		last = end(c)
	}
	all, err := b.Count(0, b.Len())
	if objects := w.objects(); err != api.OK || all != len(objects) || last != b.Len() {
		w.Fatalf("%d starts, %d; want those of %v", all, err, objects)
	}
}

// objects returns the cells that must be objects.
func (w *world) objects() []api.Cell {
	var list []api.Cell
	for _, c := range w.cells {
		if c.Tag == object {
			list = append(list, c)
		}
	}
	return list
}

// begins returns the granules at which objects must begin.
func (w *world) begins() []int {
	var list []int
	for _, c := range w.objects() {
		list = append(list, c.At)
	}
	return list
}

// at returns the index of the cell that must have a granule.
func (w *world) at(g int) int {
	return slices.IndexFunc(w.cells, func(c api.Cell) bool { return g < end(c) })
}

// swap lets other cells be where those from the one index to below the other were. The new gaps' first words are theirs.
func (w *world) swap(from, to int, cells ...api.Cell) {
	for _, c := range cells {
		if c.Tag != object {
			w.words[2*c.At] = wordOf(c.Head)
		}
	}
	w.cells = slices.Replace(slices.Clone(w.cells), from, to, cells...)
}

// putErr returns the error that a Put must return.
func (w *world) putErr(g, id, n int) api.Errno {
	if err := lenErr(id, n); err != api.OK {
		return err
	}
	if g < 0 || g >= len(w.words)/2 {
		return api.ErrArg
	}
	if c := w.cells[w.at(g)]; c.Tag == object || g+sizeOf(id, n) > end(c) {
		return api.ErrNone
	}
	return api.OK
}

// put puts an object, if one may be there, and reports an error unless all is then as it must be.
func (w *world) put(g, id, n int) api.Errno {
	w.Helper()
	want := w.putErr(g, id, n)
	writes := w.a.Writes()
	if err := w.s.Put(g, id, n); err != want {
		w.Fatalf("Put(%d, %d, %d): %d; want %d, with %v", g, id, n, err, want, w.cells)
	}
	if want != api.OK {
		w.unwritten(writes)
		return want
	}
	k := w.at(g)
	c, o := w.cells[k], obj(g, id, n)
	clear(w.words[2*g : 2*end(o)])
	w.words[2*g] = wordOf(o.Head)
	parts := []api.Cell{o}
	if c.At < g {
		parts = slices.Insert(parts, 0, gap(c.At, g-c.At))
	}
	if end(o) < end(c) {
		parts = append(parts, gap(end(o), end(c)-end(o)))
	}
	w.swap(k, k+1, parts...)
	w.holds()
	return want
}

// drop drops what begins at a granule, if it is an object, and reports an error unless all is then as it must be.
func (w *world) drop(g int) api.Errno {
	w.Helper()
	k := slices.IndexFunc(w.cells, func(c api.Cell) bool { return c.At == g && c.Tag == object })
	want := api.OK
	if k < 0 {
		want = api.ErrNone
	}
	writes := w.a.Writes()
	if err := w.s.Drop(g); err != want {
		w.Fatalf("Drop(%d): %d; want %d, with %v", g, err, want, w.cells)
	}
	if want != api.OK {
		w.unwritten(writes)
		return want
	}
	from, to := k, k+1
	for from > 0 && w.cells[from-1].Tag != object {
		from--
	}
	for to < len(w.cells) && w.cells[to].Tag != object {
		to++
	}
	first := w.cells[from].At
	w.swap(from, to, gap(first, end(w.cells[to-1])-first))
	w.holds()
	return want
}

// settled returns the cells that a space is of objects at these granules, and whether the words tell of such.
func (w *world) settled(at []int) ([]api.Cell, bool) {
	var list []api.Cell
	last, all := 0, len(w.words)/2
	for _, g := range at {
		if g < 0 || g >= all || g < last {
			return nil, false
		}
		h, is := headOf(w.words[2*g])
		if !is || g+h.Size > all {
			return nil, false
		}
		if last < g {
			list = append(list, gap(last, g-last))
		}
		list = append(list, api.Cell{At: g, Head: h})
		last = g + h.Size
	}
	if last < all {
		list = append(list, gap(last, all-last))
	}
	return list, true
}

// settle lets objects be at these granules, if they may, and reports an error unless all is then as it must be.
func (w *world) settle(at ...int) api.Errno {
	w.Helper()
	cells, is := w.settled(at)
	want := api.OK
	if !is {
		want = api.ErrArg
	}
	given, writes := slices.Clone(at), w.a.Writes()
	if err := w.s.Settle(at...); err != want {
		w.Fatalf("Settle(%v): %d; want %d, with %v", at, err, want, w.cells)
	}
	if !slices.Equal(at, given) {
		w.Fatalf("Settle(%v) made it %v", given, at)
	}
	if want != api.OK {
		w.unwritten(writes)
		return want
	}
	w.swap(0, len(w.cells), cells...)
	w.holds()
	return want
}

// unwritten reports an error unless nothing was written, and all is as before.
func (w *world) unwritten(writes uint64) {
	w.Helper()
	if got := w.a.Writes(); got != writes {
		w.Fatalf("%d words were written", got-writes)
	}
	w.holds()
}

// puts puts objects that may be where they are told.
func (w *world) puts(cells ...api.Cell) *world {
	w.Helper()
	for _, c := range cells {
		if err := w.put(c.At, c.Type, c.Len); err != api.OK {
			w.Fatalf("Put(%d, %d, %d): %d, with %v", c.At, c.Type, c.Len, err, w.cells)
		}
	}
	return w
}

// is reports an error unless these are the cells.
func (w *world) is(cells ...api.Cell) {
	w.Helper()
	if !slices.Equal(w.s.Cells(), cells) {
		w.Fatalf("Cells: %v; want %v", w.s.Cells(), cells)
	}
}

// became reports an error unless a call returned what it must.
func (w *world) became(got, want api.Errno) {
	w.Helper()
	if got != want {
		w.Fatalf("%d; want %d, with %v", got, want, w.cells)
	}
}

// each calls do with each type's number, and lengths that it may have, the least and the greatest among them.
func each(do func(id, n int)) {
	for k, x := range types {
		for _, n := range []int{0, 1, 2, 3, 4, 100, 4095, 4096} {
			if n == 0 || x.Kind != 1 {
				do(k+1, n)
			}
		}
	}
}

// refusedOver reports an error unless no space is made of an arena that has just this.
func refusedOver(t *testing.T, a *arena.Arena, x *table.Table, want api.Errno) {
	t.Helper()
	words, writes := wordsOf(t, a), a.Writes()
	if s, err := space.Over(a, x); s != nil || err != want {
		t.Fatalf("Over: %v, %d; want nil, %d", s, err, want)
	}
	if !slices.Equal(wordsOf(t, a), words) || a.Writes() != writes {
		t.Fatal("words were written")
	}
}

// P9.1, P9.2, P9.3: the chapter's example.
func TestP9_1Example(t *testing.T) {
	w := fresh(t, 16)
	w.is(api.Cell{At: 0, Head: api.Head{Tag: api.TagFree, Size: 8}})
	w.became(w.put(1, refs, 3), api.OK)
	w.is(api.Cell{At: 0, Head: api.Head{Tag: api.TagFiller, Size: 1}}, api.Cell{At: 1, Head: api.Head{Tag: api.TagObject, Type: refs, Len: 3, Size: 2}}, api.Cell{At: 3, Head: api.Head{Tag: api.TagFree, Size: 5}})
	w.became(w.drop(1), api.OK)
	w.is(api.Cell{At: 0, Head: api.Head{Tag: api.TagFree, Size: 8}})
}

// P9.1: a new space of any number of words that may be is one gap, without a start, in an arena that is 0 but for its first word.
func TestP9_1New(t *testing.T) {
	for _, words := range []int{16, 18, 20, 64, 1000, 1 << 15, mostWord - 2, mostWord} {
		w := fresh(t, words)
		w.is(api.Cell{Head: api.Head{Tag: api.TagFree, Size: words / 2}})
		if n := w.s.Starts().Len(); n != words/2 {
			t.Errorf("%d words: %d starts", words, n)
		}
		if list := w.s.Starts().Runs(); len(list) != 0 {
			t.Errorf("%d words: starts at %v", words, list)
		}
	}
}

// P9.1: New is told that there is no table ahead of a number of words that an arena may not have.
func TestP9_1NewRefused(t *testing.T) {
	x := tableOf(t)
	for _, words := range []int{0, 1, 2, 14, 15, 17, 19, -1, -2, -16, mostWord - 1, mostWord + 1, mostWord + 2, 2 * mostWord, 1 << 32, 1<<32 + 16, math.MaxInt, math.MaxInt - 1, math.MinInt, math.MinInt + 16} {
		if s, err := space.New(words, x); s != nil || err != api.ErrArg {
			t.Errorf("New(%d): %v, %d", words, s, err)
		}
		if s, err := space.New(words, nil); s != nil || err != api.ErrNil {
			t.Errorf("New(%d, nil): %v, %d", words, s, err)
		}
	}
	for _, words := range []int{16, mostWord} {
		if s, err := space.New(words, nil); s != nil || err != api.ErrNil {
			t.Errorf("New(%d, nil): %v, %d", words, s, err)
		}
	}
}

// P9.1: Over has the cells that the arena has, whatever their order, and writes nothing.
func TestP9_1Over(t *testing.T) {
	for _, cells := range [][]api.Cell{
		{gap(0, 8)},
		{gap(0, 1), gap(1, 7)},
		{gap(0, 7), gap(7, 1)},
		{gap(0, 2), gap(2, 1), gap(3, 5)},
		{gap(0, 1), gap(1, 1), gap(2, 1), gap(3, 1), gap(4, 1), gap(5, 1), gap(6, 1), gap(7, 1)},
		{gap(0, 1), obj(1, refs, 3), gap(3, 5)},
		{obj(0, raw, 15)},
		{obj(0, raw, 13), gap(7, 1)},
		{gap(0, 1), obj(1, raw, 13)},
		{gap(0, 6), obj(6, pair, 0)},
		{gap(0, 7), obj(7, bare, 0)},
		{obj(0, bare, 0), obj(1, bare, 0), obj(2, bare, 0), obj(3, bare, 0), obj(4, bare, 0), obj(5, bare, 0), obj(6, bare, 0), obj(7, bare, 0)},
		{obj(0, bare, 0), gap(1, 1), gap(2, 2), obj(4, trios, 1), gap(6, 1), obj(7, ones, 1)},
		{obj(0, refs, 0), obj(1, ones, 2), gap(3, 2), gap(5, 1), obj(6, refs, 2)},
	} {
		over(t, 16, cells...)
	}
	over(t, mostWord, gap(0, mostGran))
	over(t, mostWord, obj(0, wide, 4095), gap(32761, 7))
	over(t, mostWord, gap(0, mostGran-1), obj(mostGran-1, bare, 0))
	each(func(id, n int) {
		if size := sizeOf(id, n); size+3 <= mostGran {
			all := max(size+3, 8)
			over(t, 2*all, gap(0, 2), obj(2, id, n), gap(2+size, all-size-2))
			over(t, 2*all, gap(0, all-size), obj(all-size, id, n))
		}
	})
}

// P9.1: a gap's cell is what the arena's word tells, also where a space would tell it by the other tag.
func TestP9_1OverTags(t *testing.T) {
	w := over(t, 16, api.Cell{At: 0, Head: api.Head{Tag: filler, Size: 3}}, obj(3, bare, 0), api.Cell{At: 4, Head: api.Head{Tag: free, Size: 1}}, api.Cell{At: 5, Head: api.Head{Tag: filler, Size: 2}}, api.Cell{At: 7, Head: api.Head{Tag: free, Size: 1}})
	w.became(w.put(4, bare, 0), api.OK)
	w.became(w.put(1, bare, 0), api.OK)
	w.is(gap(0, 1), obj(1, bare, 0), gap(2, 1), obj(3, bare, 0), obj(4, bare, 0), api.Cell{At: 5, Head: api.Head{Tag: filler, Size: 2}}, api.Cell{At: 7, Head: api.Head{Tag: free, Size: 1}})
	w.became(w.drop(4), api.OK)
	w.is(gap(0, 1), obj(1, bare, 0), gap(2, 1), obj(3, bare, 0), gap(4, 4))
}

// P9.1: Over is told that one of the two is nil, whatever the arena has.
func TestP9_1OverNil(t *testing.T) {
	x := tableOf(t)
	for _, a := range []*arena.Arena{arenaOf(t, 16), arenaOf(t, 16, gap(0, 8))} {
		refusedOver(t, a, nil, api.ErrNil)
	}
	if s, err := space.Over(nil, x); s != nil || err != api.ErrNil {
		t.Errorf("Over(nil): %v, %d", s, err)
	}
	if s, err := space.Over(nil, nil); s != nil || err != api.ErrNil {
		t.Errorf("Over(nil, nil): %v, %d", s, err)
	}
}

// P9.1: Over refuses an arena whose words are not those of cells up to its end.
func TestP9_1OverRefused(t *testing.T) {
	x := tableOf(t)
	head := func(at int, h api.Head) api.Cell { return api.Cell{At: at, Head: h} }
	for _, cells := range [][]api.Cell{
		{}, {gap(0, 7)}, {gap(0, 9)}, {gap(0, 16)}, {gap(0, 1<<24-1)}, {gap(0, 1)}, {gap(1, 7)},
		{gap(0, 4), gap(4, 3)}, {gap(0, 4), gap(4, 5)}, {gap(0, 4), gap(5, 3)}, {gap(0, 7), gap(7, 2)}, {gap(0, 3), gap(4, 4)},
		{obj(0, raw, 13)}, {obj(0, raw, 17)}, {obj(0, raw, 4096)}, {obj(1, raw, 13)},
		{gap(0, 6), obj(6, refs, 4)}, {gap(0, 6), obj(6, refs, 1)}, {gap(0, 7), obj(7, pair, 0)}, {gap(0, 7), obj(7, great, 0)},
		{obj(0, refs, 3), gap(3, 5)}, {obj(0, refs, 3), gap(2, 5)}, {obj(0, refs, 3), gap(2, 7)},
		{head(0, api.Head{Size: 8})}, {head(0, api.Head{Tag: free})}, {head(0, api.Head{Tag: filler})}, {head(0, api.Head{Tag: object, Size: 8})},
		{head(0, api.Head{Tag: free, Type: 1, Size: 8})}, {head(0, api.Head{Tag: free, Len: 1, Size: 8})},
		{head(0, api.Head{Tag: object, Type: 9, Size: 8})}, {head(0, api.Head{Tag: object, Type: 4095, Len: 15, Size: 8})},
		{head(0, api.Head{Tag: object, Type: raw, Len: 15, Size: 7}), gap(7, 1)}, {head(0, api.Head{Tag: object, Type: raw, Len: 13, Size: 8})}, {head(0, api.Head{Tag: object, Type: raw, Len: 4097, Size: 8})},
		{head(0, api.Head{Tag: object, Type: bare, Len: 1, Size: 1}), gap(1, 7)}, {gap(0, 7), head(7, api.Head{Tag: object, Type: pair, Size: 1})},
		{gap(0, 1), head(1, api.Head{Tag: object, Type: refs, Len: 3, Size: 1}), gap(2, 6)}, {gap(0, 1), head(1, api.Head{Tag: object, Type: refs, Len: 3, Size: 3}), gap(4, 4)},
	} {
		refusedOver(t, arenaOf(t, 16, cells...), x, api.ErrForm)
	}
	less, err := table.New(types[:raw-1]...)
	if err != api.OK {
		t.Fatalf("table.New: %d", err)
	}
	a := arenaOf(t, 16, gap(0, 1), obj(1, raw, 3), gap(3, 5))
	refusedOver(t, a, less, api.ErrForm)
	if s, err := space.Over(a, x); s == nil || err != api.OK {
		t.Errorf("Over: %v, %d", s, err)
	}
}

// P9.1: words that have two bits, one, or no bit of a header more than those of a cell, at each granule where one must begin.
func TestP9_1OverBits(t *testing.T) {
	x := tableOf(t)
	cells := []api.Cell{gap(0, 1), obj(1, refs, 3), gap(3, 2), obj(5, trios, 1), gap(7, 1)}
	for _, c := range cells {
		a := arenaOf(t, 16, cells...)
		own := wordOf(c.Head)
		for _, w := range []uint64{0, math.MaxUint64, own | 0x4000, own | 0x8000, own | 0xc000, own &^ 3, own + 1<<40, own &^ (0xffffff << 40), own | 1<<63} {
			a.Store(2*c.At, w)
			refusedOver(t, a, x, api.ErrForm)
		}
		a.Store(2*c.At, own)
		if s, err := space.Over(a, x); s == nil || err != api.OK || !slices.Equal(s.Cells(), cells) {
			t.Fatalf("Over: %v, %d", s, err)
		}
	}
}

// P9.1: a space has the arena and the table themselves that it was given: what is stored into the one is there, and types that the other is given may be put.
func TestP9_1Own(t *testing.T) {
	w := over(t, 16, gap(0, 2), obj(2, refs, 3), gap(4, 4))
	w.a.Store(5, 77)
	w.words[5] = 77
	w.holds()
	w.words[15] = 5
	if err := w.s.Arena().Store(15, 5); err != api.OK {
		t.Fatalf("Store: %d", err)
	}
	w.holds()
	if err := w.s.Put(0, raw+1, 0); err != api.ErrNone {
		t.Fatalf("Put of a type that the table does not have: %d", err)
	}
	if id, err := w.x.Add(api.Type{Kind: 1, Words: 7}); id != raw+1 || err != api.OK {
		t.Fatalf("Add: %d, %d", id, err)
	}
	if err := w.s.Put(4, raw+1, 0); err != api.OK {
		t.Fatalf("Put of a type that was added: %d", err)
	}
	w.is(gap(0, 2), obj(2, refs, 3), api.Cell{At: 4, Head: api.Head{Tag: object, Type: raw + 1, Size: 4}})
}

// P9.1: Starts has a bit for each granule, of which just those are set where objects begin; what is done to it changes nothing.
func TestP9_1Starts(t *testing.T) {
	w := fresh(t, 32).puts(obj(1, refs, 3), obj(3, bare, 0), obj(6, trios, 2), obj(15, ones, 1))
	b := w.s.Starts()
	if want := []api.Run{{At: 1, Len: 1}, {At: 3, Len: 1}, {At: 6, Len: 1}, {At: 15, Len: 1}}; !slices.Equal(b.Runs(), want) {
		t.Fatalf("Starts: %v", b.Runs())
	}
	for g := range 16 {
		if b.Has(g) {
			b.Clear(g)
		} else {
			b.Set(g)
		}
		w.holds()
	}
	other := w.s.Starts()
	w.became(w.drop(3), api.OK)
	w.became(w.put(14, bare, 0), api.OK)
	if !other.Has(3) || other.Has(14) {
		t.Error("bits that were told are no copy")
	}
}

// P9.1: what is written into the list that Cells returns, and behind it, changes nothing.
func TestP9_1Lists(t *testing.T) {
	w := fresh(t, 32).puts(obj(1, refs, 3), obj(6, trios, 2))
	list, other := w.s.Cells(), w.s.Cells()
	clear(list[:cap(list)])
	w.holds()
	if !slices.Equal(other, w.cells) {
		t.Errorf("two lists share: %v", other)
	}
	list = append(other, gap(7, 7))
	list[0].Size = 99
	w.holds()
	w.became(w.put(3, bare, 0), api.OK)
}

// P9.1: a copy is equal, with the same table, and an arena of its own; what is done to one of the two changes nothing of the other.
func TestP9_1Copy(t *testing.T) {
	for _, w := range []*world{
		fresh(t, 16),
		fresh(t, 16).puts(obj(1, refs, 3)),
		fresh(t, 32).puts(obj(0, bare, 0), obj(1, bare, 0), obj(9, ones, 3)),
		over(t, 32, gap(0, 1), gap(1, 2), obj(3, pair, 0), gap(5, 1), gap(6, 2), gap(8, 8)),
	} {
		c := w.s.Copy()
		if c == nil || c == w.s || c.Arena() == w.a || c.Table() != w.x || c.Arena().Writes() != w.a.Writes() {
			t.Fatalf("Copy: %v", c)
		}
		copied := &world{T: t, s: c, a: c.Arena(), x: w.x, words: slices.Clone(w.words), cells: slices.Clone(w.cells)}
		copied.holds()
		for k, pair := range [][2]*world{{w, copied}, {copied, w}} {
			one, other := pair[0], pair[1]
			one.became(one.put(7-k, bare, 0), api.OK)
			other.holds()
			one.a.Store(2*len(one.words)/2-1, uint64(k))
			one.words[len(one.words)-1] = uint64(k)
			other.holds()
			one.became(one.drop(7-k), api.OK)
			other.holds()
			one.became(one.settle(), api.OK)
			other.holds()
		}
	}
}

// P9.1, P9.2, P9.3: each method of a nil space.
func TestP9_1Nil(t *testing.T) {
	var s *space.Space
	if s.Arena() != nil || s.Table() != nil || s.Starts() != nil || s.Granules() != 0 || len(s.Cells()) != 0 || s.Copy() != nil {
		t.Errorf("a nil space: %v, %v, %v, %d, %v, %v", s.Arena(), s.Table(), s.Starts(), s.Granules(), s.Cells(), s.Copy())
	}
	for _, g := range append([]int{0, 1, 7}, wrongGrans...) {
		if err := s.Put(g, refs, 3); err != api.ErrNil {
			t.Errorf("Put(%d): %d", g, err)
		}
		if err := s.Put(g, 0, -1); err != api.ErrNil {
			t.Errorf("Put(%d): %d", g, err)
		}
		if err := s.Drop(g); err != api.ErrNil {
			t.Errorf("Drop(%d): %d", g, err)
		}
		if err := s.Settle(g); err != api.ErrNil {
			t.Errorf("Settle(%d): %d", g, err)
		}
	}
	if err := s.Settle(); err != api.ErrNil {
		t.Errorf("Settle(): %d", err)
	}
}

// P9.2: the rests of a gap before an object, and after it: none, one granule, and several.
func TestP9_2Rests(t *testing.T) {
	for _, c := range []struct {
		g, n int
		want []api.Cell
	}{
		{0, 15, []api.Cell{obj(0, raw, 15)}},
		{0, 13, []api.Cell{obj(0, raw, 13), gap(7, 1)}},
		{0, 12, []api.Cell{obj(0, raw, 12), gap(7, 1)}},
		{0, 11, []api.Cell{obj(0, raw, 11), gap(6, 2)}},
		{0, 0, []api.Cell{obj(0, raw, 0), gap(1, 7)}},
		{1, 13, []api.Cell{gap(0, 1), obj(1, raw, 13)}},
		{1, 11, []api.Cell{gap(0, 1), obj(1, raw, 11), gap(7, 1)}},
		{1, 9, []api.Cell{gap(0, 1), obj(1, raw, 9), gap(6, 2)}},
		{2, 11, []api.Cell{gap(0, 2), obj(2, raw, 11)}},
		{2, 9, []api.Cell{gap(0, 2), obj(2, raw, 9), gap(7, 1)}},
		{2, 7, []api.Cell{gap(0, 2), obj(2, raw, 7), gap(6, 2)}},
		{6, 3, []api.Cell{gap(0, 6), obj(6, raw, 3)}},
		{7, 1, []api.Cell{gap(0, 7), obj(7, raw, 1)}},
		{7, 0, []api.Cell{gap(0, 7), obj(7, raw, 0)}},
	} {
		w := fresh(t, 16)
		w.became(w.put(c.g, raw, c.n), api.OK)
		w.is(c.want...)
		for _, between := range []*world{
			fresh(t, 24).puts(obj(0, pair, 0), obj(10, pair, 0)),
			over(t, 24, gap(0, 1), gap(1, 1), gap(2, 8), gap(10, 1), gap(11, 1)),
			over(t, 24, gap(0, 2), gap(2, 8), gap(10, 2)),
			over(t, 24, obj(0, pair, 0), gap(2, 8), gap(10, 2)),
			over(t, 24, gap(0, 2), gap(2, 8), obj(10, pair, 0)),
		} {
			first := between.cells[:slices.IndexFunc(between.cells, func(c api.Cell) bool { return c.At == 2 })]
			last := between.cells[len(first)+1:]
			var want []api.Cell
			for _, x := range c.want {
				x.At += 2
				want = append(want, x)
			}
			between.became(between.put(2+c.g, raw, c.n), api.OK)
			between.is(slices.Concat(first, want, last)...)
		}
	}
}

// P9.2: objects of each kind, with the least and the greatest length, at the first granule, at the last one that they may be at, and between; what does not fit the greatest space is refused.
func TestP9_2Kinds(t *testing.T) {
	each(func(id, n int) {
		size := sizeOf(id, n)
		if size > mostGran {
			w := fresh(t, mostWord)
			w.became(w.put(0, id, n), api.ErrNone)
			return
		}
		for _, all := range []int{max(8, size), max(8, size+2), mostGran} {
			last := all - size
			for _, g := range []int{0, 1, last / 2, last - 1, last} {
				if g >= 0 && g <= last && all <= mostGran {
					w := fresh(t, 2*all)
					w.became(w.put(g, id, n), api.OK)
					if want := obj(g, id, n); !slices.Contains(w.s.Cells(), want) {
						t.Fatalf("no %v", want)
					}
				}
			}
		}
	})
}

// P9.2: each granule of small spaces, with each type and lengths up to one too many, behind, ahead of, and between objects and gaps.
func TestP9_2All(t *testing.T) {
	for _, cells := range [][]api.Cell{
		{gap(0, 8)},
		{gap(0, 1), obj(1, refs, 3), gap(3, 5)},
		{obj(0, bare, 0), gap(1, 3), obj(4, pair, 0), gap(6, 2)},
		{gap(0, 3), gap(3, 1), gap(4, 4)},
		{obj(0, raw, 15)},
		{gap(0, 2), obj(2, ones, 1), gap(3, 1), obj(4, bare, 0), gap(5, 2), gap(7, 1)},
	} {
		for g := -2; g < 11; g++ {
			for id := -1; id <= len(types)+1; id++ {
				for n := -1; n < 17; n++ {
					over(t, 16, cells...).put(g, id, n)
				}
			}
		}
	}
}

// P9.2: which error comes first: the number of the type, the length, the granule, and then what is there.
func TestP9_2Refused(t *testing.T) {
	w := fresh(t, 16).puts(obj(1, refs, 3))
	for _, g := range append([]int{0, 1, 2, 3, 7}, wrongGrans...) {
		for _, id := range wrongIDs {
			for _, n := range []int{0, 1, -1, 4097, math.MaxInt, math.MinInt} {
				w.became(w.put(g, id, n), api.ErrNone)
			}
		}
		for _, n := range []int{-1, -2, -4096, -4097, math.MinInt, math.MinInt + 1} {
			w.became(w.put(g, refs, n), api.ErrArg)
			w.became(w.put(g, bare, n), api.ErrArg)
		}
		for _, n := range []int{4097, 4098, 1 << 24, 1 << 32, math.MaxInt} {
			w.became(w.put(g, raw, n), api.ErrLong)
			w.became(w.put(g, wide, n), api.ErrLong)
			w.became(w.put(g, bare, n), api.ErrArg)
		}
	}
	for _, g := range wrongGrans {
		for _, n := range []int{0, 1, 3, 4096} {
			w.became(w.put(g, raw, n), api.ErrArg)
			w.became(w.put(g, wide, n), api.ErrArg)
		}
		w.became(w.put(g, bare, 0), api.ErrArg)
	}
}

// P9.2: an object is put at no granule of another one, nor where it would reach one, nor over two gaps.
func TestP9_2Taken(t *testing.T) {
	w := fresh(t, 32).puts(obj(3, trios, 3), obj(12, refs, 3))
	for _, g := range []int{3, 4, 5, 6, 7, 12, 13} {
		w.became(w.put(g, bare, 0), api.ErrNone)
		w.became(w.put(g, raw, 4096), api.ErrNone)
	}
	for _, c := range []struct{ g, n int }{{0, 6}, {1, 4}, {2, 2}, {8, 8}, {9, 6}, {10, 4}, {11, 2}, {14, 4}, {15, 2}, {0, 31}, {0, 4096}, {15, 4096}} {
		w.became(w.put(c.g, raw, c.n), api.ErrNone)
	}
	for _, c := range []struct{ g, n int }{{0, 5}, {8, 7}, {14, 3}} {
		w.became(w.put(c.g, raw, c.n), api.OK)
	}
	for g := range 16 {
		w.became(w.put(g, bare, 0), api.ErrNone)
	}
	two := over(t, 32, gap(0, 3), gap(3, 1), gap(4, 4), obj(8, refs, 3), gap(10, 2), gap(12, 4))
	for _, c := range []struct{ g, n int }{{0, 6}, {1, 4}, {2, 2}, {3, 2}, {4, 8}, {7, 2}, {10, 4}, {11, 2}, {12, 8}, {0, 14}, {10, 11}} {
		two.became(two.put(c.g, raw, c.n), api.ErrNone)
	}
	for _, c := range []struct{ g, n int }{{0, 5}, {3, 1}, {4, 7}, {10, 3}, {12, 7}} {
		two.became(two.put(c.g, raw, c.n), api.OK)
	}
}

// P9.2: an object's words are 0 whatever stood there, and no others change but the first words of the rests.
func TestP9_2Words(t *testing.T) {
	w := fresh(t, 32)
	before := wordsOf(t, w.a)
	writes := w.a.Writes()
	if err := w.s.Put(4, raw, 8); err != api.OK {
		t.Fatalf("Put: %d", err)
	}
	after := wordsOf(t, w.a)
	for i := range 32 {
		want := before[i]
		switch {
		case i == 0:
			want = 4<<40 | free
		case i == 8:
			want = 5<<40 | 8<<16 | raw<<2 | object
		case i > 8 && i < 18:
			want = 0
		case i == 18:
			want = 7<<40 | free
		}
		if after[i] != want {
			t.Errorf("word %d: %x; want %x", i, after[i], want)
		}
	}
	if n := w.a.Writes() - writes; n != 12 {
		t.Errorf("%d words were written", n)
	}
}

// P9.3: a Drop of the first, the last, and the only object, and of one between two others, with gaps on no, one and both sides.
func TestP9_3Drop(t *testing.T) {
	for _, c := range []struct {
		cells []api.Cell
		g     int
		want  []api.Cell
	}{
		{[]api.Cell{obj(0, raw, 15)}, 0, []api.Cell{gap(0, 8)}},
		{[]api.Cell{obj(0, raw, 13), gap(7, 1)}, 0, []api.Cell{gap(0, 8)}},
		{[]api.Cell{gap(0, 7), obj(7, bare, 0)}, 7, []api.Cell{gap(0, 8)}},
		{[]api.Cell{gap(0, 2), obj(2, pair, 0), gap(4, 4)}, 2, []api.Cell{gap(0, 8)}},
		{[]api.Cell{obj(0, bare, 0), obj(1, raw, 13)}, 0, []api.Cell{gap(0, 1), obj(1, raw, 13)}},
		{[]api.Cell{obj(0, raw, 13), obj(7, bare, 0)}, 7, []api.Cell{obj(0, raw, 13), gap(7, 1)}},
		{[]api.Cell{obj(0, refs, 3), obj(2, raw, 11)}, 0, []api.Cell{gap(0, 2), obj(2, raw, 11)}},
		{[]api.Cell{obj(0, refs, 3), obj(2, raw, 11)}, 2, []api.Cell{obj(0, refs, 3), gap(2, 6)}},
		{[]api.Cell{obj(0, refs, 3), obj(2, bare, 0), obj(3, raw, 9)}, 2, []api.Cell{obj(0, refs, 3), gap(2, 1), obj(3, raw, 9)}},
		{[]api.Cell{obj(0, refs, 3), gap(2, 1), obj(3, bare, 0), obj(4, raw, 7)}, 3, []api.Cell{obj(0, refs, 3), gap(2, 2), obj(4, raw, 7)}},
		{[]api.Cell{obj(0, refs, 3), obj(2, bare, 0), gap(3, 1), obj(4, raw, 7)}, 2, []api.Cell{obj(0, refs, 3), gap(2, 2), obj(4, raw, 7)}},
		{[]api.Cell{obj(0, refs, 3), gap(2, 1), obj(3, pair, 0), gap(5, 2), obj(7, bare, 0)}, 3, []api.Cell{obj(0, refs, 3), gap(2, 5), obj(7, bare, 0)}},
		{[]api.Cell{gap(0, 1), obj(1, bare, 0), gap(2, 1), obj(3, bare, 0), gap(4, 4)}, 1, []api.Cell{gap(0, 3), obj(3, bare, 0), gap(4, 4)}},
		{[]api.Cell{gap(0, 1), obj(1, bare, 0), gap(2, 1), obj(3, bare, 0), gap(4, 4)}, 3, []api.Cell{gap(0, 1), obj(1, bare, 0), gap(2, 6)}},
		{[]api.Cell{gap(0, 1), gap(1, 1), obj(2, bare, 0), gap(3, 2), gap(5, 1), obj(6, pair, 0)}, 2, []api.Cell{gap(0, 6), obj(6, pair, 0)}},
		{[]api.Cell{gap(0, 1), gap(1, 1), obj(2, bare, 0), gap(3, 2), gap(5, 1), obj(6, pair, 0)}, 6, []api.Cell{gap(0, 1), gap(1, 1), obj(2, bare, 0), gap(3, 5)}},
	} {
		w := over(t, 16, c.cells...)
		w.became(w.drop(c.g), api.OK)
		w.is(c.want...)
		w.became(w.drop(c.g), api.ErrNone)
		other := over(t, 16, c.cells...)
		for g := -2; g < 10; g++ {
			if !slices.Contains(other.begins(), g) {
				other.became(other.drop(g), api.ErrNone)
			}
		}
	}
}

// P9.3: a Drop at a gap, within an object, at no granule, and at an object that is gone while its header's word still stands there.
func TestP9_3DropRefused(t *testing.T) {
	w := fresh(t, 16).puts(obj(1, refs, 6), obj(6, bare, 0))
	for _, g := range append([]int{0, 2, 3, 4, 5, 7}, wrongGrans...) {
		w.became(w.drop(g), api.ErrNone)
	}
	w.became(w.drop(6), api.OK)
	if h, is := headOf(w.words[12]); !is || h != obj(6, bare, 0).Head {
		t.Fatalf("the word of a dropped object: %x", w.words[12])
	}
	w.became(w.drop(6), api.ErrNone)
	w.became(w.drop(1), api.OK)
	for _, g := range append([]int{0, 1, 2, 3, 4, 5, 6, 7}, wrongGrans...) {
		w.became(w.drop(g), api.ErrNone)
	}
}

// P9.3: a Drop writes one word: the first one of its gap.
func TestP9_3DropWords(t *testing.T) {
	w := fresh(t, 32).puts(obj(2, refs, 3), obj(5, raw, 4), obj(10, bare, 0))
	before, writes := wordsOf(t, w.a), w.a.Writes()
	if err := w.s.Drop(5); err != api.OK {
		t.Fatalf("Drop: %d", err)
	}
	before[8] = 6<<40 | free
	if after := wordsOf(t, w.a); !slices.Equal(after, before) {
		t.Errorf("words: %x; want %x", after, before)
	}
	if n := w.a.Writes() - writes; n != 1 {
		t.Errorf("%d words were written", n)
	}
}

// P9.3: a Settle of none, of all and of some objects, with nothing, one granule and several between two.
func TestP9_3Settle(t *testing.T) {
	cells := []api.Cell{gap(0, 1), obj(1, refs, 3), obj(3, bare, 0), gap(4, 1), obj(5, pair, 0), gap(7, 3), obj(10, bare, 0), gap(11, 4), obj(15, ones, 1)}
	for _, c := range []struct {
		at   []int
		want []api.Cell
	}{
		{nil, []api.Cell{gap(0, 16)}},
		{[]int{}, []api.Cell{gap(0, 16)}},
		{[]int{1, 3, 5, 10, 15}, cells},
		{[]int{1}, []api.Cell{gap(0, 1), obj(1, refs, 3), gap(3, 13)}},
		{[]int{15}, []api.Cell{gap(0, 15), obj(15, ones, 1)}},
		{[]int{3}, []api.Cell{gap(0, 3), obj(3, bare, 0), gap(4, 12)}},
		{[]int{1, 3}, []api.Cell{gap(0, 1), obj(1, refs, 3), obj(3, bare, 0), gap(4, 12)}},
		{[]int{3, 5}, []api.Cell{gap(0, 3), obj(3, bare, 0), gap(4, 1), obj(5, pair, 0), gap(7, 9)}},
		{[]int{1, 15}, []api.Cell{gap(0, 1), obj(1, refs, 3), gap(3, 12), obj(15, ones, 1)}},
		{[]int{1, 5, 15}, []api.Cell{gap(0, 1), obj(1, refs, 3), gap(3, 2), obj(5, pair, 0), gap(7, 8), obj(15, ones, 1)}},
		{[]int{3, 10}, []api.Cell{gap(0, 3), obj(3, bare, 0), gap(4, 6), obj(10, bare, 0), gap(11, 5)}},
	} {
		w := over(t, 32, cells...)
		w.became(w.settle(c.at...), api.OK)
		w.is(c.want...)
		w.became(w.settle(c.at...), api.OK)
		w.is(c.want...)
	}
	w := over(t, 32, gap(0, 1), gap(1, 2), obj(3, bare, 0), gap(4, 1), gap(5, 1), obj(6, bare, 0), gap(7, 8), gap(15, 1))
	w.became(w.settle(3, 6), api.OK)
	w.is(gap(0, 3), obj(3, bare, 0), gap(4, 2), obj(6, bare, 0), gap(7, 9))
	w.became(over(t, 16, obj(0, raw, 15)).settle(0), api.OK)
	w.became(over(t, 16, obj(0, raw, 15)).settle(), api.OK)
}

// P9.3: a Settle makes objects of what stands there, be it that it was dropped, or moved there, or among the words of another one.
func TestP9_3SettleNew(t *testing.T) {
	w := fresh(t, 32).puts(obj(1, refs, 3), obj(5, pair, 0), obj(9, raw, 12))
	w.became(w.drop(5), api.OK)
	w.is(gap(0, 1), obj(1, refs, 3), gap(3, 6), obj(9, raw, 12))
	w.became(w.settle(1, 5, 9), api.OK)
	w.is(gap(0, 1), obj(1, refs, 3), gap(3, 2), obj(5, pair, 0), gap(7, 2), obj(9, raw, 12))
	w.a.Move(0, 2, 4)
	copy(w.words[0:4], w.words[2:6])
	if err := w.s.Settle(0, 5); err != api.OK {
		t.Fatalf("Settle: %d", err)
	}
	w.swap(0, len(w.cells), obj(0, refs, 3), gap(2, 3), obj(5, pair, 0), gap(7, 9))
	w.holds()
	w.became(w.settle(5, 9), api.OK)
	w.a.Store(22, wordOf(obj(11, ones, 2).Head))
	w.words[22] = wordOf(obj(11, ones, 2).Head)
	w.holds()
	w.became(w.settle(9, 11), api.ErrArg)
	w.became(w.settle(5, 11), api.OK)
	w.is(gap(0, 5), obj(5, pair, 0), gap(7, 4), obj(11, ones, 2), gap(13, 3))
	w.became(w.drop(9), api.ErrNone)
	w.became(w.drop(11), api.OK)
}

// P9.3: granules that do not rise, that come twice, where no object is, or whose object overlaps the next, each first, last, and between others.
func TestP9_3SettleRefused(t *testing.T) {
	w := fresh(t, 20).puts(obj(1, refs, 3), obj(3, bare, 0), obj(5, pair, 0))
	// One within another object, one at a gap, and one that would go beyond the end.
	for _, c := range []api.Cell{obj(2, bare, 0), obj(8, bare, 0), obj(9, pair, 0)} {
		w.words[2*c.At] = wordOf(c.Head)
		w.a.Store(2*c.At, wordOf(c.Head))
	}
	w.holds()
	for _, at := range [][]int{
		{3, 1}, {5, 1}, {5, 3}, {1, 5, 3}, {3, 1, 5}, {5, 3, 1},
		{1, 1}, {3, 3}, {5, 5}, {1, 3, 3}, {1, 1, 3}, {1, 3, 3, 5}, {1, 3, 5, 5},
		{0}, {4}, {6}, {7}, {0, 1}, {1, 4}, {1, 4, 5}, {1, 3, 5, 7}, {1, 3, 4, 5}, {0, 1, 3, 5}, {1, 3, 5, 6},
		{1, 2}, {1, 2, 3}, {1, 2, 5}, {9}, {8, 9}, {1, 3, 5, 9},
	} {
		w.became(w.settle(at...), api.ErrArg)
	}
	for _, g := range wrongGrans {
		if g == 8 {
			continue
		}
		for _, at := range [][]int{{g}, {g, g}, {g, 1}, {1, g}, {1, g, 5}, {1, 3, 5, g}, {g, 1, 3, 5}} {
			w.became(w.settle(at...), api.ErrArg)
		}
	}
	w.became(w.settle(2, 3, 5, 8), api.OK)
}

// P9.3: what is written into the row that Settle was given changes nothing, and Settle leaves it as it is, also behind its last number.
func TestP9_3SettleRow(t *testing.T) {
	w := fresh(t, 16).puts(obj(1, refs, 3), obj(3, bare, 0), obj(5, pair, 0))
	row := []int{1, 3, 5, 7, 9}
	w.became(w.settle(row[:3]...), api.OK)
	if !slices.Equal(row, []int{1, 3, 5, 7, 9}) {
		t.Errorf("the row: %v", row)
	}
	clear(row)
	w.holds()
	w.became(w.settle(row...), api.ErrArg)
	if !slices.Equal(row, make([]int, 5)) {
		t.Errorf("the row: %v", row)
	}
	w.became(w.drop(3), api.OK)
}

// P9.3: every row of up to three granules of a small space, in which some words are headers of objects that begin nowhere.
func TestP9_3SettleAll(t *testing.T) {
	w := over(t, 16, gap(0, 1), obj(1, refs, 3), gap(3, 2), obj(5, bare, 0), gap(6, 2))
	words := wordsOf(t, w.a)
	for _, c := range []api.Cell{obj(2, raw, 5), obj(4, bare, 0), obj(7, bare, 0)} {
		words[2*c.At] = wordOf(c.Head)
	}
	settles := func(at ...int) {
		for i, word := range words {
			w.a.Store(i, word)
		}
		w.words = slices.Clone(words)
		s, err := space.Over(w.a, w.x)
		if err != api.OK {
			t.Fatalf("Over: %d", err)
		}
		w.s, w.cells = s, s.Cells()
		w.settle(at...)
	}
	for i := -1; i <= 8; i++ {
		settles(i)
		for j := -1; j <= 8; j++ {
			settles(i, j)
			for k := -1; k <= 8; k++ {
				settles(i, j, k)
			}
		}
	}
}

// picker returns a function that returns numbers below n, each of which follows from those before it.
func picker(x uint64) func(n int) int {
	return func(n int) int {
		x = x*6364136223846793005 + 1442695040888963407
		return int(x >> 33 % uint64(n))
	}
}

// P9.4: whatever is put, dropped, settled and refused, in whichever order, the cells, the starts and all words are as they must be, and no two gaps are adjacent.
func TestP9_4Steps(t *testing.T) {
	for _, words := range []int{16, 18, 64, 130} {
		w := fresh(t, words)
		next := picker(uint64(words))
		all := words / 2
		for range 6000 {
			switch next(8) {
			default:
				w.put(next(all+2)-1, next(len(types)+1), next(7))
			case 5, 6:
				if list := w.objects(); len(list) > 0 && next(4) > 0 {
					w.drop(list[next(len(list))].At)
				} else {
					w.drop(next(all+2) - 1)
				}
			case 7:
				at := slices.DeleteFunc(w.begins(), func(int) bool { return next(8) == 0 })
				if next(4) == 0 {
					at = append(at, next(all))
				}
				w.settle(at...)
			}
			for k, c := range w.s.Cells() {
				if k > 0 && c.Tag != object && w.cells[k-1].Tag != object {
					t.Fatalf("adjacent gaps: %v", w.cells)
				}
			}
		}
	}
}

// P9.4: gaps that were adjacent when Over was given them stay so till something is dropped or settled next to them, and no others come to be.
func TestP9_4OverSteps(t *testing.T) {
	next := picker(11)
	for range 1500 {
		var cells []api.Cell
		for at := 0; at < 16; {
			c := gap(at, 1+next(4))
			if id, n := 1+next(len(types)), next(4); next(3) == 0 && lenErr(id, n) == api.OK {
				c = obj(at, id, n)
			}
			if end(c) <= 16 {
				cells = append(cells, c)
				at = end(c)
			}
		}
		w := over(t, 32, cells...)
		for range 12 {
			if next(2) == 0 {
				w.put(next(16), 1+next(len(types)), next(5))
			} else {
				w.drop(next(16))
			}
		}
		w.became(w.settle(w.begins()...), api.OK)
	}
}

// P9.4: what was put and not dropped is there, with its header, and its words as they were stored.
func TestP9_4Stays(t *testing.T) {
	w := fresh(t, 64).puts(obj(2, refs, 5), obj(8, raw, 7), obj(20, trios, 2))
	for _, c := range w.objects() {
		for i := 2*c.At + 1; i < 2*end(c); i++ {
			w.a.Store(i, uint64(i)*3)
			w.words[i] = uint64(i) * 3
		}
	}
	w.holds()
	w.puts(obj(5, pair, 0), obj(0, bare, 0), obj(7, bare, 0), obj(24, raw, 15), obj(12, raw, 15))
	w.became(w.put(1, raw, 2), api.ErrNone)
	w.became(w.drop(7), api.OK)
	w.became(w.drop(24), api.OK)
	w.became(w.settle(2, 8, 20), api.OK)
	w.is(gap(0, 2), obj(2, refs, 5), gap(5, 3), obj(8, raw, 7), gap(12, 8), obj(20, trios, 2), gap(24, 8))
}

// P9.4: a Put and a Drop of the same granule restore the cells, and a Put, a Drop and a Settle of it are the Put.
func TestP9_4Back(t *testing.T) {
	for _, cells := range [][]api.Cell{
		{gap(0, 8)}, {obj(0, bare, 0), gap(1, 7)}, {gap(0, 7), obj(7, bare, 0)}, {obj(0, pair, 0), gap(2, 4), obj(6, pair, 0)},
	} {
		for g := range 8 {
			for n := range 16 {
				w := over(t, 16, cells...)
				if w.put(g, raw, n) != api.OK {
					continue
				}
				at, put := w.begins(), w.cells
				w.became(w.drop(g), api.OK)
				w.is(cells...)
				if _, is := headOf(w.words[2*g]); is {
					w.became(w.settle(at...), api.OK)
					w.is(put...)
				}
			}
		}
	}
}

// P9.4: the greatest space, full of the least objects, put and dropped from both ends and from the middle.
func TestP9_4Full(t *testing.T) {
	w := fresh(t, mostWord)
	var all, even []int
	for g := range mostGran {
		all = append(all, g)
		if g%2 == 0 {
			even = append(even, g)
		}
	}
	quick := func(err api.Errno) {
		t.Helper()
		if err != api.OK {
			t.Fatalf("refused: %d", err)
		}
	}
	fill := func(g int) { quick(w.s.Put(g, bare, 0)) }
	for _, g := range all {
		fill(mostGran - 1 - g)
		clear(w.words[2*g : 2*g+2])
		w.words[2*g] = wordOf(obj(g, bare, 0).Head)
	}
	w.cells, _ = w.settled(all)
	w.holds()
	w.became(w.put(0, bare, 0), api.ErrNone)
	w.became(w.put(mostGran-1, bare, 0), api.ErrNone)
	for _, g := range even {
		quick(w.s.Drop(g))
	}
	odd := slices.DeleteFunc(slices.Clone(all), func(g int) bool { return g%2 == 0 })
	cells, _ := w.settled(odd)
	w.swap(0, len(w.cells), cells...)
	w.holds()
	for _, g := range even {
		fill(g)
		w.words[2*g] = wordOf(obj(g, bare, 0).Head)
	}
	w.cells, _ = w.settled(all)
	w.holds()
	w.became(w.settle(even...), api.OK)
	w.became(w.settle(0, mostGran-2), api.OK)
	w.is(obj(0, bare, 0), gap(1, mostGran-3), obj(mostGran-2, bare, 0), gap(mostGran-1, 1))
}

// P9.4: whatever is written over a space's words, each call ends, and those that refuse write nothing.
func TestP9_4Overwritten(t *testing.T) {
	next := picker(5)
	for range 3000 {
		w := fresh(t, 32).puts(obj(1, refs, 3), obj(3, bare, 0), obj(6, trios, 2), obj(12, raw, 3))
		for range 1 + next(4) {
			h := api.Head{Tag: uint8(next(4)), Type: next(10), Len: next(6), Size: next(20)}
			w.a.Store(2*next(16), wordOf(h))
		}
		for range 8 {
			words, writes := wordsOf(t, w.a), w.a.Writes()
			err, g := api.OK, next(18)-1
			switch next(3) {
			case 0:
				err = w.s.Put(g, next(10), next(6))
			case 1:
				err = w.s.Drop(g)
			case 2:
				err = w.s.Settle(g, next(16))
			}
			if err != api.OK && (w.a.Writes() != writes || !slices.Equal(wordsOf(t, w.a), words)) {
				t.Fatal("a call that was refused wrote words")
			}
			last := 0
			for _, c := range w.s.Cells() {
				if c.At != last || end(c) > 16 {
					t.Fatalf("cells: %v", w.s.Cells())
				}
				last = end(c)
			}
		}
		w.words = wordsOf(t, w.a)
		if err := w.s.Settle(); err != api.OK {
			t.Fatalf("Settle: %d", err)
		}
		w.swap(0, len(w.cells), gap(0, 16))
		w.holds()
	}
}

// P9.4: two spaces with the same table have nothing else in common.
func TestP9_4Apart(t *testing.T) {
	x := tableOf(t)
	var list []*world
	for range 2 {
		s, err := space.New(32, x)
		if err != api.OK {
			t.Fatalf("New: %d", err)
		}
		w := &world{T: t, s: s, a: s.Arena(), x: x, words: make([]uint64, 32), cells: []api.Cell{gap(0, 16)}}
		w.words[0] = wordOf(w.cells[0].Head)
		list = append(list, w)
	}
	for g := range 14 {
		one, other := list[g%2], list[1-g%2]
		one.became(one.put(g, pair, 0), api.OK)
		other.holds()
		if g > 3 {
			one.became(one.drop(g-2), api.OK)
			other.holds()
		}
	}
}
