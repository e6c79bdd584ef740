package find_test

import (
	"math"
	"reflect"
	"slices"
	"testing"

	"skerry/api"
	"skerry/arena"
	"skerry/find"
	"skerry/space"
	"skerry/table"
)

// What the chapters tell in numbers: the address of the word 0, and how many words and granules the greatest space has.
const (
	base     = 1048576
	mostWord = 65536
	mostGran = 32768
)

// The tags of cells, as layer 7 numbers them.
const (
	object, filler, free = 1, 2, 3
)

// types are of each kind: without a slot that is a reference, with some, and with none that isn't.
var types = []api.Type{
	{Kind: 1}, {Kind: 1, Words: 2, Mask: 2}, {Kind: 1, Words: 3, Mask: 7}, {Kind: 1, Words: 5},
	{Kind: 1, Words: 63, Mask: 1<<62 | 6}, {Kind: 1, Words: 64, Mask: math.MaxUint64},
	{Kind: 2},
	{Kind: 3, Words: 1, Mask: 1}, {Kind: 3, Words: 2}, {Kind: 3, Words: 3, Mask: 5}, {Kind: 3, Words: 16, Mask: 0x8001},
	{Kind: 4},
}

// Numbers of types, as they stand in the list.
const (
	bare, pair, full, plain, great, huge, refs, ones, flat, trios, wide, raw = 1, 2, 3, 4, 5, 6, 7, 8, 9, 10, 11, 12
)

// slotsOf returns how many slots an object has, as layer 5 defines it.
func slotsOf(id, n int) int {
	switch x := types[id-1]; x.Kind {
	case 1:
		return x.Words
	case 3:
		return n * x.Words
	}
	return n
}

// sizeOf returns how many granules an object has: the header and the slots, two words each, rounded up.
func sizeOf(id, n int) int {
	return (1 + slotsOf(id, n) + 1) / 2
}

// mayBe reports whether an object with that type may have that length.
func mayBe(id, n int) bool {
	return n == 0 || types[id-1].Kind != 1
}

// wordOf returns a header's word, put together by sums, as layer 7 defines it.
func wordOf(h api.Head) uint64 {
	return uint64(h.Tag) + 4*uint64(h.Type) + 65536*uint64(h.Len) + 1099511627776*uint64(h.Size)
}

// gap returns the cell that a gap of so many granules is.
func gap(at, size int) api.Cell {
	if size == 1 {
		return cell(at, api.Head{Tag: filler, Size: 1})
	}
	return cell(at, api.Head{Tag: free, Size: size})
}

// obj returns the cell that an object is.
func obj(at, id, n int) api.Cell {
	return cell(at, api.Head{Tag: object, Type: id, Len: n, Size: sizeOf(id, n)})
}

// cell returns what has a header at a granule.
func cell(at int, h api.Head) api.Cell {
	return api.Cell{At: at, Head: h}
}

// end returns the granule just behind a cell.
func end(c api.Cell) int {
	return c.At + c.Size
}

// answer is what Cell, Of and Slot must tell of an address.
type answer struct {
	cell      api.Cell
	has       bool
	g         int
	is        bool
	slotOf    int
	slot      int
	slotFound bool
}

// told returns what Cell, Of and Slot tell of an address.
func told(s *space.Space, addr uint64) answer {
	var a answer
	a.cell, a.has = find.Cell(s, addr)
	a.g, a.is = find.Of(s, addr)
	a.slotOf, a.slot, a.slotFound = find.Slot(s, addr)
	return a
}

// answersOf returns what must be told of each address that cells have, put down word by word. Nothing must be told of any other one.
func answersOf(cells []api.Cell) map[uint64]answer {
	m := map[uint64]answer{}
	for _, c := range cells {
		for k := range 2 * c.Size {
			a := answer{cell: c, has: true}
			if c.Tag == object {
				a.g, a.is = c.At, true
				if k > 0 && k <= slotsOf(c.Type, c.Len) {
					a.slotOf, a.slot, a.slotFound = c.At, k-1, true
				}
			}
			m[uint64(base+2*c.At+k)] = a
		}
	}
	return m
}

// tableOf returns a table with the types of the list.
func tableOf(t *testing.T) *table.Table {
	t.Helper()
	x, err := table.New(types...)
	if err != api.OK {
		t.Fatalf("table.New: %d", err)
	}
	return x
}

// world is a space, and what must be told of its addresses.
type world struct {
	*testing.T
	s    *space.Space
	must map[uint64]answer
}

// over returns a world of these cells, which must fill so many words. All words but the headers look like headers, or like addresses.
func over(t *testing.T, words int, cells ...api.Cell) *world {
	t.Helper()
	a, err := arena.New(words)
	if err != api.OK {
		t.Fatalf("arena.New(%d): %d", words, err)
	}
	for i := range words {
		w := []uint64{wordOf(obj(0, bare, 0).Head), base, wordOf(gap(0, 2).Head), uint64(base + i), wordOf(obj(0, refs, 3).Head), wordOf(gap(0, 1).Head)}
		a.Store(i, w[i%len(w)])
	}
	at := 0
	for _, c := range cells {
		if c.At != at {
			t.Fatalf("%v is not behind the one ahead of it", c)
		}
		a.Store(2*c.At, wordOf(c.Head))
		at = end(c)
	}
	if at != words/2 {
		t.Fatalf("%v do not fill %d words", cells, words)
	}
	s, err := space.Over(a, tableOf(t))
	if s == nil || err != api.OK {
		t.Fatalf("Over %v: %v, %d", cells, s, err)
	}
	return &world{t, s, answersOf(cells)}
}

// state is all that can be seen of a space.
type state struct {
	arena  *arena.Arena
	table  *table.Table
	words  []uint64
	writes uint64
	types  string
	starts []api.Run
	cells  []api.Cell
}

// now returns the state of a world.
func (w *world) now() state {
	a := w.s.Arena()
	words, _ := a.Words(0, a.Len())
	return state{a, w.s.Table(), words, a.Writes(), w.s.Table().Put(), w.s.Starts().Runs(), w.s.Cells()}
}

// kept calls do, and reports an error if that changed anything of the space.
func (w *world) kept(do func()) {
	w.Helper()
	was := w.now()
	do()
	if now := w.now(); !reflect.DeepEqual(was, now) {
		w.Fatalf("%v became %v", was, now)
	}
}

// holds reports an error unless just what must be is told of these addresses, each alone.
func (w *world) holds(addrs ...uint64) {
	w.Helper()
	w.kept(func() {
		w.Helper()
		for _, addr := range addrs {
			if got := told(w.s, addr); got != w.must[addr] {
				w.Fatalf("of %d (%d behind the first): %+v; want %+v", addr, int64(addr-base), got, w.must[addr])
			}
		}
	})
}

// own returns all addresses that the space's words have, in ascending order.
func (w *world) own() []uint64 {
	var list []uint64
	for i := range w.s.Arena().Len() {
		list = append(list, uint64(base+i))
	}
	return list
}

// beside returns words that are the address of none of the space's words.
func (w *world) beside() []uint64 {
	n := uint64(w.s.Arena().Len())
	list := []uint64{
		0, 1, 2, 3, n - 1, n, n + 1, mostWord, base / 2, base - mostWord, base - n, base - 3, base - 2, base - 1,
		base + n, base + n + 1, base + n + 2, base + n + 3, base + 2*n, base + mostWord, base + mostWord + 1, base + mostWord + 2, base + 2*mostWord, base + base, base + base + 1, 3 * base,
		1<<16 | base<<1, 1 << 31, 1<<31 | base, 1 << 32, 1<<32 | base, 1<<32 | base + n - 1, 1 << 62, 1<<63 - 1, 1 << 63, 1<<63 | base, 1<<63 | base + 1,
		1<<64 - base, 1<<64 - base - 1, 1<<64 - base + n, -n, math.MaxUint64 - 1, math.MaxUint64,
	}
	if n < mostWord {
		list = append(list, base+mostWord-1, base+mostWord-2)
	}
	return list
}

// all reports an error unless All tells just the objects that have one of these words as an address.
func (w *world) all(words ...uint64) {
	w.Helper()
	set := map[int]int{}
	for _, addr := range words {
		if a := w.must[addr]; a.is {
			set[a.g]++
		}
	}
	var want []int
	for g := range w.s.Granules() {
		if set[g] > 0 {
			want = append(want, g)
		}
	}
	w.gets(words, want...)
}

// gets reports an error unless All tells just these objects, and leaves the row of words as it is.
func (w *world) gets(words []uint64, want ...int) {
	w.Helper()
	given := slices.Clone(words)
	got := find.All(w.s, words...)
	if !slices.Equal(got, want) {
		w.Fatalf("All(%v): %v; want %v", words, got, want)
	}
	if !slices.Equal(words, given) {
		w.Fatalf("All(%v) made these %v", given, words)
	}
}

// sound reports an error unless just what must be is told of all words, alone and together.
func (w *world) sound() {
	w.Helper()
	own, beside := w.own(), w.beside()
	w.holds(own...)
	w.holds(beside...)
	w.kept(func() {
		w.Helper()
		w.all(own...)
		w.all(beside...)
		w.all(append(beside, own...)...)
	})
}

// each calls do with each type's number, and lengths that it may have, the least and the greatest among them.
func each(do func(id, n int)) {
	for k := range types {
		for _, n := range []int{0, 1, 2, 3, 4, 100, 4095, 4096} {
			if mayBe(k+1, n) {
				do(k+1, n)
			}
		}
	}
}

// arrangements are rows of cells that fill 16 words.
func arrangements() [][]api.Cell {
	return [][]api.Cell{
		{gap(0, 8)},
		{gap(0, 1), gap(1, 7)},
		{gap(0, 7), gap(7, 1)},
		{gap(0, 2), gap(2, 1), gap(3, 5)},
		{gap(0, 1), gap(1, 1), gap(2, 1), gap(3, 1), gap(4, 1), gap(5, 1), gap(6, 1), gap(7, 1)},
		{gap(0, 1), obj(1, refs, 3), gap(3, 5)},
		{obj(0, raw, 15)},
		{obj(0, refs, 14)},
		{obj(0, raw, 13), gap(7, 1)},
		{gap(0, 1), obj(1, flat, 5), gap(7, 1)},
		{gap(0, 6), obj(6, pair, 0)},
		{gap(0, 7), obj(7, bare, 0)},
		{obj(0, bare, 0), obj(1, refs, 0), obj(2, raw, 0), obj(3, ones, 0), obj(4, flat, 0), obj(5, trios, 0), obj(6, wide, 0), obj(7, raw, 1)},
		{obj(0, bare, 0), gap(1, 1), gap(2, 2), obj(4, trios, 1), gap(6, 1), obj(7, ones, 1)},
		{obj(0, refs, 0), obj(1, ones, 2), gap(3, 2), gap(5, 1), obj(6, refs, 2)},
		{obj(0, full, 0), obj(2, plain, 0), obj(5, refs, 4)},
		{cell(0, api.Head{Tag: filler, Size: 3}), obj(3, bare, 0), cell(4, api.Head{Tag: free, Size: 1}), cell(5, api.Head{Tag: filler, Size: 2}), cell(7, api.Head{Tag: free, Size: 1})},
	}
}

// example returns the chapter's space: 16 words with an object of KindRefs, 2, at 1.
func example(t *testing.T) *world {
	t.Helper()
	s, err := space.New(16, tableOf(t))
	if err != api.OK {
		t.Fatalf("New: %d", err)
	}
	if err := s.Put(1, refs, 2); err != api.OK {
		t.Fatalf("Put: %d", err)
	}
	return &world{t, s, answersOf([]api.Cell{gap(0, 1), obj(1, refs, 2), gap(3, 5)})}
}

// P11.1: the chapter's example, and what its other words have, written out.
func TestP11_1Example(t *testing.T) {
	w := example(t)
	below := api.Cell{At: 0, Head: api.Head{Tag: api.TagFiller, Size: 1}}
	mid := api.Cell{At: 1, Head: api.Head{Tag: api.TagObject, Type: refs, Len: 2, Size: 2}}
	above := api.Cell{At: 3, Head: api.Head{Tag: api.TagFree, Size: 5}}
	for addr, want := range map[uint64]api.Cell{
		api.Base: below, api.Base + 1: below, api.Base + 2: mid, api.Base + 3: mid, api.Base + 4: mid, api.Base + 5: mid,
		api.Base + 6: above, api.Base + 7: above, api.Base + 8: above, api.Base + 14: above, api.Base + 15: above,
	} {
		if c, is := find.Cell(w.s, addr); c != want || !is {
			t.Errorf("Cell(%d): %v, %v", addr, c, is)
		}
	}
	for _, addr := range []uint64{api.Base + 2, api.Base + 3, api.Base + 4, api.Base + 5} {
		if g, is := find.Of(w.s, addr); g != 1 || !is {
			t.Errorf("Of(%d): %d, %v", addr, g, is)
		}
	}
	for _, addr := range []uint64{api.Base, api.Base + 1, api.Base + 6, api.Base + 7, api.Base + 15} {
		if g, is := find.Of(w.s, addr); g != 0 || is {
			t.Errorf("Of(%d): %d, %v", addr, g, is)
		}
	}
	for _, addr := range []uint64{api.Base - 1, api.Base + 16} {
		if c, is := find.Cell(w.s, addr); c != (api.Cell{}) || is {
			t.Errorf("Cell(%d): %v, %v", addr, c, is)
		}
	}
	w.sound()
}

// P11.2: the chapter's example, and what its other words are, written out.
func TestP11_2Example(t *testing.T) {
	w := example(t)
	for i := range uint64(18) {
		g, slot, is := find.Slot(w.s, api.Base-1+i)
		switch api.Base - 1 + i {
		case api.Base + 3:
			if g != 1 || slot != 0 || !is {
				t.Errorf("Slot(Base + 3): %d, %d, %v", g, slot, is)
			}
		case api.Base + 4:
			if g != 1 || slot != 1 || !is {
				t.Errorf("Slot(Base + 4): %d, %d, %v", g, slot, is)
			}
		default:
			if g != 0 || slot != 0 || is {
				t.Errorf("Slot(Base - 1 + %d): %d, %d, %v", i, g, slot, is)
			}
		}
	}
	w.gets([]uint64{api.Base + 5, api.Base + 6}, 1)
	w.gets([]uint64{api.Base + 1, api.Base + 6})
	w.sound()
}

// P11.1, P11.2: each word of a space that is one gap, has objects alone, gaps alone, or both, and words that are none of its.
func TestP11_1Cells(t *testing.T) {
	for _, cells := range arrangements() {
		over(t, 16, cells...).sound()
	}
}

// P11.1, P11.2: spaces that are one gap, of the least and the greatest number of words and between: each word has that gap, and no object.
func TestP11_1Gap(t *testing.T) {
	for _, words := range []int{16, 18, 130, mostWord - 2, mostWord} {
		s, err := space.New(words, tableOf(t))
		if err != api.OK {
			t.Fatalf("New(%d): %d", words, err)
		}
		w := &world{t, s, answersOf([]api.Cell{gap(0, words/2)})}
		w.sound()
		want := api.Cell{Head: api.Head{Tag: api.TagFree, Size: words / 2}}
		for _, addr := range []uint64{api.Base, api.Base + 1, api.Base + uint64(words) - 1} {
			if c, is := find.Cell(s, addr); c != want || !is {
				t.Errorf("Cell(%d) of %d words: %v, %v", addr, words, c, is)
			}
		}
		w.gets(w.own())
	}
}

// P11.1, P11.2: the greatest space, with objects at its first granule and at its last one, of which one is as great as may be.
func TestP11_1Greatest(t *testing.T) {
	over(t, mostWord, obj(0, bare, 0), gap(1, 1), obj(2, wide, 4095), gap(32763, 4), obj(mostGran-1, ones, 1)).sound()
	over(t, mostWord, obj(0, wide, 4095), obj(32761, refs, 13)).sound()
	over(t, mostWord, gap(0, mostGran-1), obj(mostGran-1, bare, 0)).sound()
	over(t, mostWord, obj(0, bare, 0), gap(1, mostGran-1)).sound()
}

// P11.1, P11.2: objects of each kind, with the least and the greatest length, between two gaps, two objects, or alone: each of their words, and those ahead and behind.
func TestP11_1Kinds(t *testing.T) {
	each(func(id, n int) {
		size := sizeOf(id, n)
		if size+4 > mostGran {
			return
		}
		over(t, 2*max(size+3, 8), gap(0, 1), obj(1, id, n), gap(1+size, max(2, 7-size))).sound()
		over(t, 2*max(size+4, 8), gap(0, 1), obj(1, bare, 0), obj(2, id, n), obj(2+size, ones, 1), gap(3+size, max(1, 5-size))).sound()
		if size >= 8 {
			over(t, 2*size, obj(0, id, n)).sound()
		}
	})
}

// P11.1: gaps of one granule and of several, adjacent ones and others: each address of theirs has the gap that stands there, with its tag, and no object.
func TestP11_1Gaps(t *testing.T) {
	w := over(t, 32, gap(0, 1), obj(1, refs, 3), gap(3, 1), gap(4, 2), cell(6, api.Head{Tag: filler, Size: 3}), gap(9, 1), obj(10, raw, 6), cell(14, api.Head{Tag: free, Size: 1}), gap(15, 1))
	for i, want := range map[uint64]api.Cell{
		0: gap(0, 1), 1: gap(0, 1), 6: gap(3, 1), 7: gap(3, 1), 8: gap(4, 2), 9: gap(4, 2), 11: gap(4, 2),
		12: cell(6, api.Head{Tag: 2, Size: 3}), 17: cell(6, api.Head{Tag: 2, Size: 3}), 18: gap(9, 1), 19: gap(9, 1),
		28: cell(14, api.Head{Tag: 3, Size: 1}), 29: cell(14, api.Head{Tag: 3, Size: 1}), 30: gap(15, 1), 31: gap(15, 1),
	} {
		if c, is := find.Cell(w.s, base+i); c != want || !is {
			t.Errorf("Cell(Base + %d): %v, %v", i, c, is)
		}
		if g, is := find.Of(w.s, base+i); g != 0 || is {
			t.Errorf("Of(Base + %d): %d, %v", i, g, is)
		}
	}
	w.sound()
}

// P11.1: of each object, where it begins, for the header's address, each slot's, and that of a word after the slots, written out.
func TestP11_1Objects(t *testing.T) {
	w := over(t, 64, obj(0, pair, 0), gap(2, 3), obj(5, full, 0), obj(7, trios, 2), obj(11, bare, 0), gap(12, 1), obj(13, raw, 35), obj(31, refs, 1))
	for _, c := range []struct{ first, last, g int }{
		{0, 3, 0}, {10, 13, 5}, {14, 21, 7}, {22, 23, 11}, {26, 61, 13}, {62, 63, 31},
	} {
		for i := c.first; i <= c.last; i++ {
			if g, is := find.Of(w.s, uint64(base+i)); g != c.g || !is {
				t.Errorf("Of(Base + %d): %d, %v", i, g, is)
			}
		}
	}
	for _, i := range []int{-2, -1, 4, 5, 6, 7, 8, 9, 24, 25, 64, 65} {
		if g, is := find.Of(w.s, uint64(base+i)); g != 0 || is {
			t.Errorf("Of(Base + %d): %d, %v", i, g, is)
		}
	}
	w.sound()
}

// P11.1, P11.2: words that are the address of none of a space's words, though a greater one's, lead nowhere.
func TestP11_1Beside(t *testing.T) {
	for _, words := range []int{16, 18, 128, 4096, mostWord} {
		all := words / 2
		for _, cells := range [][]api.Cell{
			{gap(0, all)},
			{obj(0, bare, 0), gap(1, all-2), obj(all-1, ones, 1)},
			{obj(0, raw, 13), gap(7, all-7)},
		} {
			w := over(t, words, cells...)
			w.holds(w.beside()...)
			w.kept(func() { w.gets(w.beside()) })
		}
	}
	w := over(t, 16, obj(0, refs, 3), gap(2, 1), obj(3, raw, 9))
	for i := uint64(16); i < mostWord+16; i++ {
		if got := told(w.s, base+i); got != (answer{}) {
			t.Fatalf("of Base + %d: %+v", i, got)
		}
		if got := told(w.s, base-1-(i-16)); got != (answer{}) {
			t.Fatalf("of Base - 1 - %d: %+v", i-16, got)
		}
	}
}

// P11.1, P11.2: in a nil space nothing is found.
func TestP11_1Nil(t *testing.T) {
	list := []uint64{0, 1, base - 1, base, base + 1, base + 2, base + 15, base + 16, base + mostWord - 1, base + mostWord, 1<<63 | base, math.MaxUint64}
	for _, addr := range list {
		if c, is := find.Cell(nil, addr); c != (api.Cell{}) || is {
			t.Errorf("Cell(nil, %d): %v, %v", addr, c, is)
		}
		if g, is := find.Of(nil, addr); g != 0 || is {
			t.Errorf("Of(nil, %d): %d, %v", addr, g, is)
		}
		if g, slot, is := find.Slot(nil, addr); g != 0 || slot != 0 || is {
			t.Errorf("Slot(nil, %d): %d, %d, %v", addr, g, slot, is)
		}
		if l := find.All(nil, addr); len(l) != 0 {
			t.Errorf("All(nil, %d): %v", addr, l)
		}
	}
	given := slices.Clone(list)
	for _, words := range [][]uint64{nil, {}, list} {
		if l := find.All(nil, words...); len(l) != 0 {
			t.Errorf("All(nil, %v): %v", words, l)
		}
	}
	if !slices.Equal(list, given) {
		t.Errorf("the row of words became %v", list)
	}
}

// P11.2: slots of objects of each kind, without one, with some, and as many as have room, written out; the header, and a word after the slots, are none.
func TestP11_2Slots(t *testing.T) {
	for _, c := range []struct{ id, n, slots, size int }{
		{bare, 0, 0, 1}, {pair, 0, 2, 2}, {full, 0, 3, 2}, {plain, 0, 5, 3}, {great, 0, 63, 32}, {huge, 0, 64, 33},
		{refs, 0, 0, 1}, {refs, 1, 1, 1}, {refs, 2, 2, 2}, {refs, 3, 3, 2}, {refs, 4095, 4095, 2048}, {refs, 4096, 4096, 2049},
		{raw, 0, 0, 1}, {raw, 1, 1, 1}, {raw, 2, 2, 2}, {raw, 4095, 4095, 2048}, {raw, 4096, 4096, 2049},
		{ones, 0, 0, 1}, {ones, 1, 1, 1}, {ones, 4, 4, 3}, {ones, 4096, 4096, 2049}, {flat, 1, 2, 2}, {flat, 4096, 8192, 4097},
		{trios, 0, 0, 1}, {trios, 1, 3, 2}, {trios, 2, 6, 4}, {wide, 1, 16, 9}, {wide, 4094, 65504, 32753}, {wide, 4095, 65520, 32761},
	} {
		w := over(t, 2*(c.size+7), gap(0, 3), obj(3, c.id, c.n), obj(3+c.size, refs, 1), gap(4+c.size, 3))
		for k := range c.slots {
			if g, slot, is := find.Slot(w.s, uint64(base+7+k)); g != 3 || slot != k || !is {
				t.Fatalf("Slot of %v at its slot %d: %d, %d, %v", c, k, g, slot, is)
			}
		}
		none := []uint64{base, base + 1, base + 5, base + 6, uint64(base + 6 + 2*c.size), uint64(base + 8 + 2*c.size)}
		if c.slots%2 == 0 {
			none = append(none, uint64(base+7+c.slots))
		}
		for _, addr := range none {
			if g, slot, is := find.Slot(w.s, addr); g != 0 || slot != 0 || is {
				t.Fatalf("Slot(%d) of %v: %d, %d, %v", addr, c, g, slot, is)
			}
		}
		if g, slot, is := find.Slot(w.s, uint64(base+7+2*c.size)); g != 3+c.size || slot != 0 || !is {
			t.Fatalf("Slot of the next to %v: %d, %d, %v", c, g, slot, is)
		}
	}
}

// P11.2: All of no word, one, two, the same one twice, several of one object, in ascending order, in descending order and in no order, of all objects, and with words that lead nowhere between, written out.
func TestP11_2All(t *testing.T) {
	w := over(t, 64, obj(0, pair, 0), gap(2, 3), obj(5, full, 0), obj(7, trios, 2), obj(11, bare, 0), gap(12, 1), obj(13, raw, 35), obj(31, refs, 1))
	for _, c := range []struct {
		at   []int // behind Base
		want []int
	}{
		{nil, nil}, {[]int{}, nil},
		{[]int{0}, []int{0}}, {[]int{3}, []int{0}}, {[]int{4}, nil}, {[]int{-1}, nil}, {[]int{64}, nil}, {[]int{63}, []int{31}}, {[]int{61}, []int{13}}, {[]int{24}, nil},
		{[]int{0, 10}, []int{0, 5}}, {[]int{10, 0}, []int{0, 5}}, {[]int{22, 23}, []int{11}}, {[]int{23, 24}, []int{11}}, {[]int{23, 21}, []int{7, 11}},
		{[]int{17, 17}, []int{7}}, {[]int{17, 17, 17, 17}, []int{7}}, {[]int{5, 5}, nil}, {[]int{64, 64}, nil},
		{[]int{26, 27, 40, 60, 61}, []int{13}}, {[]int{61, 26, 60}, []int{13}},
		{[]int{0, 13, 14, 22, 33, 62}, []int{0, 5, 7, 11, 13, 31}}, {[]int{62, 33, 22, 14, 13, 0}, []int{0, 5, 7, 11, 13, 31}},
		{[]int{22, 62, 0, 33, 13, 14}, []int{0, 5, 7, 11, 13, 31}}, {[]int{22, 62, 0, 22, 62, 0, 23}, []int{0, 11, 31}},
		{[]int{4, 22, 24, 62, -1, 64, 0, 9, 25}, []int{0, 11, 31}}, {[]int{4, 5, 6, 7, 8, 9, 24, 25}, nil},
		{[]int{62, -1048576, 30, 1 << 40, 11}, []int{5, 13, 31}},
	} {
		var words []uint64
		for _, i := range c.at {
			words = append(words, uint64(base+i))
		}
		w.kept(func() { w.gets(words, c.want...) })
	}
	if l := find.All(w.s); len(l) != 0 {
		t.Errorf("All(): %v", l)
	}
	own := w.own()
	w.gets(own, 0, 5, 7, 11, 13, 31)
	slices.Reverse(own)
	w.gets(own, 0, 5, 7, 11, 13, 31)
}

// P11.2: each set of a small space's words, in ascending order, in descending order, and each word twice.
func TestP11_2Sets(t *testing.T) {
	for _, cells := range [][]api.Cell{
		{obj(0, bare, 0), gap(1, 1), obj(2, ones, 1), obj(3, pair, 0), gap(5, 2), obj(7, refs, 0)},
		{gap(0, 2), obj(2, raw, 3), obj(4, flat, 1), gap(6, 1), obj(7, bare, 0)},
	} {
		w := over(t, 16, cells...)
		w.kept(func() {
			for set := range 1 << 16 {
				var words []uint64
				for i := range 16 {
					if set>>i%2 == 1 {
						words = append(words, uint64(base+i))
					}
				}
				w.all(words...)
				if set%16 == 7 {
					w.all(append(words, words...)...)
				}
				slices.Reverse(words)
				w.all(words...)
			}
		})
	}
}

// P11.2: what is written into the list that All returns, and into the row of words that it was given, changes nothing; the row is left as it is, also behind its last word.
func TestP11_2Lists(t *testing.T) {
	w := over(t, 64, obj(0, pair, 0), gap(2, 3), obj(5, full, 0), obj(7, trios, 2), obj(11, bare, 0), gap(12, 1), obj(13, raw, 35), obj(31, refs, 1))
	row := []uint64{base + 62, base + 4, base, base + 1, base + 12, 7, base + 22, base + 62, base + 13, base + 30, base + 15}
	given := slices.Clone(row)
	want := []int{0, 5, 11, 31}
	w.kept(func() {
		one, other := find.All(w.s, row[:9]...), find.All(w.s, row[:9]...)
		if !slices.Equal(one, want) || !slices.Equal(other, want) {
			t.Fatalf("All: %v and %v", one, other)
		}
		if !slices.Equal(row, given) {
			t.Fatalf("the row became %v", row)
		}
		clear(row)
		if !slices.Equal(one, want) || !slices.Equal(other, want) {
			t.Fatalf("by the row: %v and %v", one, other)
		}
		copy(row, given)
		clear(one[:cap(one)])
		if !slices.Equal(other, want) || !slices.Equal(row, given) {
			t.Fatalf("by the list: %v, %v", other, row)
		}
		_ = append(other[:1], 9, 9, 9, 9, 9, 9, 9, 9, 9, 9)
		w.gets(row[:9], want...)
		w.gets(row, 0, 5, 7, 11, 13, 31)
	})
	w.sound()
}

// P11.1, P11.2: each call leaves the space as it is, and tells the same each time, whatever was asked ahead of it.
func TestP11_2Again(t *testing.T) {
	w := over(t, 32, gap(0, 1), obj(1, refs, 3), gap(3, 1), gap(4, 2), obj(6, full, 0), obj(8, bare, 0), gap(9, 7))
	for range 3 {
		for _, addr := range []uint64{base + 3, base, base + 16, base + 31, 0, base + 12} {
			w.kept(func() { find.Cell(w.s, addr) })
			w.kept(func() { find.Of(w.s, addr) })
			w.kept(func() { find.Slot(w.s, addr) })
			w.kept(func() { find.All(w.s, addr, base+4, addr) })
		}
		w.sound()
	}
}

// P11.1, P11.2: where words were written over a space's headers, its cells are those that its words tell of now, up to where none begins.
func TestP11_1Written(t *testing.T) {
	w := over(t, 32, gap(0, 1), obj(1, refs, 3), gap(3, 2), obj(5, pair, 0), gap(7, 9))
	a := w.s.Arena()
	a.Store(10, wordOf(obj(5, full, 0).Head))
	w.must = answersOf([]api.Cell{gap(0, 1), obj(1, refs, 3), gap(3, 2), obj(5, full, 0), gap(7, 9)})
	w.sound()
	a.Store(6, wordOf(gap(3, 4).Head))
	w.must = answersOf([]api.Cell{gap(0, 1), obj(1, refs, 3), gap(3, 4), gap(7, 9)})
	w.sound()
	a.Store(14, 0)
	w.must = answersOf([]api.Cell{gap(0, 1), obj(1, refs, 3), gap(3, 4)})
	w.sound()
	a.Store(2, wordOf(obj(1, raw, 31).Head))
	w.must = answersOf([]api.Cell{gap(0, 1)})
	w.sound()
	a.Store(0, math.MaxUint64)
	w.must = nil
	w.sound()
}

// P11.3: exactly the addresses of an object's own words lead to it: none that differs from one by a bit, or by two, does, unless it is another one's.
func TestP11_3Own(t *testing.T) {
	for _, cells := range arrangements() {
		w := over(t, 16, cells...)
		for _, addr := range w.own() {
			var list []uint64
			for i := range 64 {
				list = append(list, addr^1<<i)
			}
			w.holds(list...)
		}
	}
	w := over(t, 16, obj(0, raw, 15))
	for i := range 64 {
		for j := range i {
			w.holds(base^1<<i^1<<j, (base+15)^1<<i^1<<j)
		}
	}
}

// P11.3: of each object, as many addresses lead to it as it has words, they follow each other, and each leads to one object alone.
func TestP11_3Counted(t *testing.T) {
	next := picker(11)
	for range 60 {
		w := random(t, next, 8+next(60))
		words := map[int]int{}
		for _, addr := range w.own() {
			if g, is := find.Of(w.s, addr); is {
				words[g]++
				w.gets([]uint64{addr, addr}, g)
				if c, has := find.Cell(w.s, addr); c.At != g || !has || addr < uint64(base+2*g) || addr >= uint64(base+2*end(c)) {
					t.Fatalf("Cell(%d): %v, %v; Of: %d", addr, c, has, g)
				}
				continue
			}
			w.gets([]uint64{addr, addr})
			if g, slot, is := find.Slot(w.s, addr); g != 0 || slot != 0 || is {
				t.Fatalf("Slot(%d): %d, %d, %v", addr, g, slot, is)
			}
		}
		for _, c := range w.s.Cells() {
			want := 0
			if c.Tag == object {
				want = 2 * c.Size
			}
			if words[c.At] != want {
				t.Fatalf("to %v: %d", c, words[c.At])
			}
		}
	}
}

// picker returns a function that returns numbers below n, each of which follows from those before it.
func picker(x uint64) func(n int) int {
	return func(n int) int {
		x = x*6364136223846793005 + 1442695040888963407
		return int(x >> 33 % uint64(n))
	}
}

// random returns a world of cells that follow from the numbers.
func random(t *testing.T, next func(int) int, granules int) *world {
	t.Helper()
	var cells []api.Cell
	for at := 0; at < granules; {
		c := gap(at, 1+next(4))
		if id, n := 1+next(len(types)), next(6); next(3) > 0 && mayBe(id, n) {
			c = obj(at, id, n)
		}
		if end(c) <= granules {
			cells = append(cells, c)
			at = end(c)
		}
	}
	return over(t, 2*granules, cells...)
}

// some returns so many words that follow from the numbers: most of them are addresses of the space's words.
func (w *world) some(next func(int) int, n int) []uint64 {
	own, beside := w.own(), w.beside()
	var list []uint64
	for range n {
		row := own
		if next(5) == 0 {
			row = beside
		}
		list = append(list, row[next(len(row))])
	}
	return list
}

// P11.1 to P11.3: all sorts of cells, and rows of words in no order.
func TestP11_3Random(t *testing.T) {
	next := picker(7)
	for range 300 {
		w := random(t, next, 8+next(120))
		w.sound()
		w.kept(func() {
			for range 40 {
				w.all(w.some(next, next(50))...)
			}
		})
	}
}

// held are the objects that must be in a space, by their granules.
type held map[int]api.Cell

// cells returns the cells that a space of so many granules with these objects has.
func (h held) cells(granules int) []api.Cell {
	var list []api.Cell
	at := 0
	for g := range granules + 1 {
		c, is := h[g]
		if !is && g < granules {
			continue
		}
		if at < g {
			list = append(list, gap(at, g-at))
		}
		if is {
			list = append(list, c)
			at = end(c)
		}
	}
	return list
}

// step does one thing with a space, and with what it must hold.
func (h held) step(s *space.Space, next func(int) int) {
	switch g := next(s.Granules()); next(8) {
	case 0, 1:
		if s.Drop(g) == api.OK {
			delete(h, g)
		}
	case 2:
		var at []int
		for g := range s.Granules() {
			if _, is := h[g]; is && next(4) > 0 {
				at = append(at, g)
			}
		}
		if s.Settle(at...) == api.OK {
			for g := range s.Granules() {
				if !slices.Contains(at, g) {
					delete(h, g)
				}
			}
		}
	default:
		id, n := 1+next(len(types)), next(7)
		if s.Put(g, id, n) == api.OK {
			h[g] = obj(g, id, n)
		}
	}
}

// P11.3: behind rows of Put, Drop and Settle, also of those that are refused, each address leads where it must.
func TestP11_3Steps(t *testing.T) {
	for _, words := range []int{16, 18, 64, 130} {
		s, err := space.New(words, tableOf(t))
		if err != api.OK {
			t.Fatalf("New(%d): %d", words, err)
		}
		next, h := picker(uint64(words)), held{}
		for range 400 {
			h.step(s, next)
			w := &world{t, s, answersOf(h.cells(words / 2))}
			w.sound()
			w.all(w.some(next, next(30))...)
		}
	}
}

// P11.3: a copy's addresses lead to what the copy has, and the other's to what that has, whatever is done with one of them.
func TestP11_3Copy(t *testing.T) {
	for seed := range uint64(20) {
		s, err := space.New(64, tableOf(t))
		if err != api.OK {
			t.Fatalf("New: %d", err)
		}
		next, h := picker(seed), held{}
		for range 30 {
			h.step(s, next)
		}
		one := &world{t, s, answersOf(h.cells(32))}
		other := &world{t, s.Copy(), one.must}
		other.sound()
		for range 20 {
			h.step(s, next)
			one.must = answersOf(h.cells(32))
			one.sound()
			other.sound()
		}
	}
}

// P11.3: an object that is dropped has no address any more, and one that is put there later has its own.
func TestP11_3Dropped(t *testing.T) {
	w := example(t)
	for _, c := range []struct {
		do   func() api.Errno
		must []api.Cell
	}{
		{func() api.Errno { return w.s.Put(3, raw, 3) }, []api.Cell{gap(0, 1), obj(1, refs, 2), obj(3, raw, 3), gap(5, 3)}},
		{func() api.Errno { return w.s.Drop(1) }, []api.Cell{gap(0, 3), obj(3, raw, 3), gap(5, 3)}},
		{func() api.Errno { return w.s.Put(2, bare, 0) }, []api.Cell{gap(0, 2), obj(2, bare, 0), obj(3, raw, 3), gap(5, 3)}},
		{func() api.Errno { return w.s.Put(0, refs, 3) }, []api.Cell{obj(0, refs, 3), obj(2, bare, 0), obj(3, raw, 3), gap(5, 3)}},
		{func() api.Errno { return w.s.Settle(0, 3) }, []api.Cell{obj(0, refs, 3), gap(2, 1), obj(3, raw, 3), gap(5, 3)}},
		{func() api.Errno { return w.s.Put(5, trios, 1) }, []api.Cell{obj(0, refs, 3), gap(2, 1), obj(3, raw, 3), obj(5, trios, 1), gap(7, 1)}},
		{func() api.Errno { return w.s.Settle() }, []api.Cell{gap(0, 8)}},
	} {
		if err := c.do(); err != api.OK {
			t.Fatalf("towards %v: %d", c.must, err)
		}
		w.must = answersOf(c.must)
		w.sound()
	}
}

// P11.3: the greatest space, full of the least objects, of which each has its two words.
func TestP11_3Full(t *testing.T) {
	s, err := space.New(mostWord, tableOf(t))
	if err != api.OK {
		t.Fatalf("New: %d", err)
	}
	var cells []api.Cell
	var all, odd []int
	for g := range mostGran {
		cells = append(cells, obj(g, ones, g%2))
		all = append(all, g)
		if g%2 == 1 {
			odd = append(odd, g)
		}
	}
	for _, c := range slices.Backward(cells) {
		if err := s.Put(c.At, c.Type, c.Len); err != api.OK {
			t.Fatalf("Put %v: %d", c, err)
		}
	}
	w := &world{t, s, answersOf(cells)}
	for _, i := range []uint64{0, 1, 2, 3, 4, 4095, 32767, 32768, 32769, 49151, 65532, 65533, 65534, 65535, 65536} {
		w.holds(base + i)
	}
	w.kept(func() {
		words := w.own()
		w.gets(words, all...)
		slices.Reverse(words)
		w.gets(words, all...)
		var second, mixed []uint64
		for i := range uint64(mostWord) {
			mixed = append(mixed, base+i*40503%mostWord, i, base+mostWord+i)
			if i%4 == 3 {
				second = append(second, base+i)
			}
		}
		w.gets(mixed, all...)
		w.gets(second, odd...)
	})
}
