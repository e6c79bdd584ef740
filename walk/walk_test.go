package walk_test

import (
	"math"
	"reflect"
	"slices"
	"testing"

	"skerry/api"
	"skerry/arena"
	"skerry/bits"
	"skerry/space"
	"skerry/table"
	"skerry/walk"
)

// What the chapters tell in numbers: the address of the word 0, and how many words and granules the greatest space has.
const (
	base     = 1048576
	mostWord = 65536
	mostGran = 32768
)

// The tags of cells, as layer 7 numbers them.
const (
	object, filler, free = 1, 2, 3
)

// types are of each kind: without a slot that is a reference, with some, and with none that isn't.
var types = []api.Type{
	{Kind: 1}, {Kind: 1, Words: 2, Mask: 2}, {Kind: 1, Words: 3, Mask: 7}, {Kind: 1, Words: 5},
	{Kind: 1, Words: 64, Mask: 1<<63 | 6}, {Kind: 1, Words: 64, Mask: math.MaxUint64},
	{Kind: 2},
	{Kind: 3, Words: 1, Mask: 1}, {Kind: 3, Words: 2}, {Kind: 3, Words: 3, Mask: 5}, {Kind: 3, Words: 16, Mask: 0x8001},
	{Kind: 4},
}

// Numbers of types, as they stand in the list.
const (
	bare, pair, full, plain, great, huge, refs, ones, flat, trios, wide, raw = 1, 2, 3, 4, 5, 6, 7, 8, 9, 10, 11, 12
)

// addr returns the address of a granule.
func addr(g int) uint64 {
	return uint64(base + 2*g)
}

// slotsOf returns how many slots an object has, as layer 5 defines it.
func slotsOf(id, n int) int {
	switch x := types[id-1]; x.Kind {
	case 1:
		return x.Words
	case 3:
		return n * x.Words
	}
	return n
}

// isRef reports whether a slot is a reference, as layer 5 defines it.
func isRef(id, slot int) bool {
	switch x := types[id-1]; x.Kind {
	case 1:
		return x.Mask>>slot%2 == 1
	case 3:
		return x.Mask>>(slot%x.Words)%2 == 1
	case 2:
		return true
	}
	return false
}

// sizeOf returns how many granules an object has: the header and the slots, two words each, rounded up.
func sizeOf(id, n int) int {
	return (1 + slotsOf(id, n) + 1) / 2
}

// mayBe reports whether an object with that type and length is possible.
func mayBe(id, n int) bool {
	return id >= 1 && id <= len(types) && n >= 0 && n <= 4096 && (n == 0 || types[id-1].Kind != 1)
}

// wordOf returns a header's word, put together by sums, as layer 7 defines it.
func wordOf(h api.Head) uint64 {
	return uint64(h.Tag) + 4*uint64(h.Type) + 65536*uint64(h.Len) + 1099511627776*uint64(h.Size)
}

// cellAt returns the cell that the words tell of at a granule, and whether there is one.
func cellAt(words []uint64, g int) (api.Cell, bool) {
	w := words[2*g]
	h := api.Head{Tag: uint8(w % 4), Type: int(w / 4 % 4096), Len: int(w / 65536 % 16777216), Size: int(w / 1099511627776)}
	if w/16384%4 != 0 || h.Tag == 0 || h.Size == 0 || 2*(g+h.Size) > len(words) {
		return api.Cell{}, false
	}
	if h.Tag == object && (!mayBe(h.Type, h.Len) || sizeOf(h.Type, h.Len) != h.Size) {
		return api.Cell{}, false
	}
	if h.Tag != object && (h.Type != 0 || h.Len != 0) {
		return api.Cell{}, false
	}
	return api.Cell{At: g, Head: h}, true
}

// gap returns the cell that a gap of so many granules is.
func gap(at, size int) api.Cell {
	if size == 1 {
		return cell(at, api.Head{Tag: filler, Size: 1})
	}
	return cell(at, api.Head{Tag: free, Size: size})
}

// obj returns the cell that an object is.
func obj(at, id, n int) api.Cell {
	return cell(at, api.Head{Tag: object, Type: id, Len: n, Size: sizeOf(id, n)})
}

// cell returns what has a header at a granule.
func cell(at int, h api.Head) api.Cell {
	return api.Cell{At: at, Head: h}
}

// end returns the granule just behind a cell.
func end(c api.Cell) int {
	return c.At + c.Size
}

// The faults of each kind.
func have(g int) api.Fault        { return api.Fault{At: g, Why: api.ErrHave} }
func none(g int) api.Fault        { return api.Fault{At: g, Why: api.ErrNone} }
func form(g int) api.Fault        { return api.Fault{At: g, Why: api.ErrForm} }
func wrong(g, slot int) api.Fault { return api.Fault{At: g, Slot: slot, Why: api.ErrType} }

// must are the answers that words and starts must have, worked out granule by granule.
type must struct {
	cells  []api.Cell
	faults []api.Fault
	edges  []api.Edge
	tally  api.Tally
}

// mustOf returns what must be told of these words, and of the starts.
func mustOf(words []uint64, starts *bits.Bits) must {
	var m must
	begins := make([]bool, len(words)/2)
	at := 0
	for at < len(begins) {
		c, is := cellAt(words, at)
		if !is {
			break
		}
		m.add(c)
		begins[at] = c.Tag == object
		at = end(c)
	}
	for g := range at {
		has := g < starts.Len() && starts.Has(g)
		if has && !begins[g] {
			m.faults = append(m.faults, have(g))
		}
		if !has && begins[g] {
			m.faults = append(m.faults, none(g))
		}
	}
	if at < len(begins) {
		m.faults = append(m.faults, form(at))
	}
	for g := range begins {
		if begins[g] {
			m.refer(words, begins, g)
		}
	}
	return m
}

// add counts one more cell.
func (m *must) add(c api.Cell) {
	m.cells = append(m.cells, c)
	numbers, granules := []*int{&m.tally.Objects, &m.tally.Fillers, &m.tally.Frees}, []*int{&m.tally.Used, &m.tally.Lost, &m.tally.Free}
	*numbers[c.Tag-1]++
	*granules[c.Tag-1] += c.Size
}

// refer adds what must be told of the references of the object at a granule.
func (m *must) refer(words []uint64, begins []bool, g int) {
	c, _ := cellAt(words, g)
	for slot := range slotsOf(c.Type, c.Len) {
		w := words[2*g+1+slot]
		if !isRef(c.Type, slot) || w == 0 {
			continue
		}
		if w < base || w%2 != 0 || w >= base+uint64(len(words)) || !begins[(w-base)/2] {
			m.faults = append(m.faults, wrong(g, slot))
			continue
		}
		m.edges = append(m.edges, api.Edge{From: g, Slot: slot, To: int(w-base) / 2})
	}
}

// objects returns the cells that are objects.
func (m *must) objects() []api.Cell {
	var list []api.Cell
	for _, c := range m.cells {
		if c.Tag == object {
			list = append(list, c)
		}
	}
	return list
}

// gaps returns the granules of the gaps that have one of the tags.
func (m *must) gaps(tags ...uint8) []api.Run {
	var list []api.Run
	for _, c := range m.cells {
		for _, tag := range []uint8{filler, free} {
			if c.Tag == tag && slices.Contains(tags, tag) {
				list = append(list, api.Run{At: c.At, Len: c.Size})
			}
		}
	}
	return list
}

// tableOf returns a table with the types of the list.
func tableOf(t *testing.T) *table.Table {
	t.Helper()
	x, err := table.New(types...)
	if err != api.OK {
		t.Fatalf("table.New: %d", err)
	}
	return x
}

// world is a space, and the parts that Check is given: the arena and the table of it, and starts that may be others.
type world struct {
	*testing.T
	s *space.Space
	a *arena.Arena
	x *table.Table
	b *bits.Bits
}

// over returns a world of these cells, which must fill so many words. The words of objects are 0; those of gaps look like headers and like addresses.
func over(t *testing.T, words int, cells ...api.Cell) *world {
	t.Helper()
	a, err := arena.New(words)
	if err != api.OK {
		t.Fatalf("arena.New(%d): %d", words, err)
	}
	for g := range words / 2 {
		a.Store(2*g, wordOf(obj(g, bare, 0).Head))
		a.Store(2*g+1, addr(0))
	}
	for _, c := range cells {
		if c.Tag == object {
			a.Fill(2*c.At, 2*c.Size, 0)
		}
		a.Store(2*c.At, wordOf(c.Head))
	}
	x := tableOf(t)
	s, err := space.Over(a, x)
	if s == nil || err != api.OK {
		t.Fatalf("Over %v: %v, %d", cells, s, err)
	}
	return &world{T: t, s: s, a: a, x: x, b: s.Starts()}
}

// slot lets a slot of the object at a granule have a word.
func (w *world) slot(g, slot int, v uint64) {
	w.Helper()
	w.word(2*g+1+slot, v)
}

// word lets a word of the arena be another one.
func (w *world) word(i int, v uint64) {
	w.Helper()
	if err := w.a.Store(i, v); err != api.OK {
		w.Fatalf("Store(%d): %d", i, err)
	}
}

// words returns all words of the arena.
func (w *world) words() []uint64 {
	list, _ := w.a.Words(0, w.a.Len())
	return list
}

// length lets Check be given starts of so many bits, of which those are set that were before.
func (w *world) length(n int) {
	w.Helper()
	b, err := bits.New(n)
	if err != api.OK {
		w.Fatalf("bits.New(%d): %d", n, err)
	}
	for g := range n {
		if w.b.Has(g) {
			b.Set(g)
		}
	}
	w.b = b
}

// flip turns the starts of these granules.
func (w *world) flip(at ...int) {
	w.Helper()
	for _, g := range at {
		turn := w.b.Set
		if w.b.Has(g) {
			turn = w.b.Clear
		}
		if err := turn(g); err != api.OK {
			w.Fatalf("a start at %d: %d", g, err)
		}
	}
}

// state is all that can be seen of a world.
type state struct {
	arena, other *arena.Arena
	table        *table.Table
	words        []uint64
	writes       uint64
	types        string
	bits         int
	starts, own  []api.Run
	cells        []api.Cell
}

// now returns the state of a world.
func (w *world) now() state {
	return state{w.a, w.s.Arena(), w.s.Table(), w.words(), w.a.Writes(), w.x.Put(), w.b.Len(), w.b.Runs(), w.s.Starts().Runs(), w.s.Cells()}
}

// kept calls do, and reports an error if that changed anything.
func (w *world) kept(do func()) {
	w.Helper()
	was := w.now()
	do()
	if now := w.now(); !reflect.DeepEqual(was, now) {
		w.Fatalf("%v became %v", was, now)
	}
}

// same reports an error unless what was told is what must be: the same items, in the same order.
func same[T comparable](t *testing.T, what string, got, want []T) {
	t.Helper()
	if !slices.Equal(got, want) {
		t.Fatalf("%s: %v; want %v", what, got, want)
	}
}

// faults reports an error unless Check tells just these faults.
func (w *world) faults(want ...api.Fault) {
	w.Helper()
	w.kept(func() {
		got, err := walk.Check(w.a, w.x, w.b)
		if err != api.OK {
			w.Fatalf("Check: %d", err)
		}
		same(w.T, "Check", got, want)
	})
}

// edges reports an error unless Edges tells just these.
func (w *world) edges(want ...api.Edge) {
	w.Helper()
	w.kept(func() { same(w.T, "Edges", walk.Edges(w.s), want) })
}

// objects reports an error unless Objects tells just these.
func (w *world) objects(want ...api.Cell) {
	w.Helper()
	w.kept(func() { same(w.T, "Objects", walk.Objects(w.s), want) })
}

// gaps reports an error unless Gaps tells just these of the tags.
func (w *world) gaps(tags []uint8, want ...api.Run) {
	w.Helper()
	given := slices.Clone(tags)
	w.kept(func() { same(w.T, "Gaps", walk.Gaps(w.s, tags...), want) })
	same(w.T, "the tags", tags, given)
}

// count reports an error unless Count tells just this.
func (w *world) count(want api.Tally) {
	w.Helper()
	w.kept(func() {
		if got := walk.Count(w.s); got != want {
			w.Fatalf("Count: %v; want %v", got, want)
		}
	})
}

// holds reports an error unless all that is told is as worked out from the words and the starts; it returns that.
func (w *world) holds() must {
	w.Helper()
	m := mustOf(w.words(), w.b)
	w.faults(m.faults...)
	w.objects(m.objects()...)
	w.edges(m.edges...)
	w.count(m.tally)
	for _, tags := range [][]uint8{nil, {filler}, {free}, {filler, free}, {object, free, free}, {0, 4}} {
		w.gaps(tags, m.gaps(tags...)...)
	}
	return m
}

// sound reports an error unless nothing is wrong, and all that is told is as worked out.
func (w *world) sound() must {
	w.Helper()
	w.faults()
	return w.holds()
}

// each calls do with each type's number, and lengths that it may have, the least and the greatest among them.
func each(do func(id, n int)) {
	for k, x := range types {
		for _, n := range []int{0, 1, 2, 3, 4, 100, 4095, 4096} {
			if n == 0 || x.Kind != 1 {
				do(k+1, n)
			}
		}
	}
}

// arrangements are rows of cells that fill 16 words.
func arrangements() [][]api.Cell {
	return [][]api.Cell{
		{gap(0, 8)},
		{gap(0, 1), gap(1, 7)},
		{gap(0, 7), gap(7, 1)},
		{gap(0, 2), gap(2, 1), gap(3, 5)},
		{gap(0, 1), gap(1, 1), gap(2, 1), gap(3, 1), gap(4, 1), gap(5, 1), gap(6, 1), gap(7, 1)},
		{gap(0, 1), obj(1, refs, 3), gap(3, 5)},
		{obj(0, raw, 15)},
		{obj(0, refs, 15)},
		{obj(0, raw, 13), gap(7, 1)},
		{gap(0, 1), obj(1, flat, 6), gap(7, 1)},
		{gap(0, 6), obj(6, pair, 0)},
		{gap(0, 7), obj(7, bare, 0)},
		{obj(0, bare, 0), obj(1, bare, 0), obj(2, bare, 0), obj(3, bare, 0), obj(4, bare, 0), obj(5, bare, 0), obj(6, bare, 0), obj(7, bare, 0)},
		{obj(0, bare, 0), gap(1, 1), gap(2, 2), obj(4, trios, 1), gap(6, 1), obj(7, ones, 1)},
		{obj(0, refs, 0), obj(1, ones, 2), gap(3, 2), gap(5, 1), obj(6, refs, 2)},
		{obj(0, full, 0), obj(2, plain, 0), obj(5, refs, 4)},
	}
}

// P10.1, P10.2: the chapter's example.
func TestP10_1Example(t *testing.T) {
	x := tableOf(t)
	s, err := space.New(16, x)
	if err != api.OK {
		t.Fatalf("New: %d", err)
	}
	if err := s.Put(1, refs, 3); err != api.OK {
		t.Fatalf("Put: %d", err)
	}
	w := &world{T: t, s: s, a: s.Arena(), x: x, b: s.Starts()}
	w.slot(1, 0, 1048576+2)
	w.slot(1, 1, 1048576+4)
	w.faults(api.Fault{At: 1, Slot: 1, Why: api.ErrType})
	w.edges(api.Edge{From: 1, Slot: 0, To: 1})
	w.count(api.Tally{Objects: 1, Fillers: 1, Frees: 1, Used: 2, Free: 5, Lost: 1})
	w.objects(api.Cell{At: 1, Head: api.Head{Tag: api.TagObject, Type: refs, Len: 3, Size: 2}})
	w.gaps([]uint8{api.TagFiller, api.TagFree}, api.Run{At: 0, Len: 1}, api.Run{At: 3, Len: 5})
	w.holds()
}

// P10.1: Check is told that the arena, the table, the starts, two of them, or all are nil, whatever the others are.
func TestP10_1Nil(t *testing.T) {
	for _, words := range []uint64{0, 1} {
		w := over(t, 16, gap(0, 1), obj(1, refs, 3), gap(3, 5))
		w.word(0, words)
		w.flip(0, 1, 7)
		for k := range 7 {
			a, x, b := w.a, w.x, w.b
			if k&1 == 0 {
				a = nil
			}
			if k&2 == 0 {
				x = nil
			}
			if k&4 == 0 {
				b = nil
			}
			w.kept(func() {
				if l, err := walk.Check(a, x, b); len(l) != 0 || err != api.ErrNil {
					t.Errorf("Check(%p, %p, %p): %v, %d", a, x, b, l, err)
				}
			})
		}
	}
}

// P10.1: nothing is wrong with cells that fill an arena, with their starts, and with references that lead to objects, or nowhere.
func TestP10_1Sound(t *testing.T) {
	for _, cells := range arrangements() {
		over(t, 16, cells...).sound()
	}
	for _, words := range []int{16, 18, 130, mostWord - 2, mostWord} {
		over(t, words, gap(0, words/2)).sound()
		over(t, words, obj(0, bare, 0), gap(1, words/2-2), obj(words/2-1, bare, 0)).sound()
	}
	w := over(t, 32, obj(0, refs, 3), gap(2, 1), obj(3, pair, 0), obj(5, trios, 2), gap(9, 6), obj(15, ones, 1))
	for k, at := range []int{0, 15, 3} {
		w.slot(0, k, addr(at))
	}
	w.slot(3, 1, addr(0))
	for _, c := range [][2]int{{0, 5}, {2, 5}, {3, 15}, {5, 0}} {
		w.slot(5, c[0], addr(c[1]))
	}
	w.slot(15, 0, addr(15))
	w.sound()
}

// P10.1: a start that is set where no object begins, or not where one does, at each granule of all sorts of cells, and at two of them.
func TestP10_1Starts(t *testing.T) {
	faultOf := func(w *world, g int) api.Fault {
		if w.s.Starts().Has(g) {
			return none(g)
		}
		return have(g)
	}
	for _, cells := range arrangements() {
		w := over(t, 16, cells...)
		for g := range 8 {
			w.flip(g)
			w.faults(faultOf(w, g))
			for more := range g {
				w.flip(more)
				w.faults(faultOf(w, more), faultOf(w, g))
				w.flip(more)
			}
			w.flip(g)
		}
		w.sound()
	}
}

// P10.1: starts that are wrong at the first granule and at the last one, within an object and within a gap, all of them, and none.
func TestP10_1StartsWritten(t *testing.T) {
	w := over(t, 16, obj(0, refs, 3), gap(2, 3), gap(5, 1), obj(6, pair, 0))
	w.flip(0)
	w.faults(none(0))
	w.flip(7)
	w.faults(none(0), have(7))
	w.flip(1, 2, 3, 5)
	w.faults(none(0), have(1), have(2), have(3), have(5), have(7))
	w.flip(6)
	w.faults(none(0), have(1), have(2), have(3), have(5), none(6), have(7))
	w.flip(4)
	w.faults(none(0), have(1), have(2), have(3), have(4), have(5), none(6), have(7))
	w.flip(1, 2, 3, 4, 5, 7)
	w.faults(none(0), none(6))
	w.flip(0, 1, 2, 3, 4, 5, 6, 7)
	w.faults(have(1), have(2), have(3), have(4), have(5), have(7))
	large := over(t, mostWord, gap(0, 1), obj(1, wide, 4095), gap(32762, 5), obj(mostGran-1, bare, 0))
	large.flip(0, 1, 2, 32761, 32762, mostGran-2, mostGran-1)
	large.faults(have(0), none(1), have(2), have(32761), have(32762), have(mostGran-2), none(mostGran-1))
}

// P10.1: starts of fewer bits than the arena has granules are not set behind these, and of more, those behind the arena's end are none of its.
func TestP10_1StartsLen(t *testing.T) {
	cells := []api.Cell{obj(0, bare, 0), gap(1, 2), obj(3, refs, 2), gap(5, 1), obj(6, bare, 0), obj(7, bare, 0)}
	for _, c := range []struct {
		n    int
		want []api.Fault
	}{
		{0, []api.Fault{none(0), none(3), none(6), none(7)}},
		{1, []api.Fault{none(3), none(6), none(7)}},
		{3, []api.Fault{none(3), none(6), none(7)}},
		{4, []api.Fault{none(6), none(7)}},
		{7, []api.Fault{none(7)}},
		{8, nil}, {9, nil}, {64, nil}, {65, nil}, {mostWord, nil},
	} {
		w := over(t, 16, cells...)
		w.length(c.n)
		w.faults(c.want...)
		if c.n > 8 {
			w.b.SetRun(8, c.n-8)
			w.faults(c.want...)
			w.flip(7)
			w.faults(none(7))
		}
		w.holds()
	}
	w := over(t, 16, gap(0, 8))
	w.length(0)
	w.sound()
	w.length(mostWord)
	w.b.SetRun(0, mostWord)
	w.faults(have(0), have(1), have(2), have(3), have(4), have(5), have(6), have(7))
}

// P10.1: words that are no header, headers that do not match the table, and cells that go beyond the arena's end, at the first granule, in the midst, and at the last one.
func TestP10_1Form(t *testing.T) {
	var list []uint64
	for _, h := range []api.Head{
		{}, {Size: 1}, {Tag: free}, {Tag: filler}, {Tag: object}, {Tag: object, Type: bare}, {Tag: object, Size: 1},
		{Tag: free, Type: 1, Size: 1}, {Tag: filler, Type: 1, Size: 1}, {Tag: free, Len: 1, Size: 1}, {Tag: filler, Len: 1, Size: 1},
		{Tag: object, Type: raw + 1, Size: 1}, {Tag: object, Type: 4095, Size: 1}, {Tag: object, Type: bare, Len: 1, Size: 1},
		{Tag: object, Type: refs, Len: 0, Size: 2}, {Tag: object, Type: refs, Len: 2, Size: 1}, {Tag: object, Type: raw, Len: 4097, Size: 2049}, {Tag: object, Type: raw, Len: 2, Size: 1},
		{Tag: free, Size: 17}, {Tag: filler, Size: 17}, {Tag: free, Size: 1<<24 - 1}, {Tag: filler, Size: mostGran},
		{Tag: object, Type: raw, Len: 33, Size: 17}, {Tag: object, Type: refs, Len: 4096, Size: 2049}, {Tag: object, Type: great, Size: 33},
	} {
		list = append(list, wordOf(h))
	}
	own := wordOf(gap(0, 1).Head)
	list = append(list, math.MaxUint64, own|0x4000, own|0x8000, own|0xc000, own|1<<63, addr(0), addr(1), base)
	for _, word := range list {
		for _, c := range []struct {
			at    int
			cells []api.Cell
		}{
			{0, []api.Cell{gap(0, 16)}},
			{0, []api.Cell{obj(0, refs, 3), gap(2, 14)}},
			{1, []api.Cell{obj(0, refs, 1), obj(1, bare, 0), gap(2, 14)}},
			{4, []api.Cell{gap(0, 1), obj(1, refs, 4), gap(4, 12)}},
			{15, []api.Cell{gap(0, 15), gap(15, 1)}},
			{15, []api.Cell{gap(0, 1), obj(1, pair, 0), gap(3, 12), obj(15, bare, 0)}},
		} {
			w := over(t, 32, c.cells...)
			w.word(2*c.at, word)
			w.faults(form(c.at))
			w.holds()
		}
	}
}

// P10.1: a cell may have all granules up to the arena's end, and not one more.
func TestP10_1End(t *testing.T) {
	for _, words := range []int{16, 18, 4200, mostWord} {
		all := words / 2
		for _, at := range []int{0, 1, 7, all - 1} {
			ahead := []api.Cell{gap(0, max(at, 1))}
			if at == 0 {
				ahead = nil
			}
			w := over(t, words, append(ahead, gap(at, all-at))...)
			for _, h := range []api.Head{{Tag: free, Size: all - at}, {Tag: filler, Size: all - at}} {
				w.word(2*at, wordOf(h))
				w.sound()
				h.Size++
				w.word(2*at, wordOf(h))
				w.faults(form(at))
				h.Size = mostGran + 1
				w.word(2*at, wordOf(h))
				w.faults(form(at))
			}
			if n := 2*(all-at) - 1; n <= 4094 {
				w.flip(at)
				w.word(2*at, wordOf(obj(at, raw, n).Head))
				w.faults()
				w.word(2*at, wordOf(obj(at, raw, n+1).Head))
				w.faults(form(at))
				w.word(2*at, wordOf(obj(at, raw, n+2).Head))
				w.faults(form(at))
			}
		}
	}
}

// P10.1: an arena of which all words are 0 has no cell, whatever the starts are.
func TestP10_1Zero(t *testing.T) {
	for _, words := range []int{16, 18, mostWord} {
		a, err := arena.New(words)
		if err != api.OK {
			t.Fatalf("arena.New(%d): %d", words, err)
		}
		b, err := bits.New(words / 2)
		if err != api.OK {
			t.Fatalf("bits.New(%d): %d", words/2, err)
		}
		empty, err := table.New()
		if err != api.OK {
			t.Fatalf("table.New: %d", err)
		}
		for range 2 {
			for _, x := range []*table.Table{tableOf(t), empty} {
				l, err := walk.Check(a, x, b)
				if !slices.Equal(l, []api.Fault{form(0)}) || err != api.OK || a.Writes() != 0 {
					t.Errorf("Check of %d words: %v, %d", words, l, err)
				}
			}
			b.SetRun(0, words/2)
		}
	}
}

// P10.1: where a traversal ends, what is wrong ahead of it is told, and what is wrong with the starts from there on is not.
func TestP10_1FormStarts(t *testing.T) {
	w := over(t, 32, obj(0, refs, 3), gap(2, 2), obj(4, pair, 0), obj(6, bare, 0), gap(7, 8), obj(15, bare, 0))
	w.word(12, 0)
	w.faults(form(6))
	w.flip(6, 7, 8, 15)
	w.faults(form(6))
	w.flip(0, 1, 3, 4, 5)
	w.faults(none(0), have(1), have(3), none(4), have(5), form(6))
	w.word(8, 0)
	w.faults(none(0), have(1), have(3), form(4))
	w.word(4, 0)
	w.faults(none(0), have(1), form(2))
	w.word(0, 0)
	w.faults(form(0))
	last := over(t, 16, obj(0, bare, 0), gap(1, 6), obj(7, bare, 0))
	last.word(14, 0)
	last.flip(7)
	last.faults(form(7))
	last.flip(7)
	last.faults(form(7))
	last.flip(6)
	last.faults(have(6), form(7))
}

// P10.1: references to where no object begins: gaps, granules within objects, second words of granules, words beside the arena's; and to where one does.
func TestP10_1Refs(t *testing.T) {
	for _, c := range []struct {
		word uint64
		bad  bool
	}{
		{0, false}, {addr(0), false}, {addr(3), false}, {addr(7), false},
		{addr(1), true}, {addr(2), true}, {addr(4), true}, {addr(5), true}, {addr(6), true}, {addr(8), true}, {addr(9), true},
		{addr(0) + 1, true}, {addr(3) + 1, true}, {addr(7) + 1, true}, {addr(1) + 1, true}, {addr(4) + 1, true},
		{addr(0) - 1, true}, {addr(0) - 2, true}, {addr(mostGran), true}, {addr(mostGran - 1), true}, {addr(mostGran + 3), true}, {base - mostWord, true},
		{1, true}, {2, true}, {3, true}, {6, true}, {7, true}, {14, true}, {16, true},
		{math.MaxUint64, true}, {math.MaxUint64 - 1, true}, {1 << 63, true}, {1<<63 | base, true}, {1<<32 | base, true}, {1<<32 | addr(3), true}, {addr(3) << 1, true}, {base / 2, true}, {base / 2 * 3, true},
	} {
		w := over(t, 16, obj(0, refs, 2), gap(2, 1), obj(3, full, 0), gap(5, 2), obj(7, ones, 1))
		for _, at := range [][2]int{{0, 0}, {0, 1}, {3, 0}, {3, 1}, {3, 2}, {7, 0}} {
			w.slot(at[0], at[1], c.word)
			if c.bad {
				w.faults(wrong(at[0], at[1]))
			} else {
				w.faults()
			}
			w.slot(at[0], at[1], 0)
		}
		for k := range 3 {
			w.slot(3, k, c.word)
		}
		w.slot(7, 0, c.word)
		if c.bad {
			w.faults(wrong(3, 0), wrong(3, 1), wrong(3, 2), wrong(7, 0))
		} else {
			w.faults()
		}
		w.holds()
	}
}

// P10.1: an object behind the place where a traversal ends is none: references to it are wrong, and its own are not told.
func TestP10_1RefsBehind(t *testing.T) {
	w := over(t, 32, obj(0, refs, 4), gap(3, 3), obj(6, bare, 0), obj(7, refs, 2), gap(9, 6), obj(15, bare, 0))
	for k, at := range []int{6, 7, 15, 0} {
		w.slot(0, k, addr(at))
	}
	w.slot(7, 0, addr(0))
	w.slot(7, 1, addr(8))
	w.faults(wrong(7, 1))
	w.edges(api.Edge{From: 0, Slot: 0, To: 6}, api.Edge{From: 0, Slot: 1, To: 7}, api.Edge{From: 0, Slot: 2, To: 15}, api.Edge{From: 0, Slot: 3, To: 0}, api.Edge{From: 7, Slot: 0, To: 0})
	w.word(30, 0)
	w.faults(form(15), wrong(0, 2), wrong(7, 1))
	w.edges(api.Edge{From: 0, Slot: 0, To: 6}, api.Edge{From: 0, Slot: 1, To: 7}, api.Edge{From: 0, Slot: 3, To: 0}, api.Edge{From: 7, Slot: 0, To: 0})
	w.word(14, 0)
	w.faults(form(7), wrong(0, 1), wrong(0, 2))
	w.edges(api.Edge{From: 0, Slot: 0, To: 6}, api.Edge{From: 0, Slot: 3, To: 0})
	w.word(12, 0)
	w.faults(form(6), wrong(0, 0), wrong(0, 1), wrong(0, 2))
	w.edges(api.Edge{From: 0, Slot: 3, To: 0})
	w.holds()
	w.word(0, 0)
	w.faults(form(0))
	w.edges()
	w.holds()
}

// P10.1: of objects of each kind, with the least and the greatest length, just the slots that are references are wrong if all words lead nowhere, and right if all lead to objects.
func TestP10_1Kinds(t *testing.T) {
	each(func(id, n int) {
		size := sizeOf(id, n)
		if size+3 > mostGran {
			return
		}
		all := max(size+3, 8)
		w := over(t, 2*all, gap(0, 1), obj(1, id, n), obj(1+size, bare, 0), gap(2+size, all-size-2))
		var bad []api.Fault
		var edges []api.Edge
		for slot := range slotsOf(id, n) {
			if isRef(id, slot) {
				bad = append(bad, wrong(1, slot))
				edges = append(edges, api.Edge{From: 1, Slot: slot, To: 1 + size})
			}
		}
		w.sound()
		w.a.Fill(3, slotsOf(id, n), addr(0))
		w.faults(bad...)
		w.edges()
		w.a.Fill(3, slotsOf(id, n), addr(1+size))
		w.faults()
		w.edges(edges...)
		w.holds()
		// Behind the last slot there may be one more word, which is no slot.
		w.a.Fill(3, 2*size-1, addr(0))
		w.faults(bad...)
	})
}

// P10.1: the slots of each kind that are references, written out.
func TestP10_1KindsWritten(t *testing.T) {
	for _, c := range []struct {
		id, n int
		slots []int
	}{
		{bare, 0, nil}, {plain, 0, nil}, {pair, 0, []int{1}}, {full, 0, []int{0, 1, 2}}, {great, 0, []int{1, 2, 63}},
		{refs, 0, nil}, {refs, 1, []int{0}}, {refs, 4, []int{0, 1, 2, 3}},
		{ones, 0, nil}, {ones, 2, []int{0, 1}}, {flat, 3, nil}, {trios, 0, nil}, {trios, 1, []int{0, 2}}, {trios, 3, []int{0, 2, 3, 5, 6, 8}}, {wide, 2, []int{0, 15, 16, 31}},
		{raw, 0, nil}, {raw, 9, nil},
	} {
		w := over(t, 128, obj(0, c.id, c.n), gap(sizeOf(c.id, c.n), 64-sizeOf(c.id, c.n)))
		w.a.Fill(1, slotsOf(c.id, c.n), addr(63))
		var bad []api.Fault
		for _, slot := range c.slots {
			bad = append(bad, wrong(0, slot))
		}
		w.faults(bad...)
	}
}

// P10.1: faults of all kinds at once: those of starts by granules, then where the traversal ended, then those of references by granules and then by slots.
func TestP10_1Order(t *testing.T) {
	w := over(t, 32, gap(0, 1), obj(1, trios, 2), gap(5, 2), obj(7, bare, 0), obj(8, refs, 3), gap(10, 4), obj(14, pair, 0))
	w.word(28, 1)
	w.flip(0, 1, 4, 6, 7, 8, 9, 13, 14, 15)
	for _, slot := range []int{5, 3, 2, 1, 0} {
		w.slot(1, slot, addr(14))
	}
	w.slot(8, 2, addr(5))
	w.slot(8, 1, addr(1))
	w.slot(8, 0, 7)
	w.slot(14, 1, 7)
	w.faults(have(0), none(1), have(4), have(6), none(7), none(8), have(9), have(13), form(14), wrong(1, 0), wrong(1, 2), wrong(1, 3), wrong(1, 5), wrong(8, 0), wrong(8, 2))
	w.word(28, wordOf(obj(14, pair, 0).Head))
	w.faults(have(0), none(1), have(4), have(6), none(7), none(8), have(9), have(13), none(14), have(15), wrong(8, 0), wrong(8, 2), wrong(14, 1))
	w.holds()
}

// P10.1: words of gaps, words that are no references, and those behind the last slot are nothing, whatever they look like.
func TestP10_1Beside(t *testing.T) {
	w := over(t, 32, gap(0, 3), obj(3, raw, 6), gap(7, 1), obj(8, refs, 2), obj(10, flat, 2), gap(13, 3))
	for i := range 32 {
		if i != 0 && i != 6 && i != 14 && i != 16 && i != 17 && i != 18 && i != 20 && i != 26 {
			w.word(i, wordOf(obj(0, refs, 1).Head)|1<<62)
		}
	}
	w.sound()
	for i := range 32 {
		if i != 0 && i != 6 && i != 14 && i != 16 && i != 17 && i != 18 && i != 20 && i != 26 {
			w.word(i, addr(8))
		}
	}
	w.sound()
	w.edges()
	w.slot(8, 1, addr(3))
	w.slot(8, 0, addr(8))
	w.sound()
	w.edges(api.Edge{From: 8, Slot: 0, To: 8}, api.Edge{From: 8, Slot: 1, To: 3})
}

// P10.1: with the same arena, another table, without the type of an object, has no such object; a type that the table is given later is asked too.
func TestP10_1Table(t *testing.T) {
	w := over(t, 16, gap(0, 1), obj(1, refs, 3), obj(3, raw, 3), gap(5, 3))
	less, err := table.New(types[:refs]...)
	if err != api.OK {
		t.Fatalf("table.New: %d", err)
	}
	own := w.x
	w.x = less
	w.faults(form(3))
	w.x = own
	w.sound()
	for _, x := range types[refs:] {
		if _, err := less.Add(x); err != api.OK {
			t.Fatalf("Add: %d", err)
		}
	}
	w.x = less
	w.faults()
	w.x, err = table.New()
	if err != api.OK {
		t.Fatalf("table.New: %d", err)
	}
	w.faults(form(1))
	w.word(2, wordOf(gap(1, 7).Head))
	w.faults(have(1), have(3))
}

// P10.2: objects alone, gaps alone, and both: in order, with their headers.
func TestP10_2Objects(t *testing.T) {
	over(t, 16, gap(0, 8)).objects()
	over(t, 16, gap(0, 1), gap(1, 7)).objects()
	over(t, 16, obj(0, raw, 15)).objects(obj(0, raw, 15))
	over(t, 16, obj(0, raw, 13), gap(7, 1)).objects(obj(0, raw, 13))
	over(t, 16, gap(0, 7), obj(7, bare, 0)).objects(obj(7, bare, 0))
	over(t, 16, obj(0, full, 0), obj(2, plain, 0), obj(5, trios, 1), obj(7, refs, 0)).objects(obj(0, full, 0), obj(2, plain, 0), obj(5, trios, 1), obj(7, refs, 0))
	over(t, 32, gap(0, 1), obj(1, refs, 3), gap(3, 1), gap(4, 2), obj(6, flat, 3), obj(10, ones, 2), gap(12, 4)).objects(obj(1, refs, 3), obj(6, flat, 3), obj(10, ones, 2))
	over(t, mostWord, gap(0, 1), obj(1, wide, 4095), gap(32762, 5), obj(mostGran-1, bare, 0)).objects(obj(1, wide, 4095), obj(mostGran-1, bare, 0))
	each(func(id, n int) {
		if size := sizeOf(id, n); size+3 <= mostGran {
			all := max(size+3, 8)
			over(t, 2*all, gap(0, all-size-1), obj(all-size-1, id, n), gap(all-1, 1)).objects(obj(all-size-1, id, n))
		}
	})
}

// P10.2: gaps of one granule and of several, adjacent ones and others, by no tag, by one, by two, by the same one twice, by that of objects, and by those that no cell has.
func TestP10_2Gaps(t *testing.T) {
	w := over(t, 32, gap(0, 1), obj(1, refs, 3), gap(3, 1), gap(4, 2), gap(6, 3), gap(9, 1), obj(10, raw, 6), gap(14, 2))
	run := func(at, n int) api.Run { return api.Run{At: at, Len: n} }
	fillers := []api.Run{run(0, 1), run(3, 1), run(9, 1)}
	frees := []api.Run{run(4, 2), run(6, 3), run(14, 2)}
	both := []api.Run{run(0, 1), run(3, 1), run(4, 2), run(6, 3), run(9, 1), run(14, 2)}
	for _, c := range []struct {
		tags []uint8
		want []api.Run
	}{
		{nil, nil}, {[]uint8{}, nil}, {[]uint8{filler}, fillers}, {[]uint8{free}, frees},
		{[]uint8{filler, free}, both}, {[]uint8{free, filler}, both},
		{[]uint8{filler, filler}, fillers}, {[]uint8{free, free}, frees}, {[]uint8{free, filler, free, filler}, both},
		{[]uint8{object}, nil}, {[]uint8{object, object}, nil}, {[]uint8{object, filler}, fillers}, {[]uint8{free, object}, frees}, {[]uint8{object, free, filler}, both},
		{[]uint8{0}, nil}, {[]uint8{4}, nil}, {[]uint8{255}, nil}, {[]uint8{0, 4, 5, 128, 255}, nil}, {[]uint8{0, filler, 4}, fillers}, {[]uint8{255, free}, frees}, {[]uint8{6, 7, 130, 131}, nil},
	} {
		w.gaps(c.tags, c.want...)
	}
	for tag := range 256 {
		w.gaps([]uint8{uint8(tag)}, map[int][]api.Run{filler: fillers, free: frees}[tag]...)
	}
	over(t, 16, gap(0, 8)).gaps([]uint8{free}, run(0, 8))
	over(t, 16, gap(0, 8)).gaps([]uint8{filler})
	over(t, mostWord, gap(0, mostGran)).gaps([]uint8{filler, free}, run(0, mostGran))
	over(t, 16, obj(0, raw, 15)).gaps([]uint8{object, filler, free})
	over(t, 16, gap(0, 7), gap(7, 1)).gaps([]uint8{filler, free}, run(0, 7), run(7, 1))
}

// P10.2: a gap is told by the tag that stands there, whatever its size.
func TestP10_2GapTags(t *testing.T) {
	w := over(t, 16, cell(0, api.Head{Tag: filler, Size: 3}), obj(3, bare, 0), cell(4, api.Head{Tag: free, Size: 1}), cell(5, api.Head{Tag: filler, Size: 2}), cell(7, api.Head{Tag: free, Size: 1}))
	w.gaps([]uint8{filler}, api.Run{At: 0, Len: 3}, api.Run{At: 5, Len: 2})
	w.gaps([]uint8{free}, api.Run{At: 4, Len: 1}, api.Run{At: 7, Len: 1})
	w.count(api.Tally{Objects: 1, Fillers: 2, Frees: 2, Used: 1, Free: 2, Lost: 5})
	w.sound()
}

// P10.2: references that are 0, to the object itself, to the first and to the last one, backward, forward, and twice the same; those that lead nowhere are no edges.
func TestP10_2Edges(t *testing.T) {
	edge := func(from, slot, to int) api.Edge { return api.Edge{From: from, Slot: slot, To: to} }
	w := over(t, 48, obj(0, pair, 0), gap(2, 1), obj(3, refs, 8), obj(8, raw, 3), gap(10, 4), obj(14, trios, 2), gap(18, 5), obj(23, ones, 1))
	w.edges()
	w.slot(23, 0, addr(0))
	w.edges(edge(23, 0, 0))
	for k, word := range []uint64{addr(23), addr(3), 0, addr(0), addr(8), addr(8), addr(9), addr(14)} {
		w.slot(3, k, word)
	}
	w.edges(edge(3, 0, 23), edge(3, 1, 3), edge(3, 3, 0), edge(3, 4, 8), edge(3, 5, 8), edge(3, 7, 14), edge(23, 0, 0))
	for k, word := range []uint64{addr(3), addr(3), addr(14), addr(2), addr(0) + 1, addr(0)} {
		w.slot(14, k, word)
	}
	w.edges(edge(3, 0, 23), edge(3, 1, 3), edge(3, 3, 0), edge(3, 4, 8), edge(3, 5, 8), edge(3, 7, 14), edge(14, 0, 3), edge(14, 2, 14), edge(14, 5, 0), edge(23, 0, 0))
	w.slot(0, 0, addr(0))
	w.slot(0, 1, addr(0))
	w.slot(8, 0, addr(0))
	w.edges(edge(0, 1, 0), edge(3, 0, 23), edge(3, 1, 3), edge(3, 3, 0), edge(3, 4, 8), edge(3, 5, 8), edge(3, 7, 14), edge(14, 0, 3), edge(14, 2, 14), edge(14, 5, 0), edge(23, 0, 0))
	w.slot(3, 3, base+48)
	w.slot(3, 5, math.MaxUint64)
	w.slot(23, 0, addr(23))
	w.edges(edge(0, 1, 0), edge(3, 0, 23), edge(3, 1, 3), edge(3, 4, 8), edge(3, 7, 14), edge(14, 0, 3), edge(14, 2, 14), edge(14, 5, 0), edge(23, 0, 23))
	w.holds()
}

// P10.2: how many cells of each kind there are, and how many granules they have.
func TestP10_2Count(t *testing.T) {
	for _, c := range []struct {
		words int
		cells []api.Cell
		want  api.Tally
	}{
		{16, []api.Cell{gap(0, 8)}, api.Tally{Frees: 1, Free: 8}},
		{mostWord, []api.Cell{gap(0, mostGran)}, api.Tally{Frees: 1, Free: mostGran}},
		{16, []api.Cell{obj(0, raw, 15)}, api.Tally{Objects: 1, Used: 8}},
		{16, []api.Cell{obj(0, bare, 0), obj(1, raw, 13)}, api.Tally{Objects: 2, Used: 8}},
		{16, []api.Cell{gap(0, 7), gap(7, 1)}, api.Tally{Fillers: 1, Frees: 1, Free: 7, Lost: 1}},
		{16, []api.Cell{obj(0, raw, 13), gap(7, 1)}, api.Tally{Objects: 1, Fillers: 1, Used: 7, Lost: 1}},
		{32, []api.Cell{gap(0, 1), obj(1, refs, 3), gap(3, 1), gap(4, 2), gap(6, 3), gap(9, 1), obj(10, raw, 6), gap(14, 2)}, api.Tally{Objects: 2, Fillers: 3, Frees: 3, Used: 6, Free: 7, Lost: 3}},
		{mostWord, []api.Cell{obj(0, wide, 4095), gap(32761, 7)}, api.Tally{Objects: 1, Frees: 1, Used: 32761, Free: 7}},
	} {
		w := over(t, c.words, c.cells...)
		w.count(c.want)
		w.sound()
	}
}

// P10.2: of a nil space there is nothing to tell.
func TestP10_2Nil(t *testing.T) {
	if l := walk.Objects(nil); len(l) != 0 {
		t.Errorf("Objects(nil): %v", l)
	}
	for _, tags := range [][]uint8{nil, {filler}, {free}, {object, filler, free}} {
		if l := walk.Gaps(nil, tags...); len(l) != 0 {
			t.Errorf("Gaps(nil, %v): %v", tags, l)
		}
	}
	if l := walk.Edges(nil); len(l) != 0 {
		t.Errorf("Edges(nil): %v", l)
	}
	if n := walk.Count(nil); n != (api.Tally{}) {
		t.Errorf("Count(nil): %v", n)
	}
}

// P10.2: where words were written over a space's headers and slots, its cells are those that its words tell of now, up to where none begins.
func TestP10_2Written(t *testing.T) {
	w := over(t, 32, gap(0, 1), obj(1, refs, 3), gap(3, 2), obj(5, pair, 0), gap(7, 9))
	w.slot(1, 0, addr(5))
	w.slot(5, 1, addr(1))
	w.word(14, 0)
	w.objects(obj(1, refs, 3), obj(5, pair, 0))
	w.gaps([]uint8{filler, free}, api.Run{At: 0, Len: 1}, api.Run{At: 3, Len: 2})
	w.edges(api.Edge{From: 1, To: 5}, api.Edge{From: 5, Slot: 1, To: 1})
	w.count(api.Tally{Objects: 2, Fillers: 1, Frees: 1, Used: 4, Free: 2, Lost: 1})
	w.word(10, wordOf(gap(5, 2).Head))
	w.objects(obj(1, refs, 3))
	w.gaps([]uint8{free}, api.Run{At: 3, Len: 2}, api.Run{At: 5, Len: 2})
	w.edges()
	w.count(api.Tally{Objects: 1, Fillers: 1, Frees: 2, Used: 2, Free: 4, Lost: 1})
	w.word(10, wordOf(obj(5, pair, 0).Head)+4)
	w.objects(obj(1, refs, 3), obj(5, full, 0))
	w.slot(5, 0, addr(5))
	w.edges(api.Edge{From: 1, To: 5}, api.Edge{From: 5, Slot: 0, To: 5}, api.Edge{From: 5, Slot: 1, To: 1})
	w.word(0, 0)
	w.objects()
	w.gaps([]uint8{filler, free})
	w.edges()
	w.count(api.Tally{})
	w.holds()
}

// P10.1, P10.2: what is written into the lists that are told, and behind them, changes nothing, and no two lists share anything.
func TestP10_2Lists(t *testing.T) {
	w := over(t, 32, gap(0, 1), obj(1, refs, 3), gap(3, 1), gap(4, 2), obj(6, full, 0), obj(8, bare, 0), gap(9, 7))
	for k, at := range []int{6, 2, 1} {
		w.slot(1, k, addr(at))
		w.slot(6, k, addr(at+k))
	}
	w.flip(0, 1, 4)
	want := w.holds()
	faults, _ := walk.Check(w.a, w.x, w.b)
	others, _ := walk.Check(w.a, w.x, w.b)
	row := []uint8{filler, free, object, free}
	unshared(w, faults, others, want.faults)
	unshared(w, walk.Objects(w.s), walk.Objects(w.s), want.objects())
	unshared(w, walk.Edges(w.s), walk.Edges(w.s), want.edges)
	gaps, again := walk.Gaps(w.s, row[:2]...), walk.Gaps(w.s, row[:2]...)
	same(t, "the row of tags", row, []uint8{filler, free, object, free})
	clear(row)
	unshared(w, gaps, again, want.gaps(filler, free))
	w.gaps(row)
	w.gaps(row[:1:4])
	w.holds()
}

// unshared reports an error unless two lists have these items, and neither the other one nor the world is changed by what is written into one.
func unshared[T comparable](w *world, one, other, want []T) {
	w.Helper()
	if len(want) < 2 {
		w.Fatalf("too short a list: %v", want)
	}
	w.kept(func() {
		same(w.T, "one list", one, want)
		clear(one[:cap(one)])
		same(w.T, "the other list", other, want)
		_ = append(other[:1], one...)
	})
	w.holds()
}

// P10.1, P10.2: all calls together leave all as it is, in whichever order, and tell the same each time.
func TestP10_2Again(t *testing.T) {
	w := over(t, 32, gap(0, 1), obj(1, refs, 3), gap(3, 1), gap(4, 2), obj(6, full, 0), obj(8, bare, 0), gap(9, 7))
	w.slot(1, 0, addr(6))
	w.slot(6, 0, addr(2))
	w.flip(3)
	for range 3 {
		w.holds()
	}
	w.word(12, 0)
	for range 3 {
		w.holds()
	}
}

// picker returns a function that returns numbers below n, each of which follows from those before it.
func picker(x uint64) func(n int) int {
	return func(n int) int {
		x = x*6364136223846793005 + 1442695040888963407
		return int(x >> 33 % uint64(n))
	}
}

// aim returns a word that may be a reference: of each sort there is.
func aim(next func(int) int, granules int) uint64 {
	switch next(8) {
	case 0:
		return 0
	case 1:
		return addr(next(granules)) + 1
	case 2:
		return addr(next(4) - 2)
	case 3:
		return addr(granules + next(4) - 2)
	case 4:
		return []uint64{1, 2, base / 2, base * 2, 1<<63 | base, math.MaxUint64, math.MaxUint64 - 1, 1 << 32}[next(8)]
	}
	return addr(next(granules))
}

// random returns a world of cells that follow from the numbers, with references of all sorts.
func random(t *testing.T, next func(int) int, granules int) *world {
	t.Helper()
	var cells []api.Cell
	for at := 0; at < granules; {
		c := gap(at, 1+next(4))
		if id, n := 1+next(len(types)), next(5); next(3) > 0 && mayBe(id, n) {
			c = obj(at, id, n)
		}
		if end(c) <= granules {
			cells = append(cells, c)
			at = end(c)
		}
	}
	w := over(t, 2*granules, cells...)
	for _, c := range cells {
		for slot := range slotsOf(max(c.Type, 1), c.Len) {
			w.slot(c.At, slot, aim(next, granules))
		}
	}
	return w
}

// P10.1, P10.2: all sorts of cells, references, starts, and words written over headers, each held against what is worked out from the words.
func TestP10_2Random(t *testing.T) {
	next := picker(3)
	for range 4000 {
		w := random(t, next, 8+next(24))
		all := w.a.Len() / 2
		w.holds()
		for range next(4) {
			w.flip(next(all))
		}
		if next(4) == 0 {
			w.length(next(2 * all))
		}
		w.holds()
		for range next(3) {
			h := api.Head{Tag: uint8(next(4)), Type: next(len(types) + 2), Len: next(5), Size: next(6)}
			if id := h.Type; next(2) == 0 && mayBe(id, h.Len) {
				h = obj(0, id, h.Len).Head
			}
			w.word(2*next(all), wordOf(h))
			w.holds()
		}
	}
}

// P10.3: whatever is put, dropped, settled and stored, a space has no faults but references to where no object begins, and what it has are all granules.
func TestP10_3Steps(t *testing.T) {
	for _, words := range []int{16, 18, 64, 130} {
		x := tableOf(t)
		s, err := space.New(words, x)
		if err != api.OK {
			t.Fatalf("New(%d): %d", words, err)
		}
		next, all := picker(uint64(words)), words/2
		for range 1500 {
			step(s, next)
			w := &world{T: t, s: s, a: s.Arena(), x: x, b: s.Starts()}
			m := w.holds()
			for _, f := range m.faults {
				if f.Why != api.ErrType {
					t.Fatalf("Check: %v", m.faults)
				}
			}
			if n := walk.Count(s); n.Used+n.Free+n.Lost != all || n.Objects+n.Fillers+n.Frees != len(s.Cells()) || n.Fillers != n.Lost {
				t.Fatalf("Count: %v", n)
			}
		}
	}
}

// step does one thing with a space.
func step(s *space.Space, next func(int) int) {
	all := s.Granules()
	objects := walk.Objects(s)
	switch k := next(8); {
	case k < 3 || len(objects) == 0:
		s.Put(next(all), 1+next(len(types)), next(7))
	case k == 3:
		s.Drop(objects[next(len(objects))].At)
	case k == 4 && next(4) == 0:
		var at []int
		for _, c := range objects {
			if next(3) > 0 {
				at = append(at, c.At)
			}
		}
		s.Settle(at...)
	default:
		c := objects[next(len(objects))]
		if n := slotsOf(c.Type, c.Len); n > 0 {
			s.Arena().Store(2*c.At+1+next(n), aim(next, all))
		}
	}
}

// P10.3: where nothing but references is wrong, just those to no object are, also when what they led to is dropped.
func TestP10_3Dropped(t *testing.T) {
	w := over(t, 32, obj(0, refs, 3), obj(2, pair, 0), gap(4, 3), obj(7, refs, 2), gap(9, 7))
	for k, at := range []int{2, 7, 0} {
		w.slot(0, k, addr(at))
	}
	w.slot(2, 1, addr(7))
	w.slot(7, 0, addr(2))
	w.sound()
	if err := w.s.Drop(7); err != api.OK {
		t.Fatalf("Drop: %d", err)
	}
	w.faults(have(7), wrong(0, 1), wrong(2, 1))
	w.b = w.s.Starts()
	w.faults(wrong(0, 1), wrong(2, 1))
	if err := w.s.Put(7, bare, 0); err != api.OK {
		t.Fatalf("Put: %d", err)
	}
	w.faults(none(7))
	w.b = w.s.Starts()
	w.sound()
	if err := w.s.Settle(); err != api.OK {
		t.Fatalf("Settle: %d", err)
	}
	w.b = w.s.Starts()
	w.sound()
	w.count(api.Tally{Frees: 1, Free: 16})
}

// P10.3: each other word in a header's place is detected, or the cells are others.
func TestP10_3Headers(t *testing.T) {
	for _, cells := range arrangements() {
		w := over(t, 16, cells...)
		for _, c := range cells {
			for _, word := range others(c) {
				w.word(2*c.At, word)
				l, err := walk.Check(w.a, w.x, w.b)
				if err != api.OK || !slices.Equal(l, mustOf(w.words(), w.b).faults) {
					t.Fatalf("%v with %x at %d: %v, %d", cells, word, c.At, l, err)
				}
				if len(l) == 0 && sameCells(w.s, cells) {
					t.Fatalf("%v with %x at %d: nothing is told", cells, word, c.At)
				}
			}
			w.word(2*c.At, wordOf(c.Head))
		}
		w.sound()
	}
}

// others returns words that differ from a cell's header: by a bit, by two, and headers of all sorts.
func others(c api.Cell) []uint64 {
	own := wordOf(c.Head)
	var list []uint64
	for i := range 64 {
		for j := range i + 1 {
			list = append(list, own^(1<<i|1<<j))
		}
	}
	for size := range 10 {
		for tag := range 4 {
			list = append(list, wordOf(api.Head{Tag: uint8(tag), Size: size}))
		}
		for id := range len(types) {
			list = append(list, wordOf(api.Head{Tag: object, Type: id, Len: size, Size: 1}))
			if mayBe(id, size) {
				list = append(list, wordOf(obj(0, id, size).Head))
			}
		}
	}
	return slices.DeleteFunc(list, func(w uint64) bool { return w == own })
}

// sameCells reports whether Objects and Gaps tell just these cells.
func sameCells(s *space.Space, cells []api.Cell) bool {
	m := must{cells: cells}
	return slices.Equal(walk.Objects(s), m.objects()) && slices.Equal(walk.Gaps(s, filler), m.gaps(filler)) && slices.Equal(walk.Gaps(s, free), m.gaps(free))
}

// P10.3: each start that is another one is detected, whatever else is wrong with the references.
func TestP10_3Starts(t *testing.T) {
	next := picker(9)
	for range 200 {
		w := random(t, next, 8+next(16))
		before := w.holds().faults
		for g := range w.a.Len() / 2 {
			w.flip(g)
			l := w.holds().faults
			if len(l) != len(before)+1 || l[0].At != g || l[0].Why == api.ErrType || !slices.Equal(l[1:], before) {
				t.Fatalf("the start of %d: %v; before %v", g, l, before)
			}
			w.flip(g)
		}
	}
}

// P10.3: the greatest space, full of the least objects that have a reference, each of which leads to another one, or to itself, or nowhere.
func TestP10_3Full(t *testing.T) {
	s, err := space.New(mostWord, tableOf(t))
	if err != api.OK {
		t.Fatalf("New: %d", err)
	}
	var edges []api.Edge
	var bad []api.Fault
	for k := range mostGran {
		g := mostGran - 1 - k
		if err := s.Put(g, ones, 1); err != api.OK {
			t.Fatalf("Put(%d): %d", g, err)
		}
	}
	for g := range mostGran {
		to := g * 7 % mostGran
		switch g % 5 {
		case 3:
			s.Arena().Store(2*g+1, addr(to)+1)
			bad = append(bad, wrong(g, 0))
		case 4:
			s.Arena().Store(2*g+1, addr(g+mostGran))
			bad = append(bad, wrong(g, 0))
		default:
			s.Arena().Store(2*g+1, addr(to))
			edges = append(edges, api.Edge{From: g, To: to})
		}
	}
	w := &world{T: t, s: s, a: s.Arena(), x: s.Table(), b: s.Starts()}
	w.faults(bad...)
	w.edges(edges...)
	w.count(api.Tally{Objects: mostGran, Used: mostGran})
	w.gaps([]uint8{filler, free})
	w.flip(0, mostGran-1)
	w.word(2*(mostGran-1), 0)
	w.holds()
	faults, _ := walk.Check(w.a, w.x, w.b)
	if len(faults) < 2 || faults[0] != none(0) || faults[1] != form(mostGran-1) {
		t.Errorf("Check: %v", faults[:min(len(faults), 4)])
	}
}
