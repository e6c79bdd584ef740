package shape_test

import (
	"math"
	"slices"
	"testing"

	"skerry/api"
	"skerry/arena"
	"skerry/shape"
	"skerry/table"
)

// What the chapters tell in numbers: the address of the word 0, and how many words and granules the greatest arena has.
const (
	base     = 1048576
	mostWord = 65536
	mostGran = 32768
)

// types are of each kind: without a slot, with one, with an odd and an even number, the least and the greatest.
var types = []api.Type{
	{Kind: 1}, {Kind: 1, Words: 1, Mask: 1}, {Kind: 1, Words: 2, Mask: 2}, {Kind: 1, Words: 3, Mask: 5}, {Kind: 1, Words: 5},
	{Kind: 1, Words: 63, Mask: 1<<62 | 1}, {Kind: 1, Words: 64, Mask: 1<<63 | 6}, {Kind: 1, Words: 64, Mask: math.MaxUint64},
	{Kind: 2},
	{Kind: 3, Words: 1}, {Kind: 3, Words: 1, Mask: 1}, {Kind: 3, Words: 2, Mask: 2}, {Kind: 3, Words: 3, Mask: 5}, {Kind: 3, Words: 16, Mask: 0x8001},
	{Kind: 4},
}

// Numbers of types, as they stand in the list.
const (
	bare, three, refs, pairs, trios, wide, raw = 1, 4, 9, 12, 13, 14, 15
)

// Granules, numbers of types, lengths and slots that are tried; most of them are none.
var (
	wrongGrans = []int{-1, -2, -3, -mostGran, -mostWord, mostGran, mostGran + 1, mostWord, 1 << 31, 1 << 32, 1 << 62, 1<<62 + 1, math.MaxInt, math.MaxInt - 1, math.MinInt, math.MinInt + 1, math.MinInt + 2}
	wrongIDs   = []int{0, -1, 16, 17, 64, 65, 257, 1 << 32, math.MaxInt, math.MinInt}
	wrongLens  = []int{-1, -2, -4096, 4097, 4098, 1 << 24, 1 << 32, math.MaxInt, math.MinInt}
	wrongSlots = []int{-1, -2, -3, -64, mostWord, 1 << 32, 1 << 62, 1<<62 + 1, math.MaxInt, math.MaxInt - 1, math.MinInt, math.MinInt + 1}
)

// slotsOf returns how many slots an object has, as layer 5 defines it.
func slotsOf(x api.Type, n int) int {
	switch x.Kind {
	case 1:
		return x.Words
	case 3:
		return n * x.Words
	}
	return n
}

// sizeOf returns how many granules an object has: the header and the slots, two words each, rounded up.
func sizeOf(x api.Type, n int) int {
	return (1 + slotsOf(x, n) + 1) / 2
}

// isRef reports whether a slot is a reference, as layer 5 defines it.
func isRef(x api.Type, slot int) bool {
	switch x.Kind {
	case 1:
		return x.Mask>>slot%2 == 1
	case 3:
		return x.Mask>>(slot%x.Words)%2 == 1
	}
	return x.Kind == 2
}

// refsOf returns all slots of an object that are references.
func refsOf(x api.Type, n int) []int {
	var list []int
	for slot := range slotsOf(x, n) {
		if isRef(x, slot) {
			list = append(list, slot)
		}
	}
	return list
}

// lenErr returns the error of a length, as layer 5 tells it.
func lenErr(x api.Type, n int) api.Errno {
	switch {
	case n < 0, n > 0 && x.Kind == 1:
		return api.ErrArg
	case n > 4096:
		return api.ErrLong
	}
	return api.OK
}

// wordOf returns a header's word, put together by sums, as layer 7 defines it.
func wordOf(h api.Head) uint64 {
	return uint64(h.Tag) + 4*uint64(h.Type) + 65536*uint64(h.Len) + 1099511627776*uint64(h.Size)
}

// headOf returns the header whose word this is, and whether there is one.
func headOf(w uint64) (api.Head, bool) {
	h := api.Head{Tag: uint8(w % 4), Type: int(w / 4 % 4096), Len: int(w / 65536 % 16777216), Size: int(w / 1099511627776)}
	if w/16384%4 != 0 || h.Size == 0 || h.Tag == 0 || (h.Tag == 1) != (h.Type > 0) || h.Tag != 1 && h.Len > 0 {
		return api.Head{}, false
	}
	return h, true
}

// objectHead returns the header of an object of the list's type.
func objectHead(id, n int) api.Head {
	return api.Head{Tag: 1, Type: id, Len: n, Size: sizeOf(types[id-1], n)}
}

// lens returns lengths that objects of a type may have, the least and the greatest among them.
func lens(x api.Type) []int {
	if x.Kind == 1 {
		return []int{0}
	}
	return []int{0, 1, 2, 3, 4, 5, 6, 101, 4095, 4096}
}

// made returns a table with these types.
func made(t *testing.T, list ...api.Type) *table.Table {
	t.Helper()
	x, err := table.New(list...)
	if err != api.OK {
		t.Fatalf("New(%v): %d", list, err)
	}
	return x
}

// filled returns an arena whose words are all different, and no headers: two bits are 1 that no header has.
func filled(t *testing.T, words int) *arena.Arena {
	t.Helper()
	a, err := arena.New(words)
	if err != api.OK {
		t.Fatalf("New(%d): %d", words, err)
	}
	for i := range words {
		put(t, a, i, uint64(i+1)<<16|0xc000|uint64(i%4))
	}
	return a
}

// put makes a word of an arena w.
func put(t *testing.T, a *arena.Arena, i int, w uint64) {
	t.Helper()
	if err := a.Store(i, w); err != api.OK {
		t.Fatalf("Store(%d): %d", i, err)
	}
}

// wordsOf returns all words of an arena.
func wordsOf(t *testing.T, a *arena.Arena) []uint64 {
	t.Helper()
	list, err := a.Words(0, a.Len())
	if err != api.OK {
		t.Fatalf("Words: %d", err)
	}
	return list
}

// are reports an error unless these are the words of an arena.
func are(t *testing.T, a *arena.Arena, want []uint64) {
	t.Helper()
	got := wordsOf(t, a)
	for i := range want {
		if got[i] != want[i] {
			t.Fatalf("word %d: %x; want %x", i, got[i], want[i])
		}
	}
}

// untouched reports an error if what is done writes a word of an arena.
func untouched(t *testing.T, a *arena.Arena, do func()) {
	t.Helper()
	words, writes := wordsOf(t, a), a.Writes()
	do()
	are(t, a, words)
	if got := a.Writes(); got != writes {
		t.Fatalf("%d words were written", got-writes)
	}
}

// laid makes an object, and returns a view of it.
func laid(t *testing.T, a *arena.Arena, x *table.Table, g, id, n int) *shape.View {
	t.Helper()
	if err := shape.Make(a, x, g, id, n); err != api.OK {
		t.Fatalf("Make(%d, %d, %d): %d", g, id, n, err)
	}
	return viewed(t, a, x, g)
}

// viewed returns a view of the object at a granule.
func viewed(t *testing.T, a *arena.Arena, x *table.Table, g int) *shape.View {
	t.Helper()
	v, err := shape.Of(a, x, g)
	if v == nil || err != api.OK {
		t.Fatalf("Of(%d): %v, %d", g, v, err)
	}
	return v
}

// heads reports an error unless Head returns this.
func heads(t *testing.T, a *arena.Arena, g int, want api.Head, wantErr api.Errno) {
	t.Helper()
	if got, err := shape.Head(a, g); got != want || err != wantErr {
		t.Fatalf("Head(%d): %+v, %d; want %+v, %d", g, got, err, want, wantErr)
	}
}

// makes reports an error unless Make returns this.
func makes(t *testing.T, a *arena.Arena, x *table.Table, g, id, n int, want api.Errno) {
	t.Helper()
	if err := shape.Make(a, x, g, id, n); err != want {
		t.Fatalf("Make(%d, %d, %d): %d; want %d", g, id, n, err, want)
	}
}

// noView reports an error unless Of refuses the granule.
func noView(t *testing.T, a *arena.Arena, x *table.Table, g int, want api.Errno) {
	t.Helper()
	if v, err := shape.Of(a, x, g); v != nil || err != want {
		t.Fatalf("Of(%d): %v, %d; want nil, %d", g, v, err, want)
	}
}

// loads reports an error unless Load returns this.
func loads(t *testing.T, v *shape.View, slot int, want uint64) {
	t.Helper()
	if w, err := v.Load(slot); w != want || err != api.OK {
		t.Fatalf("Load(%d): %x, %d; want %x", slot, w, err, want)
	}
}

// stores reports an error unless Store takes this.
func stores(t *testing.T, v *shape.View, slot int, w uint64) {
	t.Helper()
	if err := v.Store(slot, w); err != api.OK {
		t.Fatalf("Store(%d): %d", slot, err)
	}
}

// noSlot reports an error unless all that is asked of a slot is refused.
func noSlot(t *testing.T, v *shape.View, slot int, want api.Errno) {
	t.Helper()
	if is, err := v.Ref(slot); is || err != want {
		t.Fatalf("Ref(%d): %v, %d; want false, %d", slot, is, err, want)
	}
	if w, err := v.Load(slot); w != 0 || err != want {
		t.Fatalf("Load(%d): %x, %d; want 0, %d", slot, w, err, want)
	}
	for _, w := range []uint64{0, 7, math.MaxUint64} {
		if err := v.Store(slot, w); err != want {
			t.Fatalf("Store(%d): %d; want %d", slot, err, want)
		}
	}
}

// tells reports an error unless a view tells of an object at g with these words behind its header.
func tells(t *testing.T, v *shape.View, g, id, n int, words []uint64) {
	t.Helper()
	x := types[id-1]
	if v.At() != g || v.Head() != objectHead(id, n) || v.Slots() != slotsOf(x, n) {
		t.Fatalf("At %d, Head %+v, Slots %d; want %d, %+v, %d", v.At(), v.Head(), v.Slots(), g, objectHead(id, n), slotsOf(x, n))
	}
	var targets []uint64
	for slot := range slotsOf(x, n) {
		if is, err := v.Ref(slot); is != isRef(x, slot) || err != api.OK {
			t.Fatalf("Ref(%d): %v, %d", slot, is, err)
		}
		loads(t, v, slot, words[slot])
		if isRef(x, slot) && words[slot] != 0 {
			targets = append(targets, words[slot])
		}
	}
	if list := v.Refs(); !slices.Equal(list, refsOf(x, n)) {
		t.Fatalf("Refs: %v; want %v", list, refsOf(x, n))
	}
	if list := v.Targets(); !slices.Equal(list, targets) {
		t.Fatalf("Targets: %x; want %x", list, targets)
	}
	noSlot(t, v, slotsOf(x, n), api.ErrArg)
	noSlot(t, v, slotsOf(x, n)+1, api.ErrArg)
	noSlot(t, v, -1, api.ErrArg)
}

// each calls do with each type's number, each length that is tried, and granules of the greatest arena where such an object may be, the first and the last one among them.
func each(do func(g, id, n int)) {
	for k, x := range types {
		for _, n := range lens(x) {
			last := mostGran - sizeOf(x, n)
			for _, g := range []int{0, 1, 2, last / 2, last - 1, last} {
				if g >= 0 && g <= last {
					do(g, k+1, n)
				}
			}
		}
	}
}

// P8.1: the addresses of the first granules, of the last one of the greatest arena, and of those about them.
func TestP8_1Addr(t *testing.T) {
	for _, c := range []struct {
		g    int
		want uint64
	}{
		{0, 0x100000}, {1, 0x100002}, {2, 0x100004}, {3, 0x100006}, {7, 0x10000e}, {8, 0x100010}, {255, 0x1001fe}, {256, 0x100200},
		{32766, 0x10fffc}, {32767, 0x10fffe}, {32768, 0x110000}, {32769, 0x110002}, {65535, 0x11fffe},
		{1<<19 - 1, 0x1ffffe}, {1 << 19, 0x200000}, {1<<19 + 1, 0x200002}, {1 << 32, 0x200100000}, {1 << 62, 0x8000000000100000}, {math.MaxInt - 1<<19, 0xfffffffffffffffe},
		{-1, 0}, {-2, 0}, {-1 << 19, 0}, {-1<<19 - 1, 0}, {-mostWord, 0}, {math.MinInt, 0}, {math.MinInt + 1, 0},
	} {
		if got := shape.Addr(c.g); got != c.want {
			t.Errorf("Addr(%d): %x; want %x", c.g, got, c.want)
		}
	}
}

// P8.1: the address of each granule is that of its first word, and the one behind it that of its second.
func TestP8_1AddrWord(t *testing.T) {
	for g := range mostGran {
		addr := shape.Addr(g)
		if addr != base+2*uint64(g) {
			t.Fatalf("Addr(%d): %x", g, addr)
		}
		for k := range 2 {
			if i, is := shape.Word(addr + uint64(k)); i != 2*g+k || !is {
				t.Fatalf("Word(%x): %d, %v; want %d", addr+uint64(k), i, is, 2*g+k)
			}
		}
	}
	for _, g := range wrongGrans {
		if i, is := shape.Word(shape.Addr(g)); i != 0 || is {
			t.Errorf("Word(Addr(%d)): %d, %v; want none", g, i, is)
		}
	}
}

// P8.1: the first address and the last one, those next to them, and some that no word has.
func TestP8_1Word(t *testing.T) {
	for _, c := range []struct {
		addr uint64
		i    int
		is   bool
	}{
		{0x100000, 0, true}, {0x100001, 1, true}, {0x100002, 2, true}, {0x10000f, 15, true}, {0x108000, 32768, true},
		{0x10fffe, 65534, true}, {0x10ffff, 65535, true}, {0x110000, 0, false}, {0x110001, 0, false},
		{0x0fffff, 0, false}, {0x0ffffe, 0, false}, {0, 0, false}, {1, 0, false}, {2, 0, false}, {65535, 0, false}, {65536, 0, false}, {0xf0000, 0, false},
		{0x200000, 0, false}, {0x300000, 0, false}, {0x100100000, 0, false}, {0x10000100000, 0, false}, {0x8000000000100000, 0, false}, {0x7fffffffffffffff, 0, false}, {0x8000000000000000, 0, false},
		{math.MaxUint64, 0, false}, {math.MaxUint64 - 1, 0, false}, {math.MaxUint64 - 0xfffff, 0, false}, {math.MaxUint64 - 0xeffff, 0, false},
	} {
		if i, is := shape.Word(c.addr); i != c.i || is != c.is {
			t.Errorf("Word(%x): %d, %v; want %d, %v", c.addr, i, is, c.i, c.is)
		}
	}
}

// P8.1: all addresses about those of an arena's words.
func TestP8_1WordEach(t *testing.T) {
	for addr := uint64(base - 70000); addr < base+140000; addr++ {
		want, wantIs := 0, false
		if addr >= base && addr < base+mostWord {
			want, wantIs = int(addr-base), true
		}
		if i, is := shape.Word(addr); i != want || is != wantIs {
			t.Fatalf("Word(%x): %d, %v; want %d, %v", addr, i, is, want, wantIs)
		}
	}
}

// P8.1: the header of each granule, in arenas of several sizes, each header another one.
func TestP8_1Head(t *testing.T) {
	for _, words := range []int{16, 18, 64, 1000, mostWord} {
		a := filled(t, words)
		want := make([]api.Head, words/2)
		for g := range want {
			want[g] = [...]api.Head{{Tag: 1, Type: 1 + g%4095, Len: g, Size: 1 + g}, {Tag: 2, Size: 1 + g}, {Tag: 3, Size: 1 + g}}[g%3]
			put(t, a, 2*g, wordOf(want[g]))
		}
		untouched(t, a, func() {
			for g := range want {
				heads(t, a, g, want[g], api.OK)
			}
			for _, g := range append([]int{words / 2, words/2 + 1, words, words + 1}, wrongGrans...) {
				heads(t, a, g, api.Head{}, api.ErrArg)
			}
		})
	}
}

// P8.1: a granule's header is that of its first word alone: where that is none, the other one and the next granule's do not count.
func TestP8_1HeadFirst(t *testing.T) {
	a := filled(t, 16)
	for g := range 8 {
		put(t, a, 2*g+1, wordOf(api.Head{Tag: 1, Type: 1, Size: 1}))
	}
	untouched(t, a, func() {
		for g := range 8 {
			heads(t, a, g, api.Head{}, api.ErrForm)
		}
	})
	put(t, a, 6, wordOf(api.Head{Tag: 3, Size: 2}))
	for g := range 8 {
		if g == 3 {
			heads(t, a, g, api.Head{Tag: 3, Size: 2}, api.OK)
		} else {
			heads(t, a, g, api.Head{}, api.ErrForm)
		}
	}
}

// P8.1: words that are no header's, and headers that no table has, or of which not all granules are there.
func TestP8_1HeadWords(t *testing.T) {
	for _, g := range []int{0, 3, 7} {
		a := filled(t, 16)
		for _, w := range []uint64{0, 1, 5, math.MaxUint64, 0x0000010000000000, 0x0000010000000001, 0x0000010000000006, 0x0000010000010003, 0x0000010000004005, 0x0000010000008002, 0x100000} {
			put(t, a, 2*g, w)
			heads(t, a, g, api.Head{}, api.ErrForm)
		}
		for _, h := range []api.Head{{Tag: 1, Type: 4095, Len: 1<<24 - 1, Size: 1<<24 - 1}, {Tag: 1, Type: 1, Size: 1}, {Tag: 1, Type: 1, Len: 1, Size: 9}, {Tag: 2, Size: 9}, {Tag: 3, Size: 1}, {Tag: 3, Size: 1<<24 - 1}} {
			put(t, a, 2*g, wordOf(h))
			heads(t, a, g, h, api.OK)
		}
	}
}

// P8.1: a nil arena is told ahead of the granule.
func TestP8_1HeadNil(t *testing.T) {
	for _, g := range append([]int{0, 1, 7}, wrongGrans...) {
		heads(t, nil, g, api.Head{}, api.ErrNil)
	}
}

// P8.2: the chapter's examples, and the words that they leave.
func TestP8_2Examples(t *testing.T) {
	a, x := filled(t, 16), made(t, api.Type{Kind: 2})
	want := wordsOf(t, a)
	makes(t, a, x, 1, 1, 3, api.OK)
	copy(want[2:], []uint64{0x0000020000030005, 0, 0, 0})
	are(t, a, want)
	untouched(t, a, func() { makes(t, a, x, 7, 1, 3, api.ErrArg) })
}

// P8.2: objects of each kind, with each length that is tried: the header, all other words of the granules 0, and no word beside.
func TestP8_2Make(t *testing.T) {
	x := made(t, types...)
	a := filled(t, mostWord)
	before := wordsOf(t, a)
	each(func(g, id, n int) {
		makes(t, a, x, g, id, n, api.OK)
		h := objectHead(id, n)
		want := slices.Clone(before)
		clear(want[2*g : 2*(g+h.Size)])
		want[2*g] = wordOf(h)
		are(t, a, want)
		heads(t, a, g, h, api.OK)
		for i := 2 * g; i < 2*(g+h.Size); i++ {
			put(t, a, i, before[i])
		}
	})
	if !slices.Equal(x.All(), types) {
		t.Error("the table is another one")
	}
}

// P8.2: each granule of small arenas, those about them, each type, and lengths up to those that have no room.
func TestP8_2Small(t *testing.T) {
	x := made(t, types...)
	for _, words := range []int{16, 18, 22} {
		for g := -3; g <= words/2+3; g++ {
			for id := 0; id <= len(types)+1; id++ {
				for n := -1; n <= words+1; n++ {
					smallMake(t, filled(t, words), x, g, id, n)
				}
			}
		}
	}
}

// smallMake makes an object, and holds what comes of it against the definition.
func smallMake(t *testing.T, a *arena.Arena, x *table.Table, g, id, n int) {
	t.Helper()
	var h api.Head
	want := api.ErrNone
	if id >= 1 && id <= len(types) {
		h, want = objectHead(id, n), lenErr(types[id-1], n)
	}
	if want == api.OK && (g < 0 || g+h.Size > a.Len()/2) {
		want = api.ErrArg
	}
	words, writes := wordsOf(t, a), a.Writes()
	makes(t, a, x, g, id, n, want)
	if want == api.OK {
		clear(words[2*g : 2*(g+h.Size)])
		words[2*g] = wordOf(h)
	} else if a.Writes() != writes {
		t.Fatalf("Make(%d, %d, %d) wrote", g, id, n)
	}
	are(t, a, words)
}

// P8.2: objects that end with the arena's last granule, and those that go beyond it by one.
func TestP8_2Last(t *testing.T) {
	x := made(t, types...)
	for _, c := range []struct{ words, g, id, n, size int }{
		{16, 7, bare, 0, 1}, {16, 0, refs, 15, 8}, {16, 0, refs, 14, 8}, {16, 1, refs, 13, 7}, {16, 6, three, 0, 2}, {16, 5, raw, 4, 3}, {16, 5, raw, 5, 3}, {16, 1, trios, 4, 7},
		{18, 8, refs, 1, 1}, {18, 0, raw, 17, 9}, {18, 7, pairs, 1, 2},
		{mostWord, mostGran - 1, bare, 0, 1}, {mostWord, mostGran - 2, refs, 3, 2}, {mostWord, mostGran - 2049, refs, 4096, 2049}, {mostWord, 7, wide, 4095, 32761},
	} {
		if got := sizeOf(types[c.id-1], c.n); got != c.size {
			t.Fatalf("%+v: the size is %d", c, got)
		}
		a := filled(t, c.words)
		untouched(t, a, func() {
			for k := 1; k <= c.size+1; k++ {
				makes(t, a, x, c.g+k, c.id, c.n, api.ErrArg)
			}
		})
		makes(t, a, x, c.g, c.id, c.n, api.OK)
		if c.g > 0 {
			makes(t, a, x, c.g-1, c.id, c.n, api.OK)
		}
	}
}

// P8.2: objects that no arena, or not this one, has room for.
func TestP8_2Great(t *testing.T) {
	x := made(t, types...)
	for _, c := range []struct{ words, id, n int }{{mostWord, wide, 4096}, {mostWord - 2, wide, 4096}, {16, refs, 16}, {16, raw, 4096}, {16, 7, 0}, {65520, wide, 4095}, {4096, raw, 4096}} {
		a := filled(t, c.words)
		untouched(t, a, func() {
			for _, g := range append([]int{0, 1, 7}, wrongGrans...) {
				makes(t, a, x, g, c.id, c.n, api.ErrArg)
			}
		})
	}
}

// P8.2: an object that is laid over others leaves of them what is beside its own granules.
func TestP8_2Over(t *testing.T) {
	a, x := filled(t, 32), made(t, types...)
	for _, g := range []int{0, 4, 8} {
		v := laid(t, a, x, g, refs, 7)
		for slot := range 7 {
			stores(t, v, slot, uint64(100*g+slot+1))
		}
	}
	want := wordsOf(t, a)
	makes(t, a, x, 3, raw, 2, api.OK)
	copy(want[6:], []uint64{wordOf(api.Head{Tag: 1, Type: raw, Len: 2, Size: 2}), 0, 0, 0})
	are(t, a, want)
	makes(t, a, x, 8, refs, 6, api.OK)
	copy(want[16:], []uint64{wordOf(api.Head{Tag: 1, Type: refs, Len: 6, Size: 4}), 0, 0, 0, 0, 0, 0, 0})
	are(t, a, want)
	makes(t, a, x, 8, bare, 0, api.OK)
	copy(want[16:], []uint64{wordOf(api.Head{Tag: 1, Type: bare, Size: 1}), 0})
	are(t, a, want)
}

// P8.2: an arena or a table that is nil is told ahead of all else; then the type, the length, and last the granule.
func TestP8_2Refused(t *testing.T) {
	x, a := made(t, types...), filled(t, 64)
	grans := append([]int{0, 1, 31, 32, 33}, wrongGrans...)
	untouched(t, a, func() {
		for _, g := range grans {
			for _, id := range append([]int{bare, refs, raw}, wrongIDs...) {
				for _, n := range append([]int{0, 1, 3}, wrongLens...) {
					makes(t, nil, x, g, id, n, api.ErrNil)
					makes(t, nil, nil, g, id, n, api.ErrNil)
					makes(t, a, nil, g, id, n, api.ErrNil)
					makes(t, a, made(t), g, id, n, api.ErrNone)
				}
			}
			for _, n := range append([]int{0, 1, 3}, wrongLens...) {
				for _, id := range wrongIDs {
					makes(t, a, x, g, id, n, api.ErrNone)
				}
			}
			for _, n := range wrongLens {
				for k, typ := range types {
					makes(t, a, x, g, k+1, n, lenErr(typ, n))
				}
			}
			makes(t, a, x, g, bare, 1, api.ErrArg)
			makes(t, a, x, g, three, 4096, api.ErrArg)
		}
		for _, g := range grans[2:] {
			makes(t, a, x, g, refs, 3, api.ErrArg)
			makes(t, a, x, g, raw, 4096, api.ErrArg)
		}
	})
	if !slices.Equal(x.All(), types) {
		t.Error("the table is another one")
	}
}

// P8.3: the chapter's example.
func TestP8_3Example(t *testing.T) {
	a := filled(t, 16)
	v := laid(t, a, made(t, api.Type{Kind: 2}), 1, 1, 3)
	stores(t, v, 0, 7)
	if list := v.Targets(); !slices.Equal(list, []uint64{7}) {
		t.Errorf("Targets: %v; want 7", list)
	}
	if w, err := a.Load(2); w != 0x0000020000030005 || err != api.OK {
		t.Errorf("word 2: %x, %d", w, err)
	}
	if w, err := a.Load(3); w != 7 || err != api.OK {
		t.Errorf("word 3: %x, %d; want 7", w, err)
	}
}

// P8.3: views of objects of each kind, with each length that is tried, new ones and such whose words are all different; nothing is written.
func TestP8_3View(t *testing.T) {
	x := made(t, types...)
	a := filled(t, mostWord)
	before := wordsOf(t, a)
	each(func(g, id, n int) {
		size := sizeOf(types[id-1], n)
		v := laid(t, a, x, g, id, n)
		tells(t, v, g, id, n, make([]uint64, 2*size-1))
		copyIn(t, a, 2*g+1, before[2*g+1:2*(g+size)])
		writes := a.Writes()
		tells(t, v, g, id, n, before[2*g+1:])
		tells(t, viewed(t, a, x, g), g, id, n, before[2*g+1:])
		if a.Writes() != writes {
			t.Fatalf("an object at %d: %d words were written", g, a.Writes()-writes)
		}
		copyIn(t, a, 2*g, before[2*g:2*g+1])
	})
	are(t, a, before)
}

// copyIn makes the words of an arena from the word i on those of the list.
func copyIn(t *testing.T, a *arena.Arena, i int, list []uint64) {
	t.Helper()
	for k, w := range list {
		put(t, a, i+k, w)
	}
}

// P8.3: what is at a granule of a small arena, for words of headers of all kinds, those that fit and those that don't: a view, or the error that the contract names first.
func TestP8_3Of(t *testing.T) {
	x := made(t, types...)
	for _, g := range []int{0, 1, 5, 7} {
		a := filled(t, 16)
		for tag := range uint8(4) {
			for _, id := range []int{0, 1, 2, 3, 4, 6, 9, 11, 12, 13, 14, 15, 16, 64, 4095} {
				for _, n := range []int{0, 1, 2, 3, 4, 5, 13, 14, 15, 16, 4096, 4097} {
					for _, size := range []int{0, 1, 2, 3, 4, 7, 8, 9, 32, 2049, 1<<24 - 1} {
						ofWord(t, a, x, g, wordOf(api.Head{Tag: tag, Type: id, Len: n, Size: size}))
					}
				}
			}
		}
	}
}

// ofWord asks for a view of what has this word at a granule, and holds it against the definition.
func ofWord(t *testing.T, a *arena.Arena, x *table.Table, g int, w uint64) {
	t.Helper()
	put(t, a, 2*g, w)
	h, is := headOf(w)
	switch {
	case !is:
		heads(t, a, g, api.Head{}, api.ErrForm)
		noView(t, a, x, g, api.ErrForm)
		noView(t, a, nil, g, api.ErrForm)
	case h.Tag != 1 || h.Type > len(types) || lenErr(types[h.Type-1], h.Len) != api.OK || h != objectHead(h.Type, h.Len) || g+h.Size > a.Len()/2:
		heads(t, a, g, h, api.OK)
		noView(t, a, x, g, api.ErrType)
		noView(t, a, nil, g, api.ErrType)
	default:
		heads(t, a, g, h, api.OK)
		tells(t, viewed(t, a, x, g), g, h.Type, h.Len, wordsOf(t, a)[2*g+1:])
		noView(t, a, nil, g, api.ErrType)
		noView(t, a, made(t), g, api.ErrType)
	}
}

// P8.3: granules without an object, each for one reason alone.
func TestP8_3NoObject(t *testing.T) {
	x := made(t, types...)
	for _, c := range []struct {
		g    int
		head api.Head
	}{
		{0, api.Head{Tag: 2, Size: 1}}, {7, api.Head{Tag: 2, Size: 1}}, {0, api.Head{Tag: 3, Size: 8}}, {0, api.Head{Tag: 3, Size: 1}}, {3, api.Head{Tag: 3, Size: 5}},
		{0, api.Head{Tag: 1, Type: 16, Size: 1}}, {0, api.Head{Tag: 1, Type: 4095, Size: 1}},
		{0, api.Head{Tag: 1, Type: refs, Len: 3, Size: 1}}, {0, api.Head{Tag: 1, Type: refs, Len: 3, Size: 3}}, {0, api.Head{Tag: 1, Type: bare, Size: 2}},
		{0, api.Head{Tag: 1, Type: bare, Len: 1, Size: 1}}, {0, api.Head{Tag: 1, Type: raw, Len: 4097, Size: 2049}},
		{7, api.Head{Tag: 1, Type: refs, Len: 3, Size: 2}}, {1, api.Head{Tag: 1, Type: refs, Len: 15, Size: 8}}, {0, api.Head{Tag: 1, Type: refs, Len: 17, Size: 9}}, {0, api.Head{Tag: 1, Type: refs, Len: 4096, Size: 2049}},
	} {
		a := filled(t, 16)
		put(t, a, 2*c.g, wordOf(c.head))
		untouched(t, a, func() { noView(t, a, x, c.g, api.ErrType) })
	}
}

// P8.3: an arena that is nil, a granule that is not there, and a word that is no header are told ahead of a table that is nil.
func TestP8_3OfRefused(t *testing.T) {
	for _, x := range []*table.Table{nil, made(t), made(t, types...)} {
		for _, words := range []int{16, mostWord} {
			a := filled(t, words)
			put(t, a, 0, wordOf(objectHead(refs, 3)))
			put(t, a, words-2, wordOf(objectHead(bare, 0)))
			untouched(t, a, func() {
				for _, g := range append([]int{words / 2, words/2 + 1, words}, wrongGrans...) {
					noView(t, a, x, g, api.ErrArg)
				}
				noView(t, a, x, 1, api.ErrForm)
			})
		}
		for _, g := range append([]int{0, 1, 7}, wrongGrans...) {
			noView(t, nil, x, g, api.ErrNil)
		}
	}
}

// P8.3: an object is at its own granule alone, and at the last granule if it has one granule.
func TestP8_3Granules(t *testing.T) {
	a, x := filled(t, 16), made(t, types...)
	laid(t, a, x, 0, raw, 5)
	laid(t, a, x, 5, refs, 4)
	for g := range 8 {
		switch g {
		case 0:
			tells(t, viewed(t, a, x, g), 0, raw, 5, make([]uint64, 5))
		case 5:
			tells(t, viewed(t, a, x, g), 5, refs, 4, make([]uint64, 5))
		default:
			noView(t, a, x, g, api.ErrForm)
		}
	}
	tells(t, laid(t, a, x, 7, 2, 0), 7, 2, 0, []uint64{0})
	tells(t, laid(t, a, x, 7, bare, 0), 7, bare, 0, nil)
	tells(t, laid(t, a, x, 7, raw, 0), 7, raw, 0, nil)
}

// P8.3: slots that are not there, of objects with no slot, and with an odd and an even number of them.
func TestP8_3NoSlot(t *testing.T) {
	a, x := filled(t, 256), made(t, types...)
	for k := range types {
		for _, n := range lens(types[k]) {
			if n > 5 {
				break
			}
			v := laid(t, a, x, 3, k+1, n)
			put(t, a, 2*(3+sizeOf(types[k], n)), 99)
			untouched(t, a, func() {
				slots := slotsOf(types[k], n)
				for _, slot := range append([]int{slots, slots + 1, slots + 2, slots + 3, -slots - 1, 256}, wrongSlots...) {
					noSlot(t, v, slot, api.ErrArg)
				}
			})
		}
	}
}

// P8.3: each slot of an object, one after the other, becomes what is stored, and no other word does.
func TestP8_3Store(t *testing.T) {
	a, x := filled(t, 400), made(t, types...)
	for k := range types {
		for _, n := range lens(types[k]) {
			if n > 101 || slotsOf(types[k], n) > 350 {
				break
			}
			v := laid(t, a, x, 11, k+1, n)
			want := wordsOf(t, a)
			for slot := range v.Slots() {
				w := uint64(slot+1) * 0x9e3779b97f4a7c15
				stores(t, v, slot, w)
				want[23+slot] = w
				loads(t, v, slot, w)
				are(t, a, want)
			}
			tells(t, v, 11, k+1, n, want[23:])
			storesZeros(t, v)
			tells(t, v, 11, k+1, n, make([]uint64, v.Slots()))
		}
	}
}

// storesZeros makes all slots 0.
func storesZeros(t *testing.T, v *shape.View) {
	t.Helper()
	for slot := range v.Slots() {
		stores(t, v, slot, 0)
	}
}

// P8.3: Targets are in the order of the slots, without those that are 0, each as often as it stands there, and without words that are no references.
func TestP8_3Targets(t *testing.T) {
	a, x := filled(t, 64), made(t, types...)
	for _, c := range []struct {
		id, n       int
		words, want []uint64
	}{
		{refs, 0, nil, nil},
		{refs, 1, []uint64{0}, nil},
		{refs, 1, []uint64{1}, []uint64{1}},
		{refs, 6, []uint64{0, 5, 0, 0, 3, 0}, []uint64{5, 3}},
		{refs, 5, []uint64{9, 0, 9, 1, 9}, []uint64{9, 9, 1, 9}},
		{refs, 4, []uint64{math.MaxUint64, 1 << 63, 0, 1}, []uint64{math.MaxUint64, 1 << 63, 1}},
		{raw, 4, []uint64{base, base + 2, 1, 2}, nil},
		{three, 0, []uint64{0, 7, 8}, []uint64{8}},
		{three, 0, []uint64{6, 7, 0}, []uint64{6}},
		{three, 0, []uint64{0, 7, 0}, nil},
		{pairs, 3, []uint64{1, 2, 3, 0, 5, 6}, []uint64{2, 6}},
		{trios, 2, []uint64{1, 2, 3, 0, 5, 6}, []uint64{1, 3, 6}},
		{5, 0, []uint64{1, 2, 3, 4, 5}, nil},
	} {
		v := laid(t, a, x, 4, c.id, c.n)
		for slot, w := range c.words {
			stores(t, v, slot, w)
		}
		untouched(t, a, func() {
			if list := v.Targets(); !slices.Equal(list, c.want) {
				t.Errorf("Targets of %d, %v: %v; want %v", c.id, c.words, list, c.want)
			}
		})
	}
}

// P8.3: a view and another one of the same object, and the arena, are told of what each of them writes; a copy of the arena is not.
func TestP8_3Shared(t *testing.T) {
	a, x := filled(t, 16), made(t, types...)
	v := laid(t, a, x, 2, refs, 4)
	other := viewed(t, a, x, 2)
	c := a.Copy()
	copied := viewed(t, c, x, 2)
	stores(t, v, 3, 31)
	loads(t, other, 3, 31)
	loads(t, v, 3, 31)
	put(t, a, 6, 21)
	loads(t, v, 1, 21)
	loads(t, other, 1, 21)
	stores(t, other, 0, 11)
	for i, w := range []uint64{11, 21, 0, 31} {
		if got, err := a.Load(5 + i); got != w || err != api.OK {
			t.Errorf("word %d: %d, %d; want %d", 5+i, got, err, w)
		}
	}
	for _, u := range []*shape.View{v, other} {
		if list := u.Targets(); !slices.Equal(list, []uint64{11, 21, 31}) {
			t.Errorf("Targets: %v", list)
		}
	}
	tells(t, copied, 2, refs, 4, make([]uint64, 4))
	stores(t, copied, 2, 77)
	loads(t, v, 2, 0)
}

// P8.3: a view stays that of the object it was made of, whatever is written over its header; its words are those that stand there now.
func TestP8_3AsMade(t *testing.T) {
	for _, w := range []uint64{0, math.MaxUint64, wordOf(api.Head{Tag: 3, Size: 5}), wordOf(api.Head{Tag: 1, Type: raw, Len: 8, Size: 5}), wordOf(api.Head{Tag: 1, Type: refs, Len: 1, Size: 1})} {
		a, x := filled(t, 64), made(t, types...)
		v := laid(t, a, x, 6, trios, 2)
		put(t, a, 12, w)
		untouched(t, a, func() { tells(t, v, 6, trios, 2, make([]uint64, 6)) })
		want := []uint64{5, 0, 0, 0, 0, 9}
		stores(t, v, 0, 5)
		stores(t, v, 5, 9)
		tells(t, v, 6, trios, 2, want)
		if got, err := a.Load(12); got != w || err != api.OK {
			t.Errorf("word 12: %x, %d; want %x", got, err, w)
		}
	}
}

// P8.3: an object that is laid where another one was is told by a new view alone.
func TestP8_3Anew(t *testing.T) {
	a, x := filled(t, 64), made(t, types...)
	old := laid(t, a, x, 6, refs, 5)
	stores(t, old, 4, 44)
	v := laid(t, a, x, 6, raw, 2)
	tells(t, v, 6, raw, 2, []uint64{0, 0})
	tells(t, old, 6, refs, 5, []uint64{0, 0, 0, 0, 44})
	stores(t, v, 1, 22)
	tells(t, old, 6, refs, 5, []uint64{0, 22, 0, 0, 44})
}

// P8.3: types that the table is given later make objects of what was none, and leave each view as it is.
func TestP8_3Added(t *testing.T) {
	a, x := filled(t, 64), made(t, types[:bare]...)
	c := x.Copy()
	v := laid(t, a, x, 0, bare, 0)
	put(t, a, 4, wordOf(api.Head{Tag: 1, Type: 2, Size: 1}))
	noView(t, a, x, 2, api.ErrType)
	if id, err := x.Add(types[1]); id != 2 || err != api.OK {
		t.Fatalf("Add: %d, %d", id, err)
	}
	tells(t, viewed(t, a, x, 2), 2, 2, 0, wordsOf(t, a)[5:6])
	tells(t, v, 0, bare, 0, nil)
	noView(t, a, c, 2, api.ErrType)
}

// P8.3: what is written into the lists that Refs and Targets return, and behind them, changes nothing.
func TestP8_3Lists(t *testing.T) {
	a, x := filled(t, 64), made(t, types...)
	for _, c := range []struct{ id, n int }{{refs, 5}, {three, 0}, {pairs, 6}, {trios, 3}} {
		v := laid(t, a, x, 1, c.id, c.n)
		words := make([]uint64, v.Slots())
		for slot := range words {
			words[slot] = uint64(1000 + slot)
			stores(t, v, slot, words[slot])
		}
		untouched(t, a, func() {
			slots, targets := v.Refs(), v.Targets()
			slots2, targets2 := v.Refs(), v.Targets()
			for k := range slots {
				slots[k], targets[k] = -1, 0
			}
			for _, list := range [][]int{slots[:cap(slots)], append(slots, -2)} {
				clear(list)
			}
			for _, list := range [][]uint64{targets[:cap(targets)], append(targets, 3)} {
				clear(list)
			}
			tells(t, v, 1, c.id, c.n, words)
			if !slices.Equal(slots2, v.Refs()) || !slices.Equal(targets2, v.Targets()) {
				t.Errorf("two lists share: %v, %v", slots2, targets2)
			}
		})
	}
}

// P8.3: each method of a nil view.
func TestP8_3Nil(t *testing.T) {
	var v *shape.View
	if v.At() != 0 || v.Head() != (api.Head{}) || v.Slots() != 0 || len(v.Refs()) != 0 || len(v.Targets()) != 0 {
		t.Errorf("a nil view: %d, %+v, %d, %v, %v", v.At(), v.Head(), v.Slots(), v.Refs(), v.Targets())
	}
	for _, slot := range append([]int{0, 1, 2, 4096}, wrongSlots...) {
		noSlot(t, v, slot, api.ErrNil)
	}
}

// P8.3: a view is of its own arena, and of its own granule, also where others have the same object.
func TestP8_3Apart(t *testing.T) {
	x := made(t, types...)
	a, b := filled(t, 64), filled(t, 64)
	va, vb := laid(t, a, x, 3, refs, 3), laid(t, b, x, 3, refs, 3)
	next := laid(t, a, x, 5, refs, 3)
	stores(t, va, 0, 1)
	stores(t, vb, 1, 2)
	stores(t, next, 2, 3)
	tells(t, va, 3, refs, 3, []uint64{1, 0, 0})
	tells(t, vb, 3, refs, 3, []uint64{0, 2, 0})
	tells(t, next, 5, refs, 3, []uint64{0, 0, 3})
}

// P8.4: a new object has only words 0, and refers to nothing, whatever stood there.
func TestP8_4New(t *testing.T) {
	x := made(t, types...)
	for k := range types {
		for _, n := range lens(types[k]) {
			size := sizeOf(types[k], n)
			if size > mostGran-1 {
				continue
			}
			a := filled(t, 2*max(size+1, 8))
			v := laid(t, a, x, 1, k+1, n)
			if list := v.Targets(); len(list) != 0 {
				t.Fatalf("a new object of %d, %d refers to %v", k+1, n, list)
			}
			for slot := range v.Slots() {
				loads(t, v, slot, 0)
			}
		}
	}
}

// P8.4: whatever is made and stored, in whichever order, each Load returns what was stored into the slot, and each word of the arena is what it must be.
func TestP8_4Steps(t *testing.T) {
	x := made(t, types...)
	for _, words := range []int{16, 64, 130} {
		a := filled(t, words)
		want := wordsOf(t, a)
		views := map[int]*shape.View{}
		var at []int
		next := picker(uint64(words))
		for range 4000 {
			if len(at) == 0 || next(8) == 0 {
				g, id, n := next(words/2), 1+next(len(types)), next(5)
				size := sizeOf(types[id-1], n)
				if lenErr(types[id-1], n) != api.OK || g+size > words/2 {
					continue
				}
				views[g] = laid(t, a, x, g, id, n)
				at = append(at, g)
				clear(want[2*g : 2*(g+size)])
				want[2*g] = wordOf(objectHead(id, n))
			} else {
				g := at[next(len(at))]
				slot, w := next(8), uint64(next(4)*next(1<<30))
				if slot >= views[g].Slots() {
					noSlot(t, views[g], slot, api.ErrArg)
				} else {
					stores(t, views[g], slot, w)
					loads(t, views[g], slot, w)
					want[2*g+1+slot] = w
				}
			}
			are(t, a, want)
		}
	}
}

// picker returns a function that returns numbers below n, each of which follows from those before it.
func picker(x uint64) func(n int) int {
	return func(n int) int {
		x = x*6364136223846793005 + 1442695040888963407
		return int(x >> 33 % uint64(n))
	}
}

// P8.4: a slot that is stored into leaves each other slot, and the neighbours of the object, as they were.
func TestP8_4Others(t *testing.T) {
	a, x := filled(t, mostWord), made(t, types...)
	for _, c := range []struct{ g, id, n int }{{0, wide, 4095}, {7, wide, 4095}, {mostGran - 2049, raw, 4096}, {100, trios, 4096}, {1, 7, 0}} {
		v := laid(t, a, x, c.g, c.id, c.n)
		want := wordsOf(t, a)
		for _, slot := range []int{0, 1, v.Slots() / 2, v.Slots() - 2, v.Slots() - 1} {
			w := uint64(slot)<<32 + 5
			stores(t, v, slot, w)
			want[2*c.g+1+slot] = w
			are(t, a, want)
			loads(t, v, slot, w)
		}
	}
}
