package head_test

import (
	"math"
	"slices"
	"testing"

	"skerry/api"
	"skerry/head"
	"skerry/table"
)

// The limits, and the tags, as the chapter tells them.
const (
	object, filler, free = 1, 2, 3

	maxType = 4095
	maxLen  = 1<<24 - 1
	maxSize = 1<<24 - 1
)

// Values that a field is tried with: the edges, single bits, patterns, and such as may not be.
var (
	someTypes = []int{0, 1, 2, 3, 4, 63, 64, 65, 0x555, 0x800, 0xaaa, maxType - 1, maxType, maxType + 1, maxType + 2, 1 << 14, 1 << 32, 1<<32 + 1, math.MaxInt, -1, -maxType, -maxType - 1, 1 - 1<<32, math.MinInt, math.MinInt + 1}
	someLens  = []int{0, 1, 2, 3, 4095, 4096, 4097, 0x555555, 0x800000, 0xaaaaaa, maxLen - 1, maxLen, maxLen + 1, maxLen + 2, 1 << 32, 1<<32 + 1, 1 << 40, math.MaxInt, -1, -maxLen, -maxLen - 1, 1 - 1<<32, math.MinInt, math.MinInt + 1}
	someSizes = []int{0, 1, 2, 3, 4095, 32769, 65536, 0x555555, 0x800000, 0xaaaaaa, maxSize - 1, maxSize, maxSize + 1, maxSize + 2, 1 << 32, 1<<32 + 1, 1 << 40, math.MaxInt, -1, -maxSize, -maxSize - 1, 1 - 1<<32, math.MinInt, math.MinInt + 1}
	someTags  = []uint8{0, 1, 2, 3, 4, 5, 6, 7, 8, 127, 128, 129, 130, 131, 254, 255}
)

// Numbers and lengths that a table is asked with.
var (
	someIDs    = []int{0, 1, 2, 3, 4, 5, 6, 7, 8, 9, 63, 64, 65, 256, 257, 258, maxType, maxType + 1, maxType + 2, 1<<32 + 1, math.MaxInt, -1, -2, -64, 1 - 1<<32, math.MinInt, math.MinInt + 1}
	someAskLen = []int{0, 1, 2, 3, 4, 5, 100, 4094, 4095, 4096, 4097, 1 << 24, 1 << 32, math.MaxInt, -1, -2, -4096, math.MinInt}
)

// types are of each kind: those of the least and of the greatest objects, and one with references and others.
var types = []api.Type{
	{Kind: 1}, {Kind: 1, Words: 64, Mask: 1 << 63}, {Kind: 2}, {Kind: 3, Words: 1}, {Kind: 3, Words: 16, Mask: 0x8001}, {Kind: 4}, {Kind: 1, Words: 3, Mask: 2},
}

// isValid reports whether a header is valid, as the chapter's definition goes.
func isValid(h api.Head) bool {
	if h.Size < 1 || h.Size > 16777215 || h.Len < 0 || h.Len > 16777215 {
		return false
	}
	if h.Tag == 1 {
		return h.Type >= 1 && h.Type <= 4095
	}
	return (h.Tag == 2 || h.Tag == 3) && h.Type == 0 && h.Len == 0
}

// wordOf returns a valid header's word, put together by sums.
func wordOf(h api.Head) uint64 {
	return uint64(h.Tag) + 4*uint64(h.Type) + 65536*uint64(h.Len) + 1099511627776*uint64(h.Size)
}

// headOf returns the header whose word this is, and whether there is one, found by divisions.
func headOf(w uint64) (api.Head, bool) {
	h := api.Head{Tag: uint8(w % 4), Type: int(w / 4 % 4096), Len: int(w / 65536 % 16777216), Size: int(w / 1099511627776)}
	if w/16384%4 != 0 || !isValid(h) {
		return api.Head{}, false
	}
	return h, true
}

// matches reports whether a valid header matches a table, or none.
func matches(x *table.Table, h api.Head) bool {
	size, err := x.Size(h.Type, h.Len)
	return h.Tag != object || err == api.OK && size == h.Size
}

// made returns a table with these types.
func made(t *testing.T, list []api.Type) *table.Table {
	t.Helper()
	x, err := table.New(list...)
	if err != api.OK {
		t.Fatalf("New(%v): %d", list, err)
	}
	return x
}

// taken reports an error unless h is valid, and this is its word.
func taken(t *testing.T, h api.Head, w uint64) {
	t.Helper()
	if err := head.Check(h); err != api.OK {
		t.Fatalf("Check(%+v): %d", h, err)
	}
	if got, err := head.Encode(h); got != w || err != api.OK {
		t.Fatalf("Encode(%+v): %016x, %d; want %016x", h, got, err, w)
	}
	if got, err := head.Decode(w); got != h || err != api.OK {
		t.Fatalf("Decode(%016x): %+v, %d; want %+v", w, got, err, h)
	}
}

// refused reports an error unless h is refused, whatever the table is.
func refused(t *testing.T, h api.Head, tables ...*table.Table) {
	t.Helper()
	if err := head.Check(h); err != api.ErrArg {
		t.Fatalf("Check(%+v): %d; want an ErrArg", h, err)
	}
	if w, err := head.Encode(h); w != 0 || err != api.ErrArg {
		t.Fatalf("Encode(%+v): %x, %d; want 0, ErrArg", h, w, err)
	}
	for _, x := range append(tables, nil) {
		if err := head.Fits(x, h); err != api.ErrArg {
			t.Fatalf("Fits(%v, %+v): %d; want an ErrArg", x, h, err)
		}
	}
}

// noWord reports an error unless w is the word of no header.
func noWord(t *testing.T, w uint64) {
	t.Helper()
	if h, err := head.Decode(w); h != (api.Head{}) || err != api.ErrForm {
		t.Fatalf("Decode(%016x): %+v, %d; want an ErrForm", w, h, err)
	}
}

// fits reports an error unless Fits returns this.
func fits(t *testing.T, x *table.Table, h api.Head, want api.Errno) {
	t.Helper()
	if err := head.Fits(x, h); err != want {
		t.Fatalf("Fits(%v, %+v): %d; want %d", x, h, err, want)
	}
}

// someWords returns words that fields of all kinds make, those of no header among them.
func someWords() []uint64 {
	var list []uint64
	for _, size := range []uint64{0, 1, 2, 0x555555, 0x800000, 0xaaaaaa, 0xffffff} {
		for _, n := range []uint64{0, 1, 2, 0x555555, 0x800000, 0xaaaaaa, 0xffffff} {
			for between := range uint64(4) {
				for _, id := range []uint64{0, 1, 2, 0x555, 0x800, 0xaaa, 0xfff} {
					for tag := range uint64(4) {
						list = append(list, size<<40|n<<16|between<<14|id<<2|tag)
					}
				}
			}
		}
	}
	return list
}

// steps returns n words, of which each follows from the one before it.
func steps(n int) []uint64 {
	list := make([]uint64, n)
	x := uint64(7)
	for k := range list {
		x = x*6364136223846793005 + 1442695040888963407
		list[k] = x ^ x>>29
	}
	return list
}

// P7.1: the chapter's examples.
func TestP7_1Examples(t *testing.T) {
	taken(t, api.Head{Tag: api.TagFree, Size: 1}, 0x0000010000000003)
	taken(t, api.Head{Tag: api.TagObject, Type: 2, Len: 3, Size: 2}, 0x0000020000030009)
}

// P7.1: the edges of each field, for each Tag, with their words written out.
func TestP7_1Edges(t *testing.T) {
	for _, c := range []struct {
		head api.Head
		word uint64
	}{
		{api.Head{Tag: object, Type: 1, Size: 1}, 0x0000010000000005},
		{api.Head{Tag: object, Type: 1, Size: maxSize}, 0xffffff0000000005},
		{api.Head{Tag: object, Type: 1, Len: 1, Size: 1}, 0x0000010000010005},
		{api.Head{Tag: object, Type: 1, Len: maxLen, Size: 1}, 0x000001ffffff0005},
		{api.Head{Tag: object, Type: maxType, Size: 1}, 0x0000010000003ffd},
		{api.Head{Tag: object, Type: maxType - 1, Size: 1}, 0x0000010000003ff9},
		{api.Head{Tag: object, Type: maxType, Len: maxLen, Size: maxSize}, 0xffffffffffff3ffd},
		{api.Head{Tag: object, Type: maxType, Len: maxLen, Size: 1}, 0x000001ffffff3ffd},
		{api.Head{Tag: object, Type: maxType, Size: maxSize}, 0xffffff0000003ffd},
		{api.Head{Tag: object, Type: 1, Len: maxLen, Size: maxSize}, 0xffffffffffff0005},
		{api.Head{Tag: object, Type: 0x123, Len: 0x456789, Size: 0xabcdef}, 0xabcdef456789048d},
		{api.Head{Tag: filler, Size: 1}, 0x0000010000000002},
		{api.Head{Tag: filler, Size: 2}, 0x0000020000000002},
		{api.Head{Tag: filler, Size: maxSize}, 0xffffff0000000002},
		{api.Head{Tag: free, Size: 2}, 0x0000020000000003},
		{api.Head{Tag: free, Size: maxSize - 1}, 0xfffffe0000000003},
		{api.Head{Tag: free, Size: maxSize}, 0xffffff0000000003},
	} {
		taken(t, c.head, c.word)
	}
}

// P7.1: where each bit of each field stands.
func TestP7_1Bits(t *testing.T) {
	for k := range 12 {
		taken(t, api.Head{Tag: object, Type: 1 << k, Size: 1}, 1<<40|1<<(2+k)|1)
		taken(t, api.Head{Tag: object, Type: maxType - 1<<k, Len: maxLen, Size: maxSize}, 0xffffffffffff3ffd-1<<(2+k))
	}
	for k := range 24 {
		taken(t, api.Head{Tag: object, Type: 1, Len: 1 << k, Size: 1}, 1<<40|1<<(16+k)|5)
		taken(t, api.Head{Tag: object, Type: maxType, Len: maxLen - 1<<k, Size: maxSize}, 0xffffffffffff3ffd-1<<(16+k))
		taken(t, api.Head{Tag: object, Type: 1, Size: 1 << k}, 1<<(40+k)|5)
		taken(t, api.Head{Tag: object, Type: maxType, Len: maxLen, Size: maxSize - 1<<k}, 0xffffffffffff3ffd-1<<(40+k))
		for tag := range uint8(2) {
			taken(t, api.Head{Tag: filler + tag, Size: 1 << k}, 1<<(40+k)|uint64(2+tag))
			taken(t, api.Head{Tag: filler + tag, Size: maxSize - 1<<k}, 0xffffff0000000000-1<<(40+k)|uint64(2+tag))
		}
	}
}

// P7.1: headers that are not valid for one reason alone.
func TestP7_1Refused(t *testing.T) {
	x := made(t, types)
	for _, h := range []api.Head{
		{}, {Size: 1}, {Type: 1, Size: 1}, {Tag: 4, Size: 1}, {Tag: 4, Type: 1, Size: 1}, {Tag: 5, Type: 1, Size: 1}, {Tag: 6, Size: 1}, {Tag: 7, Size: 1}, {Tag: 255, Size: 1}, {Tag: 129, Type: 1, Size: 1}, {Tag: 130, Size: 1},
		{Tag: object, Type: 1}, {Tag: object, Type: 1, Size: maxSize + 1}, {Tag: object, Type: 1, Size: maxSize + 2}, {Tag: object, Type: 1, Size: -1}, {Tag: object, Type: 1, Size: 1<<32 + 1}, {Tag: object, Type: 1, Size: math.MaxInt}, {Tag: object, Type: 1, Size: math.MinInt}, {Tag: object, Type: 1, Size: math.MinInt + 1},
		{Tag: object, Type: 1, Len: -1, Size: 1}, {Tag: object, Type: 1, Len: maxLen + 1, Size: 1}, {Tag: object, Type: 1, Len: -maxLen, Size: 1}, {Tag: object, Type: 1, Len: 1 << 32, Size: 1}, {Tag: object, Type: 1, Len: math.MaxInt, Size: 1}, {Tag: object, Type: 1, Len: math.MinInt, Size: 1},
		{Tag: object, Size: 1}, {Tag: object, Type: maxType + 1, Size: 1}, {Tag: object, Type: maxType + 2, Size: 1}, {Tag: object, Type: -1, Size: 1}, {Tag: object, Type: -maxType, Size: 1}, {Tag: object, Type: 1<<32 + 1, Size: 1}, {Tag: object, Type: math.MaxInt, Size: 1}, {Tag: object, Type: math.MinInt, Size: 1},
		{Tag: filler}, {Tag: filler, Size: -1}, {Tag: filler, Size: maxSize + 1}, {Tag: filler, Size: math.MinInt}, {Tag: filler, Type: 1, Size: 1}, {Tag: filler, Type: -1, Size: 1}, {Tag: filler, Type: maxType, Size: 1}, {Tag: filler, Type: maxType + 1, Size: 1}, {Tag: filler, Len: 1, Size: 1}, {Tag: filler, Len: -1, Size: 1}, {Tag: filler, Len: maxLen, Size: 1}, {Tag: filler, Len: maxLen + 1, Size: 1},
		{Tag: free}, {Tag: free, Size: -1}, {Tag: free, Size: maxSize + 1}, {Tag: free, Size: math.MaxInt}, {Tag: free, Type: 1, Size: 1}, {Tag: free, Type: -1, Size: 1}, {Tag: free, Type: maxType, Size: 1}, {Tag: free, Type: maxType + 1, Size: 1}, {Tag: free, Len: 1, Size: 1}, {Tag: free, Len: -1, Size: 1}, {Tag: free, Len: maxLen, Size: 1}, {Tag: free, Len: maxLen + 1, Size: 1},
	} {
		refused(t, h, x)
	}
}

// P7.1: each Tag there may be, with each other field as it is tried, against the definition.
func TestP7_1Check(t *testing.T) {
	x := made(t, types)
	for tag := range 256 {
		for _, id := range someTypes {
			for _, n := range someLens {
				for _, size := range someSizes {
					h := api.Head{Tag: uint8(tag), Type: id, Len: n, Size: size}
					if isValid(h) {
						taken(t, h, wordOf(h))
					} else {
						refused(t, h, x)
					}
				}
			}
		}
	}
}

// P7.1: words of no header, each for one reason alone: no Tag, Size 0, no Type, a Type or Len too many, or a bit that no field has.
func TestP7_1NoWord(t *testing.T) {
	for _, w := range []uint64{
		0, math.MaxUint64,
		0x0000010000000000, 0x0000010000000004, 0x0000020000030008, 0xffffffffffff3ffc,
		0x0000000000000005, 0x0000000000000002, 0x0000000000000003, 0x000000ffffff3ffd,
		0x0000010000000001, 0x0000020000030001, 0xffffffffffff0001,
		0x0000010000000006, 0x0000010000002002, 0x0000010000003ffe, 0x0000010000010002, 0x0000018000000002, 0x000001ffffff0002,
		0x0000010000000007, 0x0000010000002003, 0x0000010000003fff, 0x0000010000010003, 0x0000018000000003, 0x000001ffffff0003,
		0x0000010000004005, 0x0000010000008005, 0x000001000000c005, 0xffffffffffff7ffd, 0xffffffffffffbffd, 0xfffffffffffffffd,
		0x0000010000004002, 0x0000010000008002, 0x000001000000c002, 0x0000010000004003, 0x0000010000008003, 0x000001000000c003,
	} {
		noWord(t, w)
	}
}

// P7.1: no word of a single bit is a header's, nor one that lacks a single one.
func TestP7_1SingleBit(t *testing.T) {
	for k := range 64 {
		noWord(t, 1<<k)
		noWord(t, math.MaxUint64-1<<k)
	}
}

// P7.1: words of which each field is as it is tried, words that differ from them by one bit, and many others, against the definition.
func TestP7_1Decode(t *testing.T) {
	decodes := func(w uint64) {
		if h, is := headOf(w); is {
			taken(t, h, w)
		} else {
			noWord(t, w)
		}
	}
	for _, w := range someWords() {
		decodes(w)
		for k := range 64 {
			decodes(w ^ 1<<k)
		}
	}
	for _, w := range steps(100000) {
		decodes(w)
		decodes(w &^ 0xc000)
		decodes(w & 0xffffff0000000003)
		decodes(w & 3)
		decodes(w &^ 3)
	}
}

// P7.2: the header of the least and of the greatest object of each kind, written out, and what is refused.
func TestP7_2Of(t *testing.T) {
	x := made(t, types)
	for _, c := range []struct {
		id, n, size int
		err         api.Errno
	}{
		{1, 0, 1, api.OK}, {1, 1, 0, api.ErrArg}, {1, -1, 0, api.ErrArg}, {1, 4097, 0, api.ErrArg}, {1, math.MaxInt, 0, api.ErrArg},
		{2, 0, 33, api.OK}, {2, 1, 0, api.ErrArg}, {2, 64, 0, api.ErrArg},
		{3, 0, 1, api.OK}, {3, 1, 1, api.OK}, {3, 2, 2, api.OK}, {3, 3, 2, api.OK}, {3, 4096, 2049, api.OK}, {3, 4097, 0, api.ErrLong}, {3, -1, 0, api.ErrArg},
		{4, 0, 1, api.OK}, {4, 4096, 2049, api.OK}, {4, 4097, 0, api.ErrLong}, {4, -1, 0, api.ErrArg},
		{5, 0, 1, api.OK}, {5, 1, 9, api.OK}, {5, 4096, 32769, api.OK}, {5, 4097, 0, api.ErrLong}, {5, math.MaxInt, 0, api.ErrLong}, {5, math.MinInt, 0, api.ErrArg},
		{6, 0, 1, api.OK}, {6, 4095, 2048, api.OK}, {6, 4096, 2049, api.OK}, {6, 4097, 0, api.ErrLong}, {6, -1, 0, api.ErrArg},
		{7, 0, 2, api.OK}, {7, 3, 0, api.ErrArg},
		{0, 0, 0, api.ErrNone}, {8, 0, 0, api.ErrNone}, {-1, 0, 0, api.ErrNone}, {8, -1, 0, api.ErrNone}, {0, 4097, 0, api.ErrNone}, {257, 0, 0, api.ErrNone}, {math.MaxInt, 0, 0, api.ErrNone}, {math.MinInt, 0, 0, api.ErrNone},
	} {
		want := api.Head{}
		if c.err == api.OK {
			want = api.Head{Tag: object, Type: c.id, Len: c.n, Size: c.size}
		}
		if got, err := head.Of(x, c.id, c.n); got != want || err != c.err {
			t.Errorf("Of(%d, %d): %+v, %d; want %+v, %d", c.id, c.n, got, err, want, c.err)
		}
	}
}

// P7.2: Of is told by the table's Size, its error or how many granules, for tables of each length.
func TestP7_2OfSize(t *testing.T) {
	full := slices.Repeat(types, 10)[:64]
	for _, count := range []int{0, 1, 2, 6, 63, 64} {
		x := made(t, full[:count])
		for _, id := range someIDs {
			for _, n := range someAskLen {
				want := api.Head{}
				size, wantErr := x.Size(id, n)
				if wantErr == api.OK {
					want = api.Head{Tag: object, Type: id, Len: n, Size: size}
				}
				if got, err := head.Of(x, id, n); got != want || err != wantErr {
					t.Fatalf("Of(%d, %d) of %d types: %+v, %d; want %+v, %d", id, n, count, got, err, want, wantErr)
				}
			}
		}
		if list := x.All(); !slices.Equal(list, full[:count]) {
			t.Fatalf("the table has %v; want %v", list, full[:count])
		}
	}
}

// P7.2: Of a nil table is an ErrNil, whatever is asked.
func TestP7_2OfNil(t *testing.T) {
	for _, id := range someIDs {
		for _, n := range someAskLen {
			if h, err := head.Of(nil, id, n); h != (api.Head{}) || err != api.ErrNil {
				t.Fatalf("Of(nil, %d, %d): %+v, %d; want an ErrNil", id, n, h, err)
			}
		}
	}
}

// P7.2: Gap takes both tags and each size from 1 to 2^24 - 1, and nothing else.
func TestP7_2Gap(t *testing.T) {
	for tag := range 256 {
		for _, size := range someSizes {
			want, wantErr := api.Head{}, api.ErrArg
			if (tag == 2 || tag == 3) && size >= 1 && size <= 16777215 {
				want, wantErr = api.Head{Tag: uint8(tag), Size: size}, api.OK
			}
			if got, err := head.Gap(uint8(tag), size); got != want || err != wantErr {
				t.Errorf("Gap(%d, %d): %+v, %d; want %+v, %d", tag, size, got, err, want, wantErr)
			}
		}
	}
}

// P7.2: an object's header fits with its own Type, Len and Size; another one of these makes it another object, or none.
func TestP7_2Fits(t *testing.T) {
	x := made(t, types)
	for _, c := range []struct {
		id, n, size int
		want        api.Errno
	}{
		{1, 0, 1, api.OK}, {1, 0, 2, api.ErrType}, {1, 0, maxSize, api.ErrType}, {1, 1, 1, api.ErrType}, {1, maxLen, 1, api.ErrType},
		{2, 0, 33, api.OK}, {2, 0, 32, api.ErrType}, {2, 0, 34, api.ErrType}, {2, 64, 33, api.ErrType},
		{3, 0, 1, api.OK}, {3, 1, 1, api.OK}, {3, 2, 1, api.ErrType}, {3, 2, 2, api.OK}, {3, 3, 2, api.OK}, {3, 3, 3, api.ErrType}, {3, 4, 2, api.ErrType}, {3, 4096, 2049, api.OK}, {3, 4097, 2049, api.ErrType}, {3, 4098, 2050, api.ErrType}, {3, maxLen, 1 << 23, api.ErrType},
		{4, 2, 2, api.OK}, {5, 2, 2, api.ErrType}, {5, 2, 17, api.OK}, {4, 2, 17, api.ErrType}, {5, 4096, 32769, api.OK}, {5, 4096, 32768, api.ErrType}, {5, 4097, 32777, api.ErrType},
		{6, 4096, 2049, api.OK}, {6, 4096, 2048, api.ErrType}, {7, 0, 2, api.OK}, {7, 0, 1, api.ErrType},
		{8, 0, 1, api.ErrType}, {9, 2, 2, api.ErrType}, {64, 0, 1, api.ErrType}, {65, 0, 1, api.ErrType}, {257, 0, 1, api.ErrType}, {maxType, 0, 1, api.ErrType},
	} {
		fits(t, x, api.Head{Tag: object, Type: c.id, Len: c.n, Size: c.size}, c.want)
	}
}

// P7.2: fillers and free granules fit every table, and none; what looks like one, but has a Type or Len, is refused.
func TestP7_2FitsGap(t *testing.T) {
	for _, x := range []*table.Table{nil, made(t, nil), made(t, types)} {
		for _, tag := range []uint8{filler, free} {
			for _, size := range []int{1, 2, 3, 33, 32769, maxSize - 1, maxSize} {
				fits(t, x, api.Head{Tag: tag, Size: size}, api.OK)
				fits(t, x, api.Head{Tag: tag, Type: 1, Size: size}, api.ErrArg)
				fits(t, x, api.Head{Tag: tag, Len: 1, Size: size}, api.ErrArg)
			}
		}
	}
}

// P7.2: no object fits without a table, or without a type.
func TestP7_2FitsNone(t *testing.T) {
	for _, x := range []*table.Table{nil, made(t, nil)} {
		for k := range types {
			for _, n := range someAskLen {
				if h, err := head.Of(made(t, types), k+1, n); err == api.OK {
					fits(t, x, h, api.ErrType)
				}
			}
		}
		fits(t, x, api.Head{Tag: object, Type: 1, Size: 1}, api.ErrType)
		fits(t, x, api.Head{Tag: object, Type: maxType, Len: maxLen, Size: maxSize}, api.ErrType)
	}
}

// P7.2: whatever a header has, Fits tells ahead of all else whether it is valid, and then whether it matches.
func TestP7_2FitsAll(t *testing.T) {
	lists := [][]api.Type{nil, types[:1], types[2:3], types}
	for _, list := range lists {
		x := made(t, list)
		for _, tag := range someTags {
			for _, id := range someTypes {
				for _, n := range append([]int{5, 4094}, someLens...) {
					for _, size := range append([]int{33, 2048, 2049}, someSizes...) {
						h := api.Head{Tag: tag, Type: id, Len: n, Size: size}
						for _, y := range []*table.Table{nil, x} {
							want := api.OK
							if !isValid(h) {
								want = api.ErrArg
							} else if !matches(y, h) {
								want = api.ErrType
							}
							fits(t, y, h, want)
						}
					}
				}
			}
		}
		if left := x.All(); !slices.Equal(left, list) {
			t.Fatalf("the table has %v; want %v", left, list)
		}
	}
}

// P7.2: a type that is added makes its objects fit, and no others; a copy without it stays as it is.
func TestP7_2FitsAdded(t *testing.T) {
	x := made(t, types[:2])
	c := x.Copy()
	h := api.Head{Tag: object, Type: 3, Len: 5, Size: 3}
	fits(t, x, h, api.ErrType)
	if got, err := head.Of(x, 3, 5); got != (api.Head{}) || err != api.ErrNone {
		t.Errorf("Of: %+v, %d; want an ErrNone", got, err)
	}
	if id, err := x.Add(api.Type{Kind: 2}); id != 3 || err != api.OK {
		t.Fatalf("Add: %d, %d", id, err)
	}
	fits(t, x, h, api.OK)
	if got, err := head.Of(x, 3, 5); got != h || err != api.OK {
		t.Errorf("Of: %+v, %d; want %+v", got, err, h)
	}
	h.Type = 4
	fits(t, x, h, api.ErrType)
	h.Type = 3
	fits(t, c, h, api.ErrType)
}

// P7.3: each header with any Size, or any Len, or any Type, is that of its own word.
func TestP7_3Inverse(t *testing.T) {
	same := func(h api.Head) {
		w, err := head.Encode(h)
		got, gotErr := head.Decode(w)
		if w != wordOf(h) || err != api.OK || got != h || gotErr != api.OK {
			t.Fatalf("%+v: %016x, %d; back: %+v, %d", h, w, err, got, gotErr)
		}
	}
	for k := 1; k <= maxSize; k++ {
		same(api.Head{Tag: uint8(filler + k%2), Size: k})
		same(api.Head{Tag: object, Type: 1 + k%maxType, Len: k, Size: maxSize + 1 - k})
	}
	for id := 1; id <= maxType; id++ {
		same(api.Head{Tag: object, Type: id, Size: 1})
		same(api.Head{Tag: object, Type: id, Len: maxLen, Size: maxSize})
	}
}

// P7.3: each word is refused, or is that of the header that it is decoded to, which is valid.
func TestP7_3EachWord(t *testing.T) {
	for _, w := range append(someWords(), steps(200000)...) {
		for _, v := range []uint64{w, w &^ 0xc000, w & 0xffffff0000000003, w&^3 | 1, w&^0xc003 | 1} {
			h, err := head.Decode(v)
			if err != api.OK {
				noWord(t, v)
				continue
			}
			if !isValid(h) || head.Check(h) != api.OK {
				t.Fatalf("Decode(%016x): %+v, which is not valid", v, h)
			}
			if back, err := head.Encode(h); back != v || err != api.OK {
				t.Fatalf("Decode(%016x): %+v, whose word is %016x, %d", v, h, back, err)
			}
		}
	}
}

// P7.3: different headers have different words.
func TestP7_3Different(t *testing.T) {
	of := map[uint64]api.Head{}
	for _, tag := range someTags {
		for _, id := range someTypes {
			for _, n := range someLens {
				for _, size := range someSizes {
					h := api.Head{Tag: tag, Type: id, Len: n, Size: size}
					w, err := head.Encode(h)
					if err != api.OK {
						continue
					}
					if other, is := of[w]; is {
						t.Fatalf("%+v and %+v: %016x", h, other, w)
					}
					of[w] = h
				}
			}
		}
	}
	// 11 Sizes, of both gaps; for an object, 12 Lens and 12 Types as well.
	if want := 2*11 + 12*12*11; len(of) != want {
		t.Errorf("%d words; want %d", len(of), want)
	}
}

// P7.3: what Of returns matches the table, and what Gap returns matches every table; both have words.
func TestP7_3Match(t *testing.T) {
	x := made(t, types)
	for k := range types {
		for n := range 4097 {
			h, err := head.Of(x, k+1, n)
			if err != api.OK {
				continue
			}
			if !isValid(h) || !matches(x, h) {
				t.Fatalf("Of(%d, %d): %+v, which doesn't match", k+1, n, h)
			}
			taken(t, h, wordOf(h))
			fits(t, x, h, api.OK)
		}
	}
	for _, tag := range []uint8{filler, free} {
		for size := 1; size <= maxSize; size += 4093 {
			h, err := head.Gap(tag, size)
			if err != api.OK {
				t.Fatalf("Gap(%d, %d): %d", tag, size, err)
			}
			taken(t, h, wordOf(h))
			fits(t, x, h, api.OK)
			fits(t, nil, h, api.OK)
		}
	}
}
