package kind_test

import (
	"math"
	"slices"
	"testing"

	"skerry/api"
	"skerry/kind"
)

// The limits, as the document tells them.
const (
	maxFixed = 64
	maxElem  = 16
	maxLen   = 4096
)

// numbers are those of kinds: the four, and such as are none.
var numbers = []uint8{0, 1, 2, 3, 4, 5, 6, 7, 8, 16, 127, 128, 129, 130, 131, 132, 254, 255}

// words are how many words a type may say that it has: the edges of all kinds, those in between, and far beyond.
var words = []int{
	0, 1, 2, 3, 4, 7, 8, 14, 15, 16, 17, 18, 31, 32, 33, 62, 63, 64, 65, 66, 127, 128, 129, 256, 4096, 1 << 16, 1 << 32, 1<<32 + 1, 1 << 60, 1 << 62, math.MaxInt - 1, math.MaxInt,
	-1, -2, -16, -63, -64, -65, -1 << 32, math.MinInt + 1, math.MinInt,
}

// lengths are those that may be: the edges, and some in between.
var lengths = []int{0, 1, 2, 3, 4, 5, 63, 64, 65, 100, 4095, 4096}

// negative are lengths, and slots, that never are.
var negative = []int{-1, -2, -3, -64, -4096, -1 << 16, -1 << 32, -1 << 60, math.MinInt + 1, math.MinInt}

// tooLong are lengths beyond the greatest; multiplied by some of the words, the last ones overflow an int, down to 0 and to less.
var tooLong = []int{4097, 4098, 8192, 1 << 16, 1 << 31, 1 << 32, 1 << 58, 1 << 59, 1<<59 + 1, 1 << 60, 1<<60 + 1, 1 << 61, 1 << 62, 1<<62 + 1, math.MaxInt - 1, math.MaxInt}

// masks are those that a type with so many words is tried with: no bit, each bit alone, those that may be and one more, with and without the lowest ones.
func masks(words int) []uint64 {
	list := []uint64{0, math.MaxUint64, math.MaxUint64 - 1, 0x5555555555555555, 0xaaaaaaaaaaaaaaaa, 0x8000000000000001}
	for bit := range 64 {
		list = append(list, 1<<bit)
	}
	if words >= 0 && words <= 64 {
		all := allOf(words)
		list = append(list, all, all&0x5555555555555555, all&0xaaaaaaaaaaaaaaaa, all<<1|1, all<<1)
	}
	return list
}

// allOf returns the greatest mask that a type with so many words may have.
func allOf(words int) uint64 {
	all := uint64(0)
	for bit := range words {
		all |= 1 << bit
	}
	return all
}

// isValid is whether a type is valid.
func isValid(x api.Type) bool {
	for bit := range 64 {
		if bit >= x.Words && x.Mask>>bit%2 == 1 {
			return false
		}
	}
	switch x.Kind {
	case 1:
		return x.Words >= 0 && x.Words <= maxFixed
	case 3:
		return x.Words >= 1 && x.Words <= maxElem
	case 2, 4:
		return x.Words == 0
	}
	return false
}

// slotsOf lists for each slot of an object whether it is a reference.
func slotsOf(x api.Type, n int) []bool {
	var element, list []bool
	for bit := range x.Words {
		element = append(element, x.Mask>>bit%2 == 1)
	}
	switch x.Kind {
	case 1:
		return element
	case 2:
		element = []bool{true}
	case 4:
		element = []bool{false}
	}
	for range n {
		list = append(list, element...)
	}
	return list
}

// fits is how many granules have space for a header and so many slots.
func fits(slots int) int {
	granules := 0
	for 2*granules < 1+slots {
		granules++
	}
	return granules
}

// everyType calls f for all types that are tried: all kinds, words and masks.
func everyType(f func(x api.Type)) {
	for _, number := range numbers {
		for _, w := range words {
			for _, mask := range masks(w) {
				f(api.Type{Kind: number, Words: w, Mask: mask})
			}
		}
	}
}

// everyObject calls f for all valid types that are tried, with the lengths that each may have.
func everyObject(f func(x api.Type, n int)) {
	everyType(func(x api.Type) {
		switch {
		case !isValid(x):
		case x.Kind == 1:
			f(x, 0)
		default:
			for _, n := range lengths {
				f(x, n)
			}
		}
	})
}

// fewTypes are valid types, of each kind the least and the greatest.
var fewTypes = []api.Type{
	{Kind: 1}, {Kind: 1, Words: 1}, {Kind: 1, Words: 1, Mask: 1}, {Kind: 1, Words: 64, Mask: math.MaxUint64}, {Kind: 1, Words: 64, Mask: 1 << 63},
	{Kind: 3, Words: 1}, {Kind: 3, Words: 1, Mask: 1}, {Kind: 3, Words: 8, Mask: 0x81}, {Kind: 3, Words: 16}, {Kind: 3, Words: 16, Mask: 0xffff},
	{Kind: 2}, {Kind: 4},
}

// refuses reports an error unless each call that is given a length returns this error, and nothing else.
func refuses(t *testing.T, x api.Type, n, slot int, want api.Errno) {
	t.Helper()
	if got, err := kind.Slots(x, n); got != 0 || err != want {
		t.Fatalf("Slots(%v, %d): %d, %d; want 0, %d", x, n, got, err, want)
	}
	if got, err := kind.Size(x, n); got != 0 || err != want {
		t.Fatalf("Size(%v, %d): %d, %d; want 0, %d", x, n, got, err, want)
	}
	if got, err := kind.Ref(x, n, slot); got || err != want {
		t.Fatalf("Ref(%v, %d, %d): %t, %d; want false, %d", x, n, slot, got, err, want)
	}
	if got, err := kind.Refs(x, n); len(got) != 0 || err != want {
		t.Fatalf("Refs(%v, %d): %v, %d; want none, %d", x, n, got, err, want)
	}
}

// P5.1: which types are valid, at the edges of each kind, written out.
func TestP5_1Check(t *testing.T) {
	const all = math.MaxUint64
	for _, x := range []struct {
		name string
		t    api.Type
		err  api.Errno
	}{
		{"no kind", api.Type{}, api.ErrArg},
		{"a kind above", api.Type{Kind: 5}, api.ErrArg},
		{"a kind above, with a word", api.Type{Kind: 5, Words: 1, Mask: 1}, api.ErrArg},
		{"the last kind that a number tells", api.Type{Kind: 255}, api.ErrArg},

		{"fixed, no words", api.Type{Kind: api.KindFixed}, api.OK},
		{"fixed, no words, a bit", api.Type{Kind: api.KindFixed, Mask: 1}, api.ErrArg},
		{"fixed, no words, the last bit", api.Type{Kind: api.KindFixed, Mask: 1 << 63}, api.ErrArg},
		{"fixed, a word", api.Type{Kind: api.KindFixed, Words: 1}, api.OK},
		{"fixed, a word, its bit", api.Type{Kind: api.KindFixed, Words: 1, Mask: 1}, api.OK},
		{"fixed, a word, the bit behind", api.Type{Kind: api.KindFixed, Words: 1, Mask: 2}, api.ErrArg},
		{"fixed, a word, both bits", api.Type{Kind: api.KindFixed, Words: 1, Mask: 3}, api.ErrArg},
		{"fixed, 17 words", api.Type{Kind: api.KindFixed, Words: 17, Mask: 1 << 16}, api.OK},
		{"fixed, 63 words, their bits", api.Type{Kind: api.KindFixed, Words: 63, Mask: all >> 1}, api.OK},
		{"fixed, 63 words, the bit behind", api.Type{Kind: api.KindFixed, Words: 63, Mask: 1 << 63}, api.ErrArg},
		{"fixed, 64 words", api.Type{Kind: api.KindFixed, Words: 64}, api.OK},
		{"fixed, 64 words, their last bit", api.Type{Kind: api.KindFixed, Words: 64, Mask: 1 << 63}, api.OK},
		{"fixed, 64 words, all bits", api.Type{Kind: api.KindFixed, Words: 64, Mask: all}, api.OK},
		{"fixed, 65 words", api.Type{Kind: api.KindFixed, Words: 65}, api.ErrArg},
		{"fixed, -1 words", api.Type{Kind: api.KindFixed, Words: -1}, api.ErrArg},
		{"fixed, -1 words, all bits", api.Type{Kind: api.KindFixed, Words: -1, Mask: all}, api.ErrArg},

		{"structs, no words", api.Type{Kind: api.KindStructs}, api.ErrArg},
		{"structs, no words, a bit", api.Type{Kind: api.KindStructs, Mask: 1}, api.ErrArg},
		{"structs, a word", api.Type{Kind: api.KindStructs, Words: 1}, api.OK},
		{"structs, a word, its bit", api.Type{Kind: api.KindStructs, Words: 1, Mask: 1}, api.OK},
		{"structs, a word, the bit behind", api.Type{Kind: api.KindStructs, Words: 1, Mask: 2}, api.ErrArg},
		{"structs, 16 words", api.Type{Kind: api.KindStructs, Words: 16}, api.OK},
		{"structs, 16 words, their last bit", api.Type{Kind: api.KindStructs, Words: 16, Mask: 1 << 15}, api.OK},
		{"structs, 16 words, their bits", api.Type{Kind: api.KindStructs, Words: 16, Mask: 0xffff}, api.OK},
		{"structs, 16 words, the bit behind", api.Type{Kind: api.KindStructs, Words: 16, Mask: 1 << 16}, api.ErrArg},
		{"structs, 16 words, the last bit", api.Type{Kind: api.KindStructs, Words: 16, Mask: 1 << 63}, api.ErrArg},
		{"structs, 17 words", api.Type{Kind: api.KindStructs, Words: 17}, api.ErrArg},
		{"structs, 64 words", api.Type{Kind: api.KindStructs, Words: 64}, api.ErrArg},
		{"structs, -1 words", api.Type{Kind: api.KindStructs, Words: -1}, api.ErrArg},

		{"refs", api.Type{Kind: api.KindRefs}, api.OK},
		{"refs, a word", api.Type{Kind: api.KindRefs, Words: 1}, api.ErrArg},
		{"refs, a word, its bit", api.Type{Kind: api.KindRefs, Words: 1, Mask: 1}, api.ErrArg},
		{"refs, -1 words", api.Type{Kind: api.KindRefs, Words: -1}, api.ErrArg},
		{"refs, a bit", api.Type{Kind: api.KindRefs, Mask: 1}, api.ErrArg},
		{"refs, the last bit", api.Type{Kind: api.KindRefs, Mask: 1 << 63}, api.ErrArg},

		{"raw", api.Type{Kind: api.KindRaw}, api.OK},
		{"raw, a word", api.Type{Kind: api.KindRaw, Words: 1}, api.ErrArg},
		{"raw, -1 words", api.Type{Kind: api.KindRaw, Words: -1}, api.ErrArg},
		{"raw, a bit", api.Type{Kind: api.KindRaw, Mask: 1}, api.ErrArg},
		{"raw, the last bit", api.Type{Kind: api.KindRaw, Mask: 1 << 63}, api.ErrArg},
	} {
		if err := kind.Check(x.t); err != x.err {
			t.Errorf("%s: %d; want %d", x.name, err, x.err)
		}
	}
}

// P5.1: which types are valid, of all that are tried.
func TestP5_1CheckAll(t *testing.T) {
	valid := 0
	everyType(func(x api.Type) {
		want := api.ErrArg
		if isValid(x) {
			want = api.OK
			valid++
		}
		if err := kind.Check(x); err != want {
			t.Fatalf("Check(%v): %d; want %d", x, err, want)
		}
	})
	if valid < 500 {
		t.Fatalf("only %d types were valid", valid)
	}
}

// P5.1: of all numbers that a kind may have, just the four are one.
func TestP5_1Kinds(t *testing.T) {
	for number := range 256 {
		for w := range 2 {
			x := api.Type{Kind: uint8(number), Words: w}
			want := api.ErrArg
			if isValid(x) {
				want = api.OK
			}
			if err := kind.Check(x); err != want {
				t.Errorf("Check(%v): %d; want %d", x, err, want)
			}
			if want != api.OK {
				refuses(t, x, 0, 0, want)
			}
		}
	}
}

// P5.1: slots and granules, written out: of each kind the least, the greatest, and even and odd numbers of slots.
func TestP5_1Sizes(t *testing.T) {
	for _, x := range []struct {
		t              api.Type
		n, slots, size int
	}{
		{api.Type{Kind: api.KindFixed}, 0, 0, 1},
		{api.Type{Kind: api.KindFixed, Words: 1}, 0, 1, 1},
		{api.Type{Kind: api.KindFixed, Words: 1, Mask: 1}, 0, 1, 1},
		{api.Type{Kind: api.KindFixed, Words: 2}, 0, 2, 2},
		{api.Type{Kind: api.KindFixed, Words: 3}, 0, 3, 2},
		{api.Type{Kind: api.KindFixed, Words: 3, Mask: 7}, 0, 3, 2},
		{api.Type{Kind: api.KindFixed, Words: 4}, 0, 4, 3},
		{api.Type{Kind: api.KindFixed, Words: 63}, 0, 63, 32},
		{api.Type{Kind: api.KindFixed, Words: 64, Mask: math.MaxUint64}, 0, 64, 33},

		{api.Type{Kind: api.KindStructs, Words: 1}, 0, 0, 1},
		{api.Type{Kind: api.KindStructs, Words: 1}, 1, 1, 1},
		{api.Type{Kind: api.KindStructs, Words: 1, Mask: 1}, 2, 2, 2},
		{api.Type{Kind: api.KindStructs, Words: 1}, 4096, 4096, 2049},
		{api.Type{Kind: api.KindStructs, Words: 2}, 3, 6, 4},
		{api.Type{Kind: api.KindStructs, Words: 3, Mask: 4}, 3, 9, 5},
		{api.Type{Kind: api.KindStructs, Words: 16}, 0, 0, 1},
		{api.Type{Kind: api.KindStructs, Words: 16}, 1, 16, 9},
		{api.Type{Kind: api.KindStructs, Words: 15}, 4095, 61425, 30713},
		{api.Type{Kind: api.KindStructs, Words: 16, Mask: 0xffff}, 4095, 65520, 32761},
		{api.Type{Kind: api.KindStructs, Words: 16}, 4096, 65536, 32769},

		{api.Type{Kind: api.KindRefs}, 0, 0, 1},
		{api.Type{Kind: api.KindRefs}, 1, 1, 1},
		{api.Type{Kind: api.KindRefs}, 2, 2, 2},
		{api.Type{Kind: api.KindRefs}, 4095, 4095, 2048},
		{api.Type{Kind: api.KindRefs}, 4096, 4096, 2049},

		{api.Type{Kind: api.KindRaw}, 0, 0, 1},
		{api.Type{Kind: api.KindRaw}, 1, 1, 1},
		{api.Type{Kind: api.KindRaw}, 4, 4, 3},
		{api.Type{Kind: api.KindRaw}, 4095, 4095, 2048},
		{api.Type{Kind: api.KindRaw}, 4096, 4096, 2049},
	} {
		if got, err := kind.Slots(x.t, x.n); got != x.slots || err != api.OK {
			t.Errorf("Slots(%v, %d): %d, %d; want %d", x.t, x.n, got, err, x.slots)
		}
		if got, err := kind.Size(x.t, x.n); got != x.size || err != api.OK {
			t.Errorf("Size(%v, %d): %d, %d; want %d", x.t, x.n, got, err, x.size)
		}
	}
}

// P5.1: slots and granules of all that are tried.
func TestP5_1SizesAll(t *testing.T) {
	everyObject(func(x api.Type, n int) {
		slots := len(slotsOf(x, n))
		if got, err := kind.Slots(x, n); got != slots || err != api.OK {
			t.Fatalf("Slots(%v, %d): %d, %d; want %d", x, n, got, err, slots)
		}
		if got, err := kind.Size(x, n); got != fits(slots) || err != api.OK {
			t.Fatalf("Size(%v, %d): %d, %d; want %d", x, n, got, err, fits(slots))
		}
	})
}

// P5.1, P5.2: a type that is not valid is refused, with a length and a slot that may be, and as the first error with those that may not.
func TestP5_1NotValid(t *testing.T) {
	everyType(func(x api.Type) {
		if isValid(x) {
			return
		}
		for _, n := range []int{0, 1, maxLen, maxLen + 1, math.MaxInt, -1, math.MinInt} {
			refuses(t, x, n, 0, api.ErrArg)
			refuses(t, x, n, -1, api.ErrArg)
		}
	})
}

// P5.1, P5.2: a negative length is refused for each kind.
func TestP5_1Negative(t *testing.T) {
	for _, x := range fewTypes {
		for _, n := range negative {
			for _, slot := range []int{0, -1, math.MaxInt} {
				refuses(t, x, n, slot, api.ErrArg)
			}
		}
	}
}

// P5.1, P5.2: a length for KindFixed is refused, and never as one that is too long; for the others it is that, whatever the slot.
func TestP5_1Lengths(t *testing.T) {
	for _, x := range fewTypes {
		if x.Kind == api.KindFixed {
			for _, n := range slices.Concat(lengths[1:], tooLong) {
				for _, slot := range []int{0, x.Words - 1, x.Words, -1} {
					refuses(t, x, n, slot, api.ErrArg)
				}
			}
			continue
		}
		for _, n := range tooLong {
			for _, slot := range []int{0, maxLen, n - 1, n, -1, math.MinInt, math.MaxInt} {
				refuses(t, x, n, slot, api.ErrLong)
			}
		}
	}
}

// P5.1: each length that may be is taken, and none beside it.
func TestP5_1EachLength(t *testing.T) {
	for _, x := range fewTypes {
		for n := -3; n <= maxLen+3; n++ {
			want := api.OK
			switch {
			case n < 0, n > 0 && x.Kind == api.KindFixed:
				want = api.ErrArg
			case n > maxLen:
				want = api.ErrLong
			}
			if want != api.OK {
				refuses(t, x, n, 0, want)
			} else if _, err := kind.Slots(x, n); err != want {
				t.Fatalf("Slots(%v, %d): %d", x, n, err)
			} else if _, err := kind.Size(x, n); err != want {
				t.Fatalf("Size(%v, %d): %d", x, n, err)
			}
		}
	}
}

// span lists the numbers from first to below end.
func span(first, end int) []int {
	var list []int
	for i := first; i < end; i++ {
		list = append(list, i)
	}
	return list
}

// P5.2: which slots are references, written out.
func TestP5_2Refs(t *testing.T) {
	for _, x := range []struct {
		t    api.Type
		n    int
		want []int
	}{
		{api.Type{Kind: api.KindFixed}, 0, nil},
		{api.Type{Kind: api.KindFixed, Words: 1}, 0, nil},
		{api.Type{Kind: api.KindFixed, Words: 1, Mask: 1}, 0, []int{0}},
		{api.Type{Kind: api.KindFixed, Words: 5, Mask: 1}, 0, []int{0}},
		{api.Type{Kind: api.KindFixed, Words: 5, Mask: 0x10}, 0, []int{4}},
		{api.Type{Kind: api.KindFixed, Words: 5, Mask: 0xd}, 0, []int{0, 2, 3}},
		{api.Type{Kind: api.KindFixed, Words: 5, Mask: 0x1f}, 0, []int{0, 1, 2, 3, 4}},
		{api.Type{Kind: api.KindFixed, Words: 64}, 0, nil},
		{api.Type{Kind: api.KindFixed, Words: 64, Mask: 1<<63 | 1<<32 | 1<<31 | 1}, 0, []int{0, 31, 32, 63}},
		{api.Type{Kind: api.KindFixed, Words: 64, Mask: math.MaxUint64}, 0, span(0, 64)},

		{api.Type{Kind: api.KindStructs, Words: 1, Mask: 1}, 0, nil},
		{api.Type{Kind: api.KindStructs, Words: 1, Mask: 0}, 3, nil},
		{api.Type{Kind: api.KindStructs, Words: 1, Mask: 1}, 1, []int{0}},
		{api.Type{Kind: api.KindStructs, Words: 1, Mask: 1}, 4096, span(0, 4096)},
		{api.Type{Kind: api.KindStructs, Words: 2, Mask: 2}, 3, []int{1, 3, 5}},
		{api.Type{Kind: api.KindStructs, Words: 3, Mask: 1}, 3, []int{0, 3, 6}},
		{api.Type{Kind: api.KindStructs, Words: 3, Mask: 5}, 2, []int{0, 2, 3, 5}},
		{api.Type{Kind: api.KindStructs, Words: 16, Mask: 1 << 15}, 3, []int{15, 31, 47}},
		{api.Type{Kind: api.KindStructs, Words: 16, Mask: 1<<15 | 1}, 5, []int{0, 15, 16, 31, 32, 47, 48, 63, 64, 79}},
		{api.Type{Kind: api.KindStructs, Words: 16, Mask: 0}, 4096, nil},
		{api.Type{Kind: api.KindStructs, Words: 16, Mask: 0xffff}, 4096, span(0, 65536)},

		{api.Type{Kind: api.KindRefs}, 0, nil},
		{api.Type{Kind: api.KindRefs}, 1, []int{0}},
		{api.Type{Kind: api.KindRefs}, 3, []int{0, 1, 2}},
		{api.Type{Kind: api.KindRefs}, 4096, span(0, 4096)},

		{api.Type{Kind: api.KindRaw}, 0, nil},
		{api.Type{Kind: api.KindRaw}, 1, nil},
		{api.Type{Kind: api.KindRaw}, 4096, nil},
	} {
		if got, err := kind.Refs(x.t, x.n); !slices.Equal(got, x.want) || err != api.OK {
			t.Errorf("Refs(%v, %d): %v, %d; want %v", x.t, x.n, got, err, x.want)
		}
	}
}

// P5.2: a slot in the first element, the last one, and one between, and the edges of all slots, written out.
func TestP5_2Ref(t *testing.T) {
	three := api.Type{Kind: api.KindStructs, Words: 3, Mask: 4}
	fixed := api.Type{Kind: api.KindFixed, Words: 64, Mask: 1<<63 | 2}
	for _, x := range []struct {
		t       api.Type
		n, slot int
		want    bool
		err     api.Errno
	}{
		{three, 5, 0, false, api.OK}, {three, 5, 1, false, api.OK}, {three, 5, 2, true, api.OK},
		{three, 5, 6, false, api.OK}, {three, 5, 7, false, api.OK}, {three, 5, 8, true, api.OK},
		{three, 5, 12, false, api.OK}, {three, 5, 13, false, api.OK}, {three, 5, 14, true, api.OK},
		{three, 5, 15, false, api.ErrArg}, {three, 5, 17, false, api.ErrArg}, {three, 5, -1, false, api.ErrArg},
		{three, 0, 0, false, api.ErrArg}, {three, 0, 2, false, api.ErrArg}, {three, 0, -1, false, api.ErrArg},
		{three, 1, 2, true, api.OK}, {three, 1, 3, false, api.ErrArg}, {three, 1, 5, false, api.ErrArg},
		{three, 4096, 12287, true, api.OK}, {three, 4096, 12288, false, api.ErrArg}, {three, 4096, 12290, false, api.ErrArg},

		{fixed, 0, 0, false, api.OK}, {fixed, 0, 1, true, api.OK}, {fixed, 0, 62, false, api.OK}, {fixed, 0, 63, true, api.OK},
		{fixed, 0, 64, false, api.ErrArg}, {fixed, 0, 65, false, api.ErrArg}, {fixed, 0, -1, false, api.ErrArg}, {fixed, 0, -63, false, api.ErrArg},
		{api.Type{Kind: api.KindFixed}, 0, 0, false, api.ErrArg}, {api.Type{Kind: api.KindFixed}, 0, -1, false, api.ErrArg},
		{api.Type{Kind: api.KindFixed, Words: 1, Mask: 1}, 0, 0, true, api.OK}, {api.Type{Kind: api.KindFixed, Words: 1, Mask: 1}, 0, 1, false, api.ErrArg},

		{api.Type{Kind: api.KindRefs}, 0, 0, false, api.ErrArg}, {api.Type{Kind: api.KindRefs}, 1, 0, true, api.OK}, {api.Type{Kind: api.KindRefs}, 1, 1, false, api.ErrArg},
		{api.Type{Kind: api.KindRefs}, 4096, 4095, true, api.OK}, {api.Type{Kind: api.KindRefs}, 4096, 4096, false, api.ErrArg}, {api.Type{Kind: api.KindRefs}, 4096, -1, false, api.ErrArg},
		{api.Type{Kind: api.KindRaw}, 0, 0, false, api.ErrArg}, {api.Type{Kind: api.KindRaw}, 1, 0, false, api.OK}, {api.Type{Kind: api.KindRaw}, 1, 1, false, api.ErrArg},
		{api.Type{Kind: api.KindRaw}, 4096, 4095, false, api.OK}, {api.Type{Kind: api.KindRaw}, 4096, 4096, false, api.ErrArg}, {api.Type{Kind: api.KindRaw}, 4096, -1, false, api.ErrArg},
	} {
		if got, err := kind.Ref(x.t, x.n, x.slot); got != x.want || err != x.err {
			t.Errorf("Ref(%v, %d, %d): %t, %d; want %t, %d", x.t, x.n, x.slot, got, err, x.want, x.err)
		}
	}
}

// P5.2: no object has a slot below the first one, just behind the last one, or far off.
func TestP5_2NotSlots(t *testing.T) {
	everyObject(func(x api.Type, n int) {
		end := len(slotsOf(x, n))
		for _, slot := range append([]int{end, end + 1, end + x.Words, end + 64, end + 1<<16, 1 << 32, 1 << 62, math.MaxInt}, negative...) {
			if got, err := kind.Ref(x, n, slot); got || err != api.ErrArg {
				t.Fatalf("Ref(%v, %d, %d): %t, %d; want an ErrArg", x, n, slot, got, err)
			}
		}
	})
}

// P5.2: a list of references is new memory, whatever was done to one before.
func TestP5_2New(t *testing.T) {
	for _, x := range []struct {
		t    api.Type
		n    int
		want []int
	}{
		{api.Type{Kind: api.KindFixed, Words: 4, Mask: 9}, 0, []int{0, 3}},
		{api.Type{Kind: api.KindStructs, Words: 2, Mask: 2}, 2, []int{1, 3}},
		{api.Type{Kind: api.KindRefs}, 2, []int{0, 1}},
	} {
		first, _ := kind.Refs(x.t, x.n)
		second, _ := kind.Refs(x.t, x.n)
		for k := range first {
			first[k] = -7
		}
		_ = append(first[:0], 5, 6, 7)
		third, _ := kind.Refs(x.t, x.n)
		if !slices.Equal(second, x.want) || !slices.Equal(third, x.want) {
			t.Errorf("Refs(%v, %d): %v, and %v; want %v", x.t, x.n, second, third, x.want)
		}
	}
}

// P5.3: a slot is a reference exactly if Refs lists it, and these are those of the type; the size has space for the header and the slots, and one granule less has not.
func TestP5_3Agree(t *testing.T) {
	everyObject(func(x api.Type, n int) {
		slots, err := kind.Slots(x, n)
		size, err2 := kind.Size(x, n)
		list, err3 := kind.Refs(x, n)
		if err != api.OK || err2 != api.OK || err3 != api.OK {
			t.Fatalf("%v, %d: %d, %d, %d", x, n, err, err2, err3)
		}
		if 2*size < 1+slots || 2*(size-1) >= 1+slots {
			t.Fatalf("%v, %d: %d granules for %d slots", x, n, size, slots)
		}
		isRef := slotsOf(x, n)
		var want []int
		for slot := range slots {
			got, err := kind.Ref(x, n, slot)
			if got != isRef[slot] || err != api.OK {
				t.Fatalf("Ref(%v, %d, %d): %t, %d; want %t", x, n, slot, got, err, isRef[slot])
			}
			if got {
				want = append(want, slot)
			}
		}
		if slots != len(isRef) || !slices.Equal(list, want) {
			t.Fatalf("%v, %d: %d slots, Refs: %v; want %d, %v", x, n, slots, list, len(isRef), want)
		}
	})
}

// P5.3: an object that is longer by 1 has no slot less, and is not smaller; it keeps the references that it had.
func TestP5_3Longer(t *testing.T) {
	for _, x := range fewTypes {
		if x.Kind == api.KindFixed {
			continue
		}
		slots, size := 0, 1
		for n := range maxLen + 1 {
			moreSlots, err := kind.Slots(x, n)
			moreSize, err2 := kind.Size(x, n)
			if err != api.OK || err2 != api.OK || moreSlots < slots || moreSize < size {
				t.Fatalf("%v, %d: %d slots, %d granules (%d, %d); before it %d, %d", x, n, moreSlots, moreSize, err, err2, slots, size)
			}
			slots, size = moreSlots, moreSize
		}
		for _, n := range lengths[1:] {
			less, _ := kind.Refs(x, n-1)
			list, _ := kind.Refs(x, n)
			if len(less) > len(list) || !slices.Equal(less, list[:len(less)]) {
				t.Fatalf("%v: with %d: %v; with %d: %v", x, n-1, less, n, list)
			}
		}
	}
}
