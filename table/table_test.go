package table_test

import (
	"bytes"
	"math"
	"slices"
	"strings"
	"testing"

	"skerry/api"
	"skerry/kind"
	"skerry/table"
)

// The limits, as the document tells them.
const (
	maxTypes = 64
	maxLen   = 4096
)

// valid are types that may be: of each kind the least, the greatest, and some in between.
var valid = []api.Type{
	{Kind: 1}, {Kind: 1, Words: 1}, {Kind: 1, Words: 1, Mask: 1}, {Kind: 1, Words: 2}, {Kind: 1, Words: 9, Mask: 0x101}, {Kind: 1, Words: 63, Mask: 1 << 62},
	{Kind: 1, Words: 64}, {Kind: 1, Words: 64, Mask: 1 << 63}, {Kind: 1, Words: 64, Mask: math.MaxUint64}, {Kind: 1, Words: 64, Mask: 0x0123456789abcdef},
	{Kind: 2},
	{Kind: 3, Words: 1}, {Kind: 3, Words: 1, Mask: 1}, {Kind: 3, Words: 8, Mask: 0x81}, {Kind: 3, Words: 15, Mask: 1 << 14}, {Kind: 3, Words: 16}, {Kind: 3, Words: 16, Mask: 0xffff},
	{Kind: 4},
}

// notValid are types that may not be: some would be one, or another one, if their words were cut to a byte.
var notValid = []api.Type{
	{}, {Words: 1}, {Kind: 5}, {Kind: 255}, {Kind: 129}, {Mask: 1},
	{Kind: 1, Words: 65}, {Kind: 1, Words: -1}, {Kind: 1, Words: 256}, {Kind: 1, Words: 257}, {Kind: 1, Words: 1 << 32}, {Kind: 1, Words: math.MaxInt}, {Kind: 1, Words: math.MinInt}, {Kind: 1, Mask: 1}, {Kind: 1, Words: 1, Mask: 2}, {Kind: 1, Words: 63, Mask: 1 << 63},
	{Kind: 2, Words: 1}, {Kind: 2, Words: 256}, {Kind: 2, Words: -1}, {Kind: 2, Mask: 1}, {Kind: 2, Mask: 1 << 63},
	{Kind: 3}, {Kind: 3, Words: 17}, {Kind: 3, Words: 257}, {Kind: 3, Words: -1}, {Kind: 3, Words: 1, Mask: 2}, {Kind: 3, Words: 16, Mask: 1 << 16}, {Kind: 3, Words: 16, Mask: 1 << 63},
	{Kind: 4, Words: 1}, {Kind: 4, Words: 256}, {Kind: 4, Words: -1}, {Kind: 4, Mask: 1}, {Kind: 4, Mask: 1 << 63},
}

// lengths are those that an object may be asked with: the edges, some in between, and such as may not be.
var lengths = []int{0, 1, 2, 3, 4, 100, maxLen - 1, maxLen, maxLen + 1, 1 << 32, math.MaxInt, -1, -2, -maxLen, math.MinInt}

// few returns the first n types of a row that goes over the valid ones again and again.
func few(n int) []api.Type {
	var list []api.Type
	for k := range n {
		list = append(list, valid[k%len(valid)])
	}
	return list
}

// encode returns the encoding of a table with these types.
func encode(list []api.Type) string {
	s := []byte{byte(len(list))}
	for _, x := range list {
		s = append(s, x.Kind, byte(x.Words))
		for mask, k := x.Mask, 0; k < 8; k++ {
			s = append(s, byte(mask%256))
			mask /= 256
		}
	}
	return string(s)
}

// numbersBeside lists numbers that no table with n types has.
func numbersBeside(n int) []int {
	return []int{0, -1, -2, -n, -n - 1, -256, -1 << 32, math.MinInt + 1, math.MinInt, n + 1, n + 2, n + 256, n + 1<<16, 1<<32 + 1, 1 << 62, math.MaxInt - 1, math.MaxInt}
}

// made returns a table with these types.
func made(t *testing.T, list []api.Type) *table.Table {
	t.Helper()
	x, err := table.New(list...)
	if err != api.OK || x == nil {
		t.Fatalf("New(%v): %v, %d", list, x, err)
	}
	return x
}

// is reports an error unless x has exactly these types, as far as each call that changes nothing can tell.
func is(t *testing.T, x *table.Table, want []api.Type) {
	t.Helper()
	if x == nil {
		t.Fatalf("no table; want %v", want)
	}
	if n := x.Len(); n != len(want) {
		t.Fatalf("Len: %d; want %d", n, len(want))
	}
	if list := x.All(); !slices.Equal(list, want) {
		t.Fatalf("All: %v; want %v", list, want)
	}
	if s := x.Put(); s != encode(want) {
		t.Fatalf("Put: %q; want %q", s, encode(want))
	}
	for k := range want {
		if got, err := x.Get(k + 1); got != want[k] || err != api.OK {
			t.Fatalf("Get(%d): %v, %d; want %v", k+1, got, err, want[k])
		}
		size, err := kind.Size(want[k], 0)
		if got, gotErr := x.Size(k+1, 0); got != size || gotErr != err {
			t.Fatalf("Size(%d, 0): %d, %d; want %d, %d", k+1, got, gotErr, size, err)
		}
	}
	for _, id := range []int{0, -1, len(want) + 1} {
		if got, err := x.Get(id); got != (api.Type{}) || err != api.ErrNone {
			t.Fatalf("Get(%d): %v, %d; want an ErrNone", id, got, err)
		}
	}
}

// refuses reports an error unless Add of y returns this error, and changes nothing.
func refuses(t *testing.T, x *table.Table, y api.Type, want api.Errno) {
	t.Helper()
	before := x.All()
	if id, err := x.Add(y); id != 0 || err != want {
		t.Fatalf("Add(%v): %d, %d; want 0, %d", y, id, err, want)
	}
	is(t, x, before)
}

// notNew reports an error unless New of these types returns this error, and no table.
func notNew(t *testing.T, list []api.Type, want api.Errno) {
	t.Helper()
	if x, err := table.New(list...); x != nil || err != want {
		t.Fatalf("New(%v): %v, %d; want nil, %d", list, x, err, want)
	}
}

// notRead reports an error unless Read of s returns ErrForm, and no table.
func notRead(t *testing.T, s string) {
	t.Helper()
	if x, err := table.Read(s); x != nil || err != api.ErrForm {
		t.Fatalf("Read(%q): %v, %d; want nil, %d", s, x, err, api.ErrForm)
	}
}

// read returns the table that s is the encoding of.
func read(t *testing.T, s string) *table.Table {
	t.Helper()
	x, err := table.Read(s)
	if err != api.OK || x == nil {
		t.Fatalf("Read(%q): %v, %d", s, x, err)
	}
	return x
}

// P6.1: the chapter's example.
func TestP6_1Example(t *testing.T) {
	x := made(t, []api.Type{{Kind: api.KindRaw}})
	if id, err := x.Add(api.Type{Kind: api.KindFixed, Words: 2}); id != 2 || err != api.OK {
		t.Errorf("Add: %d, %d; want 2", id, err)
	}
	if got, err := x.Get(3); got != (api.Type{}) || err != api.ErrNone {
		t.Errorf("Get(3): %v, %d; want an ErrNone", got, err)
	}
	if got, err := x.Get(1); got != (api.Type{Kind: api.KindRaw}) || err != api.OK {
		t.Errorf("Get(1): %v, %d", got, err)
	}
	if got, err := x.Get(2); got != (api.Type{Kind: api.KindFixed, Words: 2}) || err != api.OK {
		t.Errorf("Get(2): %v, %d", got, err)
	}
}

// P6.1: New of no types, told in three ways, and what such a table has: nothing.
func TestP6_1NoTypes(t *testing.T) {
	bare, err := table.New()
	if err != api.OK {
		t.Fatal(err)
	}
	for _, x := range []*table.Table{bare, made(t, nil), made(t, []api.Type{}), read(t, "\x00")} {
		is(t, x, nil)
		if n := len(x.All()); n != 0 {
			t.Errorf("All has %d types", n)
		}
		for _, id := range numbersBeside(0) {
			if got, err := x.Get(id); got != (api.Type{}) || err != api.ErrNone {
				t.Errorf("Get(%d): %v, %d; want an ErrNone", id, got, err)
			}
		}
		if id, err := x.Add(api.Type{Kind: api.KindRefs}); id != 1 || err != api.OK {
			t.Errorf("Add: %d, %d; want 1", id, err)
		}
		is(t, x, []api.Type{{Kind: api.KindRefs}})
	}
}

// P6.1: a table of each valid type alone, by New and by Add.
func TestP6_1One(t *testing.T) {
	for _, y := range valid {
		is(t, made(t, []api.Type{y}), []api.Type{y})
		x := made(t, nil)
		if id, err := x.Add(y); id != 1 || err != api.OK {
			t.Errorf("Add(%v): %d, %d; want 1", y, id, err)
		}
		is(t, x, []api.Type{y})
	}
}

// P6.1: types have the numbers from 1 on, in the order in which they were added, be it forwards or backwards, by New, by Add, or by both.
func TestP6_1Order(t *testing.T) {
	back := few(maxTypes)
	slices.Reverse(back)
	for _, list := range [][]api.Type{few(maxTypes), back} {
		for n := range maxTypes + 1 {
			is(t, made(t, list[:n]), list[:n])
			x := made(t, list[:n])
			for k, y := range list[n:] {
				if id, err := x.Add(y); id != n+k+1 || err != api.OK {
					t.Fatalf("Add(%v) to %d types: %d, %d", y, n+k, id, err)
				}
			}
			is(t, x, list)
		}
	}
}

// P6.1: types that are alike are a type each, whether one follows the other or not.
func TestP6_1Alike(t *testing.T) {
	a, b := api.Type{Kind: 3, Words: 2, Mask: 2}, api.Type{Kind: 3, Words: 2, Mask: 1}
	is(t, made(t, []api.Type{a, a, b, a}), []api.Type{a, a, b, a})
	x := made(t, nil)
	for k, y := range []api.Type{a, a, b, a, b} {
		if id, err := x.Add(y); id != k+1 || err != api.OK {
			t.Errorf("Add(%v): %d, %d; want %d", y, id, err, k+1)
		}
	}
	is(t, x, []api.Type{a, a, b, a, b})
	is(t, made(t, slices.Repeat([]api.Type{a}, maxTypes)), slices.Repeat([]api.Type{a}, maxTypes))
}

// P6.1: each type that may not be is refused by Add, whatever there is, and changes nothing; the next one gets the number that it did not get.
func TestP6_1AddRefused(t *testing.T) {
	for _, n := range []int{0, 1, 2, maxTypes - 1} {
		x := made(t, few(n))
		for _, y := range notValid {
			refuses(t, x, y, api.ErrArg)
		}
		if id, err := x.Add(api.Type{Kind: 4}); id != n+1 || err != api.OK {
			t.Errorf("Add: %d, %d; want %d", id, err, n+1)
		}
	}
}

// P6.1: one type that may not be is enough for New to refuse all: as the only one, the first one, one between, and the last one.
func TestP6_1NewRefused(t *testing.T) {
	for _, y := range notValid {
		notNew(t, []api.Type{y}, api.ErrArg)
		for _, n := range []int{1, 2, 5, maxTypes - 1} {
			for _, at := range []int{0, n / 2, n} {
				notNew(t, slices.Insert(few(n), at, y), api.ErrArg)
			}
		}
		notNew(t, append([]api.Type{y}, notValid...), api.ErrArg)
	}
}

// P6.1: MaxTypes types are taken, and no more; what may not be is refused as that even then.
func TestP6_1Full(t *testing.T) {
	byAdd := made(t, few(maxTypes-1))
	if id, err := byAdd.Add(few(maxTypes)[maxTypes-1]); id != maxTypes || err != api.OK {
		t.Fatalf("Add: %d, %d; want %d", id, err, maxTypes)
	}
	byNew := made(t, few(maxTypes))
	for _, x := range []*table.Table{byNew, byAdd, byNew.Copy(), read(t, byNew.Put())} {
		is(t, x, few(maxTypes))
		for _, y := range valid {
			refuses(t, x, y, api.ErrFull)
		}
		for _, y := range notValid {
			refuses(t, x, y, api.ErrArg)
		}
	}
}

// P6.1: New with more types than there may be returns the error that comes first in the order of the types.
func TestP6_1NewFull(t *testing.T) {
	for _, n := range []int{maxTypes + 1, maxTypes + 2, 2 * maxTypes, 256, 257, 256 + maxTypes, 1000} {
		notNew(t, few(n), api.ErrFull)
	}
	for _, y := range notValid {
		notNew(t, append(few(maxTypes), y), api.ErrArg)
		notNew(t, append(few(maxTypes), y, valid[0]), api.ErrArg)
		notNew(t, append(few(maxTypes+1), y), api.ErrFull)
		notNew(t, slices.Insert(few(maxTypes+1), maxTypes-1, y), api.ErrArg)
		notNew(t, slices.Insert(few(maxTypes+1), 0, y), api.ErrArg)
	}
}

// P6.1: a table has the numbers from 1 to Len, and no other one: Get and Size return ErrNone for it, whatever the length is.
func TestP6_1NotNumbers(t *testing.T) {
	for _, n := range []int{0, 1, 2, 63, maxTypes} {
		x := made(t, few(n))
		for _, id := range numbersBeside(n) {
			if got, err := x.Get(id); got != (api.Type{}) || err != api.ErrNone {
				t.Errorf("Get(%d) of %d types: %v, %d; want an ErrNone", id, n, got, err)
			}
			for _, length := range lengths {
				if got, err := x.Size(id, length); got != 0 || err != api.ErrNone {
					t.Errorf("Size(%d, %d) of %d types: %d, %d; want an ErrNone", id, length, n, got, err)
				}
			}
		}
		is(t, x, few(n))
	}
}

// P6.1: how many granules an object of each kind has, and which lengths may not be, written out.
func TestP6_1Size(t *testing.T) {
	x := made(t, []api.Type{{Kind: 1, Words: 3}, {Kind: 2}, {Kind: 3, Words: 16}, {Kind: 4}, {Kind: 1}, {Kind: 1, Words: 64}})
	for _, c := range []struct {
		id, n, want int
		err         api.Errno
	}{
		{1, 0, 2, api.OK}, {1, 1, 0, api.ErrArg}, {1, -1, 0, api.ErrArg}, {1, 4097, 0, api.ErrArg}, {1, 3, 0, api.ErrArg},
		{2, 0, 1, api.OK}, {2, 1, 1, api.OK}, {2, 2, 2, api.OK}, {2, 4096, 2049, api.OK}, {2, 4097, 0, api.ErrLong}, {2, -1, 0, api.ErrArg},
		{3, 0, 1, api.OK}, {3, 1, 9, api.OK}, {3, 4096, 32769, api.OK}, {3, 4097, 0, api.ErrLong}, {3, math.MinInt, 0, api.ErrArg},
		{4, 0, 1, api.OK}, {4, 4, 3, api.OK}, {4, 4096, 2049, api.OK}, {4, 4097, 0, api.ErrLong}, {4, math.MaxInt, 0, api.ErrLong}, {4, -1, 0, api.ErrArg},
		{5, 0, 1, api.OK}, {5, 1, 0, api.ErrArg}, {6, 0, 33, api.OK}, {6, math.MaxInt, 0, api.ErrArg},
		{0, 0, 0, api.ErrNone}, {7, 0, 0, api.ErrNone}, {7, -1, 0, api.ErrNone}, {0, 4097, 0, api.ErrNone}, {-1, 0, 0, api.ErrNone},
	} {
		if got, err := x.Size(c.id, c.n); got != c.want || err != c.err {
			t.Errorf("Size(%d, %d): %d, %d; want %d, %d", c.id, c.n, got, err, c.want, c.err)
		}
	}
}

// P6.1: Size is that of the type with the number, for all that are tried.
func TestP6_1SizeAll(t *testing.T) {
	x := made(t, valid)
	for k, y := range valid {
		for _, n := range lengths {
			want, wantErr := kind.Size(y, n)
			if got, err := x.Size(k+1, n); got != want || err != wantErr {
				t.Errorf("Size(%d, %d) of %v: %d, %d; want %d, %d", k+1, n, y, got, err, want, wantErr)
			}
		}
	}
}

// P6.1, P6.2: what each call returns for nil: ErrNil ahead of every other error, none, and nothing.
func TestP6_1Nil(t *testing.T) {
	var x *table.Table
	for _, y := range slices.Concat(valid, notValid) {
		if id, err := x.Add(y); id != 0 || err != api.ErrNil {
			t.Errorf("Add(%v): %d, %d; want an ErrNil", y, id, err)
		}
	}
	for _, id := range append(numbersBeside(0), 2, maxTypes) {
		if got, err := x.Get(id); got != (api.Type{}) || err != api.ErrNil {
			t.Errorf("Get(%d): %v, %d; want an ErrNil", id, got, err)
		}
		for _, n := range lengths {
			if got, err := x.Size(id, n); got != 0 || err != api.ErrNil {
				t.Errorf("Size(%d, %d): %d, %d; want an ErrNil", id, n, got, err)
			}
		}
	}
	if n, list, s, c := x.Len(), x.All(), x.Put(), x.Copy(); n != 0 || len(list) != 0 || s != "" || c != nil {
		t.Errorf("Len, All, Put, Copy: %d, %v, %q, %v", n, list, s, c)
	}
}

// P6.1: a copy is equal, and what is added to one of the two, or to both, isn't added to the other one: for each number of types, since a row may have room behind its last one.
func TestP6_1Copy(t *testing.T) {
	a, b := api.Type{Kind: 1, Words: 5, Mask: 17}, api.Type{Kind: 3, Words: 5, Mask: 9}
	for n := range maxTypes {
		list := few(n)
		withA, withB := append(few(n), a), append(few(n), b)
		x := made(t, list)
		c := x.Copy()
		is(t, c, list)
		if id, err := c.Add(a); id != n+1 || err != api.OK {
			t.Fatalf("Add to the copy: %d, %d; want %d", id, err, n+1)
		}
		is(t, x, list)
		is(t, c, withA)
		second := x.Copy()
		if id, err := x.Add(b); id != n+1 || err != api.OK {
			t.Fatalf("Add: %d, %d; want %d", id, err, n+1)
		}
		is(t, x, withB)
		is(t, c, withA)
		is(t, second, list)
		is(t, c.Copy().Copy(), withA)
	}
	full := made(t, few(maxTypes))
	is(t, full.Copy(), few(maxTypes))
}

// P6.1: the row that All returns is new memory: what is done to it is not done to the table, nor to the next row, and what is added to the table is not added to it.
func TestP6_1AllNew(t *testing.T) {
	other := api.Type{Kind: 3, Words: 7, Mask: 64}
	for n := range maxTypes {
		x := made(t, few(n))
		c := x.Copy()
		first, second := x.All(), x.All()
		for k := range first {
			first[k] = other
		}
		_ = append(first, other)
		_ = append(first[:0], other)
		is(t, x, few(n))
		is(t, c, few(n))
		if !slices.Equal(second, few(n)) {
			t.Fatalf("All: %v; want %v", second, few(n))
		}
		behind := slices.Clone(second[:cap(second)])
		if _, err := x.Add(other); err != api.OK {
			t.Fatal(err)
		}
		if !slices.Equal(second[:cap(second)], behind) {
			t.Fatalf("the row of %d types, and behind: %v; want %v", n, second[:cap(second)], behind)
		}
		_ = append(second, valid[0])
		is(t, x, append(few(n), other))
	}
}

// P6.1: the row that New is given is neither changed nor kept, be there room behind its last one or not.
func TestP6_1NewKeepsNothing(t *testing.T) {
	other := api.Type{Kind: 3, Words: 7, Mask: 64}
	for n := range maxTypes {
		for _, room := range []int{0, 1, maxTypes} {
			given := slices.Repeat([]api.Type{valid[1]}, n+room)
			copy(given, few(n))
			before := slices.Clone(given)
			x := made(t, given[:n])
			if id, err := x.Add(other); id != n+1 || err != api.OK {
				t.Fatalf("Add: %d, %d; want %d", id, err, n+1)
			}
			if !slices.Equal(given, before) {
				t.Fatalf("the row given: %v; want %v", given, before)
			}
			for k := range given {
				given[k] = valid[2]
			}
			is(t, x, append(few(n), other))
		}
	}
	full := few(maxTypes + 1)
	notNew(t, full, api.ErrFull)
	if !slices.Equal(full, few(maxTypes+1)) {
		t.Errorf("the row that was refused: %v", full)
	}
}

// P6.2: encodings, written out: of no types, of one of each kind, and of several; the bytes of a Mask, the lowest first.
func TestP6_2Forms(t *testing.T) {
	zero := strings.Repeat("\x00", 8)
	for _, c := range []struct {
		list []api.Type
		want string
	}{
		{nil, "\x00"},
		{[]api.Type{{Kind: 4}, {Kind: 1, Words: 2}}, "\x02\x04\x00" + zero + "\x01\x02" + zero},
		{[]api.Type{{Kind: 1}}, "\x01\x01\x00" + zero},
		{[]api.Type{{Kind: 2}}, "\x01\x02\x00" + zero},
		{[]api.Type{{Kind: 3, Words: 1}}, "\x01\x03\x01" + zero},
		{[]api.Type{{Kind: 3, Words: 16, Mask: 0xfe01}}, "\x01\x03\x10\x01\xfe\x00\x00\x00\x00\x00\x00"},
		{[]api.Type{{Kind: 1, Words: 64, Mask: 0x0102030405060708}}, "\x01\x01\x40\x08\x07\x06\x05\x04\x03\x02\x01"},
		{[]api.Type{{Kind: 1, Words: 64, Mask: 0xf1e2d3c4b5a69788}}, "\x01\x01\x40\x88\x97\xa6\xb5\xc4\xd3\xe2\xf1"},
		{[]api.Type{{Kind: 1, Words: 64, Mask: math.MaxUint64}, {Kind: 4}}, "\x02\x01\x40\xff\xff\xff\xff\xff\xff\xff\xff\x04\x00" + zero},
		{[]api.Type{{Kind: 4}, {Kind: 3, Words: 9, Mask: 0x1a5}, {Kind: 1, Words: 64, Mask: 1 << 63}}, "\x03\x04\x00" + zero + "\x03\x09\xa5\x01\x00\x00\x00\x00\x00\x00" + "\x01\x40\x00\x00\x00\x00\x00\x00\x00\x80"},
	} {
		if s := made(t, c.list).Put(); s != c.want {
			t.Errorf("Put of %v: %q; want %q", c.list, s, c.want)
		}
		is(t, read(t, c.want), c.list)
	}
}

// P6.2: the encodings of all numbers of types, and of each valid type alone.
func TestP6_2PutAll(t *testing.T) {
	for n := range maxTypes + 1 {
		s := made(t, few(n)).Put()
		if len(s) != 1+10*n || s[0] != byte(n) || s != encode(few(n)) {
			t.Errorf("Put of %d types: %q; want %q", n, s, encode(few(n)))
		}
		is(t, read(t, s), few(n))
	}
	for bit := range 64 {
		y := api.Type{Kind: 1, Words: 64, Mask: 1 << bit}
		if s := made(t, []api.Type{y}).Put(); len(s) != 11 || s[3+bit/8] != 1<<(bit%8) || s != encode([]api.Type{y}) {
			t.Errorf("Put of %v: %q", y, s)
		}
	}
}

// P6.2: an encoding with its end missing, or with something behind it, is none; nor is one whose number is another one.
func TestP6_2Lengths(t *testing.T) {
	notRead(t, "")
	for _, n := range []int{0, 1, 2, 3, maxTypes} {
		s := encode(few(n))
		for end := range len(s) {
			notRead(t, s[:end])
		}
		for _, behind := range []string{"\x00", "\x01", s, encode(few(1))[1:], strings.Repeat("\x00", 10), strings.Repeat("\x00", 2560), strings.Repeat(encode(few(1))[1:], 256)} {
			notRead(t, s+behind)
		}
		for number := range 256 {
			if number != n {
				notRead(t, string([]byte{byte(number)})+s[1:])
			}
		}
	}
}

// P6.2: an encoding of more than MaxTypes types is none, though it has as many as its number says.
func TestP6_2TooMany(t *testing.T) {
	is(t, read(t, encode(few(maxTypes))), few(maxTypes))
	for n := maxTypes + 1; n < 256; n++ {
		notRead(t, encode(few(n)))
	}
	// A number of 256 and more has no byte of its own.
	for _, n := range []int{256, 257, 256 + maxTypes} {
		notRead(t, encode(few(n)))
	}
	notRead(t, strings.Repeat("\xff", 1<<20))
	notRead(t, strings.Repeat("\x00", 1<<20))
}

// P6.2: each Kind and each Words that a byte has, with masks for all words: an encoding is read exactly if its type is valid.
func TestP6_2EachType(t *testing.T) {
	masks := []uint64{0, 1, 2, 1 << 15, 1 << 16, 0xffff, 1 << 62, 1 << 63, math.MaxUint64}
	count := 0
	for number := range 256 {
		for words := range 256 {
			for _, mask := range masks {
				y := api.Type{Kind: uint8(number), Words: words, Mask: mask}
				s := encode([]api.Type{y})
				if kind.Check(y) != api.OK {
					notRead(t, s)
					continue
				}
				count++
				is(t, read(t, s), []api.Type{y})
			}
		}
	}
	if count < 200 {
		t.Errorf("only %d types were valid", count)
	}
}

// P6.2: the edges of what each kind may have, written out as bytes.
func TestP6_2Edges(t *testing.T) {
	zero := "\x00\x00\x00\x00\x00\x00\x00\x00"
	for _, c := range []struct {
		s   string
		err api.Errno
	}{
		{"\x01\x00\x00" + zero, api.ErrForm}, {"\x01\x01\x00" + zero, api.OK}, {"\x01\x04\x00" + zero, api.OK}, {"\x01\x05\x00" + zero, api.ErrForm}, {"\x01\xff\x00" + zero, api.ErrForm},
		{"\x01\x01\x40" + zero, api.OK}, {"\x01\x01\x41" + zero, api.ErrForm}, {"\x01\x01\xff" + zero, api.ErrForm},
		{"\x01\x03\x00" + zero, api.ErrForm}, {"\x01\x03\x01" + zero, api.OK}, {"\x01\x03\x10" + zero, api.OK}, {"\x01\x03\x11" + zero, api.ErrForm},
		{"\x01\x02\x00" + zero, api.OK}, {"\x01\x02\x01" + zero, api.ErrForm}, {"\x01\x04\x01" + zero, api.ErrForm},
		{"\x01\x01\x3f\x00\x00\x00\x00\x00\x00\x00\x40", api.OK}, {"\x01\x01\x3f\x00\x00\x00\x00\x00\x00\x00\x80", api.ErrForm},
		{"\x01\x01\x08\xff\x00\x00\x00\x00\x00\x00\x00", api.OK}, {"\x01\x01\x08\x00\x01\x00\x00\x00\x00\x00\x00", api.ErrForm},
		{"\x01\x02\x00\x01\x00\x00\x00\x00\x00\x00\x00", api.ErrForm}, {"\x01\x04\x00\x00\x00\x00\x00\x00\x00\x00\x80", api.ErrForm},
	} {
		x, err := table.Read(c.s)
		if err != c.err || (x != nil) != (c.err == api.OK) {
			t.Errorf("Read(%q): %v, %d; want %d", c.s, x, err, c.err)
		}
	}
}

// P6.2: one type that may not be is enough, as the first one, one between, and the last one.
func TestP6_2OneNotValid(t *testing.T) {
	for _, y := range notValid {
		if kind.Check(api.Type{Kind: y.Kind, Words: int(byte(y.Words)), Mask: y.Mask}) == api.OK {
			continue // what is wrong with it, no byte can say
		}
		for _, n := range []int{0, 1, 2, 5, maxTypes - 1} {
			for _, at := range []int{0, n / 2, n} {
				notRead(t, encode(slices.Insert(few(n), at, y)))
			}
		}
	}
}

// P6.3: each table is read from what it put, and goes on as the one that it was put from.
func TestP6_3ReadOfPut(t *testing.T) {
	a, b := api.Type{Kind: 1, Words: 33, Mask: 1 << 32}, api.Type{Kind: 3, Words: 4, Mask: 6}
	for n := range maxTypes {
		x := made(t, few(n))
		s := x.Put()
		first, second := read(t, s), read(t, s)
		if id, err := first.Add(a); id != n+1 || err != api.OK {
			t.Fatalf("Add: %d, %d; want %d", id, err, n+1)
		}
		if id, err := second.Add(b); id != n+1 || err != api.OK {
			t.Fatalf("Add: %d, %d; want %d", id, err, n+1)
		}
		refuses(t, first, api.Type{}, api.ErrArg)
		is(t, x, few(n))
		is(t, first, append(few(n), a))
		is(t, second, append(few(n), b))
		if s != encode(few(n)) {
			t.Fatalf("the encoding of %d types became %q", n, s)
		}
	}
}

// P6.3: what is read is put as it was, and no other bytes are read: of each byte of an encoding, each value.
func TestP6_3PutOfRead(t *testing.T) {
	counts := [2]int{}
	for _, list := range [][]api.Type{nil, valid[:1], valid[8:9], valid[10:11], valid[16:17], valid, few(maxTypes)} {
		s := []byte(encode(list))
		for at := range s {
			changed := bytes.Clone(s)
			for value := range 256 {
				changed[at] = byte(value)
				x, err := table.Read(string(changed))
				switch {
				case err == api.OK && x.Put() == string(changed):
					counts[0]++
				case err == api.ErrForm && x == nil:
					counts[1]++
				default:
					t.Fatalf("Read(%q): %v, %d", changed, x, err)
				}
			}
		}
	}
	if counts[0] < 1000 || counts[1] < 1000 {
		t.Errorf("%v were read, and were not", counts)
	}
}

// P6.3: what was registered keeps its number and its type, whatever is added, or refused, later.
func TestP6_3Stays(t *testing.T) {
	list := few(maxTypes)
	x := made(t, nil)
	for k, y := range list {
		if _, err := x.Add(y); err != api.OK {
			t.Fatal(err)
		}
		is(t, x, list[:k+1])
		refuses(t, x, notValid[k%len(notValid)], api.ErrArg)
	}
	refuses(t, x, list[0], api.ErrFull)
	is(t, x, list)
}

// pair is a table, and the types that it should have.
type pair struct {
	x    *table.Table
	want []api.Type
}

// step does one thing to one of the tables, and maybe puts another table in the place of one: which is told by a number.
func step(t *testing.T, tables []pair, number uint32) {
	t.Helper()
	from, to := &tables[number%5], &tables[number/5%5]
	y := slices.Concat(valid, valid, notValid)[number/25%uint32(2*len(valid)+len(notValid))]
	switch number >> 16 % 8 {
	case 0:
		*to = pair{from.x.Copy(), slices.Clone(from.want)}
	case 1:
		*to = pair{read(t, from.x.Put()), slices.Clone(from.want)}
	case 2:
		*to = pair{made(t, from.x.All()), slices.Clone(from.want)}
	case 3:
		for k := range from.x.All() {
			from.x.All()[k] = y
		}
	default:
		want := kind.Check(y)
		if want == api.OK && len(from.want) == maxTypes {
			want = api.ErrFull
		}
		if want != api.OK {
			refuses(t, from.x, y, want)
			return
		}
		from.want = append(slices.Clone(from.want), y)
		if id, err := from.x.Add(y); id != len(from.want) || err != api.OK {
			t.Fatalf("Add(%v): %d, %d; want %d", y, id, err, len(from.want))
		}
	}
}

// P6.3: a long row of steps with five tables, each against its list of types.
func TestP6_3Steps(t *testing.T) {
	var tables []pair
	for n := range 5 {
		tables = append(tables, pair{made(t, few(n)), few(n)})
	}
	number, full := uint32(1), 0
	for k := range 4000 {
		number = number*1664525 + 1013904223
		step(t, tables, number>>3)
		for _, p := range tables {
			is(t, p.x, p.want)
			if len(p.want) == maxTypes {
				full++
			}
		}
		if k%1000 == 999 {
			tables[0] = pair{made(t, nil), nil}
		}
	}
	if full == 0 {
		t.Error("no table was ever full")
	}
}
