package runs_test

import (
	"math"
	"slices"
	"testing"

	"skerry/api"
	"skerry/runs"
)

// most is how many numbers there are.
const most = 1 << 16

// window is how many numbers the sets have that all are tried.
const window = 7

// bases are where such a window may begin: at the first number, anywhere, and so that it ends with the last one.
var bases = []int{0, 1, 63, 1000, most - window - 1, most - window}

// notRuns are runs that are not valid.
var notRuns = []api.Run{
	{At: -1, Len: 1}, {At: -1, Len: 2}, {At: -1, Len: most}, {At: -1, Len: most + 1}, {At: -1, Len: 0}, {At: -1, Len: -1}, {At: -2, Len: 5}, {At: -most, Len: most + 1},
	{At: 0, Len: 0}, {At: 0, Len: -1}, {At: 3, Len: 0}, {At: 3, Len: -3}, {At: 4, Len: -1}, {At: most - 1, Len: 0}, {At: most, Len: 0}, {At: most, Len: -1}, {At: most + 1, Len: -1}, {At: most + 1, Len: -2},
	{At: 0, Len: most + 1}, {At: 1, Len: most}, {At: 3, Len: most - 2}, {At: most / 2, Len: most/2 + 1}, {At: most - 1, Len: 2}, {At: most, Len: 1}, {At: most + 1, Len: 1}, {At: 1 << 32, Len: 1}, {At: 1, Len: 1 << 32},
	{At: math.MaxInt, Len: 1}, {At: 1, Len: math.MaxInt}, {At: 0, Len: math.MaxInt}, {At: math.MaxInt, Len: math.MaxInt}, {At: math.MaxInt, Len: 0}, {At: most, Len: math.MaxInt}, {At: math.MaxInt, Len: most},
	{At: 1 << 62, Len: 1 << 62}, {At: math.MaxInt - 1, Len: 3}, {At: 3, Len: math.MaxInt - 2}, {At: math.MaxInt, Len: math.MinInt}, {At: math.MinInt, Len: math.MaxInt},
	{At: math.MinInt, Len: 1}, {At: math.MinInt, Len: 0}, {At: math.MinInt, Len: math.MinInt}, {At: 0, Len: math.MinInt}, {At: 1, Len: math.MinInt}, {At: 3, Len: math.MinInt + 1}, {At: -1, Len: math.MaxInt}, {At: -1, Len: math.MinInt},
}

// notNumbers are numbers that no set has.
var notNumbers = []int{-1, -2, -64, -most, -1 << 32, math.MinInt + 1, math.MinInt, most, most + 1, 2 * most, 1 << 32, 1 << 62, math.MaxInt - 1, math.MaxInt}

// model is what a set should be: which numbers it has.
type model map[int]int

// runs returns the maximal ranges.
func (m model) runs() []api.Run {
	var list []api.Run
	var numbers []int
	for i := range m {
		numbers = append(numbers, i)
	}
	slices.Sort(numbers)
	for k, i := range numbers {
		if k > 0 && numbers[k-1] == i-1 {
			list[len(list)-1].Len++
		} else {
			list = append(list, api.Run{At: i, Len: 1})
		}
	}
	return list
}

// has returns how many numbers of r there are.
func (m model) has(r api.Run) int {
	count := 0
	for i := r.At; i < r.At+r.Len; i++ {
		count += m[i]
	}
	return count
}

// add adds the numbers of r, if there is none of them.
func (m model) add(r api.Run) api.Errno {
	if m.has(r) > 0 {
		return api.ErrHave
	}
	for i := r.At; i < r.At+r.Len; i++ {
		m[i] = 1
	}
	return api.OK
}

// cut removes the numbers of r, if there are all of them.
func (m model) cut(r api.Run) api.Errno {
	if m.has(r) < r.Len {
		return api.ErrNone
	}
	for i := r.At; i < r.At+r.Len; i++ {
		delete(m, i)
	}
	return api.OK
}

// of returns the maximal range that has i.
func (m model) of(i int) (api.Run, bool) {
	for _, r := range m.runs() {
		if r.At <= i && i < r.At+r.Len {
			return r, true
		}
	}
	return api.Run{}, false
}

// first tries one number after the other, up to behind all of them.
func (m model) first(n, from, behind int) (api.Run, bool) {
	for at := max(from, 0); n > 0 && at+n <= behind; at++ {
		if r := (api.Run{At: at, Len: n}); m.has(r) == n {
			return r, true
		}
	}
	return api.Run{}, false
}

// set returns a set to which these runs were added, and what it should be.
func set(t *testing.T, list ...api.Run) (*runs.Runs, model) {
	t.Helper()
	s, m := runs.New(), model{}
	for _, r := range list {
		m.add(r)
		if err := s.Add(r); err != api.OK {
			t.Fatalf("Add(%v): %d", r, err)
		}
	}
	return s, m
}

// all calls f for each set of a window from base on, with a name.
func all(t *testing.T, base int, f func(name []api.Run, s *runs.Runs, m model)) {
	t.Helper()
	for which := range 1 << window {
		m := model{}
		for i := range window {
			if which>>i&1 == 1 {
				m[base+i] = 1
			}
		}
		s, _ := set(t, m.runs()...)
		f(m.runs(), s, m)
	}
}

// each calls f for each run of a window from base on.
func each(base int, f func(r api.Run)) {
	for at := range window {
		for n := 1; n <= window-at; n++ {
			f(api.Run{At: base + at, Len: n})
		}
	}
}

// holds reports an error unless s has exactly these runs, asked in all ways.
func holds(t *testing.T, name any, s *runs.Runs, want []api.Run) {
	t.Helper()
	if got := s.List(); !slices.Equal(got, want) {
		t.Fatalf("%v: List: %v; want %v", name, got, want)
	}
	total := 0
	for _, r := range want {
		total += r.Len
	}
	if got := s.Total(); got != total {
		t.Fatalf("%v: Total: %d; want %d", name, got, total)
	}
	for _, r := range want {
		end := r.At + r.Len
		within(t, name, s, r, r.At, r.At+r.Len/2, end-1)
		for _, i := range []int{r.At - 1, end} {
			if got, is := s.Of(i); got != (api.Run{}) || is || s.Has(i) {
				t.Fatalf("%v: %d, beside %v: Of: %v, %t; Has: %t", name, i, r, got, is, s.Has(i))
			}
		}
	}
}

// within reports an error unless the run r of s is that of each of these numbers.
func within(t *testing.T, name any, s *runs.Runs, r api.Run, numbers ...int) {
	t.Helper()
	for _, i := range numbers {
		if got, is := s.Of(i); got != r || !is || !s.Has(i) {
			t.Fatalf("%v: %d, of %v: Of: %v, %t; Has: %t", name, i, r, got, is, s.Has(i))
		}
	}
}

// P4.1: a set has no runs, and shares nothing with another one.
func TestP4_1New(t *testing.T) {
	s, other := runs.New(), runs.New()
	if s == nil || other == nil || s == other {
		t.Fatalf("New: %p and %p", s, other)
	}
	holds(t, "new", s, nil)
	for i := -3; i <= most+3; i++ {
		if s.Has(i) {
			t.Fatalf("Has(%d)", i)
		}
	}
	if got, is := s.First(1, 0); got != (api.Run{}) || is {
		t.Errorf("First: %v, %t", got, is)
	}
	s.Add(api.Run{At: 0, Len: most})
	holds(t, "another one", other, nil)
	holds(t, "one after it", runs.New(), nil)
}

// P4.1: each run is added to each set of a window.
func TestP4_1AddAll(t *testing.T) {
	doAll(t, (*runs.Runs).Add, model.add)
}

// P4.1: each run is cut from each set of a window.
func TestP4_1CutAll(t *testing.T) {
	doAll(t, (*runs.Runs).Cut, model.cut)
}

// doAll does it with each run to each set of a window, and to what that should be.
func doAll(t *testing.T, do func(*runs.Runs, api.Run) api.Errno, should func(model, api.Run) api.Errno) {
	t.Helper()
	for _, base := range bases {
		each(base, func(r api.Run) {
			all(t, base, func(name []api.Run, s *runs.Runs, m model) {
				want := should(m, r)
				if err := do(s, r); err != want {
					t.Fatalf("%v: with %v: %d; want %d", name, r, err, want)
				}
				holds(t, []any{name, "with", r}, s, m.runs())
			})
		})
	}
}

// step is what is done with a run to a set, and what comes of it.
type step struct {
	name string
	set  []api.Run
	r    api.Run
	err  api.Errno
	want []api.Run
}

// doSteps does it with each step's run to its set.
func doSteps(t *testing.T, do func(*runs.Runs, api.Run) api.Errno, steps []step) {
	t.Helper()
	for _, x := range steps {
		s, _ := set(t, x.set...)
		if err := do(s, x.r); err != x.err {
			t.Errorf("%s: %d; want %d", x.name, err, x.err)
		}
		holds(t, x.name, s, x.want)
	}
}

// P4.1: Add at the edges that matter, written out.
func TestP4_1Add(t *testing.T) {
	two := []api.Run{{At: 10, Len: 5}, {At: 20, Len: 5}}
	doSteps(t, (*runs.Runs).Add, []step{
		{"into none", nil, api.Run{At: 7, Len: 2}, api.OK, []api.Run{{At: 7, Len: 2}}},
		{"one number", nil, api.Run{At: 7, Len: 1}, api.OK, []api.Run{{At: 7, Len: 1}}},
		{"from 0 on", nil, api.Run{At: 0, Len: 1}, api.OK, []api.Run{{At: 0, Len: 1}}},
		{"the last number", nil, api.Run{At: 65535, Len: 1}, api.OK, []api.Run{{At: 65535, Len: 1}}},
		{"up to the last number", nil, api.Run{At: 65000, Len: 536}, api.OK, []api.Run{{At: 65000, Len: 536}}},
		{"all numbers", nil, api.Run{At: 0, Len: 65536}, api.OK, []api.Run{{At: 0, Len: 65536}}},
		{"before all", two, api.Run{At: 2, Len: 3}, api.OK, []api.Run{{At: 2, Len: 3}, {At: 10, Len: 5}, {At: 20, Len: 5}}},
		{"behind all", two, api.Run{At: 30, Len: 3}, api.OK, []api.Run{{At: 10, Len: 5}, {At: 20, Len: 5}, {At: 30, Len: 3}}},
		{"between", two, api.Run{At: 17, Len: 1}, api.OK, []api.Run{{At: 10, Len: 5}, {At: 17, Len: 1}, {At: 20, Len: 5}}},
		{"a gap of one on both sides", two, api.Run{At: 16, Len: 3}, api.OK, []api.Run{{At: 10, Len: 5}, {At: 16, Len: 3}, {At: 20, Len: 5}}},
		{"a gap of one above it", two, api.Run{At: 3, Len: 6}, api.OK, []api.Run{{At: 3, Len: 6}, {At: 10, Len: 5}, {At: 20, Len: 5}}},
		{"a gap of one below it", two, api.Run{At: 26, Len: 6}, api.OK, []api.Run{{At: 10, Len: 5}, {At: 20, Len: 5}, {At: 26, Len: 6}}},
		{"touching the one below", two, api.Run{At: 15, Len: 2}, api.OK, []api.Run{{At: 10, Len: 7}, {At: 20, Len: 5}}},
		{"touching the one above", two, api.Run{At: 18, Len: 2}, api.OK, []api.Run{{At: 10, Len: 5}, {At: 18, Len: 7}}},
		{"touching both", two, api.Run{At: 15, Len: 5}, api.OK, []api.Run{{At: 10, Len: 15}}},
		{"touching the first from below", two, api.Run{At: 0, Len: 10}, api.OK, []api.Run{{At: 0, Len: 15}, {At: 20, Len: 5}}},
		{"touching the last from above", two, api.Run{At: 25, Len: 65511}, api.OK, []api.Run{{At: 10, Len: 5}, {At: 20, Len: 65516}}},
		{"the same", two, api.Run{At: 10, Len: 5}, api.ErrHave, two},
		{"over its first", two, api.Run{At: 8, Len: 3}, api.ErrHave, two},
		{"over its last", two, api.Run{At: 14, Len: 3}, api.ErrHave, two},
		{"over the last of the last", two, api.Run{At: 24, Len: 9}, api.ErrHave, two},
		{"within it", two, api.Run{At: 11, Len: 2}, api.ErrHave, two},
		{"covering it", two, api.Run{At: 9, Len: 7}, api.ErrHave, two},
		{"covering both", two, api.Run{At: 5, Len: 30}, api.ErrHave, two},
		{"from one to the other", two, api.Run{At: 14, Len: 7}, api.ErrHave, two},
		{"touching one, over the other", two, api.Run{At: 15, Len: 6}, api.ErrHave, two},
		{"all, over some", two, api.Run{At: 0, Len: 65536}, api.ErrHave, two},
		{"one, over all", []api.Run{{At: 0, Len: 65536}}, api.Run{At: 65535, Len: 1}, api.ErrHave, []api.Run{{At: 0, Len: 65536}}},
		{"all but the first, then it", []api.Run{{At: 1, Len: 65535}}, api.Run{At: 0, Len: 1}, api.OK, []api.Run{{At: 0, Len: 65536}}},
		{"all but the last, then it", []api.Run{{At: 0, Len: 65535}}, api.Run{At: 65535, Len: 1}, api.OK, []api.Run{{At: 0, Len: 65536}}},
	})
}

// P4.1: Cut at the edges that matter, written out.
func TestP4_1Cut(t *testing.T) {
	two := []api.Run{{At: 10, Len: 5}, {At: 20, Len: 5}}
	doSteps(t, (*runs.Runs).Cut, []step{
		{"of none", nil, api.Run{At: 0, Len: 1}, api.ErrNone, nil},
		{"the first", two, api.Run{At: 10, Len: 5}, api.OK, []api.Run{{At: 20, Len: 5}}},
		{"the last", two, api.Run{At: 20, Len: 5}, api.OK, []api.Run{{At: 10, Len: 5}}},
		{"the one between", []api.Run{{At: 1, Len: 2}, {At: 4, Len: 2}, {At: 7, Len: 2}}, api.Run{At: 4, Len: 2}, api.OK, []api.Run{{At: 1, Len: 2}, {At: 7, Len: 2}}},
		{"the only one", []api.Run{{At: 3, Len: 4}}, api.Run{At: 3, Len: 4}, api.OK, nil},
		{"its beginning", two, api.Run{At: 20, Len: 2}, api.OK, []api.Run{{At: 10, Len: 5}, {At: 22, Len: 3}}},
		{"its end", two, api.Run{At: 13, Len: 2}, api.OK, []api.Run{{At: 10, Len: 3}, {At: 20, Len: 5}}},
		{"its midst", two, api.Run{At: 21, Len: 3}, api.OK, []api.Run{{At: 10, Len: 5}, {At: 20, Len: 1}, {At: 24, Len: 1}}},
		{"its first number", two, api.Run{At: 10, Len: 1}, api.OK, []api.Run{{At: 11, Len: 4}, {At: 20, Len: 5}}},
		{"its last number", two, api.Run{At: 24, Len: 1}, api.OK, []api.Run{{At: 10, Len: 5}, {At: 20, Len: 4}}},
		{"a number within it", two, api.Run{At: 12, Len: 1}, api.OK, []api.Run{{At: 10, Len: 2}, {At: 13, Len: 2}, {At: 20, Len: 5}}},
		{"the only number", []api.Run{{At: 0, Len: 1}}, api.Run{At: 0, Len: 1}, api.OK, nil},
		{"all numbers", []api.Run{{At: 0, Len: 65536}}, api.Run{At: 0, Len: 65536}, api.OK, nil},
		{"the first of all", []api.Run{{At: 0, Len: 65536}}, api.Run{At: 0, Len: 1}, api.OK, []api.Run{{At: 1, Len: 65535}}},
		{"the last of all", []api.Run{{At: 0, Len: 65536}}, api.Run{At: 65535, Len: 1}, api.OK, []api.Run{{At: 0, Len: 65535}}},
		{"all but the ends", []api.Run{{At: 0, Len: 65536}}, api.Run{At: 1, Len: 65534}, api.OK, []api.Run{{At: 0, Len: 1}, {At: 65535, Len: 1}}},
		{"over a gap", two, api.Run{At: 10, Len: 15}, api.ErrNone, two},
		{"over a gap, from within", two, api.Run{At: 14, Len: 7}, api.ErrNone, two},
		{"over a gap of one", []api.Run{{At: 1, Len: 2}, {At: 4, Len: 2}}, api.Run{At: 2, Len: 3}, api.ErrNone, []api.Run{{At: 1, Len: 2}, {At: 4, Len: 2}}},
		{"from the number below it", two, api.Run{At: 9, Len: 2}, api.ErrNone, two},
		{"to the number above it", two, api.Run{At: 14, Len: 2}, api.ErrNone, two},
		{"to the number above the last", two, api.Run{At: 20, Len: 6}, api.ErrNone, two},
		{"around it", two, api.Run{At: 9, Len: 7}, api.ErrNone, two},
		{"around both", two, api.Run{At: 0, Len: 65536}, api.ErrNone, two},
		{"below all", two, api.Run{At: 8, Len: 2}, api.ErrNone, two},
		{"between", two, api.Run{At: 15, Len: 5}, api.ErrNone, two},
		{"above all", two, api.Run{At: 25, Len: 1}, api.ErrNone, two},
	})
}

// P4.1: exactly the runs are valid that begin at 0 or above, have a number, and end with the last number or below.
func TestP4_1Valid(t *testing.T) {
	edges := []int{-3, -2, -1, 0, 1, 2, 3, 63, 64, most/2 - 1, most / 2, most/2 + 1, most - 3, most - 2, most - 1, most, most + 1, most + 2}
	for _, at := range edges {
		for _, n := range edges {
			r, want := api.Run{At: at, Len: n}, api.ErrArg
			if at >= 0 && n >= 1 && at+n <= most {
				want = api.OK
			}
			s, full := runs.New(), runs.New()
			full.Add(api.Run{At: 0, Len: most})
			if err := s.Add(r); err != want {
				t.Errorf("Add(%v): %d; want %d", r, err, want)
			}
			if err := full.Cut(r); err != want {
				t.Errorf("Cut(%v): %d; want %d", r, err, want)
			}
			if want == api.OK {
				holds(t, r, s, []api.Run{r})
				if full.Total() != most-n {
					t.Errorf("%v, cut, left %v", r, full.List())
				}
			} else {
				holds(t, r, s, nil)
				holds(t, r, full, []api.Run{{At: 0, Len: most}})
			}
		}
	}
}

// P4.1: a run that is not valid is refused, whatever the set has, and nothing changes.
func TestP4_1Refused(t *testing.T) {
	for _, list := range [][]api.Run{
		nil, {{At: 0, Len: 1}}, {{At: 3, Len: 1}}, {{At: 0, Len: 4}, {At: 8, Len: 2}, {At: most - 1, Len: 1}}, {{At: most - 5, Len: 5}}, {{At: 0, Len: most}},
	} {
		s, _ := set(t, list...)
		for _, r := range notRuns {
			if err := s.Add(r); err != api.ErrArg {
				t.Errorf("%v: Add(%v): %d", list, r, err)
			}
			holds(t, r, s, list)
			if err := s.Cut(r); err != api.ErrArg {
				t.Errorf("%v: Cut(%v): %d", list, r, err)
			}
			holds(t, r, s, list)
		}
	}
}

// P4.1: a nil set takes and gives nothing: that is named first.
func TestP4_1Nil(t *testing.T) {
	var s *runs.Runs
	for _, r := range append([]api.Run{{At: 0, Len: 1}, {At: 4, Len: 2}, {At: 0, Len: most}}, notRuns...) {
		if err := s.Add(r); err != api.ErrNil {
			t.Errorf("Add(%v): %d", r, err)
		}
		if err := s.Cut(r); err != api.ErrNil {
			t.Errorf("Cut(%v): %d", r, err)
		}
	}
}

// P4.2: Has and Of of each number in and about each set of a window.
func TestP4_2HasOf(t *testing.T) {
	for _, base := range bases {
		all(t, base, func(name []api.Run, s *runs.Runs, m model) {
			for i := base - 3; i <= base+window+3; i++ {
				want, is := m.of(i)
				if got, has := s.Of(i); got != want || has != is {
					t.Fatalf("%v: Of(%d) = %v, %t; want %v, %t", name, i, got, has, want, is)
				}
				if s.Has(i) != is {
					t.Fatalf("%v: Has(%d) = %t", name, i, !is)
				}
			}
			holds(t, name, s, m.runs())
		})
	}
}

// P4.2: no set has a number that is none, not even that of all.
func TestP4_2NotNumbers(t *testing.T) {
	for _, list := range [][]api.Run{nil, {{At: 0, Len: 1}}, {{At: most - 1, Len: 1}}, {{At: 0, Len: most}}} {
		s, _ := set(t, list...)
		for _, i := range notNumbers {
			if got, is := s.Of(i); got != (api.Run{}) || is || s.Has(i) {
				t.Errorf("%v: %d: Of: %v, %t; Has: %t", list, i, got, is, s.Has(i))
			}
		}
	}
}

// P4.2: First of each length, from each number in and about each set of a window.
func TestP4_2FirstAll(t *testing.T) {
	for _, base := range bases {
		all(t, base, func(name []api.Run, s *runs.Runs, m model) {
			for n := -2; n <= window+2; n++ {
				for from := base - 2; from <= base+window+2; from++ {
					want, found := m.first(n, from, base+window)
					if got, is := s.First(n, from); got != want || is != found {
						t.Fatalf("%v: First(%d, %d) = %v, %t; want %v, %t", name, n, from, got, is, want, found)
					}
				}
			}
			holds(t, name, s, m.runs())
		})
	}
}

// P4.2: First at the edges that matter, written out.
func TestP4_2First(t *testing.T) {
	three := []api.Run{{At: 3, Len: 2}, {At: 7, Len: 4}, {At: 20, Len: 4}}
	whole := []api.Run{{At: 0, Len: most}}
	none := api.Run{}
	for _, x := range []struct {
		name    string
		set     []api.Run
		n, from int
		want    api.Run
		is      bool
	}{
		{"fits the first just", three, 2, 0, api.Run{At: 3, Len: 2}, true},
		{"fits the first, and more", three, 1, 0, api.Run{At: 3, Len: 1}, true},
		{"fits a later one only", three, 3, 0, api.Run{At: 7, Len: 3}, true},
		{"fits a later one just", three, 4, 0, api.Run{At: 7, Len: 4}, true},
		{"fits none", three, 5, 0, none, false},
		{"fits none, but all together", three, 10, 0, none, false},
		{"of an empty set", nil, 1, 0, none, false},
		{"from a run's first number", three, 2, 3, api.Run{At: 3, Len: 2}, true},
		{"from within a run", three, 2, 8, api.Run{At: 8, Len: 2}, true},
		{"from within a run, all that is left", three, 3, 8, api.Run{At: 8, Len: 3}, true},
		{"from within a run that is too short then", three, 4, 8, api.Run{At: 20, Len: 4}, true},
		{"from a run's last number", three, 1, 4, api.Run{At: 4, Len: 1}, true},
		{"from a run's last number, two", three, 2, 4, api.Run{At: 7, Len: 2}, true},
		{"from behind a run", three, 1, 5, api.Run{At: 7, Len: 1}, true},
		{"from just below a run", three, 4, 6, api.Run{At: 7, Len: 4}, true},
		{"from the last number", three, 1, 23, api.Run{At: 23, Len: 1}, true},
		{"from the last number, two", three, 2, 23, none, false},
		{"from behind all", three, 1, 24, none, false},
		{"from far behind all", three, 1, most, none, false},
		{"from the greatest", three, 1, math.MaxInt, none, false},
		{"from a negative one", three, 3, -9, api.Run{At: 7, Len: 3}, true},
		{"from the least", three, 1, math.MinInt, api.Run{At: 3, Len: 1}, true},
		{"0", three, 0, 0, none, false},
		{"0 behind all", three, 0, 100, none, false},
		{"-1", three, -1, 3, none, false},
		{"the least", three, math.MinInt, 3, none, false},
		{"the least, from the greatest", three, math.MinInt, math.MaxInt, none, false},
		{"the least, from the least", three, math.MinInt, math.MinInt, none, false},
		{"all", whole, most, 0, api.Run{At: 0, Len: most}, true},
		{"all, from the least", whole, most, math.MinInt, api.Run{At: 0, Len: most}, true},
		{"all, from 1", whole, most, 1, none, false},
		{"all but the first", whole, most - 1, 1, api.Run{At: 1, Len: most - 1}, true},
		{"the last", whole, 1, most - 1, api.Run{At: most - 1, Len: 1}, true},
		{"behind the last", whole, 1, most, none, false},
		{"more than all", whole, most + 1, 0, none, false},
		{"more than all, from a negative one", whole, most + 1, -1, none, false},
		{"the greatest", whole, math.MaxInt, 0, none, false},
		{"the greatest, from 1", whole, math.MaxInt, 1, none, false},
		{"the greatest, from the greatest", whole, math.MaxInt, math.MaxInt, none, false},
		{"the greatest, from the least", whole, math.MaxInt, math.MinInt, none, false},
		{"half the greatest twice", whole, 1 << 62, 1 << 62, none, false},
	} {
		s, _ := set(t, x.set...)
		if got, is := s.First(x.n, x.from); got != x.want || is != x.is {
			t.Errorf("%s: First(%d, %d) = %v, %t; want %v, %t", x.name, x.n, x.from, got, is, x.want, x.is)
		}
		holds(t, x.name, s, x.set)
	}
}

// P4.2: List and Total of no run, and of as many as there may be.
func TestP4_2ListTotal(t *testing.T) {
	holds(t, "empty", runs.New(), nil)
	s := runs.New()
	var want []api.Run
	for i := most - 2; i >= 0; i -= 2 {
		if err := s.Add(api.Run{At: i, Len: 1}); err != api.OK {
			t.Fatalf("Add of %d: %d", i, err)
		}
		want = append(want, api.Run{At: i, Len: 1})
	}
	slices.Reverse(want)
	if got := s.List(); !slices.Equal(got, want) || s.Total() != most/2 {
		t.Errorf("%d runs, %d numbers; want %d of each", len(got), s.Total(), len(want))
	}
	c := s.Copy()
	if got := c.List(); !slices.Equal(got, want) || c.Total() != most/2 {
		t.Errorf("the copy: %d runs, %d numbers; want %d of each", len(got), c.Total(), len(want))
	}
	for i := 1; i < 4001; i += 2 {
		if err := s.Add(api.Run{At: i, Len: 1}); err != api.OK {
			t.Fatalf("Add of %d: %d", i, err)
		}
	}
	if got, is := s.Of(7); got != (api.Run{At: 0, Len: 4001}) || !is || s.Total() != most/2+2000 {
		t.Errorf("Of(7) = %v, %t; Total: %d", got, is, s.Total())
	}
}

// P4.2: a list that its caller changes changes no set, and a set that is changed no list.
func TestP4_2ListCopied(t *testing.T) {
	want := []api.Run{{At: 3, Len: 2}, {At: 62, Len: 4}}
	s, _ := set(t, want...)
	first, second := s.List(), s.List()
	first[0], first[1] = api.Run{At: 1, Len: 1}, api.Run{}
	_ = append(first[:1], api.Run{At: 5, Len: 5})
	if !slices.Equal(second, want) {
		t.Errorf("List became %v", second)
	}
	holds(t, "a list changed", s, want)
	s.Add(api.Run{At: 5, Len: 1})
	s.Cut(api.Run{At: 63, Len: 1})
	s.Cut(api.Run{At: 3, Len: 1})
	if !slices.Equal(second, want) {
		t.Errorf("List changed with the set: %v", second)
	}
	holds(t, "behind a list", s, []api.Run{{At: 4, Len: 2}, {At: 62, Len: 1}, {At: 64, Len: 2}})
}

// P4.2: a copy is equal, and neither of both is changed by what is done to the other one.
func TestP4_2Copy(t *testing.T) {
	for _, base := range bases {
		each(base, func(r api.Run) {
			all(t, base, func(name []api.Run, s *runs.Runs, m model) {
				before := m.runs()
				c := s.Copy()
				if c == nil || c == s {
					t.Fatalf("%v: the copy of %p is %p", name, s, c)
				}
				holds(t, "a copy", c, before)
				if c.Add(r) == api.OK {
					m.add(r)
				} else if c.Cut(r) == api.OK {
					m.cut(r)
				}
				holds(t, "a copy, changed", c, m.runs())
				holds(t, "an original of a changed copy", s, before)
				changes(s, r)
				holds(t, "a copy of a changed original", c, m.runs())
			})
		})
	}
}

// changes cuts all from s, and adds r.
func changes(s *runs.Runs, r api.Run) {
	for _, x := range s.List() {
		s.Cut(x)
	}
	s.Add(r)
}

// P4.2: a copy of a copy, and one of an empty set.
func TestP4_2CopyTwice(t *testing.T) {
	s := runs.New()
	c := s.Copy()
	c.Add(api.Run{At: 0, Len: 2})
	d := c.Copy()
	d.Add(api.Run{At: 2, Len: 2})
	d.Add(api.Run{At: 8, Len: 1})
	c.Cut(api.Run{At: 0, Len: 1})
	holds(t, "the first", s, nil)
	holds(t, "its copy", c, []api.Run{{At: 1, Len: 1}})
	holds(t, "the copy of that", d, []api.Run{{At: 0, Len: 4}, {At: 8, Len: 1}})
}

// P4.2: a nil set has nothing.
func TestP4_2Nil(t *testing.T) {
	var s *runs.Runs
	for _, i := range append([]int{0, 1, 64, most - 1}, notNumbers...) {
		if got, is := s.Of(i); got != (api.Run{}) || is || s.Has(i) {
			t.Errorf("%d: Of: %v, %t; Has: %t", i, got, is, s.Has(i))
		}
		for _, n := range append([]int{0, 1, most}, notNumbers...) {
			if got, is := s.First(n, i); got != (api.Run{}) || is {
				t.Errorf("First(%d, %d) = %v, %t", n, i, got, is)
			}
		}
	}
	if got := s.List(); len(got) != 0 || s.Total() != 0 {
		t.Errorf("List: %v; Total: %d", got, s.Total())
	}
	if c := s.Copy(); c != nil {
		t.Errorf("Copy: %v", c)
	}
}

// P4.2: the chapter's examples.
func TestP4_2Examples(t *testing.T) {
	s, _ := set(t, api.Run{At: 4, Len: 2}, api.Run{At: 8, Len: 2}, api.Run{At: 6, Len: 2})
	holds(t, "three", s, []api.Run{{At: 4, Len: 6}})
	if err := s.Cut(api.Run{At: 5, Len: 3}); err != api.OK {
		t.Errorf("Cut: %d", err)
	}
	holds(t, "cut", s, []api.Run{{At: 4, Len: 1}, {At: 8, Len: 2}})
	if got, is := s.First(2, 0); got != (api.Run{At: 8, Len: 2}) || !is {
		t.Errorf("First(2, 0) = %v, %t", got, is)
	}
	if got, is := s.First(1, 5); got != (api.Run{At: 8, Len: 1}) || !is {
		t.Errorf("First(1, 5) = %v, %t", got, is)
	}
	if err := s.Add(api.Run{At: 0, Len: 5}); err != api.ErrHave {
		t.Errorf("Add: %d", err)
	}
	if err := s.Cut(api.Run{At: 4, Len: 2}); err != api.ErrNone {
		t.Errorf("Cut: %d", err)
	}
	holds(t, "refused", s, []api.Run{{At: 4, Len: 1}, {At: 8, Len: 2}})
}

// draws returns a function that draws numbers below what it is given, the same ones each time.
func draws() func(below int) int {
	seed := uint64(1)
	return func(below int) int {
		seed = seed*6364136223846793005 + 1442695040888963407
		return int((seed >> 33) % uint64(below))
	}
}

// P4.3: after each of many steps, the set has what was added and not removed, as maximal ranges.
func TestP4_3Steps(t *testing.T) {
	for _, base := range []int{0, 500, most - 40} {
		s, m, next := runs.New(), model{}, draws()
		done := map[api.Errno]int{}
		for range 6000 {
			r := api.Run{At: base + next(40)}
			r.Len = 1 + next(min(6, base+40-r.At))
			var err, want api.Errno
			if next(2) == 0 {
				err, want = s.Add(r), m.add(r)
			} else {
				err, want = s.Cut(r), m.cut(r)
			}
			if err != want {
				t.Fatalf("a step with %v: %d; want %d", r, err, want)
			}
			done[err]++
			holds(t, r, s, m.runs())
		}
		if done[api.OK] < 1000 || done[api.ErrHave] < 500 || done[api.ErrNone] < 500 {
			t.Errorf("from %d on, the steps did not do enough: %v", base, done)
		}
	}
}

// P4.3: the same runs, added in any order, are the same set; and cut in any order, none.
func TestP4_3Orders(t *testing.T) {
	for _, list := range [][]api.Run{
		{{At: 0, Len: 1}, {At: 1, Len: 2}, {At: 3, Len: 1}, {At: 4, Len: 3}, {At: 7, Len: 1}},
		{{At: 0, Len: 2}, {At: 3, Len: 1}, {At: 5, Len: 2}, {At: 8, Len: 1}, {At: 10, Len: 3}},
		{{At: 5, Len: 2}, {At: 7, Len: 1}, {At: 9, Len: 1}, {At: 10, Len: 4}, {At: 15, Len: 1}},
		{{At: 0, Len: 9}, {At: 9, Len: most - 18}, {At: most - 9, Len: 8}, {At: most - 1, Len: 1}},
	} {
		_, m := set(t, list...)
		want := m.runs()
		orders(list, func(added []api.Run) {
			s, _ := set(t, added...)
			holds(t, added, s, want)
		})
		orders(list, func(cut []api.Run) {
			s, _ := set(t, list...)
			for _, r := range cut {
				if err := s.Cut(r); err != api.OK {
					t.Fatalf("of %v, Cut(%v): %d", cut, r, err)
				}
			}
			holds(t, cut, s, nil)
		})
	}
}

// orders calls f with all orders of the list.
func orders(list []api.Run, f func([]api.Run)) {
	var place func(done, left []api.Run)
	place = func(done, left []api.Run) {
		if len(left) == 0 {
			f(done)
		}
		for k, r := range left {
			place(append(slices.Clone(done), r), slices.Delete(slices.Clone(left), k, k+1))
		}
	}
	place(nil, list)
}

// P4.3: to cut what was added, and to add what was cut, restores each set of a window.
func TestP4_3Restores(t *testing.T) {
	for _, base := range bases {
		each(base, func(r api.Run) {
			all(t, base, func(name []api.Run, s *runs.Runs, m model) {
				switch {
				case s.Add(r) == api.OK:
					if err := s.Cut(r); err != api.OK {
						t.Fatalf("%v: %v, added, Cut: %d", name, r, err)
					}
				case s.Cut(r) == api.OK:
					if err := s.Add(r); err != api.OK {
						t.Fatalf("%v: %v, cut, Add: %d", name, r, err)
					}
				}
				holds(t, name, s, m.runs())
			})
		})
	}
}

// P4.3: the only run is cut away, then added again, time and again.
func TestP4_3OnlyRun(t *testing.T) {
	for _, r := range []api.Run{{At: 0, Len: 1}, {At: 5, Len: 3}, {At: most - 1, Len: 1}, {At: 0, Len: most}} {
		s := runs.New()
		for range 3 {
			if err := s.Add(r); err != api.OK {
				t.Fatalf("Add(%v): %d", r, err)
			}
			holds(t, r, s, []api.Run{r})
			if err := s.Add(r); err != api.ErrHave {
				t.Fatalf("Add(%v) again: %d", r, err)
			}
			if err := s.Cut(r); err != api.OK {
				t.Fatalf("Cut(%v): %d", r, err)
			}
			holds(t, r, s, nil)
			if err := s.Cut(r); err != api.ErrNone {
				t.Fatalf("Cut(%v) again: %d", r, err)
			}
		}
	}
}

// P4.3: the runs of each set rise, and none touches the next.
func TestP4_3Apart(t *testing.T) {
	s, next := runs.New(), draws()
	for range 3000 {
		r := api.Run{At: next(most)}
		r.Len = 1 + next(min(60, most-r.At))
		if s.Add(r) != api.OK {
			s.Cut(api.Run{At: r.At, Len: 1 + next(r.Len)})
		}
	}
	end, total, list := -1, 0, s.List()
	for _, r := range list {
		if r.At <= end || r.Len < 1 || r.At+r.Len > most {
			t.Fatalf("the run %v behind %d", r, end)
		}
		end, total = r.At+r.Len, total+r.Len
	}
	if len(list) < 100 || s.Total() != total {
		t.Errorf("%d runs of %d numbers; Total: %d", len(list), total, s.Total())
	}
}
