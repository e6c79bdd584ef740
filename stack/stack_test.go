package stack_test

import (
	"math"
	"slices"
	"testing"

	"skerry/api"
	"skerry/stack"
)

// How many words a stack has at most, and how many frames.
const (
	mostWords  = 4096
	mostFrames = 256
)

// wrongMax are numbers of words that no stack can have at most.
var wrongMax = []int{-1, -2, -64, -4096, -1 << 32, math.MinInt + 1, math.MinInt, 4097, 4098, 8192, 65536, 1 << 32, 1<<32 + 1, math.MaxInt - 1, math.MaxInt}

// wrongAt are places that no word of any stack has.
var wrongAt = []int{-1, -2, -3, -256, -4096, -1 << 32, 1 - 1<<32, math.MinInt + 2, math.MinInt + 1, math.MinInt, 4096, 4097, 65536, 1 << 32, 1<<32 + 1, 1 << 62, math.MaxInt - 1, math.MaxInt}

// kinds are words of which some look like addresses, headers, or errors.
var kinds = []uint64{0, 1, 2, 3, 4, 140, 141, 4096, 65535, 65536, 1 << 32, 1<<32 + 1, 1 << 40, 1 << 63, 1<<63 - 1, 1<<64 - 2, 1<<64 - 1}

// world is a stack, and what it must be. Its words are kept in levels: the first one has those below all frames, and each frame has one of its own.
type world struct {
	*testing.T
	s      *stack.Stack
	max    int
	levels [][]uint64
}

// fresh returns a world without words and frames.
func fresh(t *testing.T, max int) *world {
	t.Helper()
	s, err := stack.New(max)
	if s == nil || err != api.OK {
		t.Fatalf("New(%d): %v, %d", max, s, err)
	}
	w := &world{T: t, s: s, max: max, levels: [][]uint64{{}}}
	w.same()
	return w
}

// built returns a world with these levels, the first one of which is below all frames.
func built(t *testing.T, max int, levels ...[]uint64) *world {
	t.Helper()
	w := fresh(t, max)
	for k, words := range levels {
		if k > 0 {
			w.enter()
		}
		for _, v := range words {
			w.push(v)
		}
	}
	return w.same()
}

// count returns n words, which go up from this one.
func count(from uint64, n int) []uint64 {
	var words []uint64
	for k := range n {
		words = append(words, from+uint64(k))
	}
	return words
}

// words returns all words that there must be.
func (w *world) words() []uint64 {
	return slices.Concat(w.levels...)
}

// frames returns what Frames must be: how many words there are in the levels below each frame.
func (w *world) frames() []int {
	var frames []int
	below := 0
	for _, level := range w.levels[:len(w.levels)-1] {
		below += len(level)
		frames = append(frames, below)
	}
	return frames
}

// top returns the words that are not covered.
func (w *world) top() []uint64 {
	return w.levels[len(w.levels)-1]
}

// setTop makes these the words that are not covered.
func (w *world) setTop(words []uint64) {
	w.levels[len(w.levels)-1] = words
}

// same tells what of the stack is not as it must be.
func (w *world) same() *world {
	w.Helper()
	w.holds(w.s)
	return w
}

// holds tells what of s is not as the world's stack must be.
func (w *world) holds(s *stack.Stack) {
	w.Helper()
	words, frames := w.words(), w.frames()
	if got := s.Words(); !slices.Equal(got, words) {
		w.Fatalf("Words: %v, not %v", got, words)
	}
	if got := s.Frames(); !slices.Equal(got, frames) {
		w.Fatalf("Frames: %v, not %v", got, frames)
	}
	if n := s.Len(); n != len(words) {
		w.Fatalf("Len: %d, not %d", n, len(words))
	}
	if n := s.Depth(); n != len(frames) {
		w.Fatalf("Depth: %d, not %d", n, len(frames))
	}
}

// whole is same, and fills copies of the stack up to what they may have.
func (w *world) whole() *world {
	w.Helper()
	w.same()
	c := w.s.Copy()
	for n := len(w.words()); n < w.max; n++ {
		if err := c.Push(7); err != api.OK {
			w.Fatalf("Push to %d words of %d: %d", n, w.max, err)
		}
	}
	if err := c.Push(7); err != api.ErrFull {
		w.Fatalf("Push to %d words of as many: %d", w.max, err)
	}
	for n := len(w.frames()); n < mostFrames; n++ {
		if err := c.Enter(); err != api.OK {
			w.Fatalf("Enter of %d frames: %d", n, err)
		}
	}
	if err := c.Enter(); err != api.ErrFull {
		w.Fatalf("Enter of all frames: %d", err)
	}
	return w.same()
}

// push pushes v, as the contract says.
func (w *world) push(v uint64) {
	w.Helper()
	want := api.OK
	if len(w.words()) == w.max {
		want = api.ErrFull
	}
	if err := w.s.Push(v); err != want {
		w.Fatalf("Push(%d) to %v of %d: %d, not %d", v, w.levels, w.max, err, want)
	}
	if want == api.OK {
		w.setTop(append(slices.Clone(w.top()), v))
	}
}

// pop pops a word, as the contract says.
func (w *world) pop() {
	w.Helper()
	top := w.top()
	want, wantErr := uint64(0), api.ErrBare
	if len(top) > 0 {
		want, wantErr = top[len(top)-1], api.OK
		top = top[:len(top)-1]
	}
	if v, err := w.s.Pop(); v != want || err != wantErr {
		w.Fatalf("Pop of %v: %d, %d, not %d, %d", w.levels, v, err, want, wantErr)
	}
	w.setTop(slices.Clone(top))
}

// enter enters a frame, as the contract says.
func (w *world) enter() {
	w.Helper()
	want := api.OK
	if len(w.levels) == 1+mostFrames {
		want = api.ErrFull
	}
	if err := w.s.Enter(); err != want {
		w.Fatalf("Enter of %d frames: %d, not %d", len(w.levels)-1, err, want)
	}
	if want == api.OK {
		w.levels = append(w.levels, nil)
	}
}

// leave leaves a frame, as the contract says.
func (w *world) leave() {
	w.Helper()
	want, wantErr := 0, api.ErrFrame
	if len(w.levels) > 1 {
		want, wantErr = len(w.top()), api.OK
	}
	if n, err := w.s.Leave(); n != want || err != wantErr {
		w.Fatalf("Leave of %v: %d, %d, not %d, %d", w.levels, n, err, want, wantErr)
	}
	if wantErr == api.OK {
		w.levels = w.levels[:len(w.levels)-1]
	}
}

// get gets the i-th word, as the contract says.
func (w *world) get(i int) {
	w.Helper()
	top := w.top()
	want, wantErr := uint64(0), api.ErrArg
	if i >= 0 && i < len(top) {
		want, wantErr = top[len(top)-1-i], api.OK
	}
	if v, err := w.s.Get(i); v != want || err != wantErr {
		w.Fatalf("Get(%d) of %v: %d, %d, not %d, %d", i, w.levels, v, err, want, wantErr)
	}
}

// set sets the i-th word, as the contract says.
func (w *world) set(i int, v uint64) {
	w.Helper()
	top := slices.Clone(w.top())
	want := api.ErrArg
	if i >= 0 && i < len(top) {
		top[len(top)-1-i] = v
		want = api.OK
	}
	if err := w.s.Set(i, v); err != want {
		w.Fatalf("Set(%d, %d) of %v: %d, not %d", i, v, w.levels, err, want)
	}
	w.setTop(top)
}

// twin returns a world of a copy of the stack.
func (w *world) twin() *world {
	w.Helper()
	c := w.s.Copy()
	if c == nil || c == w.s {
		w.Fatalf("Copy of %v: %v", w.levels, c)
	}
	return &world{T: w.T, s: c, max: w.max, levels: slices.Clone(w.levels)}
}

// steps are the calls that change a stack: each pushes another word.
var steps = []func(w *world, k int){
	func(w *world, k int) { w.push(uint64(100 + k)) },
	func(w *world, k int) { w.pop() },
	func(w *world, k int) { w.enter() },
	func(w *world, k int) { w.leave() },
}

// rows does this with all worlds that n steps lead to, each on a copy of the one ahead of it, and with the one it is given.
func rows(w *world, n int, do func(w *world)) {
	w.Helper()
	do(w)
	if n == 0 {
		return
	}
	for _, step := range steps {
		c := w.twin()
		step(c, n)
		rows(c.same(), n-1, do)
		w.same()
	}
}

// picker returns a row of numbers that only looks random: each is below the one that is asked with.
func picker(seed uint64) func(below int) int {
	return func(below int) int {
		seed = seed*6364136223846793005 + 1442695040888963407
		return int(seed >> 33 % uint64(below))
	}
}

// samples are worlds with frames and without.
func samples(t *testing.T) []*world {
	t.Helper()
	return []*world{
		fresh(t, 0),
		built(t, 0, nil, nil),
		built(t, 0, nil, nil, nil, nil),
		fresh(t, 1),
		built(t, 1, count(5, 1)),
		built(t, 1, nil, count(5, 1)),
		built(t, 1, count(5, 1), nil),
		built(t, 3, count(1, 3)),
		built(t, 3, count(1, 2)),
		built(t, 3, count(1, 1), count(2, 1), count(3, 1)),
		built(t, 9, nil, nil, count(1, 4), nil, nil, count(11, 3), nil),
		built(t, 9, count(1, 4), count(8, 2)),
		built(t, 64, kinds),
		built(t, 64, kinds, kinds, kinds),
		built(t, 64, nil, kinds, nil),
		built(t, mostWords, count(1, 40), count(90, 30), count(300, 20)),
	}
}

// TestP14_1New: an empty stack for each maximum that may be.
func TestP14_1New(t *testing.T) {
	for max := range mostWords + 1 {
		s, err := stack.New(max)
		if s == nil || err != api.OK {
			t.Fatalf("New(%d): %v, %d", max, s, err)
		}
		if s.Len() != 0 || s.Depth() != 0 || len(s.Words()) != 0 || len(s.Frames()) != 0 {
			t.Fatalf("New(%d) has %v, %v", max, s.Words(), s.Frames())
		}
	}
	if api.MaxStack != mostWords || api.MaxFrames != mostFrames {
		t.Fatalf("limits: %d, %d", api.MaxStack, api.MaxFrames)
	}
}

// TestP14_1NewIsItsOwn: two new stacks share nothing.
func TestP14_1NewIsItsOwn(t *testing.T) {
	v, w := fresh(t, 4), fresh(t, 4)
	v.push(1)
	v.enter()
	w.same()
	w.push(2)
	w.push(3)
	v.whole()
	w.whole()
}

// TestP14_1Maximum: each stack takes as many words as its maximum, and no more.
func TestP14_1Maximum(t *testing.T) {
	for _, max := range []int{0, 1, 2, 3, 4, 5, 7, 8, 9, 63, 64, 65, 255, 256, 257, 1000, 2048, 4095, 4096} {
		s, _ := stack.New(max)
		for k := range max {
			if err := s.Push(uint64(k)); err != api.OK || s.Len() != k+1 {
				t.Fatalf("Push to %d of %d words: %d, %d words", k, max, err, s.Len())
			}
		}
		for range 3 {
			if err := s.Push(9); err != api.ErrFull || s.Len() != max {
				t.Fatalf("Push to all %d words: %d, %d words", max, err, s.Len())
			}
		}
		if !slices.Equal(s.Words(), count(0, max)) {
			t.Fatalf("Words of %d: %v", max, s.Words())
		}
	}
}

// TestP14_1WrongMaximum: no stack.
func TestP14_1WrongMaximum(t *testing.T) {
	for _, max := range wrongMax {
		if s, err := stack.New(max); s != nil || err != api.ErrArg {
			t.Errorf("New(%d): %v, %d", max, s, err)
		}
	}
}

// TestP14_1Lists: words from the lowest one on, and the heights of frames from the first one on, written out.
func TestP14_1Lists(t *testing.T) {
	s, _ := stack.New(9)
	tell := func(words []uint64, frames []int) {
		t.Helper()
		if !slices.Equal(s.Words(), words) || !slices.Equal(s.Frames(), frames) || s.Len() != len(words) || s.Depth() != len(frames) {
			t.Fatalf("%v (%d), %v (%d), not %v, %v", s.Words(), s.Len(), s.Frames(), s.Depth(), words, frames)
		}
	}
	tell(nil, nil)
	s.Enter()
	tell(nil, []int{0})
	s.Enter()
	tell(nil, []int{0, 0})
	s.Push(9)
	tell([]uint64{9}, []int{0, 0})
	s.Push(8)
	s.Push(0)
	tell([]uint64{9, 8, 0}, []int{0, 0})
	s.Enter()
	s.Enter()
	tell([]uint64{9, 8, 0}, []int{0, 0, 3, 3})
	s.Push(1<<64 - 1)
	tell([]uint64{9, 8, 0, 1<<64 - 1}, []int{0, 0, 3, 3})
	s.Enter()
	tell([]uint64{9, 8, 0, 1<<64 - 1}, []int{0, 0, 3, 3, 4})
	s.Leave()
	s.Leave()
	tell([]uint64{9, 8, 0}, []int{0, 0, 3})
	s.Push(4)
	s.Pop()
	s.Leave()
	s.Pop()
	tell([]uint64{9, 8}, []int{0, 0})
	s.Leave()
	tell(nil, []int{0})
	s.Leave()
	tell(nil, nil)
}

// TestP14_1ResultsAreNew: who writes over what was handed back, or behind it, changes no stack.
func TestP14_1ResultsAreNew(t *testing.T) {
	for _, w := range samples(t) {
		words, frames := w.s.Words(), w.s.Frames()
		for _, row := range [][]uint64{words, words[:cap(words)]} {
			for k := range row {
				row[k] = 77
			}
		}
		for _, row := range [][]int{frames, frames[:cap(frames)]} {
			for k := range row {
				row[k] = -7
			}
		}
		_, _ = append(words, 66), append(frames, 66)
		w.whole()
		w.push(5)
		w.get(0)
		w.leave()
		w.whole()
	}
}

// TestP14_1ResultsStay: what was handed back remains, whatever is done to the stack.
func TestP14_1ResultsStay(t *testing.T) {
	for _, w := range samples(t) {
		words, frames := w.s.Words(), w.s.Frames()
		wantWords, wantFrames := w.words(), w.frames()
		for i := range len(w.top()) {
			w.set(i, 1000+uint64(i))
		}
		w.enter()
		w.push(1)
		for range mostFrames + 1 {
			w.leave()
		}
		for len(w.words()) > 0 {
			w.pop()
		}
		w.enter()
		for k := range w.max {
			w.push(uint64(k) + 500)
		}
		if !slices.Equal(words, wantWords) || !slices.Equal(frames, wantFrames) {
			t.Fatalf("%v, %v became %v, %v", wantWords, wantFrames, words, frames)
		}
	}
}

// wreck does all that can be done to a stack.
func wreck(w *world, v uint64) {
	w.Helper()
	for i := range len(w.top()) {
		w.set(i, v+uint64(i))
	}
	w.push(v)
	w.enter()
	w.push(v + 1)
	w.enter()
	w.same()
	for range len(w.levels) {
		w.leave()
		w.push(v + 2)
		w.set(0, v+3)
	}
	w.same()
	for range len(w.words()) + 1 {
		w.pop()
	}
	w.enter()
	w.push(v + 4)
	w.same()
}

// TestP14_1CopyIsItsOwn: a copy and what it was copied of are changed independently of each other.
func TestP14_1CopyIsItsOwn(t *testing.T) {
	for k := range samples(t) {
		a := samples(t)[k]
		b := a.twin().whole()
		wreck(b, 5000)
		a.whole()
		c := a.twin()
		wreck(a, 7000)
		c.whole()
		b.whole()
		wreck(c, 9000)
		a.whole()
		b.whole()
	}
}

// TestP14_1CopyBothGrow: the words and frames that each gets after the copy stand behind those they share.
func TestP14_1CopyBothGrow(t *testing.T) {
	for k := range samples(t) {
		a := samples(t)[k]
		b := a.twin()
		for n := range 12 {
			a.push(uint64(100 + n))
			b.push(uint64(200 + n))
			if n%4 == 3 {
				a.enter()
			}
			if n%3 == 2 {
				b.enter()
			}
			a.same()
			b.same()
		}
		for range 12 {
			a.pop()
			a.leave()
			b.leave()
			b.pop()
			a.same()
			b.same()
		}
		a.whole()
		b.whole()
	}
}

// TestP14_1CopyOfCopy: as the first one.
func TestP14_1CopyOfCopy(t *testing.T) {
	for _, w := range samples(t) {
		w.twin().twin().twin().whole()
	}
}

// TestP14_1Nil: what there is of no stack.
func TestP14_1Nil(t *testing.T) {
	var s *stack.Stack
	if n := s.Len(); n != 0 {
		t.Errorf("Len: %d", n)
	}
	if n := s.Depth(); n != 0 {
		t.Errorf("Depth: %d", n)
	}
	if words := s.Words(); len(words) != 0 {
		t.Errorf("Words: %v", words)
	}
	if frames := s.Frames(); len(frames) != 0 {
		t.Errorf("Frames: %v", frames)
	}
	if c := s.Copy(); c != nil {
		t.Errorf("Copy: %v", c)
	}
}

// TestP14_1Asking: what only asks changes nothing at all, whatever is done next.
func TestP14_1Asking(t *testing.T) {
	for k := range samples(t) {
		a, b := samples(t)[k], samples(t)[k]
		for i := -2; i < 70; i++ {
			a.get(i)
			a.s.Len()
			a.s.Depth()
			a.s.Words()
			a.s.Frames()
			a.s.Copy()
		}
		a.whole()
		wreck(a, 50)
		wreck(b, 50)
		b.holds(a.s)
		a.whole()
	}
}

// TestP14_2Example: the chapter's example, call by call.
func TestP14_2Example(t *testing.T) {
	s, _ := stack.New(8)
	for k, err := range []api.Errno{s.Push(1), s.Enter(), s.Push(2), s.Push(3)} {
		if err != api.OK {
			t.Fatalf("call %d: %d", k, err)
		}
	}
	if words := s.Words(); !slices.Equal(words, []uint64{1, 2, 3}) {
		t.Fatalf("Words: %v", words)
	}
	if v, err := s.Get(1); v != 2 || err != api.OK {
		t.Fatalf("Get(1): %d, %d", v, err)
	}
	if v, err := s.Get(2); v != 0 || err != api.ErrArg {
		t.Fatalf("Get(2): %d, %d", v, err)
	}
	if n, err := s.Leave(); n != 2 || err != api.OK {
		t.Fatalf("Leave: %d, %d", n, err)
	}
	if v, err := s.Pop(); v != 1 || err != api.OK {
		t.Fatalf("Pop: %d, %d", v, err)
	}
	if v, err := s.Pop(); v != 0 || err != api.ErrBare {
		t.Fatalf("second Pop: %d, %d", v, err)
	}
	if n, err := s.Leave(); n != 0 || err != api.ErrFrame {
		t.Fatalf("second Leave: %d, %d", n, err)
	}
}

// TestP14_2Errors: the errors have the numbers that the chapter lists.
func TestP14_2Errors(t *testing.T) {
	var none *stack.Stack
	s, _ := stack.New(0)
	_, arg := s.Get(0)
	_, bare := s.Pop()
	_, frame := s.Leave()
	got := []api.Errno{none.Push(0), arg, s.Push(0), bare, frame}
	if want := []api.Errno{1, 2, 4, 140, 141}; !slices.Equal(got, want) {
		t.Errorf("errors %d, not %d", got, want)
	}
}

// TestP14_2Words: any word can be pushed, and is popped as it was.
func TestP14_2Words(t *testing.T) {
	w := fresh(t, 2*len(kinds)+64)
	for _, v := range kinds {
		w.push(v)
		w.same()
		w.push(v)
		w.same()
	}
	for k := range 64 {
		w.push(1 << k)
	}
	w.whole()
	for range len(w.words()) + 2 {
		w.pop()
		w.same()
	}
}

// TestP14_2Full: the maximum counts covered words too, and is there again when words were popped or left.
func TestP14_2Full(t *testing.T) {
	for _, max := range []int{0, 1, 2, 3, 8, 100, mostWords} {
		for _, below := range []int{0, 1, max / 2, max - 1, max} {
			if below < 0 || below > max {
				continue
			}
			w := built(t, max, count(1, below), nil)
			for k := range max - below {
				w.push(uint64(k))
			}
			for range 3 {
				w.push(99)
				w.same()
			}
			w.pop()
			w.push(98)
			w.push(97)
			w.same()
			w.leave()
			w.same()
			w.whole()
		}
	}
}

// TestP14_2Frames: up to the most frames, and one more, over several heights; each that is left makes room for another.
func TestP14_2Frames(t *testing.T) {
	for _, every := range []int{0, 1, 2, 3, 50} {
		w := fresh(t, mostWords)
		for k := range mostFrames {
			if every > 0 && k%every == 0 {
				w.push(uint64(k))
				w.push(uint64(k) + 1000)
			}
			w.enter()
		}
		for range 3 {
			w.enter()
			w.same()
		}
		if w.s.Depth() != 256 {
			t.Fatalf("Depth: %d", w.s.Depth())
		}
		w.push(5)
		w.enter()
		w.whole()
		w.leave()
		w.same()
		w.push(6)
		w.enter()
		w.enter()
		w.whole()
		for range mostFrames + 2 {
			w.leave()
			w.same()
		}
		for range len(w.words()) + 2 {
			w.pop()
		}
		w.whole()
	}
}

// TestP14_2EnterAtHeights: of an empty stack, of one whose words are all covered already, of a full one.
func TestP14_2EnterAtHeights(t *testing.T) {
	for _, w := range samples(t) {
		for range 3 {
			w.enter()
			w.same()
			w.pop()
			w.same()
		}
		w.push(3)
		w.enter()
		w.same()
		w.pop()
		w.whole()
	}
}

// TestP14_2PopToTheFrame: a frame's words, and none below it.
func TestP14_2PopToTheFrame(t *testing.T) {
	for _, w := range samples(t) {
		for len(w.levels) > 1 {
			for range len(w.top()) + 3 {
				w.pop()
				w.same()
			}
			w.leave()
			w.same()
		}
		for range len(w.top()) + 3 {
			w.pop()
			w.same()
		}
		w.whole()
	}
}

// TestP14_2LeaveCounts: how many words a frame had, from none to all that there may be.
func TestP14_2LeaveCounts(t *testing.T) {
	for _, n := range []int{0, 1, 2, 3, 8, 63, 64, 65, 500, mostWords - 7} {
		for below := range 8 {
			s, _ := stack.New(mostWords)
			for k := range below {
				s.Push(uint64(k))
			}
			s.Enter()
			for range n {
				s.Push(1 << 60)
			}
			if got, err := s.Leave(); got != n || err != api.OK {
				t.Fatalf("Leave of %d words: %d, %d", n, got, err)
			}
			if !slices.Equal(s.Words(), count(0, below)) || s.Depth() != 0 {
				t.Fatalf("%d words below are %v", below, s.Words())
			}
			if got, err := s.Leave(); got != 0 || err != api.ErrFrame || s.Len() != below {
				t.Fatalf("Leave of no frame: %d, %d", got, err)
			}
		}
	}
}

// TestP14_2AllRows: each row of up to eight calls, of stacks of up to three words, each call on a copy.
func TestP14_2AllRows(t *testing.T) {
	for max := range 4 {
		rows(fresh(t, max), 8, func(w *world) {
			w.get(0)
			w.get(len(w.top()))
		})
	}
}

// TestP14_2LongRows: long rows of all calls, held against the count.
func TestP14_2LongRows(t *testing.T) {
	for seed, max := range []int{0, 1, 2, 5, 17, 64, 300, mostWords} {
		pick := picker(uint64(seed) + 1)
		w := fresh(t, max)
		for k := range 6000 {
			// At times there is more of one than of the other, so that each end is come to.
			lean := k / 500 % 3
			switch n := pick(12 + 6*lean); {
			case n < 4, lean == 2 && n > 15:
				w.push(kinds[pick(len(kinds))] + uint64(k))
			case n < 6:
				w.pop()
			case n < 8:
				w.enter()
			case n < 10:
				w.leave()
			case n == 10:
				w.get(pick(len(w.top())+4) - 2)
			case n == 11:
				w.set(pick(len(w.top())+4)-2, uint64(k))
			case lean == 1:
				w.enter()
			default:
				w.push(uint64(k))
			}
			w.same()
			if k%997 == 0 {
				w.twin().whole()
				w.whole()
			}
		}
		w.whole()
	}
}

// TestP14_2Nil: no stack.
func TestP14_2Nil(t *testing.T) {
	var s *stack.Stack
	for _, v := range kinds {
		if err := s.Push(v); err != api.ErrNil {
			t.Errorf("Push(%d): %d", v, err)
		}
	}
	if v, err := s.Pop(); v != 0 || err != api.ErrNil {
		t.Errorf("Pop: %d, %d", v, err)
	}
	if err := s.Enter(); err != api.ErrNil {
		t.Errorf("Enter: %d", err)
	}
	if n, err := s.Leave(); n != 0 || err != api.ErrNil {
		t.Errorf("Leave: %d, %d", n, err)
	}
}

// TestP14_2Refused: what is refused changes no word, no frame and no maximum.
func TestP14_2Refused(t *testing.T) {
	for k := range samples(t) {
		w := samples(t)[k]
		for len(w.words()) < w.max {
			w.push(4)
		}
		for range 4 {
			w.push(3)
		}
		w.whole()
		for len(w.top()) > 0 {
			w.pop()
		}
		for range 4 {
			w.pop()
		}
		w.whole()
		for len(w.frames()) < mostFrames {
			w.enter()
		}
		for range 4 {
			w.enter()
		}
		w.whole()
		for len(w.frames()) > 0 {
			w.leave()
		}
		for range 4 {
			w.leave()
		}
		w.whole()
	}
}

// TestP14_3Get: from the top down to the lowest word that is not covered, and none beyond.
func TestP14_3Get(t *testing.T) {
	for _, w := range samples(t) {
		for {
			for i := -3; i < len(w.words())+4; i++ {
				w.get(i)
			}
			w.whole()
			if len(w.levels) == 1 {
				break
			}
			w.leave()
		}
	}
}

// TestP14_3Set: each word that is not covered, each for itself, and no other one.
func TestP14_3Set(t *testing.T) {
	for _, w := range samples(t) {
		for {
			for i := -3; i < len(w.words())+4; i++ {
				for _, v := range []uint64{0, 1<<64 - 1, 900 + uint64(i)} {
					w.set(i, v)
					w.same()
					w.get(i)
				}
			}
			w.whole()
			if len(w.levels) == 1 {
				break
			}
			w.leave()
		}
	}
}

// TestP14_3Edges: the lowest word that is not covered, and the covered one below it, written out.
func TestP14_3Edges(t *testing.T) {
	s, _ := stack.New(6)
	for _, v := range []uint64{10, 11} {
		s.Push(v)
	}
	s.Enter()
	for _, v := range []uint64{12, 13, 14} {
		s.Push(v)
	}
	for i, want := range []uint64{14, 13, 12} {
		if v, err := s.Get(i); v != want || err != api.OK {
			t.Errorf("Get(%d): %d, %d", i, v, err)
		}
	}
	for _, i := range []int{-1, 3, 4, 5, 6} {
		if v, err := s.Get(i); v != 0 || err != api.ErrArg {
			t.Errorf("Get(%d): %d, %d", i, v, err)
		}
		if err := s.Set(i, 99); err != api.ErrArg {
			t.Errorf("Set(%d): %d", i, err)
		}
	}
	for i, v := range []uint64{24, 0, 1<<64 - 1} {
		if err := s.Set(i, v); err != api.OK {
			t.Errorf("Set(%d): %d", i, err)
		}
	}
	if words := s.Words(); !slices.Equal(words, []uint64{10, 11, 1<<64 - 1, 0, 24}) {
		t.Errorf("Words: %v", words)
	}
	s.Leave()
	if err := s.Set(1, 20); err != api.OK || !slices.Equal(s.Words(), []uint64{20, 11}) {
		t.Errorf("Set(1): %d, %v", err, s.Words())
	}
}

// TestP14_3Wrong: places that are no word's, up to the ends of int; nothing changes.
func TestP14_3Wrong(t *testing.T) {
	worlds := append(samples(t), built(t, mostWords, count(1, mostWords)), built(t, mostWords, count(1, 2000), count(1, mostWords-2000)))
	for _, w := range worlds {
		for _, i := range wrongAt {
			w.get(i)
			w.set(i, 12345)
			w.same()
		}
		w.whole()
	}
}

// TestP14_3Greatest: all words of the greatest stack.
func TestP14_3Greatest(t *testing.T) {
	s, _ := stack.New(mostWords)
	for k := range mostWords {
		s.Push(uint64(k))
	}
	for i := range mostWords {
		if v, err := s.Get(i); v != uint64(mostWords-1-i) || err != api.OK {
			t.Fatalf("Get(%d): %d, %d", i, v, err)
		}
		if err := s.Set(i, uint64(i)<<32); err != api.OK {
			t.Fatalf("Set(%d): %d", i, err)
		}
	}
	for k, v := range s.Words() {
		if v != uint64(mostWords-1-k)<<32 {
			t.Fatalf("word %d: %d", k, v)
		}
	}
}

// TestP14_3AllPlaces: each place of each stack that six calls lead to.
func TestP14_3AllPlaces(t *testing.T) {
	for max := range 4 {
		rows(fresh(t, max), 6, func(w *world) {
			for i := -2; i < 6; i++ {
				w.get(i)
				c := w.twin()
				c.set(i, 55)
				c.same()
				w.same()
			}
		})
	}
}

// TestP14_3Nil: no stack, ahead of a wrong place.
func TestP14_3Nil(t *testing.T) {
	var s *stack.Stack
	for _, i := range append([]int{0, 1}, wrongAt...) {
		if v, err := s.Get(i); v != 0 || err != api.ErrNil {
			t.Errorf("Get(%d): %d, %d", i, v, err)
		}
		if err := s.Set(i, 1); err != api.ErrNil {
			t.Errorf("Set(%d): %d", i, err)
		}
	}
}

// back enters a frame, has this done, which must end with more frames than there were, leaves these, and tells what is not as it was.
func back(w *world, do func(c *world)) {
	w.Helper()
	c := w.twin()
	c.enter()
	do(c)
	for len(c.levels) > len(w.levels) {
		c.leave()
	}
	w.holds(c.s)
	// The count may be wrong as the stack is: so it is held against what there was ahead of the Enter.
	if !slices.Equal(c.words(), w.words()) || !slices.Equal(c.frames(), w.frames()) {
		w.Fatalf("%v became %v", w.levels, c.levels)
	}
	w.same()
}

// TestP14_4AllRows: each row of up to six calls between an Enter and its Leave, in which there are always more frames than ahead of it.
func TestP14_4AllRows(t *testing.T) {
	for _, w := range samples(t)[:12] {
		depth := len(w.levels)
		for n := range 4096 {
			back(w, func(c *world) {
				for k := range 6 {
					step := steps[n>>(2*k)&3]
					if len(c.levels) == depth+1 && n>>(2*k)&3 == 3 {
						c.set(0, 77)
						c.set(1, 78)
						continue
					}
					step(c, k)
				}
			})
		}
	}
}

// TestP14_4LongRows: long rows between an Enter and its Leave, with nested frames.
func TestP14_4LongRows(t *testing.T) {
	for seed, w := range samples(t) {
		pick := picker(uint64(seed) + 40)
		depth := len(w.levels)
		back(w, func(c *world) {
			for k := range 3000 {
				switch n := pick(10); {
				case n < 4:
					c.push(uint64(k))
				case n < 6:
					c.pop()
				case n < 7:
					c.enter()
				case n < 8:
					if len(c.levels) > depth+1 {
						c.leave()
					}
				default:
					c.set(pick(len(c.top())+2), uint64(k))
				}
			}
			c.same()
		})
	}
}

// TestP14_4Whole: all words and all frames that there may be, between an Enter and its Leave.
func TestP14_4Whole(t *testing.T) {
	for _, w := range samples(t) {
		back(w, func(c *world) {
			for len(c.frames()) < mostFrames {
				c.push(1)
				c.push(2)
				c.pop()
				c.enter()
			}
			for range w.max + 1 {
				c.s.Push(9)
			}
			for range w.max + 1 {
				c.s.Pop()
			}
			c.enter()
			c.same()
		})
	}
}
