package rose

import (
	"fmt"
	"math"
	"slices"
	"testing"

	"assayer/api"
	"assayer/gen"
	"assayer/plain"
	"assayer/rng"
	"assayer/tape"
)

func just(n int) api.Gen              { return api.Gen{Kind: api.Just, A: n} }
func number(a, b int) api.Gen         { return api.Gen{Kind: api.Int, A: a, B: b} }
func both(subs ...api.Gen) api.Gen    { return api.Gen{Kind: api.Both, Subs: subs} }
func many(n int, sub api.Gen) api.Gen { return api.Gen{Kind: api.Many, A: n, Subs: []api.Gen{sub}} }
func either(subs ...api.Gen) api.Gen  { return api.Gen{Kind: api.Any, Subs: subs} }

// example is a tape of a generator with its candidates.
type example struct {
	g    api.Gen
	tape []int
	want [][]int
}

func checkExamples(t *testing.T, examples []example) {
	t.Helper()
	for _, e := range examples {
		got, err := Less(e.g, e.tape)
		if fmt.Sprint(got) != fmt.Sprint(e.want) || err != nil {
			t.Errorf("Less(%v, %v) = %v, %v, want %v", e.g, e.tape, got, err, e.want)
		}
	}
}

// RO1: a single number becomes 0, half of itself, itself minus 1, and what is
// there without it, also where these are the same.
func TestOneNumber(t *testing.T) {
	checkExamples(t, []example{
		{number(0, 9), []int{0}, nil},
		{number(0, 9), []int{1}, [][]int{{0}, {0}, {0}, {0}}},
		{number(0, 9), []int{2}, [][]int{{0}, {1}, {1}, {0}}},
		{number(0, 9), []int{3}, [][]int{{0}, {1}, {2}, {0}}},
		{number(0, 9), []int{5}, [][]int{{0}, {2}, {4}, {0}}},
		{number(0, 9), []int{8}, [][]int{{0}, {4}, {7}, {0}}},
		{number(0, 9), []int{9}, [][]int{{0}, {4}, {8}, {0}}},
		{number(-9, -5), []int{4}, [][]int{{0}, {2}, {3}, {0}}},
		{number(-500, 500), []int{1000}, [][]int{{0}, {500}, {999}, {0}}},
		{number(1<<30-1000, 1<<30), []int{999}, [][]int{{0}, {499}, {998}, {0}}},
		{number(7, 7), []int{0}, nil},
	})
}

// RO1: a tape without numbers has no candidates.
func TestNoNumbers(t *testing.T) {
	for _, g := range []api.Gen{just(3), both(), both(just(1), both(just(2)), both())} {
		checkExamples(t, []example{{g, nil, nil}, {g, []int{}, nil}})
	}
}

// RO1: position by position, and at each of them the tape without it comes
// last; the numbers that follow move forward, within their new limits.
func TestSeveralNumbers(t *testing.T) {
	digits := both(number(0, 9), number(0, 9))
	narrow := both(number(0, 2), number(0, 9))
	checkExamples(t, []example{
		{digits, []int{0, 0}, nil},
		{digits, []int{4, 7}, [][]int{
			{0, 7}, {2, 7}, {3, 7},
			{4, 0}, {4, 3}, {4, 6}, {4, 0},
		}},
		{digits, []int{7, 4}, [][]int{
			{0, 4}, {3, 4}, {6, 4}, {4, 0},
			{7, 0}, {7, 2}, {7, 3}, {7, 0},
		}},
		{digits, []int{5, 0}, [][]int{{0, 0}, {2, 0}, {4, 0}, {0, 0}}},
		{digits, []int{0, 5}, [][]int{{0, 0}, {0, 2}, {0, 4}, {0, 0}}},
		{digits, []int{3, 3}, [][]int{
			{0, 3}, {1, 3}, {2, 3}, {3, 0},
			{3, 0}, {3, 1}, {3, 2}, {3, 0},
		}},
		{narrow, []int{2, 9}, [][]int{
			{0, 9}, {1, 9}, {1, 9}, {2, 0},
			{2, 0}, {2, 4}, {2, 8}, {2, 0},
		}},
		{narrow, []int{0, 9}, [][]int{{0, 0}, {0, 4}, {0, 8}, {0, 0}}},
		{both(number(0, 9), just(4), number(0, 9), both(number(0, 9))), []int{3, 0, 8}, [][]int{
			{0, 0, 8}, {1, 0, 8}, {2, 0, 8}, {0, 8, 0},
			{3, 0, 0}, {3, 0, 4}, {3, 0, 7}, {3, 0, 0},
		}},
		{both(number(0, 9), number(0, 9), number(0, 9)), []int{1, 0, 0}, [][]int{
			{0, 0, 0}, {0, 0, 0}, {0, 0, 0}, {0, 0, 0},
		}},
	})
}

// RO1: with a smaller choice of a Many the tape is mended to be shorter, and
// the numbers that follow may become choices of another kind.
func TestMany(t *testing.T) {
	digits := many(2, number(5, 7))
	checkExamples(t, []example{
		{many(2, number(0, 9)), []int{1, 0}, [][]int{{0}, {0}, {0}, {0}}},
		{digits, []int{0}, nil},
		{digits, []int{2, 1, 2}, [][]int{
			{0}, {1, 1}, {1, 1}, {1, 2},
			{2, 0, 2}, {2, 0, 2}, {2, 0, 2},
			{2, 1, 0}, {2, 1, 1}, {2, 1, 1}, {2, 1, 0},
		}},
		{digits, []int{2, 0, 0}, [][]int{{0}, {1, 0}, {1, 0}, {0}}},
		{digits, []int{1, 2}, [][]int{{0}, {0}, {0}, {1, 0}, {1, 1}, {1, 1}, {1, 0}}},
		{many(5, just(1)), []int{5}, [][]int{{0}, {2}, {4}, {0}}},
		{many(0, number(0, 9)), []int{0}, nil},
		{many(2, many(2, number(0, 9))), []int{1, 1, 6}, [][]int{
			{0}, {0}, {0},
			{1, 0}, {1, 0}, {1, 0},
			{1, 1, 0}, {1, 1, 3}, {1, 1, 5}, {1, 1, 0},
		}},
	})
}

// RO1: another Sub of an Any may make more choices; then the tape is not less.
func TestAny(t *testing.T) {
	mixed := either(just(1), number(0, 3), many(2, number(0, 9)))
	checkExamples(t, []example{
		{mixed, []int{0}, nil},
		{mixed, []int{1, 0}, [][]int{{0}, {0}, {0}, {0}}},
		{mixed, []int{2, 1, 7}, [][]int{
			{0}, {1, 1}, {1, 1}, {1, 3},
			{2, 0}, {2, 0}, {2, 0},
			{2, 1, 0}, {2, 1, 3}, {2, 1, 6}, {2, 1, 0},
		}},
		{either(both(number(0, 9), number(0, 9)), just(1)), []int{1}, nil},
		{either(both(number(0, 9), number(0, 9)), number(0, 9)), []int{1, 3}, [][]int{
			{1, 0},
			{1, 0}, {1, 1}, {1, 2}, {1, 0},
		}},
		{either(just(1)), []int{0}, nil},
		{either(just(1), just(1), just(1), just(1)), []int{3}, [][]int{{0}, {1}, {2}, {0}}},
	})
}

// candidate changes a tape as RO1 tells for a position and for the place of the
// candidate among the four that there may be; false if there is none.
func candidate(tape []int, at, place int) ([]int, bool) {
	var changed []int
	for i, n := range tape {
		switch {
		case i != at:
			changed = append(changed, n)
		case place < 3 && n == 0:
			return nil, false
		case place < 3:
			changed = append(changed, []int{0, n / 2, n - 1}[place])
		}
	}
	return changed, true
}

// byTheBook returns what RO1 tells.
func byTheBook(t *testing.T, g api.Gen, given []int) [][]int {
	var all [][]int
	for i := range 4 * len(given) {
		changed, ok := candidate(given, i/4, i%4)
		if !ok {
			continue
		}
		mended, err := gen.Mend(g, changed)
		if err != nil {
			t.Fatalf("Mend(%v, %v): %v", g, changed, err)
		}
		all = append(all, mended)
	}
	return slices.DeleteFunc(all, func(l []int) bool { return !tape.Less(l, given) })
}

// checkTape compares Less with RO1, and tests that it returns lesser tapes.
func checkTape(t *testing.T, g api.Gen, given []int) {
	t.Helper()
	got, err := Less(g, given)
	if err != nil {
		t.Fatalf("Less(%v, %v): %v", g, given, err)
	}
	if want := byTheBook(t, g, given); fmt.Sprint(got) != fmt.Sprint(want) {
		t.Fatalf("Less(%v, %v) = %v, want %v", g, given, got, want)
	}
	for _, l := range got {
		if _, err := gen.Replay(g, l); err != nil || !tape.Less(l, given) {
			t.Fatalf("Less(%v, %v) has %v: %v", g, given, l, err)
		}
	}
}

// chance carries a seed from draw to draw.
type chance struct{ seed api.Seed }

func (c *chance) below(n int) int {
	var k int
	k, c.seed, _ = rng.Below(c.seed, n)
	return k
}

// generator returns one that is nested at most so deep.
func (c *chance) generator(depth int) api.Gen {
	kind := c.below(5) + api.Just
	if depth == 0 {
		kind = min(kind, api.Int)
	}
	switch kind {
	case api.Just:
		return just(c.below(9))
	case api.Int:
		return number(-1, c.below(20)-1)
	case api.Many:
		return many(c.below(4), c.generator(depth-1))
	}
	g := api.Gen{Kind: kind}
	for range c.below(3) + 1 {
		g.Subs = append(g.Subs, c.generator(depth-1))
	}
	return g
}

// RO1: tapes at random of generators at random.
func TestRandomTapes(t *testing.T) {
	c := &chance{rng.New(7)}
	tested := 0
	for range 2000 {
		g := c.generator(4)
		if gen.Check(g) != nil {
			continue
		}
		for range 5 {
			l, err := gen.Draw(g, rng.New(c.below(1<<30)))
			if err != nil {
				t.Fatalf("Draw(%v): %v", g, err)
			}
			checkTape(t, g, l)
			if len(l) > 2 {
				tested++
			}
		}
	}
	if tested < 1000 {
		t.Errorf("only %d tapes have more than two numbers", tested)
	}
}

// RO1: the last candidate of the last candidate, and so on, is at last the tape
// that is preceded by no other.
func TestCandidatesEnd(t *testing.T) {
	g := many(3, both(number(0, 1000), many(2, number(0, 9))))
	for n := range 50 {
		l, _ := gen.Draw(g, rng.New(n))
		for range 100 { // far more than the choices of l
			less, err := Less(g, l)
			if err != nil {
				t.Fatalf("Less(%v): %v", l, err)
			}
			if len(less) == 0 {
				break
			}
			l = less[len(less)-1]
		}
		if !slices.Equal(l, []int{0}) {
			t.Errorf("the last candidate is %v, want [0]", l)
		}
	}
}

// RO1: the errors of gen.Check come first, for all lists.
func TestErrorsOfCheckFirst(t *testing.T) {
	loop := both(just(1))
	loop.Subs[0] = loop
	cases := []struct {
		g    api.Gen
		want api.Errno
	}{
		{api.Gen{}, api.ErrForm},
		{api.Gen{Kind: 6}, api.ErrForm},
		{api.Gen{Kind: math.MinInt}, api.ErrForm},
		{either(), api.ErrForm},
		{api.Gen{Kind: api.Many, A: 1}, api.ErrForm},
		{api.Gen{Kind: api.Int, B: 1, Subs: []api.Gen{just(1)}}, api.ErrForm},
		{both(just(1), both(api.Gen{Kind: -1})), api.ErrForm},
		{either(number(0, 9), api.Gen{Kind: 9}), api.ErrForm},
		{just(1<<30 + 1), api.ErrRange},
		{number(1, 0), api.ErrRange},
		{number(0, 1001), api.ErrRange},
		{many(6, just(1)), api.ErrRange},
		{many(0, number(math.MinInt, math.MaxInt)), api.ErrRange},
		{both(slices.Repeat([]api.Gen{just(1)}, 30)...), api.ErrFull},
		{both(both(both(both(both(both(just(1))))))), api.ErrFull},
		{loop, api.ErrFull},
	}
	for i, c := range cases { // by their indices, as a generator nested in itself has no text
		for _, l := range [][]int{nil, {}, {0}, {-1}, {5}, {0, 0, 2000}, {math.MaxInt}, make([]int, 29)} {
			if got, err := Less(c.g, l); len(got) > 0 || plain.Told(err) != c.want {
				t.Errorf("Less(case %d, %v) = %v, %v, want %v", i, l, got, err, c.want)
			}
		}
	}
}

// RO1: the errors of gen.Replay for a list that is no tape of the generator.
func TestErrorsOfReplay(t *testing.T) {
	pairs := many(2, both(number(5, 7), number(0, 1)))
	cases := []struct {
		g    api.Gen
		tape []int
		want api.Errno
	}{
		{just(1), []int{0}, api.ErrForm},
		{both(), []int{-1}, api.ErrForm},
		{number(0, 9), nil, api.ErrShort},
		{number(0, 9), []int{}, api.ErrShort},
		{number(5, 7), []int{-1}, api.ErrRange},
		{number(5, 7), []int{3}, api.ErrRange},
		{number(5, 7), []int{math.MinInt}, api.ErrRange},
		{number(5, 7), []int{math.MaxInt}, api.ErrRange},
		{number(5, 7), []int{3, 0}, api.ErrRange},
		{number(5, 7), []int{2, 0}, api.ErrForm},
		{many(0, just(1)), nil, api.ErrShort},
		{many(0, just(1)), []int{1}, api.ErrRange},
		{either(just(1), just(2)), []int{2}, api.ErrRange},
		{either(just(1), just(2)), []int{1, 0}, api.ErrForm},
		{pairs, []int{1, 2}, api.ErrShort},
		{pairs, []int{1, 2, -1, 9}, api.ErrRange},
		{pairs, []int{2, 2, 1, 2, 2}, api.ErrRange},
		{pairs, []int{1, 2, 1, -1}, api.ErrForm},
		{pairs, slices.Repeat([]int{0}, 1<<10), api.ErrForm},
	}
	for _, c := range cases {
		if got, err := Less(c.g, c.tape); len(got) > 0 || plain.Told(err) != c.want {
			t.Errorf("Less(%v, %v) = %v, %v, want %v", c.g, c.tape[:min(len(c.tape), 9)], got, err, c.want)
		}
	}
}

// RO1: generators that have too many tapes to count, and a long tape.
func TestLongTape(t *testing.T) {
	deep := many(5, many(5, many(5, many(5, number(0, 1000)))))
	l, err := gen.Mend(deep, slices.Repeat([]int{5000}, 1<<10))
	if err != nil {
		t.Fatal(err)
	}
	got, err := Less(deep, l)
	if want := byTheBook(t, deep, l); !slices.EqualFunc(got, want, slices.Equal[[]int]) || err != nil {
		t.Errorf("Less of %d numbers: %d candidates, %v, want %d", len(l), len(got), err, len(want))
	}
}

// RO1: Each goes through the tapes of Less in their order, and not beyond the
// one at which it is told to end.
func TestEach(t *testing.T) {
	g, given := many(2, number(5, 7)), []int{2, 1, 2}
	all, _ := Less(g, given)
	for end := 1; end <= len(all)+1; end++ {
		var seen [][]int
		err := Each(g, given, func(less []int) bool {
			seen = append(seen, less)
			return len(seen) != end
		})
		if want := all[:min(end, len(all))]; fmt.Sprint(seen) != fmt.Sprint(want) || err != nil {
			t.Errorf("Each, to the end at %d: %v, %v, want %v", end, seen, err, want)
		}
	}
}

// RO1: Each returns the errors of Less, and then calls nothing.
func TestErrorsOfEach(t *testing.T) {
	for _, e := range []example{{g: either()}, {g: number(0, 1001)}, {g: number(0, 9)}, {g: just(1), tape: []int{0}}} {
		_, want := Less(e.g, e.tape)
		err := Each(e.g, e.tape, func(less []int) bool {
			t.Errorf("Each(%v, %v) has %v", e.g, e.tape, less)
			return true
		})
		if err == nil || plain.Told(err) != plain.Told(want) {
			t.Errorf("Each(%v, %v): %v, want %v", e.g, e.tape, err, want)
		}
	}
}

// P2: whoever sees a tape may change it, without effect on the next ones.
func TestEachIsNew(t *testing.T) {
	g, given := both(number(0, 9), number(0, 9)), []int{7, 4}
	want, _ := Less(g, given)
	var seen []string
	Each(g, given, func(less []int) bool {
		seen = append(seen, fmt.Sprint(less))
		less = less[:cap(less)]
		for i := range less {
			less[i] = 66
		}
		return true
	})
	if fmt.Sprint(seen) != fmt.Sprint(want) || !slices.Equal(given, []int{7, 4}) {
		t.Errorf("Each, with changes: %v, tape %v, want %v", seen, given, want)
	}
}

// P2: arguments stay as they are, also behind their length.
func TestArgumentsStay(t *testing.T) {
	memory := []int{2, 1, 2, 77, 78}
	subs := []api.Gen{number(5, 7), number(0, 1), just(3)}
	g := many(2, both(subs[:1]...))
	kept := fmt.Sprint(g, subs, memory)
	if got, err := Less(g, memory[:3]); len(got) != 11 || err != nil {
		t.Errorf("Less = %v, %v, want 11 candidates", got, err)
	}
	if fmt.Sprint(g, subs, memory) != kept {
		t.Errorf("the arguments became %v %v %v, were %s", g, subs, memory, kept)
	}
}

// P2: each candidate has memory of its own, also one that is there twice.
func TestCandidatesAreNew(t *testing.T) {
	for _, e := range []example{
		{g: number(0, 9), tape: []int{1}},
		{g: number(0, 9), tape: []int{5}},
		{g: both(number(0, 9), number(0, 9)), tape: []int{7, 4}},
		{g: many(2, number(5, 7)), tape: []int{2, 1, 2}},
	} {
		got, _ := Less(e.g, e.tape)
		want := byTheBook(t, e.g, e.tape)
		kept := slices.Clone(e.tape)
		for i, l := range got {
			l = l[:cap(l)]
			for k := range l {
				l[k] = 77
			}
			if fmt.Sprint(got[i+1:]) != fmt.Sprint(want[i+1:]) || !slices.Equal(e.tape, kept) {
				t.Fatalf("after a change of candidate %d of %v: %v, tape %v", i, kept, got, e.tape)
			}
		}
		if again, _ := Less(e.g, e.tape); fmt.Sprint(again) != fmt.Sprint(want) {
			t.Errorf("Less(%v, %v) after a change of another result: %v, want %v", e.g, e.tape, again, want)
		}
	}
}
