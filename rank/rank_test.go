package rank

import (
	"fmt"
	"math"
	"slices"
	"testing"

	"assayer/api"
	"assayer/gen"
	"assayer/plain"
	"assayer/rng"
)

func just(n int) api.Gen              { return api.Gen{Kind: api.Just, A: n} }
func number(a, b int) api.Gen         { return api.Gen{Kind: api.Int, A: a, B: b} }
func both(subs ...api.Gen) api.Gen    { return api.Gen{Kind: api.Both, Subs: subs} }
func many(n int, sub api.Gen) api.Gen { return api.Gen{Kind: api.Many, A: n, Subs: []api.Gen{sub}} }
func either(subs ...api.Gen) api.Gen  { return api.Gen{Kind: api.Any, Subs: subs} }

func repeated(n int, g api.Gen) []api.Gen { return slices.Repeat([]api.Gen{g}, n) }

// tapesFrom lists the tapes of a generator that begin so. It knows of the
// generator only which lists Replay accepts.
func tapesFrom(g api.Gen, begin []int) [][]int {
	_, err := gen.Replay(g, begin)
	if err == nil {
		return [][]int{begin}
	}
	if plain.Told(err) != api.ErrShort {
		return nil
	}
	var all [][]int
	for n := 0; ; n++ {
		longer := append(slices.Clone(begin), n)
		if _, err := gen.Replay(g, longer); plain.Told(err) == api.ErrRange {
			return all
		}
		all = append(all, tapesFrom(g, longer)...)
	}
}

// inOrder lists the tapes of a generator in lexicographic order.
func inOrder(g api.Gen) [][]int {
	all := tapesFrom(g, nil)
	slices.SortFunc(all, slices.Compare[[]int])
	return all
}

// checkAll compares Nth and Rank for each tape of a generator with the list of
// all of them.
func checkAll(t *testing.T, g api.Gen) {
	t.Helper()
	all := inOrder(g)
	for i, tape := range all {
		if got, err := Nth(g, i); !slices.Equal(got, tape) || err != nil {
			t.Fatalf("Nth(%v, %d) = %v, %v, want %v", g, i, got, err, tape)
		}
		if got, err := Rank(g, tape); got != i || err != nil {
			t.Fatalf("Rank(%v, %v) = %d, %v, want %d", g, tape, got, err, i)
		}
	}
	for _, i := range []int{-1, len(all)} {
		if got, err := Nth(g, i); len(got) > 0 || plain.Told(err) != api.ErrRange {
			t.Fatalf("Nth(%v, %d) = %v, %v, want ErrRange", g, i, got, err)
		}
	}
}

// RK1: the tapes of generators of each kind, in their order.
func TestAllTapes(t *testing.T) {
	tooMany := both(repeated(5, number(0, 1000))...)
	for _, g := range []api.Gen{
		just(7),
		just(-1 << 30),
		number(3, 3),
		number(-2, 2),
		number(1<<30-3, 1<<30),
		number(-500, 500),
		both(),
		both(just(1)),
		both(both(), both(just(2)), both()),
		both(number(0, 2), number(5, 6)),
		both(number(5, 6), number(0, 2), just(3), number(1, 4)),
		both(number(0, 1), both(), both(number(1, 2), just(4)), number(8, 9)),
		both(many(2, number(0, 1)), number(0, 2)),
		both(many(2, number(0, 1)), either(just(9), many(1, number(4, 5))), number(-1, 0)),
		both(either(number(0, 4), just(1)), either(just(1), number(0, 4))),
		many(0, number(0, 9)),
		many(0, tooMany),
		many(1, just(1)),
		many(5, just(1)),
		many(5, number(0, 1)),
		many(5, both()),
		many(2, number(5, 7)),
		many(2, many(2, number(0, 1))),
		many(2, many(0, tooMany)),
		many(3, both(number(0, 1), just(3), number(0, 2))),
		many(3, either(just(1), number(0, 2))),
		many(5, both(repeated(28, number(4, 4))...)), // 5 times its parts would be more than MaxParts
		either(just(1)),
		either(just(1), just(1), just(2)),
		either(repeated(29, just(0))...),
		either(many(0, tooMany), number(0, 2), many(0, tooMany)),
		either(number(0, 4), both(number(0, 1), number(0, 1)), many(2, number(1, 2))),
		either(either(just(1), just(2)), either(number(0, 3))),
		both(both(both(both(both(number(0, 1)))))),
		many(1, many(1, many(1, many(1, many(1, number(0, 2)))))),
	} {
		checkAll(t, g)
	}
}

// RK1: a shorter tape may come after a longer one, and numbers are compared as
// numbers, not as text.
func TestOrder(t *testing.T) {
	cases := []struct {
		g    api.Gen
		i    int
		tape []int
	}{
		{many(2, number(5, 7)), 0, []int{0}},
		{many(2, number(5, 7)), 1, []int{1, 0}},
		{many(2, number(5, 7)), 3, []int{1, 2}},
		{many(2, number(5, 7)), 4, []int{2, 0, 0}},
		{many(2, number(5, 7)), 5, []int{2, 0, 1}},
		{many(2, number(5, 7)), 7, []int{2, 1, 0}},
		{many(2, number(5, 7)), 12, []int{2, 2, 2}},
		{either(both(number(0, 1), number(0, 1)), just(1)), 3, []int{0, 1, 1}},
		{either(both(number(0, 1), number(0, 1)), just(1)), 4, []int{1}},
		{number(0, 10), 9, []int{9}},
		{number(0, 10), 10, []int{10}},
		{number(5, 1005), 1000, []int{1000}},
		{both(number(0, 10), number(0, 99)), 299, []int{2, 99}},
		{both(number(0, 10), number(0, 99)), 1000, []int{10, 0}},
		{api.Gen{Kind: api.Both, A: 9, B: -9, Subs: []api.Gen{number(0, 3)}}, 2, []int{2}},
		{api.Gen{Kind: api.Any, A: 9, B: -9, Subs: []api.Gen{just(0), just(0)}}, 1, []int{1}},
	}
	for _, c := range cases {
		if got, err := Nth(c.g, c.i); !slices.Equal(got, c.tape) || err != nil {
			t.Errorf("Nth(%v, %d) = %v, %v, want %v", c.g, c.i, got, err, c.tape)
		}
		if got, err := Rank(c.g, c.tape); got != c.i || err != nil {
			t.Errorf("Rank(%v, %v) = %d, %v, want %d", c.g, c.tape, got, err, c.i)
		}
	}
}

// chance carries a seed from draw to draw.
type chance struct{ seed api.Seed }

func (c *chance) below(n int) int {
	var k int
	k, c.seed, _ = rng.Below(c.seed, n)
	return k
}

// generator returns one that is nested at most so deep.
func (c *chance) generator(depth int) api.Gen {
	kind := c.below(5) + api.Just
	if depth == 0 {
		kind = min(kind, api.Int)
	}
	switch kind {
	case api.Just:
		return just(c.below(9))
	case api.Int:
		return number(-1, c.below(4)-1)
	case api.Many:
		return many(c.below(4), c.generator(depth-1))
	}
	g := api.Gen{Kind: kind}
	for range c.below(3) + 1 {
		g.Subs = append(g.Subs, c.generator(depth-1))
	}
	return g
}

// RK1: Nth and Rank of all tapes of generators at random.
func TestRandomGenerators(t *testing.T) {
	c := &chance{rng.New(5)}
	tested := 0
	for range 2000 {
		g := c.generator(4)
		if n, err := gen.Count(g); err == nil && n <= 300 {
			checkAll(t, g)
			tested++
		}
	}
	if tested < 500 {
		t.Errorf("only %d generators have few enough tapes", tested)
	}
}

// RK1: with as many tapes as there may be, Nth and Rank undo each other, and
// Nth keeps the order.
func TestManyTapes(t *testing.T) {
	for _, g := range []api.Gen{
		both(repeated(20, number(0, 1))...),
		both(number(0, 1000), number(0, 1000)),
		many(5, number(1, 15)),
		many(5, both(repeated(13, number(0, 0))...)),
		either(many(2, number(1, 1000)), many(5, many(5, just(1)))),
	} {
		n, err := gen.Count(g)
		if err != nil {
			t.Fatalf("Count(%v): %v", g, err)
		}
		var before []int
		for i := 0; i < n; i += 1 + i%997 {
			tape, err := Nth(g, i)
			if err != nil || i > 0 && slices.Compare(before, tape) >= 0 {
				t.Fatalf("Nth(%v, %d) = %v, %v, want one after %v", g, i, tape, err, before)
			}
			if got, err := Rank(g, tape); got != i || err != nil {
				t.Fatalf("Rank(%v, %v) = %d, %v, want %d", g, tape, got, err, i)
			}
			before = tape
		}
		last, err := Nth(g, n-1)
		if mended, _ := gen.Mend(g, slices.Repeat([]int{5000}, 100)); err != nil || !slices.Equal(last, mended) {
			t.Errorf("the last tape of %v is %v, %v, want %v", g, last, err, mended)
		}
		if tape, err := Nth(g, n); len(tape) > 0 || plain.Told(err) != api.ErrRange {
			t.Errorf("Nth(%v, %d) = %v, %v, want ErrRange", g, n, tape, err)
		}
	}
}

// RK1: the errors of gen.Count come first, for all indices and all lists.
func TestErrorsOfCountFirst(t *testing.T) {
	loop := both(just(1))
	loop.Subs[0] = loop
	cases := []struct {
		g    api.Gen
		want api.Errno
	}{
		{api.Gen{}, api.ErrForm},
		{api.Gen{Kind: 6}, api.ErrForm},
		{either(), api.ErrForm},
		{api.Gen{Kind: api.Many, A: 1}, api.ErrForm},
		{api.Gen{Kind: api.Int, B: 1, Subs: []api.Gen{just(1)}}, api.ErrForm},
		{both(just(1), both(api.Gen{Kind: -1})), api.ErrForm},
		{just(1<<30 + 1), api.ErrRange},
		{number(1, 0), api.ErrRange},
		{number(0, 1001), api.ErrRange},
		{many(6, just(1)), api.ErrRange},
		{many(2, either(number(math.MinInt, math.MaxInt))), api.ErrRange},
		{both(repeated(30, just(1))...), api.ErrFull},
		{both(both(both(both(both(both(just(1))))))), api.ErrFull},
		{loop, api.ErrFull},
		{both(repeated(21, number(0, 1))...), api.ErrFull},
		{both(number(0, 1000), number(0, 1000), number(0, 1)), api.ErrFull},
		{many(5, number(1, 16)), api.ErrFull},
		{many(5, many(5, many(5, many(5, many(5, number(0, 1000)))))), api.ErrFull},
	}
	for _, c := range cases {
		for _, i := range []int{0, 1, -1, api.MaxCount, api.MaxCount + 1, math.MinInt, math.MaxInt} {
			if tape, err := Nth(c.g, i); len(tape) > 0 || plain.Told(err) != c.want {
				t.Errorf("Nth(%v, %d) = %v, %v, want %v", c.g, i, tape, err, c.want)
			}
		}
		for _, tape := range [][]int{nil, {}, {0}, {-1}, {0, 0, 2000}, make([]int, 29)} {
			if n, err := Rank(c.g, tape); n != 0 || plain.Told(err) != c.want {
				t.Errorf("Rank(%v, %v) = %d, %v, want 0, %v", c.g, tape, n, err, c.want)
			}
		}
	}
}

// RK1: an index that is negative or too great.
func TestNthErrors(t *testing.T) {
	for _, g := range []api.Gen{just(5), number(5, 7), both(), many(2, number(5, 7)), either(just(1))} {
		n, _ := gen.Count(g)
		for _, i := range []int{-1, -n, n, n + 1, 1 << 32, -1 << 32, math.MinInt, math.MaxInt} {
			if tape, err := Nth(g, i); len(tape) > 0 || plain.Told(err) != api.ErrRange {
				t.Errorf("Nth(%v, %d) = %v, %v, want ErrRange", g, i, tape, err)
			}
		}
	}
}

// RK1: lists that are no tape of the generator.
func TestRankErrors(t *testing.T) {
	pairs := many(2, both(number(5, 7), number(0, 1)))
	cases := []struct {
		g    api.Gen
		tape []int
		want api.Errno
	}{
		{just(1), []int{0}, api.ErrForm},
		{both(), []int{-1}, api.ErrForm},
		{number(5, 7), nil, api.ErrShort},
		{number(5, 7), []int{}, api.ErrShort},
		{number(5, 7), []int{-1}, api.ErrRange},
		{number(5, 7), []int{3}, api.ErrRange},
		{number(5, 7), []int{5}, api.ErrRange},
		{number(5, 7), []int{math.MinInt}, api.ErrRange},
		{number(5, 7), []int{math.MaxInt}, api.ErrRange},
		{number(5, 7), []int{3, 0}, api.ErrRange},
		{number(5, 7), []int{2, 0}, api.ErrForm},
		{many(0, just(1)), nil, api.ErrShort},
		{many(0, just(1)), []int{1}, api.ErrRange},
		{either(just(1), just(2)), []int{2}, api.ErrRange},
		{either(just(1), just(2)), []int{1, 0}, api.ErrForm},
		{pairs, []int{1, 0}, api.ErrShort},
		{pairs, []int{1, 0, -1, 9}, api.ErrRange},
		{pairs, []int{2, 0, 0, 0, 2}, api.ErrRange},
		{pairs, []int{0, 0}, api.ErrForm},
		{pairs, slices.Repeat([]int{0}, 1<<20), api.ErrForm},
	}
	for _, c := range cases {
		if n, err := Rank(c.g, c.tape); n != 0 || plain.Told(err) != c.want {
			t.Errorf("Rank(%v, %v) = %d, %v, want 0, %v", c.g, c.tape[:min(len(c.tape), 9)], n, err, c.want)
		}
	}
}

// P2: arguments stay as they are, also behind their length.
func TestArgumentsStay(t *testing.T) {
	memory := []int{2, 0, 1, 77, 78}
	subs := []api.Gen{number(5, 7), number(0, 1), just(3)}
	g := many(2, both(subs[:1]...))
	kept := fmt.Sprint(g, subs, memory)
	if n, err := Rank(g, memory[:3]); n != 5 || err != nil {
		t.Errorf("Rank = %d, %v, want 5", n, err)
	}
	if tape, err := Nth(g, 12); !slices.Equal(tape, []int{2, 2, 2}) || err != nil {
		t.Errorf("Nth = %v, %v, want [2 2 2]", tape, err)
	}
	if fmt.Sprint(g, subs, memory) != kept {
		t.Errorf("the arguments became %v %v %v, were %s", g, subs, memory, kept)
	}
}

// P2: each result of Nth has memory of its own.
func TestNthReturnsNewMemory(t *testing.T) {
	for _, g := range []api.Gen{number(0, 9), both(number(0, 9), number(0, 9)), many(2, number(5, 7)), either(number(0, 9))} {
		first, _ := Nth(g, 7)
		second, _ := Nth(g, 7)
		kept := slices.Clone(second)
		for i := range first[:cap(first)] {
			first[:cap(first)][i] = 77
		}
		if third, _ := Nth(g, 7); !slices.Equal(second, kept) || !slices.Equal(third, kept) {
			t.Errorf("Nth(%v, 7) after a change of another result: %v, %v, want %v", g, second, third, kept)
		}
	}
}
