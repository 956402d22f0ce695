package shrink

import (
	"fmt"
	"math"
	"slices"
	"testing"

	"assayer/api"
	"assayer/expr"
	"assayer/gen"
	"assayer/plain"
	"assayer/rng"
	"assayer/rose"
	"assayer/tape"
)

func just(n int) api.Gen              { return api.Gen{Kind: api.Just, A: n} }
func number(a, b int) api.Gen         { return api.Gen{Kind: api.Int, A: a, B: b} }
func both(subs ...api.Gen) api.Gen    { return api.Gen{Kind: api.Both, Subs: subs} }
func many(n int, sub api.Gen) api.Gen { return api.Gen{Kind: api.Many, A: n, Subs: []api.Gen{sub}} }
func either(subs ...api.Gen) api.Gen  { return api.Gen{Kind: api.Any, Subs: subs} }

func lit(n int) api.Expr                     { return api.Expr{Kind: api.Lit, N: n} }
func op(kind int, subs ...api.Expr) api.Expr { return api.Expr{Kind: kind, Subs: subs} }

// below is the property that what a kind tells of a value is less than n.
func below(kind, n int) api.Expr { return op(api.Less, op(kind), lit(n)) }

// isNot is the property that what a kind tells of a value is not n.
func isNot(kind, n int) api.Expr { return op(api.Not, op(api.Same, op(kind), lit(n))) }

// divisible is the property that a number is divisible by another one.
func divisible(a, b api.Expr) api.Expr { return op(api.Not, op(api.Rem, a, b)) }

// example is a tape with the end of its walk.
type example struct {
	g     api.Gen
	x     api.Expr
	tape  []int
	want  []int
	steps int
}

func checkExamples(t *testing.T, examples []example) {
	t.Helper()
	for _, e := range examples {
		got, steps, err := Walk(e.g, e.x, e.tape)
		if !slices.Equal(got, e.want) || steps != e.steps || err != nil {
			t.Errorf("Walk(%v, %v, %v) = %v, %d, %v, want %v, %d", e.g, e.x, e.tape, got, steps, err, e.want, e.steps)
		}
	}
}

// SH1: a single number becomes 0, or else half of itself, or else less by 1,
// whatever fails first.
func TestOneNumber(t *testing.T) {
	seven := below(api.Sum, 7)
	checkExamples(t, []example{
		{number(0, 99), seven, []int{60}, []int{7}, 3}, // 30 15 7
		{number(0, 99), seven, []int{8}, []int{7}, 1},
		{number(0, 99), seven, []int{13}, []int{7}, 6},
		{number(0, 99), seven, []int{14}, []int{7}, 1},
		{number(0, 99), seven, []int{15}, []int{7}, 1},
		{number(0, 99), seven, []int{99}, []int{7}, 8}, // 49 24 12 11 10 9 8 7
		{number(0, 99), lit(0), []int{99}, []int{0}, 1},
		{number(0, 99), below(api.Sum, 1), []int{64}, []int{1}, 6},
		{number(-50, 49), seven, []int{99}, []int{57}, 42},
		{number(0, 1000), below(api.Sum, 501), []int{1000}, []int{501}, 499},
	})
}

// SH1: the walk ends where no candidate fails, even if a lesser tape does, and
// even at once.
func TestNoCandidateFails(t *testing.T) {
	even := divisible(op(api.Sum), lit(2)) // so an odd sum fails
	checkExamples(t, []example{
		{number(0, 99), even, []int{9}, []int{9}, 0},
		{number(0, 99), even, []int{11}, []int{5}, 1},
		{number(0, 99), even, []int{15}, []int{1}, 3},
		{number(0, 99), even, []int{99}, []int{49}, 1},
		{number(0, 99), even, []int{1}, []int{1}, 0},
		{number(0, 99), below(api.Sum, 7), []int{7}, []int{7}, 0},
		{number(0, 1000), isNot(api.Sum, 1000), []int{1000}, []int{1000}, 0},
		{both(number(0, 9), number(0, 9)), isNot(api.Sum, 9), []int{9, 0}, []int{9, 0}, 0},
	})
}

// SH1: a tape without candidates is where its walk ends.
func TestNoCandidates(t *testing.T) {
	checkExamples(t, []example{
		{just(3), below(api.Sum, 3), nil, nil, 0},
		{just(3), below(api.Sum, 3), []int{}, nil, 0},
		{both(), op(api.Len), nil, nil, 0},
		{both(just(1), both(just(2))), lit(0), nil, nil, 0},
		{number(0, 99), isNot(api.Sum, 0), []int{0}, []int{0}, 0},
		{number(7, 7), below(api.Sum, 7), []int{0}, []int{0}, 0},
		{many(2, number(0, 9)), op(api.Len), []int{0}, []int{0}, 0},
		{either(both(number(0, 9), number(0, 9)), just(1)), isNot(api.Sum, 1), []int{1}, []int{1}, 0},
	})
}

// SH1: the first candidate that fails is taken, position by position, and not
// the least one.
func TestSeveralNumbers(t *testing.T) {
	digits := both(number(0, 9), number(0, 9))
	checkExamples(t, []example{
		{digits, lit(0), []int{4, 7}, []int{0, 0}, 2},             // 0.7 0.0
		{digits, below(api.Sum, 7), []int{4, 7}, []int{0, 7}, 1},  // 0.7
		{digits, below(api.Sum, 7), []int{9, 5}, []int{2, 5}, 2},  // 4.5 2.5
		{digits, below(api.Sum, 7), []int{5, 9}, []int{0, 7}, 3},  // 0.9 0.8 0.7
		{digits, below(api.Sum, 10), []int{9, 9}, []int{1, 9}, 3}, // 4.9 2.9 1.9
		{digits, isNot(api.Sum, 9), []int{5, 4}, []int{5, 4}, 0},
		{digits, below(api.Top, 7), []int{8, 3}, []int{7, 0}, 2}, // 7.3 7.0
		{digits, below(api.Top, 3), []int{3, 9}, []int{0, 3}, 3}, // 0.9 0.4 0.3
		{digits, below(api.Top, 9), []int{9, 9}, []int{0, 9}, 1},
		{digits, isNot(api.Top, 3), []int{3, 2}, []int{3, 0}, 1},
	})
}

// SH1: a list gets fewer items, or lacks a number, before the numbers after
// that become less.
func TestMany(t *testing.T) {
	digits := many(3, number(0, 9))
	nested := many(2, many(2, number(5, 7)))
	checkExamples(t, []example{
		{digits, lit(0), []int{3, 1, 2, 3}, []int{0}, 1},
		{digits, below(api.Len, 2), []int{3, 1, 2, 3}, []int{2, 0, 0}, 3},    // 2.1.2 2.0.2 2.0.0
		{digits, isNot(api.Len, 3), []int{3, 9, 9, 9}, []int{3, 0, 0, 0}, 3}, // 3.9.9.0 3.9.0.0 3.0.0.0
		{digits, below(api.Top, 7), []int{2, 1, 9}, []int{1, 7}, 3},          // 1.9 1.8 1.7
		{digits, below(api.Sum, 7), []int{3, 4, 4, 4}, []int{2, 3, 4}, 2},    // 2.4.4 2.3.4
		{digits, below(api.Sum, 20), []int{3, 9, 9, 9}, []int{3, 2, 9, 9}, 2},
		{nested, below(api.Sum, 6), []int{2, 2, 2, 2, 2, 2, 2}, []int{1, 1, 1}, 3},     // 1.2.2.2 1.1.2 1.1.1
		{nested, below(api.Sum, 13), []int{2, 2, 2, 2, 2, 2, 2}, []int{1, 2, 1, 2}, 2}, // 1.2.2.2 1.2.1.2
		{nested, below(api.Len, 2), []int{2, 2, 2, 2, 2, 2, 2}, []int{2, 0, 0}, 6},     // at last 2.2.0.0.0 2.0.0
	})
}

// SH1: another Sub of an Any.
func TestAny(t *testing.T) {
	mixed := either(just(1), number(0, 3), many(2, number(0, 9)))
	numbers := either(both(number(0, 9), number(0, 9)), number(0, 9))
	checkExamples(t, []example{
		{mixed, below(api.Sum, 1), []int{2, 2, 9, 9}, []int{0}, 1},
		{mixed, below(api.Sum, 2), []int{2, 2, 9, 9}, []int{1, 2}, 1},
		{mixed, below(api.Sum, 4), []int{2, 2, 9, 9}, []int{2, 1, 4}, 3}, // 2.2.9.0 2.1.9 2.1.4
		{mixed, below(api.Len, 1), []int{2, 2, 9, 9}, []int{2, 1, 0}, 3}, // 2.2.9.0 2.2.0.0 2.1.0
		{mixed, below(api.Sum, 3), []int{2, 1, 9}, []int{1, 3}, 1},
		{numbers, below(api.Sum, 3), []int{1, 8}, []int{1, 3}, 2},
		{numbers, below(api.Sum, 3), []int{0, 8, 8}, []int{1, 3}, 3}, // 1.8 1.4 1.3
	})
}

// SH1: a value fails also if the property has no number for it, at the start,
// on the way and at the end.
func TestPropertyWithoutNumber(t *testing.T) {
	digits := many(3, number(0, 9))
	mean := divisible(op(api.Sum), op(api.Len)) // none for an empty list
	share := op(api.Rem, lit(7), op(api.Sum))   // none for a sum of 0
	none := op(api.Rem, lit(1), lit(0))
	checkExamples(t, []example{
		{digits, mean, []int{3, 4, 0, 0}, []int{0}, 1},
		{digits, mean, []int{2, 4, 5}, []int{0}, 1},
		{digits, mean, []int{0}, []int{0}, 0},
		{number(-5, 5), share, []int{6}, []int{4}, 2}, // the sums 1, 0 and -1
		{number(-5, 5), share, []int{5}, []int{4}, 1},
		{digits, op(api.And, op(api.Len), mean), []int{3, 4, 0, 0}, []int{0}, 1},
		{digits, op(api.Or, op(api.Not, op(api.Len)), mean), []int{3, 4, 0, 0}, []int{2, 1, 0}, 3},
		{digits, none, []int{3, 4, 0, 0}, []int{0}, 1},
		{just(1), none, nil, nil, 0},
	})
}

// failing reports whether the value of a tape fails.
func failing(t *testing.T, g api.Gen, x api.Expr, l []int) bool {
	t.Helper()
	v, err := gen.Replay(g, l)
	if err != nil {
		t.Fatalf("Replay(%v, %v): %v", g, l, err)
	}
	bad, err := expr.Fails(x, v)
	if err != nil {
		t.Fatalf("Fails(%v, %v): %v", x, v, err)
	}
	return bad
}

// byTheBook returns what SH1 tells of a tape whose value fails.
func byTheBook(t *testing.T, g api.Gen, x api.Expr, l []int) ([]int, int) {
	t.Helper()
	for steps := 0; ; steps++ {
		all, err := rose.Less(g, l)
		if err != nil {
			t.Fatalf("Less(%v, %v): %v", g, l, err)
		}
		first := slices.IndexFunc(all, func(less []int) bool { return failing(t, g, x, less) })
		if first < 0 {
			return l, steps
		}
		l = all[first]
	}
}

// checkWalk compares Walk with SH1, and tests that no candidate of the tape
// where it ends fails. It returns the number of steps, or -1 with ErrNone.
func checkWalk(t *testing.T, g api.Gen, x api.Expr, l []int) int {
	t.Helper()
	got, steps, err := Walk(g, x, l)
	if !failing(t, g, x, l) {
		if len(got) > 0 || steps != 0 || plain.Told(err) != api.ErrNone {
			t.Fatalf("Walk(%v, %v, %v) = %v, %d, %v, want ErrNone", g, x, l, got, steps, err)
		}
		return -1
	}
	want, wantSteps := byTheBook(t, g, x, l)
	if !slices.Equal(got, want) || steps != wantSteps || err != nil {
		t.Fatalf("Walk(%v, %v, %v) = %v, %d, %v, want %v, %d", g, x, l, got, steps, err, want, wantSteps)
	}
	if !failing(t, g, x, got) || steps > 0 != tape.Less(got, l) {
		t.Fatalf("Walk(%v, %v, %v) ends at %v", g, x, l, got)
	}
	all, _ := rose.Less(g, got)
	if slices.ContainsFunc(all, func(less []int) bool { return failing(t, g, x, less) }) {
		t.Fatalf("Walk(%v, %v, %v) ends at %v, of which a candidate fails", g, x, l, got)
	}
	return steps
}

// chance carries a seed from draw to draw.
type chance struct{ seed api.Seed }

func (c *chance) below(n int) int {
	var k int
	k, c.seed, _ = rng.Below(c.seed, n)
	return k
}

// generator returns one that is nested at most so deep.
func (c *chance) generator(depth int) api.Gen {
	kind := c.below(5) + api.Just
	if depth == 0 {
		kind = min(kind, api.Int)
	}
	switch kind {
	case api.Just:
		return just(c.below(9))
	case api.Int:
		return number(-1, c.below(20)-1)
	case api.Many:
		return many(c.below(4), c.generator(depth-1))
	}
	g := api.Gen{Kind: kind}
	for range c.below(3) + 1 {
		g.Subs = append(g.Subs, c.generator(depth-1))
	}
	return g
}

// property returns an expression that is nested at most so deep.
func (c *chance) property(depth int) api.Expr {
	kind := c.below(11) + api.Lit
	if depth == 0 {
		kind = c.below(4) + api.Lit
	}
	switch kind {
	case api.Lit:
		return lit(c.below(12) - 1)
	case api.Sum, api.Top, api.Len:
		return op(kind)
	case api.Not:
		return op(kind, c.property(depth-1))
	}
	return op(kind, c.property(depth-1), c.property(depth-1))
}

// SH1: tapes and properties at random of generators at random.
func TestRandomWalks(t *testing.T) {
	c := &chance{rng.New(8)}
	passing, short, long := 0, 0, 0
	for range 20000 {
		g, x := c.generator(4), c.property(3)
		if gen.Check(g) != nil {
			continue
		}
		for range 5 {
			l, err := gen.Draw(g, rng.New(c.below(1<<30)))
			if err != nil {
				t.Fatalf("Draw(%v): %v", g, err)
			}
			switch steps := checkWalk(t, g, x, l); {
			case steps < 0:
				passing++
			case steps < 2:
				short++
			default:
				long++
			}
		}
	}
	if passing < 1000 || short < 1000 || long < 1000 {
		t.Errorf("%d tapes do not fail, %d have short walks, %d long ones", passing, short, long)
	}
}

// wrong is an argument that a function rejects.
type wrong[T any] struct {
	value T
	want  api.Errno
}

func wrongGenerators() []wrong[api.Gen] {
	loop := both(just(1))
	loop.Subs[0] = loop
	return []wrong[api.Gen]{
		{api.Gen{}, api.ErrForm},
		{api.Gen{Kind: 6}, api.ErrForm},
		{api.Gen{Kind: math.MinInt}, api.ErrForm},
		{either(), api.ErrForm},
		{api.Gen{Kind: api.Many, A: 1}, api.ErrForm},
		{api.Gen{Kind: api.Int, B: 1, Subs: []api.Gen{just(1)}}, api.ErrForm},
		{either(number(0, 9), api.Gen{Kind: 9}), api.ErrForm},
		{just(1<<30 + 1), api.ErrRange},
		{number(1, 0), api.ErrRange},
		{number(0, 1001), api.ErrRange},
		{many(6, just(1)), api.ErrRange},
		{many(0, number(math.MinInt, math.MaxInt)), api.ErrRange},
		{both(slices.Repeat([]api.Gen{just(1)}, 30)...), api.ErrFull},
		{both(both(both(both(both(both(just(1))))))), api.ErrFull},
		{loop, api.ErrFull},
	}
}

func wrongProperties() []wrong[api.Expr] {
	loop := op(api.Not, lit(1))
	loop.Subs[0] = loop
	wide := api.Expr{Kind: api.Add, Subs: slices.Repeat([]api.Expr{lit(1)}, 30)}
	return []wrong[api.Expr]{
		{api.Expr{}, api.ErrForm},
		{api.Expr{Kind: 12}, api.ErrForm},
		{api.Expr{Kind: math.MinInt}, api.ErrForm},
		{op(api.Not), api.ErrForm},
		{op(api.Lit, lit(1)), api.ErrForm},
		{op(api.Less, lit(1)), api.ErrForm},
		{op(api.Add, lit(1), lit(1), lit(1)), api.ErrForm},
		{op(api.And, lit(0), op(api.Not)), api.ErrForm}, // though it is not needed
		{op(api.Or, lit(1), api.Expr{Kind: -1}), api.ErrForm},
		{wide, api.ErrFull},
		{op(api.Not, op(api.Not, op(api.Not, op(api.Not, op(api.Not, op(api.Not, lit(1))))))), api.ErrFull},
		{loop, api.ErrFull},
	}
}

// tapes returns tapes of some generator or other, and lists that are none.
func tapes() [][]int {
	return [][]int{nil, {}, {0}, {-1}, {5}, {0, 0, 2000}, {2, 1, 2}, {math.MaxInt}, make([]int, 29)}
}

// checkError tests an error of Walk. The generator and the property are named
// by a text, as those that are nested in themselves have none.
func checkError(t *testing.T, name string, g api.Gen, x api.Expr, l []int, want api.Errno) {
	t.Helper()
	got, steps, err := Walk(g, x, l)
	if len(got) > 0 || steps != 0 || plain.Told(err) != want {
		t.Errorf("Walk(%s, %v) = %v, %d, %v, want %v", name, l[:min(len(l), 9)], got, steps, err, want)
	}
}

// SH1: the errors of gen.Check come first, for all properties and lists.
func TestErrorsOfGenerators(t *testing.T) {
	for i, g := range wrongGenerators() {
		for _, l := range tapes() {
			checkError(t, fmt.Sprintf("generator %d, 0", i), g.value, lit(0), l, g.want)
			checkError(t, fmt.Sprintf("generator %d, 1", i), g.value, lit(1), l, g.want)
			for k, x := range wrongProperties() {
				checkError(t, fmt.Sprintf("generator %d, property %d", i, k), g.value, x.value, l, g.want)
			}
		}
	}
}

// SH1: the errors of expr.Check come next, for all lists.
func TestErrorsOfProperties(t *testing.T) {
	for i, g := range []api.Gen{just(1), both(), number(0, 9), number(7, 7), many(2, number(5, 7))} {
		for k, x := range wrongProperties() {
			for _, l := range tapes() {
				checkError(t, fmt.Sprintf("generator %d, property %d", i, k), g, x.value, l, x.want)
			}
		}
	}
}

// SH1: the errors of gen.Replay come before ErrNone, and also if the value of
// what there is of the tape would fail.
func TestErrorsOfReplay(t *testing.T) {
	pairs := many(2, both(number(5, 7), number(0, 1)))
	cases := []struct {
		g    api.Gen
		tape []int
		want api.Errno
	}{
		{just(1), []int{0}, api.ErrForm},
		{both(), []int{-1}, api.ErrForm},
		{number(0, 9), nil, api.ErrShort},
		{number(0, 9), []int{}, api.ErrShort},
		{number(5, 7), []int{-1}, api.ErrRange},
		{number(5, 7), []int{3}, api.ErrRange},
		{number(5, 7), []int{math.MinInt}, api.ErrRange},
		{number(5, 7), []int{math.MaxInt, 0}, api.ErrRange},
		{number(5, 7), []int{2, 0}, api.ErrForm},
		{many(0, just(1)), nil, api.ErrShort},
		{many(0, just(1)), []int{1}, api.ErrRange},
		{either(just(1), just(2)), []int{2}, api.ErrRange},
		{either(just(1), just(2)), []int{1, 0}, api.ErrForm},
		{pairs, []int{1, 2}, api.ErrShort},
		{pairs, []int{1, 2, -1, 9}, api.ErrRange},
		{pairs, []int{1, 2, 1, -1}, api.ErrForm},
		{pairs, slices.Repeat([]int{0}, 1<<10), api.ErrForm},
	}
	properties := []api.Expr{lit(0), lit(1), op(api.Sum), below(api.Sum, 0), op(api.Rem, lit(1), lit(0))}
	for _, c := range cases {
		for _, x := range properties {
			checkError(t, fmt.Sprint(c.g, x), c.g, x, c.tape, c.want)
		}
	}
}

// SH1: ErrNone if the value does not fail, even if that of a candidate does.
func TestNotFailing(t *testing.T) {
	for _, e := range []example{
		{g: number(0, 99), x: below(api.Sum, 7), tape: []int{6}},
		{g: number(0, 99), x: below(api.Sum, 7), tape: []int{0}},
		{g: number(0, 99), x: isNot(api.Sum, 0), tape: []int{60}},
		{g: number(0, 99), x: isNot(api.Sum, 30), tape: []int{60}},
		{g: number(0, 99), x: op(api.Sum), tape: []int{5}},
		{g: number(-9, 9), x: op(api.Sum), tape: []int{0}}, // -9 is not 0
		{g: number(0, 99), x: lit(-1), tape: []int{5}},
		{g: just(3), x: op(api.Sum), tape: nil},
		{g: both(), x: lit(1), tape: nil},
		{g: many(2, number(0, 9)), x: op(api.Len), tape: []int{1, 0}},
		{g: number(0, 9), x: op(api.Or, lit(1), op(api.Rem, lit(1), lit(0))), tape: []int{5}},
	} {
		checkError(t, fmt.Sprint(e.g, e.x), e.g, e.x, e.tape, api.ErrNone)
	}
}

// P5: the longest tape that a generator has. All its candidates would take more
// memory than a result may, but the first ones that fail come early.
func TestLongestTape(t *testing.T) {
	g := both(slices.Repeat([]api.Gen{number(0, 1000)}, 25)...)
	g = many(5, many(5, many(5, many(5, g))))
	l, err := gen.Mend(g, slices.Repeat([]int{1000}, 1<<14))
	if err != nil || len(l) != 1+5+25+125+625*25 {
		t.Fatalf("Mend: %d numbers, %v", len(l), err)
	}
	small := slices.Concat([]int{1, 1, 1, 1}, make([]int, 24), []int{7})
	for _, e := range []example{
		{x: lit(0), want: []int{0}, steps: 1},
		{x: below(api.Sum, 7), want: small, steps: 39},
	} {
		got, steps, err := Walk(g, e.x, l)
		if !slices.Equal(got, e.want) || steps != e.steps || err != nil {
			t.Errorf("Walk(%v) = %d numbers, %d, %v, want %v, %d", e.x, len(got), steps, err, e.want, e.steps)
		}
	}
}

// P2: arguments stay as they are, also behind their length.
func TestArgumentsStay(t *testing.T) {
	memory := []int{3, 4, 4, 4, 77, 78}
	subs := []api.Gen{number(0, 9), number(0, 1), just(3)}
	parts := []api.Expr{op(api.Sum), lit(7), lit(8)}
	g, x := many(3, both(subs[:1]...)), op(api.Less, parts[:2]...)
	kept := fmt.Sprint(g, subs, x, parts, memory)
	if got, steps, err := Walk(g, x, memory[:4]); !slices.Equal(got, []int{2, 3, 4}) || steps != 2 || err != nil {
		t.Errorf("Walk = %v, %d, %v, want [2 3 4], 2", got, steps, err)
	}
	if now := fmt.Sprint(g, subs, x, parts, memory); now != kept {
		t.Errorf("the arguments became %s, were %s", now, kept)
	}
}

// P2: the tape where a walk ends is new, also if it is the given one.
func TestResultsAreNew(t *testing.T) {
	x := below(api.Sum, 7)
	for _, n := range []int{7, 60} {
		given := []int{n, 77}[:1]
		first, _, _ := Walk(number(0, 99), x, given)
		second, _, _ := Walk(number(0, 99), x, given)
		for i := range first[:cap(first)] {
			first[:cap(first)][i] = 66
		}
		if !slices.Equal(given[:2], []int{n, 77}) || !slices.Equal(second, []int{7}) {
			t.Errorf("after a change of a result: tape %v, another result %v", given[:2], second)
		}
		if third, _, _ := Walk(number(0, 99), x, given); !slices.Equal(third, []int{7}) {
			t.Errorf("after a change of a result: Walk = %v, want [7]", third)
		}
	}
}
