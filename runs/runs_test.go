package runs

import (
	"fmt"
	"math"
	"slices"
	"testing"

	"assayer/api"
	"assayer/expr"
	"assayer/gen"
	"assayer/plain"
	"assayer/rng"
	"assayer/rose"
	"assayer/shrink"
)

func just(n int) api.Gen              { return api.Gen{Kind: api.Just, A: n} }
func number(a, b int) api.Gen         { return api.Gen{Kind: api.Int, A: a, B: b} }
func both(subs ...api.Gen) api.Gen    { return api.Gen{Kind: api.Both, Subs: subs} }
func many(n int, sub api.Gen) api.Gen { return api.Gen{Kind: api.Many, A: n, Subs: []api.Gen{sub}} }
func either(subs ...api.Gen) api.Gen  { return api.Gen{Kind: api.Any, Subs: subs} }

func lit(n int) api.Expr                     { return api.Expr{Kind: api.Lit, N: n} }
func op(kind int, subs ...api.Expr) api.Expr { return api.Expr{Kind: kind, Subs: subs} }

// below is the property that what a kind tells of a value is less than n.
func below(kind, n int) api.Expr { return op(api.Less, op(kind), lit(n)) }

// isNot is the property that what a kind tells of a value is not n.
func isNot(kind, n int) api.Expr { return op(api.Not, op(api.Same, op(kind), lit(n))) }

func failed(runs int, tape []int, steps int) api.Report {
	return api.Report{Runs: runs, Failed: true, Tape: tape, Steps: steps}
}

func passed(runs int) api.Report { return api.Report{Runs: runs} }

func same(a, b api.Report) bool {
	return a.Runs == b.Runs && a.Failed == b.Failed && slices.Equal(a.Tape, b.Tape) && a.Steps == b.Steps
}

// example is a run with its report.
type example struct {
	g       api.Gen
	x       api.Expr
	n, many int
	want    api.Report
}

func checkExamples(t *testing.T, examples []example) {
	t.Helper()
	for _, e := range examples {
		got, err := Run(e.g, e.x, e.n, e.many)
		if !same(got, e.want) || err != nil {
			t.Errorf("Run(%v, %v, %d, %d) = %v, %v, want %v", e.g, e.x, e.n, e.many, got, err, e.want)
		}
	}
}

// fromOne has the numbers from 0 to 99 that a run with the number 1 draws,
// computed from RN1, RN2 and RU1 apart from this program. 99 is the 44th, and
// 89 the last.
func fromOne() []int {
	return []int{
		57, 62, 9, 80, 6, 23, 12, 40, 68, 8,
		55, 18, 82, 81, 77, 56, 36, 81, 83, 48,
		33, 62, 33, 29, 30, 23, 37, 37, 10, 11,
		36, 39, 42, 68, 67, 71, 95, 1, 17, 58,
		59, 87, 83, 99, 96, 55, 72, 95, 74, 89,
	}
}

// RU1: the numbers that are drawn, told from where each of them comes first.
func TestNumbersDrawn(t *testing.T) {
	drawn := fromOne()
	for n := range 100 {
		g, x := number(0, 99), isNot(api.Sum, n)
		want := passed(50)
		if first := slices.Index(drawn, n); first >= 0 {
			want = failed(first+1, []int{n}, 0)
		}
		checkExamples(t, []example{{g, x, 1, 50, want}})
	}
}

// RU1: the numbers that other numbers lead to, and the walk from the first one
// that fails.
func TestNumbersOfSeeds(t *testing.T) {
	g := number(0, 99)
	ninety, seven := below(api.Sum, 90), below(api.Sum, 7)
	checkExamples(t, []example{
		{g, ninety, 0, 20, failed(9, []int{90}, 0)},             // 47 36 84 49 75 39 29 43 90
		{g, ninety, 1, 50, failed(37, []int{90}, 5)},            // 95
		{g, ninety, 2, 20, failed(11, []int{90}, 1)},            // 75 74 6 54 17 83 36 59 3 16 91
		{g, ninety, 42, 20, failed(1, []int{90}, 5)},            // 95
		{g, ninety, -1, 20, failed(3, []int{90}, 9)},            // 80 57 99
		{g, ninety, -1, 2, passed(2)},                           // 80 57
		{g, below(api.Sum, 80), 0, 20, failed(3, []int{80}, 4)}, // 47 36 84
		{g, ninety, math.MinInt, 20, failed(6, []int{90}, 8)},   // 81 28 74 15 37 98
		{g, ninety, math.MaxInt, 20, failed(10, []int{90}, 7)},  // 9 89 73 18 16 77 26 85 80 97
		{g, seven, 0, 20, failed(1, []int{7}, 6)},               // 47: 23 11 10 9 8 7
		{g, seven, 1, 20, failed(1, []int{7}, 3)},               // 57: 28 14 7
	})
}

// RU1: at most so many values, up to and including the first one that fails.
func TestHowMany(t *testing.T) {
	g, x := number(0, 99), below(api.Sum, 99)
	for many := range 51 {
		want := passed(many)
		if many >= 44 {
			want = failed(44, []int{99}, 0)
		}
		checkExamples(t, []example{
			{g, x, 1, many, want},
			{g, lit(1), 1, many, passed(many)},
			{just(3), op(api.Sum), many, many, passed(many)},
			{both(), lit(-1), -many, many, passed(many)},
		})
	}
	last := isNot(api.Sum, 89)
	checkExamples(t, []example{
		{g, last, 1, 50, failed(50, []int{89}, 0)},
		{g, last, 1, 49, passed(49)},
		{g, lit(0), 1, 0, passed(0)},
		{g, lit(0), 1, 1, failed(1, []int{0}, 1)},
		{g, lit(0), 1, 50, failed(1, []int{0}, 1)},
	})
}

// RU1: generators that make no choice draw an empty tape.
func TestEmptyTapes(t *testing.T) {
	checkExamples(t, []example{
		{just(3), below(api.Sum, 3), 1, 50, failed(1, nil, 0)},
		{just(3), below(api.Sum, 3), 1, 1, failed(1, nil, 0)},
		{just(3), below(api.Sum, 3), 1, 0, passed(0)},
		{both(), op(api.Len), 1, 50, failed(1, nil, 0)},
		{both(just(1), both(just(2))), lit(0), 7, 50, failed(1, nil, 0)},
	})
}

// RU1: several choices are all drawn with the second seed of the same split.
func TestSeveralChoices(t *testing.T) {
	digits := both(number(0, 9), number(0, 9)) // 5.6 6.9 0.6 8.3 0.1
	lists := many(3, number(0, 9))             // 2.6.4 2.9.4 0 3.3.0.6
	mean := op(api.Not, op(api.Rem, op(api.Sum), op(api.Len)))
	checkExamples(t, []example{
		{digits, below(api.Sum, 15), 1, 20, failed(2, []int{6, 9}, 0)},
		{digits, below(api.Sum, 12), 1, 20, failed(2, []int{3, 9}, 1)},
		{digits, isNot(api.Sum, 6), 1, 20, failed(3, []int{0, 6}, 0)},
		{digits, isNot(api.Sum, 1), 1, 20, failed(5, []int{0, 1}, 0)},
		{digits, isNot(api.Sum, 1), 1, 4, passed(4)},
		{lists, lit(0), 1, 20, failed(1, []int{0}, 1)},
		{lists, op(api.Len), 1, 20, failed(3, []int{0}, 0)},
		{lists, op(api.Len), 1, 2, passed(2)},
		{lists, below(api.Len, 3), 1, 20, failed(4, []int{3, 0, 0, 0}, 2)}, // by 3.0.6.0
		{lists, below(api.Top, 9), 1, 20, failed(2, []int{1, 9}, 1)},
		// A value without a number fails too: 9 and 4 have no whole mean, and
		// an empty list has none at all.
		{lists, mean, 1, 20, failed(2, []int{0}, 1)},
		{lists, op(api.Or, op(api.Len), mean), 1, 20, failed(3, []int{0}, 0)},
		{lists, op(api.Rem, lit(1), lit(0)), 1, 20, failed(1, []int{0}, 1)},
	})
}

// drawnTapes returns the tapes that a run of so many values draws.
func drawnTapes(t *testing.T, g api.Gen, n, many int) [][]int {
	t.Helper()
	var tapes [][]int
	for seed := rng.New(n); len(tapes) < many; {
		next, drawn := rng.Split(seed)
		l, err := gen.Draw(g, drawn)
		if err != nil {
			t.Fatalf("Draw(%v): %v", g, err)
		}
		tapes, seed = append(tapes, l), next
	}
	return tapes
}

// failing returns a function that reports whether the value of a tape fails.
func failing(t *testing.T, g api.Gen, x api.Expr) func(l []int) bool {
	t.Helper()
	return func(l []int) bool {
		t.Helper()
		v, err := gen.Replay(g, l)
		if err != nil {
			t.Fatalf("Replay(%v, %v): %v", g, l, err)
		}
		fails, err := expr.Fails(x, v)
		if err != nil {
			t.Fatalf("Fails(%v, %v): %v", x, v, err)
		}
		return fails
	}
}

// checkRun compares Run with what RU1 tells of these arguments, and returns
// that.
func checkRun(t *testing.T, g api.Gen, x api.Expr, n, many int) api.Report {
	t.Helper()
	want := passed(many)
	tapes := drawnTapes(t, g, n, many)
	if first := slices.IndexFunc(tapes, failing(t, g, x)); first >= 0 {
		l, steps, err := shrink.Walk(g, x, tapes[first])
		if err != nil {
			t.Fatalf("Walk(%v, %v, %v): %v", g, x, tapes[first], err)
		}
		want = failed(first+1, l, steps)
	}
	checkExamples(t, []example{{g, x, n, many, want}})
	return want
}

func generators() []api.Gen {
	return []api.Gen{
		just(3),
		both(),
		number(7, 7),
		number(0, 9),
		number(-5, 5),
		number(0, 1000),
		both(just(1), number(0, 9), number(-3, 3)),
		many(0, number(0, 9)),
		many(5, number(0, 9)),
		many(2, many(3, number(-1, 7))),
		many(4, both(number(0, 2), either(just(5), number(1, 9)))),
		either(just(1), number(0, 3), many(3, number(0, 9))),
		either(both(number(0, 9), number(0, 9)), many(1, just(8))),
		both(many(3, number(0, 1)), either(many(2, number(0, 20)), just(-4))),
	}
}

func properties() []api.Expr {
	mean := op(api.Rem, op(api.Sum), op(api.Len))
	return []api.Expr{
		lit(0),
		lit(1),
		op(api.Sum),
		op(api.Len),
		below(api.Sum, 5),
		below(api.Sum, 20),
		below(api.Sum, 995),
		below(api.Top, 9),
		below(api.Len, 3),
		isNot(api.Sum, 6),
		isNot(api.Sum, 13),
		isNot(api.Len, 4),
		isNot(api.Top, 8),
		mean,
		op(api.Not, mean),
		op(api.Or, op(api.Not, op(api.Len)), mean),
		op(api.Rem, lit(1), lit(0)),
	}
}

// RU1: each generator with each property, with numbers of values and of seeds.
func TestManyRuns(t *testing.T) {
	passing, first, later, walked := 0, 0, 0, 0
	for i, g := range generators() {
		for k, x := range properties() {
			for n := -50; n <= 50; n++ {
				switch r := checkRun(t, g, x, n, (i+k+n+50)%51); {
				case !r.Failed:
					passing++
				case r.Runs == 1:
					first++
				case r.Steps < 2:
					later++
				default:
					walked++
				}
			}
		}
	}
	if min(passing, first, later, walked) < 1000 {
		t.Errorf("%d runs do not fail, %d fail at once, %d later, and %d of these have long walks", passing, first, later+walked, walked)
	}
}

// RU1: a run that fails ends with a tape whose value fails, while none of its
// candidates does.
func TestNoCandidateFails(t *testing.T) {
	for _, g := range generators() {
		for _, x := range properties() {
			r := checkRun(t, g, x, 5, 50)
			if !r.Failed {
				continue
			}
			less, err := rose.Less(g, r.Tape)
			if err != nil || !failing(t, g, x)(r.Tape) || slices.ContainsFunc(less, failing(t, g, x)) {
				t.Errorf("Run(%v, %v) = %v, with the candidates %v, %v", g, x, r, less, err)
			}
		}
	}
}

// RU1: a generator with nearly the most parts, nested as deep as can be, whose
// tapes have up to thousands of numbers.
func TestLongTapes(t *testing.T) {
	g := both(slices.Repeat([]api.Gen{number(0, 1000)}, 25)...)
	g = many(5, many(5, many(5, many(5, g))))
	for _, x := range []api.Expr{lit(1), below(api.Sum, 20000), below(api.Top, 500), isNot(api.Len, 5)} {
		for n := range 5 {
			checkRun(t, g, x, n, 50)
		}
	}
}

// wrong is an argument that Run rejects.
type wrong[T any] struct {
	value T
	want  api.Errno
}

func wrongGenerators() []wrong[api.Gen] {
	loop := both(just(1))
	loop.Subs[0] = loop
	return []wrong[api.Gen]{
		{api.Gen{}, api.ErrForm},
		{api.Gen{Kind: 6}, api.ErrForm},
		{either(number(0, 9), either()), api.ErrForm},
		{just(1<<30 + 1), api.ErrRange},
		{number(0, 1001), api.ErrRange},
		{many(6, just(1)), api.ErrRange},
		{both(slices.Repeat([]api.Gen{just(1)}, api.MaxParts)...), api.ErrFull},
		{loop, api.ErrFull},
	}
}

func wrongProperties() []wrong[api.Expr] {
	loop := op(api.Not, lit(1))
	loop.Subs[0] = loop
	return []wrong[api.Expr]{
		{api.Expr{}, api.ErrForm},
		{api.Expr{Kind: 12}, api.ErrForm},
		{op(api.Less, lit(1)), api.ErrForm},
		{op(api.And, lit(0), op(api.Not)), api.ErrForm}, // though it is not needed
		{op(api.Add, slices.Repeat([]api.Expr{lit(1)}, api.MaxParts)...), api.ErrFull},
		{loop, api.ErrFull},
	}
}

func wrongNumbers() []int { return []int{-1, 51, -50, 1 << 20, 1<<32 + 1, math.MinInt, math.MaxInt} }

// numbers are numbers of values to test, with which a run can begin or not.
func numbers() []int { return append(wrongNumbers(), 0, 1, 20, 50) }

// checkError tests an error of Run. The generator and the property are named
// by a text, as those that are nested in themselves have none.
func checkError(t *testing.T, name string, g api.Gen, x api.Expr, n, many int, want api.Errno) {
	t.Helper()
	got, err := Run(g, x, n, many)
	if !same(got, api.Report{}) || plain.Told(err) != want {
		t.Errorf("Run(%s, %d, %d) = %v, %v, want %v", name, n, many, got, err, want)
	}
}

// RU1: the errors of gen.Check come first, whatever is wrong besides, and also
// if no value is to be tested.
func TestErrorsOfGenerators(t *testing.T) {
	for i, g := range wrongGenerators() {
		for _, many := range numbers() {
			checkError(t, fmt.Sprintf("generator %d, 0", i), g.value, lit(0), 1, many, g.want)
			checkError(t, fmt.Sprintf("generator %d, 1", i), g.value, lit(1), 1, many, g.want)
			for k, x := range wrongProperties() {
				checkError(t, fmt.Sprintf("generator %d, property %d", i, k), g.value, x.value, 1, many, g.want)
			}
		}
	}
}

// RU1: the errors of expr.Check come next, for all numbers of values.
func TestErrorsOfProperties(t *testing.T) {
	for i, g := range []api.Gen{just(1), both(), number(0, 9), number(7, 7), many(2, number(5, 7))} {
		for k, x := range wrongProperties() {
			for _, many := range numbers() {
				checkError(t, fmt.Sprintf("generator %d, property %d", i, k), g, x.value, 1, many, x.want)
			}
		}
	}
}

// RU1: ErrRange if the number of values is not from 0 to 50, for all seeds.
func TestErrorsOfNumbers(t *testing.T) {
	for _, g := range []api.Gen{just(1), both(), number(0, 9), many(2, number(5, 7))} {
		for _, x := range []api.Expr{lit(0), lit(1), op(api.Sum), op(api.Rem, lit(1), lit(0))} {
			for _, many := range wrongNumbers() {
				for _, n := range []int{0, 1, -1, 51, math.MinInt, math.MaxInt} {
					checkError(t, fmt.Sprint(g, x), g, x, n, many, api.ErrRange)
				}
			}
		}
	}
}

// P2: arguments stay as they are, also behind their length.
func TestArgumentsStay(t *testing.T) {
	subs := []api.Gen{number(0, 9), number(0, 1), just(3)}
	parts := []api.Expr{op(api.Top), lit(9), lit(8)}
	g, x := many(3, both(subs[:1]...)), op(api.Less, parts[:2]...)
	kept := fmt.Sprint(g, subs, x, parts)
	checkExamples(t, []example{{g, x, 1, 20, failed(2, []int{1, 9}, 1)}})
	if now := fmt.Sprint(g, subs, x, parts); now != kept {
		t.Errorf("the arguments became %s, were %s", now, kept)
	}
}

// P2: nothing is kept from run to run, and the tapes share no memory.
func TestResultsAreNew(t *testing.T) {
	g, x := number(0, 99), below(api.Sum, 7)
	first, _ := Run(g, x, 1, 20)
	second, _ := Run(g, x, 1, 20)
	for i := range first.Tape[:cap(first.Tape)] {
		first.Tape[:cap(first.Tape)][i] = 66
	}
	third, _ := Run(g, x, 1, 20)
	if want := failed(1, []int{7}, 3); !same(second, want) || !same(third, want) {
		t.Errorf("after a change of a result: %v and %v, want %v", second, third, want)
	}
}
