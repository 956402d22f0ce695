package expr

import (
	"fmt"
	"math"
	"math/big"
	"slices"
	"testing"

	"assayer/api"
	"assayer/plain"
	"assayer/rng"
	"assayer/val"
)

func lit(n int) api.Expr { return api.Expr{Kind: api.Lit, N: n} }

func part(kind int, subs ...api.Expr) api.Expr { return api.Expr{Kind: kind, Subs: subs} }

func not(x api.Expr) api.Expr { return part(api.Not, x) }

// inNot nests an expression in so many others.
func inNot(x api.Expr, depth int) api.Expr {
	for range depth {
		x = not(x)
	}
	return x
}

// fullTree has 2^levels - 1 parts.
func fullTree(levels int) api.Expr {
	if levels == 1 {
		return lit(1)
	}
	return part(api.Add, fullTree(levels-1), fullTree(levels-1))
}

// noNumber has no number for any value.
func noNumber() api.Expr { return part(api.Rem, lit(1), lit(0)) }

func num(n int) api.Value { return api.Value{Num: n} }

func list(items ...api.Value) api.Value { return api.Value{List: true, Items: items} }

func nums(all ...int) api.Value {
	v := list()
	for _, n := range all {
		v.Items = append(v.Items, num(n))
	}
	return v
}

// subsOf tells how many Subs the kinds have, as EX1 tells.
func subsOf() map[int]int {
	return map[int]int{
		api.Lit: 0, api.Sum: 0, api.Top: 0, api.Len: 0, api.Not: 1,
		api.Add: 2, api.Rem: 2, api.Less: 2, api.Same: 2, api.And: 2, api.Or: 2,
	}
}

// EX1: Check accepts a kind with the required number of Subs, and no other
// number of them; it does so at the outermost part and within others.
func TestCheckSubs(t *testing.T) {
	around := []func(api.Expr) api.Expr{
		func(x api.Expr) api.Expr { return x },
		not,
		func(x api.Expr) api.Expr { return part(api.Add, x, lit(1)) },
		func(x api.Expr) api.Expr { return part(api.And, lit(0), x) },
		func(x api.Expr) api.Expr { return part(api.Or, lit(1), not(not(x))) },
	}
	for kind, need := range subsOf() {
		for n := range 5 {
			for i, wrap := range around {
				x := wrap(part(kind, slices.Repeat([]api.Expr{lit(7)}, n)...))
				want := api.OK
				if n != need {
					want = api.ErrForm
				}
				if err := Check(x); plain.Told(err) != want {
					t.Errorf("Check of kind %d with %d Subs in %d: %v, want %v", kind, n, i, err, want)
				}
			}
		}
	}
}

// EX1: a Kind that does not exist, at each place, with any number of Subs.
func TestCheckKind(t *testing.T) {
	for _, kind := range []int{0, -1, 12, 13, 100, -11, 1<<32 + 1, math.MinInt, math.MaxInt} {
		for n := range 4 {
			bad := part(kind, slices.Repeat([]api.Expr{lit(7)}, n)...)
			for _, x := range []api.Expr{
				bad, not(bad), part(api.Add, bad, lit(1)), part(api.Add, lit(1), bad),
				part(api.And, lit(0), bad), inNot(part(api.Or, lit(1), bad), 3),
			} {
				if err := Check(x); plain.Told(err) != api.ErrForm {
					t.Errorf("Check(%v) = %v, want ErrForm", x, err)
				}
			}
		}
	}
}

// EX1: as many parts and as deep ones as there may be; unused fields.
func TestCheckAccepts(t *testing.T) {
	for _, x := range []api.Expr{
		lit(math.MinInt),
		lit(math.MaxInt),
		inNot(lit(1), 5),
		inNot(part(api.Rem, lit(1), part(api.Sum)), 4),
		not(part(api.Add, fullTree(4), part(api.Or, fullTree(3), part(api.Len)))),
		{Kind: api.Sum, N: math.MaxInt},
		{Kind: api.Not, N: -1, Subs: []api.Expr{{Kind: api.Len, N: 9}}},
		{Kind: api.Lit, Subs: []api.Expr{}},
		{Kind: api.Top, Subs: []api.Expr{}},
		thirtyParts(),
	} {
		if err := Check(x); err != nil {
			t.Errorf("Check(%v) = %v, want no error", x, err)
		}
	}
}

// thirtyParts has MaxParts parts.
func thirtyParts() api.Expr {
	fifteen, seven := fullTree(4), fullTree(3)
	six := part(api.And, fullTree(2), not(part(api.Top)))
	return part(api.Add, fifteen, part(api.Or, seven, six))
}

func size(x api.Expr) int {
	n := 1
	for _, sub := range x.Subs {
		n += size(sub)
	}
	return n
}

// loop has itself as a part.
func loop() api.Expr {
	x := part(api.Not, lit(1))
	x.Subs[0] = x
	return x
}

// tooFull are expressions with too many parts or too deep ones. Some have
// other errors as well, which come later.
func tooFull() []api.Expr {
	twice := lit(1)
	for range 64 {
		twice = part(api.Add, twice, twice)
	}
	return []api.Expr{
		fullTree(5), // 31 parts
		not(thirtyParts()),
		inNot(lit(1), 6),
		inNot(lit(1), 50),
		part(api.Add, lit(1), inNot(lit(1), 5)),
		part(api.And, lit(0), inNot(lit(1), 5)),
		part(api.Add, part(99), inNot(lit(1), 5)),
		inNot(part(99), 6),
		loop(),
		part(api.Add, part(0), loop()),
		twice,
		part(api.Lit, slices.Repeat([]api.Expr{lit(1)}, 30)...),
		part(0, slices.Repeat([]api.Expr{part(0)}, 30)...),
		part(api.Add, part(99), fullTree(5)),
		part(api.Not, slices.Repeat([]api.Expr{lit(1)}, 1<<20)...),
	}
}

// EX1: too many parts, and parts too deep, come before all other errors.
func TestCheckFull(t *testing.T) {
	if n := size(thirtyParts()); n != api.MaxParts {
		t.Fatalf("thirtyParts has %d parts", n)
	}
	for i, x := range tooFull() {
		if err := Check(x); plain.Told(err) != api.ErrFull {
			t.Errorf("Check of number %d: %v, want ErrFull", i, err)
		}
	}
	for _, kind := range []int{api.Lit, api.Add, 0} {
		x := part(kind, slices.Repeat([]api.Expr{lit(1)}, 29)...)
		if err := Check(x); plain.Told(err) != api.ErrForm {
			t.Errorf("Check of kind %d with 29 Subs: %v, want ErrForm", kind, err)
		}
	}
}

func checkEval(t *testing.T, x api.Expr, v api.Value, want int, wantErr api.Errno) {
	t.Helper()
	if n, err := Eval(x, v); n != want || plain.Told(err) != wantErr {
		t.Errorf("Eval(%v, %s) = %d, %v, want %d, %v", x, val.Text(v), n, err, want, wantErr)
	}
}

// EX2: Sum, Top and Len of values.
func TestEvalOfValues(t *testing.T) {
	const least, greatest = math.MinInt, math.MaxInt
	cases := []struct {
		v             api.Value
		sum, top, len int
	}{
		{num(0), 0, 0, 0},
		{num(7), 7, 7, 0},
		{num(-7), -7, -7, 0},
		{num(least), least, least, 0},
		{num(greatest), greatest, greatest, 0},
		{list(), 0, 0, 0},
		{list(list()), 0, 0, 1},
		{list(list(), list(), list(list())), 0, 0, 3},
		{nums(0), 0, 0, 1},
		{nums(3, 5), 8, 5, 2},
		{nums(5, 3), 8, 5, 2},
		{nums(-5, -3), -8, -3, 2},
		{nums(-3, -5), -8, -3, 2},
		{nums(-5, 0), -5, 0, 2},
		{nums(2, 9, 4, 9), 24, 9, 4},
		{list(nums(-4), list(), nums(-6, -5)), -15, -4, 3},
		{list(list(), nums(-9)), -9, -9, 2},
		{list(num(1), list(num(2), list(num(30), num(4))), num(5)), 42, 30, 3},
		{list(list(list(list(list(num(6)))))), 6, 6, 1},
		{list(list(list(list(nums(1, 2, 3))))), 6, 3, 1},
		{nums(greatest, 1), least, greatest, 2},
		{nums(least, -1), greatest, -1, 2},
		{nums(least, least), 0, least, 2},
		{nums(greatest, greatest, 3), 1, greatest, 3},
		{nums(least), least, least, 1},
		{api.Value{Num: 3, Items: []api.Value{}}, 3, 3, 0},
	}
	for _, c := range cases {
		checkEval(t, part(api.Sum), c.v, c.sum, api.OK)
		checkEval(t, part(api.Top), c.v, c.top, api.OK)
		checkEval(t, part(api.Len), c.v, c.len, api.OK)
		checkEval(t, lit(-12), c.v, -12, api.OK)
	}
}

// edges are numbers at which arithmetic may go wrong.
func edges() []int {
	return []int{
		0, 1, -1, 2, -2, 3, 7, -7, 10, -10, 255, 1 << 31, -1 << 31, 1<<32 + 1,
		math.MaxInt, math.MaxInt - 1, math.MinInt, math.MinInt + 1, math.MaxInt / 2, math.MinInt / 2,
	}
}

// wrapped returns a number modulo 2^64, as an int.
func wrapped(n *big.Int) int {
	low := new(big.Int).And(n, new(big.Int).SetUint64(math.MaxUint64))
	return int(low.Uint64())
}

func one(b bool) int { return map[bool]int{true: 1}[b] }

// EX2: the kinds with two Subs, of all pairs of numbers.
func TestEvalOfTwo(t *testing.T) {
	for _, a := range edges() {
		for _, b := range edges() {
			x, y := big.NewInt(int64(a)), big.NewInt(int64(b))
			eval := func(kind, want int) {
				t.Helper()
				checkEval(t, part(kind, lit(a), lit(b)), num(5), want, api.OK)
			}
			eval(api.Add, wrapped(new(big.Int).Add(x, y)))
			eval(api.Less, one(x.Cmp(y) < 0))
			eval(api.Same, one(x.Cmp(y) == 0))
			if b != 0 {
				eval(api.Rem, wrapped(new(big.Int).Rem(x, y)))
			}
			if a == 0 {
				eval(api.And, 0)
				eval(api.Or, b)
			} else {
				eval(api.And, b)
				eval(api.Or, a)
			}
		}
	}
}

// EX2: the remainder has the sign of the first number, and there is none with 0.
func TestEvalRem(t *testing.T) {
	cases := []struct{ a, b, want int }{
		{7, 3, 1}, {7, -3, 1}, {-7, 3, -1}, {-7, -3, -1}, {6, 3, 0}, {-6, 3, 0},
		{0, 5, 0}, {2, 5, 2}, {-2, 5, -2}, {math.MinInt, -1, 0}, {math.MinInt, math.MaxInt, -1},
		{math.MaxInt, math.MinInt, math.MaxInt}, {math.MinInt, math.MinInt, 0},
	}
	for _, c := range cases {
		checkEval(t, part(api.Rem, lit(c.a), lit(c.b)), list(), c.want, api.OK)
	}
	for _, a := range edges() {
		checkEval(t, part(api.Rem, lit(a), lit(0)), nums(1), 0, api.ErrZero)
		checkEval(t, part(api.Rem, lit(a), part(api.Len)), num(4), 0, api.ErrZero)
	}
}

// EX2: Not is 1 for 0 only.
func TestEvalNot(t *testing.T) {
	for _, n := range edges() {
		checkEval(t, not(lit(n)), num(9), one(n == 0), api.OK)
		checkEval(t, not(not(lit(n))), num(9), one(n != 0), api.OK)
	}
}

// EX2: fields that a kind does not use are ignored.
func TestEvalIgnoresN(t *testing.T) {
	for kind, subs := range subsOf() {
		if kind == api.Lit {
			continue
		}
		x := part(kind, []api.Expr{lit(6), lit(4)}[:subs]...)
		want, _ := Eval(x, nums(2, 3, 4))
		x.N = 77
		checkEval(t, x, nums(2, 3, 4), want, api.OK)
	}
}

// EX2: And and Or evaluate the second part only if it is needed; all others
// always evaluate both.
func TestEvalWhatIsNeeded(t *testing.T) {
	none := noNumber()
	cases := []struct {
		x    api.Expr
		want int
		err  api.Errno
	}{
		{part(api.And, lit(0), none), 0, api.OK},
		{part(api.And, lit(1), none), 0, api.ErrZero},
		{part(api.And, lit(-1), none), 0, api.ErrZero},
		{part(api.And, none, lit(0)), 0, api.ErrZero},
		{part(api.And, none, lit(1)), 0, api.ErrZero},
		{part(api.Or, lit(1), none), 1, api.OK},
		{part(api.Or, lit(-8), none), -8, api.OK},
		{part(api.Or, lit(0), none), 0, api.ErrZero},
		{part(api.Or, none, lit(1)), 0, api.ErrZero},
		{part(api.Or, none, lit(0)), 0, api.ErrZero},
		{not(none), 0, api.ErrZero},
		{part(api.Add, lit(5), none), 0, api.ErrZero},
		{part(api.Add, none, lit(5)), 0, api.ErrZero},
		{part(api.Less, none, lit(5)), 0, api.ErrZero},
		{part(api.Less, lit(5), none), 0, api.ErrZero},
		{part(api.Same, none, none), 0, api.ErrZero},
		{part(api.Rem, none, lit(5)), 0, api.ErrZero},
		{part(api.Rem, lit(5), none), 0, api.ErrZero},
		{part(api.Or, part(api.And, lit(0), none), lit(3)), 3, api.OK},
		{part(api.And, part(api.Or, lit(2), none), lit(4)), 4, api.OK},
		{part(api.And, not(part(api.Len)), none), 0, api.OK},
		{part(api.Add, lit(5), part(api.And, lit(0), none)), 5, api.OK},
		{part(api.Or, part(api.And, lit(1), lit(0)), lit(9)), 9, api.OK},
	}
	for _, c := range cases {
		checkEval(t, c.x, nums(3, 5), c.want, c.err)
	}
}

// EX2: expressions of several parts.
func TestEvalNested(t *testing.T) {
	v := list(num(3), nums(10, -4), list())
	sum, top, length := part(api.Sum), part(api.Top), part(api.Len)
	cases := []struct {
		x    api.Expr
		want int
	}{
		{part(api.Rem, sum, lit(4)), 1},
		{part(api.Less, length, top), 1},
		{part(api.Less, top, length), 0},
		{part(api.Same, part(api.Add, length, lit(6)), sum), 1},
		{part(api.Add, part(api.Add, sum, top), part(api.Add, length, lit(-100))), -78},
		{part(api.And, part(api.Less, lit(2), length), part(api.Rem, top, length)), 1},
		{inNot(sum, 5), 0},
		{inNot(part(api.Same, sum, top), 4), 0},
		{fullTree(4), 8},
		{thirtyParts(), 12}, // 8 and the first part of an Or, 4
	}
	for _, c := range cases {
		checkEval(t, c.x, v, c.want, api.OK)
	}
}

// badValues are values that val.Check rejects, with its errors.
func badValues() map[api.Errno][]api.Value {
	circle := list(num(1))
	circle.Items[0] = circle
	deep := num(1)
	for range 6 {
		deep = list(deep)
	}
	return map[api.Errno][]api.Value{
		api.ErrForm: {
			{List: true, Num: 1},
			{Items: []api.Value{num(1)}},
			list(num(1), api.Value{List: true, Num: -3}),
			list(list(api.Value{Num: 2, Items: []api.Value{list()}})),
		},
		api.ErrFull: {deep, circle, list(num(1), deep), list(deep, api.Value{List: true, Num: 1})},
	}
}

// badExprs are expressions that Check rejects, with its errors.
func badExprs() map[api.Errno][]api.Expr {
	return map[api.Errno][]api.Expr{
		api.ErrFull: tooFull(),
		api.ErrForm: {
			{},
			part(12),
			part(api.Not),
			part(api.Add, lit(1)),
			part(api.Sum, lit(1)),
			part(api.And, lit(0), part(api.Not)), // also where it would not be evaluated
			part(api.Or, lit(1), part(0)),
			part(api.Add, noNumber(), part(0)),
		},
	}
}

// checkErrors compares the errors of Eval and Fails, with which there is no
// other result.
func checkErrors(t *testing.T, x api.Expr, v api.Value, want api.Errno) {
	t.Helper()
	if n, err := Eval(x, v); n != 0 || plain.Told(err) != want {
		t.Errorf("Eval = %d, %v, want 0, %v", n, err, want)
	}
	if b, err := Fails(x, v); b || plain.Told(err) != want {
		t.Errorf("Fails = %t, %v, want false, %v", b, err, want)
	}
}

// EX2, EX3: the errors of Check come first, then those of val.Check, and
// ErrZero last.
func TestErrorsInOrder(t *testing.T) {
	good := []api.Value{num(0), nums(1, 2), list()}
	for want, exprs := range badExprs() {
		for _, x := range exprs {
			for _, v := range slices.Concat(good, badValues()[api.ErrForm], badValues()[api.ErrFull]) {
				checkErrors(t, x, v, want)
			}
		}
	}
	for want, values := range badValues() {
		for _, v := range values {
			for _, x := range []api.Expr{lit(0), lit(1), part(api.Sum), part(api.Len), noNumber(), thirtyParts()} {
				checkErrors(t, x, v, want)
			}
		}
	}
}

// EX3: a value fails where the number is 0, or where there is none.
func TestFails(t *testing.T) {
	cases := []struct {
		x    api.Expr
		v    api.Value
		want bool
	}{
		{lit(0), num(3), true},
		{lit(1), num(3), false},
		{lit(-1), num(0), false},
		{lit(math.MinInt), num(0), false},
		{part(api.Sum), nums(3, -3), true},
		{part(api.Sum), nums(3, -4), false},
		{part(api.Sum), nums(math.MinInt, math.MinInt), true},
		{part(api.Sum), list(), true},
		{part(api.Top), nums(-5), false},
		{part(api.Len), num(8), true},
		{part(api.Len), nums(0), false},
		{part(api.Less, part(api.Top), lit(4)), nums(1, 3), false},
		{part(api.Less, part(api.Top), lit(4)), nums(1, 4), true},
		{noNumber(), num(3), true},
		{not(noNumber()), num(3), true},
		{part(api.Rem, part(api.Sum), part(api.Len)), num(3), true},
		{part(api.Rem, part(api.Sum), part(api.Len)), nums(3, 4), false},
		{part(api.Or, lit(1), noNumber()), num(3), false},
		{part(api.And, lit(1), noNumber()), num(3), true},
		{part(api.And, lit(0), noNumber()), num(3), true},
	}
	for _, c := range cases {
		if got, err := Fails(c.x, c.v); got != c.want || err != nil {
			t.Errorf("Fails(%v, %s) = %t, %v, want %t", c.x, val.Text(c.v), got, err, c.want)
		}
	}
}

// chance carries a seed from draw to draw.
type chance struct{ seed api.Seed }

func (c *chance) below(n int) int {
	var k int
	k, c.seed, _ = rng.Below(c.seed, n)
	return k
}

// expression returns one that is nested at most so deep.
func (c *chance) expression(depth int) api.Expr {
	x := api.Expr{Kind: c.below(11) + api.Lit, N: c.below(7) - 3}
	if depth == 0 {
		x.Kind = c.below(4) + api.Lit
	}
	for range subsOf()[x.Kind] {
		x.Subs = append(x.Subs, c.expression(depth-1))
	}
	return x
}

func (c *chance) value(depth int) api.Value {
	if depth == 0 || c.below(3) == 0 {
		return num(c.below(9) - 4)
	}
	v := list()
	for range c.below(4) {
		v.Items = append(v.Items, c.value(depth-1))
	}
	return v
}

// EX2: a part has the number that it has with its first Sub replaced by the
// number of this Sub, or the ErrZero of this Sub; and the same of the second
// one if it is needed. EX3: Fails agrees with Eval.
func TestRandomExpressions(t *testing.T) {
	c := &chance{rng.New(6)}
	zeros, numbers := 0, 0
	for range 20000 {
		x, v := c.expression(4), c.value(4)
		if Check(x) != nil {
			continue
		}
		n, err := Eval(x, v)
		if plain.Told(err) == api.ErrZero {
			zeros++
		} else {
			numbers++
		}
		want, wantErr := stepwise(x, v)
		if n != want || plain.Told(err) != wantErr {
			t.Fatalf("Eval(%v, %s) = %d, %v, want %d, %v", x, val.Text(v), n, err, want, wantErr)
		}
		if b, failErr := Fails(x, v); b != (n == 0) || failErr != nil {
			t.Fatalf("Fails(%v, %s) = %t, %v", x, val.Text(v), b, failErr)
		}
	}
	if zeros < 500 || numbers < 5000 {
		t.Errorf("too few expressions: %d with ErrZero, %d with a number", zeros, numbers)
	}
}

// stepwise replaces the Subs by their numbers, one by one, and evaluates what
// is left.
func stepwise(x api.Expr, v api.Value) (int, api.Errno) {
	subs := slices.Clone(x.Subs)
	for i := range subs {
		if i == 1 && (x.Kind == api.And && subs[0].N == 0 || x.Kind == api.Or && subs[0].N != 0) {
			subs[i] = lit(0)
			continue
		}
		n, err := Eval(subs[i], v)
		if err != nil {
			return 0, plain.Told(err)
		}
		subs[i] = lit(n)
	}
	n, err := Eval(api.Expr{Kind: x.Kind, N: x.N, Subs: subs}, v)
	return n, plain.Told(err)
}

// P2: arguments stay as they are, also behind their length.
func TestArgumentsStay(t *testing.T) {
	subs := []api.Expr{part(api.Sum), part(api.Top), lit(9)}
	items := []api.Value{num(3), nums(5, 4), num(8)}
	x := not(part(api.Rem, subs[:2]...))
	v := list(items[:2]...)
	kept := fmt.Sprint(x, subs, v, items)
	if n, err := Eval(x, v); n != 0 || err != nil {
		t.Errorf("Eval = %d, %v, want 0", n, err)
	}
	if b, err := Fails(x, v); !b || err != nil {
		t.Errorf("Fails = %t, %v, want true", b, err)
	}
	if err := Check(x); err != nil {
		t.Errorf("Check = %v", err)
	}
	if fmt.Sprint(x, subs, v, items) != kept {
		t.Errorf("the arguments became %v %v %v %v, were %s", x, subs, v, items, kept)
	}
}
