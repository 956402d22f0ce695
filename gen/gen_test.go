package gen

import (
	"fmt"
	"math"
	"slices"
	"testing"

	"assayer/api"
	"assayer/plain"
	"assayer/rng"
	"assayer/val"
)

func just(n int) api.Gen              { return api.Gen{Kind: api.Just, A: n} }
func number(a, b int) api.Gen         { return api.Gen{Kind: api.Int, A: a, B: b} }
func both(subs ...api.Gen) api.Gen    { return api.Gen{Kind: api.Both, Subs: subs} }
func many(n int, sub api.Gen) api.Gen { return api.Gen{Kind: api.Many, A: n, Subs: []api.Gen{sub}} }
func either(subs ...api.Gen) api.Gen  { return api.Gen{Kind: api.Any, Subs: subs} }

// inBoth nests a generator in so many others.
func inBoth(g api.Gen, depth int) api.Gen {
	for range depth {
		g = both(g)
	}
	return g
}

// justs returns so many generators.
func justs(n int) []api.Gen {
	subs := make([]api.Gen, n)
	for i := range subs {
		subs[i] = just(i)
	}
	return subs
}

// chosen is a way to make the choices of a generator: its tape, and the text
// of the value.
type chosen struct {
	tape []int
	text string
}

// following returns each way of heads followed by each way of tails.
func following(heads, tails []chosen, between string) []chosen {
	var all []chosen
	for _, head := range heads {
		for _, tail := range tails {
			all = append(all, chosen{slices.Concat(head.tape, tail.tape), head.text + between + tail.text})
		}
	}
	return all
}

// items returns the ways to make the values of these generators in order.
func items(subs []api.Gen) []chosen {
	all := []chosen{{}}
	for i, sub := range subs {
		between := " "
		if i == 0 {
			between = ""
		}
		all = following(all, allOf(sub), between)
	}
	return all
}

// allOf lists all ways to make the choices of a generator, as GE2 tells.
func allOf(g api.Gen) []chosen {
	var all []chosen
	add := func(head []int, ways []chosen, open, closed string) {
		for _, way := range ways {
			all = append(all, chosen{slices.Concat(head, way.tape), open + way.text + closed})
		}
	}
	switch g.Kind {
	case api.Just:
		add(nil, []chosen{{text: fmt.Sprint(g.A)}}, "", "")
	case api.Int:
		for n := g.A; n <= g.B; n++ {
			add([]int{n - g.A}, []chosen{{text: fmt.Sprint(n)}}, "", "")
		}
	case api.Both:
		add(nil, items(g.Subs), "(", ")")
	case api.Many:
		for n := 0; n <= g.A; n++ {
			add([]int{n}, items(slices.Repeat(g.Subs, n)), "(", ")")
		}
	case api.Any:
		for i, sub := range g.Subs {
			add([]int{i}, allOf(sub), "", "")
		}
	}
	return all
}

// samples are generators with few enough tapes to list all of them.
func samples() []api.Gen {
	return []api.Gen{
		just(7),
		just(-1 << 30),
		number(3, 3),
		number(-2, 2),
		number(1<<30-3, 1<<30),
		both(),
		both(just(1)),
		both(number(0, 2), number(5, 6)),
		both(number(0, 1), both(), both(number(1, 2), just(4)), number(8, 9)),
		many(0, number(0, 9)),
		many(0, many(5, many(5, number(0, 1000)))),
		many(1, just(1)),
		many(5, just(1)),
		many(5, number(0, 1)),
		many(2, number(5, 7)),
		many(2, many(2, number(0, 1))),
		many(3, both(number(0, 1), just(3))),
		many(3, either(just(1), number(0, 2))),
		either(just(1)),
		either(just(1), just(1), just(2)),
		either(number(0, 4), both(number(0, 1), number(0, 1)), many(2, number(1, 2))),
		either(either(just(1), just(2)), either(number(0, 3))),
		both(many(2, number(0, 1)), either(just(9), many(1, number(4, 5))), number(-1, 0)),
		inBoth(number(0, 1), 5),
		many(1, many(1, many(1, many(1, many(1, number(0, 2)))))),
	}
}

// valid are generators that Check accepts; some have too many tapes to list.
func valid() []api.Gen {
	return append(samples(),
		number(-1<<30, -1<<30+1000),
		number(1<<30-1000, 1<<30),
		number(-500, 500),
		both(justs(29)...),
		either(justs(29)...),
		both(both(justs(14)...), both(justs(13)...)),
		both(number(0, 1000), number(0, 1000), number(0, 1000)),
		many(5, many(5, many(5, many(5, many(5, number(0, 1000)))))),
		api.Gen{Kind: api.Just, A: 1, B: math.MaxInt},
		api.Gen{Kind: api.Just, A: 1, Subs: []api.Gen{}},
		api.Gen{Kind: api.Int, A: 1, B: 2, Subs: []api.Gen{}},
		api.Gen{Kind: api.Both, A: math.MaxInt, B: math.MinInt},
		api.Gen{Kind: api.Both, Subs: []api.Gen{}},
		api.Gen{Kind: api.Many, A: 5, B: math.MinInt, Subs: []api.Gen{just(1)}},
		api.Gen{Kind: api.Any, A: -7, B: -9, Subs: []api.Gen{just(1)}},
	)
}

// GE1: Check accepts what is within the limits, and ignores unused fields.
func TestCheckAccepts(t *testing.T) {
	for _, g := range valid() {
		if err := Check(g); err != nil {
			t.Errorf("Check(%v) = %v, want no error", g, err)
		}
	}
}

// invalid are generators with the errors that Check returns.
func invalid() []invalidGen {
	loop := both(just(1))
	loop.Subs[0] = loop
	twice := just(1)
	for range 64 {
		twice = both(twice, twice)
	}
	noKind := api.Gen{Kind: 9}
	noRange := just(1<<30 + 1)
	return []invalidGen{
		{"zero", api.Gen{}, api.ErrForm},
		{"Kind -1", api.Gen{Kind: -1}, api.ErrForm},
		{"Kind 6", api.Gen{Kind: 6, Subs: []api.Gen{just(1)}}, api.ErrForm},
		{"Kind as great as can be", api.Gen{Kind: math.MaxInt}, api.ErrForm},

		{"Just over", just(1<<30 + 1), api.ErrRange},
		{"Just under", just(-1<<30 - 1), api.ErrRange},
		{"Just as great as can be", just(math.MaxInt), api.ErrRange},
		{"Just as small as can be", just(math.MinInt), api.ErrRange},
		{"Int downwards", number(1, 0), api.ErrRange},
		{"Int too wide", number(0, 1001), api.ErrRange},
		{"Int too wide, around 0", number(-501, 500), api.ErrRange},
		{"Int over", number(1<<30, 1<<30+1), api.ErrRange},
		{"Int all over", number(1<<30+1, 1<<30+1), api.ErrRange},
		{"Int under", number(-1<<30-1, -1<<30), api.ErrRange},
		{"Int all under", number(-1<<30-1, -1<<30-1), api.ErrRange},
		{"Int as wide as can be", number(math.MinInt, math.MaxInt), api.ErrRange},
		{"Int with a difference that wraps", number(math.MaxInt, math.MinInt), api.ErrRange},
		{"Many over", many(6, just(1)), api.ErrRange},
		{"Many under", many(-1, just(1)), api.ErrRange},
		{"Many as great as can be", many(math.MaxInt, just(1)), api.ErrRange},

		{"Just with a Sub", api.Gen{Kind: api.Just, Subs: justs(1)}, api.ErrForm},
		{"Int with a Sub", api.Gen{Kind: api.Int, Subs: justs(1)}, api.ErrForm},
		{"Many without Subs", api.Gen{Kind: api.Many, A: 1}, api.ErrForm},
		{"Many with an empty list of Subs", api.Gen{Kind: api.Many, A: 1, Subs: []api.Gen{}}, api.ErrForm},
		{"Many with two Subs", api.Gen{Kind: api.Many, A: 1, Subs: justs(2)}, api.ErrForm},
		{"Many of none without Subs", api.Gen{Kind: api.Many}, api.ErrForm},
		{"Any without Subs", either(), api.ErrForm},
		{"Any with an empty list of Subs", api.Gen{Kind: api.Any, Subs: []api.Gen{}}, api.ErrForm},

		{"31 parts", both(justs(30)...), api.ErrFull},
		{"31 parts, nested", both(both(justs(14)...), both(justs(14)...)), api.ErrFull},
		{"many parts", either(justs(100000)...), api.ErrFull},
		{"30 Subs of a Just", api.Gen{Kind: api.Just, Subs: justs(30)}, api.ErrFull},
		{"nested in 6", inBoth(just(1), 6), api.ErrFull},
		{"nested in 7", inBoth(just(1), 7), api.ErrFull},
		{"nested in 6 Many", many(1, many(1, many(1, many(1, many(1, many(1, just(1))))))), api.ErrFull},
		{"last Sub nested in 6", both(just(1), both(just(2)), inBoth(just(1), 5)), api.ErrFull},
		{"empty Both nested in 6", inBoth(both(), 6), api.ErrFull},
		{"nested in 65535", inBoth(just(1), 1<<16-1), api.ErrFull},
		{"nested in itself", loop, api.ErrFull},
		{"2^64 parts", twice, api.ErrFull},

		{"a part without Kind", both(just(1), both(noKind)), api.ErrForm},
		{"a part out of range", many(2, either(just(1), noRange)), api.ErrRange},
		{"a part without Subs", many(0, many(0, either())), api.ErrForm},

		{"30 parts without Kind, one too many", both(slices.Repeat([]api.Gen{noKind}, 30)...), api.ErrFull},
		{"Kind before nesting", both(noKind, inBoth(just(1), 5)), api.ErrFull},
		{"range before nesting", both(noRange, inBoth(just(1), 5)), api.ErrFull},
		{"nesting inside what has no Kind", api.Gen{Kind: 6, Subs: []api.Gen{inBoth(just(1), 5)}}, api.ErrFull},
		{"Just out of range with a Sub", api.Gen{Kind: api.Just, A: 1<<30 + 1, Subs: justs(1)}, api.ErrRange},
		{"Int out of range with a Sub", api.Gen{Kind: api.Int, A: 1, Subs: justs(1)}, api.ErrRange},
		{"Many out of range without Subs", api.Gen{Kind: api.Many, A: 6}, api.ErrRange},
		{"Many out of range around what has no Kind", many(6, noKind), api.ErrRange},
		{"Any around what is out of range", either(noRange, noKind), api.ErrRange},
		{"first Sub without Kind", both(noKind, noRange), api.ErrForm},
		{"Subs of the first Sub before the second", both(both(just(1), noRange), noKind), api.ErrRange},
		{"no Kind before its Subs", api.Gen{Kind: 7, Subs: []api.Gen{noRange}}, api.ErrForm},
		{"Just with a Sub out of range", api.Gen{Kind: api.Just, Subs: []api.Gen{noRange}}, api.ErrForm},
		{"Many with two Subs out of range", api.Gen{Kind: api.Many, Subs: []api.Gen{noRange, noRange}}, api.ErrForm},
	}
}

type invalidGen struct {
	name string
	g    api.Gen
	want api.Errno
}

// GE1: the errors of Check and their order.
func TestCheckRejects(t *testing.T) {
	for _, c := range invalid() {
		if err := Check(c.g); plain.Told(err) != c.want {
			t.Errorf("%s: Check = %v, want %v", c.name, err, c.want)
		}
	}
}

// GE3: all functions return the errors of Check first, and then nothing else.
func TestErrorsOfCheckFirst(t *testing.T) {
	for _, c := range invalid() {
		for _, tape := range [][]int{nil, {-1}, {0, 0, 2000}} {
			if n, err := Count(c.g); n != 0 || plain.Told(err) != c.want {
				t.Errorf("%s: Count = %d, %v, want 0, %v", c.name, n, err, c.want)
			}
			v, err := Replay(c.g, tape)
			if v.List || v.Num != 0 || v.Items != nil || plain.Told(err) != c.want {
				t.Errorf("%s: Replay(%v) = %v, %v, want %v", c.name, tape, v, err, c.want)
			}
			if l, err := Mend(c.g, tape); len(l) > 0 || plain.Told(err) != c.want {
				t.Errorf("%s: Mend(%v) = %v, %v, want %v", c.name, tape, l, err, c.want)
			}
			if l, err := Draw(c.g, rng.New(1)); len(l) > 0 || plain.Told(err) != c.want {
				t.Errorf("%s: Draw = %v, %v, want %v", c.name, l, err, c.want)
			}
		}
	}
}

// GE2, GE3: Count is the number of the tapes, and Replay makes the value of
// each of them.
func TestAllTapes(t *testing.T) {
	for _, g := range samples() {
		all := allOf(g)
		if n, err := Count(g); n != len(all) || err != nil {
			t.Errorf("Count(%v) = %d, %v, want %d", g, n, err, len(all))
		}
		for _, way := range all {
			v, err := Replay(g, way.tape)
			if err != nil || val.Text(v) != way.text || val.Check(v) != nil {
				t.Errorf("Replay(%v, %v) = %v, %v, want %s", g, way.tape, v, err, way.text)
			}
			if l, err := Mend(g, way.tape); err != nil || !slices.Equal(l, way.tape) {
				t.Errorf("Mend(%v, %v) = %v, %v, want the same tape", g, way.tape, l, err)
			}
		}
	}
}

// GE3: the numbers of tapes up to MaxCount, and ErrFull beyond.
func TestCount(t *testing.T) {
	bits := func(n int) []api.Gen { return slices.Repeat([]api.Gen{number(0, 1)}, n) }
	cases := []struct {
		g    api.Gen
		want int // 0: too many
	}{
		{number(0, 1000), 1001},
		{both(bits(20)...), 1 << 20},
		{both(bits(21)...), 0},
		{both(bits(29)...), 0},
		{either(both(bits(19)...), both(both(number(0, 3), number(0, 3)), number(0, 1))), 1<<19 + 32},
		{both(both(number(0, 1000), number(0, 999))), 1001 * 1000},
		{both(number(0, 1000), number(0, 1000)), 1001 * 1001},
		{both(number(0, 1000), number(0, 1000), number(0, 1)), 0},
		{both(number(0, 1000), number(0, 1000), just(1), both()), 1001 * 1001},
		{either(both(number(0, 1000), number(0, 1000)), both(number(0, 1), number(0, 999), number(1, 23))), 1001*1001 + 46000},
		{many(5, number(1, 15)), 1 + 15 + 15*15 + 15*15*15 + 15*15*15*15 + 15*15*15*15*15},
		{many(5, number(1, 16)), 0},
		{many(2, number(1, 1000)), 1001001},
		{many(5, many(5, just(1))), 1 + 6 + 36 + 216 + 1296 + 7776},
		{many(5, many(5, many(5, many(5, many(5, number(0, 1000)))))), 0},
		{many(0, both(bits(28)...)), 1},
		{many(1, both(bits(20)...)), 0},
		{many(4, both(bits(16)...)), 0},
		{many(5, both(bits(16)...)), 0},
		{many(5, both(bits(28)...)), 0},
		{both(many(0, both(slices.Repeat([]api.Gen{number(0, 1000)}, 20)...)), number(1, 2)), 2},
		{either(both(slices.Repeat([]api.Gen{number(0, 1000)}, 20)...), just(1)), 0},
	}
	for _, c := range cases {
		wantErr := api.OK
		if c.want == 0 {
			wantErr = api.ErrFull
		}
		if n, err := Count(c.g); n != c.want || plain.Told(err) != wantErr {
			t.Errorf("Count(%v) = %d, %v, want %d, %v", c.g, n, err, c.want, wantErr)
		}
	}
}

// GE3: Count of exactly MaxCount and of one more, for a sum.
func TestCountAtLimit(t *testing.T) {
	rest := api.MaxCount - 1001*1001
	most := both(number(0, 1000), number(0, 1000))
	tail := func(n int) []api.Gen { // with n tapes
		return []api.Gen{both(number(1, n/1000), number(1, 1000)), number(1, n%1000)}
	}
	g := either(append(tail(rest), most)...)
	if n, err := Count(g); n != api.MaxCount || err != nil {
		t.Errorf("Count = %d, %v, want MaxCount", n, err)
	}
	g = either(append(tail(rest+1), most)...)
	if n, err := Count(g); n != 0 || plain.Told(err) != api.ErrFull {
		t.Errorf("Count = %d, %v, want ErrFull", n, err)
	}
}

// GE3: the errors of Replay, choice by choice.
func TestReplayErrors(t *testing.T) {
	pairs := many(2, both(number(5, 7), number(0, 1)))
	cases := []struct {
		g    api.Gen
		tape []int
		want api.Errno
	}{
		{just(1), []int{0}, api.ErrForm},
		{just(1), []int{-1}, api.ErrForm},
		{both(), []int{5000}, api.ErrForm},
		{number(5, 7), nil, api.ErrShort},
		{number(5, 7), []int{}, api.ErrShort},
		{number(5, 7), []int{-1}, api.ErrRange},
		{number(5, 7), []int{3}, api.ErrRange},
		{number(5, 7), []int{5}, api.ErrRange},
		{number(5, 7), []int{math.MinInt}, api.ErrRange},
		{number(5, 7), []int{math.MaxInt}, api.ErrRange},
		{number(5, 7), []int{3, 0}, api.ErrRange},
		{number(5, 7), []int{2, 0}, api.ErrForm},
		{number(5, 5), nil, api.ErrShort},
		{number(5, 5), []int{1}, api.ErrRange},
		{many(0, just(1)), nil, api.ErrShort},
		{many(0, just(1)), []int{1}, api.ErrRange},
		{many(0, just(1)), []int{0, 0}, api.ErrForm},
		{either(just(1), just(2)), nil, api.ErrShort},
		{either(just(1), just(2)), []int{2}, api.ErrRange},
		{either(just(1), just(2)), []int{1, 0}, api.ErrForm},
		{either(just(1)), nil, api.ErrShort},
		{pairs, nil, api.ErrShort},
		{pairs, []int{3}, api.ErrRange},
		{pairs, []int{1}, api.ErrShort},
		{pairs, []int{1, 0}, api.ErrShort},
		{pairs, []int{1, 3}, api.ErrRange},
		{pairs, []int{1, 0, 2}, api.ErrRange},
		{pairs, []int{1, 0, -1, 9}, api.ErrRange},
		{pairs, []int{2, 0, 0, 0}, api.ErrShort},
		{pairs, []int{2, 0, 0, 0, 2}, api.ErrRange},
		{pairs, []int{0, 0}, api.ErrForm},
		{pairs, []int{1, 0, 0, -1}, api.ErrForm},
		{pairs, []int{2, 2, 1, 2, 1, 0, 0}, api.ErrForm},
	}
	for _, c := range cases {
		v, err := Replay(c.g, c.tape)
		if plain.Told(err) != c.want {
			t.Errorf("Replay(%v, %v): %v, want %v", c.g, c.tape, err, c.want)
		}
		if v.List || v.Num != 0 || len(v.Items) > 0 {
			t.Errorf("Replay(%v, %v) = %v with an error", c.g, c.tape, v)
		}
	}
}

// GE3: of any list of up to four numbers, Replay accepts exactly the tapes.
func TestReplayAcceptsOnlyTapes(t *testing.T) {
	for _, g := range []api.Gen{
		number(0, 2),
		both(number(0, 1), number(0, 1)),
		many(2, number(0, 1)),
		either(just(1), many(1, number(0, 1)), number(4, 4)),
	} {
		tapes := map[string]bool{}
		for _, way := range allOf(g) {
			tapes[fmt.Sprint(way.tape)] = true
		}
		for _, l := range shortLists(-1, 3, 4) {
			if _, err := Replay(g, l); (err == nil) != tapes[fmt.Sprint(l)] {
				t.Errorf("Replay(%v, %v): %v", g, l, err)
			}
			// Mend must make a tape of any list.
			mended, err := Mend(g, l)
			if err != nil || !tapes[fmt.Sprint(mended)] {
				t.Errorf("Mend(%v, %v) = %v, %v, which is no tape", g, l, mended, err)
			}
		}
	}
}

// shortLists returns all lists of up to length numbers from low to high.
func shortLists(low, high, length int) [][]int {
	all := [][]int{nil}
	for from := 0; length > 0; length-- {
		until := len(all)
		for _, l := range all[from:until] {
			for n := low; n <= high; n++ {
				all = append(all, append(slices.Clone(l), n))
			}
		}
		from = until
	}
	return all
}

// GE3: how Mend changes numbers.
func TestMend(t *testing.T) {
	cases := []struct {
		g          api.Gen
		tape, want []int
	}{
		{just(1), nil, nil},
		{just(1), []int{1, 2}, nil},
		{number(5, 7), nil, []int{0}},
		{number(5, 7), []int{-1}, []int{0}},
		{number(5, 7), []int{math.MinInt}, []int{0}},
		{number(5, 7), []int{2}, []int{2}},
		{number(5, 7), []int{3}, []int{2}},
		{number(5, 7), []int{math.MaxInt}, []int{2}},
		{number(5, 7), []int{1, 1, 1}, []int{1}},
		{number(-500, 500), []int{1001}, []int{1000}},
		{number(3, 3), []int{4}, []int{0}},
		{many(0, number(0, 9)), []int{5, 5}, []int{0}},
		{many(2, number(5, 7)), []int{9, 9}, []int{2, 2, 0}},
		{many(2, number(5, 7)), []int{-9, 9}, []int{0}},
		{many(2, number(5, 7)), []int{1, -1, 9}, []int{1, 0}},
		{both(number(0, 2), both(), number(0, 4)), []int{7}, []int{2, 0}},
		{both(number(0, 2), just(5), number(0, 4)), []int{-7, 3, 1}, []int{0, 3}},
		{either(just(1), number(0, 3), many(1, just(1))), []int{9, 9, 9}, []int{2, 1}},
		{either(just(1), number(0, 3), many(1, just(1))), []int{1, 9, 9}, []int{1, 3}},
		{either(just(1), number(0, 3), many(1, just(1))), []int{-1, 9, 9}, []int{0}},
		{either(just(1), number(0, 3), many(1, just(1))), []int{1}, []int{1, 0}},
	}
	for _, c := range cases {
		if got, err := Mend(c.g, c.tape); err != nil || !slices.Equal(got, c.want) {
			t.Errorf("Mend(%v, %v) = %v, %v, want %v", c.g, c.tape, got, err, c.want)
		}
	}
}

// GE3: Draw takes each choice, also one without alternatives, from Below.
func TestDraw(t *testing.T) {
	type draw func(limit int) int
	g := both(number(3, 3), just(5), number(-10, 990), many(0, just(1)),
		either(number(0, 9)), either(just(1), number(0, 2), many(1, number(0, 4))), number(1, 7))
	byHand := func(next draw) []int {
		tape := []int{next(0), next(1000), next(0), next(0), next(9), next(2)}
		switch tape[5] {
		case 1:
			tape = append(tape, next(2))
		case 2:
			n := next(1)
			tape = append(tape, n)
			for range n {
				tape = append(tape, next(4))
			}
		}
		return append(tape, next(6))
	}
	for n := -50; n <= 50; n++ {
		seed := rng.New(n)
		if n%2 == 0 {
			_, seed = rng.Split(seed)
		}
		s := seed
		want := byHand(func(limit int) int {
			x, after := rng.Next(s)
			s = after
			return int(x >> 32 * uint64(limit+1) >> 32)
		})
		if got, err := Draw(g, seed); err != nil || !slices.Equal(got, want) {
			t.Errorf("Draw with seed %d = %v, %v, want %v", n, got, err, want)
		}
	}
}

// GE3: what Draw returns is a tape, and each of few tapes is drawn.
func TestDrawTapes(t *testing.T) {
	for _, g := range valid() {
		for n := range 20 {
			l, err := Draw(g, rng.New(n))
			if err != nil {
				t.Fatalf("Draw(%v): %v", g, err)
			}
			if _, err := Replay(g, l); err != nil {
				t.Errorf("Replay(%v, %v) of what was drawn: %v", g, l, err)
			}
		}
	}
	g := many(2, number(5, 7))
	drawn := map[string]bool{}
	for n := range 500 {
		l, _ := Draw(g, rng.New(n))
		drawn[fmt.Sprint(l)] = true
	}
	if len(drawn) != 13 {
		t.Errorf("%d tapes were drawn, want 13", len(drawn))
	}
	for _, s := range []api.Seed{{}, {State: math.MaxUint64}} { // Gamma 0: the same number again and again
		if l, err := Draw(g, s); err != nil || len(l) != l[0]+1 {
			t.Errorf("Draw with the seed %v = %v, %v", s, l, err)
		}
	}
}

// P1, P5: the longest tapes of valid generators, and lists that are far longer.
func TestLongTapes(t *testing.T) {
	deep := many(5, many(5, many(5, many(5, many(5, number(0, 1000))))))
	long := slices.Repeat([]int{5000}, 1<<20)
	l, err := Mend(deep, long)
	if want := 1 + 5 + 25 + 125 + 625 + 3125; err != nil || len(l) != want {
		t.Fatalf("Mend: %d numbers, %v, want %d", len(l), err, want)
	}
	v, err := Replay(deep, l)
	if err != nil || len(v.Items) != 5 || val.Check(v) != nil {
		t.Errorf("Replay: %d items, %v, want 5", len(v.Items), err)
	}
	if _, err := Replay(deep, append(l, long...)); plain.Told(err) != api.ErrForm {
		t.Errorf("Replay of a long list: %v, want ErrForm", err)
	}
	if _, err := Replay(deep, l[:len(l)-1]); plain.Told(err) != api.ErrShort {
		t.Errorf("Replay of a tape without its end: %v, want ErrShort", err)
	}
}

// P2: arguments stay as they are, also behind their length.
func TestArgumentsStay(t *testing.T) {
	memory := []int{9, -9, 9, 77, 78}
	tape := memory[:3]
	subs := []api.Gen{number(5, 7), number(0, 1), just(3)}
	g := api.Gen{Kind: api.Many, A: 2, Subs: []api.Gen{{Kind: api.Both, Subs: subs[:2]}}}
	kept := fmt.Sprint(g, subs, memory)
	if l, err := Mend(g, tape); err != nil || !slices.Equal(l, []int{2, 0, 1, 0, 0}) {
		t.Errorf("Mend = %v, %v", l, err)
	}
	Check(g)
	Count(g)
	Replay(g, tape)
	Replay(g, []int{2, 0, 1, 0, 0})
	Draw(g, rng.New(1))
	if fmt.Sprint(g, subs, memory) != kept {
		t.Errorf("the arguments became %v %v %v, were %s", g, subs, memory, kept)
	}
}

// P2: results are new memory, also to each other and within one result.
func TestResultsAreNew(t *testing.T) {
	g := both(number(0, 3), number(0, 3))
	tape := []int{1, 2}
	mended, _ := Mend(g, tape)
	again, _ := Mend(g, tape)
	mended[0], tape[1] = 3, 0
	if !slices.Equal(again, []int{1, 2}) || !slices.Equal(mended, []int{3, 2}) || tape[0] != 1 {
		t.Errorf("Mend shares memory: %v, %v, %v", tape, mended, again)
	}
	drawn, _ := Draw(g, rng.New(1))
	first := drawn[0]
	drawn[0] = 77
	if drawn, _ := Draw(g, rng.New(1)); drawn[0] != first {
		t.Error("Draw shares memory")
	}
	lists := both(both(number(0, 9), just(1)), both(number(0, 9), just(1)))
	v, _ := Replay(lists, []int{4, 4})
	w, _ := Replay(lists, []int{4, 4})
	v.Items[0].Items[0].Num = 77
	_ = append(v.Items[0].Items, api.Value{Num: 78})
	if val.Text(v) != "((77 1) (4 1))" || val.Text(w) != "((4 1) (4 1))" {
		t.Errorf("Replay shares memory: %s, %s", val.Text(v), val.Text(w))
	}
}
