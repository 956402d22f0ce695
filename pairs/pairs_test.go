package pairs

import (
	"fmt"
	"math"
	"reflect"
	"slices"
	"testing"

	"assayer/api"
	"assayer/plain"
	"assayer/rng"
)

// dice draws numbers at random.
type dice struct{ seed api.Seed }

// upTo returns a number from 0 to n - 1.
func (d *dice) upTo(n int) int {
	k, seed, _ := rng.Below(d.seed, n)
	d.seed = seed
	return k
}

// levels returns the numbers of levels of so many factors.
func (d *dice) levels(factors int) []int {
	l := make([]int, factors)
	for i := range l {
		l[i] = 1 + d.upTo(5)
	}
	return l
}

// row returns a row for these levels.
func (d *dice) row(levels []int) []int {
	row := make([]int, len(levels))
	for i, n := range levels {
		row[i] = d.upTo(n)
	}
	return row
}

// slowMissing goes through all quadruples and, for each of them, all rows.
func slowMissing(levels []int, rows [][]int) [][4]int {
	var missing [][4]int
	for code := range 12 * 5 * 12 * 5 {
		a, x, b, y := code/300, code/60%5, code/5%12, code%5
		if a >= b || b >= len(levels) || x >= levels[a] || y >= levels[b] {
			continue
		}
		has := func(row []int) bool { return row[a] == x && row[b] == y }
		if !slices.ContainsFunc(rows, has) {
			missing = append(missing, [4]int{a, x, b, y})
		}
	}
	return missing
}

func checkMissing(t *testing.T, levels []int, rows [][]int, want [][4]int) {
	t.Helper()
	got, err := Missing(levels, rows)
	if err != nil || !slices.Equal(got, want) {
		t.Errorf("Missing(%v, %v) = %v, %v, want %v", levels, rows, got, err, want)
	}
}

// checkRows compares the result of Rows with PA2.
func checkRows(t *testing.T, levels []int) [][]int {
	t.Helper()
	rows, err := Rows(levels)
	if err != nil {
		t.Fatalf("Rows(%v): %v", levels, err)
	}
	for _, row := range rows {
		if len(row) != len(levels) {
			t.Fatalf("Rows(%v) = %v: %v is no row", levels, rows, row)
		}
		for factor, level := range row {
			if level < 0 || level >= levels[factor] {
				t.Fatalf("Rows(%v) = %v: %v is no row", levels, rows, row)
			}
		}
	}
	if missing := slowMissing(levels, rows); len(missing) > 0 {
		t.Errorf("Rows(%v) = %v without %v", levels, rows, missing)
	}
	for i, row := range rows {
		others := slices.Concat(rows[:i], rows[i+1:])
		if len(slowMissing(levels, others)) == 0 {
			t.Errorf("Rows(%v) = %v: %v is superfluous", levels, rows, row)
		}
	}
	return rows
}

// PA1: the errors of Check, and that they are those of Missing and Rows, for
// whatever rows.
func TestCheck(t *testing.T) {
	twelve := slices.Repeat([]int{5}, 12)
	cases := []struct {
		levels []int
		want   api.Errno
	}{
		{nil, api.OK},
		{[]int{}, api.OK},
		{[]int{1}, api.OK},
		{[]int{5}, api.OK},
		{[]int{1, 2, 3, 4, 5}, api.OK},
		{twelve, api.OK},
		{slices.Repeat([]int{1}, 12), api.OK},
		{append(slices.Clone(twelve), 5), api.ErrFull},
		{make([]int, 13), api.ErrFull},
		{make([]int, 1000), api.ErrFull},
		{append(slices.Clone(twelve), 6), api.ErrFull},
		{[]int{0}, api.ErrRange},
		{[]int{6}, api.ErrRange},
		{[]int{-1}, api.ErrRange},
		{[]int{2, 2, 0}, api.ErrRange},
		{[]int{0, 2, 2}, api.ErrRange},
		{[]int{2, 6, 2}, api.ErrRange},
		{make([]int, 12), api.ErrRange},
		{[]int{2, math.MaxInt}, api.ErrRange},
		{[]int{2, math.MinInt}, api.ErrRange},
		{[]int{1<<32 + 2}, api.ErrRange},
	}
	for _, c := range cases {
		if err := Check(c.levels); plain.Told(err) != c.want {
			t.Errorf("Check(%v) = %v, want %v", c.levels, err, c.want)
		}
		rows, err := Rows(c.levels)
		if plain.Told(err) != c.want || err != nil && len(rows) > 0 {
			t.Errorf("Rows(%v) = %v, %v, want %v", c.levels, rows, err, c.want)
		}
		for _, rows := range [][][]int{nil, {make([]int, len(c.levels))}, {{-1}, nil}} {
			missing, err := Missing(c.levels, rows)
			if c.want != api.OK && (plain.Told(err) != c.want || len(missing) > 0) {
				t.Errorf("Missing(%v, %v) = %v, %v, want %v", c.levels, rows, missing, err, c.want)
			}
		}
	}
}

// PA1: quadruples that are missing, and their order.
func TestMissing(t *testing.T) {
	two := []int{2, 2}
	checkMissing(t, two, [][]int{{0, 0}, {1, 1}}, [][4]int{{0, 0, 1, 1}, {0, 1, 1, 0}})
	checkMissing(t, two, [][]int{{1, 0}}, [][4]int{{0, 0, 1, 0}, {0, 0, 1, 1}, {0, 1, 1, 1}})
	checkMissing(t, two, [][]int{{1, 0}, {0, 0}, {1, 1}, {0, 1}}, nil)
	checkMissing(t, two, nil, [][4]int{{0, 0, 1, 0}, {0, 0, 1, 1}, {0, 1, 1, 0}, {0, 1, 1, 1}})
	checkMissing(t, []int{1, 3}, [][]int{{0, 1}, {0, 1}}, [][4]int{{0, 0, 1, 0}, {0, 0, 1, 2}})
	checkMissing(t, []int{2, 1, 2}, [][]int{{0, 0, 0}, {1, 0, 1}}, [][4]int{{0, 0, 2, 1}, {0, 1, 2, 0}})
	// The level of the first factor comes before the second factor.
	checkMissing(t, []int{2, 1, 1}, nil, [][4]int{{0, 0, 1, 0}, {0, 0, 2, 0}, {0, 1, 1, 0}, {0, 1, 2, 0}, {1, 0, 2, 0}})
	checkMissing(t, []int{1, 1}, [][]int{{0, 0}}, nil)
}

// PA1: nothing is missing for fewer than two factors; the row of no factors is
// the empty one.
func TestMissingFewFactors(t *testing.T) {
	for _, levels := range [][]int{nil, {}} {
		for _, rows := range [][][]int{nil, {}, {nil}, {{}}, {nil, {}}} {
			checkMissing(t, levels, rows, nil)
		}
	}
	for n := 1; n <= 5; n++ {
		checkMissing(t, []int{n}, nil, nil)
		checkMissing(t, []int{n}, [][]int{{n - 1}, {0}}, nil)
	}
}

// PA1: as many factors, levels and pairs as there may be.
func TestMissingMost(t *testing.T) {
	levels := slices.Repeat([]int{5}, 12)
	all := slowMissing(levels, nil)
	if len(all) != 1650 {
		t.Fatalf("%d pairs, want 66 times 25", len(all))
	}
	checkMissing(t, levels, nil, all)
	row := slices.Repeat([]int{4}, 12)
	checkMissing(t, levels, [][]int{row}, slowMissing(levels, [][]int{row}))
	many := slices.Repeat([][]int{row}, 10000)
	checkMissing(t, levels, many, slowMissing(levels, [][]int{row}))
}

// PA1: rows at random against a slow search.
func TestMissingRandom(t *testing.T) {
	d := &dice{rng.New(121)}
	for range 500 {
		levels := d.levels(d.upTo(13))
		rows := make([][]int, d.upTo(40))
		for i := range rows {
			rows[i] = d.row(levels)
		}
		checkMissing(t, levels, rows, slowMissing(levels, rows))
	}
}

// PA1: ErrForm for what is not a row, at any place, also if nothing is missing.
func TestNoRows(t *testing.T) {
	cases := []struct {
		levels []int
		row    []int
	}{
		{nil, []int{0}},
		{[]int{1}, nil},
		{[]int{1}, []int{}},
		{[]int{1}, []int{1}},
		{[]int{1}, []int{-1}},
		{[]int{1}, []int{0, 0}},
		{[]int{2, 2}, []int{0, 2}},
		{[]int{2, 2}, []int{2, 0}},
		{[]int{2, 2}, []int{0, -1}},
		{[]int{2, 2}, []int{-1, 0}},
		{[]int{2, 2}, []int{0}},
		{[]int{2, 2}, []int{0, 0, 0}},
		{[]int{2, 3}, []int{2, 1}},
		{[]int{2, 2}, []int{math.MinInt, math.MaxInt}},
		{[]int{5, 5, 5}, []int{4, 4, 5}},
	}
	for _, c := range cases {
		good, err := Rows(c.levels)
		if err != nil {
			t.Fatal(err)
		}
		for at := range len(good) + 1 {
			rows := slices.Insert(slices.Clone(good), at, c.row)
			missing, err := Missing(c.levels, rows)
			if plain.Told(err) != api.ErrForm || len(missing) > 0 {
				t.Errorf("Missing(%v, %v) = %v, %v, want ErrForm", c.levels, rows, missing, err)
			}
		}
	}
}

// PA2: all levels of up to four factors.
func TestRowsAll(t *testing.T) {
	for factors := 2; factors <= 4; factors++ {
		levels := slices.Repeat([]int{1}, factors)
		for at := 0; at < factors; {
			checkRows(t, levels)
			for at = 0; at < factors && levels[at] == 5; at++ {
				levels[at] = 1
			}
			if at < factors {
				levels[at]++
			}
		}
	}
}

// PA2: as many levels for each of up to as many factors as there may be.
func TestRowsSame(t *testing.T) {
	for factors := 2; factors <= 12; factors++ {
		for n := 1; n <= 5; n++ {
			rows := checkRows(t, slices.Repeat([]int{n}, factors))
			if len(rows) < n*n || n == 1 && len(rows) != 1 {
				t.Errorf("%d rows for %d factors of %d levels", len(rows), factors, n)
			}
		}
	}
}

// PA2: levels at random.
func TestRowsRandom(t *testing.T) {
	d := &dice{rng.New(122)}
	for range 200 {
		checkRows(t, d.levels(2+d.upTo(11)))
	}
}

// PA2: no rows for fewer than two factors.
func TestRowsFewFactors(t *testing.T) {
	for _, levels := range [][]int{nil, {}, {1}, {2}, {3}, {4}, {5}} {
		if rows, err := Rows(levels); len(rows) > 0 || err != nil {
			t.Errorf("Rows(%v) = %v, %v, want none", levels, rows, err)
		}
	}
}

// PA2: rows that bring new pairs, but are superfluous beside later ones, are
// left out. All these levels are such that some are.
func TestNeeded(t *testing.T) {
	for _, levels := range [][]int{
		{1, 1, 3, 1, 3, 3, 2, 1, 5, 4, 5},
		{5, 4, 2, 4, 5, 3, 5, 2, 5, 2},
		{4, 3, 4, 2, 2, 1, 4, 2, 3},
		{3, 5, 5, 4, 2, 5, 5, 1, 5, 5},
	} {
		checkRows(t, levels)
	}
	// Each pair of the first row is in another one too, and each of those has a
	// pair of its own.
	checkNeeded(t, [][]int{{0, 0, 1}, {0, 0, 0}, {1, 1, 1}, {0, 1, 1}, {1, 0, 1}}, 1, 2, 3, 4)
	// Of rows that replace one another, one stays.
	checkNeeded(t, [][]int{{0, 0}, {1, 0}, {0, 0}, {0, 1}, {0, 0}}, 1, 3, 4)
}

// checkNeeded checks that these of the rows are left, in this order.
func checkNeeded(t *testing.T, rows [][]int, left ...int) {
	t.Helper()
	had := map[pair]int{}
	for _, row := range rows {
		eachPair(row, func(p pair) { had[p]++ })
	}
	var want [][]int
	for _, i := range left {
		want = append(want, rows[i])
	}
	if rest := needed(rows, had); !reflect.DeepEqual(rest, want) {
		t.Errorf("needed(%v) = %v, want %v", rows, rest, want)
	}
}

// P2: arguments stay as they are, with the memory behind their length.
func TestArgumentsStay(t *testing.T) {
	levels := []int{3, 2, 4, 9, 9}
	rows := [][]int{{0, 1, 3, 9}, {2, 0, 0, 9}, {9, 9}}
	given := fmt.Sprint(levels, rows)
	short := [][]int{rows[0][:3], rows[1][:3], rows[2]}
	for range 2 {
		Check(levels[:3])
		Rows(levels[:3])
		if missing, err := Missing(levels[:3], short[:2]); err != nil || len(missing) == 0 {
			t.Errorf("Missing = %v, %v", missing, err)
		}
	}
	if fmt.Sprint(levels, rows) != given || len(short[2]) != 2 {
		t.Errorf("%v %v, were %s", levels, rows, given)
	}
}

// P2: the same result each time, in new memory that no two rows share.
func TestResultsAreNew(t *testing.T) {
	levels := []int{3, 4, 2, 5}
	first, _ := Rows(levels)
	want := fmt.Sprint(first)
	for i, row := range first {
		row = row[:cap(row)]
		for k := range row {
			row[k] = -7
		}
		for j, other := range first {
			if j > i && slices.Contains(other, -7) {
				t.Fatalf("rows %d and %d share memory", i, j)
			}
		}
	}
	if again, _ := Rows(levels); fmt.Sprint(again) != want {
		t.Errorf("Rows(%v) = %v, was %s", levels, again, want)
	}
	missing, _ := Missing(levels, nil)
	want = fmt.Sprint(missing)
	clear(missing[:cap(missing)])
	if again, _ := Missing(levels, nil); fmt.Sprint(again) != want {
		t.Errorf("Missing(%v) = %v, was %s", levels, again, want)
	}
}
