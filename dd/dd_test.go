package dd

import (
	"fmt"
	"math"
	"slices"
	"testing"

	"assayer/api"
	"assayer/plain"
	"assayer/rng"
)

func always([]int) bool { return true }
func never([]int) bool  { return false }

// upTo returns the numbers from 1 to n.
func upTo(n int) []int {
	l := make([]int, n)
	for i := range l {
		l[i] = i + 1
	}
	return l
}

// hasAll returns a function that reports whether a list has all of these.
func hasAll(these ...int) func([]int) bool {
	return func(l []int) bool {
		return !slices.ContainsFunc(these, func(n int) bool { return !slices.Contains(l, n) })
	}
}

// isOneOf returns a function that reports whether a list is one of these.
func isOneOf(these ...[]int) func([]int) bool {
	return func(l []int) bool {
		return slices.ContainsFunc(these, func(one []int) bool { return slices.Equal(one, l) })
	}
}

// isWithin reports whether short is a sublist of long, in order.
func isWithin(short, long []int) bool {
	for _, n := range long {
		if len(short) > 0 && short[0] == n {
			short = short[1:]
		}
	}
	return len(short) == 0
}

func sum(l []int) int {
	total := 0
	for _, n := range l {
		total += n
	}
	return total
}

// example is a list and a function for which there is one answer alone.
type example struct {
	name  string
	l     []int
	fails func([]int) bool
	want  []int
}

func checkExamples(t *testing.T, examples []example) {
	t.Helper()
	for _, e := range examples {
		got, err := Min(e.l, e.fails)
		if !slices.Equal(got, e.want) || err != nil {
			t.Errorf("%s: Min(%v) = %v, %v, want %v", e.name, e.l, got, err, e.want)
		}
	}
}

// checkMin compares Min with DD1 for a list of which fails returns true, and
// returns its result.
func checkMin(t *testing.T, name string, l []int, fails func([]int) bool) []int {
	t.Helper()
	got, err := Min(l, fails)
	if err != nil || !isWithin(got, l) || !fails(slices.Clone(got)) {
		t.Fatalf("%s: Min(%v) = %v, %v", name, l, got, err)
	}
	for at := range got {
		if fails(slices.Concat(got[:at], got[at+1:])) {
			t.Fatalf("%s: Min(%v) = %v, without %d too", name, l, got, got[at])
		}
	}
	return got
}

func checkError(t *testing.T, name string, l []int, fails func([]int) bool, want api.Errno) {
	t.Helper()
	got, err := Min(l, fails)
	if len(got) > 0 || plain.Told(err) != want {
		t.Errorf("%s: Min(%v) = %v, %v, want %v", name, l, got, err, want)
	}
}

// DD1: what is needed is left, in order, and nothing else.
func TestWhatIsNeeded(t *testing.T) {
	checkExamples(t, []example{
		{"3 and 6", upTo(7), hasAll(3, 6), []int{3, 6}},
		{"6 and 3", upTo(7), hasAll(6, 3), []int{3, 6}},
		{"the first", upTo(12), hasAll(1), []int{1}},
		{"the last", upTo(12), hasAll(12), []int{12}},
		{"the first and the last", upTo(12), hasAll(12, 1), []int{1, 12}},
		{"each second", upTo(12), hasAll(2, 4, 6, 8, 10, 12), []int{2, 4, 6, 8, 10, 12}},
		{"all but one", upTo(4), hasAll(1, 2, 4), []int{1, 2, 4}},
		{"not in ascending order", []int{5, -2, 9, 0, -2}, hasAll(0, 5, 9), []int{5, 9, 0}},
		{"great numbers", []int{math.MaxInt, 0, math.MinInt}, hasAll(math.MinInt, math.MaxInt), []int{math.MaxInt, math.MinInt}},
		{"itself", []int{4}, hasAll(4), []int{4}},
	})
}

// DD1: equal elements are elements of their own.
func TestEqualElements(t *testing.T) {
	threeOnes := func(l []int) bool { return sum(l) >= 3 }
	around := func(l []int) bool { return isWithin([]int{1, 0, 1}, l) }
	checkExamples(t, []example{
		{"one 7", []int{7, 7, 7}, hasAll(7), []int{7}},
		{"three ones", []int{1, 0, 1, 1, 0, 1, 1}, threeOnes, []int{1, 1, 1}},
		{"as many as there are", []int{1, 0, 0, 1, 1}, threeOnes, []int{1, 1, 1}},
		{"0 between ones", []int{0, 1, 1, 0, 0, 1, 0}, around, []int{1, 0, 1}},
		{"none too many", []int{1, 0, 1}, around, []int{1, 0, 1}},
	})
}

// DD1: nothing is left if fails returns true for the empty list too and for all
// in between, and all of it if for no list but the whole.
func TestNothingAndAll(t *testing.T) {
	for n := range api.MaxTests + 1 {
		l := upTo(n)
		checkExamples(t, []example{
			{"always", l, always, nil},
			{"always", make([]int, n), always, nil},
			{"the whole", l, isOneOf(l), l},
			{"the whole", make([]int, n), isOneOf(make([]int, n)), make([]int, n)},
		})
	}
	checkExamples(t, []example{{"always", nil, always, nil}, {"always", []int{}, always, nil}})
}

// DD1: an element that was needed at first may be superfluous once others are
// gone.
func TestNeededAtFirst(t *testing.T) {
	checkExamples(t, []example{
		{"second, first", []int{1, 2}, isOneOf([]int{1, 2}, []int{1}, nil), nil},
		{"first, second", []int{1, 2}, isOneOf([]int{1, 2}, []int{2}, nil), nil},
		{"third, first", upTo(3), isOneOf(upTo(3), []int{1, 2}, []int{2}), []int{2}},
		{"third, second, first", upTo(3), isOneOf(upTo(3), []int{1, 2}, []int{1}, nil), nil},
		{"from the last on", upTo(12), func(l []int) bool { return slices.Equal(l, upTo(len(l))) }, nil},
	})
}

// DD1: any of several answers.
func TestSeveralAnswers(t *testing.T) {
	for n := 1; n <= api.MaxTests; n++ {
		for least := range n + 1 {
			long := func(l []int) bool { return len(l) >= least }
			if got := checkMin(t, "long", upTo(n), long); len(got) != least {
				t.Errorf("Min(%v) = %v, want %d elements", upTo(n), got, least)
			}
			great := func(l []int) bool { return sum(l) >= least }
			checkMin(t, "great", upTo(n), great)
		}
	}
	got := checkMin(t, "one of two", []int{3, 1, 4}, func(l []int) bool { return hasAll(3)(l) || hasAll(4)(l) })
	if len(got) != 1 {
		t.Errorf("Min([3 1 4]) = %v, want 3 or 4", got)
	}
}

// DD1: what is superfluous only together with another element may stay.
func TestPairs(t *testing.T) {
	even := func(l []int) bool { return len(l)%2 == 0 }
	for n := 0; n <= api.MaxTests; n += 2 {
		checkMin(t, "an even number of elements", upTo(n), even)
	}
	for n := 2; n <= api.MaxTests; n++ {
		checkMin(t, "all or nothing", upTo(n), isOneOf(upTo(n), nil))
	}
	checkMin(t, "an even sum", []int{1, 0, 1, 0}, func(l []int) bool { return sum(l)%2 == 0 })
}

// byMask returns a function that tells of lists of the numbers from 1 what is
// has for the set of them.
func byMask(is func(mask int) bool) func([]int) bool {
	return func(l []int) bool {
		mask := 0
		for _, n := range l {
			mask |= 1 << (n - 1)
		}
		return is(mask)
	}
}

// DD1: all functions of the sublists of up to four elements.
func TestAllFunctions(t *testing.T) {
	for n := range 5 {
		whole := 1<<n - 1
		for f := range 1 << (1 << n) {
			fails := byMask(func(mask int) bool { return f>>mask&1 == 1 })
			name := fmt.Sprintf("function %b", f)
			if f>>whole&1 == 0 {
				checkError(t, name, upTo(n), fails, api.ErrNone)
			} else {
				checkMin(t, name, upTo(n), fails)
			}
		}
	}
}

// DD1: functions at random of the sublists of many elements, of which more or
// less many fail.
func TestRandomFunctions(t *testing.T) {
	seed := rng.New(10)
	short, long := 0, 0
	for i := range 2000 {
		n, sides := 8+i%5, 2+i%13
		failing := make([]bool, 1<<n)
		for mask := range failing {
			var k int
			k, seed, _ = rng.Below(seed, sides)
			failing[mask] = k < 1+i%2
		}
		failing[len(failing)-1] = true
		got := checkMin(t, fmt.Sprint("function ", i), upTo(n), byMask(func(mask int) bool { return failing[mask] }))
		if len(got) < n/2 {
			short++
		} else {
			long++
		}
	}
	if min(short, long) < 100 {
		t.Errorf("%d results are short, %d long", short, long)
	}
}

// DD1: ErrNone if fails returns false for the list, whatever it returns for
// others.
func TestNotFailing(t *testing.T) {
	for n := range api.MaxTests + 1 {
		l := upTo(n)
		checkError(t, "never", l, never, api.ErrNone)
		checkError(t, "never", make([]int, n), never, api.ErrNone)
		checkError(t, "less", l, func(l []int) bool { return len(l) < n }, api.ErrNone)
	}
	checkError(t, "never", nil, never, api.ErrNone)
	checkError(t, "never", []int{}, never, api.ErrNone)
	checkError(t, "8", upTo(7), hasAll(8), api.ErrNone)
}

// DD1: ErrFull if there are more than 12 elements, whatever fails returns.
func TestTooMany(t *testing.T) {
	for _, n := range []int{13, 14, 24, 100, 1 << 16} {
		for _, l := range [][]int{upTo(n), make([]int, n)} {
			name := fmt.Sprint(n, " elements")
			for _, fails := range []func([]int) bool{always, never, hasAll(3), nil} {
				if got, err := Min(l, fails); len(got) > 0 || plain.Told(err) != api.ErrFull {
					t.Errorf("%s: Min = %v, %v, want ErrFull", name, got, err)
				}
			}
		}
	}
}

// changers modify a list that they receive.
func changers() []func([]int) {
	empty := func(l []int) { clear(l) }
	fill := func(l []int) {
		for i := range l[:cap(l)] {
			l[:cap(l)][i] = 5
		}
	}
	count := func(l []int) {
		for i := range l {
			l[i] += i + 1
		}
	}
	grow := func(l []int) { _ = append(l, 3, 6) }
	drop := func(l []int) { _ = slices.Delete(l, 0, min(1, len(l))) }
	return []func([]int){empty, fill, count, grow, drop, slices.Reverse[[]int], slices.Sort[[]int]}
}

// DD1: fails may modify the list that it receives, and that changes nothing.
func TestFailsModifies(t *testing.T) {
	pair := func(l []int) bool { return isWithin([]int{6, 3}, l) }
	for i, change := range changers() {
		changing := func(fails func([]int) bool) func([]int) bool {
			return func(l []int) bool {
				failing := fails(l)
				change(l)
				return failing
			}
		}
		memory := []int{7, 6, 5, 4, 3, 2, 1, 77, 78}
		l := memory[:7]
		name := fmt.Sprint("changer ", i)
		checkExamples(t, []example{
			{name, l, changing(pair), []int{6, 3}},
			{name, l, changing(always), nil},
			{name, l, changing(isOneOf(slices.Clone(l))), []int{7, 6, 5, 4, 3, 2, 1}},
		})
		checkError(t, name, l, changing(never), api.ErrNone)
		if !slices.Equal(memory, []int{7, 6, 5, 4, 3, 2, 1, 77, 78}) {
			t.Errorf("%s: the argument became %v", name, memory)
		}
	}
}

// P2: the lists that fails receives share no memory with each other, with the
// argument or with the result, so that it may keep them and modify them later.
func TestFailsKeeps(t *testing.T) {
	var kept [][]int
	spoil := func() {
		for _, l := range kept {
			for i := range l[:cap(l)] {
				l[:cap(l)][i] = 99
			}
		}
	}
	memory := []int{1, 2, 3, 4, 5, 6, 7, 77, 78}
	for _, want := range [][]int{{3, 6}, {1}, {7}, {1, 2, 3, 4, 5, 6, 7}, {}} {
		kept = nil
		got, err := Min(memory[:7], func(l []int) bool {
			failing := hasAll(want...)(l)
			kept = append(kept, l)
			spoil()
			return failing
		})
		spoil()
		if !slices.Equal(got, want) || err != nil {
			t.Errorf("Min = %v, %v, want %v", got, err, want)
		}
		if !slices.Equal(memory, []int{1, 2, 3, 4, 5, 6, 7, 77, 78}) {
			t.Errorf("the argument became %v", memory)
		}
	}
}

// P2: the result depends on what fails returns, and not on what becomes of the
// argument meanwhile.
func TestArgumentChanges(t *testing.T) {
	l := upTo(7)
	got, err := Min(l, func(received []int) bool {
		clear(l)
		return hasAll(3, 6)(received)
	})
	if !slices.Equal(got, []int{3, 6}) || err != nil {
		t.Errorf("Min = %v, %v, want [3 6]", got, err)
	}
}

// P2: results are new, also where nothing is left out.
func TestResultsAreNew(t *testing.T) {
	given := append(upTo(3), 77)
	for _, want := range [][]int{{1, 2, 3}, {1, 2}, {2}, {}} {
		first, _ := Min(given[:3], hasAll(want...))
		second, _ := Min(given[:3], hasAll(want...))
		for i := range first[:cap(first)] {
			first[:cap(first)][i] = 66
		}
		if !slices.Equal(given, []int{1, 2, 3, 77}) || !slices.Equal(second, want) {
			t.Errorf("after a change of a result: list %v, another result %v, want %v", given, second, want)
		}
	}
}

// P2: fails may call Min itself.
func TestNested(t *testing.T) {
	got := checkMin(t, "nested", upTo(7), func(l []int) bool {
		inner, err := Min(l, hasAll(3, 6))
		return err == nil && slices.Equal(inner, []int{3, 6})
	})
	if !slices.Equal(got, []int{3, 6}) {
		t.Errorf("Min = %v, want [3 6]", got)
	}
}

// P1: there is no panic, also if fails has one or there is no function.
func TestNoPanic(t *testing.T) {
	checkError(t, "no function", upTo(3), nil, api.ErrNone)
	checkError(t, "no function", nil, nil, api.ErrNone)
	checkError(t, "panic", upTo(3), func([]int) bool { panic("always") }, api.ErrNone)
	checkError(t, "panic", nil, func(l []int) bool { return l[0] == 1 }, api.ErrNone)
	checkExamples(t, []example{
		{"1 first", upTo(3), func(l []int) bool { return l[0] == 1 }, []int{1}},
		{"2 and 3 last", upTo(3), func(l []int) bool { return l[len(l)-1] == 3 && l[len(l)-2] == 2 }, []int{2, 3}},
	})
}
