package cond

import (
	"math"
	"reflect"
	"slices"
	"testing"

	"assayer/api"
	"assayer/plain"
	"assayer/rng"
)

// noNumbers has numbers of conditions that no decision has.
var noNumbers = []int{math.MinInt, math.MinInt + 1, -64, -6, -1, 0, 7, 8, 62, 63, 64, 65, math.MaxInt}

// below returns a number from 0 to limit-1 at random.
func below(seed *api.Seed, limit int) int {
	k, next, err := rng.Below(*seed, limit)
	if err != nil {
		panic(err)
	}
	*seed = next
	return k
}

// decision returns the decision with n conditions whose results are the bits of
// number.
func decision(n int, number uint64) []bool {
	f := make([]bool, 1<<n)
	for t := range f {
		f[t] = number>>t&1 == 1
	}
	return f
}

// eachDecision calls do for all decisions with up to 3 conditions, and for some
// with up to 6.
func eachDecision(do func(n int, f []bool)) {
	for n := 1; n <= 3; n++ {
		for number := range uint64(1) << (1 << n) {
			do(n, decision(n, number))
		}
	}
	seed := rng.New(14)
	for n := 1; n <= 6; n++ {
		do(n, decision(n, 0))
		do(n, decision(n, math.MaxUint64))
		for range 50 {
			f := make([]bool, 1<<n)
			ones := below(&seed, len(f)+1)
			for t := range f {
				f[t] = below(&seed, len(f)) < ones
			}
			do(n, f)
		}
		for t := range 1 << n {
			do(n, decision(n, 1<<t))
			do(n, decision(n, ^(uint64(1)<<t)))
		}
	}
}

// pairs returns all pairs for condition i, by going through all pairs of tests.
func pairs(n int, f []bool, i int) [][2]int {
	var all [][2]int
	for a := range f {
		for b := a + 1; b < len(f); b++ {
			same := true
			for k := range n {
				same = same && (k == i) == (a>>k&1 != b>>k&1)
			}
			if same && f[a] != f[b] {
				all = append(all, [2]int{a, b})
			}
		}
	}
	return all
}

// accepted reports whether tests have a pair for each condition for which there
// is one, and both results if f has both.
func accepted(n int, f []bool, tests []int) bool {
	for i := range n {
		all := pairs(n, f, i)
		if len(all) > 0 && !slices.ContainsFunc(all, func(p [2]int) bool {
			return slices.Contains(tests, p[0]) && slices.Contains(tests, p[1])
		}) {
			return false
		}
	}
	for _, result := range []bool{false, true} {
		if slices.Contains(f, result) && slices.Contains(f, !result) &&
			!slices.ContainsFunc(tests, func(t int) bool { return f[t] == result }) {
			return false
		}
	}
	return true
}

// checkAll checks the errors of all functions for one decision and condition 0.
func checkAll(t *testing.T, n int, f []bool, want api.Errno) {
	t.Helper()
	if err := Check(n, f); plain.Told(err) != want {
		t.Errorf("Check(%d, %v) = %v, want %v", n, f, err, want)
	}
	if is, err := Matters(n, f, 0); is || plain.Told(err) != want {
		t.Errorf("Matters(%d, %v, 0) = %v, %v, want %v alone", n, f, is, err, want)
	}
	if a, b, err := Pair(n, f, 0); a != 0 || b != 0 || plain.Told(err) != want {
		t.Errorf("Pair(%d, %v, 0) = %d, %d, %v, want %v alone", n, f, a, b, err, want)
	}
	if is, err := Covers(n, f, nil); is || plain.Told(err) != want {
		t.Errorf("Covers(%d, %v, nil) = %v, %v, want %v alone", n, f, is, err, want)
	}
	if l, err := Tests(n, f); len(l) != 0 || plain.Told(err) != want {
		t.Errorf("Tests(%d, %v) = %v, %v, want %v alone", n, f, l, err, want)
	}
}

// checkCovers checks what Covers reports.
func checkCovers(t *testing.T, n int, f []bool, tests []int, want bool) {
	t.Helper()
	if is, err := Covers(n, f, tests); is != want || err != nil {
		t.Errorf("Covers(%d, %v, %v) = %v, %v, want %v", n, f, tests, is, err, want)
	}
}

// checkTests checks what CO2 says of Tests: what is accepted, in increasing
// order, and is not accepted without any one of them.
func checkTests(t *testing.T, n int, f []bool) {
	t.Helper()
	tests, err := Tests(n, f)
	if err != nil || !accepted(n, f, tests) {
		t.Fatalf("Tests(%d, %v) = %v, %v", n, f, tests, err)
	}
	for k, test := range tests {
		if test < 0 || test >= len(f) || k > 0 && tests[k-1] >= test {
			t.Fatalf("Tests(%d, %v) = %v: not in increasing order, or no test", n, f, tests)
		}
		if accepted(n, f, slices.Delete(slices.Clone(tests), k, k+1)) {
			t.Fatalf("Tests(%d, %v) = %v: %d is superfluous", n, f, tests, test)
		}
	}
	checkCovers(t, n, f, tests, true)
}

// CO1: a decision has from 1 to 6 conditions and a result for each test.
func TestCheck(t *testing.T) {
	for n := 1; n <= 6; n++ {
		if err := Check(n, make([]bool, 1<<n)); err != nil {
			t.Errorf("Check of %d conditions: %v", n, err)
		}
	}
}

// CO1, CO2: ErrRange for a number of conditions that is not from 1 to 6, before
// ErrForm.
func TestNoNumberOfConditions(t *testing.T) {
	for _, n := range noNumbers {
		for _, long := range []int{0, 1, 2, 64, 128, 256} {
			checkAll(t, n, make([]bool, long), api.ErrRange)
		}
		checkAll(t, n, nil, api.ErrRange)
	}
}

// CO1, CO2: ErrForm for a number of results that is not 2^n.
func TestNoDecision(t *testing.T) {
	for n := 1; n <= 6; n++ {
		checkAll(t, n, nil, api.ErrForm)
		for long := range 130 {
			if long != 1<<n {
				checkAll(t, n, make([]bool, long), api.ErrForm)
			}
		}
	}
}

// CO1: ErrRange if there is no condition i, after the errors of Check, and for
// Pair before ErrNone.
func TestNoCondition(t *testing.T) {
	check := func(n int, f []bool, i int, want api.Errno) {
		t.Helper()
		if is, err := Matters(n, f, i); is || plain.Told(err) != want {
			t.Errorf("Matters(%d, %v, %d) = %v, %v, want %v alone", n, f, i, is, err, want)
		}
		if a, b, err := Pair(n, f, i); a != 0 || b != 0 || plain.Told(err) != want {
			t.Errorf("Pair(%d, %v, %d) = %d, %d, %v, want %v alone", n, f, i, a, b, err, want)
		}
	}
	for n := 1; n <= 6; n++ {
		for _, i := range []int{math.MinInt, -64, -1, n, n + 1, 6, 63, 64, 64 + n, math.MaxInt} {
			check(n, decision(n, 0), i, api.ErrRange)
			check(n, decision(n, 1), i, api.ErrRange)
			check(n, make([]bool, 1<<n+1), i, api.ErrForm)
			check(n, nil, i, api.ErrForm)
		}
		for i := range n {
			check(n, make([]bool, 1<<n-1), i, api.ErrForm)
		}
	}
}

// CO1: a condition matters if there is a pair for it, of which Pair returns the
// first one, and ErrNone otherwise.
func TestPairs(t *testing.T) {
	eachDecision(func(n int, f []bool) {
		for i := range n {
			all := pairs(n, f, i)
			if is, err := Matters(n, f, i); is != (len(all) > 0) || err != nil {
				t.Fatalf("Matters(%d, %v, %d) = %v, %v, pairs %v", n, f, i, is, err, all)
			}
			var want [2]int
			told := api.ErrNone
			if len(all) > 0 {
				want, told = all[0], api.OK
			}
			if a, b, err := Pair(n, f, i); [2]int{a, b} != want || plain.Told(err) != told {
				t.Fatalf("Pair(%d, %v, %d) = %d, %d, %v, pairs %v", n, f, i, a, b, err, all)
			}
		}
	})
}

// CO1: pairs themselves; bit 0 of a test is condition 0.
func TestPair(t *testing.T) {
	check := func(n int, f []bool, i, small, great int) {
		t.Helper()
		if a, b, err := Pair(n, f, i); a != small || b != great || err != nil {
			t.Errorf("Pair(%d, %v, %d) = %d, %d, %v, want %d, %d", n, f, i, a, b, err, small, great)
		}
	}
	and, or := decision(2, 0b1000), decision(2, 0b1110)
	check(2, and, 0, 2, 3)
	check(2, and, 1, 1, 3)
	check(2, or, 0, 0, 1)
	check(2, or, 1, 0, 2)
	check(1, decision(1, 0b01), 0, 0, 1)
	check(6, decision(6, 1<<63), 5, 31, 63)
	check(6, decision(6, 1<<63), 0, 62, 63)
	second := []bool{true, true, false, false}
	check(2, second, 1, 0, 2)
	if _, _, err := Pair(2, second, 0); plain.Told(err) != api.ErrNone {
		t.Errorf("Pair of a condition that does not matter: %v", err)
	}
}

// CO2: Covers accepts what has a pair for each condition that matters, of all
// lists of tests of all decisions with up to 3 conditions.
func TestCoversAll(t *testing.T) {
	for n := 1; n <= 3; n++ {
		for number := range uint64(1) << (1 << n) {
			f := decision(n, number)
			for set := range 1 << (1 << n) {
				var tests []int
				for test := range f {
					if set>>test&1 == 1 {
						tests = append(tests, test)
					}
				}
				checkCovers(t, n, f, tests, accepted(n, f, tests))
			}
		}
	}
}

// CO2: the tests may be in any order and be repeated.
func TestCoversAnyOrder(t *testing.T) {
	and := decision(2, 0b1000)
	checkCovers(t, 2, and, []int{3, 1, 2}, true)
	checkCovers(t, 2, and, []int{2, 3, 2, 1, 3, 3}, true)
	checkCovers(t, 2, and, []int{3, 2, 1, 0}, true)
	checkCovers(t, 2, and, []int{0, 3, 3, 0}, false)
	checkCovers(t, 2, and, []int{3, 3, 2}, false)
	checkCovers(t, 2, and, []int{0, 1, 2}, false)
	checkCovers(t, 2, and, nil, false)
}

// CO2: a pair may be any one for its condition, and need not be the first.
func TestCoversByLaterPairs(t *testing.T) {
	checkCovers(t, 2, decision(2, 0b0110), []int{1, 2, 3}, true)
	checkCovers(t, 2, decision(2, 0b0110), []int{2, 3}, false)
	checkCovers(t, 2, []bool{true, true, false, false}, []int{3, 1}, true)
	checkCovers(t, 2, []bool{true, true, false, false}, []int{2, 1}, false)
	checkCovers(t, 3, decision(3, 0b10000000), []int{7, 6, 5, 3}, true)
}

// CO2: if f does not contain both results, no tests are needed.
func TestCoversConstant(t *testing.T) {
	for n := 1; n <= 6; n++ {
		for _, number := range []uint64{0, math.MaxUint64} {
			f := decision(n, number)
			checkCovers(t, n, f, nil, true)
			checkCovers(t, n, f, []int{0, 1}, true)
			if l, err := Tests(n, f); len(l) != 0 || err != nil {
				t.Errorf("Tests(%d, %v) = %v, %v, want none", n, f, l, err)
			}
		}
	}
}

// CO2: ErrRange for a test that is not from 0 to 2^n-1, after the errors of
// Check.
func TestCoversNoTest(t *testing.T) {
	check := func(n int, f []bool, tests []int, want api.Errno) {
		t.Helper()
		if is, err := Covers(n, f, tests); is || plain.Told(err) != want {
			t.Errorf("Covers(%d, %v, %v) = %v, %v, want %v alone", n, f, tests, is, err, want)
		}
	}
	for n := 1; n <= 6; n++ {
		for _, test := range []int{math.MinInt, -64, -1, 1 << n, 1<<n + 1, 64, math.MaxInt} {
			for _, number := range []uint64{0, 1} {
				f := decision(n, number)
				all, _ := Tests(n, f)
				check(n, f, []int{test}, api.ErrRange)
				check(n, f, append(slices.Clone(all), test), api.ErrRange)
				check(n, f, append([]int{test}, all...), api.ErrRange)
			}
			check(n, make([]bool, 1<<n-1), []int{test}, api.ErrForm)
			check(0, nil, []int{test}, api.ErrRange)
		}
	}
}

// CO2: Tests returns tests that are enough, none of them superfluous.
func TestTests(t *testing.T) {
	eachDecision(func(n int, f []bool) { checkTests(t, n, f) })
}

// CO2: the tests of decisions for which only these are possible.
func TestTestsOfAndOr(t *testing.T) {
	for n := 1; n <= 6; n++ {
		all := 1<<n - 1
		and, or := make([]bool, 1<<n), slices.Repeat([]bool{true}, 1<<n)
		and[all], or[0] = true, false
		var wantAnd []int
		wantOr := []int{0}
		for i := range n {
			wantAnd = append([]int{all &^ (1 << i)}, wantAnd...)
			wantOr = append(wantOr, 1<<i)
		}
		wantAnd = append(wantAnd, all)
		if got, err := Tests(n, and); !reflect.DeepEqual(got, wantAnd) || err != nil {
			t.Errorf("Tests of And of %d conditions: %v, %v, want %v", n, got, err, wantAnd)
		}
		if got, err := Tests(n, or); !reflect.DeepEqual(got, wantOr) || err != nil {
			t.Errorf("Tests of Or of %d conditions: %v, %v, want %v", n, got, err, wantOr)
		}
	}
}

// P2: arguments are left as they are, with the memory behind them, and a result
// is new memory.
func TestNothingIsShared(t *testing.T) {
	f := append(decision(2, 0b1000), true, false, true)
	tests := []int{3, 1, 2, 77, -5}
	f0, tests0 := slices.Clone(f), slices.Clone(tests)
	first, _ := Tests(2, f[:4])
	for i := range first[:cap(first)] {
		first[:cap(first)][i] = 99
	}
	again, _ := Tests(2, f[:4])
	if !reflect.DeepEqual(again, []int{1, 2, 3}) {
		t.Errorf("Tests again: %v", again)
	}
	Check(2, f[:4])
	Matters(2, f[:4], 1)
	Pair(2, f[:4], 1)
	checkCovers(t, 2, f[:4], tests[:3], true)
	if !slices.Equal(f, f0) || !slices.Equal(tests, tests0) {
		t.Errorf("changed: %v, %v", f, tests)
	}
}
