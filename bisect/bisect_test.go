package bisect

import (
	"fmt"
	"math"
	"math/bits"
	"testing"

	"assayer/api"
	"assayer/plain"
	"assayer/rng"
)

const greatest = 1 << 30

func always(int) bool { return true }
func never(int) bool  { return false }

// from returns a function that is true from this number on.
func from(first int) func(int) bool {
	return func(k int) bool { return k >= first }
}

// ask calls First with a function that is checked to be asked for numbers in
// the range alone, and not too often.
func ask(t *testing.T, name string, n int, bad func(int) bool) (int, error) {
	t.Helper()
	asked := 0
	k, err := First(n, func(k int) bool {
		if asked++; k < 0 || k >= n {
			t.Errorf("%s: First(%d) asks for %d", name, n, k)
		}
		return bad(k)
	})
	if most := bits.Len(uint(max(0, n))); asked > most {
		t.Errorf("%s: First(%d) asks %d times, want at most %d", name, n, asked, most)
	}
	return k, err
}

func checkFirst(t *testing.T, name string, n int, bad func(int) bool, want int) {
	t.Helper()
	if k, err := ask(t, name, n, bad); k != want || err != nil {
		t.Errorf("%s: First(%d) = %d, %v, want %d", name, n, k, err, want)
	}
}

func checkError(t *testing.T, name string, n int, bad func(int) bool, want api.Errno) {
	t.Helper()
	if k, err := ask(t, name, n, bad); k != 0 || plain.Told(err) != want {
		t.Errorf("%s: First(%d) = %d, %v, want %v", name, n, k, err, want)
	}
}

// BI1: the smallest number for which bad is true, or ErrNone, for each one of
// each range up to a few hundred numbers.
func TestEachFirst(t *testing.T) {
	for n := range 300 {
		for first := range n {
			checkFirst(t, fmt.Sprint("from ", first), n, from(first), first)
		}
		checkError(t, "from n", n, from(n), api.ErrNone)
	}
}

// BI1: the ends and the middle of ranges about the powers of two, from which on
// one more question is allowed.
func TestPowersOfTwo(t *testing.T) {
	for power := 1; power <= greatest; power *= 2 {
		for n := max(1, power-2); n <= min(greatest, power+2); n++ {
			for _, first := range []int{0, 1, n / 3, n/2 - 1, n / 2, n/2 + 1, n - 2, n - 1} {
				if first >= 0 && first < n {
					checkFirst(t, fmt.Sprint("from ", first), n, from(first), first)
				}
			}
			checkFirst(t, "always", n, always, 0)
			checkError(t, "never", n, never, api.ErrNone)
		}
	}
}

// BI1: numbers at random in ranges at random.
func TestRandomFirst(t *testing.T) {
	seed := rng.New(11)
	for range 20000 {
		var n, first int
		n, seed, _ = rng.Below(seed, greatest)
		first, seed, _ = rng.Below(seed, n+1)
		n++
		checkFirst(t, fmt.Sprint("from ", first), n, from(first), first)
	}
}

// BI1: ErrRange below 0 and above 2^30, whatever bad is; it is not asked then.
func TestRange(t *testing.T) {
	for _, n := range []int{-1, -2, -1000, -greatest, math.MinInt, greatest + 1, greatest + 2, 2 * greatest, 1 << 32, math.MaxInt} {
		for _, bad := range []func(int) bool{always, never, from(5)} {
			asked := false
			k, err := First(n, func(k int) bool {
				asked = true
				return bad(k)
			})
			if k != 0 || plain.Told(err) != api.ErrRange || asked {
				t.Errorf("First(%d) = %d, %v, asked %v, want ErrRange and nothing asked", n, k, err, asked)
			}
		}
		if k, err := First(n, nil); k != 0 || plain.Told(err) != api.ErrRange {
			t.Errorf("First(%d, nil) = %d, %v, want ErrRange", n, k, err)
		}
	}
}

// BI1: ErrNone if there are no numbers, whatever bad is; it is not asked then.
func TestNoNumbers(t *testing.T) {
	for _, bad := range []func(int) bool{always, never, from(0), from(1), nil} {
		checkError(t, "no numbers", 0, func(k int) bool {
			t.Errorf("asked for %d", k)
			return bad(k)
		}, api.ErrNone)
	}
}

// checkAny compares First with BI1 for a function that may be true for a number
// and false for a greater one.
func checkAny(t *testing.T, name string, n int, bad func(int) bool) {
	t.Helper()
	k, err := ask(t, name, n, bad)
	if err != nil && (k != 0 || plain.Told(err) != api.ErrNone) || k < 0 || k >= n {
		t.Errorf("%s: First(%d) = %d, %v, want a number of the range, or ErrNone", name, n, k, err)
	}
}

// BI1: all functions of the numbers of a short range, those for which a number
// is the first one and the others.
func TestAllFunctions(t *testing.T) {
	for n := 1; n <= 12; n++ {
		for f := range 1 << n {
			bad := func(k int) bool { return f>>k&1 == 1 }
			name := fmt.Sprintf("function %b", f)
			first := bits.TrailingZeros(uint(f))
			switch {
			case f == 0:
				checkError(t, name, n, bad, api.ErrNone)
			case f>>first == 1<<(n-first)-1:
				checkFirst(t, name, n, bad, first)
			default:
				checkAny(t, name, n, bad)
			}
		}
	}
}

// BI1: as few questions, and none for other numbers, also for functions that
// are true now and then, or that answer the same question in different ways.
func TestAnyFunction(t *testing.T) {
	seed := rng.New(12)
	random := func(int) bool {
		var x uint64
		x, seed = rng.Next(seed)
		return x>>63 == 1
	}
	turn := false
	alternating := func(int) bool {
		turn = !turn
		return turn
	}
	even := func(k int) bool { return k%2 == 0 }
	few := func(k int) bool { return k < 3 }
	for n := 1; n < greatest; n += 1 + n/20 {
		checkAny(t, "random", n, random)
		checkAny(t, "alternating", n, alternating)
		checkAny(t, "even", n, even)
		checkAny(t, "few", n, few)
	}
	for range 20 {
		checkAny(t, "random", greatest, random)
	}
}

// P2: the result depends on what bad returns alone, not on earlier calls, and
// bad may call First itself.
func TestNested(t *testing.T) {
	inner := func(k int) bool {
		found, err := First(k+1, from(700))
		return err == nil && found == 700
	}
	for range 3 {
		checkFirst(t, "nested", 1000, inner, 700)
		checkError(t, "nested", 700, inner, api.ErrNone)
	}
}

// P1: there is no panic, also if bad has one or there is no function.
func TestNoPanic(t *testing.T) {
	for _, n := range []int{0, 1, 2, 1000, greatest} {
		if k, err := First(n, nil); k != 0 || plain.Told(err) != api.ErrNone {
			t.Errorf("First(%d, nil) = %d, %v, want ErrNone", n, k, err)
		}
		checkError(t, "panic", n, func(int) bool { panic("always") }, api.ErrNone)
	}
	l := make([]bool, 100)
	checkFirst(t, "panic", 90, func(k int) bool { return l[k-20] || k >= 20 }, 20)
}
