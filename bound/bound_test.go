package bound

import (
	"math"
	"reflect"
	"testing"

	"assayer/api"
	"assayer/plain"
	"assayer/rng"
)

const greatest = 1 << 30

// outside has numbers that end no range.
var outside = []int{-greatest - 1, greatest + 1, math.MinInt, math.MinInt + 1, math.MaxInt - 1, math.MaxInt}

// within returns a number from low to high at random.
func within(seed *api.Seed, low, high int) int {
	k, next, err := rng.Below(*seed, high-low+1)
	if err != nil {
		panic(err)
	}
	*seed = next
	return low + k
}

func checkEdges(t *testing.T, low, high int, want ...int) {
	t.Helper()
	if got, err := Edges(low, high); err != nil || !reflect.DeepEqual(got, want) {
		t.Errorf("Edges(%d, %d) = %v, %v, want %v", low, high, got, err, want)
	}
}

func checkEdgesError(t *testing.T, low, high int) {
	t.Helper()
	if got, err := Edges(low, high); len(got) != 0 || plain.Told(err) != api.ErrRange {
		t.Errorf("Edges(%d, %d) = %v, %v, want ErrRange alone", low, high, got, err)
	}
}

func checkPartsError(t *testing.T, low, high, n int) {
	t.Helper()
	if got, err := Parts(low, high, n); len(got) != 0 || plain.Told(err) != api.ErrRange {
		t.Errorf("Parts(%d, %d, %d) = %v, %v, want ErrRange alone", low, high, n, got, err)
	}
}

// BO1: the two numbers at each end and the one in the middle.
func TestEdges(t *testing.T) {
	checkEdges(t, 1, 9, 1, 2, 5, 8, 9)
	checkEdges(t, 0, 1000, 0, 1, 500, 999, 1000)
	checkEdges(t, -10, 10, -10, -9, 0, 9, 10)
	checkEdges(t, -9, -1, -9, -8, -5, -2, -1)
}

// BO1: the middle is rounded down, for negative numbers too.
func TestMiddleRoundedDown(t *testing.T) {
	checkEdges(t, 1, 10, 1, 2, 5, 9, 10)
	checkEdges(t, -10, -1, -10, -9, -6, -2, -1)
	checkEdges(t, -4, 3, -4, -3, -1, 2, 3)
	checkEdges(t, -3, 4, -3, -2, 0, 3, 4)
}

// BO1: each number once, and none outside, for ranges of few numbers.
func TestEdgesOfShortRanges(t *testing.T) {
	for _, low := range []int{-greatest, -7, -1, 0, 1, 42, greatest - 5} {
		checkEdges(t, low, low, low)
		checkEdges(t, low, low+1, low, low+1)
		checkEdges(t, low, low+2, low, low+1, low+2)
		checkEdges(t, low, low+3, low, low+1, low+2, low+3)
		checkEdges(t, low, low+4, low, low+1, low+2, low+3, low+4)
		checkEdges(t, low, low+5, low, low+1, low+2, low+4, low+5)
	}
}

// BO1: the ends may be from -2^30 to 2^30.
func TestEdgesOfLongRanges(t *testing.T) {
	checkEdges(t, -greatest, greatest, -greatest, -greatest+1, 0, greatest-1, greatest)
	checkEdges(t, -greatest, -greatest, -greatest)
	checkEdges(t, greatest, greatest, greatest)
	checkEdges(t, 0, greatest, 0, 1, greatest/2, greatest-1, greatest)
	checkEdges(t, -greatest, 0, -greatest, -greatest+1, -greatest/2, -1, 0)
	checkEdges(t, 1-greatest, greatest, 1-greatest, 2-greatest, 0, greatest-1, greatest)
	checkEdges(t, -greatest, greatest-1, -greatest, 1-greatest, -1, greatest-2, greatest-1)
}

// BO1: ErrRange for ends that are none.
func TestEdgesErrors(t *testing.T) {
	checkEdgesError(t, 1, 0)
	checkEdgesError(t, -4, -5)
	checkEdgesError(t, greatest, -greatest)
	for _, end := range outside {
		checkEdgesError(t, end, 0)
		checkEdgesError(t, 0, end)
		for _, other := range outside {
			checkEdgesError(t, end, other)
		}
	}
}

// checkPieces checks the pieces by what BO1 says of them: so many that are not
// empty, one after the other, from low to high, none longer than an earlier one
// nor shorter by more than one.
func checkPieces(t *testing.T, low, high, n int) {
	t.Helper()
	parts, err := Parts(low, high, n)
	if err != nil || len(parts) != n {
		t.Fatalf("Parts(%d, %d, %d) has %d pieces, %v", low, high, n, len(parts), err)
	}
	next, longest, before := low, parts[0][1]-parts[0][0], parts[0][1]-parts[0][0]
	for i, p := range parts {
		more := p[1] - p[0]
		if p[0] != next || more < 0 || more > before || more < longest-1 {
			t.Fatalf("Parts(%d, %d, %d): piece %d is %v", low, high, n, i, p)
		}
		next, before = p[1]+1, more
	}
	if next != high+1 {
		t.Fatalf("Parts(%d, %d, %d) ends before %d", low, high, n, next)
	}
}

// BO1: the pieces of each range of few numbers, by each number of pieces.
func TestPiecesOfShortRanges(t *testing.T) {
	for numbers := 1; numbers <= 40; numbers++ {
		for _, low := range []int{-greatest, -20, -1, 0, 1, 77, greatest - numbers + 1} {
			for n := 1; n <= numbers; n++ {
				checkPieces(t, low, low+numbers-1, n)
			}
			checkPartsError(t, low, low+numbers-1, numbers+1)
		}
	}
}

// BO1: as many pieces as MaxTries, of the shortest and the longest ranges.
func TestManyPieces(t *testing.T) {
	for _, n := range []int{1, 2, 3, 7, 999, api.MaxTries} {
		checkPieces(t, -greatest, greatest, n)
		checkPieces(t, 1-greatest, greatest, n)
		checkPieces(t, -3, 996, n)
		checkPieces(t, 0, 1000, n)
	}
	checkPieces(t, 2, 1000, 999)
	checkPartsError(t, 2, 1000, 1000)
}

// BO1: the pieces of ranges at random.
func TestPiecesAtRandom(t *testing.T) {
	seed := rng.New(13)
	for range 3000 {
		low := within(&seed, -greatest, 0)
		high := within(&seed, 0, greatest)
		checkPieces(t, low, high, within(&seed, 1, min(high-low+1, api.MaxTries)))
	}
}

// BO1: the pieces themselves.
func TestParts(t *testing.T) {
	for _, c := range []struct {
		low, high, n int
		want         [][2]int
	}{
		{1, 8, 3, [][2]int{{1, 3}, {4, 6}, {7, 8}}},
		{1, 9, 3, [][2]int{{1, 3}, {4, 6}, {7, 9}}},
		{1, 10, 3, [][2]int{{1, 4}, {5, 7}, {8, 10}}},
		{-3, 3, 2, [][2]int{{-3, 0}, {1, 3}}},
		{-8, -2, 4, [][2]int{{-8, -7}, {-6, -5}, {-4, -3}, {-2, -2}}},
		{5, 5, 1, [][2]int{{5, 5}}},
		{0, 2, 3, [][2]int{{0, 0}, {1, 1}, {2, 2}}},
		{-greatest, greatest, 1, [][2]int{{-greatest, greatest}}},
		{-greatest, greatest, 2, [][2]int{{-greatest, 0}, {1, greatest}}},
	} {
		if got, err := Parts(c.low, c.high, c.n); err != nil || !reflect.DeepEqual(got, c.want) {
			t.Errorf("Parts(%d, %d, %d) = %v, %v, want %v", c.low, c.high, c.n, got, err, c.want)
		}
	}
}

// BO1: ErrRange for ends that are none, as for Edges, by any number of pieces.
func TestPartsOfNoRange(t *testing.T) {
	for _, n := range []int{math.MinInt, -1, 0, 1, 2, api.MaxTries, math.MaxInt} {
		checkPartsError(t, 1, 0, n)
		checkPartsError(t, -4, -5, n)
		checkPartsError(t, greatest, -greatest, n)
		for _, end := range outside {
			checkPartsError(t, end, 0, n)
			checkPartsError(t, 0, end, n)
			for _, other := range outside {
				checkPartsError(t, end, other, n)
			}
		}
	}
}

// BO1: ErrRange for a number of pieces that is less than 1, greater than the
// number of numbers, or greater than MaxTries.
func TestPartsOfNoNumber(t *testing.T) {
	for _, n := range []int{math.MinInt, -greatest, -1, 0, api.MaxTries + 1, greatest, math.MaxInt} {
		checkPartsError(t, 1, 8, n)
		checkPartsError(t, 0, 5000, n)
		checkPartsError(t, -greatest, greatest, n)
	}
	checkPartsError(t, 1, 8, 9)
	checkPartsError(t, 1, 2, 3)
	checkPartsError(t, 5, 5, 2)
}

// P2: a result is new memory, which no later call returns again.
func TestResultsAreNew(t *testing.T) {
	edges, _ := Edges(1, 9)
	parts, _ := Parts(1, 8, 3)
	for i := range edges[:cap(edges)] {
		edges[:cap(edges)][i] = 77
	}
	for i := range parts[:cap(parts)] {
		parts[:cap(parts)][i] = [2]int{77, 77}
	}
	checkEdges(t, 1, 9, 1, 2, 5, 8, 9)
	checkPieces(t, 1, 8, 3)
}
