package rng

import (
	"math"
	"testing"

	"assayer/api"
	"assayer/plain"
)

const golden = 0x9e3779b97f4a7c15

// RN1: New takes the number as State, negative ones modulo 2^64.
func TestNew(t *testing.T) {
	cases := []struct {
		n     int
		state uint64
	}{
		{0, 0},
		{1, 1},
		{1234567, 1234567},
		{-1, 0xffffffffffffffff},
		{math.MaxInt, 0x7fffffffffffffff},
		{math.MinInt, 0x8000000000000000},
	}
	for _, c := range cases {
		want := api.Seed{State: c.state, Gamma: golden}
		if got := New(c.n); got != want {
			t.Errorf("New(%d) = %x, want %x", c.n, got, want)
		}
	}
}

// RN1: the numbers that follow from a seed of New.
func TestNextSequence(t *testing.T) {
	cases := []struct {
		n    int
		want [4]uint64
	}{
		{0, [4]uint64{0xe220a8397b1dcdaf, 0x6e789e6aa1b965f4, 0x06c45d188009454f, 0xf88bb8a8724c81ec}},
		{1, [4]uint64{0x910a2dec89025cc1, 0xbeeb8da1658eec67, 0xf893a2eefb32555e, 0x71c18690ee42c90b}},
		{-1, [4]uint64{0xe4d971771b652c20, 0xe99ff867dbf682c9, 0x382ff84cb27281e9, 0x6d1db36ccba982d2}},
		{1234567, [4]uint64{0x599ed017fb08fc85, 0x2c73f08458540fa5, 0x883ebce5a3f27c77, 0x3fbef740e9177b3f}},
		{math.MaxInt, [4]uint64{0x2a67d7552e039ea7, 0xf20c01408082f947, 0xec159351af424190, 0x2020319894995bfb}},
		{math.MinInt, [4]uint64{0x481ec0a212a9f3db, 0xc46fa638a6309012, 0x61a685ffc80a8140, 0x592e268383e356f9}},
	}
	for _, c := range cases {
		s := New(c.n)
		state := s.State
		for i, want := range c.want {
			var got uint64
			got, s = Next(s)
			state += golden
			if got != want {
				t.Errorf("seed %d, number %d: %x, want %x", c.n, i, got, want)
			}
			if s != (api.Seed{State: state, Gamma: golden}) {
				t.Errorf("seed %d, seed after number %d: %x, want state %x", c.n, i, s, state)
			}
		}
	}
}

// RN1: Next adds the Gamma of the seed that it is given, modulo 2^64.
func TestNextOfAnyGamma(t *testing.T) {
	const max = math.MaxUint64
	cases := []struct {
		seed  api.Seed
		want  uint64
		state uint64
	}{
		{api.Seed{}, 0, 0},
		{api.Seed{State: 5}, 0xb6bf613dbebb45dc, 5},
		{api.Seed{State: max, Gamma: 1}, 0, 0},
		{api.Seed{State: max, Gamma: 2}, 0x5692161d100b05e5, 1},
		{api.Seed{State: max, Gamma: max}, 0xda26e52fa3730902, max - 1},
		{api.Seed{State: 0x0123456789abcdef, Gamma: 0xfedcba9876543210}, 0xb4d055fcf2cbbd7b, max},
	}
	for _, c := range cases {
		got, s := Next(c.seed)
		if got != c.want {
			t.Errorf("Next(%x) = %x, want %x", c.seed, got, c.want)
		}
		if s != (api.Seed{State: c.state, Gamma: c.seed.Gamma}) {
			t.Errorf("Next(%x): seed %x, want state %x", c.seed, s, c.state)
		}
	}
}

// RN1: Split, with second numbers that are odd and ones that are even.
func TestSplit(t *testing.T) {
	cases := []struct{ seed, first, second api.Seed }{
		{
			New(0),
			api.Seed{State: 0x3c6ef372fe94f82a, Gamma: golden},
			api.Seed{State: 0xe220a8397b1dcdaf, Gamma: 0x6e789e6aa1b965f5},
		},
		{
			New(1),
			api.Seed{State: 0x3c6ef372fe94f82b, Gamma: golden},
			api.Seed{State: 0x910a2dec89025cc1, Gamma: 0xbeeb8da1658eec67},
		},
		{
			New(-7),
			api.Seed{State: 0x3c6ef372fe94f823, Gamma: golden},
			api.Seed{State: 0x6c1e186443822970, Gamma: 0x7a87f4dabcf192ab},
		},
		{
			api.Seed{State: 3},
			api.Seed{State: 3},
			api.Seed{State: 0x1e535eede31428f0, Gamma: 0x1e535eede31428f1},
		},
		{
			api.Seed{State: 0x10, Gamma: 0x20},
			api.Seed{State: 0x50, Gamma: 0x20},
			api.Seed{State: 0xa630657cb8c7f164, Gamma: 0x087d70ad2ca29b0b},
		},
		{
			api.Seed{},
			api.Seed{},
			api.Seed{Gamma: 1},
		},
	}
	for _, c := range cases {
		first, second := Split(c.seed)
		if first != c.first {
			t.Errorf("Split(%x): first %x, want %x", c.seed, first, c.first)
		}
		if second != c.second {
			t.Errorf("Split(%x): second %x, want %x", c.seed, second, c.second)
		}
	}
}

// RN2: numbers for bounds from the least one to the greatest one.
func TestBelow(t *testing.T) {
	cases := []struct{ seed, n, want int }{
		{0, 1, 0}, {1, 1, 0}, {-1, 1, 0},
		{0, 2, 1},
		{0, 3, 2}, {1, 3, 1},
		{0, 10, 8}, {1, 10, 5}, {42, 10, 7},
		{0, 1000, 883}, {-1, 1000, 893},
		{0, 1 << 16, 57888}, {1, 1 << 16, 37130},
		{0, 1<<31 - 2, 1896895514}, {42, 1<<31 - 2, 1592498449},
		{0, 1<<31 - 1, 1896895515}, {1, 1<<31 - 1, 1216681717}, {-1, 1<<31 - 1, 1919727802},
	}
	for _, c := range cases {
		got, s, err := Below(New(c.seed), c.n)
		if got != c.want || err != nil {
			t.Errorf("Below(New(%d), %d) = %d, %v, want %d", c.seed, c.n, got, err, c.want)
		}
		if _, want := Next(New(c.seed)); s != want {
			t.Errorf("Below(New(%d), %d): seed %x, want %x", c.seed, c.n, s, want)
		}
	}
}

// RN2: the seeds lead from one number to the next one.
func TestBelowSequence(t *testing.T) {
	s := New(7)
	for i, want := range []int{2, 0, 5, 3, 2, 1, 2, 1, 0, 2, 0, 5, 5, 5, 5, 3, 5, 1, 3, 4} {
		var got int
		got, s, _ = Below(s, 6)
		if got != want {
			t.Errorf("number %d: %d, want %d", i, got, want)
		}
	}
	if want := (api.Seed{State: 0x5c55827df1d1b1ab, Gamma: golden}); s != want {
		t.Errorf("last seed %x, want %x", s, want)
	}
}

// RN2: every number from 0 to n - 1 occurs, and no other one.
func TestBelowStaysInRange(t *testing.T) {
	for n := 1; n <= 20; n++ {
		seen := make([]bool, n)
		s := New(n)
		for range 1000 {
			var k int
			k, s, _ = Below(s, n)
			if k < 0 || k >= n {
				t.Fatalf("Below %d: %d", n, k)
			}
			seen[k] = true
		}
		for k, ok := range seen {
			if !ok {
				t.Errorf("Below %d: %d never occurs", n, k)
			}
		}
	}
}

// RN2, P1: a bound out of range is an error, with no number and no seed.
func TestBelowErrors(t *testing.T) {
	for _, n := range []int{0, -1, math.MinInt, math.MinInt + 1, 1 << 31, 1<<32 + 1, math.MaxInt} {
		k, s, err := Below(New(1), n)
		if plain.Told(err) != api.ErrRange {
			t.Errorf("Below %d: error %v, want ErrRange", n, err)
		}
		if k != 0 || s != (api.Seed{}) {
			t.Errorf("Below %d: %d and %x with an error", n, k, s)
		}
	}
}
