package tape

import (
	"math"
	"slices"
	"strings"
	"testing"

	"assayer/api"
	"assayer/plain"
)

// TA1: Check accepts the numbers from 0 to MaxSpan, in lists of any length.
func TestCheckAccepts(t *testing.T) {
	for _, l := range [][]int{
		nil, {}, {0}, {1}, {999}, {1000}, {0, 0, 0}, {1000, 0, 1000}, {3, 1, 2},
		make([]int, 5000),
	} {
		if err := Check(l); err != nil {
			t.Errorf("Check(%v) = %v, want no error", l, err)
		}
	}
}

// TA1: Check rejects a number out of range at any position.
func TestCheckRejects(t *testing.T) {
	for _, bad := range []int{-1, 1001, -1000, 1<<32 + 1, math.MinInt, math.MaxInt} {
		for at := range 4 {
			l := []int{0, 1000, 5, 7}
			l[at] = bad
			if err := Check(l); plain.Told(err) != api.ErrRange {
				t.Errorf("Check(%v) = %v, want ErrRange", l, err)
			}
		}
	}
}

// TA1: Less, both ways, for lists of which the first comes before the second.
func TestLess(t *testing.T) {
	cases := []struct{ a, b []int }{
		{nil, []int{0}},
		{[]int{}, []int{0}},
		{[]int{5}, []int{1, 1}},
		{[]int{1000}, []int{0, 0}},
		{[]int{9, 9, 9}, []int{0, 0, 0, 0}},
		{[]int{0}, []int{1}},
		{[]int{9}, []int{10}},
		{[]int{1, 1}, []int{1, 2}},
		{[]int{1, 9}, []int{2, 0}},
		{[]int{1, 2, 9}, []int{1, 3, 0}},
		{[]int{1, 3, 4}, []int{1, 3, 5}},
		{[]int{-1}, []int{0}},
		{[]int{-2}, []int{-1}},
		{[]int{math.MinInt}, []int{math.MaxInt}},
		{[]int{0, math.MinInt}, []int{0, 1}},
	}
	for _, c := range cases {
		if !Less(c.a, c.b) {
			t.Errorf("Less(%v, %v) = false", c.a, c.b)
		}
		if Less(c.b, c.a) {
			t.Errorf("Less(%v, %v) = true", c.b, c.a)
		}
	}
}

// TA1: no list is less than an equal one; an empty list and nil are equal.
func TestLessOfEqualLists(t *testing.T) {
	cases := []struct{ a, b []int }{
		{nil, nil}, {nil, []int{}}, {[]int{}, nil}, {[]int{}, []int{}},
		{[]int{0}, []int{0}}, {[]int{3, 1, 2}, []int{3, 1, 2}}, {[]int{-1}, []int{-1}},
	}
	for _, c := range cases {
		if Less(c.a, c.b) {
			t.Errorf("Less(%v, %v) = true", c.a, c.b)
		}
	}
}

// TA1: Text, also of lists that Check does not accept.
func TestText(t *testing.T) {
	cases := []struct {
		l    []int
		want string
	}{
		{nil, ""},
		{[]int{}, ""},
		{[]int{0}, "0"},
		{[]int{1000}, "1000"},
		{[]int{1, 20}, "1.20"},
		{[]int{0, 0, 0}, "0.0.0"},
		{[]int{1, 20, 300, 1000, 0}, "1.20.300.1000.0"},
		{[]int{-1, 1001}, "-1.1001"},
		{[]int{math.MinInt, math.MaxInt}, "-9223372036854775808.9223372036854775807"},
	}
	for _, c := range cases {
		if got := Text(c.l); got != c.want {
			t.Errorf("Text(%v) = %q, want %q", c.l, got, c.want)
		}
	}
}

// TA1: Parse returns the tape whose Text it is given.
func TestParse(t *testing.T) {
	cases := []struct {
		s    string
		want []int
	}{
		{"", nil},
		{"0", []int{0}},
		{"7", []int{7}},
		{"1000", []int{1000}},
		{"0.0", []int{0, 0}},
		{"1.20.0", []int{1, 20, 0}},
		{"1000.999.10.1", []int{1000, 999, 10, 1}},
	}
	for _, c := range cases {
		got, err := Parse(c.s)
		if !slices.Equal(got, c.want) || err != nil {
			t.Errorf("Parse(%q) = %v, %v, want %v", c.s, got, err, c.want)
		}
	}
}

// TA1: Parse undoes Text, for each number and for long lists.
func TestParseOfText(t *testing.T) {
	var all []int
	for n := range api.MaxSpan + 1 {
		all = append(all, n)
		one := []int{n}
		if got, err := Parse(Text(one)); !slices.Equal(got, one) || err != nil {
			t.Errorf("Parse(%q) = %v, %v", Text(one), got, err)
		}
	}
	if got, err := Parse(Text(all)); !slices.Equal(got, all) || err != nil {
		t.Errorf("Parse of the text of all numbers: %v, %v", got, err)
	}
}

// TA1: what no tape has as its Text is an error, with no list.
func TestParseErrors(t *testing.T) {
	for _, s := range []string{
		".", "..", "1.", ".1", "1..2", "1.2.", ".1.2", "1.2..", "...",
		"1001", "0.1001", "1001.0", "-1", "0.-1", "-0", "9999",
		"9223372036854775807", "9223372036854775808", "18446744073709551616",
		"00", "01", "0.01", "01.0", "0000000000000000000001", "01000",
		"+1", "1.+1", "+0", "--1", "-",
		" ", " 1", "1 ", "1. 2", "1 .2", "1.2\n", "\t1", "1\x00", "\x00",
		"1,2", "1;2", "1 2", "1_0", "1_000", "0x1", "0b1", "0o1", "1e2", "1.0e1", "a", "1.a", "a.1", "NaN",
		"[1]", "(1)", "\xff", "1\xff", "\u0661", "\uff11", "1\u30022",
		strings.Repeat("9", 5000), strings.Repeat("0", 5000), strings.Repeat(".", 5000),
		strings.Repeat("1.", 5000),
	} {
		l, err := Parse(s)
		if plain.Told(err) != api.ErrForm {
			t.Errorf("Parse(%q): error %v, want ErrForm", s, err)
		}
		if len(l) != 0 {
			t.Errorf("Parse(%q): %v with an error", s, l)
		}
	}
}

// TA1: of all texts of at most four bytes of a small alphabet, Parse accepts
// those that Text returns of a tape.
func TestParseOfAllShortTexts(t *testing.T) {
	const alphabet = "019.-+ "
	tapeTexts := map[string]bool{"": true}
	for a := range api.MaxSpan + 1 {
		tapeTexts[Text([]int{a})] = true
	}
	for a := range 100 {
		for b := range 100 {
			tapeTexts[Text([]int{a, b})] = true
		}
	}
	texts := []string{""}
	for start := 0; start < len(texts); start++ {
		s := texts[start]
		l, err := Parse(s)
		if (err == nil) != tapeTexts[s] {
			t.Errorf("Parse(%q): error %v", s, err)
		}
		if err == nil && Text(l) != s {
			t.Errorf("Parse(%q) = %v", s, l)
		}
		if len(s) == 4 {
			continue
		}
		for i := range len(alphabet) {
			texts = append(texts, s+alphabet[i:i+1])
		}
	}
}

// P2: lists are not modified, nor is the memory behind their length.
func TestListsStayAsTheyAre(t *testing.T) {
	full := []int{3, 1, 2, 77, 78}
	other := []int{3, 1, 1, 79}
	Check(full[:3])
	Less(full[:3], other[:3])
	Less(other[:3], full[:3])
	Text(full[:3])
	if !slices.Equal(full, []int{3, 1, 2, 77, 78}) {
		t.Errorf("the list has become %v", full)
	}
	if !slices.Equal(other, []int{3, 1, 1, 79}) {
		t.Errorf("the other list has become %v", other)
	}
}

// P2: each result of Parse has memory of its own.
func TestParseReturnsNewMemory(t *testing.T) {
	first, _ := Parse("1.2.3")
	second, _ := Parse("1.2.3")
	for i := range first[:cap(first)] {
		first[:cap(first)][i] = 9
	}
	if third, _ := Parse("1.2.3"); !slices.Equal(second, []int{1, 2, 3}) || !slices.Equal(third, []int{1, 2, 3}) {
		t.Errorf("results after a change of another one: %v and %v", second, third)
	}
}
