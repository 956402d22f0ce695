package val

import (
	"math"
	"slices"
	"strconv"
	"strings"
	"testing"

	"assayer/api"
	"assayer/plain"
)

func num(n int) api.Value { return api.Value{Num: n} }

func list(items ...api.Value) api.Value { return api.Value{List: true, Items: items} }

// nested returns v inside so many lists.
func nested(v api.Value, depth int) api.Value {
	for range depth {
		v = list(v)
	}
	return v
}

// alike tells whether two values are equal; an empty list and nil are.
func alike(a, b api.Value) bool {
	return a.List == b.List && a.Num == b.Num && slices.EqualFunc(a.Items, b.Items, alike)
}

// samples are values that Check accepts, with their texts.
func samples() map[string]api.Value {
	return map[string]api.Value{
		"0":                    num(0),
		"7":                    num(7),
		"-1":                   num(-1),
		"10":                   num(10),
		"-120":                 num(-120),
		"9223372036854775807":  num(math.MaxInt),
		"-9223372036854775808": num(math.MinInt),
		"()":                   list(),
		"(0)":                  list(num(0)),
		"(-1)":                 list(num(-1)),
		"(())":                 list(list()),
		"(() ())":              list(list(), list()),
		"(1 2)":                list(num(1), num(2)),
		"(12)":                 list(num(12)),
		"(2 1)":                list(num(2), num(1)),
		"((1) 2)":              list(list(num(1)), num(2)),
		"(1 (2))":              list(num(1), list(num(2))),
		"((1 2))":              list(list(num(1), num(2))),
		"((1) (2))":            list(list(num(1)), list(num(2))),
		"(1 (-2) ())":          list(num(1), list(num(-2)), list()),
		"(3 ())":               list(num(3), list()),
		"(((((0 -5) 1))) 2)":   list(list(list(list(list(num(0), num(-5)), num(1)))), num(2)),
		"(((((1)))))":          nested(num(1), 5),
		"((((()))))":           nested(list(), 4),
		"(((((())))))":         nested(list(), 5),
		"(-9223372036854775808 9223372036854775807)": list(num(math.MinInt), num(math.MaxInt)),
	}
}

// VA1: Check accepts numbers and lists in up to MaxDepth - 1 lists.
func TestCheckAccepts(t *testing.T) {
	for s, v := range samples() {
		if err := Check(v); err != nil {
			t.Errorf("Check of %s: %v, want no error", s, err)
		}
	}
	emptyItems := api.Value{Num: 3, Items: []api.Value{}}
	if err := Check(emptyItems); err != nil {
		t.Errorf("Check of a number with an empty list: %v, want no error", err)
	}
	if err := Check(list(make([]api.Value, 5000)...)); err != nil {
		t.Errorf("Check of a long list: %v, want no error", err)
	}
}

// VA1: a number has no Items and a list no Num, wherever they are.
func TestCheckForm(t *testing.T) {
	for _, bad := range []api.Value{
		{List: true, Num: 1},
		{List: true, Num: -1},
		{List: true, Num: math.MinInt},
		{List: true, Num: 1, Items: []api.Value{num(1)}},
		{Items: []api.Value{num(1)}},
		{Num: 5, Items: []api.Value{list()}},
	} {
		for depth := range api.MaxDepth - 1 {
			for _, v := range []api.Value{
				nested(bad, depth),
				nested(list(bad, num(1)), depth),
				nested(list(num(1), list(), bad), depth),
			} {
				if err := Check(v); plain.Told(err) != api.ErrForm {
					t.Errorf("Check(%v) = %v, want ErrForm", v, err)
				}
			}
		}
	}
}

// VA1: a value in MaxDepth lists is too deep, be it a number or a list.
func TestCheckDepth(t *testing.T) {
	for _, inner := range []api.Value{num(1), list(), list(num(1))} {
		for _, depth := range []int{6, 7, 8, 100, 1 << 16} {
			if err := Check(nested(inner, depth)); plain.Told(err) != api.ErrFull {
				t.Errorf("Check of a value in %d lists: %v, want ErrFull", depth, err)
			}
		}
	}
	late := list(num(1), list(), nested(num(1), 5), nested(num(1), 6))
	if err := Check(late); plain.Told(err) != api.ErrFull {
		t.Errorf("Check of a deep last item: %v, want ErrFull", err)
	}
}

// VA1: the error of the value that is examined first is returned.
func TestCheckOrder(t *testing.T) {
	noForm := api.Value{List: true, Num: 1}
	tooDeep := nested(num(1), 6)
	cases := []struct {
		name string
		v    api.Value
		want api.Errno
	}{
		{"both errors of one value", nested(noForm, 6), api.ErrForm},
		{"number with Items, too deep", nested(api.Value{Items: []api.Value{num(1)}}, 6), api.ErrForm},
		{"too deep, with an Item without form", nested(list(noForm), 6), api.ErrFull},
		{"without form, around what is too deep", api.Value{List: true, Num: 1, Items: []api.Value{tooDeep}}, api.ErrForm},
		{"number around what is too deep", api.Value{Items: []api.Value{tooDeep}}, api.ErrForm},
		{"first Item without form", list(noForm, tooDeep), api.ErrForm},
		{"first Item too deep", list(tooDeep, noForm), api.ErrFull},
		{"Items of the first Item before the second Item", list(list(num(1), noForm), tooDeep), api.ErrForm},
	}
	for _, c := range cases {
		if err := Check(c.v); plain.Told(err) != c.want {
			t.Errorf("%s: %v, want %v", c.name, err, c.want)
		}
	}
}

// VA1: Text of numbers and lists.
func TestText(t *testing.T) {
	for want, v := range samples() {
		if got := Text(v); got != want {
			t.Errorf("Text = %q, want %q", got, want)
		}
	}
}

// VA1, P4: Text has no limit of depth and leaves out what does not belong to
// the value.
func TestTextOfOtherValues(t *testing.T) {
	cases := []struct {
		v    api.Value
		want string
	}{
		{nested(num(1), 6), "((((((1))))))"},
		{nested(list(), 1<<16), strings.Repeat("(", 1<<16+1) + strings.Repeat(")", 1<<16+1)},
		{api.Value{List: true, Num: 4, Items: []api.Value{num(1)}}, "(1)"},
		{api.Value{Num: 4, Items: []api.Value{num(1)}}, "4"},
		{api.Value{List: true, Items: []api.Value{}}, "()"},
	}
	for _, c := range cases {
		if got := Text(c.v); got != c.want {
			t.Errorf("Text = %.40q, want %.40q", got, c.want)
		}
	}
}

// VA1: Parse returns the value whose Text it is given.
func TestParse(t *testing.T) {
	for s, want := range samples() {
		got, err := Parse(s)
		if !alike(got, want) || err != nil {
			t.Errorf("Parse(%q) = %v, %v, want %v", s, got, err, want)
		}
	}
}

// VA1: the depth counts the lists around a value, not the lists before it.
func TestParseOfManyLists(t *testing.T) {
	items := make([]api.Value, 3000)
	for i := range items {
		items[i] = nested(num(i-1500), i%6)
	}
	deep := list(items...)
	if got, err := Parse(Text(deep)); plain.Told(err) != api.ErrForm || !alike(got, api.Value{}) {
		t.Errorf("Parse of a list with items in up to 6 lists: %v, want ErrForm", err)
	}
	for i := range items {
		items[i] = nested(num(i-1500), i%5)
	}
	want := list(items...)
	if got, err := Parse(Text(want)); !alike(got, want) || err != nil {
		t.Errorf("Parse of a list with items in up to 5 lists: %v", err)
	}
}

// VA1: what no value has as its Text is an error, with no value.
func TestParseErrors(t *testing.T) {
	for _, s := range []string{
		"", " ", "(", ")", ")(", "((", "))", "(()", "())", "()()", "() ()", "( )", "(  )",
		"(1", "1)", "(1 2", "(1 (2)", "(1))", "(1)1", "1(1)", "1 ", " 1", "1 2", "1()", "() ", " ()",
		"(1  2)", "( 1)", "(1 )", "(1 2 )", "( 1 2)", "(1(2))", "((1)2)", "((1)(2))", "(1 ( 2))", "(() )", "( ())",
		"(1\t2)", "(1\n2)", "(1,2)", "(1, 2)", "(1)\n", "\n", "[1]", "{1}", "(1]",
		"(1\x002)", "1\x00", "\x00", "\xff", "(1\xff)", "(1\u00a02)", "\uff081\uff09", "\u0661", "\uff11",
		"01", "00", "-0", "-01", "(01)", "(1 -0)", "+1", "+0", "(+1)", "--1", "-", "(-)", "- 1", "1-", "1-1", "-(1)", "-()",
		"1_0", "0x1", "0b1", "0o1", "1e2", "1.0", "a", "(a)", "1a", "NaN", "true",
		"9223372036854775808", "-9223372036854775809", "18446744073709551616", "(9223372036854775808)",
		"((((((1))))))", "(((((((1)))))))", "((((((())))))", "((((((()))))))", "(1 ((((((1)))))))", "(((((() (1))))))",
		strings.Repeat("9", 5000), strings.Repeat("0", 5000), strings.Repeat("-", 5000),
		strings.Repeat("(", 1<<20), strings.Repeat(")", 5000), strings.Repeat("()", 5000),
		strings.Repeat("(", 1<<16) + strings.Repeat(")", 1<<16),
		"(" + strings.Repeat("1 ", 5000) + ")", "(1" + strings.Repeat(" 1", 5000),
	} {
		v, err := Parse(s)
		if plain.Told(err) != api.ErrForm {
			t.Errorf("Parse(%.40q): error %v, want ErrForm", s, err)
		}
		if v.List || v.Num != 0 || len(v.Items) != 0 {
			t.Errorf("Parse(%.40q): %v with an error", s, v)
		}
	}
}

// textsUpTo returns the texts of values of which each has at most so many
// bytes and no digits but 0 and 1.
func textsUpTo(length int) map[string]bool {
	values := make([][]string, length+1)
	sequences := make([][]string, length+1)
	for i := range 1 << length {
		s := strconv.FormatInt(int64(i), 2)
		for _, s := range []string{s, "-" + s} {
			if len(s) <= length && s != "-0" {
				values[len(s)] = append(values[len(s)], s)
			}
		}
	}
	sequences[0] = []string{""}
	all := map[string]bool{}
	for n := 1; n <= length; n++ {
		if n >= 2 {
			for _, s := range sequences[n-2] {
				values[n] = append(values[n], "("+s+")")
			}
		}
		sequences[n] = append(sequences[n], values[n]...)
		for first := 1; first < n-1; first++ {
			for _, a := range values[first] {
				for _, b := range sequences[n-1-first] {
					sequences[n] = append(sequences[n], a+" "+b)
				}
			}
		}
		for _, s := range values[n] {
			all[s] = true
		}
	}
	return all
}

// VA1: of all texts of at most seven bytes of a small alphabet, Parse accepts
// those that are the Text of a value.
func TestParseOfAllShortTexts(t *testing.T) {
	const alphabet, length = "01-() ", 7
	want := textsUpTo(length)
	found := 0
	texts := []string{""}
	for start := 0; start < len(texts); start++ {
		s := texts[start]
		v, err := Parse(s)
		if (err == nil) != want[s] {
			t.Errorf("Parse(%q): error %v", s, err)
		}
		if err == nil {
			found++
			if Text(v) != s || Check(v) != nil {
				t.Errorf("Parse(%q) = %v", s, v)
			}
		}
		if len(s) == length {
			continue
		}
		for i := range len(alphabet) {
			texts = append(texts, s+alphabet[i:i+1])
		}
	}
	if found != len(want) {
		t.Errorf("%d texts found, want %d", found, len(want))
	}
}

// VA1: Same, for each pair of values that Check accepts.
func TestSame(t *testing.T) {
	again := samples()
	for s, a := range samples() {
		for r, b := range again {
			if Same(a, b) != (s == r) {
				t.Errorf("Same(%s, %s) = %v", s, r, Same(a, b))
			}
		}
	}
}

// VA1, P4: an empty list of items and nil are the same.
func TestSameOfEmptyItems(t *testing.T) {
	none := []api.Value{}
	pairs := []struct{ a, b api.Value }{
		{list(), api.Value{List: true, Items: none}},
		{num(2), api.Value{Num: 2, Items: none}},
		{list(list(), num(0)), list(api.Value{List: true, Items: none}, api.Value{Items: none})},
	}
	for _, p := range pairs {
		if !Same(p.a, p.b) || !Same(p.b, p.a) {
			t.Errorf("Same(%v, %v) = false", p.a, p.b)
		}
	}
}

// VA1: Same reports false of values that Check does not accept, whatever
// their texts.
func TestSameOfRejectedValues(t *testing.T) {
	for _, p := range []struct{ good, bad api.Value }{
		{list(), api.Value{List: true, Num: 1}},
		{num(2), api.Value{Num: 2, Items: []api.Value{num(1)}}},
		{nested(num(1), 5), nested(num(1), 6)},
		{list(), nested(list(), 1<<16)},
	} {
		if Same(p.good, p.bad) || Same(p.bad, p.good) || Same(p.bad, p.bad) {
			t.Errorf("Same of %.40q and a value that Check rejects", Text(p.good))
		}
	}
}

// P2: values are not modified, nor is the memory behind the length of a list.
func TestValuesStayAsTheyAre(t *testing.T) {
	behind := []api.Value{num(1), list(num(2), num(3)), num(4), num(5)}
	v := api.Value{List: true, Items: behind[:2]}
	Check(v)
	Text(v)
	Same(v, v)
	want := list(num(1), list(num(2), num(3)), num(4), num(5))
	if !alike(list(behind...), want) {
		t.Errorf("the items have become %v", behind)
	}
}

// overwrite changes all memory of the lists of a value.
func overwrite(v api.Value) {
	for _, item := range v.Items {
		overwrite(item)
	}
	items := v.Items[:cap(v.Items)]
	for i := range items {
		items[i] = num(99)
	}
}

// P2: no two lists of results share memory.
func TestParseReturnsNewMemory(t *testing.T) {
	const s = "(1 (2 3 4) () (2 3 4) (5 (6)))"
	first, _ := Parse(s)
	second, _ := Parse(s)
	overwrite(first)
	if third, _ := Parse(s); Text(second) != s || Text(third) != s {
		t.Errorf("results after a change of another one: %v and %v", second, third)
	}
	overwrite(second.Items[1])
	if got, want := Text(second), "(1 (99 99 99) () (2 3 4) (5 (6)))"; got != want {
		t.Errorf("after a change of one list: %s, want %s", got, want)
	}
}
