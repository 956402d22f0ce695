package val

import (
	"strconv"
	"strings"

	"assayer/api"
)

// reader reads values from a text. Its methods report false where the text is
// not what Text writes of a value that Check accepts.
type reader struct {
	text  string
	pos   int
	depth int // in how many lists the next value is nested
}

func (r *reader) value() (api.Value, bool) {
	// Without this limit a long text could nest the calls without bound.
	if r.depth >= api.MaxDepth {
		return api.Value{}, false
	}
	if r.skip(open) {
		return r.list()
	}
	return r.number()
}

// list reads what follows the parenthesis that opens a list.
func (r *reader) list() (api.Value, bool) {
	r.depth++
	defer func() { r.depth-- }()
	v := api.Value{List: true}
	if r.skip(closed) {
		return v, true
	}
	for {
		item, ok := r.value()
		if !ok {
			return api.Value{}, false
		}
		v.Items = append(v.Items, item)
		if r.skip(closed) {
			return v, true
		}
		if !r.skip(separator) {
			return api.Value{}, false
		}
	}
}

func (r *reader) number() (api.Value, bool) {
	word := r.word()
	n, err := strconv.Atoi(word)
	// Atoi also accepts plus signs, leading zeros and -0, which no Text has.
	if err != nil || strconv.Itoa(n) != word {
		return api.Value{}, false
	}
	r.pos += len(word)
	return api.Value{Num: n}, true
}

// word returns the text up to the next parenthesis or space.
func (r *reader) word() string {
	rest := r.text[r.pos:]
	end := strings.IndexAny(rest, delimiters)
	if end < 0 {
		return rest
	}
	return rest[:end]
}

// skip passes over the next byte if it is c.
func (r *reader) skip(c byte) bool {
	if r.pos >= len(r.text) || r.text[r.pos] != c {
		return false
	}
	r.pos++
	return true
}
