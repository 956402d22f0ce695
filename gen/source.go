package gen

import (
	"assayer/api"
)

// source returns the next choice, a number from 0 to limit. It panics with an
// Errno if there is none.
type source func(limit int) int

// value makes a value of g, which Check accepts.
func (next source) value(g api.Gen) api.Value {
	switch g.Kind {
	case api.Int:
		return api.Value{Num: g.A + next(g.B-g.A)}
	case api.Both:
		v := api.Value{List: true}
		for _, sub := range g.Subs {
			v.Items = append(v.Items, next.value(sub))
		}
		return v
	case api.Many:
		v := api.Value{List: true}
		for range next(g.A) {
			v.Items = append(v.Items, next.value(g.Subs[0]))
		}
		return v
	case api.Any:
		return next.value(g.Subs[next(len(g.Subs)-1)])
	}
	return api.Value{Num: g.A}
}

// record returns the choices that g takes from a source.
func record(g api.Gen, next source) []int {
	var tape []int
	recorder := source(func(limit int) int {
		n := next(limit)
		tape = append(tape, n)
		return n
	})
	recorder.value(g)
	return tape
}

// replay makes a value from exactly the numbers of the tape.
func replay(g api.Gen, tape []int) (v api.Value, err error) {
	defer func() {
		caught := recover()
		if caught == nil {
			return
		}
		errno, ok := caught.(api.Errno)
		if !ok {
			panic(caught) // a mistake of the program, not of the tape
		}
		err = errno
	}()
	reader := source(func(limit int) int {
		if len(tape) == 0 {
			panic(api.ErrShort)
		}
		n := tape[0]
		if n < 0 || n > limit {
			panic(api.ErrRange)
		}
		tape = tape[1:]
		return n
	})
	v = reader.value(g)
	if len(tape) > 0 {
		return api.Value{}, api.ErrForm
	}
	return v, nil
}
