package expr

import (
	"assayer/api"
)

// evaluate returns the number of an expression that Check accepts for a value
// that val.Check accepts, or ErrZero if there is none.
func evaluate(x api.Expr, v api.Value) (n int, err error) {
	defer func() {
		caught := recover()
		if caught == nil {
			return
		}
		errno, ok := caught.(api.Errno)
		if !ok {
			panic(caught) // a mistake of the program, not of the expression
		}
		err = errno
	}()
	return number(x, v), nil
}

// number computes what evaluate returns. It panics with ErrZero if a part that
// is needed has no number.
func number(x api.Expr, v api.Value) int {
	switch x.Kind {
	case api.Lit:
		return x.N
	case api.Sum:
		return sum(v)
	case api.Top:
		return top(v)
	case api.Len:
		return len(v.Items)
	case api.Not:
		return truth(number(x.Subs[0], v) == 0)
	}
	first := number(x.Subs[0], v)
	// The second part may have no number, so it is left out where it has no
	// effect.
	if x.Kind == api.And && first == 0 || x.Kind == api.Or && first != 0 {
		return first
	}
	return combine(x.Kind, first, number(x.Subs[1], v))
}

// combine computes the number of a part from those of both its Subs.
func combine(kind, first, second int) int {
	switch kind {
	case api.Add:
		return first + second
	case api.Rem:
		return remainder(first, second)
	case api.Less:
		return truth(first < second)
	case api.Same:
		return truth(first == second)
	}
	return second // of an And or Or that the first number did not decide
}

func remainder(first, second int) int {
	if second == 0 {
		panic(api.ErrZero)
	}
	return first % second
}

func truth(b bool) int {
	if b {
		return 1
	}
	return 0
}

func sum(v api.Value) int {
	total := 0
	eachNumber(v, func(n int) { total += n })
	return total
}

func top(v api.Value) int {
	greatest, found := 0, false
	eachNumber(v, func(n int) {
		// The first number counts also if it is less than 0.
		if !found || n > greatest {
			greatest, found = n, true
		}
	})
	return greatest
}

// eachNumber calls see with all numbers in a value, in order.
func eachNumber(v api.Value, see func(n int)) {
	if !v.List {
		see(v.Num)
		return
	}
	for _, item := range v.Items {
		eachNumber(item, see)
	}
}
