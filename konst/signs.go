package konst

import (
	"strings"

	"recast/api"
	"recast/exact"
)

// takes tells whether a sign may stand between two constants of c's kind.
func takes(op string, c api.Const) bool {
	switch op {
	case "==", "!=":
		return is(c, api.TypeInt, api.TypeString, api.TypeBool)
	case "+", "<", "<=", ">", ">=":
		return is(c, api.TypeInt, api.TypeString)
	case "-", "*", "/", "%":
		return is(c, api.TypeInt)
	case "&&", "||":
		return is(c, api.TypeBool)
	}
	return false
}

// compared is 0, if two constants of one kind have one value; of ints and strings else -1 or 1, as the first one is below the second or above it. What is no constant has no value by which two could differ.
func compared(a, b api.Const) int {
	switch a.Kind {
	case api.TypeInt:
		return exact.Compare(a.Num, b.Num)
	case api.TypeString:
		return strings.Compare(a.Str, b.Str)
	case api.TypeBool:
		if a.Bool != b.Bool {
			return 1
		}
	}
	return 0
}

// holds tells whether a sign that compares is true of what compared answers.
func holds(op string, order int) bool {
	switch op {
	case "==":
		return order == 0
	case "!=":
		return order != 0
	case "<":
		return order < 0
	case "<=":
		return order <= 0
	case ">":
		return order > 0
	}
	return order >= 0
}

// joined is a and b behind it.
func joined(a, b string) (api.Const, api.Errno) {
	if len(a)+len(b) > api.MaxBytes {
		return api.Const{}, api.ErrBig
	}
	return Str(a + b), api.OK
}

// reckoned is what a sign makes of two ints.
func reckoned(op string, a, b api.Int) (api.Const, api.Errno) {
	var v api.Int
	var e api.Errno
	switch op {
	case "+":
		v, e = exact.Add(a, b)
	case "-":
		v, e = exact.Sub(a, b)
	case "*":
		v, e = exact.Mul(a, b)
	case "/":
		v, _, e = exact.Quo(a, b)
	case "%":
		_, v, e = exact.Quo(a, b)
	}
	if e != api.OK {
		return api.Const{}, e
	}
	return number(v), api.OK
}
