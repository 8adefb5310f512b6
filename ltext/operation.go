package ltext

import "lariat/api"

// How formulas bind that bind least, and those that bind most.
const (
	loosest  = 1
	tightest = 5
)

// operation is how an operation is written, how a formula binds that it makes, and what the places of its left and its right part ask for. 0 stands for a part that it has not; what takes one part alone has it on the right.
type operation struct {
	op          int
	sign        string
	binds       int
	left, right int
}

// operations are all of them, but FProp, which has names and no sign.
var operations = [...]operation{
	{api.FTrue, "true", tightest, 0, 0},
	{api.FFalse, "false", tightest, 0, 0},
	{api.FNot, "!", tightest, 0, tightest},
	{api.FNext, "X", tightest, 0, tightest},
	{api.FFin, "F", tightest, 0, tightest},
	{api.FGlob, "G", tightest, 0, tightest},
	{api.FUntil, "U", 4, 5, 4},
	{api.FRel, "R", 4, 5, 4},
	{api.FAnd, "&&", 3, 3, 4},
	{api.FOr, "||", 2, 2, 3},
	{api.FImp, "=>", 1, 2, 1},
}

// written is the operation of that sign; false, if none has it.
func written(sign string) (operation, bool) {
	for _, o := range operations {
		if o.sign == sign {
			return o, true
		}
	}
	return operation{}, false
}

// operationOf is the operation op; false, if it has no sign.
func operationOf(op int) (operation, bool) {
	for _, o := range operations {
		if o.op == op {
			return o, true
		}
	}
	return operation{}, false
}
