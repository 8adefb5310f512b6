package ltl

import "lariat/api"

// nothing is what nodes make of which nothing is asked.
type nothing struct{}

// refused is why f is no formula, however long.
func refused(f []api.Node) api.Errno {
	_, why := work(f, func(int, []nothing) nothing { return nothing{} })
	return why
}

// work works off f, however long it is, with a stack. What a node puts on it is told by made, of the node's place and of what its parts put there, the left one first; made does not keep that list. What the last node puts there is told, or why f is no formula.
func work[T any](f []api.Node, made func(at int, parts []T) T) (T, api.Errno) {
	var none T
	var stack []T
	for at, n := range f {
		ahead, why := left(n, len(stack))
		if why != api.OK {
			return none, why
		}
		stack = append(stack[:ahead], made(at, stack[ahead:]))
	}
	switch {
	case len(stack) == 0:
		return none, api.ErrShort
	case len(stack) > 1:
		return none, api.ErrLong
	}
	return stack[0], api.OK
}

// left is how many of so many parts are left when n has taken its own; or what is wrong with n.
func left(n api.Node, parts int) (int, api.Errno) {
	own, is := takes(n.Op)
	switch {
	case !is:
		return 0, api.ErrForm
	case own > parts:
		return 0, api.ErrShort
	case n.Op == api.FProp && (n.N < 0 || n.N >= api.MaxProps):
		return 0, api.ErrRange
	}
	return parts - own, api.OK
}

// takes is how many parts the operation op takes; false, if it is none.
func takes(op int) (int, bool) {
	switch op {
	case api.FTrue, api.FFalse, api.FProp:
		return 0, true
	case api.FNot, api.FNext, api.FFin, api.FGlob:
		return 1, true
	case api.FAnd, api.FOr, api.FImp, api.FUntil, api.FRel:
		return 2, true
	}
	return 0, false
}
