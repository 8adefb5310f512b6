package word

import (
	"lariat/api"
	"lariat/ltl"
)

// Truth tells of each node of f at which places of w the formula that ends with it is satisfied; nothing, if w may not be, or f is no formula.
func Truth(f []api.Node, w api.Word) [][]bool {
	return rows(f, w, true)
}

// Holds tells whether w satisfies f.
func Holds(f []api.Node, w api.Word) bool {
	told := rows(f, w, false)
	return len(told) > 0 && told[len(told)-1][0]
}

// rows has of each node of f at which places of w the formula that ends with it is satisfied; if not all are kept, those of parts are let go as soon as they were asked, as of a long formula all may be too many.
func rows(f []api.Node, w api.Word, all bool) [][]bool {
	begins := ltl.Spans(f)
	if len(begins) == 0 || Check(w) != api.OK {
		return nil
	}
	told := make([][]bool, len(f))
	for at, n := range f {
		var parts [2][]bool
		for i, part := range own(begins, at) {
			parts[i] = told[part]
			if !all {
				told[part] = nil
			}
		}
		told[at] = row(w, n, parts[0], parts[1])
	}
	return told
}

// own is the parts of the node at that place: the right one or the only one, then the left one.
func own(begins []int, at int) []int {
	switch {
	case begins[at] == at:
		return nil
	case begins[at] == begins[at-1]:
		return []int{at - 1}
	}
	return []int{at - 1, begins[at-1] - 1}
}

// row tells at which places of w a formula that ends with n is satisfied, as right tells it of its right or only part, left of its left one.
func row(w api.Word, n api.Node, right, left []bool) []bool {
	switch n.Op {
	case api.FTrue:
		return each(w, func(int) bool { return true })
	case api.FProp:
		return each(w, func(k int) bool { return At(w, k)>>n.N&1 == 1 })
	case api.FNot:
		return each(w, func(k int) bool { return !right[k] })
	case api.FAnd:
		return each(w, func(k int) bool { return left[k] && right[k] })
	case api.FOr:
		return each(w, func(k int) bool { return left[k] || right[k] })
	case api.FImp:
		return each(w, func(k int) bool { return !left[k] || right[k] })
	case api.FNext:
		return each(w, func(k int) bool { return right[next(w, k)] })
	case api.FUntil:
		return back(w, false, func(k int, next bool) bool { return right[k] || left[k] && next })
	case api.FRel:
		return back(w, true, func(k int, next bool) bool { return right[k] && (left[k] || next) })
	case api.FFin:
		return back(w, false, func(k int, next bool) bool { return right[k] || next })
	case api.FGlob:
		return back(w, true, func(k int, next bool) bool { return right[k] && next })
	}
	return make([]bool, Len(w))
}

// next is the place behind place k: behind the last one the loop begins again.
func next(w api.Word, k int) int {
	if k == Len(w)-1 {
		return len(w.Stem)
	}
	return k + 1
}

// each tells is of each place of w.
func each(w api.Word, is func(k int) bool) []bool {
	told := make([]bool, Len(w))
	for k := range Len(w) {
		told[k] = is(k)
	}
	return told
}

// back tells is of each place of w and of what was told of the next one, from the last place back. Behind the last one end is told at first: false, where the least truths are asked, true, where the greatest are. Then the loop is gone through once more, with what was told of its first place, which is the one behind its last.
func back(w api.Word, end bool, is func(k int, next bool) bool) []bool {
	told := make([]bool, Len(w))
	for range 2 {
		for i := range len(w.Loop) {
			k := len(told) - 1 - i
			end = is(k, end)
			told[k] = end
		}
	}
	for i := range len(w.Stem) {
		k := len(w.Stem) - 1 - i
		end = is(k, end)
		told[k] = end
	}
	return told
}
