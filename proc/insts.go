package proc

import (
	"iter"
	"slices"

	"lariat/api"
	"lariat/decl"
)

// Insts are the instances of m's processes, in order.
func Insts(m api.Model) []api.Inst {
	return slices.Collect(insts(m))
}

// Refs are the command instances of m, in order.
func Refs(m api.Model) []api.Ref {
	var l []api.Ref
	for ref := range refs(m) {
		l = append(l, ref)
	}
	return l
}

// Fair are the numbers of the command instances whose command is fair.
func Fair(m api.Model) []int {
	var l []int
	at := 0
	for _, c := range refs(m) {
		if c.Fair {
			l = append(l, at)
		}
		at++
	}
	return l
}

// insts tells the instances, in order.
func insts(m api.Model) iter.Seq[api.Inst] {
	return func(yield func(api.Inst) bool) {
		for at, p := range m.Procs {
			i, end := ends(at, p, m.Scalars)
			for ; i != end; i.Elem++ {
				if !yield(i) {
					return
				}
			}
		}
	}
}

// ends are the first instance of p, the process at that place, and the one that would stand behind its last; the same one twice, if it has none.
func ends(at int, p api.Proc, scalars []api.Scalar) (first, end api.Inst) {
	first = api.Inst{Proc: at}
	if p.Over != 0 {
		first.Elem = 1
	}
	end = first
	// A process is as many instances as a variable over the same elements is cells.
	end.Elem += decl.Cells(api.Var{Over: p.Over}, scalars)
	return first, end
}

// refs tells the command instances, in order, each with its command.
func refs(m api.Model) iter.Seq2[api.Ref, api.Cmd] {
	return func(yield func(api.Ref, api.Cmd) bool) {
		inst := 0
		for i := range insts(m) {
			for at, c := range m.Procs[i.Proc].Cmds {
				if !yield(api.Ref{Inst: inst, Cmd: at}, c) {
					return
				}
			}
			inst++
		}
	}
}
