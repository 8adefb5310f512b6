package proc

import (
	"slices"

	"lariat/api"
)

// copied is a new list of what copyOf makes of each of l.
func copied[T any](l []T, copyOf func(T) T) []T {
	copies := make([]T, len(l))
	for i, x := range l {
		copies[i] = copyOf(x)
	}
	return copies
}

func copyProc(p api.Proc) api.Proc {
	p.Vars = slices.Clone(p.Vars)
	p.Cmds = copied(p.Cmds, copyCmd)
	return p
}

func copyCmd(c api.Cmd) api.Cmd {
	c.Guard = slices.Clone(c.Guard)
	c.Acts = copied(c.Acts, copyAct)
	return c
}

func copyAct(a api.Act) api.Act {
	a.Index = slices.Clone(a.Index)
	a.Value = slices.Clone(a.Value)
	return a
}
