package model

import (
	"slices"

	"lariat/api"
	"lariat/proc"
)

// Copy is m, in new memory.
func Copy(m api.Model) api.Model {
	s := proc.Scope(m, -1) // new, and all that m has but its propositions
	copied := api.Model{Scalars: s.Scalars, Vars: s.Vars, Chans: s.Chans, Procs: s.Procs}
	for _, p := range m.Props {
		copied.Props = append(copied.Props, api.Prop{Name: p.Name, Expr: slices.Clone(p.Expr)})
	}
	return copied
}

// Same tells whether a and b have the same in all fields.
func Same(a, b api.Model) bool {
	return slices.Equal(a.Scalars, b.Scalars) &&
		slices.Equal(a.Vars, b.Vars) &&
		slices.Equal(a.Chans, b.Chans) &&
		slices.EqualFunc(a.Procs, b.Procs, sameProc) &&
		slices.EqualFunc(a.Props, b.Props, sameProp)
}

func sameProc(a, b api.Proc) bool {
	return a.Name == b.Name && a.Over == b.Over && a.Locs == b.Locs &&
		slices.Equal(a.Vars, b.Vars) &&
		slices.EqualFunc(a.Cmds, b.Cmds, sameCmd)
}

func sameCmd(a, b api.Cmd) bool {
	return a.Name == b.Name && a.From == b.From && a.To == b.To && a.Fair == b.Fair &&
		slices.Equal(a.Guard, b.Guard) &&
		slices.EqualFunc(a.Acts, b.Acts, sameAct)
}

func sameAct(a, b api.Act) bool {
	return a.Kind == b.Kind && a.To == b.To && a.Local == b.Local &&
		slices.Equal(a.Index, b.Index) &&
		slices.Equal(a.Value, b.Value)
}

func sameProp(a, b api.Prop) bool {
	return a.Name == b.Name && slices.Equal(a.Expr, b.Expr)
}
