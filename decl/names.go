package decl

import "lariat/api"

// Names are all names that m tells, in the order in which they stand in it.
func Names(m api.Model) []string {
	lists := [][]string{named(m.Scalars, scalarName), named(m.Vars, varName), named(m.Chans, chanName)}
	for _, p := range m.Procs {
		lists = append(lists, []string{p.Name}, named(p.Vars, varName), named(p.Cmds, cmdName))
	}
	return gathered(append(lists, named(m.Props, propName))...)
}

// gathered is all lists, one behind the other.
func gathered(lists ...[]string) []string {
	var all []string
	for _, l := range lists {
		all = append(all, l...)
	}
	return all
}

// named is the name of each of l.
func named[T any](l []T, name func(T) string) []string {
	names := make([]string, len(l))
	for i, x := range l {
		names[i] = name(x)
	}
	return names
}

func scalarName(s api.Scalar) string { return s.Name }
func varName(v api.Var) string       { return v.Name }
func chanName(c api.Chan) string     { return c.Name }
func cmdName(c api.Cmd) string       { return c.Name }
func propName(p api.Prop) string     { return p.Name }
