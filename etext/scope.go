package etext

import (
	"lariat/api"
	"lariat/lex"
)

// scope has the names that expressions speak of.
type scope api.Scope

// names are how many things there are of the sort that nodes with this Op speak of, and the name of each; none, if they speak of nothing that has a name.
func (s scope) names(op int) (int, func(at int) string) {
	switch op {
	case api.XVar, api.XItem:
		return len(s.Vars), func(at int) string { return s.Vars[at].Name }
	case api.XLocal:
		return len(s.Locals), func(at int) string { return s.Locals[at].Name }
	case api.XLen:
		return len(s.Chans), func(at int) string { return s.Chans[at].Name }
	case api.XAt:
		return len(s.Procs), func(at int) string { return s.Procs[at].Name }
	case api.XNone:
		return len(s.Scalars), func(at int) string { return s.Scalars[at].Name }
	}
	return 0, nil
}

// first is the place of the first thing, of the sort of this Op, that has the name; false, if none has.
func (s scope) first(op int, name string) (int, bool) {
	count, nameAt := s.names(op)
	for at := range count {
		if nameAt(at) == name {
			return at, true
		}
	}
	return 0, false
}

// place is where the thing stands of which n speaks, among those of its sort.
func place(n api.Node) int {
	if n.Op == api.XAt {
		return n.N / places
	}
	return n.N
}

// name is the name that n tells; false, if it tells none. What n speaks of must be there.
func (s scope) name(n api.Node) (string, bool) {
	_, nameAt := s.names(n.Op)
	if nameAt == nil {
		return "", false
	}
	return nameAt(place(n)), true
}

// tells says whether the name that n tells, if it does, may be one and stands for what n speaks of. What n speaks of must be there.
func (s scope) tells(n api.Node) bool {
	name, has := s.name(n)
	if !has {
		return true
	}
	if n.Op == api.XVar || n.Op == api.XItem {
		if _, hidden := s.first(api.XLocal, name); hidden {
			return false
		}
	}
	at, _ := s.first(n.Op, name)
	return lex.Name(name) && at == place(n)
}
