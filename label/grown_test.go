package label_test

import (
	"math/rand"
	"slices"
	"strconv"
	"testing"

	"lariat/api"
	"lariat/expr"
	"lariat/label"
	"lariat/layout"
	"lariat/model"
	"lariat/proc"
	"lariat/state"
)

// grown: a model that may be, with things and propositions by chance.
func grown(chance *rand.Rand) api.Model {
	for {
		m := declared(chance)
		truths := truths(m, chance)
		for i := range min(len(truths), 1+chance.Intn(api.MaxProps)) {
			m.Props = append(m.Props, api.Prop{Name: "p" + strconv.Itoa(i), Expr: truths[chance.Intn(len(truths))]})
		}
		if model.Check(m) == (api.Fault{}) {
			return m
		}
	}
}

func declared(chance *rand.Rand) api.Model {
	var m api.Model
	for i := range chance.Intn(api.MaxScalars + 1) {
		m.Scalars = append(m.Scalars, api.Scalar{Name: "S" + strconv.Itoa(i), Size: 1 + chance.Intn(4)})
	}
	scalar := func() int { return chance.Intn(len(m.Scalars) + 1) }
	variable := func(name string) api.Var {
		v := api.Var{Name: name, Scalar: scalar(), Lo: chance.Intn(5) - 2}
		v.Hi = v.Lo + chance.Intn(4)
		if v.Init = v.Hi; v.Scalar != 0 {
			v.Init = 0
		}
		return v
	}
	for i := range chance.Intn(5) {
		v := variable("v" + strconv.Itoa(i))
		v.Over = scalar()
		m.Vars = append(m.Vars, v)
	}
	for i := range chance.Intn(3) {
		v := variable("c" + strconv.Itoa(i))
		m.Chans = append(m.Chans, api.Chan{Name: v.Name, Scalar: v.Scalar, Cap: 1 + chance.Intn(3), Lo: v.Lo, Hi: v.Hi})
	}
	for i := range chance.Intn(4) {
		p := api.Proc{Name: "P" + strconv.Itoa(i), Over: scalar(), Locs: 1 + chance.Intn(3)}
		for n := range chance.Intn(3) {
			p.Vars = append(p.Vars, variable("l"+strconv.Itoa(n)))
		}
		m.Procs = append(m.Procs, p)
	}
	return m
}

// truths: expressions of the model alone that are truths: what may be is put together, again and again.
func truths(m api.Model, chance *rand.Rand) [][]api.Node {
	scope := proc.Scope(m, -1)
	pool := leaves(m)
	var truths [][]api.Node
	for range 400 {
		one := slices.Clone(pool[chance.Intn(len(pool))])
		op := api.Node{Op: api.XNot + chance.Intn(api.XOr-api.XNot+1)}
		if len(m.Vars) > 0 && chance.Intn(4) == 0 {
			op = api.Node{Op: api.XItem, N: chance.Intn(len(m.Vars))}
		}
		if op.Op > api.XNeg {
			one = append(one, pool[chance.Intn(len(pool))]...)
		}
		one = append(one, op)
		kind, why := expr.Kind(one, scope)
		if why != api.OK {
			continue
		}
		pool = append(pool, one)
		if kind == 1 {
			truths = append(truths, one)
		}
	}
	return truths
}

func leaves(m api.Model) [][]api.Node {
	l := [][]api.Node{e(api.XNum, 0), e(api.XNum, 1), e(api.XNum, 2), e(api.XNum, api.MaxNum)}
	for i := range m.Scalars {
		l = append(l, e(api.XNone, i))
	}
	for i := range m.Vars {
		l = append(l, e(api.XVar, i))
	}
	for i := range m.Chans {
		l = append(l, e(api.XLen, i))
	}
	for i, p := range m.Procs {
		for loc := range p.Locs {
			l = append(l, e(api.XAt, 16*i+loc))
		}
	}
	return l
}

// rightState: one by chance, in which the cells that are kept have what they have in old.
func rightState(m api.Model, chance *rand.Rand, old []int, kept []bool) []int {
	l := layout.Of(m)
	s := make([]int, l.Cells)
	for i := range s {
		s[i] = l.Lo[i] + chance.Intn(l.Hi[i]-l.Lo[i]+1)
		if old != nil && kept[i] {
			s[i] = old[i]
		}
	}
	for i, c := range m.Chans {
		own := s[l.Chans[i]:][:1+c.Cap]
		lo, hi := c.Lo, c.Hi
		if c.Scalar != 0 {
			lo, hi = 0, m.Scalars[c.Scalar-1].Size
		}
		for at := range c.Cap {
			own[1+at] = lo + chance.Intn(hi-lo+1)
		}
		clear(own[1+own[0]:])
	}
	return s
}

// P21.1: what Of and Words tell, held against expr and state.
func TestGrown(t *testing.T) {
	chance := rand.New(rand.NewSource(21))
	seen := map[api.Errno]int{}
	trues := 0
	for range 500 {
		m := grown(chance)
		var states [][]int
		var want []uint64
		for range 4 {
			s := rightState(m, chance, nil, nil)
			set := uint64(0)
			for i, p := range m.Props {
				x, why := expr.Eval(p.Expr, state.Env(m, s, -1))
				seen[why]++
				if why == api.OK && x == 1 {
					trues++
					set += 1 << i
				}
			}
			of(t, set, m, s)
			states, want = append(states, s), append(want, set)
		}
		if l := label.Words(m, states); !slices.Equal(l, want) {
			t.Fatal(l, want, m)
		}
	}
	if seen[api.ErrRange] < 100 || trues < 500 || seen[api.OK]-trues < 500 {
		t.Error("too few:", seen, trues)
	}
}

// P21.2: what is seen, by what each cell is of.
func TestGrownSees(t *testing.T) {
	chance := rand.New(rand.NewSource(22))
	for range 500 {
		m := grown(chance)
		insts := proc.Insts(m)
		for cell, is := range label.Sees(m) {
			what, which, place := layout.Slots(m, cell)
			want := slices.ContainsFunc(m.Props, func(p api.Prop) bool {
				return slices.ContainsFunc(p.Expr, func(n api.Node) bool {
					switch n.Op {
					case api.XVar, api.XItem:
						return what == 1 && n.N == which
					case api.XLen:
						return what == 2 && n.N == which && place == 0
					case api.XAt:
						return what == 3 && n.N/16 == insts[which].Proc && place == 0
					}
					return false
				})
			})
			if is != want {
				t.Fatal("Sees", cell, is, m)
			}
		}
		if n := len(label.Sees(m)); n != layout.Of(m).Cells {
			t.Fatal(n, m)
		}
	}
}

// P21.3: what is not seen plays no part.
func TestUnseen(t *testing.T) {
	chance := rand.New(rand.NewSource(23))
	unlike := 0
	for range 1000 {
		m := grown(chance)
		sees := label.Sees(m)
		for range 4 {
			a := rightState(m, chance, nil, nil)
			b := rightState(m, chance, a, sees)
			one, why := label.Of(m, a)
			two, also := label.Of(m, b)
			if one != two || why != api.OK || also != api.OK {
				t.Fatal(a, b, one, two, why, also, m)
			}
			if !slices.Equal(a, b) {
				unlike++
			}
		}
	}
	if unlike < 1000 {
		t.Error("too few that are unlike:", unlike)
	}
}
