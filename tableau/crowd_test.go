package tableau

import (
	"slices"
	"testing"

	"lariat/api"
	"lariat/cover"
	"lariat/nnf"
)

// fits is how many lists of parts are made true by the covers of parts that fit to those propositions.
func fits(covers []cover.Cover, props uint64) int {
	made := map[uint64]bool{}
	for _, c := range covers {
		if c.Need&^props == 0 && c.Ban&props == 0 {
			made[set(c.Now)] = true
		}
	}
	return len(made)
}

// formed: a formula in negation normal form of these nodes, in the order of some numbers: each takes the next one that may stand there.
func formed(size int, number func(below int) int) []api.Node {
	var f []api.Node
	parts := 0
	for len(f) < size || parts > 1 {
		n := api.Node{Op: []int{api.FProp, api.FProp, api.FTrue, api.FFalse, api.FProp, api.FNot, api.FNext, api.FNext, api.FAnd, api.FOr, api.FUntil, api.FRel}[number(12)]}
		if n.Op == api.FProp {
			n.N = number(3)
		}
		takes := 0
		switch {
		case n.Op >= api.FAnd && n.Op != api.FNext:
			takes = 2
		case n.Op >= api.FNot:
			takes = 1
		}
		if takes > parts || takes == 0 && len(f) >= size || n.Op == api.FNot && f[len(f)-1].Op != api.FProp {
			continue
		}
		f, parts = append(f, n), parts+1-takes
	}
	return f
}

// The covers that are counted are there, and all that make unlike parts true are counted.
func TestCount(t *testing.T) {
	state := uint64(31)
	number := func(below int) int {
		state = state*6364136223846793005 + 1442695040888963407
		return int(state>>33) % below
	}
	greatest := 0
	for i := range 20000 {
		f := formed(1+i%30, number)
		if len(f) > most {
			continue
		}
		if !nnf.Is(f) {
			t.Fatal(f)
		}
		var parts []int
		for at := range f {
			under := at+1 < len(f) && f[at+1].Op == api.FNot // no part is true next that is denied
			if !under && number(3) == 0 {
				parts = append(parts, at)
			}
		}
		if i%2 == 0 {
			parts = []int{len(f) - 1}
		}
		covers, c := cover.Of(f, parts), crowdOf(f)
		counts := []int{0}
		for props := range uint64(8) {
			got, want := c.ways(set(parts), props), fits(covers, props)
			if got != want {
				t.Fatalf("%v, parts %v, propositions %b: %d, not %d", f, parts, props, got, want)
			}
			counts = append(counts, got)
		}
		greatest = max(greatest, slices.Max(counts))
		if c.has(parts) != (slices.Max(counts) > api.MaxAuto) {
			t.Fatalf("%v, parts %v: %v of %v", f, parts, c.has(parts), counts)
		}
	}
	if greatest <= api.MaxAuto {
		t.Error(greatest)
	}
}
