package state_test

import (
	"bytes"
	"math"
	"math/big"
	"math/rand"
	"slices"
	"strconv"
	"testing"

	"lariat/api"
	"lariat/layout"
	"lariat/model"
	"lariat/num"
	"lariat/proc"
	"lariat/state"
)

// grown: a model that may be, by chance, of at most so many things of each sort.
func grown(chance *rand.Rand, most int) api.Model {
	for {
		if m := raw(chance, most); model.Check(m) == (api.Fault{}) {
			return m
		}
	}
}

func raw(chance *rand.Rand, most int) api.Model {
	var m api.Model
	for i := range chance.Intn(api.MaxScalars + 1) {
		m.Scalars = append(m.Scalars, api.Scalar{Name: "S" + strconv.Itoa(i), Size: 1 + chance.Intn(api.MaxSize)})
	}
	scalar := func() int { return chance.Intn(len(m.Scalars) + 1) }
	variable := func(name string) api.Var {
		v := api.Var{Name: name, Scalar: scalar(), Lo: chance.Intn(9) - 4}
		v.Hi = v.Lo + chance.Intn(4)
		if v.Init = v.Lo + chance.Intn(v.Hi-v.Lo+1); v.Scalar != 0 {
			v.Init = chance.Intn(m.Scalars[v.Scalar-1].Size + 1)
		}
		return v
	}
	for i := range chance.Intn(most + 1) {
		v := variable("v" + strconv.Itoa(i))
		v.Over = scalar()
		m.Vars = append(m.Vars, v)
	}
	for i := range chance.Intn(min(most, api.MaxChans) + 1) {
		v := variable("")
		m.Chans = append(m.Chans, api.Chan{Name: "c" + strconv.Itoa(i), Scalar: v.Scalar, Cap: 1 + chance.Intn(most), Lo: v.Lo, Hi: v.Hi})
	}
	for i := range chance.Intn(most + 1) {
		p := api.Proc{Name: "P" + strconv.Itoa(i), Over: scalar(), Locs: 1 + chance.Intn(3)}
		for n := range chance.Intn(most + 1) {
			p.Vars = append(p.Vars, variable("l"+strconv.Itoa(n)))
		}
		m.Procs = append(m.Procs, p)
	}
	return m
}

// things: of each thing of a model, in order, what its cells may be together, each as a row.
func things(m api.Model) [][][]int {
	var l [][][]int
	values := func(v api.Var) [][]int {
		var rows [][]int
		lo, hi := v.Lo, v.Hi
		if v.Scalar != 0 {
			lo, hi = 0, m.Scalars[v.Scalar-1].Size
		}
		for x := lo; x <= hi; x++ {
			rows = append(rows, []int{x})
		}
		return rows
	}
	times := func(over int) int {
		if over == 0 {
			return 1
		}
		return m.Scalars[over-1].Size
	}
	for _, v := range m.Vars {
		for range times(v.Over) {
			l = append(l, values(v))
		}
	}
	for _, c := range m.Chans {
		rows := [][]int{{0}}
		last := rows
		for n := 1; n <= c.Cap; n++ {
			var next [][]int
			for _, row := range last {
				for _, x := range values(api.Var{Scalar: c.Scalar, Lo: c.Lo, Hi: c.Hi}) {
					more := append(slices.Clone(row), x[0])
					more[0] = n
					next = append(next, more)
				}
			}
			rows, last = append(rows, next...), next
		}
		for i, row := range rows {
			rows[i] = append(slices.Clone(row), make([]int, 1+c.Cap-len(row))...)
		}
		l = append(l, rows)
	}
	for _, p := range m.Procs {
		for range times(p.Over) {
			l = append(l, values(api.Var{Hi: p.Locs - 1}))
			for _, v := range p.Vars {
				l = append(l, values(v))
			}
		}
	}
	return l
}

// rightState: one by chance.
func rightState(m api.Model, chance *rand.Rand) []int {
	var s []int
	for _, rows := range things(m) {
		s = append(s, rows[chance.Intn(len(rows))]...)
	}
	return s
}

// isRight: does s have, thing by thing, one of its rows?
func isRight(m api.Model, s []int) bool {
	for _, rows := range things(m) {
		n := len(rows[0])
		if len(s) < n || !slices.ContainsFunc(rows, func(row []int) bool { return slices.Equal(row, s[:n]) }) {
			return false
		}
		s = s[n:]
	}
	return len(s) == 0
}

// theNumber: that of cells, and the greatest one.
func theNumber(m api.Model, s []int) (*big.Int, *big.Int) {
	l := layout.Of(m)
	n, most := new(big.Int), new(big.Int)
	for i, x := range s {
		base := big.NewInt(int64(l.Hi[i] - l.Lo[i] + 1))
		n.Add(n.Mul(n, base), big.NewInt(int64(x-l.Lo[i])))
		most.Add(most.Mul(most, base), new(big.Int).Sub(base, big.NewInt(1)))
	}
	return n, most
}

// P18.3, P18.4: the bytes of a right state, and back.
func there(t *testing.T, m api.Model, s []int) []byte {
	t.Helper()
	n, most := theNumber(m, s)
	want := n.FillBytes(make([]byte, len(most.Bytes())))
	bytesOf(t, m, s, want...)
	return want
}

// theEnv: what is to be told of a right state.
func theEnv(m api.Model, s []int, inst int) api.Env {
	v := api.Env{Vars: make([][]int, len(m.Vars)), Lens: make([]int, len(m.Chans))}
	for _, p := range m.Procs {
		v.At = append(v.At, make([]int, p.Locs))
	}
	insts := proc.Insts(m)
	for cell, x := range s {
		what, which, place := layout.Slots(m, cell)
		switch {
		case what == 1:
			v.Vars[which] = append(v.Vars[which], x)
		case what == 2 && place == 0:
			v.Lens[which] = x
		case what == 3 && place == 0:
			v.At[insts[which].Proc][x]++
		case what == 3 && which == inst:
			v.Locals = append(v.Locals, x)
		}
	}
	if inst >= 0 {
		v.Self = insts[inst].Elem
	}
	return v
}

// P18.1 to P18.5: models and states by chance; of each state, with one number or its length changed, whether it is right.
func TestGrown(t *testing.T) {
	chance := rand.New(rand.NewSource(18))
	for range 1500 {
		m := grown(chance, 4)
		first := state.First(m)
		if len(first) != layout.Of(m).Cells || !isRight(m, first) {
			t.Fatal("First =", first, "of", m)
		}
		there(t, m, first)
		s := rightState(m, chance)
		right(t, true, m, s)
		there(t, m, s)
		insts := len(proc.Insts(m))
		for inst := -1; inst < insts; inst++ {
			if v, want := state.Env(m, s, inst), theEnv(m, s, inst); !sameEnv(v, want) {
				t.Fatal("Env =", v, "not", want)
			}
		}
		for _, inst := range []int{-2, insts, math.MinInt, math.MaxInt} {
			if v := state.Env(m, s, inst); !sameEnv(v, api.Env{}) {
				t.Fatal("Env =", v, "of", inst)
			}
		}
		for range 10 {
			bad := slices.Clone(s)
			if len(bad) > 0 {
				bad[chance.Intn(len(bad))] += chance.Intn(5) - 2
			}
			if chance.Intn(5) == 0 {
				bad = append(bad[:chance.Intn(len(bad)+1)], make([]int, chance.Intn(2))...)
			}
			right(t, isRight(m, bad), m, bad)
		}
		spoiltBytes(t, m, there(t, m, s), chance)
	}
}

// spoiltBytes: what Back tells of b, with some bytes changed, is as of their number.
func spoiltBytes(t *testing.T, m api.Model, b []byte, chance *rand.Rand) {
	l := layout.Of(m)
	_, most := theNumber(m, l.Hi)
	for range 10 {
		bad := slices.Clone(b)
		if len(bad) > 0 {
			bad[chance.Intn(len(bad))] ^= 1 << chance.Intn(8)
		}
		n := new(big.Int).SetBytes(bad)
		if n.Cmp(most) > 0 {
			refused(t, api.ErrRange, m, bad...)
			continue
		}
		s := make([]int, l.Cells)
		for i := range slices.Backward(s) {
			digit := new(big.Int)
			n.DivMod(n, big.NewInt(int64(l.Hi[i]-l.Lo[i]+1)), digit)
			s[i] = l.Lo[i] + int(digit.Int64())
		}
		if isRight(m, s) {
			bytesOf(t, m, s, bad...)
		} else {
			refused(t, api.ErrForm, m, bad...)
		}
	}
	refused(t, api.ErrLong, m, append(slices.Clone(b), 0)...)
	refused(t, api.ErrLong, m, append([]byte{0}, b...)...)
	if len(b) > 0 {
		refused(t, api.ErrShort, m, b[1:]...)
		refused(t, api.ErrShort, m, b[:len(b)-1]...)
	}
}

// P18.3, P18.4: of small models all states, and all bytes, as num.Rank has them.
func TestAllStates(t *testing.T) {
	chance := rand.New(rand.NewSource(1804))
	for done := 0; done < 60; {
		m := grown(chance, 2)
		_, most := theNumber(m, layout.Of(m).Hi)
		if most.Cmp(big.NewInt(4000)) > 0 {
			continue
		}
		done++
		allStates(t, m, int(most.Int64()))
	}
}

func allStates(t *testing.T, m api.Model, most int) {
	l := layout.Of(m)
	bases := make([]int, l.Cells)
	for i := range bases {
		bases[i] = l.Hi[i] - l.Lo[i] + 1
	}
	count := 1
	for _, rows := range things(m) {
		count *= len(rows)
	}
	width := len(big.NewInt(int64(most)).Bytes())
	var ahead []byte
	for n := range most + 1 {
		b := big.NewInt(int64(n)).FillBytes(make([]byte, width))
		digits, _ := num.Unrank(n, bases)
		for i := range digits {
			digits[i] += l.Lo[i]
		}
		if !isRight(m, digits) {
			refused(t, api.ErrForm, m, b...)
			continue
		}
		count--
		bytesOf(t, m, digits, b...)
		if ahead != nil && bytes.Compare(ahead, b) >= 0 {
			t.Error("not rising:", ahead, b)
		}
		ahead = b
	}
	if count != 0 {
		t.Error("right states left:", count, "of", m)
	}
	if beyond := big.NewInt(int64(most + 1)); len(beyond.Bytes()) == width {
		refused(t, api.ErrRange, m, beyond.Bytes()...)
	}
}
