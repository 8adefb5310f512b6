package mtext

import (
	"slices"

	"lariat/api"
)

func (r *reader) scalar(f *fields) {
	r.model.Scalars = append(r.model.Scalars, api.Scalar{Name: f.name(), Size: f.number()})
}

func (r *reader) variable(f *fields) {
	v := api.Var{Name: f.name(), Over: r.over(f)}
	v.Scalar, v.Lo, v.Hi = r.values(f)
	v.Init = f.number()
	r.model.Vars = append(r.model.Vars, v)
}

func (r *reader) channel(f *fields) {
	c := api.Chan{Name: f.name(), Lossy: f.option(lossyWord), Cap: f.number()}
	c.Scalar, c.Lo, c.Hi = r.values(f)
	r.model.Chans = append(r.model.Chans, c)
}

func (r *reader) process(f *fields) {
	r.model.Procs = append(r.model.Procs, api.Proc{Name: f.name(), Over: r.over(f), Locs: f.number()})
}

func (r *reader) local(f *fields) {
	v := api.Var{Name: f.name()}
	v.Scalar, v.Lo, v.Hi = r.values(f)
	v.Init = f.number()
	p := r.proc()
	p.Vars = append(p.Vars, v)
}

func (r *reader) command(f *fields) {
	p := r.proc()
	p.Cmds = append(p.Cmds, api.Cmd{Name: f.name(), Fair: f.option(fairWord), From: f.number(), To: f.number()})
}

func (r *reader) when(f *fields) {
	cmd := r.cmd()
	r.wait(f, func(e []api.Node) { cmd().Guard = e })
}

func (r *reader) set(f *fields) {
	r.value(f, r.act(api.Act{Kind: api.ActSet, To: f.place(r.varAt)}))
}

func (r *reader) index(f *fields) {
	act := r.act(api.Act{Kind: api.ActItem})
	r.wait(f, func(e []api.Node) { act().Index = e })
}

// put goes on with the act that the line ahead, which has its index, began.
func (r *reader) put(f *fields) {
	act := r.lastAct()
	act().To = f.place(r.varAt)
	r.value(f, act)
}

func (r *reader) let(f *fields) {
	r.value(f, r.act(api.Act{Kind: api.ActLocal, To: f.place(r.localAt)}))
}

func (r *reader) send(f *fields) {
	r.value(f, r.act(api.Act{Kind: api.ActSend, To: f.place(r.chanAt)}))
}

func (r *reader) receive(f *fields) {
	r.act(api.Act{Kind: api.ActRecv, To: f.place(r.chanAt), Local: f.place(r.localAt)})
}

func (r *reader) proposition(f *fields) {
	at := len(r.model.Props)
	r.model.Props = append(r.model.Props, api.Prop{Name: f.name()})
	r.waitOf(f, -1, func(e []api.Node) { r.model.Props[at].Expr = e })
}

// over takes over which scalar something is; 0, if it is over none.
func (r *reader) over(f *fields) int {
	if !f.option(overWord) {
		return 0
	}
	return 1 + f.place(r.scalarAt)
}

// values takes what something may be: elements of a scalar, or numbers from lo to hi.
func (r *reader) values(f *fields) (scalar, lo, hi int) {
	if f.option(ofWord) {
		return 1 + f.place(r.scalarAt), 0, 0
	}
	return 0, f.number(), f.number()
}

// value takes the value of an act.
func (r *reader) value(f *fields, act func() *api.Act) {
	r.wait(f, func(e []api.Node) { act().Value = e })
}

// wait takes an expression of the last process.
func (r *reader) wait(f *fields, put func(e []api.Node)) {
	r.waitOf(f, len(r.model.Procs)-1, put)
}

func (r *reader) waitOf(f *fields, process int, put func(e []api.Node)) {
	r.waiting = append(r.waiting, waiting{line: r.at, proc: process, text: f.expression(), put: put})
}

// proc is the last process. It is to be used at once: the lists of the model move as they grow.
func (r *reader) proc() *api.Proc {
	return &r.model.Procs[len(r.model.Procs)-1]
}

// cmd tells, whenever it is asked, the command that is the last one now.
func (r *reader) cmd() func() *api.Cmd {
	p := len(r.model.Procs) - 1
	c := len(r.model.Procs[p].Cmds) - 1
	return func() *api.Cmd { return &r.model.Procs[p].Cmds[c] }
}

// act adds an act to the last command, and tells it whenever it is asked.
func (r *reader) act(a api.Act) func() *api.Act {
	c := r.cmd()()
	c.Acts = append(c.Acts, a)
	return r.lastAct()
}

// lastAct tells, whenever it is asked, the act that is the last one now.
func (r *reader) lastAct() func() *api.Act {
	cmd := r.cmd()
	at := len(cmd().Acts) - 1
	return func() *api.Act { return &cmd().Acts[at] }
}

func (r *reader) scalarAt(name string) int {
	return slices.IndexFunc(r.model.Scalars, func(s api.Scalar) bool { return s.Name == name })
}

func (r *reader) varAt(name string) int {
	return slices.IndexFunc(r.model.Vars, func(v api.Var) bool { return v.Name == name })
}

// localAt is where the last process has it.
func (r *reader) localAt(name string) int {
	return slices.IndexFunc(r.proc().Vars, func(v api.Var) bool { return v.Name == name })
}

func (r *reader) chanAt(name string) int {
	return slices.IndexFunc(r.model.Chans, func(c api.Chan) bool { return c.Name == name })
}
