package etext

import "lariat/api"

// part is an expression that may become a part of another one. No two share memory.
type part []api.Node

// with is p and other, with an operation upon both.
func (p part) with(other part, op int) part {
	return append(append(p, other...), api.Node{Op: op})
}

func (p part) or(other part) part     { return p.with(other, api.XOr) }
func (p part) and(other part) part    { return p.with(other, api.XAnd) }
func (p part) equal(other part) part  { return p.with(other, api.XEq) }
func (p part) unlike(other part) part { return p.with(other, api.XNe) }
func (p part) less(other part) part   { return p.with(other, api.XLt) }
func (p part) atMost(other part) part { return p.with(other, api.XLe) }
func (p part) plus(other part) part   { return p.with(other, api.XAdd) }
func (p part) minus(other part) part  { return p.with(other, api.XSub) }
func (p part) times(other part) part  { return p.with(other, api.XMul) }
