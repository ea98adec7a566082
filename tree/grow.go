package tree

import "quincunx/api"

// Grow makes the derivation of steps; beside an error it tells how many of them were taken.
func Grow(c api.Cfg, steps []int) (api.Tree, int, api.Errno) {
	g := grower{c: c, steps: steps}
	n, e := g.put(first)
	if e == api.OK && g.taken < len(steps) {
		e = api.ErrParse
	}
	if e != api.OK {
		return api.Tree{}, g.taken, e
	}
	return n, 0, api.OK
}

// grower makes nodes by steps, from the left.
type grower struct {
	c     api.Cfg
	steps []int
	taken int // how many steps were taken
	toks  int // how many tokens there are so far
	nodes int // how many nodes are counted
}

// put makes the node of a number, and all that comes of it. The calls within calls are no more than there may be nodes.
func (g *grower) put(number int) (api.Tree, api.Errno) {
	g.nodes++
	if g.nodes > api.MaxNodes {
		return api.Tree{}, api.ErrLong
	}
	n := api.Tree{Sym: number}
	if isToken(n) {
		n.At = g.toks
		g.toks++
		return n, api.OK
	}
	if g.taken == len(g.steps) {
		return api.Tree{}, api.ErrParse
	}
	n.Alt = g.steps[g.taken]
	alt, is := altOf(g.c, number, n.Alt)
	if !is {
		return api.Tree{}, api.ErrParse
	}
	g.taken++
	for _, in := range alt {
		kid, e := g.put(in)
		if e != api.OK {
			return api.Tree{}, e
		}
		n.Kids = append(n.Kids, kid)
	}
	return n, api.OK
}
