package parse

import "quincunx/api"

// refusal is at which place tokens are refused, and why: parsing gives up with it.
type refusal struct {
	at int
	e  api.Errno
}

// treeOf makes the tree of toks, all of which are tokens' numbers.
func treeOf(c api.Cfg, t [][]int, toks []int) (n api.Tree, at int, e api.Errno) {
	defer func() {
		switch x := recover().(type) {
		case nil:
		case refusal:
			n, at, e = api.Tree{}, x.at, x.e
		default:
			panic(x)
		}
	}()
	p := parser{c: c, t: t, toks: toks}
	n.Sym = -1
	p.putAll(&n)
	if p.at < len(toks) {
		p.giveUp(api.ErrParse)
	}
	return n, 0, api.OK
}

// parser puts nodes, and goes through tokens by that.
// What is open are the rules' nodes that want more Kids, each among the Kids of the one ahead of it. A node's Kids may move as they grow, but they grow only when none of them is open any more: so the pointers hold.
type parser struct {
	c     api.Cfg
	t     [][]int
	toks  []int
	at    int // the place that one has come to
	nodes int // how many are counted
	open  []*api.Tree
}

func (p *parser) giveUp(e api.Errno) { panic(refusal{p.at, e}) }

// putAll puts a node, and all that must be put in it.
// A kid is made no sooner than it is put: an alternative of a grammar that may not be can be far longer than all that is ever put of it.
func (p *parser) putAll(first *api.Tree) {
	p.put(first)
	for len(p.open) > 0 {
		last := len(p.open) - 1
		n := p.open[last]
		alt := p.c.Alts[ruleOf(n.Sym)][n.Alt]
		if len(n.Kids) == len(alt) {
			p.open = p.open[:last]
			continue
		}
		n.Kids = append(n.Kids, api.Tree{Sym: alt[len(n.Kids)]})
		p.put(&n.Kids[len(n.Kids)-1])
	}
}

// put puts a node that has its symbol, and nothing else yet.
func (p *parser) put(n *api.Tree) {
	p.nodes++
	if p.nodes > api.MaxNodes {
		p.giveUp(api.ErrLong)
	}
	if n.Sym < 0 {
		p.putRule(n)
	} else {
		p.putToken(n)
	}
}

func (p *parser) putToken(n *api.Tree) {
	if p.at == len(p.toks) || p.toks[p.at] != n.Sym {
		p.giveUp(api.ErrParse)
	}
	n.At = p.at
	p.at++
}

func (p *parser) putRule(n *api.Tree) {
	row, _ := elementOf(p.t, ruleOf(n.Sym))
	taken, told := elementOf(row, p.next())
	alts, _ := elementOf(p.c.Alts, ruleOf(n.Sym))
	alt, is := elementOf(alts, taken)
	if !told || !is {
		p.giveUp(api.ErrParse)
	}
	n.Alt = taken
	if len(alt) > 0 {
		n.Kids = make([]api.Tree, 0, min(len(alt), api.MaxLong))
		p.open = append(p.open, n)
	}
}

// next is the token at the place, or the end.
func (p *parser) next() int {
	if p.at == len(p.toks) {
		return len(p.c.Tokens)
	}
	return p.toks[p.at]
}

// elementOf is the element i of a list, and whether there is one.
func elementOf[T any](l []T, i int) (x T, is bool) {
	if i < 0 || i >= len(l) {
		return x, false
	}
	return l[i], true
}

func ruleOf(number int) int { return -1 - number }
