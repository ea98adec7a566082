package tree

import (
	"strings"

	"quincunx/api"
)

// Text writes a tree by a grammar's names.
func Text(c api.Cfg, t api.Tree) string {
	var out strings.Builder
	ahead := 0 // the depth of the node ahead
	open := 0  // how many rules want their `)`
	for depth, n := range derived(t) {
		for ; open >= depth; open-- {
			out.WriteByte(')')
		}
		if depth <= ahead {
			out.WriteByte(' ')
		}
		ahead = depth
		if isToken(n) {
			out.WriteString(nameOf(c.Tokens, n.Sym))
			continue
		}
		out.WriteString(nameOf(c.Names, ruleOf(n.Sym)))
		out.WriteByte('(')
		open = depth
	}
	return out.String() + strings.Repeat(")", open)
}

// nameOf is the name of the i-th token or rule; from 0 on i may be any.
func nameOf(names []string, i int) string {
	if i >= len(names) {
		return "?"
	}
	return names[i]
}
