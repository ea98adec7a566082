package derive

// start is a rule's number, and the place at which sentences of it begin.
type start struct{ number, at int }

// search finds where sentences of rules that stand in some tokens end, by where they begin.
type search struct {
	alts [][][]int
	toks []int
	ends map[start]places
}

// newSearch begins with what begins last: so what is asked of places further behind is known when it is asked for.
func newSearch(alts [][][]int, toks []int) search {
	s := search{alts, toks, map[start]places{}}
	for at := len(toks); at >= 0; at-- {
		r := round{s, at, map[point]places{}, map[int][]point{}, nil}
		r.findEnds()
	}
	return s
}

// behind are the places behind a number that stands at one of some places.
func (s search) behind(here places, n int) places {
	var l places
	for at := range here.each {
		if n < 0 {
			l.join(s.ends[start{n, at}])
		} else if at < len(s.toks) && s.toks[at] == n {
			l.join(only(at + 1))
		}
	}
	return l
}

// point is ahead of the number dot of a rule's alternative, or behind all of them.
type point struct{ rule, alt, dot int }

// coming is a point, and places at which one has come to it, but from which one has not gone on yet.
type coming struct {
	point
	at places
}

// round finds where sentences end that begin at one place.
// A rule may stand at that place in what comes from itself: so what waits for a rule there goes on whenever one more end of it is found.
type round struct {
	search
	at      int
	come    map[point]places // where one has come to a point
	waiting map[int][]point  // of a rule's number the points behind it
	open    []coming
}

func (r *round) findEnds() {
	for rule, alts := range r.alts {
		for alt := range alts {
			r.goOn(coming{point{rule, alt, 0}, only(r.at)})
		}
	}
	for len(r.open) > 0 {
		last := len(r.open) - 1
		x := r.open[last]
		r.open = r.open[:last]
		r.goOn(x)
	}
}

func (r *round) goOn(x coming) {
	alt := r.alts[x.rule][x.alt]
	if x.dot == len(alt) {
		r.end(numberOf(x.rule), x.at)
		return
	}
	n := alt[x.dot]
	next := point{x.rule, x.alt, x.dot + 1}
	if n < 0 && x.at.has(r.at) {
		r.waiting[n] = append(r.waiting[n], next)
	}
	r.comeTo(next, r.behind(x.at, n))
}

// end puts ends of what begins at the place.
func (r *round) end(n int, at places) {
	known := r.ends[start{n, r.at}]
	fresh := known.join(at)
	r.ends[start{n, r.at}] = known
	for _, next := range r.waiting[n] {
		r.comeTo(next, fresh)
	}
}

// comeTo lays aside that one has come to a point at some places, as far as that is new.
func (r *round) comeTo(p point, at places) {
	if len(at) == 0 {
		return
	}
	known := r.come[p]
	if fresh := known.join(at); len(fresh) > 0 {
		r.come[p] = known
		r.open = append(r.open, coming{p, fresh})
	}
}
