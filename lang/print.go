package lang

import (
	"slices"
	"strconv"

	"filigree/api"
)

// tie is how tightly a part's text holds together: what holds less than its place asks for stands in round brackets.
type tie uint8

const (
	loose  tie = iota // a sum
	middle            // a product or quotient
	ahead             // a minus
	raised            // a power
	atomic
)

// writer puts down texts; blank is what stands about + and -.
type writer struct {
	nodes []api.Node
	blank string
	ways  map[api.NodeKind]way
	text  []byte
}

// way is how a kind of part is put down.
type way struct {
	tie tie
	put func(w *writer, n api.Node)
}

func ways() map[api.NodeKind]way {
	return map[api.NodeKind]way{
		api.NodeNum:  {atomic, (*writer).named},
		api.NodeI:    {atomic, (*writer).unit},
		api.NodeZ:    {atomic, (*writer).variable},
		api.NodeName: {atomic, (*writer).named},
		api.NodeNeg:  {ahead, (*writer).minus},
		api.NodeAdd:  {loose, (*writer).sum},
		api.NodeSub:  {loose, (*writer).difference},
		api.NodeMul:  {middle, (*writer).product},
		api.NodeQuo:  {middle, (*writer).quotient},
		api.NodePow:  {raised, (*writer).power},
	}
}

func (w *writer) add(s string) { w.text = append(w.text, s...) }

// part puts down a part that must hold together as tightly as at least.
func (w *writer) part(at int, least tie) {
	if len(w.text) > api.MaxMap { // already too long: what is put in a bracket or not does not matter any more
		return
	}
	n := w.nodes[at]
	how := w.ways[n.Kind]
	if how.tie < least {
		w.add("(")
		defer func() { w.add(")") }()
	}
	how.put(w, n)
}

func (w *writer) named(n api.Node) { w.add(n.Text) }

func (w *writer) unit(n api.Node) { w.add("i") }

func (w *writer) variable(n api.Node) { w.add("z") }

func (w *writer) minus(n api.Node) {
	w.add("-")
	w.part(n.A, ahead)
}

func (w *writer) two(n api.Node, left, right tie, sign string) {
	w.part(n.A, left)
	w.add(sign)
	w.part(n.B, right)
}

func (w *writer) sum(n api.Node) { w.two(n, loose, middle, w.blank+"+"+w.blank) }

func (w *writer) difference(n api.Node) { w.two(n, loose, middle, w.blank+"-"+w.blank) }

func (w *writer) product(n api.Node) { w.two(n, middle, ahead, "*") }

func (w *writer) quotient(n api.Node) { w.two(n, middle, ahead, "/") }

func (w *writer) power(n api.Node) {
	w.part(n.A, atomic)
	w.add("^" + strconv.Itoa(n.N))
}

// write is the text of parts that hang together.
func write(p api.Prog, blank, end string) string {
	w := &writer{nodes: p.Nodes, blank: blank, ways: ways()}
	for _, l := range p.Lets {
		w.add("let " + l.Name + blank + "=" + blank)
		w.part(l.At, loose)
		w.add(";" + end)
	}
	w.part(p.Map, loose)
	return string(w.text)
}

// whole tells whether the parts hang together as trees, each part behind its own parts: so that they can be put down.
func whole(p api.Prog) bool {
	if len(p.Nodes) > api.MaxNodes || len(p.Lets) > len(p.Nodes) {
		return false
	}
	var open []int // the parts that are complete, and no part of another one yet
	lets := p.Lets
	kinds := ways()
	for i, n := range p.Nodes {
		own := []int{}
		switch kinds[n.Kind].tie {
		case loose, middle:
			own = []int{n.A, n.B}
		case ahead, raised:
			own = []int{n.A}
		}
		rest := len(open) - len(own)
		if _, ok := kinds[n.Kind]; !ok || rest < 0 || !slices.Equal(open[rest:], own) {
			return false
		}
		open = append(open[:rest], i)
		if len(lets) > 0 && lets[0].At == i {
			if len(open) != 1 {
				return false
			}
			open, lets = nil, lets[1:]
		}
	}
	return len(lets) == 0 && slices.Equal(open, []int{p.Map})
}

func Check(p api.Prog) api.Errno {
	if !whole(p) {
		return api.ErrProg
	}
	// the shortest text that they could have must lead back to them
	if q, f := Parse(write(p, "", "")); f != nil || !Same(p, q) {
		return api.ErrProg
	}
	return api.OK
}

func Print(p api.Prog) (string, api.Errno) {
	if e := Check(p); e != api.OK {
		return "", e
	}
	s := write(p, " ", "\n")
	if len(s) > api.MaxMap {
		return "", api.ErrLong
	}
	return s, api.OK
}

func High(p api.Prog, at int) (int, api.Errno) {
	if e := Check(p); e != api.OK {
		return 0, e
	}
	if at < 0 || at >= len(p.Nodes) {
		return 0, api.ErrArg
	}
	high := make([]int, at+1)
	for i, n := range p.Nodes[:at+1] {
		high[i] = 1
		switch n.Kind {
		case api.NodeNeg, api.NodePow:
			high[i] += high[n.A]
		case api.NodeAdd, api.NodeSub, api.NodeMul, api.NodeQuo:
			high[i] += max(high[n.A], high[n.B])
		}
	}
	return high[at], api.OK
}

func Spare(p api.Prog) ([]string, api.Errno) {
	if e := Check(p); e != api.OK {
		return nil, e
	}
	var names []string
	for _, l := range p.Lets {
		met := slices.ContainsFunc(p.Nodes, func(n api.Node) bool { return n.Kind == api.NodeName && n.Text == l.Name })
		if !met {
			names = append(names, l.Name)
		}
	}
	return names, api.OK
}

func Same(a, b api.Prog) bool {
	return slices.Equal(a.Nodes, b.Nodes) && slices.Equal(a.Lets, b.Lets) && a.Map == b.Map
}
