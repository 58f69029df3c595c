package lang

import (
	"slices"
	"strconv"

	"filigree/api"
)

// fault is what is given up with.
type fault api.TextFault

// mark is a token, or why there is none at its place.
type mark struct {
	api.Token
	code api.Errno
}

// reader makes parts of marks. A mark is looked at as it is; only where another one should stand it is a fault: so what lies ahead of it is seen first.
type reader struct {
	marks []mark
	next  int
	open  int
	high  []int
	prog  api.Prog
}

func Parse(s string) (p api.Prog, f *api.TextFault) {
	defer func() {
		if r := recover(); r != nil {
			seen, ok := r.(fault)
			if !ok {
				panic(r)
			}
			p, f = api.Prog{}, &api.TextFault{At: seen.At, Code: seen.Code}
		}
	}()
	r := &reader{}
	for t, e := range Tokens(s) {
		if e == api.ErrLong {
			panic(fault{Code: e})
		}
		r.marks = append(r.marks, mark{t, e})
	}
	r.marks = append(r.marks, mark{api.Token{At: len(s)}, api.OK})
	r.text()
	return r.prog, nil
}

func (r *reader) is(text string) bool {
	m := r.marks[r.next]
	return m.code == api.OK && m.Text == text
}

func (r *reader) wrong(code api.Errno) {
	m := r.marks[r.next]
	if m.code != api.OK {
		code = m.code
	}
	panic(fault{At: m.At, Code: code})
}

// take goes on behind the mark, and tells its place and its text.
func (r *reader) take() (int, string) {
	m := r.marks[r.next]
	r.next++
	return m.At, m.Text
}

func (r *reader) want(text string) {
	if !r.is(text) {
		r.wrong(api.ErrWant)
	}
	r.take()
}

// add puts down a part that has come to be at the token at that place.
func (r *reader) add(at int, n api.Node) int {
	if len(r.prog.Nodes) >= api.MaxNodes {
		panic(fault{At: at, Code: api.ErrLong})
	}
	high := 1
	switch n.Kind {
	case api.NodeNeg, api.NodePow:
		high += r.high[n.A]
	case api.NodeAdd, api.NodeSub, api.NodeMul, api.NodeQuo:
		high += max(r.high[n.A], r.high[n.B])
	}
	if high > api.MaxHigh {
		panic(fault{At: at, Code: api.ErrDeep})
	}
	r.prog.Nodes = append(r.prog.Nodes, n)
	r.high = append(r.high, high)
	return len(r.prog.Nodes) - 1
}

func (r *reader) text() {
	for r.is("let") {
		r.take()
		name := r.marks[r.next].Text
		if !isName(name) || r.marks[r.next].code != api.OK {
			r.wrong(api.ErrWant)
		}
		if r.named(name) {
			r.wrong(api.ErrName)
		}
		r.take()
		r.want("=")
		at := r.sum()
		r.want(";")
		r.prog.Lets = append(r.prog.Lets, api.Let{Name: name, At: at})
	}
	r.prog.Map = r.sum()
	if r.next != len(r.marks)-1 {
		r.wrong(api.ErrWant)
	}
}

func isName(s string) bool {
	return s != "" && isLetter(s[0]) && s != "i" && s != "z" && s != "let"
}

func (r *reader) named(name string) bool {
	return slices.ContainsFunc(r.prog.Lets, func(l api.Let) bool { return l.Name == name })
}

func (r *reader) sum() int {
	left := r.term()
	for {
		kind := api.NodeAdd
		switch {
		case r.is("+"):
		case r.is("-"):
			kind = api.NodeSub
		default:
			return left
		}
		at, _ := r.take()
		right := r.term()
		left = r.add(at, api.Node{Kind: kind, A: left, B: right})
	}
}

func (r *reader) term() int {
	left := r.minus()
	for {
		kind := api.NodeMul
		switch {
		case r.is("*"):
		case r.is("/"):
			kind = api.NodeQuo
		default:
			return left
		}
		at, _ := r.take()
		right := r.minus()
		left = r.add(at, api.Node{Kind: kind, A: left, B: right})
	}
}

func (r *reader) minus() int {
	from := r.next
	for r.is("-") {
		r.take()
	}
	to := r.next
	part := r.power()
	for i := to - 1; i >= from; i-- {
		part = r.add(r.marks[i].At, api.Node{Kind: api.NodeNeg, A: part})
	}
	return part
}

func (r *reader) power() int {
	part := r.atom()
	if !r.is("^") {
		return part
	}
	at, _ := r.take()
	m := r.marks[r.next]
	if m.code != api.OK || m.Text == "" || !isDigit(m.Text[0]) {
		r.wrong(api.ErrWant)
	}
	n, err := strconv.Atoi(m.Text)
	if err != nil || n > api.MaxPower || strconv.Itoa(n) != m.Text {
		r.wrong(api.ErrPower)
	}
	r.take()
	return r.add(at, api.Node{Kind: api.NodePow, A: part, N: n})
}

func (r *reader) atom() int {
	m := r.marks[r.next]
	switch {
	case m.code != api.OK || m.Text == "":
		r.wrong(api.ErrWant)
	case m.Text == "(":
		return r.bracket()
	case isDigit(m.Text[0]):
		r.take()
		return r.add(m.At, api.Node{Kind: api.NodeNum, Text: m.Text})
	case m.Text == "i":
		r.take()
		return r.add(m.At, api.Node{Kind: api.NodeI})
	case m.Text == "z":
		r.take()
		return r.add(m.At, api.Node{Kind: api.NodeZ})
	case !isName(m.Text):
		r.wrong(api.ErrWant)
	case !r.named(m.Text):
		r.wrong(api.ErrName)
	}
	r.take()
	return r.add(m.At, api.Node{Kind: api.NodeName, Text: m.Text})
}

func (r *reader) bracket() int {
	if r.open == api.MaxHigh {
		r.wrong(api.ErrDeep)
	}
	r.take()
	r.open++
	part := r.sum()
	r.want(")")
	r.open--
	return part
}
