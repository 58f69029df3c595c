package refine

import "filigree/api"

func (t *Tree) Bytes() string {
	if t.missing() {
		return ""
	}
	letters := [3]byte{api.Unknown: 'u', api.In: 'i', api.Out: 'o'}
	var text []byte
	for at := range order(t.nodes) {
		c := byte('p')
		if n := t.nodes[at]; !n.parted {
			c = letters[n.told]
		}
		text = append(text, c)
	}
	return string(text)
}

func Read(s api.Square, bytes string, j api.Judge) (*Tree, api.Errno) {
	if _, e := ready(s, j); e != api.OK {
		return nil, e
	}
	t := &Tree{judge: j, nodes: []node{{square: s}}, leaves: 1}
	if !t.read(bytes) {
		return nil, api.ErrTree
	}
	return t, api.OK
}

// read parts the root as the bytes say; false, if they say no tree.
func (t *Tree) read(bytes string) bool {
	pile := []int{0} // the nodes whose bytes are still to come, the next one last
	i, at := 0, 0
	var squares [4]api.Square
	var ok bool
next:
	if len(pile) == 0 || i == len(bytes) {
		return len(pile) == 0 && i == len(bytes)
	}
	at = pile[len(pile)-1]
	pile = pile[:len(pile)-1]
	i++
	switch bytes[i-1] {
	case 'p':
		goto parted
	case 'i':
		t.nodes[at].told = api.In
	case 'o':
		t.nodes[at].told = api.Out
	case 'u':
	default:
		return false
	}
	goto next
parted:
	if squares, _, ok = t.parts(t.nodes[at]); !ok {
		return false
	}
	t.hang(at, squares, [4]api.Told{})
	for k := 3; k >= 0; k-- {
		pile = append(pile, t.nodes[at].parts[k])
	}
	goto next
}
