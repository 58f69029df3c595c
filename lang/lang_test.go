package lang

import (
	"math"
	"math/rand"
	"slices"
	"strings"
	"testing"

	"filigree/api"
)

func gather(s string) (l []api.Token, e api.Errno) {
	for t, f := range Tokens(s) {
		l = append(l, t)
		e = f
	}
	return l, e
}

func TestP11_1Tokens(t *testing.T) {
	for _, c := range []struct {
		s    string
		want string // each token's text and |
		e    api.Errno
		at   int // of the last one
	}{{"2z^2 # note", "2|z|^|2|", 0, 3}, {"", "", 0, 0}, {" \t\r\n#x", "", 0, 0}, {"let c=-0.5+i;z", "let|c|=|-|0.5|+|i|;|z|", 0, 13}, {"1.5e-10x", "1.5e-10|x|", 0, 7}, {"1e5e", "1e5|e|", 0, 3}, {"007 0.10", "007|0.10|", 0, 4}, {"1.", "|", api.ErrToken, 0}, {"z 1.x", "z||", api.ErrToken, 2}, {"1e", "|", api.ErrToken, 0}, {"1e+", "|", api.ErrToken, 0}, {"1e12345", "|", api.ErrToken, 0}, {"1e1234", "1e1234|", 0, 0}, {"1.2.3", "1.2||", api.ErrToken, 3}, {"abcdefghijklmnop", "abcdefghijklmnop|", 0, 0}, {"abcdefghijklmno1q", "|", api.ErrToken, 0}, {"z$", "z||", api.ErrToken, 1}, {"Z", "|", api.ErrToken, 0}, {"\x00", "|", api.ErrToken, 0}, {"z\x00", "z||", api.ErrToken, 1}, {"_a", "|", api.ErrToken, 0}, {"z\v", "z||", api.ErrToken, 1}, {"a1b2", "a1b2|", 0, 0}, {"1a", "1|a|", 0, 1}, {"#a\nz#b\n+", "z|+|", 0, 7}, {"1e+05", "1e+05|", 0, 0}, {".5", "|", api.ErrToken, 0}, {"é", "|", api.ErrToken, 0}, {"()=;*/+-^", "(|)|=|;|*|/|+|-|^|", 0, 8}} {
		l, e := gather(c.s)
		text, at := "", 0
		for _, k := range l {
			text += k.Text + "|"
			at = k.At
		}
		if text != c.want || e != c.e || at != c.at {
			t.Error(c.s, text, e, at)
		}
	}
	long := strings.Repeat(" ", api.MaxMap) + "z"
	if l, e := gather(long); !slices.Equal(l, []api.Token{{}}) || e != api.ErrLong {
		t.Error(l, e)
	}
	if l, e := gather(long[1:]); len(l) != 1 || e != api.OK {
		t.Error(l, e)
	}
	n := 0
	for range Tokens("z + z + z") {
		if n++; n == 2 {
			break
		}
	}
	if n != 2 {
		t.Error("left early", n)
	}
}

func nest(n int, open, mid, shut string) string {
	return strings.Repeat(open, n) + mid + strings.Repeat(shut, n)
}

func TestP11_2Faults(t *testing.T) {
	for _, c := range []struct {
		s    string
		at   int
		code api.Errno
	}{{"z^2 + c", 6, api.ErrName}, {"1.", 0, api.ErrToken}, {"1e5x", 3, api.ErrWant}, {"z^65", 2, api.ErrPower}, {"z^1.5", 2, api.ErrPower}, {"z^-1", 2, api.ErrWant}, {"(z", 2, api.ErrWant}, {"let z = 1; z", 4, api.ErrWant}, {"", 0, api.ErrWant}, {"  ", 2, api.ErrWant}, {"z z", 2, api.ErrWant}, {"2z", 1, api.ErrWant}, {"z^02", 2, api.ErrPower}, {"z^1e1", 2, api.ErrPower}, {"z^99999999999999999999", 2, api.ErrPower}, {"z^z", 2, api.ErrWant}, {"z^(2)", 2, api.ErrWant}, {"z^", 2, api.ErrWant}, {"z^?", 2, api.ErrToken}, {"z^2^2", 3, api.ErrWant}, {"z +", 3, api.ErrWant}, {"+z", 0, api.ErrWant}, {"z)", 1, api.ErrWant}, {"()", 1, api.ErrWant}, {"let a = 1; let a = 2; z", 15, api.ErrName}, {"let a = a; z", 8, api.ErrName}, {"let a = b; let b = 1; z", 8, api.ErrName}, {"let a = 1", 9, api.ErrWant}, {"let a = 1;", 10, api.ErrWant}, {"let a 1; z", 6, api.ErrWant}, {"let let = 1; z", 4, api.ErrWant}, {"let i = 1; z", 4, api.ErrWant}, {"let 1 = 1; z", 4, api.ErrWant}, {"let", 3, api.ErrWant}, {"let ?", 4, api.ErrToken}, {"z + let", 4, api.ErrWant}, {"z; let a = 1;", 1, api.ErrWant}, {"z + ?", 4, api.ErrToken}, {"c ?", 0, api.ErrName}, {"z ?", 2, api.ErrToken}, {"=", 0, api.ErrWant},
		{nest(65, "(", "z", ")"), 64, api.ErrDeep}, {strings.Repeat("-", 64) + "z", 0, api.ErrDeep}, {strings.Repeat("-", 70) + "z ?", 6, api.ErrDeep}, {strings.Repeat("-", 63) + "z^2", 0, api.ErrDeep}, {"z" + strings.Repeat("+z", 64), 127, api.ErrDeep}, {"z" + strings.Repeat("*z", 64) + "?", 127, api.ErrDeep}, {"(z" + strings.Repeat("+z", 63) + ")^2", 129, api.ErrDeep}, {nest(64, "(", "z", ")") + "(", 129, api.ErrWant}, {"(((z)))+" + nest(65, "(", "z", ")"), 8 + 64, api.ErrDeep},
		{strings.Repeat(" ", api.MaxMap) + "?", 0, api.ErrLong}} {
		p, f := Parse(c.s)
		if f == nil || f.At != c.at || f.Code != c.code || len(p.Nodes)+len(p.Lets)+p.Map != 0 {
			t.Error(c.s, f, c)
		}
	}
	// 4095 parts stand in 63 balanced trees and more; the part that is too many is seen at its own token
	full := balanced(11) + "*" + balanced(11)
	if p, f := Parse(full); f != nil || len(p.Nodes) != 4095 {
		t.Error(f, len(p.Nodes))
	}
	if p, f := Parse("-" + full); f != nil || len(p.Nodes) != 4096 {
		t.Error(f, len(p.Nodes))
	}
	if _, f := Parse("-" + full + "+z"); f == nil || f.Code != api.ErrLong || f.At != len(full)+2 {
		t.Error(f)
	}
	if _, f := Parse("--" + full); f == nil || f.Code != api.ErrLong || f.At != 2+len(balanced(11)) {
		t.Error(f)
	}
	if _, f := Parse(strings.Repeat("-", 63) + "z"); f != nil {
		t.Error(f)
	}
	if _, f := Parse(nest(64, "(", "z", ")")); f != nil {
		t.Error(f)
	}
}

// balanced is a sum of 2 to the power n-1 letters, as flat as can be.
func balanced(n int) string {
	if n == 1 {
		return "z"
	}
	half := balanced(n - 1)
	return "(" + half + "+" + half + ")"
}

func TestP11_2Parts(t *testing.T) {
	p, f := Parse("let c = -0.5 + i; z^2 + c")
	want := api.Prog{Nodes: []api.Node{{Kind: api.NodeNum, Text: "0.5"}, {Kind: api.NodeNeg, A: 0}, {Kind: api.NodeI}, {Kind: api.NodeAdd, A: 1, B: 2}, {Kind: api.NodeZ}, {Kind: api.NodePow, A: 4, N: 2}, {Kind: api.NodeName, Text: "c"}, {Kind: api.NodeAdd, A: 5, B: 6}}, Lets: []api.Let{{Name: "c", At: 3}}, Map: 7}
	if f != nil || !Same(p, want) {
		t.Error(p, f)
	}
	p, f = Parse("a - b"[:0] + "z - 1 - i*2/3")
	want = api.Prog{Nodes: []api.Node{{Kind: api.NodeZ}, {Kind: api.NodeNum, Text: "1"}, {Kind: api.NodeSub, A: 0, B: 1}, {Kind: api.NodeI}, {Kind: api.NodeNum, Text: "2"}, {Kind: api.NodeMul, A: 3, B: 4}, {Kind: api.NodeNum, Text: "3"}, {Kind: api.NodeQuo, A: 5, B: 6}, {Kind: api.NodeSub, A: 2, B: 7}}, Map: 8}
	if f != nil || !Same(p, want) {
		t.Error(p, f)
	}
	if p, f := Parse("-z^0"); f != nil || !slices.Equal(p.Nodes, []api.Node{{Kind: api.NodeZ}, {Kind: api.NodePow}, {Kind: api.NodeNeg, A: 1}}) {
		t.Error(p, f)
	}
}

func TestP11_3_P11_5Print(t *testing.T) {
	for s, want := range map[string]string{
		"let c = -0.5 + i; z^2 + c":       "let c = -0.5 + i;\nz^2 + c",
		"(z - (1 - z))*((2))/(z*z)":       "(z - (1 - z))*2/(z*z)",
		"(-z)^2 + -(z^2)":                 "(-z)^2 + -z^2",
		"((z+1)+1)-((z)-1)":               "z + 1 + 1 - (z - 1)",
		"(z*z)/z*(z/z)":                   "z*z/z*(z/z)",
		"-(z*2)*(-i)":                     "-(z*2)*-i",
		"-(-(z+1))":                       "--(z + 1)",
		"(z^2)^3":                         "(z^2)^3",
		"(z*1)^2+(z+1)^2":                 "(z*1)^2 + (z + 1)^2",
		"(z+1)*z+z*(z+1)":                 "(z + 1)*z + z*(z + 1)",
		"z+(z*z)-(-z)":                    "z + z*z - -z",
		"let a=1;let bb = a*2;\n#x\nz/bb": "let a = 1;\nlet bb = a*2;\nz/bb",
		"1.50e+07":                        "1.50e+07",
	} {
		p, f := Parse(s)
		if f != nil {
			t.Error(s, f)
			continue
		}
		got, e := Print(p)
		if got != want || e != api.OK || Check(p) != api.OK {
			t.Error(s, got, e)
		}
		q, f := Parse(got)
		if f != nil || !Same(p, q) {
			t.Error(got, f)
		}
	}
	r := rand.New(rand.NewSource(17))
	for range 3000 {
		s := random(r, 5)
		p, f := Parse(s)
		if f != nil {
			t.Fatal(s, f)
		}
		text, e := Print(p)
		q, f := Parse(text)
		if e != api.OK || f != nil || !Same(p, q) || Check(p) != api.OK {
			t.Fatal(s, text, e, f)
		}
		if again, _ := Print(q); again != text {
			t.Fatal(text, again)
		}
		if len(text) > len(s) && !strings.Contains(text, " ") {
			t.Fatal("brackets more than need be", s, text)
		}
	}
}

// random is a text with brackets about every part but the least ones.
func random(r *rand.Rand, deep int) string {
	if deep == 0 || r.Intn(6) == 0 {
		return []string{"z", "i", "1", "0.5", "12e-3"}[r.Intn(5)]
	}
	a, b := random(r, deep-1), random(r, deep-1)
	switch r.Intn(6) {
	case 0:
		return "(-" + a + ")"
	case 1:
		return "((" + a + ")^3)"
	}
	return "(" + a + []string{"+", "-", "*", "/"}[r.Intn(4)] + b + ")"
}

func TestP11_3Wrong(t *testing.T) {
	z, one := api.Node{Kind: api.NodeZ}, api.Node{Kind: api.NodeNum, Text: "1"}
	for _, p := range []api.Prog{{}, {Nodes: []api.Node{z}, Map: 1}, {Nodes: []api.Node{z}, Map: -1}, {Nodes: []api.Node{z, z}, Map: 1}, {Nodes: []api.Node{{Kind: 0}}}, {Nodes: []api.Node{{Kind: 11}}}, {Nodes: []api.Node{{Kind: api.NodeZ, Text: "z"}}}, {Nodes: []api.Node{{Kind: api.NodeZ, A: 1}}}, {Nodes: []api.Node{{Kind: api.NodeZ, N: 1}}}, {Nodes: []api.Node{{Kind: api.NodeI, B: -1}}}, {Nodes: []api.Node{{Kind: api.NodeNum}}}, {Nodes: []api.Node{{Kind: api.NodeNum, Text: "1 "}}}, {Nodes: []api.Node{{Kind: api.NodeNum, Text: "z"}}}, {Nodes: []api.Node{{Kind: api.NodeNum, Text: "1."}}}, {Nodes: []api.Node{{Kind: api.NodeNum, Text: "(1)"}}}, {Nodes: []api.Node{{Kind: api.NodeName, Text: "a"}}}, {Nodes: []api.Node{{Kind: api.NodeNeg}}}, {Nodes: []api.Node{z, {Kind: api.NodeNeg, A: 1}}, Map: 1}, {Nodes: []api.Node{z, {Kind: api.NodeNeg, A: -1}}, Map: 1}, {Nodes: []api.Node{z, {Kind: api.NodeNeg, N: 1}}, Map: 1}, {Nodes: []api.Node{z, {Kind: api.NodePow, N: 65}}, Map: 1}, {Nodes: []api.Node{z, {Kind: api.NodePow, N: -1}}, Map: 1}, {Nodes: []api.Node{z, {Kind: api.NodePow, N: 1, B: 1}}, Map: 1}, {Nodes: []api.Node{z, one, {Kind: api.NodeAdd, A: 1, B: 0}}, Map: 2}, {Nodes: []api.Node{z, {Kind: api.NodeAdd}}, Map: 1}, {Nodes: []api.Node{z, one, {Kind: api.NodeAdd, A: 0, B: 1, N: 1}}, Map: 2}, {Nodes: []api.Node{z, one}, Lets: []api.Let{{Name: "i"}}, Map: 1}, {Nodes: []api.Node{z, one}, Lets: []api.Let{{Name: "a b"}}, Map: 1}, {Nodes: []api.Node{z, one}, Lets: []api.Let{{Name: "a", At: 1}}, Map: 1}, {Nodes: []api.Node{z, one, z}, Lets: []api.Let{{Name: "a"}, {Name: "a", At: 1}}, Map: 2}, {Nodes: []api.Node{z, one, z}, Lets: []api.Let{{Name: "a", At: 1}, {Name: "b"}}, Map: 2}, {Nodes: []api.Node{z}, Lets: []api.Let{{Name: "a"}}}, {Nodes: []api.Node{{Kind: api.NodeNum, Text: "1;z"}}}, {Nodes: make([]api.Node, 5000)}, {Nodes: []api.Node{{Kind: api.NodeNum, Text: strings.Repeat("1", api.MaxMap+1)}}}} {
		if Check(p) != api.ErrProg {
			t.Error(p)
		}
		s, e1 := Print(p)
		n, e2 := High(p, 0)
		l, e3 := Spare(p)
		if s != "" || n != 0 || len(l) != 0 || e1 != api.ErrProg || e2 != api.ErrProg || e3 != api.ErrProg {
			t.Error(p, e1, e2, e3)
		}
	}
	// as long as may be without blanks, too long with them
	long := "z+" + strings.Repeat("1", api.MaxMap-2)
	p, f := Parse(long)
	if f != nil || Check(p) != api.OK {
		t.Error(f)
	}
	if s, e := Print(p); s != "" || e != api.ErrLong {
		t.Error(e)
	}
	p, _ = Parse("let a=" + strings.Repeat("1", api.MaxMap-8) + ";z")
	if Check(p) != api.OK {
		t.Error("a let")
	}
	deep := []api.Node{z}
	for i := range 64 {
		deep = append(deep, api.Node{Kind: api.NodeNeg, A: i})
	}
	if Check(api.Prog{Nodes: deep, Map: 64}) != api.ErrProg || Check(api.Prog{Nodes: deep[:64], Map: 63}) != api.OK {
		t.Error("height")
	}
}

func TestP11_4(t *testing.T) {
	p, _ := Parse("let a = 1; let b = a; let c = a + b; z^2 + b")
	for at, want := range []int{1, 1, 1, 1, 2, 1, 2, 1, 3} {
		if n, e := High(p, at); n != want || e != api.OK {
			t.Error(at, n, e)
		}
	}
	for _, at := range []int{-1, 9, math.MaxInt, math.MinInt} {
		if n, e := High(p, at); n != 0 || e != api.ErrArg {
			t.Error(at, n, e)
		}
	}
	if l, e := Spare(p); !slices.Equal(l, []string{"c"}) || e != api.OK {
		t.Error(l, e)
	}
	q, _ := Parse("let a = 1; let b = a; z")
	if l, _ := Spare(q); !slices.Equal(l, []string{"b"}) {
		t.Error(l)
	}
	if Same(p, q) || !Same(p, p) || !Same(api.Prog{}, api.Prog{Nodes: []api.Node{}, Lets: []api.Let{}}) || Same(api.Prog{}, api.Prog{Map: 1}) || Same(api.Prog{}, api.Prog{Lets: []api.Let{{}}}) || Same(api.Prog{Nodes: []api.Node{{N: 1}}}, api.Prog{Nodes: []api.Node{{N: 2}}}) {
		t.Error("Same")
	}
}

func TestP11_6_P11_7_P11_8(t *testing.T) {
	for _, s := range []string{"let c=-0.5+i;z^2+c", "z^2+d", "(z+1", "z^65+1"} {
		p, f := Parse(s)
		spaced, places := "", map[int]int{}
		for k := range Tokens(s) {
			spaced += " # n (\n\t"
			places[len(spaced)] = k.At
			spaced += k.Text
		}
		places[len(spaced)] = len(s)
		q, h := Parse(spaced)
		if !Same(p, q) || (f == nil) != (h == nil) || f != nil && (f.Code != h.Code || places[h.At] != f.At) {
			t.Error(s, f, h)
		}
		if f == nil {
			if _, h := Parse(s + " z ?"); h == nil || h.At != len(s)+1 || h.Code != api.ErrWant {
				t.Error(s, h)
			}
		} else if _, h := Parse(s[:min(f.At+2, len(s))] + "+?"); h == nil || f.At < len(s) && *h != *f {
			t.Error(s, f, h)
		}
		met := map[int]int{p.Map: 1}
		for _, l := range p.Lets {
			met[l.At]++
		}
		for i, n := range p.Nodes {
			if n.Kind >= api.NodeNeg {
				met[n.A]++
				if n.A >= i || n.B >= i {
					t.Error(s, i)
				}
				if n.Kind != api.NodeNeg && n.Kind != api.NodePow {
					met[n.B]++
				}
			}
		}
		for i := range p.Nodes {
			if met[i] != 1 {
				t.Error(s, i, met[i])
			}
		}
	}
}
