package picture

import (
	"math"
	"math/rand"
	"slices"
	"strings"
	"testing"

	"filigree/api"
	"filigree/status"
	"filigree/tile"
	"filigree/trap"
	"filigree/view"
)

var none = api.Picture{}

func pic(across int, greys ...uint8) api.Picture {
	return api.Picture{Across: across, Down: len(greys) / across, Greys: greys}
}

func wrong() []api.Picture {
	return []api.Picture{{}, {Across: 0, Down: 5}, {Across: 2, Down: 2, Greys: make([]uint8, 3)}, {Across: -1, Down: -1, Greys: make([]uint8, 1)}, {Across: 1, Down: 0}, {Across: 1 << 32, Down: 1 << 32}, {Across: 1<<22 + 1, Down: 1, Greys: make([]uint8, 1<<22+1)}, {Across: 2, Down: 2, Greys: make([]uint8, 5)}}
}

func random(r *rand.Rand, across, down int) api.Picture {
	p := blank(across, down)
	for i := range p.Greys {
		p.Greys[i] = uint8(r.Intn(2) * r.Intn(256))
	}
	return p
}

func TestP29_1_P29_7(t *testing.T) {
	for _, c := range []struct {
		w    api.Witness
		grey uint8
	}{{api.Witness{Told: api.Out, Step: 3}, 252}, {api.Witness{Told: api.Out, Step: 100}, 155}, {api.Witness{Told: api.Out, Step: 101}, 155}, {api.Witness{Told: api.Out, Step: 1000}, 155}, {api.Witness{Told: api.Out}, 255}, {api.Witness{Told: api.Out, Step: -7}, 255}, {api.Witness{Told: api.Out, Step: math.MaxInt}, 155}, {api.Witness{Told: api.Out, Step: math.MinInt}, 255}, {api.Witness{Told: api.In}, 0}, {api.Witness{Told: api.In, Step: 100}, 100}, {api.Witness{Told: api.In, Step: 1000}, 100}, {api.Witness{Told: api.In, Step: -1}, 0}, {api.Witness{Told: api.In, Step: 257}, 100}, {api.Witness{}, 128}, {api.Witness{Told: 3, Step: 5}, 128}, {api.Witness{Step: 9}, 128}} {
		if g := Shade(c.w); g != c.grey {
			t.Error(c, g)
		}
		if told, ok := Told(Shade(c.w)); c.w.Told <= api.Out && (told != c.w.Told || !ok) {
			t.Error(c, told, ok)
		}
	}
	for g := range 256 {
		want, ok := api.Unknown, g == 128
		if g <= 100 {
			want, ok = api.In, true
		} else if g >= 155 {
			want, ok = api.Out, true
		}
		if told, is := Told(uint8(g)); told != want || is != ok {
			t.Error(g, told, is)
		}
	}
	for _, p := range wrong() {
		c, e1 := Count(p)
		g, e2 := At(p, 9, 9)
		x, e3 := Crop(p, 9, 9, 0, 0)
		s, e4 := Write(p)
		y, e5 := Beside(pic(1, 1), p)
		z, e6 := Below(pic(1, 1), p)
		if Check(p) != api.ErrPicture || c != [256]int{} || g != 0 || s != "" || !Same(x, none) || !Same(y, none) || !Same(z, none) || min(e1, e2, e3, e4, e5, e6) != api.ErrPicture || max(e1, e2, e3, e4, e5, e6) != api.ErrPicture {
			t.Error(p.Across, p.Down, e1, e2, e3, e4, e5, e6)
		}
		for range Rows(p) {
			t.Error("rows of none")
		}
	}
	if Check(blank(1<<22, 1)) != api.OK || Check(blank(1, 1<<22)) != api.OK || Check(pic(2, 1, 2, 3, 4)) != api.OK {
		t.Error("Check")
	}
}

func TestP29_2(t *testing.T) {
	p := pic(3, 1, 2, 3, 4, 5, 6)
	for k := range 2 {
		for i := range 3 {
			if g, e := At(p, i, k); g != uint8(3*k+i+1) || e != api.OK {
				t.Error(i, k, g, e)
			}
		}
	}
	for _, at := range [][2]int{{3, 0}, {0, 2}, {-1, 0}, {0, -1}, {math.MaxInt, math.MaxInt}, {math.MinInt, 0}} {
		if g, e := At(p, at[0], at[1]); g != 0 || e != api.ErrArg {
			t.Error(at, g, e)
		}
	}
	n := 0
	for k, row := range Rows(p) {
		if k != n || !slices.Equal(row, p.Greys[3*k:3*k+3]) {
			t.Error(k, row)
		}
		row[0] = 99
		_ = append(row, 77)
		n++
	}
	if n != 2 || !slices.Equal(p.Greys, []uint8{1, 2, 3, 4, 5, 6}) {
		t.Error("what is told may be written over", p)
	}
	seq := Rows(p)
	p.Greys[0] = 9
	for _, row := range seq {
		if row[0] != 1 {
			t.Error("kept")
		}
		break
	}
	x := api.Tile{Rect: api.Rect{Column: 4, Row: 9, Across: 2, Down: 2}, Cells: []api.Witness{{Told: api.Out, Step: 5}, {}, {Told: api.In, Step: 7}, {Told: api.Out}}}
	if q, e := Of(x); !Same(q, pic(2, 250, 128, 7, 255)) || e != api.OK {
		t.Error(q, e)
	}
	for _, x := range []api.Tile{{}, {Rect: x.Rect}, {Rect: api.Rect{Column: -1, Across: 1, Down: 1}, Cells: make([]api.Witness, 1)}} {
		if q, e := Of(x); !Same(q, none) || e != api.ErrPicture {
			t.Error(e)
		}
	}
}

func TestP29_3_P29_6(t *testing.T) {
	a, b := pic(2, 1, 2, 3, 4), pic(1, 5, 6)
	if p, e := Beside(a, b); !Same(p, pic(3, 1, 2, 5, 3, 4, 6)) || e != api.OK {
		t.Error(p, e)
	}
	if p, e := Below(a, pic(2, 7, 8)); !Same(p, pic(2, 1, 2, 3, 4, 7, 8)) || e != api.OK {
		t.Error(p, e)
	}
	for _, do := range []func(...api.Picture) (api.Picture, api.Errno){Beside, Below} {
		if p, e := do(); !Same(p, none) || e != api.ErrArg {
			t.Error(e)
		}
		p, e := do(a)
		if !Same(p, a) || e != api.OK {
			t.Error(e)
		}
		if p.Greys[0] = 99; a.Greys[0] != 1 {
			t.Error("shares its memory")
		}
	}
	if p, e := Beside(a, pic(1, 1, 2, 3)); !Same(p, none) || e != api.ErrFit {
		t.Error(e)
	}
	if p, e := Beside(a, pic(1, 1, 2, 3), none); !Same(p, none) || e != api.ErrPicture {
		t.Error(e)
	}
	if p, e := Below(a, pic(3, 1, 2, 3)); !Same(p, none) || e != api.ErrFit {
		t.Error(e)
	}
	half := blank(1<<21, 1)
	for _, do := range []func(...api.Picture) (api.Picture, api.Errno){Beside, Below} {
		if p, e := do(half, half, half); !Same(p, none) || e != api.ErrLong {
			t.Error(e)
		}
		if p, e := do(half, half); len(p.Greys) != 1<<22 || e != api.OK {
			t.Error(e)
		}
	}
	r := rand.New(rand.NewSource(40))
	for range 50 {
		p := random(r, 2+r.Intn(20), 2+r.Intn(20))
		x, y := 1+r.Intn(p.Across-1), 1+r.Intn(p.Down-1)
		crop := func(column, row, across, down int) api.Picture {
			q, e := Crop(p, column, row, across, down)
			if e != api.OK {
				t.Fatal(e)
			}
			for k := range down {
				for i := range across {
					g, _ := At(p, column+i, row+k)
					if h, _ := At(q, i, k); g != h {
						t.Error("Crop")
					}
				}
			}
			return q
		}
		if q, e := Beside(crop(0, 0, x, p.Down), crop(x, 0, p.Across-x, p.Down)); !Same(p, q) || e != api.OK {
			t.Error("Beside")
		}
		if q, e := Below(crop(0, 0, p.Across, y), crop(0, y, p.Across, p.Down-y)); !Same(p, q) || e != api.OK {
			t.Error("Below")
		}
		for _, c := range [][4]int{{-1, 0, 1, 1}, {0, -1, 1, 1}, {0, 0, 0, 1}, {0, 0, 1, 0}, {0, 0, p.Across + 1, 1}, {0, 0, 1, p.Down + 1}, {1, 0, p.Across, 1}, {0, 1, 1, p.Down}, {math.MaxInt, 0, 1, 1}, {0, 0, math.MaxInt, 1}, {0, 0, -1, -1}, {p.Across, 0, 1, 1}} {
			if q, e := Crop(p, c[0], c[1], c[2], c[3]); !Same(q, none) || e != api.ErrArg {
				t.Error(c, e)
			}
		}
	}
}

func TestP29_3_P29_6Sheet(t *testing.T) {
	m := api.Map{P: api.Poly{-1, 0, 1}, Q: api.Poly{1}}
	x, _ := trap.Around(m, 0, 2)
	j, _ := status.New(m, 30, x)
	w, _ := view.Make(0, -2, 13, 9)
	whole, _ := tile.Draw(j, w, api.Rect{Across: 13, Down: 9})
	want, _ := Of(whole)
	for _, g := range []api.Grid{{Window: w, Wide: 4, High: 3}, {Window: w, Wide: 13, High: 9}, {Window: w, Wide: 1, High: 100}, {Window: w, Wide: 5, High: 5}} {
		var l []api.Picture
		for _, r := range tile.Rects(g) {
			cut, _ := tile.Cut(whole, r)
			p, _ := Of(cut)
			l = append(l, p)
			if q, e := Crop(want, r.Column, r.Row, r.Across, r.Down); !Same(p, q) || e != api.OK {
				t.Error("Crop at a tile's place", e)
			}
		}
		if p, e := Sheet(g, l...); !Same(p, want) || e != api.OK {
			t.Error(e)
		}
		if p, e := Sheet(g, l[1:]...); !Same(p, none) || e != api.ErrFit {
			t.Error(e)
		}
		if p, e := Sheet(g, append(slices.Clone(l), l[0])...); !Same(p, none) || e != api.ErrFit {
			t.Error(e)
		}
		odd := slices.Clone(l)
		odd[0] = blank(l[0].Down, l[0].Across)
		if p, e := Sheet(g, odd...); odd[0].Across != odd[0].Down && (!Same(p, none) || e != api.ErrFit) {
			t.Error(e)
		}
		odd[0] = none
		if p, e := Sheet(g, odd...); !Same(p, none) || e != api.ErrPicture {
			t.Error(e)
		}
	}
	if p, e := Sheet(api.Grid{}, none); !Same(p, none) || e != api.ErrWindow {
		t.Error(e)
	}
	if p, e := Sheet(api.Grid{Window: w}, none); !Same(p, none) || e != api.ErrArg {
		t.Error(e)
	}
	long, _ := view.Make(0, 0, 2048, 2049)
	g := api.Grid{Window: long, Wide: 256, High: 256}
	var l []api.Picture
	for _, r := range tile.Rects(g) {
		l = append(l, blank(r.Across, r.Down))
	}
	if p, e := Sheet(g, l...); !Same(p, none) || e != api.ErrLong {
		t.Error(e)
	}
}

func TestP29_4(t *testing.T) {
	c, e := Count(pic(3, 7, 7, 9))
	want := [256]int{7: 2, 9: 1}
	if c != want || e != api.OK {
		t.Error(e)
	}
	a := pic(2, 1, 2, 3, 4)
	for _, p := range []api.Picture{pic(2, 1, 2, 3, 5), pic(4, 1, 2, 3, 4), pic(1, 1, 2, 3, 4), none} {
		if Same(a, p) {
			t.Error(p)
		}
	}
	if !Same(a, pic(2, 1, 2, 3, 4)) || !Same(none, api.Picture{Greys: []uint8{}}) {
		t.Error("Same")
	}
}

func TestP29_5_P29_8(t *testing.T) {
	if s, e := Write(pic(3, 7, 7, 9)); s != "FLP\x01\x00\x00\x00\x03\x00\x00\x00\x01\x02\x07\x01\x09" || e != api.OK {
		t.Errorf("%q", s)
	}
	r := rand.New(rand.NewSource(41))
	l := []api.Picture{blank(1000, 2), blank(255, 1), blank(256, 3), blank(510, 1), blank(1<<22, 1), blank(1, 5000), pic(1, 3)}
	for range 30 {
		l = append(l, random(r, 1+r.Intn(30), 1+r.Intn(30)))
	}
	met := map[string]int{}
	for i, p := range l {
		s, e := Write(p)
		q, f := Read(s)
		if e != api.OK || f != api.OK || !Same(p, q) || len(s) > 12+2*len(p.Greys) {
			t.Error(p.Across, p.Down, e, f)
		}
		if k, ok := met[s]; ok && !Same(l[k], p) {
			t.Error("the same bytes")
		}
		met[s] = i
	}
	head := "FLP\x01\x00\x00\x00\x03\x00\x00\x00\x01"
	for _, s := range []string{"", "FLP", head, head + "\x01\x07\x01\x07\x01\x09", head + "\x02\x07\x01\x09\x00", head + "\x02\x07\x01\x09\x01\x09", head + "\x02\x07\x00\x05\x01\x09", head + "\x02\x07", head + "\x03", "FLQ" + head[3:] + "\x03\x07", "FLP\x02" + head[4:] + "\x03\x07", "FLP\x01\x00\x00\x00\x00\x00\x00\x00\x01", "FLP\x01\x00\x00\x00\x00\x00\x00\x00\x00", "FLP\x01\xff\xff\xff\xff\xff\xff\xff\xff\x01\x01", "FLP\x01\x00\x00\x00\x01\x00\x00\x00\x02\x02\x07", head + "\x04\x07", head + strings.Repeat("\xff\x07", 40000)} {
		if p, e := Read(s); !Same(p, none) || e != api.ErrRuns {
			t.Errorf("%.20q %v", s, e)
		}
	}
	if p, e := Read("FLP\x01\x00\x00\x00\x01\x00\x00\x00\x02\x01\x07\x01\x07"); !Same(p, pic(1, 7, 7)) || e != api.OK {
		t.Error("a run ends with its row", e)
	}
	s, _ := Write(pic(3, 7, 7, 9, 1, 1, 1))
	for i := range s {
		for x := range 256 {
			b := s[:i] + string([]byte{byte(x)}) + s[i+1:]
			if p, e := Read(b); e == api.OK {
				if again, _ := Write(p); again != b {
					t.Error(i, x)
				}
			}
		}
	}
}
