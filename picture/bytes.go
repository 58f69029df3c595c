package picture

import (
	"filigree/api"
	"filigree/wire"
)

const (
	head   = "FLP\x01"
	maxRun = 255
)

func Write(p api.Picture) (string, api.Errno) {
	if e := Check(p); e != api.OK {
		return "", e
	}
	w := &wire.Writer{}
	w.Text(head)
	w.Number(uint64(p.Across), 4)
	w.Number(uint64(p.Down), 4)
	for _, row := range rows(p) {
		for len(row) > 0 {
			many := run(row)
			w.Number(uint64(many), 1)
			w.Number(uint64(row[0]), 1)
			row = row[many:]
		}
	}
	return string(w.Bytes), api.OK
}

// run is how many greys from the first one on are like it, as many as a run may have.
func run(row []uint8) int {
	many := 0
greys:
	for _, grey := range row {
		if grey != row[0] || many == maxRun {
			break greys
		}
		many++
	}
	return many
}

func Read(s string) (p api.Picture, e api.Errno) {
	defer func() {
		if r := recover(); r != nil {
			if _, ok := r.(wire.Broken); !ok {
				panic(r)
			}
			p, e = api.Picture{}, api.ErrRuns
		}
	}()
	r := &wire.Reader{Rest: s}
	r.Sure(r.Text(len(head)) == head)
	p.Across = r.Int(4)
	p.Down = r.Int(4)
	for len(p.Greys) < api.MaxGreys && r.Rest != "" {
		many, grey := r.Int(1), r.Number(1)
		for range many {
			p.Greys = append(p.Greys, uint8(grey))
		}
	}
	// runs in another form say a picture, but are not what is written of it
	again, e := Write(p)
	r.Sure(e == api.OK && again == s)
	return p, api.OK
}
