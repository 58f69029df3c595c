package mosaic

import (
	"iter"
	"sync"

	"filigree/api"
)

// result is a tile that a worker has drawn.
type result struct {
	number int
	tile   api.Tile
}

// crew is workers, and who hands out to them.
type crew struct {
	jobs  chan int      // the numbers that are to be drawn
	done  chan result   // what was drawn
	told  chan result   // the same, in the order of the numbers
	over  chan struct{} // is closed when nothing more is wanted
	group sync.WaitGroup
}

// ahead is how many tiles a worker may have drawn ahead of the one that is wanted next.
const ahead = 4

// drawn tells the tiles of those numbers in their order, drawn by so many workers; behind it none of these runs any more.
func (x *Mosaic) drawn(workers int, numbers []int) iter.Seq2[int, api.Tile] {
	return func(yield func(int, api.Tile) bool) {
		c := &crew{jobs: make(chan int), done: make(chan result), told: make(chan result), over: make(chan struct{})}
		defer func() {
			close(c.over)
			c.group.Wait()
		}()
		for range min(workers, len(numbers)) {
			c.start(func() { c.work(x.draw) })
		}
		c.start(func() { c.hand(workers, numbers) })
		for r := range c.told {
			if !yield(r.number, r.tile) {
				return
			}
		}
	}
}

func (c *crew) start(do func()) {
	c.group.Add(1)
	go func() {
		defer c.group.Done()
		do()
	}()
}

func (c *crew) work(draw func(int) api.Tile) {
	for n := range c.jobs {
		r := result{n, draw(n)}
		select {
		case c.done <- r:
		case <-c.over:
			return
		}
	}
}

// hand gives out the numbers, gathers what is drawn, and tells it in order. What is not possible just now stands as a nil channel.
func (c *crew) hand(workers int, numbers []int) {
	defer close(c.told)
	defer close(c.jobs)
	ready := map[int]result{}
	given, next := 0, 0
	for next < len(numbers) {
		var jobs chan int
		var told chan result
		var number int
		if given < len(numbers) && given < next+ahead*workers {
			jobs, number = c.jobs, numbers[given]
		}
		first, has := ready[numbers[next]]
		if has {
			told = c.told
		}
		select {
		case jobs <- number:
			given++
		case r := <-c.done:
			ready[r.number] = r
		case told <- first:
			delete(ready, first.number)
			next++
		case <-c.over:
			return
		}
	}
}
