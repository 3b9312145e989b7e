package sand

import (
	"sync"
	"sync/atomic"

	"eden/api"
)

// crowd is a pile that many topple at one time.
type crowd struct {
	ground
	chips, topples [api.MaxPlaces]atomic.Int64
}

func gather(g api.Graph, sink int, chips []int) *crowd {
	c := &crowd{ground: lay(g, sink)}
	for place, n := range chips {
		c.chips[place].Store(int64(n))
	}
	return c
}

// round has each place but the sink looked at once, by whichever worker takes it, and tells whether one toppled.
func (c *crowd) round(workers int) bool {
	places := make(chan int, api.MaxPlaces)
	var toppled atomic.Int64
	var busy sync.WaitGroup
	for range workers {
		busy.Add(1)
		go func() {
			defer busy.Done()
			for place := range places {
				toppled.Add(int64(c.look(place)))
			}
		}()
	}
	for place := range c.places {
		if place != c.sink {
			places <- place
		}
	}
	close(places)
	busy.Wait()
	return toppled.Load() > 0
}

// look topples a place as often as its chips let it, and tells how often. In a round nobody else takes chips from it: what others bring meanwhile stays for the next one.
func (c *crowd) look(place int) int {
	times := c.often(place, int(c.chips[place].Load()))
	if times == 0 {
		return 0
	}
	c.chips[place].Add(-int64(times * c.degree[place]))
	for other, edges := range c.gives[place] {
		if edges > 0 {
			c.chips[other].Add(int64(times * edges))
		}
	}
	c.topples[place].Add(int64(times))
	return times
}

func (c *crowd) piled() api.Piled {
	out := api.Piled{Chips: make([]int, c.places), Topples: make([]int, c.places)}
	for place := range c.places {
		out.Chips[place] = int(c.chips[place].Load())
		out.Topples[place] = int(c.topples[place].Load())
	}
	return out
}
