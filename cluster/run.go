package cluster

import (
	"strings"

	"tidemark/api"
)

// Run plays a whole script (P17.8).
func Run(config, script string) api.Result {
	c, e := Start(config)
	if e != api.OK {
		return api.Result{Status: e}
	}
	lines := make(chan string)
	go c.cut(script, lines)
	for line := range lines {
		if c.Step(line) == api.ErrDone {
			c.Cancel() // no later line is played either, so no more of them need come
		}
	}
	return c.Result()
}

// cut sends a script's lines one by one, as long as the run is not cancelled. That it has closed the channel is the last that it does: then Run goes on.
func (c *Cluster) cut(script string, lines chan<- string) {
	defer close(lines)
	for line := range strings.SplitSeq(script, "\n") {
		select {
		case lines <- line:
		case <-c.done:
			return
		}
	}
}
