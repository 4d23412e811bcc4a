package bank

import (
	"strconv"
	"strings"

	"tidemark/api"
	"tidemark/route"
)

// maxTries is how often a transfer is begun at most.
const maxTries = 20

// phase of a try: what its client does next; the last three are ways in which a try ends.
type phase int

const (
	atBegin phase = iota
	atFrom
	atTo
	atTake
	atGive
	atCommit
	atDrop
	atRefuse
	failed
	through
	refused
)

// follows tells what comes behind each phase: when its act is answered OK, and when it is answered with an error.
var follows = [...]struct{ ok, fault phase }{
	atBegin:  {atFrom, failed},
	atFrom:   {atTo, atDrop},
	atTo:     {atTake, atDrop},
	atTake:   {atGive, atDrop},
	atGive:   {atCommit, atDrop},
	atCommit: {through, failed},
	atDrop:   {failed, failed},
	atRefuse: {refused, refused},
}

// client is one of the cluster's, at the transfers that were dealt to it.
type client struct {
	number string  // its node's, as lines have it
	todo   []*deal // those that have not ended: it is at the first
	phase  phase   // of the try at that one
	waits  bool    // whether an operation of its waits
	from   int     // what the try's accounts have, once that was read
	to     int
}

// act gives the line of the client's next act. A begin presents the token.
func (c *client) act(token string) string {
	d := c.todo[0]
	acts := [...]func() string{ // in here: the language's rules keep tables of functions off the package level
		atBegin:  func() string { return c.line("begin", "rw", token) },
		atFrom:   func() string { return c.line("get", route.Word(d.From)) },
		atTo:     func() string { return c.line("get", route.Word(d.To)) },
		atTake:   func() string { return c.line("put", route.Word(d.From), strconv.Itoa(c.from-d.Amount)) },
		atGive:   func() string { return c.line("put", route.Word(d.To), strconv.Itoa(c.to+d.Amount)) },
		atCommit: func() string { return c.line("commit") },
		atDrop:   func() string { return c.line("abort") },
		atRefuse: func() string { return c.line("abort") },
	}
	return acts[c.phase]()
}

// line gives a line of the client's: a command's name, its number, and the fields behind it.
func (c *client) line(name string, fields ...string) string {
	return strings.Join(append([]string{name, c.number}, fields...), " ")
}

// asked takes in that the client's act was played.
func (c *client) asked() {
	c.waits = true
	if c.phase == atBegin {
		c.todo[0].tries++
	}
}

// hear takes the answer of the client's act.
func (c *client) hear(a api.Answer) {
	c.waits = false
	switch next := follows[c.phase]; {
	case a.Status != api.OK || a.Op.Kind == api.OpGet && !c.note(a.Pairs):
		c.enter(next.fault)
	case c.phase == atTo && c.from < c.todo[0].Amount:
		c.enter(atRefuse)
	default:
		c.enter(next.ok)
	}
}

// note keeps what a get has told of an account, if that is an amount.
func (c *client) note(pairs []api.Pair) bool {
	if len(pairs) == 0 {
		return false
	}
	amount, ok := amountOf(pairs[0].Value)
	if c.phase == atFrom {
		c.from = amount
	} else {
		c.to = amount
	}
	return ok
}

// enter takes the try to its next phase, or to its end.
func (c *client) enter(next phase) {
	switch next {
	case failed:
		c.fail()
	case through:
		c.end(api.OK)
	case refused:
		c.end(api.ErrFunds)
	default:
		c.phase = next
	}
}

// fail takes in that the try has failed: there is another one, if there may be.
func (c *client) fail() {
	c.phase = atBegin
	if c.todo[0].tries >= maxTries {
		c.end(api.ErrTries)
	}
}

// end ends the transfer that the client is at.
func (c *client) end(status api.Errno) {
	c.todo[0].status = status
	c.todo = c.todo[1:]
	c.phase = atBegin
}

// killed takes in that the client was killed. A transaction whose commit waits may be committed all the same.
func (c *client) killed() {
	switch {
	case c.phase == atCommit && c.waits:
		c.end(api.ErrLost)
	case c.phase != atBegin:
		c.fail()
	}
	c.waits = false
}
