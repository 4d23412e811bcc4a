package bank

import (
	"slices"
	"strings"

	"tidemark/api"
	"tidemark/cluster"
	"tidemark/route"
)

// happening is what a client has met: an act of its was asked, its answer came, or it was killed.
type happening struct {
	kind   string
	answer api.Answer
}

// model is the chapter read a second time: it keeps what each client has met, and tells from the beginning on what comes of it.
type model struct {
	c         *cluster.Cluster
	config    api.Config
	transfers []Transfer
	met       [][]happening   // by client
	events    int             // that were taken
	flight    int             // messages in it
	latest    api.Answer      // the OK commit with the greatest stamp
	owner     map[api.Txn]int // the transfer that a transaction is a try at
}

// newModel takes a cluster whose accounts are laid down.
func newModel(c *cluster.Cluster, transfers []Transfer) *model {
	r := c.Result()
	m := &model{c: c, config: r.Config, transfers: transfers, met: make([][]happening, r.Config.Clients), events: len(r.Events), owner: map[api.Txn]int{}}
	for _, e := range r.Events {
		if e.Answer.Op.Kind == api.OpCommit {
			m.latest = e.Answer
		}
	}
	return m
}

// standing is where a client is: at which transfer (-1: all have ended), in which phase, what it knows.
type standing struct {
	transfer int
	phase    string
	waits    bool
	from, to string
	status   map[int]api.Errno // of the transfers that were dealt to the client
	begun    map[int]int
}

// tell goes over all that a client has met.
func (m *model) tell(client int) standing {
	s := standing{transfer: client, phase: "begin", status: map[int]api.Errno{}, begun: map[int]int{}}
	for i := client; i < len(m.transfers); i += m.config.Clients {
		s.status[i], s.begun[i] = api.ErrWait, 0
	}
	for _, h := range m.met[client] {
		if s.transfer < len(m.transfers) {
			m.goOn(&s, h)
		}
	}
	if s.transfer >= len(m.transfers) {
		s.transfer = -1
	}
	return s
}

func (m *model) goOn(s *standing, h happening) {
	end := func(status api.Errno) {
		s.status[s.transfer] = status
		s.transfer += m.config.Clients
		s.phase = "begin"
	}
	failed := func() {
		s.phase = "begin"
		if s.begun[s.transfer] == 20 {
			end(api.ErrTries)
		}
	}
	switch h.kind {
	case "asked":
		s.waits = true
		if s.phase == "begin" {
			s.begun[s.transfer]++
		}
		return
	case "killed":
		lost := s.phase == "commit" && s.waits
		s.waits = false
		if lost {
			end(api.ErrLost)
		} else if s.phase != "begin" {
			failed()
		}
		return
	}
	s.waits = false
	switch s.phase {
	case "refuse":
		end(api.ErrFunds)
	case "drop":
		failed()
	case "begin", "commit":
		switch {
		case h.answer.Status != api.OK:
			failed()
		case s.phase == "begin":
			s.phase = "from"
		default:
			end(api.OK)
		}
	case "from", "to":
		if h.answer.Status != api.OK || len(h.answer.Pairs) == 0 || !isAmount(h.answer.Pairs[0].Value) {
			s.phase = "drop"
			return
		}
		if s.phase == "from" {
			s.from, s.phase = h.answer.Pairs[0].Value, "to"
			return
		}
		s.to, s.phase = h.answer.Pairs[0].Value, "take"
		if atoi(s.from) < m.transfers[s.transfer].Amount {
			s.phase = "refuse"
		}
	case "take", "give":
		switch {
		case h.answer.Status != api.OK:
			s.phase = "drop"
		case s.phase == "take":
			s.phase = "give"
		default:
			s.phase = "commit"
		}
	}
}

func isAmount(text string) bool {
	if text == "" || len(text) > 15 || text[0] == '0' && text != "0" {
		return false
	}
	return strings.Trim(text, "0123456789") == ""
}

func atoi(text string) int {
	n := 0
	for _, digit := range text {
		n = 10*n + int(digit-'0')
	}
	return n
}

// act gives the next line of a client that stands so.
func (m *model) act(client int, s standing) string {
	t, c := m.transfers[s.transfer], number(m.config.Shards+client)
	return map[string]string{
		"begin":  "begin " + c + " rw " + m.latest.Token,
		"from":   "get " + c + " " + route.Word(t.From),
		"to":     "get " + c + " " + route.Word(t.To),
		"take":   "put " + c + " " + route.Word(t.From) + " " + number(atoi(s.from)-t.Amount),
		"give":   "put " + c + " " + route.Word(t.To) + " " + number(atoi(s.to)+t.Amount),
		"commit": "commit " + c,
		"drop":   "abort " + c,
		"refuse": "abort " + c,
	}[s.phase]
}

func (m *model) step(line string) api.Errno {
	for client := range m.met {
		if line == "go "+number(m.config.Shards+client) {
			return m.proceed(client)
		}
	}
	first := strings.Split(line, " ")[0]
	if !slices.Contains(strings.Fields("wall take drop copy sync tick crash mark save kill calm round"), first) {
		return api.ErrLine
	}
	e := m.c.Step(line)
	m.take()
	for client := range m.met {
		if e == api.OK && line == "kill "+number(m.config.Shards+client) {
			m.met[client] = append(m.met[client], happening{kind: "killed"})
		}
	}
	return e
}

func (m *model) proceed(client int) api.Errno {
	s := m.tell(client)
	switch {
	case s.transfer < 0:
		return api.ErrNone
	case s.waits:
		return api.ErrWait
	}
	e := m.c.Step(m.act(client, s))
	if e == api.OK {
		m.met[client] = append(m.met[client], happening{kind: "asked"})
		m.take()
	}
	return e
}

// take notes the events that are new.
func (m *model) take() {
	r := m.c.Result()
	for _, e := range r.Events[m.events:] {
		a := e.Answer
		client := int(a.Client) - m.config.Shards
		if a.Op.Kind == api.OpBegin && a.Status == api.OK {
			m.owner[a.Txn] = m.tell(client).transfer
		}
		m.met[client] = append(m.met[client], happening{"answered", a})
		if a.Op.Kind == api.OpCommit && a.Status == api.OK && above(a.At, m.latest.At) {
			m.latest = a
		}
	}
	m.events, m.flight = len(r.Events), r.Flight
}

func above(a, b api.Stamp) bool {
	if a.Wall != b.Wall {
		return a.Wall > b.Wall
	}
	if a.Logical != b.Logical {
		return a.Logical > b.Logical
	}
	return a.Node > b.Node
}

// report tells of all transfers how they stand and how often they were begun.
func (m *model) report() ([]api.Errno, []int) {
	status, begun := make([]api.Errno, len(m.transfers)), make([]int, len(m.transfers))
	for client := range m.met {
		s := m.tell(client)
		for i := range s.status {
			status[i], begun[i] = s.status[i], s.begun[i]
		}
	}
	return status, begun
}
