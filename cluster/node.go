package cluster

import (
	"tidemark/api"
	"tidemark/disk"
	"tidemark/session"
	"tidemark/shard"
)

// node is a shard or a client, to whom it makes no difference here which it is.
type node interface {
	Clock(wall uint64)
	Tick() []api.Msg
	take(m api.Msg) ([]api.Msg, []api.Event) // the events have no Answered yet
}

// server is a shard, which a crash replaces, and its disk, which outlasts it.
type server struct {
	*shard.Shard
	number uint32
	config api.Config
	disk   *disk.Disk
}

// newServer brings a shard up on a disk that has these bytes in its slot 0.
func newServer(number uint32, config api.Config, bytes string) (*server, api.Errno) {
	s := &server{number: number, config: config, disk: disk.New(config.Capacity)}
	if e := s.disk.Append(0, bytes); e != api.OK {
		return nil, e
	}
	s.disk.Sync()
	if e := s.open(); e != api.OK {
		return nil, e
	}
	return s, api.OK
}

// open brings the shard up anew from its disk.
func (s *server) open() api.Errno {
	up, e := shard.Open(s.number, s.config, s.disk)
	if e == api.OK {
		s.Shard = up
	}
	return e
}

// crash loses what the disk loses, and all that the shard had besides.
func (s *server) crash(keep0, keep1 int) {
	s.disk.Crash(keep0, keep1)
	s.open() // nothing refuses it: what a crash leaves of a log that was open is a beginning of it
}

func (s *server) take(m api.Msg) ([]api.Msg, []api.Event) { return s.Deliver(m), nil }

// client is a session, and the line at which the operation was asked that waits there.
type client struct {
	*session.Session
	asked int
}

func newClient(number uint32, config api.Config) *client {
	return &client{Session: session.New(number, config)}
}

// ask asks an operation at a line. One that is refused while another waits leaves that one's line as it is.
func (k *client) ask(op api.Op, line int) ([]api.Msg, []api.Event) {
	out, answers := k.Do(op)
	if len(answers) == 0 {
		k.asked = line
	}
	return out, eventsOf(answers, line)
}

func (k *client) take(m api.Msg) ([]api.Msg, []api.Event) {
	out, answers := k.Deliver(m)
	return out, eventsOf(answers, k.asked)
}

// eventsOf gives the events of operations that were asked at a line.
func eventsOf(answers []api.Answer, asked int) []api.Event {
	var events []api.Event
	for _, a := range answers {
		events = append(events, api.Event{Asked: asked, Answer: a})
	}
	return events
}
