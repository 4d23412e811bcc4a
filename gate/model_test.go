package gate

import (
	"strings"

	"tidemark/api"
	"tidemark/session"
)

// model is a gate as P21.5 to P21.7 and P21.11 tell it: all bytes that ever came, read anew each time, and a session whose operations are asked one behind the other.
type model struct {
	s       *session.Session
	bytes   string
	begun   int // requests that have had their turn
	replied int
}

// requests gives all that were read.
func (m *model) requests() []string {
	var list []string
	lines := strings.Split(m.bytes, "\n")
	for _, line := range lines[:len(lines)-1] {
		if strings.HasSuffix(line, "\r") {
			line = line[:len(line)-1]
		}
		if line != "" {
			list = append(list, line)
		}
	}
	return list
}

func (m *model) pending() int { return len(m.requests()) - m.replied }

// goOn gives each request its turn when the one ahead of it is answered.
func (m *model) goOn(text string, out []api.Msg) (string, []api.Msg) {
	requests := m.requests()
	for m.begun == m.replied && m.begun < len(requests) {
		line := requests[m.begun]
		m.begun++
		op, there := plainParse(line)
		if !there {
			m.replied++
			text += "error request\n"
			continue
		}
		sent, answers := m.s.Do(op)
		out = append(out, sent...)
		text += m.told(answers)
	}
	return text, out
}

func (m *model) told(answers []api.Answer) string {
	text := ""
	for _, a := range answers {
		m.replied++
		text += Reply(a) + "\n"
	}
	return text
}

func (m *model) input(chunk string) (string, []api.Msg) {
	m.bytes += chunk
	return m.goOn("", nil)
}

func (m *model) deliver(x api.Msg) (string, []api.Msg) {
	out, answers := m.s.Deliver(x)
	return m.goOn(m.told(answers), out)
}
