package route

import (
	"errors"
	"strconv"
	"strings"

	"tidemark/api"
)

// draft is what the lines of a configuration's text have said so far.
type draft struct {
	shards, clients, capacity, park, window field
	splits                                  []string
}

// field is one of the numbers that must stand once.
type field struct {
	said  bool
	value uint64
}

// read gives the configuration that a text says, or a fault.
func read(text string) (api.Config, error) {
	if len(text) > api.MaxConfig {
		return api.Config{}, fault{cause: errForm}
	}
	var d draft
	if err := d.takeAll(strings.Split(text, "\n")); err != nil {
		return api.Config{}, err
	}
	c := d.config()
	if !mayBe(c) {
		return api.Config{}, fault{cause: errLimit}
	}
	return c, nil
}

// takeAll takes lines to the last, even behind a number that is beyond all limits: a fault of the form, wherever it stands, is told ahead of one of a limit.
func (d *draft) takeAll(lines []string) error {
	var beyond error
	for i, line := range lines {
		err := d.take(line)
		if err == nil {
			continue
		}
		err = fault{line: i + 1, cause: err}
		if !errors.Is(err, errLimit) {
			return err
		}
		beyond = err
	}
	if !d.whole() {
		return fault{cause: errForm}
	}
	return beyond
}

// take takes a line. Of one without a blank the word is empty, and the empty text is neither a number nor a word.
func (d *draft) take(line string) error {
	if line == "" || line[0] == '#' {
		return nil
	}
	name, word, _ := strings.Cut(line, " ")
	switch name {
	case "shards":
		return d.shards.take(word)
	case "clients":
		return d.clients.take(word)
	case "capacity":
		return d.capacity.take(word)
	case "park":
		return d.park.take(word)
	case "window":
		return d.window.take(word)
	case "split":
		return d.takeSplit(word)
	}
	return errForm
}

func (d *draft) takeSplit(word string) error {
	split, e := Unword(word)
	if e != api.OK {
		return errForm
	}
	d.splits = append(d.splits, split)
	return nil
}

// whole tells whether all stands that must.
func (d *draft) whole() bool {
	return d.shards.said && d.clients.said && d.capacity.said && d.park.said && d.window.said
}

// config gives what was said, valid or not.
func (d *draft) config() api.Config {
	return api.Config{
		Shards:   d.shards.small(),
		Clients:  d.clients.small(),
		Splits:   d.splits,
		Capacity: d.capacity.small(),
		Park:     d.park.small(),
		Window:   d.window.value,
	}
}

func (f *field) take(word string) error {
	if f.said {
		return errForm
	}
	f.said = true
	n, err := number(word)
	f.value = n
	return err
}

// small gives the value as an int. One that is above every limit stays so, even if an int could not hold it.
func (f *field) small() int { return int(min(f.value, api.MaxCapacity+1)) }

// number reads a number. The digits are looked at first, since strconv is done with a number at the digit that is too many for it, whatever stands behind.
func number(word string) (uint64, error) {
	if strings.Trim(word, "0123456789") != "" || len(word) > 1 && word[0] == '0' {
		return 0, errForm
	}
	n, err := strconv.ParseUint(word, 10, 64)
	if errors.Is(err, strconv.ErrRange) {
		return 0, errLimit
	}
	if err != nil {
		return 0, errForm
	}
	return n, nil
}
