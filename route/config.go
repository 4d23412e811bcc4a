package route

import (
	"strconv"

	"tidemark/api"
)

// Parse gives the configuration of a text (P12.1).
func Parse(text string) (api.Config, api.Errno) {
	c, err := read(text)
	if err != nil {
		return api.Config{}, reason(err)
	}
	return c, api.OK
}

// Text gives a configuration's text (P12.2).
func Text(c api.Config) (string, api.Errno) {
	if !mayBe(c) {
		return "", api.ErrArg
	}
	text := lineOf("shards", strconv.Itoa(c.Shards)) +
		lineOf("clients", strconv.Itoa(c.Clients)) +
		lineOf("capacity", strconv.Itoa(c.Capacity)) +
		lineOf("park", strconv.Itoa(c.Park)) +
		lineOf("window", strconv.FormatUint(c.Window, 10))
	for _, split := range c.Splits {
		text += lineOf("split", Word(split))
	}
	return text, api.OK
}

func lineOf(name, word string) string { return name + " " + word + "\n" }

// mayBe tells whether a configuration is valid.
func mayBe(c api.Config) bool {
	return within(c.Shards, 1, api.MaxShards) &&
		within(c.Clients, 1, api.MaxClients) &&
		within(c.Capacity, api.MinCapacity, api.MaxCapacity) &&
		within(c.Park, 0, api.MaxPark) &&
		len(c.Splits) == c.Shards-1 && risingKeys(c.Splits)
}

func within(n, least, most int) bool { return least <= n && n <= most }

func risingKeys(list []string) bool {
	last := "" // below every key
	for _, key := range list {
		if len(key) > api.MaxKey || key <= last {
			return false
		}
		last = key
	}
	return true
}
