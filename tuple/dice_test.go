package tuple

import (
	"math/rand"
	"slices"
	"testing"

	"tidemark/api"
)

// dice draws values, tuples, bytes and texts.
type dice struct{ *rand.Rand }

func newDice(seed int64) dice { return dice{rand.New(rand.NewSource(seed))} }

// integer draws any integer of any size, those at which the number of bytes changes often.
func (d dice) integer() int64 {
	n := int64(1) << d.Intn(64) // the last one is the least integer
	switch d.Intn(4) {
	case 0:
		n = int64(d.Uint64()) >> d.Intn(64)
	case 1:
		n = -n
	}
	return n + int64(d.Intn(3)-1)
}

// text draws a text in which the bytes that mean something elsewhere stand often.
func (d dice) text() string {
	some := "\x00\x00\x00\xff\xff\x01\x02\x30aab%' \x21\x7e\x7f\x80"
	b := make([]byte, d.Intn(1+d.Intn(9)))
	for i := range b {
		b[i] = some[d.Intn(len(some))]
		if d.Intn(4) == 0 {
			b[i] = byte(d.Intn(256))
		}
	}
	return string(b)
}

func (d dice) value() api.Value {
	switch d.Intn(5) {
	case 0:
		return null()
	case 1:
		return flag(d.Intn(2) == 0)
	case 2:
		return number(d.integer())
	}
	return word(d.text())
}

// anyValue draws one that is not valid now and then.
func (d dice) anyValue() api.Value {
	v := d.value()
	switch d.Intn(12) {
	case 0:
		v.Kind += api.ValueKind(d.Intn(9) - 4)
	case 1:
		v.Flag = !v.Flag
	case 2:
		v.Int += int64(d.Intn(3) - 1)
	case 3:
		v.Text = d.text()
	}
	return v
}

func (d dice) tuple() []api.Value {
	var t []api.Value
	for range d.Intn(5) {
		t = append(t, d.value())
	}
	return t
}

func (d dice) anyTuple() []api.Value {
	var t []api.Value
	for range d.Intn(4) {
		t = append(t, d.anyValue())
	}
	return t
}

// near draws a tuple that is like another one: one value is another one, or some are there no more, or more of them.
func (d dice) near(t []api.Value) []api.Value {
	t = slices.Clone(t)
	switch d.Intn(4) {
	case 0:
		return t[:d.Intn(len(t)+1)]
	case 1:
		return append(t, d.tuple()...)
	case 2:
		return t
	}
	if len(t) > 0 {
		v := &t[d.Intn(len(t))]
		switch {
		case v.Kind == api.ValText:
			v.Text = v.Text[:d.Intn(len(v.Text)+1)] + d.text()
		case v.Kind == api.ValInt:
			v.Int += int64(d.Intn(3) - 1)
		default:
			*v = d.value()
		}
	}
	return t
}

// spoilt draws a text that is like another one, with one of some pieces in it.
func (d dice) spoilt(s string, pieces ...string) string {
	i := d.Intn(len(s) + 1)
	j := i + d.Intn(min(len(s)-i, 3)+1)
	return s[:i] + pieces[d.Intn(len(pieces))] + s[j:]
}

func (d dice) spoiltBytes(b string) string {
	one := string([]byte{byte(d.Intn(256))})
	return d.spoilt(b, "", one, one, "\x00", "\xff", "\x00\xff", "\x01", "\x17", "\x18", "\x19", "\x30")
}

func (d dice) spoiltText(text string) string {
	one := string([]byte{byte(d.Intn(256))})
	return d.spoilt(text, "", one, " ", "'", "%", "-", "+", "0", "9", "%00", "%61", " null", " 'a")
}

func wantSeen(t *testing.T, seen map[string]int, names ...string) {
	t.Helper()
	for _, name := range names {
		if seen[name] < 20 {
			t.Errorf("drawn too seldom: %s (%v)", name, seen)
		}
	}
}
