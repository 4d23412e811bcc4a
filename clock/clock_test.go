package clock

import (
	"math/big"
	"math/rand"
	"testing"

	"tidemark/api"
	"tidemark/stamp"
)

const (
	topWall    = uint64(18446744073709551615)
	topLogical = uint32(4294967295)
)

func st(wall uint64, logical, node uint32) api.Stamp {
	return api.Stamp{Wall: wall, Logical: logical, Node: node}
}

func wantTick(t *testing.T, c *Clock, want api.Stamp) {
	t.Helper()
	if got, e := c.Tick(); got != want || e != api.OK {
		t.Errorf("Tick = %v, %d, want %v, OK", got, e, want)
	}
	wantLast(t, c, want)
}

func wantNoTick(t *testing.T, c *Clock) {
	t.Helper()
	last, ceiling := c.Last(), c.Ceiling()
	if got, e := c.Tick(); got != st(0, 0, 0) || e != api.ErrExhausted {
		t.Errorf("Tick = %v, %d, want the zero stamp, ErrExhausted", got, e)
	}
	wantLast(t, c, last)
	wantCeiling(t, c, ceiling)
}

func wantObserve(t *testing.T, c *Clock, s api.Stamp, want api.Errno) {
	t.Helper()
	if got := c.Observe(s); got != want {
		t.Errorf("Observe(%v) = %d, want %d", s, got, want)
	}
}

func wantLast(t *testing.T, c *Clock, want api.Stamp) {
	t.Helper()
	if got := c.Last(); got != want {
		t.Errorf("Last = %v, want %v", got, want)
	}
}

func wantCeiling(t *testing.T, c *Clock, want uint64) {
	t.Helper()
	if got := c.Ceiling(); got != want {
		t.Errorf("Ceiling = %d, want %d", got, want)
	}
}

func wantNeed(t *testing.T, c *Clock, s api.Stamp, want uint64, must bool) {
	t.Helper()
	if got, ok := c.Need(s); got != want || ok != must {
		t.Errorf("Need(%v) = %d, %v, want %d, %v", s, got, ok, want, must)
	}
}

func TestNewBeginsAtZero(t *testing.T) { // P2.1
	for _, node := range []uint32{0, 7, topLogical} {
		for _, window := range []uint64{0, 10, topWall} {
			c := New(node, window)
			wantLast(t, c, st(0, 0, 0))
			wantCeiling(t, c, 0)
			wantTick(t, c, st(0, 1, node)) // the reading is 0, so it is not above the wall of last
		}
	}
}

func TestReopenBeginsAtTheCeiling(t *testing.T) { // P2.1
	for _, ceiling := range []uint64{0, 1, 111, 1<<63 - 1, 1 << 63, topWall - 1} {
		c := Reopen(7, 10, ceiling)
		wantLast(t, c, st(ceiling, 0, 0))
		wantCeiling(t, c, ceiling)
		wantTick(t, c, st(ceiling, 1, 7))
		wantCeiling(t, c, ceiling)
	}
}

func TestReopenAtTheTopIsSpent(t *testing.T) { // P2.1, P2.3
	c := Reopen(7, 10, topWall)
	wantLast(t, c, st(topWall, 0, 0))
	wantCeiling(t, c, topWall)
	for _, reading := range []uint64{0, 9, topWall - 1, topWall} {
		c.Read(reading)
		wantNoTick(t, c)
	}
	wantObserve(t, c, st(8, 0, 1), api.OK)
	wantObserve(t, c, st(topWall, 1, 1), api.ErrExhausted)
	wantLast(t, c, st(topWall, 0, 0))
	wantNoTick(t, c)
}

func TestReadChangesTheReadingAlone(t *testing.T) { // P2.2
	c := Reopen(7, 10, 50)
	for _, reading := range []uint64{100, 0, topWall, 70} {
		c.Read(reading)
		wantLast(t, c, st(50, 0, 0))
		wantCeiling(t, c, 50)
		wantNeed(t, c, st(49, 0, 0), 0, false)
		wantNeed(t, c, st(50, 0, 0), 61, true)
	}
	wantTick(t, c, st(70, 0, 7)) // the last reading counts, not the greatest one
}

func TestTickFollowsTheReadingAndNeverGoesBack(t *testing.T) { // P2.3
	c := New(7, 10)
	c.Read(100)
	wantTick(t, c, st(100, 0, 7))
	wantTick(t, c, st(100, 1, 7))
	c.Read(50)
	wantTick(t, c, st(100, 2, 7))
	c.Read(100)
	wantTick(t, c, st(100, 3, 7))
	c.Read(101)
	wantTick(t, c, st(101, 0, 7))
	c.Read(1 << 63)
	wantTick(t, c, st(1<<63, 0, 7)) // a number without a sign
	c.Read(0)
	wantTick(t, c, st(1<<63, 1, 7))
	wantCeiling(t, c, 0)
}

func TestTickCarriesTheClocksOwnNode(t *testing.T) { // P2.3
	for _, node := range []uint32{0, 7, topLogical} {
		c := New(node, 10)
		wantObserve(t, c, st(5, 5, 9), api.OK)
		wantTick(t, c, st(5, 6, node))
		wantObserve(t, c, st(5, topLogical, 9), api.OK)
		wantTick(t, c, st(6, 0, node))
		c.Read(8)
		wantTick(t, c, st(8, 0, node))
	}
}

func TestTickCarriesIntoTheWall(t *testing.T) { // P2.3
	c := New(7, 10)
	wantObserve(t, c, st(200, topLogical-1, 3), api.OK)
	wantTick(t, c, st(200, topLogical, 7))
	wantTick(t, c, st(201, 0, 7))
	wantObserve(t, c, st(300, topLogical, 3), api.OK)
	c.Read(300)
	wantTick(t, c, st(301, 0, 7)) // a reading that is as high is not above
	wantObserve(t, c, st(400, topLogical, 3), api.OK)
	c.Read(401)
	wantTick(t, c, st(401, 0, 7)) // by the reading or by the carry: one stamp
	wantObserve(t, c, st(500, topLogical, 3), api.OK)
	c.Read(502)
	wantTick(t, c, st(502, 0, 7))
}

func TestAReadingAtTheTopDoesNoHarm(t *testing.T) { // P2.3
	c := New(7, 10)
	c.Read(topWall)
	wantNoTick(t, c)
	wantNoTick(t, c)
	c.Read(5)
	wantTick(t, c, st(5, 0, 7))
	c.Read(topWall)
	wantNoTick(t, c)
	wantObserve(t, c, st(9, 9, 9), api.OK)
	wantNoTick(t, c)
	c.Read(0)
	wantTick(t, c, st(9, 10, 7))
}

func TestTickAtTheEndOfTheWalls(t *testing.T) { // P2.3
	c := New(7, 10)
	c.Read(topWall - 1)
	wantTick(t, c, st(topWall-1, 0, 7))
	wantTick(t, c, st(topWall-1, 1, 7))
	wantObserve(t, c, st(topWall-1, topLogical-1, 9), api.OK)
	wantTick(t, c, st(topWall-1, topLogical, 7))
	wantNoTick(t, c)
	c.Read(0)
	wantNoTick(t, c)
	c.Read(topWall)
	wantNoTick(t, c)

	c = New(7, 10)
	wantObserve(t, c, st(topWall-2, topLogical, 1), api.OK)
	wantTick(t, c, st(topWall-1, 0, 7))

	c = New(7, 10)
	wantObserve(t, c, st(topWall-1, topLogical, 1), api.OK)
	wantNoTick(t, c)
}

func TestObserveKeepsTheGreater(t *testing.T) { // P2.4
	c := New(7, 10)
	for _, step := range []struct{ heard, last api.Stamp }{
		{st(0, 0, 0), st(0, 0, 0)},
		{st(0, 0, 1), st(0, 0, 1)},
		{st(5, 5, 9), st(5, 5, 9)},
		{st(5, 5, 9), st(5, 5, 9)},
		{st(5, 5, 8), st(5, 5, 9)},
		{st(5, 4, 10), st(5, 5, 9)},
		{st(4, 9, 10), st(5, 5, 9)},
		{st(5, 5, 10), st(5, 5, 10)},
		{st(5, 6, 0), st(5, 6, 0)},
		{st(6, 0, 0), st(6, 0, 0)},
		{st(1<<63, 0, 0), st(1<<63, 0, 0)},
		{st(1<<63-1, topLogical, topLogical), st(1<<63, 0, 0)},
		{st(topWall-1, topLogical, topLogical), st(topWall-1, topLogical, topLogical)},
		{st(0, 0, 0), st(topWall-1, topLogical, topLogical)},
	} {
		wantObserve(t, c, step.heard, api.OK)
		wantLast(t, c, step.last)
	}
}

func TestObserveRefusesTheTop(t *testing.T) { // P2.4
	for _, s := range []api.Stamp{st(topWall, 0, 0), st(topWall, 0, 1), st(topWall, topLogical, topLogical)} {
		c := Reopen(7, 10, 4)
		wantObserve(t, c, s, api.ErrExhausted)
		wantLast(t, c, st(4, 0, 0))
		wantCeiling(t, c, 4)
		wantTick(t, c, st(4, 1, 7))
	}
}

func TestObserveLeavesReadingAndCeiling(t *testing.T) { // P2.4
	c := Reopen(7, 10, 20)
	c.Read(30)
	wantObserve(t, c, st(25, 3, 1), api.OK)
	wantCeiling(t, c, 20)
	wantTick(t, c, st(30, 0, 7))
	wantObserve(t, c, st(40, 3, 1), api.OK)
	wantCeiling(t, c, 20)
	wantTick(t, c, st(40, 4, 7)) // the reading is 30 still, below what was heard
	c.Read(41)
	wantTick(t, c, st(41, 0, 7))
}

func TestAskingChangesNothing(t *testing.T) { // P2.5, P2.6
	c := Reopen(7, 10, 20)
	c.Read(21)
	for range 3 {
		wantLast(t, c, st(20, 0, 0))
		wantCeiling(t, c, 20)
		wantNeed(t, c, st(30, 0, 0), 41, true)
		wantNeed(t, c, st(19, 0, 0), 0, false)
		wantNeed(t, c, st(topWall, 0, 0), 0, false)
	}
	wantTick(t, c, st(21, 0, 7))
}

func TestNeed(t *testing.T) { // P2.6
	for _, row := range []struct {
		window, ceiling uint64
		s               api.Stamp
		want            uint64
		must            bool
	}{
		{10, 0, st(0, 0, 0), 11, true},
		{10, 0, st(0, 0, 1), 11, true},
		{10, 0, st(100, 0, 1), 111, true},
		{10, 111, st(110, topLogical, 1), 0, false},
		{10, 111, st(111, 0, 0), 122, true},
		{10, 111, st(0, 0, 0), 0, false},
		{0, 0, st(3, 0, 0), 4, true},
		{0, 4, st(3, topLogical, topLogical), 0, false},
		{topWall, 0, st(0, 0, 0), topWall, true},
		{topWall, 0, st(3, 0, 0), topWall, true},
		{topWall - 1, 0, st(0, 0, 0), topWall, true},
		{topWall - 2, 0, st(0, 0, 0), topWall - 1, true},
		{topWall - 2, 0, st(1, 0, 0), topWall, true},
		{1 << 63, 0, st(1<<63, 0, 0), topWall, true},
		{1 << 63, 0, st(1<<63-2, 0, 0), topWall, true},
		{1 << 63, 0, st(1<<63-3, 0, 0), topWall - 1, true},
		{10, 0, st(topWall-12, 0, 0), topWall - 1, true},
		{10, 0, st(topWall-11, 0, 0), topWall, true},
		{10, 0, st(topWall-10, 0, 0), topWall, true},
		{10, 0, st(topWall-1, topLogical, 0), topWall, true},
		{0, 0, st(topWall-1, 0, 0), topWall, true},
		{topWall, 0, st(topWall-1, 0, 0), topWall, true},
		{10, topWall - 1, st(topWall-1, 0, 0), topWall, true},
		{10, topWall, st(topWall-1, topLogical, 0), 0, false},
		{10, 0, st(topWall, 0, 0), 0, false},
		{0, topWall, st(topWall, 0, 0), 0, false},
		{topWall, 5, st(topWall, topLogical, topLogical), 0, false},
	} {
		wantNeed(t, Reopen(7, row.window, row.ceiling), row.s, row.want, row.must)
		c := New(7, row.window)
		c.Reserve(row.ceiling)
		wantNeed(t, c, row.s, row.want, row.must)
	}
}

// trueNeed is P2.6 in whole numbers that have no end.
func trueNeed(window, ceiling, wall uint64) (uint64, bool) {
	if wall == topWall || wall < ceiling {
		return 0, false
	}
	sum := new(big.Int).SetUint64(wall)
	sum.Add(sum, new(big.Int).SetUint64(window))
	sum.Add(sum, big.NewInt(1))
	if !sum.IsUint64() {
		return topWall, true
	}
	return sum.Uint64(), true
}

func TestNeedIsTheTrueSum(t *testing.T) { // P2.6
	edges := []uint64{0, 1, 2, 10, 1<<32 - 1, 1 << 32, 1<<63 - 2, 1<<63 - 1, 1 << 63, 1<<63 + 1, topWall - 2, topWall - 1, topWall}
	for _, window := range edges {
		for _, ceiling := range edges {
			for _, wall := range edges {
				want, must := trueNeed(window, ceiling, wall)
				wantNeed(t, Reopen(7, window, ceiling), st(wall, 3, 4), want, must)
				if must && want <= wall {
					t.Errorf("the ceiling %d is not above the wall %d", want, wall)
				}
			}
		}
	}
}

func TestReserveNeverLowers(t *testing.T) { // P2.7
	c := New(7, 10)
	for _, step := range []struct{ given, ceiling uint64 }{
		{0, 0}, {111, 111}, {20, 111}, {111, 111}, {0, 111}, {112, 112}, {1 << 63, 1 << 63}, {1<<63 - 1, 1 << 63}, {topWall, topWall}, {5, topWall},
	} {
		c.Reserve(step.given)
		wantCeiling(t, c, step.ceiling)
	}
	c = Reopen(7, 10, 50)
	c.Reserve(40)
	wantCeiling(t, c, 50)
	c.Reserve(60)
	wantCeiling(t, c, 60)
}

func TestReserveChangesTheCeilingAlone(t *testing.T) { // P2.7
	c := New(7, 10)
	c.Read(3)
	c.Reserve(topWall)
	wantLast(t, c, st(0, 0, 0))
	wantTick(t, c, st(3, 0, 7))
	wantTick(t, c, st(3, 1, 7))
	c = New(7, 10)
	c.Reserve(20)
	wantNeed(t, c, st(20, 0, 0), 31, true) // the window is what it was
}

func TestClocksAreApart(t *testing.T) { // P2.1
	a, b := New(7, 10), New(7, 10)
	a.Read(100)
	a.Reserve(50)
	wantObserve(t, a, st(200, 1, 1), api.OK)
	wantTick(t, a, st(200, 2, 7))
	wantLast(t, b, st(0, 0, 0))
	wantCeiling(t, b, 0)
	wantNeed(t, b, st(40, 0, 0), 51, true)
	wantTick(t, b, st(0, 1, 7))
}

// node is what P2.8 asks of an owner: it uses a stamp only behind its reservation, and forgets all but what it reserved.
type node struct {
	clock *Clock
	kept  uint64
	used  api.Stamp // the greatest stamp that was used, by the clocks before as well
}

func (n *node) use(s api.Stamp) {
	if ceiling, must := n.clock.Need(s); must {
		n.clock.Reserve(ceiling)
		n.kept = max(n.kept, ceiling)
	}
	n.used = stamp.Max(n.used, s)
}

// someWall is small mostly, so that walls meet, and near the end at times.
func someWall(source *rand.Rand) uint64 {
	if source.Intn(400) == 0 {
		return topWall - uint64(source.Intn(40))
	}
	return uint64(source.Intn(60))
}

func someStamp(source *rand.Rand) api.Stamp {
	logicals := []uint32{0, 1, 2, topLogical - 1, topLogical}
	return st(someWall(source), logicals[source.Intn(len(logicals))], uint32(source.Intn(5)))
}

// life plays one life of a node, from its opening to its crash.
func life(t *testing.T, source *rand.Rand, n *node, window uint64) {
	t.Helper()
	before := n.used
	n.clock = Reopen(3, window, n.kept)
	for range source.Intn(12) {
		n.clock.Read(someWall(source))
		last := n.clock.Last()
		issued, e := n.clock.Tick()
		if e == api.OK && (!stamp.Less(before, issued) || !stamp.Less(last, issued) || issued.Wall == topWall) {
			t.Fatalf("issued %v behind %v was used, last was %v", issued, before, last)
		}
		if e == api.OK && source.Intn(2) == 0 {
			n.use(issued)
		}
		if heard := someStamp(source); n.clock.Observe(heard) == api.OK && source.Intn(2) == 0 {
			n.use(heard)
		}
	}
}

func TestAClockOpenedAgainIsAboveWhatWasUsed(t *testing.T) { // P2.8
	source := rand.New(rand.NewSource(8))
	for _, window := range []uint64{0, 1, 7, 1 << 63, topWall} {
		for range 300 {
			n := &node{}
			for range 6 {
				life(t, source, n, window)
			}
		}
	}
}

// What was issued and never used may be issued again: the ceiling alone is kept.
func TestWhatWasNotUsedIsForgotten(t *testing.T) { // P2.8
	n := &node{clock: New(3, 5)}
	wantTick(t, n.clock, st(0, 1, 3))
	n.clock = Reopen(3, 5, n.kept)
	wantTick(t, n.clock, st(0, 1, 3))
	n.use(st(0, 1, 3))
	if n.kept != 6 {
		t.Fatalf("the kept ceiling is %d, want 6", n.kept)
	}
	n.clock = Reopen(3, 5, n.kept)
	wantTick(t, n.clock, st(6, 1, 3))
}
