package inspect

import (
	"slices"
	"testing"

	"tidemark/api"
	"tidemark/cluster"
)

const two = "shards 2\nclients 2\ncapacity 65536\npark 4\nwindow 10\nsplit m\n"

func wantFate(t *testing.T, what string, r api.Result, shard int, want ...api.Entry) {
	t.Helper()
	if got := Fate(r, shard); !slices.Equal(got, want) {
		t.Errorf("%s: Fate of shard %d tells %v, want %v", what, shard, got, want)
	}
}

func wantDoctor(t *testing.T, what string, r api.Result, want api.Errno, of api.Txn) {
	t.Helper()
	if e, x := Doctor(r); e != want || x != of {
		t.Errorf("%s: Doctor tells %d, %v, want %d, %v", what, e, x, want, of)
	}
}

func known(t api.Txn, home uint32, s api.Stamp) api.Entry {
	return api.Entry{Txn: t, Home: home, Outcome: api.Committed, At: s}
}

func gone(t api.Txn, home uint32) api.Entry {
	return api.Entry{Txn: t, Home: home, Outcome: api.Aborted}
}

func unknown(t api.Txn, home uint32) api.Entry { return api.Entry{Txn: t, Home: home} }

// holding is the bytes of a log that holds a transaction.
func holding(t *testing.T, id api.Txn, home uint32, s api.Stamp) string {
	t.Helper()
	return logged(t, reserved(20), prepared(id, home, s, put("a", "1")))
}

// having is the bytes of a log that has committed a transaction.
func having(t *testing.T, id api.Txn, home uint32, s api.Stamp) string {
	t.Helper()
	return logged(t, reserved(20), prepared(id, home, at(1, 0, 0), put("a", "1")), committed(id, home, s))
}

// The chapter's example.
func TestFateExample(t *testing.T) {
	r := cluster.Run(two, "begin 2 rw %\nput 2 a 1\nput 2 z 1\ncommit 2\ncalm 0\ncalm 0\ntake 0\nsync 0\ncrash 0 0 0\ncrash 1 0 0\nhalt\ntick 2")
	if len(r.Commits) != 1 {
		t.Fatalf("%v are committed", r.Commits)
	}
	wantFate(t, "of the example", r, 1, known(t21, 0, r.Commits[0].At))
	wantFate(t, "of the example", r, 0)
	wantDoctor(t, "of the example", r, api.OK, api.Txn{})
}

// P24.4: what the home says, be it Committed, Aborted or nothing.
func TestFateOfWhatIsHeld(t *testing.T) {
	s := at(7, 0, 0)
	held := holding(t, t21, 0, at(5, 0, 0))
	wantFate(t, "committed", resultOf(having(t, t21, 0, s), held), 1, known(t21, 0, s))
	wantFate(t, "aborted", resultOf(logged(t, aborted(t21, 0)), held), 1, gone(t21, 0))
	wantFate(t, "nothing", resultOf("", held), 1, unknown(t21, 0))
	wantFate(t, "another transaction's", resultOf(having(t, txn(2, 2), 0, s), held), 1, unknown(t21, 0))
	wantFate(t, "held at its home, too", resultOf(held, held), 1, unknown(t21, 0))
	wantFate(t, "held at its home alone", resultOf(held), 0, unknown(t21, 0))
	wantFate(t, "the home says another home", resultOf(having(t, t21, 9, s), held), 1, known(t21, 0, s))
	wantFate(t, "the home has aborted for another home", resultOf(logged(t, aborted(t21, 9)), held), 1, gone(t21, 0))
	wantFate(t, "another place knows", resultOf(held, having(t, t21, 0, s), having(t, t21, 0, s)), 0, unknown(t21, 0))
	wantFate(t, "below its prepare stamp", resultOf(having(t, t21, 0, at(3, 0, 0)), held), 1, known(t21, 0, at(3, 0, 0)))
}

// P24.4: homes that are no place, and shards that are none.
func TestFatePlaces(t *testing.T) {
	s := at(7, 0, 0)
	for _, home := range []uint32{1, 2, 3, 255, 1 << 31, topSmall} {
		r := resultOf(having(t, t21, home, s), having(t, t21, home, s), holding(t, t21, home, at(5, 0, 0)))
		want := unknown(t21, home)
		if home == 1 {
			want = known(t21, home, s)
		}
		wantFate(t, "of a home", r, 2, want)
		for _, shard := range []int{-1, -1 << 63, 3, 4, 1 << 32, 1<<63 - 1} {
			wantFate(t, "of no shard", r, shard)
		}
		wantFate(t, "of one that holds nothing", r, 0)
		wantFate(t, "of no result", api.Result{}, 0)
	}
}

// P24.4: all that is held, by transaction.
func TestFateOrder(t *testing.T) {
	s := at(7, 0, 0)
	var list []api.Record
	for i, id := range []api.Txn{txn(3, 1), txn(2, 9), txn(2, 10), txn(10, 1), txn(topSmall, 1)} {
		list = append(list, prepared(id, uint32(i%2), at(5, 0, 0), put(string(rune('a'+i)), "")))
	}
	one := logged(t, append([]api.Record{reserved(20)}, list...)...)
	home := logged(t, aborted(txn(3, 1), 0), aborted(txn(2, 9), 0), aborted(txn(10, 1), 0))
	want := []api.Entry{gone(txn(2, 9), 1), unknown(txn(2, 10), 0), gone(txn(3, 1), 0), gone(txn(10, 1), 1), unknown(txn(topSmall, 1), 0)}
	wantFate(t, "of five", resultOf(home, home, one), 2, want...)
	two := logged(t, reserved(20), prepared(txn(2, 1), 0, at(1, 0, 0), put("k", "")), committed(txn(2, 1), 0, s), prepared(txn(3, 1), 0, at(8, 0, 0), put("a", "")))
	wantFate(t, "of the one that is held still", resultOf(home, home, two), 2, gone(txn(3, 1), 0))
}

// P24.4, P24.5: the disk's bytes alone count, and those that can't be replayed are as none.
func TestDurableStatesAlone(t *testing.T) {
	s := at(7, 0, 0)
	home, held := having(t, t21, 0, s), holding(t, t21, 0, at(9, 0, 0))
	r := api.Result{
		Status:  api.ErrArg,
		Commits: []api.Entry{known(t21, 0, s)},
		Shards: []api.Shown{
			{Written: [api.Slots]string{home, home}, Entries: []api.Entry{known(t21, 0, s)}},
			{Written: [api.Slots]string{held, held}, Held: []api.Held{{Txn: t21, At: at(9, 0, 0)}}},
		},
	}
	wantFate(t, "not on the disk", r, 1)
	wantDoctor(t, "not on the disk", r, api.OK, api.Txn{})
	r.Shards[1].Disk[1] = held
	wantFate(t, "held on the disk", r, 1, unknown(t21, 0))
	wantDoctor(t, "held on the disk", r, api.OK, api.Txn{})
	r.Shards[0].Disk[1] = home + "x"
	wantFate(t, "both on the disk", r, 1, known(t21, 0, s))
	wantDoctor(t, "both on the disk", r, api.ErrHeld, t21)
	r.Shards[0].Disk[0] = logged(t, reserved(5), reserved(5))
	wantFate(t, "a home that can't be replayed", r, 1, unknown(t21, 0))
	wantDoctor(t, "a home that can't be replayed", r, api.OK, api.Txn{})

	image := header(t, 2) + bytesOf(t, imaged(imageOf(t, 1, reserved(20), prepared(t21, 0, at(9, 0, 0), put("a", "1")))))
	wantFate(t, "an image", resultOf(home, image), 1, known(t21, 0, s))
	wantDoctor(t, "an image", resultOf(home, image), api.ErrHeld, t21)
	wantFate(t, "another one's image", resultOf(home, "", image), 2)
	wantDoctor(t, "another one's image", resultOf(home, "", image), api.OK, api.Txn{})
	wantDoctor(t, "no bytes of a log", resultOf(home, "xyz"), api.OK, api.Txn{})
}

// P24.5: each fault just there, and just not there.
func TestDoctorFaults(t *testing.T) {
	s := at(7, 3, 3)
	home := having(t, t21, 0, s)
	no := logged(t, aborted(t21, 0))
	fine := api.Txn{}
	wantDoctor(t, "no shards", api.Result{}, api.OK, fine)
	wantDoctor(t, "no outcome", resultOf(holding(t, t21, 0, s), holding(t, t21, 0, at(9, 0, 0))), api.OK, fine)
	wantDoctor(t, "one home", resultOf(home), api.OK, fine)

	wantDoctor(t, "the same", resultOf(home, home, home), api.OK, fine)
	wantDoctor(t, "aborted for different homes", resultOf(no, logged(t, aborted(t21, 1)), logged(t, aborted(t21, 99))), api.OK, fine)
	wantDoctor(t, "aborted, and not where its home is", resultOf("", logged(t, aborted(t21, 0))), api.OK, fine)
	wantDoctor(t, "one aborted", resultOf(home, no), api.ErrOutcome, t21)
	wantDoctor(t, "one committed", resultOf(no, "", home), api.ErrOutcome, t21)
	wantDoctor(t, "the last of three", resultOf(home, home, no), api.ErrOutcome, t21)
	for _, other := range []api.Stamp{at(8, 3, 3), at(7, 4, 3), at(7, 3, 4), at(7, 3, 2)} {
		wantDoctor(t, "another stamp", resultOf(home, having(t, t21, 0, other)), api.ErrOutcome, t21)
	}

	wantDoctor(t, "its home has nothing", resultOf("", home), api.ErrLost, t21)
	wantDoctor(t, "its home holds it", resultOf(holding(t, t21, 0, s), home), api.ErrLost, t21)
	for _, place := range []uint32{2, 3, 1 << 31, topSmall} {
		wantDoctor(t, "its home is no place", resultOf("", having(t, t21, place, s)), api.ErrLost, t21)
	}
	wantDoctor(t, "its home is its own place", resultOf("", having(t, t21, 1, s)), api.OK, fine)
	wantDoctor(t, "a home that has it for another home", resultOf(having(t, t21, 1, s), having(t, t21, 0, s)), api.OK, fine)
	wantDoctor(t, "one of the homes has nothing", resultOf(home, having(t, t21, 2, s), ""), api.ErrLost, t21)
	wantDoctor(t, "both homes have it", resultOf(home, "", having(t, t21, 1, s)), api.ErrLost, t21)

	wantDoctor(t, "held at the stamp", resultOf(home, holding(t, t21, 0, s)), api.OK, fine)
	wantDoctor(t, "held below the stamp", resultOf(home, holding(t, t21, 0, at(7, 3, 2))), api.OK, fine)
	for _, above := range []api.Stamp{at(7, 3, 4), at(7, 4, 0), at(8, 0, 0)} {
		wantDoctor(t, "held above the stamp", resultOf(home, holding(t, t21, 0, above)), api.ErrHeld, t21)
		wantDoctor(t, "held above the stamp, and below", resultOf(home, holding(t, t21, 0, above), holding(t, t21, 0, s)), api.ErrHeld, t21)
		wantDoctor(t, "held above the stamp, for another home", resultOf(home, holding(t, t21, 5, above)), api.ErrHeld, t21)
		wantDoctor(t, "held above, and aborted", resultOf(no, holding(t, t21, 0, above)), api.OK, fine)
		wantDoctor(t, "another one held above", resultOf(home, holding(t, txn(2, 2), 0, above)), api.OK, fine)
	}
}

// P24.5: the order of the faults of one transaction, and of the transactions.
func TestDoctorOrder(t *testing.T) {
	s, above := at(7, 0, 0), at(9, 0, 0)
	home := having(t, t21, 0, s)
	wantDoctor(t, "all three", resultOf("", home, logged(t, aborted(t21, 0)), holding(t, t21, 0, above)), api.ErrOutcome, t21)
	wantDoctor(t, "lost and held", resultOf("", home, holding(t, t21, 0, above)), api.ErrLost, t21)
	wantDoctor(t, "held alone", resultOf(home, "", holding(t, t21, 0, above)), api.ErrHeld, t21)

	fine, held, lost, apart := txn(1, 9), txn(2, 10), txn(10, 1), txn(3, 1)
	commits := []api.Record{reserved(20)}
	for i, id := range []api.Txn{fine, held, lost, apart} {
		commits = append(commits, prepared(id, 0, at(6, 0, 0), put(string(rune('a'+i)), "")))
	}
	for i := range 4 {
		commits = append(commits, committed(commits[1+i].Txn, 0, s))
	}
	without := func(list []api.Record, id api.Txn) []api.Record {
		return slices.DeleteFunc(slices.Clone(list), func(r api.Record) bool { return r.Txn == id })
	}
	ill := without(commits, lost)
	second := logged(t, commits...)
	third := logged(t, reserved(20), prepared(held, 0, above, put("x", "")), aborted(apart, 0))
	wantDoctor(t, "three are ill", resultOf(logged(t, ill...), second, third), api.ErrHeld, held)
	third = logged(t, reserved(20), prepared(held, 0, s, put("x", "")), aborted(apart, 0))
	wantDoctor(t, "two are ill", resultOf(logged(t, ill...), second, third), api.ErrOutcome, apart)
	third = logged(t, reserved(20), prepared(held, 0, s, put("x", "")))
	wantDoctor(t, "one is ill", resultOf(logged(t, ill...), second, third), api.ErrLost, lost)
	wantDoctor(t, "none is ill", resultOf(logged(t, commits...), second, third), api.OK, api.Txn{})
}

// P24.5: of one client the lower Seq, and of many the lower Client, each as a number without sign.
func TestDoctorGoesByNumbers(t *testing.T) {
	var list []api.Record
	rising := []api.Txn{txn(0, 1), txn(0, 2), txn(0, 10), txn(0, topSmall), txn(1, 1), txn(9, 3), txn(10, 2), txn(1<<31, 1), txn(topSmall, 1)}
	for _, id := range slices.Backward(rising) {
		list = append(list, aborted(id, 0))
		wantDoctor(t, "the lowest one", resultOf(having(t, id, 0, at(7, 0, 0)), logged(t, list...)), api.ErrOutcome, id)
	}
	commits := []api.Record{reserved(20)}
	for i, id := range rising {
		commits = append(commits, prepared(id, 0, at(1, 0, 0), put(string(rune('a'+i)), "")))
	}
	for _, id := range rising {
		commits = append(commits, committed(id, 0, at(7, 0, 0)))
	}
	all := logged(t, commits...)
	for i, id := range rising {
		wantDoctor(t, "the lowest of those that are left", resultOf(all, logged(t, list[:len(list)-i]...)), api.ErrOutcome, id)
	}
	wantDoctor(t, "none is left", resultOf(all, ""), api.OK, api.Txn{})
}

// P24.4, P24.5: any results, beside a model that follows the chapter's sentences.
func TestAnyResults(t *testing.T) {
	seen := map[string]int{}
	names := map[api.Errno]string{api.OK: "nothing", api.ErrOutcome: "outcome", api.ErrLost: "lost", api.ErrHeld: "held"}
	for seed := range int64(6000) {
		d := newDice(seed)
		r := d.result(t)
		want, of := modelDoctor(r)
		if e, x := Doctor(r); e != want || x != of {
			t.Fatalf("seed %d: Doctor tells %d, %v, want %d, %v", seed, e, x, want, of)
		}
		seen[names[want]]++
		for shard := -1; shard <= len(r.Shards); shard++ {
			list := modelFate(r, shard)
			if got := Fate(r, shard); !slices.Equal(got, list) {
				t.Fatalf("seed %d: Fate of shard %d tells %v, want %v", seed, shard, got, list)
			}
			for _, e := range list {
				seen[[]string{"unknown", "committed", "aborted"}[e.Outcome]]++
			}
			seen["several"] += len(list) / 2
		}
	}
	wantSeen(t, seen, "nothing", "outcome", "lost", "held", "unknown", "committed", "aborted", "several")
}
