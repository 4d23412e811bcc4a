package bank

import (
	"slices"
	"strconv"

	"tidemark/api"
	"tidemark/cluster"
	"tidemark/route"
	"tidemark/valid"
)

const (
	minAccounts  = 2
	maxAccounts  = 16
	maxTransfers = 64
	maxAmount    = 1000000000 // in an account at the opening, and of a transfer
	openingCalms = 5          // as many as a commit's answer needs, and its outcome to be everywhere
)

// Open starts a cluster, lays the accounts down with so much in each, and deals the transfers to the clients (P22.1).
func Open(config string, accounts []string, each int, transfers []Transfer) (*Bank, api.Errno) {
	if !mayOpen(accounts, each, transfers) {
		return nil, api.ErrArg
	}
	up, e := cluster.Start(config)
	if e != api.OK {
		return nil, e
	}
	b := newBank(up, transfers)
	if e := b.layDown(accounts, each); e != api.OK {
		return nil, e
	}
	return b, api.OK
}

// mayOpen tells whether a bank of these may be.
func mayOpen(accounts []string, each int, transfers []Transfer) bool {
	if len(accounts) < minAccounts || len(accounts) > maxAccounts || each < 0 || each > maxAmount || len(transfers) > maxTransfers {
		return false
	}
	for i, a := range accounts {
		if !valid.Key(a) || slices.Contains(accounts[:i], a) {
			return false
		}
	}
	for _, t := range transfers {
		if !mayBe(t, accounts) {
			return false
		}
	}
	return true
}

// mayBe tells whether a transfer may be, for a list of accounts.
func mayBe(t Transfer, accounts []string) bool {
	return t.From != t.To && slices.Contains(accounts, t.From) && slices.Contains(accounts, t.To) &&
		t.Amount >= 1 && t.Amount <= maxAmount
}

// layDown has the lowest client commit the accounts with so much in each, and tells how the commit was answered.
func (b *Bank) layDown(accounts []string, each int) api.Errno {
	c := &b.clients[0]
	lines := []string{c.line("begin", "rw", route.Word(""))}
	for _, a := range accounts {
		lines = append(lines, c.line("put", route.Word(a), strconv.Itoa(each)))
	}
	lines = append(lines, c.line("commit"))
	lines = append(lines, slices.Repeat([]string{"calm 0"}, openingCalms)...)
	for _, line := range lines {
		b.cluster.Step(line)
	}
	status := api.ErrWait
	for _, e := range b.news() {
		if e.Answer.Op.Kind == api.OpCommit {
			status, b.token = e.Answer.Status, e.Answer.Token
		}
	}
	return status
}
