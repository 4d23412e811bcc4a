package bank

import (
	"math"
	"slices"
	"strconv"
	"strings"

	"tidemark/api"
	"tidemark/audit"
)

// maxDigits is how many an amount's text may have.
const maxDigits = 15

// Balances tells what the accounts hold in the committed state, by account; false, if an account is missing or no number (P22.6).
func Balances(r api.Result, accounts []string) ([]int, bool) {
	return amounts(r, accounts, api.Stamp{Wall: api.TopWall, Logical: api.TopLogical, Node: math.MaxUint32})
}

// Sum tells the sum of all accounts in the committed state at a stamp (P22.6).
func Sum(r api.Result, accounts []string, at api.Stamp) (int, bool) {
	list, ok := amounts(r, accounts, at)
	sum := 0
	for _, amount := range list {
		sum += amount
	}
	return sum, ok
}

// amounts tells what each account holds at a stamp, if each holds an amount.
func amounts(r api.Result, accounts []string, at api.Stamp) ([]int, bool) {
	if len(accounts) > maxAccounts {
		return nil, false
	}
	pairs := audit.State(r, api.Span{}, at)
	var list []int
	for _, a := range accounts {
		i, there := slices.BinarySearchFunc(pairs, a, func(p api.Pair, key string) int { return strings.Compare(p.Key, key) })
		if !there {
			return nil, false
		}
		amount, ok := amountOf(pairs[i].Value)
		if !ok {
			return nil, false
		}
		list = append(list, amount)
	}
	return list, true
}

// amountOf tells the number that an amount's text writes. It is written in one way: digits alone, no zero in front.
func amountOf(text string) (int, bool) {
	if len(text) > maxDigits {
		return 0, false
	}
	n, err := strconv.ParseUint(text, 10, 63)
	if err != nil || strconv.FormatUint(n, 10) != text {
		return 0, false
	}
	return int(n), true
}
