// Package group tells which worker has which key.
package group

import (
	"weirgate/api"
)

// Of gives the group of a key, from 0 to api.Groups less 1.
func Of(key string) int {
	// The sum is modulo 2^32, which is just how a uint32 wraps round.
	x := uint32(2166136261)
	for i := range len(key) {
		x = (x ^ uint32(key[i])) * 16777619
	}
	return int((x>>16 ^ x) % api.Groups)
}

// Range of a worker's groups: from low on, below high.
func Range(p, i int) (low, high int, err error) {
	if !IsWorkers(p) || i < 0 || i >= p {
		return 0, 0, api.ErrRange
	}
	return begin(p, i), begin(p, i+1), nil
}

// Owner of a group: the worker whose Range it lies in.
func Owner(p, group int) (int, error) {
	if !IsWorkers(p) || group < 0 || group >= api.Groups {
		return 0, api.ErrRange
	}
	return owner(p, group), nil
}

// Moves of groups to other owners, where p workers become q, by groups.
func Moves(p, q int) ([]api.Move, error) {
	if !IsWorkers(p) || !IsWorkers(q) {
		return nil, api.ErrRange
	}
	var moves []api.Move
	for g := range api.Groups {
		from, to := owner(p, g), owner(q, g)
		if from != to {
			moves = append(moves, api.Move{Group: g, From: from, To: to})
		}
	}
	return moves, nil
}

// Split of a key: which of so many it belongs to.
func Split(key string, splits int) (int, error) {
	if splits < 1 || splits > api.MaxSplit {
		return 0, api.ErrRange
	}
	return Of(key) % splits, nil
}

// IsWorkers tells whether there may be so many workers.
func IsWorkers(p int) bool {
	return p >= 1 && p <= api.Groups
}

// begin is the first group of worker i of p. It is the end of the one ahead,
// too, so that no group is left out and none has two owners.
func begin(p, i int) int {
	return (i*api.Groups + p - 1) / p
}

// owner needs no search: begin rounds up, so that the group lies in the range
// of worker i just if group*p/Groups, rounded down, is i.
func owner(p, group int) int {
	return group * p / api.Groups
}
