package alert

import (
	"cmp"
	"iter"
	"maps"
	"slices"

	"ringdown/api"
)

// only returns those elements of a list that are kept.
func only[T any](l []T, isKept func(T) bool) []T {
	var kept []T
	for _, x := range l {
		if isKept(x) {
			kept = append(kept, x)
		}
	}
	return kept
}

func eventOf(n api.Notice) string { return n.Alert.Event }

func versionOf(n api.Notice) int { return n.Alert.Version }

// grouped yields notices by what they share, an event or a version, in its order.
func grouped[K cmp.Ordered](l []api.Notice, keyOf func(api.Notice) K) iter.Seq2[K, []api.Notice] {
	groups := map[K][]api.Notice{}
	for _, n := range l {
		groups[keyOf(n)] = append(groups[keyOf(n)], n)
	}
	return func(yield func(K, []api.Notice) bool) {
		for _, k := range slices.Sorted(maps.Keys(groups)) {
			if !yield(k, groups[k]) {
				return
			}
		}
	}
}

// standing returns how an event stands by its valid notices, of which there is at least one.
func standing(event string, l []api.Notice) api.Standing {
	s := api.Standing{Event: event}
	isWithdrawn := func(n api.Notice) bool { return n.Alert.Withdrawn }
	switch {
	case slices.ContainsFunc(l, isWithdrawn):
		s.State = api.StandWithdrawn
	case isDisputed(l):
		s.State = api.StandDisputed
	default:
		byVersion := func(m, n api.Notice) int { return cmp.Compare(versionOf(m), versionOf(n)) }
		last := slices.MaxFunc(l, byVersion).Alert
		s.State, s.Version, s.Digest = api.StandForce, last.Version, digestOf(last)
	}
	return s
}

func isDisputed(l []api.Notice) bool {
	for _, same := range grouped(l, versionOf) {
		if differ(same) {
			return true
		}
	}
	return false
}

// differ says that valid notices have different alerts.
func differ(l []api.Notice) bool {
	isOther := func(n api.Notice) bool { return !Same(n.Alert, l[0].Alert) }
	return slices.ContainsFunc(l, isOther)
}

// forks returns those of an event by its valid notices.
func (r roll) forks(event string, l []api.Notice) []api.Fork {
	var list []api.Fork
	for version, same := range grouped(l, versionOf) {
		if differ(same) {
			list = append(list, api.Fork{Event: event, Version: version, Signers: r.twoWays(same)})
		}
	}
	return list
}

// twoWays returns who signed at least two different ones of the alerts of notices.
func (r roll) twoWays(l []api.Notice) []int {
	var signers []int
	for signer := range r.keys {
		isBy := func(s api.Signature) bool { return s.Signer == signer }
		isSigned := func(n api.Notice) bool { return slices.ContainsFunc(n.Signatures, isBy) }
		if differ(only(l, isSigned)) {
			signers = append(signers, signer)
		}
	}
	return signers
}
