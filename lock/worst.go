package lock

import "ringdown/api"

// memory keeps what was found for a key, so that it is found only once.
type memory[K comparable, V any] map[K]V

func (m memory[K, V]) get(key K, find func() V) V {
	value, isKept := m[key]
	if !isKept {
		value = find()
		m[key] = value
	}
	return value
}

// rest is what decides how long a guard takes from now on: where it is, and how many events may yet go wrong.
type rest struct {
	place place
	bad   int
}

// longest returns the time to a goal from the first rung.
func (l ladder) longest(bad int) int {
	return l.longestFrom(rest{bad: bad}, memory[rest, int]{})
}

// longestFrom ends because each event that goes wrong leaves fewer of these, and wins alone lead to a goal.
func (l ladder) longestFrom(x rest, times memory[rest, int]) int {
	r := l[x.place.rung]
	if r.isGoal() {
		return 0
	}
	after := func(kind, bad int) int {
		return l.longestFrom(rest{place: l.after(x.place, kind), bad: bad}, times)
	}
	return times.get(x, func() int {
		most := after(api.EventWin, x.bad)
		if x.bad > 0 {
			most = max(most, after(api.EventFail, x.bad-1), after(api.EventLost, x.bad-1))
		}
		return r.minutes + most
	})
}
