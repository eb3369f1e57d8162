package alert

import (
	"slices"

	"ringdown/api"
)

// Board is notices as they were posted.
type Board struct {
	roll
	notices []api.Notice
	// self is the board itself: that of a copy, which no function returned, is another one.
	self *Board
}

// NewBoard returns a board without notices.
func NewBoard(r api.Roll) (*Board, api.Errno) {
	if e := CheckRoll(r); e != api.OK {
		return nil, e
	}
	b := &Board{roll: rollOf(r)}
	b.self = b
	return b, api.OK
}

func (b *Board) isMade() bool { return b != nil && b.self == b }

// Post adds a notice as the last one of its event.
func (b *Board) Post(n api.Notice) api.Errno {
	if !b.isMade() {
		return api.ErrNil
	}
	if e := b.check(n); e != api.OK {
		return e
	}
	if e := checkNext(b.alertsOf(n.Alert.Event), n.Alert); e != api.OK {
		return e
	}
	if len(b.notices) >= api.MaxBoard {
		return api.ErrFull
	}
	b.notices = append(b.notices, copyOfNotice(n))
	return api.OK
}

// checkNext returns the first error of a as the alert that comes after others of its event.
func checkNext(history []api.Alert, a api.Alert) api.Errno {
	var last api.Alert
	before := 0
	if len(history) > 0 {
		last = history[len(history)-1]
		before = digestOf(last)
	}
	switch {
	case last.Withdrawn:
		return api.ErrWithdrawn
	case a.Version != last.Version+1:
		return api.ErrVersion
	case a.Before != before:
		return api.ErrChain
	case a.Time < last.Time:
		return api.ErrEarlier
	}
	return api.OK
}

// Force returns the alert of an event that is in force.
func (b *Board) Force(event string) (api.Alert, api.Errno) {
	if !b.isMade() {
		return api.Alert{}, api.ErrNil
	}
	history := b.alertsOf(event)
	if len(history) == 0 {
		return api.Alert{}, api.ErrNone
	}
	last := history[len(history)-1]
	if last.Withdrawn {
		return api.Alert{}, api.ErrWithdrawn
	}
	return last, api.OK
}

// History returns the alerts of an event, in order.
func (b *Board) History(event string) []api.Alert {
	if !b.isMade() {
		return nil
	}
	return b.alertsOf(event)
}

// Notices returns all notices, in the order in which they were posted.
func (b *Board) Notices() []api.Notice {
	if !b.isMade() {
		return nil
	}
	var list []api.Notice
	for _, n := range b.notices {
		list = append(list, copyOfNotice(n))
	}
	return list
}

// alertsOf returns copies of the alerts of an event, in order.
func (b *Board) alertsOf(event string) []api.Alert {
	isOf := func(n api.Notice) bool { return n.Alert.Event == event }
	var list []api.Alert
	for _, n := range only(b.notices, isOf) {
		list = append(list, copyOfAlert(n.Alert))
	}
	return list
}

func copyOfAlert(a api.Alert) api.Alert {
	a.Cells = slices.Clone(a.Cells)
	return a
}

func copyOfNotice(n api.Notice) api.Notice {
	n.Alert, n.Signatures = copyOfAlert(n.Alert), slices.Clone(n.Signatures)
	return n
}
