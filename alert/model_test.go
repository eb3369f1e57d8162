package alert

import (
	"fmt"
	"math/big"
	"regexp"
	"slices"
	"strconv"
	"strings"

	"ringdown/api"
)

// The definitions of the chapter once more, as they are written, with whole numbers of any size.

func modelIsPrime(n int) bool {
	divisors := 0
	for d := 1; d <= n; d++ {
		if n%d == 0 {
			divisors++
		}
	}
	return divisors == 2
}

// modelKey returns a key and its secret, or zeros; it is slow.
func modelKey(p, q, exponent int) (api.Key, int) {
	isIn := func(n int) bool { return n >= 3 && n <= 32749 }
	if !isIn(p) || !isIn(q) || !isIn(exponent) || p == q || !modelIsPrime(p) || !modelIsPrime(q) {
		return api.Key{}, 0
	}
	for d := 2; d <= exponent; d++ {
		if exponent%d == 0 && (p-1)*(q-1)%d == 0 {
			return api.Key{}, 0
		}
	}
	common := p - 1
	for common%(q-1) != 0 {
		common += p - 1
	}
	secret := 1
	for (secret*exponent-1)%common != 0 {
		secret++
	}
	return api.Key{Modulus: p * q, Exponent: exponent}, secret
}

func modelPower(base, exponent, modulus int) int {
	whole := func(n int) *big.Int { return big.NewInt(int64(n)) }
	return int(new(big.Int).Exp(whole(base), whole(exponent), whole(modulus)).Int64())
}

var modelName = regexp.MustCompile(`^[a-z][a-z0-9_]{0,15}$`)

func modelIsAlert(a api.Alert) bool {
	isName := modelName.MatchString(a.Event)
	isCounted := a.Version >= 1 && a.Version <= 1000 && a.Time >= 0 && a.Time <= 1<<30
	isLikely := a.Chance.N >= 1 && a.Chance.N <= a.Chance.Of && a.Chance.Of <= 256
	if !isName || !isCounted || !isLikely || a.Grid < 1 || a.Grid > 8 {
		return false
	}
	for i, c := range a.Cells {
		if c < 0 || c >= 6*a.Grid*a.Grid || i > 0 && c <= a.Cells[i-1] {
			return false
		}
	}
	if a.Withdrawn && len(a.Cells) > 0 || !a.Withdrawn && len(a.Cells) == 0 {
		return false
	}
	return a.Before == 0 || a.Version > 1 && a.Before > 0 && a.Before <= 2147483646
}

func modelText(a api.Alert) string {
	where := "withdrawn"
	if !a.Withdrawn {
		where = strings.Trim(fmt.Sprint("cells ", a.Cells), "[]")
		where = strings.Replace(where, "[", "", 1)
	}
	return fmt.Sprintf("alert %s %d\ntime %d\nchance %d %d\ngrid %d\n%s\nbefore %d\nend\n", a.Event, a.Version, a.Time, a.Chance.N, a.Chance.Of, a.Grid, where, a.Before)
}

// modelForm is that of a text whose numbers have an N in their place here.
var modelForm = regexp.MustCompile(strings.ReplaceAll(`^alert ([a-z0-9_]+) N\ntime N\nchance N N\ngrid N\n(withdrawn|cells(?: N)+)\nbefore N\nend\n$`, "N", `(0|[1-9][0-9]{0,17})`))

// modelAlert returns the valid alert that has a text, if there is one.
func modelAlert(text string) (api.Alert, bool) {
	m := modelForm.FindStringSubmatch(text)
	if m == nil {
		return api.Alert{}, false
	}
	number := func(i int) int {
		n, _ := strconv.Atoi(m[i])
		return n
	}
	a := api.Alert{Event: m[1], Version: number(2), Time: number(3), Chance: chanceOf(number(4), number(5)), Grid: number(6), Withdrawn: m[7] == "withdrawn", Before: number(9)}
	if !a.Withdrawn {
		for _, cell := range strings.Split(m[7], " ")[1:] {
			c, _ := strconv.Atoi(cell)
			a.Cells = append(a.Cells, c)
		}
	}
	return a, modelIsAlert(a)
}

func modelDigest(a api.Alert) int {
	digest, prime := big.NewInt(7), big.NewInt(2147483647)
	for _, c := range []byte(modelText(a)) {
		digest.Mul(digest, big.NewInt(31)).Add(digest, big.NewInt(int64(c)+1)).Mod(digest, prime)
	}
	return int(digest.Int64())
}

func modelIsSigned(k api.Key, a api.Alert, number int) bool {
	return number >= 0 && number < k.Modulus && modelPower(number, k.Exponent, k.Modulus) == modelDigest(a)%k.Modulus
}

func modelCheckNotice(r api.Roll, n api.Notice) api.Errno {
	if !modelIsAlert(n.Alert) {
		return api.ErrAlert
	}
	for i, s := range n.Signatures {
		if i > 0 && n.Signatures[i-1].Signer >= s.Signer || s.Signer < 0 || s.Signer >= len(r.Keys) {
			return api.ErrSign
		}
		if !modelIsSigned(r.Keys[s.Signer], n.Alert, s.Number) {
			return api.ErrSign
		}
	}
	if len(n.Signatures) < r.Quorum {
		return api.ErrQuorum
	}
	return api.OK
}

func modelValid(r api.Roll, l []api.Notice) []api.Notice {
	var valid []api.Notice
	for _, n := range l {
		if modelCheckNotice(r, n) == api.OK {
			valid = append(valid, n)
		}
	}
	return valid
}

func modelEvents(l []api.Notice) []string {
	var events []string
	for _, n := range l {
		events = append(events, n.Alert.Event)
	}
	slices.Sort(events)
	return slices.Compact(events)
}

func modelSettle(r api.Roll, l []api.Notice) []api.Standing {
	valid := modelValid(r, l)
	var standings []api.Standing
	for _, event := range modelEvents(valid) {
		s := api.Standing{Event: event, State: 1}
		for _, n := range valid {
			if n.Alert.Event == event && n.Alert.Version > s.Version {
				s.Version, s.Digest = n.Alert.Version, modelDigest(n.Alert)
			}
		}
		for _, m := range valid {
			for _, n := range valid {
				if m.Alert.Event == event && n.Alert.Event == event && m.Alert.Version == n.Alert.Version && modelText(m.Alert) != modelText(n.Alert) {
					s = api.Standing{Event: event, State: 3}
				}
			}
		}
		for _, n := range valid {
			if n.Alert.Event == event && n.Alert.Withdrawn {
				s = api.Standing{Event: event, State: 2}
			}
		}
		standings = append(standings, s)
	}
	return standings
}

func modelForks(r api.Roll, l []api.Notice) []api.Fork {
	valid := modelValid(r, l)
	var forks []api.Fork
	for _, event := range modelEvents(valid) {
		for version := 1; version <= 1000; version++ {
			// Of each signer the texts that it signed, and of all signers under -1.
			texts := map[int]map[string]bool{-1: {}}
			for i := range r.Keys {
				texts[i] = map[string]bool{}
			}
			for _, n := range valid {
				if n.Alert.Event == event && n.Alert.Version == version {
					texts[-1][modelText(n.Alert)] = true
					for _, s := range n.Signatures {
						texts[s.Signer][modelText(n.Alert)] = true
					}
				}
			}
			if len(texts[-1]) < 2 {
				continue
			}
			fork := api.Fork{Event: event, Version: version}
			for i := range r.Keys {
				if len(texts[i]) >= 2 {
					fork.Signers = append(fork.Signers, i)
				}
			}
			forks = append(forks, fork)
		}
	}
	return forks
}

// modelBoard is the notices of a board.
type modelBoard struct {
	r api.Roll
	l []api.Notice
}

func (b *modelBoard) history(event string) []api.Alert {
	var alerts []api.Alert
	for _, n := range b.l {
		if n.Alert.Event == event {
			alerts = append(alerts, n.Alert)
		}
	}
	return alerts
}

func (b *modelBoard) force(event string) (api.Alert, api.Errno) {
	alerts := b.history(event)
	if len(alerts) == 0 {
		return api.Alert{}, api.ErrNone
	}
	if last := alerts[len(alerts)-1]; !last.Withdrawn {
		return last, api.OK
	}
	return api.Alert{}, api.ErrWithdrawn
}

func (b *modelBoard) post(n api.Notice) api.Errno {
	if e := modelCheckNotice(b.r, n); e != api.OK {
		return e
	}
	alerts := b.history(n.Alert.Event)
	if len(alerts) == 0 {
		if n.Alert.Version != 1 {
			return api.ErrVersion
		}
		if n.Alert.Before != 0 {
			return api.ErrChain
		}
	} else {
		last := alerts[len(alerts)-1]
		if last.Withdrawn {
			return api.ErrWithdrawn
		}
		if n.Alert.Version-last.Version != 1 {
			return api.ErrVersion
		}
		if n.Alert.Before != modelDigest(last) {
			return api.ErrChain
		}
		if n.Alert.Time < last.Time {
			return api.ErrEarlier
		}
	}
	if len(b.l) == 256 {
		return api.ErrFull
	}
	b.l = append(b.l, n)
	return api.OK
}
