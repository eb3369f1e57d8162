package alert

import (
	"fmt"
	"math/rand"
	"slices"
	"strings"
	"testing"

	"ringdown/api"
)

// alertErrors calls all functions with an alert that return an error.
func alertErrors(t *testing.T, a api.Alert, want api.Errno) {
	t.Helper()
	what := fmt.Sprint(a)
	hasError(t, what, CheckAlert(a), want)
	text, e := Print(a)
	is(t, what, text, e, "", want)
	digest, e := Digest(a)
	is(t, what, digest, e, 0, want)
	number, e := Sign(keyOf(15, 3), 3, a)
	is(t, what, number, e, 0, want)
	isSigned, e := Signed(keyOf(15, 3), a, 0)
	is(t, what, isSigned, e, false, want)
	hasError(t, what, CheckNotice(rollBy(exampleSigners(), 1), api.Notice{Alert: a}), want)
	follower, e := Follow(a, 1<<30, chanceOf(1, 1), 1, list(0))
	is(t, what, follower, e, api.Alert{}, want)
	follower, e = Withdraw(a, 1<<30)
	is(t, what, follower, e, api.Alert{}, want)
	b := must[*Board](t)(NewBoard(rollBy(exampleSigners(), 1)))
	hasError(t, what, b.Post(api.Notice{Alert: a}), want)
}

// P10.1: which alerts are valid, and the error of all functions otherwise.
func TestCheckAlert(t *testing.T) {
	for _, a := range validAlerts() {
		hasError(t, fmt.Sprint(a), CheckAlert(a), api.OK)
		if !modelIsAlert(a) {
			t.Errorf("%v is not valid", a)
		}
	}
	for _, a := range wrongAlerts() {
		alertErrors(t, a, api.ErrAlert)
		if modelIsAlert(a) {
			t.Errorf("%v is valid", a)
		}
	}
	r := rand.New(rand.NewSource(1))
	for range 2000 {
		hasError(t, "random", CheckAlert(randomAlert(r)), api.OK)
	}
}

// P10.1: two alerts are the same if all their fields are, whether they are valid or not.
func TestSame(t *testing.T) {
	changes := []func(*api.Alert){
		func(a *api.Alert) {}, func(a *api.Alert) { a.Event += "x" }, func(a *api.Alert) { a.Event = "" }, func(a *api.Alert) { a.Version++ }, func(a *api.Alert) { a.Time = -1 }, func(a *api.Alert) { a.Time++ }, func(a *api.Alert) { a.Chance.N++ }, func(a *api.Alert) { a.Chance.Of++ }, func(a *api.Alert) { a.Grid++ }, func(a *api.Alert) { a.Before++ }, func(a *api.Alert) { a.Withdrawn = !a.Withdrawn },
		func(a *api.Alert) { a.Cells = append(a.Cells, 5) }, func(a *api.Alert) { a.Cells = list(0, 2) }, func(a *api.Alert) { a.Cells = list(3, 0) }, func(a *api.Alert) { a.Cells = list(7) }, func(a *api.Alert) { a.Cells = nil },
	}
	for _, from := range []api.Alert{{}, exampleAlert(), laterAlert(), withdrawn(3, 5)} {
		for i, change := range changes {
			for k, other := range changes {
				a, b := copied(from), copied(from)
				change(&a)
				other(&b)
				want := i == k || slices.Equal(a.Cells, b.Cells) && fmt.Sprint(a) == fmt.Sprint(b)
				if got := Same(a, b); got != want {
					t.Errorf("%v, %v: %v", a, b, got)
				}
			}
		}
	}
	none, empty := withdrawn(1, 0), withdrawn(1, 0)
	none.Cells, empty.Cells = nil, list()
	if !Same(none, empty) || !Same(empty, none) {
		t.Error("nil and empty")
	}
}

const exampleText = "alert s1 1\ntime 5\nchance 1 20\ngrid 1\ncells 0 3\nbefore 0\nend\n"

// P10.2: the example, and that of a withdrawal.
func TestPrint(t *testing.T) {
	text, e := Print(exampleAlert())
	is(t, "example", text, e, exampleText, api.OK)
	text, e = Print(withdrawn(1000, api.DigestPrime-1))
	is(t, "withdrawn", text, e, "alert s1 1000\ntime 6\nchance 1 20\ngrid 1\nwithdrawn\nbefore 2147483646\nend\n", api.OK)
	text, e = Print(laterAlert())
	is(t, "later", text, e, "alert s1 2\ntime 6\nchance 3 20\ngrid 2\ncells 4 5 23\nbefore 1234567\nend\n", api.OK)
}

// P10.2, P10.10: what is printed is the text, and parsed it is the same alert.
func TestPrintAndParse(t *testing.T) {
	r := rand.New(rand.NewSource(2))
	all := validAlerts()
	for range 2000 {
		all = append(all, randomAlert(r))
	}
	seen := map[string]api.Alert{}
	for _, a := range all {
		text, e := Print(a)
		is(t, fmt.Sprint(a), text, e, modelText(a), api.OK)
		back, e := Parse(text)
		is(t, text, back, e, a, api.OK)
		if !Same(a, back) {
			t.Errorf("%v, %v", a, back)
		}
		// Alerts with the same text are the same.
		if b, isSeen := seen[text]; isSeen && !Same(a, b) {
			t.Errorf("%v and %v: %q", a, b, text)
		}
		seen[text] = a
		digest, e := Digest(a)
		is(t, text, digest, e, modelDigest(a), api.OK)
	}
}

// P10.2: a digest that is known.
func TestDigest(t *testing.T) {
	want := 7
	for _, c := range []byte(exampleText) {
		want = (31*want + int(c) + 1) % 2147483647
	}
	digest, e := Digest(exampleAlert())
	is(t, "example", digest, e, want, api.OK)
	// Digests are from 0 on, and get near to the greatest one.
	least, most, a := want, want, exampleAlert()
	for a.Time = range 20000 {
		digest := must[int](t)(Digest(a))
		least, most = min(least, digest), max(most, digest)
	}
	if least < 0 || least > 2000000 || most >= api.DigestPrime || most < api.DigestPrime-2000000 {
		t.Errorf("digests from %d to %d", least, most)
	}
}

func parses(t *testing.T, text string) {
	t.Helper()
	want, isText := modelAlert(text)
	e := api.OK
	if !isText {
		want, e = api.Alert{}, api.ErrForm
	}
	a, got := Parse(text)
	is(t, fmt.Sprintf("%q", text), a, got, want, e)
}

// P10.2: each text in which a byte is other, missing, or more.
func TestParseBytes(t *testing.T) {
	bytes := []byte(" \n\r\t0123456789-+_.azlAZ/\x00\x0b\x85\xa0\xff")
	for _, a := range []api.Alert{exampleAlert(), laterAlert(), withdrawn(12, 90)} {
		text := modelText(a)
		for i := range len(text) + 1 {
			parses(t, text[:i])
			parses(t, text[i:])
			for _, c := range bytes {
				parses(t, text[:i]+string([]byte{c})+text[i:])
				if i < len(text) {
					parses(t, text[:i]+string([]byte{c})+text[i+1:])
				}
			}
			if i < len(text) {
				parses(t, text[:i]+text[i+1:])
			}
		}
	}
}

// P10.2: each text in which lines, or tokens, are other, missing, or more.
func TestParseLines(t *testing.T) {
	for _, a := range []api.Alert{exampleAlert(), laterAlert(), withdrawn(12, 90)} {
		for _, by := range []string{"\n", " "} {
			rows := strings.SplitAfter(modelText(a), by)
			for i := range rows {
				parses(t, strings.Join(slices.Delete(slices.Clone(rows), i, i+1), ""))
				for k := range rows {
					swapped := slices.Clone(rows)
					swapped[i], swapped[k] = swapped[k], swapped[i]
					parses(t, strings.Join(swapped, ""))
					parses(t, strings.Join(slices.Insert(slices.Clone(rows), i, rows[k]), ""))
				}
				for _, row := range []string{"withdrawn\n", "cells\n", "cells 0\n", "cells 0 3\n", "\n", "end\n", "x\n", "x", "time 5\n", "time 6\n", "before 0\n", " "} {
					parses(t, strings.Join(slices.Insert(slices.Clone(rows), i, row), ""))
				}
			}
		}
	}
}

// P10.2, R9: numbers that are out of their ranges, or written otherwise.
func TestParseNumbers(t *testing.T) {
	numbers := []string{"", "0", "00", "01", "05", "+5", "-0", "-1", "5.", "5.0", "0x5", "1_0", "1e1", " 5", "5 ", "1", "2", "3", "5", "6", "8", "9", "20", "21", "256", "257", "1000", "1001", "1073741824", "1073741825", "2147483646", "2147483647", "4294967296", "4294967301", "9223372036854775807", "9223372036854775808", "18446744073709551616", "18446744073709551621", "-9223372036854775808", "99999999999999999999", "five", "٥", "²"}
	for _, text := range []string{exampleText, modelText(laterAlert()), modelText(withdrawn(12, 90))} {
		tokens := strings.FieldsFunc(text, func(c rune) bool { return c == ' ' || c == '\n' })
		at := 0
		for _, token := range tokens {
			at += strings.Index(text[at:], token)
			for _, n := range numbers {
				parses(t, text[:at]+n+text[at+len(token):])
			}
			at += len(token)
		}
	}
}

// P10.2: texts that are too long, and those that are just not.
func TestParseLong(t *testing.T) {
	for _, c := range []struct {
		text string
		want api.Errno
	}{
		{"", api.ErrForm}, {"\n", api.ErrForm}, {strings.Repeat("\n", 65536), api.ErrForm}, {strings.Repeat("\n", 65537), api.ErrLimit}, {strings.Repeat("cells 0\n", 8192), api.ErrForm}, {strings.Repeat(exampleText, 2), api.ErrForm},
		{exampleText + strings.Repeat("\n", 65536-len(exampleText)), api.ErrForm}, {exampleText + strings.Repeat("\n", 65537-len(exampleText)), api.ErrLimit}, {strings.Repeat("\xff", 65536), api.ErrForm}, {strings.Repeat("1 ", 1<<20), api.ErrLimit}, {"alert " + strings.Repeat("a", 65530), api.ErrForm}, {"cells " + strings.Repeat("1 ", 32765), api.ErrForm},
		{strings.Replace(exampleText, "0 3", strings.Repeat("0", 60000)+" 3", 1), api.ErrForm}, {strings.Replace(exampleText, " 3", " "+strings.Repeat("3", 60000), 1), api.ErrForm}, {strings.Replace(exampleText, "s1", strings.Repeat("s", 60000), 1), api.ErrForm},
	} {
		a, e := Parse(c.text)
		is(t, fmt.Sprintf("%.20q", c.text), a, e, api.Alert{}, c.want)
	}
}

// P10.2: alerts that are not valid have no text.
func TestParseWrong(t *testing.T) {
	for _, a := range wrongAlerts() {
		if len(a.Cells) < 1000 {
			parses(t, modelText(a))
		}
	}
}
