package alert

import (
	"strconv"
	"strings"

	"ringdown/api"
)

// The words with which lines begin.
const (
	wordAlert     = "alert"
	wordTime      = "time"
	wordChance    = "chance"
	wordGrid      = "grid"
	wordCells     = "cells"
	wordWithdrawn = "withdrawn"
	wordBefore    = "before"
	wordEnd       = "end"
)

// sheet is an alert that is written and read line by line.
type sheet api.Alert

func line(start string, numbers ...int) string {
	var text strings.Builder
	text.WriteString(start)
	for _, n := range numbers {
		text.WriteByte(' ')
		text.WriteString(strconv.Itoa(n))
	}
	text.WriteByte('\n')
	return text.String()
}

func (s sheet) head() string { return line(wordAlert+" "+s.Event, s.Version) }

func (s sheet) time() string { return line(wordTime, s.Time) }

func (s sheet) chance() string { return line(wordChance, s.Chance.N, s.Chance.Of) }

func (s sheet) grid() string { return line(wordGrid, s.Grid) }

func (s sheet) where() string {
	if s.Withdrawn {
		return line(wordWithdrawn)
	}
	return line(wordCells, s.Cells...)
}

func (s sheet) before() string { return line(wordBefore, s.Before) }

func (s sheet) end() string { return line(wordEnd) }

// textOf returns the text of a valid alert.
func textOf(a api.Alert) string {
	s := sheet(a)
	lines := [...]func() string{s.head, s.time, s.chance, s.grid, s.where, s.before, s.end}
	var text strings.Builder
	for _, write := range lines {
		text.WriteString(write())
	}
	return text.String()
}

// read returns the alert whose text this may be. It looks only at what an alert needs: whether the text is that of the alert shows when this is written.
func read(text string) api.Alert {
	var s sheet
reading:
	for row := range strings.Lines(text) {
		word, rest, _ := strings.Cut(strings.TrimSuffix(row, "\n"), " ")
		if word == wordAlert {
			s.Event, rest, _ = strings.Cut(rest, " ")
		}
		var numbers []int
		for _, token := range strings.Fields(rest) {
			n, err := strconv.Atoi(token)
			if err != nil {
				break reading
			}
			numbers = append(numbers, n)
		}
		s.put(word, numbers)
	}
	return api.Alert(s)
}

// put takes in what a line says that begins with a word.
func (s *sheet) put(word string, numbers []int) {
	var two [2]int
	copy(two[:], numbers)
	switch word {
	case wordAlert:
		s.Version = two[0]
	case wordTime:
		s.Time = two[0]
	case wordChance:
		s.Chance = api.Chance{N: two[0], Of: two[1]}
	case wordGrid:
		s.Grid = two[0]
	case wordCells:
		s.Cells = numbers
	case wordWithdrawn:
		s.Withdrawn = true
	case wordBefore:
		s.Before = two[0]
	}
}

// digestOf returns the digest of a valid alert.
func digestOf(a api.Alert) int {
	digest := 7
	for _, c := range []byte(textOf(a)) {
		digest = (digest*api.DigestStep + int(c) + 1) % api.DigestPrime
	}
	return digest
}
