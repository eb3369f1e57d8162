package record

import "ringdown/api"

// joiner returns a function that puts spans into a list, each one behind those before it: it joins what meets, and leaves out what is empty.
func joiner(list *[]api.Span) func(api.Span) {
	return func(s api.Span) {
		last := len(*list) - 1
		switch {
		case s.From == s.To:
		case last >= 0 && (*list)[last].To == s.From:
			(*list)[last].To = s.To
		default:
			*list = append(*list, s)
		}
	}
}

// gaps returns the spans of seconds from from on, before to, that are no Start of a frame of a record.
func gaps(l []api.Frame, from, to int) []api.Span {
	var list []api.Span
	add := joiner(&list)
	for _, f := range l {
		if from <= f.Start && f.Start < to {
			add(api.Span{From: from, To: f.Start})
			from = f.Start + 1
		}
	}
	add(api.Span{From: from, To: to})
	return list
}
