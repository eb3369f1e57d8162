package optic

import (
	"strconv"
	"strings"

	"ringdown/api"
)

const (
	wordLink = "link"
	wordEnd  = "end"
)

// Print returns the text of b.
func Print(b api.Bench) (string, api.Errno) {
	if e := Check(b); e != api.OK {
		return "", e
	}
	var text strings.Builder
	line := func(tokens ...string) {
		text.WriteString(strings.Join(tokens, " "))
		text.WriteByte('\n')
	}
	for _, e := range b.Elements {
		tokens := []string{kindOf(e).word, e.Name}
		for _, n := range kindOf(e).numbers(&e) {
			tokens = append(tokens, string(*n))
		}
		line(tokens...)
	}
	for _, l := range b.Links {
		line(wordLink, portText(b, l.A), portText(b, l.B), string(l.Turn))
	}
	line(wordEnd)
	return text.String(), api.OK
}

func portText(b api.Bench, p api.Port) string {
	return b.Elements[p.Element].Name + "." + strconv.Itoa(p.Port)
}

// Parse returns the bench that a text says, or an error and the number of the line that is wrong, if it is one.
func Parse(text string) (b api.Bench, line int, e api.Errno) {
	if len(text) > api.MaxText {
		return api.Bench{}, 0, api.ErrLimit
	}
	defer func() {
		if wrong, ok := recover().(wrongLine); ok {
			b, line, e = api.Bench{}, int(wrong), api.ErrForm
		}
	}()
	r := reader{first: map[string]int{}}
	for i, l := range strings.Split(text, "\n") {
		r.line = i + 1
		if tokens := strings.FieldsFunc(l, isBlank); len(tokens) > 0 {
			r.read(tokens)
		}
	}
	if !r.ended {
		return api.Bench{}, 0, api.ErrForm
	}
	if e := Check(r.bench); e != api.OK {
		return api.Bench{}, 0, e
	}
	return r.bench, 0, api.OK
}

func isBlank(c rune) bool { return c == ' ' }

// wrongLine is the number of a wrong line, with which a panic leaves it.
type wrongLine int

// reader is what was read of a bench, up to which line, and whether that was its end.
type reader struct {
	bench api.Bench
	line  int
	ended bool
	// first is the index of the first element with a name.
	first map[string]int
}

// need leaves the line as a wrong one unless something is so.
func (r *reader) need(isSo bool) {
	if !isSo {
		panic(wrongLine(r.line))
	}
}

// read takes in the tokens of a line, of which there is at least one.
func (r *reader) read(tokens []string) {
	r.need(!r.ended)
	switch tokens[0] {
	case wordLink:
		r.readLink(tokens)
	case wordEnd:
		r.need(len(tokens) == 1)
		r.ended = true
	default:
		r.readElement(tokens)
	}
}

func (r *reader) readElement(tokens []string) {
	code := codeOf(tokens[0])
	r.need(code != 0 && len(tokens) > 1 && len(r.bench.Links) == 0)
	e := api.Element{Kind: code, Name: tokens[1]}
	numbers := kindOf(e).numbers(&e)
	r.need(len(tokens) == 2+len(numbers))
	for i, n := range numbers {
		*n = api.Num(tokens[2+i])
	}
	if _, ok := r.first[e.Name]; !ok {
		r.first[e.Name] = len(r.bench.Elements)
	}
	r.bench.Elements = append(r.bench.Elements, e)
}

func (r *reader) readLink(tokens []string) {
	r.need(len(tokens) == 4)
	r.bench.Links = append(r.bench.Links, api.Link{
		A:    r.readPort(tokens[1]),
		B:    r.readPort(tokens[2]),
		Turn: api.Num(tokens[3]),
	})
}

func (r *reader) readPort(token string) api.Port {
	name, digit, _ := strings.Cut(token, ".")
	r.need(len(digit) == 1 && digit[0] >= '0' && digit[0] <= '9')
	element, ok := r.first[name]
	r.need(ok)
	return api.Port{Element: element, Port: int(digit[0] - '0')}
}
