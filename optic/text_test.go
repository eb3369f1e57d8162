package optic

import (
	"math/rand"
	"strings"
	"testing"

	"ringdown/api"
)

const cavityText = "laser l 1\nmirror m 3/5 4/5\nmirror n 3/5 4/5\ndiode d\nlink l.0 m.0 1\nlink m.1 n.0 1\nlink n.1 d.0 1\nend\n"

// P2.2: texts of benches.
func TestPrint(t *testing.T) {
	for _, x := range []struct {
		b    api.Bench
		want string
	}{
		{api.Bench{}, "end\n"},
		{cavity(), cavityText},
		{michelson("-i"), "laser l 2+i\nsplitter s 3/5 4/5\nmirror x 1 0\nmirror y 4/5 3/5\ndiode d\nlink l.0 s.0 1\nlink s.2 x.0 -i\nlink s.1 y.0 3/5-4/5i\nlink d.0 s.3 i\nend\n"},
	} {
		if text, e := Print(x.b); text != x.want || e != api.OK {
			t.Errorf("%q, %d, not %q", text, e, x.want)
		}
	}
}

// P2.2: texts that are benches, also with more blanks and lines than those that are printed.
func TestParse(t *testing.T) {
	for _, x := range []struct {
		text string
		want api.Bench
	}{
		{"end", api.Bench{}},
		{"\n \n  end   \n   \n\n", api.Bench{}},
		{cavityText, cavity()},
		{"  " + strings.ReplaceAll(strings.ReplaceAll(cavityText, " ", "   "), "\n", "  \n\n"), cavity()},
		{"diode link\ndiode end\nlink end.0 link.0 i\nend", api.Bench{Elements: []api.Element{diode("link"), diode("end")}, Links: []api.Link{link(1, 0, 0, 0, "i")}}},
		{"splitter s 0 0\nlink s.3 s.2 1\nend", api.Bench{Elements: []api.Element{splitter("s", "0", "0")}, Links: []api.Link{link(0, 3, 0, 2, "1")}}},
	} {
		if b, line, e := Parse(x.text); !Same(b, x.want) || line != 0 || e != api.OK {
			t.Errorf("%q: %v, %d, %d", x.text, b, line, e)
		}
	}
}

// P2.2: wrong lines, the first one of several.
func TestParseWrongLines(t *testing.T) {
	for _, x := range []struct {
		text string
		line int
	}{
		{"x", 1}, {"laser", 1}, {"laser l", 1}, {"laser l 1 2\nend", 1}, {"diode", 1}, {"diode d 0\nend", 1}, {"mirror m 0", 1}, {"mirror m", 1}, {"mirror m 0 0 0", 1}, {"splitter s 0", 1}, {"splitter s 0 0 0", 1},
		{"Laser l 1", 1}, {"lasers l 1", 1}, {"end end", 1}, {"end 1", 1}, {"\tend", 1}, {"end\t", 1}, {"end\r\n", 1}, {"\xff", 1},
		{"\n\n x \n y", 3}, {"diode d\n\n\ndiode", 4}, {"end\nend", 2}, {"end\n\n \ndiode d", 4}, {"end\nx", 2},
		{"diode d\nlink d.0 d.0", 2}, {"diode d\nlink d.0 d.0 1 1", 2}, {"diode d\nlink d.0", 2}, {"diode d\nlink", 2},
		{"diode d\nlink d d.0 1", 2}, {"diode d\nlink d.0 d 1", 2}, {"diode d\nlink d. d.0 1", 2}, {"diode d\nlink d.00 d.0 1", 2}, {"diode d\nlink d.0 d.10 1", 2}, {"diode d\nlink d.x d.0 1", 2}, {"diode d\nlink d.0.0 d.0 1", 2}, {"diode d\nlink d..0 d.0 1", 2}, {"diode d\nlink d.. d.0 1", 2}, {"diode d\nlink .0 d.0 1", 2}, {"diode d\nlink 0.d d.0 1", 2}, {"diode d\nlink d.0 d.- 1", 2}, {"diode d\nlink d./ d.: 1", 2}, {"diode d\nlink d.0 d.٣ 1", 2},
		{"diode a.b\nlink a.b.0 a.b.0 1", 2},
		{"diode d\nlink e.0 d.0 1", 2}, {"diode d\nlink d.0 e.0 1", 2}, {"diode d\nlink D.0 d.0 1", 2}, {"link d.0 d.0 1\ndiode d\nend", 1},
		{"diode d\ndiode e\nlink d.0 e.0 1\ndiode f\nend", 4}, {"diode d\nlink d.0 d.0 x\nlaser l 1\nend", 3},
		{"diode d\nend\nlink d.0 d.0 1", 3}, {"end\ndiode d\nx", 2}, {"x\nend\ny", 1},
		{strings.Repeat("diode d\n", 9) + "x\nend", 10},
		{"laser 1 x\nmirror m -1 y\nlink 1.0 m.9 z\nx", 4},
	} {
		if b, line, e := Parse(x.text); !Same(b, api.Bench{}) || line != x.line || e != api.ErrForm {
			t.Errorf("%q: %v, %d, %d, not %d", x.text, b, line, e, x.line)
		}
	}
}

// P2.2: errors without a line.
func TestParseErrors(t *testing.T) {
	full := cavityText + strings.Repeat(" ", api.MaxText-len(cavityText))
	if b, line, e := Parse(full); !Same(b, cavity()) || line != 0 || e != api.OK {
		t.Errorf("65536 bytes: %v, %d, %d", b, line, e)
	}
	for _, x := range []struct {
		text string
		e    api.Errno
	}{
		{full + " ", api.ErrLimit}, {"x\n" + full, api.ErrLimit}, {strings.Repeat("\n", api.MaxText+1), api.ErrLimit},
		{"", api.ErrForm}, {"\n\n", api.ErrForm}, {"diode d", api.ErrForm}, {strings.TrimSuffix(cavityText, "end\n"), api.ErrForm}, {"diode d\ndiode d\n", api.ErrForm}, {strings.Repeat("\n", api.MaxText), api.ErrForm},
		{strings.Repeat("diode d\n", 9), api.ErrForm},
		{strings.Repeat("diode d\n", 9) + "end", api.ErrLimit},
		{"splitter s 0 0\n" + strings.Repeat("link s.0 s.1 1\n", 13) + "end", api.ErrLimit},
		{"diode D\nend", api.ErrBench}, {"diode a.b\nend", api.ErrBench}, {"diode d\ndiode d\nend", api.ErrBench}, {"laser l 4097\nend", api.ErrBench}, {"laser l x\nend", api.ErrBench}, {"laser l 01\nend", api.ErrBench}, {"mirror m 1 1\nend", api.ErrBench},
		{"diode d\nlink d.0 d.0 1\nend", api.ErrBench}, {"diode d\ndiode e\nlink d.0 e.1 1\nend", api.ErrBench}, {"diode d\ndiode e\nlink d.0 e.9 1\nend", api.ErrBench}, {"diode d\ndiode e\nlink d.0 e.0 2\nend", api.ErrBench}, {"diode d\ndiode e\nlink d.0 e.0 ?\nend", api.ErrBench},
	} {
		if b, line, e := Parse(x.text); !Same(b, api.Bench{}) || line != 0 || e != x.e {
			t.Errorf("%.60q: %v, %d, %d, not %d", x.text, b, line, e, x.e)
		}
	}
}

// P2.13: a bench that is printed and parsed is the same.
func TestPrintAndParse(t *testing.T) {
	r := rand.New(rand.NewSource(2))
	benches := []api.Bench{{}, cavity(), michelson("-1"), largest(), perfect()}
	for range 300 {
		benches = append(benches, randomBench(r, false, allKinds...))
	}
	for _, b := range benches {
		text := must[string](t)(Print(b))
		if again, line, e := Parse(text); !Same(again, b) || line != 0 || e != api.OK {
			t.Fatalf("%q: %v, %d, %d", text, again, line, e)
		}
	}
}
