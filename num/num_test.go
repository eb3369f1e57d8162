package num

import (
	"math"
	"math/big"
	"math/rand"
	"slices"
	"testing"

	"ringdown/api"
)

// P1.1: names.
func TestNames(t *testing.T) {
	for s, want := range map[string]bool{
		"a": true, "z": true, "a_9": true, "x________________"[:16]: true, "abcdefghijklmnop": true,
		"": false, "abcdefghijklmnopq": false, "_a": false, "9a": false, "A": false, "aB": false, "a-b": false, "a b": false, "a\x00": false, "ä": false, "aä": false, "`": false, "{": false, "a{": false, "a/": false, "a:": false,
	} {
		if IsName(s) != want {
			t.Errorf("IsName(%q)", s)
		}
	}
}

// P1.1: which texts are numbers.
func TestCheck(t *testing.T) {
	for _, a := range list("0", "1", "-1", "10", "1/2", "-1/2", "10/3", "i", "-i", "2i", "-2i", "1/2i", "-1/2i", "1+i", "1-i", "-1-i", "-1/2-3/4i", "3/5+4/5i", "10+10i", "1/10-i",
		nines(2000), "-"+nines(2000), "1/"+nines(2000), nines(2000)+"/1"+api.Num(zeros(1999)), nines(2000)+"-"+nines(2000)+"i") {
		if e := Check(a); e != api.OK {
			t.Errorf("Check(%.40s): %d", a, e)
		}
	}
	for _, a := range list("", "+1", "+i", "+", "-", "/", "--1", "--", "-0", "00", "01", "-01", "1.5", "1e3", " 1", "1 ", "1\n", "a", "1/", "/2", "1/-2", "1/+2", "1/2/3", "2/4", "0/2", "0/1", "1/0", "0/0", "2/1", "3/03", "1/02",
		"0i", "-0i", "1i", "-1i", "ii", "i2", "i+1", "1+1i", "1-1i", "1+0i", "1-0i", "0+i", "0-i", "-0+i", "0/2+i", "1+-i", "1-+i", "1--i", "1++i", "1+", "1+2", "1-2", "1+i+i", "1+2i+3i", "1/2+2/4i", "2/4+i", "1+i2", "1/1i", "0/1i", "/i", "1/i", "I", "-+i", "+-i", "--i", "1+2j", "1\x00", "१",
		nines(2001), "1/"+nines(2001), "1+"+nines(2001)+"i", "1/"+nines(2001)+"i", "-"+nines(2001), api.Num(zeros(2001))) {
		if e := Check(a); e != api.ErrNum {
			t.Errorf("Check(%.40s): %d", a, e)
		}
		if IsReal(a) {
			t.Errorf("IsReal(%.40s)", a)
		}
	}
}

// P1.1: of all short texts those are numbers that numbers have.
func TestShortTexts(t *testing.T) {
	const letters, most = "012/+-i", 4
	valid := map[api.Num]bool{"0": true}
	for n := int64(1); n < 2223; n++ {
		for d := int64(1); d < 223; d++ {
			x, zero := big.NewRat(n, d), new(big.Rat)
			if len(x.RatString()) > most {
				continue
			}
			for _, y := range []*big.Rat{x, new(big.Rat).Neg(x)} {
				valid[pair{y, zero}.text()] = true
				valid[pair{zero, y}.text()] = true
				for k := int64(-22); k < 23; k++ {
					valid[pair{big.NewRat(k, 1), y}.text()] = true
				}
			}
		}
	}
	var grow func(text string)
	grow = func(text string) {
		if e := Check(api.Num(text)); (e == api.OK) != valid[api.Num(text)] {
			t.Errorf("Check(%s): %d", text, e)
		}
		for _, c := range []byte(letters) {
			if len(text) < most {
				grow(text + string(c))
			}
		}
	}
	grow("")
}

// P1.1: ErrNum before all other errors, in each place.
func TestErrNumFirst(t *testing.T) {
	for _, bad := range list("", "x", "2/4", "1+0i", nines(2001)) {
		for what, f := range map[string]func() (api.Num, api.Errno){
			"Join":        func() (api.Num, api.Errno) { return Join(bad, "i") },
			"Join second": func() (api.Num, api.Errno) { return Join("i", bad) },
			"Re":          func() (api.Num, api.Errno) { return Re(bad) },
			"Im":          func() (api.Num, api.Errno) { return Im(bad) },
			"Neg":         func() (api.Num, api.Errno) { return Neg(bad) },
			"Conj":        func() (api.Num, api.Errno) { return Conj(bad) },
			"Norm":        func() (api.Num, api.Errno) { return Norm(bad) },
			"Add":         func() (api.Num, api.Errno) { return Add(bad, "1") },
			"Add second":  func() (api.Num, api.Errno) { return Add("1", bad) },
			"Sub":         func() (api.Num, api.Errno) { return Sub(bad, "1") },
			"Sub second":  func() (api.Num, api.Errno) { return Sub("1", bad) },
			"Mul":         func() (api.Num, api.Errno) { return Mul(bad, "1") },
			"Mul second":  func() (api.Num, api.Errno) { return Mul("0", bad) },
			"Div":         func() (api.Num, api.Errno) { return Div(bad, "0") },
			"Div second":  func() (api.Num, api.Errno) { return Div("1", bad) },
			"Power":       func() (api.Num, api.Errno) { return Power(bad, 65) },
			"Unit":        func() (api.Num, api.Errno) { return Unit(bad) },
			"Sum":         func() (api.Num, api.Errno) { return Sum(list("1", bad)) },
			"Dot":         func() (api.Num, api.Errno) { return Dot(list("1", bad), list("1", "1")) },
			"Dot second":  func() (api.Num, api.Errno) { return Dot(list("1", "0"), list("1", bad)) },
			"Floor":       func() (api.Num, api.Errno) { return Floor(bad) },
			"At":          func() (api.Num, api.Errno) { return At(nil, bad) },
		} {
			a, e := f()
			fails(t, what, a, e, api.ErrNum)
		}
		for what, f := range map[string]func() (int, api.Errno){
			"Cmp":        func() (int, api.Errno) { return Cmp(bad, "i") },
			"Cmp second": func() (int, api.Errno) { return Cmp("i", bad) },
			"Int":        func() (int, api.Errno) { return Int(bad) },
			"Count":      func() (int, api.Errno) { return Count(list("i"), bad, "1") },
			"Count high": func() (int, api.Errno) { return Count(nil, "i", bad) },
		} {
			if n, e := f(); n != 0 || e != api.ErrNum {
				t.Errorf("%s: %d, %d", what, n, e)
			}
		}
		if low, high, e := Root(bad, -1); low != "" || high != "" || e != api.ErrNum {
			t.Errorf("Root: %s, %s, %d", low, high, e)
		}
	}
}

// P1.1: results of 2000 digits are good, those of 2001 too big, after all other errors; what is calculated on the way may be longer.
func TestErrBig(t *testing.T) {
	most := nines(2000)
	great := api.Num("1" + zeros(1999))
	for what, f := range map[string]func() (api.Num, api.Errno){
		"Add":       func() (api.Num, api.Errno) { return Add(most, "1") },
		"Add below": func() (api.Num, api.Errno) { return Add("1/"+most, "-1/"+great) },
		"Add i":     func() (api.Num, api.Errno) { return Add(most+"i", "i") },
		"Sub":       func() (api.Num, api.Errno) { return Sub("-"+most, "1") },
		"Mul":       func() (api.Num, api.Errno) { return Mul(great, "10") },
		"Mul i":     func() (api.Num, api.Errno) { return Mul(great+"i", "10") },
		"Mul near 1": func() (api.Num, api.Errno) {
			return Mul(most+"/"+great+"+"+great+"/"+most+"i", most+"/"+great+"-"+great+"/"+most+"i")
		},
		"Div":         func() (api.Num, api.Errno) { return Div("1/"+great, "10") },
		"Norm":        func() (api.Num, api.Errno) { return Norm(most) },
		"Power":       func() (api.Num, api.Errno) { return Power("1"+api.Num(zeros(1000)), 2) },
		"Power below": func() (api.Num, api.Errno) { return Power("1"+api.Num(zeros(1000)), -2) },
		"Power last":  func() (api.Num, api.Errno) { return Power(most+"-1/"+most+"i", 64) },
		"Power first": func() (api.Num, api.Errno) { return Power(most+"-1/"+most+"i", -64) },
		"Unit":        func() (api.Num, api.Errno) { return Unit(most) },
		"Sum":         func() (api.Num, api.Errno) { return Sum(list(most, most, "-1")) },
		"Dot":         func() (api.Num, api.Errno) { return Dot(list(most, "1"), list("2", "1")) },
		"At":          func() (api.Num, api.Errno) { return At(list("0", "0", "1"), most) },
		"Det":         func() (api.Num, api.Errno) { return Det([][]api.Num{{most, "1"}, {"-1", most}}) },
	} {
		a, e := f()
		fails(t, what, a, e, api.ErrBig)
	}
	for what, f := range map[string]func() (api.Num, api.Errno){
		"Add":   func() (api.Num, api.Errno) { return Add(nines(1999)+"8", "1") },
		"Mul":   func() (api.Num, api.Errno) { return Mul(most, "1") },
		"Div":   func() (api.Num, api.Errno) { return Div(most+"i", "i") },
		"Sum":   func() (api.Num, api.Errno) { return Sum(list(most, most, most, "-"+most, "-"+most)) },
		"Sum/":  func() (api.Num, api.Errno) { return Sum(list(most, "1/"+most, "1/7", "-1/7", "-1/"+most)) },
		"Dot":   func() (api.Num, api.Errno) { return Dot(list(most, most, "-1"), list(most, "-"+most, "-"+most)) },
		"Dot/":  func() (api.Num, api.Errno) { return Dot(list("1/"+most, "1"), list(most, nines(1999)+"8")) },
		"At":    func() (api.Num, api.Errno) { return At(list(most, "-"+most, "1"), most) },
		"Det":   func() (api.Num, api.Errno) { return Det([][]api.Num{{most, most}, {most, nines(1999) + "8"}}) },
		"Power": func() (api.Num, api.Errno) { return Power(most, 1) },
	} {
		a, e := f()
		want := most
		if what == "Det" {
			want = "-" + most
		}
		same(t, what, a, e, want)
	}
	if q, r, e := Divide(list("0", most), list("0", "1/2")); len(q) != 0 || len(r) != 0 || e != api.ErrBig {
		t.Errorf("Divide: %d", e)
	}
	if q, r, e := Divide(list("0", most), list(most, "1")); len(q) != 0 || len(r) != 0 || e != api.ErrBig {
		t.Errorf("Divide with a great rest: %d", e)
	}
	for what, f := range map[string]func() ([]api.Num, api.Errno){
		"PolyAdd": func() ([]api.Num, api.Errno) { return PolyAdd(list("1", most), list("1", "1")) },
		"PolySub": func() ([]api.Num, api.Errno) { return PolySub(list("1", most), list("1", "-1")) },
		"PolyMul": func() ([]api.Num, api.Errno) { return PolyMul(list("1", most), list("2", "2")) },
		"Common":  func() ([]api.Num, api.Errno) { return Common(list(most, "1/2"), list(most, "1/2")) },
		"Derive":  func() ([]api.Num, api.Errno) { return Derive(list("1", "0", most)) },
		"Times":   func() ([]api.Num, api.Errno) { return Times([][]api.Num{{"1"}, {"2"}}, list(most)) },
		"Solve":   func() ([]api.Num, api.Errno) { return Solve([][]api.Num{{"1/2"}}, list(most)) },
	} {
		l, e := f()
		failsList(t, what, l, e, api.ErrBig)
	}
	a, e := Div(most, "0")
	fails(t, "Div by 0", a, e, api.ErrZero)
	a, e = Power(most, 65)
	fails(t, "Power", a, e, api.ErrRange)
}

// P1.2.
func TestParts(t *testing.T) {
	for _, x := range []struct {
		n, d int
		want api.Num
	}{{6, -4, "-3/2"}, {-6, -4, "3/2"}, {0, -7, "0"}, {7, 7, "1"}, {math.MinInt, 1, "-9223372036854775808"}, {math.MinInt, -1, "9223372036854775808"}, {1, math.MinInt, "-1/9223372036854775808"}, {math.MaxInt, math.MinInt, "-9223372036854775807/9223372036854775808"}} {
		a, e := Of(x.n, x.d)
		same(t, "Of", a, e, x.want)
	}
	for _, n := range []int{0, 1, math.MinInt} {
		a, e := Of(n, 0)
		fails(t, "Of", a, e, api.ErrZero)
	}
	for _, x := range [][3]api.Num{{"3/5", "4/5", "3/5+4/5i"}, {"0", "-1", "-i"}, {"0", "0", "0"}, {"-1", "1", "-1+i"}} {
		a, e := Join(x[0], x[1])
		same(t, "Join", a, e, x[2])
	}
	norm, e := Norm("3/5+4/5i")
	same(t, "Norm", norm, e, "1")
	for _, x := range [][2]api.Num{{"i", "1"}, {"1", "i"}, {"1+i", "1+i"}} {
		a, e := Join(x[0], x[1])
		fails(t, "Join", a, e, api.ErrReal)
	}
	r := rand.New(rand.NewSource(2))
	for range 2000 {
		p := randomPair(r)
		a, x, y := p.text(), api.Num(p.x.RatString()), api.Num(p.y.RatString())
		got, e := Join(x, y)
		same(t, "Join", got, e, a)
		got, e = Re(a)
		same(t, "Re", got, e, x)
		got, e = Im(a)
		same(t, "Im", got, e, y)
		got, e = Neg(a)
		same(t, "Neg", got, e, pairOf(0).less(p).text())
		got, e = Conj(a)
		same(t, "Conj", got, e, pair{p.x, new(big.Rat).Neg(p.y)}.text())
		got, e = Norm(a)
		same(t, "Norm", got, e, api.Num(p.norm().RatString()))
		if IsReal(a) != (p.y.Sign() == 0) {
			t.Fatalf("IsReal(%s)", a)
		}
	}
}

// P1.3.
func TestFour(t *testing.T) {
	r := rand.New(rand.NewSource(3))
	for range 3000 {
		p, q := randomPair(r), randomPair(r)
		a, b := p.text(), q.text()
		got, e := Add(a, b)
		same(t, "Add", got, e, p.plus(q).text())
		got, e = Sub(a, b)
		same(t, "Sub", got, e, p.less(q).text())
		got, e = Mul(a, b)
		same(t, "Mul", got, e, p.times(q).text())
		got, e = Div(a, b)
		if q.isZero() {
			fails(t, "Div", got, e, api.ErrZero)
			continue
		}
		same(t, "Div", got, e, p.over(q).text())
	}
	for _, x := range [][3]api.Num{{"1+2i", "3-i", "5+5i"}, {"i", "i", "-1"}, {"1/2i", "-2i", "1"}} {
		got, e := Mul(x[0], x[1])
		same(t, "Mul", got, e, x[2])
	}
	got, e := Div("1", "1+i")
	same(t, "Div", got, e, "1/2-1/2i")
}

// P1.3: powers and turns.
func TestPowers(t *testing.T) {
	r := rand.New(rand.NewSource(4))
	for range 40 {
		p := smallPair(r)
		up, down := pairOf(1), pairOf(1)
		for n := 0; n <= 64; n++ {
			got, e := Power(p.text(), n)
			same(t, "Power", got, e, up.text())
			up = up.times(p)
			if p.isZero() {
				continue
			}
			got, e = Power(p.text(), -n)
			same(t, "Power", got, e, down.text())
			down = down.over(p)
		}
	}
	for _, x := range []struct {
		a    api.Num
		n    int
		want api.Errno
	}{{"0", -1, api.ErrZero}, {"0", -64, api.ErrZero}, {"0", -65, api.ErrRange}, {"1", 65, api.ErrRange}, {"1", math.MaxInt, api.ErrRange}, {"1", math.MinInt, api.ErrRange}} {
		got, e := Power(x.a, x.n)
		fails(t, "Power", got, e, x.want)
	}
	got, e := Power("1+i", -2)
	same(t, "Power", got, e, "-1/2i")
	for _, x := range [][2]api.Num{{"1/2", "3/5+4/5i"}, {"0", "1"}, {"1", "i"}, {"-1", "-i"}, {"-2", "-3/5-4/5i"}} {
		got, e := Unit(x[0])
		same(t, "Unit", got, e, x[1])
		norm, e := Norm(got)
		same(t, "Norm of Unit", norm, e, "1")
	}
	for _, a := range list("i", "1+i") {
		got, e := Unit(a)
		fails(t, "Unit", got, e, api.ErrReal)
	}
}

// P1.4.
func TestSums(t *testing.T) {
	r := rand.New(rand.NewSource(5))
	for n := range 60 {
		l, m := randomPairs(r, n, randomPair), randomPairs(r, n, randomPair)
		total, products := pairOf(0), pairOf(0)
		for i := range l {
			total = total.plus(l[i])
			products = products.plus(l[i].times(m[i]))
		}
		got, e := Sum(texts(l))
		sameOrBig(t, "Sum", got, e, total)
		got, e = Dot(texts(l), texts(m))
		sameOrBig(t, "Dot", got, e, products)
	}
	most := slices.Repeat(list("1/3"), 4096)
	got, e := Sum(most)
	same(t, "Sum", got, e, "4096/3")
	got, e = Dot(most, most)
	same(t, "Dot", got, e, "4096/9")
	many := append(most, "x")
	got, e = Sum(many)
	fails(t, "Sum", got, e, api.ErrLimit)
	got, e = Dot(many, many)
	fails(t, "Dot", got, e, api.ErrLimit)
	got, e = Dot(many, most)
	fails(t, "Dot", got, e, api.ErrShape)
	got, e = Dot(list("x"), nil)
	fails(t, "Dot", got, e, api.ErrShape)
	got, e = Sum(nil)
	same(t, "Sum", got, e, "0")
	got, e = Dot(nil, []api.Num{})
	same(t, "Dot", got, e, "0")
	got, e = Dot(list("i", "2"), list("i", "1/2"))
	same(t, "Dot", got, e, "0")
}

// P1.5: order.
func TestOrder(t *testing.T) {
	r := rand.New(rand.NewSource(6))
	for range 3000 {
		x, y := randomRat(r), randomRat(r)
		if r.Intn(4) == 0 {
			y = x
		}
		a, b := api.Num(x.RatString()), api.Num(y.RatString())
		if n, e := Cmp(a, b); n != x.Cmp(y) || e != api.OK {
			t.Fatalf("Cmp(%s, %s): %d, %d", a, b, n, e)
		}
		floor := new(big.Int).Div(x.Num(), x.Denom())
		got, e := Floor(a)
		same(t, "Floor", got, e, api.Num(floor.String()))
	}
	if n, e := Cmp("1/3", "1/2"); n != -1 || e != api.OK {
		t.Errorf("Cmp(1/3, 1/2): %d, %d", n, e)
	}
	for _, x := range [][2]api.Num{{"i", "0"}, {"0", "i"}, {"1+i", "1+i"}} {
		if n, e := Cmp(x[0], x[1]); n != 0 || e != api.ErrReal {
			t.Errorf("Cmp(%s, %s): %d, %d", x[0], x[1], n, e)
		}
	}
	for _, x := range [][2]api.Num{{"-7/2", "-4"}, {"7/2", "3"}, {"-3", "-3"}, {"-1/9", "-1"}, {"1/9", "0"}} {
		got, e := Floor(x[0])
		same(t, "Floor", got, e, x[1])
	}
	got, e := Floor("1/2+i")
	fails(t, "Floor", got, e, api.ErrReal)
}

// P1.5: ints.
func TestInt(t *testing.T) {
	for a, want := range map[api.Num]int{"0": 0, "-7": -7, "9007199254740991": 1<<53 - 1, "-9007199254740991": 1 - 1<<53, "12": 12} {
		if n, e := Int(a); n != want || e != api.OK {
			t.Errorf("Int(%s): %d, %d", a, n, e)
		}
	}
	for a, want := range map[api.Num]api.Errno{"9007199254740992": api.ErrRange, "-9007199254740992": api.ErrRange, "1/2": api.ErrRange, "18446744073709551616": api.ErrRange, nines(2000): api.ErrRange, "i": api.ErrReal, "1/2+i": api.ErrReal} {
		if n, e := Int(a); n != 0 || e != want {
			t.Errorf("Int(%.40s): %d, %d", a, n, e)
		}
	}
}

// P1.5 and P1.12: roots.
func TestRoots(t *testing.T) {
	r := rand.New(rand.NewSource(7))
	for range 1500 {
		x, bits := randomRat(r), r.Intn(65)
		x.Abs(x)
		if r.Intn(3) == 0 {
			x.Mul(x, x)
		}
		low, high, e := Root(api.Num(x.RatString()), bits)
		if e != api.OK {
			t.Fatalf("Root(%s, %d): %d", x.RatString(), bits, e)
		}
		l, _ := new(big.Rat).SetString(string(low))
		h, _ := new(big.Rat).SetString(string(high))
		unit := new(big.Rat).SetFrac(big.NewInt(1), new(big.Int).Lsh(big.NewInt(1), uint(bits)))
		for _, y := range []*big.Rat{l, h} {
			if y.Sign() < 0 || !new(big.Rat).Quo(y, unit).IsInt() {
				t.Fatalf("Root(%s, %d): %s", x.RatString(), bits, y)
			}
		}
		square := func(a, b *big.Rat) *big.Rat {
			c := new(big.Rat).Add(a, b)
			return c.Mul(c, c)
		}
		isLow := square(l, new(big.Rat)).Cmp(x) <= 0 && square(l, unit).Cmp(x) > 0
		isHigh := square(h, new(big.Rat)).Cmp(x) >= 0 && (h.Sign() == 0 || square(h, new(big.Rat).Neg(unit)).Cmp(x) < 0)
		if !isLow || !isHigh {
			t.Fatalf("Root(%s, %d): %s and %s", x.RatString(), bits, low, high)
		}
	}
	for _, x := range []struct {
		a         api.Num
		bits      int
		low, high api.Num
	}{{"2", 2, "5/4", "3/2"}, {"9/4", 1, "3/2", "3/2"}, {"9/4", 0, "1", "2"}, {"0", 5, "0", "0"}, {"1/2", 0, "0", "1"}, {"4", 64, "2", "2"}} {
		if low, high, e := Root(x.a, x.bits); low != x.low || high != x.high || e != api.OK {
			t.Errorf("Root(%s, %d): %s, %s, %d", x.a, x.bits, low, high, e)
		}
	}
	for _, x := range []struct {
		a    api.Num
		bits int
		want api.Errno
	}{{"-1", 0, api.ErrRange}, {"-1/9", 64, api.ErrRange}, {"1", -1, api.ErrRange}, {"1", 65, api.ErrRange}, {"1", math.MaxInt, api.ErrRange}, {"i", 65, api.ErrReal}, {"-1+i", 0, api.ErrReal}} {
		if low, high, e := Root(x.a, x.bits); low != "" || high != "" || e != x.want {
			t.Errorf("Root(%s, %d): %s, %s, %d", x.a, x.bits, low, high, e)
		}
	}
	if low, high, e := Root(nines(2000), 64); e != api.OK || high == low {
		t.Errorf("Root of 2000 digits: %d", e)
	}
}
