package short

import (
	"strings"
	"testing"

	"ringdown/api"
)

func TestIs(t *testing.T) {
	for _, x := range []struct {
		a             api.Num
		isShort, real bool
	}{
		{"0", true, true}, {"1", true, true}, {"-1", true, true}, {"4096", true, true}, {"-4096", true, true}, {"1/4096", true, true}, {"-4095/4096", true, true}, {"4096/4095", true, true},
		{"i", true, false}, {"-4096-4096i", true, false}, {"1/4096+4095/4096i", true, false}, {"-1/4096i", true, false},
		{"4097", false, false}, {"-4097", false, false}, {"1/4097", false, false}, {"4097/2", false, false}, {"4097i", false, false}, {"1+4097i", false, false}, {"1-1/4097i", false, false}, {"1/4097+i", false, false},
		{"9223372036854775808", false, false}, {api.Num(strings.Repeat("1", 2000)), false, false}, {api.Num(strings.Repeat("1", 2001)), false, false},
		{"", false, false}, {"x", false, false}, {"2/4", false, false}, {"4096/4096", false, false}, {"+1", false, false}, {"01", false, false}, {"0.5", false, false}, {" 1", false, false}, {"1/0", false, false}, {"-", false, false}, {"/", false, false},
	} {
		if Is(x.a) != x.isShort || IsReal(x.a) != x.real {
			t.Errorf("%q: %v, %v", x.a, Is(x.a), IsReal(x.a))
		}
	}
}

func TestHasFewPlaces(t *testing.T) {
	most := api.Num("1" + strings.Repeat("0", 199))
	odd := api.Num(strings.Repeat("7", 200))
	for _, a := range []api.Num{"0", "1", "-1", "1/3", "-2/3", most, "-" + most, "1/" + most, "-1/" + most, odd, "-" + odd, most + "/" + odd, "-" + most + "/" + odd} {
		if !HasFewPlaces(a) {
			t.Errorf("%q", a)
		}
	}
	for _, a := range []api.Num{most + "0", "-" + most + "0", "1/" + most + "0", "-1/" + most + "0", odd + "7", odd + "7/2", "1/" + odd + "7", "i", "1+i", "1/2i", "", "x", "2/4", "-", "/", "1/", "+1", "01", "-0", odd + "/" + odd, api.Num(strings.Repeat("1", 2001))} {
		if HasFewPlaces(a) {
			t.Errorf("%q", a)
		}
	}
}
