package short

import (
	"strings"
	"testing"

	"ringdown/api"
)

func TestIs(t *testing.T) {
	for _, x := range []struct {
		a             api.Num
		isShort, real bool
	}{
		{"0", true, true}, {"1", true, true}, {"-1", true, true}, {"4096", true, true}, {"-4096", true, true}, {"1/4096", true, true}, {"-4095/4096", true, true}, {"4096/4095", true, true},
		{"i", true, false}, {"-4096-4096i", true, false}, {"1/4096+4095/4096i", true, false}, {"-1/4096i", true, false},
		{"4097", false, false}, {"-4097", false, false}, {"1/4097", false, false}, {"4097/2", false, false}, {"4097i", false, false}, {"1+4097i", false, false}, {"1-1/4097i", false, false}, {"1/4097+i", false, false},
		{"9223372036854775808", false, false}, {api.Num(strings.Repeat("1", 2000)), false, false}, {api.Num(strings.Repeat("1", 2001)), false, false},
		{"", false, false}, {"x", false, false}, {"2/4", false, false}, {"4096/4096", false, false}, {"+1", false, false}, {"01", false, false}, {"0.5", false, false}, {" 1", false, false}, {"1/0", false, false}, {"-", false, false}, {"/", false, false},
	} {
		if Is(x.a) != x.isShort || IsReal(x.a) != x.real {
			t.Errorf("%q: %v, %v", x.a, Is(x.a), IsReal(x.a))
		}
	}
}
