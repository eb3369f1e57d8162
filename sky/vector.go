package sky

import (
	"sort"

	"ringdown/api"
)

// vector has the coordinates x, y and z.
type vector [3]int

func (v vector) isNone() bool { return v == vector{} }

// isWithin says that all coordinates are from -most to most.
func (v vector) isWithin(most int) bool {
	for _, n := range v {
		if !isFrom(-most, n, most) {
			return false
		}
	}
	return true
}

func (v vector) minus(w vector) vector { return vector{v[0] - w[0], v[1] - w[1], v[2] - w[2]} }

func (v vector) dot(w vector) int { return v[0]*w[0] + v[1]*w[1] + v[2]*w[2] }

func (v vector) square() int { return v.dot(v) }

// along returns how far v goes in a direction.
func (v vector) along(d vector) ratio { return ratio{v.dot(d), d.square()} }

// isNear says that v and w are near with a limit.
func (v vector) isNear(w vector, l api.Limit) bool {
	product := v.dot(w)
	return product > 0 && product*product*l.D >= l.N*v.square()*w.square()
}

// ratio is a real number: top divided by the square root of under, which is greater than 0.
type ratio struct{ top, under int }

// down returns the greatest whole number that is not greater than r.
func (r ratio) down() int {
	if r.top < 0 {
		return -ratio{-r.top, r.under}.up()
	}
	// The number after it is the first one that is greater than r.
	return sort.Search(r.top+1, func(n int) bool { return n*n*r.under > r.top*r.top }) - 1
}

// up returns the least whole number that is not less than r.
func (r ratio) up() int {
	if r.top < 0 {
		return -ratio{-r.top, r.under}.down()
	}
	return sort.Search(r.top, func(n int) bool { return n*n*r.under >= r.top*r.top })
}

// isAbout says that r differs from n by at most a slack; as both are whole, it is enough to look at r rounded down and up.
func (r ratio) isAbout(n, slack int) bool {
	return n-slack <= r.down() && r.up() <= n+slack
}
