package sky

import "ringdown/api"

// place is where a site is.
type place vector

// arrival returns when something that comes from a direction arrives.
func (p place) arrival(d vector) ratio { return vector{}.minus(vector(p)).along(d) }

// difference returns how much later it arrives at q than at p.
func (p place) difference(q place, d vector) ratio { return vector(p).minus(vector(q)).along(d) }

// site is a place with the directions of two arms.
type site struct {
	place
	u, v vector
}

func sitesOf(l []api.Site) []site {
	var sites []site
	for _, s := range l {
		sites = append(sites, site{place(s.Place), s.ArmU, s.ArmV})
	}
	return sites
}

// grasp returns that for a direction, as a fraction.
func (s site) grasp(d vector) (top, under int) {
	u, v := s.u.dot(d), s.v.dot(d)
	return u*u*s.v.square() - v*v*s.u.square(), s.u.square() * s.v.square() * d.square()
}

// fit says that a direction fits arrivals.
func fit(sites []site, t []api.Arrival, d vector) bool {
	for i, b := range t {
		for _, a := range t[:i] {
			difference := sites[a.Site].difference(sites[b.Site].place, d)
			if !difference.isAbout(b.Time-a.Time, a.Slack+b.Slack) {
				return false
			}
		}
	}
	return true
}
