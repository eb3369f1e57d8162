package run

import (
	"slices"

	"ringdown/api"
)

// Archive is a plan and its issues.
type Archive struct {
	plan
	issues map[int]issue
	// self is the archive itself: that of a copy, which no function returned, is another one.
	self *Archive
}

// issue is one as it was published, and the recipe that it was made with.
type issue struct {
	api.Issue
	recipe api.Recipe
}

// NewArchive returns an archive without issues.
func NewArchive(p api.Plan) (*Archive, api.Errno) {
	if e := Check(p); e != api.OK {
		return nil, e
	}
	a := &Archive{plan: planOf(copyOfPlan(p)), issues: map[int]issue{}}
	a.self = a
	return a, api.OK
}

func (a *Archive) isMade() bool { return a != nil && a.self == a }

// Publish adds the issue of a recipe, and returns its number.
func (a *Archive) Publish(r api.Recipe) (int, api.Errno) {
	switch {
	case !a.isMade():
		return 0, api.ErrNil
	case !isRecipe(r, len(a.data[0])):
		return 0, api.ErrRecipe
	case len(a.issues) >= api.MaxIssues:
		return 0, api.ErrFull
	}
	number := len(a.issues)
	r.Bank = slices.Clone(r.Bank)
	a.issues[number] = issue{maker{a.plan, r}.issue(), r}
	return number, api.OK
}

// Issue returns the issue with a number.
func (a *Archive) Issue(i int) (api.Issue, api.Errno) {
	found, e := a.find(i)
	if e != api.OK {
		return api.Issue{}, e
	}
	found.Entries = slices.Clone(found.Entries)
	return found.Issue, api.OK
}

// Again returns ErrStale unless an issue follows from a plan again.
func (a *Archive) Again(i int, p api.Plan) api.Errno {
	found, e := a.find(i)
	if e != api.OK {
		return e
	}
	if !found.follows(planOf(p)) {
		return api.ErrStale
	}
	return api.OK
}

// Change returns what changed from one issue to another one.
func (a *Archive) Change(i, k int) (api.Change, api.Errno) {
	one, e := a.find(i)
	if e != api.OK {
		return api.Change{}, e
	}
	other, e := a.find(k)
	if e != api.OK {
		return api.Change{}, e
	}
	return api.Change{Gone: without(one.Entries, other.Entries), New: without(other.Entries, one.Entries)}, api.OK
}

// find returns the issue with a number.
func (a *Archive) find(i int) (issue, api.Errno) {
	if !a.isMade() {
		return issue{}, api.ErrNil
	}
	found, ok := a.issues[i]
	if !ok {
		return issue{}, api.ErrIssue
	}
	return found, api.OK
}

// follows says that an issue follows from a plan, valid or not, and its recipe.
func (i issue) follows(p plan) bool {
	m := maker{p, i.recipe}
	return m.check() == api.OK && m.stamp() == i.Stamp && slices.Equal(m.catalogue(), i.Entries)
}

// without returns those entries that are not among others.
func without(list, others []api.Entry) []api.Entry {
	isOther := map[api.Entry]bool{}
	for _, x := range others {
		isOther[x] = true
	}
	return slices.DeleteFunc(slices.Clone(list), func(x api.Entry) bool { return isOther[x] })
}
