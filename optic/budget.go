package optic

import (
	"slices"

	"ringdown/api"
	"ringdown/num"
)

// budgetOf returns the budget of a bench with these fields.
func budgetOf(b api.Bench, fields []api.Field) api.Budget {
	c := newCircuit(b)
	sum := func(counts func(api.Port) bool, amount func(api.Field) api.Num) api.Num {
		var amounts []api.Num
		for i, p := range c.ports {
			if counts(p) {
				amounts = append(amounts, amount(fields[i]))
			}
		}
		return sure(num.Sum(amounts))
	}
	of := func(codes ...int) func(api.Port) bool {
		return func(p api.Port) bool { return slices.Contains(codes, b.Elements[p.Element].Kind) }
	}
	isOpen := func(p api.Port) bool { return !c.isJoined(p) }
	return api.Budget{
		Given:  sum(of(api.KindLaser), outPower),
		Diodes: sum(of(api.KindDiode), inPower),
		Back:   sum(of(api.KindLaser), inPower),
		Open:   sum(isOpen, outPower),
		Lost:   sum(of(api.KindMirror, api.KindSplitter), lostPower),
	}
}

func inPower(f api.Field) api.Num { return power(f.In) }

func outPower(f api.Field) api.Num { return power(f.Out) }

func lostPower(f api.Field) api.Num { return sure(num.Sub(inPower(f), outPower(f))) }
