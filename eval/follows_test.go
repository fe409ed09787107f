package eval_test

import (
	"testing"

	"keystone/api"
	"keystone/eval"
)

// wantModel looks at what a run comes to, which is what the model says.
func wantModel(t *testing.T, m api.Module, text, name string, args []api.Value, c []api.Content, fuel int) (api.Outcome, []api.Content, int) {
	t.Helper()
	want, wantBehind, wantSpent := modelRun(m, name, args, c, fuel)
	o, behind, spent, e := eval.Run(m, name, args, c, fuel)
	if o != want || said(behind) != said(wantBehind) || spent != wantSpent || e != api.OK {
		t.Fatalf("%.9000s\n%s %s over %s with %d: %v\n%s, %d steps, %s\nnot\n%s, %d steps, %s", text, name, toldValues(args), told(c), fuel, e, toldEnd(o), spent, told(behind), toldEnd(want), wantSpent, told(wantBehind))
	}
	return o, behind, spent
}

// procsOf are the procedures of a module, without the helpers.
func procsOf(m api.Module) []api.Proc {
	var l []api.Proc
	for _, p := range m.Procs {
		if !p.Helper {
			l = append(l, p)
		}
	}
	return l
}

func TestMadeModules(t *testing.T) { // P16.2, P16.6: one run behind the other, each over what the one ahead has left
	n := numbers(163)
	ends := map[string]int{}
	for i := range 1800 {
		text := made(&n, 2+i%20)
		m := read(t, text)
		c := someContent(&n, m)
		for j := range 5 {
			p := oneOf(&n, procsOf(m))
			o, behind, _ := wantModel(t, m, text, p.Name, someValues(&n, p.Params), c, 100<<j)
			if e := eval.Check(m, behind); e != api.OK || !modelContent(m, behind) {
				t.Fatal(text, told(behind), e)
			}
			switch {
			case o.End == api.EndFailed:
				ends[toldCode(min(o.Code, 0))]++
				if told(behind) != told(behindAll(m, c)) {
					t.Fatal(text, told(behind), told(c))
				}
			case told(behindAll(m, c)) != told(behind):
				ends["other rows"]++
			default:
				ends["same rows"]++
			}
			c = behind
		}
	}
	for _, what := range []string{"other rows", "same rows", "over", "divide", "missing", "there", "fuel", "end", "long", "raised 0"} {
		if ends[what] < 100 {
			t.Error(what, ends)
		}
	}
}

func TestFuel(t *testing.T) { // P16.5
	n := numbers(168)
	many := 0
	for i := range 250 {
		text := made(&n, 2+i%12)
		m := read(t, text)
		c := someContent(&n, m)
		for _, p := range procsOf(m) {
			args := someValues(&n, p.Params)
			const enough = 200
			o, behind, spent := wantModel(t, m, text, p.Name, args, c, enough)
			isFuel := o == api.Outcome{End: api.EndFailed, Code: api.FailFuel}
			if isFuel {
				spent = enough
			}
			for fuel := range spent {
				less, same, all, e := eval.Run(m, p.Name, args, c, fuel)
				if less != (api.Outcome{End: api.EndFailed, Code: api.FailFuel}) || told(same) != told(behindAll(m, c)) || all != fuel || e != api.OK {
					t.Fatal(text, fuel, toldEnd(less), all, e)
				}
			}
			if isFuel {
				continue
			}
			for _, fuel := range []int{spent, spent + 1, spent + 2, spent + 1000, api.MaxFuel} {
				again, behindAgain, all, e := eval.Run(m, p.Name, args, c, fuel)
				if again != o || told(behindAgain) != told(behind) || all != spent || e != api.OK {
					t.Fatal(text, fuel, toldEnd(again), all, e)
				}
			}
			if spent > 10 {
				many++
			}
		}
	}
	if many < 60 {
		t.Error(many)
	}
}

func TestLastStep(t *testing.T) { // P16.5: with all fuel that there may be, to the step
	m := read(t, "proc p(n int, m int) int { while n != 0 { n = n - 1; } while m != 0 { m = m - 1; if true { } } return n; }")
	const steps = 2 + 3 + 3 + 2 // of two whiles, their last conditions, and the return
	var args []api.Value
	for many := 0; args == nil; many++ { // 7 steps a round of the one, 9 of the other
		if rest := api.MaxFuel - steps - 9*many; rest%7 == 0 {
			args = append(args, vals(t, "0 0")...)
			args[0].Int, args[1].Int = int64(rest/7), int64(many)
		}
	}
	o, _, spent, e := eval.Run(m, "p", args, nil, api.MaxFuel)
	if toldEnd(o) != "0" || spent != api.MaxFuel || e != api.OK {
		t.Fatal(toldEnd(o), spent, e)
	}
	args[0].Int++
	o, _, spent, e = eval.Run(m, "p", args, nil, api.MaxFuel)
	if toldEnd(o) != "fuel" || spent != api.MaxFuel || e != api.OK {
		t.Fatal(toldEnd(o), spent, e)
	}
}
