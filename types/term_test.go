package types_test

import (
	"fmt"
	"strings"
	"testing"

	"keystone/api"
	"keystone/types"
)

const locals = "i int, o bool, s bytes, z point"

// wantKind looks at what Kind answers of a text's term, with locals of all kinds, beside the world; and at what Check answers of it where a procedure returns it. In the text the byte ^ marks the place of what is wrong.
func wantKind(t *testing.T, text string, kind int, e api.Errno) {
	t.Helper()
	x := readTerm(t, strings.ReplaceAll(text, "^", ""))
	got, gotE := types.Kind(read(t, world), columns(locals), x)
	if got != kind || gotE != e {
		t.Fatalf("%q: %d, %v, not %d, %v", text, got, gotE, kind, e)
	}
	if kind == api.KNone {
		kind = api.KInt
	}
	word := []string{"", "int", "bool", "bytes", "point"}[kind]
	wantTexts(t, world, "proc p("+locals+") "+word+" { return "+text+"; }", e)
	wantTexts(t, world, "helper p("+locals+") "+word+" { return "+text+"; }", e)
	wantTexts(t, world, "proc p("+locals+") "+word+" { let a = "+text+"; return a; }", e)
}

func TestSoleTerms(t *testing.T) { // P15.1, P15.2, 15.1b
	for text, kind := range map[string]int{
		"0": api.KInt, "9223372036854775807": api.KInt, "true": api.KBool, "false": api.KBool, `""`: api.KBytes, `"a"`: api.KBytes,
		"i": api.KInt, "o": api.KBool, "s": api.KBytes, "z": api.KPoint, "(i)": api.KInt,
		"num()": api.KInt, "yes(1)": api.KBool, "text(true, s)": api.KBytes, "spot(z, 1, z)": api.KPoint,
		"len(s)": api.KInt, "re(z)": api.KInt, "im(z)": api.KInt, "point(1, 2)": api.KPoint,
	} {
		wantKind(t, text, kind, api.OK)
	}
	for _, text := range []string{"^x", "^t", "^num", "^p", "^other", "^io", "(^x)", "-^x", "1 + ^x", "^x + 1", "yes(^x)", "len(^x)", "^x()", "^nothing(x)", "^t(1)", "^i(1)", "^s(x, y)"} {
		wantKind(t, text, api.KNone, api.ErrUnknown)
	}
}

func TestOperators(t *testing.T) { // P15.1, P15.2, 15.1b: each with operands of all kinds
	vars := []string{"", "i", "o", "s", "z"}
	words := []string{"", "int", "bool", "bytes", "point"}
	forms := map[int]string{
		api.XNeg: "^-%[1]s", api.XNot: "^!%[1]s", api.XLen: "^len(%[1]s)", api.XRe: "^re(%[1]s)", api.XIm: "^im(%[1]s)", api.XPoint: "^point(%s, %s)",
		api.XAdd: "%s ^+ %s", api.XSub: "%s ^- %s", api.XMul: "%s ^* %s", api.XDiv: "%s ^/ %s", api.XMod: "%s ^%% %s", api.XLess: "%s ^< %s", api.XLessEq: "%s ^<= %s",
		api.XEqual: "%s ^== %s", api.XUnlike: "%s ^!= %s", api.XAnd: "%s ^&& %s", api.XOr: "%s ^|| %s",
	}
	if len(forms) != api.XIm-api.XNeg+1 {
		t.Fatal(len(forms))
	}
	for op, form := range forms {
		for first := api.KInt; first <= api.KPoint; first++ {
			for second := api.KInt; second <= api.KPoint; second++ {
				sides := words[first] + "," + words[second]
				text := fmt.Sprintf(form, vars[first], vars[second])
				if strings.Contains(form, "[1]") { // of one operand
					sides = words[first]
					text, _, _ = strings.Cut(text, "%!(EXTRA")
				}
				kind := api.KNone
				for _, s := range strings.Fields(signatures(op)) {
					if takes, makes, _ := strings.Cut(s, ":"); takes == sides {
						kind = kindOf(makes)
					}
				}
				if kind == api.KNone {
					wantKind(t, text, kind, api.ErrType)
				} else {
					wantKind(t, strings.Replace(text, "^", "", 1), kind, api.OK)
				}
			}
		}
	}
}

func TestCallsWithinTerms(t *testing.T) { // P15.1, P15.2, 15.1b
	for _, text := range []string{"^other(1)", "^other()", "^other(x)", "^other(true, 1)", "1 + ^other(1)", "text(^other(1), x)", "-^other(1)"} {
		wantKind(t, text, api.KNone, api.ErrHelper)
	}
	for _, text := range []string{"^num(1)", "^num(x)", "^yes()", "^yes(1, x)", "^text(o)", "^text(x)", "^text(o, s, s)", "^spot(z, 1)", "^spot(x, y, z, 1)", "1 + ^num(1)", "yes(^num(1))", "yes(^yes())"} {
		wantKind(t, text, api.KNone, api.ErrCount)
	}
	for _, text := range []string{"yes(^true)", "yes(^s)", "text(^1, s)", "text(^s, o)", "text(o, ^o)", "text(o, s ^< s)", "spot(^1, 1, z)", "spot(z, ^z, z)", "spot(z, 1, ^1)", "yes(^yes(1))", "yes(num() ^== 1)", "yes(1 ^+ true)"} {
		wantKind(t, text, api.KNone, api.ErrType)
	}
	for text, e := range map[string]api.Errno{
		"text(^1, x)": api.ErrType, "text(^x, 1)": api.ErrUnknown, "text(o, ^x)": api.ErrUnknown, "text(1 ^+ o, x)": api.ErrType, "text(^num(1), x)": api.ErrCount, // one by one
		"text(o, text(^1, x))": api.ErrType, "yes(yes(^yes(2, 1)))": api.ErrCount,
	} {
		wantKind(t, text, api.KNone, e)
	}
	for text, kind := range map[string]int{
		"yes(num() + num() * len(text(yes(1), s)))": api.KBool, "spot(spot(z, 1, z) + z, num(), point(num(), 1))": api.KPoint,
		"text(yes(1) || o, text(o, s)) + s": api.KBytes,
	} {
		wantKind(t, text, kind, api.OK)
	}
}

func TestOrderWithinTerms(t *testing.T) { // P15.1, P15.2, 15.1b: operands one by one, and then the operator
	for text, e := range map[string]api.Errno{
		"true + ^x": api.ErrUnknown, "^x + true": api.ErrUnknown, "^x + y": api.ErrUnknown, "(1 ^+ true) + x": api.ErrType,
		"o + (1 ^+ true)": api.ErrType, "(1 + 1) ^+ true": api.ErrType, "true ^+ (1 + 1)": api.ErrType, "-(1 ^+ true)": api.ErrType, "^-(1 < 2)": api.ErrType, "!(1 ^+ o)": api.ErrType, "^!(1 + 2)": api.ErrType,
		"len(1 ^+ o)": api.ErrType, "^len(1 + 2)": api.ErrType, "^re(re(z))": api.ErrType, "re(^re(1))": api.ErrType, "^point(1, z)": api.ErrType, "point(z, ^x)": api.ErrUnknown, "point(^x, o + 1)": api.ErrUnknown,
		"1 + 2 ^+ true + x": api.ErrType, "1 + 2 - 3 ^- true": api.ErrType, "1 + true ^* true": api.ErrType, "o ^&& 1 && x": api.ErrType,
		"o && o || 1 < 2 && s ^< 1": api.ErrType, "(1 == 1) ^== 2": api.ErrType,
	} {
		wantKind(t, text, api.KNone, e)
	}
	wantKind(t, "(1 == 1) == (2 == 2)", api.KBool, api.OK)
}

func TestDeepTerms(t *testing.T) { // P15.1, P15.2, 15.1b: as deep as there may be
	wantKind(t, strings.Repeat("-", 60)+"i", api.KInt, api.OK)
	wantKind(t, strings.Repeat("-", 59)+"^-o", api.KNone, api.ErrType)
	wantKind(t, strings.Repeat("-", 60)+"^x", api.KNone, api.ErrUnknown)
	wantKind(t, "s"+strings.Repeat(" + s", 60), api.KBytes, api.OK)
	wantKind(t, "s"+strings.Repeat(" + s", 59)+" ^+ i", api.KNone, api.ErrType)
	wantKind(t, "i ^+ s"+strings.Repeat(" + s", 59), api.KNone, api.ErrType)
	wantKind(t, strings.Repeat("text(o, ", 60)+"s"+strings.Repeat(")", 60), api.KBytes, api.OK)
	wantKind(t, strings.Repeat("text(o, ", 60)+"^o"+strings.Repeat(")", 60), api.KNone, api.ErrType)
}
