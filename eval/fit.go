package eval

import (
	"keystone/api"
	"keystone/tuple"
	"keystone/types"
)

// mayBe tells whether a module is right by itself.
func mayBe(m api.Module) bool {
	_, e := types.Check(api.Module{}, m)
	return e == api.OK
}

func isFuel(fuel int) bool {
	return fuel >= 0 && fuel <= api.MaxFuel
}

// fit tells whether values fit some columns, one by one.
func fit(l []api.Value, columns []api.Column) bool {
	if len(l) != len(columns) {
		return false
	}
	for i, v := range l {
		if v.Kind != columns[i].Kind || tuple.Check(v) != api.OK {
			return false
		}
	}
	return true
}

// isContent tells whether the tables of a module that may be take some rows.
func isContent(m api.Module, c []api.Content) bool {
	named := map[string]int{}
	for _, x := range c {
		t, is := types.Table(m, x.Table)
		named[x.Table]++
		if !is || named[x.Table] > 1 || !areRows(t, x.Rows) {
			return false
		}
	}
	return true
}

// areRows tells whether a table takes rows.
func areRows(t api.Table, l []api.Row) bool {
	for i, row := range l {
		if !fit(row.Key, t.Key) || !fit(row.Val, t.Val) {
			return false
		}
		if i > 0 && held(l[i-1].Key, row.Key) >= 0 {
			return false
		}
	}
	return true
}

// held is how a key stands to a beginning of keys: below 0, ahead of it; 0, it begins so. Each fits columns of the table.
func held(key, beginning []api.Value) int {
	order, _ := tuple.Compare(key[:len(beginning)], beginning)
	return order
}

// isBetween tells whether a key can be held against two beginnings, be they such or not, and is neither below the one nor above the other.
func isBetween(key, from, to []api.Value) bool {
	if len(key) < len(from) || len(key) < len(to) {
		return false
	}
	low, e := tuple.Compare(key[:len(from)], from)
	if e != api.OK || low < 0 {
		return false
	}
	high, e := tuple.Compare(key[:len(to)], to)
	return e == api.OK && high <= 0
}

// variables are values by their names; false, if there are not as many of these, one stands twice, or a value may not be.
func variables(names []string, vals []api.Value) (map[string]api.Value, bool) {
	if len(names) != len(vals) {
		return nil, false
	}
	vars := map[string]api.Value{}
	for i, name := range names {
		if tuple.Check(vals[i]) != api.OK {
			return nil, false
		}
		vars[name] = vals[i]
	}
	return vars, len(vars) == len(names)
}

// columns are names with the kinds of their values.
func columns(names []string, vals []api.Value) []api.Column {
	var l []api.Column
	for i, name := range names {
		l = append(l, api.Column{Name: name, Kind: vals[i].Kind})
	}
	return l
}
