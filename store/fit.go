package store

import (
	"keystone/api"
	"keystone/tuple"
)

// isGood tells whether a table may be declared.
func isGood(t api.Table) bool {
	if len(t.Name) < 1 || len(t.Name) > api.MaxName {
		return false
	}
	if len(t.Key) < 1 || len(t.Key) > api.MaxColumns || len(t.Val) > api.MaxColumns {
		return false
	}
	return each(t.Key, mayBeInKey) && each(t.Val, mayBeBehindKey)
}

// each tells whether all columns pass.
func each(l []api.Column, passes func(api.Column) bool) bool {
	for _, c := range l {
		if !passes(c) {
			return false
		}
	}
	return true
}

// mayBeInKey tells whether a column may be one of a key.
func mayBeInKey(c api.Column) bool {
	return mayBeBehindKey(c) && c.Kind != api.KPoint
}

// mayBeBehindKey tells whether a column may stand behind a key.
func mayBeBehindKey(c api.Column) bool {
	_, e := tuple.Zero(c.Kind)
	return e == api.OK
}

// fits tells whether values fit columns.
func fits(l []api.Value, columns []api.Column) bool {
	return len(l) == len(columns) && fitsBeginning(l, columns)
}

// fitsBeginning tells whether values fit the first columns.
func fitsBeginning(l []api.Value, columns []api.Column) bool {
	if len(l) > len(columns) {
		return false
	}
	for i, v := range l {
		if v.Kind != columns[i].Kind || tuple.Check(v) != api.OK {
			return false
		}
	}
	return true
}

// keyBytes are the bytes of a key, if it fits the table.
func (t *table) keyBytes(key []api.Value) (string, api.Errno) {
	if !fits(key, t.as.Key) {
		return "", api.ErrRow
	}
	return tuple.Key(key)
}

// beginningBytes are the bytes of a key's beginning, if it fits the table. Just the keys that begin so have bytes that begin so.
func (t *table) beginningBytes(l []api.Value) (string, api.Errno) {
	if !fitsBeginning(l, t.as.Key) {
		return "", api.ErrRow
	}
	return tuple.Key(l)
}

// above is where the key bytes end that begin with some. (All keys begin with no bytes.)
func above(k string) string {
	if next, ok := tuple.Above(k); ok {
		return next
	}
	return aboveAll
}
