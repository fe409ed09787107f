package types

import (
	"slices"

	"keystone/api"
)

// fault is thrown at the first thing that is wrong.
type fault struct {
	at  int
	why api.Errno
}

// must gives up at a place, unless a thing is as it must be.
func must(right bool, at int, why api.Errno) {
	if !right {
		panic(fault{at, why})
	}
}

// firstFault has something looked at, and catches what is thrown at the first thing that is wrong.
func firstFault(look func()) (at int, e api.Errno) {
	defer func() {
		if thrown := recover(); thrown != nil {
			f := thrown.(fault) // nothing else is thrown
			at, e = f.at, f.why
		}
	}()
	look()
	return 0, api.OK
}

// checkModule looks at all of a module that some text says, beside an old one that is right.
func checkModule(old, m api.Module) {
	all := api.Module{Tables: slices.Concat(old.Tables, m.Tables), Procs: slices.Concat(old.Procs, m.Procs)}
	for i := range m.Tables {
		checkTable(all.Tables[:len(old.Tables)+i+1], old.Procs)
	}
	for i := range m.Procs {
		checkHead(all.Tables, all.Procs[:len(old.Procs)+i+1])
	}
	checkRounds(all.Procs, len(old.Procs))
	for _, p := range m.Procs {
		newChecker(all, p.Params).proc(p)
	}
}

// checkTable looks at the last one of some tables, which stands behind the others and the procedures.
func checkTable(tables []api.Table, procs []api.Proc) {
	ahead := tables[:len(tables)-1]
	t := tables[len(ahead)]
	must(len(tables) <= api.MaxTables, t.At, api.ErrMany)
	must(tableNumber(ahead, t.Name) < 0 && procNumber(procs, t.Name) < 0, t.At, api.ErrTwice)
	must(len(t.Key) <= api.MaxColumns && len(t.Val) <= api.MaxColumns, t.At, api.ErrMany)
	must(!namedTwice(slices.Concat(t.Key, t.Val)), t.At, api.ErrTwice)
	for _, c := range t.Key {
		must(c.Kind != api.KPoint, t.At, api.ErrType)
	}
}

// checkHead looks at what stands ahead of the statements of the last one of some procedures, which stands behind the others and the tables.
func checkHead(tables []api.Table, procs []api.Proc) {
	ahead := procs[:len(procs)-1]
	p := procs[len(ahead)]
	must(len(procs) <= api.MaxProcs, p.At, api.ErrMany)
	must(tableNumber(tables, p.Name) < 0 && procNumber(ahead, p.Name) < 0, p.At, api.ErrTwice)
	must(len(p.Params) <= api.MaxParams, p.At, api.ErrMany)
	must(!namedTwice(p.Params), p.At, api.ErrTwice)
}

// namedTwice tells whether two of some columns have one name.
func namedTwice(l []api.Column) bool {
	for i, c := range l {
		if slices.ContainsFunc(l[:i], func(ahead api.Column) bool { return ahead.Name == c.Name }) {
			return true
		}
	}
	return false
}

// tableNumber is the place of the first table of a name; below 0: there is none.
func tableNumber(l []api.Table, name string) int {
	return slices.IndexFunc(l, func(t api.Table) bool { return t.Name == name })
}

// procNumber is the place of the first procedure or helper of a name; below 0: there is none.
func procNumber(l []api.Proc, name string) int {
	return slices.IndexFunc(l, func(p api.Proc) bool { return p.Name == name })
}
