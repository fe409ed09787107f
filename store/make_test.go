package store_test

import (
	"fmt"
	"math"
	"slices"
	"strings"
	"testing"

	"keystone/api"
	"keystone/store"
)

func TestNew(t *testing.T) { // P7.1
	for _, order := range []int{math.MinInt, -1, 0, 1, api.MinOrder - 1, api.MaxOrder + 1, math.MaxInt} {
		if s, e := store.New(order); s != nil || e != api.ErrArg {
			t.Errorf("New(%d): %v, %v", order, s, e)
		}
	}
	for order := api.MinOrder; order <= api.MaxOrder; order++ {
		s := newStore(t, order)
		newModel().want(t, s)
		if l, e := s.Content(0); len(l) != 0 || e != api.OK {
			t.Errorf("Content(0): %v, %v", l, e)
		}
	}
}

// goodTables are tables that may be declared, each of another name.
func goodTables() []api.Table {
	var eight []int
	for range api.MaxColumns {
		eight = append(eight, api.KBytes)
	}
	key := columns(api.KInt)
	return []api.Table{
		acct(), pair(), flag(),
		{Name: "\x00", Key: columns(api.KInt, api.KBool, api.KBytes), At: -5},
		{Name: "Not a name", Key: columns(eight...), Val: columns(eight...)},
		{Name: strings.Repeat("n", api.MaxName), Key: key, Val: columns(api.KInt, api.KBool, api.KBytes, api.KPoint)},
		{Name: "twice", Key: []api.Column{{Name: "a", Kind: api.KInt}, {Name: "a", Kind: api.KInt}}, Val: []api.Column{{Kind: api.KInt}, {Name: "a", Kind: api.KPoint}}},
		{Name: "long", Key: []api.Column{{Name: strings.Repeat("x", 99), Kind: api.KBool}}, Val: []api.Column{}, At: math.MaxInt},
	}
}

// badTables are tables that may not be.
func badTables() []api.Table {
	var nine []int
	for range api.MaxColumns + 1 {
		nine = append(nine, api.KInt)
	}
	key := columns(api.KInt)
	l := []api.Table{
		{},
		{Name: "", Key: key},
		{Name: strings.Repeat("n", api.MaxName+1), Key: key},
		{Name: "t"},
		{Name: "t", Val: key},
		{Name: "t", Key: columns(nine...)},
		{Name: "t", Key: key, Val: columns(nine...)},
		{Name: "t", Key: columns(api.KPoint)},
		{Name: "t", Key: columns(api.KInt, api.KPoint)},
	}
	for _, kind := range []int{math.MinInt, -1, api.KNone, 5, math.MaxInt} {
		l = append(l,
			api.Table{Name: "t", Key: columns(kind)},
			api.Table{Name: "t", Key: columns(api.KBytes, kind)},
			api.Table{Name: "t", Key: key, Val: columns(kind)},
			api.Table{Name: "t", Key: key, Val: columns(api.KPoint, kind)})
	}
	return l
}

func TestDeclare(t *testing.T) { // P7.1
	s, m := newStore(t, 3), newModel()
	for _, x := range goodTables() {
		wantErr(t, "Declare "+x.Name, s.Declare(x), api.OK)
		m.tables = append(m.tables, x)
		m.want(t, s)
		again := acct()
		again.Name = x.Name
		wantErr(t, "Declare again", s.Declare(again), api.ErrTable)
		wantErr(t, "Declare again", s.Declare(x), api.ErrTable)
		m.want(t, s)
	}
}

func TestDeclareOfWhatMayNotBe(t *testing.T) { // P7.1
	for _, tables := range [][]api.Table{nil, {acct()}, goodTables()} {
		s, m := newStore(t, 3, tables...), newModel(tables...)
		for _, x := range badTables() {
			wantErr(t, fmt.Sprintf("Declare(%v)", x), s.Declare(x), api.ErrArg)
		}
		m.want(t, s)
	}
	s := newStore(t, 3, acct())
	wantErr(t, "a table that is not good, of a name that is there", s.Declare(api.Table{Name: "acct"}), api.ErrArg)
}

func TestTooManyTables(t *testing.T) { // P7.1
	s, m := newStore(t, 3), newModel()
	for i := range api.MaxTables {
		x := acct()
		x.Name = fmt.Sprintf("t%d", i)
		wantErr(t, "Declare", s.Declare(x), api.OK)
		m.tables = append(m.tables, x)
	}
	m.want(t, s)
	wantErr(t, "one more", s.Declare(acct()), api.ErrFull)
	wantErr(t, "one that is not good", s.Declare(api.Table{Name: "acct"}), api.ErrArg)
	wantErr(t, "one that is there", s.Declare(m.tables[3]), api.ErrTable)
	m.want(t, s)
}

func TestATableIsWithoutRowsInEverySnapshot(t *testing.T) { // P7.1
	s, m := newStore(t, 3, acct()), newModel(acct())
	for i := range int64(5) {
		m.installs(t, s, put("acct", ints(i), ints(i)...))
	}
	m.collects(t, s, 2)
	wantErr(t, "Declare", s.Declare(pair()), api.OK)
	m.tables = append(m.tables, pair())
	m.want(t, s)
	m.wantRows(t, s, "pair", pairKeys()[:6])
	m.installs(t, s, put("pair", pairKeys()[2], pairVal(1)...), put("acct", ints(3), ints(9)...))
	m.want(t, s)
	m.wantRows(t, s, "pair", pairKeys()[:6])
	m.wantRows(t, s, "acct", manyInts(7))
}

func TestTablesOfLikeNames(t *testing.T) { // P7.1: rows of one table are not those of another
	tables := []api.Table{acct(), acct(), acct(), flag()}
	tables[1].Name, tables[2].Name = "acct2", "acc"
	s, m := newStore(t, 3, tables...), newModel(tables...)
	m.installs(t, s, put("acct", ints(1), ints(10)...), put("acct2", ints(1), ints(20)...), put("acc", ints(2), ints(30)...))
	m.installs(t, s, del("acct", ints(1)...), put("acct2", ints(2), ints(21)...), del("acc", ints(2)...))
	m.want(t, s)
	for _, x := range tables[:3] {
		m.wantRows(t, s, x.Name, manyInts(4))
	}
	if !slices.EqualFunc(s.Tables(), tables, sameTable) {
		t.Errorf("Tables: %v", s.Tables())
	}
}
