package store

import (
	"testing"

	"keystone/api"
	"keystone/tuple"
)

func TestRowsWithoutVersionsAreNotKept(t *testing.T) { // P7.4: nothing is kept of what no snapshot sees
	s, e := New(3)
	if e != api.OK || s.Declare(api.Table{Name: "t", Key: []api.Column{{Kind: api.KInt}}}) != api.OK {
		t.Fatal("a store")
	}
	var puts, dels []api.Write
	for i := range int64(50) {
		key := []api.Value{tuple.Int(i)}
		puts = append(puts, api.Write{Table: "t", Key: key})
		dels = append(dels, api.Write{Table: "t", Key: key, Gone: true})
	}
	for n, l := range [][]api.Write{dels, puts, dels} {
		if e := s.Install(int64(n+1), l); e != api.OK {
			t.Fatal("Install", n+1, e)
		}
	}
	x := s.byName["t"]
	if x.rows.Len() != 50 || len(x.chains) != 50 {
		t.Errorf("%d keys, %d chains", x.rows.Len(), len(x.chains))
	}
	if n, e := s.Collect(3); n != 100 || e != api.OK || x.rows.Len() != 0 || len(x.chains) != 0 {
		t.Errorf("Collect: %d, %v; %d keys, %d chains", n, e, x.rows.Len(), len(x.chains))
	}
}
