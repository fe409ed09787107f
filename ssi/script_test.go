package ssi_test

import (
	"testing"

	"keystone/api"
)

// someCaps are caps to which fixed scripts come, and such to which they do not.
func someCaps(n *numbers) api.Caps {
	if n.below(3) == 0 {
		return roomy()
	}
	return api.Caps{Active: 1 + n.below(8), Kept: n.below(6), Reads: 1 + n.below(20), Locks: 1 + n.below(12)}
}

func TestFixedScripts(t *testing.T) { // P10.1 to P10.6
	for seed := range 1500 {
		n := numbers(seed)
		m, want := newModelled(t, someCaps(&n), int64(n.below(5)))
		for range 80 {
			want.does(t, m, &n)
			want.want(t, m)
		}
	}
}

func TestBounded(t *testing.T) { // P10.10
	for seed := range 300 {
		n := numbers(seed)
		caps := api.Caps{Active: 1 + n.below(5), Kept: n.below(4), Reads: 1 + n.below(5), Locks: 1 + n.below(4)}
		m, want := newModelled(t, caps, 0)
		for range 100 {
			want.does(t, m, &n)
			got := m.Tracked()
			if got.Active > caps.Active || got.Kept > caps.Kept || got.Reads > caps.Reads || got.Locks > caps.Locks {
				t.Fatalf("%+v, more than %+v", got, caps)
			}
			if got.Active == 0 {
				wantTracked(t, m, 0, 0, 0, 0)
			}
		}
		for _, tx := range m.Active() {
			if n.below(2) == 0 {
				m.Abort(tx)
			} else {
				m.Commit(tx) // committed, or aborted
			}
		}
		wantTracked(t, m, 0, 0, 0, 0)
	}
}
