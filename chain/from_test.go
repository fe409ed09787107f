package chain_test

import (
	"testing"

	"keystone/api"
	"keystone/chain"
)

// oneByOne is what comes of versions by Put and Drop, up to the first error.
func oneByOne(l []api.Version) (*chain.Chain, api.Errno) {
	c := chain.New()
	for _, v := range l {
		var e api.Errno
		if v.Gone {
			e = c.Drop(v.At)
		} else {
			e = c.Put(v.At, v.Val)
		}
		if e != api.OK {
			return nil, e
		}
	}
	return c, api.OK
}

func wantFrom(t *testing.T, l []api.Version) {
	t.Helper()
	c, e := chain.From(l)
	d, want := oneByOne(l)
	if e != want || (c == nil) != (e != api.OK) {
		t.Fatalf("From(%v): %v, %v, not %v", l, c, e, want)
	}
	if d == nil {
		return
	}
	var m model
	for _, v := range l {
		if v.Gone {
			v.Val = nil
		}
		m = append(m, v)
	}
	m.want(t, c)
	m.want(t, d)
}

func TestFrom(t *testing.T) { // P6.2
	wrong := []api.Value{{}}
	some := []api.Version{put(0), put(1, row(1)...), put(2, row(2)...), put(2), put(3, row(3)...), put(3, wrong...), put(-1, wrong...), gone(0), gone(2), gone(3), {At: 3, Gone: true, Val: wrong}, {At: 4, Gone: true, Val: row(4)}}
	wantFrom(t, nil)
	wantFrom(t, []api.Version{})
	for _, a := range some {
		wantFrom(t, []api.Version{a})
		for _, b := range some {
			wantFrom(t, []api.Version{a, b})
			for _, c := range some {
				wantFrom(t, []api.Version{a, b, c})
			}
		}
	}
}

func TestFromOfVersionsThatMayNotBe(t *testing.T) { // P6.2: the first error that comes
	for _, w := range wrongLists() {
		if c, e := chain.From([]api.Version{put(1), put(2, w.l...), gone(0)}); c != nil || e != w.want {
			t.Errorf("From of values that may not be: %v, not %v", e, w.want)
		}
	}
	wants := []struct {
		l    []api.Version
		want api.Errno
	}{
		{mixed(-1), api.ErrChainGone},
		{mixed(1, -2, -3), api.ErrChainGone},
		{mixed(0), api.ErrChainOrder},
		{mixed(1, 1), api.ErrChainOrder},
		{mixed(2, -1), api.ErrChainOrder},
		{append(mixed(1, -2, -3), put(1)), api.ErrChainGone},
		{append(mixed(2, -2), put(3, api.Value{})), api.ErrChainOrder},
		{append(mixed(2), put(1, api.Value{})), api.ErrKind},
	}
	for _, w := range wants {
		if c, e := chain.From(w.l); c != nil || e != w.want {
			t.Errorf("From(%v): %v, %v, not %v", w.l, c, e, w.want)
		}
	}
}

func TestFromOfTooMany(t *testing.T) { // P6.2
	var l []api.Version
	for i := range int64(api.MaxVersions) {
		l = append(l, put(i+1))
	}
	wantFrom(t, l)
	if c, e := chain.From(append(l, put(100))); c != nil || e != api.ErrFull {
		t.Errorf("From of too many: %v", e)
	}
	if c, e := chain.From(append(l, gone(100))); c != nil || e != api.ErrFull {
		t.Errorf("From of too many: %v", e)
	}
	if c, e := chain.From(append(l, put(1))); c != nil || e != api.ErrChainOrder {
		t.Errorf("From of too many, and a commit that may not be: %v", e)
	}
}
