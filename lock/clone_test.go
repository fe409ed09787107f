package lock_test

import (
	"slices"
	"testing"

	"keystone/api"
	"keystone/lock"
)

func TestAClone(t *testing.T) { // P8.4
	for _, most := range []int{1, 5, api.MaxLocks} {
		m, want := newManager(t, most), &model{most: most}
		n := numbers(most)
		for range 60 {
			want.does(t, m, &n)
		}
		c := m.Clone()
		if c == nil || c == m {
			t.Fatal("no other manager")
		}
		want.wantAll(t, c)
		for tx := int64(1); tx < 9; tx++ {
			c.Release(tx)
		}
		want.wantAll(t, m)
		(&model{most: most}).wantAll(t, c)
	}
}

func TestAClonesRoom(t *testing.T) { // P8.4
	m := newManager(t, 2)
	takes(t, m, 1, at("a"))
	c := m.Clone()
	takes(t, c, 2, at("b"))
	wantTake(t, c, 2, 0, 0, at("c"), api.ErrFull)
	wantTake(t, c, 2, 0, 0, at("a"), api.ErrLockHeld)
	takes(t, m, 3, at("b"))
	wantTake(t, m, 3, 0, 0, at("c"), api.ErrFull)
}

func TestClonesGoTheirOwnWay(t *testing.T) { // P8.4, R4
	for seed := range 8 {
		n := numbers(seed)
		real, models := []*lock.Manager{newManager(t, 20)}, []*model{{most: 20}}
		for range 80 {
			i := n.below(len(real))
			models[i].does(t, real[i], &n)
			if n.below(12) == 0 {
				i = n.below(len(real))
				real = append(real, real[i].Clone())
				models = append(models, &model{20, slices.Clone(models[i].taken)})
			}
			for i, m := range models {
				m.want(t, real[i])
			}
		}
	}
}
