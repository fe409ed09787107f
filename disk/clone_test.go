package disk_test

import (
	"testing"

	"keystone/api"
	"keystone/disk"
)

// busy is a disk with something of all that a disk has.
func busy(t *testing.T) *disk.Disk {
	t.Helper()
	d := load(t, append(append(filled(1), filled(2)...), filled(3)...), 2)
	writes(t, d, 0, filled(4))
	syncs(t, d)
	writes(t, d, 1, filled(5))
	writes(t, d, 0, filled(6))
	plans(t, d, 3)
	return d
}

func TestCloneHasAllOfTheSame(t *testing.T) { // P2.8
	d := busy(t)
	c := d.Clone()
	if unlike(c, tell(d), 3) {
		t.Errorf("a clone: %v, not %v", tell(c), tell(d))
	}
	wantRead(t, c, 0, filled(6))
	wantRead(t, c, 1, filled(5))
	wantUnread(t, c, 2, api.ErrDiskTorn)
	crashes(t, c, 1)
	wantRead(t, c, 0, filled(4))
	wantRead(t, c, 1, filled(5))

	plans(t, d, 0)
	d.Sync()
	c = d.Clone()
	if !c.Off() || unlike(c, tell(d), 0) {
		t.Errorf("a clone without power: %v, not %v", tell(c), tell(d))
	}
}

// upset does something of all that changes a disk.
func upset(t *testing.T, d *disk.Disk) {
	t.Helper()
	writes(t, d, 1, filled(11))
	writes(t, d, 2, filled(12))
	crashes(t, d, api.KeepTorn, api.KeepWhole, api.KeepNone, api.KeepWhole)
	writes(t, d, 0, filled(13))
	writes(t, d, 1, filled(14))
	syncs(t, d)
	writes(t, d, 2, filled(15))
	plans(t, d, 0)
	d.Sync()
}

func TestCloneGoesItsOwnWay(t *testing.T) { // P2.8
	for range 2 {
		d := busy(t)
		c := d.Clone()
		was := tell(d)
		upset(t, c)
		if unlike(d, was, 3) {
			t.Error("what is done with a clone changes the disk")
		}
		wantRead(t, d, 1, filled(5))

		c = d.Clone()
		upset(t, d)
		if unlike(c, was, 3) {
			t.Error("what is done with a disk changes its clone")
		}
		wantRead(t, c, 1, filled(5))
	}
}

func TestClonesWriteBesideOneAnother(t *testing.T) { // P2.8: no room behind the writes that were pending is shared
	d := newDisk(t, 1)
	for i := range 5 {
		writes(t, d, 0, filled(i))
	}
	one, other := d.Clone(), d.Clone()
	writes(t, d, 0, filled(20))
	writes(t, one, 0, filled(21))
	writes(t, other, 0, filled(22))
	for i, x := range []*disk.Disk{d, one, other} {
		wantRead(t, x, 0, filled(20+i))
	}
}
