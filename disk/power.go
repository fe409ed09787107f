package disk

import "keystone/api"

// Plan lets the power go off ahead of a write or sync to come.
func (d *Disk) Plan(n int) api.Errno {
	if e := d.refusesAll(); e != api.OK {
		return e
	}
	d.plan = max(n, noPlan)
	return api.OK
}

// Crash turns the power off and on: of each write that waits it says what becomes of it.
func (d *Disk) Crash(keep []int) api.Errno {
	if !d.made() {
		return api.ErrMade
	}
	if len(keep) > len(d.pending) {
		return api.ErrArg
	}
	for _, k := range keep {
		if k != api.KeepNone && k != api.KeepWhole && k != api.KeepTorn {
			return api.ErrArg
		}
	}
	for i, k := range keep { // the writes behind are lost
		d.settle(d.pending[i], k)
	}
	d.forget()
	d.off = false
	d.plan = noPlan
	return api.OK
}

// refusesAll is why nothing is read or written at all.
func (d *Disk) refusesAll() api.Errno {
	if !d.made() {
		return api.ErrMade
	}
	if d.off {
		return api.ErrDiskOff
	}
	return api.OK
}

// spend takes one from the plan, for a write or sync that nothing else refuses; if there is none left, the power goes off.
func (d *Disk) spend() api.Errno {
	switch d.plan {
	case noPlan:
		return api.OK
	case 0:
		d.off = true
		d.plan = noPlan
		return api.ErrDiskOff
	}
	d.plan--
	return api.OK
}

// settle makes lasting what becomes of a write.
func (d *Disk) settle(w write, keep int) {
	left := content{torn: true}
	switch keep {
	case api.KeepWhole:
		left = content{bytes: w.bytes}
		fallthrough
	case api.KeepTorn:
		d.lasting[w.place] = left
	}
}
