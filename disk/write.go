package disk

import "keystone/api"

// Read is a block as it was written last.
func (d *Disk) Read(n int) ([]byte, api.Errno) {
	if e := d.refuses(n); e != api.OK {
		return nil, e
	}
	if number := d.newest[n]; number > 0 {
		return d.pending[number-1].bytes.list(), api.OK
	}
	if d.lasting[n].torn {
		return nil, api.ErrDiskTorn
	}
	return d.lasting[n].bytes.list(), api.OK
}

// Write writes a block.
func (d *Disk) Write(n int, b []byte) api.Errno {
	if e := d.refuses(n); e != api.OK {
		return e
	}
	if len(b) != api.BlockSize {
		return api.ErrDiskSize
	}
	if e := d.spend(); e != api.OK {
		return e
	}
	d.pending = append(d.pending, write{place: n, bytes: block(b)})
	d.newest[n] = len(d.pending)
	d.writes++
	return api.OK
}

// Sync makes all writes lasting.
func (d *Disk) Sync() api.Errno {
	if e := d.refusesAll(); e != api.OK {
		return e
	}
	if e := d.spend(); e != api.OK {
		return e
	}
	for _, w := range d.pending {
		d.settle(w, api.KeepWhole)
	}
	d.forget()
	d.syncs++
	return api.OK
}

// refuses is why block n is neither read nor written.
func (d *Disk) refuses(n int) api.Errno {
	if e := d.refusesAll(); e != api.OK {
		return e
	}
	if !d.has(n) {
		return api.ErrDiskPlace
	}
	return api.OK
}

// forget leaves no write pending.
func (d *Disk) forget() {
	for _, w := range d.pending {
		d.newest[w.place] = 0
	}
	d.pending = nil
}

// list is a block's bytes as new memory.
func (b block) list() []byte {
	return b[:]
}
