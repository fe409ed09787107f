package disk

import "keystone/api"

// Blocks is how many blocks it has.
func (d *Disk) Blocks() int {
	if !d.made() {
		return 0
	}
	return len(d.lasting)
}

// Off tells whether the power is off.
func (d *Disk) Off() bool {
	return d.made() && d.off
}

// Pending are the writes that wait for a sync.
func (d *Disk) Pending() []api.Pending {
	if !d.made() {
		return nil
	}
	l := make([]api.Pending, len(d.pending))
	for i, w := range d.pending {
		l[i] = api.Pending{Block: w.place, Data: w.bytes.list()}
	}
	return l
}

// Image is what is lasting: the bytes, and the blocks that can't be read.
func (d *Disk) Image() ([]byte, []int) {
	if !d.made() {
		return nil, nil
	}
	image := make([]byte, 0, len(d.lasting)*api.BlockSize)
	var torn []int
	for n, c := range d.lasting {
		image = append(image, c.bytes[:]...)
		if c.torn {
			torn = append(torn, n)
		}
	}
	return image, torn
}

// Counts are how many writes and syncs were done.
func (d *Disk) Counts() (int, int) {
	if !d.made() {
		return 0, 0
	}
	return d.writes, d.syncs
}
