// Package disk is a disk of sectors. What is written to it lasts when it is flushed, and it may fail as its script says.
package disk

import "grove/api"

// mostKept is the number of writes of which a script can say whether they last.
const mostKept = 63

// Sector is what one sector holds.
type Sector [api.Sector]byte

// Disk is a disk's sectors and its script.
// One that has failed does nothing any more: who does several acts may ask behind all of them whether it failed.
type Disk struct {
	lasting [api.Sectors]Sector
	fresh   []write // in the order in which they were made; they do not last yet
	acts    int
	script  script
	failed  bool
}

type write struct {
	at      int
	content Sector
}

// script says how many acts the disk does yet, and which writes last when it fails.
type script struct {
	set  bool
	left int
	keep int
}

// Open makes a disk that holds these bytes, if there are as many as a disk has.
func Open(bytes string) (*Disk, bool) {
	if len(bytes) != api.Sectors*api.Sector {
		return nil, false
	}
	d := &Disk{}
	for i := range d.lasting {
		copy(d.lasting[i][:], bytes[i*api.Sector:])
	}
	return d, true
}

// Bytes is all sectors as they last now.
func (d *Disk) Bytes() string {
	bytes := make([]byte, 0, api.Sectors*api.Sector)
	for _, sector := range d.lasting {
		bytes = append(bytes, sector[:]...)
	}
	return string(bytes)
}

// Fail lets the disk fail when it has done so many acts more; then the i-th write that does not last yet lasts if bit i of keep is 1.
func (d *Disk) Fail(after int, keep int) {
	d.script = script{set: true, left: after, keep: keep}
}

// Failed tells whether the disk has failed.
func (d *Disk) Failed() bool {
	return d.failed
}

// Acts is how many acts the disk has done.
func (d *Disk) Acts() int {
	return d.acts
}

// Read is what a sector holds, whether it lasts or not.
func (d *Disk) Read(at int) Sector {
	for _, w := range d.fresh {
		if w.at == at {
			return w.content
		}
	}
	return d.lasting[at]
}

// Write writes a sector, which must not be written twice between two flushes.
func (d *Disk) Write(at int, content Sector) {
	if d.act() {
		d.fresh = append(d.fresh, write{at, content})
	}
}

// Flush makes all that was written last.
func (d *Disk) Flush() {
	if d.act() {
		for _, w := range d.fresh {
			d.lasting[w.at] = w.content
		}
		d.fresh = nil
	}
}

// act tells whether the disk does one act more.
func (d *Disk) act() bool {
	if d.script.set && d.script.left == 0 && !d.failed {
		d.fail()
	}
	if d.failed {
		return false
	}
	d.script.left--
	d.acts++
	return true
}

func (d *Disk) fail() {
	d.failed = true
	for i, w := range d.fresh {
		if i < mostKept && d.script.keep>>i&1 == 1 {
			d.lasting[w.at] = w.content
		}
	}
	d.fresh = nil
}
