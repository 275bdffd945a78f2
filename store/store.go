// Package store lays a log on a disk: a checkpoint, tiles of hashes, bundles of entries, and a journal of what is being added.
package store

import (
	"grove/api"
	"grove/disk"
	"grove/tree"
)

const checkpointMark = "grove checkpoint"

// Store is a disk on which a log lies.
type Store struct {
	*disk.Disk
}

// New makes a log without entries on a new disk.
func New() Store {
	d := &disk.Disk{}
	writeCheckpoint(d, 0, tree.Join())
	// A disk that is opened has done no acts: what has made it a log's disk does not count.
	d, _ = disk.Open(d.Bytes())
	return Store{d}
}

// Open makes a log of a disk's bytes, if a log lies there.
func Open(bytes string) (Store, bool) {
	d, fits := disk.Open(bytes)
	if !fits || !sound(d) {
		return Store{}, false
	}
	return Store{d}, true
}

// Checkpoint is how many entries there are, and their root.
func (s Store) Checkpoint() (int, string) {
	return readCheckpoint(s.Disk)
}

// Entry is entry i, which there must be.
func (s Store) Entry(i int) string {
	entry, _ := unpacked(bundles().read(s.Disk, i))
	return entry
}

// Span is the hash of the tree of the entries from one number on, up to another, worked out from tiles.
func (s Store) Span(from int, to int) string {
	return span(s.Disk, from, to)
}

// Pending tells whether adding was begun and not ended.
func (s Store) Pending() bool {
	_, found := readJournal(s.Disk)
	return found
}

// Add puts entries behind those that there are. Where the disk fails in it, it is done, pending, or not begun.
func (s Store) Add(entries ...string) {
	first, _ := s.Checkpoint()
	j := journal{first, entries}
	j.write(s.Disk)
	end(s.Disk, j)
}

// Recover ends what is pending.
func (s Store) Recover() {
	if j, found := readJournal(s.Disk); found {
		end(s.Disk, j)
	}
}

// end adds what a journal that lasts tells of, if the checkpoint has it not yet, and removes the journal.
func end(d *disk.Disk, j journal) {
	if n, _ := readCheckpoint(d); n == j.first {
		bundles().write(d, j.first, packed(j.entries)...)
		n += len(j.entries)
		growTiles(d, j.first, n)
		// The checkpoint tells of nothing that does not last.
		d.Flush()
		writeCheckpoint(d, n, span(d, 0, n))
	}
	removeJournal(d)
}

func writeCheckpoint(d *disk.Disk, n int, root string) {
	d.Write(checkpointAt, checkpoint(n, root))
	d.Flush()
}

func readCheckpoint(d *disk.Disk) (n int, root string) {
	sector := d.Read(checkpointAt)
	counted := len(checkpointMark)
	return int(sector[counted]), string(sector[counted+1 : counted+1+api.HashSize])
}

func checkpoint(n int, root string) disk.Sector {
	return sectorOf(checkpointMark, number(n), root)
}

// sound tells whether a log lies on the disk: all that is told of it later holds together.
func sound(d *disk.Disk) bool {
	n, root := readCheckpoint(d)
	if n > api.MaxLog || d.Read(checkpointAt) != checkpoint(n, root) {
		return false
	}
	return tilesHold(d, n) && span(d, 0, n) == root && journalFits(d, n)
}
