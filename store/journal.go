package store

import (
	"grove/api"
	"grove/disk"
)

const journalMark = "grove journal"

// journal is what is about to be added: entries, the first of them with that number.
type journal struct {
	first   int
	entries []string
}

func (j journal) head() disk.Sector {
	return sectorOf(journalMark, number(j.first), number(len(j.entries)))
}

// write lets the entries last ahead of the head: a head that lasts never stands over a part of its entries, or over another journal's.
func (j journal) write(d *disk.Disk) {
	added().write(d, 0, packed(j.entries)...)
	d.Flush()
	d.Write(headAt, j.head())
	d.Flush()
}

// removeJournal leaves the entries where they are: without a head they are no journal.
func removeJournal(d *disk.Disk) {
	d.Write(headAt, disk.Sector{})
	d.Flush()
}

// readJournal answers the journal, if there is one.
func readJournal(d *disk.Disk) (journal, bool) {
	head := d.Read(headAt)
	if head == (disk.Sector{}) {
		return journal{}, false
	}
	first, count := int(head[len(journalMark)]), int(head[len(journalMark)+1])
	return journal{first, readAdded(d, count)}, true
}

// readAdded goes through the journal's entries until there are count of them, or one that is none.
func readAdded(d *disk.Disk, count int) []string {
	var entries []string
sectors:
	for at := addedAt; at < bundlesAt; at++ {
		sector := d.Read(at)
		for i := range perBundle {
			if len(entries) == count {
				break sectors
			}
			entry, fits := unpacked(string(added().slot(&sector, i)))
			if !fits {
				break sectors
			}
			entries = append(entries, entry)
		}
	}
	return entries
}

// journalFits tells whether the journal, if there is one, is whole, and adds to a log of n entries or has done so.
func journalFits(d *disk.Disk, n int) bool {
	j, found := readJournal(d)
	if !found {
		return true
	}
	after := j.first + len(j.entries)
	return d.Read(headAt) == j.head() && after <= api.MaxLog && (n == j.first || n == after)
}
