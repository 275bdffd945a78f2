package store

import (
	"grove/api"
	"grove/disk"
)

// Where things lie: the checkpoint, the journal's head and the entries that it adds, all entries in bundles, and the tiles.
const (
	checkpointAt = 0
	headAt       = 1
	addedAt      = 2
	bundlesAt    = addedAt + (api.MaxQueue+perBundle-1)/perBundle
	tilesAt      = bundlesAt + (api.MaxLog+perBundle-1)/perBundle
)

// perBundle is how many entries, with the byte that tells their length, have room in a sector.
const perBundle = api.Sector / (1 + api.MaxEntry)

// row is sectors side by side from start on, with so many slots in each.
type row struct {
	start int
	each  int
}

func added() row {
	return row{addedAt, perBundle}
}

func bundles() row {
	return row{bundlesAt, perBundle}
}

// tiles is the tiles whose hashes are each of a tree of Width to the level-th entries. Those of the next level lie behind them.
func tiles(level int) row {
	start, trees := tilesAt, api.MaxLog
	for range level {
		start += (trees + api.Width - 1) / api.Width
		trees /= api.Width
	}
	return row{start, api.Width}
}

// read is what slot i holds.
func (r row) read(d *disk.Disk, i int) string {
	sector := d.Read(r.start + i/r.each)
	return string(r.slot(&sector, i))
}

// write puts contents into the slots from first on, and writes each sector once.
func (r row) write(d *disk.Disk, first int, contents ...string) {
	for len(contents) > 0 {
		at := r.start + first/r.each
		sector := d.Read(at)
		taken := min(len(contents), r.each-first%r.each)
		for i, content := range contents[:taken] {
			slot := r.slot(&sector, first+i)
			clear(slot[copy(slot, content):])
		}
		d.Write(at, sector)
		first, contents = first+taken, contents[taken:]
	}
}

func (r row) slot(sector *disk.Sector, i int) []byte {
	size := api.Sector / r.each
	from := i % r.each * size
	return sector[from : from+size]
}

// sectorOf is a sector that holds the parts, one behind the other.
func sectorOf(parts ...string) disk.Sector {
	var sector disk.Sector
	filled := 0
	for _, part := range parts {
		filled += copy(sector[filled:], part)
	}
	return sector
}

// number is one byte: all numbers on the disk are small.
func number(n int) string {
	return string([]byte{byte(n)})
}

// packed is entries as they stand in slots: the length, and the bytes.
func packed(entries []string) []string {
	slots := make([]string, len(entries))
	for i, entry := range entries {
		slots[i] = number(len(entry)) + entry
	}
	return slots
}

// unpacked is the entry in a slot, if one may stand there.
func unpacked(slot string) (string, bool) {
	length := int(slot[0])
	if length > api.MaxEntry {
		return "", false
	}
	return slot[1 : 1+length], true
}
