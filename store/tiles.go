package store

import (
	"grove/api"
	"grove/disk"
	"grove/tree"
)

// span is the hash of the tree of the entries from one number on, up to another, where these are a part of a log's tree.
func span(d *disk.Disk, from int, to int) string {
	size := to - from
	if size == 0 {
		return tree.Join()
	}
	if level, held := levelOf(size); held {
		return tiles(level).read(d, from/size)
	}
	middle := from + tree.Split(size)
	return tree.Node(span(d, from, middle), span(d, middle, to))
}

// levelOf is the level of the tiles that hold hashes of trees of so many entries, if there are such tiles.
func levelOf(size int) (level int, held bool) {
	for size%api.Width == 0 {
		size /= api.Width
		level++
	}
	return level, size == 1
}

// growTiles writes the tiles that change when a log of first entries, whose bundles are written, grows to n.
func growTiles(d *disk.Disk, first int, n int) {
	for level, size := 0, 1; first/size < n/size; level, size = level+1, size*api.Width {
		var hashes []string
		for i := first / size; i < n/size; i++ {
			hash, _ := hashBelow(d, level, i)
			hashes = append(hashes, hash)
		}
		tiles(level).write(d, first/size, hashes...)
	}
}

// hashBelow works out what hash i of a level must be: from the tile below, or from the entry itself. It fails if there is no such entry.
func hashBelow(d *disk.Disk, level int, i int) (hash string, found bool) {
	if level == 0 {
		entry, fits := unpacked(bundles().read(d, i))
		return tree.Leaf(entry), fits
	}
	var hashes []string
	for below := i * api.Width; below < (i+1)*api.Width; below++ {
		hashes = append(hashes, tiles(level-1).read(d, below))
	}
	return tree.Join(hashes...), true
}

// tilesHold tells whether the tiles of n entries hold what the entries' bundles, and the tiles below, say.
func tilesHold(d *disk.Disk, n int) bool {
	hold := true
levels:
	for level, size := 0, 1; size <= n; level, size = level+1, size*api.Width {
		these := tiles(level)
		for at := 0; ; at++ {
			tile := d.Read(these.start + at)
			for i := at * api.Width; i < (at+1)*api.Width; i++ {
				if i == n/size {
					continue levels
				}
				hash, found := hashBelow(d, level, i)
				if !found || string(these.slot(&tile, i)) != hash {
					hold = false
					break levels
				}
			}
		}
	}
	return hold
}
