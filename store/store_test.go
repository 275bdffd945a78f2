package store

import (
	"strings"
	"testing"

	"grove/api"
	"grove/disk"
	"grove/tree"
)

// anyEntries: n entries of all lengths and bytes.
func anyEntries(n int) []string {
	entries := make([]string, n)
	for i := range entries {
		b := make([]byte, i*7%(api.MaxEntry+1))
		for j := range b {
			b[j] = byte(i*31 + j*17)
		}
		entries[i] = string(b)
	}
	return entries
}

// stored: a store with these entries, added so many at a time.
func stored(entries []string, step int) Store {
	s := New()
	for len(entries) > 0 {
		n := min(step, len(entries))
		s.Add(entries[:n]...)
		entries = entries[n:]
	}
	return s
}

// pended: a store that is pending, with or without the new checkpoint.
func pended(t *testing.T, entries []string, more []string, want int) Store {
	t.Helper()
	for after := range 500 {
		s := stored(entries, api.MaxQueue)
		s.Fail(after, 0)
		s.Add(more...)
		o, ok := Open(s.Bytes())
		if !ok {
			t.Fatalf("the disk that failed after %d acts is none", after)
		}
		if n, _ := o.Checkpoint(); o.Pending() && n == want {
			return o
		}
		if !s.Failed() {
			break
		}
	}
	t.Fatalf("nothing is pending with %d entries", want)
	return Store{}
}

func TestRowsLieApart(t *testing.T) {
	used := map[int]string{checkpointAt: "checkpoint"}
	use := func(name string, at int) {
		if used[at] != "" || at >= api.Sectors {
			t.Errorf("sector %d: %s, %s", at, used[at], name)
		}
		used[at] = name
	}
	use("head", headAt)
	for i := 0; i < api.MaxQueue; i += perBundle {
		use("added", added().start+i/perBundle)
	}
	for i := 0; i < api.MaxLog; i += perBundle {
		use("bundle", bundles().start+i/perBundle)
	}
	for level, size := 0, 1; size <= api.MaxLog; level, size = level+1, size*api.Width {
		for i := 0; i < api.MaxLog/size; i += api.Width {
			use("tile", tiles(level).start+i/api.Width)
		}
	}
}

func TestRowsWriteEachSectorOnce(t *testing.T) {
	for _, r := range []row{added(), bundles(), tiles(0), tiles(1)} {
		for first := range 9 {
			for count := range 9 {
				d := &disk.Disk{}
				r.write(d, 0, strings.Split("abcdefghijklmnopqrst", "")...)
				d.Flush()
				before := d.Acts()
				r.write(d, first, anyEntries(count)...)
				sectors := 0
				for i := first; i < first+count; i++ {
					if i == first || i%r.each == 0 {
						sectors++
					}
				}
				if d.Acts()-before != sectors {
					t.Errorf("%d slots from %d on: %d writes, want %d", count, first, d.Acts()-before, sectors)
				}
				for i := range 20 {
					want := string(rune('a' + i))
					if i >= first && i < first+count {
						want = anyEntries(count)[i-first]
					}
					want += strings.Repeat("\x00", api.Sector)
					if got := r.read(d, i); len(got) < api.HashSize || got != want[:len(got)] {
						t.Errorf("slot %d: %q, want %q", i, got, want[:len(got)])
					}
				}
			}
		}
	}
}

func TestPackedEntries(t *testing.T) {
	for n := range api.MaxEntry + 1 {
		entry := strings.Repeat("\xff", n)
		if got, fits := unpacked(packed([]string{entry})[0] + "behind"); got != entry || !fits {
			t.Errorf("an entry of %d bytes: %q, %v", n, got, fits)
		}
	}
	for n := api.MaxEntry + 1; n < 256; n++ {
		if got, fits := unpacked(number(n) + strings.Repeat("x", api.MaxEntry+1)); got != "" || fits {
			t.Errorf("a slot that tells of %d bytes: %q, %v", n, got, fits)
		}
	}
}

// Tiles hold hashes side by side, each of a tree of 1, 4, 16 .. entries; the entries lie beside; the checkpoint tells of all.
func TestWhatLiesOnTheDisk(t *testing.T) {
	entries := anyEntries(api.MaxLog)
	for n := range api.MaxLog + 1 {
		s := stored(entries[:n], 5)
		bytes := s.Bytes()
		for level, size := 0, 1; size <= n; level, size = level+1, size*4 {
			for i := range n / size {
				at := tiles(level).start*api.Sector + i*api.HashSize
				if bytes[at:at+api.HashSize] != tree.Root(entries[i*size:(i+1)*size]) {
					t.Errorf("%d entries: hash %d of level %d", n, i, level)
				}
			}
		}
		for i, entry := range entries[:n] {
			if s.Entry(i) != entry || !strings.Contains(bytes[bundlesAt*api.Sector:tilesAt*api.Sector], entry) {
				t.Errorf("%d entries: entry %d", n, i)
			}
		}
		if count, root := s.Checkpoint(); count != n || root != tree.Root(entries[:n]) {
			t.Errorf("%d entries: the checkpoint tells of %d", n, count)
		}
		if lasting := s.Read(checkpointAt); !strings.HasPrefix(bytes, string(lasting[:])) || s.Read(headAt) != (disk.Sector{}) {
			t.Errorf("%d entries: the checkpoint does not last, or the journal is not removed", n)
		}
	}
}

func TestSpansAreWorkedOutFromTiles(t *testing.T) {
	entries := anyEntries(api.MaxLog)
	s := stored(entries, api.MaxQueue)
	for at := bundlesAt; at < tilesAt; at++ {
		s.Write(at, disk.Sector{})
	}
	s.Flush()
	for n := range api.MaxLog + 1 {
		if s.Span(0, n) != tree.Root(entries[:n]) {
			t.Errorf("the first %d", n)
		}
		for size := 1; size <= n; size *= 2 {
			if from := n / size * size; s.Span(from-size, from) != tree.Root(entries[from-size:from]) || s.Span(from, n) != tree.Root(entries[from:n]) {
				t.Errorf("%d up to %d", from, n)
			}
		}
	}
}

// A tree of 4, 16 or 64 entries is one hash of its own tile: what lies below is not gone through.
func TestSpansTakeTheGreatestTiles(t *testing.T) {
	s := stored(anyEntries(api.MaxLog), api.MaxQueue)
	for level, size := 0, 1; size <= api.MaxLog; level, size = level+1, size*api.Width {
		other := tree.Leaf(number(level))
		last := api.MaxLog/size - 1
		tiles(level).write(s.Disk, last, other)
		s.Flush()
		if s.Span(last*size, api.MaxLog) != other {
			t.Errorf("the last %d are not worked out from the tiles of level %d", size, level)
		}
	}
}

// A tile that grows lies where the lesser one lay, and keeps its hashes.
func TestTilesGrowInTheirPlace(t *testing.T) {
	entries := anyEntries(api.MaxLog)
	s := New()
	for n, entry := range entries {
		before := s.Bytes()[tilesAt*api.Sector:]
		s.Add(entry)
		after := s.Bytes()[tilesAt*api.Sector:]
		for at := 0; at < len(before); at += api.HashSize {
			was, is := before[at:at+api.HashSize], after[at:at+api.HashSize]
			if was != is && was != strings.Repeat("\x00", api.HashSize) {
				t.Errorf("entry %d changes a hash that lay in a tile", n)
			}
		}
	}
}

func TestOpenRefusesWhatDoesNotHoldTogether(t *testing.T) {
	entries := anyEntries(21)
	good := stored(entries, 4).Bytes()
	changed := func(at int, b byte) string { return good[:at] + string([]byte{b}) + good[at+1:] }
	for b := range 256 {
		if _, ok := Open(changed(len(checkpointMark), byte(b))); ok != (b == len(entries)) {
			t.Errorf("a checkpoint that tells of %d entries, where there are %d: %v", b, len(entries), ok)
		}
	}
	for at := range api.Sector {
		if _, ok := Open(changed(at, good[at]^1)); ok {
			t.Errorf("a checkpoint, changed at %d", at)
		}
	}
	for i, entry := range entries {
		start := (bundlesAt+i/perBundle)*api.Sector + i%perBundle*(api.Sector/perBundle)
		for length := api.MaxEntry + 1; length < 256; length++ {
			if _, ok := Open(changed(start, byte(length))); ok {
				t.Errorf("entry %d, with %d bytes", i, length)
			}
		}
		for at := range 1 + len(entry) {
			at += start
			if _, ok := Open(changed(at, good[at]^1)); ok {
				t.Errorf("entry %d, changed at %d", i, at)
			}
		}
	}
	for level, size := 0, 1; size <= len(entries); level, size = level+1, size*api.Width {
		for at := range len(entries) / size * api.HashSize {
			at += tiles(level).start * api.Sector
			if _, ok := Open(changed(at, good[at]^1)); ok {
				t.Errorf("the tiles of level %d, changed at %d", level, at)
			}
		}
	}
	for _, bytes := range []string{strings.Repeat("\x00", len(good)), strings.Repeat("\xff", len(good)), good[api.Sector:] + good[:api.Sector]} {
		if _, ok := Open(bytes); ok {
			t.Error("bytes that are no log's")
		}
	}
}

func TestOpenRefusesOtherJournals(t *testing.T) {
	entries, more := anyEntries(20), anyEntries(27)[20:]
	for _, n := range []int{20, 27} {
		good := pended(t, entries, more, n)
		for _, first := range []int{0, 1, 8, 13, 14, 15, 19, 20, 21, 26, 27, 28, 63, 64, 65, 255} {
			for _, count := range []int{0, 1, 6, 7, 8, 11, 12, 13, 14, 19, 20, 27, 64, 255} {
				o, _ := Open(good.Bytes())
				o.Write(headAt, sectorOf(journalMark, number(first), number(count)))
				o.Flush()
				same := first == 20 && count == 7
				_, ok := Open(o.Bytes())
				if same && !ok || !same && ok && (count > api.MaxQueue || n != first && n != first+count) {
					t.Errorf("%d entries, a journal of %d from %d on: %v", n, count, first, ok)
				}
			}
		}
		good.Write(headAt, sectorOf("another mark"))
		good.Flush()
		if _, ok := Open(good.Bytes()); ok {
			t.Error("a head with another mark")
		}
	}
	full := pended(t, anyEntries(60), anyEntries(64)[60:], 60)
	full.Write(headAt, sectorOf(journalMark, number(60), number(5)))
	full.Flush()
	if _, ok := Open(full.Bytes()); ok {
		t.Error("a journal that adds more than there is room for")
	}
	long := pended(t, entries, more, 20)
	long.Write(addedAt, sectorOf(number(api.MaxEntry+1)))
	long.Flush()
	if _, ok := Open(long.Bytes()); ok {
		t.Error("a journal with an entry that is too long")
	}
}

// The journal lasts ahead of all else, and tiles and bundles ahead of the checkpoint: what is written shows in what lasts if the disk keeps nothing more.
func TestOrderOfAdding(t *testing.T) {
	entries, more := anyEntries(20), anyEntries(32)[20:]
	old, grown := stored(entries, api.MaxQueue), stored(append(entries, more...), api.MaxQueue)
	stage := 0
	for after := range 500 {
		s := stored(entries, api.MaxQueue)
		s.Fail(after, 0)
		s.Add(more...)
		bytes := s.Bytes()
		part := func(from, to int) string { return bytes[from*api.Sector : to*api.Sector] }
		is := func(want Store, from, to int) bool {
			return part(from, to) == want.Bytes()[from*api.Sector:to*api.Sector]
		}
		o, _ := Open(bytes)
		now := 0
		switch {
		case !is(old, 0, 1) && !o.Pending():
			now = 4
		case !is(old, 0, 1):
			now = 3
		case !is(old, bundlesAt, api.Sectors):
			now = 2
		case o.Pending():
			now = 1
		}
		if now < stage || now > stage+1 {
			t.Errorf("after %d acts: stage %d behind stage %d", after, now, stage)
		}
		stage = now
		if now >= 2 && !is(grown, bundlesAt, api.Sectors) {
			t.Errorf("after %d acts: some tiles and bundles last, not all", after)
		}
		if !s.Failed() {
			break
		}
	}
	if stage != 4 {
		t.Errorf("adding ends at stage %d", stage)
	}
}
