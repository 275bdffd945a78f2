package grove_test

import (
	"math"
	"testing"

	"grove/grove"
)

// edges: numbers around which something changes.
func edges() []int {
	return []int{math.MinInt, math.MinInt + 1, -1 << 40, -2, -1, 0, 1, 2, 3, 4, 5, 6, 7, 8, 9, 1<<39 - 1, 1 << 39, 1<<39 + 1, 1<<40 - 1, 1 << 40, 1<<40 + 1, 1 << 41, 1 << 62, math.MaxInt - 1, math.MaxInt}
}

func TestIncludedTakesWhatShows(t *testing.T) {
	for n := 1; n <= 40; n++ {
		entries := someEntries(n)
		for i := range n {
			if !grove.Included(leaf(entries[i]), i, n, showsEntry(i, entries), rootOf(entries)) {
				t.Errorf("P6: entry %d of %d is not shown", i, n)
			}
		}
	}
}

func TestIncludedRefusesOtherLists(t *testing.T) {
	for n := 1; n <= 20; n++ {
		entries := someEntries(n)
		root := rootOf(entries)
		for i := range n {
			hash, list := leaf(entries[i]), showsEntry(i, entries)
			for _, lists := range [][][]string{lesserLists(list), greaterLists(list, hash), greaterLists(list, root), greaterLists(list, ""), otherLists(list)} {
				for _, wrong := range lists {
					if grove.Included(hash, i, n, wrong, root) {
						t.Errorf("P6: entry %d of %d is shown by a wrong list of %d", i, n, len(wrong))
					}
				}
			}
		}
	}
}

func TestIncludedRefusesOtherHashesAndPlaces(t *testing.T) {
	for n := 1; n <= 20; n++ {
		entries := someEntries(n)
		root := rootOf(entries)
		for i := range n {
			hash, list := leaf(entries[i]), showsEntry(i, entries)
			for _, wrong := range []string{"", "x", entries[i], root + "\x00", root[:31], hash + "\x00", hash[:31], leaf("other"), rootOf(entries[:n-1])} {
				if wrong != hash && grove.Included(wrong, i, n, list, root) || wrong != root && grove.Included(hash, i, n, list, wrong) {
					t.Errorf("P6: entry %d of %d is shown with another leaf or root", i, n)
				}
			}
			for other := -3; other < 2*n; other++ {
				if other != i && grove.Included(hash, other, n, list, root) {
					t.Errorf("P6: entry %d of %d is shown at %d", i, n, other)
				}
			}
			for other := -3; other <= i; other++ {
				if grove.Included(hash, i, other, list, root) {
					t.Errorf("P6: entry %d of %d is shown among %d", i, n, other)
				}
			}
		}
	}
}

// A list that ends too soon or too late must not show what its hashes lead to as far as they go.
func TestIncludedCountsHashes(t *testing.T) {
	for n := 1; n <= 40; n++ {
		for i := range n {
			for count := range 9 {
				list := anyStrings(count)
				for among := 1; among <= 40; among++ {
					for _, at := range []int{i, i % among, among - 1} {
						root, ok := entryRoot("any", at, among, list)
						if ok && at < among && grove.Included("any", i, n, list, root) != wantIncluded("any", i, n, list, root) {
							t.Fatalf("P6: %d hashes, entry %d of %d, with the root by entry %d of %d", count, i, n, at, among)
						}
					}
				}
			}
		}
	}
}

func TestIncludedOfAnyStrings(t *testing.T) {
	for _, x := range []string{"", "any", "\xff\x00", string(make([]byte, 500))} {
		if !grove.Included(x, 0, 1, nil, x) || !grove.Included(x, 0, 1, []string{}, x) {
			t.Errorf("P6: %q is not the one of one", x)
		}
		if grove.Included(x, 0, 1, nil, x+"x") || grove.Included(x, 0, 1, []string{""}, x) || grove.Included(x, 1, 1, nil, x) || grove.Included(x, 0, 0, nil, x) {
			t.Errorf("P6: %q is the one of one wrongly", x)
		}
		if !grove.Included(x, 0, 2, []string{"right"}, node(x, "right")) || !grove.Included(x, 1, 2, []string{"left"}, node("left", x)) {
			t.Errorf("P6: %q is not one of two", x)
		}
		// The empty string is the same on both sides: a Node has no mark between its two.
		if x != "" && (grove.Included(x, 1, 2, []string{"right"}, node(x, "right")) || grove.Included(x, 0, 2, []string{"left"}, node("left", x))) {
			t.Errorf("P6: %q is one of two on the wrong side", x)
		}
	}
}

func TestIncludedAtGreatNumbers(t *testing.T) {
	for _, n := range []int{1<<39 - 1, 1 << 39, 1<<39 + 1, 1<<40 - 123456789, 1<<40 - 1, 1 << 40, 1<<40 + 1, 1 << 41, 1<<62 + 1, math.MaxInt} {
		for _, i := range []int{0, 1, 2, n / 3, n / 2, half(n) - 1, half(n), n - 2, n - 1} {
			shown := 0
			for count := range 65 {
				list := anyStrings(count)
				root, ok := entryRoot("any", i, n, list)
				if !ok {
					continue
				}
				shown++
				if grove.Included("any", i, n, list, root) != (n <= 1<<40) {
					t.Errorf("P6: entry %d of %d with %d hashes: taken is %v", i, n, count, n > 1<<40)
				}
				if grove.Included("any", i, n, list[:max(count-1, 0)], root) || grove.Included("any", i, n, append(list, ""), root) {
					t.Errorf("P6: entry %d of %d with a hash too few or too many", i, n)
				}
			}
			if shown != 1 {
				t.Fatalf("entry %d of %d is shown by lists of %d lengths", i, n, shown)
			}
		}
	}
}

func TestIncludedAtAllNumbers(t *testing.T) {
	for _, n := range edges() {
		for _, i := range edges() {
			for _, count := range []int{0, 1, 2, 3, 4, 39, 40, 41, 64, 1000} {
				list := anyStrings(count)
				for _, root := range []string{"any", "", node("any", "0"), node("0", "any")} {
					if got := grove.Included("any", i, n, list, root); got != wantIncluded("any", i, n, list, root) {
						t.Errorf("P6: entry %d of %d with %d hashes: %v", i, n, count, got)
					}
				}
			}
		}
	}
}

func TestIncludedChangesNothing(t *testing.T) {
	for n := 1; n <= 20; n++ {
		entries := someEntries(n)
		for i := range n {
			list := showsEntry(i, entries)
			room := append(append([]string{}, list...), "behind", "the end", "")
			before := append([]string{}, room...)
			for count := range len(room) + 1 {
				got := grove.Included(leaf(entries[i]), i, n, room[:count], rootOf(entries))
				if got != (count == len(list)) || !same(room, before) {
					t.Errorf("P2: entry %d of %d with %d hashes: %v, or its list is written into", i, n, count, got)
				}
			}
		}
	}
}
