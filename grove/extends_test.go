package grove_test

import (
	"math"
	"testing"

	"grove/grove"
)

func powerOf2(m int) bool { return m > 0 && m&(m-1) == 0 }

func TestExtendsTakesWhatShows(t *testing.T) {
	for n := 1; n <= 40; n++ {
		entries := someEntries(n)
		for m := 1; m <= n; m++ {
			if !grove.Extends(m, n, rootOf(entries[:m]), rootOf(entries), showsStart(m, entries, true)) {
				t.Errorf("P8: that %d begin with %d is not shown", n, m)
			}
		}
	}
}

func TestExtendsRefusesOtherLists(t *testing.T) {
	for n := 1; n <= 20; n++ {
		entries := someEntries(n)
		root := rootOf(entries)
		for m := 1; m <= n; m++ {
			old, list := rootOf(entries[:m]), showsStart(m, entries, true)
			for _, lists := range [][][]string{lesserLists(list), greaterLists(list, old), greaterLists(list, root), greaterLists(list, ""), otherLists(list)} {
				for _, wrong := range lists {
					if grove.Extends(m, n, old, root, wrong) {
						t.Errorf("P8: that %d begin with %d is shown by a wrong list of %d", n, m, len(wrong))
					}
				}
			}
		}
	}
}

func TestExtendsRefusesOtherHashesAndNumbers(t *testing.T) {
	for n := 1; n <= 20; n++ {
		entries := someEntries(n)
		root := rootOf(entries)
		for m := 1; m <= n; m++ {
			old, list := rootOf(entries[:m]), showsStart(m, entries, true)
			for _, wrong := range []string{"", "x", old + "\x00", old[:31], root + "\x00", root[1:], leaf("other"), rootOf(entries[:m-1])} {
				if grove.Extends(m, n, wrong, root, list) || grove.Extends(m, n, old, wrong, list) {
					t.Errorf("P8: that %d begin with %d is shown with another old or root", n, m)
				}
			}
			if m != n && (grove.Extends(m, n, root, old, list) || grove.Extends(m, n, old, old, list) || grove.Extends(m, n, root, root, list)) {
				t.Errorf("P8: that %d begin with %d is shown with old and root in one another's place", n, m)
			}
			for other := -3; other < 2*n; other++ {
				if other != m && grove.Extends(other, n, old, root, list) {
					t.Errorf("P8: what shows that %d begin with %d shows it of %d", n, m, other)
				}
				if other < m && grove.Extends(m, other, old, root, list) {
					t.Errorf("P8: %d are shown to begin with %d", other, m)
				}
			}
		}
	}
}

// Another log of n entries, grown from other first ones, does not extend the first m.
func TestExtendsRefusesAnotherLog(t *testing.T) {
	for n := 2; n <= 20; n++ {
		entries := someEntries(n)
		for m := 1; m < n; m++ {
			old := rootOf(entries[:m])
			for changed := range m {
				other := append([]string{}, entries...)
				other[changed] = "changed"
				if grove.Extends(m, n, old, rootOf(other), showsStart(m, other, true)) {
					t.Errorf("P8: %d with entry %d changed are shown to begin with %d", n, changed, m)
				}
			}
		}
	}
}

// A list that ends too soon or too late must not show what its hashes lead to as far as they go.
func TestExtendsCountsHashes(t *testing.T) {
	for n := 1; n <= 24; n++ {
		for m := 1; m <= n; m++ {
			for count := range 9 {
				list := anyStrings(count)
				for among := 1; among <= 24; among++ {
					for _, first := range []int{m, m%among + 1, among} {
						if first > among {
							continue
						}
						old, root, ok := startRoots(first, among, true, "any", list)
						if ok && grove.Extends(m, n, old, root, list) != wantExtends(m, n, old, root, list) {
							t.Fatalf("P8: %d hashes, the first %d of %d, with the roots by %d of %d", count, m, n, first, among)
						}
					}
				}
			}
		}
	}
}

func TestExtendsOfAsMany(t *testing.T) {
	for _, n := range []int{1, 2, 3, 4, 5, 7, 8, 1<<40 - 1, 1 << 40} {
		for _, x := range []string{"", "any", "\xff\x00", string(make([]byte, 500))} {
			if !grove.Extends(n, n, x, x, nil) || !grove.Extends(n, n, x, x, []string{}) {
				t.Errorf("P8: %d of %d with %q", n, n, x)
			}
			if grove.Extends(n, n, x, x, []string{x}) || grove.Extends(n, n, x, x, []string{""}) || grove.Extends(n, n, x, x+"x", nil) || grove.Extends(n, n, x+"x", x, nil) {
				t.Errorf("P8: %d of %d with %q wrongly", n, n, x)
			}
		}
	}
	for _, n := range []int{math.MinInt, -1, 0, 1<<40 + 1, 1 << 41, math.MaxInt} {
		if grove.Extends(n, n, "any", "any", nil) || grove.Extends(n, n, "", "", nil) {
			t.Errorf("P8: %d of %d is shown", n, n)
		}
	}
}

func TestExtendsOfAnyStrings(t *testing.T) {
	for _, x := range []string{"", "any", "\xff\x00", string(make([]byte, 500))} {
		if !grove.Extends(1, 2, x, node(x, "right"), []string{"right"}) || !grove.Extends(4, 5, x, node(x, ""), []string{""}) {
			t.Errorf("P8: %q is not the hash of a power of 2", x)
		}
		if grove.Extends(1, 2, x, node(x, "right"), []string{x, "right"}) || grove.Extends(1, 2, x, x, nil) {
			t.Errorf("P8: %q is the hash of a power of 2 wrongly", x)
		}
		list := []string{x, "d", "ab"}
		old, root := node("ab", x), node("ab", node(x, "d"))
		if !grove.Extends(3, 4, old, root, list) {
			t.Errorf("P8: four begin with three, the third being %q", x)
		}
		if grove.Extends(3, 4, x, root, list) || grove.Extends(3, 4, old, node(node(x, "d"), "ab"), list) || grove.Extends(3, 4, x, x, nil) || grove.Extends(3, 4, x, x, []string{x}) {
			t.Errorf("P8: four begin with three wrongly, the third being %q", x)
		}
		// The empty string is the same on both sides: a Node has no mark between its two.
		if x != "" && (grove.Extends(1, 2, x, node("right", x), []string{"right"}) || grove.Extends(3, 4, node(x, "ab"), root, list)) {
			t.Errorf("P8: %q is taken on the wrong side", x)
		}
	}
}

func TestExtendsAtGreatNumbers(t *testing.T) {
	for _, n := range []int{1<<39 - 1, 1 << 39, 1<<39 + 1, 1<<40 - 123456789, 1<<40 - 1, 1 << 40, 1<<40 + 1, 1 << 41, 1<<62 + 1, math.MaxInt} {
		for _, m := range []int{1, 2, 3, 1 << 20, 1<<20 + 1, n / 3, n / 2, half(n) - 1, half(n), half(n) + 1, n - 2, n - 1} {
			if m == n {
				continue
			}
			shown := 0
			for count := range 66 {
				list := anyStrings(count)
				old, root, ok := startRoots(m, n, true, "any", list)
				if !ok {
					continue
				}
				shown++
				if powerOf2(m) != (old == "any") {
					t.Fatalf("the hash of the first %d is not told by the list alone", m)
				}
				if grove.Extends(m, n, old, root, list) != (n <= 1<<40) {
					t.Errorf("P8: the first %d of %d with %d hashes: taken is %v", m, n, count, n > 1<<40)
				}
				if grove.Extends(m, n, old, root, list[:count-1]) || grove.Extends(m, n, old, root, append(list, "")) || grove.Extends(m, n, old+"x", root, list) || grove.Extends(m, n, old, root+"x", list) {
					t.Errorf("P8: the first %d of %d are shown wrongly", m, n)
				}
			}
			if shown != 1 {
				t.Fatalf("the first %d of %d are shown by lists of %d lengths", m, n, shown)
			}
		}
	}
}

func TestExtendsAtAllNumbers(t *testing.T) {
	for _, n := range edges() {
		for _, m := range edges() {
			for _, count := range []int{0, 1, 2, 3, 4, 39, 40, 41, 64, 1000} {
				list := anyStrings(count)
				for _, root := range []string{"any", "", node("any", "0"), node("0", "any")} {
					if got := grove.Extends(m, n, "any", root, list); got != wantExtends(m, n, "any", root, list) {
						t.Errorf("P8: the first %d of %d with %d hashes: %v", m, n, count, got)
					}
				}
			}
		}
	}
}

func TestExtendsChangesNothing(t *testing.T) {
	for n := 1; n <= 20; n++ {
		entries := someEntries(n)
		for m := 1; m <= n; m++ {
			list := showsStart(m, entries, true)
			room := append(append([]string{}, list...), "behind", "the end", "")
			before := append([]string{}, room...)
			for count := range len(room) + 1 {
				got := grove.Extends(m, n, rootOf(entries[:m]), rootOf(entries), room[:count])
				if got != (count == len(list)) || !same(room, before) {
					t.Errorf("P2: the first %d of %d with %d hashes: %v, or its list is written into", m, n, count, got)
				}
			}
		}
	}
}
