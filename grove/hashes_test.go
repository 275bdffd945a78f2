package grove_test

import (
	"encoding/hex"
	"strings"
	"testing"

	"grove/api"
	"grove/grove"
)

func lettersRoot(n int) string { return grove.Root(strings.Split("abcdefg", "")[:n]) }

func TestHashExamples(t *testing.T) {
	a, b, c := grove.Leaf("a"), grove.Leaf("b"), grove.Leaf("c")
	for _, x := range []struct{ name, got, want string }{
		{"P4: Root of nothing", hex.EncodeToString([]byte(grove.Root(nil))), "e3b0c44298fc1c149afbf4c8996fb92427ae41e4649b934ca495991b7852b855"},
		{"P3: Leaf of the empty entry", hex.EncodeToString([]byte(grove.Leaf(""))), "6e340b9cffb37a989ca544e6bb780a2c78901d3fb33738768511a30617afa01d"},
		{"P4: Root of a, b, c", lettersRoot(3), grove.Node(grove.Node(a, b), c)},
		{"P4: Root of one", lettersRoot(1), a},
		{"P4: Root of two", lettersRoot(2), grove.Node(a, b)},
	} {
		if x.got != x.want {
			t.Errorf("%s: %x, want %x", x.name, x.got, x.want)
		}
	}
}

func TestShownExamples(t *testing.T) {
	var h []string
	for _, x := range strings.Split("abcdefg", "") {
		h = append(h, grove.Leaf(x))
	}
	if !grove.Included(h[0], 0, 3, []string{h[1], h[2]}, lettersRoot(3)) {
		t.Error("P6: entry 0 of a, b, c")
	}
	if !grove.Included(h[2], 2, 3, []string{grove.Node(h[0], h[1])}, lettersRoot(3)) {
		t.Error("P6: entry 2 of a, b, c")
	}
	if !grove.Extends(2, 3, lettersRoot(2), lettersRoot(3), []string{h[2]}) {
		t.Error("P8: a, b, c begin with a, b")
	}
	if !grove.Extends(1, 3, lettersRoot(1), lettersRoot(3), []string{h[1], h[2]}) {
		t.Error("P8: a, b, c begin with a")
	}
	lastThree := grove.Root([]string{"e", "f", "g"})
	if !grove.Extends(3, 7, lettersRoot(3), lettersRoot(7), []string{h[2], h[3], grove.Node(h[0], h[1]), lastThree}) {
		t.Error("P8: seven begin with three")
	}
}

// bytesFrom: n bytes of all values, from that one on.
func bytesFrom(first, n int) string {
	b := make([]byte, n)
	for i := range b {
		b[i] = byte(first + i)
	}
	return string(b)
}

func TestLeafOfAnyBytes(t *testing.T) {
	for n := range 300 {
		for _, first := range []int{0, 1, 60, 128, 200} {
			entry := bytesFrom(first, n)
			if got := grove.Leaf(entry); got != leaf(entry) || len(got) != api.HashSize {
				t.Errorf("P3: Leaf of %d bytes from %d on: %x, want %x", n, first, got, leaf(entry))
			}
		}
	}
	if long := strings.Repeat("long \xfe", 200000); grove.Leaf(long) != leaf(long) {
		t.Error("P3: Leaf of a long entry")
	}
}

func TestNodeOfAnyStrings(t *testing.T) {
	lengths := []int{0, 1, 30, 31, 32, 33, 54, 55, 56, 57, 62, 63, 64, 65, 118, 119, 120, 127, 128, 1000}
	for _, n := range lengths {
		for _, m := range lengths {
			left, right := bytesFrom(250, n), bytesFrom(3, m)
			if got := grove.Node(left, right); got != node(left, right) || len(got) != api.HashSize {
				t.Errorf("P3: Node of %d and %d bytes: %x, want %x", n, m, got, node(left, right))
			}
		}
	}
	if grove.Node("a", "b") == grove.Node("b", "a") || grove.Node("a", "") == grove.Leaf("a") {
		t.Error("P3: Node has an order and a mark of its own")
	}
}

func TestRootOfLists(t *testing.T) {
	for n := range 140 {
		entries := someEntries(n)
		if got := grove.Root(entries); got != rootOf(entries) || len(got) != api.HashSize {
			t.Errorf("P4: Root of %d entries: %x, want %x", n, got, rootOf(entries))
		}
		if n > 0 && grove.Root(entries) == grove.Root(entries[:n-1]) {
			t.Errorf("P4: Root of %d entries and of one less", n)
		}
	}
	if grove.Root([]string{}) != grove.Root(nil) || grove.Root([]string{""}) != grove.Leaf("") {
		t.Error("P4: Root of an empty list, and of the empty entry")
	}
	if grove.Root([]string{"ab", ""}) == grove.Root([]string{"a", "b"}) {
		t.Error("P4: where entries end is part of the hash")
	}
	if many := make([]string, 5000); grove.Root(many) != rootOf(many) {
		t.Error("P4: Root of many empty entries")
	}
}

func TestRootChangesNothing(t *testing.T) {
	for n := range 20 {
		room := append(someEntries(n), "behind", "the end", "")
		before := append([]string{}, room...)
		first := grove.Root(room[:n])
		if !same(room, before) {
			t.Errorf("P2: Root of %d entries writes into its list", n)
		}
		if grove.Root(room[:n]) != first {
			t.Errorf("P2: Root of %d entries is another one the second time", n)
		}
	}
}

func same(a, b []string) bool {
	if len(a) != len(b) {
		return false
	}
	for i := range a {
		if a[i] != b[i] {
			return false
		}
	}
	return true
}
