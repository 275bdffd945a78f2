package tree

import (
	"math"
	"testing"
)

func TestSplit(t *testing.T) {
	for n := 2; n < 1000; n++ {
		k := split(n)
		if k&(k-1) != 0 || k >= n || 2*k < n {
			t.Errorf("split of %d: %d", n, k)
		}
	}
	for _, c := range []struct{ n, want int }{{1 << 40, 1 << 39}, {1<<40 + 1, 1 << 40}, {1<<40 - 1, 1 << 39}, {math.MaxInt, 1 << 62}} {
		if got := split(c.n); got != c.want {
			t.Errorf("split of %d: %d, want %d", c.n, got, c.want)
		}
	}
}

func TestClimbTellsBothHashes(t *testing.T) {
	// The third of five: d stands to its right, ab to its left, e to the right of all four.
	part, whole, fits := climb("c", 2, 4, []string{"d", "ab", "e"})
	if !fits || part != Node("ab", "c") || whole != Node(Node("ab", Node("c", "d")), "e") {
		t.Errorf("climb from the third of five: %x, %x, %v", part, whole, fits)
	}
	// The fifth of five has nothing beside it up to the root.
	part, whole, fits = climb("e", 4, 4, []string{"abcd"})
	if !fits || part != Node("abcd", "e") || whole != part {
		t.Errorf("climb from the fifth of five: %x, %x, %v", part, whole, fits)
	}
	for _, list := range [][]string{nil, {"d"}, {"d", "ab"}, {"d", "ab", "e", "f"}} {
		if _, _, fits := climb("c", 2, 4, list); fits {
			t.Errorf("%d hashes fit the third of five", len(list))
		}
	}
}
