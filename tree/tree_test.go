package tree

import (
	"math"
	"slices"
	"strconv"
	"strings"
	"testing"

	"grove/digest"
)

// over: the hashes of parts of these entries.
func over(entries []string) Span {
	return func(from, to int) string { return Root(entries[from:to]) }
}

func TestSplit(t *testing.T) {
	for n := 2; n < 1000; n++ {
		k := Split(n)
		if k&(k-1) != 0 || k >= n || 2*k < n {
			t.Errorf("Split of %d: %d", n, k)
		}
	}
	for _, c := range []struct{ n, want int }{{1 << 40, 1 << 39}, {1<<40 + 1, 1 << 40}, {1<<40 - 1, 1 << 39}, {math.MaxInt, 1 << 62}} {
		if got := Split(c.n); got != c.want {
			t.Errorf("Split of %d: %d, want %d", c.n, got, c.want)
		}
	}
}

func TestClimbTellsBothHashes(t *testing.T) {
	// The third of five: d stands to its right, ab to its left, e to the right of all four.
	part, whole, fits := climb("c", 2, 4, []string{"d", "ab", "e"})
	if !fits || part != Node("ab", "c") || whole != Node(Node("ab", Node("c", "d")), "e") {
		t.Errorf("climb from the third of five: %x, %x, %v", part, whole, fits)
	}
	// The fifth of five has nothing beside it up to the root.
	part, whole, fits = climb("e", 4, 4, []string{"abcd"})
	if !fits || part != Node("abcd", "e") || whole != part {
		t.Errorf("climb from the fifth of five: %x, %x, %v", part, whole, fits)
	}
	for _, list := range [][]string{nil, {"d"}, {"d", "ab"}, {"d", "ab", "e", "f"}} {
		if _, _, fits := climb("c", 2, 4, list); fits {
			t.Errorf("%d hashes fit the third of five", len(list))
		}
	}
}

func TestJoin(t *testing.T) {
	if Join() != digest.Of() || Join("a") != "a" || Join("a", "b") != Node("a", "b") || Join("a", "b", "c") != Node(Node("a", "b"), "c") {
		t.Error("Join of up to three")
	}
	var entries, fours []string
	for i := range 64 {
		entries = append(entries, strconv.Itoa(i))
		if i%4 == 3 {
			fours = append(fours, Root(entries[i-3:]))
			if Join(fours...) != Root(entries) {
				t.Errorf("Join of %d trees of four", len(fours))
			}
		}
	}
}

func TestWhatShowsSeven(t *testing.T) {
	letters := strings.Split("abcdefg", "")
	ab, efg := Root(letters[:2]), Root(letters[4:])
	for _, c := range []struct {
		name      string
		got, want []string
	}{
		{"entry 0 of 1", Inclusion(0, 1, over(letters)), nil},
		{"entry 0 of 3", Inclusion(0, 3, over(letters)), []string{Leaf("b"), Leaf("c")}},
		{"entry 2 of 3", Inclusion(2, 3, over(letters)), []string{ab}},
		{"entry 3 of 7", Inclusion(3, 7, over(letters)), []string{Leaf("c"), ab, efg}},
		{"entry 6 of 7", Inclusion(6, 7, over(letters)), []string{Root(letters[4:6]), Root(letters[:4])}},
		{"2 of 3", Consistency(2, 3, over(letters)), []string{Leaf("c")}},
		{"1 of 3", Consistency(1, 3, over(letters)), []string{Leaf("b"), Leaf("c")}},
		{"3 of 7", Consistency(3, 7, over(letters)), []string{Leaf("c"), Leaf("d"), ab, efg}},
		{"4 of 7", Consistency(4, 7, over(letters)), []string{efg}},
		{"6 of 7", Consistency(6, 7, over(letters)), []string{Root(letters[4:6]), Leaf("g"), Root(letters[:4])}},
		{"7 of 7", Consistency(7, 7, over(letters)), nil},
	} {
		if !slices.Equal(c.got, c.want) {
			t.Errorf("what shows %s: %x, want %x", c.name, c.got, c.want)
		}
	}
}

func TestWhatShowsIsTaken(t *testing.T) {
	var entries []string
	for n := 1; n <= 40; n++ {
		entries = append(entries, strconv.Itoa(n))
		for i := range n {
			if !Included(Leaf(entries[i]), i, n, Inclusion(i, n, over(entries)), Root(entries)) {
				t.Errorf("entry %d of %d", i, n)
			}
			if m := i + 1; !Extends(m, n, Root(entries[:m]), Root(entries), Consistency(m, n, over(entries))) {
				t.Errorf("the first %d of %d", m, n)
			}
		}
	}
}
