// Package tree works out the hash of a tree of entries, and what a list of hashes shows of one.
package tree

import (
	"math/bits"

	"grove/digest"
)

// The byte ahead of what is hashed keeps a leaf from being taken for a node.
const (
	leafMark = "\x00"
	nodeMark = "\x01"
)

// mostShown is the greatest number of entries of which a list may show something.
const mostShown = 1 << 40

// Leaf is the hash of a tree of one entry.
func Leaf(entry string) string {
	return digest.Of(leafMark, entry)
}

// Node is the hash of a tree of two lesser ones.
func Node(left string, right string) string {
	return digest.Of(nodeMark, left, right)
}

// Root is the hash of the entries' tree.
func Root(entries []string) string {
	leaves := make([]string, len(entries))
	for i, entry := range entries {
		leaves[i] = Leaf(entry)
	}
	return Join(leaves...)
}

// Join is the hash of the tree that has these trees, all of one size, side by side.
func Join(hashes ...string) string {
	switch len(hashes) {
	case 0:
		return digest.Of()
	case 1:
		return hashes[0]
	}
	k := Split(len(hashes))
	return Node(Join(hashes[:k]...), Join(hashes[k:]...))
}

// Split is the greatest power of 2 below n, which is above 1: so many of n entries stand in the left one of the two lesser trees.
func Split(n int) int {
	return 1 << (bits.Len(uint(n-1)) - 1)
}

// Span tells the hash of the tree of the entries from one number on, up to another.
type Span func(from int, to int) string

// Inclusion is the list that shows that entry i is among the first n.
func Inclusion(i int, n int, span Span) []string {
	return besideEntry(i, 0, n, span)
}

func besideEntry(i int, from int, to int, span Span) []string {
	if to-from == 1 {
		return nil
	}
	middle := from + Split(to-from)
	if i < middle {
		return append(besideEntry(i, from, middle, span), span(middle, to))
	}
	return append(besideEntry(i, middle, to, span), span(from, middle))
}

// Consistency is the list that shows that the first n entries begin with the first m.
func Consistency(m int, n int, span Span) []string {
	return besideStart(m, 0, n, span)
}

func besideStart(m int, from int, to int, span Span) []string {
	if m == to && from == 0 {
		return nil // these are all of the first m: who asks has their hash
	}
	if m == to {
		return []string{span(from, to)}
	}
	middle := from + Split(to-from)
	if m <= middle {
		return append(besideStart(m, from, middle, span), span(middle, to))
	}
	return append(besideStart(m, middle, to, span), span(from, middle))
}

// Included tells whether the list shows that leaf is the i-th of n entries, whose tree has the hash root.
func Included(leaf string, i int, n int, list []string, root string) bool {
	if i < 0 || i >= n || n > mostShown {
		return false
	}
	_, whole, fits := climb(leaf, i, n-1, list)
	return fits && whole == root
}

// Extends tells whether the list shows that n entries, whose tree has the hash root, begin with m, whose tree has the hash old.
func Extends(m int, n int, old string, root string, list []string) bool {
	if m < 1 || m > n || n > mostShown {
		return false
	}
	if m == n {
		return len(list) == 0 && old == root
	}
	// The way starts at the greatest full tree that ends where the first m entries end.
	height := bits.TrailingZeros(uint(m))
	at, last := (m-1)>>height, (n-1)>>height
	start := old
	if at > 0 {
		if len(list) == 0 {
			return false
		}
		start, list = list[0], list[1:]
	}
	part, whole, fits := climb(start, at, last, list)
	return fits && part == old && whole == root
}

// climb goes from the tree with the hash start up to the root, with the list's hashes for the trees beside the way.
// Start is number at of the trees of its height, and last the number of the last one of these.
// It answers the hash of all up to and with start's entries, and that of all entries; fits is false if the list is too short or too long.
func climb(start string, at int, last int, list []string) (part string, whole string, fits bool) {
	part, whole = start, start
	unused := len(list)
hashes:
	for _, hash := range list {
		for {
			if last == 0 {
				break hashes
			}
			hasLeft, hasRight := at%2 == 1, at < last
			at, last = at/2, last/2
			switch {
			case hasLeft:
				part, whole = Node(hash, part), Node(hash, whole)
			case hasRight:
				whole = Node(whole, hash)
			default:
				continue // nothing stands beside the way at this height: the hash belongs higher up
			}
			unused--
			continue hashes
		}
	}
	return part, whole, last == 0 && unused == 0
}
