package grove_test

import (
	"crypto/sha256"
	"strconv"
	"strings"
)

// What the document's words say, word for word and by recursion, to hold the program against.

func sum(parts ...string) string {
	h := sha256.Sum256([]byte(strings.Join(parts, "")))
	return string(h[:])
}

func leaf(entry string) string { return sum("\x00", entry) }

func node(left, right string) string { return sum("\x01", left, right) }

// half: the greatest power of 2 below n.
func half(n int) int {
	k := 1
	for k < n-k {
		k *= 2
	}
	return k
}

func rootOf(entries []string) string {
	switch len(entries) {
	case 0:
		return sum()
	case 1:
		return leaf(entries[0])
	}
	k := half(len(entries))
	return node(rootOf(entries[:k]), rootOf(entries[k:]))
}

// showsEntry: what shows that entry i is among these.
func showsEntry(i int, entries []string) []string {
	if len(entries) == 1 {
		return nil
	}
	k := half(len(entries))
	if i < k {
		return append(showsEntry(i, entries[:k]), rootOf(entries[k:]))
	}
	return append(showsEntry(i-k, entries[k:]), rootOf(entries[:k]))
}

// showsStart: what shows that these begin with their first m.
func showsStart(m int, entries []string, all bool) []string {
	n := len(entries)
	if m == n && all {
		return nil
	}
	if m == n {
		return []string{rootOf(entries)}
	}
	k := half(n)
	if m <= k {
		return append(showsStart(m, entries[:k], all), rootOf(entries[k:]))
	}
	return append(showsStart(m-k, entries[k:], false), rootOf(entries[:k]))
}

// entryRoot: the hash of n entries, if the list's hashes are those that show the i-th; ok if there are as many as there must be.
func entryRoot(hash string, i, n int, list []string) (root string, ok bool) {
	if n == 1 {
		return hash, len(list) == 0
	}
	if len(list) == 0 {
		return "", false
	}
	rest, beside := list[:len(list)-1], list[len(list)-1]
	k := half(n)
	if i < k {
		root, ok = entryRoot(hash, i, k, rest)
		return node(root, beside), ok
	}
	root, ok = entryRoot(hash, i-k, n-k, rest)
	return node(beside, root), ok
}

// startRoots: the hashes of the first m and of all n entries, if the list's hashes are those that show the first m.
func startRoots(m, n int, all bool, old string, list []string) (first, whole string, ok bool) {
	if m == n && all {
		return old, old, len(list) == 0
	}
	if len(list) == 0 {
		return "", "", false
	}
	rest, last := list[:len(list)-1], list[len(list)-1]
	if m == n {
		return last, last, len(rest) == 0
	}
	k := half(n)
	if m <= k {
		first, whole, ok = startRoots(m, k, all, old, rest)
		return first, node(whole, last), ok
	}
	first, whole, ok = startRoots(m-k, n-k, false, old, rest)
	return node(last, first), node(last, whole), ok
}

func wantIncluded(hash string, i, n int, list []string, root string) bool {
	if i < 0 || i >= n || n > 1<<40 {
		return false
	}
	got, ok := entryRoot(hash, i, n, list)
	return ok && got == root
}

func wantExtends(m, n int, old, root string, list []string) bool {
	if m < 1 || m > n || n > 1<<40 {
		return false
	}
	first, whole, ok := startRoots(m, n, true, old, list)
	return ok && first == old && whole == root
}

// someEntries: n entries, no two of them alike, the empty one among them.
func someEntries(n int) []string {
	entries := make([]string, n)
	for i := range entries {
		entries[i] = strings.Repeat(strconv.Itoa(i), i)
	}
	return entries
}

// anyStrings: n strings as hashes need not be, no two of them alike.
func anyStrings(n int) []string {
	list := make([]string, n)
	for i := range list {
		list[i] = strings.Repeat("\xff\x00z", i*i%11) + strconv.Itoa(i)
	}
	if n > 1 {
		list[1] = ""
	}
	return list
}

// lesserLists: the list without one of its hashes.
func lesserLists(list []string) [][]string {
	var out [][]string
	for j := range list {
		out = append(out, append(append([]string{}, list[:j]...), list[j+1:]...))
	}
	return out
}

// greaterLists: the list with one hash more.
func greaterLists(list []string, more string) [][]string {
	var out [][]string
	for j := range len(list) + 1 {
		out = append(out, append(append(append([]string{}, list[:j]...), more), list[j:]...))
	}
	return out
}

// otherLists: the list with another hash in the place of one, and with two of them in each other's place.
func otherLists(list []string) [][]string {
	var out [][]string
	for j := range list {
		for _, other := range []string{"", "x", list[j] + "\x00", sum(list[j])} {
			changed := append([]string{}, list...)
			changed[j] = other
			if other != list[j] {
				out = append(out, changed)
			}
		}
		if j > 0 && list[j] != list[j-1] {
			changed := append([]string{}, list...)
			changed[j], changed[j-1] = list[j-1], list[j]
			out = append(out, changed)
		}
	}
	return out
}
