// Package grove keeps a log that only grows and can show it. See DOC.md.
package grove

import (
	"strings"

	"grove/api"
	"grove/store"
	"grove/tree"
)

// Leaf is the hash of an entry (P3).
func Leaf(entry string) string { return tree.Leaf(entry) }

// Node is the hash of two hashes (P3).
func Node(left string, right string) string { return tree.Node(left, right) }

// Root is the hash of a list of entries (P4).
func Root(entries []string) string { return tree.Root(entries) }

// Included: does this list show that a hash is the i-th of n, whose root is that? (P6)
func Included(leaf string, i int, n int, list []string, root string) bool {
	return tree.Included(leaf, i, n, list, root)
}

// Extends: does this list show that the log of n entries begins with the one of m? (P8)
func Extends(m int, n int, old string, root string, list []string) bool {
	return tree.Extends(m, n, old, root, list)
}

// Log is a log on a disk.
type Log struct {
	store   store.Store
	waiting []string
}

// New makes a log on a new disk (P9).
func New() *Log {
	return &Log{store: store.New()}
}

// Open makes a log of a disk's bytes (P9).
func Open(disk string) (*Log, api.Errno) {
	s, found := store.Open(disk)
	if !found {
		return nil, api.ErrBytes
	}
	return &Log{store: s}, api.OK
}

// none tells whether there is no disk: l is nil, or was made by neither New nor Open.
func (l *Log) none() bool {
	return l == nil || l.store.Disk == nil
}

func (l *Log) down() bool {
	return l.none() || l.store.Failed()
}

// Bytes tells what the disk holds (P10).
func (l *Log) Bytes() string {
	if l.none() {
		return ""
	}
	return l.store.Bytes()
}

// Fail lets the disk fail when it has done so many acts more (P10).
func (l *Log) Fail(after int, keep int) api.Errno {
	if l.down() {
		return api.ErrDown
	}
	if after < 0 {
		return api.ErrArg
	}
	l.store.Fail(after, keep)
	return api.OK
}

// Acts tells how many acts the disk has done (P10).
func (l *Log) Acts() int {
	if l.none() {
		return 0
	}
	return l.store.Acts()
}

// Submit lets entries wait (P11).
func (l *Log) Submit(entries ...string) api.Errno {
	if e := l.refused(); e != api.OK {
		return e
	}
	for _, entry := range entries {
		if len(entry) > api.MaxEntry {
			return api.ErrLong
		}
	}
	waiting := len(l.waiting) + len(entries)
	if waiting > api.MaxQueue {
		return api.ErrQueue
	}
	if n, _ := l.store.Checkpoint(); n+waiting > api.MaxLog {
		return api.ErrFull
	}
	for _, entry := range entries {
		l.waiting = append(l.waiting, strings.Clone(entry))
	}
	return api.OK
}

// refused is why the log takes nothing new, or OK.
func (l *Log) refused() api.Errno {
	if l.down() {
		return api.ErrDown
	}
	if l.store.Pending() {
		return api.ErrPending
	}
	return api.OK
}

// Waiting tells how many entries wait (P11).
func (l *Log) Waiting() int {
	if l.none() {
		return 0
	}
	return len(l.waiting)
}

// Flush writes what waits; how many entries there are then (P12).
func (l *Log) Flush() (int, api.Errno) {
	if e := l.refused(); e != api.OK {
		return 0, e
	}
	if len(l.waiting) > 0 {
		l.store.Add(l.waiting...)
	}
	if l.down() {
		return 0, api.ErrDown
	}
	l.waiting = nil
	n, _ := l.store.Checkpoint()
	return n, api.OK
}

// Recover ends a Flush that was begun (P13).
func (l *Log) Recover() api.Errno {
	if l.down() {
		return api.ErrDown
	}
	l.store.Recover()
	if l.down() {
		return api.ErrDown
	}
	return api.OK
}

// Checkpoint tells how many entries there are, and their root (P14).
func (l *Log) Checkpoint() (int, string, api.Errno) {
	if l.down() {
		return 0, "", api.ErrDown
	}
	n, root := l.store.Checkpoint()
	return n, root, api.OK
}

// Entry tells an entry (P14).
func (l *Log) Entry(i int) (string, api.Errno) {
	n, _, e := l.Checkpoint()
	if e != api.OK {
		return "", e
	}
	if i < 0 || i >= n {
		return "", api.ErrRange
	}
	return l.store.Entry(i), api.OK
}

// Inclusion tells the list that shows that entry i is among the first n (P15).
func (l *Log) Inclusion(i int, n int) ([]string, api.Errno) {
	all, _, e := l.Checkpoint()
	if e != api.OK {
		return nil, e
	}
	if n > all || i < 0 || i >= n {
		return nil, api.ErrRange
	}
	return tree.Inclusion(i, n, l.store.Span), api.OK
}

// Consistency tells the list that shows that the first n entries begin with the first m (P15).
func (l *Log) Consistency(m int, n int) ([]string, api.Errno) {
	all, _, e := l.Checkpoint()
	if e != api.OK {
		return nil, e
	}
	if n > all || m < 1 || m > n {
		return nil, api.ErrRange
	}
	return tree.Consistency(m, n, l.store.Span), api.OK
}
