// Package grove keeps a log that only grows and can show it. See DOC.md.
package grove

import (
	"grove/api"
	"grove/tree"
)

// Leaf is the hash of an entry (P3).
func Leaf(entry string) string { return tree.Leaf(entry) }

// Node is the hash of two hashes (P3).
func Node(left string, right string) string { return tree.Node(left, right) }

// Root is the hash of a list of entries (P4).
func Root(entries []string) string { return tree.Root(entries) }

// Included: does this list show that a hash is the i-th of n, whose root is that? (P6)
func Included(leaf string, i int, n int, list []string, root string) bool {
	return tree.Included(leaf, i, n, list, root)
}

// Extends: does this list show that the log of n entries begins with the one of m? (P8)
func Extends(m int, n int, old string, root string, list []string) bool {
	return tree.Extends(m, n, old, root, list)
}

// Log is a log on a disk.
type Log struct{}

// New makes a log on a new disk (P9).
func New() *Log { return nil }

// Open makes a log of a disk's bytes (P9).
func Open(disk string) (*Log, api.Errno) { return nil, api.OK }

// Bytes tells what the disk holds (P10).
func (l *Log) Bytes() string { return "" }

// Fail lets the disk fail when it has done so many acts more (P10).
func (l *Log) Fail(after int, keep int) api.Errno { return api.OK }

// Acts tells how many acts the disk has done (P10).
func (l *Log) Acts() int { return 0 }

// Submit lets entries wait (P11).
func (l *Log) Submit(entries ...string) api.Errno { return api.OK }

// Waiting tells how many entries wait (P11).
func (l *Log) Waiting() int { return 0 }

// Flush writes what waits; how many entries there are then (P12).
func (l *Log) Flush() (int, api.Errno) { return 0, api.OK }

// Recover ends a Flush that was begun (P13).
func (l *Log) Recover() api.Errno { return api.OK }

// Checkpoint tells how many entries there are, and their root (P14).
func (l *Log) Checkpoint() (int, string, api.Errno) { return 0, "", api.OK }

// Entry tells an entry (P14).
func (l *Log) Entry(i int) (string, api.Errno) { return "", api.OK }

// Inclusion tells the list that shows that entry i is among the first n (P15).
func (l *Log) Inclusion(i int, n int) ([]string, api.Errno) { return nil, api.OK }

// Consistency tells the list that shows that the first n entries begin with the first m (P15).
func (l *Log) Consistency(m int, n int) ([]string, api.Errno) { return nil, api.OK }
