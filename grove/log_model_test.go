package grove_test

import (
	"testing"

	"grove/api"
	"grove/grove"
)

// What a log of some entries must tell, by the document's own recursion, and helpers that make logs.

// told: the entries, and for each number n of them, up to all: the root, what shows each entry, and what shows each start.
type told struct {
	entries []string
	roots   []string
	among   [][][]string // of n and i
	starts  [][][]string // of n and m
}

func tellingOf(entries []string) told {
	w := told{entries: entries}
	for n := range len(entries) + 1 {
		first := entries[:n]
		among, starts := [][]string{}, [][]string{nil}
		for i := range n {
			among = append(among, showsEntry(i, first))
			starts = append(starts, showsStart(i+1, first, true))
		}
		w.roots = append(w.roots, rootOf(first))
		w.among = append(w.among, among)
		w.starts = append(w.starts, starts)
	}
	return w
}

// logEntries: n entries of all lengths and bytes that an entry may have, the empty one more than once among them.
func logEntries(n int) []string {
	entries := make([]string, n)
	for i := range entries {
		entries[i] = bytesFrom(i*31, (40+i*7)%41)
	}
	return entries
}

func wantErrno(t *testing.T, what string, got, want api.Errno) {
	t.Helper()
	if got != want {
		t.Errorf("%s: errno %d, want %d", what, got, want)
	}
}

// grownLog: a log with these entries, so many at a time.
func grownLog(t *testing.T, entries []string, step int) *grove.Log {
	t.Helper()
	x := grove.New()
	for len(entries) > 0 {
		n := min(step, len(entries))
		grow(t, x, entries[:n]...)
		entries = entries[n:]
	}
	return x
}

func grow(t *testing.T, x *grove.Log, entries ...string) {
	t.Helper()
	before, _, _ := x.Checkpoint()
	wantErrno(t, "P11: Submit", x.Submit(entries...), api.OK)
	if n, e := x.Flush(); n != before+len(entries) || e != api.OK {
		t.Fatalf("P12: Flush of %d behind %d: %d, errno %d", len(entries), before, n, e)
	}
}

func openedLog(t *testing.T, bytes string) *grove.Log {
	t.Helper()
	x, e := grove.Open(bytes)
	if x == nil || e != api.OK {
		t.Fatalf("P9: Open of a disk's bytes: errno %d", e)
	}
	return x
}

// tells: does the log tell just what a log of the first n of these entries must tell, all of it?
func tells(t *testing.T, x *grove.Log, w told, n int) {
	t.Helper()
	if count, root, e := x.Checkpoint(); count != n || root != w.roots[n] || e != api.OK {
		t.Fatalf("P14: Checkpoint: %d, %x, errno %d, want %d, %x", count, root, e, n, w.roots[n])
	}
	for i, entry := range w.entries[:n] {
		if got, e := x.Entry(i); got != entry || e != api.OK {
			t.Errorf("P14: Entry(%d) of %d: %q, errno %d, want %q", i, n, got, e, entry)
		}
	}
	for among := 1; among <= n; among++ {
		for i := range among {
			if list, e := x.Inclusion(i, among); !same(list, w.among[among][i]) || e != api.OK {
				t.Errorf("P15: Inclusion(%d, %d) of %d: %x, errno %d", i, among, n, list, e)
			}
			if list, e := x.Consistency(i+1, among); !same(list, w.starts[among][i+1]) || e != api.OK {
				t.Errorf("P15: Consistency(%d, %d) of %d: %x, errno %d", i+1, among, n, list, e)
			}
		}
	}
	refusesMore(t, x, n)
}

// refusesMore: are entries that a log of n has not out of range?
func refusesMore(t *testing.T, x *grove.Log, n int) {
	t.Helper()
	for _, i := range []int{-1, n, n + 1} {
		if entry, e := x.Entry(i); entry != "" || e != api.ErrRange {
			t.Errorf("P14: Entry(%d) of %d: %q, errno %d", i, n, entry, e)
		}
	}
	for _, c := range [][2]int{{-1, n}, {n, n}, {0, n + 1}, {n, n + 1}, {0, 0}, {0, -1}} {
		if list, e := x.Inclusion(c[0], c[1]); list != nil || e != api.ErrRange {
			t.Errorf("P15: Inclusion%v of %d: %d hashes, errno %d", c, n, len(list), e)
		}
	}
	for _, c := range [][2]int{{0, n}, {-1, n}, {n + 1, n}, {1, n + 1}, {n + 1, n + 1}, {0, 0}, {1, 0}, {1, -1}} {
		if list, e := x.Consistency(c[0], c[1]); list != nil || e != api.ErrRange {
			t.Errorf("P15: Consistency%v of %d: %d hashes, errno %d", c, n, len(list), e)
		}
	}
}

// pending: is a Flush pending? Asked without changing anything.
func pending(x *grove.Log) bool { return x.Submit() == api.ErrPending }

// pendingLog: a log on a disk that failed in the Flush of more behind the entries, so that the Flush is pending and the log tells of n.
func pendingLog(t *testing.T, entries, more []string, n int) *grove.Log {
	t.Helper()
	for after := range 500 {
		x := grownLog(t, entries, api.MaxQueue)
		x.Submit(more...)
		x.Fail(after, 0)
		x.Flush()
		y := openedLog(t, x.Bytes())
		if count, _, _ := y.Checkpoint(); pending(y) && count == n {
			return y
		}
	}
	t.Fatalf("P13: no Flush is pending with %d entries told", n)
	return nil
}

// failedLog: a log with these entries whose disk has failed ahead of its first act more.
func failedLog(t *testing.T, entries []string) *grove.Log {
	t.Helper()
	x := grownLog(t, entries, api.MaxQueue)
	wantErrno(t, "P10: Fail", x.Fail(0, 0), api.OK)
	wantErrno(t, "P11: Submit", x.Submit("waits"), api.OK)
	if n, e := x.Flush(); n != 0 || e != api.ErrDown {
		t.Fatalf("P12: a Flush in which the disk fails: %d, errno %d", n, e)
	}
	return x
}
