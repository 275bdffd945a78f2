package grove_test

import (
	"testing"

	"grove/api"
	"grove/grove"
)

func TestRecoverWhereNothingIsPending(t *testing.T) {
	w := tellingOf(logEntries(40))
	for _, n := range []int{0, 1, 4, 17, 28} {
		x := grownLog(t, w.entries[:n], 5)
		wantErrno(t, "P11: Submit", x.Submit(w.entries[n:n+7]...), api.OK)
		before, acts := x.Bytes(), x.Acts()
		// An act would let the disk fail.
		wantErrno(t, "P10: Fail", x.Fail(0, 0), api.OK)
		for range 3 {
			wantErrno(t, "P13: Recover", x.Recover(), api.OK)
		}
		if x.Bytes() != before || x.Acts() != acts || x.Waiting() != 7 {
			t.Errorf("P13: Recover where nothing is pending: %d acts, %d wait", x.Acts()-acts, x.Waiting())
		}
		tells(t, x, w, n)
		wantErrno(t, "P10: Fail", x.Fail(1000, 0), api.OK)
		wantFlush(t, x, n+7, api.OK)
		tells(t, x, w, n+7)
	}
}

// keeps: which writes last: none, all, single ones, all but single ones, and mixed ones.
func keeps() []int {
	out := []int{0, -1}
	for bit := range 14 {
		out = append(out, 1<<bit, ^(1 << bit))
	}
	for i := range 12 {
		out = append(out, i*0x1d3b7+i*i*0x2f1)
	}
	return out
}

// torn: the disk, wherever it fails in a call, and whatever it keeps then.
func torn(t *testing.T, d deed, each func(bytes string)) {
	t.Helper()
	tornBy(t, d, keeps(), each)
}

func tornBy(t *testing.T, d deed, keeps []int, each func(bytes string)) {
	t.Helper()
	acts, _ := actsOf(t, d.make(), d.call)
	for after := range acts {
		seen := map[string]bool{}
		for _, keep := range keeps {
			bytes := failedAt(t, d, after, keep)
			if !seen[bytes] {
				seen[bytes] = true
				each(bytes)
			}
		}
	}
}

// wantTorn: is a log that was torn in the growth from n to more as the document asks? Recovered, it is one of both.
func wantTorn(t *testing.T, bytes string, w told, n, more int) {
	t.Helper()
	x := openedLog(t, bytes)
	wantWaiting(t, x, 0)
	count, _, _ := x.Checkpoint()
	if count != n && count != more {
		t.Fatalf("P13: %d entries, in the growth from %d to %d", count, n, more)
	}
	tells(t, x, w, count)
	if !pending(x) {
		wantErrno(t, "P13: Recover", x.Recover(), api.OK)
		if x.Bytes() != bytes || x.Acts() != 0 {
			t.Error("P13: Recover acts where nothing is pending")
		}
		return
	}
	wantErrno(t, "P11: Submit", x.Submit("x"), api.ErrPending)
	wantFlush(t, x, 0, api.ErrPending)
	wantErrno(t, "P13: Recover", x.Recover(), api.OK)
	if pending(x) || pending(openedLog(t, x.Bytes())) {
		t.Error("P13: a Flush is pending behind Recover")
	}
	tells(t, x, w, more)
	tells(t, openedLog(t, x.Bytes()), w, more)
}

// flushDeed: the Flush of more entries on a disk.
func flushDeed(t *testing.T, bytes string, entries []string) deed {
	return deed{"Flush", func() *grove.Log {
		x := openedLog(t, bytes)
		wantErrno(t, "P11: Submit", x.Submit(entries...), api.OK)
		return x
	}, flush}
}

// recoverDeed: the Recover of what is pending on a disk.
func recoverDeed(t *testing.T, bytes string) deed {
	return deed{"Recover", func() *grove.Log { return openedLog(t, bytes) }, recovered}
}

func TestFlushInWhichTheDiskFails(t *testing.T) {
	for _, c := range [][2]int{{0, 1}, {0, 12}, {3, 4}, {3, 15}, {14, 17}, {15, 27}} {
		w := tellingOf(logEntries(c[1]))
		bytes := grownLog(t, w.entries[:c[0]], 5).Bytes()
		torn(t, flushDeed(t, bytes, w.entries[c[0]:]), func(bytes string) { wantTorn(t, bytes, w, c[0], c[1]) })
	}
}

// The same where the growth fills the greatest tiles.
func TestFlushOfTheLastEntriesInWhichTheDiskFails(t *testing.T) {
	w := tellingOf(logEntries(api.MaxLog))
	for _, n := range []int{api.MaxLog - api.MaxQueue, api.MaxLog - 1} {
		bytes := grownLog(t, w.entries[:n], 7).Bytes()
		tornBy(t, flushDeed(t, bytes, w.entries[n:]), []int{0, -1, 0x155555}, func(bytes string) { wantTorn(t, bytes, w, n, api.MaxLog) })
	}
}

func TestRecoverInWhichTheDiskFails(t *testing.T) {
	for _, c := range [][2]int{{0, 12}, {3, 4}, {14, 17}} {
		w := tellingOf(logEntries(c[1]))
		for _, n := range c {
			bytes := pendingLog(t, w.entries[:c[0]], w.entries[c[0]:], n).Bytes()
			torn(t, recoverDeed(t, bytes), func(bytes string) {
				x := openedLog(t, bytes)
				if count, _, _ := x.Checkpoint(); !pending(x) && count != c[1] {
					t.Errorf("P13: nothing is pending behind a Recover, and %d entries of %d are there", count, c[1])
				}
				wantTorn(t, bytes, w, c[0], c[1])
			})
		}
	}
}

// A Recover that failed is begun anew, fails at any other act, and so on: the Flush is pending still, or done.
func TestRecoverFailsAgainAndAgain(t *testing.T) {
	w := tellingOf(logEntries(10))
	single := []int{0, -1, 1, 2, 4, 8, 16, 32, 64}
	seen := map[string]bool{}
	var again func(bytes string)
	again = func(bytes string) {
		if seen[bytes] {
			return
		}
		seen[bytes] = true
		wantTorn(t, bytes, w, 3, 10)
		x := openedLog(t, bytes)
		if pending(x) {
			tornBy(t, recoverDeed(t, bytes), single, again)
		} else if n, _, _ := x.Checkpoint(); n != 10 {
			t.Errorf("P13: nothing is pending behind a Recover, and %d entries of 10 are there", n)
		}
	}
	again(pendingLog(t, w.entries[:3], w.entries[3:], 3).Bytes())
	// Seven writes of bundles and tiles, of which any may last when Recover has failed often enough.
	if len(seen) < 100 {
		t.Errorf("P13: all failures of Recover leave but %d disks", len(seen))
	}
}

// However often a Recover fails, the next one that does not ends it, and the disk is that of the Flush that did not fail.
func TestRecoverEndsInTheEnd(t *testing.T) {
	w := tellingOf(logEntries(20))
	want := flushed(t, w.entries[:9], w.entries[9:])
	for times := range 40 {
		for _, n := range []int{9, 20} {
			x := pendingLog(t, w.entries[:9], w.entries[9:], n)
			for i := range times {
				wantErrno(t, "P10: Fail", x.Fail(i*7%23, i*times*0x9e37), api.OK)
				if x.Recover() == api.OK {
					break
				}
				x = openedLog(t, x.Bytes())
			}
			wantErrno(t, "P10: Fail", x.Fail(500, 0), api.OK)
			wantErrno(t, "P13: Recover", x.Recover(), api.OK)
			if x.Bytes() != want {
				t.Errorf("P13: the disk behind %d Recovers is not that behind the Flush", times+1)
			}
			tells(t, x, w, 20)
		}
	}
}

// flushed: the disk behind a Flush of more.
func flushed(t *testing.T, entries, more []string) string {
	t.Helper()
	x := grownLog(t, entries, api.MaxQueue)
	grow(t, x, more...)
	return x.Bytes()
}

// A Flush that was torn ahead of its being pending leaves nothing that mixes with the next one, which has some of the same entries.
func TestTornFlushesDoNotMix(t *testing.T) {
	first := []string{"a", "b", "c", "d", "e"}
	second := []string{"x", "b", "c", "d", "e"}
	third := []string{"a", "b", "c", "d", "y"}
	old := grownLog(t, []string{"old", "older"}, 2).Bytes()
	torn(t, flushDeed(t, old, first), func(bytes string) {
		if pending(openedLog(t, bytes)) {
			return
		}
		n, _, _ := openedLog(t, bytes).Checkpoint()
		before := []string{"old", "older"}
		if n > 2 {
			before = append(before, first...)
		}
		for _, next := range [][]string{first, second, third} {
			w := tellingOf(append(append([]string{}, before...), next...))
			torn(t, flushDeed(t, bytes, next), func(bytes string) { wantTorn(t, bytes, w, n, n+len(next)) })
		}
	})
}

// A log that was recovered goes on as one that never failed: same answers, and its disk the same from there on.
func TestRecoveredLogGoesOn(t *testing.T) {
	w := tellingOf(logEntries(30))
	for _, n := range []int{9, 18} {
		x := pendingLog(t, w.entries[:9], w.entries[9:18], n)
		wantErrno(t, "P13: Recover", x.Recover(), api.OK)
		if x.Bytes() != flushed(t, w.entries[:9], w.entries[9:18]) {
			t.Error("P13: the disk behind a Recover is not that behind the Flush")
		}
		grow(t, x, w.entries[18:]...)
		tells(t, x, w, 30)
	}
}
