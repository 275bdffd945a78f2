package grove_test

import (
	"slices"
	"strconv"
	"testing"

	"grove/api"
	"grove/grove"
)

// life: a log whose disk fails again and again, and what is known of it.
type life struct {
	log     *grove.Log
	entries []string       // those that it has
	told    []int          // how many it had whenever that was told
	ends    map[string]int // how often a Flush ended so
	seed    uint64
}

// chance: a number below n, by a rule of its own.
func (f *life) chance(n int) int {
	f.seed = f.seed*6364136223846793005 + 1442695040888963407
	return int(f.seed>>33) % n
}

// tell: has the log its entries, and does it begin with all that was ever told of it?
func (f *life) tell(t *testing.T) {
	t.Helper()
	n, root, e := f.log.Checkpoint()
	if n != len(f.entries) || root != grove.Root(f.entries) || e != api.OK {
		t.Fatalf("P14: Checkpoint: %d, %x, errno %d, want %d", n, root, e, len(f.entries))
	}
	for i, want := range f.entries {
		if got, e := f.log.Entry(i); got != want || e != api.OK {
			t.Fatalf("P14: Entry(%d): %q, errno %d, want %q", i, got, e, want)
		}
	}
	for _, m := range f.told {
		list, e := f.log.Consistency(m, n)
		if e != api.OK || !grove.Extends(m, n, grove.Root(f.entries[:m]), root, list) {
			t.Fatalf("P13: a log of %d does not begin with the %d that were told: errno %d", n, m, e)
		}
	}
	if n > 0 && !slices.Contains(f.told, n) {
		f.told = append(f.told, n)
	}
}

// script: the disk is to fail somewhere in the next call, or not in it.
func (f *life) script(t *testing.T) {
	t.Helper()
	keep := []int{0, -1, f.chance(1 << 24), 1 << f.chance(24)}[f.chance(4)]
	wantErrno(t, "P10: Fail", f.log.Fail(f.chance(30), keep), api.OK)
}

// reopen: the log on what lasts has the entries that it had, or the grown ones, whole.
func (f *life) reopen(t *testing.T, grown []string) {
	t.Helper()
	f.log = openedLog(t, f.log.Bytes())
	if n, _, _ := f.log.Checkpoint(); n == len(grown) {
		f.entries = grown
	}
	f.tell(t)
}

// flush: a Flush in which the disk may fail, and its Recover, in which it may fail as often as it likes.
func (f *life) flush(t *testing.T, more []string) {
	t.Helper()
	grown := slices.Concat(f.entries, more)
	wantErrno(t, "P11: Submit", f.log.Submit(more...), api.OK)
	f.script(t)
	if n, e := f.log.Flush(); e == api.OK {
		f.ends["done"]++
		if n != len(grown) {
			t.Fatalf("P12: Flush: %d, want %d", n, len(grown))
		}
		f.reopen(t, grown)
		return
	}
	wantWaiting(t, f.log, len(more))
	f.reopen(t, grown)
	if !pending(f.log) {
		f.ends["torn, nothing pending, "+strconv.FormatBool(len(f.entries) == len(grown))]++
		return
	}
	f.ends["pending, "+strconv.FormatBool(len(f.entries) == len(grown))]++
	for pending(f.log) {
		f.script(t)
		f.log.Recover()
		f.reopen(t, grown)
	}
	if len(f.entries) != len(grown) {
		t.Fatalf("P13: a Flush that was pending is undone: %d entries, want %d", len(f.entries), len(grown))
	}
}

// Whatever fails, and however often, what was submitted is in the log whole or not at all, and nothing that was told is taken back.
func TestLivesOfManyFailures(t *testing.T) {
	ends := map[string]int{}
	for seed := range 60 {
		f := &life{log: grove.New(), ends: ends, seed: uint64(seed)}
		for len(f.entries) < api.MaxLog {
			more := make([]string, 1+f.chance(min(api.MaxQueue, api.MaxLog-len(f.entries))))
			for i := range more {
				// Some of them are those of a Flush that came to nothing.
				more[i] = strconv.Itoa(len(f.entries)+i) + " " + strconv.Itoa(f.chance(3))
			}
			f.flush(t, more)
		}
	}
	for _, end := range []string{"done", "torn, nothing pending, false", "torn, nothing pending, true", "pending, false", "pending, true"} {
		if ends[end] == 0 {
			t.Errorf("P13: of all Flushes none is %s", end)
		}
	}
}
