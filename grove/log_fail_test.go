package grove_test

import (
	"math"
	"slices"
	"strings"
	"testing"

	"grove/api"
	"grove/grove"
)

func TestOnlyFlushAndRecoverAct(t *testing.T) {
	w := tellingOf(logEntries(40))
	x := grownLog(t, w.entries[:20], 7)
	before, acts := x.Bytes(), x.Acts()
	tells(t, x, w, 20)
	x.Submit(w.entries[20:30]...)
	x.Submit(strings.Repeat("x", 50))
	x.Fail(1000, -1)
	x.Fail(-1, -1)
	x.Waiting()
	x.Recover()
	if x.Acts() != acts || x.Bytes() != before {
		t.Error("P10: a call beside Flush and Recover lets the disk act")
	}
	wantFlush(t, x, 30, api.OK)
	if x.Acts() <= acts || x.Bytes() == before {
		t.Error("P10: a Flush does no act")
	}
	y := pendingLog(t, w.entries[:20], w.entries[20:30], 20)
	before = y.Bytes()
	tells(t, y, w, 20)
	y.Submit("x")
	y.Flush()
	if y.Acts() != 0 || y.Bytes() != before {
		t.Error("P10: a call beside Recover lets the disk act where a Flush is pending")
	}
	wantErrno(t, "P13: Recover", y.Recover(), api.OK)
	if y.Acts() == 0 || y.Bytes() == before {
		t.Error("P10: a Recover does no act")
	}
}

// actsOf: how many acts a call does, and what the disk is behind it.
func actsOf(t *testing.T, x *grove.Log, call func(*grove.Log) api.Errno) (int, string) {
	t.Helper()
	before := x.Acts()
	wantErrno(t, "P10: a call without a failure", call(x), api.OK)
	return x.Acts() - before, x.Bytes()
}

func flush(x *grove.Log) api.Errno { _, e := x.Flush(); return e }

func recovered(x *grove.Log) api.Errno { return x.Recover() }

// deeds: calls that let the disk act, each on a log that make makes anew.
type deed struct {
	name string
	make func() *grove.Log
	call func(*grove.Log) api.Errno
}

func deeds(t *testing.T) []deed {
	t.Helper()
	var out []deed
	for _, c := range [][2]int{{0, 1}, {0, 12}, {3, 1}, {3, 12}, {7, 9}, {15, 2}, {15, 12}, {47, 12}, {52, 12}, {63, 1}} {
		entries := logEntries(c[0] + c[1])
		for i := range entries {
			// An empty entry would not show in a bundle's bytes: each write is to change its sector.
			entries[i] = "e" + entries[i][len(entries[i])/40:]
		}
		old, more := entries[:c[0]], entries[c[0]:]
		bytes := grownLog(t, old, 12).Bytes()
		out = append(out, flushDeed(t, bytes, more))
		for _, n := range []int{len(old), len(entries)} {
			out = append(out, recoverDeed(t, pendingLog(t, old, more, n).Bytes()))
		}
	}
	return out
}

func TestActsAndWritesAreBounded(t *testing.T) {
	for _, d := range deeds(t) {
		acts, _ := actsOf(t, d.make(), d.call)
		if acts < 1 || acts > 500 {
			t.Errorf("P10: %s: %d acts", d.name, acts)
		}
		for after := range acts {
			none, all := failedAt(t, d, after, 0), failedAt(t, d, after, -1)
			if changed := changedSectors(none, all); changed > 60 {
				t.Errorf("P10: %s, after %d acts: %d writes do not last", d.name, after, changed)
			}
			// More than 60 writes would show in bits 60 to 62.
			if failedAt(t, d, after, 1<<60-1) != all || failedAt(t, d, after, 7<<60) != none || failedAt(t, d, after, math.MinInt) != none {
				t.Errorf("P10: %s, after %d acts: more than 60 writes do not last", d.name, after)
			}
		}
	}
}

// failedAt: what lasts if the disk fails behind so many acts of a call.
func failedAt(t *testing.T, d deed, after, keep int) string {
	t.Helper()
	x := d.make()
	wantErrno(t, "P10: Fail", x.Fail(after, keep), api.OK)
	wantErrno(t, "P10: "+d.name+" in which the disk fails", d.call(x), api.ErrDown)
	if x.Acts() != after {
		t.Errorf("P10: %s: %d acts, want %d", d.name, x.Acts(), after)
	}
	return x.Bytes()
}

func changedSectors(a, b string) int {
	changed := 0
	for at := 0; at < len(a); at += api.Sector {
		if a[at:at+api.Sector] != b[at:at+api.Sector] {
			changed++
		}
	}
	return changed
}

// Each bit of keep lets one write last: what lasts with some bits is what lasts with each of them.
func TestKeepLetsWritesLast(t *testing.T) {
	for _, d := range deeds(t)[:6] {
		acts, _ := actsOf(t, d.make(), d.call)
		for after := range acts {
			none := failedAt(t, d, after, 0)
			var single []string
			for bit := range 24 {
				single = append(single, failedAt(t, d, after, 1<<bit))
				if changedSectors(none, single[bit]) > 1 {
					t.Errorf("P10: %s, after %d acts: bit %d lets more than one write last", d.name, after, bit)
				}
			}
			for _, keep := range []int{1<<24 - 1, 0x555555, 0xaaaaaa, 6, 0xf0f0f, -1 << 30} {
				want := []byte(none)
				for bit, bytes := range single {
					for at := range want {
						if keep>>bit&1 == 1 && bytes[at] != none[at] {
							want[at] = bytes[at]
						}
					}
				}
				if failedAt(t, d, after, keep) != string(want) {
					t.Errorf("P10: %s, after %d acts, keep %b", d.name, after, keep)
				}
			}
		}
	}
}

// changedBy: for each single bit of keep, up to some, the sector that lasts by it, or -1.
func changedBy(t *testing.T, d deed, after int) [24]int {
	t.Helper()
	none := failedAt(t, d, after, 0)
	var out [24]int
	for bit := range out {
		out[bit] = -1
		one := failedAt(t, d, after, 1<<bit)
		for at := range api.Sectors {
			if none[at*api.Sector:(at+1)*api.Sector] != one[at*api.Sector:(at+1)*api.Sector] {
				out[bit] = at
			}
		}
	}
	return out
}

// Bit i is the i-th write's since the last flush: an act more either adds a bit behind those that there were, or lets all last.
func TestKeepGoesByTheOrderOfWrites(t *testing.T) {
	for _, d := range deeds(t) {
		acts, _ := actsOf(t, d.make(), d.call)
		written := 0
		before := changedBy(t, d, 0)
		for after := 1; after < acts; after++ {
			now := changedBy(t, d, after)
			if now[0] == -1 {
				if failedAt(t, d, after, 0) != failedAt(t, d, after-1, -1) {
					t.Errorf("P10: %s, act %d: a flush does not let all last", d.name, after)
				}
				written, before = 0, now
				continue
			}
			want := before
			want[written] = now[written]
			if now != want || now[written] == -1 || slices.Contains(before[:], now[written]) {
				t.Errorf("P10: %s, act %d: bits stand for sectors %v, then %v", d.name, after, before, now)
			}
			written, before = written+1, now
		}
	}
}

// A script that lets the disk do more than a call needs goes on in the next call.
func TestFailBehindMoreActs(t *testing.T) {
	for _, d := range deeds(t) {
		acts, done := actsOf(t, d.make(), d.call)
		scripted := func(more, keep int) *grove.Log {
			x := d.make()
			wantErrno(t, "P10: Fail", x.Fail(acts+more, keep), api.OK)
			wantErrno(t, "P10: "+d.name+", for which the acts suffice", d.call(x), api.OK)
			if x.Acts() != acts || x.Bytes() != done {
				t.Errorf("P10: %s: %d acts, want %d", d.name, x.Acts(), acts)
			}
			return x
		}
		n, _, _ := scripted(math.MaxInt-acts, 0).Checkpoint()
		if n == api.MaxLog {
			continue
		}
		next := flushDeed(t, done, []string{"next"})
		suffice, _ := actsOf(t, next.make(), flush)
		for more := range suffice + 3 {
			for _, keep := range []int{0, -1, 2} {
				x := scripted(more, keep)
				x.Submit("next")
				if more >= suffice {
					wantFlush(t, x, n+1, api.OK)
					continue
				}
				wantFlush(t, x, 0, api.ErrDown)
				if x.Acts() != acts+more || x.Bytes() != failedAt(t, next, more, keep) {
					t.Errorf("P10: %s, and a Flush behind it: %d acts, want %d", d.name, x.Acts(), acts+more)
				}
			}
		}
	}
}

// Of several scripts the last one alone tells when the disk fails and what lasts, also where some acts were done under an earlier one.
func TestLastScriptTellsAll(t *testing.T) {
	for _, d := range deeds(t)[:6] {
		acts, done := actsOf(t, d.make(), d.call)
		for after := range acts {
			for _, keep := range []int{0, -1, 1, 6} {
				x := d.make()
				for _, earlier := range [][2]int{{0, -1}, {after + 1, ^keep}, {math.MaxInt, 1}, {after, keep}} {
					wantErrno(t, "P10: Fail", x.Fail(earlier[0], earlier[1]), api.OK)
				}
				wantErrno(t, "P10: Fail with after below 0", x.Fail(-1, ^keep), api.ErrArg)
				wantErrno(t, "P10: "+d.name+" in which the disk fails", d.call(x), api.ErrDown)
				if x.Acts() != after || x.Bytes() != failedAt(t, d, after, keep) {
					t.Errorf("P10: %s: %d acts, want %d", d.name, x.Acts(), after)
				}
			}
		}
		next := flushDeed(t, done, []string{"next"})
		x := d.make()
		wantErrno(t, "P10: Fail", x.Fail(acts+1, 0), api.OK)
		wantErrno(t, "P10: "+d.name+", for which the acts suffice", d.call(x), api.OK)
		wantErrno(t, "P10: Fail", x.Fail(2, -1), api.OK)
		x.Submit("next")
		wantFlush(t, x, 0, api.ErrDown)
		if x.Acts() != acts+2 || x.Bytes() != failedAt(t, next, 2, -1) {
			t.Errorf("P10: behind %s: %d acts, want %d", d.name, x.Acts(), acts+2)
		}
	}
}

// The last act of a call is a flush: nothing is left that a failure could undo.
func TestLastActIsAFlush(t *testing.T) {
	for _, d := range deeds(t) {
		acts, done := actsOf(t, d.make(), d.call)
		if failedAt(t, d, acts-1, -1) != done {
			t.Errorf("P10: the last act of %s writes something", d.name)
		}
		if failedAt(t, d, acts-1, 0) == done {
			t.Errorf("P10: the last act of %s changes nothing", d.name)
		}
		for _, keep := range []int{0, -1} {
			x := d.make()
			wantErrno(t, "P10: Fail", x.Fail(acts, keep), api.OK)
			wantErrno(t, "P10: "+d.name+", for which the acts suffice", d.call(x), api.OK)
			if n, _, _ := x.Checkpoint(); n < api.MaxLog {
				wantErrno(t, "P11: Submit", x.Submit("x"), api.OK)
				wantFlush(t, x, 0, api.ErrDown)
			}
			if x.Bytes() != done || x.Acts() != acts {
				t.Errorf("P10: something of %s does not last", d.name)
			}
		}
	}
}

func TestFailErrorsInTheirOrder(t *testing.T) {
	x := failedLog(t, nil)
	for _, after := range []int{math.MinInt, -1, 0, 1, math.MaxInt} {
		wantErrno(t, "P10: Fail where the disk has failed", x.Fail(after, -1), api.ErrDown)
	}
	y := grove.New()
	for _, after := range []int{math.MinInt, -2, -1} {
		for _, keep := range edges() {
			wantErrno(t, "P10: Fail with after below 0", y.Fail(after, keep), api.ErrArg)
		}
	}
	grow(t, y, "a")
	for _, keep := range edges() {
		wantErrno(t, "P10: Fail", y.Fail(math.MaxInt, keep), api.OK)
	}
	grow(t, y, "b", "c")
}

// A Fail that is refused leaves the script as it was; a later one takes the place of an earlier one.
func TestLaterFailTakesThePlace(t *testing.T) {
	x := grove.New()
	wantErrno(t, "P10: Fail", x.Fail(0, 0), api.OK)
	wantErrno(t, "P10: Fail", x.Fail(100, 0), api.OK)
	grow(t, x, "a")
	wantErrno(t, "P10: Fail", x.Fail(0, 0), api.OK)
	wantErrno(t, "P10: Fail with after below 0", x.Fail(-1, 0), api.ErrArg)
	wantErrno(t, "P11: Submit", x.Submit("b"), api.OK)
	wantFlush(t, x, 0, api.ErrDown)
}

// The acts of several calls count together.
func TestFailCountsOverCalls(t *testing.T) {
	x := grove.New()
	x.Submit("a")
	first, _ := actsOf(t, x, flush)
	x.Submit("b")
	second, _ := actsOf(t, x, flush)
	for after := range second {
		y := grove.New()
		wantErrno(t, "P10: Fail", y.Fail(first+after, 0), api.OK)
		grow(t, y, "a")
		y.Submit("b")
		wantFlush(t, y, 0, api.ErrDown)
		if y.Acts() != first+after {
			t.Errorf("P10: %d acts, want %d", y.Acts(), first+after)
		}
	}
}

// A script lasts as long as the log grows: here over more acts than one call may do.
func TestFailCountsOverAllCalls(t *testing.T) {
	entries := logEntries(api.MaxLog)
	acts := grownLog(t, entries, 1).Acts()
	if acts <= 500 {
		t.Fatalf("P10: %d acts are few", acts)
	}
	x, y := grove.New(), grove.New()
	wantErrno(t, "P10: Fail", x.Fail(acts, 0), api.OK)
	wantErrno(t, "P10: Fail", y.Fail(acts-1, 0), api.OK)
	for _, entry := range entries[:api.MaxLog-1] {
		grow(t, x, entry)
		grow(t, y, entry)
	}
	grow(t, x, entries[api.MaxLog-1])
	y.Submit(entries[api.MaxLog-1])
	wantFlush(t, y, 0, api.ErrDown)
	if x.Acts() != acts || y.Acts() != acts-1 {
		t.Errorf("P10: %d acts, and %d, want %d, and one less", x.Acts(), y.Acts(), acts)
	}
}

// From its failure on a disk does nothing, and all calls but three answer ErrDown.
func TestFailedLog(t *testing.T) {
	for _, d := range deeds(t) {
		acts, _ := actsOf(t, d.make(), d.call)
		for after := range acts {
			x := d.make()
			waiting := x.Waiting()
			x.Fail(after, 0x5a5a)
			d.call(x)
			wantWaiting(t, x, waiting)
			before := x.Bytes()
			answersDown(t, x)
			if x.Bytes() != before || x.Acts() != after || x.Waiting() != waiting {
				t.Errorf("P10: a disk that failed in %s goes on", d.name)
			}
		}
	}
}

// answersDown: do all calls but Bytes, Acts and Waiting answer ErrDown, and nothing else, at whatever numbers?
func answersDown(t *testing.T, x *grove.Log) {
	t.Helper()
	for _, i := range []int{math.MinInt, -1, 0, 1, math.MaxInt} {
		wantErrno(t, "Fail", x.Fail(i, i), api.ErrDown)
		if entry, e := x.Entry(i); entry != "" || e != api.ErrDown {
			t.Errorf("P14: Entry(%d): %q, errno %d", i, entry, e)
		}
		for _, n := range []int{math.MinInt, -1, 0, 1, 2, math.MaxInt} {
			if list, e := x.Inclusion(i, n); list != nil || e != api.ErrDown {
				t.Errorf("P15: Inclusion(%d, %d): %d hashes, errno %d", i, n, len(list), e)
			}
			if list, e := x.Consistency(i, n); list != nil || e != api.ErrDown {
				t.Errorf("P15: Consistency(%d, %d): %d hashes, errno %d", i, n, len(list), e)
			}
		}
	}
	if n, root, e := x.Checkpoint(); n != 0 || root != "" || e != api.ErrDown {
		t.Errorf("P14: Checkpoint: %d, %x, errno %d", n, root, e)
	}
	for _, entries := range [][]string{nil, {""}, {strings.Repeat("x", 50)}, make([]string, 100)} {
		wantErrno(t, "P11: Submit", x.Submit(entries...), api.ErrDown)
	}
	wantFlush(t, x, 0, api.ErrDown)
	wantErrno(t, "P13: Recover", x.Recover(), api.ErrDown)
}
