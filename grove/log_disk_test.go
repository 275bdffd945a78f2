package grove_test

import (
	"math"
	"strings"
	"testing"

	"grove/api"
	"grove/grove"
)

const diskBytes = api.Sectors * api.Sector

func TestNewLog(t *testing.T) {
	x := grove.New()
	if len(x.Bytes()) != diskBytes || x.Acts() != 0 || x.Waiting() != 0 || pending(x) {
		t.Errorf("P9: New: %d bytes, %d acts, %d wait", len(x.Bytes()), x.Acts(), x.Waiting())
	}
	tells(t, x, tellingOf(nil), 0)
	tells(t, openedLog(t, x.Bytes()), tellingOf(nil), 0)
	wantErrno(t, "P13: Recover", x.Recover(), api.OK)
}

func TestOpenOfOtherLengths(t *testing.T) {
	good := grownLog(t, logEntries(30), 12).Bytes()
	for _, bytes := range []string{"", "x", good[:1], good[:api.Sector], good[:diskBytes-api.Sector], good[1:], good[:diskBytes-1], good + "\x00", good + good, strings.Repeat("x", diskBytes+1)} {
		if x, e := grove.Open(bytes); x != nil || e != api.ErrBytes {
			t.Errorf("P9: Open of %d bytes: errno %d", len(bytes), e)
		}
	}
}

func TestOpenOfALogsOwnBytes(t *testing.T) {
	w := tellingOf(logEntries(40))
	for _, n := range []int{0, 1, 3, 4, 5, 15, 16, 17, 28} {
		x := grownLog(t, w.entries[:n], 5)
		wantErrno(t, "P11: Submit", x.Submit(w.entries[n:n+12]...), api.OK)
		bytes := x.Bytes()
		y := openedLog(t, bytes)
		if y.Waiting() != 0 || y.Acts() != 0 || y.Bytes() != bytes || pending(y) {
			t.Errorf("P9: Open: %d wait, %d acts", y.Waiting(), y.Acts())
		}
		tells(t, y, w, n)
		wantFlush(t, y, n, api.OK)
		grow(t, y, w.entries[n:n+12]...)
		tells(t, y, w, n+12)
	}
}

// holdsTogether: does a log on whatever bytes tell what its own entries ask for?
func holdsTogether(t *testing.T, x *grove.Log) {
	t.Helper()
	n, _, e := x.Checkpoint()
	if n < 0 || n > api.MaxLog || e != api.OK {
		t.Fatalf("P14: Checkpoint: %d, errno %d", n, e)
	}
	entries := make([]string, n)
	for i := range entries {
		entries[i], _ = x.Entry(i)
	}
	tells(t, x, tellingOf(entries), n)
}

// useAll: every call that changes a log, on one of which nothing is promised but that it ends and holds together.
func useAll(t *testing.T, x *grove.Log) {
	t.Helper()
	x.Recover()
	x.Submit("a", "b", "c")
	x.Flush()
	x.Recover()
	holdsTogether(t, x)
}

func TestOpenOfChangedBytes(t *testing.T) {
	entries := logEntries(12)
	for _, x := range []*grove.Log{grownLog(t, entries, 5), pendingLog(t, entries[:7], entries[7:], 7), pendingLog(t, entries[:7], entries[7:], 12)} {
		good := x.Bytes()
		count, _, _ := x.Checkpoint()
		refused := 0
		for at := range diskBytes {
			if at > 60*api.Sector && at%50 != 0 {
				continue
			}
			bytes := good[:at] + string([]byte{good[at] ^ byte(1+at%255)}) + good[at+1:]
			y, e := grove.Open(bytes)
			if (y == nil) != (e == api.ErrBytes) || e != api.OK && e != api.ErrBytes {
				t.Fatalf("P9: Open of bytes changed at %d: errno %d", at, e)
			}
			if y == nil {
				refused++
			} else if n, _, _ := y.Checkpoint(); n != count || at%101 == 0 || at < 6*api.Sector && at%5 == 0 {
				holdsTogether(t, y)
				useAll(t, y)
			}
		}
		if refused == 0 {
			t.Error("P9: no change of a byte is seen")
		}
	}
}

func TestOpenOfNoDisk(t *testing.T) {
	good := grownLog(t, logEntries(30), 12).Bytes()
	mixed := make([]byte, diskBytes)
	for i := range mixed {
		mixed[i] = byte(i * i / 31)
	}
	for _, bytes := range []string{strings.Repeat("\x00", diskBytes), strings.Repeat("x", diskBytes), strings.Repeat("\xff", diskBytes), string(mixed), good[api.Sector:] + good[:api.Sector], good[1:] + good[:1], good[:diskBytes/8] + string(mixed[diskBytes/8:]), string(mixed[:diskBytes/8]) + good[diskBytes/8:]} {
		y, e := grove.Open(bytes)
		if (y == nil) != (e == api.ErrBytes) || e != api.OK && e != api.ErrBytes {
			t.Errorf("P9: Open of bytes that are no disk's: errno %d", e)
		}
		if y != nil {
			holdsTogether(t, y)
			useAll(t, y)
		}
	}
}

func TestOnlyFlushAndRecoverAct(t *testing.T) {
	w := tellingOf(logEntries(40))
	x := grownLog(t, w.entries[:20], 7)
	before, acts := x.Bytes(), x.Acts()
	tells(t, x, w, 20)
	x.Submit(w.entries[20:30]...)
	x.Submit(strings.Repeat("x", 50))
	x.Fail(1000, -1)
	x.Fail(-1, -1)
	x.Waiting()
	x.Recover()
	if x.Acts() != acts || x.Bytes() != before {
		t.Error("P10: a call beside Flush and Recover lets the disk act")
	}
	wantFlush(t, x, 30, api.OK)
	if x.Acts() <= acts || x.Bytes() == before {
		t.Error("P10: a Flush does no act")
	}
	y := pendingLog(t, w.entries[:20], w.entries[20:30], 20)
	before = y.Bytes()
	tells(t, y, w, 20)
	y.Submit("x")
	y.Flush()
	if y.Acts() != 0 || y.Bytes() != before {
		t.Error("P10: a call beside Recover lets the disk act where a Flush is pending")
	}
	wantErrno(t, "P13: Recover", y.Recover(), api.OK)
	if y.Acts() == 0 || y.Bytes() == before {
		t.Error("P10: a Recover does no act")
	}
}

// actsOf: how many acts a call does, and what the disk is behind it.
func actsOf(t *testing.T, x *grove.Log, call func(*grove.Log) api.Errno) (int, string) {
	t.Helper()
	before := x.Acts()
	wantErrno(t, "P10: a call without a failure", call(x), api.OK)
	return x.Acts() - before, x.Bytes()
}

func flush(x *grove.Log) api.Errno { _, e := x.Flush(); return e }

func recovered(x *grove.Log) api.Errno { return x.Recover() }

// deeds: calls that let the disk act, each on a log that make makes anew.
type deed struct {
	name string
	make func() *grove.Log
	call func(*grove.Log) api.Errno
}

func deeds(t *testing.T) []deed {
	t.Helper()
	var out []deed
	for _, c := range [][2]int{{0, 1}, {0, 12}, {3, 1}, {3, 12}, {7, 9}, {15, 2}, {15, 12}, {47, 12}, {52, 12}, {63, 1}} {
		entries := logEntries(c[0] + c[1])
		old, more := entries[:c[0]], entries[c[0]:]
		bytes := grownLog(t, old, 12).Bytes()
		out = append(out, deed{"Flush", func() *grove.Log {
			x := openedLog(t, bytes)
			x.Submit(more...)
			return x
		}, flush})
		for _, n := range []int{len(old), len(entries)} {
			torn := pendingLog(t, old, more, n).Bytes()
			out = append(out, deed{"Recover", func() *grove.Log { return openedLog(t, torn) }, recovered})
		}
	}
	return out
}

func TestActsAndWritesAreBounded(t *testing.T) {
	for _, d := range deeds(t) {
		acts, _ := actsOf(t, d.make(), d.call)
		if acts < 1 || acts > 500 {
			t.Errorf("P10: %s: %d acts", d.name, acts)
		}
		for after := range acts {
			none, all := failedAt(t, d, after, 0), failedAt(t, d, after, -1)
			if changed := changedSectors(none, all); changed > 60 {
				t.Errorf("P10: %s, after %d acts: %d writes do not last", d.name, after, changed)
			}
			// More than 60 writes would show in bits 60 to 62.
			if failedAt(t, d, after, 1<<60-1) != all || failedAt(t, d, after, 7<<60) != none || failedAt(t, d, after, math.MinInt) != none {
				t.Errorf("P10: %s, after %d acts: more than 60 writes do not last", d.name, after)
			}
		}
	}
}

// failedAt: what lasts if the disk fails behind so many acts of a call.
func failedAt(t *testing.T, d deed, after, keep int) string {
	t.Helper()
	x := d.make()
	wantErrno(t, "P10: Fail", x.Fail(after, keep), api.OK)
	wantErrno(t, "P10: "+d.name+" in which the disk fails", d.call(x), api.ErrDown)
	if x.Acts() != after {
		t.Errorf("P10: %s: %d acts, want %d", d.name, x.Acts(), after)
	}
	return x.Bytes()
}

func changedSectors(a, b string) int {
	changed := 0
	for at := 0; at < len(a); at += api.Sector {
		if a[at:at+api.Sector] != b[at:at+api.Sector] {
			changed++
		}
	}
	return changed
}

// Each bit of keep lets one write last: what lasts with some bits is what lasts with each of them.
func TestKeepLetsWritesLast(t *testing.T) {
	for _, d := range deeds(t)[:6] {
		acts, _ := actsOf(t, d.make(), d.call)
		for after := range acts {
			none := failedAt(t, d, after, 0)
			var single []string
			for bit := range 24 {
				single = append(single, failedAt(t, d, after, 1<<bit))
				if changedSectors(none, single[bit]) > 1 {
					t.Errorf("P10: %s, after %d acts: bit %d lets more than one write last", d.name, after, bit)
				}
			}
			for _, keep := range []int{1<<24 - 1, 0x555555, 0xaaaaaa, 6, 0xf0f0f, -1 << 30} {
				want := []byte(none)
				for bit, bytes := range single {
					for at := range want {
						if keep>>bit&1 == 1 && bytes[at] != none[at] {
							want[at] = bytes[at]
						}
					}
				}
				if failedAt(t, d, after, keep) != string(want) {
					t.Errorf("P10: %s, after %d acts, keep %b", d.name, after, keep)
				}
			}
		}
	}
}

// The last act of a call is a flush: nothing is left that a failure could undo.
func TestLastActIsAFlush(t *testing.T) {
	for _, d := range deeds(t) {
		acts, done := actsOf(t, d.make(), d.call)
		if failedAt(t, d, acts-1, -1) != done {
			t.Errorf("P10: the last act of %s writes something", d.name)
		}
		if failedAt(t, d, acts-1, 0) == done {
			t.Errorf("P10: the last act of %s changes nothing", d.name)
		}
		for _, keep := range []int{0, -1} {
			x := d.make()
			wantErrno(t, "P10: Fail", x.Fail(acts, keep), api.OK)
			wantErrno(t, "P10: "+d.name+", for which the acts suffice", d.call(x), api.OK)
			if n, _, _ := x.Checkpoint(); n < api.MaxLog {
				wantErrno(t, "P11: Submit", x.Submit("x"), api.OK)
				wantFlush(t, x, 0, api.ErrDown)
			}
			if x.Bytes() != done || x.Acts() != acts {
				t.Errorf("P10: something of %s does not last", d.name)
			}
		}
	}
}

func TestFailErrorsInTheirOrder(t *testing.T) {
	x := failedLog(t, nil)
	for _, after := range []int{math.MinInt, -1, 0, 1, math.MaxInt} {
		wantErrno(t, "P10: Fail where the disk has failed", x.Fail(after, -1), api.ErrDown)
	}
	y := grove.New()
	for _, after := range []int{math.MinInt, -2, -1} {
		for _, keep := range edges() {
			wantErrno(t, "P10: Fail with after below 0", y.Fail(after, keep), api.ErrArg)
		}
	}
	grow(t, y, "a")
	for _, keep := range edges() {
		wantErrno(t, "P10: Fail", y.Fail(math.MaxInt, keep), api.OK)
	}
	grow(t, y, "b", "c")
}

// A Fail that is refused leaves the script as it was; a later one takes the place of an earlier one.
func TestLaterFailTakesThePlace(t *testing.T) {
	x := grove.New()
	wantErrno(t, "P10: Fail", x.Fail(0, 0), api.OK)
	wantErrno(t, "P10: Fail", x.Fail(100, 0), api.OK)
	grow(t, x, "a")
	wantErrno(t, "P10: Fail", x.Fail(0, 0), api.OK)
	wantErrno(t, "P10: Fail with after below 0", x.Fail(-1, 0), api.ErrArg)
	wantErrno(t, "P11: Submit", x.Submit("b"), api.OK)
	wantFlush(t, x, 0, api.ErrDown)
}

// The acts of several calls count together.
func TestFailCountsOverCalls(t *testing.T) {
	x := grove.New()
	x.Submit("a")
	first, _ := actsOf(t, x, flush)
	x.Submit("b")
	second, _ := actsOf(t, x, flush)
	for after := range second {
		y := grove.New()
		wantErrno(t, "P10: Fail", y.Fail(first+after, 0), api.OK)
		grow(t, y, "a")
		y.Submit("b")
		wantFlush(t, y, 0, api.ErrDown)
		if y.Acts() != first+after {
			t.Errorf("P10: %d acts, want %d", y.Acts(), first+after)
		}
	}
}

// From its failure on a disk does nothing, and all calls but three answer ErrDown.
func TestFailedLog(t *testing.T) {
	for _, d := range deeds(t) {
		acts, _ := actsOf(t, d.make(), d.call)
		for after := range acts {
			x := d.make()
			waiting := x.Waiting()
			x.Fail(after, 0x5a5a)
			d.call(x)
			wantWaiting(t, x, waiting)
			before := x.Bytes()
			answersDown(t, x)
			if x.Bytes() != before || x.Acts() != after || x.Waiting() != waiting {
				t.Errorf("P10: a disk that failed in %s goes on", d.name)
			}
		}
	}
}

// answersDown: do all calls but Bytes, Acts and Waiting answer ErrDown, and nothing else, at whatever numbers?
func answersDown(t *testing.T, x *grove.Log) {
	t.Helper()
	for _, i := range []int{math.MinInt, -1, 0, 1, math.MaxInt} {
		wantErrno(t, "Fail", x.Fail(i, i), api.ErrDown)
		if entry, e := x.Entry(i); entry != "" || e != api.ErrDown {
			t.Errorf("P14: Entry(%d): %q, errno %d", i, entry, e)
		}
		for _, n := range []int{math.MinInt, -1, 0, 1, 2, math.MaxInt} {
			if list, e := x.Inclusion(i, n); list != nil || e != api.ErrDown {
				t.Errorf("P15: Inclusion(%d, %d): %d hashes, errno %d", i, n, len(list), e)
			}
			if list, e := x.Consistency(i, n); list != nil || e != api.ErrDown {
				t.Errorf("P15: Consistency(%d, %d): %d hashes, errno %d", i, n, len(list), e)
			}
		}
	}
	if n, root, e := x.Checkpoint(); n != 0 || root != "" || e != api.ErrDown {
		t.Errorf("P14: Checkpoint: %d, %x, errno %d", n, root, e)
	}
	for _, entries := range [][]string{nil, {""}, {strings.Repeat("x", 50)}, make([]string, 100)} {
		wantErrno(t, "P11: Submit", x.Submit(entries...), api.ErrDown)
	}
	wantFlush(t, x, 0, api.ErrDown)
	wantErrno(t, "P13: Recover", x.Recover(), api.ErrDown)
}

func TestNilLog(t *testing.T) {
	var x *grove.Log
	answersDown(t, x)
	answersDown(t, &grove.Log{})
	for _, x := range []*grove.Log{x, {}} {
		if x.Bytes() != "" || x.Acts() != 0 || x.Waiting() != 0 {
			t.Errorf("P1: a nil log: %d bytes, %d acts, %d wait", len(x.Bytes()), x.Acts(), x.Waiting())
		}
	}
}
