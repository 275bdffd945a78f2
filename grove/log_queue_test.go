package grove_test

import (
	"strings"
	"testing"

	"grove/api"
	"grove/grove"
)

func wantWaiting(t *testing.T, x *grove.Log, want int) {
	t.Helper()
	if got := x.Waiting(); got != want {
		t.Errorf("P11: %d wait, want %d", got, want)
	}
}

func wantFlush(t *testing.T, x *grove.Log, n int, want api.Errno) {
	t.Helper()
	if got, e := x.Flush(); got != n || e != want {
		t.Errorf("P12: Flush: %d, errno %d, want %d, errno %d", got, e, n, want)
	}
}

func TestSubmitLongEntries(t *testing.T) {
	x := grove.New()
	most := strings.Repeat("\xff", api.MaxEntry)
	for _, entries := range [][]string{{most + "x"}, {"a", most + "x"}, {most + "x", "a"}, {most, most + "x", ""}, {strings.Repeat("x", 255)}, {strings.Repeat("x", 256)}, {strings.Repeat("x", 257)}, {strings.Repeat("x", 1000000)}} {
		wantErrno(t, "P11: Submit of an entry that is too long", x.Submit(entries...), api.ErrLong)
		wantWaiting(t, x, 0)
	}
	wantErrno(t, "P11: Submit of entries of MaxEntry bytes and of none", x.Submit(most, "", most[1:]), api.OK)
	wantFlush(t, x, 3, api.OK)
	tells(t, x, tellingOf([]string{most, "", most[1:]}), 3)
}

func TestSubmitManyEntries(t *testing.T) {
	for waiting := range api.MaxQueue + 1 {
		x := grove.New()
		wantErrno(t, "P11: Submit", x.Submit(logEntries(waiting)...), api.OK)
		for count := range 2 * api.MaxQueue {
			if waiting+count > api.MaxQueue {
				wantErrno(t, "P11: Submit of too many", x.Submit(logEntries(count)...), api.ErrQueue)
			}
			wantWaiting(t, x, waiting)
		}
		wantErrno(t, "P11: Submit of as many as may wait", x.Submit(logEntries(api.MaxQueue-waiting)...), api.OK)
		wantWaiting(t, x, api.MaxQueue)
		wantErrno(t, "P11: Submit of nothing", x.Submit(), api.OK)
		wantErrno(t, "P11: Submit of one more", x.Submit(""), api.ErrQueue)
		if x.Acts() != 0 {
			t.Error("P11: Submit lets the disk act")
		}
	}
	if e := grove.New().Submit(make([]string, 100000)...); e != api.ErrQueue {
		t.Errorf("P11: Submit of very many: errno %d", e)
	}
}

func TestSubmitToAFullLog(t *testing.T) {
	w := tellingOf(logEntries(api.MaxLog))
	for n := api.MaxLog - 2*api.MaxQueue; n <= api.MaxLog; n++ {
		x := grownLog(t, w.entries[:n], api.MaxQueue)
		room := min(api.MaxLog-n, api.MaxQueue)
		for waiting := range room + 1 {
			for count := range api.MaxQueue + 1 {
				if n+waiting+count > api.MaxLog && waiting+count <= api.MaxQueue {
					wantErrno(t, "P11: Submit of more than there is room for", x.Submit(logEntries(count)...), api.ErrFull)
				}
			}
			wantWaiting(t, x, waiting)
			if waiting < room {
				wantErrno(t, "P11: Submit", x.Submit(w.entries[n+waiting]), api.OK)
			}
		}
		wantFlush(t, x, n+room, api.OK)
		tells(t, x, w, n+room)
	}
}

func TestFullLog(t *testing.T) {
	w := tellingOf(logEntries(api.MaxLog))
	x := grownLog(t, w.entries, 11)
	wantErrno(t, "P11: Submit of nothing", x.Submit(), api.OK)
	wantErrno(t, "P11: Submit of one", x.Submit(""), api.ErrFull)
	wantErrno(t, "P11: Submit of one", openedLog(t, x.Bytes()).Submit("x"), api.ErrFull)
	wantWaiting(t, x, 0)
	wantFlush(t, x, api.MaxLog, api.OK)
	tells(t, x, w, api.MaxLog)
}

// Where several errors apply, the first of ErrDown, ErrPending, ErrLong, ErrQueue, ErrFull.
func TestSubmitErrorsInTheirOrder(t *testing.T) {
	full := logEntries(api.MaxLog)
	long := strings.Repeat("x", api.MaxEntry+1)
	many := append(logEntries(api.MaxQueue+1), long)
	for _, entries := range [][]string{nil, {""}, {long}, many[:api.MaxQueue+1], many} {
		for _, n := range []int{0, 10, api.MaxLog - 1} {
			x := failedLog(t, full[:n])
			wantErrno(t, "P11: Submit to a disk that has failed", x.Submit(entries...), api.ErrDown)
			wantWaiting(t, x, 1)
			y := pendingLog(t, full[:n], full[n:n+1], n)
			wantErrno(t, "P11: Submit where a Flush is pending", y.Submit(entries...), api.ErrPending)
			wantWaiting(t, y, 0)
		}
	}
	x := grownLog(t, full, api.MaxQueue)
	wantErrno(t, "P11: long ones, too many, to a full log", x.Submit(many...), api.ErrLong)
	wantErrno(t, "P11: a long one to a full log", x.Submit(long), api.ErrLong)
	wantErrno(t, "P11: too many to a full log", x.Submit(many[:api.MaxQueue+1]...), api.ErrQueue)
	wantErrno(t, "P11: as many as may wait to a full log", x.Submit(many[:api.MaxQueue]...), api.ErrFull)
	wantErrno(t, "P11: long ones, too many", grove.New().Submit(many...), api.ErrLong)
}

func TestFlushErrorsInTheirOrder(t *testing.T) {
	entries := logEntries(20)
	x := failedLog(t, entries)
	wantFlush(t, x, 0, api.ErrDown)
	wantWaiting(t, x, 1)
	for _, n := range []int{13, 20} {
		y := pendingLog(t, entries[:13], entries[13:], n)
		before := y.Bytes()
		wantFlush(t, y, 0, api.ErrPending)
		if y.Acts() != 0 || y.Bytes() != before {
			t.Error("P12: a Flush that is refused lets the disk act")
		}
		// The disk fails in Recover: then that it has failed comes ahead of what is pending.
		wantErrno(t, "P10: Fail", y.Fail(0, 0), api.OK)
		wantErrno(t, "P13: Recover", y.Recover(), api.ErrDown)
		wantFlush(t, y, 0, api.ErrDown)
	}
}

func TestFlushOfNothing(t *testing.T) {
	for _, n := range []int{0, 1, 12, 64} {
		w := tellingOf(logEntries(n))
		x := grownLog(t, w.entries, 12)
		before, acts := x.Bytes(), x.Acts()
		for range 3 {
			wantErrno(t, "P11: Submit of nothing", x.Submit(), api.OK)
			wantFlush(t, x, n, api.OK)
		}
		if x.Bytes() != before || x.Acts() != acts {
			t.Errorf("P12: a Flush of nothing behind %d entries lets the disk act", n)
		}
		// An act would let the disk fail.
		wantErrno(t, "P10: Fail", x.Fail(0, 0), api.OK)
		wantFlush(t, x, n, api.OK)
		tells(t, x, w, n)
	}
}

// In whatever groups entries are submitted, and however many Submits a Flush ends, the log is the same.
func TestSubmitInAnyGroups(t *testing.T) {
	w := tellingOf(logEntries(40))
	for seed := range 40 {
		x := grove.New()
		n, flushed := 0, 0
		for step := seed; n < len(w.entries); step += 1 + seed%7 {
			count := min(step*step%11/2, len(w.entries)-n, api.MaxQueue-(n-flushed))
			wantErrno(t, "P11: Submit", x.Submit(w.entries[n:n+count]...), api.OK)
			n += count
			wantWaiting(t, x, n-flushed)
			if step%3 == 0 || n-flushed == api.MaxQueue {
				wantFlush(t, x, n, api.OK)
				wantWaiting(t, x, 0)
				flushed = n
			}
		}
		wantFlush(t, x, len(w.entries), api.OK)
		tells(t, x, w, len(w.entries))
		tells(t, openedLog(t, x.Bytes()), w, len(w.entries))
	}
}
