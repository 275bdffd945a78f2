package grove_test

import (
	"strings"
	"testing"

	"grove/api"
	"grove/grove"
)

const diskBytes = api.Sectors * api.Sector

func TestNewLog(t *testing.T) {
	x := grove.New()
	if len(x.Bytes()) != diskBytes || x.Acts() != 0 || x.Waiting() != 0 || pending(x) {
		t.Errorf("P9: New: %d bytes, %d acts, %d wait", len(x.Bytes()), x.Acts(), x.Waiting())
	}
	tells(t, x, tellingOf(nil), 0)
	tells(t, openedLog(t, x.Bytes()), tellingOf(nil), 0)
	wantErrno(t, "P13: Recover", x.Recover(), api.OK)
}

func TestOpenOfOtherLengths(t *testing.T) {
	good := grownLog(t, logEntries(30), 12).Bytes()
	for _, bytes := range []string{"", "x", good[:1], good[:api.Sector], good[:diskBytes-api.Sector], good[1:], good[:diskBytes-1], good + "\x00", good + good, strings.Repeat("x", diskBytes+1)} {
		if x, e := grove.Open(bytes); x != nil || e != api.ErrBytes {
			t.Errorf("P9: Open of %d bytes: errno %d", len(bytes), e)
		}
	}
}

func TestOpenOfALogsOwnBytes(t *testing.T) {
	w := tellingOf(logEntries(40))
	for _, n := range []int{0, 1, 3, 4, 5, 15, 16, 17, 28} {
		x := grownLog(t, w.entries[:n], 5)
		wantErrno(t, "P11: Submit", x.Submit(w.entries[n:n+12]...), api.OK)
		bytes := x.Bytes()
		y := openedLog(t, bytes)
		if y.Waiting() != 0 || y.Acts() != 0 || y.Bytes() != bytes || pending(y) {
			t.Errorf("P9: Open: %d wait, %d acts", y.Waiting(), y.Acts())
		}
		tells(t, y, w, n)
		wantFlush(t, y, n, api.OK)
		grow(t, y, w.entries[n:n+12]...)
		tells(t, y, w, n+12)
	}
}

// holdsTogether: does a log on whatever bytes tell what its own entries ask for?
func holdsTogether(t *testing.T, x *grove.Log) {
	t.Helper()
	n, _, e := x.Checkpoint()
	if n < 0 || n > api.MaxLog || e != api.OK {
		t.Fatalf("P14: Checkpoint: %d, errno %d", n, e)
	}
	entries := make([]string, n)
	for i := range entries {
		entries[i], _ = x.Entry(i)
	}
	tells(t, x, tellingOf(entries), n)
}

// useAll: every call that changes a log, on one of which nothing is promised but that it ends and holds together.
func useAll(t *testing.T, x *grove.Log) {
	t.Helper()
	x.Recover()
	x.Submit("a", "b", "c")
	x.Flush()
	x.Recover()
	holdsTogether(t, x)
}

func TestOpenOfChangedBytes(t *testing.T) {
	entries := logEntries(12)
	for _, x := range []*grove.Log{grownLog(t, entries, 5), pendingLog(t, entries[:7], entries[7:], 7), pendingLog(t, entries[:7], entries[7:], 12)} {
		good := x.Bytes()
		count, _, _ := x.Checkpoint()
		refused := 0
		for at := range diskBytes {
			if at > 60*api.Sector && at%50 != 0 {
				continue
			}
			bytes := good[:at] + string([]byte{good[at] ^ byte(1+at%255)}) + good[at+1:]
			y, e := grove.Open(bytes)
			if (y == nil) != (e == api.ErrBytes) || e != api.OK && e != api.ErrBytes {
				t.Fatalf("P9: Open of bytes changed at %d: errno %d", at, e)
			}
			if y == nil {
				refused++
			} else if n, _, _ := y.Checkpoint(); n != count || at%101 == 0 || at < 6*api.Sector && at%5 == 0 {
				holdsTogether(t, y)
				useAll(t, y)
			}
		}
		if refused == 0 {
			t.Error("P9: no change of a byte is seen")
		}
	}
}

func TestOpenOfNoDisk(t *testing.T) {
	good := grownLog(t, logEntries(30), 12).Bytes()
	mixed := make([]byte, diskBytes)
	for i := range mixed {
		mixed[i] = byte(i * i / 31)
	}
	for _, bytes := range []string{strings.Repeat("\x00", diskBytes), strings.Repeat("x", diskBytes), strings.Repeat("\xff", diskBytes), string(mixed), good[api.Sector:] + good[:api.Sector], good[1:] + good[:1], good[:diskBytes/8] + string(mixed[diskBytes/8:]), string(mixed[:diskBytes/8]) + good[diskBytes/8:]} {
		y, e := grove.Open(bytes)
		if (y == nil) != (e == api.ErrBytes) || e != api.OK && e != api.ErrBytes {
			t.Errorf("P9: Open of bytes that are no disk's: errno %d", e)
		}
		if y != nil {
			holdsTogether(t, y)
			useAll(t, y)
		}
	}
}

func TestNilLog(t *testing.T) {
	var x *grove.Log
	answersDown(t, x)
	answersDown(t, &grove.Log{})
	for _, x := range []*grove.Log{x, {}} {
		if x.Bytes() != "" || x.Acts() != 0 || x.Waiting() != 0 {
			t.Errorf("P1: a nil log: %d bytes, %d acts, %d wait", len(x.Bytes()), x.Acts(), x.Waiting())
		}
	}
}
