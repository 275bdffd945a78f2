package grove_test

import (
	"strings"
	"testing"
	"unsafe"

	"grove/api"
	"grove/grove"
)

// groups: how many entries are submitted ahead of each Flush, in turn.
func groups() []int { return []int{1, 12, 3, 4, 0, 5, 1, 1, 12, 2, 7, 9, 6, 1} }

func TestSameCallsMakeTheSameDisk(t *testing.T) {
	entries := logEntries(api.MaxLog)
	x, y, z := grove.New(), grove.New(), grove.New()
	acts := 0 // those of the logs that stood where z stands
	n := 0
	for _, count := range groups() {
		for _, log := range []*grove.Log{x, y, z} {
			grow(t, log, entries[n:n+count]...)
		}
		n += count
		if x.Bytes() != y.Bytes() || x.Acts() != y.Acts() {
			t.Errorf("P2: %d entries: the same calls make another disk", n)
		}
		acts += z.Acts()
		if x.Bytes() != z.Bytes() || x.Acts() != acts {
			t.Errorf("P2: %d entries: a log that is opened on its bytes goes on otherwise", n)
		}
		z = openedLog(t, z.Bytes())
	}
}

// Act for act: wherever the disk fails, it is the same, also in a log that was opened on a copy.
func TestSameActsOfALogThatIsOpened(t *testing.T) {
	entries := logEntries(30)
	for _, n := range []int{0, 3, 14, 18} {
		twin := func(opened bool) *grove.Log {
			x := grownLog(t, entries[:n], 5)
			if opened {
				x = openedLog(t, x.Bytes())
			}
			x.Submit(entries[n : n+12]...)
			return x
		}
		acts, _ := actsOf(t, twin(false), flush)
		for after := range acts {
			for _, keep := range []int{0, -1, 1, 2, 0x5555, 0xaaaa} {
				x, y := twin(false), twin(true)
				before := x.Acts()
				for _, log := range []*grove.Log{x, y} {
					log.Fail(after, keep)
					wantFlush(t, log, 0, api.ErrDown)
				}
				if x.Bytes() != y.Bytes() || x.Acts()-before != y.Acts() {
					t.Errorf("P2: %d entries, failed after %d acts: another disk", n, after)
				}
			}
		}
	}
}

// Calls that change nothing leave no trace in what comes behind them.
func TestQuestionsLeaveNoTrace(t *testing.T) {
	w := tellingOf(logEntries(40))
	x, y := grove.New(), grove.New()
	n := 0
	for _, count := range groups()[:8] {
		tells(t, x, w, n)
		x.Recover()
		x.Submit(strings.Repeat("x", 41))
		x.Submit(make([]string, 13)...)
		x.Submit()
		grow(t, x, w.entries[n:n+count]...)
		x.Flush()
		grow(t, y, w.entries[n:n+count]...)
		n += count
		if x.Bytes() != y.Bytes() || x.Acts() != y.Acts() {
			t.Errorf("P2: %d entries: what was asked shows on the disk", n)
		}
	}
}

func TestLogsByTurns(t *testing.T) {
	a := tellingOf(logEntries(40))
	var turned []string
	for i := range a.entries {
		turned = append(turned, a.entries[len(a.entries)-1-i])
	}
	b := tellingOf(turned)
	x, y := grove.New(), grove.New()
	n := 0
	for _, count := range groups()[:8] {
		wantErrno(t, "P11: Submit", x.Submit(a.entries[n:n+count]...), api.OK)
		wantWaiting(t, y, 0)
		wantErrno(t, "P11: Submit", y.Submit(b.entries[n:n+count]...), api.OK)
		before, acts := y.Bytes(), y.Acts()
		wantFlush(t, x, n+count, api.OK)
		if y.Bytes() != before || y.Acts() != acts || y.Waiting() != count {
			t.Error("P2: one log's Flush changes another log")
		}
		tells(t, y, b, n)
		wantFlush(t, y, n+count, api.OK)
		n += count
		tells(t, x, a, n)
		tells(t, y, b, n)
	}
	// A failure is one log's own, also among logs of the same bytes.
	z := openedLog(t, x.Bytes())
	x.Fail(3, 0)
	x.Submit("x")
	wantFlush(t, x, 0, api.ErrDown)
	tells(t, z, a, n)
	grow(t, z, "x")
	tells(t, y, b, n)
	grow(t, y, "x")
}

// spoil: write into a list and behind its end, as far as there is room.
func spoil(list []string) {
	list = list[:cap(list)]
	for i := range list {
		list[i] = "spoilt"
	}
}

func TestAnswersAreNewMemory(t *testing.T) {
	w := tellingOf(logEntries(23))
	x := grownLog(t, w.entries, 12)
	before := x.Bytes()
	for n := 1; n <= 23; n++ {
		for i := range n {
			first, _ := x.Inclusion(i, n)
			second, _ := x.Inclusion(i, n)
			third, _ := x.Consistency(i+1, n)
			fourth, _ := x.Consistency(i+1, n)
			spoil(first)
			spoil(third)
			if !same(second, w.among[n][i]) || !same(fourth, w.starts[n][i+1]) {
				t.Errorf("P2: two answers of %d among %d share memory", i, n)
			}
		}
	}
	tells(t, x, w, 23)
	if x.Bytes() != before {
		t.Error("P2: what is written into an answer is seen on the disk")
	}
}

func TestSubmitKeepsNothingOfItsList(t *testing.T) {
	w := tellingOf(logEntries(12))
	x := grove.New()
	for n := 0; n < 12; n += 3 {
		room := append(append([]string{}, w.entries[n:n+3]...), "behind", "the end", "")
		before := append([]string{}, room...)
		wantErrno(t, "P11: Submit", x.Submit(room[:3]...), api.OK)
		if !same(room, before) {
			t.Error("P2: Submit writes into its list")
		}
		spoil(room)
		if n%2 == 0 {
			wantFlush(t, x, n+3, api.OK)
		}
		if !same(room, []string{"spoilt", "spoilt", "spoilt", "spoilt", "spoilt", "spoilt"}) {
			t.Error("P2: Flush writes into what was submitted")
		}
	}
	wantFlush(t, x, 12, api.OK)
	tells(t, x, w, 12)
}

// over: a string whose bytes can be changed from outside, to see whether it is kept.
func over(bytes []byte) string { return unsafe.String(&bytes[0], len(bytes)) }

func TestStringsAreNotKept(t *testing.T) {
	entry := []byte("abc")
	x := grove.New()
	wantErrno(t, "P11: Submit", x.Submit(over(entry)), api.OK)
	entry[0] = 'x'
	wantFlush(t, x, 1, api.OK)
	tells(t, x, tellingOf([]string{"abc"}), 1)

	bytes := []byte(x.Bytes())
	y := openedLog(t, over(bytes))
	clear(bytes)
	tells(t, y, tellingOf([]string{"abc"}), 1)
	if y.Bytes() != x.Bytes() {
		t.Error("P2: Open keeps the string that it was given")
	}
}

// A Submit that is refused lets none of its entries wait.
func TestRefusedSubmitKeepsNothing(t *testing.T) {
	w := tellingOf(logEntries(10))
	x := grove.New()
	for _, entry := range w.entries {
		wantErrno(t, "P11: Submit", x.Submit("a", "b", strings.Repeat("x", 41)), api.ErrLong)
		wantErrno(t, "P11: Submit", x.Submit(logEntries(13)...), api.ErrQueue)
		wantErrno(t, "P11: Submit", x.Submit(entry), api.OK)
	}
	wantFlush(t, x, 10, api.OK)
	tells(t, x, w, 10)
}
