package grove_test

import (
	"testing"

	"grove/api"
	"grove/grove"
)

func TestLogExample(t *testing.T) {
	x := grove.New()
	wantErrno(t, "Submit", x.Submit("a", "b"), api.OK)
	if n, root, e := x.Checkpoint(); n != 0 || root != sum() || e != api.OK {
		t.Errorf("P14: Checkpoint ahead of the Flush: %d, %x, errno %d", n, root, e)
	}
	if n, e := x.Flush(); n != 2 || e != api.OK {
		t.Errorf("P12: Flush: %d, errno %d", n, e)
	}
	if n, root, e := x.Checkpoint(); n != 2 || root != node(leaf("a"), leaf("b")) || e != api.OK {
		t.Errorf("P14: Checkpoint: %d, %x, errno %d", n, root, e)
	}
	if entry, e := x.Entry(1); entry != "b" || e != api.OK {
		t.Errorf("P14: Entry(1): %q, errno %d", entry, e)
	}
	if entry, e := x.Entry(2); entry != "" || e != api.ErrRange {
		t.Errorf("P14: Entry(2): %q, errno %d", entry, e)
	}
}

func TestWhatShowsExamples(t *testing.T) {
	letters := []string{"a", "b", "c", "d", "e", "f", "g"}
	a, b, c, d := leaf("a"), leaf("b"), leaf("c"), leaf("d")
	x := grownLog(t, letters, 7)
	for _, example := range []struct {
		name   string
		ask    func(int, int) ([]string, api.Errno)
		first  int
		second int
		want   []string
	}{
		{"entry 0 of a, b, c", x.Inclusion, 0, 3, []string{b, c}},
		{"entry 2 of a, b, c", x.Inclusion, 2, 3, []string{node(a, b)}},
		{"a, b, c begin with a, b", x.Consistency, 2, 3, []string{c}},
		{"a, b, c begin with a", x.Consistency, 1, 3, []string{b, c}},
		{"seven begin with three", x.Consistency, 3, 7, []string{c, d, node(a, b), rootOf(letters[4:])}},
	} {
		if got, e := example.ask(example.first, example.second); !same(got, example.want) || e != api.OK {
			t.Errorf("P15: %s: %x, errno %d", example.name, got, e)
		}
	}
}

// Every number of entries up to MaxLog, and all that can be asked of each.
func TestAllAnswers(t *testing.T) {
	w := tellingOf(logEntries(api.MaxLog))
	x := grove.New()
	tells(t, x, w, 0)
	for n := 1; n <= api.MaxLog; n++ {
		grow(t, x, w.entries[n-1])
		tells(t, x, w, n)
		tells(t, openedLog(t, x.Bytes()), w, n)
	}
}

// What waits is not in the log.
func TestAnswersDoNotTellOfWhatWaits(t *testing.T) {
	w := tellingOf(logEntries(30))
	for _, n := range []int{0, 3, 4, 16, 18} {
		x := grownLog(t, w.entries[:n], 5)
		for i := range 12 {
			wantErrno(t, "P11: Submit", x.Submit(w.entries[n+i]), api.OK)
			tells(t, x, w, n)
		}
	}
}

func TestAnswersAreTakenWithTheirRootsAlone(t *testing.T) {
	w := tellingOf(logEntries(api.MaxLog))
	x := grownLog(t, w.entries, 12)
	for n := 1; n <= api.MaxLog; n++ {
		for i := range n {
			list, _ := x.Inclusion(i, n)
			for other, root := range w.roots {
				if grove.Included(leaf(w.entries[i]), i, n, list, root) != (other == n) {
					t.Errorf("P16: Inclusion(%d, %d) with the root of %d: %v", i, n, other, other != n)
				}
			}
			m := i + 1
			list, _ = x.Consistency(m, n)
			for other, root := range w.roots {
				if grove.Extends(m, n, w.roots[m], root, list) != (other == n) {
					t.Errorf("P16: Consistency(%d, %d) with the root of %d for all: %v", m, n, other, other != n)
				}
				if grove.Extends(m, n, root, w.roots[n], list) != (other == m) {
					t.Errorf("P16: Consistency(%d, %d) with the root of %d for the first: %v", m, n, other, other != m)
				}
			}
		}
	}
}

func TestAnswersAtAllNumbers(t *testing.T) {
	for _, n := range []int{0, 1, 5, 8} {
		w := tellingOf(logEntries(n))
		x := grownLog(t, w.entries, 3)
		for _, i := range edges() {
			if entry, e := x.Entry(i); i >= 0 && i < n && (entry != w.entries[i] || e != api.OK) || (i < 0 || i >= n) && (entry != "" || e != api.ErrRange) {
				t.Errorf("P14: Entry(%d) of %d: %q, errno %d", i, n, entry, e)
			}
			for _, among := range edges() {
				list, e := x.Inclusion(i, among)
				if among > n || i < 0 || i >= among {
					if list != nil || e != api.ErrRange {
						t.Errorf("P15: Inclusion(%d, %d) of %d: %d hashes, errno %d", i, among, n, len(list), e)
					}
				} else if !same(list, w.among[among][i]) || e != api.OK {
					t.Errorf("P15: Inclusion(%d, %d) of %d: %x, errno %d", i, among, n, list, e)
				}
				list, e = x.Consistency(i, among)
				if among > n || i < 1 || i > among {
					if list != nil || e != api.ErrRange {
						t.Errorf("P15: Consistency(%d, %d) of %d: %d hashes, errno %d", i, among, n, len(list), e)
					}
				} else if !same(list, w.starts[among][i]) || e != api.OK {
					t.Errorf("P15: Consistency(%d, %d) of %d: %x, errno %d", i, among, n, list, e)
				}
			}
		}
	}
}
