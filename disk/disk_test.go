package disk

import (
	"math"
	"strings"
	"testing"

	"grove/api"
)

// full: a sector of one byte again and again.
func full(b byte) Sector {
	var s Sector
	for i := range s {
		s[i] = b
	}
	return s
}

// lasts: what lasts in a sector, as Bytes tells it.
func lasts(d *Disk, at int) Sector {
	return Sector([]byte(d.Bytes()[at*api.Sector : (at+1)*api.Sector]))
}

func TestOpenTakesJustADisk(t *testing.T) {
	for _, n := range []int{0, 1, api.Sector, api.Sectors*api.Sector - 1, api.Sectors*api.Sector + 1, 2 * api.Sectors * api.Sector} {
		if d, ok := Open(strings.Repeat("x", n)); d != nil || ok {
			t.Errorf("a disk of %d bytes", n)
		}
	}
	bytes := make([]byte, api.Sectors*api.Sector)
	for i := range bytes {
		bytes[i] = byte(i * i / 7)
	}
	d, ok := Open(string(bytes))
	if !ok || d.Bytes() != string(bytes) || d.Acts() != 0 || d.Failed() {
		t.Error("a disk does not hold the bytes that it was opened on")
	}
	for at := range api.Sectors {
		if d.Read(at) != Sector(bytes[at*api.Sector:(at+1)*api.Sector]) {
			t.Errorf("sector %d", at)
		}
	}
}

func TestWrittenLastsWhenFlushed(t *testing.T) {
	d := &Disk{}
	for _, at := range []int{0, 7, api.Sectors - 1} {
		d.Write(at, full('x'))
		if d.Read(at) != full('x') || lasts(d, at) != full(0) {
			t.Errorf("sector %d, written: %v, %v", at, d.Read(at), lasts(d, at))
		}
	}
	if d.Acts() != 3 || d.Read(1) != full(0) {
		t.Errorf("%d acts", d.Acts())
	}
	d.Flush()
	d.Write(7, full('y'))
	if d.Read(7) != full('y') || lasts(d, 7) != full('x') || lasts(d, 0) != full('x') || lasts(d, api.Sectors-1) != full('x') || d.Acts() != 5 {
		t.Error("flushed, and written again")
	}
	d.Flush()
	if lasts(d, 7) != full('y') || d.Acts() != 6 {
		t.Error("flushed again")
	}
}

func TestFailKeepsAsTheScriptSays(t *testing.T) {
	const written = 6
	for after := range written + 1 {
		for keep := range 1 << written {
			d := &Disk{}
			d.Write(100, full('x'))
			d.Flush()
			d.Fail(after, keep)
			for i := range written {
				d.Write(50-i, full(byte('a'+i)))
			}
			d.Flush()
			if !d.Failed() || d.Acts() != 2+after || lasts(d, 100) != full('x') {
				t.Fatalf("failed %v, %d acts", d.Failed(), d.Acts())
			}
			for i := range written {
				want := full(0)
				if i < after && keep>>i&1 == 1 {
					want = full(byte('a' + i))
				}
				if lasts(d, 50-i) != want || d.Read(50-i) != want {
					t.Fatalf("write %d, after %d, keep %b", i, after, keep)
				}
			}
		}
	}
}

func TestFailKeepsByAllBits(t *testing.T) {
	for _, keep := range []int{0, -1, math.MinInt, math.MaxInt, 1 << 62, 1, -2, 0x5555555555555555} {
		d := &Disk{}
		d.Fail(70, keep)
		for i := range 70 {
			d.Write(i, full('x'))
		}
		d.Flush()
		for i := range 70 {
			if (lasts(d, i) == full('x')) != (i <= 62 && uint64(keep)>>i&1 == 1) {
				t.Errorf("write %d, keep %b", i, keep)
			}
		}
	}
}

func TestFailedDoesNothing(t *testing.T) {
	d := &Disk{}
	d.Write(1, full('x'))
	d.Fail(0, 0)
	if d.Failed() || d.Acts() != 1 {
		t.Error("a disk fails at an act, not ahead of it")
	}
	d.Write(2, full('y'))
	before := d.Bytes()
	for range 3 {
		d.Write(3, full('z'))
		d.Flush()
	}
	d.Fail(5, -1)
	d.Write(4, full('z'))
	d.Flush()
	if !d.Failed() || d.Acts() != 1 || d.Bytes() != before || before != (&Disk{}).Bytes() || d.Read(3) != full(0) {
		t.Error("a disk that has failed does something")
	}
}

func TestLaterScriptTakesThePlace(t *testing.T) {
	d := &Disk{}
	d.Fail(0, 0)
	d.Fail(2, 1)
	d.Write(1, full('x'))
	d.Fail(math.MaxInt, 0)
	for range 20 {
		d.Write(2, full('y'))
		d.Flush()
	}
	d.Fail(1, 1)
	d.Write(3, full('z'))
	if d.Failed() || d.Acts() != 42 {
		t.Fatal("an earlier script holds on")
	}
	d.Flush()
	if !d.Failed() || lasts(d, 3) != full('z') || d.Acts() != 42 {
		t.Error("the last script does not hold")
	}
}
