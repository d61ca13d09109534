package book_test

import (
	"math/rand"
	"slices"
	"strings"
	"testing"

	"earmark/api"
	"earmark/book"
)

func filled(s string) string { return strings.Repeat(s, 64) }

// P8.4: how many sectors a disk has, and what is in them at first.
func TestNewDisk(t *testing.T) {
	for _, n := range []int{lowest, -1, 0, 4097, 1 << 40, highest} {
		if d, err := book.NewDisk(n); d != nil || err != api.ErrArg {
			t.Error(n, d, err)
		}
	}
	for _, n := range []int{1, 2, 64, 4096} {
		d, err := book.NewDisk(n)
		if err != api.OK || d.Sectors() != n || !d.Up() {
			t.Fatal(n, err)
		}
		for at := range n {
			if s, err := d.Read(at); s != zeros || err != api.OK {
				t.Fatal(n, at, s, err)
			}
		}
	}
}

// P8.4: the chapter's example.
func TestDiskExample(t *testing.T) {
	d := newDisk(t, 2)
	if err := d.Write(0, filled("x")); err != api.OK {
		t.Error(err)
	}
	d.Arm(1)
	if err := d.Sync(); err != api.ErrDown || d.Up() {
		t.Error(err)
	}
	d.Restart("\x03")
	if l := diskImage(t, d); !slices.Equal(l, []string{"xxx" + zeros[3:], zeros}) || !d.Up() {
		t.Error(l)
	}
}

// checkDown checks that the power of d is off.
func checkDown(t *testing.T, d *book.Disk) {
	t.Helper()
	for _, at := range []int{0, -1, d.Sectors()} {
		if s, err := d.Read(at); s != "" || err != api.ErrDown {
			t.Error(at, s, err)
		}
		for _, s := range []string{zeros, ""} {
			if err := d.Write(at, s); err != api.ErrDown {
				t.Error(at, s, err)
			}
		}
	}
	if err := d.Sync(); err != api.ErrDown || d.Up() {
		t.Error(err, d.Up())
	}
}

// P8.4: arguments that are not in their ranges.
func TestDiskArguments(t *testing.T) {
	d := newDisk(t, 3)
	d.Arm(2)
	for _, at := range []int{lowest, -1, 3, 4096, highest} {
		if s, err := d.Read(at); s != "" || err != api.ErrArg {
			t.Error(at, s, err)
		}
		if err := d.Write(at, zeros); err != api.ErrArg {
			t.Error(at, err)
		}
	}
	for _, s := range []string{"", "x", zeros[1:], zeros + "x", zeros + zeros} {
		if err := d.Write(1, s); err != api.ErrArg {
			t.Error(len(s), err)
		}
	}
	// None of these calls counts, nor does reading.
	if s, err := d.Read(2); s != zeros || err != api.OK {
		t.Error(s, err)
	}
	if err := d.Write(2, filled("y")); err != api.OK {
		t.Error(err)
	}
	if err := d.Write(1, filled("z")); err != api.ErrDown {
		t.Error(err)
	}
	checkDown(t, d)
	d.Restart("\x01\xff")
	if l := diskImage(t, d); !slices.Equal(l, []string{zeros, filled("z"), filled("y")}) {
		t.Error(l)
	}
}

// P8.4: when an armed disk goes off, and what disarms it.
func TestArm(t *testing.T) {
	for n := 1; n < 7; n++ {
		d := newDisk(t, 1)
		d.Arm(1)
		d.Arm(n)
		for i := 1; i <= n; i++ {
			call := d.Sync
			if i%2 == 0 {
				call = func() api.Errno { return d.Write(0, filled("x")) }
			}
			if err := call(); (err == api.ErrDown) != (i == n) {
				t.Fatal(n, i, err)
			}
		}
		checkDown(t, d)
		// Once is enough: without another Arm the power stays on.
		d.Restart("")
		for range 10 {
			if err := d.Sync(); err != api.OK {
				t.Fatal(n, err)
			}
		}
	}
	for _, off := range []func(d *book.Disk){
		func(d *book.Disk) { d.Arm(0) }, func(d *book.Disk) { d.Arm(-1) }, func(d *book.Disk) { d.Arm(lowest) }, func(d *book.Disk) { d.Arm(highest) }, func(d *book.Disk) { d.Restart("") },
	} {
		d := newDisk(t, 1)
		d.Arm(1)
		off(d)
		if err := d.Sync(); err != api.OK {
			t.Error(err)
		}
	}
	// An arm while the power is off lasts no longer than until it is on.
	d := newDisk(t, 1)
	d.Arm(1)
	d.Sync()
	d.Arm(1)
	checkDown(t, d)
	d.Restart("")
	if err := d.Sync(); err != api.OK {
		t.Error(err)
	}
}

// P8.4: what survives of several writes, of which the last one that does is torn.
func TestRestart(t *testing.T) {
	for _, x := range []struct {
		keep       string
		zero, one  string
		alsoTurned bool
	}{
		{"", filled("s"), zeros, true},
		{"\x00\x00\x00\x00\x05", filled("s"), zeros, false},
		{"\x05", "aaaaa" + filled("s")[5:], zeros, true},
		{"\x05\x00\x00\x00", "aaaaa" + filled("s")[5:], zeros, false},
		{"\x01\x40", filled("a"), filled("b"), true},
		{"\x01\x41", filled("a"), filled("b"), false},
		{"\x01\xff\x00\x00\x01", filled("a"), filled("b"), true},
		{"\x05\x00\x03", "ccc" + filled("a")[3:], zeros, true},
		{"\x00\x05\x3f", filled("c")[1:] + "s", filled("b"), false},
		{"\x01\x01\x01\x02", filled("c"), "dd" + filled("b")[2:], true},
		{"\x00\x00\x00\x02", filled("s"), "dd" + zeros[2:], true},
		{"\x00\x00\x01\x01\x01", filled("c"), "d" + zeros[1:], true},
	} {
		d := newDisk(t, 2)
		d.Write(0, filled("s"))
		d.Sync()
		for i, s := range []string{"a", "b", "c", "d"} {
			if i == 3 && x.alsoTurned {
				d.Arm(1)
			}
			if err := d.Write(i%2, filled(s)); (err == api.ErrDown) != (i == 3 && x.alsoTurned) {
				t.Error(i, err)
			}
		}
		d.Restart(x.keep)
		if l := diskImage(t, d); !slices.Equal(l, []string{x.zero, x.one}) {
			t.Errorf("%q %q", x.keep, l)
		}
		// All of that is safe now.
		d.Restart("\xff\xff\xff\xff")
		if l := diskImage(t, d); !slices.Equal(l, []string{x.zero, x.one}) {
			t.Errorf("%q %q", x.keep, l)
		}
	}
}

// thrownKeep returns bytes for a restart.
func thrownKeep(r *rand.Rand) string {
	b := make([]byte, r.Intn(9))
	for i := range b {
		b[i] = []byte{0, 0, 1, 4, 5, 63, 64, 65, 255, byte(r.Intn(256))}[r.Intn(10)]
	}
	return string(b)
}

// P8.4: thrown calls.
func TestDiskCalls(t *testing.T) {
	r := rand.New(rand.NewSource(86))
	for range 60 {
		sectors := 1 + r.Intn(4)
		d, plain := newDisk(t, sectors), newPlainDisk(sectors)
		for n := range 400 {
			switch r.Intn(12) {
			case 0:
				n := r.Intn(8) - 1
				d.Arm(n)
				plain.armed = max(n, 0)
			case 1:
				keep := thrownKeep(r)
				d.Restart(keep)
				plain.restart(keep)
			case 2, 3:
				if err, want := d.Sync(), plain.sync(); err != want {
					t.Fatal(n, err, want)
				}
			default:
				at, b := r.Intn(sectors+2)-1, make([]byte, 64-r.Intn(20)/19)
				r.Read(b)
				if err, want := d.Write(at, string(b)), plain.write(at, string(b)); err != want {
					t.Fatal(n, at, err, want)
				}
			}
			if d.Up() != plain.up || d.Sectors() != sectors {
				t.Fatal(n, d.Up(), d.Sectors())
			}
			if !plain.up {
				checkDown(t, d)
			} else if l := diskImage(t, d); !slices.Equal(l, plain.image()) {
				t.Fatal(n, l, plain.image())
			}
		}
	}
}
