package book_test

import (
	"math/rand"
	"strings"
	"testing"

	"earmark/api"
	"earmark/book"
)

// P8.2: the chapter's examples.
func TestEncodeExamples(t *testing.T) {
	s, err := book.Encode(api.Entry{Parish: 1, No: 2, Prev: 3, Body: "ab"})
	if s != "\x01\x02\x03\x00\x00\x00\x00\x00\x00\x00\x02\x00ab"+strings.Repeat("\x00", 128) || err != api.OK {
		t.Errorf("%q %d", s, err)
	}
	if e, n, err := book.Decode(strings.Repeat("\x00", 139)); e != (api.Entry{}) || n != 0 || err != api.ErrEntry {
		t.Error(e, n, err)
	}
	if e, n, err := book.Decode(strings.Repeat("\x00", 140)); e != (api.Entry{}) || n != 140 || err != api.OK {
		t.Error(e, n, err)
	}
	e := api.Entry{Prev: 0x0807060504030201, Body: strings.Repeat("b", 0x0102), Seal: [16]uint64{0: 0x1817161514131211, 15: 1 << 63}}
	s, err = book.Encode(e)
	if s[2:12] != "\x01\x02\x03\x04\x05\x06\x07\x08\x02\x01" || s[12+0x0102:][:9] != "\x11\x12\x13\x14\x15\x16\x17\x18\x00" || s[len(s)-1] != 0x80 || err != api.OK {
		t.Errorf("%q %d", s, err)
	}
}

// P8.2: both directions, with something behind the encoding, and for each beginning of it.
func TestEncodeAndDecode(t *testing.T) {
	r := rand.New(rand.NewSource(83))
	for range 200 {
		e := thrownEntry(r)
		s, err := book.Encode(e)
		if s != plainEncoding(e) || err != api.OK {
			t.Fatal(e, err)
		}
		for _, more := range []string{"", "\x00", s, "more"} {
			if x, n, err := book.Decode(s + more); x != e || n != len(s) || err != api.OK {
				t.Fatal(e, x, n, err)
			}
		}
		for i := 0; i < len(s); i += 1 + r.Intn(1+len(s)/50) {
			checkNoEntry(t, s[:i])
		}
		checkNoEntry(t, s[:len(s)-1])
	}
	for _, e := range badEntries() {
		if s, err := book.Encode(e); s != "" || err != api.ErrEntry {
			t.Error(e.Parish, e.No, err)
		}
	}
}

func checkNoEntry(t *testing.T, s string) {
	t.Helper()
	if x, n, err := book.Decode(s); x != (api.Entry{}) || n != 0 || err != api.ErrEntry {
		t.Fatalf("%q %v %d %d", s, x, n, err)
	}
}

// P8.2: strings that begin with no encoding of a valid entry, and thrown strings that do.
func TestDecodeOfOther(t *testing.T) {
	long := strings.Repeat("\x00", 70000)
	for _, s := range []string{
		"\x08" + long, "\xff" + long, "\x00\x40" + long, "\x00\xff" + long,
		strings.Repeat("\x00", 10) + "\x01\x10" + long, strings.Repeat("\x00", 10) + "\xff\xff" + long,
	} {
		checkNoEntry(t, s)
	}
	if x, n, err := book.Decode("\x07\x3f" + strings.Repeat("\xff", 8) + "\x00\x10" + long); n != 140+4096 || len(x.Body) != 4096 || x.Parish != 7 || x.No != 63 || x.Prev != 1<<64-1 || err != api.OK {
		t.Error(n, err)
	}
	r := rand.New(rand.NewSource(84))
	for range 20000 {
		b := make([]byte, r.Intn(600))
		r.Read(b)
		if len(b) > 12 {
			b[0], b[1], b[11] = byte(r.Intn(9)), byte(r.Intn(66)), byte(r.Intn(2))
		}
		e, n, err := book.Decode(string(b))
		if err != api.OK {
			if n != 0 || e != (api.Entry{}) || err != api.ErrEntry || len(b) >= 140 && b[0] < 8 && b[1] < 64 && len(b) >= 140+int(b[10])+256*int(b[11]) {
				t.Fatal(b, n, err)
			}
			continue
		}
		if s := plainEncoding(e); n != len(s) || s != string(b[:n]) || !plainValid(e) {
			t.Fatal(b, e, n)
		}
	}
}
