package book_test

import (
	"math/rand"
	"strings"
	"testing"

	"earmark/api"
	"earmark/book"
)

// P8.1: numbers that another program has computed.
func TestHashKnown(t *testing.T) {
	every := make([]byte, 256)
	for i := range every {
		every[i] = byte(i)
	}
	for s, want := range map[string]uint64{
		"":                           9615434041927672947,
		"a":                          9417481573473063714,
		"secret":                     9534342494975954773,
		string(every):                13827816870640479902,
		strings.Repeat("\xff", 5000): 2311050777130257136,
	} {
		if h := book.Hash(s); h != want || plainHash(s) != want {
			t.Errorf("%q %d %d", s, h, plainHash(s))
		}
	}
	for secret, want := range map[uint64]uint64{0: 947163608731528206, 1: 9594154311669301820, 0x0102030405060708: 18084554845006078868, 1<<64 - 1: 3657030717744446133} {
		if h := book.Image(secret); h != want {
			t.Error(secret, h)
		}
	}
	for _, x := range []struct {
		seed                   uint64
		parish, no, bit, value int
		want                   uint64
	}{
		{0, 0, 0, 0, 0, 11295542054834638720},
		{7, 0, 0, 15, 1, 10959460651590454984},
		{1<<64 - 1, 7, 63, 15, 1, 12918122736826528311},
		{0x0102030405060708, 1, 2, 3, 0, 8195695071033136667},
	} {
		if h, err := book.Secret(x.seed, x.parish, x.no, x.bit, x.value); h != x.want || err != api.OK {
			t.Error(x, h, err)
		}
	}
	e := api.Entry{Parish: 1, No: 2, Prev: 3, Body: "ab"}
	if n, err := book.Digest(e); n != 31203 || err != api.OK {
		t.Error(n, err)
	}
	e, err := book.Seal(7, e)
	if want := (api.Entry{Parish: 1, No: 2, Prev: 3, Body: "ab", Seal: [16]uint64{
		5348874245402314951, 3733911102096578210, 15345886058217589736, 1846369572732654228, 9420476695140390106, 12141757544170179089, 12120864781393907627, 7771133132808511710,
		4544033032797910887, 11716080875398890178, 6355519272111867734, 1562418735260452074, 9353631868596572233, 1026673321718758530, 16142991445604901282, 2623475364925050521,
	}}); e != want || err != api.OK {
		t.Error(e, err)
	}
	if s, _ := book.Encode(e); book.Hash(s) != 6819067035883335111 {
		t.Error(book.Hash(s))
	}
}

// P8.1: hashes of thrown strings.
func TestHash(t *testing.T) {
	r := rand.New(rand.NewSource(81))
	for range 2000 {
		b := make([]byte, r.Intn(300))
		r.Read(b)
		if s := string(b); book.Hash(s) != plainHash(s) {
			t.Fatalf("%q", s)
		}
		if v := r.Uint64(); book.Image(v) != plainImage(v) {
			t.Fatal(v)
		}
	}
}

// P8.1: secrets and sticks, also at the bounds of their arguments and beyond them.
func TestSecretsAndSticks(t *testing.T) {
	numbers := []int{lowest, -256, -1, 0, 1, 2, 7, 8, 15, 16, 17, 63, 64, 65, 255, 256, 1 << 32, highest}
	for _, seed := range []uint64{0, 7, 1<<64 - 1} {
		for _, parish := range numbers {
			for _, no := range numbers {
				is := parish >= 0 && parish < 8 && no >= 0 && no < 64
				s, err := book.MakeStick(seed, parish, no)
				if is && (s != plainStick(seed, parish, no) || err != api.OK) || !is && (s != api.Stick{} || err != api.ErrArg) {
					t.Fatal(seed, parish, no, err)
				}
				for _, bit := range numbers {
					for _, value := range numbers {
						is := is && bit >= 0 && bit < 16 && value >= 0 && value < 2
						h, err := book.Secret(seed, parish, no, bit, value)
						if is && (h != plainSecret(seed, byte(parish), byte(no), byte(bit), byte(value)) || err != api.OK) || !is && (h != 0 || err != api.ErrArg) {
							t.Fatal(seed, parish, no, bit, value, h, err)
						}
					}
				}
			}
		}
	}
}

// thrownEntry returns a valid entry; with a seal that fits nothing.
func thrownEntry(r *rand.Rand) api.Entry {
	body := make([]byte, []int{0, 1, r.Intn(20), 255, 256, 257, r.Intn(4097), 4096}[r.Intn(8)])
	r.Read(body)
	e := api.Entry{Parish: r.Intn(8), No: r.Intn(64), Prev: r.Uint64(), Body: string(body)}
	for i := range e.Seal {
		e.Seal[i] = r.Uint64()
	}
	return e
}

// P8.1: digests, seals, and what fits a stick.
func TestSealAndVerify(t *testing.T) {
	r := rand.New(rand.NewSource(82))
	for range 300 {
		e, seed := thrownEntry(r), r.Uint64()
		if n, err := book.Digest(e); n != plainDigest(e) || err != api.OK {
			t.Fatal(e, n, err)
		}
		x, err := book.Seal(seed, e)
		if x != plainSeal(seed, e) || err != api.OK {
			t.Fatal(e, x, err)
		}
		s := plainStick(seed, e.Parish, e.No)
		if err := book.Verify(s, x); err != api.OK {
			t.Fatal(x, err)
		}
		if err := book.Verify(s, e); err != api.ErrSeal {
			t.Fatal(e, err)
		}
		bit := r.Intn(16)
		y := x
		y.Seal[bit] ^= 1 << r.Intn(64)
		if err := book.Verify(s, y); err != api.ErrSeal {
			t.Fatal(y, err)
		}
		y.Seal[bit] = plainSecret(seed, byte(e.Parish), byte(e.No), byte(bit), byte(1-bitOf(plainDigest(e), bit)))
		if err := book.Verify(s, y); err != api.ErrSeal {
			t.Fatal(y, err)
		}
		y = x
		y.Prev++
		if err := book.Verify(s, y); plainDigest(y) != plainDigest(x) && err != api.ErrSeal {
			t.Fatal(y, err)
		}
		checkStickUse(t, r, s, x)
	}
}

// checkStickUse checks that the images for the bits of the digest matter, and the other ones do not.
func checkStickUse(t *testing.T, r *rand.Rand, s api.Stick, x api.Entry) {
	t.Helper()
	bit := r.Intn(16)
	value := bitOf(plainDigest(x), bit)
	other := s
	other.Images[bit][1-value]++
	if err := book.Verify(other, x); err != api.OK {
		t.Fatal(bit, err)
	}
	other = s
	other.Images[bit][value]++
	if err := book.Verify(other, x); err != api.ErrSeal {
		t.Fatal(bit, err)
	}
}

// P8.1: entries that are not valid.
func TestSealOfBadEntries(t *testing.T) {
	for _, e := range badEntries() {
		if n, err := book.Digest(e); n != 0 || err != api.ErrEntry {
			t.Error(e.Parish, e.No, n, err)
		}
		if x, err := book.Seal(7, e); x != (api.Entry{}) || err != api.ErrEntry {
			t.Error(e.Parish, e.No, err)
		}
		if err := book.Verify(api.Stick{}, e); err != api.ErrEntry {
			t.Error(e.Parish, e.No, err)
		}
	}
	if h, err := book.Secret(7, 0, 0, 16, 0); h != 0 || err != api.ErrArg {
		t.Error(h, err)
	}
}

// P8.1: two entries with one digest have one seal, and with another one of the two secrets of some bit are known.
func TestSealsOfOneNumber(t *testing.T) {
	e := sealed(2, 5, 9, "a body")
	x := twin(e, 9)
	if y, err := book.Seal(seedOf(2), x); y != x || err != api.OK {
		t.Error(y, err)
	}
	if err := book.Verify(plainStick(seedOf(2), 2, 5), x); err != api.OK {
		t.Error(err)
	}
	y := other(e, "another body")
	both := 0
	for i := range 16 {
		if y.Seal[i] != e.Seal[i] {
			both++
		}
	}
	if both == 0 {
		t.Error(e, y)
	}
}
