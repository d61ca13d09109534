package book

import "earmark/api"

// Image returns the image of a secret.
func Image(secret uint64) uint64 {
	return Hash(string(appendNumber([]byte("image"), secret, numberSize)))
}

// Secret returns a secret of a parish: for an entry number, a bit of a digest and its value.
func Secret(seed uint64, parish, no, bit, value int) (uint64, api.Errno) {
	if !isParish(parish) || !isNumber(no) || !within(bit, 0, api.SealBits-1) || !within(value, 0, 1) {
		return 0, api.ErrArg
	}
	b := appendNumber([]byte("secret"), seed, numberSize)
	b = append(b, byte(parish), byte(no), byte(bit), byte(value))
	return Hash(string(b)), api.OK
}

// MakeStick returns the stick of a parish for an entry number.
func MakeStick(seed uint64, parish, no int) (api.Stick, api.Errno) {
	var s api.Stick
	for bit := range s.Images {
		for value := range s.Images[bit] {
			secret, err := Secret(seed, parish, no, bit, value)
			if err != api.OK {
				return api.Stick{}, err
			}
			s.Images[bit][value] = Image(secret)
		}
	}
	return s, api.OK
}

// Digest returns the digest of an entry without its seal: SealBits bits.
func Digest(e api.Entry) (int, api.Errno) {
	if !isValid(e) {
		return 0, api.ErrEntry
	}
	return digestOf(e), api.OK
}

// Seal returns e with its seal.
func Seal(seed uint64, e api.Entry) (api.Entry, api.Errno) {
	digest, err := Digest(e)
	if err != api.OK {
		return api.Entry{}, err
	}
	for bit := range e.Seal {
		e.Seal[bit], _ = Secret(seed, e.Parish, e.No, bit, valueOf(digest, bit))
	}
	return e, api.OK
}

// Verify returns ErrSeal unless the seal of e fits the stick.
func Verify(s api.Stick, e api.Entry) api.Errno {
	digest, err := Digest(e)
	if err != api.OK {
		return err
	}
	for bit, secret := range e.Seal {
		if Image(secret) != s.Images[bit][valueOf(digest, bit)] {
			return api.ErrSeal
		}
	}
	return api.OK
}

// digestOf returns the digest of a valid entry.
func digestOf(e api.Entry) int {
	return int(Hash(string(core(e))) % (1 << api.SealBits))
}

// valueOf returns a bit of a digest.
func valueOf(digest, bit int) int { return digest >> bit & 1 }
