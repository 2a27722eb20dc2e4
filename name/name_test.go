package name_test

import (
	"math"
	"slices"
	"strings"
	"testing"
	"unsafe"

	"hoard/api"
	"hoard/name"
)

// kinds are all there are, in their order.
var kinds = []uint8{api.KeyCount, api.KeyBucket, api.KeyObject, api.KeyUpload, api.KeyPart, api.KeyPin}

// numbers are such as N may be, rising.
var numbers = []uint64{0, 1, 2, 255, 256, 1<<31 - 1, 1 << 32, 0x0102030405060708, 1<<63 - 1, 1 << 63, math.MaxUint64 - 1, math.MaxUint64}

// parts are such as Part may be, rising; notParts are such as it may not be, some of which have lowest bits that may be.
var parts = []int{1, 2, 255, 256, 257, 999, api.MaxPart}
var notParts = []int{math.MinInt, -1 << 32, 1 - 1<<32, -65536, -1000, -2, -1, 0, api.MaxPart + 1, 1024, 65535, 65536, 65537, 1 << 32, 1<<32 + 1, math.MaxInt}

// chance makes numbers by a rule.
type chance uint64

func (c *chance) next() uint32 {
	*c = *c*6364136223846793005 + 1442695040888963407
	return uint32(*c >> 32)
}

// below makes a number below n.
func (c *chance) below(n int) int { return int(c.next() % uint32(n)) }

// text makes one of n letters.
func (c *chance) text(n int, letters string) string {
	l := make([]byte, n)
	for i := range l {
		l[i] = letters[c.below(len(letters))]
	}
	return string(l)
}

// key makes one that may be, of few letters, so that many of them share something.
func (c *chance) key() api.Key {
	k := api.Key{Kind: kinds[c.below(len(kinds))]}
	if hasBucket(k.Kind) {
		k.Bucket = c.text(1, "ab09")
		if n := c.below(3); n > 0 {
			k.Bucket += c.text(n-1, "ab-.") + c.text(1, "a9")
		}
	}
	if k.Kind == api.KeyObject {
		k.Name = c.text(1+c.below(4), "\x00\x00\x01\x02x\xfe\xff")
	}
	if hasN(k.Kind) {
		k.N = numbers[c.below(len(numbers))]
	}
	if k.Kind == api.KeyPart {
		k.Part = parts[c.below(len(parts))]
	}
	return k
}

// with is s with another byte at a place.
func with(s string, place int, b byte) string {
	return s[:place] + string([]byte{b}) + s[place+1:]
}

// one is a byte as a text.
func one(b byte) string { return string([]byte{b}) }

// everyByte are all of them, rising.
func everyByte() string {
	var l []byte
	for b := range 256 {
		l = append(l, byte(b))
	}
	return string(l)
}

// hasBucket and hasN tell what a kind has, as package api says it.
func hasBucket(kind uint8) bool { return kind >= api.KeyBucket && kind <= api.KeyPart }
func hasN(kind uint8) bool      { return kind >= api.KeyObject && kind <= api.KeyPin }

// maybeBucket is a bucket's name as the chapter's Words say it.
func maybeBucket(s string) bool {
	const ends = "abcdefghijklmnopqrstuvwxyz0123456789"
	if s == "" || len(s) > 63 {
		return false
	}
	for i := range len(s) {
		side := i == 0 || i == len(s)-1
		if !strings.Contains(ends, s[i:i+1]) && (side || s[i] != '-' && s[i] != '.') {
			return false
		}
	}
	return true
}

// maybe is a key that may be, as the Words say it.
func maybe(k api.Key) bool {
	if k.Kind < 1 || k.Kind > 6 {
		return false
	}
	bucket, object, n, part := k.Bucket == "", k.Name == "", k.N == 0, k.Part == 0
	if hasBucket(k.Kind) {
		bucket = maybeBucket(k.Bucket)
	}
	if k.Kind == 3 {
		object = len(k.Name) > 0 && len(k.Name) < 201
	}
	if hasN(k.Kind) {
		n = true
	}
	if k.Kind == 5 {
		part = k.Part > 0 && k.Part < 1001
	}
	return bucket && object && n && part
}

// eight are the eight bytes of a number, the highest first.
func eight(x uint64) string {
	s := ""
	for range 8 {
		s = one(byte(x%256)) + s
		x /= 256
	}
	return s
}

// bytesOf are a key's bytes, as the Words say them, whether or not it may be.
func bytesOf(k api.Key) string {
	s := one(k.Kind)
	if hasBucket(k.Kind) {
		s += k.Bucket + "\x00"
	}
	if k.Kind == api.KeyObject {
		s += strings.ReplaceAll(k.Name, "\x00", "\x00\xff") + "\x00\x01" + eight(math.MaxUint64-k.N)
	} else if hasN(k.Kind) {
		s += eight(k.N)
	}
	if k.Kind == api.KeyPart {
		s += one(byte(k.Part/256)) + one(byte(k.Part%256))
	}
	return s
}

// keyOf is the key whose bytes s is, if there is one that may be. It is cut from both ends, and held to s by its bytes.
func keyOf(s string) (api.Key, bool) {
	if s == "" {
		return api.Key{}, false
	}
	k := api.Key{Kind: s[0]}
	rest := s[1:]
	if k.Kind == api.KeyPart && len(rest) >= 2 {
		k.Part = int(rest[len(rest)-2])*256 + int(rest[len(rest)-1])
		rest = rest[:len(rest)-2]
	}
	if hasN(k.Kind) && len(rest) >= 8 {
		for _, b := range []byte(rest[len(rest)-8:]) {
			k.N = k.N*256 + uint64(b)
		}
		rest = rest[:len(rest)-8]
	}
	if k.Kind == api.KeyObject {
		k.N = math.MaxUint64 - k.N
	}
	if hasBucket(k.Kind) {
		k.Bucket, rest, _ = strings.Cut(rest, "\x00")
	}
	if k.Kind == api.KeyObject {
		k.Name = strings.ReplaceAll(strings.TrimSuffix(rest, "\x00\x01"), "\x00\xff", "\x00")
	}
	if !maybe(k) || bytesOf(k) != s {
		return api.Key{}, false
	}
	return k, true
}

// prefixOf is what Prefix has to answer, as P13.3 says it.
func prefixOf(k api.Key, deep int) (string, bool) {
	object := k.Kind == api.KeyObject
	twice := maybeBucket(k.Bucket) && hasBucket(k.Kind)
	switch deep {
	case 1:
		return one(k.Kind), k.Kind >= 1 && k.Kind <= 6
	case 2:
		return one(k.Kind) + k.Bucket + "\x00", twice
	case 3:
		return "\x03" + k.Bucket + "\x00" + strings.ReplaceAll(k.Name, "\x00", "\x00\xff"), twice && object && len(k.Name) <= 200
	case 4:
		if object {
			return "\x03" + k.Bucket + "\x00" + strings.ReplaceAll(k.Name, "\x00", "\x00\xff") + "\x00\x01", twice && k.Name != "" && len(k.Name) <= 200
		}
		return "\x05" + k.Bucket + "\x00" + eight(k.N), twice && k.Kind == api.KeyPart
	}
	return "", false
}

// seen holds May, Encode and Decode of a key to what it is.
func seen(t *testing.T, k api.Key) {
	t.Helper()
	may := maybe(k)
	if got := name.May(k); got != may {
		t.Errorf("May(%+v): %v", k, got)
	}
	want, e := "", api.ErrArg
	if may {
		want, e = bytesOf(k), api.OK
	}
	if got, is := name.Encode(k); got != want || is != e {
		t.Errorf("Encode(%+v): %x %v, not %x %v", k, got, is, want, e)
	}
	decodes(t, bytesOf(k))
}

// decodes holds Decode of a text to what it is.
func decodes(t *testing.T, s string) {
	t.Helper()
	want, is := keyOf(s)
	e := api.ErrForm
	if is {
		e = api.OK
	}
	if got, is := name.Decode(s); got != want || is != e {
		t.Errorf("Decode(%x): %+v %v, not %+v %v", s, got, is, want, e)
	}
}

// noKey holds Decode of a text to ErrForm.
func noKey(t *testing.T, s string) {
	t.Helper()
	if got, e := name.Decode(s); got != (api.Key{}) || e != api.ErrForm {
		t.Errorf("Decode(%x): %+v %v", s, got, e)
	}
}

// encodes holds Encode of a key to bytes that are written out, and Decode of these to the key.
func encodes(t *testing.T, k api.Key, want string) {
	t.Helper()
	if got, e := name.Encode(k); got != want || e != api.OK {
		t.Errorf("Encode(%+v): %x %v, not %x", k, got, e, want)
	}
	if got, e := name.Decode(want); got != k || e != api.OK {
		t.Errorf("Decode(%x): %+v %v, not %+v", want, got, e, k)
	}
	if !name.May(k) {
		t.Errorf("May(%+v): false", k)
	}
}

// refuses holds May and Encode of a key to one that may not be.
func refuses(t *testing.T, k api.Key) {
	t.Helper()
	if name.May(k) {
		t.Errorf("May(%+v): true", k)
	}
	if got, e := name.Encode(k); got != "" || e != api.ErrArg {
		t.Errorf("Encode(%+v): %x %v", k, got, e)
	}
}

// compares holds Compare of two keys to what it has to be, both ways.
func compares(t *testing.T, a, b api.Key, want int) {
	t.Helper()
	if got := name.Compare(a, b); got != want {
		t.Errorf("Compare(%+v, %+v): %d, not %d", a, b, got, want)
	}
	if got := name.Compare(b, a); got != -want {
		t.Errorf("Compare(%+v, %+v): %d, not %d", b, a, got, -want)
	}
}

// prefixes holds Prefix to its answer: "" is ErrArg.
func prefixes(t *testing.T, k api.Key, deep int, want string) {
	t.Helper()
	e := api.OK
	if want == "" {
		e = api.ErrArg
	}
	if got, is := name.Prefix(k, deep); got != want || is != e {
		t.Errorf("Prefix(%+v, %d): %x %v, not %x %v", k, deep, got, is, want, e)
	}
}

// samples are keys that may be, of each kind, with what is at its bounds.
func samples() []api.Key {
	l := []api.Key{{Kind: api.KeyCount}}
	buckets := []string{"a", "z", "0", "9", "a-b", "a.b", "a--.9", strings.Repeat("b", api.MaxBucket), "c" + strings.Repeat("-", api.MaxBucket-2) + "0"}
	names := []string{"x", "\x00", "\x01", "\xfe", "\xff", "\x00\x00", "\x00\x01", "\x00\xff", "\xff\x00", "\x01\x00", "a\x00", "a\x00\x01b", "a\x00\xffb", "\xff\xff\xff", strings.Repeat("n", api.MaxName), strings.Repeat("\x00", api.MaxName), strings.Repeat("\x00\x01", api.MaxName/2)}
	for _, bucket := range buckets {
		l = append(l, api.Key{Kind: api.KeyBucket, Bucket: bucket})
	}
	for i, object := range names {
		l = append(l, api.Key{Kind: api.KeyObject, Bucket: buckets[i%len(buckets)], Name: object, N: numbers[i%len(numbers)]})
	}
	for i, n := range numbers {
		bucket := buckets[i%len(buckets)]
		l = append(l, api.Key{Kind: api.KeyObject, Bucket: "a", Name: "x", N: n})
		l = append(l, api.Key{Kind: api.KeyUpload, Bucket: bucket, N: n})
		l = append(l, api.Key{Kind: api.KeyPart, Bucket: bucket, N: n, Part: parts[i%len(parts)]})
		l = append(l, api.Key{Kind: api.KeyPin, N: n})
	}
	return l
}

// P13.1: names of buckets that are written out, and such as are none.
func TestBucketNames(t *testing.T) {
	for _, s := range []string{"a", "z", "0", "9", "ab", "a1", "1a", "a-b", "a.b", "a-b.c9", "a..b", "a--b", "a-.-b", "0.0", "127.0.0.1", "xn--a"} {
		if !name.Bucket(s) {
			t.Errorf("Bucket(%q): false", s)
		}
	}
	for _, s := range []string{"", "-", ".", "-a", "a-", ".a", "a.", "--", "..", "a-b-", ".b.c", "A", "aB", "Ab", "aBc", "a_b", "a b", "a/b", "a\x00b", "\x00", "\xff", "ä", "aäb", "ａ", "٣", "a\n"} {
		if name.Bucket(s) {
			t.Errorf("Bucket(%q): true", s)
		}
	}
}

// P13.1: names of buckets of each length, and with each byte at each place of names of each length up to five, and at the ends and the middle of the longest.
func TestBucketBytes(t *testing.T) {
	for n := range 3 * api.MaxBucket {
		for _, letter := range []string{"a", "z", "0", "9"} {
			if got := name.Bucket(strings.Repeat(letter, n)); got != (n >= 1 && n <= 63) {
				t.Errorf("Bucket of %d times %s: %v", n, letter, got)
			}
		}
	}
	for _, n := range []int{1, 2, 3, 4, 5, 62, 63, 64} {
		s := strings.Repeat("k", n)
		for _, place := range []int{0, 1, 2, n / 2, n - 3, n - 2, n - 1} {
			for b := 0; b < 256 && place >= 0 && place < n; b++ {
				changed := with(s, place, byte(b))
				if got := name.Bucket(changed); got != maybeBucket(changed) {
					t.Errorf("Bucket(%q): %v", changed, got)
				}
			}
		}
	}
	for _, n := range []int{1 << 8, 1<<8 + 1, 1 << 16, 1<<16 + 63, 1 << 20} {
		if name.Bucket(strings.Repeat("a", n)) {
			t.Errorf("Bucket of %d bytes: true", n)
		}
	}
}

// P13.1: names of objects of each length, of any bytes.
func TestObject(t *testing.T) {
	for n := range 3 * api.MaxName {
		for _, letter := range []string{"a", "\x00", "\xff", "/", "\n"} {
			if got := name.Object(strings.Repeat(letter, n)); got != (n >= 1 && n <= 200) {
				t.Errorf("Object of %d times %q: %v", n, letter, got)
			}
		}
	}
	for b := range 256 {
		for _, s := range []string{"", "a", "ab", strings.Repeat("a", api.MaxName-1)} {
			for _, place := range []int{0, len(s) / 2, len(s)} {
				if longer := s[:place] + one(byte(b)) + s[place:]; !name.Object(longer) {
					t.Errorf("Object(%q): false", longer)
				}
			}
		}
	}
	if s := everyByte(); !name.Object(s[:200]) || !name.Object(s[56:]) || name.Object(s) || name.Object(s[:201]) {
		t.Error("Object of every byte")
	}
	for _, n := range []int{1 << 8, 1<<8 + 1, 1 << 16, 1<<16 + 200, 1 << 20} {
		if name.Object(strings.Repeat("a", n)) {
			t.Errorf("Object of %d bytes: true", n)
		}
	}
}

// P13.1: keys of each kind, and of kinds that are none, with each choice of what is set.
func TestMayKinds(t *testing.T) {
	for kind := range 256 {
		for set := range 16 {
			k := api.Key{Kind: uint8(kind)}
			if set&1 != 0 {
				k.Bucket = "b"
			}
			if set&2 != 0 {
				k.Name = "n"
			}
			if set&4 != 0 {
				k.N = 7
			}
			if set&8 != 0 {
				k.Part = 1
			}
			has := map[int]int{1: 0, 2: 1, 3: 7, 4: 5, 5: 13, 6: 4}
			all, is := has[kind]
			want := is && set|4 == all|4 && (set&4 == 0 || all&4 != 0) // N may be 0 too
			if got := name.May(k); got != want {
				t.Errorf("May(%+v): %v", k, got)
			}
			seen(t, k)
		}
	}
}

// P13.1: each field that a kind has not is set to something, all else may be.
func TestMayHasNot(t *testing.T) {
	for _, k := range samples() {
		seen(t, k)
		if !name.May(k) {
			t.Errorf("May(%+v): false", k)
		}
		if !hasBucket(k.Kind) {
			for _, s := range []string{"a", "\x00", "-", "\xff", strings.Repeat("a", 64)} {
				other := k
				other.Bucket = s
				refuses(t, other)
			}
		}
		if k.Kind != api.KeyObject {
			for _, s := range []string{"a", "\x00", "\xff", strings.Repeat("a", 201)} {
				other := k
				other.Name = s
				refuses(t, other)
			}
		}
		if !hasN(k.Kind) {
			for _, n := range numbers[1:] {
				other := k
				other.N = n
				refuses(t, other)
			}
		}
		if k.Kind != api.KeyPart {
			for _, part := range append(parts, notParts...) {
				other := k
				other.Part = part
				if part != 0 {
					refuses(t, other)
				}
			}
		}
	}
}

// P13.1: each field that a kind has is at its bounds, and beyond them.
func TestMayHas(t *testing.T) {
	for _, k := range samples() {
		if hasBucket(k.Kind) {
			for _, s := range []string{"", "-", "a.", "-a", "A", "a\x00", "a\x00b", "a\xff", strings.Repeat("a", 64)} {
				other := k
				other.Bucket = s
				refuses(t, other)
			}
		}
		if k.Kind == api.KeyObject {
			for _, n := range []int{0, 201, 256, 257, 1<<16 + 1} {
				other := k
				other.Name = strings.Repeat("\x00", n)
				refuses(t, other)
			}
		}
		if k.Kind == api.KeyPart {
			for _, part := range notParts {
				other := k
				other.Part = part
				refuses(t, other)
			}
			for part := range 1200 {
				other := k
				other.Part = part
				seen(t, other)
			}
		}
	}
}

// P13.1: the bytes of keys, written out.
func TestEncode(t *testing.T) {
	encodes(t, api.Key{Kind: api.KeyCount}, "\x01")
	encodes(t, api.Key{Kind: api.KeyBucket, Bucket: "a"}, "\x02a\x00")
	encodes(t, api.Key{Kind: api.KeyBucket, Bucket: "a-b.c9"}, "\x02a-b.c9\x00")
	encodes(t, api.Key{Kind: api.KeyBucket, Bucket: strings.Repeat("b", 63)}, "\x02"+strings.Repeat("b", 63)+"\x00")
	encodes(t, api.Key{Kind: api.KeyObject, Bucket: "a", Name: "x", N: 2}, "\x03a\x00x\x00\x01\xff\xff\xff\xff\xff\xff\xff\xfd")
	encodes(t, api.Key{Kind: api.KeyObject, Bucket: "bb", Name: "y", N: 0}, "\x03bb\x00y\x00\x01\xff\xff\xff\xff\xff\xff\xff\xff")
	encodes(t, api.Key{Kind: api.KeyObject, Bucket: "a", Name: "x", N: math.MaxUint64}, "\x03a\x00x\x00\x01\x00\x00\x00\x00\x00\x00\x00\x00")
	encodes(t, api.Key{Kind: api.KeyObject, Bucket: "a", Name: "x", N: 0x0102030405060708}, "\x03a\x00x\x00\x01\xfe\xfd\xfc\xfb\xfa\xf9\xf8\xf7")
	encodes(t, api.Key{Kind: api.KeyObject, Bucket: "a", Name: "\x00", N: math.MaxUint64}, "\x03a\x00\x00\xff\x00\x01\x00\x00\x00\x00\x00\x00\x00\x00")
	encodes(t, api.Key{Kind: api.KeyObject, Bucket: "a", Name: "\x00\x01\xff", N: math.MaxUint64}, "\x03a\x00\x00\xff\x01\xff\x00\x01\x00\x00\x00\x00\x00\x00\x00\x00")
	encodes(t, api.Key{Kind: api.KeyObject, Bucket: "a", Name: "p\x00\x00q\xfe", N: math.MaxUint64}, "\x03a\x00p\x00\xff\x00\xffq\xfe\x00\x01\x00\x00\x00\x00\x00\x00\x00\x00")
	encodes(t, api.Key{Kind: api.KeyUpload, Bucket: "a", N: 0}, "\x04a\x00\x00\x00\x00\x00\x00\x00\x00\x00")
	encodes(t, api.Key{Kind: api.KeyUpload, Bucket: "a", N: 0x0102030405060708}, "\x04a\x00\x01\x02\x03\x04\x05\x06\x07\x08")
	encodes(t, api.Key{Kind: api.KeyUpload, Bucket: "a", N: math.MaxUint64}, "\x04a\x00\xff\xff\xff\xff\xff\xff\xff\xff")
	encodes(t, api.Key{Kind: api.KeyPart, Bucket: "a", N: 0, Part: 1}, "\x05a\x00\x00\x00\x00\x00\x00\x00\x00\x00\x00\x01")
	encodes(t, api.Key{Kind: api.KeyPart, Bucket: "a", N: 258, Part: 255}, "\x05a\x00\x00\x00\x00\x00\x00\x00\x01\x02\x00\xff")
	encodes(t, api.Key{Kind: api.KeyPart, Bucket: "a", N: 0x0102030405060708, Part: 256}, "\x05a\x00\x01\x02\x03\x04\x05\x06\x07\x08\x01\x00")
	encodes(t, api.Key{Kind: api.KeyPart, Bucket: "a", N: math.MaxUint64, Part: 1000}, "\x05a\x00\xff\xff\xff\xff\xff\xff\xff\xff\x03\xe8")
	encodes(t, api.Key{Kind: api.KeyPin, N: 0}, "\x06\x00\x00\x00\x00\x00\x00\x00\x00")
	encodes(t, api.Key{Kind: api.KeyPin, N: 0x0102030405060708}, "\x06\x01\x02\x03\x04\x05\x06\x07\x08")
	encodes(t, api.Key{Kind: api.KeyPin, N: math.MaxUint64}, "\x06\xff\xff\xff\xff\xff\xff\xff\xff")
}

// P13.1: names of objects with the bytes that are near those put in, at each place of a short, a middle and the longest one; and with every byte.
func TestEncodeNames(t *testing.T) {
	for _, n := range []int{1, 2, 3, 7, api.MaxName} {
		for place := range n {
			for _, b := range []byte{0, 1, 2, 254, 255} {
				for _, letter := range []string{"k", "\x00", "\x01", "\xff"} {
					k := api.Key{Kind: api.KeyObject, Bucket: "a", Name: with(strings.Repeat(letter, n), place, b), N: uint64(place)}
					encodes(t, k, bytesOf(k))
				}
			}
		}
	}
	s := everyByte()
	for _, object := range []string{s[:200], s[56:], s[100:] + s[:44]} {
		k := api.Key{Kind: api.KeyObject, Bucket: "a", Name: object}
		encodes(t, k, bytesOf(k))
	}
	for b := range 256 {
		k := api.Key{Kind: api.KeyObject, Bucket: "a", Name: "l" + one(byte(b)) + "r"}
		encodes(t, k, bytesOf(k))
	}
}

// P13.1: N with each bit alone, and each bit alone wanting.
func TestEncodeNumbers(t *testing.T) {
	for bit := range 64 {
		for _, n := range []uint64{1 << bit, ^uint64(1 << bit), 1<<bit - 1} {
			for _, k := range []api.Key{
				{Kind: api.KeyObject, Bucket: "a", Name: "x", N: n},
				{Kind: api.KeyUpload, Bucket: "a", N: n},
				{Kind: api.KeyPart, Bucket: "a", N: n, Part: 1 + bit},
				{Kind: api.KeyPin, N: n},
			} {
				encodes(t, k, bytesOf(k))
			}
		}
	}
}

// P13.1: no text, texts of one byte and of two, the latter all of them.
func TestDecodeShort(t *testing.T) {
	noKey(t, "")
	for a := range 256 {
		if a == int(api.KeyCount) {
			encodes(t, api.Key{Kind: api.KeyCount}, one(byte(a)))
		} else {
			noKey(t, one(byte(a)))
		}
		for b := range 256 {
			noKey(t, one(byte(a))+one(byte(b)))
		}
	}
}

// P13.1: all that Encode tells, cut short, with something behind it or ahead of it, with another byte at each place, with one put in or taken out.
func TestDecodeNearly(t *testing.T) {
	for _, k := range samples() {
		s := bytesOf(k)
		for n := range len(s) {
			noKey(t, s[:n])
			decodes(t, s[n:])
			decodes(t, s[:n]+s[n+1:])
			for _, b := range []byte{0, 1, 2, 254, 255, '-', 'a'} {
				decodes(t, s[:n]+one(b)+s[n:])
			}
			for b := range 256 {
				decodes(t, with(s, n, byte(b)))
			}
		}
		for b := range 256 {
			noKey(t, s+one(byte(b)))
		}
		noKey(t, s+s)
		for _, other := range samples()[:12] {
			noKey(t, s+bytesOf(other))
		}
	}
}

// P13.1: the form of keys, with something in them that may not be.
func TestDecodeMayNot(t *testing.T) {
	n := eight(5)
	for _, s := range []string{"", "-", ".", "a-", "-a", ".a", "a.", "A", "aB", "a_b", "\xff", strings.Repeat("a", 64), strings.Repeat("a", 256+1), strings.Repeat("a", 1<<16+1)} {
		noKey(t, "\x02"+s+"\x00")
		noKey(t, "\x03"+s+"\x00x\x00\x01"+n)
		noKey(t, "\x04"+s+"\x00"+n)
		noKey(t, "\x05"+s+"\x00"+n+"\x00\x01")
	}
	for _, count := range []int{0, 201, 256, 256 + 1, 1<<16 + 1} {
		noKey(t, "\x03a\x00"+strings.Repeat("x", count)+"\x00\x01"+n)
		noKey(t, "\x03a\x00"+strings.Repeat("\x00\xff", count)+"\x00\x01"+n)
	}
	for part := 0; part < 1<<16; part++ {
		s := "\x05a\x00" + n + one(byte(part>>8)) + one(byte(part))
		if part >= 1 && part <= 1000 {
			encodes(t, api.Key{Kind: api.KeyPart, Bucket: "a", N: 5, Part: part}, s)
		} else {
			noKey(t, s)
		}
	}
	for kind := range 256 {
		decodes(t, one(byte(kind))+"a\x00x\x00\x01"+n)
		decodes(t, one(byte(kind))+"a\x00"+n)
		decodes(t, one(byte(kind))+n)
		decodes(t, one(byte(kind)))
	}
}

// P13.1: a byte 0 in a name has a byte 255 behind it, and a byte 1 where the name ends: nothing else, and not nothing.
func TestDecodeZero(t *testing.T) {
	n := eight(math.MaxUint64 - 5)
	for _, ahead := range []string{"", "x", "\x00\xff", "x\x01", "\xff"} {
		for _, behind := range []string{"", "y", "\x00\xff", "\xff"} {
			for b := range 256 {
				s := "\x03a\x00" + ahead + "\x00" + one(byte(b)) + behind + "\x00\x01" + n
				decodes(t, s)
				if b > 1 && b < 255 {
					noKey(t, s)
				}
			}
			noKey(t, "\x03a\x00"+ahead+"\x00"+behind)
			noKey(t, "\x03a\x00"+ahead+"\x00\x00\x01"+n)
		}
		noKey(t, "\x03a\x00"+ahead+n)
		noKey(t, "\x03a\x00"+ahead+"\x00\xff"+n)
		noKey(t, "\x03a\x00"+ahead)
		noKey(t, "\x03a\x00"+ahead+"\x00")
		noKey(t, "\x03a\x00"+ahead+"\x00\x01")
	}
	encodes(t, api.Key{Kind: api.KeyObject, Bucket: "a", Name: "\x00\x01", N: 5}, "\x03a\x00\x00\xff\x01\x00\x01"+n)
	encodes(t, api.Key{Kind: api.KeyObject, Bucket: "a", Name: "\x00\xff", N: 5}, "\x03a\x00\x00\xff\xff\x00\x01"+n)
	encodes(t, api.Key{Kind: api.KeyObject, Bucket: "a", Name: "x", N: math.MaxUint64 - 1}, "\x03a\x00x\x00\x01\x00\x00\x00\x00\x00\x00\x00\x01") // N's own bytes 0 1
}

// P13.1: texts by chance, all of few bytes, so that many are nearly a key.
func TestDecodeChance(t *testing.T) {
	c := chance(13)
	hits := 0
	for range 200000 {
		s := one(byte(c.below(8))) + c.text(c.below(4), "a\x00-9")
		s += c.text(c.below(8), "\x00\x00\x00\x01\x01\xff\xffx") + c.text(c.below(13), "\x00\x01\xff\x03")
		decodes(t, s)
		if _, is := keyOf(s); is {
			hits++
		}
	}
	if hits < 1000 {
		t.Errorf("just %d keys", hits)
	}
	for range 20000 {
		k := c.key()
		seen(t, k)
		s := bytesOf(k)
		for range 1 + c.below(3) {
			s = with(s, c.below(len(s)), c.text(1, "\x00\x01\x02\xfe\xffa-")[0])
		}
		decodes(t, s)
	}
}

// P13.1, R5: what Decode answers shares nothing with what it is handed.
func TestDecodeNew(t *testing.T) {
	for _, k := range samples() {
		s := strings.Clone(bytesOf(k))
		got, e := name.Decode(s)
		if e != api.OK {
			t.Fatal(e)
		}
		for _, text := range []string{got.Bucket, got.Name} {
			from := uintptr(unsafe.Pointer(unsafe.StringData(s)))
			at := uintptr(unsafe.Pointer(unsafe.StringData(text)))
			if text != "" && at >= from && at < from+uintptr(len(s)) {
				t.Errorf("Decode(%x) shares %q", s, text)
			}
		}
	}
}

// ladder are keys in their order, such too as may not be: each differs from those about it in as little as may be.
func ladder() []api.Key {
	return []api.Key{
		{},
		{Part: 1},
		{N: 1},
		{Bucket: "x"},
		{Kind: 1},
		{Kind: 1, Part: 3},
		{Kind: 1, N: 3},
		{Kind: 1, Name: "n"},
		{Kind: 1, Bucket: "a"},
		{Kind: 2},
		{Kind: 2, Bucket: "-"},
		{Kind: 2, Bucket: "a"},
		{Kind: 2, Bucket: "a\x00"},
		{Kind: 2, Bucket: "a-"},
		{Kind: 2, Bucket: "a-b"},
		{Kind: 2, Bucket: "a.b"},
		{Kind: 2, Bucket: "a0"},
		{Kind: 2, Bucket: "aa"},
		{Kind: 2, Bucket: "b"},
		{Kind: 2, Bucket: "\xff"},
		{Kind: 3, N: 9},
		{Kind: 3, Bucket: "a", N: math.MaxUint64},
		{Kind: 3, Bucket: "a", Part: -1},
		{Kind: 3, Bucket: "a"},
		{Kind: 3, Bucket: "a", Part: 1},
		{Kind: 3, Bucket: "a", Name: "\x00", N: 1},
		{Kind: 3, Bucket: "a", Name: "\x00\x00", N: 1},
		{Kind: 3, Bucket: "a", Name: "\x00\x01", N: 1},
		{Kind: 3, Bucket: "a", Name: "\x00\xff", N: 1},
		{Kind: 3, Bucket: "a", Name: "\x01", N: 1},
		{Kind: 3, Bucket: "a", Name: "\x01\x00", N: 1},
		{Kind: 3, Bucket: "a", Name: "a/b", N: 1},
		{Kind: 3, Bucket: "a", Name: "x", N: math.MaxUint64},
		{Kind: 3, Bucket: "a", Name: "x", N: 1 << 63},
		{Kind: 3, Bucket: "a", Name: "x", N: 1<<63 - 1},
		{Kind: 3, Bucket: "a", Name: "x", N: 256},
		{Kind: 3, Bucket: "a", Name: "x", N: 255},
		{Kind: 3, Bucket: "a", Name: "x", N: 1},
		{Kind: 3, Bucket: "a", Name: "x", N: 0},
		{Kind: 3, Bucket: "a", Name: "x\x00", N: 5},
		{Kind: 3, Bucket: "a", Name: "x\x00\x01", N: 5},
		{Kind: 3, Bucket: "a", Name: "x\x01", N: 5},
		{Kind: 3, Bucket: "a", Name: "xx", N: 9},
		{Kind: 3, Bucket: "a", Name: "x\xff", N: 5},
		{Kind: 3, Bucket: "a", Name: "y", N: 1},
		{Kind: 3, Bucket: "a", Name: "\xfe", N: 1},
		{Kind: 3, Bucket: "a", Name: "\xff", N: 1},
		{Kind: 3, Bucket: "a-", Name: "a", N: 1},
		{Kind: 3, Bucket: "aa", Name: "a", N: 1},
		{Kind: 4, Bucket: "a", N: 0},
		{Kind: 4, Bucket: "a", N: 1},
		{Kind: 4, Bucket: "a", N: 255},
		{Kind: 4, Bucket: "a", N: 256},
		{Kind: 4, Bucket: "a", N: 1<<63 - 1},
		{Kind: 4, Bucket: "a", N: 1 << 63},
		{Kind: 4, Bucket: "a", N: math.MaxUint64},
		{Kind: 4, Bucket: "a", Name: "n", N: 0},
		{Kind: 4, Bucket: "b", N: 0},
		{Kind: 5, Bucket: "a", N: 0, Part: math.MinInt},
		{Kind: 5, Bucket: "a", N: 0, Part: -1},
		{Kind: 5, Bucket: "a", N: 0},
		{Kind: 5, Bucket: "a", N: 0, Part: 1},
		{Kind: 5, Bucket: "a", N: 0, Part: 2},
		{Kind: 5, Bucket: "a", N: 0, Part: 255},
		{Kind: 5, Bucket: "a", N: 0, Part: 256},
		{Kind: 5, Bucket: "a", N: 0, Part: 1000},
		{Kind: 5, Bucket: "a", N: 0, Part: 1 << 16},
		{Kind: 5, Bucket: "a", N: 0, Part: math.MaxInt},
		{Kind: 5, Bucket: "a", N: 1, Part: 1},
		{Kind: 5, Bucket: "a", N: math.MaxUint64, Part: 1},
		{Kind: 5, Bucket: "b", N: 0, Part: 1},
		{Kind: 6, N: 0},
		{Kind: 6, N: 1},
		{Kind: 6, N: math.MaxUint64},
		{Kind: 6, Bucket: "a"},
		{Kind: 7, N: 1},
		{Kind: 7, N: 2},
		{Kind: 127},
		{Kind: 128},
		{Kind: 255},
		{Kind: 255, N: math.MaxUint64},
	}
}

// P13.2: each two keys of the ladder.
func TestCompare(t *testing.T) {
	l := ladder()
	for i, a := range l {
		compares(t, a, a, 0)
		for _, b := range l[i+1:] {
			compares(t, a, b, -1)
		}
	}
}

// P13.2: keys that differ in one field alone, of each kind, also of kinds that are none; N is turned round for KeyObject.
func TestCompareOne(t *testing.T) {
	for kind := range 256 {
		k := api.Key{Kind: uint8(kind), Bucket: "bb", Name: "nn", N: 5, Part: 5}
		compares(t, k, k, 0)
		for other := range kind {
			b := k
			b.Kind = uint8(other)
			compares(t, b, k, -1)
			compares(t, api.Key{Kind: b.Kind, Bucket: "c", Name: "o", N: 6, Part: 6}, k, -1)
			compares(t, api.Key{Kind: b.Kind, Bucket: "a", Name: "m", N: 4, Part: 4}, k, -1)
		}
		for _, s := range []string{"bb\x00", "bb-", "bbb", "c", "cb", "\x80", "\xff"} {
			b := k
			b.Bucket = s
			compares(t, k, b, -1)
			compares(t, k, api.Key{Kind: k.Kind, Bucket: s, Name: "m", N: 4, Part: 4}, -1)
			compares(t, k, api.Key{Kind: k.Kind, Bucket: s, Name: "m", N: 6, Part: 4}, -1)
		}
		for _, s := range []string{"nn\x00", "nn\x01", "nnn", "o", "on", "\x80", "\xff"} {
			b := k
			b.Name = s
			compares(t, k, b, -1)
			compares(t, k, api.Key{Kind: k.Kind, Bucket: "bb", Name: s, N: 4, Part: 4}, -1)
			compares(t, k, api.Key{Kind: k.Kind, Bucket: "bb", Name: s, N: 6, Part: 4}, -1)
		}
		for _, n := range []uint64{6, 256, 1 << 31, 1 << 32, 1 << 63, math.MaxUint64} {
			b := k
			b.N = n
			want := -1
			if kind == 3 {
				want = 1
			}
			compares(t, k, b, want)
			b.Part = 4
			compares(t, k, b, want)
			b.Part = 6
			compares(t, k, b, want)
		}
		for _, part := range []int{6, 256, 1000, 1001, 1 << 16, 1 << 32, math.MaxInt} {
			b := k
			b.Part = part
			compares(t, k, b, -1)
		}
		for _, part := range []int{math.MinInt, -1 << 32, -6, -5, -1, 0, 4} {
			b := k
			b.Part = part
			compares(t, b, k, -1)
		}
	}
}

// P13.2: keys by chance, held to the order of their bytes.
func TestCompareChance(t *testing.T) {
	c := chance(2)
	for range 100000 {
		a, b := c.key(), c.key()
		want := strings.Compare(bytesOf(a), bytesOf(b))
		compares(t, a, b, want)
		if want == 0 && a != b {
			t.Errorf("%+v and %+v have the same bytes", a, b)
		}
	}
}

// P13.3: Prefix, written out.
func TestPrefix(t *testing.T) {
	count := api.Key{Kind: api.KeyCount}
	bucket := api.Key{Kind: api.KeyBucket, Bucket: "ab"}
	object := api.Key{Kind: api.KeyObject, Bucket: "ab", Name: "x\x00\x01", N: 5}
	upload := api.Key{Kind: api.KeyUpload, Bucket: "ab", N: 258}
	part := api.Key{Kind: api.KeyPart, Bucket: "ab", N: 258, Part: 3}
	pin := api.Key{Kind: api.KeyPin, N: 258}
	for _, c := range []struct {
		k    api.Key
		want [4]string
	}{
		{count, [4]string{"\x01"}},
		{bucket, [4]string{"\x02", "\x02ab\x00"}},
		{object, [4]string{"\x03", "\x03ab\x00", "\x03ab\x00x\x00\xff\x01", "\x03ab\x00x\x00\xff\x01\x00\x01"}},
		{upload, [4]string{"\x04", "\x04ab\x00"}},
		{part, [4]string{"\x05", "\x05ab\x00", "", "\x05ab\x00\x00\x00\x00\x00\x00\x00\x01\x02"}},
		{pin, [4]string{"\x06"}},
		{api.Key{Kind: api.KeyPart, Bucket: "a", Part: 1}, [4]string{"\x05", "\x05a\x00", "", "\x05a\x00\x00\x00\x00\x00\x00\x00\x00\x00"}},
		{api.Key{Kind: api.KeyPart, Bucket: "a", N: math.MaxUint64, Part: 1000}, [4]string{"\x05", "\x05a\x00", "", "\x05a\x00\xff\xff\xff\xff\xff\xff\xff\xff"}},
		{api.Key{}, [4]string{}},
		{api.Key{Kind: 7, Bucket: "a", Name: "x", N: 1, Part: 1}, [4]string{}},
		{api.Key{Kind: 255, Bucket: "a", Name: "x", N: 1, Part: 1}, [4]string{}},
	} {
		for i, want := range c.want {
			prefixes(t, c.k, i+1, want)
		}
		for _, deep := range []int{math.MinInt, -1 << 32, 1 - 1<<32, -256, -4, -3, -2, -1, 0, 5, 6, 256, 257, 258, 1<<16 + 1, 1<<32 + 2, math.MaxInt} {
			prefixes(t, c.k, deep, "")
		}
	}
}

// P13.3: keys with something wrong in each field: what deep leaves out is not looked at, what it asks for is.
func TestPrefixLeavesOut(t *testing.T) {
	for kind := range 256 {
		for _, bucket := range []string{"", "a", "a-", "A", "a\x00", strings.Repeat("b", 63), strings.Repeat("b", 64)} {
			for _, object := range []string{"", "x", "\x00", "\xff\x00", strings.Repeat("\x00", 200), strings.Repeat("x", 201), strings.Repeat("x", 257)} {
				for _, n := range []uint64{0, 258, math.MaxUint64} {
					for _, part := range []int{-1, 0, 1, 1001} {
						k := api.Key{Kind: uint8(kind), Bucket: bucket, Name: object, N: n, Part: part}
						for deep := -1; deep < 7; deep++ {
							want, is := prefixOf(k, deep)
							if !is {
								want = ""
							}
							prefixes(t, k, deep, want)
						}
					}
				}
			}
		}
	}
}

// P13.3: names of each length, with what is put in, at the depths that have them.
func TestPrefixNames(t *testing.T) {
	for n := range 260 {
		for _, letter := range []string{"x", "\x00", "\xff"} {
			k := api.Key{Kind: api.KeyObject, Bucket: "a", Name: strings.Repeat(letter, n)}
			written := strings.Repeat(strings.ReplaceAll(letter, "\x00", "\x00\xff"), n)
			if n > 200 {
				prefixes(t, k, 3, "")
				prefixes(t, k, 4, "")
				continue
			}
			prefixes(t, k, 3, "\x03a\x00"+written)
			if n == 0 {
				prefixes(t, k, 4, "")
				continue
			}
			prefixes(t, k, 4, "\x03a\x00"+written+"\x00\x01")
		}
	}
}

// P13.3: Behind, written out.
func TestBehind(t *testing.T) {
	for _, c := range [][2]string{
		{"", ""},
		{"\x00", "\x01"},
		{"a", "b"},
		{"a\xff", "b"},
		{"a\xff\xff\xff", "b"},
		{"\xff", ""},
		{"\xff\xff", ""},
		{strings.Repeat("\xff", 1000), ""},
		{"\xfe", "\xff"},
		{"\xfe\xff", "\xff"},
		{"\xfe\xff\xff", "\xff"},
		{"\xff\xfe", "\xff\xff"},
		{"\xff\x00\xff", "\xff\x01"},
		{"\xff\xff\x00", "\xff\xff\x01"},
		{"a\x00", "a\x01"},
		{"a\xffb", "a\xffc"},
		{"a\xffb\xff", "a\xffc"},
		{"a\x7f", "a\x80"},
		{"a\x80\xff", "a\x81"},
		{"a\xef\xbf\xbd", "a\xef\xbf\xbe"},
		{"\x03a\x00x\x00\xff", "\x03a\x00x\x01"},
		{"\x03a\x00x\x00\x01", "\x03a\x00x\x00\x02"},
	} {
		if got := name.Behind(c[0]); got != c[1] {
			t.Errorf("Behind(%x): %x, not %x", c[0], got, c[1])
		}
	}
	for b := range 255 {
		for _, ahead := range []string{"", "a", "\xff", "a\xff", "\x00"} {
			for _, behind := range []string{"", "\xff", "\xff\xff"} {
				if got := name.Behind(ahead + one(byte(b)) + behind); got != ahead+one(byte(b+1)) {
					t.Errorf("Behind(%x): %x", ahead+one(byte(b))+behind, got)
				}
			}
		}
	}
}

// short are all texts of at most n bytes out of those.
func short(n int, letters string) []string {
	l := []string{""}
	for from := 0; n > 0; n-- {
		to := len(l)
		for _, s := range l[from:to] {
			for i := range len(letters) {
				l = append(l, s+letters[i:i+1])
			}
		}
		from = to
	}
	return l
}

// P13.3: of all short texts what Behind tells is above those that begin with the prefix, and those that are above these are not below it.
func TestBehindLeast(t *testing.T) {
	l := short(4, "\x00\x01\xfe\xff")
	for _, prefix := range l {
		behind := name.Behind(prefix)
		for _, s := range l {
			switch {
			case strings.HasPrefix(s, prefix) && behind != "" && s >= behind:
				t.Errorf("Behind(%x): %x, not above %x", prefix, behind, s)
			case !strings.HasPrefix(s, prefix) && s > prefix && (behind == "" || s < behind):
				t.Errorf("Behind(%x): %x, but %x is above all", prefix, behind, s)
			}
		}
	}
}

// R5: what Behind and Prefix answer shares nothing with what they are handed.
func TestNew(t *testing.T) {
	s := strings.Clone("abc\xff")
	if got := name.Behind(s); unsafe.StringData(got) == unsafe.StringData(s) || s != "abc\xff" {
		t.Error("Behind shares its prefix")
	}
	k := api.Key{Kind: api.KeyObject, Bucket: "a", Name: strings.Clone("xyz")}
	for range 2 {
		prefixes(t, k, 3, "\x03a\x00xyz")
		prefixes(t, k, 4, "\x03a\x00xyz\x00\x01")
		encodes(t, k, "\x03a\x00xyz\x00\x01\xff\xff\xff\xff\xff\xff\xff\xff")
	}
}

// encoded are the bytes that Encode tells of keys.
func encoded(t *testing.T, l []api.Key) []string {
	t.Helper()
	var texts []string
	for _, k := range l {
		s, e := name.Encode(k)
		if e != api.OK {
			t.Fatalf("Encode(%+v): %v", k, e)
		}
		texts = append(texts, s)
	}
	return texts
}

// ordered holds the bytes of keys to their order, each two of them, and to it that none begins another one's.
func ordered(t *testing.T, l []api.Key) {
	t.Helper()
	texts := encoded(t, l)
	for i, a := range l {
		for j, b := range l {
			if want := strings.Compare(texts[i], texts[j]); name.Compare(a, b) != want {
				t.Errorf("Compare(%+v, %+v): %d, their bytes: %d", a, b, name.Compare(a, b), want)
			}
			if a != b && strings.HasPrefix(texts[i], texts[j]) {
				t.Errorf("the bytes of %+v begin with those of %+v", a, b)
			}
		}
	}
}

// P13.4: the bytes of keys stand in the order of keys, and none is another one's beginning.
func TestOrder(t *testing.T) {
	var l []api.Key
	for _, k := range ladder() {
		if maybe(k) {
			l = append(l, k)
		}
	}
	if !slices.IsSorted(encoded(t, l)) {
		t.Error("the ladder's bytes do not rise")
	}
	ordered(t, append(l, samples()...))
	var objects []api.Key
	for _, s := range short(3, "\x00\x01\x02x\xfe\xff")[1:] {
		objects = append(objects, api.Key{Kind: api.KeyObject, Bucket: "a", Name: s, N: 1 << 63}, api.Key{Kind: api.KeyObject, Bucket: "a", Name: s})
	}
	ordered(t, objects)
	var buckets []api.Key
	for _, s := range short(4, "a-.0") {
		if name.Bucket(s) {
			buckets = append(buckets, api.Key{Kind: api.KeyBucket, Bucket: s}, api.Key{Kind: api.KeyUpload, Bucket: s, N: 9}, api.Key{Kind: api.KeyPart, Bucket: s, N: 9, Part: 1})
		}
	}
	ordered(t, buckets)
}

// P13.4: names begin alike just where their keys begin with the Prefix of depth 3; and just then these stand from it up to Behind of it.
func TestBegin(t *testing.T) {
	l := short(3, "\x00\x01x\xfe\xff")
	for _, begin := range l {
		p, e := name.Prefix(api.Key{Kind: api.KeyObject, Bucket: "a", Name: begin}, 3)
		if e != api.OK {
			t.Fatal(e)
		}
		for _, s := range l[1:] {
			for _, n := range []uint64{0, math.MaxUint64} {
				begins(t, begin, p, api.Key{Kind: api.KeyObject, Bucket: "a", Name: s, N: n})
			}
		}
		for _, k := range samples() {
			begins(t, begin, p, k)
		}
	}
}

// begins holds a key to the Prefix p of depth 3 of names in the bucket a that begin so.
func begins(t *testing.T, begin, p string, k api.Key) {
	t.Helper()
	want := k.Kind == api.KeyObject && k.Bucket == "a" && strings.HasPrefix(k.Name, begin)
	s, _ := name.Encode(k)
	if strings.HasPrefix(s, p) != want {
		t.Errorf("%+v, names that begin with %x: %x, %x", k, begin, s, p)
	}
	if (s >= p && s < name.Behind(p)) != want {
		t.Errorf("%+v, names that begin with %x: %x, not from %x to %x", k, begin, s, p, name.Behind(p))
	}
}

// P13.4: a depth less is a beginning of a depth more, and all of a key's are beginnings of its bytes.
func TestDepths(t *testing.T) {
	c := chance(4)
	for range 20000 {
		k := c.key()
		s, _ := name.Encode(k)
		last := ""
		for deep := 1; deep < 5; deep++ {
			p, e := name.Prefix(k, deep)
			if e != api.OK {
				continue
			}
			if !strings.HasPrefix(s, p) || !strings.HasPrefix(p, last) || p == last {
				t.Errorf("Prefix(%+v, %d): %x, bytes %x, a depth less %x", k, deep, p, s, last)
			}
			last = p
		}
	}
}
