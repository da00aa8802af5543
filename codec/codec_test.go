package codec

import (
	"bytes"
	"encoding/binary"
	"fmt"
	"hash/crc32"
	"math"
	"math/rand/v2"
	"testing"

	"skiarea/api"
)

func source() *rand.Rand { return rand.New(rand.NewPCG(3, 7)) }

// edgeNumbers are the numbers around those at which the varint gets longer, small ones, and the greatest ones.
func edgeNumbers() []int {
	l := []int{0, 1, 2, 300, math.MaxInt - 1, math.MaxInt}
	for bits := 7; bits < 63; bits += 7 {
		l = append(l, 1<<bits-1, 1<<bits, 1<<bits+1)
	}
	return l
}

// number returns a number that is not negative, of any length, often an edge.
func number(r *rand.Rand) int {
	if r.IntN(3) == 0 {
		l := edgeNumbers()
		return l[r.IntN(len(l))]
	}
	return int(r.Uint64() >> (1 + r.IntN(63)))
}

// randomBytes returns n bytes, among which the edges 0, 127, 128 and 255 are frequent.
func randomBytes(r *rand.Rand, n int) []byte {
	b := make([]byte, n)
	for i := range b {
		if b[i] = byte(r.Uint32()); r.IntN(2) == 0 {
			b[i] = []byte{0, 1, 127, 128, 129, 255}[r.IntN(6)]
		}
	}
	return b
}

func joined(parts ...[]byte) []byte { return bytes.Join(parts, nil) }

// uvarint is the varint by the standard library.
func uvarint(n int) []byte { return binary.AppendUvarint(nil, uint64(n)) }

// prefixes are values of b for Put, PutText and PutList: without bytes, with bytes that look like varints, with spare room behind them and without.
func prefixes() [][]byte {
	full := []byte{0, 1, 127, 128, 129, 255, 0, 128, 128, 9, 9, 9, 9, 9, 9, 9, 9, 9, 9, 9}
	l := [][]byte{nil, {}, full}
	for n := range len(full) {
		l = append(l, bytes.Clone(full)[:n], bytes.Clone(full)[:n:n])
	}
	return l
}

// checkPut checks that put returns b followed by want for each b, that it writes neither into b nor into the room behind it, and that its results share no memory with b or each other.
func checkPut(t *testing.T, name string, put func(b []byte) []byte, want []byte) {
	t.Helper()
	for _, b := range prefixes() {
		whole := b[:cap(b)]
		before := bytes.Clone(whole)
		got, again := put(b), put(b)
		if !bytes.Equal(got, joined(before[:len(b)], want)) || !bytes.Equal(again, got) {
			t.Fatalf("%s after %x: %.40x, then %.40x, want %.40x", name, b, got, again, want)
		}
		if !bytes.Equal(whole, before) {
			t.Fatalf("%s changed %x to %x", name, before, whole)
		}
		for i := range got {
			got[i] ^= 0xff
		}
		if !bytes.Equal(whole, before) || !bytes.Equal(again, joined(before[:len(b)], want)) {
			t.Fatalf("%s shares its result", name)
		}
		for i := range whole {
			whole[i] ^= 0xff
		}
		if !bytes.Equal(again, joined(before[:len(b)], want)) {
			t.Fatalf("%s shares its argument", name)
		}
	}
}

func TestPutExamples(t *testing.T) {
	for _, c := range []struct {
		n    int
		want []byte
	}{
		{0, []byte{0}}, {1, []byte{1}}, {127, []byte{127}}, {128, []byte{0x80, 1}}, {129, []byte{0x81, 1}}, {300, []byte{0xac, 2}},
		{16383, []byte{0xff, 0x7f}}, {16384, []byte{0x80, 0x80, 1}},
		{1 << 56, []byte{128, 128, 128, 128, 128, 128, 128, 128, 1}},
		{math.MaxInt, []byte{255, 255, 255, 255, 255, 255, 255, 255, 127}},
		{-1, []byte{0}}, {-128, []byte{0}}, {math.MinInt + 1, []byte{0}}, {math.MinInt, []byte{0}},
	} {
		checkPut(t, fmt.Sprint("Put of ", c.n), func(b []byte) []byte { return Put(b, c.n) }, c.want)
	}
}

func TestPutIsVarint(t *testing.T) {
	for n := range 1 << 16 {
		if got := Put(nil, n); !bytes.Equal(got, uvarint(n)) {
			t.Fatalf("Put of %d: %x", n, got)
		}
	}
	r := source()
	l := edgeNumbers()
	for range 20000 {
		l = append(l, number(r))
	}
	for _, n := range l {
		if got := Put(nil, n); !bytes.Equal(got, uvarint(n)) {
			t.Fatalf("Put of %d: %x", n, got)
		}
		if got := Put(nil, -n); !bytes.Equal(got, []byte{0}) {
			t.Fatalf("Put of %d: %x", -n, got)
		}
	}
}

func TestPutAfterLongPrefix(t *testing.T) {
	b := randomBytes(source(), 100000)
	if got := Put(b, 300); !bytes.Equal(got, joined(b, []byte{0xac, 2})) {
		t.Error("Put changes what stands before it")
	}
}

func TestGetExamples(t *testing.T) {
	high := func(n int) []byte { return bytes.Repeat([]byte{128}, n) }
	ones := func(n int) []byte { return bytes.Repeat([]byte{255}, n) }
	for _, c := range []struct {
		b       []byte
		n, size int
		e       api.Errno
	}{
		{[]byte{0xac, 2}, 300, 2, api.OK}, {[]byte{0}, 0, 1, api.OK}, {[]byte{0, 0}, 0, 1, api.OK}, {[]byte{127, 1}, 127, 1, api.OK}, {[]byte{128, 1}, 128, 2, api.OK},
		{joined(ones(8), []byte{127}), math.MaxInt, 9, api.OK}, {joined(ones(8), []byte{127, 255}), math.MaxInt, 9, api.OK}, {joined(high(8), []byte{1}), 1 << 56, 9, api.OK},
		{nil, 0, 0, api.ErrShort}, {[]byte{}, 0, 0, api.ErrShort}, {[]byte{128}, 0, 0, api.ErrShort}, {high(8), 0, 0, api.ErrShort}, {ones(8), 0, 0, api.ErrShort},
		{high(9), 0, 0, api.ErrLong}, {ones(9), 0, 0, api.ErrLong}, {joined(high(9), []byte{0}), 0, 0, api.ErrLong}, {joined(ones(9), []byte{1}), 0, 0, api.ErrLong}, {ones(20), 0, 0, api.ErrLong},
		{[]byte{128, 0}, 0, 0, api.ErrForm}, {[]byte{129, 0, 1}, 0, 0, api.ErrForm}, {[]byte{255, 128, 0}, 0, 0, api.ErrForm}, {joined(high(8), []byte{0}), 0, 0, api.ErrForm}, {joined(ones(8), []byte{0, 128}), 0, 0, api.ErrForm},
	} {
		if n, size, e := Get(c.b); n != c.n || size != c.size || e != c.e {
			t.Errorf("Get of %x: %d, %d, %d, want %d, %d, %d", c.b, n, size, e, c.n, c.size, c.e)
		}
	}
}

// slowGet is Get by the words of the chapter: it first looks for the byte without the highest bit, and adds up the groups from the highest one on.
func slowGet(b []byte) (n, size int, e api.Errno) {
	last := 0
	for last < len(b) && b[last] >= 128 {
		last++
	}
	switch {
	case last >= 9:
		return 0, 0, api.ErrLong
	case last == len(b):
		return 0, 0, api.ErrShort
	case b[last] == 0 && last > 0:
		return 0, 0, api.ErrForm
	}
	for i := last; i >= 0; i-- {
		n = n*128 + int(b[i])%128
	}
	return n, last + 1, api.OK
}

// checkGet compares Get with slowGet, and what was read with what the standard library puts.
func checkGet(t *testing.T, b []byte) {
	t.Helper()
	before := bytes.Clone(b)
	n, size, e := Get(b)
	if wantN, wantSize, wantE := slowGet(b); n != wantN || size != wantSize || e != wantE {
		t.Fatalf("Get of %x: %d, %d, %d, want %d, %d, %d", b, n, size, e, wantN, wantSize, wantE)
	}
	if e == api.OK && !bytes.Equal(b[:size], uvarint(n)) {
		t.Fatalf("Get of %x: %d in another form", b, n)
	}
	if !bytes.Equal(b, before) {
		t.Fatalf("Get changed %x to %x", before, b)
	}
}

func TestGetOfAllShort(t *testing.T) {
	checkGet(t, nil)
	for i := range 256 {
		checkGet(t, []byte{byte(i)})
		for k := range 256 {
			checkGet(t, []byte{byte(i), byte(k)})
		}
	}
	for _, n := range []int{3, 7, 8, 9, 10} {
		eachOver(n, []byte{0, 1, 127, 128}, func(b []byte) { checkGet(t, b) })
	}
}

// eachOver calls visit with all byte strings of the length n over the alphabet.
func eachOver(n int, alphabet []byte, visit func(b []byte)) {
	b := make([]byte, n)
	var fill func(i int)
	fill = func(i int) {
		if i == n {
			visit(b)
			return
		}
		for _, c := range alphabet {
			b[i] = c
			fill(i + 1)
		}
	}
	fill(0)
}

func TestGetOfRandom(t *testing.T) {
	r := source()
	for range 20000 {
		checkGet(t, randomBytes(r, r.IntN(14)))
	}
}

func TestNumbersBack(t *testing.T) {
	r := source()
	l := edgeNumbers()
	for range 20000 {
		l = append(l, number(r))
	}
	for _, n := range l {
		b := Put(nil, n)
		if got, size, e := Get(joined(b, randomBytes(r, r.IntN(12)))); got != n || size != len(b) || e != api.OK {
			t.Fatalf("%d comes back as %d, %d, %d", n, got, size, e)
		}
		for end := range b {
			if got, size, e := Get(b[:end]); got != 0 || size != 0 || e != api.ErrShort {
				t.Fatalf("Get of %x, which ends early: %d, %d, %d", b[:end], got, size, e)
			}
		}
	}
}

func TestSumExamples(t *testing.T) {
	for _, c := range []struct {
		b    []byte
		want uint32
	}{
		{[]byte("123456789"), 0xe3069283}, {nil, 0}, {[]byte{}, 0}, {[]byte{0}, 0x527d5351}, {[]byte{255}, 0xff000000}, {bytes.Repeat([]byte{255}, 4), 0xffffffff},
		// From RFC 3720, B.4.
		{make([]byte, 32), 0x8a9136aa}, {bytes.Repeat([]byte{255}, 32), 0x62a8ab43},
	} {
		if got := Sum(c.b); got != c.want {
			t.Errorf("Sum of %x: %08x, want %08x", c.b, got, c.want)
		}
	}
}

// slowSum is the checksum by the words of the chapter, bit after bit.
func slowSum(b []byte) uint32 {
	register := uint32(math.MaxUint32)
	for _, c := range b {
		register ^= uint32(c)
		for range 8 {
			out := register & 1
			if register >>= 1; out == 1 {
				register ^= 0x82f63b78
			}
		}
	}
	return ^register
}

func TestSumIsCRC(t *testing.T) {
	r := source()
	table := crc32.MakeTable(crc32.Castagnoli)
	check := func(b []byte) {
		before := bytes.Clone(b)
		if got := Sum(b); got != slowSum(b) || got != crc32.Checksum(b, table) {
			t.Fatalf("Sum of %.40x (%d bytes): %08x, want %08x", b, len(b), got, slowSum(b))
		}
		if !bytes.Equal(b, before) {
			t.Fatalf("Sum changed %.40x", before)
		}
	}
	for i := range 256 {
		check([]byte{byte(i)})
		for k := range 256 {
			check([]byte{byte(i), byte(k)})
		}
	}
	for range 2000 {
		check(randomBytes(r, r.IntN(100)))
	}
	check(randomBytes(r, 65536))
	check(randomBytes(r, 100001))
}
