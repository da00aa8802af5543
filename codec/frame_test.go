package codec

import (
	"bytes"
	"encoding/binary"
	"fmt"
	"hash/crc32"
	"math"
	"testing"

	"skiarea/api"
)

// frameBytes is the frame of body by the standard library.
func frameBytes(body []byte) []byte {
	sum := crc32.Checksum(body, crc32.MakeTable(crc32.Castagnoli))
	return binary.BigEndian.AppendUint32(joined(uvarint(len(body)), body), sum)
}

func TestFrameExamples(t *testing.T) {
	for _, c := range []struct {
		body string
		want []byte
	}{
		{"", []byte{0, 0, 0, 0, 0}}, {"\x00", []byte{1, 0, 0x52, 0x7d, 0x53, 0x51}}, {"123456789", []byte("\x09123456789\xe3\x06\x92\x83")},
	} {
		if got := Frame([]byte(c.body)); !bytes.Equal(got, c.want) {
			t.Errorf("Frame of %q: %x, want %x", c.body, got, c.want)
		}
	}
	if got := Frame(nil); !bytes.Equal(got, []byte{0, 0, 0, 0, 0}) {
		t.Errorf("Frame of nil: %x", got)
	}
}

func TestFrameOfAllLengths(t *testing.T) {
	r := source()
	for _, n := range []int{1, 2, 126, 127, 128, 129, 300, 16383, 16384, 65535, 65536, 65537, 100000} {
		room := randomBytes(r, n+20)
		before := bytes.Clone(room)
		body := room[:n]
		got, again := Frame(body), Frame(body)
		if !bytes.Equal(got, frameBytes(body)) || !bytes.Equal(room, before) {
			t.Fatalf("Frame of %d bytes: %.40x, and the body %.40x", n, got, body)
		}
		for i := range got {
			got[i] ^= 0xff
		}
		if !bytes.Equal(room, before) || !bytes.Equal(again, frameBytes(body)) {
			t.Fatalf("Frame of %d bytes shares its result", n)
		}
		clear(room)
		if !bytes.Equal(again, frameBytes(before[:n])) {
			t.Fatalf("Frame of %d bytes shares its argument", n)
		}
	}
}

// checkUnframe compares Unframe with the want of a case, and checks that the body shares no memory with b or another result.
func checkUnframe(t *testing.T, b, body []byte, size int, e api.Errno) {
	t.Helper()
	whole := bytes.Clone(b)
	other, _, _ := Unframe(whole)
	got, gotSize, gotE := Unframe(whole)
	// Also the room behind the body must not be that of b.
	room := other[:cap(other)]
	for i := range room {
		room[i] ^= 0xff
	}
	if !bytes.Equal(whole, b) {
		t.Errorf("Unframe changed %.40x to %.40x, or shares its result", b, whole)
	}
	clear(whole)
	if !bytes.Equal(got, body) || gotSize != size || gotE != e {
		t.Errorf("Unframe of %.40x (%d bytes): %.40x, %d, %d, want %.40x, %d, %d", b, len(b), got, gotSize, gotE, body, size, e)
	}
}

func TestUnframeExamples(t *testing.T) {
	good := frameBytes([]byte("123456789"))
	high := bytes.Repeat([]byte{255}, 9)
	large := randomBytes(source(), 65537)
	for _, c := range []struct {
		b, body []byte
		size    int
		e       api.Errno
	}{
		{[]byte{0, 0, 0, 0, 0}, nil, 5, api.OK}, {[]byte{0, 0, 0, 0, 0, 0}, nil, 5, api.OK}, {good, []byte("123456789"), 14, api.OK}, {joined(good, []byte{1, 2}), []byte("123456789"), 14, api.OK},
		{frameBytes(large[:65536]), large[:65536], 65543, api.OK}, {joined(frameBytes(large[:65536]), high), large[:65536], 65543, api.OK},
		// The errors of Get for the length.
		{nil, nil, 0, api.ErrShort}, {[]byte{128}, nil, 0, api.ErrShort}, {[]byte{128, 0}, nil, 0, api.ErrForm}, {[]byte{128, 0, 0, 0, 0, 0}, nil, 0, api.ErrForm}, {joined([]byte{137, 0}, good[1:]), nil, 0, api.ErrForm}, {high, nil, 0, api.ErrLong}, {joined(high, good), nil, 0, api.ErrLong},
		// A length that is too great counts before bytes that are missing, and these before a wrong checksum.
		{frameBytes(large), nil, 0, api.ErrLong}, {[]byte{0x81, 0x80, 4}, nil, 0, api.ErrLong}, {joined([]byte{0x81, 0x80, 4}, large, []byte{1, 2, 3, 4}), nil, 0, api.ErrLong}, {Put(nil, math.MaxInt), nil, 0, api.ErrLong}, {Put(nil, math.MaxInt-3), nil, 0, api.ErrLong}, {Put(nil, 1<<32), nil, 0, api.ErrLong},
		{[]byte{0x80, 0x80, 4}, nil, 0, api.ErrShort}, {frameBytes(large[:65536])[:65542], nil, 0, api.ErrShort}, {[]byte{0}, nil, 0, api.ErrShort}, {[]byte{0, 0, 0, 0}, nil, 0, api.ErrShort}, {[]byte{0, 1, 0, 0}, nil, 0, api.ErrShort}, {[]byte{2, 9, 0, 0, 0, 0}, nil, 0, api.ErrShort}, {good[:9], nil, 0, api.ErrShort}, {good[:10], nil, 0, api.ErrShort},
		{[]byte{1, 0, 0, 0, 0, 0}, nil, 0, api.ErrSum}, {[]byte{0, 0, 0, 0, 1}, nil, 0, api.ErrSum}, {[]byte{0, 1, 0, 0, 0}, nil, 0, api.ErrSum},
		// The checksum with its lowest byte first, or not inverted, is wrong.
		{[]byte("\x09123456789\x83\x92\x06\xe3"), nil, 0, api.ErrSum}, {[]byte("\x09123456789\x1c\xf9\x6d\x7c"), nil, 0, api.ErrSum},
	} {
		checkUnframe(t, c.b, c.body, c.size, c.e)
	}
}

func TestFramesBack(t *testing.T) {
	r := source()
	lengths := []int{0, 1, 127, 128, 129, 16383, 16384, 65535, 65536}
	for range 300 {
		lengths = append(lengths, r.IntN(300))
	}
	for _, n := range lengths {
		body := randomBytes(r, n)
		b := Frame(body)
		checkUnframe(t, joined(b, randomBytes(r, r.IntN(12))), body, len(b), api.OK)
		for _, end := range []int{len(b) - 1, len(b) - 4, len(b) - 5, r.IntN(len(b))} {
			checkUnframe(t, b[:end], nil, 0, api.ErrShort)
		}
	}
}

// TestChangedByte sets each byte of the body and of the checksum to each other value.
func TestChangedByte(t *testing.T) {
	r := source()
	for _, n := range []int{0, 1, 2, 9, 127, 128, 200} {
		for _, body := range [][]byte{randomBytes(r, n), make([]byte, n), bytes.Repeat([]byte{255}, n)} {
			b := Frame(body)
			for i := len(uvarint(n)); i < len(b); i++ {
				for change := 1; change < 256; change++ {
					b[i] ^= byte(change)
					got, size, e := Unframe(b)
					if len(got) != 0 || size != 0 || e != api.ErrSum {
						t.Fatalf("Unframe of %x, changed at %d: %x, %d, %d", b, i, got, size, e)
					}
					b[i] ^= byte(change)
				}
			}
		}
	}
}

func TestChangedByteOfLongest(t *testing.T) {
	b := Frame(randomBytes(source(), 65536))
	for i := 3; i < len(b); i += 1 + i%401 {
		for bit := range 8 {
			b[i] ^= 1 << bit
			if got, size, e := Unframe(b); len(got) != 0 || size != 0 || e != api.ErrSum {
				t.Fatalf("Unframe of the longest frame, changed at %d: %d bytes, %d, %d", i, len(got), size, e)
			}
			b[i] ^= 1 << bit
		}
	}
}

// checkForm checks that what is read from b is exactly what is put for it.
func checkForm(t *testing.T, b []byte) {
	t.Helper()
	wrong := func(name string, size int, e api.Errno, put func() []byte) {
		if e != api.OK && size != 0 || e == api.OK && (size > len(b) || !bytes.Equal(b[:size], put())) {
			t.Fatalf("%s of %x has the size %d and the error %d", name, b, size, e)
		}
	}
	n, size, e := Get(b)
	wrong("Get", size, e, func() []byte { return Put(nil, n) })
	s, size, e := GetText(b)
	wrong("GetText", size, e, func() []byte { return PutText(nil, s) })
	l, size, e := GetList(b)
	wrong("GetList", size, e, func() []byte { return PutList(nil, l) })
	body, size, e := Unframe(b)
	wrong("Unframe", size, e, func() []byte { return Frame(body) })
}

func TestOneFormOfShort(t *testing.T) {
	for n := range 8 {
		eachOver(n, []byte{0, 1, 2, 128, 129}, func(b []byte) { checkForm(t, b) })
	}
}

func TestOneFormOfRandom(t *testing.T) {
	r := source()
	for range 5000 {
		body := randomBytes(r, r.IntN(20))
		for _, b := range [][]byte{body, Put(nil, number(r)), PutText(nil, string(body)), PutList(nil, randomList(r, r.IntN(8))), Frame(body)} {
			checkForm(t, joined(b, body))
			for range min(3, len(b)) {
				b[r.IntN(len(b))] ^= 1 << r.IntN(8)
				checkForm(t, b)
			}
		}
	}
}

// TestSpecified checks GetText, GetList and Unframe against what the chapter says of them in terms of Get.
func TestSpecified(t *testing.T) {
	compare := func(b []byte) {
		text, size, e := specifiedBytes(b, api.MaxText, 0)
		checkGetText(t, b, string(text), size, e)
		list, size, e := specifiedList(b)
		checkGetList(t, b, list, size, e)
		body, size, e := specifiedBytes(b, 65536, 4)
		if e == api.OK && binary.BigEndian.Uint32(b[size-4:]) != slowSum(body) {
			body, size, e = nil, 0, api.ErrSum
		}
		checkUnframe(t, b, body, size, e)
		if t.Failed() {
			t.FailNow()
		}
	}
	for n := range 7 {
		eachOver(n, []byte{0, 1, 2, 128, 129}, compare)
	}
	r := source()
	for range 20000 {
		compare(randomBytes(r, r.IntN(20)))
	}
}

func specifiedBytes(b []byte, limit, behind int) (inside []byte, size int, e api.Errno) {
	n, k, e := slowGet(b)
	switch {
	case e != api.OK:
		return nil, 0, e
	case n > limit:
		return nil, 0, api.ErrLong
	case k+n+behind > len(b):
		return nil, 0, api.ErrShort
	}
	return b[k : k+n], k + n + behind, api.OK
}

func specifiedList(b []byte) (l []int, size int, e api.Errno) {
	count, size, e := slowGet(b)
	if e == api.OK && count > 10000 {
		e = api.ErrLong
	}
	for e == api.OK && len(l) < count {
		var n, k int
		n, k, e = slowGet(b[size:])
		l, size = append(l, n), size+k
	}
	if e != api.OK {
		return nil, 0, e
	}
	return l, size, api.OK
}

func ExampleFrame() {
	fmt.Printf("% x\n", Frame([]byte("123456789")))
	// Output: 09 31 32 33 34 35 36 37 38 39 e3 06 92 83
}
