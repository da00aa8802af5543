package codec

import (
	"bytes"
	"fmt"
	"math"
	"math/rand/v2"
	"slices"
	"strings"
	"testing"

	"skiarea/api"
)

func TestPutTextExamples(t *testing.T) {
	long := strings.Repeat("x", 2001)
	for _, c := range []struct {
		s    string
		want []byte
	}{
		{"", []byte{0}}, {"ab", []byte{2, 'a', 'b'}}, {"\x00\x80\xff", []byte{3, 0, 128, 255}}, {"\u00e4", []byte{2, 0xc3, 0xa4}},
		{long[:127], joined([]byte{127}, []byte(long[:127]))}, {long[:128], joined([]byte{128, 1}, []byte(long[:128]))},
		{long[:2000], joined([]byte{0xd0, 15}, []byte(long[:2000]))}, {long, joined([]byte{0xd1, 15}, []byte(long))},
	} {
		checkPut(t, fmt.Sprint("PutText of ", len(c.s), " bytes"), func(b []byte) []byte { return PutText(b, c.s) }, c.want)
	}
}

// checkGetText compares GetText with the want of a case, and checks that what b becomes later does not matter.
func checkGetText(t *testing.T, b []byte, s string, size int, e api.Errno) {
	t.Helper()
	whole := bytes.Clone(b)
	got, gotSize, gotE := GetText(whole)
	if !bytes.Equal(whole, b) {
		t.Errorf("GetText changed %.40x to %.40x", b, whole)
	}
	clear(whole)
	if got != s || gotSize != size || gotE != e {
		t.Errorf("GetText of %.40x (%d bytes): %.40q, %d, %d, want %.40q, %d, %d", b, len(b), got, gotSize, gotE, s, size, e)
	}
}

func TestGetTextExamples(t *testing.T) {
	long := bytes.Repeat([]byte{'y'}, 2100)
	high := bytes.Repeat([]byte{255}, 9)
	for _, c := range []struct {
		b    []byte
		s    string
		size int
		e    api.Errno
	}{
		{[]byte{0}, "", 1, api.OK}, {[]byte{0, 7}, "", 1, api.OK}, {[]byte{2, 'a', 'b'}, "ab", 3, api.OK}, {[]byte{2, 'a', 'b', 'c'}, "ab", 3, api.OK}, {[]byte{3, 0, 128, 255}, "\x00\x80\xff", 4, api.OK},
		{joined([]byte{0xd0, 15}, long[:2000]), string(long[:2000]), 2002, api.OK}, {joined([]byte{0xd0, 15}, long), string(long[:2000]), 2002, api.OK},
		// The errors of Get for the length.
		{nil, "", 0, api.ErrShort}, {[]byte{128}, "", 0, api.ErrShort}, {[]byte{128, 0}, "", 0, api.ErrForm}, {[]byte{130, 0, 'a', 'b'}, "", 0, api.ErrForm}, {high, "", 0, api.ErrLong}, {joined(high, long), "", 0, api.ErrLong},
		// A length that is too great counts before the bytes that are missing.
		{[]byte{0xd1, 15}, "", 0, api.ErrLong}, {joined([]byte{0xd1, 15}, long), "", 0, api.ErrLong}, {joined([]byte{0xd1, 15}, long[:2000]), "", 0, api.ErrLong},
		{Put(nil, math.MaxInt), "", 0, api.ErrLong}, {joined(Put(nil, math.MaxInt), long), "", 0, api.ErrLong}, {Put(nil, 1<<32), "", 0, api.ErrLong},
		{[]byte{1}, "", 0, api.ErrShort}, {[]byte{3, 'a', 'b'}, "", 0, api.ErrShort}, {[]byte{0xd0, 15}, "", 0, api.ErrShort}, {joined([]byte{0xd0, 15}, long[:1999]), "", 0, api.ErrShort},
	} {
		checkGetText(t, c.b, c.s, c.size, c.e)
	}
}

func TestTextsBack(t *testing.T) {
	r := source()
	lengths := []int{0, 1, 127, 128, 129, 1999, 2000}
	for range 500 {
		lengths = append(lengths, r.IntN(2001))
	}
	for _, n := range lengths {
		s := string(randomBytes(r, n))
		b := PutText(nil, s)
		checkGetText(t, joined(b, randomBytes(r, r.IntN(12))), s, len(b), api.OK)
		checkGetText(t, b[:len(b)-1], "", 0, api.ErrShort)
	}
}

// counting returns n numbers, each put in one byte.
func counting(n int) []int {
	l := make([]int, n)
	for i := range l {
		l[i] = i % 128
	}
	return l
}

// listBytes are the bytes of a list by the standard library's varints.
func listBytes(l []int) []byte {
	b := uvarint(len(l))
	for _, n := range l {
		b = append(b, uvarint(max(n, 0))...)
	}
	return b
}

func TestPutListExamples(t *testing.T) {
	for _, c := range []struct {
		l    []int
		want []byte
	}{
		{nil, []byte{0}}, {[]int{}, []byte{0}}, {[]int{0}, []byte{1, 0}}, {[]int{1, 300}, []byte{2, 1, 0xac, 2}}, {[]int{-1, 5, math.MinInt}, []byte{3, 0, 5, 0}},
		{[]int{math.MaxInt, 127, 128}, []byte{3, 255, 255, 255, 255, 255, 255, 255, 255, 127, 127, 128, 1}},
		{counting(127), listBytes(counting(127))}, {counting(128), listBytes(counting(128))},
		{counting(10000), listBytes(counting(10000))}, {counting(10001), listBytes(counting(10001))},
	} {
		before := slices.Clone(c.l)
		checkPut(t, fmt.Sprint("PutList of ", len(c.l), " elements"), func(b []byte) []byte { return PutList(b, c.l) }, c.want)
		if !slices.Equal(c.l, before) {
			t.Error("PutList changed", before, "to", c.l)
		}
	}
}

// checkGetList compares GetList with the want of a case, and checks that two results share no memory.
func checkGetList(t *testing.T, b []byte, l []int, size int, e api.Errno) {
	t.Helper()
	before := bytes.Clone(b)
	other, _, _ := GetList(b)
	got, gotSize, gotE := GetList(b)
	for i := range other {
		other[i] = -1
	}
	if !bytes.Equal(b, before) {
		t.Errorf("GetList changed %.40x to %.40x", before, b)
	}
	if !slices.Equal(got, l) || gotSize != size || gotE != e {
		t.Errorf("GetList of %.40x (%d bytes): %.40v, %d, %d, want %.40v, %d, %d", b, len(b), got, gotSize, gotE, l, size, e)
	}
}

func TestGetListExamples(t *testing.T) {
	high := bytes.Repeat([]byte{255}, 9)
	for _, c := range []struct {
		b    []byte
		l    []int
		size int
		e    api.Errno
	}{
		{[]byte{0}, nil, 1, api.OK}, {[]byte{0, 128, 0}, nil, 1, api.OK}, {[]byte{1, 0}, []int{0}, 2, api.OK}, {[]byte{2, 1, 0xac, 2}, []int{1, 300}, 4, api.OK}, {[]byte{2, 1, 0xac, 2, 5}, []int{1, 300}, 4, api.OK},
		{joined([]byte{2}, Put(nil, math.MaxInt), []byte{7, 128}), []int{math.MaxInt, 7}, 11, api.OK},
		{listBytes(counting(10000)), counting(10000), 10002, api.OK}, {joined(listBytes(counting(10000)), high), counting(10000), 10002, api.OK},
		// The errors of Get for the number of elements.
		{nil, nil, 0, api.ErrShort}, {[]byte{128}, nil, 0, api.ErrShort}, {[]byte{128, 0}, nil, 0, api.ErrForm}, {[]byte{129, 0, 1}, nil, 0, api.ErrForm}, {high, nil, 0, api.ErrLong},
		// A number of elements that is too great counts before their errors.
		{listBytes(counting(10001)), nil, 0, api.ErrLong}, {[]byte{0x91, 78}, nil, 0, api.ErrLong}, {[]byte{0x91, 78, 128, 0}, nil, 0, api.ErrLong}, {Put(nil, math.MaxInt), nil, 0, api.ErrLong}, {Put(nil, 1<<32), nil, 0, api.ErrLong}, {Put(nil, 1<<62), nil, 0, api.ErrLong},
		{[]byte{0x90, 78}, nil, 0, api.ErrShort}, {[]byte{1}, nil, 0, api.ErrShort}, {[]byte{2, 1}, nil, 0, api.ErrShort}, {[]byte{2, 1, 128}, nil, 0, api.ErrShort},
		{[]byte{1, 128, 0}, nil, 0, api.ErrForm}, {[]byte{2, 1, 129, 0}, nil, 0, api.ErrForm}, {joined([]byte{1}, high), nil, 0, api.ErrLong}, {joined([]byte{2, 5}, high), nil, 0, api.ErrLong}, {joined([]byte{1}, high[:8]), nil, 0, api.ErrShort},
		// The first of several errors.
		{joined([]byte{3, 128, 0}, high), nil, 0, api.ErrForm}, {joined([]byte{3}, high, []byte{128, 0}), nil, 0, api.ErrLong}, {[]byte{3, 128, 0, 128}, nil, 0, api.ErrForm},
		// An error behind the last element is none.
		{[]byte{1, 5, 128, 0}, []int{5}, 2, api.OK}, {joined([]byte{1, 5}, high), []int{5}, 2, api.OK},
	} {
		checkGetList(t, c.b, c.l, c.size, c.e)
	}
}

func randomList(r *rand.Rand, n int) []int {
	l := make([]int, n)
	for i := range l {
		l[i] = number(r)
	}
	return l
}

func TestListsBack(t *testing.T) {
	r := source()
	lengths := []int{0, 1, 127, 128, 129, 9999, 10000}
	for range 500 {
		lengths = append(lengths, r.IntN(200))
	}
	for _, n := range lengths {
		l := randomList(r, n)
		b := PutList(nil, l)
		if !bytes.Equal(b, listBytes(l)) {
			t.Fatalf("PutList of %.40v: %.40x", l, b)
		}
		checkGetList(t, joined(b, randomBytes(r, r.IntN(12))), l, len(b), api.OK)
		checkGetList(t, b[:len(b)-1], nil, 0, api.ErrShort)
	}
}
