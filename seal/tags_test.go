package seal

import (
	"bytes"
	"math"
	"math/big"
	"math/rand/v2"
	"slices"
	"testing"
)

var golden = []byte{0x15, 0x7c, 0x4a, 0x7f, 0xb9, 0x79, 0x37, 0x9e}

func joined(parts ...[]byte) []byte { return bytes.Join(parts, nil) }

func zeros(n int) []byte { return make([]byte, n) }

func full(n int) []byte { return bytes.Repeat([]byte{255}, n) }

// edgeStrings are strings of the lengths around those at which a block ends: of zeros, of 255, with one byte that is not 0, and of different bytes.
func edgeStrings() [][]byte {
	l := [][]byte{nil, {}, golden}
	for n := range 34 {
		mixed, first, last := zeros(n), zeros(n), zeros(n)
		for i := range mixed {
			mixed[i] = byte(37*i + 201)
		}
		if n > 0 {
			first[0], last[n-1] = 1, 128
		}
		l = append(l, zeros(n), full(n), mixed, first, last)
	}
	return l
}

func edgeKeys() []uint64 {
	return []uint64{0, 1, 2, 1 << 63, math.MaxInt, math.MaxUint64 - 1, math.MaxUint64, 0x9e3779b97f4a7c15, 0x8badf00ddeadbeef}
}

// randomBytes returns n bytes, among which the edges are frequent.
func randomBytes(r *rand.Rand, n int) []byte {
	b := zeros(n)
	for i := range b {
		if b[i] = byte(r.Uint32()); r.IntN(3) == 0 {
			b[i] = []byte{0, 1, 127, 128, 255}[r.IntN(5)]
		}
	}
	return b
}

// exactTag is Tag by the words of the chapter: it fills up the string, and reads its blocks from the last byte to the first one.
func exactTag(key uint64, b []byte) uint64 {
	filled := bytes.Clone(b)
	for len(filled)%8 != 0 {
		filled = append(filled, 0)
	}
	h := exactMix(key)
	for i := 0; i < len(filled); i += 8 {
		block := bytes.Clone(filled[i : i+8])
		slices.Reverse(block)
		h = exactMix(h ^ new(big.Int).SetBytes(block).Uint64())
	}
	return exactMix(h ^ uint64(len(b)))
}

// checkTag compares Tag, Check and Chain with the words of the chapter, and checks that they neither change b and the room behind it, nor look at that room.
func checkTag(t *testing.T, key uint64, b []byte) {
	t.Helper()
	want := exactTag(key, b)
	for _, behind := range [][]byte{nil, zeros(8), full(9)} {
		whole := joined(b, behind)
		before := bytes.Clone(whole)
		part := whole[:len(b)]
		if got, again := Tag(key, part), Tag(key, part); got != want || again != want {
			t.Fatalf("Tag of %x and %.60x: %x, then %x, want %x", key, b, got, again, want)
		}
		if got := Chain(key, part); got != want {
			t.Fatalf("Chain of %x and %.60x: %x, want %x", key, b, got, want)
		}
		if !Check(key, part, want) || Check(key, part, want+1) || Check(key, part, ^want) {
			t.Fatalf("Check of %x and %.60x", key, b)
		}
		if !bytes.Equal(whole, before) {
			t.Fatalf("%x was changed to %x", before, whole)
		}
	}
}

// P4.3
func TestTagExamples(t *testing.T) {
	const of1 = 0xe220a8397b1dcdaf // Mix of the block golden
	for _, c := range []struct {
		key  uint64
		b    []byte
		want uint64
	}{
		{0, nil, 0}, {0, []byte{}, 0}, {1, nil, Mix(Mix(1))}, {math.MaxUint64, nil, Mix(Mix(math.MaxUint64))}, {0x9e3779b97f4a7c15, nil, Mix(of1)},
		{0, golden, Mix(0xe220a8397b1dcda7)}, {0, joined(golden, []byte{3}), Mix(Mix(of1^3) ^ 9)}, {0, joined(golden, []byte{0}), Mix(Mix(of1) ^ 9)}, {0, joined(golden, golden), Mix(Mix(of1^0x9e3779b97f4a7c15) ^ 16)},
		{0, []byte{0}, Mix(1)}, {0, []byte{1}, Mix(Mix(1) ^ 1)}, {0, []byte{1, 0}, Mix(Mix(1) ^ 2)}, {0, []byte{0, 1}, Mix(Mix(256) ^ 2)}, {0, []byte{255}, Mix(Mix(255) ^ 1)},
		{0, []byte{1, 2, 3, 4, 5, 6, 7}, Mix(Mix(0x07060504030201) ^ 7)}, {0, []byte{1, 2, 3, 4, 5, 6, 7, 8}, Mix(Mix(0x0807060504030201) ^ 8)}, {0, []byte{1, 2, 3, 4, 5, 6, 7, 8, 9}, Mix(Mix(Mix(0x0807060504030201)^9) ^ 9)},
		{0, zeros(7), Mix(7)}, {0, zeros(8), Mix(8)}, {0, zeros(9), Mix(9)}, {0, zeros(24), Mix(24)},
		{0, full(7), Mix(Mix(1<<56-1) ^ 7)}, {0, full(8), Mix(Mix(math.MaxUint64) ^ 8)}, {0, full(9), Mix(Mix(Mix(math.MaxUint64)^255) ^ 9)},
		{5, []byte{1}, Mix(Mix(Mix(5)^1) ^ 1)}, {0x9e3779b97f4a7c15, zeros(1), Mix(Mix(of1) ^ 1)},
	} {
		if got := Tag(c.key, c.b); got != c.want {
			t.Errorf("Tag of %x and %x: %x, want %x", c.key, c.b, got, c.want)
		}
	}
}

// P4.3 and P4.4
func TestTagIsExact(t *testing.T) {
	for _, b := range edgeStrings() {
		for _, key := range edgeKeys() {
			checkTag(t, key, b)
		}
	}
	r := source()
	for range 5000 {
		checkTag(t, r.Uint64(), randomBytes(r, r.IntN(60)))
	}
	for i := range 256 {
		checkTag(t, 7, []byte{byte(i)})
	}
	for n := 99990; n < 100010; n++ {
		checkTag(t, r.Uint64(), randomBytes(r, n))
	}
}

// P4.3: each byte stands at its own place of its block.
func TestTagOfEachBit(t *testing.T) {
	for i := range 64 {
		b := zeros(8)
		b[i/8] = 1 << (i % 8)
		if got, want := Tag(0, b), Mix(Mix(1<<i)^8); got != want {
			t.Errorf("Tag of bit %d: %x, want %x", i, got, want)
		}
	}
}

// P4.3
func TestCheckWrongTags(t *testing.T) {
	if !Check(0, nil, 0) || Check(0, nil, 1) || Check(0, nil, math.MaxUint64) || Check(1, nil, 0) || Check(0, []byte{0}, 0) {
		t.Error("Check of nothing")
	}
	for _, b := range edgeStrings() {
		for _, key := range edgeKeys() {
			tag := Tag(key, b)
			if !Check(key, b, tag) {
				t.Fatalf("Check of %x and %x rejects its tag", key, b)
			}
			for i := range 64 {
				if Check(key, b, tag^1<<i) {
					t.Fatalf("Check of %x and %x accepts a tag with the bit %d changed", key, b, i)
				}
			}
			for _, wrong := range []uint64{tag - 1, tag + 1, -tag, key, Tag(key+1, b), Tag(key, joined(b, []byte{9}))} {
				if wrong != tag && Check(key, b, wrong) {
					t.Fatalf("Check of %x and %x accepts %x for %x", key, b, wrong, tag)
				}
			}
		}
	}
}

// links are the tags of a chain of strings, from the first one on.
func links(prev uint64, strings ...[]byte) []uint64 {
	var l []uint64
	for _, b := range strings {
		prev = Chain(prev, b)
		l = append(l, prev)
	}
	return l
}

// P4.4
func TestChainExamples(t *testing.T) {
	for _, b := range edgeStrings() {
		for _, prev := range edgeKeys() {
			if got := Chain(prev, b); got != Tag(prev, b) {
				t.Fatalf("Chain of %x and %x: %x", prev, b, got)
			}
		}
	}
	a, b, c := []byte("up"), []byte("at the top"), []byte("down")
	got := links(12, a, nil, b, c)
	want := []uint64{exactTag(12, a), 0, 0, 0}
	for i, s := range [][]byte{nil, b, c} {
		want[i+1] = exactTag(want[i], s)
	}
	if !slices.Equal(got, want) {
		t.Errorf("a chain has the tags %x, want %x", got, want)
	}
}

// P4.4, P4.5 and P4.6: a change of one block of one string changes the tags from there on.
func TestChainShowsChanges(t *testing.T) {
	strings := [][]byte{[]byte("up"), []byte("at the top"), zeros(8), []byte("down"), full(17)}
	before := links(3, strings...)
	for i, s := range strings {
		for k := range s {
			changed := slices.Clone(strings)
			changed[i] = bytes.Clone(s)
			changed[i][k]++
			after := links(3, changed...)
			for n := range after {
				if (after[n] == before[n]) != (n < i) {
					t.Fatalf("byte %d of string %d was changed: tag %d is %x, was %x", k, i, n, after[n], before[n])
				}
			}
		}
	}
	for n, tag := range links(4, strings...) {
		if tag == before[n] {
			t.Errorf("tag %d does not depend on the first key", n)
		}
	}
	strings[0], strings[1] = strings[1], strings[0]
	if last := len(strings) - 1; links(3, strings...)[last] == before[last] {
		t.Error("the tag does not depend on the order")
	}
}

// P4.5
func TestTagsOfKeysDiffer(t *testing.T) {
	for _, b := range edgeStrings() {
		var l []uint64
		for _, key := range edgeNumbers() {
			l = append(l, Tag(key, b))
		}
		if !allDiffer(l) {
			t.Fatalf("two keys have the same tag of %x", b)
		}
	}
}

// P4.6: whatever stands at one place of a string, the tags are different.
func TestTagsOfBytesDiffer(t *testing.T) {
	for _, b := range edgeStrings() {
		changed := bytes.Clone(b)
		for i := range b {
			var l []uint64
			for c := range 256 {
				changed[i] = byte(c)
				l = append(l, Tag(11, changed))
			}
			if changed[i] = b[i]; !allDiffer(l) {
				t.Fatalf("two strings that differ from %x in the byte %d alone have the same tag", b, i)
			}
		}
	}
}

// P4.6
func TestTagsOfBlocksDiffer(t *testing.T) {
	r := source()
	for range 5000 {
		b := randomBytes(r, 1+r.IntN(40))
		start := r.IntN(len(b)) / 8 * 8
		inside := b[start:min(start+8, len(b))]
		key, before := r.Uint64(), bytes.Clone(b)
		tag := Tag(key, b)
		for _, change := range []func(){
			func() { copy(inside, randomBytes(r, len(inside))) },
			func() { r.Shuffle(len(inside), func(i, k int) { inside[i], inside[k] = inside[k], inside[i] }) },
			func() { slices.Reverse(inside) },
			func() { inside[r.IntN(len(inside))]++; inside[r.IntN(len(inside))]-- },
			func() { inside[0]++; inside[len(inside)-1] ^= 128 },
			func() { clear(inside) },
		} {
			change()
			if (Tag(key, b) == tag) != bytes.Equal(b, before) {
				t.Fatalf("Tag of %x and %x: %x; that of %x is %x", key, before, tag, b, Tag(key, b))
			}
			copy(b, before)
		}
	}
}

// P4.6: the zero bytes with which the last block is filled up change the tag if they are in the string.
func TestTagsOfZerosDiffer(t *testing.T) {
	for _, b := range edgeStrings() {
		for _, key := range edgeKeys() {
			l := []uint64{Tag(key, b)}
			for longer := b; len(longer)%8 != 0; l = append(l, Tag(key, longer)) {
				longer = joined(longer, zeros(1))
			}
			if !allDiffer(l) {
				t.Fatalf("%x has the same tag with zero bytes behind it", b)
			}
			for n := 1; n < 8; n++ {
				checkTag(t, key, joined(b, zeros(n)))
			}
		}
	}
	if Tag(5, []byte{1}) == Tag(5, []byte{1, 0}) {
		t.Error("the strings 01 and 01 00 have the same tag")
	}
}
