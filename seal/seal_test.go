package seal

import (
	"math"
	"math/big"
	"math/rand/v2"
	"slices"
	"testing"
)

func source() *rand.Rand { return rand.New(rand.NewPCG(4, 7)) }

// edgeNumbers are different numbers: those around each power of two, the least and the greatest ones among them, and those of the chapter.
func edgeNumbers() []uint64 {
	l := []uint64{math.MaxUint64, 0x9e3779b97f4a7c15, 0xbf58476d1ce4e5b9, 0x94d049bb133111eb, 0xe220a8397b1dcdaf}
	for bit := range 64 {
		power := uint64(1) << bit
		l = append(l, power-1, power, power+1, -power, ^power)
	}
	slices.Sort(l)
	return slices.Compact(l)
}

// edgeIDs are different ids: those around 0, the least and the greatest ones, and some between them.
func edgeIDs() []int {
	var l []int
	for _, n := range edgeNumbers() {
		l = append(l, int(n))
	}
	for n := range 300 {
		l = append(l, n, -n)
	}
	slices.Sort(l)
	return slices.Compact(l)
}

// withRandom are the edge numbers, and n random ones of any length.
func withRandom(r *rand.Rand, n int) []uint64 {
	l := edgeNumbers()
	for range n {
		l = append(l, r.Uint64()>>r.IntN(64))
	}
	return l
}

// allDiffer reports whether no number occurs twice.
func allDiffer(l []uint64) bool {
	sorted := slices.Sorted(slices.Values(l))
	return len(slices.Compact(sorted)) == len(l)
}

func exact(x uint64) *big.Int { return new(big.Int).SetUint64(x) }

// modulo is n modulo 2^64, also for a negative n.
func modulo(n *big.Int) uint64 {
	return new(big.Int).Mod(n, new(big.Int).Lsh(big.NewInt(1), 64)).Uint64()
}

// exactMix is Mix by the words of the chapter, with exact numbers: it divides where Mix shifts.
func exactMix(x uint64) uint64 {
	divided := func(x uint64, k uint) uint64 { return x ^ x/(1<<k) }
	times := func(x, y uint64) uint64 { return modulo(new(big.Int).Mul(exact(x), exact(y))) }
	x = times(divided(x, 30), 0xbf58476d1ce4e5b9)
	x = times(divided(x, 27), 0x94d049bb133111eb)
	return divided(x, 31)
}

// exactSum is master + id * 9e3779b97f4a7c15, where a negative id counts as id + 2^64.
func exactSum(master uint64, id int) uint64 {
	n := big.NewInt(int64(id))
	if id < 0 {
		n.Add(n, new(big.Int).Lsh(big.NewInt(1), 64))
	}
	n.Mul(n, exact(0x9e3779b97f4a7c15))
	return modulo(n.Add(n, exact(master)))
}

// inverse is the number by which n, which is odd, is multiplied to 1.
func inverse(n uint64) uint64 {
	return new(big.Int).ModInverse(exact(n), new(big.Int).Lsh(big.NewInt(1), 64)).Uint64()
}

// unmix goes the steps of Mix back.
func unmix(x uint64) uint64 {
	x ^= x>>31 ^ x>>62
	x *= inverse(0x94d049bb133111eb)
	x ^= x>>27 ^ x>>54
	x *= inverse(0xbf58476d1ce4e5b9)
	return x ^ x>>30 ^ x>>60
}

// P4.1
func TestMixExamples(t *testing.T) {
	for _, c := range []struct{ x, want uint64 }{
		{0, 0}, {0x9e3779b97f4a7c15, 0xe220a8397b1dcdaf},
		{1, 0x5692161d100b05e5}, {math.MaxUint64, 0xb4d055fcf2cbbd7b},
	} {
		if got := Mix(c.x); got != c.want {
			t.Errorf("Mix of %x: %x, want %x", c.x, got, c.want)
		}
	}
}

// P4.1
func TestMixIsExact(t *testing.T) {
	for _, x := range withRandom(source(), 20000) {
		if got := Mix(x); got != exactMix(x) || Mix(x) != got {
			t.Fatalf("Mix of %x: %x, want %x", x, got, exactMix(x))
		}
	}
}

// P4.2: the keys of a master key are the numbers of the generator splitmix64 that is started with it.
func TestKeyExamples(t *testing.T) {
	for _, c := range []struct {
		master uint64
		want   []uint64
	}{
		{0, []uint64{0xe220a8397b1dcdaf, 0x6e789e6aa1b965f4, 0x06c45d188009454f, 0xf88bb8a8724c81ec, 0x1b39896a51a8749b}},
		{1234567, []uint64{6457827717110365317, 3203168211198807973, 9817491932198370423, 4593380528125082431, 16408922859458223821}},
	} {
		for i, want := range c.want {
			if got := Key(c.master, i+1); got != want {
				t.Errorf("Key of %d and %d: %x, want %x", c.master, i+1, got, want)
			}
		}
	}
	for _, c := range []struct {
		master uint64
		id     int
		want   uint64
	}{
		{0, 0, 0}, {1, 0, Mix(1)}, {math.MaxUint64, 0, Mix(math.MaxUint64)},
		{0x9e3779b97f4a7c15, 0, 0xe220a8397b1dcdaf}, {0x9e3779b97f4a7c15, -1, 0}, {0x3c6ef372fe94f82a, -1, 0xe220a8397b1dcdaf}, {0, -1, Mix(0x61c8864680b583eb)},
		{0, math.MinInt, Mix(1 << 63)}, {1 << 63, math.MinInt, 0}, {0, math.MaxInt, Mix(0xe1c8864680b583eb)}, {math.MaxUint64, math.MinInt, Mix(math.MaxInt)},
		{0x61c8864680b583eb, 1, 0}, {math.MaxUint64, 1, Mix(0x9e3779b97f4a7c14)},
	} {
		if got := Key(c.master, c.id); got != c.want {
			t.Errorf("Key of %x and %d: %x, want %x", c.master, c.id, got, c.want)
		}
	}
}

// P4.2
func TestKeyIsExact(t *testing.T) {
	for _, master := range []uint64{0, 1, 1 << 63, math.MaxInt, math.MaxUint64, 0x9e3779b97f4a7c15} {
		for _, id := range edgeIDs() {
			if got := Key(master, id); got != exactMix(exactSum(master, id)) {
				t.Fatalf("Key of %x and %d: %x", master, id, got)
			}
		}
	}
	r := source()
	for _, master := range withRandom(r, 5000) {
		for _, id := range []int{0, 1, -1, math.MinInt, math.MaxInt, int(r.Uint64())} {
			if got := Key(master, id); got != exactMix(exactSum(master, id)) {
				t.Fatalf("Key of %x and %d: %x", master, id, got)
			}
		}
	}
}

// P4.5: Mix can be undone, and so each number is the result of exactly one other.
func TestMixIsBijection(t *testing.T) {
	for _, x := range withRandom(source(), 20000) {
		if back := unmix(Mix(x)); back != x {
			t.Fatalf("Mix of %x is also that of %x", x, back)
		}
		if got := Mix(unmix(x)); got != x {
			t.Fatalf("%x is not Mix of %x, but %x", x, unmix(x), got)
		}
	}
}

// P4.5
func TestMixDiffers(t *testing.T) {
	var l []uint64
	for _, x := range edgeNumbers() {
		l = append(l, Mix(x))
	}
	if !allDiffer(l) {
		t.Error("two edge numbers have the same result of Mix")
	}
	l = nil
	for x := range uint64(1 << 16) {
		l = append(l, Mix(x))
	}
	if !allDiffer(l) {
		t.Error("two small numbers have the same result of Mix")
	}
}

// P4.5
func TestKeysDiffer(t *testing.T) {
	for _, master := range edgeNumbers() {
		var l []uint64
		for _, id := range edgeIDs() {
			l = append(l, Key(master, id))
		}
		if !allDiffer(l) {
			t.Fatalf("two ids have the same key of %x", master)
		}
	}
	for _, id := range edgeIDs() {
		var l []uint64
		for _, master := range edgeNumbers() {
			l = append(l, Key(master, id))
		}
		if !allDiffer(l) {
			t.Fatalf("two master keys have the same key %d", id)
		}
	}
}
