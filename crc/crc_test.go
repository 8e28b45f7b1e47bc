package crc_test

import (
	"bytes"
	"hash/crc32"
	"math/bits"
	"sync"
	"testing"

	"presswork/crc"
)

// kind is one of both sums, with what the chapter's own definition of it needs.
type kind struct {
	name string
	sum  func(b []byte) uint32
	// bit is the bit at a place of a byte, as this sum takes them: 0 is the first.
	bit func(v byte, place int) uint32
	// step takes a bit into the register.
	step func(reg, bit uint32) uint32
}

func low() kind {
	return kind{
		"Low", crc.Low,
		func(v byte, place int) uint32 { return uint32(v>>place) & 1 },
		func(reg, bit uint32) uint32 {
			out := reg&1 ^ bit
			reg >>= 1
			if out == 1 {
				reg ^= 0xedb88320
			}
			return reg
		},
	}
}

func high() kind {
	return kind{
		"High", crc.High,
		func(v byte, place int) uint32 { return uint32(v>>(7-place)) & 1 },
		func(reg, bit uint32) uint32 {
			out := reg>>31 ^ bit
			reg <<= 1
			if out == 1 {
				reg ^= 0x04c11db7
			}
			return reg
		},
	}
}

func kinds() []kind { return []kind{low(), high()} }

// defined is the sum by the chapter's definition, bit by bit.
func (k kind) defined(b []byte) uint32 {
	reg := uint32(0xffffffff)
	for _, v := range b {
		for place := range 8 {
			reg = k.step(reg, k.bit(v, place))
		}
	}
	return ^reg
}

// turned is a copy of b in which bits are turned, those of pattern from a place on, the lowest one first.
func (k kind) turned(b []byte, at int, pattern uint32) []byte {
	out := bytes.Clone(b)
	for i := range 32 {
		if pattern>>i&1 == 0 {
			continue
		}
		for mask := 1; mask < 256; mask <<= 1 {
			if k.bit(byte(mask), (at+i)%8) == 1 {
				out[(at+i)/8] ^= byte(mask)
			}
		}
	}
	return out
}

func (k kind) want(t *testing.T, b []byte, sum uint32) {
	t.Helper()
	if got := k.sum(b); got != sum {
		t.Errorf("%s(%x) = %08x, want %08x", k.name, b, got, sum)
	}
}

// wantOther asks for another sum, and the defined one, of b with some bits turned.
func (k kind) wantOther(t *testing.T, b []byte, at int, pattern uint32) {
	t.Helper()
	other := k.turned(b, at, pattern)
	if bytes.Equal(b, other) {
		t.Fatalf("nothing is turned at %d by %x", at, pattern)
	}
	if k.sum(b) == k.sum(other) {
		t.Errorf("%s(%x) = %s(%x)", k.name, b, k.name, other)
	}
	k.want(t, other, k.defined(other))
}

// rough is a row of numbers that look rough, the same in each run.
type rough uint64

func (r *rough) next(below int) int {
	*r = *r*6364136223846793005 + 1442695040888963407
	return int(uint64(*r>>33) % uint64(below))
}

func (r *rough) word() uint32 { return uint32(r.next(1<<31))<<1 | uint32(r.next(2)) }

func (r *rough) bytes(size int) []byte {
	b := make([]byte, size)
	for i := range b {
		b[i] = byte(r.next(256))
	}
	return b
}

// samples are rows of bytes of many sizes: like ones, and rough ones.
func samples() [][]byte {
	seed := rough(1)
	var l [][]byte
	for size := range 70 {
		for _, v := range []byte{0, 1, 0x80, 0xff} {
			l = append(l, bytes.Repeat([]byte{v}, size))
		}
		for range 4 {
			l = append(l, seed.bytes(size))
		}
	}
	return append(l, seed.bytes(255), seed.bytes(256), seed.bytes(257), seed.bytes(70001))
}

// P3.1: the chapter's examples.
func TestSumExamples(t *testing.T) {
	low().want(t, []byte("123456789"), 0xcbf43926)
	high().want(t, []byte("123456789"), 0xfc891918)
	for _, k := range kinds() {
		k.want(t, nil, 0)
		k.want(t, []byte{}, 0)
		k.want(t, make([]byte, 0, 8), 0)
	}
}

// P3.1: sums that are known from elsewhere: those that the formats' own files hold.
func TestSumKnown(t *testing.T) {
	for _, x := range []struct {
		text      string
		low, high uint32
	}{
		{"a", 0xe8b7be43, 0x19939b6b},
		{"\x00", 0xd202ef8d, 0xb1f7404b},
		{"\xff", 0xff000000, 0x000000ff},
		{"\x00\x00\x00\x00", 0x2144df1c, 0x38fb2284},
		{"\xff\xff\xff\xff", 0xffffffff, 0xffffffff},
	} {
		low().want(t, []byte(x.text), x.low)
		high().want(t, []byte(x.text), x.high)
	}
}

// P3.1: one byte of each value, alone and within others.
func TestSumEachByte(t *testing.T) {
	for _, k := range kinds() {
		for v := range 256 {
			for _, b := range [][]byte{{byte(v)}, {byte(v), 0}, {0xff, byte(v)}, {1, 2, byte(v), 4, 5}} {
				k.want(t, b, k.defined(b))
			}
		}
	}
}

// P3.1: two bytes of all values.
func TestSumEachPair(t *testing.T) {
	for _, k := range kinds() {
		seen := map[uint32]bool{}
		for v := range 1 << 16 {
			b := []byte{byte(v), byte(v >> 8)}
			k.want(t, b, k.defined(b))
			seen[k.sum(b)] = true
		}
		if len(seen) != 1<<16 {
			t.Errorf("%s: %d sums of two bytes", k.name, len(seen))
		}
	}
}

// P3.1: the sums are those of the definition, of each size up to some, whether or not it is a multiple of 4.
func TestSumDefined(t *testing.T) {
	for _, b := range samples() {
		for _, k := range kinds() {
			k.want(t, b, k.defined(b))
		}
	}
}

// P3.1: the low sum is the library's.
func TestLowOfLibrary(t *testing.T) {
	for _, b := range samples() {
		low().want(t, b, crc32.ChecksumIEEE(b))
	}
	seed := rough(2)
	b := seed.bytes(1<<20 + 3)
	if got, want := crc.Low(b), crc32.ChecksumIEEE(b); got != want {
		t.Errorf("Low of 2^20 + 3 bytes = %08x, want %08x", got, want)
	}
}

// P3.2: the chapter's example, and the ends of both arguments.
func TestFoldEdges(t *testing.T) {
	for _, x := range []struct{ all, one, want uint32 }{
		{0x80000001, 1, 2},
		{0, 0, 0},
		{1, 0, 2},
		{0, 1, 1},
		{0x80000000, 0, 1},
		{0x80000000, 1, 0},
		{0, 0x80000000, 0x80000000},
		{0x40000000, 0, 0x80000000},
		{0x40000000, 0x80000000, 0},
		{0x80000000, 0x80000000, 0x80000001},
		{1, 1, 3},
		{0xffffffff, 0, 0xffffffff},
		{0xffffffff, 0xffffffff, 0},
		{0xffffffff, 1, 0xfffffffe},
		{0x7fffffff, 1, 0xffffffff},
		{0x12345678, 0x9abcdef0, 0xbed47200},
	} {
		if got := crc.Fold(x.all, x.one); got != x.want {
			t.Errorf("Fold(%08x, %08x) = %08x, want %08x", x.all, x.one, got, x.want)
		}
	}
}

// P3.2: each bit of all goes to its place, each bit of one stays, and they are added without carry.
func TestFoldEachBit(t *testing.T) {
	for i := range 32 {
		moved := uint32(1) << ((i + 1) % 32)
		if got := crc.Fold(1<<i, 0); got != moved {
			t.Errorf("Fold(bit %d, 0) = %08x, want %08x", i, got, moved)
		}
		for j := range 32 {
			one := uint32(1) << j
			if got := crc.Fold(1<<i, one); got != moved^one {
				t.Errorf("Fold(bit %d, bit %d) = %08x, want %08x", i, j, got, moved^one)
			}
		}
	}
}

// P3.2: rough numbers, bit by bit.
func TestFoldRough(t *testing.T) {
	seed := rough(3)
	for range 2000 {
		all, one := seed.word(), seed.word()
		want := uint32(0)
		for i := range 32 {
			want |= (all>>((i+31)%32)&1 ^ one>>i&1) << i
		}
		if got := crc.Fold(all, one); got != want {
			t.Errorf("Fold(%08x, %08x) = %08x, want %08x", all, one, got, want)
		}
	}
}

// P3.3: one bit turned, at each place, is another sum, and no two places have the same.
func TestOneBitTurned(t *testing.T) {
	for _, k := range kinds() {
		for _, b := range [][]byte{{0}, {0xff}, []byte("abc"), []byte("123456789"), bytes.Repeat([]byte{0}, 67)} {
			seen := map[uint32]int{k.sum(b): -1}
			for at := range 8 * len(b) {
				k.wantOther(t, b, at, 1)
				sum := k.sum(k.turned(b, at, 1))
				if other, ok := seen[sum]; ok {
					t.Errorf("%s of %x: bits %d and %d turned: the same sum", k.name, b, other, at)
				}
				seen[sum] = at
			}
		}
	}
}

// P3.3: all bits turned of each count up to 32, and the first and the last of them alone, at each place.
func TestBitsInARowTurned(t *testing.T) {
	seed := rough(4)
	for _, k := range kinds() {
		for size := 1; size <= 21; size += 4 {
			b := seed.bytes(size)
			for count := 2; count <= min(32, 8*size); count++ {
				all := uint32(uint64(1)<<count - 1)
				for at := 0; at+count <= 8*size; at++ {
					k.wantOther(t, b, at, all)
					k.wantOther(t, b, at, 1|1<<(count-1))
				}
			}
		}
	}
}

// P3.3: rough bits turned within 32 one behind the other: at the beginning, within, and at the end.
func TestRoughBitsTurned(t *testing.T) {
	seed := rough(5)
	for _, k := range kinds() {
		for range 3000 {
			b := seed.bytes(4 + seed.next(40))
			last := 8*len(b) - 32
			for _, at := range []int{0, seed.next(last + 1), last} {
				pattern := seed.word()
				if pattern == 0 {
					continue
				}
				k.wantOther(t, b, at, pattern)
			}
		}
		// Both sums' numbers, which one bit more ahead of them would hide.
		b := seed.bytes(11)
		for at := range 8*len(b) - 31 {
			k.wantOther(t, b, at, 0xedb88320)
			k.wantOther(t, b, at, 0x04c11db7)
		}
	}
}

// rank is how many of these numbers are no sum, without carry, of the others.
func rank(l []uint32) int {
	var basis [32]uint32
	count := 0
	for _, v := range l {
		for v != 0 {
			top := bits.Len32(v) - 1
			if basis[top] == 0 {
				basis[top] = v
				count++
				break
			}
			v ^= basis[top]
		}
	}
	return count
}

// P3.3: what each of 32 bits one behind the other changes is no sum, without carry, of what others of them change: so no choice of them changes nothing.
func TestNoChoiceOfBitsIsHidden(t *testing.T) {
	seed := rough(6)
	for _, k := range kinds() {
		b := seed.bytes(45)
		for at := range 8*len(b) - 31 {
			var changes []uint32
			for i := range 32 {
				changes = append(changes, k.sum(b)^k.sum(k.turned(b, at, 1<<i)))
			}
			if got := rank(changes); got != 32 {
				t.Errorf("%s: the 32 bits from %d on: rank %d", k.name, at, got)
			}
			pattern, want := seed.word(), k.sum(b)
			for i, change := range changes {
				if pattern>>i&1 == 1 {
					want ^= change
				}
			}
			k.want(t, k.turned(b, at, pattern), want)
		}
	}
}

// P3.1: by the definition, 33 bits one behind the other can be turned unseen. (So the 32 of P3.3 are counted in the right order here.)
func TestThirtyThreeBitsHide(t *testing.T) {
	b := []byte("presswork")
	for _, k := range kinds() {
		// The bit that leaves the register comes first, and behind it the number's bits in the order in which they would leave.
		number := uint32(0xedb88320)
		for at := range 8*len(b) - 32 {
			other := k.turned(k.turned(b, at, 1), at+1, number)
			if k.sum(b) != k.sum(other) {
				t.Errorf("%s: the number at %d is seen", k.name, at)
			}
			k.want(t, other, k.defined(other))
		}
	}
}

// P3.3: the high sum is the low one of the bytes that each are turned round, turned round; and the other way.
func TestTurnedRound(t *testing.T) {
	for _, b := range samples() {
		round := make([]byte, len(b))
		for i, v := range b {
			round[i] = bits.Reverse8(v)
		}
		if got, want := crc.High(b), bits.Reverse32(crc.Low(round)); got != want {
			t.Errorf("High(%x) = %08x, of the low sum %08x", b, got, want)
		}
		if got, want := crc.Low(b), bits.Reverse32(crc.High(round)); got != want {
			t.Errorf("Low(%x) = %08x, of the high sum %08x", b, got, want)
		}
	}
}

// R3: bytes are not changed, with the room behind their end, which plays no part, and not kept.
func TestBytesStay(t *testing.T) {
	for _, k := range kinds() {
		room := []byte("123456789 and room behind")
		b := room[:9]
		first := k.sum(b)
		if string(room) != "123456789 and room behind" {
			t.Errorf("%s changed its bytes: %q", k.name, room)
		}
		copy(room[9:], "\xff\xff\xff\xff\xff")
		k.want(t, b, first)
		clear(b)
		k.want(t, []byte("123456789"), first)
		k.want(t, b, k.defined(make([]byte, 9)))
	}
}

// R2: the same bytes have the same sum again, whatever was asked between.
func TestSameAgain(t *testing.T) {
	l := samples()[:200]
	var sums []uint32
	for _, b := range l {
		sums = append(sums, crc.Low(b), crc.High(b))
	}
	for i := len(l) - 1; i >= 0; i-- {
		high().want(t, l[i], sums[2*i+1])
		crc.Fold(sums[2*i], sums[2*i+1])
		low().want(t, l[i], sums[2*i])
	}
}

// R2: calls at the same time do not know of one another.
func TestAtTheSameTime(t *testing.T) {
	var all sync.WaitGroup
	for i := range 16 {
		all.Go(func() {
			seed := rough(i)
			for range 50 {
				b := seed.bytes(seed.next(100))
				for _, k := range kinds() {
					k.want(t, b, k.defined(b))
				}
			}
		})
	}
	all.Wait()
}
