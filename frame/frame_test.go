package frame_test

import (
	"bytes"
	"compress/gzip"
	"encoding/binary"
	"hash/crc32"
	"math"
	"slices"
	"strings"
	"sync"
	"testing"
	"time"

	"presswork/api"
	"presswork/frame"
)

// wantGet asks for this head of so many bytes, whose sum is wrong or not.
func wantGet(t *testing.T, b []byte, head api.Head, used int, wrong bool) {
	t.Helper()
	h, u, w, e := frame.Get(b)
	if e != api.OK || !same(h, head) || u != used || w != wrong {
		t.Fatalf("Get(%d: %x) = %s, %d, %v, %v, want %s, %d, %v", len(b), short(b), brief(h), u, w, e, brief(head), used, wrong)
	}
}

// wantNone asks for ErrForm, and nothing beside it.
func wantNone(t *testing.T, b []byte) {
	t.Helper()
	if h, used, wrong, e := frame.Get(b); e != api.ErrForm || !isZero(h) || used != 0 || wrong {
		t.Fatalf("Get(%d: %x) = %s, %d, %v, %v, want ErrForm", len(b), short(b), brief(h), used, wrong, e)
	}
}

// wantNotPut asks that a head may not be: ErrArg, and no bytes beside it.
func wantNotPut(t *testing.T, h api.Head) {
	t.Helper()
	if may(h) {
		t.Fatalf("the test's own words say that %s may be", brief(h))
	}
	if b, e := frame.Put(h); e != api.ErrArg || len(b) != 0 {
		t.Fatalf("Put(%s) = %x, %v, want ErrArg", brief(h), short(b), e)
	}
}

// wantHead asks that a head is put as the chapter says, and got again, whatever stands behind; and answers its bytes.
func wantHead(t *testing.T, h api.Head) []byte {
	t.Helper()
	b, e := frame.Put(h)
	if want := laid(h); e != api.OK || !bytes.Equal(b, want) {
		t.Fatalf("Put(%s) = %d: %x, %v, want %d: %x", brief(h), len(b), short(b), e, len(want), short(want))
	}
	for _, behind := range []string{"", "\x00", "\xff", "\x00\x00\x00", "\x1f\x8b\x08\x00\x00\x00\x00\x00\x00\xff", strings.Repeat("z", 300)} {
		wantGet(t, slices.Concat(b, []byte(behind)), h, len(b), false)
	}
	wantNone(t, b[:len(b)-1])
	return b
}

// wantDefined holds Get against what the chapter's words say of bytes, and tells whether they begin with a head.
func wantDefined(t *testing.T, b []byte) bool {
	t.Helper()
	h, used, wrong, ok := defined(b)
	if ok {
		wantGet(t, b, h, used, wrong)
	} else {
		wantNone(t, b)
	}
	return ok
}

// P11.1, P11.2, P11.3: the chapter's examples.
func TestExamples(t *testing.T) {
	for _, x := range []struct {
		head  api.Head
		bytes string
	}{
		{api.Head{Os: 255}, "\x1f\x8b\x08\x00\x00\x00\x00\x00\x00\xff"},
		{api.Head{Name: "a", Has: 2, Os: 3}, "\x1f\x8b\x08\x08\x00\x00\x00\x00\x00\x03a\x00"},
	} {
		if b, e := frame.Put(x.head); e != api.OK || string(b) != x.bytes {
			t.Errorf("Put(%s) = %x, %v", brief(x.head), b, e)
		}
		wantGet(t, []byte(x.bytes), x.head, len(x.bytes), false)
	}
	wantNone(t, []byte("\x1f\x8b\x08\x20\x00\x00\x00\x00\x00\xff\x00\x00\x00\x00"))
	wantNone(t, []byte("\x1f\x8b\x07\x00\x00\x00\x00\x00\x00\xff\x00\x00\x00\x00"))
	wantNone(t, nil)
	wantNone(t, []byte{})
	if b := frame.Tail([]byte("123456789")); string(b) != "\x26\x39\xf4\xcb\x09\x00\x00\x00" {
		t.Errorf("Tail(123456789) = %x", b)
	}
}

// P11.1, P11.2: a head with all that it can have, written out byte by byte.
func TestByteByByte(t *testing.T) {
	h := api.Head{Text: true, Time: 0x04030201, Xfl: 5, Os: 6, Extra: []byte{0, 7, 0}, Name: "né", Comment: "\xff", Has: 7, Sum: true}
	b := []byte{0x1f, 0x8b, 8, 1 + 2 + 4 + 8 + 16, 1, 2, 3, 4, 5, 6, 3, 0, 0, 7, 0, 'n', 0xc3, 0xa9, 0, 0xff, 0}
	sum := crc32.ChecksumIEEE(b)
	b = append(b, byte(sum), byte(sum>>8))
	if sum>>16 == sum&0xffff || byte(sum) == byte(sum>>8) {
		t.Fatal("a sum that tells nothing")
	}
	if got, e := frame.Put(h); e != api.OK || !bytes.Equal(got, b) {
		t.Fatalf("%x, %v, want %x", got, e, b)
	}
	wantGet(t, b, h, len(b), false)
}

// P11.1, P11.2, P11.4: heads with none, each one, and all of the five flags, in every mixture, whose fields have many bytes, one, or none; and every beginning of theirs.
func TestMixtures(t *testing.T) {
	seen := map[byte]bool{}
	for _, x := range []struct{ extra, name, comment string }{
		{"more\x00bytes", "a name", "a comment"}, {"x", "y", "z"}, {"", "", ""},
		{"", "n", "c"}, {"e", "", "c"}, {"e", "n", ""}, {"\x00", "\xff", "\x01"},
	} {
		eachMixture(x.extra, x.name, x.comment, func(h api.Head) {
			b := wantHead(t, h)
			seen[b[3]] = true
			for n := range b {
				wantNone(t, b[:n])
			}
		})
	}
	if len(seen) != 32 {
		t.Errorf("%d rows of flags, not 32", len(seen))
	}
}

// P11.1, P11.2: how many bytes Extra may have.
func TestExtraSizes(t *testing.T) {
	r := source(1)
	for _, n := range []int{0, 1, 2, 254, 255, 256, 257, 511, 512, 32767, 32768, 65534, 65535} {
		for _, h := range []api.Head{{}, {Sum: true}, {Has: hasName | hasComment, Name: "n", Comment: "c", Sum: true}} {
			h.Has |= hasExtra
			h.Extra = roughBytes(r, n)
			b := wantHead(t, h)
			if int(b[10])+256*int(b[11]) != n {
				t.Errorf("%x %x of %d", b[10], b[11], n)
			}
		}
	}
	for _, n := range []int{65536, 65537, 65536 + 9, 131071, 131072, 1 << 20} {
		for has := range uint8(16) {
			wantNotPut(t, api.Head{Has: has, Extra: make([]byte, n)})
		}
	}
}

// P11.2: an Extra of the most bytes, wherever it is cut.
func TestGreatExtraCut(t *testing.T) {
	b := wantHead(t, api.Head{Has: 3, Extra: roughBytes(source(2), 65535), Name: "n", Sum: true})
	for n := range b {
		wantNone(t, b[:n])
	}
}

// P11.1, P11.2: a field that is there and empty is another head than one that is not there.
func TestThereAndEmpty(t *testing.T) {
	for has, want := range []string{"", "\x00\x00", "\x00", "\x00\x00\x00", "\x00", "\x00\x00\x00", "\x00\x00", "\x00\x00\x00\x00"} {
		for _, extra := range [][]byte{nil, {}} {
			h := api.Head{Has: uint8(has), Extra: extra}
			b := wantHead(t, h)
			if string(b[10:]) != want || int(b[3]) != has*4 {
				t.Errorf("Put(%s) = %x", brief(h), b)
			}
		}
	}
}

// P11.1: a field with bytes that Has lacks.
func TestLacking(t *testing.T) {
	for has := range uint8(8) {
		for _, h := range []api.Head{{Extra: []byte{1}}, {Extra: []byte{0}}, {Extra: make([]byte, 65535)}, {Name: "n"}, {Comment: "c"},
			{Extra: []byte{1}, Name: "n"}, {Extra: []byte{1}, Comment: "c"}, {Name: "n", Comment: "c"}, {Extra: []byte{1}, Name: "n", Comment: "c"}} {
			for _, sum := range []bool{false, true} {
				h.Has, h.Sum, h.Text = has, sum, sum
				if may(h) {
					wantHead(t, h)
				} else {
					wantNotPut(t, h)
				}
			}
		}
	}
	for _, h := range []api.Head{{Extra: []byte{1}, Has: 6}, {Name: "n", Has: 5}, {Comment: "c", Has: 3}} {
		wantNotPut(t, h)
	}
}

// P11.1: a byte 0 in Name or in Comment, at its beginning, in its midst and at its end, whatever Has is.
func TestZeroInText(t *testing.T) {
	for _, bad := range []string{"\x00", "\x00\x00", "\x00text", "te\x00xt", "text\x00", "te\x00x\x00t", strings.Repeat("t", 1000) + "\x00", "é\x00", "\xff\x00"} {
		for has := range uint8(16) {
			wantNotPut(t, api.Head{Has: has, Name: bad})
			wantNotPut(t, api.Head{Has: has, Comment: bad})
			wantNotPut(t, api.Head{Has: has, Name: bad, Comment: bad, Sum: true})
			wantNotPut(t, api.Head{Has: has, Name: "text", Comment: bad, Extra: []byte("text")})
			wantNotPut(t, api.Head{Has: has, Name: bad, Comment: "text", Extra: []byte("text")})
		}
		wantHead(t, api.Head{Has: hasExtra, Extra: []byte(bad)}) // there it may be
	}
}

// P11.1: Has of 8 and above.
func TestHasAbove(t *testing.T) {
	for has := 8; has < 256; has++ {
		wantNotPut(t, api.Head{Has: uint8(has)})
		wantNotPut(t, api.Head{Has: uint8(has), Extra: []byte{1}, Name: "n", Comment: "c", Sum: true, Text: true})
	}
}

// P11.1, P11.2: every byte in Extra, every one but 0 in Name and Comment.
func TestEveryByte(t *testing.T) {
	var all []byte
	for v := range 256 {
		all = append(all, byte(v))
		one := string([]byte{byte(v)})
		wantHead(t, api.Head{Has: hasExtra, Extra: []byte(one), Sum: v%2 == 0})
		if v == 0 {
			continue
		}
		wantHead(t, api.Head{Has: hasName, Name: one, Sum: v%2 == 0})
		wantHead(t, api.Head{Has: hasComment, Comment: one, Sum: v%2 == 0})
	}
	wantHead(t, api.Head{Has: 7, Extra: all, Name: string(all[1:]), Comment: string(all[1:]), Sum: true})
}

// P11.1, P11.2: Name and Comment of many bytes: there is no bound.
func TestLongTexts(t *testing.T) {
	r := source(3)
	for _, n := range []int{255, 256, 511, 512, 513, 65535, 65536, 70000, 1 << 20} {
		text := roughText(r, n)
		wantHead(t, api.Head{Has: hasName, Name: text})
		wantHead(t, api.Head{Has: hasComment, Comment: text, Sum: true})
		wantHead(t, api.Head{Has: hasName | hasComment, Name: text, Comment: text[n/2:], Sum: true})
	}
}

// P11.1, P11.2: Time of 0, 1, each bit, and the greatest number; any Xfl and Os.
func TestNumbers(t *testing.T) {
	times := []uint32{0, 1, 255, 256, 65535, 65536, 1<<24 - 1, 1 << 24, 0x04030201, math.MaxInt32, math.MaxUint32}
	for bit := range 32 {
		times = append(times, 1<<bit, ^uint32(1<<bit))
	}
	for _, v := range times {
		b := wantHead(t, api.Head{Time: v})
		if binary.LittleEndian.Uint32(b[4:8]) != v {
			t.Errorf("%x: %x", v, b)
		}
		wantHead(t, api.Head{Time: v, Sum: true, Text: true, Has: hasName})
	}
	for v := range 256 {
		b := wantHead(t, api.Head{Xfl: uint8(v)})
		if int(b[8]) != v || b[9] != 0 {
			t.Errorf("Xfl %x: %x", v, b)
		}
		b = wantHead(t, api.Head{Os: uint8(v)})
		if int(b[9]) != v || b[8] != 0 {
			t.Errorf("Os %x: %x", v, b)
		}
		wantHead(t, api.Head{Xfl: uint8(v), Os: uint8(255 - v), Sum: true})
	}
}

// P11.2: each of the first three bytes another one, whatever stands behind.
func TestFirstBytes(t *testing.T) {
	for _, h := range []api.Head{{Os: 255}, {Has: 7, Extra: []byte{1}, Name: "n", Comment: "c", Sum: true}} {
		b := append(wantHead(t, h), make([]byte, 20)...)
		for at := range 3 {
			right := b[at]
			for v := range 256 {
				if b[at] = byte(v); b[at] == right {
					continue
				}
				wantNone(t, b)
			}
			b[at] = right
		}
		for _, swapped := range [][]byte{{0x8b, 0x1f, 8}, {0x1f, 8, 0x8b}, {8, 0x8b, 0x1f}} {
			wantNone(t, append(swapped, b[3:]...))
		}
	}
}

// P11.2: each of the flags 32, 64 and 128, alone and beside all others, is none; all others are.
func TestFlags(t *testing.T) {
	heads := 0
	for flags := range 256 {
		b := append([]byte{0x1f, 0x8b, 8, byte(flags), 0, 0, 0, 0, 0, 0}, make([]byte, 40)...)
		if wantDefined(t, b) {
			heads++
		}
		if flags >= 32 {
			wantNone(t, b)
			wantNone(t, b[:10])
		}
	}
	if heads != 32 {
		t.Errorf("%d heads, not 32", heads)
	}
}

// P11.2: a sum that is right, and one that is not, in each of its bits; it plays no part in what else is answered.
func TestSumBits(t *testing.T) {
	for _, x := range []struct{ extra, name, comment string }{{"", "", ""}, {"extra", "name", "comment"}} {
		eachMixture(x.extra, x.name, x.comment, func(h api.Head) {
			b := wantHead(t, h)
			if !h.Sum {
				wantGet(t, append(b, 0, 0), h, len(b), false) // there is none that could be wrong
				return
			}
			for bit := range 16 {
				turned := slices.Clone(b)
				turned[len(b)-2+bit/8] ^= 1 << (bit % 8)
				wantGet(t, turned, h, len(b), true)
				wantGet(t, append(turned, b...), h, len(b), true)
				wantNone(t, turned[:len(b)-1])
			}
		})
	}
}

// P11.2: of all numbers just one is the right sum: the lower 16 bits, and not the upper ones.
func TestEverySum(t *testing.T) {
	for _, h := range []api.Head{{Sum: true, Os: 255}, {Sum: true, Has: 7, Extra: []byte("e"), Name: "n", Comment: "c"}} {
		b := wantHead(t, h)
		begin := b[:len(b)-2]
		right := uint16(crc32.ChecksumIEEE(begin))
		for sum := range 1 << 16 {
			binary.LittleEndian.PutUint16(b[len(begin):], uint16(sum))
			wantGet(t, b, h, len(b), uint16(sum) != right)
		}
	}
}

// P11.2: any bit of a head with a sum is turned: it is what the chapter's words say, and if it is a head of as many bytes, its sum is wrong.
func TestTurnedBits(t *testing.T) {
	r := source(4)
	for range 400 {
		h := roughHead(r, 12)
		h.Sum = true
		b := wantHead(t, h)
		for bit := range 8 * len(b) {
			turned := slices.Concat(b, roughBytes(r, r.IntN(4)))
			turned[bit/8] ^= 1 << (bit % 8)
			if !wantDefined(t, turned) {
				continue
			}
			if g, used, wrong, _ := frame.Get(turned); g.Sum && used == len(b) && !wrong {
				t.Fatalf("Get(%x): the sum is right, as it was before bit %d was turned", turned, bit)
			}
		}
	}
}

// P11.2: a name or a comment that does not end, whatever stands ahead, and an Extra whose length says more than there is.
func TestEndless(t *testing.T) {
	for _, sum := range []byte{0, 2} {
		begin := func(flags byte) []byte { return []byte{0x1f, 0x8b, 8, flags | sum, 0, 0, 0, 0, 0, 0} }
		for _, n := range []int{0, 1, 2, 3, 300, 70000} {
			text := strings.Repeat("t", n)
			wantNone(t, append(begin(8), text...))
			wantNone(t, append(begin(16), text...))
			wantNone(t, append(begin(24), text...))
			wantNone(t, append(begin(24), "name\x00"+text...))
			wantNone(t, append(begin(24), "\x00"+text...))
			wantNone(t, append(begin(12), "\x02\x00\x00\x00"+text...))
			wantNone(t, append(begin(28), "\x02\x00\x00\x00name\x00"+text...))
		}
		for _, n := range []int{1, 2, 255, 256, 257, 65535} {
			b := append(begin(4), byte(n), byte(n>>8))
			for _, there := range []int{0, 1, n / 2, n - 1} {
				if there < n {
					wantNone(t, append(b, make([]byte, there)...))
				}
			}
		}
		wantNone(t, append(begin(4), 0))
		wantNone(t, append(begin(4), 1, 0))
		wantNone(t, append(begin(4), 0, 1, 1)) // 256, and not 0 or 1
	}
}

// P11.2: each count of bytes in Extra, one less than there are, as many, and one more.
func TestEachExtraCount(t *testing.T) {
	zeros := make([]byte, 1<<16)
	b := slices.Concat([]byte{0x1f, 0x8b, 8, 4, 0, 0, 0, 0, 0, 0, 0, 0}, zeros)
	for n := 0; n < 1<<16; n += 1 + n/40 {
		b[10], b[11] = byte(n), byte(n>>8)
		h := api.Head{Has: hasExtra, Extra: zeros[:n]}
		wantGet(t, b, h, 12+n, false)
		wantGet(t, b[:12+n], h, 12+n, false)
		wantNone(t, b[:12+n-1])
	}
}

// P11.4: many heads are put and got, whatever stands behind; without their last byte they are none.
func TestManyHeads(t *testing.T) {
	r := source(5)
	for i := range 4000 {
		h := roughHead(r, []int{0, 1, 3, 20, 600}[i%5])
		b := wantHead(t, h)
		wantGet(t, slices.Concat(b, roughBytes(r, r.IntN(50))), h, len(b), false)
		wantNone(t, b[:r.IntN(len(b))])
	}
}

// P11.4: a head behind a head: each is got by itself.
func TestHeadBehindHead(t *testing.T) {
	r := source(6)
	for range 300 {
		var heads []api.Head
		var b []byte
		for range 5 {
			heads = append(heads, roughHead(r, 9))
			one, _ := frame.Put(heads[len(heads)-1])
			b = append(b, one...)
		}
		for _, want := range heads {
			h, used, wrong, e := frame.Get(b)
			if e != api.OK || wrong || !same(h, want) {
				t.Fatalf("Get(%x) = %s, %v, %v, want %s", short(b), brief(h), wrong, e, brief(want))
			}
			b = b[used:]
		}
		if len(b) != 0 {
			t.Fatalf("%x is left", short(b))
		}
	}
}

// P11.1: rough heads, most of which may not be, by the chapter's words.
func TestRoughHeads(t *testing.T) {
	r := source(7)
	good := 0
	for range 20000 {
		h := roughHead(r, 3)
		switch r.IntN(5) {
		case 0:
			h.Has = uint8(r.IntN(256))
		case 1:
			h.Has ^= uint8(1) << r.IntN(8)
		case 2:
			h.Name = string(roughBytes(r, r.IntN(3)))
		case 3:
			h.Comment += string([]byte{byte(r.IntN(3))})
		case 4:
			h.Extra = make([]byte, r.IntN(2)*(65530+r.IntN(10)))
		}
		if may(h) {
			good++
			wantHead(t, h)
		} else {
			wantNotPut(t, h)
		}
	}
	if good < 2000 || good > 18000 {
		t.Errorf("%d of 20000 heads may be", good)
	}
}

// P11.2, R1: rough bytes, most of which begin as a head does, are what a plain reader says of them.
func TestRoughBytes(t *testing.T) {
	r := source(8)
	heads, wrongs := 0, 0
	for i := range 60000 {
		b := roughBytes(r, r.IntN(60))
		for j := range b { // few counts are great, and texts end
			if r.IntN(3) == 0 {
				b[j] = byte(r.IntN(4))
			}
		}
		if i%8 != 0 {
			copy(b, []byte{0x1f, 0x8b, 8, byte(r.IntN(36))})
		}
		if !wantDefined(t, b) {
			continue
		}
		heads++
		if _, used, wrong, _ := frame.Get(b); wrong {
			wrongs++
			h, _, _, _ := frame.Get(b)
			put, e := frame.Put(h)
			if e != api.OK || len(put) != used || !bytes.Equal(put[:used-2], b[:used-2]) || bytes.Equal(put, b[:used]) {
				t.Fatalf("Put(%s) = %x, %v, of %x", brief(h), put, e, b[:used])
			}
		}
	}
	if heads < 10000 || wrongs < 3000 {
		t.Errorf("%d heads, %d with another sum", heads, wrongs)
	}
}

// P11.2: all rows of up to 4 bytes out of a few behind the first ten, with each row of flags.
func TestFewBytes(t *testing.T) {
	alphabet := []byte{0, 1, 2, 0xff}
	var each func(b []byte, more int)
	each = func(b []byte, more int) {
		wantDefined(t, b)
		if more == 0 {
			return
		}
		for _, v := range alphabet {
			each(append(slices.Clone(b), v), more-1)
		}
	}
	for flags := range 33 {
		each([]byte{0x1f, 0x8b, 8, byte(flags), 0, 0, 0, 0, 0, 0xff}, 4)
	}
}

// texts are bytes of members: none, few, and more than any block or window has.
func texts() [][]byte {
	r := source(9)
	l := [][]byte{nil, {}, {0}, {0xff}, []byte("a"), []byte("123456789"), make([]byte, 100)}
	for _, n := range []int{2, 3, 4, 255, 256, 257, 32768, 65535, 65536, 65537, 100001, 1 << 20} {
		l = append(l, roughBytes(r, n), bytes.Repeat([]byte("ab"), n)[:n])
	}
	return l
}

// P11.3: tails, and what ends as they say.
func TestTails(t *testing.T) {
	for _, b := range texts() {
		want := binary.LittleEndian.AppendUint32(nil, crc32.ChecksumIEEE(b))
		want = binary.LittleEndian.AppendUint32(want, uint32(len(b)))
		tail := frame.Tail(b)
		if !bytes.Equal(tail, want) {
			t.Errorf("Tail(%d: %x) = %x, want %x", len(b), short(b), tail, want)
		}
		if !frame.Ends(b, want) {
			t.Errorf("Ends(%d: %x, %x) is false", len(b), short(b), want)
		}
	}
	if tail := frame.Tail(nil); !bytes.Equal(tail, make([]byte, 8)) {
		t.Errorf("Tail(none) = %x", tail)
	}
	if tail := frame.Tail([]byte("a")); string(tail) != "\x43\xbe\xb7\xe8\x01\x00\x00\x00" {
		t.Errorf("Tail(a) = %x", tail)
	}
}

// P11.3: a tail with any bit turned, one that is too short or too long, and none are none.
func TestOtherTails(t *testing.T) {
	for _, b := range texts() {
		if len(b) > 1<<17 {
			continue
		}
		tail := frame.Tail(b)
		wantNot := func(other []byte) {
			t.Helper()
			if frame.Ends(b, other) {
				t.Fatalf("Ends(%d: %x, %x)", len(b), short(b), other)
			}
		}
		for bit := range 8 * len(tail) {
			turned := slices.Clone(tail)
			turned[bit/8] ^= 1 << (bit % 8)
			wantNot(turned)
		}
		for n := range tail {
			wantNot(tail[:n])
			if n > 0 {
				wantNot(tail[n:])
			}
		}
		wantNot(nil)
		wantNot([]byte{})
		wantNot(append(slices.Clone(tail), 0))
		wantNot(append([]byte{0}, tail...))
		wantNot(slices.Concat(tail, tail))
		wantNot(frame.Tail(append(slices.Clone(b), 0)))
		if len(b) > 0 {
			wantNot(frame.Tail(b[1:]))
			wantNot(slices.Concat(tail[4:], tail[:4]))
		}
	}
}

// P11.3: of tails that say the same count, or the same sum, the other number is asked for, too.
func TestTailHalves(t *testing.T) {
	one, other := []byte("one"), []byte("two")
	mixed := slices.Concat(frame.Tail(one)[:4], frame.Tail([]byte("three"))[4:])
	if frame.Ends(one, frame.Tail(other)) || frame.Ends(one, mixed) || !frame.Ends(one, frame.Tail(one)) {
		t.Error("a tail of other bytes")
	}
}

// P11.1, P11.3: heads and tails around a stream are a file that others read, with the same fields. (The library tells of names in another writing, and stamps of no time.)
func TestReadByOthers(t *testing.T) {
	r := source(10)
	for range 200 {
		h := roughHead(r, 100)
		h.Name, h.Comment = ascii(h.Name), ascii(h.Comment)
		text := []byte("abababababc")[:r.IntN(12)]
		n := byte(len(text))
		head, _ := frame.Put(h)
		file := slices.Concat(head, []byte{1, n, 0, ^n, 0xff}, text, frame.Tail(text))
		z, err := gzip.NewReader(bytes.NewReader(file))
		if err != nil {
			t.Fatalf("%x: %v", short(file), err)
		}
		var said bytes.Buffer
		if _, err := said.ReadFrom(z); err != nil || !bytes.Equal(said.Bytes(), text) {
			t.Fatalf("%x: %x, %v", short(file), said.Bytes(), err)
		}
		if z.Name != h.Name || z.Comment != h.Comment || !bytes.Equal(z.Extra, h.Extra) || z.OS != h.Os || h.Time != 0 && z.ModTime.Unix() != int64(h.Time) {
			t.Fatalf("%+q, want %s", z.Header, brief(h))
		}
	}
}

// ascii is a text in which each byte is one below 128.
func ascii(s string) string {
	b := []byte(s)
	for i := range b {
		b[i] = 'a' + b[i]%26
	}
	return string(b)
}

// P11.2, P11.3: heads and tails that others write are read.
func TestWrittenByOthers(t *testing.T) {
	r := source(11)
	for range 200 {
		h := roughHead(r, 100)
		h.Name, h.Comment = ascii(h.Name), ascii(h.Comment)
		h.Text, h.Sum, h.Has, h.Xfl = false, false, 0, 0
		var b bytes.Buffer
		z := gzip.NewWriter(&b)
		z.OS, z.ModTime = h.Os, time.Unix(int64(h.Time), 0)
		if len(h.Extra) > 0 {
			h.Has, z.Extra = h.Has|hasExtra, h.Extra
		}
		if h.Name != "" {
			h.Has, z.Name = h.Has|hasName, h.Name
		}
		if h.Comment != "" {
			h.Has, z.Comment = h.Has|hasComment, h.Comment
		}
		z.Flush()
		used := b.Len() - 5 // an empty block that is not the last one: what a flush lays
		text := roughBytes(r, r.IntN(300))
		z.Write(text)
		z.Close()
		file := b.Bytes()
		wantGet(t, file, h, used, false)
		if !frame.Ends(text, file[len(file)-8:]) {
			t.Fatalf("Ends(%x, %x)", text, file[len(file)-8:])
		}
	}
}

// R3: a head that is handed in is neither changed, with the room behind its Extra's end, nor kept; its bytes are new memory.
func TestPutMemory(t *testing.T) {
	room := []byte("extra and more")
	h := api.Head{Has: 7, Extra: room[:5], Name: "n", Comment: "c", Sum: true}
	first, _ := frame.Put(h)
	second, _ := frame.Put(h)
	want := laid(h)
	if string(room) != "extra and more" {
		t.Fatalf("%s", room)
	}
	clear(room)
	for i := range first[:cap(first)] {
		first[:cap(first)][i] = 77
	}
	if string(room) != strings.Repeat("\x00", len(room)) {
		t.Fatal("an answer shares memory with what was handed in")
	}
	if !bytes.Equal(second, want) {
		t.Fatalf("%x, want %x: it hangs on what was handed in, or on another answer", second, want)
	}
}

// R3: bytes that are handed in are neither changed, with the room behind their end, which plays no part, nor kept; what is handed out is new memory.
func TestGetMemory(t *testing.T) {
	r := source(12)
	for range 300 {
		want := roughHead(r, 30)
		b := laid(want)
		room := slices.Concat(b, []byte{9, 8, 7})
		before := slices.Clone(room)
		first, _, _, _ := frame.Get(room[:len(b)])
		second, _, _, _ := frame.Get(room[:len(b)])
		for n := range b { // the missing bytes are there, behind the end
			wantNone(t, room[:n])
		}
		if !bytes.Equal(room, before) {
			t.Fatalf("%x became %x", before, room)
		}
		clear(room)
		if !same(first, want) {
			t.Fatalf("%s, want %s: it hangs on what was handed in", brief(first), brief(want))
		}
		all := first.Extra[:cap(first.Extra)]
		for i := range all {
			all[i] = 77
		}
		if !same(second, want) || !bytes.Equal(room, make([]byte, len(room))) {
			t.Fatal("an answer shares memory")
		}
	}
}

// R3: what is handed to Tail and Ends is neither changed nor kept; a tail is new memory.
func TestTailMemory(t *testing.T) {
	room := []byte("bytes and more")
	tailRoom := append(frame.Tail(room[:5]), 1, 2, 3)
	before := slices.Clone(tailRoom)
	first, second := frame.Tail(room[:5]), frame.Tail(room[:5])
	if !frame.Ends(room[:5], tailRoom[:8]) || frame.Ends(room[:5], tailRoom[:9]) || frame.Ends(room[:5], tailRoom[:7]) {
		t.Error("Ends of a tail with room behind it")
	}
	if string(room) != "bytes and more" || !bytes.Equal(tailRoom, before) {
		t.Fatalf("%s, %x", room, tailRoom)
	}
	for i := range first[:cap(first)] {
		first[:cap(first)][i] = 77
	}
	clear(room)
	if !bytes.Equal(second, before[:8]) || !bytes.Equal(frame.Tail([]byte("bytes")), before[:8]) {
		t.Fatalf("%x, want %x", second, before[:8])
	}
}

// R2: the same arguments have the same answer again, whatever was asked between, from many goroutines at once.
func TestSameAgain(t *testing.T) {
	r := source(13)
	var heads []api.Head
	for range 100 {
		heads = append(heads, roughHead(r, 50))
	}
	bad := api.Head{Has: hasName, Name: "\x00"}
	var g sync.WaitGroup
	for range 8 {
		g.Go(func() {
			for _, want := range slices.Backward(slices.Concat(heads, heads)) {
				b, e := frame.Put(want)
				if e != api.OK || !bytes.Equal(b, laid(want)) {
					t.Errorf("Put(%s) = %x, %v", brief(want), short(b), e)
				}
				h, used, wrong, e := frame.Get(b)
				if e != api.OK || wrong || used != len(b) || !same(h, want) {
					t.Errorf("Get(%x) = %s, %d, %v, %v", short(b), brief(h), used, wrong, e)
				}
				if _, _, _, e := frame.Get(b[:len(b)-1]); e != api.ErrForm {
					t.Error(e)
				}
				if _, e := frame.Put(bad); e != api.ErrArg {
					t.Error(e)
				}
				if !frame.Ends(b, frame.Tail(b)) || frame.Ends(b[1:], frame.Tail(b)) {
					t.Errorf("the tail of %x", short(b))
				}
			}
		})
	}
	g.Wait()
}
